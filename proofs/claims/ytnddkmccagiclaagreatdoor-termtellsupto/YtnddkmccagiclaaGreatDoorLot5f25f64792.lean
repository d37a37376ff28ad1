/-
  What the call of check's readAll answers, if read answers as it should at each part.
-/
import Derived.Test.YtnddkmccagiclaaGreatDoorLotf30eea48d8
import Derived.Test.YtnddkmccagiclaaGreatDoorLotfd21d846ae
import Derived.Deep.LoopGhost
import Derived.Deep.AppendLies
import Derived.Deep.RegionHeld3
import Derived.Test.YtnddkmccagiclaaGreatDoorLot383c3897c4
namespace Go.Proofs.YtnddkmccagiclaaGreatDoor
open Go.RowKit

theorem Tryz.info71 : (Tryz.prog.info? 71).map (fun i => (i.zero, i.size, i.bytes)) = some (some (.agg #[.int .i64 0, .int .i64 0, .int .i64 0, .int .i64 0, .slice none 0 0, .int .i64 0, .slice none 0 0, .slice none 0 0, .int .i64 0, .slice none 0 0]), 10, 144) := by kernel_rfl

/-- While the parts are read. -/
structure RaInv (Q : Nat → Prop) (R : Nat) (x : TT) (c : Nat) (T : Tr) (w : World) (j : Nat) (v : Value) (rs : List Rd) (wr : World) : Prop where
  kp : Kept R none w wr
  row : RowR Q w.heap.size v rs wr
  len : rs.length = j
  nn : ∀ r, r ∈ rs → 0 ≤ r.n
  rd : readL ((x.l.take j).map TT.tm) (T.l.map Tr.ty) c = some (rs.map tri)
  cs : CS R (c + ((x.l.take j).map TT.sz).sum) wr

theorem sz_map (l : List TT) : (l.map TT.tm).map Tm.sz = l.map TT.sz := by
  rw [List.map_map]
  exact List.map_congr_left fun x _ => x.sz_tm.symm

theorem take_snoc {α : Type} (l : List α) (j : Nat) (h : j < l.length) : l.take (j + 1) = l.take j ++ [l[j]] := by
  rw [List.take_add_one, List.getElem?_eq_getElem h]
  rfl

set_option maxRecDepth 20000 in
set_option maxHeartbeats 8000000 in
theorem readAll_any (Q : Nat → Prop) (R : Nat) (x : TT) (c : Nat) (T : Tr) (w : World)
    (HRD : ∀ y, y ∈ x.l → ∀ (Q' : Nat → Prop) (c' : Nat) (W : World), RdPre Q' R y c' T W → Calls Tryz.prog 34 #[.pointer (some ⟨R, 0, none⟩), .agg #[.int .i64 y.k, .int .i64 y.n, .int .i64 y.t.k, .slice y.t.a y.t.l.length y.t.c, .int .i64 y.f.k, .slice y.f.a y.f.l.length y.f.c, .slice y.a y.l.length y.c], .slice T.a T.l.length T.c] W (RdPost Q' R y c' (T.l.map Tr.ty) W))
    (hok : ∀ y, y ∈ x.l → okTm y.tm T.l.length) (htk : ∀ t, t ∈ T.l → goodT 4 t = true) (hrm : c + (x.l.map TT.sz).sum ≤ 900 ∧ T.l.length + (x.l.map TT.sz).sum ≤ 900) (xi : x.In w) (ti : T.In w) (hcs : CS R c w) (xb : x.Bl Q) (tb : T.Bl Q) (nw : ∀ b, w.heap.size ≤ b → Q b) (ne : ∀ b, Q b → b ≠ R) :
    Calls Tryz.prog 64 #[.pointer (some ⟨R, 0, none⟩), .slice x.a x.l.length x.c, .slice T.a T.l.length T.c] w (RaPost Q R x.l c (T.l.map Tr.ty) w) := by
  obtain ⟨i0, hi0, hz0, hz1, hz2⟩ := info_parts Tryz.info71
  have hxl : x.l.length ≤ 1000 := by
    have : x.l.length ≤ (x.l.map TT.sz).sum := by
      have : ∀ l : List TT, l.length ≤ (l.map TT.sz).sum := fun l => by
        induction l with
        | nil => simp
        | cons u r ih => have := u.sz_pos; simp only [List.length_cons, List.map_cons, List.sum_cons]; omega
      exact this _
    omega
  have hRl : R < w.heap.size := hcs.lt
  have HP : Hid ((∀ y, y ∈ x.l → okTm y.tm T.l.length) ∧ (∀ t, t ∈ T.l → goodT 4 t = true) ∧ (c + (x.l.map TT.sz).sum ≤ 900 ∧ T.l.length + (x.l.map TT.sz).sum ≤ 900) ∧ x.Bl Q ∧ T.Bl Q ∧ (∀ b, w.heap.size ≤ b → Q b) ∧ (∀ b, Q b → b ≠ R)) := ⟨hok, htk, hrm, xb, tb, nw, ne⟩
  have HX : Hid (x.In w ∧ T.In w) := ⟨xi, ti⟩
  have HRD' : Hid (∀ y, y ∈ x.l → ∀ (Q' : Nat → Prop) (c' : Nat) (W : World), RdPre Q' R y c' T W → Calls Tryz.prog 34 #[.pointer (some ⟨R, 0, none⟩), .agg #[.int .i64 y.k, .int .i64 y.n, .int .i64 y.t.k, .slice y.t.a y.t.l.length y.t.c, .int .i64 y.f.k, .slice y.f.a y.f.l.length y.f.c, .slice y.a y.l.length y.c], .slice T.a T.l.length T.c] W (RdPost Q' R y c' (T.l.map Tr.ty) W)) := HRD
  have HL0 : Hid (RaInv Q R x c T w 0 (.slice none 0 0) [] w) := ⟨Kept.refl, RowR.nil _ _ _, rfl, fun r h => (by cases h), by simp [readL], by simpa using hcs⟩
  clear hok htk hrm xi ti hcs xb tb nw ne HRD
  go_enter Tryz.func64, Tryz.ntmps64
  go_wp2_with fail
  go_loopg [8, 15] x.l.length (fun g v i wr => ∃ (j : Nat) (u : Value) (rs : List Rd), g + j = x.l.length ∧ i = .int .i64 (j : Int) ∧ u = v ∧ Hid (RaInv Q R x c T w j u rs wr))
  case atStart => exact ⟨0, _, [], by omega, rfl, rfl, HL0⟩
  case round =>
    obtain ⟨j, v, rs, hj, rfl, hv, HQ⟩ := hrel
    subst hv
    clear HL0
    by_cases hlt : j < x.l.length
    · obtain ⟨b, o, ea, h7, hyi0⟩ := HX.out.1.part j hlt
      have hk := HQ.out.kp
      have hbR : b ≠ R := HP.out.2.2.2.2.2.2 b (HP.out.2.2.2.1.own (fun e => by rw [e] at hlt; simp at hlt) _ ea)
      have h7' := h7.keptR hk hbR
      have hym : x.l[j] ∈ x.l := List.getElem_mem hlt
      obtain ⟨y, hye⟩ : ∃ y, x.l[j] = y := ⟨_, rfl⟩
      have hyb := HP.out.2.2.2.1.mem hym
      have hyi : y.In wr := by rw [← hye]; exact hyi0.keptR hk (hyb.mono HP.out.2.2.2.2.2.2)
      have hTi : T.In wr := HX.out.2.keptR hk (HP.out.2.2.2.2.1.mono HP.out.2.2.2.2.2.2)
      have hyl : y.Bl (· < w.heap.size) := by rw [← hye]; exact hyi0.bl
      have hTl : T.Bl (· < w.heap.size) := HX.out.2.bl
      rw [hye] at h7' hym hyb
      obtain ⟨d0, d1, d2, d3, d4, d5, d6⟩ := h7'
      have i1 : (j : Int) < (x.l.length : Int) := by omega
      have i0' : (0 : Int) ≤ (j : Int) := by omega
      have HEA : Hid (x.a = some ⟨b, o, none⟩) := ea
      rw [ea]
      obtain ⟨OX, hOX⟩ : ∃ O, O = Obj.cells #[.int .i64 y.k, .int .i64 y.n, .int .i64 y.t.k, .slice y.t.a y.t.l.length y.t.c, .int .i64 y.f.k, .slice y.f.a y.f.l.length y.f.c, .slice y.a y.l.length y.c] 27 := ⟨_, rfl⟩
      have hbA : Below wr.heap.size wr (wr.alloc OX) := (Below.refl _ _).alloc (Nat.le_refl _) _
      have hsz : ((x.l.take (j + 1)).map TT.sz).sum = ((x.l.take j).map TT.sz).sum + y.sz := by
        rw [take_snoc _ _ hlt, hye]
        simp
      have hszl : ((x.l.take (j + 1)).map TT.sz).sum ≤ (x.l.map TT.sz).sum := sum_take_le TT.sz x.l (j + 1)
      have hws : w.heap.size ≤ wr.heap.size := hk.size
      have hrow := HQ.out.row
      have HC : Hid (Calls Tryz.prog 34 #[.pointer (some ⟨R, 0, none⟩), .agg #[.int .i64 y.k, .int .i64 y.n, .int .i64 y.t.k, .slice y.t.a y.t.l.length y.t.c, .int .i64 y.f.k, .slice y.f.a y.f.l.length y.f.c, .slice y.a y.l.length y.c], .slice T.a T.l.length T.c] (wr.alloc OX) (RdPost (fun b => Q b ∧ some b ≠ v.ownBlock) R y (c + ((x.l.take j).map TT.sz).sum) (T.l.map Tr.ty) (wr.alloc OX))) := by
        refine HRD'.out y hym _ _ _ ⟨HP.out.1 y hym, HP.out.2.1, ⟨by have := HP.out.2.2.1; omega, by have := HP.out.2.2.1; omega⟩, hyi.below hbA, hTi.below hbA, HQ.out.cs.below hbA, ?_, ?_, ?_, fun b hb => HP.out.2.2.2.2.2.2 b hb.1⟩
        · exact (hyb.and hyl).mono fun b hb => ⟨hb.1, fun e => by have := (hrow.lt b e.symm).1; omega⟩
        · exact (HP.out.2.2.2.2.1.and hTl).mono fun b hb => ⟨hb.1, fun e => by have := (hrow.lt b e.symm).1; omega⟩
        · intro b hb
          simp only [World.size_alloc] at hb
          exact ⟨HP.out.2.2.2.2.2.1 b (by omega), fun e => by have := (hrow.lt b e.symm).2; omega⟩
      have HQA : Hid (Kept R none w (wr.alloc OX) ∧ RowR Q w.heap.size v rs (wr.alloc OX) ∧ rs.length = j ∧ (∀ r, r ∈ rs → 0 ≤ r.n) ∧ readL ((x.l.take j).map TT.tm) (T.l.map Tr.ty) c = some (rs.map tri)) := ⟨hk.trans (Kept.of_below hbA), hrow.below hbA, HQ.out.len, HQ.out.nn, HQ.out.rd⟩
      have HY : Hid (x.l[j] = y ∧ ((x.l.take (j + 1)).map TT.sz).sum = ((x.l.take j).map TT.sz).sum + y.sz) := ⟨hye, hsz⟩
      have hvs : rs.length ≤ 1000 := by have := HQ.out.len; omega
      clear h7 hyi0 hk hbR hym hyb hyi hTi hyl hTl hbA hsz hszl hws hrow HQ ea hye
      subst hOX
      go_wp2_with fail
      clear d0 d1 d2 d3 d4 d5 d6
      refine HC.out.mono ?_
      rintro e w2 ⟨hk2, ⟨hno, rfl⟩ | ⟨r, hyes, rfl, hn, hyi, hii, hyb, hib, hcs⟩⟩
      · have HN : Hid (RaPost Q R x.l c (T.l.map Tr.ty) w (.returned (.tuple #[.slice none 0 0, .bool false])) (w2.alloc (.cells #[.int .i64 0, .int .i64 0, .int .i64 0, .int .i64 0, .slice none 0 0, .int .i64 0, .slice none 0 0, .slice none 0 0, .int .i64 0, .slice none 0 0] 71))) := by
          refine ⟨(HQA.out.1.trans hk2).trans (Kept.of_below ((Below.refl _ _).alloc (Nat.le_refl _) _)), .inl ⟨?_, rfl⟩⟩
          have hsplit : x.l.map TT.tm = (x.l.take j).map TT.tm ++ y.tm :: (x.l.drop (j + 1)).map TT.tm := by
            conv => lhs; rw [← List.take_append_drop j x.l]
            rw [List.map_append, List.drop_eq_getElem_cons hlt, List.map_cons, HY.out.1]
          rw [hsplit]
          refine readL_stop ?_
          rw [sz_map]
          exact hno
        clear hno hk2 HC HQA
        go_wp2_with fail
        exact bodyPost_ret (v := .tuple #[.slice none 0 0, .bool false]) (by simp [results, Tryz.results64, go_sem]) rfl HN.out
      · obtain ⟨OR, hOR⟩ : ∃ O, O = Obj.cells #[.int .i64 r.n, .int .i64 r.y.k, .int .i64 r.y.n, .int .i64 r.y.t.k, .slice r.y.t.a r.y.t.l.length r.y.t.c, .int .i64 r.y.f.k, .slice r.y.f.a r.y.f.l.length r.y.f.c, .slice r.y.a r.y.l.length r.y.c, .int .i64 r.i.k, .slice r.i.a r.i.l.length r.i.c] 71 := ⟨_, rfl⟩
        have hbR : Below w2.heap.size w2 (w2.alloc OR) := (Below.refl _ _).alloc (Nat.le_refl _) _
        have hrow2 : RowR Q w.heap.size v rs (w2.alloc OR) := (HQA.out.2.1.kept hk2 hRl HP.out.2.2.2.2.2.2).below hbR
        obtain ⟨N, hN⟩ : ∃ N, rs.length = N := ⟨_, rfl⟩
        obtain ⟨xs, hxs⟩ : ∃ xs, cells10 rs = xs := ⟨_, rfl⟩
        have uo : (w2.alloc OR).ownsRow w.heap.size 71 10 v N xs := by rw [← hN, ← hxs]; exact hrow2.own
        have hnew := heap_alloc_new (w2.alloc OR) OR
        simp only [World.size_alloc] at hnew
        have HW : Hid (Kept R none w (w2.alloc OR) ∧ RowR Q w.heap.size v rs (w2.alloc OR) ∧ r.y.In (w2.alloc OR) ∧ r.i.In (w2.alloc OR) ∧ CS R (c + ((x.l.take j).map TT.sz).sum + y.sz) (w2.alloc OR)) := ⟨(HQA.out.1.trans hk2).trans (Kept.of_below hbR), hrow2, hyi.below hbR, hii.below hbR, hcs.below hbR⟩
        have HB : Hid (r.y.Bl (fun b => Q b ∧ some b ≠ v.ownBlock) ∧ r.i.Bl (fun b => Q b ∧ some b ≠ v.ownBlock) ∧ r.n = ((c + ((x.l.take j).map TT.sz).sum : Nat) : Int) ∧ readS y.tm (T.l.map Tr.ty) (c + ((x.l.take j).map TT.sz).sum) = some (r.y.tm, r.i.ty)) := ⟨hyb, hib, hn, hyes⟩
        have HNX : Hid (rs.length = N ∧ cells10 rs = xs) := ⟨hN, hxs⟩
        have hNb : N ≤ 1000 := by omega
        have hw2 : w.heap.size ≤ w2.heap.size := by have h1 := HQA.out.1.size; have h2 := hk2.size; omega
        clear hyes hn hyi hii hyb hib hcs hk2 HC hbR hrow2 hN hxs
        subst hOR
        go_wp2_with (at_builtin; refine wpList_append_lies _ rfl _ _ _ rfl w.heap.size 71 i0 _ 10 144 Tryz.underlying111 hi0 hz0 hz1 hz2 rfl (by omega) v N xs rfl (uo.alloc _) ⟨w2.heap.size + 1, 0, none⟩ 1 1 [.int .i64 r.n, .int .i64 r.y.k, .int .i64 r.y.n, .int .i64 r.y.t.k, .slice r.y.t.a r.y.t.l.length r.y.t.c, .int .i64 r.y.f.k, .slice r.y.f.a r.y.f.l.length r.y.f.c, .slice r.y.a r.y.l.length r.y.c, .int .i64 r.i.k, .slice r.i.a r.i.l.length r.i.c] rfl rfl (World.news_of_block (cs := #[.int .i64 r.n, .int .i64 r.y.k, .int .i64 r.y.n, .int .i64 r.y.t.k, .slice r.y.t.a r.y.t.l.length r.y.t.c, .int .i64 r.y.f.k, .slice r.y.f.a r.y.f.l.length r.y.f.c, .slice r.y.a r.y.l.length r.y.c, .int .i64 r.i.k, .slice r.i.a r.i.l.length r.i.c]) (t := 71) (fr := (0, 0)) hnew) (by simp [Value.oneCell']) (by omega) (by unfold maxLen; omega) (by omega) (by simp; omega) (w2.heap.size + 1 + 1) (by simp) ?_; intro gg cap1 w3 hown1 hgrow hat hlt3)
        have hov : ∀ q, v.ownBlock = some q → w.heap.size ≤ q := fun q hq => (uo.lt q hq).1
        obtain ⟨OR, hOR⟩ : ∃ O, O = Obj.cells #[.int .i64 r.n, .int .i64 r.y.k, .int .i64 r.y.n, .int .i64 r.y.t.k, .slice r.y.t.a r.y.t.l.length r.y.t.c, .int .i64 r.y.f.k, .slice r.y.f.a r.y.f.l.length r.y.f.c, .slice r.y.a r.y.l.length r.y.c, .int .i64 r.i.k, .slice r.i.a r.i.l.length r.i.c] 71 := ⟨_, rfl⟩
        rw [← hOR] at hgrow HW
        have HN : Hid (RaInv Q R x c T w (j + 1) (.slice (some ⟨gg, 0, none⟩) (N + 1) cap1) (rs ++ [r]) w3) := by
          obtain ⟨hkw, hrw, hyw, hiw, hcw⟩ := HW.out
          obtain ⟨eN, exs⟩ := HNX.out
          have hst := hrw.step (gg := gg) (cap1 := cap1) (w3 := w3) (X := OR) hyw hiw HB.out.1 HB.out.2.1 (by rw [eN, exs, cells10_one]; exact hown1) hgrow (by simpa using hat)
          have hR2 : R < (w2.alloc OR).heap.size := hcw.lt
          have hRv : some R ≠ v.ownBlock := fun e => by have := hov R e.symm; omega
          have hs := hgrow.size
          simp only [World.size_alloc] at hs hR2
          have hk3 : Kept R none w w3 := by
            refine ⟨(hgrow.os.trans rfl).trans hkw.os, (hgrow.tape.trans rfl).trans hkw.tape, (hgrow.output.trans rfl).trans hkw.output, by omega, fun q hq hqR hq2 => ?_⟩
            exact (hst.2 q (by simp; omega) (fun e => by have := hov q e.symm; omega)).trans (hkw.block q hq hqR hq2)
          have hc3 : CS R (c + ((x.l.take j).map TT.sz).sum + y.sz) w3 :=
            ⟨(World.cell?_of_block (a := ⟨R, 0, none⟩) (hst.2 R (by simp; omega) hRv)).trans hcw.c, (World.frozen?_of_block (a := ⟨R, 0, none⟩) (hst.2 R (by simp; omega) hRv)).trans hcw.f⟩
          have hst1 := hst.1
          rw [eN] at hst1
          refine ⟨hk3, hst1, by rw [List.length_append, HQA.out.2.2.1]; rfl, fun q hq => ?_, ?_, ?_⟩
          · rcases List.mem_append.1 hq with hq | hq
            · exact HQA.out.2.2.2.1 q hq
            · rcases List.mem_singleton.1 hq with rfl
              rw [HB.out.2.2.1]; omega
          · rw [take_snoc _ _ hlt, HY.out.1, List.map_append, List.map_append]
            have := readL_snoc HQA.out.2.2.2.2 (by rw [sz_map]; exact HB.out.2.2.2)
            rw [sz_map] at this
            have e : tri r = (c + ((x.l.take j).map TT.sz).sum, r.y.tm, r.i.ty) := by
              unfold tri
              rw [HB.out.2.2.1]
              rfl
            simpa [e] using this
          · rw [HY.out.2, ← Nat.add_assoc]
            exact hc3
        clear hown1 hgrow hat hlt3 hov HW uo hnew hOR HB HQA HNX
        go_wp2_with fail
        rw [← HEA.out]
        go_roundg (x.l.length - (j + 1))
        case measure => omega
        case rel => exact ⟨j + 1, _, rs ++ [r], by omega, by go_num, rfl, HN⟩
    · have hje : j = x.l.length := by omega
      have HN : Hid (∃ a cap, v = .slice a rs.length cap ∧ RaPost Q R x.l c (T.l.map Tr.ty) w (.returned (.tuple #[v, .bool true])) wr) := by
        obtain ⟨a, cap, hv, hrl⟩ := HQ.out.row.list
        refine ⟨a, cap, hv, HQ.out.kp, .inr ⟨rs, a, cap, ?_, by rw [hv], HQ.out.nn, hrl, fun r hr => ⟨(HQ.out.row.ins r hr).2.2.1.mono fun b hb => hb.1, (HQ.out.row.ins r hr).2.2.2.mono fun b hb => hb.1⟩, ?_⟩⟩
        · have := HQ.out.rd
          rwa [List.take_of_length_le (by omega)] at this
        · have := HQ.out.cs
          rwa [List.take_of_length_le (by omega)] at this
      obtain ⟨a, cap, rfl, hpost⟩ := HN.out
      have HF : Hid (RaPost Q R x.l c (T.l.map Tr.ty) w (.returned (.tuple #[.slice a rs.length cap, .bool true])) wr) := hpost
      clear HQ HN hpost
      go_wp2_with fail
      exact bodyPost_ret (v := .tuple #[.slice a rs.length cap, .bool true]) (by simp [results, Tryz.results64, go_sem]) rfl HF.out
end Go.Proofs.YtnddkmccagiclaaGreatDoor

/-
  What the call of check's cast answers where something is cast.
-/
namespace Go.Proofs.YtnddkmccagiclaaGreatDoor
open Go.RowKit

set_option maxRecDepth 20000 in
set_option maxHeartbeats 4000000 in
theorem cast_diff (r : Rd) (u : Tr) (w : World) (hu : u.In w) (hi : r.i.In w) (hy : r.y.In w) (hh : r.i.hgt ≤ 1000) (hs : r.i.sm) (ri : r.i.right) (ru : u.right) (hhu : u.hgt ≤ 1000) (hr : relY escSame r.i.ty u.ty = false) :
    Calls Tryz.prog 106 #[.agg #[.int .i64 r.n, .int .i64 r.y.k, .int .i64 r.y.n, .int .i64 r.y.t.k, .slice r.y.t.a r.y.t.l.length r.y.t.c, .int .i64 r.y.f.k, .slice r.y.f.a r.y.f.l.length r.y.f.c, .slice r.y.a r.y.l.length r.y.c, .int .i64 r.i.k, .slice r.i.a r.i.l.length r.i.c], .agg #[.int .i64 u.k, .slice u.a u.l.length u.c]] w (CPost r u w) := by
  obtain ⟨hc, hb⟩ := cb_start r u w hu hi hy
  obtain ⟨W0, hW0⟩ : ∃ W0, W0 = ((w.alloc (Obj.cells #[.int .i64 r.n, .int .i64 r.y.k, .int .i64 r.y.n, .int .i64 r.y.t.k, .slice r.y.t.a r.y.t.l.length r.y.t.c, .int .i64 r.y.f.k, .slice r.y.f.a r.y.f.l.length r.y.f.c, .slice r.y.a r.y.l.length r.y.c, .int .i64 r.i.k, .slice r.i.a r.i.l.length r.i.c] 71)).alloc (Obj.cells #[.int .i64 u.k, .slice u.a u.l.length u.c] 24)).alloc (Obj.cells #[.int .i64 0, .int .i64 0, .int .i64 0, .slice none 0 0, .int .i64 0, .slice none 0 0, .slice none 0 0] 27) := ⟨_, rfl⟩
  rw [← hW0] at hc hb
  have HS : Hid (Calls Tryz.prog 48 #[.agg #[.int .i64 r.i.k, .slice r.i.a r.i.l.length r.i.c], .agg #[.int .i64 u.k, .slice u.a u.l.length u.c]] W0 fun e w' => e = .returned (.bool false) ∧ Below W0.heap.size W0 w') := by
    have := same_whole r.i u W0 hc.ii hc.iu hh hs
    rw [hr] at this
    exact this
  have HB : Hid (CB w.heap.size r u W0 ∧ Below w.heap.size w W0) := ⟨hc, hb⟩
  have HR : Hid (relY escSame r.i.ty u.ty = false) := hr
  have HY : Hid (r.y.Bl (· < w.heap.size)) := hy.bl
  have HC : Hid (∀ (Wc W' : World) (q : Tr), CB w.heap.size r u Wc → Below w.heap.size w Wc → (W' = Wc ∨ ∃ X, W' = Wc.alloc X) → (q = u ∨ q = r.i) → Calls Tryz.prog 35 #[.agg #[.int .i64 q.k, .slice q.a q.l.length q.c]] W' fun e w1 => ∃ t : Tr, e = .returned (.agg #[.int .i64 t.k, .slice t.a t.l.length t.c]) ∧ t.ty = q.ty ∧ t.In w1 ∧ t.Bl (w.heap.size + 1 + 1 < ·) ∧ CB w.heap.size r u w1 ∧ Below w.heap.size w w1 ∧ Below W'.heap.size W' w1 ∧ Below Wc.heap.size Wc w1) := by
    intro Wc W' q h1 h2 h3 h4
    have h5 : Below Wc.heap.size Wc W' := by
      rcases h3 with rfl | ⟨X, rfl⟩
      · exact Below.refl _ _
      · exact (Below.refl _ _).alloc (Nat.le_refl _) _
    have h6 := h1.below h5
    have lz : w.heap.size + 1 + 1 < W'.heap.size := World.block_lt_of_cell? _ _ h6.z0
    have hq : q.In W' ∧ q.right ∧ q.hgt ≤ 1000 := by
      rcases h4 with rfl | rfl
      · exact ⟨h6.iu, ru, hhu⟩
      · exact ⟨h6.ii, ri, hh⟩
    refine (fresh_any q W' hq.1 hq.2.1 hq.2.2).mono ?_
    rintro e w1 ⟨t, rfl, ht, hin, hbl, hb1⟩
    exact ⟨t, rfl, ht, hin, hbl.mono fun b hb => by omega, h6.below hb1, (h2.trans (h5.mono h2.size)).trans (hb1.mono (by omega)), hb1, h5.trans (hb1.mono h5.size)⟩
  clear hc hb hu hi hy hh hs hr ri ru hhu
  go_enter Tryz.func106, Tryz.ntmps106
  go_wp2_with fail
  rw [← hW0]
  clear hW0
  refine HS.out.mono ?_
  rintro e w1 ⟨rfl, h1⟩
  have hcd : CB w.heap.size r u w1.drew := HB.out.1.below h1.drew
  have HCD : Hid (CB w.heap.size r u w1.drew ∧ Below w.heap.size w w1.drew) := ⟨hcd, (HB.out.2.trans (h1.mono HB.out.2.size)).drew⟩
  have HK : Hid (∀ w', CB w.heap.size r u w' → w'.cell? ⟨w.heap.size, 0, none⟩ = some (.int .i64 r.n) ∧ w'.cell? ⟨w.heap.size, 1, none⟩ = some (.int .i64 r.y.k) ∧ w'.cell? ⟨w.heap.size, 2, none⟩ = some (.int .i64 r.y.n) ∧ w'.cell? ⟨w.heap.size, 3, none⟩ = some (.int .i64 r.y.t.k) ∧ w'.cell? ⟨w.heap.size, 4, none⟩ = some (.slice r.y.t.a r.y.t.l.length r.y.t.c) ∧ w'.cell? ⟨w.heap.size, 5, none⟩ = some (.int .i64 r.y.f.k) ∧ w'.cell? ⟨w.heap.size, 6, none⟩ = some (.slice r.y.f.a r.y.f.l.length r.y.f.c) ∧ w'.cell? ⟨w.heap.size, 7, none⟩ = some (.slice r.y.a r.y.l.length r.y.c) ∧ w'.cell? ⟨w.heap.size, 8, none⟩ = some (.int .i64 r.i.k) ∧ w'.cell? ⟨w.heap.size, 9, none⟩ = some (.slice r.i.a r.i.l.length r.i.c) ∧ w'.cell? ⟨w.heap.size + 1, 0, none⟩ = some (.int .i64 u.k) ∧ w'.cell? ⟨w.heap.size + 1, 1, none⟩ = some (.slice u.a u.l.length u.c)) := fun w' h => ⟨h.p0, h.p1, h.p2, h.p3, h.p4, h.p5, h.p6, h.p7, h.p8, h.p9, h.u0, h.u1⟩
  have HKX : Hid (∀ w' X, CB w.heap.size r u w' → CB w.heap.size r u (w'.alloc X)) := fun w' X h => h.below ((Below.refl _ _).alloc (Nat.le_refl _) X)
  have HL : Hid (w.heap.size + 1 + 1 < w1.heap.size ∧ w.heap.size + 1 + 1 < w1.drew.heap.size) := by
    have h : w.heap.size + 1 + 1 < w1.drew.heap.size := World.block_lt_of_cell? _ _ HCD.out.1.z0
    exact ⟨h, h⟩
  have HKD : Hid (∀ X, CB w.heap.size r u (w1.alloc X).drew) := fun X => HCD.out.1.below ((Below.refl _ _).alloc (Nat.le_refl _) X)
  have HKP : Hid (∀ w' a0 a1 a2 a3 a4 a5 a6, CB w.heap.size r u w' → (((((((w'.setCell ⟨w.heap.size + 1 + 1, 0, none⟩ a0).setCell ⟨w.heap.size + 1 + 1, 1, none⟩ a1).setCell ⟨w.heap.size + 1 + 1, 2, none⟩ a2).setCell ⟨w.heap.size + 1 + 1, 3, none⟩ a3).setCell ⟨w.heap.size + 1 + 1, 4, none⟩ a4).setCell ⟨w.heap.size + 1 + 1, 5, none⟩ a5).setCell ⟨w.heap.size + 1 + 1, 6, none⟩ a6).cell? ⟨w.heap.size, 0, none⟩ = some (.int .i64 r.n) ∧ (((((((w'.setCell ⟨w.heap.size + 1 + 1, 0, none⟩ a0).setCell ⟨w.heap.size + 1 + 1, 1, none⟩ a1).setCell ⟨w.heap.size + 1 + 1, 2, none⟩ a2).setCell ⟨w.heap.size + 1 + 1, 3, none⟩ a3).setCell ⟨w.heap.size + 1 + 1, 4, none⟩ a4).setCell ⟨w.heap.size + 1 + 1, 5, none⟩ a5).setCell ⟨w.heap.size + 1 + 1, 6, none⟩ a6).cell? ⟨w.heap.size, 1, none⟩ = some (.int .i64 r.y.k) ∧ (((((((w'.setCell ⟨w.heap.size + 1 + 1, 0, none⟩ a0).setCell ⟨w.heap.size + 1 + 1, 1, none⟩ a1).setCell ⟨w.heap.size + 1 + 1, 2, none⟩ a2).setCell ⟨w.heap.size + 1 + 1, 3, none⟩ a3).setCell ⟨w.heap.size + 1 + 1, 4, none⟩ a4).setCell ⟨w.heap.size + 1 + 1, 5, none⟩ a5).setCell ⟨w.heap.size + 1 + 1, 6, none⟩ a6).cell? ⟨w.heap.size, 2, none⟩ = some (.int .i64 r.y.n) ∧ (((((((w'.setCell ⟨w.heap.size + 1 + 1, 0, none⟩ a0).setCell ⟨w.heap.size + 1 + 1, 1, none⟩ a1).setCell ⟨w.heap.size + 1 + 1, 2, none⟩ a2).setCell ⟨w.heap.size + 1 + 1, 3, none⟩ a3).setCell ⟨w.heap.size + 1 + 1, 4, none⟩ a4).setCell ⟨w.heap.size + 1 + 1, 5, none⟩ a5).setCell ⟨w.heap.size + 1 + 1, 6, none⟩ a6).cell? ⟨w.heap.size, 3, none⟩ = some (.int .i64 r.y.t.k) ∧ (((((((w'.setCell ⟨w.heap.size + 1 + 1, 0, none⟩ a0).setCell ⟨w.heap.size + 1 + 1, 1, none⟩ a1).setCell ⟨w.heap.size + 1 + 1, 2, none⟩ a2).setCell ⟨w.heap.size + 1 + 1, 3, none⟩ a3).setCell ⟨w.heap.size + 1 + 1, 4, none⟩ a4).setCell ⟨w.heap.size + 1 + 1, 5, none⟩ a5).setCell ⟨w.heap.size + 1 + 1, 6, none⟩ a6).cell? ⟨w.heap.size, 4, none⟩ = some (.slice r.y.t.a r.y.t.l.length r.y.t.c) ∧ (((((((w'.setCell ⟨w.heap.size + 1 + 1, 0, none⟩ a0).setCell ⟨w.heap.size + 1 + 1, 1, none⟩ a1).setCell ⟨w.heap.size + 1 + 1, 2, none⟩ a2).setCell ⟨w.heap.size + 1 + 1, 3, none⟩ a3).setCell ⟨w.heap.size + 1 + 1, 4, none⟩ a4).setCell ⟨w.heap.size + 1 + 1, 5, none⟩ a5).setCell ⟨w.heap.size + 1 + 1, 6, none⟩ a6).cell? ⟨w.heap.size, 5, none⟩ = some (.int .i64 r.y.f.k) ∧ (((((((w'.setCell ⟨w.heap.size + 1 + 1, 0, none⟩ a0).setCell ⟨w.heap.size + 1 + 1, 1, none⟩ a1).setCell ⟨w.heap.size + 1 + 1, 2, none⟩ a2).setCell ⟨w.heap.size + 1 + 1, 3, none⟩ a3).setCell ⟨w.heap.size + 1 + 1, 4, none⟩ a4).setCell ⟨w.heap.size + 1 + 1, 5, none⟩ a5).setCell ⟨w.heap.size + 1 + 1, 6, none⟩ a6).cell? ⟨w.heap.size, 6, none⟩ = some (.slice r.y.f.a r.y.f.l.length r.y.f.c) ∧ (((((((w'.setCell ⟨w.heap.size + 1 + 1, 0, none⟩ a0).setCell ⟨w.heap.size + 1 + 1, 1, none⟩ a1).setCell ⟨w.heap.size + 1 + 1, 2, none⟩ a2).setCell ⟨w.heap.size + 1 + 1, 3, none⟩ a3).setCell ⟨w.heap.size + 1 + 1, 4, none⟩ a4).setCell ⟨w.heap.size + 1 + 1, 5, none⟩ a5).setCell ⟨w.heap.size + 1 + 1, 6, none⟩ a6).cell? ⟨w.heap.size, 7, none⟩ = some (.slice r.y.a r.y.l.length r.y.c) ∧ (((((((w'.setCell ⟨w.heap.size + 1 + 1, 0, none⟩ a0).setCell ⟨w.heap.size + 1 + 1, 1, none⟩ a1).setCell ⟨w.heap.size + 1 + 1, 2, none⟩ a2).setCell ⟨w.heap.size + 1 + 1, 3, none⟩ a3).setCell ⟨w.heap.size + 1 + 1, 4, none⟩ a4).setCell ⟨w.heap.size + 1 + 1, 5, none⟩ a5).setCell ⟨w.heap.size + 1 + 1, 6, none⟩ a6).cell? ⟨w.heap.size, 8, none⟩ = some (.int .i64 r.i.k) ∧ (((((((w'.setCell ⟨w.heap.size + 1 + 1, 0, none⟩ a0).setCell ⟨w.heap.size + 1 + 1, 1, none⟩ a1).setCell ⟨w.heap.size + 1 + 1, 2, none⟩ a2).setCell ⟨w.heap.size + 1 + 1, 3, none⟩ a3).setCell ⟨w.heap.size + 1 + 1, 4, none⟩ a4).setCell ⟨w.heap.size + 1 + 1, 5, none⟩ a5).setCell ⟨w.heap.size + 1 + 1, 6, none⟩ a6).cell? ⟨w.heap.size, 9, none⟩ = some (.slice r.i.a r.i.l.length r.i.c) ∧ (((((((w'.setCell ⟨w.heap.size + 1 + 1, 0, none⟩ a0).setCell ⟨w.heap.size + 1 + 1, 1, none⟩ a1).setCell ⟨w.heap.size + 1 + 1, 2, none⟩ a2).setCell ⟨w.heap.size + 1 + 1, 3, none⟩ a3).setCell ⟨w.heap.size + 1 + 1, 4, none⟩ a4).setCell ⟨w.heap.size + 1 + 1, 5, none⟩ a5).setCell ⟨w.heap.size + 1 + 1, 6, none⟩ a6).cell? ⟨w.heap.size + 1, 0, none⟩ = some (.int .i64 u.k) ∧ (((((((w'.setCell ⟨w.heap.size + 1 + 1, 0, none⟩ a0).setCell ⟨w.heap.size + 1 + 1, 1, none⟩ a1).setCell ⟨w.heap.size + 1 + 1, 2, none⟩ a2).setCell ⟨w.heap.size + 1 + 1, 3, none⟩ a3).setCell ⟨w.heap.size + 1 + 1, 4, none⟩ a4).setCell ⟨w.heap.size + 1 + 1, 5, none⟩ a5).setCell ⟨w.heap.size + 1 + 1, 6, none⟩ a6).cell? ⟨w.heap.size + 1, 1, none⟩ = some (.slice u.a u.l.length u.c)) := by
    intro w' a0 a1 a2 a3 a4 a5 a6 h
    have n0 : w.heap.size ≠ w.heap.size + 1 + 1 := by omega
    have hc : ∀ b o, b ≠ w.heap.size + 1 + 1 → (((((((w'.setCell ⟨w.heap.size + 1 + 1, 0, none⟩ a0).setCell ⟨w.heap.size + 1 + 1, 1, none⟩ a1).setCell ⟨w.heap.size + 1 + 1, 2, none⟩ a2).setCell ⟨w.heap.size + 1 + 1, 3, none⟩ a3).setCell ⟨w.heap.size + 1 + 1, 4, none⟩ a4).setCell ⟨w.heap.size + 1 + 1, 5, none⟩ a5).setCell ⟨w.heap.size + 1 + 1, 6, none⟩ a6).cell? ⟨b, o, none⟩ = w'.cell? ⟨b, o, none⟩ := by
      intro b o hb
      rw [World.cell?_setCell_other _ _ _ _ (by simp), World.cell?_setCell_other _ _ _ _ (by simp), World.cell?_setCell_other _ _ _ _ (by simp), World.cell?_setCell_other _ _ _ _ (by simp), World.cell?_setCell_other _ _ _ _ (by simp), World.cell?_setCell_other _ _ _ _ (by simp), World.cell?_setCell_other _ _ _ _ (by simp)]
    have n1 : w.heap.size + 1 ≠ w.heap.size + 1 + 1 := by omega
    exact ⟨(hc _ _ n0).trans h.p0, (hc _ _ n0).trans h.p1, (hc _ _ n0).trans h.p2, (hc _ _ n0).trans h.p3, (hc _ _ n0).trans h.p4, (hc _ _ n0).trans h.p5, (hc _ _ n0).trans h.p6, (hc _ _ n0).trans h.p7, (hc _ _ n0).trans h.p8, (hc _ _ n0).trans h.p9, (hc _ _ n1).trans h.u0, (hc _ _ n1).trans h.u1⟩
  have z0 := hcd.z0
  have z1 := hcd.z1
  have z2 := hcd.z2
  have z3 := hcd.z3
  have z4 := hcd.z4
  have z5 := hcd.z5
  have z6 := hcd.z6
  have Xz0 := fun X => (CB.below hcd ((Below.refl _ _).alloc (Nat.le_refl _) X)).z0
  have Xz1 := fun X => (CB.below hcd ((Below.refl _ _).alloc (Nat.le_refl _) X)).z1
  have Xz2 := fun X => (CB.below hcd ((Below.refl _ _).alloc (Nat.le_refl _) X)).z2
  have Xz3 := fun X => (CB.below hcd ((Below.refl _ _).alloc (Nat.le_refl _) X)).z3
  have Xz4 := fun X => (CB.below hcd ((Below.refl _ _).alloc (Nat.le_refl _) X)).z4
  have Xz5 := fun X => (CB.below hcd ((Below.refl _ _).alloc (Nat.le_refl _) X)).z5
  have Xz6 := fun X => (CB.below hcd ((Below.refl _ _).alloc (Nat.le_refl _) X)).z6
  have f0 := hcd.fz 0
  have f1 := hcd.fz 1
  have f2 := hcd.fz 2
  have f3 := hcd.fz 3
  have f4 := hcd.fz 4
  have f5 := hcd.fz 5
  have f6 := hcd.fz 6
  have Xf0 := fun X => (CB.below hcd ((Below.refl _ _).alloc (Nat.le_refl _) X)).fz 0
  have Xf1 := fun X => (CB.below hcd ((Below.refl _ _).alloc (Nat.le_refl _) X)).fz 1
  have Xf2 := fun X => (CB.below hcd ((Below.refl _ _).alloc (Nat.le_refl _) X)).fz 2
  have Xf3 := fun X => (CB.below hcd ((Below.refl _ _).alloc (Nat.le_refl _) X)).fz 3
  have Xf4 := fun X => (CB.below hcd ((Below.refl _ _).alloc (Nat.le_refl _) X)).fz 4
  have Xf5 := fun X => (CB.below hcd ((Below.refl _ _).alloc (Nat.le_refl _) X)).fz 5
  have Xf6 := fun X => (CB.below hcd ((Below.refl _ _).alloc (Nat.le_refl _) X)).fz 6
  obtain ⟨p0, p1, p2, p3, p4, p5, p6, p7, p8, p9, u0, u1, _, _, _, _, _, _, _, fz, _, _, _⟩ := id hcd
  clear h1 HS HB hcd fz
  go_wp2_with fail
  clear p0 p1 p2 p3 p4 p5 p6 p7 p8 p9 u0 u1
  go_region_held3 (fun w' => w'.cell? ⟨w.heap.size, 0, none⟩ = some (.int .i64 r.n) ∧ w'.cell? ⟨w.heap.size, 1, none⟩ = some (.int .i64 r.y.k) ∧ w'.cell? ⟨w.heap.size, 2, none⟩ = some (.int .i64 r.y.n) ∧ w'.cell? ⟨w.heap.size, 3, none⟩ = some (.int .i64 r.y.t.k) ∧ w'.cell? ⟨w.heap.size, 4, none⟩ = some (.slice r.y.t.a r.y.t.l.length r.y.t.c) ∧ w'.cell? ⟨w.heap.size, 5, none⟩ = some (.int .i64 r.y.f.k) ∧ w'.cell? ⟨w.heap.size, 6, none⟩ = some (.slice r.y.f.a r.y.f.l.length r.y.f.c) ∧ w'.cell? ⟨w.heap.size, 7, none⟩ = some (.slice r.y.a r.y.l.length r.y.c) ∧ w'.cell? ⟨w.heap.size, 8, none⟩ = some (.int .i64 r.i.k) ∧ w'.cell? ⟨w.heap.size, 9, none⟩ = some (.slice r.i.a r.i.l.length r.i.c) ∧ w'.cell? ⟨w.heap.size + 1, 0, none⟩ = some (.int .i64 u.k) ∧ w'.cell? ⟨w.heap.size + 1, 1, none⟩ = some (.slice u.a u.l.length u.c))
    (first | (with_reducible exact HK.out _ HCD.out.1) | (with_reducible exact HK.out _ (HKX.out _ _ HCD.out.1)) | (with_reducible exact HK.out _ (HKD.out _)) | (with_reducible exact HKP.out _ _ _ _ _ _ _ _ HCD.out.1) | (with_reducible exact HKP.out _ _ _ _ _ _ _ _ (HKX.out _ _ HCD.out.1)))
    (first
      | (go_at_call 35; refine (HC.out _ _ u HCD.out.1 HCD.out.2 (by first | (with_reducible exact .inl rfl) | (with_reducible exact .inr ⟨_, rfl⟩) | exact .inr ⟨_, rfl⟩) (by first | (with_reducible exact .inl rfl) | (with_reducible exact .inr rfl))).mono ?_; rintro e wU ⟨tU, rfl, htU, hinU, hblU, hcdU, hbwU, hbU, hstU⟩; (try (replace hinI := hinI.below hstU)); replace HCD : Hid (CB w.heap.size r u wU ∧ Below w.heap.size w wU) := ⟨hcdU, hbwU⟩; replace z0 := hcdU.z0; replace z1 := hcdU.z1; replace z2 := hcdU.z2; replace z3 := hcdU.z3; replace z4 := hcdU.z4; replace z5 := hcdU.z5; replace z6 := hcdU.z6; replace Xz0 := fun X => (CB.below hcdU ((Below.refl _ _).alloc (Nat.le_refl _) X)).z0; replace Xz1 := fun X => (CB.below hcdU ((Below.refl _ _).alloc (Nat.le_refl _) X)).z1; replace Xz2 := fun X => (CB.below hcdU ((Below.refl _ _).alloc (Nat.le_refl _) X)).z2; replace Xz3 := fun X => (CB.below hcdU ((Below.refl _ _).alloc (Nat.le_refl _) X)).z3; replace Xz4 := fun X => (CB.below hcdU ((Below.refl _ _).alloc (Nat.le_refl _) X)).z4; replace Xz5 := fun X => (CB.below hcdU ((Below.refl _ _).alloc (Nat.le_refl _) X)).z5; replace Xz6 := fun X => (CB.below hcdU ((Below.refl _ _).alloc (Nat.le_refl _) X)).z6; replace f0 := hcdU.fz 0; replace f1 := hcdU.fz 1; replace f2 := hcdU.fz 2; replace f3 := hcdU.fz 3; replace f4 := hcdU.fz 4; replace f5 := hcdU.fz 5; replace f6 := hcdU.fz 6; replace Xf0 := fun X => (CB.below hcdU ((Below.refl _ _).alloc (Nat.le_refl _) X)).fz 0; replace Xf1 := fun X => (CB.below hcdU ((Below.refl _ _).alloc (Nat.le_refl _) X)).fz 1; replace Xf2 := fun X => (CB.below hcdU ((Below.refl _ _).alloc (Nat.le_refl _) X)).fz 2; replace Xf3 := fun X => (CB.below hcdU ((Below.refl _ _).alloc (Nat.le_refl _) X)).fz 3; replace Xf4 := fun X => (CB.below hcdU ((Below.refl _ _).alloc (Nat.le_refl _) X)).fz 4; replace Xf5 := fun X => (CB.below hcdU ((Below.refl _ _).alloc (Nat.le_refl _) X)).fz 5; replace Xf6 := fun X => (CB.below hcdU ((Below.refl _ _).alloc (Nat.le_refl _) X)).fz 6; clear hcdU hbwU)
      | (go_at_call 35; refine (HC.out _ _ r.i HCD.out.1 HCD.out.2 (by first | (with_reducible exact .inl rfl) | (with_reducible exact .inr ⟨_, rfl⟩) | exact .inr ⟨_, rfl⟩) (by first | (with_reducible exact .inl rfl) | (with_reducible exact .inr rfl))).mono ?_; rintro e wI ⟨tI, rfl, htI, hinI, hblI, hcdI, hbwI, hbI, hstI⟩; (try (replace hinU := hinU.below hstI)); replace HCD : Hid (CB w.heap.size r u wI ∧ Below w.heap.size w wI) := ⟨hcdI, hbwI⟩; replace z0 := hcdI.z0; replace z1 := hcdI.z1; replace z2 := hcdI.z2; replace z3 := hcdI.z3; replace z4 := hcdI.z4; replace z5 := hcdI.z5; replace z6 := hcdI.z6; replace Xz0 := fun X => (CB.below hcdI ((Below.refl _ _).alloc (Nat.le_refl _) X)).z0; replace Xz1 := fun X => (CB.below hcdI ((Below.refl _ _).alloc (Nat.le_refl _) X)).z1; replace Xz2 := fun X => (CB.below hcdI ((Below.refl _ _).alloc (Nat.le_refl _) X)).z2; replace Xz3 := fun X => (CB.below hcdI ((Below.refl _ _).alloc (Nat.le_refl _) X)).z3; replace Xz4 := fun X => (CB.below hcdI ((Below.refl _ _).alloc (Nat.le_refl _) X)).z4; replace Xz5 := fun X => (CB.below hcdI ((Below.refl _ _).alloc (Nat.le_refl _) X)).z5; replace Xz6 := fun X => (CB.below hcdI ((Below.refl _ _).alloc (Nat.le_refl _) X)).z6; replace f0 := hcdI.fz 0; replace f1 := hcdI.fz 1; replace f2 := hcdI.fz 2; replace f3 := hcdI.fz 3; replace f4 := hcdI.fz 4; replace f5 := hcdI.fz 5; replace f6 := hcdI.fz 6; replace Xf0 := fun X => (CB.below hcdI ((Below.refl _ _).alloc (Nat.le_refl _) X)).fz 0; replace Xf1 := fun X => (CB.below hcdI ((Below.refl _ _).alloc (Nat.le_refl _) X)).fz 1; replace Xf2 := fun X => (CB.below hcdI ((Below.refl _ _).alloc (Nat.le_refl _) X)).fz 2; replace Xf3 := fun X => (CB.below hcdI ((Below.refl _ _).alloc (Nat.le_refl _) X)).fz 3; replace Xf4 := fun X => (CB.below hcdI ((Below.refl _ _).alloc (Nat.le_refl _) X)).fz 4; replace Xf5 := fun X => (CB.below hcdI ((Below.refl _ _).alloc (Nat.le_refl _) X)).fz 5; replace Xf6 := fun X => (CB.below hcdI ((Below.refl _ _).alloc (Nat.le_refl _) X)).fz 6; clear hcdI hbwI))
  all_goals
    have hE := HCD.out
    have s0 := HL.out
    have s1 := hstU.size
    have s2 := hstI.size
    clear HK HKX HKP HKD HC
  · have hA : Below wI.heap.size wI (wI.alloc (.cells #[.int .i64 r.y.k, .int .i64 r.y.n, .int .i64 r.y.t.k, .slice r.y.t.a r.y.t.l.length r.y.t.c, .int .i64 r.y.f.k, .slice r.y.f.a r.y.f.l.length r.y.f.c, .slice r.y.a r.y.l.length r.y.c] 27)) := (Below.refl _ _).alloc (Nat.le_refl _) _
    have HX : Hid _ := cast_end r u w _ wI.heap.size tU tI (hE.2.trans (hA.mono hE.2.size)) (hE.1.below hA) (by omega) (new_at7 wI r) (hinU.below hA) (hinI.below hA) hblU hblI HY.out htU htI HR.out
    clear z0 z1 z2 z3 z4 z5 z6 f0 f1 f2 f3 f4 f5 f6 Xz0 Xz1 Xz2 Xz3 Xz4 Xz5 Xz6 Xf0 Xf1 Xf2 Xf3 Xf4 Xf5 Xf6
    go_wp2_with fail
    refine bodyPost_ret (v := .agg #[.int .i64 10, .int .i64 r.n, .int .i64 tU.k, .slice tU.a tU.l.length tU.c, .int .i64 tI.k, .slice tI.a tI.l.length tI.c, .slice (some ⟨wI.heap.size, 0, none⟩) 1 1]) ?_ rfl HX.out.1
    obtain ⟨e0, e1, e2, e3, e4, e5, e6⟩ := HX.out.2
    simp only [Nat.zero_add] at e0 e1 e2 e3 e4 e5 e6
    unfold put7 at e0 e1 e2 e3 e4 e5 e6
    simp only [List.length_cons, List.length_nil, Nat.zero_add] at e0 e1 e2 e3 e4 e5 e6
    simp [results, Tryz.results106, go_sem, e0, e1, e2, e3, e4, e5, e6]
  · have HX : Hid _ := cast_end r u w wI wU.heap.size tU tI hE.2 hE.1 (by omega) ((new_at7 wU r).below hbI) hinU hinI hblU hblI HY.out htU htI HR.out
    clear z0 z1 z2 z3 z4 z5 z6 f0 f1 f2 f3 f4 f5 f6 Xz0 Xz1 Xz2 Xz3 Xz4 Xz5 Xz6 Xf0 Xf1 Xf2 Xf3 Xf4 Xf5 Xf6
    go_wp2_with fail
    refine bodyPost_ret (v := .agg #[.int .i64 10, .int .i64 r.n, .int .i64 tU.k, .slice tU.a tU.l.length tU.c, .int .i64 tI.k, .slice tI.a tI.l.length tI.c, .slice (some ⟨wU.heap.size, 0, none⟩) 1 1]) ?_ rfl HX.out.1
    obtain ⟨e0, e1, e2, e3, e4, e5, e6⟩ := HX.out.2
    simp only [Nat.zero_add] at e0 e1 e2 e3 e4 e5 e6
    unfold put7 at e0 e1 e2 e3 e4 e5 e6
    simp only [List.length_cons, List.length_nil, Nat.zero_add] at e0 e1 e2 e3 e4 e5 e6
    simp [results, Tryz.results106, go_sem, e0, e1, e2, e3, e4, e5, e6]
  · have HX : Hid _ := cast_end r u w wI w1.heap.size tU tI hE.2 hE.1 (by omega) (((show At7 (w1.alloc (.cells #[.int .i64 r.y.k, .int .i64 r.y.n, .int .i64 r.y.t.k, .slice r.y.t.a r.y.t.l.length r.y.t.c, .int .i64 r.y.f.k, .slice r.y.f.a r.y.f.l.length r.y.f.c, .slice r.y.a r.y.l.length r.y.c] 27)).drew w1.heap.size 0 r.y from (new_at7 w1 r).below ((Below.refl _ _).drew)).below hbU).below hbI) hinU hinI hblU hblI HY.out htU htI HR.out
    clear z0 z1 z2 z3 z4 z5 z6 f0 f1 f2 f3 f4 f5 f6 Xz0 Xz1 Xz2 Xz3 Xz4 Xz5 Xz6 Xf0 Xf1 Xf2 Xf3 Xf4 Xf5 Xf6
    go_wp2_with fail
    refine bodyPost_ret (v := .agg #[.int .i64 10, .int .i64 r.n, .int .i64 tU.k, .slice tU.a tU.l.length tU.c, .int .i64 tI.k, .slice tI.a tI.l.length tI.c, .slice (some ⟨w1.heap.size, 0, none⟩) 1 1]) ?_ rfl HX.out.1
    obtain ⟨e0, e1, e2, e3, e4, e5, e6⟩ := HX.out.2
    simp only [Nat.zero_add] at e0 e1 e2 e3 e4 e5 e6
    unfold put7 at e0 e1 e2 e3 e4 e5 e6
    simp only [List.length_cons, List.length_nil, Nat.zero_add] at e0 e1 e2 e3 e4 e5 e6
    simp [results, Tryz.results106, go_sem, e0, e1, e2, e3, e4, e5, e6]
end Go.Proofs.YtnddkmccagiclaaGreatDoor

/-
  A row of terms while it is filled, place by place; what the call of check's cast answers, whole.
-/
namespace Go.Proofs.YtnddkmccagiclaaGreatDoor
open Go.RowKit

theorem cast_any (r : Rd) (u : Tr) (w : World) (hu : u.In w) (hi : r.i.In w) (hy : r.y.In w) (hh : r.i.hgt ≤ 1000) (hs : r.i.sm) (ri : r.i.right) (ru : u.right) (hhu : u.hgt ≤ 1000) :
    Calls Tryz.prog 106 #[.agg #[.int .i64 r.n, .int .i64 r.y.k, .int .i64 r.y.n, .int .i64 r.y.t.k, .slice r.y.t.a r.y.t.l.length r.y.t.c, .int .i64 r.y.f.k, .slice r.y.f.a r.y.f.l.length r.y.f.c, .slice r.y.a r.y.l.length r.y.c, .int .i64 r.i.k, .slice r.i.a r.i.l.length r.i.c], .agg #[.int .i64 u.k, .slice u.a u.l.length u.c]] w (CPost r u w) := by
  cases hr : relY escSame r.i.ty u.ty with
  | true => exact cast_same r u w hu hi hy hh hs hr
  | false => exact cast_diff r u w hu hi hy hh hs ri ru hhu hr

def put7at (w : World) (J o : Nat) (x : TT) : World :=
  ((((((w.setCell ⟨J, o, none⟩ (.int .i64 x.k)).setCell ⟨J, o + 1, none⟩ (.int .i64 x.n)).setCell ⟨J, o + 2, none⟩ (.int .i64 x.t.k)).setCell ⟨J, o + 3, none⟩ (.slice x.t.a x.t.l.length x.t.c)).setCell ⟨J, o + 4, none⟩ (.int .i64 x.f.k)).setCell ⟨J, o + 5, none⟩ (.slice x.f.a x.f.l.length x.f.c)).setCell ⟨J, o + 6, none⟩ (.slice x.a x.l.length x.c)

theorem put7at_get {w : World} {J o i : Nat} {u : Value} (x : TT) (hu : w.cell? ⟨J, i, none⟩ = some u) : (put7at w J o x).cell? ⟨J, i, none⟩ = some (if i = o + 6 then .slice x.a x.l.length x.c else if i = o + 5 then .slice x.f.a x.f.l.length x.f.c else if i = o + 4 then .int .i64 x.f.k else if i = o + 3 then .slice x.t.a x.t.l.length x.t.c else if i = o + 2 then .int .i64 x.t.k else if i = o + 1 then .int .i64 x.n else if i = o then .int .i64 x.k else u) :=
  set_get (set_get (set_get (set_get (set_get (set_get (set_get hu))))))

theorem put7at_kept {w : World} {J o : Nat} {x : TT} : Kept J none w (put7at w J o x) :=
  setR_kept.trans (setR_kept.trans (setR_kept.trans (setR_kept.trans (setR_kept.trans (setR_kept.trans setR_kept)))))

theorem put7at_size {w : World} {J o : Nat} {x : TT} : (put7at w J o x).heap.size = w.heap.size := by
  simp [put7at, World.setCell]

/-- The row while it is filled: the first terms stand, all cells are there. -/
structure TmRow (Q : Nat → Prop) (w : World) (g m : Nat) (zs : List TT) (wr : World) : Prop where
  bel : Below w.heap.size w wr
  lt : g < wr.heap.size
  is : ∀ q (h : q < zs.length), At7 wr g (q * 7) zs[q]
  ins : ∀ z, z ∈ zs → z.In wr ∧ z.Bl (fun b => b ≠ g ∧ Q b)
  any : ∀ i, i < m * 7 → ∃ v, wr.cell? ⟨g, i, none⟩ = some v
  fz : ∀ i, wr.frozen? ⟨g, i, none⟩ = false

theorem TmRow.start (Q : Nat → Prop) (w : World) (m : Nat) : TmRow Q w w.heap.size m [] (w.alloc (.cells (madeCells #[.int .i64 0, .int .i64 0, .int .i64 0, .slice none 0 0, .int .i64 0, .slice none 0 0, .slice none 0 0] (m * 7)) 27)) := by
  refine ⟨(Below.refl _ _).alloc (Nat.le_refl _) _, by simp, fun q h => absurd h (by simp), fun z h => (by cases h), fun i hi => ?_, fun i => by simp [go_sem]⟩
  have hs : i < (madeCells #[.int .i64 0, .int .i64 0, .int .i64 0, .slice none 0 0, .int .i64 0, .slice none 0 0, .slice none 0 0] (m * 7)).size := by rw [size_madeCells]; exact hi
  refine ⟨(madeCells #[.int .i64 0, .int .i64 0, .int .i64 0, .slice none 0 0, .int .i64 0, .slice none 0 0, .slice none 0 0] (m * 7))[i], ?_⟩
  simp [go_sem, hs]

theorem TmRow.below {Q : Nat → Prop} {w wr wr' : World} {g m : Nat} {zs : List TT} (h : TmRow Q w g m zs wr) (hb : Below wr.heap.size wr wr') : TmRow Q w g m zs wr' :=
  ⟨h.bel.trans (hb.mono h.bel.size), Nat.lt_of_lt_of_le h.lt hb.size, fun q hq => (h.is q hq).below hb, fun z hz => ⟨(h.ins z hz).1.below hb, (h.ins z hz).2⟩, fun i hi => by obtain ⟨v, hv⟩ := h.any i hi; exact ⟨v, cell_later hb hv⟩, fun i => (hb.frozen (p := ⟨g, i, none⟩) h.lt).trans (h.fz i)⟩

theorem TmRow.step {Q : Nat → Prop} {w wr : World} {g m : Nat} {zs : List TT} {z : TT} (h : TmRow Q w g m zs wr) (hg : w.heap.size ≤ g) (hz : z.In wr) (bz : z.Bl (fun b => b ≠ g ∧ Q b)) (hm : zs.length < m) : TmRow Q w g m (zs ++ [z]) (put7at wr g (zs.length * 7) z) := by
  have hk := put7at_kept (w := wr) (J := g) (o := zs.length * 7) (x := z)
  refine ⟨?_, by rw [put7at_size]; exact h.lt, fun q hq => ?_, fun y hy => ?_, fun i hi => ?_, fun i => ?_⟩
  · exact h.bel.trans ((hk.below (by simp) (Nat.le_of_lt h.lt)).mono hg)
  · have hcell : ∀ i, i < 7 → ∃ v, wr.cell? ⟨g, q * 7 + i, none⟩ = some v := fun i hi => h.any _ (by simp at hq; omega)
    by_cases e : q = zs.length
    · subst e
      have hzz : (zs ++ [z])[zs.length] = z := by simp
      rw [hzz]
      obtain ⟨v0, h0⟩ := hcell 0 (by omega)
      obtain ⟨v1, h1⟩ := hcell 1 (by omega)
      obtain ⟨v2, h2⟩ := hcell 2 (by omega)
      obtain ⟨v3, h3⟩ := hcell 3 (by omega)
      obtain ⟨v4, h4⟩ := hcell 4 (by omega)
      obtain ⟨v5, h5⟩ := hcell 5 (by omega)
      obtain ⟨v6, h6⟩ := hcell 6 (by omega)
      refine ⟨?_, ?_, ?_, ?_, ?_, ?_, ?_⟩
      · simpa using put7at_get (o := zs.length * 7) z h0
      · simpa using put7at_get (o := zs.length * 7) z h1
      · simpa using put7at_get (o := zs.length * 7) z h2
      · simpa using put7at_get (o := zs.length * 7) z h3
      · simpa using put7at_get (o := zs.length * 7) z h4
      · simpa using put7at_get (o := zs.length * 7) z h5
      · simpa using put7at_get (o := zs.length * 7) z h6
    · have hq' : q < zs.length := by simp at hq; omega
      have hzz : (zs ++ [z])[q] = zs[q] := by rw [List.getElem_append_left hq']
      rw [hzz]
      obtain ⟨c0, c1, c2, c3, c4, c5, c6⟩ := h.is q hq'
      have key : ∀ i u, i < 7 → wr.cell? ⟨g, q * 7 + i, none⟩ = some u → (put7at wr g (zs.length * 7) z).cell? ⟨g, q * 7 + i, none⟩ = some u := by
        intro i u hi hu
        have := put7at_get (o := zs.length * 7) z hu
        rw [if_neg (by omega), if_neg (by omega), if_neg (by omega), if_neg (by omega), if_neg (by omega), if_neg (by omega), if_neg (by omega)] at this
        exact this
      exact ⟨key 0 _ (by omega) c0, key 1 _ (by omega) c1, key 2 _ (by omega) c2, key 3 _ (by omega) c3, key 4 _ (by omega) c4, key 5 _ (by omega) c5, key 6 _ (by omega) c6⟩
  · rcases List.mem_append.1 hy with hy | hy
    · exact ⟨(h.ins y hy).1.keptR hk ((h.ins y hy).2.mono fun b hb => hb.1), (h.ins y hy).2⟩
    · rcases List.mem_singleton.1 hy with rfl
      exact ⟨hz.keptR hk (bz.mono fun b hb => hb.1), bz⟩
  · obtain ⟨v, hv⟩ := h.any i hi
    exact ⟨_, put7at_get z hv⟩
  · simp only [put7at, World.frozen?_setCell]
    exact h.fz i

/-- A row that is full is a term's list. -/
theorem TmRow.tree {Q : Nat → Prop} {w wr : World} {g m : Nat} {zs : List TT} (h : TmRow Q w g m zs wr) (hQ : Q g) (k n : Int) (t f : Tr) (c : Nat) (ht : t.In wr) (hf : f.In wr) (bt : t.Bl Q) (bf : f.Bl Q) :
    (TT.mk k n t f (some ⟨g, 0, none⟩) c zs).In wr ∧ (TT.mk k n t f (some ⟨g, 0, none⟩) c zs).Bl Q :=
  ⟨TT.In_mk.2 ⟨ht, hf, fun j hj => ⟨g, 0, rfl, by simpa using h.is j hj⟩, fun x hx => (h.ins x hx).1⟩, TT.Bl_mk.2 ⟨bt, bf, fun _ y hy => by cases hy; exact hQ, fun x hx => (h.ins x hx).2.mono fun b hb => hb.2⟩⟩
end Go.Proofs.YtnddkmccagiclaaGreatDoor
