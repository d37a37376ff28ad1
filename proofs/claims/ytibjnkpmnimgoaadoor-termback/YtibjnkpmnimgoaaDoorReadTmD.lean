/-
  What the calls of (*reader).readTermInBrackets and (*reader).readTerm do, whatever words are left.
-/
import Derived.Test.YtibjnkpmnimgoaaDoorReadTmC
import Derived.Test.YtibjnkpmnimgoaaDoorGoodAll
namespace Go.Proofs.YtibjnkpmnimgoaaDoor
open Go.RowKit

theorem kindAt_range {y : ByteArray} {k : Nat} (h : kindAt y = some k) : 4 ≤ k ∧ k ≤ 9 := by
  simp only [kindAt, kindWs, atWord] at h
  repeat' split at h
  all_goals first
    | (cases h; omega)
    | cases h

set_option maxRecDepth 20000 in
set_option maxHeartbeats 8000000 in
/-- The word is one of the words. -/
theorem brack_good (R n : Nat) (y : ByteArray) (k : Nat) (hy : kindAt y = some k) (r1 : List ByteArray) (b : Bool) (w : World) (hg : Gl w) (hR : 10 ≤ R) (h : RS R (y :: r1) b w) (hn : r1.length < n) (hsm : SmW r1)
    (ih : Hid (∀ (ws : List ByteArray) (b : Bool) (w : World), ws.length < n → SmW ws → Gl w → RS R ws b w → Calls Tryd.prog 35 #[.pointer (some ⟨R, 0, none⟩)] w (TmPost R b (readTm n ws) w))) :
    Calls Tryd.prog 58 #[.pointer (some ⟨R, 0, none⟩)] w (TmPost R b (inTm n (y :: r1)) w) := by
  obtain ⟨i0, hi0, hz0, hz1, hz2⟩ := info_parts Tryd.info27
  have HN : Hid (Calls Tryd.prog 57 #[.pointer (some ⟨R, 0, none⟩)] (w7 w) fun e w' => e = .returned (.string y) ∧ RS R r1 b w' ∧ Kept R none (w7 w) w') := next_cons R y r1 b _ (h.below (w7_below w))
  have hRl := h.lt
  have HG : Hid (Gl (w7 w)) := hg.below (w7_below w)
  have hkr := kindAt_range hy
  have HY : Hid (kindAt y = some k) := hy
  have HL : Hid (r1.length < n ∧ SmW r1) := ⟨hn, hsm⟩
  have hpl := parts_le (k : Int)
  have HP3 : Hid (partsOf (k : Int) ≤ 3) := hpl
  clear hg h hn hsm
  obtain ⟨P, hP⟩ : ∃ P, partsOf (k : Int) = P := ⟨_, rfl⟩
  have HP : Hid (partsOf (k : Int) = P) := hP
  have hPl : (P : Int) ≤ 3 := by rw [← hP]; omega
  clear hP hpl
  go_enter Tryd.func58, Tryd.ntmps58
  go_wp2_with fail
  refine HN.out.mono ?_
  rintro e w1 ⟨rfl, hr, hk⟩
  have hne : w.heap.size ≠ R := by omega
  have HT : Hid (Calls Tryd.prog 84 #[.string y] w1 fun e w' => e = .returned (.tuple #[.int .i64 (k : Int), .bool true]) ∧ w' = w1) := by
    have := kindOf_any y w1 (HG.out.kept hR hk)
    rw [hy] at this
    exact this
  have hres1 : Box7 w1 w.heap.size (tleaf 0 0) := (box7_alloc w).kept hk hne
  have hs1 : w.heap.size < w1.heap.size := hres1.lt
  have HD : Hid (Kept R none w w1 ∧ Box7 w1 w.heap.size (tleaf 0 0) ∧ RS R r1 b w1 ∧ Gl w1) := ⟨(Kept.of_below (w7_below w)).trans hk, hres1, hr, HG.out.kept hR hk⟩
  clear hr hk HN HG hy hres1
  have HK : Hid (∀ w, Calls Tryd.prog 52 #[.int .i64 (k : Int)] w fun e w' => e = .returned (.bool (tells (k : Int))) ∧ w' = w) := tells_any (k : Int)
  -- the box of the term
  obtain ⟨O, hO⟩ : ∃ O, O = Obj.cells #[.int .i64 (k : Int), .int .i64 0, .int .i64 0, .slice none 0 0, .int .i64 0, .slice none 0 0, .slice none 0 0] 27 := ⟨_, rfl⟩
  have hb2 : Below w1.heap.size w1 (w1.alloc O) := (Below.refl _ _).alloc (Nat.le_refl _) _
  have hbx2 : Box7 (w1.alloc O) w1.heap.size ⟨(k : Int), 0, leaf 0, leaf 0, none, 0, []⟩ := by
    subst hO
    refine ⟨⟨?_, ?_, ?_, ?_, ?_, ?_, ?_⟩, fun i hi => ?_⟩
    · simp [go_sem]
    · simp [go_sem]
    · simp [go_sem, leaf]
    · simp [go_sem, leaf]
    · simp [go_sem, leaf]
    · simp [go_sem, leaf]
    · simp [go_sem]
    · simp [go_sem]
  have HE : Hid (Kept R none w (w1.alloc O) ∧ Box7 (w1.alloc O) w.heap.size (tleaf 0 0) ∧ RS R r1 b (w1.alloc O) ∧ Gl (w1.alloc O) ∧ Box7 (w1.alloc O) w1.heap.size ⟨(k : Int), 0, leaf 0, leaf 0, none, 0, []⟩) :=
    ⟨HD.out.1.trans (Kept.of_below hb2), HD.out.2.1.below hb2, HD.out.2.2.1.below hb2, HD.out.2.2.2.below hb2, hbx2⟩
  have hs2 : (w1.alloc O).heap.size = w1.heap.size + 1 := by simp
  obtain ⟨bt, hbt⟩ : ∃ bt, tells (k : Int) = bt := ⟨_, rfl⟩
  rw [hbt] at HK
  have HBT : Hid (tells (k : Int) = bt) := hbt
  clear hbt hbx2 hb2 HD
  cases bt
  rotate_left
  focus
    have HTY : Hid (Calls Tryd.prog 85 #[.pointer (some ⟨R, 0, none⟩)] (w1.alloc O) (TyPost R b (readTy n r1) (w1.alloc O))) := readType_any R hR n r1 b _ HL.out.1 HE.out.2.2.2.1 HE.out.2.2.1
    have HRT : Hid (readT n k r1 = readTy n r1) := by show _ = _; unfold readT; rw [HBT.out]; rfl
    have hpk : 0 < partsOf (k : Int) := by
      have := HBT.out
      simp only [tells, Bool.or_eq_true, beq_iff_eq] at this
      rcases this with e | e <;> rw [e] <;> decide
    have HPK : Hid (0 < partsOf (k : Int)) := hpk
    clear hpk
    have i1 : (0 : Int) ≤ (k : Int) := by omega
    have i2 : (k : Int) < 10 := by omega
    subst hO
    go_wp2_with fail
    refine HT.out.mono ?_
    rintro e w2 ⟨rfl, rfl⟩
    go_wp2_with fail
    refine (HK.out _).mono ?_
    rintro e w2 ⟨rfl, rfl⟩
    go_wp2_with fail
    refine HTY.out.mono ?_
    rintro e w3 ⟨t, rfl, hit, hblt, hk3, hA3, het⟩
    obtain ⟨ws1, b1, hr3, hs3⟩ := hA3.letters
    have hneJ : w2.heap.size ≠ R := by omega
    have hbx3 := HE.out.2.2.2.2.kept hk3 hneJ
    have hsz3 : w2.heap.size < w3.heap.size := hbx3.lt
    have hkJ : Kept w2.heap.size none w3 ((w3.setCell ⟨w2.heap.size, 2, none⟩ (.int .i64 t.k)).setCell ⟨w2.heap.size, 3, none⟩ (.slice t.a t.l.length t.c)) := set23_kept
    have hszW : ((w3.setCell ⟨w2.heap.size, 2, none⟩ (.int .i64 t.k)).setCell ⟨w2.heap.size, 3, none⟩ (.slice t.a t.l.length t.c)).heap.size = w3.heap.size := by simp [World.setCell]
    have hgl3 : Gl w3 := HE.out.2.2.2.1.kept hR hk3
    have HLB0 : Hid (LB R w.heap.size w2.heap.size w3.heap.size k n ws1 b1 t w 0 (.slice none 0 0) [] ws1 b1 ((w3.setCell ⟨w2.heap.size, 2, none⟩ (.int .i64 t.k)).setCell ⟨w2.heap.size, 3, none⟩ (.slice t.a t.l.length t.c))) := by
      have hst : StepR ((readTy n r1).map (·.2)) b ws1 b1 := hs3
      refine ⟨Row.nil _ _, rfl, ⟨none, 0, rfl, hbx3.set23⟩, (HE.out.2.1.kept hk3 hne).kept hkJ (by omega), hr3.new hkJ (by omega), (HE.out.1.trans hk3).new hkJ (by omega), InvN.start _ _ _ _, hit.keptR hkJ (hblt.mono fun b hb => by simp at hb; omega), (hit.bl.and hblt).mono (fun b hb => ⟨by have := hb.2; simp at this; omega, hb.1⟩), hgl3.kept (by omega) hkJ, HL.out.2.step hst (fun r hr => by obtain ⟨p, hp, rfl⟩ := Option.map_eq_some_iff.1 hr; exact readTy_suf n _ _ hp), ?_, by rw [hszW]; exact Nat.le_refl _⟩
      refine Nat.lt_of_le_of_lt (hst.len (N := r1.length) fun r hr => ?_) HL.out.1
      obtain ⟨p, hp, rfl⟩ := Option.map_eq_some_iff.1 hr
      exact Nat.le_of_lt (readTy_len n _ _ hp)
    have HS : Hid (StepR ((readT n k r1).map (·.2)) b ws1 b1 ∧ (∀ p, readT n k r1 = some p → t.ty = p.1) ∧ (readT n k r1 = none → 0 < partsOf (k : Int))) := by
      show _ ∧ _
      rw [HRT.out]
      exact ⟨hs3, het, fun _ => HPK.out⟩
    have hp : w3.cell? ⟨2, k, none⟩ = some (.int .i64 (P : Int)) := by
      rw [← HP.out]
      exact parts_cell hgl3 (k : Int) (by omega) (by omega)
    have h2J : (2 : Nat) ≠ w2.heap.size := by omega
    have q2 := hbx3.at7.c2
    have q3 := hbx3.at7.c3
    simp only [Nat.zero_add, leaf] at q2 q3
    have g2 := hbx3.fz 2 (by omega)
    have g3 := hbx3.fz 3 (by omega)
    obtain ⟨B, hB⟩ : ∃ B, w3.heap.size = B := ⟨_, rfl⟩
    have hJB : w2.heap.size < B := by omega
    rw [hB] at HLB0
    clear hB hs2 hit hblt hk3 hA3 het hr3 hs3 hbx3 hkJ hszW hgl3 HTY
    go_wp2_with fail
  rotate_left
  focus
    have HLB : Hid (∃ (t : Tr) (ws1 : List ByteArray) (b1 : Bool), LB R w.heap.size w1.heap.size (w1.alloc O).heap.size k n ws1 b1 t w 0 (.slice none 0 0) [] ws1 b1 (w1.alloc O) ∧ StepR ((readT n k r1).map (·.2)) b ws1 b1 ∧ (∀ p, readT n k r1 = some p → t.ty = p.1) ∧ (readT n k r1 = none → 0 < partsOf (k : Int))) := by
      have e : readT n k r1 = some (anyY, r1) := by unfold readT; rw [HBT.out]; rfl
      refine ⟨leaf 0, r1, b, ⟨Row.nil _ _, rfl, ⟨none, 0, rfl, HE.out.2.2.2.2⟩, HE.out.2.1, HE.out.2.2.1, HE.out.1, InvN.start _ _ _ _, leaf_in _ _, leaf_bl _ _, HE.out.2.2.2.1, HL.out.2, HL.out.1, Nat.le_refl _⟩, ?_, ?_, ?_⟩
      · rw [e]; exact .inl ⟨rfl, rfl⟩
      · intro p hp; rw [e] at hp; cases hp; exact leaf_ty 0
      · intro hp; rw [e] at hp; cases hp
    obtain ⟨t, ws1, b1, hlb, hst, het, hdd⟩ := HLB.out
    have HS : Hid (StepR ((readT n k r1).map (·.2)) b ws1 b1 ∧ (∀ p, readT n k r1 = some p → t.ty = p.1) ∧ (readT n k r1 = none → 0 < partsOf (k : Int))) := ⟨hst, het, hdd⟩
    have HLB0 : Hid (LB R w.heap.size w1.heap.size (w1.alloc O).heap.size k n ws1 b1 t w 0 (.slice none 0 0) [] ws1 b1 (w1.alloc O)) := hlb
    clear hst het hdd hlb HLB
    have hp : (w1.alloc O).cell? ⟨2, k, none⟩ = some (.int .i64 (P : Int)) := by
      rw [← HP.out]
      exact parts_cell HE.out.2.2.2.1 (k : Int) (by omega) (by omega)
    obtain ⟨B, hB⟩ : ∃ B, (w1.alloc O).heap.size = B := ⟨_, rfl⟩
    have hJB : w1.heap.size < B := by rw [← hB, hs2]; omega
    rw [hB] at HLB0
    clear hB hs2
    have i1 : (0 : Int) ≤ (k : Int) := by omega
    have i2 : (k : Int) < 10 := by omega
    subst hO
    go_wp2_with fail
    refine HT.out.mono ?_
    rintro e w2 ⟨rfl, rfl⟩
    go_wp2_with fail
    refine (HK.out _).mono ?_
    rintro e w2 ⟨rfl, rfl⟩
    go_wp2_with fail
  all_goals
    go_loopg [27] P (fun g i wr => ∃ (j : Nat) (v : Value) (cs : List TT) (ws' : List ByteArray) (b' : Bool), g + j = P ∧ i = .int .i64 (j : Int) ∧ Hid (LB R w.heap.size w2.heap.size B k n ws1 b1 t w j v cs ws' b' wr))
    case atStart => exact ⟨0, _, _, _, _, by omega, rfl, HLB0⟩
    case round =>
      obtain ⟨j, v, cs, ws', b', hj, rfl, HQ⟩ := hrel
      have hJR : w2.heap.size ≠ R := by omega
      have hclen : cs.length = j := HQ.out.len
      by_cases hlt : j < P
      · have hb1 : Below wr.heap.size wr wr.drew := (Below.refl _ _).drew
        have HI : Hid (Calls Tryd.prog 35 #[.pointer (some ⟨R, 0, none⟩)] wr.drew (TmPost R b' (readTm n ws') wr.drew)) := ih.out ws' b' _ HQ.out.small HQ.out.sm (HQ.out.gl.below hb1) (HQ.out.rs.below hb1)
        have HRW : Hid (Row B v cs wr.drew) := HQ.out.row.below hb1
        obtain ⟨a, c, hv, hbx⟩ := HQ.out.box
        have u1 : wr.drew.cell? ⟨w2.heap.size, 6, none⟩ = some v := by rw [hv]; exact hbx.at7.c6
        have uf : wr.drew.frozen? ⟨w2.heap.size, 6, none⟩ = false := hbx.fz 6 (by omega)
        have uo : wr.drew.ownsRow B 27 7 v cs.length (cells7 cs) := HRW.out.own
        have us : w2.heap.size < wr.drew.heap.size := World.block_lt_of_cell? _ _ u1
        have hnv : v.ownBlock ≠ some w2.heap.size := fun e => by have := (HQ.out.row.lt _ e).1; omega
        have hszB : B ≤ wr.heap.size := HQ.out.size
        have hcl3 : cs.length ≤ 3 := by omega
        have hRB : R < B := by omega
        clear hv hbx
        have hJP : j < partsOf (k : Int) := by rw [HP.out]; exact hlt
        have HJP : Hid (j < partsOf (k : Int)) := hJP
        have HJ : Hid (j + 1 ≤ P ∧ gk + j = P) := ⟨hlt, hj⟩
        clear hJP hj hp hclen
        go_wp2_with fail
        go_region_law
          (first
            | (go_simp; go_at_call 35; refine HI.out.mono ?_; rintro e w5 ⟨x, rfl, hin, hbl, hk5, hA5, he5⟩; replace u1 := hk5.cell u1 hJR; replace uf := hk5.fz uf us hJR; replace uo := (HRW.out.kept hk5 hRB).own; replace us : w2.heap.size < w5.heap.size := World.block_lt_of_cell? _ _ u1; have hnew := heap_alloc_new w5 (.cells #[.int .i64 x.k, .int .i64 x.n, .int .i64 x.t.k, .slice x.t.a x.t.l.length x.t.c, .int .i64 x.f.k, .slice x.f.a x.f.l.length x.f.c, .slice x.a x.l.length x.c] 27); have un : w2.heap.size ≠ w5.heap.size := Nat.ne_of_lt us; go_wp2_with fail)
            | (refine step_append_lies _ (by rfl) _ _ _ (by rfl) B 27 i0 _ 7 104 Tryd.underlying25 hi0 hz0 hz1 hz2 rfl (by omega) v cs.length (cells7 cs) (by rfl) (uo.alloc _)
                  ⟨w5.heap.size, 0, none⟩ 1 1 [.int .i64 x.k, .int .i64 x.n, .int .i64 x.t.k, .slice x.t.a x.t.l.length x.t.c, .int .i64 x.f.k, .slice x.f.a x.f.l.length x.f.c, .slice x.a x.l.length x.c] (by rfl) (by rfl) (World.news_of_block (cs := #[.int .i64 x.k, .int .i64 x.n, .int .i64 x.t.k, .slice x.t.a x.t.l.length x.t.c, .int .i64 x.f.k, .slice x.f.a x.f.l.length x.f.c, .slice x.a x.l.length x.c]) (t := 27) (fr := (0, 0)) hnew) (by simp [Value.oneCell'])
                  (by omega) (by unfold maxLen; omega) (by omega) (by have := hk5.size; simp at this ⊢; omega) (w5.heap.size + 1) (by simp) ?_; intro gg cap1 w6 hown1 hgrow hat hlt3; have hcr : w6.cell? ⟨w2.heap.size, 6, none⟩ = some v := (by rw [hgrow.cell_far _ (by simp; omega) (Ne.symm hnv)]; exact cell_later ((Below.refl _ _).alloc (Nat.le_refl _) _) u1); have hfr : w6.frozen? ⟨w2.heap.size, 6, none⟩ = false := (by rw [hgrow.frozen_far _ (by simp; omega) (Ne.symm hnv)]; exact (((Below.refl _ _).alloc (Nat.le_refl _) _).frozen (p := ⟨w2.heap.size, 6, none⟩) us).trans uf)))
        all_goals
          obtain ⟨ws'', b'', hr5, hs5⟩ := hA5.letters
          have HN : Hid (LB R w.heap.size w2.heap.size B k n ws1 b1 t w (j + 1) (.slice (some ⟨gg, 0, none⟩) (cs.length + 1) cap1) (cs ++ [x]) ws'' b'' (w6.setCell ⟨w2.heap.size, 6, none⟩ (.slice (some ⟨gg, 0, none⟩) (cs.length + 1) cap1))) :=
            HQ.out.step hRl hs1 hJB (Nat.le_refl _) hR HJP.out hin (hbl.mono fun b hb => by simpa using hb) ((Kept.of_below hb1).trans hk5) hr5 hs5 he5 hown1 hgrow hat
          clear hown1 hgrow hat hcr hfr hin hbl hk5 hA5 he5 hr5 hs5 uo uf u1 us HI HRW HQ hnew un hb1
          go_wp2_with fail
          go_roundg (P - (j + 1))
          case measure => have := HJ.out; omega
          case rel => exact ⟨j + 1, _, _, _, _, by have := HJ.out; omega, by go_num, HN⟩
      · have hjP : j = P := by omega
        have HW : Hid (Calls Tryd.prog 86 #[.pointer (some ⟨R, 0, none⟩), .string ⟨#[41]⟩] wr fun e w' => e = .returned (.tuple #[]) ∧ After R b' (behind clB ws') w' ∧ Kept R none wr w') := want_any R clB (by decide) ws' b' _ HQ.out.rs
        have HJP : Hid (j = P) := hjP
        clear hp hclen hj hjP
        go_wp2_with fail
        refine HW.out.mono ?_
        rintro e w5 ⟨rfl, hA5, hk5⟩
        obtain ⟨ws3, b3, hr5, hs5⟩ := hA5.letters
        obtain ⟨a, c, hv, hbx⟩ := HQ.out.box
        have hszB : B ≤ wr.heap.size := HQ.out.size
        obtain ⟨a', c', hv', htree⟩ := (HQ.out.row.kept hk5 (by omega)).tree
        rw [hv] at hv'
        obtain ⟨rfl, rfl⟩ : a = a' ∧ c = c' := by cases hv'; exact ⟨rfl, rfl⟩
        have hbx5 := hbx.kept hk5 hJR
        have hres5 := HQ.out.res.kept hk5 hne
        have hti := htree (k : Int) 0 t (leaf 0) (HQ.out.tin.keptR hk5 (HQ.out.tbl.mono fun b hb => by omega)) (leaf_in _ _)
        have hbl := hti.2 (fun b => w.heap.size < b) (fun b hb => by omega) (HQ.out.tbl.mono fun b hb => by omega) (leaf_bl _ _)
        have hfin := inTm_steps HY.out HS.out.1 HS.out.2.1 (by have := HQ.out.inv; rw [HJP.out, ← HP.out] at this; exact this) hs5 HS.out.2.2
        have htm : (TT.mk (k : Int) 0 t (leaf 0) a c cs).tm = ⟨(k : Int), 0, t.ty, anyY, cs.map TT.tm⟩ := by rw [TT.tm_mk, leaf_ty]; rfl
        have HE5 : Hid (TmPost R b (inTm n (y :: r1)) w (.returned (.agg #[.int .i64 (k : Int), .int .i64 0, .int .i64 t.k, .slice t.a t.l.length t.c, .int .i64 0, .slice none 0 0, .slice a cs.length c])) (put7 w5 w.heap.size (TT.mk (k : Int) 0 t (leaf 0) a c cs))) :=
          (tm_end (x := TT.mk (k : Int) 0 t (leaf 0) a c cs) hres5 (Nat.le_refl _) hRl hti.1 hbl (HQ.out.kept.trans hk5) hr5 hfin.1 (fun p hp => by rw [htm]; exact hfin.2 p hp)).1
        have HGT := put7_gets (x := TT.mk (k : Int) 0 t (leaf 0) a c cs) hres5
        have h7 := hbx5.at7
        have c0 := h7.c0
        have c1 := h7.c1
        have c2 := h7.c2
        have c3 := h7.c3
        have c4 := h7.c4
        have c5 := h7.c5
        have c6 := h7.c6
        simp only [Nat.zero_add, leaf] at c0 c1 c2 c3 c4 c5 c6
        have r7 := hres5.at7
        have e0 := r7.c0
        have e1 := r7.c1
        have e2 := r7.c2
        have e3 := r7.c3
        have e4 := r7.c4
        have e5 := r7.c5
        have e6 := r7.c6
        simp only [Nat.zero_add, tleaf] at e0 e1 e2 e3 e4 e5 e6
        have f0 := hres5.fz 0 (by omega)
        have f1 := hres5.fz 1 (by omega)
        have f2 := hres5.fz 2 (by omega)
        have f3 := hres5.fz 3 (by omega)
        have f4 := hres5.fz 4 (by omega)
        have f5 := hres5.fz 5 (by omega)
        have f6 := hres5.fz 6 (by omega)
        have HGT' : Hid _ := HGT
        clear h7 r7 hA5 hk5 hr5 hs5 hv hv' hbx htree hbx5 hres5 hti hbl hfin htm HQ HW HGT
        go_wp2_with fail
        refine bodyPost_ret (v := .agg #[.int .i64 (k : Int), .int .i64 0, .int .i64 t.k, .slice t.a t.l.length t.c, .int .i64 0, .slice none 0 0, .slice a cs.length c]) ?_ rfl HE5.out
        obtain ⟨d0, d1, d2, d3, d4, d5, d6⟩ := HGT'.out
        simp only [leaf, List.length_nil] at d0 d1 d2 d3 d4 d5 d6
        simp [results, Tryd.results58, go_sem, d0, d1, d2, d3, d4, d5, d6]

/-- (*reader).readTerm. -/
theorem readTerm_any (R : Nat) (hR : 10 ≤ R) (n : Nat) : ∀ (ws : List ByteArray) (b : Bool) (w : World), ws.length < n → SmW ws → Gl w → RS R ws b w →
    Calls Tryd.prog 35 #[.pointer (some ⟨R, 0, none⟩)] w (TmPost R b (readTm n ws) w) := by
  induction n with
  | zero => intro ws b w h; omega
  | succ n ih =>
    intro ws b w hn hsm hg h
    cases ws with
    | nil => exact readTerm_nil R (n + 1) b w hg hR h
    | cons x r =>
      by_cases hx : x = opB
      · subst hx
        rw [readTm_open]
        refine readTerm_open R n r b w hR hg h (fun w hg h => ?_)
        have hsr : SmW r := fun x hx => hsm x (by simp [hx])
        cases r with
        | nil =>
          exact brack_bad R ⟨#[]⟩ (by decide) [] b true w hg hR h.lt (next_nil R b _ (h.below (w7_below w)))
        | cons y r1 =>
          cases hy : kindAt y with
          | none =>
            have e : inTm n (y :: r1) = none := by simp [inTm, hy]
            rw [e]
            exact brack_bad R y hy r1 b b w hg hR h.lt (next_cons R y r1 b _ (h.below (w7_below w)))
          | some k => exact brack_good R n y k hy r1 b w hg hR h (by simp at hn; omega) (fun x hx => hsr x (by simp [hx])) ih
      · exact readTerm_word R n x (hsm x (by simp)) r hx b w hg hR h
end Go.Proofs.YtibjnkpmnimgoaaDoor
