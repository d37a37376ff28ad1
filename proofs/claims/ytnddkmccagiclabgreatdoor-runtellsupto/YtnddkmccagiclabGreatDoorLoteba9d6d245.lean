/-
  What the call of check's read answers: the term with its casts, its number and its type, or that it has none.
-/
import Derived.Test.YtnddkmccagiclabGreatDoorLot4ae5b21284
import Derived.Deep.DeepCutAuto
import Derived.Deep.RegionHeld3
import Derived.Test.YtnddkmccagiclabGreatDoorLoted756f28d3
namespace Go.Proofs.YtnddkmccagiclabGreatDoor
open Go.RowKit
/-- Behind the counting: the frame stands, the counter is one more; what the functions around the parts take. -/
structure RA (Q : Nat → Prop) (R c : Nat) (x : TT) (T T' : Tr) (w W : World) : Prop where
  kp : Kept R none w W
  rf : RF w.heap.size x W
  cs : CS R (c + 1) W
  xi : x.In W
  ti : T'.In W
  tb : T'.Bl Q
  tl : T'.l.map Tr.ty = takesIn x.k x.t.ty (T.l.map Tr.ty)
  tk : ∀ t, t ∈ T'.l → goodT 4 t = true
/-- What came of the rule. -/
def RuRes (P : Nat → Prop) (rule : Option (Ty × List Ty)) (fl : Bool) (I U : Tr) (wU : World) : Prop :=
  (fl = false ∧ rule = none) ∨ (fl = true ∧ rule = some (I.ty, U.l.map Tr.ty) ∧ I.In wU ∧ U.In wU ∧ I.Bl P ∧ U.Bl P)
theorem RuRes.below {P : Nat → Prop} {rule : Option (Ty × List Ty)} {fl : Bool} {I U : Tr} {W W' : World} (h : RuRes P rule fl I U W) (hb : Below W.heap.size W W') : RuRes P rule fl I U W' := by
  rcases h with h | ⟨h1, h2, h3, h4, h5⟩
  · exact .inl h
  · exact .inr ⟨h1, h2, h3.below hb, h4.below hb, h5⟩
theorem RuRes.set {P : Nat → Prop} {G : Nat} {rule : Option (Ty × List Ty)} {fl : Bool} {I U : Tr} {W W' : World} (h : RuRes (fun b => P b ∧ b ≠ G) rule fl I U W) (hk : Kept G none W W') : RuRes P rule fl I U W' := by
  rcases h with h | ⟨h1, h2, h3, h4, h5, h6⟩
  · exact .inl h
  · exact .inr ⟨h1, h2, h3.keptR hk (h5.mono fun b hb => hb.2), h4.keptR hk (h6.mono fun b hb => hb.2), h5.mono fun b hb => hb.1, h6.mono fun b hb => hb.1⟩
/-- What came of the casts. -/
def CaRes (P : Nat → Prop) (rs : List Rd) (U : Tr) (g : Nat) (zs : List TT) (wK : World) : Prop :=
  (∀ q (h : q < zs.length), At7 wK g (q * 7) zs[q]) ∧ (∀ z, z ∈ zs → z.In wK ∧ z.Bl P) ∧ P g ∧ zs.map TT.tm = castL (rs.map tri) (U.l.map Tr.ty)
theorem CaRes.tree {P : Nat → Prop} {rs : List Rd} {U : Tr} {g : Nat} {zs : List TT} {wK : World} (h : CaRes P rs U g zs wK) (k n : Int) (t : Tr) (ht : t.In wK) (bt : t.Bl P) :
    (TT.mk k n t (leaf 0) (some ⟨g, 0, none⟩) zs.length zs).In wK ∧ (TT.mk k n t (leaf 0) (some ⟨g, 0, none⟩) zs.length zs).Bl P ∧ (TT.mk k n t (leaf 0) (some ⟨g, 0, none⟩) zs.length zs).tm = ⟨k, n, t.ty, anyY, castL (rs.map tri) (U.l.map Tr.ty)⟩ := by
  refine ⟨TT.In_mk.2 ⟨ht, leaf_in _ _, fun j hj => ⟨g, 0, rfl, by simpa using h.1 j hj⟩, fun x hx => (h.2.1 x hx).1⟩, TT.Bl_mk.2 ⟨bt, leaf_bl _ _, fun _ y hy => by cases hy; exact h.2.2.1, fun x hx => (h.2.1 x hx).2⟩, ?_⟩
  rw [TT.tm_mk, h.2.2.2]
  simp [leaf, Tr.ty_mk, anyY]
set_option maxRecDepth 20000 in
set_option maxHeartbeats 8000000 in
theorem read_step (Q : Nat → Prop) (R : Nat) (x : TT) (c : Nat) (T : Tr) (w : World) (hpre : RdPre Q R x c T w)
    (HRD : ∀ y, y ∈ x.l → ∀ (Q' : Nat → Prop) (c' : Nat) (T' : Tr) (W : World), RdPre Q' R y c' T' W → Calls Tryz.prog 41 #[.pointer (some ⟨R, 0, none⟩), .agg #[.int .i64 y.k, .int .i64 y.n, .int .i64 y.t.k, .slice y.t.a y.t.l.length y.t.c, .int .i64 y.f.k, .slice y.f.a y.f.l.length y.f.c, .slice y.a y.l.length y.c], .slice T'.a T'.l.length T'.c] W (RdPost Q' R y c' (T'.l.map Tr.ty) W)) :
    Calls Tryz.prog 41 #[.pointer (some ⟨R, 0, none⟩), .agg #[.int .i64 x.k, .int .i64 x.n, .int .i64 x.t.k, .slice x.t.a x.t.l.length x.t.c, .int .i64 x.f.k, .slice x.f.a x.f.l.length x.f.c, .slice x.a x.l.length x.c], .slice T.a T.l.length T.c] w (RdPost Q R x c (T.l.map Tr.ty) w) := by
  obtain ⟨hok, htk, hrm, xi, ti, hcs, xb, tb, nw, ne⟩ := hpre
  have hRl : R < w.heap.size := hcs.lt
  have hsz := x.sz_eq
  have hrf := RF.start x w
  obtain ⟨W1, hW1⟩ : ∃ W1, W1 = ((w.alloc (.cells #[.int .i64 x.k, .int .i64 x.n, .int .i64 x.t.k, .slice x.t.a x.t.l.length x.t.c, .int .i64 x.f.k, .slice x.f.a x.f.l.length x.f.c, .slice x.a x.l.length x.c] 27)).alloc (.cells #[.int .i64 0, .int .i64 0, .int .i64 0, .int .i64 0, .slice none 0 0, .int .i64 0, .slice none 0 0, .slice none 0 0, .int .i64 0, .slice none 0 0] 64)) := ⟨_, rfl⟩
  have hb1 : Below w.heap.size w W1 := by rw [hW1]; exact ((Below.refl _ _).alloc (Nat.le_refl _) _).alloc (by simp) _
  have hz1 : W1.heap.size = w.heap.size + 1 + 1 := by rw [hW1]; simp
  rw [← hW1] at hrf
  have hcs1 := hcs.below hb1
  have HCount : Hid (Calls Tryz.prog 64 #[.pointer (some ⟨R, 0, none⟩)] W1 fun e w' => e = .returned (.int .i64 (c : Int)) ∧ w' = W1.setCell ⟨R, 0, none⟩ (.int .i64 ((c + 1 : Nat) : Int))) := count_any R c (by omega) W1 hcs1.c hcs1.f
  obtain ⟨WA, hWA⟩ : ∃ WA, WA = W1.setCell ⟨R, 0, none⟩ (.int .i64 ((c + 1 : Nat) : Int)) := ⟨_, rfl⟩
  have hkA : Kept R none W1 WA := by rw [hWA]; exact setR_kept
  have hkw : Kept R none w WA := (Kept.of_below hb1).trans hkA
  have hQ2x : x.Bl (fun b => Q b ∧ b ≠ w.heap.size + 1) := (xb.and xi.bl).mono fun b hb => ⟨hb.1, by omega⟩
  have hQ2T : T.Bl (fun b => Q b ∧ b ≠ w.heap.size + 1) := (tb.and ti.bl).mono fun b hb => ⟨hb.1, by omega⟩
  have hkne : ∀ b, (Q b ∧ b ≠ w.heap.size + 1) → b ≠ R := fun b hb => ne b hb.1
  have hcsA : CS R (c + 1) WA := by
    rw [hWA]
    exact ⟨World.cell?_setCell_same _ _ _ hcs1.c, by rw [World.frozen?_setCell]; exact hcs1.f⟩
  have hrfA : RF w.heap.size x WA := hrf.kept hkA (by omega) (by omega)
  have hxA : x.In WA := xi.keptR hkw (xb.mono ne)
  have hTA : T.In WA := ti.keptR hkw (tb.mono ne)
  have hka : 1 ≤ x.k ∧ x.k ≤ 9 ∧ x.l.length = partsOf x.k ∧ goodT 4 x.t = true ∧ (x.k = 1 → 0 ≤ x.n ∧ x.n < (T.l.length : Int)) ∧ (∀ y, y ∈ x.l → okTm y.tm (takesIn x.k x.t.ty (T.l.map Tr.ty)).length) := by
    obtain ⟨k, n, t, f, a, cc, l⟩ := x
    rw [TT.tm_mk] at hok
    obtain ⟨h0, h1⟩ := okTm_mk.1 hok
    obtain ⟨k1, k9, hl, _, ht, _, hn⟩ := okTop_all h0
    refine ⟨k1, k9, by simpa using hl, by rw [goodT_eq]; exact ht, hn, fun y hy => ?_⟩
    rw [takesIn_length, List.length_map]
    exact h1 y.tm (List.mem_map.2 ⟨y, hy, rfl⟩)
  have HRA : Hid (∀ (T' : Tr) (W : World), Below WA.heap.size WA W → T'.In W → T'.Bl (fun b => Q b ∧ b ≠ w.heap.size + 1) → T'.l.map Tr.ty = takesIn x.k x.t.ty (T.l.map Tr.ty) → (∀ t, t ∈ T'.l → goodT 4 t = true) → RA (fun b => Q b ∧ b ≠ w.heap.size + 1) R c x T T' w W) :=
    fun T' W hb h1 h2 h3 h4 => ⟨hkw.trans (Kept.of_below hb), hrfA.below hb, hcsA.below hb, hxA.below hb, h1, h2, h3, h4⟩
  have HAH : Hid (Calls Tryz.prog 65 #[.agg #[.int .i64 x.t.k, .slice x.t.a x.t.l.length x.t.c], .slice T.a T.l.length T.c] WA fun e w' => ∃ N : Tr, e = .returned (.slice N.a N.l.length N.c) ∧ N.l = x.t :: T.l ∧ N.In w' ∧ (∀ y, N.a = some y → WA.heap.size ≤ y.block) ∧ Below WA.heap.size WA w') := ahead_any x.t T WA hxA.t hTA (by omega)
  have HK : Hid (1 ≤ x.k ∧ x.k ≤ 9 ∧ x.l.length = partsOf x.k ∧ goodT 4 x.t = true ∧ (x.k = 1 → 0 ≤ x.n ∧ x.n < (T.l.length : Int)) ∧ (∀ y, y ∈ x.l → okTm y.tm (takesIn x.k x.t.ty (T.l.map Tr.ty)).length)) := hka
  have HQ : Hid (x.Bl (fun b => Q b ∧ b ≠ w.heap.size + 1) ∧ T.Bl (fun b => Q b ∧ b ≠ w.heap.size + 1) ∧ (∀ b, (Q b ∧ b ≠ w.heap.size + 1) → b ≠ R) ∧ (∀ b, WA.heap.size ≤ b → Q b ∧ b ≠ w.heap.size + 1) ∧ (∀ b, Q b → b ≠ R) ∧ (∀ b, w.heap.size ≤ b → Q b)) := ⟨hQ2x, hQ2T, hkne, fun b hb => by have := hkA.size; exact ⟨nw b (by omega), by omega⟩, ne, nw⟩
  have HM : Hid (okTm x.tm (T.l.map Tr.ty).length ∧ (∀ u, u ∈ T.l.map Tr.ty → goodY 4 u = true) ∧ (c + x.sz ≤ 900 ∧ T.l.length + x.sz ≤ 900) ∧ x.sz = (x.l.map TT.sz).sum + 1) := ⟨by rw [List.length_map]; exact hok, fun u hu => by obtain ⟨t, ht, rfl⟩ := List.mem_map.1 hu; rw [← goodT_eq]; exact htk t ht, hrm, hsz⟩
  have HTK : Hid (∀ t, t ∈ T.l → goodT 4 t = true) := htk
  have HTA : Hid (T.In WA) := hTA
  have HRD' : Hid (∀ y, y ∈ x.l → ∀ (Q' : Nat → Prop) (c' : Nat) (T' : Tr) (W : World), RdPre Q' R y c' T' W → Calls Tryz.prog 41 #[.pointer (some ⟨R, 0, none⟩), .agg #[.int .i64 y.k, .int .i64 y.n, .int .i64 y.t.k, .slice y.t.a y.t.l.length y.t.c, .int .i64 y.f.k, .slice y.f.a y.f.l.length y.f.c, .slice y.a y.l.length y.c], .slice T'.a T'.l.length T'.c] W (RdPost Q' R y c' (T'.l.map Tr.ty) W)) := HRD
  have p0 := hrfA.at7.c0
  have p2 := hrfA.at7.c2
  have p3 := hrfA.at7.c3
  simp only [Nat.zero_add] at p0 p2 p3
  clear hok htk hrm xi ti hcs xb tb nw ne HRD hrf hb1 hz1 hcs1 hkA hkw hQ2x hQ2T hkne hcsA hrfA hxA hTA hka hsz
  go_enter Tryz.func41, Tryz.ntmps41
  go_wp2_with fail
  rw [← hW1]
  refine HCount.out.mono ?_
  rintro e w1 ⟨rfl, rfl⟩
  rw [← hWA]
  clear HCount hWA hW1
  go_upto_if 18 with fail
  go_cut [2] (fun s2 wx => ∃ T' : Tr, s2 = .slice T'.a T'.l.length T'.c ∧ Hid (RA (fun b => Q b ∧ b ≠ w.heap.size + 1) R c x T T' w wx))
  case first =>
    by_cases hk0 : x.k = 7
    · have hk : Hid (x.k = 7) := hk0
      have hk' : (x.k == 7) = true := by simpa using hk0
      clear hk0
      rw [hk']
      clear hk'
      go_wp2_with fail
      refine HAH.out.mono ?_
      rintro e w2 ⟨N, rfl, hN, hNi, hNb, hb2⟩
      have HN : Hid (RA (fun b => Q b ∧ b ≠ w.heap.size + 1) R c x T N w w2) := by
        refine HRA.out N w2 hb2 hNi ?_ (by rw [hN, takesIn, if_pos hk.out]; rfl) (fun t ht => ?_)
        · obtain ⟨k, a, cc, l⟩ := N
          simp only at hN hNb
          subst hN
          refine Tr.Bl_mk.2 ⟨fun _ y hy => HQ.out.2.2.2.1 _ (hNb y hy), fun t ht => ?_⟩
          rcases List.mem_cons.1 ht with rfl | ht
          · exact HQ.out.1.t
          · exact (by
              have h := HQ.out.2.1
              obtain ⟨k, a, cc, l⟩ := T
              exact (Tr.Bl_mk.1 h).2 t ht)
        · rw [hN] at ht
          rcases List.mem_cons.1 ht with rfl | ht
          · exact HK.out.2.2.2.1
          · exact HTK.out t ht
      clear hN hNi hNb hb2
      go_wp2_with fail
      go_meet
      case rel => exact ⟨N, rfl, HN⟩
    · have hk : Hid (x.k ≠ 7) := hk0
      have hk' : (x.k == 7) = false := by simpa using hk0
      clear hk0
      rw [hk']
      clear hk'
      have HN : Hid (RA (fun b => Q b ∧ b ≠ w.heap.size + 1) R c x T T w WA) := HRA.out T WA (Below.refl _ _) HTA.out HQ.out.2.1 (by rw [takesIn, if_neg hk.out]) HTK.out
      go_wp2_with fail
      go_meet
      case rel => exact ⟨T, rfl, HN⟩
  case rest =>
  obtain ⟨T', rfl, HT⟩ := hcut
  have htl : T'.l.length = (takesIn x.k x.t.ty (T.l.map Tr.ty)).length := by rw [← HT.out.tl, List.length_map]
  have htl2 : T'.l.length ≤ T.l.length + 1 := by rw [htl, takesIn_length, List.length_map]; split <;> omega
  have HC : Hid (Calls Tryz.prog 66 #[.pointer (some ⟨R, 0, none⟩), .slice x.a x.l.length x.c, .slice T'.a T'.l.length T'.c] wc (RaPost (fun b => Q b ∧ b ≠ w.heap.size + 1) R x.l (c + 1) (T'.l.map Tr.ty) wc)) := by
    obtain ⟨kp, rf, cs, xi, ti, tb, tl, tk⟩ := HT.out
    have hlt := rf.lt
    have hm := HM.out.2.2
    exact readAll_any _ R x (c + 1) T' wc (fun y hy Q' c' W hp => HRD'.out y hy Q' c' T' W hp) (fun y hy => by rw [htl]; exact HK.out.2.2.2.2.2 y hy) tk ⟨by omega, by omega⟩ xi ti cs HQ.out.1 tb (fun b hb => ⟨HQ.out.2.2.2.2.2 b (by omega), by omega⟩) HQ.out.2.2.1
  have q6 := HT.out.rf.at7.c6
  simp only [Nat.zero_add] at q6
  clear HRD' HAH HRA htl htl2 HTA p0 p2 p3
  go_wp2_with fail
  refine HC.out.mono ?_
  rintro e wB ⟨hkB, ⟨hno, rfl⟩ | ⟨rs, a, cap, hyes, rfl, hnn, hrl, hbl, hcsB⟩⟩
  · have hrf : RF w.heap.size x wB := HT.out.rf.kept hkB (by omega) (by omega)
    have HN : Hid (RdPost Q R x c (T.l.map Tr.ty) w (.returned (.tuple #[.agg #[.int .i64 0, .int .i64 0, .int .i64 0, .int .i64 0, .slice none 0 0, .int .i64 0, .slice none 0 0, .slice none 0 0, .int .i64 0, .slice none 0 0], .bool false])) (put10 wB (w.heap.size + 1) (.int .i64 0) (.int .i64 0) (.int .i64 0) (.int .i64 0) (.slice none 0 0) (.int .i64 0) (.slice none 0 0) (.slice none 0 0) (.int .i64 0) (.slice none 0 0))) := by
      refine ⟨(HT.out.kp.trans hkB).new put10_kept (by omega), .inl ⟨readS_none1 ?_, rfl⟩⟩
      rw [← HT.out.tl]
      exact hno
    obtain ⟨e0, e1, e2, e3, e4, e5, e6, e7, e8, e9⟩ := hrf.put (.int .i64 0) (.int .i64 0) (.int .i64 0) (.int .i64 0) (.slice none 0 0) (.int .i64 0) (.slice none 0 0) (.slice none 0 0) (.int .i64 0) (.slice none 0 0)
    obtain ⟨_, z0, z1, z2, z3, z4, z5, z6, z7, z8, z9, fz⟩ := hrf
    have f0 := fz 0
    have f1 := fz 1
    have f2 := fz 2
    have f3 := fz 3
    have f4 := fz 4
    have f5 := fz 5
    have f6 := fz 6
    have f7 := fz 7
    have f8 := fz 8
    have f9 := fz 9
    clear hno hkB HC HT fz q6
    go_wp2_with fail
    refine bodyPost_ret (v := .tuple #[.agg #[.int .i64 0, .int .i64 0, .int .i64 0, .int .i64 0, .slice none 0 0, .int .i64 0, .slice none 0 0, .slice none 0 0, .int .i64 0, .slice none 0 0], .bool false]) ?_ rfl HN.out
    unfold put10 at e0 e1 e2 e3 e4 e5 e6 e7 e8 e9
    simp [results, Tryz.results41, go_sem, e0, e1, e2, e3, e4, e5, e6, e7, e8, e9]
  · have hneR : ∀ b, (Q b ∧ b ≠ w.heap.size + 1) → b ≠ R := HQ.out.2.2.1
    have HF : Hid (RF w.heap.size x wB ∧ Kept R none w wB ∧ x.In wB ∧ T'.In wB ∧ RL wB a rs ∧ CS R (c + 1 + (x.l.map TT.sz).sum) wB) := ⟨HT.out.rf.kept hkB (by omega) (by omega), HT.out.kp.trans hkB, HT.out.xi.keptR hkB (HQ.out.1.mono hneR), HT.out.ti.keptR hkB (HT.out.tb.mono hneR), hrl, hcsB⟩
    have hyes' : readL (x.l.map TT.tm) (takesIn x.k x.t.ty (T.l.map Tr.ty)) (c + 1) = some (rs.map tri) := by rw [← HT.out.tl]; exact hyes
    have HG : Hid (rs.length = x.l.length ∧ (∀ r, r ∈ rs → goodT ((x.l.map TT.sz).sum + 4) r.i = true) ∧ readL (x.l.map TT.tm) (takesIn x.k x.t.ty (T.l.map Tr.ty)) (c + 1) = some (rs.map tri) ∧ (∀ r, r ∈ rs → 0 ≤ r.n) ∧ (∀ r, r ∈ rs → r.y.Bl (fun b => Q b ∧ b ≠ w.heap.size + 1) ∧ r.i.Bl (fun b => Q b ∧ b ≠ w.heap.size + 1))) := by
      have hp := parts_good HM.out.1 HM.out.2.1 (by have := HM.out.2.2.1; omega) hyes'
      exact ⟨hp.1, hp.2, hyes', hnn, hbl⟩
    have HTT : Hid (T'.Bl (fun b => Q b ∧ b ≠ w.heap.size + 1) ∧ T'.l.map Tr.ty = takesIn x.k x.t.ty (T.l.map Tr.ty)) := ⟨HT.out.tb, HT.out.tl⟩
    clear hkB hyes hnn hrl hbl hcsB HC HT q6 hyes' hneR
    have hHB : w.heap.size + 1 < wB.heap.size := HF.out.1.lt
    have HK7 : Hid (∀ W', Below wB.heap.size wB W' → W'.cell? ⟨w.heap.size, 0, none⟩ = some (.int .i64 x.k) ∧ W'.cell? ⟨w.heap.size, 1, none⟩ = some (.int .i64 x.n) ∧ W'.cell? ⟨w.heap.size, 2, none⟩ = some (.int .i64 x.t.k) ∧ W'.cell? ⟨w.heap.size, 3, none⟩ = some (.slice x.t.a x.t.l.length x.t.c) ∧ W'.cell? ⟨w.heap.size, 4, none⟩ = some (.int .i64 x.f.k) ∧ W'.cell? ⟨w.heap.size, 5, none⟩ = some (.slice x.f.a x.f.l.length x.f.c) ∧ W'.cell? ⟨w.heap.size, 6, none⟩ = some (.slice x.a x.l.length x.c)) := by
      intro W' hb
      obtain ⟨c0, c1, c2, c3, c4, c5, c6⟩ := (HF.out.1.below hb).at7
      simp only [Nat.zero_add] at c0 c1 c2 c3 c4 c5 c6
      exact ⟨c0, c1, c2, c3, c4, c5, c6⟩
    have HT : Hid (∀ (W' : World) (P : Nat → Prop), Below wB.heap.size wB W' → (∀ b, Q b ∧ b ≠ w.heap.size + 1 → b < wB.heap.size → P b) → (∀ b, Q b ∧ b ≠ w.heap.size + 1 → W'.heap.size ≤ b → P b) → Calls Tryz.prog 68 #[.slice a rs.length cap] W' fun e wT => ∃ p : Tr, e = .returned (.slice p.a p.l.length p.c) ∧ Hid (p.l = rs.map (fun r => r.i)) ∧ p.In wT ∧ p.Bl P ∧ Below wB.heap.size wB wT ∧ Below W'.heap.size W' wT) := by
      intro W' P hb hP1 hP2
      refine (typesOf_any rs a cap W' (HF.out.2.2.2.2.1.below hb) (by rw [HG.out.1, HK.out.2.2.1]; have := parts_le x.k; omega)).mono ?_
      rintro e wT ⟨p, rfl, hpl, hpi, hpa, hbT⟩
      refine ⟨p, rfl, hpl, hpi, ?_, hb.trans (hbT.mono hb.size), hbT⟩
      obtain ⟨k, pa, pc, pl⟩ := p
      simp only at hpl hpa
      refine Tr.Bl_mk.2 ⟨fun hne y hy => ?_, fun t ht => ?_⟩
      · have h1 := hpa y hy
        have h3 := hb.size
        exact hP2 _ ⟨HQ.out.2.2.2.2.2 _ (by omega), by omega⟩ h1
      · rw [hpl] at ht
        obtain ⟨r, hr, rfl⟩ := List.mem_map.1 ht
        obtain ⟨q, hq, rfl⟩ := List.getElem_of_mem hr
        obtain ⟨_, _, _, _, _, hii⟩ := HF.out.2.2.2.2.1 q hq
        exact ((HG.out.2.2.2.2 _ hr).2.and hii.bl).mono fun b hb => hP1 b hb.1 hb.2
    have HU : Hid (∀ (W' : World) (p : Tr) (P : Nat → Prop), Below wB.heap.size wB W' → p.In W' → Hid (p.l = rs.map (fun r => r.i)) → p.Bl P → (∀ b, Q b ∧ b ≠ w.heap.size + 1 → b < wB.heap.size → P b) → (∀ b, Q b ∧ b ≠ w.heap.size + 1 → W'.heap.size ≤ b → P b) → Calls Tryz.prog 67 #[.agg #[.int .i64 x.k, .int .i64 x.n, .int .i64 x.t.k, .slice x.t.a x.t.l.length x.t.c, .int .i64 x.f.k, .slice x.f.a x.f.l.length x.f.c, .slice x.a x.l.length x.c], .slice p.a p.l.length p.c, .slice T'.a T'.l.length T'.c] W' fun e wU => ∃ (I U : Tr) (fl : Bool), e = .returned (.tuple #[.agg #[.int .i64 I.k, .slice I.a I.l.length I.c, .slice U.a U.l.length U.c], .bool fl]) ∧ Hid (RuRes P (ruleY x.k x.n x.t.ty (rs.map fun r => r.i.ty) (takesIn x.k x.t.ty (T.l.map Tr.ty))) fl I U wU) ∧ Below wB.heap.size wB wU ∧ Below W'.heap.size W' wU) := by
      intro W' p P hb hpi hpl hpb hP1 hP2
      replace hpl := hpl.out
      have hlp : p.l.length = rs.length := by rw [hpl, List.length_map]
      have e1 : p.l.map Tr.ty = rs.map fun r => r.i.ty := by rw [hpl, List.map_map]; rfl
      have htb := HF.out.2.2.1.t
      have hs := hb.size
      have := ruleOf_any P x p T' W' HK.out.1 HK.out.2.1 (by rw [hlp, HG.out.1]; exact HK.out.2.2.1) (fun hk => by
          have h1 := HK.out.2.2.2.2.1 hk
          have h2 : T'.l.length = T.l.length := by
            have := congrArg List.length HTT.out.2
            rw [takesIn, if_neg (by omega), List.length_map, List.length_map] at this
            exact this
          omega) (htb.below hb) ((HQ.out.1.t.and htb.bl).mono fun b hb => hP1 b hb.1 hb.2) hpi hpb (HF.out.2.2.2.1.below hb) ((HTT.out.1.and HF.out.2.2.2.1.bl).mono fun b hb => hP1 b hb.1 hb.2) (fun t ht => by
          rw [hpl] at ht
          obtain ⟨r, hr, rfl⟩ := List.mem_map.1 ht
          exact good_facts (by have := HM.out.2.2; omega) (HG.out.2.1 r hr)) (fun b hb' => hP2 b ⟨HQ.out.2.2.2.2.2 b (by omega), by omega⟩ hb')
      rw [e1, HTT.out.2] at this
      refine this.mono ?_
      rintro e wU ⟨hbU, ⟨hn, rfl⟩ | ⟨I, U, hs, rfl, hI, hU, bI, bU⟩⟩
      · exact ⟨leaf 0, leaf 0, false, rfl, .inl ⟨rfl, hn⟩, hb.trans (hbU.mono hb.size), hbU⟩
      · exact ⟨I, U, true, rfl, .inr ⟨rfl, hs, hI, hU, bI, bU⟩, hb.trans (hbU.mono hb.size), hbU⟩
    have hbX : Below wB.heap.size wB (wB.alloc (.cells #[.int .i64 0, .slice none 0 0, .slice none 0 0] 119)).drew := ((Below.refl _ _).alloc (Nat.le_refl _) _).drew
    have HT66a : Hid (Calls Tryz.prog 68 #[.slice a rs.length cap] wB.drew fun e wT => ∃ p : Tr, e = .returned (.slice p.a p.l.length p.c) ∧ Hid (p.l = rs.map (fun r => r.i)) ∧ p.In wT ∧ p.Bl (fun b => Q b ∧ b ≠ w.heap.size + 1) ∧ Below wB.heap.size wB wT ∧ Below wB.drew.heap.size wB.drew wT) := HT.out wB.drew _ ((Below.refl _ _).drew) (fun b h _ => h) (fun b h _ => h)
    have HT66b : Hid (Calls Tryz.prog 68 #[.slice a rs.length cap] (wB.alloc (.cells #[.int .i64 0, .slice none 0 0, .slice none 0 0] 119)).drew fun e wT => ∃ p : Tr, e = .returned (.slice p.a p.l.length p.c) ∧ Hid (p.l = rs.map (fun r => r.i)) ∧ p.In wT ∧ p.Bl (fun b => (Q b ∧ b ≠ w.heap.size + 1) ∧ b ≠ wB.heap.size) ∧ Below wB.heap.size wB wT ∧ ZB3 wT wB.heap.size) := by
      refine (HT.out _ (fun b => (Q b ∧ b ≠ w.heap.size + 1) ∧ b ≠ wB.heap.size) hbX (fun b h hl => ⟨h, by omega⟩) (fun b h hl => ⟨h, by simp at hl; omega⟩)).mono ?_
      rintro e wT ⟨p, rfl, h1, h2, h3, h4, h5⟩
      exact ⟨p, rfl, h1, h2, h3, h4, ZB3.later h5 (ZB3.new wB)⟩
    have HU65a : Hid (∀ (wT : World) (p : Tr), Below wB.heap.size wB wT → p.In wT → Hid (p.l = rs.map (fun r => r.i)) → p.Bl (fun b => Q b ∧ b ≠ w.heap.size + 1) → Calls Tryz.prog 67 #[.agg #[.int .i64 x.k, .int .i64 x.n, .int .i64 x.t.k, .slice x.t.a x.t.l.length x.t.c, .int .i64 x.f.k, .slice x.f.a x.f.l.length x.f.c, .slice x.a x.l.length x.c], .slice p.a p.l.length p.c, .slice T'.a T'.l.length T'.c] wT fun e wU => ∃ (I U : Tr) (fl : Bool), e = .returned (.tuple #[.agg #[.int .i64 I.k, .slice I.a I.l.length I.c, .slice U.a U.l.length U.c], .bool fl]) ∧ Hid (RuRes (fun b => Q b ∧ b ≠ w.heap.size + 1) (ruleY x.k x.n x.t.ty (rs.map fun r => r.i.ty) (takesIn x.k x.t.ty (T.l.map Tr.ty))) fl I U wU) ∧ Below wB.heap.size wB wU ∧ Below wT.heap.size wT wU) :=
      fun wT p h1 h2 h3 h4 => HU.out wT p _ h1 h2 h3 h4 (fun b h _ => h) (fun b h _ => h)
    have HU65b : Hid (∀ (wT : World) (p : Tr), Below wB.heap.size wB wT → p.In wT → Hid (p.l = rs.map (fun r => r.i)) → p.Bl (fun b => Q b ∧ b ≠ w.heap.size + 1) → Calls Tryz.prog 67 #[.agg #[.int .i64 x.k, .int .i64 x.n, .int .i64 x.t.k, .slice x.t.a x.t.l.length x.t.c, .int .i64 x.f.k, .slice x.f.a x.f.l.length x.f.c, .slice x.a x.l.length x.c], .slice p.a p.l.length p.c, .slice T'.a T'.l.length T'.c] (wT.alloc (.cells #[.int .i64 0, .slice none 0 0, .slice none 0 0] 119)) fun e wU => ∃ (I U : Tr) (fl : Bool), e = .returned (.tuple #[.agg #[.int .i64 I.k, .slice I.a I.l.length I.c, .slice U.a U.l.length U.c], .bool fl]) ∧ Hid (RuRes (fun b => (Q b ∧ b ≠ w.heap.size + 1) ∧ b ≠ wT.heap.size) (ruleY x.k x.n x.t.ty (rs.map fun r => r.i.ty) (takesIn x.k x.t.ty (T.l.map Tr.ty))) fl I U wU) ∧ Below wB.heap.size wB wU ∧ ZB3 wU wT.heap.size) := by
      intro wT p h1 h2 h3 h4
      have hA : Below wT.heap.size wT (wT.alloc (.cells #[.int .i64 0, .slice none 0 0, .slice none 0 0] 119)) := (Below.refl _ _).alloc (Nat.le_refl _) _
      refine (HU.out (wT.alloc (.cells #[.int .i64 0, .slice none 0 0, .slice none 0 0] 119)) p (fun b => (Q b ∧ b ≠ w.heap.size + 1) ∧ b ≠ wT.heap.size) (h1.trans (hA.mono h1.size)) (h2.below hA) h3 ((h4.and h2.bl).mono fun b hb => ⟨hb.1, by omega⟩) (fun b h hl => ⟨h, by have := h1.size; omega⟩) (fun b h hl => ⟨h, by simp at hl; omega⟩)).mono ?_
      rintro e wU ⟨I, U, fl, rfl, h5, h6, h7⟩
      exact ⟨I, U, fl, rfl, h5, h6, ZB3.later h7 (ZB3.new wT)⟩
    have HU65c : Hid (∀ (wT : World) (p : Tr), Below wB.heap.size wB wT → p.In wT → Hid (p.l = rs.map (fun r => r.i)) → p.Bl (fun b => (Q b ∧ b ≠ w.heap.size + 1) ∧ b ≠ wB.heap.size) → ZB3 wT wB.heap.size → Calls Tryz.prog 67 #[.agg #[.int .i64 x.k, .int .i64 x.n, .int .i64 x.t.k, .slice x.t.a x.t.l.length x.t.c, .int .i64 x.f.k, .slice x.f.a x.f.l.length x.f.c, .slice x.a x.l.length x.c], .slice p.a p.l.length p.c, .slice T'.a T'.l.length T'.c] wT fun e wU => ∃ (I U : Tr) (fl : Bool), e = .returned (.tuple #[.agg #[.int .i64 I.k, .slice I.a I.l.length I.c, .slice U.a U.l.length U.c], .bool fl]) ∧ Hid (RuRes (fun b => (Q b ∧ b ≠ w.heap.size + 1) ∧ b ≠ wB.heap.size) (ruleY x.k x.n x.t.ty (rs.map fun r => r.i.ty) (takesIn x.k x.t.ty (T.l.map Tr.ty))) fl I U wU) ∧ Below wB.heap.size wB wU ∧ ZB3 wU wB.heap.size) := by
      intro wT p h1 h2 h3 h4 hz
      have hl1 : wB.heap.size < wT.heap.size := World.block_lt_of_cell? _ _ hz.1
      refine (HU.out wT p _ h1 h2 h3 h4 (fun b h hl => ⟨h, by omega⟩) (fun b h hl => ⟨h, by omega⟩)).mono ?_
      rintro e wU ⟨I, U, fl, rfl, h5, h6, h7⟩
      exact ⟨I, U, fl, rfl, h5, h6, ZB3.later h7 hz⟩
    clear HT HU
    go_upto_region 7 with fail
    go_cut [11, 12] (fun s11 s12 wx => ∃ (G : Nat) (I U : Tr) (fl : Bool), s11 = .pointer (some ⟨G, 0, none⟩) ∧ s12 = .bool fl ∧ Hid (Below wB.heap.size wB wx ∧ At3 wx G I U ∧ RuRes (fun b => Q b ∧ b ≠ w.heap.size + 1) (ruleY x.k x.n x.t.ty (rs.map fun r => r.i.ty) (takesIn x.k x.t.ty (T.l.map Tr.ty))) fl I U wx))
    case first =>
      have hb : Below wB.heap.size wB wB.drew := (Below.refl _ _).drew
      have HKS : Hid (∀ (W0 : World) (G : Nat) (v0 v1 v2 : Value), Below wB.heap.size wB W0 → wB.heap.size ≤ G → (fun W' : World => W'.cell? ⟨w.heap.size, 0, none⟩ = some (.int .i64 x.k) ∧ W'.cell? ⟨w.heap.size, 1, none⟩ = some (.int .i64 x.n) ∧ W'.cell? ⟨w.heap.size, 2, none⟩ = some (.int .i64 x.t.k) ∧ W'.cell? ⟨w.heap.size, 3, none⟩ = some (.slice x.t.a x.t.l.length x.t.c) ∧ W'.cell? ⟨w.heap.size, 4, none⟩ = some (.int .i64 x.f.k) ∧ W'.cell? ⟨w.heap.size, 5, none⟩ = some (.slice x.f.a x.f.l.length x.f.c) ∧ W'.cell? ⟨w.heap.size, 6, none⟩ = some (.slice x.a x.l.length x.c)) (((W0.setCell ⟨G, 0, none⟩ v0).setCell ⟨G, 1, none⟩ v1).setCell ⟨G, 2, none⟩ v2)) :=
        fun W0 G v0 v1 v2 h1 h2 => HK7.out _ (((h1.setCell h2 _).setCell h2 _).setCell h2 _)
      go_region_held3 (fun W' => W'.cell? ⟨w.heap.size, 0, none⟩ = some (.int .i64 x.k) ∧ W'.cell? ⟨w.heap.size, 1, none⟩ = some (.int .i64 x.n) ∧ W'.cell? ⟨w.heap.size, 2, none⟩ = some (.int .i64 x.t.k) ∧ W'.cell? ⟨w.heap.size, 3, none⟩ = some (.slice x.t.a x.t.l.length x.t.c) ∧ W'.cell? ⟨w.heap.size, 4, none⟩ = some (.int .i64 x.f.k) ∧ W'.cell? ⟨w.heap.size, 5, none⟩ = some (.slice x.f.a x.f.l.length x.f.c) ∧ W'.cell? ⟨w.heap.size, 6, none⟩ = some (.slice x.a x.l.length x.c))
        (first
          | (with_reducible exact HK7.out _ hb)
          | (with_reducible exact HK7.out _ hbX)
          | (with_reducible exact HK7.out _ (hb.alloc hb.size _))
          | (with_reducible exact HKS.out _ _ _ _ _ hb hG)
          | (with_reducible exact HKS.out _ _ _ _ _ hb (Nat.le_refl _))
          | fail)
        (first
          | (go_at_call 68; (with_reducible refine HT66a.out.mono ?_); rintro e wT ⟨p, rfl, hpl, hpi, hpb, hb, hbT⟩)
          | (go_at_call 68; (with_reducible refine HT66b.out.mono ?_); rintro e wT ⟨p, rfl, hpl, hpi, hpb, hb, hz⟩)
          | (go_at_call 67; (with_reducible refine (HU65a.out _ p hb hpi hpl hpb).mono ?_); rintro e wU ⟨I, U, fl, rfl, HIU, hb, hbU⟩)
          | (go_at_call 67; (with_reducible refine (HU65b.out _ p hb hpi hpl hpb).mono ?_); have hG := hb.size; rintro e wU ⟨I, U, fl, rfl, HIU, hb, hz⟩; obtain ⟨y0, y1, y2, g0, g1, g2⟩ := id hz)
          | (go_at_call 67; (with_reducible refine (HU65c.out _ p hb hpi hpl hpb hz).mono ?_); clear hz; rintro e wU ⟨I, U, fl, rfl, HIU, hb, hz⟩; obtain ⟨y0, y1, y2, g0, g1, g2⟩ := id hz)
          | fail)
      · have HFi : Hid (Below wB.heap.size wB (wU.alloc (.cells #[.int .i64 I.k, .slice I.a I.l.length I.c, .slice U.a U.l.length U.c] 119)) ∧ At3 (wU.alloc (.cells #[.int .i64 I.k, .slice I.a I.l.length I.c, .slice U.a U.l.length U.c] 119)) wU.heap.size I U ∧ RuRes (fun b => Q b ∧ b ≠ w.heap.size + 1) (ruleY x.k x.n x.t.ty (rs.map fun r => r.i.ty) (takesIn x.k x.t.ty (T.l.map Tr.ty))) fl I U (wU.alloc (.cells #[.int .i64 I.k, .slice I.a I.l.length I.c, .slice U.a U.l.length U.c] 119))) := by
          have hA : Below wU.heap.size wU (wU.alloc (.cells #[.int .i64 I.k, .slice I.a I.l.length I.c, .slice U.a U.l.length U.c] 119)) := (Below.refl _ _).alloc (Nat.le_refl _) _
          exact ⟨hb.trans (hA.mono hb.size), At3.new wU I U, HIU.out.below hA⟩
        clear HIU hb hbU hbT hpl hpi hpb
        go_wp2_with fail
        go_meet
        case rel => exact ⟨_, I, U, fl, rfl, rfl, HFi⟩
      · have HFi : Hid (Below wB.heap.size wB (((wU.setCell ⟨wT.heap.size, 0, none⟩ (.int .i64 I.k)).setCell ⟨wT.heap.size, 1, none⟩ (.slice I.a I.l.length I.c)).setCell ⟨wT.heap.size, 2, none⟩ (.slice U.a U.l.length U.c)) ∧ At3 (((wU.setCell ⟨wT.heap.size, 0, none⟩ (.int .i64 I.k)).setCell ⟨wT.heap.size, 1, none⟩ (.slice I.a I.l.length I.c)).setCell ⟨wT.heap.size, 2, none⟩ (.slice U.a U.l.length U.c)) wT.heap.size I U ∧ RuRes (fun b => Q b ∧ b ≠ w.heap.size + 1) (ruleY x.k x.n x.t.ty (rs.map fun r => r.i.ty) (takesIn x.k x.t.ty (T.l.map Tr.ty))) fl I U (((wU.setCell ⟨wT.heap.size, 0, none⟩ (.int .i64 I.k)).setCell ⟨wT.heap.size, 1, none⟩ (.slice I.a I.l.length I.c)).setCell ⟨wT.heap.size, 2, none⟩ (.slice U.a U.l.length U.c))) :=
          ⟨((hb.setCell hG _).setCell hG _).setCell hG _, hz.put I U, HIU.out.set (setR_kept.trans (setR_kept.trans setR_kept))⟩
        clear HIU hb hbT hpl hpi hpb hz y0 y1 y2 g0 g1 g2
        go_wp2_with fail
        go_meet
        case rel => exact ⟨_, I, U, fl, rfl, rfl, HFi⟩
      · have HFi : Hid (Below wB.heap.size wB (((wU.setCell ⟨wB.heap.size, 0, none⟩ (.int .i64 I.k)).setCell ⟨wB.heap.size, 1, none⟩ (.slice I.a I.l.length I.c)).setCell ⟨wB.heap.size, 2, none⟩ (.slice U.a U.l.length U.c)) ∧ At3 (((wU.setCell ⟨wB.heap.size, 0, none⟩ (.int .i64 I.k)).setCell ⟨wB.heap.size, 1, none⟩ (.slice I.a I.l.length I.c)).setCell ⟨wB.heap.size, 2, none⟩ (.slice U.a U.l.length U.c)) wB.heap.size I U ∧ RuRes (fun b => Q b ∧ b ≠ w.heap.size + 1) (ruleY x.k x.n x.t.ty (rs.map fun r => r.i.ty) (takesIn x.k x.t.ty (T.l.map Tr.ty))) fl I U (((wU.setCell ⟨wB.heap.size, 0, none⟩ (.int .i64 I.k)).setCell ⟨wB.heap.size, 1, none⟩ (.slice I.a I.l.length I.c)).setCell ⟨wB.heap.size, 2, none⟩ (.slice U.a U.l.length U.c))) :=
          ⟨((hb.setCell (Nat.le_refl _) _).setCell (Nat.le_refl _) _).setCell (Nat.le_refl _) _, hz.put I U, HIU.out.set (setR_kept.trans (setR_kept.trans setR_kept))⟩
        clear HIU hb hpl hpi hpb hz y0 y1 y2 g0 g1 g2
        go_wp2_with fail
        go_meet
        case rel => exact ⟨_, I, U, fl, rfl, rfl, HFi⟩
    case rest =>
    obtain ⟨G, I, U, fl, rfl, rfl, HC⟩ := hcut
    clear HT66a HT66b HU65a HU65b HU65c hbX HK7
    have hbC := HC.out.1
    rcases HC.out.2.2 with ⟨rfl, hnone⟩ | ⟨rfl, hrule, hI, hU, bI, bU⟩
    · have HN : Hid (RdPost Q R x c (T.l.map Tr.ty) w (.returned (.tuple #[.agg #[.int .i64 0, .int .i64 0, .int .i64 0, .int .i64 0, .slice none 0 0, .int .i64 0, .slice none 0 0, .slice none 0 0, .int .i64 0, .slice none 0 0], .bool false])) (put10 wc (w.heap.size + 1) (.int .i64 0) (.int .i64 0) (.int .i64 0) (.int .i64 0) (.slice none 0 0) (.int .i64 0) (.slice none 0 0) (.slice none 0 0) (.int .i64 0) (.slice none 0 0))) :=
        ⟨(HF.out.2.1.trans (Kept.of_below hbC)).new put10_kept (by omega), .inl ⟨readS_none2 HG.out.2.2.1 hnone, rfl⟩⟩
      have hrf := HF.out.1.below hbC
      obtain ⟨e0, e1, e2, e3, e4, e5, e6, e7, e8, e9⟩ := hrf.put (.int .i64 0) (.int .i64 0) (.int .i64 0) (.int .i64 0) (.slice none 0 0) (.int .i64 0) (.slice none 0 0) (.slice none 0 0) (.int .i64 0) (.slice none 0 0)
      obtain ⟨_, z0, z1, z2, z3, z4, z5, z6, z7, z8, z9, fz⟩ := hrf
      have f0 := fz 0
      have f1 := fz 1
      have f2 := fz 2
      have f3 := fz 3
      have f4 := fz 4
      have f5 := fz 5
      have f6 := fz 6
      have f7 := fz 7
      have f8 := fz 8
      have f9 := fz 9
      clear fz hnone hbC
      go_wp2_with fail
      refine bodyPost_ret (v := .tuple #[.agg #[.int .i64 0, .int .i64 0, .int .i64 0, .int .i64 0, .slice none 0 0, .int .i64 0, .slice none 0 0, .slice none 0 0, .int .i64 0, .slice none 0 0], .bool false]) ?_ rfl HN.out
      unfold put10 at e0 e1 e2 e3 e4 e5 e6 e7 e8 e9
      simp [results, Tryz.results41, go_sem, e0, e1, e2, e3, e4, e5, e6, e7, e8, e9]
    · have hgr := rule_good (ps := rs.map fun r => r.i.ty) ((x.l.map TT.sz).sum + 4) (by omega) HK.out.1 HK.out.2.1 (by rw [List.length_map, HG.out.1]; exact HK.out.2.2.1) (by rw [← goodT_eq]; exact HK.out.2.2.2.1) (takesIn_good (by rw [← goodT_eq]; exact HK.out.2.2.2.1) HM.out.2.1) (fun u hu => by obtain ⟨r, hr, rfl⟩ := List.mem_map.1 hu; rw [← goodT_eq]; exact HG.out.2.1 r hr) hrule
      have hlU : rs.length = U.l.length := by have := hgr.1; simpa using this.symm
      have hrs3 : rs.length ≤ 3 := by rw [HG.out.1, HK.out.2.2.1]; exact parts_le x.k
      have hrok : ∀ r, r ∈ rs → r.i.right ∧ r.i.hgt ≤ 1000 ∧ r.i.sm := fun r hr => good_facts (by have := HM.out.2.2; omega) (HG.out.2.1 r hr)
      have hUok : ∀ u, u ∈ U.l → u.right ∧ u.hgt ≤ 1000 ∧ u.sm := fun u hu => good_facts (n := (x.l.map TT.sz).sum + 4 + 1) (by have := HM.out.2.2; omega) (by rw [goodT_eq]; exact hgr.2.2 _ (List.mem_map.2 ⟨u, hu, rfl⟩))
      obtain ⟨ft, hft⟩ : ∃ ft, fitL (rs.map fun r => r.i.ty) (U.l.map Tr.ty) = ft := ⟨_, rfl⟩
      have H67 : Hid (Calls Tryz.prog 69 #[.slice a rs.length cap, .slice U.a U.l.length U.c] wc fun e w' => e = .returned (.bool ft) ∧ Below wc.heap.size wc w') := by
        have := allFit_any rs a cap U wc (HF.out.2.2.2.2.1.below hbC) hU hlU (by omega) (fun r hr => (hrok r hr).2)
        rw [hft] at this
        exact this
      have r2 := HC.out.2.1.u
      have HI : Hid (Below wB.heap.size wB wc ∧ At3 wc G I U ∧ I.In wc ∧ U.In wc ∧ I.Bl (fun b => Q b ∧ b ≠ w.heap.size + 1) ∧ U.Bl (fun b => Q b ∧ b ≠ w.heap.size + 1)) := ⟨hbC, HC.out.2.1, hI, hU, bI, bU⟩
      have HR : Hid (ruleY x.k x.n x.t.ty (rs.map fun r => r.i.ty) (takesIn x.k x.t.ty (T.l.map Tr.ty)) = some (I.ty, U.l.map Tr.ty) ∧ rs.length = U.l.length ∧ rs.length ≤ 3 ∧ (∀ r, r ∈ rs → r.i.right ∧ r.i.hgt ≤ 1000 ∧ r.i.sm) ∧ (∀ u, u ∈ U.l → u.right ∧ u.hgt ≤ 1000 ∧ u.sm) ∧ fitL (rs.map fun r => r.i.ty) (U.l.map Tr.ty) = ft) := ⟨hrule, hlU, hrs3, hrok, hUok, hft⟩
      clear hrule hlU hrs3 hrok hUok hft hbC hI hU bI bU HC hgr
      go_wp2_with fail
      refine H67.out.mono ?_
      rintro e wD ⟨rfl, hbD⟩
      have HID : Hid (Below wB.heap.size wB wD ∧ At3 wD G I U ∧ I.In wD ∧ U.In wD) := ⟨HI.out.1.trans (hbD.mono HI.out.1.size), HI.out.2.1.below hbD, HI.out.2.2.1.below hbD, HI.out.2.2.2.1.below hbD⟩
      clear H67 r2 hbD
      cases ft
      · have HN : Hid (RdPost Q R x c (T.l.map Tr.ty) w (.returned (.tuple #[.agg #[.int .i64 0, .int .i64 0, .int .i64 0, .int .i64 0, .slice none 0 0, .int .i64 0, .slice none 0 0, .slice none 0 0, .int .i64 0, .slice none 0 0], .bool false])) (put10 wD (w.heap.size + 1) (.int .i64 0) (.int .i64 0) (.int .i64 0) (.int .i64 0) (.slice none 0 0) (.int .i64 0) (.slice none 0 0) (.slice none 0 0) (.int .i64 0) (.slice none 0 0))) :=
          ⟨(HF.out.2.1.trans (Kept.of_below HID.out.1)).new put10_kept (by omega), .inl ⟨readS_none3 HG.out.2.2.1 HR.out.1 HR.out.2.2.2.2.2, rfl⟩⟩
        have hrf := HF.out.1.below HID.out.1
        obtain ⟨e0, e1, e2, e3, e4, e5, e6, e7, e8, e9⟩ := hrf.put (.int .i64 0) (.int .i64 0) (.int .i64 0) (.int .i64 0) (.slice none 0 0) (.int .i64 0) (.slice none 0 0) (.slice none 0 0) (.int .i64 0) (.slice none 0 0)
        obtain ⟨_, z0, z1, z2, z3, z4, z5, z6, z7, z8, z9, fz⟩ := hrf
        have f0 := fz 0
        have f1 := fz 1
        have f2 := fz 2
        have f3 := fz 3
        have f4 := fz 4
        have f5 := fz 5
        have f6 := fz 6
        have f7 := fz 7
        have f8 := fz 8
        have f9 := fz 9
        clear fz HI
        go_wp2_with fail
        refine bodyPost_ret (v := .tuple #[.agg #[.int .i64 0, .int .i64 0, .int .i64 0, .int .i64 0, .slice none 0 0, .int .i64 0, .slice none 0 0, .slice none 0 0, .int .i64 0, .slice none 0 0], .bool false]) ?_ rfl HN.out
        unfold put10 at e0 e1 e2 e3 e4 e5 e6 e7 e8 e9
        simp [results, Tryz.results41, go_sem, e0, e1, e2, e3, e4, e5, e6, e7, e8, e9]
      · have hbD := HID.out.1
        have hBD : wB.heap.size ≤ wD.heap.size := hbD.size
        have HK4 : Hid (∀ W', Below wD.heap.size wD W' → W'.cell? ⟨w.heap.size, 0, none⟩ = some (.int .i64 x.k) ∧ W'.cell? ⟨w.heap.size, 1, none⟩ = some (.int .i64 x.n) ∧ W'.cell? ⟨w.heap.size, 2, none⟩ = some (.int .i64 x.t.k) ∧ W'.cell? ⟨w.heap.size, 3, none⟩ = some (.slice x.t.a x.t.l.length x.t.c) ∧ W'.cell? ⟨G, 2, none⟩ = some (.slice U.a U.l.length U.c)) := by
          intro W' hb
          obtain ⟨c0, c1, c2, c3, _, _, _⟩ := ((HF.out.1.below hbD).below hb).at7
          simp only [Nat.zero_add] at c0 c1 c2 c3
          exact ⟨c0, c1, c2, c3, (HID.out.2.1.below hb).u⟩
        have hQn : ∀ b, wD.heap.size ≤ b → Q b ∧ b ≠ w.heap.size + 1 := fun b hb => ⟨HQ.out.2.2.2.2.2 b (by omega), by omega⟩
        have H39 : Hid (∀ W', Below wD.heap.size wD W' → Calls Tryz.prog 42 #[.agg #[.int .i64 x.t.k, .slice x.t.a x.t.l.length x.t.c]] W' fun e wE => ∃ t : Tr, e = .returned (.agg #[.int .i64 t.k, .slice t.a t.l.length t.c]) ∧ Hid (t.ty = x.t.ty) ∧ t.In wE ∧ t.Bl (W'.heap.size ≤ ·) ∧ Below wD.heap.size wD wE ∧ Below W'.heap.size W' wE) := by
          intro W' hb
          have hg := good_facts (n := 4) (by omega) HK.out.2.2.2.1
          refine (fresh_any x.t W' ((HF.out.2.2.1.t.below hbD).below hb) hg.1 hg.2.1).mono ?_
          rintro e wE ⟨t, rfl, h1, h2, h3, h4⟩
          exact ⟨t, rfl, h1, h2, h3, hb.trans (h4.mono hb.size), h4⟩
        have H68 : Hid (∀ (W' : World) (P : Nat → Prop), Below wD.heap.size wD W' → (∀ b, Q b ∧ b ≠ w.heap.size + 1 → b < wD.heap.size → P b) → (∀ b, W'.heap.size ≤ b → P b) → Calls Tryz.prog 70 #[.slice a rs.length cap, .slice U.a U.l.length U.c] W' fun e wK => ∃ (g : Nat) (zs : List TT), e = .returned (.slice (some ⟨g, 0, none⟩) zs.length zs.length) ∧ Hid (CaRes P rs U g zs wK) ∧ Below wD.heap.size wD wK ∧ Below W'.heap.size W' wK) := by
          intro W' P hb hP1 hP2
          have hrl := (HF.out.2.2.2.2.1.below hbD)
          refine (castAll_any P rs a cap U W' (hrl.below hb) (HID.out.2.2.2.below hb) HR.out.2.1 (by have := HR.out.2.2.1; omega) HR.out.2.2.2.1 (fun u hu => ⟨(HR.out.2.2.2.2.1 u hu).1, (HR.out.2.2.2.2.1 u hu).2.1⟩) hP2 (fun r hr => ?_)).mono ?_
          · obtain ⟨q, hq, rfl⟩ := List.getElem_of_mem hr
            obtain ⟨_, _, _, _, hyy, _⟩ := hrl q hq
            exact ((HG.out.2.2.2.2 _ hr).1.and hyy.bl).mono fun b hb => hP1 b hb.1 hb.2
          · rintro e wK ⟨zs, rfl, hrow, hlen, htm⟩
            refine ⟨W'.heap.size, zs, by rw [hlen], ⟨hrow.is, fun z hz => ⟨(hrow.ins z hz).1, (hrow.ins z hz).2.mono fun b hb => hb.2⟩, hP2 _ (Nat.le_refl _), castL_of rs U.l zs hlen HR.out.2.1 HG.out.2.2.2.1 htm⟩, hb.trans (hrow.bel.mono hb.size), hrow.bel⟩
        have hbX : Below wD.heap.size wD (wD.alloc (.cells #[.int .i64 0, .int .i64 0, .int .i64 0, .slice none 0 0, .int .i64 0, .slice none 0 0, .slice none 0 0] 27)).drew := ((Below.refl _ _).alloc (Nat.le_refl _) _).drew
        have H39a : Hid (Calls Tryz.prog 42 #[.agg #[.int .i64 x.t.k, .slice x.t.a x.t.l.length x.t.c]] wD.drew fun e wE => ∃ t : Tr, e = .returned (.agg #[.int .i64 t.k, .slice t.a t.l.length t.c]) ∧ Hid (t.ty = x.t.ty) ∧ t.In wE ∧ t.Bl (fun b => Q b ∧ b ≠ w.heap.size + 1) ∧ Below wD.heap.size wD wE ∧ Below wD.drew.heap.size wD.drew wE) := by
          refine (H39.out wD.drew ((Below.refl _ _).drew)).mono ?_
          rintro e wE ⟨t, rfl, h1, h2, h3, h4, h5⟩
          exact ⟨t, rfl, h1, h2, h3.mono fun b hb => hQn b hb, h4, h5⟩
        have H39b : Hid (Calls Tryz.prog 42 #[.agg #[.int .i64 x.t.k, .slice x.t.a x.t.l.length x.t.c]] (wD.alloc (.cells #[.int .i64 0, .int .i64 0, .int .i64 0, .slice none 0 0, .int .i64 0, .slice none 0 0, .slice none 0 0] 27)).drew fun e wE => ∃ t : Tr, e = .returned (.agg #[.int .i64 t.k, .slice t.a t.l.length t.c]) ∧ Hid (t.ty = x.t.ty) ∧ t.In wE ∧ t.Bl (fun b => (Q b ∧ b ≠ w.heap.size + 1) ∧ b ≠ wD.heap.size) ∧ Below wD.heap.size wD wE ∧ ZB7 wE wD.heap.size) := by
          refine (H39.out _ hbX).mono ?_
          rintro e wE ⟨t, rfl, h1, h2, h3, h4, h5⟩
          refine ⟨t, rfl, h1, h2, h3.mono fun b hb => ?_, h4, ZB7.later h5 (ZB7.later ((Below.refl _ _).drew) (ZB7.new wD))⟩
          simp at hb
          exact ⟨hQn b (by omega), by omega⟩
        have H68a : Hid (∀ wE, Below wD.heap.size wD wE → Calls Tryz.prog 70 #[.slice a rs.length cap, .slice U.a U.l.length U.c] wE fun e wK => ∃ (g : Nat) (zs : List TT), e = .returned (.slice (some ⟨g, 0, none⟩) zs.length zs.length) ∧ Hid (CaRes (fun b => Q b ∧ b ≠ w.heap.size + 1) rs U g zs wK) ∧ Below wD.heap.size wD wK ∧ Below wE.heap.size wE wK) :=
          fun wE h1 => H68.out wE _ h1 (fun b h _ => h) (fun b h => hQn b (by have := h1.size; omega))
        have H68b : Hid (∀ wE, Below wD.heap.size wD wE → Calls Tryz.prog 70 #[.slice a rs.length cap, .slice U.a U.l.length U.c] (wE.alloc (.cells #[.int .i64 0, .int .i64 0, .int .i64 0, .slice none 0 0, .int .i64 0, .slice none 0 0, .slice none 0 0] 27)) fun e wK => ∃ (g : Nat) (zs : List TT), e = .returned (.slice (some ⟨g, 0, none⟩) zs.length zs.length) ∧ Hid (CaRes (fun b => (Q b ∧ b ≠ w.heap.size + 1) ∧ b ≠ wE.heap.size) rs U g zs wK) ∧ Below wD.heap.size wD wK ∧ Below wE.heap.size wE wK ∧ ZB7 wK wE.heap.size) := by
          intro wE h1
          have hA : Below wE.heap.size wE (wE.alloc (.cells #[.int .i64 0, .int .i64 0, .int .i64 0, .slice none 0 0, .int .i64 0, .slice none 0 0, .slice none 0 0] 27)) := (Below.refl _ _).alloc (Nat.le_refl _) _
          refine (H68.out (wE.alloc (.cells #[.int .i64 0, .int .i64 0, .int .i64 0, .slice none 0 0, .int .i64 0, .slice none 0 0, .slice none 0 0] 27)) (fun b => (Q b ∧ b ≠ w.heap.size + 1) ∧ b ≠ wE.heap.size) (h1.trans (hA.mono h1.size)) (fun b h hl => ⟨h, by have := h1.size; omega⟩) (fun b hb => ⟨hQn b (by have := h1.size; simp at hb; omega), by simp at hb; omega⟩)).mono ?_
          rintro e wK ⟨g, zs, rfl, h2, h3, h4⟩
          exact ⟨g, zs, rfl, h2, h3, hA.trans (h4.mono hA.size), ZB7.later h4 (ZB7.new wE)⟩
        have H68c : Hid (∀ wE, Below wD.heap.size wD wE → ZB7 wE wD.heap.size → Calls Tryz.prog 70 #[.slice a rs.length cap, .slice U.a U.l.length U.c] wE fun e wK => ∃ (g : Nat) (zs : List TT), e = .returned (.slice (some ⟨g, 0, none⟩) zs.length zs.length) ∧ Hid (CaRes (fun b => (Q b ∧ b ≠ w.heap.size + 1) ∧ b ≠ wD.heap.size) rs U g zs wK) ∧ Below wD.heap.size wD wK ∧ Below wE.heap.size wE wK ∧ ZB7 wK wD.heap.size) := by
          intro wE h1 hz
          have hl1 : wD.heap.size < wE.heap.size := hz.lt
          refine (H68.out wE (fun b => (Q b ∧ b ≠ w.heap.size + 1) ∧ b ≠ wD.heap.size) h1 (fun b h hl => ⟨h, by omega⟩) (fun b h => ⟨hQn b (by omega), by omega⟩)).mono ?_
          rintro e wK ⟨g, zs, rfl, h2, h3, h4⟩
          exact ⟨g, zs, rfl, h2, h3, h4, ZB7.later h4 hz⟩
        clear H39 H68 hbD hQn
        go_upto_region 10 with fail
        go_cut [13] (fun s13 wx => ∃ (G' : Nat) (Y : TT), s13 = .pointer (some ⟨G', 0, none⟩) ∧ Hid (Below wD.heap.size wD wx ∧ At7 wx G' 0 Y ∧ Y.In wx ∧ Y.Bl (fun b => Q b ∧ b ≠ w.heap.size + 1) ∧ Y.tm = ⟨x.k, x.n, x.t.ty, anyY, castL (rs.map tri) (U.l.map Tr.ty)⟩))
        case first =>
          have hb : Below wD.heap.size wD wD.drew := (Below.refl _ _).drew
          have HKS : Hid (∀ (W0 : World) (G' : Nat) (v0 v1 v2 v3 v4 v5 v6 : Value), Below wD.heap.size wD W0 → wD.heap.size ≤ G' → (fun W' : World => W'.cell? ⟨w.heap.size, 0, none⟩ = some (.int .i64 x.k) ∧ W'.cell? ⟨w.heap.size, 1, none⟩ = some (.int .i64 x.n) ∧ W'.cell? ⟨w.heap.size, 2, none⟩ = some (.int .i64 x.t.k) ∧ W'.cell? ⟨w.heap.size, 3, none⟩ = some (.slice x.t.a x.t.l.length x.t.c) ∧ W'.cell? ⟨G, 2, none⟩ = some (.slice U.a U.l.length U.c)) (((((((W0.setCell ⟨G', 0, none⟩ v0).setCell ⟨G', 1, none⟩ v1).setCell ⟨G', 2, none⟩ v2).setCell ⟨G', 3, none⟩ v3).setCell ⟨G', 4, none⟩ v4).setCell ⟨G', 5, none⟩ v5).setCell ⟨G', 6, none⟩ v6)) :=
            fun W0 G' v0 v1 v2 v3 v4 v5 v6 h1 h2 => HK4.out _ (((((((h1.setCell h2 _).setCell h2 _).setCell h2 _).setCell h2 _).setCell h2 _).setCell h2 _).setCell h2 _)
          go_region_held3 (fun W' => W'.cell? ⟨w.heap.size, 0, none⟩ = some (.int .i64 x.k) ∧ W'.cell? ⟨w.heap.size, 1, none⟩ = some (.int .i64 x.n) ∧ W'.cell? ⟨w.heap.size, 2, none⟩ = some (.int .i64 x.t.k) ∧ W'.cell? ⟨w.heap.size, 3, none⟩ = some (.slice x.t.a x.t.l.length x.t.c) ∧ W'.cell? ⟨G, 2, none⟩ = some (.slice U.a U.l.length U.c))
            (first
              | (with_reducible exact HK4.out _ hb)
              | (with_reducible exact HK4.out _ hbX)
              | (with_reducible exact HK4.out _ (hb.alloc hb.size _))
              | (with_reducible exact HKS.out _ _ _ _ _ _ _ _ _ hb hG)
              | (with_reducible exact HKS.out _ _ _ _ _ _ _ _ _ hb (Nat.le_refl _))
              | fail)
            (first
              | (go_at_call 42; (with_reducible refine H39a.out.mono ?_); rintro e wE ⟨t, rfl, hty, hti, htb, hb, hbE⟩)
              | (go_at_call 42; (with_reducible refine H39b.out.mono ?_); rintro e wE ⟨t, rfl, hty, hti, htb, hb, hz⟩)
              | (go_at_call 70; (with_reducible refine (H68c.out _ hb hz).mono ?_); clear hz; rintro e wK ⟨g, zs, rfl, HCA, hb, hbK, hz⟩; obtain ⟨⟨y0, y1, y2, y3, y4, y5, y6⟩, g0, g1, g2, g3, g4, g5, g6⟩ := id hz)
              | (go_at_call 70; (with_reducible refine (H68a.out _ hb).mono ?_); rintro e wK ⟨g, zs, rfl, HCA, hb, hbK⟩)
              | (go_at_call 70; (with_reducible refine (H68b.out _ hb).mono ?_); have hG := hb.size; rintro e wK ⟨g, zs, rfl, HCA, hb, hbK, hz⟩; obtain ⟨⟨y0, y1, y2, y3, y4, y5, y6⟩, g0, g1, g2, g3, g4, g5, g6⟩ := id hz)
              | fail)
          · have HFi : Hid (Below wD.heap.size wD (wK.alloc (.cells #[.int .i64 x.k, .int .i64 x.n, .int .i64 t.k, .slice t.a t.l.length t.c, .int .i64 0, .slice none 0 0, .slice (some ⟨g, 0, none⟩) zs.length zs.length] 27)) ∧ At7 (wK.alloc (.cells #[.int .i64 x.k, .int .i64 x.n, .int .i64 t.k, .slice t.a t.l.length t.c, .int .i64 0, .slice none 0 0, .slice (some ⟨g, 0, none⟩) zs.length zs.length] 27)) wK.heap.size 0 (TT.mk x.k x.n t (leaf 0) (some ⟨g, 0, none⟩) zs.length zs) ∧ (TT.mk x.k x.n t (leaf 0) (some ⟨g, 0, none⟩) zs.length zs).In (wK.alloc (.cells #[.int .i64 x.k, .int .i64 x.n, .int .i64 t.k, .slice t.a t.l.length t.c, .int .i64 0, .slice none 0 0, .slice (some ⟨g, 0, none⟩) zs.length zs.length] 27)) ∧ (TT.mk x.k x.n t (leaf 0) (some ⟨g, 0, none⟩) zs.length zs).Bl (fun b => Q b ∧ b ≠ w.heap.size + 1) ∧ (TT.mk x.k x.n t (leaf 0) (some ⟨g, 0, none⟩) zs.length zs).tm = ⟨x.k, x.n, x.t.ty, anyY, castL (rs.map tri) (U.l.map Tr.ty)⟩) := by
              obtain ⟨h1, h2, h3⟩ := HCA.out.tree x.k x.n t (hti.below hbK) htb
              have hA : Below wK.heap.size wK (wK.alloc (.cells #[.int .i64 x.k, .int .i64 x.n, .int .i64 t.k, .slice t.a t.l.length t.c, .int .i64 0, .slice none 0 0, .slice (some ⟨g, 0, none⟩) zs.length zs.length] 27)) := (Below.refl _ _).alloc (Nat.le_refl _) _
              refine ⟨hb.trans (hA.mono hb.size), At7.new wK (TT.mk x.k x.n t (leaf 0) (some ⟨g, 0, none⟩) zs.length zs), h1.below hA, h2, ?_⟩
              rw [h3, hty.out]
            clear HCA hb hti htb hty hbK hbE
            go_wp2_with fail
            go_meet
            case rel => exact ⟨_, (TT.mk x.k x.n t (leaf 0) (some ⟨g, 0, none⟩) zs.length zs), rfl, HFi⟩
          · have HFi : Hid (Below wD.heap.size wD (put7 wK wE.heap.size (TT.mk x.k x.n t (leaf 0) (some ⟨g, 0, none⟩) zs.length zs)) ∧ At7 (put7 wK wE.heap.size (TT.mk x.k x.n t (leaf 0) (some ⟨g, 0, none⟩) zs.length zs)) wE.heap.size 0 (TT.mk x.k x.n t (leaf 0) (some ⟨g, 0, none⟩) zs.length zs) ∧ (TT.mk x.k x.n t (leaf 0) (some ⟨g, 0, none⟩) zs.length zs).In (put7 wK wE.heap.size (TT.mk x.k x.n t (leaf 0) (some ⟨g, 0, none⟩) zs.length zs)) ∧ (TT.mk x.k x.n t (leaf 0) (some ⟨g, 0, none⟩) zs.length zs).Bl (fun b => Q b ∧ b ≠ w.heap.size + 1) ∧ (TT.mk x.k x.n t (leaf 0) (some ⟨g, 0, none⟩) zs.length zs).tm = ⟨x.k, x.n, x.t.ty, anyY, castL (rs.map tri) (U.l.map Tr.ty)⟩) := by
              obtain ⟨h1, h2, h3⟩ := HCA.out.tree x.k x.n t (hti.below hbK) ((htb.and hti.bl).mono fun b hb => ⟨hb.1, by omega⟩)
              refine ⟨hb.trans ((put7_kept.below (by simp) (Nat.le_of_lt hz.lt)).mono hG), (put7_box hz.box).at7, h1.keptR put7_kept (h2.mono fun b hb => hb.2), h2.mono fun b hb => hb.1, ?_⟩
              rw [h3, hty.out]
            clear HCA hb hti htb hty hbK hbE hz y0 y1 y2 y3 y4 y5 y6 g0 g1 g2 g3 g4 g5 g6
            go_wp2_with fail
            go_meet
            case rel => exact ⟨_, (TT.mk x.k x.n t (leaf 0) (some ⟨g, 0, none⟩) zs.length zs), rfl, HFi⟩
          · have HFi : Hid (Below wD.heap.size wD (put7 wK wD.heap.size (TT.mk x.k x.n t (leaf 0) (some ⟨g, 0, none⟩) zs.length zs)) ∧ At7 (put7 wK wD.heap.size (TT.mk x.k x.n t (leaf 0) (some ⟨g, 0, none⟩) zs.length zs)) wD.heap.size 0 (TT.mk x.k x.n t (leaf 0) (some ⟨g, 0, none⟩) zs.length zs) ∧ (TT.mk x.k x.n t (leaf 0) (some ⟨g, 0, none⟩) zs.length zs).In (put7 wK wD.heap.size (TT.mk x.k x.n t (leaf 0) (some ⟨g, 0, none⟩) zs.length zs)) ∧ (TT.mk x.k x.n t (leaf 0) (some ⟨g, 0, none⟩) zs.length zs).Bl (fun b => Q b ∧ b ≠ w.heap.size + 1) ∧ (TT.mk x.k x.n t (leaf 0) (some ⟨g, 0, none⟩) zs.length zs).tm = ⟨x.k, x.n, x.t.ty, anyY, castL (rs.map tri) (U.l.map Tr.ty)⟩) := by
              obtain ⟨h1, h2, h3⟩ := HCA.out.tree x.k x.n t (hti.below hbK) htb
              refine ⟨hb.trans ((put7_kept.below (by simp) (Nat.le_of_lt hz.lt)).mono (Nat.le_refl _)), (put7_box hz.box).at7, h1.keptR put7_kept (h2.mono fun b hb => hb.2), h2.mono fun b hb => hb.1, ?_⟩
              rw [h3, hty.out]
            clear HCA hb hti htb hty hbK hz y0 y1 y2 y3 y4 y5 y6 g0 g1 g2 g3 g4 g5 g6
            go_wp2_with fail
            go_meet
            case rel => exact ⟨_, (TT.mk x.k x.n t (leaf 0) (some ⟨g, 0, none⟩) zs.length zs), rfl, HFi⟩
        case rest =>
        obtain ⟨G', Y, rfl, HY⟩ := hcut
        clear H39a H39b H68a H68b H68c hbX HK4
        obtain ⟨hbY, hY7, hYi, hYb, hYt⟩ := HY.out
        have hbYB : Below wB.heap.size wB wc := HID.out.1.trans (hbY.mono hBD)
        have HN : Hid (RdPost Q R x c (T.l.map Tr.ty) w (.returned (.tuple #[.agg #[.int .i64 (c : Int), .int .i64 Y.k, .int .i64 Y.n, .int .i64 Y.t.k, .slice Y.t.a Y.t.l.length Y.t.c, .int .i64 Y.f.k, .slice Y.f.a Y.f.l.length Y.f.c, .slice Y.a Y.l.length Y.c, .int .i64 I.k, .slice I.a I.l.length I.c], .bool true])) (put10 wc (w.heap.size + 1) (.int .i64 (c : Int)) (.int .i64 Y.k) (.int .i64 Y.n) (.int .i64 Y.t.k) (.slice Y.t.a Y.t.l.length Y.t.c) (.int .i64 Y.f.k) (.slice Y.f.a Y.f.l.length Y.f.c) (.slice Y.a Y.l.length Y.c) (.int .i64 I.k) (.slice I.a I.l.length I.c))) := by
          have hk := put10_kept (w := wc) (J := w.heap.size + 1) (v0 := .int .i64 (c : Int)) (v1 := .int .i64 Y.k) (v2 := .int .i64 Y.n) (v3 := .int .i64 Y.t.k) (v4 := .slice Y.t.a Y.t.l.length Y.t.c) (v5 := .int .i64 Y.f.k) (v6 := .slice Y.f.a Y.f.l.length Y.f.c) (v7 := .slice Y.a Y.l.length Y.c) (v8 := .int .i64 I.k) (v9 := .slice I.a I.l.length I.c)
          have hcsY := HF.out.2.2.2.2.2.below hbYB
          refine ⟨(HF.out.2.1.trans (Kept.of_below hbYB)).new hk (by omega), .inr ⟨⟨(c : Int), Y, I⟩, ?_, rfl, rfl, hYi.keptR hk (hYb.mono fun b hb => hb.2), (HID.out.2.2.1.below hbY).keptR hk (HI.out.2.2.2.2.1.mono fun b hb => hb.2), hYb.mono fun b hb => hb.1, HI.out.2.2.2.2.1.mono fun b hb => hb.1, ?_⟩⟩
          · rw [hYt]
            exact readS_yes HG.out.2.2.1 HR.out.1 HR.out.2.2.2.2.2
          · have e : c + x.sz = c + 1 + (x.l.map TT.sz).sum := by have := HM.out.2.2.2; omega
            rw [e]
            exact ⟨hk.cell hcsY.c (by omega), hk.fz hcsY.f hcsY.lt (by omega)⟩
        have hrf := HF.out.1.below hbYB
        obtain ⟨e0, e1, e2, e3, e4, e5, e6, e7, e8, e9⟩ := hrf.put (.int .i64 (c : Int)) (.int .i64 Y.k) (.int .i64 Y.n) (.int .i64 Y.t.k) (.slice Y.t.a Y.t.l.length Y.t.c) (.int .i64 Y.f.k) (.slice Y.f.a Y.f.l.length Y.f.c) (.slice Y.a Y.l.length Y.c) (.int .i64 I.k) (.slice I.a I.l.length I.c)
        obtain ⟨_, z0, z1, z2, z3, z4, z5, z6, z7, z8, z9, fz⟩ := hrf
        have f0 := fz 0
        have f1 := fz 1
        have f2 := fz 2
        have f3 := fz 3
        have f4 := fz 4
        have f5 := fz 5
        have f6 := fz 6
        have f7 := fz 7
        have f8 := fz 8
        have f9 := fz 9
        obtain ⟨y0, y1, y2, y3, y4, y5, y6⟩ := hY7
        simp only [Nat.zero_add] at y1 y2 y3 y4 y5 y6
        have hA3 := HID.out.2.1.below hbY
        have r0 := hA3.k
        have r1 := hA3.l
        clear fz hbY hYi hYb hYt HY hbYB hA3 HI HID HF HG HR HQ HM HK HTT HTK
        go_wp2_with fail
        refine bodyPost_ret (v := .tuple #[.agg #[.int .i64 (c : Int), .int .i64 Y.k, .int .i64 Y.n, .int .i64 Y.t.k, .slice Y.t.a Y.t.l.length Y.t.c, .int .i64 Y.f.k, .slice Y.f.a Y.f.l.length Y.f.c, .slice Y.a Y.l.length Y.c, .int .i64 I.k, .slice I.a I.l.length I.c], .bool true]) ?_ rfl HN.out
        unfold put10 at e0 e1 e2 e3 e4 e5 e6 e7 e8 e9
        simp [results, Tryz.results41, go_sem, e0, e1, e2, e3, e4, e5, e6, e7, e8, e9]
end Go.Proofs.YtnddkmccagiclabGreatDoor

/-
  What the call of check's Check answers.
-/
namespace Go.Proofs.YtnddkmccagiclabGreatDoor
open Go.RowKit
/-- read. -/
theorem read_any (R : Nat) : ∀ (m : Nat) (Q : Nat → Prop) (x : TT) (c : Nat) (T : Tr) (w : World), x.sz ≤ m → RdPre Q R x c T w →
    Calls Tryz.prog 41 #[.pointer (some ⟨R, 0, none⟩), .agg #[.int .i64 x.k, .int .i64 x.n, .int .i64 x.t.k, .slice x.t.a x.t.l.length x.t.c, .int .i64 x.f.k, .slice x.f.a x.f.l.length x.f.c, .slice x.a x.l.length x.c], .slice T.a T.l.length T.c] w (RdPost Q R x c (T.l.map Tr.ty) w) := by
  intro m
  induction m with
  | zero => intro Q x c T w h _; have := x.sz_pos; omega
  | succ m ih =>
    intro Q x c T w h hp
    refine read_step Q R x c T w hp fun y hy Q' c' T' W hp' => ih Q' y c' T' W ?_ hp'
    have h1 := x.sz_eq
    have h2 : y.sz ≤ (x.l.map TT.sz).sum := by
      have := sz_mem (x.l.map TT.tm) y.tm (List.mem_map.2 ⟨y, hy, rfl⟩)
      rw [sz_map, ← y.sz_tm] at this
      exact this
    omega
def ty0 : Value := .agg #[.int .i64 0, .slice none 0 0]
/-- What Check answers. -/
def CkPost (x : TT) (w : World) (e : Ending) (w' : World) : Prop :=
  Below w.heap.size w w' ∧ ((goodM 0 x.tm = false ∧ e = .returned (.tuple #[.agg #[.int .i64 0, .int .i64 0, .int .i64 0, .slice none 0 0, .int .i64 0, .slice none 0 0, .slice none 0 0], .agg #[.int .i64 0, .slice none 0 0], .int .i64 1])) ∨
    (goodM 0 x.tm = true ∧ readS x.tm [] 0 = none ∧ e = .returned (.tuple #[.agg #[.int .i64 0, .int .i64 0, .int .i64 0, .slice none 0 0, .int .i64 0, .slice none 0 0, .slice none 0 0], .agg #[.int .i64 0, .slice none 0 0], .int .i64 2])) ∨
    (goodM 0 x.tm = true ∧ ∃ (y : TT) (i : Tr), readS x.tm [] 0 = some (y.tm, i.ty) ∧ e = .returned (.tuple #[.agg #[.int .i64 y.k, .int .i64 y.n, .int .i64 y.t.k, .slice y.t.a y.t.l.length y.t.c, .int .i64 y.f.k, .slice y.f.a y.f.l.length y.f.c, .slice y.a y.l.length y.c], .agg #[.int .i64 i.k, .slice i.a i.l.length i.c], .int .i64 0]) ∧ y.In w' ∧ i.In w' ∧ goodT 44 i = true))
/-- The frame of Check: the term's box, the places of its answers. -/
structure CF (H : Nat) (x : TT) (W : World) : Prop where
  at7 : At7 W H 0 x
  z : ZB7 W (H + 1)
  u0 : W.cell? ⟨H + 1 + 1, 0, none⟩ = some (.int .i64 0)
  u1 : W.cell? ⟨H + 1 + 1, 1, none⟩ = some (.slice none 0 0)
  g0 : W.frozen? ⟨H + 1 + 1, 0, none⟩ = false
  g1 : W.frozen? ⟨H + 1 + 1, 1, none⟩ = false
theorem CF.lt {H : Nat} {x : TT} {W : World} (h : CF H x W) : H + 1 + 1 < W.heap.size := World.block_lt_of_cell? _ _ h.u0
theorem CF.below {H : Nat} {x : TT} {W W' : World} (h : CF H x W) (hb : Below W.heap.size W W') : CF H x W' :=
  ⟨h.at7.below hb, h.z.later hb, cell_later hb h.u0, cell_later hb h.u1, (hb.frozen (p := ⟨H + 1 + 1, 0, none⟩) h.lt).trans h.g0, (hb.frozen (p := ⟨H + 1 + 1, 1, none⟩) h.lt).trans h.g1⟩
theorem ZB7.low {V w : World} {b B : Nat} (hb : Below B V w) (hB : b < B) (h : ZB7 V b) : ZB7 w b := by
  obtain ⟨⟨h0, h1, h2, h3, h4, h5, h6⟩, f0, f1, f2, f3, f4, f5, f6⟩ := h
  have c : ∀ i, w.cell? ⟨b, i, none⟩ = V.cell? ⟨b, i, none⟩ := fun i => hb.cell (p := ⟨b, i, none⟩) hB
  have f : ∀ i, w.frozen? ⟨b, i, none⟩ = V.frozen? ⟨b, i, none⟩ := fun i => hb.frozen (p := ⟨b, i, none⟩) hB
  exact ⟨⟨(c 0).trans h0, (c 1).trans h1, (c 2).trans h2, (c 3).trans h3, (c 4).trans h4, (c 5).trans h5, (c 6).trans h6⟩, (f 0).trans f0, (f 1).trans f1, (f 2).trans f2, (f 3).trans f3, (f 4).trans f4, (f 5).trans f5, (f 6).trans f6⟩
theorem CF.low {H B : Nat} {x : TT} {W W' : World} (h : CF H x W) (hb : Below B W W') (hB : H + 1 + 1 < B) : CF H x W' :=
  ⟨h.at7.of fun i => hb.cell (p := ⟨H, i, none⟩) (show H < B by omega), h.z.low hb (by omega), (hb.cell (p := ⟨H + 1 + 1, 0, none⟩) hB).trans h.u0, (hb.cell (p := ⟨H + 1 + 1, 1, none⟩) hB).trans h.u1, (hb.frozen (p := ⟨H + 1 + 1, 0, none⟩) hB).trans h.g0, (hb.frozen (p := ⟨H + 1 + 1, 1, none⟩) hB).trans h.g1⟩
theorem CF.start (x : TT) (w : World) : CF w.heap.size x (((w.alloc (.cells #[.int .i64 x.k, .int .i64 x.n, .int .i64 x.t.k, .slice x.t.a x.t.l.length x.t.c, .int .i64 x.f.k, .slice x.f.a x.f.l.length x.f.c, .slice x.a x.l.length x.c] 27)).alloc (.cells #[.int .i64 0, .int .i64 0, .int .i64 0, .slice none 0 0, .int .i64 0, .slice none 0 0, .slice none 0 0] 27)).alloc (.cells #[.int .i64 0, .slice none 0 0] 24)) := by
  refine ⟨⟨?_, ?_, ?_, ?_, ?_, ?_, ?_⟩, ⟨⟨?_, ?_, ?_, ?_, ?_, ?_, ?_⟩, ?_, ?_, ?_, ?_, ?_, ?_, ?_⟩, ?_, ?_, ?_, ?_⟩ <;> simp [go_sem]
def ckEnd (W : World) (H : Nat) (y : TT) (i : Tr) : World := ((put7 W (H + 1) y).setCell ⟨H + 1 + 1, 0, none⟩ (.int .i64 i.k)).setCell ⟨H + 1 + 1, 1, none⟩ (.slice i.a i.l.length i.c)
theorem ckEnd_below (W : World) (H : Nat) (y : TT) (i : Tr) (h : H + 1 + 1 < W.heap.size) : Below H W (ckEnd W H y i) :=
  (((put7_kept (w := W) (J := H + 1) (x := y)).below (by simp) (by omega)).mono (by omega)).trans (((Below.refl _ _).setCell (by show H ≤ H + 1 + 1; omega) _).setCell (by show H ≤ H + 1 + 1; omega) _)
theorem CF.ends {H : Nat} {x : TT} {W : World} (h : CF H x W) (y : TT) (i : Tr) :
    (ckEnd W H y i).cell? ⟨H + 1, 0, none⟩ = some (.int .i64 y.k) ∧ (ckEnd W H y i).cell? ⟨H + 1, 1, none⟩ = some (.int .i64 y.n) ∧ (ckEnd W H y i).cell? ⟨H + 1, 2, none⟩ = some (.int .i64 y.t.k) ∧ (ckEnd W H y i).cell? ⟨H + 1, 3, none⟩ = some (.slice y.t.a y.t.l.length y.t.c) ∧ (ckEnd W H y i).cell? ⟨H + 1, 4, none⟩ = some (.int .i64 y.f.k) ∧ (ckEnd W H y i).cell? ⟨H + 1, 5, none⟩ = some (.slice y.f.a y.f.l.length y.f.c) ∧ (ckEnd W H y i).cell? ⟨H + 1, 6, none⟩ = some (.slice y.a y.l.length y.c) ∧ (ckEnd W H y i).cell? ⟨H + 1 + 1, 0, none⟩ = some (.int .i64 i.k) ∧ (ckEnd W H y i).cell? ⟨H + 1 + 1, 1, none⟩ = some (.slice i.a i.l.length i.c) := by
  have h7 := (put7_box (x := y) h.z.box).at7
  have hk : Kept (H + 1 + 1) none (put7 W (H + 1) y) (ckEnd W H y i) := setR_kept.trans setR_kept
  have h8 := h7.keptR hk (by omega)
  obtain ⟨c0, c1, c2, c3, c4, c5, c6⟩ := h8
  simp only [Nat.zero_add] at c0 c1 c2 c3 c4 c5 c6
  have p0 := (put7_kept (w := W) (J := H + 1) (x := y)).cell h.u0 (by omega)
  have p1 := (put7_kept (w := W) (J := H + 1) (x := y)).cell h.u1 (by omega)
  refine ⟨c0, c1, c2, c3, c4, c5, c6, ?_, ?_⟩
  · simpa [ckEnd] using set_get (j := 1) (v := .slice i.a i.l.length i.c) (set_get (j := 0) (v := .int .i64 i.k) p0)
  · simpa [ckEnd] using set_get (j := 1) (v := .slice i.a i.l.length i.c) (set_get (j := 0) (v := .int .i64 i.k) p1)
set_option maxRecDepth 20000 in
set_option maxHeartbeats 8000000 in
/-- Check. -/
theorem check_any (x : TT) (w : World) (hg : Gp w) (hx : x.In w) (hnb : x.nb) : Calls Tryz.prog 25 #[.agg #[.int .i64 x.k, .int .i64 x.n, .int .i64 x.t.k, .slice x.t.a x.t.l.length x.t.c, .int .i64 x.f.k, .slice x.f.a x.f.l.length x.f.c, .slice x.a x.l.length x.c]] w (CkPost x w) := by
  have hst := CF.start x w
  obtain ⟨W1, hW1⟩ : ∃ W1, W1 = (((w.alloc (.cells #[.int .i64 x.k, .int .i64 x.n, .int .i64 x.t.k, .slice x.t.a x.t.l.length x.t.c, .int .i64 x.f.k, .slice x.f.a x.f.l.length x.f.c, .slice x.a x.l.length x.c] 27)).alloc (.cells #[.int .i64 0, .int .i64 0, .int .i64 0, .slice none 0 0, .int .i64 0, .slice none 0 0, .slice none 0 0] 27)).alloc (.cells #[.int .i64 0, .slice none 0 0] 24)) := ⟨_, rfl⟩
  have hb1 : Below w.heap.size w W1 := by rw [hW1]; exact (((Below.refl _ _).alloc (Nat.le_refl _) _).alloc (by simp) _).alloc (by simp; omega) _
  rw [← hW1] at hst
  obtain ⟨gd, hgd⟩ : ∃ gd, goodM 0 x.tm = gd := ⟨_, rfl⟩
  have HG : Hid (Calls Tryz.prog 29 #[.agg #[.int .i64 x.k, .int .i64 x.n, .int .i64 x.t.k, .slice x.t.a x.t.l.length x.t.c, .int .i64 x.f.k, .slice x.f.a x.f.l.length x.f.c, .slice x.a x.l.length x.c], .int .i64 0] W1 fun e w' => e = .returned (.bool gd) ∧ Below W1.heap.size W1 w') := by
    have := goodTm_any x 0 W1 (hg.below hb1) (hx.below hb1) hnb
    rw [hgd] at this
    exact this
  have HX : Hid (x.In w ∧ goodM 0 x.tm = gd ∧ Below w.heap.size w W1 ∧ CF w.heap.size x W1) := ⟨hx, hgd, hb1, hst⟩
  obtain ⟨p0, p1, p2, p3, p4, p5, p6⟩ := hst.at7
  simp only [Nat.zero_add] at p0 p1 p2 p3 p4 p5 p6
  clear hg hx hnb hst hgd hb1
  go_enter Tryz.func25, Tryz.ntmps25
  go_wp2_with fail
  rw [← hW1]
  refine HG.out.mono ?_
  rintro e w2 ⟨rfl, hb2⟩
  have hcf : CF w.heap.size x w2 := HX.out.2.2.2.below hb2
  have hbw : Below w.heap.size w w2 := HX.out.2.2.1.trans (hb2.mono HX.out.2.2.1.size)
  have HX2 : Hid (x.In w ∧ goodM 0 x.tm = gd) := ⟨HX.out.1, HX.out.2.1⟩
  clear p0 p1 p2 p3 p4 p5 p6 HG HX hb2 hW1
  cases gd
  · have HN : Hid (CkPost x w (.returned (.tuple #[.agg #[.int .i64 0, .int .i64 0, .int .i64 0, .slice none 0 0, .int .i64 0, .slice none 0 0, .slice none 0 0], .agg #[.int .i64 0, .slice none 0 0], .int .i64 1])) (ckEnd w2 w.heap.size (tleaf 0 0) (leaf 0))) := ⟨hbw.trans ((ckEnd_below w2 w.heap.size (tleaf 0 0) (leaf 0) hcf.lt).mono (Nat.le_refl _)), .inl ⟨HX2.out.2, rfl⟩⟩
    obtain ⟨e0, e1, e2, e3, e4, e5, e6, e7, e8⟩ := hcf.ends (tleaf 0 0) (leaf 0)
    obtain ⟨_, ⟨⟨y0, y1, y2, y3, y4, y5, y6⟩, f0, f1, f2, f3, f4, f5, f6⟩, u0, u1, g0, g1⟩ := hcf
    clear hbw
    go_wp2_with fail
    refine bodyPost_ret (v := .tuple #[.agg #[.int .i64 0, .int .i64 0, .int .i64 0, .slice none 0 0, .int .i64 0, .slice none 0 0, .slice none 0 0], .agg #[.int .i64 0, .slice none 0 0], .int .i64 1]) ?_ rfl HN.out
    unfold ckEnd put7 at e0 e1 e2 e3 e4 e5 e6 e7 e8
    simp only [tleaf, leaf, List.length_nil] at e0 e1 e2 e3 e4 e5 e6 e7 e8
    simp [results, Tryz.results25, go_sem, e0, e1, e2, e3, e4, e5, e6, e7, e8]
  · obtain ⟨hok, hsz⟩ := goodM_ok HX2.out.2
    have hlt := hcf.lt
    have hbR : Below w2.heap.size w2 (w2.alloc (.cells #[.int .i64 0] 68)) := (Below.refl _ _).alloc (Nat.le_refl _) _
    have hbwR := hbw.trans (hbR.mono hbw.size)
    have hxsz : x.sz ≤ 40 := by rw [x.sz_tm]; exact hsz
    have HC : Hid (Calls Tryz.prog 41 #[.pointer (some ⟨w2.heap.size, 0, none⟩), .agg #[.int .i64 x.k, .int .i64 x.n, .int .i64 x.t.k, .slice x.t.a x.t.l.length x.t.c, .int .i64 x.f.k, .slice x.f.a x.f.l.length x.f.c, .slice x.a x.l.length x.c], .slice none 0 0] (w2.alloc (.cells #[.int .i64 0] 68)) (RdPost (fun b => b ≠ w2.heap.size ∧ b ≠ w.heap.size + 1 ∧ b ≠ w.heap.size + 1 + 1) w2.heap.size x 0 [] (w2.alloc (.cells #[.int .i64 0] 68)))) := by
      refine read_any w2.heap.size 900 _ x 0 (leaf 0) _ (by omega) ⟨hok, fun t h => (by cases h), ⟨by omega, by simp [leaf]; omega⟩, HX2.out.1.below hbwR, leaf_in _ _, ⟨by simp [go_sem], by simp [go_sem]⟩, HX2.out.1.bl.mono fun b hb => ⟨by omega, by omega, by omega⟩, leaf_bl _ _, fun b hb => ?_, fun b hb => hb.1⟩
      simp only [World.size_alloc] at hb
      exact ⟨by omega, by omega, by omega⟩
    have HB : Hid (Below w.heap.size w (w2.alloc (.cells #[.int .i64 0] 68)) ∧ CF w.heap.size x (w2.alloc (.cells #[.int .i64 0] 68)) ∧ x.sz ≤ 40 ∧ okTm x.tm 0) := ⟨hbwR, hcf.below hbR, hxsz, hok⟩
    obtain ⟨p0, p1, p2, p3, p4, p5, p6⟩ := hcf.at7
    simp only [Nat.zero_add] at p0 p1 p2 p3 p4 p5 p6
    obtain ⟨q0, q1, q2, q3, q4, q5, q6⟩ := (hcf.below hbR).at7
    simp only [Nat.zero_add] at q0 q1 q2 q3 q4 q5 q6
    clear hok hsz hbwR hxsz hbw hbR hcf
    go_wp2_with fail
    refine HC.out.mono ?_
    rintro e w3 ⟨hk3, ⟨hno, rfl⟩ | ⟨r, hyes, rfl, hn, hyi, hii, hyb, hib, hcs⟩⟩
    · have hbk : Below w2.heap.size (w2.alloc (.cells #[.int .i64 0] 68)) w3 := hk3.below (by simp) (by simp)
      have hb3 : Below w.heap.size w w3 := HB.out.1.trans (hbk.mono (by omega))
      have hA : Below w3.heap.size w3 (w3.alloc (.cells #[.int .i64 0, .int .i64 0, .int .i64 0, .int .i64 0, .slice none 0 0, .int .i64 0, .slice none 0 0, .slice none 0 0, .int .i64 0, .slice none 0 0] 64)) := (Below.refl _ _).alloc (Nat.le_refl _) _
      have hb4 : Below w.heap.size w (w3.alloc (.cells #[.int .i64 0, .int .i64 0, .int .i64 0, .int .i64 0, .slice none 0 0, .int .i64 0, .slice none 0 0, .slice none 0 0, .int .i64 0, .slice none 0 0] 64)) := hb3.trans (hA.mono hb3.size)
      have hcf : CF w.heap.size x (w3.alloc (.cells #[.int .i64 0, .int .i64 0, .int .i64 0, .int .i64 0, .slice none 0 0, .int .i64 0, .slice none 0 0, .slice none 0 0, .int .i64 0, .slice none 0 0] 64)) := (HB.out.2.1.low hbk hlt).below hA
      obtain ⟨W4, hW4⟩ : ∃ W4, W4 = (w3.alloc (.cells #[.int .i64 0, .int .i64 0, .int .i64 0, .int .i64 0, .slice none 0 0, .int .i64 0, .slice none 0 0, .slice none 0 0, .int .i64 0, .slice none 0 0] 64)) := ⟨_, rfl⟩
      rw [← hW4] at hb4 hcf
      have HN : Hid (CkPost x w (.returned (.tuple #[.agg #[.int .i64 0, .int .i64 0, .int .i64 0, .slice none 0 0, .int .i64 0, .slice none 0 0, .slice none 0 0], .agg #[.int .i64 0, .slice none 0 0], .int .i64 2])) (ckEnd W4 w.heap.size (tleaf 0 0) (leaf 0))) := ⟨hb4.trans ((ckEnd_below W4 w.heap.size (tleaf 0 0) (leaf 0) hcf.lt).mono (Nat.le_refl _)), .inr (.inl ⟨HX2.out.2, hno, rfl⟩)⟩
      obtain ⟨e0, e1, e2, e3, e4, e5, e6, e7, e8⟩ := hcf.ends (tleaf 0 0) (leaf 0)
      obtain ⟨_, ⟨⟨y0, y1, y2, y3, y4, y5, y6⟩, f0, f1, f2, f3, f4, f5, f6⟩, u0, u1, g0, g1⟩ := hcf
      clear hb4 hb3 hbk hk3 hno hA HC HB p0 p1 p2 p3 p4 p5 p6 q0 q1 q2 q3 q4 q5 q6
      subst hW4
      go_wp2_with fail
      refine bodyPost_ret (v := .tuple #[.agg #[.int .i64 0, .int .i64 0, .int .i64 0, .slice none 0 0, .int .i64 0, .slice none 0 0, .slice none 0 0], .agg #[.int .i64 0, .slice none 0 0], .int .i64 2]) ?_ rfl HN.out
      unfold ckEnd put7 at e0 e1 e2 e3 e4 e5 e6 e7 e8
      simp only [tleaf, leaf, List.length_nil] at e0 e1 e2 e3 e4 e5 e6 e7 e8
      simp [results, Tryz.results25, go_sem, e0, e1, e2, e3, e4, e5, e6, e7, e8]
    · obtain ⟨OR, hOR⟩ : ∃ O, O = Obj.cells #[.int .i64 r.n, .int .i64 r.y.k, .int .i64 r.y.n, .int .i64 r.y.t.k, .slice r.y.t.a r.y.t.l.length r.y.t.c, .int .i64 r.y.f.k, .slice r.y.f.a r.y.f.l.length r.y.f.c, .slice r.y.a r.y.l.length r.y.c, .int .i64 r.i.k, .slice r.i.a r.i.l.length r.i.c] 64 := ⟨_, rfl⟩
      have hbk : Below w2.heap.size (w2.alloc (.cells #[.int .i64 0] 68)) w3 := hk3.below (by simp) (by simp)
      have hb3 : Below w.heap.size w w3 := HB.out.1.trans (hbk.mono (by omega))
      have hA : Below w3.heap.size w3 (w3.alloc OR) := (Below.refl _ _).alloc (Nat.le_refl _) _
      have hb4 : Below w.heap.size w (w3.alloc OR) := hb3.trans (hA.mono hb3.size)
      have hcf : CF w.heap.size x (w3.alloc OR) := (HB.out.2.1.low hbk hlt).below hA
      have hg44 : goodT 44 r.i = true := by
        rw [goodT_eq]
        have := read_good x.tm [] 0 r.y.tm r.i.ty HB.out.2.2.2 (fun u h => by cases h) hyes
        have h40 := HB.out.2.2.1
        rw [x.sz_tm] at h40
        exact goodY_more _ 44 _ (by omega) this
      have hgf := good_facts (n := 44) (by omega) hg44
      have hS0 : (w3.alloc OR).cell? ⟨w3.heap.size, 1, none⟩ = some (.int .i64 r.y.k) ∧ (w3.alloc OR).cell? ⟨w3.heap.size, 2, none⟩ = some (.int .i64 r.y.n) ∧ (w3.alloc OR).cell? ⟨w3.heap.size, 3, none⟩ = some (.int .i64 r.y.t.k) ∧ (w3.alloc OR).cell? ⟨w3.heap.size, 4, none⟩ = some (.slice r.y.t.a r.y.t.l.length r.y.t.c) ∧ (w3.alloc OR).cell? ⟨w3.heap.size, 5, none⟩ = some (.int .i64 r.y.f.k) ∧ (w3.alloc OR).cell? ⟨w3.heap.size, 6, none⟩ = some (.slice r.y.f.a r.y.f.l.length r.y.f.c) ∧ (w3.alloc OR).cell? ⟨w3.heap.size, 7, none⟩ = some (.slice r.y.a r.y.l.length r.y.c) ∧ (w3.alloc OR).cell? ⟨w3.heap.size, 8, none⟩ = some (.int .i64 r.i.k) ∧ (w3.alloc OR).cell? ⟨w3.heap.size, 9, none⟩ = some (.slice r.i.a r.i.l.length r.i.c) := by
        subst hOR
        refine ⟨?_, ?_, ?_, ?_, ?_, ?_, ?_, ?_, ?_⟩ <;> simp [go_sem]
      have hlt4 : w.heap.size + 1 + 1 < w3.heap.size := Nat.lt_of_lt_of_le hlt (by have := hbk.size; simp at this; omega)
      obtain ⟨WB, hWB⟩ : ∃ WB, WB = w3.alloc OR := ⟨_, rfl⟩
      rw [← hWB] at hA hb4 hcf hS0
      have HS : Hid (∀ W', Below WB.heap.size WB W' → W'.cell? ⟨w3.heap.size, 1, none⟩ = some (.int .i64 r.y.k) ∧ W'.cell? ⟨w3.heap.size, 2, none⟩ = some (.int .i64 r.y.n) ∧ W'.cell? ⟨w3.heap.size, 3, none⟩ = some (.int .i64 r.y.t.k) ∧ W'.cell? ⟨w3.heap.size, 4, none⟩ = some (.slice r.y.t.a r.y.t.l.length r.y.t.c) ∧ W'.cell? ⟨w3.heap.size, 5, none⟩ = some (.int .i64 r.y.f.k) ∧ W'.cell? ⟨w3.heap.size, 6, none⟩ = some (.slice r.y.f.a r.y.f.l.length r.y.f.c) ∧ W'.cell? ⟨w3.heap.size, 7, none⟩ = some (.slice r.y.a r.y.l.length r.y.c) ∧ W'.cell? ⟨w3.heap.size, 8, none⟩ = some (.int .i64 r.i.k) ∧ W'.cell? ⟨w3.heap.size, 9, none⟩ = some (.slice r.i.a r.i.l.length r.i.c)) := by
        intro W' hb
        obtain ⟨h1, h2, h3, h4, h5, h6, h7, h8, h9⟩ := hS0
        exact ⟨cell_later hb h1, cell_later hb h2, cell_later hb h3, cell_later hb h4, cell_later hb h5, cell_later hb h6, cell_later hb h7, cell_later hb h8, cell_later hb h9⟩
      have H39 : Hid (Calls Tryz.prog 42 #[.agg #[.int .i64 r.i.k, .slice r.i.a r.i.l.length r.i.c]] WB.drew fun e wE => ∃ t : Tr, e = .returned (.agg #[.int .i64 t.k, .slice t.a t.l.length t.c]) ∧ Hid (t.ty = r.i.ty ∧ t.In wE ∧ t.Bl (WB.heap.size ≤ ·)) ∧ Below WB.heap.size WB wE ∧ CF w.heap.size x wE) := by
        refine (fresh_any r.i WB.drew ((hii.below hA).below ((Below.refl _ _).drew)) hgf.1 hgf.2.1).mono ?_
        rintro e wE ⟨t, rfl, h1, h2, h3, h4⟩
        have h5 : Below WB.heap.size WB wE := ((Below.refl _ _).drew).trans (h4.mono (Nat.le_refl _))
        exact ⟨t, rfl, ⟨h1, h2, h3⟩, h5, hcf.below h5⟩
      have HD : Hid (Below w.heap.size w WB ∧ r.y.In WB ∧ r.y.Bl (fun b => b ≠ w2.heap.size ∧ b ≠ w.heap.size + 1 ∧ b ≠ w.heap.size + 1 + 1) ∧ goodT 44 r.i = true ∧ readS x.tm [] 0 = some (r.y.tm, r.i.ty) ∧ w.heap.size + 1 + 1 < WB.heap.size) := ⟨hb4, hyi.below hA, hyb, hg44, hyes, hcf.lt⟩
      have hS1 : WB.drew.cell? ⟨w3.heap.size, 1, none⟩ = some (.int .i64 r.y.k) ∧ WB.drew.cell? ⟨w3.heap.size, 2, none⟩ = some (.int .i64 r.y.n) ∧ WB.drew.cell? ⟨w3.heap.size, 3, none⟩ = some (.int .i64 r.y.t.k) ∧ WB.drew.cell? ⟨w3.heap.size, 4, none⟩ = some (.slice r.y.t.a r.y.t.l.length r.y.t.c) ∧ WB.drew.cell? ⟨w3.heap.size, 5, none⟩ = some (.int .i64 r.y.f.k) ∧ WB.drew.cell? ⟨w3.heap.size, 6, none⟩ = some (.slice r.y.f.a r.y.f.l.length r.y.f.c) ∧ WB.drew.cell? ⟨w3.heap.size, 7, none⟩ = some (.slice r.y.a r.y.l.length r.y.c) ∧ WB.drew.cell? ⟨w3.heap.size, 8, none⟩ = some (.int .i64 r.i.k) ∧ WB.drew.cell? ⟨w3.heap.size, 9, none⟩ = some (.slice r.i.a r.i.l.length r.i.c) := HS.out _ ((Below.refl _ _).drew)
      have HS1 : Hid (WB.drew.cell? ⟨w3.heap.size, 1, none⟩ = some (.int .i64 r.y.k) ∧ WB.drew.cell? ⟨w3.heap.size, 2, none⟩ = some (.int .i64 r.y.n) ∧ WB.drew.cell? ⟨w3.heap.size, 3, none⟩ = some (.int .i64 r.y.t.k) ∧ WB.drew.cell? ⟨w3.heap.size, 4, none⟩ = some (.slice r.y.t.a r.y.t.l.length r.y.t.c) ∧ WB.drew.cell? ⟨w3.heap.size, 5, none⟩ = some (.int .i64 r.y.f.k) ∧ WB.drew.cell? ⟨w3.heap.size, 6, none⟩ = some (.slice r.y.f.a r.y.f.l.length r.y.f.c) ∧ WB.drew.cell? ⟨w3.heap.size, 7, none⟩ = some (.slice r.y.a r.y.l.length r.y.c) ∧ WB.drew.cell? ⟨w3.heap.size, 8, none⟩ = some (.int .i64 r.i.k) ∧ WB.drew.cell? ⟨w3.heap.size, 9, none⟩ = some (.slice r.i.a r.i.l.length r.i.c)) := hS1
      clear hbk hb3 hA hb4 hcf hg44 hgf hS1 hn hyi hii hyb hib hcs hyes hk3 HC HB p0 p1 p2 p3 p4 p5 p6 q0 q1 q2 q3 q4 q5 q6 hlt
      subst hOR
      go_upto_region 6 with fail
      rw [← hWB]
      have HS0 : Hid (WB.cell? ⟨w3.heap.size, 1, none⟩ = some (.int .i64 r.y.k) ∧ WB.cell? ⟨w3.heap.size, 2, none⟩ = some (.int .i64 r.y.n) ∧ WB.cell? ⟨w3.heap.size, 3, none⟩ = some (.int .i64 r.y.t.k) ∧ WB.cell? ⟨w3.heap.size, 4, none⟩ = some (.slice r.y.t.a r.y.t.l.length r.y.t.c) ∧ WB.cell? ⟨w3.heap.size, 5, none⟩ = some (.int .i64 r.y.f.k) ∧ WB.cell? ⟨w3.heap.size, 6, none⟩ = some (.slice r.y.f.a r.y.f.l.length r.y.f.c) ∧ WB.cell? ⟨w3.heap.size, 7, none⟩ = some (.slice r.y.a r.y.l.length r.y.c) ∧ WB.cell? ⟨w3.heap.size, 8, none⟩ = some (.int .i64 r.i.k) ∧ WB.cell? ⟨w3.heap.size, 9, none⟩ = some (.slice r.i.a r.i.l.length r.i.c)) := hS0
      have HSP7 : Hid (∀ (W' : World) (a0 a1 a2 a3 a4 a5 a6 : Value), (W'.cell? ⟨w3.heap.size, 1, none⟩ = some (.int .i64 r.y.k) ∧ W'.cell? ⟨w3.heap.size, 2, none⟩ = some (.int .i64 r.y.n) ∧ W'.cell? ⟨w3.heap.size, 3, none⟩ = some (.int .i64 r.y.t.k) ∧ W'.cell? ⟨w3.heap.size, 4, none⟩ = some (.slice r.y.t.a r.y.t.l.length r.y.t.c) ∧ W'.cell? ⟨w3.heap.size, 5, none⟩ = some (.int .i64 r.y.f.k) ∧ W'.cell? ⟨w3.heap.size, 6, none⟩ = some (.slice r.y.f.a r.y.f.l.length r.y.f.c) ∧ W'.cell? ⟨w3.heap.size, 7, none⟩ = some (.slice r.y.a r.y.l.length r.y.c) ∧ W'.cell? ⟨w3.heap.size, 8, none⟩ = some (.int .i64 r.i.k) ∧ W'.cell? ⟨w3.heap.size, 9, none⟩ = some (.slice r.i.a r.i.l.length r.i.c)) → (((((((W'.setCell ⟨w.heap.size + 1, 0, none⟩ a0).setCell ⟨w.heap.size + 1, 1, none⟩ a1).setCell ⟨w.heap.size + 1, 2, none⟩ a2).setCell ⟨w.heap.size + 1, 3, none⟩ a3).setCell ⟨w.heap.size + 1, 4, none⟩ a4).setCell ⟨w.heap.size + 1, 5, none⟩ a5).setCell ⟨w.heap.size + 1, 6, none⟩ a6).cell? ⟨w3.heap.size, 1, none⟩ = some (.int .i64 r.y.k) ∧ (((((((W'.setCell ⟨w.heap.size + 1, 0, none⟩ a0).setCell ⟨w.heap.size + 1, 1, none⟩ a1).setCell ⟨w.heap.size + 1, 2, none⟩ a2).setCell ⟨w.heap.size + 1, 3, none⟩ a3).setCell ⟨w.heap.size + 1, 4, none⟩ a4).setCell ⟨w.heap.size + 1, 5, none⟩ a5).setCell ⟨w.heap.size + 1, 6, none⟩ a6).cell? ⟨w3.heap.size, 2, none⟩ = some (.int .i64 r.y.n) ∧ (((((((W'.setCell ⟨w.heap.size + 1, 0, none⟩ a0).setCell ⟨w.heap.size + 1, 1, none⟩ a1).setCell ⟨w.heap.size + 1, 2, none⟩ a2).setCell ⟨w.heap.size + 1, 3, none⟩ a3).setCell ⟨w.heap.size + 1, 4, none⟩ a4).setCell ⟨w.heap.size + 1, 5, none⟩ a5).setCell ⟨w.heap.size + 1, 6, none⟩ a6).cell? ⟨w3.heap.size, 3, none⟩ = some (.int .i64 r.y.t.k) ∧ (((((((W'.setCell ⟨w.heap.size + 1, 0, none⟩ a0).setCell ⟨w.heap.size + 1, 1, none⟩ a1).setCell ⟨w.heap.size + 1, 2, none⟩ a2).setCell ⟨w.heap.size + 1, 3, none⟩ a3).setCell ⟨w.heap.size + 1, 4, none⟩ a4).setCell ⟨w.heap.size + 1, 5, none⟩ a5).setCell ⟨w.heap.size + 1, 6, none⟩ a6).cell? ⟨w3.heap.size, 4, none⟩ = some (.slice r.y.t.a r.y.t.l.length r.y.t.c) ∧ (((((((W'.setCell ⟨w.heap.size + 1, 0, none⟩ a0).setCell ⟨w.heap.size + 1, 1, none⟩ a1).setCell ⟨w.heap.size + 1, 2, none⟩ a2).setCell ⟨w.heap.size + 1, 3, none⟩ a3).setCell ⟨w.heap.size + 1, 4, none⟩ a4).setCell ⟨w.heap.size + 1, 5, none⟩ a5).setCell ⟨w.heap.size + 1, 6, none⟩ a6).cell? ⟨w3.heap.size, 5, none⟩ = some (.int .i64 r.y.f.k) ∧ (((((((W'.setCell ⟨w.heap.size + 1, 0, none⟩ a0).setCell ⟨w.heap.size + 1, 1, none⟩ a1).setCell ⟨w.heap.size + 1, 2, none⟩ a2).setCell ⟨w.heap.size + 1, 3, none⟩ a3).setCell ⟨w.heap.size + 1, 4, none⟩ a4).setCell ⟨w.heap.size + 1, 5, none⟩ a5).setCell ⟨w.heap.size + 1, 6, none⟩ a6).cell? ⟨w3.heap.size, 6, none⟩ = some (.slice r.y.f.a r.y.f.l.length r.y.f.c) ∧ (((((((W'.setCell ⟨w.heap.size + 1, 0, none⟩ a0).setCell ⟨w.heap.size + 1, 1, none⟩ a1).setCell ⟨w.heap.size + 1, 2, none⟩ a2).setCell ⟨w.heap.size + 1, 3, none⟩ a3).setCell ⟨w.heap.size + 1, 4, none⟩ a4).setCell ⟨w.heap.size + 1, 5, none⟩ a5).setCell ⟨w.heap.size + 1, 6, none⟩ a6).cell? ⟨w3.heap.size, 7, none⟩ = some (.slice r.y.a r.y.l.length r.y.c) ∧ (((((((W'.setCell ⟨w.heap.size + 1, 0, none⟩ a0).setCell ⟨w.heap.size + 1, 1, none⟩ a1).setCell ⟨w.heap.size + 1, 2, none⟩ a2).setCell ⟨w.heap.size + 1, 3, none⟩ a3).setCell ⟨w.heap.size + 1, 4, none⟩ a4).setCell ⟨w.heap.size + 1, 5, none⟩ a5).setCell ⟨w.heap.size + 1, 6, none⟩ a6).cell? ⟨w3.heap.size, 8, none⟩ = some (.int .i64 r.i.k) ∧ (((((((W'.setCell ⟨w.heap.size + 1, 0, none⟩ a0).setCell ⟨w.heap.size + 1, 1, none⟩ a1).setCell ⟨w.heap.size + 1, 2, none⟩ a2).setCell ⟨w.heap.size + 1, 3, none⟩ a3).setCell ⟨w.heap.size + 1, 4, none⟩ a4).setCell ⟨w.heap.size + 1, 5, none⟩ a5).setCell ⟨w.heap.size + 1, 6, none⟩ a6).cell? ⟨w3.heap.size, 9, none⟩ = some (.slice r.i.a r.i.l.length r.i.c)) := by
        intro W' a0 a1 a2 a3 a4 a5 a6 h
        have hp : ∀ k, (((((((W'.setCell ⟨w.heap.size + 1, 0, none⟩ a0).setCell ⟨w.heap.size + 1, 1, none⟩ a1).setCell ⟨w.heap.size + 1, 2, none⟩ a2).setCell ⟨w.heap.size + 1, 3, none⟩ a3).setCell ⟨w.heap.size + 1, 4, none⟩ a4).setCell ⟨w.heap.size + 1, 5, none⟩ a5).setCell ⟨w.heap.size + 1, 6, none⟩ a6).cell? ⟨w3.heap.size, k, none⟩ = W'.cell? ⟨w3.heap.size, k, none⟩ := by
          intro k
          have hk : w.heap.size + 1 ≠ w3.heap.size := by omega
          rw [World.cell?_setCell_other _ _ _ _ (fun e => hk (congrArg Addr.block e)), World.cell?_setCell_other _ _ _ _ (fun e => hk (congrArg Addr.block e)), World.cell?_setCell_other _ _ _ _ (fun e => hk (congrArg Addr.block e)), World.cell?_setCell_other _ _ _ _ (fun e => hk (congrArg Addr.block e)), World.cell?_setCell_other _ _ _ _ (fun e => hk (congrArg Addr.block e)), World.cell?_setCell_other _ _ _ _ (fun e => hk (congrArg Addr.block e)), World.cell?_setCell_other _ _ _ _ (fun e => hk (congrArg Addr.block e))]
        obtain ⟨h1, h2, h3, h4, h5, h6, h7, h8, h9⟩ := h
        exact ⟨(hp _).trans h1, (hp _).trans h2, (hp _).trans h3, (hp _).trans h4, (hp _).trans h5, (hp _).trans h6, (hp _).trans h7, (hp _).trans h8, (hp _).trans h9⟩
      have HSP2 : Hid (∀ (W' : World) (a0 a1 : Value), (W'.cell? ⟨w3.heap.size, 1, none⟩ = some (.int .i64 r.y.k) ∧ W'.cell? ⟨w3.heap.size, 2, none⟩ = some (.int .i64 r.y.n) ∧ W'.cell? ⟨w3.heap.size, 3, none⟩ = some (.int .i64 r.y.t.k) ∧ W'.cell? ⟨w3.heap.size, 4, none⟩ = some (.slice r.y.t.a r.y.t.l.length r.y.t.c) ∧ W'.cell? ⟨w3.heap.size, 5, none⟩ = some (.int .i64 r.y.f.k) ∧ W'.cell? ⟨w3.heap.size, 6, none⟩ = some (.slice r.y.f.a r.y.f.l.length r.y.f.c) ∧ W'.cell? ⟨w3.heap.size, 7, none⟩ = some (.slice r.y.a r.y.l.length r.y.c) ∧ W'.cell? ⟨w3.heap.size, 8, none⟩ = some (.int .i64 r.i.k) ∧ W'.cell? ⟨w3.heap.size, 9, none⟩ = some (.slice r.i.a r.i.l.length r.i.c)) → ((W'.setCell ⟨w.heap.size + 1 + 1, 0, none⟩ a0).setCell ⟨w.heap.size + 1 + 1, 1, none⟩ a1).cell? ⟨w3.heap.size, 1, none⟩ = some (.int .i64 r.y.k) ∧ ((W'.setCell ⟨w.heap.size + 1 + 1, 0, none⟩ a0).setCell ⟨w.heap.size + 1 + 1, 1, none⟩ a1).cell? ⟨w3.heap.size, 2, none⟩ = some (.int .i64 r.y.n) ∧ ((W'.setCell ⟨w.heap.size + 1 + 1, 0, none⟩ a0).setCell ⟨w.heap.size + 1 + 1, 1, none⟩ a1).cell? ⟨w3.heap.size, 3, none⟩ = some (.int .i64 r.y.t.k) ∧ ((W'.setCell ⟨w.heap.size + 1 + 1, 0, none⟩ a0).setCell ⟨w.heap.size + 1 + 1, 1, none⟩ a1).cell? ⟨w3.heap.size, 4, none⟩ = some (.slice r.y.t.a r.y.t.l.length r.y.t.c) ∧ ((W'.setCell ⟨w.heap.size + 1 + 1, 0, none⟩ a0).setCell ⟨w.heap.size + 1 + 1, 1, none⟩ a1).cell? ⟨w3.heap.size, 5, none⟩ = some (.int .i64 r.y.f.k) ∧ ((W'.setCell ⟨w.heap.size + 1 + 1, 0, none⟩ a0).setCell ⟨w.heap.size + 1 + 1, 1, none⟩ a1).cell? ⟨w3.heap.size, 6, none⟩ = some (.slice r.y.f.a r.y.f.l.length r.y.f.c) ∧ ((W'.setCell ⟨w.heap.size + 1 + 1, 0, none⟩ a0).setCell ⟨w.heap.size + 1 + 1, 1, none⟩ a1).cell? ⟨w3.heap.size, 7, none⟩ = some (.slice r.y.a r.y.l.length r.y.c) ∧ ((W'.setCell ⟨w.heap.size + 1 + 1, 0, none⟩ a0).setCell ⟨w.heap.size + 1 + 1, 1, none⟩ a1).cell? ⟨w3.heap.size, 8, none⟩ = some (.int .i64 r.i.k) ∧ ((W'.setCell ⟨w.heap.size + 1 + 1, 0, none⟩ a0).setCell ⟨w.heap.size + 1 + 1, 1, none⟩ a1).cell? ⟨w3.heap.size, 9, none⟩ = some (.slice r.i.a r.i.l.length r.i.c)) := by
        intro W' a0 a1 h
        have hp : ∀ k, ((W'.setCell ⟨w.heap.size + 1 + 1, 0, none⟩ a0).setCell ⟨w.heap.size + 1 + 1, 1, none⟩ a1).cell? ⟨w3.heap.size, k, none⟩ = W'.cell? ⟨w3.heap.size, k, none⟩ := by
          intro k
          have hk : w.heap.size + 1 + 1 ≠ w3.heap.size := by omega
          rw [World.cell?_setCell_other _ _ _ _ (fun e => hk (congrArg Addr.block e)), World.cell?_setCell_other _ _ _ _ (fun e => hk (congrArg Addr.block e))]
        obtain ⟨h1, h2, h3, h4, h5, h6, h7, h8, h9⟩ := h
        exact ⟨(hp _).trans h1, (hp _).trans h2, (hp _).trans h3, (hp _).trans h4, (hp _).trans h5, (hp _).trans h6, (hp _).trans h7, (hp _).trans h8, (hp _).trans h9⟩
      have HSE : Hid (∀ W', Below WB.heap.size WB W' → W'.cell? ⟨w3.heap.size, 1, none⟩ = some (.int .i64 r.y.k) ∧ W'.cell? ⟨w3.heap.size, 2, none⟩ = some (.int .i64 r.y.n) ∧ W'.cell? ⟨w3.heap.size, 3, none⟩ = some (.int .i64 r.y.t.k) ∧ W'.cell? ⟨w3.heap.size, 4, none⟩ = some (.slice r.y.t.a r.y.t.l.length r.y.t.c) ∧ W'.cell? ⟨w3.heap.size, 5, none⟩ = some (.int .i64 r.y.f.k) ∧ W'.cell? ⟨w3.heap.size, 6, none⟩ = some (.slice r.y.f.a r.y.f.l.length r.y.f.c) ∧ W'.cell? ⟨w3.heap.size, 7, none⟩ = some (.slice r.y.a r.y.l.length r.y.c) ∧ W'.cell? ⟨w3.heap.size, 8, none⟩ = some (.int .i64 r.i.k) ∧ W'.cell? ⟨w3.heap.size, 9, none⟩ = some (.slice r.i.a r.i.l.length r.i.c)) := HS
      clear hWB
      go_region_held3 (fun W' => W'.cell? ⟨w3.heap.size, 1, none⟩ = some (.int .i64 r.y.k) ∧ W'.cell? ⟨w3.heap.size, 2, none⟩ = some (.int .i64 r.y.n) ∧ W'.cell? ⟨w3.heap.size, 3, none⟩ = some (.int .i64 r.y.t.k) ∧ W'.cell? ⟨w3.heap.size, 4, none⟩ = some (.slice r.y.t.a r.y.t.l.length r.y.t.c) ∧ W'.cell? ⟨w3.heap.size, 5, none⟩ = some (.int .i64 r.y.f.k) ∧ W'.cell? ⟨w3.heap.size, 6, none⟩ = some (.slice r.y.f.a r.y.f.l.length r.y.f.c) ∧ W'.cell? ⟨w3.heap.size, 7, none⟩ = some (.slice r.y.a r.y.l.length r.y.c) ∧ W'.cell? ⟨w3.heap.size, 8, none⟩ = some (.int .i64 r.i.k) ∧ W'.cell? ⟨w3.heap.size, 9, none⟩ = some (.slice r.i.a r.i.l.length r.i.c))
        (first
          | (with_reducible exact HS0.out)
          | (with_reducible exact HS1.out)
          | (with_reducible exact HSE.out _ hbE)
          | (with_reducible exact HSP7.out _ _ _ _ _ _ _ _ (HSE.out _ hbE))
          | (with_reducible exact HSP2.out _ _ _ (HSE.out _ hbE))
          | (with_reducible exact HSP2.out _ _ _ (HSP7.out _ _ _ _ _ _ _ _ (HSE.out _ hbE)))
          | (with_reducible exact HSP7.out _ _ _ _ _ _ _ _ (HSP2.out _ _ _ (HSE.out _ hbE)))
          | fail)
        (first
          | (go_at_call 42; (with_reducible refine H39.out.mono ?_); rintro e wE ⟨t, rfl, HT, hbE, hcfE⟩; have HCE : Hid (CF w.heap.size x wE) := hcfE; obtain ⟨_, ⟨⟨y0, y1, y2, y3, y4, y5, y6⟩, f0, f1, f2, f3, f4, f5, f6⟩, u0, u1, g0, g1⟩ := hcfE)
          | fail)
      have HN : Hid (CkPost x w (.returned (.tuple #[.agg #[.int .i64 r.y.k, .int .i64 r.y.n, .int .i64 r.y.t.k, .slice r.y.t.a r.y.t.l.length r.y.t.c, .int .i64 r.y.f.k, .slice r.y.f.a r.y.f.l.length r.y.f.c, .slice r.y.a r.y.l.length r.y.c], .agg #[.int .i64 t.k, .slice t.a t.l.length t.c], .int .i64 0])) (ckEnd wE w.heap.size r.y t)) := by
        obtain ⟨hbB, hyB, hyb, hg44, hyes, hlB⟩ := HD.out
        have hk7 := put7_kept (w := wE) (J := w.heap.size + 1) (x := r.y)
        have hk2 : Kept (w.heap.size + 1 + 1) none (put7 wE (w.heap.size + 1) r.y) (ckEnd wE w.heap.size r.y t) := setR_kept.trans setR_kept
        refine ⟨(hbB.trans (hbE.mono hbB.size)).trans (ckEnd_below wE w.heap.size r.y t HCE.out.lt), .inr (.inr ⟨HX2.out.2, r.y, t, ?_, rfl, ?_, ?_, ?_⟩)⟩
        · rw [HT.out.1]; exact hyes
        · exact ((hyB.below hbE).keptR hk7 (hyb.mono fun b hb => hb.2.1)).keptR hk2 (hyb.mono fun b hb => hb.2.2)
        · exact (HT.out.2.1.keptR hk7 (HT.out.2.2.mono fun b hb => by omega)).keptR hk2 (HT.out.2.2.mono fun b hb => by omega)
        · rw [goodT_eq, HT.out.1, ← goodT_eq]; exact hg44
      obtain ⟨e0, e1, e2, e3, e4, e5, e6, e7, e8⟩ := HCE.out.ends r.y t
      clear y0 y1 y2 y3 y4 y5 y6 f0 f1 f2 f3 f4 f5 f6 u0 u1 g0 g1 HS0 HS1 HSE HSP7 HSP2 HS H39 HD HCE HT hbE
      go_wp2_with fail
      refine bodyPost_ret (v := .tuple #[.agg #[.int .i64 r.y.k, .int .i64 r.y.n, .int .i64 r.y.t.k, .slice r.y.t.a r.y.t.l.length r.y.t.c, .int .i64 r.y.f.k, .slice r.y.f.a r.y.f.l.length r.y.f.c, .slice r.y.a r.y.l.length r.y.c], .agg #[.int .i64 t.k, .slice t.a t.l.length t.c], .int .i64 0]) ?_ rfl HN.out
      unfold ckEnd put7 at e0 e1 e2 e3 e4 e5 e6 e7 e8
      simp [results, Tryz.results25, go_sem, e0, e1, e2, e3, e4, e5, e6, e7, e8]
end Go.Proofs.YtnddkmccagiclabGreatDoor

/-
  Plain mathematics of check: where all is told nothing is cast; who says less is not refused; no program in it.
-/
namespace Go.Proofs.YtnddkmccagiclabGreatDoor
/-! ### All told -/
/-! ### Sites -/
def sitesM : Tm → List (Int × Ty × Ty)
  | ⟨k, n, t, f, l⟩ => (if k = 10 then [(n, f, t)] else []) ++ (l.map fun x => sitesM x).flatten
/-! ### Less told -/
end Go.Proofs.YtnddkmccagiclabGreatDoor
