/-
  What the call of check's Sites answers: the casts of a term, as one reads it.
-/
import Derived.Test.YtnddkmccagiclabGreatDoorLot004ab7e8c4
import Derived.Deep.DeepCutAuto
import Derived.Deep.RegionHeld3
import Derived.Deep.RegionLaw
import Derived.Test.YtnddkmccagiclabGreatDoorLote6df889150
import Derived.Test.YtnddkmccagiclabGreatDoorLot9ce1b4e4db
namespace Go.Proofs.YtnddkmccagiclabGreatDoor
open Go.RowKit
theorem Tryz.info52 : (Tryz.prog.info? 52).map (fun i => (i.zero, i.size, i.bytes)) = some (some (.agg #[.int .i64 0, .int .i64 0, .slice none 0 0, .int .i64 0, .slice none 0 0]), 5, 72) := by kernel_rfl
set_option maxRecDepth 20000 in
set_option maxHeartbeats 8000000 in
/-- Sites. -/
theorem sites_any (x : TT) (w : World) (hx : x.In w) (hsz : x.sz ≤ 1000) (hok : x.cok) :
    Calls Tryz.prog 27 #[.agg #[.int .i64 x.k, .int .i64 x.n, .int .i64 x.t.k, .slice x.t.a x.t.l.length x.t.c, .int .i64 x.f.k, .slice x.f.a x.f.l.length x.f.c, .slice x.a x.l.length x.c]] w fun e w' => ∃ (ss : List SiteT) (a : Option Addr) (c : Nat), e = .returned (.slice a ss.length c) ∧ (SL w' a ss ∧ ss.length ≤ c) ∧ ss.map SiteT.m = sitesM x.tm ∧ Below w.heap.size w w' := by
  obtain ⟨i0, hi0, hz0, hz1, hz2⟩ := info_parts Tryz.info27c
  obtain ⟨j0, hj0, hy0, hy1, hy2⟩ := info_parts Tryz.info52
  have HL : Hid (SI (w.heap.size + 1) (.slice (some ⟨w.heap.size + 1, 0, none⟩) 1 1) (.slice none 0 0) [x] [] ((w.alloc (.cells #[.int .i64 x.k, .int .i64 x.n, .int .i64 x.t.k, .slice x.t.a x.t.l.length x.t.c, .int .i64 x.f.k, .slice x.f.a x.f.l.length x.f.c, .slice x.a x.l.length x.c] 27)).alloc (.cells #[.int .i64 x.k, .int .i64 x.n, .int .i64 x.t.k, .slice x.t.a x.t.l.length x.t.c, .int .i64 x.f.k, .slice x.f.a x.f.l.length x.f.c, .slice x.a x.l.length x.c] 27)) ∧ Below w.heap.size w ((w.alloc (.cells #[.int .i64 x.k, .int .i64 x.n, .int .i64 x.t.k, .slice x.t.a x.t.l.length x.t.c, .int .i64 x.f.k, .slice x.f.a x.f.l.length x.f.c, .slice x.a x.l.length x.c] 27)).alloc (.cells #[.int .i64 x.k, .int .i64 x.n, .int .i64 x.t.k, .slice x.t.a x.t.l.length x.t.c, .int .i64 x.f.k, .slice x.f.a x.f.l.length x.f.c, .slice x.a x.l.length x.c] 27)) ∧ mass1 [x] ≤ 1000 ∧ w.heap.size + 1 ≤ ((w.alloc (.cells #[.int .i64 x.k, .int .i64 x.n, .int .i64 x.t.k, .slice x.t.a x.t.l.length x.t.c, .int .i64 x.f.k, .slice x.f.a x.f.l.length x.f.c, .slice x.a x.l.length x.c] 27)).alloc (.cells #[.int .i64 x.k, .int .i64 x.n, .int .i64 x.t.k, .slice x.t.a x.t.l.length x.t.c, .int .i64 x.f.k, .slice x.f.a x.f.l.length x.f.c, .slice x.a x.l.length x.c] 27)).heap.size ∧ ([] : List SiteT).map SiteT.m ++ todo [x] = sitesM x.tm) := by
    have hb : Below w.heap.size w ((w.alloc (.cells #[.int .i64 x.k, .int .i64 x.n, .int .i64 x.t.k, .slice x.t.a x.t.l.length x.t.c, .int .i64 x.f.k, .slice x.f.a x.f.l.length x.f.c, .slice x.a x.l.length x.c] 27)).alloc (.cells #[.int .i64 x.k, .int .i64 x.n, .int .i64 x.t.k, .slice x.t.a x.t.l.length x.t.c, .int .i64 x.f.k, .slice x.f.a x.f.l.length x.f.c, .slice x.a x.l.length x.c] 27)) := ((Below.refl _ _).alloc (Nat.le_refl _) _).alloc (by simp) _
    have hh := heap_alloc_new (w.alloc (.cells #[.int .i64 x.k, .int .i64 x.n, .int .i64 x.t.k, .slice x.t.a x.t.l.length x.t.c, .int .i64 x.f.k, .slice x.f.a x.f.l.length x.f.c, .slice x.a x.l.length x.c] 27)) (.cells #[.int .i64 x.k, .int .i64 x.n, .int .i64 x.t.k, .slice x.t.a x.t.l.length x.t.c, .int .i64 x.f.k, .slice x.f.a x.f.l.length x.f.c, .slice x.a x.l.length x.c] 27)
    simp only [World.size_alloc] at hh
    refine ⟨⟨⟨rfl, .inr ⟨_, 1, _, rfl, Nat.le_refl _, hh, Nat.le_refl _, by unfold maxLen; omega, rfl, rfl⟩⟩, World.ownsRow_nil _ _ _ _, fun g _ => by simp [Value.ownBlock], fun p hp => ?_, fun s hs => by cases hs⟩, hb, by simpa [mass1] using hsz, by simp, by simp [todo]⟩
    rcases List.mem_singleton.1 hp with rfl
    exact ⟨⟨hx.below hb, hx.bl.mono fun b h => by omega⟩, hok⟩
  obtain ⟨B, hB⟩ : ∃ B, w.heap.size + 1 = B := ⟨_, rfl⟩
  have hBw : w.heap.size < B := by omega
  have HX1 : Hid (x.sz ≤ 1000) := hsz
  clear hx hsz hok
  go_enter Tryz.func27, Tryz.ntmps27
  go_wp2_with fail
  go_loopg [3, 4] (mass1 [x]) (fun k s3 s4 wr => ∃ (u v : Value) (ps : List TT) (ss : List SiteT), u = s3 ∧ v = s4 ∧ k = mass1 ps ∧ Hid (SI B v u ps ss wr ∧ Below w.heap.size w wr ∧ mass1 ps ≤ 1000 ∧ B ≤ wr.heap.size ∧ ss.map SiteT.m ++ todo ps = sitesM x.tm))
  case atStart => exact ⟨_, _, [x], [], rfl, rfl, rfl, by rw [← hB]; exact HL⟩
  case round =>
    obtain ⟨u, v, ps, ss, hu, hv, hk, HR⟩ := hrel
    subst hu hv
    have HK : Hid (gk = mass1 ps) := hk
    clear hk HL hB
    by_cases hne : ps = []
    · subst hne
      obtain ⟨a, c', rfl⟩ : ∃ a c, v = .slice a 0 c := by
        rcases HR.out.1.ov.2 with ⟨rfl, _⟩ | ⟨g, cap, cur, rfl, _⟩
        · exact ⟨_, _, rfl⟩
        · exact ⟨_, _, rfl⟩
      obtain ⟨ua, uc, rfl, hsl⟩ := HR.out.1.list
      have HF : Hid (∃ (ss' : List SiteT) (a : Option Addr) (c : Nat), Ending.returned (.slice ua ss.length uc) = .returned (.slice a ss'.length c) ∧ (SL wr a ss' ∧ ss'.length ≤ c) ∧ ss'.map SiteT.m = sitesM x.tm ∧ Below w.heap.size w wr) := ⟨ss, ua, uc, rfl, hsl, by have := HR.out.2.2.2.2; simpa [todo] using this, HR.out.2.1⟩
      clear HR HK hsl
      go_wp2_with fail
      go_ret
      exact HF.out
    · obtain ⟨us, p, rfl⟩ : ∃ us p, ps = us ++ [p] := ⟨ps.dropLast, ps.getLast hne, (List.dropLast_concat_getLast hne).symm⟩
      have ho := HR.out.1.ov
      have hlen : (us ++ [p]).length = us.length + 1 := by simp
      have h7l : (cells7 us).length = us.length * 7 := by
        have : ∀ l : List TT, (cells7 l).length = l.length * 7 := fun l => by
          induction l with
          | nil => rfl
          | cons a r ih => simp [cells7] at ih ⊢; omega
        exact this us
      rw [hlen] at ho
      obtain ⟨g, cap, rfl, hg, hgl⟩ := ho.form (by omega)
      have hc : ∀ i, i < 7 → wr.cell? ⟨g, us.length * 7 + i, none⟩ = (#[.int .i64 p.k, .int .i64 p.n, .int .i64 p.t.k, .slice p.t.a p.t.l.length p.t.c, .int .i64 p.f.k, .slice p.f.a p.f.l.length p.f.c, .slice p.a p.l.length p.c] : Array Value)[i]? := by
        intro i hi
        rw [ho.cellAt (us.length * 7 + i) (by omega)]
        have := cells7_at (us ++ [p]) us.length (by simp) i hi
        rw [this]
        simp
      have c0 : wr.cell? ⟨g, us.length * 7, none⟩ = some (.int .i64 p.k) := (hc 0 (by omega)).trans rfl
      have c1 : wr.cell? ⟨g, us.length * 7 + 1, none⟩ = some (.int .i64 p.n) := (hc 1 (by omega)).trans rfl
      have c2 : wr.cell? ⟨g, us.length * 7 + 2, none⟩ = some (.int .i64 p.t.k) := (hc 2 (by omega)).trans rfl
      have c3 : wr.cell? ⟨g, us.length * 7 + 3, none⟩ = some (.slice p.t.a p.t.l.length p.t.c) := (hc 3 (by omega)).trans rfl
      have c4 : wr.cell? ⟨g, us.length * 7 + 4, none⟩ = some (.int .i64 p.f.k) := (hc 4 (by omega)).trans rfl
      have c5 : wr.cell? ⟨g, us.length * 7 + 5, none⟩ = some (.slice p.f.a p.f.l.length p.f.c) := (hc 5 (by omega)).trans rfl
      have c6 : wr.cell? ⟨g, us.length * 7 + 6, none⟩ = some (.slice p.a p.l.length p.c) := (hc 6 (by omega)).trans rfl
      have hcap : us.length + 1 ≤ cap := by
        rcases ho.2 with ⟨h, _⟩ | ⟨g', cap', cur, h, _, _, h1, _⟩
        · cases h
        · cases h; exact h1
      have hop : wr.ownsRow B 27 7 (.slice (some ⟨g, 0, none⟩) us.length cap) us.length (cells7 us) := by
        rw [cells7_append] at ho
        exact ownsRow_pop h7l ho
      have hms : mass1 (us ++ [p]) = mass1 us + p.sz := by simp [mass1]
      have hml := HR.out.2.2.1
      have hus := Stk1.len (ps := us)
      have i1 : (us.length : Int) < ((us.length : Int) + 1) := by omega
      have n1 : (us.length : Int) ≤ 1001 := by omega
      have n2 : (us.length : Int) ≤ (cap : Int) := by omega
      have n3 : (0 : Int) ≤ (us.length : Int) := by omega
      have hpl : p.l.length ≤ 1001 := by have h1 := p.sz_eq; have h2 := len_sum p.l; omega
      have hpp := HR.out.1.pi p (by simp)
      obtain ⟨OP, hOP⟩ : ∃ O, O = Obj.cells #[.int .i64 p.k, .int .i64 p.n, .int .i64 p.t.k, .slice p.t.a p.t.l.length p.t.c, .int .i64 p.f.k, .slice p.f.a p.f.l.length p.f.c, .slice p.a p.l.length p.c] 27 := ⟨_, rfl⟩
      have hA : Below wr.heap.size wr (wr.alloc OP) := (Below.refl _ _).alloc (Nat.le_refl _) _
      have hBr := HR.out.2.2.2.1
      have HI : Hid (SI B (.slice (some ⟨g, 0, none⟩) us.length cap) u us ss (wr.alloc OP) ∧ Below w.heap.size w (wr.alloc OP) ∧ (Pr1 B (wr.alloc OP) p ∧ p.cok) ∧ At7 (wr.alloc OP) wr.heap.size 0 p ∧ wr.heap.size < (wr.alloc OP).heap.size ∧ B ≤ (wr.alloc OP).heap.size ∧ u.ownBlock ≠ some wr.heap.size) := by
        refine ⟨(SI.below ⟨hop, HR.out.1.ou, fun q hq => HR.out.1.ne q hq, fun q hq => HR.out.1.pi q (by simp [hq]), HR.out.1.si⟩ hA hBr), HR.out.2.1.trans (hA.mono HR.out.2.1.size), ⟨hpp.1.low (hA.mono hBr), hpp.2⟩, by rw [hOP]; exact At7.new wr p, by simp, by simp; omega, fun e => by have := (HR.out.1.ou.lt _ e).2; omega⟩
      have HM : Hid (gk = mass1 us + p.sz ∧ mass1 us + p.sz ≤ 1000 ∧ ss.map SiteT.m ++ (sitesM p.tm ++ todo us) = sitesM x.tm) := ⟨HK.out.trans hms, by rw [← hms]; exact hml, by rw [← todo_snoc]; exact HR.out.2.2.2.2⟩
      obtain ⟨NB, hNB⟩ : ∃ NB, NB = wr.heap.size := ⟨_, rfl⟩
      have hgn : g ≠ NB := by omega
      clear ho hop HR HK hms hml hne hlen hus hc hA hpp h7l
      subst hOP
      go_upto_if 25 with fail
      go_cut [3] (fun s3 wx => ∃ (u' : Value) (ss' : List SiteT), u' = s3 ∧ Hid (SI B (.slice (some ⟨g, 0, none⟩) us.length cap) u' us ss' wx ∧ Below w.heap.size w wx ∧ (Pr1 B wx p ∧ p.cok) ∧ At7 wx NB 0 p ∧ NB < wx.heap.size ∧ B ≤ wx.heap.size ∧ u'.ownBlock ≠ some NB ∧ ss'.map SiteT.m ++ (todo p.l.reverse ++ todo us) = sitesM x.tm))
      case first =>
        subst hNB
        obtain ⟨WP, hWP⟩ : ∃ WP, WP = wr.alloc (.cells #[.int .i64 p.k, .int .i64 p.n, .int .i64 p.t.k, .slice p.t.a p.t.l.length p.t.c, .int .i64 p.f.k, .slice p.f.a p.f.l.length p.f.c, .slice p.a p.l.length p.c] 27) := ⟨_, rfl⟩
        rw [← hWP] at HI
        by_cases hk0 : p.k = 10
        · have hk : Hid (p.k = 10) := hk0
          have hk' : (p.k == 10) = true := by simpa using hk0
          clear hk0
          rw [hk']
          clear hk'
          rw [← hWP]
          clear hWP
          have hcok := HI.out.2.2.1.2.top hk.out
          have hp7 := HI.out.2.2.2.1
          have HS : Hid (∀ W', Below WP.heap.size WP W' → W'.cell? ⟨wr.heap.size, 1, none⟩ = some (.int .i64 p.n) ∧ W'.cell? ⟨wr.heap.size, 2, none⟩ = some (.int .i64 p.t.k) ∧ W'.cell? ⟨wr.heap.size, 3, none⟩ = some (.slice p.t.a p.t.l.length p.t.c) ∧ W'.cell? ⟨wr.heap.size, 4, none⟩ = some (.int .i64 p.f.k) ∧ W'.cell? ⟨wr.heap.size, 5, none⟩ = some (.slice p.f.a p.f.l.length p.f.c)) := by
            intro W' hb
            obtain ⟨_, h1, h2, h3, h4, h5, _⟩ := hp7.below hb
            simp only [Nat.zero_add] at h1 h2 h3 h4 h5
            exact ⟨h1, h2, h3, h4, h5⟩
          have HS1 : Hid (WP.drew.cell? ⟨wr.heap.size, 1, none⟩ = some (.int .i64 p.n) ∧ WP.drew.cell? ⟨wr.heap.size, 2, none⟩ = some (.int .i64 p.t.k) ∧ WP.drew.cell? ⟨wr.heap.size, 3, none⟩ = some (.slice p.t.a p.t.l.length p.t.c) ∧ WP.drew.cell? ⟨wr.heap.size, 4, none⟩ = some (.int .i64 p.f.k) ∧ WP.drew.cell? ⟨wr.heap.size, 5, none⟩ = some (.slice p.f.a p.f.l.length p.f.c)) := HS.out _ ((Below.refl _ _).drew)
          have HS0 : Hid (WP.cell? ⟨wr.heap.size, 1, none⟩ = some (.int .i64 p.n) ∧ WP.cell? ⟨wr.heap.size, 2, none⟩ = some (.int .i64 p.t.k) ∧ WP.cell? ⟨wr.heap.size, 3, none⟩ = some (.slice p.t.a p.t.l.length p.t.c) ∧ WP.cell? ⟨wr.heap.size, 4, none⟩ = some (.int .i64 p.f.k) ∧ WP.cell? ⟨wr.heap.size, 5, none⟩ = some (.slice p.f.a p.f.l.length p.f.c)) := HS.out _ (Below.refl _ _)
          have hpin := HI.out.2.2.1.1.1
          have H39f : Hid (Calls Tryz.prog 42 #[.agg #[.int .i64 p.f.k, .slice p.f.a p.f.l.length p.f.c]] WP.drew fun e wE => ∃ f : Tr, e = .returned (.agg #[.int .i64 f.k, .slice f.a f.l.length f.c]) ∧ Hid (f.ty = p.f.ty ∧ f.In wE ∧ f.Bl (WP.heap.size ≤ ·)) ∧ Below WP.heap.size WP wE) := by
            refine (fresh_any p.f WP.drew (hpin.f.below ((Below.refl _ _).drew)) hcok.2.1 hcok.2.2).mono ?_
            rintro e wE ⟨f, rfl, h1, h2, h3, h4⟩
            exact ⟨f, rfl, ⟨h1, h2, h3⟩, ((Below.refl _ _).drew).trans (h4.mono (Nat.le_refl _))⟩
          have H39t : Hid (∀ wE, Below WP.heap.size WP wE → Calls Tryz.prog 42 #[.agg #[.int .i64 p.t.k, .slice p.t.a p.t.l.length p.t.c]] wE fun e wK => ∃ t : Tr, e = .returned (.agg #[.int .i64 t.k, .slice t.a t.l.length t.c]) ∧ Hid (t.ty = p.t.ty ∧ t.In wK ∧ t.Bl (wE.heap.size ≤ ·) ∧ Below wE.heap.size wE wK) ∧ Below WP.heap.size WP wK ∧ wK.ownsRow B 52 5 u ss.length (cells5 ss)) := by
            intro wE hb
            refine (fresh_any p.t wE (hpin.t.below hb) hcok.1.1 hcok.1.2).mono ?_
            rintro e wK ⟨t, rfl, h1, h2, h3, h4⟩
            have h5 := hb.trans (h4.mono hb.size)
            exact ⟨t, rfl, ⟨h1, h2, h3, h4⟩, h5, ownsRow_low HI.out.1.ou h5⟩
          have hss : ss.length ≤ 1001 := by
            have h1 := HM.out.2.2
            have h2 : ∀ y : TT, (sitesM y.tm).length ≤ y.sz := by
              intro y
              induction y using TT.ind with
              | h k n t f a c l ih =>
                rw [TT.tm_mk, sitesM_mk, TT.sz_mk]
                have h3 : ∀ l : List TT, (∀ z, z ∈ l → (sitesM z.tm).length ≤ z.sz) → ((l.map TT.tm).flatMap sitesM).length ≤ (l.map TT.sz).sum := by
                  intro l
                  induction l with
                  | nil => intro _; simp
                  | cons z r ihr => intro h; have := h z (by simp); have := ihr fun q hq => h q (by simp [hq]); simp only [List.map_cons, List.flatMap_cons, List.length_append, List.sum_cons]; omega
                have := h3 l ih
                have h1 : (if k = 10 then [(n, f.ty, t.ty)] else []).length ≤ 1 := by split <;> simp
                rw [List.length_append]
                omega
            have h4 := h2 x
            have h5 := congrArg List.length h1
            have h6 := HX1.out
            simp only [List.length_append, List.length_map] at h5
            omega
          have hBP : B ≤ WP.heap.size := HI.out.2.2.2.2.2.1
          have HSG : Hid (∀ (wK w7 : World) (X : Obj), Below WP.heap.size WP wK → (wK.alloc X).grownBy w7 u.ownBlock → w7.cell? ⟨wr.heap.size, 1, none⟩ = some (.int .i64 p.n) ∧ w7.cell? ⟨wr.heap.size, 2, none⟩ = some (.int .i64 p.t.k) ∧ w7.cell? ⟨wr.heap.size, 3, none⟩ = some (.slice p.t.a p.t.l.length p.t.c) ∧ w7.cell? ⟨wr.heap.size, 4, none⟩ = some (.int .i64 p.f.k) ∧ w7.cell? ⟨wr.heap.size, 5, none⟩ = some (.slice p.f.a p.f.l.length p.f.c)) := by
            intro wK w7 X hb hgr
            have hl : wr.heap.size < wK.heap.size := Nat.lt_of_lt_of_le HI.out.2.2.2.2.1 hb.size
            have hc7 : ∀ i, w7.cell? ⟨wr.heap.size, i, none⟩ = wK.cell? ⟨wr.heap.size, i, none⟩ := fun i => by
              rw [World.cell?_of_block (a := ⟨wr.heap.size, i, none⟩) (hgr.block wr.heap.size (by simp; omega) (fun e => HI.out.2.2.2.2.2.2 e.symm))]
              exact ((Below.refl _ wK).alloc (Nat.le_refl _) X).cell (p := ⟨wr.heap.size, i, none⟩) hl
            obtain ⟨h1, h2, h3, h4, h5⟩ := HS.out wK hb
            exact ⟨(hc7 _).trans h1, (hc7 _).trans h2, (hc7 _).trans h3, (hc7 _).trans h4, (hc7 _).trans h5⟩
          have HSA : Hid (∀ (wK : World) (X : Obj), Below WP.heap.size WP wK → (fun W' : World => W'.cell? ⟨wr.heap.size, 1, none⟩ = some (.int .i64 p.n) ∧ W'.cell? ⟨wr.heap.size, 2, none⟩ = some (.int .i64 p.t.k) ∧ W'.cell? ⟨wr.heap.size, 3, none⟩ = some (.slice p.t.a p.t.l.length p.t.c) ∧ W'.cell? ⟨wr.heap.size, 4, none⟩ = some (.int .i64 p.f.k) ∧ W'.cell? ⟨wr.heap.size, 5, none⟩ = some (.slice p.f.a p.f.l.length p.f.c)) (wK.alloc X)) := fun wK X hb => HS.out _ (hb.alloc hb.size _)
          clear hcok hp7 hpin c0 c1 c2 c3 c4 c5 c6
          go_upto_region 8 with fail
          go_region_held3 (fun W' => W'.cell? ⟨wr.heap.size, 1, none⟩ = some (.int .i64 p.n) ∧ W'.cell? ⟨wr.heap.size, 2, none⟩ = some (.int .i64 p.t.k) ∧ W'.cell? ⟨wr.heap.size, 3, none⟩ = some (.slice p.t.a p.t.l.length p.t.c) ∧ W'.cell? ⟨wr.heap.size, 4, none⟩ = some (.int .i64 p.f.k) ∧ W'.cell? ⟨wr.heap.size, 5, none⟩ = some (.slice p.f.a p.f.l.length p.f.c))
            (first
              | (with_reducible exact HS0.out)
              | (with_reducible exact HS1.out)
              | (with_reducible exact HS.out _ hb)
              | (with_reducible exact HSA.out _ _ hb)
              | (with_reducible exact HSG.out _ _ _ hb hgrow)
              | fail)
            (first
              | (go_at_call 42; (with_reducible refine H39f.out.mono ?_); rintro e wE ⟨f, rfl, HFF, hb⟩; have hbE := hb)
              | (go_at_call 42; (with_reducible refine (H39t.out _ hb).mono ?_); rintro e wK ⟨t, rfl, HTT, hb, uo⟩; have hnew := heap_alloc_new wK (.cells #[.int .i64 p.n, .int .i64 f.k, .slice f.a f.l.length f.c, .int .i64 t.k, .slice t.a t.l.length t.c] 52); have hKs : B ≤ wK.heap.size := Nat.le_trans hBP hb.size)
              | (refine step_append_lies _ (by rfl) _ _ _ (by rfl) B 52 j0 _ 5 72 Tryz.underlying49 hj0 hy0 hy1 hy2 rfl (by omega) u ss.length (cells5 ss) (by rfl) (uo.alloc _) ⟨wK.heap.size, 0, none⟩ 1 1 [.int .i64 p.n, .int .i64 f.k, .slice f.a f.l.length f.c, .int .i64 t.k, .slice t.a t.l.length t.c] (by rfl) (by rfl) (World.news_of_block (cs := #[.int .i64 p.n, .int .i64 f.k, .slice f.a f.l.length f.c, .int .i64 t.k, .slice t.a t.l.length t.c]) (t := 52) (fr := (0, 0)) hnew) (by simp [Value.oneCell']) (by omega) (by unfold maxLen; omega) (by omega) (by simp; omega) (wK.heap.size + 1) (by simp) ?_; intro gg cap1 w7 hown1 hgrow hat hlt3)
              | fail)
          have HN : Hid (SI B (.slice (some ⟨g, 0, none⟩) us.length cap) (.slice (some ⟨gg, 0, none⟩) (ss.length + 1) cap1) us (ss ++ [⟨p.n, f, t⟩]) w7 ∧ Below w.heap.size w w7 ∧ (Pr1 B w7 p ∧ p.cok) ∧ At7 w7 wr.heap.size 0 p ∧ wr.heap.size < w7.heap.size ∧ B ≤ w7.heap.size ∧ (Value.slice (some ⟨gg, 0, none⟩) (ss.length + 1) cap1).ownBlock ≠ some wr.heap.size ∧ (ss ++ [SiteT.mk p.n f t]).map SiteT.m ++ (todo p.l.reverse ++ todo us) = sitesM x.tm) := by
            obtain ⟨hsi, hbw, hpc, hp7, hnb, hBl, hne⟩ := HI.out
            obtain ⟨f1, f2, f3⟩ := HFF.out
            obtain ⟨t1, t2, t3, hEK⟩ := HTT.out
            have hPs := hb.size
            have hgv : g < WP.heap.size := (hsi.ov.lt g rfl).2
            have hul : ∀ q, u.ownBlock = some q → q < WP.heap.size := fun q hq => (hsi.ou.lt q hq).2
            have hEs : WP.heap.size ≤ wE.heap.size := hbE.size
            have hst := (hsi.below hb hBl).pushS (gg := gg) (cap1 := cap1) (w3 := w7) (s := ⟨p.n, f, t⟩) (X := .cells #[.int .i64 p.n, .int .i64 f.k, .slice f.a f.l.length f.c, .int .i64 t.k, .slice t.a t.l.length t.c] 52) hKs (f2.below hEK) t2
              (f3.mono fun b hb => ⟨by omega, fun e => by have : b = g := Option.some.inj e; omega, fun e => by have := hul b e.symm; omega⟩)
              (t3.mono fun b hb => ⟨by omega, fun e => by have : b = g := Option.some.inj e; omega, fun e => by have := hul b e.symm; omega⟩)
              (by rw [cells5_one]; exact hown1) hgrow (by simpa using hat)
            have hs7 := hgrow.size
            simp only [World.size_alloc] at hs7
            have hlow : Below B wK w7 := ⟨(hgrow.os.trans rfl), (hgrow.tape.trans rfl), (hgrow.output.trans rfl), by omega, fun q hq => hst.2 q (by omega) fun e => by have := (hsi.ou.lt q e.symm).1; omega⟩
            refine ⟨hst.1, (hbw.trans (hb.mono hbw.size)).trans (hlow.mono (by omega)), ⟨(hpc.1.low (hb.mono hBl)).low hlow, hpc.2⟩, ?_, by omega, by omega, ?_, ?_⟩
            · exact (hp7.below hb).of fun i => World.cell?_of_block (a := ⟨wr.heap.size, i, none⟩) (hst.2 wr.heap.size (by omega) fun e => hne e.symm)
            · intro e
              have e' : gg = wr.heap.size := Option.some.inj e
              rcases hat with h | h
              · rw [e'] at h; exact hne h
              · omega
            · have := HM.out.2.2
              rw [sitesM_tt, if_pos hk.out] at this
              rw [← this]
              simp [SiteT.m, f1, t1]
          clear hown1 hgrow hat hlt3 uo hnew HFF HTT HS HS0 HS1 HSG HSA H39f H39t HI hb hbE
          go_wp2_with fail
          go_meet
          case rel => exact ⟨_, _, rfl, HN⟩
        · have hk : Hid (p.k ≠ 10) := hk0
          have hk' : (p.k == 10) = false := by simpa using hk0
          clear hk0
          rw [hk']
          clear hk'
          rw [← hWP]
          clear hWP
          have HN : Hid (SI B (.slice (some ⟨g, 0, none⟩) us.length cap) u us ss WP ∧ Below w.heap.size w WP ∧ (Pr1 B WP p ∧ p.cok) ∧ At7 WP wr.heap.size 0 p ∧ wr.heap.size < WP.heap.size ∧ B ≤ WP.heap.size ∧ u.ownBlock ≠ some wr.heap.size ∧ ss.map SiteT.m ++ (todo p.l.reverse ++ todo us) = sitesM x.tm) := by
            obtain ⟨h1, h2, h3, h4, h5, h6, h7⟩ := HI.out
            refine ⟨h1, h2, h3, h4, h5, h6, h7, ?_⟩
            have := HM.out.2.2
            rw [sitesM_tt, if_neg hk.out] at this
            simpa using this
          clear HI
          go_wp2_with fail
          go_meet
          case rel => exact ⟨u, ss, rfl, HN⟩
      case rest =>
      obtain ⟨u', ss', hu', HC⟩ := hcut
      subst hu'
      subst hNB
      obtain ⟨W0, hW0⟩ : ∃ W, W = wr := ⟨_, rfl⟩
      subst hW0
      have q6 := HC.out.2.2.2.1.c6
      simp only [Nat.zero_add] at q6
      have HCM : Hid (ss'.map SiteT.m ++ (todo p.l.reverse ++ todo us) = sitesM x.tm ∧ gk = mass1 us + p.sz ∧ mass1 us + p.sz ≤ 1000) := ⟨HC.out.2.2.2.2.2.2.2, HM.out.1, HM.out.2.1⟩
      have HC0 : Hid (SI B (Value.slice (some ⟨g, 0, none⟩) us.length cap) u' (us ++ (p.l.drop p.l.length).reverse) ss' wc ∧ Below w.heap.size w wc ∧ (Pr1 B wc p ∧ p.cok) ∧ At7 wc W0.heap.size 0 p ∧ W0.heap.size < wc.heap.size ∧ B ≤ wc.heap.size ∧ (Value.slice (some ⟨g, 0, none⟩) us.length cap).ownBlock ≠ some W0.heap.size ∧ p.l.length ≤ p.l.length) := by
        obtain ⟨h1, h2, h3, h4, h5, h6, h7, h8⟩ := HC.out
        exact ⟨by simpa using h1, h2, h3, h4, h5, h6, fun e => hgn (Option.some.inj e), Nat.le_refl _⟩
      clear HC HM c0 c1 c2 c3 c4 c5 c6 HI
      go_wp2_with fail
      clear q6
      obtain ⟨K0, hK0⟩ : ∃ K, K = gk := ⟨_, rfl⟩
      subst hK0
      go_loopg [4, 7] p.l.length (fun q s4 s7 wx => ∃ (j : Nat) (v : Value), q = j ∧ s7 = .int .i64 ((j : Int) - 1) ∧ v = s4 ∧ Hid (SI B v u' (us ++ (p.l.drop j).reverse) ss' wx ∧ Below w.heap.size w wx ∧ (Pr1 B wx p ∧ p.cok) ∧ At7 wx W0.heap.size 0 p ∧ W0.heap.size < wx.heap.size ∧ B ≤ wx.heap.size ∧ v.ownBlock ≠ some W0.heap.size ∧ j ≤ p.l.length))
      case atStart => exact ⟨p.l.length, _, rfl, rfl, rfl, HC0⟩
      case round =>
        obtain ⟨j, v, hj, rfl, hv, HQ⟩ := hrel
        subst hv
        clear HC0
        match j, hj, HQ with
        | 0, hj, HQ =>
          have HN : Hid (SI B v u' (us ++ p.l.reverse) ss' wr ∧ Below w.heap.size w wr ∧ mass1 (us ++ p.l.reverse) ≤ 1000 ∧ B ≤ wr.heap.size ∧ ss'.map SiteT.m ++ todo (us ++ p.l.reverse) = sitesM x.tm) := by
            obtain ⟨h1, h2, h3, h4, h5, h6, h7, h8⟩ := HQ.out
            have e : mass1 (us ++ p.l.reverse) = mass1 us + (p.l.map TT.sz).sum := by simp [mass1]
            have hs := p.sz_eq
            have hm := HCM.out.2
            exact ⟨by simpa using h1, h2, by omega, h6, by rw [todo_append]; exact HCM.out.1⟩
          have HMs : Hid (mass1 (us ++ p.l.reverse) < K0) := by
            have e : mass1 (us ++ p.l.reverse) = mass1 us + (p.l.map TT.sz).sum := by simp [mass1]
            have hs := p.sz_eq
            have hm := HCM.out.2
            show _ < _
            omega
          clear HQ hj HCM
          go_wp2_with fail
          go_roundg (mass1 (us ++ p.l.reverse))
          case measure => exact HMs.out
          case rel => exact ⟨_, _, _, _, rfl, rfl, rfl, HN⟩
        | m + 1, hj, HQ =>
          have hmlt : m < p.l.length := HQ.out.2.2.2.2.2.2.2
          obtain ⟨hpi, hpb⟩ := HQ.out.2.2.1.1
          obtain ⟨b, o, ea, hX, hyi⟩ := hpi.part m hmlt
          have hyb : p.l[m].Bl (· < B) := hpb.mem (List.getElem_mem hmlt)
          have hyc : p.l[m].cok := HQ.out.2.2.1.2.mem (List.getElem_mem hmlt)
          obtain ⟨y, hye⟩ : ∃ y, p.l[m] = y := ⟨_, rfl⟩
          rw [hye] at hX hyi hyb hyc
          obtain ⟨d0, d1, d2, d3, d4, d5, d6⟩ := hX
          have q6 := HQ.out.2.2.2.1.c6
          simp only [Nat.zero_add] at q6
          rw [ea] at q6
          have e1 : (((m + 1 : Nat) : Int) - 1) = (m : Int) := by omega
          rw [e1]
          have i5 : (m : Int) < (p.l.length : Int) := by omega
          have i7 : (0 : Int) ≤ (m : Int) := by omega
          obtain ⟨N, hN⟩ : ∃ N, (us ++ (p.l.drop (m + 1)).reverse).length = N := ⟨_, rfl⟩
          obtain ⟨xs, hxs⟩ : ∃ xs, cells7 (us ++ (p.l.drop (m + 1)).reverse) = xs := ⟨_, rfl⟩
          have hNb : N ≤ 2002 := by
            rw [← hN]
            have h1 := Stk1.len (ps := us)
            have h2 := HCM.out.2.2
            simp
            omega
          have uo : wr.ownsRow B 27 7 v N xs := by rw [← hN, ← hxs]; exact HQ.out.1.ov
          have hnew := heap_alloc_new wr (.cells #[.int .i64 y.k, .int .i64 y.n, .int .i64 y.t.k, .slice y.t.a y.t.l.length y.t.c, .int .i64 y.f.k, .slice y.f.a y.f.l.length y.f.c, .slice y.a y.l.length y.c] 27)
          have hBr : B ≤ wr.heap.size := HQ.out.2.2.2.2.2.1
          have HNX : Hid ((us ++ (p.l.drop (m + 1)).reverse).length = N ∧ cells7 (us ++ (p.l.drop (m + 1)).reverse) = xs) := ⟨hN, hxs⟩
          have HY : Hid ((Pr1 B wr y ∧ y.cok) ∧ p.l[m] = y) := ⟨⟨⟨hyi, hyb⟩, hyc⟩, hye⟩
          have HJ : Hid (gk = m + 1) := hj
          clear hN hxs hpi hpb hyi hyb hyc hye ea e1 hj
          go_wp2_with (at_builtin; refine wpList_append_lies _ rfl _ _ _ rfl B 27 i0 _ 7 104 Tryz.underlying25 hi0 hz0 hz1 hz2 rfl (by omega) v N xs rfl (uo.alloc _) ⟨wr.heap.size, 0, none⟩ 1 1 [.int .i64 y.k, .int .i64 y.n, .int .i64 y.t.k, .slice y.t.a y.t.l.length y.t.c, .int .i64 y.f.k, .slice y.f.a y.f.l.length y.f.c, .slice y.a y.l.length y.c] rfl rfl (World.news_of_block (cs := #[.int .i64 y.k, .int .i64 y.n, .int .i64 y.t.k, .slice y.t.a y.t.l.length y.t.c, .int .i64 y.f.k, .slice y.f.a y.f.l.length y.f.c, .slice y.a y.l.length y.c]) (t := 27) (fr := (0, 0)) hnew) (by simp [Value.oneCell']) (by omega) (by unfold maxLen; omega) (by omega) (by simp; omega) (wr.heap.size + 1) (by simp) ?_; intro gg cap1 w3 hown1 hgrow hat hlt3)
          have HN : Hid (SI B (Value.slice (some ⟨gg, 0, none⟩) (N + 1) cap1) u' (us ++ (p.l.drop m).reverse) ss' w3 ∧ Below w.heap.size w w3 ∧ (Pr1 B w3 p ∧ p.cok) ∧ At7 w3 W0.heap.size 0 p ∧ W0.heap.size < w3.heap.size ∧ B ≤ w3.heap.size ∧ (Value.slice (some ⟨gg, 0, none⟩) (N + 1) cap1).ownBlock ≠ some W0.heap.size ∧ m ≤ p.l.length) := by
            obtain ⟨h1, h2, h3, h4, h5, h6, h7, h8⟩ := HQ.out
            obtain ⟨eN, exs⟩ := HNX.out
            have hst := h1.pushT (gg := gg) (cap1 := cap1) (w3 := w3) (c := y) (X := .cells #[.int .i64 y.k, .int .i64 y.n, .int .i64 y.t.k, .slice y.t.a y.t.l.length y.t.c, .int .i64 y.f.k, .slice y.f.a y.f.l.length y.f.c, .slice y.a y.l.length y.c] 27) hBr HY.out.1 (by rw [eN, exs]; exact hown1) hgrow (by simpa using hat)
            have hs3 := hgrow.size
            simp only [World.size_alloc] at hs3
            have hlow : Below B wr w3 := ⟨hgrow.os.trans rfl, hgrow.tape.trans rfl, hgrow.output.trans rfl, by omega, fun q hq => hst.2 q (by omega) fun e => by have := (h1.ov.lt q e.symm).1; omega⟩
            have hst1 := hst.1
            rw [eN] at hst1
            have hdr : us ++ (p.l.drop m).reverse = us ++ (p.l.drop (m + 1)).reverse ++ [y] := by
              rw [List.drop_eq_getElem_cons hmlt, HY.out.2]
              simp
            refine ⟨by rw [hdr]; exact hst1, h2.trans (hlow.mono (by omega)), ⟨h3.1.low hlow, h3.2⟩, ?_, by omega, by omega, ?_, by omega⟩
            · exact h4.of fun i => World.cell?_of_block (a := ⟨W0.heap.size, i, none⟩) (hst.2 W0.heap.size h5 fun e => h7 e.symm)
            · intro e
              have e' : gg = W0.heap.size := Option.some.inj e
              rcases hat with h | h
              · rw [e'] at h; exact h7 h
              · omega
          clear hown1 hgrow hat hlt3 uo hnew HQ HY HNX d0 d1 d2 d3 d4 d5 d6 q6
          go_wp2_with fail
          go_roundg m
          case measure => have := HJ.out; omega
          case rel => exact ⟨m, _, rfl, by go_num, rfl, HN⟩
end Go.Proofs.YtnddkmccagiclabGreatDoor

/-
  What the call of kind.finer answers at two trees that lie in memory, where there is room for all levels of the first.
-/
namespace Go.Proofs.YtnddkmccagiclabGreatDoor
open Go.RowKit
set_option maxHeartbeats 400000 in
theorem finer_right (n : Nat) (hn : n ≤ 1000) (k : Int) (a a' : Option Addr) (m m' c c' : Nat) (rp : Option Addr) (w : World) :
    Calls Tryz.prog 45 #[.agg #[.int .i64 k, .slice a m c], .agg #[.int .i64 0, .slice a' m' c'], .int .i64 ((n : Int) + 1), .pointer rp] w fun e w' => e = .returned (.bool true) ∧ Below w.heap.size w w' := by
  have hz : (((n : Int) + 1) == 0) = false := by simp; omega
  go_enter Tryz.func45, Tryz.ntmps45
  go_wp2_with fail
  go_ret
  exact ⟨rfl, ((Below.refl _ _).alloc (Nat.le_refl _) _).alloc (by simp) _⟩
set_option maxHeartbeats 1000000 in
theorem finer_step (n : Nat) (hn : n ≤ 1000) (x y : Tr) (rp : Option Addr) (w : World) (hx : x.In w) (hy : y.In w) (hh : x.hgt ≤ n + 1) (hs : x.sm) (e2 : (y.k == 0) = false)
    (ih : Hid (∀ (x y : Tr) (w : World), x.In w → y.In w → x.hgt ≤ n → x.sm → Calls Tryz.prog 45 #[.agg #[.int .i64 x.k, .slice x.a x.l.length x.c], .agg #[.int .i64 y.k, .slice y.a y.l.length y.c], .int .i64 (n : Int), .pointer rp] w fun e w' => e = .returned (.bool (relY escFiner x.ty y.ty)) ∧ Below w.heap.size w w')) :
    Calls Tryz.prog 45 #[.agg #[.int .i64 x.k, .slice x.a x.l.length x.c], .agg #[.int .i64 y.k, .slice y.a y.l.length y.c], .int .i64 ((n : Int) + 1), .pointer rp] w fun e w' => e = .returned (.bool (relY escFiner x.ty y.ty)) ∧ Below w.heap.size w w' := by
  have hz : (((n : Int) + 1) == 0) = false := by simp; omega
  have hlen := hs.len
  by_cases ht0 : (x.k == y.k && (x.l.length : Int) == (y.l.length : Int)) = false
  · have ht : Hid ((x.k == y.k && (x.l.length : Int) == (y.l.length : Int)) = false) := ht0
    clear ht0
    go_enter Tryz.func45, Tryz.ntmps45
    go_wp2_with fail
    refine (alike_any _ _ _ _ _ _ _ _ false ht.out _).mono ?_
    rintro e w1 ⟨rfl, hb1⟩
    go_wp2_with fail
    go_ret
    refine ⟨?_, (((Below.refl _ _).alloc (Nat.le_refl _) _).alloc (by simp) _).trans (hb1.mono (by simp; omega))⟩
    rw [relY_top escFiner x y (by simp [escFiner, e2]) ht.out]
    rfl
  · have ht' : Hid ((x.k == y.k && (x.l.length : Int) == (y.l.length : Int)) = true) := by simpa [Hid] using ht0
    clear ht0
    have hk : Hid (x.k = y.k) := by have h := ht'.out; simp at h; exact h.1
    have hl : Hid (x.l.length = y.l.length) := by have h := ht'.out; simp at h; exact Int.ofNat.inj h.2
    go_enter Tryz.func45, Tryz.ntmps45
    go_wp2_with fail
    refine (alike_any _ _ _ _ _ _ _ _ true ht'.out _).mono ?_
    rintro e w1 ⟨rfl, hb1⟩
    have hbw : Below w.heap.size w w1 := (((Below.refl _ _).alloc (Nat.le_refl _) _).alloc (by simp) _).trans (hb1.mono (by simp; omega))
    have p1 : w1.cell? ⟨w.heap.size, 1, none⟩ = some (.slice x.a x.l.length x.c) := cell_later hb1 (by simp [go_sem])
    have p3 : w1.cell? ⟨w.heap.size + 1, 1, none⟩ = some (.slice y.a y.l.length y.c) := cell_later hb1 (by simp [go_sem])
    clear hb1
    go_wp2_with fail
    go_loopw [27] (fun i wr => ∃ j : Nat, j ≤ x.l.length ∧ i = .int .i64 (j : Int) ∧ Below w1.heap.size w1 wr ∧ ∀ q (h : q < x.l.length) (h' : q < y.l.length), q < j → relY escFiner x.l[q].ty y.l[q].ty = true) (fun i _ => x.l.length - (intOf i).toNat)
    case atStart => exact ⟨0, Nat.zero_le _, rfl, Below.refl _ _, fun q _ _ h => absurd h (by omega)⟩
    case round =>
      obtain ⟨j, hj, rfl, hbr, hall⟩ := hrel
      have HA : Hid (∀ q (h : q < x.l.length) (h' : q < y.l.length), q < j → relY escFiner x.l[q].ty y.l[q].ty = true) := hall
      clear hall
      have hbwr : Below w.heap.size w wr := hbw.trans (hbr.mono hbw.size)
      by_cases hlt : j < x.l.length
      · have hlt' : j < y.l.length := hl.out ▸ hlt
        obtain ⟨b, o, ea, x0, x1, hxj⟩ := hx.part j hlt
        obtain ⟨b', o', eb, y0, y1, hyj⟩ := hy.part j hlt'
        have q1 : wr.cell? ⟨w.heap.size, 1, none⟩ = some (.slice (some ⟨b, o, none⟩) x.l.length x.c) := by rw [← ea]; exact cell_later hbr p1
        have q3 : wr.cell? ⟨w.heap.size + 1, 1, none⟩ = some (.slice (some ⟨b', o', none⟩) y.l.length y.c) := by rw [← eb]; exact cell_later hbr p3
        replace x0 := cell_later hbwr x0
        replace x1 := cell_later hbwr x1
        replace y0 := cell_later hbwr y0
        replace y1 := cell_later hbwr y1
        have i1 : (j : Int) < (x.l.length : Int) := by omega
        have i2 : (j : Int) < (y.l.length : Int) := by omega
        have i0 : (0 : Int) ≤ (j : Int) := by omega
        clear p1 p3 ea eb hx hy ht'
        have hwr : IntKind.i64.wrap (n : Int) = (n : Int) := wrap_small n hn
        obtain ⟨r, hr⟩ : ∃ r, relY escFiner x.l[j].ty y.l[j].ty = r := ⟨_, rfl⟩
        have HC : Hid (∀ (w : World), x.l[j].In w → y.l[j].In w → Calls Tryz.prog 45 #[.agg #[.int .i64 x.l[j].k, .slice x.l[j].a x.l[j].l.length x.l[j].c], .agg #[.int .i64 y.l[j].k, .slice y.l[j].a y.l[j].l.length y.l[j].c], .int .i64 (n : Int), .pointer rp] w fun e w' => e = .returned (.bool r) ∧ Below w.heap.size w w') := by
          intro w h1 h2
          have := ih.out x.l[j] y.l[j] w h1 h2 (Tr.hgt_part hh j hlt) (hs.part j hlt)
          rw [hr] at this
          exact this
        have HR : Hid (relY escFiner x.l[j].ty y.l[j].ty = r) := hr
        clear hr
        cases r
        · go_wp2_with fail
          go_region_held3 (fun w' => w'.cell? ⟨w.heap.size, 1, none⟩ = some (.slice (some ⟨b, o, none⟩) x.l.length x.c) ∧ w'.cell? ⟨w.heap.size + 1, 1, none⟩ = some (.slice (some ⟨b', o', none⟩) y.l.length y.c) ∧ w'.cell? ⟨b, o + j * 2, none⟩ = some (.int .i64 x.l[j].k) ∧ w'.cell? ⟨b, o + j * 2 + 1, none⟩ = some (.slice x.l[j].a x.l[j].l.length x.l[j].c) ∧ w'.cell? ⟨b', o' + j * 2, none⟩ = some (.int .i64 y.l[j].k) ∧ w'.cell? ⟨b', o' + j * 2 + 1, none⟩ = some (.slice y.l[j].a y.l[j].l.length y.l[j].c)) (first | exact ⟨cell_later hb2 q1, cell_later hb2 q3, cell_later hb2 x0, cell_later hb2 x1, cell_later hb2 y0, cell_later hb2 y1⟩ | go_keep) (first | (go_at_call 45; refine (HC.out _ (hxj.below hbwr.drew) (hyj.below hbwr.drew)).mono ?_; rintro e w2 ⟨rfl, hb2⟩))
          have hbr2 : Below w1.heap.size w1 w2 := hbr.drew.trans (hb2.mono hbr.size)
          go_wp2_with fail
          go_ret
          refine ⟨?_, hbw.trans (hbr2.mono hbw.size)⟩
          rw [relY_part_not escFiner x y (by simp [escFiner, e2]) j hlt hlt' HR.out]
          rfl
        · go_wp2_with fail
          go_region_held3 (fun w' => w'.cell? ⟨w.heap.size, 1, none⟩ = some (.slice (some ⟨b, o, none⟩) x.l.length x.c) ∧ w'.cell? ⟨w.heap.size + 1, 1, none⟩ = some (.slice (some ⟨b', o', none⟩) y.l.length y.c) ∧ w'.cell? ⟨b, o + j * 2, none⟩ = some (.int .i64 x.l[j].k) ∧ w'.cell? ⟨b, o + j * 2 + 1, none⟩ = some (.slice x.l[j].a x.l[j].l.length x.l[j].c) ∧ w'.cell? ⟨b', o' + j * 2, none⟩ = some (.int .i64 y.l[j].k) ∧ w'.cell? ⟨b', o' + j * 2 + 1, none⟩ = some (.slice y.l[j].a y.l[j].l.length y.l[j].c)) (first | exact ⟨cell_later hb2 q1, cell_later hb2 q3, cell_later hb2 x0, cell_later hb2 x1, cell_later hb2 y0, cell_later hb2 y1⟩ | go_keep) (first | (go_at_call 45; refine (HC.out _ (hxj.below hbwr.drew) (hyj.below hbwr.drew)).mono ?_; rintro e w2 ⟨rfl, hb2⟩))
          have hbr2 : Below w1.heap.size w1 w2 := hbr.drew.trans (hb2.mono hbr.size)
          go_wp2_with fail
          go_roundw
          case rel =>
            refine ⟨j + 1, by omega, by go_num, hbr2, fun q h h' hq => ?_⟩
            by_cases e : q = j
            · subst e; exact HR.out
            · exact HA.out q h h' (by omega)
          case measure => simp [intOf]; omega
      · go_wp2_with fail
        go_ret
        refine ⟨?_, hbwr⟩
        rw [relY_parts escFiner x y hk.out hl.out fun q h h' => HA.out q h h' (by omega)]
        rfl
theorem finer_any (n : Nat) : n ≤ 1000 → ∀ (x y : Tr) (rp : Option Addr) (w : World), x.In w → y.In w → x.hgt ≤ n → x.sm → Calls Tryz.prog 45 #[.agg #[.int .i64 x.k, .slice x.a x.l.length x.c], .agg #[.int .i64 y.k, .slice y.a y.l.length y.c], .int .i64 (n : Int), .pointer rp] w fun e w' => e = .returned (.bool (relY escFiner x.ty y.ty)) ∧ Below w.heap.size w w' := by
  induction n with
  | zero =>
    intro _ x y rp w _ _ h
    have := x.hgt_pos
    omega
  | succ n ih =>
    intro hn x y rp w hx hy h hs
    have e : ((n + 1 : Nat) : Int) = (n : Int) + 1 := by omega
    rw [e]
    by_cases k2 : y.k = 0
    · rw [k2, relY_esc escFiner x y (by simp [escFiner, k2])]
      exact finer_right n (by omega) x.k x.a y.a _ _ _ _ rp w
    exact finer_step n (by omega) x y rp w hx hy h hs (by simpa using k2) (fun x y w hx hy h hs => ih (by omega) x y rp w hx hy h hs)
end Go.Proofs.YtnddkmccagiclabGreatDoor

/-
  What the calls of kind.holds (of kind.finer) and kind.Finer answer at two trees of which the first has at most a thousand levels.
-/
namespace Go.Proofs.YtnddkmccagiclabGreatDoor
open Go.RowKit
set_option maxHeartbeats 1000000 in
theorem holds_33 (x y : Tr) (r : Bool) (w : World) (hx : x.In w) (hy : y.In w)
    (HC : Hid (∀ (rp : Option Addr) (w : World), x.In w → y.In w → Calls Tryz.prog 45 #[.agg #[.int .i64 x.k, .slice x.a x.l.length x.c], .agg #[.int .i64 y.k, .slice y.a y.l.length y.c], .int .i64 1000, .pointer rp] w fun e w' => e = .returned (.bool r) ∧ Below w.heap.size w w')) :
    Calls Tryz.prog 44 #[.func (.func 45) #[] #[], .agg #[.int .i64 x.k, .slice x.a x.l.length x.c], .agg #[.int .i64 y.k, .slice y.a y.l.length y.c]] w fun e w' => e = .returned (.bool r) ∧ Below w.heap.size w w' := by
  go_enter Tryz.func44, Tryz.ntmps44
  go_wp2_with fail
  refine (put_any (w.heap.size + 1 + 1) (.slice none 0 0) 0 [] x.k y.k x.a y.a x.l.length y.l.length x.c y.c none _ (by simp [go_sem]) (by simp [go_sem]) (World.ownsRow_nil _ _ _ _) (by omega)).mono ?_
  rintro e w1 ⟨rfl, g, cap, hc1, hf1, ho1, _, hk1⟩
  have hbw : Below w.heap.size w w1 := ((((Below.refl _ _).alloc (Nat.le_refl _) _).alloc (by simp) _).alloc (by simp; omega) _).trans ((hk1.below (by simp [Value.ownBlock]) (by simp)).mono (by omega))
  have hsz : w.heap.size + 1 + 1 < w1.heap.size := World.block_lt_of_cell? _ _ hc1
  have HO : Hid (Off (w.heap.size + 1 + 1) x y r 1 w1) := ⟨hf1, .inl ⟨rfl, g, cap, by simpa using hc1, by simpa using ho1⟩⟩
  clear hc1 hf1 ho1 hk1
  go_wp2_with fail
  go_loopg [] 1 (fun k wr => Hid (Off (w.heap.size + 1 + 1) x y r k wr) ∧ Below w.heap.size w wr)
  case atStart => exact ⟨HO, hbw⟩
  case round =>
    obtain ⟨HR, hbr⟩ := hrel
    obtain ⟨hfr, ⟨rfl, g, cap, hc, ho⟩ | ⟨rfl, rfl, a, cap, hc⟩⟩ := HR.out
    · have c0 := ho.cellAt 0 (by omega)
      have c1 := ho.cellAt 1 (by omega)
      have c2 := ho.cellAt 2 (by omega)
      have c3 := ho.cellAt 3 (by omega)
      have c4 := ho.cellAt 4 (by omega)
      simp only [List.getElem?_cons_zero, List.getElem?_cons_succ] at c0 c1 c2 c3 c4
      have hcap : 1 ≤ cap := by
        rcases ho.2 with ⟨h, _⟩ | ⟨g', cap', cur, h, _, _, h1, _⟩
        · cases h
        · cases h; exact h1
      have hgr : w.heap.size + 1 + 1 < g := by
        rcases ho.2 with ⟨h, _⟩ | ⟨g', cap', cur, h, h1, _⟩
        · cases h
        · cases h; exact h1
      have hlr : w.heap.size + 1 + 1 < wr.heap.size := World.block_lt_of_cell? _ _ hc
      clear ho HR HO
      go_wp2_with fail
      refine (empty_any (w.heap.size + 1 + 1) (some ⟨g, 0, none⟩) 1 cap _ hc).mono ?_
      rintro e w' ⟨rfl, rfl⟩
      go_wp2_with fail
      refine (take_any (w.heap.size + 1 + 1) g 0 cap x.k y.k x.a y.a x.l.length y.l.length x.c y.c none _ (by simpa using hc) hfr (by omega) (by omega) (by simpa using c0) (by simpa using c1) (by simpa using c2) (by simpa using c3) (by simpa using c4)).mono ?_
      rintro e w' ⟨rfl, rfl⟩
      go_wp2_with fail
      have hb3 : Below w.heap.size w (((w'.setCell ⟨w.heap.size + 1 + 1, 0, none⟩ (.slice (some ⟨g, 0, none⟩) 0 cap)).alloc (.cells #[.int .i64 x.k, .slice x.a x.l.length x.c, .int .i64 y.k, .slice y.a y.l.length y.c, .pointer none] 141)).alloc (.cells #[.int .i64 x.k, .slice x.a x.l.length x.c, .int .i64 y.k, .slice y.a y.l.length y.c, .pointer none] 141)) :=
        ((hbr.setCell (by simp; omega) _).alloc (by simp [World.setCell]; omega) _).alloc (by simp [World.setCell]; omega) _
      have hb4 := hb3.alloc (by simp [World.setCell]; omega) (.cells #[.int .i64 x.k, .slice x.a x.l.length x.c, .int .i64 y.k, .slice y.a y.l.length y.c, .pointer none] 141)
      refine (HC.out _ _ (hx.below hb4) (hy.below hb4)).mono ?_
      rintro e w5 ⟨rfl, hb5⟩
      have hb6 : Below w.heap.size w w5 := hb4.trans (hb5.mono (by simp [World.setCell]; omega))
      have hcR : w5.cell? ⟨w.heap.size + 1 + 1, 0, none⟩ = some (.slice (some ⟨g, 0, none⟩) 0 cap) := by
        refine cell_later hb5 (cell_later ((((Below.refl _ (w'.setCell ⟨w.heap.size + 1 + 1, 0, none⟩ (.slice (some ⟨g, 0, none⟩) 0 cap))).alloc (Nat.le_refl _) _).alloc (by simp) _).alloc (by simp; omega) _) ?_)
        exact World.cell?_setCell_same _ _ _ hc
      have hfR : w5.frozen? ⟨w.heap.size + 1 + 1, 0, none⟩ = false := by
        rw [hb5.frozen (p := ⟨w.heap.size + 1 + 1, 0, none⟩) (by simp [World.setCell]; omega)]
        simp [frozen?_alloc_cells, hfr]
      clear hb5 hb4 hb3 hc hfr c0 c1 c2 c3 c4
      cases r
      · go_wp2_with fail
        go_ret
        exact ⟨rfl, hb6⟩
      · go_wp2_with fail
        go_roundg 0
        case measure => omega
        case rel => exact ⟨⟨hfR, .inr ⟨rfl, rfl, _, _, hcR⟩⟩, hb6⟩
    · go_wp2_with fail
      refine (empty_any (w.heap.size + 1 + 1) a 0 cap _ hc).mono ?_
      rintro e w' ⟨rfl, rfl⟩
      go_wp2_with fail
      go_ret
      exact ⟨rfl, hbr⟩
set_option maxHeartbeats 400000 in
/-- kind.Finer. -/
theorem finer_whole (x y : Tr) (w : World) (hx : x.In w) (hy : y.In w) (hh : x.hgt ≤ 1000) (hs : x.sm) :
    Calls Tryz.prog 28 #[.agg #[.int .i64 x.k, .slice x.a x.l.length x.c], .agg #[.int .i64 y.k, .slice y.a y.l.length y.c]] w fun e w' => e = .returned (.bool (relY escFiner x.ty y.ty)) ∧ Below w.heap.size w w' := by
  obtain ⟨r, hr⟩ : ∃ r, relY escFiner x.ty y.ty = r := ⟨_, rfl⟩
  have HC : Hid (∀ (rp : Option Addr) (w : World), x.In w → y.In w → Calls Tryz.prog 45 #[.agg #[.int .i64 x.k, .slice x.a x.l.length x.c], .agg #[.int .i64 y.k, .slice y.a y.l.length y.c], .int .i64 1000, .pointer rp] w fun e w' => e = .returned (.bool r) ∧ Below w.heap.size w w') := by
    intro rp w h1 h2
    have h := finer_any 1000 (Nat.le_refl _) x y rp w h1 h2 hh hs
    rw [hr] at h
    exact h
  rw [hr]
  clear hr
  have HH : Hid (∀ (w : World), x.In w → y.In w → Calls Tryz.prog 44 #[.func (.func 45) #[] #[], .agg #[.int .i64 x.k, .slice x.a x.l.length x.c], .agg #[.int .i64 y.k, .slice y.a y.l.length y.c]] w fun e w' => e = .returned (.bool r) ∧ Below w.heap.size w w') := fun w h1 h2 => holds_33 x y r w h1 h2 HC
  clear HC
  go_enter Tryz.func28, Tryz.ntmps28
  go_wp2_with fail
  have hb0 : Below w.heap.size w ((w.alloc (Obj.cells #[.int .i64 x.k, .slice x.a x.l.length x.c] 24)).alloc (Obj.cells #[.int .i64 y.k, .slice y.a y.l.length y.c] 24)) := ((Below.refl _ _).alloc (Nat.le_refl _) _).alloc (by simp) _
  refine (HH.out _ (hx.below hb0) (hy.below hb0)).mono ?_
  rintro e w1 ⟨rfl, hb1⟩
  have hb2 := hb0.trans (hb1.mono (by simp; omega))
  clear hb0 hb1
  go_wp2_with fail
  go_ret
  exact ⟨rfl, hb2⟩
end Go.Proofs.YtnddkmccagiclabGreatDoor

/-
  What the laws' own call 'site' answers at a cast's number.
-/
namespace Go.Proofs.YtnddkmccagiclabGreatDoor
open Go.RowKit
/-- As many casts as the term has places, at most. -/
theorem sites_len : ∀ y : Tm, (sitesM y).length ≤ y.sz := by
  intro y
  induction y using Tm.ind with
  | h k n t f l ih =>
    rw [sitesM_mk, Tm.sz_mk, List.length_append]
    have h1 : (if k = 10 then [(n, f, t)] else []).length ≤ 1 := by split <;> simp
    have h2 : ∀ l : List Tm, (∀ y, y ∈ l → (sitesM y).length ≤ y.sz) → (l.flatMap sitesM).length ≤ (l.map Tm.sz).sum := by
      intro l
      induction l with
      | nil => intro _; simp
      | cons a r ihr =>
        intro h
        have h3 := h a (by simp)
        have h4 := ihr fun y hy => h y (by simp [hy])
        simp only [List.flatMap_cons, List.length_append, List.map_cons, List.sum_cons]
        omega
    have := h2 l ih
    omega
theorem sites_few {x y : Tm} {i : Ty} (hg : goodM 0 x = true) (h : readS x [] 0 = some (y, i)) : y.sz ≤ 80 ∧ ∀ s, s ∈ sitesM y → goodY 44 s.2.1 = true ∧ goodY 44 s.2.2 = true := by
  obtain ⟨hok, h40⟩ := goodM_ok hg
  have S := read_sites x [] 0 y i hok (fun u h => by cases h) h
  refine ⟨?_, fun s hs => ?_⟩
  · have := (read_run x [] 0 y i hok (fun u hu => by cases hu) h h40 (by simp; omega) (by omega)).sz
    omega
  · have h4 := (S.inn s hs).2.2.more (m' := 44) (by omega)
    exact ⟨h4.1, h4.2.1⟩
set_option maxRecDepth 20000 in
set_option maxHeartbeats 8000000 in
/-- site. -/
theorem site_any (x : TT) (n : Int) (y0 : Tm) (i0 : Ty) (w : World) (hg : Gp w) (hx : x.In w) (hnb : x.nb) (hgd : goodM 0 x.tm = true) (hrd : readS x.tm [] 0 = some (y0, i0)) (hex : ∃ s, s ∈ sitesM y0 ∧ s.1 = n) :
    Calls Tryz.prog 13 #[.agg #[.int .i64 x.k, .int .i64 x.n, .int .i64 x.t.k, .slice x.t.a x.t.l.length x.t.c, .int .i64 x.f.k, .slice x.f.a x.f.l.length x.f.c, .slice x.a x.l.length x.c], .int .i64 n] w fun e w' => ∃ s : Int × Ty × Ty, (s ∈ sitesM y0 ∧ s.1 = n) ∧ e = .returned (.tuple #[.bool (relY escFiner s.2.1 s.2.2), .bool (relY escFiner s.2.2 s.2.1), .bool true]) ∧ Below w.heap.size w w' := by
  obtain ⟨W1, hW1⟩ : ∃ W1, W1 = w.alloc (.cells #[.int .i64 x.k, .int .i64 x.n, .int .i64 x.t.k, .slice x.t.a x.t.l.length x.t.c, .int .i64 x.f.k, .slice x.f.a x.f.l.length x.f.c, .slice x.a x.l.length x.c] 27) := ⟨_, rfl⟩
  have hb1 : Below w.heap.size w W1 := by rw [hW1]; exact (Below.refl _ _).alloc (Nat.le_refl _) _
  have HC : Hid (Calls Tryz.prog 25 #[.agg #[.int .i64 x.k, .int .i64 x.n, .int .i64 x.t.k, .slice x.t.a x.t.l.length x.t.c, .int .i64 x.f.k, .slice x.f.a x.f.l.length x.f.c, .slice x.a x.l.length x.c]] W1 fun e w' => ∃ (y : TT) (i : Tr), y.tm = y0 ∧ e = .returned (.tuple #[.agg #[.int .i64 y.k, .int .i64 y.n, .int .i64 y.t.k, .slice y.t.a y.t.l.length y.t.c, .int .i64 y.f.k, .slice y.f.a y.f.l.length y.f.c, .slice y.a y.l.length y.c], .agg #[.int .i64 i.k, .slice i.a i.l.length i.c], .int .i64 0]) ∧ Hid (y.In w') ∧ Hid (Below w.heap.size w w')) := by
    refine (check_any x W1 (hg.below hb1) (hx.below hb1) hnb).mono ?_
    rintro e w' ⟨hb, ⟨h1, _⟩ | ⟨_, h2, _⟩ | ⟨_, y, i, h2, he, hy, _⟩⟩
    · rw [hgd] at h1; cases h1
    · rw [hrd] at h2; cases h2
    · rw [hrd] at h2
      have : (y0, i0) = (y.tm, i.ty) := Option.some.inj h2
      exact ⟨y, i, (Prod.mk.inj this).1.symm, he, hy, hb1.trans (hb.mono hb1.size)⟩
  have hfew := sites_few hgd hrd
  have HF : Hid (y0.sz ≤ 80 ∧ (∀ s, s ∈ sitesM y0 → goodY 44 s.2.1 = true ∧ goodY 44 s.2.2 = true) ∧ ∃ s, s ∈ sitesM y0 ∧ s.1 = n) := ⟨hfew.1, hfew.2, hex⟩
  clear hb1 hg hx hnb hgd hrd hex hfew
  go_enter Tryz.func13, Tryz.ntmps13
  go_wp2_with fail
  rw [← hW1]
  clear hW1
  refine HC.out.mono ?_
  rintro e w2 ⟨y, i, rfl, rfl, HY, HB2⟩
  obtain ⟨W3, hW3⟩ : ∃ W3, W3 = (w2.alloc (.cells #[.int .i64 y.k, .int .i64 y.n, .int .i64 y.t.k, .slice y.t.a y.t.l.length y.t.c, .int .i64 y.f.k, .slice y.f.a y.f.l.length y.f.c, .slice y.a y.l.length y.c] 27)).alloc (.cells #[.int .i64 i.k, .slice i.a i.l.length i.c] 24) := ⟨_, rfl⟩
  have hA : Below w2.heap.size w2 W3 := by rw [hW3]; exact ((Below.refl _ _).alloc (Nat.le_refl _) _).alloc (by simp) _
  have hB3 : Below w.heap.size w W3 := HB2.out.trans (hA.mono HB2.out.size)
  have hy7 : At7 W3 w2.heap.size 0 y := by
    rw [hW3]
    exact (At7.new w2 y).below ((Below.refl _ _).alloc (Nat.le_refl _) _)
  obtain ⟨r0, r1, r2, r3, r4, r5, r6⟩ := hy7
  simp only [Nat.zero_add] at r0 r1 r2 r3 r4 r5 r6
  have ly : w2.heap.size < W3.heap.size := World.block_lt_of_cell? _ _ r0
  have HSI : Hid (Calls Tryz.prog 27 #[.agg #[.int .i64 y.k, .int .i64 y.n, .int .i64 y.t.k, .slice y.t.a y.t.l.length y.t.c, .int .i64 y.f.k, .slice y.f.a y.f.l.length y.f.c, .slice y.a y.l.length y.c]] W3 fun e w' => ∃ (ss : List SiteT) (a : Option Addr) (c : Nat), e = .returned (.slice a ss.length c) ∧ Hid (SL w' a ss) ∧ Hid (ss.map SiteT.m = sitesM y.tm) ∧ Hid (Below w.heap.size w w') ∧ ss.length ≤ c ∧ ss.length ≤ 1000) := by
    have hz := HF.out.1
    refine (sites_any y W3 (HY.out.below hA) (by rw [y.sz_tm]; omega) (cok_of 44 (by omega) y HF.out.2.1)).mono ?_
    rintro e w' ⟨ss, a, c, rfl, ⟨hsl, hcl⟩, hm, hb⟩
    refine ⟨ss, a, c, rfl, hsl, hm, hB3.trans (hb.mono hB3.size), hcl, ?_⟩
    have h1 : ss.length = (sitesM y.tm).length := by rw [← hm, List.length_map]
    have := sites_len y.tm
    omega
  clear hA hB3 HY HB2 HC
  go_upto_region 2 with fail
  rw [← hW3]
  clear hW3
  go_wp2_with fail
  refine HSI.out.mono ?_
  rintro e w5 ⟨ss, a, c, rfl, HS5, HM, HB5, hcl, hl80⟩
  clear HSI r0 r1 r2 r3 r4 r5 r6 ly
  go_wp2_with fail
  go_loopg [21] ss.length (fun g i wr => ∃ (j : Nat), g + j = ss.length ∧ i = .int .i64 (j : Int) ∧ Hid (Below w5.heap.size w5 wr) ∧ Hid (∀ r (hr : r < ss.length), r < j → ss[r].n ≠ n))
  case atStart => exact ⟨0, by omega, rfl, Below.refl _ _, fun r hr h => by omega⟩
  case round =>
    obtain ⟨j, hj, rfl, HW, HNE⟩ := hrel
    by_cases hlt : j < ss.length
    · obtain ⟨W0, hW0⟩ : ∃ W, W = wr := ⟨_, rfl⟩
      subst hW0
      obtain ⟨b, o, ea, h0, h1, h2, h3, h4, hfi, hti⟩ := HS5.out j hlt
      have hsm : ss[j] ∈ ss := List.getElem_mem hlt
      obtain ⟨s, hse⟩ : ∃ s, ss[j] = s := ⟨_, rfl⟩
      rw [hse] at h0 h1 h2 h3 h4 hfi hti hsm
      replace h0 := cell_later HW.out h0
      replace h1 := cell_later HW.out h1
      replace h2 := cell_later HW.out h2
      replace h3 := cell_later HW.out h3
      replace h4 := cell_later HW.out h4
      have i1 : (j : Int) < (ss.length : Int) := by omega
      have i0 : (0 : Int) ≤ (j : Int) := by omega
      have n2 : (j : Int) ≤ (c : Int) := by omega
      have HEA : Hid (a = some ⟨b, o, none⟩) := ea
      rw [ea]
      obtain ⟨WX, hWX⟩ : ∃ W, W = W0.alloc (.cells #[.int .i64 s.n, .int .i64 s.f.k, .slice s.f.a s.f.l.length s.f.c, .int .i64 s.t.k, .slice s.t.a s.t.l.length s.t.c] 52) := ⟨_, rfl⟩
      have hAX : Below W0.heap.size W0 WX := by rw [hWX]; exact (Below.refl _ _).alloc (Nat.le_refl _) _
      have h5X : Below w5.heap.size w5 WX := HW.out.trans (hAX.mono HW.out.size)
      have hcs : WX.cell? ⟨W0.heap.size, 0, none⟩ = some (.int .i64 s.n) ∧ WX.cell? ⟨W0.heap.size, 1, none⟩ = some (.int .i64 s.f.k) ∧ WX.cell? ⟨W0.heap.size, 2, none⟩ = some (.slice s.f.a s.f.l.length s.f.c) ∧ WX.cell? ⟨W0.heap.size, 3, none⟩ = some (.int .i64 s.t.k) ∧ WX.cell? ⟨W0.heap.size, 4, none⟩ = some (.slice s.t.a s.t.l.length s.t.c) := by
        rw [hWX]
        refine ⟨?_, ?_, ?_, ?_, ?_⟩ <;> simp [go_sem]
      have HK' : Hid (∀ W', Below WX.heap.size WX W' → W'.cell? ⟨W0.heap.size, 0, none⟩ = some (.int .i64 s.n) ∧ W'.cell? ⟨W0.heap.size, 1, none⟩ = some (.int .i64 s.f.k) ∧ W'.cell? ⟨W0.heap.size, 2, none⟩ = some (.slice s.f.a s.f.l.length s.f.c) ∧ W'.cell? ⟨W0.heap.size, 3, none⟩ = some (.int .i64 s.t.k) ∧ W'.cell? ⟨W0.heap.size, 4, none⟩ = some (.slice s.t.a s.t.l.length s.t.c)) := by
        intro W' hb
        obtain ⟨q0, q1, q2, q3, q4⟩ := hcs
        exact ⟨cell_later hb q0, cell_later hb q1, cell_later hb q2, cell_later hb q3, cell_later hb q4⟩
      have HXB : Hid (Below w5.heap.size w5 WX) := h5X
      have HJ : Hid (gk + j = ss.length) := hj
      have HWB : Hid (Below w.heap.size w WX) := HB5.out.trans (h5X.mono HB5.out.size)
      by_cases hn : s.n = n
      · have e1 : (s.n == n) = true := by simpa using hn
        have hms : s.m ∈ sitesM y.tm := by rw [← HM.out]; exact List.mem_map.2 ⟨s, hsm, rfl⟩
        have hgo := HF.out.2.1 _ hms
        have gff := good_facts (n := 44) (t := s.f) (by omega) (by rw [goodT_eq]; exact hgo.1)
        have gft := good_facts (n := 44) (t := s.t) (by omega) (by rw [goodT_eq]; exact hgo.2)
        have HF1 : Hid (∀ W', Below WX.heap.size WX W' → Calls Tryz.prog 28 #[.agg #[.int .i64 s.f.k, .slice s.f.a s.f.l.length s.f.c], .agg #[.int .i64 s.t.k, .slice s.t.a s.t.l.length s.t.c]] W' fun e w' => e = .returned (.bool (relY escFiner s.f.ty s.t.ty)) ∧ Below WX.heap.size WX w') := by
          intro W' hb
          refine (finer_whole s.f s.t W' ((hfi.below h5X).below hb) ((hti.below h5X).below hb) gff.2.1 gff.2.2).mono ?_
          rintro e w' ⟨rfl, h⟩
          exact ⟨rfl, hb.trans (h.mono hb.size)⟩
        have HF2 : Hid (∀ W', Below WX.heap.size WX W' → Calls Tryz.prog 28 #[.agg #[.int .i64 s.t.k, .slice s.t.a s.t.l.length s.t.c], .agg #[.int .i64 s.f.k, .slice s.f.a s.f.l.length s.f.c]] W' fun e w' => e = .returned (.bool (relY escFiner s.t.ty s.f.ty)) ∧ Below WX.heap.size WX w') := by
          intro W' hb
          refine (finer_whole s.t s.f W' ((hti.below h5X).below hb) ((hfi.below h5X).below hb) gft.2.1 gft.2.2).mono ?_
          rintro e w' ⟨rfl, h⟩
          exact ⟨rfl, hb.trans (h.mono hb.size)⟩
        have HE : Hid (s.m ∈ sitesM y.tm ∧ s.m.1 = n) := ⟨hms, hn⟩
        have HK0 : Hid (WX.cell? ⟨W0.heap.size, 0, none⟩ = some (.int .i64 s.n) ∧ WX.cell? ⟨W0.heap.size, 1, none⟩ = some (.int .i64 s.f.k) ∧ WX.cell? ⟨W0.heap.size, 2, none⟩ = some (.slice s.f.a s.f.l.length s.f.c) ∧ WX.cell? ⟨W0.heap.size, 3, none⟩ = some (.int .i64 s.t.k) ∧ WX.cell? ⟨W0.heap.size, 4, none⟩ = some (.slice s.t.a s.t.l.length s.t.c)) := HK'.out _ (Below.refl _ _)
        have HK1 : Hid (WX.drew.cell? ⟨W0.heap.size, 0, none⟩ = some (.int .i64 s.n) ∧ WX.drew.cell? ⟨W0.heap.size, 1, none⟩ = some (.int .i64 s.f.k) ∧ WX.drew.cell? ⟨W0.heap.size, 2, none⟩ = some (.slice s.f.a s.f.l.length s.f.c) ∧ WX.drew.cell? ⟨W0.heap.size, 3, none⟩ = some (.int .i64 s.t.k) ∧ WX.drew.cell? ⟨W0.heap.size, 4, none⟩ = some (.slice s.t.a s.t.l.length s.t.c)) := HK'.out _ ((Below.refl _ _).drew)
        obtain ⟨k0, k1, k2, k3, k4⟩ := hcs
        obtain ⟨A, hA⟩ : ∃ A, A = relY escFiner s.f.ty s.t.ty := ⟨_, rfl⟩
        obtain ⟨B, hB⟩ : ∃ B, B = relY escFiner s.t.ty s.f.ty := ⟨_, rfl⟩
        have HAB : Hid (A = relY escFiner s.f.ty s.t.ty ∧ B = relY escFiner s.t.ty s.f.ty) := ⟨hA, hB⟩
        rw [← hA] at HF1
        rw [← hB] at HF2
        clear hms hgo gff gft hfi hti hsm hse hAX h5X ea HW hj hn HNE hA hB HM HXB HJ HF HEA HS5
        go_upto_region 5 with fail
        rw [← hWX]
        clear hWX h0 h1 h2 h3 h4
        go_upto_region 6 with fail
        clear k0 k1 k2 k3 k4
        have hb : Below WX.heap.size WX WX.drew := (Below.refl _ _).drew
        go_region_held3 (fun W' => W'.cell? ⟨W0.heap.size, 0, none⟩ = some (.int .i64 s.n) ∧ W'.cell? ⟨W0.heap.size, 1, none⟩ = some (.int .i64 s.f.k) ∧ W'.cell? ⟨W0.heap.size, 2, none⟩ = some (.slice s.f.a s.f.l.length s.f.c) ∧ W'.cell? ⟨W0.heap.size, 3, none⟩ = some (.int .i64 s.t.k) ∧ W'.cell? ⟨W0.heap.size, 4, none⟩ = some (.slice s.t.a s.t.l.length s.t.c))
          (first
            | (with_reducible exact HK0.out)
            | (with_reducible exact HK1.out)
            | (with_reducible exact HK'.out _ hb)
            | fail)
          (first
            | (go_at_call 28; (with_reducible refine (HF1.out _ hb).mono ?_); rintro e wN ⟨rfl, hb⟩)
            | (go_at_call 28; (with_reducible refine (HF2.out _ hb).mono ?_); rintro e wM ⟨rfl, hb⟩)
            | fail)
        have HN : Hid (Below w.heap.size w wM) := HWB.out.trans (hb.mono HWB.out.size)
        clear hb HK0 HK1 HK' HF1 HF2
        go_wp2_with fail
        refine bodyPost_ret (v := .tuple #[.bool A, .bool B, .bool true]) (by simp [results, Tryz.results13, go_sem]) rfl ?_
        exact ⟨s.m, HE.out, by rw [HAB.out.1, HAB.out.2]; rfl, HN.out⟩
      · have e1 : (s.n == n) = false := by simpa using hn
        have HNE' : Hid (∀ r (hr : r < ss.length), r < j + 1 → ss[r].n ≠ n) := fun r hr hrj => by
          by_cases e : r = j
          · subst e; rw [hse]; exact hn
          · exact HNE.out r hr (by omega)
        obtain ⟨k0, k1, k2, k3, k4⟩ := hcs
        clear hfi hti hsm hse hAX h5X ea HW hj hn HNE HK'
        go_upto_region 5 with fail
        rw [← hWX]
        clear hWX h0 h1 h2 h3 h4
        go_wp2_with fail
        rw [← HEA.out]
        go_roundg (ss.length - (j + 1))
        case measure => have := HJ.out; omega
        case rel => exact ⟨j + 1, by have := HJ.out; omega, by go_num, HXB, HNE'⟩
    · exfalso
      obtain ⟨t, ht, htn⟩ := HF.out.2.2
      rw [← HM.out] at ht
      obtain ⟨s, hs, rfl⟩ := List.mem_map.1 ht
      obtain ⟨r, hr, rfl⟩ := List.getElem_of_mem hs
      exact HNE.out r hr (by omega) htn
end Go.Proofs.YtnddkmccagiclabGreatDoor
