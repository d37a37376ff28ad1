/-
  What the call of check's Sites answers: the casts of a term, as one reads it.
-/
import Derived.Test.YtnddkmccagiclaaDoorLot332df9f803
import Derived.Deep.DeepCutAuto
import Derived.Deep.RegionHeld3
import Derived.Deep.RegionLaw
import Derived.Test.YtnddkmccagiclaaDoorLot03e384e275
import Derived.Deep.LoopGhost
import Derived.Deep.Slices
namespace Go.Proofs.YtnddkmccagiclaaDoor
open Go.RowKit
theorem Tryd.info46 : (Tryd.prog.info? 46).map (fun i => (i.zero, i.size, i.bytes)) = some (some (.agg #[.int .i64 0, .int .i64 0, .slice none 0 0, .int .i64 0, .slice none 0 0]), 5, 72) := by kernel_rfl
set_option maxRecDepth 20000 in
set_option maxHeartbeats 8000000 in
/-- Sites. -/
theorem sites_any (x : TT) (w : World) (hx : x.In w) (hsz : x.sz ≤ 1000) (hok : x.cok) :
    Calls Tryd.prog 19 #[.agg #[.int .i64 x.k, .int .i64 x.n, .int .i64 x.t.k, .slice x.t.a x.t.l.length x.t.c, .int .i64 x.f.k, .slice x.f.a x.f.l.length x.f.c, .slice x.a x.l.length x.c]] w fun e w' => ∃ (ss : List St) (a : Option Addr) (c : Nat), e = .returned (.slice a ss.length c) ∧ (SL w' a ss ∧ ss.length ≤ c) ∧ ss.map St.m = sitesM x.tm ∧ Below w.heap.size w w' := by
  obtain ⟨i0, hi0, hz0, hz1, hz2⟩ := info_parts Tryd.info27c
  obtain ⟨j0, hj0, hy0, hy1, hy2⟩ := info_parts Tryd.info46
  have HL : Hid (SI (w.heap.size + 1) (.slice (some ⟨w.heap.size + 1, 0, none⟩) 1 1) (.slice none 0 0) [x] [] ((w.alloc (.cells #[.int .i64 x.k, .int .i64 x.n, .int .i64 x.t.k, .slice x.t.a x.t.l.length x.t.c, .int .i64 x.f.k, .slice x.f.a x.f.l.length x.f.c, .slice x.a x.l.length x.c] 27)).alloc (.cells #[.int .i64 x.k, .int .i64 x.n, .int .i64 x.t.k, .slice x.t.a x.t.l.length x.t.c, .int .i64 x.f.k, .slice x.f.a x.f.l.length x.f.c, .slice x.a x.l.length x.c] 27)) ∧ Below w.heap.size w ((w.alloc (.cells #[.int .i64 x.k, .int .i64 x.n, .int .i64 x.t.k, .slice x.t.a x.t.l.length x.t.c, .int .i64 x.f.k, .slice x.f.a x.f.l.length x.f.c, .slice x.a x.l.length x.c] 27)).alloc (.cells #[.int .i64 x.k, .int .i64 x.n, .int .i64 x.t.k, .slice x.t.a x.t.l.length x.t.c, .int .i64 x.f.k, .slice x.f.a x.f.l.length x.f.c, .slice x.a x.l.length x.c] 27)) ∧ mass1 [x] ≤ 1000 ∧ w.heap.size + 1 ≤ ((w.alloc (.cells #[.int .i64 x.k, .int .i64 x.n, .int .i64 x.t.k, .slice x.t.a x.t.l.length x.t.c, .int .i64 x.f.k, .slice x.f.a x.f.l.length x.f.c, .slice x.a x.l.length x.c] 27)).alloc (.cells #[.int .i64 x.k, .int .i64 x.n, .int .i64 x.t.k, .slice x.t.a x.t.l.length x.t.c, .int .i64 x.f.k, .slice x.f.a x.f.l.length x.f.c, .slice x.a x.l.length x.c] 27)).heap.size ∧ ([] : List St).map St.m ++ todo [x] = sitesM x.tm) := by
    have hb : Below w.heap.size w ((w.alloc (.cells #[.int .i64 x.k, .int .i64 x.n, .int .i64 x.t.k, .slice x.t.a x.t.l.length x.t.c, .int .i64 x.f.k, .slice x.f.a x.f.l.length x.f.c, .slice x.a x.l.length x.c] 27)).alloc (.cells #[.int .i64 x.k, .int .i64 x.n, .int .i64 x.t.k, .slice x.t.a x.t.l.length x.t.c, .int .i64 x.f.k, .slice x.f.a x.f.l.length x.f.c, .slice x.a x.l.length x.c] 27)) := ((Below.refl _ _).alloc (Nat.le_refl _) _).alloc (by simp) _
    have hh := heap_alloc_new (w.alloc (.cells #[.int .i64 x.k, .int .i64 x.n, .int .i64 x.t.k, .slice x.t.a x.t.l.length x.t.c, .int .i64 x.f.k, .slice x.f.a x.f.l.length x.f.c, .slice x.a x.l.length x.c] 27)) (.cells #[.int .i64 x.k, .int .i64 x.n, .int .i64 x.t.k, .slice x.t.a x.t.l.length x.t.c, .int .i64 x.f.k, .slice x.f.a x.f.l.length x.f.c, .slice x.a x.l.length x.c] 27)
    simp only [World.size_alloc] at hh
    refine ⟨⟨⟨rfl, .inr ⟨_, 1, _, rfl, Nat.le_refl _, hh, Nat.le_refl _, by unfold maxLen; omega, rfl, rfl⟩⟩, World.ownsRow_nil _ _ _ _, fun g _ => by simp [Value.ownBlock], fun p hp => ?_, fun s hs => by cases hs⟩, hb, by simpa [mass1] using hsz, by simp, by simp [todo]⟩
    rcases List.mem_singleton.1 hp with rfl
    exact ⟨⟨hx.below hb, hx.bl.mono fun b h => by omega⟩, hok⟩
  obtain ⟨B, hB⟩ : ∃ B, w.heap.size + 1 = B := ⟨_, rfl⟩
  have hBw : w.heap.size < B := by omega
  have HX1 : Hid (x.sz ≤ 1000) := hsz
  clear hx hsz hok
  go_enter Tryd.func19, Tryd.ntmps19
  go_wp2_with fail
  go_loopg [3, 4] (mass1 [x]) (fun k s3 s4 wr => ∃ (u v : Value) (ps : List TT) (ss : List St), u = s3 ∧ v = s4 ∧ k = mass1 ps ∧ Hid (SI B v u ps ss wr ∧ Below w.heap.size w wr ∧ mass1 ps ≤ 1000 ∧ B ≤ wr.heap.size ∧ ss.map St.m ++ todo ps = sitesM x.tm))
  case atStart => exact ⟨_, _, [x], [], rfl, rfl, rfl, by rw [← hB]; exact HL⟩
  case round =>
    obtain ⟨u, v, ps, ss, hu, hv, hk, HR⟩ := hrel
    subst hu hv
    have HK : Hid (gk = mass1 ps) := hk
    clear hk HL hB
    by_cases hne : ps = []
    · subst hne
      obtain ⟨a, c', rfl⟩ : ∃ a c, v = .slice a 0 c := by
        rcases HR.out.1.ov.2 with ⟨rfl, _⟩ | ⟨g, cap, cur, rfl, _⟩
        · exact ⟨_, _, rfl⟩
        · exact ⟨_, _, rfl⟩
      obtain ⟨ua, uc, rfl, hsl⟩ := HR.out.1.list
      have HF : Hid (∃ (ss' : List St) (a : Option Addr) (c : Nat), Ending.returned (.slice ua ss.length uc) = .returned (.slice a ss'.length c) ∧ (SL wr a ss' ∧ ss'.length ≤ c) ∧ ss'.map St.m = sitesM x.tm ∧ Below w.heap.size w wr) := ⟨ss, ua, uc, rfl, hsl, by have := HR.out.2.2.2.2; simpa [todo] using this, HR.out.2.1⟩
      clear HR HK hsl
      go_wp2_with fail
      go_ret
      exact HF.out
    · obtain ⟨us, p, rfl⟩ : ∃ us p, ps = us ++ [p] := ⟨ps.dropLast, ps.getLast hne, (List.dropLast_concat_getLast hne).symm⟩
      have ho := HR.out.1.ov
      have hlen : (us ++ [p]).length = us.length + 1 := by simp
      have h7l : (cells7 us).length = us.length * 7 := by
        have : ∀ l : List TT, (cells7 l).length = l.length * 7 := fun l => by
          induction l with
          | nil => rfl
          | cons a r ih => simp [cells7] at ih ⊢; omega
        exact this us
      rw [hlen] at ho
      obtain ⟨g, cap, rfl, hg, hgl⟩ := ho.form (by omega)
      have hc : ∀ i, i < 7 → wr.cell? ⟨g, us.length * 7 + i, none⟩ = (#[.int .i64 p.k, .int .i64 p.n, .int .i64 p.t.k, .slice p.t.a p.t.l.length p.t.c, .int .i64 p.f.k, .slice p.f.a p.f.l.length p.f.c, .slice p.a p.l.length p.c] : Array Value)[i]? := by
        intro i hi
        rw [ho.cellAt (us.length * 7 + i) (by omega)]
        have := cells7_at (us ++ [p]) us.length (by simp) i hi
        rw [this]
        simp
      have c0 : wr.cell? ⟨g, us.length * 7, none⟩ = some (.int .i64 p.k) := (hc 0 (by omega)).trans rfl
      have c1 : wr.cell? ⟨g, us.length * 7 + 1, none⟩ = some (.int .i64 p.n) := (hc 1 (by omega)).trans rfl
      have c2 : wr.cell? ⟨g, us.length * 7 + 2, none⟩ = some (.int .i64 p.t.k) := (hc 2 (by omega)).trans rfl
      have c3 : wr.cell? ⟨g, us.length * 7 + 3, none⟩ = some (.slice p.t.a p.t.l.length p.t.c) := (hc 3 (by omega)).trans rfl
      have c4 : wr.cell? ⟨g, us.length * 7 + 4, none⟩ = some (.int .i64 p.f.k) := (hc 4 (by omega)).trans rfl
      have c5 : wr.cell? ⟨g, us.length * 7 + 5, none⟩ = some (.slice p.f.a p.f.l.length p.f.c) := (hc 5 (by omega)).trans rfl
      have c6 : wr.cell? ⟨g, us.length * 7 + 6, none⟩ = some (.slice p.a p.l.length p.c) := (hc 6 (by omega)).trans rfl
      have hcap : us.length + 1 ≤ cap := by
        rcases ho.2 with ⟨h, _⟩ | ⟨g', cap', cur, h, _, _, h1, _⟩
        · cases h
        · cases h; exact h1
      have hop : wr.ownsRow B 27 7 (.slice (some ⟨g, 0, none⟩) us.length cap) us.length (cells7 us) := by
        rw [cells7_append] at ho
        exact ownsRow_pop h7l ho
      have hms : mass1 (us ++ [p]) = mass1 us + p.sz := by simp [mass1]
      have hml := HR.out.2.2.1
      have hus := Stk1.len (ps := us)
      have i1 : (us.length : Int) < ((us.length : Int) + 1) := by omega
      have n1 : (us.length : Int) ≤ 1001 := by omega
      have n2 : (us.length : Int) ≤ (cap : Int) := by omega
      have n3 : (0 : Int) ≤ (us.length : Int) := by omega
      have hpl : p.l.length ≤ 1001 := by have h1 := p.sz_eq; have h2 := len_sum p.l; omega
      have hpp := HR.out.1.pi p (by simp)
      obtain ⟨OP, hOP⟩ : ∃ O, O = Obj.cells #[.int .i64 p.k, .int .i64 p.n, .int .i64 p.t.k, .slice p.t.a p.t.l.length p.t.c, .int .i64 p.f.k, .slice p.f.a p.f.l.length p.f.c, .slice p.a p.l.length p.c] 27 := ⟨_, rfl⟩
      have hA : Below wr.heap.size wr (wr.alloc OP) := (Below.refl _ _).alloc (Nat.le_refl _) _
      have hBr := HR.out.2.2.2.1
      have HI : Hid (SI B (.slice (some ⟨g, 0, none⟩) us.length cap) u us ss (wr.alloc OP) ∧ Below w.heap.size w (wr.alloc OP) ∧ (Pr1 B (wr.alloc OP) p ∧ p.cok) ∧ At7 (wr.alloc OP) wr.heap.size 0 p ∧ wr.heap.size < (wr.alloc OP).heap.size ∧ B ≤ (wr.alloc OP).heap.size ∧ u.ownBlock ≠ some wr.heap.size) := by
        refine ⟨(SI.below ⟨hop, HR.out.1.ou, fun q hq => HR.out.1.ne q hq, fun q hq => HR.out.1.pi q (by simp [hq]), HR.out.1.si⟩ hA hBr), HR.out.2.1.trans (hA.mono HR.out.2.1.size), ⟨hpp.1.low (hA.mono hBr), hpp.2⟩, by rw [hOP]; exact At7.new wr p, by simp, by simp; omega, fun e => by have := (HR.out.1.ou.lt _ e).2; omega⟩
      have HM : Hid (gk = mass1 us + p.sz ∧ mass1 us + p.sz ≤ 1000 ∧ ss.map St.m ++ (sitesM p.tm ++ todo us) = sitesM x.tm) := ⟨HK.out.trans hms, by rw [← hms]; exact hml, by rw [← todo_snoc]; exact HR.out.2.2.2.2⟩
      obtain ⟨NB, hNB⟩ : ∃ NB, NB = wr.heap.size := ⟨_, rfl⟩
      have hgn : g ≠ NB := by omega
      clear ho hop HR HK hms hml hne hlen hus hc hA hpp h7l
      subst hOP
      go_upto_if 25 with fail
      go_cut [3] (fun s3 wx => ∃ (u' : Value) (ss' : List St), u' = s3 ∧ Hid (SI B (.slice (some ⟨g, 0, none⟩) us.length cap) u' us ss' wx ∧ Below w.heap.size w wx ∧ (Pr1 B wx p ∧ p.cok) ∧ At7 wx NB 0 p ∧ NB < wx.heap.size ∧ B ≤ wx.heap.size ∧ u'.ownBlock ≠ some NB ∧ ss'.map St.m ++ (todo p.l.reverse ++ todo us) = sitesM x.tm))
      case first =>
        subst hNB
        obtain ⟨WP, hWP⟩ : ∃ WP, WP = wr.alloc (.cells #[.int .i64 p.k, .int .i64 p.n, .int .i64 p.t.k, .slice p.t.a p.t.l.length p.t.c, .int .i64 p.f.k, .slice p.f.a p.f.l.length p.f.c, .slice p.a p.l.length p.c] 27) := ⟨_, rfl⟩
        rw [← hWP] at HI
        by_cases hk0 : p.k = 10
        · have hk : Hid (p.k = 10) := hk0
          have hk' : (p.k == 10) = true := by simpa using hk0
          clear hk0
          rw [hk']
          clear hk'
          rw [← hWP]
          clear hWP
          have hcok := HI.out.2.2.1.2.top hk.out
          have hp7 := HI.out.2.2.2.1
          have HS : Hid (∀ W', Below WP.heap.size WP W' → W'.cell? ⟨wr.heap.size, 1, none⟩ = some (.int .i64 p.n) ∧ W'.cell? ⟨wr.heap.size, 2, none⟩ = some (.int .i64 p.t.k) ∧ W'.cell? ⟨wr.heap.size, 3, none⟩ = some (.slice p.t.a p.t.l.length p.t.c) ∧ W'.cell? ⟨wr.heap.size, 4, none⟩ = some (.int .i64 p.f.k) ∧ W'.cell? ⟨wr.heap.size, 5, none⟩ = some (.slice p.f.a p.f.l.length p.f.c)) := by
            intro W' hb
            obtain ⟨_, h1, h2, h3, h4, h5, _⟩ := hp7.below hb
            simp only [Nat.zero_add] at h1 h2 h3 h4 h5
            exact ⟨h1, h2, h3, h4, h5⟩
          have HS1 : Hid (WP.drew.cell? ⟨wr.heap.size, 1, none⟩ = some (.int .i64 p.n) ∧ WP.drew.cell? ⟨wr.heap.size, 2, none⟩ = some (.int .i64 p.t.k) ∧ WP.drew.cell? ⟨wr.heap.size, 3, none⟩ = some (.slice p.t.a p.t.l.length p.t.c) ∧ WP.drew.cell? ⟨wr.heap.size, 4, none⟩ = some (.int .i64 p.f.k) ∧ WP.drew.cell? ⟨wr.heap.size, 5, none⟩ = some (.slice p.f.a p.f.l.length p.f.c)) := HS.out _ ((Below.refl _ _).drew)
          have HS0 : Hid (WP.cell? ⟨wr.heap.size, 1, none⟩ = some (.int .i64 p.n) ∧ WP.cell? ⟨wr.heap.size, 2, none⟩ = some (.int .i64 p.t.k) ∧ WP.cell? ⟨wr.heap.size, 3, none⟩ = some (.slice p.t.a p.t.l.length p.t.c) ∧ WP.cell? ⟨wr.heap.size, 4, none⟩ = some (.int .i64 p.f.k) ∧ WP.cell? ⟨wr.heap.size, 5, none⟩ = some (.slice p.f.a p.f.l.length p.f.c)) := HS.out _ (Below.refl _ _)
          have hpin := HI.out.2.2.1.1.1
          have H39f : Hid (Calls Tryd.prog 39 #[.agg #[.int .i64 p.f.k, .slice p.f.a p.f.l.length p.f.c]] WP.drew fun e wE => ∃ f : Tr, e = .returned (.agg #[.int .i64 f.k, .slice f.a f.l.length f.c]) ∧ Hid (f.ty = p.f.ty ∧ f.In wE ∧ f.Bl (WP.heap.size ≤ ·)) ∧ Below WP.heap.size WP wE) := by
            refine (fresh_any p.f WP.drew (hpin.f.below ((Below.refl _ _).drew)) hcok.2.1 hcok.2.2).mono ?_
            rintro e wE ⟨f, rfl, h1, h2, h3, h4⟩
            exact ⟨f, rfl, ⟨h1, h2, h3⟩, ((Below.refl _ _).drew).trans (h4.mono (Nat.le_refl _))⟩
          have H39t : Hid (∀ wE, Below WP.heap.size WP wE → Calls Tryd.prog 39 #[.agg #[.int .i64 p.t.k, .slice p.t.a p.t.l.length p.t.c]] wE fun e wK => ∃ t : Tr, e = .returned (.agg #[.int .i64 t.k, .slice t.a t.l.length t.c]) ∧ Hid (t.ty = p.t.ty ∧ t.In wK ∧ t.Bl (wE.heap.size ≤ ·) ∧ Below wE.heap.size wE wK) ∧ Below WP.heap.size WP wK ∧ wK.ownsRow B 46 5 u ss.length (cells5 ss)) := by
            intro wE hb
            refine (fresh_any p.t wE (hpin.t.below hb) hcok.1.1 hcok.1.2).mono ?_
            rintro e wK ⟨t, rfl, h1, h2, h3, h4⟩
            have h5 := hb.trans (h4.mono hb.size)
            exact ⟨t, rfl, ⟨h1, h2, h3, h4⟩, h5, ownsRow_low HI.out.1.ou h5⟩
          have hss : ss.length ≤ 1001 := by
            have h1 := HM.out.2.2
            have h2 : ∀ y : TT, (sitesM y.tm).length ≤ y.sz := by
              intro y
              induction y using TT.ind with
              | h k n t f a c l ih =>
                rw [TT.tm_mk, sitesM_mk, TT.sz_mk]
                have h3 : ∀ l : List TT, (∀ z, z ∈ l → (sitesM z.tm).length ≤ z.sz) → ((l.map TT.tm).flatMap sitesM).length ≤ (l.map TT.sz).sum := by
                  intro l
                  induction l with
                  | nil => intro _; simp
                  | cons z r ihr => intro h; have := h z (by simp); have := ihr fun q hq => h q (by simp [hq]); simp only [List.map_cons, List.flatMap_cons, List.length_append, List.sum_cons]; omega
                have := h3 l ih
                have h1 : (if k = 10 then [(n, f.ty, t.ty)] else []).length ≤ 1 := by split <;> simp
                rw [List.length_append]
                omega
            have h4 := h2 x
            have h5 := congrArg List.length h1
            have h6 := HX1.out
            simp only [List.length_append, List.length_map] at h5
            omega
          have hBP : B ≤ WP.heap.size := HI.out.2.2.2.2.2.1
          have HSG : Hid (∀ (wK w7 : World) (X : Obj), Below WP.heap.size WP wK → (wK.alloc X).grownBy w7 u.ownBlock → w7.cell? ⟨wr.heap.size, 1, none⟩ = some (.int .i64 p.n) ∧ w7.cell? ⟨wr.heap.size, 2, none⟩ = some (.int .i64 p.t.k) ∧ w7.cell? ⟨wr.heap.size, 3, none⟩ = some (.slice p.t.a p.t.l.length p.t.c) ∧ w7.cell? ⟨wr.heap.size, 4, none⟩ = some (.int .i64 p.f.k) ∧ w7.cell? ⟨wr.heap.size, 5, none⟩ = some (.slice p.f.a p.f.l.length p.f.c)) := by
            intro wK w7 X hb hgr
            have hl : wr.heap.size < wK.heap.size := Nat.lt_of_lt_of_le HI.out.2.2.2.2.1 hb.size
            have hc7 : ∀ i, w7.cell? ⟨wr.heap.size, i, none⟩ = wK.cell? ⟨wr.heap.size, i, none⟩ := fun i => by
              rw [World.cell?_of_block (a := ⟨wr.heap.size, i, none⟩) (hgr.block wr.heap.size (by simp; omega) (fun e => HI.out.2.2.2.2.2.2 e.symm))]
              exact ((Below.refl _ wK).alloc (Nat.le_refl _) X).cell (p := ⟨wr.heap.size, i, none⟩) hl
            obtain ⟨h1, h2, h3, h4, h5⟩ := HS.out wK hb
            exact ⟨(hc7 _).trans h1, (hc7 _).trans h2, (hc7 _).trans h3, (hc7 _).trans h4, (hc7 _).trans h5⟩
          have HSA : Hid (∀ (wK : World) (X : Obj), Below WP.heap.size WP wK → (fun W' : World => W'.cell? ⟨wr.heap.size, 1, none⟩ = some (.int .i64 p.n) ∧ W'.cell? ⟨wr.heap.size, 2, none⟩ = some (.int .i64 p.t.k) ∧ W'.cell? ⟨wr.heap.size, 3, none⟩ = some (.slice p.t.a p.t.l.length p.t.c) ∧ W'.cell? ⟨wr.heap.size, 4, none⟩ = some (.int .i64 p.f.k) ∧ W'.cell? ⟨wr.heap.size, 5, none⟩ = some (.slice p.f.a p.f.l.length p.f.c)) (wK.alloc X)) := fun wK X hb => HS.out _ (hb.alloc hb.size _)
          clear hcok hp7 hpin c0 c1 c2 c3 c4 c5 c6
          go_upto_region 8 with fail
          go_region_held3 (fun W' => W'.cell? ⟨wr.heap.size, 1, none⟩ = some (.int .i64 p.n) ∧ W'.cell? ⟨wr.heap.size, 2, none⟩ = some (.int .i64 p.t.k) ∧ W'.cell? ⟨wr.heap.size, 3, none⟩ = some (.slice p.t.a p.t.l.length p.t.c) ∧ W'.cell? ⟨wr.heap.size, 4, none⟩ = some (.int .i64 p.f.k) ∧ W'.cell? ⟨wr.heap.size, 5, none⟩ = some (.slice p.f.a p.f.l.length p.f.c))
            (first
              | (with_reducible exact HS0.out)
              | (with_reducible exact HS1.out)
              | (with_reducible exact HS.out _ hb)
              | (with_reducible exact HSA.out _ _ hb)
              | (with_reducible exact HSG.out _ _ _ hb hgrow)
              | fail)
            (first
              | (go_at_call 39; (with_reducible refine H39f.out.mono ?_); rintro e wE ⟨f, rfl, HFF, hb⟩; have hbE := hb)
              | (go_at_call 39; (with_reducible refine (H39t.out _ hb).mono ?_); rintro e wK ⟨t, rfl, HTT, hb, uo⟩; have hnew := heap_alloc_new wK (.cells #[.int .i64 p.n, .int .i64 f.k, .slice f.a f.l.length f.c, .int .i64 t.k, .slice t.a t.l.length t.c] 46); have hKs : B ≤ wK.heap.size := Nat.le_trans hBP hb.size)
              | (refine step_append_lies _ (by rfl) _ _ _ (by rfl) B 46 j0 _ 5 72 Tryd.underlying41 hj0 hy0 hy1 hy2 rfl (by omega) u ss.length (cells5 ss) (by rfl) (uo.alloc _) ⟨wK.heap.size, 0, none⟩ 1 1 [.int .i64 p.n, .int .i64 f.k, .slice f.a f.l.length f.c, .int .i64 t.k, .slice t.a t.l.length t.c] (by rfl) (by rfl) (World.news_of_block (cs := #[.int .i64 p.n, .int .i64 f.k, .slice f.a f.l.length f.c, .int .i64 t.k, .slice t.a t.l.length t.c]) (t := 46) (fr := (0, 0)) hnew) (by simp [Value.oneCell']) (by omega) (by unfold maxLen; omega) (by omega) (by simp; omega) (wK.heap.size + 1) (by simp) ?_; intro gg cap1 w7 hown1 hgrow hat hlt3)
              | fail)
          have HN : Hid (SI B (.slice (some ⟨g, 0, none⟩) us.length cap) (.slice (some ⟨gg, 0, none⟩) (ss.length + 1) cap1) us (ss ++ [⟨p.n, f, t⟩]) w7 ∧ Below w.heap.size w w7 ∧ (Pr1 B w7 p ∧ p.cok) ∧ At7 w7 wr.heap.size 0 p ∧ wr.heap.size < w7.heap.size ∧ B ≤ w7.heap.size ∧ (Value.slice (some ⟨gg, 0, none⟩) (ss.length + 1) cap1).ownBlock ≠ some wr.heap.size ∧ (ss ++ [St.mk p.n f t]).map St.m ++ (todo p.l.reverse ++ todo us) = sitesM x.tm) := by
            obtain ⟨hsi, hbw, hpc, hp7, hnb, hBl, hne⟩ := HI.out
            obtain ⟨f1, f2, f3⟩ := HFF.out
            obtain ⟨t1, t2, t3, hEK⟩ := HTT.out
            have hPs := hb.size
            have hgv : g < WP.heap.size := (hsi.ov.lt g rfl).2
            have hul : ∀ q, u.ownBlock = some q → q < WP.heap.size := fun q hq => (hsi.ou.lt q hq).2
            have hEs : WP.heap.size ≤ wE.heap.size := hbE.size
            have hst := (hsi.below hb hBl).pushS (gg := gg) (cap1 := cap1) (w3 := w7) (s := ⟨p.n, f, t⟩) (X := .cells #[.int .i64 p.n, .int .i64 f.k, .slice f.a f.l.length f.c, .int .i64 t.k, .slice t.a t.l.length t.c] 46) hKs (f2.below hEK) t2
              (f3.mono fun b hb => ⟨by omega, fun e => by have : b = g := Option.some.inj e; omega, fun e => by have := hul b e.symm; omega⟩)
              (t3.mono fun b hb => ⟨by omega, fun e => by have : b = g := Option.some.inj e; omega, fun e => by have := hul b e.symm; omega⟩)
              (by rw [cells5_one]; exact hown1) hgrow (by simpa using hat)
            have hs7 := hgrow.size
            simp only [World.size_alloc] at hs7
            have hlow : Below B wK w7 := ⟨(hgrow.os.trans rfl), (hgrow.tape.trans rfl), (hgrow.output.trans rfl), by omega, fun q hq => hst.2 q (by omega) fun e => by have := (hsi.ou.lt q e.symm).1; omega⟩
            refine ⟨hst.1, (hbw.trans (hb.mono hbw.size)).trans (hlow.mono (by omega)), ⟨(hpc.1.low (hb.mono hBl)).low hlow, hpc.2⟩, ?_, by omega, by omega, ?_, ?_⟩
            · exact (hp7.below hb).of fun i => World.cell?_of_block (a := ⟨wr.heap.size, i, none⟩) (hst.2 wr.heap.size (by omega) fun e => hne e.symm)
            · intro e
              have e' : gg = wr.heap.size := Option.some.inj e
              rcases hat with h | h
              · rw [e'] at h; exact hne h
              · omega
            · have := HM.out.2.2
              rw [sitesM_tt, if_pos hk.out] at this
              rw [← this]
              simp [St.m, f1, t1]
          clear hown1 hgrow hat hlt3 uo hnew HFF HTT HS HS0 HS1 HSG HSA H39f H39t HI hb hbE
          go_wp2_with fail
          go_meet
          case rel => exact ⟨_, _, rfl, HN⟩
        · have hk : Hid (p.k ≠ 10) := hk0
          have hk' : (p.k == 10) = false := by simpa using hk0
          clear hk0
          rw [hk']
          clear hk'
          rw [← hWP]
          clear hWP
          have HN : Hid (SI B (.slice (some ⟨g, 0, none⟩) us.length cap) u us ss WP ∧ Below w.heap.size w WP ∧ (Pr1 B WP p ∧ p.cok) ∧ At7 WP wr.heap.size 0 p ∧ wr.heap.size < WP.heap.size ∧ B ≤ WP.heap.size ∧ u.ownBlock ≠ some wr.heap.size ∧ ss.map St.m ++ (todo p.l.reverse ++ todo us) = sitesM x.tm) := by
            obtain ⟨h1, h2, h3, h4, h5, h6, h7⟩ := HI.out
            refine ⟨h1, h2, h3, h4, h5, h6, h7, ?_⟩
            have := HM.out.2.2
            rw [sitesM_tt, if_neg hk.out] at this
            simpa using this
          clear HI
          go_wp2_with fail
          go_meet
          case rel => exact ⟨u, ss, rfl, HN⟩
      case rest =>
      obtain ⟨u', ss', hu', HC⟩ := hcut
      subst hu'
      subst hNB
      obtain ⟨W0, hW0⟩ : ∃ W, W = wr := ⟨_, rfl⟩
      subst hW0
      have q6 := HC.out.2.2.2.1.c6
      simp only [Nat.zero_add] at q6
      have HCM : Hid (ss'.map St.m ++ (todo p.l.reverse ++ todo us) = sitesM x.tm ∧ gk = mass1 us + p.sz ∧ mass1 us + p.sz ≤ 1000) := ⟨HC.out.2.2.2.2.2.2.2, HM.out.1, HM.out.2.1⟩
      have HC0 : Hid (SI B (Value.slice (some ⟨g, 0, none⟩) us.length cap) u' (us ++ (p.l.drop p.l.length).reverse) ss' wc ∧ Below w.heap.size w wc ∧ (Pr1 B wc p ∧ p.cok) ∧ At7 wc W0.heap.size 0 p ∧ W0.heap.size < wc.heap.size ∧ B ≤ wc.heap.size ∧ (Value.slice (some ⟨g, 0, none⟩) us.length cap).ownBlock ≠ some W0.heap.size ∧ p.l.length ≤ p.l.length) := by
        obtain ⟨h1, h2, h3, h4, h5, h6, h7, h8⟩ := HC.out
        exact ⟨by simpa using h1, h2, h3, h4, h5, h6, fun e => hgn (Option.some.inj e), Nat.le_refl _⟩
      clear HC HM c0 c1 c2 c3 c4 c5 c6 HI
      go_wp2_with fail
      clear q6
      obtain ⟨K0, hK0⟩ : ∃ K, K = gk := ⟨_, rfl⟩
      subst hK0
      go_loopg [4, 7] p.l.length (fun q s4 s7 wx => ∃ (j : Nat) (v : Value), q = j ∧ s7 = .int .i64 ((j : Int) - 1) ∧ v = s4 ∧ Hid (SI B v u' (us ++ (p.l.drop j).reverse) ss' wx ∧ Below w.heap.size w wx ∧ (Pr1 B wx p ∧ p.cok) ∧ At7 wx W0.heap.size 0 p ∧ W0.heap.size < wx.heap.size ∧ B ≤ wx.heap.size ∧ v.ownBlock ≠ some W0.heap.size ∧ j ≤ p.l.length))
      case atStart => exact ⟨p.l.length, _, rfl, rfl, rfl, HC0⟩
      case round =>
        obtain ⟨j, v, hj, rfl, hv, HQ⟩ := hrel
        subst hv
        clear HC0
        match j, hj, HQ with
        | 0, hj, HQ =>
          have HN : Hid (SI B v u' (us ++ p.l.reverse) ss' wr ∧ Below w.heap.size w wr ∧ mass1 (us ++ p.l.reverse) ≤ 1000 ∧ B ≤ wr.heap.size ∧ ss'.map St.m ++ todo (us ++ p.l.reverse) = sitesM x.tm) := by
            obtain ⟨h1, h2, h3, h4, h5, h6, h7, h8⟩ := HQ.out
            have e : mass1 (us ++ p.l.reverse) = mass1 us + (p.l.map TT.sz).sum := by simp [mass1]
            have hs := p.sz_eq
            have hm := HCM.out.2
            exact ⟨by simpa using h1, h2, by omega, h6, by rw [todo_append]; exact HCM.out.1⟩
          have HMs : Hid (mass1 (us ++ p.l.reverse) < K0) := by
            have e : mass1 (us ++ p.l.reverse) = mass1 us + (p.l.map TT.sz).sum := by simp [mass1]
            have hs := p.sz_eq
            have hm := HCM.out.2
            show _ < _
            omega
          clear HQ hj HCM
          go_wp2_with fail
          go_roundg (mass1 (us ++ p.l.reverse))
          case measure => exact HMs.out
          case rel => exact ⟨_, _, _, _, rfl, rfl, rfl, HN⟩
        | m + 1, hj, HQ =>
          have hmlt : m < p.l.length := HQ.out.2.2.2.2.2.2.2
          obtain ⟨hpi, hpb⟩ := HQ.out.2.2.1.1
          obtain ⟨b, o, ea, hX, hyi⟩ := hpi.part m hmlt
          have hyb : p.l[m].Bl (· < B) := hpb.mem (List.getElem_mem hmlt)
          have hyc : p.l[m].cok := HQ.out.2.2.1.2.mem (List.getElem_mem hmlt)
          obtain ⟨y, hye⟩ : ∃ y, p.l[m] = y := ⟨_, rfl⟩
          rw [hye] at hX hyi hyb hyc
          obtain ⟨d0, d1, d2, d3, d4, d5, d6⟩ := hX
          have q6 := HQ.out.2.2.2.1.c6
          simp only [Nat.zero_add] at q6
          rw [ea] at q6
          have e1 : (((m + 1 : Nat) : Int) - 1) = (m : Int) := by omega
          rw [e1]
          have i5 : (m : Int) < (p.l.length : Int) := by omega
          have i7 : (0 : Int) ≤ (m : Int) := by omega
          obtain ⟨N, hN⟩ : ∃ N, (us ++ (p.l.drop (m + 1)).reverse).length = N := ⟨_, rfl⟩
          obtain ⟨xs, hxs⟩ : ∃ xs, cells7 (us ++ (p.l.drop (m + 1)).reverse) = xs := ⟨_, rfl⟩
          have hNb : N ≤ 2002 := by
            rw [← hN]
            have h1 := Stk1.len (ps := us)
            have h2 := HCM.out.2.2
            simp
            omega
          have uo : wr.ownsRow B 27 7 v N xs := by rw [← hN, ← hxs]; exact HQ.out.1.ov
          have hnew := heap_alloc_new wr (.cells #[.int .i64 y.k, .int .i64 y.n, .int .i64 y.t.k, .slice y.t.a y.t.l.length y.t.c, .int .i64 y.f.k, .slice y.f.a y.f.l.length y.f.c, .slice y.a y.l.length y.c] 27)
          have hBr : B ≤ wr.heap.size := HQ.out.2.2.2.2.2.1
          have HNX : Hid ((us ++ (p.l.drop (m + 1)).reverse).length = N ∧ cells7 (us ++ (p.l.drop (m + 1)).reverse) = xs) := ⟨hN, hxs⟩
          have HY : Hid ((Pr1 B wr y ∧ y.cok) ∧ p.l[m] = y) := ⟨⟨⟨hyi, hyb⟩, hyc⟩, hye⟩
          have HJ : Hid (gk = m + 1) := hj
          clear hN hxs hpi hpb hyi hyb hyc hye ea e1 hj
          go_wp2_with (at_builtin; refine wpList_append_lies _ rfl _ _ _ rfl B 27 i0 _ 7 104 Tryd.underlying25 hi0 hz0 hz1 hz2 rfl (by omega) v N xs rfl (uo.alloc _) ⟨wr.heap.size, 0, none⟩ 1 1 [.int .i64 y.k, .int .i64 y.n, .int .i64 y.t.k, .slice y.t.a y.t.l.length y.t.c, .int .i64 y.f.k, .slice y.f.a y.f.l.length y.f.c, .slice y.a y.l.length y.c] rfl rfl (World.news_of_block (cs := #[.int .i64 y.k, .int .i64 y.n, .int .i64 y.t.k, .slice y.t.a y.t.l.length y.t.c, .int .i64 y.f.k, .slice y.f.a y.f.l.length y.f.c, .slice y.a y.l.length y.c]) (t := 27) (fr := (0, 0)) hnew) (by simp [Value.oneCell']) (by omega) (by unfold maxLen; omega) (by omega) (by simp; omega) (wr.heap.size + 1) (by simp) ?_; intro gg cap1 w3 hown1 hgrow hat hlt3)
          have HN : Hid (SI B (Value.slice (some ⟨gg, 0, none⟩) (N + 1) cap1) u' (us ++ (p.l.drop m).reverse) ss' w3 ∧ Below w.heap.size w w3 ∧ (Pr1 B w3 p ∧ p.cok) ∧ At7 w3 W0.heap.size 0 p ∧ W0.heap.size < w3.heap.size ∧ B ≤ w3.heap.size ∧ (Value.slice (some ⟨gg, 0, none⟩) (N + 1) cap1).ownBlock ≠ some W0.heap.size ∧ m ≤ p.l.length) := by
            obtain ⟨h1, h2, h3, h4, h5, h6, h7, h8⟩ := HQ.out
            obtain ⟨eN, exs⟩ := HNX.out
            have hst := h1.pushT (gg := gg) (cap1 := cap1) (w3 := w3) (c := y) (X := .cells #[.int .i64 y.k, .int .i64 y.n, .int .i64 y.t.k, .slice y.t.a y.t.l.length y.t.c, .int .i64 y.f.k, .slice y.f.a y.f.l.length y.f.c, .slice y.a y.l.length y.c] 27) hBr HY.out.1 (by rw [eN, exs]; exact hown1) hgrow (by simpa using hat)
            have hs3 := hgrow.size
            simp only [World.size_alloc] at hs3
            have hlow : Below B wr w3 := ⟨hgrow.os.trans rfl, hgrow.tape.trans rfl, hgrow.output.trans rfl, by omega, fun q hq => hst.2 q (by omega) fun e => by have := (h1.ov.lt q e.symm).1; omega⟩
            have hst1 := hst.1
            rw [eN] at hst1
            have hdr : us ++ (p.l.drop m).reverse = us ++ (p.l.drop (m + 1)).reverse ++ [y] := by
              rw [List.drop_eq_getElem_cons hmlt, HY.out.2]
              simp
            refine ⟨by rw [hdr]; exact hst1, h2.trans (hlow.mono (by omega)), ⟨h3.1.low hlow, h3.2⟩, ?_, by omega, by omega, ?_, by omega⟩
            · exact h4.of fun i => World.cell?_of_block (a := ⟨W0.heap.size, i, none⟩) (hst.2 W0.heap.size h5 fun e => h7 e.symm)
            · intro e
              have e' : gg = W0.heap.size := Option.some.inj e
              rcases hat with h | h
              · rw [e'] at h; exact h7 h
              · omega
          clear hown1 hgrow hat hlt3 uo hnew HQ HY HNX d0 d1 d2 d3 d4 d5 d6 q6
          go_wp2_with fail
          go_roundg m
          case measure => have := HJ.out; omega
          case rel => exact ⟨m, _, rfl, by go_num, rfl, HN⟩
end Go.Proofs.YtnddkmccagiclaaDoor

/-
  What the call of chaperonekeep.checks answers.
-/
namespace Go.Proofs.YtnddkmccagiclaaDoor
open Go.RowKit
/-- (as any 7) -/
def C0 : Tm := ⟨9, 0, anyY, anyY, [⟨2, 7, anyY, anyY, []⟩]⟩
/-- (as any 7), the number cast. -/
def C1 : Tm := ⟨9, 0, anyY, anyY, [⟨10, 1, anyY, ⟨1, []⟩, [⟨2, 7, anyY, anyY, []⟩]⟩]⟩
theorem any_any : isAnyY anyY = true := by simp [isAnyY, anyY, relY_mk, relL]
theorem any_good : goodY 4 anyY = true := by simp [goodY, anyY]
theorem C0_step (n r : Nat) : goodS 0 (n + 1 + 1) 0 C0 (r + 1 + 1) = some r := by
  simp [C0, goodS, okTop, okTypes, okNum, tells, partsOf, bindL, any_any, any_good, insOf]
theorem C0_good : goodM 0 C0 = true := congrArg Option.isSome (C0_step 38 38)
theorem C0_read : readS C0 [] 0 = some (C1, anyY) := by
  simp [C0, C1, readS_mk, readL, takesIn, ruleY, fitL, castL, castY, relY_mk, relL, escFits, escSame, anyY]
theorem C1_sites : sitesM C1 = [(1, ⟨1, []⟩, anyY)] := by
  simp [C1, sitesM_mk]
theorem C1_sz : C1.sz = 3 := by simp [C1, Tm.sz_mk]
end Go.Proofs.YtnddkmccagiclaaDoor

/-
  What the call of check's inside answers: what is within the casts and As about a term.
-/
namespace Go.Proofs.YtnddkmccagiclaaDoor
open Go.RowKit
/-- A term within another, at which it comes to the same without casts. -/
def InW (x p : TT) (w W : World) : Prop := p.In W ∧ p.Bl (· < w.heap.size) ∧ p.sz ≤ x.sz ∧ eraseM p.tm = eraseM x.tm ∧ ∀ Q : Nat → Prop, x.Bl Q → p.Bl Q
/-- What inside answers. -/
def InPost (x : TT) (w : World) (e : Ending) (w' : World) : Prop :=
  ∃ q : TT, e = .returned (.agg #[.int .i64 q.k, .int .i64 q.n, .int .i64 q.t.k, .slice q.t.a q.t.l.length q.t.c, .int .i64 q.f.k, .slice q.f.a q.f.l.length q.f.c, .slice q.a q.l.length q.c]) ∧ q.In w' ∧ (∀ Q : Nat → Prop, x.Bl Q → q.Bl Q) ∧ q.sz ≤ x.sz ∧ eraseM x.tm = ⟨q.k, q.n, anyY, anyY, (q.l.map TT.tm).map eraseM⟩ ∧ Below w.heap.size w w'
theorem eraseT_stop {k n : Int} {l : List Tm} (hs : ¬ ((k = 9 ∨ k = 10) ∧ l.length = 1)) : eraseT k n l = ⟨k, n, anyY, anyY, l⟩ := by
  match l, hs with
  | [], _ => rfl
  | [y], hs =>
    have h2 : ¬ (k = 9 ∨ k = 10) := fun h => hs ⟨h, rfl⟩
    exact if_neg h2
  | y :: z :: r, _ => rfl
theorem inside_end {x p : TT} {w wr : World} (hb : Below w.heap.size w wr) (hl : LF w.heap.size p wr) (hw : InW x p w wr) (hs : ¬ ((p.k = 9 ∨ p.k = 10) ∧ p.l.length = 1)) : InPost x w (.returned (.agg #[.int .i64 p.k, .int .i64 p.n, .int .i64 p.t.k, .slice p.t.a p.t.l.length p.t.c, .int .i64 p.f.k, .slice p.f.a p.f.l.length p.f.c, .slice p.a p.l.length p.c])) (put7 wr (w.heap.size + 1) p) := by
  obtain ⟨h1, h2, h3, h4, h5⟩ := hw
  have hk := put7_kept (w := wr) (J := w.heap.size + 1) (x := p)
  refine ⟨p, rfl, h1.keptR hk (h2.mono fun b hb => by omega), h5, h3, ?_, hb.trans ((hk.below (by simp) (Nat.le_of_lt hl.lt)).mono (by omega))⟩
  rw [← h4]
  have e : p.tm = ⟨p.k, p.n, p.t.ty, p.f.ty, p.l.map TT.tm⟩ := by cases p; rw [TT.tm_mk]
  rw [e, eraseM_mk, eraseT_stop (by rw [List.length_map, List.length_map]; exact hs)]
theorem inside_step {x p y : TT} {w wr : World} (hb : Below w.heap.size w wr) (hl : LF w.heap.size p wr) (hw : InW x p w wr) (hp : p.l = [y]) (hk9 : p.k = 9 ∨ p.k = 10) (hy : y.In wr) : Below w.heap.size w (put7 wr w.heap.size y) ∧ LF w.heap.size y (put7 wr w.heap.size y) ∧ InW x y w (put7 wr w.heap.size y) := by
  obtain ⟨h1, h2, h3, h4, h5⟩ := hw
  have hk := put7_kept (w := wr) (J := w.heap.size) (x := y)
  have hyb : y.Bl (· < w.heap.size) := h2.mem (by rw [hp]; simp)
  have hll := hl.lt
  refine ⟨hb.trans ((hk.below (by simp) (by omega)).mono (Nat.le_refl _)), ⟨put7_box hl.b, hl.z.kept hk (by omega)⟩, hy.keptR hk (hyb.mono fun b hb => by omega), hyb, ?_, ?_, fun Q hQ => (h5 Q hQ).mem (by rw [hp]; simp)⟩
  · have := p.sz_eq
    rw [hp] at this
    simp at this
    omega
  · rw [← h4]
    obtain ⟨k, n, t, f, a, c, l⟩ := p
    simp only at hp hk9
    subst hp
    rw [TT.tm_mk, eraseM_mk]
    simp [eraseT, hk9]
set_option maxRecDepth 20000 in
set_option maxHeartbeats 8000000 in
theorem inside_any (x : TT) (w : World) (hx : x.In w) : Calls Tryd.prog 45 #[.agg #[.int .i64 x.k, .int .i64 x.n, .int .i64 x.t.k, .slice x.t.a x.t.l.length x.t.c, .int .i64 x.f.k, .slice x.f.a x.f.l.length x.f.c, .slice x.a x.l.length x.c]] w (InPost x w) := by
  obtain ⟨W1, hW1⟩ : ∃ W1, W1 = ((w.alloc (.cells #[.int .i64 x.k, .int .i64 x.n, .int .i64 x.t.k, .slice x.t.a x.t.l.length x.t.c, .int .i64 x.f.k, .slice x.f.a x.f.l.length x.f.c, .slice x.a x.l.length x.c] 27)).alloc (.cells #[.int .i64 0, .int .i64 0, .int .i64 0, .slice none 0 0, .int .i64 0, .slice none 0 0, .slice none 0 0] 27)) := ⟨_, rfl⟩
  have hb1 : Below w.heap.size w W1 := by rw [hW1]; exact ((Below.refl _ _).alloc (Nat.le_refl _) _).alloc (by simp) _
  have HL0 : Hid (Below w.heap.size w W1 ∧ LF w.heap.size x W1 ∧ InW x x w W1) := ⟨hb1, by rw [hW1]; exact LF.start x w, hx.below hb1, hx.bl, Nat.le_refl _, rfl, fun _ h => h⟩
  clear hx hb1
  go_enter Tryd.func45, Tryd.ntmps45
  go_wp2_with fail
  rw [← hW1]
  clear hW1
  go_loopg [] x.sz (fun g wr => ∃ p : TT, g = p.sz ∧ Hid (Below w.heap.size w wr ∧ LF w.heap.size p wr ∧ InW x p w wr))
  case atStart => exact ⟨x, rfl, HL0⟩
  case round =>
    obtain ⟨p, hg, HQ⟩ := hrel
    subst hg
    clear HL0
    by_cases k10 : p.k = 10
    · have e10 : (p.k == 10) = true := by simpa using k10
      have HPK : Hid (p.k = 9 ∨ p.k = 10) := .inr k10
      by_cases hl1 : p.l.length = 1
      · have HPL : Hid (p.l.length = 1) := hl1
        clear k10 hl1
        obtain ⟨b, o, ea, h7, hyi⟩ := HQ.out.2.2.1.part 0 (by rw [HPL.out]; omega)
        obtain ⟨y, hye⟩ : ∃ y, p.l = [y] := List.length_eq_one_iff.1 HPL.out
        have hy0 : p.l[0]'(by rw [HPL.out]; omega) = y := by simp [hye]
        rw [hy0] at h7 hyi
        obtain ⟨d0, d1, d2, d3, d4, d5, d6⟩ := h7
        simp only [Nat.zero_mul, Nat.add_zero] at d0 d1 d2 d3 d4 d5 d6
        have hbx := HQ.out.2.1.b
        obtain ⟨⟨q0, q1, q2, q3, q4, q5, q6⟩, qf⟩ := hbx
        simp only [Nat.zero_add] at q0 q1 q2 q3 q4 q5 q6
        have g0 := qf 0 (by omega)
        have g1 := qf 1 (by omega)
        have g2 := qf 2 (by omega)
        have g3 := qf 3 (by omega)
        have g4 := qf 4 (by omega)
        have g5 := qf 5 (by omega)
        have g6 := qf 6 (by omega)
        clear qf
        rw [ea] at q6
        rw [HPL.out] at q6
        have hbl : b < w.heap.size := HQ.out.2.2.2.1.own (by rw [hye]; simp) _ ea
        have nbH : b ≠ w.heap.size := by omega
        have HN : Hid (Below w.heap.size w (put7 wr w.heap.size y) ∧ LF w.heap.size y (put7 wr w.heap.size y) ∧ InW x y w (put7 wr w.heap.size y)) := inside_step HQ.out.1 HQ.out.2.1 HQ.out.2.2 hye HPK.out hyi
        have HM : Hid (y.sz < p.sz) := by
          have h1 := p.sz_eq
          rw [hye] at h1
          simp at h1
          show _ < _
          omega
        clear HQ HPK HPL ea hyi hye hy0 hbl
        go_wp2_with fail
        go_roundg y.sz
        case measure => exact HM.out
        case rel => exact ⟨y, rfl, HN⟩
      · have HPL : Hid (p.l.length ≠ 1) := hl1
        have el : ((p.l.length : Int) == 1) = false := by simp; omega
        clear k10 hl1
        have HN : Hid (InPost x w (.returned (.agg #[.int .i64 p.k, .int .i64 p.n, .int .i64 p.t.k, .slice p.t.a p.t.l.length p.t.c, .int .i64 p.f.k, .slice p.f.a p.f.l.length p.f.c, .slice p.a p.l.length p.c])) (put7 wr (w.heap.size + 1) p)) := inside_end HQ.out.1 HQ.out.2.1 HQ.out.2.2 (by exact fun h => HPL.out h.2)
        have hbx := HQ.out.2.1.b
        obtain ⟨e0, e1, e2, e3, e4, e5, e6⟩ := (put7_box (x := p) HQ.out.2.1.z.box).at7
        simp only [Nat.zero_add] at e0 e1 e2 e3 e4 e5 e6
        obtain ⟨⟨y0, y1, y2, y3, y4, y5, y6⟩, f0, f1, f2, f3, f4, f5, f6⟩ := HQ.out.2.1.z
        obtain ⟨⟨q0, q1, q2, q3, q4, q5, q6⟩, qf⟩ := hbx
        simp only [Nat.zero_add] at q0 q1 q2 q3 q4 q5 q6
        have g0 := qf 0 (by omega)
        have g1 := qf 1 (by omega)
        have g2 := qf 2 (by omega)
        have g3 := qf 3 (by omega)
        have g4 := qf 4 (by omega)
        have g5 := qf 5 (by omega)
        have g6 := qf 6 (by omega)
        clear qf
        clear HQ HPK HPL
        go_wp2_with fail
        refine bodyPost_ret (v := .agg #[.int .i64 p.k, .int .i64 p.n, .int .i64 p.t.k, .slice p.t.a p.t.l.length p.t.c, .int .i64 p.f.k, .slice p.f.a p.f.l.length p.f.c, .slice p.a p.l.length p.c]) ?_ rfl HN.out
        unfold put7 at e0 e1 e2 e3 e4 e5 e6
        simp [results, Tryd.results45, go_sem, e0, e1, e2, e3, e4, e5, e6]
    · have e10 : (p.k == 10) = false := by simpa using k10
      by_cases k9 : p.k = 9
      · have e9 : (p.k == 9) = true := by simpa using k9
        have HPK : Hid (p.k = 9 ∨ p.k = 10) := .inl k9
        by_cases hl1 : p.l.length = 1
        · have HPL : Hid (p.l.length = 1) := hl1
          clear k10 k9 hl1
          obtain ⟨b, o, ea, h7, hyi⟩ := HQ.out.2.2.1.part 0 (by rw [HPL.out]; omega)
          obtain ⟨y, hye⟩ : ∃ y, p.l = [y] := List.length_eq_one_iff.1 HPL.out
          have hy0 : p.l[0]'(by rw [HPL.out]; omega) = y := by simp [hye]
          rw [hy0] at h7 hyi
          obtain ⟨d0, d1, d2, d3, d4, d5, d6⟩ := h7
          simp only [Nat.zero_mul, Nat.add_zero] at d0 d1 d2 d3 d4 d5 d6
          have hbx := HQ.out.2.1.b
          obtain ⟨⟨q0, q1, q2, q3, q4, q5, q6⟩, qf⟩ := hbx
          simp only [Nat.zero_add] at q0 q1 q2 q3 q4 q5 q6
          have g0 := qf 0 (by omega)
          have g1 := qf 1 (by omega)
          have g2 := qf 2 (by omega)
          have g3 := qf 3 (by omega)
          have g4 := qf 4 (by omega)
          have g5 := qf 5 (by omega)
          have g6 := qf 6 (by omega)
          clear qf
          rw [ea] at q6
          rw [HPL.out] at q6
          have hbl : b < w.heap.size := HQ.out.2.2.2.1.own (by rw [hye]; simp) _ ea
          have nbH : b ≠ w.heap.size := by omega
          have HN : Hid (Below w.heap.size w (put7 wr w.heap.size y) ∧ LF w.heap.size y (put7 wr w.heap.size y) ∧ InW x y w (put7 wr w.heap.size y)) := inside_step HQ.out.1 HQ.out.2.1 HQ.out.2.2 hye HPK.out hyi
          have HM : Hid (y.sz < p.sz) := by
            have h1 := p.sz_eq
            rw [hye] at h1
            simp at h1
            show _ < _
            omega
          clear HQ HPK HPL ea hyi hye hy0 hbl
          go_wp2_with fail
          go_roundg y.sz
          case measure => exact HM.out
          case rel => exact ⟨y, rfl, HN⟩
        · have HPL : Hid (p.l.length ≠ 1) := hl1
          have el : ((p.l.length : Int) == 1) = false := by simp; omega
          clear k10 k9 hl1
          have HN : Hid (InPost x w (.returned (.agg #[.int .i64 p.k, .int .i64 p.n, .int .i64 p.t.k, .slice p.t.a p.t.l.length p.t.c, .int .i64 p.f.k, .slice p.f.a p.f.l.length p.f.c, .slice p.a p.l.length p.c])) (put7 wr (w.heap.size + 1) p)) := inside_end HQ.out.1 HQ.out.2.1 HQ.out.2.2 (by exact fun h => HPL.out h.2)
          have hbx := HQ.out.2.1.b
          obtain ⟨e0, e1, e2, e3, e4, e5, e6⟩ := (put7_box (x := p) HQ.out.2.1.z.box).at7
          simp only [Nat.zero_add] at e0 e1 e2 e3 e4 e5 e6
          obtain ⟨⟨y0, y1, y2, y3, y4, y5, y6⟩, f0, f1, f2, f3, f4, f5, f6⟩ := HQ.out.2.1.z
          obtain ⟨⟨q0, q1, q2, q3, q4, q5, q6⟩, qf⟩ := hbx
          simp only [Nat.zero_add] at q0 q1 q2 q3 q4 q5 q6
          have g0 := qf 0 (by omega)
          have g1 := qf 1 (by omega)
          have g2 := qf 2 (by omega)
          have g3 := qf 3 (by omega)
          have g4 := qf 4 (by omega)
          have g5 := qf 5 (by omega)
          have g6 := qf 6 (by omega)
          clear qf
          clear HQ HPK HPL
          go_wp2_with fail
          refine bodyPost_ret (v := .agg #[.int .i64 p.k, .int .i64 p.n, .int .i64 p.t.k, .slice p.t.a p.t.l.length p.t.c, .int .i64 p.f.k, .slice p.f.a p.f.l.length p.f.c, .slice p.a p.l.length p.c]) ?_ rfl HN.out
          unfold put7 at e0 e1 e2 e3 e4 e5 e6
          simp [results, Tryd.results45, go_sem, e0, e1, e2, e3, e4, e5, e6]
      · have e9 : (p.k == 9) = false := by simpa using k9
        have HPK : Hid (¬ (p.k = 9 ∨ p.k = 10)) := by show ¬ _; omega
        have HPL : Hid True := trivial
        clear k10 k9
        have HN : Hid (InPost x w (.returned (.agg #[.int .i64 p.k, .int .i64 p.n, .int .i64 p.t.k, .slice p.t.a p.t.l.length p.t.c, .int .i64 p.f.k, .slice p.f.a p.f.l.length p.f.c, .slice p.a p.l.length p.c])) (put7 wr (w.heap.size + 1) p)) := inside_end HQ.out.1 HQ.out.2.1 HQ.out.2.2 (by exact fun h => HPK.out h.1)
        have hbx := HQ.out.2.1.b
        obtain ⟨e0, e1, e2, e3, e4, e5, e6⟩ := (put7_box (x := p) HQ.out.2.1.z.box).at7
        simp only [Nat.zero_add] at e0 e1 e2 e3 e4 e5 e6
        obtain ⟨⟨y0, y1, y2, y3, y4, y5, y6⟩, f0, f1, f2, f3, f4, f5, f6⟩ := HQ.out.2.1.z
        obtain ⟨⟨q0, q1, q2, q3, q4, q5, q6⟩, qf⟩ := hbx
        simp only [Nat.zero_add] at q0 q1 q2 q3 q4 q5 q6
        have g0 := qf 0 (by omega)
        have g1 := qf 1 (by omega)
        have g2 := qf 2 (by omega)
        have g3 := qf 3 (by omega)
        have g4 := qf 4 (by omega)
        have g5 := qf 5 (by omega)
        have g6 := qf 6 (by omega)
        clear qf
        clear HQ HPK HPL
        go_wp2_with fail
        refine bodyPost_ret (v := .agg #[.int .i64 p.k, .int .i64 p.n, .int .i64 p.t.k, .slice p.t.a p.t.l.length p.t.c, .int .i64 p.f.k, .slice p.f.a p.f.l.length p.f.c, .slice p.a p.l.length p.c]) ?_ rfl HN.out
        unfold put7 at e0 e1 e2 e3 e4 e5 e6
        simp [results, Tryd.results45, go_sem, e0, e1, e2, e3, e4, e5, e6]
end Go.Proofs.YtnddkmccagiclaaDoor

/-
  Terms that are still to be erased, each with the place where what is left of it belongs; what all of them make together; no program's run in it.
-/
namespace Go.Proofs.YtnddkmccagiclaaDoor
open Go.RowKit
/-- A term, and where what is left of it belongs. -/
structure Ho where
  p : TT
  b : Nat
  j : Nat
def cell8 (h : Ho) : List Value := [.int .i64 h.p.k, .int .i64 h.p.n, .int .i64 h.p.t.k, .slice h.p.t.a h.p.t.l.length h.p.t.c, .int .i64 h.p.f.k, .slice h.p.f.a h.p.f.l.length h.p.f.c, .slice h.p.a h.p.l.length h.p.c, .pointer (some ⟨h.b, h.j * 7, none⟩)]
def cells8 (hs : List Ho) : List Value := hs.flatMap cell8
theorem cells8_append (a b : List Ho) : cells8 (a ++ b) = cells8 a ++ cells8 b := by simp [cells8]
theorem cells8_one (h : Ho) : cells8 [h] = cell8 h := by simp [cells8]
theorem cells8_length (l : List Ho) : (cells8 l).length = l.length * 8 := by
  induction l with
  | nil => rfl
  | cons a r ih => simp [cells8, cell8] at ih ⊢; omega
theorem cells8_at : ∀ (l : List Ho) (j : Nat) (h : j < l.length) (i : Nat), i < 8 → (cells8 l)[j * 8 + i]? = (cell8 l[j])[i]?
  | [], j, h, _, _ => by simp at h
  | x :: r, 0, _, i, hi => by
    have : cells8 (x :: r) = cell8 x ++ cells8 r := by simp [cells8]
    rw [this, List.getElem?_append_left (by simp [cell8]; omega)]
    simp
  | x :: r, j + 1, h, i, hi => by
    have ih := cells8_at r j (by simpa using h) i hi
    have e : cells8 (x :: r) = cell8 x ++ cells8 r := by simp [cells8]
    rw [e, List.getElem?_append_right (by simp [cell8]; omega)]
    have : (j + 1) * 8 + i - (cell8 x).length = j * 8 + i := by simp [cell8]; omega
    rw [this]
    simpa using ih
/-- A term lies at a place. -/
def Lies (B : Nat) (w : World) (b j : Nat) (m : Tm) : Prop := ∃ y : TT, At7 w b (j * 7) y ∧ y.In w ∧ y.tm = m ∧ y.Bl (B ≤ ·)
/-- A cell that belongs to a place that is still to be written. -/
def inHole (hs : List Ho) (b i : Nat) : Prop := ∃ h, h ∈ hs ∧ h.b = b ∧ h.j * 7 ≤ i ∧ i < h.j * 7 + 7
/-- The place can be written. -/
def Open7 (w : World) (b j : Nat) : Prop := ∀ i, i < 7 → (∃ u, w.cell? ⟨b, j * 7 + i, none⟩ = some u) ∧ w.frozen? ⟨b, j * 7 + i, none⟩ = false
theorem Open7.of {w w' : World} {b j : Nat} (h : Open7 w b j) (e : w'.heap[b]? = w.heap[b]?) : Open7 w' b j := fun i hi => by
  obtain ⟨⟨u, hu⟩, hf⟩ := h i hi
  exact ⟨⟨u, (World.cell?_of_block (a := ⟨b, j * 7 + i, none⟩) e).trans hu⟩, (World.frozen?_of_block (a := ⟨b, j * 7 + i, none⟩) e).trans hf⟩
theorem Open7.set {w : World} {b j b' o' : Nat} {v : Value} (h : Open7 w b j) : Open7 (w.setCell ⟨b', o', none⟩ v) b j := fun i hi => by
  obtain ⟨⟨u, hu⟩, hf⟩ := h i hi
  refine ⟨?_, by rw [World.frozen?_setCell]; exact hf⟩
  by_cases e : b' = b
  · subst e
    exact ⟨_, set_get hu⟩
  · exact ⟨u, by rw [World.cell?_setCell_other _ _ _ _ (fun e2 => e (congrArg Addr.block e2))]; exact hu⟩
theorem Open7.put {w : World} {b j b' o' : Nat} {x : TT} (h : Open7 w b j) : Open7 (put7at w b' o' x) b j := h.set.set.set.set.set.set.set
/-- The state of the loop: the row of what is left; the blocks of what was made; what all comes to, once the places are written. -/
structure EI (B : Nat) (m : Tm) (WB : Nat) (v : Value) (hs : List Ho) (D : Nat → Prop) (w : World) : Prop where
  own : w.ownsRow B 76 8 v hs.length (cells8 hs)
  d : ∀ b, D b → B ≤ b ∧ b < w.heap.size ∧ some b ≠ v.ownBlock
  ho : ∀ h, h ∈ hs → Pr1 B w h.p ∧ D h.b ∧ Open7 w h.b h.j
  nd : (hs.map fun h => (h.b, h.j)).Nodup
  k : ∀ w', (∀ b i, D b → ¬ inHole hs b i → w'.cell? ⟨b, i, none⟩ = w.cell? ⟨b, i, none⟩) → (∀ h, h ∈ hs → Lies B w' h.b h.j (eraseM h.p.tm)) → Lies B w' WB 0 m
/-- At the end. -/
theorem EI.ends {B WB : Nat} {m : Tm} {v : Value} {D : Nat → Prop} {w : World} (h : EI B m WB v [] D w) : Lies B w WB 0 m :=
  h.k w (fun _ _ _ _ => rfl) fun q hq => by cases hq
/-- The children of a term, with their places in a new row. -/
def kidsH (g : Nat) (l : List TT) : List Ho := (List.range l.length).pmap (fun j hj => ⟨l[j]'(by simpa using hj), g, j⟩) (fun j hj => hj)
theorem kidsH_length (g : Nat) (l : List TT) : (kidsH g l).length = l.length := by simp [kidsH]
theorem kidsH_at (g : Nat) (l : List TT) (j : Nat) (h : j < (kidsH g l).length) (h' : j < l.length) : (kidsH g l)[j] = ⟨l[j], g, j⟩ := by simp [kidsH]
theorem put7at_other {w : World} {J o i : Nat} {x : TT} (h : i < o ∨ o + 7 ≤ i) : (put7at w J o x).cell? ⟨J, i, none⟩ = w.cell? ⟨J, i, none⟩ := by
  have n : ∀ k, k < 7 → (⟨J, o + k, none⟩ : Addr) ≠ ⟨J, i, none⟩ := fun k hk e => by
    have := congrArg Addr.off e
    simp only at this
    omega
  unfold put7at
  rw [World.cell?_setCell_other _ _ _ _ (n 6 (by omega)), World.cell?_setCell_other _ _ _ _ (n 5 (by omega)), World.cell?_setCell_other _ _ _ _ (n 4 (by omega)), World.cell?_setCell_other _ _ _ _ (n 3 (by omega)), World.cell?_setCell_other _ _ _ _ (n 2 (by omega)), World.cell?_setCell_other _ _ _ _ (n 1 (by omega))]
  exact World.cell?_setCell_other _ _ _ _ (n 0 (by omega))
theorem put7at_at7 {w : World} {J j : Nat} {x : TT} (h : Open7 w J j) : At7 (put7at w J (j * 7) x) J (j * 7) x := by
  obtain ⟨u0, h0⟩ := (h 0 (by omega)).1
  obtain ⟨u1, h1⟩ := (h 1 (by omega)).1
  obtain ⟨u2, h2⟩ := (h 2 (by omega)).1
  obtain ⟨u3, h3⟩ := (h 3 (by omega)).1
  obtain ⟨u4, h4⟩ := (h 4 (by omega)).1
  obtain ⟨u5, h5⟩ := (h 5 (by omega)).1
  obtain ⟨u6, h6⟩ := (h 6 (by omega)).1
  refine ⟨?_, ?_, ?_, ?_, ?_, ?_, ?_⟩
  · simpa using put7at_get (o := j * 7) x h0
  · simpa using put7at_get (o := j * 7) x h1
  · simpa using put7at_get (o := j * 7) x h2
  · simpa using put7at_get (o := j * 7) x h3
  · simpa using put7at_get (o := j * 7) x h4
  · simpa using put7at_get (o := j * 7) x h5
  · simpa using put7at_get (o := j * 7) x h6
theorem kidsH_mem {g : Nat} {l : List TT} {h : Ho} (hm : h ∈ kidsH g l) : ∃ (j : Nat) (hj : j < l.length), h = ⟨l[j], g, j⟩ := by
  obtain ⟨j, hj, rfl⟩ := List.getElem_of_mem hm
  have hj' : j < l.length := by rwa [kidsH_length] at hj
  exact ⟨j, hj', kidsH_at g l j hj hj'⟩
/-- One more round: the last place is written, its parts are put behind. -/
theorem EI.step {B WB g : Nat} {m : Tm} {v v2 : Value} {us : List Ho} {h : Ho} {q : TT} {D : Nat → Prop} {w w2 : World} (e : EI B m WB v (us ++ [h]) D w) (hq : eraseM h.p.tm = ⟨q.k, q.n, anyY, anyY, (q.l.map TT.tm).map eraseM⟩)
    (hqi : ∀ y, y ∈ q.l → Pr1 B w2 y) (hg : B ≤ g) (hgw : w.heap.size ≤ g) (hg2 : g < w2.heap.size) (hgo : ∀ j, j < q.l.length → Open7 w2 g j) (hown : w2.ownsRow B 76 8 v2 (us ++ kidsH g q.l).length (cells8 (us ++ kidsH g q.l)))
    (hv2 : ∀ b, v2.ownBlock = some b → v.ownBlock = some b ∨ w.heap.size ≤ b) (hv2g : v2.ownBlock ≠ some g)
    (hlow : Below B w w2) (hD : ∀ b, D b → w2.heap[b]? = w.heap[b]?) :
    EI B m WB v2 (us ++ kidsH g q.l) (fun b => D b ∨ b = g) (put7at w2 h.b (h.j * 7) ⟨q.k, q.n, leaf 0, leaf 0, some ⟨g, 0, none⟩, q.l.length, q.l⟩) := by
  have hk := put7at_kept (w := w2) (J := h.b) (o := h.j * 7) (x := ⟨q.k, q.n, leaf 0, leaf 0, some ⟨g, 0, none⟩, q.l.length, q.l⟩)
  obtain ⟨W, hW⟩ : ∃ W, W = put7at w2 h.b (h.j * 7) ⟨q.k, q.n, leaf 0, leaf 0, some ⟨g, 0, none⟩, q.l.length, q.l⟩ := ⟨_, rfl⟩
  have hWs : W.heap.size = w2.heap.size := by rw [hW, put7at_size]
  obtain ⟨hhp, hhD, hhO⟩ := e.ho h (by simp)
  obtain ⟨hB1, hB2, hB3⟩ := e.d h.b hhD
  have hO2 : Open7 w2 h.b h.j := hhO.of (hD _ hhD)
  have h7 : At7 W h.b (h.j * 7) ⟨q.k, q.n, leaf 0, leaf 0, some ⟨g, 0, none⟩, q.l.length, q.l⟩ := by rw [hW]; exact put7at_at7 hO2
  have hoth : ∀ i, i < h.j * 7 ∨ h.j * 7 + 7 ≤ i → W.cell? ⟨h.b, i, none⟩ = w2.cell? ⟨h.b, i, none⟩ := fun i hi => by rw [hW]; exact put7at_other hi
  have hopen : ∀ b j, Open7 w2 b j → Open7 W b j := fun b j ho => by rw [hW]; exact ho.put
  rw [← hW] at hk ⊢
  clear hW
  have hWlow : Below B w2 W := (hk.below (by simp) (by omega)).mono hB1
  have hndA := e.nd
  rw [List.map_append, List.nodup_append] at hndA
  have hne : ∀ u, u ∈ us → ¬ (u.b = h.b ∧ u.j = h.j) := fun u hu hh => hndA.2.2 (u.b, u.j) (List.mem_map.2 ⟨u, hu, rfl⟩) (h.b, h.j) (by simp) (by rw [hh.1, hh.2])
  refine ⟨?_, ?_, ?_, ?_, ?_⟩
  · refine ⟨hown.1, ?_⟩
    rcases hown.2 with hn | ⟨gg, cap, cur, hv, hb', hg', rest⟩
    · exact .inl hn
    · refine .inr ⟨gg, cap, cur, hv, hb', (hk.block gg (Array.getElem?_eq_some_iff.1 hg').1 (fun e2 => ?_) (by simp)).trans hg', rest⟩
      have ho : v2.ownBlock = some gg := by rw [hv]; rfl
      rcases hv2 gg ho with h1 | h1
      · exact hB3 (by rw [← e2]; exact h1.symm)
      · omega
  · intro b hb
    rcases hb with hb | rfl
    · obtain ⟨h1, h2, h3⟩ := e.d b hb
      refine ⟨h1, by omega, fun e2 => ?_⟩
      rcases hv2 b e2.symm with h4 | h4
      · exact h3 h4.symm
      · omega
    · exact ⟨hg, by omega, fun e2 => hv2g e2.symm⟩
  · intro u hu
    rcases List.mem_append.1 hu with hu | hu
    · obtain ⟨h1, h2, h3⟩ := e.ho u (by simp [hu])
      exact ⟨(h1.low hlow).low hWlow, .inl h2, hopen _ _ (h3.of (hD _ h2))⟩
    · obtain ⟨j, hj, rfl⟩ := kidsH_mem hu
      exact ⟨(hqi _ (List.getElem_mem hj)).low hWlow, .inr rfl, hopen _ _ (hgo j hj)⟩
  · rw [List.map_append, List.nodup_append]
    refine ⟨hndA.1, ?_, fun a ha b hb e2 => ?_⟩
    · rw [List.nodup_iff_pairwise_ne, List.pairwise_map, List.pairwise_iff_getElem]
      intro i j hi hj hij
      have hi' : i < q.l.length := by rwa [kidsH_length] at hi
      have hj' : j < q.l.length := by rwa [kidsH_length] at hj
      rw [kidsH_at g q.l i hi hi', kidsH_at g q.l j hj hj']
      intro e2
      have : i = j := congrArg Prod.snd e2
      omega
    · obtain ⟨u, hu, rfl⟩ := List.mem_map.1 ha
      obtain ⟨k, hk2, rfl⟩ := List.mem_map.1 hb
      obtain ⟨j, hj, rfl⟩ := kidsH_mem hk2
      have h1 := (e.d u.b (e.ho u (by simp [hu])).2.1).2.1
      have h2 : u.b = g := congrArg Prod.fst e2
      omega
  · intro w' hE hL
    refine e.k w' (fun b i hb hni => ?_) (fun u hu => ?_)
    · have hbs := (e.d b hb).2.1
      have hni2 : ¬ inHole (us ++ kidsH g q.l) b i := by
        rintro ⟨u, hu, h1, h2, h3⟩
        rcases List.mem_append.1 hu with hu | hu
        · exact hni ⟨u, by simp [hu], h1, h2, h3⟩
        · obtain ⟨j, hj, rfl⟩ := kidsH_mem hu
          simp only at h1
          omega
      rw [hE b i (.inl hb) hni2]
      have h2 : w2.cell? ⟨b, i, none⟩ = w.cell? ⟨b, i, none⟩ := World.cell?_of_block (a := ⟨b, i, none⟩) (hD b hb)
      by_cases eb : b = h.b
      · subst eb
        have hr : i < h.j * 7 ∨ h.j * 7 + 7 ≤ i := by
          by_cases h3 : i < h.j * 7
          · exact .inl h3
          · refine .inr (Nat.le_of_not_lt fun h4 => hni ⟨h, by simp, rfl, by omega, by omega⟩)
        rw [hoth i hr, h2]
      · rw [World.cell?_of_block (a := ⟨b, i, none⟩) (hk.block b (by omega) eb (by simp)), h2]
    · rcases List.mem_append.1 hu with hu | hu
      · exact hL u (by simp [hu])
      · rcases List.mem_singleton.1 hu with rfl
        have hex : ∀ j, j < q.l.length → ∃ y : TT, At7 w' g (j * 7) y ∧ y.In w' ∧ (∀ hj : j < q.l.length, y.tm = eraseM q.l[j].tm) ∧ y.Bl (B ≤ ·) := by
          intro j hj
          obtain ⟨y, h1, h2, h3, h4⟩ := hL ⟨q.l[j], g, j⟩ (List.mem_append.2 (.inr (by rw [← kidsH_at g q.l j (by rw [kidsH_length]; exact hj) hj]; exact List.getElem_mem _)))
          exact ⟨y, h1, h2, fun _ => h3, h4⟩
        haveI : Inhabited TT := ⟨tleaf 0 0⟩
        obtain ⟨T, hT⟩ := Go.Deep.choose_lt hex
        have hlen : ((List.range q.l.length).map T).length = q.l.length := by simp
        have hcell : ∀ i, i < 7 → w'.cell? ⟨u.b, u.j * 7 + i, none⟩ = W.cell? ⟨u.b, u.j * 7 + i, none⟩ := by
          intro i hi
          refine hE u.b _ (.inl hhD) ?_
          rintro ⟨z, hz, h1, h2, h3⟩
          rcases List.mem_append.1 hz with hz | hz
          · exact hne z hz ⟨h1, by omega⟩
          · obtain ⟨j, hj, rfl⟩ := kidsH_mem hz
            simp only at h1
            omega
        refine ⟨⟨q.k, q.n, leaf 0, leaf 0, some ⟨g, 0, none⟩, q.l.length, (List.range q.l.length).map T⟩, ?_, ?_, ?_, ?_⟩
        · obtain ⟨c0, c1, c2, c3, c4, c5, c6⟩ := h7
          refine ⟨(hcell 0 (by omega)).trans c0, (hcell 1 (by omega)).trans c1, (hcell 2 (by omega)).trans c2, (hcell 3 (by omega)).trans c3, (hcell 4 (by omega)).trans c4, (hcell 5 (by omega)).trans c5, ?_⟩
          rw [hcell 6 (by omega), c6]
          simp
        · refine TT.In_mk.2 ⟨leaf_in _ _, leaf_in _ _, fun j hj => ⟨g, 0, rfl, ?_⟩, fun y hy => ?_⟩
          · have hj' : j < q.l.length := by simpa using hj
            simpa using (hT j hj').1
          · obtain ⟨j, hj, rfl⟩ := List.mem_map.1 hy
            exact (hT j (by simpa using hj)).2.1
        · rw [hq, TT.tm_mk, leaf_ty]
          have : ((List.range q.l.length).map T).map TT.tm = (q.l.map TT.tm).map eraseM := by
            apply List.ext_getElem
            · simp
            · intro j h1 h2
              have hj' : j < q.l.length := by simpa using h1
              simp only [List.getElem_map, List.getElem_range]
              exact (hT j hj').2.2.1 hj'
          rw [this]
          rfl
        · refine TT.Bl_mk.2 ⟨leaf_bl _ _, leaf_bl _ _, fun _ z hz => by cases hz; exact hg, fun y hy => ?_⟩
          obtain ⟨j, hj, rfl⟩ := List.mem_map.1 hy
          exact (hT j (by simpa using hj)).2.2.2
end Go.Proofs.YtnddkmccagiclaaDoor
