/-
  What the call of ref's SitesOf answers.
-/
import Derived.Test.YtnddkmccagiclaaDoorLot3d7148d9f5
import Derived.Test.YtnddkmccagiclaaDoorLota7b413de0b
namespace Go.Proofs.YtnddkmccagiclaaDoor
open Go.RowKit
set_option maxRecDepth 20000 in
set_option maxHeartbeats 8000000 in
/-- SitesOf. -/
theorem sitesOf_any (x : TT) (w : World) (hx : x.In w) (hsz : x.sz ≤ 1000) :
    Calls Tryd.prog 23 #[.agg #[.int .i64 x.k, .int .i64 x.n, .int .i64 x.t.k, .slice x.t.a x.t.l.length x.t.c, .int .i64 x.f.k, .slice x.f.a x.f.l.length x.f.c, .slice x.a x.l.length x.c]] w fun e w' => ∃ (ss : List St) (a : Option Addr) (c : Nat), e = .returned (.slice a ss.length c) ∧ (SL w' a ss ∧ ss.length ≤ c) ∧ ss.map St.m = sitesM x.tm ∧ Below w.heap.size w w' := by
  obtain ⟨i0, hi0, hz0, hz1, hz2⟩ := info_parts Tryd.info27c
  obtain ⟨j0, hj0, hy0, hy1, hy2⟩ := info_parts Tryd.info46
  obtain ⟨B, hB⟩ : ∃ B, w.heap.size + 1 = B := ⟨_, rfl⟩
  obtain ⟨W1, hW1⟩ : ∃ W, W = (w.alloc (.cells #[.int .i64 x.k, .int .i64 x.n, .int .i64 x.t.k, .slice x.t.a x.t.l.length x.t.c, .int .i64 x.f.k, .slice x.f.a x.f.l.length x.f.c, .slice x.a x.l.length x.c] 27)).alloc (.cells #[.int .i64 x.k, .int .i64 x.n, .int .i64 x.t.k, .slice x.t.a x.t.l.length x.t.c, .int .i64 x.f.k, .slice x.f.a x.f.l.length x.f.c, .slice x.a x.l.length x.c] 27) := ⟨_, rfl⟩
  have HL : Hid (SJ B (.slice (some ⟨B, 0, none⟩) 1 1) (.slice none 0 0) [x] [] W1 ∧ Below w.heap.size w W1 ∧ mass1 [x] ≤ 1000 ∧ B ≤ W1.heap.size ∧ ([] : List St).map St.m ++ toGo [x] = sitesM x.tm) := by
    subst hB
    have hb : Below w.heap.size w W1 := by rw [hW1]; exact ((Below.refl _ _).alloc (Nat.le_refl _) _).alloc (by simp) _
    have hh := heap_alloc_new (w.alloc (.cells #[.int .i64 x.k, .int .i64 x.n, .int .i64 x.t.k, .slice x.t.a x.t.l.length x.t.c, .int .i64 x.f.k, .slice x.f.a x.f.l.length x.f.c, .slice x.a x.l.length x.c] 27)) (.cells #[.int .i64 x.k, .int .i64 x.n, .int .i64 x.t.k, .slice x.t.a x.t.l.length x.t.c, .int .i64 x.f.k, .slice x.f.a x.f.l.length x.f.c, .slice x.a x.l.length x.c] 27)
    simp only [World.size_alloc] at hh
    rw [← hW1] at hh
    refine ⟨⟨⟨rfl, .inr ⟨_, 1, _, rfl, by omega, hh, Nat.le_refl _, by unfold maxLen; omega, rfl, rfl⟩⟩, World.ownsRow_nil _ _ _ _, fun g _ => by simp [Value.ownBlock], fun p hp => ?_, fun s hs => by cases hs⟩, hb, by simpa [mass1] using hsz, by rw [hW1]; simp, by simp [toGo]⟩
    rcases List.mem_singleton.1 hp with rfl
    exact ⟨hx.below hb, hx.bl.mono fun b h => by omega⟩
  have HSX : Hid ((sitesM x.tm).length ≤ 1000) := Nat.le_trans (sites_len x) hsz
  have hBw : w.heap.size < B := by omega
  clear hx hsz
  go_enter Tryd.func23, Tryd.ntmps23
  go_wp2_with fail
  rw [← hW1]
  clear hW1
  go_loopg [3, 4] (mass1 [x]) (fun k s3 s4 wr => ∃ (u v : Value) (ps : List TT) (ss : List St), u = s3 ∧ v = s4 ∧ k = mass1 ps ∧ Hid (SJ B v u ps ss wr ∧ Below w.heap.size w wr ∧ mass1 ps ≤ 1000 ∧ B ≤ wr.heap.size ∧ ss.map St.m ++ toGo ps = sitesM x.tm))
  case atStart => exact ⟨_, _, [x], [], rfl, rfl, rfl, HL⟩
  case round =>
    obtain ⟨u, v, ps, ss, hu, hv, hk, HR⟩ := hrel
    subst hu hv
    have HK : Hid (gk = mass1 ps) := hk
    clear hk HL hB
    match ps with
    | [] =>
      obtain ⟨a, c', rfl⟩ : ∃ a c, v = .slice a 0 c := by
        rcases HR.out.1.ov.2 with ⟨rfl, _⟩ | ⟨g, cap, cur, rfl, _⟩
        · exact ⟨_, _, rfl⟩
        · exact ⟨_, _, rfl⟩
      obtain ⟨ua, uc, rfl, hsl⟩ := HR.out.1.list
      have HF : Hid (∃ (ss' : List St) (a : Option Addr) (c : Nat), Ending.returned (.slice ua ss.length uc) = .returned (.slice a ss'.length c) ∧ (SL wr a ss' ∧ ss'.length ≤ c) ∧ ss'.map St.m = sitesM x.tm ∧ Below w.heap.size w wr) := ⟨ss, ua, uc, rfl, hsl, by have := HR.out.2.2.2.2; simpa [toGo] using this, HR.out.2.1⟩
      clear HR HK hsl
      go_wp2_with fail
      go_ret
      exact HF.out
    | p :: us =>
      have ho := HR.out.1.ov
      obtain ⟨g, cap, rfl, hg, hgl⟩ := ho.form (by simp)
      have hlen : (p :: us).length = us.length + 1 := by simp
      rw [hlen] at ho
      have hcap : us.length + 1 ≤ cap := by
        rcases ho.2 with ⟨h, _⟩ | ⟨g', cap', cur, h, _, _, h1, _⟩
        · cases h
        · cases h; exact h1
      have hcc : ∀ i, i < 7 → wr.cell? ⟨g, i, none⟩ = (#[.int .i64 p.k, .int .i64 p.n, .int .i64 p.t.k, .slice p.t.a p.t.l.length p.t.c, .int .i64 p.f.k, .slice p.f.a p.f.l.length p.f.c, .slice p.a p.l.length p.c] : Array Value)[i]? := by
        intro i hi
        rw [ho.cellAt i (by omega)]
        have := cells7_at (p :: us) 0 (by simp) i hi
        simp only [Nat.zero_mul, Nat.zero_add] at this
        rw [this]
        simp
      have c0 : wr.cell? ⟨g, 0, none⟩ = some (.int .i64 p.k) := (hcc 0 (by omega)).trans rfl
      have c1 : wr.cell? ⟨g, 1, none⟩ = some (.int .i64 p.n) := (hcc 1 (by omega)).trans rfl
      have c2 : wr.cell? ⟨g, 2, none⟩ = some (.int .i64 p.t.k) := (hcc 2 (by omega)).trans rfl
      have c3 : wr.cell? ⟨g, 3, none⟩ = some (.slice p.t.a p.t.l.length p.t.c) := (hcc 3 (by omega)).trans rfl
      have c4 : wr.cell? ⟨g, 4, none⟩ = some (.int .i64 p.f.k) := (hcc 4 (by omega)).trans rfl
      have c5 : wr.cell? ⟨g, 5, none⟩ = some (.slice p.f.a p.f.l.length p.f.c) := (hcc 5 (by omega)).trans rfl
      have c6 : wr.cell? ⟨g, 6, none⟩ = some (.slice p.a p.l.length p.c) := (hcc 6 (by omega)).trans rfl
      have hms : mass1 (p :: us) = p.sz + mass1 us := by simp [mass1]
      have hus := Stk1.len (ps := us)
      have hps : p.sz = (p.l.map TT.sz).sum + 1 := p.sz_eq
      have hpl := len_sum p.l
      have hml := HR.out.2.2.1
      have n1 : (us.length : Int) ≤ 1000 := by omega
      have n2 : (us.length : Int) + 1 ≤ (cap : Int) := by omega
      have n3 : (0 : Int) ≤ (us.length : Int) := by omega
      have n4 : (1 : Int) ≤ (us.length : Int) + 1 := by omega
      have hpl1 : p.l.length ≤ 1000 := by omega
      have hma : mass1 (p.l ++ us) + 1 = mass1 (p :: us) := by
        rw [hms, hps]
        simp only [mass1, List.map_append, List.sum_append_nat]
        omega
      have hmm : mass1 (p.l ++ us) < gk := by have := HK.out; omega
      obtain ⟨WP, hWP⟩ : ∃ W, W = wr.alloc (.cells #[.int .i64 p.k, .int .i64 p.n, .int .i64 p.t.k, .slice p.t.a p.t.l.length p.t.c, .int .i64 p.f.k, .slice p.f.a p.f.l.length p.f.c, .slice p.a p.l.length p.c] 27) := ⟨_, rfl⟩
      obtain ⟨NB, hNB⟩ : ∃ NB, NB = wr.heap.size := ⟨_, rfl⟩
      have hA : Below wr.heap.size wr WP := by rw [hWP]; exact (Below.refl _ _).alloc (Nat.le_refl _) _
      have hp7 : At7 WP NB 0 p := by rw [hWP, hNB]; exact At7.new wr p
      have hss : ss.length ≤ 1000 := by
        have h5 := congrArg List.length HR.out.2.2.2.2
        have h6 := HSX.out
        simp only [List.length_append, List.length_map] at h5
        omega
      have HI : Hid (SJ B (.slice (some ⟨g, 0, none⟩) (us.length + 1) cap) u (p :: us) ss WP ∧ Below w.heap.size w WP ∧ At7 WP NB 0 p ∧ B ≤ WP.heap.size ∧ u.ownBlock ≠ some NB ∧ ss.map St.m ++ ((if p.k = 10 then [(p.n, p.f.ty, p.t.ty)] else []) ++ toGo (p.l ++ us)) = sitesM x.tm ∧ g < NB) :=
        ⟨by have := HR.out.1.below hA; rwa [hlen] at this, HR.out.2.1.trans (hA.mono HR.out.2.1.size), hp7, by have := HR.out.2.2.2.1; have := hA.size; omega, fun e => by have := (HR.out.1.ou.lt _ e).2; omega, by rw [← toGo_cons]; exact HR.out.2.2.2.2, by rw [hNB]; exact hgl⟩
      have HM : Hid (mass1 (p.l ++ us) ≤ 1000) := by show _ ≤ _; omega
      have lg : g < wr.heap.size := hgl
      clear ho HR HK hms hml hlen hus hcc hA hp7 hma hps hpl hgl hg
      go_upto_if 16 with fail
      rw [← hWP, ← hNB]
      clear hWP hNB c0 c1 c2 c3 c4 c5 c6
      go_cut [3] (fun s3 wx => ∃ (u' : Value) (ss' : List St), u' = s3 ∧ Hid (SJ B (.slice (some ⟨g, 0, none⟩) (us.length + 1) cap) u' (p :: us) ss' wx ∧ Below w.heap.size w wx ∧ At7 wx NB 0 p ∧ B ≤ wx.heap.size ∧ ss'.map St.m ++ toGo (p.l ++ us) = sitesM x.tm))
      case first =>
        by_cases hk0 : p.k = 10
        · have hk' : (p.k == 10) = true := by simpa using hk0
          have Hk : Hid (p.k = 10) := hk0
          rw [hk']
          clear hk' hk0
          obtain ⟨a0, a1, a2, a3, a4, a5, a6⟩ := HI.out.2.2.1
          simp only [Nat.zero_add] at a0 a1 a2 a3 a4 a5 a6
          have lN : NB < WP.heap.size := World.block_lt_of_cell? _ _ a0
          have hoa : (WP.alloc (.cells #[.int .i64 p.n, .int .i64 p.f.k, .slice p.f.a p.f.l.length p.f.c, .int .i64 p.t.k, .slice p.t.a p.t.l.length p.t.c] 46)).ownsRow B 46 5 u ss.length (cells5 ss) := ownsRow_below HI.out.1.ou ((Below.refl _ _).alloc (Nat.le_refl _) _)
          have hnew := heap_alloc_new WP (.cells #[.int .i64 p.n, .int .i64 p.f.k, .slice p.f.a p.f.l.length p.f.c, .int .i64 p.t.k, .slice p.t.a p.t.l.length p.t.c] 46)
          have hBP := HI.out.2.2.2.1
          go_wp2_with (at_builtin; refine wpList_append_lies _ rfl _ _ _ rfl B 46 j0 _ 5 72 Tryd.underlying41 hj0 hy0 hy1 hy2 rfl (by omega) u ss.length (cells5 ss) rfl hoa ⟨WP.heap.size, 0, none⟩ 1 1 [.int .i64 p.n, .int .i64 p.f.k, .slice p.f.a p.f.l.length p.f.c, .int .i64 p.t.k, .slice p.t.a p.t.l.length p.t.c] rfl rfl (World.news_of_block (cs := #[.int .i64 p.n, .int .i64 p.f.k, .slice p.f.a p.f.l.length p.f.c, .int .i64 p.t.k, .slice p.t.a p.t.l.length p.t.c]) (t := 46) (fr := (0, 0)) hnew) (by simp [Value.oneCell']) (by omega) (by unfold maxLen; omega) (by omega) (by simp; omega) (WP.heap.size + 1) (by simp) ?_; intro gg cap1 w5 hown1 hgrow hat hlt5)
          have HN : Hid (SJ B (.slice (some ⟨g, 0, none⟩) (us.length + 1) cap) (.slice (some ⟨gg, 0, none⟩) (ss.length + 1) cap1) (p :: us) (ss ++ [St.mk p.n p.f p.t]) w5 ∧ Below w.heap.size w w5 ∧ At7 w5 NB 0 p ∧ B ≤ w5.heap.size ∧ (ss ++ [St.mk p.n p.f p.t]).map St.m ++ toGo (p.l ++ us) = sitesM x.tm) := by
            obtain ⟨hsj, hbw, hp7, hBl, hne, htg, hgn⟩ := HI.out
            have hpp := hsj.pi p (by simp)
            have hba : Below WP.heap.size WP (WP.alloc (.cells #[.int .i64 p.n, .int .i64 p.f.k, .slice p.f.a p.f.l.length p.f.c, .int .i64 p.t.k, .slice p.t.a p.t.l.length p.t.c] 46)) := (Below.refl _ _).alloc (Nat.le_refl _) _
            have hst := (hsj.below hba).push (gg := gg) (cap1 := cap1) (w3 := w5) (s := ⟨p.n, p.f, p.t⟩) (by simp; omega) ⟨⟨hpp.1.f.below hba, hpp.2.f⟩, hpp.1.t.below hba, hpp.2.t⟩ hown1 hgrow (hat.imp id fun h => by simp; omega)
            have hs5 := hgrow.size
            simp at hs5
            refine ⟨hst.1, (hbw.trans (hba.mono hbw.size)).trans (hst.2.mono (by omega)), ?_, by omega, ?_⟩
            · exact (hp7.below hba).of fun i => World.cell?_of_block (a := ⟨NB, i, none⟩) (hgrow.block NB (by simp; omega) fun e => hne e.symm)
            · rw [if_pos Hk.out] at htg
              rw [← htg]
              simp [St.m]
          clear hown1 hgrow hat hlt5 hoa hnew
          go_meet
          case rel => exact ⟨_, _, rfl, HN⟩
        · have hk' : (p.k == 10) = false := by simpa using hk0
          have HN : Hid (SJ B (.slice (some ⟨g, 0, none⟩) (us.length + 1) cap) u (p :: us) ss WP ∧ Below w.heap.size w WP ∧ At7 WP NB 0 p ∧ B ≤ WP.heap.size ∧ ss.map St.m ++ toGo (p.l ++ us) = sitesM x.tm) := by
            obtain ⟨hsj, hbw, hp7, hBl, hne, htg, hgn⟩ := HI.out
            rw [if_neg hk0, List.nil_append] at htg
            exact ⟨hsj, hbw, hp7, hBl, htg⟩
          rw [hk']
          clear hk' hk0
          go_wp2_with fail
          go_meet
          case rel => exact ⟨_, _, rfl, HN⟩
      case rest =>
      obtain ⟨u', ss', hu', HJ⟩ := hcut
      subst hu'
      have hgn : g < NB := HI.out.2.2.2.2.2.2
      obtain ⟨a0, a1, a2, a3, a4, a5, a6⟩ := HJ.out.2.2.1
      simp only [Nat.zero_add] at a0 a1 a2 a3 a4 a5 a6
      have lN : NB < wc.heap.size := World.block_lt_of_cell? _ _ a0
      have hBw : B ≤ wc.heap.size := HJ.out.2.2.2.1
      have hpi : p.In wc := (HJ.out.1.pi p (by simp)).1
      have HS : Hid (∀ W, Below wc.heap.size wc W → (fun W => W.cell? ⟨NB, 6, none⟩ = some (.slice p.a p.l.length p.c)) W) := fun W h => cell_later h a6
      have HSB : Hid (∀ W : World, (∀ k, k < wc.heap.size → W.heap[k]? = wc.heap[k]?) → (fun W => W.cell? ⟨NB, 6, none⟩ = some (.slice p.a p.l.length p.c)) W) := fun W h => (World.cell?_of_block (a := ⟨NB, 6, none⟩) (h NB lN)).trans a6
      have HUSN : Hid (∀ W : World, (∀ k, k < wc.heap.size → W.heap[k]? = wc.heap[k]?) → ∀ j u, (cells7 us)[j]? = some u → W.cell? ((⟨g, 7, none⟩ : Addr).add j) = some u) := by
        intro W hW j u hj
        have hc := HJ.out.1.ov.cells (g := g) rfl (7 + j) u (by
          have e : cells7 (p :: us) = cells7 [p] ++ cells7 us := by simp [cells7]
          rw [e, List.getElem?_append_right (by simp [cells7])]
          simpa [cells7] using hj)
        have e1 : ((⟨g, 0, none⟩ : Addr).add (7 + j)) = ⟨g, 7 + j, none⟩ := by simp [Addr.add]
        have e2 : ((⟨g, 7, none⟩ : Addr).add j) = ⟨g, 7 + j, none⟩ := by
          unfold Addr.add
          by_cases hq : j = 0 <;> simp [hq]
        rw [e1] at hc
        rw [e2]
        exact (World.cell?_of_block (a := ⟨g, 7 + j, none⟩) (hW g (by omega))).trans hc
      have HFIN : Hid (∀ (v' : Value) (w4 : World), w4.ownsRow B 27 7 v' (p.l ++ us).length (cells7 (p.l ++ us)) → (∀ q, v'.ownBlock = some q → wc.heap.size ≤ q) → Below wc.heap.size wc w4 → (SJ B v' u' (p.l ++ us) ss' w4 ∧ Below w.heap.size w w4 ∧ mass1 (p.l ++ us) ≤ 1000 ∧ B ≤ w4.heap.size ∧ ss'.map St.m ++ toGo (p.l ++ us) = sitesM x.tm)) := by
        intro v' w4 h1 h2 h3
        refine ⟨HJ.out.1.turn hBw (fun k hk => h3.block k hk) h1 h2 fun q hq => ?_, HJ.out.2.1.trans (h3.mono HJ.out.2.1.size), HM.out, by have := h3.size; omega, HJ.out.2.2.2.2⟩
        rcases List.mem_append.1 hq with hq | hq
        · have hpp := HJ.out.1.pi p (by simp)
          exact ⟨hpp.1.mem hq, hpp.2.mem hq⟩
        · exact HJ.out.1.pi q (by simp [hq])
      clear HJ HI HM a0 a1 a2 a3 a4 a5
      by_cases hl0 : p.l.length = 0
      · have hnil : p.l = [] := List.length_eq_zero_iff.1 hl0
        by_cases hu0 : us.length = 0
        · have HU0 : Hid (us.length = 0) := hu0
          have HL0 : Hid (p.l.length = 0 ∧ p.l = []) := ⟨hl0, hnil⟩
          obtain ⟨SA, hSA⟩ : ∃ A : Option Addr, (if cap = 1 then some ⟨g, 0, none⟩ else some ⟨g, 7, none⟩) = A := ⟨_, rfl⟩
          clear hu0 hl0 hnil
          go_upto_region 7 with fail
          refine wp_region_held_drew (S := fun W => W.cell? ⟨NB, 6, none⟩ = some (.slice p.a p.l.length p.c)) (by kernel_rfl) (HS.out _ ((Below.refl _ _).drew)) (fun hHeld => ?_)
          refine takeH (i := 0) (v := ?_) rfl (by kernel_rfl) (by kernel_rfl) (by kernel_rfl) (fun _ _ _ h => h) (Or.inl ⟨by rfl, ?_⟩) hHeld ?_; rotate_left; (focus (intro w' hSw; (try dsimp only at hSw); go_split_ands; first | (go_simp; done) | (go_simp; with_reducible rfl))); simp only [Act.put, List.setIfInBounds_toArray, List.set_cons_zero, List.set_cons_succ]
          refine takeH (i := 1) (v := ?_) rfl (by kernel_rfl) (by kernel_rfl) (by kernel_rfl) (fun _ _ _ h => h) (Or.inl ⟨by rfl, ?_⟩) hHeld ?_; rotate_left; (focus (intro w' hSw; (try dsimp only at hSw); go_split_ands; first | (go_simp; done) | (go_simp; with_reducible rfl))); simp only [Act.put, List.setIfInBounds_toArray, List.set_cons_zero, List.set_cons_succ]
          refine takeH (i := 3) (v := ?_) rfl (by kernel_rfl) (by kernel_rfl) (by kernel_rfl) (fun _ _ _ h => h) (Or.inl ⟨by rfl, ?_⟩) hHeld ?_; rotate_left; (focus (intro w' hSw; (try dsimp only at hSw); go_split_ands; first | (go_simp; done) | (go_simp; with_reducible rfl))); simp only [Act.put, List.setIfInBounds_toArray, List.set_cons_zero, List.set_cons_succ]
          refine takeH (i := 4) (v := ?_) rfl (by kernel_rfl) (by kernel_rfl) (by kernel_rfl) (fun _ _ _ h => h) (Or.inl ⟨by rfl, ?_⟩) hHeld ?_; rotate_left; (focus (intro w' hSw; (try dsimp only at hSw); go_split_ands; first | (go_simp; done) | (go_simp; with_reducible rfl))); simp only [Act.put, List.setIfInBounds_toArray, List.set_cons_zero, List.set_cons_succ]
          refine oneH (i := 2) rfl (by kernel_rfl) (fun K hK => ?_)
          refine step_append_none (by rfl) _ _ _ (by rfl) 27 i0 Tryd.underlying25 hi0 (by rfl) p.a p.c (by show Value.slice p.a p.l.length p.c = _; rw [HL0.out.1]) ?_
          refine hK.out _ _ hHeld (fun hHeld => ?_)
          clear hK K
          refine oneH (i := 5) rfl (by kernel_rfl) (fun K hK => ?_)
          refine step_append_none (by rfl) _ _ _ (by rfl) 27 i0 Tryd.underlying25 hi0 (by rfl) SA (cap - 1) (by show Value.slice SA us.length (cap - 1) = _; rw [HU0.out]) ?_
          have HN : Hid (SJ B (.slice none 0 0) u' (p.l ++ us) ss' wc.drew ∧ Below w.heap.size w wc.drew ∧ mass1 (p.l ++ us) ≤ 1000 ∧ B ≤ wc.drew.heap.size ∧ ss'.map St.m ++ toGo (p.l ++ us) = sitesM x.tm) := HFIN.out (.slice none 0 0) wc.drew (by rw [HL0.out.2, List.nil_append, List.length_eq_zero_iff.1 HU0.out]; exact World.ownsRow_nil _ _ _ _) (fun q hq => by simp [Value.ownBlock] at hq) ((Below.refl _ _).drew)
          refine hK.out _ _ hHeld (fun hHeld => ?_)
          clear hK K
          refine takeH (i := 6) (v := ?_) rfl (by kernel_rfl) (by kernel_rfl) (by kernel_rfl) (fun _ _ _ h => h) (Or.inl ⟨by rfl, ?_⟩) hHeld ?_; rotate_left; (focus (intro w' hSw; (try dsimp only at hSw); go_split_ands; first | (go_simp; done) | (go_simp; with_reducible rfl))); simp only [Act.put, List.setIfInBounds_toArray, List.set_cons_zero, List.set_cons_succ]
          refine wpAnyH_done (by kernel_rfl) ?_ _
          go_wp2_with fail
          (try simp only [Nat.zero_add] at HN)
          go_roundg (mass1 (p.l ++ us))
          case measure => exact hmm
          case rel => exact ⟨_, _, p.l ++ us, ss', rfl, rfl, rfl, HN⟩
        · have hu1 : 0 < us.length := by omega
          have hcap1 : ¬ cap = 1 := by omega
          have HL0 : Hid (p.l.length = 0 ∧ p.l = []) := ⟨hl0, hnil⟩
          clear hu0 hl0 hnil
          go_upto_region 7 with fail
          refine wp_region_held_drew (S := fun W => W.cell? ⟨NB, 6, none⟩ = some (.slice p.a p.l.length p.c)) (by kernel_rfl) (HS.out _ ((Below.refl _ _).drew)) (fun hHeld => ?_)
          refine takeH (i := 0) (v := ?_) rfl (by kernel_rfl) (by kernel_rfl) (by kernel_rfl) (fun _ _ _ h => h) (Or.inl ⟨by rfl, ?_⟩) hHeld ?_; rotate_left; (focus (intro w' hSw; (try dsimp only at hSw); go_split_ands; first | (go_simp; done) | (go_simp; with_reducible rfl))); simp only [Act.put, List.setIfInBounds_toArray, List.set_cons_zero, List.set_cons_succ]
          refine takeH (i := 1) (v := ?_) rfl (by kernel_rfl) (by kernel_rfl) (by kernel_rfl) (fun _ _ _ h => h) (Or.inl ⟨by rfl, ?_⟩) hHeld ?_; rotate_left; (focus (intro w' hSw; (try dsimp only at hSw); go_split_ands; first | (go_simp; done) | (go_simp; with_reducible rfl))); simp only [Act.put, List.setIfInBounds_toArray, List.set_cons_zero, List.set_cons_succ]
          refine takeH (i := 3) (v := ?_) rfl (by kernel_rfl) (by kernel_rfl) (by kernel_rfl) (fun _ _ _ h => h) (Or.inl ⟨by rfl, ?_⟩) hHeld ?_; rotate_left; (focus (intro w' hSw; (try dsimp only at hSw); go_split_ands; first | (go_simp; done) | (go_simp; with_reducible rfl))); simp only [Act.put, List.setIfInBounds_toArray, List.set_cons_zero, List.set_cons_succ]
          refine takeH (i := 4) (v := ?_) rfl (by kernel_rfl) (by kernel_rfl) (by kernel_rfl) (fun _ _ _ h => h) (Or.inl ⟨by rfl, ?_⟩) hHeld ?_; rotate_left; (focus (intro w' hSw; (try dsimp only at hSw); go_split_ands; first | (go_simp; done) | (go_simp; with_reducible rfl))); simp only [Act.put, List.setIfInBounds_toArray, List.set_cons_zero, List.set_cons_succ]
          refine oneH (i := 2) rfl (by kernel_rfl) (fun K hK => ?_)
          refine step_append_none (by rfl) _ _ _ (by rfl) 27 i0 Tryd.underlying25 hi0 (by rfl) p.a p.c (by show Value.slice p.a p.l.length p.c = _; rw [HL0.out.1]) ?_
          refine hK.out _ _ hHeld (fun hHeld => ?_)
          clear hK K
          refine oneH (i := 5) rfl (by kernel_rfl) (fun K hK => ?_)
          refine step_append_lies _ (by rfl) _ _ _ (by rfl) B 27 i0 _ 7 104 Tryd.underlying25 hi0 hz0 hz1 hz2 rfl (by omega) (.slice none 0 0) 0 [] (by rfl) (World.ownsRow_nil _ _ _ _) ⟨g, 7, none⟩ us.length (cap - 1) (cells7 us) (by rfl) (cells7_len _) (HUSN.out wc.drew (fun k hk => rfl)) (cells7_one _) hu1 (by unfold maxLen; omega) (by omega) hBw wc.heap.size rfl ?_
          intro g2 c2 w4 hown2 hgrow2 hat2 hlt2
          have hk2 : ∀ k, k < wc.heap.size → w4.heap[k]? = wc.heap[k]? := fun k hk => hgrow2.block k hk (by simp [Value.ownBlock])
          have hb4 : ∀ q, (Value.slice (some ⟨g2, 0, none⟩) (0 + us.length) c2).ownBlock = some q → wc.heap.size ≤ q := fun q hq => by
            have : g2 = q := Option.some.inj hq
            subst this
            rcases hat2 with e | e
            · simp [Value.ownBlock] at e
            · omega
          have hlow4 : Below wc.heap.size wc w4 := ⟨hgrow2.os, hgrow2.tape, hgrow2.output, hgrow2.size, hk2⟩
          have HN : Hid (SJ B (.slice (some ⟨g2, 0, none⟩) (0 + us.length) c2) u' (p.l ++ us) ss' w4 ∧ Below w.heap.size w w4 ∧ mass1 (p.l ++ us) ≤ 1000 ∧ B ≤ w4.heap.size ∧ ss'.map St.m ++ toGo (p.l ++ us) = sitesM x.tm) := HFIN.out (.slice (some ⟨g2, 0, none⟩) (0 + us.length) c2) w4 (by rw [HL0.out.2, List.nil_append]; simpa using hown2) hb4 hlow4
          refine hK.out _ _ (HSB.out _ hk2) (fun hHeld => ?_)
          clear hK K hown2 hgrow2 hat2 hlt2 hk2 hb4 hlow4
          refine takeH (i := 6) (v := ?_) rfl (by kernel_rfl) (by kernel_rfl) (by kernel_rfl) (fun _ _ _ h => h) (Or.inl ⟨by rfl, ?_⟩) hHeld ?_; rotate_left; (focus (intro w' hSw; (try dsimp only at hSw); go_split_ands; first | (go_simp; done) | (go_simp; with_reducible rfl))); simp only [Act.put, List.setIfInBounds_toArray, List.set_cons_zero, List.set_cons_succ]
          refine wpAnyH_done (by kernel_rfl) ?_ _
          go_wp2_with fail
          (try simp only [Nat.zero_add] at HN)
          go_roundg (mass1 (p.l ++ us))
          case measure => exact hmm
          case rel => exact ⟨_, _, p.l ++ us, ss', rfl, rfl, rfl, HN⟩
      · have hl1 : 0 < p.l.length := by omega
        by_cases hu0 : us.length = 0
        · have HU0 : Hid (us.length = 0) := hu0
          obtain ⟨SA, hSA⟩ : ∃ A : Option Addr, (if cap = 1 then some ⟨g, 0, none⟩ else some ⟨g, 7, none⟩) = A := ⟨_, rfl⟩
          clear hu0 hl0
          obtain ⟨xb, xo, xa, _, _⟩ := hpi.part 0 (by omega)
          have HNW : Hid (∀ j u, (cells7 p.l)[j]? = some u → wc.drew.cell? ((⟨xb, xo, none⟩ : Addr).add j) = some u) := parts_cells (hpi.below ((Below.refl _ _).drew)) xa
          have HXA : Hid (p.a = some ⟨xb, xo, none⟩) := xa
          clear xa
          go_upto_region 7 with fail
          refine wp_region_held_drew (S := fun W => W.cell? ⟨NB, 6, none⟩ = some (.slice p.a p.l.length p.c)) (by kernel_rfl) (HS.out _ ((Below.refl _ _).drew)) (fun hHeld => ?_)
          refine takeH (i := 0) (v := ?_) rfl (by kernel_rfl) (by kernel_rfl) (by kernel_rfl) (fun _ _ _ h => h) (Or.inl ⟨by rfl, ?_⟩) hHeld ?_; rotate_left; (focus (intro w' hSw; (try dsimp only at hSw); go_split_ands; first | (go_simp; done) | (go_simp; with_reducible rfl))); simp only [Act.put, List.setIfInBounds_toArray, List.set_cons_zero, List.set_cons_succ]
          refine takeH (i := 1) (v := ?_) rfl (by kernel_rfl) (by kernel_rfl) (by kernel_rfl) (fun _ _ _ h => h) (Or.inl ⟨by rfl, ?_⟩) hHeld ?_; rotate_left; (focus (intro w' hSw; (try dsimp only at hSw); go_split_ands; first | (go_simp; done) | (go_simp; with_reducible rfl))); simp only [Act.put, List.setIfInBounds_toArray, List.set_cons_zero, List.set_cons_succ]
          refine takeH (i := 3) (v := ?_) rfl (by kernel_rfl) (by kernel_rfl) (by kernel_rfl) (fun _ _ _ h => h) (Or.inl ⟨by rfl, ?_⟩) hHeld ?_; rotate_left; (focus (intro w' hSw; (try dsimp only at hSw); go_split_ands; first | (go_simp; done) | (go_simp; with_reducible rfl))); simp only [Act.put, List.setIfInBounds_toArray, List.set_cons_zero, List.set_cons_succ]
          refine takeH (i := 4) (v := ?_) rfl (by kernel_rfl) (by kernel_rfl) (by kernel_rfl) (fun _ _ _ h => h) (Or.inl ⟨by rfl, ?_⟩) hHeld ?_; rotate_left; (focus (intro w' hSw; (try dsimp only at hSw); go_split_ands; first | (go_simp; done) | (go_simp; with_reducible rfl))); simp only [Act.put, List.setIfInBounds_toArray, List.set_cons_zero, List.set_cons_succ]
          refine oneH (i := 2) rfl (by kernel_rfl) (fun K hK => ?_)
          refine step_append_lies _ (by rfl) _ _ _ (by rfl) B 27 i0 _ 7 104 Tryd.underlying25 hi0 hz0 hz1 hz2 rfl (by omega) (.slice none 0 0) 0 [] (by rfl) (World.ownsRow_nil _ _ _ _) ⟨xb, xo, none⟩ p.l.length p.c (cells7 p.l) (by show Value.slice p.a p.l.length p.c = _; rw [HXA.out]) (cells7_len _) HNW.out (cells7_one _) hl1 (by unfold maxLen; omega) (by omega) hBw wc.heap.size rfl ?_
          intro g1 c1 w3 hown1 hgrow1 hat1 hlt1
          have hk1 : ∀ k, k < wc.heap.size → w3.heap[k]? = wc.heap[k]? := fun k hk => hgrow1.block k hk (by simp [Value.ownBlock])
          have hs3 : wc.heap.size ≤ w3.heap.size := hgrow1.size
          have hg1 : wc.heap.size ≤ g1 := by
            rcases hat1 with e | e
            · simp [Value.ownBlock] at e
            · omega
          refine hK.out _ _ (HSB.out _ hk1) (fun hHeld => ?_)
          clear hK K
          refine oneH (i := 5) rfl (by kernel_rfl) (fun K hK => ?_)
          have hcc1 : 0 + p.l.length ≤ c1 := by
            rcases hown1.2 with ⟨h, _⟩ | ⟨g', cap', cur, h, _, _, h1, _⟩
            · cases h
            · cases h; exact h1
          refine step_append_void (by rfl) _ _ _ (by rfl) 27 i0 Tryd.underlying25 hi0 g1 (0 + p.l.length) c1 (by rfl) SA (cap - 1) (by show Value.slice SA us.length (cap - 1) = _; rw [HU0.out]) hcc1 ?_
          have hb4 : ∀ q, (Value.slice (some ⟨g1, 0, none⟩) (0 + p.l.length) c1).ownBlock = some q → wc.heap.size ≤ q := fun q hq => by
            have : g1 = q := Option.some.inj hq
            omega
          have hlow4 : Below wc.heap.size wc w3 := ⟨hgrow1.os, hgrow1.tape, hgrow1.output, hs3, hk1⟩
          have HN : Hid (SJ B (.slice (some ⟨g1, 0, none⟩) (0 + p.l.length) c1) u' (p.l ++ us) ss' w3 ∧ Below w.heap.size w w3 ∧ mass1 (p.l ++ us) ≤ 1000 ∧ B ≤ w3.heap.size ∧ ss'.map St.m ++ toGo (p.l ++ us) = sitesM x.tm) := HFIN.out (.slice (some ⟨g1, 0, none⟩) (0 + p.l.length) c1) w3 (by rw [List.length_append, HU0.out, List.length_eq_zero_iff.1 HU0.out, List.append_nil]; simpa using hown1) hb4 hlow4
          refine hK.out _ _ hHeld (fun hHeld => ?_)
          clear hK K hown1 hgrow1 hat1 hlt1 hk1 hb4 hlow4 hs3 hg1 HNW
          refine takeH (i := 6) (v := ?_) rfl (by kernel_rfl) (by kernel_rfl) (by kernel_rfl) (fun _ _ _ h => h) (Or.inl ⟨by rfl, ?_⟩) hHeld ?_; rotate_left; (focus (intro w' hSw; (try dsimp only at hSw); go_split_ands; first | (go_simp; done) | (go_simp; with_reducible rfl))); simp only [Act.put, List.setIfInBounds_toArray, List.set_cons_zero, List.set_cons_succ]
          refine wpAnyH_done (by kernel_rfl) ?_ _
          go_wp2_with fail
          (try simp only [Nat.zero_add] at HN)
          go_roundg (mass1 (p.l ++ us))
          case measure => exact hmm
          case rel => exact ⟨_, _, p.l ++ us, ss', rfl, rfl, rfl, HN⟩
        · have hu1 : 0 < us.length := by omega
          have hcap1 : ¬ cap = 1 := by omega
          clear hu0 hl0
          obtain ⟨xb, xo, xa, _, _⟩ := hpi.part 0 (by omega)
          have HNW : Hid (∀ j u, (cells7 p.l)[j]? = some u → wc.drew.cell? ((⟨xb, xo, none⟩ : Addr).add j) = some u) := parts_cells (hpi.below ((Below.refl _ _).drew)) xa
          have HXA : Hid (p.a = some ⟨xb, xo, none⟩) := xa
          clear xa
          go_upto_region 7 with fail
          refine wp_region_held_drew (S := fun W => W.cell? ⟨NB, 6, none⟩ = some (.slice p.a p.l.length p.c)) (by kernel_rfl) (HS.out _ ((Below.refl _ _).drew)) (fun hHeld => ?_)
          refine takeH (i := 0) (v := ?_) rfl (by kernel_rfl) (by kernel_rfl) (by kernel_rfl) (fun _ _ _ h => h) (Or.inl ⟨by rfl, ?_⟩) hHeld ?_; rotate_left; (focus (intro w' hSw; (try dsimp only at hSw); go_split_ands; first | (go_simp; done) | (go_simp; with_reducible rfl))); simp only [Act.put, List.setIfInBounds_toArray, List.set_cons_zero, List.set_cons_succ]
          refine takeH (i := 1) (v := ?_) rfl (by kernel_rfl) (by kernel_rfl) (by kernel_rfl) (fun _ _ _ h => h) (Or.inl ⟨by rfl, ?_⟩) hHeld ?_; rotate_left; (focus (intro w' hSw; (try dsimp only at hSw); go_split_ands; first | (go_simp; done) | (go_simp; with_reducible rfl))); simp only [Act.put, List.setIfInBounds_toArray, List.set_cons_zero, List.set_cons_succ]
          refine takeH (i := 3) (v := ?_) rfl (by kernel_rfl) (by kernel_rfl) (by kernel_rfl) (fun _ _ _ h => h) (Or.inl ⟨by rfl, ?_⟩) hHeld ?_; rotate_left; (focus (intro w' hSw; (try dsimp only at hSw); go_split_ands; first | (go_simp; done) | (go_simp; with_reducible rfl))); simp only [Act.put, List.setIfInBounds_toArray, List.set_cons_zero, List.set_cons_succ]
          refine takeH (i := 4) (v := ?_) rfl (by kernel_rfl) (by kernel_rfl) (by kernel_rfl) (fun _ _ _ h => h) (Or.inl ⟨by rfl, ?_⟩) hHeld ?_; rotate_left; (focus (intro w' hSw; (try dsimp only at hSw); go_split_ands; first | (go_simp; done) | (go_simp; with_reducible rfl))); simp only [Act.put, List.setIfInBounds_toArray, List.set_cons_zero, List.set_cons_succ]
          refine oneH (i := 2) rfl (by kernel_rfl) (fun K hK => ?_)
          refine step_append_lies _ (by rfl) _ _ _ (by rfl) B 27 i0 _ 7 104 Tryd.underlying25 hi0 hz0 hz1 hz2 rfl (by omega) (.slice none 0 0) 0 [] (by rfl) (World.ownsRow_nil _ _ _ _) ⟨xb, xo, none⟩ p.l.length p.c (cells7 p.l) (by show Value.slice p.a p.l.length p.c = _; rw [HXA.out]) (cells7_len _) HNW.out (cells7_one _) hl1 (by unfold maxLen; omega) (by omega) hBw wc.heap.size rfl ?_
          intro g1 c1 w3 hown1 hgrow1 hat1 hlt1
          have hk1 : ∀ k, k < wc.heap.size → w3.heap[k]? = wc.heap[k]? := fun k hk => hgrow1.block k hk (by simp [Value.ownBlock])
          have hs3 : wc.heap.size ≤ w3.heap.size := hgrow1.size
          have hg1 : wc.heap.size ≤ g1 := by
            rcases hat1 with e | e
            · simp [Value.ownBlock] at e
            · omega
          refine hK.out _ _ (HSB.out _ hk1) (fun hHeld => ?_)
          clear hK K
          refine oneH (i := 5) rfl (by kernel_rfl) (fun K hK => ?_)
          refine step_append_lies _ (by rfl) _ _ _ (by rfl) B 27 i0 _ 7 104 Tryd.underlying25 hi0 hz0 hz1 hz2 rfl (by omega) (.slice (some ⟨g1, 0, none⟩) (0 + p.l.length) c1) (0 + p.l.length) ([] ++ cells7 p.l) (by rfl) hown1 ⟨g, 7, none⟩ us.length (cap - 1) (cells7 us) (by rfl) (cells7_len _) (HUSN.out w3 hk1) (cells7_one _) hu1 (by unfold maxLen; omega) (by omega) (by omega) w3.heap.size rfl ?_
          intro g2 c2 w4 hown2 hgrow2 hat2 hlt2
          have hk2 : ∀ k, k < wc.heap.size → w4.heap[k]? = wc.heap[k]? := fun k hk => (hgrow2.block k (by omega) (by simp [Value.ownBlock]; omega)).trans (hk1 k hk)
          have hb4 : ∀ q, (Value.slice (some ⟨g2, 0, none⟩) (0 + p.l.length + us.length) c2).ownBlock = some q → wc.heap.size ≤ q := fun q hq => by
            have : g2 = q := Option.some.inj hq
            subst this
            rcases hat2 with e | e
            · have : g1 = g2 := Option.some.inj e
              omega
            · omega
          have hlow4 : Below wc.heap.size wc w4 := ⟨hgrow2.os.trans hgrow1.os, hgrow2.tape.trans hgrow1.tape, hgrow2.output.trans hgrow1.output, by have := hgrow2.size; omega, hk2⟩
          have HN : Hid (SJ B (.slice (some ⟨g2, 0, none⟩) (0 + p.l.length + us.length) c2) u' (p.l ++ us) ss' w4 ∧ Below w.heap.size w w4 ∧ mass1 (p.l ++ us) ≤ 1000 ∧ B ≤ w4.heap.size ∧ ss'.map St.m ++ toGo (p.l ++ us) = sitesM x.tm) := HFIN.out (.slice (some ⟨g2, 0, none⟩) (0 + p.l.length + us.length) c2) w4 (by simpa [cells7_append, Nat.add_comm] using hown2) hb4 hlow4
          refine hK.out _ _ (HSB.out _ hk2) (fun hHeld => ?_)
          clear hK K hown1 hgrow1 hat1 hlt1 hown2 hgrow2 hat2 hlt2 hk1 hk2 hb4 hlow4 hs3 hg1 HNW
          refine takeH (i := 6) (v := ?_) rfl (by kernel_rfl) (by kernel_rfl) (by kernel_rfl) (fun _ _ _ h => h) (Or.inl ⟨by rfl, ?_⟩) hHeld ?_; rotate_left; (focus (intro w' hSw; (try dsimp only at hSw); go_split_ands; first | (go_simp; done) | (go_simp; with_reducible rfl))); simp only [Act.put, List.setIfInBounds_toArray, List.set_cons_zero, List.set_cons_succ]
          refine wpAnyH_done (by kernel_rfl) ?_ _
          go_wp2_with fail
          (try simp only [Nat.zero_add] at HN)
          go_roundg (mass1 (p.l ++ us))
          case measure => exact hmm
          case rel => exact ⟨_, _, p.l ++ us, ss', rfl, rfl, rfl, HN⟩
end Go.Proofs.YtnddkmccagiclaaDoor
