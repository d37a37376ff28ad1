/-
  What the call of chaperonekeep.TermBack answers: true, at any term and any text.
-/
import Derived.Test.YtibjnkpmnimgoaaDoorTerms
namespace Go.Proofs.YtibjnkpmnimgoaaDoor
open Go.RowKit

/-- Print and then Parse of what was printed: the second is read as the first. -/
theorem back_text {x : Tm} {s : ByteArray} {er : Int} (h : (goodM 0 x = false ∧ s = bw [] ∧ er = 1) ∨ (goodM 0 x = true ∧ 1000 < (tmText 40 x).length ∧ s = bw [] ∧ er = 4) ∨ (goodM 0 x = true ∧ (tmText 40 x).length ≤ 1000 ∧ s = bw (tmText 40 x) ∧ er = 0)) :
    s.size ≤ 1000 ∧ ((er = 0 ∧ goodM 0 x = true ∧ parseS s.data.toList = some x) ∨ (er == 0) = false) := by
  rcases h with ⟨_, rfl, rfl⟩ | ⟨_, _, rfl, rfl⟩ | ⟨hg, hl, rfl, rfl⟩
  · exact ⟨by rw [bw_size]; simp, .inr rfl⟩
  · exact ⟨by rw [bw_size]; simp, .inr rfl⟩
  · exact ⟨by rw [bw_size]; exact hl, .inl ⟨rfl, hg, by rw [bw_data]; exact parse_text x hg⟩⟩

/-- What Parse leaves, the error as a letter. -/
def PsL (s : ByteArray) (w : World) (e : Ending) (w' : World) : Prop :=
  ∃ (u : TT) (f : Int), e = .returned (.tuple #[.agg #[.int .i64 u.k, .int .i64 u.n, .int .i64 u.t.k, .slice u.t.a u.t.l.length u.t.c, .int .i64 u.f.k, .slice u.f.a u.f.l.length u.f.c, .slice u.a u.l.length u.c], .int .i64 f]) ∧ u.In w' ∧ u.nb ∧ Below w.heap.size w w' ∧ ((f = 0 ∧ parseS s.data.toList = some u.tm) ∨ ((f == 0) = false ∧ (s.size ≤ 1000 → parseS s.data.toList = none)))

theorem parse_letters (s : ByteArray) (hm : s.size ≤ 9223372036854775807) (w : World) (hg : Gl w) : Calls Tryd.prog 9 #[.string s] w (PsL s w) := by
  refine (parse_any s hm w hg).mono ?_
  rintro e w' ⟨u, f, rfl, hi, hn, hb, ⟨h, rfl, _⟩ | ⟨_, h, rfl, _⟩ | ⟨_, h, rfl⟩⟩
  · exact ⟨u, 4, rfl, hi, hn, hb, .inr ⟨rfl, fun h' => by omega⟩⟩
  · exact ⟨u, 1, rfl, hi, hn, hb, .inr ⟨rfl, fun _ => h⟩⟩
  · exact ⟨u, 0, rfl, hi, hn, hb, .inl ⟨rfl, h⟩⟩

theorem parseS_good {s : List UInt8} {x : Tm} (h : parseS s = some x) : goodM 0 x = true := by
  unfold parseS at h
  split at h
  · split at h
    · cases h; assumption
    · cases h
  · cases h

set_option maxRecDepth 20000 in
set_option maxHeartbeats 8000000 in
/-- chaperonekeep.TermBack. -/
theorem back_any (x : TT) (s : ByteArray) (hm : s.size ≤ 9223372036854775807) (w : World) (hg : Gl w) (hx : x.In w) (hnb : x.nb) :
    Calls Tryd.prog 3 #[.agg #[.int .i64 x.k, .int .i64 x.n, .int .i64 x.t.k, .slice x.t.a x.t.l.length x.t.c, .int .i64 x.f.k, .slice x.f.a x.f.l.length x.f.c, .slice x.a x.l.length x.c], .string s] w fun e w' => e = .returned (.bool true) ∧ Below w.heap.size w w' := by
  have hb0 : ∀ o, Below w.heap.size w (w.alloc o) := fun o => (Below.refl _ _).alloc (Nat.le_refl _) _
  have HPR : Hid (∀ o, Calls Tryd.prog 8 #[.agg #[.int .i64 x.k, .int .i64 x.n, .int .i64 x.t.k, .slice x.t.a x.t.l.length x.t.c, .int .i64 x.f.k, .slice x.f.a x.f.l.length x.f.c, .slice x.a x.l.length x.c]] (w.alloc o) (PrPost x.tm (w.alloc o))) := fun o => print_any x _ (hg.below (hb0 o)) (hx.below (hb0 o)) hnb
  have HX : Hid (x.In w ∧ Gl w) := ⟨hx, hg⟩
  have HB0 : Hid (∀ o, Below w.heap.size w (w.alloc o)) := hb0
  have HM : Hid (s.size ≤ 9223372036854775807) := hm
  clear hx hg hnb hb0 hm
  go_enter Tryd.func3, Tryd.ntmps3
  go_wp2_with fail
  refine (HPR.out _).mono ?_
  rintro e w1 ⟨xs, er, rfl, hb1, hpr⟩
  have hbk := back_text hpr
  have hbw1 : Below w.heap.size w w1 := (HB0.out _).trans (hb1.mono (by simp))
  have b7 : At7 w1 w.heap.size 0 x := At7.below hb1 (by constructor <;> simp [go_sem])
  have HP1 : Hid (Calls Tryd.prog 9 #[.string xs] w1 (PsL xs w1)) := parse_letters xs (by have := hbk.1; omega) w1 (HX.out.2.below hbw1)
  have HBK : Hid ((er = 0 ∧ goodM 0 x.tm = true ∧ parseS xs.data.toList = some x.tm) ∨ (er == 0) = false) := hbk.2
  have HXS : Hid (xs.size ≤ 1000) := hbk.1
  have H1 : Hid (Below w.heap.size w w1 ∧ At7 w1 w.heap.size 0 x) := ⟨hbw1, b7⟩
  clear hb1 hpr hbk hbw1 b7 HPR
  go_wp2_with fail
  refine HP1.out.mono ?_
  rintro e w2 ⟨u, f, rfl, hiu, hnu, hb2, hps⟩
  have hbw2 : Below w.heap.size w w2 := H1.out.1.trans (hb2.mono H1.out.1.size)
  have hlw : w.heap.size < w2.heap.size := by have := H1.out.2.lt; have := hb2.size; omega
  have H2 : Hid (∀ o, Below w.heap.size w (w2.alloc o) ∧ At7 (w2.alloc o) w.heap.size 0 x ∧ u.In (w2.alloc o)) := fun o => by
    have hbo : Below w2.heap.size w2 (w2.alloc o) := (Below.refl _ _).alloc (Nat.le_refl _) _
    exact ⟨hbw2.trans (hbo.mono hbw2.size), At7.below hbo (At7.below hb2 H1.out.2), hiu.below hbo⟩
  have HPS : Hid ((f = 0 ∧ parseS xs.data.toList = some u.tm) ∨ ((f == 0) = false ∧ (xs.size ≤ 1000 → parseS xs.data.toList = none))) := hps
  clear hb2 hps hnu hiu hbw2 HP1
  -- region 3, in two ways
  have hcase : (er = 0 ∧ f = 0 ∧ goodM 0 x.tm = true ∧ x.tm = u.tm) ∨ (er == 0) = false := by
    rcases HBK.out with ⟨h1, h2, h3⟩ | h
    · left
      rcases HPS.out with ⟨h4, h5⟩ | ⟨_, h5⟩
      · rw [h3] at h5; exact ⟨h1, h4, h2, Option.some.inj h5⟩
      · rw [h3] at h5; exact absurd (h5 HXS.out) (by simp)
    · exact .inr h
  have HPS2 : Hid (∀ W, Gl W → Calls Tryd.prog 9 #[.string s] W (PsL s W)) := fun W hW => parse_letters s HM.out W hW
  clear HBK HPS HXS H1
  rcases hcase with ⟨rfl, rfl, hgd, htm⟩ | he0
  focus
    obtain ⟨htok, hsz⟩ := goodM_tok hgd
    have HSM : Hid (∀ W, x.In W → u.In W → Calls Tryd.prog 10 #[.agg #[.int .i64 x.k, .int .i64 x.n, .int .i64 x.t.k, .slice x.t.a x.t.l.length x.t.c, .int .i64 x.f.k, .slice x.f.a x.f.l.length x.f.c, .slice x.a x.l.length x.c], .agg #[.int .i64 u.k, .int .i64 u.n, .int .i64 u.t.k, .slice u.t.a u.t.l.length u.t.c, .int .i64 u.f.k, .slice u.f.a u.f.l.length u.f.c, .slice u.a u.l.length u.c]] W fun e w' => e = .returned (.bool true) ∧ Below W.heap.size W w') := fun W h1 h2 => sameTm_yes x u W h1 h2 htm htok (by omega)
    obtain ⟨O, hO⟩ : ∃ O, O = Obj.cells #[.int .i64 u.k, .int .i64 u.n, .int .i64 u.t.k, .slice u.t.a u.t.l.length u.t.c, .int .i64 u.f.k, .slice u.f.a u.f.l.length u.f.c, .slice u.a u.l.length u.c] 27 := ⟨_, rfl⟩
    have b7 := (H2.out O).2.1
    have b0 := b7.c0
    have b1 := b7.c1
    have b2 := b7.c2
    have b3 := b7.c3
    have b4 := b7.c4
    have b5 := b7.c5
    have b6 := b7.c6
    simp only [Nat.zero_add] at b0 b1 b2 b3 b4 b5 b6
    have HS2 : Hid (Calls Tryd.prog 10 #[.agg #[.int .i64 x.k, .int .i64 x.n, .int .i64 x.t.k, .slice x.t.a x.t.l.length x.t.c, .int .i64 x.f.k, .slice x.f.a x.f.l.length x.f.c, .slice x.a x.l.length x.c], .agg #[.int .i64 u.k, .int .i64 u.n, .int .i64 u.t.k, .slice u.t.a u.t.l.length u.t.c, .int .i64 u.f.k, .slice u.f.a u.f.l.length u.f.c, .slice u.a u.l.length u.c]] (w2.alloc O) fun e w' => e = .returned (.bool true) ∧ Below (w2.alloc O).heap.size (w2.alloc O) w') := HSM.out _ (HX.out.1.below (H2.out O).1) (H2.out O).2.2
    have HW2 : Hid (Below w.heap.size w (w2.alloc O)) := (H2.out O).1
    subst hO
    clear hgd htm htok hsz b7 H2 HSM
    go_wp2_with fail
    refine HS2.out.mono ?_
    rintro e w3 ⟨rfl, hb3⟩
    have HB3 : Hid (Below w.heap.size w w3 ∧ Gl w3) := ⟨HW2.out.trans (hb3.mono HW2.out.size), HX.out.2.below (HW2.out.trans (hb3.mono HW2.out.size))⟩
    clear hb3 HS2 HW2 b0 b1 b2 b3 b4 b5 b6
    go_wp2_with fail
  rotate_left
  focus
    obtain ⟨O, hO⟩ : ∃ O, O = Obj.cells #[.int .i64 u.k, .int .i64 u.n, .int .i64 u.t.k, .slice u.t.a u.t.l.length u.t.c, .int .i64 u.f.k, .slice u.f.a u.f.l.length u.f.c, .slice u.a u.l.length u.c] 27 := ⟨_, rfl⟩
    obtain ⟨w3, hw3⟩ : ∃ W, W = w2.alloc O := ⟨_, rfl⟩
    have HB3 : Hid (Below w.heap.size w w3 ∧ Gl w3) := by rw [hw3]; exact ⟨(H2.out O).1, HX.out.2.below (H2.out O).1⟩
    subst hO
    clear H2
    go_wp2_with fail
    rw [← hw3]
    clear hw3
  all_goals
    refine (HPS2.out _ HB3.out.2).mono ?_
    rintro e w4 ⟨u2, f2, rfl, hi4, hn4, hb4, hp4⟩
    have hbw4 : Below w.heap.size w w4 := HB3.out.1.trans (hb4.mono HB3.out.1.size)
    have hbo : ∀ o, Below w4.heap.size w4 (w4.alloc o) := fun o => (Below.refl _ _).alloc (Nat.le_refl _) _
    have HPR2 : Hid (∀ o, Calls Tryd.prog 8 #[.agg #[.int .i64 u2.k, .int .i64 u2.n, .int .i64 u2.t.k, .slice u2.t.a u2.t.l.length u2.t.c, .int .i64 u2.f.k, .slice u2.f.a u2.f.l.length u2.f.c, .slice u2.a u2.l.length u2.c]] (w4.alloc o) (PrPost u2.tm (w4.alloc o))) := fun o => print_any u2 _ ((HX.out.2.below hbw4).below (hbo o)) (hi4.below (hbo o)) hn4
    have H4 : Hid (Below w.heap.size w w4 ∧ u2.In w4) := ⟨hbw4, hi4⟩
    have HP4 : Hid ((f2 = 0 ∧ parseS s.data.toList = some u2.tm) ∨ (f2 == 0) = false) := by
      rcases hp4 with h | h
      · exact .inl h
      · exact .inr h.1
    clear hbw4 hbo hi4 hn4 hb4 hp4 HPS2 HB3
    go_wp2_with fail
    refine (HPR2.out _).mono ?_
    rintro e w5 ⟨y, g, rfl, hb5, hpr5⟩
    have hbk := back_text hpr5
    have d7 : At7 w5 w4.heap.size 0 u2 := At7.below hb5 (by constructor <;> simp [go_sem])
    have hb45 : Below w4.heap.size w4 w5 := ((Below.refl _ _).alloc (Nat.le_refl _) _).trans (hb5.mono (by simp))
    have hbw5 : Below w.heap.size w w5 := H4.out.1.trans (hb45.mono H4.out.1.size)
    have HBK : Hid ((g = 0 ∧ goodM 0 u2.tm = true ∧ parseS y.data.toList = some u2.tm) ∨ (g == 0) = false) := hbk.2
    have HY : Hid (y.size ≤ 1000) := hbk.1
    have H5 : Hid (Below w.heap.size w w5 ∧ At7 w5 w4.heap.size 0 u2 ∧ u2.In w5) := ⟨hbw5, d7, H4.out.2.below hb45⟩
    have HTM : Hid (Calls Tryd.prog 11 #[] w5 fun e w' => e = .returned (.bool true) ∧ Below w5.heap.size w5 w') := terms_any w5 (HX.out.2.below hbw5)
    clear hb5 hpr5 hbk d7 hb45 hbw5 HPR2 H4
    rcases HP4.out with ⟨rfl, hps2⟩ | hf2
    · rcases HBK.out with ⟨rfl, hgd, hpy⟩ | hg0
      · obtain ⟨htok, hsz⟩ := goodM_tok hgd
        have HP6 : Hid (Calls Tryd.prog 9 #[.string y] w5 (PsL y w5)) := parse_letters y (by have := HY.out; omega) w5 (HX.out.2.below H5.out.1)
        have HPY : Hid (parseS y.data.toList = some u2.tm ∧ u2.tok ∧ u2.sz ≤ 40) := ⟨hpy, htok, hsz⟩
        clear hgd hpy hps2 htok hsz HBK HP4 HTM
        go_wp2_with fail
        refine HP6.out.mono ?_
        rintro e w6 ⟨v, h, rfl, hi6, hn6, hb6, hp6⟩
        obtain ⟨rfl, hvt⟩ : h = 0 ∧ u2.tm = v.tm := by
          rcases hp6 with ⟨h1, h2⟩ | ⟨_, h2⟩
          · rw [HPY.out.1] at h2; exact ⟨h1, Option.some.inj h2⟩
          · rw [HPY.out.1] at h2; exact absurd (h2 HY.out) (by simp)
        have hbo : ∀ o, Below w6.heap.size w6 (w6.alloc o) := fun o => (Below.refl _ _).alloc (Nat.le_refl _) _
        have hbw6 : Below w.heap.size w w6 := H5.out.1.trans (hb6.mono H5.out.1.size)
        have HSM : Hid (∀ o, Calls Tryd.prog 10 #[.agg #[.int .i64 u2.k, .int .i64 u2.n, .int .i64 u2.t.k, .slice u2.t.a u2.t.l.length u2.t.c, .int .i64 u2.f.k, .slice u2.f.a u2.f.l.length u2.f.c, .slice u2.a u2.l.length u2.c], .agg #[.int .i64 v.k, .int .i64 v.n, .int .i64 v.t.k, .slice v.t.a v.t.l.length v.t.c, .int .i64 v.f.k, .slice v.f.a v.f.l.length v.f.c, .slice v.a v.l.length v.c]] (w6.alloc o) fun e w' => e = .returned (.bool true) ∧ Below (w6.alloc o).heap.size (w6.alloc o) w') := fun o => sameTm_yes u2 v _ ((H5.out.2.2.below hb6).below (hbo o)) (hi6.below (hbo o)) hvt HPY.out.2.1 (by have := HPY.out.2.2; omega)
        have d7 := At7.below hb6 H5.out.2.1
        have hlt6 : w4.heap.size < w6.heap.size := d7.lt
        have d0 := d7.c0
        have d1 := d7.c1
        have d2 := d7.c2
        have d3 := d7.c3
        have d4 := d7.c4
        have d5 := d7.c5
        have d6 := d7.c6
        simp only [Nat.zero_add] at d0 d1 d2 d3 d4 d5 d6
        have H6 : Hid (∀ o, Below w.heap.size w (w6.alloc o)) := fun o => hbw6.trans ((hbo o).mono hbw6.size)
        clear hi6 hn6 hb6 hp6 hvt hbo hbw6 d7 HP6 HPY H5
        go_wp2_with fail
        refine (HSM.out _).mono ?_
        rintro e w7 ⟨rfl, hb7⟩
        have hbw7 : Below w.heap.size w w7 := (H6.out _).trans (hb7.mono (H6.out _).size)
        have HT7 : Hid (Calls Tryd.prog 11 #[] w7 fun e w' => e = .returned (.bool true) ∧ Below w7.heap.size w7 w') := terms_any w7 (HX.out.2.below hbw7)
        have H7 : Hid (Below w.heap.size w w7) := hbw7
        clear hb7 hbw7 HSM H6 d0 d1 d2 d3 d4 d5 d6
        go_wp2_with fail
        refine HT7.out.mono ?_
        rintro e w8 ⟨rfl, hb8⟩
        have H8 : Hid (Below w.heap.size w w8) := H7.out.trans (hb8.mono H7.out.size)
        clear hb8 HT7 H7
        go_wp2_with fail
        go_ret
        exact ⟨rfl, H8.out⟩
      · have hg1 : (g != 0) = true := by rw [bne, hg0]; rfl
        clear hps2 HBK HP4
        go_wp2_with fail
        refine HTM.out.mono ?_
        rintro e w8 ⟨rfl, hb8⟩
        have H8 : Hid (Below w.heap.size w w8) := H5.out.1.trans (hb8.mono H5.out.1.size)
        clear hb8 HTM H5
        go_wp2_with fail
        go_ret
        exact ⟨rfl, H8.out⟩
    · have hf3 : (f2 != 0) = true := by rw [bne, hf2]; rfl
      clear HBK HP4
      go_wp2_with fail
      refine HTM.out.mono ?_
      rintro e w8 ⟨rfl, hb8⟩
      have H8 : Hid (Below w.heap.size w w8) := H5.out.1.trans (hb8.mono H5.out.1.size)
      clear hb8 HTM H5
      go_wp2_with fail
      go_ret
      exact ⟨rfl, H8.out⟩
end Go.Proofs.YtibjnkpmnimgoaaDoor
