/-
  What the call of ref's tree.term answers, at a tree with brackets.
-/
import Derived.Test.YtnddkmccagiclaaGreatDoorLotfb68e5fec9
import Derived.Test.YtnddkmccagiclaaGreatDoorLot7757a90fd4
namespace Go.Proofs.YtnddkmccagiclaaGreatDoor
open Go.RowKit

/-- The row without its first tree. -/
theorem Nd.In.tail {W : World} {wd : ByteArray} {a : Option Addr} {c : Nat} {y : Nd} {r : List Nd} {o : Bool} (h : (Nd.mk wd a c (y :: r) o).In W) : ∃ A1 C1, (∀ V, (Instr.slice 62 (.slice a (r.length + 1) c) (some (.int .i64 1)) none none).run Tryz.prog V = .ok (.slice A1 r.length C1) V) ∧ (Nd.mk ⟨#[]⟩ A1 C1 r false).In W := by
  obtain ⟨hn, hc, hi⟩ := Nd.In_mk.1 h
  simp only [List.length_cons] at hn
  refine ⟨if c = 1 then a else a.map (·.add 3), c - 1, fun V => ?_, Nd.In_mk.2 ⟨by omega, fun j hj => ?_, fun t ht => hi t (List.mem_cons_of_mem _ ht)⟩⟩
  · rw [run_slice_l V 62 a (r.length + 1) c (by kernel_rfl) .i64 1 (by omega) (by omega)]
    simp [go_sem]
  · obtain ⟨b, f, ea, c0, c1, c2⟩ := hc (j + 1) (by simpa using hj)
    refine ⟨b, f + 3, ?_, ?_, ?_, ?_⟩
    · rw [if_neg (by omega), ea]
      simp [Addr.add]
    · rw [show f + 3 + j * 3 = f + (j + 1) * 3 by omega]; exact c0
    · rw [show f + 3 + j * 3 + 1 = f + (j + 1) * 3 + 1 by omega]; exact c1
    · rw [show f + 3 + j * 3 + 2 = f + (j + 1) * 3 + 2 by omega]; exact c2

theorem CU.below {S : Nat} {k : Int} {t : Tr} {v : Value} {cs : List TT} {W3 wr w2 : World} (h : CU S k t v cs W3 wr) (hb : Below wr.heap.size wr w2) : CU S k t v cs W3 w2 := by
  obtain ⟨a, c, hv, hbx⟩ := h.box
  exact ⟨h.row.below hb, h.low.trans (hb.mono (Nat.le_of_lt h.lt)), ⟨a, c, hv, hbx.below hb⟩, h.tin.1.below hb, h.tin.2⟩

theorem CU.start {S : Nat} {k : Int} {W3 : World} (h : Box7 W3 S (tleaf k 0)) : CU S k (leaf 0) (.slice none 0 0) [] W3 W3 :=
  ⟨Row.nil _ _, Below.refl _ _, ⟨none, 0, rfl, h⟩, leaf_in 0 _, leaf_bl 0 _⟩

theorem CU.typed {S : Nat} {k : Int} {t : Tr} {W3 w4 : World} (h : Box7 W3 S (tleaf k 0)) (hb : Below W3.heap.size W3 w4) (ht : t.In w4) (hbl : t.Bl (W3.heap.size ≤ ·)) : CU S k t (.slice none 0 0) [] W3 ((w4.setCell ⟨S, 2, none⟩ (.int .i64 t.k)).setCell ⟨S, 3, none⟩ (.slice t.a t.l.length t.c)) := by
  have hlt := h.lt
  have hk := set23_kept (w := w4) (J := S) (u := .int .i64 t.k) (v := .slice t.a t.l.length t.c)
  refine ⟨Row.nil _ _, ((hb.mono (Nat.le_of_lt hlt)).setCell (by simp) _).setCell (by simp) _, ⟨none, 0, rfl, (h.below hb).set23⟩, ht.keptR hk (hbl.mono fun b hb => by omega), hbl.mono fun b hb => ⟨by omega, by simp [Value.ownBlock]⟩⟩

theorem count_flat : ∀ l : List Nd, l.length ≤ (flatL (l.map Nd.tn)).length
  | [] => by simp
  | x :: l => by
    have := count_flat l
    have h1 := flat_pos x.tn
    rw [List.map_cons, flatL_cons, List.length_append, List.length_cons]
    omega

theorem nice_mem {x y : Tn} (h : x.nice) (hy : y ∈ x.l) : y.nice := by
  obtain ⟨w, l, o⟩ := x
  exact (Tn.nice_mk.1 h).2.2 y hy
theorem nice_w {x : Tn} (h : x.nice) (ho : x.o = false) : plainW x.w := by
  obtain ⟨w, l, o⟩ := x
  exact ((Tn.nice_mk.1 h).2.1 ho).2
theorem flat_sub {x : Tn} {z : List UInt8} : ∀ {l : List Tn}, x ∈ l → z ∈ x.flat → z ∈ flatL l
  | y :: l, h, hz => by
    rw [flatL_cons]
    rcases List.mem_cons.1 h with rfl | h
    · exact List.mem_append_left _ hz
    · exact List.mem_append_right _ (flat_sub h hz)
theorem flat_wordOf (t : Tn) (h : t.o = false) : t.flat = [t.w] := by
  obtain ⟨w, l, o⟩ := t
  obtain rfl : o = false := h
  exact flat_word w l

theorem kindWs_cell (W : World) (j : Nat) (h : j < kindWs.length) : (W.alloc (.cells #[.string (bw (kindW 4)), .string (bw (kindW 5)), .string (bw (kindW 6)), .string (bw (kindW 7)), .string (bw (kindW 8)), .string (bw (kindW 9))] 9)).cell? ⟨W.heap.size, j, none⟩ = some (.string kindWs[j]) := by
  have h6 : j < 6 := h
  match j, h6 with
  | 0, _ => simp; rfl
  | 1, _ => simp; rfl
  | 2, _ => simp; rfl
  | 3, _ => simp; rfl
  | 4, _ => simp; rfl
  | 5, _ => simp; rfl

set_option maxRecDepth 20000 in
set_option maxHeartbeats 16000000 in
theorem term_open (n : Nat) (x : Nd) (w : World) (hx : x.In w) (ho : x.o = true) (hta : Ta w) (hln : x.l.length ≤ 3000) (hfl : Hid (∀ y, y ∈ x.l → y.tn.flat.length ≤ n))
    (ih : Hid (∀ (y : Nd) (W : World), y ∈ x.l → y.In W → Ta W → Calls Tryz.prog 31 #[.agg #[.string y.w, .slice y.a y.l.length y.c, .bool y.o]] W (TrPost (termT n y.tn) W))) :
    Calls Tryz.prog 31 #[.agg #[.string x.w, .slice x.a x.l.length x.c, .bool x.o]] w (TrPost (termT (n + 1) x.tn) w) := by
  obtain ⟨i0, hi0, hz0, hz1, hz2⟩ := info_parts Tryz.info27c
  obtain ⟨W1, hW1⟩ : ∃ W, W = (w.alloc (.cells #[.string x.w, .slice x.a x.l.length x.c, .bool x.o] 67)).alloc (.cells #[.int .i64 0, .int .i64 0, .int .i64 0, .slice none 0 0, .int .i64 0, .slice none 0 0, .slice none 0 0] 27) := ⟨_, rfl⟩
  have HK : Hid (TB x w W1) := by rw [hW1]; exact TB.start x w
  have p1 := HK.out.b1
  have p2 := HK.out.b2
  rw [ho] at p2
  rcases (show x.l = [] ∨ ∃ y r, x.l = y :: r by cases x.l with
    | nil => exact .inl rfl
    | cons y r => exact .inr ⟨y, r, rfl⟩) with hl | ⟨y, r, hl⟩
  · have HT : Hid (termT (n + 1) x.tn = none) := termT_nil n x ho hl
    rw [hl, List.length_nil] at p1
    clear hx hta hln hfl ih ho hl
    go_enter Tryz.func31, Tryz.ntmps31
    go_upto_region 1 with fail
    rw [← hW1]
    clear hW1
    have HP : Hid (TrPost (termT (n + 1) x.tn) w (.returned (.tuple #[.agg #[.int .i64 0, .int .i64 0, .int .i64 0, .slice none 0 0, .int .i64 0, .slice none 0 0, .slice none 0 0], .bool false])) (put7 W1 (w.heap.size + 1) (tleaf 0 0))) :=
      tr_leaf HK.out (by rw [HT.out]; rfl) (fun i hi => by rw [HT.out] at hi; cases hi)
    have HKV := HK
    clear HK HT
    have HGT : Hid _ := put7_gets (x := tleaf 0 0) HKV.out.box
    obtain ⟨c0, c1, c2, c3, c4, c5, c6⟩ := HKV.out.box.at7
    simp only [Nat.zero_add, tleaf] at c0 c1 c2 c3 c4 c5 c6
    have f0 := HKV.out.box.fz 0 (by omega)
    have f1 := HKV.out.box.fz 1 (by omega)
    have f2 := HKV.out.box.fz 2 (by omega)
    have f3 := HKV.out.box.fz 3 (by omega)
    have f4 := HKV.out.box.fz 4 (by omega)
    have f5 := HKV.out.box.fz 5 (by omega)
    have f6 := HKV.out.box.fz 6 (by omega)
    clear HKV
    go_wp2_with fail
    refine bodyPost_ret (v := .tuple #[.agg #[.int .i64 0, .int .i64 0, .int .i64 0, .slice none 0 0, .int .i64 0, .slice none 0 0, .slice none 0 0], .bool false]) ?_ rfl HP.out
    obtain ⟨d0, d1, d2, d3, d4, d5, d6⟩ := HGT.out
    simp only [tleaf, List.length_nil] at d0 d1 d2 d3 d4 d5 d6
    simp [results, Tryz.results31, go_sem, d0, d1, d2, d3, d4, d5, d6]

  · obtain ⟨b, f, ea, e0, e1, e2, hy0⟩ := hx.part 0 (by rw [hl]; simp)
    simp only [hl, List.getElem_cons_zero, Nat.zero_mul, Nat.add_zero] at e0 e1 e2 hy0
    have HXL : Hid (∀ z, z ∈ r → z ∈ x.l) := fun z hz => by rw [hl]; exact List.mem_cons_of_mem _ hz
    have HXI : Hid (x.In w ∧ Ta w ∧ r.length ≤ 3000) := ⟨hx, hta, by rw [hl] at hln; simp at hln; omega⟩
    have HTL : Hid (∃ A1 C1, (∀ V, (Instr.slice 62 (.slice (some ⟨b, f, none⟩) (r.length + 1) x.c) (some (.int .i64 1)) none none).run Tryz.prog V = .ok (.slice A1 r.length C1) V) ∧ (Nd.mk ⟨#[]⟩ A1 C1 r false).In w) := by
      obtain ⟨xw, xa, xc, xl, xo⟩ := x
      obtain rfl : xl = y :: r := hl
      obtain rfl : xa = some ⟨b, f, none⟩ := ea
      exact hx.tail
    have a0 := cell_later HK.out.low e0
    have a2 := cell_later HK.out.low e2
    rw [hl, ea, List.length_cons] at p1
    have hr0 : (((r.length : Nat) : Int) + 1 == 0) = false := by
      rw [beq_eq_false_iff_ne]
      omega
    clear e0 e1 e2 hy0
    by_cases hyo : y.o = true
    · have HT : Hid (termT (n + 1) x.tn = none) := termT_two n x y r ho hl hyo
      rw [hyo] at a2
      clear hx hta hln hfl ih ho hl ea HXL HXI HTL hyo
      go_enter Tryz.func31, Tryz.ntmps31
      go_upto_region 1 with fail
      rw [← hW1]
      clear hW1
      have HP : Hid (TrPost (termT (n + 1) x.tn) w (.returned (.tuple #[.agg #[.int .i64 0, .int .i64 0, .int .i64 0, .slice none 0 0, .int .i64 0, .slice none 0 0, .slice none 0 0], .bool false])) (put7 W1 (w.heap.size + 1) (tleaf 0 0))) :=
        tr_leaf HK.out (by rw [HT.out]; rfl) (fun i hi => by rw [HT.out] at hi; cases hi)
      have HKV := HK
      clear HK HT
      have HGT : Hid _ := put7_gets (x := tleaf 0 0) HKV.out.box
      obtain ⟨c0, c1, c2, c3, c4, c5, c6⟩ := HKV.out.box.at7
      simp only [Nat.zero_add, tleaf] at c0 c1 c2 c3 c4 c5 c6
      have f0 := HKV.out.box.fz 0 (by omega)
      have f1 := HKV.out.box.fz 1 (by omega)
      have f2 := HKV.out.box.fz 2 (by omega)
      have f3 := HKV.out.box.fz 3 (by omega)
      have f4 := HKV.out.box.fz 4 (by omega)
      have f5 := HKV.out.box.fz 5 (by omega)
      have f6 := HKV.out.box.fz 6 (by omega)
      clear HKV
      go_wp2_with fail
      refine bodyPost_ret (v := .tuple #[.agg #[.int .i64 0, .int .i64 0, .int .i64 0, .slice none 0 0, .int .i64 0, .slice none 0 0, .slice none 0 0], .bool false]) ?_ rfl HP.out
      obtain ⟨d0, d1, d2, d3, d4, d5, d6⟩ := HGT.out
      simp only [tleaf, List.length_nil] at d0 d1 d2 d3 d4 d5 d6
      simp [results, Tryz.results31, go_sem, d0, d1, d2, d3, d4, d5, d6]

    · have hyf : y.o = false := by simpa using hyo
      rw [hyf] at a2
      have HTC := termT_cons n x y r ho hl hyf
      have HT0 : Hid (termT (n + 1) x.tn = (kindAt y.w).bind fun k => (headT n k (r.map Nd.tn)).bind fun p => if p.2.length = partsOf (k : Int) then (allO (termT n) p.2).map fun l => ⟨(k : Int), 0, p.1, anyY, l⟩ else none) := HTC
      obtain ⟨W2, hW2⟩ : ∃ W, W = W1.alloc (.cells #[.string (bw (kindW 4)), .string (bw (kindW 5)), .string (bw (kindW 6)), .string (bw (kindW 7)), .string (bw (kindW 8)), .string (bw (kindW 9))] 9) := ⟨_, rfl⟩
      have HB12 : Hid (Below W1.heap.size W1 W2) := by rw [hW2]; exact (Below.refl _ _).alloc (Nat.le_refl _) _
      have HK2 : Hid (TB x w W2) := HK.out.below HB12.out
      have HKW : Hid (∀ j (h : j < kindWs.length), W2.cell? ⟨W1.heap.size, j, none⟩ = some (.string kindWs[j])) := fun j h => by rw [hW2]; exact kindWs_cell W1 j h
      have HFI : Hid (Calls Tryz.prog 40 #[.string lawWords] W1 fun e w' => e = .returned (.slice (some ⟨W1.heap.size, 0, none⟩) 6 6) ∧ w' = W2) := by
        rw [hW2]
        exact fields_any W1 (hta.below HK.out.low)
      have g1 : W2.cell? ⟨w.heap.size, 1, none⟩ = some (.slice (some ⟨b, f, none⟩) (r.length + 1) x.c) := by
        have := HK2.out.b1
        rw [hl, ea, List.length_cons] at this
        exact this
      have g0 : W2.cell? ⟨b, f, none⟩ = some (.string y.w) := cell_later HB12.out a0
      clear hx hta hln ho hl ea hyo hyf HTC hW2
      go_enter Tryz.func31, Tryz.ntmps31
      go_upto_region 1 with fail
      rw [← hW1]
      clear hW1
      go_wp2_with fail
      refine HFI.out.mono ?_
      rintro e w2 ⟨rfl, hw2⟩
      rw [hw2]
      clear hw2 w2 HFI a0 a2 p1 p2 HK HB12
      go_wp2_with fail
      go_loopg [68] 6 (fun g i wr => ∃ j : Nat, g + j = 6 ∧ i = .int .i64 (j : Int) ∧ wr = W2 ∧ Hid (∀ q (h : q < kindWs.length), q < j → kindWs[q] ≠ y.w))
      case atStart => exact ⟨0, rfl, rfl, rfl, fun q h hq => absurd hq (by omega)⟩
      case round =>
        obtain ⟨j, hj, rfl, rfl, HJ⟩ := hrel
        by_cases hj6 : j < kindWs.length
        · obtain ⟨K, hKK⟩ : ∃ K, kindWs[j]'hj6 = K := ⟨_, rfl⟩
          have gj : wr.cell? ⟨W1.heap.size, j, none⟩ = some (.string K) := by rw [← hKK]; exact HKW.out j hj6
          have hj6' : j < 6 := hj6
          have i1 : (j : Int) < 6 := by omega
          have i2 : (0 : Int) ≤ (j : Int) := by omega
          have i3 : IntKind.i64.wrap ((j : Int) + 1) = (j : Int) + 1 := by rw [IntKind.wrap_i64]; omega
          obtain ⟨bb, hbb⟩ : ∃ bb, (y.w.toList == K.toList) = bb := ⟨_, rfl⟩
          cases bb
          · have HJ2 : Hid (∀ q (h : q < kindWs.length), q < j + 1 → kindWs[q] ≠ y.w) := fun q h hq => by
              by_cases e : q < j
              · exact HJ.out q h e
              · obtain rfl : q = j := by omega
                rw [hKK]
                rintro rfl
                simp at hbb
            clear HT0 HK2 HKW HTL HXI HXL hfl ih HJ hKK
            go_wp2_with fail
            go_roundg (gk - 1)
            case measure => omega
            case rel => exact ⟨j + 1, by omega, by simp, rfl, HJ2.out⟩
          · obtain rfl : y.w = K := (Lib.bytes_beq_iff _ _).1 hbb
            have HKA : kindAt y.w = some (4 + j) := atWord_first y.w kindWs 4 j hj6 HJ.out hKK
            obtain ⟨kk, hkk⟩ : ∃ kk, 4 + j = kk := ⟨_, rfl⟩
            rw [hkk] at HKA
            have HT1 : Hid (termT (n + 1) x.tn = (headT n kk (r.map Nd.tn)).bind fun p => if p.2.length = partsOf (kk : Int) then (allO (termT n) p.2).map fun l => ⟨(kk : Int), 0, p.1, anyY, l⟩ else none) := by
              show _ = _
              rw [HT0.out, HKA, Option.bind_some]
            have i4 : IntKind.i64.wrap ((j : Int) + 4) = (kk : Int) := by
              rw [IntKind.wrap_i64]
              omega
            have hkb : 4 ≤ kk ∧ kk ≤ 9 := by omega
            obtain ⟨A1, C1, hsl1, hin1⟩ := HTL.out
            have HN1 : Hid ((Nd.mk ⟨#[]⟩ A1 C1 r false).In w) := hin1
            obtain ⟨W3, hW3⟩ : ∃ W, W = wr.alloc (.cells #[.int .i64 (kk : Int), .int .i64 0, .int .i64 0, .slice none 0 0, .int .i64 0, .slice none 0 0, .slice none 0 0] 27) := ⟨_, rfl⟩
            have HB23 : Hid (Below wr.heap.size wr W3) := by rw [hW3]; exact (Below.refl _ _).alloc (Nat.le_refl _) _
            obtain ⟨S, hS⟩ : ∃ S, wr.heap.size = S := ⟨_, rfl⟩
            have HBX : Hid (Box7 W3 S (tleaf (kk : Int) 0)) := by
              have h7 := At7.new wr (tleaf (kk : Int) 0)
              rw [← hS, hW3]
              exact ⟨h7, fun i hi => by simp [go_sem]⟩
            have HK3 : Hid (TB x w W3) := HK2.out.below HB23.out
            have HS : Hid (w.heap.size + 1 < S ∧ W3.heap.size = S + 1) := ⟨by rw [← hS]; exact HK2.out.lt, by rw [hW3, ← hS]; simp⟩
            have g3 : W3.cell? ⟨w.heap.size, 1, none⟩ = some (.slice (some ⟨b, f, none⟩) (r.length + 1) x.c) := cell_later HB23.out g1
            obtain ⟨s0, s1, s2, s3, s4, s5, s6⟩ := HBX.out.at7
            simp only [Nat.zero_add, tleaf] at s0 s1 s2 s3 s4 s5 s6
            clear HT0 HKA HKW HTL HJ hKK hin1 hbb hkk
            go_upto_region 18 with fail
            rw [← hW3]
            (try rw [hS])
            clear hW3 hS HK2 HB23 g1 g0 gj
            go_upto_region 19 with fail
            obtain ⟨tl, htl0⟩ : ∃ tl, tells (kk : Int) = tl := ⟨_, rfl⟩
            have HTL0 : Hid (tells (kk : Int) = tl) := htl0
            clear htl0
            go_cut [93] (fun v93 wx => v93 = .bool tl ∧ wx = W3)
            case first =>
              by_cases hk7 : (kk : Int) = 7
              · have h1 : ((kk : Int) == 7) = true := by rw [hk7]; rfl
                have h2 : tl = true := by rw [← HTL0.out, hk7]; rfl
                subst h2
                clear hk7 HTL0 HK3 HT1 HN1 HXI HXL hfl ih HBX HS
                go_wp2_with fail
                go_meet
                case rel => exact ⟨rfl, rfl⟩
              · have h1 : ((kk : Int) == 7) = false := by rw [beq_eq_false_iff_ne]; exact hk7
                have h2 : ((kk : Int) == 9) = tl := by rw [← HTL0.out, tells, h1]; rfl
                clear hk7 HTL0 HK3 HT1 HN1 HXI HXL hfl ih HBX HS
                go_wp2_with fail
                go_meet
                case rel => exact ⟨rfl, rfl⟩
            case rest =>
            obtain ⟨h93, hwx⟩ := hcut
            rw [hwx]
            clear hwx
            subst h93
            go_upto_if 93 with fail
            go_cut [11, 12] (fun v11 v12 wx => ∃ (A2 : Option Addr) (C2 : Nat) (L : List Nd) (ok0 : Bool) (t : Tr), v11 = .slice A2 L.length C2 ∧ v12 = .bool ok0 ∧ Hid ((Nd.mk ⟨#[]⟩ A2 C2 L false).In w ∧ (∀ z, z ∈ L → z ∈ r) ∧ L.length ≤ 3000 ∧ CU S (kk : Int) t (.slice none 0 0) [] W3 wx ∧ (ok0 = true → headT n kk (r.map Nd.tn) = some (t.ty, L.map Nd.tn)) ∧ (ok0 = false → headT n kk (r.map Nd.tn) = none)))
            case first =>
              cases tl
              rotate_left
              · have HTL2 : Hid (tells (kk : Int) = true) := HTL0.out
                clear HTL0
                cases r with
                | nil =>
                  have HT : Hid (termT (n + 1) x.tn = none) := by
                    show _ = _
                    rw [HT1.out, List.map_nil, headT_nil _ _ HTL2.out]
                    rfl
                  have HP : Hid (TrPost (termT (n + 1) x.tn) w (.returned (.tuple #[.agg #[.int .i64 (kk : Int), .int .i64 0, .int .i64 0, .slice none 0 0, .int .i64 0, .slice none 0 0, .slice none 0 0], .bool false])) (put7 W3 (w.heap.size + 1) (tleaf (kk : Int) 0))) :=
                    tr_leaf HK3.out (by rw [HT.out]; rfl) (fun i hi => by rw [HT.out] at hi; cases hi)
                  have HKV := HK3
                  clear HT HK3 HT1 HN1 HXI HXL hfl ih HBX HS HTL2 hsl1 g3
                  simp only [List.length_nil] at s3 s5 s6
                  have HGT : Hid _ := put7_gets (x := tleaf (kk : Int) 0) HKV.out.box
                  obtain ⟨c0, c1, c2, c3, c4, c5, c6⟩ := HKV.out.box.at7
                  simp only [Nat.zero_add, tleaf] at c0 c1 c2 c3 c4 c5 c6
                  have f0 := HKV.out.box.fz 0 (by omega)
                  have f1 := HKV.out.box.fz 1 (by omega)
                  have f2 := HKV.out.box.fz 2 (by omega)
                  have f3 := HKV.out.box.fz 3 (by omega)
                  have f4 := HKV.out.box.fz 4 (by omega)
                  have f5 := HKV.out.box.fz 5 (by omega)
                  have f6 := HKV.out.box.fz 6 (by omega)
                  clear HKV
                  go_wp2_with fail
                  refine bodyPost_ret (v := .tuple #[.agg #[.int .i64 (kk : Int), .int .i64 0, .int .i64 0, .slice none 0 0, .int .i64 0, .slice none 0 0, .slice none 0 0], .bool false]) ?_ rfl HP.out
                  obtain ⟨d0, d1, d2, d3, d4, d5, d6⟩ := HGT.out
                  simp only [tleaf, List.length_nil] at d0 d1 d2 d3 d4 d5 d6
                  simp [results, Tryz.results31, go_sem, d0, d1, d2, d3, d4, d5, d6]

                | cons z r2 =>
                  obtain ⟨b1, f1, eA1, z0, z1, z2, hzi⟩ := HN1.out.part 0 (by simp)
                  simp only [List.getElem_cons_zero, Nat.zero_mul, Nat.add_zero] at z0 z1 z2 hzi
                  replace eA1 : A1 = some ⟨b1, f1, none⟩ := eA1
                  subst eA1
                  obtain ⟨A2, C2, hsl2, hin2⟩ := HN1.out.tail
                  have z0' := cell_later HK3.out.low z0
                  have z1' := cell_later HK3.out.low z1
                  have z2' := cell_later HK3.out.low z2
                  have HCK : Hid (Calls Tryz.prog 60 #[.agg #[.string z.w, .slice z.a z.l.length z.c, .bool z.o]] W3 (KdPost (kindT n z.tn) W3)) := kind_any n z W3 (hzi.below HK3.out.low) (hfl.out z (HXL.out z List.mem_cons_self))
                  have HR2 : Hid ((Nd.mk ⟨#[]⟩ A2 C2 r2 false).In w ∧ r2.length ≤ 3000) := ⟨hin2, by have := HXI.out.2.2; simp at this; omega⟩
                  have hr1 : (((r2.length : Nat) : Int) + 1 == 0) = false := by
                    rw [beq_eq_false_iff_ne]
                    omega
                  simp only [List.length_cons] at hsl1 g3 hr0
                  clear z0 z1 z2 hin2 hzi HN1 HXI HXL ih hfl HT1
                  go_wp2_with fail
                  refine HCK.out.mono ?_
                  rintro e w4 ⟨tk, bk, rfl, HKD⟩
                  have HB4 := HBX.out.below HKD.out.2.2.2.2
                  have q2 := HB4.at7.c2
                  have q3 := HB4.at7.c3
                  simp only [Nat.zero_add, tleaf] at q2 q3
                  have qf2 := HB4.fz 2 (by omega)
                  have qf3 := HB4.fz 3 (by omega)
                  have HCU : Hid (CU S (kk : Int) tk (.slice none 0 0) [] W3 ((w4.setCell ⟨S, 2, none⟩ (.int .i64 tk.k)).setCell ⟨S, 3, none⟩ (.slice tk.a tk.l.length tk.c))) := CU.typed HBX.out HKD.out.2.2.2.2 HKD.out.2.2.1 HKD.out.2.2.2.1
                  have HHD : Hid ((bk = true → headT n kk ((z :: r2).map Nd.tn) = some (tk.ty, r2.map Nd.tn)) ∧ (bk = false → headT n kk ((z :: r2).map Nd.tn) = none)) := by
                    have hh := headT_yes n kk z.tn (r2.map Nd.tn) HTL2.out
                    have h1 := HKD.out.1
                    have h2 := HKD.out.2.1
                    rw [List.map_cons, hh]
                    constructor
                    · intro e
                      rw [e] at h1
                      obtain ⟨i, hi⟩ := Option.isSome_iff_exists.1 h1.symm
                      rw [hi, h2 i hi]
                      rfl
                    · intro e
                      rw [e] at h1
                      have hnn : kindT n z.tn = none := by
                        cases h : kindT n z.tn with
                        | none => rfl
                        | some i => rw [h] at h1; cases h1
                      rw [hnn]
                      rfl
                  clear HB4 HKD HCK HTL2 HK3 HBX HS s0 s1 s2 s3 s4 s5 s6 z0' z1' z2'
                  go_wp2_with fail
                  go_meet
                  case rel => exact ⟨A2, C2, r2, bk, tk, rfl, rfl, HR2.out.1, fun q hq => List.mem_cons_of_mem _ hq, HR2.out.2, HCU.out, HHD.out.1, HHD.out.2⟩
              · have htl : ¬ tells (kk : Int) = true := by rw [HTL0.out]; simp
                have HM : Hid ((Nd.mk ⟨#[]⟩ A1 C1 r false).In w ∧ r.length ≤ 3000 ∧ CU S (kk : Int) (leaf 0) (.slice none 0 0) [] W3 W3 ∧ headT n kk (r.map Nd.tn) = some ((leaf 0).ty, r.map Nd.tn)) :=
                  ⟨HN1.out, HXI.out.2.2, CU.start HBX.out, by rw [headT_no _ _ _ htl, leaf_ty]; rfl⟩
                clear HK3 HT1 HN1 HXI HXL hfl ih HBX HS hsl1 g3 htl HTL0
                go_wp2_with fail
                go_meet
                case rel => exact ⟨A1, C1, r, true, leaf 0, rfl, rfl, HM.out.1, fun z hz => hz, HM.out.2.1, HM.out.2.2.1, fun _ => HM.out.2.2.2, fun e => by cases e⟩
            case rest =>
            obtain ⟨A2, C2, L, ok0, t, hv11, hv12, HCT⟩ := hcut
            subst hv11 hv12
            clear hsl1 g3 s0 s1 s2 s3 s4 s5 s6 HN1 HTL0 HBX
            go_upto_region 24 with fail
            go_cut [12] (fun v12 wy => ∃ ok1 : Bool, v12 = .bool ok1 ∧ Hid (CU S (kk : Int) t (.slice none 0 0) [] W3 wy ∧ (ok1 = true ↔ ok0 = true ∧ L.length = partsOf (kk : Int))))
            case first =>
              obtain ⟨a', c', hv', hbx⟩ := HCT.out.2.2.2.1.box
              have u0 : wc.cell? ⟨S, 0, none⟩ = some (.int .i64 (kk : Int)) := by simpa using hbx.at7.c0
              clear hv' hbx
              cases ok0
              · have HM : Hid (CU S (kk : Int) t (.slice none 0 0) [] W3 wc) := HCT.out.2.2.2.1
                clear HCT HT1 HXI HXL hfl ih HK3 HS
                go_wp2_with fail
                go_meet
                case rel => exact ⟨false, rfl, HM.out, ⟨(fun e => by cases e), fun e => (by cases e.1)⟩⟩
              · have HPA : Hid (Calls Tryz.prog 45 #[.int .i64 (kk : Int)] wc fun e w' => e = .returned (.int .i64 (partsOf (kk : Int) : Int)) ∧ Below wc.heap.size wc w') := parts_any (kk : Int) (by
                  obtain rfl | rfl | rfl | rfl | rfl | rfl : kk = 4 ∨ kk = 5 ∨ kk = 6 ∨ kk = 7 ∨ kk = 8 ∨ kk = 9 := by omega
                  all_goals decide) wc
                obtain ⟨P, hP⟩ : ∃ P : Int, (partsOf (kk : Int) : Int) = P := ⟨_, rfl⟩
                obtain ⟨eq, heq⟩ : ∃ eq, (((L.length : Nat) : Int) == P) = eq := ⟨_, rfl⟩
                have HEQ : Hid (eq = true ↔ L.length = partsOf (kk : Int)) := by
                  show _ ↔ _
                  rw [← heq, beq_iff_eq, ← hP]
                  omega
                rw [hP] at HPA
                have HCU1 : Hid (CU S (kk : Int) t (.slice none 0 0) [] W3 wc) := HCT.out.2.2.2.1
                clear HCT HT1 HXI HXL hfl ih HK3 HS hP
                go_wp2_with fail
                refine HPA.out.mono ?_
                rintro e w5 ⟨rfl, hb5⟩
                have HM : Hid (CU S (kk : Int) t (.slice none 0 0) [] W3 w5) := HCU1.out.below hb5
                clear hb5 HCU1 HPA u0
                go_wp2_with fail
                go_meet
                case rel => exact ⟨eq, rfl, HM.out, ⟨fun e => ⟨trivial, HEQ.out.1 e⟩, fun e => HEQ.out.2 e.2⟩⟩
            case rest =>
            obtain ⟨ok1, hv12, HC1⟩ := hcut
            subst hv12
            go_upto_region 25 with fail
            go_wp2_with fail
            go_loopg [12, 119] L.length (fun g v12 i wr => ∃ (q : Nat) (v : Value) (cs : List TT) (ok : Bool), g + q = L.length ∧ i = .int .i64 (q : Int) ∧ v12 = .bool ok ∧ Hid (CU S (kk : Int) t v cs W3 wr ∧ PU n L ok1 q ok cs))
            case atStart => exact ⟨0, _, [], ok1, by omega, rfl, rfl, HC1.out.1, PU.start n L ok1⟩
            case round =>
              obtain ⟨q, v, cs, ok, hq, rfl, rfl, HR⟩ := hrel
              by_cases hlt : q < L.length
              · obtain ⟨b2, f2, eA2, l0, l1, l2, hLi⟩ := HCT.out.1.part q hlt
                replace eA2 : A2 = some ⟨b2, f2, none⟩ := eA2
                subst eA2
                obtain ⟨Z, hZ⟩ : ∃ Z, L[q]'hlt = Z := ⟨_, rfl⟩
                replace l0 : w.cell? ⟨b2, f2 + q * 3, none⟩ = some (.string Z.w) := by rw [← hZ]; exact l0
                replace l1 : w.cell? ⟨b2, f2 + q * 3 + 1, none⟩ = some (.slice Z.a Z.l.length Z.c) := by rw [← hZ]; exact l1
                replace l2 : w.cell? ⟨b2, f2 + q * 3 + 2, none⟩ = some (.bool Z.o) := by rw [← hZ]; exact l2
                replace hLi : Z.In w := by rw [← hZ]; exact hLi
                have hBw : Below w.heap.size w wr := HK3.out.low.trans (HR.out.1.low.mono (by have := HS.out.1; omega))
                replace l0 := cell_later hBw l0
                replace l1 := cell_later hBw l1
                replace l2 := cell_later hBw l2
                obtain ⟨V1, hV1⟩ : ∃ W, W = wr.alloc (.cells #[.string Z.w, .slice Z.a Z.l.length Z.c, .bool Z.o] 67) := ⟨_, rfl⟩
                have hb1 : Below wr.heap.size wr V1 := by rw [hV1]; exact (Below.refl _ _).alloc (Nat.le_refl _) _
                have HB1 : Hid (Below wr.heap.size wr V1) := hb1
                have y0 : V1.cell? ⟨wr.heap.size, 0, none⟩ = some (.string Z.w) := by rw [hV1]; simp
                have y1 : V1.cell? ⟨wr.heap.size, 1, none⟩ = some (.slice Z.a Z.l.length Z.c) := by rw [hV1]; simp
                have y2 : V1.cell? ⟨wr.heap.size, 2, none⟩ = some (.bool Z.o) := by rw [hV1]; simp
                have hbw1 : Below w.heap.size w V1 := hBw.trans (hb1.mono hBw.size)
                have HCI : Hid (Calls Tryz.prog 31 #[.agg #[.string Z.w, .slice Z.a Z.l.length Z.c, .bool Z.o]] V1 (TrPost (termT n Z.tn) V1)) := ih.out Z V1 (HXL.out Z (HCT.out.2.1 Z (by rw [← hZ]; exact List.getElem_mem hlt))) (hLi.below hbw1) (HXI.out.2.1.below hbw1)
                have HZP : Hid (L[q]'hlt = Z) := hZ
                have k1 : (q : Int) < ((L.length : Nat) : Int) := by omega
                have k2 : (0 : Int) ≤ (q : Int) := by omega
                have k3 : IntKind.i64.wrap ((q : Int) + 1) = (q : Int) + 1 := by
                  have := HCT.out.2.2.1
                  rw [IntKind.wrap_i64]
                  omega
                have hcl : cs.length ≤ 3000 := by have := HR.out.2.len; have := HCT.out.2.2.1; omega
                clear hBw hb1 hbw1 hLi hZ HXL HXI ih hfl HK3 HT1
                go_upto_region 28 with fail
                rw [← hV1]
                clear hV1 l0 l1 l2
                go_wp2_with fail
                refine HCI.out.mono ?_
                rintro e w5 ⟨zt, is, rfl, HZ⟩
                clear HCI y0 y1 y2
                obtain ⟨V2, hV2⟩ : ∃ W, W = w5.alloc (.cells #[.int .i64 zt.k, .int .i64 zt.n, .int .i64 zt.t.k, .slice zt.t.a zt.t.l.length zt.t.c, .int .i64 zt.f.k, .slice zt.f.a zt.f.l.length zt.f.c, .slice zt.a zt.l.length zt.c] 27) := ⟨_, rfl⟩
                have hb52 : Below w5.heap.size w5 V2 := by rw [hV2]; exact (Below.refl _ _).alloc (Nat.le_refl _) _
                have hb12 : Below V1.heap.size V1 V2 := HZ.out.2.2.2.2.trans (hb52.mono HZ.out.2.2.2.2.size)
                have hz7 : At7 V2 w5.heap.size 0 zt := by rw [hV2]; exact At7.new w5 zt
                have HZ2 : Hid (zt.In V2 ∧ zt.Bl (V1.heap.size ≤ ·) ∧ Below V1.heap.size V1 V2 ∧ is = (termT n Z.tn).isSome ∧ (∀ i, termT n Z.tn = some i → zt.tm = i)) := ⟨HZ.out.2.2.1.below hb52, HZ.out.2.2.2.1, hb12, HZ.out.1, HZ.out.2.1⟩
                have HCU2 : Hid (CU S (kk : Int) t v cs W3 V2) := (HR.out.1.below HB1.out).below hb12
                have HZ7 : Hid (At7 V2 w5.heap.size 0 zt) := hz7
                clear hb52 hb12 hz7 HZ
                go_upto_region 29 with fail
                rw [← hV2]
                clear hV2
                go_cut [12] (fun v12 wz => v12 = .bool (ok && is) ∧ wz = V2)
                case first =>
                  clear HCU2 HZ2 HZ7 HR HCT HS HC1 HZP HB1
                  cases ok
                  · go_wp2_with fail
                    go_meet
                    case rel => exact ⟨rfl, rfl⟩
                  · go_wp2_with fail
                    go_meet
                    case rel => exact ⟨rfl, rfl⟩
                case rest =>
                obtain ⟨hv12, hwz⟩ := hcut
                subst hv12
                rw [hwz]
                clear hwz
                obtain ⟨a0, c0, hv0, hbx⟩ := HCU2.out.box
                have q6 : V2.cell? ⟨S, 6, none⟩ = some v := by rw [hv0]; simpa using hbx.at7.c6
                have qf : V2.frozen? ⟨S, 6, none⟩ = false := hbx.fz 6 (by omega)
                obtain ⟨z0, z1, z2, z3, z4, z5, z6⟩ := HZ7.out.all
                have uo : (V2.alloc (.cells #[.int .i64 zt.k, .int .i64 zt.n, .int .i64 zt.t.k, .slice zt.t.a zt.t.l.length zt.t.c, .int .i64 zt.f.k, .slice zt.f.a zt.f.l.length zt.f.c, .slice zt.a zt.l.length zt.c] 27)).ownsRow (S + 1) 27 7 v cs.length (cells7 cs) := ownsRow_below HCU2.out.row.own ((Below.refl _ _).alloc (Nat.le_refl _) _)
                have hnew := heap_alloc_new V2 (.cells #[.int .i64 zt.k, .int .i64 zt.n, .int .i64 zt.t.k, .slice zt.t.a zt.t.l.length zt.t.c, .int .i64 zt.f.k, .slice zt.f.a zt.f.l.length zt.f.c, .slice zt.a zt.l.length zt.c] 27)
                have hnv : v.ownBlock ≠ some S := fun e => by have := (HCU2.out.row.lt _ e).1; omega
                have us : S < V2.heap.size := hbx.lt
                have un : S ≠ V2.heap.size := Nat.ne_of_lt us
                clear hv0 hbx
                obtain ⟨okn, hokn⟩ : ∃ b, (ok && is) = b := ⟨_, rfl⟩
                rw [hokn]
                go_wp2_with (at_builtin; refine wpList_append_lies _ rfl _ _ _ rfl (S + 1) 27 i0 _ 7 104 Tryz.underlying25 hi0 hz0 hz1 hz2 rfl (by omega) v cs.length (cells7 cs) rfl uo ⟨V2.heap.size, 0, none⟩ 1 1 [.int .i64 zt.k, .int .i64 zt.n, .int .i64 zt.t.k, .slice zt.t.a zt.t.l.length zt.t.c, .int .i64 zt.f.k, .slice zt.f.a zt.f.l.length zt.f.c, .slice zt.a zt.l.length zt.c] rfl rfl (World.news_of_block (cs := #[.int .i64 zt.k, .int .i64 zt.n, .int .i64 zt.t.k, .slice zt.t.a zt.t.l.length zt.t.c, .int .i64 zt.f.k, .slice zt.f.a zt.f.l.length zt.f.c, .slice zt.a zt.l.length zt.c]) (t := 27) (fr := (0, 0)) hnew) (by simp [Value.oneCell']) (by omega) (by unfold maxLen; omega) (by omega) (by simp; omega) (V2.heap.size + 1) (by simp) ?_; intro gg cap1 w6 hown1 hgrow hat hlt6; have hcr : w6.cell? ⟨S, 6, none⟩ = some v := (by rw [hgrow.cell_far _ (by simp; omega) (Ne.symm hnv)]; exact cell_later ((Below.refl _ _).alloc (Nat.le_refl _) _) q6); have hfr : w6.frozen? ⟨S, 6, none⟩ = false := (by rw [hgrow.frozen_far _ (by simp; omega) (Ne.symm hnv)]; exact (((Below.refl _ _).alloc (Nat.le_refl _) _).frozen (p := ⟨S, 6, none⟩) us).trans qf))
                have HN : Hid (CU S (kk : Int) t (.slice (some ⟨gg, 0, none⟩) (cs.length + 1) cap1) (cs ++ [zt]) W3 (w6.setCell ⟨S, 6, none⟩ (.slice (some ⟨gg, 0, none⟩) (cs.length + 1) cap1)) ∧ PU n L ok1 (q + 1) okn (cs ++ [zt])) := by
                  refine ⟨HR.out.1.step HB1.out HZ2.out.1 HZ2.out.2.1 HZ2.out.2.2.1 hown1 hgrow hat, ?_⟩
                  rw [← hokn]
                  exact HR.out.2.step hlt (by rw [HZP.out]; exact HZ2.out.2.2.2.1) (fun v hv => HZ2.out.2.2.2.2 v (by rw [← HZP.out]; exact hv))
                clear hown1 hgrow hat hlt6 HR HCU2 HZ2 HZ7 hokn hnew uo HZP HB1
                go_wp2_with fail
                go_roundg (gk - 1)
                case measure => omega
                case rel => exact ⟨q + 1, _, _, okn, by omega, by simp, rfl, HN⟩
              · have hqe : q = L.length := by omega
                have k1 : ¬ (q : Int) < ((L.length : Nat) : Int) := by omega
                obtain ⟨a, c, hv, hbx⟩ := HR.out.1.box
                obtain ⟨a', c', hv', htree⟩ := HR.out.1.row.tree
                rw [hv] at hv'
                obtain ⟨rfl, rfl⟩ : a = a' ∧ c = c' := by cases hv'; exact ⟨rfl, rfl⟩
                have hti := htree (kk : Int) 0 t (leaf 0) HR.out.1.tin.1 (leaf_in 0 _)
                have hbl := hti.2 (fun b => S + 1 ≤ b) (fun b hb => hb) (HR.out.1.tin.2.mono fun b hb => hb.1) (leaf_bl 0 _)
                have HKV : Hid (TB x w wr) := HK3.out.belowS HS.out.1 HR.out.1.low
                have HP : Hid (TrPost (termT (n + 1) x.tn) w (.returned (.tuple #[.agg #[.int .i64 (kk : Int), .int .i64 0, .int .i64 t.k, .slice t.a t.l.length t.c, .int .i64 0, .slice none 0 0, .slice a cs.length c], .bool ok])) (put7 wr (w.heap.size + 1) (TT.mk (kk : Int) 0 t (leaf 0) a c cs))) := by
                  have hPU := HR.out.2
                  rw [hqe] at hPU
                  obtain ⟨p1, p2⟩ := hPU.end
                  refine tr_end (t := TT.mk (kk : Int) 0 t (leaf 0) a c cs) HKV.out ?_ (fun i hi => ?_) hti.1 (hbl.mono fun b hb => by have := HS.out.1; omega)
                  · cases hok : ok
                    · rw [HT1.out]
                      cases ho0 : ok0
                      · rw [HCT.out.2.2.2.2.2 ho0]; rfl
                      · rw [HCT.out.2.2.2.2.1 ho0, Option.bind_some]
                        simp only
                        by_cases hp : (L.map Nd.tn).length = partsOf (kk : Int)
                        · rw [if_pos hp]
                          rcases p2 hok with h | h
                          · exfalso
                            have := HC1.out.2.2 ⟨ho0, by simpa using hp⟩
                            rw [h] at this
                            cases this
                          · rw [h]; rfl
                        · rw [if_neg hp]; rfl
                    · obtain ⟨h1, h2⟩ := p1 hok
                      obtain ⟨h3, h4⟩ := HC1.out.2.1 h1
                      rw [HT1.out, HCT.out.2.2.2.2.1 h3, Option.bind_some]
                      simp only
                      rw [if_pos (by simpa using h4), h2]
                      rfl
                  · cases hok : ok
                    · exfalso
                      rw [HT1.out] at hi
                      cases ho0 : ok0
                      · rw [HCT.out.2.2.2.2.2 ho0] at hi; cases hi
                      · rw [HCT.out.2.2.2.2.1 ho0, Option.bind_some] at hi
                        simp only at hi
                        by_cases hp : (L.map Nd.tn).length = partsOf (kk : Int)
                        · rw [if_pos hp] at hi
                          rcases p2 hok with h | h
                          · have := HC1.out.2.2 ⟨ho0, by simpa using hp⟩
                            rw [h] at this
                            cases this
                          · rw [h] at hi; cases hi
                        · rw [if_neg hp] at hi; cases hi
                    · obtain ⟨h1, h2⟩ := p1 hok
                      obtain ⟨h3, h4⟩ := HC1.out.2.1 h1
                      rw [HT1.out, HCT.out.2.2.2.2.1 h3, Option.bind_some] at hi
                      simp only at hi
                      rw [if_pos (by simpa using h4), h2] at hi
                      rw [← Option.some.inj hi, TT.tm_mk, leaf_ty]
                      rfl
                have HGT : Hid _ := put7_gets (x := TT.mk (kk : Int) 0 t (leaf 0) a c cs) HKV.out.box
                obtain ⟨c0, c1, c2, c3, c4, c5, c6⟩ := HKV.out.box.at7
                simp only [Nat.zero_add, tleaf] at c0 c1 c2 c3 c4 c5 c6
                have f0 := HKV.out.box.fz 0 (by omega)
                have f1 := HKV.out.box.fz 1 (by omega)
                have f2 := HKV.out.box.fz 2 (by omega)
                have f3 := HKV.out.box.fz 3 (by omega)
                have f4 := HKV.out.box.fz 4 (by omega)
                have f5 := HKV.out.box.fz 5 (by omega)
                have f6 := HKV.out.box.fz 6 (by omega)
                obtain ⟨s0, s1, s2, s3, s4, s5, s6⟩ := hbx.at7
                simp only [Nat.zero_add, leaf, List.length_nil] at s0 s1 s2 s3 s4 s5 s6
                clear HKV HR HCT HC1 HK3 HS HT1 hbx hti hbl htree hv hv' HXL HXI hfl ih hqe
                go_wp2_with fail
                refine bodyPost_ret (v := .tuple #[.agg #[.int .i64 (kk : Int), .int .i64 0, .int .i64 t.k, .slice t.a t.l.length t.c, .int .i64 0, .slice none 0 0, .slice a cs.length c], .bool ok]) ?_ rfl HP.out
                obtain ⟨d0, d1, d2, d3, d4, d5, d6⟩ := HGT.out
                simp only [leaf, List.length_nil] at d0 d1 d2 d3 d4 d5 d6
                simp [results, Tryz.results31, go_sem, d0, d1, d2, d3, d4, d5, d6]

        · have hj66 : ¬ j < 6 := hj6
          have hj0 : j = 6 := by omega
          have i1 : ¬ (j : Int) < 6 := by omega
          have HT : Hid (termT (n + 1) x.tn = none) := by
            show _ = _
            rw [HT0.out, kindAt, atWord_none y.w kindWs 4 fun z hz => by
              obtain ⟨q, hq, rfl⟩ := List.getElem_of_mem hz
              have hq6 : q < 6 := hq
              exact HJ.out q hq (by omega)]
            rfl
          clear HT0 HKW HTL HXI HXL hfl ih HJ hj
          have HP : Hid (TrPost (termT (n + 1) x.tn) w (.returned (.tuple #[.agg #[.int .i64 0, .int .i64 0, .int .i64 0, .slice none 0 0, .int .i64 0, .slice none 0 0, .slice none 0 0], .bool false])) (put7 wr (w.heap.size + 1) (tleaf 0 0))) :=
            tr_leaf HK2.out (by rw [HT.out]; rfl) (fun i hi => by rw [HT.out] at hi; cases hi)
          have HKV := HK2
          clear HK2 HT
          have HGT : Hid _ := put7_gets (x := tleaf 0 0) HKV.out.box
          obtain ⟨c0, c1, c2, c3, c4, c5, c6⟩ := HKV.out.box.at7
          simp only [Nat.zero_add, tleaf] at c0 c1 c2 c3 c4 c5 c6
          have f0 := HKV.out.box.fz 0 (by omega)
          have f1 := HKV.out.box.fz 1 (by omega)
          have f2 := HKV.out.box.fz 2 (by omega)
          have f3 := HKV.out.box.fz 3 (by omega)
          have f4 := HKV.out.box.fz 4 (by omega)
          have f5 := HKV.out.box.fz 5 (by omega)
          have f6 := HKV.out.box.fz 6 (by omega)
          clear HKV
          go_wp2_with fail
          refine bodyPost_ret (v := .tuple #[.agg #[.int .i64 0, .int .i64 0, .int .i64 0, .slice none 0 0, .int .i64 0, .slice none 0 0, .slice none 0 0], .bool false]) ?_ rfl HP.out
          obtain ⟨d0, d1, d2, d3, d4, d5, d6⟩ := HGT.out
          simp only [tleaf, List.length_nil] at d0 d1 d2 d3 d4 d5 d6
          simp [results, Tryz.results31, go_sem, d0, d1, d2, d3, d4, d5, d6]


theorem term_any : ∀ (n : Nat) (x : Nd) (w : World), x.In w → Ta w → x.tn.nice → x.tn.flat.length ≤ n → (∀ y, y ∈ x.tn.flat → y.length ≤ 2000) → n ≤ 3000 → Calls Tryz.prog 31 #[.agg #[.string x.w, .slice x.a x.l.length x.c, .bool x.o]] w (TrPost (termT n x.tn) w)
  | 0, x, w, _, _, _, h, _, _ => by have := flat_pos x.tn; omega
  | n + 1, x, w, hx, ht, hn, h, hf, h3000 => by
    by_cases ho : x.o = true
    · have hfo := flat_of x.tn (by rw [Nd.tn_o]; exact ho)
      rw [hfo] at h hf
      simp only [List.length_cons, List.length_append, List.length_nil] at h
      have hmem : ∀ y, y ∈ x.l → y.tn ∈ x.tn.l := fun y hy => by rw [Nd.tn_l]; exact List.mem_map.2 ⟨y, hy, rfl⟩
      have hlen : ∀ y, y ∈ x.l → y.tn.flat.length ≤ n := fun y hy => by
        have := flatL_len_mem (hmem y hy)
        omega
      have hcount : x.l.length ≤ (flatL x.tn.l).length := by
        rw [Nd.tn_l]
        exact count_flat _
      refine term_open n x w hx ho ht (by omega) hlen fun y W hy hW hT => term_any n y W hW hT ?_ (hlen y hy) ?_ (by omega)
      · exact nice_mem hn (hmem y hy)
      · intro z hz
        refine hf z (List.mem_cons_of_mem _ (List.mem_append_left _ ?_))
        exact flat_sub (hmem y hy) hz
    · have hof : x.o = false := by simpa using ho
      have hw := nice_w hn (by rw [Nd.tn_o]; exact hof)
      rw [Nd.tn_w] at hw
      refine term_word n x w hof hw.1 ?_
      have := hf x.w.data.toList (by
        have e := flat_wordOf x.tn (by rw [Nd.tn_o]; exact hof)
        rw [e, Nd.tn_w]
        exact List.mem_singleton.2 rfl)
      rw [Array.length_toList] at this
      exact this
end Go.Proofs.YtnddkmccagiclaaGreatDoor

/-
  What the call of (*reader).readTerm does where no word is left, and at a word that opens no brackets.
-/
namespace Go.Proofs.YtnddkmccagiclaaGreatDoor
open Go.RowKit

/-- The world behind the first box. -/
def w7 (w : World) : World := w.alloc (.cells #[.int .i64 0, .int .i64 0, .int .i64 0, .slice none 0 0, .int .i64 0, .slice none 0 0, .slice none 0 0] 27)

theorem w7_below (w : World) : Below w.heap.size w (w7 w) := (Below.refl _ _).alloc (Nat.le_refl _) _

theorem cut_yes (x : ByteArray) (d : List UInt8) (h : x.data.toList = 35 :: d) : Lib.trimPrefix x.data.toList [35] = d ∧ Lib.hasPrefix x.data.toList [35] = true := by
  rw [h]
  simp [Lib.trimPrefix, Lib.hasPrefix]

theorem cut_no (x : ByteArray) (h : ∀ d, x.data.toList ≠ 35 :: d) : Lib.hasPrefix x.data.toList [35] = false := by
  cases hx : x.data.toList with
  | nil => rfl
  | cons c r =>
    have : c ≠ 35 := fun e => h r (by rw [hx, e])
    have h2 : (35 == c) = false := by simpa using fun e => this e.symm
    simp [Lib.hasPrefix, List.isPrefixOf, h2]

/-- What a number's call leaves, in letters. -/
theorem num_letters {R : Nat} {ws : List ByteArray} {b : Bool} {d : ByteArray} {w : World} {e : Ending} {w' : World} (h : NumPost R ws b d w e w') : ∃ (n : Int) (ws' : List ByteArray) (b' : Bool), e = .returned (.int .i64 n) ∧ RS R ws' b' w' ∧ Kept R none w w' ∧
    (∀ K : Int → Tm, StepR (((numOf d).map fun n => (K n, ws)).map (·.2)) b ws' b' ∧ ∀ p, ((numOf d).map fun n => (K n, ws)) = some p → K n = p.1) := by
  obtain ⟨n, he, ⟨hn, hr⟩ | ⟨hn, hr⟩, hk⟩ := h
  · exact ⟨n, ws, b, he, hr, hk, fun K => ⟨.inl ⟨by rw [hn]; rfl, rfl⟩, fun p hp => by rw [hn] at hp; cases hp; rfl⟩⟩
  · exact ⟨n, [], true, he, hr, hk, fun K => ⟨.inr ⟨by rw [hn]; rfl, rfl, rfl⟩, fun p hp => by rw [hn] at hp; cases hp⟩⟩

set_option maxRecDepth 20000 in
set_option maxHeartbeats 2000000 in
/-- From the word on: the truths, the marks of a Ref, the numbers. -/
theorem readTerm_by (R : Nat) (x : ByteArray) (hxs : x.size ≤ 1000000) (r : List ByteArray) (b b1 : Bool) (o : Option (Tm × List ByteArray)) (w : World) (hg : Gl w) (hR : 12 ≤ R) (hRl : R < w.heap.size) (hx : x ≠ opB)
    (HN : Hid (Calls Tryz.prog 52 #[.pointer (some ⟨R, 0, none⟩)] (w7 w) fun e w' => e = .returned (.string x) ∧ RS R r b1 w' ∧ Kept R none (w7 w) w'))
    (HO : Hid (∀ (t : TT) ws' b', StepR ((readWord x r).map (·.2)) b1 ws' b' → (∀ p, readWord x r = some p → t.tm = p.1) → StepR (o.map (·.2)) b ws' b' ∧ ∀ p, o = some p → t.tm = p.1)) :
    Calls Tryz.prog 29 #[.pointer (some ⟨R, 0, none⟩)] w (TmPost R b o w) := by
  have hq : (x.toList == [40]) = false := by
    have := (Lib.bytes_beq_false_iff x opB).2 hx
    rw [opB, Lib.toList_data ⟨#[40]⟩] at this
    exact this
  have HG : Hid (Gl (w7 w)) := hg.below (w7_below w)
  clear hg hx
  go_enter Tryz.func29, Tryz.ntmps29
  go_wp2_with fail
  refine HN.out.mono ?_
  rintro e w1 ⟨rfl, hr, hk⟩
  have hne : w.heap.size ≠ R := by omega
  have hbx : Box7 w1 w.heap.size (tleaf 0 0) := (box7_alloc w).kept hk hne
  have hs1 : w.heap.size < w1.heap.size := hbx.lt
  have HD : Hid (RS R r b1 w1 ∧ Gl w1 ∧ Kept R none w w1 ∧ Box7 w1 w.heap.size (tleaf 0 0)) := ⟨hr, HG.out.kept hR hk, (Kept.of_below (w7_below w)).trans hk, hbx⟩
  clear hr hk HN HG hbx
  have HT : Hid (Calls Tryz.prog 54 #[.string x] w1 fun e w' => e = .returned (foundV (atWord x truthWs 0)) ∧ w' = w1) := truthOf_any x w1 HD.out.2.1
  cases ha : atWord x truthWs 0 with
  | some k =>
    rw [ha] at HT
    replace HT : Hid (Calls Tryz.prog 54 #[.string x] w1 fun e w' => e = .returned (.tuple #[.int .i64 (k : Int), .bool true]) ∧ w' = w1) := HT
    have HE : Hid (readWord x r = some (⟨3, (k : Int), anyY, anyY, []⟩, r)) := by show _ = _; simp [readWord, ha]
    clear ha
    have h7 := HD.out.2.2.2.at7
    have c0 := h7.c0
    have c1 := h7.c1
    have c2 := h7.c2
    have c3 := h7.c3
    have c4 := h7.c4
    have c5 := h7.c5
    have c6 := h7.c6
    simp only [Nat.zero_add, tleaf] at c0 c1 c2 c3 c4 c5 c6
    have f0 := HD.out.2.2.2.fz 0 (by omega)
    have f1 := HD.out.2.2.2.fz 1 (by omega)
    have f2 := HD.out.2.2.2.fz 2 (by omega)
    have f3 := HD.out.2.2.2.fz 3 (by omega)
    have f4 := HD.out.2.2.2.fz 4 (by omega)
    have f5 := HD.out.2.2.2.fz 5 (by omega)
    have f6 := HD.out.2.2.2.fz 6 (by omega)
    clear h7
    go_wp2_with fail
    refine HT.out.mono ?_
    rintro e w2 ⟨rfl, rfl⟩
    go_wp2_with fail
    have h9 := HO.out (tleaf 3 (k : Int)) r b1 (by rw [HE.out]; exact .inl ⟨rfl, rfl⟩) (fun p hp => by rw [HE.out] at hp; cases hp; exact tleaf_tm _ _)
    have hE := tm_end (x := tleaf 3 (k : Int)) (w := w) HD.out.2.2.2 (Nat.le_refl _) hRl (tleaf_in _ _ _) (tleaf_bl _ _ _) HD.out.2.2.1 HD.out.1 h9.1 h9.2
    refine bodyPost_ret (v := .agg #[.int .i64 3, .int .i64 (k : Int), .int .i64 0, .slice none 0 0, .int .i64 0, .slice none 0 0, .slice none 0 0]) ?_ rfl hE.1
    obtain ⟨d0, d1, d2, d3, d4, d5, d6⟩ := put7_gets (x := tleaf 3 (k : Int)) HD.out.2.2.2
    simp only [tleaf, List.length_nil] at d0 d1 d2 d3 d4 d5 d6
    simp [results, Tryz.results29, go_sem, d0, d1, d2, d3, d4, d5, d6]
  | none =>
    rw [ha] at HT
    replace HT : Hid (Calls Tryz.prog 54 #[.string x] w1 fun e w' => e = .returned (.tuple #[.int .i64 0, .bool false]) ∧ w' = w1) := HT
    by_cases hp : ∃ d, x.data.toList = 35 :: d
    · obtain ⟨d, hd⟩ := hp
      have HE : Hid (readWord x r = (numOf ⟨d.toArray⟩).map fun n => (⟨1, n, anyY, anyY, []⟩, r)) := by show _ = _; simp [readWord, ha, hd]
      have HC : Hid (Calls Tryz.prog 55 #[.string x, .string ⟨#[35]⟩] w1 fun e w' => e = .returned (.tuple #[.string ⟨d.toArray⟩, .bool true]) ∧ w' = w1) := by
        have := Tryz.strings_CutPrefix x ⟨#[35]⟩ w1
        have hc := cut_yes x d hd
        rw [show (⟨#[35]⟩ : ByteArray).data.toList = [35] from rfl, hc.1, hc.2] at this
        exact this
      have HM : Hid (Calls Tryz.prog 56 #[.pointer (some ⟨R, 0, none⟩), .string ⟨d.toArray⟩] w1 (NumPost R r b1 ⟨d.toArray⟩ w1)) := by
        refine number_any R r b1 ⟨d.toArray⟩ ?_ w1 HD.out.2.1 HD.out.1
        have : x.data.toList.length = x.size := Array.length_toList
        rw [hd] at this
        show d.toArray.size ≤ 1000000
        simp at this ⊢
        omega
      clear ha hd
      go_wp2_with fail
      refine HT.out.mono ?_
      rintro e w2 ⟨rfl, rfl⟩
      go_wp2_with fail
      refine HC.out.mono ?_
      rintro e w3 ⟨rfl, rfl⟩
      go_wp2_with fail
      refine HM.out.mono ?_
      intro e w4 hpost
      obtain ⟨n, ws', b', rfl, hr4, hk4, hs4⟩ := num_letters hpost
      have HB : Hid (Box7 w4 w.heap.size (tleaf 0 0) ∧ RS R ws' b' w4 ∧ Kept R none w w4) := ⟨HD.out.2.2.2.kept hk4 hne, hr4, HD.out.2.2.1.trans hk4⟩
      have HS : Hid (StepR ((readWord x r).map (·.2)) b1 ws' b' ∧ ∀ p, readWord x r = some p → (tleaf 1 n).tm = p.1) := by
        have := hs4 (fun n => ⟨1, n, anyY, anyY, []⟩)
        rw [HE.out, tleaf_tm]
        exact this
      have h7 := HB.out.1.at7
      have c0 := h7.c0
      have c1 := h7.c1
      have c2 := h7.c2
      have c3 := h7.c3
      have c4 := h7.c4
      have c5 := h7.c5
      have c6 := h7.c6
      simp only [Nat.zero_add, tleaf] at c0 c1 c2 c3 c4 c5 c6
      have f0 := HB.out.1.fz 0 (by omega)
      have f1 := HB.out.1.fz 1 (by omega)
      have f2 := HB.out.1.fz 2 (by omega)
      have f3 := HB.out.1.fz 3 (by omega)
      have f4 := HB.out.1.fz 4 (by omega)
      have f5 := HB.out.1.fz 5 (by omega)
      have f6 := HB.out.1.fz 6 (by omega)
      clear h7 hpost hr4 hk4 hs4 HM HC HT
      go_wp2_with fail
      have h9 := HO.out (tleaf 1 n) ws' b' HS.out.1 HS.out.2
      have hE := tm_end (x := tleaf 1 n) (w := w) HB.out.1 (Nat.le_refl _) hRl (tleaf_in _ _ _) (tleaf_bl _ _ _) HB.out.2.2 HB.out.2.1 h9.1 h9.2
      refine bodyPost_ret (v := .agg #[.int .i64 1, .int .i64 n, .int .i64 0, .slice none 0 0, .int .i64 0, .slice none 0 0, .slice none 0 0]) ?_ rfl hE.1
      obtain ⟨d0, d1, d2, d3, d4, d5, d6⟩ := put7_gets (x := tleaf 1 n) HB.out.1
      simp only [tleaf, List.length_nil] at d0 d1 d2 d3 d4 d5 d6
      simp [results, Tryz.results29, go_sem, d0, d1, d2, d3, d4, d5, d6]
    · have hp' : ∀ d, x.data.toList ≠ 35 :: d := fun d hd => hp ⟨d, hd⟩
      have HE : Hid (readWord x r = (numOf x).map fun n => (⟨2, n, anyY, anyY, []⟩, r)) := by
        show _ = _
        simp only [readWord, ha]
      have HC : Hid (Calls Tryz.prog 55 #[.string x, .string ⟨#[35]⟩] w1 fun e w' => ∃ y, e = .returned (.tuple #[.string y, .bool false]) ∧ w' = w1) := by
        refine (Tryz.strings_CutPrefix x ⟨#[35]⟩ w1).mono ?_
        rintro e w' ⟨rfl, rfl⟩
        exact ⟨⟨(Lib.trimPrefix x.data.toList [35]).toArray⟩, by rw [show (⟨#[35]⟩ : ByteArray).data.toList = [35] from rfl, cut_no x hp'], rfl⟩
      have HM : Hid (Calls Tryz.prog 56 #[.pointer (some ⟨R, 0, none⟩), .string x] w1 (NumPost R r b1 x w1)) := number_any R r b1 x hxs w1 HD.out.2.1 HD.out.1
      clear ha hp hp'
      go_wp2_with fail
      refine HT.out.mono ?_
      rintro e w2 ⟨rfl, rfl⟩
      go_wp2_with fail
      refine HC.out.mono ?_
      rintro e w3 ⟨y, rfl, rfl⟩
      go_wp2_with fail
      refine HM.out.mono ?_
      intro e w4 hpost
      obtain ⟨n, ws', b', rfl, hr4, hk4, hs4⟩ := num_letters hpost
      have HB : Hid (Box7 w4 w.heap.size (tleaf 0 0) ∧ RS R ws' b' w4 ∧ Kept R none w w4) := ⟨HD.out.2.2.2.kept hk4 hne, hr4, HD.out.2.2.1.trans hk4⟩
      have HS : Hid (StepR ((readWord x r).map (·.2)) b1 ws' b' ∧ ∀ p, readWord x r = some p → (tleaf 2 n).tm = p.1) := by
        have := hs4 (fun n => ⟨2, n, anyY, anyY, []⟩)
        rw [HE.out, tleaf_tm]
        exact this
      have h7 := HB.out.1.at7
      have c0 := h7.c0
      have c1 := h7.c1
      have c2 := h7.c2
      have c3 := h7.c3
      have c4 := h7.c4
      have c5 := h7.c5
      have c6 := h7.c6
      simp only [Nat.zero_add, tleaf] at c0 c1 c2 c3 c4 c5 c6
      have f0 := HB.out.1.fz 0 (by omega)
      have f1 := HB.out.1.fz 1 (by omega)
      have f2 := HB.out.1.fz 2 (by omega)
      have f3 := HB.out.1.fz 3 (by omega)
      have f4 := HB.out.1.fz 4 (by omega)
      have f5 := HB.out.1.fz 5 (by omega)
      have f6 := HB.out.1.fz 6 (by omega)
      clear h7 hpost hr4 hk4 hs4 HM HC HT
      go_wp2_with fail
      have h9 := HO.out (tleaf 2 n) ws' b' HS.out.1 HS.out.2
      have hE := tm_end (x := tleaf 2 n) (w := w) HB.out.1 (Nat.le_refl _) hRl (tleaf_in _ _ _) (tleaf_bl _ _ _) HB.out.2.2 HB.out.2.1 h9.1 h9.2
      refine bodyPost_ret (v := .agg #[.int .i64 2, .int .i64 n, .int .i64 0, .slice none 0 0, .int .i64 0, .slice none 0 0, .slice none 0 0]) ?_ rfl hE.1
      obtain ⟨d0, d1, d2, d3, d4, d5, d6⟩ := put7_gets (x := tleaf 2 n) HB.out.1
      simp only [tleaf, List.length_nil] at d0 d1 d2 d3 d4 d5 d6
      simp [results, Tryz.results29, go_sem, d0, d1, d2, d3, d4, d5, d6]

/-- (*reader).readTerm where no word is left. -/
theorem readTerm_nil (R n : Nat) (b : Bool) (w : World) (hg : Gl w) (hR : 12 ≤ R) (h : RS R [] b w) :
    Calls Tryz.prog 29 #[.pointer (some ⟨R, 0, none⟩)] w (TmPost R b (readTm n []) w) := by
  rw [readTm_nil]
  refine readTerm_by R ⟨#[]⟩ (by decide) [] b true none w hg hR h.lt (by decide) (next_nil R b _ (h.below (w7_below w))) ?_
  intro t ws' b' hs _
  have e : readWord ⟨#[]⟩ [] = none := by
    have e1 : atWord ⟨#[]⟩ truthWs 0 = none := by decide
    have e2 : numOf ⟨#[]⟩ = none := rfl
    simp only [readWord, e1, e2]
    rfl
  rw [e] at hs
  rcases hs with ⟨ho, _⟩ | ⟨_, h1, h2⟩
  · cases ho
  · exact ⟨.inr ⟨rfl, h1, h2⟩, fun p hp => by cases hp⟩

/-- (*reader).readTerm at a word that opens no brackets. -/
theorem readTerm_word (R n : Nat) (x : ByteArray) (hxs : x.size ≤ 1000000) (r : List ByteArray) (hx : x ≠ opB) (b : Bool) (w : World) (hg : Gl w) (hR : 12 ≤ R) (h : RS R (x :: r) b w) :
    Calls Tryz.prog 29 #[.pointer (some ⟨R, 0, none⟩)] w (TmPost R b (readTm (n + 1) (x :: r)) w) := by
  rw [readTm_word n x r hx]
  exact readTerm_by R x hxs r b b (readWord x r) w hg hR h.lt hx (next_cons R x r b _ (h.below (w7_below w))) (fun t ws' b' hs he => ⟨hs, he⟩)
end Go.Proofs.YtnddkmccagiclaaGreatDoor
