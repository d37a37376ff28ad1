/-
  What the call of chaperonekeep.CheckLoose answers.
-/
import Derived.Test.YtnddkmccagiclaaDoorLot18a0e539e8
import Derived.Test.YtnddkmccagiclaaDoorRows
import Derived.Test.YtnddkmccagiclaaDoorLot50142594c8
import Derived.ProofKit
import Derived.Deep.Slices
import Derived.Test.YtnddkmccagiclaaDoorLot4a836e76ff
import Derived.OpenShut
import Derived.Lib.LaidTab
import Derived.Test.YtnddkmccagiclaaDoorLot028cfb6333
import Derived.Stop.LaidErr
namespace Go.Proofs.YtnddkmccagiclaaDoor
open Go.RowKit

/-- What Check tells, in one. -/
def CkInfo (x y : TT) (i : Tr) (ec : Int) (w' : World) : Prop :=
  (ec ≠ 0 ∧ (goodM 0 x.tm = false ∨ readS x.tm [] 0 = none)) ∨ (ec = 0 ∧ goodM 0 x.tm = true ∧ readS x.tm [] 0 = some (y.tm, i.ty) ∧ y.In w' ∧ i.In w' ∧ goodT 44 i = true)

theorem check_one (x : TT) (w : World) (hg : Gp w) (hx : x.In w) (hnb : x.nb) : Calls Tryd.prog 13 #[.agg #[.int .i64 x.k, .int .i64 x.n, .int .i64 x.t.k, .slice x.t.a x.t.l.length x.t.c, .int .i64 x.f.k, .slice x.f.a x.f.l.length x.f.c, .slice x.a x.l.length x.c]] w fun e w' => ∃ (y : TT) (i : Tr) (ec : Int), e = .returned (.tuple #[.agg #[.int .i64 y.k, .int .i64 y.n, .int .i64 y.t.k, .slice y.t.a y.t.l.length y.t.c, .int .i64 y.f.k, .slice y.f.a y.f.l.length y.f.c, .slice y.a y.l.length y.c], .agg #[.int .i64 i.k, .slice i.a i.l.length i.c], .int .i64 ec]) ∧ Hid (CkInfo x y i ec w') ∧ Below w.heap.size w w' := by
  refine (check_any x w hg hx hnb).mono ?_
  rintro e w' ⟨hb, ⟨h1, rfl⟩ | ⟨h1, h2, rfl⟩ | ⟨h1, y, i, h2, rfl, h3, h4, h5⟩⟩
  · exact ⟨tleaf 0 0, leaf 0, 1, rfl, .inl ⟨by omega, .inl h1⟩, hb⟩
  · exact ⟨tleaf 0 0, leaf 0, 2, rfl, .inl ⟨by omega, .inr h2⟩, hb⟩
  · exact ⟨y, i, 0, rfl, .inr ⟨rfl, h1, h2, h3, h4, h5⟩, hb⟩

set_option maxRecDepth 20000 in
set_option maxHeartbeats 8000000 in
theorem ckLoose_any (x : TT) (k : Int) (w : World) (hg : Gp w) (hx : x.In w) (hnb : x.nb) (hsz : x.lw) : Calls Tryd.prog 7 #[.agg #[.int .i64 x.k, .int .i64 x.n, .int .i64 x.t.k, .slice x.t.a x.t.l.length x.t.c, .int .i64 x.f.k, .slice x.f.a x.f.l.length x.f.c, .slice x.a x.l.length x.c], .int .i64 k] w fun e w' => e = .returned (.bool true) ∧ Below w.heap.size w w' := by
  obtain ⟨W1, hW1⟩ : ∃ W1, W1 = w.alloc (.cells #[.int .i64 x.k, .int .i64 x.n, .int .i64 x.t.k, .slice x.t.a x.t.l.length x.t.c, .int .i64 x.f.k, .slice x.f.a x.f.l.length x.f.c, .slice x.a x.l.length x.c] 27) := ⟨_, rfl⟩
  have hb1 : Below w.heap.size w W1 := by rw [hW1]; exact (Below.refl _ _).alloc (Nat.le_refl _) _
  have h7 : At7 W1 w.heap.size 0 x := by rw [hW1]; exact At7.new w x
  have HX : Hid (x.In w ∧ Gp w ∧ x.nb ∧ x.lw ∧ Below w.heap.size w W1 ∧ At7 W1 w.heap.size 0 x) := ⟨hx, hg, hnb, hsz, hb1, h7⟩
  have HC : Hid (Calls Tryd.prog 13 #[.agg #[.int .i64 x.k, .int .i64 x.n, .int .i64 x.t.k, .slice x.t.a x.t.l.length x.t.c, .int .i64 x.f.k, .slice x.f.a x.f.l.length x.f.c, .slice x.a x.l.length x.c]] W1 fun e w' => ∃ (y : TT) (i : Tr) (ec : Int), e = .returned (.tuple #[.agg #[.int .i64 y.k, .int .i64 y.n, .int .i64 y.t.k, .slice y.t.a y.t.l.length y.t.c, .int .i64 y.f.k, .slice y.f.a y.f.l.length y.f.c, .slice y.a y.l.length y.c], .agg #[.int .i64 i.k, .slice i.a i.l.length i.c], .int .i64 ec]) ∧ Hid (CkInfo x y i ec w') ∧ Below W1.heap.size W1 w') := check_one x W1 (hg.below hb1) (hx.below hb1) hnb
  obtain ⟨p0, p1, p2, p3, p4, p5, p6⟩ := h7
  simp only [Nat.zero_add] at p0 p1 p2 p3 p4 p5 p6
  clear hg hx hnb hb1 hsz
  go_enter Tryd.func7, Tryd.ntmps7
  go_wp2_with fail
  rw [← hW1]
  clear hW1
  refine HC.out.mono ?_
  rintro e w2 ⟨y, i, ec, rfl, HI, hb2⟩
  clear p0 p1 p2 p3 p4 p5 p6 HC
  obtain ⟨W3, hW3⟩ : ∃ W3, W3 = (w2.alloc (.cells #[.int .i64 y.k, .int .i64 y.n, .int .i64 y.t.k, .slice y.t.a y.t.l.length y.t.c, .int .i64 y.f.k, .slice y.f.a y.f.l.length y.f.c, .slice y.a y.l.length y.c] 27)).alloc (.cells #[.int .i64 i.k, .slice i.a i.l.length i.c] 24) := ⟨_, rfl⟩
  have hA : Below w2.heap.size w2 W3 := by rw [hW3]; exact ((Below.refl _ _).alloc (Nat.le_refl _) _).alloc (by simp) _
  have hbw : Below w.heap.size w w2 := HX.out.2.2.2.2.1.trans (hb2.mono HX.out.2.2.2.2.1.size)
  have hB3 : Below w.heap.size w W3 := hbw.trans (hA.mono hbw.size)
  obtain ⟨p0, p1, p2, p3, p4, p5, p6⟩ := (HX.out.2.2.2.2.2.below hb2).below hA
  simp only [Nat.zero_add] at p0 p1 p2 p3 p4 p5 p6
  have u0 : W3.cell? ⟨w2.heap.size + 1, 0, none⟩ = some (.int .i64 i.k) := by rw [hW3]; simp [go_sem]
  have u1 : W3.cell? ⟨w2.heap.size + 1, 1, none⟩ = some (.slice i.a i.l.length i.c) := by rw [hW3]; simp [go_sem]
  have HL : Hid (Calls Tryd.prog 30 #[.agg #[.int .i64 x.k, .int .i64 x.n, .int .i64 x.t.k, .slice x.t.a x.t.l.length x.t.c, .int .i64 x.f.k, .slice x.f.a x.f.l.length x.f.c, .slice x.a x.l.length x.c], .int .i64 k] W3 (LoPost (fun _ => True) x W3)) := loose_any x.sz _ x k W3 (Nat.le_refl _) (HX.out.1.below hB3) HX.out.2.2.1 HX.out.2.2.2.1 (HX.out.1.bl.mono fun _ _ => trivial) (fun _ _ => trivial)
  have HB : Hid (Below w.heap.size w W3 ∧ CkInfo x y i ec W3 ∧ Gp w ∧ W3.cell? ⟨w2.heap.size + 1, 0, none⟩ = some (.int .i64 i.k) ∧ W3.cell? ⟨w2.heap.size + 1, 1, none⟩ = some (.slice i.a i.l.length i.c)) := by
    refine ⟨hB3, ?_, HX.out.2.1, u0, u1⟩
    rcases HI.out with h | ⟨h1, h2, h3, h4, h5, h6⟩
    · exact .inl h
    · exact .inr ⟨h1, h2, h3, h4.below hA, h5.below hA, h6⟩
  clear hA hbw hB3 hb2 HX HI u0 u1
  go_upto_region 2 with fail
  rw [← hW3]
  clear hW3
  go_wp2_with fail
  refine HL.out.mono ?_
  rintro e w4 ⟨u, m, rfl, hlo, hui, _, hunb, hb4⟩
  clear p0 p1 p2 p3 p4 p5 p6 HL
  obtain ⟨W5, hW5⟩ : ∃ W5, W5 = w4.alloc (.cells #[.int .i64 u.k, .int .i64 u.n, .int .i64 u.t.k, .slice u.t.a u.t.l.length u.t.c, .int .i64 u.f.k, .slice u.f.a u.f.l.length u.f.c, .slice u.a u.l.length u.c] 27) := ⟨_, rfl⟩
  have hA5 : Below w4.heap.size w4 W5 := by rw [hW5]; exact (Below.refl _ _).alloc (Nat.le_refl _) _
  have hb35 : Below W3.heap.size W3 W5 := hb4.trans (hA5.mono hb4.size)
  have hbw5 : Below w.heap.size w W5 := HB.out.1.trans (hb35.mono HB.out.1.size)
  have h75 : At7 W5 w4.heap.size 0 u := by rw [hW5]; exact At7.new w4 u
  obtain ⟨p0, p1, p2, p3, p4, p5, p6⟩ := h75
  simp only [Nat.zero_add] at p0 p1 p2 p3 p4 p5 p6
  have HC2 : Hid (Calls Tryd.prog 13 #[.agg #[.int .i64 u.k, .int .i64 u.n, .int .i64 u.t.k, .slice u.t.a u.t.l.length u.t.c, .int .i64 u.f.k, .slice u.f.a u.f.l.length u.f.c, .slice u.a u.l.length u.c]] W5 fun e w' => ∃ (z : TT) (j : Tr) (ed : Int), e = .returned (.tuple #[.agg #[.int .i64 z.k, .int .i64 z.n, .int .i64 z.t.k, .slice z.t.a z.t.l.length z.t.c, .int .i64 z.f.k, .slice z.f.a z.f.l.length z.f.c, .slice z.a z.l.length z.c], .agg #[.int .i64 j.k, .slice j.a j.l.length j.c], .int .i64 ed]) ∧ Hid (CkInfo u z j ed w') ∧ Below W5.heap.size W5 w') := check_one u W5 (HB.out.2.2.1.below hbw5) (hui.below hA5) hunb
  have HLO : Hid (looser x.tm u.tm ∧ Below W3.heap.size W3 W5) := ⟨hlo, hb35⟩
  clear hA5 hb35 hbw5 hlo hui hunb hb4
  go_upto_region 3 with fail
  rw [← hW5]
  clear hW5
  go_wp2_with fail
  refine HC2.out.mono ?_
  rintro e w6 ⟨z, j, ed, rfl, HJ, hb6⟩
  clear p0 p1 p2 p3 p4 p5 p6 HC2
  obtain ⟨W7, hW7⟩ : ∃ W7, W7 = (w6.alloc (.cells #[.int .i64 z.k, .int .i64 z.n, .int .i64 z.t.k, .slice z.t.a z.t.l.length z.t.c, .int .i64 z.f.k, .slice z.f.a z.f.l.length z.f.c, .slice z.a z.l.length z.c] 27)).alloc (.cells #[.int .i64 j.k, .slice j.a j.l.length j.c] 24) := ⟨_, rfl⟩
  have hA7 : Below w6.heap.size w6 W7 := by rw [hW7]; exact ((Below.refl _ _).alloc (Nat.le_refl _) _).alloc (by simp) _
  have hb57 := hb6.trans (hA7.mono hb6.size)
  have hb37 : Below W3.heap.size W3 W7 := HLO.out.2.trans (hb57.mono HLO.out.2.size)
  have hbw7 : Below w.heap.size w W7 := HB.out.1.trans (hb37.mono HB.out.1.size)
  have u0 := cell_later hb37 HB.out.2.2.2.1
  have u1 := cell_later hb37 HB.out.2.2.2.2
  have v0 : W7.cell? ⟨w6.heap.size + 1, 0, none⟩ = some (.int .i64 j.k) := by rw [hW7]; simp [go_sem]
  have v1 : W7.cell? ⟨w6.heap.size + 1, 1, none⟩ = some (.slice j.a j.l.length j.c) := by rw [hW7]; simp [go_sem]
  have HCH : Hid (∀ W', Below w.heap.size w W' → Calls Tryd.prog 24 #[] W' fun e w' => e = .returned (.bool true) ∧ Below w.heap.size w w') := by
    intro W' hb
    refine (checks_any W' (HB.out.2.2.1.below hb)).mono ?_
    rintro e w' ⟨rfl, h⟩
    exact ⟨rfl, hb.trans (h.mono hb.size)⟩
  by_cases hec : ec = 0
  · have HD : Hid (ed = 0 ∧ Calls Tryd.prog 31 #[.agg #[.int .i64 i.k, .slice i.a i.l.length i.c], .agg #[.int .i64 j.k, .slice j.a j.l.length j.c]] W7 fun e w' => e = .returned (.bool true) ∧ Below w.heap.size w w') := by
      rcases HB.out.2.1 with ⟨h, _⟩ | ⟨_, g1, g2, g3, g4, g5⟩
      · exact absurd hec h
      obtain ⟨hok, hsz⟩ := goodM_ok g1
      obtain ⟨y', i', r1, r2⟩ := read_loose x.tm u.tm [] [] 0 y.tm i.ty HLO.out.1 hok (fun u h => by cases h) (fun u h => by cases h) (by simp [relL]) g2
      have gu := goodM_looser HLO.out.1 g1
      rcases HJ.out with ⟨_, h | h⟩ | ⟨e0, _, k2, k3, k4, k5⟩
      · rw [gu] at h; cases h
      · rw [r1] at h; cases h
      · rw [r1] at k2
        have e2 : i' = j.ty := congrArg Prod.snd (Option.some.inj k2)
        have gf := good_facts (n := 44) (by omega) g5
        refine ⟨e0, ?_⟩
        have := finer_whole i j W7 (g4.below hb37) (k4.below hA7) gf.2.1 gf.2.2
        rw [← e2, r2] at this
        refine this.mono ?_
        rintro e w' ⟨rfl, h⟩
        exact ⟨rfl, hbw7.trans (h.mono hbw7.size)⟩
    have hed := HD.out.1
    subst hec hed
    clear HB HLO HJ hA7 hb57 hb37 hbw7 hb6
    go_upto_region 4 with fail
    rw [← hW7]
    clear hW7
    go_wp2_with fail
    refine HD.out.2.mono ?_
    rintro e w8 ⟨rfl, hb8⟩
    have HB8 : Hid (Below w.heap.size w w8) := hb8
    clear hb8 HD u0 u1 v0 v1
    go_wp2_with fail
    refine (HCH.out _ HB8.out).mono ?_
    rintro e w9 ⟨rfl, hb9⟩
    have HN : Hid (Below w.heap.size w w9) := hb9
    clear hb9 HB8 HCH
    go_wp2_with fail
    go_ret
    exact ⟨rfl, HN.out⟩
  · have hne : (ec != 0) = true := by simpa using hec
    have HB8 : Hid (Below w.heap.size w W7) := hbw7
    clear hec HB HLO HJ hA7 hb57 hb37 hbw7 hb6
    go_upto_region 4 with fail
    rw [← hW7]
    clear hW7
    go_wp2_with fail
    refine (HCH.out _ HB8.out).mono ?_
    rintro e w9 ⟨rfl, hb9⟩
    have HN : Hid (Below w.heap.size w w9) := hb9
    clear hb9 HB8 HCH
    go_wp2_with fail
    go_ret
    exact ⟨rfl, HN.out⟩
end Go.Proofs.YtnddkmccagiclaaDoor

/-
  Whatever can be read as data of the type 'Type{Kind int, L []Type}' is a tree that lies in memory.
-/
namespace Go.Proofs.YtnddkmccagiclaaDoor
open Go.ChangeShapes Go.WideShapes Go.ChangeAt Go.RowKit

theorem Tryd.cells24 : Tryd.prog.cellsOf 24 = 2 := by kernel_rfl
theorem Tryd.cells22 : Tryd.prog.cellsOf 22 = 1 := by kernel_rfl
theorem Tryd.cells3 : Tryd.prog.cellsOf 3 = 1 := by kernel_rfl

theorem cell_spot {w : World} {a : Addr} {v : Value} (h : w.cell? a = some v) : a = ⟨a.block, a.off, none⟩ := by
  obtain ⟨b, o, s⟩ := a
  cases s with
  | none => rfl
  | some s =>
    unfold World.cell? at h
    split at h <;> simp at h

theorem cellsTwo {w : World} {base : Nat} {a : Addr} {u v : Value} (h : w.cells? base a 2 = some [u, v]) : w.cell? a = some u ∧ w.cell? (a.add 1) = some v := by
  unfold World.cells? at h
  split at h
  · have h0 : a.add 0 = a := by simp [Addr.add]
    simp only [List.range_succ, List.range_zero, List.nil_append, List.cons_append, List.mapM_cons, List.mapM_nil, h0] at h
    cases hu : w.cell? a with
    | none => simp [hu] at h
    | some u' =>
      cases hv : w.cell? (a.add 1) with
      | none => simp [hu, hv] at h
      | some v' =>
        simp [hu, hv] at h
        exact ⟨by rw [h.1], by rw [h.2]⟩
  · cases h

set_option maxRecDepth 100000 in
theorem tr_of {H : Type} {enc : TypeId × Value → H} {W : World} {base : Nat} {spare : Nat → Bool} {held : Bool} : ∀ (fuel : Nat) (cs : List Value) (x : DataW H × List MemPlace),
    DataW.trod enc Tryd.prog W base spare held fuel 24 cs = some x → ∃ t : Tr, cs = [.int .i64 t.k, .slice t.a t.l.length t.c] ∧ t.In W := by
  intro fuel
  induction fuel using Nat.strongRecOn with
  | _ fuel ih =>
    intro cs x h
    obtain ⟨xs, n, rfl, _, hl, hlen, hf⟩ := DataW.trod_struct Tryd.underlying24 h
    rw [Tryd.cells24] at hl
    match cs, hl with
    | [c0, c1], _ =>
      have h0 := hf 0 { name := "Kind", type := 3, offset := 0, embedded := false, tag := "", pkgPath := "", byteOffset := 0 } rfl
      have h1 := hf 1 { name := "L", type := 22, offset := 1, embedded := false, tag := "", pkgPath := "", byteOffset := 8 } rfl
      simp only [List.drop_zero, List.drop_succ_cons, Tryd.cells3, Tryd.cells22, List.take_succ_cons, List.take_zero] at h0 h1
      match xs, hlen with
      | [y0, y1], _ =>
        simp only [List.getElem?_cons_zero, List.getElem?_cons_succ] at h0 h1
        obtain ⟨k, hc0, _, _⟩ := DataW.trod_int Tryd.underlying3 h0
        simp only [List.cons.injEq, and_true] at hc0
        subst hc0
        rcases DataW.trod_slice Tryd.underlying22 h1 with ⟨hc1, _⟩ | ⟨a, len, cap, elems, rest, m, rfl, hc1, _, _, _, _, hel, hat, _⟩
        · simp only [List.cons.injEq, and_true] at hc1
          subst hc1
          exact ⟨.mk k none 0 [], rfl, Tr.In_nil _ _ _ _⟩
        · simp only [List.cons.injEq, and_true] at hc1
          subst hc1
          have hex : ∀ i, i < len → ∃ t : Tr, W.cells? base (a.add (i * 2)) 2 = some [.int .i64 t.k, .slice t.a t.l.length t.c] ∧ t.In W := by
            intro i hi
            have hi' := hat i hi
            rw [Tryd.cells24, List.getElem?_eq_getElem (by omega)] at hi'
            obtain ⟨cs', hcs, htr⟩ := Option.bind_eq_some_iff.1 hi'
            obtain ⟨t, rfl, hin⟩ := ih m (by omega) cs' _ htr
            exact ⟨t, hcs, hin⟩
          haveI : Inhabited Tr := ⟨.mk 0 none 0 []⟩
          obtain ⟨T, hT⟩ := Go.Deep.choose_lt hex
          refine ⟨.mk k (some a) cap ((List.range len).map T), by simp, ?_⟩
          refine Tr.In_mk.2 ⟨fun j hj => ?_, fun t ht => ?_⟩
          rotate_left
          · obtain ⟨i, hi, rfl⟩ := List.mem_map.1 ht
            exact (hT i (by simpa using hi)).2
          have hj' : j < len := by simpa using hj
          obtain ⟨hz, _⟩ := cellsTwo (hT 0 (by omega)).1
          simp only [Nat.zero_mul] at hz
          have ha0 : a.add 0 = a := by simp [Addr.add]
          rw [ha0] at hz
          have ha := cell_spot hz
          have hc := (hT j hj').1
          obtain ⟨c0, c1⟩ := cellsTwo hc
          have hadd : ∀ q, a.add q = ⟨a.block, a.off + q, none⟩ := by
            intro q
            rw [ha]
            unfold Addr.add
            by_cases hq : q = 0 <;> simp [hq]
          refine ⟨a.block, a.off, by rw [← ha], ?_, ?_⟩
          · rw [hadd] at c0
            simpa using c0
          · rw [Go.Deep.add_add, hadd] at c1
            simp only [List.getElem_map, List.getElem_range, Tr.sl]
            rw [show a.off + j * 2 + 1 = a.off + (j * 2 + 1) by omega]
            exact c1

set_option maxRecDepth 100000 in
/-- An argument of the type is a tree. -/
theorem tr_arg {H : Type} {enc : TypeId × Value → H} {W : World} {base b0 : Nat} {spare : Nat → Bool} {held : Bool} {r : Reach} {v : Value} {d : DataW H} {p : List MemPlace} (hv : Value.okWide Tryd.prog W r b0 24 v) (h : DataW.Trod enc Tryd.prog W base spare held 24 v d p) :
    ∃ t : Tr, v = .agg #[.int .i64 t.k, .slice t.a t.l.length t.c] ∧ t.In W := by
  obtain ⟨cs, rfl, _⟩ := okWide_struct Tryd.underlying24 hv
  obtain ⟨fuel, hf⟩ := h
  obtain ⟨t, ht, hin⟩ := tr_of fuel _ _ hf
  refine ⟨t, ?_, hin⟩
  have : cs.toList = [.int .i64 t.k, .slice t.a t.l.length t.c] := by simpa [Value.cells] using ht
  rw [← this]
end Go.Proofs.YtnddkmccagiclaaDoor

/-
  Whatever can be read as data of the type 'Term' is a term's tree that lies in memory.
-/
namespace Go.Proofs.YtnddkmccagiclaaDoor
open Go.ChangeShapes Go.WideShapes Go.ChangeAt Go.RowKit

theorem Tryd.cells27 : Tryd.prog.cellsOf 27 = 7 := by kernel_rfl
theorem Tryd.cells25 : Tryd.prog.cellsOf 25 = 1 := by kernel_rfl

theorem cells_seven {w : World} {base : Nat} {a : Addr} {l : List Value} (h : w.cells? base a 7 = some l) : ∀ i, i < 7 → w.cell? (a.add i) = l[i]? := by
  unfold World.cells? at h
  split at h
  · intro i hi
    have hm := Lib.mapM_at h i i (by simp [hi])
    obtain ⟨b, hb, hf⟩ := hm
    rw [hb]
    exact hf
  · cases h

theorem int_le {n : Int} (h : (Lit.int .i64 n).wf = true) : n ≤ 9223372036854775807 := (bounds_i64 h).2

set_option maxRecDepth 100000 in
theorem tm_of {H : Type} {enc : TypeId × Value → H} {W : World} {base : Nat} {spare : Nat → Bool} {held : Bool} : ∀ (fuel : Nat) (cs : List Value) (x : DataW H × List MemPlace),
    DataW.trod enc Tryd.prog W base spare held fuel 27 cs = some x → ∃ t : TT, cs = [.int .i64 t.k, .int .i64 t.n, .int .i64 t.t.k, .slice t.t.a t.t.l.length t.t.c, .int .i64 t.f.k, .slice t.f.a t.f.l.length t.f.c, .slice t.a t.l.length t.c] ∧ t.In W ∧ t.nb := by
  intro fuel
  induction fuel using Nat.strongRecOn with
  | _ fuel ih =>
    intro cs x h
    obtain ⟨xs, n, rfl, _, hl, hlen, hf⟩ := DataW.trod_struct Tryd.underlying27 h
    rw [Tryd.cells27] at hl
    match cs, hl with
    | [c0, c1, c2, c3, c4, c5, c6], _ =>
      have h0 := hf 0 { name := "Kind", type := 3, offset := 0, embedded := false, tag := "", pkgPath := "", byteOffset := 0 } rfl
      have h1 := hf 1 { name := "N", type := 3, offset := 1, embedded := false, tag := "", pkgPath := "", byteOffset := 8 } rfl
      have h2 := hf 2 { name := "T", type := 24, offset := 2, embedded := false, tag := "", pkgPath := "", byteOffset := 16 } rfl
      have h3 := hf 3 { name := "From", type := 24, offset := 4, embedded := false, tag := "", pkgPath := "", byteOffset := 48 } rfl
      have h4 := hf 4 { name := "L", type := 25, offset := 6, embedded := false, tag := "", pkgPath := "", byteOffset := 80 } rfl
      simp only [List.drop_zero, List.drop_succ_cons, Tryd.cells3, Tryd.cells24, Tryd.cells25, List.take_succ_cons, List.take_zero] at h0 h1 h2 h3 h4
      match xs, hlen with
      | [y0, y1, y2, y3, y4], _ =>
        simp only [List.getElem?_cons_zero, List.getElem?_cons_succ] at h0 h1 h2 h3 h4
        obtain ⟨k, hc0, _, _⟩ := DataW.trod_int Tryd.underlying3 h0
        obtain ⟨nn, hc1, _, hwf⟩ := DataW.trod_int Tryd.underlying3 h1
        obtain ⟨t, hc2, ht⟩ := tr_of n _ _ h2
        obtain ⟨f, hc4, hfi⟩ := tr_of n _ _ h3
        simp only [List.cons.injEq, and_true] at hc0 hc1 hc2 hc4
        obtain ⟨rfl, rfl⟩ := hc2
        obtain ⟨rfl, rfl⟩ := hc4
        subst hc0 hc1
        rcases DataW.trod_slice Tryd.underlying25 h4 with ⟨hc6, _⟩ | ⟨a, len, cap, elems, rest, m, rfl, hc6, _, _, _, _, hel, hat, _⟩
        · simp only [List.cons.injEq, and_true] at hc6
          subst hc6
          exact ⟨.mk k nn t f none 0 [], rfl, TT.In_mk.2 ⟨ht, hfi, fun j h => absurd h (by simp), fun t h => by cases h⟩, TT.nb_mk.2 ⟨int_le hwf, fun t h => by cases h⟩⟩
        · simp only [List.cons.injEq, and_true] at hc6
          subst hc6
          have hex : ∀ i, i < len → ∃ t : TT, W.cells? base (a.add (i * 7)) 7 = some [.int .i64 t.k, .int .i64 t.n, .int .i64 t.t.k, .slice t.t.a t.t.l.length t.t.c, .int .i64 t.f.k, .slice t.f.a t.f.l.length t.f.c, .slice t.a t.l.length t.c] ∧ t.In W ∧ t.nb := by
            intro i hi
            have hi' := hat i hi
            rw [Tryd.cells27, List.getElem?_eq_getElem (by omega)] at hi'
            obtain ⟨cs', hcs, htr⟩ := Option.bind_eq_some_iff.1 hi'
            obtain ⟨t, rfl, hin⟩ := ih m (by omega) cs' _ htr
            exact ⟨t, hcs, hin⟩
          haveI : Inhabited TT := ⟨tleaf 0 0⟩
          obtain ⟨T, hT⟩ := Go.Deep.choose_lt hex
          refine ⟨.mk k nn t f (some a) cap ((List.range len).map T), by simp, ?_, ?_⟩
          · refine TT.In_mk.2 ⟨ht, hfi, fun j hj => ?_, fun t ht => ?_⟩
            rotate_left
            · obtain ⟨i, hi, rfl⟩ := List.mem_map.1 ht
              exact (hT i (by simpa using hi)).2.1
            have hj' : j < len := by simpa using hj
            have hz := cells_seven (hT 0 (by omega)).1 0 (by omega)
            simp only [Nat.zero_mul, List.getElem?_cons_zero] at hz
            have ha0 : (a.add 0).add 0 = a := by simp [Addr.add]
            rw [ha0] at hz
            have ha := cell_spot hz
            have hc := cells_seven (hT j hj').1
            have hadd : ∀ q, a.add q = ⟨a.block, a.off + q, none⟩ := by
              intro q
              rw [ha]
              unfold Addr.add
              by_cases hq : q = 0 <;> simp [hq]
            have hat7 : ∀ i, i < 7 → W.cell? ⟨a.block, a.off + j * 7 + i, none⟩ = [Value.int .i64 (T j).k, .int .i64 (T j).n, .int .i64 (T j).t.k, .slice (T j).t.a (T j).t.l.length (T j).t.c, .int .i64 (T j).f.k, .slice (T j).f.a (T j).f.l.length (T j).f.c, .slice (T j).a (T j).l.length (T j).c][i]? := by
              intro i hi
              have := hc i hi
              rw [Go.Deep.add_add, hadd] at this
              rw [show a.off + j * 7 + i = a.off + (j * 7 + i) by omega]
              exact this
            refine ⟨a.block, a.off, by rw [← ha], ?_⟩
            simp only [List.getElem_map, List.getElem_range]
            exact ⟨hat7 0 (by omega), hat7 1 (by omega), hat7 2 (by omega), hat7 3 (by omega), hat7 4 (by omega), hat7 5 (by omega), hat7 6 (by omega)⟩
          · refine TT.nb_mk.2 ⟨int_le hwf, fun t ht => ?_⟩
            obtain ⟨i, hi, rfl⟩ := List.mem_map.1 ht
            exact (hT i (by simpa using hi)).2.2

set_option maxRecDepth 100000 in
/-- An argument of the type is a term's tree. -/
theorem tm_arg {H : Type} {enc : TypeId × Value → H} {W : World} {base b0 : Nat} {spare : Nat → Bool} {held : Bool} {r : Reach} {v : Value} {d : DataW H} {p : List MemPlace} (hv : Value.okWide Tryd.prog W r b0 27 v) (h : DataW.Trod enc Tryd.prog W base spare held 27 v d p) :
    ∃ t : TT, v = .agg #[.int .i64 t.k, .int .i64 t.n, .int .i64 t.t.k, .slice t.t.a t.t.l.length t.t.c, .int .i64 t.f.k, .slice t.f.a t.f.l.length t.f.c, .slice t.a t.l.length t.c] ∧ t.In W ∧ t.nb := by
  obtain ⟨cs, rfl, _⟩ := okWide_struct Tryd.underlying27 hv
  obtain ⟨fuel, hf⟩ := h
  obtain ⟨t, ht, hin⟩ := tm_of fuel _ _ hf
  refine ⟨t, ?_, hin⟩
  have : cs.toList = [.int .i64 t.k, .int .i64 t.n, .int .i64 t.t.k, .slice t.t.a t.t.l.length t.t.c, .int .i64 t.f.k, .slice t.f.a t.f.l.length t.f.c, .slice t.a t.l.length t.c] := by simpa [Value.cells] using ht
  rw [← this]
end Go.Proofs.YtnddkmccagiclaaDoor

/-
  Whatever can be read as data of the type 'Term' is a term's tree that lies in memory; its lists are no longer than what memory holds.
-/
namespace Go.Proofs.YtnddkmccagiclaaDoor
open Go.ChangeShapes Go.WideShapes Go.ChangeAt Go.RowKit

theorem bytes27 : Tryd.prog.bytesOf 27 = 104 := by kernel_rfl

theorem weightsAll_mem {H : Type} {P : Program} {e : TypeId} {d : DataW H} {q : Nat} : ∀ {l : List (DataW H)}, d ∈ l → q ∈ DataW.weights P e d → q ∈ DataW.weightsAll P e l
  | [], h, _ => by cases h
  | a :: r, h, hq => by
    simp only [DataW.weightsAll, List.mem_append]
    rcases List.mem_cons.1 h with rfl | h
    · exact .inl hq
    · exact .inr (weightsAll_mem h hq)

set_option maxRecDepth 100000 in
theorem tm_of_w {H : Type} {enc : TypeId × Value → H} {W : World} {base : Nat} {spare : Nat → Bool} {held : Bool} : ∀ (fuel : Nat) (cs : List Value) (x : DataW H × List MemPlace),
    DataW.trod enc Tryd.prog W base spare held fuel 27 cs = some x → ∃ t : TT, cs = [.int .i64 t.k, .int .i64 t.n, .int .i64 t.t.k, .slice t.t.a t.t.l.length t.t.c, .int .i64 t.f.k, .slice t.f.a t.f.l.length t.f.c, .slice t.a t.l.length t.c] ∧ t.In W ∧ t.nb ∧ ((∀ q, q ∈ DataW.weights Tryd.prog 27 x.1 → q ≤ reachBytes) → t.lw) := by
  intro fuel
  induction fuel using Nat.strongRecOn with
  | _ fuel ih =>
    intro cs x h
    obtain ⟨xs, n, rfl, rfl, hl, hlen, hf⟩ := DataW.trod_struct Tryd.underlying27 h
    rw [Tryd.cells27] at hl
    match cs, hl with
    | [c0, c1, c2, c3, c4, c5, c6], _ =>
      have h0 := hf 0 { name := "Kind", type := 3, offset := 0, embedded := false, tag := "", pkgPath := "", byteOffset := 0 } rfl
      have h1 := hf 1 { name := "N", type := 3, offset := 1, embedded := false, tag := "", pkgPath := "", byteOffset := 8 } rfl
      have h2 := hf 2 { name := "T", type := 24, offset := 2, embedded := false, tag := "", pkgPath := "", byteOffset := 16 } rfl
      have h3 := hf 3 { name := "From", type := 24, offset := 4, embedded := false, tag := "", pkgPath := "", byteOffset := 48 } rfl
      have h4 := hf 4 { name := "L", type := 25, offset := 6, embedded := false, tag := "", pkgPath := "", byteOffset := 80 } rfl
      simp only [List.drop_zero, List.drop_succ_cons, Tryd.cells3, Tryd.cells24, Tryd.cells25, List.take_succ_cons, List.take_zero] at h0 h1 h2 h3 h4
      match xs, hlen with
      | [y0, y1, y2, y3, y4], _ =>
        simp only [List.getElem?_cons_zero, List.getElem?_cons_succ] at h0 h1 h2 h3 h4
        obtain ⟨k, hc0, _, _⟩ := DataW.trod_int Tryd.underlying3 h0
        obtain ⟨nn, hc1, _, hwf⟩ := DataW.trod_int Tryd.underlying3 h1
        obtain ⟨t, hc2, ht⟩ := tr_of n _ _ h2
        obtain ⟨f, hc4, hfi⟩ := tr_of n _ _ h3
        simp only [List.cons.injEq, and_true] at hc0 hc1 hc2 hc4
        obtain ⟨rfl, rfl⟩ := hc2
        obtain ⟨rfl, rfl⟩ := hc4
        subst hc0 hc1
        rcases DataW.trod_slice Tryd.underlying25 h4 with ⟨hc6, _⟩ | ⟨a, len, cap, elems, rest, m, rfl, hc6, rfl, _, _, _, hel, hat, _⟩
        · simp only [List.cons.injEq, and_true] at hc6
          subst hc6
          exact ⟨.mk k nn t f none 0 [], rfl, TT.In_mk.2 ⟨ht, hfi, fun j h => absurd h (by simp), fun t h => by cases h⟩, TT.nb_mk.2 ⟨int_le hwf, fun t h => by cases h⟩, fun _ => TT.lw_mk.2 ⟨by simp, fun y h => by cases h⟩⟩
        · simp only [List.cons.injEq, and_true] at hc6
          subst hc6
          have hex : ∀ i, i < len → ∃ t : TT, W.cells? base (a.add (i * 7)) 7 = some [.int .i64 t.k, .int .i64 t.n, .int .i64 t.t.k, .slice t.t.a t.t.l.length t.t.c, .int .i64 t.f.k, .slice t.f.a t.f.l.length t.f.c, .slice t.a t.l.length t.c] ∧ t.In W ∧ t.nb ∧ ∀ (hi : i < (elems.map fun y : DataW H × List MemPlace => y.1).length), (∀ q, q ∈ DataW.weights Tryd.prog 27 (elems.map fun y : DataW H × List MemPlace => y.1)[i] → q ≤ reachBytes) → t.lw := by
            intro i hi
            have hi' := hat i hi
            rw [Tryd.cells27, List.getElem?_eq_getElem (by omega)] at hi'
            obtain ⟨cs', hcs, htr⟩ := Option.bind_eq_some_iff.1 hi'
            obtain ⟨t, rfl, hin, hnb, hw⟩ := ih m (by omega) cs' _ htr
            exact ⟨t, hcs, hin, hnb, fun hi2 hq => hw (by rw [List.getElem_map] at hq; exact hq)⟩
          haveI : Inhabited TT := ⟨tleaf 0 0⟩
          obtain ⟨T, hT⟩ := Go.Deep.choose_lt hex
          refine ⟨.mk k nn t f (some a) cap ((List.range len).map T), by simp, ?_, ?_, ?_⟩
          · refine TT.In_mk.2 ⟨ht, hfi, fun j hj => ?_, fun t ht => ?_⟩
            rotate_left
            · obtain ⟨i, hi, rfl⟩ := List.mem_map.1 ht
              exact (hT i (by simpa using hi)).2.1
            have hj' : j < len := by simpa using hj
            have hz := cells_seven (hT 0 (by omega)).1 0 (by omega)
            simp only [Nat.zero_mul, List.getElem?_cons_zero] at hz
            have ha0 : (a.add 0).add 0 = a := by simp [Addr.add]
            rw [ha0] at hz
            have ha := cell_spot hz
            have hc := cells_seven (hT j hj').1
            have hadd : ∀ q, a.add q = ⟨a.block, a.off + q, none⟩ := by
              intro q
              rw [ha]
              unfold Addr.add
              by_cases hq : q = 0 <;> simp [hq]
            have hat7 : ∀ i, i < 7 → W.cell? ⟨a.block, a.off + j * 7 + i, none⟩ = [Value.int .i64 (T j).k, .int .i64 (T j).n, .int .i64 (T j).t.k, .slice (T j).t.a (T j).t.l.length (T j).t.c, .int .i64 (T j).f.k, .slice (T j).f.a (T j).f.l.length (T j).f.c, .slice (T j).a (T j).l.length (T j).c][i]? := by
              intro i hi
              have := hc i hi
              rw [Go.Deep.add_add, hadd] at this
              rw [show a.off + j * 7 + i = a.off + (j * 7 + i) by omega]
              exact this
            refine ⟨a.block, a.off, by rw [← ha], ?_⟩
            simp only [List.getElem_map, List.getElem_range]
            exact ⟨hat7 0 (by omega), hat7 1 (by omega), hat7 2 (by omega), hat7 3 (by omega), hat7 4 (by omega), hat7 5 (by omega), hat7 6 (by omega)⟩
          · refine TT.nb_mk.2 ⟨int_le hwf, fun t ht => ?_⟩
            obtain ⟨i, hi, rfl⟩ := List.mem_map.1 ht
            exact (hT i (by simpa using hi)).2.2.1
          · intro hq
            have hall : ∀ q, q ∈ DataW.weights Tryd.prog 25 (.slice (elems.map fun y : DataW H × List MemPlace => y.1) (rest.map fun y : DataW H × List MemPlace => y.1)) → q ≤ reachBytes := by
              intro q hqm
              refine hq q ?_
              simp only [DataW.weights, Tryd.underlying27]
              simp only [List.map_cons, List.map_nil, DataW.weightsEach, List.mem_append]
              exact .inr (.inr (.inr (.inr (.inl hqm))))
            simp only [DataW.weights, Tryd.underlying25, bytes27] at hall
            have hlen0 : len ≤ 1353245080300 := by
              have := hall _ (List.mem_cons_self)
              have h2 : (elems.map fun y : DataW H × List MemPlace => y.1).length = len := by simpa using hel
              rw [h2] at this
              unfold reachBytes at this
              omega
            refine TT.lw_mk.2 ⟨by simpa using hlen0, fun y hy => ?_⟩
            obtain ⟨i, hi, rfl⟩ := List.mem_map.1 hy
            have hi' : i < len := by simpa using hi
            refine (hT i hi').2.2.2 (by simpa [hel] using hi') fun q hqm => hall q ?_
            exact List.mem_cons_of_mem _ (List.mem_append.2 (.inl (weightsAll_mem (List.getElem_mem _) hqm)))

set_option maxRecDepth 100000 in
/-- An argument of the type is a term's tree. -/
theorem tm_arg_w {H : Type} {enc : TypeId × Value → H} {W : World} {base b0 : Nat} {spare : Nat → Bool} {held : Bool} {r : Reach} {v : Value} {d : DataW H} {p : List MemPlace} (hv : Value.okWide Tryd.prog W r b0 27 v) (h : DataW.Trod enc Tryd.prog W base spare held 27 v d p) :
    ∃ t : TT, v = .agg #[.int .i64 t.k, .int .i64 t.n, .int .i64 t.t.k, .slice t.t.a t.t.l.length t.t.c, .int .i64 t.f.k, .slice t.f.a t.f.l.length t.f.c, .slice t.a t.l.length t.c] ∧ t.In W ∧ t.nb ∧ ((∀ q, q ∈ DataW.weights Tryd.prog 27 d → q ≤ reachBytes) → t.lw) := by
  obtain ⟨cs, rfl, _⟩ := okWide_struct Tryd.underlying27 hv
  obtain ⟨fuel, hf⟩ := h
  obtain ⟨t, ht, hin⟩ := tm_of_w fuel _ _ hf
  refine ⟨t, ?_, hin⟩
  have : cs.toList = [.int .i64 t.k, .int .i64 t.n, .int .i64 t.t.k, .slice t.t.a t.t.l.length t.t.c, .int .i64 t.f.k, .slice t.f.a t.f.l.length t.f.c, .slice t.a t.l.length t.c] := by simpa [Value.cells] using ht
  rw [← this]
end Go.Proofs.YtnddkmccagiclaaDoor

/-
  What the row's list of one package-level variable gives: the table of parts holds what it was laid with.
-/
namespace Go.Proofs.YtnddkmccagiclaaDoor
open Go.ChangeShapes Go.RowKit

/-- The head of the list. -/
theorem gp_head {n : String} {d : DataW Unit} {r : List (String × DataW Unit)} {W : World} {g t : Nat} (h : laidMet Tryd.prog ((n, d) :: r) W) (hg : Tryd.prog.globalNamed n = some g) (ht : (Tryd.prog.globals[g]?).map (·.type) = some t) :
    ∃ (cs : Array Value) (fuel : Nat) (p : List MemPlace), Vc W g cs ∧ DataW.trod (fun _ => ()) Tryd.prog W 0 (fun _ => true) false fuel t cs.toList = some (d, p) := by
  obtain ⟨ps, ⟨g', t', cs, fuel, p, q, hg', ht', hvar, hd, _, _⟩, _⟩ := h
  obtain rfl := Option.some.inj (hg.symm.trans hg')
  obtain rfl := Option.some.inj (ht.symm.trans ht')
  refine ⟨cs, fuel, p, ?_, hd⟩
  unfold World.var? at hvar
  rw [hg] at hvar
  simp only [Option.bind_some] at hvar
  split at hvar
  · rename_i cs' t fr hh
    cases hvar
    exact ⟨t, fr, hh⟩
  · cases hvar

theorem gp_cells122 : Tryd.prog.cellsOf 122 = 10 := by kernel_rfl
theorem gp_cells3 : Tryd.prog.cellsOf 3 = 1 := by kernel_rfl

theorem gp_of {r : List (String × DataW Unit)} {W : World} (h : laidMet Tryd.prog (("chaperone/term.parts", Rows.laid_chaperone_term_parts) :: r) W) : Gp W := by
  obtain ⟨cs, fuel, p, hv, ht⟩ := gp_head h (g := 2) (t := 122) (by kernel_rfl) (by kernel_rfl)
  have e := Lib.cells_of_tab (zs := [0, 0, 0, 0, 2, 2, 3, 1, 2, 1]) Tryd.underlying122 Tryd.underlying3 gp_cells3 gp_cells122 ht
  refine ⟨?_⟩
  have e2 : cs = #[.int .i64 0, .int .i64 0, .int .i64 0, .int .i64 0, .int .i64 2, .int .i64 2, .int .i64 3, .int .i64 1, .int .i64 2, .int .i64 1] := by
    cases cs
    simpa using e
  rw [← e2]
  exact hv
end Go.Proofs.YtnddkmccagiclaaDoor
