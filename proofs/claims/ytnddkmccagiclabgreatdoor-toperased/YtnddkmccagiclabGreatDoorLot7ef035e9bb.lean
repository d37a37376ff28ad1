/-
  What the call of chaperonetop.TopErased answers: true.
-/
import Derived.Test.YtnddkmccagiclabGreatDoorLot9ce1b4e4db
import Derived.Test.YtnddkmccagiclabGreatDoorRows
import Derived.Test.YtnddkmccagiclabGreatDoorLot42e30419a3
import Derived.ProofKit
import Derived.Deep.Slices
import Derived.Test.YtnddkmccagiclabGreatDoorLotabeb265aa8
import Derived.OpenShut
import Derived.Lib.LaidTab
import Derived.Test.YtnddkmccagiclabGreatDoorLotfe12dc4cba
import Derived.Test.YtnddkmccagiclabGreatDoorLot4391976b8a
import Derived.Stop.LaidErr
namespace Go.Proofs.YtnddkmccagiclabGreatDoor
open Go.RowKit
/-- As long as nobody is blamed types change nothing. -/
theorem erased_ways (x : Tm) (f : Int) : ((runR x f).2 != 0) = true ∨ ((runR x f).2 = 0 ∧ (bareR x f).2 = 0 ∧ ((runR x f).1.k = 4 ∨ ((runR x f).1.k ≠ 4 ∧ (bareR x f).1 = (runR x f).1))) := by
  rcases runR_cases x f with ⟨_, h⟩ | ⟨h0, hgd, f1, f2, y, i, hrd, hrun⟩
  · exact .inl h
  · refine .inr ⟨h0, ?_⟩
    have hb : bareR x f = (runM (eraseM x) f.toNat, 0) := by unfold bareR; rw [if_pos hgd, if_neg (by omega)]
    have hb1 : (bareR x f).1 = runM (eraseM x) f.toNat := by rw [hb]
    refine ⟨by rw [hb], ?_⟩
    obtain ⟨sy, zy, ty⟩ := check_run hgd hrd
    obtain ⟨hok, hsz⟩ := goodM_ok hgd
    have her := (read_sites x [] 0 y i hok (fun u hu => by cases hu) hrd).er
    have := runM_erase sy zy (by omega : f.toNat ≤ 100) ty
    rw [her, ← hrun, ← hb1] at this
    by_cases h4 : (runR x f).1.k = 4
    · exact .inl h4
    · exact .inr ⟨h4, this.resolve_left h4⟩
set_option maxRecDepth 20000 in
set_option maxHeartbeats 8000000 in
/-- chaperonetop.TopErased. -/
theorem topErased_any (x : TT) (f : Int) (w : World) (hg : Gl w) (hx : x.In w) (hnb : x.nb) :
    Calls Tryz.prog 5 #[.agg #[.int .i64 x.k, .int .i64 x.n, .int .i64 x.t.k, .slice x.t.a x.t.l.length x.t.c, .int .i64 x.f.k, .slice x.f.a x.f.l.length x.f.c, .slice x.a x.l.length x.c], .int .i64 f] w fun e w' => e = .returned (.bool true) ∧ Below w.heap.size w w' := by
  obtain ⟨W1, hW1⟩ : ∃ W, W = w.alloc (.cells #[.int .i64 x.k, .int .i64 x.n, .int .i64 x.t.k, .slice x.t.a x.t.l.length x.t.c, .int .i64 x.f.k, .slice x.f.a x.f.l.length x.f.c, .slice x.a x.l.length x.c] 27) := ⟨_, rfl⟩
  have hb1 : Below w.heap.size w W1 := by rw [hW1]; exact (Below.refl _ _).alloc (Nat.le_refl _) _
  have h7 : At7 W1 w.heap.size 0 x := by constructor <;> (rw [hW1]; simp [go_sem])
  have HR : Hid (Calls Tryz.prog 11 #[.agg #[.int .i64 x.k, .int .i64 x.n, .int .i64 x.t.k, .slice x.t.a x.t.l.length x.t.c, .int .i64 x.f.k, .slice x.f.a x.f.l.length x.f.c, .slice x.a x.l.length x.c], .int .i64 f] W1 (OutPost (runR x.tm f) W1)) := runFn_any x f W1 (hg.below hb1).gp (hx.below hb1) hnb
  have HX : Hid (∀ W, Below W1.heap.size W1 W → At7 W w.heap.size 0 x ∧ x.In W ∧ Gl W ∧ Below w.heap.size w W) := fun W hW => ⟨h7.below hW, (hx.below hb1).below hW, (hg.below hb1).below hW, hb1.trans (hW.mono hb1.size)⟩
  have HNB : Hid x.nb := hnb
  have HA : Hid (∀ W, Below W1.heap.size W1 W → Calls Tryz.prog 12 #[] W fun e w' => e = .returned (.bool true) ∧ Hid (Below w.heap.size w w')) := fun W hW => by
    refine (alive_any W (HX.out W hW).2.2.1).mono ?_
    rintro e w' ⟨rfl, hb⟩
    exact ⟨rfl, (HX.out W hW).2.2.2.trans (hb.mono (HX.out W hW).2.2.2.size)⟩
  obtain ⟨r, hr⟩ : ∃ r, r = runR x.tm f := ⟨_, rfl⟩
  obtain ⟨q, hq⟩ : ∃ q, q = bareR x.tm f := ⟨_, rfl⟩
  have hcases := erased_ways x.tm f
  rw [← hr] at HR hcases
  rw [← hq] at hcases
  clear hr hb1 h7 hg hx hnb
  go_enter Tryz.func5, Tryz.ntmps5
  go_wp2_with fail
  rw [← hW1]
  clear hW1
  refine HR.out.mono ?_
  rintro e w2 ⟨rfl, hb2⟩
  obtain ⟨W3, hW3⟩ : ∃ W, W = w2.alloc (.cells #[.int .i64 r.1.k, .int .i64 r.1.n, .bool r.1.b] 29) := ⟨_, rfl⟩
  have hA2 : Below w2.heap.size w2 W3 := by rw [hW3]; exact (Below.refl _ _).alloc (Nat.le_refl _) _
  have hA : Below W1.heap.size W1 W3 := hb2.trans (hA2.mono hb2.size)
  have p0 : W3.cell? ⟨w2.heap.size, 0, none⟩ = some (.int .i64 r.1.k) := by rw [hW3]; simp [go_sem]
  have p1 : W3.cell? ⟨w2.heap.size, 1, none⟩ = some (.int .i64 r.1.n) := by rw [hW3]; simp [go_sem]
  have p2 : W3.cell? ⟨w2.heap.size, 2, none⟩ = some (.bool r.1.b) := by rw [hW3]; simp [go_sem]
  have lw2 : w2.heap.size < W3.heap.size := World.block_lt_of_cell? _ _ p0
  have HB3 : Hid (Below W1.heap.size W1 W3) := hA
  clear hb2 hA2 hA HR
  have HQ : Hid (Calls Tryz.prog 14 #[.agg #[.int .i64 x.k, .int .i64 x.n, .int .i64 x.t.k, .slice x.t.a x.t.l.length x.t.c, .int .i64 x.f.k, .slice x.f.a x.f.l.length x.f.c, .slice x.a x.l.length x.c], .int .i64 f] W3 fun e w' => e = .returned (.tuple #[.agg #[.int .i64 q.1.k, .int .i64 q.1.n, .bool q.1.b], .int .i64 q.2]) ∧ Below W1.heap.size W1 w' ∧ Below W3.heap.size W3 w') := by
    obtain ⟨_, xi, xg, _⟩ := HX.out W3 HB3.out
    refine (bareFn_any x f W3 xg.gp xi HNB.out).mono ?_
    rintro e w' ⟨he, hb⟩
    rw [hq]
    exact ⟨he, HB3.out.trans (hb.mono HB3.out.size), hb⟩
  obtain ⟨a0, a1, a2, a3, a4, a5, a6⟩ := (HX.out W3 HB3.out).1
  simp only [Nat.zero_add] at a0 a1 a2 a3 a4 a5 a6
  have lx : w.heap.size < W3.heap.size := World.block_lt_of_cell? _ _ a0
  clear hq
  go_upto_region 2 with fail
  rw [← hW3]
  clear hW3
  go_wp2_with fail
  refine HQ.out.mono ?_
  rintro e w4 ⟨rfl, hb4, hb34⟩
  obtain ⟨W5, hW5⟩ : ∃ W, W = w4.alloc (.cells #[.int .i64 q.1.k, .int .i64 q.1.n, .bool q.1.b] 29) := ⟨_, rfl⟩
  have hA5 : Below w4.heap.size w4 W5 := by rw [hW5]; exact (Below.refl _ _).alloc (Nat.le_refl _) _
  have h35 : Below W3.heap.size W3 W5 := hb34.trans (hA5.mono hb34.size)
  have h15 : Below W1.heap.size W1 W5 := hb4.trans (hA5.mono hb4.size)
  have s0 := cell_later h35 p0
  have s1 := cell_later h35 p1
  have s2 := cell_later h35 p2
  have ls : w2.heap.size < W5.heap.size := World.block_lt_of_cell? _ _ s0
  have t0 : W5.cell? ⟨w4.heap.size, 0, none⟩ = some (.int .i64 q.1.k) := by rw [hW5]; simp [go_sem]
  have t1 : W5.cell? ⟨w4.heap.size, 1, none⟩ = some (.int .i64 q.1.n) := by rw [hW5]; simp [go_sem]
  have t2 : W5.cell? ⟨w4.heap.size, 2, none⟩ = some (.bool q.1.b) := by rw [hW5]; simp [go_sem]
  have lt : w4.heap.size < W5.heap.size := World.block_lt_of_cell? _ _ t0
  have HAl : Hid (Calls Tryz.prog 12 #[] W5 fun e w' => e = .returned (.bool true) ∧ Hid (Below w.heap.size w w')) := HA.out W5 h15
  clear hb4 hb34 hA5 h35 h15 HA HX HNB HQ HB3 a0 a1 a2 a3 a4 a5 a6 lx p0 p1 p2 lw2
  obtain ⟨o, r2⟩ := r
  obtain ⟨b, q2⟩ := q
  simp only at hcases s0 s1 s2 t0 t1 t2 hW5
  rcases hcases with he | ⟨rfl, rfl, h4 | ⟨h4, rfl⟩⟩
  · go_upto_region 3 with fail
    rw [← hW5]
    clear hW5
    go_wp2_with fail
    refine HAl.out.mono ?_
    rintro e w6 ⟨rfl, HB⟩
    go_wp2_with fail
    go_ret
    exact ⟨rfl, HB.out⟩
  · have e4 : (o.k == 4) = true := by simpa using h4
    clear h4
    go_upto_region 3 with fail
    rw [← hW5]
    clear hW5
    go_wp2_with fail
    refine HAl.out.mono ?_
    rintro e w6 ⟨rfl, HB⟩
    go_wp2_with fail
    go_ret
    exact ⟨rfl, HB.out⟩
  · have e4 : (b.k == 4) = false := by simpa using h4
    clear h4
    go_upto_region 3 with fail
    rw [← hW5]
    clear hW5
    go_wp2_with fail
    refine HAl.out.mono ?_
    rintro e w6 ⟨rfl, HB⟩
    go_wp2_with fail
    go_ret
    exact ⟨rfl, HB.out⟩
end Go.Proofs.YtnddkmccagiclabGreatDoor

/-
  Whatever can be read as data of the type 'Type{Kind int, L []Type}' is a tree that lies in memory.
-/
namespace Go.Proofs.YtnddkmccagiclabGreatDoor
open Go.ChangeShapes Go.WideShapes Go.ChangeAt Go.RowKit
theorem Tryz.cells24 : Tryz.prog.cellsOf 24 = 2 := by kernel_rfl
theorem Tryz.cells22 : Tryz.prog.cellsOf 22 = 1 := by kernel_rfl
theorem Tryz.cells3 : Tryz.prog.cellsOf 3 = 1 := by kernel_rfl
theorem cell_spot {w : World} {a : Addr} {v : Value} (h : w.cell? a = some v) : a = ⟨a.block, a.off, none⟩ := by
  obtain ⟨b, o, s⟩ := a
  cases s with
  | none => rfl
  | some s =>
    unfold World.cell? at h
    split at h <;> simp at h
theorem cellsTwo {w : World} {base : Nat} {a : Addr} {u v : Value} (h : w.cells? base a 2 = some [u, v]) : w.cell? a = some u ∧ w.cell? (a.add 1) = some v := by
  unfold World.cells? at h
  split at h
  · have h0 : a.add 0 = a := by simp [Addr.add]
    simp only [List.range_succ, List.range_zero, List.nil_append, List.cons_append, List.mapM_cons, List.mapM_nil, h0] at h
    cases hu : w.cell? a with
    | none => simp [hu] at h
    | some u' =>
      cases hv : w.cell? (a.add 1) with
      | none => simp [hu, hv] at h
      | some v' =>
        simp [hu, hv] at h
        exact ⟨by rw [h.1], by rw [h.2]⟩
  · cases h
set_option maxRecDepth 100000 in
theorem tr_of {H : Type} {enc : TypeId × Value → H} {W : World} {base : Nat} {spare : Nat → Bool} {held : Bool} : ∀ (fuel : Nat) (cs : List Value) (x : DataW H × List MemPlace),
    DataW.trod enc Tryz.prog W base spare held fuel 24 cs = some x → ∃ t : Tr, cs = [.int .i64 t.k, .slice t.a t.l.length t.c] ∧ t.In W := by
  intro fuel
  induction fuel using Nat.strongRecOn with
  | _ fuel ih =>
    intro cs x h
    obtain ⟨xs, n, rfl, _, hl, hlen, hf⟩ := DataW.trod_struct Tryz.underlying24 h
    rw [Tryz.cells24] at hl
    match cs, hl with
    | [c0, c1], _ =>
      have h0 := hf 0 { name := "Kind", type := 3, offset := 0, embedded := false, tag := "", pkgPath := "", byteOffset := 0 } rfl
      have h1 := hf 1 { name := "L", type := 22, offset := 1, embedded := false, tag := "", pkgPath := "", byteOffset := 8 } rfl
      simp only [List.drop_zero, List.drop_succ_cons, Tryz.cells3, Tryz.cells22, List.take_succ_cons, List.take_zero] at h0 h1
      match xs, hlen with
      | [y0, y1], _ =>
        simp only [List.getElem?_cons_zero, List.getElem?_cons_succ] at h0 h1
        obtain ⟨k, hc0, _, _⟩ := DataW.trod_int Tryz.underlying3 h0
        simp only [List.cons.injEq, and_true] at hc0
        subst hc0
        rcases DataW.trod_slice Tryz.underlying22 h1 with ⟨hc1, _⟩ | ⟨a, len, cap, elems, rest, m, rfl, hc1, _, _, _, _, hel, hat, _⟩
        · simp only [List.cons.injEq, and_true] at hc1
          subst hc1
          exact ⟨.mk k none 0 [], rfl, Tr.In_nil _ _ _ _⟩
        · simp only [List.cons.injEq, and_true] at hc1
          subst hc1
          have hex : ∀ i, i < len → ∃ t : Tr, W.cells? base (a.add (i * 2)) 2 = some [.int .i64 t.k, .slice t.a t.l.length t.c] ∧ t.In W := by
            intro i hi
            have hi' := hat i hi
            rw [Tryz.cells24, List.getElem?_eq_getElem (by omega)] at hi'
            obtain ⟨cs', hcs, htr⟩ := Option.bind_eq_some_iff.1 hi'
            obtain ⟨t, rfl, hin⟩ := ih m (by omega) cs' _ htr
            exact ⟨t, hcs, hin⟩
          haveI : Inhabited Tr := ⟨.mk 0 none 0 []⟩
          obtain ⟨T, hT⟩ := Go.Deep.choose_lt hex
          refine ⟨.mk k (some a) cap ((List.range len).map T), by simp, ?_⟩
          refine Tr.In_mk.2 ⟨fun j hj => ?_, fun t ht => ?_⟩
          rotate_left
          · obtain ⟨i, hi, rfl⟩ := List.mem_map.1 ht
            exact (hT i (by simpa using hi)).2
          have hj' : j < len := by simpa using hj
          obtain ⟨hz, _⟩ := cellsTwo (hT 0 (by omega)).1
          simp only [Nat.zero_mul] at hz
          have ha0 : a.add 0 = a := by simp [Addr.add]
          rw [ha0] at hz
          have ha := cell_spot hz
          have hc := (hT j hj').1
          obtain ⟨c0, c1⟩ := cellsTwo hc
          have hadd : ∀ q, a.add q = ⟨a.block, a.off + q, none⟩ := by
            intro q
            rw [ha]
            unfold Addr.add
            by_cases hq : q = 0 <;> simp [hq]
          refine ⟨a.block, a.off, by rw [← ha], ?_, ?_⟩
          · rw [hadd] at c0
            simpa using c0
          · rw [Go.Deep.add_add, hadd] at c1
            simp only [List.getElem_map, List.getElem_range, Tr.sl]
            rw [show a.off + j * 2 + 1 = a.off + (j * 2 + 1) by omega]
            exact c1
end Go.Proofs.YtnddkmccagiclabGreatDoor

/-
  Whatever can be read as data of the type 'Term' is a term's tree that lies in memory.
-/
namespace Go.Proofs.YtnddkmccagiclabGreatDoor
open Go.ChangeShapes Go.WideShapes Go.ChangeAt Go.RowKit
theorem Tryz.cells27 : Tryz.prog.cellsOf 27 = 7 := by kernel_rfl
theorem Tryz.cells25 : Tryz.prog.cellsOf 25 = 1 := by kernel_rfl
theorem cells_seven {w : World} {base : Nat} {a : Addr} {l : List Value} (h : w.cells? base a 7 = some l) : ∀ i, i < 7 → w.cell? (a.add i) = l[i]? := by
  unfold World.cells? at h
  split at h
  · intro i hi
    have hm := Lib.mapM_at h i i (by simp [hi])
    obtain ⟨b, hb, hf⟩ := hm
    rw [hb]
    exact hf
  · cases h
theorem int_le {n : Int} (h : (Lit.int .i64 n).wf = true) : n ≤ 9223372036854775807 := (bounds_i64 h).2
set_option maxRecDepth 100000 in
theorem tm_of {H : Type} {enc : TypeId × Value → H} {W : World} {base : Nat} {spare : Nat → Bool} {held : Bool} : ∀ (fuel : Nat) (cs : List Value) (x : DataW H × List MemPlace),
    DataW.trod enc Tryz.prog W base spare held fuel 27 cs = some x → ∃ t : TT, cs = [.int .i64 t.k, .int .i64 t.n, .int .i64 t.t.k, .slice t.t.a t.t.l.length t.t.c, .int .i64 t.f.k, .slice t.f.a t.f.l.length t.f.c, .slice t.a t.l.length t.c] ∧ t.In W ∧ t.nb := by
  intro fuel
  induction fuel using Nat.strongRecOn with
  | _ fuel ih =>
    intro cs x h
    obtain ⟨xs, n, rfl, _, hl, hlen, hf⟩ := DataW.trod_struct Tryz.underlying27 h
    rw [Tryz.cells27] at hl
    match cs, hl with
    | [c0, c1, c2, c3, c4, c5, c6], _ =>
      have h0 := hf 0 { name := "Kind", type := 3, offset := 0, embedded := false, tag := "", pkgPath := "", byteOffset := 0 } rfl
      have h1 := hf 1 { name := "N", type := 3, offset := 1, embedded := false, tag := "", pkgPath := "", byteOffset := 8 } rfl
      have h2 := hf 2 { name := "T", type := 24, offset := 2, embedded := false, tag := "", pkgPath := "", byteOffset := 16 } rfl
      have h3 := hf 3 { name := "From", type := 24, offset := 4, embedded := false, tag := "", pkgPath := "", byteOffset := 48 } rfl
      have h4 := hf 4 { name := "L", type := 25, offset := 6, embedded := false, tag := "", pkgPath := "", byteOffset := 80 } rfl
      simp only [List.drop_zero, List.drop_succ_cons, Tryz.cells3, Tryz.cells24, Tryz.cells25, List.take_succ_cons, List.take_zero] at h0 h1 h2 h3 h4
      match xs, hlen with
      | [y0, y1, y2, y3, y4], _ =>
        simp only [List.getElem?_cons_zero, List.getElem?_cons_succ] at h0 h1 h2 h3 h4
        obtain ⟨k, hc0, _, _⟩ := DataW.trod_int Tryz.underlying3 h0
        obtain ⟨nn, hc1, _, hwf⟩ := DataW.trod_int Tryz.underlying3 h1
        obtain ⟨t, hc2, ht⟩ := tr_of n _ _ h2
        obtain ⟨f, hc4, hfi⟩ := tr_of n _ _ h3
        simp only [List.cons.injEq, and_true] at hc0 hc1 hc2 hc4
        obtain ⟨rfl, rfl⟩ := hc2
        obtain ⟨rfl, rfl⟩ := hc4
        subst hc0 hc1
        rcases DataW.trod_slice Tryz.underlying25 h4 with ⟨hc6, _⟩ | ⟨a, len, cap, elems, rest, m, rfl, hc6, _, _, _, _, hel, hat, _⟩
        · simp only [List.cons.injEq, and_true] at hc6
          subst hc6
          exact ⟨.mk k nn t f none 0 [], rfl, TT.In_mk.2 ⟨ht, hfi, fun j h => absurd h (by simp), fun t h => by cases h⟩, TT.nb_mk.2 ⟨int_le hwf, fun t h => by cases h⟩⟩
        · simp only [List.cons.injEq, and_true] at hc6
          subst hc6
          have hex : ∀ i, i < len → ∃ t : TT, W.cells? base (a.add (i * 7)) 7 = some [.int .i64 t.k, .int .i64 t.n, .int .i64 t.t.k, .slice t.t.a t.t.l.length t.t.c, .int .i64 t.f.k, .slice t.f.a t.f.l.length t.f.c, .slice t.a t.l.length t.c] ∧ t.In W ∧ t.nb := by
            intro i hi
            have hi' := hat i hi
            rw [Tryz.cells27, List.getElem?_eq_getElem (by omega)] at hi'
            obtain ⟨cs', hcs, htr⟩ := Option.bind_eq_some_iff.1 hi'
            obtain ⟨t, rfl, hin⟩ := ih m (by omega) cs' _ htr
            exact ⟨t, hcs, hin⟩
          haveI : Inhabited TT := ⟨tleaf 0 0⟩
          obtain ⟨T, hT⟩ := Go.Deep.choose_lt hex
          refine ⟨.mk k nn t f (some a) cap ((List.range len).map T), by simp, ?_, ?_⟩
          · refine TT.In_mk.2 ⟨ht, hfi, fun j hj => ?_, fun t ht => ?_⟩
            rotate_left
            · obtain ⟨i, hi, rfl⟩ := List.mem_map.1 ht
              exact (hT i (by simpa using hi)).2.1
            have hj' : j < len := by simpa using hj
            have hz := cells_seven (hT 0 (by omega)).1 0 (by omega)
            simp only [Nat.zero_mul, List.getElem?_cons_zero] at hz
            have ha0 : (a.add 0).add 0 = a := by simp [Addr.add]
            rw [ha0] at hz
            have ha := cell_spot hz
            have hc := cells_seven (hT j hj').1
            have hadd : ∀ q, a.add q = ⟨a.block, a.off + q, none⟩ := by
              intro q
              rw [ha]
              unfold Addr.add
              by_cases hq : q = 0 <;> simp [hq]
            have hat7 : ∀ i, i < 7 → W.cell? ⟨a.block, a.off + j * 7 + i, none⟩ = [Value.int .i64 (T j).k, .int .i64 (T j).n, .int .i64 (T j).t.k, .slice (T j).t.a (T j).t.l.length (T j).t.c, .int .i64 (T j).f.k, .slice (T j).f.a (T j).f.l.length (T j).f.c, .slice (T j).a (T j).l.length (T j).c][i]? := by
              intro i hi
              have := hc i hi
              rw [Go.Deep.add_add, hadd] at this
              rw [show a.off + j * 7 + i = a.off + (j * 7 + i) by omega]
              exact this
            refine ⟨a.block, a.off, by rw [← ha], ?_⟩
            simp only [List.getElem_map, List.getElem_range]
            exact ⟨hat7 0 (by omega), hat7 1 (by omega), hat7 2 (by omega), hat7 3 (by omega), hat7 4 (by omega), hat7 5 (by omega), hat7 6 (by omega)⟩
          · refine TT.nb_mk.2 ⟨int_le hwf, fun t ht => ?_⟩
            obtain ⟨i, hi, rfl⟩ := List.mem_map.1 ht
            exact (hT i (by simpa using hi)).2.2
set_option maxRecDepth 100000 in
/-- An argument of the type is a term's tree. -/
theorem tm_arg {H : Type} {enc : TypeId × Value → H} {W : World} {base b0 : Nat} {spare : Nat → Bool} {held : Bool} {r : Reach} {v : Value} {d : DataW H} {p : List MemPlace} (hv : Value.okWide Tryz.prog W r b0 27 v) (h : DataW.Trod enc Tryz.prog W base spare held 27 v d p) :
    ∃ t : TT, v = .agg #[.int .i64 t.k, .int .i64 t.n, .int .i64 t.t.k, .slice t.t.a t.t.l.length t.t.c, .int .i64 t.f.k, .slice t.f.a t.f.l.length t.f.c, .slice t.a t.l.length t.c] ∧ t.In W ∧ t.nb := by
  obtain ⟨cs, rfl, _⟩ := okWide_struct Tryz.underlying27 hv
  obtain ⟨fuel, hf⟩ := h
  obtain ⟨t, ht, hin⟩ := tm_of fuel _ _ hf
  refine ⟨t, ?_, hin⟩
  have : cs.toList = [.int .i64 t.k, .int .i64 t.n, .int .i64 t.t.k, .slice t.t.a t.t.l.length t.t.c, .int .i64 t.f.k, .slice t.f.a t.f.l.length t.f.c, .slice t.a t.l.length t.c] := by simpa [Value.cells] using ht
  rw [← this]
end Go.Proofs.YtnddkmccagiclabGreatDoor

/-
  What the row's list of package-level variables gives: the tables hold what they were laid with.
-/
namespace Go.Proofs.YtnddkmccagiclabGreatDoor
open Go.ChangeShapes Go.RowKit
/-- The head of the list. -/
theorem laid_head {n : String} {d : DataW Unit} {r : List (String × DataW Unit)} {W : World} {g t : Nat} (h : laidMet Tryz.prog ((n, d) :: r) W) (hg : Tryz.prog.globalNamed n = some g) (ht : (Tryz.prog.globals[g]?).map (·.type) = some t) :
    ∃ (cs : Array Value) (fuel : Nat) (p : List MemPlace), Vc W g cs ∧ DataW.trod (fun _ => ()) Tryz.prog W 0 (fun _ => true) false fuel t cs.toList = some (d, p) := by
  obtain ⟨ps, ⟨g', t', cs, fuel, p, q, hg', ht', hvar, hd, _, _⟩, _⟩ := h
  obtain rfl := Option.some.inj (hg.symm.trans hg')
  obtain rfl := Option.some.inj (ht.symm.trans ht')
  refine ⟨cs, fuel, p, ?_, hd⟩
  unfold World.var? at hvar
  rw [hg] at hvar
  simp only [Option.bind_some] at hvar
  split at hvar
  · rename_i cs' t fr hh
    cases hvar
    exact ⟨t, fr, hh⟩
  · cases hvar
/-- An array of texts that reads as these texts holds them. -/
theorem cells_of_strs {W : World} {fuel t n : Nat} {cs : List Value} {ss : List (List UInt8)} {p : List MemPlace}
    (ht : Tryz.prog.underlying t = some (.array n 9)) (hct : Tryz.prog.cellsOf t = n)
    (h : DataW.trod (fun _ => ()) Tryz.prog W 0 (fun _ => true) false fuel t cs = some (.agg (ss.map fun s => .lit (.string s)), p)) : cs = ss.map fun s => Value.string ⟨s.toArray⟩ := by
  have hce : Tryz.prog.cellsOf 9 = 1 := by kernel_rfl
  cases fuel with
  | zero => simp [DataW.trod] at h
  | succ fuel =>
    simp only [DataW.trod, ht, hce, hct, Nat.mul_one] at h
    split at h
    · rename_i hl
      obtain ⟨xs, hm, hx⟩ := Option.map_eq_some_iff.1 h
      have hxs : xs.map (·.1) = ss.map fun s => (DataW.lit (.string s) : DataW Unit) := by
        have := congrArg Prod.fst hx
        simpa using this
      have hxl : xs.length = n := by simpa using Lib.mapM_length hm
      have hzl : ss.length = n := by
        have := congrArg List.length hxs
        simp at this
        omega
      apply List.ext_getElem?
      intro i
      by_cases hi : i < n
      · obtain ⟨b, hb, hf⟩ := Lib.mapM_at hm i i (by simp [hi])
        obtain ⟨s, hc, rfl, _⟩ := DataW.trod_string Tryz.underlying9 hf
        have h1 : cs[i]? = some (.string s) := by
          have := congrArg (·[0]?) hc
          simpa [List.getElem?_take, List.getElem?_drop] using this
        have h2 : (xs.map (·.1))[i]? = some (DataW.lit (.string s.data.toList) : DataW Unit) := by simp [hb]
        rw [hxs] at h2
        simp only [List.getElem?_map, Option.map_eq_some_iff, DataW.lit.injEq, Lit.string.injEq] at h2
        obtain ⟨s', hs', e⟩ := h2
        simp only [List.getElem?_map, hs', Option.map_some, h1, e]
      · rw [List.getElem?_eq_none (by omega), List.getElem?_eq_none (by simp; omega)]
    · cases h
theorem cells84 : Tryz.prog.cellsOf 84 = 2 := by kernel_rfl
theorem cells85 : Tryz.prog.cellsOf 180 = 10 := by kernel_rfl
theorem cells122 : Tryz.prog.cellsOf 145 = 10 := by kernel_rfl
theorem cells123 : Tryz.prog.cellsOf 209 = 3 := by kernel_rfl
theorem cells166 : Tryz.prog.cellsOf 265 = 20 := by kernel_rfl
theorem cells3' : Tryz.prog.cellsOf 3 = 1 := by kernel_rfl
theorem cells152 : Tryz.prog.cellsOf 233 = 1 := by kernel_rfl
theorem vc_list {W : World} {g : Nat} {cs : Array Value} {l : List Value} (h : Vc W g cs) (e : cs.toList = l) : Vc W g l.toArray := by
  rw [← e]; exact h
theorem gl_parts {r : List (String × DataW Unit)} {W : World} (h : laidMet Tryz.prog (("chaperone/term.parts", Rows.laid_chaperone_term_parts) :: r) W) :
    Vc W 0 #[.int .i64 0, .int .i64 0, .int .i64 0, .int .i64 0, .int .i64 2, .int .i64 2, .int .i64 3, .int .i64 1, .int .i64 2, .int .i64 1] := by
  obtain ⟨cs, fuel, p, hv, ht⟩ := laid_head h (g := 0) (t := 145) (by kernel_rfl) (by kernel_rfl)
  exact vc_list hv (Lib.cells_of_tab (zs := [0, 0, 0, 0, 2, 2, 3, 1, 2, 1]) Tryz.underlying145 Tryz.underlying3 cells3' cells122 ht)
theorem gl_truth {r : List (String × DataW Unit)} {W : World} (h : laidMet Tryz.prog (("chaperone/term.truthWords", Rows.laid_chaperone_term_truthWords) :: r) W) :
    Vc W 1 #[.string ⟨#[110, 111]⟩, .string ⟨#[121, 101, 115]⟩] := by
  obtain ⟨cs, fuel, p, hv, ht⟩ := laid_head h (g := 1) (t := 84) (by kernel_rfl) (by kernel_rfl)
  exact vc_list hv (cells_of_strs (ss := [[110, 111], [121, 101, 115]]) Tryz.underlying84 cells84 ht)
theorem gl_words {r : List (String × DataW Unit)} {W : World} (h : laidMet Tryz.prog (("chaperone/term.words", Rows.laid_chaperone_term_words) :: r) W) :
    Vc W 2 #[.string ⟨#[]⟩, .string ⟨#[]⟩, .string ⟨#[]⟩, .string ⟨#[]⟩, .string ⟨#[97, 100, 100]⟩, .string ⟨#[108, 101, 115, 115]⟩, .string ⟨#[105, 102]⟩, .string ⟨#[102, 117, 110]⟩, .string ⟨#[99, 97, 108, 108]⟩, .string ⟨#[97, 115]⟩] := by
  obtain ⟨cs, fuel, p, hv, ht⟩ := laid_head h (g := 2) (t := 180) (by kernel_rfl) (by kernel_rfl)
  exact vc_list hv (cells_of_strs (ss := [[], [], [], [], [97, 100, 100], [108, 101, 115, 115], [105, 102], [102, 117, 110], [99, 97, 108, 108], [97, 115]]) Tryz.underlying180 cells85 ht)
theorem gl_types {r : List (String × DataW Unit)} {W : World} (h : laidMet Tryz.prog (("chaperone/term.typeWords", Rows.laid_chaperone_term_typeWords) :: r) W) :
    Vc W 4 #[.string ⟨#[97, 110, 121]⟩, .string ⟨#[110, 117, 109]⟩, .string ⟨#[116, 114, 117, 116, 104]⟩] := by
  obtain ⟨cs, fuel, p, hv, ht⟩ := laid_head h (g := 4) (t := 209) (by kernel_rfl) (by kernel_rfl)
  exact vc_list hv (cells_of_strs (ss := [[97, 110, 121], [110, 117, 109], [116, 114, 117, 116, 104]]) Tryz.underlying209 cells123 ht)
theorem gl_pow {r : List (String × DataW Unit)} {W : World} (h : laidMet Tryz.prog (("internal/strconv.uint64pow10", Rows.laid_internal_strconv_uint64pow10) :: r) W) :
    Vc W 11 (Lib.pow10Tab.map fun z => Value.int .u64 z).toArray := by
  obtain ⟨cs, fuel, p, hv, ht⟩ := laid_head h (g := 11) (t := 265) (by kernel_rfl) (by kernel_rfl)
  exact vc_list hv (Lib.cells_of_tab (zs := Lib.pow10Tab) Tryz.underlying265 Tryz.underlying233 cells152 cells166 ht)
theorem gl_err {n nm : String} {g : Nat} {d : DataW Unit} {r : List (String × DataW Unit)} {W : World} (h : laidMet Tryz.prog ((n, .iface nm d) :: r) W) (hg : Tryz.prog.globalNamed n = some g) (ht : (Tryz.prog.globals[g]?).map (·.type) = some 153) : ∃ te pe, Vc W g #[.iface te pe] := by
  obtain ⟨cs, fuel, p, hv, hd⟩ := laid_head h hg ht
  obtain ⟨_, u, v, hc, _⟩ := iface_of_trod Tryz.underlying153 hd
  exact ⟨u, v, vc_list hv hc⟩
theorem gl_max {W : World} (h : W.ShapedOpen Tryz.prog) : ∃ m, Vc W 6 #[.int .i64 m] := by
  obtain ⟨m, hm⟩ := Tryz.laysM155.s1_3 W h
  have hm' : W.cell? ⟨6, 0, none⟩ = some (.int .i64 m) := hm
  obtain ⟨cs, hh, hs, _⟩ := h.1 6 #[.int .i64 0] 3 (by show 6 < 15; omega) (by kernel_rfl)
  refine ⟨m, ?_⟩
  have hs1 : cs.size = 1 := hs
  have hc : W.cell? ⟨6, 0, none⟩ = cs[0]? := cell_of_row W 6 0 cs _ _ hh
  rw [hc] at hm'
  have e : cs = #[.int .i64 m] := by
    apply Array.ext
    · simpa using hs1
    · intro i h1 h2
      obtain rfl : i = 0 := by omega
      have := Array.getElem?_eq_some_iff.1 hm'
      simpa using this.2
  rw [← e]
  exact ⟨_, _, hh⟩
/-- The tables, at the rows of the laws of the whole. -/
theorem gl_rows {W : World} (h' : laidMet Tryz.prog [("math/bits.deBruijn32tab", Rows.laid_math_bits_deBruijn32tab), ("math/bits.deBruijn64tab", Rows.laid_math_bits_deBruijn64tab), ("internal/strconv.uint64pow10", Rows.laid_internal_strconv_uint64pow10), ("unicode/utf8.acceptRanges", Rows.laid_unicode_utf8_acceptRanges), ("strconv.ErrRange", Rows.laid_strconv_ErrRange), ("strconv.ErrSyntax", Rows.laid_strconv_ErrSyntax), ("chaperone/term.words", Rows.laid_chaperone_term_words), ("chaperone/term.truthWords", Rows.laid_chaperone_term_truthWords), ("chaperone/term.typeWords", Rows.laid_chaperone_term_typeWords), ("chaperone/term.parts", Rows.laid_chaperone_term_parts), ("unicode/utf8.first", Rows.laid_unicode_utf8_first)] W) (hs : W.ShapedOpen Tryz.prog) : Gl W := by
  have h1 := h'.tail.tail
  have h2 := h1.tail.tail
  have h3 := h2.tail
  have h4 := h3.tail
  have h5 := h4.tail
  have h6 := h5.tail
  have h7 := h6.tail
  exact ⟨gl_truth h5, gl_words h4, gl_parts h7, gl_types h6, gl_pow h1, gl_max hs, gl_err h3 (by kernel_rfl) (by kernel_rfl), gl_err h2 (by kernel_rfl) (by kernel_rfl)⟩
end Go.Proofs.YtnddkmccagiclabGreatDoor
