/-
  What the calls of chaperoneref.fun and chaperoneref.any0 make.
-/
import Derived.Test.YtnddkmccagiclaaGreatDoorLot24e9133cd1
import Derived.Test.YtnddkmccagiclaaGreatDoorLot112ae7bf11
import Derived.Test.YtnddkmccagiclaaGreatDoorLotce5b4f1487
import Derived.Deep.LoopGhost
import Derived.BigQuiet
import Derived.Test.YtnddkmccagiclaaGreatDoorLotae048bf8fb
import Derived.Deep.RegionHeld3
import Derived.Deep.DeepCutAuto
namespace Go.Proofs.YtnddkmccagiclaaGreatDoor
open Go.RowKit

set_option maxHeartbeats 400000 in
/-- chaperoneref.fun. -/
theorem fun_cells (k k' : Int) (a a' : Option Addr) (m m' c c' : Nat) (w : World) :
    Calls Tryz.prog 97 #[.agg #[.int .i64 k, .slice a m c], .agg #[.int .i64 k', .slice a' m' c']] w fun e w' => ∃ g, w.heap.size ≤ g ∧ e = .returned (.agg #[.int .i64 3, .slice (some ⟨g, 0, none⟩) 2 2]) ∧ w'.cell? ⟨g, 0, none⟩ = some (.int .i64 k) ∧ w'.cell? ⟨g, 1, none⟩ = some (.slice a m c) ∧ w'.cell? ⟨g, 2, none⟩ = some (.int .i64 k') ∧ w'.cell? ⟨g, 3, none⟩ = some (.slice a' m' c') ∧ Below w.heap.size w w' := by
  go_enter Tryz.func97, Tryz.ntmps97
  go_wp2_with fail
  refine bodyPost_ret (v := .agg #[.int .i64 3, .slice (some ⟨w.heap.size + 1 + 1 + 1, 0, none⟩) 2 2]) (by simp [results, Tryz.results97, go_sem]) rfl ⟨_, ?_, rfl, by simp [go_sem], by simp [go_sem], by simp [go_sem], by simp [go_sem], ?_⟩
  · omega
  exact ((((Below.refl _ _).alloc (Nat.le_refl _) _).alloc (by simp) _).alloc (by simp; omega) _).alloc (by simp; omega) _

theorem fun_any (x y : Tr) (w : World) (hx : x.In w) (hy : y.In w) :
    Calls Tryz.prog 97 #[.agg #[.int .i64 x.k, .slice x.a x.l.length x.c], .agg #[.int .i64 y.k, .slice y.a y.l.length y.c]] w fun e w' => ∃ g, w.heap.size ≤ g ∧ e = .returned (.agg #[.int .i64 3, .slice (some ⟨g, 0, none⟩) 2 2]) ∧ (Tr.mk 3 (some ⟨g, 0, none⟩) 2 [x, y]).In w' ∧ Below w.heap.size w w' := by
  refine (fun_cells x.k y.k x.a y.a x.l.length y.l.length x.c y.c w).mono ?_
  rintro e w' ⟨g, hg, rfl, c0, c1, c2, c3, hb⟩
  refine ⟨g, hg, rfl, ?_, hb⟩
  exact Tr.In_two c0 c1 c2 c3 (hx.below hb) (hy.below hb)

set_option maxHeartbeats 400000 in
/-- chaperoneref.any0. -/
theorem any0_any (w : World) : Calls Tryz.prog 46 #[] w fun e w' => e = .returned (.agg #[.int .i64 0, .slice none 0 0]) ∧ w' = w.alloc (.cells #[.int .i64 0, .slice none 0 0] 24) := by
  go_enter Tryz.func46, Tryz.ntmps46
  go_wp2_with fail
  exact bodyPost_ret (v := .agg #[.int .i64 0, .slice none 0 0]) (by simp [results, Tryz.results46, go_sem]) rfl ⟨rfl, rfl⟩

end Go.Proofs.YtnddkmccagiclaaGreatDoor

/-
  What the call of chaperoneref.SameType answers at two trees that lie in memory.
-/
namespace Go.Proofs.YtnddkmccagiclaaGreatDoor
open Go.RowKit

set_option maxHeartbeats 1000000 in
theorem sameType_step (n : Nat) (x y : Tr) (w : World) (hx : x.In w) (hy : y.In w) (hh : x.hgt ≤ n + 1) (hs : x.sm)
    (ih : Hid (∀ (x y : Tr) (w : World), x.In w → y.In w → x.hgt ≤ n → x.sm → Calls Tryz.prog 27 #[.agg #[.int .i64 x.k, .slice x.a x.l.length x.c], .agg #[.int .i64 y.k, .slice y.a y.l.length y.c]] w fun e w' => e = .returned (.bool (relY escSame x.ty y.ty)) ∧ Below w.heap.size w w')) :
    Calls Tryz.prog 27 #[.agg #[.int .i64 x.k, .slice x.a x.l.length x.c], .agg #[.int .i64 y.k, .slice y.a y.l.length y.c]] w fun e w' => e = .returned (.bool (relY escSame x.ty y.ty)) ∧ Below w.heap.size w w' := by
  have hlen := hs.len
  obtain ⟨tk, htk⟩ : ∃ b, (x.k == y.k) = b := ⟨_, rfl⟩
  obtain ⟨tl, htl⟩ : ∃ b, ((x.l.length : Int) == (y.l.length : Int)) = b := ⟨_, rfl⟩
  have HK : Hid ((x.k == y.k) = tk) := htk
  have HL : Hid (((x.l.length : Int) == (y.l.length : Int)) = tl) := htl
  have p1 : ((w.alloc (.cells #[.int .i64 x.k, .slice x.a x.l.length x.c] 24)).alloc (.cells #[.int .i64 y.k, .slice y.a y.l.length y.c] 24)).cell? ⟨w.heap.size, 1, none⟩ = some (.slice x.a x.l.length x.c) := by simp [go_sem]
  have p3 : ((w.alloc (.cells #[.int .i64 x.k, .slice x.a x.l.length x.c] 24)).alloc (.cells #[.int .i64 y.k, .slice y.a y.l.length y.c] 24)).cell? ⟨w.heap.size + 1, 1, none⟩ = some (.slice y.a y.l.length y.c) := by simp [go_sem]
  have HP : Hid (((w.alloc (.cells #[.int .i64 x.k, .slice x.a x.l.length x.c] 24)).alloc (.cells #[.int .i64 y.k, .slice y.a y.l.length y.c] 24)).cell? ⟨w.heap.size, 1, none⟩ = some (.slice x.a x.l.length x.c) ∧ ((w.alloc (.cells #[.int .i64 x.k, .slice x.a x.l.length x.c] 24)).alloc (.cells #[.int .i64 y.k, .slice y.a y.l.length y.c] 24)).cell? ⟨w.heap.size + 1, 1, none⟩ = some (.slice y.a y.l.length y.c)) := ⟨p1, p3⟩
  clear p1 p3
  have hb0 : Below w.heap.size w ((w.alloc (.cells #[.int .i64 x.k, .slice x.a x.l.length x.c] 24)).alloc (.cells #[.int .i64 y.k, .slice y.a y.l.length y.c] 24)) := ((Below.refl _ _).alloc (Nat.le_refl _) _).alloc (by simp) _
  cases tk
  · have HT : Hid ((x.k == y.k && (x.l.length : Int) == (y.l.length : Int)) = false) := by show _ = false; rw [HK.out]; rfl
    clear htl HL HK
    go_enter Tryz.func27, Tryz.ntmps27
    go_wp2_with fail
    go_loopw [5, 6] (fun b i wr => b = .bool false ∧ i = .int .i64 0 ∧ wr = ((w.alloc (.cells #[.int .i64 x.k, .slice x.a x.l.length x.c] 24)).alloc (.cells #[.int .i64 y.k, .slice y.a y.l.length y.c] 24))) (fun _ _ _ => 0)
    case atStart => exact ⟨rfl, rfl, rfl⟩
    case round =>
      obtain ⟨rfl, rfl, rfl⟩ := hrel
      go_wp2_with fail
      go_ret
      exact ⟨by rw [relY_top escSame x y rfl HT.out]; rfl, hb0⟩
  · cases tl
    · have HT : Hid ((x.k == y.k && (x.l.length : Int) == (y.l.length : Int)) = false) := by show _ = false; rw [HK.out, HL.out]; rfl
      clear HL HK
      go_enter Tryz.func27, Tryz.ntmps27
      go_wp2_with fail
      go_loopw [5, 6] (fun b i wr => b = .bool false ∧ i = .int .i64 0 ∧ wr = ((w.alloc (.cells #[.int .i64 x.k, .slice x.a x.l.length x.c] 24)).alloc (.cells #[.int .i64 y.k, .slice y.a y.l.length y.c] 24))) (fun _ _ _ => 0)
      case atStart => exact ⟨rfl, rfl, rfl⟩
      case round =>
        obtain ⟨rfl, rfl, rfl⟩ := hrel
        go_wp2_with fail
        go_ret
        exact ⟨by rw [relY_top escSame x y rfl HT.out]; rfl, hb0⟩
    · have hk : Hid (x.k = y.k) := by show x.k = y.k; have h := HK.out; simpa using h
      have hl : Hid (x.l.length = y.l.length) := by have h := HL.out; simp at h; exact Int.ofNat.inj h
      clear HL HK
      go_enter Tryz.func27, Tryz.ntmps27
      go_wp2_with fail
      clear htk htl
      go_loopg [5, 6] (x.l.length + 1) (fun g b i wr => ∃ (j : Nat) (c : Bool), j ≤ x.l.length ∧ g = (if c then x.l.length - j + 1 else 0) ∧ b = .bool c ∧ i = .int .i64 (j : Int) ∧ Below w.heap.size w wr ∧ wr.cell? ⟨w.heap.size, 1, none⟩ = some (.slice x.a x.l.length x.c) ∧ wr.cell? ⟨w.heap.size + 1, 1, none⟩ = some (.slice y.a y.l.length y.c) ∧
        Hid (c = true → ∀ q (h : q < x.l.length) (h' : q < y.l.length), q < j → relY escSame x.l[q].ty y.l[q].ty = true) ∧ Hid (c = false → relY escSame x.ty y.ty = false))
      case atStart => exact ⟨0, true, Nat.zero_le _, rfl, rfl, rfl, hb0, HP.out.1, HP.out.2, fun _ q _ _ h => absurd h (by omega), fun h => by cases h⟩
      case round =>
        obtain ⟨j, c, hj, hg, rfl, rfl, hbwr, p1, p3, HA, HB⟩ := hrel
        cases c
        · have HB1 : Hid (relY escSame x.ty y.ty = false) := HB.out rfl
          clear HA HB hg
          go_wp2_with fail
          go_ret
          exact ⟨by rw [HB1.out]; rfl, hbwr⟩
        · have HA1 : Hid (∀ q (h : q < x.l.length) (h' : q < y.l.length), q < j → relY escSame x.l[q].ty y.l[q].ty = true) := HA.out rfl
          clear HA HB
          by_cases hlt : j < x.l.length
          · have hlt' : j < y.l.length := hl.out ▸ hlt
            obtain ⟨b, o, ea, x0, x1, hxj⟩ := hx.part j hlt
            obtain ⟨b', o', eb, y0, y1, hyj⟩ := hy.part j hlt'
            have q1 : wr.cell? ⟨w.heap.size, 1, none⟩ = some (.slice (some ⟨b, o, none⟩) x.l.length x.c) := by rw [← ea]; exact p1
            have q3 : wr.cell? ⟨w.heap.size + 1, 1, none⟩ = some (.slice (some ⟨b', o', none⟩) y.l.length y.c) := by rw [← eb]; exact p3
            have HPP : Hid (wr.cell? ⟨w.heap.size, 1, none⟩ = some (.slice x.a x.l.length x.c) ∧ wr.cell? ⟨w.heap.size + 1, 1, none⟩ = some (.slice y.a y.l.length y.c)) := ⟨p1, p3⟩
            replace x0 := cell_later hbwr x0
            replace x1 := cell_later hbwr x1
            replace y0 := cell_later hbwr y0
            replace y1 := cell_later hbwr y1
            have i1 : (j : Int) < (x.l.length : Int) := by omega
            have i2 : (j : Int) < (y.l.length : Int) := by omega
            have i0 : (0 : Int) ≤ (j : Int) := by omega
            obtain ⟨r, hr⟩ : ∃ r, relY escSame x.l[j].ty y.l[j].ty = r := ⟨_, rfl⟩
            have HC : Hid (∀ (w : World), x.l[j].In w → y.l[j].In w → Calls Tryz.prog 27 #[.agg #[.int .i64 x.l[j].k, .slice x.l[j].a x.l[j].l.length x.l[j].c], .agg #[.int .i64 y.l[j].k, .slice y.l[j].a y.l[j].l.length y.l[j].c]] w fun e w' => e = .returned (.bool r) ∧ Below w.heap.size w w') := by
              intro w h1 h2
              have := ih.out x.l[j] y.l[j] w h1 h2 (Tr.hgt_part hh j hlt) (hs.part j hlt)
              rw [hr] at this
              exact this
            have HR : Hid (relY escSame x.l[j].ty y.l[j].ty = r) := hr
            have HG : Hid (gk = if true then x.l.length - j + 1 else 0) := hg
            clear hr p1 p3 ea eb hx hy hg
            go_wp2_with fail
            go_region_held3 (fun w' => w'.cell? ⟨w.heap.size, 1, none⟩ = some (.slice (some ⟨b, o, none⟩) x.l.length x.c) ∧ w'.cell? ⟨w.heap.size + 1, 1, none⟩ = some (.slice (some ⟨b', o', none⟩) y.l.length y.c) ∧ w'.cell? ⟨b, o + j * 2, none⟩ = some (.int .i64 x.l[j].k) ∧ w'.cell? ⟨b, o + j * 2 + 1, none⟩ = some (.slice x.l[j].a x.l[j].l.length x.l[j].c) ∧ w'.cell? ⟨b', o' + j * 2, none⟩ = some (.int .i64 y.l[j].k) ∧ w'.cell? ⟨b', o' + j * 2 + 1, none⟩ = some (.slice y.l[j].a y.l[j].l.length y.l[j].c))
              (first | exact ⟨cell_later hb2 q1, cell_later hb2 q3, cell_later hb2 x0, cell_later hb2 x1, cell_later hb2 y0, cell_later hb2 y1⟩ | go_keep)
              (first | (go_at_call 27; refine (HC.out _ (hxj.below hbwr.drew) (hyj.below hbwr.drew)).mono ?_; rintro e w2 ⟨rfl, hb2⟩))
            have hbr2 : Below w.heap.size w w2 := hbwr.drew.trans (hb2.mono hbwr.size)
            have s1 := cell_later hb2 HPP.out.1
            have s3 := cell_later hb2 HPP.out.2
            clear hb2 q1 q3 x0 x1 y0 y1 HC HPP
            go_wp2_with fail
            go_roundg (if r then x.l.length - (j + 1) + 1 else 0)
            case measure => rw [HG.out]; cases r <;> simp <;> omega
            case rel =>
              refine ⟨j + 1, r, by omega, rfl, rfl, by go_num, hbr2, s1, s3, fun h q h1 h2 hq => ?_, fun h => ?_⟩
              · by_cases e : q = j
                · subst e; rw [HR.out, h]
                · exact HA1.out q h1 h2 (by omega)
              · exact relY_part_not escSame x y rfl j hlt hlt' (by rw [HR.out, h])
          · go_wp2_with fail
            go_ret
            refine ⟨?_, hbwr⟩
            rw [relY_parts escSame x y hk.out hl.out fun q h h' => HA1.out q h h' (by omega)]
            rfl

/-- chaperoneref.SameType. -/
theorem sameType_any (n : Nat) : ∀ (x y : Tr) (w : World), x.In w → y.In w → x.hgt ≤ n → x.sm → Calls Tryz.prog 27 #[.agg #[.int .i64 x.k, .slice x.a x.l.length x.c], .agg #[.int .i64 y.k, .slice y.a y.l.length y.c]] w fun e w' => e = .returned (.bool (relY escSame x.ty y.ty)) ∧ Below w.heap.size w w' := by
  induction n with
  | zero =>
    intro x y w _ _ h
    have := x.hgt_pos
    omega
  | succ n ih =>
    intro x y w hx hy h hs
    exact sameType_step n x y w hx hy h hs (fun x y w hx hy h hs => ih x y w hx hy h hs)
end Go.Proofs.YtnddkmccagiclaaGreatDoor

/-
  A region that draws its order, all of whose operations yield one value in every world of a class and leave a world of that class: one walk in the order of the text serves every order.
-/
namespace Go.Proofs.YtnddkmccagiclaaGreatDoor
open Go.RowKit

section
variable {P : Program} {C : World → Prop}

theorem wp_region_class {id : Nat} {Q : Exit → Act → World → Prop} {a : Act} {w : World} {l : List Oper} (hm : P.follows .mixedOrders = true) (hB : Region.lexB .any l.toArray = true) (hC : C { w with drawn := w.drawn + 1 })
    (h : wpQuiet P l.toArray C (fun a' => ∀ w', C w' → Q .normal a' w') l a) : (Code.region id l.toArray true).wp P Q a w :=
  wp_region_quiet (C := C) hm hB hC (by simpa using h)

variable {ops : Array Oper} {Q : Act → Prop} {a : Act} {o : Oper} {rest : List Oper}

/-- An operation that is wanted, and yields v in every world of the class. -/
theorem quiet_value (v : Value) (hw : Region.wanted o (yielded ops a.tmps) = true) (h : ∀ W, C W → (execOp a.eval o).run P W = .ok (.value v) W) (hk : wpQuiet P ops C Q rest (a.put o.dst v)) : wpQuiet P ops C Q (o :: rest) a :=
  wpQuiet_step fun K hK => by
    rw [if_pos hw]
    exact ⟨v, fun W hW => by unfold Oper.quietAt; rw [h W hW]; exact ⟨rfl, rfl⟩, hK _ hk⟩

/-- A call that is wanted, and hands back v in every world of the class. -/
theorem quiet_enter (v : Value) (f : FuncId) (args : Array Value) (hw : Region.wanted o (yielded ops a.tmps) = true) (h : ∀ W, C W → (execOp a.eval o).run P W = .ok (.enter f args) W) (hc : ∀ W, C W → Calls P f args W fun e w' => e = .returned v ∧ C w')
    (hk : wpQuiet P ops C Q rest (a.put o.dst v)) : wpQuiet P ops C Q (o :: rest) a :=
  wpQuiet_step fun K hK => by
    rw [if_pos hw]
    exact ⟨v, fun W hW => by unfold Oper.quietAt; rw [h W hW]; exact ⟨rfl, hc W hW⟩, hK _ hk⟩

/-- An operation that is not wanted. -/
theorem quiet_skip (hw : Region.wanted o (yielded ops a.tmps) = false) (hk : wpQuiet P ops C Q rest (a.put o.dst undef)) : wpQuiet P ops C Q (o :: rest) a :=
  wpQuiet_step fun K hK => by rw [if_neg (by rw [hw]; exact Bool.false_ne_true)]; exact hK _ hk
end
end Go.Proofs.YtnddkmccagiclaaGreatDoor

/-
  What the call of ref's right answers.
-/
namespace Go.Proofs.YtnddkmccagiclaaGreatDoor
open Go.RowKit

set_option maxRecDepth 20000 in
set_option maxHeartbeats 1000000 in
/-- right, of what has no kind. -/
theorem right_kind (x : TT) (ar own : Int) (w : World) (hk : x.k < 1 ∨ 9 < x.k) :
    Calls Tryz.prog 25 #[.agg #[.int .i64 x.k, .int .i64 x.n, .int .i64 x.t.k, .slice x.t.a x.t.l.length x.t.c, .int .i64 x.f.k, .slice x.f.a x.f.l.length x.f.c, .slice x.a x.l.length x.c], .int .i64 ar, .int .i64 own] w fun e w' => e = .returned (.bool false) ∧ Below w.heap.size w w' := by
  obtain ⟨W1, hW1⟩ : ∃ W, W = w.alloc (.cells #[.int .i64 x.k, .int .i64 x.n, .int .i64 x.t.k, .slice x.t.a x.t.l.length x.t.c, .int .i64 x.f.k, .slice x.f.a x.f.l.length x.f.c, .slice x.a x.l.length x.c] 27) := ⟨_, rfl⟩
  have hb1 : Below w.heap.size w W1 := by rw [hW1]; exact (Below.refl _ _).alloc (Nat.le_refl _) _
  have HB : Hid (Below w.heap.size w W1.drew) := hb1.drew
  clear hb1
  by_cases h1 : x.k < 1
  · have e1 : decide (x.k < 1) = true := by simpa using h1
    clear hk h1
    go_enter Tryz.func25, Tryz.ntmps25
    go_upto_region 1 with fail
    go_region
    rw [← hW1]
    go_wp2_with fail
    go_ret
    exact ⟨rfl, HB.out⟩
  · have e1 : decide (x.k < 1) = false := by simpa using h1
    have e2 : decide (9 < x.k) = true := by simp; omega
    clear hk h1
    go_enter Tryz.func25, Tryz.ntmps25
    go_upto_region 1 with fail
    go_region
    rw [← hW1]
    go_wp2_with fail
    go_ret
    exact ⟨rfl, HB.out⟩

set_option maxRecDepth 20000 in
set_option maxHeartbeats 1000000 in
/-- right, of another number of parts. -/
theorem right_parts (x : TT) (ar own : Int) (w : World) (hw : (Lit.int .i64 x.k).wf = true) (h1 : 1 ≤ x.k) (h9 : x.k ≤ 9) (hne : x.l.length ≠ partsOf x.k) :
    Calls Tryz.prog 25 #[.agg #[.int .i64 x.k, .int .i64 x.n, .int .i64 x.t.k, .slice x.t.a x.t.l.length x.t.c, .int .i64 x.f.k, .slice x.f.a x.f.l.length x.f.c, .slice x.a x.l.length x.c], .int .i64 ar, .int .i64 own] w fun e w' => e = .returned (.bool false) ∧ Below w.heap.size w w' := by
  obtain ⟨W1, hW1⟩ : ∃ W, W = w.alloc (.cells #[.int .i64 x.k, .int .i64 x.n, .int .i64 x.t.k, .slice x.t.a x.t.l.length x.t.c, .int .i64 x.f.k, .slice x.f.a x.f.l.length x.f.c, .slice x.a x.l.length x.c] 27) := ⟨_, rfl⟩
  have hb1 : Below w.heap.size w W1 := by rw [hW1]; exact (Below.refl _ _).alloc (Nat.le_refl _) _
  have e1 : decide (x.k < 1) = false := by simp; omega
  have e2 : decide (9 < x.k) = false := by simp; omega
  obtain ⟨PP, hPP⟩ : ∃ P : Int, P = (partsOf x.k : Int) := ⟨_, rfl⟩
  have e3 : ((x.l.length : Int) != PP) = true := by simp; omega
  have HP : Hid (∀ W, Below W1.heap.size W1 W → Calls Tryz.prog 45 #[.int .i64 x.k] W fun e w' => e = .returned (.int .i64 PP) ∧ Below W1.heap.size W1 w') := fun W hW => by
    refine (parts_any x.k hw W).mono ?_
    rintro e w' ⟨rfl, hb⟩
    rw [hPP]
    exact ⟨rfl, hW.trans (hb.mono hW.size)⟩
  have h7 : At7 W1 w.heap.size 0 x := by constructor <;> (rw [hW1]; simp [go_sem])
  have HK : Hid (∀ W, Below W1.heap.size W1 W → W.cell? ⟨w.heap.size, 0, none⟩ = some (.int .i64 x.k) ∧ W.cell? ⟨w.heap.size, 4, none⟩ = some (.int .i64 x.f.k) ∧ W.cell? ⟨w.heap.size, 5, none⟩ = some (.slice x.f.a x.f.l.length x.f.c) ∧ W.cell? ⟨w.heap.size, 6, none⟩ = some (.slice x.a x.l.length x.c)) := fun W hW => by
    obtain ⟨a0, a1, a2, a3, a4, a5, a6⟩ := h7.below hW
    simp only [Nat.zero_add] at a0 a1 a2 a3 a4 a5 a6
    exact ⟨a0, a4, a5, a6⟩
  have HK0 : Hid (W1.cell? ⟨w.heap.size, 0, none⟩ = some (.int .i64 x.k) ∧ W1.cell? ⟨w.heap.size, 4, none⟩ = some (.int .i64 x.f.k) ∧ W1.cell? ⟨w.heap.size, 5, none⟩ = some (.slice x.f.a x.f.l.length x.f.c) ∧ W1.cell? ⟨w.heap.size, 6, none⟩ = some (.slice x.a x.l.length x.c)) := HK.out _ (Below.refl _ _)
  have HK1 : Hid (W1.drew.cell? ⟨w.heap.size, 0, none⟩ = some (.int .i64 x.k) ∧ W1.drew.cell? ⟨w.heap.size, 4, none⟩ = some (.int .i64 x.f.k) ∧ W1.drew.cell? ⟨w.heap.size, 5, none⟩ = some (.slice x.f.a x.f.l.length x.f.c) ∧ W1.drew.cell? ⟨w.heap.size, 6, none⟩ = some (.slice x.a x.l.length x.c)) := HK.out _ ((Below.refl _ _).drew)
  have HB : Hid (Below w.heap.size w W1) := hb1
  have hb : Below W1.heap.size W1 W1.drew := (Below.refl _ _).drew
  clear hb1 h1 h9 hne hw h7 hPP
  go_enter Tryz.func25, Tryz.ntmps25
  go_upto_region 1 with fail
  rw [← hW1]
  clear hW1
  clear hb
  go_cut [33] (fun s33 wx => s33 = .bool true ∧ Hid (Below W1.heap.size W1 wx))
  case first =>
    refine wp_region_class (C := fun W => Below W1.heap.size W1 W) (by kernel_rfl) (by kernel_rfl) ((Below.refl _ _).drew) ?_
    iterate 24 (first
      | go_big_quiet_skip
      | (refine quiet_value (v := ?_) (by rfl) ?_ ?_; rotate_left; (focus (intro W hW; obtain ⟨d0, d4, d5, d6⟩ := HK.out W hW; have lw : w.heap.size < W.heap.size := World.block_lt_of_cell? _ _ d0; first | (go_simp; done) | (go_simp; with_reducible rfl))); simp only [Act.put, List.setIfInBounds_toArray, List.set_cons_zero, List.set_cons_succ])
      | (refine quiet_enter (.int .i64 PP) 45 #[.int .i64 x.k] (by rfl) ?_ (fun W hW => HP.out W hW) ?_; (focus (intro W _; go_simp; done)); simp only [Act.put, List.setIfInBounds_toArray, List.set_cons_zero, List.set_cons_succ]))
    refine wpQuiet_nil ?_
    intro wq hq
    have HQ : Hid (Below W1.heap.size W1 wq) := hq
    clear hq
    go_wp2_with fail
    go_meet
    case rel => exact ⟨rfl, HQ⟩
  case rest =>
    obtain ⟨h33, HQ⟩ := hcut
    subst h33
    have HN : Hid (Below w.heap.size w wc) := HB.out.trans (HQ.out.mono HB.out.size)
    go_wp2_with fail
    go_ret
    exact ⟨rfl, HN.out⟩

set_option maxRecDepth 20000 in
set_option maxHeartbeats 1000000 in
/-- right, of a From that is not Any. -/
theorem right_from (x : TT) (ar own : Int) (w : World) (hx : x.In w) (hw : (Lit.int .i64 x.k).wf = true) (h1 : 1 ≤ x.k) (h9 : x.k ≤ 9) (hpp : x.l.length = partsOf x.k) (n : Nat) (hf : x.f.hgt ≤ n) (hs : x.f.sm) (hne : relY escSame x.f.ty ⟨0, []⟩ = false) :
    Calls Tryz.prog 25 #[.agg #[.int .i64 x.k, .int .i64 x.n, .int .i64 x.t.k, .slice x.t.a x.t.l.length x.t.c, .int .i64 x.f.k, .slice x.f.a x.f.l.length x.f.c, .slice x.a x.l.length x.c], .int .i64 ar, .int .i64 own] w fun e w' => e = .returned (.bool false) ∧ Below w.heap.size w w' := by
  obtain ⟨W1, hW1⟩ : ∃ W, W = w.alloc (.cells #[.int .i64 x.k, .int .i64 x.n, .int .i64 x.t.k, .slice x.t.a x.t.l.length x.t.c, .int .i64 x.f.k, .slice x.f.a x.f.l.length x.f.c, .slice x.a x.l.length x.c] 27) := ⟨_, rfl⟩
  have hb1 : Below w.heap.size w W1 := by rw [hW1]; exact (Below.refl _ _).alloc (Nat.le_refl _) _
  have e1 : decide (x.k < 1) = false := by simp; omega
  have e2 : decide (9 < x.k) = false := by simp; omega
  obtain ⟨PP, hPP⟩ : ∃ P : Int, P = (partsOf x.k : Int) := ⟨_, rfl⟩
  have e3 : ((x.l.length : Int) != PP) = false := by simp; omega
  have HP : Hid (∀ W, Below W1.heap.size W1 W → Calls Tryz.prog 45 #[.int .i64 x.k] W fun e w' => e = .returned (.int .i64 PP) ∧ Below W1.heap.size W1 w') := fun W hW => by
    refine (parts_any x.k hw W).mono ?_
    rintro e w' ⟨rfl, hb⟩
    rw [hPP]
    exact ⟨rfl, hW.trans (hb.mono hW.size)⟩
  have HA : Hid (∀ W, Below W1.heap.size W1 W → Calls Tryz.prog 46 #[] W fun e w' => e = .returned (.agg #[.int .i64 0, .slice none 0 0]) ∧ Below W1.heap.size W1 w') := fun W hW => by
    refine (any0_any W).mono ?_
    rintro e w' ⟨rfl, rfl⟩
    exact ⟨rfl, hW.alloc hW.size _⟩
  have HS : Hid (∀ W, Below W1.heap.size W1 W → Calls Tryz.prog 27 #[.agg #[.int .i64 x.f.k, .slice x.f.a x.f.l.length x.f.c], .agg #[.int .i64 0, .slice none 0 0]] W fun e w' => e = .returned (.bool false) ∧ Below W1.heap.size W1 w') := fun W hW => by
    have := sameType_any n x.f (leaf 0) W ((hx.below (hb1.trans (hW.mono hb1.size))).f) (leaf_in 0 W) hf hs
    rw [leaf_ty, hne] at this
    refine this.mono ?_
    rintro e w' ⟨rfl, hb⟩
    exact ⟨rfl, hW.trans (hb.mono hW.size)⟩
  have h7 : At7 W1 w.heap.size 0 x := by constructor <;> (rw [hW1]; simp [go_sem])
  have HK : Hid (∀ W, Below W1.heap.size W1 W → W.cell? ⟨w.heap.size, 0, none⟩ = some (.int .i64 x.k) ∧ W.cell? ⟨w.heap.size, 4, none⟩ = some (.int .i64 x.f.k) ∧ W.cell? ⟨w.heap.size, 5, none⟩ = some (.slice x.f.a x.f.l.length x.f.c) ∧ W.cell? ⟨w.heap.size, 6, none⟩ = some (.slice x.a x.l.length x.c)) := fun W hW => by
    obtain ⟨a0, a1, a2, a3, a4, a5, a6⟩ := h7.below hW
    simp only [Nat.zero_add] at a0 a1 a2 a3 a4 a5 a6
    exact ⟨a0, a4, a5, a6⟩
  have HB : Hid (Below w.heap.size w W1) := hb1
  clear hb1 h1 h9 hne hw h7 hPP hx hf hs hpp
  go_enter Tryz.func25, Tryz.ntmps25
  go_upto_region 1 with fail
  rw [← hW1]
  clear hW1
  go_cut [33] (fun s33 wx => s33 = .bool true ∧ Hid (Below W1.heap.size W1 wx))
  case first =>
    refine wp_region_class (C := fun W => Below W1.heap.size W1 W) (by kernel_rfl) (by kernel_rfl) ((Below.refl _ _).drew) ?_
    iterate 24 (first
      | go_big_quiet_skip
      | (refine quiet_value (v := ?_) (by rfl) ?_ ?_; rotate_left; (focus (intro W hW; obtain ⟨d0, d4, d5, d6⟩ := HK.out W hW; have lw : w.heap.size < W.heap.size := World.block_lt_of_cell? _ _ d0; first | (go_simp; done) | (go_simp; with_reducible rfl))); simp only [Act.put, List.setIfInBounds_toArray, List.set_cons_zero, List.set_cons_succ])
      | (refine quiet_enter (.int .i64 PP) 45 #[.int .i64 x.k] (by rfl) ?_ (fun W hW => HP.out W hW) ?_; (focus (intro W _; go_simp; done)); simp only [Act.put, List.setIfInBounds_toArray, List.set_cons_zero, List.set_cons_succ])
      | (refine quiet_enter (.agg #[.int .i64 0, .slice none 0 0]) 46 #[] (by rfl) ?_ (fun W hW => HA.out W hW) ?_; (focus (intro W _; go_simp; done)); simp only [Act.put, List.setIfInBounds_toArray, List.set_cons_zero, List.set_cons_succ])
      | (refine quiet_enter (.bool false) 27 #[.agg #[.int .i64 x.f.k, .slice x.f.a x.f.l.length x.f.c], .agg #[.int .i64 0, .slice none 0 0]] (by rfl) ?_ (fun W hW => HS.out W hW) ?_; (focus (intro W _; go_simp; done)); simp only [Act.put, List.setIfInBounds_toArray, List.set_cons_zero, List.set_cons_succ]))
    refine wpQuiet_nil ?_
    intro wq hq
    have HQ : Hid (Below W1.heap.size W1 wq) := hq
    clear hq
    go_wp2_with fail
    go_meet
    case rel => exact ⟨rfl, HQ⟩
  case rest =>
    obtain ⟨h33, HQ⟩ := hcut
    subst h33
    have HN : Hid (Below w.heap.size w wc) := HB.out.trans (HQ.out.mono HB.out.size)
    go_wp2_with fail
    go_ret
    exact ⟨rfl, HN.out⟩
end Go.Proofs.YtnddkmccagiclaaGreatDoor

/-
  What the call of ref's right answers: the way on.
-/
namespace Go.Proofs.YtnddkmccagiclaaGreatDoor
open Go.RowKit

set_option maxRecDepth 20000 in
set_option maxHeartbeats 1000000 in
/-- right, of what is right at its top. -/
theorem right_main (x : TT) (ar own : Int) (w : World) (hx : x.In w) (hw : (Lit.int .i64 x.k).wf = true) (h1 : 1 ≤ x.k) (h9 : x.k ≤ 9) (hpp : x.l.length = partsOf x.k) (n : Nat) (hf : x.f.hgt ≤ n) (hs : x.f.sm) (hne : relY escSame x.f.ty ⟨0, []⟩ = true) (hn1 : n ≤ 1000000000) (hth : x.t.hgt ≤ n) (hts : x.t.sm) (hn9 : x.n ≤ 9223372036854775807) (ho0 : 0 ≤ own) (ho1 : own ≤ 1000000000) (hll : x.l.length ≤ 3)
    (ih : ∀ j (h : j < x.l.length) (W : World), x.l[j].In W → Calls Tryz.prog 25 #[.agg #[.int .i64 x.l[j].k, .int .i64 x.l[j].n, .int .i64 x.l[j].t.k, .slice x.l[j].t.a x.l[j].t.l.length x.l[j].t.c, .int .i64 x.l[j].f.k, .slice x.l[j].f.a x.l[j].f.l.length x.l[j].f.c, .slice x.l[j].a x.l[j].l.length x.l[j].c], .int .i64 ar, .int .i64 (insOf x.k own)] W fun e w' => e = .returned (.bool (rightM ar x.l[j].tm (insOf x.k own))) ∧ Below W.heap.size W w') :
    Calls Tryz.prog 25 #[.agg #[.int .i64 x.k, .int .i64 x.n, .int .i64 x.t.k, .slice x.t.a x.t.l.length x.t.c, .int .i64 x.f.k, .slice x.f.a x.f.l.length x.f.c, .slice x.a x.l.length x.c], .int .i64 ar, .int .i64 own] w fun e w' => e = .returned (.bool (okNum ar own x.k x.n && (if tells x.k = true then goodY 4 x.t.ty else isAnyY x.t.ty) && x.l.all fun y => rightM ar y.tm (insOf x.k own))) ∧ Below w.heap.size w w' := by
  obtain ⟨W1, hW1⟩ : ∃ W, W = w.alloc (.cells #[.int .i64 x.k, .int .i64 x.n, .int .i64 x.t.k, .slice x.t.a x.t.l.length x.t.c, .int .i64 x.f.k, .slice x.f.a x.f.l.length x.f.c, .slice x.a x.l.length x.c] 27) := ⟨_, rfl⟩
  have hb1 : Below w.heap.size w W1 := by rw [hW1]; exact (Below.refl _ _).alloc (Nat.le_refl _) _
  have e1 : decide (x.k < 1) = false := by simp; omega
  have e2 : decide (9 < x.k) = false := by simp; omega
  obtain ⟨PP, hPP⟩ : ∃ P : Int, P = (partsOf x.k : Int) := ⟨_, rfl⟩
  have e3 : ((x.l.length : Int) != PP) = false := by simp; omega
  have HP : Hid (∀ W, Below W1.heap.size W1 W → Calls Tryz.prog 45 #[.int .i64 x.k] W fun e w' => e = .returned (.int .i64 PP) ∧ Below W1.heap.size W1 w') := fun W hW => by
    refine (parts_any x.k hw W).mono ?_
    rintro e w' ⟨rfl, hb⟩
    rw [hPP]
    exact ⟨rfl, hW.trans (hb.mono hW.size)⟩
  have HA : Hid (∀ W, Below W1.heap.size W1 W → Calls Tryz.prog 46 #[] W fun e w' => e = .returned (.agg #[.int .i64 0, .slice none 0 0]) ∧ Below W1.heap.size W1 w') := fun W hW => by
    refine (any0_any W).mono ?_
    rintro e w' ⟨rfl, rfl⟩
    exact ⟨rfl, hW.alloc hW.size _⟩
  have HS : Hid (∀ W, Below W1.heap.size W1 W → Calls Tryz.prog 27 #[.agg #[.int .i64 x.f.k, .slice x.f.a x.f.l.length x.f.c], .agg #[.int .i64 0, .slice none 0 0]] W fun e w' => e = .returned (.bool true) ∧ Below W1.heap.size W1 w') := fun W hW => by
    have := sameType_any n x.f (leaf 0) W ((hx.below (hb1.trans (hW.mono hb1.size))).f) (leaf_in 0 W) hf hs
    rw [leaf_ty, hne] at this
    refine this.mono ?_
    rintro e w' ⟨rfl, hb⟩
    exact ⟨rfl, hW.trans (hb.mono hW.size)⟩
  have h7 : At7 W1 w.heap.size 0 x := by constructor <;> (rw [hW1]; simp [go_sem])
  have HK : Hid (∀ W, Below W1.heap.size W1 W → W.cell? ⟨w.heap.size, 0, none⟩ = some (.int .i64 x.k) ∧ W.cell? ⟨w.heap.size, 4, none⟩ = some (.int .i64 x.f.k) ∧ W.cell? ⟨w.heap.size, 5, none⟩ = some (.slice x.f.a x.f.l.length x.f.c) ∧ W.cell? ⟨w.heap.size, 6, none⟩ = some (.slice x.a x.l.length x.c)) := fun W hW => by
    obtain ⟨a0, a1, a2, a3, a4, a5, a6⟩ := h7.below hW
    simp only [Nat.zero_add] at a0 a1 a2 a3 a4 a5 a6
    exact ⟨a0, a4, a5, a6⟩
  have HK7 : Hid (∀ W, Below W1.heap.size W1 W → W.cell? ⟨w.heap.size, 0, none⟩ = some (.int .i64 x.k) ∧ W.cell? ⟨w.heap.size, 1, none⟩ = some (.int .i64 x.n) ∧ W.cell? ⟨w.heap.size, 2, none⟩ = some (.int .i64 x.t.k) ∧ W.cell? ⟨w.heap.size, 3, none⟩ = some (.slice x.t.a x.t.l.length x.t.c) ∧ W.cell? ⟨w.heap.size, 6, none⟩ = some (.slice x.a x.l.length x.c)) := fun W hW => by
    obtain ⟨a0, a1, a2, a3, a4, a5, a6⟩ := h7.below hW
    simp only [Nat.zero_add] at a0 a1 a2 a3 a4 a5 a6
    exact ⟨a0, a1, a2, a3, a6⟩
  obtain ⟨q, hq⟩ : ∃ q, q = okNum ar own x.k x.n := ⟨_, rfl⟩
  rw [← hq]
  have HQN : Hid (q = okNum ar own x.k x.n) := hq
  have HKK : Hid (1 ≤ x.k ∧ x.k ≤ 9) := ⟨h1, h9⟩
  have HN9 : Hid (x.n ≤ 9223372036854775807 ∧ 0 ≤ own ∧ own ≤ 1000000000) := ⟨hn9, ho0, ho1⟩
  clear hq hn9 ho0 ho1
  obtain ⟨tt, htt⟩ : ∃ tt, tt = (if tells x.k = true then goodY 4 x.t.ty else isAnyY x.t.ty) := ⟨_, rfl⟩
  rw [← htt]
  have HIT : Hid (x.k = 7 ∨ x.k = 9 → ∀ W, Below W1.heap.size W1 W → Calls Tryz.prog 47 #[.agg #[.int .i64 x.t.k, .slice x.t.a x.t.l.length x.t.c]] W fun e w' => e = .returned (.bool tt) ∧ Below W1.heap.size W1 w') := fun hk W hW => by
    have e : tt = goodT 4 x.t := by rw [htt, if_pos (by rcases hk with h | h <;> simp [tells, h]), goodT_eq]
    rw [e]
    refine (isType_any n hn1 x.t W ((hx.below (hb1.trans (hW.mono hb1.size))).t) hth hts).mono ?_
    rintro e w' ⟨rfl, hb⟩
    exact ⟨rfl, hW.trans (hb.mono hW.size)⟩
  have HST : Hid (¬ (x.k = 7 ∨ x.k = 9) → ∀ W, Below W1.heap.size W1 W → Calls Tryz.prog 27 #[.agg #[.int .i64 x.t.k, .slice x.t.a x.t.l.length x.t.c], .agg #[.int .i64 0, .slice none 0 0]] W fun e w' => e = .returned (.bool tt) ∧ Below W1.heap.size W1 w') := fun hk W hW => by
    have e : tt = relY escSame x.t.ty ⟨0, []⟩ := by rw [htt, if_neg (by simp [tells]; omega)]; rfl
    have := sameType_any n x.t (leaf 0) W ((hx.below (hb1.trans (hW.mono hb1.size))).t) (leaf_in 0 W) hth hts
    rw [leaf_ty, ← e] at this
    refine this.mono ?_
    rintro e w' ⟨rfl, hb⟩
    exact ⟨rfl, hW.trans (hb.mono hW.size)⟩
  have HTT : Hid (tt = (if tells x.k = true then goodY 4 x.t.ty else isAnyY x.t.ty)) := htt
  clear htt hn1 hth hts
  obtain ⟨oo, hoo⟩ : ∃ oo, oo = insOf x.k own := ⟨_, rfl⟩
  have HOO : Hid (oo = insOf x.k own) := hoo
  have HX : Hid (∀ W, Below W1.heap.size W1 W → x.In W) := fun W hW => (hx.below hb1).below hW
  have HIH : Hid (∀ j (h : j < x.l.length) (W : World), Below W1.heap.size W1 W → Calls Tryz.prog 25 #[.agg #[.int .i64 x.l[j].k, .int .i64 x.l[j].n, .int .i64 x.l[j].t.k, .slice x.l[j].t.a x.l[j].t.l.length x.l[j].t.c, .int .i64 x.l[j].f.k, .slice x.l[j].f.a x.l[j].f.l.length x.l[j].f.c, .slice x.l[j].a x.l[j].l.length x.l[j].c], .int .i64 ar, .int .i64 oo] W fun e w' => e = .returned (.bool (rightM ar x.l[j].tm oo)) ∧ Below W1.heap.size W1 w') := fun j h W hW => by
    obtain ⟨_, _, _, _, hin⟩ := ((hx.below hb1).below hW).part j h
    rw [hoo]
    refine (ih j h W hin).mono ?_
    rintro e w' ⟨rfl, hb⟩
    exact ⟨rfl, hW.trans (hb.mono hW.size)⟩
  rw [← hoo]
  clear hoo ih
  have HB : Hid (Below w.heap.size w W1) := hb1
  clear hb1 h1 h9 hne hw h7 hPP hx hf hs hpp
  go_enter Tryz.func25, Tryz.ntmps25
  go_upto_region 1 with fail
  rw [← hW1]
  clear hW1
  go_cut [33] (fun s33 wx => s33 = .bool false ∧ Hid (Below W1.heap.size W1 wx))
  case first =>
    refine wp_region_class (C := fun W => Below W1.heap.size W1 W) (by kernel_rfl) (by kernel_rfl) ((Below.refl _ _).drew) ?_
    iterate 24 (first
      | go_big_quiet_skip
      | (refine quiet_value (v := ?_) (by rfl) ?_ ?_; rotate_left; (focus (intro W hW; obtain ⟨d0, d4, d5, d6⟩ := HK.out W hW; have lw : w.heap.size < W.heap.size := World.block_lt_of_cell? _ _ d0; first | (go_simp; done) | (go_simp; with_reducible rfl))); simp only [Act.put, List.setIfInBounds_toArray, List.set_cons_zero, List.set_cons_succ])
      | (refine quiet_enter (.int .i64 PP) 45 #[.int .i64 x.k] (by rfl) ?_ (fun W hW => HP.out W hW) ?_; (focus (intro W _; go_simp; done)); simp only [Act.put, List.setIfInBounds_toArray, List.set_cons_zero, List.set_cons_succ])
      | (refine quiet_enter (.agg #[.int .i64 0, .slice none 0 0]) 46 #[] (by rfl) ?_ (fun W hW => HA.out W hW) ?_; (focus (intro W _; go_simp; done)); simp only [Act.put, List.setIfInBounds_toArray, List.set_cons_zero, List.set_cons_succ])
      | (refine quiet_enter (.bool true) 27 #[.agg #[.int .i64 x.f.k, .slice x.f.a x.f.l.length x.f.c], .agg #[.int .i64 0, .slice none 0 0]] (by rfl) ?_ (fun W hW => HS.out W hW) ?_; (focus (intro W _; go_simp; done)); simp only [Act.put, List.setIfInBounds_toArray, List.set_cons_zero, List.set_cons_succ]))
    refine wpQuiet_nil ?_
    intro wq hq
    have HQ : Hid (Below W1.heap.size W1 wq) := hq
    clear hq
    go_wp2_with fail
    go_meet
    case rel => exact ⟨rfl, HQ⟩
  case rest =>
    obtain ⟨h33, HQ⟩ := hcut
    subst h33
    obtain ⟨d0, d1, d2, d3, d6⟩ := HK7.out wc HQ.out
    have lw : w.heap.size < wc.heap.size := World.block_lt_of_cell? _ _ d0
    go_upto_region 3 with fail
    go_cut [7] (fun s7 wx => s7 = .bool (x.n == 0) ∧ Hid (Below W1.heap.size W1 wx))
    case first =>
      go_wp2_with fail
      go_meet
      case rel => exact ⟨rfl, HQ⟩
    obtain ⟨h7, HQ2⟩ := hcut
    subst h7
    clear HQ d0 d1 d2 d3 d6 lw
    apply_assumption
    refine wp_seq_k fun Kx hKx => ?_
    go_cut [7] (fun s7 wx => s7 = .bool q ∧ Hid (Below W1.heap.size W1 wx))
    case first =>
      obtain ⟨d0, d1, d2, d3, d6⟩ := HK7.out _ HQ2.out
      have lw := World.block_lt_of_cell? _ _ d0
      have hcs : x.k = 1 ∨ x.k = 2 ∨ x.k = 3 ∨ 4 ≤ x.k := by have := HKK.out; omega
      rcases hcs with hk | hk | hk | hk
      · rw [hk] at d0
        have HV : Hid (q = (decide (0 ≤ x.n) && decide (x.n - own < ar))) := by rw [HQN.out, hk]; simp [okNum, Hid]
        clear hk
        by_cases a : 0 ≤ x.n
        · have ea : decide (0 ≤ x.n) = true := by simpa using a
          have hwr : IntKind.i64.wrap (x.n - own) = x.n - own := by have := HN9.out; rw [IntKind.wrap_i64]; omega
          by_cases b : x.n - own < ar
          · have eb : decide (x.n - own < ar) = true := by simpa using b
            clear a b
            go_wp2_with fail
            go_meet
            case rel => exact ⟨by rw [HV.out, ea, eb]; rfl, HQ2⟩
          · have eb : decide (x.n - own < ar) = false := by simpa using b
            clear a b
            go_wp2_with fail
            go_meet
            case rel => exact ⟨by rw [HV.out, ea, eb]; rfl, HQ2⟩
        · have ea : decide (0 ≤ x.n) = false := by simpa using a
          clear a
          go_wp2_with fail
          go_meet
          case rel => exact ⟨by rw [HV.out, ea]; rfl, HQ2⟩
      · rw [hk] at d0
        have HV : Hid (q = (decide (-1000000 ≤ x.n) && decide (x.n ≤ 1000000))) := by rw [HQN.out, hk]; simp [okNum, Hid]
        clear hk
        by_cases a : x.n ≤ 1000000
        · have ea : decide (x.n ≤ 1000000) = true := by simpa using a
          by_cases b : -1000000 ≤ x.n
          · have eb : decide (-1000000 ≤ x.n) = true := by simpa using b
            clear a b
            go_wp2_with fail
            go_meet
            case rel => exact ⟨by rw [HV.out, ea, eb]; rfl, HQ2⟩
          · have eb : decide (-1000000 ≤ x.n) = false := by simpa using b
            clear a b
            go_wp2_with fail
            go_meet
            case rel => exact ⟨by rw [HV.out, ea, eb]; rfl, HQ2⟩
        · have ea : decide (x.n ≤ 1000000) = false := by simpa using a
          clear a
          go_wp2_with fail
          go_meet
          case rel => exact ⟨by rw [HV.out, ea, Bool.and_false], HQ2⟩
      · rw [hk] at d0
        have HV : Hid (q = (x.n == 0 || x.n == 1)) := by rw [HQN.out, hk]; simp [okNum, Hid]
        clear hk
        by_cases h01 : x.n = 0 ∨ x.n = 1
        · have ea : (wrap64 (x.n * x.n) == x.n) = true := by rcases h01 with h | h <;> (rw [h]; unfold wrap64; rfl)
          have eb : decide (x.n < 2) = true := by simp; omega
          have ec : decide (0 ≤ x.n) = true := by simp; omega
          have ev : (x.n == 0 || x.n == 1) = true := by rcases h01 with h | h <;> rw [h] <;> rfl
          clear h01
          go_wp2_with fail
          go_meet
          case rel => exact ⟨by rw [HV.out, ev], HQ2⟩
        · have ev : (x.n == 0 || x.n == 1) = false := by simp; omega
          by_cases a : wrap64 (x.n * x.n) = x.n
          · have ea : (wrap64 (x.n * x.n) == x.n) = true := by simpa using a
            by_cases b : x.n < 2
            · have eb : decide (x.n < 2) = true := by simpa using b
              have ec : decide (0 ≤ x.n) = false := by simp; omega
              clear a b h01
              go_wp2_with fail
              go_meet
              case rel => exact ⟨by rw [HV.out, ev], HQ2⟩
            · have eb : decide (x.n < 2) = false := by simpa using b
              clear a b h01
              go_wp2_with fail
              go_meet
              case rel => exact ⟨by rw [HV.out, ev], HQ2⟩
          · have ea : (wrap64 (x.n * x.n) == x.n) = false := by simpa using a
            clear a h01
            go_wp2_with fail
            go_meet
            case rel => exact ⟨by rw [HV.out, ev], HQ2⟩
      · have e1' : (x.k == 1) = false := by simp; omega
        have e2' : (x.k == 2) = false := by simp; omega
        have e3' : (x.k == 3) = false := by simp; omega
        have HV : Hid (q = (x.n == 0)) := by rw [HQN.out]; unfold okNum; rw [if_neg (by omega), if_neg (by omega), if_neg (by omega)]; exact rfl
        clear hk
        go_wp2_with fail
        go_meet
        case rel => exact ⟨by rw [HV.out], HQ2⟩
    obtain ⟨h7, HQ3⟩ := hcut
    subst h7
    clear HQ2
    apply_assumption
    refine wp_seq_k fun Ky hKy => ?_
    go_cut [7] (fun s7 wx => s7 = .bool (q && tt) ∧ Hid (Below W1.heap.size W1 wx))
    case first =>
      obtain ⟨d0, d1, d2, d3, d6⟩ := HK7.out _ HQ3.out
      have lw := World.block_lt_of_cell? _ _ d0
      by_cases h79 : x.k = 7 ∨ x.k = 9
      · have HIT2 : Hid (∀ W, Below W1.heap.size W1 W → Calls Tryz.prog 47 #[.agg #[.int .i64 x.t.k, .slice x.t.a x.t.l.length x.t.c]] W fun e w' => e = .returned (.bool tt) ∧ Below W1.heap.size W1 w') := HIT.out h79
        rcases h79 with hk | hk
        all_goals
          rw [hk] at d0
          clear hk
          cases q
          · go_wp2_with fail
            go_meet
            case rel => exact ⟨rfl, HQ3⟩
          · go_wp2_with fail
            refine (HIT2.out _ HQ3.out).mono ?_
            rintro e wt ⟨rfl, hbt⟩
            have HT : Hid (Below W1.heap.size W1 wt) := hbt
            clear hbt
            go_wp2_with fail
            go_meet
            case rel => exact ⟨by rw [Bool.true_and], HT⟩
      · have HST2 : Hid (∀ W, Below W1.heap.size W1 W → Calls Tryz.prog 27 #[.agg #[.int .i64 x.t.k, .slice x.t.a x.t.l.length x.t.c], .agg #[.int .i64 0, .slice none 0 0]] W fun e w' => e = .returned (.bool tt) ∧ Below W1.heap.size W1 w') := HST.out h79
        have e7 : (x.k == 7) = false := by simp; omega
        have e9 : (x.k == 9) = false := by simp; omega
        clear h79
        cases q
        · have HD : Hid (Below W1.heap.size W1 wc.drew) := HQ3.out.drew
          go_upto_region 13 with fail
          go_region
          go_wp2_with fail
          go_meet
          case rel => exact ⟨rfl, HD⟩
        · have HC0 : Hid (wc.cell? ⟨w.heap.size, 2, none⟩ = some (.int .i64 x.t.k) ∧ wc.cell? ⟨w.heap.size, 3, none⟩ = some (.slice x.t.a x.t.l.length x.t.c)) := ⟨d2, d3⟩
          have HC1 : Hid (wc.drew.cell? ⟨w.heap.size, 2, none⟩ = some (.int .i64 x.t.k) ∧ wc.drew.cell? ⟨w.heap.size, 3, none⟩ = some (.slice x.t.a x.t.l.length x.t.c)) := ⟨d2, d3⟩
          have HC2 : Hid (∀ W, Below W1.heap.size W1 W → W.cell? ⟨w.heap.size, 2, none⟩ = some (.int .i64 x.t.k) ∧ W.cell? ⟨w.heap.size, 3, none⟩ = some (.slice x.t.a x.t.l.length x.t.c)) := fun W hW => ⟨(HK7.out W hW).2.2.1, (HK7.out W hW).2.2.2.1⟩
          go_upto_region 13 with fail
          have hb : Below W1.heap.size W1 wc.drew := HQ3.out.drew
          clear d0 d1 d2 d3 d6
          go_region_held3 (fun W => W.cell? ⟨w.heap.size, 2, none⟩ = some (.int .i64 x.t.k) ∧ W.cell? ⟨w.heap.size, 3, none⟩ = some (.slice x.t.a x.t.l.length x.t.c))
            (first
              | (with_reducible exact HC0.out)
              | (with_reducible exact HC1.out)
              | (with_reducible exact HC2.out _ hb)
              | fail)
            (first
              | (go_at_call 46; (with_reducible refine (HA.out _ hb).mono ?_); rintro e wN ⟨rfl, hb⟩)
              | (go_at_call 27; (with_reducible refine (HST2.out _ hb).mono ?_); rintro e wM ⟨rfl, hb⟩)
              | fail)
          have HD : Hid (Below W1.heap.size W1 wM) := hb
          clear hb
          go_wp2_with fail
          go_meet
          case rel => exact ⟨by rw [Bool.true_and], HD⟩
    obtain ⟨h7, HQ4⟩ := hcut
    subst h7
    clear HQ3
    apply_assumption
    refine wp_seq_k fun Kz hKz => ?_
    go_cut [2] (fun s2 wx => s2 = .int .i64 oo ∧ Hid (Below W1.heap.size W1 wx))
    case first =>
      obtain ⟨d0, d1, d2, d3, d6⟩ := HK7.out _ HQ4.out
      have lw := World.block_lt_of_cell? _ _ d0
      by_cases hk : x.k = 7
      · rw [hk] at d0
        have hwr : IntKind.i64.wrap (own + 1) = own + 1 := by have := HN9.out; rw [IntKind.wrap_i64]; omega
        have HV : Hid (oo = own + 1) := by rw [HOO.out, hk]; rfl
        clear hk
        go_wp2_with fail
        go_meet
        case rel => exact ⟨by rw [HV.out], HQ4⟩
      · have e7 : (x.k == 7) = false := by simpa using hk
        have HV : Hid (oo = own) := by rw [HOO.out]; unfold insOf; rw [if_neg hk]; exact rfl
        clear hk
        go_wp2_with fail
        go_meet
        case rel => exact ⟨by rw [HV.out], HQ4⟩
    obtain ⟨h2, HQ5⟩ := hcut
    subst h2
    clear HQ4
    obtain ⟨d0, d1, d2, d3, d6⟩ := HK7.out _ HQ5.out
    have lw := World.block_lt_of_cell? _ _ d0
    apply_assumption
    go_wp2_with fail
    clear d0 d1 d2 d3 d6 lw
    go_loopg [7, 111] x.l.length (fun g s7 i wr => ∃ j : Nat, g + j = x.l.length ∧ i = .int .i64 (j : Int) ∧ s7 = .bool (q && tt && (x.l.take j).all fun y => rightM ar y.tm oo) ∧ Hid (Below W1.heap.size W1 wr))
    case atStart => exact ⟨0, by omega, rfl, by simp, HQ5⟩
    case round =>
      obtain ⟨j, hj, rfl, rfl, HW⟩ := hrel
      by_cases hlt : j < x.l.length
      · obtain ⟨W0, hW0⟩ : ∃ W, W = wr := ⟨_, rfl⟩
        subst hW0
        obtain ⟨xb, xo, xa, ⟨c0, c1, c2, c3, c4, c5, c6⟩, _⟩ := (HX.out W0 HW.out).part j hlt
        obtain ⟨y, hy⟩ : ∃ y, x.l[j] = y := ⟨_, rfl⟩
        have HI := HIH.out j hlt
        rw [hy] at c0 c1 c2 c3 c4 c5 c6 HI
        have hta : ((x.l.take (j + 1)).all fun y => rightM ar y.tm oo) = (((x.l.take j).all fun y => rightM ar y.tm oo) && rightM ar y.tm oo) := by
          rw [List.take_succ_eq_append_getElem hlt, List.all_append, hy]
          simp
        obtain ⟨s, hs⟩ : ∃ s, (q && tt && (x.l.take j).all fun y => rightM ar y.tm oo) = s := ⟨_, rfl⟩
        have HTA : Hid ((q && tt && (x.l.take (j + 1)).all fun y => rightM ar y.tm oo) = (s && rightM ar y.tm oo)) := by rw [hta, ← hs, Bool.and_assoc, Bool.and_assoc, Bool.and_assoc]; exact rfl
        rw [hs]
        obtain ⟨WX, hWX⟩ : ∃ W, W = W0.alloc (.cells #[.int .i64 y.k, .int .i64 y.n, .int .i64 y.t.k, .slice y.t.a y.t.l.length y.t.c, .int .i64 y.f.k, .slice y.f.a y.f.l.length y.f.c, .slice y.a y.l.length y.c] 27) := ⟨_, rfl⟩
        have hAX : Below W1.heap.size W1 WX := by rw [hWX]; exact HW.out.alloc HW.out.size _
        have HXB : Hid (Below W1.heap.size W1 WX) := hAX
        have HI2 : Hid (Calls Tryz.prog 25 #[.agg #[.int .i64 y.k, .int .i64 y.n, .int .i64 y.t.k, .slice y.t.a y.t.l.length y.t.c, .int .i64 y.f.k, .slice y.f.a y.f.l.length y.f.c, .slice y.a y.l.length y.c], .int .i64 ar, .int .i64 oo] WX fun e w' => e = .returned (.bool (rightM ar y.tm oo)) ∧ Below W1.heap.size W1 w') := HI WX hAX
        have y7 : At7 WX W0.heap.size 0 y := by constructor <;> (rw [hWX]; simp [go_sem])
        obtain ⟨y0, y1, y2, y3, y4, y5, y6⟩ := y7
        simp only [Nat.zero_add] at y0 y1 y2 y3 y4 y5 y6
        have ly : W0.heap.size < WX.heap.size := World.block_lt_of_cell? _ _ y0
        have i1 : (j : Int) < (x.l.length : Int) := by omega
        have i0 : (0 : Int) ≤ (j : Int) := by omega
        have i3 : (j : Int) ≤ 3 := by omega
        have HJ : Hid (gk + j = x.l.length) := hj
        have HXA : Hid (x.a = some ⟨xb, xo, none⟩) := xa
        obtain ⟨rr, hrr⟩ : ∃ rr, rr = rightM ar y.tm oo := ⟨_, rfl⟩
        rw [← hrr] at HI2 HTA
        rw [xa]
        clear hta hs HI hAX hj HW xa hy hrr
        cases s
        · go_upto_region 19 with fail
          rw [← hWX]
          clear hWX c0 c1 c2 c3 c4 c5 c6
          go_wp2_with fail
          rw [← HXA.out]
          go_roundg (x.l.length - (j + 1))
          case measure => have := HJ.out; omega
          case rel => exact ⟨j + 1, by have := HJ.out; omega, by go_num, by rw [HTA.out]; rfl, HXB⟩
        · go_upto_region 19 with fail
          rw [← hWX]
          clear hWX c0 c1 c2 c3 c4 c5 c6
          go_wp2_with fail
          refine HI2.out.mono ?_
          rintro e wt ⟨rfl, hbt⟩
          have HT : Hid (Below W1.heap.size W1 wt) := hbt
          clear hbt
          go_wp2_with fail
          rw [← HXA.out]
          go_roundg (x.l.length - (j + 1))
          case measure => have := HJ.out; omega
          case rel => exact ⟨j + 1, by have := HJ.out; omega, by go_num, by rw [HTA.out]; simp, HT⟩
      · have hjl : j = x.l.length := by omega
        have HN : Hid (Below w.heap.size w wr) := HB.out.trans (HW.out.mono HB.out.size)
        have i1 : ¬ (j : Int) < (x.l.length : Int) := by omega
        have HE : Hid ((q && tt && (x.l.take j).all fun y => rightM ar y.tm oo) = (q && tt && x.l.all fun y => rightM ar y.tm oo)) := by rw [hjl, List.take_length]; exact rfl
        clear HW hj hlt hjl
        go_wp2_with fail
        go_ret
        exact ⟨by rw [← HE.out]; rfl, HN.out⟩
end Go.Proofs.YtnddkmccagiclaaGreatDoor
