/-
  What the call of kind.same answers at two trees that lie in memory, where there is room for all levels of the first.
-/
import Derived.Test.YtibjnkpmnimgoaaDoorSmall
import Derived.Deep.RegionHeld3
namespace Go.Proofs.YtibjnkpmnimgoaaDoor
open Go.RowKit

theorem wrap_small (n : Nat) (hn : n ≤ 1000) : IntKind.i64.wrap (n : Int) = (n : Int) := by
  rw [IntKind.wrap_i64]; omega

set_option maxHeartbeats 1000000 in
theorem same_step (n : Nat) (hn : n ≤ 1000) (x y : Tr) (rp : Option Addr) (w : World) (hx : x.In w) (hy : y.In w) (hh : x.hgt ≤ n + 1) (hs : x.sm)
    (ih : Hid (∀ (x y : Tr) (w : World), x.In w → y.In w → x.hgt ≤ n → x.sm → Calls Tryd.prog 48 #[.agg #[.int .i64 x.k, .slice x.a x.l.length x.c], .agg #[.int .i64 y.k, .slice y.a y.l.length y.c], .int .i64 (n : Int), .pointer rp] w fun e w' => e = .returned (.bool (relY escSame x.ty y.ty)) ∧ Below w.heap.size w w')) :
    Calls Tryd.prog 48 #[.agg #[.int .i64 x.k, .slice x.a x.l.length x.c], .agg #[.int .i64 y.k, .slice y.a y.l.length y.c], .int .i64 ((n : Int) + 1), .pointer rp] w fun e w' => e = .returned (.bool (relY escSame x.ty y.ty)) ∧ Below w.heap.size w w' := by
  have hz : (((n : Int) + 1) == 0) = false := by simp; omega
  have hlen := hs.len
  by_cases ht0 : (x.k == y.k && (x.l.length : Int) == (y.l.length : Int)) = false
  · have ht : Hid ((x.k == y.k && (x.l.length : Int) == (y.l.length : Int)) = false) := ht0
    clear ht0
    go_enter Tryd.func48, Tryd.ntmps48
    go_wp2_with fail
    refine (alike_any _ _ _ _ _ _ _ _ false ht.out _).mono ?_
    rintro e w1 ⟨rfl, hb1⟩
    go_wp2_with fail
    go_ret
    refine ⟨?_, (((Below.refl _ _).alloc (Nat.le_refl _) _).alloc (by simp) _).trans (hb1.mono (by simp; omega))⟩
    rw [relY_top escSame x y rfl ht.out]
    rfl
  · have ht' : Hid ((x.k == y.k && (x.l.length : Int) == (y.l.length : Int)) = true) := by simpa [Hid] using ht0
    clear ht0
    have hk : Hid (x.k = y.k) := by have h := ht'.out; simp at h; exact h.1
    have hl : Hid (x.l.length = y.l.length) := by have h := ht'.out; simp at h; exact Int.ofNat.inj h.2
    go_enter Tryd.func48, Tryd.ntmps48
    go_wp2_with fail
    refine (alike_any _ _ _ _ _ _ _ _ true ht'.out _).mono ?_
    rintro e w1 ⟨rfl, hb1⟩
    have hbw : Below w.heap.size w w1 := (((Below.refl _ _).alloc (Nat.le_refl _) _).alloc (by simp) _).trans (hb1.mono (by simp; omega))
    have p1 : w1.cell? ⟨w.heap.size, 1, none⟩ = some (.slice x.a x.l.length x.c) := cell_later hb1 (by simp [go_sem])
    have p3 : w1.cell? ⟨w.heap.size + 1, 1, none⟩ = some (.slice y.a y.l.length y.c) := cell_later hb1 (by simp [go_sem])
    clear hb1
    go_wp2_with fail
    go_loopw [24] (fun i wr => ∃ j : Nat, j ≤ x.l.length ∧ i = .int .i64 (j : Int) ∧ Below w1.heap.size w1 wr ∧ ∀ q (h : q < x.l.length) (h' : q < y.l.length), q < j → relY escSame x.l[q].ty y.l[q].ty = true) (fun i _ => x.l.length - (intOf i).toNat)
    case atStart => exact ⟨0, Nat.zero_le _, rfl, Below.refl _ _, fun q _ _ h => absurd h (by omega)⟩
    case round =>
      obtain ⟨j, hj, rfl, hbr, hall⟩ := hrel
      have HA : Hid (∀ q (h : q < x.l.length) (h' : q < y.l.length), q < j → relY escSame x.l[q].ty y.l[q].ty = true) := hall
      clear hall
      have hbwr : Below w.heap.size w wr := hbw.trans (hbr.mono hbw.size)
      by_cases hlt : j < x.l.length
      · have hlt' : j < y.l.length := hl.out ▸ hlt
        obtain ⟨b, o, ea, x0, x1, hxj⟩ := hx.part j hlt
        obtain ⟨b', o', eb, y0, y1, hyj⟩ := hy.part j hlt'
        have q1 : wr.cell? ⟨w.heap.size, 1, none⟩ = some (.slice (some ⟨b, o, none⟩) x.l.length x.c) := by rw [← ea]; exact cell_later hbr p1
        have q3 : wr.cell? ⟨w.heap.size + 1, 1, none⟩ = some (.slice (some ⟨b', o', none⟩) y.l.length y.c) := by rw [← eb]; exact cell_later hbr p3
        replace x0 := cell_later hbwr x0
        replace x1 := cell_later hbwr x1
        replace y0 := cell_later hbwr y0
        replace y1 := cell_later hbwr y1
        have i1 : (j : Int) < (x.l.length : Int) := by omega
        have i2 : (j : Int) < (y.l.length : Int) := by omega
        have i0 : (0 : Int) ≤ (j : Int) := by omega
        clear p1 p3 ea eb hx hy ht'
        have hwr : IntKind.i64.wrap (n : Int) = (n : Int) := wrap_small n hn
        obtain ⟨r, hr⟩ : ∃ r, relY escSame x.l[j].ty y.l[j].ty = r := ⟨_, rfl⟩
        have HC : Hid (∀ (w : World), x.l[j].In w → y.l[j].In w → Calls Tryd.prog 48 #[.agg #[.int .i64 x.l[j].k, .slice x.l[j].a x.l[j].l.length x.l[j].c], .agg #[.int .i64 y.l[j].k, .slice y.l[j].a y.l[j].l.length y.l[j].c], .int .i64 (n : Int), .pointer rp] w fun e w' => e = .returned (.bool r) ∧ Below w.heap.size w w') := by
          intro w h1 h2
          have := ih.out x.l[j] y.l[j] w h1 h2 (Tr.hgt_part hh j hlt) (hs.part j hlt)
          rw [hr] at this
          exact this
        have HR : Hid (relY escSame x.l[j].ty y.l[j].ty = r) := hr
        clear hr
        cases r
        · go_wp2_with fail
          go_region_held3 (fun w' => w'.cell? ⟨w.heap.size, 1, none⟩ = some (.slice (some ⟨b, o, none⟩) x.l.length x.c) ∧ w'.cell? ⟨w.heap.size + 1, 1, none⟩ = some (.slice (some ⟨b', o', none⟩) y.l.length y.c) ∧ w'.cell? ⟨b, o + j * 2, none⟩ = some (.int .i64 x.l[j].k) ∧ w'.cell? ⟨b, o + j * 2 + 1, none⟩ = some (.slice x.l[j].a x.l[j].l.length x.l[j].c) ∧ w'.cell? ⟨b', o' + j * 2, none⟩ = some (.int .i64 y.l[j].k) ∧ w'.cell? ⟨b', o' + j * 2 + 1, none⟩ = some (.slice y.l[j].a y.l[j].l.length y.l[j].c)) (first | exact ⟨cell_later hb2 q1, cell_later hb2 q3, cell_later hb2 x0, cell_later hb2 x1, cell_later hb2 y0, cell_later hb2 y1⟩ | go_keep) (first | (go_at_call 48; refine (HC.out _ (hxj.below hbwr.drew) (hyj.below hbwr.drew)).mono ?_; rintro e w2 ⟨rfl, hb2⟩))
          have hbr2 : Below w1.heap.size w1 w2 := hbr.drew.trans (hb2.mono hbr.size)
          go_wp2_with fail
          go_ret
          refine ⟨?_, hbw.trans (hbr2.mono hbw.size)⟩
          rw [relY_part_not escSame x y rfl j hlt hlt' HR.out]
          rfl
        · go_wp2_with fail
          go_region_held3 (fun w' => w'.cell? ⟨w.heap.size, 1, none⟩ = some (.slice (some ⟨b, o, none⟩) x.l.length x.c) ∧ w'.cell? ⟨w.heap.size + 1, 1, none⟩ = some (.slice (some ⟨b', o', none⟩) y.l.length y.c) ∧ w'.cell? ⟨b, o + j * 2, none⟩ = some (.int .i64 x.l[j].k) ∧ w'.cell? ⟨b, o + j * 2 + 1, none⟩ = some (.slice x.l[j].a x.l[j].l.length x.l[j].c) ∧ w'.cell? ⟨b', o' + j * 2, none⟩ = some (.int .i64 y.l[j].k) ∧ w'.cell? ⟨b', o' + j * 2 + 1, none⟩ = some (.slice y.l[j].a y.l[j].l.length y.l[j].c)) (first | exact ⟨cell_later hb2 q1, cell_later hb2 q3, cell_later hb2 x0, cell_later hb2 x1, cell_later hb2 y0, cell_later hb2 y1⟩ | go_keep) (first | (go_at_call 48; refine (HC.out _ (hxj.below hbwr.drew) (hyj.below hbwr.drew)).mono ?_; rintro e w2 ⟨rfl, hb2⟩))
          have hbr2 : Below w1.heap.size w1 w2 := hbr.drew.trans (hb2.mono hbr.size)
          go_wp2_with fail
          go_roundw
          case rel =>
            refine ⟨j + 1, by omega, by go_num, hbr2, fun q h h' hq => ?_⟩
            by_cases e : q = j
            · subst e; exact HR.out
            · exact HA.out q h h' (by omega)
          case measure => simp [intOf]; omega
      · go_wp2_with fail
        go_ret
        refine ⟨?_, hbwr⟩
        rw [relY_parts escSame x y hk.out hl.out fun q h h' => HA.out q h h' (by omega)]
        rfl

theorem same_any (n : Nat) : n ≤ 1000 → ∀ (x y : Tr) (rp : Option Addr) (w : World), x.In w → y.In w → x.hgt ≤ n → x.sm → Calls Tryd.prog 48 #[.agg #[.int .i64 x.k, .slice x.a x.l.length x.c], .agg #[.int .i64 y.k, .slice y.a y.l.length y.c], .int .i64 (n : Int), .pointer rp] w fun e w' => e = .returned (.bool (relY escSame x.ty y.ty)) ∧ Below w.heap.size w w' := by
  induction n with
  | zero =>
    intro _ x y rp w _ _ h
    have := x.hgt_pos
    omega
  | succ n ih =>
    intro hn x y rp w hx hy h hs
    have e : ((n + 1 : Nat) : Int) = (n : Int) + 1 := by omega
    rw [e]
    exact same_step n (by omega) x y rp w hx hy h hs (fun x y w hx hy h hs => ih (by omega) x y rp w hx hy h hs)
end Go.Proofs.YtibjnkpmnimgoaaDoor
