/-
  What the call of kind.finer answers at two trees that lie in memory, where there is room for all levels of the first.
-/
import Derived.Test.YtnddkmccagiclaaDoorLot49da73b144
import Derived.Test.YtnddkmccagiclaaDoorLotfb9ab9a4a1
import Derived.Test.YtnddkmccagiclaaDoorLot61c8465b91
import Derived.Test.YtnddkmccagiclaaDoorLot3d63c1bccb
namespace Go.Proofs.YtnddkmccagiclaaDoor
open Go.RowKit

set_option maxHeartbeats 400000 in
theorem finer_right (n : Nat) (hn : n ≤ 1000) (k : Int) (a a' : Option Addr) (m m' c c' : Nat) (rp : Option Addr) (w : World) :
    Calls Tryd.prog 49 #[.agg #[.int .i64 k, .slice a m c], .agg #[.int .i64 0, .slice a' m' c'], .int .i64 ((n : Int) + 1), .pointer rp] w fun e w' => e = .returned (.bool true) ∧ Below w.heap.size w w' := by
  have hz : (((n : Int) + 1) == 0) = false := by simp; omega
  go_enter Tryd.func49, Tryd.ntmps49
  go_wp2_with fail
  go_ret
  exact ⟨rfl, ((Below.refl _ _).alloc (Nat.le_refl _) _).alloc (by simp) _⟩

set_option maxHeartbeats 1000000 in
theorem finer_step (n : Nat) (hn : n ≤ 1000) (x y : Tr) (rp : Option Addr) (w : World) (hx : x.In w) (hy : y.In w) (hh : x.hgt ≤ n + 1) (hs : x.sm) (e2 : (y.k == 0) = false)
    (ih : Hid (∀ (x y : Tr) (w : World), x.In w → y.In w → x.hgt ≤ n → x.sm → Calls Tryd.prog 49 #[.agg #[.int .i64 x.k, .slice x.a x.l.length x.c], .agg #[.int .i64 y.k, .slice y.a y.l.length y.c], .int .i64 (n : Int), .pointer rp] w fun e w' => e = .returned (.bool (relY escFiner x.ty y.ty)) ∧ Below w.heap.size w w')) :
    Calls Tryd.prog 49 #[.agg #[.int .i64 x.k, .slice x.a x.l.length x.c], .agg #[.int .i64 y.k, .slice y.a y.l.length y.c], .int .i64 ((n : Int) + 1), .pointer rp] w fun e w' => e = .returned (.bool (relY escFiner x.ty y.ty)) ∧ Below w.heap.size w w' := by
  have hz : (((n : Int) + 1) == 0) = false := by simp; omega
  have hlen := hs.len
  by_cases ht0 : (x.k == y.k && (x.l.length : Int) == (y.l.length : Int)) = false
  · have ht : Hid ((x.k == y.k && (x.l.length : Int) == (y.l.length : Int)) = false) := ht0
    clear ht0
    go_enter Tryd.func49, Tryd.ntmps49
    go_wp2_with fail
    refine (alike_any _ _ _ _ _ _ _ _ false ht.out _).mono ?_
    rintro e w1 ⟨rfl, hb1⟩
    go_wp2_with fail
    go_ret
    refine ⟨?_, (((Below.refl _ _).alloc (Nat.le_refl _) _).alloc (by simp) _).trans (hb1.mono (by simp; omega))⟩
    rw [relY_top escFiner x y (by simp [escFiner, e2]) ht.out]
    rfl
  · have ht' : Hid ((x.k == y.k && (x.l.length : Int) == (y.l.length : Int)) = true) := by simpa [Hid] using ht0
    clear ht0
    have hk : Hid (x.k = y.k) := by have h := ht'.out; simp at h; exact h.1
    have hl : Hid (x.l.length = y.l.length) := by have h := ht'.out; simp at h; exact Int.ofNat.inj h.2
    go_enter Tryd.func49, Tryd.ntmps49
    go_wp2_with fail
    refine (alike_any _ _ _ _ _ _ _ _ true ht'.out _).mono ?_
    rintro e w1 ⟨rfl, hb1⟩
    have hbw : Below w.heap.size w w1 := (((Below.refl _ _).alloc (Nat.le_refl _) _).alloc (by simp) _).trans (hb1.mono (by simp; omega))
    have p1 : w1.cell? ⟨w.heap.size, 1, none⟩ = some (.slice x.a x.l.length x.c) := cell_later hb1 (by simp [go_sem])
    have p3 : w1.cell? ⟨w.heap.size + 1, 1, none⟩ = some (.slice y.a y.l.length y.c) := cell_later hb1 (by simp [go_sem])
    clear hb1
    go_wp2_with fail
    go_loopw [27] (fun i wr => ∃ j : Nat, j ≤ x.l.length ∧ i = .int .i64 (j : Int) ∧ Below w1.heap.size w1 wr ∧ ∀ q (h : q < x.l.length) (h' : q < y.l.length), q < j → relY escFiner x.l[q].ty y.l[q].ty = true) (fun i _ => x.l.length - (intOf i).toNat)
    case atStart => exact ⟨0, Nat.zero_le _, rfl, Below.refl _ _, fun q _ _ h => absurd h (by omega)⟩
    case round =>
      obtain ⟨j, hj, rfl, hbr, hall⟩ := hrel
      have HA : Hid (∀ q (h : q < x.l.length) (h' : q < y.l.length), q < j → relY escFiner x.l[q].ty y.l[q].ty = true) := hall
      clear hall
      have hbwr : Below w.heap.size w wr := hbw.trans (hbr.mono hbw.size)
      by_cases hlt : j < x.l.length
      · have hlt' : j < y.l.length := hl.out ▸ hlt
        obtain ⟨b, o, ea, x0, x1, hxj⟩ := hx.part j hlt
        obtain ⟨b', o', eb, y0, y1, hyj⟩ := hy.part j hlt'
        have q1 : wr.cell? ⟨w.heap.size, 1, none⟩ = some (.slice (some ⟨b, o, none⟩) x.l.length x.c) := by rw [← ea]; exact cell_later hbr p1
        have q3 : wr.cell? ⟨w.heap.size + 1, 1, none⟩ = some (.slice (some ⟨b', o', none⟩) y.l.length y.c) := by rw [← eb]; exact cell_later hbr p3
        replace x0 := cell_later hbwr x0
        replace x1 := cell_later hbwr x1
        replace y0 := cell_later hbwr y0
        replace y1 := cell_later hbwr y1
        have i1 : (j : Int) < (x.l.length : Int) := by omega
        have i2 : (j : Int) < (y.l.length : Int) := by omega
        have i0 : (0 : Int) ≤ (j : Int) := by omega
        clear p1 p3 ea eb hx hy ht'
        have hwr : IntKind.i64.wrap (n : Int) = (n : Int) := wrap_small n hn
        obtain ⟨r, hr⟩ : ∃ r, relY escFiner x.l[j].ty y.l[j].ty = r := ⟨_, rfl⟩
        have HC : Hid (∀ (w : World), x.l[j].In w → y.l[j].In w → Calls Tryd.prog 49 #[.agg #[.int .i64 x.l[j].k, .slice x.l[j].a x.l[j].l.length x.l[j].c], .agg #[.int .i64 y.l[j].k, .slice y.l[j].a y.l[j].l.length y.l[j].c], .int .i64 (n : Int), .pointer rp] w fun e w' => e = .returned (.bool r) ∧ Below w.heap.size w w') := by
          intro w h1 h2
          have := ih.out x.l[j] y.l[j] w h1 h2 (Tr.hgt_part hh j hlt) (hs.part j hlt)
          rw [hr] at this
          exact this
        have HR : Hid (relY escFiner x.l[j].ty y.l[j].ty = r) := hr
        clear hr
        cases r
        · go_wp2_with fail
          go_region_held3 (fun w' => w'.cell? ⟨w.heap.size, 1, none⟩ = some (.slice (some ⟨b, o, none⟩) x.l.length x.c) ∧ w'.cell? ⟨w.heap.size + 1, 1, none⟩ = some (.slice (some ⟨b', o', none⟩) y.l.length y.c) ∧ w'.cell? ⟨b, o + j * 2, none⟩ = some (.int .i64 x.l[j].k) ∧ w'.cell? ⟨b, o + j * 2 + 1, none⟩ = some (.slice x.l[j].a x.l[j].l.length x.l[j].c) ∧ w'.cell? ⟨b', o' + j * 2, none⟩ = some (.int .i64 y.l[j].k) ∧ w'.cell? ⟨b', o' + j * 2 + 1, none⟩ = some (.slice y.l[j].a y.l[j].l.length y.l[j].c)) (first | exact ⟨cell_later hb2 q1, cell_later hb2 q3, cell_later hb2 x0, cell_later hb2 x1, cell_later hb2 y0, cell_later hb2 y1⟩ | go_keep) (first | (go_at_call 49; refine (HC.out _ (hxj.below hbwr.drew) (hyj.below hbwr.drew)).mono ?_; rintro e w2 ⟨rfl, hb2⟩))
          have hbr2 : Below w1.heap.size w1 w2 := hbr.drew.trans (hb2.mono hbr.size)
          go_wp2_with fail
          go_ret
          refine ⟨?_, hbw.trans (hbr2.mono hbw.size)⟩
          rw [relY_part_not escFiner x y (by simp [escFiner, e2]) j hlt hlt' HR.out]
          rfl
        · go_wp2_with fail
          go_region_held3 (fun w' => w'.cell? ⟨w.heap.size, 1, none⟩ = some (.slice (some ⟨b, o, none⟩) x.l.length x.c) ∧ w'.cell? ⟨w.heap.size + 1, 1, none⟩ = some (.slice (some ⟨b', o', none⟩) y.l.length y.c) ∧ w'.cell? ⟨b, o + j * 2, none⟩ = some (.int .i64 x.l[j].k) ∧ w'.cell? ⟨b, o + j * 2 + 1, none⟩ = some (.slice x.l[j].a x.l[j].l.length x.l[j].c) ∧ w'.cell? ⟨b', o' + j * 2, none⟩ = some (.int .i64 y.l[j].k) ∧ w'.cell? ⟨b', o' + j * 2 + 1, none⟩ = some (.slice y.l[j].a y.l[j].l.length y.l[j].c)) (first | exact ⟨cell_later hb2 q1, cell_later hb2 q3, cell_later hb2 x0, cell_later hb2 x1, cell_later hb2 y0, cell_later hb2 y1⟩ | go_keep) (first | (go_at_call 49; refine (HC.out _ (hxj.below hbwr.drew) (hyj.below hbwr.drew)).mono ?_; rintro e w2 ⟨rfl, hb2⟩))
          have hbr2 : Below w1.heap.size w1 w2 := hbr.drew.trans (hb2.mono hbr.size)
          go_wp2_with fail
          go_roundw
          case rel =>
            refine ⟨j + 1, by omega, by go_num, hbr2, fun q h h' hq => ?_⟩
            by_cases e : q = j
            · subst e; exact HR.out
            · exact HA.out q h h' (by omega)
          case measure => simp [intOf]; omega
      · go_wp2_with fail
        go_ret
        refine ⟨?_, hbwr⟩
        rw [relY_parts escFiner x y hk.out hl.out fun q h h' => HA.out q h h' (by omega)]
        rfl

theorem finer_any (n : Nat) : n ≤ 1000 → ∀ (x y : Tr) (rp : Option Addr) (w : World), x.In w → y.In w → x.hgt ≤ n → x.sm → Calls Tryd.prog 49 #[.agg #[.int .i64 x.k, .slice x.a x.l.length x.c], .agg #[.int .i64 y.k, .slice y.a y.l.length y.c], .int .i64 (n : Int), .pointer rp] w fun e w' => e = .returned (.bool (relY escFiner x.ty y.ty)) ∧ Below w.heap.size w w' := by
  induction n with
  | zero =>
    intro _ x y rp w _ _ h
    have := x.hgt_pos
    omega
  | succ n ih =>
    intro hn x y rp w hx hy h hs
    have e : ((n + 1 : Nat) : Int) = (n : Int) + 1 := by omega
    rw [e]
    by_cases k2 : y.k = 0
    · rw [k2, relY_esc escFiner x y (by simp [escFiner, k2])]
      exact finer_right n (by omega) x.k x.a y.a _ _ _ _ rp w
    exact finer_step n (by omega) x y rp w hx hy h hs (by simpa using k2) (fun x y w hx hy h hs => ih (by omega) x y rp w hx hy h hs)
end Go.Proofs.YtnddkmccagiclaaDoor

/-
  What the calls of kind.holds (of kind.finer) and kind.Finer answer at two trees of which the first has at most a thousand levels.
-/
namespace Go.Proofs.YtnddkmccagiclaaDoor
open Go.RowKit

set_option maxHeartbeats 1000000 in
theorem holds_33 (x y : Tr) (r : Bool) (w : World) (hx : x.In w) (hy : y.In w)
    (HC : Hid (∀ (rp : Option Addr) (w : World), x.In w → y.In w → Calls Tryd.prog 49 #[.agg #[.int .i64 x.k, .slice x.a x.l.length x.c], .agg #[.int .i64 y.k, .slice y.a y.l.length y.c], .int .i64 1000, .pointer rp] w fun e w' => e = .returned (.bool r) ∧ Below w.heap.size w w')) :
    Calls Tryd.prog 46 #[.func (.func 49) #[] #[], .agg #[.int .i64 x.k, .slice x.a x.l.length x.c], .agg #[.int .i64 y.k, .slice y.a y.l.length y.c]] w fun e w' => e = .returned (.bool r) ∧ Below w.heap.size w w' := by
  go_enter Tryd.func46, Tryd.ntmps46
  go_wp2_with fail
  refine (put_any (w.heap.size + 1 + 1) (.slice none 0 0) 0 [] x.k y.k x.a y.a x.l.length y.l.length x.c y.c none _ (by simp [go_sem]) (by simp [go_sem]) (World.ownsRow_nil _ _ _ _) (by omega)).mono ?_
  rintro e w1 ⟨rfl, g, cap, hc1, hf1, ho1, _, hk1⟩
  have hbw : Below w.heap.size w w1 := ((((Below.refl _ _).alloc (Nat.le_refl _) _).alloc (by simp) _).alloc (by simp; omega) _).trans ((hk1.below (by simp [Value.ownBlock]) (by simp)).mono (by omega))
  have hsz : w.heap.size + 1 + 1 < w1.heap.size := World.block_lt_of_cell? _ _ hc1
  have HO : Hid (Off (w.heap.size + 1 + 1) x y r 1 w1) := ⟨hf1, .inl ⟨rfl, g, cap, by simpa using hc1, by simpa using ho1⟩⟩
  clear hc1 hf1 ho1 hk1
  go_wp2_with fail
  go_loopg [] 1 (fun k wr => Hid (Off (w.heap.size + 1 + 1) x y r k wr) ∧ Below w.heap.size w wr)
  case atStart => exact ⟨HO, hbw⟩
  case round =>
    obtain ⟨HR, hbr⟩ := hrel
    obtain ⟨hfr, ⟨rfl, g, cap, hc, ho⟩ | ⟨rfl, rfl, a, cap, hc⟩⟩ := HR.out
    · have c0 := ho.cellAt 0 (by omega)
      have c1 := ho.cellAt 1 (by omega)
      have c2 := ho.cellAt 2 (by omega)
      have c3 := ho.cellAt 3 (by omega)
      have c4 := ho.cellAt 4 (by omega)
      simp only [List.getElem?_cons_zero, List.getElem?_cons_succ] at c0 c1 c2 c3 c4
      have hcap : 1 ≤ cap := by
        rcases ho.2 with ⟨h, _⟩ | ⟨g', cap', cur, h, _, _, h1, _⟩
        · cases h
        · cases h; exact h1
      have hgr : w.heap.size + 1 + 1 < g := by
        rcases ho.2 with ⟨h, _⟩ | ⟨g', cap', cur, h, h1, _⟩
        · cases h
        · cases h; exact h1
      have hlr : w.heap.size + 1 + 1 < wr.heap.size := World.block_lt_of_cell? _ _ hc
      clear ho HR HO
      go_wp2_with fail
      refine (empty_any (w.heap.size + 1 + 1) (some ⟨g, 0, none⟩) 1 cap _ hc).mono ?_
      rintro e w' ⟨rfl, rfl⟩
      go_wp2_with fail
      refine (take_any (w.heap.size + 1 + 1) g 0 cap x.k y.k x.a y.a x.l.length y.l.length x.c y.c none _ (by simpa using hc) hfr (by omega) (by omega) (by simpa using c0) (by simpa using c1) (by simpa using c2) (by simpa using c3) (by simpa using c4)).mono ?_
      rintro e w' ⟨rfl, rfl⟩
      go_wp2_with fail
      have hb3 : Below w.heap.size w (((w'.setCell ⟨w.heap.size + 1 + 1, 0, none⟩ (.slice (some ⟨g, 0, none⟩) 0 cap)).alloc (.cells #[.int .i64 x.k, .slice x.a x.l.length x.c, .int .i64 y.k, .slice y.a y.l.length y.c, .pointer none] 118)).alloc (.cells #[.int .i64 x.k, .slice x.a x.l.length x.c, .int .i64 y.k, .slice y.a y.l.length y.c, .pointer none] 118)) :=
        ((hbr.setCell (by simp; omega) _).alloc (by simp [World.setCell]; omega) _).alloc (by simp [World.setCell]; omega) _
      have hb4 := hb3.alloc (by simp [World.setCell]; omega) (.cells #[.int .i64 x.k, .slice x.a x.l.length x.c, .int .i64 y.k, .slice y.a y.l.length y.c, .pointer none] 118)
      refine (HC.out _ _ (hx.below hb4) (hy.below hb4)).mono ?_
      rintro e w5 ⟨rfl, hb5⟩
      have hb6 : Below w.heap.size w w5 := hb4.trans (hb5.mono (by simp [World.setCell]; omega))
      have hcR : w5.cell? ⟨w.heap.size + 1 + 1, 0, none⟩ = some (.slice (some ⟨g, 0, none⟩) 0 cap) := by
        refine cell_later hb5 (cell_later ((((Below.refl _ (w'.setCell ⟨w.heap.size + 1 + 1, 0, none⟩ (.slice (some ⟨g, 0, none⟩) 0 cap))).alloc (Nat.le_refl _) _).alloc (by simp) _).alloc (by simp; omega) _) ?_)
        exact World.cell?_setCell_same _ _ _ hc
      have hfR : w5.frozen? ⟨w.heap.size + 1 + 1, 0, none⟩ = false := by
        rw [hb5.frozen (p := ⟨w.heap.size + 1 + 1, 0, none⟩) (by simp [World.setCell]; omega)]
        simp [frozen?_alloc_cells, hfr]
      clear hb5 hb4 hb3 hc hfr c0 c1 c2 c3 c4
      cases r
      · go_wp2_with fail
        go_ret
        exact ⟨rfl, hb6⟩
      · go_wp2_with fail
        go_roundg 0
        case measure => omega
        case rel => exact ⟨⟨hfR, .inr ⟨rfl, rfl, _, _, hcR⟩⟩, hb6⟩
    · go_wp2_with fail
      refine (empty_any (w.heap.size + 1 + 1) a 0 cap _ hc).mono ?_
      rintro e w' ⟨rfl, rfl⟩
      go_wp2_with fail
      go_ret
      exact ⟨rfl, hbr⟩
set_option maxHeartbeats 400000 in
/-- kind.Finer. -/
theorem finer_whole (x y : Tr) (w : World) (hx : x.In w) (hy : y.In w) (hh : x.hgt ≤ 1000) (hs : x.sm) :
    Calls Tryd.prog 31 #[.agg #[.int .i64 x.k, .slice x.a x.l.length x.c], .agg #[.int .i64 y.k, .slice y.a y.l.length y.c]] w fun e w' => e = .returned (.bool (relY escFiner x.ty y.ty)) ∧ Below w.heap.size w w' := by
  obtain ⟨r, hr⟩ : ∃ r, relY escFiner x.ty y.ty = r := ⟨_, rfl⟩
  have HC : Hid (∀ (rp : Option Addr) (w : World), x.In w → y.In w → Calls Tryd.prog 49 #[.agg #[.int .i64 x.k, .slice x.a x.l.length x.c], .agg #[.int .i64 y.k, .slice y.a y.l.length y.c], .int .i64 1000, .pointer rp] w fun e w' => e = .returned (.bool r) ∧ Below w.heap.size w w') := by
    intro rp w h1 h2
    have h := finer_any 1000 (Nat.le_refl _) x y rp w h1 h2 hh hs
    rw [hr] at h
    exact h
  rw [hr]
  clear hr
  have HH : Hid (∀ (w : World), x.In w → y.In w → Calls Tryd.prog 46 #[.func (.func 49) #[] #[], .agg #[.int .i64 x.k, .slice x.a x.l.length x.c], .agg #[.int .i64 y.k, .slice y.a y.l.length y.c]] w fun e w' => e = .returned (.bool r) ∧ Below w.heap.size w w') := fun w h1 h2 => holds_33 x y r w h1 h2 HC
  clear HC
  go_enter Tryd.func31, Tryd.ntmps31
  go_wp2_with fail
  have hb0 : Below w.heap.size w ((w.alloc (Obj.cells #[.int .i64 x.k, .slice x.a x.l.length x.c] 24)).alloc (Obj.cells #[.int .i64 y.k, .slice y.a y.l.length y.c] 24)) := ((Below.refl _ _).alloc (Nat.le_refl _) _).alloc (by simp) _
  refine (HH.out _ (hx.below hb0) (hy.below hb0)).mono ?_
  rintro e w1 ⟨rfl, hb1⟩
  have hb2 := hb0.trans (hb1.mono (by simp; omega))
  clear hb0 hb1
  go_wp2_with fail
  go_ret
  exact ⟨rfl, hb2⟩

end Go.Proofs.YtnddkmccagiclaaDoor

/-
  What the call of chaperonekeep.CheckLoose answers.
-/
namespace Go.Proofs.YtnddkmccagiclaaDoor
open Go.RowKit

/-- What Check tells, in one. -/
def CkInfo (x y : TT) (i : Tr) (ec : Int) (w' : World) : Prop :=
  (ec ≠ 0 ∧ (goodM 0 x.tm = false ∨ readS x.tm [] 0 = none)) ∨ (ec = 0 ∧ goodM 0 x.tm = true ∧ readS x.tm [] 0 = some (y.tm, i.ty) ∧ y.In w' ∧ i.In w' ∧ goodT 44 i = true)

theorem check_one (x : TT) (w : World) (hg : Gp w) (hx : x.In w) (hnb : x.nb) : Calls Tryd.prog 13 #[.agg #[.int .i64 x.k, .int .i64 x.n, .int .i64 x.t.k, .slice x.t.a x.t.l.length x.t.c, .int .i64 x.f.k, .slice x.f.a x.f.l.length x.f.c, .slice x.a x.l.length x.c]] w fun e w' => ∃ (y : TT) (i : Tr) (ec : Int), e = .returned (.tuple #[.agg #[.int .i64 y.k, .int .i64 y.n, .int .i64 y.t.k, .slice y.t.a y.t.l.length y.t.c, .int .i64 y.f.k, .slice y.f.a y.f.l.length y.f.c, .slice y.a y.l.length y.c], .agg #[.int .i64 i.k, .slice i.a i.l.length i.c], .int .i64 ec]) ∧ Hid (CkInfo x y i ec w') ∧ Below w.heap.size w w' := by
  refine (check_any x w hg hx hnb).mono ?_
  rintro e w' ⟨hb, ⟨h1, rfl⟩ | ⟨h1, h2, rfl⟩ | ⟨h1, y, i, h2, rfl, h3, h4, h5⟩⟩
  · exact ⟨tleaf 0 0, leaf 0, 1, rfl, .inl ⟨by omega, .inl h1⟩, hb⟩
  · exact ⟨tleaf 0 0, leaf 0, 2, rfl, .inl ⟨by omega, .inr h2⟩, hb⟩
  · exact ⟨y, i, 0, rfl, .inr ⟨rfl, h1, h2, h3, h4, h5⟩, hb⟩

set_option maxRecDepth 20000 in
set_option maxHeartbeats 8000000 in
theorem ckLoose_any (x : TT) (k : Int) (w : World) (hg : Gp w) (hx : x.In w) (hnb : x.nb) (hsz : x.lw) : Calls Tryd.prog 7 #[.agg #[.int .i64 x.k, .int .i64 x.n, .int .i64 x.t.k, .slice x.t.a x.t.l.length x.t.c, .int .i64 x.f.k, .slice x.f.a x.f.l.length x.f.c, .slice x.a x.l.length x.c], .int .i64 k] w fun e w' => e = .returned (.bool true) ∧ Below w.heap.size w w' := by
  obtain ⟨W1, hW1⟩ : ∃ W1, W1 = w.alloc (.cells #[.int .i64 x.k, .int .i64 x.n, .int .i64 x.t.k, .slice x.t.a x.t.l.length x.t.c, .int .i64 x.f.k, .slice x.f.a x.f.l.length x.f.c, .slice x.a x.l.length x.c] 27) := ⟨_, rfl⟩
  have hb1 : Below w.heap.size w W1 := by rw [hW1]; exact (Below.refl _ _).alloc (Nat.le_refl _) _
  have h7 : At7 W1 w.heap.size 0 x := by rw [hW1]; exact At7.new w x
  have HX : Hid (x.In w ∧ Gp w ∧ x.nb ∧ x.lw ∧ Below w.heap.size w W1 ∧ At7 W1 w.heap.size 0 x) := ⟨hx, hg, hnb, hsz, hb1, h7⟩
  have HC : Hid (Calls Tryd.prog 13 #[.agg #[.int .i64 x.k, .int .i64 x.n, .int .i64 x.t.k, .slice x.t.a x.t.l.length x.t.c, .int .i64 x.f.k, .slice x.f.a x.f.l.length x.f.c, .slice x.a x.l.length x.c]] W1 fun e w' => ∃ (y : TT) (i : Tr) (ec : Int), e = .returned (.tuple #[.agg #[.int .i64 y.k, .int .i64 y.n, .int .i64 y.t.k, .slice y.t.a y.t.l.length y.t.c, .int .i64 y.f.k, .slice y.f.a y.f.l.length y.f.c, .slice y.a y.l.length y.c], .agg #[.int .i64 i.k, .slice i.a i.l.length i.c], .int .i64 ec]) ∧ Hid (CkInfo x y i ec w') ∧ Below W1.heap.size W1 w') := check_one x W1 (hg.below hb1) (hx.below hb1) hnb
  obtain ⟨p0, p1, p2, p3, p4, p5, p6⟩ := h7
  simp only [Nat.zero_add] at p0 p1 p2 p3 p4 p5 p6
  clear hg hx hnb hb1 hsz
  go_enter Tryd.func7, Tryd.ntmps7
  go_wp2_with fail
  rw [← hW1]
  clear hW1
  refine HC.out.mono ?_
  rintro e w2 ⟨y, i, ec, rfl, HI, hb2⟩
  clear p0 p1 p2 p3 p4 p5 p6 HC
  obtain ⟨W3, hW3⟩ : ∃ W3, W3 = (w2.alloc (.cells #[.int .i64 y.k, .int .i64 y.n, .int .i64 y.t.k, .slice y.t.a y.t.l.length y.t.c, .int .i64 y.f.k, .slice y.f.a y.f.l.length y.f.c, .slice y.a y.l.length y.c] 27)).alloc (.cells #[.int .i64 i.k, .slice i.a i.l.length i.c] 24) := ⟨_, rfl⟩
  have hA : Below w2.heap.size w2 W3 := by rw [hW3]; exact ((Below.refl _ _).alloc (Nat.le_refl _) _).alloc (by simp) _
  have hbw : Below w.heap.size w w2 := HX.out.2.2.2.2.1.trans (hb2.mono HX.out.2.2.2.2.1.size)
  have hB3 : Below w.heap.size w W3 := hbw.trans (hA.mono hbw.size)
  obtain ⟨p0, p1, p2, p3, p4, p5, p6⟩ := (HX.out.2.2.2.2.2.below hb2).below hA
  simp only [Nat.zero_add] at p0 p1 p2 p3 p4 p5 p6
  have u0 : W3.cell? ⟨w2.heap.size + 1, 0, none⟩ = some (.int .i64 i.k) := by rw [hW3]; simp [go_sem]
  have u1 : W3.cell? ⟨w2.heap.size + 1, 1, none⟩ = some (.slice i.a i.l.length i.c) := by rw [hW3]; simp [go_sem]
  have HL : Hid (Calls Tryd.prog 30 #[.agg #[.int .i64 x.k, .int .i64 x.n, .int .i64 x.t.k, .slice x.t.a x.t.l.length x.t.c, .int .i64 x.f.k, .slice x.f.a x.f.l.length x.f.c, .slice x.a x.l.length x.c], .int .i64 k] W3 (LoPost (fun _ => True) x W3)) := loose_any x.sz _ x k W3 (Nat.le_refl _) (HX.out.1.below hB3) HX.out.2.2.1 HX.out.2.2.2.1 (HX.out.1.bl.mono fun _ _ => trivial) (fun _ _ => trivial)
  have HB : Hid (Below w.heap.size w W3 ∧ CkInfo x y i ec W3 ∧ Gp w ∧ W3.cell? ⟨w2.heap.size + 1, 0, none⟩ = some (.int .i64 i.k) ∧ W3.cell? ⟨w2.heap.size + 1, 1, none⟩ = some (.slice i.a i.l.length i.c)) := by
    refine ⟨hB3, ?_, HX.out.2.1, u0, u1⟩
    rcases HI.out with h | ⟨h1, h2, h3, h4, h5, h6⟩
    · exact .inl h
    · exact .inr ⟨h1, h2, h3, h4.below hA, h5.below hA, h6⟩
  clear hA hbw hB3 hb2 HX HI u0 u1
  go_upto_region 2 with fail
  rw [← hW3]
  clear hW3
  go_wp2_with fail
  refine HL.out.mono ?_
  rintro e w4 ⟨u, m, rfl, hlo, hui, _, hunb, hb4⟩
  clear p0 p1 p2 p3 p4 p5 p6 HL
  obtain ⟨W5, hW5⟩ : ∃ W5, W5 = w4.alloc (.cells #[.int .i64 u.k, .int .i64 u.n, .int .i64 u.t.k, .slice u.t.a u.t.l.length u.t.c, .int .i64 u.f.k, .slice u.f.a u.f.l.length u.f.c, .slice u.a u.l.length u.c] 27) := ⟨_, rfl⟩
  have hA5 : Below w4.heap.size w4 W5 := by rw [hW5]; exact (Below.refl _ _).alloc (Nat.le_refl _) _
  have hb35 : Below W3.heap.size W3 W5 := hb4.trans (hA5.mono hb4.size)
  have hbw5 : Below w.heap.size w W5 := HB.out.1.trans (hb35.mono HB.out.1.size)
  have h75 : At7 W5 w4.heap.size 0 u := by rw [hW5]; exact At7.new w4 u
  obtain ⟨p0, p1, p2, p3, p4, p5, p6⟩ := h75
  simp only [Nat.zero_add] at p0 p1 p2 p3 p4 p5 p6
  have HC2 : Hid (Calls Tryd.prog 13 #[.agg #[.int .i64 u.k, .int .i64 u.n, .int .i64 u.t.k, .slice u.t.a u.t.l.length u.t.c, .int .i64 u.f.k, .slice u.f.a u.f.l.length u.f.c, .slice u.a u.l.length u.c]] W5 fun e w' => ∃ (z : TT) (j : Tr) (ed : Int), e = .returned (.tuple #[.agg #[.int .i64 z.k, .int .i64 z.n, .int .i64 z.t.k, .slice z.t.a z.t.l.length z.t.c, .int .i64 z.f.k, .slice z.f.a z.f.l.length z.f.c, .slice z.a z.l.length z.c], .agg #[.int .i64 j.k, .slice j.a j.l.length j.c], .int .i64 ed]) ∧ Hid (CkInfo u z j ed w') ∧ Below W5.heap.size W5 w') := check_one u W5 (HB.out.2.2.1.below hbw5) (hui.below hA5) hunb
  have HLO : Hid (looser x.tm u.tm ∧ Below W3.heap.size W3 W5) := ⟨hlo, hb35⟩
  clear hA5 hb35 hbw5 hlo hui hunb hb4
  go_upto_region 3 with fail
  rw [← hW5]
  clear hW5
  go_wp2_with fail
  refine HC2.out.mono ?_
  rintro e w6 ⟨z, j, ed, rfl, HJ, hb6⟩
  clear p0 p1 p2 p3 p4 p5 p6 HC2
  obtain ⟨W7, hW7⟩ : ∃ W7, W7 = (w6.alloc (.cells #[.int .i64 z.k, .int .i64 z.n, .int .i64 z.t.k, .slice z.t.a z.t.l.length z.t.c, .int .i64 z.f.k, .slice z.f.a z.f.l.length z.f.c, .slice z.a z.l.length z.c] 27)).alloc (.cells #[.int .i64 j.k, .slice j.a j.l.length j.c] 24) := ⟨_, rfl⟩
  have hA7 : Below w6.heap.size w6 W7 := by rw [hW7]; exact ((Below.refl _ _).alloc (Nat.le_refl _) _).alloc (by simp) _
  have hb57 := hb6.trans (hA7.mono hb6.size)
  have hb37 : Below W3.heap.size W3 W7 := HLO.out.2.trans (hb57.mono HLO.out.2.size)
  have hbw7 : Below w.heap.size w W7 := HB.out.1.trans (hb37.mono HB.out.1.size)
  have u0 := cell_later hb37 HB.out.2.2.2.1
  have u1 := cell_later hb37 HB.out.2.2.2.2
  have v0 : W7.cell? ⟨w6.heap.size + 1, 0, none⟩ = some (.int .i64 j.k) := by rw [hW7]; simp [go_sem]
  have v1 : W7.cell? ⟨w6.heap.size + 1, 1, none⟩ = some (.slice j.a j.l.length j.c) := by rw [hW7]; simp [go_sem]
  have HCH : Hid (∀ W', Below w.heap.size w W' → Calls Tryd.prog 24 #[] W' fun e w' => e = .returned (.bool true) ∧ Below w.heap.size w w') := by
    intro W' hb
    refine (checks_any W' (HB.out.2.2.1.below hb)).mono ?_
    rintro e w' ⟨rfl, h⟩
    exact ⟨rfl, hb.trans (h.mono hb.size)⟩
  by_cases hec : ec = 0
  · have HD : Hid (ed = 0 ∧ Calls Tryd.prog 31 #[.agg #[.int .i64 i.k, .slice i.a i.l.length i.c], .agg #[.int .i64 j.k, .slice j.a j.l.length j.c]] W7 fun e w' => e = .returned (.bool true) ∧ Below w.heap.size w w') := by
      rcases HB.out.2.1 with ⟨h, _⟩ | ⟨_, g1, g2, g3, g4, g5⟩
      · exact absurd hec h
      obtain ⟨hok, hsz⟩ := goodM_ok g1
      obtain ⟨y', i', r1, r2⟩ := read_loose x.tm u.tm [] [] 0 y.tm i.ty HLO.out.1 hok (fun u h => by cases h) (fun u h => by cases h) (by simp [relL]) g2
      have gu := goodM_looser HLO.out.1 g1
      rcases HJ.out with ⟨_, h | h⟩ | ⟨e0, _, k2, k3, k4, k5⟩
      · rw [gu] at h; cases h
      · rw [r1] at h; cases h
      · rw [r1] at k2
        have e2 : i' = j.ty := congrArg Prod.snd (Option.some.inj k2)
        have gf := good_facts (n := 44) (by omega) g5
        refine ⟨e0, ?_⟩
        have := finer_whole i j W7 (g4.below hb37) (k4.below hA7) gf.2.1 gf.2.2
        rw [← e2, r2] at this
        refine this.mono ?_
        rintro e w' ⟨rfl, h⟩
        exact ⟨rfl, hbw7.trans (h.mono hbw7.size)⟩
    have hed := HD.out.1
    subst hec hed
    clear HB HLO HJ hA7 hb57 hb37 hbw7 hb6
    go_upto_region 4 with fail
    rw [← hW7]
    clear hW7
    go_wp2_with fail
    refine HD.out.2.mono ?_
    rintro e w8 ⟨rfl, hb8⟩
    have HB8 : Hid (Below w.heap.size w w8) := hb8
    clear hb8 HD u0 u1 v0 v1
    go_wp2_with fail
    refine (HCH.out _ HB8.out).mono ?_
    rintro e w9 ⟨rfl, hb9⟩
    have HN : Hid (Below w.heap.size w w9) := hb9
    clear hb9 HB8 HCH
    go_wp2_with fail
    go_ret
    exact ⟨rfl, HN.out⟩
  · have hne : (ec != 0) = true := by simpa using hec
    have HB8 : Hid (Below w.heap.size w W7) := hbw7
    clear hec HB HLO HJ hA7 hb57 hb37 hbw7 hb6
    go_upto_region 4 with fail
    rw [← hW7]
    clear hW7
    go_wp2_with fail
    refine (HCH.out _ HB8.out).mono ?_
    rintro e w9 ⟨rfl, hb9⟩
    have HN : Hid (Below w.heap.size w w9) := hb9
    clear hb9 HB8 HCH
    go_wp2_with fail
    go_ret
    exact ⟨rfl, HN.out⟩
end Go.Proofs.YtnddkmccagiclaaDoor

/-
  What the call of chaperonekeep.CheckSites answers.
-/
namespace Go.Proofs.YtnddkmccagiclaaDoor
open Go.RowKit

/-- What is known of the casts, one by one. -/
structure SF (x y : TT) (ss : List St) : Prop where
  lo : ∀ s, s ∈ ss → 1 ≤ s.n ∧ s.n < (x.sz : Int)
  gf : ∀ s, s ∈ ss → goodT 44 s.f = true ∧ goodT 44 s.t = true
  fi : ∀ s, s ∈ ss → relY escFits s.f.ty s.t.ty = true
  sa : ∀ s, s ∈ ss → relY escSame s.f.ty s.t.ty = false
  gr : ∀ r j (hr : r < ss.length) (hj : j < ss.length), r < j → ss[r].n < ss[j].n
  sz : y.sz = x.sz + ss.length
  er : eraseM y.tm = eraseM x.tm

theorem sites_facts {x y : TT} {i : Ty} {ss : List St} (hg : goodM 0 x.tm = true) (h : readS x.tm [] 0 = some (y.tm, i)) (hm : ss.map St.m = sitesM y.tm) : SF x y ss := by
  obtain ⟨hok, hsz⟩ := goodM_ok hg
  have S := read_sites x.tm [] 0 y.tm i hok (fun u h => by cases h) h
  have hmem : ∀ s, s ∈ ss → s.m ∈ sitesM y.tm := fun s hs => by rw [← hm]; exact List.mem_map.2 ⟨s, hs, rfl⟩
  have hx := x.sz_tm
  refine ⟨fun s hs => ?_, fun s hs => ?_, fun s hs => (S.inn _ (hmem s hs)).2.2.2.2.1, fun s hs => (S.inn _ (hmem s hs)).2.2.2.2.2, fun r j hr hj hrj => ?_, ?_, S.er⟩
  · obtain ⟨h1, h2, _⟩ := S.inn _ (hmem s hs)
    simp only [St.m] at h1 h2
    omega
  · obtain ⟨_, _, h3⟩ := S.inn _ (hmem s hs)
    have h4 := h3.more (m' := 44) (by omega)
    exact ⟨by rw [goodT_eq]; exact h4.1, by rw [goodT_eq]; exact h4.2.1⟩
  · have hp := S.grow
    rw [← hm, List.map_map, List.pairwise_map, List.pairwise_iff_getElem] at hp
    exact hp r j hr hj hrj
  · have := S.sz
    rw [← hm, List.length_map, ← y.sz_tm, ← x.sz_tm] at this
    exact this

set_option maxRecDepth 20000 in
set_option maxHeartbeats 16000000 in
theorem ckSites_any (x : TT) (w : World) (hg : Gp w) (hx : x.In w) (hnb : x.nb) : Calls Tryd.prog 5 #[.agg #[.int .i64 x.k, .int .i64 x.n, .int .i64 x.t.k, .slice x.t.a x.t.l.length x.t.c, .int .i64 x.f.k, .slice x.f.a x.f.l.length x.f.c, .slice x.a x.l.length x.c]] w fun e w' => e = .returned (.bool true) ∧ Below w.heap.size w w' := by
  obtain ⟨W1, hW1⟩ : ∃ W1, W1 = w.alloc (.cells #[.int .i64 x.k, .int .i64 x.n, .int .i64 x.t.k, .slice x.t.a x.t.l.length x.t.c, .int .i64 x.f.k, .slice x.f.a x.f.l.length x.f.c, .slice x.a x.l.length x.c] 27) := ⟨_, rfl⟩
  have hb1 : Below w.heap.size w W1 := by rw [hW1]; exact (Below.refl _ _).alloc (Nat.le_refl _) _
  have h7 : At7 W1 w.heap.size 0 x := by rw [hW1]; exact At7.new w x
  have HX : Hid (x.In w ∧ Gp w ∧ x.nb ∧ Below w.heap.size w W1 ∧ At7 W1 w.heap.size 0 x) := ⟨hx, hg, hnb, hb1, h7⟩
  have HC : Hid (Calls Tryd.prog 13 #[.agg #[.int .i64 x.k, .int .i64 x.n, .int .i64 x.t.k, .slice x.t.a x.t.l.length x.t.c, .int .i64 x.f.k, .slice x.f.a x.f.l.length x.f.c, .slice x.a x.l.length x.c]] W1 fun e w' => ∃ (y : TT) (i : Tr) (ec : Int), e = .returned (.tuple #[.agg #[.int .i64 y.k, .int .i64 y.n, .int .i64 y.t.k, .slice y.t.a y.t.l.length y.t.c, .int .i64 y.f.k, .slice y.f.a y.f.l.length y.f.c, .slice y.a y.l.length y.c], .agg #[.int .i64 i.k, .slice i.a i.l.length i.c], .int .i64 ec]) ∧ Hid (CkInfo x y i ec w') ∧ Below W1.heap.size W1 w') := check_one x W1 (hg.below hb1) (hx.below hb1) hnb
  obtain ⟨p0, p1, p2, p3, p4, p5, p6⟩ := h7
  simp only [Nat.zero_add] at p0 p1 p2 p3 p4 p5 p6
  clear hg hx hnb hb1
  go_enter Tryd.func5, Tryd.ntmps5
  go_wp2_with fail
  rw [← hW1]
  clear hW1
  refine HC.out.mono ?_
  rintro e w2 ⟨y, i, ec, rfl, HI, hb2⟩
  clear p0 p1 p2 p3 p4 p5 p6 HC
  obtain ⟨W3, hW3⟩ : ∃ W3, W3 = (w2.alloc (.cells #[.int .i64 y.k, .int .i64 y.n, .int .i64 y.t.k, .slice y.t.a y.t.l.length y.t.c, .int .i64 y.f.k, .slice y.f.a y.f.l.length y.f.c, .slice y.a y.l.length y.c] 27)).alloc (.cells #[.int .i64 i.k, .slice i.a i.l.length i.c] 24) := ⟨_, rfl⟩
  have hA : Below w2.heap.size w2 W3 := by rw [hW3]; exact ((Below.refl _ _).alloc (Nat.le_refl _) _).alloc (by simp) _
  have hbw : Below w.heap.size w w2 := HX.out.2.2.2.1.trans (hb2.mono HX.out.2.2.2.1.size)
  have hB3 : Below w.heap.size w W3 := hbw.trans (hA.mono hbw.size)
  have HX7 : Hid (∀ W', Below W3.heap.size W3 W' → W'.cell? ⟨w.heap.size, 0, none⟩ = some (.int .i64 x.k) ∧ W'.cell? ⟨w.heap.size, 1, none⟩ = some (.int .i64 x.n) ∧ W'.cell? ⟨w.heap.size, 2, none⟩ = some (.int .i64 x.t.k) ∧ W'.cell? ⟨w.heap.size, 3, none⟩ = some (.slice x.t.a x.t.l.length x.t.c) ∧ W'.cell? ⟨w.heap.size, 4, none⟩ = some (.int .i64 x.f.k) ∧ W'.cell? ⟨w.heap.size, 5, none⟩ = some (.slice x.f.a x.f.l.length x.f.c) ∧ W'.cell? ⟨w.heap.size, 6, none⟩ = some (.slice x.a x.l.length x.c)) := by
    intro W' hb
    obtain ⟨c0, c1, c2, c3, c4, c5, c6⟩ := ((HX.out.2.2.2.2.below hb2).below hA).below hb
    simp only [Nat.zero_add] at c0 c1 c2 c3 c4 c5 c6
    exact ⟨c0, c1, c2, c3, c4, c5, c6⟩
  have HY7 : Hid (∀ W', Below W3.heap.size W3 W' → W'.cell? ⟨w2.heap.size, 0, none⟩ = some (.int .i64 y.k) ∧ W'.cell? ⟨w2.heap.size, 1, none⟩ = some (.int .i64 y.n) ∧ W'.cell? ⟨w2.heap.size, 2, none⟩ = some (.int .i64 y.t.k) ∧ W'.cell? ⟨w2.heap.size, 3, none⟩ = some (.slice y.t.a y.t.l.length y.t.c) ∧ W'.cell? ⟨w2.heap.size, 4, none⟩ = some (.int .i64 y.f.k) ∧ W'.cell? ⟨w2.heap.size, 5, none⟩ = some (.slice y.f.a y.f.l.length y.f.c) ∧ W'.cell? ⟨w2.heap.size, 6, none⟩ = some (.slice y.a y.l.length y.c)) := by
    intro W' hb
    have h7y : At7 (w2.alloc (.cells #[.int .i64 y.k, .int .i64 y.n, .int .i64 y.t.k, .slice y.t.a y.t.l.length y.t.c, .int .i64 y.f.k, .slice y.f.a y.f.l.length y.f.c, .slice y.a y.l.length y.c] 27)) w2.heap.size 0 y := At7.new w2 y
    have h7z : At7 W3 w2.heap.size 0 y := by rw [hW3]; exact h7y.below ((Below.refl _ _).alloc (Nat.le_refl _) _)
    obtain ⟨c0, c1, c2, c3, c4, c5, c6⟩ := h7z.below hb
    simp only [Nat.zero_add] at c0 c1 c2 c3 c4 c5 c6
    exact ⟨c0, c1, c2, c3, c4, c5, c6⟩
  have HCH : Hid (∀ W', Below w.heap.size w W' → Calls Tryd.prog 24 #[] W' fun e w' => e = .returned (.bool true) ∧ Below W'.heap.size W' w') := fun W' hb => checks_any W' (HX.out.2.1.below hb)
  by_cases hec : ec = 0
  · have HQ : Hid (goodM 0 x.tm = true ∧ readS x.tm [] 0 = some (y.tm, i.ty) ∧ y.In W3 ∧ x.In W3 ∧ Below w.heap.size w W3) := by
      rcases HI.out with ⟨h, _⟩ | ⟨_, g1, g2, g3, g4, g5⟩
      · exact absurd hec h
      · exact ⟨g1, g2, g3.below hA, HX.out.1.below hB3, hB3⟩
    subst hec
    clear HI hA hbw hB3 hb2 HX
    go_upto_region 2 with fail
    rw [← hW3]
    clear hW3
    go_wp2_with fail
    refine (HCH.out _ HQ.out.2.2.2.2).mono ?_
    rintro e w4 ⟨rfl, hb4⟩
    have HB4 : Hid (Below W3.heap.size W3 w4) := hb4
    have hsz : x.sz ≤ 40 := by rw [x.sz_tm]; exact (goodM_ok HQ.out.1).2
    have hysz : y.sz ≤ 80 := by
      obtain ⟨hok, _⟩ := goodM_ok HQ.out.1
      have S := read_sites x.tm [] 0 y.tm i.ty hok (fun u h => by cases h) HQ.out.2.1
      have hl : (sitesM y.tm).length ≤ x.sz := by
        have hp := S.grow
        have hin := S.inn
        have : ∀ (l : List (Int × Ty × Ty)) (lo : Int), (l.map fun s => s.1).Pairwise (· < ·) → (∀ s, s ∈ l → lo ≤ s.1 ∧ s.1 < (x.sz : Int)) → lo ≤ (x.sz : Int) → (l.length : Int) ≤ (x.sz : Int) - lo := by
          intro l
          induction l with
          | nil => intro lo _ _ h; simp; omega
          | cons a r ih =>
            intro lo hp hin hlo
            rw [List.map_cons, List.pairwise_cons] at hp
            have ha := hin a (by simp)
            have := ih (a.1 + 1) hp.2 (fun s hs => ⟨by have := hp.1 s.1 (List.mem_map.2 ⟨s, hs, rfl⟩); omega, (hin s (by simp [hs])).2⟩) (by omega)
            simp only [List.length_cons]
            omega
        have h2 := this (sitesM y.tm) 1 hp (fun s hs => by
          obtain ⟨h1, h2, _⟩ := hin s hs
          have := x.sz_tm
          exact ⟨by omega, by omega⟩) (by have := x.sz_pos; omega)
        omega
      have := S.sz
      rw [← y.sz_tm, ← x.sz_tm] at this
      omega
    have hcok : y.cok := cok_of 44 (by omega) y fun s hs => by
      obtain ⟨hok, h40⟩ := goodM_ok HQ.out.1
      have S := read_sites x.tm [] 0 y.tm i.ty hok (fun u h => by cases h) HQ.out.2.1
      have h4 := (S.inn s hs).2.2.more (m' := 44) (by omega)
      exact ⟨h4.1, h4.2.1⟩
    have HSI : Hid (Calls Tryd.prog 19 #[.agg #[.int .i64 y.k, .int .i64 y.n, .int .i64 y.t.k, .slice y.t.a y.t.l.length y.t.c, .int .i64 y.f.k, .slice y.f.a y.f.l.length y.f.c, .slice y.a y.l.length y.c]] w4 fun e w' => ∃ (ss : List St) (a : Option Addr) (c : Nat), e = .returned (.slice a ss.length c) ∧ Hid (SL w' a ss ∧ SF x y ss ∧ Below W3.heap.size W3 w') ∧ ss.length ≤ c ∧ ss.length ≤ 80) := by
      refine (sites_any y w4 (HQ.out.2.2.1.below hb4) (by omega) hcok).mono ?_
      rintro e w' ⟨ss, a, c, rfl, ⟨hsl, hcl⟩, hm, hb⟩
      have F := sites_facts HQ.out.1 HQ.out.2.1 hm
      exact ⟨ss, a, c, rfl, ⟨hsl, F, hb4.trans (hb.mono hb4.size)⟩, hcl, by have := F.sz; omega⟩
    obtain ⟨r0, r1, r2, r3, r4, r5, r6⟩ := HY7.out w4 hb4
    have HSZ : Hid (x.sz ≤ 40 ∧ y.sz ≤ 80) := ⟨hsz, hysz⟩
    clear hb4 hsz hysz hcok
    go_wp2_with fail
    refine HSI.out.mono ?_
    rintro e w5 ⟨ss, a, c, rfl, HS5, hcl, hl80⟩
    clear HSI r0 r1 r2 r3 r4 r5 r6
    go_wp2_with fail
    go_loopg [28] ss.length (fun g i wr => ∃ (j : Nat), g + j = ss.length ∧ i = .int .i64 (j : Int) ∧ Hid (Below w5.heap.size w5 wr))
    case atStart => exact ⟨0, by omega, rfl, Below.refl _ _⟩
    case round =>
      obtain ⟨j, hj, rfl, HW⟩ := hrel
      by_cases hlt : j < ss.length
      · obtain ⟨W0, hW0⟩ : ∃ W, W = wr := ⟨_, rfl⟩
        subst hW0
        obtain ⟨b, o, ea, h0, h1, h2, h3, h4, hfi, hti⟩ := HS5.out.1 j hlt
        have hsm : ss[j] ∈ ss := List.getElem_mem hlt
        obtain ⟨s, hse⟩ : ∃ s, ss[j] = s := ⟨_, rfl⟩
        rw [hse] at h0 h1 h2 h3 h4 hfi hti hsm
        replace h0 := cell_later HW.out h0
        replace h1 := cell_later HW.out h1
        replace h2 := cell_later HW.out h2
        replace h3 := cell_later HW.out h3
        replace h4 := cell_later HW.out h4
        have i1 : (j : Int) < (ss.length : Int) := by omega
        have i0 : (0 : Int) ≤ (j : Int) := by omega
        have n2 : (j : Int) ≤ (c : Int) := by omega
        have HEA : Hid (a = some ⟨b, o, none⟩) := ea
        rw [ea]
        obtain ⟨WX, hWX⟩ : ∃ W, W = W0.alloc (.cells #[.int .i64 s.n, .int .i64 s.f.k, .slice s.f.a s.f.l.length s.f.c, .int .i64 s.t.k, .slice s.t.a s.t.l.length s.t.c] 46) := ⟨_, rfl⟩
        have hAX : Below W0.heap.size W0 WX := by rw [hWX]; exact (Below.refl _ _).alloc (Nat.le_refl _) _
        have h5X : Below w5.heap.size w5 WX := HW.out.trans (hAX.mono HW.out.size)
        have h3X : Below W3.heap.size W3 WX := HS5.out.2.2.trans (h5X.mono HS5.out.2.2.size)
        have hcs : WX.cell? ⟨W0.heap.size, 0, none⟩ = some (.int .i64 s.n) ∧ WX.cell? ⟨W0.heap.size, 1, none⟩ = some (.int .i64 s.f.k) ∧ WX.cell? ⟨W0.heap.size, 2, none⟩ = some (.slice s.f.a s.f.l.length s.f.c) ∧ WX.cell? ⟨W0.heap.size, 3, none⟩ = some (.int .i64 s.t.k) ∧ WX.cell? ⟨W0.heap.size, 4, none⟩ = some (.slice s.t.a s.t.l.length s.t.c) := by
          rw [hWX]
          refine ⟨?_, ?_, ?_, ?_, ?_⟩ <;> simp [go_sem]
        have HK : Hid (∀ W', Below WX.heap.size WX W' → (W'.cell? ⟨W0.heap.size, 0, none⟩ = some (.int .i64 s.n) ∧ W'.cell? ⟨W0.heap.size, 1, none⟩ = some (.int .i64 s.f.k) ∧ W'.cell? ⟨W0.heap.size, 2, none⟩ = some (.slice s.f.a s.f.l.length s.f.c) ∧ W'.cell? ⟨W0.heap.size, 3, none⟩ = some (.int .i64 s.t.k) ∧ W'.cell? ⟨W0.heap.size, 4, none⟩ = some (.slice s.t.a s.t.l.length s.t.c)) ∧ (W'.cell? ⟨w.heap.size, 0, none⟩ = some (.int .i64 x.k) ∧ W'.cell? ⟨w.heap.size, 1, none⟩ = some (.int .i64 x.n) ∧ W'.cell? ⟨w.heap.size, 2, none⟩ = some (.int .i64 x.t.k) ∧ W'.cell? ⟨w.heap.size, 3, none⟩ = some (.slice x.t.a x.t.l.length x.t.c) ∧ W'.cell? ⟨w.heap.size, 4, none⟩ = some (.int .i64 x.f.k) ∧ W'.cell? ⟨w.heap.size, 5, none⟩ = some (.slice x.f.a x.f.l.length x.f.c) ∧ W'.cell? ⟨w.heap.size, 6, none⟩ = some (.slice x.a x.l.length x.c))) := by
          intro W' hb
          obtain ⟨q0, q1, q2, q3, q4⟩ := hcs
          exact ⟨⟨cell_later hb q0, cell_later hb q1, cell_later hb q2, cell_later hb q3, cell_later hb q4⟩, HX7.out W' (h3X.trans (hb.mono h3X.size))⟩
        have HK' : Hid (∀ W', Below WX.heap.size WX W' → W'.cell? ⟨W0.heap.size, 0, none⟩ = some (.int .i64 s.n) ∧ W'.cell? ⟨W0.heap.size, 1, none⟩ = some (.int .i64 s.f.k) ∧ W'.cell? ⟨W0.heap.size, 2, none⟩ = some (.slice s.f.a s.f.l.length s.f.c) ∧ W'.cell? ⟨W0.heap.size, 3, none⟩ = some (.int .i64 s.t.k) ∧ W'.cell? ⟨W0.heap.size, 4, none⟩ = some (.slice s.t.a s.t.l.length s.t.c) ∧ W'.cell? ⟨w.heap.size, 0, none⟩ = some (.int .i64 x.k) ∧ W'.cell? ⟨w.heap.size, 1, none⟩ = some (.int .i64 x.n) ∧ W'.cell? ⟨w.heap.size, 2, none⟩ = some (.int .i64 x.t.k) ∧ W'.cell? ⟨w.heap.size, 3, none⟩ = some (.slice x.t.a x.t.l.length x.t.c) ∧ W'.cell? ⟨w.heap.size, 4, none⟩ = some (.int .i64 x.f.k) ∧ W'.cell? ⟨w.heap.size, 5, none⟩ = some (.slice x.f.a x.f.l.length x.f.c) ∧ W'.cell? ⟨w.heap.size, 6, none⟩ = some (.slice x.a x.l.length x.c)) := by
          intro W' hb
          obtain ⟨⟨q0, q1, q2, q3, q4⟩, q⟩ := HK.out W' hb
          exact ⟨q0, q1, q2, q3, q4, q⟩
        have HK0 : Hid (WX.cell? ⟨W0.heap.size, 0, none⟩ = some (.int .i64 s.n) ∧ WX.cell? ⟨W0.heap.size, 1, none⟩ = some (.int .i64 s.f.k) ∧ WX.cell? ⟨W0.heap.size, 2, none⟩ = some (.slice s.f.a s.f.l.length s.f.c) ∧ WX.cell? ⟨W0.heap.size, 3, none⟩ = some (.int .i64 s.t.k) ∧ WX.cell? ⟨W0.heap.size, 4, none⟩ = some (.slice s.t.a s.t.l.length s.t.c) ∧ WX.cell? ⟨w.heap.size, 0, none⟩ = some (.int .i64 x.k) ∧ WX.cell? ⟨w.heap.size, 1, none⟩ = some (.int .i64 x.n) ∧ WX.cell? ⟨w.heap.size, 2, none⟩ = some (.int .i64 x.t.k) ∧ WX.cell? ⟨w.heap.size, 3, none⟩ = some (.slice x.t.a x.t.l.length x.t.c) ∧ WX.cell? ⟨w.heap.size, 4, none⟩ = some (.int .i64 x.f.k) ∧ WX.cell? ⟨w.heap.size, 5, none⟩ = some (.slice x.f.a x.f.l.length x.f.c) ∧ WX.cell? ⟨w.heap.size, 6, none⟩ = some (.slice x.a x.l.length x.c)) := HK'.out _ (Below.refl _ _)
        have HK1 : Hid (WX.drew.cell? ⟨W0.heap.size, 0, none⟩ = some (.int .i64 s.n) ∧ WX.drew.cell? ⟨W0.heap.size, 1, none⟩ = some (.int .i64 s.f.k) ∧ WX.drew.cell? ⟨W0.heap.size, 2, none⟩ = some (.slice s.f.a s.f.l.length s.f.c) ∧ WX.drew.cell? ⟨W0.heap.size, 3, none⟩ = some (.int .i64 s.t.k) ∧ WX.drew.cell? ⟨W0.heap.size, 4, none⟩ = some (.slice s.t.a s.t.l.length s.t.c) ∧ WX.drew.cell? ⟨w.heap.size, 0, none⟩ = some (.int .i64 x.k) ∧ WX.drew.cell? ⟨w.heap.size, 1, none⟩ = some (.int .i64 x.n) ∧ WX.drew.cell? ⟨w.heap.size, 2, none⟩ = some (.int .i64 x.t.k) ∧ WX.drew.cell? ⟨w.heap.size, 3, none⟩ = some (.slice x.t.a x.t.l.length x.t.c) ∧ WX.drew.cell? ⟨w.heap.size, 4, none⟩ = some (.int .i64 x.f.k) ∧ WX.drew.cell? ⟨w.heap.size, 5, none⟩ = some (.slice x.f.a x.f.l.length x.f.c) ∧ WX.drew.cell? ⟨w.heap.size, 6, none⟩ = some (.slice x.a x.l.length x.c)) := HK'.out _ ((Below.refl _ _).drew)
        have F := HS5.out.2.1
        have g1 := F.lo s hsm
        have gg := F.gf s hsm
        have gff := good_facts (n := 44) (by omega) gg.1
        have HN25 : Hid (∀ W', Below WX.heap.size WX W' → Calls Tryd.prog 25 #[.agg #[.int .i64 x.k, .int .i64 x.n, .int .i64 x.t.k, .slice x.t.a x.t.l.length x.t.c, .int .i64 x.f.k, .slice x.f.a x.f.l.length x.f.c, .slice x.a x.l.length x.c]] W' fun e w' => e = .returned (.int .i64 (x.sz : Int)) ∧ Below WX.heap.size WX w') := by
          intro W' hb
          refine (nodes_any x W' ((HQ.out.2.2.2.1.below h3X).below hb) (by have := HSZ.out.1; omega)).mono ?_
          rintro e w' ⟨rfl, h⟩
          exact ⟨rfl, hb.trans (h.mono hb.size)⟩
        have HF26 : Hid (∀ W', Below WX.heap.size WX W' → Calls Tryd.prog 26 #[.agg #[.int .i64 s.f.k, .slice s.f.a s.f.l.length s.f.c], .agg #[.int .i64 s.t.k, .slice s.t.a s.t.l.length s.t.c]] W' fun e w' => e = .returned (.bool true) ∧ Below WX.heap.size WX w') := by
          intro W' hb
          have := fits_whole s.f s.t W' ((hfi.below h5X).below hb) ((hti.below h5X).below hb) gff.2.1 gff.2.2
          rw [F.fi s hsm] at this
          refine this.mono ?_
          rintro e w' ⟨rfl, h⟩
          exact ⟨rfl, hb.trans (h.mono hb.size)⟩
        have HS27 : Hid (∀ W', Below WX.heap.size WX W' → Calls Tryd.prog 27 #[.agg #[.int .i64 s.f.k, .slice s.f.a s.f.l.length s.f.c], .agg #[.int .i64 s.t.k, .slice s.t.a s.t.l.length s.t.c]] W' fun e w' => e = .returned (.bool false) ∧ Below WX.heap.size WX w') := by
          intro W' hb
          have := same_whole s.f s.t W' ((hfi.below h5X).below hb) ((hti.below h5X).below hb) gff.2.1 gff.2.2
          rw [F.sa s hsm] at this
          refine this.mono ?_
          rintro e w' ⟨rfl, h⟩
          exact ⟨rfl, hb.trans (h.mono hb.size)⟩
        have l1 : ¬ s.n < 1 := by omega
        have HL3 : Hid (decide ((x.sz : Int) ≤ s.n) = false) := by show _ = _; rw [decide_eq_false_iff_not]; omega
        have HGR : Hid (∀ r (hr : r < ss.length), r < j → ss[r].n < s.n) := fun r hr hrj => by rw [← hse]; exact F.gr r j hr hlt hrj
        have HXB : Hid (Below w5.heap.size w5 WX) := h5X
        have HJ : Hid (gk + j = ss.length) := hj
        clear F g1 gg gff hfi hti hsm hse hAX h5X h3X hcs ea HW hj HK
        go_upto_region 8 with fail
        rw [← hWX]
        clear hWX h0 h1 h2 h3 h4
        have hb : Below WX.heap.size WX WX.drew := (Below.refl _ _).drew
        go_region_held3 (fun W' => W'.cell? ⟨W0.heap.size, 0, none⟩ = some (.int .i64 s.n) ∧ W'.cell? ⟨W0.heap.size, 1, none⟩ = some (.int .i64 s.f.k) ∧ W'.cell? ⟨W0.heap.size, 2, none⟩ = some (.slice s.f.a s.f.l.length s.f.c) ∧ W'.cell? ⟨W0.heap.size, 3, none⟩ = some (.int .i64 s.t.k) ∧ W'.cell? ⟨W0.heap.size, 4, none⟩ = some (.slice s.t.a s.t.l.length s.t.c) ∧ W'.cell? ⟨w.heap.size, 0, none⟩ = some (.int .i64 x.k) ∧ W'.cell? ⟨w.heap.size, 1, none⟩ = some (.int .i64 x.n) ∧ W'.cell? ⟨w.heap.size, 2, none⟩ = some (.int .i64 x.t.k) ∧ W'.cell? ⟨w.heap.size, 3, none⟩ = some (.slice x.t.a x.t.l.length x.t.c) ∧ W'.cell? ⟨w.heap.size, 4, none⟩ = some (.int .i64 x.f.k) ∧ W'.cell? ⟨w.heap.size, 5, none⟩ = some (.slice x.f.a x.f.l.length x.f.c) ∧ W'.cell? ⟨w.heap.size, 6, none⟩ = some (.slice x.a x.l.length x.c))
          (first
            | (with_reducible exact HK0.out)
            | (with_reducible exact HK1.out)
            | (with_reducible exact HK'.out _ hb)
            | fail)
          (first
            | (go_at_call 25; (with_reducible refine (HN25.out _ hb).mono ?_); rintro e wN ⟨rfl, hb⟩; have l3 := HL3.out)
            | (go_at_call 26; (with_reducible refine (HF26.out _ hb).mono ?_); rintro e wF ⟨rfl, hb⟩)
            | (go_at_call 27; (with_reducible refine (HS27.out _ hb).mono ?_); rintro e wM ⟨rfl, hb⟩)
            | fail)
        have hbM := hb
        have HM0 : Hid (Below WX.heap.size WX wM) := hbM
        clear hb hbM HN25 HF26 HS27 HK0 HK1 HL3 l1 l3
        go_wp2_with fail
        go_loopg [62] j (fun g i wx => ∃ (r : Nat), g + r = j ∧ i = .int .i64 (r : Int) ∧ Hid (Below WX.heap.size WX wx))
        case atStart => exact ⟨0, by omega, rfl, HM0⟩
        case round =>
          obtain ⟨r, hr, rfl, HWr⟩ := hrel
          clear HM0
          obtain ⟨wx, hwx⟩ : ∃ W, W = wr := ⟨_, rfl⟩
          subst hwx
          have h5x : Below w5.heap.size w5 wx := HXB.out.trans (HWr.out.mono HXB.out.size)
          by_cases hrl : r < j
          · have hrs : r < ss.length := by omega
            obtain ⟨b2, o2, ea2, h0, h1, h2, h3, h4, _, _⟩ := HS5.out.1 r hrs
            rw [HEA.out] at ea2
            cases ea2
            obtain ⟨t, hte⟩ : ∃ t, ss[r] = t := ⟨_, rfl⟩
            have hnr := HGR.out r hrs hrl
            rw [hte] at h0 h1 h2 h3 h4 hnr
            replace h0 := cell_later h5x h0
            replace h1 := cell_later h5x h1
            replace h2 := cell_later h5x h2
            replace h3 := cell_later h5x h3
            replace h4 := cell_later h5x h4
            have k1 : (r : Int) < (j : Int) := by omega
            have k0 : (0 : Int) ≤ (r : Int) := by omega
            have v0 : ∀ X, (wx.alloc X).cell? ⟨W0.heap.size, 0, none⟩ = some (.int .i64 s.n) := fun X => cell_later ((Below.refl _ wx).alloc (Nat.le_refl _) X) (HK'.out wx HWr.out).1
            have hneq : (t.n == s.n) = false := by simp; omega
            have HN : Hid (Below WX.heap.size WX (wx.alloc (.cells #[.int .i64 t.n, .int .i64 t.f.k, .slice t.f.a t.f.l.length t.f.c, .int .i64 t.t.k, .slice t.t.a t.t.l.length t.t.c] 46))) := HWr.out.alloc HWr.out.size _
            have HJr : Hid (gk + r = j) := hr
            clear hnr HWr h5x hr hte
            go_wp2_with fail
            go_roundg (j - (r + 1))
            case measure => have := HJr.out; omega
            case rel => exact ⟨r + 1, by have := HJr.out; omega, by go_num, HN⟩
          · have HN : Hid (Below w5.heap.size w5 wx) := h5x
            have k1 : ¬ (r : Int) < (j : Int) := by omega
            clear h5x HWr hrl
            go_wp2_with fail
            rw [← HEA.out]
            go_roundg (ss.length - (j + 1))
            case measure => have := HJ.out; omega
            case rel => exact ⟨j + 1, by have := HJ.out; omega, by go_num, HN⟩
      · obtain ⟨WE, hWE⟩ : ∃ W, W = wr := ⟨_, rfl⟩
        subst hWE
        have h3E : Below W3.heap.size W3 WE := HS5.out.2.2.trans (HW.out.mono HS5.out.2.2.size)
        have F := HS5.out.2.1
        have HK' : Hid (∀ W', Below W3.heap.size W3 W' → W'.cell? ⟨w2.heap.size, 0, none⟩ = some (.int .i64 y.k) ∧ W'.cell? ⟨w2.heap.size, 1, none⟩ = some (.int .i64 y.n) ∧ W'.cell? ⟨w2.heap.size, 2, none⟩ = some (.int .i64 y.t.k) ∧ W'.cell? ⟨w2.heap.size, 3, none⟩ = some (.slice y.t.a y.t.l.length y.t.c) ∧ W'.cell? ⟨w2.heap.size, 4, none⟩ = some (.int .i64 y.f.k) ∧ W'.cell? ⟨w2.heap.size, 5, none⟩ = some (.slice y.f.a y.f.l.length y.f.c) ∧ W'.cell? ⟨w2.heap.size, 6, none⟩ = some (.slice y.a y.l.length y.c) ∧ W'.cell? ⟨w.heap.size, 0, none⟩ = some (.int .i64 x.k) ∧ W'.cell? ⟨w.heap.size, 1, none⟩ = some (.int .i64 x.n) ∧ W'.cell? ⟨w.heap.size, 2, none⟩ = some (.int .i64 x.t.k) ∧ W'.cell? ⟨w.heap.size, 3, none⟩ = some (.slice x.t.a x.t.l.length x.t.c) ∧ W'.cell? ⟨w.heap.size, 4, none⟩ = some (.int .i64 x.f.k) ∧ W'.cell? ⟨w.heap.size, 5, none⟩ = some (.slice x.f.a x.f.l.length x.f.c) ∧ W'.cell? ⟨w.heap.size, 6, none⟩ = some (.slice x.a x.l.length x.c)) := by
          intro W' hb
          obtain ⟨q0, q1, q2, q3, q4, q5, q6⟩ := HY7.out W' hb
          exact ⟨q0, q1, q2, q3, q4, q5, q6, HX7.out W' hb⟩
        have HK0 : Hid (WE.cell? ⟨w2.heap.size, 0, none⟩ = some (.int .i64 y.k) ∧ WE.cell? ⟨w2.heap.size, 1, none⟩ = some (.int .i64 y.n) ∧ WE.cell? ⟨w2.heap.size, 2, none⟩ = some (.int .i64 y.t.k) ∧ WE.cell? ⟨w2.heap.size, 3, none⟩ = some (.slice y.t.a y.t.l.length y.t.c) ∧ WE.cell? ⟨w2.heap.size, 4, none⟩ = some (.int .i64 y.f.k) ∧ WE.cell? ⟨w2.heap.size, 5, none⟩ = some (.slice y.f.a y.f.l.length y.f.c) ∧ WE.cell? ⟨w2.heap.size, 6, none⟩ = some (.slice y.a y.l.length y.c) ∧ WE.cell? ⟨w.heap.size, 0, none⟩ = some (.int .i64 x.k) ∧ WE.cell? ⟨w.heap.size, 1, none⟩ = some (.int .i64 x.n) ∧ WE.cell? ⟨w.heap.size, 2, none⟩ = some (.int .i64 x.t.k) ∧ WE.cell? ⟨w.heap.size, 3, none⟩ = some (.slice x.t.a x.t.l.length x.t.c) ∧ WE.cell? ⟨w.heap.size, 4, none⟩ = some (.int .i64 x.f.k) ∧ WE.cell? ⟨w.heap.size, 5, none⟩ = some (.slice x.f.a x.f.l.length x.f.c) ∧ WE.cell? ⟨w.heap.size, 6, none⟩ = some (.slice x.a x.l.length x.c)) := HK'.out _ h3E
        have HK1 : Hid (WE.drew.cell? ⟨w2.heap.size, 0, none⟩ = some (.int .i64 y.k) ∧ WE.drew.cell? ⟨w2.heap.size, 1, none⟩ = some (.int .i64 y.n) ∧ WE.drew.cell? ⟨w2.heap.size, 2, none⟩ = some (.int .i64 y.t.k) ∧ WE.drew.cell? ⟨w2.heap.size, 3, none⟩ = some (.slice y.t.a y.t.l.length y.t.c) ∧ WE.drew.cell? ⟨w2.heap.size, 4, none⟩ = some (.int .i64 y.f.k) ∧ WE.drew.cell? ⟨w2.heap.size, 5, none⟩ = some (.slice y.f.a y.f.l.length y.f.c) ∧ WE.drew.cell? ⟨w2.heap.size, 6, none⟩ = some (.slice y.a y.l.length y.c) ∧ WE.drew.cell? ⟨w.heap.size, 0, none⟩ = some (.int .i64 x.k) ∧ WE.drew.cell? ⟨w.heap.size, 1, none⟩ = some (.int .i64 x.n) ∧ WE.drew.cell? ⟨w.heap.size, 2, none⟩ = some (.int .i64 x.t.k) ∧ WE.drew.cell? ⟨w.heap.size, 3, none⟩ = some (.slice x.t.a x.t.l.length x.t.c) ∧ WE.drew.cell? ⟨w.heap.size, 4, none⟩ = some (.int .i64 x.f.k) ∧ WE.drew.cell? ⟨w.heap.size, 5, none⟩ = some (.slice x.f.a x.f.l.length x.f.c) ∧ WE.drew.cell? ⟨w.heap.size, 6, none⟩ = some (.slice x.a x.l.length x.c)) := HK'.out _ h3E.drew
        have HE20 : Hid (∀ (z : TT), z.In W3 → z.sz ≤ 80 → ∀ W', Below W3.heap.size W3 W' → Calls Tryd.prog 20 #[.agg #[.int .i64 z.k, .int .i64 z.n, .int .i64 z.t.k, .slice z.t.a z.t.l.length z.t.c, .int .i64 z.f.k, .slice z.f.a z.f.l.length z.f.c, .slice z.a z.l.length z.c]] W' fun e w' => ∃ u : TT, e = .returned (.agg #[.int .i64 u.k, .int .i64 u.n, .int .i64 u.t.k, .slice u.t.a u.t.l.length u.t.c, .int .i64 u.f.k, .slice u.f.a u.f.l.length u.f.c, .slice u.a u.l.length u.c]) ∧ Hid (u.In w' ∧ u.tm = eraseM z.tm) ∧ Below W3.heap.size W3 w' ∧ Hid (Below W'.heap.size W' w')) := by
          intro z hz hzs W' hb
          refine (erase_any z W' (hz.below hb) (by omega)).mono ?_
          rintro e w' ⟨u, rfl, h1, h2, h3⟩
          exact ⟨u, rfl, ⟨h1, h2⟩, hb.trans (h3.mono hb.size), h3⟩
        have HE20y : Hid (∀ W', Below W3.heap.size W3 W' → Calls Tryd.prog 20 #[.agg #[.int .i64 y.k, .int .i64 y.n, .int .i64 y.t.k, .slice y.t.a y.t.l.length y.t.c, .int .i64 y.f.k, .slice y.f.a y.f.l.length y.f.c, .slice y.a y.l.length y.c]] W' fun e w' => ∃ u : TT, e = .returned (.agg #[.int .i64 u.k, .int .i64 u.n, .int .i64 u.t.k, .slice u.t.a u.t.l.length u.t.c, .int .i64 u.f.k, .slice u.f.a u.f.l.length u.f.c, .slice u.a u.l.length u.c]) ∧ Hid (u.In w' ∧ u.tm = eraseM y.tm) ∧ Below W3.heap.size W3 w' ∧ Hid (Below W'.heap.size W' w')) := HE20.out y HQ.out.2.2.1 HSZ.out.2
        have HE20x : Hid (∀ W', Below W3.heap.size W3 W' → Calls Tryd.prog 20 #[.agg #[.int .i64 x.k, .int .i64 x.n, .int .i64 x.t.k, .slice x.t.a x.t.l.length x.t.c, .int .i64 x.f.k, .slice x.f.a x.f.l.length x.f.c, .slice x.a x.l.length x.c]] W' fun e w' => ∃ u : TT, e = .returned (.agg #[.int .i64 u.k, .int .i64 u.n, .int .i64 u.t.k, .slice u.t.a u.t.l.length u.t.c, .int .i64 u.f.k, .slice u.f.a u.f.l.length u.f.c, .slice u.a u.l.length u.c]) ∧ Hid (u.In w' ∧ u.tm = eraseM x.tm) ∧ Below W3.heap.size W3 w' ∧ Hid (Below W'.heap.size W' w')) := HE20.out x HQ.out.2.2.2.1 (by have := HSZ.out.1; omega)
        have HSM : Hid (∀ (u z : TT) (W' : World), Below W3.heap.size W3 W' → u.In W' → z.In W' → u.tm = eraseM y.tm → z.tm = eraseM x.tm → Calls Tryd.prog 10 #[.agg #[.int .i64 u.k, .int .i64 u.n, .int .i64 u.t.k, .slice u.t.a u.t.l.length u.t.c, .int .i64 u.f.k, .slice u.f.a u.f.l.length u.f.c, .slice u.a u.l.length u.c], .agg #[.int .i64 z.k, .int .i64 z.n, .int .i64 z.t.k, .slice z.t.a z.t.l.length z.t.c, .int .i64 z.f.k, .slice z.f.a z.f.l.length z.f.c, .slice z.a z.l.length z.c]] W' fun e w' => e = .returned (.bool true) ∧ Below W3.heap.size W3 w') := by
          intro u z W' hb hu hz h1 h2
          have hbare : bareM u.tm := by rw [h1]; exact bare_erase _
          have husz : u.sz ≤ 80 := by
            rw [u.sz_tm, h1]
            have := erase_sz y.tm
            have h3 := HSZ.out.2
            rw [y.sz_tm] at h3
            omega
          refine (sameTm_yes u z W' hu hz (by rw [h1, h2, F.er]) (bare_tok u hbare) (by omega)).mono ?_
          rintro e w' ⟨rfl, h⟩
          exact ⟨rfl, hb.trans (h.mono hb.size)⟩
        have HN25y : Hid (∀ W', Below W3.heap.size W3 W' → Calls Tryd.prog 25 #[.agg #[.int .i64 y.k, .int .i64 y.n, .int .i64 y.t.k, .slice y.t.a y.t.l.length y.t.c, .int .i64 y.f.k, .slice y.f.a y.f.l.length y.f.c, .slice y.a y.l.length y.c]] W' fun e w' => e = .returned (.int .i64 ((x.sz : Int) + (ss.length : Int))) ∧ Below W3.heap.size W3 w') := by
          intro W' hb
          refine (nodes_any y W' (HQ.out.2.2.1.below hb) (by have := HSZ.out.2; omega)).mono ?_
          rintro e w' ⟨rfl, h⟩
          exact ⟨by rw [F.sz]; simp, hb.trans (h.mono hb.size)⟩
        have HN25x : Hid (∀ W', Below W3.heap.size W3 W' → Calls Tryd.prog 25 #[.agg #[.int .i64 x.k, .int .i64 x.n, .int .i64 x.t.k, .slice x.t.a x.t.l.length x.t.c, .int .i64 x.f.k, .slice x.f.a x.f.l.length x.f.c, .slice x.a x.l.length x.c]] W' fun e w' => e = .returned (.int .i64 (x.sz : Int)) ∧ Below W3.heap.size W3 w') := by
          intro W' hb
          refine (nodes_any x W' (HQ.out.2.2.2.1.below hb) (by have := HSZ.out.1; omega)).mono ?_
          rintro e w' ⟨rfl, h⟩
          exact ⟨rfl, hb.trans (h.mono hb.size)⟩
        have b1 : x.sz ≤ 40 := HSZ.out.1
        have HWE : Hid (Below w.heap.size w W3) := HQ.out.2.2.2.2
        have hb : Below W3.heap.size W3 WE.drew := h3E.drew
        clear F h3E HE20 HW
        go_upto_region 17 with fail
        go_region_held3 (fun W' => W'.cell? ⟨w2.heap.size, 0, none⟩ = some (.int .i64 y.k) ∧ W'.cell? ⟨w2.heap.size, 1, none⟩ = some (.int .i64 y.n) ∧ W'.cell? ⟨w2.heap.size, 2, none⟩ = some (.int .i64 y.t.k) ∧ W'.cell? ⟨w2.heap.size, 3, none⟩ = some (.slice y.t.a y.t.l.length y.t.c) ∧ W'.cell? ⟨w2.heap.size, 4, none⟩ = some (.int .i64 y.f.k) ∧ W'.cell? ⟨w2.heap.size, 5, none⟩ = some (.slice y.f.a y.f.l.length y.f.c) ∧ W'.cell? ⟨w2.heap.size, 6, none⟩ = some (.slice y.a y.l.length y.c) ∧ W'.cell? ⟨w.heap.size, 0, none⟩ = some (.int .i64 x.k) ∧ W'.cell? ⟨w.heap.size, 1, none⟩ = some (.int .i64 x.n) ∧ W'.cell? ⟨w.heap.size, 2, none⟩ = some (.int .i64 x.t.k) ∧ W'.cell? ⟨w.heap.size, 3, none⟩ = some (.slice x.t.a x.t.l.length x.t.c) ∧ W'.cell? ⟨w.heap.size, 4, none⟩ = some (.int .i64 x.f.k) ∧ W'.cell? ⟨w.heap.size, 5, none⟩ = some (.slice x.f.a x.f.l.length x.f.c) ∧ W'.cell? ⟨w.heap.size, 6, none⟩ = some (.slice x.a x.l.length x.c))
          (first
            | (with_reducible exact HK0.out)
            | (with_reducible exact HK1.out)
            | (with_reducible exact HK'.out _ hb)
            | fail)
          (first
            | (go_at_call 20; (with_reducible refine (HE20y.out _ hb).mono ?_); rintro e wA ⟨ey, rfl, HEy, hb, hbA⟩)
            | (go_at_call 20; (with_reducible refine (HE20x.out _ hb).mono ?_); rintro e wB ⟨ex, rfl, HEx, hb, hbB⟩)
            | (go_at_call 10; (with_reducible refine (HSM.out ey ex _ hb (HEy.out.1.below hbB.out) HEx.out.1 HEy.out.2 HEx.out.2).mono ?_); rintro e wS ⟨rfl, hb⟩)
            | (go_at_call 25; (with_reducible refine (HN25y.out _ hb).mono ?_); rintro e wN ⟨rfl, hb⟩)
            | (go_at_call 25; (with_reducible refine (HN25x.out _ hb).mono ?_); rintro e wM ⟨rfl, hb⟩)
            | fail)
        have HN : Hid (Below w.heap.size w wM) := HWE.out.trans (hb.mono HWE.out.size)
        clear hb HK0 HK1 HK' HE20y HE20x HSM HN25y HN25x HEy HEx hbA hbB HWE
        have HWr : Hid (((x.sz : Int) + (ss.length : Int) == IntKind.i64.wrap ((x.sz : Int) + (ss.length : Int))) = true) := by
          have e : IntKind.i64.wrap ((x.sz : Int) + (ss.length : Int)) = (x.sz : Int) + (ss.length : Int) := by rw [IntKind.wrap_i64]; omega
          show _ = _
          rw [e]
          simp
        go_wp2_with fail
        go_ret
        exact ⟨ret_bool HWr.out, HN.out⟩
  · have hne : (ec != 0) = true := by simpa using hec
    have HB8 : Hid (Below w.heap.size w W3) := hB3
    clear hec HI hA hbw hB3 hb2 HX HX7 HY7
    go_upto_region 2 with fail
    rw [← hW3]
    clear hW3
    go_wp2_with fail
    refine (HCH.out _ HB8.out).mono ?_
    rintro e w9 ⟨rfl, hb9⟩
    have HN : Hid (Below w.heap.size w w9) := HB8.out.trans (hb9.mono HB8.out.size)
    clear hb9 HB8 HCH
    go_wp2_with fail
    go_ret
    exact ⟨rfl, HN.out⟩
end Go.Proofs.YtnddkmccagiclaaDoor
