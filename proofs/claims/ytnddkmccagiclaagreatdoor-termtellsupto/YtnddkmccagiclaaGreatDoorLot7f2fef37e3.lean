/-
  What the call of kind.same answers at two trees that lie in memory, and which pairs it puts off.
-/
import Derived.Test.YtnddkmccagiclaaGreatDoorLotb9420b7669
import Derived.Test.YtnddkmccagiclaaGreatDoorLotce5b4f1487
import Derived.Deep.LoopGhost
import Derived.Test.YtnddkmccagiclaaGreatDoorLot95f67e03a6
import Derived.Test.YtnddkmccagiclaaGreatDoorLotae048bf8fb
namespace Go.Proofs.YtnddkmccagiclaaGreatDoor
open Go.RowKit

set_option maxHeartbeats 400000 in
theorem same_zeroG (R B : Nat) (x y : Tr) (ps : List GPr) (o : Option Nat) (w : World) (hL : GLst R ps o w) (hx : x.At B w) (hy : y.At B w) (hz : ps.length + x.sz ≤ 1000000000) :
    Calls Tryz.prog 80 #[.agg #[.int .i64 x.k, .slice x.a x.l.length x.c], .agg #[.int .i64 y.k, .slice y.a y.l.length y.c], .int .i64 0, .pointer (some ⟨R, 0, none⟩)] w (GRel escSame R B 0 x y ps o w) := by
  have hb0 : Below w.heap.size w ((w.alloc (.cells #[.int .i64 x.k, .slice x.a x.l.length x.c] 24)).alloc (.cells #[.int .i64 y.k, .slice y.a y.l.length y.c] 24)) := ((Below.refl _ _).alloc (Nat.le_refl _) _).alloc (by simp) _
  have HL : Hid (GLst R ps o ((w.alloc (.cells #[.int .i64 x.k, .slice x.a x.l.length x.c] 24)).alloc (.cells #[.int .i64 y.k, .slice y.a y.l.length y.c] 24))) := hL.below hb0
  have hn : ps.length + 1 ≤ 1000000000 := by have := x.sz_pos; omega
  go_enter Tryz.func80, Tryz.ntmps80
  go_wp2_with fail
  refine (put_lst R ps o ⟨x, y, none⟩ _ HL.out hn).mono ?_
  rintro e w1 ⟨rfl, o', h1, h2, h3⟩
  have HR : Hid (GRelS escSame R B 0 x y ps o w true [⟨x, y, none⟩] o' w1) := GRelS.off hb0 h1 h2 h3 hx hy
  clear h1 h2 h3 HL
  go_wp2_with fail
  go_ret
  exact ⟨true, _, o', rfl, HR.out⟩

set_option maxHeartbeats 1000000 in
theorem same_stepG (n : Nat) (hn : n ≤ 1000) (R B : Nat) (hB : B ≤ R) (x y : Tr) (ps : List GPr) (o : Option Nat) (w : World) (hL : GLst R ps o w) (hx : x.At B w) (hy : y.At B w) (hz : ps.length + x.sz ≤ 1000000000)
    (ih : Hid (∀ (x y : Tr) (ps : List GPr) (o : Option Nat) (w : World), GLst R ps o w → x.At B w → y.At B w → ps.length + x.sz ≤ 1000000000 → Calls Tryz.prog 80 #[.agg #[.int .i64 x.k, .slice x.a x.l.length x.c], .agg #[.int .i64 y.k, .slice y.a y.l.length y.c], .int .i64 (n : Int), .pointer (some ⟨R, 0, none⟩)] w (GRel escSame R B n x y ps o w))) :
    Calls Tryz.prog 80 #[.agg #[.int .i64 x.k, .slice x.a x.l.length x.c], .agg #[.int .i64 y.k, .slice y.a y.l.length y.c], .int .i64 ((n : Int) + 1), .pointer (some ⟨R, 0, none⟩)] w (GRel escSame R B (n + 1) x y ps o w) := by
  have hzz : (((n : Int) + 1) == 0) = false := by simp; omega
  have HE : Hid (escSame x.k y.k = false) := by show _ = _; rfl
  have hlen : x.l.length ≤ 1000000000 := by have := glen_sz x.l; have := x.gsz_eq; omega
  have hRs : R < w.heap.size := hL.lt
  have HL : Hid (GLst R ps o w) := hL
  have HX : Hid (x.At B w) := hx
  have HY : Hid (y.At B w) := hy
  have HZ : Hid (ps.length + x.sz ≤ 1000000000) := hz
  clear hL hx hy hz
  by_cases ht0 : (x.k == y.k && (x.l.length : Int) == (y.l.length : Int)) = false
  · have ht : Hid ((x.k == y.k && (x.l.length : Int) == (y.l.length : Int)) = false) := ht0
    clear ht0
    go_enter Tryz.func80, Tryz.ntmps80
    go_wp2_with fail
    refine (alike_any _ _ _ _ _ _ _ _ false ht.out _).mono ?_
    rintro e w1 ⟨rfl, hb1⟩
    go_wp2_with fail
    go_ret
    exact ⟨false, [], o, rfl, GRelS.empty HL.out ((((Below.refl _ _).alloc (Nat.le_refl _) _).alloc (by simp) _).trans (hb1.mono (by simp; omega))) (relY_top escSame x y HE.out ht.out)⟩
  · have ht' : Hid ((x.k == y.k && (x.l.length : Int) == (y.l.length : Int)) = true) := by simpa [Hid] using ht0
    clear ht0
    have hk : Hid (x.k = y.k) := by have h := ht'.out; simp at h; exact h.1
    have hl : Hid (x.l.length = y.l.length) := by have h := ht'.out; simp at h; exact Int.ofNat.inj h.2
    go_enter Tryz.func80, Tryz.ntmps80
    go_wp2_with fail
    refine (alike_any _ _ _ _ _ _ _ _ true ht'.out _).mono ?_
    rintro e w1 ⟨rfl, hb1⟩
    have hbw : Below w.heap.size w w1 := (((Below.refl _ _).alloc (Nat.le_refl _) _).alloc (by simp) _).trans (hb1.mono (by simp; omega))
    have p1 : w1.cell? ⟨w.heap.size, 1, none⟩ = some (.slice x.a x.l.length x.c) := cell_later hb1 (by simp [go_sem])
    have p3 : w1.cell? ⟨w.heap.size + 1, 1, none⟩ = some (.slice y.a y.l.length y.c) := cell_later hb1 (by simp [go_sem])
    have hs1 : w.heap.size + 1 < w1.heap.size := World.block_lt_of_cell? _ _ p3
    have HP0 : Hid (GProg escSame R B x y 0 ps [] o o w1 w1) := GProg.start (HL.out.below hbw)
    clear hb1
    go_wp2_with fail
    go_loopw [24] (fun i wr => ∃ j : Nat, j ≤ x.l.length ∧ i = .int .i64 (j : Int) ∧ (∃ qs o', Hid (GProg escSame R B x y j ps qs o o' w1 wr)) ∧ wr.cell? ⟨w.heap.size, 1, none⟩ = some (.slice x.a x.l.length x.c) ∧ wr.cell? ⟨w.heap.size + 1, 1, none⟩ = some (.slice y.a y.l.length y.c)) (fun i _ => x.l.length - (intOf i).toNat)
    case atStart => exact ⟨0, Nat.zero_le _, rfl, ⟨[], o, HP0⟩, p1, p3⟩
    case round =>
      clear p1 p3 HP0
      obtain ⟨j, hj, rfl, ⟨qs, o1, HPR⟩, p1, p3⟩ := hrel
      by_cases hlt : j < x.l.length
      · have hlt' : j < y.l.length := hl.out ▸ hlt
        have hL1 := HL.out.below hbw
        have hbB : Below B w wr := (hbw.mono (by omega)).trans (HPR.out.k.low hL1 hB)
        obtain ⟨b, i, hbl, ea, x0, x1, hxj⟩ := (HX.out.below hbB).part j hlt
        obtain ⟨b', i', hbl', eb, y0, y1, hyj⟩ := (HY.out.below hbB).part j hlt'
        have q1 : wr.cell? ⟨w.heap.size, 1, none⟩ = some (.slice (some ⟨b, i, none⟩) x.l.length x.c) := by rw [← ea]; exact p1
        have q3 : wr.cell? ⟨w.heap.size + 1, 1, none⟩ = some (.slice (some ⟨b', i', none⟩) y.l.length y.c) := by rw [← eb]; exact p3
        have hno : ∀ k, k < w1.heap.size → (k < w.heap.size → k ≤ R) → some k ≠ o1 := by
          intro k hk1 hk2
          refine HPR.out.g.ne hk1 ?_
          intro e
          have := HL.out.own k e.symm
          omega
        have HS : Hid (∀ w2 : World, Kept R o1 wr.drew w2 → (w2.cell? ⟨w.heap.size, 1, none⟩ = some (.slice (some ⟨b, i, none⟩) x.l.length x.c) ∧ w2.cell? ⟨w.heap.size + 1, 1, none⟩ = some (.slice (some ⟨b', i', none⟩) y.l.length y.c) ∧ w2.cell? ⟨b, i + j * 2, none⟩ = some (.int .i64 x.l[j].k) ∧ w2.cell? ⟨b, i + j * 2 + 1, none⟩ = some (.slice x.l[j].a x.l[j].l.length x.l[j].c) ∧ w2.cell? ⟨b', i' + j * 2, none⟩ = some (.int .i64 y.l[j].k) ∧ w2.cell? ⟨b', i' + j * 2 + 1, none⟩ = some (.slice y.l[j].a y.l[j].l.length y.l[j].c))) := by
          intro w2 hk2
          have n0 := hno w.heap.size (by omega) (by omega)
          have n1 := hno (w.heap.size + 1) (by omega) (by omega)
          have n2 := hno b (by omega) (by omega)
          have n3 := hno b' (by omega) (by omega)
          exact ⟨hk2.gcell (w := wr.drew) q1 (by omega) n0, hk2.gcell (w := wr.drew) q3 (by omega) n1, hk2.gcell (w := wr.drew) x0 (by omega) n2, hk2.gcell (w := wr.drew) x1 (by omega) n2, hk2.gcell (w := wr.drew) y0 (by omega) n3, hk2.gcell (w := wr.drew) y1 (by omega) n3⟩
        have HPP : Hid (∀ w2 : World, w2.cell? ⟨w.heap.size, 1, none⟩ = some (.slice (some ⟨b, i, none⟩) x.l.length x.c) → w2.cell? ⟨w.heap.size + 1, 1, none⟩ = some (.slice (some ⟨b', i', none⟩) y.l.length y.c) → w2.cell? ⟨w.heap.size, 1, none⟩ = some (.slice x.a x.l.length x.c) ∧ w2.cell? ⟨w.heap.size + 1, 1, none⟩ = some (.slice y.a y.l.length y.c)) := fun w2 h1 h2 => ⟨by rw [ea]; exact h1, by rw [eb]; exact h2⟩
        have i1 : (j : Int) < (x.l.length : Int) := by omega
        have i2 : (j : Int) < (y.l.length : Int) := by omega
        have i0 : (0 : Int) ≤ (j : Int) := by omega
        have hwr : IntKind.i64.wrap (n : Int) = (n : Int) := wrap_small n hn
        have HC : Hid (Calls Tryz.prog 80 #[.agg #[.int .i64 x.l[j].k, .slice x.l[j].a x.l[j].l.length x.l[j].c], .agg #[.int .i64 y.l[j].k, .slice y.l[j].a y.l[j].l.length y.l[j].c], .int .i64 (n : Int), .pointer (some ⟨R, 0, none⟩)] wr.drew (GRel escSame R B n x.l[j] y.l[j] (ps ++ qs) o1 wr.drew)) := by
          refine ih.out x.l[j] y.l[j] (ps ++ qs) o1 wr.drew (HPR.out.l.below ((Below.refl _ _).drew)) (hxj.below ((Below.refl _ _).drew)) (hyj.below ((Below.refl _ _).drew)) ?_
          have h1 := HPR.out.s
          have h2 := gsz_take x.l j hlt
          have h3 := gsz_take_le x.l (j + 1)
          have h4 := x.gsz_eq
          have h5 := HZ.out
          have h6 := szs_len qs
          rw [List.length_append]
          omega
        clear p1 p3 ea eb ht' hno hbB hL1 ih hxj hyj
        go_wp2_with fail
        go_region_held3 (fun w' => w'.cell? ⟨w.heap.size, 1, none⟩ = some (.slice (some ⟨b, i, none⟩) x.l.length x.c) ∧ w'.cell? ⟨w.heap.size + 1, 1, none⟩ = some (.slice (some ⟨b', i', none⟩) y.l.length y.c) ∧ w'.cell? ⟨b, i + j * 2, none⟩ = some (.int .i64 x.l[j].k) ∧ w'.cell? ⟨b, i + j * 2 + 1, none⟩ = some (.slice x.l[j].a x.l[j].l.length x.l[j].c) ∧ w'.cell? ⟨b', i' + j * 2, none⟩ = some (.int .i64 y.l[j].k) ∧ w'.cell? ⟨b', i' + j * 2 + 1, none⟩ = some (.slice y.l[j].a y.l[j].l.length y.l[j].c)) (first | exact HS.out _ hr2.k | go_keep) (first | (go_at_call 80; refine HC.out.mono ?_; rintro e w2 ⟨r, qs2, o2, rfl, hr2⟩))
        have HR2 : Hid (GRelS escSame R B n x.l[j] y.l[j] (ps ++ qs) o1 wr.drew r qs2 o2 w2) := hr2
        have hpp := HPP.out w2 (HS.out w2 hr2.k).1 (HS.out w2 hr2.k).2.1
        clear hr2 HC HS HPP x0 x1 y0 y1 q1 q3
        cases r
        · have HF : Hid (GRelS escSame R B (n + 1) x y ps o w false (qs ++ qs2) o2 w2) := HPR.out.no hB HL.out hbw HE.out hlt hlt' HR2.out
          go_wp2_with fail
          go_ret
          exact ⟨false, _, o2, rfl, HF.out⟩
        · have HF : Hid (GProg escSame R B x y (j + 1) ps (qs ++ qs2) o o2 w1 w2) := HPR.out.step hB (HL.out.below hbw) hlt hlt' HR2.out
          go_wp2_with fail
          go_roundw
          case rel => exact ⟨j + 1, by omega, by go_num, ⟨_, _, HF⟩, hpp.1, hpp.2⟩
          case measure => simp [intOf]; omega
      · have HF : Hid (GRelS escSame R B (n + 1) x y ps o w true qs o1 wr) := HPR.out.yes hB HL.out hbw HE.out hk.out hl.out (by omega)
        clear HPR
        go_wp2_with fail
        go_ret
        exact ⟨true, qs, o1, rfl, HF.out⟩

/-- kind.same. -/
theorem same_anyG (n : Nat) (R B : Nat) (hB : B ≤ R) : n ≤ 1000 → ∀ (x y : Tr) (ps : List GPr) (o : Option Nat) (w : World), GLst R ps o w → x.At B w → y.At B w → ps.length + x.sz ≤ 1000000000 → Calls Tryz.prog 80 #[.agg #[.int .i64 x.k, .slice x.a x.l.length x.c], .agg #[.int .i64 y.k, .slice y.a y.l.length y.c], .int .i64 (n : Int), .pointer (some ⟨R, 0, none⟩)] w (GRel escSame R B n x y ps o w) := by
  induction n with
  | zero =>
    intro _ x y ps o w hL hx hy hz
    exact same_zeroG R B x y ps o w hL hx hy hz
  | succ n ih =>
    intro hn x y ps o w hL hx hy hz
    have e : ((n + 1 : Nat) : Int) = (n : Int) + 1 := by omega
    rw [e]
    exact same_stepG n (by omega) R B hB x y ps o w hL hx hy hz (fun x y ps o w hL hx hy hz => ih (by omega) x y ps o w hL hx hy hz)
end Go.Proofs.YtnddkmccagiclaaGreatDoor

/-
  What the calls of kind.holds (of kind.same) and kind.Same answer at two trees of not too many nodes.
-/
namespace Go.Proofs.YtnddkmccagiclaaGreatDoor
open Go.RowKit

set_option maxHeartbeats 1000000 in
theorem holds_31G (x y : Tr) (r : Bool) (hr : Hid (relY escSame x.ty y.ty = r)) (w : World) (hx : x.In w) (hy : y.In w) (hz : x.sz ≤ 100000000) :
    Calls Tryz.prog 79 #[.func (.func 80) #[] #[], .agg #[.int .i64 x.k, .slice x.a x.l.length x.c], .agg #[.int .i64 y.k, .slice y.a y.l.length y.c]] w fun e w' => e = .returned (.bool r) ∧ Below w.heap.size w w' := by
  have HX : Hid (x.At w.heap.size w) := ⟨hx, hx.bl⟩
  have HY : Hid (y.At w.heap.size w) := ⟨hy, hy.bl⟩
  have HZ : Hid (x.sz ≤ 100000000) := hz
  clear hx hy hz
  go_enter Tryz.func79, Tryz.ntmps79
  go_wp2_with fail
  refine (put_lst (w.heap.size + 1 + 1) [] none ⟨x, y, none⟩ _ ⟨⟨.slice none 0 0, by simp [go_sem], World.ownsRow_nil _ _ _ _, rfl⟩, by simp [go_sem]⟩ (by simp)).mono ?_
  rintro e w1 ⟨rfl, o1, hl1, _, hk1⟩
  have hbw : Below w.heap.size w w1 := ((((Below.refl _ _).alloc (Nat.le_refl _) _).alloc (by simp) _).alloc (by simp; omega) _).trans ((hk1.below (fun g e => by cases e) (by simp)).mono (by omega))
  have HO : Hid (GTodo escSame (w.heap.size + 1 + 1) x y w x.sz [⟨x, y, none⟩] o1 w1) := by
    refine ⟨hl1, szs_one _, by have := HZ.out; omega, fun q hq => ?_, ⟨fun h q hq => ?_, fun h => h _ (List.mem_singleton.2 rfl)⟩, hbw⟩
    · rcases List.mem_singleton.1 hq with rfl
      exact ⟨rfl, HX.out, HY.out⟩
    · rcases List.mem_singleton.1 hq with rfl
      exact h
  clear hl1 hk1 hbw HX HY
  go_wp2_with fail
  go_loopg [] x.sz (fun k wr => ∃ qs o, Hid (GTodo escSame (w.heap.size + 1 + 1) x y w k qs o wr))
  case atStart => exact ⟨_, _, HO⟩
  case round =>
    clear HO
    obtain ⟨qs, o, HT⟩ := hrel
    rcases List.eq_nil_or_concat qs with rfl | ⟨us, q, rfl⟩
    · go_wp2_with fail
      refine (empty_yes (w.heap.size + 1 + 1) o _ HT.out.l).mono ?_
      rintro e w' ⟨rfl, rfl⟩
      have HF : Hid (r = true) := by
        show r = true
        rw [← hr.out]
        exact HT.out.i.2 fun q hq => by cases hq
      go_wp2_with fail
      go_ret
      exact ⟨by rw [HF.out]; rfl, HT.out.b⟩
    · rw [List.concat_eq_append] at HT
      go_wp2_with fail
      refine (empty_no (w.heap.size + 1 + 1) us q o _ HT.out.l).mono ?_
      rintro e w' ⟨rfl, rfl⟩
      have hus : us.length ≤ 1000000000 := by
        have h1 := szs_len us
        have h2 := HT.out.s
        have h3 := HT.out.z
        rw [szs_append] at h2
        omega
      go_wp2_with fail
      refine (take_lst (w.heap.size + 1 + 1) us q o _ HT.out.l (by omega)).mono ?_
      rintro e w2 ⟨rfl, hl2, hk2⟩
      have hp : q.p = none := (HT.out.q q (by simp)).1
      rw [hp]
      clear hp
      have HW : Hid (∀ X, Below w2.heap.size w2 (w2.alloc X) ∧ GLst (w.heap.size + 1 + 1) us o (w2.alloc X)) := fun X => ⟨(Below.refl _ _).alloc (Nat.le_refl _) _, hl2.below ((Below.refl _ _).alloc (Nat.le_refl _) _)⟩
      have HK2 : Hid (Kept (w.heap.size + 1 + 1) none w' w2) := hk2
      have hw2 : w.heap.size + 1 + 1 < w2.heap.size := hl2.lt
      have HA : Hid (∀ X, q.x.At w.heap.size (w2.alloc X) ∧ q.y.At w.heap.size (w2.alloc X)) := by
        intro X
        obtain ⟨_, h1, h2⟩ := HT.out.q q (by simp)
        have hb : Below w.heap.size w (w2.alloc X) := (HT.out.b.trans ((hk2.below (fun g e => by cases e) (Nat.le_of_lt HT.out.l.lt)).mono (by omega))).alloc (by omega) X
        exact ⟨h1.below hb, h2.below hb⟩
      clear hl2 hk2
      go_wp2_with fail
      refine (same_anyG 1000 (w.heap.size + 1 + 1) w.heap.size (by omega) (Nat.le_refl _) q.x q.y us o _ (HW.out _).2 (HA.out _).1 (HA.out _).2 (by have h1 := szs_len us; have h2 := HT.out.s; have h3 := HT.out.z; rw [szs_append, szs_one] at h2; omega)).mono ?_
      rintro e w5 ⟨r', qs, o2, rfl, hr5⟩
      have HR5 : Hid (GRelS escSame (w.heap.size + 1 + 1) w.heap.size (999 + 1) q.x q.y us o (w2.alloc (.cells #[.int .i64 q.x.k, .slice q.x.a q.x.l.length q.x.c, .int .i64 q.y.k, .slice q.y.a q.y.l.length q.y.c, .pointer none] 168)) r' qs o2 w5) := hr5
      clear hr5
      cases r'
      · have HF : Hid (r = false ∧ Below w.heap.size w w5) := by
          have h := HT.out.no (by omega) HK2.out (HW.out _).1 (HW.out _).2 HR5.out
          exact ⟨hr.out ▸ h.1, h.2⟩
        clear HR5 HW HA HK2 HT
        go_wp2_with fail
        go_ret
        exact ⟨by rw [HF.out.1]; rfl, HF.out.2⟩
      · have HF : Hid (GTodo escSame (w.heap.size + 1 + 1) x y w (szs (us ++ qs)) (us ++ qs) o2 w5 ∧ szs (us ++ qs) < gk) := HT.out.step (by omega) HK2.out (HW.out _).1 (HW.out _).2 HR5.out
        clear HR5 HW HA HK2 HT
        go_wp2_with fail
        go_roundg (szs (us ++ qs))
        case measure => exact HF.out.2
        case rel => exact ⟨_, _, HF.out.1⟩

set_option maxHeartbeats 400000 in
/-- kind.Same. -/
theorem same_wholeG (x y : Tr) (w : World) (hx : x.In w) (hy : y.In w) (hz : x.sz ≤ 100000000) :
    Calls Tryz.prog 48 #[.agg #[.int .i64 x.k, .slice x.a x.l.length x.c], .agg #[.int .i64 y.k, .slice y.a y.l.length y.c]] w fun e w' => e = .returned (.bool (relY escSame x.ty y.ty)) ∧ Below w.heap.size w w' := by
  obtain ⟨r, hr⟩ : ∃ r, relY escSame x.ty y.ty = r := ⟨_, rfl⟩
  have HH : Hid (∀ (w : World), x.In w → y.In w → Calls Tryz.prog 79 #[.func (.func 80) #[] #[], .agg #[.int .i64 x.k, .slice x.a x.l.length x.c], .agg #[.int .i64 y.k, .slice y.a y.l.length y.c]] w fun e w' => e = .returned (.bool r) ∧ Below w.heap.size w w') := fun w h1 h2 => holds_31G x y r hr w h1 h2 hz
  rw [hr]
  clear hr
  go_enter Tryz.func48, Tryz.ntmps48
  go_wp2_with fail
  have hb0 : Below w.heap.size w ((w.alloc (Obj.cells #[.int .i64 x.k, .slice x.a x.l.length x.c] 24)).alloc (Obj.cells #[.int .i64 y.k, .slice y.a y.l.length y.c] 24)) := ((Below.refl _ _).alloc (Nat.le_refl _) _).alloc (by simp) _
  refine (HH.out _ (hx.below hb0) (hy.below hb0)).mono ?_
  rintro e w1 ⟨rfl, hb1⟩
  have hb2 := hb0.trans (hb1.mono (by simp; omega))
  clear hb0 hb1
  go_wp2_with fail
  go_ret
  exact ⟨rfl, hb2⟩
end Go.Proofs.YtnddkmccagiclaaGreatDoor

/-
  What the call of term.Same answers at any two terms that lie in memory: alikeAtTop.
-/
namespace Go.Proofs.YtnddkmccagiclaaGreatDoor
open Go.RowKit

/-- Two terms alike but for their parts. -/
def Top (x y : TT) : Prop := x.k = y.k ∧ x.n = y.n ∧ x.l.length = y.l.length ∧ x.t.ty = y.t.ty ∧ x.f.ty = y.f.ty

set_option maxHeartbeats 4000000 in
/-- term.alikeAtTop. -/
theorem alikeTm_any (x y : TT) (w : World) (hx : x.In w) (hy : y.In w) (hst : x.t.sz ≤ 100000000) (hsf : x.f.sz ≤ 100000000) :
    Calls Tryz.prog 26 #[.agg #[.int .i64 x.k, .int .i64 x.n, .int .i64 x.t.k, .slice x.t.a x.t.l.length x.t.c, .int .i64 x.f.k, .slice x.f.a x.f.l.length x.f.c, .slice x.a x.l.length x.c], .agg #[.int .i64 y.k, .int .i64 y.n, .int .i64 y.t.k, .slice y.t.a y.t.l.length y.t.c, .int .i64 y.f.k, .slice y.f.a y.f.l.length y.f.c, .slice y.a y.l.length y.c]] w (fun e w' => ∃ b : Bool, e = .returned (.bool b) ∧ (b = true ↔ Top x y) ∧ Below w.heap.size w w') := by
  obtain ⟨bt, hbt⟩ : ∃ bt, relY escSame x.t.ty y.t.ty = bt := ⟨_, rfl⟩
  obtain ⟨bf, hbf⟩ : ∃ bf, relY escSame x.f.ty y.f.ty = bf := ⟨_, rfl⟩
  have HT : Hid (∀ W, x.t.In W → y.t.In W → Calls Tryz.prog 48 #[.agg #[.int .i64 x.t.k, .slice x.t.a x.t.l.length x.t.c], .agg #[.int .i64 y.t.k, .slice y.t.a y.t.l.length y.t.c]] W fun e w' => e = .returned (.bool bt) ∧ Below W.heap.size W w') := by
    intro W h1 h2
    have := same_wholeG x.t y.t W h1 h2 hst
    rw [hbt] at this
    exact this
  have HF : Hid (∀ W, x.f.In W → y.f.In W → Calls Tryz.prog 48 #[.agg #[.int .i64 x.f.k, .slice x.f.a x.f.l.length x.f.c], .agg #[.int .i64 y.f.k, .slice y.f.a y.f.l.length y.f.c]] W fun e w' => e = .returned (.bool bf) ∧ Below W.heap.size W w') := by
    intro W h1 h2
    have := same_wholeG x.f y.f W h1 h2 hsf
    rw [hbf] at this
    exact this
  have HB : Hid (∀ o o', Below w.heap.size w ((w.alloc o).alloc o')) := fun o o' => ((Below.refl _ _).alloc (Nat.le_refl _) _).alloc (by simp) _
  have HX : Hid (x.In w ∧ y.In w) := ⟨hx, hy⟩
  have HTY : Hid (relY escSame x.t.ty y.t.ty = bt ∧ relY escSame x.f.ty y.f.ty = bf) := ⟨hbt, hbf⟩
  clear hbt hbf hst hsf hx hy
  by_cases hk : x.k = y.k
  · have e1 : (x.k == y.k) = true := by simp [hk]
    have HK : Hid (x.k = y.k) := hk
    clear hk
    by_cases hn : x.n = y.n
    · have e2 : (x.n == y.n) = true := by simp [hn]
      have HNN : Hid (x.n = y.n) := hn
      clear hn
      by_cases hl : x.l.length = y.l.length
      · have e3 : ((x.l.length : Int) == (y.l.length : Int)) = true := by simp [hl]
        have HL : Hid (x.l.length = y.l.length) := hl
        clear hl
        go_enter Tryz.func26, Tryz.ntmps26
        go_wp2_with fail
        refine (HT.out _ (HX.out.1.below (HB.out _ _)).t (HX.out.2.below (HB.out _ _)).t).mono ?_
        rintro e w1 ⟨rfl, hb1⟩
        have hbw : Below w.heap.size w w1 := (HB.out _ _).trans (hb1.mono (by simp; omega))
        have q4 : w1.cell? ⟨w.heap.size, 4, none⟩ = some (.int .i64 x.f.k) := cell_later hb1 (by simp [go_sem])
        have q5 : w1.cell? ⟨w.heap.size, 5, none⟩ = some (.slice x.f.a x.f.l.length x.f.c) := cell_later hb1 (by simp [go_sem])
        have p4 : w1.cell? ⟨w.heap.size + 1, 4, none⟩ = some (.int .i64 y.f.k) := cell_later hb1 (by simp [go_sem])
        have p5 : w1.cell? ⟨w.heap.size + 1, 5, none⟩ = some (.slice y.f.a y.f.l.length y.f.c) := cell_later hb1 (by simp [go_sem])
        clear hb1
        cases bt
        · have HNO : Hid (¬ Top x y) := fun h => by
            have := HTY.out.1
            rw [h.2.2.2.1, relY_refl] at this
            cases this
          clear HT HF HX HTY
          go_wp2_with fail
          refine bodyPost_ret (v := .bool false) ?_ rfl ⟨false, rfl, ⟨fun h => (by cases h), fun h => absurd h HNO.out⟩, hbw⟩
          simp [results, Tryz.results26, go_sem]
        · go_wp2_with fail
          refine (HF.out _ (HX.out.1.below hbw).f (HX.out.2.below hbw).f).mono ?_
          rintro e w2 ⟨rfl, hb2⟩
          have hbz := hbw.trans (hb2.mono hbw.size)
          have HTOP : Hid (bf = true ↔ Top x y) := by
            refine ⟨fun h => ⟨HK.out, HNN.out, HL.out, relY_eq _ _ HTY.out.1, relY_eq _ _ (HTY.out.2.trans h)⟩, fun h => ?_⟩
            have := HTY.out.2
            rw [h.2.2.2.2, relY_refl] at this
            exact this.symm
          clear hb2 hbw HT HF HX HTY HK HNN HL
          go_wp2_with fail
          refine bodyPost_ret (v := .bool bf) ?_ rfl ⟨bf, rfl, HTOP.out, hbz⟩
          simp [results, Tryz.results26, go_sem]
      · have e3 : ((x.l.length : Int) == (y.l.length : Int)) = false := by
          have : ¬ (x.l.length : Int) = (y.l.length : Int) := by omega
          simpa using this
        have HNO : Hid (¬ Top x y) := fun h => hl h.2.2.1
        have hbw := HB.out
        clear hl HT HF HX HTY HK HNN
        go_enter Tryz.func26, Tryz.ntmps26
        go_wp2_with fail
        refine bodyPost_ret (v := .bool false) ?_ rfl ⟨false, rfl, ⟨fun h => (by cases h), fun h => absurd h HNO.out⟩, hbw _ _⟩
        simp [results, Tryz.results26, go_sem]
    · have e2 : (x.n == y.n) = false := by simpa using hn
      have HNO : Hid (¬ Top x y) := fun h => hn h.2.1
      have hbw := HB.out
      clear hn HT HF HX HTY HK
      go_enter Tryz.func26, Tryz.ntmps26
      go_wp2_with fail
      refine bodyPost_ret (v := .bool false) ?_ rfl ⟨false, rfl, ⟨fun h => (by cases h), fun h => absurd h HNO.out⟩, hbw _ _⟩
      simp [results, Tryz.results26, go_sem]
  · have e1 : (x.k == y.k) = false := by simpa using hk
    have HNO : Hid (¬ Top x y) := fun h => hk h.1
    have hbw := HB.out
    clear hk HT HF HX HTY
    go_enter Tryz.func26, Tryz.ntmps26
    go_wp2_with fail
    refine bodyPost_ret (v := .bool false) ?_ rfl ⟨false, rfl, ⟨fun h => (by cases h), fun h => absurd h HNO.out⟩, hbw _ _⟩
    simp [results, Tryz.results26, go_sem]

theorem tm_top {x y : TT} (h : Top x y) : x.tm = y.tm ↔ x.l.map TT.tm = y.l.map TT.tm := by
  refine ⟨fun e => (tm_parts e).2.2.2.2.2, fun e => tm_of_parts h.1 h.2.1 h.2.2.2.1 h.2.2.2.2 h.2.2.1 fun j h1 h2 => ?_⟩
  have := congrArg (fun l => l[j]?) e
  simpa [List.getElem?_eq_getElem h1, List.getElem?_eq_getElem h2] using this
theorem top_tm {x y : TT} (h : x.tm = y.tm) : Top x y := by
  obtain ⟨h1, h2, h3, h4, h5, _⟩ := tm_parts h
  exact ⟨h1, h2, h3, h4, h5⟩
end Go.Proofs.YtnddkmccagiclaaGreatDoor

/-
  What the call of term.Same answers at any two terms that lie in memory.
-/
namespace Go.Proofs.YtnddkmccagiclaaGreatDoor
open Go.RowKit

/-- Two lists of terms, each with each, of one length. -/
def PrN (B : Nat) (w : World) (p : TT × TT) : Prop := p.1.In w ∧ p.2.In w ∧ p.1.Bl (· < B) ∧ p.2.Bl (· < B) ∧ p.1.csz ∧ p.1.l.length = p.2.l.length

theorem PrN.low {B : Nat} {w w' : World} {p : TT × TT} (h : PrN B w p) (hb : Below B w w') : PrN B w' p :=
  ⟨h.1.congr (P := (· < B)) (fun b hb' o => hb.cell (p := ⟨b, o, none⟩) hb') h.2.2.1, h.2.1.congr (P := (· < B)) (fun b hb' o => hb.cell (p := ⟨b, o, none⟩) hb') h.2.2.2.1, h.2.2⟩

structure StkNo (B : Nat) (v : Value) (ps : List (TT × TT)) (w : World) : Prop where
  own : w.ownsRow B 53 2 v ps.length (cells2 ps)
  ins : ∀ p, p ∈ ps → PrN B w p

/-- What is left is alike. -/
def RestN (ps : List (TT × TT)) : Prop := ∀ p, p ∈ ps → p.1.l.map TT.tm = p.2.l.map TT.tm

theorem rest_snoc {us : List (TT × TT)} {p : TT × TT} : RestN (us ++ [p]) ↔ RestN us ∧ p.1.l.map TT.tm = p.2.l.map TT.tm := by
  refine ⟨fun h => ⟨fun q hq => h q (by simp [hq]), h p (by simp)⟩, fun h q hq => ?_⟩
  rcases List.mem_append.1 hq with hq | hq
  · exact h.1 q hq
  · rcases List.mem_singleton.1 hq with rfl
    exact h.2

theorem oneOf_csz {g : Nat} {x : TT} (hx : x.csz) : (oneOf g x).csz := by
  refine TT.csz_mk.2 ⟨by simp [leaf, Tr.sz_mk], by simp [leaf, Tr.sz_mk], fun y hy => ?_⟩
  rcases List.mem_singleton.1 hy with rfl
  exact hx

set_option maxRecDepth 20000 in
set_option maxHeartbeats 8000000 in
/-- term.Same. -/
theorem sameTm_any (x y : TT) (w : World) (hx : x.In w) (hy : y.In w) (hto : x.csz) (hsz : x.sz ≤ 1000000) :
    Calls Tryz.prog 13 #[.agg #[.int .i64 x.k, .int .i64 x.n, .int .i64 x.t.k, .slice x.t.a x.t.l.length x.t.c, .int .i64 x.f.k, .slice x.f.a x.f.l.length x.f.c, .slice x.a x.l.length x.c], .agg #[.int .i64 y.k, .int .i64 y.n, .int .i64 y.t.k, .slice y.t.a y.t.l.length y.t.c, .int .i64 y.f.k, .slice y.f.a y.f.l.length y.f.c, .slice y.a y.l.length y.c]] w fun e w' => ∃ r : Bool, e = .returned (.bool r) ∧ (r = true ↔ x.tm = y.tm) ∧ Below w.heap.size w w' := by
  obtain ⟨i0, hi0, hz0, hz1, hz2⟩ := info_parts Tryz.info53
  obtain ⟨OX, hOX⟩ : ∃ O, O = Obj.cells #[.int .i64 x.k, .int .i64 x.n, .int .i64 x.t.k, .slice x.t.a x.t.l.length x.t.c, .int .i64 x.f.k, .slice x.f.a x.f.l.length x.f.c, .slice x.a x.l.length x.c] 27 := ⟨_, rfl⟩
  obtain ⟨OY, hOY⟩ : ∃ O, O = Obj.cells #[.int .i64 y.k, .int .i64 y.n, .int .i64 y.t.k, .slice y.t.a y.t.l.length y.t.c, .int .i64 y.f.k, .slice y.f.a y.f.l.length y.f.c, .slice y.a y.l.length y.c] 27 := ⟨_, rfl⟩
  have HL : Hid (StkNo (w.heap.size + 1 + 1 + 1 + 1) (.slice (some ⟨w.heap.size + 1 + 1 + 1 + 1, 0, none⟩) 1 1) [(oneOf (w.heap.size + 1 + 1) x, oneOf (w.heap.size + 1 + 1 + 1) y)] (((((w.alloc OX).alloc OY).alloc OX).alloc OY).alloc (.cells #[.slice (some ⟨w.heap.size + 1 + 1, 0, none⟩) 1 1, .slice (some ⟨w.heap.size + 1 + 1 + 1, 0, none⟩) 1 1] 53)) ∧ Below w.heap.size w (((((w.alloc OX).alloc OY).alloc OX).alloc OY).alloc (.cells #[.slice (some ⟨w.heap.size + 1 + 1, 0, none⟩) 1 1, .slice (some ⟨w.heap.size + 1 + 1 + 1, 0, none⟩) 1 1] 53)) ∧ mass [(oneOf (w.heap.size + 1 + 1) x, oneOf (w.heap.size + 1 + 1 + 1) y)] ≤ 1000001 ∧ (x.tm = y.tm ↔ RestN [(oneOf (w.heap.size + 1 + 1) x, oneOf (w.heap.size + 1 + 1 + 1) y)])) := by
    have hb : Below w.heap.size w (((((w.alloc OX).alloc OY).alloc OX).alloc OY).alloc (.cells #[.slice (some ⟨w.heap.size + 1 + 1, 0, none⟩) 1 1, .slice (some ⟨w.heap.size + 1 + 1 + 1, 0, none⟩) 1 1] 53)) := (((((Below.refl _ _).alloc (Nat.le_refl _) _).alloc (by simp) _).alloc (by simp; omega) _).alloc (by simp; omega) _).alloc (by simp; omega) _
    have hh := heap_alloc_new ((((w.alloc OX).alloc OY).alloc OX).alloc OY) (.cells #[.slice (some ⟨w.heap.size + 1 + 1, 0, none⟩) 1 1, .slice (some ⟨w.heap.size + 1 + 1 + 1, 0, none⟩) 1 1] 53)
    simp only [World.size_alloc] at hh
    refine ⟨⟨⟨rfl, .inr ⟨_, 1, _, rfl, Nat.le_refl _, hh, Nat.le_refl _, by unfold maxLen; omega, rfl, rfl⟩⟩, fun p hp => ?_⟩, hb, ?_, ?_⟩
    · rcases List.mem_singleton.1 hp with rfl
      refine ⟨oneOf_in ?_ (hx.below hb), oneOf_in ?_ (hy.below hb), oneOf_bl (by omega) (hx.bl.mono fun b h => by omega), oneOf_bl (by omega) (hy.bl.mono fun b h => by omega), oneOf_csz hto, ?_⟩
      · subst hOX hOY; constructor <;> simp [go_sem]
      · subst hOX hOY; constructor <;> simp [go_sem]
      · simp [oneOf]
    · simp [mass, oneOf, TT.sz_mk]; omega
    · simp [RestN, oneOf]
  obtain ⟨B, hB⟩ : ∃ B, w.heap.size + 1 + 1 + 1 + 1 = B := ⟨_, rfl⟩
  have hBw : w.heap.size < B := by omega
  subst hOX hOY
  clear hx hy hto hsz
  go_enter Tryz.func13, Tryz.ntmps13
  go_wp2_with fail
  go_loopg [5] (mass [(oneOf (w.heap.size + 1 + 1) x, oneOf (w.heap.size + 1 + 1 + 1) y)]) (fun k v wr => ∃ (u : Value) (ps : List (TT × TT)), u = v ∧ k = mass ps ∧ Hid (StkNo B u ps wr ∧ Below w.heap.size w wr ∧ mass ps ≤ 1000001 ∧ (x.tm = y.tm ↔ RestN ps)))
  case atStart => exact ⟨_, _, rfl, rfl, by rw [← hB]; exact HL⟩
  case round =>
    obtain ⟨v, ps, hv, hk, HR⟩ := hrel
    subst hv
    have HK : Hid (gk = mass ps) := hk
    clear hk HL hB
    by_cases hne : ps = []
    · subst hne
      obtain ⟨a, c, rfl⟩ : ∃ a c, v = .slice a 0 c := by
        rcases HR.out.1.own.2 with ⟨rfl, _⟩ | ⟨g, cap, cur, rfl, _⟩
        · exact ⟨_, _, rfl⟩
        · exact ⟨_, _, rfl⟩
      have HF : Hid (Below w.heap.size w wr ∧ x.tm = y.tm) := ⟨HR.out.2.1, HR.out.2.2.2.2 fun p hp => by cases hp⟩
      clear HR HK
      go_wp2_with fail
      refine bodyPost_ret (v := .bool true) ?_ rfl ⟨true, rfl, ⟨fun _ => HF.out.2, fun _ => rfl⟩, HF.out.1⟩
      simp [results, Tryz.results13, go_sem]
    · obtain ⟨us, p, rfl⟩ : ∃ us p, ps = us ++ [p] := ⟨ps.dropLast, ps.getLast hne, (List.dropLast_concat_getLast hne).symm⟩
      have ho := HR.out.1.own
      have hlen : (us ++ [p]).length = us.length + 1 := by simp
      rw [hlen, cells2_append] at ho
      obtain ⟨g, cap, rfl, hg, hgl⟩ := ho.form (by omega)
      have c0 := ho.cellAt (us.length * 2) (by omega)
      have c1 := ho.cellAt (us.length * 2 + 1) (by omega)
      rw [List.getElem?_append_right (by rw [cells2_length]; exact Nat.le_refl _), cells2_length, Nat.sub_self] at c0
      rw [List.getElem?_append_right (by rw [cells2_length]; omega), cells2_length, show us.length * 2 + 1 - us.length * 2 = 1 by omega] at c1
      simp only [cells2, List.flatMap_cons, List.flatMap_nil, List.append_nil, List.getElem?_cons_zero, List.getElem?_cons_succ] at c0 c1
      have hcap : us.length + 1 ≤ cap := by
        rcases ho.2 with ⟨h, _⟩ | ⟨g', cap', cur, h, _, _, h1, _⟩
        · cases h
        · cases h; exact h1
      have hop : wr.ownsRow B 53 2 (.slice (some ⟨g, 0, none⟩) us.length cap) us.length (cells2 us) := ownsRow_pop (cells2_length us) ho
      have hpr : PrN B wr p := HR.out.1.ins p (by simp)
      have hms : mass (us ++ [p]) = mass us + p.1.sz := by simp [mass]
      have hus := Stk.len (ps := us)
      have hml := HR.out.2.2.1
      have HIF : Hid (x.tm = y.tm ↔ RestN us ∧ p.1.l.map TT.tm = p.2.l.map TT.tm) := HR.out.2.2.2.trans rest_snoc
      have i1 : (us.length : Int) < ((us.length : Int) + 1) := by omega
      have n1 : (us.length : Int) ≤ 1000001 := by omega
      have n2 : (us.length : Int) ≤ (cap : Int) := by omega
      have n3 : (0 : Int) ≤ (us.length : Int) := by omega
      have hgne : g ≠ wr.heap.size := by omega
      have hpl : p.1.l.length ≤ 1000001 := by
        have h1 := p.1.sz_eq
        have h2 : p.1.l.length ≤ (p.1.l.map TT.sz).sum := by
          generalize p.1.l = l
          induction l with
          | nil => simp
          | cons u r ih => have := u.sz_pos; simp only [List.length_cons, List.map_cons, List.sum_cons]; omega
        omega
      have hszB : B ≤ wr.heap.size := by omega
      have HI : Hid (StkNo B (.slice (some ⟨g, 0, none⟩) us.length cap) us wr ∧ Below w.heap.size w wr ∧ PrN B wr p ∧ g < wr.heap.size) := ⟨⟨hop, fun q hq => HR.out.1.ins q (by simp [hq])⟩, HR.out.2.1, hpr, hgl⟩
      have HM : Hid (gk = mass us + p.1.sz ∧ mass us + p.1.sz ≤ 1000001) := ⟨HK.out.trans hms, by rw [← hms]; exact hml⟩
      clear ho hop hpr HR HK hms hml hne hlen hus
      go_wp2_with fail
      obtain ⟨W0, hW0⟩ : ∃ W, W = wr := ⟨_, rfl⟩
      subst hW0
      have hb0 : ∀ o, Below W0.heap.size W0 (W0.alloc o) := fun o => (Below.refl _ _).alloc (Nat.le_refl _) _
      have HI0 : Hid (∀ o, StkNo B (.slice (some ⟨g, 0, none⟩) us.length cap) us (W0.alloc o) ∧ Below w.heap.size w (W0.alloc o) ∧ PrN B (W0.alloc o) p) := fun o =>
        ⟨⟨HI.out.1.own.alloc _, fun q hq => (HI.out.1.ins q hq).low ((hb0 o).mono hszB)⟩, HI.out.2.1.trans ((hb0 o).mono (by omega)), HI.out.2.2.1.low ((hb0 o).mono hszB)⟩
      clear hb0 c0 c1
      go_loopg [5, 33] p.1.l.length (fun q v i wx => ∃ (j : Nat) (u : Value), q + j = p.1.l.length ∧ i = .int .i64 (j : Int) ∧ u = v ∧ Hid (StkNo B u (us ++ kids (p.1.l.take j) (p.2.l.take j)) wx ∧ Below w.heap.size w wx ∧ PrN B wx p ∧ wx.cell? ⟨W0.heap.size, 1, none⟩ = some (.slice p.2.a p.2.l.length p.2.c) ∧ u.ownBlock ≠ some W0.heap.size) ∧ Hid (x.tm = y.tm ↔ RestN (us ++ kids (p.1.l.take j) (p.2.l.take j)) ∧ (p.1.l.drop j).map TT.tm = (p.2.l.drop j).map TT.tm))
      case atStart => exact ⟨0, _, by omega, rfl, rfl, ⟨by simp [kids]; exact (HI0.out _).1, (HI0.out _).2.1, (HI0.out _).2.2, by simp [go_sem], by simp [Value.ownBlock]; omega⟩, by show _ ↔ _; simp only [List.take_zero, kids, List.append_nil, List.drop_zero]; exact HIF.out⟩
      case round =>
        obtain ⟨j, v, hj, rfl, hv, HQ, HJF⟩ := hrel
        subst hv
        have HJ : Hid (gk + j = p.1.l.length) := hj
        clear hj HI0
        have hll : p.1.l.length = p.2.l.length := HQ.out.2.2.1.2.2.2.2.2
        have HLL : Hid (p.1.l.length = p.2.l.length) := hll
        clear hll
        by_cases hlt : j < p.1.l.length
        · have hlt2 : j < p.2.l.length := by rw [← HLL.out]; exact hlt
          obtain ⟨hp1, hp2, hb1, hb2, hto, htm⟩ := HQ.out.2.2.1
          obtain ⟨b, o, ea, hX, hxj⟩ := hp1.part j hlt
          obtain ⟨b', o', ea', hY, hyj⟩ := hp2.part j hlt2
          have c1 := HQ.out.2.2.2.1
          rw [ea'] at c1
          have htoj : p.1.l[j].csz := hto.mem (List.getElem_mem hlt)
          have hblj : p.1.l[j].Bl (· < B) ∧ p.2.l[j].Bl (· < B) := ⟨hb1.mem (List.getElem_mem hlt), hb2.mem (List.getElem_mem hlt2)⟩
          obtain ⟨X, hXe⟩ : ∃ X, p.1.l[j] = X := ⟨_, rfl⟩
          obtain ⟨Y, hYe⟩ : ∃ Y, p.2.l[j] = Y := ⟨_, rfl⟩
          rw [hXe] at hX hxj htoj hblj
          rw [hYe] at hY hyj hblj
          have HXY : Hid (p.1.l[j] = X ∧ p.2.l[j] = Y) := ⟨hXe, hYe⟩
          have d0 := hX.c0
          have d1 := hX.c1
          have d2 := hX.c2
          have d3 := hX.c3
          have d4 := hX.c4
          have d5 := hX.c5
          have d6 := hX.c6
          have e0 := hY.c0
          have e1 := hY.c1
          have e2 := hY.c2
          have e3 := hY.c3
          have e4 := hY.c4
          have e5 := hY.c5
          have e6 := hY.c6
          have lb : b < wr.heap.size := hX.lt
          have lb' : b' < wr.heap.size := hY.lt
          have lN : W0.heap.size < wr.heap.size := World.block_lt_of_cell? _ _ c1
          have HA : Hid (∀ W, Below wr.heap.size wr W → Calls Tryz.prog 26 #[.agg #[.int .i64 X.k, .int .i64 X.n, .int .i64 X.t.k, .slice X.t.a X.t.l.length X.t.c, .int .i64 X.f.k, .slice X.f.a X.f.l.length X.f.c, .slice X.a X.l.length X.c], .agg #[.int .i64 Y.k, .int .i64 Y.n, .int .i64 Y.t.k, .slice Y.t.a Y.t.l.length Y.t.c, .int .i64 Y.f.k, .slice Y.f.a Y.f.l.length Y.f.c, .slice Y.a Y.l.length Y.c]] W fun e w' => ∃ r : Bool, e = .returned (.bool r) ∧ (r = true ↔ Top X Y) ∧ Below W.heap.size W w') := fun W hb => alikeTm_any X Y W (hxj.below hb) (hyj.below hb) htoj.t htoj.f
          have HP : Hid (X.l.length = Y.l.length → PrN B wr (X, Y)) := fun ql => ⟨hxj, hyj, hblj.1, hblj.2, htoj, ql⟩
          have i5 : (j : Int) < (p.1.l.length : Int) := by omega
          have i6 : (j : Int) < (p.2.l.length : Int) := by omega
          have i7 : (0 : Int) ≤ (j : Int) := by omega
          have HEA : Hid (p.1.a = some ⟨b, o, none⟩) := ea
          rw [ea]
          have hb2 : ∀ o o', Below wr.heap.size wr ((wr.alloc o).alloc o') := fun o o' => ((Below.refl _ _).alloc (Nat.le_refl _) _).alloc (by simp) _
          have HB2 : Hid (∀ o o', Below wr.heap.size wr ((wr.alloc o).alloc o')) := hb2
          clear hp1 hp2 hb1 hto htm ea ea' hX hY hxj hyj htoj hblj hXe hYe hb2
          go_wp2_with fail
          refine (HA.out _ (HB2.out _ _)).mono ?_
          rintro e w2 ⟨br, rfl, hbr, hbz⟩
          have HBR : Hid (br = true ↔ Top X Y) := hbr
          clear hbr
          have HST : Hid (x.tm = y.tm ↔ RestN (us ++ kids (p.1.l.take j) (p.2.l.take j)) ∧ X.tm = Y.tm ∧ (p.1.l.drop (j + 1)).map TT.tm = (p.2.l.drop (j + 1)).map TT.tm) := by
            have h := HJF.out
            rw [List.drop_eq_getElem_cons hlt, List.drop_eq_getElem_cons hlt2, HXY.out.1, HXY.out.2, List.map_cons, List.map_cons, List.cons.injEq] at h
            exact h
          cases br
          · have HNO : Hid (¬ x.tm = y.tm ∧ Below w.heap.size w w2) := by
              have hbw : Below wr.heap.size wr w2 := (HB2.out _ _).trans (hbz.mono (by simp; omega))
              refine ⟨fun h => ?_, HQ.out.2.1.trans (hbw.mono HQ.out.2.1.size)⟩
              have := HBR.out.2 (top_tm (HST.out.1 h).2.1)
              cases this
            clear hbz HQ HA HP c1 d0 d1 d2 d3 d4 d5 d6 e0 e1 e2 e3 e4 e5 e6 HST HBR
            go_wp2_with fail
            refine bodyPost_ret (v := .bool false) ?_ rfl ⟨false, rfl, ⟨fun h => (by cases h), fun h => absurd h HNO.out.1⟩, HNO.out.2⟩
            simp [results, Tryz.results13, go_sem]
          have HTP : Hid (Top X Y) := HBR.out.1 rfl
          have HQL : Hid (X.l.length = Y.l.length) := HTP.out.2.2.1
          have hbw : Below wr.heap.size wr w2 := (HB2.out _ _).trans (hbz.mono (by simp; omega))
          have m6 : w2.cell? ⟨wr.heap.size, 6, none⟩ = some (.slice X.a X.l.length X.c) := cell_later hbz (by simp [go_sem])
          have k6 : w2.cell? ⟨wr.heap.size + 1, 6, none⟩ = some (.slice Y.a Y.l.length Y.c) := cell_later hbz (by simp [go_sem])
          have lw2 : wr.heap.size + 1 < w2.heap.size := World.block_lt_of_cell? _ _ k6
          have HW2 : Hid (StkNo B v (us ++ kids (p.1.l.take j) (p.2.l.take j)) w2 ∧ Below w.heap.size w w2 ∧ PrN B w2 p ∧ w2.cell? ⟨W0.heap.size, 1, none⟩ = some (.slice p.2.a p.2.l.length p.2.c) ∧ v.ownBlock ≠ some W0.heap.size ∧ PrN B w2 (X, Y)) := by
            have hlow : Below B wr w2 := hbw.mono (by omega)
            refine ⟨⟨?_, fun q hq => (HQ.out.1.ins q hq).low hlow⟩, HQ.out.2.1.trans (hbw.mono HQ.out.2.1.size), HQ.out.2.2.1.low hlow, cell_later hbw HQ.out.2.2.2.1, HQ.out.2.2.2.2, (HP.out HQL.out).low hlow⟩
            exact ownsRow_low HQ.out.1.own hbw
          have HSN : Hid (kids (p.1.l.take (j + 1)) (p.2.l.take (j + 1)) = kids (p.1.l.take j) (p.2.l.take j) ++ (if X.l.length = 0 then [] else [(X, Y)])) := by
            have := kids_snoc p.1.l p.2.l j hlt hlt2
            rw [HXY.out.1, HXY.out.2] at this
            exact this
          have HNF : Hid (x.tm = y.tm ↔ RestN (us ++ kids (p.1.l.take (j + 1)) (p.2.l.take (j + 1))) ∧ (p.1.l.drop (j + 1)).map TT.tm = (p.2.l.drop (j + 1)).map TT.tm) := by
            show _ ↔ _
            rw [HST.out, HSN.out, tm_top HTP.out]
            by_cases hz : X.l.length = 0
            · have h1 : X.l = [] := List.length_eq_zero_iff.1 hz
              have h2 : Y.l = [] := List.length_eq_zero_iff.1 (HQL.out ▸ hz)
              rw [if_pos hz, List.append_nil, h1, h2]
              exact ⟨fun h => ⟨h.1, h.2.2⟩, fun h => ⟨h.1, rfl, h.2⟩⟩
            · rw [if_neg hz, ← List.append_assoc, rest_snoc]
              exact ⟨fun h => ⟨⟨h.1, h.2.1⟩, h.2.2⟩, fun h => ⟨h.1.1, h.1.2, h.2⟩⟩
          clear hbz hbw HQ HA HP HST HBR HJF c1 d0 d1 d2 d3 d4 d5 d6 e0 e1 e2 e3 e4 e5 e6
          by_cases hz : X.l.length = 0
          · have i8 : ¬ (0 : Int) < (X.l.length : Int) := by omega
            have HN : Hid (StkNo B v (us ++ kids (p.1.l.take (j + 1)) (p.2.l.take (j + 1))) w2 ∧ Below w.heap.size w w2 ∧ PrN B w2 p ∧ w2.cell? ⟨W0.heap.size, 1, none⟩ = some (.slice p.2.a p.2.l.length p.2.c) ∧ v.ownBlock ≠ some W0.heap.size) := by
              show _ ∧ _
              rw [HSN.out, if_pos hz, List.append_nil]
              exact ⟨HW2.out.1, HW2.out.2.1, HW2.out.2.2.1, HW2.out.2.2.2.1, HW2.out.2.2.2.2.1⟩
            clear hz HW2
            go_wp2_with fail
            rw [← HEA.out]
            go_roundg (p.1.l.length - (j + 1))
            case measure => have := HJ.out; omega
            case rel => exact ⟨j + 1, _, by have := HJ.out; omega, by go_num, rfl, HN, HNF⟩
          · have i8 : (0 : Int) < (X.l.length : Int) := by omega
            obtain ⟨N, hN⟩ : ∃ N, (us ++ kids (p.1.l.take j) (p.2.l.take j)).length = N := ⟨_, rfl⟩
            obtain ⟨xs, hxs⟩ : ∃ xs, cells2 (us ++ kids (p.1.l.take j) (p.2.l.take j)) = xs := ⟨_, rfl⟩
            have hNb : N ≤ 1000001 := by
              have h1 := Stk.len (ps := us ++ kids (p.1.l.take j) (p.2.l.take j))
              have h2 := kids_mass (p.1.l.take j) (p.2.l.take j)
              have h3 := sum_take_le TT.sz p.1.l j
              have h4 := p.1.sz_eq
              have h5 := HM.out.2
              have h6 : mass (us ++ kids (p.1.l.take j) (p.2.l.take j)) = mass us + mass (kids (p.1.l.take j) (p.2.l.take j)) := by simp [mass]
              omega
            have uo : w2.ownsRow B 53 2 v N xs := by rw [← hN, ← hxs]; exact HW2.out.1.own
            have hnew := heap_alloc_new w2 (.cells #[.slice X.a X.l.length X.c, .slice Y.a Y.l.length Y.c] 53)
            have HNX : Hid ((us ++ kids (p.1.l.take j) (p.2.l.take j)).length = N ∧ cells2 (us ++ kids (p.1.l.take j) (p.2.l.take j)) = xs) := ⟨hN, hxs⟩
            have HZ : Hid (X.l.length ≠ 0) := hz
            clear hN hxs hz
            go_wp2_with (at_builtin; refine wpList_append_lies _ rfl _ _ _ rfl B 53 i0 _ 2 48 Tryz.underlying54 hi0 hz0 hz1 hz2 rfl (by omega) v N xs rfl (uo.alloc _) ⟨w2.heap.size, 0, none⟩ 1 1 [.slice X.a X.l.length X.c, .slice Y.a Y.l.length Y.c] rfl rfl (World.news_of_block (cs := #[.slice X.a X.l.length X.c, .slice Y.a Y.l.length Y.c]) (t := 53) (fr := (0, 0)) hnew) (by simp [Value.oneCell']) (by omega) (by unfold maxLen; omega) (by omega) (by simp; omega) (w2.heap.size + 1) (by simp) ?_; intro gg cap1 w3 hown1 hgrow hat hlt3)
            have hov : ∀ q, v.ownBlock = some q → B ≤ q ∧ q < w2.heap.size := uo.lt
            have hlow : Below B w2 w3 := by
              refine ⟨hgrow.os.trans rfl, hgrow.tape.trans rfl, hgrow.output.trans rfl, by have := hgrow.size; simp at this; omega, fun q hq => ?_⟩
              rw [hgrow.block q (by simp; omega) (fun e => by have := (hov q e.symm).1; omega)]
              exact ((Below.refl _ w2).alloc (Nat.le_refl _) _).block q (by omega)
            have hcN : w3.cell? ⟨W0.heap.size, 1, none⟩ = some (.slice p.2.a p.2.l.length p.2.c) := by
              rw [hgrow.cell_far _ (by simp; omega) (Ne.symm HW2.out.2.2.2.2.1)]
              exact cell_later ((Below.refl _ _).alloc (Nat.le_refl _) _) HW2.out.2.2.2.1
            have HN : Hid (StkNo B (.slice (some ⟨gg, 0, none⟩) (N + 1) cap1) (us ++ kids (p.1.l.take (j + 1)) (p.2.l.take (j + 1))) w3 ∧ Below w.heap.size w w3 ∧ PrN B w3 p ∧ w3.cell? ⟨W0.heap.size, 1, none⟩ = some (.slice p.2.a p.2.l.length p.2.c) ∧ (Value.slice (some ⟨gg, 0, none⟩) (N + 1) cap1).ownBlock ≠ some W0.heap.size) := by
              show _ ∧ _
              rw [HSN.out, if_neg HZ.out, ← List.append_assoc]
              refine ⟨⟨?_, fun q hq => ?_⟩, HW2.out.2.1.trans (hlow.mono (by omega)), HW2.out.2.2.1.low hlow, hcN, ?_⟩
              · rw [cells2_append, List.length_append, List.length_singleton, HNX.out.1, HNX.out.2]
                exact hown1
              · rcases List.mem_append.1 hq with hq | hq
                · exact (HW2.out.1.ins q hq).low hlow
                · rcases List.mem_singleton.1 hq with rfl
                  exact HW2.out.2.2.2.2.2.low hlow
              · show some gg ≠ some W0.heap.size
                rcases hat with e | e
                · rw [← e]; exact HW2.out.2.2.2.2.1
                · simp only [ne_eq, Option.some.injEq]; omega
            clear hown1 hgrow hat hlt3 hov hlow hcN HW2 uo hnew m6 k6
            go_wp2_with fail
            rw [← HEA.out]
            go_roundg (p.1.l.length - (j + 1))
            case measure => have := HJ.out; omega
            case rel => exact ⟨j + 1, _, by have := HJ.out; omega, by go_num, rfl, HN, HNF⟩
        · have HN : Hid (StkNo B v (us ++ kids p.1.l p.2.l) wr ∧ Below w.heap.size w wr ∧ mass (us ++ kids p.1.l p.2.l) ≤ 1000001 ∧ (x.tm = y.tm ↔ RestN (us ++ kids p.1.l p.2.l))) := by
            have h1 := HQ.out.1
            rw [List.take_of_length_le (by omega), List.take_of_length_le (by have := HLL.out; omega)] at h1
            have h2 := kids_mass p.1.l p.2.l
            have h4 := p.1.sz_eq
            have h5 := HM.out.2
            have h6 : mass (us ++ kids p.1.l p.2.l) = mass us + mass (kids p.1.l p.2.l) := by simp [mass]
            have h7 := HJF.out
            rw [List.take_of_length_le (by omega), List.take_of_length_le (by have := HLL.out; omega), List.drop_of_length_le (by omega), List.drop_of_length_le (by have := HLL.out; omega)] at h7
            exact ⟨h1, HQ.out.2.1, by omega, h7.trans ⟨fun h => h.1, fun h => ⟨h, rfl⟩⟩⟩
          clear HQ HJF
          go_wp2_with fail
          go_roundg (mass (us ++ kids p.1.l p.2.l))
          case measure =>
            have h2 := kids_mass p.1.l p.2.l
            have h4 := p.1.sz_eq
            have h5 := HM.out.1
            have h6 : mass (us ++ kids p.1.l p.2.l) = mass us + mass (kids p.1.l p.2.l) := by simp [mass]
            omega
          case rel => exact ⟨_, _, rfl, rfl, HN⟩
end Go.Proofs.YtnddkmccagiclaaGreatDoor

/-
  What the calls of (*reader).readType and (*reader).readTypeInBrackets do: the type that the words tell, or something went wrong.
-/
namespace Go.Proofs.YtnddkmccagiclaaGreatDoor
open Go.RowKit

/-- The state behind a step: the words left, or none and something went wrong. -/
def After (R : Nat) (b : Bool) (o : Option (List ByteArray)) (w' : World) : Prop := (∃ r, o = some r ∧ RS R r b w') ∨ (o = none ∧ RS R [] true w')

theorem want_any (R : Nat) (word : ByteArray) (hw : (⟨#[]⟩ : ByteArray) ≠ word) (ws : List ByteArray) (b : Bool) (w : World) (h : RS R ws b w) :
    Calls Tryz.prog 85 #[.pointer (some ⟨R, 0, none⟩), .string word] w fun e w' => e = .returned (.tuple #[]) ∧ After R b (behind word ws) w' ∧ Kept R none w w' := by
  cases ws with
  | nil =>
    refine (want_nil R word hw b w h).mono ?_
    rintro e w' ⟨rfl, hr, hk⟩
    exact ⟨rfl, .inr ⟨rfl, hr⟩, hk⟩
  | cons x r =>
    refine (want_walk R x word r b w h).mono ?_
    rintro e w' ⟨rfl, ⟨hx, hr⟩ | ⟨hx, hr⟩, hk⟩
    · exact ⟨rfl, .inl ⟨r, by simp [behind, hx], hr⟩, hk⟩
    · exact ⟨rfl, .inr ⟨by simp [behind, hx], hr⟩, hk⟩

/-- What the call leaves: a tree, and the state. -/
def TyPost (R : Nat) (b : Bool) (o : Option (Ty × List ByteArray)) (w : World) (e : Ending) (w' : World) : Prop :=
  ∃ t : Tr, e = .returned (.agg #[.int .i64 t.k, .slice t.a t.l.length t.c]) ∧ t.In w' ∧ t.Bl (w.heap.size ≤ ·) ∧ Kept R none w w' ∧ After R b (o.map (·.2)) w' ∧ ∀ p, o = some p → t.ty = p.1

theorem set_two {k : Nat} {w : World} {u v u' v' : Value} (h0 : w.cell? ⟨k, 0, none⟩ = some u') (h1 : w.cell? ⟨k, 1, none⟩ = some v') :
    ((w.setCell ⟨k, 0, none⟩ u).setCell ⟨k, 1, none⟩ v).cell? ⟨k, 0, none⟩ = some u ∧ ((w.setCell ⟨k, 0, none⟩ u).setCell ⟨k, 1, none⟩ v).cell? ⟨k, 1, none⟩ = some v := by
  constructor
  · rw [World.cell?_setCell_other _ _ _ _ (by simp)]
    exact World.cell?_setCell_same _ _ _ h0
  · refine World.cell?_setCell_same _ _ _ (u := v') ?_
    rw [World.cell?_setCell_other _ _ _ _ (by simp)]
    exact h1

theorem kept_set2 {R k : Nat} {w w' : World} {u v : Value} (h : Kept R none w w') (hk : w.heap.size ≤ k) : Kept R none w ((w'.setCell ⟨k, 0, none⟩ u).setCell ⟨k, 1, none⟩ v) :=
  ⟨h.os, h.tape, h.output, by have := h.size; simpa [World.setCell] using this, fun q hq h1 h2 => by
    have hn : q ≠ k := by omega
    rw [Below.heap_setCell _ _ _ _ hn, Below.heap_setCell _ _ _ _ hn]
    exact h.block q hq h1 h2⟩

set_option maxRecDepth 20000 in
set_option maxHeartbeats 1000000 in
/-- (*reader).readType at a word that opens no brackets. -/
theorem readType_word (R n : Nat) (x : ByteArray) (r : List ByteArray) (hx : x ≠ opB) (b : Bool) (w : World) (hg : Gl w) (hR : 12 ≤ R) (h : RS R (x :: r) b w) :
    Calls Tryz.prog 84 #[.pointer (some ⟨R, 0, none⟩)] w (TyPost R b (readTy (n + 1) (x :: r)) w) := by
  have hb0 : Below w.heap.size w (w.alloc (.cells #[.int .i64 0, .slice none 0 0] 24)) := (Below.refl _ _).alloc (Nat.le_refl _) _
  have HN : Hid (Calls Tryz.prog 52 #[.pointer (some ⟨R, 0, none⟩)] (w.alloc (.cells #[.int .i64 0, .slice none 0 0] 24)) fun e w' => e = .returned (.string x) ∧ RS R r b w' ∧ Kept R none (w.alloc (.cells #[.int .i64 0, .slice none 0 0] 24)) w') := next_cons R x r b _ (h.below hb0)
  have hRl := h.lt
  have hq : (x.toList == [40]) = false := by
    have := (Lib.bytes_beq_false_iff x opB).2 hx
    rw [opB, Lib.toList_data ⟨#[40]⟩] at this
    exact this
  have HG : Hid (Gl (w.alloc (.cells #[.int .i64 0, .slice none 0 0] 24))) := hg.below hb0
  have HX : Hid (readTy (n + 1) (x :: r) = (atWord x typeWs 0).map fun (k : Nat) => (Ty.mk (k : Int) [], r)) := by
    have e : readTy (n + 1) (x :: r) = if x = opB then (behind toB r).bind fun r1 => (readTy n r1).bind fun p => (readTy n p.2).bind fun q => (behind clB q.2).map fun r4 => (⟨3, [p.1, q.1]⟩, r4) else (atWord x typeWs 0).map fun (k : Nat) => (Ty.mk (k : Int) [], r) := rfl
    exact e.trans (if_neg hx)
  clear h hx hg
  go_enter Tryz.func84, Tryz.ntmps84
  go_wp2_with fail
  refine HN.out.mono ?_
  rintro e w1 ⟨rfl, hr, hk⟩
  have z0 : w1.cell? ⟨w.heap.size, 0, none⟩ = some (.int .i64 0) := hk.cell (by simp [go_sem]) (by omega)
  have z1 : w1.cell? ⟨w.heap.size, 1, none⟩ = some (.slice none 0 0) := hk.cell (by simp [go_sem]) (by omega)
  have hzb := hk.block w.heap.size (by simp) (by omega) (by simp)
  have z2 : w1.frozen? ⟨w.heap.size, 0, none⟩ = false := (World.frozen?_of_block (a := ⟨w.heap.size, 0, none⟩) hzb).trans (by simp [go_sem])
  have z3 : w1.frozen? ⟨w.heap.size, 1, none⟩ = false := (World.frozen?_of_block (a := ⟨w.heap.size, 1, none⟩) hzb).trans (by simp [go_sem])
  have HG1 : Hid (Gl w1) := HG.out.kept hR hk
  have HK : Hid (Kept R none w w1) := (Kept.of_below hb0).trans hk
  have HR : Hid (RS R r b w1) := hr
  have hs1 : w.heap.size < w1.heap.size := World.block_lt_of_cell? _ _ z0
  clear hk hr hzb HN HG
  cases ha : atWord x typeWs 0 with
  | none =>
    have HT : Hid (Calls Tryz.prog 121 #[.string x] w1 fun e w' => e = .returned (.tuple #[.int .i64 0, .bool false]) ∧ w' = w1) := by
      have := typeKindOf_any x w1 HG1.out
      rw [ha] at this
      exact this
    have HO : Hid (readTy (n + 1) (x :: r) = none) := by show _ = _; rw [HX.out, ha]; rfl
    have HF : Hid (Calls Tryz.prog 82 #[.pointer (some ⟨R, 0, none⟩)] w1 fun e w' => e = .returned (.tuple #[]) ∧ RS R [] true w' ∧ Kept R none w1 w') := fail_any R r b w1 HR.out
    clear ha HX HG1
    go_wp2_with fail
    refine HT.out.mono ?_
    rintro e w2 ⟨rfl, rfl⟩
    go_wp2_with fail
    refine HF.out.mono ?_
    rintro e w3 ⟨rfl, hr3, hk3⟩
    have hne : w.heap.size ≠ R := by omega
    have y0 := hk3.cell z0 hne
    have y1 := hk3.cell z1 hne
    have hyb := hk3.block w.heap.size hs1 hne (by simp)
    have y2 := (World.frozen?_of_block (a := ⟨w.heap.size, 0, none⟩) hyb).trans z2
    have y3 := (World.frozen?_of_block (a := ⟨w.heap.size, 1, none⟩) hyb).trans z3
    have HR3 : Hid (RS R [] true w3 ∧ Kept R none w w3) := ⟨hr3, HK.out.trans hk3⟩
    clear hr3 hk3 hyb z0 z1 z2 z3 HF HT HR HK
    go_wp2_with fail
    refine bodyPost_ret (v := .agg #[.int .i64 0, .slice none 0 0]) ?_ rfl ⟨leaf 0, rfl, leaf_in _ _, leaf_bl _ _, ?_, ?_, ?_⟩
    · have hc := set_two (u := .int .i64 0) (v := .slice none 0 0) y0 y1
      simp [results, Tryz.results84, go_sem, hc.1, hc.2]
    · exact kept_set2 HR3.out.2 (Nat.le_refl _)
    · exact .inr ⟨by rw [HO.out]; rfl, HR3.out.1.set2 (by omega)⟩
    · intro p hp; rw [HO.out] at hp; cases hp
  | some k =>
    have HT : Hid (Calls Tryz.prog 121 #[.string x] w1 fun e w' => e = .returned (.tuple #[.int .i64 (k : Int), .bool true]) ∧ w' = w1) := by
      have := typeKindOf_any x w1 HG1.out
      rw [ha] at this
      exact this
    have HO : Hid (readTy (n + 1) (x :: r) = some (⟨(k : Int), []⟩, r)) := by show _ = _; rw [HX.out, ha]; rfl
    clear ha HX HG1
    go_wp2_with fail
    refine HT.out.mono ?_
    rintro e w2 ⟨rfl, rfl⟩
    go_wp2_with fail
    refine bodyPost_ret (v := .agg #[.int .i64 (k : Int), .slice none 0 0]) ?_ rfl ⟨leaf (k : Int), rfl, leaf_in _ _, leaf_bl _ _, ?_, ?_, ?_⟩
    · have hc := set_two (u := .int .i64 (k : Int)) (v := .slice none 0 0) z0 z1
      simp [results, Tryz.results84, go_sem, hc.1, hc.2]
    · exact kept_set2 HK.out (Nat.le_refl _)
    · exact .inl ⟨r, by rw [HO.out]; rfl, HR.out.set2 (by omega)⟩
    · intro p hp; rw [HO.out] at hp; cases hp; simp [leaf, Tr.ty_mk]
end Go.Proofs.YtnddkmccagiclaaGreatDoor
