/-
  What the call of kind.same answers at two trees that lie in memory, and which pairs it puts off.
-/
import Derived.Test.YtnddkmccagiclaaLot7a88f0409f
import Derived.Test.YtnddkmccagiclaaLotc66cf61471
import Derived.Deep.LoopGhost
namespace Go.Proofs.Ytnddkmccagiclaa
open Go.RowKit

set_option maxHeartbeats 400000 in
theorem same_zeroG (R B : Nat) (x y : Tr) (ps : List Pr) (o : Option Nat) (w : World) (hL : Lst R ps o w) (hx : x.At B w) (hy : y.At B w) (hz : ps.length + x.sz ≤ 1000000000) :
    Calls Try.prog 31 #[.agg #[.int .i64 x.k, .slice x.a x.l.length x.c], .agg #[.int .i64 y.k, .slice y.a y.l.length y.c], .int .i64 0, .pointer (some ⟨R, 0, none⟩)] w (Rel escSame R B 0 x y ps o w) := by
  have hb0 : Below w.heap.size w ((w.alloc (.cells #[.int .i64 x.k, .slice x.a x.l.length x.c] 24)).alloc (.cells #[.int .i64 y.k, .slice y.a y.l.length y.c] 24)) := ((Below.refl _ _).alloc (Nat.le_refl _) _).alloc (by simp) _
  have HL : Hid (Lst R ps o ((w.alloc (.cells #[.int .i64 x.k, .slice x.a x.l.length x.c] 24)).alloc (.cells #[.int .i64 y.k, .slice y.a y.l.length y.c] 24))) := hL.below hb0
  have hn : ps.length + 1 ≤ 1000000000 := by have := x.sz_pos; omega
  go_enter Try.func31, Try.ntmps31
  go_wp2_with fail
  refine (put_lst R ps o ⟨x, y, none⟩ _ HL.out hn).mono ?_
  rintro e w1 ⟨rfl, o', h1, h2, h3⟩
  have HR : Hid (RelS escSame R B 0 x y ps o w true [⟨x, y, none⟩] o' w1) := RelS.off hb0 h1 h2 h3 hx hy
  clear h1 h2 h3 HL
  go_wp2_with fail
  go_ret
  exact ⟨true, _, o', rfl, HR.out⟩

set_option maxHeartbeats 1000000 in
theorem same_stepG (n : Nat) (hn : n ≤ 1000) (R B : Nat) (hB : B ≤ R) (x y : Tr) (ps : List Pr) (o : Option Nat) (w : World) (hL : Lst R ps o w) (hx : x.At B w) (hy : y.At B w) (hz : ps.length + x.sz ≤ 1000000000)
    (ih : Hid (∀ (x y : Tr) (ps : List Pr) (o : Option Nat) (w : World), Lst R ps o w → x.At B w → y.At B w → ps.length + x.sz ≤ 1000000000 → Calls Try.prog 31 #[.agg #[.int .i64 x.k, .slice x.a x.l.length x.c], .agg #[.int .i64 y.k, .slice y.a y.l.length y.c], .int .i64 (n : Int), .pointer (some ⟨R, 0, none⟩)] w (Rel escSame R B n x y ps o w))) :
    Calls Try.prog 31 #[.agg #[.int .i64 x.k, .slice x.a x.l.length x.c], .agg #[.int .i64 y.k, .slice y.a y.l.length y.c], .int .i64 ((n : Int) + 1), .pointer (some ⟨R, 0, none⟩)] w (Rel escSame R B (n + 1) x y ps o w) := by
  have hzz : (((n : Int) + 1) == 0) = false := by simp; omega
  have HE : Hid (escSame x.k y.k = false) := by show _ = _; rfl
  have hlen : x.l.length ≤ 1000000000 := by have := len_sz x.l; have := x.sz_eq; omega
  have hRs : R < w.heap.size := hL.lt
  have HL : Hid (Lst R ps o w) := hL
  have HX : Hid (x.At B w) := hx
  have HY : Hid (y.At B w) := hy
  have HZ : Hid (ps.length + x.sz ≤ 1000000000) := hz
  clear hL hx hy hz
  by_cases ht0 : (x.k == y.k && (x.l.length : Int) == (y.l.length : Int)) = false
  · have ht : Hid ((x.k == y.k && (x.l.length : Int) == (y.l.length : Int)) = false) := ht0
    clear ht0
    go_enter Try.func31, Try.ntmps31
    go_wp2_with fail
    refine (alike_any _ _ _ _ _ _ _ _ false ht.out _).mono ?_
    rintro e w1 ⟨rfl, hb1⟩
    go_wp2_with fail
    go_ret
    exact ⟨false, [], o, rfl, RelS.empty HL.out ((((Below.refl _ _).alloc (Nat.le_refl _) _).alloc (by simp) _).trans (hb1.mono (by simp; omega))) (relY_top escSame x y HE.out ht.out)⟩
  · have ht' : Hid ((x.k == y.k && (x.l.length : Int) == (y.l.length : Int)) = true) := by simpa [Hid] using ht0
    clear ht0
    have hk : Hid (x.k = y.k) := by have h := ht'.out; simp at h; exact h.1
    have hl : Hid (x.l.length = y.l.length) := by have h := ht'.out; simp at h; exact Int.ofNat.inj h.2
    go_enter Try.func31, Try.ntmps31
    go_wp2_with fail
    refine (alike_any _ _ _ _ _ _ _ _ true ht'.out _).mono ?_
    rintro e w1 ⟨rfl, hb1⟩
    have hbw : Below w.heap.size w w1 := (((Below.refl _ _).alloc (Nat.le_refl _) _).alloc (by simp) _).trans (hb1.mono (by simp; omega))
    have p1 : w1.cell? ⟨w.heap.size, 1, none⟩ = some (.slice x.a x.l.length x.c) := cell_later hb1 (by simp [go_sem])
    have p3 : w1.cell? ⟨w.heap.size + 1, 1, none⟩ = some (.slice y.a y.l.length y.c) := cell_later hb1 (by simp [go_sem])
    have hs1 : w.heap.size + 1 < w1.heap.size := World.block_lt_of_cell? _ _ p3
    have HP0 : Hid (Prog escSame R B x y 0 ps [] o o w1 w1) := Prog.start (HL.out.below hbw)
    clear hb1
    go_wp2_with fail
    go_loopw [24] (fun i wr => ∃ j : Nat, j ≤ x.l.length ∧ i = .int .i64 (j : Int) ∧ (∃ qs o', Hid (Prog escSame R B x y j ps qs o o' w1 wr)) ∧ wr.cell? ⟨w.heap.size, 1, none⟩ = some (.slice x.a x.l.length x.c) ∧ wr.cell? ⟨w.heap.size + 1, 1, none⟩ = some (.slice y.a y.l.length y.c)) (fun i _ => x.l.length - (intOf i).toNat)
    case atStart => exact ⟨0, Nat.zero_le _, rfl, ⟨[], o, HP0⟩, p1, p3⟩
    case round =>
      clear p1 p3 HP0
      obtain ⟨j, hj, rfl, ⟨qs, o1, HPR⟩, p1, p3⟩ := hrel
      by_cases hlt : j < x.l.length
      · have hlt' : j < y.l.length := hl.out ▸ hlt
        have hL1 := HL.out.below hbw
        have hbB : Below B w wr := (hbw.mono (by omega)).trans (HPR.out.k.low hL1 hB)
        obtain ⟨b, i, hbl, ea, x0, x1, hxj⟩ := (HX.out.below hbB).part j hlt
        obtain ⟨b', i', hbl', eb, y0, y1, hyj⟩ := (HY.out.below hbB).part j hlt'
        have q1 : wr.cell? ⟨w.heap.size, 1, none⟩ = some (.slice (some ⟨b, i, none⟩) x.l.length x.c) := by rw [← ea]; exact p1
        have q3 : wr.cell? ⟨w.heap.size + 1, 1, none⟩ = some (.slice (some ⟨b', i', none⟩) y.l.length y.c) := by rw [← eb]; exact p3
        have hno : ∀ k, k < w1.heap.size → (k < w.heap.size → k ≤ R) → some k ≠ o1 := by
          intro k hk1 hk2
          refine HPR.out.g.ne hk1 ?_
          intro e
          have := HL.out.own k e.symm
          omega
        have HS : Hid (∀ w2 : World, Kept R o1 wr.drew w2 → (w2.cell? ⟨w.heap.size, 1, none⟩ = some (.slice (some ⟨b, i, none⟩) x.l.length x.c) ∧ w2.cell? ⟨w.heap.size + 1, 1, none⟩ = some (.slice (some ⟨b', i', none⟩) y.l.length y.c) ∧ w2.cell? ⟨b, i + j * 2, none⟩ = some (.int .i64 x.l[j].k) ∧ w2.cell? ⟨b, i + j * 2 + 1, none⟩ = some (.slice x.l[j].a x.l[j].l.length x.l[j].c) ∧ w2.cell? ⟨b', i' + j * 2, none⟩ = some (.int .i64 y.l[j].k) ∧ w2.cell? ⟨b', i' + j * 2 + 1, none⟩ = some (.slice y.l[j].a y.l[j].l.length y.l[j].c))) := by
          intro w2 hk2
          have n0 := hno w.heap.size (by omega) (by omega)
          have n1 := hno (w.heap.size + 1) (by omega) (by omega)
          have n2 := hno b (by omega) (by omega)
          have n3 := hno b' (by omega) (by omega)
          exact ⟨hk2.cell (w := wr.drew) q1 (by omega) n0, hk2.cell (w := wr.drew) q3 (by omega) n1, hk2.cell (w := wr.drew) x0 (by omega) n2, hk2.cell (w := wr.drew) x1 (by omega) n2, hk2.cell (w := wr.drew) y0 (by omega) n3, hk2.cell (w := wr.drew) y1 (by omega) n3⟩
        have HPP : Hid (∀ w2 : World, w2.cell? ⟨w.heap.size, 1, none⟩ = some (.slice (some ⟨b, i, none⟩) x.l.length x.c) → w2.cell? ⟨w.heap.size + 1, 1, none⟩ = some (.slice (some ⟨b', i', none⟩) y.l.length y.c) → w2.cell? ⟨w.heap.size, 1, none⟩ = some (.slice x.a x.l.length x.c) ∧ w2.cell? ⟨w.heap.size + 1, 1, none⟩ = some (.slice y.a y.l.length y.c)) := fun w2 h1 h2 => ⟨by rw [ea]; exact h1, by rw [eb]; exact h2⟩
        have i1 : (j : Int) < (x.l.length : Int) := by omega
        have i2 : (j : Int) < (y.l.length : Int) := by omega
        have i0 : (0 : Int) ≤ (j : Int) := by omega
        have hwr : IntKind.i64.wrap (n : Int) = (n : Int) := wrap_small n hn
        have HC : Hid (Calls Try.prog 31 #[.agg #[.int .i64 x.l[j].k, .slice x.l[j].a x.l[j].l.length x.l[j].c], .agg #[.int .i64 y.l[j].k, .slice y.l[j].a y.l[j].l.length y.l[j].c], .int .i64 (n : Int), .pointer (some ⟨R, 0, none⟩)] wr.drew (Rel escSame R B n x.l[j] y.l[j] (ps ++ qs) o1 wr.drew)) := by
          refine ih.out x.l[j] y.l[j] (ps ++ qs) o1 wr.drew (HPR.out.l.below ((Below.refl _ _).drew)) (hxj.below ((Below.refl _ _).drew)) (hyj.below ((Below.refl _ _).drew)) ?_
          have h1 := HPR.out.s
          have h2 := sz_take x.l j hlt
          have h3 := sz_take_le x.l (j + 1)
          have h4 := x.sz_eq
          have h5 := HZ.out
          have h6 := szs_len qs
          rw [List.length_append]
          omega
        clear p1 p3 ea eb ht' hno hbB hL1 ih hxj hyj
        go_wp2_with fail
        go_region_held3 (fun w' => w'.cell? ⟨w.heap.size, 1, none⟩ = some (.slice (some ⟨b, i, none⟩) x.l.length x.c) ∧ w'.cell? ⟨w.heap.size + 1, 1, none⟩ = some (.slice (some ⟨b', i', none⟩) y.l.length y.c) ∧ w'.cell? ⟨b, i + j * 2, none⟩ = some (.int .i64 x.l[j].k) ∧ w'.cell? ⟨b, i + j * 2 + 1, none⟩ = some (.slice x.l[j].a x.l[j].l.length x.l[j].c) ∧ w'.cell? ⟨b', i' + j * 2, none⟩ = some (.int .i64 y.l[j].k) ∧ w'.cell? ⟨b', i' + j * 2 + 1, none⟩ = some (.slice y.l[j].a y.l[j].l.length y.l[j].c)) (first | exact HS.out _ hr2.k | go_keep) (first | (go_at_call 31; refine HC.out.mono ?_; rintro e w2 ⟨r, qs2, o2, rfl, hr2⟩))
        have HR2 : Hid (RelS escSame R B n x.l[j] y.l[j] (ps ++ qs) o1 wr.drew r qs2 o2 w2) := hr2
        have hpp := HPP.out w2 (HS.out w2 hr2.k).1 (HS.out w2 hr2.k).2.1
        clear hr2 HC HS HPP x0 x1 y0 y1 q1 q3
        cases r
        · have HF : Hid (RelS escSame R B (n + 1) x y ps o w false (qs ++ qs2) o2 w2) := HPR.out.no hB HL.out hbw HE.out hlt hlt' HR2.out
          go_wp2_with fail
          go_ret
          exact ⟨false, _, o2, rfl, HF.out⟩
        · have HF : Hid (Prog escSame R B x y (j + 1) ps (qs ++ qs2) o o2 w1 w2) := HPR.out.step hB (HL.out.below hbw) hlt hlt' HR2.out
          go_wp2_with fail
          go_roundw
          case rel => exact ⟨j + 1, by omega, by go_num, ⟨_, _, HF⟩, hpp.1, hpp.2⟩
          case measure => simp [intOf]; omega
      · have HF : Hid (RelS escSame R B (n + 1) x y ps o w true qs o1 wr) := HPR.out.yes hB HL.out hbw HE.out hk.out hl.out (by omega)
        clear HPR
        go_wp2_with fail
        go_ret
        exact ⟨true, qs, o1, rfl, HF.out⟩

/-- kind.same. -/
theorem same_anyG (n : Nat) (R B : Nat) (hB : B ≤ R) : n ≤ 1000 → ∀ (x y : Tr) (ps : List Pr) (o : Option Nat) (w : World), Lst R ps o w → x.At B w → y.At B w → ps.length + x.sz ≤ 1000000000 → Calls Try.prog 31 #[.agg #[.int .i64 x.k, .slice x.a x.l.length x.c], .agg #[.int .i64 y.k, .slice y.a y.l.length y.c], .int .i64 (n : Int), .pointer (some ⟨R, 0, none⟩)] w (Rel escSame R B n x y ps o w) := by
  induction n with
  | zero =>
    intro _ x y ps o w hL hx hy hz
    exact same_zeroG R B x y ps o w hL hx hy hz
  | succ n ih =>
    intro hn x y ps o w hL hx hy hz
    have e : ((n + 1 : Nat) : Int) = (n : Int) + 1 := by omega
    rw [e]
    exact same_stepG n (by omega) R B hB x y ps o w hL hx hy hz (fun x y ps o w hL hx hy hz => ih (by omega) x y ps o w hL hx hy hz)
end Go.Proofs.Ytnddkmccagiclaa

/-
  What the calls of kind.holds (of kind.same) and kind.Same answer at two trees of not too many nodes.
-/
namespace Go.Proofs.Ytnddkmccagiclaa
open Go.RowKit

set_option maxHeartbeats 1000000 in
theorem holds_31G (x y : Tr) (r : Bool) (hr : Hid (relY escSame x.ty y.ty = r)) (w : World) (hx : x.In w) (hy : y.In w) (hz : x.sz ≤ 100000000) :
    Calls Try.prog 30 #[.func (.func 31) #[] #[], .agg #[.int .i64 x.k, .slice x.a x.l.length x.c], .agg #[.int .i64 y.k, .slice y.a y.l.length y.c]] w fun e w' => e = .returned (.bool r) ∧ Below w.heap.size w w' := by
  have HX : Hid (x.At w.heap.size w) := ⟨hx, hx.bl⟩
  have HY : Hid (y.At w.heap.size w) := ⟨hy, hy.bl⟩
  have HZ : Hid (x.sz ≤ 100000000) := hz
  clear hx hy hz
  go_enter Try.func30, Try.ntmps30
  go_wp2_with fail
  refine (put_lst (w.heap.size + 1 + 1) [] none ⟨x, y, none⟩ _ ⟨⟨.slice none 0 0, by simp [go_sem], World.ownsRow_nil _ _ _ _, rfl⟩, by simp [go_sem]⟩ (by simp)).mono ?_
  rintro e w1 ⟨rfl, o1, hl1, _, hk1⟩
  have hbw : Below w.heap.size w w1 := ((((Below.refl _ _).alloc (Nat.le_refl _) _).alloc (by simp) _).alloc (by simp; omega) _).trans ((hk1.below (fun g e => by cases e) (by simp)).mono (by omega))
  have HO : Hid (Todo escSame (w.heap.size + 1 + 1) x y w x.sz [⟨x, y, none⟩] o1 w1) := by
    refine ⟨hl1, szs_one _, by have := HZ.out; omega, fun q hq => ?_, ⟨fun h q hq => ?_, fun h => h _ (List.mem_singleton.2 rfl)⟩, hbw⟩
    · rcases List.mem_singleton.1 hq with rfl
      exact ⟨rfl, HX.out, HY.out⟩
    · rcases List.mem_singleton.1 hq with rfl
      exact h
  clear hl1 hk1 hbw HX HY
  go_wp2_with fail
  go_loopg [] x.sz (fun k wr => ∃ qs o, Hid (Todo escSame (w.heap.size + 1 + 1) x y w k qs o wr))
  case atStart => exact ⟨_, _, HO⟩
  case round =>
    clear HO
    obtain ⟨qs, o, HT⟩ := hrel
    rcases List.eq_nil_or_concat qs with rfl | ⟨us, q, rfl⟩
    · go_wp2_with fail
      refine (empty_yes (w.heap.size + 1 + 1) o _ HT.out.l).mono ?_
      rintro e w' ⟨rfl, rfl⟩
      have HF : Hid (r = true) := by
        show r = true
        rw [← hr.out]
        exact HT.out.i.2 fun q hq => by cases hq
      go_wp2_with fail
      go_ret
      exact ⟨by rw [HF.out]; rfl, HT.out.b⟩
    · rw [List.concat_eq_append] at HT
      go_wp2_with fail
      refine (empty_no (w.heap.size + 1 + 1) us q o _ HT.out.l).mono ?_
      rintro e w' ⟨rfl, rfl⟩
      have hus : us.length ≤ 1000000000 := by
        have h1 := szs_len us
        have h2 := HT.out.s
        have h3 := HT.out.z
        rw [szs_append] at h2
        omega
      go_wp2_with fail
      refine (take_lst (w.heap.size + 1 + 1) us q o _ HT.out.l (by omega)).mono ?_
      rintro e w2 ⟨rfl, hl2, hk2⟩
      have hp : q.p = none := (HT.out.q q (by simp)).1
      rw [hp]
      clear hp
      have HW : Hid (∀ X, Below w2.heap.size w2 (w2.alloc X) ∧ Lst (w.heap.size + 1 + 1) us o (w2.alloc X)) := fun X => ⟨(Below.refl _ _).alloc (Nat.le_refl _) _, hl2.below ((Below.refl _ _).alloc (Nat.le_refl _) _)⟩
      have HK2 : Hid (Kept (w.heap.size + 1 + 1) none w' w2) := hk2
      have hw2 : w.heap.size + 1 + 1 < w2.heap.size := hl2.lt
      have HA : Hid (∀ X, q.x.At w.heap.size (w2.alloc X) ∧ q.y.At w.heap.size (w2.alloc X)) := by
        intro X
        obtain ⟨_, h1, h2⟩ := HT.out.q q (by simp)
        have hb : Below w.heap.size w (w2.alloc X) := (HT.out.b.trans ((hk2.below (fun g e => by cases e) (Nat.le_of_lt HT.out.l.lt)).mono (by omega))).alloc (by omega) X
        exact ⟨h1.below hb, h2.below hb⟩
      clear hl2 hk2
      go_wp2_with fail
      refine (same_anyG 1000 (w.heap.size + 1 + 1) w.heap.size (by omega) (Nat.le_refl _) q.x q.y us o _ (HW.out _).2 (HA.out _).1 (HA.out _).2 (by have h1 := szs_len us; have h2 := HT.out.s; have h3 := HT.out.z; rw [szs_append, szs_one] at h2; omega)).mono ?_
      rintro e w5 ⟨r', qs, o2, rfl, hr5⟩
      have HR5 : Hid (RelS escSame (w.heap.size + 1 + 1) w.heap.size (999 + 1) q.x q.y us o (w2.alloc (.cells #[.int .i64 q.x.k, .slice q.x.a q.x.l.length q.x.c, .int .i64 q.y.k, .slice q.y.a q.y.l.length q.y.c, .pointer none] 41)) r' qs o2 w5) := hr5
      clear hr5
      cases r'
      · have HF : Hid (r = false ∧ Below w.heap.size w w5) := by
          have h := HT.out.no (by omega) HK2.out (HW.out _).1 (HW.out _).2 HR5.out
          exact ⟨hr.out ▸ h.1, h.2⟩
        clear HR5 HW HA HK2 HT
        go_wp2_with fail
        go_ret
        exact ⟨by rw [HF.out.1]; rfl, HF.out.2⟩
      · have HF : Hid (Todo escSame (w.heap.size + 1 + 1) x y w (szs (us ++ qs)) (us ++ qs) o2 w5 ∧ szs (us ++ qs) < gk) := HT.out.step (by omega) HK2.out (HW.out _).1 (HW.out _).2 HR5.out
        clear HR5 HW HA HK2 HT
        go_wp2_with fail
        go_roundg (szs (us ++ qs))
        case measure => exact HF.out.2
        case rel => exact ⟨_, _, HF.out.1⟩

set_option maxHeartbeats 400000 in
/-- kind.Same. -/
theorem same_wholeG (x y : Tr) (w : World) (hx : x.In w) (hy : y.In w) (hz : x.sz ≤ 100000000) :
    Calls Try.prog 10 #[.agg #[.int .i64 x.k, .slice x.a x.l.length x.c], .agg #[.int .i64 y.k, .slice y.a y.l.length y.c]] w fun e w' => e = .returned (.bool (relY escSame x.ty y.ty)) ∧ Below w.heap.size w w' := by
  obtain ⟨r, hr⟩ : ∃ r, relY escSame x.ty y.ty = r := ⟨_, rfl⟩
  have HH : Hid (∀ (w : World), x.In w → y.In w → Calls Try.prog 30 #[.func (.func 31) #[] #[], .agg #[.int .i64 x.k, .slice x.a x.l.length x.c], .agg #[.int .i64 y.k, .slice y.a y.l.length y.c]] w fun e w' => e = .returned (.bool r) ∧ Below w.heap.size w w') := fun w h1 h2 => holds_31G x y r hr w h1 h2 hz
  rw [hr]
  clear hr
  go_enter Try.func10, Try.ntmps10
  go_wp2_with fail
  have hb0 : Below w.heap.size w ((w.alloc (Obj.cells #[.int .i64 x.k, .slice x.a x.l.length x.c] 24)).alloc (Obj.cells #[.int .i64 y.k, .slice y.a y.l.length y.c] 24)) := ((Below.refl _ _).alloc (Nat.le_refl _) _).alloc (by simp) _
  refine (HH.out _ (hx.below hb0) (hy.below hb0)).mono ?_
  rintro e w1 ⟨rfl, hb1⟩
  have hb2 := hb0.trans (hb1.mono (by simp; omega))
  clear hb0 hb1
  go_wp2_with fail
  go_ret
  exact ⟨rfl, hb2⟩
end Go.Proofs.Ytnddkmccagiclaa

/-
  What the call of kind.fits answers at two trees that lie in memory, and which pairs it puts off.
-/
namespace Go.Proofs.Ytnddkmccagiclaa
open Go.RowKit

set_option maxHeartbeats 400000 in
theorem fits_zeroG (R B : Nat) (x y : Tr) (ps : List Pr) (o : Option Nat) (w : World) (hL : Lst R ps o w) (hx : x.At B w) (hy : y.At B w) (hz : ps.length + x.sz ≤ 1000000000) :
    Calls Try.prog 32 #[.agg #[.int .i64 x.k, .slice x.a x.l.length x.c], .agg #[.int .i64 y.k, .slice y.a y.l.length y.c], .int .i64 0, .pointer (some ⟨R, 0, none⟩)] w (Rel escFits R B 0 x y ps o w) := by
  have hb0 : Below w.heap.size w ((w.alloc (.cells #[.int .i64 x.k, .slice x.a x.l.length x.c] 24)).alloc (.cells #[.int .i64 y.k, .slice y.a y.l.length y.c] 24)) := ((Below.refl _ _).alloc (Nat.le_refl _) _).alloc (by simp) _
  have HL : Hid (Lst R ps o ((w.alloc (.cells #[.int .i64 x.k, .slice x.a x.l.length x.c] 24)).alloc (.cells #[.int .i64 y.k, .slice y.a y.l.length y.c] 24))) := hL.below hb0
  have hn : ps.length + 1 ≤ 1000000000 := by have := x.sz_pos; omega
  go_enter Try.func32, Try.ntmps32
  go_wp2_with fail
  refine (put_lst R ps o ⟨x, y, none⟩ _ HL.out hn).mono ?_
  rintro e w1 ⟨rfl, o', h1, h2, h3⟩
  have HR : Hid (RelS escFits R B 0 x y ps o w true [⟨x, y, none⟩] o' w1) := RelS.off hb0 h1 h2 h3 hx hy
  clear h1 h2 h3 HL
  go_wp2_with fail
  go_ret
  exact ⟨true, _, o', rfl, HR.out⟩

set_option maxHeartbeats 400000 in
theorem fits_leftG (n : Nat) (hn : n ≤ 1000) (k' : Int) (a a' : Option Addr) (m m' c c' : Nat) (rp : Option Addr) (w : World) :
    Calls Try.prog 32 #[.agg #[.int .i64 0, .slice a m c], .agg #[.int .i64 k', .slice a' m' c'], .int .i64 ((n : Int) + 1), .pointer rp] w fun e w' => e = .returned (.bool true) ∧ Below w.heap.size w w' := by
  have hz : (((n : Int) + 1) == 0) = false := by simp; omega
  go_enter Try.func32, Try.ntmps32
  go_wp2_with fail
  go_ret
  exact ⟨rfl, ((Below.refl _ _).alloc (Nat.le_refl _) _).alloc (by simp) _⟩

set_option maxHeartbeats 400000 in
theorem fits_rightG (n : Nat) (hn : n ≤ 1000) (k : Int) (hk : (k == 0) = false) (a a' : Option Addr) (m m' c c' : Nat) (rp : Option Addr) (w : World) :
    Calls Try.prog 32 #[.agg #[.int .i64 k, .slice a m c], .agg #[.int .i64 0, .slice a' m' c'], .int .i64 ((n : Int) + 1), .pointer rp] w fun e w' => e = .returned (.bool true) ∧ Below w.heap.size w w' := by
  have hz : (((n : Int) + 1) == 0) = false := by simp; omega
  go_enter Try.func32, Try.ntmps32
  go_wp2_with fail
  go_ret
  exact ⟨rfl, ((Below.refl _ _).alloc (Nat.le_refl _) _).alloc (by simp) _⟩

set_option maxHeartbeats 1000000 in
theorem fits_stepG (n : Nat) (hn : n ≤ 1000) (R B : Nat) (hB : B ≤ R) (x y : Tr) (ps : List Pr) (o : Option Nat) (w : World) (hL : Lst R ps o w) (hx : x.At B w) (hy : y.At B w) (hz : ps.length + x.sz ≤ 1000000000) (e1 : (x.k == 0) = false) (e2 : (y.k == 0) = false)
    (ih : Hid (∀ (x y : Tr) (ps : List Pr) (o : Option Nat) (w : World), Lst R ps o w → x.At B w → y.At B w → ps.length + x.sz ≤ 1000000000 → Calls Try.prog 32 #[.agg #[.int .i64 x.k, .slice x.a x.l.length x.c], .agg #[.int .i64 y.k, .slice y.a y.l.length y.c], .int .i64 (n : Int), .pointer (some ⟨R, 0, none⟩)] w (Rel escFits R B n x y ps o w))) :
    Calls Try.prog 32 #[.agg #[.int .i64 x.k, .slice x.a x.l.length x.c], .agg #[.int .i64 y.k, .slice y.a y.l.length y.c], .int .i64 ((n : Int) + 1), .pointer (some ⟨R, 0, none⟩)] w (Rel escFits R B (n + 1) x y ps o w) := by
  have hzz : (((n : Int) + 1) == 0) = false := by simp; omega
  have HE : Hid (escFits x.k y.k = false) := by show _ = _; simp [escFits, e1, e2]
  have hlen : x.l.length ≤ 1000000000 := by have := len_sz x.l; have := x.sz_eq; omega
  have hRs : R < w.heap.size := hL.lt
  have HL : Hid (Lst R ps o w) := hL
  have HX : Hid (x.At B w) := hx
  have HY : Hid (y.At B w) := hy
  have HZ : Hid (ps.length + x.sz ≤ 1000000000) := hz
  clear hL hx hy hz
  by_cases ht0 : (x.k == y.k && (x.l.length : Int) == (y.l.length : Int)) = false
  · have ht : Hid ((x.k == y.k && (x.l.length : Int) == (y.l.length : Int)) = false) := ht0
    clear ht0
    go_enter Try.func32, Try.ntmps32
    go_wp2_with fail
    refine (alike_any _ _ _ _ _ _ _ _ false ht.out _).mono ?_
    rintro e w1 ⟨rfl, hb1⟩
    go_wp2_with fail
    go_ret
    exact ⟨false, [], o, rfl, RelS.empty HL.out ((((Below.refl _ _).alloc (Nat.le_refl _) _).alloc (by simp) _).trans (hb1.mono (by simp; omega))) (relY_top escFits x y HE.out ht.out)⟩
  · have ht' : Hid ((x.k == y.k && (x.l.length : Int) == (y.l.length : Int)) = true) := by simpa [Hid] using ht0
    clear ht0
    have hk : Hid (x.k = y.k) := by have h := ht'.out; simp at h; exact h.1
    have hl : Hid (x.l.length = y.l.length) := by have h := ht'.out; simp at h; exact Int.ofNat.inj h.2
    go_enter Try.func32, Try.ntmps32
    go_wp2_with fail
    refine (alike_any _ _ _ _ _ _ _ _ true ht'.out _).mono ?_
    rintro e w1 ⟨rfl, hb1⟩
    have hbw : Below w.heap.size w w1 := (((Below.refl _ _).alloc (Nat.le_refl _) _).alloc (by simp) _).trans (hb1.mono (by simp; omega))
    have p1 : w1.cell? ⟨w.heap.size, 1, none⟩ = some (.slice x.a x.l.length x.c) := cell_later hb1 (by simp [go_sem])
    have p3 : w1.cell? ⟨w.heap.size + 1, 1, none⟩ = some (.slice y.a y.l.length y.c) := cell_later hb1 (by simp [go_sem])
    have hs1 : w.heap.size + 1 < w1.heap.size := World.block_lt_of_cell? _ _ p3
    have HP0 : Hid (Prog escFits R B x y 0 ps [] o o w1 w1) := Prog.start (HL.out.below hbw)
    clear hb1
    go_wp2_with fail
    go_loopw [32] (fun i wr => ∃ j : Nat, j ≤ x.l.length ∧ i = .int .i64 (j : Int) ∧ (∃ qs o', Hid (Prog escFits R B x y j ps qs o o' w1 wr)) ∧ wr.cell? ⟨w.heap.size, 1, none⟩ = some (.slice x.a x.l.length x.c) ∧ wr.cell? ⟨w.heap.size + 1, 1, none⟩ = some (.slice y.a y.l.length y.c)) (fun i _ => x.l.length - (intOf i).toNat)
    case atStart => exact ⟨0, Nat.zero_le _, rfl, ⟨[], o, HP0⟩, p1, p3⟩
    case round =>
      clear p1 p3 HP0
      obtain ⟨j, hj, rfl, ⟨qs, o1, HPR⟩, p1, p3⟩ := hrel
      by_cases hlt : j < x.l.length
      · have hlt' : j < y.l.length := hl.out ▸ hlt
        have hL1 := HL.out.below hbw
        have hbB : Below B w wr := (hbw.mono (by omega)).trans (HPR.out.k.low hL1 hB)
        obtain ⟨b, i, hbl, ea, x0, x1, hxj⟩ := (HX.out.below hbB).part j hlt
        obtain ⟨b', i', hbl', eb, y0, y1, hyj⟩ := (HY.out.below hbB).part j hlt'
        have q1 : wr.cell? ⟨w.heap.size, 1, none⟩ = some (.slice (some ⟨b, i, none⟩) x.l.length x.c) := by rw [← ea]; exact p1
        have q3 : wr.cell? ⟨w.heap.size + 1, 1, none⟩ = some (.slice (some ⟨b', i', none⟩) y.l.length y.c) := by rw [← eb]; exact p3
        have hno : ∀ k, k < w1.heap.size → (k < w.heap.size → k ≤ R) → some k ≠ o1 := by
          intro k hk1 hk2
          refine HPR.out.g.ne hk1 ?_
          intro e
          have := HL.out.own k e.symm
          omega
        have HS : Hid (∀ w2 : World, Kept R o1 wr.drew w2 → (w2.cell? ⟨w.heap.size, 1, none⟩ = some (.slice (some ⟨b, i, none⟩) x.l.length x.c) ∧ w2.cell? ⟨w.heap.size + 1, 1, none⟩ = some (.slice (some ⟨b', i', none⟩) y.l.length y.c) ∧ w2.cell? ⟨b, i + j * 2, none⟩ = some (.int .i64 x.l[j].k) ∧ w2.cell? ⟨b, i + j * 2 + 1, none⟩ = some (.slice x.l[j].a x.l[j].l.length x.l[j].c) ∧ w2.cell? ⟨b', i' + j * 2, none⟩ = some (.int .i64 y.l[j].k) ∧ w2.cell? ⟨b', i' + j * 2 + 1, none⟩ = some (.slice y.l[j].a y.l[j].l.length y.l[j].c))) := by
          intro w2 hk2
          have n0 := hno w.heap.size (by omega) (by omega)
          have n1 := hno (w.heap.size + 1) (by omega) (by omega)
          have n2 := hno b (by omega) (by omega)
          have n3 := hno b' (by omega) (by omega)
          exact ⟨hk2.cell (w := wr.drew) q1 (by omega) n0, hk2.cell (w := wr.drew) q3 (by omega) n1, hk2.cell (w := wr.drew) x0 (by omega) n2, hk2.cell (w := wr.drew) x1 (by omega) n2, hk2.cell (w := wr.drew) y0 (by omega) n3, hk2.cell (w := wr.drew) y1 (by omega) n3⟩
        have HPP : Hid (∀ w2 : World, w2.cell? ⟨w.heap.size, 1, none⟩ = some (.slice (some ⟨b, i, none⟩) x.l.length x.c) → w2.cell? ⟨w.heap.size + 1, 1, none⟩ = some (.slice (some ⟨b', i', none⟩) y.l.length y.c) → w2.cell? ⟨w.heap.size, 1, none⟩ = some (.slice x.a x.l.length x.c) ∧ w2.cell? ⟨w.heap.size + 1, 1, none⟩ = some (.slice y.a y.l.length y.c)) := fun w2 h1 h2 => ⟨by rw [ea]; exact h1, by rw [eb]; exact h2⟩
        have i1 : (j : Int) < (x.l.length : Int) := by omega
        have i2 : (j : Int) < (y.l.length : Int) := by omega
        have i0 : (0 : Int) ≤ (j : Int) := by omega
        have hwr : IntKind.i64.wrap (n : Int) = (n : Int) := wrap_small n hn
        have HC : Hid (Calls Try.prog 32 #[.agg #[.int .i64 x.l[j].k, .slice x.l[j].a x.l[j].l.length x.l[j].c], .agg #[.int .i64 y.l[j].k, .slice y.l[j].a y.l[j].l.length y.l[j].c], .int .i64 (n : Int), .pointer (some ⟨R, 0, none⟩)] wr.drew (Rel escFits R B n x.l[j] y.l[j] (ps ++ qs) o1 wr.drew)) := by
          refine ih.out x.l[j] y.l[j] (ps ++ qs) o1 wr.drew (HPR.out.l.below ((Below.refl _ _).drew)) (hxj.below ((Below.refl _ _).drew)) (hyj.below ((Below.refl _ _).drew)) ?_
          have h1 := HPR.out.s
          have h2 := sz_take x.l j hlt
          have h3 := sz_take_le x.l (j + 1)
          have h4 := x.sz_eq
          have h5 := HZ.out
          have h6 := szs_len qs
          rw [List.length_append]
          omega
        clear p1 p3 ea eb ht' hno hbB hL1 ih hxj hyj
        go_wp2_with fail
        go_region_held3 (fun w' => w'.cell? ⟨w.heap.size, 1, none⟩ = some (.slice (some ⟨b, i, none⟩) x.l.length x.c) ∧ w'.cell? ⟨w.heap.size + 1, 1, none⟩ = some (.slice (some ⟨b', i', none⟩) y.l.length y.c) ∧ w'.cell? ⟨b, i + j * 2, none⟩ = some (.int .i64 x.l[j].k) ∧ w'.cell? ⟨b, i + j * 2 + 1, none⟩ = some (.slice x.l[j].a x.l[j].l.length x.l[j].c) ∧ w'.cell? ⟨b', i' + j * 2, none⟩ = some (.int .i64 y.l[j].k) ∧ w'.cell? ⟨b', i' + j * 2 + 1, none⟩ = some (.slice y.l[j].a y.l[j].l.length y.l[j].c)) (first | exact HS.out _ hr2.k | go_keep) (first | (go_at_call 32; refine HC.out.mono ?_; rintro e w2 ⟨r, qs2, o2, rfl, hr2⟩))
        have HR2 : Hid (RelS escFits R B n x.l[j] y.l[j] (ps ++ qs) o1 wr.drew r qs2 o2 w2) := hr2
        have hpp := HPP.out w2 (HS.out w2 hr2.k).1 (HS.out w2 hr2.k).2.1
        clear hr2 HC HS HPP x0 x1 y0 y1 q1 q3
        cases r
        · have HF : Hid (RelS escFits R B (n + 1) x y ps o w false (qs ++ qs2) o2 w2) := HPR.out.no hB HL.out hbw HE.out hlt hlt' HR2.out
          go_wp2_with fail
          go_ret
          exact ⟨false, _, o2, rfl, HF.out⟩
        · have HF : Hid (Prog escFits R B x y (j + 1) ps (qs ++ qs2) o o2 w1 w2) := HPR.out.step hB (HL.out.below hbw) hlt hlt' HR2.out
          go_wp2_with fail
          go_roundw
          case rel => exact ⟨j + 1, by omega, by go_num, ⟨_, _, HF⟩, hpp.1, hpp.2⟩
          case measure => simp [intOf]; omega
      · have HF : Hid (RelS escFits R B (n + 1) x y ps o w true qs o1 wr) := HPR.out.yes hB HL.out hbw HE.out hk.out hl.out (by omega)
        clear HPR
        go_wp2_with fail
        go_ret
        exact ⟨true, qs, o1, rfl, HF.out⟩

/-- kind.fits. -/
theorem fits_anyG (n : Nat) (R B : Nat) (hB : B ≤ R) : n ≤ 1000 → ∀ (x y : Tr) (ps : List Pr) (o : Option Nat) (w : World), Lst R ps o w → x.At B w → y.At B w → ps.length + x.sz ≤ 1000000000 → Calls Try.prog 32 #[.agg #[.int .i64 x.k, .slice x.a x.l.length x.c], .agg #[.int .i64 y.k, .slice y.a y.l.length y.c], .int .i64 (n : Int), .pointer (some ⟨R, 0, none⟩)] w (Rel escFits R B n x y ps o w) := by
  induction n with
  | zero =>
    intro _ x y ps o w hL hx hy hz
    exact fits_zeroG R B x y ps o w hL hx hy hz
  | succ n ih =>
    intro hn x y ps o w hL hx hy hz
    have e : ((n + 1 : Nat) : Int) = (n : Int) + 1 := by omega
    rw [e]
    by_cases k1 : x.k = 0
    · have hr := relY_esc escFits x y (by simp [escFits, k1])
      rw [k1]
      refine (fits_leftG n (by omega) y.k x.a y.a _ _ _ _ _ w).mono ?_
      rintro e w' ⟨rfl, hb⟩
      exact ⟨true, [], o, rfl, RelS.empty hL hb hr⟩
    by_cases k2 : y.k = 0
    · have hr := relY_esc escFits x y (by simp [escFits, k2])
      rw [k2]
      refine (fits_rightG n (by omega) x.k (by simpa using k1) x.a y.a _ _ _ _ _ w).mono ?_
      rintro e w' ⟨rfl, hb⟩
      exact ⟨true, [], o, rfl, RelS.empty hL hb hr⟩
    exact fits_stepG n (by omega) R B hB x y ps o w hL hx hy hz (by simpa using k1) (by simpa using k2) (fun x y ps o w hL hx hy hz => ih (by omega) x y ps o w hL hx hy hz)
end Go.Proofs.Ytnddkmccagiclaa

/-
  What the calls of kind.holds (of kind.fits) and kind.Fits answer at two trees of not too many nodes.
-/
namespace Go.Proofs.Ytnddkmccagiclaa
open Go.RowKit

set_option maxHeartbeats 1000000 in
theorem holds_32G (x y : Tr) (r : Bool) (hr : Hid (relY escFits x.ty y.ty = r)) (w : World) (hx : x.In w) (hy : y.In w) (hz : x.sz ≤ 100000000) :
    Calls Try.prog 30 #[.func (.func 32) #[] #[], .agg #[.int .i64 x.k, .slice x.a x.l.length x.c], .agg #[.int .i64 y.k, .slice y.a y.l.length y.c]] w fun e w' => e = .returned (.bool r) ∧ Below w.heap.size w w' := by
  have HX : Hid (x.At w.heap.size w) := ⟨hx, hx.bl⟩
  have HY : Hid (y.At w.heap.size w) := ⟨hy, hy.bl⟩
  have HZ : Hid (x.sz ≤ 100000000) := hz
  clear hx hy hz
  go_enter Try.func30, Try.ntmps30
  go_wp2_with fail
  refine (put_lst (w.heap.size + 1 + 1) [] none ⟨x, y, none⟩ _ ⟨⟨.slice none 0 0, by simp [go_sem], World.ownsRow_nil _ _ _ _, rfl⟩, by simp [go_sem]⟩ (by simp)).mono ?_
  rintro e w1 ⟨rfl, o1, hl1, _, hk1⟩
  have hbw : Below w.heap.size w w1 := ((((Below.refl _ _).alloc (Nat.le_refl _) _).alloc (by simp) _).alloc (by simp; omega) _).trans ((hk1.below (fun g e => by cases e) (by simp)).mono (by omega))
  have HO : Hid (Todo escFits (w.heap.size + 1 + 1) x y w x.sz [⟨x, y, none⟩] o1 w1) := by
    refine ⟨hl1, szs_one _, by have := HZ.out; omega, fun q hq => ?_, ⟨fun h q hq => ?_, fun h => h _ (List.mem_singleton.2 rfl)⟩, hbw⟩
    · rcases List.mem_singleton.1 hq with rfl
      exact ⟨rfl, HX.out, HY.out⟩
    · rcases List.mem_singleton.1 hq with rfl
      exact h
  clear hl1 hk1 hbw HX HY
  go_wp2_with fail
  go_loopg [] x.sz (fun k wr => ∃ qs o, Hid (Todo escFits (w.heap.size + 1 + 1) x y w k qs o wr))
  case atStart => exact ⟨_, _, HO⟩
  case round =>
    clear HO
    obtain ⟨qs, o, HT⟩ := hrel
    rcases List.eq_nil_or_concat qs with rfl | ⟨us, q, rfl⟩
    · go_wp2_with fail
      refine (empty_yes (w.heap.size + 1 + 1) o _ HT.out.l).mono ?_
      rintro e w' ⟨rfl, rfl⟩
      have HF : Hid (r = true) := by
        show r = true
        rw [← hr.out]
        exact HT.out.i.2 fun q hq => by cases hq
      go_wp2_with fail
      go_ret
      exact ⟨by rw [HF.out]; rfl, HT.out.b⟩
    · rw [List.concat_eq_append] at HT
      go_wp2_with fail
      refine (empty_no (w.heap.size + 1 + 1) us q o _ HT.out.l).mono ?_
      rintro e w' ⟨rfl, rfl⟩
      have hus : us.length ≤ 1000000000 := by
        have h1 := szs_len us
        have h2 := HT.out.s
        have h3 := HT.out.z
        rw [szs_append] at h2
        omega
      go_wp2_with fail
      refine (take_lst (w.heap.size + 1 + 1) us q o _ HT.out.l (by omega)).mono ?_
      rintro e w2 ⟨rfl, hl2, hk2⟩
      have hp : q.p = none := (HT.out.q q (by simp)).1
      rw [hp]
      clear hp
      have HW : Hid (∀ X, Below w2.heap.size w2 (w2.alloc X) ∧ Lst (w.heap.size + 1 + 1) us o (w2.alloc X)) := fun X => ⟨(Below.refl _ _).alloc (Nat.le_refl _) _, hl2.below ((Below.refl _ _).alloc (Nat.le_refl _) _)⟩
      have HK2 : Hid (Kept (w.heap.size + 1 + 1) none w' w2) := hk2
      have hw2 : w.heap.size + 1 + 1 < w2.heap.size := hl2.lt
      have HA : Hid (∀ X, q.x.At w.heap.size (w2.alloc X) ∧ q.y.At w.heap.size (w2.alloc X)) := by
        intro X
        obtain ⟨_, h1, h2⟩ := HT.out.q q (by simp)
        have hb : Below w.heap.size w (w2.alloc X) := (HT.out.b.trans ((hk2.below (fun g e => by cases e) (Nat.le_of_lt HT.out.l.lt)).mono (by omega))).alloc (by omega) X
        exact ⟨h1.below hb, h2.below hb⟩
      clear hl2 hk2
      go_wp2_with fail
      refine (fits_anyG 1000 (w.heap.size + 1 + 1) w.heap.size (by omega) (Nat.le_refl _) q.x q.y us o _ (HW.out _).2 (HA.out _).1 (HA.out _).2 (by have h1 := szs_len us; have h2 := HT.out.s; have h3 := HT.out.z; rw [szs_append, szs_one] at h2; omega)).mono ?_
      rintro e w5 ⟨r', qs, o2, rfl, hr5⟩
      have HR5 : Hid (RelS escFits (w.heap.size + 1 + 1) w.heap.size (999 + 1) q.x q.y us o (w2.alloc (.cells #[.int .i64 q.x.k, .slice q.x.a q.x.l.length q.x.c, .int .i64 q.y.k, .slice q.y.a q.y.l.length q.y.c, .pointer none] 41)) r' qs o2 w5) := hr5
      clear hr5
      cases r'
      · have HF : Hid (r = false ∧ Below w.heap.size w w5) := by
          have h := HT.out.no (by omega) HK2.out (HW.out _).1 (HW.out _).2 HR5.out
          exact ⟨hr.out ▸ h.1, h.2⟩
        clear HR5 HW HA HK2 HT
        go_wp2_with fail
        go_ret
        exact ⟨by rw [HF.out.1]; rfl, HF.out.2⟩
      · have HF : Hid (Todo escFits (w.heap.size + 1 + 1) x y w (szs (us ++ qs)) (us ++ qs) o2 w5 ∧ szs (us ++ qs) < gk) := HT.out.step (by omega) HK2.out (HW.out _).1 (HW.out _).2 HR5.out
        clear HR5 HW HA HK2 HT
        go_wp2_with fail
        go_roundg (szs (us ++ qs))
        case measure => exact HF.out.2
        case rel => exact ⟨_, _, HF.out.1⟩

set_option maxHeartbeats 400000 in
/-- kind.Fits. -/
theorem fits_wholeG (x y : Tr) (w : World) (hx : x.In w) (hy : y.In w) (hz : x.sz ≤ 100000000) :
    Calls Try.prog 17 #[.agg #[.int .i64 x.k, .slice x.a x.l.length x.c], .agg #[.int .i64 y.k, .slice y.a y.l.length y.c]] w fun e w' => e = .returned (.bool (relY escFits x.ty y.ty)) ∧ Below w.heap.size w w' := by
  obtain ⟨r, hr⟩ : ∃ r, relY escFits x.ty y.ty = r := ⟨_, rfl⟩
  have HH : Hid (∀ (w : World), x.In w → y.In w → Calls Try.prog 30 #[.func (.func 32) #[] #[], .agg #[.int .i64 x.k, .slice x.a x.l.length x.c], .agg #[.int .i64 y.k, .slice y.a y.l.length y.c]] w fun e w' => e = .returned (.bool r) ∧ Below w.heap.size w w') := fun w h1 h2 => holds_32G x y r hr w h1 h2 hz
  rw [hr]
  clear hr
  go_enter Try.func17, Try.ntmps17
  go_wp2_with fail
  have hb0 : Below w.heap.size w ((w.alloc (Obj.cells #[.int .i64 x.k, .slice x.a x.l.length x.c] 24)).alloc (Obj.cells #[.int .i64 y.k, .slice y.a y.l.length y.c] 24)) := ((Below.refl _ _).alloc (Nat.le_refl _) _).alloc (by simp) _
  refine (HH.out _ (hx.below hb0) (hy.below hb0)).mono ?_
  rintro e w1 ⟨rfl, hb1⟩
  have hb2 := hb0.trans (hb1.mono (by simp; omega))
  clear hb0 hb1
  go_wp2_with fail
  go_ret
  exact ⟨rfl, hb2⟩
end Go.Proofs.Ytnddkmccagiclaa

/-
  What the call of kind.finer answers at two trees that lie in memory, and which pairs it puts off.
-/
namespace Go.Proofs.Ytnddkmccagiclaa
open Go.RowKit

set_option maxHeartbeats 400000 in
theorem finer_zeroG (R B : Nat) (x y : Tr) (ps : List Pr) (o : Option Nat) (w : World) (hL : Lst R ps o w) (hx : x.At B w) (hy : y.At B w) (hz : ps.length + x.sz ≤ 1000000000) :
    Calls Try.prog 33 #[.agg #[.int .i64 x.k, .slice x.a x.l.length x.c], .agg #[.int .i64 y.k, .slice y.a y.l.length y.c], .int .i64 0, .pointer (some ⟨R, 0, none⟩)] w (Rel escFiner R B 0 x y ps o w) := by
  have hb0 : Below w.heap.size w ((w.alloc (.cells #[.int .i64 x.k, .slice x.a x.l.length x.c] 24)).alloc (.cells #[.int .i64 y.k, .slice y.a y.l.length y.c] 24)) := ((Below.refl _ _).alloc (Nat.le_refl _) _).alloc (by simp) _
  have HL : Hid (Lst R ps o ((w.alloc (.cells #[.int .i64 x.k, .slice x.a x.l.length x.c] 24)).alloc (.cells #[.int .i64 y.k, .slice y.a y.l.length y.c] 24))) := hL.below hb0
  have hn : ps.length + 1 ≤ 1000000000 := by have := x.sz_pos; omega
  go_enter Try.func33, Try.ntmps33
  go_wp2_with fail
  refine (put_lst R ps o ⟨x, y, none⟩ _ HL.out hn).mono ?_
  rintro e w1 ⟨rfl, o', h1, h2, h3⟩
  have HR : Hid (RelS escFiner R B 0 x y ps o w true [⟨x, y, none⟩] o' w1) := RelS.off hb0 h1 h2 h3 hx hy
  clear h1 h2 h3 HL
  go_wp2_with fail
  go_ret
  exact ⟨true, _, o', rfl, HR.out⟩

set_option maxHeartbeats 400000 in
theorem finer_rightG (n : Nat) (hn : n ≤ 1000) (k : Int) (a a' : Option Addr) (m m' c c' : Nat) (rp : Option Addr) (w : World) :
    Calls Try.prog 33 #[.agg #[.int .i64 k, .slice a m c], .agg #[.int .i64 0, .slice a' m' c'], .int .i64 ((n : Int) + 1), .pointer rp] w fun e w' => e = .returned (.bool true) ∧ Below w.heap.size w w' := by
  have hz : (((n : Int) + 1) == 0) = false := by simp; omega
  go_enter Try.func33, Try.ntmps33
  go_wp2_with fail
  go_ret
  exact ⟨rfl, ((Below.refl _ _).alloc (Nat.le_refl _) _).alloc (by simp) _⟩

set_option maxHeartbeats 1000000 in
theorem finer_stepG (n : Nat) (hn : n ≤ 1000) (R B : Nat) (hB : B ≤ R) (x y : Tr) (ps : List Pr) (o : Option Nat) (w : World) (hL : Lst R ps o w) (hx : x.At B w) (hy : y.At B w) (hz : ps.length + x.sz ≤ 1000000000) (e2 : (y.k == 0) = false)
    (ih : Hid (∀ (x y : Tr) (ps : List Pr) (o : Option Nat) (w : World), Lst R ps o w → x.At B w → y.At B w → ps.length + x.sz ≤ 1000000000 → Calls Try.prog 33 #[.agg #[.int .i64 x.k, .slice x.a x.l.length x.c], .agg #[.int .i64 y.k, .slice y.a y.l.length y.c], .int .i64 (n : Int), .pointer (some ⟨R, 0, none⟩)] w (Rel escFiner R B n x y ps o w))) :
    Calls Try.prog 33 #[.agg #[.int .i64 x.k, .slice x.a x.l.length x.c], .agg #[.int .i64 y.k, .slice y.a y.l.length y.c], .int .i64 ((n : Int) + 1), .pointer (some ⟨R, 0, none⟩)] w (Rel escFiner R B (n + 1) x y ps o w) := by
  have hzz : (((n : Int) + 1) == 0) = false := by simp; omega
  have HE : Hid (escFiner x.k y.k = false) := by show _ = _; simp [escFiner, e2]
  have hlen : x.l.length ≤ 1000000000 := by have := len_sz x.l; have := x.sz_eq; omega
  have hRs : R < w.heap.size := hL.lt
  have HL : Hid (Lst R ps o w) := hL
  have HX : Hid (x.At B w) := hx
  have HY : Hid (y.At B w) := hy
  have HZ : Hid (ps.length + x.sz ≤ 1000000000) := hz
  clear hL hx hy hz
  by_cases ht0 : (x.k == y.k && (x.l.length : Int) == (y.l.length : Int)) = false
  · have ht : Hid ((x.k == y.k && (x.l.length : Int) == (y.l.length : Int)) = false) := ht0
    clear ht0
    go_enter Try.func33, Try.ntmps33
    go_wp2_with fail
    refine (alike_any _ _ _ _ _ _ _ _ false ht.out _).mono ?_
    rintro e w1 ⟨rfl, hb1⟩
    go_wp2_with fail
    go_ret
    exact ⟨false, [], o, rfl, RelS.empty HL.out ((((Below.refl _ _).alloc (Nat.le_refl _) _).alloc (by simp) _).trans (hb1.mono (by simp; omega))) (relY_top escFiner x y HE.out ht.out)⟩
  · have ht' : Hid ((x.k == y.k && (x.l.length : Int) == (y.l.length : Int)) = true) := by simpa [Hid] using ht0
    clear ht0
    have hk : Hid (x.k = y.k) := by have h := ht'.out; simp at h; exact h.1
    have hl : Hid (x.l.length = y.l.length) := by have h := ht'.out; simp at h; exact Int.ofNat.inj h.2
    go_enter Try.func33, Try.ntmps33
    go_wp2_with fail
    refine (alike_any _ _ _ _ _ _ _ _ true ht'.out _).mono ?_
    rintro e w1 ⟨rfl, hb1⟩
    have hbw : Below w.heap.size w w1 := (((Below.refl _ _).alloc (Nat.le_refl _) _).alloc (by simp) _).trans (hb1.mono (by simp; omega))
    have p1 : w1.cell? ⟨w.heap.size, 1, none⟩ = some (.slice x.a x.l.length x.c) := cell_later hb1 (by simp [go_sem])
    have p3 : w1.cell? ⟨w.heap.size + 1, 1, none⟩ = some (.slice y.a y.l.length y.c) := cell_later hb1 (by simp [go_sem])
    have hs1 : w.heap.size + 1 < w1.heap.size := World.block_lt_of_cell? _ _ p3
    have HP0 : Hid (Prog escFiner R B x y 0 ps [] o o w1 w1) := Prog.start (HL.out.below hbw)
    clear hb1
    go_wp2_with fail
    go_loopw [27] (fun i wr => ∃ j : Nat, j ≤ x.l.length ∧ i = .int .i64 (j : Int) ∧ (∃ qs o', Hid (Prog escFiner R B x y j ps qs o o' w1 wr)) ∧ wr.cell? ⟨w.heap.size, 1, none⟩ = some (.slice x.a x.l.length x.c) ∧ wr.cell? ⟨w.heap.size + 1, 1, none⟩ = some (.slice y.a y.l.length y.c)) (fun i _ => x.l.length - (intOf i).toNat)
    case atStart => exact ⟨0, Nat.zero_le _, rfl, ⟨[], o, HP0⟩, p1, p3⟩
    case round =>
      clear p1 p3 HP0
      obtain ⟨j, hj, rfl, ⟨qs, o1, HPR⟩, p1, p3⟩ := hrel
      by_cases hlt : j < x.l.length
      · have hlt' : j < y.l.length := hl.out ▸ hlt
        have hL1 := HL.out.below hbw
        have hbB : Below B w wr := (hbw.mono (by omega)).trans (HPR.out.k.low hL1 hB)
        obtain ⟨b, i, hbl, ea, x0, x1, hxj⟩ := (HX.out.below hbB).part j hlt
        obtain ⟨b', i', hbl', eb, y0, y1, hyj⟩ := (HY.out.below hbB).part j hlt'
        have q1 : wr.cell? ⟨w.heap.size, 1, none⟩ = some (.slice (some ⟨b, i, none⟩) x.l.length x.c) := by rw [← ea]; exact p1
        have q3 : wr.cell? ⟨w.heap.size + 1, 1, none⟩ = some (.slice (some ⟨b', i', none⟩) y.l.length y.c) := by rw [← eb]; exact p3
        have hno : ∀ k, k < w1.heap.size → (k < w.heap.size → k ≤ R) → some k ≠ o1 := by
          intro k hk1 hk2
          refine HPR.out.g.ne hk1 ?_
          intro e
          have := HL.out.own k e.symm
          omega
        have HS : Hid (∀ w2 : World, Kept R o1 wr.drew w2 → (w2.cell? ⟨w.heap.size, 1, none⟩ = some (.slice (some ⟨b, i, none⟩) x.l.length x.c) ∧ w2.cell? ⟨w.heap.size + 1, 1, none⟩ = some (.slice (some ⟨b', i', none⟩) y.l.length y.c) ∧ w2.cell? ⟨b, i + j * 2, none⟩ = some (.int .i64 x.l[j].k) ∧ w2.cell? ⟨b, i + j * 2 + 1, none⟩ = some (.slice x.l[j].a x.l[j].l.length x.l[j].c) ∧ w2.cell? ⟨b', i' + j * 2, none⟩ = some (.int .i64 y.l[j].k) ∧ w2.cell? ⟨b', i' + j * 2 + 1, none⟩ = some (.slice y.l[j].a y.l[j].l.length y.l[j].c))) := by
          intro w2 hk2
          have n0 := hno w.heap.size (by omega) (by omega)
          have n1 := hno (w.heap.size + 1) (by omega) (by omega)
          have n2 := hno b (by omega) (by omega)
          have n3 := hno b' (by omega) (by omega)
          exact ⟨hk2.cell (w := wr.drew) q1 (by omega) n0, hk2.cell (w := wr.drew) q3 (by omega) n1, hk2.cell (w := wr.drew) x0 (by omega) n2, hk2.cell (w := wr.drew) x1 (by omega) n2, hk2.cell (w := wr.drew) y0 (by omega) n3, hk2.cell (w := wr.drew) y1 (by omega) n3⟩
        have HPP : Hid (∀ w2 : World, w2.cell? ⟨w.heap.size, 1, none⟩ = some (.slice (some ⟨b, i, none⟩) x.l.length x.c) → w2.cell? ⟨w.heap.size + 1, 1, none⟩ = some (.slice (some ⟨b', i', none⟩) y.l.length y.c) → w2.cell? ⟨w.heap.size, 1, none⟩ = some (.slice x.a x.l.length x.c) ∧ w2.cell? ⟨w.heap.size + 1, 1, none⟩ = some (.slice y.a y.l.length y.c)) := fun w2 h1 h2 => ⟨by rw [ea]; exact h1, by rw [eb]; exact h2⟩
        have i1 : (j : Int) < (x.l.length : Int) := by omega
        have i2 : (j : Int) < (y.l.length : Int) := by omega
        have i0 : (0 : Int) ≤ (j : Int) := by omega
        have hwr : IntKind.i64.wrap (n : Int) = (n : Int) := wrap_small n hn
        have HC : Hid (Calls Try.prog 33 #[.agg #[.int .i64 x.l[j].k, .slice x.l[j].a x.l[j].l.length x.l[j].c], .agg #[.int .i64 y.l[j].k, .slice y.l[j].a y.l[j].l.length y.l[j].c], .int .i64 (n : Int), .pointer (some ⟨R, 0, none⟩)] wr.drew (Rel escFiner R B n x.l[j] y.l[j] (ps ++ qs) o1 wr.drew)) := by
          refine ih.out x.l[j] y.l[j] (ps ++ qs) o1 wr.drew (HPR.out.l.below ((Below.refl _ _).drew)) (hxj.below ((Below.refl _ _).drew)) (hyj.below ((Below.refl _ _).drew)) ?_
          have h1 := HPR.out.s
          have h2 := sz_take x.l j hlt
          have h3 := sz_take_le x.l (j + 1)
          have h4 := x.sz_eq
          have h5 := HZ.out
          have h6 := szs_len qs
          rw [List.length_append]
          omega
        clear p1 p3 ea eb ht' hno hbB hL1 ih hxj hyj
        go_wp2_with fail
        go_region_held3 (fun w' => w'.cell? ⟨w.heap.size, 1, none⟩ = some (.slice (some ⟨b, i, none⟩) x.l.length x.c) ∧ w'.cell? ⟨w.heap.size + 1, 1, none⟩ = some (.slice (some ⟨b', i', none⟩) y.l.length y.c) ∧ w'.cell? ⟨b, i + j * 2, none⟩ = some (.int .i64 x.l[j].k) ∧ w'.cell? ⟨b, i + j * 2 + 1, none⟩ = some (.slice x.l[j].a x.l[j].l.length x.l[j].c) ∧ w'.cell? ⟨b', i' + j * 2, none⟩ = some (.int .i64 y.l[j].k) ∧ w'.cell? ⟨b', i' + j * 2 + 1, none⟩ = some (.slice y.l[j].a y.l[j].l.length y.l[j].c)) (first | exact HS.out _ hr2.k | go_keep) (first | (go_at_call 33; refine HC.out.mono ?_; rintro e w2 ⟨r, qs2, o2, rfl, hr2⟩))
        have HR2 : Hid (RelS escFiner R B n x.l[j] y.l[j] (ps ++ qs) o1 wr.drew r qs2 o2 w2) := hr2
        have hpp := HPP.out w2 (HS.out w2 hr2.k).1 (HS.out w2 hr2.k).2.1
        clear hr2 HC HS HPP x0 x1 y0 y1 q1 q3
        cases r
        · have HF : Hid (RelS escFiner R B (n + 1) x y ps o w false (qs ++ qs2) o2 w2) := HPR.out.no hB HL.out hbw HE.out hlt hlt' HR2.out
          go_wp2_with fail
          go_ret
          exact ⟨false, _, o2, rfl, HF.out⟩
        · have HF : Hid (Prog escFiner R B x y (j + 1) ps (qs ++ qs2) o o2 w1 w2) := HPR.out.step hB (HL.out.below hbw) hlt hlt' HR2.out
          go_wp2_with fail
          go_roundw
          case rel => exact ⟨j + 1, by omega, by go_num, ⟨_, _, HF⟩, hpp.1, hpp.2⟩
          case measure => simp [intOf]; omega
      · have HF : Hid (RelS escFiner R B (n + 1) x y ps o w true qs o1 wr) := HPR.out.yes hB HL.out hbw HE.out hk.out hl.out (by omega)
        clear HPR
        go_wp2_with fail
        go_ret
        exact ⟨true, qs, o1, rfl, HF.out⟩

/-- kind.finer. -/
theorem finer_anyG (n : Nat) (R B : Nat) (hB : B ≤ R) : n ≤ 1000 → ∀ (x y : Tr) (ps : List Pr) (o : Option Nat) (w : World), Lst R ps o w → x.At B w → y.At B w → ps.length + x.sz ≤ 1000000000 → Calls Try.prog 33 #[.agg #[.int .i64 x.k, .slice x.a x.l.length x.c], .agg #[.int .i64 y.k, .slice y.a y.l.length y.c], .int .i64 (n : Int), .pointer (some ⟨R, 0, none⟩)] w (Rel escFiner R B n x y ps o w) := by
  induction n with
  | zero =>
    intro _ x y ps o w hL hx hy hz
    exact finer_zeroG R B x y ps o w hL hx hy hz
  | succ n ih =>
    intro hn x y ps o w hL hx hy hz
    have e : ((n + 1 : Nat) : Int) = (n : Int) + 1 := by omega
    rw [e]
    by_cases k2 : y.k = 0
    · have hr := relY_esc escFiner x y (by simp [escFiner, k2])
      rw [k2]
      refine (finer_rightG n (by omega) x.k x.a y.a _ _ _ _ _ w).mono ?_
      rintro e w' ⟨rfl, hb⟩
      exact ⟨true, [], o, rfl, RelS.empty hL hb hr⟩
    exact finer_stepG n (by omega) R B hB x y ps o w hL hx hy hz (by simpa using k2) (fun x y ps o w hL hx hy hz => ih (by omega) x y ps o w hL hx hy hz)
end Go.Proofs.Ytnddkmccagiclaa

/-
  What the calls of kind.holds (of kind.finer) and kind.Finer answer at two trees of not too many nodes.
-/
namespace Go.Proofs.Ytnddkmccagiclaa
open Go.RowKit

set_option maxHeartbeats 1000000 in
theorem holds_33G (x y : Tr) (r : Bool) (hr : Hid (relY escFiner x.ty y.ty = r)) (w : World) (hx : x.In w) (hy : y.In w) (hz : x.sz ≤ 100000000) :
    Calls Try.prog 30 #[.func (.func 33) #[] #[], .agg #[.int .i64 x.k, .slice x.a x.l.length x.c], .agg #[.int .i64 y.k, .slice y.a y.l.length y.c]] w fun e w' => e = .returned (.bool r) ∧ Below w.heap.size w w' := by
  have HX : Hid (x.At w.heap.size w) := ⟨hx, hx.bl⟩
  have HY : Hid (y.At w.heap.size w) := ⟨hy, hy.bl⟩
  have HZ : Hid (x.sz ≤ 100000000) := hz
  clear hx hy hz
  go_enter Try.func30, Try.ntmps30
  go_wp2_with fail
  refine (put_lst (w.heap.size + 1 + 1) [] none ⟨x, y, none⟩ _ ⟨⟨.slice none 0 0, by simp [go_sem], World.ownsRow_nil _ _ _ _, rfl⟩, by simp [go_sem]⟩ (by simp)).mono ?_
  rintro e w1 ⟨rfl, o1, hl1, _, hk1⟩
  have hbw : Below w.heap.size w w1 := ((((Below.refl _ _).alloc (Nat.le_refl _) _).alloc (by simp) _).alloc (by simp; omega) _).trans ((hk1.below (fun g e => by cases e) (by simp)).mono (by omega))
  have HO : Hid (Todo escFiner (w.heap.size + 1 + 1) x y w x.sz [⟨x, y, none⟩] o1 w1) := by
    refine ⟨hl1, szs_one _, by have := HZ.out; omega, fun q hq => ?_, ⟨fun h q hq => ?_, fun h => h _ (List.mem_singleton.2 rfl)⟩, hbw⟩
    · rcases List.mem_singleton.1 hq with rfl
      exact ⟨rfl, HX.out, HY.out⟩
    · rcases List.mem_singleton.1 hq with rfl
      exact h
  clear hl1 hk1 hbw HX HY
  go_wp2_with fail
  go_loopg [] x.sz (fun k wr => ∃ qs o, Hid (Todo escFiner (w.heap.size + 1 + 1) x y w k qs o wr))
  case atStart => exact ⟨_, _, HO⟩
  case round =>
    clear HO
    obtain ⟨qs, o, HT⟩ := hrel
    rcases List.eq_nil_or_concat qs with rfl | ⟨us, q, rfl⟩
    · go_wp2_with fail
      refine (empty_yes (w.heap.size + 1 + 1) o _ HT.out.l).mono ?_
      rintro e w' ⟨rfl, rfl⟩
      have HF : Hid (r = true) := by
        show r = true
        rw [← hr.out]
        exact HT.out.i.2 fun q hq => by cases hq
      go_wp2_with fail
      go_ret
      exact ⟨by rw [HF.out]; rfl, HT.out.b⟩
    · rw [List.concat_eq_append] at HT
      go_wp2_with fail
      refine (empty_no (w.heap.size + 1 + 1) us q o _ HT.out.l).mono ?_
      rintro e w' ⟨rfl, rfl⟩
      have hus : us.length ≤ 1000000000 := by
        have h1 := szs_len us
        have h2 := HT.out.s
        have h3 := HT.out.z
        rw [szs_append] at h2
        omega
      go_wp2_with fail
      refine (take_lst (w.heap.size + 1 + 1) us q o _ HT.out.l (by omega)).mono ?_
      rintro e w2 ⟨rfl, hl2, hk2⟩
      have hp : q.p = none := (HT.out.q q (by simp)).1
      rw [hp]
      clear hp
      have HW : Hid (∀ X, Below w2.heap.size w2 (w2.alloc X) ∧ Lst (w.heap.size + 1 + 1) us o (w2.alloc X)) := fun X => ⟨(Below.refl _ _).alloc (Nat.le_refl _) _, hl2.below ((Below.refl _ _).alloc (Nat.le_refl _) _)⟩
      have HK2 : Hid (Kept (w.heap.size + 1 + 1) none w' w2) := hk2
      have hw2 : w.heap.size + 1 + 1 < w2.heap.size := hl2.lt
      have HA : Hid (∀ X, q.x.At w.heap.size (w2.alloc X) ∧ q.y.At w.heap.size (w2.alloc X)) := by
        intro X
        obtain ⟨_, h1, h2⟩ := HT.out.q q (by simp)
        have hb : Below w.heap.size w (w2.alloc X) := (HT.out.b.trans ((hk2.below (fun g e => by cases e) (Nat.le_of_lt HT.out.l.lt)).mono (by omega))).alloc (by omega) X
        exact ⟨h1.below hb, h2.below hb⟩
      clear hl2 hk2
      go_wp2_with fail
      refine (finer_anyG 1000 (w.heap.size + 1 + 1) w.heap.size (by omega) (Nat.le_refl _) q.x q.y us o _ (HW.out _).2 (HA.out _).1 (HA.out _).2 (by have h1 := szs_len us; have h2 := HT.out.s; have h3 := HT.out.z; rw [szs_append, szs_one] at h2; omega)).mono ?_
      rintro e w5 ⟨r', qs, o2, rfl, hr5⟩
      have HR5 : Hid (RelS escFiner (w.heap.size + 1 + 1) w.heap.size (999 + 1) q.x q.y us o (w2.alloc (.cells #[.int .i64 q.x.k, .slice q.x.a q.x.l.length q.x.c, .int .i64 q.y.k, .slice q.y.a q.y.l.length q.y.c, .pointer none] 41)) r' qs o2 w5) := hr5
      clear hr5
      cases r'
      · have HF : Hid (r = false ∧ Below w.heap.size w w5) := by
          have h := HT.out.no (by omega) HK2.out (HW.out _).1 (HW.out _).2 HR5.out
          exact ⟨hr.out ▸ h.1, h.2⟩
        clear HR5 HW HA HK2 HT
        go_wp2_with fail
        go_ret
        exact ⟨by rw [HF.out.1]; rfl, HF.out.2⟩
      · have HF : Hid (Todo escFiner (w.heap.size + 1 + 1) x y w (szs (us ++ qs)) (us ++ qs) o2 w5 ∧ szs (us ++ qs) < gk) := HT.out.step (by omega) HK2.out (HW.out _).1 (HW.out _).2 HR5.out
        clear HR5 HW HA HK2 HT
        go_wp2_with fail
        go_roundg (szs (us ++ qs))
        case measure => exact HF.out.2
        case rel => exact ⟨_, _, HF.out.1⟩

set_option maxHeartbeats 400000 in
/-- kind.Finer. -/
theorem finer_wholeG (x y : Tr) (w : World) (hx : x.In w) (hy : y.In w) (hz : x.sz ≤ 100000000) :
    Calls Try.prog 19 #[.agg #[.int .i64 x.k, .slice x.a x.l.length x.c], .agg #[.int .i64 y.k, .slice y.a y.l.length y.c]] w fun e w' => e = .returned (.bool (relY escFiner x.ty y.ty)) ∧ Below w.heap.size w w' := by
  obtain ⟨r, hr⟩ : ∃ r, relY escFiner x.ty y.ty = r := ⟨_, rfl⟩
  have HH : Hid (∀ (w : World), x.In w → y.In w → Calls Try.prog 30 #[.func (.func 33) #[] #[], .agg #[.int .i64 x.k, .slice x.a x.l.length x.c], .agg #[.int .i64 y.k, .slice y.a y.l.length y.c]] w fun e w' => e = .returned (.bool r) ∧ Below w.heap.size w w') := fun w h1 h2 => holds_33G x y r hr w h1 h2 hz
  rw [hr]
  clear hr
  go_enter Try.func19, Try.ntmps19
  go_wp2_with fail
  have hb0 : Below w.heap.size w ((w.alloc (Obj.cells #[.int .i64 x.k, .slice x.a x.l.length x.c] 24)).alloc (Obj.cells #[.int .i64 y.k, .slice y.a y.l.length y.c] 24)) := ((Below.refl _ _).alloc (Nat.le_refl _) _).alloc (by simp) _
  refine (HH.out _ (hx.below hb0) (hy.below hb0)).mono ?_
  rintro e w1 ⟨rfl, hb1⟩
  have hb2 := hb0.trans (hb1.mono (by simp; omega))
  clear hb0 hb1
  go_wp2_with fail
  go_ret
  exact ⟨rfl, hb2⟩
end Go.Proofs.Ytnddkmccagiclaa
