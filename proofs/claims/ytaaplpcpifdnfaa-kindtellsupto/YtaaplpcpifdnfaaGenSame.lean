/-
  What the call of kind.same answers at two trees that lie in memory, and which pairs it puts off.
-/
import Derived.Test.YtaaplpcpifdnfaaGenRel
import Derived.Test.YtaaplpcpifdnfaaSame
namespace Go.Proofs.Ytaaplpcpifdnfaa
open Go.RowKit

set_option maxHeartbeats 400000 in
theorem same_zeroG (R B : Nat) (x y : Tr) (ps : List Pr) (o : Option Nat) (w : World) (hL : Lst R ps o w) (hx : x.At B w) (hy : y.At B w) (hz : ps.length + x.sz ≤ 1000000000) :
    Calls Try.prog 31 #[.agg #[.int .i64 x.k, .slice x.a x.l.length x.c], .agg #[.int .i64 y.k, .slice y.a y.l.length y.c], .int .i64 0, .pointer (some ⟨R, 0, none⟩)] w (Rel escSame R B 0 x y ps o w) := by
  have hb0 : Below w.heap.size w ((w.alloc (.cells #[.int .i64 x.k, .slice x.a x.l.length x.c] 24)).alloc (.cells #[.int .i64 y.k, .slice y.a y.l.length y.c] 24)) := ((Below.refl _ _).alloc (Nat.le_refl _) _).alloc (by simp) _
  have HL : Hid (Lst R ps o ((w.alloc (.cells #[.int .i64 x.k, .slice x.a x.l.length x.c] 24)).alloc (.cells #[.int .i64 y.k, .slice y.a y.l.length y.c] 24))) := hL.below hb0
  have hn : ps.length + 1 ≤ 1000000000 := by have := x.sz_pos; omega
  go_enter Try.func31, Try.ntmps31
  go_wp2_with fail
  refine (put_lst R ps o ⟨x, y, none⟩ _ HL.out hn).mono ?_
  rintro e w1 ⟨rfl, o', h1, h2, h3⟩
  have HR : Hid (RelS escSame R B 0 x y ps o w true [⟨x, y, none⟩] o' w1) := RelS.off hb0 h1 h2 h3 hx hy
  clear h1 h2 h3 HL
  go_wp2_with fail
  go_ret
  exact ⟨true, _, o', rfl, HR.out⟩

set_option maxHeartbeats 1000000 in
theorem same_stepG (n : Nat) (hn : n ≤ 1000) (R B : Nat) (hB : B ≤ R) (x y : Tr) (ps : List Pr) (o : Option Nat) (w : World) (hL : Lst R ps o w) (hx : x.At B w) (hy : y.At B w) (hz : ps.length + x.sz ≤ 1000000000)
    (ih : Hid (∀ (x y : Tr) (ps : List Pr) (o : Option Nat) (w : World), Lst R ps o w → x.At B w → y.At B w → ps.length + x.sz ≤ 1000000000 → Calls Try.prog 31 #[.agg #[.int .i64 x.k, .slice x.a x.l.length x.c], .agg #[.int .i64 y.k, .slice y.a y.l.length y.c], .int .i64 (n : Int), .pointer (some ⟨R, 0, none⟩)] w (Rel escSame R B n x y ps o w))) :
    Calls Try.prog 31 #[.agg #[.int .i64 x.k, .slice x.a x.l.length x.c], .agg #[.int .i64 y.k, .slice y.a y.l.length y.c], .int .i64 ((n : Int) + 1), .pointer (some ⟨R, 0, none⟩)] w (Rel escSame R B (n + 1) x y ps o w) := by
  have hzz : (((n : Int) + 1) == 0) = false := by simp; omega
  have HE : Hid (escSame x.k y.k = false) := by show _ = _; rfl
  have hlen : x.l.length ≤ 1000000000 := by have := len_sz x.l; have := x.sz_eq; omega
  have hRs : R < w.heap.size := hL.lt
  have HL : Hid (Lst R ps o w) := hL
  have HX : Hid (x.At B w) := hx
  have HY : Hid (y.At B w) := hy
  have HZ : Hid (ps.length + x.sz ≤ 1000000000) := hz
  clear hL hx hy hz
  by_cases ht0 : (x.k == y.k && (x.l.length : Int) == (y.l.length : Int)) = false
  · have ht : Hid ((x.k == y.k && (x.l.length : Int) == (y.l.length : Int)) = false) := ht0
    clear ht0
    go_enter Try.func31, Try.ntmps31
    go_wp2_with fail
    refine (alike_any _ _ _ _ _ _ _ _ false ht.out _).mono ?_
    rintro e w1 ⟨rfl, hb1⟩
    go_wp2_with fail
    go_ret
    exact ⟨false, [], o, rfl, RelS.empty HL.out ((((Below.refl _ _).alloc (Nat.le_refl _) _).alloc (by simp) _).trans (hb1.mono (by simp; omega))) (relY_top escSame x y HE.out ht.out)⟩
  · have ht' : Hid ((x.k == y.k && (x.l.length : Int) == (y.l.length : Int)) = true) := by simpa [Hid] using ht0
    clear ht0
    have hk : Hid (x.k = y.k) := by have h := ht'.out; simp at h; exact h.1
    have hl : Hid (x.l.length = y.l.length) := by have h := ht'.out; simp at h; exact Int.ofNat.inj h.2
    go_enter Try.func31, Try.ntmps31
    go_wp2_with fail
    refine (alike_any _ _ _ _ _ _ _ _ true ht'.out _).mono ?_
    rintro e w1 ⟨rfl, hb1⟩
    have hbw : Below w.heap.size w w1 := (((Below.refl _ _).alloc (Nat.le_refl _) _).alloc (by simp) _).trans (hb1.mono (by simp; omega))
    have p1 : w1.cell? ⟨w.heap.size, 1, none⟩ = some (.slice x.a x.l.length x.c) := cell_later hb1 (by simp [go_sem])
    have p3 : w1.cell? ⟨w.heap.size + 1, 1, none⟩ = some (.slice y.a y.l.length y.c) := cell_later hb1 (by simp [go_sem])
    have hs1 : w.heap.size + 1 < w1.heap.size := World.block_lt_of_cell? _ _ p3
    have HP0 : Hid (Prog escSame R B x y 0 ps [] o o w1 w1) := Prog.start (HL.out.below hbw)
    clear hb1
    go_wp2_with fail
    go_loopw [24] (fun i wr => ∃ j : Nat, j ≤ x.l.length ∧ i = .int .i64 (j : Int) ∧ (∃ qs o', Hid (Prog escSame R B x y j ps qs o o' w1 wr)) ∧ wr.cell? ⟨w.heap.size, 1, none⟩ = some (.slice x.a x.l.length x.c) ∧ wr.cell? ⟨w.heap.size + 1, 1, none⟩ = some (.slice y.a y.l.length y.c)) (fun i _ => x.l.length - (intOf i).toNat)
    case atStart => exact ⟨0, Nat.zero_le _, rfl, ⟨[], o, HP0⟩, p1, p3⟩
    case round =>
      clear p1 p3 HP0
      obtain ⟨j, hj, rfl, ⟨qs, o1, HPR⟩, p1, p3⟩ := hrel
      by_cases hlt : j < x.l.length
      · have hlt' : j < y.l.length := hl.out ▸ hlt
        have hL1 := HL.out.below hbw
        have hbB : Below B w wr := (hbw.mono (by omega)).trans (HPR.out.k.low hL1 hB)
        obtain ⟨b, i, hbl, ea, x0, x1, hxj⟩ := (HX.out.below hbB).part j hlt
        obtain ⟨b', i', hbl', eb, y0, y1, hyj⟩ := (HY.out.below hbB).part j hlt'
        have q1 : wr.cell? ⟨w.heap.size, 1, none⟩ = some (.slice (some ⟨b, i, none⟩) x.l.length x.c) := by rw [← ea]; exact p1
        have q3 : wr.cell? ⟨w.heap.size + 1, 1, none⟩ = some (.slice (some ⟨b', i', none⟩) y.l.length y.c) := by rw [← eb]; exact p3
        have hno : ∀ k, k < w1.heap.size → (k < w.heap.size → k ≤ R) → some k ≠ o1 := by
          intro k hk1 hk2
          refine HPR.out.g.ne hk1 ?_
          intro e
          have := HL.out.own k e.symm
          omega
        have HS : Hid (∀ w2 : World, Kept R o1 wr.drew w2 → (w2.cell? ⟨w.heap.size, 1, none⟩ = some (.slice (some ⟨b, i, none⟩) x.l.length x.c) ∧ w2.cell? ⟨w.heap.size + 1, 1, none⟩ = some (.slice (some ⟨b', i', none⟩) y.l.length y.c) ∧ w2.cell? ⟨b, i + j * 2, none⟩ = some (.int .i64 x.l[j].k) ∧ w2.cell? ⟨b, i + j * 2 + 1, none⟩ = some (.slice x.l[j].a x.l[j].l.length x.l[j].c) ∧ w2.cell? ⟨b', i' + j * 2, none⟩ = some (.int .i64 y.l[j].k) ∧ w2.cell? ⟨b', i' + j * 2 + 1, none⟩ = some (.slice y.l[j].a y.l[j].l.length y.l[j].c))) := by
          intro w2 hk2
          have n0 := hno w.heap.size (by omega) (by omega)
          have n1 := hno (w.heap.size + 1) (by omega) (by omega)
          have n2 := hno b (by omega) (by omega)
          have n3 := hno b' (by omega) (by omega)
          exact ⟨hk2.cell (w := wr.drew) q1 (by omega) n0, hk2.cell (w := wr.drew) q3 (by omega) n1, hk2.cell (w := wr.drew) x0 (by omega) n2, hk2.cell (w := wr.drew) x1 (by omega) n2, hk2.cell (w := wr.drew) y0 (by omega) n3, hk2.cell (w := wr.drew) y1 (by omega) n3⟩
        have HPP : Hid (∀ w2 : World, w2.cell? ⟨w.heap.size, 1, none⟩ = some (.slice (some ⟨b, i, none⟩) x.l.length x.c) → w2.cell? ⟨w.heap.size + 1, 1, none⟩ = some (.slice (some ⟨b', i', none⟩) y.l.length y.c) → w2.cell? ⟨w.heap.size, 1, none⟩ = some (.slice x.a x.l.length x.c) ∧ w2.cell? ⟨w.heap.size + 1, 1, none⟩ = some (.slice y.a y.l.length y.c)) := fun w2 h1 h2 => ⟨by rw [ea]; exact h1, by rw [eb]; exact h2⟩
        have i1 : (j : Int) < (x.l.length : Int) := by omega
        have i2 : (j : Int) < (y.l.length : Int) := by omega
        have i0 : (0 : Int) ≤ (j : Int) := by omega
        have hwr : IntKind.i64.wrap (n : Int) = (n : Int) := wrap_small n hn
        have HC : Hid (Calls Try.prog 31 #[.agg #[.int .i64 x.l[j].k, .slice x.l[j].a x.l[j].l.length x.l[j].c], .agg #[.int .i64 y.l[j].k, .slice y.l[j].a y.l[j].l.length y.l[j].c], .int .i64 (n : Int), .pointer (some ⟨R, 0, none⟩)] wr.drew (Rel escSame R B n x.l[j] y.l[j] (ps ++ qs) o1 wr.drew)) := by
          refine ih.out x.l[j] y.l[j] (ps ++ qs) o1 wr.drew (HPR.out.l.below ((Below.refl _ _).drew)) (hxj.below ((Below.refl _ _).drew)) (hyj.below ((Below.refl _ _).drew)) ?_
          have h1 := HPR.out.s
          have h2 := sz_take x.l j hlt
          have h3 := sz_take_le x.l (j + 1)
          have h4 := x.sz_eq
          have h5 := HZ.out
          have h6 := szs_len qs
          rw [List.length_append]
          omega
        clear p1 p3 ea eb ht' hno hbB hL1 ih hxj hyj
        go_wp2_with fail
        go_region_held3 (fun w' => w'.cell? ⟨w.heap.size, 1, none⟩ = some (.slice (some ⟨b, i, none⟩) x.l.length x.c) ∧ w'.cell? ⟨w.heap.size + 1, 1, none⟩ = some (.slice (some ⟨b', i', none⟩) y.l.length y.c) ∧ w'.cell? ⟨b, i + j * 2, none⟩ = some (.int .i64 x.l[j].k) ∧ w'.cell? ⟨b, i + j * 2 + 1, none⟩ = some (.slice x.l[j].a x.l[j].l.length x.l[j].c) ∧ w'.cell? ⟨b', i' + j * 2, none⟩ = some (.int .i64 y.l[j].k) ∧ w'.cell? ⟨b', i' + j * 2 + 1, none⟩ = some (.slice y.l[j].a y.l[j].l.length y.l[j].c)) (first | exact HS.out _ hr2.k | go_keep) (first | (go_at_call 31; refine HC.out.mono ?_; rintro e w2 ⟨r, qs2, o2, rfl, hr2⟩))
        have HR2 : Hid (RelS escSame R B n x.l[j] y.l[j] (ps ++ qs) o1 wr.drew r qs2 o2 w2) := hr2
        have hpp := HPP.out w2 (HS.out w2 hr2.k).1 (HS.out w2 hr2.k).2.1
        clear hr2 HC HS HPP x0 x1 y0 y1 q1 q3
        cases r
        · have HF : Hid (RelS escSame R B (n + 1) x y ps o w false (qs ++ qs2) o2 w2) := HPR.out.no hB HL.out hbw HE.out hlt hlt' HR2.out
          go_wp2_with fail
          go_ret
          exact ⟨false, _, o2, rfl, HF.out⟩
        · have HF : Hid (Prog escSame R B x y (j + 1) ps (qs ++ qs2) o o2 w1 w2) := HPR.out.step hB (HL.out.below hbw) hlt hlt' HR2.out
          go_wp2_with fail
          go_roundw
          case rel => exact ⟨j + 1, by omega, by go_num, ⟨_, _, HF⟩, hpp.1, hpp.2⟩
          case measure => simp [intOf]; omega
      · have HF : Hid (RelS escSame R B (n + 1) x y ps o w true qs o1 wr) := HPR.out.yes hB HL.out hbw HE.out hk.out hl.out (by omega)
        clear HPR
        go_wp2_with fail
        go_ret
        exact ⟨true, qs, o1, rfl, HF.out⟩

/-- kind.same. -/
theorem same_anyG (n : Nat) (R B : Nat) (hB : B ≤ R) : n ≤ 1000 → ∀ (x y : Tr) (ps : List Pr) (o : Option Nat) (w : World), Lst R ps o w → x.At B w → y.At B w → ps.length + x.sz ≤ 1000000000 → Calls Try.prog 31 #[.agg #[.int .i64 x.k, .slice x.a x.l.length x.c], .agg #[.int .i64 y.k, .slice y.a y.l.length y.c], .int .i64 (n : Int), .pointer (some ⟨R, 0, none⟩)] w (Rel escSame R B n x y ps o w) := by
  induction n with
  | zero =>
    intro _ x y ps o w hL hx hy hz
    exact same_zeroG R B x y ps o w hL hx hy hz
  | succ n ih =>
    intro hn x y ps o w hL hx hy hz
    have e : ((n + 1 : Nat) : Int) = (n : Int) + 1 := by omega
    rw [e]
    exact same_stepG n (by omega) R B hB x y ps o w hL hx hy hz (fun x y ps o w hL hx hy hz => ih (by omega) x y ps o w hL hx hy hz)
end Go.Proofs.Ytaaplpcpifdnfaa
