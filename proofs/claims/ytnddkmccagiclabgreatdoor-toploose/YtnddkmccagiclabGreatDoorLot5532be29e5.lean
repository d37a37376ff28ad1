/-
  What the call of check's inside answers: what is within the casts and As about a term.
-/
import Derived.Test.YtnddkmccagiclabGreatDoorLotaaaf38a082
import Derived.Test.YtnddkmccagiclabGreatDoorLotc013798625
import Derived.Deep.LoopGhost
import Derived.Test.YtnddkmccagiclabGreatDoorLote6c3f9598a
import Derived.Test.YtnddkmccagiclabGreatDoorLotac1f1cd27a
import Derived.Deep.Slices
namespace Go.Proofs.YtnddkmccagiclabGreatDoor
open Go.RowKit

/-- A term within another, at which it comes to the same without casts. -/
def InW (x p : TT) (w W : World) : Prop := p.In W ∧ p.Bl (· < w.heap.size) ∧ p.sz ≤ x.sz ∧ eraseM p.tm = eraseM x.tm ∧ ∀ Q : Nat → Prop, x.Bl Q → p.Bl Q

/-- What inside answers. -/
def InPost (x : TT) (w : World) (e : Ending) (w' : World) : Prop :=
  ∃ q : TT, e = .returned (.agg #[.int .i64 q.k, .int .i64 q.n, .int .i64 q.t.k, .slice q.t.a q.t.l.length q.t.c, .int .i64 q.f.k, .slice q.f.a q.f.l.length q.f.c, .slice q.a q.l.length q.c]) ∧ q.In w' ∧ (∀ Q : Nat → Prop, x.Bl Q → q.Bl Q) ∧ q.sz ≤ x.sz ∧ eraseM x.tm = ⟨q.k, q.n, anyY, anyY, (q.l.map TT.tm).map eraseM⟩ ∧ Below w.heap.size w w'

theorem eraseT_stop {k n : Int} {l : List Tm} (hs : ¬ ((k = 9 ∨ k = 10) ∧ l.length = 1)) : eraseT k n l = ⟨k, n, anyY, anyY, l⟩ := by
  match l, hs with
  | [], _ => rfl
  | [y], hs =>
    have h2 : ¬ (k = 9 ∨ k = 10) := fun h => hs ⟨h, rfl⟩
    exact if_neg h2
  | y :: z :: r, _ => rfl

theorem inside_end {x p : TT} {w wr : World} (hb : Below w.heap.size w wr) (hl : LF w.heap.size p wr) (hw : InW x p w wr) (hs : ¬ ((p.k = 9 ∨ p.k = 10) ∧ p.l.length = 1)) : InPost x w (.returned (.agg #[.int .i64 p.k, .int .i64 p.n, .int .i64 p.t.k, .slice p.t.a p.t.l.length p.t.c, .int .i64 p.f.k, .slice p.f.a p.f.l.length p.f.c, .slice p.a p.l.length p.c])) (put7 wr (w.heap.size + 1) p) := by
  obtain ⟨h1, h2, h3, h4, h5⟩ := hw
  have hk := put7_kept (w := wr) (J := w.heap.size + 1) (x := p)
  refine ⟨p, rfl, h1.keptR hk (h2.mono fun b hb => by omega), h5, h3, ?_, hb.trans ((hk.below (by simp) (Nat.le_of_lt hl.lt)).mono (by omega))⟩
  rw [← h4]
  have e : p.tm = ⟨p.k, p.n, p.t.ty, p.f.ty, p.l.map TT.tm⟩ := by cases p; rw [TT.tm_mk]
  rw [e, eraseM_mk, eraseT_stop (by rw [List.length_map, List.length_map]; exact hs)]

theorem inside_step {x p y : TT} {w wr : World} (hb : Below w.heap.size w wr) (hl : LF w.heap.size p wr) (hw : InW x p w wr) (hp : p.l = [y]) (hk9 : p.k = 9 ∨ p.k = 10) (hy : y.In wr) : Below w.heap.size w (put7 wr w.heap.size y) ∧ LF w.heap.size y (put7 wr w.heap.size y) ∧ InW x y w (put7 wr w.heap.size y) := by
  obtain ⟨h1, h2, h3, h4, h5⟩ := hw
  have hk := put7_kept (w := wr) (J := w.heap.size) (x := y)
  have hyb : y.Bl (· < w.heap.size) := h2.mem (by rw [hp]; simp)
  have hll := hl.lt
  refine ⟨hb.trans ((hk.below (by simp) (by omega)).mono (Nat.le_refl _)), ⟨put7_box hl.b, hl.z.kept hk (by omega)⟩, hy.keptR hk (hyb.mono fun b hb => by omega), hyb, ?_, ?_, fun Q hQ => (h5 Q hQ).mem (by rw [hp]; simp)⟩
  · have := p.sz_eq
    rw [hp] at this
    simp at this
    omega
  · rw [← h4]
    obtain ⟨k, n, t, f, a, c, l⟩ := p
    simp only at hp hk9
    subst hp
    rw [TT.tm_mk, eraseM_mk]
    simp [eraseT, hk9]

set_option maxRecDepth 20000 in
set_option maxHeartbeats 8000000 in
theorem inside_any (x : TT) (w : World) (hx : x.In w) : Calls Tryz.prog 47 #[.agg #[.int .i64 x.k, .int .i64 x.n, .int .i64 x.t.k, .slice x.t.a x.t.l.length x.t.c, .int .i64 x.f.k, .slice x.f.a x.f.l.length x.f.c, .slice x.a x.l.length x.c]] w (InPost x w) := by
  obtain ⟨W1, hW1⟩ : ∃ W1, W1 = ((w.alloc (.cells #[.int .i64 x.k, .int .i64 x.n, .int .i64 x.t.k, .slice x.t.a x.t.l.length x.t.c, .int .i64 x.f.k, .slice x.f.a x.f.l.length x.f.c, .slice x.a x.l.length x.c] 27)).alloc (.cells #[.int .i64 0, .int .i64 0, .int .i64 0, .slice none 0 0, .int .i64 0, .slice none 0 0, .slice none 0 0] 27)) := ⟨_, rfl⟩
  have hb1 : Below w.heap.size w W1 := by rw [hW1]; exact ((Below.refl _ _).alloc (Nat.le_refl _) _).alloc (by simp) _
  have HL0 : Hid (Below w.heap.size w W1 ∧ LF w.heap.size x W1 ∧ InW x x w W1) := ⟨hb1, by rw [hW1]; exact LF.start x w, hx.below hb1, hx.bl, Nat.le_refl _, rfl, fun _ h => h⟩
  clear hx hb1
  go_enter Tryz.func47, Tryz.ntmps47
  go_wp2_with fail
  rw [← hW1]
  clear hW1
  go_loopg [] x.sz (fun g wr => ∃ p : TT, g = p.sz ∧ Hid (Below w.heap.size w wr ∧ LF w.heap.size p wr ∧ InW x p w wr))
  case atStart => exact ⟨x, rfl, HL0⟩
  case round =>
    obtain ⟨p, hg, HQ⟩ := hrel
    subst hg
    clear HL0
    by_cases k10 : p.k = 10
    · have e10 : (p.k == 10) = true := by simpa using k10
      have HPK : Hid (p.k = 9 ∨ p.k = 10) := .inr k10
      by_cases hl1 : p.l.length = 1
      · have HPL : Hid (p.l.length = 1) := hl1
        clear k10 hl1
        obtain ⟨b, o, ea, h7, hyi⟩ := HQ.out.2.2.1.part 0 (by rw [HPL.out]; omega)
        obtain ⟨y, hye⟩ : ∃ y, p.l = [y] := List.length_eq_one_iff.1 HPL.out
        have hy0 : p.l[0]'(by rw [HPL.out]; omega) = y := by simp [hye]
        rw [hy0] at h7 hyi
        obtain ⟨d0, d1, d2, d3, d4, d5, d6⟩ := h7
        simp only [Nat.zero_mul, Nat.add_zero] at d0 d1 d2 d3 d4 d5 d6
        have hbx := HQ.out.2.1.b
        obtain ⟨⟨q0, q1, q2, q3, q4, q5, q6⟩, qf⟩ := hbx
        simp only [Nat.zero_add] at q0 q1 q2 q3 q4 q5 q6
        have g0 := qf 0 (by omega)
        have g1 := qf 1 (by omega)
        have g2 := qf 2 (by omega)
        have g3 := qf 3 (by omega)
        have g4 := qf 4 (by omega)
        have g5 := qf 5 (by omega)
        have g6 := qf 6 (by omega)
        clear qf
        rw [ea] at q6
        rw [HPL.out] at q6
        have hbl : b < w.heap.size := HQ.out.2.2.2.1.own (by rw [hye]; simp) _ ea
        have nbH : b ≠ w.heap.size := by omega
        have HN : Hid (Below w.heap.size w (put7 wr w.heap.size y) ∧ LF w.heap.size y (put7 wr w.heap.size y) ∧ InW x y w (put7 wr w.heap.size y)) := inside_step HQ.out.1 HQ.out.2.1 HQ.out.2.2 hye HPK.out hyi
        have HM : Hid (y.sz < p.sz) := by
          have h1 := p.sz_eq
          rw [hye] at h1
          simp at h1
          show _ < _
          omega
        clear HQ HPK HPL ea hyi hye hy0 hbl
        go_wp2_with fail
        go_roundg y.sz
        case measure => exact HM.out
        case rel => exact ⟨y, rfl, HN⟩
      · have HPL : Hid (p.l.length ≠ 1) := hl1
        have el : ((p.l.length : Int) == 1) = false := by simp; omega
        clear k10 hl1
        have HN : Hid (InPost x w (.returned (.agg #[.int .i64 p.k, .int .i64 p.n, .int .i64 p.t.k, .slice p.t.a p.t.l.length p.t.c, .int .i64 p.f.k, .slice p.f.a p.f.l.length p.f.c, .slice p.a p.l.length p.c])) (put7 wr (w.heap.size + 1) p)) := inside_end HQ.out.1 HQ.out.2.1 HQ.out.2.2 (by exact fun h => HPL.out h.2)
        have hbx := HQ.out.2.1.b
        obtain ⟨e0, e1, e2, e3, e4, e5, e6⟩ := (put7_box (x := p) HQ.out.2.1.z.box).at7
        simp only [Nat.zero_add] at e0 e1 e2 e3 e4 e5 e6
        obtain ⟨⟨y0, y1, y2, y3, y4, y5, y6⟩, f0, f1, f2, f3, f4, f5, f6⟩ := HQ.out.2.1.z
        obtain ⟨⟨q0, q1, q2, q3, q4, q5, q6⟩, qf⟩ := hbx
        simp only [Nat.zero_add] at q0 q1 q2 q3 q4 q5 q6
        have g0 := qf 0 (by omega)
        have g1 := qf 1 (by omega)
        have g2 := qf 2 (by omega)
        have g3 := qf 3 (by omega)
        have g4 := qf 4 (by omega)
        have g5 := qf 5 (by omega)
        have g6 := qf 6 (by omega)
        clear qf
        clear HQ HPK HPL
        go_wp2_with fail
        refine bodyPost_ret (v := .agg #[.int .i64 p.k, .int .i64 p.n, .int .i64 p.t.k, .slice p.t.a p.t.l.length p.t.c, .int .i64 p.f.k, .slice p.f.a p.f.l.length p.f.c, .slice p.a p.l.length p.c]) ?_ rfl HN.out
        unfold put7 at e0 e1 e2 e3 e4 e5 e6
        simp [results, Tryz.results47, go_sem, e0, e1, e2, e3, e4, e5, e6]
    · have e10 : (p.k == 10) = false := by simpa using k10
      by_cases k9 : p.k = 9
      · have e9 : (p.k == 9) = true := by simpa using k9
        have HPK : Hid (p.k = 9 ∨ p.k = 10) := .inl k9
        by_cases hl1 : p.l.length = 1
        · have HPL : Hid (p.l.length = 1) := hl1
          clear k10 k9 hl1
          obtain ⟨b, o, ea, h7, hyi⟩ := HQ.out.2.2.1.part 0 (by rw [HPL.out]; omega)
          obtain ⟨y, hye⟩ : ∃ y, p.l = [y] := List.length_eq_one_iff.1 HPL.out
          have hy0 : p.l[0]'(by rw [HPL.out]; omega) = y := by simp [hye]
          rw [hy0] at h7 hyi
          obtain ⟨d0, d1, d2, d3, d4, d5, d6⟩ := h7
          simp only [Nat.zero_mul, Nat.add_zero] at d0 d1 d2 d3 d4 d5 d6
          have hbx := HQ.out.2.1.b
          obtain ⟨⟨q0, q1, q2, q3, q4, q5, q6⟩, qf⟩ := hbx
          simp only [Nat.zero_add] at q0 q1 q2 q3 q4 q5 q6
          have g0 := qf 0 (by omega)
          have g1 := qf 1 (by omega)
          have g2 := qf 2 (by omega)
          have g3 := qf 3 (by omega)
          have g4 := qf 4 (by omega)
          have g5 := qf 5 (by omega)
          have g6 := qf 6 (by omega)
          clear qf
          rw [ea] at q6
          rw [HPL.out] at q6
          have hbl : b < w.heap.size := HQ.out.2.2.2.1.own (by rw [hye]; simp) _ ea
          have nbH : b ≠ w.heap.size := by omega
          have HN : Hid (Below w.heap.size w (put7 wr w.heap.size y) ∧ LF w.heap.size y (put7 wr w.heap.size y) ∧ InW x y w (put7 wr w.heap.size y)) := inside_step HQ.out.1 HQ.out.2.1 HQ.out.2.2 hye HPK.out hyi
          have HM : Hid (y.sz < p.sz) := by
            have h1 := p.sz_eq
            rw [hye] at h1
            simp at h1
            show _ < _
            omega
          clear HQ HPK HPL ea hyi hye hy0 hbl
          go_wp2_with fail
          go_roundg y.sz
          case measure => exact HM.out
          case rel => exact ⟨y, rfl, HN⟩
        · have HPL : Hid (p.l.length ≠ 1) := hl1
          have el : ((p.l.length : Int) == 1) = false := by simp; omega
          clear k10 k9 hl1
          have HN : Hid (InPost x w (.returned (.agg #[.int .i64 p.k, .int .i64 p.n, .int .i64 p.t.k, .slice p.t.a p.t.l.length p.t.c, .int .i64 p.f.k, .slice p.f.a p.f.l.length p.f.c, .slice p.a p.l.length p.c])) (put7 wr (w.heap.size + 1) p)) := inside_end HQ.out.1 HQ.out.2.1 HQ.out.2.2 (by exact fun h => HPL.out h.2)
          have hbx := HQ.out.2.1.b
          obtain ⟨e0, e1, e2, e3, e4, e5, e6⟩ := (put7_box (x := p) HQ.out.2.1.z.box).at7
          simp only [Nat.zero_add] at e0 e1 e2 e3 e4 e5 e6
          obtain ⟨⟨y0, y1, y2, y3, y4, y5, y6⟩, f0, f1, f2, f3, f4, f5, f6⟩ := HQ.out.2.1.z
          obtain ⟨⟨q0, q1, q2, q3, q4, q5, q6⟩, qf⟩ := hbx
          simp only [Nat.zero_add] at q0 q1 q2 q3 q4 q5 q6
          have g0 := qf 0 (by omega)
          have g1 := qf 1 (by omega)
          have g2 := qf 2 (by omega)
          have g3 := qf 3 (by omega)
          have g4 := qf 4 (by omega)
          have g5 := qf 5 (by omega)
          have g6 := qf 6 (by omega)
          clear qf
          clear HQ HPK HPL
          go_wp2_with fail
          refine bodyPost_ret (v := .agg #[.int .i64 p.k, .int .i64 p.n, .int .i64 p.t.k, .slice p.t.a p.t.l.length p.t.c, .int .i64 p.f.k, .slice p.f.a p.f.l.length p.f.c, .slice p.a p.l.length p.c]) ?_ rfl HN.out
          unfold put7 at e0 e1 e2 e3 e4 e5 e6
          simp [results, Tryz.results47, go_sem, e0, e1, e2, e3, e4, e5, e6]
      · have e9 : (p.k == 9) = false := by simpa using k9
        have HPK : Hid (¬ (p.k = 9 ∨ p.k = 10)) := by show ¬ _; omega
        have HPL : Hid True := trivial
        clear k10 k9
        have HN : Hid (InPost x w (.returned (.agg #[.int .i64 p.k, .int .i64 p.n, .int .i64 p.t.k, .slice p.t.a p.t.l.length p.t.c, .int .i64 p.f.k, .slice p.f.a p.f.l.length p.f.c, .slice p.a p.l.length p.c])) (put7 wr (w.heap.size + 1) p)) := inside_end HQ.out.1 HQ.out.2.1 HQ.out.2.2 (by exact fun h => HPK.out h.1)
        have hbx := HQ.out.2.1.b
        obtain ⟨e0, e1, e2, e3, e4, e5, e6⟩ := (put7_box (x := p) HQ.out.2.1.z.box).at7
        simp only [Nat.zero_add] at e0 e1 e2 e3 e4 e5 e6
        obtain ⟨⟨y0, y1, y2, y3, y4, y5, y6⟩, f0, f1, f2, f3, f4, f5, f6⟩ := HQ.out.2.1.z
        obtain ⟨⟨q0, q1, q2, q3, q4, q5, q6⟩, qf⟩ := hbx
        simp only [Nat.zero_add] at q0 q1 q2 q3 q4 q5 q6
        have g0 := qf 0 (by omega)
        have g1 := qf 1 (by omega)
        have g2 := qf 2 (by omega)
        have g3 := qf 3 (by omega)
        have g4 := qf 4 (by omega)
        have g5 := qf 5 (by omega)
        have g6 := qf 6 (by omega)
        clear qf
        clear HQ HPK HPL
        go_wp2_with fail
        refine bodyPost_ret (v := .agg #[.int .i64 p.k, .int .i64 p.n, .int .i64 p.t.k, .slice p.t.a p.t.l.length p.t.c, .int .i64 p.f.k, .slice p.f.a p.f.l.length p.f.c, .slice p.a p.l.length p.c]) ?_ rfl HN.out
        unfold put7 at e0 e1 e2 e3 e4 e5 e6
        simp [results, Tryz.results47, go_sem, e0, e1, e2, e3, e4, e5, e6]
end Go.Proofs.YtnddkmccagiclabGreatDoor

/-
  What the call of term.Same answers at two terms that are alike.
-/
namespace Go.Proofs.YtnddkmccagiclabGreatDoor
open Go.RowKit

/-- A list of one term that lies in a block of its own. -/
def oneOf (g : Nat) (x : TT) : TT := ⟨0, 0, leaf 0, leaf 0, some ⟨g, 0, none⟩, 1, [x]⟩

theorem oneOf_in {w : World} {g : Nat} {x : TT} (h : At7 w g 0 x) (hx : x.In w) : (oneOf g x).In w := by
  refine TT.In_mk.2 ⟨leaf_in _ _, leaf_in _ _, fun j hj => ⟨g, 0, rfl, ?_⟩, fun y hy => ?_⟩
  · obtain rfl : j = 0 := by simp at hj; omega
    exact h
  · rcases List.mem_singleton.1 hy with rfl
    exact hx

theorem oneOf_bl {P : Nat → Prop} {g : Nat} {x : TT} (h : P g) (hx : x.Bl P) : (oneOf g x).Bl P := by
  refine TT.Bl_mk.2 ⟨leaf_bl _ _, leaf_bl _ _, fun _ y hy => by cases hy; exact h, fun y hy => ?_⟩
  rcases List.mem_singleton.1 hy with rfl
  exact hx

theorem leaf_tok (k : Int) : (leaf k).hgt ≤ 1000 ∧ (leaf k).sm := by
  refine ⟨?_, Tr.sm_mk.2 ⟨by simp, fun t h => by cases h⟩⟩
  rw [leaf, Tr.hgt_mk]; simp

theorem oneOf_tok {g : Nat} {x : TT} (hx : x.tok) : (oneOf g x).tok := by
  refine TT.tok_mk.2 ⟨leaf_tok 0, leaf_tok 0, fun y hy => ?_⟩
  rcases List.mem_singleton.1 hy with rfl
  exact hx

theorem tleaf_tok (k n : Int) : (tleaf k n).tok := TT.tok_mk.2 ⟨leaf_tok 0, leaf_tok 0, fun y hy => by cases hy⟩
end Go.Proofs.YtnddkmccagiclabGreatDoor

/-
  What the call of term.Nodes answers.
-/
namespace Go.Proofs.YtnddkmccagiclabGreatDoor
open Go.RowKit

def cells1 (ps : List TT) : List Value := ps.map fun p => .slice p.a p.l.length p.c

/-- Those that have parts. -/
def kids1 : List TT → List TT
  | x :: xs => (if x.l.length = 0 then [] else [x]) ++ kids1 xs
  | [] => []

def mass1 (ps : List TT) : Nat := (ps.map TT.sz).sum
/-- How many terms are still to be counted. -/
def pend (ps : List TT) : Nat := (ps.map fun p => (p.l.map TT.sz).sum).sum

theorem kids1_mass : ∀ xs : List TT, mass1 (kids1 xs) ≤ (xs.map TT.sz).sum
  | [] => by simp [kids1, mass1]
  | x :: xs => by
    have := kids1_mass xs
    simp only [kids1, mass1, List.map_append, List.sum_append_nat, List.map_cons, List.sum_cons] at this ⊢
    split
    · simp; omega
    · simp; omega

theorem kids1_pend : ∀ xs : List TT, pend (kids1 xs) + xs.length = (xs.map TT.sz).sum
  | [] => by simp [kids1, pend]
  | x :: xs => by
    have := kids1_pend xs
    have h := x.sz_eq
    simp only [kids1, pend, List.map_append, List.sum_append_nat, List.map_cons, List.sum_cons, List.length_cons] at this ⊢
    split
    · rename_i h0
      have : x.l = [] := List.length_eq_zero_iff.1 h0
      rw [this] at h
      simp at h ⊢
      omega
    · simp; omega

theorem kids1_snoc : ∀ (l : List TT) (j : Nat) (hj : j < l.length), kids1 (l.take (j + 1)) = kids1 (l.take j) ++ (if l[j].l.length = 0 then [] else [l[j]])
  | x :: l, 0, _ => by simp [kids1]
  | x :: l, j + 1, hj => by
    have := kids1_snoc l j (by simpa using hj)
    simp only [List.take_succ_cons, kids1, List.getElem_cons_succ]
    rw [this, List.append_assoc]
  | [], j, hj => by simp at hj

def Pr1 (B : Nat) (w : World) (p : TT) : Prop := p.In w ∧ p.Bl (· < B)
theorem Pr1.low {B : Nat} {w w' : World} {p : TT} (h : Pr1 B w p) (hb : Below B w w') : Pr1 B w' p :=
  ⟨h.1.congr (P := (· < B)) (fun b hb' o => hb.cell (p := ⟨b, o, none⟩) hb') h.2, h.2⟩

structure Stk1 (B : Nat) (v : Value) (ps : List TT) (w : World) : Prop where
  own : w.ownsRow B 25 1 v ps.length (cells1 ps)
  ins : ∀ p, p ∈ ps → Pr1 B w p

theorem Stk1.len {ps : List TT} : ps.length ≤ mass1 ps := by
  induction ps with
  | nil => simp
  | cons p r ih => have := p.sz_pos; simp only [mass1, List.map_cons, List.sum_cons, List.length_cons] at ih ⊢; omega

theorem Tryz.info25 : (Tryz.prog.info? 25).map (fun i => (i.zero, i.size, i.bytes)) = some (some (.slice none 0 0), 1, 24) := by kernel_rfl

theorem len_sum : ∀ l : List TT, l.length ≤ (l.map TT.sz).sum
  | [] => by simp
  | u :: r => by have := u.sz_pos; have := len_sum r; simp only [List.length_cons, List.map_cons, List.sum_cons]; omega
end Go.Proofs.YtnddkmccagiclabGreatDoor

/-
  Casts of a term in a row of their own, and a row of terms that are still to be looked at, side by side; no program's run in it.
-/
namespace Go.Proofs.YtnddkmccagiclabGreatDoor
open Go.RowKit

structure SiteT where
  n : Int
  f : Tr
  t : Tr

def SiteT.m (s : SiteT) : Int × Ty × Ty := (s.n, s.f.ty, s.t.ty)

def cell5 (s : SiteT) : List Value := [.int .i64 s.n, .int .i64 s.f.k, .slice s.f.a s.f.l.length s.f.c, .int .i64 s.t.k, .slice s.t.a s.t.l.length s.t.c]
def cells5 (ss : List SiteT) : List Value := ss.flatMap cell5
theorem cells5_append (a b : List SiteT) : cells5 (a ++ b) = cells5 a ++ cells5 b := by simp [cells5]
theorem cells5_one (s : SiteT) : cells5 [s] = cell5 s := by simp [cells5]
theorem cells5_at : ∀ (l : List SiteT) (j : Nat) (h : j < l.length) (i : Nat), i < 5 → (cells5 l)[j * 5 + i]? = (cell5 l[j])[i]?
  | [], j, h, _, _ => by simp at h
  | x :: r, 0, _, i, hi => by
    have : cells5 (x :: r) = cell5 x ++ cells5 r := by simp [cells5]
    rw [this, List.getElem?_append_left (by simp [cell5]; omega)]
    simp
  | x :: r, j + 1, h, i, hi => by
    have ih := cells5_at r j (by simpa using h) i hi
    have e : cells5 (x :: r) = cell5 x ++ cells5 r := by simp [cells5]
    rw [e, List.getElem?_append_right (by simp [cell5]; omega)]
    have : (j + 1) * 5 + i - (cell5 x).length = j * 5 + i := by simp [cell5]; omega
    rw [this]
    simpa using ih

/-- The casts' types are not too deep. -/
def TT.cok : TT → Prop
  | ⟨k, _, t, f, _, _, l⟩ => (k = 10 → (t.right ∧ t.hgt ≤ 1000) ∧ f.right ∧ f.hgt ≤ 1000) ∧ ∀ y, y ∈ l → y.cok
theorem TT.cok_mk {k n : Int} {t f : Tr} {a : Option Addr} {c : Nat} {l : List TT} : (TT.mk k n t f a c l).cok ↔ (k = 10 → (t.right ∧ t.hgt ≤ 1000) ∧ f.right ∧ f.hgt ≤ 1000) ∧ ∀ y, y ∈ l → y.cok := by
  rw [TT.cok]
theorem TT.cok.top {x : TT} (h : x.cok) : x.k = 10 → (x.t.right ∧ x.t.hgt ≤ 1000) ∧ x.f.right ∧ x.f.hgt ≤ 1000 := by cases x; exact (TT.cok_mk.1 h).1
theorem TT.cok.mem {x y : TT} (h : x.cok) (hy : y ∈ x.l) : y.cok := by
  obtain ⟨k, n, t, f, a, c, l⟩ := x
  exact (TT.cok_mk.1 h).2 y hy

theorem cok_of (m : Nat) (hm : m ≤ 1000) : ∀ x : TT, (∀ s, s ∈ sitesM x.tm → goodY m s.2.1 = true ∧ goodY m s.2.2 = true) → x.cok := by
  intro x
  induction x using TT.ind with
  | h k n t f a c l ih =>
    intro h
    rw [TT.tm_mk, sitesM_mk] at h
    refine TT.cok_mk.2 ⟨fun hk => ?_, fun y hy => ih y hy fun s hs => h s ?_⟩
    · have := h (n, f.ty, t.ty) (by simp [hk])
      have h1 := good_facts hm (t := f) (by rw [goodT_eq]; exact this.1)
      have h2 := good_facts hm (t := t) (by rw [goodT_eq]; exact this.2)
      exact ⟨⟨h2.1, h2.2.1⟩, h1.1, h1.2.1⟩
    · exact List.mem_append.2 (.inr (List.mem_flatMap.2 ⟨y.tm, List.mem_map.2 ⟨y, hy, rfl⟩, hs⟩))

/-- The two rows. -/
structure SI (B : Nat) (v u : Value) (ps : List TT) (ss : List SiteT) (w : World) : Prop where
  ov : w.ownsRow B 27 7 v ps.length (cells7 ps)
  ou : w.ownsRow B 52 5 u ss.length (cells5 ss)
  ne : ∀ g, v.ownBlock = some g → u.ownBlock ≠ some g
  pi : ∀ p, p ∈ ps → Pr1 B w p ∧ p.cok
  si : ∀ s, s ∈ ss → s.f.In w ∧ s.t.In w ∧ s.f.Bl (fun b => B ≤ b ∧ some b ≠ v.ownBlock ∧ some b ≠ u.ownBlock) ∧ s.t.Bl (fun b => B ≤ b ∧ some b ≠ v.ownBlock ∧ some b ≠ u.ownBlock)

theorem SI.below {B : Nat} {v u : Value} {ps : List TT} {ss : List SiteT} {w w' : World} (h : SI B v u ps ss w) (hb : Below w.heap.size w w') (hB : B ≤ w.heap.size) : SI B v u ps ss w' :=
  ⟨ownsRow_low h.ov hb, ownsRow_low h.ou hb, h.ne, fun p hp => ⟨(h.pi p hp).1.low (hb.mono hB), (h.pi p hp).2⟩, fun s hs => ⟨(h.si s hs).1.below hb, (h.si s hs).2.1.below hb, (h.si s hs).2.2⟩⟩

/-- A row that other blocks' growing leaves alone. -/
theorem ownsRow_far {w2 w3 : World} {B e size n : Nat} {v u : Value} {xs : List Value} (h : w2.ownsRow B e size u n xs) (hblk : ∀ k, k < w2.heap.size → some k ≠ v.ownBlock → w3.heap[k]? = w2.heap[k]?) (hne : ∀ g, v.ownBlock = some g → u.ownBlock ≠ some g) : w3.ownsRow B e size u n xs := by
  refine ⟨h.1, ?_⟩
  rcases h.2 with hn | ⟨g, cap, cur, hv, hb, hg, rest⟩
  · exact .inl hn
  · refine .inr ⟨g, cap, cur, hv, hb, (hblk g (Array.getElem?_eq_some_iff.1 hg).1 fun e => hne g e.symm ?_).trans hg, rest⟩
    rw [hv]; rfl

theorem SI.grow {B : Nat} {v u : Value} {ps : List TT} {ss : List SiteT} {w2 w3 : World} {x : Value} {gg : Nat} (h : SI B v u ps ss w2) (hB : B ≤ w2.heap.size) (hx : x = v ∨ x = u) (hblk : ∀ k, k < w2.heap.size → some k ≠ x.ownBlock → w3.heap[k]? = w2.heap[k]?) (hat : x.ownBlock = some gg ∨ w2.heap.size ≤ gg) :
    (∀ p, p ∈ ps → Pr1 B w3 p ∧ p.cok) ∧ ∀ s, s ∈ ss → s.f.In w3 ∧ s.t.In w3 ∧ s.f.Bl (fun b => (B ≤ b ∧ some b ≠ v.ownBlock ∧ some b ≠ u.ownBlock) ∧ b ≠ gg) ∧ s.t.Bl (fun b => (B ≤ b ∧ some b ≠ v.ownBlock ∧ some b ≠ u.ownBlock) ∧ b ≠ gg) := by
  have hxo : ∀ k, x.ownBlock = some k → B ≤ k := fun k hk => by
    rcases hx with rfl | rfl
    · exact (h.ov.lt k hk).1
    · exact (h.ou.lt k hk).1
  refine ⟨fun p hp => ⟨⟨(h.pi p hp).1.1.congr (P := (· < B)) (fun b hb o => ?_) (h.pi p hp).1.2, (h.pi p hp).1.2⟩, (h.pi p hp).2⟩, fun s hs => ?_⟩
  · exact World.cell?_of_block (a := ⟨b, o, none⟩) (hblk b (by omega) fun e => by have := hxo b e.symm; omega)
  · obtain ⟨h1, h2, h3, h4⟩ := h.si s hs
    have key : ∀ b, b < w2.heap.size ∧ (B ≤ b ∧ some b ≠ v.ownBlock ∧ some b ≠ u.ownBlock) → some b ≠ x.ownBlock := by
      intro b hb
      rcases hx with rfl | rfl
      · exact hb.2.2.1
      · exact hb.2.2.2
    have hc : ∀ b, b < w2.heap.size ∧ (B ≤ b ∧ some b ≠ v.ownBlock ∧ some b ≠ u.ownBlock) → ∀ o, w3.cell? ⟨b, o, none⟩ = w2.cell? ⟨b, o, none⟩ := fun b hb o =>
      World.cell?_of_block (a := ⟨b, o, none⟩) (hblk b hb.1 (key b hb))
    have hg : ∀ b, b < w2.heap.size ∧ (B ≤ b ∧ some b ≠ v.ownBlock ∧ some b ≠ u.ownBlock) → (B ≤ b ∧ some b ≠ v.ownBlock ∧ some b ≠ u.ownBlock) ∧ b ≠ gg := by
      intro b hb
      refine ⟨hb.2, fun e => ?_⟩
      subst e
      rcases hat with e | e
      · exact key b hb e.symm
      · omega
    exact ⟨h1.congr (P := fun b => b < w2.heap.size ∧ (B ≤ b ∧ some b ≠ v.ownBlock ∧ some b ≠ u.ownBlock)) hc (h1.bl.and h3), h2.congr (P := fun b => b < w2.heap.size ∧ (B ≤ b ∧ some b ≠ v.ownBlock ∧ some b ≠ u.ownBlock)) hc (h2.bl.and h4), (h1.bl.and h3).mono hg, (h2.bl.and h4).mono hg⟩

/-- One more term. -/
theorem SI.pushT {B : Nat} {v u : Value} {ps : List TT} {ss : List SiteT} {w2 w3 : World} {c : TT} {gg cap1 : Nat} {X : Obj} (h : SI B v u ps ss w2) (hB : B ≤ w2.heap.size) (hc : Pr1 B w2 c ∧ c.cok)
    (hown : w3.ownsRow B 27 7 (.slice (some ⟨gg, 0, none⟩) (ps.length + 1) cap1) (ps.length + 1) (cells7 ps ++ cells7 [c])) (hgrow : (w2.alloc X).grownBy w3 v.ownBlock) (hat : v.ownBlock = some gg ∨ gg = w2.heap.size + 1) :
    SI B (.slice (some ⟨gg, 0, none⟩) (ps.length + 1) cap1) u (ps ++ [c]) ss w3 ∧ ∀ k, k < w2.heap.size → some k ≠ v.ownBlock → w3.heap[k]? = w2.heap[k]? := by
  have hblk : ∀ k, k < w2.heap.size → some k ≠ v.ownBlock → w3.heap[k]? = w2.heap[k]? := fun k hk hn => by
    rw [hgrow.block k (by simp; omega) hn]
    exact ((Below.refl _ w2).alloc (Nat.le_refl _) X).block k hk
  have hat' : v.ownBlock = some gg ∨ w2.heap.size ≤ gg := by
    rcases hat with e | e
    · exact .inl e
    · exact .inr (by omega)
  obtain ⟨g1, g2⟩ := h.grow hB (.inl rfl) hblk hat'
  have hcw : Pr1 B w3 c := ⟨hc.1.1.congr (P := (· < B)) (fun b hb o => World.cell?_of_block (a := ⟨b, o, none⟩) (hblk b (by omega) fun e => by have := (h.ov.lt b e.symm).1; omega)) hc.1.2, hc.1.2⟩
  refine ⟨⟨by rw [cells7_append, List.length_append, List.length_singleton]; exact hown, ownsRow_far h.ou hblk h.ne, fun g e => ?_, fun p hp => ?_, fun s hs => ?_⟩, hblk⟩
  · have : gg = g := Option.some.inj e
    subst this
    rcases hat with e | e
    · exact h.ne _ e
    · intro e2
      have := (h.ou.lt _ e2).2
      omega
  · rcases List.mem_append.1 hp with hp | hp
    · exact g1 p hp
    · rcases List.mem_singleton.1 hp with rfl
      exact ⟨hcw, hc.2⟩
  · obtain ⟨h1, h2, h3, h4⟩ := g2 s hs
    exact ⟨h1, h2, h3.mono fun b hb => ⟨hb.1.1, fun e => hb.2 (Option.some.inj e), hb.1.2.2⟩, h4.mono fun b hb => ⟨hb.1.1, fun e => hb.2 (Option.some.inj e), hb.1.2.2⟩⟩

/-- One more cast. -/
theorem SI.pushS {B : Nat} {v u : Value} {ps : List TT} {ss : List SiteT} {w2 w3 : World} {s : SiteT} {gg cap1 : Nat} {X : Obj} (h : SI B v u ps ss w2) (hB : B ≤ w2.heap.size) (hf : s.f.In w2) (ht : s.t.In w2) (bf : s.f.Bl (fun b => B ≤ b ∧ some b ≠ v.ownBlock ∧ some b ≠ u.ownBlock)) (bt : s.t.Bl (fun b => B ≤ b ∧ some b ≠ v.ownBlock ∧ some b ≠ u.ownBlock))
    (hown : w3.ownsRow B 52 5 (.slice (some ⟨gg, 0, none⟩) (ss.length + 1) cap1) (ss.length + 1) (cells5 ss ++ cells5 [s])) (hgrow : (w2.alloc X).grownBy w3 u.ownBlock) (hat : u.ownBlock = some gg ∨ gg = w2.heap.size + 1) :
    SI B v (.slice (some ⟨gg, 0, none⟩) (ss.length + 1) cap1) ps (ss ++ [s]) w3 ∧ ∀ k, k < w2.heap.size → some k ≠ u.ownBlock → w3.heap[k]? = w2.heap[k]? := by
  have hblk : ∀ k, k < w2.heap.size → some k ≠ u.ownBlock → w3.heap[k]? = w2.heap[k]? := fun k hk hn => by
    rw [hgrow.block k (by simp; omega) hn]
    exact ((Below.refl _ w2).alloc (Nat.le_refl _) X).block k hk
  have hat' : u.ownBlock = some gg ∨ w2.heap.size ≤ gg := by
    rcases hat with e | e
    · exact .inl e
    · exact .inr (by omega)
  have h' : SI B v u ps (ss ++ [s]) w2 → True := fun _ => trivial
  obtain ⟨g1, g2⟩ := h.grow hB (.inr rfl) hblk hat'
  have hne2 : ∀ g, u.ownBlock = some g → v.ownBlock ≠ some g := fun g e e2 => h.ne g e2 e
  have hs3 : s.f.In w3 ∧ s.t.In w3 ∧ s.f.Bl (fun b => (B ≤ b ∧ some b ≠ v.ownBlock ∧ some b ≠ u.ownBlock) ∧ b ≠ gg) ∧ s.t.Bl (fun b => (B ≤ b ∧ some b ≠ v.ownBlock ∧ some b ≠ u.ownBlock) ∧ b ≠ gg) := by
    have hc : ∀ b, b < w2.heap.size ∧ (B ≤ b ∧ some b ≠ v.ownBlock ∧ some b ≠ u.ownBlock) → ∀ o, w3.cell? ⟨b, o, none⟩ = w2.cell? ⟨b, o, none⟩ := fun b hb o =>
      World.cell?_of_block (a := ⟨b, o, none⟩) (hblk b hb.1 hb.2.2.2)
    have hg : ∀ b, b < w2.heap.size ∧ (B ≤ b ∧ some b ≠ v.ownBlock ∧ some b ≠ u.ownBlock) → (B ≤ b ∧ some b ≠ v.ownBlock ∧ some b ≠ u.ownBlock) ∧ b ≠ gg := by
      intro b hb
      refine ⟨hb.2, fun e => ?_⟩
      subst e
      rcases hat with e | e
      · exact hb.2.2.2 e.symm
      · omega
    exact ⟨hf.congr (P := fun b => b < w2.heap.size ∧ (B ≤ b ∧ some b ≠ v.ownBlock ∧ some b ≠ u.ownBlock)) hc (hf.bl.and bf), ht.congr (P := fun b => b < w2.heap.size ∧ (B ≤ b ∧ some b ≠ v.ownBlock ∧ some b ≠ u.ownBlock)) hc (ht.bl.and bt), (hf.bl.and bf).mono hg, (ht.bl.and bt).mono hg⟩
  refine ⟨⟨ownsRow_far h.ov hblk hne2, by rw [cells5_append, List.length_append, List.length_singleton]; exact hown, fun g e => ?_, g1, fun q hq => ?_⟩, hblk⟩
  · intro e2
    have : gg = g := Option.some.inj e2
    subst this
    rcases hat with e3 | e3
    · exact h.ne _ e e3
    · have := (h.ov.lt _ e).2
      omega
  · have key : q.f.In w3 ∧ q.t.In w3 ∧ q.f.Bl (fun b => (B ≤ b ∧ some b ≠ v.ownBlock ∧ some b ≠ u.ownBlock) ∧ b ≠ gg) ∧ q.t.Bl (fun b => (B ≤ b ∧ some b ≠ v.ownBlock ∧ some b ≠ u.ownBlock) ∧ b ≠ gg) := by
      rcases List.mem_append.1 hq with hq | hq
      · exact g2 q hq
      · rcases List.mem_singleton.1 hq with rfl
        exact hs3
    obtain ⟨h1, h2, h3, h4⟩ := key
    exact ⟨h1, h2, h3.mono fun b hb => ⟨hb.1.1, hb.1.2.1, fun e => hb.2 (Option.some.inj e)⟩, h4.mono fun b hb => ⟨hb.1.1, hb.1.2.1, fun e => hb.2 (Option.some.inj e)⟩⟩

/-- A row of casts lies in the world. -/
def SL (w : World) (a : Option Addr) (ss : List SiteT) : Prop :=
  ∀ j (h : j < ss.length), ∃ b o, a = some ⟨b, o, none⟩ ∧ w.cell? ⟨b, o + j * 5, none⟩ = some (.int .i64 ss[j].n) ∧ w.cell? ⟨b, o + j * 5 + 1, none⟩ = some (.int .i64 ss[j].f.k) ∧ w.cell? ⟨b, o + j * 5 + 2, none⟩ = some (.slice ss[j].f.a ss[j].f.l.length ss[j].f.c) ∧ w.cell? ⟨b, o + j * 5 + 3, none⟩ = some (.int .i64 ss[j].t.k) ∧ w.cell? ⟨b, o + j * 5 + 4, none⟩ = some (.slice ss[j].t.a ss[j].t.l.length ss[j].t.c) ∧ ss[j].f.In w ∧ ss[j].t.In w

theorem SI.list {B : Nat} {v u : Value} {ps : List TT} {ss : List SiteT} {w : World} (h : SI B v u ps ss w) : ∃ a c, u = .slice a ss.length c ∧ (SL w a ss ∧ ss.length ≤ c) := by
  rcases h.ou.2 with ⟨rfl, h0⟩ | ⟨g, cap, cur, rfl, hg, _, hcl, _⟩
  · have : ss = [] := List.length_eq_zero_iff.1 h0
    subst this
    exact ⟨none, 0, rfl, fun j hj => absurd hj (by simp), by simp⟩
  · refine ⟨_, _, rfl, fun j hj => ⟨g, 0, rfl, ?_⟩, hcl⟩
    have hc : ∀ i, i < 5 → w.cell? ⟨g, 0 + j * 5 + i, none⟩ = _ := fun i hi => by rw [Nat.zero_add, h.ou.cellAt (j * 5 + i) (by omega), cells5_at ss j hj i hi]
    exact ⟨hc 0 (by omega), hc 1 (by omega), hc 2 (by omega), hc 3 (by omega), hc 4 (by omega), (h.si _ (List.getElem_mem hj)).1, (h.si _ (List.getElem_mem hj)).2.1⟩

/-- What is still to come. -/
def todo (ps : List TT) : List (Int × Ty × Ty) := ps.reverse.flatMap fun p => sitesM p.tm

theorem todo_snoc (us : List TT) (p : TT) : todo (us ++ [p]) = sitesM p.tm ++ todo us := by simp [todo]

theorem sitesM_tt (p : TT) : sitesM p.tm = (if p.k = 10 then [(p.n, p.f.ty, p.t.ty)] else []) ++ todo (p.l.reverse) := by
  obtain ⟨k, n, t, f, a, c, l⟩ := p
  rw [TT.tm_mk, sitesM_mk]
  simp [todo, List.flatMap_map]

theorem todo_append (us vs : List TT) : todo (us ++ vs) = todo vs ++ todo us := by simp [todo]
end Go.Proofs.YtnddkmccagiclabGreatDoor

/-
  Terms that are still to be erased, each with the place where what is left of it belongs; what all of them make together; no program's run in it.
-/
namespace Go.Proofs.YtnddkmccagiclabGreatDoor
open Go.RowKit

/-- A term, and where what is left of it belongs. -/
structure Ho where
  p : TT
  b : Nat
  j : Nat

def cell8 (h : Ho) : List Value := [.int .i64 h.p.k, .int .i64 h.p.n, .int .i64 h.p.t.k, .slice h.p.t.a h.p.t.l.length h.p.t.c, .int .i64 h.p.f.k, .slice h.p.f.a h.p.f.l.length h.p.f.c, .slice h.p.a h.p.l.length h.p.c, .pointer (some ⟨h.b, h.j * 7, none⟩)]
def cells8 (hs : List Ho) : List Value := hs.flatMap cell8
theorem cells8_append (a b : List Ho) : cells8 (a ++ b) = cells8 a ++ cells8 b := by simp [cells8]
theorem cells8_one (h : Ho) : cells8 [h] = cell8 h := by simp [cells8]
theorem cells8_length (l : List Ho) : (cells8 l).length = l.length * 8 := by
  induction l with
  | nil => rfl
  | cons a r ih => simp [cells8, cell8] at ih ⊢; omega
theorem cells8_at : ∀ (l : List Ho) (j : Nat) (h : j < l.length) (i : Nat), i < 8 → (cells8 l)[j * 8 + i]? = (cell8 l[j])[i]?
  | [], j, h, _, _ => by simp at h
  | x :: r, 0, _, i, hi => by
    have : cells8 (x :: r) = cell8 x ++ cells8 r := by simp [cells8]
    rw [this, List.getElem?_append_left (by simp [cell8]; omega)]
    simp
  | x :: r, j + 1, h, i, hi => by
    have ih := cells8_at r j (by simpa using h) i hi
    have e : cells8 (x :: r) = cell8 x ++ cells8 r := by simp [cells8]
    rw [e, List.getElem?_append_right (by simp [cell8]; omega)]
    have : (j + 1) * 8 + i - (cell8 x).length = j * 8 + i := by simp [cell8]; omega
    rw [this]
    simpa using ih

/-- A term lies at a place. -/
def Lies (B : Nat) (w : World) (b j : Nat) (m : Tm) : Prop := ∃ y : TT, At7 w b (j * 7) y ∧ y.In w ∧ y.tm = m ∧ y.Bl (B ≤ ·)

/-- A cell that belongs to a place that is still to be written. -/
def inHole (hs : List Ho) (b i : Nat) : Prop := ∃ h, h ∈ hs ∧ h.b = b ∧ h.j * 7 ≤ i ∧ i < h.j * 7 + 7

/-- The place can be written. -/
def Open7 (w : World) (b j : Nat) : Prop := ∀ i, i < 7 → (∃ u, w.cell? ⟨b, j * 7 + i, none⟩ = some u) ∧ w.frozen? ⟨b, j * 7 + i, none⟩ = false

theorem Open7.of {w w' : World} {b j : Nat} (h : Open7 w b j) (e : w'.heap[b]? = w.heap[b]?) : Open7 w' b j := fun i hi => by
  obtain ⟨⟨u, hu⟩, hf⟩ := h i hi
  exact ⟨⟨u, (World.cell?_of_block (a := ⟨b, j * 7 + i, none⟩) e).trans hu⟩, (World.frozen?_of_block (a := ⟨b, j * 7 + i, none⟩) e).trans hf⟩

theorem Open7.set {w : World} {b j b' o' : Nat} {v : Value} (h : Open7 w b j) : Open7 (w.setCell ⟨b', o', none⟩ v) b j := fun i hi => by
  obtain ⟨⟨u, hu⟩, hf⟩ := h i hi
  refine ⟨?_, by rw [World.frozen?_setCell]; exact hf⟩
  by_cases e : b' = b
  · subst e
    exact ⟨_, set_get hu⟩
  · exact ⟨u, by rw [World.cell?_setCell_other _ _ _ _ (fun e2 => e (congrArg Addr.block e2))]; exact hu⟩

theorem Open7.put {w : World} {b j b' o' : Nat} {x : TT} (h : Open7 w b j) : Open7 (put7at w b' o' x) b j := h.set.set.set.set.set.set.set

/-- The state of the loop: the row of what is left; the blocks of what was made; what all comes to, once the places are written. -/
structure EI (B : Nat) (m : Tm) (WB : Nat) (v : Value) (hs : List Ho) (D : Nat → Prop) (w : World) : Prop where
  own : w.ownsRow B 82 8 v hs.length (cells8 hs)
  d : ∀ b, D b → B ≤ b ∧ b < w.heap.size ∧ some b ≠ v.ownBlock
  ho : ∀ h, h ∈ hs → Pr1 B w h.p ∧ D h.b ∧ Open7 w h.b h.j
  nd : (hs.map fun h => (h.b, h.j)).Nodup
  k : ∀ w', (∀ b i, D b → ¬ inHole hs b i → w'.cell? ⟨b, i, none⟩ = w.cell? ⟨b, i, none⟩) → (∀ h, h ∈ hs → Lies B w' h.b h.j (eraseM h.p.tm)) → Lies B w' WB 0 m

/-- At the end. -/
theorem EI.ends {B WB : Nat} {m : Tm} {v : Value} {D : Nat → Prop} {w : World} (h : EI B m WB v [] D w) : Lies B w WB 0 m :=
  h.k w (fun _ _ _ _ => rfl) fun q hq => by cases hq

/-- The children of a term, with their places in a new row. -/
def kidsH (g : Nat) (l : List TT) : List Ho := (List.range l.length).pmap (fun j hj => ⟨l[j]'(by simpa using hj), g, j⟩) (fun j hj => hj)

theorem kidsH_length (g : Nat) (l : List TT) : (kidsH g l).length = l.length := by simp [kidsH]
theorem kidsH_at (g : Nat) (l : List TT) (j : Nat) (h : j < (kidsH g l).length) (h' : j < l.length) : (kidsH g l)[j] = ⟨l[j], g, j⟩ := by simp [kidsH]

theorem put7at_other {w : World} {J o i : Nat} {x : TT} (h : i < o ∨ o + 7 ≤ i) : (put7at w J o x).cell? ⟨J, i, none⟩ = w.cell? ⟨J, i, none⟩ := by
  have n : ∀ k, k < 7 → (⟨J, o + k, none⟩ : Addr) ≠ ⟨J, i, none⟩ := fun k hk e => by
    have := congrArg Addr.off e
    simp only at this
    omega
  unfold put7at
  rw [World.cell?_setCell_other _ _ _ _ (n 6 (by omega)), World.cell?_setCell_other _ _ _ _ (n 5 (by omega)), World.cell?_setCell_other _ _ _ _ (n 4 (by omega)), World.cell?_setCell_other _ _ _ _ (n 3 (by omega)), World.cell?_setCell_other _ _ _ _ (n 2 (by omega)), World.cell?_setCell_other _ _ _ _ (n 1 (by omega))]
  exact World.cell?_setCell_other _ _ _ _ (n 0 (by omega))

theorem put7at_at7 {w : World} {J j : Nat} {x : TT} (h : Open7 w J j) : At7 (put7at w J (j * 7) x) J (j * 7) x := by
  obtain ⟨u0, h0⟩ := (h 0 (by omega)).1
  obtain ⟨u1, h1⟩ := (h 1 (by omega)).1
  obtain ⟨u2, h2⟩ := (h 2 (by omega)).1
  obtain ⟨u3, h3⟩ := (h 3 (by omega)).1
  obtain ⟨u4, h4⟩ := (h 4 (by omega)).1
  obtain ⟨u5, h5⟩ := (h 5 (by omega)).1
  obtain ⟨u6, h6⟩ := (h 6 (by omega)).1
  refine ⟨?_, ?_, ?_, ?_, ?_, ?_, ?_⟩
  · simpa using put7at_get (o := j * 7) x h0
  · simpa using put7at_get (o := j * 7) x h1
  · simpa using put7at_get (o := j * 7) x h2
  · simpa using put7at_get (o := j * 7) x h3
  · simpa using put7at_get (o := j * 7) x h4
  · simpa using put7at_get (o := j * 7) x h5
  · simpa using put7at_get (o := j * 7) x h6

theorem kidsH_mem {g : Nat} {l : List TT} {h : Ho} (hm : h ∈ kidsH g l) : ∃ (j : Nat) (hj : j < l.length), h = ⟨l[j], g, j⟩ := by
  obtain ⟨j, hj, rfl⟩ := List.getElem_of_mem hm
  have hj' : j < l.length := by rwa [kidsH_length] at hj
  exact ⟨j, hj', kidsH_at g l j hj hj'⟩

/-- One more round: the last place is written, its parts are put behind. -/
theorem EI.step {B WB g : Nat} {m : Tm} {v v2 : Value} {us : List Ho} {h : Ho} {q : TT} {D : Nat → Prop} {w w2 : World} (e : EI B m WB v (us ++ [h]) D w) (hq : eraseM h.p.tm = ⟨q.k, q.n, anyY, anyY, (q.l.map TT.tm).map eraseM⟩)
    (hqi : ∀ y, y ∈ q.l → Pr1 B w2 y) (hg : B ≤ g) (hgw : w.heap.size ≤ g) (hg2 : g < w2.heap.size) (hgo : ∀ j, j < q.l.length → Open7 w2 g j) (hown : w2.ownsRow B 82 8 v2 (us ++ kidsH g q.l).length (cells8 (us ++ kidsH g q.l)))
    (hv2 : ∀ b, v2.ownBlock = some b → v.ownBlock = some b ∨ w.heap.size ≤ b) (hv2g : v2.ownBlock ≠ some g)
    (hlow : Below B w w2) (hD : ∀ b, D b → w2.heap[b]? = w.heap[b]?) :
    EI B m WB v2 (us ++ kidsH g q.l) (fun b => D b ∨ b = g) (put7at w2 h.b (h.j * 7) ⟨q.k, q.n, leaf 0, leaf 0, some ⟨g, 0, none⟩, q.l.length, q.l⟩) := by
  have hk := put7at_kept (w := w2) (J := h.b) (o := h.j * 7) (x := ⟨q.k, q.n, leaf 0, leaf 0, some ⟨g, 0, none⟩, q.l.length, q.l⟩)
  obtain ⟨W, hW⟩ : ∃ W, W = put7at w2 h.b (h.j * 7) ⟨q.k, q.n, leaf 0, leaf 0, some ⟨g, 0, none⟩, q.l.length, q.l⟩ := ⟨_, rfl⟩
  have hWs : W.heap.size = w2.heap.size := by rw [hW, put7at_size]
  obtain ⟨hhp, hhD, hhO⟩ := e.ho h (by simp)
  obtain ⟨hB1, hB2, hB3⟩ := e.d h.b hhD
  have hO2 : Open7 w2 h.b h.j := hhO.of (hD _ hhD)
  have h7 : At7 W h.b (h.j * 7) ⟨q.k, q.n, leaf 0, leaf 0, some ⟨g, 0, none⟩, q.l.length, q.l⟩ := by rw [hW]; exact put7at_at7 hO2
  have hoth : ∀ i, i < h.j * 7 ∨ h.j * 7 + 7 ≤ i → W.cell? ⟨h.b, i, none⟩ = w2.cell? ⟨h.b, i, none⟩ := fun i hi => by rw [hW]; exact put7at_other hi
  have hopen : ∀ b j, Open7 w2 b j → Open7 W b j := fun b j ho => by rw [hW]; exact ho.put
  rw [← hW] at hk ⊢
  clear hW
  have hWlow : Below B w2 W := (hk.below (by simp) (by omega)).mono hB1
  have hndA := e.nd
  rw [List.map_append, List.nodup_append] at hndA
  have hne : ∀ u, u ∈ us → ¬ (u.b = h.b ∧ u.j = h.j) := fun u hu hh => hndA.2.2 (u.b, u.j) (List.mem_map.2 ⟨u, hu, rfl⟩) (h.b, h.j) (by simp) (by rw [hh.1, hh.2])
  refine ⟨?_, ?_, ?_, ?_, ?_⟩
  · refine ⟨hown.1, ?_⟩
    rcases hown.2 with hn | ⟨gg, cap, cur, hv, hb', hg', rest⟩
    · exact .inl hn
    · refine .inr ⟨gg, cap, cur, hv, hb', (hk.block gg (Array.getElem?_eq_some_iff.1 hg').1 (fun e2 => ?_) (by simp)).trans hg', rest⟩
      have ho : v2.ownBlock = some gg := by rw [hv]; rfl
      rcases hv2 gg ho with h1 | h1
      · exact hB3 (by rw [← e2]; exact h1.symm)
      · omega
  · intro b hb
    rcases hb with hb | rfl
    · obtain ⟨h1, h2, h3⟩ := e.d b hb
      refine ⟨h1, by omega, fun e2 => ?_⟩
      rcases hv2 b e2.symm with h4 | h4
      · exact h3 h4.symm
      · omega
    · exact ⟨hg, by omega, fun e2 => hv2g e2.symm⟩
  · intro u hu
    rcases List.mem_append.1 hu with hu | hu
    · obtain ⟨h1, h2, h3⟩ := e.ho u (by simp [hu])
      exact ⟨(h1.low hlow).low hWlow, .inl h2, hopen _ _ (h3.of (hD _ h2))⟩
    · obtain ⟨j, hj, rfl⟩ := kidsH_mem hu
      exact ⟨(hqi _ (List.getElem_mem hj)).low hWlow, .inr rfl, hopen _ _ (hgo j hj)⟩
  · rw [List.map_append, List.nodup_append]
    refine ⟨hndA.1, ?_, fun a ha b hb e2 => ?_⟩
    · rw [List.nodup_iff_pairwise_ne, List.pairwise_map, List.pairwise_iff_getElem]
      intro i j hi hj hij
      have hi' : i < q.l.length := by rwa [kidsH_length] at hi
      have hj' : j < q.l.length := by rwa [kidsH_length] at hj
      rw [kidsH_at g q.l i hi hi', kidsH_at g q.l j hj hj']
      intro e2
      have : i = j := congrArg Prod.snd e2
      omega
    · obtain ⟨u, hu, rfl⟩ := List.mem_map.1 ha
      obtain ⟨k, hk2, rfl⟩ := List.mem_map.1 hb
      obtain ⟨j, hj, rfl⟩ := kidsH_mem hk2
      have h1 := (e.d u.b (e.ho u (by simp [hu])).2.1).2.1
      have h2 : u.b = g := congrArg Prod.fst e2
      omega
  · intro w' hE hL
    refine e.k w' (fun b i hb hni => ?_) (fun u hu => ?_)
    · have hbs := (e.d b hb).2.1
      have hni2 : ¬ inHole (us ++ kidsH g q.l) b i := by
        rintro ⟨u, hu, h1, h2, h3⟩
        rcases List.mem_append.1 hu with hu | hu
        · exact hni ⟨u, by simp [hu], h1, h2, h3⟩
        · obtain ⟨j, hj, rfl⟩ := kidsH_mem hu
          simp only at h1
          omega
      rw [hE b i (.inl hb) hni2]
      have h2 : w2.cell? ⟨b, i, none⟩ = w.cell? ⟨b, i, none⟩ := World.cell?_of_block (a := ⟨b, i, none⟩) (hD b hb)
      by_cases eb : b = h.b
      · subst eb
        have hr : i < h.j * 7 ∨ h.j * 7 + 7 ≤ i := by
          by_cases h3 : i < h.j * 7
          · exact .inl h3
          · refine .inr (Nat.le_of_not_lt fun h4 => hni ⟨h, by simp, rfl, by omega, by omega⟩)
        rw [hoth i hr, h2]
      · rw [World.cell?_of_block (a := ⟨b, i, none⟩) (hk.block b (by omega) eb (by simp)), h2]
    · rcases List.mem_append.1 hu with hu | hu
      · exact hL u (by simp [hu])
      · rcases List.mem_singleton.1 hu with rfl
        have hex : ∀ j, j < q.l.length → ∃ y : TT, At7 w' g (j * 7) y ∧ y.In w' ∧ (∀ hj : j < q.l.length, y.tm = eraseM q.l[j].tm) ∧ y.Bl (B ≤ ·) := by
          intro j hj
          obtain ⟨y, h1, h2, h3, h4⟩ := hL ⟨q.l[j], g, j⟩ (List.mem_append.2 (.inr (by rw [← kidsH_at g q.l j (by rw [kidsH_length]; exact hj) hj]; exact List.getElem_mem _)))
          exact ⟨y, h1, h2, fun _ => h3, h4⟩
        haveI : Inhabited TT := ⟨tleaf 0 0⟩
        obtain ⟨T, hT⟩ := Go.Deep.choose_lt hex
        have hlen : ((List.range q.l.length).map T).length = q.l.length := by simp
        have hcell : ∀ i, i < 7 → w'.cell? ⟨u.b, u.j * 7 + i, none⟩ = W.cell? ⟨u.b, u.j * 7 + i, none⟩ := by
          intro i hi
          refine hE u.b _ (.inl hhD) ?_
          rintro ⟨z, hz, h1, h2, h3⟩
          rcases List.mem_append.1 hz with hz | hz
          · exact hne z hz ⟨h1, by omega⟩
          · obtain ⟨j, hj, rfl⟩ := kidsH_mem hz
            simp only at h1
            omega
        refine ⟨⟨q.k, q.n, leaf 0, leaf 0, some ⟨g, 0, none⟩, q.l.length, (List.range q.l.length).map T⟩, ?_, ?_, ?_, ?_⟩
        · obtain ⟨c0, c1, c2, c3, c4, c5, c6⟩ := h7
          refine ⟨(hcell 0 (by omega)).trans c0, (hcell 1 (by omega)).trans c1, (hcell 2 (by omega)).trans c2, (hcell 3 (by omega)).trans c3, (hcell 4 (by omega)).trans c4, (hcell 5 (by omega)).trans c5, ?_⟩
          rw [hcell 6 (by omega), c6]
          simp
        · refine TT.In_mk.2 ⟨leaf_in _ _, leaf_in _ _, fun j hj => ⟨g, 0, rfl, ?_⟩, fun y hy => ?_⟩
          · have hj' : j < q.l.length := by simpa using hj
            simpa using (hT j hj').1
          · obtain ⟨j, hj, rfl⟩ := List.mem_map.1 hy
            exact (hT j (by simpa using hj)).2.1
        · rw [hq, TT.tm_mk, leaf_ty]
          have : ((List.range q.l.length).map T).map TT.tm = (q.l.map TT.tm).map eraseM := by
            apply List.ext_getElem
            · simp
            · intro j h1 h2
              have hj' : j < q.l.length := by simpa using h1
              simp only [List.getElem_map, List.getElem_range]
              exact (hT j hj').2.2.1 hj'
          rw [this]
          rfl
        · refine TT.Bl_mk.2 ⟨leaf_bl _ _, leaf_bl _ _, fun _ z hz => by cases hz; exact hg, fun y hy => ?_⟩
          obtain ⟨j, hj, rfl⟩ := List.mem_map.1 hy
          exact (hT j (by simpa using hj)).2.2.2
end Go.Proofs.YtnddkmccagiclabGreatDoor
