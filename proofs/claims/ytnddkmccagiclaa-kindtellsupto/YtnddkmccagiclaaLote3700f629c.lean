/-
  What the call of chaperoneref.FitsOf answers at two right trees that lie in memory.
-/
import Derived.Test.YtnddkmccagiclaaLota293d8a65b
import Derived.Deep.LoopGhost
import Derived.Test.YtnddkmccagiclaaLot7a88f0409f
import Derived.Test.YtnddkmccagiclaaLota407ef62cb
import Derived.Test.YtnddkmccagiclaaLotce0d488055
import Derived.Test.YtnddkmccagiclaaLotd7ddc2d620
import Derived.Deep.DeepCutAuto
import Derived.Test.YtnddkmccagiclaaRows
import Derived.ProofKit
import Derived.Deep.Slices
namespace Go.Proofs.Ytnddkmccagiclaa
open Go.RowKit

theorem Tr.right.part {t : Tr} (h : t.right) (j : Nat) (hj : j < t.l.length) : t.l[j].right := by
  obtain ⟨k, a, c, l⟩ := t
  exact (Tr.right_mk.1 h).2 _ (List.getElem_mem hj)

theorem Tr.right.kinds {t : Tr} (h : t.right) : 0 ≤ t.k ∧ t.k ≤ 3 := by
  rcases h.cases with ⟨_, hk⟩ | ⟨_, _, _, hk, _⟩ <;> omega

theorem mul_esc (a b : Int) (a0 : 0 ≤ a) (a3 : a ≤ 3) (b0 : 0 ≤ b) (b3 : b ≤ 3) : (wrap64 (a * b) == 0) = escFits a b := by
  obtain rfl | rfl | rfl | rfl : a = 0 ∨ a = 1 ∨ a = 2 ∨ a = 3 := by omega
  all_goals
    obtain rfl | rfl | rfl | rfl : b = 0 ∨ b = 1 ∨ b = 2 ∨ b = 3 := by omega
    all_goals simp [wrap64, escFits]

set_option maxHeartbeats 1000000 in
theorem fitsOf_step (n : Nat) (x y : Tr) (w : World) (hx : x.In w) (hy : y.In w) (hh : x.hgt ≤ n + 1) (hs : x.sm) (rx : x.right) (ry : y.right) (hm : (wrap64 (x.k * y.k) == 0) = false) (he : Hid (escFits x.k y.k = false))
    (ih : Hid (∀ (x y : Tr) (w : World), x.In w → y.In w → x.hgt ≤ n → x.sm → x.right → y.right → Calls Try.prog 18 #[.agg #[.int .i64 x.k, .slice x.a x.l.length x.c], .agg #[.int .i64 y.k, .slice y.a y.l.length y.c]] w fun e w' => e = .returned (.bool (relY escFits x.ty y.ty)) ∧ Below w.heap.size w w')) :
    Calls Try.prog 18 #[.agg #[.int .i64 x.k, .slice x.a x.l.length x.c], .agg #[.int .i64 y.k, .slice y.a y.l.length y.c]] w fun e w' => e = .returned (.bool (relY escFits x.ty y.ty)) ∧ Below w.heap.size w w' := by
  have hlen := hs.len
  obtain ⟨tk, htk⟩ : ∃ b, (x.k == y.k) = b := ⟨_, rfl⟩
  obtain ⟨tl, htl⟩ : ∃ b, ((x.l.length : Int) == (y.l.length : Int)) = b := ⟨_, rfl⟩
  have HK : Hid ((x.k == y.k) = tk) := htk
  have HL : Hid (((x.l.length : Int) == (y.l.length : Int)) = tl) := htl
  have p1 : ((w.alloc (.cells #[.int .i64 x.k, .slice x.a x.l.length x.c] 24)).alloc (.cells #[.int .i64 y.k, .slice y.a y.l.length y.c] 24)).cell? ⟨w.heap.size, 1, none⟩ = some (.slice x.a x.l.length x.c) := by simp [go_sem]
  have p3 : ((w.alloc (.cells #[.int .i64 x.k, .slice x.a x.l.length x.c] 24)).alloc (.cells #[.int .i64 y.k, .slice y.a y.l.length y.c] 24)).cell? ⟨w.heap.size + 1, 1, none⟩ = some (.slice y.a y.l.length y.c) := by simp [go_sem]
  have HP : Hid (((w.alloc (.cells #[.int .i64 x.k, .slice x.a x.l.length x.c] 24)).alloc (.cells #[.int .i64 y.k, .slice y.a y.l.length y.c] 24)).cell? ⟨w.heap.size, 1, none⟩ = some (.slice x.a x.l.length x.c) ∧ ((w.alloc (.cells #[.int .i64 x.k, .slice x.a x.l.length x.c] 24)).alloc (.cells #[.int .i64 y.k, .slice y.a y.l.length y.c] 24)).cell? ⟨w.heap.size + 1, 1, none⟩ = some (.slice y.a y.l.length y.c)) := ⟨p1, p3⟩
  clear p1 p3
  have hb0 : Below w.heap.size w ((w.alloc (.cells #[.int .i64 x.k, .slice x.a x.l.length x.c] 24)).alloc (.cells #[.int .i64 y.k, .slice y.a y.l.length y.c] 24)) := ((Below.refl _ _).alloc (Nat.le_refl _) _).alloc (by simp) _
  cases tk
  · have HT : Hid ((x.k == y.k && (x.l.length : Int) == (y.l.length : Int)) = false) := by show _ = false; rw [HK.out]; rfl
    clear htl HL HK
    go_enter Try.func18, Try.ntmps18
    go_wp2_with fail
    go_loopw [5, 6] (fun b i wr => b = .bool false ∧ i = .int .i64 0 ∧ wr = ((w.alloc (.cells #[.int .i64 x.k, .slice x.a x.l.length x.c] 24)).alloc (.cells #[.int .i64 y.k, .slice y.a y.l.length y.c] 24))) (fun _ _ _ => 0)
    case atStart => exact ⟨rfl, rfl, rfl⟩
    case round =>
      obtain ⟨rfl, rfl, rfl⟩ := hrel
      go_wp2_with fail
      go_ret
      exact ⟨by rw [relY_top escFits x y he.out HT.out]; rfl, hb0⟩
  · cases tl
    · have HT : Hid ((x.k == y.k && (x.l.length : Int) == (y.l.length : Int)) = false) := by show _ = false; rw [HK.out, HL.out]; rfl
      clear HL HK
      go_enter Try.func18, Try.ntmps18
      go_wp2_with fail
      go_loopw [5, 6] (fun b i wr => b = .bool false ∧ i = .int .i64 0 ∧ wr = ((w.alloc (.cells #[.int .i64 x.k, .slice x.a x.l.length x.c] 24)).alloc (.cells #[.int .i64 y.k, .slice y.a y.l.length y.c] 24))) (fun _ _ _ => 0)
      case atStart => exact ⟨rfl, rfl, rfl⟩
      case round =>
        obtain ⟨rfl, rfl, rfl⟩ := hrel
        go_wp2_with fail
        go_ret
        exact ⟨by rw [relY_top escFits x y he.out HT.out]; rfl, hb0⟩
    · have hk : Hid (x.k = y.k) := by show x.k = y.k; have h := HK.out; simpa using h
      have hl : Hid (x.l.length = y.l.length) := by have h := HL.out; simp at h; exact Int.ofNat.inj h
      clear HL HK
      go_enter Try.func18, Try.ntmps18
      go_wp2_with fail
      clear htk htl
      go_loopg [5, 6] (x.l.length + 1) (fun g b i wr => ∃ (j : Nat) (c : Bool), j ≤ x.l.length ∧ g = (if c then x.l.length - j + 1 else 0) ∧ b = .bool c ∧ i = .int .i64 (j : Int) ∧ Below w.heap.size w wr ∧ wr.cell? ⟨w.heap.size, 1, none⟩ = some (.slice x.a x.l.length x.c) ∧ wr.cell? ⟨w.heap.size + 1, 1, none⟩ = some (.slice y.a y.l.length y.c) ∧
        Hid (c = true → ∀ q (h : q < x.l.length) (h' : q < y.l.length), q < j → relY escFits x.l[q].ty y.l[q].ty = true) ∧ Hid (c = false → relY escFits x.ty y.ty = false))
      case atStart => exact ⟨0, true, Nat.zero_le _, rfl, rfl, rfl, hb0, HP.out.1, HP.out.2, fun _ q _ _ h => absurd h (by omega), fun h => by cases h⟩
      case round =>
        obtain ⟨j, c, hj, hg, rfl, rfl, hbwr, p1, p3, HA, HB⟩ := hrel
        cases c
        · have HB1 : Hid (relY escFits x.ty y.ty = false) := HB.out rfl
          clear HA HB hg
          go_wp2_with fail
          go_ret
          exact ⟨by rw [HB1.out]; rfl, hbwr⟩
        · have HA1 : Hid (∀ q (h : q < x.l.length) (h' : q < y.l.length), q < j → relY escFits x.l[q].ty y.l[q].ty = true) := HA.out rfl
          clear HA HB
          by_cases hlt : j < x.l.length
          · have hlt' : j < y.l.length := hl.out ▸ hlt
            obtain ⟨b, o, ea, x0, x1, hxj⟩ := hx.part j hlt
            obtain ⟨b', o', eb, y0, y1, hyj⟩ := hy.part j hlt'
            have q1 : wr.cell? ⟨w.heap.size, 1, none⟩ = some (.slice (some ⟨b, o, none⟩) x.l.length x.c) := by rw [← ea]; exact p1
            have q3 : wr.cell? ⟨w.heap.size + 1, 1, none⟩ = some (.slice (some ⟨b', o', none⟩) y.l.length y.c) := by rw [← eb]; exact p3
            have HPP : Hid (wr.cell? ⟨w.heap.size, 1, none⟩ = some (.slice x.a x.l.length x.c) ∧ wr.cell? ⟨w.heap.size + 1, 1, none⟩ = some (.slice y.a y.l.length y.c)) := ⟨p1, p3⟩
            replace x0 := cell_later hbwr x0
            replace x1 := cell_later hbwr x1
            replace y0 := cell_later hbwr y0
            replace y1 := cell_later hbwr y1
            have i1 : (j : Int) < (x.l.length : Int) := by omega
            have i2 : (j : Int) < (y.l.length : Int) := by omega
            have i0 : (0 : Int) ≤ (j : Int) := by omega
            obtain ⟨r, hr⟩ : ∃ r, relY escFits x.l[j].ty y.l[j].ty = r := ⟨_, rfl⟩
            have HC : Hid (∀ (w : World), x.l[j].In w → y.l[j].In w → Calls Try.prog 18 #[.agg #[.int .i64 x.l[j].k, .slice x.l[j].a x.l[j].l.length x.l[j].c], .agg #[.int .i64 y.l[j].k, .slice y.l[j].a y.l[j].l.length y.l[j].c]] w fun e w' => e = .returned (.bool r) ∧ Below w.heap.size w w') := by
              intro w h1 h2
              have := ih.out x.l[j] y.l[j] w h1 h2 (Tr.hgt_part hh j hlt) (hs.part j hlt) (rx.part j hlt) (ry.part j hlt')
              rw [hr] at this
              exact this
            have HR : Hid (relY escFits x.l[j].ty y.l[j].ty = r) := hr
            have HG : Hid (gk = if true then x.l.length - j + 1 else 0) := hg
            clear hr p1 p3 ea eb hx hy hg
            go_wp2_with fail
            go_region_held3 (fun w' => w'.cell? ⟨w.heap.size, 1, none⟩ = some (.slice (some ⟨b, o, none⟩) x.l.length x.c) ∧ w'.cell? ⟨w.heap.size + 1, 1, none⟩ = some (.slice (some ⟨b', o', none⟩) y.l.length y.c) ∧ w'.cell? ⟨b, o + j * 2, none⟩ = some (.int .i64 x.l[j].k) ∧ w'.cell? ⟨b, o + j * 2 + 1, none⟩ = some (.slice x.l[j].a x.l[j].l.length x.l[j].c) ∧ w'.cell? ⟨b', o' + j * 2, none⟩ = some (.int .i64 y.l[j].k) ∧ w'.cell? ⟨b', o' + j * 2 + 1, none⟩ = some (.slice y.l[j].a y.l[j].l.length y.l[j].c))
              (first | exact ⟨cell_later hb2 q1, cell_later hb2 q3, cell_later hb2 x0, cell_later hb2 x1, cell_later hb2 y0, cell_later hb2 y1⟩ | go_keep)
              (first | (go_at_call 18; refine (HC.out _ (hxj.below hbwr.drew) (hyj.below hbwr.drew)).mono ?_; rintro e w2 ⟨rfl, hb2⟩))
            have hbr2 : Below w.heap.size w w2 := hbwr.drew.trans (hb2.mono hbwr.size)
            have s1 := cell_later hb2 HPP.out.1
            have s3 := cell_later hb2 HPP.out.2
            clear hb2 q1 q3 x0 x1 y0 y1 HC HPP
            go_wp2_with fail
            go_roundg (if r then x.l.length - (j + 1) + 1 else 0)
            case measure => rw [HG.out]; cases r <;> simp <;> omega
            case rel =>
              refine ⟨j + 1, r, by omega, rfl, rfl, by go_num, hbr2, s1, s3, fun h q h1 h2 hq => ?_, fun h => ?_⟩
              · by_cases e : q = j
                · subst e; rw [HR.out, h]
                · exact HA1.out q h1 h2 (by omega)
              · exact relY_part_not escFits x y he.out j hlt hlt' (by rw [HR.out, h])
          · go_wp2_with fail
            go_ret
            refine ⟨?_, hbwr⟩
            rw [relY_parts escFits x y hk.out hl.out fun q h h' => HA1.out q h h' (by omega)]
            rfl

set_option maxHeartbeats 400000 in
theorem fitsOf_esc (x y : Tr) (w : World) (hm : (wrap64 (x.k * y.k) == 0) = true) :
    Calls Try.prog 18 #[.agg #[.int .i64 x.k, .slice x.a x.l.length x.c], .agg #[.int .i64 y.k, .slice y.a y.l.length y.c]] w fun e w' => e = .returned (.bool true) ∧ Below w.heap.size w w' := by
  go_enter Try.func18, Try.ntmps18
  go_wp2_with fail
  go_ret
  exact ⟨rfl, ((Below.refl _ _).alloc (Nat.le_refl _) _).alloc (by simp) _⟩

/-- chaperoneref.FitsOf. -/
theorem fitsOf_any (n : Nat) : ∀ (x y : Tr) (w : World), x.In w → y.In w → x.hgt ≤ n → x.sm → x.right → y.right → Calls Try.prog 18 #[.agg #[.int .i64 x.k, .slice x.a x.l.length x.c], .agg #[.int .i64 y.k, .slice y.a y.l.length y.c]] w fun e w' => e = .returned (.bool (relY escFits x.ty y.ty)) ∧ Below w.heap.size w w' := by
  induction n with
  | zero =>
    intro x y w _ _ h
    have := x.hgt_pos
    omega
  | succ n ih =>
    intro x y w hx hy h hs rx ry
    obtain ⟨a0, a3⟩ := rx.kinds
    obtain ⟨b0, b3⟩ := ry.kinds
    have hm := mul_esc x.k y.k a0 a3 b0 b3
    cases he : escFits x.k y.k with
    | true =>
      rw [relY_esc escFits x y he]
      exact fitsOf_esc x y w (by rw [hm]; exact he)
    | false => exact fitsOf_step n x y w hx hy h hs rx ry (by rw [hm]; exact he) he (fun x y w hx hy h hs rx ry => ih x y w hx hy h hs rx ry)
end Go.Proofs.Ytnddkmccagiclaa

/-
  The plain mathematics of good types: what both say each of them says; who is finer fits; what is sure fits only what is coarser; no program in it.
-/
namespace Go.Proofs.Ytnddkmccagiclaa

theorem goodY_cases {n : Nat} {t : Ty} (h : goodY (n + 1) t = true) : (∃ k, t = ⟨k, []⟩ ∧ (k = 0 ∨ k = 1 ∨ k = 2)) ∨ ∃ x y, t = ⟨3, [x, y]⟩ ∧ goodY n x = true ∧ goodY n y = true := by
  match t, h with
  | ⟨k, []⟩, h => exact .inl ⟨k, rfl, by simpa [goodY, or_assoc] using h⟩
  | ⟨k, [x]⟩, h => simp [goodY] at h
  | ⟨k, [x, y]⟩, h =>
    simp [goodY] at h
    obtain ⟨⟨rfl, hx⟩, hy⟩ := h
    exact .inr ⟨x, y, rfl, hx, hy⟩
  | ⟨k, x :: y :: z :: r⟩, h => simp [goodY] at h

theorem any_left (t : Ty) (l : List Ty) : relY escFits ⟨0, l⟩ t = true := by cases t; simp [relY_mk, escFits]
theorem any_right (t : Ty) (l : List Ty) : relY escFits t ⟨0, l⟩ = true := by cases t; simp [relY_mk, escFits]
theorem any_coarser (t : Ty) (l : List Ty) : relY escFiner t ⟨0, l⟩ = true := by cases t; simp [relY_mk, escFiner]

theorem two (esc : Int → Int → Bool) (x y x' y' : Ty) (h : esc 3 3 = false) : relY esc ⟨3, [x, y]⟩ ⟨3, [x', y']⟩ = (relY esc x x' && relY esc y y') := by
  simp [relY_mk, relL, h]

theorem join_two (x y x' y' : Ty) : joinY ⟨3, [x, y]⟩ ⟨3, [x', y']⟩ = ⟨3, [joinY x x', joinY y y']⟩ := by
  simp [joinY_mk, joinL]

theorem join_facts : ∀ (n : Nat) (a b : Ty), goodY n a = true → goodY n b = true →
    goodY n (joinY a b) = true ∧ relY escFiner a (joinY a b) = true ∧ relY escFiner b (joinY a b) = true ∧ joinY b a = joinY a b ∧ joinY a a = a
  | 0, a, b, h, _ => by simp [goodY] at h
  | n + 1, a, b, ha, hb => by
    rcases goodY_cases ha with ⟨k, rfl, hk⟩ | ⟨x, y, rfl, hx, hy⟩
    · rcases goodY_cases hb with ⟨k', rfl, hk'⟩ | ⟨x', y', rfl, hx', hy'⟩
      · by_cases e : k = k'
        · subst e
          rcases hk with rfl | rfl | rfl <;> simp [joinY_mk, joinL, goodY, relY_mk, relL]
        · have e' : k' ≠ k := fun h => e h.symm
          simp [joinY_mk, joinL, e, e', goodY, relY_mk, escFiner]
      · have e : k ≠ 3 := by omega
        have e' : (3 : Int) ≠ k := by omega
        simp [joinY_mk, joinL, e, e', goodY, relY_mk, escFiner]
    · rcases goodY_cases hb with ⟨k', rfl, hk'⟩ | ⟨x', y', rfl, hx', hy'⟩
      · have e : k' ≠ 3 := by omega
        have e' : (3 : Int) ≠ k' := by omega
        obtain ⟨_, _, _, _, ix⟩ := join_facts n x x hx hx
        obtain ⟨_, _, _, _, iy⟩ := join_facts n y y hy hy
        simp [joinY_mk, joinL, e, e', goodY, relY_mk, escFiner, ix, iy]
      · obtain ⟨g1, f1, f2, c1, i1⟩ := join_facts n x x' hx hx'
        obtain ⟨g2, f3, f4, c2, i2⟩ := join_facts n y y' hy hy'
        refine ⟨?_, ?_, ?_, ?_, ?_⟩
        · rw [join_two]; simp [goodY, g1, g2]
        · rw [join_two, two _ _ _ _ _ rfl, f1, f3]; rfl
        · rw [join_two, two _ _ _ _ _ rfl, f2, f4]; rfl
        · rw [join_two, join_two, c1, c2]
        · rw [join_two, i1, i2]

theorem join_least : ∀ (n : Nat) (a b c : Ty), goodY n a = true → goodY n b = true → goodY n c = true → relY escFiner a c = true → relY escFiner b c = true → relY escFiner (joinY a b) c = true
  | 0, a, b, c, h, _, _ => by simp [goodY] at h
  | n + 1, a, b, c, ha, hb, hc => by
    intro h1 h2
    rcases goodY_cases hc with ⟨k, rfl, hk⟩ | ⟨z, u, rfl, hz, hu⟩
    · rcases hk with rfl | hk
      · exact any_coarser _ _
      · have k0 : k ≠ 0 := by omega
        rcases goodY_cases ha with ⟨ka, rfl, _⟩ | ⟨x, y, rfl, hx, hy⟩
        · rcases goodY_cases hb with ⟨kb, rfl, _⟩ | ⟨x', y', rfl, hx', hy'⟩
          · simp [relY_mk, relL, escFiner, k0] at h1 h2
            subst h1
            subst h2
            simp [joinY_mk, joinL, relY_mk, relL]
          · simp [relY_mk, relL, escFiner, k0] at h2
        · simp [relY_mk, relL, escFiner, k0] at h1
    · rcases goodY_cases ha with ⟨ka, rfl, hka⟩ | ⟨x, y, rfl, hx, hy⟩
      · have e : ka ≠ 3 := by omega
        simp [relY_mk, relL, escFiner] at h1
      · rcases goodY_cases hb with ⟨kb, rfl, hkb⟩ | ⟨x', y', rfl, hx', hy'⟩
        · simp [relY_mk, relL, escFiner] at h2
        · rw [two _ _ _ _ _ rfl, Bool.and_eq_true] at h1 h2
          rw [join_two, two _ _ _ _ _ rfl, join_least n x x' z hx hx' hz h1.1 h2.1, join_least n y y' u hy hy' hu h1.2 h2.2]
          rfl

theorem fits_sym : ∀ (n : Nat) (a b : Ty), goodY n a = true → goodY n b = true → relY escFits a b = relY escFits b a
  | 0, a, b, h, _ => by simp [goodY] at h
  | n + 1, a, b, ha, hb => by
    rcases goodY_cases ha with ⟨ka, rfl, _⟩ | ⟨x, y, rfl, hx, hy⟩
    · rcases goodY_cases hb with ⟨kb, rfl, _⟩ | ⟨x', y', rfl, hx', hy'⟩
      · simp [relY_mk, relL, escFits, Bool.or_comm, Bool.beq_comm]
      · simp [relY_mk, relL, escFits]
    · rcases goodY_cases hb with ⟨kb, rfl, _⟩ | ⟨x', y', rfl, hx', hy'⟩
      · simp [relY_mk, relL, escFits]
      · rw [two _ _ _ _ _ rfl, two _ _ _ _ _ rfl, fits_sym n x x' hx hx', fits_sym n y y' hy hy']

theorem fits_refl : ∀ (n : Nat) (a : Ty), goodY n a = true → relY escFits a a = true
  | 0, a, h => by simp [goodY] at h
  | n + 1, a, ha => by
    rcases goodY_cases ha with ⟨ka, rfl, _⟩ | ⟨x, y, rfl, hx, hy⟩
    · simp [relY_mk, relL]
    · rw [two _ _ _ _ _ rfl, fits_refl n x hx, fits_refl n y hy]; rfl

theorem finer_fits : ∀ (n : Nat) (a b : Ty), goodY n a = true → goodY n b = true → relY escFiner a b = true → relY escFits a b = true
  | 0, a, b, h, _ => by simp [goodY] at h
  | n + 1, a, b, ha, hb => by
    intro h
    rcases goodY_cases hb with ⟨kb, rfl, _⟩ | ⟨x', y', rfl, hx', hy'⟩
    · rcases goodY_cases ha with ⟨ka, rfl, _⟩ | ⟨x, y, rfl, hx, hy⟩
      · simp [relY_mk, relL, escFiner] at h
        simp [relY_mk, relL, escFits]
        omega
      · simp [relY_mk, relL, escFiner] at h
        subst h
        exact any_right _ _
    · rcases goodY_cases ha with ⟨ka, rfl, _⟩ | ⟨x, y, rfl, hx, hy⟩
      · simp [relY_mk, relL, escFiner] at h
      · rw [two _ _ _ _ _ rfl, Bool.and_eq_true] at h
        rw [two _ _ _ _ _ rfl, finer_fits n x x' hx hx' h.1, finer_fits n y y' hy hy' h.2]
        rfl

theorem fits_coarser : ∀ (n : Nat) (a b c : Ty), goodY n a = true → goodY n b = true → goodY n c = true → relY escFits a b = true → relY escFiner b c = true → relY escFits a c = true
  | 0, a, b, c, h, _, _ => by simp [goodY] at h
  | n + 1, a, b, c, ha, hb, hc => by
    intro h1 h2
    rcases goodY_cases hc with ⟨k, rfl, hk⟩ | ⟨z, u, rfl, hz, hu⟩
    · by_cases k0 : k = 0
      · subst k0; exact any_right _ _
      · rcases goodY_cases hb with ⟨kb, rfl, hkb⟩ | ⟨x', y', rfl, hx', hy'⟩
        · simp [relY_mk, relL, escFiner, k0] at h2
          subst h2
          exact h1
        · simp [relY_mk, relL, escFiner, k0] at h2
    · rcases goodY_cases hb with ⟨kb, rfl, hkb⟩ | ⟨x', y', rfl, hx', hy'⟩
      · simp [relY_mk, relL, escFiner] at h2
      · rcases goodY_cases ha with ⟨ka, rfl, hka⟩ | ⟨x, y, rfl, hx, hy⟩
        · simp [relY_mk, relL, escFits] at h1
          subst h1
          exact any_left _ _
        · rw [two _ _ _ _ _ rfl, Bool.and_eq_true] at h1 h2
          rw [two _ _ _ _ _ rfl, fits_coarser n x x' z hx hx' hz h1.1 h2.1, fits_coarser n y y' u hy hy' hu h1.2 h2.2]
          rfl

theorem sure_fits : ∀ (n : Nat) (a b : Ty), goodY n a = true → goodY n b = true → sureY a = true → relY escFits a b = relY escFiner a b
  | 0, a, b, h, _ => by simp [goodY] at h
  | n + 1, a, b, ha, hb => by
    intro hs
    rcases goodY_cases ha with ⟨ka, rfl, _⟩ | ⟨x, y, rfl, hx, hy⟩
    · have k0 : ka ≠ 0 := by simpa [sureY_mk] using hs
      have k1 : (ka == 0) = false := by simpa using k0
      rcases goodY_cases hb with ⟨kb, rfl, _⟩ | ⟨x', y', rfl, hx', hy'⟩
      · simp [relY_mk, relL, escFits, escFiner, k1]
      · simp [relY_mk, relL, escFits, escFiner, k0]
    · rcases goodY_cases hb with ⟨kb, rfl, _⟩ | ⟨x', y', rfl, hx', hy'⟩
      · simp [relY_mk, relL, escFits, escFiner]
      · have hs' : sureY x = true ∧ sureY y = true := by simpa [sureY_mk] using hs
        rw [two _ _ _ _ _ rfl, two _ _ _ _ _ rfl, sure_fits n x x' hx hx' hs'.1, sure_fits n y y' hy hy' hs'.2]

theorem finer_trans : ∀ (n : Nat) (a b c : Ty), goodY n a = true → goodY n b = true → goodY n c = true → relY escFiner a b = true → relY escFiner b c = true → relY escFiner a c = true
  | 0, a, b, c, h, _, _ => by simp [goodY] at h
  | n + 1, a, b, c, ha, hb, hc => by
    intro h1 h2
    rcases goodY_cases hc with ⟨k, rfl, hk⟩ | ⟨z, u, rfl, hz, hu⟩
    · by_cases k0 : k = 0
      · subst k0; exact any_coarser _ _
      · rcases goodY_cases hb with ⟨kb, rfl, hkb⟩ | ⟨x', y', rfl, hx', hy'⟩
        · simp [relY_mk, relL, escFiner, k0] at h2
          subst h2
          exact h1
        · simp [relY_mk, relL, escFiner, k0] at h2
    · rcases goodY_cases hb with ⟨kb, rfl, hkb⟩ | ⟨x', y', rfl, hx', hy'⟩
      · simp [relY_mk, relL, escFiner] at h2
      · rcases goodY_cases ha with ⟨ka, rfl, hka⟩ | ⟨x, y, rfl, hx, hy⟩
        · simp [relY_mk, relL, escFiner] at h1
        · rw [two _ _ _ _ _ rfl, Bool.and_eq_true] at h1 h2
          rw [two _ _ _ _ _ rfl, finer_trans n x x' z hx hx' hz h1.1 h2.1, finer_trans n y y' u hy hy' hu h1.2 h2.2]
          rfl

theorem finer_both : ∀ (n : Nat) (a b : Ty), goodY n a = true → goodY n b = true → relY escFiner a b = true → relY escFiner b a = true → relY escSame a b = true
  | 0, a, b, h, _ => by simp [goodY] at h
  | n + 1, a, b, ha, hb => by
    intro h1 h2
    rcases goodY_cases ha with ⟨ka, rfl, hka⟩ | ⟨x, y, rfl, hx, hy⟩
    · rcases goodY_cases hb with ⟨kb, rfl, hkb⟩ | ⟨x', y', rfl, hx', hy'⟩
      · simp [relY_mk, relL, escFiner] at h1 h2
        simp [relY_mk, relL, escSame]
        omega
      · simp [relY_mk, relL, escFiner] at h1
    · rcases goodY_cases hb with ⟨kb, rfl, hkb⟩ | ⟨x', y', rfl, hx', hy'⟩
      · simp [relY_mk, relL, escFiner] at h2
      · rw [two _ _ _ _ _ rfl, Bool.and_eq_true] at h1 h2
        rw [two _ _ _ _ _ rfl, finer_both n x x' hx hx' h1.1 h2.1, finer_both n y y' hy hy' h1.2 h2.2]
        rfl
end Go.Proofs.Ytnddkmccagiclaa

/-
  What is called by chaperonelaw.KindTells, told of one world from which on nothing has turned.
-/
namespace Go.Proofs.Ytnddkmccagiclaa
open Go.RowKit

theorem le_sums : ∀ (l : List Nat), l.foldr max 0 ≤ l.sum
  | [] => Nat.le_refl _
  | x :: r => by
    have := le_sums r
    simp only [List.foldr_cons, List.sum_cons]; omega

theorem maxes_mono {f g : Tr → Nat} : ∀ (l : List Tr), (∀ t, t ∈ l → f t ≤ g t) → (l.map f).foldr max 0 ≤ (l.map g).foldr max 0
  | [], _ => Nat.le_refl _
  | x :: r, h => by
    have h1 := maxes_mono r (fun t ht => h t (List.mem_cons_of_mem _ ht))
    have h2 := h x List.mem_cons_self
    simp only [List.map_cons, List.foldr_cons]; omega

theorem Tr.hgt_sz (t : Tr) : t.hgt ≤ t.sz := by
  induction t using Tr.ind with
  | h k a c l ih =>
    rw [Tr.hgt_mk, Tr.sz_mk]
    have h1 := maxes_mono (f := Tr.hgt) (g := Tr.sz) l ih
    have h2 := le_sums (l.map Tr.sz)
    omega

theorem sz_mem : ∀ (l : List Tr) (t : Tr), t ∈ l → t.sz ≤ (l.map Tr.sz).sum
  | [], t, h => by cases h
  | x :: r, t, h => by
    rcases List.mem_cons.1 h with rfl | h
    · simp only [List.map_cons, List.sum_cons]; omega
    · have := sz_mem r t h
      simp only [List.map_cons, List.sum_cons]; omega

theorem Tr.sm_sz (t : Tr) : t.sz ≤ 140737488355328 → t.sm := by
  induction t using Tr.ind with
  | h k a c l ih =>
    intro h
    rw [Tr.sz_mk] at h
    have := len_sz l
    exact Tr.sm_mk.2 ⟨by omega, fun t ht => ih t ht (by have := sz_mem l t ht; omega)⟩

theorem topR_right {k : Int} {m : Nat} (h : topR k m = true) : (m = 0 ∧ (k = 0 ∨ k = 1 ∨ k = 2)) ∨ (m = 2 ∧ k = 3) := by
  simp only [topR, Bool.or_eq_true, Bool.and_eq_true, decide_eq_true_eq, beq_iff_eq] at h
  omega

theorem right_of (t : Tr) : rightY t.ty = true → t.right := by
  induction t using Tr.ind with
  | h k a c l ih =>
    intro h
    rw [right_ty, Bool.and_eq_true] at h
    have h1 := topR_right h.1
    refine Tr.right_mk.2 ⟨?_, fun t ht => ih t ht (List.all_eq_true.1 h.2 t ht)⟩
    dsimp only at h1
    rcases h1 with ⟨e, hk⟩ | ⟨e, hk⟩
    · exact .inl ⟨List.length_eq_zero_iff.1 e, hk⟩
    · exact .inr ⟨e, hk⟩

/-- It answers so, and what lay in W0 lies there still. -/
def Ans (W0 : World) (r : Bool) (e : Ending) (w' : World) : Prop := e = .returned (.bool r) ∧ Below W0.heap.size W0 w'
/-- It answers a tree of that type, and what lay in W0 lies there still. -/
def Tre (W0 : World) (T : Ty) (e : Ending) (w' : World) : Prop := ∃ c : Tr, e = .returned (.agg #[.int .i64 c.k, .slice c.a c.l.length c.c]) ∧ c.ty = T ∧ c.In w' ∧ Below W0.heap.size W0 w'

theorem Ans.of {P : Program} {f : FuncId} {args : Array Value} {W0 W : World} {r : Bool} (h : Calls P f args W fun e w' => e = .returned (.bool r) ∧ Below W.heap.size W w') (hb : Below W0.heap.size W0 W) : Calls P f args W (Ans W0 r) :=
  h.mono fun _ _ ⟨he, hb'⟩ => ⟨he, hb.trans (hb'.mono hb.size)⟩

theorem Tre.of {P : Program} {f : FuncId} {args : Array Value} {W0 W : World} {T : Ty} (h : Calls P f args W (Made T W)) (hb : Below W0.heap.size W0 W) : Calls P f args W (Tre W0 T) :=
  h.mono fun _ _ ⟨c, he, ht, hin, _, hb'⟩ => ⟨c, he, ht, hin, hb.trans (hb'.mono hb.size)⟩
end Go.Proofs.Ytnddkmccagiclaa

/-
  Where the box of kind.To's answer lies among what is copied, in whatever order they are made.
-/
namespace Go.Proofs.Ytnddkmccagiclaa
open Go.RowKit

/-- A box that nothing was written into. -/
def ZB (V : World) (b : Nat) : Prop := V.cell? ⟨b, 0, none⟩ = some (.int .i64 0) ∧ V.cell? ⟨b, 1, none⟩ = some (.slice none 0 0) ∧ V.frozen? ⟨b, 0, none⟩ = false ∧ V.frozen? ⟨b, 1, none⟩ = false

theorem ZB.new (U : World) : ZB (U.alloc (.cells #[.int .i64 0, .slice none 0 0] 24)) U.heap.size :=
  ⟨by simp [go_sem], by simp [go_sem], by simp [go_sem], by simp [go_sem]⟩

theorem ZB.later {V w : World} {b : Nat} (hb : Below V.heap.size V w) (h : ZB V b) : ZB w b := by
  have hl : b < V.heap.size := World.block_lt_of_cell? _ _ h.1
  exact ⟨cell_later hb h.1, cell_later hb h.2.1, (hb.frozen (p := ⟨b, 0, none⟩) hl).trans h.2.2.1, (hb.frozen (p := ⟨b, 1, none⟩) hl).trans h.2.2.2⟩

/-- Where To's answer lies, behind it all. -/
structure ToBox (W0 : World) (T0 T1 : Ty) (b : Nat) (c0 c1 : Tr) (g : Nat) (F : World) : Prop where
  low : Below W0.heap.size W0 F
  k : F.cell? ⟨b, 0, none⟩ = some (.int .i64 3)
  l : F.cell? ⟨b, 1, none⟩ = some (.slice (some ⟨g, 0, none⟩) 2 2)
  t0 : c0.ty = T0
  t1 : c1.ty = T1
  i : (Tr.mk 3 (some ⟨g, 0, none⟩) 2 [c0, c1]).In F

theorem ToBox.of {W0 V1 w7 V2 w8 V3 w9 F : World} {T0 T1 : Ty} {b : Nat} {c0 c1 : Tr} {g : Nat} (low : Below W0.heap.size W0 F) (k : F.cell? ⟨b, 0, none⟩ = some (.int .i64 3)) (l : F.cell? ⟨b, 1, none⟩ = some (.slice (some ⟨g, 0, none⟩) 2 2)) (t0 : c0.ty = T0) (t1 : c1.ty = T1)
    (i0 : c0.In w7) (b0 : c0.Bl (V1.heap.size ≤ ·)) (i1 : c1.In w8) (b1 : c1.Bl (V2.heap.size ≤ ·)) (h72 : Below w7.heap.size w7 V2) (h28 : Below V2.heap.size V2 w8) (h83 : Below w8.heap.size w8 V3) (h39 : Below V3.heap.size V3 w9)
    (hg : V3.heap.size ≤ g) (g0 : w9.cell? ⟨g, 0, none⟩ = some (.int .i64 c0.k)) (g1 : w9.cell? ⟨g, 1, none⟩ = some (.slice c0.a c0.l.length c0.c)) (g2 : w9.cell? ⟨g, 2, none⟩ = some (.int .i64 c1.k)) (g3 : w9.cell? ⟨g, 3, none⟩ = some (.slice c1.a c1.l.length c1.c))
    (hF : ∀ q, q < w9.heap.size → q ≠ b → F.heap[q]? = w9.heap[q]?) (n0 : b < V1.heap.size ∨ w7.heap.size ≤ b) (n1 : b < V2.heap.size ∨ w8.heap.size ≤ b) (n2 : b < V3.heap.size ∨ w9.heap.size ≤ b) : ToBox W0 T0 T1 b c0 c1 g F := by
  have s1 := h72.size
  have s2 := h28.size
  have s3 := h83.size
  have s4 := h39.size
  have hgl : g < w9.heap.size := World.block_lt_of_cell? _ _ g0
  have hgc : ∀ o, F.cell? ⟨g, o, none⟩ = w9.cell? ⟨g, o, none⟩ := fun o => World.cell?_of_block (a := ⟨g, o, none⟩) (hF g hgl (by omega))
  have hb89 : Below w8.heap.size w8 w9 := h83.trans (h39.mono s3)
  have hb79 : Below w7.heap.size w7 w9 := (h72.trans (h28.mono s1)).trans (hb89.mono (by omega))
  refine ⟨low, k, l, t0, t1, Tr.In_two ((hgc _).trans g0) ((hgc _).trans g1) ((hgc _).trans g2) ((hgc _).trans g3) ?_ ?_⟩
  · refine i0.congr (P := fun q => q < w7.heap.size ∧ V1.heap.size ≤ q) (fun q hq o => ?_) (i0.bl.and b0)
    rw [World.cell?_of_block (a := ⟨q, o, none⟩) (hF q (by omega) (by omega))]
    exact hb79.cell (p := ⟨q, o, none⟩) hq.1
  · refine i1.congr (P := fun q => q < w8.heap.size ∧ V2.heap.size ≤ q) (fun q hq o => ?_) (i1.bl.and b1)
    rw [World.cell?_of_block (a := ⟨q, o, none⟩) (hF q (by omega) (by omega))]
    exact hb89.cell (p := ⟨q, o, none⟩) hq.1

theorem set_other {w : World} {b : Nat} {u v : Value} : ∀ q, q < w.heap.size → q ≠ b → ((w.setCell ⟨b, 0, none⟩ u).setCell ⟨b, 1, none⟩ v).heap[q]? = w.heap[q]? := fun q _ h => by
  rw [Below.heap_setCell _ _ _ _ h, Below.heap_setCell _ _ _ _ h]

/-- How many nodes, without addresses. -/
def szY : Ty → Nat
  | ⟨_, l⟩ => (l.map fun t => szY t).sum + 1
theorem szY_mk (k : Int) (l : List Ty) : szY ⟨k, l⟩ = (l.map szY).sum + 1 := by rw [szY]

theorem sz_ty (t : Tr) : t.sz = szY t.ty := by
  induction t using Tr.ind with
  | h k a c l ih =>
    rw [Tr.sz_mk, Tr.ty_mk, szY_mk, List.map_map]
    congr 2
    exact List.map_congr_left fun t ht => ih t ht

theorem szY_join : ∀ (X Y : Ty), szY (joinY X Y) ≤ szY X := by
  intro X
  induction X using Ty.ind with
  | h k l ih =>
    rintro ⟨k', l'⟩
    rw [joinY_mk]
    by_cases e : k = k'
    · rw [if_pos e, szY_mk, szY_mk]
      have h : ∀ (l l' : List Ty), (∀ t, t ∈ l → ∀ Y, szY (joinY t Y) ≤ szY t) → ((joinL l l').map szY).sum ≤ (l.map szY).sum := by
        intro l
        induction l with
        | nil => intro l' _; cases l' <;> simp [joinL]
        | cons x r ihr =>
          intro l' hl
          cases l' with
          | nil => simp [joinL]
          | cons y s =>
            have h1 := ihr s fun t ht => hl t (List.mem_cons_of_mem _ ht)
            have h2 := hl x List.mem_cons_self y
            simp only [joinL, List.map_cons, List.sum_cons]; omega
      have := h l l' ih
      omega
    · rw [if_neg e, szY_mk, szY_mk]
      simp

theorem szY_ground (T : Ty) : szY (groundY T) ≤ 3 := by
  unfold groundY
  split <;> simp [szY_mk]

/-- Two trees of one type, not too great: the document's own look at them says that they are alike. -/
theorem sameType_ty (p q : Tr) (W : World) (hp : p.In W) (hq : q.In W) (ht : p.ty = q.ty) (hz : p.sz ≤ 10000000) :
    Calls Try.prog 11 #[.agg #[.int .i64 p.k, .slice p.a p.l.length p.c], .agg #[.int .i64 q.k, .slice q.a q.l.length q.c]] W fun e w' => e = .returned (.bool true) ∧ Below W.heap.size W w' := by
  have h := sameType_any 10000000 p q W hp hq (by have := p.hgt_sz; omega) (p.sm_sz (by omega))
  rw [ht, same_refl] at h
  exact h
end Go.Proofs.Ytnddkmccagiclaa

/-
  What the call of chaperonelaw.KindTells answers at two trees of not too many nodes.
-/
namespace Go.Proofs.Ytnddkmccagiclaa
open Go.RowKit

set_option maxRecDepth 20000 in
set_option maxHeartbeats 4000000 in
theorem tells_any (x y : Tr) (w : World) (hx : x.In w) (hy : y.In w) (zx : x.sz ≤ 10000000) (zy : y.sz ≤ 10000000) :
    Calls Try.prog 3 #[.agg #[.int .i64 x.k, .slice x.a x.l.length x.c], .agg #[.int .i64 y.k, .slice y.a y.l.length y.c]] w fun e w' => e = .returned (.bool true) ∧ Below w.heap.size w w' := by
  obtain ⟨W0, hW0⟩ : ∃ W0, W0 = (w.alloc (Obj.cells #[.int .i64 x.k, .slice x.a x.l.length x.c] 24)).alloc (Obj.cells #[.int .i64 y.k, .slice y.a y.l.length y.c] 24) := ⟨_, rfl⟩
  have hs0 : W0.heap.size = w.heap.size + 1 + 1 := by rw [hW0]; simp
  have hbw0 : Below w.heap.size w W0 := by rw [hW0]; exact ((Below.refl _ _).alloc (Nat.le_refl _) _).alloc (by simp) _
  have hx0 : x.In W0 := hx.below hbw0
  have hy0 : y.In W0 := hy.below hbw0
  have HK : Hid (∀ w' : World, Below W0.heap.size W0 w' → (w'.cell? ⟨w.heap.size, 0, none⟩ = some (.int .i64 x.k) ∧ w'.cell? ⟨w.heap.size, 1, none⟩ = some (.slice x.a x.l.length x.c) ∧ w'.cell? ⟨w.heap.size + 1, 0, none⟩ = some (.int .i64 y.k) ∧ w'.cell? ⟨w.heap.size + 1, 1, none⟩ = some (.slice y.a y.l.length y.c))) := by
    intro w' h
    refine ⟨cell_later h ?_, cell_later h ?_, cell_later h ?_, cell_later h ?_⟩ <;> (rw [hW0]; simp [go_sem])
  obtain ⟨g, hg⟩ : ∃ g, goodT 4 x = g := ⟨_, rfl⟩
  obtain ⟨s, hs⟩ : ∃ s, relY escSame x.ty y.ty = s := ⟨_, rfl⟩
  have mx := x.sm_sz (by omega)
  have lx := x.hgt_sz
  have K8x : Hid (∀ W, Below W0.heap.size W0 W → Calls Try.prog 8 #[.agg #[.int .i64 x.k, .slice x.a x.l.length x.c]] W (Tre W0 x.ty)) := fun W hb => Tre.of (copy_any 10000000 x W (hx0.below hb) (by omega) (by omega)) hb
  have K7 : Hid (∀ (c : Tr) W, Below W0.heap.size W0 W → c.ty = x.ty → c.In W → Calls Try.prog 7 #[.agg #[.int .i64 c.k, .slice c.a c.l.length c.c]] W (Ans W0 g)) := fun c W hb hc hi => by
    refine Ans.of ?_ hb
    have h := good_any c W hi
    rw [goodT_eq, hc, ← goodT_eq, hg] at h
    exact h
  have K9 : Hid (∀ W, Below W0.heap.size W0 W → Calls Try.prog 9 #[.agg #[.int .i64 x.k, .slice x.a x.l.length x.c]] W (Ans W0 g)) := fun W hb => Ans.of (hg ▸ isType_any 10000000 (by omega) x W (hx0.below hb) (by omega) mx) hb
  have K10 : Hid (∀ W, Below W0.heap.size W0 W → Calls Try.prog 10 #[.agg #[.int .i64 x.k, .slice x.a x.l.length x.c], .agg #[.int .i64 y.k, .slice y.a y.l.length y.c]] W (Ans W0 s)) := fun W hb => Ans.of (hs ▸ same_wholeG x y W (hx0.below hb) (hy0.below hb) (by omega)) hb
  have K11 : Hid (∀ W, Below W0.heap.size W0 W → Calls Try.prog 11 #[.agg #[.int .i64 x.k, .slice x.a x.l.length x.c], .agg #[.int .i64 y.k, .slice y.a y.l.length y.c]] W (Ans W0 s)) := fun W hb => Ans.of (hs ▸ sameType_any 10000000 x y W (hx0.below hb) (hy0.below hb) (by omega) mx) hb
  have K12 : Hid (∀ W, Below W0.heap.size W0 W → Calls Try.prog 12 #[] W (Ans W0 true)) := fun W hb => Ans.of (typesLaw_any W) hb
  have hbn : Below W0.heap.size W0 W0.drew := (Below.refl _ _).drew
  clear hg hs
  go_enter Try.func3, Try.ntmps3
  go_wp2_with fail
  rw [← hW0]
  clear hW0
  go_region_held3 (fun w' => w'.cell? ⟨w.heap.size, 0, none⟩ = some (.int .i64 x.k) ∧ w'.cell? ⟨w.heap.size, 1, none⟩ = some (.slice x.a x.l.length x.c) ∧ w'.cell? ⟨w.heap.size + 1, 0, none⟩ = some (.int .i64 y.k) ∧ w'.cell? ⟨w.heap.size + 1, 1, none⟩ = some (.slice y.a y.l.length y.c))
    (exact HK.out _ hbn)
    (first
      | (go_at_call 8; refine (K8x.out _ hbn).mono ?_; rintro e w1 ⟨c, rfl, hct, hci, hb1⟩; replace hbn := hb1; have HCT : Hid (c.ty = x.ty) := hct; clear hct)
      | (go_at_call 7; refine (K7.out c _ hbn HCT.out hci).mono ?_; rintro e w2 ⟨rfl, hb1⟩; replace hbn := hb1)
      | (go_at_call 9; refine (K9.out _ hbn).mono ?_; rintro e w3 ⟨rfl, hb1⟩; replace hbn := hb1)
      | (go_at_call 10; refine (K10.out _ hbn).mono ?_; rintro e w4 ⟨rfl, hb1⟩; replace hbn := hb1)
      | (go_at_call 11; refine (K11.out _ hbn).mono ?_; rintro e w5 ⟨rfl, hb1⟩; replace hbn := hb1)
      | (go_at_call 12; refine (K12.out _ hbn).mono ?_; rintro e w6 ⟨rfl, hb1⟩; replace hbn := hb1))
  clear K8x K7 K9 K10 K11 K12 hci HCT
  have R13x : Hid (∀ W, Below W0.heap.size W0 W → Calls Try.prog 13 #[.agg #[.int .i64 x.k, .slice x.a x.l.length x.c]] W (Ans W0 (rightY x.ty))) := fun W hb => Ans.of (isRight_any 10000000 x W (hx0.below hb) (by omega) mx) hb
  have R13y : Hid (∀ W, Below W0.heap.size W0 W → Calls Try.prog 13 #[.agg #[.int .i64 y.k, .slice y.a y.l.length y.c]] W (Ans W0 (rightY y.ty))) := fun W hb => Ans.of (isRight_any 10000000 y W (hy0.below hb) (by have := y.hgt_sz; omega) (y.sm_sz (by omega))) hb
  have HN6 : Hid (Below W0.heap.size W0 w6) := hbn
  obtain ⟨d0, d1, d2, d3⟩ := HK.out w6 hbn
  cases hrx : rightY x.ty with
  | false =>
    rw [hrx] at R13x
    clear hrx hbn
    go_wp2_with fail
    refine (R13x.out _ HN6.out).mono ?_
    rintro e w7 ⟨rfl, h7⟩
    clear R13x R13y HN6
    go_wp2_with fail
    go_ret
    exact ⟨rfl, hbw0.trans (h7.mono hbw0.size)⟩
  | true =>
    cases hry : rightY y.ty with
    | false =>
      rw [hrx] at R13x
      rw [hry] at R13y
      clear hrx hry hbn
      go_wp2_with fail
      refine (R13x.out _ HN6.out).mono ?_
      rintro e w7 ⟨rfl, h7⟩
      clear d0 d1 d2 d3
      obtain ⟨d0, d1, d2, d3⟩ := HK.out w7 h7
      go_wp2_with fail
      refine (R13y.out _ h7).mono ?_
      rintro e w8 ⟨rfl, h8⟩
      clear R13x R13y HN6 h7 d0 d1 d2 d3
      go_wp2_with fail
      go_ret
      exact ⟨rfl, hbw0.trans (h8.mono hbw0.size)⟩
    | true =>
      rw [hrx] at R13x
      rw [hry] at R13y
      have rx : Hid x.right := right_of x hrx
      have ry : Hid y.right := right_of y hry
      clear hrx hry hbn
      go_wp2_with fail
      refine (R13x.out _ HN6.out).mono ?_
      rintro e w7 ⟨rfl, h7⟩
      clear d0 d1 d2 d3
      obtain ⟨d0, d1, d2, d3⟩ := HK.out w7 h7
      go_wp2_with fail
      refine (R13y.out _ h7).mono ?_
      rintro e wa ⟨rfl, h8⟩
      clear R13x R13y HN6 h7 d0 d1 d2 d3
      go_wp2_with fail
      go_cut [5] (fun s5 wx => ∃ b c0 c1 g, s5 = .pointer (some ⟨b, 0, none⟩) ∧ Hid (ToBox W0 x.ty y.ty b c0 c1 g wx))
      case first =>
        have C8x : Hid (∀ V, Below W0.heap.size W0 V → Calls Try.prog 8 #[.agg #[.int .i64 x.k, .slice x.a x.l.length x.c]] V (Made x.ty V)) := fun V hb => copy_any 10000000 x V (hx0.below hb) (by omega) (by omega)
        have C8y : Hid (∀ V, Below W0.heap.size W0 V → Calls Try.prog 8 #[.agg #[.int .i64 y.k, .slice y.a y.l.length y.c]] V (Made y.ty V)) := fun V hb => copy_any 10000000 y V (hy0.below hb) (by have := y.hgt_sz; omega) (by omega)
        have hbn : Below W0.heap.size W0 wa.drew := h8.drew
        have ha : W0.heap.size ≤ wa.heap.size := h8.size
        go_region_held3 (fun w' => w'.cell? ⟨w.heap.size, 0, none⟩ = some (.int .i64 x.k) ∧ w'.cell? ⟨w.heap.size, 1, none⟩ = some (.slice x.a x.l.length x.c) ∧ w'.cell? ⟨w.heap.size + 1, 0, none⟩ = some (.int .i64 y.k) ∧ w'.cell? ⟨w.heap.size + 1, 1, none⟩ = some (.slice y.a y.l.length y.c))
          (first
            | exact HK.out _ hbn
            | exact HK.out _ (hbn.alloc hbn.size _)
            | exact HK.out _ ((hbn.setCell (by simp; omega) _).setCell (by simp; omega) _))
          (first
            | (go_at_call_of 8 (x.k); refine (C8x.out _ (by first | exact hbn | exact hbn.alloc hbn.size _)).mono ?_; rintro e w7 ⟨c0, rfl, ht0, hi0, hbl0, hb35⟩; (first | (have hz : ZB w7 wa.heap.size := ZB.later hb35 (ZB.new _)) | skip); replace hbn : Below W0.heap.size W0 w7 := (by first | exact hbn.trans (hb35.mono hbn.size) | exact (hbn.alloc hbn.size _).trans (hb35.mono (hbn.alloc hbn.size _).size)); have h7 : W0.heap.size ≤ w7.heap.size := hbn.size)
            | (go_at_call 8; refine (C8y.out _ (by first | exact hbn | exact hbn.alloc hbn.size _)).mono ?_; rintro e w8 ⟨c1, rfl, ht1, hi1, hbl1, hb37⟩; (first | (replace hz : ZB w8 wa.heap.size := ZB.later hb37 hz) | (have hz : ZB w8 w7.heap.size := ZB.later hb37 (ZB.new _)) | skip); replace hbn : Below W0.heap.size W0 w8 := (by first | exact hbn.trans (hb37.mono hbn.size) | exact (hbn.alloc hbn.size _).trans (hb37.mono (hbn.alloc hbn.size _).size)); have h9 : W0.heap.size ≤ w8.heap.size := hbn.size)
            | (go_at_call 14; refine (to_cells c0.k c1.k c0.a c1.a c0.l.length c1.l.length c0.c c1.c _).mono ?_; rintro e w9 ⟨g, hg, rfl, g0, g1, g2, g3, hb38⟩; (first | (replace hz : ZB w9 _ := ZB.later hb38 hz; obtain ⟨z0, z1, z2, z3⟩ := hz) | (have hz : ZB w9 w8.heap.size := ZB.later hb38 (ZB.new _); obtain ⟨z0, z1, z2, z3⟩ := hz) | skip); replace hbn : Below W0.heap.size W0 w9 := (by first | exact hbn.trans (hb38.mono hbn.size) | exact (hbn.alloc hbn.size _).trans (hb38.mono (hbn.alloc hbn.size _).size))))
        · have s7 := hb35.size
          have s8 := hb37.size
          have s9 := hb38.size
          have HF : Hid (ToBox W0 x.ty y.ty w9.heap.size c0 c1 g (w9.alloc (.cells #[.int .i64 3, .slice (some ⟨g, 0, none⟩) 2 2] 24))) := by
            exact ToBox.of (hbn.alloc hbn.size _) (by simp [go_sem]) (by simp [go_sem]) ht0 ht1 hi0 hbl0 hi1 hbl1 (Below.refl _ _) hb37 (Below.refl _ _) hb38 hg g0 g1 g2 g3 (fun q hq _ => ((Below.refl _ _).alloc (Nat.le_refl _) _).block q hq) (.inr (by omega)) (.inr (by omega)) (.inr (Nat.le_refl _))
          clear hb35 hb37 hb38 ht0 ht1 hi0 hbl0 hi1 hbl1 g0 g1 g2 g3 C8x C8y
          go_wp2_with fail
          go_meet
          case rel => exact ⟨_, c0, c1, g, rfl, HF⟩
        · have s7 := hb35.size
          have s8 := hb37.size
          have s9 := hb38.size
          have HF : Hid (ToBox W0 x.ty y.ty w8.heap.size c0 c1 g ((w9.setCell ⟨w8.heap.size, 0, none⟩ (.int .i64 3)).setCell ⟨w8.heap.size, 1, none⟩ (.slice (some ⟨g, 0, none⟩) 2 2))) := by
            simp only [World.size_alloc] at s9
            have hc := set_cells (io := 0) (u := .int .i64 3) (v := .slice (some ⟨g, 0, none⟩) 2 2) z0 z1
            exact ToBox.of ((hbn.setCell (by simp; omega) _).setCell (by simp; omega) _) hc.1 hc.2 ht0 ht1 hi0 hbl0 hi1 hbl1 (Below.refl _ _) hb37 ((Below.refl _ _).alloc (Nat.le_refl _) _) hb38 hg g0 g1 g2 g3 set_other (.inr (by omega)) (.inr (Nat.le_refl _)) (.inl (by simp))
          clear hb35 hb37 hb38 ht0 ht1 hi0 hbl0 hi1 hbl1 g0 g1 g2 g3 C8x C8y
          go_wp2_with fail
          go_meet
          case rel => exact ⟨_, c0, c1, g, rfl, HF⟩
        · have s7 := hb35.size
          have s8 := hb37.size
          have s9 := hb38.size
          have HF : Hid (ToBox W0 x.ty y.ty w7.heap.size c0 c1 g ((w9.setCell ⟨w7.heap.size, 0, none⟩ (.int .i64 3)).setCell ⟨w7.heap.size, 1, none⟩ (.slice (some ⟨g, 0, none⟩) 2 2))) := by
            simp only [World.size_alloc] at s8
            have hc := set_cells (io := 0) (u := .int .i64 3) (v := .slice (some ⟨g, 0, none⟩) 2 2) z0 z1
            exact ToBox.of ((hbn.setCell (by simp; omega) _).setCell (by simp; omega) _) hc.1 hc.2 ht0 ht1 hi0 hbl0 hi1 hbl1 ((Below.refl _ _).alloc (Nat.le_refl _) _) hb37 (Below.refl _ _) hb38 hg g0 g1 g2 g3 set_other (.inr (Nat.le_refl _)) (.inl (by simp)) (.inl (by omega))
          clear hb35 hb37 hb38 ht0 ht1 hi0 hbl0 hi1 hbl1 g0 g1 g2 g3 C8x C8y
          go_wp2_with fail
          go_meet
          case rel => exact ⟨_, c0, c1, g, rfl, HF⟩
        · have s7 := hb35.size
          have s8 := hb37.size
          have s9 := hb38.size
          have HF : Hid (ToBox W0 x.ty y.ty wa.heap.size c0 c1 g ((w9.setCell ⟨wa.heap.size, 0, none⟩ (.int .i64 3)).setCell ⟨wa.heap.size, 1, none⟩ (.slice (some ⟨g, 0, none⟩) 2 2))) := by
            simp at s7
            have hc := set_cells (io := 0) (u := .int .i64 3) (v := .slice (some ⟨g, 0, none⟩) 2 2) z0 z1
            exact ToBox.of ((hbn.setCell (by simp; omega) _).setCell (by simp; omega) _) hc.1 hc.2 ht0 ht1 hi0 hbl0 hi1 hbl1 (Below.refl _ _) hb37 (Below.refl _ _) hb38 hg g0 g1 g2 g3 set_other (.inl (by simp)) (.inl (by omega)) (.inl (by omega))
          clear hb35 hb37 hb38 ht0 ht1 hi0 hbl0 hi1 hbl1 g0 g1 g2 g3 C8x C8y
          go_wp2_with fail
          go_meet
          case rel => exact ⟨_, c0, c1, g, rfl, HF⟩
      case rest =>
        obtain ⟨b, c0, c1, g, h5, HT⟩ := hcut
        subst h5
        clear h8
        have zc0 : c0.sz ≤ 10000000 := by rw [sz_ty, HT.out.t0, ← sz_ty]; exact zx
        have zc1 : c1.sz ≤ 10000000 := by rw [sz_ty, HT.out.t1, ← sz_ty]; exact zy
        obtain ⟨g0, o0, ea0, e0, e1, i0⟩ := HT.out.i.at 0 (by simp)
        obtain ⟨g1, o1, ea1, e2, e3, i1⟩ := HT.out.i.at 1 (by simp)
        cases ea0
        cases ea1
        simp only [List.getElem_cons_zero, List.getElem_cons_succ, Nat.zero_mul, Nat.one_mul, Nat.zero_add, Nat.reduceAdd] at e0 e1 e2 e3 i0 i1
        obtain ⟨d0, d1, d2, d3⟩ := HK.out wc HT.out.low
        have HK6 : Hid (∀ w' : World, Below wc.heap.size wc w' → (w'.cell? ⟨w.heap.size, 0, none⟩ = some (.int .i64 x.k) ∧ w'.cell? ⟨w.heap.size, 1, none⟩ = some (.slice x.a x.l.length x.c) ∧ w'.cell? ⟨w.heap.size + 1, 0, none⟩ = some (.int .i64 y.k) ∧ w'.cell? ⟨w.heap.size + 1, 1, none⟩ = some (.slice y.a y.l.length y.c) ∧
            w'.cell? ⟨b, 0, none⟩ = some (.int .i64 3) ∧ w'.cell? ⟨b, 1, none⟩ = some (.slice (some ⟨g, 0, none⟩) 2 2) ∧ w'.cell? ⟨g, 0, none⟩ = some (.int .i64 c0.k) ∧ w'.cell? ⟨g, 1, none⟩ = some (.slice c0.a c0.l.length c0.c) ∧ w'.cell? ⟨g, 2, none⟩ = some (.int .i64 c1.k) ∧ w'.cell? ⟨g, 3, none⟩ = some (.slice c1.a c1.l.length c1.c))) := by
          intro w' h
          exact ⟨cell_later h d0, cell_later h d1, cell_later h d2, cell_later h d3, cell_later h HT.out.k, cell_later h HT.out.l, cell_later h e0, cell_later h e1, cell_later h e2, cell_later h e3⟩
        have K11a : Hid (∀ W, Below wc.heap.size wc W → Calls Try.prog 11 #[.agg #[.int .i64 c0.k, .slice c0.a c0.l.length c0.c], .agg #[.int .i64 x.k, .slice x.a x.l.length x.c]] W (Ans wc true)) := fun W hb => Ans.of (sameType_ty c0 x W (i0.below hb) ((hx0.below HT.out.low).below hb) HT.out.t0 zc0) hb
        have K11b : Hid (∀ W, Below wc.heap.size wc W → Calls Try.prog 11 #[.agg #[.int .i64 c1.k, .slice c1.a c1.l.length c1.c], .agg #[.int .i64 y.k, .slice y.a y.l.length y.c]] W (Ans wc true)) := fun W hb => Ans.of (sameType_ty c1 y W (i1.below hb) ((hy0.below HT.out.low).below hb) HT.out.t1 zc1) hb
        have hbn : Below wc.heap.size wc wc.drew := (Below.refl _ _).drew
        clear e0 e1 e2 e3 i0 i1 d0 d1 d2 d3 zc0 zc1
        go_wp2_with fail
        go_region_held3 (fun w' => w'.cell? ⟨w.heap.size, 0, none⟩ = some (.int .i64 x.k) ∧ w'.cell? ⟨w.heap.size, 1, none⟩ = some (.slice x.a x.l.length x.c) ∧ w'.cell? ⟨w.heap.size + 1, 0, none⟩ = some (.int .i64 y.k) ∧ w'.cell? ⟨w.heap.size + 1, 1, none⟩ = some (.slice y.a y.l.length y.c) ∧
            w'.cell? ⟨b, 0, none⟩ = some (.int .i64 3) ∧ w'.cell? ⟨b, 1, none⟩ = some (.slice (some ⟨g, 0, none⟩) 2 2) ∧ w'.cell? ⟨g, 0, none⟩ = some (.int .i64 c0.k) ∧ w'.cell? ⟨g, 1, none⟩ = some (.slice c0.a c0.l.length c0.c) ∧ w'.cell? ⟨g, 2, none⟩ = some (.int .i64 c1.k) ∧ w'.cell? ⟨g, 3, none⟩ = some (.slice c1.a c1.l.length c1.c))
          (exact HK6.out _ hbn)
          (first
            | (go_at_call_of 11 (c0.k); refine (K11a.out _ hbn).mono ?_; rintro e v1 ⟨rfl, hb1⟩; replace hbn := hb1)
            | (go_at_call 11; refine (K11b.out _ hbn).mono ?_; rintro e v2 ⟨rfl, hb1⟩; replace hbn := hb1))
        have HL : Hid (Below W0.heap.size W0 v2) := HT.out.low.trans (hbn.mono HT.out.low.size)
        clear K11a K11b HK6 HT hbn
        have hbn : Below W0.heap.size W0 v2.drew := HL.out.drew
        obtain ⟨fi, hfi⟩ : ∃ r, relY escFits x.ty y.ty = r := ⟨_, rfl⟩
        obtain ⟨fn, hfn⟩ : ∃ r, relY escFiner x.ty y.ty = r := ⟨_, rfl⟩
        obtain ⟨pl, hpl⟩ : ∃ r, plainT x = r := ⟨_, rfl⟩
        obtain ⟨su, hsu⟩ : ∃ r, sureY x.ty = r := ⟨_, rfl⟩
        have M15 : Hid (∀ W, Below W0.heap.size W0 W → Calls Try.prog 15 #[.agg #[.int .i64 x.k, .slice x.a x.l.length x.c]] W (Ans W0 pl)) := fun W hb => Ans.of (hpl ▸ plain_any x W (hx0.below hb)) hb
        have M16 : Hid (∀ W, Below W0.heap.size W0 W → Calls Try.prog 16 #[.agg #[.int .i64 x.k, .slice x.a x.l.length x.c]] W (Ans W0 pl)) := fun W hb => Ans.of (hpl ▸ plainOf_any x W (hx0.below hb)) hb
        have M17 : Hid (∀ W, Below W0.heap.size W0 W → Calls Try.prog 17 #[.agg #[.int .i64 x.k, .slice x.a x.l.length x.c], .agg #[.int .i64 y.k, .slice y.a y.l.length y.c]] W (Ans W0 fi)) := fun W hb => Ans.of (hfi ▸ fits_wholeG x y W (hx0.below hb) (hy0.below hb) (by omega)) hb
        have M18 : Hid (∀ W, Below W0.heap.size W0 W → Calls Try.prog 18 #[.agg #[.int .i64 x.k, .slice x.a x.l.length x.c], .agg #[.int .i64 y.k, .slice y.a y.l.length y.c]] W (Ans W0 fi)) := fun W hb => Ans.of (hfi ▸ fitsOf_any 10000000 x y W (hx0.below hb) (hy0.below hb) (by omega) mx rx.out ry.out) hb
        have M19 : Hid (∀ W, Below W0.heap.size W0 W → Calls Try.prog 19 #[.agg #[.int .i64 x.k, .slice x.a x.l.length x.c], .agg #[.int .i64 y.k, .slice y.a y.l.length y.c]] W (Ans W0 fn)) := fun W hb => Ans.of (hfn ▸ finer_wholeG x y W (hx0.below hb) (hy0.below hb) (by omega)) hb
        have M20 : Hid (∀ W, Below W0.heap.size W0 W → Calls Try.prog 20 #[.agg #[.int .i64 x.k, .slice x.a x.l.length x.c], .agg #[.int .i64 y.k, .slice y.a y.l.length y.c]] W (Ans W0 fn)) := fun W hb => Ans.of (hfn ▸ finerOf_any 10000000 x y W (hx0.below hb) (hy0.below hb) (by omega) mx) hb
        have M21 : Hid (∀ W, Below W0.heap.size W0 W → Calls Try.prog 21 #[.agg #[.int .i64 x.k, .slice x.a x.l.length x.c], .agg #[.int .i64 y.k, .slice y.a y.l.length y.c]] W fun e w' => ∃ t : Tr, e = .returned (.agg #[.int .i64 t.k, .slice t.a t.l.length t.c]) ∧ t.ty = joinY x.ty y.ty ∧ t.In w' ∧ Below W.heap.size W w') := fun W hb => join_wholeG x y W (hx0.below hb) (hy0.below hb) rx.out ry.out (by omega)
        have M22 : Hid (∀ W, Below W0.heap.size W0 W → Calls Try.prog 22 #[.agg #[.int .i64 x.k, .slice x.a x.l.length x.c], .agg #[.int .i64 y.k, .slice y.a y.l.length y.c]] W (Made (joinY x.ty y.ty) W)) := fun W hb => joinOf_any 10000000 x y W (hx0.below hb) (hy0.below hb) rx.out ry.out (by omega)
        have M11a : Hid (∀ (p q : Tr) W, p.In W → q.In W → p.ty = joinY x.ty y.ty → q.ty = joinY x.ty y.ty → Calls Try.prog 11 #[.agg #[.int .i64 p.k, .slice p.a p.l.length p.c], .agg #[.int .i64 q.k, .slice q.a q.l.length q.c]] W fun e w' => e = .returned (.bool true) ∧ Below W.heap.size W w') := fun p q W h1 h2 h3 h4 => sameType_ty p q W h1 h2 (h3.trans h4.symm) (by have := szY_join x.ty y.ty; rw [sz_ty, h3]; rw [← sz_ty] at this; omega)
        have M23 : Hid (∀ W, Calls Try.prog 23 #[.agg #[.int .i64 x.k, .slice x.a x.l.length x.c]] W fun e w' => ∃ g : Tr, e = .returned (.agg #[.int .i64 g.k, .slice g.a g.l.length g.c]) ∧ g.In w' ∧ g.ty = groundY x.ty ∧ Below W.heap.size W w') := fun W => ground_any x W
        have M24 : Hid (∀ W, Calls Try.prog 24 #[.agg #[.int .i64 x.k, .slice x.a x.l.length x.c]] W fun e w' => ∃ g : Tr, e = .returned (.agg #[.int .i64 g.k, .slice g.a g.l.length g.c]) ∧ g.In w' ∧ g.ty = groundY x.ty ∧ Below W.heap.size W w') := fun W => groundOf_any x W
        have M11b : Hid (∀ (p q : Tr) W, p.In W → q.In W → p.ty = groundY x.ty → q.ty = groundY x.ty → Calls Try.prog 11 #[.agg #[.int .i64 p.k, .slice p.a p.l.length p.c], .agg #[.int .i64 q.k, .slice q.a q.l.length q.c]] W fun e w' => e = .returned (.bool true) ∧ Below W.heap.size W w') := fun p q W h1 h2 h3 h4 => sameType_ty p q W h1 h2 (h3.trans h4.symm) (by have := szY_ground x.ty; rw [sz_ty, h3]; omega)
        have M25 : Hid (∀ W, Below W0.heap.size W0 W → Calls Try.prog 25 #[.agg #[.int .i64 x.k, .slice x.a x.l.length x.c]] W (Ans W0 su)) := fun W hb => Ans.of (hsu ▸ sure_any x W (hx0.below hb) rx.out (by omega)) hb
        have M26 : Hid (∀ W, Below W0.heap.size W0 W → Calls Try.prog 26 #[.agg #[.int .i64 x.k, .slice x.a x.l.length x.c]] W (Ans W0 su)) := fun W hb => Ans.of (hsu ▸ sureOf_any 10000000 x W (hx0.below hb) (by omega) mx) hb
        clear hfi hfn hpl hsu
        go_wp2_with fail
        go_region_held3 (fun w' => w'.cell? ⟨w.heap.size, 0, none⟩ = some (.int .i64 x.k) ∧ w'.cell? ⟨w.heap.size, 1, none⟩ = some (.slice x.a x.l.length x.c) ∧ w'.cell? ⟨w.heap.size + 1, 0, none⟩ = some (.int .i64 y.k) ∧ w'.cell? ⟨w.heap.size + 1, 1, none⟩ = some (.slice y.a y.l.length y.c))
          (exact HK.out _ hbn)
          (first
            | (go_at_call 15; refine (M15.out _ hbn).mono ?_; rintro e u15 ⟨rfl, hb1⟩; replace hbn := hb1)
            | (go_at_call 16; refine (M16.out _ hbn).mono ?_; rintro e u16 ⟨rfl, hb1⟩; replace hbn := hb1)
            | (go_at_call 17; refine (M17.out _ hbn).mono ?_; rintro e u17 ⟨rfl, hb1⟩; replace hbn := hb1)
            | (go_at_call 18; refine (M18.out _ hbn).mono ?_; rintro e u18 ⟨rfl, hb1⟩; replace hbn := hb1)
            | (go_at_call 19; refine (M19.out _ hbn).mono ?_; rintro e u19 ⟨rfl, hb1⟩; replace hbn := hb1)
            | (go_at_call 20; refine (M20.out _ hbn).mono ?_; rintro e u20 ⟨rfl, hb1⟩; replace hbn := hb1)
            | (go_at_call 21; refine (M21.out _ hbn).mono ?_; rintro e u21 ⟨j1, rfl, hj1, ij1, hb1⟩; replace hbn := hbn.trans (hb1.mono hbn.size); have HJ1 : Hid (j1.ty = joinY x.ty y.ty) := hj1; clear hj1)
            | (go_at_call 22; refine (M22.out _ hbn).mono ?_; rintro e u22 ⟨j2, rfl, hj2, ij2, _, hb1⟩; replace hbn := hbn.trans (hb1.mono hbn.size); replace ij1 := ij1.below hb1; have HJ2 : Hid (j2.ty = joinY x.ty y.ty) := hj2; clear hj2)
            | (go_at_call_of 11 (j1.k); refine (M11a.out j1 j2 _ ij1 ij2 HJ1.out HJ2.out).mono ?_; rintro e u11 ⟨rfl, hb1⟩; replace hbn := hbn.trans (hb1.mono hbn.size))
            | (go_at_call 23; refine (M23.out _).mono ?_; rintro e u23 ⟨q1, rfl, iq1, hq1, hb1⟩; replace hbn := hbn.trans (hb1.mono hbn.size); have HQ1 : Hid (q1.ty = groundY x.ty) := hq1; clear hq1)
            | (go_at_call 24; refine (M24.out _).mono ?_; rintro e u24 ⟨q2, rfl, iq2, hq2, hb1⟩; replace hbn := hbn.trans (hb1.mono hbn.size); replace iq1 := iq1.below hb1; have HQ2 : Hid (q2.ty = groundY x.ty) := hq2; clear hq2)
            | (go_at_call 11; refine (M11b.out q1 q2 _ iq1 iq2 HQ1.out HQ2.out).mono ?_; rintro e u12 ⟨rfl, hb1⟩; replace hbn := hbn.trans (hb1.mono hbn.size))
            | (go_at_call 25; refine (M25.out _ hbn).mono ?_; rintro e u25 ⟨rfl, hb1⟩; replace hbn := hb1)
            | (go_at_call 26; refine (M26.out _ hbn).mono ?_; rintro e u26 ⟨rfl, hb1⟩; replace hbn := hb1))
        have HE : Hid (Below w.heap.size w u26) := hbw0.trans (hbn.mono hbw0.size)
        clear hbn M15 M16 M17 M18 M19 M20 M21 M22 M23 M24 M25 M26 M11a M11b HL HK
        go_wp2_with fail
        go_ret
        exact ⟨rfl, HE.out⟩
end Go.Proofs.Ytnddkmccagiclaa

/-
  Whatever can be read as data of the type 'Type{Kind int, L []Type}' is a tree that lies in memory.
-/
namespace Go.Proofs.Ytnddkmccagiclaa
open Go.ChangeShapes Go.WideShapes Go.ChangeAt Go.RowKit

theorem Try.cells24 : Try.prog.cellsOf 24 = 2 := by kernel_rfl
theorem Try.cells22 : Try.prog.cellsOf 22 = 1 := by kernel_rfl
theorem Try.cells3 : Try.prog.cellsOf 3 = 1 := by kernel_rfl

theorem cell_spot {w : World} {a : Addr} {v : Value} (h : w.cell? a = some v) : a = ⟨a.block, a.off, none⟩ := by
  obtain ⟨b, o, s⟩ := a
  cases s with
  | none => rfl
  | some s =>
    unfold World.cell? at h
    split at h <;> simp at h

theorem cells2 {w : World} {base : Nat} {a : Addr} {u v : Value} (h : w.cells? base a 2 = some [u, v]) : w.cell? a = some u ∧ w.cell? (a.add 1) = some v := by
  unfold World.cells? at h
  split at h
  · have h0 : a.add 0 = a := by simp [Addr.add]
    simp only [List.range_succ, List.range_zero, List.nil_append, List.cons_append, List.mapM_cons, List.mapM_nil, h0] at h
    cases hu : w.cell? a with
    | none => simp [hu] at h
    | some u' =>
      cases hv : w.cell? (a.add 1) with
      | none => simp [hu, hv] at h
      | some v' =>
        simp [hu, hv] at h
        exact ⟨by rw [h.1], by rw [h.2]⟩
  · cases h

theorem tr_of {H : Type} {enc : TypeId × Value → H} {W : World} {base : Nat} {spare : Nat → Bool} {held : Bool} : ∀ (fuel : Nat) (cs : List Value) (x : DataW H × List MemPlace),
    DataW.trod enc Try.prog W base spare held fuel 24 cs = some x → ∃ t : Tr, cs = [.int .i64 t.k, .slice t.a t.l.length t.c] ∧ t.In W := by
  intro fuel
  induction fuel using Nat.strongRecOn with
  | _ fuel ih =>
    intro cs x h
    obtain ⟨xs, n, rfl, _, hl, hlen, hf⟩ := DataW.trod_struct Try.underlying24 h
    rw [Try.cells24] at hl
    match cs, hl with
    | [c0, c1], _ =>
      have h0 := hf 0 { name := "Kind", type := 3, offset := 0, embedded := false, tag := "", pkgPath := "", byteOffset := 0 } rfl
      have h1 := hf 1 { name := "L", type := 22, offset := 1, embedded := false, tag := "", pkgPath := "", byteOffset := 8 } rfl
      simp only [List.drop_zero, List.drop_succ_cons, Try.cells3, Try.cells22, List.take_succ_cons, List.take_zero] at h0 h1
      match xs, hlen with
      | [y0, y1], _ =>
        simp only [List.getElem?_cons_zero, List.getElem?_cons_succ] at h0 h1
        obtain ⟨k, hc0, _, _⟩ := DataW.trod_int Try.underlying3 h0
        simp only [List.cons.injEq, and_true] at hc0
        subst hc0
        rcases DataW.trod_slice Try.underlying22 h1 with ⟨hc1, _⟩ | ⟨a, len, cap, elems, rest, m, rfl, hc1, _, _, _, _, hel, hat, _⟩
        · simp only [List.cons.injEq, and_true] at hc1
          subst hc1
          exact ⟨.mk k none 0 [], rfl, Tr.In_nil _ _ _ _⟩
        · simp only [List.cons.injEq, and_true] at hc1
          subst hc1
          have hex : ∀ i, i < len → ∃ t : Tr, W.cells? base (a.add (i * 2)) 2 = some [.int .i64 t.k, .slice t.a t.l.length t.c] ∧ t.In W := by
            intro i hi
            have hi' := hat i hi
            rw [Try.cells24, List.getElem?_eq_getElem (by omega)] at hi'
            obtain ⟨cs', hcs, htr⟩ := Option.bind_eq_some_iff.1 hi'
            obtain ⟨t, rfl, hin⟩ := ih m (by omega) cs' _ htr
            exact ⟨t, hcs, hin⟩
          haveI : Inhabited Tr := ⟨.mk 0 none 0 []⟩
          obtain ⟨T, hT⟩ := Go.Deep.choose_lt hex
          refine ⟨.mk k (some a) cap ((List.range len).map T), by simp, ?_⟩
          refine Tr.In_mk.2 ⟨fun j hj => ?_, fun t ht => ?_⟩
          rotate_left
          · obtain ⟨i, hi, rfl⟩ := List.mem_map.1 ht
            exact (hT i (by simpa using hi)).2
          have hj' : j < len := by simpa using hj
          obtain ⟨hz, _⟩ := cells2 (hT 0 (by omega)).1
          simp only [Nat.zero_mul] at hz
          have ha0 : a.add 0 = a := by simp [Addr.add]
          rw [ha0] at hz
          have ha := cell_spot hz
          have hc := (hT j hj').1
          obtain ⟨c0, c1⟩ := cells2 hc
          have hadd : ∀ q, a.add q = ⟨a.block, a.off + q, none⟩ := by
            intro q
            rw [ha]
            unfold Addr.add
            by_cases hq : q = 0 <;> simp [hq]
          refine ⟨a.block, a.off, by rw [← ha], ?_, ?_⟩
          · rw [hadd] at c0
            simpa using c0
          · rw [Go.Deep.add_add, hadd] at c1
            simp only [List.getElem_map, List.getElem_range, Tr.sl]
            rw [show a.off + j * 2 + 1 = a.off + (j * 2 + 1) by omega]
            exact c1

/-- An argument of the type is a tree. -/
theorem tr_arg {H : Type} {enc : TypeId × Value → H} {W : World} {base b0 : Nat} {spare : Nat → Bool} {held : Bool} {r : Reach} {v : Value} {d : DataW H} {p : List MemPlace} (hv : Value.okWide Try.prog W r b0 24 v) (h : DataW.Trod enc Try.prog W base spare held 24 v d p) :
    ∃ t : Tr, v = .agg #[.int .i64 t.k, .slice t.a t.l.length t.c] ∧ t.In W := by
  obtain ⟨cs, rfl, _⟩ := okWide_struct Try.underlying24 hv
  obtain ⟨fuel, hf⟩ := h
  obtain ⟨t, ht, hin⟩ := tr_of fuel _ _ hf
  refine ⟨t, ?_, hin⟩
  have : cs.toList = [.int .i64 t.k, .slice t.a t.l.length t.c] := by simpa [Value.cells] using ht
  rw [← this]
end Go.Proofs.Ytnddkmccagiclaa
