/-
  What the calls of chaperoneref.DeepOf and chaperoneref.IsType answer at a tree that lies in memory.
-/
import Derived.Test.YtaaplpcpifdnfaaRefRight
namespace Go.Proofs.Ytaaplpcpifdnfaa
open Go.RowKit

/-- The most levels of a list's trees. -/
def most (l : List Tr) : Nat := (l.map Tr.hgt).foldr max 0

theorem most_append : ∀ (l r : List Tr), most (l ++ r) = max (most l) (most r)
  | [], r => by simp [most]
  | t :: l, r => by
    have := most_append l r
    simp only [most, List.cons_append, List.map_cons, List.foldr_cons] at this ⊢
    rw [this]; omega

theorem most_take (l : List Tr) (j : Nat) (h : j < l.length) : most (l.take (j + 1)) = max (most (l.take j)) l[j].hgt := by
  rw [List.take_succ_eq_append_getElem h, most_append]
  simp [most]

theorem most_le (l : List Tr) (j : Nat) : most (l.take j) ≤ most l := by
  have h := most_append (l.take j) (l.drop j)
  rw [List.take_append_drop] at h
  omega

theorem hgt_most (t : Tr) : t.hgt = most t.l + 1 := by
  obtain ⟨k, a, c, l⟩ := t
  rw [Tr.hgt_mk]
  rfl

set_option maxHeartbeats 1000000 in
theorem deepOf_step (n : Nat) (hn : n ≤ 1000000000) (x : Tr) (A : Option Addr) (HA : Hid (A = x.a)) (w : World) (hx : x.In w) (hh : x.hgt ≤ n + 1) (hs : x.sm)
    (ih : Hid (∀ (x : Tr) (w : World), x.In w → x.hgt ≤ n → x.sm → Calls Try.prog 29 #[.agg #[.int .i64 x.k, .slice x.a x.l.length x.c]] w fun e w' => e = .returned (.int .i64 (x.hgt : Int)) ∧ Below w.heap.size w w')) :
    Calls Try.prog 29 #[.agg #[.int .i64 x.k, .slice A x.l.length x.c]] w fun e w' => e = .returned (.int .i64 (x.hgt : Int)) ∧ Below w.heap.size w w' := by
  have hlen := hs.len
  have hm := hgt_most x
  have HM : Hid (x.hgt = most x.l + 1) := hm
  have hmn : most x.l ≤ n := by omega
  clear hm
  have hb0 : Below w.heap.size w (w.alloc (.cells #[.int .i64 x.k, .slice A x.l.length x.c] 24)) := (Below.refl _ _).alloc (Nat.le_refl _) _
  go_enter Try.func29, Try.ntmps29
  go_wp2_with fail
  go_loopg [3, 9] x.l.length (fun g b i wr => ∃ (j m : Nat), j ≤ x.l.length ∧ g = x.l.length - j ∧ b = .int .i64 (m : Int) ∧ i = .int .i64 (j : Int) ∧ Below w.heap.size w wr ∧ Hid (m = most (x.l.take j)))
  case atStart => exact ⟨0, 0, Nat.zero_le _, rfl, rfl, rfl, hb0, rfl⟩
  case round =>
    obtain ⟨j, m, hj, hg, rfl, rfl, hbwr, HC⟩ := hrel
    have HG : Hid (gk = x.l.length - j) := hg
    clear hg
    have hmm : m ≤ n := by have := most_le x.l j; rw [HC.out]; omega
    by_cases hlt : j < x.l.length
    · obtain ⟨b, o, ea, x0, x1, hxj⟩ := hx.part j hlt
      have eA : A = some ⟨b, o, none⟩ := HA.out.trans ea
      subst eA
      clear ea HA
      replace x0 := cell_later hbwr x0
      replace x1 := cell_later hbwr x1
      have i1 : (j : Int) < (x.l.length : Int) := by omega
      have i0 : (0 : Int) ≤ (j : Int) := by omega
      have lb : b < wr.heap.size := World.block_lt_of_cell? _ _ x0
      obtain ⟨r, hr⟩ : ∃ r, x.l[j].hgt = r := ⟨_, rfl⟩
      have HI : Hid (∀ (w : World), x.l[j].In w → Calls Try.prog 29 #[.agg #[.int .i64 x.l[j].k, .slice x.l[j].a x.l[j].l.length x.l[j].c]] w fun e w' => e = .returned (.int .i64 (r : Int)) ∧ Below w.heap.size w w') := by
        intro w h1
        have := ih.out x.l[j] w h1 (Tr.hgt_part hh j hlt) (hs.part j hlt)
        rw [hr] at this
        exact this
      have HT : Hid (most (x.l.take (j + 1)) = max m r) := by
        show _ = _
        rw [most_take x.l j hlt, hr, ← HC.out]
      clear hr
      have hba : Below w.heap.size w (wr.alloc (.cells #[.int .i64 x.l[j].k, .slice x.l[j].a x.l[j].l.length x.l[j].c] 24)) := hbwr.alloc hbwr.size _
      clear HC ih
      go_wp2_with fail
      refine (HI.out _ (hxj.below hba)).mono ?_
      rintro e w2 ⟨rfl, hb2⟩
      have hb3 := hba.trans (hb2.mono hba.size)
      clear hb2 hba HI x0 x1
      rcases Nat.lt_or_ge m r with hmr | hmr
      · have hmi : (m : Int) < (r : Int) := by omega
        have HE : Hid (r = most (x.l.take (j + 1))) := by show _ = _; rw [HT.out]; omega
        go_wp2_with fail
        go_roundg (x.l.length - (j + 1))
        case measure => rw [HG.out]; omega
        case rel => exact ⟨j + 1, r, by omega, rfl, rfl, by go_num, hb3, HE⟩
      · have hmi : (r : Int) ≤ (m : Int) := by omega
        have HE : Hid (m = most (x.l.take (j + 1))) := by show _ = _; rw [HT.out]; omega
        go_wp2_with fail
        go_roundg (x.l.length - (j + 1))
        case measure => rw [HG.out]; omega
        case rel => exact ⟨j + 1, m, by omega, rfl, rfl, by go_num, hb3, HE⟩
    · have HN : Hid (m + 1 = x.hgt) := by
        show _ = _
        rw [HC.out, HM.out, List.take_of_length_le (by omega)]
      clear HC HM
      go_wp2_with fail
      go_ret
      exact ⟨by rw [← HN.out]; rfl, hbwr⟩

/-- chaperoneref.DeepOf. -/
theorem deepOf_any (n : Nat) : n ≤ 1000000000 → ∀ (x : Tr) (w : World), x.In w → x.hgt ≤ n → x.sm → Calls Try.prog 29 #[.agg #[.int .i64 x.k, .slice x.a x.l.length x.c]] w fun e w' => e = .returned (.int .i64 (x.hgt : Int)) ∧ Below w.heap.size w w' := by
  induction n with
  | zero =>
    intro _ x w _ h
    have := x.hgt_pos
    omega
  | succ n ih =>
    intro hn x w hx h hs
    exact deepOf_step n (by omega) x x.a rfl w hx h hs (fun x w hx h hs => ih (by omega) x w hx h hs)
end Go.Proofs.Ytaaplpcpifdnfaa
