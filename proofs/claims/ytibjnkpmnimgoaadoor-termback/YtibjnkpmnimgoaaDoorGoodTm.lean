/-
  What the call of (*walk).good answers, at whatever term lies in memory: where its top is not good, and where it has no parts.
-/
import Derived.Test.YtibjnkpmnimgoaaDoorIsAny
import Derived.Deep.LoopGhost
namespace Go.Proofs.YtibjnkpmnimgoaaDoor
open Go.RowKit

/-- A walk behind a pointer: how many functions are around, how much room is left. -/
structure WS (R : Nat) (ar : Int) (room : Nat) (w : World) : Prop where
  a : w.cell? ⟨R, 0, none⟩ = some (.int .i64 ar)
  r : w.cell? ⟨R, 1, none⟩ = some (.int .i64 (room : Int))
  z : w.frozen? ⟨R, 1, none⟩ = false

theorem WS.lt {R : Nat} {ar : Int} {room : Nat} {w : World} (h : WS R ar room w) : R < w.heap.size := World.block_lt_of_cell? _ _ h.a

theorem WS.below {R : Nat} {ar : Int} {room : Nat} {w w' : World} (h : WS R ar room w) (hb : Below w.heap.size w w') : WS R ar room w' :=
  ⟨cell_later hb h.a, cell_later hb h.r, (hb.frozen (p := ⟨R, 1, none⟩) h.lt).trans h.z⟩

theorem WS.set {R : Nat} {ar : Int} {room r : Nat} {w : World} (h : WS R ar room w) : WS R ar r (w.setCell ⟨R, 1, none⟩ (.int .i64 (r : Int))) :=
  ⟨by rw [World.cell?_setCell_other _ _ _ _ (by simp)]; exact h.a, World.cell?_setCell_same _ _ _ h.r, by rw [World.frozen?_setCell]; exact h.z⟩

/-- What the call leaves. -/
def GoodPost (R : Nat) (ar : Int) (o : Option Nat) (w : World) (e : Ending) (w' : World) : Prop :=
  ∃ r : Nat, e = .returned (.bool o.isSome) ∧ WS R ar r w' ∧ (∀ q, o = some q → q = r) ∧ Kept R none w w'

/-- Its numbers are whole numbers of 64 bits. -/
def TT.nb : TT → Prop
  | ⟨_, n, _, _, _, _, l⟩ => n ≤ 9223372036854775807 ∧ ∀ x, x ∈ l → x.nb

theorem TT.nb_mk {k n : Int} {t f : Tr} {a : Option Addr} {c : Nat} {l : List TT} : (TT.mk k n t f a c l).nb ↔ n ≤ 9223372036854775807 ∧ ∀ x, x ∈ l → x.nb := by
  rw [TT.nb]

theorem TT.nb.n {x : TT} (h : x.nb) : x.n ≤ 9223372036854775807 := by cases x; exact (TT.nb_mk.1 h).1
theorem TT.nb.mem {x y : TT} (h : x.nb) (hy : y ∈ x.l) : y.nb := by
  obtain ⟨k, n, t, f, a, c, l⟩ := x
  exact (TT.nb_mk.1 h).2 y hy

set_option maxHeartbeats 400000 in
theorem goodW_none (R : Nat) (ar ins : Int) (x : TT) (w : World) (hw : WS R ar 0 w) :
    Calls Tryd.prog 50 #[.pointer (some ⟨R, 0, none⟩), .agg #[.int .i64 x.k, .int .i64 x.n, .int .i64 x.t.k, .slice x.t.a x.t.l.length x.t.c, .int .i64 x.f.k, .slice x.f.a x.f.l.length x.f.c, .slice x.a x.l.length x.c], .int .i64 ins] w (GoodPost R ar none w) := by
  have hr := hw.r
  have hRl := hw.lt
  have e0 : ((0 : Nat) : Int) = 0 := rfl
  rw [e0] at hr
  go_enter Tryd.func50, Tryd.ntmps50
  go_wp2_with fail
  go_ret
  have hb : Below w.heap.size w (w.alloc (Obj.cells #[.int .i64 x.k, .int .i64 x.n, .int .i64 x.t.k, .slice x.t.a x.t.l.length x.t.c, .int .i64 x.f.k, .slice x.f.a x.f.l.length x.f.c, .slice x.a x.l.length x.c] 27)) := (Below.refl _ _).alloc (Nat.le_refl _) _
  exact ⟨0, rfl, hw.below hb, (fun q h => by cases h), Kept.of_below hb⟩

theorem parts_cell {w : World} (hg : Gl w) (k : Int) (h1 : 1 ≤ k) (h2 : k ≤ 9) : w.cell? ⟨2, k.toNat, none⟩ = some (.int .i64 (partsOf k : Int)) := by
  rw [hg.pt.cell]
  obtain rfl | rfl | rfl | rfl | rfl | rfl | rfl | rfl | rfl : k = 1 ∨ k = 2 ∨ k = 3 ∨ k = 4 ∨ k = 5 ∨ k = 6 ∨ k = 7 ∨ k = 8 ∨ k = 9 := by omega
  all_goals rfl

theorem len_ne (m p : Nat) (h : (m == p) = false) : ((m : Int) == (p : Int)) = false := by
  simp at h ⊢
  omega

/-- The world behind the count. -/
def wTop (R : Nat) (r : Nat) (x : TT) (w : World) : World :=
  (w.setCell ⟨R, 1, none⟩ (.int .i64 (r : Int))).alloc (Obj.cells #[.int .i64 x.k, .int .i64 x.n, .int .i64 x.t.k, .slice x.t.a x.t.l.length x.t.c, .int .i64 x.f.k, .slice x.f.a x.f.l.length x.f.c, .slice x.a x.l.length x.c] 27)

set_option maxHeartbeats 1000000 in
theorem goodW_bad1 (R : Nat) (ar : Int) (r : Nat) (hr1 : r ≤ 1000) (ins : Int) (x : TT) (w : World) (hg : Gl w) (hR : 10 ≤ R) (hw : WS R ar (r + 1) w)
    (hok : (decide (1 ≤ x.k) && decide (x.k ≤ 9) && (x.l.length == partsOf x.k)) = false) :
    Calls Tryd.prog 50 #[.pointer (some ⟨R, 0, none⟩), .agg #[.int .i64 x.k, .int .i64 x.n, .int .i64 x.t.k, .slice x.t.a x.t.l.length x.t.c, .int .i64 x.f.k, .slice x.f.a x.f.l.length x.f.c, .slice x.a x.l.length x.c], .int .i64 ins] w (GoodPost R ar none w) := by
  have hr := hw.r
  have hz := hw.z
  have hRl := hw.lt
  have e0 : ((r + 1 : Nat) : Int) = (r : Int) + 1 := by omega
  rw [e0] at hr
  have e1 : (((r : Int) + 1) == 0) = false := by simp; omega
  have fin : ∀ nq, GoodPost R ar none w (.returned (.bool false)) ((wTop R r x w).drewN nq) := by
    intro nq
    have hb : Below (w.setCell ⟨R, 1, none⟩ (.int .i64 (r : Int))).heap.size (w.setCell ⟨R, 1, none⟩ (.int .i64 (r : Int))) ((wTop R r x w).drewN nq) := below_drewN ((Below.refl _ _).alloc (Nat.le_refl _) _) _
    exact ⟨r, rfl, (WS.set hw).below hb, (fun q h => by cases h), setR_kept.trans (Kept.of_below hb)⟩
  have FIN : Hid (∀ nq, GoodPost R ar none w (.returned (.bool false)) ((wTop R r x w).drewN nq)) := fin
  clear fin
  by_cases hk1 : 1 ≤ x.k
  · have hd1 : decide (x.k < 1) = false := by simp; omega
    by_cases hk2 : x.k ≤ 9
    · have hd2 : decide (9 < x.k) = false := by simp; omega
      have hp := parts_cell hg x.k hk1 hk2
      have hlen : (x.l.length == partsOf x.k) = false := by
        have a1 : decide (1 ≤ x.k) = true := by simp [hk1]
        have a2 : decide (x.k ≤ 9) = true := by simp [hk2]
        rw [a1, a2] at hok
        simpa using hok
      have hne := len_ne _ _ hlen
      have hne2 : ((x.l.length : Int) != (partsOf x.k : Int)) = true := by rw [bne, hne]; rfl
      have i0 : (0 : Int) ≤ x.k := by omega
      have i1 : x.k < 10 := by omega
      have n2 : (2 : Nat) ≠ R := by omega
      have h2l : 2 < w.heap.size := by have := hg.size; omega
      clear hok hlen hk1 hk2 hg
      go_enter Tryd.func50, Tryd.ntmps50
      go_wp2_with fail
      go_quiet (fail)
      go_wp2_with fail
      go_ret
      exact FIN.out _
    · have hd2 : decide (9 < x.k) = true := by simp; omega
      clear hok hk2
      go_enter Tryd.func50, Tryd.ntmps50
      go_wp2_with fail
      go_quiet (fail)
      go_wp2_with fail
      go_ret
      exact FIN.out _
  · have hd1 : decide (x.k < 1) = true := by simp; omega
    clear hok hk1
    go_enter Tryd.func50, Tryd.ntmps50
    go_wp2_with fail
    go_quiet (fail)
    go_wp2_with fail
    go_ret
    exact FIN.out _
end Go.Proofs.YtibjnkpmnimgoaaDoor
