/-
  What the calls of term.alikeAtTop and term.Same answer at two terms that are alike.
-/
import Derived.Test.YtibjnkpmnimgoaaDoorIsAny
import Derived.Test.YtibjnkpmnimgoaaDoorRow7
import Derived.Test.YtibjnkpmnimgoaaDoorSure
namespace Go.Proofs.YtibjnkpmnimgoaaDoor
open Go.RowKit

theorem relY_refl : ∀ t : Ty, relY escSame t t = true := by
  intro t
  induction t using Ty.ind with
  | h k l ih =>
    rw [relY_mk]
    simp only [escSame, Bool.false_or, beq_self_eq_true, Bool.true_and]
    exact relL_all escSame l l rfl fun j h _ => ih _ (List.getElem_mem h)

/-- Its types are of at most a thousand levels. -/
def TT.tok : TT → Prop
  | ⟨_, _, t, f, _, _, l⟩ => (t.hgt ≤ 1000 ∧ t.sm) ∧ (f.hgt ≤ 1000 ∧ f.sm) ∧ ∀ x, x ∈ l → x.tok

theorem TT.tok_mk {k n : Int} {t f : Tr} {a : Option Addr} {c : Nat} {l : List TT} : (TT.mk k n t f a c l).tok ↔ (t.hgt ≤ 1000 ∧ t.sm) ∧ (f.hgt ≤ 1000 ∧ f.sm) ∧ ∀ x, x ∈ l → x.tok := by
  rw [TT.tok]
theorem TT.tok.t {x : TT} (h : x.tok) : x.t.hgt ≤ 1000 ∧ x.t.sm := by cases x; exact (TT.tok_mk.1 h).1
theorem TT.tok.f {x : TT} (h : x.tok) : x.f.hgt ≤ 1000 ∧ x.f.sm := by cases x; exact (TT.tok_mk.1 h).2.1
theorem TT.tok.mem {x y : TT} (h : x.tok) (hy : y ∈ x.l) : y.tok := by
  obtain ⟨k, n, t, f, a, c, l⟩ := x
  exact (TT.tok_mk.1 h).2.2 y hy

set_option maxHeartbeats 1000000 in
/-- term.alikeAtTop, of two that are alike. -/
theorem alikeTm_yes (x y : TT) (w : World) (hx : x.In w) (hy : y.In w) (hk : x.k = y.k) (hn : x.n = y.n) (hl : x.l.length = y.l.length) (ht : x.t.ty = y.t.ty) (hf : x.f.ty = y.f.ty) (hto : x.tok) :
    Calls Tryd.prog 36 #[.agg #[.int .i64 x.k, .int .i64 x.n, .int .i64 x.t.k, .slice x.t.a x.t.l.length x.t.c, .int .i64 x.f.k, .slice x.f.a x.f.l.length x.f.c, .slice x.a x.l.length x.c], .agg #[.int .i64 y.k, .int .i64 y.n, .int .i64 y.t.k, .slice y.t.a y.t.l.length y.t.c, .int .i64 y.f.k, .slice y.f.a y.f.l.length y.f.c, .slice y.a y.l.length y.c]] w fun e w' => e = .returned (.bool true) ∧ Below w.heap.size w w' := by
  have HT : Hid (∀ W, x.t.In W → y.t.In W → Calls Tryd.prog 27 #[.agg #[.int .i64 x.t.k, .slice x.t.a x.t.l.length x.t.c], .agg #[.int .i64 y.t.k, .slice y.t.a y.t.l.length y.t.c]] W fun e w' => e = .returned (.bool true) ∧ Below W.heap.size W w') := by
    intro W h1 h2
    have := same_whole x.t y.t W h1 h2 hto.t.1 hto.t.2
    rw [ht, relY_refl] at this
    exact this
  have HF : Hid (∀ W, x.f.In W → y.f.In W → Calls Tryd.prog 27 #[.agg #[.int .i64 x.f.k, .slice x.f.a x.f.l.length x.f.c], .agg #[.int .i64 y.f.k, .slice y.f.a y.f.l.length y.f.c]] W fun e w' => e = .returned (.bool true) ∧ Below W.heap.size W w') := by
    intro W h1 h2
    have := same_whole x.f y.f W h1 h2 hto.f.1 hto.f.2
    rw [hf, relY_refl] at this
    exact this
  have e1 : (x.k == y.k) = true := by simp [hk]
  have e2 : (x.n == y.n) = true := by simp [hn]
  have e3 : ((x.l.length : Int) == (y.l.length : Int)) = true := by simp [hl]
  have hb0 : ∀ o o', Below w.heap.size w ((w.alloc o).alloc o') := fun o o' => ((Below.refl _ _).alloc (Nat.le_refl _) _).alloc (by simp) _
  have HB : Hid (∀ o o', Below w.heap.size w ((w.alloc o).alloc o')) := hb0
  have HX : Hid (x.In w ∧ y.In w) := ⟨hx, hy⟩
  clear hk hn hl ht hf hto hx hy hb0
  go_enter Tryd.func36, Tryd.ntmps36
  go_wp2_with fail
  refine (HT.out _ (HX.out.1.below (HB.out _ _)).t (HX.out.2.below (HB.out _ _)).t).mono ?_
  rintro e w1 ⟨rfl, hb1⟩
  have hbw : Below w.heap.size w w1 := (HB.out _ _).trans (hb1.mono (by simp; omega))
  have q4 : w1.cell? ⟨w.heap.size, 4, none⟩ = some (.int .i64 x.f.k) := cell_later hb1 (by simp [go_sem])
  have q5 : w1.cell? ⟨w.heap.size, 5, none⟩ = some (.slice x.f.a x.f.l.length x.f.c) := cell_later hb1 (by simp [go_sem])
  have p4 : w1.cell? ⟨w.heap.size + 1, 4, none⟩ = some (.int .i64 y.f.k) := cell_later hb1 (by simp [go_sem])
  have p5 : w1.cell? ⟨w.heap.size + 1, 5, none⟩ = some (.slice y.f.a y.f.l.length y.f.c) := cell_later hb1 (by simp [go_sem])
  clear hb1
  go_wp2_with fail
  refine (HF.out _ (HX.out.1.below hbw).f (HX.out.2.below hbw).f).mono ?_
  rintro e w2 ⟨rfl, hb2⟩
  have hbz := hbw.trans (hb2.mono hbw.size)
  clear hb2 hbw
  go_wp2_with fail
  go_ret
  exact ⟨rfl, hbz⟩

theorem ownsRow_low {w w' : World} {B e size n : Nat} {v : Value} {xs : List Value} (h : w.ownsRow B e size v n xs) (hb : Below w.heap.size w w') : w'.ownsRow B e size v n xs := by
  refine ⟨h.1, ?_⟩
  rcases h.2 with hn | ⟨g, cap, cur, hv, hb', hg, rest⟩
  · exact .inl hn
  · exact .inr ⟨g, cap, cur, hv, hb', (hb.block g (Array.getElem?_eq_some_iff.1 hg).1).trans hg, rest⟩

theorem sum_take_le (f : TT → Nat) : ∀ (l : List TT) (j : Nat), ((l.take j).map f).sum ≤ (l.map f).sum
  | [], j => by simp
  | x :: l, 0 => by simp
  | x :: l, j + 1 => by
    have := sum_take_le f l j
    simp only [List.take_succ_cons, List.map_cons, List.sum_cons]; omega

/-! ### The stack -/

def TT.sz : TT → Nat
  | ⟨_, _, _, _, _, _, l⟩ => (l.map fun t => t.sz).sum + 1
theorem TT.sz_mk (k n : Int) (t f : Tr) (a : Option Addr) (c : Nat) (l : List TT) : (TT.mk k n t f a c l).sz = (l.map TT.sz).sum + 1 := by
  rw [TT.sz]
theorem TT.sz_eq (x : TT) : x.sz = (x.l.map TT.sz).sum + 1 := by cases x; rw [TT.sz_mk]
theorem TT.sz_pos (x : TT) : 1 ≤ x.sz := by rw [TT.sz_eq]; omega

def cells2 (ps : List (TT × TT)) : List Value := ps.flatMap fun p => [.slice p.1.a p.1.l.length p.1.c, .slice p.2.a p.2.l.length p.2.c]
theorem cells2_append (a b : List (TT × TT)) : cells2 (a ++ b) = cells2 a ++ cells2 b := by simp [cells2]
theorem cells2_length (a : List (TT × TT)) : (cells2 a).length = a.length * 2 := by
  induction a with
  | nil => rfl
  | cons p r ih => simp [cells2] at ih ⊢; omega

/-- Two lists of terms, each with each. -/
def Pr (B : Nat) (w : World) (p : TT × TT) : Prop := p.1.In w ∧ p.2.In w ∧ p.1.Bl (· < B) ∧ p.2.Bl (· < B) ∧ p.1.tok ∧ p.1.l.map TT.tm = p.2.l.map TT.tm

theorem Pr.low {B : Nat} {w w' : World} {p : TT × TT} (h : Pr B w p) (hb : Below B w w') : Pr B w' p :=
  ⟨h.1.congr (P := (· < B)) (fun b hb' o => hb.cell (p := ⟨b, o, none⟩) hb') h.2.2.1, h.2.1.congr (P := (· < B)) (fun b hb' o => hb.cell (p := ⟨b, o, none⟩) hb') h.2.2.2.1, h.2.2⟩

/-- The pairs of lists of these terms that have any. -/
def kids : List TT → List TT → List (TT × TT)
  | x :: xs, y :: ys => (if x.l.length = 0 then [] else [(x, y)]) ++ kids xs ys
  | _, _ => []

def mass (ps : List (TT × TT)) : Nat := (ps.map fun p => p.1.sz).sum

theorem kids_mass : ∀ xs ys : List TT, mass (kids xs ys) ≤ (xs.map TT.sz).sum
  | [], _ => by simp [kids, mass]
  | x :: xs, [] => by simp [kids, mass]
  | x :: xs, y :: ys => by
    have := kids_mass xs ys
    simp only [kids, mass, List.map_append, List.sum_append_nat, List.map_cons, List.sum_cons] at this ⊢
    split
    · simp; omega
    · simp; omega

theorem kids_snoc : ∀ (l m : List TT) (j : Nat) (hj : j < l.length) (hm : j < m.length), kids (l.take (j + 1)) (m.take (j + 1)) = kids (l.take j) (m.take j) ++ (if l[j].l.length = 0 then [] else [(l[j], m[j])])
  | x :: l, y :: m, 0, _, _ => by simp [kids]
  | x :: l, y :: m, j + 1, hj, hm => by
    have := kids_snoc l m j (by simpa using hj) (by simpa using hm)
    simp only [List.take_succ_cons, kids, List.getElem_cons_succ]
    rw [this, List.append_assoc]
  | [], _, j, hj, _ => by simp at hj
  | x :: l, [], j, _, hm => by simp at hm

structure Stk (B : Nat) (v : Value) (ps : List (TT × TT)) (w : World) : Prop where
  own : w.ownsRow B 59 2 v ps.length (cells2 ps)
  ins : ∀ p, p ∈ ps → Pr B w p

theorem Stk.len {ps : List (TT × TT)} : ps.length ≤ mass ps := by
  induction ps with
  | nil => simp
  | cons p r ih => have := p.1.sz_pos; simp only [mass, List.map_cons, List.sum_cons, List.length_cons] at ih ⊢; omega

theorem Tryd.info59 : (Tryd.prog.info? 59).map (fun i => (i.zero, i.size, i.bytes)) = some (some (.agg #[.slice none 0 0, .slice none 0 0]), 2, 48) := by kernel_rfl

theorem tm_parts {x y : TT} (h : x.tm = y.tm) : x.k = y.k ∧ x.n = y.n ∧ x.l.length = y.l.length ∧ x.t.ty = y.t.ty ∧ x.f.ty = y.f.ty ∧ x.l.map TT.tm = y.l.map TT.tm := by
  have hk := congrArg Tm.k h
  have hn := congrArg Tm.n h
  have ht := congrArg Tm.t h
  have hf := congrArg Tm.f h
  have hl := congrArg Tm.l h
  rw [TT.tm_k, TT.tm_k] at hk
  rw [TT.tm_n, TT.tm_n] at hn
  rw [TT.tm_t, TT.tm_t] at ht
  rw [TT.tm_f, TT.tm_f] at hf
  rw [TT.tm_l, TT.tm_l] at hl
  exact ⟨hk, hn, by have := congrArg List.length hl; simpa using this, ht, hf, hl⟩
end Go.Proofs.YtibjnkpmnimgoaaDoor
