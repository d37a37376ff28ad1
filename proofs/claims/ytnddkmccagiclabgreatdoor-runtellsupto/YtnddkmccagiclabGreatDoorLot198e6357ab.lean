/-
  What the calls of kind.To, kind.Ground, kind.Plain and kind.alikeAtTop answer, at whatever trees lie in memory.
-/
import Derived.Test.YtnddkmccagiclabGreatDoorRows
import Derived.Test.YtnddkmccagiclabGreatDoorLotfef4768764
import Derived.Deep.LoopGhost
import Derived.Deep.AppendLies
import Derived.Deep.AppendSrc
import Derived.Deep.RegionLaw
import Derived.WalkSmall
namespace Go.Proofs.YtnddkmccagiclabGreatDoor
open Go.RowKit
set_option maxHeartbeats 400000 in
/-- kind.alikeAtTop. -/
theorem alike_walk (k k' : Int) (a a' : Option Addr) (m m' c c' : Nat) (w : World) :
    Calls Tryz.prog 79 #[.agg #[.int .i64 k, .slice a m c], .agg #[.int .i64 k', .slice a' m' c']] w fun e w' => e = .returned (.bool (k == k' && (m : Int) == (m' : Int))) ∧ Below w.heap.size w w' := by
  by_cases h : (k == k') = true
  · go_enter Tryz.func79, Tryz.ntmps79
    go_wp2_with fail
    go_ret
    exact ⟨by simp [h], ((Below.refl _ _).alloc (Nat.le_refl _) _).alloc (by simp) _⟩
  · have h' : (k == k') = false := by simpa using h
    clear h
    go_enter Tryz.func79, Tryz.ntmps79
    go_wp2_with fail
    go_ret
    exact ⟨by simp [h'], ((Below.refl _ _).alloc (Nat.le_refl _) _).alloc (by simp) _⟩
theorem alike_any (k k' : Int) (a a' : Option Addr) (m m' c c' : Nat) (r : Bool) (hr : (k == k' && (m : Int) == (m' : Int)) = r) (w : World) :
    Calls Tryz.prog 79 #[.agg #[.int .i64 k, .slice a m c], .agg #[.int .i64 k', .slice a' m' c']] w fun e w' => e = .returned (.bool r) ∧ Below w.heap.size w w' := by
  rw [← hr]
  exact alike_walk k k' a a' m m' c c' w
set_option maxHeartbeats 400000 in
/-- kind.To. -/
theorem to_cells (k k' : Int) (a a' : Option Addr) (m m' c c' : Nat) (w : World) :
    Calls Tryz.prog 106 #[.agg #[.int .i64 k, .slice a m c], .agg #[.int .i64 k', .slice a' m' c']] w fun e w' => ∃ g, w.heap.size ≤ g ∧ e = .returned (.agg #[.int .i64 3, .slice (some ⟨g, 0, none⟩) 2 2]) ∧ w'.cell? ⟨g, 0, none⟩ = some (.int .i64 k) ∧ w'.cell? ⟨g, 1, none⟩ = some (.slice a m c) ∧ w'.cell? ⟨g, 2, none⟩ = some (.int .i64 k') ∧ w'.cell? ⟨g, 3, none⟩ = some (.slice a' m' c') ∧ Below w.heap.size w w' := by
  go_enter Tryz.func106, Tryz.ntmps106
  go_wp2_with fail
  refine bodyPost_ret (v := .agg #[.int .i64 3, .slice (some ⟨w.heap.size + 1 + 1 + 1, 0, none⟩) 2 2]) (by simp [results, Tryz.results106, go_sem]) rfl ⟨_, ?_, rfl, by simp [go_sem], by simp [go_sem], by simp [go_sem], by simp [go_sem], ?_⟩
  · omega
  exact ((((Below.refl _ _).alloc (Nat.le_refl _) _).alloc (by simp) _).alloc (by simp; omega) _).alloc (by simp; omega) _
theorem to_any (x y : Tr) (w : World) (hx : x.In w) (hy : y.In w) :
    Calls Tryz.prog 106 #[.agg #[.int .i64 x.k, .slice x.a x.l.length x.c], .agg #[.int .i64 y.k, .slice y.a y.l.length y.c]] w fun e w' => ∃ g, w.heap.size ≤ g ∧ e = .returned (.agg #[.int .i64 3, .slice (some ⟨g, 0, none⟩) 2 2]) ∧ (Tr.mk 3 (some ⟨g, 0, none⟩) 2 [x, y]).In w' ∧ Below w.heap.size w w' := by
  refine (to_cells x.k y.k x.a y.a x.l.length y.l.length x.c y.c w).mono ?_
  rintro e w' ⟨g, hg, rfl, c0, c1, c2, c3, hb⟩
  refine ⟨g, hg, rfl, ?_, hb⟩
  exact Tr.In_two c0 c1 c2 c3 (hx.below hb) (hy.below hb)
/-- A type without parts. -/
def leaf (k : Int) : Tr := .mk k none 0 []
theorem leaf_in (k : Int) (w : World) : (leaf k).In w := Tr.In_nil w k none 0
theorem leaf_bl (k : Int) (P : Nat → Prop) : (leaf k).Bl P := Tr.Bl_nil P k none 0
end Go.Proofs.YtnddkmccagiclabGreatDoor

/-
  What the call of kind.Sure answers at a right tree of not too many nodes.
-/
namespace Go.Proofs.YtnddkmccagiclabGreatDoor
open Go.RowKit
/-- Is Any nowhere in it? -/
def sureY : Ty → Bool
  | ⟨k, l⟩ => k != 0 && (l.map fun t => sureY t).all id
/-- How many nodes. -/
def Tr.sz : Tr → Nat
  | ⟨_, _, _, l⟩ => (l.map fun t => t.sz).sum + 1
theorem Tr.sz_mk (k : Int) (a : Option Addr) (c : Nat) (l : List Tr) : (Tr.mk k a c l).sz = (l.map Tr.sz).sum + 1 := by
  rw [Tr.sz]
theorem Tr.sz_pos (t : Tr) : 1 ≤ t.sz := by cases t; rw [Tr.sz_mk]; omega
/-- The cells of a list of trees. -/
def cellsOf : List Tr → List Value
  | [] => []
  | t :: r => .int .i64 t.k :: .slice t.a t.l.length t.c :: cellsOf r
theorem cellsOf_length : ∀ l : List Tr, (cellsOf l).length = l.length * 2
  | [] => rfl
  | t :: r => by simp only [cellsOf, List.length_cons, cellsOf_length r]; omega
theorem cellsOf_append : ∀ l r : List Tr, cellsOf (l ++ r) = cellsOf l ++ cellsOf r
  | [], r => rfl
  | t :: l, r => by simp only [List.cons_append, cellsOf, cellsOf_append l r]
/-- What is left to be looked at. -/
def Left (B : Nat) (b : Bool) (N k : Nat) (v : Value) (wr : World) : Prop :=
  ∃ ts : List Tr, wr.ownsRow B 24 2 v ts.length (cellsOf ts) ∧ (∀ t, t ∈ ts → t.In wr ∧ t.Bl (· < B) ∧ t.right) ∧ (ts.map Tr.sz).sum = k ∧ k ≤ N ∧ b = ts.all fun t => sureY t.ty
theorem Left.split {ts : List Tr} (h : ts ≠ []) : ∃ us x, ts = us ++ [x] := ⟨ts.dropLast, ts.getLast h, (List.dropLast_concat_getLast h).symm⟩
/-- append of nothing, where there is room for nothing: a step of a region that draws. -/
theorem step_append_void {P : Program} {ops : Array Oper} {o : Oper} {a : Act} {w : World} {K : Act → World → Prop} {Q : Exit → Act → World → Prop} {E : Prop}
    (hg : o.guard = none) (s x : Operand) (t : TypeId) (hop : o.op = Op.call { callee := Callee.builtin Builtin.append, args := #[s, x], argTypes := #[t, t] })
    (e : TypeId) (i : TypeInfo) (h1 : P.underlying t = some (.slice e)) (h2 : P.info? e = some i)
    (b n cap : Nat) (hs : a.eval s = .slice (some ⟨b, 0, none⟩) n cap) (xa : Option Addr) (c : Nat) (hx : a.eval x = .slice xa 0 c) (hroom : n ≤ cap)
    (hK : K (a.put o.dst (.slice (some ⟨b, 0, none⟩) n cap)) w) :
    if Region.wanted o (yielded ops a.tmps) = true then Oper.wp P o a w K Q else E := by
  have hw : Region.wanted o (yielded ops a.tmps) = true := by simp [Region.wanted, hg]
  rw [if_pos hw]
  have hsrc : Src P i.size t (.slice xa 0 c) 0 [] w := by
    cases xa with
    | none => exact Src.ofNil w h1 c
    | some ad => exact Src.ofSlice w h1 ad 0 c [] (by simp) (fun j u h => by simp at h) (fun u h => by cases h)
  have hrun := run_append_room_src (P := P) w t t o.type e i h1 h2 b 0 n cap (.slice xa 0 c) 0 [] hsrc (by omega) (fun j h => by simp at h) (fun j h => by simp at h)
  unfold Oper.wp
  simp only [execOp, hop, resolve, invoke, builtin, Sem.run_bind, Sem.run_pure, Result.andThen_ok, List.map_toArray, List.map_cons, List.map_nil, hs, hx, hrun]
  exact hK
theorem Tryz.info24s : (Tryz.prog.info? 24).map (fun i => (i.zero, i.size, i.bytes)) = some (some (.agg #[.int .i64 0, .slice none 0 0]), 2, 32) := by kernel_rfl
end Go.Proofs.YtnddkmccagiclabGreatDoor

/-
  The plain mathematics of good types: what both say each of them says; who is finer fits; what is sure fits only what is coarser; no program in it.
-/
namespace Go.Proofs.YtnddkmccagiclabGreatDoor
theorem goodY_cases {n : Nat} {t : Ty} (h : goodY (n + 1) t = true) : (∃ k, t = ⟨k, []⟩ ∧ (k = 0 ∨ k = 1 ∨ k = 2)) ∨ ∃ x y, t = ⟨3, [x, y]⟩ ∧ goodY n x = true ∧ goodY n y = true := by
  match t, h with
  | ⟨k, []⟩, h => exact .inl ⟨k, rfl, by simpa [goodY, or_assoc] using h⟩
  | ⟨k, [x]⟩, h => simp [goodY] at h
  | ⟨k, [x, y]⟩, h =>
    simp [goodY] at h
    obtain ⟨⟨rfl, hx⟩, hy⟩ := h
    exact .inr ⟨x, y, rfl, hx, hy⟩
  | ⟨k, x :: y :: z :: r⟩, h => simp [goodY] at h
theorem any_left (t : Ty) (l : List Ty) : relY escFits ⟨0, l⟩ t = true := by cases t; simp [relY_mk, escFits]
theorem any_right (t : Ty) (l : List Ty) : relY escFits t ⟨0, l⟩ = true := by cases t; simp [relY_mk, escFits]
theorem two (esc : Int → Int → Bool) (x y x' y' : Ty) (h : esc 3 3 = false) : relY esc ⟨3, [x, y]⟩ ⟨3, [x', y']⟩ = (relY esc x x' && relY esc y y') := by
  simp [relY_mk, relL, h]
theorem join_two (x y x' y' : Ty) : joinY ⟨3, [x, y]⟩ ⟨3, [x', y']⟩ = ⟨3, [joinY x x', joinY y y']⟩ := by
  simp [joinY_mk, joinL]
theorem join_facts : ∀ (n : Nat) (a b : Ty), goodY n a = true → goodY n b = true →
    goodY n (joinY a b) = true ∧ relY escFiner a (joinY a b) = true ∧ relY escFiner b (joinY a b) = true ∧ joinY b a = joinY a b ∧ joinY a a = a
  | 0, a, b, h, _ => by simp [goodY] at h
  | n + 1, a, b, ha, hb => by
    rcases goodY_cases ha with ⟨k, rfl, hk⟩ | ⟨x, y, rfl, hx, hy⟩
    · rcases goodY_cases hb with ⟨k', rfl, hk'⟩ | ⟨x', y', rfl, hx', hy'⟩
      · by_cases e : k = k'
        · subst e
          rcases hk with rfl | rfl | rfl <;> simp [joinY_mk, joinL, goodY, relY_mk, relL]
        · have e' : k' ≠ k := fun h => e h.symm
          simp [joinY_mk, joinL, e, e', goodY, relY_mk, escFiner]
      · have e : k ≠ 3 := by omega
        have e' : (3 : Int) ≠ k := by omega
        simp [joinY_mk, joinL, e, e', goodY, relY_mk, escFiner]
    · rcases goodY_cases hb with ⟨k', rfl, hk'⟩ | ⟨x', y', rfl, hx', hy'⟩
      · have e : k' ≠ 3 := by omega
        have e' : (3 : Int) ≠ k' := by omega
        obtain ⟨_, _, _, _, ix⟩ := join_facts n x x hx hx
        obtain ⟨_, _, _, _, iy⟩ := join_facts n y y hy hy
        simp [joinY_mk, joinL, e, e', goodY, relY_mk, escFiner, ix, iy]
      · obtain ⟨g1, f1, f2, c1, i1⟩ := join_facts n x x' hx hx'
        obtain ⟨g2, f3, f4, c2, i2⟩ := join_facts n y y' hy hy'
        refine ⟨?_, ?_, ?_, ?_, ?_⟩
        · rw [join_two]; simp [goodY, g1, g2]
        · rw [join_two, two _ _ _ _ _ rfl, f1, f3]; rfl
        · rw [join_two, two _ _ _ _ _ rfl, f2, f4]; rfl
        · rw [join_two, join_two, c1, c2]
        · rw [join_two, i1, i2]
theorem fits_sym : ∀ (n : Nat) (a b : Ty), goodY n a = true → goodY n b = true → relY escFits a b = relY escFits b a
  | 0, a, b, h, _ => by simp [goodY] at h
  | n + 1, a, b, ha, hb => by
    rcases goodY_cases ha with ⟨ka, rfl, _⟩ | ⟨x, y, rfl, hx, hy⟩
    · rcases goodY_cases hb with ⟨kb, rfl, _⟩ | ⟨x', y', rfl, hx', hy'⟩
      · simp [relY_mk, relL, escFits, Bool.or_comm, Bool.beq_comm]
      · simp [relY_mk, relL, escFits]
    · rcases goodY_cases hb with ⟨kb, rfl, _⟩ | ⟨x', y', rfl, hx', hy'⟩
      · simp [relY_mk, relL, escFits]
      · rw [two _ _ _ _ _ rfl, two _ _ _ _ _ rfl, fits_sym n x x' hx hx', fits_sym n y y' hy hy']
theorem fits_refl : ∀ (n : Nat) (a : Ty), goodY n a = true → relY escFits a a = true
  | 0, a, h => by simp [goodY] at h
  | n + 1, a, ha => by
    rcases goodY_cases ha with ⟨ka, rfl, _⟩ | ⟨x, y, rfl, hx, hy⟩
    · simp [relY_mk, relL]
    · rw [two _ _ _ _ _ rfl, fits_refl n x hx, fits_refl n y hy]; rfl
theorem finer_fits : ∀ (n : Nat) (a b : Ty), goodY n a = true → goodY n b = true → relY escFiner a b = true → relY escFits a b = true
  | 0, a, b, h, _ => by simp [goodY] at h
  | n + 1, a, b, ha, hb => by
    intro h
    rcases goodY_cases hb with ⟨kb, rfl, _⟩ | ⟨x', y', rfl, hx', hy'⟩
    · rcases goodY_cases ha with ⟨ka, rfl, _⟩ | ⟨x, y, rfl, hx, hy⟩
      · simp [relY_mk, relL, escFiner] at h
        simp [relY_mk, relL, escFits]
        omega
      · simp [relY_mk, relL, escFiner] at h
        subst h
        exact any_right _ _
    · rcases goodY_cases ha with ⟨ka, rfl, _⟩ | ⟨x, y, rfl, hx, hy⟩
      · simp [relY_mk, relL, escFiner] at h
      · rw [two _ _ _ _ _ rfl, Bool.and_eq_true] at h
        rw [two _ _ _ _ _ rfl, finer_fits n x x' hx hx' h.1, finer_fits n y y' hy hy' h.2]
        rfl
end Go.Proofs.YtnddkmccagiclabGreatDoor

/-
  Types of casts, values and machines, in plain mathematics: what has a type never gets stuck; no program in it.
-/
namespace Go.Proofs.YtnddkmccagiclabGreatDoor
def numY : Ty := ⟨1, []⟩
def truthY : Ty := ⟨2, []⟩
def funY (a b : Ty) : Ty := ⟨3, [a, b]⟩
/-- The plain type of a kind. -/
def gr (k : Int) : Ty := if k = 3 then funY anyY anyY else ⟨k, []⟩
theorem same_eq : ∀ a b : Ty, relY escSame a b = true → a = b := by
  intro a
  induction a using Ty.ind with
  | h k l ih =>
    intro b h
    obtain ⟨k', l'⟩ := b
    rw [relY_mk] at h
    simp only [escSame, Bool.false_or, Bool.and_eq_true, beq_iff_eq] at h
    obtain ⟨rfl, hl⟩ := h
    have : ∀ (l l' : List Ty), (∀ t, t ∈ l → ∀ b, relY escSame t b = true → t = b) → relL escSame l l' = true → l = l' := by
      intro l
      induction l with
      | nil => intro l' _ h; cases l' with
        | nil => rfl
        | cons _ _ => simp [relL] at h
      | cons x r ihr =>
        intro l' hx h
        cases l' with
        | nil => simp [relL] at h
        | cons y s =>
          simp only [relL, Bool.and_eq_true] at h
          rw [hx x (by simp) y h.1, ihr s (fun t ht => hx t (by simp [ht])) h.2]
    rw [this l l' ih hl]
theorem same_refl : ∀ a : Ty, relY escSame a a = true := by
  intro a
  induction a using Ty.ind with
  | h k l ih =>
    rw [relY_mk]
    simp only [escSame, Bool.false_or, beq_self_eq_true, Bool.true_and]
    induction l with
    | nil => rfl
    | cons x r ihr => simp only [relL, ih x (by simp), ihr fun t ht => ih t (by simp [ht]), Bool.and_self]
/-- A cast is from a type to another one. -/
def tyC : Option Ca → Ty → Ty → Prop
  | none, S, T => S = T
  | some ⟨o, w, k, e, g, a, h⟩, S, T => (k = 1 ∨ k = 2 ∨ k = 3) ∧ ∃ S' T' : Ty, ((o = true ∧ S = anyY ∧ S' = gr k ∧ w.k = 4) ∨ (o = false ∧ S = S')) ∧ ((k ≠ 3 ∧ S' = ⟨k, []⟩) ∨ (k = 3 ∧ ∃ s1 s2, S' = funY s1 s2)) ∧
    (e.k = 4 ∨ (e.k = 0 ∧ ((h = true ∧ T = anyY ∧ T' = gr k) ∨ (h = false ∧ T = T')) ∧ ((k ≠ 3 ∧ T' = ⟨k, []⟩ ∧ g = none ∧ a = none) ∨ (k = 3 ∧ ∃ s1 s2 t1 t2, S' = funY s1 s2 ∧ T' = funY t1 t2 ∧ tyC g t1 s1 ∧ tyC a s2 t2))))
  termination_by c => SizeOf.sizeOf c
  decreasing_by
    · simp; omega
    · simp; omega
theorem tyC_none {S T : Ty} : tyC none S T ↔ S = T := by rw [tyC]
theorem tyC_some {o : Bool} {w : Out} {k : Int} {e : Out} {g a : Option Ca} {h : Bool} {S T : Ty} : tyC (some ⟨o, w, k, e, g, a, h⟩) S T ↔ (k = 1 ∨ k = 2 ∨ k = 3) ∧ ∃ S' T' : Ty, ((o = true ∧ S = anyY ∧ S' = gr k ∧ w.k = 4) ∨ (o = false ∧ S = S')) ∧ ((k ≠ 3 ∧ S' = ⟨k, []⟩) ∨ (k = 3 ∧ ∃ s1 s2, S' = funY s1 s2)) ∧
    (e.k = 4 ∨ (e.k = 0 ∧ ((h = true ∧ T = anyY ∧ T' = gr k) ∨ (h = false ∧ T = T')) ∧ ((k ≠ 3 ∧ T' = ⟨k, []⟩ ∧ g = none ∧ a = none) ∨ (k = 3 ∧ ∃ s1 s2 t1 t2, S' = funY s1 s2 ∧ T' = funY t1 t2 ∧ tyC g t1 s1 ∧ tyC a s2 t2)))) := by
  rw [tyC]
theorem funY_inj {a b c d : Ty} (h : funY a b = funY c d) : a = c ∧ b = d := by simpa [funY] using h
/-- The first way of a type without Any at its top. -/
theorem half_k {k : Int} {S : Ty} (h : (k ≠ 3 ∧ S = ⟨k, []⟩) ∨ (k = 3 ∧ ∃ s1 s2, S = funY s1 s2)) : S.k = k := by
  rcases h with ⟨_, rfl⟩ | ⟨rfl, s1, s2, rfl⟩ <;> rfl
theorem half_k' {k : Int} {S T : Ty} {g a : Option Ca} (h : (k ≠ 3 ∧ T = ⟨k, []⟩ ∧ g = none ∧ a = none) ∨ (k = 3 ∧ ∃ s1 s2 t1 t2, S = funY s1 s2 ∧ T = funY t1 t2 ∧ tyC g t1 s1 ∧ tyC a s2 t2)) : T.k = k := by
  rcases h with ⟨_, rfl, _⟩ | ⟨rfl, s1, s2, t1, t2, _, rfl, _⟩ <;> rfl
theorem tyC_then : ∀ (n : Nat) (c d : Option Ca) (S T U : Ty), SizeOf.sizeOf c + SizeOf.sizeOf d ≤ n → tyC c S T → tyC d T U → tyC (thenC c d) S U
  | 0, c, d, _, _, _, h, _, _ => by cases c <;> simp at h
  | n + 1, none, d, S, T, U, _, h1, h2 => by rw [thenC_nil, tyC_none.1 h1]; exact h2
  | n + 1, some c, none, S, T, U, _, h1, h2 => by rw [thenC_one, ← tyC_none.1 h2]; exact h1
  | n + 1, some ⟨o, w, k, e, g, a, h⟩, some ⟨o', w', k', e', g', a', h'⟩, S, T, U, hn, h1, h2 => by
    simp at hn
    obtain ⟨hk, S1, T1, hS, hS1, he⟩ := tyC_some.1 h1
    obtain ⟨hk', S2, T2, hT, hS2, he'⟩ := tyC_some.1 h2
    rw [thenC_two]
    rcases he with he | ⟨he, hT1, hp⟩
    · rw [if_neg (by omega)]
      exact tyC_some.2 ⟨hk, S1, T1, hS, hS1, .inl he⟩
    · rw [if_pos he]
      have a1 := half_k hS2
      have a2 := half_k' hp
      by_cases hkk : k' = k
      · rw [if_pos hkk]
        refine tyC_some.2 ⟨hk, S1, T2, hS, hS1, ?_⟩
        rcases he' with he' | ⟨he', hU, hp'⟩
        · exact .inl he'
        · refine .inr ⟨he', ?_, ?_⟩
          · rcases hU with ⟨x1, x2, x3⟩ | x
            · exact .inl ⟨x1, x2, by rw [x3, hkk]⟩
            · exact .inr x
          · have e12 : T1 = S2 := by
              rcases hT1 with ⟨_, t1, t2⟩ | ⟨_, t1⟩ <;> rcases hT with ⟨_, s1, s2, _⟩ | ⟨_, s1⟩
              · rw [t2, s2, hkk]
              · exfalso; rw [← s1, t1] at a1; simp [anyY] at a1; omega
              · exfalso; rw [← t1, s1] at a2; simp [anyY] at a2; omega
              · rw [← t1, s1]
            rcases hp' with ⟨q1, q2, rfl, rfl⟩ | ⟨q1, s1, s2, t1, t2, q2, q3, q4, q5⟩
            · rcases hp with ⟨p1, p2, rfl, rfl⟩ | ⟨p1, _⟩
              · exact .inl ⟨p1, by rw [q2, hkk], by rw [thenC_nil], by rw [thenC_nil]⟩
              · omega
            · rcases hp with ⟨p1, _⟩ | ⟨p1, u1, u2, v1, v2, p2, p3, p4, p5⟩
              · omega
              · have : funY v1 v2 = funY s1 s2 := by rw [← p3, ← q2, e12]
                obtain ⟨rfl, rfl⟩ := funY_inj this
                exact .inr ⟨p1, u1, u2, t1, t2, p2, q3, tyC_then n g' g _ _ _ (by omega) q4 p4, tyC_then n a a' _ _ _ (by omega) p5 q5⟩
      · rw [if_neg hkk]
        refine tyC_some.2 ⟨hk, S1, T1, hS, hS1, .inl ?_⟩
        rcases hT with ⟨_, _, _, hw⟩ | ⟨_, s1⟩
        · exact hw
        · exfalso
          rcases hT1 with ⟨_, t1, _⟩ | ⟨_, t1⟩
          · rw [← s1, t1] at a1; simp [anyY] at a1; omega
          · rw [← t1, s1] at a2; omega
theorem tyC_thens {c d : Option Ca} {S T U : Ty} (h1 : tyC c S T) (h2 : tyC d T U) : tyC (thenC c d) S U := tyC_then _ c d S T U (Nat.le_refl _) h1 h2
theorem fits_kind {a b : Ty} (h : relY escFits a b = true) (ha : a.k ≠ 0) (hb : b.k ≠ 0) : a.k = b.k := by
  cases a; cases b
  rw [relY_mk] at h
  simp only [escFits, Bool.or_eq_true, Bool.and_eq_true, beq_iff_eq] at h
  simp only at ha hb ⊢
  omega
/-- The cast that is made of two types that fit. -/
theorem tyC_new : ∀ (m n : Nat) (f t : Ty) (o : Out), goodY n f = true → goodY n t = true → relY escFits f t = true → o.k = 4 → 2 * n + (if f.k = 0 ∨ t.k = 0 then 1 else 0) ≤ m → tyC (newC m f t o) f t
  | 0, 0, f, t, o, hf, _, _, _, _ => by simp [goodY] at hf
  | 0, n + 1, f, t, o, _, _, _, _, hm => by omega
  | m + 1, 0, f, t, o, hf, _, _, _, _ => by simp [goodY] at hf
  | m + 1, n + 1, f, t, o, hf, ht, hfit, ho, hm => by
    rw [newC]
    by_cases hs : relY escSame f t = true
    · rw [if_pos hs, tyC_none]; exact same_eq f t hs
    rw [if_neg hs]
    have hne : f ≠ t := fun e => hs (by rw [e]; exact same_refl t)
    rcases goodY_cases hf with ⟨k, rfl, hk⟩ | ⟨f1, f2, rfl, gf1, gf2⟩ <;> rcases goodY_cases ht with ⟨k', rfl, hk'⟩ | ⟨t1, t2, rfl, gt1, gt2⟩
    · have h3 : ¬ ((Ty.mk k []).k = 3 ∧ (Ty.mk k' []).k = 3) := by simp only; omega
      rw [if_neg h3]
      have hkk : k ≠ k' := fun e => hne (by rw [e])
      have hor : k = 0 ∨ k' = 0 := by
        have := fits_kind hfit
        simp only at this
        omega
      simp only
      split
      · rename_i h0
        have e1 : groundY (Ty.mk k []) = ⟨k, []⟩ := by simp only [groundY]; rw [if_neg (by omega)]
        have e2 : newC m ⟨k, []⟩ ⟨k, []⟩ o = none := by
          cases m with
          | zero => rfl
          | succ m => rw [newC, if_pos (same_refl _)]
        rw [e1, e2]
        refine tyC_some.2 ⟨by simp only [someC]; omega, ⟨k, []⟩, gr k, .inr ⟨rfl, rfl⟩, .inl ⟨by simp only [someC]; omega, rfl⟩, .inr ⟨rfl, .inl ⟨rfl, by rw [h0]; rfl, rfl⟩, .inl ⟨by simp only [someC]; omega, ?_, rfl, rfl⟩⟩⟩
        simp only [gr, someC]; rw [if_neg (by omega)]
      · rename_i h0
        have hk0 : k = 0 := by omega
        subst hk0
        rw [if_pos rfl]
        have e1 : groundY (Ty.mk k' []) = ⟨k', []⟩ := by simp only [groundY]; rw [if_neg (by omega)]
        have e2 : newC m ⟨k', []⟩ ⟨k', []⟩ o = none := by
          cases m with
          | zero => rfl
          | succ m => rw [newC, if_pos (same_refl _)]
        rw [e1, e2]
        refine tyC_some.2 ⟨by simp only [someC]; omega, gr k', ⟨k', []⟩, .inl ⟨rfl, rfl, rfl, ho⟩, .inl ⟨by simp only [someC]; omega, ?_⟩, .inr ⟨rfl, .inr ⟨rfl, rfl⟩, .inl ⟨by simp only [someC]; omega, rfl, rfl, rfl⟩⟩⟩
        simp only [gr, someC]; rw [if_neg (by omega)]
    · have h3 : ¬ ((Ty.mk k []).k = 3 ∧ (Ty.mk 3 [t1, t2]).k = 3) := by simp only; omega
      rw [if_neg h3]
      have hk0 : k = 0 := by
        have := fits_kind hfit
        simp only at this
        omega
      subst hk0
      simp only
      rw [if_neg (by omega), if_pos trivial]
      have e1 : groundY (Ty.mk 3 [t1, t2]) = funY anyY anyY := rfl
      rw [e1]
      have hg2 : goodY (n + 1) (funY anyY anyY) = true := by
        cases n with
        | zero => simp [goodY] at gt1
        | succ n => simp [goodY, funY, anyY]
      have ih := tyC_new m (n + 1) (funY anyY anyY) ⟨3, [t1, t2]⟩ o hg2 ht (by rw [funY, two _ _ _ _ _ rfl, anyY, any_left, any_left]; rfl) ho (by simp [funY] at hm ⊢; omega)
      cases hc : newC m (funY anyY anyY) ⟨3, [t1, t2]⟩ o with
      | none =>
        rw [hc] at ih
        have := tyC_none.1 ih
        refine tyC_some.2 ⟨.inr (.inr rfl), gr 3, ⟨3, [t1, t2]⟩, .inl ⟨rfl, rfl, rfl, ho⟩, .inr ⟨rfl, anyY, anyY, rfl⟩, .inr ⟨rfl, .inr ⟨rfl, rfl⟩, .inr ⟨rfl, anyY, anyY, anyY, anyY, rfl, this.symm, tyC_none.2 rfl, tyC_none.2 rfl⟩⟩⟩
      | some c =>
        rw [hc] at ih
        obtain ⟨oo, w, k, e, g, a, h⟩ := c
        obtain ⟨hk, S1, T1, hS, hS1, he⟩ := tyC_some.1 ih
        have hS' : S1 = funY anyY anyY := by
          rcases hS with ⟨_, h, _⟩ | ⟨_, h⟩
          · simp [funY, anyY] at h
          · exact h.symm
        have hk3 : k = 3 := by
          rcases hS1 with ⟨_, h⟩ | ⟨h, _⟩
          · rw [hS'] at h; simp [funY] at h
          · exact h
        subst hk3
        exact tyC_some.2 ⟨hk, S1, T1, .inl ⟨rfl, rfl, by rw [hS']; rfl, ho⟩, hS1, he⟩
    · have h3 : ¬ ((Ty.mk 3 [f1, f2]).k = 3 ∧ (Ty.mk k' []).k = 3) := by simp only; omega
      rw [if_neg h3]
      have hk0 : k' = 0 := by
        have := fits_kind hfit
        simp only at this
        omega
      subst hk0
      simp only
      rw [if_pos trivial]
      have e1 : groundY (Ty.mk 3 [f1, f2]) = funY anyY anyY := rfl
      rw [e1]
      have hg2 : goodY (n + 1) (funY anyY anyY) = true := by
        cases n with
        | zero => simp [goodY] at gf1
        | succ n => simp [goodY, funY, anyY]
      have ih := tyC_new m (n + 1) ⟨3, [f1, f2]⟩ (funY anyY anyY) o hf hg2 (by rw [funY, two _ _ _ _ _ rfl, anyY, any_right, any_right]; rfl) ho (by simp [funY] at hm ⊢; omega)
      cases hc : newC m ⟨3, [f1, f2]⟩ (funY anyY anyY) o with
      | none =>
        rw [hc] at ih
        have := tyC_none.1 ih
        refine tyC_some.2 ⟨.inr (.inr rfl), ⟨3, [f1, f2]⟩, gr 3, .inr ⟨rfl, rfl⟩, .inr ⟨rfl, f1, f2, rfl⟩, .inr ⟨rfl, .inl ⟨rfl, rfl, rfl⟩, .inr ⟨rfl, anyY, anyY, anyY, anyY, this, rfl, tyC_none.2 rfl, tyC_none.2 rfl⟩⟩⟩
      | some c =>
        rw [hc] at ih
        obtain ⟨oo, w, k, e, g, a, h⟩ := c
        obtain ⟨hk, S1, T1, hS, hS1, he⟩ := tyC_some.1 ih
        have hS' : S1 = ⟨3, [f1, f2]⟩ := by
          rcases hS with ⟨_, h, _⟩ | ⟨_, h⟩
          · simp [anyY] at h
          · exact h.symm
        have hk3 : k = 3 := by
          rcases hS1 with ⟨_, h⟩ | ⟨h, _⟩
          · rw [hS'] at h; simp at h
          · exact h
        subst hk3
        refine tyC_some.2 ⟨hk, S1, funY anyY anyY, hS, hS1, ?_⟩
        rcases he with he | ⟨he, hT, hp⟩
        · exact .inl he
        · have hT' : T1 = funY anyY anyY := by
            rcases hT with ⟨_, h, _⟩ | ⟨_, h⟩
            · simp [funY, anyY] at h
            · exact h.symm
          refine .inr ⟨he, .inl ⟨rfl, rfl, rfl⟩, ?_⟩
          rw [hT'] at hp
          exact hp
    · rw [if_pos ⟨rfl, rfl⟩]
      rw [two _ _ _ _ _ rfl, Bool.and_eq_true] at hfit
      refine tyC_some.2 ⟨.inr (.inr rfl), ⟨3, [f1, f2]⟩, ⟨3, [t1, t2]⟩, .inr ⟨rfl, rfl⟩, .inr ⟨rfl, f1, f2, rfl⟩, .inr ⟨rfl, .inr ⟨rfl, rfl⟩, .inr ⟨rfl, f1, f2, t1, t2, rfl, rfl, ?_, ?_⟩⟩⟩
      · exact tyC_new m n t1 f1 _ gt1 gf1 (by rw [fits_sym n t1 f1 gt1 gf1]; exact hfit.1) ho (by split <;> (simp at hm; omega))
      · exact tyC_new m n f2 t2 _ gf2 gt2 hfit.2 ho (by split <;> (simp at hm; omega))
end Go.Proofs.YtnddkmccagiclabGreatDoor

/-
  Types of values and machines, in plain mathematics: a step keeps them, and never gets stuck; no program in it.
-/
namespace Go.Proofs.YtnddkmccagiclabGreatDoor
/-- What a term of a kind asks of its parts' types. -/
def ruleT (k n : Int) (t f : Ty) (ps G : List Ty) (i : Ty) : Prop :=
  (k = 1 ∧ ps = [] ∧ G[n.toNat]? = some i) ∨ (k = 2 ∧ ps = [] ∧ i = numY) ∨ (k = 3 ∧ ps = [] ∧ i = truthY) ∨ (k = 4 ∧ ps = [numY, numY] ∧ i = numY) ∨ (k = 5 ∧ ps = [numY, numY] ∧ i = truthY) ∨ (k = 6 ∧ ps = [truthY, i, i]) ∨
  (k = 7 ∧ ∃ b, ps = [b] ∧ i = funY t b) ∨ (k = 8 ∧ ∃ a, ps = [funY a i, a]) ∨ (k = 9 ∧ ps = [t] ∧ i = t) ∨ (k = 10 ∧ ps = [f] ∧ i = t ∧ relY escFits f t = true ∧ goodY 46 f = true ∧ goodY 46 t = true)
/-- A term with its casts has a type. -/
def tyM : Tm → List Ty → Ty → Prop
  | ⟨k, n, t, f, l⟩, G, i => ∃ ps : List Ty, l.length = ps.length ∧ (∀ j (h : j < l.length) (h' : j < ps.length), tyM l[j] (if k = 7 then t :: G else G) ps[j]) ∧ ruleT k n t f ps G i
  termination_by x => SizeOf.sizeOf x
  decreasing_by
    have := List.sizeOf_lt_of_mem (List.getElem_mem h); simp; omega
theorem tyM_mk {k n : Int} {t f : Ty} {l : List Tm} {G : List Ty} {i : Ty} : tyM ⟨k, n, t, f, l⟩ G i ↔ ∃ ps : List Ty, l.length = ps.length ∧ (∀ j (h : j < l.length) (h' : j < ps.length), tyM l[j] (if k = 7 then t :: G else G) ps[j]) ∧ ruleT k n t f ps G i := by
  rw [tyM]
theorem tyM_parts {x : Tm} {G : List Ty} {i : Ty} (h : tyM x G i) : ∃ ps : List Ty, x.l.length = ps.length ∧ (∀ j (h' : j < ps.length), tyM (x.at j) (if x.k = 7 then x.t :: G else G) ps[j]) ∧ ruleT x.k x.n x.t x.f ps G i := by
  obtain ⟨k, n, t, f, l⟩ := x
  obtain ⟨ps, h1, h2, h3⟩ := tyM_mk.1 h
  refine ⟨ps, h1, fun j h' => ?_, h3⟩
  rw [Tm.at_eq (x := ⟨k, n, t, f, l⟩) (by simp only; omega)]
  exact h2 j (by omega) h'
/-- A value has a type. -/
def tyV : Val → Ty → Prop
  | ⟨k, _, b, e, i, g, a, s⟩, T => (k = 1 ∧ T = numY) ∨ (k = 2 ∧ T = truthY) ∨
    (k = 3 ∧ ∃ A B G, T = funY A B ∧ tyM b (A :: G) B ∧ e.length = G.length ∧ ∀ j (h : j < e.length) (h' : j < G.length), tyV e[j] G[j]) ∨
    (k = 4 ∧ ∃ v A0 B0 A B, T = funY A B ∧ v.k = 3 ∧ (∃ h : i = [v], tyV v (funY A0 B0)) ∧ tyC g A A0 ∧ tyC a B0 B) ∨
    (k = 5 ∧ T = anyY ∧ (s = 1 ∨ s = 2 ∨ s = 3) ∧ ∃ v, ∃ h : i = [v], tyV v (gr s))
  termination_by v => SizeOf.sizeOf v
  decreasing_by
    · have := List.sizeOf_lt_of_mem (List.getElem_mem h); simp; omega
    · subst h; simp; omega
    · subst h; simp; omega
theorem tyV_mk {k n : Int} {b : Tm} {e i : List Val} {g a : Option Ca} {s : Int} {T : Ty} : tyV ⟨k, n, b, e, i, g, a, s⟩ T ↔ (k = 1 ∧ T = numY) ∨ (k = 2 ∧ T = truthY) ∨
    (k = 3 ∧ ∃ A B G, T = funY A B ∧ tyM b (A :: G) B ∧ e.length = G.length ∧ ∀ j (h : j < e.length) (h' : j < G.length), tyV e[j] G[j]) ∨
    (k = 4 ∧ ∃ v A0 B0 A B, T = funY A B ∧ v.k = 3 ∧ (∃ _h : i = [v], tyV v (funY A0 B0)) ∧ tyC g A A0 ∧ tyC a B0 B) ∨
    (k = 5 ∧ T = anyY ∧ (s = 1 ∨ s = 2 ∨ s = 3) ∧ ∃ v, ∃ _h : i = [v], tyV v (gr s)) := by
  rw [tyV]
/-- A scope's values have these types. -/
def tyE (e : List Val) (G : List Ty) : Prop := e.length = G.length ∧ ∀ j (h : j < e.length) (h' : j < G.length), tyV e[j] G[j]
theorem tyE_at {e : List Val} {G : List Ty} (h : tyE e G) {j : Nat} {T : Ty} (hj : G[j]? = some T) : ∃ v, e[j]? = some v ∧ tyV v T := by
  obtain ⟨h1, rfl⟩ := List.getElem?_eq_some_iff.1 hj
  have h2 : j < e.length := by rw [h.1]; exact h1
  exact ⟨e[j], List.getElem?_eq_getElem h2, h.2 j h2 h1⟩
theorem tyV_any {v : Val} (h : tyV v anyY) : v.k = 5 ∧ (v.as = 1 ∨ v.as = 2 ∨ v.as = 3) ∧ v.inn = [v.core] ∧ tyV v.core (gr v.as) := by
  cases v
  rcases tyV_mk.1 h with ⟨_, h⟩ | ⟨_, h⟩ | ⟨_, A, B, G, h, _⟩ | ⟨_, v, A0, B0, A, B, h, _⟩ | ⟨hk5, _, hs, v, rfl, hv⟩
  · exfalso; simp [numY, anyY] at h
  · exfalso; simp [truthY, anyY] at h
  · exfalso; simp [funY, anyY] at h
  · exfalso; simp [funY, anyY] at h
  · exact ⟨hk5, hs, rfl, hv⟩
theorem tyV_fun {v : Val} {A B : Ty} (h : tyV v (funY A B)) : (v.k = 3 ∧ ∃ G, tyM v.body (A :: G) B ∧ tyE v.env G) ∨ (v.k = 4 ∧ v.inn = [v.core] ∧ v.core.k = 3 ∧ ∃ A0 B0, tyV v.core (funY A0 B0) ∧ tyC v.given A A0 ∧ tyC v.answer B0 B) := by
  cases v
  rcases tyV_mk.1 h with ⟨_, h⟩ | ⟨_, h⟩ | ⟨hk, A1, B1, G, h, h1, h2⟩ | ⟨hk, v, A0, B0, A1, B1, hAB, h3, ⟨rfl, hv⟩, h4, h5⟩ | ⟨_, h, _⟩
  · exfalso; simp [numY, funY] at h
  · exfalso; simp [truthY, funY] at h
  · obtain ⟨rfl, rfl⟩ := funY_inj h
    exact .inl ⟨hk, G, h1, h2⟩
  · obtain ⟨rfl, rfl⟩ := funY_inj hAB
    exact .inr ⟨hk, rfl, h3, A0, B0, hv, h4, h5⟩
  · exfalso; simp [anyY, funY] at h
theorem tyV_mkNum (n : Int) : tyV (numV n) numY := tyV_mk.2 (.inl ⟨rfl, rfl⟩)
theorem tyV_mkTruth (n : Int) : tyV (truthV n) truthY := tyV_mk.2 (.inr (.inl ⟨rfl, rfl⟩))
theorem tyV_mkFun {b : Tm} {e : List Val} {A B : Ty} {G : List Ty} (h : tyM b (A :: G) B) (he : tyE e G) : tyV (funV b e) (funY A B) := tyV_mk.2 (.inr (.inr (.inl ⟨rfl, A, B, G, rfl, h, he⟩)))
theorem tyV_mkChap {v : Val} {g a : Option Ca} {A B A0 B0 : Ty} (h3 : v.k = 3) (hv : tyV v (funY A0 B0)) (hg : tyC g A A0) (ha : tyC a B0 B) : tyV (chapV v g a) (funY A B) := tyV_mk.2 (.inr (.inr (.inr (.inl ⟨rfl, v, A0, B0, A, B, rfl, h3, ⟨rfl, hv⟩, hg, ha⟩))))
theorem tyV_mkKnown {v : Val} {k : Int} (hk : k = 1 ∨ k = 2 ∨ k = 3) (hv : tyV v (gr k)) : tyV (knownV v k) anyY := tyV_mk.2 (.inr (.inr (.inr (.inr ⟨rfl, rfl, hk, v, rfl, hv⟩))))
theorem tyV_accomp {f : Val} {c : Ca} {s1 s2 t1 t2 : Ty} (h : tyV f (funY s1 s2)) (hg : tyC c.given t1 s1) (ha : tyC c.answer s2 t2) : tyV (accompV f c) (funY t1 t2) := by
  unfold accompV
  rcases tyV_fun h with ⟨hk, _⟩ | ⟨hk, _, hc, A0, B0, h1, h2, h3⟩
  · rw [if_neg (by omega)]
    exact tyV_mkChap hk h hg ha
  · rw [if_pos hk]
    exact tyV_mkChap hc h1 (tyC_thens hg h2) (tyC_thens h3 ha)
/-- A value of a type, cast to another one: the run goes on with a value of that, or somebody is blamed. -/
theorem change_ty {s : St} {c : Option Ca} {v : Val} {S T : Ty} (hc : tyC c S T) (hv : tyV v S) : (∃ u, changeS s c v = s.push u ∧ tyV u T) ∨ ∃ o : Out, changeS s c v = s.stop o ∧ o.k = 4 := by
  cases c with
  | none => rw [tyC_none.1 hc] at hv; exact .inl ⟨v, rfl, hv⟩
  | some c =>
    obtain ⟨o, w, k, e, g, a, h⟩ := c
    obtain ⟨hk, S1, T1, hS, hS1, he⟩ := tyC_some.1 hc
    have h1 : (∃ o', changeS s (some ⟨o, w, k, e, g, a, h⟩) v = s.stop o' ∧ o'.k = 4) ∨ ((o = true → v.k = 5 ∧ v.as = k) ∧ tyV (if o = true then v.core else v) S1) := by
      rcases hS with ⟨rfl, rfl, rfl, hw⟩ | ⟨rfl, rfl⟩
      · obtain ⟨k5, has, _, hcore⟩ := tyV_any hv
        by_cases hak : v.as = k
        · right
          refine ⟨fun _ => ⟨k5, hak⟩, ?_⟩
          rw [if_pos rfl, ← hak]; exact hcore
        · left
          refine ⟨w, ?_, hw⟩
          simp only [changeS]
          rw [if_neg (fun h => h.2 k5), if_pos ⟨by trivial, hak⟩]
      · right
        exact ⟨fun h => (by cases h), by simpa using hv⟩
    rcases h1 with h1 | ⟨hopen, hv1⟩
    · exact .inr h1
    have e1 : changeS s (some ⟨o, w, k, e, g, a, h⟩) v = if e.k ≠ 0 then s.stop e else s.push (ofC ⟨o, w, k, e, g, a, h⟩ v) := by
      simp only [changeS]
      rw [if_neg (fun h => h.2 (hopen h.1).1), if_neg (fun h => h.2 (hopen h.1).2)]
    rw [e1]
    rcases he with he | ⟨he, hT, hp⟩
    · right
      exact ⟨e, by rw [if_pos (by omega)], he⟩
    · left
      refine ⟨_, by rw [if_neg (by omega)], ?_⟩
      have h2 : tyV (if g.isSome = true ∨ a.isSome = true then accompV (if o = true then v.core else v) ⟨o, w, k, e, g, a, h⟩ else (if o = true then v.core else v)) T1 := by
        rcases hp with ⟨k3, rfl, rfl, rfl⟩ | ⟨rfl, s1, s2, t1, t2, rfl, rfl, hg, ha⟩
        · rcases hS1 with ⟨_, rfl⟩ | ⟨h, _⟩
          · rw [if_neg (by simp)]; exact hv1
          · omega
        · split
          · exact tyV_accomp (c := ⟨o, w, 3, e, g, a, h⟩) hv1 hg ha
          · rename_i hn
            have hg0 : g = none := by cases g with
              | none => rfl
              | some x => exact absurd (.inl rfl) hn
            have ha0 : a = none := by cases a with
              | none => rfl
              | some x => exact absurd (.inr rfl) hn
            subst hg0 ha0
            rw [tyC_none.1 hg, ← tyC_none.1 ha]
            exact hv1
      simp only [ofC]
      rcases hT with ⟨rfl, rfl, rfl⟩ | ⟨rfl, rfl⟩
      · rw [if_pos rfl]
        exact tyV_mkKnown hk h2
      · simpa using h2
end Go.Proofs.YtnddkmccagiclabGreatDoor

/-
  Casts one behind the other, and one cast that does what both do: the same, for values and runs, up to what a cast that ends the run would still have done; plain mathematics, no program in it.
-/
namespace Go.Proofs.YtnddkmccagiclabGreatDoor
/-- A cast without what it would do behind the run's end. -/
def nfC : Option Ca → Option Ca
  | none => none
  | some ⟨o, w, k, e, g, a, h⟩ => if e.k = 0 then some ⟨o, w, k, e, nfC g, nfC a, h⟩ else some ⟨o, w, k, e, none, none, false⟩
  termination_by c => SizeOf.sizeOf c
  decreasing_by
    · simp; omega
    · simp; omega
theorem nfC_none : nfC none = none := by rw [nfC]
theorem nfC_mk (o : Bool) (w : Out) (k : Int) (e : Out) (g a : Option Ca) (h : Bool) : nfC (some ⟨o, w, k, e, g, a, h⟩) = if e.k = 0 then some ⟨o, w, k, e, nfC g, nfC a, h⟩ else some ⟨o, w, k, e, none, none, false⟩ := by
  rw [nfC]
/-- Two casts do the same. -/
def eqC (c d : Option Ca) : Prop := nfC c = nfC d
theorem eqC.refl (c : Option Ca) : eqC c c := rfl
theorem eqC.symm {c d : Option Ca} (h : eqC c d) : eqC d c := Eq.symm h
theorem eqC.trans {c d e : Option Ca} (h : eqC c d) (h' : eqC d e) : eqC c e := Eq.trans h h'
theorem eqC_none {c : Option Ca} (h : eqC none c) : c = none := by
  cases c with
  | none => rfl
  | some c =>
    obtain ⟨o, w, k, e, g, a, hh⟩ := c
    rw [eqC, nfC_none, nfC_mk] at h
    split at h <;> cases h
/-- What two casts that do the same share. -/
theorem eqC_some {o o' : Bool} {w w' : Out} {k k' : Int} {e e' : Out} {g g' a a' : Option Ca} {h h' : Bool} (H : eqC (some ⟨o, w, k, e, g, a, h⟩) (some ⟨o', w', k', e', g', a', h'⟩)) : o = o' ∧ w = w' ∧ k = k' ∧ e = e' ∧ (e.k = 0 → eqC g g' ∧ eqC a a' ∧ h = h') := by
  rw [eqC, nfC_mk, nfC_mk] at H
  by_cases h1 : e.k = 0
  · rw [if_pos h1] at H
    by_cases h2 : e'.k = 0
    · rw [if_pos h2] at H
      have := Option.some.inj H
      simp only [Ca.mk.injEq] at this
      exact ⟨this.1, this.2.1, this.2.2.1, this.2.2.2.1, fun _ => ⟨this.2.2.2.2.1, this.2.2.2.2.2.1, this.2.2.2.2.2.2⟩⟩
    · rw [if_neg h2] at H
      have := Option.some.inj H
      simp only [Ca.mk.injEq] at this
      exact absurd (this.2.2.2.1 ▸ h1) h2
  · rw [if_neg h1] at H
    by_cases h2 : e'.k = 0
    · rw [if_pos h2] at H
      have := Option.some.inj H
      simp only [Ca.mk.injEq] at this
      exact absurd (this.2.2.2.1.symm ▸ h2) h1
    · rw [if_neg h2] at H
      have := Option.some.inj H
      simp only [Ca.mk.injEq] at this
      exact ⟨this.1, this.2.1, this.2.2.1, this.2.2.2.1, fun h => absurd h h1⟩
theorem eqC_mk {o : Bool} {w : Out} {k : Int} {e : Out} {g g' a a' : Option Ca} {h h' : Bool} (H : e.k = 0 → eqC g g' ∧ eqC a a' ∧ h = h') : eqC (some ⟨o, w, k, e, g, a, h⟩) (some ⟨o, w, k, e, g', a', h'⟩) := by
  rw [eqC, nfC_mk, nfC_mk]
  by_cases h1 : e.k = 0
  · rw [if_pos h1, if_pos h1]
    obtain ⟨h2, h3, h4⟩ := H h1
    rw [eqC] at h2 h3
    rw [h2, h3, h4]
  · rw [if_neg h1, if_neg h1]
theorem eqC_isSome {c d : Option Ca} (h : eqC c d) : c.isSome = d.isSome := by
  cases c with
  | none => rw [eqC_none h]
  | some c =>
    cases d with
    | none => have := eqC_none h.symm; cases this
    | some d => rfl
/-- One cast for both, of casts that do the same. -/
theorem then_congr : ∀ (n : Nat) (c c' d d' : Option Ca), SizeOf.sizeOf c + SizeOf.sizeOf d ≤ n → eqC c c' → eqC d d' → eqC (thenC c d) (thenC c' d')
  | 0, c, _, d, _, h, _, _ => by cases c <;> simp at h
  | n + 1, none, c', d, d', hn, hc, hd => by
    rw [eqC_none hc, thenC_nil, thenC_nil]
    exact hd
  | n + 1, some c, none, d, d', hn, hc, hd => by
    have := eqC_none hc.symm
    cases this
  | n + 1, some c, some c', none, d', hn, hc, hd => by
    rw [eqC_none hd, thenC_one, thenC_one]
    exact hc
  | n + 1, some c, some c', some d, none, hn, hc, hd => by
    have := eqC_none hd.symm
    cases this
  | n + 1, some ⟨o, w, k, e, g, a, h⟩, some ⟨o', w', k', e', g', a', h'⟩, some ⟨p, v, l, f, i, b, j⟩, some ⟨p', v', l', f', i', b', j'⟩, hn, hc, hd => by
    obtain ⟨rfl, rfl, rfl, rfl, hc2⟩ := eqC_some hc
    obtain ⟨rfl, rfl, rfl, rfl, hd2⟩ := eqC_some hd
    simp at hn
    rw [thenC_two, thenC_two]
    by_cases h1 : e.k = 0
    · rw [if_pos h1, if_pos h1]
      by_cases h2 : l = k
      · rw [if_pos h2, if_pos h2]
        refine eqC_mk fun h3 => ⟨?_, ?_, (hd2 h3).2.2⟩
        · exact then_congr n i i' g g' (by omega) (hd2 h3).1 (hc2 h1).1
        · exact then_congr n a a' b b' (by omega) (hc2 h1).2.1 (hd2 h3).2.1
      · rw [if_neg h2, if_neg h2]
        exact eqC.refl _
    · rw [if_neg h1, if_neg h1]
      exact hc
theorem thenC_congr {c c' d d' : Option Ca} (hc : eqC c c') (hd : eqC d d') : eqC (thenC c d) (thenC c' d') := then_congr _ c c' d d' (Nat.le_refl _) hc hd
/-- Three casts: it does not matter which two are put together first. -/
theorem then_assoc : ∀ (n : Nat) (c d e : Option Ca) (S T U V : Ty), SizeOf.sizeOf c + SizeOf.sizeOf d + SizeOf.sizeOf e ≤ n → tyC c S T → tyC d T U → tyC e U V → eqC (thenC (thenC c d) e) (thenC c (thenC d e))
  | 0, c, _, _, _, _, _, _, h, _, _, _ => by cases c <;> simp at h
  | n + 1, none, d, e, _, _, _, _, _, _, _, _ => by rw [thenC_nil, thenC_nil]; exact eqC.refl _
  | n + 1, some c, none, e, _, _, _, _, _, _, _, _ => by rw [thenC_one, thenC_nil]; exact eqC.refl _
  | n + 1, some c, some d, none, _, _, _, _, _, _, _, _ => by rw [thenC_one, thenC_one]; exact eqC.refl _
  | n + 1, some ⟨o, w, k, e, g, a, h⟩, some ⟨o', w', k', e', g', a', h'⟩, some ⟨p, v, l, f, i, b, j⟩, S, T, U, V, hn, hc, hd, he => by
    simp at hn
    obtain ⟨hk, S', T', c1, c2, c3⟩ := tyC_some.1 hc
    obtain ⟨hk', S'', T'', d1, d2, d3⟩ := tyC_some.1 hd
    obtain ⟨hl, S3, T3, e1, e2, e3⟩ := tyC_some.1 he
    rw [thenC_two]
    by_cases h1 : e.k = 0
    · rw [if_pos h1]
      rcases c3 with c3 | ⟨_, c4, c5⟩
      · omega
      by_cases h2 : k' = k
      · rw [if_pos h2, thenC_two]
        by_cases h3 : e'.k = 0
        · rw [if_pos h3]
          rcases d3 with d3 | ⟨_, d4, d5⟩
          · omega
          rw [thenC_two, if_pos h3]
          by_cases h4 : l = k
          · have h4' : l = k' := by omega
            rw [if_pos h4, if_pos h4', thenC_two, if_pos h1, if_pos h2]
            rcases e3 with e3 | ⟨e0, e4, e5⟩
            · refine eqC_mk fun h5 => ?_
              omega
            refine eqC_mk fun _ => ?_
            -- the parts, typed
            have kS : S'.k = k := half_k c2
            have kS2 : S''.k = k' := half_k d2
            have kS3 : S3.k = l := half_k e2
            by_cases k3 : k = 3
            · obtain ⟨hk3, s1, s2, t1, t2, rfl, rfl, tg, ta⟩ : k = 3 ∧ ∃ s1 s2 t1 t2, S' = funY s1 s2 ∧ T' = funY t1 t2 ∧ tyC g t1 s1 ∧ tyC a s2 t2 := by
                rcases c5 with ⟨h, _⟩ | h
                · exact absurd k3 h
                · exact h
              obtain ⟨hk3', u1, u2, x1, x2, rfl, rfl, tg', ta'⟩ : k' = 3 ∧ ∃ s1 s2 t1 t2, S'' = funY s1 s2 ∧ T'' = funY t1 t2 ∧ tyC g' t1 s1 ∧ tyC a' s2 t2 := by
                rcases d5 with ⟨h, _⟩ | h
                · exact absurd (h2.trans k3) h
                · exact h
              obtain ⟨_, y1, y2, z1, z2, rfl, rfl, tg3, ta3⟩ : l = 3 ∧ ∃ s1 s2 t1 t2, S3 = funY s1 s2 ∧ T3 = funY t1 t2 ∧ tyC i t1 s1 ∧ tyC b s2 t2 := by
                rcases e5 with ⟨h, _⟩ | h
                · exact absurd (h4.trans k3) h
                · exact h
              have eq1 : t1 = u1 ∧ t2 = u2 := by
                rcases c4 with ⟨_, rfl, hT⟩ | ⟨_, rfl⟩
                · rcases d1 with ⟨_, _, hS, _⟩ | ⟨_, hS⟩
                  · have : funY t1 t2 = funY u1 u2 := by
                      rw [hT, hS, h2]
                    exact funY_inj this
                  · exfalso
                    have := congrArg Ty.k hS
                    simp [anyY, funY] at this
                · rcases d1 with ⟨_, hA, _, _⟩ | ⟨_, hS⟩
                  · exfalso
                    have := congrArg Ty.k hA
                    simp [anyY, funY] at this
                  · exact funY_inj hS
              have eq2 : x1 = y1 ∧ x2 = y2 := by
                rcases d4 with ⟨_, rfl, hT⟩ | ⟨_, rfl⟩
                · rcases e1 with ⟨_, _, hS, _⟩ | ⟨_, hS⟩
                  · have : funY x1 x2 = funY y1 y2 := by
                      rw [hT, hS, h4']
                    exact funY_inj this
                  · exfalso
                    have := congrArg Ty.k hS
                    simp [anyY, funY] at this
                · rcases e1 with ⟨_, hA, _, _⟩ | ⟨_, hS⟩
                  · exfalso
                    have := congrArg Ty.k hA
                    simp [anyY, funY] at this
                  · exact funY_inj hS
              obtain ⟨rfl, rfl⟩ := eq1
              obtain ⟨rfl, rfl⟩ := eq2
              refine ⟨?_, ?_, rfl⟩
              · exact (then_assoc n i g' g z1 x1 t1 s1 (by omega) tg3 tg' tg).symm
              · exact then_assoc n a a' b s2 t2 x2 z2 (by omega) ta ta' ta3
            · obtain ⟨_, _, rfl, rfl⟩ : k ≠ 3 ∧ T' = ⟨k, []⟩ ∧ g = none ∧ a = none := by
                rcases c5 with h | ⟨h, _⟩
                · exact h
                · exact absurd h k3
              obtain ⟨_, _, rfl, rfl⟩ : k' ≠ 3 ∧ T'' = ⟨k', []⟩ ∧ g' = none ∧ a' = none := by
                rcases d5 with h | ⟨h, _⟩
                · exact h
                · exact absurd (h2 ▸ h) k3
              obtain ⟨_, _, rfl, rfl⟩ : l ≠ 3 ∧ T3 = ⟨l, []⟩ ∧ i = none ∧ b = none := by
                rcases e5 with h | ⟨h, _⟩
                · exact h
                · exact absurd (h4 ▸ h) k3
              have t0 : thenC none none = none := thenC_nil none
              refine ⟨?_, ?_, rfl⟩ <;> rw [t0] <;> exact eqC.refl _
          · have h4' : ¬ l = k' := by omega
            rw [if_neg h4, if_neg h4', thenC_two, if_pos h1, if_pos h2]
            refine eqC_mk fun h5 => ?_
            exfalso
            -- the third opens, or it were of this kind
            have kS3 : S3.k = l := half_k e2
            rcases e1 with ⟨_, _, _, hv⟩ | ⟨_, hS⟩
            · omega
            · have hU : U.k = l := by rw [hS]; exact kS3
              rcases d4 with ⟨_, hA, _⟩ | ⟨_, hT⟩
              · rw [hA] at hU
                simp [anyY] at hU
                omega
              · have := half_k' d5
                rw [← hT] at this
                omega
        · rw [if_neg h3, thenC_two, if_neg h3, thenC_two, if_pos h1, if_pos h2]
          exact eqC.refl _
      · rw [if_neg h2]
        -- the second opens, or it were of this kind
        have hv : w'.k = 4 := by
          rcases d1 with ⟨_, _, _, hv⟩ | ⟨_, hS⟩
          · exact hv
          · exfalso
            have kS2 : S''.k = k' := half_k d2
            have hT : T.k = k' := by rw [hS]; exact kS2
            rcases c4 with ⟨_, hA, _⟩ | ⟨_, hT'⟩
            · rw [hA] at hT
              simp [anyY] at hT
              omega
            · have := half_k' c5
              rw [← hT'] at this
              omega
        rw [thenC_two, if_neg (by omega)]
        rw [thenC_some]
        have e1' : thenC (some ⟨o', w', k', e', g', a', h'⟩) (some ⟨p, v, l, f, i, b, j⟩) = thenC (some ⟨o', w', k', e', g', a', h'⟩) (some ⟨p, v, l, f, i, b, j⟩) := rfl
        by_cases h3 : e'.k = 0
        · rw [if_pos h3]
          split
          · rw [thenC_two, if_pos h1, if_neg h2]
            exact eqC.refl _
          · rw [thenC_two, if_pos h1, if_neg h2]
            exact eqC.refl _
        · rw [if_neg h3, thenC_two, if_pos h1, if_neg h2]
          exact eqC.refl _
    · rw [if_neg h1, thenC_two, if_neg h1]
      cases hx : thenC (some ⟨o', w', k', e', g', a', h'⟩) (some ⟨p, v, l, f, i, b, j⟩) with
      | none => rw [thenC_one]; exact eqC.refl _
      | some x =>
        obtain ⟨x1, x2, x3, x4, x5, x6, x7⟩ := x
        rw [thenC_two, if_neg h1]
        exact eqC.refl _
theorem thenC_assoc {c d e : Option Ca} {S T U V : Ty} (hc : tyC c S T) (hd : tyC d T U) (he : tyC e U V) : eqC (thenC (thenC c d) e) (thenC c (thenC d e)) := then_assoc _ c d e S T U V (Nat.le_refl _) hc hd he
end Go.Proofs.YtnddkmccagiclabGreatDoor

/-
  Values and machines up to what a cast would do behind the run's end; what a cast makes of a value; two casts, one behind the other; plain mathematics.
-/
namespace Go.Proofs.YtnddkmccagiclabGreatDoor
/-- A value whose casts are without what they would do behind the run's end. -/
def nfV : Val → Val
  | ⟨k, n, b, e, i, g, a, s⟩ => ⟨k, n, b, e.map fun x => nfV x, i.map fun x => nfV x, nfC g, nfC a, s⟩
theorem nfV_mk (k n : Int) (b : Tm) (e i : List Val) (g a : Option Ca) (s : Int) : nfV ⟨k, n, b, e, i, g, a, s⟩ = ⟨k, n, b, e.map nfV, i.map nfV, nfC g, nfC a, s⟩ := by
  rw [nfV]
def eqV (v v' : Val) : Prop := nfV v = nfV v'
theorem eqV.refl (v : Val) : eqV v v := rfl
theorem eqV.symm {v u : Val} (h : eqV v u) : eqV u v := Eq.symm h
theorem eqV.trans {v u t : Val} (h : eqV v u) (h' : eqV u t) : eqV v t := Eq.trans h h'
def eqE (e e' : List Val) : Prop := e.map nfV = e'.map nfV
theorem eqV_parts {v v' : Val} (h : eqV v v') : v.k = v'.k ∧ v.n = v'.n ∧ v.body = v'.body ∧ eqE v.env v'.env ∧ eqE v.inn v'.inn ∧ eqC v.given v'.given ∧ eqC v.answer v'.answer ∧ v.as = v'.as := by
  obtain ⟨k, n, b, e, i, g, a, s⟩ := v
  obtain ⟨k', n', b', e', i', g', a', s'⟩ := v'
  rw [eqV, nfV_mk, nfV_mk] at h
  simp only [Val.mk.injEq] at h
  exact ⟨h.1, h.2.1, h.2.2.1, h.2.2.2.1, h.2.2.2.2.1, h.2.2.2.2.2.1, h.2.2.2.2.2.2.1, h.2.2.2.2.2.2.2⟩
theorem eqV_mk {k n s : Int} {b : Tm} {e e' i i' : List Val} {g g' a a' : Option Ca} (he : eqE e e') (hi : eqE i i') (hg : eqC g g') (ha : eqC a a') : eqV ⟨k, n, b, e, i, g, a, s⟩ ⟨k, n, b, e', i', g', a', s⟩ := by
  rw [eqV, nfV_mk, nfV_mk]
  rw [eqE] at he hi
  rw [eqC] at hg ha
  rw [he, hi, hg, ha]
theorem eqE_nil : eqE [] [] := rfl
theorem eqE_cons {v v' : Val} {e e' : List Val} (h : eqV v v') (he : eqE e e') : eqE (v :: e) (v' :: e') := by
  rw [eqE, List.map_cons, List.map_cons]
  rw [eqE] at he
  rw [eqV] at h
  rw [h, he]
theorem eqE_head {v v' : Val} {e e' : List Val} (h : eqE (v :: e) (v' :: e')) : eqV v v' ∧ eqE e e' := by
  rw [eqE, List.map_cons, List.map_cons] at h
  exact List.cons.inj h
theorem eqE_nilL {e : List Val} (h : eqE [] e) : e = [] := by
  cases e with
  | nil => rfl
  | cons v e => rw [eqE] at h; cases h
theorem eqE_consL {v : Val} {e e' : List Val} (h : eqE (v :: e) e') : ∃ v' e'', e' = v' :: e'' ∧ eqV v v' ∧ eqE e e'' := by
  cases e' with
  | nil => rw [eqE] at h; cases h
  | cons v' e'' => exact ⟨v', e'', rfl, eqE_head h⟩
theorem eqE_at {e e' : List Val} (h : eqE e e') (j : Nat) : (∀ v, e[j]? = some v → ∃ v', e'[j]? = some v' ∧ eqV v v') ∧ (e[j]? = none → e'[j]? = none) := by
  have hj := congrArg (fun l => l[j]?) h
  simp only [List.getElem?_map] at hj
  constructor
  · intro v hv
    rw [hv] at hj
    cases h' : e'[j]? with
    | none => rw [h'] at hj; cases hj
    | some v' => rw [h'] at hj; exact ⟨v', rfl, Option.some.inj hj⟩
  · intro hv
    rw [hv] at hj
    cases h' : e'[j]? with
    | none => rfl
    | some v' => rw [h'] at hj; cases hj
theorem eqV_core {v v' : Val} (h : eqV v v') : eqV v.core v'.core := by
  have hi := (eqV_parts h).2.2.2.2.1
  unfold Val.core
  cases h1 : v.inn with
  | nil =>
    rw [h1] at hi
    rw [eqE_nilL hi]
    exact eqV.refl _
  | cons u r =>
    rw [h1] at hi
    obtain ⟨u', r', h2, h3, _⟩ := eqE_consL hi
    rw [h2]
    exact h3
/-- What a cast makes of a value: how the run ends, or the value. -/
def chg (c : Option Ca) (v : Val) : Out × Val := match c with
  | none => (out0, v)
  | some c =>
    if c.opens = true ∧ v.k ≠ 5 then (stuckO, v)
    else if c.opens = true ∧ v.as ≠ c.kind then (c.wrong, v)
    else if c.ends.k ≠ 0 then (c.ends, v)
    else (out0, ofC c v)
theorem chg_none (v : Val) : chg none v = (out0, v) := rfl
theorem chg_some (c : Ca) (v : Val) : chg (some c) v = if c.opens = true ∧ v.k ≠ 5 then (stuckO, v) else if c.opens = true ∧ v.as ≠ c.kind then (c.wrong, v) else if c.ends.k ≠ 0 then (c.ends, v) else (out0, ofC c v) := rfl
theorem changeS_chg {s : St} {c : Option Ca} {v : Val} (hw : ∀ d, c = some d → d.opens = true → d.wrong.k ≠ 0) : changeS s c v = if (chg c v).1.k = 0 then s.push (chg c v).2 else s.stop (chg c v).1 := by
  cases c with
  | none => rw [chg_none]; rfl
  | some c =>
    rw [chg_some]
    unfold changeS
    simp only
    by_cases h1 : c.opens = true ∧ v.k ≠ 5
    · rw [if_pos h1, if_pos h1]; rfl
    · rw [if_neg h1, if_neg h1]
      by_cases h2 : c.opens = true ∧ v.as ≠ c.kind
      · rw [if_pos h2, if_pos h2]
        have := hw c rfl h2.1
        rw [if_neg this]
      · rw [if_neg h2, if_neg h2]
        by_cases h3 : c.ends.k ≠ 0
        · rw [if_pos h3, if_pos h3, if_neg h3]
        · rw [if_neg h3, if_neg h3]; rfl
/-- What goes with a function. -/
def withV (f : Val) (g a : Option Ca) : Val := if g.isSome = true ∨ a.isSome = true then (if f.k = 4 then chapV f.core (thenC g f.given) (thenC f.answer a) else chapV f g a) else f
theorem ofC_with (c : Ca) (v : Val) : ofC c v = if c.hides = true then knownV (withV (if c.opens = true then v.core else v) c.given c.answer) c.kind else withV (if c.opens = true then v.core else v) c.given c.answer := rfl
theorem withV_congr {f f' : Val} {g g' a a' : Option Ca} (hf : eqV f f') (hg : eqC g g') (ha : eqC a a') : eqV (withV f g a) (withV f' g' a') := by
  obtain ⟨hk, _, _, _, _, hgv, hav, _⟩ := eqV_parts hf
  unfold withV
  rw [eqC_isSome hg, eqC_isSome ha, hk]
  split
  · split
    · exact eqV_mk eqE_nil (eqE_cons (eqV_core hf) eqE_nil) (thenC_congr hg hgv) (thenC_congr hav ha)
    · exact eqV_mk eqE_nil (eqE_cons hf eqE_nil) hg ha
  · exact hf
theorem known_congr {v v' : Val} (h : eqV v v') (k : Int) : eqV (knownV v k) (knownV v' k) := eqV_mk eqE_nil (eqE_cons h eqE_nil) (eqC.refl _) (eqC.refl _)
/-- Casts that do the same, of values alike. -/
theorem chg_congr {c c' : Option Ca} {v v' : Val} (hc : eqC c c') (hv : eqV v v') : (chg c v).1 = (chg c' v').1 ∧ ((chg c v).1.k = 0 → eqV (chg c v).2 (chg c' v').2) := by
  cases c with
  | none =>
    rw [eqC_none hc]
    exact ⟨rfl, fun _ => hv⟩
  | some c =>
    cases c' with
    | none => have := eqC_none hc.symm; cases this
    | some c' =>
      obtain ⟨o, w, k, e, g, a, h⟩ := c
      obtain ⟨o', w', k', e', g', a', h'⟩ := c'
      obtain ⟨rfl, rfl, rfl, rfl, H⟩ := eqC_some hc
      obtain ⟨hk, _, _, _, _, _, _, has⟩ := eqV_parts hv
      rw [chg_some, chg_some]
      simp only
      rw [hk, has]
      by_cases h1 : o = true ∧ v'.k ≠ 5
      · rw [if_pos h1, if_pos h1]; exact ⟨rfl, fun h => by cases h⟩
      · rw [if_neg h1, if_neg h1]
        by_cases h2 : o = true ∧ v'.as ≠ k
        · rw [if_pos h2, if_pos h2]; exact ⟨rfl, fun _ => hv⟩
        · rw [if_neg h2, if_neg h2]
          by_cases h3 : e.k ≠ 0
          · rw [if_pos h3, if_pos h3]; exact ⟨rfl, fun _ => hv⟩
          · rw [if_neg h3, if_neg h3]
            refine ⟨rfl, fun _ => ?_⟩
            obtain ⟨H1, H2, rfl⟩ := H (by omega)
            show eqV (ofC _ _) (ofC _ _)
            rw [ofC_with, ofC_with]
            simp only
            have hv1 : eqV (if o = true then v.core else v) (if o = true then v'.core else v') := by
              split
              · exact eqV_core hv
              · exact hv
            split
            · exact known_congr (withV_congr hv1 H1 H2) _
            · exact withV_congr hv1 H1 H2
/-- What goes with what goes with a function. -/
theorem withV_two {f : Val} {g a g' a' : Option Ca} {s1 s2 t1 t2 u1 u2 : Ty} (hf : tyV f (funY s1 s2)) (hg : tyC g t1 s1) (ha : tyC a s2 t2) (hg' : tyC g' u1 t1) (ha' : tyC a' t2 u2) : eqV (withV (withV f g a) g' a') (withV f (thenC g' g) (thenC a a')) := by
  by_cases h1 : g.isSome = true ∨ a.isSome = true
  · by_cases h2 : g'.isSome = true ∨ a'.isSome = true
    · have h3 : (thenC g' g).isSome = true ∨ (thenC a a').isSome = true := by
        rcases h1 with h | h
        · left
          cases g with
          | none => cases h
          | some g =>
            cases g' with
            | none => rw [thenC_nil]; rfl
            | some g' => rw [thenC_some]; split <;> (try split) <;> rfl
        · right
          cases a with
          | none => cases h
          | some a =>
            cases a' with
            | none => rw [thenC_one]; rfl
            | some a' => rw [thenC_some]; split <;> (try split) <;> rfl
      unfold withV
      rw [if_pos h1, if_pos h2, if_pos h3]
      by_cases h4 : f.k = 4
      · rw [if_pos h4, if_pos h4]
        rcases tyV_fun hf with ⟨h5, _⟩ | ⟨_, _, _, A0, B0, _, hfg, hfa⟩
        · omega
        rw [if_pos (show (chapV f.core (thenC g f.given) (thenC f.answer a)).k = 4 from rfl)]
        show eqV (chapV f.core (thenC g' (thenC g f.given)) (thenC (thenC f.answer a) a')) _
        exact eqV_mk eqE_nil (eqE_cons (eqV.refl _) eqE_nil) (thenC_assoc hg' hg hfg).symm (thenC_assoc hfa ha ha')
      · rw [if_neg h4, if_neg h4, if_pos (show (chapV f g a).k = 4 from rfl)]
        exact eqV_mk eqE_nil (eqE_cons (eqV.refl _) eqE_nil) (eqC.refl _) (eqC.refl _)
    · have e1 : g' = none := by cases g' with
        | none => rfl
        | some _ => exact absurd (.inl rfl) h2
      have e2 : a' = none := by cases a' with
        | none => rfl
        | some _ => exact absurd (.inr rfl) h2
      subst e1 e2
      rw [thenC_nil, thenC_one]
      unfold withV
      rw [if_pos h1, if_neg (by simp)]
      exact eqV.refl _
  · have e1 : g = none := by cases g with
      | none => rfl
      | some _ => exact absurd (.inl rfl) h1
    have e2 : a = none := by cases a with
      | none => rfl
      | some _ => exact absurd (.inr rfl) h1
    subst e1 e2
    rw [thenC_one, thenC_nil]
    have : withV f none none = f := by
      unfold withV
      rw [if_neg (by simp)]
    rw [this]
    exact eqV.refl _
/-- One cast for both: what it makes of a value. -/
theorem chg_then {c d : Option Ca} {v : Val} {S T U : Ty} (hc : tyC c S T) (hd : tyC d T U) (hv : tyV v S) :
    ((chg c v).1.k ≠ 0 → (chg (thenC c d) v).1 = (chg c v).1) ∧ ((chg c v).1.k = 0 → (chg (thenC c d) v).1 = (chg d (chg c v).2).1 ∧ ((chg (thenC c d) v).1.k = 0 → eqV (chg (thenC c d) v).2 (chg d (chg c v).2).2)) := by
  cases c with
  | none =>
    rw [thenC_nil, chg_none]
    exact ⟨fun h => absurd rfl h, fun _ => ⟨rfl, fun _ => eqV.refl _⟩⟩
  | some c =>
    cases d with
    | none =>
      rw [thenC_one]
      refine ⟨fun _ => rfl, fun h => ?_⟩
      rw [chg_none]
      have : (chg (some c) v).1 = out0 := by
        rw [chg_some] at h ⊢
        split at h
        · cases h
        · rename_i h1
          rw [if_neg h1]
          split at h
          · rename_i h2
            exfalso
            obtain ⟨o, w, k, e, g, a, hh⟩ := c
            obtain ⟨_, _, _, c1, _⟩ := tyC_some.1 hc
            rcases c1 with ⟨_, _, _, hw⟩ | ⟨ho, _⟩
            · simp only at h; omega
            · rw [ho] at h2; cases h2.1
          · rename_i h2
            rw [if_neg h2]
            split at h
            · rename_i h3; exact absurd h h3
            · rename_i h3; rw [if_neg h3]
      exact ⟨this, fun _ => eqV.refl _⟩
    | some d =>
      obtain ⟨o, w, k, e, g, a, h⟩ := c
      obtain ⟨o', w', k', e', g', a', h'⟩ := d
      obtain ⟨hk, S', T', c1, c2, c3⟩ := tyC_some.1 hc
      obtain ⟨hk', S'', T'', d1, d2, d3⟩ := tyC_some.1 hd
      rw [thenC_two]
      by_cases he : e.k = 0
      · rw [if_pos he]
        rcases c3 with c3 | ⟨_, c4, c5⟩
        · omega
        -- what the first opens
        by_cases q1 : o = true ∧ v.k ≠ 5
        · have hs : ∀ (e2 : Out) (g2 a2 : Option Ca) (h2 : Bool), chg (some ⟨o, w, k, e2, g2, a2, h2⟩) v = (stuckO, v) := fun e2 g2 a2 h2 => by rw [chg_some, if_pos q1]
          rw [hs]
          refine ⟨fun _ => ?_, fun h => by cases h⟩
          split <;> rw [hs]
        · by_cases q2 : o = true ∧ v.as ≠ k
          · have hs : ∀ (e2 : Out) (g2 a2 : Option Ca) (h2 : Bool), chg (some ⟨o, w, k, e2, g2, a2, h2⟩) v = (w, v) := fun e2 g2 a2 h2 => by rw [chg_some, if_neg q1, if_pos q2]
            rw [hs]
            have hw : w.k = 4 := by
              rcases c1 with ⟨_, _, _, hw⟩ | ⟨ho, _⟩
              · exact hw
              · rw [ho] at q2; cases q2.1
            refine ⟨fun _ => ?_, fun h => ?_⟩
            · split <;> rw [hs]
            · simp only at h; omega
          · have hs : ∀ (e2 : Out) (g2 a2 : Option Ca) (h2 : Bool), chg (some ⟨o, w, k, e2, g2, a2, h2⟩) v = if e2.k ≠ 0 then (e2, v) else (out0, ofC ⟨o, w, k, e2, g2, a2, h2⟩ v) := fun e2 g2 a2 h2 => by rw [chg_some, if_neg q1, if_neg q2]
            rw [hs e g a h, if_neg (by omega)]
            refine ⟨fun h => absurd rfl h, fun _ => ?_⟩
            -- the value between
            obtain ⟨v1, hv1⟩ : ∃ v1, (if o = true then v.core else v) = v1 := ⟨_, rfl⟩
            have hof : ofC ⟨o, w, k, e, g, a, h⟩ v = if h = true then knownV (withV v1 g a) k else withV v1 g a := by rw [ofC_with]; simp only; rw [hv1]
            have ty1 : tyV v1 S' := by
              rcases c1 with ⟨ho, hS, hS', _⟩ | ⟨ho, hS⟩
              · rw [if_pos ho] at hv1
                rw [← hv1, hS']
                rw [hS] at hv
                obtain ⟨_, _, _, h5⟩ := tyV_any hv
                have : v.as = k := by
                  by_cases e5 : v.as = k
                  · exact e5
                  · exact absurd ⟨ho, e5⟩ q2
                rw [this] at h5
                exact h5
              · rw [if_neg (by rw [ho]; simp)] at hv1
                rw [← hv1, ← hS]
                exact hv
            have kS2 : S''.k = k' := half_k d2
            by_cases h2 : k' = k
            · rw [if_pos h2, hs e' _ _ h']
              -- the second: it opens just what the first hides
              have ho' : o' = h := by
                rcases c4 with ⟨hh, hT, _⟩ | ⟨hh, hT⟩
                · rcases d1 with ⟨ho', _⟩ | ⟨_, hS⟩
                  · rw [hh, ho']
                  · exfalso
                    rw [← hS, hT] at kS2
                    simp [anyY] at kS2
                    omega
                · rcases d1 with ⟨_, hA, _⟩ | ⟨ho', _⟩
                  · exfalso
                    have := half_k' c5
                    rw [← hT, hA] at this
                    simp [anyY] at this
                    omega
                  · rw [hh, ho']
              have hbet : chg (some ⟨o', w', k', e', g', a', h'⟩) (ofC ⟨o, w, k, e, g, a, h⟩ v) = if e'.k ≠ 0 then (e', ofC ⟨o, w, k, e, g, a, h⟩ v) else (out0, ofC ⟨o', w', k', e', g', a', h'⟩ (ofC ⟨o, w, k, e, g, a, h⟩ v)) := by
                rw [chg_some]
                simp only
                rw [ho', hof]
                cases h
                · rw [if_neg (by simp), if_neg (by simp)]
                · rw [if_pos rfl, if_neg (fun q => q.2 rfl), if_neg (fun q => q.2 h2.symm)]
              rw [hbet]
              by_cases h3 : e'.k ≠ 0
              · rw [if_pos h3, if_pos h3]
                exact ⟨rfl, fun h => absurd h h3⟩
              · rw [if_neg h3, if_neg h3]
                refine ⟨rfl, fun _ => ?_⟩
                rcases d3 with d3 | ⟨_, d4, d5⟩
                · omega
                show eqV (ofC ⟨o, w, k, e', thenC g' g, thenC a a', h'⟩ v) (ofC ⟨o', w', k', e', g', a', h'⟩ (ofC ⟨o, w, k, e, g, a, h⟩ v))
                rw [ofC_with, ofC_with, hof]
                simp only
                rw [hv1, ho', h2]
                have hin : (if h = true then (if h = true then knownV (withV v1 g a) k else withV v1 g a).core else (if h = true then knownV (withV v1 g a) k else withV v1 g a)) = withV v1 g a := by
                  cases h
                  · rfl
                  · rfl
                rw [hin]
                have hww : eqV (withV v1 (thenC g' g) (thenC a a')) (withV (withV v1 g a) g' a') := by
                  rcases c5 with ⟨_, _, rfl, rfl⟩ | ⟨k3, s1, s2, t1, t2, rfl, rfl, tg, ta⟩
                  · rw [thenC_one, thenC_nil]
                    have : withV v1 none none = v1 := by
                      unfold withV
                      rw [if_neg (by simp)]
                    rw [this]
                    exact eqV.refl _
                  · obtain ⟨_, u1, u2, x1, x2, rfl, rfl, tg', ta'⟩ : k' = 3 ∧ ∃ s1 s2 t1 t2, S'' = funY s1 s2 ∧ T'' = funY t1 t2 ∧ tyC g' t1 s1 ∧ tyC a' s2 t2 := by
                      rcases d5 with ⟨h, _⟩ | h
                      · exact absurd (h2.trans k3) h
                      · exact h
                    have eq1 : t1 = u1 ∧ t2 = u2 := by
                      rcases c4 with ⟨_, rfl, hT⟩ | ⟨_, rfl⟩
                      · rcases d1 with ⟨_, _, hS, _⟩ | ⟨_, hS⟩
                        · have : funY t1 t2 = funY u1 u2 := by rw [hT, hS, h2]
                          exact funY_inj this
                        · exfalso
                          have := congrArg Ty.k hS
                          simp [anyY, funY] at this
                      · rcases d1 with ⟨_, hA, _, _⟩ | ⟨_, hS⟩
                        · exfalso
                          have := congrArg Ty.k hA
                          simp [anyY, funY] at this
                        · exact funY_inj hS
                    obtain ⟨rfl, rfl⟩ := eq1
                    exact (withV_two ty1 tg ta tg' ta').symm
                split
                · exact known_congr hww _
                · exact hww
            · rw [if_neg h2]
              -- the second opens what is of another kind
              have hop : o' = true ∧ w'.k = 4 ∧ h = true := by
                rcases d1 with ⟨ho', hT, _, hw⟩ | ⟨_, hS⟩
                · rcases c4 with ⟨hh, _⟩ | ⟨_, hT'⟩
                  · exact ⟨ho', hw, hh⟩
                  · exfalso
                    have := half_k' c5
                    rw [← hT', hT] at this
                    simp [anyY] at this
                    omega
                · exfalso
                  have hT : T.k = k' := by rw [hS]; exact kS2
                  rcases c4 with ⟨_, hA, _⟩ | ⟨_, hT'⟩
                  · rw [hA] at hT
                    simp [anyY] at hT
                    omega
                  · have := half_k' c5
                    rw [← hT'] at this
                    omega
              obtain ⟨rfl, hw4, rfl⟩ := hop
              rw [hs w' none none false, if_pos (by omega), chg_some]
              simp only
              rw [hof, if_pos rfl, if_neg (fun q => q.2 rfl), if_pos ⟨trivial, fun q => h2 q.symm⟩]
              exact ⟨rfl, fun h => by have h9 : w'.k = 0 := h; omega⟩
      · rw [if_neg he]
        refine ⟨fun _ => rfl, fun h => ?_⟩
        exfalso
        rw [chg_some] at h
        split at h
        · cases h
        · split at h
          · rename_i h2
            rcases c1 with ⟨_, _, _, hw⟩ | ⟨ho, _⟩
            · simp only at h; omega
            · simp only at h2; rw [ho] at h2; cases h2.1
          · first
              | exact he h
              | (split at h
                 · exact he h
                 · rename_i h9; exact h9 he)
end Go.Proofs.YtnddkmccagiclabGreatDoor

/-
  Machines alike but for what casts would do behind the run's end go on alike; what a run reaches; plain mathematics.
-/
namespace Go.Proofs.YtnddkmccagiclabGreatDoor
def nfT (t : Task) : Task := ⟨t.d, t.x, t.s.map nfV, nfC t.c⟩
def eqT (t t' : Task) : Prop := nfT t = nfT t'
theorem eqT_mk {d : Int} {x : Tm} {s s' : List Val} {c c' : Option Ca} (hs : eqE s s') (hc : eqC c c') : eqT ⟨d, x, s, c⟩ ⟨d, x, s', c'⟩ := by
  rw [eqT, nfT, nfT]
  simp only
  rw [eqE] at hs
  rw [eqC] at hc
  rw [hs, hc]
theorem eqT_parts {t t' : Task} (h : eqT t t') : t.d = t'.d ∧ t.x = t'.x ∧ eqE t.s t'.s ∧ eqC t.c t'.c := by
  rw [eqT, nfT, nfT] at h
  simp only [Task.mk.injEq] at h
  exact ⟨h.1, h.2.1, h.2.2.1, h.2.2.2⟩
theorem eqT.refl (t : Task) : eqT t t := rfl
def eqTs (ts ts' : List Task) : Prop := ts.map nfT = ts'.map nfT
theorem eqTs.refl (ts : List Task) : eqTs ts ts := rfl
theorem eqTs_cons {t t' : Task} {ts ts' : List Task} (h : eqT t t') (hs : eqTs ts ts') : eqTs (t :: ts) (t' :: ts') := by
  rw [eqTs, List.map_cons, List.map_cons]
  rw [eqTs] at hs
  rw [eqT] at h
  rw [h, hs]
theorem eqTs_consL {t : Task} {ts l : List Task} (h : eqTs (t :: ts) l) : ∃ t' ts', l = t' :: ts' ∧ eqT t t' ∧ eqTs ts ts' := by
  cases l with
  | nil => rw [eqTs] at h; cases h
  | cons t' ts' =>
    rw [eqTs, List.map_cons, List.map_cons] at h
    exact ⟨t', ts', rfl, List.cons.inj h⟩
theorem eqTs_nilL {l : List Task} (h : eqTs [] l) : l = [] := by
  cases l with
  | nil => rfl
  | cons _ _ => rw [eqTs] at h; cases h
structure eqS (s s' : St) : Prop where
  ts : eqTs s.ts s'.ts
  vs : eqE s.vs s'.vs
  calls : s.calls = s'.calls
  fuel : s.fuel = s'.fuel
  ended : s.ended = s'.ended
theorem eqE.refl (e : List Val) : eqE e e := rfl
theorem eqE.trans {a b c : List Val} (h : eqE a b) (h' : eqE b c) : eqE a c := Eq.trans h h'
theorem eqE.symm {a b : List Val} (h : eqE a b) : eqE b a := Eq.symm h
theorem eqS.refl (s : St) : eqS s s := ⟨rfl, rfl, rfl, rfl, rfl⟩
theorem eqS.symm {s t : St} (h : eqS s t) : eqS t s := ⟨h.ts.symm, h.vs.symm, h.calls.symm, h.fuel.symm, h.ended.symm⟩
theorem eqS.trans {s t u : St} (h : eqS s t) (h' : eqS t u) : eqS s u := ⟨h.ts.trans h'.ts, h.vs.trans h'.vs, h.calls.trans h'.calls, h.fuel.trans h'.fuel, h.ended.trans h'.ended⟩
theorem eqS.push {s s' : St} {v v' : Val} (h : eqS s s') (hv : eqV v v') : eqS (s.push v) (s'.push v') := ⟨h.ts, eqE_cons hv h.vs, h.calls, h.fuel, h.ended⟩
theorem eqS.plan {s s' : St} {t t' : Task} (h : eqS s s') (ht : eqT t t') : eqS (s.plan t) (s'.plan t') := ⟨eqTs_cons ht h.ts, h.vs, h.calls, h.fuel, h.ended⟩
theorem eqS.stop {s s' : St} (h : eqS s s') (o : Out) : eqS (s.stop o) (s'.stop o) := ⟨h.ts, h.vs, h.calls, h.fuel, rfl⟩
theorem look_congr {s s' : St} {x : Tm} {e e' : List Val} (h : eqS s s') (he : eqE e e') : eqS (lookS s x e) (lookS s' x e') := by
  have hl : ∀ y, eqT (lookT y e) (lookT y e') := fun y => eqT_mk he (eqC.refl _)
  have hb : ∀ d, eqS (bothS s x e d) (bothS s' x e' d) := fun d => ((h.plan (eqT.refl _)).plan (hl _)).plan (hl _)
  unfold lookS
  split
  · obtain ⟨h1, h2⟩ := eqE_at he x.n.toNat
    cases hv : e[x.n.toNat]? with
    | none => rw [h2 hv]; exact h.stop _
    | some v =>
      obtain ⟨v', hv', hvv⟩ := h1 v hv
      rw [hv']
      exact h.push hvv
  split
  · exact h.push (eqV.refl _)
  split
  · exact h.push (eqV.refl _)
  split
  · exact h.push (eqV_mk he eqE_nil (eqC.refl _) (eqC.refl _))
  split
  · exact h.plan (hl _)
  split
  · exact (h.plan (eqT.refl _)).plan (hl _)
  split
  · exact (h.plan (eqT_mk he (eqC.refl _))).plan (hl _)
  split
  · exact hb 2
  split
  · exact hb 3
  · exact hb 5
theorem change_congr {s s' : St} {c c' : Option Ca} {v v' : Val} (h : eqS s s') (hc : eqC c c') (hv : eqV v v') : eqS (changeS s c v) (changeS s' c' v') := by
  cases c with
  | none => rw [eqC_none hc]; exact h.push hv
  | some c =>
    cases c' with
    | none => have := eqC_none hc.symm; cases this
    | some c' =>
      have hg := chg_congr hc hv
      obtain ⟨o, w, k, e, g, a, hh⟩ := c
      obtain ⟨o', w', k', e', g', a', hh'⟩ := c'
      obtain ⟨rfl, rfl, rfl, rfl, _⟩ := eqC_some hc
      obtain ⟨hk, _, _, _, _, _, _, has⟩ := eqV_parts hv
      rw [chg_some, chg_some] at hg
      simp only at hg
      unfold changeS
      simp only
      rw [hk, has] at hg ⊢
      by_cases h1 : o = true ∧ v'.k ≠ 5
      · rw [if_pos h1, if_pos h1]; exact h.stop _
      · rw [if_neg h1, if_neg h1] at hg ⊢
        by_cases h2 : o = true ∧ v'.as ≠ k
        · rw [if_pos h2, if_pos h2]; exact h.stop _
        · rw [if_neg h2, if_neg h2] at hg ⊢
          by_cases h3 : e.k ≠ 0
          · rw [if_pos h3, if_pos h3]; exact h.stop _
          · rw [if_neg h3, if_neg h3] at hg ⊢
            exact h.push (hg.2 rfl)
theorem call_congr {s s' : St} {f f' g g' : Val} (h : eqS s s') (hf : eqV f f') (hg : eqV g g') : eqS (callS s f g) (callS s' f' g') := by
  obtain ⟨hk, _, hb, he, _, hgv, hav, _⟩ := eqV_parts hf
  unfold callS
  rw [hk]
  split
  · unfold enterS
    rw [h.calls, h.fuel, hb]
    split
    · exact h.stop _
    · exact ⟨eqTs_cons (eqT_mk (eqE_cons hg he) (eqC.refl _)) h.ts, h.vs, rfl, rfl, h.ended⟩
  split
  · unfold accompS
    exact ⟨eqTs_cons (eqT_mk eqE_nil hgv) (eqTs_cons (eqT.refl _) (eqTs_cons (eqT_mk eqE_nil hav) h.ts)), eqE_cons hg (eqE_cons (eqV_core hf) h.vs), h.calls, h.fuel, h.ended⟩
  · exact h.stop _
theorem do_congr {s s' : St} {t t' : Task} (h : eqS s s') (ht : eqT t t') : eqS (doS s t) (doS s' t') := by
  obtain ⟨hd, hx, hs, hc⟩ := eqT_parts ht
  unfold doS
  rw [hd]
  split
  · rw [hx]; exact look_congr h hs
  · cases hv : s.vs with
    | nil =>
      have := h.vs
      rw [hv] at this
      rw [eqE_nilL this]
      exact h
    | cons v r =>
      have hvs := h.vs
      rw [hv] at hvs
      obtain ⟨v', r', hv', hvv, hrr⟩ := eqE_consL hvs
      rw [hv']
      have hr : eqS ⟨s.ts, r, s.calls, s.fuel, s.ended⟩ ⟨s'.ts, r', s'.calls, s'.fuel, s'.ended⟩ := ⟨h.ts, hrr, h.calls, h.fuel, h.ended⟩
      simp only
      split
      · exact change_congr hr hc hvv
      split
      · obtain ⟨hk, hn, _⟩ := eqV_parts hvv
        rw [hk, hn, hx]
        split
        · exact hr.plan (eqT_mk hs (eqC.refl _))
        · exact hr.stop _
      · cases hq : r with
        | nil =>
          rw [hq] at hrr
          rw [eqE_nilL hrr]
          exact h
        | cons u q =>
          rw [hq] at hrr
          obtain ⟨u', q', hq', huu, hqq⟩ := eqE_consL hrr
          rw [hq']
          obtain ⟨hk, hn, _⟩ := eqV_parts hvv
          obtain ⟨hk2, hn2, _⟩ := eqV_parts huu
          simp only
          split
          · exact ⟨h.ts, eqE_cons (by rw [hn, hn2]; exact eqV.refl _) hqq, h.calls, h.fuel, by show (if _ then _ else _) = (if _ then _ else _); rw [hk, hk2, h.ended]⟩
          split
          · exact ⟨h.ts, eqE_cons (by rw [hn, hn2]; exact eqV.refl _) hqq, h.calls, h.fuel, by show (if _ then _ else _) = (if _ then _ else _); rw [hk, hk2, h.ended]⟩
          · exact call_congr ⟨h.ts, hqq, h.calls, h.fuel, h.ended⟩ huu hvv
theorem step_congr {s s' : St} (h : eqS s s') : eqS (stepS s) (stepS s') := by
  unfold stepS
  rw [h.ended]
  split
  · cases ht : s.ts with
    | nil =>
      have := h.ts
      rw [ht] at this
      rw [eqTs_nilL this]
      exact h
    | cons t r =>
      have hts := h.ts
      rw [ht] at hts
      obtain ⟨t', r', ht', htt, hrr⟩ := eqTs_consL hts
      rw [ht']
      exact do_congr ⟨hrr, h.vs, h.calls, h.fuel, rfl⟩ htt
  · exact h
theorem run_congr {s s' : St} (h : eqS s s') : ∀ n, eqS (runN n s) (runN n s')
  | 0 => h
  | n + 1 => run_congr (step_congr h) n
/-- The run comes from one to the other. -/
def Rch (s t : St) : Prop := ∃ n, eqS (runN n s) t
theorem Rch.refl (s : St) : Rch s s := ⟨0, eqS.refl s⟩
theorem Rch.trans {s t u : St} (h : Rch s t) (h' : Rch t u) : Rch s u := by
  obtain ⟨n, hn⟩ := h
  obtain ⟨m, hm⟩ := h'
  exact ⟨n + m, by rw [runN_add]; exact (run_congr hn m).trans hm⟩
theorem Rch.step {s t : St} (h : Rch (stepS s) t) : Rch s t := by
  obtain ⟨n, hn⟩ := h
  exact ⟨n + 1, hn⟩
theorem Rch.of {s s' t : St} (h : eqS s s') (h' : Rch s' t) : Rch s t := Rch.trans ⟨0, h⟩ h'
theorem Rch.to {s t t' : St} (h : Rch s t) (h' : eqS t t') : Rch s t' := h.trans ⟨0, h'⟩
/-- The run ends so. -/
def Ends (s : St) (o : Out) : Prop := o.k ≠ 0 ∧ ∃ n, (runN n s).ended = o
theorem Ends.of {s t : St} {o : Out} (h : Rch s t) (h' : Ends t o) : Ends s o := by
  obtain ⟨n, hn⟩ := h
  obtain ⟨ho, m, hm⟩ := h'
  exact ⟨ho, n + m, by rw [runN_add]; exact (run_congr hn m).ended.trans hm⟩
theorem Ends.now {s : St} {o : Out} (h : s.ended = o) (ho : o.k ≠ 0) : Ends s o := ⟨ho, 0, h⟩
theorem Ends.step {s : St} {o : Out} (h : Ends (stepS s) o) : Ends s o := by
  obtain ⟨ho, n, hn⟩ := h
  exact ⟨ho, n + 1, hn⟩
/-- The outcome of a run that comes to a value. -/
theorem told_congr {v v' : Val} (h : eqV v v') : toldV v = toldV v' := by
  have hc := eqV_core h
  obtain ⟨hk, hn, _⟩ := eqV_parts h
  obtain ⟨hck, hcn, _⟩ := eqV_parts hc
  unfold toldV
  simp only
  rw [hk]
  split
  · rw [hck, hcn]
  · rw [hk, hn]
theorem run_same {s : St} {n m : Nat} (hn : (runN n s).done) (hm : (runN m s).done) : runN n s = runN m s := by
  have a1 : runN (n + m) s = runN n s := by rw [runN_add, done_run hn]
  have a2 : runN (m + n) s = runN m s := by rw [runN_add, done_run hm]
  rw [← a1, ← a2, Nat.add_comm]
theorem runM_value {x : Tm} {fuel c : Nat} {v : Val} (h : shp x) (hz : x.tsz ≤ 100) (hf : fuel ≤ 100) (hr : Rch (st0 x fuel) ⟨[], [v], c, fuel, out0⟩) : runM x fuel = toldV v := by
  obtain ⟨n, hn⟩ := hr
  have hd : (runN n (st0 x fuel)).done := .inr (by
    have := hn.ts.symm
    exact eqTs_nilL this)
  rw [runM_eq, run_same (runM_done h hz hf) hd]
  unfold finO
  rw [if_pos (show (runN n (st0 x fuel)).ended.k = 0 by rw [hn.ended]; rfl)]
  have hv := hn.vs.symm
  obtain ⟨v', r, h1, h2, _⟩ := eqE_consL hv
  rw [h1]
  exact (told_congr h2).symm
theorem runM_ends {x : Tm} {fuel : Nat} {o : Out} (h : shp x) (hz : x.tsz ≤ 100) (hf : fuel ≤ 100) (hr : Ends (st0 x fuel) o) : runM x fuel = o := by
  obtain ⟨ho, n, hn⟩ := hr
  have hd : (runN n (st0 x fuel)).done := .inl (by rw [hn]; exact ho)
  rw [runM_eq, run_same (runM_done h hz hf) hd]
  unfold finO
  rw [hn, if_neg ho]
end Go.Proofs.YtnddkmccagiclabGreatDoor
