/-
  What the calls of run's find, told, turned, notNil and of kind's Ground answer.
-/
import Derived.Test.YtnddkmccagiclabGreatDoorLotb947ceb944
import Derived.Deep.LoopGhost
import Derived.BigQuiet
import Derived.Outline
namespace Go.Proofs.YtnddkmccagiclabGreatDoor
open Go.RowKit
/-- More lies in memory, in new blocks. -/
structure HPost (w0 w : World) (G : Gh) (w' : World) (H : Gh) : Prop where
  le : G.le H
  hg : HG w0 w' H
  bel : Below w.heap.size w w'
  new : ∀ b, H.dom b → G.dom b ∨ w.heap.size ≤ b
theorem HPost.refl {w0 w : World} {G : Gh} (h : HG w0 w G) : HPost w0 w G w G := ⟨Gh.le.refl G, h, Below.refl _ _, fun _ h => .inl h⟩
theorem HPost.trans {w0 w w1 w2 : World} {G H K : Gh} (h : HPost w0 w G w1 H) (h' : HPost w0 w1 H w2 K) : HPost w0 w G w2 K := by
  refine ⟨h.le.trans h'.le, h'.hg, h.bel.trans (h'.bel.mono h.bel.size), fun b hb => ?_⟩
  rcases h'.new b hb with hb | hb
  · exact h.new b hb
  · exact .inr (Nat.le_trans h.bel.size hb)
theorem HG.below {w0 w w' : World} {G : Gh} (h : HG w0 w G) (hb : Below w.heap.size w w') : HG w0 w' G := h.of fun b hd i => hb.cell (p := ⟨b, i, none⟩) (h.lt hd)
theorem HPost.below {w0 w w' : World} {G : Gh} (h : HG w0 w G) (hb : Below w.heap.size w w') : HPost w0 w G w' G := ⟨Gh.le.refl G, h.below hb, hb, fun _ h => .inl h⟩
theorem MS.post {w0 w w' : World} {M : Nat} {G H : Gh} {s : St} (h : MS w0 w M G s) (hp : HPost w0 w G w' H) : MS w0 w' M H s ∧ Fr M w w' := by
  have h1 := h.below hp.bel
  refine ⟨h1.grow hp.le hp.hg fun b hb => ?_, Fr.below hp.bel h.lt⟩
  rcases hp.new b hb with hb | hb
  · exact h1.far b hb
  · have hM := h.lt
    refine ⟨by omega, fun hr => ?_⟩
    obtain ⟨u, hu, hc⟩ := hr.congr (hp.bel.cell (p := ⟨M, 0, none⟩) hM) (hp.bel.cell (p := ⟨M, 1, none⟩) hM)
    obtain ⟨tv, mv, txs, mxs, e0, e1, o0, o1, _⟩ := h.ex
    rcases hc with hc | hc
    · rw [e0] at hc; cases hc
      have := (o0.lt b hu).2; omega
    · rw [e1] at hc; cases hc
      have := (o1.lt b hu).2; omega
set_option maxRecDepth 20000 in
set_option maxHeartbeats 1000000 in
theorem turned_any (k n : Int) (b : Bool) (w : World) :
    Calls Tryz.prog 183 #[.agg #[.int .i64 k, .int .i64 n, .bool b]] w fun e w' => e = .returned (.agg #[.int .i64 k, .int .i64 n, .bool (!b)]) ∧ Below w.heap.size w w' := by
  go_enter Tryz.func183, Tryz.ntmps183
  go_wp2_with fail
  refine bodyPost_ret (v := .agg #[.int .i64 k, .int .i64 n, .bool (!b)]) (by simp [results, Tryz.results183, go_sem]) rfl ⟨rfl, ?_⟩
  exact ((Below.refl _ _).alloc (Nat.le_refl _) _).alloc (by simp) _
set_option maxRecDepth 20000 in
set_option maxHeartbeats 1000000 in
theorem notNil_some (b : Nat) (k : Int) (w : World) :
    Calls Tryz.prog 184 #[.pointer (some ⟨b, 0, none⟩), .int .i64 k] w fun e w' => e = .returned (.pointer (some ⟨b, 0, none⟩)) ∧ w' = w := by
  go_enter Tryz.func184, Tryz.ntmps184
  go_wp2_with fail
  go_ret
  exact ⟨rfl, rfl⟩
def cast0 (k : Int) : Obj := .cells #[.bool false, .int .i64 0, .int .i64 0, .bool false, .int .i64 k, .int .i64 0, .int .i64 0, .bool false, .pointer none, .pointer none, .bool false] 203
set_option maxRecDepth 20000 in
set_option maxHeartbeats 1000000 in
theorem notNil_none (k : Int) (w : World) :
    Calls Tryz.prog 184 #[.pointer none, .int .i64 k] w fun e w' => e = .returned (.pointer (some ⟨w.heap.size, 0, none⟩)) ∧ w' = w.alloc (cast0 k) := by
  go_enter Tryz.func184, Tryz.ntmps184
  go_wp2_with fail
  go_ret
  exact ⟨rfl, rfl⟩
set_option maxRecDepth 20000 in
set_option maxHeartbeats 1000000 in
theorem ground_leaf (k : Int) (h3 : (k == 3) = false) (a : Option Addr) (m c : Nat) (w : World) :
    Calls Tryz.prog 185 #[.agg #[.int .i64 k, .slice a m c]] w fun e w' => e = .returned (.agg #[.int .i64 k, .slice none 0 0]) ∧ Below w.heap.size w w' := by
  go_enter Tryz.func185, Tryz.ntmps185
  go_wp2_with fail
  refine bodyPost_ret (v := .agg #[.int .i64 k, .slice none 0 0]) (by simp [results, Tryz.results185, go_sem]) rfl ⟨rfl, ?_⟩
  exact ((Below.refl _ _).alloc (Nat.le_refl _) _).alloc (by simp) _
set_option maxRecDepth 20000 in
set_option maxHeartbeats 1000000 in
theorem told_num (b : Nat) (k n : Int) (hk : k = 1 ∨ k = 2) (w : World) (h0 : w.cell? ⟨b, 0, none⟩ = some (.int .i64 k)) (h1 : w.cell? ⟨b, 1, none⟩ = some (.int .i64 n)) :
    Calls Tryz.prog 74 #[.pointer (some ⟨b, 0, none⟩)] w fun e w' => e = .returned (.agg #[.int .i64 k, .int .i64 n, .bool false]) ∧ Below w.heap.size w w' := by
  have lb : b < w.heap.size := World.block_lt_of_cell? _ _ h0
  rcases hk with rfl | rfl
  all_goals
    go_enter Tryz.func74, Tryz.ntmps74
    go_wp2_with fail
    refine bodyPost_ret (v := .agg #[.int .i64 _, .int .i64 n, .bool false]) (by simp [results, Tryz.results74, go_sem]) rfl ⟨rfl, ?_⟩
    exact (Below.refl _ _).alloc (Nat.le_refl _) _
set_option maxRecDepth 20000 in
set_option maxHeartbeats 1000000 in
theorem told_fun (b : Nat) (k : Int) (h5 : (k == 5) = false) (h1 : (k == 1) = false) (h2 : (k == 2) = false) (w : World) (h0 : w.cell? ⟨b, 0, none⟩ = some (.int .i64 k)) :
    Calls Tryz.prog 74 #[.pointer (some ⟨b, 0, none⟩)] w fun e w' => e = .returned (.agg #[.int .i64 3, .int .i64 0, .bool false]) ∧ Below w.heap.size w w' := by
  have lb : b < w.heap.size := World.block_lt_of_cell? _ _ h0
  go_enter Tryz.func74, Tryz.ntmps74
  go_wp2_with fail
  refine bodyPost_ret (v := .agg #[.int .i64 3, .int .i64 0, .bool false]) (by simp [results, Tryz.results74, go_sem]) rfl ⟨rfl, ?_⟩
  exact (Below.refl _ _).alloc (Nat.le_refl _) _
set_option maxRecDepth 20000 in
set_option maxHeartbeats 1000000 in
theorem told_num5 (b c : Nat) (k n : Int) (hk : k = 1 ∨ k = 2) (w : World) (b0 : w.cell? ⟨b, 0, none⟩ = some (.int .i64 5)) (b4 : w.cell? ⟨b, 4, none⟩ = some (.pointer (some ⟨c, 0, none⟩))) (h0 : w.cell? ⟨c, 0, none⟩ = some (.int .i64 k)) (h1 : w.cell? ⟨c, 1, none⟩ = some (.int .i64 n)) :
    Calls Tryz.prog 74 #[.pointer (some ⟨b, 0, none⟩)] w fun e w' => e = .returned (.agg #[.int .i64 k, .int .i64 n, .bool false]) ∧ Below w.heap.size w w' := by
  have lb : b < w.heap.size := World.block_lt_of_cell? _ _ b0
  have lc : c < w.heap.size := World.block_lt_of_cell? _ _ h0
  rcases hk with rfl | rfl
  all_goals
    go_enter Tryz.func74, Tryz.ntmps74
    go_wp2_with fail
    refine bodyPost_ret (v := .agg #[.int .i64 _, .int .i64 n, .bool false]) (by simp [results, Tryz.results74, go_sem]) rfl ⟨rfl, ?_⟩
    exact (Below.refl _ _).alloc (Nat.le_refl _) _
set_option maxRecDepth 20000 in
set_option maxHeartbeats 1000000 in
theorem told_fun5 (b c : Nat) (k : Int) (h1 : (k == 1) = false) (h2 : (k == 2) = false) (w : World) (b0 : w.cell? ⟨b, 0, none⟩ = some (.int .i64 5)) (b4 : w.cell? ⟨b, 4, none⟩ = some (.pointer (some ⟨c, 0, none⟩))) (h0 : w.cell? ⟨c, 0, none⟩ = some (.int .i64 k)) :
    Calls Tryz.prog 74 #[.pointer (some ⟨b, 0, none⟩)] w fun e w' => e = .returned (.agg #[.int .i64 3, .int .i64 0, .bool false]) ∧ Below w.heap.size w w' := by
  have lb : b < w.heap.size := World.block_lt_of_cell? _ _ b0
  have lc : c < w.heap.size := World.block_lt_of_cell? _ _ h0
  go_enter Tryz.func74, Tryz.ntmps74
  go_wp2_with fail
  refine bodyPost_ret (v := .agg #[.int .i64 3, .int .i64 0, .bool false]) (by simp [results, Tryz.results74, go_sem]) rfl ⟨rfl, ?_⟩
  exact (Below.refl _ _).alloc (Nat.le_refl _) _
theorem told_any {w0 w : World} {G : Gh} (h : HG w0 w G) {p : Option Addr} {v : Val} (hp : G.vp p v) :
    Calls Tryz.prog 74 #[.pointer p] w fun e w' => e = .returned (.agg #[.int .i64 (toldV v).k, .int .i64 (toldV v).n, .bool (toldV v).b]) ∧ Below w.heap.size w w' := by
  obtain ⟨b, rfl, hb⟩ := hp
  obtain ⟨pb, ps, pi, pg, pa, h0, h1, h2, h3, h4, h5, h6, h7, a1, a2, a3, a4⟩ := h.v b v hb
  have one : ∀ (u : Val), (u.k = 1 ∨ u.k = 2) → (if u.k = 1 then (⟨1, u.n, false⟩ : Out) else if u.k = 2 then ⟨2, u.n, false⟩ else ⟨3, 0, false⟩) = ⟨u.k, u.n, false⟩ := fun u hu => by
    rcases hu with hu | hu <;> simp [hu]
  have two : ∀ (u : Val), ¬ (u.k = 1 ∨ u.k = 2) → (if u.k = 1 then (⟨1, u.n, false⟩ : Out) else if u.k = 2 then ⟨2, u.n, false⟩ else ⟨3, 0, false⟩) = ⟨3, 0, false⟩ := fun u hu => by
    rw [if_neg (fun h => hu (.inl h)), if_neg (fun h => hu (.inr h))]
  by_cases hk5 : v.k = 5
  · obtain ⟨u, hi, c, rfl, hc⟩ := a2 (.inr hk5)
    obtain ⟨_, _, _, _, _, u0, u1, _⟩ := h.v c u hc
    have hcore : v.core = u := by unfold Val.core; rw [hi]; rfl
    rw [hk5] at h0
    have e : toldV v = if u.k = 1 then (⟨1, u.n, false⟩ : Out) else if u.k = 2 then ⟨2, u.n, false⟩ else ⟨3, 0, false⟩ := by
      unfold toldV; simp only [hk5, hcore, if_true]
    rw [e]
    by_cases hu : u.k = 1 ∨ u.k = 2
    · rw [one u hu]
      exact told_num5 b c u.k u.n hu w h0 h4 u0 u1
    · rw [two u hu]
      exact told_fun5 b c u.k (by simpa using fun h => hu (.inl h)) (by simpa using fun h => hu (.inr h)) w h0 h4 u0
  · have e : toldV v = if v.k = 1 then (⟨1, v.n, false⟩ : Out) else if v.k = 2 then ⟨2, v.n, false⟩ else ⟨3, 0, false⟩ := by
      unfold toldV; simp only [hk5, if_false]
    rw [e]
    by_cases hu : v.k = 1 ∨ v.k = 2
    · rw [one v hu]
      exact told_num b v.k v.n hu w h0 h1
    · rw [two v hu]
      exact told_fun b v.k (by simpa using hk5) (by simpa using fun h => hu (.inl h)) (by simpa using fun h => hu (.inr h)) w h0
set_option maxRecDepth 20000 in
set_option maxHeartbeats 1000000 in
/-- find: what the n-th function from within was given. -/
theorem find_any {w0 w : World} {G : Gh} (h : HG w0 w G) (p : Option Addr) (e : List Val) (hp : G.sp p e) (n : Nat) (hn : n ≤ 1000000) :
    Calls Tryz.prog 149 #[.pointer p, .int .i64 n] w fun r w' => w' = w ∧ ∃ q, r = .returned (.pointer q) ∧ ((q = none ∧ e[n]? = none) ∨ ∃ v, e[n]? = some v ∧ G.vp q v) := by
  have H : Hid (HG w0 w G ∧ G.sp p e) := ⟨h, hp⟩
  clear h hp
  go_enter Tryz.func149, Tryz.ntmps149
  go_wp2_with fail
  go_loopg [0, 1] n (fun k p0 n0 wr => ∃ p', p0 = .pointer p' ∧ n0 = .int .i64 (k : Int) ∧ wr = w ∧ Hid (∃ e', G.sp p' e' ∧ e[n]? = e'[k]? ∧ k ≤ 1000000))
  case atStart => exact ⟨p, rfl, rfl, rfl, e, H.out.2, rfl, hn⟩
  case round =>
    obtain ⟨p', rfl, rfl, rfl, HI⟩ := hrel
    obtain ⟨e', hs, he, hk⟩ := HI.out
    rcases hs with ⟨rfl, rfl⟩ | ⟨b, rfl, hb⟩
    · have HE : Hid (e[n]? = none) := by rw [he]; rfl
      clear he HI
      go_wp2_with fail
      go_ret
      exact ⟨rfl, none, rfl, .inl ⟨rfl, HE.out⟩⟩
    · obtain ⟨v, r, pv, ps, rfl, c0, c1, hv, hps⟩ := H.out.1.s b e' hb
      have lb : b < wr.heap.size := World.block_lt_of_cell? _ _ c0
      match gk, he with
      | 0, he =>
        have HE : Hid (e[n]? = some v ∧ G.vp pv v) := ⟨by rw [he]; rfl, hv⟩
        clear he HI hps hv
        go_wp2_with fail
        go_ret
        exact ⟨rfl, pv, rfl, .inr ⟨v, HE.out⟩⟩
      | k + 1, he =>
        have HE : Hid (∃ e', G.sp ps e' ∧ e[n]? = e'[k]? ∧ k ≤ 1000000) := ⟨r, hps, by rw [he]; rfl, by omega⟩
        have hpos : (decide ((0 : Int) < ((k + 1 : Nat) : Int))) = true := by simp
        clear he HI hps hv
        go_wp2_with fail
        go_roundg k
        case measure => omega
        case rel => exact ⟨ps, rfl, by simp, rfl, HE⟩
end Go.Proofs.YtnddkmccagiclabGreatDoor

/-
  What the call of a cast's then answers: one cast that does what both do.
-/
namespace Go.Proofs.YtnddkmccagiclabGreatDoor
open Go.RowKit
def ThenPost (w0 w : World) (G : Gh) (c d : Option Ca) (e : Ending) (w' : World) : Prop := ∃ p H, e = .returned (.pointer p) ∧ H.cp p (thenC c d) ∧ HPost w0 w G w' H
set_option maxRecDepth 20000 in
set_option maxHeartbeats 1000000 in
theorem then_nil (pd : Option Addr) (w : World) : Calls Tryz.prog 201 #[.pointer none, .pointer pd] w fun e w' => e = .returned (.pointer pd) ∧ w' = w := by
  go_enter Tryz.func201, Tryz.ntmps201
  go_wp2_with fail
  go_ret
  exact ⟨rfl, rfl⟩
set_option maxRecDepth 20000 in
set_option maxHeartbeats 1000000 in
theorem then_one (b : Nat) (w : World) : Calls Tryz.prog 201 #[.pointer (some ⟨b, 0, none⟩), .pointer none] w fun e w' => e = .returned (.pointer (some ⟨b, 0, none⟩)) ∧ w' = w := by
  go_enter Tryz.func201, Tryz.ntmps201
  go_wp2_with fail
  go_ret
  exact ⟨rfl, rfl⟩
set_option maxRecDepth 20000 in
set_option maxHeartbeats 1000000 in
theorem then_ends (b c : Nat) (k : Int) (hk : (k != 0) = true) (w : World) (h5 : w.cell? ⟨b, 5, none⟩ = some (.int .i64 k)) : Calls Tryz.prog 201 #[.pointer (some ⟨b, 0, none⟩), .pointer (some ⟨c, 0, none⟩)] w fun e w' => e = .returned (.pointer (some ⟨b, 0, none⟩)) ∧ w' = w := by
  have lb : b < w.heap.size := World.block_lt_of_cell? _ _ h5
  go_enter Tryz.func201, Tryz.ntmps201
  go_wp2_with fail
  go_ret
  exact ⟨rfl, rfl⟩
/-- A cast's cells, laid anew. -/
def castO (c : Ca) (pg pa : Option Addr) : Obj := .cells #[.bool c.opens, .int .i64 c.wrong.k, .int .i64 c.wrong.n, .bool c.wrong.b, .int .i64 c.kind, .int .i64 c.ends.k, .int .i64 c.ends.n, .bool c.ends.b, .pointer pg, .pointer pa, .bool c.hides] 203
theorem castO_at (w : World) (c : Ca) (pg pa : Option Addr) : CAt (w.alloc (castO c pg pa)) w.heap.size c pg pa := by
  constructor <;> simp [castO, go_sem]
theorem below_rN {B : Nat} {a w : World} (h : Below B a w) (n : Nat) : Below B a (w.drewN n) := h.trans ⟨rfl, rfl, rfl, Nat.le_refl _, fun _ _ => rfl⟩
theorem set_same {u : World} {b j : Nat} {v x : Value} (h : u.cell? ⟨b, j, none⟩ = some x) : (u.setCell ⟨b, j, none⟩ v).cell? ⟨b, j, none⟩ = some v := World.cell?_setCell_same _ _ _ h
theorem set_other {u : World} {b i j : Nat} {v : Value} (h : i ≠ j) : (u.setCell ⟨b, j, none⟩ v).cell? ⟨b, i, none⟩ = u.cell? ⟨b, i, none⟩ := World.cell?_setCell_other _ _ _ _ (by intro e; cases e; exact h rfl)
/-- A cast's end is set. -/
theorem CAt.setEnds {W : World} {b : Nat} {c : Ca} {pg pa : Option Addr} (h : CAt W b c pg pa) (o : Out) : CAt (((W.setCell ⟨b, 5, none⟩ (.int .i64 o.k)).setCell ⟨b, 6, none⟩ (.int .i64 o.n)).setCell ⟨b, 7, none⟩ (.bool o.b)) b ⟨c.opens, c.wrong, c.kind, o, c.given, c.answer, c.hides⟩ pg pa := by
  obtain ⟨h0, h1, h2, h3, h4, h5, h6, h7, h8, h9, h10⟩ := h
  have far : ∀ i, i ≠ 5 → i ≠ 6 → i ≠ 7 → (((W.setCell ⟨b, 5, none⟩ (.int .i64 o.k)).setCell ⟨b, 6, none⟩ (.int .i64 o.n)).setCell ⟨b, 7, none⟩ (.bool o.b)).cell? ⟨b, i, none⟩ = W.cell? ⟨b, i, none⟩ := fun i a1 a2 a3 => by rw [set_other a3, set_other a2, set_other a1]
  refine ⟨(far 0 (by omega) (by omega) (by omega)).trans h0, (far 1 (by omega) (by omega) (by omega)).trans h1, (far 2 (by omega) (by omega) (by omega)).trans h2, (far 3 (by omega) (by omega) (by omega)).trans h3, (far 4 (by omega) (by omega) (by omega)).trans h4, ?_, ?_, ?_, (far 8 (by omega) (by omega) (by omega)).trans h8, (far 9 (by omega) (by omega) (by omega)).trans h9, (far 10 (by omega) (by omega) (by omega)).trans h10⟩
  · rw [set_other (by omega), set_other (by omega)]; exact set_same h5
  · rw [set_other (by omega)]; exact set_same ((set_other (by omega)).trans h6)
  · exact set_same ((set_other (by omega)).trans ((set_other (by omega)).trans h7))
theorem CAt.setHides {W : World} {b : Nat} {c : Ca} {pg pa : Option Addr} (h : CAt W b c pg pa) (o : Bool) : CAt (W.setCell ⟨b, 10, none⟩ (.bool o)) b ⟨c.opens, c.wrong, c.kind, c.ends, c.given, c.answer, o⟩ pg pa := by
  obtain ⟨h0, h1, h2, h3, h4, h5, h6, h7, h8, h9, h10⟩ := h
  exact ⟨(set_other (by omega)).trans h0, (set_other (by omega)).trans h1, (set_other (by omega)).trans h2, (set_other (by omega)).trans h3, (set_other (by omega)).trans h4, (set_other (by omega)).trans h5, (set_other (by omega)).trans h6, (set_other (by omega)).trans h7, (set_other (by omega)).trans h8, (set_other (by omega)).trans h9, set_same h10⟩
theorem CAt.setGiven {W : World} {b : Nat} {c : Ca} {pg pa : Option Addr} (h : CAt W b c pg pa) (p : Option Addr) (g : Option Ca) : CAt (W.setCell ⟨b, 8, none⟩ (.pointer p)) b ⟨c.opens, c.wrong, c.kind, c.ends, g, c.answer, c.hides⟩ p pa := by
  obtain ⟨h0, h1, h2, h3, h4, h5, h6, h7, h8, h9, h10⟩ := h
  exact ⟨(set_other (by omega)).trans h0, (set_other (by omega)).trans h1, (set_other (by omega)).trans h2, (set_other (by omega)).trans h3, (set_other (by omega)).trans h4, (set_other (by omega)).trans h5, (set_other (by omega)).trans h6, (set_other (by omega)).trans h7, set_same h8, (set_other (by omega)).trans h9, (set_other (by omega)).trans h10⟩
theorem CAt.setAnswer {W : World} {b : Nat} {c : Ca} {pg pa : Option Addr} (h : CAt W b c pg pa) (p : Option Addr) (g : Option Ca) : CAt (W.setCell ⟨b, 9, none⟩ (.pointer p)) b ⟨c.opens, c.wrong, c.kind, c.ends, c.given, g, c.hides⟩ pg p := by
  obtain ⟨h0, h1, h2, h3, h4, h5, h6, h7, h8, h9, h10⟩ := h
  exact ⟨(set_other (by omega)).trans h0, (set_other (by omega)).trans h1, (set_other (by omega)).trans h2, (set_other (by omega)).trans h3, (set_other (by omega)).trans h4, (set_other (by omega)).trans h5, (set_other (by omega)).trans h6, (set_other (by omega)).trans h7, (set_other (by omega)).trans h8, set_same h9, (set_other (by omega)).trans h10⟩
set_option maxRecDepth 20000 in
set_option maxHeartbeats 1000000 in
theorem then_mis (b q : Nat) (c d : Ca) (pg pa pg' pa' : Option Addr) (h0 : (c.ends.k != 0) = false) (hk : (d.kind != c.kind) = true) (w : World) (hc : CAt w b c pg pa) (hd : CAt w q d pg' pa') :
    Calls Tryz.prog 201 #[.pointer (some ⟨b, 0, none⟩), .pointer (some ⟨q, 0, none⟩)] w fun e w' => e = .returned (.pointer (some ⟨w.heap.size, 0, none⟩)) ∧ CAt w' w.heap.size ⟨c.opens, c.wrong, c.kind, d.wrong, none, none, false⟩ none none ∧ Below w.heap.size w w' := by
  have lb : b < w.heap.size := World.block_lt_of_cell? _ _ hc.c0
  have lq : q < w.heap.size := World.block_lt_of_cell? _ _ hd.c0
  obtain ⟨c0, c1, c2, c3, c4, c5, c6, c7, c8, c9, c10⟩ := hc
  obtain ⟨d0, d1, d2, d3, d4, d5, d6, d7, d8, d9, d10⟩ := hd
  have HN : Hid (∀ n, CAt ((w.alloc (castO ⟨c.opens, c.wrong, c.kind, out0, none, none, false⟩ none none)).drewN n) w.heap.size ⟨c.opens, c.wrong, c.kind, out0, none, none, false⟩ none none) := fun n => (castO_at w ⟨c.opens, c.wrong, c.kind, out0, none, none, false⟩ none none).of fun _ => rfl
  go_enter Tryz.func201, Tryz.ntmps201
  go_wp2_with fail
  go_region
  all_goals
    go_wp2_with fail
    go_quiet (fail)
    go_wp2_with fail
    go_ret
    refine ⟨rfl, (HN.out _).setEnds d.wrong, ?_⟩
    exact (((below_rN ((Below.refl _ _).alloc (Nat.le_refl _) _) _).setCell (by simp) _).setCell (by simp) _).setCell (by simp) _
theorem then_new {w0 w W : World} {G H : Gh} {x : Ca} {pg pa : Option Addr} (hl : G.le H) (hH : HG w0 W H) (hb : Below w.heap.size w W) (hn : ∀ b, H.dom b → G.dom b ∨ w.heap.size ≤ b) (hd : ¬ H.dom w.heap.size) (hx : CAt W w.heap.size x pg pa) (hg : H.cp pg x.given) (ha : H.cp pa x.answer) : HPost w0 w G W (H.addC w.heap.size x) ∧ (H.addC w.heap.size x).cp (some ⟨w.heap.size, 0, none⟩) (some x) := by
  refine ⟨⟨hl.trans (Gh.le_addC hd), hH.addC hd hx hg ha, hb, fun b h => ?_⟩, Gh.cp_addC _ _ _⟩
  rcases Gh.dom_addC h with rfl | h
  · exact .inr (Nat.le_refl _)
  · exact hn b h
set_option maxRecDepth 20000 in
set_option maxHeartbeats 4000000 in
theorem then_both (b q : Nat) (c d : Ca) (pg pa pg' pa' : Option Addr) (h0 : (c.ends.k != 0) = false) (hk : (d.kind != c.kind) = false) (w0 w : World) (G : Gh) (hG : HG w0 w G) (hc : CAt w b c pg pa) (hd : CAt w q d pg' pa')
    (IH1 : ∀ W, HG w0 W G → Calls Tryz.prog 201 #[.pointer pg', .pointer pg] W (ThenPost w0 W G d.given c.given))
    (IH2 : ∀ W H, G.le H → HG w0 W H → Calls Tryz.prog 201 #[.pointer pa, .pointer pa'] W (ThenPost w0 W H c.answer d.answer)) :
    Calls Tryz.prog 201 #[.pointer (some ⟨b, 0, none⟩), .pointer (some ⟨q, 0, none⟩)] w fun e w' => ∃ H, e = .returned (.pointer (some ⟨w.heap.size, 0, none⟩)) ∧ H.cp (some ⟨w.heap.size, 0, none⟩) (some ⟨c.opens, c.wrong, c.kind, d.ends, thenC d.given c.given, thenC c.answer d.answer, d.hides⟩) ∧ HPost w0 w G w' H := by
  have lb : b < w.heap.size := World.block_lt_of_cell? _ _ hc.c0
  have lq : q < w.heap.size := World.block_lt_of_cell? _ _ hd.c0
  have H1 : Hid (HG w0 w G ∧ CAt w b c pg pa ∧ CAt w q d pg' pa') := ⟨hG, hc, hd⟩
  have HI1 : Hid (∀ W, HG w0 W G → Calls Tryz.prog 201 #[.pointer pg', .pointer pg] W (ThenPost w0 W G d.given c.given)) := IH1
  have HI2 : Hid (∀ W H, G.le H → HG w0 W H → Calls Tryz.prog 201 #[.pointer pa, .pointer pa'] W (ThenPost w0 W H c.answer d.answer)) := IH2
  obtain ⟨c0, c1, c2, c3, c4, c5, c6, c7, c8, c9, c10⟩ := hc
  obtain ⟨d0, d1, d2, d3, d4, d5, d6, d7, d8, d9, d10⟩ := hd
  have HN : Hid (∀ n, CAt ((w.alloc (castO ⟨c.opens, c.wrong, c.kind, out0, none, none, false⟩ none none)).drewN n) w.heap.size ⟨c.opens, c.wrong, c.kind, out0, none, none, false⟩ none none) := fun n => (castO_at w ⟨c.opens, c.wrong, c.kind, out0, none, none, false⟩ none none).of fun _ => rfl
  clear hG IH1 IH2
  go_enter Tryz.func201, Tryz.ntmps201
  go_wp2_with fail
  go_region
  all_goals
    go_wp2_with fail
    go_quiet (fail)
    go_wp2_with fail
    go_region
    all_goals
      obtain ⟨W3, hW3⟩ : ∃ W, W = ((((((w.alloc (castO ⟨c.opens, c.wrong, c.kind, out0, none, none, false⟩ none none)).drewN (1 + nq + 1)).setCell ⟨w.heap.size, 5, none⟩ (.int .i64 d.ends.k)).setCell ⟨w.heap.size, 6, none⟩ (.int .i64 d.ends.n)).setCell ⟨w.heap.size, 7, none⟩ (.bool d.ends.b)).setCell ⟨w.heap.size, 10, none⟩ (.bool d.hides)) := ⟨_, rfl⟩
      have hb3 : Below w.heap.size w W3 := by
        rw [hW3]
        exact ((((below_rN ((Below.refl _ _).alloc (Nat.le_refl _) _) _).setCell (by simp) _).setCell (by simp) _).setCell (by simp) _).setCell (by simp) _
      have ha3 : CAt W3 w.heap.size ⟨c.opens, c.wrong, c.kind, d.ends, none, none, d.hides⟩ none none := by
        rw [hW3]
        exact ((HN.out _).setEnds d.ends).setHides d.hides
      have hf3 : ∀ o, W3.frozen? ⟨w.heap.size, o, none⟩ = false := by
        intro o
        rw [hW3]
        simp [castO, go_sem]
      have hs3 : w.heap.size < W3.heap.size := World.block_lt_of_cell? _ _ ha3.c0
      unfold castO out0 at hW3
      rw [← hW3]
      have HC3 : Hid (HG w0 W3.drew G ∧ CAt W3.drew w.heap.size ⟨c.opens, c.wrong, c.kind, d.ends, none, none, d.hides⟩ none none ∧ (∀ o, W3.drew.frozen? ⟨w.heap.size, o, none⟩ = false) ∧ Below w.heap.size w W3.drew ∧ CAt W3 b c pg pa ∧ CAt W3 q d pg' pa') :=
        ⟨H1.out.1.below hb3.drew, ha3.of (fun _ => rfl), hf3, hb3.drew, H1.out.2.1.of fun i => hb3.cell (p := ⟨b, i, none⟩) lb, H1.out.2.2.of fun i => hb3.cell (p := ⟨q, i, none⟩) lq⟩
      have x8 := HC3.out.2.2.2.2.1.c8
      have y8 := HC3.out.2.2.2.2.2.c8
      have lb3 : b < W3.heap.size := by omega
      have lq3 : q < W3.heap.size := by omega
      clear hW3 hb3 ha3 hf3 c0 c1 c2 c3 c4 c5 c6 c7 c8 c9 c10 d0 d1 d2 d3 d4 d5 d6 d7 d8 d9 d10 HN
      go_wp2_with fail
      go_region_with (go_at_call 201; refine (HI1.out _ HC3.out.1).mono ?_; rintro e w4 ⟨p1, H4, rfl, hcp1, hp1⟩; have z8 : w4.cell? ⟨w.heap.size, 8, none⟩ = some (.pointer none) := (hp1.bel.cell (p := ⟨w.heap.size, 8, none⟩) hs3).trans HC3.out.2.1.c8; have zf : w4.frozen? ⟨w.heap.size, 8, none⟩ = false := (hp1.bel.frozen (p := ⟨w.heap.size, 8, none⟩) hs3).trans (HC3.out.2.2.1 8))
      all_goals
        have hd4 : ¬ H4.dom w.heap.size := fun hd => by
          rcases hp1.new _ hd with hd | hd
          · have := H1.out.1.lt hd; omega
          · have : W3.drew.heap.size = W3.heap.size := rfl
            omega
        have hs4 : w.heap.size < w4.heap.size := World.block_lt_of_cell? _ _ z8
        obtain ⟨W5, hW5⟩ : ∃ W, W = w4.setCell ⟨w.heap.size, 8, none⟩ (.pointer p1) := ⟨_, rfl⟩
        have hb4 : Below w.heap.size w w4 := HC3.out.2.2.2.1.trans (hp1.bel.mono HC3.out.2.2.2.1.size)
        have hb5 : Below w.heap.size w W5 := by rw [hW5]; exact hb4.setCell (Nat.le_refl _) _
        have ha4 : CAt w4 w.heap.size ⟨c.opens, c.wrong, c.kind, d.ends, none, none, d.hides⟩ none none := HC3.out.2.1.of fun i => hp1.bel.cell (p := ⟨w.heap.size, i, none⟩) hs3
        have ha5 : CAt W5 w.heap.size ⟨c.opens, c.wrong, c.kind, d.ends, thenC d.given c.given, none, d.hides⟩ p1 none := by rw [hW5]; exact ha4.setGiven p1 _
        have hf5 : ∀ o, W5.frozen? ⟨w.heap.size, o, none⟩ = false := by
          intro o
          rw [hW5]
          have := (hp1.bel.frozen (p := ⟨w.heap.size, o, none⟩) hs3).trans (HC3.out.2.2.1 o)
          simpa using this
        have hg5 : HG w0 W5 H4 := by
          rw [hW5]
          exact hp1.hg.of fun k hk i => World.cell?_setCell_far _ _ _ _ (by intro e; simp only at e; exact hd4 (e ▸ hk))
        have hs5 : w.heap.size < W5.heap.size := World.block_lt_of_cell? _ _ ha5.c0
        rw [← hW5]
        have hn4 : ∀ k, H4.dom k → G.dom k ∨ w.heap.size ≤ k := fun k hk => by
          rcases hp1.new k hk with hk | hk
          · exact .inl hk
          · have : W3.drew.heap.size = W3.heap.size := rfl
            exact .inr (by omega)
        have HC5 : Hid (HG w0 W5.drew H4 ∧ CAt W5.drew w.heap.size ⟨c.opens, c.wrong, c.kind, d.ends, thenC d.given c.given, none, d.hides⟩ p1 none ∧ (∀ o, W5.drew.frozen? ⟨w.heap.size, o, none⟩ = false) ∧ Below w.heap.size w W5.drew ∧ H4.cp p1 (thenC d.given c.given) ∧ G.le H4 ∧ (∀ k, H4.dom k → G.dom k ∨ w.heap.size ≤ k) ∧ ¬ H4.dom w.heap.size) :=
          ⟨hg5.below ((Below.refl _ _).drew), ha5.of (fun _ => rfl), hf5, hb5.drew, hcp1, hp1.le, hn4, hd4⟩
        have x9 := (H1.out.2.1.of fun i => hb5.cell (p := ⟨b, i, none⟩) lb).c9
        have y9 := (H1.out.2.2.of fun i => hb5.cell (p := ⟨q, i, none⟩) lq).c9
        have lb5 : b < W5.heap.size := by omega
        have lq5 : q < W5.heap.size := by omega
        clear hW5 hb5 ha5 hf5 hg5 hd4 hs4 hb4 ha4 hp1 hcp1 z8 zf x8 y8 lb3 lq3 HC3 hs3 hn4
        go_wp2_with fail
        go_region_with (go_at_call 201; refine (HI2.out _ _ HC5.out.2.2.2.2.2.1 HC5.out.1).mono ?_; rintro e w6 ⟨p2, H6, rfl, hcp2, hp2⟩; have z9 : w6.cell? ⟨w.heap.size, 9, none⟩ = some (.pointer none) := (hp2.bel.cell (p := ⟨w.heap.size, 9, none⟩) hs5).trans HC5.out.2.1.c9; have zf : w6.frozen? ⟨w.heap.size, 9, none⟩ = false := (hp2.bel.frozen (p := ⟨w.heap.size, 9, none⟩) hs5).trans (HC5.out.2.2.1 9))
        all_goals
          go_wp2_with fail
          go_ret
          obtain ⟨g5, a5, f5, b5, cp1, le4, n4, d4⟩ := HC5.out
          have hd6 : ¬ H6.dom w.heap.size := fun hd => by
            rcases hp2.new _ hd with hd | hd
            · exact d4 hd
            · have : W5.drew.heap.size = W5.heap.size := rfl
              omega
          have a6 : CAt w6 w.heap.size ⟨c.opens, c.wrong, c.kind, d.ends, thenC d.given c.given, none, d.hides⟩ p1 none := a5.of fun i => hp2.bel.cell (p := ⟨w.heap.size, i, none⟩) hs5
          have b6 : Below w.heap.size w w6 := b5.trans (hp2.bel.mono b5.size)
          have g7 : HG w0 (w6.setCell ⟨w.heap.size, 9, none⟩ (.pointer p2)) H6 := hp2.hg.of fun k hk i => World.cell?_setCell_far _ _ _ _ (by intro e; simp only at e; exact hd6 (e ▸ hk))
          obtain ⟨r1, r2⟩ := then_new (x := ⟨c.opens, c.wrong, c.kind, d.ends, thenC d.given c.given, thenC c.answer d.answer, d.hides⟩) (le4.trans hp2.le) g7 (b6.setCell (Nat.le_refl _) _) (fun k hk => by
            rcases hp2.new k hk with hk | hk
            · exact n4 k hk
            · have : W5.drew.heap.size = W5.heap.size := rfl
              exact .inr (by omega)) hd6 (a6.setAnswer p2 _) (cp1.le hp2.le) hcp2
          exact ⟨_, rfl, r2, r1⟩
/-- then. -/
theorem then_any (w0 : World) : ∀ (n : Nat) (c d : Option Ca) (pc pd : Option Addr) (w : World) (G : Gh), SizeOf.sizeOf c + SizeOf.sizeOf d ≤ n → HG w0 w G → G.cp pc c → G.cp pd d → Calls Tryz.prog 201 #[.pointer pc, .pointer pd] w (ThenPost w0 w G c d)
  | 0, c, d, _, _, _, _, h, _, _, _ => by cases c <;> simp at h
  | n + 1, c, d, pc, pd, w, G, hn, hG, hc, hd => by
    rcases hc with ⟨rfl, rfl⟩ | ⟨b, x, rfl, rfl, hb⟩
    · refine (then_nil pd w).mono ?_
      rintro e w' ⟨rfl, rfl⟩
      exact ⟨pd, G, rfl, by rw [thenC_nil]; exact hd, HPost.refl hG⟩
    rcases hd with ⟨rfl, rfl⟩ | ⟨q, y, rfl, rfl, hq⟩
    · refine (then_one b w).mono ?_
      rintro e w' ⟨rfl, rfl⟩
      exact ⟨_, G, rfl, by rw [thenC_one]; exact .inr ⟨b, x, rfl, rfl, hb⟩, HPost.refl hG⟩
    obtain ⟨pg, pa, hx, xg, xa⟩ := hG.c b x hb
    obtain ⟨pg', pa', hy, yg, ya⟩ := hG.c q y hq
    by_cases h0 : x.ends.k = 0
    · have h0' : (x.ends.k != 0) = false := by simpa using h0
      have hfresh : ¬ G.dom w.heap.size := fun h => by have := hG.lt h; omega
      by_cases hk : y.kind = x.kind
      · have hsz : SizeOf.sizeOf y.given + SizeOf.sizeOf x.given ≤ n ∧ SizeOf.sizeOf x.answer + SizeOf.sizeOf y.answer ≤ n := by
          cases x; cases y
          simp at hn ⊢
          omega
        refine (then_both b q x y pg pa pg' pa' h0' (by simpa using hk) w0 w G hG hx hy (fun W hW => then_any w0 n _ _ _ _ W G hsz.1 hW yg xg) (fun W H hl hW => then_any w0 n _ _ _ _ W H hsz.2 hW (xa.le hl) (ya.le hl))).mono ?_
        rintro e w' ⟨H, rfl, h1, h2⟩
        exact ⟨_, H, rfl, by rw [thenC_some, if_pos h0, if_pos hk]; exact h1, h2⟩
      · refine (then_mis b q x y pg pa pg' pa' h0' (by simpa using hk) w hx hy).mono ?_
        rintro e w' ⟨rfl, h1, h2⟩
        obtain ⟨r1, r2⟩ := then_new (w0 := w0) (Gh.le.refl G) (hG.below h2) h2 (fun k hk => .inl hk) hfresh h1 (Gh.cp_none _) (Gh.cp_none _)
        exact ⟨_, _, rfl, by rw [thenC_some, if_pos h0, if_neg hk]; exact r2, r1⟩
    · refine (then_ends b q x.ends.k (by simpa using h0) w hx.c5).mono ?_
      rintro e w' ⟨rfl, rfl⟩
      exact ⟨_, G, rfl, by rw [thenC_some, if_neg h0]; exact .inr ⟨b, x, rfl, rfl, hb⟩, HPost.refl hG⟩
theorem then_all {w0 w : World} {G : Gh} (hG : HG w0 w G) {c d : Option Ca} {pc pd : Option Addr} (hc : G.cp pc c) (hd : G.cp pd d) : Calls Tryz.prog 201 #[.pointer pc, .pointer pd] w (ThenPost w0 w G c d) :=
  then_any w0 _ c d pc pd w G (Nat.le_refl _) hG hc hd
end Go.Proofs.YtnddkmccagiclabGreatDoor

/-
  What the calls of run's accompanied and of a cast's of answer: a value after a cast.
-/
namespace Go.Proofs.YtnddkmccagiclabGreatDoor
open Go.RowKit
/-- A value's cells, laid anew. -/
def valO (k n : Int) (pb ps pi pg pa : Option Addr) (z : Int) : Obj := .cells #[.int .i64 k, .int .i64 n, .pointer pb, .pointer ps, .pointer pi, .pointer pg, .pointer pa, .int .i64 z] 172
theorem valO_at {k n : Int} {pb ps pi pg pa : Option Addr} {z : Int} {w0 w : World} {G : Gh} {W : World} (hW : ∀ i, W.cell? ⟨w.heap.size, i, none⟩ = (w.alloc (valO k n pb ps pi pg pa z)).cell? ⟨w.heap.size, i, none⟩) {v : Val} (ek : v.k = k) (en : v.n = n) (ea : v.as = z) (h3 : v.k = 3 → TmP w0 pb v.body ∧ G.sp ps v.env) (h4 : v.k = 4 ∨ v.k = 5 → ∃ u, v.inn = [u] ∧ G.vp pi u) (hg : G.cp pg v.given) (ha : G.cp pa v.answer) : VAt w0 W G w.heap.size v := by
  refine ⟨pb, ps, pi, pg, pa, ?_, ?_, ?_, ?_, ?_, ?_, ?_, ?_, h3, h4, hg, ha⟩ <;> rw [hW] <;> simp [valO, go_sem, ek, en, ea]
/-- A new value. -/
theorem val_new {w0 w W : World} {G : Gh} (hG : HG w0 w G) (hb : Below w.heap.size w W) {v : Val} (hv : VAt w0 W G w.heap.size v) : HPost w0 w G W (G.addV w.heap.size v) ∧ (G.addV w.heap.size v).vp (some ⟨w.heap.size, 0, none⟩) v := by
  have hd : ¬ G.dom w.heap.size := fun h => by have := hG.lt h; omega
  refine ⟨⟨Gh.le_addV hd, (hG.below hb).addV hd hv, hb, fun b h => ?_⟩, Gh.vp_addV _ _ _⟩
  rcases Gh.dom_addV h with rfl | h
  · exact .inr (Nat.le_refl _)
  · exact .inl h
def ValPost (w0 w : World) (G : Gh) (v : Val) (e : Ending) (w' : World) : Prop := ∃ p H, e = .returned (.pointer p) ∧ H.vp p v ∧ HPost w0 w G w' H
set_option maxRecDepth 20000 in
set_option maxHeartbeats 1000000 in
theorem accomp_plain (f c : Nat) (k : Int) (hk : (k != 4) = true) (pg pa : Option Addr) (w : World) (h0 : w.cell? ⟨f, 0, none⟩ = some (.int .i64 k)) (c8 : w.cell? ⟨c, 8, none⟩ = some (.pointer pg)) (c9 : w.cell? ⟨c, 9, none⟩ = some (.pointer pa)) :
    Calls Tryz.prog 186 #[.pointer (some ⟨f, 0, none⟩), .pointer (some ⟨c, 0, none⟩)] w fun e w' => e = .returned (.pointer (some ⟨w.heap.size, 0, none⟩)) ∧ (∀ i, w'.cell? ⟨w.heap.size, i, none⟩ = (w.alloc (valO 4 0 none none (some ⟨f, 0, none⟩) pg pa 0)).cell? ⟨w.heap.size, i, none⟩) ∧ Below w.heap.size w w' := by
  have lf : f < w.heap.size := World.block_lt_of_cell? _ _ h0
  have lc : c < w.heap.size := World.block_lt_of_cell? _ _ c8
  go_enter Tryz.func186, Tryz.ntmps186
  go_wp2_with fail
  go_region
  all_goals
    go_wp2_with fail
    go_ret
    exact ⟨rfl, fun _ => rfl, ((Below.refl _ _).alloc (Nat.le_refl _) _).drew⟩
set_option maxRecDepth 20000 in
set_option maxHeartbeats 4000000 in
theorem accomp_chap (f c : Nat) (w0 w : World) (G : Gh) (pi pfg pfa pg pa : Option Addr) (xg xa yg ya : Option Ca) (hG : HG w0 w G) (f0 : w.cell? ⟨f, 0, none⟩ = some (.int .i64 4)) (f4 : w.cell? ⟨f, 4, none⟩ = some (.pointer pi)) (f5 : w.cell? ⟨f, 5, none⟩ = some (.pointer pfg)) (f6 : w.cell? ⟨f, 6, none⟩ = some (.pointer pfa)) (c8 : w.cell? ⟨c, 8, none⟩ = some (.pointer pg)) (c9 : w.cell? ⟨c, 9, none⟩ = some (.pointer pa))
    (hxg : G.cp pg xg) (hyg : G.cp pfg yg) (hya : G.cp pfa ya) (hxa : G.cp pa xa) :
    Calls Tryz.prog 186 #[.pointer (some ⟨f, 0, none⟩), .pointer (some ⟨c, 0, none⟩)] w fun e w' => ∃ (w3 : World) (H : Gh) (p1 p2 : Option Addr), e = .returned (.pointer (some ⟨w3.heap.size, 0, none⟩)) ∧ HPost w0 w G w3 H ∧ H.cp p1 (thenC xg yg) ∧ H.cp p2 (thenC ya xa) ∧ (∀ i, w'.cell? ⟨w3.heap.size, i, none⟩ = (w3.alloc (valO 4 0 none none pi p1 p2 0)).cell? ⟨w3.heap.size, i, none⟩) ∧ Below w3.heap.size w3 w' := by
  have lf : f < w.heap.size := World.block_lt_of_cell? _ _ f0
  have lc : c < w.heap.size := World.block_lt_of_cell? _ _ c8
  have HK : Hid (∀ w' : World, Below w.heap.size w w' → (w'.cell? ⟨f, 4, none⟩ = some (.pointer pi) ∧ w'.cell? ⟨f, 5, none⟩ = some (.pointer pfg) ∧ w'.cell? ⟨f, 6, none⟩ = some (.pointer pfa) ∧ w'.cell? ⟨c, 8, none⟩ = some (.pointer pg) ∧ w'.cell? ⟨c, 9, none⟩ = some (.pointer pa))) := fun w' h => ⟨cell_later h f4, cell_later h f5, cell_later h f6, cell_later h c8, cell_later h c9⟩
  have H0 : Hid (Calls Tryz.prog 201 #[.pointer pg, .pointer pfg] w.drew (ThenPost w0 w.drew G xg yg)) := then_all (hG.below ((Below.refl _ _).drew)) hxg hyg
  have H1 : Hid (∀ W H, G.le H → HG w0 W H → Calls Tryz.prog 201 #[.pointer pfa, .pointer pa] W (ThenPost w0 W H ya xa)) := fun W H hl hW => then_all hW (hya.le hl) (hxa.le hl)
  have hbn : Below w.heap.size w w.drew := (Below.refl _ _).drew
  clear hxg hyg hya hxa
  go_enter Tryz.func186, Tryz.ntmps186
  go_wp2_with fail
  clear f4 f5 f6 c8 c9
  go_region_held3 (fun w' => w'.cell? ⟨f, 4, none⟩ = some (.pointer pi) ∧ w'.cell? ⟨f, 5, none⟩ = some (.pointer pfg) ∧ w'.cell? ⟨f, 6, none⟩ = some (.pointer pfa) ∧ w'.cell? ⟨c, 8, none⟩ = some (.pointer pg) ∧ w'.cell? ⟨c, 9, none⟩ = some (.pointer pa))
    (first
      | exact HK.out _ hbn
      | exact HK.out _ (hbn.alloc (by have := hbn.size; omega) _)
      | go_keep)
    (first
      | (go_at_call 201; refine H0.out.mono ?_; rintro e w2 ⟨p1, H2, rfl, hcp1, hp1⟩; replace hbn := hbn.trans (hp1.bel.mono hbn.size); clear H0)
      | (go_at_call 201; refine (H1.out _ H2 hp1.le hp1.hg).mono ?_; rintro e w3 ⟨p2, H3, rfl, hcp2, hp2⟩; replace hbn := hbn.trans (hp2.bel.mono hbn.size); clear H1))
  go_wp2_with fail
  go_ret
  have hs : HPost w0 w G w3 H3 := (HPost.below hG ((Below.refl _ _).drew)).trans (hp1.trans hp2)
  exact ⟨w3, H3, p1, p2, rfl, hs, hcp1.le hp2.le, hcp2, fun _ => rfl, (Below.refl _ _).alloc (Nat.le_refl _) _⟩
/-- accompanied. -/
theorem accomp_any {w0 w : World} {G : Gh} (hG : HG w0 w G) {p q : Option Addr} {f : Val} {c : Ca} (hf : G.vp p f) (hc : G.cp q (some c)) : Calls Tryz.prog 186 #[.pointer p, .pointer q] w (ValPost w0 w G (accompV f c)) := by
  obtain ⟨b, rfl, hb⟩ := hf
  rcases hc with ⟨_, h⟩ | ⟨x, y, rfl, e, hx⟩
  · cases h
  cases e
  obtain ⟨pb, ps, pi, pg, pa, h0, h1, h2, h3, h4, h5, h6, h7, a1, a2, a3, a4⟩ := hG.v b f hb
  obtain ⟨qg, qa, hC, cg, ca⟩ := hG.c x c hx
  by_cases hk : f.k = 4
  · rw [hk] at h0
    obtain ⟨u, hi, hu⟩ := a2 (.inl hk)
    have hcore : f.core = u := by unfold Val.core; rw [hi]; rfl
    refine (accomp_chap b x w0 w G pi pg pa qg qa c.given c.answer f.given f.answer hG h0 h4 h5 h6 hC.c8 hC.c9 cg a3 a4 ca).mono ?_
    rintro e w' ⟨w3, H, p1, p2, rfl, hp, c1, c2, hcell, hb3⟩
    have e1 : accompV f c = chapV u (thenC c.given f.given) (thenC f.answer c.answer) := by unfold accompV; rw [if_pos hk, hcore]
    have hv : VAt w0 w' H w3.heap.size (accompV f c) := by
      rw [e1]
      exact valO_at hcell rfl rfl rfl (fun h => by simp [chapV] at h) (fun _ => ⟨u, rfl, hu.le hp.le⟩) c1 c2
    obtain ⟨r1, r2⟩ := val_new hp.hg hb3 hv
    exact ⟨_, _, rfl, r2, hp.trans r1⟩
  · refine (accomp_plain b x f.k (by simpa using hk) qg qa w h0 hC.c8 hC.c9).mono ?_
    rintro e w' ⟨rfl, hcell, hbb⟩
    have e1 : accompV f c = chapV f c.given c.answer := by unfold accompV; rw [if_neg hk]
    have hv : VAt w0 w' G w.heap.size (accompV f c) := by
      rw [e1]
      exact valO_at hcell rfl rfl rfl (fun h => by simp [chapV] at h) (fun _ => ⟨f, rfl, b, rfl, hb⟩) cg ca
    obtain ⟨r1, r2⟩ := val_new hG hbb hv
    exact ⟨_, _, rfl, r2, r1⟩
set_option maxRecDepth 20000 in
set_option maxHeartbeats 4000000 in
theorem of_walk (c : Nat) (op hi : Bool) (kind : Int) (pg pa p p1 : Option Addr) (w : World) (c0 : w.cell? ⟨c, 0, none⟩ = some (.bool op)) (c4 : w.cell? ⟨c, 4, none⟩ = some (.int .i64 kind)) (c8 : w.cell? ⟨c, 8, none⟩ = some (.pointer pg)) (c9 : w.cell? ⟨c, 9, none⟩ = some (.pointer pa)) (c10 : w.cell? ⟨c, 10, none⟩ = some (.bool hi))
    (hop : op = true → ∃ b, p = some ⟨b, 0, none⟩ ∧ w.cell? ⟨b, 4, none⟩ = some (.pointer p1)) (hnop : op = false → p1 = p) (Z : Option Addr → World → Prop) (hz : pg.isSome = false → pa.isSome = false → Z p1 w) (hc : pg.isSome = true ∨ pa.isSome = true → Calls Tryz.prog 186 #[.pointer p1, .pointer (some ⟨c, 0, none⟩)] w fun e w' => ∃ q, e = .returned (.pointer q) ∧ Z q w' ∧ Below w.heap.size w w') :
    Calls Tryz.prog 158 #[.pointer (some ⟨c, 0, none⟩), .pointer p] w fun e w' => ∃ q W, Z q W ∧ ((hi = false ∧ e = .returned (.pointer q) ∧ w' = W) ∨ (hi = true ∧ e = .returned (.pointer (some ⟨W.heap.size, 0, none⟩)) ∧ w' = W.alloc (valO 5 0 none none q none none kind))) := by
  have lc : c < w.heap.size := World.block_lt_of_cell? _ _ c0
  have HZ : Hid (pg.isSome = false → pa.isSome = false → Z p1 w) := hz
  have HC : Hid (pg.isSome = true ∨ pa.isSome = true → Calls Tryz.prog 186 #[.pointer p1, .pointer (some ⟨c, 0, none⟩)] w fun e w' => ∃ q, e = .returned (.pointer q) ∧ Z q w' ∧ Below w.heap.size w w') := hc
  clear hz hc
  cases op
  · have e := hnop rfl
    subst e
    clear hop hnop
    cases pg with
    | none =>
      cases pa with
      | none =>
        cases hi <;> (go_enter Tryz.func158, Tryz.ntmps158; go_wp2_with fail; go_ret)
        · exact ⟨p1, w, HZ.out rfl rfl, .inl ⟨by trivial, rfl, rfl⟩⟩
        · exact ⟨p1, w, HZ.out rfl rfl, .inr ⟨by trivial, rfl, rfl⟩⟩
      | some a =>
        cases hi
        all_goals
          go_enter Tryz.func158, Tryz.ntmps158
          go_wp2_with fail
          refine (HC.out (.inr rfl)).mono ?_
          rintro e w2 ⟨q, rfl, hZ, hb⟩
          have d4 := cell_later hb c4
          have d10 := cell_later hb c10
          have lc2 : c < w2.heap.size := Nat.lt_of_lt_of_le lc hb.size
          have HZ2 : Hid (Z q w2) := hZ
          clear hZ
          go_wp2_with fail
          go_ret
        · exact ⟨q, w2, HZ2.out, .inl ⟨by trivial, rfl, rfl⟩⟩
        · exact ⟨q, w2, HZ2.out, .inr ⟨by trivial, rfl, rfl⟩⟩
    | some g =>
      cases hi
      all_goals
        go_enter Tryz.func158, Tryz.ntmps158
        go_wp2_with fail
        refine (HC.out (.inl rfl)).mono ?_
        rintro e w2 ⟨q, rfl, hZ, hb⟩
        have d4 := cell_later hb c4
        have d10 := cell_later hb c10
        have lc2 : c < w2.heap.size := Nat.lt_of_lt_of_le lc hb.size
        have HZ2 : Hid (Z q w2) := hZ
        clear hZ
        go_wp2_with fail
        go_ret
      · exact ⟨q, w2, HZ2.out, .inl ⟨by trivial, rfl, rfl⟩⟩
      · exact ⟨q, w2, HZ2.out, .inr ⟨by trivial, rfl, rfl⟩⟩
  · obtain ⟨b, rfl, b4⟩ := hop rfl
    have lb : b < w.heap.size := World.block_lt_of_cell? _ _ b4
    clear hop hnop
    cases pg with
    | none =>
      cases pa with
      | none =>
        cases hi <;> (go_enter Tryz.func158, Tryz.ntmps158; go_wp2_with fail; go_ret)
        · exact ⟨p1, w, HZ.out rfl rfl, .inl ⟨by trivial, rfl, rfl⟩⟩
        · exact ⟨p1, w, HZ.out rfl rfl, .inr ⟨by trivial, rfl, rfl⟩⟩
      | some a =>
        cases hi
        all_goals
          go_enter Tryz.func158, Tryz.ntmps158
          go_wp2_with fail
          refine (HC.out (.inr rfl)).mono ?_
          rintro e w2 ⟨q, rfl, hZ, hb⟩
          have d4 := cell_later hb c4
          have d10 := cell_later hb c10
          have lc2 : c < w2.heap.size := Nat.lt_of_lt_of_le lc hb.size
          have HZ2 : Hid (Z q w2) := hZ
          clear hZ
          go_wp2_with fail
          go_ret
        · exact ⟨q, w2, HZ2.out, .inl ⟨by trivial, rfl, rfl⟩⟩
        · exact ⟨q, w2, HZ2.out, .inr ⟨by trivial, rfl, rfl⟩⟩
    | some g =>
      cases hi
      all_goals
        go_enter Tryz.func158, Tryz.ntmps158
        go_wp2_with fail
        refine (HC.out (.inl rfl)).mono ?_
        rintro e w2 ⟨q, rfl, hZ, hb⟩
        have d4 := cell_later hb c4
        have d10 := cell_later hb c10
        have lc2 : c < w2.heap.size := Nat.lt_of_lt_of_le lc hb.size
        have HZ2 : Hid (Z q w2) := hZ
        clear hZ
        go_wp2_with fail
        go_ret
      · exact ⟨q, w2, HZ2.out, .inl ⟨by trivial, rfl, rfl⟩⟩
      · exact ⟨q, w2, HZ2.out, .inr ⟨by trivial, rfl, rfl⟩⟩
theorem cp_some {G : Gh} {p : Option Addr} {c : Option Ca} (h : G.cp p c) : p.isSome = c.isSome := by
  rcases h with ⟨rfl, rfl⟩ | ⟨b, x, rfl, rfl, _⟩ <;> rfl
/-- of. -/
theorem of_any {w0 w : World} {G : Gh} (hG : HG w0 w G) {p q : Option Addr} {v : Val} {c : Ca} (hv : G.vp p v) (hc : G.cp q (some c)) (ho : c.opens = true → v.k = 5) : Calls Tryz.prog 158 #[.pointer q, .pointer p] w (ValPost w0 w G (ofC c v)) := by
  rcases hc with ⟨_, h⟩ | ⟨x, y, rfl, e, hx⟩
  · cases h
  cases e
  obtain ⟨qg, qa, hC, cg, ca⟩ := hG.c x c hx
  obtain ⟨b, rfl, hb⟩ := hv
  obtain ⟨pb, ps, pi, pg, pa, h0, h1, h2, h3, h4, h5, h6, h7, a1, a2, a3, a4⟩ := hG.v b v hb
  obtain ⟨p1, hp1, hop, hnop⟩ : ∃ p1, G.vp p1 (if c.opens = true then v.core else v) ∧ (c.opens = true → ∃ b', (some ⟨b, 0, none⟩ : Option Addr) = some ⟨b', 0, none⟩ ∧ w.cell? ⟨b', 4, none⟩ = some (.pointer p1)) ∧ (c.opens = false → p1 = some ⟨b, 0, none⟩) := by
    by_cases hop : c.opens = true
    · obtain ⟨u, hi, hu⟩ := a2 (.inr (ho hop))
      have hcore : v.core = u := by unfold Val.core; rw [hi]; rfl
      exact ⟨pi, by rw [if_pos hop, hcore]; exact hu, fun _ => ⟨b, rfl, h4⟩, fun h => by rw [hop] at h; cases h⟩
    · exact ⟨some ⟨b, 0, none⟩, by rw [if_neg hop]; exact ⟨b, rfl, hb⟩, fun h => absurd h hop, fun _ => rfl⟩
  obtain ⟨u, hu⟩ : ∃ u, u = if c.opens = true then v.core else v := ⟨_, rfl⟩
  rw [← hu] at hp1
  obtain ⟨z, hz⟩ : ∃ z, z = if c.given.isSome = true ∨ c.answer.isSome = true then accompV u c else u := ⟨_, rfl⟩
  have e1 : ofC c v = if c.hides = true then knownV z c.kind else z := by
    unfold ofC
    simp only
    rw [← hu, ← hz]
  rw [e1]
  have gg := cp_some cg
  have ga := cp_some ca
  refine (of_walk x c.opens c.hides c.kind qg qa (some ⟨b, 0, none⟩) p1 w hC.c0 hC.c4 hC.c8 hC.c9 hC.c10 hop hnop (fun q W => ∃ H, H.vp q z ∧ HPost w0 w G W H) (fun n1 n2 => ⟨G, ?_, HPost.refl hG⟩) (fun hs => ?_)).mono ?_
  · rw [hz, if_neg (by rw [← gg, ← ga, n1, n2]; simp)]; exact hp1
  · refine (accomp_any hG hp1 (.inr ⟨x, c, rfl, rfl, hx⟩)).mono ?_
    rintro e w' ⟨q, H, rfl, hq, hp⟩
    exact ⟨q, rfl, ⟨H, by rw [hz, if_pos (by rw [← gg, ← ga]; exact hs)]; exact hq, hp⟩, hp.bel⟩
  · rintro e w' ⟨q, W, ⟨H, hq, hp⟩, ⟨hh, rfl, rfl⟩ | ⟨hh, rfl, rfl⟩⟩
    · exact ⟨q, H, rfl, by rw [hh]; exact hq, hp⟩
    · have hb : Below W.heap.size W (W.alloc (valO 5 0 none none q none none c.kind)) := (Below.refl _ _).alloc (Nat.le_refl _) _
      have hvv : VAt w0 (W.alloc (valO 5 0 none none q none none c.kind)) H W.heap.size (knownV z c.kind) := valO_at (fun _ => rfl) rfl rfl rfl (fun h => by simp [knownV] at h) (fun _ => ⟨z, rfl, hq⟩) (Gh.cp_none _) (Gh.cp_none _)
      obtain ⟨r1, r2⟩ := val_new hp.hg hb hvv
      exact ⟨_, _, rfl, by rw [if_pos hh]; exact r2, hp.trans r1⟩
end Go.Proofs.YtnddkmccagiclabGreatDoor
