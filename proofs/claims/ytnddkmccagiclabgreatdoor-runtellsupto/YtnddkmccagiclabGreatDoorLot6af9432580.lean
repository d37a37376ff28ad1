/-
  What check's read and readAll are to answer; rows of readings that a call makes longer; no program's run in it.
-/
import Derived.Test.YtnddkmccagiclabGreatDoorLoted756f28d3
import Derived.Test.YtnddkmccagiclabGreatDoorLot2ebbd2cd4c
import Derived.Deep.LoopGhost
import Derived.Deep.AppendLies
import Derived.Test.YtnddkmccagiclabGreatDoorLot59e900709f
import Derived.Deep.RegionHeld3
namespace Go.Proofs.YtnddkmccagiclabGreatDoor
open Go.RowKit
/-- The counter. -/
structure CS (R c : Nat) (w : World) : Prop where
  c : w.cell? ⟨R, 0, none⟩ = some (.int .i64 (c : Int))
  f : w.frozen? ⟨R, 0, none⟩ = false
theorem CS.lt {R c : Nat} {w : World} (h : CS R c w) : R < w.heap.size := World.block_lt_of_cell? _ _ h.c
theorem CS.below {R c : Nat} {w w' : World} (h : CS R c w) (hb : Below w.heap.size w w') : CS R c w' :=
  ⟨cell_later hb h.c, (hb.frozen (p := ⟨R, 0, none⟩) h.lt).trans h.f⟩
/-- What read answers. -/
def RdPost (Q : Nat → Prop) (R : Nat) (x : TT) (c : Nat) (takes : List Ty) (w : World) (e : Ending) (w' : World) : Prop :=
  Kept R none w w' ∧ ((readS x.tm takes c = none ∧ e = .returned (.tuple #[.agg #[.int .i64 0, .int .i64 0, .int .i64 0, .int .i64 0, .slice none 0 0, .int .i64 0, .slice none 0 0, .slice none 0 0, .int .i64 0, .slice none 0 0], .bool false])) ∨
    ∃ r : Rd, readS x.tm takes c = some (r.y.tm, r.i.ty) ∧ e = .returned (.tuple #[.agg #[.int .i64 r.n, .int .i64 r.y.k, .int .i64 r.y.n, .int .i64 r.y.t.k, .slice r.y.t.a r.y.t.l.length r.y.t.c, .int .i64 r.y.f.k, .slice r.y.f.a r.y.f.l.length r.y.f.c, .slice r.y.a r.y.l.length r.y.c, .int .i64 r.i.k, .slice r.i.a r.i.l.length r.i.c], .bool true]) ∧
      r.n = (c : Int) ∧ r.y.In w' ∧ r.i.In w' ∧ r.y.Bl Q ∧ r.i.Bl Q ∧ CS R (c + x.sz) w')
/-- What it asks. -/
structure RdPre (Q : Nat → Prop) (R : Nat) (x : TT) (c : Nat) (T : Tr) (w : World) : Prop where
  ok : okTm x.tm T.l.length
  tk : ∀ t, t ∈ T.l → goodT 4 t = true
  rm : c + x.sz ≤ 900 ∧ T.l.length + x.sz ≤ 900
  xi : x.In w
  ti : T.In w
  cs : CS R c w
  xb : x.Bl Q
  tb : T.Bl Q
  nw : ∀ b, w.heap.size ≤ b → Q b
  ne : ∀ b, Q b → b ≠ R
def tri (r : Rd) : Nat × Tm × Ty := (r.n.toNat, r.y.tm, r.i.ty)
theorem readL_append (takes : List Ty) : ∀ (l m : List Tm) (c : Nat), readL (l ++ m) takes c = (readL l takes c).bind fun ps => (readL m takes (c + (l.map Tm.sz).sum)).bind fun qs => some (ps ++ qs)
  | [], m, c => by
    simp only [List.nil_append, readL, Option.bind_some, List.map_nil, List.sum_nil, Nat.add_zero]
    cases readL m takes c <;> rfl
  | x :: r, m, c => by
    simp only [List.cons_append, readL, readL_append takes r m, List.map_cons, List.sum_cons, Nat.add_assoc]
    cases readS x takes c with
    | none => rfl
    | some p =>
      simp only [Option.bind_some]
      cases readL r takes (c + x.sz) with
      | none => rfl
      | some q =>
        simp only [Option.bind_some]
        cases readL m takes (c + (x.sz + (r.map Tm.sz).sum)) <;> rfl
theorem readL_snoc {takes : List Ty} {l : List Tm} {c : Nat} {ps : List (Nat × Tm × Ty)} {x y : Tm} {i : Ty} (h : readL l takes c = some ps) (hx : readS x takes (c + (l.map Tm.sz).sum) = some (y, i)) : readL (l ++ [x]) takes c = some (ps ++ [(c + (l.map Tm.sz).sum, y, i)]) := by
  rw [readL_append, h]
  simp [readL, hx]
theorem readL_stop {takes : List Ty} {l : List Tm} {c : Nat} {x : Tm} {m : List Tm} (hx : readS x takes (c + (l.map Tm.sz).sum) = none) : readL (l ++ x :: m) takes c = none := by
  rw [readL_append]
  cases readL l takes c with
  | none => rfl
  | some ps => simp [readL, hx]
/-! ### Rows of readings -/
def cell10 (r : Rd) : List Value := [.int .i64 r.n, .int .i64 r.y.k, .int .i64 r.y.n, .int .i64 r.y.t.k, .slice r.y.t.a r.y.t.l.length r.y.t.c, .int .i64 r.y.f.k, .slice r.y.f.a r.y.f.l.length r.y.f.c, .slice r.y.a r.y.l.length r.y.c, .int .i64 r.i.k, .slice r.i.a r.i.l.length r.i.c]
def cells10 (rs : List Rd) : List Value := rs.flatMap cell10
theorem cells10_append (a b : List Rd) : cells10 (a ++ b) = cells10 a ++ cells10 b := by simp [cells10]
theorem cells10_one (r : Rd) : cells10 [r] = cell10 r := by simp [cells10]
theorem cells10_at : ∀ (l : List Rd) (j : Nat) (h : j < l.length) (i : Nat), i < 10 → (cells10 l)[j * 10 + i]? = (cell10 l[j])[i]?
  | [], j, h, _, _ => by simp at h
  | x :: r, 0, _, i, hi => by
    have : cells10 (x :: r) = cell10 x ++ cells10 r := by simp [cells10]
    rw [this, List.getElem?_append_left (by simp [cell10]; omega)]
    simp
  | x :: r, j + 1, h, i, hi => by
    have ih := cells10_at r j (by simpa using h) i hi
    have e : cells10 (x :: r) = cell10 x ++ cells10 r := by simp [cells10]
    rw [e, List.getElem?_append_right (by simp [cell10]; omega)]
    have : (j + 1) * 10 + i - (cell10 x).length = j * 10 + i := by simp [cell10]; omega
    rw [this]
    simpa using ih
structure RowR (Q : Nat → Prop) (base : Nat) (v : Value) (rs : List Rd) (w : World) : Prop where
  own : w.ownsRow base 64 10 v rs.length (cells10 rs)
  ins : ∀ r, r ∈ rs → r.y.In w ∧ r.i.In w ∧ r.y.Bl (fun b => Q b ∧ some b ≠ v.ownBlock) ∧ r.i.Bl (fun b => Q b ∧ some b ≠ v.ownBlock)
theorem RowR.nil (Q : Nat → Prop) (base : Nat) (w : World) : RowR Q base (.slice none 0 0) [] w := ⟨World.ownsRow_nil _ _ _ _, fun c h => by cases h⟩
theorem RowR.kept {Q : Nat → Prop} {base R : Nat} {v : Value} {rs : List Rd} {w w' : World} (h : RowR Q base v rs w) (hk : Kept R none w w') (hR : R < base) (hQ : ∀ b, Q b → b ≠ R) : RowR Q base v rs w' := by
  refine ⟨⟨h.own.1, ?_⟩, fun c hc => ?_⟩
  · rcases h.own.2 with hn | ⟨g, cap, cur, hv, hb, hg, rest⟩
    · exact .inl hn
    · exact .inr ⟨g, cap, cur, hv, hb, (hk.block g (Array.getElem?_eq_some_iff.1 hg).1 (by omega) (by simp)).trans hg, rest⟩
  · obtain ⟨h1, h2, h3, h4⟩ := h.ins c hc
    exact ⟨h1.keptR hk (h3.mono fun b hb => hQ b hb.1), h2.keptR hk (h4.mono fun b hb => hQ b hb.1), h3, h4⟩
theorem RowR.below {Q : Nat → Prop} {base : Nat} {v : Value} {rs : List Rd} {w w' : World} (h : RowR Q base v rs w) (hb : Below w.heap.size w w') : RowR Q base v rs w' := by
  refine ⟨⟨h.own.1, ?_⟩, fun c hc => ⟨(h.ins c hc).1.below hb, (h.ins c hc).2.1.below hb, (h.ins c hc).2.2⟩⟩
  rcases h.own.2 with hn | ⟨g, cap, cur, hv, hb', hg, rest⟩
  · exact .inl hn
  · exact .inr ⟨g, cap, cur, hv, hb', (hb.block g (Array.getElem?_eq_some_iff.1 hg).1).trans hg, rest⟩
theorem RowR.lt {Q : Nat → Prop} {base : Nat} {v : Value} {rs : List Rd} {w : World} (h : RowR Q base v rs w) (k : Nat) (hk : v.ownBlock = some k) : base ≤ k ∧ k < w.heap.size := h.own.lt k hk
/-- One more. -/
theorem RowR.step {Q : Nat → Prop} {base : Nat} {v : Value} {rs : List Rd} {w2 w3 : World} {r : Rd} {gg cap1 : Nat} {X : Obj} (h : RowR Q base v rs w2) (yi : r.y.In w2) (ii : r.i.In w2) (yb : r.y.Bl (fun b => Q b ∧ some b ≠ v.ownBlock)) (ib : r.i.Bl (fun b => Q b ∧ some b ≠ v.ownBlock))
    (hown : w3.ownsRow base 64 10 (.slice (some ⟨gg, 0, none⟩) (rs.length + 1) cap1) (rs.length + 1) (cells10 rs ++ cells10 [r])) (hgrow : (w2.alloc X).grownBy w3 v.ownBlock) (hat : v.ownBlock = some gg ∨ gg = w2.heap.size + 1) :
    RowR Q base (.slice (some ⟨gg, 0, none⟩) (rs.length + 1) cap1) (rs ++ [r]) w3 ∧ ∀ k, k < w2.heap.size → some k ≠ v.ownBlock → w3.heap[k]? = w2.heap[k]? := by
  have hblk : ∀ k, k < w2.heap.size → some k ≠ v.ownBlock → w3.heap[k]? = w2.heap[k]? := fun k hk hn => by
    rw [hgrow.block k (by simp; omega) hn]
    exact ((Below.refl _ w2).alloc (Nat.le_refl _) X).block k hk
  refine ⟨⟨by rw [cells10_append, List.length_append, List.length_singleton]; exact hown, fun d hd => ?_⟩, hblk⟩
  have key : d.y.In w2 ∧ d.i.In w2 ∧ d.y.Bl (fun b => Q b ∧ some b ≠ v.ownBlock) ∧ d.i.Bl (fun b => Q b ∧ some b ≠ v.ownBlock) := by
    rcases List.mem_append.1 hd with hd | hd
    · exact h.ins d hd
    · rcases List.mem_singleton.1 hd with rfl
      exact ⟨yi, ii, yb, ib⟩
  have hne : ∀ b, b < w2.heap.size ∧ (Q b ∧ some b ≠ v.ownBlock) → Q b ∧ some b ≠ (Value.slice (some ⟨gg, 0, none⟩) (rs.length + 1) cap1).ownBlock := by
    intro b hb
    refine ⟨hb.2.1, ?_⟩
    show some b ≠ some gg
    rcases hat with e | e
    · rw [← e]; exact hb.2.2
    · simp only [ne_eq, Option.some.injEq]; omega
  have hsame : ∀ b, b < w2.heap.size ∧ (Q b ∧ some b ≠ v.ownBlock) → ∀ i, w3.cell? ⟨b, i, none⟩ = w2.cell? ⟨b, i, none⟩ := fun b hb i =>
    World.cell?_of_block (a := ⟨b, i, none⟩) (hblk b hb.1 hb.2.2)
  have y3 := key.1.bl.and key.2.2.1
  have i3 := key.2.1.bl.and key.2.2.2
  exact ⟨key.1.congr (P := fun b => b < w2.heap.size ∧ (Q b ∧ some b ≠ v.ownBlock)) hsame y3, key.2.1.congr (P := fun b => b < w2.heap.size ∧ (Q b ∧ some b ≠ v.ownBlock)) hsame i3, y3.mono hne, i3.mono hne⟩
/-- A row that the call owns is a row of readings. -/
theorem RowR.list {Q : Nat → Prop} {base : Nat} {v : Value} {rs : List Rd} {w : World} (h : RowR Q base v rs w) : ∃ a c, v = .slice a rs.length c ∧ RL w a rs := by
  rcases h.own.2 with ⟨rfl, h0⟩ | ⟨g, cap, cur, rfl, hg, _⟩
  · have : rs = [] := List.length_eq_zero_iff.1 h0
    subst this
    exact ⟨none, 0, rfl, fun j hj => absurd hj (by simp)⟩
  · refine ⟨_, _, rfl, fun j hj => ⟨g, 0, rfl, ?_, (h.ins _ (List.getElem_mem hj)).1, (h.ins _ (List.getElem_mem hj)).2.1⟩⟩
    have hc : ∀ i, i < 10 → w.cell? ⟨g, 0 + j * 10 + i, none⟩ = _ := fun i hi => by rw [Nat.zero_add, h.own.cellAt (j * 10 + i) (by omega), cells10_at rs j hj i hi]
    exact ⟨hc 0 (by omega), ⟨hc 1 (by omega), hc 2 (by omega), hc 3 (by omega), hc 4 (by omega), hc 5 (by omega), hc 6 (by omega), hc 7 (by omega)⟩, hc 8 (by omega), hc 9 (by omega)⟩
/-- What readAll answers. -/
def RaPost (Q : Nat → Prop) (R : Nat) (l : List TT) (c : Nat) (takes : List Ty) (w : World) (e : Ending) (w' : World) : Prop :=
  Kept R none w w' ∧ ((readL (l.map TT.tm) takes c = none ∧ e = .returned (.tuple #[.slice none 0 0, .bool false])) ∨
    ∃ (rs : List Rd) (a : Option Addr) (cap : Nat), readL (l.map TT.tm) takes c = some (rs.map tri) ∧ e = .returned (.tuple #[.slice a rs.length cap, .bool true]) ∧ (∀ r, r ∈ rs → 0 ≤ r.n) ∧ RL w' a rs ∧ (∀ r, r ∈ rs → r.y.Bl Q ∧ r.i.Bl Q) ∧ CS R (c + (l.map TT.sz).sum) w')
end Go.Proofs.YtnddkmccagiclabGreatDoor

/-
  What the call of check's readAll answers, if read answers as it should at each part.
-/
namespace Go.Proofs.YtnddkmccagiclabGreatDoor
open Go.RowKit
theorem Tryz.info64 : (Tryz.prog.info? 64).map (fun i => (i.zero, i.size, i.bytes)) = some (some (.agg #[.int .i64 0, .int .i64 0, .int .i64 0, .int .i64 0, .slice none 0 0, .int .i64 0, .slice none 0 0, .slice none 0 0, .int .i64 0, .slice none 0 0]), 10, 144) := by kernel_rfl
/-- While the parts are read. -/
structure RaInv (Q : Nat → Prop) (R : Nat) (x : TT) (c : Nat) (T : Tr) (w : World) (j : Nat) (v : Value) (rs : List Rd) (wr : World) : Prop where
  kp : Kept R none w wr
  row : RowR Q w.heap.size v rs wr
  len : rs.length = j
  nn : ∀ r, r ∈ rs → 0 ≤ r.n
  rd : readL ((x.l.take j).map TT.tm) (T.l.map Tr.ty) c = some (rs.map tri)
  cs : CS R (c + ((x.l.take j).map TT.sz).sum) wr
theorem sz_map (l : List TT) : (l.map TT.tm).map Tm.sz = l.map TT.sz := by
  rw [List.map_map]
  exact List.map_congr_left fun x _ => x.sz_tm.symm
theorem take_snoc {α : Type} (l : List α) (j : Nat) (h : j < l.length) : l.take (j + 1) = l.take j ++ [l[j]] := by
  rw [List.take_add_one, List.getElem?_eq_getElem h]
  rfl
set_option maxRecDepth 20000 in
set_option maxHeartbeats 8000000 in
theorem readAll_any (Q : Nat → Prop) (R : Nat) (x : TT) (c : Nat) (T : Tr) (w : World)
    (HRD : ∀ y, y ∈ x.l → ∀ (Q' : Nat → Prop) (c' : Nat) (W : World), RdPre Q' R y c' T W → Calls Tryz.prog 41 #[.pointer (some ⟨R, 0, none⟩), .agg #[.int .i64 y.k, .int .i64 y.n, .int .i64 y.t.k, .slice y.t.a y.t.l.length y.t.c, .int .i64 y.f.k, .slice y.f.a y.f.l.length y.f.c, .slice y.a y.l.length y.c], .slice T.a T.l.length T.c] W (RdPost Q' R y c' (T.l.map Tr.ty) W))
    (hok : ∀ y, y ∈ x.l → okTm y.tm T.l.length) (htk : ∀ t, t ∈ T.l → goodT 4 t = true) (hrm : c + (x.l.map TT.sz).sum ≤ 900 ∧ T.l.length + (x.l.map TT.sz).sum ≤ 900) (xi : x.In w) (ti : T.In w) (hcs : CS R c w) (xb : x.Bl Q) (tb : T.Bl Q) (nw : ∀ b, w.heap.size ≤ b → Q b) (ne : ∀ b, Q b → b ≠ R) :
    Calls Tryz.prog 66 #[.pointer (some ⟨R, 0, none⟩), .slice x.a x.l.length x.c, .slice T.a T.l.length T.c] w (RaPost Q R x.l c (T.l.map Tr.ty) w) := by
  obtain ⟨i0, hi0, hz0, hz1, hz2⟩ := info_parts Tryz.info64
  have hxl : x.l.length ≤ 1000 := by
    have : x.l.length ≤ (x.l.map TT.sz).sum := by
      have : ∀ l : List TT, l.length ≤ (l.map TT.sz).sum := fun l => by
        induction l with
        | nil => simp
        | cons u r ih => have := u.sz_pos; simp only [List.length_cons, List.map_cons, List.sum_cons]; omega
      exact this _
    omega
  have hRl : R < w.heap.size := hcs.lt
  have HP : Hid ((∀ y, y ∈ x.l → okTm y.tm T.l.length) ∧ (∀ t, t ∈ T.l → goodT 4 t = true) ∧ (c + (x.l.map TT.sz).sum ≤ 900 ∧ T.l.length + (x.l.map TT.sz).sum ≤ 900) ∧ x.Bl Q ∧ T.Bl Q ∧ (∀ b, w.heap.size ≤ b → Q b) ∧ (∀ b, Q b → b ≠ R)) := ⟨hok, htk, hrm, xb, tb, nw, ne⟩
  have HX : Hid (x.In w ∧ T.In w) := ⟨xi, ti⟩
  have HRD' : Hid (∀ y, y ∈ x.l → ∀ (Q' : Nat → Prop) (c' : Nat) (W : World), RdPre Q' R y c' T W → Calls Tryz.prog 41 #[.pointer (some ⟨R, 0, none⟩), .agg #[.int .i64 y.k, .int .i64 y.n, .int .i64 y.t.k, .slice y.t.a y.t.l.length y.t.c, .int .i64 y.f.k, .slice y.f.a y.f.l.length y.f.c, .slice y.a y.l.length y.c], .slice T.a T.l.length T.c] W (RdPost Q' R y c' (T.l.map Tr.ty) W)) := HRD
  have HL0 : Hid (RaInv Q R x c T w 0 (.slice none 0 0) [] w) := ⟨Kept.refl, RowR.nil _ _ _, rfl, fun r h => (by cases h), by simp [readL], by simpa using hcs⟩
  clear hok htk hrm xi ti hcs xb tb nw ne HRD
  go_enter Tryz.func66, Tryz.ntmps66
  go_wp2_with fail
  go_loopg [8, 15] x.l.length (fun g v i wr => ∃ (j : Nat) (u : Value) (rs : List Rd), g + j = x.l.length ∧ i = .int .i64 (j : Int) ∧ u = v ∧ Hid (RaInv Q R x c T w j u rs wr))
  case atStart => exact ⟨0, _, [], by omega, rfl, rfl, HL0⟩
  case round =>
    obtain ⟨j, v, rs, hj, rfl, hv, HQ⟩ := hrel
    subst hv
    clear HL0
    by_cases hlt : j < x.l.length
    · obtain ⟨b, o, ea, h7, hyi0⟩ := HX.out.1.part j hlt
      have hk := HQ.out.kp
      have hbR : b ≠ R := HP.out.2.2.2.2.2.2 b (HP.out.2.2.2.1.own (fun e => by rw [e] at hlt; simp at hlt) _ ea)
      have h7' := h7.keptR hk hbR
      have hym : x.l[j] ∈ x.l := List.getElem_mem hlt
      obtain ⟨y, hye⟩ : ∃ y, x.l[j] = y := ⟨_, rfl⟩
      have hyb := HP.out.2.2.2.1.mem hym
      have hyi : y.In wr := by rw [← hye]; exact hyi0.keptR hk (hyb.mono HP.out.2.2.2.2.2.2)
      have hTi : T.In wr := HX.out.2.keptR hk (HP.out.2.2.2.2.1.mono HP.out.2.2.2.2.2.2)
      have hyl : y.Bl (· < w.heap.size) := by rw [← hye]; exact hyi0.bl
      have hTl : T.Bl (· < w.heap.size) := HX.out.2.bl
      rw [hye] at h7' hym hyb
      obtain ⟨d0, d1, d2, d3, d4, d5, d6⟩ := h7'
      have i1 : (j : Int) < (x.l.length : Int) := by omega
      have i0' : (0 : Int) ≤ (j : Int) := by omega
      have HEA : Hid (x.a = some ⟨b, o, none⟩) := ea
      rw [ea]
      obtain ⟨OX, hOX⟩ : ∃ O, O = Obj.cells #[.int .i64 y.k, .int .i64 y.n, .int .i64 y.t.k, .slice y.t.a y.t.l.length y.t.c, .int .i64 y.f.k, .slice y.f.a y.f.l.length y.f.c, .slice y.a y.l.length y.c] 27 := ⟨_, rfl⟩
      have hbA : Below wr.heap.size wr (wr.alloc OX) := (Below.refl _ _).alloc (Nat.le_refl _) _
      have hsz : ((x.l.take (j + 1)).map TT.sz).sum = ((x.l.take j).map TT.sz).sum + y.sz := by
        rw [take_snoc _ _ hlt, hye]
        simp
      have hszl : ((x.l.take (j + 1)).map TT.sz).sum ≤ (x.l.map TT.sz).sum := sum_take_le TT.sz x.l (j + 1)
      have hws : w.heap.size ≤ wr.heap.size := hk.size
      have hrow := HQ.out.row
      have HC : Hid (Calls Tryz.prog 41 #[.pointer (some ⟨R, 0, none⟩), .agg #[.int .i64 y.k, .int .i64 y.n, .int .i64 y.t.k, .slice y.t.a y.t.l.length y.t.c, .int .i64 y.f.k, .slice y.f.a y.f.l.length y.f.c, .slice y.a y.l.length y.c], .slice T.a T.l.length T.c] (wr.alloc OX) (RdPost (fun b => Q b ∧ some b ≠ v.ownBlock) R y (c + ((x.l.take j).map TT.sz).sum) (T.l.map Tr.ty) (wr.alloc OX))) := by
        refine HRD'.out y hym _ _ _ ⟨HP.out.1 y hym, HP.out.2.1, ⟨by have := HP.out.2.2.1; omega, by have := HP.out.2.2.1; omega⟩, hyi.below hbA, hTi.below hbA, HQ.out.cs.below hbA, ?_, ?_, ?_, fun b hb => HP.out.2.2.2.2.2.2 b hb.1⟩
        · exact (hyb.and hyl).mono fun b hb => ⟨hb.1, fun e => by have := (hrow.lt b e.symm).1; omega⟩
        · exact (HP.out.2.2.2.2.1.and hTl).mono fun b hb => ⟨hb.1, fun e => by have := (hrow.lt b e.symm).1; omega⟩
        · intro b hb
          simp only [World.size_alloc] at hb
          exact ⟨HP.out.2.2.2.2.2.1 b (by omega), fun e => by have := (hrow.lt b e.symm).2; omega⟩
      have HQA : Hid (Kept R none w (wr.alloc OX) ∧ RowR Q w.heap.size v rs (wr.alloc OX) ∧ rs.length = j ∧ (∀ r, r ∈ rs → 0 ≤ r.n) ∧ readL ((x.l.take j).map TT.tm) (T.l.map Tr.ty) c = some (rs.map tri)) := ⟨hk.trans (Kept.of_below hbA), hrow.below hbA, HQ.out.len, HQ.out.nn, HQ.out.rd⟩
      have HY : Hid (x.l[j] = y ∧ ((x.l.take (j + 1)).map TT.sz).sum = ((x.l.take j).map TT.sz).sum + y.sz) := ⟨hye, hsz⟩
      have hvs : rs.length ≤ 1000 := by have := HQ.out.len; omega
      clear h7 hyi0 hk hbR hym hyb hyi hTi hyl hTl hbA hsz hszl hws hrow HQ ea hye
      subst hOX
      go_wp2_with fail
      clear d0 d1 d2 d3 d4 d5 d6
      refine HC.out.mono ?_
      rintro e w2 ⟨hk2, ⟨hno, rfl⟩ | ⟨r, hyes, rfl, hn, hyi, hii, hyb, hib, hcs⟩⟩
      · have HN : Hid (RaPost Q R x.l c (T.l.map Tr.ty) w (.returned (.tuple #[.slice none 0 0, .bool false])) (w2.alloc (.cells #[.int .i64 0, .int .i64 0, .int .i64 0, .int .i64 0, .slice none 0 0, .int .i64 0, .slice none 0 0, .slice none 0 0, .int .i64 0, .slice none 0 0] 64))) := by
          refine ⟨(HQA.out.1.trans hk2).trans (Kept.of_below ((Below.refl _ _).alloc (Nat.le_refl _) _)), .inl ⟨?_, rfl⟩⟩
          have hsplit : x.l.map TT.tm = (x.l.take j).map TT.tm ++ y.tm :: (x.l.drop (j + 1)).map TT.tm := by
            conv => lhs; rw [← List.take_append_drop j x.l]
            rw [List.map_append, List.drop_eq_getElem_cons hlt, List.map_cons, HY.out.1]
          rw [hsplit]
          refine readL_stop ?_
          rw [sz_map]
          exact hno
        clear hno hk2 HC HQA
        go_wp2_with fail
        exact bodyPost_ret (v := .tuple #[.slice none 0 0, .bool false]) (by simp [results, Tryz.results66, go_sem]) rfl HN.out
      · obtain ⟨OR, hOR⟩ : ∃ O, O = Obj.cells #[.int .i64 r.n, .int .i64 r.y.k, .int .i64 r.y.n, .int .i64 r.y.t.k, .slice r.y.t.a r.y.t.l.length r.y.t.c, .int .i64 r.y.f.k, .slice r.y.f.a r.y.f.l.length r.y.f.c, .slice r.y.a r.y.l.length r.y.c, .int .i64 r.i.k, .slice r.i.a r.i.l.length r.i.c] 64 := ⟨_, rfl⟩
        have hbR : Below w2.heap.size w2 (w2.alloc OR) := (Below.refl _ _).alloc (Nat.le_refl _) _
        have hrow2 : RowR Q w.heap.size v rs (w2.alloc OR) := (HQA.out.2.1.kept hk2 hRl HP.out.2.2.2.2.2.2).below hbR
        obtain ⟨N, hN⟩ : ∃ N, rs.length = N := ⟨_, rfl⟩
        obtain ⟨xs, hxs⟩ : ∃ xs, cells10 rs = xs := ⟨_, rfl⟩
        have uo : (w2.alloc OR).ownsRow w.heap.size 64 10 v N xs := by rw [← hN, ← hxs]; exact hrow2.own
        have hnew := heap_alloc_new (w2.alloc OR) OR
        simp only [World.size_alloc] at hnew
        have HW : Hid (Kept R none w (w2.alloc OR) ∧ RowR Q w.heap.size v rs (w2.alloc OR) ∧ r.y.In (w2.alloc OR) ∧ r.i.In (w2.alloc OR) ∧ CS R (c + ((x.l.take j).map TT.sz).sum + y.sz) (w2.alloc OR)) := ⟨(HQA.out.1.trans hk2).trans (Kept.of_below hbR), hrow2, hyi.below hbR, hii.below hbR, hcs.below hbR⟩
        have HB : Hid (r.y.Bl (fun b => Q b ∧ some b ≠ v.ownBlock) ∧ r.i.Bl (fun b => Q b ∧ some b ≠ v.ownBlock) ∧ r.n = ((c + ((x.l.take j).map TT.sz).sum : Nat) : Int) ∧ readS y.tm (T.l.map Tr.ty) (c + ((x.l.take j).map TT.sz).sum) = some (r.y.tm, r.i.ty)) := ⟨hyb, hib, hn, hyes⟩
        have HNX : Hid (rs.length = N ∧ cells10 rs = xs) := ⟨hN, hxs⟩
        have hNb : N ≤ 1000 := by omega
        have hw2 : w.heap.size ≤ w2.heap.size := by have h1 := HQA.out.1.size; have h2 := hk2.size; omega
        clear hyes hn hyi hii hyb hib hcs hk2 HC hbR hrow2 hN hxs
        subst hOR
        go_wp2_with (at_builtin; refine wpList_append_lies _ rfl _ _ _ rfl w.heap.size 64 i0 _ 10 144 Tryz.underlying115 hi0 hz0 hz1 hz2 rfl (by omega) v N xs rfl (uo.alloc _) ⟨w2.heap.size + 1, 0, none⟩ 1 1 [.int .i64 r.n, .int .i64 r.y.k, .int .i64 r.y.n, .int .i64 r.y.t.k, .slice r.y.t.a r.y.t.l.length r.y.t.c, .int .i64 r.y.f.k, .slice r.y.f.a r.y.f.l.length r.y.f.c, .slice r.y.a r.y.l.length r.y.c, .int .i64 r.i.k, .slice r.i.a r.i.l.length r.i.c] rfl rfl (World.news_of_block (cs := #[.int .i64 r.n, .int .i64 r.y.k, .int .i64 r.y.n, .int .i64 r.y.t.k, .slice r.y.t.a r.y.t.l.length r.y.t.c, .int .i64 r.y.f.k, .slice r.y.f.a r.y.f.l.length r.y.f.c, .slice r.y.a r.y.l.length r.y.c, .int .i64 r.i.k, .slice r.i.a r.i.l.length r.i.c]) (t := 64) (fr := (0, 0)) hnew) (by simp [Value.oneCell']) (by omega) (by unfold maxLen; omega) (by omega) (by simp; omega) (w2.heap.size + 1 + 1) (by simp) ?_; intro gg cap1 w3 hown1 hgrow hat hlt3)
        have hov : ∀ q, v.ownBlock = some q → w.heap.size ≤ q := fun q hq => (uo.lt q hq).1
        obtain ⟨OR, hOR⟩ : ∃ O, O = Obj.cells #[.int .i64 r.n, .int .i64 r.y.k, .int .i64 r.y.n, .int .i64 r.y.t.k, .slice r.y.t.a r.y.t.l.length r.y.t.c, .int .i64 r.y.f.k, .slice r.y.f.a r.y.f.l.length r.y.f.c, .slice r.y.a r.y.l.length r.y.c, .int .i64 r.i.k, .slice r.i.a r.i.l.length r.i.c] 64 := ⟨_, rfl⟩
        rw [← hOR] at hgrow HW
        have HN : Hid (RaInv Q R x c T w (j + 1) (.slice (some ⟨gg, 0, none⟩) (N + 1) cap1) (rs ++ [r]) w3) := by
          obtain ⟨hkw, hrw, hyw, hiw, hcw⟩ := HW.out
          obtain ⟨eN, exs⟩ := HNX.out
          have hst := hrw.step (gg := gg) (cap1 := cap1) (w3 := w3) (X := OR) hyw hiw HB.out.1 HB.out.2.1 (by rw [eN, exs, cells10_one]; exact hown1) hgrow (by simpa using hat)
          have hR2 : R < (w2.alloc OR).heap.size := hcw.lt
          have hRv : some R ≠ v.ownBlock := fun e => by have := hov R e.symm; omega
          have hs := hgrow.size
          simp only [World.size_alloc] at hs hR2
          have hk3 : Kept R none w w3 := by
            refine ⟨(hgrow.os.trans rfl).trans hkw.os, (hgrow.tape.trans rfl).trans hkw.tape, (hgrow.output.trans rfl).trans hkw.output, by omega, fun q hq hqR hq2 => ?_⟩
            exact (hst.2 q (by simp; omega) (fun e => by have := hov q e.symm; omega)).trans (hkw.block q hq hqR hq2)
          have hc3 : CS R (c + ((x.l.take j).map TT.sz).sum + y.sz) w3 :=
            ⟨(World.cell?_of_block (a := ⟨R, 0, none⟩) (hst.2 R (by simp; omega) hRv)).trans hcw.c, (World.frozen?_of_block (a := ⟨R, 0, none⟩) (hst.2 R (by simp; omega) hRv)).trans hcw.f⟩
          have hst1 := hst.1
          rw [eN] at hst1
          refine ⟨hk3, hst1, by rw [List.length_append, HQA.out.2.2.1]; rfl, fun q hq => ?_, ?_, ?_⟩
          · rcases List.mem_append.1 hq with hq | hq
            · exact HQA.out.2.2.2.1 q hq
            · rcases List.mem_singleton.1 hq with rfl
              rw [HB.out.2.2.1]; omega
          · rw [take_snoc _ _ hlt, HY.out.1, List.map_append, List.map_append]
            have := readL_snoc HQA.out.2.2.2.2 (by rw [sz_map]; exact HB.out.2.2.2)
            rw [sz_map] at this
            have e : tri r = (c + ((x.l.take j).map TT.sz).sum, r.y.tm, r.i.ty) := by
              unfold tri
              rw [HB.out.2.2.1]
              rfl
            simpa [e] using this
          · rw [HY.out.2, ← Nat.add_assoc]
            exact hc3
        clear hown1 hgrow hat hlt3 hov HW uo hnew hOR HB HQA HNX
        go_wp2_with fail
        rw [← HEA.out]
        go_roundg (x.l.length - (j + 1))
        case measure => omega
        case rel => exact ⟨j + 1, _, rs ++ [r], by omega, by go_num, rfl, HN⟩
    · have hje : j = x.l.length := by omega
      have HN : Hid (∃ a cap, v = .slice a rs.length cap ∧ RaPost Q R x.l c (T.l.map Tr.ty) w (.returned (.tuple #[v, .bool true])) wr) := by
        obtain ⟨a, cap, hv, hrl⟩ := HQ.out.row.list
        refine ⟨a, cap, hv, HQ.out.kp, .inr ⟨rs, a, cap, ?_, by rw [hv], HQ.out.nn, hrl, fun r hr => ⟨(HQ.out.row.ins r hr).2.2.1.mono fun b hb => hb.1, (HQ.out.row.ins r hr).2.2.2.mono fun b hb => hb.1⟩, ?_⟩⟩
        · have := HQ.out.rd
          rwa [List.take_of_length_le (by omega)] at this
        · have := HQ.out.cs
          rwa [List.take_of_length_le (by omega)] at this
      obtain ⟨a, cap, rfl, hpost⟩ := HN.out
      have HF : Hid (RaPost Q R x.l c (T.l.map Tr.ty) w (.returned (.tuple #[.slice a rs.length cap, .bool true])) wr) := hpost
      clear HQ HN hpost
      go_wp2_with fail
      exact bodyPost_ret (v := .tuple #[.slice a rs.length cap, .bool true]) (by simp [results, Tryz.results66, go_sem]) rfl HF.out
end Go.Proofs.YtnddkmccagiclabGreatDoor

/-
  What the call of check's cast answers where something is cast.
-/
namespace Go.Proofs.YtnddkmccagiclabGreatDoor
open Go.RowKit
set_option maxRecDepth 20000 in
set_option maxHeartbeats 4000000 in
theorem cast_diff (r : Rd) (u : Tr) (w : World) (hu : u.In w) (hi : r.i.In w) (hy : r.y.In w) (hh : r.i.hgt ≤ 1000) (hs : r.i.sm) (ri : r.i.right) (ru : u.right) (hhu : u.hgt ≤ 1000) (hr : relY escSame r.i.ty u.ty = false) :
    Calls Tryz.prog 109 #[.agg #[.int .i64 r.n, .int .i64 r.y.k, .int .i64 r.y.n, .int .i64 r.y.t.k, .slice r.y.t.a r.y.t.l.length r.y.t.c, .int .i64 r.y.f.k, .slice r.y.f.a r.y.f.l.length r.y.f.c, .slice r.y.a r.y.l.length r.y.c, .int .i64 r.i.k, .slice r.i.a r.i.l.length r.i.c], .agg #[.int .i64 u.k, .slice u.a u.l.length u.c]] w (CPost r u w) := by
  obtain ⟨hc, hb⟩ := cb_start r u w hu hi hy
  obtain ⟨W0, hW0⟩ : ∃ W0, W0 = ((w.alloc (Obj.cells #[.int .i64 r.n, .int .i64 r.y.k, .int .i64 r.y.n, .int .i64 r.y.t.k, .slice r.y.t.a r.y.t.l.length r.y.t.c, .int .i64 r.y.f.k, .slice r.y.f.a r.y.f.l.length r.y.f.c, .slice r.y.a r.y.l.length r.y.c, .int .i64 r.i.k, .slice r.i.a r.i.l.length r.i.c] 64)).alloc (Obj.cells #[.int .i64 u.k, .slice u.a u.l.length u.c] 24)).alloc (Obj.cells #[.int .i64 0, .int .i64 0, .int .i64 0, .slice none 0 0, .int .i64 0, .slice none 0 0, .slice none 0 0] 27) := ⟨_, rfl⟩
  rw [← hW0] at hc hb
  have HS : Hid (Calls Tryz.prog 147 #[.agg #[.int .i64 r.i.k, .slice r.i.a r.i.l.length r.i.c], .agg #[.int .i64 u.k, .slice u.a u.l.length u.c]] W0 fun e w' => e = .returned (.bool false) ∧ Below W0.heap.size W0 w') := by
    have := same_whole r.i u W0 hc.ii hc.iu hh hs
    rw [hr] at this
    exact this
  have HB : Hid (CB w.heap.size r u W0 ∧ Below w.heap.size w W0) := ⟨hc, hb⟩
  have HR : Hid (relY escSame r.i.ty u.ty = false) := hr
  have HY : Hid (r.y.Bl (· < w.heap.size)) := hy.bl
  have HC : Hid (∀ (Wc W' : World) (q : Tr), CB w.heap.size r u Wc → Below w.heap.size w Wc → (W' = Wc ∨ ∃ X, W' = Wc.alloc X) → (q = u ∨ q = r.i) → Calls Tryz.prog 42 #[.agg #[.int .i64 q.k, .slice q.a q.l.length q.c]] W' fun e w1 => ∃ t : Tr, e = .returned (.agg #[.int .i64 t.k, .slice t.a t.l.length t.c]) ∧ t.ty = q.ty ∧ t.In w1 ∧ t.Bl (w.heap.size + 1 + 1 < ·) ∧ CB w.heap.size r u w1 ∧ Below w.heap.size w w1 ∧ Below W'.heap.size W' w1 ∧ Below Wc.heap.size Wc w1) := by
    intro Wc W' q h1 h2 h3 h4
    have h5 : Below Wc.heap.size Wc W' := by
      rcases h3 with rfl | ⟨X, rfl⟩
      · exact Below.refl _ _
      · exact (Below.refl _ _).alloc (Nat.le_refl _) _
    have h6 := h1.below h5
    have lz : w.heap.size + 1 + 1 < W'.heap.size := World.block_lt_of_cell? _ _ h6.z0
    have hq : q.In W' ∧ q.right ∧ q.hgt ≤ 1000 := by
      rcases h4 with rfl | rfl
      · exact ⟨h6.iu, ru, hhu⟩
      · exact ⟨h6.ii, ri, hh⟩
    refine (fresh_any q W' hq.1 hq.2.1 hq.2.2).mono ?_
    rintro e w1 ⟨t, rfl, ht, hin, hbl, hb1⟩
    exact ⟨t, rfl, ht, hin, hbl.mono fun b hb => by omega, h6.below hb1, (h2.trans (h5.mono h2.size)).trans (hb1.mono (by omega)), hb1, h5.trans (hb1.mono h5.size)⟩
  clear hc hb hu hi hy hh hs hr ri ru hhu
  go_enter Tryz.func109, Tryz.ntmps109
  go_wp2_with fail
  rw [← hW0]
  clear hW0
  refine HS.out.mono ?_
  rintro e w1 ⟨rfl, h1⟩
  have hcd : CB w.heap.size r u w1.drew := HB.out.1.below h1.drew
  have HCD : Hid (CB w.heap.size r u w1.drew ∧ Below w.heap.size w w1.drew) := ⟨hcd, (HB.out.2.trans (h1.mono HB.out.2.size)).drew⟩
  have HK : Hid (∀ w', CB w.heap.size r u w' → w'.cell? ⟨w.heap.size, 0, none⟩ = some (.int .i64 r.n) ∧ w'.cell? ⟨w.heap.size, 1, none⟩ = some (.int .i64 r.y.k) ∧ w'.cell? ⟨w.heap.size, 2, none⟩ = some (.int .i64 r.y.n) ∧ w'.cell? ⟨w.heap.size, 3, none⟩ = some (.int .i64 r.y.t.k) ∧ w'.cell? ⟨w.heap.size, 4, none⟩ = some (.slice r.y.t.a r.y.t.l.length r.y.t.c) ∧ w'.cell? ⟨w.heap.size, 5, none⟩ = some (.int .i64 r.y.f.k) ∧ w'.cell? ⟨w.heap.size, 6, none⟩ = some (.slice r.y.f.a r.y.f.l.length r.y.f.c) ∧ w'.cell? ⟨w.heap.size, 7, none⟩ = some (.slice r.y.a r.y.l.length r.y.c) ∧ w'.cell? ⟨w.heap.size, 8, none⟩ = some (.int .i64 r.i.k) ∧ w'.cell? ⟨w.heap.size, 9, none⟩ = some (.slice r.i.a r.i.l.length r.i.c) ∧ w'.cell? ⟨w.heap.size + 1, 0, none⟩ = some (.int .i64 u.k) ∧ w'.cell? ⟨w.heap.size + 1, 1, none⟩ = some (.slice u.a u.l.length u.c)) := fun w' h => ⟨h.p0, h.p1, h.p2, h.p3, h.p4, h.p5, h.p6, h.p7, h.p8, h.p9, h.u0, h.u1⟩
  have HKX : Hid (∀ w' X, CB w.heap.size r u w' → CB w.heap.size r u (w'.alloc X)) := fun w' X h => h.below ((Below.refl _ _).alloc (Nat.le_refl _) X)
  have HL : Hid (w.heap.size + 1 + 1 < w1.heap.size ∧ w.heap.size + 1 + 1 < w1.drew.heap.size) := by
    have h : w.heap.size + 1 + 1 < w1.drew.heap.size := World.block_lt_of_cell? _ _ HCD.out.1.z0
    exact ⟨h, h⟩
  have HKD : Hid (∀ X, CB w.heap.size r u (w1.alloc X).drew) := fun X => HCD.out.1.below ((Below.refl _ _).alloc (Nat.le_refl _) X)
  have HKP : Hid (∀ w' a0 a1 a2 a3 a4 a5 a6, CB w.heap.size r u w' → (((((((w'.setCell ⟨w.heap.size + 1 + 1, 0, none⟩ a0).setCell ⟨w.heap.size + 1 + 1, 1, none⟩ a1).setCell ⟨w.heap.size + 1 + 1, 2, none⟩ a2).setCell ⟨w.heap.size + 1 + 1, 3, none⟩ a3).setCell ⟨w.heap.size + 1 + 1, 4, none⟩ a4).setCell ⟨w.heap.size + 1 + 1, 5, none⟩ a5).setCell ⟨w.heap.size + 1 + 1, 6, none⟩ a6).cell? ⟨w.heap.size, 0, none⟩ = some (.int .i64 r.n) ∧ (((((((w'.setCell ⟨w.heap.size + 1 + 1, 0, none⟩ a0).setCell ⟨w.heap.size + 1 + 1, 1, none⟩ a1).setCell ⟨w.heap.size + 1 + 1, 2, none⟩ a2).setCell ⟨w.heap.size + 1 + 1, 3, none⟩ a3).setCell ⟨w.heap.size + 1 + 1, 4, none⟩ a4).setCell ⟨w.heap.size + 1 + 1, 5, none⟩ a5).setCell ⟨w.heap.size + 1 + 1, 6, none⟩ a6).cell? ⟨w.heap.size, 1, none⟩ = some (.int .i64 r.y.k) ∧ (((((((w'.setCell ⟨w.heap.size + 1 + 1, 0, none⟩ a0).setCell ⟨w.heap.size + 1 + 1, 1, none⟩ a1).setCell ⟨w.heap.size + 1 + 1, 2, none⟩ a2).setCell ⟨w.heap.size + 1 + 1, 3, none⟩ a3).setCell ⟨w.heap.size + 1 + 1, 4, none⟩ a4).setCell ⟨w.heap.size + 1 + 1, 5, none⟩ a5).setCell ⟨w.heap.size + 1 + 1, 6, none⟩ a6).cell? ⟨w.heap.size, 2, none⟩ = some (.int .i64 r.y.n) ∧ (((((((w'.setCell ⟨w.heap.size + 1 + 1, 0, none⟩ a0).setCell ⟨w.heap.size + 1 + 1, 1, none⟩ a1).setCell ⟨w.heap.size + 1 + 1, 2, none⟩ a2).setCell ⟨w.heap.size + 1 + 1, 3, none⟩ a3).setCell ⟨w.heap.size + 1 + 1, 4, none⟩ a4).setCell ⟨w.heap.size + 1 + 1, 5, none⟩ a5).setCell ⟨w.heap.size + 1 + 1, 6, none⟩ a6).cell? ⟨w.heap.size, 3, none⟩ = some (.int .i64 r.y.t.k) ∧ (((((((w'.setCell ⟨w.heap.size + 1 + 1, 0, none⟩ a0).setCell ⟨w.heap.size + 1 + 1, 1, none⟩ a1).setCell ⟨w.heap.size + 1 + 1, 2, none⟩ a2).setCell ⟨w.heap.size + 1 + 1, 3, none⟩ a3).setCell ⟨w.heap.size + 1 + 1, 4, none⟩ a4).setCell ⟨w.heap.size + 1 + 1, 5, none⟩ a5).setCell ⟨w.heap.size + 1 + 1, 6, none⟩ a6).cell? ⟨w.heap.size, 4, none⟩ = some (.slice r.y.t.a r.y.t.l.length r.y.t.c) ∧ (((((((w'.setCell ⟨w.heap.size + 1 + 1, 0, none⟩ a0).setCell ⟨w.heap.size + 1 + 1, 1, none⟩ a1).setCell ⟨w.heap.size + 1 + 1, 2, none⟩ a2).setCell ⟨w.heap.size + 1 + 1, 3, none⟩ a3).setCell ⟨w.heap.size + 1 + 1, 4, none⟩ a4).setCell ⟨w.heap.size + 1 + 1, 5, none⟩ a5).setCell ⟨w.heap.size + 1 + 1, 6, none⟩ a6).cell? ⟨w.heap.size, 5, none⟩ = some (.int .i64 r.y.f.k) ∧ (((((((w'.setCell ⟨w.heap.size + 1 + 1, 0, none⟩ a0).setCell ⟨w.heap.size + 1 + 1, 1, none⟩ a1).setCell ⟨w.heap.size + 1 + 1, 2, none⟩ a2).setCell ⟨w.heap.size + 1 + 1, 3, none⟩ a3).setCell ⟨w.heap.size + 1 + 1, 4, none⟩ a4).setCell ⟨w.heap.size + 1 + 1, 5, none⟩ a5).setCell ⟨w.heap.size + 1 + 1, 6, none⟩ a6).cell? ⟨w.heap.size, 6, none⟩ = some (.slice r.y.f.a r.y.f.l.length r.y.f.c) ∧ (((((((w'.setCell ⟨w.heap.size + 1 + 1, 0, none⟩ a0).setCell ⟨w.heap.size + 1 + 1, 1, none⟩ a1).setCell ⟨w.heap.size + 1 + 1, 2, none⟩ a2).setCell ⟨w.heap.size + 1 + 1, 3, none⟩ a3).setCell ⟨w.heap.size + 1 + 1, 4, none⟩ a4).setCell ⟨w.heap.size + 1 + 1, 5, none⟩ a5).setCell ⟨w.heap.size + 1 + 1, 6, none⟩ a6).cell? ⟨w.heap.size, 7, none⟩ = some (.slice r.y.a r.y.l.length r.y.c) ∧ (((((((w'.setCell ⟨w.heap.size + 1 + 1, 0, none⟩ a0).setCell ⟨w.heap.size + 1 + 1, 1, none⟩ a1).setCell ⟨w.heap.size + 1 + 1, 2, none⟩ a2).setCell ⟨w.heap.size + 1 + 1, 3, none⟩ a3).setCell ⟨w.heap.size + 1 + 1, 4, none⟩ a4).setCell ⟨w.heap.size + 1 + 1, 5, none⟩ a5).setCell ⟨w.heap.size + 1 + 1, 6, none⟩ a6).cell? ⟨w.heap.size, 8, none⟩ = some (.int .i64 r.i.k) ∧ (((((((w'.setCell ⟨w.heap.size + 1 + 1, 0, none⟩ a0).setCell ⟨w.heap.size + 1 + 1, 1, none⟩ a1).setCell ⟨w.heap.size + 1 + 1, 2, none⟩ a2).setCell ⟨w.heap.size + 1 + 1, 3, none⟩ a3).setCell ⟨w.heap.size + 1 + 1, 4, none⟩ a4).setCell ⟨w.heap.size + 1 + 1, 5, none⟩ a5).setCell ⟨w.heap.size + 1 + 1, 6, none⟩ a6).cell? ⟨w.heap.size, 9, none⟩ = some (.slice r.i.a r.i.l.length r.i.c) ∧ (((((((w'.setCell ⟨w.heap.size + 1 + 1, 0, none⟩ a0).setCell ⟨w.heap.size + 1 + 1, 1, none⟩ a1).setCell ⟨w.heap.size + 1 + 1, 2, none⟩ a2).setCell ⟨w.heap.size + 1 + 1, 3, none⟩ a3).setCell ⟨w.heap.size + 1 + 1, 4, none⟩ a4).setCell ⟨w.heap.size + 1 + 1, 5, none⟩ a5).setCell ⟨w.heap.size + 1 + 1, 6, none⟩ a6).cell? ⟨w.heap.size + 1, 0, none⟩ = some (.int .i64 u.k) ∧ (((((((w'.setCell ⟨w.heap.size + 1 + 1, 0, none⟩ a0).setCell ⟨w.heap.size + 1 + 1, 1, none⟩ a1).setCell ⟨w.heap.size + 1 + 1, 2, none⟩ a2).setCell ⟨w.heap.size + 1 + 1, 3, none⟩ a3).setCell ⟨w.heap.size + 1 + 1, 4, none⟩ a4).setCell ⟨w.heap.size + 1 + 1, 5, none⟩ a5).setCell ⟨w.heap.size + 1 + 1, 6, none⟩ a6).cell? ⟨w.heap.size + 1, 1, none⟩ = some (.slice u.a u.l.length u.c)) := by
    intro w' a0 a1 a2 a3 a4 a5 a6 h
    have n0 : w.heap.size ≠ w.heap.size + 1 + 1 := by omega
    have hc : ∀ b o, b ≠ w.heap.size + 1 + 1 → (((((((w'.setCell ⟨w.heap.size + 1 + 1, 0, none⟩ a0).setCell ⟨w.heap.size + 1 + 1, 1, none⟩ a1).setCell ⟨w.heap.size + 1 + 1, 2, none⟩ a2).setCell ⟨w.heap.size + 1 + 1, 3, none⟩ a3).setCell ⟨w.heap.size + 1 + 1, 4, none⟩ a4).setCell ⟨w.heap.size + 1 + 1, 5, none⟩ a5).setCell ⟨w.heap.size + 1 + 1, 6, none⟩ a6).cell? ⟨b, o, none⟩ = w'.cell? ⟨b, o, none⟩ := by
      intro b o hb
      rw [World.cell?_setCell_other _ _ _ _ (by simp), World.cell?_setCell_other _ _ _ _ (by simp), World.cell?_setCell_other _ _ _ _ (by simp), World.cell?_setCell_other _ _ _ _ (by simp), World.cell?_setCell_other _ _ _ _ (by simp), World.cell?_setCell_other _ _ _ _ (by simp), World.cell?_setCell_other _ _ _ _ (by simp)]
    have n1 : w.heap.size + 1 ≠ w.heap.size + 1 + 1 := by omega
    exact ⟨(hc _ _ n0).trans h.p0, (hc _ _ n0).trans h.p1, (hc _ _ n0).trans h.p2, (hc _ _ n0).trans h.p3, (hc _ _ n0).trans h.p4, (hc _ _ n0).trans h.p5, (hc _ _ n0).trans h.p6, (hc _ _ n0).trans h.p7, (hc _ _ n0).trans h.p8, (hc _ _ n0).trans h.p9, (hc _ _ n1).trans h.u0, (hc _ _ n1).trans h.u1⟩
  have z0 := hcd.z0
  have z1 := hcd.z1
  have z2 := hcd.z2
  have z3 := hcd.z3
  have z4 := hcd.z4
  have z5 := hcd.z5
  have z6 := hcd.z6
  have Xz0 := fun X => (CB.below hcd ((Below.refl _ _).alloc (Nat.le_refl _) X)).z0
  have Xz1 := fun X => (CB.below hcd ((Below.refl _ _).alloc (Nat.le_refl _) X)).z1
  have Xz2 := fun X => (CB.below hcd ((Below.refl _ _).alloc (Nat.le_refl _) X)).z2
  have Xz3 := fun X => (CB.below hcd ((Below.refl _ _).alloc (Nat.le_refl _) X)).z3
  have Xz4 := fun X => (CB.below hcd ((Below.refl _ _).alloc (Nat.le_refl _) X)).z4
  have Xz5 := fun X => (CB.below hcd ((Below.refl _ _).alloc (Nat.le_refl _) X)).z5
  have Xz6 := fun X => (CB.below hcd ((Below.refl _ _).alloc (Nat.le_refl _) X)).z6
  have f0 := hcd.fz 0
  have f1 := hcd.fz 1
  have f2 := hcd.fz 2
  have f3 := hcd.fz 3
  have f4 := hcd.fz 4
  have f5 := hcd.fz 5
  have f6 := hcd.fz 6
  have Xf0 := fun X => (CB.below hcd ((Below.refl _ _).alloc (Nat.le_refl _) X)).fz 0
  have Xf1 := fun X => (CB.below hcd ((Below.refl _ _).alloc (Nat.le_refl _) X)).fz 1
  have Xf2 := fun X => (CB.below hcd ((Below.refl _ _).alloc (Nat.le_refl _) X)).fz 2
  have Xf3 := fun X => (CB.below hcd ((Below.refl _ _).alloc (Nat.le_refl _) X)).fz 3
  have Xf4 := fun X => (CB.below hcd ((Below.refl _ _).alloc (Nat.le_refl _) X)).fz 4
  have Xf5 := fun X => (CB.below hcd ((Below.refl _ _).alloc (Nat.le_refl _) X)).fz 5
  have Xf6 := fun X => (CB.below hcd ((Below.refl _ _).alloc (Nat.le_refl _) X)).fz 6
  obtain ⟨p0, p1, p2, p3, p4, p5, p6, p7, p8, p9, u0, u1, _, _, _, _, _, _, _, fz, _, _, _⟩ := id hcd
  clear h1 HS HB hcd fz
  go_wp2_with fail
  clear p0 p1 p2 p3 p4 p5 p6 p7 p8 p9 u0 u1
  go_region_held3 (fun w' => w'.cell? ⟨w.heap.size, 0, none⟩ = some (.int .i64 r.n) ∧ w'.cell? ⟨w.heap.size, 1, none⟩ = some (.int .i64 r.y.k) ∧ w'.cell? ⟨w.heap.size, 2, none⟩ = some (.int .i64 r.y.n) ∧ w'.cell? ⟨w.heap.size, 3, none⟩ = some (.int .i64 r.y.t.k) ∧ w'.cell? ⟨w.heap.size, 4, none⟩ = some (.slice r.y.t.a r.y.t.l.length r.y.t.c) ∧ w'.cell? ⟨w.heap.size, 5, none⟩ = some (.int .i64 r.y.f.k) ∧ w'.cell? ⟨w.heap.size, 6, none⟩ = some (.slice r.y.f.a r.y.f.l.length r.y.f.c) ∧ w'.cell? ⟨w.heap.size, 7, none⟩ = some (.slice r.y.a r.y.l.length r.y.c) ∧ w'.cell? ⟨w.heap.size, 8, none⟩ = some (.int .i64 r.i.k) ∧ w'.cell? ⟨w.heap.size, 9, none⟩ = some (.slice r.i.a r.i.l.length r.i.c) ∧ w'.cell? ⟨w.heap.size + 1, 0, none⟩ = some (.int .i64 u.k) ∧ w'.cell? ⟨w.heap.size + 1, 1, none⟩ = some (.slice u.a u.l.length u.c))
    (first | (with_reducible exact HK.out _ HCD.out.1) | (with_reducible exact HK.out _ (HKX.out _ _ HCD.out.1)) | (with_reducible exact HK.out _ (HKD.out _)) | (with_reducible exact HKP.out _ _ _ _ _ _ _ _ HCD.out.1) | (with_reducible exact HKP.out _ _ _ _ _ _ _ _ (HKX.out _ _ HCD.out.1)))
    (first
      | (go_at_call 42; refine (HC.out _ _ u HCD.out.1 HCD.out.2 (by first | (with_reducible exact .inl rfl) | (with_reducible exact .inr ⟨_, rfl⟩) | exact .inr ⟨_, rfl⟩) (by first | (with_reducible exact .inl rfl) | (with_reducible exact .inr rfl))).mono ?_; rintro e wU ⟨tU, rfl, htU, hinU, hblU, hcdU, hbwU, hbU, hstU⟩; (try (replace hinI := hinI.below hstU)); replace HCD : Hid (CB w.heap.size r u wU ∧ Below w.heap.size w wU) := ⟨hcdU, hbwU⟩; replace z0 := hcdU.z0; replace z1 := hcdU.z1; replace z2 := hcdU.z2; replace z3 := hcdU.z3; replace z4 := hcdU.z4; replace z5 := hcdU.z5; replace z6 := hcdU.z6; replace Xz0 := fun X => (CB.below hcdU ((Below.refl _ _).alloc (Nat.le_refl _) X)).z0; replace Xz1 := fun X => (CB.below hcdU ((Below.refl _ _).alloc (Nat.le_refl _) X)).z1; replace Xz2 := fun X => (CB.below hcdU ((Below.refl _ _).alloc (Nat.le_refl _) X)).z2; replace Xz3 := fun X => (CB.below hcdU ((Below.refl _ _).alloc (Nat.le_refl _) X)).z3; replace Xz4 := fun X => (CB.below hcdU ((Below.refl _ _).alloc (Nat.le_refl _) X)).z4; replace Xz5 := fun X => (CB.below hcdU ((Below.refl _ _).alloc (Nat.le_refl _) X)).z5; replace Xz6 := fun X => (CB.below hcdU ((Below.refl _ _).alloc (Nat.le_refl _) X)).z6; replace f0 := hcdU.fz 0; replace f1 := hcdU.fz 1; replace f2 := hcdU.fz 2; replace f3 := hcdU.fz 3; replace f4 := hcdU.fz 4; replace f5 := hcdU.fz 5; replace f6 := hcdU.fz 6; replace Xf0 := fun X => (CB.below hcdU ((Below.refl _ _).alloc (Nat.le_refl _) X)).fz 0; replace Xf1 := fun X => (CB.below hcdU ((Below.refl _ _).alloc (Nat.le_refl _) X)).fz 1; replace Xf2 := fun X => (CB.below hcdU ((Below.refl _ _).alloc (Nat.le_refl _) X)).fz 2; replace Xf3 := fun X => (CB.below hcdU ((Below.refl _ _).alloc (Nat.le_refl _) X)).fz 3; replace Xf4 := fun X => (CB.below hcdU ((Below.refl _ _).alloc (Nat.le_refl _) X)).fz 4; replace Xf5 := fun X => (CB.below hcdU ((Below.refl _ _).alloc (Nat.le_refl _) X)).fz 5; replace Xf6 := fun X => (CB.below hcdU ((Below.refl _ _).alloc (Nat.le_refl _) X)).fz 6; clear hcdU hbwU)
      | (go_at_call 42; refine (HC.out _ _ r.i HCD.out.1 HCD.out.2 (by first | (with_reducible exact .inl rfl) | (with_reducible exact .inr ⟨_, rfl⟩) | exact .inr ⟨_, rfl⟩) (by first | (with_reducible exact .inl rfl) | (with_reducible exact .inr rfl))).mono ?_; rintro e wI ⟨tI, rfl, htI, hinI, hblI, hcdI, hbwI, hbI, hstI⟩; (try (replace hinU := hinU.below hstI)); replace HCD : Hid (CB w.heap.size r u wI ∧ Below w.heap.size w wI) := ⟨hcdI, hbwI⟩; replace z0 := hcdI.z0; replace z1 := hcdI.z1; replace z2 := hcdI.z2; replace z3 := hcdI.z3; replace z4 := hcdI.z4; replace z5 := hcdI.z5; replace z6 := hcdI.z6; replace Xz0 := fun X => (CB.below hcdI ((Below.refl _ _).alloc (Nat.le_refl _) X)).z0; replace Xz1 := fun X => (CB.below hcdI ((Below.refl _ _).alloc (Nat.le_refl _) X)).z1; replace Xz2 := fun X => (CB.below hcdI ((Below.refl _ _).alloc (Nat.le_refl _) X)).z2; replace Xz3 := fun X => (CB.below hcdI ((Below.refl _ _).alloc (Nat.le_refl _) X)).z3; replace Xz4 := fun X => (CB.below hcdI ((Below.refl _ _).alloc (Nat.le_refl _) X)).z4; replace Xz5 := fun X => (CB.below hcdI ((Below.refl _ _).alloc (Nat.le_refl _) X)).z5; replace Xz6 := fun X => (CB.below hcdI ((Below.refl _ _).alloc (Nat.le_refl _) X)).z6; replace f0 := hcdI.fz 0; replace f1 := hcdI.fz 1; replace f2 := hcdI.fz 2; replace f3 := hcdI.fz 3; replace f4 := hcdI.fz 4; replace f5 := hcdI.fz 5; replace f6 := hcdI.fz 6; replace Xf0 := fun X => (CB.below hcdI ((Below.refl _ _).alloc (Nat.le_refl _) X)).fz 0; replace Xf1 := fun X => (CB.below hcdI ((Below.refl _ _).alloc (Nat.le_refl _) X)).fz 1; replace Xf2 := fun X => (CB.below hcdI ((Below.refl _ _).alloc (Nat.le_refl _) X)).fz 2; replace Xf3 := fun X => (CB.below hcdI ((Below.refl _ _).alloc (Nat.le_refl _) X)).fz 3; replace Xf4 := fun X => (CB.below hcdI ((Below.refl _ _).alloc (Nat.le_refl _) X)).fz 4; replace Xf5 := fun X => (CB.below hcdI ((Below.refl _ _).alloc (Nat.le_refl _) X)).fz 5; replace Xf6 := fun X => (CB.below hcdI ((Below.refl _ _).alloc (Nat.le_refl _) X)).fz 6; clear hcdI hbwI))
  all_goals
    have hE := HCD.out
    have s0 := HL.out
    have s1 := hstU.size
    have s2 := hstI.size
    clear HK HKX HKP HKD HC
  · have hA : Below wI.heap.size wI (wI.alloc (.cells #[.int .i64 r.y.k, .int .i64 r.y.n, .int .i64 r.y.t.k, .slice r.y.t.a r.y.t.l.length r.y.t.c, .int .i64 r.y.f.k, .slice r.y.f.a r.y.f.l.length r.y.f.c, .slice r.y.a r.y.l.length r.y.c] 27)) := (Below.refl _ _).alloc (Nat.le_refl _) _
    have HX : Hid _ := cast_end r u w _ wI.heap.size tU tI (hE.2.trans (hA.mono hE.2.size)) (hE.1.below hA) (by omega) (new_at7 wI r) (hinU.below hA) (hinI.below hA) hblU hblI HY.out htU htI HR.out
    clear z0 z1 z2 z3 z4 z5 z6 f0 f1 f2 f3 f4 f5 f6 Xz0 Xz1 Xz2 Xz3 Xz4 Xz5 Xz6 Xf0 Xf1 Xf2 Xf3 Xf4 Xf5 Xf6
    go_wp2_with fail
    refine bodyPost_ret (v := .agg #[.int .i64 10, .int .i64 r.n, .int .i64 tU.k, .slice tU.a tU.l.length tU.c, .int .i64 tI.k, .slice tI.a tI.l.length tI.c, .slice (some ⟨wI.heap.size, 0, none⟩) 1 1]) ?_ rfl HX.out.1
    obtain ⟨e0, e1, e2, e3, e4, e5, e6⟩ := HX.out.2
    simp only [Nat.zero_add] at e0 e1 e2 e3 e4 e5 e6
    unfold put7 at e0 e1 e2 e3 e4 e5 e6
    simp only [List.length_cons, List.length_nil, Nat.zero_add] at e0 e1 e2 e3 e4 e5 e6
    simp [results, Tryz.results109, go_sem, e0, e1, e2, e3, e4, e5, e6]
  · have HX : Hid _ := cast_end r u w wI wU.heap.size tU tI hE.2 hE.1 (by omega) ((new_at7 wU r).below hbI) hinU hinI hblU hblI HY.out htU htI HR.out
    clear z0 z1 z2 z3 z4 z5 z6 f0 f1 f2 f3 f4 f5 f6 Xz0 Xz1 Xz2 Xz3 Xz4 Xz5 Xz6 Xf0 Xf1 Xf2 Xf3 Xf4 Xf5 Xf6
    go_wp2_with fail
    refine bodyPost_ret (v := .agg #[.int .i64 10, .int .i64 r.n, .int .i64 tU.k, .slice tU.a tU.l.length tU.c, .int .i64 tI.k, .slice tI.a tI.l.length tI.c, .slice (some ⟨wU.heap.size, 0, none⟩) 1 1]) ?_ rfl HX.out.1
    obtain ⟨e0, e1, e2, e3, e4, e5, e6⟩ := HX.out.2
    simp only [Nat.zero_add] at e0 e1 e2 e3 e4 e5 e6
    unfold put7 at e0 e1 e2 e3 e4 e5 e6
    simp only [List.length_cons, List.length_nil, Nat.zero_add] at e0 e1 e2 e3 e4 e5 e6
    simp [results, Tryz.results109, go_sem, e0, e1, e2, e3, e4, e5, e6]
  · have HX : Hid _ := cast_end r u w wI w1.heap.size tU tI hE.2 hE.1 (by omega) (((show At7 (w1.alloc (.cells #[.int .i64 r.y.k, .int .i64 r.y.n, .int .i64 r.y.t.k, .slice r.y.t.a r.y.t.l.length r.y.t.c, .int .i64 r.y.f.k, .slice r.y.f.a r.y.f.l.length r.y.f.c, .slice r.y.a r.y.l.length r.y.c] 27)).drew w1.heap.size 0 r.y from (new_at7 w1 r).below ((Below.refl _ _).drew)).below hbU).below hbI) hinU hinI hblU hblI HY.out htU htI HR.out
    clear z0 z1 z2 z3 z4 z5 z6 f0 f1 f2 f3 f4 f5 f6 Xz0 Xz1 Xz2 Xz3 Xz4 Xz5 Xz6 Xf0 Xf1 Xf2 Xf3 Xf4 Xf5 Xf6
    go_wp2_with fail
    refine bodyPost_ret (v := .agg #[.int .i64 10, .int .i64 r.n, .int .i64 tU.k, .slice tU.a tU.l.length tU.c, .int .i64 tI.k, .slice tI.a tI.l.length tI.c, .slice (some ⟨w1.heap.size, 0, none⟩) 1 1]) ?_ rfl HX.out.1
    obtain ⟨e0, e1, e2, e3, e4, e5, e6⟩ := HX.out.2
    simp only [Nat.zero_add] at e0 e1 e2 e3 e4 e5 e6
    unfold put7 at e0 e1 e2 e3 e4 e5 e6
    simp only [List.length_cons, List.length_nil, Nat.zero_add] at e0 e1 e2 e3 e4 e5 e6
    simp [results, Tryz.results109, go_sem, e0, e1, e2, e3, e4, e5, e6]
end Go.Proofs.YtnddkmccagiclabGreatDoor

/-
  What the call of check's typesOf answers: the types of a row of readings, in a row of their own.
-/
namespace Go.Proofs.YtnddkmccagiclabGreatDoor
open Go.RowKit
theorem makeN (n : Nat) (hn : n ≤ 1000) (w : World) : (Instr.makeSlice 22 (.int .i64 (n : Int)) (.int .i64 (n : Int))).run Tryz.prog w = .ok (.slice (some ⟨w.heap.size, 0, none⟩) n n) (w.alloc (.cells (madeCells #[.int .i64 0, .slice none 0 0] (n * 2)) 24)) := by
  obtain ⟨i0, hi0, hz0, hz1, hz2⟩ := info_parts Tryz.info24
  have h := run_make (P := Tryz.prog) w 22 24 i0 _ Tryz.underlying22 hi0 hz0 .i64 .i64 (n : Int) (n : Int) (by omega) (by omega) (by rw [hz2]; omega) (by omega)
  rw [h, hz1]
  rfl
/-- The row while it is filled: the first j types stand, all cells are there. -/
structure TyRow (w : World) (g : Nat) (rs : List Rd) (j : Nat) (wr : World) : Prop where
  bel : Below w.heap.size w wr
  is : ∀ q (h : q < rs.length), q < j → wr.cell? ⟨g, q * 2, none⟩ = some (.int .i64 rs[q].i.k) ∧ wr.cell? ⟨g, q * 2 + 1, none⟩ = some (.slice rs[q].i.a rs[q].i.l.length rs[q].i.c)
  any : ∀ i, i < rs.length * 2 → ∃ v, wr.cell? ⟨g, i, none⟩ = some v
  fz : ∀ i, wr.frozen? ⟨g, i, none⟩ = false
theorem TyRow.start (w : World) (rs : List Rd) : TyRow w w.heap.size rs 0 (w.alloc (.cells (madeCells #[.int .i64 0, .slice none 0 0] (rs.length * 2)) 24)) := by
  refine ⟨(Below.refl _ _).alloc (Nat.le_refl _) _, fun q _ h => absurd h (by omega), fun i hi => ?_, fun i => by simp [go_sem]⟩
  have hs : i < (madeCells #[.int .i64 0, .slice none 0 0] (rs.length * 2)).size := by rw [size_madeCells]; exact hi
  refine ⟨(madeCells #[.int .i64 0, .slice none 0 0] (rs.length * 2))[i], ?_⟩
  simp [go_sem, hs]
theorem TyRow.step {w wr : World} {g j : Nat} {rs : List Rd} (h : TyRow w g rs j wr) (hg : w.heap.size ≤ g) (hgl : g < wr.heap.size) (hj : j < rs.length) (X : Obj) :
    TyRow w g rs (j + 1) (((wr.alloc X).setCell ⟨g, j * 2, none⟩ (.int .i64 rs[j].i.k)).setCell ⟨g, j * 2 + 1, none⟩ (.slice rs[j].i.a rs[j].i.l.length rs[j].i.c)) := by
  have hb : Below wr.heap.size wr (wr.alloc X) := (Below.refl _ _).alloc (Nat.le_refl _) _
  refine ⟨((h.bel.trans (hb.mono h.bel.size)).setCell hg _).setCell hg _, fun q hq hlt => ?_, fun i hi => ?_, fun i => ?_⟩
  · by_cases e : q = j
    · subst e
      obtain ⟨v0, hv0⟩ := h.any (q * 2) (by omega)
      obtain ⟨v1, hv1⟩ := h.any (q * 2 + 1) (by omega)
      constructor
      · simpa using set_get (j := q * 2 + 1) (v := .slice rs[q].i.a rs[q].i.l.length rs[q].i.c) (set_get (j := q * 2) (v := .int .i64 rs[q].i.k) (cell_later hb hv0))
      · simpa using set_get (j := q * 2 + 1) (v := .slice rs[q].i.a rs[q].i.l.length rs[q].i.c) (set_get (j := q * 2) (v := .int .i64 rs[q].i.k) (cell_later hb hv1))
    · obtain ⟨c0, c1⟩ := h.is q hq (by omega)
      have n1 : q * 2 ≠ j * 2 := by omega
      have n2 : q * 2 ≠ j * 2 + 1 := by omega
      have n3 : q * 2 + 1 ≠ j * 2 := by omega
      have n4 : q * 2 + 1 ≠ j * 2 + 1 := by omega
      constructor
      · have := set_get (j := j * 2 + 1) (v := .slice rs[j].i.a rs[j].i.l.length rs[j].i.c) (set_get (j := j * 2) (v := .int .i64 rs[j].i.k) (cell_later hb c0))
        rw [if_neg n2, if_neg n1] at this
        exact this
      · have := set_get (j := j * 2 + 1) (v := .slice rs[j].i.a rs[j].i.l.length rs[j].i.c) (set_get (j := j * 2) (v := .int .i64 rs[j].i.k) (cell_later hb c1))
        rw [if_neg n4, if_neg n3] at this
        exact this
  · obtain ⟨v, hv⟩ := h.any i hi
    exact ⟨_, set_get (j := j * 2 + 1) (v := .slice rs[j].i.a rs[j].i.l.length rs[j].i.c) (set_get (j := j * 2) (v := .int .i64 rs[j].i.k) (cell_later hb hv))⟩
  · have := (hb.frozen (p := ⟨g, i, none⟩) hgl).trans (h.fz i)
    simpa using this
set_option maxRecDepth 20000 in
set_option maxHeartbeats 1000000 in
/-- typesOf. -/
theorem typesOf_any (rs : List Rd) (a : Option Addr) (c : Nat) (w : World) (hr : RL w a rs) (h3 : rs.length ≤ 1000) :
    Calls Tryz.prog 68 #[.slice a rs.length c] w fun e w' => ∃ T : Tr, e = .returned (.slice T.a T.l.length T.c) ∧ T.l = rs.map (fun r => r.i) ∧ T.In w' ∧ (∀ y, T.a = some y → w.heap.size ≤ y.block) ∧ Below w.heap.size w w' := by
  have hmk := makeN rs.length h3
  have HR : Hid (RL w a rs) := hr
  have HT : Hid (TyRow w w.heap.size rs 0 (w.alloc (.cells (madeCells #[.int .i64 0, .slice none 0 0] (rs.length * 2)) 24))) := TyRow.start w rs
  clear hr
  go_enter Tryz.func68, Tryz.ntmps68
  go_wp2_with fail
  go_loopg [11] rs.length (fun g i wr => ∃ (j : Nat), g + j = rs.length ∧ i = .int .i64 (j : Int) ∧ Hid (TyRow w w.heap.size rs j wr ∧ w.heap.size < wr.heap.size))
  case atStart => exact ⟨0, by omega, rfl, HT.out, by simp⟩
  case round =>
    obtain ⟨j, hj, rfl, HQ⟩ := hrel
    by_cases hlt : j < rs.length
    · obtain ⟨b, o, ea, h10, hy, hi⟩ := HR.out j hlt
      have hb := HQ.out.1.bel
      have h11 := h10.below hb
      obtain ⟨d0, ⟨d1, d2, d3, d4, d5, d6, d7⟩, d8, d9⟩ := h11
      have i1 : (j : Int) < (rs.length : Int) := by omega
      have i0 : (0 : Int) ≤ (j : Int) := by omega
      have HEA : Hid (a = some ⟨b, o, none⟩) := ea
      rw [ea]
      have hbA : ∀ X, Below wr.heap.size wr (wr.alloc X) := fun X => (Below.refl _ _).alloc (Nat.le_refl _) _
      obtain ⟨x0, hx0⟩ := HQ.out.1.any (j * 2) (by omega)
      obtain ⟨x1, hx1⟩ := HQ.out.1.any (j * 2 + 1) (by omega)
      have v0 := fun X => cell_later (hbA X) hx0
      have v1 := fun X => cell_later (hbA X) hx1
      have vf : ∀ X i, (wr.alloc X).frozen? ⟨w.heap.size, i, none⟩ = false := fun X i => ((hbA X).frozen (p := ⟨w.heap.size, i, none⟩) HQ.out.2).trans (HQ.out.1.fz i)
      have nw : wr.heap.size ≠ w.heap.size := by have := HQ.out.2; omega
      have HN : Hid (TyRow w w.heap.size rs (j + 1) (((wr.alloc (.cells #[.int .i64 rs[j].n, .int .i64 rs[j].y.k, .int .i64 rs[j].y.n, .int .i64 rs[j].y.t.k, .slice rs[j].y.t.a rs[j].y.t.l.length rs[j].y.t.c, .int .i64 rs[j].y.f.k, .slice rs[j].y.f.a rs[j].y.f.l.length rs[j].y.f.c, .slice rs[j].y.a rs[j].y.l.length rs[j].y.c, .int .i64 rs[j].i.k, .slice rs[j].i.a rs[j].i.l.length rs[j].i.c] 64)).setCell ⟨w.heap.size, j * 2, none⟩ (.int .i64 rs[j].i.k)).setCell ⟨w.heap.size, j * 2 + 1, none⟩ (.slice rs[j].i.a rs[j].i.l.length rs[j].i.c)) ∧ w.heap.size < (((wr.alloc (.cells #[.int .i64 rs[j].n, .int .i64 rs[j].y.k, .int .i64 rs[j].y.n, .int .i64 rs[j].y.t.k, .slice rs[j].y.t.a rs[j].y.t.l.length rs[j].y.t.c, .int .i64 rs[j].y.f.k, .slice rs[j].y.f.a rs[j].y.f.l.length rs[j].y.f.c, .slice rs[j].y.a rs[j].y.l.length rs[j].y.c, .int .i64 rs[j].i.k, .slice rs[j].i.a rs[j].i.l.length rs[j].i.c] 64)).setCell ⟨w.heap.size, j * 2, none⟩ (.int .i64 rs[j].i.k)).setCell ⟨w.heap.size, j * 2 + 1, none⟩ (.slice rs[j].i.a rs[j].i.l.length rs[j].i.c)).heap.size) :=
        ⟨HQ.out.1.step (Nat.le_refl _) HQ.out.2 hlt _, by have := HQ.out.2; simp [World.setCell]; omega⟩
      clear ea hbA hb h10 hy hi HQ HT
      go_wp2_with fail
      rw [← HEA.out]
      go_roundg (rs.length - (j + 1))
      case measure => omega
      case rel => exact ⟨j + 1, by omega, by go_num, HN⟩
    · have HE : Hid (TyRow w w.heap.size rs j wr) := HQ.out.1
      have HJ : Hid (rs.length ≤ j) := by exact Nat.le_of_not_lt hlt
      clear HQ
      go_wp2_with fail
      go_ret
      refine ⟨⟨0, some ⟨w.heap.size, 0, none⟩, rs.length, rs.map fun r => r.i⟩, by simp, rfl, ?_, fun y hy => by cases hy; exact Nat.le_refl _, HE.out.bel⟩
      refine Tr.In_mk.2 ⟨fun q hq => ?_, fun t ht => ?_⟩
      · have hq' : q < rs.length := by simpa using hq
        obtain ⟨c0, c1⟩ := HE.out.is q hq' (by have := HJ.out; omega)
        exact ⟨w.heap.size, 0, rfl, by simpa using c0, by simpa [Tr.sl] using c1⟩
      · obtain ⟨r, hr, rfl⟩ := List.mem_map.1 ht
        obtain ⟨q, hq, rfl⟩ := List.getElem_of_mem hr
        obtain ⟨_, _, _, _, _, hi⟩ := HR.out q hq
        exact hi.below HE.out.bel
end Go.Proofs.YtnddkmccagiclabGreatDoor

/-
  A row of terms while it is filled, place by place; what the call of check's cast answers, whole.
-/
namespace Go.Proofs.YtnddkmccagiclabGreatDoor
open Go.RowKit
theorem cast_any (r : Rd) (u : Tr) (w : World) (hu : u.In w) (hi : r.i.In w) (hy : r.y.In w) (hh : r.i.hgt ≤ 1000) (hs : r.i.sm) (ri : r.i.right) (ru : u.right) (hhu : u.hgt ≤ 1000) :
    Calls Tryz.prog 109 #[.agg #[.int .i64 r.n, .int .i64 r.y.k, .int .i64 r.y.n, .int .i64 r.y.t.k, .slice r.y.t.a r.y.t.l.length r.y.t.c, .int .i64 r.y.f.k, .slice r.y.f.a r.y.f.l.length r.y.f.c, .slice r.y.a r.y.l.length r.y.c, .int .i64 r.i.k, .slice r.i.a r.i.l.length r.i.c], .agg #[.int .i64 u.k, .slice u.a u.l.length u.c]] w (CPost r u w) := by
  cases hr : relY escSame r.i.ty u.ty with
  | true => exact cast_same r u w hu hi hy hh hs hr
  | false => exact cast_diff r u w hu hi hy hh hs ri ru hhu hr
def put7at (w : World) (J o : Nat) (x : TT) : World :=
  ((((((w.setCell ⟨J, o, none⟩ (.int .i64 x.k)).setCell ⟨J, o + 1, none⟩ (.int .i64 x.n)).setCell ⟨J, o + 2, none⟩ (.int .i64 x.t.k)).setCell ⟨J, o + 3, none⟩ (.slice x.t.a x.t.l.length x.t.c)).setCell ⟨J, o + 4, none⟩ (.int .i64 x.f.k)).setCell ⟨J, o + 5, none⟩ (.slice x.f.a x.f.l.length x.f.c)).setCell ⟨J, o + 6, none⟩ (.slice x.a x.l.length x.c)
theorem put7at_get {w : World} {J o i : Nat} {u : Value} (x : TT) (hu : w.cell? ⟨J, i, none⟩ = some u) : (put7at w J o x).cell? ⟨J, i, none⟩ = some (if i = o + 6 then .slice x.a x.l.length x.c else if i = o + 5 then .slice x.f.a x.f.l.length x.f.c else if i = o + 4 then .int .i64 x.f.k else if i = o + 3 then .slice x.t.a x.t.l.length x.t.c else if i = o + 2 then .int .i64 x.t.k else if i = o + 1 then .int .i64 x.n else if i = o then .int .i64 x.k else u) :=
  set_get (set_get (set_get (set_get (set_get (set_get (set_get hu))))))
theorem put7at_kept {w : World} {J o : Nat} {x : TT} : Kept J none w (put7at w J o x) :=
  setR_kept.trans (setR_kept.trans (setR_kept.trans (setR_kept.trans (setR_kept.trans (setR_kept.trans setR_kept)))))
theorem put7at_size {w : World} {J o : Nat} {x : TT} : (put7at w J o x).heap.size = w.heap.size := by
  simp [put7at, World.setCell]
/-- The row while it is filled: the first terms stand, all cells are there. -/
structure TmRow (Q : Nat → Prop) (w : World) (g m : Nat) (zs : List TT) (wr : World) : Prop where
  bel : Below w.heap.size w wr
  lt : g < wr.heap.size
  is : ∀ q (h : q < zs.length), At7 wr g (q * 7) zs[q]
  ins : ∀ z, z ∈ zs → z.In wr ∧ z.Bl (fun b => b ≠ g ∧ Q b)
  any : ∀ i, i < m * 7 → ∃ v, wr.cell? ⟨g, i, none⟩ = some v
  fz : ∀ i, wr.frozen? ⟨g, i, none⟩ = false
theorem TmRow.start (Q : Nat → Prop) (w : World) (m : Nat) : TmRow Q w w.heap.size m [] (w.alloc (.cells (madeCells #[.int .i64 0, .int .i64 0, .int .i64 0, .slice none 0 0, .int .i64 0, .slice none 0 0, .slice none 0 0] (m * 7)) 27)) := by
  refine ⟨(Below.refl _ _).alloc (Nat.le_refl _) _, by simp, fun q h => absurd h (by simp), fun z h => (by cases h), fun i hi => ?_, fun i => by simp [go_sem]⟩
  have hs : i < (madeCells #[.int .i64 0, .int .i64 0, .int .i64 0, .slice none 0 0, .int .i64 0, .slice none 0 0, .slice none 0 0] (m * 7)).size := by rw [size_madeCells]; exact hi
  refine ⟨(madeCells #[.int .i64 0, .int .i64 0, .int .i64 0, .slice none 0 0, .int .i64 0, .slice none 0 0, .slice none 0 0] (m * 7))[i], ?_⟩
  simp [go_sem, hs]
theorem TmRow.below {Q : Nat → Prop} {w wr wr' : World} {g m : Nat} {zs : List TT} (h : TmRow Q w g m zs wr) (hb : Below wr.heap.size wr wr') : TmRow Q w g m zs wr' :=
  ⟨h.bel.trans (hb.mono h.bel.size), Nat.lt_of_lt_of_le h.lt hb.size, fun q hq => (h.is q hq).below hb, fun z hz => ⟨(h.ins z hz).1.below hb, (h.ins z hz).2⟩, fun i hi => by obtain ⟨v, hv⟩ := h.any i hi; exact ⟨v, cell_later hb hv⟩, fun i => (hb.frozen (p := ⟨g, i, none⟩) h.lt).trans (h.fz i)⟩
theorem TmRow.step {Q : Nat → Prop} {w wr : World} {g m : Nat} {zs : List TT} {z : TT} (h : TmRow Q w g m zs wr) (hg : w.heap.size ≤ g) (hz : z.In wr) (bz : z.Bl (fun b => b ≠ g ∧ Q b)) (hm : zs.length < m) : TmRow Q w g m (zs ++ [z]) (put7at wr g (zs.length * 7) z) := by
  have hk := put7at_kept (w := wr) (J := g) (o := zs.length * 7) (x := z)
  refine ⟨?_, by rw [put7at_size]; exact h.lt, fun q hq => ?_, fun y hy => ?_, fun i hi => ?_, fun i => ?_⟩
  · exact h.bel.trans ((hk.below (by simp) (Nat.le_of_lt h.lt)).mono hg)
  · have hcell : ∀ i, i < 7 → ∃ v, wr.cell? ⟨g, q * 7 + i, none⟩ = some v := fun i hi => h.any _ (by simp at hq; omega)
    by_cases e : q = zs.length
    · subst e
      have hzz : (zs ++ [z])[zs.length] = z := by simp
      rw [hzz]
      obtain ⟨v0, h0⟩ := hcell 0 (by omega)
      obtain ⟨v1, h1⟩ := hcell 1 (by omega)
      obtain ⟨v2, h2⟩ := hcell 2 (by omega)
      obtain ⟨v3, h3⟩ := hcell 3 (by omega)
      obtain ⟨v4, h4⟩ := hcell 4 (by omega)
      obtain ⟨v5, h5⟩ := hcell 5 (by omega)
      obtain ⟨v6, h6⟩ := hcell 6 (by omega)
      refine ⟨?_, ?_, ?_, ?_, ?_, ?_, ?_⟩
      · simpa using put7at_get (o := zs.length * 7) z h0
      · simpa using put7at_get (o := zs.length * 7) z h1
      · simpa using put7at_get (o := zs.length * 7) z h2
      · simpa using put7at_get (o := zs.length * 7) z h3
      · simpa using put7at_get (o := zs.length * 7) z h4
      · simpa using put7at_get (o := zs.length * 7) z h5
      · simpa using put7at_get (o := zs.length * 7) z h6
    · have hq' : q < zs.length := by simp at hq; omega
      have hzz : (zs ++ [z])[q] = zs[q] := by rw [List.getElem_append_left hq']
      rw [hzz]
      obtain ⟨c0, c1, c2, c3, c4, c5, c6⟩ := h.is q hq'
      have key : ∀ i u, i < 7 → wr.cell? ⟨g, q * 7 + i, none⟩ = some u → (put7at wr g (zs.length * 7) z).cell? ⟨g, q * 7 + i, none⟩ = some u := by
        intro i u hi hu
        have := put7at_get (o := zs.length * 7) z hu
        rw [if_neg (by omega), if_neg (by omega), if_neg (by omega), if_neg (by omega), if_neg (by omega), if_neg (by omega), if_neg (by omega)] at this
        exact this
      exact ⟨key 0 _ (by omega) c0, key 1 _ (by omega) c1, key 2 _ (by omega) c2, key 3 _ (by omega) c3, key 4 _ (by omega) c4, key 5 _ (by omega) c5, key 6 _ (by omega) c6⟩
  · rcases List.mem_append.1 hy with hy | hy
    · exact ⟨(h.ins y hy).1.keptR hk ((h.ins y hy).2.mono fun b hb => hb.1), (h.ins y hy).2⟩
    · rcases List.mem_singleton.1 hy with rfl
      exact ⟨hz.keptR hk (bz.mono fun b hb => hb.1), bz⟩
  · obtain ⟨v, hv⟩ := h.any i hi
    exact ⟨_, put7at_get z hv⟩
  · simp only [put7at, World.frozen?_setCell]
    exact h.fz i
/-- A row that is full is a term's list. -/
theorem TmRow.tree {Q : Nat → Prop} {w wr : World} {g m : Nat} {zs : List TT} (h : TmRow Q w g m zs wr) (hQ : Q g) (k n : Int) (t f : Tr) (c : Nat) (ht : t.In wr) (hf : f.In wr) (bt : t.Bl Q) (bf : f.Bl Q) :
    (TT.mk k n t f (some ⟨g, 0, none⟩) c zs).In wr ∧ (TT.mk k n t f (some ⟨g, 0, none⟩) c zs).Bl Q :=
  ⟨TT.In_mk.2 ⟨ht, hf, fun j hj => ⟨g, 0, rfl, by simpa using h.is j hj⟩, fun x hx => (h.ins x hx).1⟩, TT.Bl_mk.2 ⟨bt, bf, fun _ y hy => by cases hy; exact hQ, fun x hx => (h.ins x hx).2.mono fun b hb => hb.2⟩⟩
end Go.Proofs.YtnddkmccagiclabGreatDoor

/-
  What the call of check's castAll answers: the parts' terms in a row of their own, cast to what they are used as.
-/
namespace Go.Proofs.YtnddkmccagiclabGreatDoor
open Go.RowKit
theorem Tryz.info27c : (Tryz.prog.info? 27).map (fun i => (i.zero, i.size, i.bytes)) = some (some (.agg #[.int .i64 0, .int .i64 0, .int .i64 0, .slice none 0 0, .int .i64 0, .slice none 0 0, .slice none 0 0]), 7, 104) := by kernel_rfl
theorem makeT (n : Nat) (hn : n ≤ 1000) (w : World) : (Instr.makeSlice 25 (.int .i64 (n : Int)) (.int .i64 (n : Int))).run Tryz.prog w = .ok (.slice (some ⟨w.heap.size, 0, none⟩) n n) (w.alloc (.cells (madeCells #[.int .i64 0, .int .i64 0, .int .i64 0, .slice none 0 0, .int .i64 0, .slice none 0 0, .slice none 0 0] (n * 7)) 27)) := by
  obtain ⟨i0, hi0, hz0, hz1, hz2⟩ := info_parts Tryz.info27c
  have h := run_make (P := Tryz.prog) w 25 27 i0 _ Tryz.underlying25 hi0 hz0 .i64 .i64 (n : Int) (n : Int) (by omega) (by omega) (by rw [hz2]; omega) (by omega)
  rw [h, hz1]
  rfl
set_option maxRecDepth 20000 in
set_option maxHeartbeats 4000000 in
/-- castAll. -/
theorem castAll_any (Q : Nat → Prop) (rs : List Rd) (a : Option Addr) (c : Nat) (U : Tr) (w : World) (hr : RL w a rs) (hU : U.In w) (hl : rs.length = U.l.length) (h3 : rs.length ≤ 1000) (hok : ∀ r, r ∈ rs → r.i.right ∧ r.i.hgt ≤ 1000 ∧ r.i.sm) (hu : ∀ u, u ∈ U.l → u.right ∧ u.hgt ≤ 1000)
    (hQ : ∀ b, w.heap.size ≤ b → Q b) (hyQ : ∀ r, r ∈ rs → r.y.Bl Q) :
    Calls Tryz.prog 70 #[.slice a rs.length c, .slice U.a U.l.length U.c] w fun e w' => ∃ zs : List TT, e = .returned (.slice (some ⟨w.heap.size, 0, none⟩) rs.length rs.length) ∧ TmRow Q w w.heap.size rs.length zs w' ∧ zs.length = rs.length ∧ ∀ q (h : q < zs.length) (h1 : q < rs.length) (h2 : q < U.l.length), zs[q].tm = castY rs[q].n rs[q].y.tm rs[q].i.ty U.l[q].ty := by
  have hmk := makeT rs.length h3
  have HF : Hid (∀ j (h : j < rs.length) (h' : j < U.l.length) (W : World), rs[j].y.In W → rs[j].i.In W → U.l[j].In W → Calls Tryz.prog 109 #[.agg #[.int .i64 rs[j].n, .int .i64 rs[j].y.k, .int .i64 rs[j].y.n, .int .i64 rs[j].y.t.k, .slice rs[j].y.t.a rs[j].y.t.l.length rs[j].y.t.c, .int .i64 rs[j].y.f.k, .slice rs[j].y.f.a rs[j].y.f.l.length rs[j].y.f.c, .slice rs[j].y.a rs[j].y.l.length rs[j].y.c, .int .i64 rs[j].i.k, .slice rs[j].i.a rs[j].i.l.length rs[j].i.c], .agg #[.int .i64 U.l[j].k, .slice U.l[j].a U.l[j].l.length U.l[j].c]] W (CPost rs[j] U.l[j] W)) :=
    fun j h h' W h0 h1 h2 => cast_any _ _ W h2 h1 h0 (hok _ (List.getElem_mem h)).2.1 (hok _ (List.getElem_mem h)).2.2 (hok _ (List.getElem_mem h)).1 (hu _ (List.getElem_mem h')).1 (hu _ (List.getElem_mem h')).2
  have HR : Hid (RL w a rs) := hr
  have HU : Hid (U.In w) := hU
  have HL : Hid (rs.length = U.l.length) := hl
  have HQ0 : Hid ((∀ b, w.heap.size ≤ b → Q b) ∧ ∀ r, r ∈ rs → r.y.Bl Q) := ⟨hQ, hyQ⟩
  have HT : Hid (TmRow Q w w.heap.size rs.length [] (w.alloc (.cells (madeCells #[.int .i64 0, .int .i64 0, .int .i64 0, .slice none 0 0, .int .i64 0, .slice none 0 0, .slice none 0 0] (rs.length * 7)) 27))) := TmRow.start Q w rs.length
  clear hr hU hl hok hu hQ hyQ
  go_enter Tryz.func70, Tryz.ntmps70
  go_wp2_with fail
  go_loopg [13] rs.length (fun g i wr => ∃ (j : Nat) (zs : List TT), g + j = rs.length ∧ i = .int .i64 (j : Int) ∧ Hid (TmRow Q w w.heap.size rs.length zs wr ∧ zs.length = j ∧ ∀ q (h : q < zs.length) (h1 : q < rs.length) (h2 : q < U.l.length), zs[q].tm = castY rs[q].n rs[q].y.tm rs[q].i.ty U.l[q].ty))
  case atStart => exact ⟨0, [], by omega, rfl, HT.out, rfl, fun q h => absurd h (by simp)⟩
  case round =>
    obtain ⟨j, zs, hj, rfl, HQ⟩ := hrel
    by_cases hlt : j < rs.length
    · have hlt' : j < U.l.length := HL.out ▸ hlt
      obtain ⟨b, o, ea, h10, hy, hi⟩ := HR.out j hlt
      obtain ⟨b', o', eb, u0, u1, hu⟩ := HU.out.part j hlt'
      have hb := HQ.out.1.bel
      have hb'l : b' < w.heap.size := World.block_lt_of_cell? _ _ u0
      have h11 := h10.below hb
      obtain ⟨d0, ⟨d1, d2, d3, d4, d5, d6, d7⟩, d8, d9⟩ := h11
      replace u0 := cell_later hb u0
      replace u1 := cell_later hb u1
      have i1 : (j : Int) < (rs.length : Int) := by omega
      have i2 : (j : Int) < (U.l.length : Int) := by omega
      have i0 : (0 : Int) ≤ (j : Int) := by omega
      have HEA : Hid (a = some ⟨b, o, none⟩) := ea
      have HEB : Hid (U.a = some ⟨b', o', none⟩) := eb
      rw [ea, eb]
      clear ea eb
      obtain ⟨r, hre⟩ : ∃ r, rs[j] = r := ⟨_, rfl⟩
      obtain ⟨u, hue⟩ : ∃ u, U.l[j] = u := ⟨_, rfl⟩
      have HC := HF.out j hlt hlt'
      have hyl := hy.bl
      have hyq := HQ0.out.2 _ (List.getElem_mem hlt)
      rw [hre] at d0 d1 d2 d3 d4 d5 d6 d7 d8 d9 hy hi HC hyl hyq
      rw [hue] at u0 u1 hu HC
      have HRE : Hid (rs[j] = r ∧ U.l[j] = u) := ⟨hre, hue⟩
      obtain ⟨OX, hOX⟩ : ∃ O, O = Obj.cells #[.int .i64 r.n, .int .i64 r.y.k, .int .i64 r.y.n, .int .i64 r.y.t.k, .slice r.y.t.a r.y.t.l.length r.y.t.c, .int .i64 r.y.f.k, .slice r.y.f.a r.y.f.l.length r.y.f.c, .slice r.y.a r.y.l.length r.y.c, .int .i64 r.i.k, .slice r.i.a r.i.l.length r.i.c] 64 := ⟨_, rfl⟩
      have hbA : Below wr.heap.size wr (wr.alloc OX) := (Below.refl _ _).alloc (Nat.le_refl _) _
      have b0 : (wr.alloc OX).cell? ⟨wr.heap.size, 0, none⟩ = some (.int .i64 r.n) := by subst hOX; simp [go_sem]
      have b1 : (wr.alloc OX).cell? ⟨wr.heap.size, 1, none⟩ = some (.int .i64 r.y.k) := by subst hOX; simp [go_sem]
      have b2 : (wr.alloc OX).cell? ⟨wr.heap.size, 2, none⟩ = some (.int .i64 r.y.n) := by subst hOX; simp [go_sem]
      have b3 : (wr.alloc OX).cell? ⟨wr.heap.size, 3, none⟩ = some (.int .i64 r.y.t.k) := by subst hOX; simp [go_sem]
      have b4 : (wr.alloc OX).cell? ⟨wr.heap.size, 4, none⟩ = some (.slice r.y.t.a r.y.t.l.length r.y.t.c) := by subst hOX; simp [go_sem]
      have b5 : (wr.alloc OX).cell? ⟨wr.heap.size, 5, none⟩ = some (.int .i64 r.y.f.k) := by subst hOX; simp [go_sem]
      have b6 : (wr.alloc OX).cell? ⟨wr.heap.size, 6, none⟩ = some (.slice r.y.f.a r.y.f.l.length r.y.f.c) := by subst hOX; simp [go_sem]
      have b7 : (wr.alloc OX).cell? ⟨wr.heap.size, 7, none⟩ = some (.slice r.y.a r.y.l.length r.y.c) := by subst hOX; simp [go_sem]
      have b8 : (wr.alloc OX).cell? ⟨wr.heap.size, 8, none⟩ = some (.int .i64 r.i.k) := by subst hOX; simp [go_sem]
      have b9 : (wr.alloc OX).cell? ⟨wr.heap.size, 9, none⟩ = some (.slice r.i.a r.i.l.length r.i.c) := by subst hOX; simp [go_sem]
      have v0 := cell_later hbA u0
      have v1 := cell_later hbA u1
      have hbE : Below w.heap.size w (wr.alloc OX) := hb.trans (hbA.mono hb.size)
      have HTA : Hid (TmRow Q w w.heap.size rs.length zs (wr.alloc OX)) := HQ.out.1.below hbA
      have HZ : Hid (zs.length = j ∧ ∀ q (h : q < zs.length) (h1 : q < rs.length) (h2 : q < U.l.length), zs[q].tm = castY rs[q].n rs[q].y.tm rs[q].i.ty U.l[q].ty) := HQ.out.2
      have HI : Hid (r.y.In (wr.alloc OX) ∧ r.i.In (wr.alloc OX) ∧ u.In (wr.alloc OX) ∧ r.y.Bl (fun b => b ≠ w.heap.size ∧ Q b)) := ⟨hy.below hbE, hi.below hbE, hu.below hbE, (hyl.and hyq).mono fun b hb => ⟨by omega, hb.2⟩⟩
      have HCC : Hid (∀ (W : World), r.y.In W → r.i.In W → u.In W → Calls Tryz.prog 109 #[.agg #[.int .i64 r.n, .int .i64 r.y.k, .int .i64 r.y.n, .int .i64 r.y.t.k, .slice r.y.t.a r.y.t.l.length r.y.t.c, .int .i64 r.y.f.k, .slice r.y.f.a r.y.f.l.length r.y.f.c, .slice r.y.a r.y.l.length r.y.c, .int .i64 r.i.k, .slice r.i.a r.i.l.length r.i.c], .agg #[.int .i64 u.k, .slice u.a u.l.length u.c]] W (CPost r u W)) := HC
      have hwl : w.heap.size < wr.heap.size := HQ.out.1.lt
      have nw : wr.heap.size ≠ w.heap.size := by omega
      have nw2 : b' ≠ w.heap.size := by omega
      have HJ : Hid (j < rs.length ∧ w.heap.size < (wr.alloc OX).heap.size) := ⟨hlt, HTA.out.lt⟩
      clear hbA u0 u1 hi hu h10 hy HQ hbE hyl hyq HC hre hue hwl hb
      subst hOX
      go_wp2_with fail
      clear d0 d1 d2 d3 d4 d5 d6 d7 d8 d9
      generalize (wr.alloc (.cells #[.int .i64 r.n, .int .i64 r.y.k, .int .i64 r.y.n, .int .i64 r.y.t.k, .slice r.y.t.a r.y.t.l.length r.y.t.c, .int .i64 r.y.f.k, .slice r.y.f.a r.y.f.l.length r.y.f.c, .slice r.y.a r.y.l.length r.y.c, .int .i64 r.i.k, .slice r.i.a r.i.l.length r.i.c] 64)) = WA at *
      have HS : Hid (∀ w2, Below WA.drew.heap.size WA.drew w2 → w2.cell? ⟨wr.heap.size, 0, none⟩ = some (.int .i64 r.n) ∧ w2.cell? ⟨wr.heap.size, 1, none⟩ = some (.int .i64 r.y.k) ∧ w2.cell? ⟨wr.heap.size, 2, none⟩ = some (.int .i64 r.y.n) ∧ w2.cell? ⟨wr.heap.size, 3, none⟩ = some (.int .i64 r.y.t.k) ∧ w2.cell? ⟨wr.heap.size, 4, none⟩ = some (.slice r.y.t.a r.y.t.l.length r.y.t.c) ∧ w2.cell? ⟨wr.heap.size, 5, none⟩ = some (.int .i64 r.y.f.k) ∧ w2.cell? ⟨wr.heap.size, 6, none⟩ = some (.slice r.y.f.a r.y.f.l.length r.y.f.c) ∧ w2.cell? ⟨wr.heap.size, 7, none⟩ = some (.slice r.y.a r.y.l.length r.y.c) ∧ w2.cell? ⟨wr.heap.size, 8, none⟩ = some (.int .i64 r.i.k) ∧ w2.cell? ⟨wr.heap.size, 9, none⟩ = some (.slice r.i.a r.i.l.length r.i.c) ∧ w2.cell? ⟨b', o' + j * 2, none⟩ = some (.int .i64 u.k) ∧ w2.cell? ⟨b', o' + j * 2 + 1, none⟩ = some (.slice u.a u.l.length u.c)) :=
        fun w2 hb2 => ⟨cell_later hb2 b0, cell_later hb2 b1, cell_later hb2 b2, cell_later hb2 b3, cell_later hb2 b4, cell_later hb2 b5, cell_later hb2 b6, cell_later hb2 b7, cell_later hb2 b8, cell_later hb2 b9, cell_later hb2 v0, cell_later hb2 v1⟩
      have HAN : Hid (∀ w2, Below WA.drew.heap.size WA.drew w2 → (∃ v, w2.cell? ⟨w.heap.size, j * 7, none⟩ = some v) ∧ (∃ v, w2.cell? ⟨w.heap.size, j * 7 + 1, none⟩ = some v) ∧ (∃ v, w2.cell? ⟨w.heap.size, j * 7 + 2, none⟩ = some v) ∧ (∃ v, w2.cell? ⟨w.heap.size, j * 7 + 3, none⟩ = some v) ∧ (∃ v, w2.cell? ⟨w.heap.size, j * 7 + 4, none⟩ = some v) ∧ (∃ v, w2.cell? ⟨w.heap.size, j * 7 + 5, none⟩ = some v) ∧ (∃ v, w2.cell? ⟨w.heap.size, j * 7 + 6, none⟩ = some v) ∧ w2.frozen? ⟨w.heap.size, j * 7, none⟩ = false ∧ w2.frozen? ⟨w.heap.size, j * 7 + 1, none⟩ = false ∧ w2.frozen? ⟨w.heap.size, j * 7 + 2, none⟩ = false ∧ w2.frozen? ⟨w.heap.size, j * 7 + 3, none⟩ = false ∧ w2.frozen? ⟨w.heap.size, j * 7 + 4, none⟩ = false ∧ w2.frozen? ⟨w.heap.size, j * 7 + 5, none⟩ = false ∧ w2.frozen? ⟨w.heap.size, j * 7 + 6, none⟩ = false ∧ Hid (TmRow Q w w.heap.size rs.length zs w2)) := by
        intro w2 hb2
        have hT2 := HTA.out.below (((Below.refl _ _).drew).trans (hb2.mono (Nat.le_refl _)))
        have hj7 : j * 7 + 6 < rs.length * 7 := by have := HJ.out.1; omega
        exact ⟨hT2.any _ (by omega), hT2.any _ (by omega), hT2.any _ (by omega), hT2.any _ (by omega), hT2.any _ (by omega), hT2.any _ (by omega), hT2.any _ (by omega), hT2.fz _, hT2.fz _, hT2.fz _, hT2.fz _, hT2.fz _, hT2.fz _, hT2.fz _, hT2⟩
      have HS0 : Hid (WA.cell? ⟨wr.heap.size, 0, none⟩ = some (.int .i64 r.n) ∧ WA.cell? ⟨wr.heap.size, 1, none⟩ = some (.int .i64 r.y.k) ∧ WA.cell? ⟨wr.heap.size, 2, none⟩ = some (.int .i64 r.y.n) ∧ WA.cell? ⟨wr.heap.size, 3, none⟩ = some (.int .i64 r.y.t.k) ∧ WA.cell? ⟨wr.heap.size, 4, none⟩ = some (.slice r.y.t.a r.y.t.l.length r.y.t.c) ∧ WA.cell? ⟨wr.heap.size, 5, none⟩ = some (.int .i64 r.y.f.k) ∧ WA.cell? ⟨wr.heap.size, 6, none⟩ = some (.slice r.y.f.a r.y.f.l.length r.y.f.c) ∧ WA.cell? ⟨wr.heap.size, 7, none⟩ = some (.slice r.y.a r.y.l.length r.y.c) ∧ WA.cell? ⟨wr.heap.size, 8, none⟩ = some (.int .i64 r.i.k) ∧ WA.cell? ⟨wr.heap.size, 9, none⟩ = some (.slice r.i.a r.i.l.length r.i.c) ∧ WA.cell? ⟨b', o' + j * 2, none⟩ = some (.int .i64 u.k) ∧ WA.cell? ⟨b', o' + j * 2 + 1, none⟩ = some (.slice u.a u.l.length u.c)) := ⟨b0, b1, b2, b3, b4, b5, b6, b7, b8, b9, v0, v1⟩
      have HS1 : Hid (WA.drew.cell? ⟨wr.heap.size, 0, none⟩ = some (.int .i64 r.n) ∧ WA.drew.cell? ⟨wr.heap.size, 1, none⟩ = some (.int .i64 r.y.k) ∧ WA.drew.cell? ⟨wr.heap.size, 2, none⟩ = some (.int .i64 r.y.n) ∧ WA.drew.cell? ⟨wr.heap.size, 3, none⟩ = some (.int .i64 r.y.t.k) ∧ WA.drew.cell? ⟨wr.heap.size, 4, none⟩ = some (.slice r.y.t.a r.y.t.l.length r.y.t.c) ∧ WA.drew.cell? ⟨wr.heap.size, 5, none⟩ = some (.int .i64 r.y.f.k) ∧ WA.drew.cell? ⟨wr.heap.size, 6, none⟩ = some (.slice r.y.f.a r.y.f.l.length r.y.f.c) ∧ WA.drew.cell? ⟨wr.heap.size, 7, none⟩ = some (.slice r.y.a r.y.l.length r.y.c) ∧ WA.drew.cell? ⟨wr.heap.size, 8, none⟩ = some (.int .i64 r.i.k) ∧ WA.drew.cell? ⟨wr.heap.size, 9, none⟩ = some (.slice r.i.a r.i.l.length r.i.c) ∧ WA.drew.cell? ⟨b', o' + j * 2, none⟩ = some (.int .i64 u.k) ∧ WA.drew.cell? ⟨b', o' + j * 2 + 1, none⟩ = some (.slice u.a u.l.length u.c)) := ⟨b0, b1, b2, b3, b4, b5, b6, b7, b8, b9, v0, v1⟩
      have HSP : Hid (∀ w2 a0 a1 a2 a3 a4 a5 a6, Below WA.drew.heap.size WA.drew w2 → (((((((w2.setCell ⟨w.heap.size, j * 7, none⟩ a0).setCell ⟨w.heap.size, j * 7 + 1, none⟩ a1).setCell ⟨w.heap.size, j * 7 + 2, none⟩ a2).setCell ⟨w.heap.size, j * 7 + 3, none⟩ a3).setCell ⟨w.heap.size, j * 7 + 4, none⟩ a4).setCell ⟨w.heap.size, j * 7 + 5, none⟩ a5).setCell ⟨w.heap.size, j * 7 + 6, none⟩ a6).cell? ⟨wr.heap.size, 0, none⟩ = some (.int .i64 r.n) ∧ (((((((w2.setCell ⟨w.heap.size, j * 7, none⟩ a0).setCell ⟨w.heap.size, j * 7 + 1, none⟩ a1).setCell ⟨w.heap.size, j * 7 + 2, none⟩ a2).setCell ⟨w.heap.size, j * 7 + 3, none⟩ a3).setCell ⟨w.heap.size, j * 7 + 4, none⟩ a4).setCell ⟨w.heap.size, j * 7 + 5, none⟩ a5).setCell ⟨w.heap.size, j * 7 + 6, none⟩ a6).cell? ⟨wr.heap.size, 1, none⟩ = some (.int .i64 r.y.k) ∧ (((((((w2.setCell ⟨w.heap.size, j * 7, none⟩ a0).setCell ⟨w.heap.size, j * 7 + 1, none⟩ a1).setCell ⟨w.heap.size, j * 7 + 2, none⟩ a2).setCell ⟨w.heap.size, j * 7 + 3, none⟩ a3).setCell ⟨w.heap.size, j * 7 + 4, none⟩ a4).setCell ⟨w.heap.size, j * 7 + 5, none⟩ a5).setCell ⟨w.heap.size, j * 7 + 6, none⟩ a6).cell? ⟨wr.heap.size, 2, none⟩ = some (.int .i64 r.y.n) ∧ (((((((w2.setCell ⟨w.heap.size, j * 7, none⟩ a0).setCell ⟨w.heap.size, j * 7 + 1, none⟩ a1).setCell ⟨w.heap.size, j * 7 + 2, none⟩ a2).setCell ⟨w.heap.size, j * 7 + 3, none⟩ a3).setCell ⟨w.heap.size, j * 7 + 4, none⟩ a4).setCell ⟨w.heap.size, j * 7 + 5, none⟩ a5).setCell ⟨w.heap.size, j * 7 + 6, none⟩ a6).cell? ⟨wr.heap.size, 3, none⟩ = some (.int .i64 r.y.t.k) ∧ (((((((w2.setCell ⟨w.heap.size, j * 7, none⟩ a0).setCell ⟨w.heap.size, j * 7 + 1, none⟩ a1).setCell ⟨w.heap.size, j * 7 + 2, none⟩ a2).setCell ⟨w.heap.size, j * 7 + 3, none⟩ a3).setCell ⟨w.heap.size, j * 7 + 4, none⟩ a4).setCell ⟨w.heap.size, j * 7 + 5, none⟩ a5).setCell ⟨w.heap.size, j * 7 + 6, none⟩ a6).cell? ⟨wr.heap.size, 4, none⟩ = some (.slice r.y.t.a r.y.t.l.length r.y.t.c) ∧ (((((((w2.setCell ⟨w.heap.size, j * 7, none⟩ a0).setCell ⟨w.heap.size, j * 7 + 1, none⟩ a1).setCell ⟨w.heap.size, j * 7 + 2, none⟩ a2).setCell ⟨w.heap.size, j * 7 + 3, none⟩ a3).setCell ⟨w.heap.size, j * 7 + 4, none⟩ a4).setCell ⟨w.heap.size, j * 7 + 5, none⟩ a5).setCell ⟨w.heap.size, j * 7 + 6, none⟩ a6).cell? ⟨wr.heap.size, 5, none⟩ = some (.int .i64 r.y.f.k) ∧ (((((((w2.setCell ⟨w.heap.size, j * 7, none⟩ a0).setCell ⟨w.heap.size, j * 7 + 1, none⟩ a1).setCell ⟨w.heap.size, j * 7 + 2, none⟩ a2).setCell ⟨w.heap.size, j * 7 + 3, none⟩ a3).setCell ⟨w.heap.size, j * 7 + 4, none⟩ a4).setCell ⟨w.heap.size, j * 7 + 5, none⟩ a5).setCell ⟨w.heap.size, j * 7 + 6, none⟩ a6).cell? ⟨wr.heap.size, 6, none⟩ = some (.slice r.y.f.a r.y.f.l.length r.y.f.c) ∧ (((((((w2.setCell ⟨w.heap.size, j * 7, none⟩ a0).setCell ⟨w.heap.size, j * 7 + 1, none⟩ a1).setCell ⟨w.heap.size, j * 7 + 2, none⟩ a2).setCell ⟨w.heap.size, j * 7 + 3, none⟩ a3).setCell ⟨w.heap.size, j * 7 + 4, none⟩ a4).setCell ⟨w.heap.size, j * 7 + 5, none⟩ a5).setCell ⟨w.heap.size, j * 7 + 6, none⟩ a6).cell? ⟨wr.heap.size, 7, none⟩ = some (.slice r.y.a r.y.l.length r.y.c) ∧ (((((((w2.setCell ⟨w.heap.size, j * 7, none⟩ a0).setCell ⟨w.heap.size, j * 7 + 1, none⟩ a1).setCell ⟨w.heap.size, j * 7 + 2, none⟩ a2).setCell ⟨w.heap.size, j * 7 + 3, none⟩ a3).setCell ⟨w.heap.size, j * 7 + 4, none⟩ a4).setCell ⟨w.heap.size, j * 7 + 5, none⟩ a5).setCell ⟨w.heap.size, j * 7 + 6, none⟩ a6).cell? ⟨wr.heap.size, 8, none⟩ = some (.int .i64 r.i.k) ∧ (((((((w2.setCell ⟨w.heap.size, j * 7, none⟩ a0).setCell ⟨w.heap.size, j * 7 + 1, none⟩ a1).setCell ⟨w.heap.size, j * 7 + 2, none⟩ a2).setCell ⟨w.heap.size, j * 7 + 3, none⟩ a3).setCell ⟨w.heap.size, j * 7 + 4, none⟩ a4).setCell ⟨w.heap.size, j * 7 + 5, none⟩ a5).setCell ⟨w.heap.size, j * 7 + 6, none⟩ a6).cell? ⟨wr.heap.size, 9, none⟩ = some (.slice r.i.a r.i.l.length r.i.c) ∧ (((((((w2.setCell ⟨w.heap.size, j * 7, none⟩ a0).setCell ⟨w.heap.size, j * 7 + 1, none⟩ a1).setCell ⟨w.heap.size, j * 7 + 2, none⟩ a2).setCell ⟨w.heap.size, j * 7 + 3, none⟩ a3).setCell ⟨w.heap.size, j * 7 + 4, none⟩ a4).setCell ⟨w.heap.size, j * 7 + 5, none⟩ a5).setCell ⟨w.heap.size, j * 7 + 6, none⟩ a6).cell? ⟨b', o' + j * 2, none⟩ = some (.int .i64 u.k) ∧ (((((((w2.setCell ⟨w.heap.size, j * 7, none⟩ a0).setCell ⟨w.heap.size, j * 7 + 1, none⟩ a1).setCell ⟨w.heap.size, j * 7 + 2, none⟩ a2).setCell ⟨w.heap.size, j * 7 + 3, none⟩ a3).setCell ⟨w.heap.size, j * 7 + 4, none⟩ a4).setCell ⟨w.heap.size, j * 7 + 5, none⟩ a5).setCell ⟨w.heap.size, j * 7 + 6, none⟩ a6).cell? ⟨b', o' + j * 2 + 1, none⟩ = some (.slice u.a u.l.length u.c)) := by
        intro w2 a0 a1 a2 a3 a4 a5 a6 hb2
        have hp : ∀ k o, k ≠ w.heap.size → (((((((w2.setCell ⟨w.heap.size, j * 7, none⟩ a0).setCell ⟨w.heap.size, j * 7 + 1, none⟩ a1).setCell ⟨w.heap.size, j * 7 + 2, none⟩ a2).setCell ⟨w.heap.size, j * 7 + 3, none⟩ a3).setCell ⟨w.heap.size, j * 7 + 4, none⟩ a4).setCell ⟨w.heap.size, j * 7 + 5, none⟩ a5).setCell ⟨w.heap.size, j * 7 + 6, none⟩ a6).cell? ⟨k, o, none⟩ = w2.cell? ⟨k, o, none⟩ := by
          intro k o hk
          have hk' : w.heap.size ≠ k := fun e => hk e.symm
          rw [World.cell?_setCell_other _ _ _ _ (fun e => hk' (congrArg Addr.block e)), World.cell?_setCell_other _ _ _ _ (fun e => hk' (congrArg Addr.block e)), World.cell?_setCell_other _ _ _ _ (fun e => hk' (congrArg Addr.block e)), World.cell?_setCell_other _ _ _ _ (fun e => hk' (congrArg Addr.block e)), World.cell?_setCell_other _ _ _ _ (fun e => hk' (congrArg Addr.block e)), World.cell?_setCell_other _ _ _ _ (fun e => hk' (congrArg Addr.block e)), World.cell?_setCell_other _ _ _ _ (fun e => hk' (congrArg Addr.block e))]
        have hq := HS.out _ hb2
        exact ⟨(hp _ _ nw).trans hq.1, (hp _ _ nw).trans hq.2.1, (hp _ _ nw).trans hq.2.2.1, (hp _ _ nw).trans hq.2.2.2.1, (hp _ _ nw).trans hq.2.2.2.2.1, (hp _ _ nw).trans hq.2.2.2.2.2.1, (hp _ _ nw).trans hq.2.2.2.2.2.2.1, (hp _ _ nw).trans hq.2.2.2.2.2.2.2.1, (hp _ _ nw).trans hq.2.2.2.2.2.2.2.2.1, (hp _ _ nw).trans hq.2.2.2.2.2.2.2.2.2.1, (hp _ _ nw2).trans hq.2.2.2.2.2.2.2.2.2.2.1, (hp _ _ nw2).trans hq.2.2.2.2.2.2.2.2.2.2.2⟩
      clear b0 b1 b2 b3 b4 b5 b6 b7 b8 b9 v0 v1
      go_region_held3 (fun w' => w'.cell? ⟨wr.heap.size, 0, none⟩ = some (.int .i64 r.n) ∧ w'.cell? ⟨wr.heap.size, 1, none⟩ = some (.int .i64 r.y.k) ∧ w'.cell? ⟨wr.heap.size, 2, none⟩ = some (.int .i64 r.y.n) ∧ w'.cell? ⟨wr.heap.size, 3, none⟩ = some (.int .i64 r.y.t.k) ∧ w'.cell? ⟨wr.heap.size, 4, none⟩ = some (.slice r.y.t.a r.y.t.l.length r.y.t.c) ∧ w'.cell? ⟨wr.heap.size, 5, none⟩ = some (.int .i64 r.y.f.k) ∧ w'.cell? ⟨wr.heap.size, 6, none⟩ = some (.slice r.y.f.a r.y.f.l.length r.y.f.c) ∧ w'.cell? ⟨wr.heap.size, 7, none⟩ = some (.slice r.y.a r.y.l.length r.y.c) ∧ w'.cell? ⟨wr.heap.size, 8, none⟩ = some (.int .i64 r.i.k) ∧ w'.cell? ⟨wr.heap.size, 9, none⟩ = some (.slice r.i.a r.i.l.length r.i.c) ∧ w'.cell? ⟨b', o' + j * 2, none⟩ = some (.int .i64 u.k) ∧ w'.cell? ⟨b', o' + j * 2 + 1, none⟩ = some (.slice u.a u.l.length u.c))
        (first | (with_reducible exact HS0.out) | (with_reducible exact HS1.out) | (with_reducible exact HS.out _ hb2) | (with_reducible exact HSP.out _ _ _ _ _ _ _ _ hb2))
        (first | (go_at_call 109; refine (HCC.out _ (HI.out.1.below ((Below.refl _ _).drew)) (HI.out.2.1.below ((Below.refl _ _).drew)) (HI.out.2.2.1.below ((Below.refl _ _).drew))).mono ?_; rintro e w2 ⟨z, rfl, hz, hzi, hzb, hb2⟩; obtain ⟨⟨y0, x0⟩, ⟨y1, x1⟩, ⟨y2, x2⟩, ⟨y3, x3⟩, ⟨y4, x4⟩, ⟨y5, x5⟩, ⟨y6, x6⟩, f0, f1, f2, f3, f4, f5, f6, HT2⟩ := HAN.out w2 hb2))
      have HN : Hid (TmRow Q w w.heap.size rs.length (zs ++ [z]) (put7at w2 w.heap.size (j * 7) z) ∧ (zs ++ [z]).length = j + 1 ∧ ∀ q (h : q < (zs ++ [z]).length) (h1 : q < rs.length) (h2 : q < U.l.length), (zs ++ [z])[q].tm = castY rs[q].n rs[q].y.tm rs[q].i.ty U.l[q].ty) := by
        have hst := HT2.out.step (z := z) (Nat.le_refl _) hzi (hzb _ (fun b hb => ⟨by have := HJ.out.2; have : w.heap.size < WA.drew.heap.size := this; omega, HQ0.out.1 b (by have := HJ.out.2; have : w.heap.size < WA.drew.heap.size := this; omega)⟩) HI.out.2.2.2) (by rw [HZ.out.1]; exact HJ.out.1)
        rw [HZ.out.1] at hst
        refine ⟨hst, by simp [HZ.out.1], fun q hq h1 h2 => ?_⟩
        by_cases e : q = j
        · subst e
          have : (zs ++ [z])[q] = z := by
            rw [List.getElem_append_right (by rw [HZ.out.1]; exact Nat.le_refl _)]
            simp [HZ.out.1]
          rw [this, hz, HRE.out.1, HRE.out.2]
        · have hq' : q < zs.length := by rw [List.length_append, List.length_singleton] at hq; have := HZ.out.1; omega
          rw [List.getElem_append_left hq']
          exact HZ.out.2 q hq' h1 h2
      clear hz hzi hzb hb2 HTA HZ HI HCC HS HS0 HS1 HSP HT2 x0 x1 x2 x3 x4 x5 x6 f0 f1 f2 f3 f4 f5 f6
      go_wp2_with fail
      rw [← HEA.out, ← HEB.out]
      go_roundg (rs.length - (j + 1))
      case measure => omega
      case rel => exact ⟨j + 1, zs ++ [z], by omega, by go_num, HN⟩
    · have HE := HQ
      clear HQ
      have HJ : Hid (j = rs.length) := by show j = rs.length; omega
      go_wp2_with fail
      go_ret
      exact ⟨zs, rfl, HE.out.1, HE.out.2.1.trans HJ.out, HE.out.2.2⟩
end Go.Proofs.YtnddkmccagiclabGreatDoor
