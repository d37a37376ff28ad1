/-
  What the call of check's ahead answers: a new row, a type ahead of others.
-/
import Derived.Test.YtnddkmccagiclabGreatDoorLot6af9432580
import Derived.Test.YtnddkmccagiclabGreatDoorLot198e6357ab
import Derived.Test.YtnddkmccagiclabGreatDoorLoted756f28d3
import Derived.Deep.AppendLies
import Derived.Test.YtnddkmccagiclabGreatDoorLotd76c694fc3
namespace Go.Proofs.YtnddkmccagiclabGreatDoor
open Go.RowKit
/-- append of nothing, where there is room for nothing. -/
theorem wpList_append_void {P : Program} {ops : Array Oper} {rest : List Oper} {o : Oper} {a : Act} {w : World} {Q : Exit → Act → World → Prop}
    (hg : o.guard = none) (s x : Operand) (t : TypeId) (hop : o.op = Op.call { callee := Callee.builtin Builtin.append, args := #[s, x], argTypes := #[t, t] })
    (e : TypeId) (i : TypeInfo) (h1 : P.underlying t = some (.slice e)) (h2 : P.info? e = some i)
    (b n cap : Nat) (hs : a.eval s = .slice (some ⟨b, 0, none⟩) n cap) (xa : Option Addr) (c : Nat) (hx : a.eval x = .slice xa 0 c) (hroom : n ≤ cap)
    (h : wpList P ops Q rest (a.put o.dst (.slice (some ⟨b, 0, none⟩) n cap)) w) : wpList P ops Q (o :: rest) a w := by
  refine wpList_plain hg fun K hK => ?_
  have hsrc : Src P i.size t (.slice xa 0 c) 0 [] w := by
    cases xa with
    | none => exact Src.ofNil w h1 c
    | some ad => exact Src.ofSlice w h1 ad 0 c [] (by simp) (fun j u h => by simp at h) (fun u h => by cases h)
  have hrun := run_append_room_src (P := P) w t t o.type e i h1 h2 b 0 n cap (.slice xa 0 c) 0 [] hsrc (by omega) (fun j h => by simp at h) (fun j h => by simp at h)
  unfold Oper.wp
  simp only [execOp, hop, resolve, invoke, builtin, Sem.run_bind, Sem.run_pure, Result.andThen_ok, List.map_toArray, List.map_cons, List.map_nil, hs, hx, hrun]
  exact hK _ _ h
theorem cellsOf_at : ∀ (l : List Tr) (q : Nat) (h : q < l.length), (cellsOf l)[q * 2]? = some (.int .i64 l[q].k) ∧ (cellsOf l)[q * 2 + 1]? = some (.slice l[q].a l[q].l.length l[q].c)
  | [], q, h => by simp at h
  | x :: r, 0, _ => by simp [cellsOf]
  | x :: r, q + 1, h => by
    have := cellsOf_at r q (by simpa using h)
    have e : (q + 1) * 2 = q * 2 + 1 + 1 := by omega
    rw [e]
    simpa [cellsOf] using this
theorem cellsOf_one : ∀ (l : List Tr) (u : Value), u ∈ cellsOf l → u.oneCell' = true
  | [], u, h => by simp [cellsOf] at h
  | x :: r, u, h => by
    simp only [cellsOf, List.mem_cons] at h
    rcases h with rfl | rfl | h
    · simp [Value.oneCell']
    · simp [Value.oneCell']
    · exact cellsOf_one r u h
theorem cellsOf_news {w : World} {T : Tr} {b o : Nat} (h : T.In w) (ha : T.a = some ⟨b, o, none⟩) (j : Nat) (u : Value) (hj : (cellsOf T.l)[j]? = some u) : w.cell? ((⟨b, o, none⟩ : Addr).add j) = some u := by
  have hlt : j < T.l.length * 2 := by
    have := (List.getElem?_eq_some_iff.1 hj).1
    rwa [cellsOf_length] at this
  obtain ⟨b', o', e, c0, c1, _⟩ := h.part (j / 2) (by omega)
  rw [ha] at e
  cases e
  obtain ⟨d0, d1⟩ := cellsOf_at T.l (j / 2) (by omega)
  have hadd : (⟨b, o, none⟩ : Addr).add j = ⟨b, o + j, none⟩ := by
    unfold Addr.add
    split
    · rename_i h; simp_all
    · rfl
  rcases Nat.mod_two_eq_zero_or_one j with hm | hm
  · have e : j / 2 * 2 = j := by omega
    rw [e] at d0 c0
    rw [hj] at d0
    rw [Option.some.inj d0]
    rw [hadd]
    exact c0
  · have e : j / 2 * 2 + 1 = j := by omega
    have e' : o + j / 2 * 2 + 1 = o + j := by omega
    rw [e] at d1
    rw [e'] at c1
    rw [hj] at d1
    rw [Option.some.inj d1]
    rw [hadd]
    exact c1
/-- A row of types that is owned is a tree's list. -/
theorem tr_of_row {w : World} {base g cap n : Nat} {l : List Tr} (h : w.ownsRow base 24 2 (.slice (some ⟨g, 0, none⟩) n cap) n (cellsOf l)) (hn : n = l.length) (hin : ∀ t, t ∈ l → t.In w) (k : Int) : (Tr.mk k (some ⟨g, 0, none⟩) cap l).In w := by
  refine Tr.In_mk.2 ⟨fun j hj => ⟨g, 0, rfl, ?_, ?_⟩, hin⟩
  · rw [h.cellAt _ (by omega)]
    simpa using (cellsOf_at l j hj).1
  · rw [h.cellAt _ (by omega)]
    simpa [Tr.sl] using (cellsOf_at l j hj).2
set_option maxRecDepth 20000 in
set_option maxHeartbeats 1000000 in
theorem ahead_any (x T : Tr) (w : World) (hx : x.In w) (hT : T.In w) (hl : T.l.length ≤ 1000) :
    Calls Tryz.prog 65 #[.agg #[.int .i64 x.k, .slice x.a x.l.length x.c], .slice T.a T.l.length T.c] w fun e w' => ∃ N : Tr, e = .returned (.slice N.a N.l.length N.c) ∧ N.l = x :: T.l ∧ N.In w' ∧ (∀ y, N.a = some y → w.heap.size ≤ y.block) ∧ Below w.heap.size w w' := by
  obtain ⟨i0, hi0, hz0, hz1, hz2⟩ := info_parts Tryz.info24
  have hb0 : Below w.heap.size w ((w.alloc (.cells #[.int .i64 x.k, .slice x.a x.l.length x.c] 24)).alloc (.cells #[.int .i64 x.k, .slice x.a x.l.length x.c] 24)) := ((Below.refl _ _).alloc (Nat.le_refl _) _).alloc (by simp) _
  have hown : ((w.alloc (.cells #[.int .i64 x.k, .slice x.a x.l.length x.c] 24)).alloc (.cells #[.int .i64 x.k, .slice x.a x.l.length x.c] 24)).ownsRow (w.heap.size + 1) 24 2 (.slice (some ⟨w.heap.size + 1, 0, none⟩) 1 1) 1 (cellsOf [x]) := by
    have := World.ownsRow_lit (base := w.heap.size + 1) (e := 24) (size := 2) (w.alloc (.cells #[.int .i64 x.k, .slice x.a x.l.length x.c] 24)) #[.int .i64 x.k, .slice x.a x.l.length x.c] 1 (by simp) (by unfold maxLen; omega) (by simp)
    simpa [cellsOf] using this
  by_cases h0 : T.l.length = 0
  · have hT0 : T.l = [] := List.eq_nil_of_length_eq_zero h0
    have HE : Hid ((Tr.mk 0 (some ⟨w.heap.size + 1, 0, none⟩) 1 [x]).In ((w.alloc (.cells #[.int .i64 x.k, .slice x.a x.l.length x.c] 24)).alloc (.cells #[.int .i64 x.k, .slice x.a x.l.length x.c] 24)) ∧ Below w.heap.size w ((w.alloc (.cells #[.int .i64 x.k, .slice x.a x.l.length x.c] 24)).alloc (.cells #[.int .i64 x.k, .slice x.a x.l.length x.c] 24))) :=
      ⟨tr_of_row hown rfl (fun t ht => by have : t = x := (by simpa using ht); subst this; exact hx.below hb0) 0, hb0⟩
    rw [h0]
    clear hown hb0 hx hT hl
    go_enter Tryz.func65, Tryz.ntmps65
    go_wp2_with (at_builtin; refine wpList_append_void rfl _ _ _ rfl 24 i0 Tryz.underlying22 hi0 (w.heap.size + 1) 1 1 rfl T.a T.c rfl (by omega) ?_)
    go_ret
    exact ⟨_, rfl, by rw [hT0], HE.out.1, fun y hy => by cases hy; show w.heap.size ≤ w.heap.size + 1; omega, HE.out.2⟩
  · obtain ⟨b, o, ea, _⟩ := hT.part 0 (by omega)
    have hT1 := hT.below hb0
    have hnews := fun j u h => cellsOf_news hT1 ea j u h
    have HIN : Hid (∀ t, t ∈ x :: T.l → t.In ((w.alloc (.cells #[.int .i64 x.k, .slice x.a x.l.length x.c] 24)).alloc (.cells #[.int .i64 x.k, .slice x.a x.l.length x.c] 24)) ∧ t.Bl (· < w.heap.size)) := by
      intro t ht
      rcases List.mem_cons.1 ht with rfl | ht
      · exact ⟨hx.below hb0, hx.bl⟩
      · obtain ⟨q, hq, rfl⟩ := List.getElem_of_mem ht
        obtain ⟨_, _, _, _, _, hi⟩ := hT.part q hq
        exact ⟨hi.below hb0, hi.bl⟩
    have hm : 0 < T.l.length := by omega
    have HB : Hid (Below w.heap.size w ((w.alloc (.cells #[.int .i64 x.k, .slice x.a x.l.length x.c] 24)).alloc (.cells #[.int .i64 x.k, .slice x.a x.l.length x.c] 24))) := hb0
    rw [ea]
    clear hx hT hT1 ea hb0
    go_enter Tryz.func65, Tryz.ntmps65
    go_wp2_with (at_builtin; refine wpList_append_lies _ rfl _ _ _ rfl (w.heap.size + 1) 24 i0 _ 2 32 Tryz.underlying22 hi0 hz0 hz1 hz2 rfl (by omega) (.slice (some ⟨w.heap.size + 1, 0, none⟩) 1 1) 1 (cellsOf [x]) rfl hown ⟨b, o, none⟩ T.l.length T.c (cellsOf T.l) rfl (cellsOf_length _) hnews (cellsOf_one _) hm (by unfold maxLen; omega) (by omega) (by simp) (w.heap.size + 1 + 1) (by simp) ?_; intro gg cap1 w3 hown1 hgrow hat hlt3)
    have hg : w.heap.size + 1 ≤ gg := by rcases hat with h | h
                                         · simp [Value.ownBlock] at h; omega
                                         · omega
    have hsz := hgrow.size
    have hlow : Below (w.heap.size + 1) ((w.alloc (.cells #[.int .i64 x.k, .slice x.a x.l.length x.c] 24)).alloc (.cells #[.int .i64 x.k, .slice x.a x.l.length x.c] 24)) w3 :=
      ⟨hgrow.os, hgrow.tape, hgrow.output, hgrow.size, fun q hq => hgrow.block q (by simp; omega) (by simp [Value.ownBlock]; omega)⟩
    have HE : Hid ((Tr.mk 0 (some ⟨gg, 0, none⟩) cap1 (x :: T.l)).In w3 ∧ Below w.heap.size w w3) := by
      refine ⟨tr_of_row (n := 1 + T.l.length) (l := x :: T.l) (by simpa [cellsOf] using hown1) (by simp; omega) (fun t ht => ?_) 0, HB.out.trans (hlow.mono (by omega))⟩
      obtain ⟨h1, h2⟩ := HIN.out t ht
      exact Tr.In.congr (P := fun q => q < w.heap.size) (fun q hq o => hlow.cell (p := ⟨q, o, none⟩) (by show q < _; omega)) h2 h1
    clear hown1 hgrow hat hlt3 hlow hown hnews HIN HB
    go_wp2_with fail
    go_ret
    exact ⟨⟨0, some ⟨gg, 0, none⟩, cap1, x :: T.l⟩, by simp [Nat.add_comm], rfl, HE.out.1, fun y hy => by cases hy; show w.heap.size ≤ gg; omega, HE.out.2⟩
end Go.Proofs.YtnddkmccagiclabGreatDoor

/-
  Small things for the walk of check's read: its frame, its boxes, what its parts make together; no program's run in it.
-/
namespace Go.Proofs.YtnddkmccagiclabGreatDoor
open Go.RowKit
/-- The term's box, and the place of the answer. -/
structure RF (H : Nat) (x : TT) (W : World) : Prop where
  at7 : At7 W H 0 x
  z0 : W.cell? ⟨H + 1, 0, none⟩ = some (.int .i64 0)
  z1 : W.cell? ⟨H + 1, 1, none⟩ = some (.int .i64 0)
  z2 : W.cell? ⟨H + 1, 2, none⟩ = some (.int .i64 0)
  z3 : W.cell? ⟨H + 1, 3, none⟩ = some (.int .i64 0)
  z4 : W.cell? ⟨H + 1, 4, none⟩ = some (.slice none 0 0)
  z5 : W.cell? ⟨H + 1, 5, none⟩ = some (.int .i64 0)
  z6 : W.cell? ⟨H + 1, 6, none⟩ = some (.slice none 0 0)
  z7 : W.cell? ⟨H + 1, 7, none⟩ = some (.slice none 0 0)
  z8 : W.cell? ⟨H + 1, 8, none⟩ = some (.int .i64 0)
  z9 : W.cell? ⟨H + 1, 9, none⟩ = some (.slice none 0 0)
  fz : ∀ i, W.frozen? ⟨H + 1, i, none⟩ = false
theorem RF.lt {H : Nat} {x : TT} {W : World} (h : RF H x W) : H + 1 < W.heap.size := World.block_lt_of_cell? _ _ h.z0
theorem RF.kept {H R : Nat} {x : TT} {W W' : World} (h : RF H x W) (hk : Kept R none W W') (h1 : H ≠ R) (h2 : H + 1 ≠ R) : RF H x W' :=
  ⟨h.at7.keptR hk h1, hk.cell h.z0 h2, hk.cell h.z1 h2, hk.cell h.z2 h2, hk.cell h.z3 h2, hk.cell h.z4 h2, hk.cell h.z5 h2, hk.cell h.z6 h2, hk.cell h.z7 h2, hk.cell h.z8 h2, hk.cell h.z9 h2, fun i => hk.fz (h.fz i) h.lt h2⟩
theorem RF.below {H : Nat} {x : TT} {W W' : World} (h : RF H x W) (hb : Below W.heap.size W W') : RF H x W' :=
  ⟨h.at7.below hb, cell_later hb h.z0, cell_later hb h.z1, cell_later hb h.z2, cell_later hb h.z3, cell_later hb h.z4, cell_later hb h.z5, cell_later hb h.z6, cell_later hb h.z7, cell_later hb h.z8, cell_later hb h.z9, fun i => (hb.frozen (p := ⟨H + 1, i, none⟩) h.lt).trans (h.fz i)⟩
theorem RF.start (x : TT) (w : World) : RF w.heap.size x ((w.alloc (.cells #[.int .i64 x.k, .int .i64 x.n, .int .i64 x.t.k, .slice x.t.a x.t.l.length x.t.c, .int .i64 x.f.k, .slice x.f.a x.f.l.length x.f.c, .slice x.a x.l.length x.c] 27)).alloc (.cells #[.int .i64 0, .int .i64 0, .int .i64 0, .int .i64 0, .slice none 0 0, .int .i64 0, .slice none 0 0, .slice none 0 0, .int .i64 0, .slice none 0 0] 64)) := by
  refine ⟨⟨?_, ?_, ?_, ?_, ?_, ?_, ?_⟩, ?_, ?_, ?_, ?_, ?_, ?_, ?_, ?_, ?_, ?_, fun i => ?_⟩
  all_goals simp [go_sem]
def put10 (w : World) (J : Nat) (v0 v1 v2 v3 v4 v5 v6 v7 v8 v9 : Value) : World :=
  (((((((((w.setCell ⟨J, 0, none⟩ v0).setCell ⟨J, 1, none⟩ v1).setCell ⟨J, 2, none⟩ v2).setCell ⟨J, 3, none⟩ v3).setCell ⟨J, 4, none⟩ v4).setCell ⟨J, 5, none⟩ v5).setCell ⟨J, 6, none⟩ v6).setCell ⟨J, 7, none⟩ v7).setCell ⟨J, 8, none⟩ v8).setCell ⟨J, 9, none⟩ v9
theorem put10_get {w : World} {J i : Nat} {u v0 v1 v2 v3 v4 v5 v6 v7 v8 v9 : Value} (hu : w.cell? ⟨J, i, none⟩ = some u) : (put10 w J v0 v1 v2 v3 v4 v5 v6 v7 v8 v9).cell? ⟨J, i, none⟩ = some (if i = 9 then v9 else if i = 8 then v8 else if i = 7 then v7 else if i = 6 then v6 else if i = 5 then v5 else if i = 4 then v4 else if i = 3 then v3 else if i = 2 then v2 else if i = 1 then v1 else if i = 0 then v0 else u) :=
  set_get (set_get (set_get (set_get (set_get (set_get (set_get (set_get (set_get (set_get hu)))))))))
theorem put10_kept {w : World} {J : Nat} {v0 v1 v2 v3 v4 v5 v6 v7 v8 v9 : Value} : Kept J none w (put10 w J v0 v1 v2 v3 v4 v5 v6 v7 v8 v9) :=
  setR_kept.trans (setR_kept.trans (setR_kept.trans (setR_kept.trans (setR_kept.trans (setR_kept.trans (setR_kept.trans (setR_kept.trans (setR_kept.trans setR_kept))))))))
theorem RF.put {H : Nat} {x : TT} {W : World} (h : RF H x W) (v0 v1 v2 v3 v4 v5 v6 v7 v8 v9 : Value) :
    (put10 W (H + 1) v0 v1 v2 v3 v4 v5 v6 v7 v8 v9).cell? ⟨H + 1, 0, none⟩ = some v0 ∧ (put10 W (H + 1) v0 v1 v2 v3 v4 v5 v6 v7 v8 v9).cell? ⟨H + 1, 1, none⟩ = some v1 ∧ (put10 W (H + 1) v0 v1 v2 v3 v4 v5 v6 v7 v8 v9).cell? ⟨H + 1, 2, none⟩ = some v2 ∧ (put10 W (H + 1) v0 v1 v2 v3 v4 v5 v6 v7 v8 v9).cell? ⟨H + 1, 3, none⟩ = some v3 ∧ (put10 W (H + 1) v0 v1 v2 v3 v4 v5 v6 v7 v8 v9).cell? ⟨H + 1, 4, none⟩ = some v4 ∧ (put10 W (H + 1) v0 v1 v2 v3 v4 v5 v6 v7 v8 v9).cell? ⟨H + 1, 5, none⟩ = some v5 ∧ (put10 W (H + 1) v0 v1 v2 v3 v4 v5 v6 v7 v8 v9).cell? ⟨H + 1, 6, none⟩ = some v6 ∧ (put10 W (H + 1) v0 v1 v2 v3 v4 v5 v6 v7 v8 v9).cell? ⟨H + 1, 7, none⟩ = some v7 ∧ (put10 W (H + 1) v0 v1 v2 v3 v4 v5 v6 v7 v8 v9).cell? ⟨H + 1, 8, none⟩ = some v8 ∧ (put10 W (H + 1) v0 v1 v2 v3 v4 v5 v6 v7 v8 v9).cell? ⟨H + 1, 9, none⟩ = some v9 := by
  refine ⟨?_, ?_, ?_, ?_, ?_, ?_, ?_, ?_, ?_, ?_⟩
  · simpa using put10_get (v0 := v0) (v1 := v1) (v2 := v2) (v3 := v3) (v4 := v4) (v5 := v5) (v6 := v6) (v7 := v7) (v8 := v8) (v9 := v9) h.z0
  · simpa using put10_get (v0 := v0) (v1 := v1) (v2 := v2) (v3 := v3) (v4 := v4) (v5 := v5) (v6 := v6) (v7 := v7) (v8 := v8) (v9 := v9) h.z1
  · simpa using put10_get (v0 := v0) (v1 := v1) (v2 := v2) (v3 := v3) (v4 := v4) (v5 := v5) (v6 := v6) (v7 := v7) (v8 := v8) (v9 := v9) h.z2
  · simpa using put10_get (v0 := v0) (v1 := v1) (v2 := v2) (v3 := v3) (v4 := v4) (v5 := v5) (v6 := v6) (v7 := v7) (v8 := v8) (v9 := v9) h.z3
  · simpa using put10_get (v0 := v0) (v1 := v1) (v2 := v2) (v3 := v3) (v4 := v4) (v5 := v5) (v6 := v6) (v7 := v7) (v8 := v8) (v9 := v9) h.z4
  · simpa using put10_get (v0 := v0) (v1 := v1) (v2 := v2) (v3 := v3) (v4 := v4) (v5 := v5) (v6 := v6) (v7 := v7) (v8 := v8) (v9 := v9) h.z5
  · simpa using put10_get (v0 := v0) (v1 := v1) (v2 := v2) (v3 := v3) (v4 := v4) (v5 := v5) (v6 := v6) (v7 := v7) (v8 := v8) (v9 := v9) h.z6
  · simpa using put10_get (v0 := v0) (v1 := v1) (v2 := v2) (v3 := v3) (v4 := v4) (v5 := v5) (v6 := v6) (v7 := v7) (v8 := v8) (v9 := v9) h.z7
  · simpa using put10_get (v0 := v0) (v1 := v1) (v2 := v2) (v3 := v3) (v4 := v4) (v5 := v5) (v6 := v6) (v7 := v7) (v8 := v8) (v9 := v9) h.z8
  · simpa using put10_get (v0 := v0) (v1 := v1) (v2 := v2) (v3 := v3) (v4 := v4) (v5 := v5) (v6 := v6) (v7 := v7) (v8 := v8) (v9 := v9) h.z9
/-- Three cells that are new and not yet written. -/
def ZB3 (V : World) (b : Nat) : Prop := V.cell? ⟨b, 0, none⟩ = some (.int .i64 0) ∧ V.cell? ⟨b, 1, none⟩ = some (.slice none 0 0) ∧ V.cell? ⟨b, 2, none⟩ = some (.slice none 0 0) ∧ V.frozen? ⟨b, 0, none⟩ = false ∧ V.frozen? ⟨b, 1, none⟩ = false ∧ V.frozen? ⟨b, 2, none⟩ = false
theorem ZB3.new (U : World) : ZB3 (U.alloc (.cells #[.int .i64 0, .slice none 0 0, .slice none 0 0] 119)) U.heap.size := by
  refine ⟨?_, ?_, ?_, ?_, ?_, ?_⟩ <;> simp [go_sem]
theorem ZB3.later {V w : World} {b : Nat} (hb : Below V.heap.size V w) (h : ZB3 V b) : ZB3 w b := by
  obtain ⟨h0, h1, h2, f0, f1, f2⟩ := h
  have hl : b < V.heap.size := World.block_lt_of_cell? _ _ h0
  exact ⟨cell_later hb h0, cell_later hb h1, cell_later hb h2, (hb.frozen (p := ⟨b, 0, none⟩) hl).trans f0, (hb.frozen (p := ⟨b, 1, none⟩) hl).trans f1, (hb.frozen (p := ⟨b, 2, none⟩) hl).trans f2⟩
/-- The rule's box. -/
structure At3 (W : World) (G : Nat) (I U : Tr) : Prop where
  k : W.cell? ⟨G, 0, none⟩ = some (.int .i64 I.k)
  l : W.cell? ⟨G, 1, none⟩ = some (.slice I.a I.l.length I.c)
  u : W.cell? ⟨G, 2, none⟩ = some (.slice U.a U.l.length U.c)
theorem ZB3.put {W : World} {G : Nat} (h : ZB3 W G) (I U : Tr) : At3 (((W.setCell ⟨G, 0, none⟩ (.int .i64 I.k)).setCell ⟨G, 1, none⟩ (.slice I.a I.l.length I.c)).setCell ⟨G, 2, none⟩ (.slice U.a U.l.length U.c)) G I U := by
  obtain ⟨h0, h1, h2, _⟩ := h
  exact ⟨by simpa using set_get (j := 2) (v := .slice U.a U.l.length U.c) (set_get (j := 1) (v := .slice I.a I.l.length I.c) (set_get (j := 0) (v := .int .i64 I.k) h0)), by simpa using set_get (j := 2) (v := .slice U.a U.l.length U.c) (set_get (j := 1) (v := .slice I.a I.l.length I.c) (set_get (j := 0) (v := .int .i64 I.k) h1)), by simpa using set_get (j := 2) (v := .slice U.a U.l.length U.c) (set_get (j := 1) (v := .slice I.a I.l.length I.c) (set_get (j := 0) (v := .int .i64 I.k) h2))⟩
theorem At3.new (W : World) (I U : Tr) : At3 (W.alloc (.cells #[.int .i64 I.k, .slice I.a I.l.length I.c, .slice U.a U.l.length U.c] 119)) W.heap.size I U := by
  refine ⟨?_, ?_, ?_⟩ <;> simp [go_sem]
theorem At3.below {W W' : World} {G : Nat} {I U : Tr} (h : At3 W G I U) (hb : Below W.heap.size W W') : At3 W' G I U := ⟨cell_later hb h.k, cell_later hb h.l, cell_later hb h.u⟩
theorem At3.lt {W : World} {G : Nat} {I U : Tr} (h : At3 W G I U) : G < W.heap.size := World.block_lt_of_cell? _ _ h.k
/-- Seven cells that are new and not yet written. -/
def ZB7 (V : World) (b : Nat) : Prop :=
  (V.cell? ⟨b, 0, none⟩ = some (.int .i64 0) ∧ V.cell? ⟨b, 1, none⟩ = some (.int .i64 0) ∧ V.cell? ⟨b, 2, none⟩ = some (.int .i64 0) ∧ V.cell? ⟨b, 3, none⟩ = some (.slice none 0 0) ∧ V.cell? ⟨b, 4, none⟩ = some (.int .i64 0) ∧ V.cell? ⟨b, 5, none⟩ = some (.slice none 0 0) ∧ V.cell? ⟨b, 6, none⟩ = some (.slice none 0 0)) ∧
    V.frozen? ⟨b, 0, none⟩ = false ∧ V.frozen? ⟨b, 1, none⟩ = false ∧ V.frozen? ⟨b, 2, none⟩ = false ∧ V.frozen? ⟨b, 3, none⟩ = false ∧ V.frozen? ⟨b, 4, none⟩ = false ∧ V.frozen? ⟨b, 5, none⟩ = false ∧ V.frozen? ⟨b, 6, none⟩ = false
theorem ZB7.box {V : World} {b : Nat} (h : ZB7 V b) : Box7 V b (tleaf 0 0) := by
  obtain ⟨⟨h0, h1, h2, h3, h4, h5, h6⟩, f0, f1, f2, f3, f4, f5, f6⟩ := h
  refine ⟨⟨h0, h1, h2, h3, h4, h5, h6⟩, fun i hi => ?_⟩
  obtain rfl | rfl | rfl | rfl | rfl | rfl | rfl : i = 0 ∨ i = 1 ∨ i = 2 ∨ i = 3 ∨ i = 4 ∨ i = 5 ∨ i = 6 := by omega
  · exact f0
  · exact f1
  · exact f2
  · exact f3
  · exact f4
  · exact f5
  · exact f6
theorem ZB7.lt {V : World} {b : Nat} (h : ZB7 V b) : b < V.heap.size := World.block_lt_of_cell? _ _ h.1.1
theorem ZB7.new (U : World) : ZB7 (U.alloc (.cells #[.int .i64 0, .int .i64 0, .int .i64 0, .slice none 0 0, .int .i64 0, .slice none 0 0, .slice none 0 0] 27)) U.heap.size := by
  refine ⟨⟨?_, ?_, ?_, ?_, ?_, ?_, ?_⟩, ?_, ?_, ?_, ?_, ?_, ?_, ?_⟩ <;> simp [go_sem]
theorem ZB7.later {V w : World} {b : Nat} (hb : Below V.heap.size V w) (h : ZB7 V b) : ZB7 w b := by
  have hl := h.lt
  obtain ⟨⟨h0, h1, h2, h3, h4, h5, h6⟩, f0, f1, f2, f3, f4, f5, f6⟩ := h
  exact ⟨⟨cell_later hb h0, cell_later hb h1, cell_later hb h2, cell_later hb h3, cell_later hb h4, cell_later hb h5, cell_later hb h6⟩, (hb.frozen (p := ⟨b, 0, none⟩) hl).trans f0, (hb.frozen (p := ⟨b, 1, none⟩) hl).trans f1, (hb.frozen (p := ⟨b, 2, none⟩) hl).trans f2, (hb.frozen (p := ⟨b, 3, none⟩) hl).trans f3, (hb.frozen (p := ⟨b, 4, none⟩) hl).trans f4, (hb.frozen (p := ⟨b, 5, none⟩) hl).trans f5, (hb.frozen (p := ⟨b, 6, none⟩) hl).trans f6⟩
theorem At7.new (W : World) (x : TT) : At7 (W.alloc (.cells #[.int .i64 x.k, .int .i64 x.n, .int .i64 x.t.k, .slice x.t.a x.t.l.length x.t.c, .int .i64 x.f.k, .slice x.f.a x.f.l.length x.f.c, .slice x.a x.l.length x.c] 27)) W.heap.size 0 x := by
  refine ⟨?_, ?_, ?_, ?_, ?_, ?_, ?_⟩ <;> simp [go_sem]
/-- The casts, one by one, are castL's. -/
theorem castL_of : ∀ (rs : List Rd) (us : List Tr) (zs : List TT), zs.length = rs.length → rs.length = us.length → (∀ r, r ∈ rs → 0 ≤ r.n) →
    (∀ q (h : q < zs.length) (h1 : q < rs.length) (h2 : q < us.length), zs[q].tm = castY rs[q].n rs[q].y.tm rs[q].i.ty us[q].ty) → zs.map TT.tm = castL (rs.map tri) (us.map Tr.ty)
  | [], [], [], _, _, _, _ => rfl
  | r :: rs, u :: us, z :: zs, h1, h2, hn, h => by
    have h0 := h 0 (by simp) (by simp) (by simp)
    have ih := castL_of rs us zs (by simpa using h1) (by simpa using h2) (fun q hq => hn q (by simp [hq])) fun q a b d => h (q + 1) (by simpa using a) (by simpa using b) (by simpa using d)
    have e : (r.n.toNat : Int) = r.n := Int.toNat_of_nonneg (hn r (by simp))
    simp only [List.getElem_cons_zero] at h0
    simp [castL, tri, e, h0, ih]
  | [], _ :: _, _, _, h, _, _ => by simp at h
  | _ :: _, [], _, _, h, _, _ => by simp at h
  | [], [], _ :: _, h, _, _, _ => by simp at h
  | _ :: _, _ :: _, [], h, _, _, _ => by simp at h
theorem tri_types (rs : List Rd) : (rs.map tri).map (fun p => p.2.2) = rs.map fun r => r.i.ty := by
  rw [List.map_map]; rfl
/-- What is known of the parts' types. -/
theorem parts_good {x : TT} {takes : List Ty} {c : Nat} {rs : List Rd} (hok : okTm x.tm takes.length) (hT : ∀ u, u ∈ takes → goodY 4 u = true) (hsz : x.sz ≤ 900) (h : readL (x.l.map TT.tm) (takesIn x.k x.t.ty takes) (c + 1) = some (rs.map tri)) :
    rs.length = x.l.length ∧ ∀ r, r ∈ rs → goodT ((x.l.map TT.sz).sum + 4) r.i = true := by
  obtain ⟨k, n, t, f, a, cc, l⟩ := x
  rw [TT.tm_mk] at hok
  obtain ⟨h0, h1⟩ := okTm_mk.1 hok
  obtain ⟨k1, k9, hl, _, ht, _, _⟩ := okTop_all h0
  have hlen := readL_length _ _ _ _ h
  simp only [List.length_map] at hlen
  refine ⟨hlen, fun r hr => ?_⟩
  obtain ⟨j, hj, rfl⟩ := List.getElem_of_mem hr
  have := readL_all (Q := fun x _ _ i => goodY (x.sz + 4) i = true) (l.map TT.tm) _ _ h (fun x hx c y i hr => read_good x _ c y i (by rw [takesIn_length]; exact h1 x hx) (takesIn_good ht hT) hr) j (by simpa using hj) (by simp; omega)
  have hs := sz_mem (l.map TT.tm) ((l.map TT.tm)[j]'(by simp; omega)) (List.getElem_mem _)
  rw [sz_map] at hs
  rw [goodT_eq]
  have g := goodY_more _ ((l.map TT.sz).sum + 4) _ (by omega) this
  simpa [tri] using g
theorem good_facts {n : Nat} (hn : n ≤ 1000) {t : Tr} (h : goodT n t = true) : t.right ∧ t.hgt ≤ 1000 ∧ t.sm := ⟨Tr.right_good n t h, Nat.le_trans (Tr.hgt_good n t h) hn, Tr.sm_good n t h⟩
/-- No type. -/
theorem readS_none1 {x : TT} {takes : List Ty} {c : Nat} (h : readL (x.l.map TT.tm) (takesIn x.k x.t.ty takes) (c + 1) = none) : readS x.tm takes c = none := by
  obtain ⟨k, n, t, f, a, cc, l⟩ := x
  rw [TT.tm_mk, readS_mk]
  simp only at h
  rw [h]; rfl
theorem readS_none2 {x : TT} {takes : List Ty} {c : Nat} {rs : List Rd} (h : readL (x.l.map TT.tm) (takesIn x.k x.t.ty takes) (c + 1) = some (rs.map tri)) (h2 : ruleY x.k x.n x.t.ty (rs.map fun r => r.i.ty) (takesIn x.k x.t.ty takes) = none) : readS x.tm takes c = none := by
  obtain ⟨k, n, t, f, a, cc, l⟩ := x
  rw [TT.tm_mk, readS_mk]
  simp only at h h2
  rw [h]
  simp only [Option.bind_some, tri_types, h2]; rfl
theorem readS_none3 {x : TT} {takes : List Ty} {c : Nat} {rs : List Rd} {i : Ty} {us : List Ty} (h : readL (x.l.map TT.tm) (takesIn x.k x.t.ty takes) (c + 1) = some (rs.map tri)) (h2 : ruleY x.k x.n x.t.ty (rs.map fun r => r.i.ty) (takesIn x.k x.t.ty takes) = some (i, us)) (h3 : fitL (rs.map fun r => r.i.ty) us = false) : readS x.tm takes c = none := by
  obtain ⟨k, n, t, f, a, cc, l⟩ := x
  rw [TT.tm_mk, readS_mk]
  simp only at h h2
  rw [h]
  simp only [Option.bind_some, tri_types, h2, h3]
  rfl
theorem readS_yes {x : TT} {takes : List Ty} {c : Nat} {rs : List Rd} {i : Ty} {us : List Ty} (h : readL (x.l.map TT.tm) (takesIn x.k x.t.ty takes) (c + 1) = some (rs.map tri)) (h2 : ruleY x.k x.n x.t.ty (rs.map fun r => r.i.ty) (takesIn x.k x.t.ty takes) = some (i, us)) (h3 : fitL (rs.map fun r => r.i.ty) us = true) : readS x.tm takes c = some (⟨x.k, x.n, x.t.ty, anyY, castL (rs.map tri) us⟩, i) := by
  obtain ⟨k, n, t, f, a, cc, l⟩ := x
  rw [TT.tm_mk, readS_mk]
  simp only at h h2
  rw [h]
  simp only [Option.bind_some, tri_types, h2, h3]
  rfl
end Go.Proofs.YtnddkmccagiclabGreatDoor

/-
  What the call of ref's cast answers where the type that is cast from is Any; ref's cast, whole.
-/
namespace Go.Proofs.YtnddkmccagiclabGreatDoor
open Go.RowKit
set_option maxRecDepth 20000 in
set_option maxHeartbeats 4000000 in
theorem open_any (M R n : Nat) (Q : Nat → Prop) (v : Th) (f t : Tr) (no : Int) (back : Bool) (w : World) (hv : v.In true M R Q w) (hf : f.In w) (ht : t.In w) (hfk : f.k = 0) (htk : t.k ≠ 0) (hfg : goodY 46 f.ty = true) (htg : goodY 46 t.ty = true) (hvt : tyV v.val f.ty) (tb : t.Bl Q) (hh : f.hgt ≤ 1000) (hm : f.sm) (hw : Wl R n out0 w) (hQ : ¬ Q R) (nw : ∀ b, w.heap.size ≤ b → Q b) :
    Calls Tryz.prog 97 #[.pointer (some ⟨R, 0, none⟩), .agg #[.int .i64 v.k, .int .i64 v.n, v.fn, .int .i64 v.tag], .agg #[.int .i64 f.k, .slice f.a f.l.length f.c], .agg #[.int .i64 t.k, .slice t.a t.l.length t.c], .int .i64 no, .bool back] w (CaPost M R n Q w (chg (castOf f.ty t.ty ⟨4, no, back⟩) v.val) (caP v f t)) := by
  obtain ⟨W1, hW1⟩ : ∃ W, W = lbW R v f t no back w := ⟨_, rfl⟩
  have hB : LB R v f t no back w W1 := by rw [hW1]; exact lb_start R v f t no back w
  have hl1 : Below w.heap.size w W1 := by rw [hW1]; exact lb_low R v f t no back w
  have HB : Hid (LB R v f t no back w W1 ∧ Below w.heap.size w W1) := ⟨hB, hl1⟩
  have hone := hv.one
  have hst : ∀ (a : Addr) (m : Mode) (W : World), (store a v.fn m).run Tryz.prog W = stored Tryz.prog W a v.fn m := fun a m W => run_storeOne hone
  have hfy : f.ty = anyY := by
    rcases goodY_cases hfg with ⟨k, e, hk⟩ | ⟨a, b, e, ha, hb⟩
    · have := f.ty_k; rw [e, hfk] at this; simp only at this; rw [e, this]; rfl
    · have := f.ty_k; rw [e, hfk] at this; cases this
  have hty : t.ty.k ≠ 0 := by rw [t.ty_k]; exact htk
  have HS : Hid (∀ W, Below W1.heap.size W1 W → Calls Tryz.prog 39 #[.agg #[.int .i64 f.k, .slice f.a f.l.length f.c], .agg #[.int .i64 t.k, .slice t.a t.l.length t.c]] W fun e w' => e = .returned (.bool false) ∧ Below W.heap.size W w') := fun W hb => by
    have hb2 := hl1.trans (hb.mono hl1.size)
    have := sameType_any 1000 f t W (hf.below hb2) (ht.below hb2) hh hm
    rw [show relY escSame f.ty t.ty = false from by
      cases h : relY escSame f.ty t.ty with
      | false => rfl
      | true => have := same_eq _ _ h; rw [← this, hfy] at hty; exact absurd rfl hty] at this
    exact this
  -- what lies under Any
  obtain ⟨hv5, hvas, hvc⟩ : v.tag ≠ 0 ∧ v.val = knownV v.cv v.tag ∧ tyV v.cv (gr v.tag) := by
    rw [hfy] at hvt
    obtain ⟨k5, _, _, h4⟩ := tyV_any hvt
    have h0 : v.tag ≠ 0 := fun h0 => by
      have e : v.val = v.cv := by unfold Th.val; rw [if_pos h0]
      rw [e] at k5
      rcases Th.In_iff.1 hv with ⟨hw0, p⟩ | ⟨hw1, c, _⟩ | ⟨hw2, _, ⟨u, p⟩, _⟩
      · rw [Th.cv_eq, hw0] at k5
        rw [if_neg (by decide), if_neg (by decide)] at k5
        split at k5 <;> cases k5
      · rw [Th.cv_eq, hw1, if_pos rfl] at k5
        cases k5
      · rw [e] at hvt
        rw [Th.cv_eq, hw2, if_neg (by decide), if_pos rfl] at k5
        unfold withV at k5
        rw [p.inn] at k5
        simp only [List.map_cons, List.headD_cons] at k5
        split at k5
        · split at k5 <;> cases k5
        · have hty := p.ty
          have hfg := p.fg
          rcases goodY_cases hfg with ⟨k, e2, hk⟩ | ⟨a, b, e2, ha, hb⟩
          · have h7 := v.f.ty_k; rw [e2] at h7; simp only at h7; have := p.fk; omega
          · rw [e2] at hty
            rcases tyV_fun hty with ⟨h8, _⟩ | ⟨h8, _⟩ <;> omega
    have e : v.val = knownV v.cv v.tag := by unfold Th.val; rw [if_neg h0]
    rw [e] at h4
    exact ⟨h0, e, h4⟩
  have HV : Hid (Wl R n out0 w ∧ ¬ Q R ∧ (∀ b, w.heap.size ≤ b → Q b)) := ⟨hw, hQ, nw⟩
  have HC : Hid (chg (castOf f.ty t.ty ⟨4, no, back⟩) v.val = if v.tag ≠ t.k then (⟨4, no, back⟩, knownV v.cv v.tag) else (out0, (chg (castOf (groundY t.ty) t.ty ⟨4, no, back⟩) v.cv).2)) := by
    show _ = _
    rw [hfy, hvas, chg_open htg (by omega) hty, t.ty_k]
  have hvv : ({v with tag := 0} : Th).val = v.cv := by
    unfold Th.val
    rw [if_pos rfl, Th.cv_tag]
  have HI : Hid (v.tag = t.k → ∀ (W : World) (u : Tr), Kept R none w W → W1.heap.size ≤ W.heap.size → Wl R n out0 W → u.ty = groundY t.ty → u.In W → u.Bl (W1.heap.size ≤ ·) → Calls Tryz.prog 97 #[.pointer (some ⟨R, 0, none⟩), .agg #[.int .i64 v.k, .int .i64 v.n, v.fn, .int .i64 0], .agg #[.int .i64 u.k, .slice u.a u.l.length u.c], .agg #[.int .i64 t.k, .slice t.a t.l.length t.c], .int .i64 no, .bool back] W fun e w' => Kept R none W w' ∧ Wl R n out0 w' ∧ ∃ h : Th, e = .returned (.agg #[.int .i64 h.k, .int .i64 h.n, h.fn, .int .i64 h.tag]) ∧ h.In true M R (fun x => Q x ∧ x ≠ w.heap.size + 1 + 1 + 1 + 1 + 1 + 1) w' ∧ (h.val = (chg (castOf (groundY t.ty) t.ty ⟨4, no, back⟩) v.cv).2 ∧ (v.ok → h.ok ∧ h.tyo = t.ty))) := by
    intro htag W u hk hsz hw2 hu hui hub
    have hgk : u.k = t.k := by rw [← t.ty_k, ← u.ty_k, hu, ground_k]
    have hs1 := hB.sz
    have hfit : relY escFits u.ty t.ty = true := by rw [hu]; exact (ground_fits htg).2
    have hsm : Same Q w W := Same.of_kept hk hQ
    obtain ⟨_, huh, hus⟩ := good_facts (n := 46) (t := u) (by omega) (by rw [goodT_eq, hu]; exact ground_good htg)
    have hvu : tyV ({v with tag := 0} : Th).val u.ty := by
      rw [hvv, hu, ← gr_ground htg, t.ty_k, ← htag]
      exact hvc
    have := flat_any M R n (fun x => Q x ∧ x ≠ w.heap.size + 1 + 1 + 1 + 1 + 1 + 1) {v with tag := 0} u t no back W (((hv.mono (Q' := fun x => (Q x ∧ x ≠ w.heap.size + 1 + 1 + 1 + 1 + 1 + 1)) fun x h1 h2 => ⟨h2, by omega⟩).same fun b h1 h2 => hsm b h1 h2.1).tag 0) hui (ht.same hsm tb) hgk (by rw [hu]; exact ground_good htg) htg hfit hvu (hub.mono fun b h => ⟨nw b (by omega), by omega⟩) ((tb.and ht.bl).mono fun b h => ⟨h.1, by omega⟩) huh hus hw2 (fun h => hQ h.1) (fun b hb => ⟨nw b (by omega), by omega⟩)
    rw [hu, hvv] at this
    refine this.mono ?_
    rintro e w' ⟨h1, h2 | ⟨h2, h3, h, h4, h5, h6⟩⟩
    · exact absurd (by rw [(chg_flat (ground_good htg) htg (by omega) (ground_k _)).1]; rfl) h2.1
    · refine ⟨h1, h3, h, h4, h5, h6.1, fun ho => h6.2 (ho.mark (.inl rfl)) ?_⟩
      show (if (0 : Int) = 0 then v.t.ty else anyY) = _
      rw [if_pos rfl]
      rcases (Th.ok_iff.1 ho).1 with h0 | ⟨_, hg⟩
      · exact absurd h0 hv5
      · rw [hg, hu, ← gr_ground htg, t.ty_k, htag]
  have lr := hw.lt
  have hw1 := hw.below hl1
  obtain ⟨c0, c1, c2, c3, z0, z1, z2, z3⟩ := hw1
  replace c1 : W1.cell? ⟨R, 1, none⟩ = some (.int .i64 0) := c1
  have k3 : (f.k == 3) = false := by rw [hfk]; decide
  have k0 : (t.k == 0) = false := by simpa using htk
  have k5 : (f.k == 0) = true := by rw [hfk]; decide
  have k6 : (v.tag != 0) = true := by simpa using hv5
  clear hv hw hQ nw hf ht hm hh hone hfy hty hfg htg hvt tb hfk htk hv5 hvas hvc hvv
  obtain ⟨ls, q0, ⟨v0, v1, v2, v3⟩, ⟨f0, f1⟩, ⟨t0, t1⟩, n0, b0, ⟨r0, r1, r2, r3, y0, y1, y2, y3⟩, _⟩ := hB
  simp only [Nat.zero_add] at v1 v2 v3 f1 t1
  by_cases htag : v.tag = t.k
  · have k7 : (v.tag != t.k) = false := by simpa using htag
    have HTG : Hid (v.tag = t.k) := htag
    clear htag
    go_enter Tryz.func97, Tryz.ntmps97
    go_upto_region 1 with fail
    unfold lbW at hW1
    rw [← hW1]
    clear hW1
    go_upto_region 13 with (go_at_call 39; refine (HS.out _ (Below.refl _ _)).mono ?_; rintro e w2 ⟨rfl, h2⟩; have HB2 : Hid (LB R v f t no back w w2 ∧ Below w.heap.size w w2 ∧ Kept R none W1 w2) := ⟨HB.out.1.below h2, HB.out.2.trans (h2.mono HB.out.2.size), Kept.of_below h2⟩; clear h2 v0 v1 v2 v3 f0 f1 t0 t1 n0 b0 r0 r1 r2 r3 y0 y1 y2 y3 q0 c0 c1 c2 c3 z0 z1 z2 z3; obtain ⟨ls2, q0, ⟨v0, v1, v2, v3⟩, ⟨f0, f1⟩, ⟨t0, t1⟩, n0, b0, ⟨r0, r1, r2, r3, y0, y1, y2, y3⟩, zz⟩ := HB2.out.1; have z3 := zz 3; clear zz; simp only [Nat.zero_add] at v1 v2 v3 f1 t1)
    have HM : Hid _ := HB2.out.1.mark 0
    clear v0 v1 v2 v3 q0 f0 f1 t0 t1 n0 b0 r0 r1 r2 r3 y0 y1 y2 y3 z3 k7 k6 k5 k0 k3 hst
    obtain ⟨w3, hw3⟩ : ∃ W, W = w2.setCell ⟨w.heap.size + 1, 3, none⟩ (.int .i64 0) := ⟨_, rfl⟩
    rw [← hw3] at HM
    rw [← hw3]
    clear hw3
    have HK : Hid (∀ V W, LB R {v with tag := 0} f t no back w V → Kept (w.heap.size + 1 + 1 + 1 + 1 + 1 + 1) none V W → W.cell? ⟨w.heap.size, 0, none⟩ = some (.pointer (some ⟨R, 0, none⟩)) ∧ W.cell? ⟨w.heap.size + 1, 0, none⟩ = some (.int .i64 v.k) ∧ W.cell? ⟨w.heap.size + 1, 1, none⟩ = some (.int .i64 v.n) ∧ W.cell? ⟨w.heap.size + 1, 2, none⟩ = some v.fn ∧ W.cell? ⟨w.heap.size + 1, 3, none⟩ = some (.int .i64 0) ∧ W.cell? ⟨w.heap.size + 1 + 1 + 1, 0, none⟩ = some (.int .i64 t.k) ∧ W.cell? ⟨w.heap.size + 1 + 1 + 1, 1, none⟩ = some (.slice t.a t.l.length t.c) ∧ W.cell? ⟨w.heap.size + 1 + 1 + 1 + 1, 0, none⟩ = some (.int .i64 no) ∧ W.cell? ⟨w.heap.size + 1 + 1 + 1 + 1 + 1, 0, none⟩ = some (.bool back)) := fun V W h k => by
      obtain ⟨_, q0, ⟨v0, v1, v2, v3⟩, _, ⟨t0, t1⟩, n0, b0, _, _⟩ := h
      simp only [Nat.zero_add] at v1 v2 v3 t1
      exact ⟨k.cell q0 (by omega), k.cell v0 (by omega), k.cell v1 (by omega), k.cell v2 (by omega), k.cell v3 (by omega), k.cell t0 (by omega), k.cell t1 (by omega), k.cell n0 (by omega), k.cell b0 (by omega)⟩
    have HD : Hid (LB R {v with tag := 0} f t no back w w3.drew ∧ Kept R none w w3.drew ∧ W1.heap.size ≤ w3.drew.heap.size ∧ Wl R n out0 w3.drew) := by
      have hd : Below w3.heap.size w3 w3.drew := (Below.refl _ _).drew
      have hk3 : Kept R none w w3 := (Kept.of_below HB2.out.2.1).new HM.out.2 (by omega)
      exact ⟨HM.out.1.below hd, hk3.trans (Kept.of_below hd), Nat.le_trans HB2.out.2.2.size (Nat.le_trans HM.out.2.size hd.size), ((HV.out.1.below HB2.out.2.1).same HM.out.2 (by omega)).below hd⟩
    have hlb := HD.out.1
    go_region_held3 (fun W => W.cell? ⟨w.heap.size, 0, none⟩ = some (.pointer (some ⟨R, 0, none⟩)) ∧ W.cell? ⟨w.heap.size + 1, 0, none⟩ = some (.int .i64 v.k) ∧ W.cell? ⟨w.heap.size + 1, 1, none⟩ = some (.int .i64 v.n) ∧ W.cell? ⟨w.heap.size + 1, 2, none⟩ = some v.fn ∧ W.cell? ⟨w.heap.size + 1, 3, none⟩ = some (.int .i64 0) ∧ W.cell? ⟨w.heap.size + 1 + 1 + 1, 0, none⟩ = some (.int .i64 t.k) ∧ W.cell? ⟨w.heap.size + 1 + 1 + 1, 1, none⟩ = some (.slice t.a t.l.length t.c) ∧ W.cell? ⟨w.heap.size + 1 + 1 + 1 + 1, 0, none⟩ = some (.int .i64 no) ∧ W.cell? ⟨w.heap.size + 1 + 1 + 1 + 1 + 1, 0, none⟩ = some (.bool back))
      (first | exact HK.out _ _ hlb Kept.refl | exact HK.out _ _ hlb (((setR_kept.trans setR_kept).trans setR_kept).trans setR_kept) | fail)
      (first
        | (go_at_call 132; refine (rground_any t _).mono ?_; rintro e w4 ⟨u, rfl, hu, hui, hub, h4⟩; have HE : Hid (LB R {v with tag := 0} f t no back w w4 ∧ Kept R none w w4 ∧ W1.heap.size ≤ w4.heap.size ∧ Wl R n out0 w4 ∧ u.ty = groundY t.ty ∧ u.In w4 ∧ u.Bl (W1.heap.size ≤ ·)) := ⟨HD.out.1.below h4, HD.out.2.1.trans (Kept.of_below h4), Nat.le_trans HD.out.2.2.1 h4.size, HD.out.2.2.2.below h4, hu, hui, hub.mono fun b hb => Nat.le_trans HD.out.2.2.1 hb⟩; clear hlb h4 hu hui hub; have hlb := HE.out.1)
        | (go_at_call 97; refine (HI.out HTG.out _ u HE.out.2.1 HE.out.2.2.1 HE.out.2.2.2.1 HE.out.2.2.2.2.1 HE.out.2.2.2.2.2.1 HE.out.2.2.2.2.2.2).mono ?_; rintro e w5 ⟨h5, hw5, h, rfl, hin, hval⟩; have HG : Hid (LB R {v with tag := 0} f t no back w w5 ∧ Kept R none w w5 ∧ Wl R n out0 w5 ∧ h.In true M R (fun x => Q x ∧ x ≠ w.heap.size + 1 + 1 + 1 + 1 + 1 + 1) w5 ∧ (h.val = (chg (castOf (groundY t.ty) t.ty ⟨4, no, back⟩) v.cv).2 ∧ (v.ok → h.ok ∧ h.tyo = t.ty))) := ⟨HE.out.1.kept h5 lr, HE.out.2.1.trans h5, hw5, hin, hval⟩; have hst2 : ∀ (a : Addr) (m : Mode) (W : World), (store a h.fn m).run Tryz.prog W = stored Tryz.prog W a h.fn m := (fun a m W => run_storeOne hin.one); clear hlb h5 hw5 hin hval; have hlb := HG.out.1; obtain ⟨_, q0, _, _, _, _, _, ⟨r0, r1, r2, r3, y0, y1, y2, y3⟩, _⟩ := HG.out.1)
        | fail)
    clear hlb
    go_wp2_with fail
    obtain ⟨g1, g2, g3, g4, g5⟩ := HG.out
    have hend := th_end (m := true) (M := M) (Q := Q) (h := h) g1.r (by omega) lr g2 g3 g4 (fun x hx => hx)
    obtain ⟨⟨e0, e1, e2, e3⟩, hk, hW, hi⟩ := hend
    refine bodyPost_ret (v := h.ag) ?_ rfl ⟨hk, .inr ⟨by rw [HC.out, if_neg (fun e => e HTG.out)], hW, h, rfl, hi, by rw [HC.out, if_neg (fun e => e HTG.out), g5.1], fun ho _ => g5.2 ho⟩⟩
    simp [results, Tryz.results97, go_sem, Th.ag, e0, e1, e2, e3]
  · have k7 : (v.tag != t.k) = true := by simpa using htag
    have HTG : Hid (v.tag ≠ t.k) := htag
    clear htag
    go_enter Tryz.func97, Tryz.ntmps97
    go_upto_region 1 with fail
    unfold lbW at hW1
    rw [← hW1]
    clear hW1
    go_upto_region 11 with (go_at_call 39; refine (HS.out _ (Below.refl _ _)).mono ?_; rintro e w2 ⟨rfl, h2⟩; have HB2 : Hid (LB R v f t no back w w2 ∧ Below w.heap.size w w2 ∧ Kept R none W1 w2) := ⟨HB.out.1.below h2, HB.out.2.trans (h2.mono HB.out.2.size), Kept.of_below h2⟩; clear h2 v0 v1 v2 v3 f0 f1 t0 t1 n0 b0 r0 r1 r2 r3 y0 y1 y2 y3 q0 c0 c1 c2 c3 z0 z1 z2 z3; obtain ⟨ls2, q0, ⟨v0, v1, v2, v3⟩, ⟨f0, f1⟩, ⟨t0, t1⟩, n0, b0, ⟨r0, r1, r2, r3, y0, y1, y2, y3⟩, zz⟩ := HB2.out.1; have z3 := zz 3; clear zz; simp only [Nat.zero_add] at v1 v2 v3 f1 t1)
    have hwl2 := HV.out.1.below HB2.out.2.1
    go_wp2_with (go_at_call 96; refine (over_any R n ⟨4, no, back⟩ _ hwl2).mono ?_; rintro e w3 ⟨rfl, hw3, h3⟩; simp only [noV]; have HE : Hid (LB R v f t no back w w3 ∧ Wl R n ⟨4, no, back⟩ w3 ∧ Kept R none w w3) := ⟨HB2.out.1.kept h3 lr, hw3, (Kept.of_below HB2.out.2.1).trans h3⟩; clear hw3 h3 v0 v1 v2 v3 f0 f1 t0 t1 n0 b0 r0 r1 r2 r3 y0 y1 y2 y3 q0 z3 hwl2; obtain ⟨_, q0, _, _, _, _, _, ⟨r0, r1, r2, r3, y0, y1, y2, y3⟩, _⟩ := HE.out.1)
    obtain ⟨⟨e0, e1, e2, e3⟩, hk⟩ := HE.out.1.r.set (.int .i64 0) (.int .i64 0) .nilFunc (.int .i64 0)
    refine bodyPost_ret (v := noV) ?_ rfl ⟨HE.out.2.2.new hk (by omega), .inl ⟨?_, rfl, ?_⟩⟩
    · simp [results, Tryz.results97, go_sem, noV, e0, e1, e2, e3]
    · rw [HC.out, if_pos HTG.out]; show (4 : Int) ≠ 0; decide
    · rw [HC.out, if_pos HTG.out]; exact HE.out.2.1.same hk (by omega)
/-- ref's cast. -/
theorem rcast_any (M R n : Nat) (Q : Nat → Prop) (v : Th) (f t : Tr) (no : Int) (back : Bool) (w : World) (hv : v.In true M R Q w) (hf : f.In w) (ht : t.In w) (hfg : goodY 46 f.ty = true) (htg : goodY 46 t.ty = true) (hfit : relY escFits f.ty t.ty = true) (hvt : tyV v.val f.ty) (fb : f.Bl Q) (tb : t.Bl Q) (hw : Wl R n out0 w) (hQ : ¬ Q R) (nw : ∀ b, w.heap.size ≤ b → Q b) :
    Calls Tryz.prog 97 #[.pointer (some ⟨R, 0, none⟩), .agg #[.int .i64 v.k, .int .i64 v.n, v.fn, .int .i64 v.tag], .agg #[.int .i64 f.k, .slice f.a f.l.length f.c], .agg #[.int .i64 t.k, .slice t.a t.l.length t.c], .int .i64 no, .bool back] w (CaPost M R n Q w (chg (castOf f.ty t.ty ⟨4, no, back⟩) v.val) (caP v f t)) := by
  obtain ⟨_, hh, hm⟩ := good_facts (n := 46) (t := f) (by omega) (by rw [goodT_eq]; exact hfg)
  by_cases hk : f.k = t.k
  · exact flat_any M R n Q v f t no back w hv hf ht hk hfg htg hfit hvt fb tb hh hm hw hQ nw
  by_cases h0 : t.k = 0
  · exact hide_any M R n Q v f t no back w hv hf ht (by omega) h0 hfg htg hvt fb hh hm hw hQ nw
  by_cases h1 : f.k = 0
  · exact open_any M R n Q v f t no back w hv hf ht h1 h0 hfg htg hvt tb hh hm hw hQ nw
  have := fits_kind hfit (by rw [f.ty_k]; exact h1) (by rw [t.ty_k]; exact h0)
  rw [f.ty_k, t.ty_k] at this
  exact absurd this hk
end Go.Proofs.YtnddkmccagiclabGreatDoor

/-
  Behind the entry of ref's function that casts: its boxes, what it reads; no run of the program in it.
-/
namespace Go.Proofs.YtnddkmccagiclabGreatDoor
open Go.RowKit
/-- What lies there of a type that is a function: its two parts. -/
theorem fun_parts {t : Tr} {w : World} (ht : t.In w) (hg : goodY 46 t.ty = true) (hk : t.k = 3) : ∃ (t0 t1 : Tr) (b o : Nat), t.l = [t0, t1] ∧ t.a = some ⟨b, o, none⟩ ∧ t.l.length = 2 ∧ w.cell? ⟨b, o, none⟩ = some (.int .i64 t0.k) ∧ w.cell? ⟨b, o + 1, none⟩ = some (.slice t0.a t0.l.length t0.c) ∧ w.cell? ⟨b, o + 2, none⟩ = some (.int .i64 t1.k) ∧ w.cell? ⟨b, o + 3, none⟩ = some (.slice t1.a t1.l.length t1.c) ∧ t0.In w ∧ t1.In w ∧ t.ty = funY t0.ty t1.ty ∧ goodY 45 t0.ty = true ∧ goodY 45 t1.ty = true ∧ (∀ Q : Nat → Prop, t.Bl Q → Q b ∧ t0.Bl Q ∧ t1.Bl Q) := by
  obtain ⟨k, a, c, l⟩ := t
  simp only at hk
  subst hk
  rw [Tr.ty_mk] at hg
  obtain ⟨x, y, e, hx, hy⟩ : ∃ x y, (Ty.mk 3 (l.map Tr.ty)) = ⟨3, [x, y]⟩ ∧ goodY 45 x = true ∧ goodY 45 y = true := by
    rcases goodY_cases hg with ⟨k, e, hk⟩ | ⟨x, y, e, hx, hy⟩
    · have := congrArg Ty.k e; simp only at this; omega
    · exact ⟨x, y, e, hx, hy⟩
  match l, e, ht with
  | [], e, _ => simp at e
  | [_], e, _ => simp at e
  | _ :: _ :: _ :: _, e, _ => simp at e
  | [t0, t1], e, ht =>
    simp only [List.map_cons, List.map_nil, Ty.mk.injEq, List.cons.injEq, and_true, true_and] at e
    obtain ⟨rfl, rfl⟩ := e
    obtain ⟨b, o, ea, c0, c1, hi0⟩ := ht.part 0 (by simp)
    obtain ⟨b', o', ea', c2, c3, hi1⟩ := ht.part 1 (by simp)
    simp only [List.getElem_cons_zero, List.getElem_cons_succ, Nat.zero_mul, Nat.add_zero, Nat.one_mul] at c0 c1 c2 c3 hi0 hi1 ea ea'
    rw [ea] at ea'
    obtain ⟨rfl, rfl⟩ : b = b' ∧ o = o' := by simpa using ea'
    refine ⟨t0, t1, b, o, rfl, ea, rfl, c0, c1, c2, c3, hi0, hi1, by rw [Tr.ty_mk]; rfl, hx, hy, fun Q hQ => ?_⟩
    obtain ⟨h1, h2⟩ := Tr.Bl_mk.1 hQ
    exact ⟨h1 (by simp) _ ea, h2 t0 (by simp), h2 t1 (by simp)⟩
/-- The boxes. -/
structure PB (X : Th) (w W : World) : Prop where
  x4 : At4 W w.heap.size 0 X
  r : Rb W (w.heap.size + 1)
theorem pb_start (X : Th) (w : World) : PB X w ((w.alloc (.cells #[.int .i64 X.k, .int .i64 X.n, X.fn, .int .i64 X.tag] 103)).alloc (.cells #[.int .i64 0, .int .i64 0, .nilFunc, .int .i64 0] 103)) := by
  refine ⟨⟨?_, ?_, ?_, ?_⟩, ⟨?_, ?_, ?_, ?_, ?_, ?_, ?_, ?_⟩⟩
  all_goals simp [go_sem]
theorem pb_low (X : Th) (w : World) : Below w.heap.size w ((w.alloc (.cells #[.int .i64 X.k, .int .i64 X.n, X.fn, .int .i64 X.tag] 103)).alloc (.cells #[.int .i64 0, .int .i64 0, .nilFunc, .int .i64 0] 103)) := ((Below.refl _ _).alloc (Nat.le_refl _) _).alloc (by simp) _
theorem PB.kept {X : Th} {w W V : World} {R : Nat} (h : PB X w W) (hk : Kept R none W V) (lr : R < w.heap.size) : PB X w V :=
  ⟨h.x4.same (Q := fun b => b ≠ R) (fun b hb hq => hk.block b hb hq (by simp)) (by omega), h.r.kept hk (by omega)⟩
theorem PB.below {X : Th} {w W V : World} (h : PB X w W) (hb : Below W.heap.size W V) : PB X w V :=
  ⟨h.x4.same (Q := fun _ => True) (Same.of_below hb) trivial, h.r.below hb⟩
/-- What a call of a function makes, said of the machine. -/
def DoS (m : Bool) (F : Nat) (f g : Val) (B : Ty) (c : Nat) (r : Out) (V : Val) (c' : Nat) : Prop := (m = true ∧ ApX F f g B c r V c' ∧ (r.k = 0 → tyV V B)) ∨ (m = false ∧ ApR F f g c r V c')
end Go.Proofs.YtnddkmccagiclabGreatDoor

/-
  What a call of ref's function comes to where no call is left.
-/
namespace Go.Proofs.YtnddkmccagiclabGreatDoor
open Go.RowKit
theorem clo_cv {h : Th} (hwy : h.wy = 1) : h.cv = funV (h.x.tm.at 0) (h.env.map Th.val) := by rw [Th.cv_eq, if_pos hwy]
theorem dos_of {m : Bool} {F : Nat} {f g : Val} {B : Ty} {c : Nat} {r : Out} {V : Val} {c' : Nat} (h3 : f.k = 3) (h : ApR F f g c r V c') (ht : m = true → r.k = 0 → tyV V B) : DoS m F f g B c r V c' := by
  cases m with
  | true => exact .inl ⟨rfl, .inl ⟨h3, h, ht rfl⟩, ht rfl⟩
  | false => exact .inr ⟨rfl, h⟩
set_option maxRecDepth 20000 in
set_option maxHeartbeats 2000000 in
theorem clo_fuel (m : Bool) (M R F c : Nat) (Q : Nat → Prop) (h X : Th) (B : Ty) (w : World) (hp : Clo m M R Q w h) (hX : X.In m M R Q w) (hw : Wl R (F - c) out0 w) (hc : c = F) (hQ : ¬ Q R) (hwy : h.wy = 1) :
    Calls Tryz.prog 95 #[.agg #[.int .i64 X.k, .int .i64 X.n, X.fn, .int .i64 X.tag], .pointer (some ⟨h.b1, 0, none⟩), .pointer (some ⟨h.b2, 0, none⟩), .pointer (some ⟨h.b3, 0, none⟩)] w (ThPost m M R F c Q w B (fun r V c' => DoS m F h.cv X.val B c r V c')) := by
  have hlr := hw.lt
  obtain ⟨W1, hW1⟩ : ∃ W, W = (w.alloc (.cells #[.int .i64 X.k, .int .i64 X.n, X.fn, .int .i64 X.tag] 103)).alloc (.cells #[.int .i64 0, .int .i64 0, .nilFunc, .int .i64 0] 103) := ⟨_, rfl⟩
  have hB : PB X w W1 := by rw [hW1]; exact pb_start X w
  have hl1 : Below w.heap.size w W1 := by rw [hW1]; exact pb_low X w
  have hone := hX.one
  have hst : ∀ (a : Addr) (m : Mode) (W : World), (store a X.fn m).run Tryz.prog W = stored Tryz.prog W a X.fn m := fun a m W => run_storeOne hone
  have hne : h.b1 ≠ R := fun e => hQ (e ▸ hp.b1)
  have hw0 : Wl R 0 out0 W1 := by
    have := hw.below hl1
    rwa [show F - c = 0 by omega] at this
  have HB : Hid (PB X w W1 ∧ Below w.heap.size w W1 ∧ Wl R 0 out0 W1) := ⟨hB, hl1, hw0⟩
  have q1 : W1.cell? ⟨h.b1, 0, none⟩ = some (.pointer (some ⟨R, 0, none⟩)) := cell_later hl1 hp.w1
  have HD : Hid (DoS m F h.cv X.val B c fuelO (numV 0) c ∧ c ≤ F ∧ F - c = 0) := by
    refine ⟨dos_of ?_ (ap_fuel ?_ hc) (fun _ h0 => by cases h0), by omega, by omega⟩ <;> rw [clo_cv hwy] <;> rfl
  obtain ⟨c0, _, _, _, _, _, _, _⟩ := hw0
  replace c0 : W1.cell? ⟨R, 0, none⟩ = some (.int .i64 0) := c0
  clear hp hX hw hc hQ hwy hone hB
  go_enter Tryz.func95, Tryz.ntmps95
  go_upto_region 1 with fail
  rw [← hW1]
  clear hW1
  go_wp2_with (go_at_call 96; refine (over_any R 0 fuelO _ HB.out.2.2).mono ?_; rintro e w2 ⟨rfl, hw2, h2⟩; simp only [noV]; have HE : Hid (Wl R 0 fuelO w2 ∧ Kept R none W1 w2 ∧ Rb w2 (w.heap.size + 1)) := ⟨hw2, h2, (HB.out.1.kept h2 hlr).r⟩; clear hw2 h2 q1 c0; obtain ⟨r0, r1, r2, r3, y0, y1, y2, y3⟩ := HE.out.2.2)
  obtain ⟨⟨e0, e1, e2, e3⟩, hk⟩ := HE.out.2.2.set (.int .i64 0) (.int .i64 0) .nilFunc (.int .i64 0)
  refine bodyPost_ret (v := noV) ?_ rfl ⟨((Kept.of_below HB.out.2.1).trans HE.out.2.1).new hk (by omega), fuelO, numV 0, c, HD.out.1, Nat.le_refl _, HD.out.2.1, ?_, .inl ⟨by decide, rfl⟩⟩
  · simp [results, Tryz.results95, go_sem, noV, e0, e1, e2, e3]
  · rw [HD.out.2.2]
    exact HE.out.1.same hk (by omega)
end Go.Proofs.YtnddkmccagiclabGreatDoor

/-
  A row of the law's things, four cells each; no run of the program in it.
-/
namespace Go.Proofs.YtnddkmccagiclabGreatDoor
open Go.RowKit
theorem Tryz.info103s : (Tryz.prog.info? 103).map (fun i => (i.zero, i.size, i.bytes)) = some (some (.agg #[.int .i64 0, .int .i64 0, .nilFunc, .int .i64 0]), 4, 32) := by kernel_rfl
def cells4 : List Th → List Value
  | [] => []
  | h :: r => .int .i64 h.k :: .int .i64 h.n :: h.fn :: .int .i64 h.tag :: cells4 r
theorem cells4_length : ∀ l : List Th, (cells4 l).length = l.length * 4
  | [] => rfl
  | h :: r => by simp only [cells4, List.length_cons, cells4_length r]; omega
theorem cells4_one : ∀ (l : List Th) (u : Value), (∀ h, h ∈ l → h.fn.oneCell' = true) → u ∈ cells4 l → u.oneCell' = true
  | [], u, _, h => by simp [cells4] at h
  | x :: r, u, ho, h => by
    simp only [cells4, List.mem_cons] at h
    rcases h with rfl | rfl | rfl | rfl | h
    · simp [Value.oneCell']
    · simp [Value.oneCell']
    · exact ho x (by simp)
    · simp [Value.oneCell']
    · exact cells4_one r u (fun y hy => ho y (by simp [hy])) h
theorem cells4_at : ∀ (l : List Th) (j : Nat) (h : j < l.length), (cells4 l)[j * 4]? = some (.int .i64 l[j].k) ∧ (cells4 l)[j * 4 + 1]? = some (.int .i64 l[j].n) ∧ (cells4 l)[j * 4 + 2]? = some l[j].fn ∧ (cells4 l)[j * 4 + 3]? = some (.int .i64 l[j].tag)
  | [], j, h => by simp at h
  | t :: r, 0, _ => by simp [cells4]
  | t :: r, j + 1, h => by
    have ih := cells4_at r j (by simpa using h)
    have e : (j + 1) * 4 = j * 4 + 1 + 1 + 1 + 1 := by omega
    rw [e]
    simpa [cells4] using ih
/-- What lies in a scope, cell by cell. -/
theorem Env.news {m : Bool} {M R : Nat} {Q : Nat → Prop} {w : World} {b o : Nat} {E : List Th} (h : Env m M R Q w (some ⟨b, o, none⟩) E) (j : Nat) (u : Value) (hj : (cells4 E)[j]? = some u) : w.cell? ((⟨b, o, none⟩ : Addr).add j) = some u := by
  have hlt : j < E.length * 4 := by
    have := (List.getElem?_eq_some_iff.1 hj).1
    rwa [cells4_length] at this
  obtain ⟨b', o', e, _, c0, c1, c2, c3⟩ := h.at4 (j / 4) (by omega)
  cases e
  obtain ⟨d0, d1, d2, d3⟩ := cells4_at E (j / 4) (by omega)
  have hadd : (⟨b, o, none⟩ : Addr).add j = ⟨b, o + j, none⟩ := by
    unfold Addr.add
    split
    · rename_i h; simp_all
    · rfl
  rw [hadd]
  have h4 : j = j / 4 * 4 ∨ j = j / 4 * 4 + 1 ∨ j = j / 4 * 4 + 2 ∨ j = j / 4 * 4 + 3 := by omega
  rcases h4 with h4 | h4 | h4 | h4
  · rw [← h4] at d0 c0
    rw [hj] at d0
    rw [Option.some.inj d0]
    exact c0
  · rw [Nat.add_assoc] at c1
    rw [← h4] at d1 c1
    rw [hj] at d1
    rw [Option.some.inj d1]
    exact c1
  · rw [Nat.add_assoc] at c2
    rw [← h4] at d2 c2
    rw [hj] at d2
    rw [Option.some.inj d2]
    exact c2
  · rw [Nat.add_assoc] at c3
    rw [← h4] at d3 c3
    rw [hj] at d3
    rw [Option.some.inj d3]
    exact c3
/-- A row that the call owns is a scope. -/
theorem env_of_row {m : Bool} {M R : Nat} {Q : Nat → Prop} {w : World} {base g cap n : Nat} {E : List Th} (h : w.ownsRow base 103 4 (.slice (some ⟨g, 0, none⟩) n cap) n (cells4 E)) (hn : n = E.length) (hg : Q g) (hin : ∀ e, e ∈ E → e.In m M R Q w) : Env m M R Q w (some ⟨g, 0, none⟩) E := by
  refine ⟨fun j hj => ⟨g, 0, rfl, hg, ?_⟩, hin⟩
  obtain ⟨d0, d1, d2, d3⟩ := cells4_at E j hj
  refine ⟨?_, ?_, ?_, ?_⟩
  · rw [Nat.zero_add, h.cellAt (j * 4) (by omega)]; exact d0
  · rw [Nat.zero_add, h.cellAt (j * 4 + 1) (by omega)]; exact d1
  · rw [Nat.zero_add, h.cellAt (j * 4 + 2) (by omega)]; exact d2
  · rw [Nat.zero_add, h.cellAt (j * 4 + 3) (by omega)]; exact d3
end Go.Proofs.YtnddkmccagiclabGreatDoor

/-
  What the call of chaperoneref.JoinOf answers at two right trees that lie in memory.
-/
namespace Go.Proofs.YtnddkmccagiclabGreatDoor
open Go.RowKit
set_option maxHeartbeats 400000 in
theorem joinOf_diff (x y : Tr) (hk : (x.k != y.k) = true) (w : World) :
    Calls Tryz.prog 92 #[.agg #[.int .i64 x.k, .slice x.a x.l.length x.c], .agg #[.int .i64 y.k, .slice y.a y.l.length y.c]] w fun e w' => e = .returned (.agg #[.int .i64 0, .slice none 0 0]) ∧ Below w.heap.size w w' := by
  go_enter Tryz.func92, Tryz.ntmps92
  go_wp2_with fail
  refine (any0_any _).mono ?_
  rintro e w1 ⟨rfl, rfl⟩
  go_wp2_with fail
  refine bodyPost_ret (v := .agg #[.int .i64 0, .slice none 0 0]) (by simp [results, Tryz.results92, go_sem]) rfl ⟨rfl, ?_⟩
  exact ((((Below.refl _ _).alloc (Nat.le_refl _) _).alloc (by simp) _).alloc (by simp; omega) _).alloc (by simp; omega) _
set_option maxHeartbeats 400000 in
theorem joinOf_leaf (k : Int) (a a' : Option Addr) (c c' : Nat) (w : World) :
    Calls Tryz.prog 92 #[.agg #[.int .i64 k, .slice a 0 c], .agg #[.int .i64 k, .slice a' 0 c']] w fun e w' => e = .returned (.agg #[.int .i64 k, .slice none 0 0]) ∧ Below w.heap.size w w' := by
  go_enter Tryz.func92, Tryz.ntmps92
  go_wp2_with fail
  refine bodyPost_ret (v := .agg #[.int .i64 k, .slice none 0 0]) (by simp [results, Tryz.results92, go_sem]) rfl ⟨rfl, ?_⟩
  exact (((Below.refl _ _).alloc (Nat.le_refl _) _).alloc (by simp) _).alloc (by simp; omega) _
end Go.Proofs.YtnddkmccagiclabGreatDoor

/-
  What the call of chaperoneref.JoinOf answers at two right trees that lie in memory.
-/
namespace Go.Proofs.YtnddkmccagiclabGreatDoor
open Go.RowKit
theorem join_parts {x y x0 x1 y0 y1 : Tr} (hx : x.l = [x0, x1]) (hy : y.l = [y0, y1]) (kx : x.k = 3) (ky : y.k = 3) : joinY x.ty y.ty = ⟨3, [joinY x0.ty y0.ty, joinY x1.ty y1.ty]⟩ := by
  obtain ⟨k, a, c, l⟩ := x
  obtain ⟨k', a', c', l'⟩ := y
  dsimp only at hx hy kx ky
  subst hx hy kx ky
  simp [Tr.ty_mk, joinY_mk, joinL]
/-- What a call that makes a tree leaves. -/
def Made (T : Ty) (w : World) (e : Ending) (w' : World) : Prop :=
  ∃ t : Tr, e = .returned (.agg #[.int .i64 t.k, .slice t.a t.l.length t.c]) ∧ t.ty = T ∧ t.In w' ∧ t.Bl (w.heap.size ≤ ·) ∧ Below w.heap.size w w'
theorem made_two {w W0 w3 : World} {t0 t1 : Tr} {N : Nat} (hN : w.heap.size + 1 + 1 < N) (hb0 : Below w.heap.size w W0) (hb : Below N W0 w3) (hs : N ≤ W0.heap.size) (i0 : t0.In w3) (i1 : t1.In w3) (b0 : t0.Bl (N ≤ ·)) (b1 : t1.Bl (N ≤ ·)) (u v : Value) {W : World} (hW : W = ((w3.setCell ⟨w.heap.size + 1 + 1, 0, none⟩ u).setCell ⟨w.heap.size + 1 + 1, 1, none⟩ v).alloc (.cells #[.int .i64 t0.k, .slice t0.a t0.l.length t0.c, .int .i64 t1.k, .slice t1.a t1.l.length t1.c] 24)) :
    (Tr.mk 3 (some ⟨w3.heap.size, 0, none⟩) 2 [t0, t1]).In W ∧ (Tr.mk 3 (some ⟨w3.heap.size, 0, none⟩) 2 [t0, t1]).Bl (w.heap.size ≤ ·) ∧ Below w.heap.size w W := by
  have hs3 := hb.size
  have hs0 := hb0.size
  have hsz : ((w3.setCell ⟨w.heap.size + 1 + 1, 0, none⟩ u).setCell ⟨w.heap.size + 1 + 1, 1, none⟩ v).heap.size = w3.heap.size := by simp [World.setCell]
  have k0 : t0.In ((w3.setCell ⟨w.heap.size + 1 + 1, 0, none⟩ u).setCell ⟨w.heap.size + 1 + 1, 0 + 1, none⟩ v) := set_keeps i0 (b0.mono fun b h => by omega)
  have k1 : t1.In ((w3.setCell ⟨w.heap.size + 1 + 1, 0, none⟩ u).setCell ⟨w.heap.size + 1 + 1, 0 + 1, none⟩ v) := set_keeps i1 (b1.mono fun b h => by omega)
  have hbb : Below w.heap.size w ((w3.setCell ⟨w.heap.size + 1 + 1, 0, none⟩ u).setCell ⟨w.heap.size + 1 + 1, 1, none⟩ v) := ((hb0.trans (hb.mono (by omega))).setCell (by simp; omega) _).setCell (by simp; omega) _
  subst hW
  refine ⟨?_, Tr.Bl_two (by omega) (b0.mono fun b h => by omega) (b1.mono fun b h => by omega), hbb.alloc (by omega) _⟩
  generalize ((w3.setCell ⟨w.heap.size + 1 + 1, 0, none⟩ u).setCell ⟨w.heap.size + 1 + 1, 1, none⟩ v) = X at *
  have hba : ∀ Y, Below X.heap.size X (X.alloc Y) := fun Y => (Below.refl _ _).alloc (Nat.le_refl _) _
  rw [← hsz]
  exact Tr.In_two (by simp [go_sem]) (by simp [go_sem]) (by simp [go_sem]) (by simp [go_sem]) (k0.below (hba _)) (k1.below (hba _))
set_option maxHeartbeats 1000000 in
theorem joinOf_two (bx ox by' oy c c' : Nat) (x0 x1 y0 y1 : Tr) (w : World)
    (cx0 : w.cell? ⟨bx, ox, none⟩ = some (.int .i64 x0.k)) (cx1 : w.cell? ⟨bx, ox + 1, none⟩ = some (.slice x0.a x0.l.length x0.c)) (cx2 : w.cell? ⟨bx, ox + 2, none⟩ = some (.int .i64 x1.k)) (cx3 : w.cell? ⟨bx, ox + 3, none⟩ = some (.slice x1.a x1.l.length x1.c))
    (cy0 : w.cell? ⟨by', oy, none⟩ = some (.int .i64 y0.k)) (cy1 : w.cell? ⟨by', oy + 1, none⟩ = some (.slice y0.a y0.l.length y0.c)) (cy2 : w.cell? ⟨by', oy + 2, none⟩ = some (.int .i64 y1.k)) (cy3 : w.cell? ⟨by', oy + 3, none⟩ = some (.slice y1.a y1.l.length y1.c))
    (H0 : Hid (∀ W : World, Below w.heap.size w W → Calls Tryz.prog 92 #[.agg #[.int .i64 x0.k, .slice x0.a x0.l.length x0.c], .agg #[.int .i64 y0.k, .slice y0.a y0.l.length y0.c]] W (Made (joinY x0.ty y0.ty) W)))
    (H1 : Hid (∀ W : World, Below w.heap.size w W → Calls Tryz.prog 92 #[.agg #[.int .i64 x1.k, .slice x1.a x1.l.length x1.c], .agg #[.int .i64 y1.k, .slice y1.a y1.l.length y1.c]] W (Made (joinY x1.ty y1.ty) W))) :
    Calls Tryz.prog 92 #[.agg #[.int .i64 3, .slice (some ⟨bx, ox, none⟩) 2 c], .agg #[.int .i64 3, .slice (some ⟨by', oy, none⟩) 2 c']] w (Made ⟨3, [joinY x0.ty y0.ty, joinY x1.ty y1.ty]⟩ w) := by
  obtain ⟨W0, hW0⟩ : ∃ W0, W0 = (((w.alloc (Obj.cells #[.int .i64 3, .slice (some ⟨bx, ox, none⟩) 2 c] 24)).alloc (Obj.cells #[.int .i64 3, .slice (some ⟨by', oy, none⟩) 2 c'] 24)).alloc (Obj.cells #[.int .i64 0, .slice none 0 0] 24)) := ⟨_, rfl⟩
  have hs0 : W0.heap.size = w.heap.size + 1 + 1 + 1 := by rw [hW0]; simp
  have hbw0 : Below w.heap.size w W0 := by rw [hW0]; exact (((Below.refl _ _).alloc (Nat.le_refl _) _).alloc (by simp) _).alloc (by simp; omega) _
  have r0 : W0.drew.cell? ⟨w.heap.size + 1 + 1, 0, none⟩ = some (.int .i64 0) := by rw [hW0]; simp [go_sem]
  have r1 : W0.drew.cell? ⟨w.heap.size + 1 + 1, 1, none⟩ = some (.slice none 0 0) := by rw [hW0]; simp [go_sem]
  have r2 : W0.drew.frozen? ⟨w.heap.size + 1 + 1, 0, none⟩ = false := by rw [hW0]; simp [go_sem]
  have r3 : W0.drew.frozen? ⟨w.heap.size + 1 + 1, 1, none⟩ = false := by rw [hW0]; simp [go_sem]
  have q0 : W0.cell? ⟨w.heap.size, 0, none⟩ = some (.int .i64 3) := by rw [hW0]; simp [go_sem]
  have q1 : W0.cell? ⟨w.heap.size, 1, none⟩ = some (.slice (some ⟨bx, ox, none⟩) 2 c) := by rw [hW0]; simp [go_sem]
  have q2 : W0.cell? ⟨w.heap.size + 1, 0, none⟩ = some (.int .i64 3) := by rw [hW0]; simp [go_sem]
  have q3 : W0.cell? ⟨w.heap.size + 1, 1, none⟩ = some (.slice (some ⟨by', oy, none⟩) 2 c') := by rw [hW0]; simp [go_sem]
  have lx : bx < w.heap.size := World.block_lt_of_cell? _ _ cx0
  have ly : by' < w.heap.size := World.block_lt_of_cell? _ _ cy0
  replace cx0 := cell_later hbw0 cx0
  replace cx1 := cell_later hbw0 cx1
  replace cx2 := cell_later hbw0 cx2
  replace cx3 := cell_later hbw0 cx3
  replace cy0 := cell_later hbw0 cy0
  replace cy1 := cell_later hbw0 cy1
  replace cy2 := cell_later hbw0 cy2
  replace cy3 := cell_later hbw0 cy3
  have HK : Hid (∀ w' : World, Below (w.heap.size + 1 + 1) W0 w' → (w'.cell? ⟨w.heap.size, 0, none⟩ = some (.int .i64 3) ∧ w'.cell? ⟨w.heap.size, 1, none⟩ = some (.slice (some ⟨bx, ox, none⟩) 2 c) ∧ w'.cell? ⟨w.heap.size + 1, 1, none⟩ = some (.slice (some ⟨by', oy, none⟩) 2 c') ∧ w'.cell? ⟨bx, ox, none⟩ = some (.int .i64 x0.k) ∧ w'.cell? ⟨bx, ox + 1, none⟩ = some (.slice x0.a x0.l.length x0.c) ∧ w'.cell? ⟨bx, ox + 2, none⟩ = some (.int .i64 x1.k) ∧ w'.cell? ⟨bx, ox + 3, none⟩ = some (.slice x1.a x1.l.length x1.c) ∧ w'.cell? ⟨by', oy, none⟩ = some (.int .i64 y0.k) ∧ w'.cell? ⟨by', oy + 1, none⟩ = some (.slice y0.a y0.l.length y0.c) ∧ w'.cell? ⟨by', oy + 2, none⟩ = some (.int .i64 y1.k) ∧ w'.cell? ⟨by', oy + 3, none⟩ = some (.slice y1.a y1.l.length y1.c))) := by
    intro w' h
    have t : ∀ b i, b < w.heap.size + 1 + 1 → w'.cell? ⟨b, i, none⟩ = W0.cell? ⟨b, i, none⟩ := fun b i hb => h.cell (p := ⟨b, i, none⟩) hb
    exact ⟨(t _ _ (by omega)).trans q0, (t _ _ (by omega)).trans q1, (t _ _ (by omega)).trans q3, (t _ _ (by omega)).trans cx0, (t _ _ (by omega)).trans cx1, (t _ _ (by omega)).trans cx2, (t _ _ (by omega)).trans cx3, (t _ _ (by omega)).trans cy0, (t _ _ (by omega)).trans cy1, (t _ _ (by omega)).trans cy2, (t _ _ (by omega)).trans cy3⟩
  have hbn : Below (w.heap.size + 1 + 1) W0 W0.drew := (Below.refl _ _).drew
  have hbm : Below (w.heap.size + 1 + 1 + 1) W0 W0.drew := (Below.refl _ _).drew
  go_enter Tryz.func92, Tryz.ntmps92
  go_wp2_with fail
  rw [← hW0]
  clear hW0 q0 q1 q2 q3 cx0 cx1 cx2 cx3 cy0 cy1 cy2 cy3
  go_region_held3 (fun w' => w'.cell? ⟨w.heap.size, 0, none⟩ = some (.int .i64 3) ∧ w'.cell? ⟨w.heap.size, 1, none⟩ = some (.slice (some ⟨bx, ox, none⟩) 2 c) ∧ w'.cell? ⟨w.heap.size + 1, 1, none⟩ = some (.slice (some ⟨by', oy, none⟩) 2 c') ∧ w'.cell? ⟨bx, ox, none⟩ = some (.int .i64 x0.k) ∧ w'.cell? ⟨bx, ox + 1, none⟩ = some (.slice x0.a x0.l.length x0.c) ∧ w'.cell? ⟨bx, ox + 2, none⟩ = some (.int .i64 x1.k) ∧ w'.cell? ⟨bx, ox + 3, none⟩ = some (.slice x1.a x1.l.length x1.c) ∧ w'.cell? ⟨by', oy, none⟩ = some (.int .i64 y0.k) ∧ w'.cell? ⟨by', oy + 1, none⟩ = some (.slice y0.a y0.l.length y0.c) ∧ w'.cell? ⟨by', oy + 2, none⟩ = some (.int .i64 y1.k) ∧ w'.cell? ⟨by', oy + 3, none⟩ = some (.slice y1.a y1.l.length y1.c))
    (first
      | exact HK.out _ hbn
      | exact HK.out _ (hbn.alloc (by have := hbn.size; omega) _)
      | exact HK.out _ (((hbn.setCell (by simp) _).setCell (by simp) _).alloc (by have := hbn.size; simp [World.setCell]; omega) _)
      | go_keep)
    (first
      | (go_at_call 92; refine (H0.out _ (hbw0.trans (hbn.mono (by omega)))).mono ?_; rintro e w2 ⟨t0, rfl, ht0, hin0, hbl0, hb2⟩; replace r0 := cell_later hb2 r0; replace r1 := cell_later hb2 r1; replace r2 := (hb2.frozen (p := ⟨w.heap.size + 1 + 1, 0, none⟩) (by have := hbm.size; show w.heap.size + 1 + 1 < _; omega)).trans r2; replace r3 := (hb2.frozen (p := ⟨w.heap.size + 1 + 1, 1, none⟩) (by have := hbm.size; show w.heap.size + 1 + 1 < _; omega)).trans r3; replace hbn := hbn.trans (hb2.mono (by have := hbn.size; omega)); replace hbm := hbm.trans (hb2.mono (by have := hbm.size; omega)); clear H0)
      | (go_at_call 92; refine (H1.out _ (hbw0.trans (hbn.mono (by omega)))).mono ?_; rintro e w3 ⟨t1, rfl, ht1, hin1, hbl1, hb3⟩; replace r0 := cell_later hb3 r0; replace r1 := cell_later hb3 r1; replace r2 := (hb3.frozen (p := ⟨w.heap.size + 1 + 1, 0, none⟩) (by have := hbm.size; show w.heap.size + 1 + 1 < _; omega)).trans r2; replace r3 := (hb3.frozen (p := ⟨w.heap.size + 1 + 1, 1, none⟩) (by have := hbm.size; show w.heap.size + 1 + 1 < _; omega)).trans r3; replace hbn := hbn.trans (hb3.mono (by have := hbn.size; omega)); replace hbm := hbm.trans (hb3.mono (by have := hbm.size; omega)); clear H1; have hl3 : w.heap.size + 1 + 1 < w3.heap.size := World.block_lt_of_cell? _ _ r0; have hn3 : w.heap.size + 1 + 1 ≠ w3.heap.size := Nat.ne_of_lt hl3; have ra0 : ∀ Y, (w3.alloc Y).cell? ⟨w.heap.size + 1 + 1, 0, none⟩ = some (.int .i64 0) := fun Y => cell_later ((Below.refl _ _).alloc (Nat.le_refl _) Y) r0; have ra1 : ∀ Y, (w3.alloc Y).cell? ⟨w.heap.size + 1 + 1, 1, none⟩ = some (.slice none 0 0) := fun Y => cell_later ((Below.refl _ _).alloc (Nat.le_refl _) Y) r1))
  have HF : Hid (t0.ty = joinY x0.ty y0.ty ∧ t1.ty = joinY x1.ty y1.ty) := ⟨ht0, ht1⟩
  have HM := made_two (w := w) (W0 := W0) (w3 := w3) (N := w.heap.size + 1 + 1 + 1) (by omega) hbw0 hbm (by omega) (hin0.below hb3) hin1 (hbl0.mono fun b hb => Nat.le_trans (show _ ≤ W0.heap.size by omega) hb) (hbl1.mono fun b hb => Nat.le_trans (show _ ≤ W0.heap.size by omega) (Nat.le_trans (show W0.drew.heap.size ≤ _ from hb2.size) hb)) (.int .i64 3) (.slice (some ⟨w3.heap.size, 0, none⟩) 2 2) rfl
  have HMM : Hid _ := HM
  clear HM ht0 ht1 hin0 hin1 hbl0 hbl1
  go_wp2_with fail
  refine bodyPost_ret (v := .agg #[.int .i64 3, .slice (some ⟨w3.heap.size, 0, none⟩) 2 2]) ?_ rfl ⟨_, rfl, ?_, HMM.out.1, HMM.out.2.1, HMM.out.2.2⟩
  · have hc := set_cells (io := 0) (u := .int .i64 3) (v := .slice (some ⟨w3.heap.size, 0, none⟩) 2 2) r0 r1
    have hc0 := cell_later ((Below.refl _ _).alloc (Nat.le_refl _) (.cells #[.int .i64 t0.k, .slice t0.a t0.l.length t0.c, .int .i64 t1.k, .slice t1.a t1.l.length t1.c] 24)) hc.1
    have hc1 := cell_later ((Below.refl _ _).alloc (Nat.le_refl _) (.cells #[.int .i64 t0.k, .slice t0.a t0.l.length t0.c, .int .i64 t1.k, .slice t1.a t1.l.length t1.c] 24)) hc.2
    simp only [Nat.zero_add] at hc0 hc1
    simp [results, Tryz.results92, go_sem, hc0, hc1]
  · rw [Tr.ty_mk, ← HF.out.1, ← HF.out.2]
    rfl
/-- chaperoneref.JoinOf. -/
theorem joinOf_any (n : Nat) : ∀ (x y : Tr) (w : World), x.In w → y.In w → x.right → y.right → x.hgt ≤ n → Calls Tryz.prog 92 #[.agg #[.int .i64 x.k, .slice x.a x.l.length x.c], .agg #[.int .i64 y.k, .slice y.a y.l.length y.c]] w (Made (joinY x.ty y.ty) w) := by
  induction n with
  | zero =>
    intro x y w _ _ _ _ h
    have := x.hgt_pos
    omega
  | succ n ih =>
    intro x y w hx hy rx ry hh
    by_cases hk : x.k = y.k
    · rcases rx.cases with ⟨lx, kx⟩ | ⟨x0, x1, lx, kx, r0, r1⟩
      · rcases ry.cases with ⟨ly, ky⟩ | ⟨y0, y1, ly, ky, _, _⟩
        · have hl1 : x.l.length = 0 := by simp [lx]
          have hl2 : y.l.length = 0 := by simp [ly]
          rw [hl1, hl2, ← hk]
          refine (joinOf_leaf x.k x.a y.a x.c y.c w).mono ?_
          rintro e w' ⟨rfl, hb⟩
          refine ⟨leaf x.k, rfl, ?_, leaf_in _ _, leaf_bl _ _, hb⟩
          obtain ⟨k, a, c, l⟩ := x
          obtain ⟨k', a', c', l'⟩ := y
          dsimp only at lx ly hk
          subst lx ly hk
          simp [leaf, Tr.ty_mk, joinY_mk, joinL]
        · omega
      · rcases ry.cases with ⟨ly, ky⟩ | ⟨y0, y1, ly, ky, q0, q1⟩
        · omega
        · obtain ⟨bx, ox, ax, cx0, cx1, hx0⟩ := hx.part 0 (by simp [lx])
          obtain ⟨bx', ox', ax', cx2, cx3, hx1⟩ := hx.part 1 (by simp [lx])
          obtain ⟨by', oy, ay, cy0, cy1, hy0⟩ := hy.part 0 (by simp [ly])
          obtain ⟨by'', oy', ay', cy2, cy3, hy1⟩ := hy.part 1 (by simp [ly])
          have hg0 := Tr.hgt_part hh 0 (by simp [lx])
          have hg1 := Tr.hgt_part hh 1 (by simp [lx])
          rw [ax] at ax'
          rw [ay] at ay'
          obtain ⟨rfl, rfl⟩ : bx = bx' ∧ ox = ox' := by simpa using ax'
          obtain ⟨rfl, rfl⟩ : by' = by'' ∧ oy = oy' := by simpa using ay'
          simp only [lx, List.getElem_cons_zero, List.getElem_cons_succ] at cx0 cx1 cx2 cx3 hx0 hx1 hg0 hg1
          simp only [ly, List.getElem_cons_zero, List.getElem_cons_succ] at cy0 cy1 cy2 cy3 hy0 hy1
          have hl1 : x.l.length = 2 := by simp [lx]
          have hl2 : y.l.length = 2 := by simp [ly]
          rw [join_parts lx ly kx ky, ax, ay, hl1, hl2, kx, ky]
          exact joinOf_two bx ox by' oy x.c y.c x0 x1 y0 y1 w (by simpa using cx0) (by simpa using cx1) (by simpa using cx2) (by simpa using cx3) (by simpa using cy0) (by simpa using cy1) (by simpa using cy2) (by simpa using cy3)
            (fun W hb => ih x0 y0 W (hx0.below hb) (hy0.below hb) r0 q0 hg0) (fun W hb => ih x1 y1 W (hx1.below hb) (hy1.below hb) r1 q1 hg1)
    · refine (joinOf_diff x y (by simpa using hk) w).mono ?_
      rintro e w' ⟨rfl, hb⟩
      refine ⟨leaf 0, rfl, ?_, leaf_in _ _, leaf_bl _ _, hb⟩
      obtain ⟨k, a, c, l⟩ := x
      obtain ⟨k', a', c', l'⟩ := y
      dsimp only at hk
      simp [leaf, Tr.ty_mk, joinY_mk, if_neg hk]
end Go.Proofs.YtnddkmccagiclabGreatDoor

/-
  What the call of chaperoneref.CopyType answers at a tree that lies in memory.
-/
namespace Go.Proofs.YtnddkmccagiclabGreatDoor
open Go.RowKit
theorem Tr.sz_eq (t : Tr) : t.sz = (t.l.map Tr.sz).sum + 1 := by cases t; rw [Tr.sz_mk]
theorem sz_take (l : List Tr) (j : Nat) (h : j < l.length) : ((l.take (j + 1)).map Tr.sz).sum = ((l.take j).map Tr.sz).sum + l[j].sz := by
  rw [List.take_succ_eq_append_getElem h, List.map_append, List.sum_append]
  simp only [List.map_cons, List.map_nil, List.sum_cons, List.sum_nil, Nat.add_zero]
theorem sz_take_le : ∀ (l : List Tr) (j : Nat), ((l.take j).map Tr.sz).sum ≤ (l.map Tr.sz).sum
  | [], j => by simp
  | t :: r, 0 => by simp
  | t :: r, j + 1 => by
    have := sz_take_le r j
    simp only [List.take_succ_cons, List.map_cons, List.sum_cons]; omega
theorem len_sz : ∀ (l : List Tr), l.length ≤ (l.map Tr.sz).sum
  | [] => Nat.zero_le _
  | t :: r => by
    have h1 := len_sz r
    have h2 := t.sz_pos
    simp only [List.map_cons, List.sum_cons, List.length_cons]; omega
theorem ownsRow_below {w w' : World} {base : Nat} {e : TypeId} {size : Nat} {v : Value} {n : Nat} {xs : List Value} (h : w.ownsRow base e size v n xs) (hb : Below w.heap.size w w') : w'.ownsRow base e size v n xs := by
  refine ⟨h.1, ?_⟩
  rcases h.2 with hn | ⟨g, cap, cur, rfl, h1, hgg, rest⟩
  · exact .inl hn
  · exact .inr ⟨g, cap, cur, rfl, h1, by rw [hb.block g (Array.getElem?_eq_some_iff.1 hgg).1]; exact hgg, rest⟩
theorem cellsOf_at2 : ∀ (l : List Tr) (j : Nat) (h : j < l.length), (cellsOf l)[j * 2]? = some (.int .i64 l[j].k) ∧ (cellsOf l)[j * 2 + 1]? = some l[j].sl
  | [], j, h => by simp at h
  | t :: r, 0, _ => by simp [cellsOf, Tr.sl]
  | t :: r, j + 1, h => by
    have ih := cellsOf_at2 r j (by simpa using h)
    have e : (j + 1) * 2 = j * 2 + 1 + 1 := by omega
    rw [e]
    simpa [cellsOf] using ih
/-- A row of trees that the call owns is a tree's list. -/
theorem row_in {w : World} {base : Nat} {v : Value} {cs : List Tr} (h : w.ownsRow base 24 2 v cs.length (cellsOf cs)) (hc : ∀ c, c ∈ cs → c.In w ∧ c.Bl (base ≤ ·)) : ∃ a c, v = .slice a cs.length c ∧ ∀ k, (Tr.mk k a c cs).In w ∧ (Tr.mk k a c cs).Bl (base ≤ ·) := by
  rcases h.2 with ⟨rfl, h0⟩ | ⟨g, cap, cur, rfl, hg, _⟩
  · have : cs = [] := List.length_eq_zero_iff.1 h0
    subst this
    exact ⟨none, 0, rfl, fun k => ⟨Tr.In_nil _ _ _ _, Tr.Bl_nil _ _ _ _⟩⟩
  · refine ⟨_, _, rfl, fun k => ⟨Tr.In_mk.2 ⟨fun j hj => ⟨g, 0, rfl, ?_, ?_⟩, fun t ht => (hc t ht).1⟩, Tr.Bl_mk.2 ⟨fun _ x hx => by cases hx; exact hg, fun t ht => (hc t ht).2⟩⟩⟩
    · rw [Nat.zero_add, h.cellAt (j * 2) (by omega), (cellsOf_at2 cs j hj).1]
    · rw [Nat.zero_add, h.cellAt (j * 2 + 1) (by omega), (cellsOf_at2 cs j hj).2]
/-- While the parts are copied: the box, the row of copies, the copies, the place of the answer. -/
structure CP (x : Tr) (j : Nat) (v : Value) (cs : List Tr) (w wr : World) : Prop where
  own : wr.ownsRow (w.heap.size + 1 + 1) 24 2 v cs.length (cellsOf cs)
  ins : ∀ c, c ∈ cs → c.In wr ∧ c.Bl (fun b => w.heap.size + 1 + 1 ≤ b ∧ some b ≠ v.ownBlock)
  ty : cs.map Tr.ty = (x.l.take j).map Tr.ty
  low : Below w.heap.size w wr
  b0 : wr.cell? ⟨w.heap.size, 0, none⟩ = some (.int .i64 x.k)
  b1 : wr.cell? ⟨w.heap.size, 1, none⟩ = some v
  bf : wr.frozen? ⟨w.heap.size, 1, none⟩ = false
  r0 : wr.cell? ⟨w.heap.size + 1, 0, none⟩ = some (.int .i64 0)
  r1 : wr.cell? ⟨w.heap.size + 1, 1, none⟩ = some (.slice none 0 0)
  f0 : wr.frozen? ⟨w.heap.size + 1, 0, none⟩ = false
  f1 : wr.frozen? ⟨w.heap.size + 1, 1, none⟩ = false
theorem CP.len {x : Tr} {j : Nat} {v : Value} {cs : List Tr} {w wr : World} (h : CP x j v cs w wr) (hj : j ≤ x.l.length) : cs.length = j := by
  have := congrArg List.length h.ty
  simpa [Nat.min_eq_left hj] using this
/-- One more copy. -/
theorem CP.step {x : Tr} {j : Nat} {v : Value} {cs : List Tr} {w wr w1 w2 w3 : World} {c : Tr} {gg cap1 : Nat} {X : Obj} (h : CP x j v cs w wr) (hj : j < x.l.length) (hb1 : Below wr.heap.size wr w1) (ht : c.ty = x.l[j].ty) (hin : c.In w2) (hbl : c.Bl (w1.heap.size ≤ ·)) (hb2 : Below w1.heap.size w1 w2)
    (hown : w3.ownsRow (w.heap.size + 1 + 1) 24 2 (.slice (some ⟨gg, 0, none⟩) (cs.length + 1) cap1) (cs.length + 1) (cellsOf cs ++ [.int .i64 c.k, .slice c.a c.l.length c.c])) (hgrow : (w2.alloc X).grownBy w3 v.ownBlock) (hat : v.ownBlock = some gg ∨ gg = w2.heap.size + 1) :
    CP x (j + 1) (.slice (some ⟨gg, 0, none⟩) (cs.length + 1) cap1) (cs ++ [c]) w (w3.setCell ⟨w.heap.size, 1, none⟩ (.slice (some ⟨gg, 0, none⟩) (cs.length + 1) cap1)) := by
  have s0 := h.low.size
  have s1 := hb1.size
  have s2 := hb2.size
  have s3 : w2.heap.size + 1 ≤ w3.heap.size := by have := hgrow.size; simpa using this
  have hlr : w.heap.size + 1 < wr.heap.size := World.block_lt_of_cell? _ _ h.r0
  have hba : Below w2.heap.size w2 (w2.alloc X) := (Below.refl _ _).alloc (Nat.le_refl _) _
  have hbr2 : Below wr.heap.size wr (w2.alloc X) := (hb1.trans (hb2.mono s1)).trans (hba.mono (by omega))
  have hov : ∀ k, v.ownBlock = some k → w.heap.size + 1 + 1 ≤ k ∧ k < wr.heap.size := h.own.lt
  have hno : ∀ k, k ≤ w.heap.size + 1 → some k ≠ v.ownBlock := fun k hk e => by have := (hov k e.symm).1; omega
  have hgg : w.heap.size + 1 + 1 ≤ gg := by
    rcases hat with e | e
    · exact (hov gg e).1
    · omega
  -- the blocks that are not the row's are as they were
  have hblk : ∀ k, k < w2.heap.size + 1 → some k ≠ v.ownBlock → w3.heap[k]? = (w2.alloc X).heap[k]? := fun k hk hn => hgrow.block k (by simpa using hk) hn
  have hset : ∀ k i, k ≠ w.heap.size → (w3.setCell ⟨w.heap.size, 1, none⟩ (.slice (some ⟨gg, 0, none⟩) (cs.length + 1) cap1)).cell? ⟨k, i, none⟩ = w3.cell? ⟨k, i, none⟩ := by
    intro k i hk
    rw [World.cell?_setCell_other]
    intro e; simp only [Addr.mk.injEq] at e; omega
  have hold : ∀ k i, k < wr.heap.size → some k ≠ v.ownBlock → w3.cell? ⟨k, i, none⟩ = wr.cell? ⟨k, i, none⟩ ∧ w3.frozen? ⟨k, i, none⟩ = wr.frozen? ⟨k, i, none⟩ := by
    intro k i hk hn
    have e : w3.heap[k]? = wr.heap[k]? := (hblk k (by omega) hn).trans (hbr2.block k hk)
    exact ⟨World.cell?_of_block (a := ⟨k, i, none⟩) e, World.frozen?_of_block (a := ⟨k, i, none⟩) e⟩
  refine ⟨?_, ?_, ?_, ?_, ?_, ?_, ?_, ?_, ?_, ?_, ?_⟩
  · rw [cellsOf_append, List.length_append, List.length_singleton]
    exact ownsRow_setCell_below hown (show w.heap.size < _ by omega) _
  · intro d hd
    rcases List.mem_append.1 hd with hd | hd
    · obtain ⟨i1, i2⟩ := h.ins d hd
      have i3 := i1.bl.and i2
      refine ⟨i1.congr (P := fun b => b < wr.heap.size ∧ w.heap.size + 1 + 1 ≤ b ∧ some b ≠ v.ownBlock) (fun b hb i => ?_) i3, i3.mono fun b hb => ⟨hb.2.1, ?_⟩⟩
      · rw [hset b i (by omega)]
        exact (hold b i hb.1 hb.2.2).1
      · show some b ≠ some gg
        rcases hat with e | e
        · rw [← e]; exact hb.2.2
        · simp only [ne_eq, Option.some.injEq]; omega
    · rcases List.mem_singleton.1 hd with rfl
      have i3 := hin.bl.and hbl
      refine ⟨hin.congr (P := fun b => b < w2.heap.size ∧ w1.heap.size ≤ b) (fun b hb i => ?_) i3, i3.mono fun b hb => ⟨by omega, ?_⟩⟩
      · rw [hset b i (by omega), World.cell?_of_block (a := ⟨b, i, none⟩) (hblk b (by omega) (fun e => by have := (hov b e.symm).2; omega))]
        exact hba.cell (p := ⟨b, i, none⟩) hb.1
      · show some b ≠ some gg
        rcases hat with e | e
        · have := (hov gg e).2
          simp only [ne_eq, Option.some.injEq]; omega
        · simp only [ne_eq, Option.some.injEq]; omega
  · rw [List.take_succ_eq_append_getElem hj, List.map_append, List.map_append, h.ty]
    simp [ht]
  · have hb3 : Below w.heap.size (w2.alloc X) w3 := ⟨hgrow.os, hgrow.tape, hgrow.output, hgrow.size, fun k hk => hblk k (by omega) (hno k (by omega))⟩
    exact ((h.low.trans (hbr2.mono s0)).trans hb3).setCell (by simp) _
  · rw [World.cell?_setCell_other]
    · exact (hold _ 0 (by omega) (hno _ (by omega))).1.trans h.b0
    · intro e; simp only [Addr.mk.injEq] at e; omega
  · exact World.cell?_setCell_same _ _ _ ((hold _ 1 (by omega) (hno _ (by omega))).1.trans h.b1)
  · rw [World.frozen?_setCell]
    exact (hold _ 1 (by omega) (hno _ (by omega))).2.trans h.bf
  · rw [hset _ _ (by omega)]
    exact (hold _ 0 (by omega) (hno _ (by omega))).1.trans h.r0
  · rw [hset _ _ (by omega)]
    exact (hold _ 1 (by omega) (hno _ (by omega))).1.trans h.r1
  · rw [World.frozen?_setCell]
    exact (hold _ 0 (by omega) (hno _ (by omega))).2.trans h.f0
  · rw [World.frozen?_setCell]
    exact (hold _ 1 (by omega) (hno _ (by omega))).2.trans h.f1
theorem CP.start {x : Tr} {w : World} : CP x 0 (.slice none 0 0) [] w ((w.alloc (.cells #[.int .i64 x.k, .slice none 0 0] 24)).alloc (.cells #[.int .i64 0, .slice none 0 0] 24)) := by
  refine ⟨World.ownsRow_nil _ _ _ _, fun c h => (by cases h), by simp, ?_, by simp [go_sem], by simp [go_sem], by simp [go_sem], by simp [go_sem], by simp [go_sem], by simp [go_sem], by simp [go_sem]⟩
  exact ((Below.refl _ _).alloc (Nat.le_refl _) _).alloc (by simp) _
set_option maxHeartbeats 2000000 in
theorem copy_step (n : Nat) (x : Tr) (A : Option Addr) (HA : Hid (A = x.a)) (w : World) (hx : x.In w) (hh : x.hgt ≤ n + 1) (hs : x.sz ≤ 100000000)
    (ih : Hid (∀ (x : Tr) (w : World), x.In w → x.hgt ≤ n → x.sz ≤ 100000000 → Calls Tryz.prog 34 #[.agg #[.int .i64 x.k, .slice x.a x.l.length x.c]] w (Made x.ty w))) :
    Calls Tryz.prog 34 #[.agg #[.int .i64 x.k, .slice A x.l.length x.c]] w (Made x.ty w) := by
  have hlen : x.l.length ≤ 100000000 := by have := len_sz x.l; have := x.sz_eq; omega
  obtain ⟨i0, hi0, hz0, hz1, hz2⟩ := info_parts Tryz.info24s
  go_enter Tryz.func34, Tryz.ntmps34
  go_wp2_with fail
  go_loopg [11] x.l.length (fun g i wr => ∃ (j : Nat) (v : Value) (cs : List Tr), j ≤ x.l.length ∧ g = x.l.length - j ∧ i = .int .i64 (j : Int) ∧ Hid (CP x j v cs w wr))
  case atStart => exact ⟨0, _, _, Nat.zero_le _, rfl, rfl, CP.start⟩
  case round =>
    obtain ⟨j, v, cs, hj, hg, rfl, HC⟩ := hrel
    have HG : Hid (gk = x.l.length - j) := hg
    clear hg
    have hsw : w.heap.size + 1 < wr.heap.size := World.block_lt_of_cell? _ _ HC.out.r0
    by_cases hlt : j < x.l.length
    · obtain ⟨b, o, ea, x0, x1, hxj⟩ := hx.part j hlt
      have eA : A = some ⟨b, o, none⟩ := HA.out.trans ea
      subst eA
      clear ea HA
      have hbwr := HC.out.low
      replace x0 := cell_later hbwr x0
      replace x1 := cell_later hbwr x1
      have i1 : (j : Int) < (x.l.length : Int) := by omega
      have i2 : (0 : Int) ≤ (j : Int) := by omega
      have lb : b < wr.heap.size := World.block_lt_of_cell? _ _ x0
      have hcb : cs.length ≤ 100000000 := by have := HC.out.len hj; omega
      have hb1 : Below wr.heap.size wr (wr.alloc (.cells #[.int .i64 x.l[j].k, .slice x.l[j].a x.l[j].l.length x.l[j].c] 24)).drew := ((Below.refl _ _).alloc (Nat.le_refl _) _).drew
      have HI : Hid (Calls Tryz.prog 34 #[.agg #[.int .i64 x.l[j].k, .slice x.l[j].a x.l[j].l.length x.l[j].c]] (wr.alloc (.cells #[.int .i64 x.l[j].k, .slice x.l[j].a x.l[j].l.length x.l[j].c] 24)).drew (Made x.l[j].ty (wr.alloc (.cells #[.int .i64 x.l[j].k, .slice x.l[j].a x.l[j].l.length x.l[j].c] 24)).drew)) := by
        refine ih.out x.l[j] _ ((hxj.below hbwr).below hb1) (Tr.hgt_part hh j hlt) ?_
        have h2 := sz_take x.l j hlt
        have h3 := sz_take_le x.l (j + 1)
        have h4 := x.sz_eq
        omega
      have q1 := HC.out.b1
      have qf := HC.out.bf
      have hnv : v.ownBlock ≠ some w.heap.size := fun e => by have := (HC.out.own.lt _ e).1; omega
      have hown := HC.out.own
      clear ih hx
      go_wp2_with fail
      have u1 : (wr.alloc (.cells #[.int .i64 x.l[j].k, .slice x.l[j].a x.l[j].l.length x.l[j].c] 24)).drew.cell? ⟨w.heap.size, 1, none⟩ = some v := cell_later hb1 q1
      have uf : (wr.alloc (.cells #[.int .i64 x.l[j].k, .slice x.l[j].a x.l[j].l.length x.l[j].c] 24)).drew.frozen? ⟨w.heap.size, 1, none⟩ = false := (hb1.frozen (p := ⟨w.heap.size, 1, none⟩) (show w.heap.size < wr.heap.size by omega)).trans qf
      have uo : (wr.alloc (.cells #[.int .i64 x.l[j].k, .slice x.l[j].a x.l[j].l.length x.l[j].c] 24)).drew.ownsRow (w.heap.size + 1 + 1) 24 2 v cs.length (cellsOf cs) := ownsRow_below hown hb1
      have us : w.heap.size < (wr.alloc (.cells #[.int .i64 x.l[j].k, .slice x.l[j].a x.l[j].l.length x.l[j].c] 24)).drew.heap.size := World.block_lt_of_cell? _ _ u1
      clear q1 qf hown
      go_region_law
        (first
          | (go_simp; go_at_call 34; refine HI.out.mono ?_; rintro e w2 ⟨c, rfl, ht, hin, hbl, hb2⟩; replace u1 := cell_later hb2 u1; replace uf := (hb2.frozen (p := ⟨w.heap.size, 1, none⟩) us).trans uf; replace uo := ownsRow_below uo hb2; replace us : w.heap.size < w2.heap.size := World.block_lt_of_cell? _ _ u1; have hnew := heap_alloc_new w2 (.cells #[.int .i64 c.k, .slice c.a c.l.length c.c] 24); have un : w.heap.size ≠ w2.heap.size := Nat.ne_of_lt us; go_wp2_with fail)
          | (refine step_append_lies _ (by rfl) _ _ _ (by rfl) (w.heap.size + 1 + 1) 24 i0 _ 2 32 Tryz.underlying22 hi0 hz0 hz1 hz2 rfl (by omega) v cs.length (cellsOf cs) (by rfl) (uo.alloc _)
                ⟨w2.heap.size, 0, none⟩ 1 1 [.int .i64 c.k, .slice c.a c.l.length c.c] (by rfl) (by rfl) (World.news_of_block (cs := #[.int .i64 c.k, .slice c.a c.l.length c.c]) (t := 24) (fr := (0, 0)) hnew) (by simp [Value.oneCell'])
                (by omega) (by unfold maxLen; omega) (by omega) (by have := hb2.size; simp at this ⊢; omega) (w2.heap.size + 1) (by simp) ?_; intro gg cap1 w3 hown1 hgrow hat hlt3; have hcr : w3.cell? ⟨w.heap.size, 1, none⟩ = some v := (by rw [hgrow.cell_far _ (by simp; omega) (Ne.symm hnv)]; exact cell_later ((Below.refl _ _).alloc (Nat.le_refl _) _) u1); have hfr : w3.frozen? ⟨w.heap.size, 1, none⟩ = false := (by rw [hgrow.frozen_far _ (by simp; omega) (Ne.symm hnv)]; exact (((Below.refl _ _).alloc (Nat.le_refl _) _).frozen (p := ⟨w.heap.size, 1, none⟩) us).trans uf)))
      all_goals
        have HN : Hid (CP x (j + 1) (.slice (some ⟨gg, 0, none⟩) (cs.length + 1) cap1) (cs ++ [c]) w (w3.setCell ⟨w.heap.size, 1, none⟩ (.slice (some ⟨gg, 0, none⟩) (cs.length + 1) cap1))) := HC.out.step hlt hb1 ht hin hbl hb2 hown1 hgrow hat
        clear hown1 hgrow hat hcr hfr ht hin hbl hb2 uo uf u1 HI HC
        go_wp2_with fail
        go_roundg (x.l.length - (j + 1))
        case measure => rw [HG.out]; omega
        case rel => exact ⟨j + 1, _, _, by omega, rfl, by go_num, HN⟩
    · have hcl := HC.out.len hj
      have hjl : j = x.l.length := by omega
      obtain ⟨a, c, rfl, hrow⟩ := row_in HC.out.own (fun c hc => ⟨(HC.out.ins c hc).1, (HC.out.ins c hc).2.mono fun b hb => hb.1⟩)
      have HT : Hid ((Tr.mk x.k a c cs).ty = x.ty) := by
        show _ = _
        obtain ⟨k, a', c', l⟩ := x
        have h := HC.out.ty
        dsimp only at h hjl ⊢
        rw [hjl, List.take_length] at h
        rw [Tr.ty_mk, Tr.ty_mk, h]
      have HB : Hid (Below w.heap.size w wr) := HC.out.low
      have b0 := HC.out.b0
      have b1 := HC.out.b1
      have r0 := HC.out.r0
      have r1 := HC.out.r1
      have f0 := HC.out.f0
      have f1 := HC.out.f1
      have HR := hrow x.k
      clear HC hrow hcl hjl
      go_wp2_with fail
      refine bodyPost_ret (v := .agg #[.int .i64 x.k, .slice a cs.length c]) ?_ rfl ⟨.mk x.k a c cs, rfl, HT.out, set_keeps HR.1 (HR.2.mono fun b hb => by omega), HR.2.mono fun b hb => by omega, (HB.out.setCell (by simp) _).setCell (by simp) _⟩
      have hc := set_cells (u := .int .i64 x.k) (v := .slice a cs.length c) r0 r1
      simp only [Nat.zero_add] at hc
      simp [results, Tryz.results34, go_sem, hc.1, hc.2]
/-- chaperoneref.CopyType. -/
theorem copy_any (n : Nat) : ∀ (x : Tr) (w : World), x.In w → x.hgt ≤ n → x.sz ≤ 100000000 → Calls Tryz.prog 34 #[.agg #[.int .i64 x.k, .slice x.a x.l.length x.c]] w (Made x.ty w) := by
  induction n with
  | zero =>
    intro x w _ h
    have := x.hgt_pos
    omega
  | succ n ih =>
    intro x w hx h hs
    exact copy_step n x x.a rfl w hx h hs (fun x w hx h hs => ih x w hx h hs)
end Go.Proofs.YtnddkmccagiclabGreatDoor
