/-
  What the call of check's ahead answers: a new row, a type ahead of others.
-/
import Derived.Test.YtnddkmccagiclaaGreatDoorLote40ceb387a
import Derived.Test.YtnddkmccagiclaaGreatDoorLotafdfc8828a
import Derived.Test.YtnddkmccagiclaaGreatDoorLotb751e12d97
import Derived.Deep.AppendLies
import Derived.Test.YtnddkmccagiclaaGreatDoorLot4fc1238a38
namespace Go.Proofs.YtnddkmccagiclaaGreatDoor
open Go.RowKit
/-- append of nothing, where there is room for nothing. -/
theorem wpList_append_void {P : Program} {ops : Array Oper} {rest : List Oper} {o : Oper} {a : Act} {w : World} {Q : Exit → Act → World → Prop}
    (hg : o.guard = none) (s x : Operand) (t : TypeId) (hop : o.op = Op.call { callee := Callee.builtin Builtin.append, args := #[s, x], argTypes := #[t, t] })
    (e : TypeId) (i : TypeInfo) (h1 : P.underlying t = some (.slice e)) (h2 : P.info? e = some i)
    (b n cap : Nat) (hs : a.eval s = .slice (some ⟨b, 0, none⟩) n cap) (xa : Option Addr) (c : Nat) (hx : a.eval x = .slice xa 0 c) (hroom : n ≤ cap)
    (h : wpList P ops Q rest (a.put o.dst (.slice (some ⟨b, 0, none⟩) n cap)) w) : wpList P ops Q (o :: rest) a w := by
  refine wpList_plain hg fun K hK => ?_
  have hsrc : Src P i.size t (.slice xa 0 c) 0 [] w := by
    cases xa with
    | none => exact Src.ofNil w h1 c
    | some ad => exact Src.ofSlice w h1 ad 0 c [] (by simp) (fun j u h => by simp at h) (fun u h => by cases h)
  have hrun := run_append_room_src (P := P) w t t o.type e i h1 h2 b 0 n cap (.slice xa 0 c) 0 [] hsrc (by omega) (fun j h => by simp at h) (fun j h => by simp at h)
  unfold Oper.wp
  simp only [execOp, hop, resolve, invoke, builtin, Sem.run_bind, Sem.run_pure, Result.andThen_ok, List.map_toArray, List.map_cons, List.map_nil, hs, hx, hrun]
  exact hK _ _ h
theorem cellsOf_at : ∀ (l : List Tr) (q : Nat) (h : q < l.length), (cellsOf l)[q * 2]? = some (.int .i64 l[q].k) ∧ (cellsOf l)[q * 2 + 1]? = some (.slice l[q].a l[q].l.length l[q].c)
  | [], q, h => by simp at h
  | x :: r, 0, _ => by simp [cellsOf]
  | x :: r, q + 1, h => by
    have := cellsOf_at r q (by simpa using h)
    have e : (q + 1) * 2 = q * 2 + 1 + 1 := by omega
    rw [e]
    simpa [cellsOf] using this
theorem cellsOf_one : ∀ (l : List Tr) (u : Value), u ∈ cellsOf l → u.oneCell' = true
  | [], u, h => by simp [cellsOf] at h
  | x :: r, u, h => by
    simp only [cellsOf, List.mem_cons] at h
    rcases h with rfl | rfl | h
    · simp [Value.oneCell']
    · simp [Value.oneCell']
    · exact cellsOf_one r u h
theorem cellsOf_news {w : World} {T : Tr} {b o : Nat} (h : T.In w) (ha : T.a = some ⟨b, o, none⟩) (j : Nat) (u : Value) (hj : (cellsOf T.l)[j]? = some u) : w.cell? ((⟨b, o, none⟩ : Addr).add j) = some u := by
  have hlt : j < T.l.length * 2 := by
    have := (List.getElem?_eq_some_iff.1 hj).1
    rwa [cellsOf_length] at this
  obtain ⟨b', o', e, c0, c1, _⟩ := h.part (j / 2) (by omega)
  rw [ha] at e
  cases e
  obtain ⟨d0, d1⟩ := cellsOf_at T.l (j / 2) (by omega)
  have hadd : (⟨b, o, none⟩ : Addr).add j = ⟨b, o + j, none⟩ := by
    unfold Addr.add
    split
    · rename_i h; simp_all
    · rfl
  rcases Nat.mod_two_eq_zero_or_one j with hm | hm
  · have e : j / 2 * 2 = j := by omega
    rw [e] at d0 c0
    rw [hj] at d0
    rw [Option.some.inj d0]
    rw [hadd]
    exact c0
  · have e : j / 2 * 2 + 1 = j := by omega
    have e' : o + j / 2 * 2 + 1 = o + j := by omega
    rw [e] at d1
    rw [e'] at c1
    rw [hj] at d1
    rw [Option.some.inj d1]
    rw [hadd]
    exact c1
/-- A row of types that is owned is a tree's list. -/
theorem tr_of_row {w : World} {base g cap n : Nat} {l : List Tr} (h : w.ownsRow base 24 2 (.slice (some ⟨g, 0, none⟩) n cap) n (cellsOf l)) (hn : n = l.length) (hin : ∀ t, t ∈ l → t.In w) (k : Int) : (Tr.mk k (some ⟨g, 0, none⟩) cap l).In w := by
  refine Tr.In_mk.2 ⟨fun j hj => ⟨g, 0, rfl, ?_, ?_⟩, hin⟩
  · rw [h.cellAt _ (by omega)]
    simpa using (cellsOf_at l j hj).1
  · rw [h.cellAt _ (by omega)]
    simpa [Tr.sl] using (cellsOf_at l j hj).2
set_option maxRecDepth 20000 in
set_option maxHeartbeats 1000000 in
theorem ahead_any (x T : Tr) (w : World) (hx : x.In w) (hT : T.In w) (hl : T.l.length ≤ 1000) :
    Calls Tryz.prog 63 #[.agg #[.int .i64 x.k, .slice x.a x.l.length x.c], .slice T.a T.l.length T.c] w fun e w' => ∃ N : Tr, e = .returned (.slice N.a N.l.length N.c) ∧ N.l = x :: T.l ∧ N.In w' ∧ (∀ y, N.a = some y → w.heap.size ≤ y.block) ∧ Below w.heap.size w w' := by
  obtain ⟨i0, hi0, hz0, hz1, hz2⟩ := info_parts Tryz.info24
  have hb0 : Below w.heap.size w ((w.alloc (.cells #[.int .i64 x.k, .slice x.a x.l.length x.c] 24)).alloc (.cells #[.int .i64 x.k, .slice x.a x.l.length x.c] 24)) := ((Below.refl _ _).alloc (Nat.le_refl _) _).alloc (by simp) _
  have hown : ((w.alloc (.cells #[.int .i64 x.k, .slice x.a x.l.length x.c] 24)).alloc (.cells #[.int .i64 x.k, .slice x.a x.l.length x.c] 24)).ownsRow (w.heap.size + 1) 24 2 (.slice (some ⟨w.heap.size + 1, 0, none⟩) 1 1) 1 (cellsOf [x]) := by
    have := World.ownsRow_lit (base := w.heap.size + 1) (e := 24) (size := 2) (w.alloc (.cells #[.int .i64 x.k, .slice x.a x.l.length x.c] 24)) #[.int .i64 x.k, .slice x.a x.l.length x.c] 1 (by simp) (by unfold maxLen; omega) (by simp)
    simpa [cellsOf] using this
  by_cases h0 : T.l.length = 0
  · have hT0 : T.l = [] := List.eq_nil_of_length_eq_zero h0
    have HE : Hid ((Tr.mk 0 (some ⟨w.heap.size + 1, 0, none⟩) 1 [x]).In ((w.alloc (.cells #[.int .i64 x.k, .slice x.a x.l.length x.c] 24)).alloc (.cells #[.int .i64 x.k, .slice x.a x.l.length x.c] 24)) ∧ Below w.heap.size w ((w.alloc (.cells #[.int .i64 x.k, .slice x.a x.l.length x.c] 24)).alloc (.cells #[.int .i64 x.k, .slice x.a x.l.length x.c] 24))) :=
      ⟨tr_of_row hown rfl (fun t ht => by have : t = x := (by simpa using ht); subst this; exact hx.below hb0) 0, hb0⟩
    rw [h0]
    clear hown hb0 hx hT hl
    go_enter Tryz.func63, Tryz.ntmps63
    go_wp2_with (at_builtin; refine wpList_append_void rfl _ _ _ rfl 24 i0 Tryz.underlying22 hi0 (w.heap.size + 1) 1 1 rfl T.a T.c rfl (by omega) ?_)
    go_ret
    exact ⟨_, rfl, by rw [hT0], HE.out.1, fun y hy => by cases hy; show w.heap.size ≤ w.heap.size + 1; omega, HE.out.2⟩
  · obtain ⟨b, o, ea, _⟩ := hT.part 0 (by omega)
    have hT1 := hT.below hb0
    have hnews := fun j u h => cellsOf_news hT1 ea j u h
    have HIN : Hid (∀ t, t ∈ x :: T.l → t.In ((w.alloc (.cells #[.int .i64 x.k, .slice x.a x.l.length x.c] 24)).alloc (.cells #[.int .i64 x.k, .slice x.a x.l.length x.c] 24)) ∧ t.Bl (· < w.heap.size)) := by
      intro t ht
      rcases List.mem_cons.1 ht with rfl | ht
      · exact ⟨hx.below hb0, hx.bl⟩
      · obtain ⟨q, hq, rfl⟩ := List.getElem_of_mem ht
        obtain ⟨_, _, _, _, _, hi⟩ := hT.part q hq
        exact ⟨hi.below hb0, hi.bl⟩
    have hm : 0 < T.l.length := by omega
    have HB : Hid (Below w.heap.size w ((w.alloc (.cells #[.int .i64 x.k, .slice x.a x.l.length x.c] 24)).alloc (.cells #[.int .i64 x.k, .slice x.a x.l.length x.c] 24))) := hb0
    rw [ea]
    clear hx hT hT1 ea hb0
    go_enter Tryz.func63, Tryz.ntmps63
    go_wp2_with (at_builtin; refine wpList_append_lies _ rfl _ _ _ rfl (w.heap.size + 1) 24 i0 _ 2 32 Tryz.underlying22 hi0 hz0 hz1 hz2 rfl (by omega) (.slice (some ⟨w.heap.size + 1, 0, none⟩) 1 1) 1 (cellsOf [x]) rfl hown ⟨b, o, none⟩ T.l.length T.c (cellsOf T.l) rfl (cellsOf_length _) hnews (cellsOf_one _) hm (by unfold maxLen; omega) (by omega) (by simp) (w.heap.size + 1 + 1) (by simp) ?_; intro gg cap1 w3 hown1 hgrow hat hlt3)
    have hg : w.heap.size + 1 ≤ gg := by rcases hat with h | h
                                         · simp [Value.ownBlock] at h; omega
                                         · omega
    have hsz := hgrow.size
    have hlow : Below (w.heap.size + 1) ((w.alloc (.cells #[.int .i64 x.k, .slice x.a x.l.length x.c] 24)).alloc (.cells #[.int .i64 x.k, .slice x.a x.l.length x.c] 24)) w3 :=
      ⟨hgrow.os, hgrow.tape, hgrow.output, hgrow.size, fun q hq => hgrow.block q (by simp; omega) (by simp [Value.ownBlock]; omega)⟩
    have HE : Hid ((Tr.mk 0 (some ⟨gg, 0, none⟩) cap1 (x :: T.l)).In w3 ∧ Below w.heap.size w w3) := by
      refine ⟨tr_of_row (n := 1 + T.l.length) (l := x :: T.l) (by simpa [cellsOf] using hown1) (by simp; omega) (fun t ht => ?_) 0, HB.out.trans (hlow.mono (by omega))⟩
      obtain ⟨h1, h2⟩ := HIN.out t ht
      exact Tr.In.congr (P := fun q => q < w.heap.size) (fun q hq o => hlow.cell (p := ⟨q, o, none⟩) (by show q < _; omega)) h2 h1
    clear hown1 hgrow hat hlt3 hlow hown hnews HIN HB
    go_wp2_with fail
    go_ret
    exact ⟨⟨0, some ⟨gg, 0, none⟩, cap1, x :: T.l⟩, by simp [Nat.add_comm], rfl, HE.out.1, fun y hy => by cases hy; show w.heap.size ≤ gg; omega, HE.out.2⟩
end Go.Proofs.YtnddkmccagiclaaGreatDoor

/-
  Small things for the walk of check's read: its frame, its boxes, what its parts make together; no program's run in it.
-/
namespace Go.Proofs.YtnddkmccagiclaaGreatDoor
open Go.RowKit
/-- The term's box, and the place of the answer. -/
structure RF (H : Nat) (x : TT) (W : World) : Prop where
  at7 : At7 W H 0 x
  z0 : W.cell? ⟨H + 1, 0, none⟩ = some (.int .i64 0)
  z1 : W.cell? ⟨H + 1, 1, none⟩ = some (.int .i64 0)
  z2 : W.cell? ⟨H + 1, 2, none⟩ = some (.int .i64 0)
  z3 : W.cell? ⟨H + 1, 3, none⟩ = some (.int .i64 0)
  z4 : W.cell? ⟨H + 1, 4, none⟩ = some (.slice none 0 0)
  z5 : W.cell? ⟨H + 1, 5, none⟩ = some (.int .i64 0)
  z6 : W.cell? ⟨H + 1, 6, none⟩ = some (.slice none 0 0)
  z7 : W.cell? ⟨H + 1, 7, none⟩ = some (.slice none 0 0)
  z8 : W.cell? ⟨H + 1, 8, none⟩ = some (.int .i64 0)
  z9 : W.cell? ⟨H + 1, 9, none⟩ = some (.slice none 0 0)
  fz : ∀ i, W.frozen? ⟨H + 1, i, none⟩ = false
theorem RF.lt {H : Nat} {x : TT} {W : World} (h : RF H x W) : H + 1 < W.heap.size := World.block_lt_of_cell? _ _ h.z0
theorem RF.kept {H R : Nat} {x : TT} {W W' : World} (h : RF H x W) (hk : Kept R none W W') (h1 : H ≠ R) (h2 : H + 1 ≠ R) : RF H x W' :=
  ⟨h.at7.keptR hk h1, hk.cell h.z0 h2, hk.cell h.z1 h2, hk.cell h.z2 h2, hk.cell h.z3 h2, hk.cell h.z4 h2, hk.cell h.z5 h2, hk.cell h.z6 h2, hk.cell h.z7 h2, hk.cell h.z8 h2, hk.cell h.z9 h2, fun i => hk.fz (h.fz i) h.lt h2⟩
theorem RF.below {H : Nat} {x : TT} {W W' : World} (h : RF H x W) (hb : Below W.heap.size W W') : RF H x W' :=
  ⟨h.at7.below hb, cell_later hb h.z0, cell_later hb h.z1, cell_later hb h.z2, cell_later hb h.z3, cell_later hb h.z4, cell_later hb h.z5, cell_later hb h.z6, cell_later hb h.z7, cell_later hb h.z8, cell_later hb h.z9, fun i => (hb.frozen (p := ⟨H + 1, i, none⟩) h.lt).trans (h.fz i)⟩
theorem RF.start (x : TT) (w : World) : RF w.heap.size x ((w.alloc (.cells #[.int .i64 x.k, .int .i64 x.n, .int .i64 x.t.k, .slice x.t.a x.t.l.length x.t.c, .int .i64 x.f.k, .slice x.f.a x.f.l.length x.f.c, .slice x.a x.l.length x.c] 27)).alloc (.cells #[.int .i64 0, .int .i64 0, .int .i64 0, .int .i64 0, .slice none 0 0, .int .i64 0, .slice none 0 0, .slice none 0 0, .int .i64 0, .slice none 0 0] 71)) := by
  refine ⟨⟨?_, ?_, ?_, ?_, ?_, ?_, ?_⟩, ?_, ?_, ?_, ?_, ?_, ?_, ?_, ?_, ?_, ?_, fun i => ?_⟩
  all_goals simp [go_sem]
def put10 (w : World) (J : Nat) (v0 v1 v2 v3 v4 v5 v6 v7 v8 v9 : Value) : World :=
  (((((((((w.setCell ⟨J, 0, none⟩ v0).setCell ⟨J, 1, none⟩ v1).setCell ⟨J, 2, none⟩ v2).setCell ⟨J, 3, none⟩ v3).setCell ⟨J, 4, none⟩ v4).setCell ⟨J, 5, none⟩ v5).setCell ⟨J, 6, none⟩ v6).setCell ⟨J, 7, none⟩ v7).setCell ⟨J, 8, none⟩ v8).setCell ⟨J, 9, none⟩ v9
theorem put10_get {w : World} {J i : Nat} {u v0 v1 v2 v3 v4 v5 v6 v7 v8 v9 : Value} (hu : w.cell? ⟨J, i, none⟩ = some u) : (put10 w J v0 v1 v2 v3 v4 v5 v6 v7 v8 v9).cell? ⟨J, i, none⟩ = some (if i = 9 then v9 else if i = 8 then v8 else if i = 7 then v7 else if i = 6 then v6 else if i = 5 then v5 else if i = 4 then v4 else if i = 3 then v3 else if i = 2 then v2 else if i = 1 then v1 else if i = 0 then v0 else u) :=
  set_get (set_get (set_get (set_get (set_get (set_get (set_get (set_get (set_get (set_get hu)))))))))
theorem put10_kept {w : World} {J : Nat} {v0 v1 v2 v3 v4 v5 v6 v7 v8 v9 : Value} : Kept J none w (put10 w J v0 v1 v2 v3 v4 v5 v6 v7 v8 v9) :=
  setR_kept.trans (setR_kept.trans (setR_kept.trans (setR_kept.trans (setR_kept.trans (setR_kept.trans (setR_kept.trans (setR_kept.trans (setR_kept.trans setR_kept))))))))
theorem RF.put {H : Nat} {x : TT} {W : World} (h : RF H x W) (v0 v1 v2 v3 v4 v5 v6 v7 v8 v9 : Value) :
    (put10 W (H + 1) v0 v1 v2 v3 v4 v5 v6 v7 v8 v9).cell? ⟨H + 1, 0, none⟩ = some v0 ∧ (put10 W (H + 1) v0 v1 v2 v3 v4 v5 v6 v7 v8 v9).cell? ⟨H + 1, 1, none⟩ = some v1 ∧ (put10 W (H + 1) v0 v1 v2 v3 v4 v5 v6 v7 v8 v9).cell? ⟨H + 1, 2, none⟩ = some v2 ∧ (put10 W (H + 1) v0 v1 v2 v3 v4 v5 v6 v7 v8 v9).cell? ⟨H + 1, 3, none⟩ = some v3 ∧ (put10 W (H + 1) v0 v1 v2 v3 v4 v5 v6 v7 v8 v9).cell? ⟨H + 1, 4, none⟩ = some v4 ∧ (put10 W (H + 1) v0 v1 v2 v3 v4 v5 v6 v7 v8 v9).cell? ⟨H + 1, 5, none⟩ = some v5 ∧ (put10 W (H + 1) v0 v1 v2 v3 v4 v5 v6 v7 v8 v9).cell? ⟨H + 1, 6, none⟩ = some v6 ∧ (put10 W (H + 1) v0 v1 v2 v3 v4 v5 v6 v7 v8 v9).cell? ⟨H + 1, 7, none⟩ = some v7 ∧ (put10 W (H + 1) v0 v1 v2 v3 v4 v5 v6 v7 v8 v9).cell? ⟨H + 1, 8, none⟩ = some v8 ∧ (put10 W (H + 1) v0 v1 v2 v3 v4 v5 v6 v7 v8 v9).cell? ⟨H + 1, 9, none⟩ = some v9 := by
  refine ⟨?_, ?_, ?_, ?_, ?_, ?_, ?_, ?_, ?_, ?_⟩
  · simpa using put10_get (v0 := v0) (v1 := v1) (v2 := v2) (v3 := v3) (v4 := v4) (v5 := v5) (v6 := v6) (v7 := v7) (v8 := v8) (v9 := v9) h.z0
  · simpa using put10_get (v0 := v0) (v1 := v1) (v2 := v2) (v3 := v3) (v4 := v4) (v5 := v5) (v6 := v6) (v7 := v7) (v8 := v8) (v9 := v9) h.z1
  · simpa using put10_get (v0 := v0) (v1 := v1) (v2 := v2) (v3 := v3) (v4 := v4) (v5 := v5) (v6 := v6) (v7 := v7) (v8 := v8) (v9 := v9) h.z2
  · simpa using put10_get (v0 := v0) (v1 := v1) (v2 := v2) (v3 := v3) (v4 := v4) (v5 := v5) (v6 := v6) (v7 := v7) (v8 := v8) (v9 := v9) h.z3
  · simpa using put10_get (v0 := v0) (v1 := v1) (v2 := v2) (v3 := v3) (v4 := v4) (v5 := v5) (v6 := v6) (v7 := v7) (v8 := v8) (v9 := v9) h.z4
  · simpa using put10_get (v0 := v0) (v1 := v1) (v2 := v2) (v3 := v3) (v4 := v4) (v5 := v5) (v6 := v6) (v7 := v7) (v8 := v8) (v9 := v9) h.z5
  · simpa using put10_get (v0 := v0) (v1 := v1) (v2 := v2) (v3 := v3) (v4 := v4) (v5 := v5) (v6 := v6) (v7 := v7) (v8 := v8) (v9 := v9) h.z6
  · simpa using put10_get (v0 := v0) (v1 := v1) (v2 := v2) (v3 := v3) (v4 := v4) (v5 := v5) (v6 := v6) (v7 := v7) (v8 := v8) (v9 := v9) h.z7
  · simpa using put10_get (v0 := v0) (v1 := v1) (v2 := v2) (v3 := v3) (v4 := v4) (v5 := v5) (v6 := v6) (v7 := v7) (v8 := v8) (v9 := v9) h.z8
  · simpa using put10_get (v0 := v0) (v1 := v1) (v2 := v2) (v3 := v3) (v4 := v4) (v5 := v5) (v6 := v6) (v7 := v7) (v8 := v8) (v9 := v9) h.z9
/-- Three cells that are new and not yet written. -/
def ZB3 (V : World) (b : Nat) : Prop := V.cell? ⟨b, 0, none⟩ = some (.int .i64 0) ∧ V.cell? ⟨b, 1, none⟩ = some (.slice none 0 0) ∧ V.cell? ⟨b, 2, none⟩ = some (.slice none 0 0) ∧ V.frozen? ⟨b, 0, none⟩ = false ∧ V.frozen? ⟨b, 1, none⟩ = false ∧ V.frozen? ⟨b, 2, none⟩ = false
theorem ZB3.new (U : World) : ZB3 (U.alloc (.cells #[.int .i64 0, .slice none 0 0, .slice none 0 0] 115)) U.heap.size := by
  refine ⟨?_, ?_, ?_, ?_, ?_, ?_⟩ <;> simp [go_sem]
theorem ZB3.later {V w : World} {b : Nat} (hb : Below V.heap.size V w) (h : ZB3 V b) : ZB3 w b := by
  obtain ⟨h0, h1, h2, f0, f1, f2⟩ := h
  have hl : b < V.heap.size := World.block_lt_of_cell? _ _ h0
  exact ⟨cell_later hb h0, cell_later hb h1, cell_later hb h2, (hb.frozen (p := ⟨b, 0, none⟩) hl).trans f0, (hb.frozen (p := ⟨b, 1, none⟩) hl).trans f1, (hb.frozen (p := ⟨b, 2, none⟩) hl).trans f2⟩
/-- The rule's box. -/
structure At3 (W : World) (G : Nat) (I U : Tr) : Prop where
  k : W.cell? ⟨G, 0, none⟩ = some (.int .i64 I.k)
  l : W.cell? ⟨G, 1, none⟩ = some (.slice I.a I.l.length I.c)
  u : W.cell? ⟨G, 2, none⟩ = some (.slice U.a U.l.length U.c)
theorem ZB3.put {W : World} {G : Nat} (h : ZB3 W G) (I U : Tr) : At3 (((W.setCell ⟨G, 0, none⟩ (.int .i64 I.k)).setCell ⟨G, 1, none⟩ (.slice I.a I.l.length I.c)).setCell ⟨G, 2, none⟩ (.slice U.a U.l.length U.c)) G I U := by
  obtain ⟨h0, h1, h2, _⟩ := h
  exact ⟨by simpa using set_get (j := 2) (v := .slice U.a U.l.length U.c) (set_get (j := 1) (v := .slice I.a I.l.length I.c) (set_get (j := 0) (v := .int .i64 I.k) h0)), by simpa using set_get (j := 2) (v := .slice U.a U.l.length U.c) (set_get (j := 1) (v := .slice I.a I.l.length I.c) (set_get (j := 0) (v := .int .i64 I.k) h1)), by simpa using set_get (j := 2) (v := .slice U.a U.l.length U.c) (set_get (j := 1) (v := .slice I.a I.l.length I.c) (set_get (j := 0) (v := .int .i64 I.k) h2))⟩
theorem At3.new (W : World) (I U : Tr) : At3 (W.alloc (.cells #[.int .i64 I.k, .slice I.a I.l.length I.c, .slice U.a U.l.length U.c] 115)) W.heap.size I U := by
  refine ⟨?_, ?_, ?_⟩ <;> simp [go_sem]
theorem At3.below {W W' : World} {G : Nat} {I U : Tr} (h : At3 W G I U) (hb : Below W.heap.size W W') : At3 W' G I U := ⟨cell_later hb h.k, cell_later hb h.l, cell_later hb h.u⟩
theorem At3.lt {W : World} {G : Nat} {I U : Tr} (h : At3 W G I U) : G < W.heap.size := World.block_lt_of_cell? _ _ h.k
/-- Seven cells that are new and not yet written. -/
def ZB7 (V : World) (b : Nat) : Prop :=
  (V.cell? ⟨b, 0, none⟩ = some (.int .i64 0) ∧ V.cell? ⟨b, 1, none⟩ = some (.int .i64 0) ∧ V.cell? ⟨b, 2, none⟩ = some (.int .i64 0) ∧ V.cell? ⟨b, 3, none⟩ = some (.slice none 0 0) ∧ V.cell? ⟨b, 4, none⟩ = some (.int .i64 0) ∧ V.cell? ⟨b, 5, none⟩ = some (.slice none 0 0) ∧ V.cell? ⟨b, 6, none⟩ = some (.slice none 0 0)) ∧
    V.frozen? ⟨b, 0, none⟩ = false ∧ V.frozen? ⟨b, 1, none⟩ = false ∧ V.frozen? ⟨b, 2, none⟩ = false ∧ V.frozen? ⟨b, 3, none⟩ = false ∧ V.frozen? ⟨b, 4, none⟩ = false ∧ V.frozen? ⟨b, 5, none⟩ = false ∧ V.frozen? ⟨b, 6, none⟩ = false
theorem ZB7.box {V : World} {b : Nat} (h : ZB7 V b) : Box7 V b (tleaf 0 0) := by
  obtain ⟨⟨h0, h1, h2, h3, h4, h5, h6⟩, f0, f1, f2, f3, f4, f5, f6⟩ := h
  refine ⟨⟨h0, h1, h2, h3, h4, h5, h6⟩, fun i hi => ?_⟩
  obtain rfl | rfl | rfl | rfl | rfl | rfl | rfl : i = 0 ∨ i = 1 ∨ i = 2 ∨ i = 3 ∨ i = 4 ∨ i = 5 ∨ i = 6 := by omega
  · exact f0
  · exact f1
  · exact f2
  · exact f3
  · exact f4
  · exact f5
  · exact f6
theorem ZB7.lt {V : World} {b : Nat} (h : ZB7 V b) : b < V.heap.size := World.block_lt_of_cell? _ _ h.1.1
theorem ZB7.new (U : World) : ZB7 (U.alloc (.cells #[.int .i64 0, .int .i64 0, .int .i64 0, .slice none 0 0, .int .i64 0, .slice none 0 0, .slice none 0 0] 27)) U.heap.size := by
  refine ⟨⟨?_, ?_, ?_, ?_, ?_, ?_, ?_⟩, ?_, ?_, ?_, ?_, ?_, ?_, ?_⟩ <;> simp [go_sem]
theorem ZB7.later {V w : World} {b : Nat} (hb : Below V.heap.size V w) (h : ZB7 V b) : ZB7 w b := by
  have hl := h.lt
  obtain ⟨⟨h0, h1, h2, h3, h4, h5, h6⟩, f0, f1, f2, f3, f4, f5, f6⟩ := h
  exact ⟨⟨cell_later hb h0, cell_later hb h1, cell_later hb h2, cell_later hb h3, cell_later hb h4, cell_later hb h5, cell_later hb h6⟩, (hb.frozen (p := ⟨b, 0, none⟩) hl).trans f0, (hb.frozen (p := ⟨b, 1, none⟩) hl).trans f1, (hb.frozen (p := ⟨b, 2, none⟩) hl).trans f2, (hb.frozen (p := ⟨b, 3, none⟩) hl).trans f3, (hb.frozen (p := ⟨b, 4, none⟩) hl).trans f4, (hb.frozen (p := ⟨b, 5, none⟩) hl).trans f5, (hb.frozen (p := ⟨b, 6, none⟩) hl).trans f6⟩
theorem At7.new (W : World) (x : TT) : At7 (W.alloc (.cells #[.int .i64 x.k, .int .i64 x.n, .int .i64 x.t.k, .slice x.t.a x.t.l.length x.t.c, .int .i64 x.f.k, .slice x.f.a x.f.l.length x.f.c, .slice x.a x.l.length x.c] 27)) W.heap.size 0 x := by
  refine ⟨?_, ?_, ?_, ?_, ?_, ?_, ?_⟩ <;> simp [go_sem]
/-- The casts, one by one, are castL's. -/
theorem castL_of : ∀ (rs : List Rd) (us : List Tr) (zs : List TT), zs.length = rs.length → rs.length = us.length → (∀ r, r ∈ rs → 0 ≤ r.n) →
    (∀ q (h : q < zs.length) (h1 : q < rs.length) (h2 : q < us.length), zs[q].tm = castY rs[q].n rs[q].y.tm rs[q].i.ty us[q].ty) → zs.map TT.tm = castL (rs.map tri) (us.map Tr.ty)
  | [], [], [], _, _, _, _ => rfl
  | r :: rs, u :: us, z :: zs, h1, h2, hn, h => by
    have h0 := h 0 (by simp) (by simp) (by simp)
    have ih := castL_of rs us zs (by simpa using h1) (by simpa using h2) (fun q hq => hn q (by simp [hq])) fun q a b d => h (q + 1) (by simpa using a) (by simpa using b) (by simpa using d)
    have e : (r.n.toNat : Int) = r.n := Int.toNat_of_nonneg (hn r (by simp))
    simp only [List.getElem_cons_zero] at h0
    simp [castL, tri, e, h0, ih]
  | [], _ :: _, _, _, h, _, _ => by simp at h
  | _ :: _, [], _, _, h, _, _ => by simp at h
  | [], [], _ :: _, h, _, _, _ => by simp at h
  | _ :: _, _ :: _, [], h, _, _, _ => by simp at h
theorem tri_types (rs : List Rd) : (rs.map tri).map (fun p => p.2.2) = rs.map fun r => r.i.ty := by
  rw [List.map_map]; rfl
/-- What is known of the parts' types. -/
theorem parts_good {x : TT} {takes : List Ty} {c : Nat} {rs : List Rd} (hok : okTm x.tm takes.length) (hT : ∀ u, u ∈ takes → goodY 4 u = true) (hsz : x.sz ≤ 900) (h : readL (x.l.map TT.tm) (takesIn x.k x.t.ty takes) (c + 1) = some (rs.map tri)) :
    rs.length = x.l.length ∧ ∀ r, r ∈ rs → goodT ((x.l.map TT.sz).sum + 4) r.i = true := by
  obtain ⟨k, n, t, f, a, cc, l⟩ := x
  rw [TT.tm_mk] at hok
  obtain ⟨h0, h1⟩ := okTm_mk.1 hok
  obtain ⟨k1, k9, hl, _, ht, _, _⟩ := okTop_all h0
  have hlen := readL_length _ _ _ _ h
  simp only [List.length_map] at hlen
  refine ⟨hlen, fun r hr => ?_⟩
  obtain ⟨j, hj, rfl⟩ := List.getElem_of_mem hr
  have := readL_all (Q := fun x _ _ i => goodY (x.sz + 4) i = true) (l.map TT.tm) _ _ h (fun x hx c y i hr => read_good x _ c y i (by rw [takesIn_length]; exact h1 x hx) (takesIn_good ht hT) hr) j (by simpa using hj) (by simp; omega)
  have hs := sz_mem (l.map TT.tm) ((l.map TT.tm)[j]'(by simp; omega)) (List.getElem_mem _)
  rw [sz_map] at hs
  rw [goodT_eq]
  have g := goodY_more _ ((l.map TT.sz).sum + 4) _ (by omega) this
  simpa [tri] using g
theorem good_facts {n : Nat} (hn : n ≤ 1000) {t : Tr} (h : goodT n t = true) : t.right ∧ t.hgt ≤ 1000 ∧ t.sm := ⟨Tr.right_good n t h, Nat.le_trans (Tr.hgt_good n t h) hn, Tr.sm_good n t h⟩
/-- No type. -/
theorem readS_none1 {x : TT} {takes : List Ty} {c : Nat} (h : readL (x.l.map TT.tm) (takesIn x.k x.t.ty takes) (c + 1) = none) : readS x.tm takes c = none := by
  obtain ⟨k, n, t, f, a, cc, l⟩ := x
  rw [TT.tm_mk, readS_mk]
  simp only at h
  rw [h]; rfl
theorem readS_none2 {x : TT} {takes : List Ty} {c : Nat} {rs : List Rd} (h : readL (x.l.map TT.tm) (takesIn x.k x.t.ty takes) (c + 1) = some (rs.map tri)) (h2 : ruleY x.k x.n x.t.ty (rs.map fun r => r.i.ty) (takesIn x.k x.t.ty takes) = none) : readS x.tm takes c = none := by
  obtain ⟨k, n, t, f, a, cc, l⟩ := x
  rw [TT.tm_mk, readS_mk]
  simp only at h h2
  rw [h]
  simp only [Option.bind_some, tri_types, h2]; rfl
theorem readS_none3 {x : TT} {takes : List Ty} {c : Nat} {rs : List Rd} {i : Ty} {us : List Ty} (h : readL (x.l.map TT.tm) (takesIn x.k x.t.ty takes) (c + 1) = some (rs.map tri)) (h2 : ruleY x.k x.n x.t.ty (rs.map fun r => r.i.ty) (takesIn x.k x.t.ty takes) = some (i, us)) (h3 : fitL (rs.map fun r => r.i.ty) us = false) : readS x.tm takes c = none := by
  obtain ⟨k, n, t, f, a, cc, l⟩ := x
  rw [TT.tm_mk, readS_mk]
  simp only at h h2
  rw [h]
  simp only [Option.bind_some, tri_types, h2, h3]
  rfl
theorem readS_yes {x : TT} {takes : List Ty} {c : Nat} {rs : List Rd} {i : Ty} {us : List Ty} (h : readL (x.l.map TT.tm) (takesIn x.k x.t.ty takes) (c + 1) = some (rs.map tri)) (h2 : ruleY x.k x.n x.t.ty (rs.map fun r => r.i.ty) (takesIn x.k x.t.ty takes) = some (i, us)) (h3 : fitL (rs.map fun r => r.i.ty) us = true) : readS x.tm takes c = some (⟨x.k, x.n, x.t.ty, anyY, castL (rs.map tri) us⟩, i) := by
  obtain ⟨k, n, t, f, a, cc, l⟩ := x
  rw [TT.tm_mk, readS_mk]
  simp only at h h2
  rw [h]
  simp only [Option.bind_some, tri_types, h2, h3]
  rfl
end Go.Proofs.YtnddkmccagiclaaGreatDoor
