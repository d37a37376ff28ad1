/-
  What the call of kind.Sure answers at a right tree of not too many nodes.
-/
import Derived.Test.YtibjnkpmnimgoaaDoorSmall
import Derived.Deep.LoopGhost
import Derived.Deep.AppendLies
import Derived.Deep.AppendSrc
import Derived.Deep.RegionLaw
import Derived.WalkSmall
namespace Go.Proofs.YtibjnkpmnimgoaaDoor
open Go.RowKit

/-- Is Any nowhere in it? -/
def sureY : Ty → Bool
  | ⟨k, l⟩ => k != 0 && (l.map fun t => sureY t).all id
theorem sureY_mk (k : Int) (l : List Ty) : sureY ⟨k, l⟩ = (k != 0 && l.all sureY) := by
  rw [sureY, List.all_map]
  rfl

/-- How many nodes. -/
def Tr.sz : Tr → Nat
  | ⟨_, _, _, l⟩ => (l.map fun t => t.sz).sum + 1
theorem Tr.sz_mk (k : Int) (a : Option Addr) (c : Nat) (l : List Tr) : (Tr.mk k a c l).sz = (l.map Tr.sz).sum + 1 := by
  rw [Tr.sz]
theorem Tr.sz_pos (t : Tr) : 1 ≤ t.sz := by cases t; rw [Tr.sz_mk]; omega

theorem Tr.sz_good : ∀ (n : Nat) (t : Tr), goodT n t = true → t.sz + 1 ≤ 2 ^ n
  | 0, t, h => by simp [goodT] at h
  | n + 1, ⟨k, a, c, l⟩, h => by
    have hp : 1 ≤ 2 ^ n := Nat.one_le_two_pow
    rw [Tr.sz_mk, Nat.pow_succ]
    match l, h with
    | [], _ => simp; omega
    | [x], h => simp [goodT] at h
    | [x, y], h =>
      simp only [goodT, Bool.and_eq_true] at h
      have hx := Tr.sz_good n x h.1.2
      have hy := Tr.sz_good n y h.2
      simp only [List.map_cons, List.map_nil, List.sum_cons, List.sum_nil]; omega
    | x :: y :: z :: r, h => simp [goodT] at h

/-- The cells of a list of trees. -/
def cellsOf : List Tr → List Value
  | [] => []
  | t :: r => .int .i64 t.k :: .slice t.a t.l.length t.c :: cellsOf r

theorem cellsOf_length : ∀ l : List Tr, (cellsOf l).length = l.length * 2
  | [] => rfl
  | t :: r => by simp only [cellsOf, List.length_cons, cellsOf_length r]; omega

theorem cellsOf_append : ∀ l r : List Tr, cellsOf (l ++ r) = cellsOf l ++ cellsOf r
  | [], r => rfl
  | t :: l, r => by simp only [List.cons_append, cellsOf, cellsOf_append l r]

/-- What is left to be looked at. -/
def Left (B : Nat) (b : Bool) (N k : Nat) (v : Value) (wr : World) : Prop :=
  ∃ ts : List Tr, wr.ownsRow B 24 2 v ts.length (cellsOf ts) ∧ (∀ t, t ∈ ts → t.In wr ∧ t.Bl (· < B) ∧ t.right) ∧ (ts.map Tr.sz).sum = k ∧ k ≤ N ∧ b = ts.all fun t => sureY t.ty

theorem Left.split {ts : List Tr} (h : ts ≠ []) : ∃ us x, ts = us ++ [x] := ⟨ts.dropLast, ts.getLast h, (List.dropLast_concat_getLast h).symm⟩

/-- append of nothing, where there is room for nothing: a step of a region that draws. -/
theorem step_append_void {P : Program} {ops : Array Oper} {o : Oper} {a : Act} {w : World} {K : Act → World → Prop} {Q : Exit → Act → World → Prop} {E : Prop}
    (hg : o.guard = none) (s x : Operand) (t : TypeId) (hop : o.op = Op.call { callee := Callee.builtin Builtin.append, args := #[s, x], argTypes := #[t, t] })
    (e : TypeId) (i : TypeInfo) (h1 : P.underlying t = some (.slice e)) (h2 : P.info? e = some i)
    (b n cap : Nat) (hs : a.eval s = .slice (some ⟨b, 0, none⟩) n cap) (xa : Option Addr) (c : Nat) (hx : a.eval x = .slice xa 0 c) (hroom : n ≤ cap)
    (hK : K (a.put o.dst (.slice (some ⟨b, 0, none⟩) n cap)) w) :
    if Region.wanted o (yielded ops a.tmps) = true then Oper.wp P o a w K Q else E := by
  have hw : Region.wanted o (yielded ops a.tmps) = true := by simp [Region.wanted, hg]
  rw [if_pos hw]
  have hsrc : Src P i.size t (.slice xa 0 c) 0 [] w := by
    cases xa with
    | none => exact Src.ofNil w h1 c
    | some ad => exact Src.ofSlice w h1 ad 0 c [] (by simp) (fun j u h => by simp at h) (fun u h => by cases h)
  have hrun := run_append_room_src (P := P) w t t o.type e i h1 h2 b 0 n cap (.slice xa 0 c) 0 [] hsrc (by omega) (fun j h => by simp at h) (fun j h => by simp at h)
  unfold Oper.wp
  simp only [execOp, hop, resolve, invoke, builtin, Sem.run_bind, Sem.run_pure, Result.andThen_ok, List.map_toArray, List.map_cons, List.map_nil, hs, hx, hrun]
  exact hK

theorem sure_no (t : Tr) (h : t.k = 0) : sureY t.ty = false := by
  obtain ⟨k, a, c, l⟩ := t
  dsimp only at h
  rw [Tr.ty_mk, sureY_mk, h]
  simp

theorem sure_leaf (t : Tr) (h : t.l = []) (hk : t.k ≠ 0) : sureY t.ty = true := by
  obtain ⟨k, a, c, l⟩ := t
  dsimp only at h hk
  rw [Tr.ty_mk, sureY_mk, h]
  simpa using hk

theorem sure_two (t x y : Tr) (h : t.l = [x, y]) (hk : t.k ≠ 0) : sureY t.ty = (sureY x.ty && sureY y.ty) := by
  obtain ⟨k, a, c, l⟩ := t
  dsimp only at h hk
  rw [Tr.ty_mk, sureY_mk, h]
  simp [hk]

theorem Tr.sz_two (t x y : Tr) (h : t.l = [x, y]) : t.sz = x.sz + y.sz + 1 := by
  obtain ⟨k, a, c, l⟩ := t
  dsimp only at h
  rw [Tr.sz_mk, h]
  simp

theorem Tryd.info24s : (Tryd.prog.info? 24).map (fun i => (i.zero, i.size, i.bytes)) = some (some (.agg #[.int .i64 0, .slice none 0 0]), 2, 32) := by kernel_rfl

set_option maxHeartbeats 1000000 in
theorem sure_any (t : Tr) (w : World) (hin : t.In w) (hr : t.right) (hz : t.sz ≤ 1000000000) :
    Calls Tryd.prog 29 #[.agg #[.int .i64 t.k, .slice t.a t.l.length t.c]] w fun e w' => e = .returned (.bool (sureY t.ty)) ∧ Below w.heap.size w w' := by
  have HL : Hid (Left (w.heap.size + 1) (sureY t.ty) 1000000000 t.sz (.slice (some ⟨w.heap.size + 1, 0, none⟩) 1 1) ((w.alloc (.cells #[.int .i64 t.k, .slice t.a t.l.length t.c] 24)).alloc (.cells #[.int .i64 t.k, .slice t.a t.l.length t.c] 24))) := by
    have hb : Below w.heap.size w ((w.alloc (.cells #[.int .i64 t.k, .slice t.a t.l.length t.c] 24)).alloc (.cells #[.int .i64 t.k, .slice t.a t.l.length t.c] 24)) := ((Below.refl _ _).alloc (Nat.le_refl _) _).alloc (by simp) _
    have hh := heap_alloc_new (w.alloc (.cells #[.int .i64 t.k, .slice t.a t.l.length t.c] 24)) (.cells #[.int .i64 t.k, .slice t.a t.l.length t.c] 24)
    rw [World.size_alloc] at hh
    refine ⟨[t], ⟨rfl, .inr ⟨w.heap.size + 1, 1, _, rfl, Nat.le_refl _, hh, Nat.le_refl _, by unfold maxLen; omega, rfl, rfl⟩⟩, ?_, by simp, hz, by simp⟩
    intro x hx
    rcases List.mem_cons.1 hx with rfl | hx
    · exact ⟨hin.below hb, hin.bl.mono fun b hb => by omega, hr⟩
    · cases hx
  obtain ⟨i0, hi0, hz0, hz1, hz2⟩ := info_parts Tryd.info24s
  obtain ⟨B, hB⟩ : ∃ B, B = sureY t.ty := ⟨_, rfl⟩
  rw [← hB] at HL ⊢
  clear hB
  go_enter Tryd.func29, Tryd.ntmps29
  go_wp2_with fail
  go_loopg [3] t.sz (fun k v wr => ∃ u, u = v ∧ Hid (Left (w.heap.size + 1) B 1000000000 k u wr) ∧ Below w.heap.size w wr)
  case atStart => exact ⟨_, rfl, HL, ((Below.refl _ _).alloc (Nat.le_refl _) _).alloc (by simp) _⟩
  case round =>
    obtain ⟨v, hv, HR, hbr⟩ := hrel
    subst hv
    obtain ⟨ts, ho, hts, hk, hkn, hb⟩ := HR.out
    have HB : Hid (B = ts.all fun t => sureY t.ty) := hb
    clear hb HL
    by_cases hne : ts = []
    · subst hne
      obtain ⟨a, c, rfl⟩ : ∃ a c, v = .slice a 0 c := by
        rcases ho.2 with ⟨rfl, _⟩ | ⟨g, cap, cur, rfl, _⟩
        · exact ⟨_, _, rfl⟩
        · exact ⟨_, _, rfl⟩
      clear ho hts
      go_wp2_with fail
      go_ret
      exact ⟨by rw [HB.out]; rfl, hbr⟩
    · obtain ⟨us, x, rfl⟩ := Left.split hne
      have hlen : (us ++ [x]).length = us.length + 1 := by simp
      rw [hlen, cellsOf_append] at ho
      obtain ⟨g, cap, rfl, hg, hgl⟩ := ho.form (by omega)
      have c0 := ho.cellAt (us.length * 2) (by omega)
      have c1 := ho.cellAt (us.length * 2 + 1) (by omega)
      rw [List.getElem?_append_right (by rw [cellsOf_length]; exact Nat.le_refl _), cellsOf_length, Nat.sub_self] at c0
      rw [List.getElem?_append_right (by rw [cellsOf_length]; omega), cellsOf_length, show us.length * 2 + 1 - us.length * 2 = 1 by omega] at c1
      simp only [cellsOf, List.getElem?_cons_zero, List.getElem?_cons_succ] at c0 c1
      have hus : us.length ≤ (us.map Tr.sz).sum := by
        clear ho hts hk hkn HB HR c0 c1 hne hlen
        induction us with
        | nil => simp
        | cons u r ih => have := u.sz_pos; simp only [List.length_cons, List.map_cons, List.sum_cons]; omega
      have hk' : (us.map Tr.sz).sum + x.sz = gk := by rw [← hk]; simp
      have hcap : us.length + 1 ≤ cap := by
        rcases ho.2 with ⟨h, _⟩ | ⟨g', cap', cur, h, _, _, h1, _⟩
        · cases h
        · cases h; exact h1
      have hop : wr.ownsRow (w.heap.size + 1) 24 2 (.slice (some ⟨g, 0, none⟩) us.length cap) us.length (cellsOf us) := ownsRow_pop (cellsOf_length us) ho
      obtain ⟨xin, xbl, xr⟩ := hts x (by simp)
      have HT : Hid (∀ u, u ∈ us → u.In wr ∧ u.Bl (· < w.heap.size + 1) ∧ u.right) := fun u hu => hts u (by simp [hu])
      have i1 : (us.length : Int) < ((us.length : Int) + 1) := by omega
      have n1 : (us.length : Int) ≤ 1000000000 := by omega
      have n2 : (us.length : Int) ≤ (cap : Int) := by omega
      have n3 : (0 : Int) ≤ (us.length : Int) := by omega
      have hgne : g ≠ wr.heap.size := by omega
      clear ho hts hne hlen HR
      by_cases hx0 : x.k = 0
      · rw [hx0] at c0
        go_wp2_with fail
        go_ret
        refine ⟨?_, hbr.alloc hbr.size _⟩
        rw [HB.out, List.all_append, List.all_cons, sure_no x hx0]
        simp
      · have hx1 : (x.k == 0) = false := by simpa using hx0
        have HX : Hid (x.k ≠ 0) := hx0
        clear hx0
        rcases xr.cases with ⟨xl, xk⟩ | ⟨y, z, xl, xk, ry, rz⟩
        · rw [xl] at c1
          simp only [List.length_nil] at c1
          have HQ : Hid (x.l = []) := xl
          have hbb : Below w.heap.size w (wr.alloc (.cells #[.int .i64 x.k, .slice x.a 0 x.c] 24)) := hbr.alloc hbr.size _
          have HO : Hid (Left (w.heap.size + 1) B 1000000000 ((us.map Tr.sz).sum) (.slice (some ⟨g, 0, none⟩) us.length cap) (wr.alloc (.cells #[.int .i64 x.k, .slice x.a 0 x.c] 24)).drew) := by
            refine ⟨us, (hop.alloc _).drew, fun u hu => ?_, rfl, by omega, ?_⟩
            · obtain ⟨u1, u2, u3⟩ := HT.out u hu
              exact ⟨u1.below (((Below.refl _ _).alloc (Nat.le_refl _) _).drew), u2, u3⟩
            · rw [HB.out, List.all_append, List.all_cons, sure_leaf x xl HX.out]
              simp
          clear xl xk xin xbl xr HT HB
          go_wp2_with fail
          go_region_law ((refine step_append_void (by rfl) _ _ _ (by rfl) 24 i0 Tryd.underlying22 hi0 g us.length cap (by rfl) x.a x.c (by rfl) (by omega) ?_))
          go_wp2_with fail
          go_roundg ((us.map Tr.sz).sum)
          case measure => have := x.sz_pos; omega
          case rel => exact ⟨_, rfl, HO, hbb.drew⟩
        · obtain ⟨xb, xo, xa, y0, y1, yin⟩ := xin.part 0 (by simp [xl])
          obtain ⟨xb', xo', xa', z0, z1, zin⟩ := xin.part 1 (by simp [xl])
          rw [xa] at xa'
          obtain ⟨rfl, rfl⟩ : xb = xb' ∧ xo = xo' := by simpa using xa'
          simp only [xl, List.getElem_cons_zero, List.getElem_cons_succ] at y0 y1 z0 z1 yin zin
          have hnews : ∀ j u, (cellsOf [y, z])[j]? = some u → (wr.alloc (.cells #[.int .i64 x.k, .slice (some ⟨xb, xo, none⟩) 2 x.c] 24)).drew.cell? ((⟨xb, xo, none⟩ : Addr).add j) = some u := by
            have hbb : Below wr.heap.size wr (wr.alloc (.cells #[.int .i64 x.k, .slice (some ⟨xb, xo, none⟩) 2 x.c] 24)).drew := ((Below.refl _ _).alloc (Nat.le_refl _) _).drew
            intro j u hj
            match j, hj with
            | 0, hj => simp [cellsOf] at hj; subst hj; exact cell_later hbb (by simpa [Addr.add] using y0)
            | 1, hj => simp [cellsOf] at hj; subst hj; exact cell_later hbb (by simpa [Addr.add] using y1)
            | 2, hj => simp [cellsOf] at hj; subst hj; exact cell_later hbb (by simpa [Addr.add] using z0)
            | 3, hj => simp [cellsOf] at hj; subst hj; exact cell_later hbb (by simpa [Addr.add] using z1)
            | j + 4, hj => simp [cellsOf] at hj
          rw [xa, xl] at c1
          simp only [List.length_cons, List.length_nil, Nat.zero_add, Nat.reduceAdd] at c1
          have HQ : Hid (x.l = [y, z]) := xl
          have HN : Hid (∀ j u, (cellsOf [y, z])[j]? = some u → (wr.alloc (.cells #[.int .i64 x.k, .slice (some ⟨xb, xo, none⟩) 2 x.c] 24)).drew.cell? ((⟨xb, xo, none⟩ : Addr).add j) = some u) := hnews
          have HY : Hid (y.Bl (· < w.heap.size + 1) ∧ z.Bl (· < w.heap.size + 1)) := by
            obtain ⟨xk', xa'', xc', xl'⟩ := x
            dsimp only at xl
            subst xl
            exact ⟨(Tr.Bl_mk.1 xbl).2 y (by simp), (Tr.Bl_mk.1 xbl).2 z (by simp)⟩
          clear xl xk xin xbl xr xa xa' y0 y1 z0 z1 hnews
          go_wp2_with fail
          go_region_law
            ((refine step_append_lies _ (by rfl) _ _ _ (by rfl) (w.heap.size + 1) 24 i0 _ 2 32 Tryd.underlying22 hi0 hz0 hz1 hz2 rfl (by omega) (.slice (some ⟨g, 0, none⟩) us.length cap) us.length (cellsOf us) (by rfl) ((hop.alloc _).drew)
                ⟨xb, xo, none⟩ 2 x.c (cellsOf [y, z]) (by rfl) (by rfl) HN.out (by simp [cellsOf, Value.oneCell'])
                (by omega) (by unfold maxLen; omega) (by omega) (by simp; omega) (wr.heap.size + 1) (by simp) ?_; intro gg cap1 w1 hown1 hgrow hat hlt))
          have hbg : Below (w.heap.size + 1) wr w1 := (((Below.refl _ _).alloc (by omega) _).drew).grown hgrow (by simp; omega) (fun k hk => by simp [Value.ownBlock] at hk; omega)
          have HO : Hid (Left (w.heap.size + 1) B 1000000000 (((us ++ [y, z]).map Tr.sz).sum) (.slice (some ⟨gg, 0, none⟩) (us.length + 2) cap1) w1) := by
            refine ⟨us ++ [y, z], ?_, fun u hu => ?_, rfl, ?_, ?_⟩
            · rw [cellsOf_append, List.length_append]
              exact hown1
            · rcases List.mem_append.1 hu with hu | hu
              · obtain ⟨u1, u2, u3⟩ := HT.out u hu
                exact ⟨u1.congr (P := (· < w.heap.size + 1)) (fun b hb o => hbg.cell (p := ⟨b, o, none⟩) hb) u2, u2, u3⟩
              · rcases List.mem_cons.1 hu with rfl | hu
                · exact ⟨yin.congr (P := (· < w.heap.size + 1)) (fun b hb o => hbg.cell (p := ⟨b, o, none⟩) hb) HY.out.1, HY.out.1, ry⟩
                · rcases List.mem_cons.1 hu with rfl | hu
                  · exact ⟨zin.congr (P := (· < w.heap.size + 1)) (fun b hb o => hbg.cell (p := ⟨b, o, none⟩) hb) HY.out.2, HY.out.2, rz⟩
                  · cases hu
            · have hsz := Tr.sz_two x y z HQ.out
              simp only [List.map_append, List.sum_append_nat, List.map_cons, List.map_nil, List.sum_cons, List.sum_nil]
              omega
            · rw [HB.out, List.all_append, List.all_append, List.all_cons, List.all_cons, List.all_cons, sure_two x y z HQ.out HX.out]
              simp
          have hb1 : Below w.heap.size w w1 := hbr.trans (hbg.mono (by omega))
          have hms : (((us ++ [y, z]).map Tr.sz).sum) < gk := by
            have hsz := Tr.sz_two x y z HQ.out
            simp only [List.map_append, List.sum_append_nat, List.map_cons, List.map_nil, List.sum_cons, List.sum_nil]
            omega
          clear hown1 hgrow hat hbg
          go_wp2_with fail
          go_roundg (((us ++ [y, z]).map Tr.sz).sum)
          case measure => exact hms
          case rel => exact ⟨_, rfl, HO, hb1⟩
end Go.Proofs.YtibjnkpmnimgoaaDoor
