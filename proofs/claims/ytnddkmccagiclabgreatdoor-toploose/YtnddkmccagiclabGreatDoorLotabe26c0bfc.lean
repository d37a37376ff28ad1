/-
  What the call of kind.Sure answers at a right tree of not too many nodes.
-/
import Derived.Test.YtnddkmccagiclabGreatDoorLot42705c515c
import Derived.Deep.LoopGhost
import Derived.Deep.AppendLies
import Derived.Deep.AppendSrc
import Derived.Deep.RegionLaw
import Derived.WalkSmall
import Derived.Test.YtnddkmccagiclabGreatDoorLot42e30419a3
import Derived.Test.YtnddkmccagiclabGreatDoorLotca745287a4
namespace Go.Proofs.YtnddkmccagiclabGreatDoor
open Go.RowKit
/-- Is Any nowhere in it? -/
def sureY : Ty → Bool
  | ⟨k, l⟩ => k != 0 && (l.map fun t => sureY t).all id
theorem sureY_mk (k : Int) (l : List Ty) : sureY ⟨k, l⟩ = (k != 0 && l.all sureY) := by
  rw [sureY, List.all_map]
  rfl
/-- How many nodes. -/
def Tr.sz : Tr → Nat
  | ⟨_, _, _, l⟩ => (l.map fun t => t.sz).sum + 1
theorem Tr.sz_mk (k : Int) (a : Option Addr) (c : Nat) (l : List Tr) : (Tr.mk k a c l).sz = (l.map Tr.sz).sum + 1 := by
  rw [Tr.sz]
theorem Tr.sz_pos (t : Tr) : 1 ≤ t.sz := by cases t; rw [Tr.sz_mk]; omega
theorem Tr.sz_good : ∀ (n : Nat) (t : Tr), goodT n t = true → t.sz + 1 ≤ 2 ^ n
  | 0, t, h => by simp [goodT] at h
  | n + 1, ⟨k, a, c, l⟩, h => by
    have hp : 1 ≤ 2 ^ n := Nat.one_le_two_pow
    rw [Tr.sz_mk, Nat.pow_succ]
    match l, h with
    | [], _ => simp; omega
    | [x], h => simp [goodT] at h
    | [x, y], h =>
      simp only [goodT, Bool.and_eq_true] at h
      have hx := Tr.sz_good n x h.1.2
      have hy := Tr.sz_good n y h.2
      simp only [List.map_cons, List.map_nil, List.sum_cons, List.sum_nil]; omega
    | x :: y :: z :: r, h => simp [goodT] at h
/-- The cells of a list of trees. -/
def cellsOf : List Tr → List Value
  | [] => []
  | t :: r => .int .i64 t.k :: .slice t.a t.l.length t.c :: cellsOf r
theorem cellsOf_length : ∀ l : List Tr, (cellsOf l).length = l.length * 2
  | [] => rfl
  | t :: r => by simp only [cellsOf, List.length_cons, cellsOf_length r]; omega
theorem cellsOf_append : ∀ l r : List Tr, cellsOf (l ++ r) = cellsOf l ++ cellsOf r
  | [], r => rfl
  | t :: l, r => by simp only [List.cons_append, cellsOf, cellsOf_append l r]
/-- What is left to be looked at. -/
def Left (B : Nat) (b : Bool) (N k : Nat) (v : Value) (wr : World) : Prop :=
  ∃ ts : List Tr, wr.ownsRow B 24 2 v ts.length (cellsOf ts) ∧ (∀ t, t ∈ ts → t.In wr ∧ t.Bl (· < B) ∧ t.right) ∧ (ts.map Tr.sz).sum = k ∧ k ≤ N ∧ b = ts.all fun t => sureY t.ty
theorem Left.split {ts : List Tr} (h : ts ≠ []) : ∃ us x, ts = us ++ [x] := ⟨ts.dropLast, ts.getLast h, (List.dropLast_concat_getLast h).symm⟩
/-- append of nothing, where there is room for nothing: a step of a region that draws. -/
theorem step_append_void {P : Program} {ops : Array Oper} {o : Oper} {a : Act} {w : World} {K : Act → World → Prop} {Q : Exit → Act → World → Prop} {E : Prop}
    (hg : o.guard = none) (s x : Operand) (t : TypeId) (hop : o.op = Op.call { callee := Callee.builtin Builtin.append, args := #[s, x], argTypes := #[t, t] })
    (e : TypeId) (i : TypeInfo) (h1 : P.underlying t = some (.slice e)) (h2 : P.info? e = some i)
    (b n cap : Nat) (hs : a.eval s = .slice (some ⟨b, 0, none⟩) n cap) (xa : Option Addr) (c : Nat) (hx : a.eval x = .slice xa 0 c) (hroom : n ≤ cap)
    (hK : K (a.put o.dst (.slice (some ⟨b, 0, none⟩) n cap)) w) :
    if Region.wanted o (yielded ops a.tmps) = true then Oper.wp P o a w K Q else E := by
  have hw : Region.wanted o (yielded ops a.tmps) = true := by simp [Region.wanted, hg]
  rw [if_pos hw]
  have hsrc : Src P i.size t (.slice xa 0 c) 0 [] w := by
    cases xa with
    | none => exact Src.ofNil w h1 c
    | some ad => exact Src.ofSlice w h1 ad 0 c [] (by simp) (fun j u h => by simp at h) (fun u h => by cases h)
  have hrun := run_append_room_src (P := P) w t t o.type e i h1 h2 b 0 n cap (.slice xa 0 c) 0 [] hsrc (by omega) (fun j h => by simp at h) (fun j h => by simp at h)
  unfold Oper.wp
  simp only [execOp, hop, resolve, invoke, builtin, Sem.run_bind, Sem.run_pure, Result.andThen_ok, List.map_toArray, List.map_cons, List.map_nil, hs, hx, hrun]
  exact hK
theorem sure_no (t : Tr) (h : t.k = 0) : sureY t.ty = false := by
  obtain ⟨k, a, c, l⟩ := t
  dsimp only at h
  rw [Tr.ty_mk, sureY_mk, h]
  simp
theorem sure_leaf (t : Tr) (h : t.l = []) (hk : t.k ≠ 0) : sureY t.ty = true := by
  obtain ⟨k, a, c, l⟩ := t
  dsimp only at h hk
  rw [Tr.ty_mk, sureY_mk, h]
  simpa using hk
theorem sure_two (t x y : Tr) (h : t.l = [x, y]) (hk : t.k ≠ 0) : sureY t.ty = (sureY x.ty && sureY y.ty) := by
  obtain ⟨k, a, c, l⟩ := t
  dsimp only at h hk
  rw [Tr.ty_mk, sureY_mk, h]
  simp [hk]
theorem Tr.sz_two (t x y : Tr) (h : t.l = [x, y]) : t.sz = x.sz + y.sz + 1 := by
  obtain ⟨k, a, c, l⟩ := t
  dsimp only at h
  rw [Tr.sz_mk, h]
  simp
theorem Tryz.info24s : (Tryz.prog.info? 24).map (fun i => (i.zero, i.size, i.bytes)) = some (some (.agg #[.int .i64 0, .slice none 0 0]), 2, 32) := by kernel_rfl
set_option maxHeartbeats 1000000 in
theorem sure_any (t : Tr) (w : World) (hin : t.In w) (hr : t.right) (hz : t.sz ≤ 1000000000) :
    Calls Tryz.prog 31 #[.agg #[.int .i64 t.k, .slice t.a t.l.length t.c]] w fun e w' => e = .returned (.bool (sureY t.ty)) ∧ Below w.heap.size w w' := by
  have HL : Hid (Left (w.heap.size + 1) (sureY t.ty) 1000000000 t.sz (.slice (some ⟨w.heap.size + 1, 0, none⟩) 1 1) ((w.alloc (.cells #[.int .i64 t.k, .slice t.a t.l.length t.c] 24)).alloc (.cells #[.int .i64 t.k, .slice t.a t.l.length t.c] 24))) := by
    have hb : Below w.heap.size w ((w.alloc (.cells #[.int .i64 t.k, .slice t.a t.l.length t.c] 24)).alloc (.cells #[.int .i64 t.k, .slice t.a t.l.length t.c] 24)) := ((Below.refl _ _).alloc (Nat.le_refl _) _).alloc (by simp) _
    have hh := heap_alloc_new (w.alloc (.cells #[.int .i64 t.k, .slice t.a t.l.length t.c] 24)) (.cells #[.int .i64 t.k, .slice t.a t.l.length t.c] 24)
    rw [World.size_alloc] at hh
    refine ⟨[t], ⟨rfl, .inr ⟨w.heap.size + 1, 1, _, rfl, Nat.le_refl _, hh, Nat.le_refl _, by unfold maxLen; omega, rfl, rfl⟩⟩, ?_, by simp, hz, by simp⟩
    intro x hx
    rcases List.mem_cons.1 hx with rfl | hx
    · exact ⟨hin.below hb, hin.bl.mono fun b hb => by omega, hr⟩
    · cases hx
  obtain ⟨i0, hi0, hz0, hz1, hz2⟩ := info_parts Tryz.info24s
  obtain ⟨B, hB⟩ : ∃ B, B = sureY t.ty := ⟨_, rfl⟩
  rw [← hB] at HL ⊢
  clear hB
  go_enter Tryz.func31, Tryz.ntmps31
  go_wp2_with fail
  go_loopg [3] t.sz (fun k v wr => ∃ u, u = v ∧ Hid (Left (w.heap.size + 1) B 1000000000 k u wr) ∧ Below w.heap.size w wr)
  case atStart => exact ⟨_, rfl, HL, ((Below.refl _ _).alloc (Nat.le_refl _) _).alloc (by simp) _⟩
  case round =>
    obtain ⟨v, hv, HR, hbr⟩ := hrel
    subst hv
    obtain ⟨ts, ho, hts, hk, hkn, hb⟩ := HR.out
    have HB : Hid (B = ts.all fun t => sureY t.ty) := hb
    clear hb HL
    by_cases hne : ts = []
    · subst hne
      obtain ⟨a, c, rfl⟩ : ∃ a c, v = .slice a 0 c := by
        rcases ho.2 with ⟨rfl, _⟩ | ⟨g, cap, cur, rfl, _⟩
        · exact ⟨_, _, rfl⟩
        · exact ⟨_, _, rfl⟩
      clear ho hts
      go_wp2_with fail
      go_ret
      exact ⟨by rw [HB.out]; rfl, hbr⟩
    · obtain ⟨us, x, rfl⟩ := Left.split hne
      have hlen : (us ++ [x]).length = us.length + 1 := by simp
      rw [hlen, cellsOf_append] at ho
      obtain ⟨g, cap, rfl, hg, hgl⟩ := ho.form (by omega)
      have c0 := ho.cellAt (us.length * 2) (by omega)
      have c1 := ho.cellAt (us.length * 2 + 1) (by omega)
      rw [List.getElem?_append_right (by rw [cellsOf_length]; exact Nat.le_refl _), cellsOf_length, Nat.sub_self] at c0
      rw [List.getElem?_append_right (by rw [cellsOf_length]; omega), cellsOf_length, show us.length * 2 + 1 - us.length * 2 = 1 by omega] at c1
      simp only [cellsOf, List.getElem?_cons_zero, List.getElem?_cons_succ] at c0 c1
      have hus : us.length ≤ (us.map Tr.sz).sum := by
        clear ho hts hk hkn HB HR c0 c1 hne hlen
        induction us with
        | nil => simp
        | cons u r ih => have := u.sz_pos; simp only [List.length_cons, List.map_cons, List.sum_cons]; omega
      have hk' : (us.map Tr.sz).sum + x.sz = gk := by rw [← hk]; simp
      have hcap : us.length + 1 ≤ cap := by
        rcases ho.2 with ⟨h, _⟩ | ⟨g', cap', cur, h, _, _, h1, _⟩
        · cases h
        · cases h; exact h1
      have hop : wr.ownsRow (w.heap.size + 1) 24 2 (.slice (some ⟨g, 0, none⟩) us.length cap) us.length (cellsOf us) := ownsRow_pop (cellsOf_length us) ho
      obtain ⟨xin, xbl, xr⟩ := hts x (by simp)
      have HT : Hid (∀ u, u ∈ us → u.In wr ∧ u.Bl (· < w.heap.size + 1) ∧ u.right) := fun u hu => hts u (by simp [hu])
      have i1 : (us.length : Int) < ((us.length : Int) + 1) := by omega
      have n1 : (us.length : Int) ≤ 1000000000 := by omega
      have n2 : (us.length : Int) ≤ (cap : Int) := by omega
      have n3 : (0 : Int) ≤ (us.length : Int) := by omega
      have hgne : g ≠ wr.heap.size := by omega
      clear ho hts hne hlen HR
      by_cases hx0 : x.k = 0
      · rw [hx0] at c0
        go_wp2_with fail
        go_ret
        refine ⟨?_, hbr.alloc hbr.size _⟩
        rw [HB.out, List.all_append, List.all_cons, sure_no x hx0]
        simp
      · have hx1 : (x.k == 0) = false := by simpa using hx0
        have HX : Hid (x.k ≠ 0) := hx0
        clear hx0
        rcases xr.cases with ⟨xl, xk⟩ | ⟨y, z, xl, xk, ry, rz⟩
        · rw [xl] at c1
          simp only [List.length_nil] at c1
          have HQ : Hid (x.l = []) := xl
          have hbb : Below w.heap.size w (wr.alloc (.cells #[.int .i64 x.k, .slice x.a 0 x.c] 24)) := hbr.alloc hbr.size _
          have HO : Hid (Left (w.heap.size + 1) B 1000000000 ((us.map Tr.sz).sum) (.slice (some ⟨g, 0, none⟩) us.length cap) (wr.alloc (.cells #[.int .i64 x.k, .slice x.a 0 x.c] 24)).drew) := by
            refine ⟨us, (hop.alloc _).drew, fun u hu => ?_, rfl, by omega, ?_⟩
            · obtain ⟨u1, u2, u3⟩ := HT.out u hu
              exact ⟨u1.below (((Below.refl _ _).alloc (Nat.le_refl _) _).drew), u2, u3⟩
            · rw [HB.out, List.all_append, List.all_cons, sure_leaf x xl HX.out]
              simp
          clear xl xk xin xbl xr HT HB
          go_wp2_with fail
          go_region_law ((refine step_append_void (by rfl) _ _ _ (by rfl) 24 i0 Tryz.underlying22 hi0 g us.length cap (by rfl) x.a x.c (by rfl) (by omega) ?_))
          go_wp2_with fail
          go_roundg ((us.map Tr.sz).sum)
          case measure => have := x.sz_pos; omega
          case rel => exact ⟨_, rfl, HO, hbb.drew⟩
        · obtain ⟨xb, xo, xa, y0, y1, yin⟩ := xin.part 0 (by simp [xl])
          obtain ⟨xb', xo', xa', z0, z1, zin⟩ := xin.part 1 (by simp [xl])
          rw [xa] at xa'
          obtain ⟨rfl, rfl⟩ : xb = xb' ∧ xo = xo' := by simpa using xa'
          simp only [xl, List.getElem_cons_zero, List.getElem_cons_succ] at y0 y1 z0 z1 yin zin
          have hnews : ∀ j u, (cellsOf [y, z])[j]? = some u → (wr.alloc (.cells #[.int .i64 x.k, .slice (some ⟨xb, xo, none⟩) 2 x.c] 24)).drew.cell? ((⟨xb, xo, none⟩ : Addr).add j) = some u := by
            have hbb : Below wr.heap.size wr (wr.alloc (.cells #[.int .i64 x.k, .slice (some ⟨xb, xo, none⟩) 2 x.c] 24)).drew := ((Below.refl _ _).alloc (Nat.le_refl _) _).drew
            intro j u hj
            match j, hj with
            | 0, hj => simp [cellsOf] at hj; subst hj; exact cell_later hbb (by simpa [Addr.add] using y0)
            | 1, hj => simp [cellsOf] at hj; subst hj; exact cell_later hbb (by simpa [Addr.add] using y1)
            | 2, hj => simp [cellsOf] at hj; subst hj; exact cell_later hbb (by simpa [Addr.add] using z0)
            | 3, hj => simp [cellsOf] at hj; subst hj; exact cell_later hbb (by simpa [Addr.add] using z1)
            | j + 4, hj => simp [cellsOf] at hj
          rw [xa, xl] at c1
          simp only [List.length_cons, List.length_nil, Nat.zero_add, Nat.reduceAdd] at c1
          have HQ : Hid (x.l = [y, z]) := xl
          have HN : Hid (∀ j u, (cellsOf [y, z])[j]? = some u → (wr.alloc (.cells #[.int .i64 x.k, .slice (some ⟨xb, xo, none⟩) 2 x.c] 24)).drew.cell? ((⟨xb, xo, none⟩ : Addr).add j) = some u) := hnews
          have HY : Hid (y.Bl (· < w.heap.size + 1) ∧ z.Bl (· < w.heap.size + 1)) := by
            obtain ⟨xk', xa'', xc', xl'⟩ := x
            dsimp only at xl
            subst xl
            exact ⟨(Tr.Bl_mk.1 xbl).2 y (by simp), (Tr.Bl_mk.1 xbl).2 z (by simp)⟩
          clear xl xk xin xbl xr xa xa' y0 y1 z0 z1 hnews
          go_wp2_with fail
          go_region_law
            ((refine step_append_lies _ (by rfl) _ _ _ (by rfl) (w.heap.size + 1) 24 i0 _ 2 32 Tryz.underlying22 hi0 hz0 hz1 hz2 rfl (by omega) (.slice (some ⟨g, 0, none⟩) us.length cap) us.length (cellsOf us) (by rfl) ((hop.alloc _).drew)
                ⟨xb, xo, none⟩ 2 x.c (cellsOf [y, z]) (by rfl) (by rfl) HN.out (by simp [cellsOf, Value.oneCell'])
                (by omega) (by unfold maxLen; omega) (by omega) (by simp; omega) (wr.heap.size + 1) (by simp) ?_; intro gg cap1 w1 hown1 hgrow hat hlt))
          have hbg : Below (w.heap.size + 1) wr w1 := (((Below.refl _ _).alloc (by omega) _).drew).grown hgrow (by simp; omega) (fun k hk => by simp [Value.ownBlock] at hk; omega)
          have HO : Hid (Left (w.heap.size + 1) B 1000000000 (((us ++ [y, z]).map Tr.sz).sum) (.slice (some ⟨gg, 0, none⟩) (us.length + 2) cap1) w1) := by
            refine ⟨us ++ [y, z], ?_, fun u hu => ?_, rfl, ?_, ?_⟩
            · rw [cellsOf_append, List.length_append]
              exact hown1
            · rcases List.mem_append.1 hu with hu | hu
              · obtain ⟨u1, u2, u3⟩ := HT.out u hu
                exact ⟨u1.congr (P := (· < w.heap.size + 1)) (fun b hb o => hbg.cell (p := ⟨b, o, none⟩) hb) u2, u2, u3⟩
              · rcases List.mem_cons.1 hu with rfl | hu
                · exact ⟨yin.congr (P := (· < w.heap.size + 1)) (fun b hb o => hbg.cell (p := ⟨b, o, none⟩) hb) HY.out.1, HY.out.1, ry⟩
                · rcases List.mem_cons.1 hu with rfl | hu
                  · exact ⟨zin.congr (P := (· < w.heap.size + 1)) (fun b hb o => hbg.cell (p := ⟨b, o, none⟩) hb) HY.out.2, HY.out.2, rz⟩
                  · cases hu
            · have hsz := Tr.sz_two x y z HQ.out
              simp only [List.map_append, List.sum_append_nat, List.map_cons, List.map_nil, List.sum_cons, List.sum_nil]
              omega
            · rw [HB.out, List.all_append, List.all_append, List.all_cons, List.all_cons, List.all_cons, sure_two x y z HQ.out HX.out]
              simp
          have hb1 : Below w.heap.size w w1 := hbr.trans (hbg.mono (by omega))
          have hms : (((us ++ [y, z]).map Tr.sz).sum) < gk := by
            have hsz := Tr.sz_two x y z HQ.out
            simp only [List.map_append, List.sum_append_nat, List.map_cons, List.map_nil, List.sum_cons, List.sum_nil]
            omega
          clear hown1 hgrow hat hbg
          go_wp2_with fail
          go_roundg (((us ++ [y, z]).map Tr.sz).sum)
          case measure => exact hms
          case rel => exact ⟨_, rfl, HO, hb1⟩
end Go.Proofs.YtnddkmccagiclabGreatDoor

/-
  The plain mathematics of good types: what both say each of them says; who is finer fits; what is sure fits only what is coarser; no program in it.
-/
namespace Go.Proofs.YtnddkmccagiclabGreatDoor
theorem goodY_cases {n : Nat} {t : Ty} (h : goodY (n + 1) t = true) : (∃ k, t = ⟨k, []⟩ ∧ (k = 0 ∨ k = 1 ∨ k = 2)) ∨ ∃ x y, t = ⟨3, [x, y]⟩ ∧ goodY n x = true ∧ goodY n y = true := by
  match t, h with
  | ⟨k, []⟩, h => exact .inl ⟨k, rfl, by simpa [goodY, or_assoc] using h⟩
  | ⟨k, [x]⟩, h => simp [goodY] at h
  | ⟨k, [x, y]⟩, h =>
    simp [goodY] at h
    obtain ⟨⟨rfl, hx⟩, hy⟩ := h
    exact .inr ⟨x, y, rfl, hx, hy⟩
  | ⟨k, x :: y :: z :: r⟩, h => simp [goodY] at h
theorem any_left (t : Ty) (l : List Ty) : relY escFits ⟨0, l⟩ t = true := by cases t; simp [relY_mk, escFits]
theorem any_right (t : Ty) (l : List Ty) : relY escFits t ⟨0, l⟩ = true := by cases t; simp [relY_mk, escFits]
theorem any_coarser (t : Ty) (l : List Ty) : relY escFiner t ⟨0, l⟩ = true := by cases t; simp [relY_mk, escFiner]
theorem two (esc : Int → Int → Bool) (x y x' y' : Ty) (h : esc 3 3 = false) : relY esc ⟨3, [x, y]⟩ ⟨3, [x', y']⟩ = (relY esc x x' && relY esc y y') := by
  simp [relY_mk, relL, h]
theorem join_two (x y x' y' : Ty) : joinY ⟨3, [x, y]⟩ ⟨3, [x', y']⟩ = ⟨3, [joinY x x', joinY y y']⟩ := by
  simp [joinY_mk, joinL]
theorem join_facts : ∀ (n : Nat) (a b : Ty), goodY n a = true → goodY n b = true →
    goodY n (joinY a b) = true ∧ relY escFiner a (joinY a b) = true ∧ relY escFiner b (joinY a b) = true ∧ joinY b a = joinY a b ∧ joinY a a = a
  | 0, a, b, h, _ => by simp [goodY] at h
  | n + 1, a, b, ha, hb => by
    rcases goodY_cases ha with ⟨k, rfl, hk⟩ | ⟨x, y, rfl, hx, hy⟩
    · rcases goodY_cases hb with ⟨k', rfl, hk'⟩ | ⟨x', y', rfl, hx', hy'⟩
      · by_cases e : k = k'
        · subst e
          rcases hk with rfl | rfl | rfl <;> simp [joinY_mk, joinL, goodY, relY_mk, relL]
        · have e' : k' ≠ k := fun h => e h.symm
          simp [joinY_mk, joinL, e, e', goodY, relY_mk, escFiner]
      · have e : k ≠ 3 := by omega
        have e' : (3 : Int) ≠ k := by omega
        simp [joinY_mk, joinL, e, e', goodY, relY_mk, escFiner]
    · rcases goodY_cases hb with ⟨k', rfl, hk'⟩ | ⟨x', y', rfl, hx', hy'⟩
      · have e : k' ≠ 3 := by omega
        have e' : (3 : Int) ≠ k' := by omega
        obtain ⟨_, _, _, _, ix⟩ := join_facts n x x hx hx
        obtain ⟨_, _, _, _, iy⟩ := join_facts n y y hy hy
        simp [joinY_mk, joinL, e, e', goodY, relY_mk, escFiner, ix, iy]
      · obtain ⟨g1, f1, f2, c1, i1⟩ := join_facts n x x' hx hx'
        obtain ⟨g2, f3, f4, c2, i2⟩ := join_facts n y y' hy hy'
        refine ⟨?_, ?_, ?_, ?_, ?_⟩
        · rw [join_two]; simp [goodY, g1, g2]
        · rw [join_two, two _ _ _ _ _ rfl, f1, f3]; rfl
        · rw [join_two, two _ _ _ _ _ rfl, f2, f4]; rfl
        · rw [join_two, join_two, c1, c2]
        · rw [join_two, i1, i2]
theorem join_least : ∀ (n : Nat) (a b c : Ty), goodY n a = true → goodY n b = true → goodY n c = true → relY escFiner a c = true → relY escFiner b c = true → relY escFiner (joinY a b) c = true
  | 0, a, b, c, h, _, _ => by simp [goodY] at h
  | n + 1, a, b, c, ha, hb, hc => by
    intro h1 h2
    rcases goodY_cases hc with ⟨k, rfl, hk⟩ | ⟨z, u, rfl, hz, hu⟩
    · rcases hk with rfl | hk
      · exact any_coarser _ _
      · have k0 : k ≠ 0 := by omega
        rcases goodY_cases ha with ⟨ka, rfl, _⟩ | ⟨x, y, rfl, hx, hy⟩
        · rcases goodY_cases hb with ⟨kb, rfl, _⟩ | ⟨x', y', rfl, hx', hy'⟩
          · simp [relY_mk, relL, escFiner, k0] at h1 h2
            subst h1
            subst h2
            simp [joinY_mk, joinL, relY_mk, relL]
          · simp [relY_mk, relL, escFiner, k0] at h2
        · simp [relY_mk, relL, escFiner, k0] at h1
    · rcases goodY_cases ha with ⟨ka, rfl, hka⟩ | ⟨x, y, rfl, hx, hy⟩
      · have e : ka ≠ 3 := by omega
        simp [relY_mk, relL, escFiner] at h1
      · rcases goodY_cases hb with ⟨kb, rfl, hkb⟩ | ⟨x', y', rfl, hx', hy'⟩
        · simp [relY_mk, relL, escFiner] at h2
        · rw [two _ _ _ _ _ rfl, Bool.and_eq_true] at h1 h2
          rw [join_two, two _ _ _ _ _ rfl, join_least n x x' z hx hx' hz h1.1 h2.1, join_least n y y' u hy hy' hu h1.2 h2.2]
          rfl
theorem fits_sym : ∀ (n : Nat) (a b : Ty), goodY n a = true → goodY n b = true → relY escFits a b = relY escFits b a
  | 0, a, b, h, _ => by simp [goodY] at h
  | n + 1, a, b, ha, hb => by
    rcases goodY_cases ha with ⟨ka, rfl, _⟩ | ⟨x, y, rfl, hx, hy⟩
    · rcases goodY_cases hb with ⟨kb, rfl, _⟩ | ⟨x', y', rfl, hx', hy'⟩
      · simp [relY_mk, relL, escFits, Bool.or_comm, Bool.beq_comm]
      · simp [relY_mk, relL, escFits]
    · rcases goodY_cases hb with ⟨kb, rfl, _⟩ | ⟨x', y', rfl, hx', hy'⟩
      · simp [relY_mk, relL, escFits]
      · rw [two _ _ _ _ _ rfl, two _ _ _ _ _ rfl, fits_sym n x x' hx hx', fits_sym n y y' hy hy']
theorem fits_refl : ∀ (n : Nat) (a : Ty), goodY n a = true → relY escFits a a = true
  | 0, a, h => by simp [goodY] at h
  | n + 1, a, ha => by
    rcases goodY_cases ha with ⟨ka, rfl, _⟩ | ⟨x, y, rfl, hx, hy⟩
    · simp [relY_mk, relL]
    · rw [two _ _ _ _ _ rfl, fits_refl n x hx, fits_refl n y hy]; rfl
theorem finer_fits : ∀ (n : Nat) (a b : Ty), goodY n a = true → goodY n b = true → relY escFiner a b = true → relY escFits a b = true
  | 0, a, b, h, _ => by simp [goodY] at h
  | n + 1, a, b, ha, hb => by
    intro h
    rcases goodY_cases hb with ⟨kb, rfl, _⟩ | ⟨x', y', rfl, hx', hy'⟩
    · rcases goodY_cases ha with ⟨ka, rfl, _⟩ | ⟨x, y, rfl, hx, hy⟩
      · simp [relY_mk, relL, escFiner] at h
        simp [relY_mk, relL, escFits]
        omega
      · simp [relY_mk, relL, escFiner] at h
        subst h
        exact any_right _ _
    · rcases goodY_cases ha with ⟨ka, rfl, _⟩ | ⟨x, y, rfl, hx, hy⟩
      · simp [relY_mk, relL, escFiner] at h
      · rw [two _ _ _ _ _ rfl, Bool.and_eq_true] at h
        rw [two _ _ _ _ _ rfl, finer_fits n x x' hx hx' h.1, finer_fits n y y' hy hy' h.2]
        rfl
theorem fits_coarser : ∀ (n : Nat) (a b c : Ty), goodY n a = true → goodY n b = true → goodY n c = true → relY escFits a b = true → relY escFiner b c = true → relY escFits a c = true
  | 0, a, b, c, h, _, _ => by simp [goodY] at h
  | n + 1, a, b, c, ha, hb, hc => by
    intro h1 h2
    rcases goodY_cases hc with ⟨k, rfl, hk⟩ | ⟨z, u, rfl, hz, hu⟩
    · by_cases k0 : k = 0
      · subst k0; exact any_right _ _
      · rcases goodY_cases hb with ⟨kb, rfl, hkb⟩ | ⟨x', y', rfl, hx', hy'⟩
        · simp [relY_mk, relL, escFiner, k0] at h2
          subst h2
          exact h1
        · simp [relY_mk, relL, escFiner, k0] at h2
    · rcases goodY_cases hb with ⟨kb, rfl, hkb⟩ | ⟨x', y', rfl, hx', hy'⟩
      · simp [relY_mk, relL, escFiner] at h2
      · rcases goodY_cases ha with ⟨ka, rfl, hka⟩ | ⟨x, y, rfl, hx, hy⟩
        · simp [relY_mk, relL, escFits] at h1
          subst h1
          exact any_left _ _
        · rw [two _ _ _ _ _ rfl, Bool.and_eq_true] at h1 h2
          rw [two _ _ _ _ _ rfl, fits_coarser n x x' z hx hx' hz h1.1 h2.1, fits_coarser n y y' u hy hy' hu h1.2 h2.2]
          rfl
theorem finer_trans : ∀ (n : Nat) (a b c : Ty), goodY n a = true → goodY n b = true → goodY n c = true → relY escFiner a b = true → relY escFiner b c = true → relY escFiner a c = true
  | 0, a, b, c, h, _, _ => by simp [goodY] at h
  | n + 1, a, b, c, ha, hb, hc => by
    intro h1 h2
    rcases goodY_cases hc with ⟨k, rfl, hk⟩ | ⟨z, u, rfl, hz, hu⟩
    · by_cases k0 : k = 0
      · subst k0; exact any_coarser _ _
      · rcases goodY_cases hb with ⟨kb, rfl, hkb⟩ | ⟨x', y', rfl, hx', hy'⟩
        · simp [relY_mk, relL, escFiner, k0] at h2
          subst h2
          exact h1
        · simp [relY_mk, relL, escFiner, k0] at h2
    · rcases goodY_cases hb with ⟨kb, rfl, hkb⟩ | ⟨x', y', rfl, hx', hy'⟩
      · simp [relY_mk, relL, escFiner] at h2
      · rcases goodY_cases ha with ⟨ka, rfl, hka⟩ | ⟨x, y, rfl, hx, hy⟩
        · simp [relY_mk, relL, escFiner] at h1
        · rw [two _ _ _ _ _ rfl, Bool.and_eq_true] at h1 h2
          rw [two _ _ _ _ _ rfl, finer_trans n x x' z hx hx' hz h1.1 h2.1, finer_trans n y y' u hy hy' hu h1.2 h2.2]
          rfl
end Go.Proofs.YtnddkmccagiclabGreatDoor

/-
  Types of casts, values and machines, in plain mathematics: what has a type never gets stuck; no program in it.
-/
namespace Go.Proofs.YtnddkmccagiclabGreatDoor
def numY : Ty := ⟨1, []⟩
def truthY : Ty := ⟨2, []⟩
def funY (a b : Ty) : Ty := ⟨3, [a, b]⟩
/-- The plain type of a kind. -/
def gr (k : Int) : Ty := if k = 3 then funY anyY anyY else ⟨k, []⟩
theorem same_eq : ∀ a b : Ty, relY escSame a b = true → a = b := by
  intro a
  induction a using Ty.ind with
  | h k l ih =>
    intro b h
    obtain ⟨k', l'⟩ := b
    rw [relY_mk] at h
    simp only [escSame, Bool.false_or, Bool.and_eq_true, beq_iff_eq] at h
    obtain ⟨rfl, hl⟩ := h
    have : ∀ (l l' : List Ty), (∀ t, t ∈ l → ∀ b, relY escSame t b = true → t = b) → relL escSame l l' = true → l = l' := by
      intro l
      induction l with
      | nil => intro l' _ h; cases l' with
        | nil => rfl
        | cons _ _ => simp [relL] at h
      | cons x r ihr =>
        intro l' hx h
        cases l' with
        | nil => simp [relL] at h
        | cons y s =>
          simp only [relL, Bool.and_eq_true] at h
          rw [hx x (by simp) y h.1, ihr s (fun t ht => hx t (by simp [ht])) h.2]
    rw [this l l' ih hl]
theorem same_refl : ∀ a : Ty, relY escSame a a = true := by
  intro a
  induction a using Ty.ind with
  | h k l ih =>
    rw [relY_mk]
    simp only [escSame, Bool.false_or, beq_self_eq_true, Bool.true_and]
    induction l with
    | nil => rfl
    | cons x r ihr => simp only [relL, ih x (by simp), ihr fun t ht => ih t (by simp [ht]), Bool.and_self]
/-- A cast is from a type to another one. -/
def tyC : Option Ca → Ty → Ty → Prop
  | none, S, T => S = T
  | some ⟨o, w, k, e, g, a, h⟩, S, T => (k = 1 ∨ k = 2 ∨ k = 3) ∧ ∃ S' T' : Ty, ((o = true ∧ S = anyY ∧ S' = gr k ∧ w.k = 4) ∨ (o = false ∧ S = S')) ∧ ((k ≠ 3 ∧ S' = ⟨k, []⟩) ∨ (k = 3 ∧ ∃ s1 s2, S' = funY s1 s2)) ∧
    (e.k = 4 ∨ (e.k = 0 ∧ ((h = true ∧ T = anyY ∧ T' = gr k) ∨ (h = false ∧ T = T')) ∧ ((k ≠ 3 ∧ T' = ⟨k, []⟩ ∧ g = none ∧ a = none) ∨ (k = 3 ∧ ∃ s1 s2 t1 t2, S' = funY s1 s2 ∧ T' = funY t1 t2 ∧ tyC g t1 s1 ∧ tyC a s2 t2))))
  termination_by c => SizeOf.sizeOf c
  decreasing_by
    · simp; omega
    · simp; omega
theorem tyC_none {S T : Ty} : tyC none S T ↔ S = T := by rw [tyC]
theorem tyC_some {o : Bool} {w : Out} {k : Int} {e : Out} {g a : Option Ca} {h : Bool} {S T : Ty} : tyC (some ⟨o, w, k, e, g, a, h⟩) S T ↔ (k = 1 ∨ k = 2 ∨ k = 3) ∧ ∃ S' T' : Ty, ((o = true ∧ S = anyY ∧ S' = gr k ∧ w.k = 4) ∨ (o = false ∧ S = S')) ∧ ((k ≠ 3 ∧ S' = ⟨k, []⟩) ∨ (k = 3 ∧ ∃ s1 s2, S' = funY s1 s2)) ∧
    (e.k = 4 ∨ (e.k = 0 ∧ ((h = true ∧ T = anyY ∧ T' = gr k) ∨ (h = false ∧ T = T')) ∧ ((k ≠ 3 ∧ T' = ⟨k, []⟩ ∧ g = none ∧ a = none) ∨ (k = 3 ∧ ∃ s1 s2 t1 t2, S' = funY s1 s2 ∧ T' = funY t1 t2 ∧ tyC g t1 s1 ∧ tyC a s2 t2)))) := by
  rw [tyC]
theorem gr_k (k : Int) : (gr k).k = k := by unfold gr; split <;> simp_all [funY]
theorem funY_inj {a b c d : Ty} (h : funY a b = funY c d) : a = c ∧ b = d := by simpa [funY] using h
/-- The first way of a type without Any at its top. -/
theorem half_k {k : Int} {S : Ty} (h : (k ≠ 3 ∧ S = ⟨k, []⟩) ∨ (k = 3 ∧ ∃ s1 s2, S = funY s1 s2)) : S.k = k := by
  rcases h with ⟨_, rfl⟩ | ⟨rfl, s1, s2, rfl⟩ <;> rfl
theorem half_k' {k : Int} {S T : Ty} {g a : Option Ca} (h : (k ≠ 3 ∧ T = ⟨k, []⟩ ∧ g = none ∧ a = none) ∨ (k = 3 ∧ ∃ s1 s2 t1 t2, S = funY s1 s2 ∧ T = funY t1 t2 ∧ tyC g t1 s1 ∧ tyC a s2 t2)) : T.k = k := by
  rcases h with ⟨_, rfl, _⟩ | ⟨rfl, s1, s2, t1, t2, _, rfl, _⟩ <;> rfl
theorem tyC_then : ∀ (n : Nat) (c d : Option Ca) (S T U : Ty), SizeOf.sizeOf c + SizeOf.sizeOf d ≤ n → tyC c S T → tyC d T U → tyC (thenC c d) S U
  | 0, c, d, _, _, _, h, _, _ => by cases c <;> simp at h
  | n + 1, none, d, S, T, U, _, h1, h2 => by rw [thenC_nil, tyC_none.1 h1]; exact h2
  | n + 1, some c, none, S, T, U, _, h1, h2 => by rw [thenC_one, ← tyC_none.1 h2]; exact h1
  | n + 1, some ⟨o, w, k, e, g, a, h⟩, some ⟨o', w', k', e', g', a', h'⟩, S, T, U, hn, h1, h2 => by
    simp at hn
    obtain ⟨hk, S1, T1, hS, hS1, he⟩ := tyC_some.1 h1
    obtain ⟨hk', S2, T2, hT, hS2, he'⟩ := tyC_some.1 h2
    rw [thenC_two]
    rcases he with he | ⟨he, hT1, hp⟩
    · rw [if_neg (by omega)]
      exact tyC_some.2 ⟨hk, S1, T1, hS, hS1, .inl he⟩
    · rw [if_pos he]
      have a1 := half_k hS2
      have a2 := half_k' hp
      by_cases hkk : k' = k
      · rw [if_pos hkk]
        refine tyC_some.2 ⟨hk, S1, T2, hS, hS1, ?_⟩
        rcases he' with he' | ⟨he', hU, hp'⟩
        · exact .inl he'
        · refine .inr ⟨he', ?_, ?_⟩
          · rcases hU with ⟨x1, x2, x3⟩ | x
            · exact .inl ⟨x1, x2, by rw [x3, hkk]⟩
            · exact .inr x
          · have e12 : T1 = S2 := by
              rcases hT1 with ⟨_, t1, t2⟩ | ⟨_, t1⟩ <;> rcases hT with ⟨_, s1, s2, _⟩ | ⟨_, s1⟩
              · rw [t2, s2, hkk]
              · exfalso; rw [← s1, t1] at a1; simp [anyY] at a1; omega
              · exfalso; rw [← t1, s1] at a2; simp [anyY] at a2; omega
              · rw [← t1, s1]
            rcases hp' with ⟨q1, q2, rfl, rfl⟩ | ⟨q1, s1, s2, t1, t2, q2, q3, q4, q5⟩
            · rcases hp with ⟨p1, p2, rfl, rfl⟩ | ⟨p1, _⟩
              · exact .inl ⟨p1, by rw [q2, hkk], by rw [thenC_nil], by rw [thenC_nil]⟩
              · omega
            · rcases hp with ⟨p1, _⟩ | ⟨p1, u1, u2, v1, v2, p2, p3, p4, p5⟩
              · omega
              · have : funY v1 v2 = funY s1 s2 := by rw [← p3, ← q2, e12]
                obtain ⟨rfl, rfl⟩ := funY_inj this
                exact .inr ⟨p1, u1, u2, t1, t2, p2, q3, tyC_then n g' g _ _ _ (by omega) q4 p4, tyC_then n a a' _ _ _ (by omega) p5 q5⟩
      · rw [if_neg hkk]
        refine tyC_some.2 ⟨hk, S1, T1, hS, hS1, .inl ?_⟩
        rcases hT with ⟨_, _, _, hw⟩ | ⟨_, s1⟩
        · exact hw
        · exfalso
          rcases hT1 with ⟨_, t1, _⟩ | ⟨_, t1⟩
          · rw [← s1, t1] at a1; simp [anyY] at a1; omega
          · rw [← t1, s1] at a2; omega
theorem tyC_thens {c d : Option Ca} {S T U : Ty} (h1 : tyC c S T) (h2 : tyC d T U) : tyC (thenC c d) S U := tyC_then _ c d S T U (Nat.le_refl _) h1 h2
theorem fits_kind {a b : Ty} (h : relY escFits a b = true) (ha : a.k ≠ 0) (hb : b.k ≠ 0) : a.k = b.k := by
  cases a; cases b
  rw [relY_mk] at h
  simp only [escFits, Bool.or_eq_true, Bool.and_eq_true, beq_iff_eq] at h
  simp only at ha hb ⊢
  omega
/-- The cast that is made of two types that fit. -/
theorem tyC_new : ∀ (m n : Nat) (f t : Ty) (o : Out), goodY n f = true → goodY n t = true → relY escFits f t = true → o.k = 4 → 2 * n + (if f.k = 0 ∨ t.k = 0 then 1 else 0) ≤ m → tyC (newC m f t o) f t
  | 0, 0, f, t, o, hf, _, _, _, _ => by simp [goodY] at hf
  | 0, n + 1, f, t, o, _, _, _, _, hm => by omega
  | m + 1, 0, f, t, o, hf, _, _, _, _ => by simp [goodY] at hf
  | m + 1, n + 1, f, t, o, hf, ht, hfit, ho, hm => by
    rw [newC]
    by_cases hs : relY escSame f t = true
    · rw [if_pos hs, tyC_none]; exact same_eq f t hs
    rw [if_neg hs]
    have hne : f ≠ t := fun e => hs (by rw [e]; exact same_refl t)
    rcases goodY_cases hf with ⟨k, rfl, hk⟩ | ⟨f1, f2, rfl, gf1, gf2⟩ <;> rcases goodY_cases ht with ⟨k', rfl, hk'⟩ | ⟨t1, t2, rfl, gt1, gt2⟩
    · have h3 : ¬ ((Ty.mk k []).k = 3 ∧ (Ty.mk k' []).k = 3) := by simp only; omega
      rw [if_neg h3]
      have hkk : k ≠ k' := fun e => hne (by rw [e])
      have hor : k = 0 ∨ k' = 0 := by
        have := fits_kind hfit
        simp only at this
        omega
      simp only
      split
      · rename_i h0
        have e1 : groundY (Ty.mk k []) = ⟨k, []⟩ := by simp only [groundY]; rw [if_neg (by omega)]
        have e2 : newC m ⟨k, []⟩ ⟨k, []⟩ o = none := by
          cases m with
          | zero => rfl
          | succ m => rw [newC, if_pos (same_refl _)]
        rw [e1, e2]
        refine tyC_some.2 ⟨by simp only [someC]; omega, ⟨k, []⟩, gr k, .inr ⟨rfl, rfl⟩, .inl ⟨by simp only [someC]; omega, rfl⟩, .inr ⟨rfl, .inl ⟨rfl, by rw [h0]; rfl, rfl⟩, .inl ⟨by simp only [someC]; omega, ?_, rfl, rfl⟩⟩⟩
        simp only [gr, someC]; rw [if_neg (by omega)]
      · rename_i h0
        have hk0 : k = 0 := by omega
        subst hk0
        rw [if_pos rfl]
        have e1 : groundY (Ty.mk k' []) = ⟨k', []⟩ := by simp only [groundY]; rw [if_neg (by omega)]
        have e2 : newC m ⟨k', []⟩ ⟨k', []⟩ o = none := by
          cases m with
          | zero => rfl
          | succ m => rw [newC, if_pos (same_refl _)]
        rw [e1, e2]
        refine tyC_some.2 ⟨by simp only [someC]; omega, gr k', ⟨k', []⟩, .inl ⟨rfl, rfl, rfl, ho⟩, .inl ⟨by simp only [someC]; omega, ?_⟩, .inr ⟨rfl, .inr ⟨rfl, rfl⟩, .inl ⟨by simp only [someC]; omega, rfl, rfl, rfl⟩⟩⟩
        simp only [gr, someC]; rw [if_neg (by omega)]
    · have h3 : ¬ ((Ty.mk k []).k = 3 ∧ (Ty.mk 3 [t1, t2]).k = 3) := by simp only; omega
      rw [if_neg h3]
      have hk0 : k = 0 := by
        have := fits_kind hfit
        simp only at this
        omega
      subst hk0
      simp only
      rw [if_neg (by omega), if_pos trivial]
      have e1 : groundY (Ty.mk 3 [t1, t2]) = funY anyY anyY := rfl
      rw [e1]
      have hg2 : goodY (n + 1) (funY anyY anyY) = true := by
        cases n with
        | zero => simp [goodY] at gt1
        | succ n => simp [goodY, funY, anyY]
      have ih := tyC_new m (n + 1) (funY anyY anyY) ⟨3, [t1, t2]⟩ o hg2 ht (by rw [funY, two _ _ _ _ _ rfl, anyY, any_left, any_left]; rfl) ho (by simp [funY] at hm ⊢; omega)
      cases hc : newC m (funY anyY anyY) ⟨3, [t1, t2]⟩ o with
      | none =>
        rw [hc] at ih
        have := tyC_none.1 ih
        refine tyC_some.2 ⟨.inr (.inr rfl), gr 3, ⟨3, [t1, t2]⟩, .inl ⟨rfl, rfl, rfl, ho⟩, .inr ⟨rfl, anyY, anyY, rfl⟩, .inr ⟨rfl, .inr ⟨rfl, rfl⟩, .inr ⟨rfl, anyY, anyY, anyY, anyY, rfl, this.symm, tyC_none.2 rfl, tyC_none.2 rfl⟩⟩⟩
      | some c =>
        rw [hc] at ih
        obtain ⟨oo, w, k, e, g, a, h⟩ := c
        obtain ⟨hk, S1, T1, hS, hS1, he⟩ := tyC_some.1 ih
        have hS' : S1 = funY anyY anyY := by
          rcases hS with ⟨_, h, _⟩ | ⟨_, h⟩
          · simp [funY, anyY] at h
          · exact h.symm
        have hk3 : k = 3 := by
          rcases hS1 with ⟨_, h⟩ | ⟨h, _⟩
          · rw [hS'] at h; simp [funY] at h
          · exact h
        subst hk3
        exact tyC_some.2 ⟨hk, S1, T1, .inl ⟨rfl, rfl, by rw [hS']; rfl, ho⟩, hS1, he⟩
    · have h3 : ¬ ((Ty.mk 3 [f1, f2]).k = 3 ∧ (Ty.mk k' []).k = 3) := by simp only; omega
      rw [if_neg h3]
      have hk0 : k' = 0 := by
        have := fits_kind hfit
        simp only at this
        omega
      subst hk0
      simp only
      rw [if_pos trivial]
      have e1 : groundY (Ty.mk 3 [f1, f2]) = funY anyY anyY := rfl
      rw [e1]
      have hg2 : goodY (n + 1) (funY anyY anyY) = true := by
        cases n with
        | zero => simp [goodY] at gf1
        | succ n => simp [goodY, funY, anyY]
      have ih := tyC_new m (n + 1) ⟨3, [f1, f2]⟩ (funY anyY anyY) o hf hg2 (by rw [funY, two _ _ _ _ _ rfl, anyY, any_right, any_right]; rfl) ho (by simp [funY] at hm ⊢; omega)
      cases hc : newC m ⟨3, [f1, f2]⟩ (funY anyY anyY) o with
      | none =>
        rw [hc] at ih
        have := tyC_none.1 ih
        refine tyC_some.2 ⟨.inr (.inr rfl), ⟨3, [f1, f2]⟩, gr 3, .inr ⟨rfl, rfl⟩, .inr ⟨rfl, f1, f2, rfl⟩, .inr ⟨rfl, .inl ⟨rfl, rfl, rfl⟩, .inr ⟨rfl, anyY, anyY, anyY, anyY, this, rfl, tyC_none.2 rfl, tyC_none.2 rfl⟩⟩⟩
      | some c =>
        rw [hc] at ih
        obtain ⟨oo, w, k, e, g, a, h⟩ := c
        obtain ⟨hk, S1, T1, hS, hS1, he⟩ := tyC_some.1 ih
        have hS' : S1 = ⟨3, [f1, f2]⟩ := by
          rcases hS with ⟨_, h, _⟩ | ⟨_, h⟩
          · simp [anyY] at h
          · exact h.symm
        have hk3 : k = 3 := by
          rcases hS1 with ⟨_, h⟩ | ⟨h, _⟩
          · rw [hS'] at h; simp at h
          · exact h
        subst hk3
        refine tyC_some.2 ⟨hk, S1, funY anyY anyY, hS, hS1, ?_⟩
        rcases he with he | ⟨he, hT, hp⟩
        · exact .inl he
        · have hT' : T1 = funY anyY anyY := by
            rcases hT with ⟨_, h, _⟩ | ⟨_, h⟩
            · simp [funY, anyY] at h
            · exact h.symm
          refine .inr ⟨he, .inl ⟨rfl, rfl, rfl⟩, ?_⟩
          rw [hT'] at hp
          exact hp
    · rw [if_pos ⟨rfl, rfl⟩]
      rw [two _ _ _ _ _ rfl, Bool.and_eq_true] at hfit
      refine tyC_some.2 ⟨.inr (.inr rfl), ⟨3, [f1, f2]⟩, ⟨3, [t1, t2]⟩, .inr ⟨rfl, rfl⟩, .inr ⟨rfl, f1, f2, rfl⟩, .inr ⟨rfl, .inr ⟨rfl, rfl⟩, .inr ⟨rfl, f1, f2, t1, t2, rfl, rfl, ?_, ?_⟩⟩⟩
      · exact tyC_new m n t1 f1 _ gt1 gf1 (by rw [fits_sym n t1 f1 gt1 gf1]; exact hfit.1) ho (by split <;> (simp at hm; omega))
      · exact tyC_new m n f2 t2 _ gf2 gt2 hfit.2 ho (by split <;> (simp at hm; omega))
end Go.Proofs.YtnddkmccagiclabGreatDoor

/-
  Types of values and machines, in plain mathematics: a step keeps them, and never gets stuck; no program in it.
-/
namespace Go.Proofs.YtnddkmccagiclabGreatDoor
/-- What a term of a kind asks of its parts' types. -/
def ruleT (k n : Int) (t f : Ty) (ps G : List Ty) (i : Ty) : Prop :=
  (k = 1 ∧ ps = [] ∧ G[n.toNat]? = some i) ∨ (k = 2 ∧ ps = [] ∧ i = numY) ∨ (k = 3 ∧ ps = [] ∧ i = truthY) ∨ (k = 4 ∧ ps = [numY, numY] ∧ i = numY) ∨ (k = 5 ∧ ps = [numY, numY] ∧ i = truthY) ∨ (k = 6 ∧ ps = [truthY, i, i]) ∨
  (k = 7 ∧ ∃ b, ps = [b] ∧ i = funY t b) ∨ (k = 8 ∧ ∃ a, ps = [funY a i, a]) ∨ (k = 9 ∧ ps = [t] ∧ i = t) ∨ (k = 10 ∧ ps = [f] ∧ i = t ∧ relY escFits f t = true ∧ goodY 46 f = true ∧ goodY 46 t = true)
/-- A term with its casts has a type. -/
def tyM : Tm → List Ty → Ty → Prop
  | ⟨k, n, t, f, l⟩, G, i => ∃ ps : List Ty, l.length = ps.length ∧ (∀ j (h : j < l.length) (h' : j < ps.length), tyM l[j] (if k = 7 then t :: G else G) ps[j]) ∧ ruleT k n t f ps G i
  termination_by x => SizeOf.sizeOf x
  decreasing_by
    have := List.sizeOf_lt_of_mem (List.getElem_mem h); simp; omega
theorem tyM_mk {k n : Int} {t f : Ty} {l : List Tm} {G : List Ty} {i : Ty} : tyM ⟨k, n, t, f, l⟩ G i ↔ ∃ ps : List Ty, l.length = ps.length ∧ (∀ j (h : j < l.length) (h' : j < ps.length), tyM l[j] (if k = 7 then t :: G else G) ps[j]) ∧ ruleT k n t f ps G i := by
  rw [tyM]
theorem tyM_parts {x : Tm} {G : List Ty} {i : Ty} (h : tyM x G i) : ∃ ps : List Ty, x.l.length = ps.length ∧ (∀ j (h' : j < ps.length), tyM (x.at j) (if x.k = 7 then x.t :: G else G) ps[j]) ∧ ruleT x.k x.n x.t x.f ps G i := by
  obtain ⟨k, n, t, f, l⟩ := x
  obtain ⟨ps, h1, h2, h3⟩ := tyM_mk.1 h
  refine ⟨ps, h1, fun j h' => ?_, h3⟩
  rw [Tm.at_eq (x := ⟨k, n, t, f, l⟩) (by simp only; omega)]
  exact h2 j (by omega) h'
/-- A value has a type. -/
def tyV : Val → Ty → Prop
  | ⟨k, _, b, e, i, g, a, s⟩, T => (k = 1 ∧ T = numY) ∨ (k = 2 ∧ T = truthY) ∨
    (k = 3 ∧ ∃ A B G, T = funY A B ∧ tyM b (A :: G) B ∧ e.length = G.length ∧ ∀ j (h : j < e.length) (h' : j < G.length), tyV e[j] G[j]) ∨
    (k = 4 ∧ ∃ v A0 B0 A B, T = funY A B ∧ v.k = 3 ∧ (∃ h : i = [v], tyV v (funY A0 B0)) ∧ tyC g A A0 ∧ tyC a B0 B) ∨
    (k = 5 ∧ T = anyY ∧ (s = 1 ∨ s = 2 ∨ s = 3) ∧ ∃ v, ∃ h : i = [v], tyV v (gr s))
  termination_by v => SizeOf.sizeOf v
  decreasing_by
    · have := List.sizeOf_lt_of_mem (List.getElem_mem h); simp; omega
    · subst h; simp; omega
    · subst h; simp; omega
theorem tyV_mk {k n : Int} {b : Tm} {e i : List Val} {g a : Option Ca} {s : Int} {T : Ty} : tyV ⟨k, n, b, e, i, g, a, s⟩ T ↔ (k = 1 ∧ T = numY) ∨ (k = 2 ∧ T = truthY) ∨
    (k = 3 ∧ ∃ A B G, T = funY A B ∧ tyM b (A :: G) B ∧ e.length = G.length ∧ ∀ j (h : j < e.length) (h' : j < G.length), tyV e[j] G[j]) ∨
    (k = 4 ∧ ∃ v A0 B0 A B, T = funY A B ∧ v.k = 3 ∧ (∃ _h : i = [v], tyV v (funY A0 B0)) ∧ tyC g A A0 ∧ tyC a B0 B) ∨
    (k = 5 ∧ T = anyY ∧ (s = 1 ∨ s = 2 ∨ s = 3) ∧ ∃ v, ∃ _h : i = [v], tyV v (gr s)) := by
  rw [tyV]
/-- A scope's values have these types. -/
def tyE (e : List Val) (G : List Ty) : Prop := e.length = G.length ∧ ∀ j (h : j < e.length) (h' : j < G.length), tyV e[j] G[j]
theorem tyE_cons {v : Val} {e : List Val} {T : Ty} {G : List Ty} (hv : tyV v T) (h : tyE e G) : tyE (v :: e) (T :: G) := by
  refine ⟨by simp [h.1], fun j h1 h2 => ?_⟩
  match j with
  | 0 => exact hv
  | j + 1 => exact h.2 j (by simpa using h1) (by simpa using h2)
theorem tyE_at {e : List Val} {G : List Ty} (h : tyE e G) {j : Nat} {T : Ty} (hj : G[j]? = some T) : ∃ v, e[j]? = some v ∧ tyV v T := by
  obtain ⟨h1, rfl⟩ := List.getElem?_eq_some_iff.1 hj
  have h2 : j < e.length := by rw [h.1]; exact h1
  exact ⟨e[j], List.getElem?_eq_getElem h2, h.2 j h2 h1⟩
theorem tyV_num {v : Val} (h : tyV v numY) : v.k = 1 := by
  cases v
  rcases tyV_mk.1 h with ⟨h, _⟩ | ⟨_, h⟩ | ⟨_, A, B, G, h, _⟩ | ⟨_, v, A0, B0, A, B, h, _⟩ | ⟨_, h, _⟩
  · exact h
  all_goals (exfalso; simp [numY, truthY, funY, anyY] at h)
theorem tyV_truth {v : Val} (h : tyV v truthY) : v.k = 2 := by
  cases v
  rcases tyV_mk.1 h with ⟨_, h⟩ | ⟨h, _⟩ | ⟨_, A, B, G, h, _⟩ | ⟨_, v, A0, B0, A, B, h, _⟩ | ⟨_, h, _⟩
  · exfalso; simp [numY, truthY] at h
  · exact h
  all_goals (exfalso; simp [truthY, funY, anyY] at h)
theorem tyV_any {v : Val} (h : tyV v anyY) : v.k = 5 ∧ (v.as = 1 ∨ v.as = 2 ∨ v.as = 3) ∧ v.inn = [v.core] ∧ tyV v.core (gr v.as) := by
  cases v
  rcases tyV_mk.1 h with ⟨_, h⟩ | ⟨_, h⟩ | ⟨_, A, B, G, h, _⟩ | ⟨_, v, A0, B0, A, B, h, _⟩ | ⟨hk5, _, hs, v, rfl, hv⟩
  · exfalso; simp [numY, anyY] at h
  · exfalso; simp [truthY, anyY] at h
  · exfalso; simp [funY, anyY] at h
  · exfalso; simp [funY, anyY] at h
  · exact ⟨hk5, hs, rfl, hv⟩
theorem tyV_fun {v : Val} {A B : Ty} (h : tyV v (funY A B)) : (v.k = 3 ∧ ∃ G, tyM v.body (A :: G) B ∧ tyE v.env G) ∨ (v.k = 4 ∧ v.inn = [v.core] ∧ v.core.k = 3 ∧ ∃ A0 B0, tyV v.core (funY A0 B0) ∧ tyC v.given A A0 ∧ tyC v.answer B0 B) := by
  cases v
  rcases tyV_mk.1 h with ⟨_, h⟩ | ⟨_, h⟩ | ⟨hk, A1, B1, G, h, h1, h2⟩ | ⟨hk, v, A0, B0, A1, B1, hAB, h3, ⟨rfl, hv⟩, h4, h5⟩ | ⟨_, h, _⟩
  · exfalso; simp [numY, funY] at h
  · exfalso; simp [truthY, funY] at h
  · obtain ⟨rfl, rfl⟩ := funY_inj h
    exact .inl ⟨hk, G, h1, h2⟩
  · obtain ⟨rfl, rfl⟩ := funY_inj hAB
    exact .inr ⟨hk, rfl, h3, A0, B0, hv, h4, h5⟩
  · exfalso; simp [anyY, funY] at h
theorem tyV_mkNum (n : Int) : tyV (numV n) numY := tyV_mk.2 (.inl ⟨rfl, rfl⟩)
theorem tyV_mkTruth (n : Int) : tyV (truthV n) truthY := tyV_mk.2 (.inr (.inl ⟨rfl, rfl⟩))
theorem tyV_mkFun {b : Tm} {e : List Val} {A B : Ty} {G : List Ty} (h : tyM b (A :: G) B) (he : tyE e G) : tyV (funV b e) (funY A B) := tyV_mk.2 (.inr (.inr (.inl ⟨rfl, A, B, G, rfl, h, he⟩)))
theorem tyV_mkChap {v : Val} {g a : Option Ca} {A B A0 B0 : Ty} (h3 : v.k = 3) (hv : tyV v (funY A0 B0)) (hg : tyC g A A0) (ha : tyC a B0 B) : tyV (chapV v g a) (funY A B) := tyV_mk.2 (.inr (.inr (.inr (.inl ⟨rfl, v, A0, B0, A, B, rfl, h3, ⟨rfl, hv⟩, hg, ha⟩))))
theorem tyV_mkKnown {v : Val} {k : Int} (hk : k = 1 ∨ k = 2 ∨ k = 3) (hv : tyV v (gr k)) : tyV (knownV v k) anyY := tyV_mk.2 (.inr (.inr (.inr (.inr ⟨rfl, rfl, hk, v, rfl, hv⟩))))
theorem tyV_accomp {f : Val} {c : Ca} {s1 s2 t1 t2 : Ty} (h : tyV f (funY s1 s2)) (hg : tyC c.given t1 s1) (ha : tyC c.answer s2 t2) : tyV (accompV f c) (funY t1 t2) := by
  unfold accompV
  rcases tyV_fun h with ⟨hk, _⟩ | ⟨hk, _, hc, A0, B0, h1, h2, h3⟩
  · rw [if_neg (by omega)]
    exact tyV_mkChap hk h hg ha
  · rw [if_pos hk]
    exact tyV_mkChap hc h1 (tyC_thens hg h2) (tyC_thens h3 ha)
/-- A value of a type, cast to another one: the run goes on with a value of that, or somebody is blamed. -/
theorem change_ty {s : St} {c : Option Ca} {v : Val} {S T : Ty} (hc : tyC c S T) (hv : tyV v S) : (∃ u, changeS s c v = s.push u ∧ tyV u T) ∨ ∃ o : Out, changeS s c v = s.stop o ∧ o.k = 4 := by
  cases c with
  | none => rw [tyC_none.1 hc] at hv; exact .inl ⟨v, rfl, hv⟩
  | some c =>
    obtain ⟨o, w, k, e, g, a, h⟩ := c
    obtain ⟨hk, S1, T1, hS, hS1, he⟩ := tyC_some.1 hc
    have h1 : (∃ o', changeS s (some ⟨o, w, k, e, g, a, h⟩) v = s.stop o' ∧ o'.k = 4) ∨ ((o = true → v.k = 5 ∧ v.as = k) ∧ tyV (if o = true then v.core else v) S1) := by
      rcases hS with ⟨rfl, rfl, rfl, hw⟩ | ⟨rfl, rfl⟩
      · obtain ⟨k5, has, _, hcore⟩ := tyV_any hv
        by_cases hak : v.as = k
        · right
          refine ⟨fun _ => ⟨k5, hak⟩, ?_⟩
          rw [if_pos rfl, ← hak]; exact hcore
        · left
          refine ⟨w, ?_, hw⟩
          simp only [changeS]
          rw [if_neg (fun h => h.2 k5), if_pos ⟨by trivial, hak⟩]
      · right
        exact ⟨fun h => (by cases h), by simpa using hv⟩
    rcases h1 with h1 | ⟨hopen, hv1⟩
    · exact .inr h1
    have e1 : changeS s (some ⟨o, w, k, e, g, a, h⟩) v = if e.k ≠ 0 then s.stop e else s.push (ofC ⟨o, w, k, e, g, a, h⟩ v) := by
      simp only [changeS]
      rw [if_neg (fun h => h.2 (hopen h.1).1), if_neg (fun h => h.2 (hopen h.1).2)]
    rw [e1]
    rcases he with he | ⟨he, hT, hp⟩
    · right
      exact ⟨e, by rw [if_pos (by omega)], he⟩
    · left
      refine ⟨_, by rw [if_neg (by omega)], ?_⟩
      have h2 : tyV (if g.isSome = true ∨ a.isSome = true then accompV (if o = true then v.core else v) ⟨o, w, k, e, g, a, h⟩ else (if o = true then v.core else v)) T1 := by
        rcases hp with ⟨k3, rfl, rfl, rfl⟩ | ⟨rfl, s1, s2, t1, t2, rfl, rfl, hg, ha⟩
        · rcases hS1 with ⟨_, rfl⟩ | ⟨h, _⟩
          · rw [if_neg (by simp)]; exact hv1
          · omega
        · split
          · exact tyV_accomp (c := ⟨o, w, 3, e, g, a, h⟩) hv1 hg ha
          · rename_i hn
            have hg0 : g = none := by cases g with
              | none => rfl
              | some x => exact absurd (.inl rfl) hn
            have ha0 : a = none := by cases a with
              | none => rfl
              | some x => exact absurd (.inr rfl) hn
            subst hg0 ha0
            rw [tyC_none.1 hg, ← tyC_none.1 ha]
            exact hv1
      simp only [ofC]
      rcases hT with ⟨rfl, rfl, rfl⟩ | ⟨rfl, rfl⟩
      · rw [if_pos rfl]
        exact tyV_mkKnown hk h2
      · simpa using h2
/-- Tasks that make, of values of these types, one of that type. -/
def tyT : List Task → List Ty → Ty → Prop
  | [], q, F => q = [F]
  | t :: ts, q, F => (t.d = 1 ∧ ∃ G i, tyM t.x G i ∧ tyE t.s G ∧ tyT ts (i :: q) F) ∨ (t.d = 2 ∧ ∃ r, q = numY :: numY :: r ∧ tyT ts (numY :: r) F) ∨ (t.d = 3 ∧ ∃ r, q = numY :: numY :: r ∧ tyT ts (truthY :: r) F) ∨
    (t.d = 4 ∧ ∃ G i r, q = truthY :: r ∧ tyM (t.x.at 1) G i ∧ tyM (t.x.at 2) G i ∧ tyE t.s G ∧ tyT ts (i :: r) F) ∨ ((t.d = 5 ∨ t.d = 7) ∧ ∃ a b r, q = a :: funY a b :: r ∧ tyT ts (b :: r) F) ∨ (t.d = 6 ∧ ∃ S T r, q = S :: r ∧ tyC t.c S T ∧ tyT ts (T :: r) F)
theorem tyT_look {x : Tm} {e : List Val} {G : List Ty} {i : Ty} {ts : List Task} {q : List Ty} {F : Ty} (h : tyM x G i) (he : tyE e G) (ht : tyT ts (i :: q) F) : tyT (lookT x e :: ts) q F := .inl ⟨rfl, G, i, h, he, ht⟩
theorem tyT_change {c : Option Ca} {S T : Ty} {ts : List Task} {q : List Ty} {F : Ty} (h : tyC c S T) (ht : tyT ts (T :: q) F) : tyT (changeT c :: ts) (S :: q) F := .inr (.inr (.inr (.inr (.inr ⟨rfl, S, T, q, rfl, h, ht⟩))))
theorem tyT_call {d : Int} (hd : d = 5 ∨ d = 7) {a b : Ty} {ts : List Task} {q : List Ty} {F : Ty} (ht : tyT ts (b :: q) F) : tyT (doT d :: ts) (a :: funY a b :: q) F := .inr (.inr (.inr (.inr (.inl ⟨hd, a, b, q, rfl, ht⟩))))
/-- A machine that has a type: it goes on, or somebody was blamed, or the calls ran out. -/
def tyS (s : St) (F : Ty) : Prop := (s.ended.k = 0 ∧ ∃ q, tyT s.ts q F ∧ tyE s.vs q) ∨ s.ended.k = 4 ∨ s.ended.k = 5
theorem tyE_one {vs : List Val} {T : Ty} {q : List Ty} (h : tyE vs (T :: q)) : ∃ v r, vs = v :: r ∧ tyV v T ∧ tyE r q := by
  match vs, h with
  | [], h => simp [tyE] at h
  | v :: r, h => exact ⟨v, r, rfl, h.2 0 (by simp) (by simp), by simpa using h.1, fun j h1 h2 => h.2 (j + 1) (by simpa using h1) (by simpa using h2)⟩
theorem call_ty {ts : List Task} {u v : Val} {vs : List Val} {calls fuel : Nat} {ended : Out} {A B F : Ty} {r : List Ty} (h0 : ended.k = 0) (hv : tyV v A) (hu : tyV u (funY A B)) (ht : tyT ts (B :: r) F) (hvs : tyE vs r) : tyS (callS ⟨ts, vs, calls, fuel, ended⟩ u v) F := by
  unfold callS
  rcases tyV_fun hu with ⟨hk, G, hb, he⟩ | ⟨hk, _, hc, A0, B0, h1, h2, h3⟩
  · rw [if_pos hk]
    unfold enterS
    split
    · exact .inr (.inr rfl)
    · exact .inl ⟨h0, r, tyT_look hb (tyE_cons hv he) ht, hvs⟩
  · rw [if_neg (by omega), if_pos hk]
    exact .inl ⟨h0, A :: funY A0 B0 :: r, tyT_change h2 (tyT_call (.inr rfl) (tyT_change h3 ht)), tyE_cons hv (tyE_cons h1 hvs)⟩
theorem look_ty {s : St} {x : Tm} {e : List Val} {G : List Ty} {i F : Ty} {q : List Ty} (h0 : s.ended.k = 0) (h : tyM x G i) (he : tyE e G) (ht : tyT s.ts (i :: q) F) (hv : tyE s.vs q) : tyS (lookS s x e) F := by
  obtain ⟨ps, hl, hp, hr⟩ := tyM_parts h
  have pushed : ∀ v, tyV v i → tyS (s.push v) F := fun v h => .inl ⟨h0, i :: q, ht, tyE_cons h hv⟩
  unfold lookS
  rcases hr with ⟨hk, rfl, hn⟩ | ⟨hk, rfl, rfl⟩ | ⟨hk, rfl, rfl⟩ | ⟨hk, rfl, rfl⟩ | ⟨hk, rfl, rfl⟩ | ⟨hk, rfl⟩ | ⟨hk, b, rfl, rfl⟩ | ⟨hk, a, rfl⟩ | ⟨hk, rfl, rfl⟩ | ⟨hk, rfl, rfl, hf, g1, g2⟩
  all_goals simp only [hk] at hp ⊢
  · obtain ⟨v, e1, hv1⟩ := tyE_at he hn
    simp only [e1, if_true]
    exact pushed v hv1
  · exact pushed _ (tyV_mkNum _)
  · exact pushed _ (tyV_mkTruth _)
  · exact .inl ⟨h0, q, tyT_look (hp 0 (by simp)) he (tyT_look (hp 1 (by simp)) he (.inr (.inl ⟨rfl, q, rfl, ht⟩))), hv⟩
  · exact .inl ⟨h0, q, tyT_look (hp 0 (by simp)) he (tyT_look (hp 1 (by simp)) he (.inr (.inr (.inl ⟨rfl, q, rfl, ht⟩)))), hv⟩
  · exact .inl ⟨h0, q, tyT_look (hp 0 (by simp)) he (.inr (.inr (.inr (.inl ⟨rfl, G, i, q, rfl, hp 1 (by simp), hp 2 (by simp), he, ht⟩)))), hv⟩
  · exact pushed _ (tyV_mkFun (by simpa using hp 0 (by simp)) he)
  · exact .inl ⟨h0, q, tyT_look (hp 0 (by simp)) he (tyT_look (hp 1 (by simp)) he (tyT_call (.inl rfl) ht)), hv⟩
  · exact .inl ⟨h0, q, tyT_look (hp 0 (by simp)) he ht, hv⟩
  · refine .inl ⟨h0, q, tyT_look (hp 0 (by simp)) he (tyT_change (tyC_new 100 46 _ _ _ g1 g2 hf rfl ?_) ht), hv⟩
    split <;> omega
theorem step_ty {s : St} {F : Ty} (h : tyS s F) : tyS (stepS s) F := by
  rcases h with ⟨h0, q, ht, hv⟩ | h | h
  · obtain ⟨ts, vs, calls, fuel, ended⟩ := s
    match ts with
    | [] => rw [done_step (.inr rfl)]; exact .inl ⟨h0, q, ht, hv⟩
    | t :: ts =>
      have e0 : stepS ⟨t :: ts, vs, calls, fuel, ended⟩ = doS ⟨ts, vs, calls, fuel, ended⟩ t := by simp only [stepS]; rw [if_pos h0]
      rw [e0]
      simp only at ht hv h0
      unfold doS
      rcases ht with ⟨hd, G, i, h1, h2, h3⟩ | ⟨hd, r, rfl, h3⟩ | ⟨hd, r, rfl, h3⟩ | ⟨hd, G, i, r, rfl, h1, h2, h4, h3⟩ | ⟨hd, a, b, r, rfl, h3⟩ | ⟨hd, S, T, r, rfl, h1, h3⟩
      · simp only [hd, if_true]
        exact look_ty h0 h1 h2 h3 hv
      · obtain ⟨v, vs1, rfl, v1, hv1⟩ := tyE_one hv
        obtain ⟨u, vs2, rfl, u1, hv2⟩ := tyE_one hv1
        simp only [hd]
        refine .inl ⟨?_, numY :: r, h3, tyE_cons (tyV_mkNum _) hv2⟩
        simp only [tyV_num v1, tyV_num u1]
        simpa using h0
      · obtain ⟨v, vs1, rfl, v1, hv1⟩ := tyE_one hv
        obtain ⟨u, vs2, rfl, u1, hv2⟩ := tyE_one hv1
        simp only [hd]
        refine .inl ⟨?_, truthY :: r, h3, tyE_cons (tyV_mkTruth _) hv2⟩
        simp only [tyV_num v1, tyV_num u1]
        simpa using h0
      · obtain ⟨v, vs1, rfl, v1, hv1⟩ := tyE_one hv
        simp only [hd, tyV_truth v1]
        refine .inl ⟨h0, r, tyT_look (G := G) (i := i) ?_ h4 h3, hv1⟩
        split
        · exact h1
        · exact h2
      · obtain ⟨v, vs1, rfl, v1, hv1⟩ := tyE_one hv
        obtain ⟨u, vs2, rfl, u1, hv2⟩ := tyE_one hv1
        rcases hd with hd | hd
        all_goals
          simp only [hd]
          exact call_ty h0 v1 u1 h3 hv2
      · obtain ⟨v, vs1, rfl, v1, hv1⟩ := tyE_one hv
        simp only [hd, if_true]
        rcases change_ty (s := ⟨ts, vs1, calls, fuel, ended⟩) h1 v1 with ⟨u, e, hu⟩ | ⟨o, e, ho⟩
        · have : tyS (changeS ⟨ts, vs1, calls, fuel, ended⟩ t.c v) F := by
            rw [e]; exact .inl ⟨h0, T :: r, h3, tyE_cons hu hv1⟩
          simpa using this
        · have : tyS (changeS ⟨ts, vs1, calls, fuel, ended⟩ t.c v) F := by
            rw [e]; exact .inr (.inl ho)
          simpa using this
  · rw [done_step (.inl (by omega))]; exact .inr (.inl h)
  · rw [done_step (.inl (by omega))]; exact .inr (.inr h)
theorem run_ty {s : St} {F : Ty} (h : tyS s F) : ∀ n, tyS (runN n s) F
  | 0 => h
  | n + 1 => by rw [runN_succ]; exact step_ty (run_ty h n)
theorem st0_ty {x : Tm} {i : Ty} (h : tyM x [] i) (fuel : Nat) : tyS (st0 x fuel) i := .inl ⟨rfl, [], tyT_look h ⟨rfl, fun j h => (by simp at h)⟩ rfl, rfl, fun j h => by simp [st0] at h⟩
end Go.Proofs.YtnddkmccagiclabGreatDoor
