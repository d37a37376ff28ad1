/-
  What the call of check's ruleOf answers, at every kind that a good term has.
-/
import Derived.Test.YtnddkmccagiclaaGreatDoorLot383c3897c4
import Derived.Test.YtnddkmccagiclaaGreatDoorLotf63a16e00c
import Derived.Test.YtnddkmccagiclaaGreatDoorLotce5b4f1487
import Derived.Test.YtnddkmccagiclaaGreatDoorLotfd21d846ae
namespace Go.Proofs.YtnddkmccagiclaaGreatDoor
open Go.RowKit

/-- The rule of a term: by its kind, number and type, the types of its parts, and what the functions around it take. -/
def ruleY (k n : Int) (t : Ty) (ps takes : List Ty) : Option (Ty × List Ty) :=
  if k = 1 then some (takes.getD n.toNat ⟨0, []⟩, [])
  else if k = 2 then some (⟨1, []⟩, [])
  else if k = 3 then some (⟨2, []⟩, [])
  else if k = 4 then some (⟨1, []⟩, [⟨1, []⟩, ⟨1, []⟩])
  else if k = 5 then some (⟨2, []⟩, [⟨1, []⟩, ⟨1, []⟩])
  else if k = 6 then ifY ⟨2, []⟩ (ps.getD 1 ⟨0, []⟩) (ps.getD 2 ⟨0, []⟩)
  else if k = 7 then some (⟨3, [t, ps.getD 0 ⟨0, []⟩]⟩, ps)
  else if k = 8 then callY (ps.getD 0 ⟨0, []⟩)
  else if k = 9 then some (t, [t])
  else none

theorem bl_one {Q : Nat → Prop} {g c : Nat} {x : Tr} (h : Q g) (hx : x.Bl Q) : (Tr.mk 0 (some ⟨g, 0, none⟩) c [x]).Bl Q := by
  refine Tr.Bl_mk.2 ⟨fun _ y hy => by cases hy; exact h, fun t ht => ?_⟩
  have : t = x := by simpa using ht
  subst this; exact hx

theorem In_one {w : World} {g c : Nat} {x : Tr} (c0 : w.cell? ⟨g, 0, none⟩ = some (.int .i64 x.k)) (c1 : w.cell? ⟨g, 1, none⟩ = some (.slice x.a x.l.length x.c)) (hx : x.In w) : (Tr.mk 0 (some ⟨g, 0, none⟩) c [x]).In w := by
  refine Tr.In_mk.2 ⟨fun j h => ?_, fun t ht => ?_⟩
  · have hj : j = 0 := by simpa using h
    subst hj
    exact ⟨g, 0, rfl, by simpa using c0, by simpa [Tr.sl] using c1⟩
  · have : t = x := by simpa using ht
    subst this; exact hx

theorem ruleOf_any (Q : Nat → Prop) (x : TT) (p T : Tr) (w : World) (h1 : 1 ≤ x.k) (h9 : x.k ≤ 9) (hp : p.l.length = partsOf x.k) (hn : x.k = 1 → 0 ≤ x.n ∧ x.n < (T.l.length : Int))
    (ht : x.t.In w) (bt : x.t.Bl Q) (ip : p.In w) (bp : p.Bl Q) (iT : T.In w) (bT : T.Bl Q) (hok : ∀ t, t ∈ p.l → t.right ∧ t.hgt ≤ 1000 ∧ t.sm) (hQ : ∀ b, w.heap.size ≤ b → Q b) :
    Calls Tryz.prog 65 #[.agg #[.int .i64 x.k, .int .i64 x.n, .int .i64 x.t.k, .slice x.t.a x.t.l.length x.t.c, .int .i64 x.f.k, .slice x.f.a x.f.l.length x.f.c, .slice x.a x.l.length x.c], .slice p.a p.l.length p.c, .slice T.a T.l.length T.c] w (RuOut Q w (ruleY x.k x.n x.t.ty (p.l.map Tr.ty) (T.l.map Tr.ty))) := by
  have hk : x.k = 1 ∨ x.k = 2 ∨ x.k = 3 ∨ x.k = 4 ∨ x.k = 5 ∨ x.k = 6 ∨ x.k = 7 ∨ x.k = 8 ∨ x.k = 9 := by omega
  rcases hk with e | e | e | e | e | e | e | e | e
  · obtain ⟨m, hm⟩ : ∃ m : Nat, x.n = (m : Int) := ⟨x.n.toNat, by have := hn e; omega⟩
    have hlt : m < T.l.length := by have := hn e; omega
    obtain ⟨b, o, ea, c0, c1, hi⟩ := iT.part m hlt
    have hbt : T.l[m].Bl Q := by
      obtain ⟨k, a, c, l⟩ := T
      exact (Tr.Bl_mk.1 bT).2 _ (List.getElem_mem hlt)
    rw [e, hm, ea]
    refine (ruleOf_1 x m hm p.a p.l.length p.c b o T.l.length T.c hlt T.l[m] w c0 c1).mono ?_
    rintro e w' ⟨rfl, hb⟩
    exact ⟨hb, .inr ⟨T.l[m], leaf 0, by simp [ruleY, leaf, hlt], rfl, hi.below hb, leaf_in _ _, hbt, leaf_bl _ _⟩⟩
  · rw [e]
    refine (ruleOf_2 x p.a T.a p.l.length p.c T.l.length T.c w).mono ?_
    rintro e w' ⟨rfl, hb⟩
    exact ⟨hb, .inr ⟨leaf 1, leaf 0, by simp [ruleY, leaf, Tr.ty_mk], rfl, leaf_in _ _, leaf_in _ _, leaf_bl _ _, leaf_bl _ _⟩⟩
  · rw [e]
    refine (ruleOf_3 x p.a T.a p.l.length p.c T.l.length T.c w).mono ?_
    rintro e w' ⟨rfl, hb⟩
    exact ⟨hb, .inr ⟨leaf 2, leaf 0, by simp [ruleY, leaf, Tr.ty_mk], rfl, leaf_in _ _, leaf_in _ _, leaf_bl _ _, leaf_bl _ _⟩⟩
  · rw [e]
    refine (ruleOf_4 x p.a T.a p.l.length p.c T.l.length T.c w).mono ?_
    rintro e w' ⟨g, hg, rfl, c0, c1, c2, c3, hb⟩
    exact ⟨hb, .inr ⟨leaf 1, ⟨0, some ⟨g, 0, none⟩, 2, [leaf 1, leaf 1]⟩, by simp [ruleY, leaf, Tr.ty_mk], rfl, leaf_in _ _, Tr.In_two c0 c1 c2 c3 (leaf_in _ _) (leaf_in _ _), leaf_bl _ _, Tr.Bl_two (hQ g hg) (leaf_bl _ _) (leaf_bl _ _)⟩⟩
  · rw [e]
    refine (ruleOf_5 x p.a T.a p.l.length p.c T.l.length T.c w).mono ?_
    rintro e w' ⟨g, hg, rfl, c0, c1, c2, c3, hb⟩
    exact ⟨hb, .inr ⟨leaf 2, ⟨0, some ⟨g, 0, none⟩, 2, [leaf 1, leaf 1]⟩, by simp [ruleY, leaf, Tr.ty_mk], rfl, leaf_in _ _, Tr.In_two c0 c1 c2 c3 (leaf_in _ _) (leaf_in _ _), leaf_bl _ _, Tr.Bl_two (hQ g hg) (leaf_bl _ _) (leaf_bl _ _)⟩⟩
  · have hl : p.l.length = 3 := by rw [hp, e]; rfl
    obtain ⟨b, o, ea, c0, c1, hi1⟩ := ip.part 1 (by omega)
    obtain ⟨b', o', eb, d0, d1, hi2⟩ := ip.part 2 (by omega)
    rw [ea] at eb
    cases eb
    have o1 := hok _ (List.getElem_mem (show 1 < p.l.length by omega))
    have o2 := hok _ (List.getElem_mem (show 2 < p.l.length by omega))
    have he : ruleY 6 x.n x.t.ty (p.l.map Tr.ty) (T.l.map Tr.ty) = ifY ⟨2, []⟩ (p.l[1]'(by omega)).ty (p.l[2]'(by omega)).ty := by
      simp [ruleY, hl]
    rw [e, ea, he]
    exact ruleOf_6 Q x _ _ b o p.l.length p.c T.a T.l.length T.c w (by omega) c0 c1 d0 d1 hi1 hi2 o1.1 o2.1 o1.2.1 o1.2.2 hQ
  · have hl : p.l.length = 1 := by rw [hp, e]; rfl
    obtain ⟨q, hq⟩ : ∃ q, p.l = [q] := List.length_eq_one_iff.1 hl
    obtain ⟨b, o, ea, c0, c1, hi⟩ := ip.part 0 (by omega)
    have hq0 : p.l[0]'(by omega) = q := by simp [hq]
    rw [hq0] at c0 c1 hi
    have hbp : q.Bl Q ∧ Q b := by
      obtain ⟨k, a, c, l⟩ := p
      dsimp only at hq ea
      subst hq ea
      exact ⟨(Tr.Bl_mk.1 bp).2 _ (by simp), (Tr.Bl_mk.1 bp).1 (by simp) _ rfl⟩
    have he : ruleY 7 x.n x.t.ty (p.l.map Tr.ty) (T.l.map Tr.ty) = some (⟨3, [x.t.ty, q.ty]⟩, [q.ty]) := by
      simp [ruleY, hq]
    rw [e, ea, he, hl]
    exact ruleOf_7 Q x q b o p.c T.a T.l.length T.c w (by simpa using c0) (by simpa using c1) hi ht hbp.1 bt hbp.2 hQ
  · have hl : p.l.length = 2 := by rw [hp, e]; rfl
    obtain ⟨b, o, ea, c0, c1, hi⟩ := ip.part 0 (by omega)
    have o1 := hok _ (List.getElem_mem (show 0 < p.l.length by omega))
    have hbp : (p.l[0]'(by omega)).Bl Q := by
      obtain ⟨k, a, c, l⟩ := p
      exact (Tr.Bl_mk.1 bp).2 _ (List.getElem_mem (by dsimp only at hl; omega))
    have he : ruleY 8 x.n x.t.ty (p.l.map Tr.ty) (T.l.map Tr.ty) = callY (p.l[0]'(by omega)).ty := by
      simp [ruleY, hl]
    rw [e, ea, he]
    exact ruleOf_8 Q x _ b o p.l.length p.c T.a T.l.length T.c w (by omega) (by simpa using c0) (by simpa using c1) hi o1.1 hQ hbp
  · rw [e]
    refine (ruleOf_9 x p.a T.a p.l.length p.c T.l.length T.c w).mono ?_
    rintro e w' ⟨g, hg, rfl, c0, c1, hb⟩
    exact ⟨hb, .inr ⟨x.t, ⟨0, some ⟨g, 0, none⟩, 1, [x.t]⟩, by simp [ruleY], rfl, ht.below hb, In_one c0 c1 (ht.below hb), bt, bl_one (hQ g hg) bt⟩⟩
end Go.Proofs.YtnddkmccagiclaaGreatDoor

/-
  What the call of check's cast answers: the term as it is, or a cast about it.
-/
namespace Go.Proofs.YtnddkmccagiclaaGreatDoor
open Go.RowKit

def castY (n : Int) (x : Tm) (i u : Ty) : Tm := if relY escSame i u then x else ⟨10, n, u, i, [x]⟩

/-- Behind the entry: the reading, what it is used as, the place of the answer. -/
structure CB (H : Nat) (r : Rd) (u : Tr) (W : World) : Prop where
  p0 : W.cell? ⟨H, 0, none⟩ = some (.int .i64 r.n)
  p1 : W.cell? ⟨H, 1, none⟩ = some (.int .i64 r.y.k)
  p2 : W.cell? ⟨H, 2, none⟩ = some (.int .i64 r.y.n)
  p3 : W.cell? ⟨H, 3, none⟩ = some (.int .i64 r.y.t.k)
  p4 : W.cell? ⟨H, 4, none⟩ = some (.slice r.y.t.a r.y.t.l.length r.y.t.c)
  p5 : W.cell? ⟨H, 5, none⟩ = some (.int .i64 r.y.f.k)
  p6 : W.cell? ⟨H, 6, none⟩ = some (.slice r.y.f.a r.y.f.l.length r.y.f.c)
  p7 : W.cell? ⟨H, 7, none⟩ = some (.slice r.y.a r.y.l.length r.y.c)
  p8 : W.cell? ⟨H, 8, none⟩ = some (.int .i64 r.i.k)
  p9 : W.cell? ⟨H, 9, none⟩ = some (.slice r.i.a r.i.l.length r.i.c)
  u0 : W.cell? ⟨H + 1, 0, none⟩ = some (.int .i64 u.k)
  u1 : W.cell? ⟨H + 1, 1, none⟩ = some (.slice u.a u.l.length u.c)
  z0 : W.cell? ⟨H + 1 + 1, 0, none⟩ = some (.int .i64 0)
  z1 : W.cell? ⟨H + 1 + 1, 1, none⟩ = some (.int .i64 0)
  z2 : W.cell? ⟨H + 1 + 1, 2, none⟩ = some (.int .i64 0)
  z3 : W.cell? ⟨H + 1 + 1, 3, none⟩ = some (.slice none 0 0)
  z4 : W.cell? ⟨H + 1 + 1, 4, none⟩ = some (.int .i64 0)
  z5 : W.cell? ⟨H + 1 + 1, 5, none⟩ = some (.slice none 0 0)
  z6 : W.cell? ⟨H + 1 + 1, 6, none⟩ = some (.slice none 0 0)
  fz : ∀ i, W.frozen? ⟨H + 1 + 1, i, none⟩ = false
  iu : u.In W
  ii : r.i.In W
  iy : r.y.In W

theorem CB.below {H : Nat} {r : Rd} {u : Tr} {W W' : World} (h : CB H r u W) (hb : Below W.heap.size W W') : CB H r u W' :=
  ⟨cell_later hb h.p0, cell_later hb h.p1, cell_later hb h.p2, cell_later hb h.p3, cell_later hb h.p4, cell_later hb h.p5, cell_later hb h.p6, cell_later hb h.p7, cell_later hb h.p8, cell_later hb h.p9, cell_later hb h.u0, cell_later hb h.u1, cell_later hb h.z0, cell_later hb h.z1, cell_later hb h.z2, cell_later hb h.z3, cell_later hb h.z4, cell_later hb h.z5, cell_later hb h.z6, fun i => (hb.frozen (p := ⟨H + 1 + 1, i, none⟩) (show (⟨H + 1 + 1, 0, none⟩ : Addr).block < W.heap.size from World.block_lt_of_cell? _ _ h.z0)).trans (h.fz i), h.iu.below hb, h.ii.below hb, h.iy.below hb⟩

def CPost (r : Rd) (u : Tr) (w : World) (e : Ending) (w' : World) : Prop :=
  ∃ z : TT, e = .returned (.agg #[.int .i64 z.k, .int .i64 z.n, .int .i64 z.t.k, .slice z.t.a z.t.l.length z.t.c, .int .i64 z.f.k, .slice z.f.a z.f.l.length z.f.c, .slice z.a z.l.length z.c]) ∧ z.tm = castY r.n r.y.tm r.i.ty u.ty ∧ z.In w' ∧ (∀ Q : Nat → Prop, (∀ b, w.heap.size ≤ b → Q b) → r.y.Bl Q → z.Bl Q) ∧ Below w.heap.size w w'

theorem cb_start (r : Rd) (u : Tr) (w : World) (hu : u.In w) (hi : r.i.In w) (hy : r.y.In w) : CB w.heap.size r u (((w.alloc (Obj.cells #[.int .i64 r.n, .int .i64 r.y.k, .int .i64 r.y.n, .int .i64 r.y.t.k, .slice r.y.t.a r.y.t.l.length r.y.t.c, .int .i64 r.y.f.k, .slice r.y.f.a r.y.f.l.length r.y.f.c, .slice r.y.a r.y.l.length r.y.c, .int .i64 r.i.k, .slice r.i.a r.i.l.length r.i.c] 71)).alloc (Obj.cells #[.int .i64 u.k, .slice u.a u.l.length u.c] 24)).alloc (Obj.cells #[.int .i64 0, .int .i64 0, .int .i64 0, .slice none 0 0, .int .i64 0, .slice none 0 0, .slice none 0 0] 27)) ∧ Below w.heap.size w (((w.alloc (Obj.cells #[.int .i64 r.n, .int .i64 r.y.k, .int .i64 r.y.n, .int .i64 r.y.t.k, .slice r.y.t.a r.y.t.l.length r.y.t.c, .int .i64 r.y.f.k, .slice r.y.f.a r.y.f.l.length r.y.f.c, .slice r.y.a r.y.l.length r.y.c, .int .i64 r.i.k, .slice r.i.a r.i.l.length r.i.c] 71)).alloc (Obj.cells #[.int .i64 u.k, .slice u.a u.l.length u.c] 24)).alloc (Obj.cells #[.int .i64 0, .int .i64 0, .int .i64 0, .slice none 0 0, .int .i64 0, .slice none 0 0, .slice none 0 0] 27)) := by
  have hb : Below w.heap.size w (((w.alloc (Obj.cells #[.int .i64 r.n, .int .i64 r.y.k, .int .i64 r.y.n, .int .i64 r.y.t.k, .slice r.y.t.a r.y.t.l.length r.y.t.c, .int .i64 r.y.f.k, .slice r.y.f.a r.y.f.l.length r.y.f.c, .slice r.y.a r.y.l.length r.y.c, .int .i64 r.i.k, .slice r.i.a r.i.l.length r.i.c] 71)).alloc (Obj.cells #[.int .i64 u.k, .slice u.a u.l.length u.c] 24)).alloc (Obj.cells #[.int .i64 0, .int .i64 0, .int .i64 0, .slice none 0 0, .int .i64 0, .slice none 0 0, .slice none 0 0] 27)) := (((Below.refl _ _).alloc (Nat.le_refl _) _).alloc (by simp) _).alloc (by simp; omega) _
  refine ⟨⟨?_, ?_, ?_, ?_, ?_, ?_, ?_, ?_, ?_, ?_, ?_, ?_, ?_, ?_, ?_, ?_, ?_, ?_, ?_, ?_, hu.below hb, hi.below hb, hy.below hb⟩, hb⟩
  all_goals simp [go_sem]

set_option maxRecDepth 20000 in
set_option maxHeartbeats 1000000 in
theorem cast_same (r : Rd) (u : Tr) (w : World) (hu : u.In w) (hi : r.i.In w) (hy : r.y.In w) (hh : r.i.hgt ≤ 1000) (hs : r.i.sm) (hr : relY escSame r.i.ty u.ty = true) :
    Calls Tryz.prog 106 #[.agg #[.int .i64 r.n, .int .i64 r.y.k, .int .i64 r.y.n, .int .i64 r.y.t.k, .slice r.y.t.a r.y.t.l.length r.y.t.c, .int .i64 r.y.f.k, .slice r.y.f.a r.y.f.l.length r.y.f.c, .slice r.y.a r.y.l.length r.y.c, .int .i64 r.i.k, .slice r.i.a r.i.l.length r.i.c], .agg #[.int .i64 u.k, .slice u.a u.l.length u.c]] w (CPost r u w) := by
  obtain ⟨hc, hb⟩ := cb_start r u w hu hi hy
  obtain ⟨W0, hW0⟩ : ∃ W0, W0 = ((w.alloc (Obj.cells #[.int .i64 r.n, .int .i64 r.y.k, .int .i64 r.y.n, .int .i64 r.y.t.k, .slice r.y.t.a r.y.t.l.length r.y.t.c, .int .i64 r.y.f.k, .slice r.y.f.a r.y.f.l.length r.y.f.c, .slice r.y.a r.y.l.length r.y.c, .int .i64 r.i.k, .slice r.i.a r.i.l.length r.i.c] 71)).alloc (Obj.cells #[.int .i64 u.k, .slice u.a u.l.length u.c] 24)).alloc (Obj.cells #[.int .i64 0, .int .i64 0, .int .i64 0, .slice none 0 0, .int .i64 0, .slice none 0 0, .slice none 0 0] 27) := ⟨_, rfl⟩
  rw [← hW0] at hc hb
  have HS : Hid (Calls Tryz.prog 48 #[.agg #[.int .i64 r.i.k, .slice r.i.a r.i.l.length r.i.c], .agg #[.int .i64 u.k, .slice u.a u.l.length u.c]] W0 fun e w' => e = .returned (.bool true) ∧ Below W0.heap.size W0 w') := by
    have := same_whole r.i u W0 hc.ii hc.iu hh hs
    rw [hr] at this
    exact this
  have HB : Hid (CB w.heap.size r u W0 ∧ Below w.heap.size w W0) := ⟨hc, hb⟩
  have HT : Hid (castY r.n r.y.tm r.i.ty u.ty = r.y.tm) := by simp [Hid, castY, hr]
  have HY : Hid (r.y.Bl (· < w.heap.size)) := hy.bl
  clear hc hb hu hi hy hh hs hr
  go_enter Tryz.func106, Tryz.ntmps106
  go_wp2_with fail
  rw [← hW0]
  clear hW0
  refine HS.out.mono ?_
  rintro e w1 ⟨rfl, h1⟩
  have hc1 := HB.out.1.below h1
  have lz : w.heap.size + 1 + 1 < w1.heap.size := World.block_lt_of_cell? _ _ hc1.z0
  have hbw : Below w.heap.size w w1 := HB.out.2.trans (h1.mono HB.out.2.size)
  have hbx : Box7 w1 (w.heap.size + 1 + 1) (tleaf 0 0) := ⟨⟨hc1.z0, hc1.z1, hc1.z2, hc1.z3, hc1.z4, hc1.z5, hc1.z6⟩, fun i _ => hc1.fz i⟩
  have h7 := (put7_box (x := r.y) hbx).at7
  obtain ⟨e0, e1, e2, e3, e4, e5, e6⟩ := h7
  have HE : Hid (r.y.In (put7 w1 (w.heap.size + 1 + 1) r.y) ∧ Below w.heap.size w (put7 w1 (w.heap.size + 1 + 1) r.y)) := by
    refine ⟨?_, hbw.trans ((put7_kept (x := r.y)).below (by simp) (by omega) |>.mono (by omega))⟩
    exact hc1.iy.keptR put7_kept (HY.out.mono fun b hb => by omega)
  simp only [Nat.zero_add] at e0 e1 e2 e3 e4 e5 e6
  obtain ⟨p0, p1, p2, p3, p4, p5, p6, p7, p8, p9, u0, u1, z0, z1, z2, z3, z4, z5, z6, fz, _, _, _⟩ := hc1
  have f0 := fz 0
  have f1 := fz 1
  have f2 := fz 2
  have f3 := fz 3
  have f4 := fz 4
  have f5 := fz 5
  have f6 := fz 6
  clear h1 HS HB hbx hbw fz
  go_wp2_with fail
  refine bodyPost_ret (v := .agg #[.int .i64 r.y.k, .int .i64 r.y.n, .int .i64 r.y.t.k, .slice r.y.t.a r.y.t.l.length r.y.t.c, .int .i64 r.y.f.k, .slice r.y.f.a r.y.f.l.length r.y.f.c, .slice r.y.a r.y.l.length r.y.c]) ?_ rfl ⟨r.y, rfl, HT.out.symm, HE.out.1, fun Q _ h => h, HE.out.2⟩
  unfold put7 at e0 e1 e2 e3 e4 e5 e6
  simp [results, Tryz.results106, go_sem, e0, e1, e2, e3, e4, e5, e6]

/-- The cast is written to its place. -/
theorem cast_end (r : Rd) (u : Tr) (w W : World) (G : Nat) (t f : Tr) (hb : Below w.heap.size w W) (hc : CB w.heap.size r u W) (hG : w.heap.size + 1 + 1 < G) (h7 : At7 W G 0 r.y) (ht : t.In W) (hf : f.In W) (bt : t.Bl (w.heap.size + 1 + 1 < ·)) (bf : f.Bl (w.heap.size + 1 + 1 < ·)) (hy : r.y.Bl (· < w.heap.size)) (et : t.ty = u.ty) (ef : f.ty = r.i.ty) (hr : relY escSame r.i.ty u.ty = false) :
    CPost r u w (.returned (.agg #[.int .i64 10, .int .i64 r.n, .int .i64 t.k, .slice t.a t.l.length t.c, .int .i64 f.k, .slice f.a f.l.length f.c, .slice (some ⟨G, 0, none⟩) 1 1])) (put7 W (w.heap.size + 1 + 1) ⟨10, r.n, t, f, some ⟨G, 0, none⟩, 1, [r.y]⟩) ∧
      At7 (put7 W (w.heap.size + 1 + 1) ⟨10, r.n, t, f, some ⟨G, 0, none⟩, 1, [r.y]⟩) (w.heap.size + 1 + 1) 0 ⟨10, r.n, t, f, some ⟨G, 0, none⟩, 1, [r.y]⟩ := by
  have hk := put7_kept (w := W) (J := w.heap.size + 1 + 1) (x := ⟨10, r.n, t, f, some ⟨G, 0, none⟩, 1, [r.y]⟩)
  have hbx : Box7 W (w.heap.size + 1 + 1) (tleaf 0 0) := ⟨⟨hc.z0, hc.z1, hc.z2, hc.z3, hc.z4, hc.z5, hc.z6⟩, fun i _ => hc.fz i⟩
  refine ⟨⟨⟨10, r.n, t, f, some ⟨G, 0, none⟩, 1, [r.y]⟩, rfl, ?_, ?_, fun Q hQ hyQ => ?_, ?_⟩, (put7_box hbx).at7⟩
  · rw [TT.tm_mk, et, ef]
    simp [castY, hr]
  · refine TT.In_mk.2 ⟨ht.keptR hk (bt.mono fun b hb => by omega), hf.keptR hk (bf.mono fun b hb => by omega), fun j hj => ?_, fun x hx => ?_⟩
    · have hj0 : j = 0 := by simpa using hj
      subst hj0
      exact ⟨G, 0, rfl, by simpa using h7.keptR hk (by omega)⟩
    · have : x = r.y := by simpa using hx
      subst this
      exact hc.iy.keptR hk (hy.mono fun b hb => by omega)
  · refine TT.Bl_mk.2 ⟨bt.mono fun b hb => hQ b (by omega), bf.mono fun b hb => hQ b (by omega), fun _ y hy => by cases hy; exact hQ G (by omega), fun x hx => ?_⟩
    have : x = r.y := by simpa using hx
    subst this
    exact hyQ
  · have lz : w.heap.size + 1 + 1 < W.heap.size := World.block_lt_of_cell? _ _ hc.z0
    exact hb.trans ((hk.below (by simp) (by omega)).mono (by omega))

theorem new_at7 (W : World) (r : Rd) : At7 (W.alloc (.cells #[.int .i64 r.y.k, .int .i64 r.y.n, .int .i64 r.y.t.k, .slice r.y.t.a r.y.t.l.length r.y.t.c, .int .i64 r.y.f.k, .slice r.y.f.a r.y.f.l.length r.y.f.c, .slice r.y.a r.y.l.length r.y.c] 27)) W.heap.size 0 r.y := by
  refine ⟨?_, ?_, ?_, ?_, ?_, ?_, ?_⟩
  all_goals simp [go_sem]

end Go.Proofs.YtnddkmccagiclaaGreatDoor

/-
  The plain mathematics of good types: what both say each of them says; who is finer fits; what is sure fits only what is coarser; no program in it.
-/
namespace Go.Proofs.YtnddkmccagiclaaGreatDoor

theorem goodY_cases {n : Nat} {t : Ty} (h : goodY (n + 1) t = true) : (∃ k, t = ⟨k, []⟩ ∧ (k = 0 ∨ k = 1 ∨ k = 2)) ∨ ∃ x y, t = ⟨3, [x, y]⟩ ∧ goodY n x = true ∧ goodY n y = true := by
  match t, h with
  | ⟨k, []⟩, h => exact .inl ⟨k, rfl, by simpa [goodY, or_assoc] using h⟩
  | ⟨k, [x]⟩, h => simp [goodY] at h
  | ⟨k, [x, y]⟩, h =>
    simp [goodY] at h
    obtain ⟨⟨rfl, hx⟩, hy⟩ := h
    exact .inr ⟨x, y, rfl, hx, hy⟩
  | ⟨k, x :: y :: z :: r⟩, h => simp [goodY] at h

theorem any_left (t : Ty) (l : List Ty) : relY escFits ⟨0, l⟩ t = true := by cases t; simp [relY_mk, escFits]
theorem any_right (t : Ty) (l : List Ty) : relY escFits t ⟨0, l⟩ = true := by cases t; simp [relY_mk, escFits]
theorem any_coarser (t : Ty) (l : List Ty) : relY escFiner t ⟨0, l⟩ = true := by cases t; simp [relY_mk, escFiner]

theorem two (esc : Int → Int → Bool) (x y x' y' : Ty) (h : esc 3 3 = false) : relY esc ⟨3, [x, y]⟩ ⟨3, [x', y']⟩ = (relY esc x x' && relY esc y y') := by
  simp [relY_mk, relL, h]

theorem join_two (x y x' y' : Ty) : joinY ⟨3, [x, y]⟩ ⟨3, [x', y']⟩ = ⟨3, [joinY x x', joinY y y']⟩ := by
  simp [joinY_mk, joinL]

theorem join_facts : ∀ (n : Nat) (a b : Ty), goodY n a = true → goodY n b = true →
    goodY n (joinY a b) = true ∧ relY escFiner a (joinY a b) = true ∧ relY escFiner b (joinY a b) = true ∧ joinY b a = joinY a b ∧ joinY a a = a
  | 0, a, b, h, _ => by simp [goodY] at h
  | n + 1, a, b, ha, hb => by
    rcases goodY_cases ha with ⟨k, rfl, hk⟩ | ⟨x, y, rfl, hx, hy⟩
    · rcases goodY_cases hb with ⟨k', rfl, hk'⟩ | ⟨x', y', rfl, hx', hy'⟩
      · by_cases e : k = k'
        · subst e
          rcases hk with rfl | rfl | rfl <;> simp [joinY_mk, joinL, goodY, relY_mk, relL]
        · have e' : k' ≠ k := fun h => e h.symm
          simp [joinY_mk, joinL, e, e', goodY, relY_mk, escFiner]
      · have e : k ≠ 3 := by omega
        have e' : (3 : Int) ≠ k := by omega
        simp [joinY_mk, joinL, e, e', goodY, relY_mk, escFiner]
    · rcases goodY_cases hb with ⟨k', rfl, hk'⟩ | ⟨x', y', rfl, hx', hy'⟩
      · have e : k' ≠ 3 := by omega
        have e' : (3 : Int) ≠ k' := by omega
        obtain ⟨_, _, _, _, ix⟩ := join_facts n x x hx hx
        obtain ⟨_, _, _, _, iy⟩ := join_facts n y y hy hy
        simp [joinY_mk, joinL, e, e', goodY, relY_mk, escFiner, ix, iy]
      · obtain ⟨g1, f1, f2, c1, i1⟩ := join_facts n x x' hx hx'
        obtain ⟨g2, f3, f4, c2, i2⟩ := join_facts n y y' hy hy'
        refine ⟨?_, ?_, ?_, ?_, ?_⟩
        · rw [join_two]; simp [goodY, g1, g2]
        · rw [join_two, two _ _ _ _ _ rfl, f1, f3]; rfl
        · rw [join_two, two _ _ _ _ _ rfl, f2, f4]; rfl
        · rw [join_two, join_two, c1, c2]
        · rw [join_two, i1, i2]

theorem join_least : ∀ (n : Nat) (a b c : Ty), goodY n a = true → goodY n b = true → goodY n c = true → relY escFiner a c = true → relY escFiner b c = true → relY escFiner (joinY a b) c = true
  | 0, a, b, c, h, _, _ => by simp [goodY] at h
  | n + 1, a, b, c, ha, hb, hc => by
    intro h1 h2
    rcases goodY_cases hc with ⟨k, rfl, hk⟩ | ⟨z, u, rfl, hz, hu⟩
    · rcases hk with rfl | hk
      · exact any_coarser _ _
      · have k0 : k ≠ 0 := by omega
        rcases goodY_cases ha with ⟨ka, rfl, _⟩ | ⟨x, y, rfl, hx, hy⟩
        · rcases goodY_cases hb with ⟨kb, rfl, _⟩ | ⟨x', y', rfl, hx', hy'⟩
          · simp [relY_mk, relL, escFiner, k0] at h1 h2
            subst h1
            subst h2
            simp [joinY_mk, joinL, relY_mk, relL]
          · simp [relY_mk, relL, escFiner, k0] at h2
        · simp [relY_mk, relL, escFiner, k0] at h1
    · rcases goodY_cases ha with ⟨ka, rfl, hka⟩ | ⟨x, y, rfl, hx, hy⟩
      · have e : ka ≠ 3 := by omega
        simp [relY_mk, relL, escFiner] at h1
      · rcases goodY_cases hb with ⟨kb, rfl, hkb⟩ | ⟨x', y', rfl, hx', hy'⟩
        · simp [relY_mk, relL, escFiner] at h2
        · rw [two _ _ _ _ _ rfl, Bool.and_eq_true] at h1 h2
          rw [join_two, two _ _ _ _ _ rfl, join_least n x x' z hx hx' hz h1.1 h2.1, join_least n y y' u hy hy' hu h1.2 h2.2]
          rfl

theorem fits_sym : ∀ (n : Nat) (a b : Ty), goodY n a = true → goodY n b = true → relY escFits a b = relY escFits b a
  | 0, a, b, h, _ => by simp [goodY] at h
  | n + 1, a, b, ha, hb => by
    rcases goodY_cases ha with ⟨ka, rfl, _⟩ | ⟨x, y, rfl, hx, hy⟩
    · rcases goodY_cases hb with ⟨kb, rfl, _⟩ | ⟨x', y', rfl, hx', hy'⟩
      · simp [relY_mk, relL, escFits, Bool.or_comm, Bool.beq_comm]
      · simp [relY_mk, relL, escFits]
    · rcases goodY_cases hb with ⟨kb, rfl, _⟩ | ⟨x', y', rfl, hx', hy'⟩
      · simp [relY_mk, relL, escFits]
      · rw [two _ _ _ _ _ rfl, two _ _ _ _ _ rfl, fits_sym n x x' hx hx', fits_sym n y y' hy hy']

theorem fits_refl : ∀ (n : Nat) (a : Ty), goodY n a = true → relY escFits a a = true
  | 0, a, h => by simp [goodY] at h
  | n + 1, a, ha => by
    rcases goodY_cases ha with ⟨ka, rfl, _⟩ | ⟨x, y, rfl, hx, hy⟩
    · simp [relY_mk, relL]
    · rw [two _ _ _ _ _ rfl, fits_refl n x hx, fits_refl n y hy]; rfl

theorem finer_fits : ∀ (n : Nat) (a b : Ty), goodY n a = true → goodY n b = true → relY escFiner a b = true → relY escFits a b = true
  | 0, a, b, h, _ => by simp [goodY] at h
  | n + 1, a, b, ha, hb => by
    intro h
    rcases goodY_cases hb with ⟨kb, rfl, _⟩ | ⟨x', y', rfl, hx', hy'⟩
    · rcases goodY_cases ha with ⟨ka, rfl, _⟩ | ⟨x, y, rfl, hx, hy⟩
      · simp [relY_mk, relL, escFiner] at h
        simp [relY_mk, relL, escFits]
        omega
      · simp [relY_mk, relL, escFiner] at h
        subst h
        exact any_right _ _
    · rcases goodY_cases ha with ⟨ka, rfl, _⟩ | ⟨x, y, rfl, hx, hy⟩
      · simp [relY_mk, relL, escFiner] at h
      · rw [two _ _ _ _ _ rfl, Bool.and_eq_true] at h
        rw [two _ _ _ _ _ rfl, finer_fits n x x' hx hx' h.1, finer_fits n y y' hy hy' h.2]
        rfl

theorem fits_coarser : ∀ (n : Nat) (a b c : Ty), goodY n a = true → goodY n b = true → goodY n c = true → relY escFits a b = true → relY escFiner b c = true → relY escFits a c = true
  | 0, a, b, c, h, _, _ => by simp [goodY] at h
  | n + 1, a, b, c, ha, hb, hc => by
    intro h1 h2
    rcases goodY_cases hc with ⟨k, rfl, hk⟩ | ⟨z, u, rfl, hz, hu⟩
    · by_cases k0 : k = 0
      · subst k0; exact any_right _ _
      · rcases goodY_cases hb with ⟨kb, rfl, hkb⟩ | ⟨x', y', rfl, hx', hy'⟩
        · simp [relY_mk, relL, escFiner, k0] at h2
          subst h2
          exact h1
        · simp [relY_mk, relL, escFiner, k0] at h2
    · rcases goodY_cases hb with ⟨kb, rfl, hkb⟩ | ⟨x', y', rfl, hx', hy'⟩
      · simp [relY_mk, relL, escFiner] at h2
      · rcases goodY_cases ha with ⟨ka, rfl, hka⟩ | ⟨x, y, rfl, hx, hy⟩
        · simp [relY_mk, relL, escFits] at h1
          subst h1
          exact any_left _ _
        · rw [two _ _ _ _ _ rfl, Bool.and_eq_true] at h1 h2
          rw [two _ _ _ _ _ rfl, fits_coarser n x x' z hx hx' hz h1.1 h2.1, fits_coarser n y y' u hy hy' hu h1.2 h2.2]
          rfl

theorem sure_fits : ∀ (n : Nat) (a b : Ty), goodY n a = true → goodY n b = true → sureY a = true → relY escFits a b = relY escFiner a b
  | 0, a, b, h, _ => by simp [goodY] at h
  | n + 1, a, b, ha, hb => by
    intro hs
    rcases goodY_cases ha with ⟨ka, rfl, _⟩ | ⟨x, y, rfl, hx, hy⟩
    · have k0 : ka ≠ 0 := by simpa [sureY_mk] using hs
      have k1 : (ka == 0) = false := by simpa using k0
      rcases goodY_cases hb with ⟨kb, rfl, _⟩ | ⟨x', y', rfl, hx', hy'⟩
      · simp [relY_mk, relL, escFits, escFiner, k1]
      · simp [relY_mk, relL, escFits, escFiner, k0]
    · rcases goodY_cases hb with ⟨kb, rfl, _⟩ | ⟨x', y', rfl, hx', hy'⟩
      · simp [relY_mk, relL, escFits, escFiner]
      · have hs' : sureY x = true ∧ sureY y = true := by simpa [sureY_mk] using hs
        rw [two _ _ _ _ _ rfl, two _ _ _ _ _ rfl, sure_fits n x x' hx hx' hs'.1, sure_fits n y y' hy hy' hs'.2]

theorem finer_trans : ∀ (n : Nat) (a b c : Ty), goodY n a = true → goodY n b = true → goodY n c = true → relY escFiner a b = true → relY escFiner b c = true → relY escFiner a c = true
  | 0, a, b, c, h, _, _ => by simp [goodY] at h
  | n + 1, a, b, c, ha, hb, hc => by
    intro h1 h2
    rcases goodY_cases hc with ⟨k, rfl, hk⟩ | ⟨z, u, rfl, hz, hu⟩
    · by_cases k0 : k = 0
      · subst k0; exact any_coarser _ _
      · rcases goodY_cases hb with ⟨kb, rfl, hkb⟩ | ⟨x', y', rfl, hx', hy'⟩
        · simp [relY_mk, relL, escFiner, k0] at h2
          subst h2
          exact h1
        · simp [relY_mk, relL, escFiner, k0] at h2
    · rcases goodY_cases hb with ⟨kb, rfl, hkb⟩ | ⟨x', y', rfl, hx', hy'⟩
      · simp [relY_mk, relL, escFiner] at h2
      · rcases goodY_cases ha with ⟨ka, rfl, hka⟩ | ⟨x, y, rfl, hx, hy⟩
        · simp [relY_mk, relL, escFiner] at h1
        · rw [two _ _ _ _ _ rfl, Bool.and_eq_true] at h1 h2
          rw [two _ _ _ _ _ rfl, finer_trans n x x' z hx hx' hz h1.1 h2.1, finer_trans n y y' u hy hy' hu h1.2 h2.2]
          rfl

theorem finer_both : ∀ (n : Nat) (a b : Ty), goodY n a = true → goodY n b = true → relY escFiner a b = true → relY escFiner b a = true → relY escSame a b = true
  | 0, a, b, h, _ => by simp [goodY] at h
  | n + 1, a, b, ha, hb => by
    intro h1 h2
    rcases goodY_cases ha with ⟨ka, rfl, hka⟩ | ⟨x, y, rfl, hx, hy⟩
    · rcases goodY_cases hb with ⟨kb, rfl, hkb⟩ | ⟨x', y', rfl, hx', hy'⟩
      · simp [relY_mk, relL, escFiner] at h1 h2
        simp [relY_mk, relL, escSame]
        omega
      · simp [relY_mk, relL, escFiner] at h1
    · rcases goodY_cases hb with ⟨kb, rfl, hkb⟩ | ⟨x', y', rfl, hx', hy'⟩
      · simp [relY_mk, relL, escFiner] at h2
      · rw [two _ _ _ _ _ rfl, Bool.and_eq_true] at h1 h2
        rw [two _ _ _ _ _ rfl, finer_both n x x' hx hx' h1.1 h2.1, finer_both n y y' hy hy' h1.2 h2.2]
        rfl
end Go.Proofs.YtnddkmccagiclaaGreatDoor

/-
  What check's Check makes of a term, in plain mathematics: the term with its casts, and its type; that these types are good; no program in it.
-/
namespace Go.Proofs.YtnddkmccagiclaaGreatDoor

/-- The parts, cast to what they are used as. -/
def castL : List (Nat × Tm × Ty) → List Ty → List Tm
  | p :: r, u :: s => castY (p.1 : Int) p.2.1 p.2.2 u :: castL r s
  | _, _ => []

theorem castL_length : ∀ (ps : List (Nat × Tm × Ty)) (us : List Ty), ps.length = us.length → (castL ps us).length = ps.length
  | [], [], _ => rfl
  | p :: r, u :: s, h => by simp [castL, castL_length r s (by simpa using h)]
  | [], _ :: _, h => by simp at h
  | _ :: _, [], h => by simp at h

/-- What the functions around a term's parts take. -/
def takesIn (k : Int) (t : Ty) (takes : List Ty) : List Ty := if k = 7 then t :: takes else takes

/-- Each part's reading, by its number; none: one has none. -/
def mapR : (l : List Tm) → ((x : Tm) → x ∈ l → Nat → Option (Tm × Ty)) → Nat → Option (List (Nat × Tm × Ty))
  | [], _, _ => some []
  | x :: r, f, c => (f x List.mem_cons_self c).bind fun p => (mapR r (fun z h c => f z (List.mem_cons_of_mem _ h) c) (c + x.sz)).bind fun q => some ((c, p.1, p.2) :: q)

/-- The term with its casts, and its type. -/
def readS : Tm → List Ty → Nat → Option (Tm × Ty)
  | ⟨k, n, t, _, l⟩, takes, c =>
    (mapR l (fun x _ c => readS x (takesIn k t takes) c) (c + 1)).bind fun ps =>
      (ruleY k n t (ps.map fun p => p.2.2) (takesIn k t takes)).bind fun r =>
        if fitL (ps.map fun p => p.2.2) r.2 = true then some (⟨k, n, t, anyY, castL ps r.2⟩, r.1) else none

def readL : List Tm → List Ty → Nat → Option (List (Nat × Tm × Ty))
  | [], _, _ => some []
  | x :: r, takes, c => (readS x takes c).bind fun p => (readL r takes (c + x.sz)).bind fun q => some ((c, p.1, p.2) :: q)

theorem mapR_read (takes : List Ty) : ∀ (l : List Tm) (c : Nat), mapR l (fun x _ c => readS x takes c) c = readL l takes c
  | [], _ => rfl
  | x :: r, c => by simp only [mapR, readL, mapR_read takes r]

theorem readS_mk (k n : Int) (t f : Ty) (l : List Tm) (takes : List Ty) (c : Nat) : readS ⟨k, n, t, f, l⟩ takes c =
    (readL l (takesIn k t takes) (c + 1)).bind fun ps => (ruleY k n t (ps.map fun p => p.2.2) (takesIn k t takes)).bind fun r => if fitL (ps.map fun p => p.2.2) r.2 = true then some (⟨k, n, t, anyY, castL ps r.2⟩, r.1) else none := by
  rw [readS, mapR_read]

theorem readS_some {k n : Int} {t f : Ty} {l : List Tm} {takes : List Ty} {c : Nat} {y : Tm} {i : Ty} (h : readS ⟨k, n, t, f, l⟩ takes c = some (y, i)) :
    ∃ ps us, readL l (takesIn k t takes) (c + 1) = some ps ∧ ruleY k n t (ps.map fun p => p.2.2) (takesIn k t takes) = some (i, us) ∧ fitL (ps.map fun p => p.2.2) us = true ∧ y = ⟨k, n, t, anyY, castL ps us⟩ := by
  rw [readS_mk] at h
  cases h1 : readL l (takesIn k t takes) (c + 1) with
  | none => rw [h1] at h; cases h
  | some ps =>
    rw [h1] at h
    simp only [Option.bind_some] at h
    cases h2 : ruleY k n t (ps.map fun p => p.2.2) (takesIn k t takes) with
    | none => rw [h2] at h; cases h
    | some r =>
      rw [h2] at h
      simp only [Option.bind_some] at h
      split at h
      · rename_i h3
        cases h
        exact ⟨ps, r.2, rfl, h2, h3, rfl⟩
      · cases h

theorem readL_cons {x : Tm} {r : List Tm} {takes : List Ty} {c : Nat} {ps : List (Nat × Tm × Ty)} (h : readL (x :: r) takes c = some ps) : ∃ y i q, readS x takes c = some (y, i) ∧ readL r takes (c + x.sz) = some q ∧ ps = (c, y, i) :: q := by
  rw [readL] at h
  cases h1 : readS x takes c with
  | none => rw [h1] at h; cases h
  | some p =>
    rw [h1] at h
    simp only [Option.bind_some] at h
    cases h2 : readL r takes (c + x.sz) with
    | none => rw [h2] at h; cases h
    | some q =>
      rw [h2] at h
      simp only [Option.bind_some] at h
      cases h
      exact ⟨p.1, p.2, q, rfl, rfl, rfl⟩

theorem readL_length : ∀ (l : List Tm) (takes : List Ty) (c : Nat) (ps : List (Nat × Tm × Ty)), readL l takes c = some ps → ps.length = l.length
  | [], _, _, ps, h => by rw [readL] at h; cases h; rfl
  | x :: r, takes, c, ps, h => by
    obtain ⟨y, i, q, _, h2, rfl⟩ := readL_cons h
    simp [readL_length r takes _ q h2]

/-- What is true of each part's reading is true of all. -/
theorem readL_all {takes : List Ty} {Q : Tm → Nat → Tm → Ty → Prop} : ∀ (l : List Tm) (c : Nat) (ps : List (Nat × Tm × Ty)), readL l takes c = some ps → (∀ x, x ∈ l → ∀ c y i, readS x takes c = some (y, i) → Q x c y i) →
    ∀ j (h : j < ps.length) (h' : j < l.length), Q l[j] ps[j].1 ps[j].2.1 ps[j].2.2
  | [], c, ps, h, _, j, hj, h' => by simp at h'
  | x :: r, c, ps, h, hQ, j, hj, h' => by
    obtain ⟨y, i, q, h1, h2, rfl⟩ := readL_cons h
    match j with
    | 0 => exact hQ x (by simp) c y i h1
    | j + 1 => exact readL_all r _ q h2 (fun z hz => hQ z (by simp [hz])) j (by simpa using hj) (by simpa using h')

/-- All that is asked of a good term, and of its parts. -/
def okTm : Tm → Nat → Prop
  | ⟨k, n, t, f, l⟩, ins => okTop 0 (ins : Int) ⟨k, n, t, f, l⟩ = true ∧ ∀ x, x ∈ l → okTm x (if k = 7 then ins + 1 else ins)
theorem okTm_mk {k n : Int} {t f : Ty} {l : List Tm} {ins : Nat} : okTm ⟨k, n, t, f, l⟩ ins ↔ okTop 0 (ins : Int) ⟨k, n, t, f, l⟩ = true ∧ ∀ x, x ∈ l → okTm x (if k = 7 then ins + 1 else ins) := by
  rw [okTm]

theorem bindL_ok {f : Tm → Nat → Option Nat} {Q : Tm → Prop} (hf : ∀ y q q', f y q = some q' → Q y ∧ y.sz + q' = q) : ∀ (l : List Tm) (r r' : Nat), bindL f l r = some r' → (∀ y, y ∈ l → Q y) ∧ (l.map Tm.sz).sum + r' = r
  | [], r, r', h => by simp [bindL] at h; exact ⟨(fun y hy => by cases hy), by simpa using h.symm⟩
  | x :: l, r, r', h => by
    simp only [bindL] at h
    cases hq : f x r with
    | none => rw [hq] at h; cases h
    | some q =>
      rw [hq] at h
      have h1 := hf x r q hq
      have h2 := bindL_ok hf l q r' h
      refine ⟨fun y hy => ?_, by simp; omega⟩
      rcases List.mem_cons.1 hy with rfl | hy
      · exact h1.1
      · exact h2.1 y hy

theorem goodS_ok : ∀ (n : Nat) (ins : Nat) (x : Tm) (r r' : Nat), goodS 0 n (ins : Int) x r = some r' → okTm x ins ∧ x.sz + r' = r
  | 0, _, _, _, _, h => by simp [goodS] at h
  | _ + 1, _, _, 0, _, h => by simp [goodS] at h
  | n + 1, ins, ⟨k, m, t, f, l⟩, r + 1, r', h => by
    simp only [goodS] at h
    split at h
    · rename_i ht
      have hi : insOf k (ins : Int) = ((if k = 7 then ins + 1 else ins : Nat) : Int) := by
        unfold insOf; split <;> simp
      rw [hi] at h
      have h2 := bindL_ok (fun y q q' => goodS_ok n (if k = 7 then ins + 1 else ins) y q q') l r r' h
      exact ⟨okTm_mk.2 ⟨ht, h2.1⟩, by rw [Tm.sz_mk]; omega⟩
    · cases h

theorem goodM_ok {x : Tm} (h : goodM 0 x = true) : okTm x 0 ∧ x.sz ≤ 40 := by
  obtain ⟨r', hr⟩ := Option.isSome_iff_exists.1 h
  have := goodS_ok 40 0 x 40 r' hr
  exact ⟨this.1, by omega⟩

theorem goodY_more : ∀ (n m : Nat) (t : Ty), n ≤ m → goodY n t = true → goodY m t = true
  | 0, _, _, _, h => by simp [goodY] at h
  | n + 1, 0, _, hm, _ => by omega
  | n + 1, m + 1, t, hm, h => by
    rcases goodY_cases h with ⟨k, rfl, hk⟩ | ⟨x, y, rfl, hx, hy⟩
    · rcases hk with rfl | rfl | rfl <;> simp [goodY]
    · simp [goodY, goodY_more n m x (by omega) hx, goodY_more n m y (by omega) hy]

theorem goodY_any (n : Nat) : goodY (n + 1) ⟨0, []⟩ = true := by simp [goodY]
theorem goodY_num (n : Nat) : goodY (n + 1) ⟨1, []⟩ = true := by simp [goodY]
theorem goodY_truth (n : Nat) : goodY (n + 1) ⟨2, []⟩ = true := by simp [goodY]

/-- What okTop asks, one by one. -/
theorem okTop_all {k n : Int} {t f : Ty} {l : List Tm} {ins : Nat} (h : okTop 0 (ins : Int) ⟨k, n, t, f, l⟩ = true) :
    1 ≤ k ∧ k ≤ 9 ∧ l.length = partsOf k ∧ isAnyY f = true ∧ goodY 4 t = true ∧ (tells k = false → isAnyY t = true) ∧ (k = 1 → 0 ≤ n ∧ n < (ins : Int)) := by
  simp only [okTop, okTypes, Bool.and_eq_true, decide_eq_true_eq, beq_iff_eq] at h
  obtain ⟨⟨⟨h1, h2⟩, h3⟩, ⟨h4, h5⟩, h6⟩ := h
  refine ⟨h1, h2, h3, h4, ?_, fun hk => ?_, fun hk => ?_⟩
  · split at h5
    · exact h5
    · rw [isAny_eq h5]; exact goodY_any 3
  · rw [if_neg (by rw [hk]; simp)] at h5; exact h5
  · subst hk
    simp [okNum] at h6
    omega

theorem takesIn_length (k : Int) (t : Ty) (takes : List Ty) : (takesIn k t takes).length = if k = 7 then takes.length + 1 else takes.length := by
  unfold takesIn; split <;> simp

theorem takesIn_good {k : Int} {t : Ty} {takes : List Ty} (ht : goodY 4 t = true) (h : ∀ u, u ∈ takes → goodY 4 u = true) : ∀ u, u ∈ takesIn k t takes → goodY 4 u = true := by
  intro u hu
  unfold takesIn at hu
  split at hu
  · rcases List.mem_cons.1 hu with rfl | hu
    · exact ht
    · exact h u hu
  · exact h u hu

theorem getD_good {m : Nat} {l : List Ty} (h : ∀ u, u ∈ l → goodY m u = true) (hm : 1 ≤ m) (j : Nat) : goodY m (l.getD j ⟨0, []⟩) = true := by
  rw [List.getD_eq_getElem?_getD]
  cases hj : l[j]? with
  | none => obtain ⟨m, rfl⟩ : ∃ q, m = q + 1 := ⟨m - 1, by omega⟩; exact goodY_any m
  | some u => exact h u (List.mem_of_getElem? hj)

/-- The types of a rule are good, and there is one use for each part. -/
theorem rule_good {k n : Int} {t : Ty} {ps takes : List Ty} {i : Ty} {us : List Ty} (m : Nat) (hm : 4 ≤ m) (h1 : 1 ≤ k) (h9 : k ≤ 9) (hl : ps.length = partsOf k) (ht : goodY 4 t = true) (hT : ∀ u, u ∈ takes → goodY 4 u = true) (hp : ∀ u, u ∈ ps → goodY m u = true)
    (h : ruleY k n t ps takes = some (i, us)) : us.length = ps.length ∧ goodY (m + 1) i = true ∧ ∀ u, u ∈ us → goodY (m + 1) u = true := by
  have hk : k = 1 ∨ k = 2 ∨ k = 3 ∨ k = 4 ∨ k = 5 ∨ k = 6 ∨ k = 7 ∨ k = 8 ∨ k = 9 := by omega
  have up : ∀ u, goodY m u = true → goodY (m + 1) u = true := fun u => goodY_more m (m + 1) u (by omega)
  have up4 : ∀ u, goodY 4 u = true → goodY (m + 1) u = true := fun u => goodY_more 4 (m + 1) u (by omega)
  rcases hk with rfl | rfl | rfl | rfl | rfl | rfl | rfl | rfl | rfl
  · simp [ruleY] at h
    obtain ⟨rfl, rfl⟩ := h
    refine ⟨by rw [hl]; rfl, up4 _ ?_, fun u hu => by cases hu⟩
    have := getD_good hT (by omega) n.toNat
    simpa [List.getD_eq_getElem?_getD] using this
  · simp [ruleY] at h
    obtain ⟨rfl, rfl⟩ := h
    exact ⟨by rw [hl]; rfl, goodY_num _, fun u hu => by cases hu⟩
  · simp [ruleY] at h
    obtain ⟨rfl, rfl⟩ := h
    exact ⟨by rw [hl]; rfl, goodY_truth _, fun u hu => by cases hu⟩
  · simp [ruleY] at h
    obtain ⟨rfl, rfl⟩ := h
    exact ⟨by rw [hl]; rfl, goodY_num _, fun u hu => by simp at hu; subst hu; exact goodY_num _⟩
  · simp [ruleY] at h
    obtain ⟨rfl, rfl⟩ := h
    exact ⟨by rw [hl]; rfl, goodY_truth _, fun u hu => by simp at hu; subst hu; exact goodY_num _⟩
  · have h' : ifY ⟨2, []⟩ (ps.getD 1 ⟨0, []⟩) (ps.getD 2 ⟨0, []⟩) = some (i, us) := by simpa [ruleY] using h
    have g1 := getD_good hp (by omega) 1
    have g2 := getD_good hp (by omega) 2
    have gj := (join_facts m _ _ g1 g2).1
    unfold ifY at h'
    split at h'
    · cases h'
      refine ⟨by rw [hl]; rfl, up _ gj, fun u hu => ?_⟩
      simp only [List.mem_cons, List.not_mem_nil, or_false] at hu
      rcases hu with rfl | rfl | rfl
      · exact goodY_truth _
      · exact up _ gj
      · exact up _ gj
    · cases h'
  · have h' : i = ⟨3, [t, ps.getD 0 ⟨0, []⟩]⟩ ∧ us = ps := by
      have : some (Ty.mk 3 [t, ps.getD 0 ⟨0, []⟩], ps) = some (i, us) := by simpa [ruleY] using h
      cases this; exact ⟨rfl, rfl⟩
    obtain ⟨rfl, rfl⟩ := h'
    have g1 := getD_good hp (by omega) 0
    refine ⟨rfl, ?_, fun u hu => up _ (hp u hu)⟩
    rw [goodY, g1, goodY_more 4 m t (by omega) ht]; rfl
  · have h' : callY (ps.getD 0 ⟨0, []⟩) = some (i, us) := by simpa [ruleY] using h
    have g1 := getD_good hp (by omega) 0
    generalize ps.getD 0 ⟨0, []⟩ = q at h' g1
    obtain ⟨m, rfl⟩ : ∃ r, m = r + 1 := ⟨m - 1, by omega⟩
    rcases goodY_cases g1 with ⟨k, rfl, hk⟩ | ⟨x, y, rfl, hx, hy⟩
    · rcases hk with rfl | rfl | rfl
      · simp [callY] at h'
        obtain ⟨rfl, rfl⟩ := h'
        refine ⟨by rw [hl]; rfl, goodY_any _, fun u hu => ?_⟩
        simp only [List.mem_cons, List.not_mem_nil, or_false] at hu
        rcases hu with rfl | rfl
        · simp [goodY]
        · exact goodY_any _
      · simp [callY] at h'
      · simp [callY] at h'
    · simp [callY] at h'
      obtain ⟨rfl, rfl⟩ := h'
      refine ⟨by rw [hl]; rfl, goodY_more m _ _ (by omega) hy, fun u hu => ?_⟩
      simp only [List.mem_cons, List.not_mem_nil, or_false] at hu
      rcases hu with rfl | rfl
      · exact up _ g1
      · exact goodY_more m _ _ (by omega) hx
  · have h' : i = t ∧ us = [t] := by
      have : some (t, [t]) = some (i, us) := by simpa [ruleY] using h
      cases this; exact ⟨rfl, rfl⟩
    obtain ⟨rfl, rfl⟩ := h'
    exact ⟨by rw [hl]; rfl, up4 _ ht, fun u hu => by simp at hu; subst hu; exact up4 _ ht⟩

/-- A part has less nodes. -/
theorem sz_mem : ∀ (l : List Tm) (x : Tm), x ∈ l → x.sz ≤ (l.map Tm.sz).sum
  | [], _, h => by cases h
  | y :: r, x, h => by
    rcases List.mem_cons.1 h with rfl | h
    · simp
    · have := sz_mem r x h
      simp; omega

theorem Tm.sz_pos (x : Tm) : 1 ≤ x.sz := by cases x; rw [Tm.sz_mk]; omega

/-- The type of a good term is good. -/
theorem read_good : ∀ (x : Tm) (takes : List Ty) (c : Nat) (y : Tm) (i : Ty), okTm x takes.length → (∀ u, u ∈ takes → goodY 4 u = true) → readS x takes c = some (y, i) → goodY (x.sz + 4) i = true := by
  intro x
  induction x using Tm.ind with
  | h k n t f l ih =>
    intro takes c y i hok hT h
    obtain ⟨h0, h1⟩ := okTm_mk.1 hok
    obtain ⟨k1, k9, hl, _, ht, _, _⟩ := okTop_all h0
    obtain ⟨ps, us, e1, e2, _, _⟩ := readS_some h
    have hlen := readL_length _ _ _ _ e1
    have hp : ∀ u, u ∈ ps.map (fun p => p.2.2) → goodY ((l.map Tm.sz).sum + 4) u = true := by
      intro u hu
      obtain ⟨j, hj, rfl⟩ := List.getElem_of_mem hu
      have hj' : j < ps.length := by simpa using hj
      have := readL_all (Q := fun x _ _ i => goodY (x.sz + 4) i = true) l _ ps e1 (fun x hx c y i hr => ih x hx _ c y i (by rw [takesIn_length]; exact h1 x hx) (takesIn_good ht hT) hr) j hj' (by omega)
      have hs := sz_mem l l[j] (List.getElem_mem _)
      simpa using goodY_more _ ((l.map Tm.sz).sum + 4) _ (by omega) this
    have := rule_good ((l.map Tm.sz).sum + 4) (by omega) k1 k9 (by simpa using hlen.trans hl) ht (takesIn_good ht hT) hp e2
    rw [Tm.sz_mk]
    exact goodY_more _ _ _ (by omega) this.2.1
end Go.Proofs.YtnddkmccagiclaaGreatDoor

/-
  What check's read and readAll are to answer; rows of readings that a call makes longer; no program's run in it.
-/
namespace Go.Proofs.YtnddkmccagiclaaGreatDoor
open Go.RowKit

/-- The counter. -/
structure CS (R c : Nat) (w : World) : Prop where
  c : w.cell? ⟨R, 0, none⟩ = some (.int .i64 (c : Int))
  f : w.frozen? ⟨R, 0, none⟩ = false

theorem CS.lt {R c : Nat} {w : World} (h : CS R c w) : R < w.heap.size := World.block_lt_of_cell? _ _ h.c
theorem CS.below {R c : Nat} {w w' : World} (h : CS R c w) (hb : Below w.heap.size w w') : CS R c w' :=
  ⟨cell_later hb h.c, (hb.frozen (p := ⟨R, 0, none⟩) h.lt).trans h.f⟩

def rd0 : Value := .agg #[.int .i64 0, .int .i64 0, .int .i64 0, .int .i64 0, .slice none 0 0, .int .i64 0, .slice none 0 0, .slice none 0 0, .int .i64 0, .slice none 0 0]

/-- What read answers. -/
def RdPost (Q : Nat → Prop) (R : Nat) (x : TT) (c : Nat) (takes : List Ty) (w : World) (e : Ending) (w' : World) : Prop :=
  Kept R none w w' ∧ ((readS x.tm takes c = none ∧ e = .returned (.tuple #[.agg #[.int .i64 0, .int .i64 0, .int .i64 0, .int .i64 0, .slice none 0 0, .int .i64 0, .slice none 0 0, .slice none 0 0, .int .i64 0, .slice none 0 0], .bool false])) ∨
    ∃ r : Rd, readS x.tm takes c = some (r.y.tm, r.i.ty) ∧ e = .returned (.tuple #[.agg #[.int .i64 r.n, .int .i64 r.y.k, .int .i64 r.y.n, .int .i64 r.y.t.k, .slice r.y.t.a r.y.t.l.length r.y.t.c, .int .i64 r.y.f.k, .slice r.y.f.a r.y.f.l.length r.y.f.c, .slice r.y.a r.y.l.length r.y.c, .int .i64 r.i.k, .slice r.i.a r.i.l.length r.i.c], .bool true]) ∧
      r.n = (c : Int) ∧ r.y.In w' ∧ r.i.In w' ∧ r.y.Bl Q ∧ r.i.Bl Q ∧ CS R (c + x.sz) w')

/-- What it asks. -/
structure RdPre (Q : Nat → Prop) (R : Nat) (x : TT) (c : Nat) (T : Tr) (w : World) : Prop where
  ok : okTm x.tm T.l.length
  tk : ∀ t, t ∈ T.l → goodT 4 t = true
  rm : c + x.sz ≤ 900 ∧ T.l.length + x.sz ≤ 900
  xi : x.In w
  ti : T.In w
  cs : CS R c w
  xb : x.Bl Q
  tb : T.Bl Q
  nw : ∀ b, w.heap.size ≤ b → Q b
  ne : ∀ b, Q b → b ≠ R

def tri (r : Rd) : Nat × Tm × Ty := (r.n.toNat, r.y.tm, r.i.ty)

theorem readL_append (takes : List Ty) : ∀ (l m : List Tm) (c : Nat), readL (l ++ m) takes c = (readL l takes c).bind fun ps => (readL m takes (c + (l.map Tm.sz).sum)).bind fun qs => some (ps ++ qs)
  | [], m, c => by
    simp only [List.nil_append, readL, Option.bind_some, List.map_nil, List.sum_nil, Nat.add_zero]
    cases readL m takes c <;> rfl
  | x :: r, m, c => by
    simp only [List.cons_append, readL, readL_append takes r m, List.map_cons, List.sum_cons, Nat.add_assoc]
    cases readS x takes c with
    | none => rfl
    | some p =>
      simp only [Option.bind_some]
      cases readL r takes (c + x.sz) with
      | none => rfl
      | some q =>
        simp only [Option.bind_some]
        cases readL m takes (c + (x.sz + (r.map Tm.sz).sum)) <;> rfl

theorem readL_snoc {takes : List Ty} {l : List Tm} {c : Nat} {ps : List (Nat × Tm × Ty)} {x y : Tm} {i : Ty} (h : readL l takes c = some ps) (hx : readS x takes (c + (l.map Tm.sz).sum) = some (y, i)) : readL (l ++ [x]) takes c = some (ps ++ [(c + (l.map Tm.sz).sum, y, i)]) := by
  rw [readL_append, h]
  simp [readL, hx]

theorem readL_stop {takes : List Ty} {l : List Tm} {c : Nat} {x : Tm} {m : List Tm} (hx : readS x takes (c + (l.map Tm.sz).sum) = none) : readL (l ++ x :: m) takes c = none := by
  rw [readL_append]
  cases readL l takes c with
  | none => rfl
  | some ps => simp [readL, hx]

/-! ### Rows of readings -/

def cell10 (r : Rd) : List Value := [.int .i64 r.n, .int .i64 r.y.k, .int .i64 r.y.n, .int .i64 r.y.t.k, .slice r.y.t.a r.y.t.l.length r.y.t.c, .int .i64 r.y.f.k, .slice r.y.f.a r.y.f.l.length r.y.f.c, .slice r.y.a r.y.l.length r.y.c, .int .i64 r.i.k, .slice r.i.a r.i.l.length r.i.c]
def cells10 (rs : List Rd) : List Value := rs.flatMap cell10
theorem cells10_append (a b : List Rd) : cells10 (a ++ b) = cells10 a ++ cells10 b := by simp [cells10]
theorem cells10_one (r : Rd) : cells10 [r] = cell10 r := by simp [cells10]

theorem cells10_at : ∀ (l : List Rd) (j : Nat) (h : j < l.length) (i : Nat), i < 10 → (cells10 l)[j * 10 + i]? = (cell10 l[j])[i]?
  | [], j, h, _, _ => by simp at h
  | x :: r, 0, _, i, hi => by
    have : cells10 (x :: r) = cell10 x ++ cells10 r := by simp [cells10]
    rw [this, List.getElem?_append_left (by simp [cell10]; omega)]
    simp
  | x :: r, j + 1, h, i, hi => by
    have ih := cells10_at r j (by simpa using h) i hi
    have e : cells10 (x :: r) = cell10 x ++ cells10 r := by simp [cells10]
    rw [e, List.getElem?_append_right (by simp [cell10]; omega)]
    have : (j + 1) * 10 + i - (cell10 x).length = j * 10 + i := by simp [cell10]; omega
    rw [this]
    simpa using ih

structure RowR (Q : Nat → Prop) (base : Nat) (v : Value) (rs : List Rd) (w : World) : Prop where
  own : w.ownsRow base 71 10 v rs.length (cells10 rs)
  ins : ∀ r, r ∈ rs → r.y.In w ∧ r.i.In w ∧ r.y.Bl (fun b => Q b ∧ some b ≠ v.ownBlock) ∧ r.i.Bl (fun b => Q b ∧ some b ≠ v.ownBlock)

theorem RowR.nil (Q : Nat → Prop) (base : Nat) (w : World) : RowR Q base (.slice none 0 0) [] w := ⟨World.ownsRow_nil _ _ _ _, fun c h => by cases h⟩

theorem RowR.kept {Q : Nat → Prop} {base R : Nat} {v : Value} {rs : List Rd} {w w' : World} (h : RowR Q base v rs w) (hk : Kept R none w w') (hR : R < base) (hQ : ∀ b, Q b → b ≠ R) : RowR Q base v rs w' := by
  refine ⟨⟨h.own.1, ?_⟩, fun c hc => ?_⟩
  · rcases h.own.2 with hn | ⟨g, cap, cur, hv, hb, hg, rest⟩
    · exact .inl hn
    · exact .inr ⟨g, cap, cur, hv, hb, (hk.block g (Array.getElem?_eq_some_iff.1 hg).1 (by omega) (by simp)).trans hg, rest⟩
  · obtain ⟨h1, h2, h3, h4⟩ := h.ins c hc
    exact ⟨h1.keptR hk (h3.mono fun b hb => hQ b hb.1), h2.keptR hk (h4.mono fun b hb => hQ b hb.1), h3, h4⟩

theorem RowR.below {Q : Nat → Prop} {base : Nat} {v : Value} {rs : List Rd} {w w' : World} (h : RowR Q base v rs w) (hb : Below w.heap.size w w') : RowR Q base v rs w' := by
  refine ⟨⟨h.own.1, ?_⟩, fun c hc => ⟨(h.ins c hc).1.below hb, (h.ins c hc).2.1.below hb, (h.ins c hc).2.2⟩⟩
  rcases h.own.2 with hn | ⟨g, cap, cur, hv, hb', hg, rest⟩
  · exact .inl hn
  · exact .inr ⟨g, cap, cur, hv, hb', (hb.block g (Array.getElem?_eq_some_iff.1 hg).1).trans hg, rest⟩

theorem RowR.lt {Q : Nat → Prop} {base : Nat} {v : Value} {rs : List Rd} {w : World} (h : RowR Q base v rs w) (k : Nat) (hk : v.ownBlock = some k) : base ≤ k ∧ k < w.heap.size := h.own.lt k hk

/-- One more. -/
theorem RowR.step {Q : Nat → Prop} {base : Nat} {v : Value} {rs : List Rd} {w2 w3 : World} {r : Rd} {gg cap1 : Nat} {X : Obj} (h : RowR Q base v rs w2) (yi : r.y.In w2) (ii : r.i.In w2) (yb : r.y.Bl (fun b => Q b ∧ some b ≠ v.ownBlock)) (ib : r.i.Bl (fun b => Q b ∧ some b ≠ v.ownBlock))
    (hown : w3.ownsRow base 71 10 (.slice (some ⟨gg, 0, none⟩) (rs.length + 1) cap1) (rs.length + 1) (cells10 rs ++ cells10 [r])) (hgrow : (w2.alloc X).grownBy w3 v.ownBlock) (hat : v.ownBlock = some gg ∨ gg = w2.heap.size + 1) :
    RowR Q base (.slice (some ⟨gg, 0, none⟩) (rs.length + 1) cap1) (rs ++ [r]) w3 ∧ ∀ k, k < w2.heap.size → some k ≠ v.ownBlock → w3.heap[k]? = w2.heap[k]? := by
  have hblk : ∀ k, k < w2.heap.size → some k ≠ v.ownBlock → w3.heap[k]? = w2.heap[k]? := fun k hk hn => by
    rw [hgrow.block k (by simp; omega) hn]
    exact ((Below.refl _ w2).alloc (Nat.le_refl _) X).block k hk
  refine ⟨⟨by rw [cells10_append, List.length_append, List.length_singleton]; exact hown, fun d hd => ?_⟩, hblk⟩
  have key : d.y.In w2 ∧ d.i.In w2 ∧ d.y.Bl (fun b => Q b ∧ some b ≠ v.ownBlock) ∧ d.i.Bl (fun b => Q b ∧ some b ≠ v.ownBlock) := by
    rcases List.mem_append.1 hd with hd | hd
    · exact h.ins d hd
    · rcases List.mem_singleton.1 hd with rfl
      exact ⟨yi, ii, yb, ib⟩
  have hne : ∀ b, b < w2.heap.size ∧ (Q b ∧ some b ≠ v.ownBlock) → Q b ∧ some b ≠ (Value.slice (some ⟨gg, 0, none⟩) (rs.length + 1) cap1).ownBlock := by
    intro b hb
    refine ⟨hb.2.1, ?_⟩
    show some b ≠ some gg
    rcases hat with e | e
    · rw [← e]; exact hb.2.2
    · simp only [ne_eq, Option.some.injEq]; omega
  have hsame : ∀ b, b < w2.heap.size ∧ (Q b ∧ some b ≠ v.ownBlock) → ∀ i, w3.cell? ⟨b, i, none⟩ = w2.cell? ⟨b, i, none⟩ := fun b hb i =>
    World.cell?_of_block (a := ⟨b, i, none⟩) (hblk b hb.1 hb.2.2)
  have y3 := key.1.bl.and key.2.2.1
  have i3 := key.2.1.bl.and key.2.2.2
  exact ⟨key.1.congr (P := fun b => b < w2.heap.size ∧ (Q b ∧ some b ≠ v.ownBlock)) hsame y3, key.2.1.congr (P := fun b => b < w2.heap.size ∧ (Q b ∧ some b ≠ v.ownBlock)) hsame i3, y3.mono hne, i3.mono hne⟩

/-- A row that the call owns is a row of readings. -/
theorem RowR.list {Q : Nat → Prop} {base : Nat} {v : Value} {rs : List Rd} {w : World} (h : RowR Q base v rs w) : ∃ a c, v = .slice a rs.length c ∧ RL w a rs := by
  rcases h.own.2 with ⟨rfl, h0⟩ | ⟨g, cap, cur, rfl, hg, _⟩
  · have : rs = [] := List.length_eq_zero_iff.1 h0
    subst this
    exact ⟨none, 0, rfl, fun j hj => absurd hj (by simp)⟩
  · refine ⟨_, _, rfl, fun j hj => ⟨g, 0, rfl, ?_, (h.ins _ (List.getElem_mem hj)).1, (h.ins _ (List.getElem_mem hj)).2.1⟩⟩
    have hc : ∀ i, i < 10 → w.cell? ⟨g, 0 + j * 10 + i, none⟩ = _ := fun i hi => by rw [Nat.zero_add, h.own.cellAt (j * 10 + i) (by omega), cells10_at rs j hj i hi]
    exact ⟨hc 0 (by omega), ⟨hc 1 (by omega), hc 2 (by omega), hc 3 (by omega), hc 4 (by omega), hc 5 (by omega), hc 6 (by omega), hc 7 (by omega)⟩, hc 8 (by omega), hc 9 (by omega)⟩

/-- What readAll answers. -/
def RaPost (Q : Nat → Prop) (R : Nat) (l : List TT) (c : Nat) (takes : List Ty) (w : World) (e : Ending) (w' : World) : Prop :=
  Kept R none w w' ∧ ((readL (l.map TT.tm) takes c = none ∧ e = .returned (.tuple #[.slice none 0 0, .bool false])) ∨
    ∃ (rs : List Rd) (a : Option Addr) (cap : Nat), readL (l.map TT.tm) takes c = some (rs.map tri) ∧ e = .returned (.tuple #[.slice a rs.length cap, .bool true]) ∧ (∀ r, r ∈ rs → 0 ≤ r.n) ∧ RL w' a rs ∧ (∀ r, r ∈ rs → r.y.Bl Q ∧ r.i.Bl Q) ∧ CS R (c + (l.map TT.sz).sum) w')
end Go.Proofs.YtnddkmccagiclaaGreatDoor
