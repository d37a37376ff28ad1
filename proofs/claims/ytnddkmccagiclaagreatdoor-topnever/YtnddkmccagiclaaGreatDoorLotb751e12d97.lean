/-
  What the call of check's ruleOf answers, at every kind that a good term has.
-/
import Derived.Test.YtnddkmccagiclaaGreatDoorLotb19f3f36a9
import Derived.Deep.RegionHeld3
import Derived.Deep.LoopGhost
import Derived.Test.YtnddkmccagiclaaGreatDoorLot1ed503618d
import Derived.Test.YtnddkmccagiclaaGreatDoorLotafdfc8828a
namespace Go.Proofs.YtnddkmccagiclaaGreatDoor
open Go.RowKit
/-- The rule of a term: by its kind, number and type, the types of its parts, and what the functions around it take. -/
def ruleY (k n : Int) (t : Ty) (ps takes : List Ty) : Option (Ty × List Ty) :=
  if k = 1 then some (takes.getD n.toNat ⟨0, []⟩, [])
  else if k = 2 then some (⟨1, []⟩, [])
  else if k = 3 then some (⟨2, []⟩, [])
  else if k = 4 then some (⟨1, []⟩, [⟨1, []⟩, ⟨1, []⟩])
  else if k = 5 then some (⟨2, []⟩, [⟨1, []⟩, ⟨1, []⟩])
  else if k = 6 then ifY ⟨2, []⟩ (ps.getD 1 ⟨0, []⟩) (ps.getD 2 ⟨0, []⟩)
  else if k = 7 then some (⟨3, [t, ps.getD 0 ⟨0, []⟩]⟩, ps)
  else if k = 8 then callY (ps.getD 0 ⟨0, []⟩)
  else if k = 9 then some (t, [t])
  else none
theorem bl_one {Q : Nat → Prop} {g c : Nat} {x : Tr} (h : Q g) (hx : x.Bl Q) : (Tr.mk 0 (some ⟨g, 0, none⟩) c [x]).Bl Q := by
  refine Tr.Bl_mk.2 ⟨fun _ y hy => by cases hy; exact h, fun t ht => ?_⟩
  have : t = x := by simpa using ht
  subst this; exact hx
theorem In_one {w : World} {g c : Nat} {x : Tr} (c0 : w.cell? ⟨g, 0, none⟩ = some (.int .i64 x.k)) (c1 : w.cell? ⟨g, 1, none⟩ = some (.slice x.a x.l.length x.c)) (hx : x.In w) : (Tr.mk 0 (some ⟨g, 0, none⟩) c [x]).In w := by
  refine Tr.In_mk.2 ⟨fun j h => ?_, fun t ht => ?_⟩
  · have hj : j = 0 := by simpa using h
    subst hj
    exact ⟨g, 0, rfl, by simpa using c0, by simpa [Tr.sl] using c1⟩
  · have : t = x := by simpa using ht
    subst this; exact hx
theorem ruleOf_any (Q : Nat → Prop) (x : TT) (p T : Tr) (w : World) (h1 : 1 ≤ x.k) (h9 : x.k ≤ 9) (hp : p.l.length = partsOf x.k) (hn : x.k = 1 → 0 ≤ x.n ∧ x.n < (T.l.length : Int))
    (ht : x.t.In w) (bt : x.t.Bl Q) (ip : p.In w) (bp : p.Bl Q) (iT : T.In w) (bT : T.Bl Q) (hok : ∀ t, t ∈ p.l → t.right ∧ t.hgt ≤ 1000 ∧ t.sm) (hQ : ∀ b, w.heap.size ≤ b → Q b) :
    Calls Tryz.prog 65 #[.agg #[.int .i64 x.k, .int .i64 x.n, .int .i64 x.t.k, .slice x.t.a x.t.l.length x.t.c, .int .i64 x.f.k, .slice x.f.a x.f.l.length x.f.c, .slice x.a x.l.length x.c], .slice p.a p.l.length p.c, .slice T.a T.l.length T.c] w (RuOut Q w (ruleY x.k x.n x.t.ty (p.l.map Tr.ty) (T.l.map Tr.ty))) := by
  have hk : x.k = 1 ∨ x.k = 2 ∨ x.k = 3 ∨ x.k = 4 ∨ x.k = 5 ∨ x.k = 6 ∨ x.k = 7 ∨ x.k = 8 ∨ x.k = 9 := by omega
  rcases hk with e | e | e | e | e | e | e | e | e
  · obtain ⟨m, hm⟩ : ∃ m : Nat, x.n = (m : Int) := ⟨x.n.toNat, by have := hn e; omega⟩
    have hlt : m < T.l.length := by have := hn e; omega
    obtain ⟨b, o, ea, c0, c1, hi⟩ := iT.part m hlt
    have hbt : T.l[m].Bl Q := by
      obtain ⟨k, a, c, l⟩ := T
      exact (Tr.Bl_mk.1 bT).2 _ (List.getElem_mem hlt)
    rw [e, hm, ea]
    refine (ruleOf_1 x m hm p.a p.l.length p.c b o T.l.length T.c hlt T.l[m] w c0 c1).mono ?_
    rintro e w' ⟨rfl, hb⟩
    exact ⟨hb, .inr ⟨T.l[m], leaf 0, by simp [ruleY, leaf, hlt], rfl, hi.below hb, leaf_in _ _, hbt, leaf_bl _ _⟩⟩
  · rw [e]
    refine (ruleOf_2 x p.a T.a p.l.length p.c T.l.length T.c w).mono ?_
    rintro e w' ⟨rfl, hb⟩
    exact ⟨hb, .inr ⟨leaf 1, leaf 0, by simp [ruleY, leaf, Tr.ty_mk], rfl, leaf_in _ _, leaf_in _ _, leaf_bl _ _, leaf_bl _ _⟩⟩
  · rw [e]
    refine (ruleOf_3 x p.a T.a p.l.length p.c T.l.length T.c w).mono ?_
    rintro e w' ⟨rfl, hb⟩
    exact ⟨hb, .inr ⟨leaf 2, leaf 0, by simp [ruleY, leaf, Tr.ty_mk], rfl, leaf_in _ _, leaf_in _ _, leaf_bl _ _, leaf_bl _ _⟩⟩
  · rw [e]
    refine (ruleOf_4 x p.a T.a p.l.length p.c T.l.length T.c w).mono ?_
    rintro e w' ⟨g, hg, rfl, c0, c1, c2, c3, hb⟩
    exact ⟨hb, .inr ⟨leaf 1, ⟨0, some ⟨g, 0, none⟩, 2, [leaf 1, leaf 1]⟩, by simp [ruleY, leaf, Tr.ty_mk], rfl, leaf_in _ _, Tr.In_two c0 c1 c2 c3 (leaf_in _ _) (leaf_in _ _), leaf_bl _ _, Tr.Bl_two (hQ g hg) (leaf_bl _ _) (leaf_bl _ _)⟩⟩
  · rw [e]
    refine (ruleOf_5 x p.a T.a p.l.length p.c T.l.length T.c w).mono ?_
    rintro e w' ⟨g, hg, rfl, c0, c1, c2, c3, hb⟩
    exact ⟨hb, .inr ⟨leaf 2, ⟨0, some ⟨g, 0, none⟩, 2, [leaf 1, leaf 1]⟩, by simp [ruleY, leaf, Tr.ty_mk], rfl, leaf_in _ _, Tr.In_two c0 c1 c2 c3 (leaf_in _ _) (leaf_in _ _), leaf_bl _ _, Tr.Bl_two (hQ g hg) (leaf_bl _ _) (leaf_bl _ _)⟩⟩
  · have hl : p.l.length = 3 := by rw [hp, e]; rfl
    obtain ⟨b, o, ea, c0, c1, hi1⟩ := ip.part 1 (by omega)
    obtain ⟨b', o', eb, d0, d1, hi2⟩ := ip.part 2 (by omega)
    rw [ea] at eb
    cases eb
    have o1 := hok _ (List.getElem_mem (show 1 < p.l.length by omega))
    have o2 := hok _ (List.getElem_mem (show 2 < p.l.length by omega))
    have he : ruleY 6 x.n x.t.ty (p.l.map Tr.ty) (T.l.map Tr.ty) = ifY ⟨2, []⟩ (p.l[1]'(by omega)).ty (p.l[2]'(by omega)).ty := by
      simp [ruleY, hl]
    rw [e, ea, he]
    exact ruleOf_6 Q x _ _ b o p.l.length p.c T.a T.l.length T.c w (by omega) c0 c1 d0 d1 hi1 hi2 o1.1 o2.1 o1.2.1 o1.2.2 hQ
  · have hl : p.l.length = 1 := by rw [hp, e]; rfl
    obtain ⟨q, hq⟩ : ∃ q, p.l = [q] := List.length_eq_one_iff.1 hl
    obtain ⟨b, o, ea, c0, c1, hi⟩ := ip.part 0 (by omega)
    have hq0 : p.l[0]'(by omega) = q := by simp [hq]
    rw [hq0] at c0 c1 hi
    have hbp : q.Bl Q ∧ Q b := by
      obtain ⟨k, a, c, l⟩ := p
      dsimp only at hq ea
      subst hq ea
      exact ⟨(Tr.Bl_mk.1 bp).2 _ (by simp), (Tr.Bl_mk.1 bp).1 (by simp) _ rfl⟩
    have he : ruleY 7 x.n x.t.ty (p.l.map Tr.ty) (T.l.map Tr.ty) = some (⟨3, [x.t.ty, q.ty]⟩, [q.ty]) := by
      simp [ruleY, hq]
    rw [e, ea, he, hl]
    exact ruleOf_7 Q x q b o p.c T.a T.l.length T.c w (by simpa using c0) (by simpa using c1) hi ht hbp.1 bt hbp.2 hQ
  · have hl : p.l.length = 2 := by rw [hp, e]; rfl
    obtain ⟨b, o, ea, c0, c1, hi⟩ := ip.part 0 (by omega)
    have o1 := hok _ (List.getElem_mem (show 0 < p.l.length by omega))
    have hbp : (p.l[0]'(by omega)).Bl Q := by
      obtain ⟨k, a, c, l⟩ := p
      exact (Tr.Bl_mk.1 bp).2 _ (List.getElem_mem (by dsimp only at hl; omega))
    have he : ruleY 8 x.n x.t.ty (p.l.map Tr.ty) (T.l.map Tr.ty) = callY (p.l[0]'(by omega)).ty := by
      simp [ruleY, hl]
    rw [e, ea, he]
    exact ruleOf_8 Q x _ b o p.l.length p.c T.a T.l.length T.c w (by omega) (by simpa using c0) (by simpa using c1) hi o1.1 hQ hbp
  · rw [e]
    refine (ruleOf_9 x p.a T.a p.l.length p.c T.l.length T.c w).mono ?_
    rintro e w' ⟨g, hg, rfl, c0, c1, hb⟩
    exact ⟨hb, .inr ⟨x.t, ⟨0, some ⟨g, 0, none⟩, 1, [x.t]⟩, by simp [ruleY], rfl, ht.below hb, In_one c0 c1 (ht.below hb), bt, bl_one (hQ g hg) bt⟩⟩
end Go.Proofs.YtnddkmccagiclaaGreatDoor

/-
  Readings (a number, a term, a type) and rows of them; what the call of check's allFit answers.
-/
namespace Go.Proofs.YtnddkmccagiclaaGreatDoor
open Go.RowKit
structure Rd where
  n : Int
  y : TT
  i : Tr
/-- A reading's ten cells. -/
structure At10 (w : World) (b o : Nat) (r : Rd) : Prop where
  n : w.cell? ⟨b, o, none⟩ = some (.int .i64 r.n)
  y : At7 w b (o + 1) r.y
  k : w.cell? ⟨b, o + 8, none⟩ = some (.int .i64 r.i.k)
  l : w.cell? ⟨b, o + 9, none⟩ = some (.slice r.i.a r.i.l.length r.i.c)
theorem At10.below {w w' : World} {b o : Nat} {r : Rd} (hb : Below w.heap.size w w') (h : At10 w b o r) : At10 w' b o r :=
  ⟨cell_later hb h.n, h.y.below hb, cell_later hb h.k, cell_later hb h.l⟩
/-- A row of readings lies in the world. -/
def RL (w : World) (a : Option Addr) (rs : List Rd) : Prop :=
  ∀ j (h : j < rs.length), ∃ b o, a = some ⟨b, o, none⟩ ∧ At10 w b (o + j * 10) rs[j] ∧ rs[j].y.In w ∧ rs[j].i.In w
theorem RL.below {w w' : World} {a : Option Addr} {rs : List Rd} (hb : Below w.heap.size w w') (h : RL w a rs) : RL w' a rs := by
  intro j hj
  obtain ⟨b, o, e, h1, h2, h3⟩ := h j hj
  exact ⟨b, o, e, h1.below hb, h2.below hb, h3.below hb⟩
def fitL : List Ty → List Ty → Bool
  | x :: r, y :: s => relY escFits x y && fitL r s
  | _, _ => true
theorem fitL_all : ∀ (l m : List Ty), (∀ j (h : j < l.length) (h' : j < m.length), relY escFits l[j] m[j] = true) → fitL l m = true
  | [], _, _ => by simp [fitL]
  | _ :: _, [], _ => by simp [fitL]
  | x :: r, y :: s, h => by
    simp only [fitL, Bool.and_eq_true]
    exact ⟨h 0 (by simp) (by simp), fitL_all r s fun j h1 h2 => h (j + 1) (by simpa using h1) (by simpa using h2)⟩
theorem fitL_not : ∀ (l m : List Ty) (j : Nat) (h : j < l.length) (h' : j < m.length), relY escFits l[j] m[j] = false → fitL l m = false
  | [], _, _, h, _, _ => by simp at h
  | _ :: _, [], _, _, h', _ => by simp at h'
  | x :: r, y :: s, 0, _, _, e => by simp only [List.getElem_cons_zero] at e; simp [fitL, e]
  | x :: r, y :: s, j + 1, h, h', e => by simp only [fitL, fitL_not r s j (by simpa using h) (by simpa using h') (by simpa using e), Bool.and_false]
set_option maxRecDepth 20000 in
set_option maxHeartbeats 1000000 in
/-- allFit. -/
theorem allFit_any (rs : List Rd) (a : Option Addr) (c : Nat) (U : Tr) (w : World) (hr : RL w a rs) (hU : U.In w) (hl : rs.length = U.l.length) (h3 : rs.length ≤ 1000) (hok : ∀ r, r ∈ rs → r.i.hgt ≤ 1000 ∧ r.i.sm) :
    Calls Tryz.prog 67 #[.slice a rs.length c, .slice U.a U.l.length U.c] w fun e w' => e = .returned (.bool (fitL (rs.map fun r => r.i.ty) (U.l.map Tr.ty))) ∧ Below w.heap.size w w' := by
  have HF : Hid (∀ j (h : j < rs.length) (h' : j < U.l.length) (W : World), rs[j].i.In W → U.l[j].In W → Calls Tryz.prog 105 #[.agg #[.int .i64 rs[j].i.k, .slice rs[j].i.a rs[j].i.l.length rs[j].i.c], .agg #[.int .i64 U.l[j].k, .slice U.l[j].a U.l[j].l.length U.l[j].c]] W fun e w' => e = .returned (.bool (relY escFits rs[j].i.ty U.l[j].ty)) ∧ Below W.heap.size W w') :=
    fun j h h' W h1 h2 => fits_whole _ _ W h1 h2 (hok _ (List.getElem_mem h)).1 (hok _ (List.getElem_mem h)).2
  have HR : Hid (RL w a rs) := hr
  have HU : Hid (U.In w) := hU
  have HL : Hid (rs.length = U.l.length) := hl
  clear hr hU hl hok
  go_enter Tryz.func67, Tryz.ntmps67
  go_wp2_with fail
  go_loopg [9] rs.length (fun g i wr => ∃ (j : Nat), g + j = rs.length ∧ i = .int .i64 (j : Int) ∧ Hid (Below w.heap.size w wr ∧ ∀ q (h : q < rs.length) (h' : q < U.l.length), q < j → relY escFits rs[q].i.ty U.l[q].ty = true))
  case atStart => exact ⟨0, by omega, rfl, Below.refl _ _, fun q _ _ h => absurd h (by omega)⟩
  case round =>
    obtain ⟨j, hj, rfl, HQ⟩ := hrel
    by_cases hlt : j < rs.length
    · have hlt' : j < U.l.length := HL.out ▸ hlt
      obtain ⟨b, o, ea, h10, hy, hi⟩ := HR.out j hlt
      obtain ⟨b', o', eb, u0, u1, hu⟩ := HU.out.part j hlt'
      have hb := HQ.out.1
      have h11 := h10.below hb
      obtain ⟨d0, ⟨d1, d2, d3, d4, d5, d6, d7⟩, d8, d9⟩ := h11
      replace u0 := cell_later hb u0
      replace u1 := cell_later hb u1
      have i1 : (j : Int) < (rs.length : Int) := by omega
      have i2 : (j : Int) < (U.l.length : Int) := by omega
      have i0 : (0 : Int) ≤ (j : Int) := by omega
      have HEA : Hid (a = some ⟨b, o, none⟩) := ea
      have HEB : Hid (U.a = some ⟨b', o', none⟩) := eb
      rw [ea, eb]
      clear ea eb
      have hB0 : (wr.alloc (.cells #[.int .i64 rs[j].n, .int .i64 rs[j].y.k, .int .i64 rs[j].y.n, .int .i64 rs[j].y.t.k, .slice rs[j].y.t.a rs[j].y.t.l.length rs[j].y.t.c, .int .i64 rs[j].y.f.k, .slice rs[j].y.f.a rs[j].y.f.l.length rs[j].y.f.c, .slice rs[j].y.a rs[j].y.l.length rs[j].y.c, .int .i64 rs[j].i.k, .slice rs[j].i.a rs[j].i.l.length rs[j].i.c] 71)).cell? ⟨wr.heap.size, 8, none⟩ = some (.int .i64 rs[j].i.k) := by simp [go_sem]
      have hB1 : (wr.alloc (.cells #[.int .i64 rs[j].n, .int .i64 rs[j].y.k, .int .i64 rs[j].y.n, .int .i64 rs[j].y.t.k, .slice rs[j].y.t.a rs[j].y.t.l.length rs[j].y.t.c, .int .i64 rs[j].y.f.k, .slice rs[j].y.f.a rs[j].y.f.l.length rs[j].y.f.c, .slice rs[j].y.a rs[j].y.l.length rs[j].y.c, .int .i64 rs[j].i.k, .slice rs[j].i.a rs[j].i.l.length rs[j].i.c] 71)).cell? ⟨wr.heap.size, 9, none⟩ = some (.slice rs[j].i.a rs[j].i.l.length rs[j].i.c) := by simp [go_sem]
      have hbA : Below wr.heap.size wr (wr.alloc (.cells #[.int .i64 rs[j].n, .int .i64 rs[j].y.k, .int .i64 rs[j].y.n, .int .i64 rs[j].y.t.k, .slice rs[j].y.t.a rs[j].y.t.l.length rs[j].y.t.c, .int .i64 rs[j].y.f.k, .slice rs[j].y.f.a rs[j].y.f.l.length rs[j].y.f.c, .slice rs[j].y.a rs[j].y.l.length rs[j].y.c, .int .i64 rs[j].i.k, .slice rs[j].i.a rs[j].i.l.length rs[j].i.c] 71)) := (Below.refl _ _).alloc (Nat.le_refl _) _
      have v0 := cell_later hbA u0
      have v1 := cell_later hbA u1
      have hbE : Below w.heap.size w (wr.alloc (.cells #[.int .i64 rs[j].n, .int .i64 rs[j].y.k, .int .i64 rs[j].y.n, .int .i64 rs[j].y.t.k, .slice rs[j].y.t.a rs[j].y.t.l.length rs[j].y.t.c, .int .i64 rs[j].y.f.k, .slice rs[j].y.f.a rs[j].y.f.l.length rs[j].y.f.c, .slice rs[j].y.a rs[j].y.l.length rs[j].y.c, .int .i64 rs[j].i.k, .slice rs[j].i.a rs[j].i.l.length rs[j].i.c] 71)) := hb.trans (hbA.mono hb.size)
      have hi1 := hi.below hbE
      have hu1 := hu.below hbE
      have HFC := HF.out j hlt hlt'
      clear hbA u0 u1 hi hu h10 hy
      obtain ⟨r, hrr⟩ : ∃ r, relY escFits rs[j].i.ty U.l[j].ty = r := ⟨_, rfl⟩
      rw [hrr] at HFC
      have HC : Hid (∀ (W : World), rs[j].i.In W → U.l[j].In W → Calls Tryz.prog 105 #[.agg #[.int .i64 rs[j].i.k, .slice rs[j].i.a rs[j].i.l.length rs[j].i.c], .agg #[.int .i64 U.l[j].k, .slice U.l[j].a U.l[j].l.length U.l[j].c]] W fun e w' => e = .returned (.bool r) ∧ Below W.heap.size W w') := HFC
      have HRR : Hid (relY escFits rs[j].i.ty U.l[j].ty = r) := hrr
      have HI : Hid (rs[j].i.In (wr.alloc (.cells #[.int .i64 rs[j].n, .int .i64 rs[j].y.k, .int .i64 rs[j].y.n, .int .i64 rs[j].y.t.k, .slice rs[j].y.t.a rs[j].y.t.l.length rs[j].y.t.c, .int .i64 rs[j].y.f.k, .slice rs[j].y.f.a rs[j].y.f.l.length rs[j].y.f.c, .slice rs[j].y.a rs[j].y.l.length rs[j].y.c, .int .i64 rs[j].i.k, .slice rs[j].i.a rs[j].i.l.length rs[j].i.c] 71)) ∧ U.l[j].In (wr.alloc (.cells #[.int .i64 rs[j].n, .int .i64 rs[j].y.k, .int .i64 rs[j].y.n, .int .i64 rs[j].y.t.k, .slice rs[j].y.t.a rs[j].y.t.l.length rs[j].y.t.c, .int .i64 rs[j].y.f.k, .slice rs[j].y.f.a rs[j].y.f.l.length rs[j].y.f.c, .slice rs[j].y.a rs[j].y.l.length rs[j].y.c, .int .i64 rs[j].i.k, .slice rs[j].i.a rs[j].i.l.length rs[j].i.c] 71)) ∧ Below w.heap.size w (wr.alloc (.cells #[.int .i64 rs[j].n, .int .i64 rs[j].y.k, .int .i64 rs[j].y.n, .int .i64 rs[j].y.t.k, .slice rs[j].y.t.a rs[j].y.t.l.length rs[j].y.t.c, .int .i64 rs[j].y.f.k, .slice rs[j].y.f.a rs[j].y.f.l.length rs[j].y.f.c, .slice rs[j].y.a rs[j].y.l.length rs[j].y.c, .int .i64 rs[j].i.k, .slice rs[j].i.a rs[j].i.l.length rs[j].i.c] 71))) := ⟨hi1, hu1, hbE⟩
      clear HFC hrr hi1 hu1 hbE
      go_wp2_with fail
      clear d0 d1 d2 d3 d4 d5 d6 d7 d8 d9
      generalize (wr.alloc (.cells #[.int .i64 rs[j].n, .int .i64 rs[j].y.k, .int .i64 rs[j].y.n, .int .i64 rs[j].y.t.k, .slice rs[j].y.t.a rs[j].y.t.l.length rs[j].y.t.c, .int .i64 rs[j].y.f.k, .slice rs[j].y.f.a rs[j].y.f.l.length rs[j].y.f.c, .slice rs[j].y.a rs[j].y.l.length rs[j].y.c, .int .i64 rs[j].i.k, .slice rs[j].i.a rs[j].i.l.length rs[j].i.c] 71)) = WA at *
      go_region_held3 (fun w' => w'.cell? ⟨wr.heap.size, 8, none⟩ = some (.int .i64 rs[j].i.k) ∧ w'.cell? ⟨wr.heap.size, 9, none⟩ = some (.slice rs[j].i.a rs[j].i.l.length rs[j].i.c) ∧ w'.cell? ⟨b', o' + j * 2, none⟩ = some (.int .i64 U.l[j].k) ∧ w'.cell? ⟨b', o' + j * 2 + 1, none⟩ = some (.slice U.l[j].a U.l[j].l.length U.l[j].c)) (first | exact ⟨cell_later hb2 hB0, cell_later hb2 hB1, cell_later hb2 v0, cell_later hb2 v1⟩ | go_keep) (first | (go_at_call 105; refine (HC.out _ (HI.out.1.below ((Below.refl _ _).drew)) (HI.out.2.1.below ((Below.refl _ _).drew))).mono ?_; rintro e w2 ⟨rfl, hb2⟩))
      have hbr2 : Below w.heap.size w w2 := HI.out.2.2.drew.trans (hb2.mono HI.out.2.2.size)
      cases r
      · have HE : Hid (fitL (rs.map fun r => r.i.ty) (U.l.map Tr.ty) = false ∧ Below w.heap.size w w2) := ⟨fitL_not _ _ j (by simpa using hlt) (by simpa using hlt') (by simpa using HRR.out), hbr2⟩
        clear hb2 hbr2 HI HQ hB0 hB1 v0 v1
        go_wp2_with fail
        go_ret
        exact ⟨ret_bool HE.out.1.symm, HE.out.2⟩
      · have HN : Hid (Below w.heap.size w w2 ∧ ∀ q (h : q < rs.length) (h' : q < U.l.length), q < j + 1 → relY escFits rs[q].i.ty U.l[q].ty = true) := by
          refine ⟨hbr2, fun q h h' hq => ?_⟩
          by_cases e : q = j
          · subst e; exact HRR.out
          · exact HQ.out.2 q h h' (by omega)
        clear hb2 hbr2 HI HQ hB0 hB1 v0 v1
        go_wp2_with fail
        rw [← HEA.out, ← HEB.out]
        go_roundg (rs.length - (j + 1))
        case measure => omega
        case rel => exact ⟨j + 1, by omega, by go_num, HN⟩
    · have HE : Hid (fitL (rs.map fun r => r.i.ty) (U.l.map Tr.ty) = true ∧ Below w.heap.size w wr) :=
        ⟨fitL_all _ _ fun q h h' => by simpa using HQ.out.2 q (by simpa using h) (by simpa using h') (by have : q < rs.length := (by simpa using h); omega), HQ.out.1⟩
      clear HQ
      go_wp2_with fail
      go_ret
      exact ⟨ret_bool HE.out.1.symm, HE.out.2⟩
end Go.Proofs.YtnddkmccagiclaaGreatDoor

/-
  What the call of check's cast answers: the term as it is, or a cast about it.
-/
namespace Go.Proofs.YtnddkmccagiclaaGreatDoor
open Go.RowKit
def castY (n : Int) (x : Tm) (i u : Ty) : Tm := if relY escSame i u then x else ⟨10, n, u, i, [x]⟩
/-- Behind the entry: the reading, what it is used as, the place of the answer. -/
structure CB (H : Nat) (r : Rd) (u : Tr) (W : World) : Prop where
  p0 : W.cell? ⟨H, 0, none⟩ = some (.int .i64 r.n)
  p1 : W.cell? ⟨H, 1, none⟩ = some (.int .i64 r.y.k)
  p2 : W.cell? ⟨H, 2, none⟩ = some (.int .i64 r.y.n)
  p3 : W.cell? ⟨H, 3, none⟩ = some (.int .i64 r.y.t.k)
  p4 : W.cell? ⟨H, 4, none⟩ = some (.slice r.y.t.a r.y.t.l.length r.y.t.c)
  p5 : W.cell? ⟨H, 5, none⟩ = some (.int .i64 r.y.f.k)
  p6 : W.cell? ⟨H, 6, none⟩ = some (.slice r.y.f.a r.y.f.l.length r.y.f.c)
  p7 : W.cell? ⟨H, 7, none⟩ = some (.slice r.y.a r.y.l.length r.y.c)
  p8 : W.cell? ⟨H, 8, none⟩ = some (.int .i64 r.i.k)
  p9 : W.cell? ⟨H, 9, none⟩ = some (.slice r.i.a r.i.l.length r.i.c)
  u0 : W.cell? ⟨H + 1, 0, none⟩ = some (.int .i64 u.k)
  u1 : W.cell? ⟨H + 1, 1, none⟩ = some (.slice u.a u.l.length u.c)
  z0 : W.cell? ⟨H + 1 + 1, 0, none⟩ = some (.int .i64 0)
  z1 : W.cell? ⟨H + 1 + 1, 1, none⟩ = some (.int .i64 0)
  z2 : W.cell? ⟨H + 1 + 1, 2, none⟩ = some (.int .i64 0)
  z3 : W.cell? ⟨H + 1 + 1, 3, none⟩ = some (.slice none 0 0)
  z4 : W.cell? ⟨H + 1 + 1, 4, none⟩ = some (.int .i64 0)
  z5 : W.cell? ⟨H + 1 + 1, 5, none⟩ = some (.slice none 0 0)
  z6 : W.cell? ⟨H + 1 + 1, 6, none⟩ = some (.slice none 0 0)
  fz : ∀ i, W.frozen? ⟨H + 1 + 1, i, none⟩ = false
  iu : u.In W
  ii : r.i.In W
  iy : r.y.In W
theorem CB.below {H : Nat} {r : Rd} {u : Tr} {W W' : World} (h : CB H r u W) (hb : Below W.heap.size W W') : CB H r u W' :=
  ⟨cell_later hb h.p0, cell_later hb h.p1, cell_later hb h.p2, cell_later hb h.p3, cell_later hb h.p4, cell_later hb h.p5, cell_later hb h.p6, cell_later hb h.p7, cell_later hb h.p8, cell_later hb h.p9, cell_later hb h.u0, cell_later hb h.u1, cell_later hb h.z0, cell_later hb h.z1, cell_later hb h.z2, cell_later hb h.z3, cell_later hb h.z4, cell_later hb h.z5, cell_later hb h.z6, fun i => (hb.frozen (p := ⟨H + 1 + 1, i, none⟩) (show (⟨H + 1 + 1, 0, none⟩ : Addr).block < W.heap.size from World.block_lt_of_cell? _ _ h.z0)).trans (h.fz i), h.iu.below hb, h.ii.below hb, h.iy.below hb⟩
def CPost (r : Rd) (u : Tr) (w : World) (e : Ending) (w' : World) : Prop :=
  ∃ z : TT, e = .returned (.agg #[.int .i64 z.k, .int .i64 z.n, .int .i64 z.t.k, .slice z.t.a z.t.l.length z.t.c, .int .i64 z.f.k, .slice z.f.a z.f.l.length z.f.c, .slice z.a z.l.length z.c]) ∧ z.tm = castY r.n r.y.tm r.i.ty u.ty ∧ z.In w' ∧ (∀ Q : Nat → Prop, (∀ b, w.heap.size ≤ b → Q b) → r.y.Bl Q → z.Bl Q) ∧ Below w.heap.size w w'
theorem cb_start (r : Rd) (u : Tr) (w : World) (hu : u.In w) (hi : r.i.In w) (hy : r.y.In w) : CB w.heap.size r u (((w.alloc (Obj.cells #[.int .i64 r.n, .int .i64 r.y.k, .int .i64 r.y.n, .int .i64 r.y.t.k, .slice r.y.t.a r.y.t.l.length r.y.t.c, .int .i64 r.y.f.k, .slice r.y.f.a r.y.f.l.length r.y.f.c, .slice r.y.a r.y.l.length r.y.c, .int .i64 r.i.k, .slice r.i.a r.i.l.length r.i.c] 71)).alloc (Obj.cells #[.int .i64 u.k, .slice u.a u.l.length u.c] 24)).alloc (Obj.cells #[.int .i64 0, .int .i64 0, .int .i64 0, .slice none 0 0, .int .i64 0, .slice none 0 0, .slice none 0 0] 27)) ∧ Below w.heap.size w (((w.alloc (Obj.cells #[.int .i64 r.n, .int .i64 r.y.k, .int .i64 r.y.n, .int .i64 r.y.t.k, .slice r.y.t.a r.y.t.l.length r.y.t.c, .int .i64 r.y.f.k, .slice r.y.f.a r.y.f.l.length r.y.f.c, .slice r.y.a r.y.l.length r.y.c, .int .i64 r.i.k, .slice r.i.a r.i.l.length r.i.c] 71)).alloc (Obj.cells #[.int .i64 u.k, .slice u.a u.l.length u.c] 24)).alloc (Obj.cells #[.int .i64 0, .int .i64 0, .int .i64 0, .slice none 0 0, .int .i64 0, .slice none 0 0, .slice none 0 0] 27)) := by
  have hb : Below w.heap.size w (((w.alloc (Obj.cells #[.int .i64 r.n, .int .i64 r.y.k, .int .i64 r.y.n, .int .i64 r.y.t.k, .slice r.y.t.a r.y.t.l.length r.y.t.c, .int .i64 r.y.f.k, .slice r.y.f.a r.y.f.l.length r.y.f.c, .slice r.y.a r.y.l.length r.y.c, .int .i64 r.i.k, .slice r.i.a r.i.l.length r.i.c] 71)).alloc (Obj.cells #[.int .i64 u.k, .slice u.a u.l.length u.c] 24)).alloc (Obj.cells #[.int .i64 0, .int .i64 0, .int .i64 0, .slice none 0 0, .int .i64 0, .slice none 0 0, .slice none 0 0] 27)) := (((Below.refl _ _).alloc (Nat.le_refl _) _).alloc (by simp) _).alloc (by simp; omega) _
  refine ⟨⟨?_, ?_, ?_, ?_, ?_, ?_, ?_, ?_, ?_, ?_, ?_, ?_, ?_, ?_, ?_, ?_, ?_, ?_, ?_, ?_, hu.below hb, hi.below hb, hy.below hb⟩, hb⟩
  all_goals simp [go_sem]
set_option maxRecDepth 20000 in
set_option maxHeartbeats 1000000 in
theorem cast_same (r : Rd) (u : Tr) (w : World) (hu : u.In w) (hi : r.i.In w) (hy : r.y.In w) (hh : r.i.hgt ≤ 1000) (hs : r.i.sm) (hr : relY escSame r.i.ty u.ty = true) :
    Calls Tryz.prog 106 #[.agg #[.int .i64 r.n, .int .i64 r.y.k, .int .i64 r.y.n, .int .i64 r.y.t.k, .slice r.y.t.a r.y.t.l.length r.y.t.c, .int .i64 r.y.f.k, .slice r.y.f.a r.y.f.l.length r.y.f.c, .slice r.y.a r.y.l.length r.y.c, .int .i64 r.i.k, .slice r.i.a r.i.l.length r.i.c], .agg #[.int .i64 u.k, .slice u.a u.l.length u.c]] w (CPost r u w) := by
  obtain ⟨hc, hb⟩ := cb_start r u w hu hi hy
  obtain ⟨W0, hW0⟩ : ∃ W0, W0 = ((w.alloc (Obj.cells #[.int .i64 r.n, .int .i64 r.y.k, .int .i64 r.y.n, .int .i64 r.y.t.k, .slice r.y.t.a r.y.t.l.length r.y.t.c, .int .i64 r.y.f.k, .slice r.y.f.a r.y.f.l.length r.y.f.c, .slice r.y.a r.y.l.length r.y.c, .int .i64 r.i.k, .slice r.i.a r.i.l.length r.i.c] 71)).alloc (Obj.cells #[.int .i64 u.k, .slice u.a u.l.length u.c] 24)).alloc (Obj.cells #[.int .i64 0, .int .i64 0, .int .i64 0, .slice none 0 0, .int .i64 0, .slice none 0 0, .slice none 0 0] 27) := ⟨_, rfl⟩
  rw [← hW0] at hc hb
  have HS : Hid (Calls Tryz.prog 48 #[.agg #[.int .i64 r.i.k, .slice r.i.a r.i.l.length r.i.c], .agg #[.int .i64 u.k, .slice u.a u.l.length u.c]] W0 fun e w' => e = .returned (.bool true) ∧ Below W0.heap.size W0 w') := by
    have := same_whole r.i u W0 hc.ii hc.iu hh hs
    rw [hr] at this
    exact this
  have HB : Hid (CB w.heap.size r u W0 ∧ Below w.heap.size w W0) := ⟨hc, hb⟩
  have HT : Hid (castY r.n r.y.tm r.i.ty u.ty = r.y.tm) := by simp [Hid, castY, hr]
  have HY : Hid (r.y.Bl (· < w.heap.size)) := hy.bl
  clear hc hb hu hi hy hh hs hr
  go_enter Tryz.func106, Tryz.ntmps106
  go_wp2_with fail
  rw [← hW0]
  clear hW0
  refine HS.out.mono ?_
  rintro e w1 ⟨rfl, h1⟩
  have hc1 := HB.out.1.below h1
  have lz : w.heap.size + 1 + 1 < w1.heap.size := World.block_lt_of_cell? _ _ hc1.z0
  have hbw : Below w.heap.size w w1 := HB.out.2.trans (h1.mono HB.out.2.size)
  have hbx : Box7 w1 (w.heap.size + 1 + 1) (tleaf 0 0) := ⟨⟨hc1.z0, hc1.z1, hc1.z2, hc1.z3, hc1.z4, hc1.z5, hc1.z6⟩, fun i _ => hc1.fz i⟩
  have h7 := (put7_box (x := r.y) hbx).at7
  obtain ⟨e0, e1, e2, e3, e4, e5, e6⟩ := h7
  have HE : Hid (r.y.In (put7 w1 (w.heap.size + 1 + 1) r.y) ∧ Below w.heap.size w (put7 w1 (w.heap.size + 1 + 1) r.y)) := by
    refine ⟨?_, hbw.trans ((put7_kept (x := r.y)).below (by simp) (by omega) |>.mono (by omega))⟩
    exact hc1.iy.keptR put7_kept (HY.out.mono fun b hb => by omega)
  simp only [Nat.zero_add] at e0 e1 e2 e3 e4 e5 e6
  obtain ⟨p0, p1, p2, p3, p4, p5, p6, p7, p8, p9, u0, u1, z0, z1, z2, z3, z4, z5, z6, fz, _, _, _⟩ := hc1
  have f0 := fz 0
  have f1 := fz 1
  have f2 := fz 2
  have f3 := fz 3
  have f4 := fz 4
  have f5 := fz 5
  have f6 := fz 6
  clear h1 HS HB hbx hbw fz
  go_wp2_with fail
  refine bodyPost_ret (v := .agg #[.int .i64 r.y.k, .int .i64 r.y.n, .int .i64 r.y.t.k, .slice r.y.t.a r.y.t.l.length r.y.t.c, .int .i64 r.y.f.k, .slice r.y.f.a r.y.f.l.length r.y.f.c, .slice r.y.a r.y.l.length r.y.c]) ?_ rfl ⟨r.y, rfl, HT.out.symm, HE.out.1, fun Q _ h => h, HE.out.2⟩
  unfold put7 at e0 e1 e2 e3 e4 e5 e6
  simp [results, Tryz.results106, go_sem, e0, e1, e2, e3, e4, e5, e6]
/-- The cast is written to its place. -/
theorem cast_end (r : Rd) (u : Tr) (w W : World) (G : Nat) (t f : Tr) (hb : Below w.heap.size w W) (hc : CB w.heap.size r u W) (hG : w.heap.size + 1 + 1 < G) (h7 : At7 W G 0 r.y) (ht : t.In W) (hf : f.In W) (bt : t.Bl (w.heap.size + 1 + 1 < ·)) (bf : f.Bl (w.heap.size + 1 + 1 < ·)) (hy : r.y.Bl (· < w.heap.size)) (et : t.ty = u.ty) (ef : f.ty = r.i.ty) (hr : relY escSame r.i.ty u.ty = false) :
    CPost r u w (.returned (.agg #[.int .i64 10, .int .i64 r.n, .int .i64 t.k, .slice t.a t.l.length t.c, .int .i64 f.k, .slice f.a f.l.length f.c, .slice (some ⟨G, 0, none⟩) 1 1])) (put7 W (w.heap.size + 1 + 1) ⟨10, r.n, t, f, some ⟨G, 0, none⟩, 1, [r.y]⟩) ∧
      At7 (put7 W (w.heap.size + 1 + 1) ⟨10, r.n, t, f, some ⟨G, 0, none⟩, 1, [r.y]⟩) (w.heap.size + 1 + 1) 0 ⟨10, r.n, t, f, some ⟨G, 0, none⟩, 1, [r.y]⟩ := by
  have hk := put7_kept (w := W) (J := w.heap.size + 1 + 1) (x := ⟨10, r.n, t, f, some ⟨G, 0, none⟩, 1, [r.y]⟩)
  have hbx : Box7 W (w.heap.size + 1 + 1) (tleaf 0 0) := ⟨⟨hc.z0, hc.z1, hc.z2, hc.z3, hc.z4, hc.z5, hc.z6⟩, fun i _ => hc.fz i⟩
  refine ⟨⟨⟨10, r.n, t, f, some ⟨G, 0, none⟩, 1, [r.y]⟩, rfl, ?_, ?_, fun Q hQ hyQ => ?_, ?_⟩, (put7_box hbx).at7⟩
  · rw [TT.tm_mk, et, ef]
    simp [castY, hr]
  · refine TT.In_mk.2 ⟨ht.keptR hk (bt.mono fun b hb => by omega), hf.keptR hk (bf.mono fun b hb => by omega), fun j hj => ?_, fun x hx => ?_⟩
    · have hj0 : j = 0 := by simpa using hj
      subst hj0
      exact ⟨G, 0, rfl, by simpa using h7.keptR hk (by omega)⟩
    · have : x = r.y := by simpa using hx
      subst this
      exact hc.iy.keptR hk (hy.mono fun b hb => by omega)
  · refine TT.Bl_mk.2 ⟨bt.mono fun b hb => hQ b (by omega), bf.mono fun b hb => hQ b (by omega), fun _ y hy => by cases hy; exact hQ G (by omega), fun x hx => ?_⟩
    have : x = r.y := by simpa using hx
    subst this
    exact hyQ
  · have lz : w.heap.size + 1 + 1 < W.heap.size := World.block_lt_of_cell? _ _ hc.z0
    exact hb.trans ((hk.below (by simp) (by omega)).mono (by omega))
theorem new_at7 (W : World) (r : Rd) : At7 (W.alloc (.cells #[.int .i64 r.y.k, .int .i64 r.y.n, .int .i64 r.y.t.k, .slice r.y.t.a r.y.t.l.length r.y.t.c, .int .i64 r.y.f.k, .slice r.y.f.a r.y.f.l.length r.y.f.c, .slice r.y.a r.y.l.length r.y.c] 27)) W.heap.size 0 r.y := by
  refine ⟨?_, ?_, ?_, ?_, ?_, ?_, ?_⟩
  all_goals simp [go_sem]
end Go.Proofs.YtnddkmccagiclaaGreatDoor

/-
  What the call of (*walk).good answers, at whatever term lies in memory: where its top is not good, and where it has no parts.
-/
namespace Go.Proofs.YtnddkmccagiclaaGreatDoor
open Go.RowKit
/-- A walk behind a pointer: how many functions are around, how much room is left. -/
structure WS (R : Nat) (ar : Int) (room : Nat) (w : World) : Prop where
  a : w.cell? ⟨R, 0, none⟩ = some (.int .i64 ar)
  r : w.cell? ⟨R, 1, none⟩ = some (.int .i64 (room : Int))
  z : w.frozen? ⟨R, 1, none⟩ = false
theorem WS.lt {R : Nat} {ar : Int} {room : Nat} {w : World} (h : WS R ar room w) : R < w.heap.size := World.block_lt_of_cell? _ _ h.a
theorem WS.below {R : Nat} {ar : Int} {room : Nat} {w w' : World} (h : WS R ar room w) (hb : Below w.heap.size w w') : WS R ar room w' :=
  ⟨cell_later hb h.a, cell_later hb h.r, (hb.frozen (p := ⟨R, 1, none⟩) h.lt).trans h.z⟩
theorem WS.set {R : Nat} {ar : Int} {room r : Nat} {w : World} (h : WS R ar room w) : WS R ar r (w.setCell ⟨R, 1, none⟩ (.int .i64 (r : Int))) :=
  ⟨by rw [World.cell?_setCell_other _ _ _ _ (by simp)]; exact h.a, World.cell?_setCell_same _ _ _ h.r, by rw [World.frozen?_setCell]; exact h.z⟩
/-- What the call leaves. -/
def GoodPost (R : Nat) (ar : Int) (o : Option Nat) (w : World) (e : Ending) (w' : World) : Prop :=
  ∃ r : Nat, e = .returned (.bool o.isSome) ∧ WS R ar r w' ∧ (∀ q, o = some q → q = r) ∧ Kept R none w w'
/-- Its numbers are whole numbers of 64 bits. -/
def TT.nb : TT → Prop
  | ⟨_, n, _, _, _, _, l⟩ => n ≤ 9223372036854775807 ∧ ∀ x, x ∈ l → x.nb
theorem TT.nb_mk {k n : Int} {t f : Tr} {a : Option Addr} {c : Nat} {l : List TT} : (TT.mk k n t f a c l).nb ↔ n ≤ 9223372036854775807 ∧ ∀ x, x ∈ l → x.nb := by
  rw [TT.nb]
theorem TT.nb.n {x : TT} (h : x.nb) : x.n ≤ 9223372036854775807 := by cases x; exact (TT.nb_mk.1 h).1
theorem TT.nb.mem {x y : TT} (h : x.nb) (hy : y ∈ x.l) : y.nb := by
  obtain ⟨k, n, t, f, a, c, l⟩ := x
  exact (TT.nb_mk.1 h).2 y hy
set_option maxHeartbeats 400000 in
theorem goodW_none (R : Nat) (ar ins : Int) (x : TT) (w : World) (hw : WS R ar 0 w) :
    Calls Tryz.prog 24 #[.pointer (some ⟨R, 0, none⟩), .agg #[.int .i64 x.k, .int .i64 x.n, .int .i64 x.t.k, .slice x.t.a x.t.l.length x.t.c, .int .i64 x.f.k, .slice x.f.a x.f.l.length x.f.c, .slice x.a x.l.length x.c], .int .i64 ins] w (GoodPost R ar none w) := by
  have hr := hw.r
  have hRl := hw.lt
  have e0 : ((0 : Nat) : Int) = 0 := rfl
  rw [e0] at hr
  go_enter Tryz.func24, Tryz.ntmps24
  go_wp2_with fail
  go_ret
  have hb : Below w.heap.size w (w.alloc (Obj.cells #[.int .i64 x.k, .int .i64 x.n, .int .i64 x.t.k, .slice x.t.a x.t.l.length x.t.c, .int .i64 x.f.k, .slice x.f.a x.f.l.length x.f.c, .slice x.a x.l.length x.c] 27)) := (Below.refl _ _).alloc (Nat.le_refl _) _
  exact ⟨0, rfl, hw.below hb, (fun q h => by cases h), Kept.of_below hb⟩
theorem parts_cell {w : World} (hg : Gp w) (k : Int) (h1 : 1 ≤ k) (h2 : k ≤ 9) : w.cell? ⟨2, k.toNat, none⟩ = some (.int .i64 (partsOf k : Int)) := by
  rw [hg.pt.cell]
  obtain rfl | rfl | rfl | rfl | rfl | rfl | rfl | rfl | rfl : k = 1 ∨ k = 2 ∨ k = 3 ∨ k = 4 ∨ k = 5 ∨ k = 6 ∨ k = 7 ∨ k = 8 ∨ k = 9 := by omega
  all_goals rfl
theorem len_ne (m p : Nat) (h : (m == p) = false) : ((m : Int) == (p : Int)) = false := by
  simp at h ⊢
  omega
/-- The world behind the count. -/
def wTop (R : Nat) (r : Nat) (x : TT) (w : World) : World :=
  (w.setCell ⟨R, 1, none⟩ (.int .i64 (r : Int))).alloc (Obj.cells #[.int .i64 x.k, .int .i64 x.n, .int .i64 x.t.k, .slice x.t.a x.t.l.length x.t.c, .int .i64 x.f.k, .slice x.f.a x.f.l.length x.f.c, .slice x.a x.l.length x.c] 27)
set_option maxHeartbeats 1000000 in
theorem goodW_bad1 (R : Nat) (ar : Int) (r : Nat) (hr1 : r ≤ 1000) (ins : Int) (x : TT) (w : World) (hg : Gp w) (hR : 3 ≤ R) (hw : WS R ar (r + 1) w)
    (hok : (decide (1 ≤ x.k) && decide (x.k ≤ 9) && (x.l.length == partsOf x.k)) = false) :
    Calls Tryz.prog 24 #[.pointer (some ⟨R, 0, none⟩), .agg #[.int .i64 x.k, .int .i64 x.n, .int .i64 x.t.k, .slice x.t.a x.t.l.length x.t.c, .int .i64 x.f.k, .slice x.f.a x.f.l.length x.f.c, .slice x.a x.l.length x.c], .int .i64 ins] w (GoodPost R ar none w) := by
  have hr := hw.r
  have hz := hw.z
  have hRl := hw.lt
  have e0 : ((r + 1 : Nat) : Int) = (r : Int) + 1 := by omega
  rw [e0] at hr
  have e1 : (((r : Int) + 1) == 0) = false := by simp; omega
  have fin : ∀ nq, GoodPost R ar none w (.returned (.bool false)) ((wTop R r x w).drewN nq) := by
    intro nq
    have hb : Below (w.setCell ⟨R, 1, none⟩ (.int .i64 (r : Int))).heap.size (w.setCell ⟨R, 1, none⟩ (.int .i64 (r : Int))) ((wTop R r x w).drewN nq) := below_dN ((Below.refl _ _).alloc (Nat.le_refl _) _) _
    exact ⟨r, rfl, (WS.set hw).below hb, (fun q h => by cases h), setR_kept.trans (Kept.of_below hb)⟩
  have FIN : Hid (∀ nq, GoodPost R ar none w (.returned (.bool false)) ((wTop R r x w).drewN nq)) := fin
  clear fin
  by_cases hk1 : 1 ≤ x.k
  · have hd1 : decide (x.k < 1) = false := by simp; omega
    by_cases hk2 : x.k ≤ 9
    · have hd2 : decide (9 < x.k) = false := by simp; omega
      have hp := parts_cell hg x.k hk1 hk2
      have hlen : (x.l.length == partsOf x.k) = false := by
        have a1 : decide (1 ≤ x.k) = true := by simp [hk1]
        have a2 : decide (x.k ≤ 9) = true := by simp [hk2]
        rw [a1, a2] at hok
        simpa using hok
      have hne := len_ne _ _ hlen
      have hne2 : ((x.l.length : Int) != (partsOf x.k : Int)) = true := by rw [bne, hne]; rfl
      have i0 : (0 : Int) ≤ x.k := by omega
      have i1 : x.k < 10 := by omega
      have n2 : (2 : Nat) ≠ R := by omega
      have h2l : 2 < w.heap.size := by have := hg.size; omega
      clear hok hlen hk1 hk2 hg
      go_enter Tryz.func24, Tryz.ntmps24
      go_wp2_with fail
      go_quiet (fail)
      go_wp2_with fail
      go_ret
      exact FIN.out _
    · have hd2 : decide (9 < x.k) = true := by simp; omega
      clear hok hk2
      go_enter Tryz.func24, Tryz.ntmps24
      go_wp2_with fail
      go_quiet (fail)
      go_wp2_with fail
      go_ret
      exact FIN.out _
  · have hd1 : decide (x.k < 1) = true := by simp; omega
    clear hok hk1
    go_enter Tryz.func24, Tryz.ntmps24
    go_wp2_with fail
    go_quiet (fail)
    go_wp2_with fail
    go_ret
    exact FIN.out _
end Go.Proofs.YtnddkmccagiclaaGreatDoor

/-
  What the call of (*walk).good answers, at whatever term lies in memory.
-/
namespace Go.Proofs.YtnddkmccagiclaaGreatDoor
open Go.RowKit
theorem wTop_kept (R r : Nat) (x : TT) (w : World) (nq : Nat) : Kept R none w ((wTop R r x w).drewN nq) :=
  setR_kept.trans (Kept.of_below (below_dN ((Below.refl _ _).alloc (Nat.le_refl _) _) _))
theorem wTop_ws {R r : Nat} {ar : Int} {room : Nat} {x : TT} {w : World} {nq : Nat} (h : WS R ar room w) : WS R ar r ((wTop R r x w).drewN nq) :=
  (WS.set h).below (below_dN ((Below.refl _ _).alloc (Nat.le_refl _) _) _)
/-- The box's cells. -/
theorem wTop_cells (R r : Nat) (x : TT) (w : World) (nq : Nat) : At7 ((wTop R r x w).drewN nq) w.heap.size 0 x := by
  have hs : (w.setCell ⟨R, 1, none⟩ (.int .i64 (r : Int))).heap.size = w.heap.size := by simp [World.setCell]
  rw [← hs]
  constructor <;> simp [wTop, go_sem]
set_option maxHeartbeats 2000000 in
theorem goodW_bad2 (R : Nat) (ar : Int) (r : Nat) (hr1 : r ≤ 1000) (ins : Nat) (hi : ins ≤ 1000) (x : TT) (w : World) (hg : Gp w) (hR : 3 ≤ R) (hw : WS R ar (r + 1) w)
    (hx : x.In w) (hbl : x.Bl (· ≠ R)) (hnb : x.nb) (hk1 : 1 ≤ x.k) (hk2 : x.k ≤ 9) (hlen : x.l.length = partsOf x.k)
    (hok : (okTypes x.k x.t.ty x.f.ty && okNum ar (ins : Int) x.k x.n) = false) :
    Calls Tryz.prog 24 #[.pointer (some ⟨R, 0, none⟩), .agg #[.int .i64 x.k, .int .i64 x.n, .int .i64 x.t.k, .slice x.t.a x.t.l.length x.t.c, .int .i64 x.f.k, .slice x.f.a x.f.l.length x.f.c, .slice x.a x.l.length x.c], .int .i64 (ins : Int)] w (GoodPost R ar none w) := by
  have hr := hw.r
  have hz := hw.z
  have hRl := hw.lt
  have e0 : ((r + 1 : Nat) : Int) = (r : Int) + 1 := by omega
  rw [e0] at hr
  have e1 : (((r : Int) + 1) == 0) = false := by simp; omega
  have hd1 : decide (x.k < 1) = false := by simp; omega
  have hd2 : decide (9 < x.k) = false := by simp; omega
  have hp := parts_cell hg x.k hk1 hk2
  have hne : ((x.l.length : Int) == (partsOf x.k : Int)) = true := by rw [hlen]; simp
  have hne2 : ((x.l.length : Int) != (partsOf x.k : Int)) = false := by rw [bne, hne]; rfl
  have i0 : (0 : Int) ≤ x.k := by omega
  have i1 : x.k < 10 := by omega
  have n2 : (2 : Nat) ≠ R := by omega
  have h2l : 2 < w.heap.size := by have := hg.size; omega
  have HX : Hid (∀ nq, x.In ((wTop R r x w).drewN nq)) := fun nq => hx.keptR (wTop_kept R r x w nq) hbl
  have HW : Hid (∀ nq, WS R ar r ((wTop R r x w).drewN nq)) := fun nq => wTop_ws hw
  have HB : Hid (∀ nq, At7 ((wTop R r x w).drewN nq) w.heap.size 0 x) := fun nq => wTop_cells R r x w nq
  have HNB : Hid (x.n ≤ 9223372036854775807) := hnb.n
  have HOK : Hid ((okTypes x.k x.t.ty x.f.ty && okNum ar (ins : Int) x.k x.n) = false) := hok
  obtain ⟨bt, hbt⟩ : ∃ b, okTypes x.k x.t.ty x.f.ty = b := ⟨_, rfl⟩
  have HT : Hid (∀ W, x.In W → Calls Tryz.prog 43 #[.agg #[.int .i64 x.k, .int .i64 x.n, .int .i64 x.t.k, .slice x.t.a x.t.l.length x.t.c, .int .i64 x.f.k, .slice x.f.a x.f.l.length x.f.c, .slice x.a x.l.length x.c]] W fun e w' => e = .returned (.bool bt) ∧ Below W.heap.size W w') := by
    intro W h
    have := goodTypes_any x W h.t h.f
    rw [hbt] at this
    exact this
  have HBT : Hid (okTypes x.k x.t.ty x.f.ty = bt) := hbt
  clear hok hlen hk1 hk2 hg hbt hbl hx hw hnb
  cases bt
  · go_enter Tryz.func24, Tryz.ntmps24
    go_wp2_with fail
    go_quiet (fail)
    go_wp2_with fail
    refine (HT.out _ (HX.out nq)).mono ?_
    rintro e w1 ⟨rfl, hb1⟩
    have HE : Hid (GoodPost R ar none w (.returned (.bool false)) w1) := ⟨r, rfl, (HW.out nq).below hb1, (fun q h => by cases h), (wTop_kept R r x w nq).trans (Kept.of_below hb1)⟩
    clear hb1
    go_wp2_with fail
    go_ret
    exact HE.out
  · have hbn : Hid (okNum ar (ins : Int) x.k x.n = false) := by have := HOK.out; rw [HBT.out] at this; simpa [Hid] using this
    go_enter Tryz.func24, Tryz.ntmps24
    go_wp2_with fail
    go_quiet (fail)
    go_wp2_with fail
    refine (HT.out _ (HX.out nq)).mono ?_
    rintro e w1 ⟨rfl, hb1⟩
    have HN : Hid (Calls Tryz.prog 44 #[.pointer (some ⟨R, 0, none⟩), .agg #[.int .i64 x.k, .int .i64 x.n, .int .i64 x.t.k, .slice x.t.a x.t.l.length x.t.c, .int .i64 x.f.k, .slice x.f.a x.f.l.length x.f.c, .slice x.a x.l.length x.c], .int .i64 (ins : Int)] w1 fun e w' => e = .returned (.bool false) ∧ Below w1.heap.size w1 w') := by
      have := goodNumber_any R ar ins hi x HNB.out w1 ((HW.out nq).below hb1).a
      rw [hbn.out] at this
      exact this
    have HE : Hid (WS R ar r w1 ∧ Kept R none w w1) := ⟨(HW.out nq).below hb1, (wTop_kept R r x w nq).trans (Kept.of_below hb1)⟩
    have h7 := (HB.out nq).below hb1
    have c0 := h7.c0
    have c1 := h7.c1
    have c2 := h7.c2
    have c3 := h7.c3
    have c4 := h7.c4
    have c5 := h7.c5
    have c6 := h7.c6
    simp only [Nat.zero_add] at c0 c1 c2 c3 c4 c5 c6
    clear hb1 h7
    go_wp2_with fail
    refine HN.out.mono ?_
    rintro e w2 ⟨rfl, hb2⟩
    have HE2 : Hid (GoodPost R ar none w (.returned (.bool false)) w2) := ⟨r, rfl, HE.out.1.below hb2, (fun q h => by cases h), HE.out.2.trans (Kept.of_below hb2)⟩
    clear hb2 c0 c1 c2 c3 c4 c5 c6
    go_wp2_with fail
    go_ret
    exact HE2.out
set_option maxHeartbeats 4000000 in
theorem goodW_top (R : Nat) (ar : Int) (n r : Nat) (hr1 : r ≤ 1000) (ins : Nat) (hi : ins ≤ 1000) (x : TT) (w : World) (hg : Gp w) (hR : 3 ≤ R) (hw : WS R ar (r + 1) w) (hl : x.l.length ≤ 140737488355328)
    (hx : x.In w) (hbl : x.Bl (· ≠ R)) (hnb : x.nb) (hk1 : 1 ≤ x.k) (hk2 : x.k ≤ 9) (hlen : x.l.length = partsOf x.k)
    (hok1 : okTypes x.k x.t.ty x.f.ty = true) (hok2 : okNum ar (ins : Int) x.k x.n = true)
    (b7 : Bool) (h7 : (x.k == 7) = b7) (ins' : Nat) (hins : (ins' : Int) = if b7 = true then (ins : Int) + 1 else (ins : Int))
    (HC : Hid (∀ (j : Nat) (hj : j < x.l.length) (q : Nat) (W : World), q ≤ r → Gp W → WS R ar q W → x.l[j].In W → Calls Tryz.prog 24 #[.pointer (some ⟨R, 0, none⟩), .agg #[.int .i64 x.l[j].k, .int .i64 x.l[j].n, .int .i64 x.l[j].t.k, .slice x.l[j].t.a x.l[j].t.l.length x.l[j].t.c, .int .i64 x.l[j].f.k, .slice x.l[j].f.a x.l[j].f.l.length x.l[j].f.c, .slice x.l[j].a x.l[j].l.length x.l[j].c], .int .i64 (ins' : Int)] W (GoodPost R ar (goodS ar n (insOf x.k (ins : Int)) x.l[j].tm q) W)))
    (HM : Hid (∀ (y : TT) (q q' : Nat), y ∈ x.l → goodS ar n (insOf x.k (ins : Int)) y.tm q = some q' → q' ≤ q)) :
    Calls Tryz.prog 24 #[.pointer (some ⟨R, 0, none⟩), .agg #[.int .i64 x.k, .int .i64 x.n, .int .i64 x.t.k, .slice x.t.a x.t.l.length x.t.c, .int .i64 x.f.k, .slice x.f.a x.f.l.length x.f.c, .slice x.a x.l.length x.c], .int .i64 (ins : Int)] w (GoodPost R ar (bindL (fun (y : TT) r' => goodS ar n (insOf x.k (ins : Int)) y.tm r') x.l r) w) := by
  have hr := hw.r
  have hz := hw.z
  have hRl := hw.lt
  have e0 : ((r + 1 : Nat) : Int) = (r : Int) + 1 := by omega
  rw [e0] at hr
  have e1 : (((r : Int) + 1) == 0) = false := by simp; omega
  have hd1 : decide (x.k < 1) = false := by simp; omega
  have hd2 : decide (9 < x.k) = false := by simp; omega
  have hp := parts_cell hg x.k hk1 hk2
  have hne : ((x.l.length : Int) == (partsOf x.k : Int)) = true := by rw [hlen]; simp
  have hne2 : ((x.l.length : Int) != (partsOf x.k : Int)) = false := by rw [bne, hne]; rfl
  have i0 : (0 : Int) ≤ x.k := by omega
  have i1 : x.k < 10 := by omega
  have n2 : (2 : Nat) ≠ R := by omega
  have h2l : 2 < w.heap.size := by have := hg.size; omega
  have HX : Hid (∀ nq, x.In ((wTop R r x w).drewN nq)) := fun nq => hx.keptR (wTop_kept R r x w nq) hbl
  have HW : Hid (∀ nq, WS R ar r ((wTop R r x w).drewN nq)) := fun nq => wTop_ws hw
  have HB : Hid (∀ nq, At7 ((wTop R r x w).drewN nq) w.heap.size 0 x) := fun nq => wTop_cells R r x w nq
  have HNB : Hid (x.n ≤ 9223372036854775807) := hnb.n
  have HT : Hid (∀ W, x.In W → Calls Tryz.prog 43 #[.agg #[.int .i64 x.k, .int .i64 x.n, .int .i64 x.t.k, .slice x.t.a x.t.l.length x.t.c, .int .i64 x.f.k, .slice x.f.a x.f.l.length x.f.c, .slice x.a x.l.length x.c]] W fun e w' => e = .returned (.bool true) ∧ Below W.heap.size W w') := by
    intro W h
    have := goodTypes_any x W h.t h.f
    rw [hok1] at this
    exact this
  have HOK : Hid (okNum ar (ins : Int) x.k x.n = true) := hok2
  have HG : Hid (Gp w) := hg
  have HBL : Hid (x.Bl (· ≠ R)) := hbl
  have HINS : Hid ((ins' : Int) = if b7 = true then (ins : Int) + 1 else (ins : Int)) := hins
  have hi1 : (ins : Int) + 1 ≤ 1001 := by omega
  clear hok1 hok2 hlen hk1 hk2 hg hbl hx hw hnb hins
  cases b7
  all_goals
    go_enter Tryz.func24, Tryz.ntmps24
    go_wp2_with fail
    go_quiet (fail)
    go_wp2_with fail
    refine (HT.out _ (HX.out nq)).mono ?_
    rintro e w1 ⟨rfl, hb1⟩
    have HN : Hid (Calls Tryz.prog 44 #[.pointer (some ⟨R, 0, none⟩), .agg #[.int .i64 x.k, .int .i64 x.n, .int .i64 x.t.k, .slice x.t.a x.t.l.length x.t.c, .int .i64 x.f.k, .slice x.f.a x.f.l.length x.f.c, .slice x.a x.l.length x.c], .int .i64 (ins : Int)] w1 fun e w' => e = .returned (.bool true) ∧ Below w1.heap.size w1 w') := by
      have := goodNumber_any R ar ins hi x HNB.out w1 ((HW.out nq).below hb1).a
      rw [HOK.out] at this
      exact this
    have HE : Hid (WS R ar r w1 ∧ Kept R none w w1 ∧ x.In w1 ∧ At7 w1 w.heap.size 0 x) := ⟨(HW.out nq).below hb1, (wTop_kept R r x w nq).trans (Kept.of_below hb1), (HX.out nq).below hb1, (HB.out nq).below hb1⟩
    obtain ⟨_, _, _, c0, c1, c2, c3, c4, c5, c6⟩ := HE.out
    simp only [Nat.zero_add] at c0 c1 c2 c3 c4 c5 c6
    clear hb1
    go_wp2_with fail
    refine HN.out.mono ?_
    rintro e w2 ⟨rfl, hb2⟩
    have HE2 : Hid (WS R ar r w2 ∧ Kept R none w w2 ∧ x.In w2 ∧ Gp w2) := ⟨HE.out.1.below hb2, HE.out.2.1.trans (Kept.of_below hb2), HE.out.2.2.1.below hb2, (HG.out.kept hR HE.out.2.1).below hb2⟩
    replace c0 := cell_later hb2 c0
    replace c6 := cell_later hb2 c6
    clear hb2 c1 c2 c3 c4 c5 HE HN HX HW HB
    go_wp2_with fail
    go_loopg [57] x.l.length (fun g i wr => ∃ (j q : Nat), g + j = x.l.length ∧ i = .int .i64 (j : Int) ∧ Hid (q ≤ r ∧ bindL (fun (y : TT) r' => goodS ar n (insOf x.k (ins : Int)) y.tm r') x.l r = bindL (fun (y : TT) r' => goodS ar n (insOf x.k (ins : Int)) y.tm r') (x.l.drop j) q ∧ WS R ar q wr ∧ Kept R none w2 wr))
    case atStart => exact ⟨0, r, by omega, rfl, Nat.le_refl _, rfl, HE2.out.1, Kept.of_below (Below.refl _ _)⟩
    case round =>
      obtain ⟨j, q, hj, rfl, HQ⟩ := hrel
      by_cases hlt : j < x.l.length
      · obtain ⟨b, o, ea, h7', hxj⟩ := HE2.out.2.2.1.part j hlt
        have hbR : b ≠ R := HBL.out.own (by intro e; rw [e] at hlt; simp at hlt) _ ea
        have h8 := h7'.keptR HQ.out.2.2.2 hbR
        have d0 := h8.c0
        have d1 := h8.c1
        have d2 := h8.c2
        have d3 := h8.c3
        have d4 := h8.c4
        have d5 := h8.c5
        have d6 := h8.c6
        have hxr := hxj.keptR HQ.out.2.2.2 (HBL.out.mem (List.getElem_mem hlt))
        have HXR : Hid (x.l[j].In wr) := hxr
        have hR2 : wr.heap.size ≠ R := by have := HQ.out.2.2.1.lt; omega
        have i2 : (j : Int) < (x.l.length : Int) := by omega
        have i3 : (0 : Int) ≤ (j : Int) := by omega
        have HEA : Hid (x.a = some ⟨b, o, none⟩) := ea
        rw [ea]
        have hbp : ∀ o, Below wr.heap.size wr (wr.alloc o) := fun o => (Below.refl _ _).alloc (Nat.le_refl _) _
        have HP : Hid (∀ o, Calls Tryz.prog 24 #[.pointer (some ⟨R, 0, none⟩), .agg #[.int .i64 x.l[j].k, .int .i64 x.l[j].n, .int .i64 x.l[j].t.k, .slice x.l[j].t.a x.l[j].t.l.length x.l[j].t.c, .int .i64 x.l[j].f.k, .slice x.l[j].f.a x.l[j].f.l.length x.l[j].f.c, .slice x.l[j].a x.l[j].l.length x.l[j].c], .int .i64 (ins' : Int)] (wr.alloc o) (GoodPost R ar (goodS ar n (insOf x.k (ins : Int)) x.l[j].tm q) (wr.alloc o))) := fun o => HC.out j hlt q _ HQ.out.1 ((HE2.out.2.2.2.kept hR HQ.out.2.2.2).below (hbp o)) (HQ.out.2.2.1.below (hbp o)) (HXR.out.below (hbp o))
        rw [HINS.out] at HP
        clear h7' hxj h8 hxr ea hbp
        simp only [Bool.false_eq_true, if_false, if_true] at HP
        go_wp2_with fail
        refine (HP.out _).mono ?_
        rintro e w3 ⟨r3, rfl, hw3, hs3, hk3⟩
        have hk4 : Kept R none w2 w3 := (HQ.out.2.2.2.trans (Kept.of_below ((Below.refl _ _).alloc (Nat.le_refl _) _))).trans hk3
        have HS : Hid (x.l.drop j = x.l[j] :: x.l.drop (j + 1)) := List.drop_eq_getElem_cons hlt
        cases ho : goodS ar n (insOf x.k (ins : Int)) x.l[j].tm q with
        | none =>
          have HF : Hid (GoodPost R ar (bindL (fun (y : TT) r' => goodS ar n (insOf x.k (ins : Int)) y.tm r') x.l r) w (.returned (.bool false)) w3) := by
            have e : bindL (fun (y : TT) r' => goodS ar n (insOf x.k (ins : Int)) y.tm r') x.l r = none := by rw [HQ.out.2.1, HS.out, bindL, ho]; rfl
            rw [e]
            exact ⟨r3, rfl, hw3, (fun q h => by cases h), HE2.out.2.1.trans hk4⟩
          clear hw3 hs3 hk3 hk4 ho HQ HP HXR d0 d1 d2 d3 d4 d5 d6
          simp only [Option.isSome_none]
          go_wp2_with fail
          go_ret
          exact HF.out
        | some q' =>
          have HF : Hid (q' ≤ r ∧ bindL (fun (y : TT) r' => goodS ar n (insOf x.k (ins : Int)) y.tm r') x.l r = bindL (fun (y : TT) r' => goodS ar n (insOf x.k (ins : Int)) y.tm r') (x.l.drop (j + 1)) q' ∧ WS R ar q' w3 ∧ Kept R none w2 w3) := by
            have e := hs3 q' ho
            subst e
            refine ⟨Nat.le_trans (HM.out _ q q' (List.getElem_mem hlt) ho) HQ.out.1, ?_, hw3, hk4⟩
            rw [HQ.out.2.1, HS.out, bindL, ho]
            rfl
          clear hw3 hs3 hk3 hk4 ho HQ HP HXR d0 d1 d2 d3 d4 d5 d6
          simp only [Option.isSome_some]
          go_wp2_with fail
          rw [← HEA.out]
          go_roundg (x.l.length - (j + 1))
          case measure => omega
          case rel => exact ⟨j + 1, q', by omega, by go_num, HF⟩
      · have HF : Hid (GoodPost R ar (bindL (fun (y : TT) r' => goodS ar n (insOf x.k (ins : Int)) y.tm r') x.l r) w (.returned (.bool true)) wr) := by
          have e : bindL (fun (y : TT) r' => goodS ar n (insOf x.k (ins : Int)) y.tm r') x.l r = some q := by rw [HQ.out.2.1, List.drop_eq_nil_of_le (by omega), bindL]
          rw [e]
          exact ⟨q, rfl, HQ.out.2.2.1, (fun q h => by cases h; rfl), HE2.out.2.1.trans HQ.out.2.2.2⟩
        clear HQ
        go_wp2_with fail
        go_ret
        exact HF.out
end Go.Proofs.YtnddkmccagiclaaGreatDoor

/-
  What the calls of (*walk).good and term.Good answer, at whatever term lies in memory.
-/
namespace Go.Proofs.YtnddkmccagiclaaGreatDoor
open Go.RowKit
theorem bindL_map {α β : Type} (g : α → β) (f : β → Nat → Option Nat) : ∀ (l : List α) (r : Nat), bindL f (l.map g) r = bindL (fun y r' => f (g y) r') l r
  | [], r => rfl
  | x :: l, r => by
    simp only [List.map_cons, bindL]
    cases f (g x) r with
    | none => rfl
    | some q => exact bindL_map g f l q
theorem bindL_le {α : Type} (f : α → Nat → Option Nat) (hf : ∀ y q q', f y q = some q' → q' ≤ q) : ∀ (l : List α) (r r' : Nat), bindL f l r = some r' → r' ≤ r
  | [], r, r', h => by simp [bindL] at h; omega
  | x :: l, r, r', h => by
    simp only [bindL] at h
    cases hq : f x r with
    | none => rw [hq] at h; cases h
    | some q =>
      rw [hq] at h
      have := hf x r q hq
      have := bindL_le f hf l q r' h
      omega
theorem goodS_le (ar : Int) : ∀ (n : Nat) (ins : Int) (x : Tm) (r r' : Nat), goodS ar n ins x r = some r' → r' ≤ r
  | 0, _, _, _, _, h => by simp [goodS] at h
  | n + 1, ins, x, 0, _, h => by simp [goodS] at h
  | n + 1, ins, x, r + 1, r', h => by
    simp only [goodS] at h
    split at h
    · have := bindL_le _ (fun y q q' h => goodS_le ar n (insOf x.k ins) y q q' h) x.l r r' h
      omega
    · cases h
theorem parts_le (k : Int) : partsOf k ≤ 3 := by
  unfold partsOf
  repeat' split
  all_goals omega
theorem goodW_any (R : Nat) (ar : Int) (hR : 3 ≤ R) (n : Nat) : n ≤ 500 → ∀ (ins : Nat) (x : TT) (r : Nat) (w : World), r ≤ n → ins + n ≤ 1000 → Gp w → WS R ar r w → x.In w → x.Bl (· ≠ R) → x.nb →
    Calls Tryz.prog 24 #[.pointer (some ⟨R, 0, none⟩), .agg #[.int .i64 x.k, .int .i64 x.n, .int .i64 x.t.k, .slice x.t.a x.t.l.length x.t.c, .int .i64 x.f.k, .slice x.f.a x.f.l.length x.f.c, .slice x.a x.l.length x.c], .int .i64 (ins : Int)] w (GoodPost R ar (goodS ar n (ins : Int) x.tm r) w) := by
  induction n with
  | zero =>
    intro _ ins x r w hr _ _ hw _ _ _
    obtain rfl : r = 0 := by omega
    exact goodW_none R ar _ x w hw
  | succ n ih =>
    intro hn ins x r w hr hi hg hw hx hbl hnb
    cases r with
    | zero => exact goodW_none R ar _ x w hw
    | succ r =>
      have e : goodS ar (n + 1) (ins : Int) x.tm (r + 1) = if okTop ar (ins : Int) x.tm = true then bindL (fun (y : TT) r' => goodS ar n (insOf x.k (ins : Int)) y.tm r') x.l r else none := by
        rw [goodS, TT.tm_l, TT.tm_k, bindL_map]
      rw [e]
      have ho : okTop ar (ins : Int) x.tm = ((decide (1 ≤ x.k) && decide (x.k ≤ 9) && (x.l.length == partsOf x.k)) && (okTypes x.k x.t.ty x.f.ty && okNum ar (ins : Int) x.k x.n)) := by
        rw [okTop, TT.tm_l, TT.tm_k, TT.tm_n, TT.tm_t, TT.tm_f, List.length_map]
      rw [ho]
      by_cases h1 : (decide (1 ≤ x.k) && decide (x.k ≤ 9) && (x.l.length == partsOf x.k)) = true
      · have h1' := h1
        simp only [Bool.and_eq_true, decide_eq_true_eq, beq_iff_eq] at h1'
        obtain ⟨⟨hk1, hk2⟩, hlen⟩ := h1'
        have hp := parts_le x.k
        by_cases h2 : (okTypes x.k x.t.ty x.f.ty && okNum ar (ins : Int) x.k x.n) = true
        · rw [h1, h2, Bool.and_self, if_pos rfl]
          simp only [Bool.and_eq_true] at h2
          by_cases h7 : x.k = 7
          · refine goodW_top R ar n r (by omega) ins (by omega) x w hg hR hw (by omega) hx hbl hnb hk1 hk2 hlen h2.1 h2.2 true (by simp [h7]) (ins + 1) (by simp) ?_ ?_
            · intro j hj q W hq hgW hwW hxW
              have := ih (by omega) (ins + 1) x.l[j] q W (by omega) (by omega) hgW hwW hxW (hbl.mem (List.getElem_mem hj)) (hnb.mem (List.getElem_mem hj))
              have e : insOf x.k (ins : Int) = ((ins + 1 : Nat) : Int) := by rw [insOf, if_pos h7]; omega
              rw [e]
              exact this
            · intro y q q' _ h
              exact goodS_le _ _ _ _ _ _ h
          · refine goodW_top R ar n r (by omega) ins (by omega) x w hg hR hw (by omega) hx hbl hnb hk1 hk2 hlen h2.1 h2.2 false (by simp [h7]) ins (by simp) ?_ ?_
            · intro j hj q W hq hgW hwW hxW
              have := ih (by omega) ins x.l[j] q W (by omega) (by omega) hgW hwW hxW (hbl.mem (List.getElem_mem hj)) (hnb.mem (List.getElem_mem hj))
              have e : insOf x.k (ins : Int) = (ins : Int) := by rw [insOf, if_neg h7]
              rw [e]
              exact this
            · intro y q q' _ h
              exact goodS_le _ _ _ _ _ _ h
        · have h2' : (okTypes x.k x.t.ty x.f.ty && okNum ar (ins : Int) x.k x.n) = false := by simpa using h2
          rw [h2', Bool.and_false, if_neg (by simp)]
          exact goodW_bad2 R ar r (by omega) ins (by omega) x w hg hR hw hx hbl hnb hk1 hk2 hlen h2'
      · have h1' : (decide (1 ≤ x.k) && decide (x.k ≤ 9) && (x.l.length == partsOf x.k)) = false := by simpa using h1
        rw [h1', Bool.false_and, if_neg (by simp)]
        exact goodW_bad1 R ar r (by omega) _ x w hg hR hw h1'
/-- Is it good within so many functions? -/
def goodM (ar : Int) (x : Tm) : Bool := (goodS ar 40 0 x 40).isSome
set_option maxHeartbeats 400000 in
/-- term.Good. -/
theorem goodTm_any (x : TT) (ar : Int) (w : World) (hg : Gp w) (hx : x.In w) (hnb : x.nb) :
    Calls Tryz.prog 9 #[.agg #[.int .i64 x.k, .int .i64 x.n, .int .i64 x.t.k, .slice x.t.a x.t.l.length x.t.c, .int .i64 x.f.k, .slice x.f.a x.f.l.length x.f.c, .slice x.a x.l.length x.c], .int .i64 ar] w fun e w' => e = .returned (.bool (goodM ar x.tm)) ∧ Below w.heap.size w w' := by
  have hgs := hg.size
  have hb0 : ∀ o, Below w.heap.size w (w.alloc o) := fun o => (Below.refl _ _).alloc (Nat.le_refl _) _
  have hb1 : ∀ o o', Below w.heap.size w ((w.alloc o).alloc o') := fun o o' => (hb0 o).alloc (by simp) _
  have HC : Hid (∀ W, Below w.heap.size w W → WS (w.heap.size + 1) ar 40 W → Calls Tryz.prog 24 #[.pointer (some ⟨w.heap.size + 1, 0, none⟩), .agg #[.int .i64 x.k, .int .i64 x.n, .int .i64 x.t.k, .slice x.t.a x.t.l.length x.t.c, .int .i64 x.f.k, .slice x.f.a x.f.l.length x.f.c, .slice x.a x.l.length x.c], .int .i64 0] W (GoodPost (w.heap.size + 1) ar (goodS ar 40 0 x.tm 40) W)) := by
    intro W hW hws
    exact goodW_any (w.heap.size + 1) ar (by omega) 40 (by omega) 0 x 40 W (Nat.le_refl _) (by omega) (hg.below hW) hws (hx.below hW) (hx.bl.mono fun b h => by omega) hnb
  have HB : Hid (∀ o o', Below w.heap.size w ((w.alloc o).alloc o')) := hb1
  clear hb0 hb1 hg hx hnb
  go_enter Tryz.func9, Tryz.ntmps9
  go_wp2_with fail
  refine (HC.out _ (HB.out _ _) ⟨by simp [go_sem], by simp [go_sem], by simp [go_sem]⟩).mono ?_
  rintro e w1 ⟨r, rfl, _, _, hk⟩
  have HF : Hid (Below w.heap.size w w1) := by
    have hs : ((w.alloc (.cells #[.int .i64 x.k, .int .i64 x.n, .int .i64 x.t.k, .slice x.t.a x.t.l.length x.t.c, .int .i64 x.f.k, .slice x.f.a x.f.l.length x.f.c, .slice x.a x.l.length x.c] 27)).alloc (.cells #[.int .i64 ar, .int .i64 40] 49)).heap.size = w.heap.size + 2 := by simp
    have := hk.size
    rw [hs] at this
    refine (HB.out (.cells #[.int .i64 x.k, .int .i64 x.n, .int .i64 x.t.k, .slice x.t.a x.t.l.length x.t.c, .int .i64 x.f.k, .slice x.f.a x.f.l.length x.f.c, .slice x.a x.l.length x.c] 27) (.cells #[.int .i64 ar, .int .i64 40] 49)).trans ?_
    exact ⟨hk.os, hk.tape, hk.output, hk.size, fun k h => hk.block k (by rw [hs]; omega) (by omega) (by simp)⟩
  clear hk
  go_wp2_with fail
  go_ret
  exact ⟨rfl, HF.out⟩
end Go.Proofs.YtnddkmccagiclaaGreatDoor

/-
  What the calls of term.alikeAtTop and term.Same answer at two terms that are alike.
-/
namespace Go.Proofs.YtnddkmccagiclaaGreatDoor
open Go.RowKit
/-- Its types are of at most a thousand levels. -/
def TT.tok : TT → Prop
  | ⟨_, _, t, f, _, _, l⟩ => (t.hgt ≤ 1000 ∧ t.sm) ∧ (f.hgt ≤ 1000 ∧ f.sm) ∧ ∀ x, x ∈ l → x.tok
theorem TT.tok_mk {k n : Int} {t f : Tr} {a : Option Addr} {c : Nat} {l : List TT} : (TT.mk k n t f a c l).tok ↔ (t.hgt ≤ 1000 ∧ t.sm) ∧ (f.hgt ≤ 1000 ∧ f.sm) ∧ ∀ x, x ∈ l → x.tok := by
  rw [TT.tok]
theorem TT.tok.t {x : TT} (h : x.tok) : x.t.hgt ≤ 1000 ∧ x.t.sm := by cases x; exact (TT.tok_mk.1 h).1
theorem TT.tok.f {x : TT} (h : x.tok) : x.f.hgt ≤ 1000 ∧ x.f.sm := by cases x; exact (TT.tok_mk.1 h).2.1
theorem TT.tok.mem {x y : TT} (h : x.tok) (hy : y ∈ x.l) : y.tok := by
  obtain ⟨k, n, t, f, a, c, l⟩ := x
  exact (TT.tok_mk.1 h).2.2 y hy
theorem sum_take_le (f : TT → Nat) : ∀ (l : List TT) (j : Nat), ((l.take j).map f).sum ≤ (l.map f).sum
  | [], j => by simp
  | x :: l, 0 => by simp
  | x :: l, j + 1 => by
    have := sum_take_le f l j
    simp only [List.take_succ_cons, List.map_cons, List.sum_cons]; omega
/-! ### The stack -/
def TT.sz : TT → Nat
  | ⟨_, _, _, _, _, _, l⟩ => (l.map fun t => t.sz).sum + 1
theorem TT.sz_mk (k n : Int) (t f : Tr) (a : Option Addr) (c : Nat) (l : List TT) : (TT.mk k n t f a c l).sz = (l.map TT.sz).sum + 1 := by
  rw [TT.sz]
theorem TT.sz_eq (x : TT) : x.sz = (x.l.map TT.sz).sum + 1 := by cases x; rw [TT.sz_mk]
theorem TT.sz_pos (x : TT) : 1 ≤ x.sz := by rw [TT.sz_eq]; omega
def cells2 (ps : List (TT × TT)) : List Value := ps.flatMap fun p => [.slice p.1.a p.1.l.length p.1.c, .slice p.2.a p.2.l.length p.2.c]
/-- Two lists of terms, each with each. -/
def Pr (B : Nat) (w : World) (p : TT × TT) : Prop := p.1.In w ∧ p.2.In w ∧ p.1.Bl (· < B) ∧ p.2.Bl (· < B) ∧ p.1.tok ∧ p.1.l.map TT.tm = p.2.l.map TT.tm
theorem Pr.low {B : Nat} {w w' : World} {p : TT × TT} (h : Pr B w p) (hb : Below B w w') : Pr B w' p :=
  ⟨h.1.congr (P := (· < B)) (fun b hb' o => hb.cell (p := ⟨b, o, none⟩) hb') h.2.2.1, h.2.1.congr (P := (· < B)) (fun b hb' o => hb.cell (p := ⟨b, o, none⟩) hb') h.2.2.2.1, h.2.2⟩
def mass (ps : List (TT × TT)) : Nat := (ps.map fun p => p.1.sz).sum
structure Stk (B : Nat) (v : Value) (ps : List (TT × TT)) (w : World) : Prop where
  own : w.ownsRow B 53 2 v ps.length (cells2 ps)
  ins : ∀ p, p ∈ ps → Pr B w p
theorem Stk.len {ps : List (TT × TT)} : ps.length ≤ mass ps := by
  induction ps with
  | nil => simp
  | cons p r ih => have := p.1.sz_pos; simp only [mass, List.map_cons, List.sum_cons, List.length_cons] at ih ⊢; omega
end Go.Proofs.YtnddkmccagiclaaGreatDoor
