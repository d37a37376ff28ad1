/-
  Casts of a term in a row of their own, and a row of terms that are still to be looked at, side by side; no program's run in it.
-/
import Derived.Test.YtnddkmccagiclabGreatDoorLoteba9d6d245
import Derived.Test.YtnddkmccagiclabGreatDoorLot1fdb5b78dd
import Derived.Test.YtnddkmccagiclabGreatDoorLot3973bc6846
import Derived.Deep.Slices
import Derived.Deep.DeepCutAuto
import Derived.Deep.RegionHeld3
import Derived.Deep.RegionLaw
import Derived.Test.YtnddkmccagiclabGreatDoorLot789dfea93b
import Derived.Test.YtnddkmccagiclabGreatDoorLot2c1b367ec8
import Derived.Test.YtnddkmccagiclabGreatDoorLoted756f28d3
namespace Go.Proofs.YtnddkmccagiclabGreatDoor
open Go.RowKit
structure SiteT where
  n : Int
  f : Tr
  t : Tr
def SiteT.m (s : SiteT) : Int × Ty × Ty := (s.n, s.f.ty, s.t.ty)
def cell5 (s : SiteT) : List Value := [.int .i64 s.n, .int .i64 s.f.k, .slice s.f.a s.f.l.length s.f.c, .int .i64 s.t.k, .slice s.t.a s.t.l.length s.t.c]
def cells5 (ss : List SiteT) : List Value := ss.flatMap cell5
theorem cells5_at : ∀ (l : List SiteT) (j : Nat) (h : j < l.length) (i : Nat), i < 5 → (cells5 l)[j * 5 + i]? = (cell5 l[j])[i]?
  | [], j, h, _, _ => by simp at h
  | x :: r, 0, _, i, hi => by
    have : cells5 (x :: r) = cell5 x ++ cells5 r := by simp [cells5]
    rw [this, List.getElem?_append_left (by simp [cell5]; omega)]
    simp
  | x :: r, j + 1, h, i, hi => by
    have ih := cells5_at r j (by simpa using h) i hi
    have e : cells5 (x :: r) = cell5 x ++ cells5 r := by simp [cells5]
    rw [e, List.getElem?_append_right (by simp [cell5]; omega)]
    have : (j + 1) * 5 + i - (cell5 x).length = j * 5 + i := by simp [cell5]; omega
    rw [this]
    simpa using ih
/-- The casts' types are not too deep. -/
def TT.cok : TT → Prop
  | ⟨k, _, t, f, _, _, l⟩ => (k = 10 → (t.right ∧ t.hgt ≤ 1000) ∧ f.right ∧ f.hgt ≤ 1000) ∧ ∀ y, y ∈ l → y.cok
theorem TT.cok_mk {k n : Int} {t f : Tr} {a : Option Addr} {c : Nat} {l : List TT} : (TT.mk k n t f a c l).cok ↔ (k = 10 → (t.right ∧ t.hgt ≤ 1000) ∧ f.right ∧ f.hgt ≤ 1000) ∧ ∀ y, y ∈ l → y.cok := by
  rw [TT.cok]
theorem TT.cok.top {x : TT} (h : x.cok) : x.k = 10 → (x.t.right ∧ x.t.hgt ≤ 1000) ∧ x.f.right ∧ x.f.hgt ≤ 1000 := by cases x; exact (TT.cok_mk.1 h).1
theorem TT.cok.mem {x y : TT} (h : x.cok) (hy : y ∈ x.l) : y.cok := by
  obtain ⟨k, n, t, f, a, c, l⟩ := x
  exact (TT.cok_mk.1 h).2 y hy
/-- The two rows. -/
structure SI (B : Nat) (v u : Value) (ps : List TT) (ss : List SiteT) (w : World) : Prop where
  ov : w.ownsRow B 27 7 v ps.length (cells7 ps)
  ou : w.ownsRow B 52 5 u ss.length (cells5 ss)
  ne : ∀ g, v.ownBlock = some g → u.ownBlock ≠ some g
  pi : ∀ p, p ∈ ps → Pr1 B w p ∧ p.cok
  si : ∀ s, s ∈ ss → s.f.In w ∧ s.t.In w ∧ s.f.Bl (fun b => B ≤ b ∧ some b ≠ v.ownBlock ∧ some b ≠ u.ownBlock) ∧ s.t.Bl (fun b => B ≤ b ∧ some b ≠ v.ownBlock ∧ some b ≠ u.ownBlock)
theorem SI.below {B : Nat} {v u : Value} {ps : List TT} {ss : List SiteT} {w w' : World} (h : SI B v u ps ss w) (hb : Below w.heap.size w w') (hB : B ≤ w.heap.size) : SI B v u ps ss w' :=
  ⟨ownsRow_low h.ov hb, ownsRow_low h.ou hb, h.ne, fun p hp => ⟨(h.pi p hp).1.low (hb.mono hB), (h.pi p hp).2⟩, fun s hs => ⟨(h.si s hs).1.below hb, (h.si s hs).2.1.below hb, (h.si s hs).2.2⟩⟩
theorem SI.grow {B : Nat} {v u : Value} {ps : List TT} {ss : List SiteT} {w2 w3 : World} {x : Value} {gg : Nat} (h : SI B v u ps ss w2) (hB : B ≤ w2.heap.size) (hx : x = v ∨ x = u) (hblk : ∀ k, k < w2.heap.size → some k ≠ x.ownBlock → w3.heap[k]? = w2.heap[k]?) (hat : x.ownBlock = some gg ∨ w2.heap.size ≤ gg) :
    (∀ p, p ∈ ps → Pr1 B w3 p ∧ p.cok) ∧ ∀ s, s ∈ ss → s.f.In w3 ∧ s.t.In w3 ∧ s.f.Bl (fun b => (B ≤ b ∧ some b ≠ v.ownBlock ∧ some b ≠ u.ownBlock) ∧ b ≠ gg) ∧ s.t.Bl (fun b => (B ≤ b ∧ some b ≠ v.ownBlock ∧ some b ≠ u.ownBlock) ∧ b ≠ gg) := by
  have hxo : ∀ k, x.ownBlock = some k → B ≤ k := fun k hk => by
    rcases hx with rfl | rfl
    · exact (h.ov.lt k hk).1
    · exact (h.ou.lt k hk).1
  refine ⟨fun p hp => ⟨⟨(h.pi p hp).1.1.congr (P := (· < B)) (fun b hb o => ?_) (h.pi p hp).1.2, (h.pi p hp).1.2⟩, (h.pi p hp).2⟩, fun s hs => ?_⟩
  · exact World.cell?_of_block (a := ⟨b, o, none⟩) (hblk b (by omega) fun e => by have := hxo b e.symm; omega)
  · obtain ⟨h1, h2, h3, h4⟩ := h.si s hs
    have key : ∀ b, b < w2.heap.size ∧ (B ≤ b ∧ some b ≠ v.ownBlock ∧ some b ≠ u.ownBlock) → some b ≠ x.ownBlock := by
      intro b hb
      rcases hx with rfl | rfl
      · exact hb.2.2.1
      · exact hb.2.2.2
    have hc : ∀ b, b < w2.heap.size ∧ (B ≤ b ∧ some b ≠ v.ownBlock ∧ some b ≠ u.ownBlock) → ∀ o, w3.cell? ⟨b, o, none⟩ = w2.cell? ⟨b, o, none⟩ := fun b hb o =>
      World.cell?_of_block (a := ⟨b, o, none⟩) (hblk b hb.1 (key b hb))
    have hg : ∀ b, b < w2.heap.size ∧ (B ≤ b ∧ some b ≠ v.ownBlock ∧ some b ≠ u.ownBlock) → (B ≤ b ∧ some b ≠ v.ownBlock ∧ some b ≠ u.ownBlock) ∧ b ≠ gg := by
      intro b hb
      refine ⟨hb.2, fun e => ?_⟩
      subst e
      rcases hat with e | e
      · exact key b hb e.symm
      · omega
    exact ⟨h1.congr (P := fun b => b < w2.heap.size ∧ (B ≤ b ∧ some b ≠ v.ownBlock ∧ some b ≠ u.ownBlock)) hc (h1.bl.and h3), h2.congr (P := fun b => b < w2.heap.size ∧ (B ≤ b ∧ some b ≠ v.ownBlock ∧ some b ≠ u.ownBlock)) hc (h2.bl.and h4), (h1.bl.and h3).mono hg, (h2.bl.and h4).mono hg⟩
/-- A row of casts lies in the world. -/
def SL (w : World) (a : Option Addr) (ss : List SiteT) : Prop :=
  ∀ j (h : j < ss.length), ∃ b o, a = some ⟨b, o, none⟩ ∧ w.cell? ⟨b, o + j * 5, none⟩ = some (.int .i64 ss[j].n) ∧ w.cell? ⟨b, o + j * 5 + 1, none⟩ = some (.int .i64 ss[j].f.k) ∧ w.cell? ⟨b, o + j * 5 + 2, none⟩ = some (.slice ss[j].f.a ss[j].f.l.length ss[j].f.c) ∧ w.cell? ⟨b, o + j * 5 + 3, none⟩ = some (.int .i64 ss[j].t.k) ∧ w.cell? ⟨b, o + j * 5 + 4, none⟩ = some (.slice ss[j].t.a ss[j].t.l.length ss[j].t.c) ∧ ss[j].f.In w ∧ ss[j].t.In w
theorem SI.list {B : Nat} {v u : Value} {ps : List TT} {ss : List SiteT} {w : World} (h : SI B v u ps ss w) : ∃ a c, u = .slice a ss.length c ∧ (SL w a ss ∧ ss.length ≤ c) := by
  rcases h.ou.2 with ⟨rfl, h0⟩ | ⟨g, cap, cur, rfl, hg, _, hcl, _⟩
  · have : ss = [] := List.length_eq_zero_iff.1 h0
    subst this
    exact ⟨none, 0, rfl, fun j hj => absurd hj (by simp), by simp⟩
  · refine ⟨_, _, rfl, fun j hj => ⟨g, 0, rfl, ?_⟩, hcl⟩
    have hc : ∀ i, i < 5 → w.cell? ⟨g, 0 + j * 5 + i, none⟩ = _ := fun i hi => by rw [Nat.zero_add, h.ou.cellAt (j * 5 + i) (by omega), cells5_at ss j hj i hi]
    exact ⟨hc 0 (by omega), hc 1 (by omega), hc 2 (by omega), hc 3 (by omega), hc 4 (by omega), (h.si _ (List.getElem_mem hj)).1, (h.si _ (List.getElem_mem hj)).2.1⟩
end Go.Proofs.YtnddkmccagiclabGreatDoor

/-
  Terms that are still to be erased, each with the place where what is left of it belongs; what all of them make together; no program's run in it.
-/
namespace Go.Proofs.YtnddkmccagiclabGreatDoor
open Go.RowKit
/-- A term, and where what is left of it belongs. -/
structure Ho where
  p : TT
  b : Nat
  j : Nat
def cell8 (h : Ho) : List Value := [.int .i64 h.p.k, .int .i64 h.p.n, .int .i64 h.p.t.k, .slice h.p.t.a h.p.t.l.length h.p.t.c, .int .i64 h.p.f.k, .slice h.p.f.a h.p.f.l.length h.p.f.c, .slice h.p.a h.p.l.length h.p.c, .pointer (some ⟨h.b, h.j * 7, none⟩)]
def cells8 (hs : List Ho) : List Value := hs.flatMap cell8
theorem cells8_append (a b : List Ho) : cells8 (a ++ b) = cells8 a ++ cells8 b := by simp [cells8]
theorem cells8_one (h : Ho) : cells8 [h] = cell8 h := by simp [cells8]
theorem cells8_length (l : List Ho) : (cells8 l).length = l.length * 8 := by
  induction l with
  | nil => rfl
  | cons a r ih => simp [cells8, cell8] at ih ⊢; omega
theorem cells8_at : ∀ (l : List Ho) (j : Nat) (h : j < l.length) (i : Nat), i < 8 → (cells8 l)[j * 8 + i]? = (cell8 l[j])[i]?
  | [], j, h, _, _ => by simp at h
  | x :: r, 0, _, i, hi => by
    have : cells8 (x :: r) = cell8 x ++ cells8 r := by simp [cells8]
    rw [this, List.getElem?_append_left (by simp [cell8]; omega)]
    simp
  | x :: r, j + 1, h, i, hi => by
    have ih := cells8_at r j (by simpa using h) i hi
    have e : cells8 (x :: r) = cell8 x ++ cells8 r := by simp [cells8]
    rw [e, List.getElem?_append_right (by simp [cell8]; omega)]
    have : (j + 1) * 8 + i - (cell8 x).length = j * 8 + i := by simp [cell8]; omega
    rw [this]
    simpa using ih
/-- A term lies at a place. -/
def Lies (B : Nat) (w : World) (b j : Nat) (m : Tm) : Prop := ∃ y : TT, At7 w b (j * 7) y ∧ y.In w ∧ y.tm = m ∧ y.Bl (B ≤ ·)
/-- A cell that belongs to a place that is still to be written. -/
def inHole (hs : List Ho) (b i : Nat) : Prop := ∃ h, h ∈ hs ∧ h.b = b ∧ h.j * 7 ≤ i ∧ i < h.j * 7 + 7
/-- The place can be written. -/
def Open7 (w : World) (b j : Nat) : Prop := ∀ i, i < 7 → (∃ u, w.cell? ⟨b, j * 7 + i, none⟩ = some u) ∧ w.frozen? ⟨b, j * 7 + i, none⟩ = false
theorem Open7.of {w w' : World} {b j : Nat} (h : Open7 w b j) (e : w'.heap[b]? = w.heap[b]?) : Open7 w' b j := fun i hi => by
  obtain ⟨⟨u, hu⟩, hf⟩ := h i hi
  exact ⟨⟨u, (World.cell?_of_block (a := ⟨b, j * 7 + i, none⟩) e).trans hu⟩, (World.frozen?_of_block (a := ⟨b, j * 7 + i, none⟩) e).trans hf⟩
theorem Open7.set {w : World} {b j b' o' : Nat} {v : Value} (h : Open7 w b j) : Open7 (w.setCell ⟨b', o', none⟩ v) b j := fun i hi => by
  obtain ⟨⟨u, hu⟩, hf⟩ := h i hi
  refine ⟨?_, by rw [World.frozen?_setCell]; exact hf⟩
  by_cases e : b' = b
  · subst e
    exact ⟨_, set_get hu⟩
  · exact ⟨u, by rw [World.cell?_setCell_other _ _ _ _ (fun e2 => e (congrArg Addr.block e2))]; exact hu⟩
theorem Open7.put {w : World} {b j b' o' : Nat} {x : TT} (h : Open7 w b j) : Open7 (put7at w b' o' x) b j := h.set.set.set.set.set.set.set
/-- The state of the loop: the row of what is left; the blocks of what was made; what all comes to, once the places are written. -/
structure EI (B : Nat) (m : Tm) (WB : Nat) (v : Value) (hs : List Ho) (D : Nat → Prop) (w : World) : Prop where
  own : w.ownsRow B 82 8 v hs.length (cells8 hs)
  d : ∀ b, D b → B ≤ b ∧ b < w.heap.size ∧ some b ≠ v.ownBlock
  ho : ∀ h, h ∈ hs → Pr1 B w h.p ∧ D h.b ∧ Open7 w h.b h.j
  nd : (hs.map fun h => (h.b, h.j)).Nodup
  k : ∀ w', (∀ b i, D b → ¬ inHole hs b i → w'.cell? ⟨b, i, none⟩ = w.cell? ⟨b, i, none⟩) → (∀ h, h ∈ hs → Lies B w' h.b h.j (eraseM h.p.tm)) → Lies B w' WB 0 m
/-- At the end. -/
theorem EI.ends {B WB : Nat} {m : Tm} {v : Value} {D : Nat → Prop} {w : World} (h : EI B m WB v [] D w) : Lies B w WB 0 m :=
  h.k w (fun _ _ _ _ => rfl) fun q hq => by cases hq
/-- The children of a term, with their places in a new row. -/
def kidsH (g : Nat) (l : List TT) : List Ho := (List.range l.length).pmap (fun j hj => ⟨l[j]'(by simpa using hj), g, j⟩) (fun j hj => hj)
theorem kidsH_length (g : Nat) (l : List TT) : (kidsH g l).length = l.length := by simp [kidsH]
theorem kidsH_at (g : Nat) (l : List TT) (j : Nat) (h : j < (kidsH g l).length) (h' : j < l.length) : (kidsH g l)[j] = ⟨l[j], g, j⟩ := by simp [kidsH]
theorem put7at_other {w : World} {J o i : Nat} {x : TT} (h : i < o ∨ o + 7 ≤ i) : (put7at w J o x).cell? ⟨J, i, none⟩ = w.cell? ⟨J, i, none⟩ := by
  have n : ∀ k, k < 7 → (⟨J, o + k, none⟩ : Addr) ≠ ⟨J, i, none⟩ := fun k hk e => by
    have := congrArg Addr.off e
    simp only at this
    omega
  unfold put7at
  rw [World.cell?_setCell_other _ _ _ _ (n 6 (by omega)), World.cell?_setCell_other _ _ _ _ (n 5 (by omega)), World.cell?_setCell_other _ _ _ _ (n 4 (by omega)), World.cell?_setCell_other _ _ _ _ (n 3 (by omega)), World.cell?_setCell_other _ _ _ _ (n 2 (by omega)), World.cell?_setCell_other _ _ _ _ (n 1 (by omega))]
  exact World.cell?_setCell_other _ _ _ _ (n 0 (by omega))
theorem put7at_at7 {w : World} {J j : Nat} {x : TT} (h : Open7 w J j) : At7 (put7at w J (j * 7) x) J (j * 7) x := by
  obtain ⟨u0, h0⟩ := (h 0 (by omega)).1
  obtain ⟨u1, h1⟩ := (h 1 (by omega)).1
  obtain ⟨u2, h2⟩ := (h 2 (by omega)).1
  obtain ⟨u3, h3⟩ := (h 3 (by omega)).1
  obtain ⟨u4, h4⟩ := (h 4 (by omega)).1
  obtain ⟨u5, h5⟩ := (h 5 (by omega)).1
  obtain ⟨u6, h6⟩ := (h 6 (by omega)).1
  refine ⟨?_, ?_, ?_, ?_, ?_, ?_, ?_⟩
  · simpa using put7at_get (o := j * 7) x h0
  · simpa using put7at_get (o := j * 7) x h1
  · simpa using put7at_get (o := j * 7) x h2
  · simpa using put7at_get (o := j * 7) x h3
  · simpa using put7at_get (o := j * 7) x h4
  · simpa using put7at_get (o := j * 7) x h5
  · simpa using put7at_get (o := j * 7) x h6
theorem kidsH_mem {g : Nat} {l : List TT} {h : Ho} (hm : h ∈ kidsH g l) : ∃ (j : Nat) (hj : j < l.length), h = ⟨l[j], g, j⟩ := by
  obtain ⟨j, hj, rfl⟩ := List.getElem_of_mem hm
  have hj' : j < l.length := by rwa [kidsH_length] at hj
  exact ⟨j, hj', kidsH_at g l j hj hj'⟩
/-- One more round: the last place is written, its parts are put behind. -/
theorem EI.step {B WB g : Nat} {m : Tm} {v v2 : Value} {us : List Ho} {h : Ho} {q : TT} {D : Nat → Prop} {w w2 : World} (e : EI B m WB v (us ++ [h]) D w) (hq : eraseM h.p.tm = ⟨q.k, q.n, anyY, anyY, (q.l.map TT.tm).map eraseM⟩)
    (hqi : ∀ y, y ∈ q.l → Pr1 B w2 y) (hg : B ≤ g) (hgw : w.heap.size ≤ g) (hg2 : g < w2.heap.size) (hgo : ∀ j, j < q.l.length → Open7 w2 g j) (hown : w2.ownsRow B 82 8 v2 (us ++ kidsH g q.l).length (cells8 (us ++ kidsH g q.l)))
    (hv2 : ∀ b, v2.ownBlock = some b → v.ownBlock = some b ∨ w.heap.size ≤ b) (hv2g : v2.ownBlock ≠ some g)
    (hlow : Below B w w2) (hD : ∀ b, D b → w2.heap[b]? = w.heap[b]?) :
    EI B m WB v2 (us ++ kidsH g q.l) (fun b => D b ∨ b = g) (put7at w2 h.b (h.j * 7) ⟨q.k, q.n, leaf 0, leaf 0, some ⟨g, 0, none⟩, q.l.length, q.l⟩) := by
  have hk := put7at_kept (w := w2) (J := h.b) (o := h.j * 7) (x := ⟨q.k, q.n, leaf 0, leaf 0, some ⟨g, 0, none⟩, q.l.length, q.l⟩)
  obtain ⟨W, hW⟩ : ∃ W, W = put7at w2 h.b (h.j * 7) ⟨q.k, q.n, leaf 0, leaf 0, some ⟨g, 0, none⟩, q.l.length, q.l⟩ := ⟨_, rfl⟩
  have hWs : W.heap.size = w2.heap.size := by rw [hW, put7at_size]
  obtain ⟨hhp, hhD, hhO⟩ := e.ho h (by simp)
  obtain ⟨hB1, hB2, hB3⟩ := e.d h.b hhD
  have hO2 : Open7 w2 h.b h.j := hhO.of (hD _ hhD)
  have h7 : At7 W h.b (h.j * 7) ⟨q.k, q.n, leaf 0, leaf 0, some ⟨g, 0, none⟩, q.l.length, q.l⟩ := by rw [hW]; exact put7at_at7 hO2
  have hoth : ∀ i, i < h.j * 7 ∨ h.j * 7 + 7 ≤ i → W.cell? ⟨h.b, i, none⟩ = w2.cell? ⟨h.b, i, none⟩ := fun i hi => by rw [hW]; exact put7at_other hi
  have hopen : ∀ b j, Open7 w2 b j → Open7 W b j := fun b j ho => by rw [hW]; exact ho.put
  rw [← hW] at hk ⊢
  clear hW
  have hWlow : Below B w2 W := (hk.below (by simp) (by omega)).mono hB1
  have hndA := e.nd
  rw [List.map_append, List.nodup_append] at hndA
  have hne : ∀ u, u ∈ us → ¬ (u.b = h.b ∧ u.j = h.j) := fun u hu hh => hndA.2.2 (u.b, u.j) (List.mem_map.2 ⟨u, hu, rfl⟩) (h.b, h.j) (by simp) (by rw [hh.1, hh.2])
  refine ⟨?_, ?_, ?_, ?_, ?_⟩
  · refine ⟨hown.1, ?_⟩
    rcases hown.2 with hn | ⟨gg, cap, cur, hv, hb', hg', rest⟩
    · exact .inl hn
    · refine .inr ⟨gg, cap, cur, hv, hb', (hk.block gg (Array.getElem?_eq_some_iff.1 hg').1 (fun e2 => ?_) (by simp)).trans hg', rest⟩
      have ho : v2.ownBlock = some gg := by rw [hv]; rfl
      rcases hv2 gg ho with h1 | h1
      · exact hB3 (by rw [← e2]; exact h1.symm)
      · omega
  · intro b hb
    rcases hb with hb | rfl
    · obtain ⟨h1, h2, h3⟩ := e.d b hb
      refine ⟨h1, by omega, fun e2 => ?_⟩
      rcases hv2 b e2.symm with h4 | h4
      · exact h3 h4.symm
      · omega
    · exact ⟨hg, by omega, fun e2 => hv2g e2.symm⟩
  · intro u hu
    rcases List.mem_append.1 hu with hu | hu
    · obtain ⟨h1, h2, h3⟩ := e.ho u (by simp [hu])
      exact ⟨(h1.low hlow).low hWlow, .inl h2, hopen _ _ (h3.of (hD _ h2))⟩
    · obtain ⟨j, hj, rfl⟩ := kidsH_mem hu
      exact ⟨(hqi _ (List.getElem_mem hj)).low hWlow, .inr rfl, hopen _ _ (hgo j hj)⟩
  · rw [List.map_append, List.nodup_append]
    refine ⟨hndA.1, ?_, fun a ha b hb e2 => ?_⟩
    · rw [List.nodup_iff_pairwise_ne, List.pairwise_map, List.pairwise_iff_getElem]
      intro i j hi hj hij
      have hi' : i < q.l.length := by rwa [kidsH_length] at hi
      have hj' : j < q.l.length := by rwa [kidsH_length] at hj
      rw [kidsH_at g q.l i hi hi', kidsH_at g q.l j hj hj']
      intro e2
      have : i = j := congrArg Prod.snd e2
      omega
    · obtain ⟨u, hu, rfl⟩ := List.mem_map.1 ha
      obtain ⟨k, hk2, rfl⟩ := List.mem_map.1 hb
      obtain ⟨j, hj, rfl⟩ := kidsH_mem hk2
      have h1 := (e.d u.b (e.ho u (by simp [hu])).2.1).2.1
      have h2 : u.b = g := congrArg Prod.fst e2
      omega
  · intro w' hE hL
    refine e.k w' (fun b i hb hni => ?_) (fun u hu => ?_)
    · have hbs := (e.d b hb).2.1
      have hni2 : ¬ inHole (us ++ kidsH g q.l) b i := by
        rintro ⟨u, hu, h1, h2, h3⟩
        rcases List.mem_append.1 hu with hu | hu
        · exact hni ⟨u, by simp [hu], h1, h2, h3⟩
        · obtain ⟨j, hj, rfl⟩ := kidsH_mem hu
          simp only at h1
          omega
      rw [hE b i (.inl hb) hni2]
      have h2 : w2.cell? ⟨b, i, none⟩ = w.cell? ⟨b, i, none⟩ := World.cell?_of_block (a := ⟨b, i, none⟩) (hD b hb)
      by_cases eb : b = h.b
      · subst eb
        have hr : i < h.j * 7 ∨ h.j * 7 + 7 ≤ i := by
          by_cases h3 : i < h.j * 7
          · exact .inl h3
          · refine .inr (Nat.le_of_not_lt fun h4 => hni ⟨h, by simp, rfl, by omega, by omega⟩)
        rw [hoth i hr, h2]
      · rw [World.cell?_of_block (a := ⟨b, i, none⟩) (hk.block b (by omega) eb (by simp)), h2]
    · rcases List.mem_append.1 hu with hu | hu
      · exact hL u (by simp [hu])
      · rcases List.mem_singleton.1 hu with rfl
        have hex : ∀ j, j < q.l.length → ∃ y : TT, At7 w' g (j * 7) y ∧ y.In w' ∧ (∀ hj : j < q.l.length, y.tm = eraseM q.l[j].tm) ∧ y.Bl (B ≤ ·) := by
          intro j hj
          obtain ⟨y, h1, h2, h3, h4⟩ := hL ⟨q.l[j], g, j⟩ (List.mem_append.2 (.inr (by rw [← kidsH_at g q.l j (by rw [kidsH_length]; exact hj) hj]; exact List.getElem_mem _)))
          exact ⟨y, h1, h2, fun _ => h3, h4⟩
        haveI : Inhabited TT := ⟨tleaf 0 0⟩
        obtain ⟨T, hT⟩ := Go.Deep.choose_lt hex
        have hlen : ((List.range q.l.length).map T).length = q.l.length := by simp
        have hcell : ∀ i, i < 7 → w'.cell? ⟨u.b, u.j * 7 + i, none⟩ = W.cell? ⟨u.b, u.j * 7 + i, none⟩ := by
          intro i hi
          refine hE u.b _ (.inl hhD) ?_
          rintro ⟨z, hz, h1, h2, h3⟩
          rcases List.mem_append.1 hz with hz | hz
          · exact hne z hz ⟨h1, by omega⟩
          · obtain ⟨j, hj, rfl⟩ := kidsH_mem hz
            simp only at h1
            omega
        refine ⟨⟨q.k, q.n, leaf 0, leaf 0, some ⟨g, 0, none⟩, q.l.length, (List.range q.l.length).map T⟩, ?_, ?_, ?_, ?_⟩
        · obtain ⟨c0, c1, c2, c3, c4, c5, c6⟩ := h7
          refine ⟨(hcell 0 (by omega)).trans c0, (hcell 1 (by omega)).trans c1, (hcell 2 (by omega)).trans c2, (hcell 3 (by omega)).trans c3, (hcell 4 (by omega)).trans c4, (hcell 5 (by omega)).trans c5, ?_⟩
          rw [hcell 6 (by omega), c6]
          simp
        · refine TT.In_mk.2 ⟨leaf_in _ _, leaf_in _ _, fun j hj => ⟨g, 0, rfl, ?_⟩, fun y hy => ?_⟩
          · have hj' : j < q.l.length := by simpa using hj
            simpa using (hT j hj').1
          · obtain ⟨j, hj, rfl⟩ := List.mem_map.1 hy
            exact (hT j (by simpa using hj)).2.1
        · rw [hq, TT.tm_mk, leaf_ty]
          have : ((List.range q.l.length).map T).map TT.tm = (q.l.map TT.tm).map eraseM := by
            apply List.ext_getElem
            · simp
            · intro j h1 h2
              have hj' : j < q.l.length := by simpa using h1
              simp only [List.getElem_map, List.getElem_range]
              exact (hT j hj').2.2.1 hj'
          rw [this]
          rfl
        · refine TT.Bl_mk.2 ⟨leaf_bl _ _, leaf_bl _ _, fun _ z hz => by cases hz; exact hg, fun y hy => ?_⟩
          obtain ⟨j, hj, rfl⟩ := List.mem_map.1 hy
          exact (hT j (by simpa using hj)).2.2.2
end Go.Proofs.YtnddkmccagiclabGreatDoor

/-
  What the call of check's Erase answers: a term without casts and types.
-/
namespace Go.Proofs.YtnddkmccagiclabGreatDoor
open Go.RowKit
theorem Tryz.info82 : (Tryz.prog.info? 82).map (fun i => (i.zero, i.size, i.bytes)) = some (some (.agg #[.int .i64 0, .int .i64 0, .int .i64 0, .slice none 0 0, .int .i64 0, .slice none 0 0, .slice none 0 0, .pointer none]), 8, 112) := by kernel_rfl
def massH (hs : List Ho) : Nat := (hs.map fun h => h.p.sz).sum
theorem massH_len (hs : List Ho) : hs.length ≤ massH hs := by
  induction hs with
  | nil => simp
  | cons p r ih => have := p.p.sz_pos; simp only [massH, List.map_cons, List.sum_cons, List.length_cons] at ih ⊢; omega
theorem massH_kids (g : Nat) (l : List TT) : massH (kidsH g l) = (l.map TT.sz).sum := by
  have : (kidsH g l).map (fun h => h.p.sz) = l.map TT.sz := by
    apply List.ext_getElem
    · simp [kidsH_length]
    · intro j h1 h2
      have hj : j < l.length := by simpa using h2
      simp only [List.getElem_map]
      rw [kidsH_at g l j (by rw [kidsH_length]; exact hj) hj]
  rw [massH, this]
theorem kidsH_snoc (g : Nat) (l : List TT) (j : Nat) (h : j < l.length) : (kidsH g l).take (j + 1) = (kidsH g l).take j ++ [⟨l[j], g, j⟩] := by
  rw [take_snoc _ _ (by rw [kidsH_length]; exact h), kidsH_at g l j (by rw [kidsH_length]; exact h) h]
theorem Open7.new (w : World) (n j : Nat) (h : j < n) : Open7 (w.alloc (.cells (madeCells #[.int .i64 0, .int .i64 0, .int .i64 0, .slice none 0 0, .int .i64 0, .slice none 0 0, .slice none 0 0] (n * 7)) 27)) w.heap.size j := fun i hi => by
  have hs : j * 7 + i < (madeCells #[.int .i64 0, .int .i64 0, .int .i64 0, .slice none 0 0, .int .i64 0, .slice none 0 0, .slice none 0 0] (n * 7)).size := by rw [size_madeCells]; omega
  exact ⟨⟨(madeCells #[.int .i64 0, .int .i64 0, .int .i64 0, .slice none 0 0, .int .i64 0, .slice none 0 0, .slice none 0 0] (n * 7))[j * 7 + i], by simp [go_sem, hs]⟩, by simp [go_sem]⟩
/-- While the parts are put behind. -/
structure EN (B g0 : Nat) (us ks : List Ho) (W4 : World) (v : Value) (j : Nat) (W : World) : Prop where
  own : W.ownsRow B 82 8 v (us ++ ks.take j).length (cells8 (us ++ ks.take j))
  low : Below B W4 W
  fr : ∀ b, b < W4.heap.size → b ≠ g0 → W.heap[b]? = W4.heap[b]?
  ob : ∀ b, v.ownBlock = some b → b = g0 ∨ W4.heap.size ≤ b
  sz : W4.heap.size ≤ W.heap.size
theorem EN.push {B g0 N cap1 gg : Nat} {us ks : List Ho} {W4 W W3 : World} {v : Value} {j : Nat} {k : Ho} {X Y : Obj} {xs : List Value} (e : EN B g0 us ks W4 v j W) (hB : B ≤ W4.heap.size) (hks : ks.take (j + 1) = ks.take j ++ [k]) (hN : (us ++ ks.take j).length = N) (hxs : cells8 (us ++ ks.take j) = xs)
    (hown : W3.ownsRow B 82 8 (.slice (some ⟨gg, 0, none⟩) (N + 1) cap1) (N + 1) (xs ++ cell8 k)) (hgrow : (((W.alloc X).alloc Y).drew).grownBy W3 v.ownBlock) (hat : v.ownBlock = some gg ∨ gg = W.heap.size + 1 + 1) : EN B g0 us ks W4 (.slice (some ⟨gg, 0, none⟩) (N + 1) cap1) (j + 1) W3 := by
  have hs := hgrow.size
  have hs0 : (((W.alloc X).alloc Y).drew).heap.size = W.heap.size + 1 + 1 := by simp
  have hblk : ∀ b, b < W.heap.size → some b ≠ v.ownBlock → W3.heap[b]? = W.heap[b]? := fun b hb hn => by
    rw [hgrow.block b (by omega) hn]
    have h1 : Below W.heap.size W (((W.alloc X).alloc Y).drew) := (((Below.refl _ W).alloc (Nat.le_refl _) X).alloc (by simp) Y).drew
    exact h1.block b hb
  have hsz := e.sz
  refine ⟨?_, ?_, fun b hb hn => ?_, fun b hb => ?_, by omega⟩
  · rw [hks, ← List.append_assoc, List.length_append, List.length_singleton, cells8_append, cells8_one, hN, hxs]
    exact hown
  · refine ⟨(hgrow.os.trans rfl).trans e.low.os, (hgrow.tape.trans rfl).trans e.low.tape, (hgrow.output.trans rfl).trans e.low.output, by omega, fun b hb => ?_⟩
    refine (hblk b (by omega) fun e2 => ?_).trans (e.low.block b hb)
    have := (e.own.lt b e2.symm).1
    omega
  · refine (hblk b (by omega) fun e2 => ?_).trans (e.fr b hb hn)
    rcases e.ob b e2.symm with h | h
    · exact hn h
    · omega
  · have hb' : gg = b := Option.some.inj hb
    rcases hat with h | h
    · exact e.ob b (by rw [← hb']; exact h)
    · omega
set_option maxRecDepth 20000 in
set_option maxHeartbeats 16000000 in
/-- Erase. -/
theorem erase_any (x : TT) (w : World) (hx : x.In w) (hsz : x.sz ≤ 1000) :
    Calls Tryz.prog 30 #[.agg #[.int .i64 x.k, .int .i64 x.n, .int .i64 x.t.k, .slice x.t.a x.t.l.length x.t.c, .int .i64 x.f.k, .slice x.f.a x.f.l.length x.f.c, .slice x.a x.l.length x.c]] w fun e w' => ∃ y : TT, e = .returned (.agg #[.int .i64 y.k, .int .i64 y.n, .int .i64 y.t.k, .slice y.t.a y.t.l.length y.t.c, .int .i64 y.f.k, .slice y.f.a y.f.l.length y.f.c, .slice y.a y.l.length y.c]) ∧ y.In w' ∧ y.tm = eraseM x.tm ∧ Below w.heap.size w w' := by
  obtain ⟨i0, hi0, hz0, hz1, hz2⟩ := info_parts Tryz.info27c
  obtain ⟨j0, hj0, hy0, hy1, hy2⟩ := info_parts Tryz.info82
  obtain ⟨W1, hW1⟩ : ∃ W1, W1 = ((((w.alloc (.cells #[.int .i64 x.k, .int .i64 x.n, .int .i64 x.t.k, .slice x.t.a x.t.l.length x.t.c, .int .i64 x.f.k, .slice x.f.a x.f.l.length x.f.c, .slice x.a x.l.length x.c] 27)).alloc (.cells #[.int .i64 0, .int .i64 0, .int .i64 0, .slice none 0 0, .int .i64 0, .slice none 0 0, .slice none 0 0] 27)).alloc (.cells #[.int .i64 0, .int .i64 0, .int .i64 0, .slice none 0 0, .int .i64 0, .slice none 0 0, .slice none 0 0] 27)).alloc (.cells #[.int .i64 x.k, .int .i64 x.n, .int .i64 x.t.k, .slice x.t.a x.t.l.length x.t.c, .int .i64 x.f.k, .slice x.f.a x.f.l.length x.f.c, .slice x.a x.l.length x.c, .pointer (some ⟨(w.heap.size + 1 + 1), 0, none⟩)] 82)) := ⟨_, rfl⟩
  have hb1 : Below w.heap.size w W1 := by rw [hW1]; exact ((((Below.refl _ _).alloc (Nat.le_refl _) _).alloc (by simp) _).alloc (by simp; omega) _).alloc (by simp; omega) _
  have hs1 : W1.heap.size = w.heap.size + 1 + 1 + 1 + 1 := by rw [hW1]; simp
  have hz1' : ZB7 W1 (w.heap.size + 1) := by
    rw [hW1]
    refine ⟨⟨?_, ?_, ?_, ?_, ?_, ?_, ?_⟩, ?_, ?_, ?_, ?_, ?_, ?_, ?_⟩ <;> simp [go_sem]
  obtain ⟨B, hB⟩ : ∃ B, (w.heap.size + 1 + 1) = B := ⟨_, rfl⟩
  have HL : Hid (EI B (eraseM x.tm) (w.heap.size + 1 + 1) (.slice (some ⟨w.heap.size + 1 + 1 + 1, 0, none⟩) 1 1) [⟨x, B, 0⟩] (fun b => b = B) W1 ∧ Below B W1 W1 ∧ massH [⟨x, B, 0⟩] ≤ 1000 ∧ B ≤ W1.heap.size) := by
    have hh := heap_alloc_new (((w.alloc (.cells #[.int .i64 x.k, .int .i64 x.n, .int .i64 x.t.k, .slice x.t.a x.t.l.length x.t.c, .int .i64 x.f.k, .slice x.f.a x.f.l.length x.f.c, .slice x.a x.l.length x.c] 27)).alloc (.cells #[.int .i64 0, .int .i64 0, .int .i64 0, .slice none 0 0, .int .i64 0, .slice none 0 0, .slice none 0 0] 27)).alloc (.cells #[.int .i64 0, .int .i64 0, .int .i64 0, .slice none 0 0, .int .i64 0, .slice none 0 0, .slice none 0 0] 27)) (.cells #[.int .i64 x.k, .int .i64 x.n, .int .i64 x.t.k, .slice x.t.a x.t.l.length x.t.c, .int .i64 x.f.k, .slice x.f.a x.f.l.length x.f.c, .slice x.a x.l.length x.c, .pointer (some ⟨(w.heap.size + 1 + 1), 0, none⟩)] 82)
    rw [← hW1] at hh
    simp only [World.size_alloc] at hh
    have hopn : Open7 W1 B 0 := by
      intro i hi
      obtain rfl | rfl | rfl | rfl | rfl | rfl | rfl : i = 0 ∨ i = 1 ∨ i = 2 ∨ i = 3 ∨ i = 4 ∨ i = 5 ∨ i = 6 := by omega
      all_goals exact ⟨⟨_, by rw [hW1, ← hB]; simp [go_sem]; rfl⟩, by rw [hW1, ← hB]; simp [go_sem]⟩
    refine ⟨⟨⟨rfl, .inr ⟨_, 1, _, rfl, by omega, hh, Nat.le_refl _, by unfold maxLen; omega, rfl, ?_⟩⟩, ?_, ?_, by simp, ?_⟩, Below.refl _ _, by simpa [massH] using hsz, by omega⟩
    · simp [cells8, cell8, hB]
    · rintro b rfl
      exact ⟨Nat.le_refl _, by omega, fun e => by have := Option.some.inj e; simp at this; omega⟩
    · intro h hh
      rcases List.mem_singleton.1 hh with rfl
      exact ⟨⟨hx.below hb1, hx.bl.mono fun b h => by omega⟩, rfl, hopn⟩
    · intro w' _ hL
      have := hL ⟨x, B, 0⟩ (by simp)
      rw [hB]
      exact this
  have HX : Hid (Below w.heap.size w W1 ∧ W1.heap.size = w.heap.size + 1 + 1 + 1 + 1 ∧ ZB7 W1 (w.heap.size + 1) ∧ (w.heap.size + 1 + 1) = B) := ⟨hb1, hs1, hz1', hB⟩
  have r0 : (((w.alloc (.cells #[.int .i64 x.k, .int .i64 x.n, .int .i64 x.t.k, .slice x.t.a x.t.l.length x.t.c, .int .i64 x.f.k, .slice x.f.a x.f.l.length x.f.c, .slice x.a x.l.length x.c] 27)).alloc (.cells #[.int .i64 0, .int .i64 0, .int .i64 0, .slice none 0 0, .int .i64 0, .slice none 0 0, .slice none 0 0] 27)).alloc (.cells #[.int .i64 0, .int .i64 0, .int .i64 0, .slice none 0 0, .int .i64 0, .slice none 0 0, .slice none 0 0] 27)).cell? ⟨w.heap.size, 0, none⟩ = some (.int .i64 x.k) := by simp [go_sem]
  have r1 : (((w.alloc (.cells #[.int .i64 x.k, .int .i64 x.n, .int .i64 x.t.k, .slice x.t.a x.t.l.length x.t.c, .int .i64 x.f.k, .slice x.f.a x.f.l.length x.f.c, .slice x.a x.l.length x.c] 27)).alloc (.cells #[.int .i64 0, .int .i64 0, .int .i64 0, .slice none 0 0, .int .i64 0, .slice none 0 0, .slice none 0 0] 27)).alloc (.cells #[.int .i64 0, .int .i64 0, .int .i64 0, .slice none 0 0, .int .i64 0, .slice none 0 0, .slice none 0 0] 27)).cell? ⟨w.heap.size, 1, none⟩ = some (.int .i64 x.n) := by simp [go_sem]
  have r2 : (((w.alloc (.cells #[.int .i64 x.k, .int .i64 x.n, .int .i64 x.t.k, .slice x.t.a x.t.l.length x.t.c, .int .i64 x.f.k, .slice x.f.a x.f.l.length x.f.c, .slice x.a x.l.length x.c] 27)).alloc (.cells #[.int .i64 0, .int .i64 0, .int .i64 0, .slice none 0 0, .int .i64 0, .slice none 0 0, .slice none 0 0] 27)).alloc (.cells #[.int .i64 0, .int .i64 0, .int .i64 0, .slice none 0 0, .int .i64 0, .slice none 0 0, .slice none 0 0] 27)).cell? ⟨w.heap.size, 2, none⟩ = some (.int .i64 x.t.k) := by simp [go_sem]
  have r3 : (((w.alloc (.cells #[.int .i64 x.k, .int .i64 x.n, .int .i64 x.t.k, .slice x.t.a x.t.l.length x.t.c, .int .i64 x.f.k, .slice x.f.a x.f.l.length x.f.c, .slice x.a x.l.length x.c] 27)).alloc (.cells #[.int .i64 0, .int .i64 0, .int .i64 0, .slice none 0 0, .int .i64 0, .slice none 0 0, .slice none 0 0] 27)).alloc (.cells #[.int .i64 0, .int .i64 0, .int .i64 0, .slice none 0 0, .int .i64 0, .slice none 0 0, .slice none 0 0] 27)).cell? ⟨w.heap.size, 3, none⟩ = some (.slice x.t.a x.t.l.length x.t.c) := by simp [go_sem]
  have r4 : (((w.alloc (.cells #[.int .i64 x.k, .int .i64 x.n, .int .i64 x.t.k, .slice x.t.a x.t.l.length x.t.c, .int .i64 x.f.k, .slice x.f.a x.f.l.length x.f.c, .slice x.a x.l.length x.c] 27)).alloc (.cells #[.int .i64 0, .int .i64 0, .int .i64 0, .slice none 0 0, .int .i64 0, .slice none 0 0, .slice none 0 0] 27)).alloc (.cells #[.int .i64 0, .int .i64 0, .int .i64 0, .slice none 0 0, .int .i64 0, .slice none 0 0, .slice none 0 0] 27)).cell? ⟨w.heap.size, 4, none⟩ = some (.int .i64 x.f.k) := by simp [go_sem]
  have r5 : (((w.alloc (.cells #[.int .i64 x.k, .int .i64 x.n, .int .i64 x.t.k, .slice x.t.a x.t.l.length x.t.c, .int .i64 x.f.k, .slice x.f.a x.f.l.length x.f.c, .slice x.a x.l.length x.c] 27)).alloc (.cells #[.int .i64 0, .int .i64 0, .int .i64 0, .slice none 0 0, .int .i64 0, .slice none 0 0, .slice none 0 0] 27)).alloc (.cells #[.int .i64 0, .int .i64 0, .int .i64 0, .slice none 0 0, .int .i64 0, .slice none 0 0, .slice none 0 0] 27)).cell? ⟨w.heap.size, 5, none⟩ = some (.slice x.f.a x.f.l.length x.f.c) := by simp [go_sem]
  have r6 : (((w.alloc (.cells #[.int .i64 x.k, .int .i64 x.n, .int .i64 x.t.k, .slice x.t.a x.t.l.length x.t.c, .int .i64 x.f.k, .slice x.f.a x.f.l.length x.f.c, .slice x.a x.l.length x.c] 27)).alloc (.cells #[.int .i64 0, .int .i64 0, .int .i64 0, .slice none 0 0, .int .i64 0, .slice none 0 0, .slice none 0 0] 27)).alloc (.cells #[.int .i64 0, .int .i64 0, .int .i64 0, .slice none 0 0, .int .i64 0, .slice none 0 0, .slice none 0 0] 27)).cell? ⟨w.heap.size, 6, none⟩ = some (.slice x.a x.l.length x.c) := by simp [go_sem]
  clear hx hsz hb1 hs1 hz1' hB
  go_enter Tryz.func30, Tryz.ntmps30
  go_wp2_with fail
  rw [← hW1]
  clear hW1 r0 r1 r2 r3 r4 r5 r6
  go_loopg [4] (massH [⟨x, B, 0⟩]) (fun k s4 wr => ∃ (v : Value) (hs : List Ho) (D : Nat → Prop), v = s4 ∧ k = massH hs ∧ Hid (EI B (eraseM x.tm) (w.heap.size + 1 + 1) v hs D wr ∧ Below B W1 wr ∧ massH hs ≤ 1000 ∧ B ≤ wr.heap.size))
  case atStart => exact ⟨_, [⟨x, B, 0⟩], _, rfl, rfl, HL⟩
  case round =>
    obtain ⟨v, hs, D, hv, hk, HR⟩ := hrel
    subst hv
    have HK : Hid (gk = massH hs) := hk
    clear hk HL
    by_cases hne : hs = []
    · subst hne
      obtain ⟨a, c', rfl⟩ : ∃ a c, v = .slice a 0 c := by
        rcases HR.out.1.own.2 with ⟨rfl, _⟩ | ⟨g, cap, cur, rfl, _⟩
        · exact ⟨_, _, rfl⟩
        · exact ⟨_, _, rfl⟩
      obtain ⟨y, h7, hyi, hyt, hyb⟩ := HR.out.1.ends
      obtain ⟨hbW, hs1, hz1', hBe⟩ := HX.out
      have hzr : ZB7 wr (w.heap.size + 1) := hz1'.low HR.out.2.1 (by omega)
      have HN : Hid (∃ z : TT, Ending.returned (.agg #[.int .i64 y.k, .int .i64 y.n, .int .i64 y.t.k, .slice y.t.a y.t.l.length y.t.c, .int .i64 y.f.k, .slice y.f.a y.f.l.length y.f.c, .slice y.a y.l.length y.c]) = .returned (.agg #[.int .i64 z.k, .int .i64 z.n, .int .i64 z.t.k, .slice z.t.a z.t.l.length z.t.c, .int .i64 z.f.k, .slice z.f.a z.f.l.length z.f.c, .slice z.a z.l.length z.c]) ∧ z.In (put7 wr (w.heap.size + 1) y) ∧ z.tm = eraseM x.tm ∧ Below w.heap.size w (put7 wr (w.heap.size + 1) y)) := by
        have hk := put7_kept (w := wr) (J := w.heap.size + 1) (x := y)
        refine ⟨y, rfl, hyi.keptR hk (hyb.mono fun b hb => by omega), hyt, ?_⟩
        exact (hbW.trans (HR.out.2.1.mono (by omega))).trans ((hk.below (by simp) (Nat.le_of_lt hzr.lt)).mono (by omega))
      obtain ⟨e0, e1, e2, e3, e4, e5, e6⟩ := (put7_box (x := y) hzr.box).at7
      simp only [Nat.zero_add] at e0 e1 e2 e3 e4 e5 e6
      obtain ⟨q0, q1, q2, q3, q4, q5, q6⟩ := h7
      simp only [Nat.zero_mul, Nat.zero_add] at q0 q1 q2 q3 q4 q5 q6
      obtain ⟨⟨y0, y1, y2, y3, y4, y5, y6⟩, f0, f1, f2, f3, f4, f5, f6⟩ := hzr
      clear HR HK hyi hyt hyb hbW hs1 hz1' hBe HX
      go_wp2_with fail
      refine bodyPost_ret (v := .agg #[.int .i64 y.k, .int .i64 y.n, .int .i64 y.t.k, .slice y.t.a y.t.l.length y.t.c, .int .i64 y.f.k, .slice y.f.a y.f.l.length y.f.c, .slice y.a y.l.length y.c]) ?_ rfl HN.out
      unfold put7 at e0 e1 e2 e3 e4 e5 e6
      simp [results, Tryz.results30, go_sem, e0, e1, e2, e3, e4, e5, e6]
    · obtain ⟨us, h, rfl⟩ : ∃ us p, hs = us ++ [p] := ⟨hs.dropLast, hs.getLast hne, (List.dropLast_concat_getLast hne).symm⟩
      have ho := HR.out.1.own
      have hlen : (us ++ [h]).length = us.length + 1 := by simp
      rw [hlen] at ho
      obtain ⟨g0, cap, rfl, hg, hgl⟩ := ho.form (by omega)
      have hc : ∀ i, i < 8 → wr.cell? ⟨g0, us.length * 8 + i, none⟩ = ([.int .i64 h.p.k, .int .i64 h.p.n, .int .i64 h.p.t.k, .slice h.p.t.a h.p.t.l.length h.p.t.c, .int .i64 h.p.f.k, .slice h.p.f.a h.p.f.l.length h.p.f.c, .slice h.p.a h.p.l.length h.p.c, .pointer (some ⟨h.b, h.j * 7, none⟩)] : List Value)[i]? := by
        intro i hi
        rw [ho.cellAt (us.length * 8 + i) (by omega)]
        have := cells8_at (us ++ [h]) us.length (by simp) i hi
        rw [this]
        simp [cell8]
      have c0 : wr.cell? ⟨g0, us.length * 8, none⟩ = some (.int .i64 h.p.k) := (hc 0 (by omega)).trans rfl
      have c1 : wr.cell? ⟨g0, us.length * 8 + 1, none⟩ = some (.int .i64 h.p.n) := (hc 1 (by omega)).trans rfl
      have c2 : wr.cell? ⟨g0, us.length * 8 + 2, none⟩ = some (.int .i64 h.p.t.k) := (hc 2 (by omega)).trans rfl
      have c3 : wr.cell? ⟨g0, us.length * 8 + 3, none⟩ = some (.slice h.p.t.a h.p.t.l.length h.p.t.c) := (hc 3 (by omega)).trans rfl
      have c4 : wr.cell? ⟨g0, us.length * 8 + 4, none⟩ = some (.int .i64 h.p.f.k) := (hc 4 (by omega)).trans rfl
      have c5 : wr.cell? ⟨g0, us.length * 8 + 5, none⟩ = some (.slice h.p.f.a h.p.f.l.length h.p.f.c) := (hc 5 (by omega)).trans rfl
      have c6 : wr.cell? ⟨g0, us.length * 8 + 6, none⟩ = some (.slice h.p.a h.p.l.length h.p.c) := (hc 6 (by omega)).trans rfl
      have c7 : wr.cell? ⟨g0, us.length * 8 + 7, none⟩ = some (.pointer (some ⟨h.b, h.j * 7, none⟩)) := (hc 7 (by omega)).trans rfl
      have hcap : us.length + 1 ≤ cap := by
        rcases ho.2 with ⟨h, _⟩ | ⟨g', cap', cur, h, _, _, h1, _⟩
        · cases h
        · cases h; exact h1
      have hop : wr.ownsRow B 82 8 (.slice (some ⟨g0, 0, none⟩) us.length cap) us.length (cells8 us) := by
        rw [cells8_append] at ho
        exact ownsRow_pop (cells8_length us) ho
      have hms : massH (us ++ [h]) = massH us + h.p.sz := by simp [massH]
      have hml := HR.out.2.2.1
      have hus := massH_len us
      have i1 : (us.length : Int) < ((us.length : Int) + 1) := by omega
      have n1 : (us.length : Int) ≤ 1001 := by omega
      have n2 : (us.length : Int) ≤ (cap : Int) := by omega
      have n3 : (0 : Int) ≤ (us.length : Int) := by omega
      obtain ⟨⟨hpi, hpb⟩, hhD, hhO⟩ := HR.out.1.ho h (by simp)
      obtain ⟨OP, hOP⟩ : ∃ O, O = Obj.cells #[.int .i64 h.p.k, .int .i64 h.p.n, .int .i64 h.p.t.k, .slice h.p.t.a h.p.t.l.length h.p.t.c, .int .i64 h.p.f.k, .slice h.p.f.a h.p.f.l.length h.p.f.c, .slice h.p.a h.p.l.length h.p.c, .pointer (some ⟨h.b, h.j * 7, none⟩)] 82 := ⟨_, rfl⟩
      have hA : Below wr.heap.size wr (wr.alloc OP) := (Below.refl _ _).alloc (Nat.le_refl _) _
      have HIN : Hid (Calls Tryz.prog 47 #[.agg #[.int .i64 h.p.k, .int .i64 h.p.n, .int .i64 h.p.t.k, .slice h.p.t.a h.p.t.l.length h.p.t.c, .int .i64 h.p.f.k, .slice h.p.f.a h.p.f.l.length h.p.f.c, .slice h.p.a h.p.l.length h.p.c]] (wr.alloc OP) (InPost h.p (wr.alloc OP))) := inside_any h.p (wr.alloc OP) (hpi.below hA)
      have hBr := HR.out.2.2.2
      have HM : Hid (gk = massH us + h.p.sz ∧ massH us + h.p.sz ≤ 1000) := ⟨HK.out.trans hms, by rw [← hms]; exact hml⟩
      have HE : Hid (EI B (eraseM x.tm) (w.heap.size + 1 + 1) (.slice (some ⟨g0, 0, none⟩) (us.length + 1) cap) (us ++ [h]) D wr ∧ Below B W1 wr ∧ B ≤ wr.heap.size ∧ wr.ownsRow B 82 8 (.slice (some ⟨g0, 0, none⟩) us.length cap) us.length (cells8 us) ∧ g0 < wr.heap.size ∧ h.p.Bl (· < B)) := ⟨HR.out.1, HR.out.2.1, hBr, hop, hgl, hpb⟩
      clear ho hop HR HK hms hml hne hlen hus hc hA hpi hpb
      subst hOP
      go_wp2_with fail
      refine HIN.out.mono ?_
      rintro e w2 ⟨q, rfl, hqi, hqb, hqs, hqe, hb2⟩
      clear HIN c0 c1 c2 c3 c4 c5 c6 c7
      have hqB : q.Bl (· < B) := hqb _ HE.out.2.2.2.2.2
      have hql : q.l.length ≤ 1000 := by have h1 := q.sz_eq; have h2 := len_sum q.l; have h3 := HM.out.2; omega
      have hmk := makeT q.l.length hql
      obtain ⟨W4, hW4⟩ : ∃ W4, W4 = (w2.alloc (.cells #[.int .i64 q.k, .int .i64 q.n, .int .i64 q.t.k, .slice q.t.a q.t.l.length q.t.c, .int .i64 q.f.k, .slice q.f.a q.f.l.length q.f.c, .slice q.a q.l.length q.c] 27)).alloc (.cells (madeCells #[.int .i64 0, .int .i64 0, .int .i64 0, .slice none 0 0, .int .i64 0, .slice none 0 0, .slice none 0 0] (q.l.length * 7)) 27) := ⟨_, rfl⟩
      have hA4 : Below w2.heap.size w2 W4 := by rw [hW4]; exact ((Below.refl _ _).alloc (Nat.le_refl _) _).alloc (by simp) _
      have hs4 : W4.heap.size = w2.heap.size + 1 + 1 := by rw [hW4]; simp
      have hrs : wr.heap.size + 1 ≤ w2.heap.size := by have := hb2.size; simpa using this
      have hb24 := hb2.trans (hA4.mono hb2.size)
      have hr4 : Below wr.heap.size wr W4 := ((Below.refl _ _).alloc (Nat.le_refl _) _).trans (hb24.mono (by simp))
      have hnb7 : W4.cell? ⟨wr.heap.size, 7, none⟩ = some (.pointer (some ⟨h.b, h.j * 7, none⟩)) := (hb24.cell (p := ⟨wr.heap.size, 7, none⟩) (by simp)).trans (by simp [go_sem])
      have hq0 : W4.cell? ⟨w2.heap.size, 0, none⟩ = some (.int .i64 q.k) := by rw [hW4]; simp [go_sem]
      have hq1 : W4.cell? ⟨w2.heap.size, 1, none⟩ = some (.int .i64 q.n) := by rw [hW4]; simp [go_sem]
      have hq6 : W4.cell? ⟨w2.heap.size, 6, none⟩ = some (.slice q.a q.l.length q.c) := by rw [hW4]; simp [go_sem]
      have hgO : ∀ j, j < q.l.length → Open7 W4 (w2.heap.size + 1) j := fun j hj => by
        have := Open7.new (w2.alloc (.cells #[.int .i64 q.k, .int .i64 q.n, .int .i64 q.t.k, .slice q.t.a q.t.l.length q.t.c, .int .i64 q.f.k, .slice q.f.a q.f.l.length q.f.c, .slice q.a q.l.length q.c] 27)) q.l.length j hj
        rw [← hW4] at this
        simpa using this
      have HQQ : Hid (q.In W4 ∧ q.Bl (· < B) ∧ q.sz ≤ h.p.sz ∧ eraseM h.p.tm = ⟨q.k, q.n, anyY, anyY, (q.l.map TT.tm).map eraseM⟩ ∧ Below wr.heap.size wr W4 ∧ (∀ j, j < q.l.length → Open7 W4 (w2.heap.size + 1) j) ∧ W4.heap.size = w2.heap.size + 1 + 1 ∧ wr.heap.size + 1 ≤ w2.heap.size) := ⟨hqi.below hA4, hqB, hqs, hqe, hr4, hgO, hs4, hrs⟩
      have HNB : Hid (W4.cell? ⟨wr.heap.size, 7, none⟩ = some (.pointer (some ⟨h.b, h.j * 7, none⟩)) ∧ W4.cell? ⟨w2.heap.size, 0, none⟩ = some (.int .i64 q.k) ∧ W4.cell? ⟨w2.heap.size, 1, none⟩ = some (.int .i64 q.n) ∧ W4.cell? ⟨w2.heap.size, 6, none⟩ = some (.slice q.a q.l.length q.c)) := ⟨hnb7, hq0, hq1, hq6⟩
      have HL0 : Hid (EN B g0 us (kidsH (w2.heap.size + 1) q.l) W4 (Value.slice (some ⟨g0, 0, none⟩) us.length cap) 0 W4) := by
        obtain ⟨he, hbW, hBr, hop, hgl, _⟩ := HE.out
        refine ⟨?_, Below.refl _ _, fun _ _ _ => rfl, fun b hb => .inl (Option.some.inj hb).symm, Nat.le_refl _⟩
        have := ownsRow_low hop hr4
        simpa using this
      clear hqi hqb hqs hqe hb2 hqB hA4 hb24 hr4 hgO hs4 hrs hnb7 hq0 hq1
      go_wp2_with fail
      rw [← hW4]
      clear hW4 hmk hq6
      obtain ⟨W0, hW0⟩ : ∃ W, W = wr := ⟨_, rfl⟩
      subst hW0
      obtain ⟨K0, hK0⟩ : ∃ K, K = gk := ⟨_, rfl⟩
      subst hK0
      go_loopg [4, 37] q.l.length (fun c s4 s37 wi => ∃ (j : Nat) (v' : Value), c + j = q.l.length ∧ v' = s4 ∧ s37 = .int .i64 (j : Int) ∧ Hid (EN B g0 us (kidsH (w2.heap.size + 1) q.l) W4 v' j wi))
      case atStart => exact ⟨0, _, by omega, rfl, rfl, HL0⟩
      case round =>
        obtain ⟨j, v', hj, hv', rfl, HQ⟩ := hrel
        subst hv'
        clear HL0
        obtain ⟨wi, hwi⟩ : ∃ W, W = wr := ⟨_, rfl⟩
        subst hwi
        by_cases hlt : j < q.l.length
        · obtain ⟨yb, yo, ea, h7, hyi⟩ := HQQ.out.1.part j hlt
          have hybB : yb < B := HQQ.out.2.1.own (fun e => by rw [e] at hlt; simp at hlt) _ ea
          obtain ⟨y, hye⟩ : ∃ y, q.l[j] = y := ⟨_, rfl⟩
          rw [hye] at h7 hyi
          obtain ⟨d0, d1, d2, d3, d4, d5, d6⟩ := h7.of fun i => HQ.out.low.cell (p := ⟨yb, i, none⟩) hybB
          have i1' : (j : Int) < (q.l.length : Int) := by omega
          have i0' : (0 : Int) ≤ (j : Int) := by omega
          have HEA : Hid (q.a = some ⟨yb, yo, none⟩) := ea
          rw [ea]
          obtain ⟨WY, hWY⟩ : ∃ W, W = wi.alloc (.cells #[.int .i64 y.k, .int .i64 y.n, .int .i64 y.t.k, .slice y.t.a y.t.l.length y.t.c, .int .i64 y.f.k, .slice y.f.a y.f.l.length y.f.c, .slice y.a y.l.length y.c] 27) := ⟨_, rfl⟩
          have hYs : WY.heap.size = wi.heap.size + 1 := by rw [hWY]; simp
          have hAY : Below wi.heap.size wi WY := by rw [hWY]; exact (Below.refl _ _).alloc (Nat.le_refl _) _
          have HS : Hid (∀ W', Below WY.heap.size WY W' → W'.cell? ⟨wi.heap.size, 0, none⟩ = some (.int .i64 y.k) ∧ W'.cell? ⟨wi.heap.size, 1, none⟩ = some (.int .i64 y.n) ∧ W'.cell? ⟨wi.heap.size, 2, none⟩ = some (.int .i64 y.t.k) ∧ W'.cell? ⟨wi.heap.size, 3, none⟩ = some (.slice y.t.a y.t.l.length y.t.c) ∧ W'.cell? ⟨wi.heap.size, 4, none⟩ = some (.int .i64 y.f.k) ∧ W'.cell? ⟨wi.heap.size, 5, none⟩ = some (.slice y.f.a y.f.l.length y.f.c) ∧ W'.cell? ⟨wi.heap.size, 6, none⟩ = some (.slice y.a y.l.length y.c)) := by
            intro W' hb
            have h7' : At7 WY wi.heap.size 0 y := by rw [hWY]; exact At7.new wi y
            obtain ⟨c0, c1, c2, c3, c4, c5, c6⟩ := h7'.below hb
            simp only [Nat.zero_add] at c0 c1 c2 c3 c4 c5 c6
            exact ⟨c0, c1, c2, c3, c4, c5, c6⟩
          have HS0 : Hid (WY.cell? ⟨wi.heap.size, 0, none⟩ = some (.int .i64 y.k) ∧ WY.cell? ⟨wi.heap.size, 1, none⟩ = some (.int .i64 y.n) ∧ WY.cell? ⟨wi.heap.size, 2, none⟩ = some (.int .i64 y.t.k) ∧ WY.cell? ⟨wi.heap.size, 3, none⟩ = some (.slice y.t.a y.t.l.length y.t.c) ∧ WY.cell? ⟨wi.heap.size, 4, none⟩ = some (.int .i64 y.f.k) ∧ WY.cell? ⟨wi.heap.size, 5, none⟩ = some (.slice y.f.a y.f.l.length y.f.c) ∧ WY.cell? ⟨wi.heap.size, 6, none⟩ = some (.slice y.a y.l.length y.c)) := HS.out _ (Below.refl _ _)
          have HS1 : Hid (WY.drew.cell? ⟨wi.heap.size, 0, none⟩ = some (.int .i64 y.k) ∧ WY.drew.cell? ⟨wi.heap.size, 1, none⟩ = some (.int .i64 y.n) ∧ WY.drew.cell? ⟨wi.heap.size, 2, none⟩ = some (.int .i64 y.t.k) ∧ WY.drew.cell? ⟨wi.heap.size, 3, none⟩ = some (.slice y.t.a y.t.l.length y.t.c) ∧ WY.drew.cell? ⟨wi.heap.size, 4, none⟩ = some (.int .i64 y.f.k) ∧ WY.drew.cell? ⟨wi.heap.size, 5, none⟩ = some (.slice y.f.a y.f.l.length y.f.c) ∧ WY.drew.cell? ⟨wi.heap.size, 6, none⟩ = some (.slice y.a y.l.length y.c)) := HS.out _ ((Below.refl _ _).drew)
          have HSA : Hid (∀ X, (WY.drew.alloc X).cell? ⟨wi.heap.size, 0, none⟩ = some (.int .i64 y.k) ∧ (WY.drew.alloc X).cell? ⟨wi.heap.size, 1, none⟩ = some (.int .i64 y.n) ∧ (WY.drew.alloc X).cell? ⟨wi.heap.size, 2, none⟩ = some (.int .i64 y.t.k) ∧ (WY.drew.alloc X).cell? ⟨wi.heap.size, 3, none⟩ = some (.slice y.t.a y.t.l.length y.t.c) ∧ (WY.drew.alloc X).cell? ⟨wi.heap.size, 4, none⟩ = some (.int .i64 y.f.k) ∧ (WY.drew.alloc X).cell? ⟨wi.heap.size, 5, none⟩ = some (.slice y.f.a y.f.l.length y.f.c) ∧ (WY.drew.alloc X).cell? ⟨wi.heap.size, 6, none⟩ = some (.slice y.a y.l.length y.c)) := fun X => HS.out _ (((Below.refl _ _).drew).alloc (Nat.le_refl _) X)
          have HSB : Hid (∀ X, (WY.alloc X).drew.cell? ⟨wi.heap.size, 0, none⟩ = some (.int .i64 y.k) ∧ (WY.alloc X).drew.cell? ⟨wi.heap.size, 1, none⟩ = some (.int .i64 y.n) ∧ (WY.alloc X).drew.cell? ⟨wi.heap.size, 2, none⟩ = some (.int .i64 y.t.k) ∧ (WY.alloc X).drew.cell? ⟨wi.heap.size, 3, none⟩ = some (.slice y.t.a y.t.l.length y.t.c) ∧ (WY.alloc X).drew.cell? ⟨wi.heap.size, 4, none⟩ = some (.int .i64 y.f.k) ∧ (WY.alloc X).drew.cell? ⟨wi.heap.size, 5, none⟩ = some (.slice y.f.a y.f.l.length y.f.c) ∧ (WY.alloc X).drew.cell? ⟨wi.heap.size, 6, none⟩ = some (.slice y.a y.l.length y.c)) := fun X => HS.out _ (((Below.refl _ _).alloc (Nat.le_refl _) X).drew)
          obtain ⟨N, hN⟩ : ∃ N, (us ++ (kidsH (w2.heap.size + 1) q.l).take j).length = N := ⟨_, rfl⟩
          obtain ⟨xs, hxs⟩ : ∃ xs, cells8 (us ++ (kidsH (w2.heap.size + 1) q.l).take j) = xs := ⟨_, rfl⟩
          have hNb : N ≤ 2002 := by
            rw [← hN, List.length_append, List.length_take]
            have h1 := massH_len us
            have h2 := HM.out.2
            omega
          have hou : v'.ownBlock ≠ some wi.heap.size := fun e => by have := (HQ.out.own.lt _ e).2; omega
          have uo : WY.ownsRow B 82 8 v' N xs := by
            rw [← hN, ← hxs]
            exact ownsRow_low HQ.out.own hAY
          have hnew : ((WY.alloc (.cells #[.int .i64 y.k, .int .i64 y.n, .int .i64 y.t.k, .slice y.t.a y.t.l.length y.t.c, .int .i64 y.f.k, .slice y.f.a y.f.l.length y.f.c, .slice y.a y.l.length y.c, .pointer (some ⟨w2.heap.size + 1, j * 7, none⟩)] 82)).drew).heap[WY.heap.size]? = some (.cells #[.int .i64 y.k, .int .i64 y.n, .int .i64 y.t.k, .slice y.t.a y.t.l.length y.t.c, .int .i64 y.f.k, .slice y.f.a y.f.l.length y.f.c, .slice y.a y.l.length y.c, .pointer (some ⟨w2.heap.size + 1, j * 7, none⟩)] 82) := heap_alloc_new WY (.cells #[.int .i64 y.k, .int .i64 y.n, .int .i64 y.t.k, .slice y.t.a y.t.l.length y.t.c, .int .i64 y.f.k, .slice y.f.a y.f.l.length y.f.c, .slice y.a y.l.length y.c, .pointer (some ⟨w2.heap.size + 1, j * 7, none⟩)] 82)
          have hBw : B ≤ WY.heap.size := by
            have h1 := HE.out.2.2.1
            have h2 := HQ.out.sz
            have h3 := HQQ.out.2.2.2.2.1.size
            show B ≤ WY.heap.size
            omega
          have HSG : Hid (∀ (w7 : World) (X : Obj), ((WY.alloc X).drew).grownBy w7 v'.ownBlock → w7.cell? ⟨wi.heap.size, 0, none⟩ = some (.int .i64 y.k) ∧ w7.cell? ⟨wi.heap.size, 1, none⟩ = some (.int .i64 y.n) ∧ w7.cell? ⟨wi.heap.size, 2, none⟩ = some (.int .i64 y.t.k) ∧ w7.cell? ⟨wi.heap.size, 3, none⟩ = some (.slice y.t.a y.t.l.length y.t.c) ∧ w7.cell? ⟨wi.heap.size, 4, none⟩ = some (.int .i64 y.f.k) ∧ w7.cell? ⟨wi.heap.size, 5, none⟩ = some (.slice y.f.a y.f.l.length y.f.c) ∧ w7.cell? ⟨wi.heap.size, 6, none⟩ = some (.slice y.a y.l.length y.c)) := by
            intro w7 X hgr
            have hc7 : ∀ i, w7.cell? ⟨wi.heap.size, i, none⟩ = ((WY.alloc X).drew).cell? ⟨wi.heap.size, i, none⟩ := fun i =>
              World.cell?_of_block (a := ⟨wi.heap.size, i, none⟩) (hgr.block wi.heap.size (by simp; omega) (fun e => hou e.symm))
            obtain ⟨c0, c1, c2, c3, c4, c5, c6⟩ := HSB.out X
            exact ⟨(hc7 _).trans c0, (hc7 _).trans c1, (hc7 _).trans c2, (hc7 _).trans c3, (hc7 _).trans c4, (hc7 _).trans c5, (hc7 _).trans c6⟩
          have HY : Hid (q.l[j] = y ∧ WY = wi.alloc (.cells #[.int .i64 y.k, .int .i64 y.n, .int .i64 y.t.k, .slice y.t.a y.t.l.length y.t.c, .int .i64 y.f.k, .slice y.f.a y.f.l.length y.f.c, .slice y.a y.l.length y.c] 27) ∧ (us ++ (kidsH (w2.heap.size + 1) q.l).take j).length = N ∧ cells8 (us ++ (kidsH (w2.heap.size + 1) q.l).take j) = xs ∧ WY.heap.size = wi.heap.size + 1) := ⟨hye, hWY, hN, hxs, hYs⟩
          have HJ : Hid (gk + j = q.l.length) := hj
          clear h7 hyi hye ea hN hxs hybB hAY hou hj hYs
          go_upto_region 12 with fail
          rw [← hWY]
          clear hWY d0 d1 d2 d3 d4 d5 d6
          go_region_held3 (fun W' => W'.cell? ⟨wi.heap.size, 0, none⟩ = some (.int .i64 y.k) ∧ W'.cell? ⟨wi.heap.size, 1, none⟩ = some (.int .i64 y.n) ∧ W'.cell? ⟨wi.heap.size, 2, none⟩ = some (.int .i64 y.t.k) ∧ W'.cell? ⟨wi.heap.size, 3, none⟩ = some (.slice y.t.a y.t.l.length y.t.c) ∧ W'.cell? ⟨wi.heap.size, 4, none⟩ = some (.int .i64 y.f.k) ∧ W'.cell? ⟨wi.heap.size, 5, none⟩ = some (.slice y.f.a y.f.l.length y.f.c) ∧ W'.cell? ⟨wi.heap.size, 6, none⟩ = some (.slice y.a y.l.length y.c))
            (first
              | (with_reducible exact HS0.out)
              | (with_reducible exact HS1.out)
              | (with_reducible exact HSA.out _)
              | (with_reducible exact HSB.out _)
              | (with_reducible exact HSG.out _ _ hgrow)
              | fail)
            (first
              | (refine step_append_lies _ (by rfl) _ _ _ (by rfl) B 82 j0 _ 8 112 Tryz.underlying83 hj0 hy0 hy1 hy2 rfl (by omega) v' N xs (by rfl) ((uo.alloc _).drew) ⟨WY.heap.size, 0, none⟩ 1 1 [.int .i64 y.k, .int .i64 y.n, .int .i64 y.t.k, .slice y.t.a y.t.l.length y.t.c, .int .i64 y.f.k, .slice y.f.a y.f.l.length y.f.c, .slice y.a y.l.length y.c, .pointer (some ⟨w2.heap.size + 1, j * 7, none⟩)] (by rfl) (by rfl) (World.news_of_block (cs := #[.int .i64 y.k, .int .i64 y.n, .int .i64 y.t.k, .slice y.t.a y.t.l.length y.t.c, .int .i64 y.f.k, .slice y.f.a y.f.l.length y.f.c, .slice y.a y.l.length y.c, .pointer (some ⟨w2.heap.size + 1, j * 7, none⟩)]) (t := 82) (fr := (0, 0)) hnew) (by simp [Value.oneCell']) (by omega) (by unfold maxLen; omega) (by omega) (by simp; omega) (WY.heap.size + 1) (by simp) ?_; intro gg cap1 w7 hown1 hgrow hat hlt3)
              | fail)
          have HN : Hid (EN B g0 us (kidsH (w2.heap.size + 1) q.l) W4 (Value.slice (some ⟨gg, 0, none⟩) (N + 1) cap1) (j + 1) w7) := by
            obtain ⟨hye, hWY, hN, hxs, hYs⟩ := HY.out
            have hks := kidsH_snoc (w2.heap.size + 1) q.l j hlt
            rw [hye] at hks
            rw [hWY] at hgrow
            exact HQ.out.push (X := .cells #[.int .i64 y.k, .int .i64 y.n, .int .i64 y.t.k, .slice y.t.a y.t.l.length y.t.c, .int .i64 y.f.k, .slice y.f.a y.f.l.length y.f.c, .slice y.a y.l.length y.c] 27) (Y := .cells #[.int .i64 y.k, .int .i64 y.n, .int .i64 y.t.k, .slice y.t.a y.t.l.length y.t.c, .int .i64 y.f.k, .slice y.f.a y.f.l.length y.f.c, .slice y.a y.l.length y.c, .pointer (some ⟨w2.heap.size + 1, j * 7, none⟩)] 82) (by have h1 := HE.out.2.2.1; have h3 := HQQ.out.2.2.2.2.1.size; omega) hks hN hxs hown1 hgrow (by
              rcases hat with e | e
              · exact .inl e
              · exact .inr (by rw [e]; show WY.heap.size + 1 = _; omega))
          clear hown1 hgrow hat hlt3 uo hnew HS HS0 HS1 HSA HSB HSG HQ HY
          go_wp2_with fail
          rw [← HEA.out]
          go_roundg (q.l.length - (j + 1))
          case measure => have := HJ.out; omega
          case rel => exact ⟨j + 1, _, by have := HJ.out; omega, rfl, by go_num, HN⟩
        · have hje : j = q.l.length := by omega
          obtain ⟨he, hbW, hBr, hop, hgl, hpB⟩ := HE.out
          obtain ⟨hqi, hqB, hqs, hqe, hr4, hgO, hs4, hrs⟩ := HQQ.out
          obtain ⟨hown, hlow4, hfr, hob, hsz4⟩ := HQ.out
          have htk : (kidsH (w2.heap.size + 1) q.l).take j = kidsH (w2.heap.size + 1) q.l := List.take_of_length_le (by rw [kidsH_length]; omega)
          rw [htk] at hown
          have hlow : Below B W0 wi := (hr4.mono hBr).trans hlow4
          have hD : ∀ b, D b → wi.heap[b]? = W0.heap[b]? := fun b hb => by
            obtain ⟨h1, h2, h3⟩ := he.d b hb
            have hbg : b ≠ g0 := fun e => h3 (by rw [e]; rfl)
            exact (hfr b (by omega) hbg).trans (hr4.block b h2)
          obtain ⟨_, hhD2, hhO2⟩ := he.ho h (by simp)
          obtain ⟨hb1, hb2, hb3⟩ := he.d h.b hhD2
          have hst := he.step (q := q) (g := w2.heap.size + 1) (v2 := v') (w2 := wi) hqe
            (fun y hy => ⟨(hqi.mem hy).congr (P := (· < B)) (fun b hb o => hlow4.cell (p := ⟨b, o, none⟩) hb) (hqB.mem hy), hqB.mem hy⟩) (by omega) (by omega) (by omega)
            (fun j' hj' => (hgO j' hj').of (hfr _ (by omega) (by omega))) hown
            (fun b hb => by
              rcases hob b hb with h1 | h1
              · exact .inl (by rw [h1]; rfl)
              · exact .inr (by omega))
            (fun e => by
              rcases hob _ e with h1 | h1
              · omega
              · omega) hlow hD
          have hOw : Open7 wi h.b h.j := hhO2.of (hD _ hhD2)
          have hmk2 : massH (us ++ kidsH (w2.heap.size + 1) q.l) = massH us + (q.l.map TT.sz).sum := by
            rw [← massH_kids (w2.heap.size + 1) q.l]
            simp [massH]
          have hqsz := q.sz_eq
          have HN : Hid (EI B (eraseM x.tm) (w.heap.size + 1 + 1) v' (us ++ kidsH (w2.heap.size + 1) q.l) (fun b => D b ∨ b = w2.heap.size + 1) (put7at wi h.b (h.j * 7) (TT.mk q.k q.n (leaf 0) (leaf 0) (some ⟨w2.heap.size + 1, 0, none⟩) q.l.length q.l)) ∧ Below B W1 (put7at wi h.b (h.j * 7) (TT.mk q.k q.n (leaf 0) (leaf 0) (some ⟨w2.heap.size + 1, 0, none⟩) q.l.length q.l)) ∧ massH (us ++ kidsH (w2.heap.size + 1) q.l) ≤ 1000 ∧ B ≤ (put7at wi h.b (h.j * 7) (TT.mk q.k q.n (leaf 0) (leaf 0) (some ⟨w2.heap.size + 1, 0, none⟩) q.l.length q.l)).heap.size) := by
            refine ⟨hst, (hbW.trans hlow).trans ((put7at_kept.below (by simp) (by omega)).mono hb1), by have := HM.out; omega, by rw [put7at_size]; omega⟩
          have HMs : Hid (massH (us ++ kidsH (w2.heap.size + 1) q.l) < K0) := by
            have := HM.out
            show _ < _
            omega
          have u7 : wi.cell? ⟨W0.heap.size, 7, none⟩ = some (.pointer (some ⟨h.b, h.j * 7, none⟩)) := (World.cell?_of_block (a := ⟨W0.heap.size, 7, none⟩) (hfr W0.heap.size (by omega) (by omega))).trans HNB.out.1
          have u0 : wi.cell? ⟨w2.heap.size, 0, none⟩ = some (.int .i64 q.k) := (World.cell?_of_block (a := ⟨w2.heap.size, 0, none⟩) (hfr w2.heap.size (by omega) (by omega))).trans HNB.out.2.1
          have u1 : wi.cell? ⟨w2.heap.size, 1, none⟩ = some (.int .i64 q.n) := (World.cell?_of_block (a := ⟨w2.heap.size, 1, none⟩) (hfr w2.heap.size (by omega) (by omega))).trans HNB.out.2.2.1
          obtain ⟨⟨o0, t0⟩, f0⟩ := hOw 0 (by omega)
          obtain ⟨⟨o1, t1⟩, f1⟩ := hOw 1 (by omega)
          obtain ⟨⟨o2, t2⟩, f2⟩ := hOw 2 (by omega)
          obtain ⟨⟨o3, t3⟩, f3⟩ := hOw 3 (by omega)
          obtain ⟨⟨o4, t4⟩, f4⟩ := hOw 4 (by omega)
          obtain ⟨⟨o5, t5⟩, f5⟩ := hOw 5 (by omega)
          obtain ⟨⟨o6, t6⟩, f6⟩ := hOw 6 (by omega)
          simp only [Nat.add_zero] at t0 f0
          clear HE HQQ HQ he hbW hBr hop hgl hpB hqi hqB hqs hqe hr4 hgO hs4 hrs hown hlow4 hfr hob hsz4 htk hlow hD hhD2 hhO2 hb1 hb2 hb3 hst hOw hmk2 hqsz HNB hje hj
          go_wp2_with fail
          go_roundg (massH (us ++ kidsH (w2.heap.size + 1) q.l))
          case measure => exact HMs.out
          case rel => exact ⟨_, _, _, rfl, rfl, HN⟩
end Go.Proofs.YtnddkmccagiclabGreatDoor

/-
  Run's ways; what the call of run's Bare answers.
-/
namespace Go.Proofs.YtnddkmccagiclabGreatDoor
open Go.RowKit
/-- What Bare makes of a term. -/
def bareR (x : Tm) (f : Int) : Out × Int := if goodM 0 x = true then (if f < 0 ∨ 100 < f then (out0, 3) else (runM (eraseM x) f.toNat, 0)) else (out0, 1)
set_option maxRecDepth 20000 in
set_option maxHeartbeats 8000000 in
/-- Bare. -/
theorem bareFn_any (x : TT) (f : Int) (w : World) (hg : Gp w) (hx : x.In w) (hnb : x.nb) :
    Calls Tryz.prog 14 #[.agg #[.int .i64 x.k, .int .i64 x.n, .int .i64 x.t.k, .slice x.t.a x.t.l.length x.t.c, .int .i64 x.f.k, .slice x.f.a x.f.l.length x.f.c, .slice x.a x.l.length x.c], .int .i64 f] w (OutPost (bareR x.tm f) w) := by
  obtain ⟨W1, hW1⟩ : ∃ W, W = (w.alloc (.cells #[.int .i64 x.k, .int .i64 x.n, .int .i64 x.t.k, .slice x.t.a x.t.l.length x.t.c, .int .i64 x.f.k, .slice x.f.a x.f.l.length x.f.c, .slice x.a x.l.length x.c] 27)).alloc (.cells #[.int .i64 0, .int .i64 0, .bool false] 29) := ⟨_, rfl⟩
  have hb1 : Below w.heap.size w W1 := by rw [hW1]; exact ((Below.refl _ _).alloc (Nat.le_refl _) _).alloc (by simp) _
  have hs1 : W1.heap.size = w.heap.size + 1 + 1 := by rw [hW1]; simp
  have z0 : W1.cell? ⟨w.heap.size + 1, 0, none⟩ = some (.int .i64 0) := by rw [hW1]; simp [go_sem]
  have z1 : W1.cell? ⟨w.heap.size + 1, 1, none⟩ = some (.int .i64 0) := by rw [hW1]; simp [go_sem]
  have z2 : W1.cell? ⟨w.heap.size + 1, 2, none⟩ = some (.bool false) := by rw [hW1]; simp [go_sem]
  have zf : ∀ i, W1.frozen? ⟨w.heap.size + 1, i, none⟩ = false := by intro i; rw [hW1]; simp [go_sem]
  have h7 : At7 W1 w.heap.size 0 x := by constructor <;> (rw [hW1]; simp [go_sem])
  have HC : Hid (Calls Tryz.prog 29 #[.agg #[.int .i64 x.k, .int .i64 x.n, .int .i64 x.t.k, .slice x.t.a x.t.l.length x.t.c, .int .i64 x.f.k, .slice x.f.a x.f.l.length x.f.c, .slice x.a x.l.length x.c], .int .i64 0] W1 fun e w' => e = .returned (.bool (goodM 0 x.tm)) ∧ Below W1.heap.size W1 w') := goodTm_any x 0 W1 (hg.below hb1) (hx.below hb1) hnb
  have HZ : Hid (∀ W, Below W1.heap.size W1 W → W.cell? ⟨w.heap.size + 1, 0, none⟩ = some (.int .i64 0) ∧ W.cell? ⟨w.heap.size + 1, 1, none⟩ = some (.int .i64 0) ∧ W.cell? ⟨w.heap.size + 1, 2, none⟩ = some (.bool false) ∧ W.frozen? ⟨w.heap.size + 1, 0, none⟩ = false ∧ W.frozen? ⟨w.heap.size + 1, 1, none⟩ = false ∧ W.frozen? ⟨w.heap.size + 1, 2, none⟩ = false ∧ w.heap.size + 1 < W.heap.size ∧ Below w.heap.size w W) := fun W hW =>
    ⟨cell_later hW z0, cell_later hW z1, cell_later hW z2, (hW.frozen (p := ⟨w.heap.size + 1, 0, none⟩) (by rw [hs1]; show w.heap.size + 1 < _; omega)).trans (zf 0), (hW.frozen (p := ⟨w.heap.size + 1, 1, none⟩) (by rw [hs1]; show w.heap.size + 1 < _; omega)).trans (zf 1), (hW.frozen (p := ⟨w.heap.size + 1, 2, none⟩) (by rw [hs1]; show w.heap.size + 1 < _; omega)).trans (zf 2), by have := hW.size; omega, hb1.trans (hW.mono hb1.size)⟩
  have HX : Hid (∀ W, Below W1.heap.size W1 W → x.In W ∧ At7 W w.heap.size 0 x) := fun W hW => ⟨(hx.below hb1).below hW, h7.below hW⟩
  obtain ⟨R, hR⟩ : ∃ R, R = bareR x.tm f := ⟨_, rfl⟩
  rw [← hR]
  have HR : Hid (R = bareR x.tm f) := hR
  have HE : Hid (∀ (o : Out) (er : Int) (W : World), R = (o, er) → Below w.heap.size w W → OutPost R w (.returned (.tuple #[.agg #[.int .i64 o.k, .int .i64 o.n, .bool o.b], .int .i64 er])) (((W.setCell ⟨w.heap.size + 1, 0, none⟩ (.int .i64 o.k)).setCell ⟨w.heap.size + 1, 1, none⟩ (.int .i64 o.n)).setCell ⟨w.heap.size + 1, 2, none⟩ (.bool o.b))) := fun o er W h1 h2 => by
    rw [h1]
    exact ⟨rfl, ((h2.setCell (by simp) _).setCell (by simp) _).setCell (by simp) _⟩
  clear hR hb1 hs1 z0 z1 z2 zf hg hx hnb h7
  go_enter Tryz.func14, Tryz.ntmps14
  go_wp2_with fail
  rw [← hW1]
  clear hW1
  refine HC.out.mono ?_
  rintro e w2 ⟨rfl, hb2⟩
  by_cases hgd : goodM 0 x.tm = true
  · obtain ⟨hok, hsz⟩ := goodM_ok hgd
    have hsh := eraseM_shp x.tm (good_run x.tm 0 hok (by omega))
    have hts : (eraseM x.tm).tsz ≤ 100 := by have := hsh.2; rw [tsz_sz x.tm] at this; omega
    have hxz : x.sz ≤ 1000 := by have := (goodM_tok hgd).2; omega
    obtain ⟨r, hr⟩ : ∃ r : Out × Int, r = (if f < 0 ∨ 100 < f then (out0, 3) else (runM (eraseM x.tm) f.toNat, 0)) := ⟨_, rfl⟩
    have HR1 : Hid (R = r) := by rw [HR.out, hr]; unfold bareR; rw [if_pos hgd]; exact rfl
    have HER : Hid (Calls Tryz.prog 30 #[.agg #[.int .i64 x.k, .int .i64 x.n, .int .i64 x.t.k, .slice x.t.a x.t.l.length x.t.c, .int .i64 x.f.k, .slice x.f.a x.f.l.length x.f.c, .slice x.a x.l.length x.c]] w2 fun e w' => ∃ y : TT, e = .returned (.agg #[.int .i64 y.k, .int .i64 y.n, .int .i64 y.t.k, .slice y.t.a y.t.l.length y.t.c, .int .i64 y.f.k, .slice y.f.a y.f.l.length y.f.c, .slice y.a y.l.length y.c]) ∧ y.In w' ∧ y.tm = eraseM x.tm ∧ Below w2.heap.size w2 w') := erase_any x w2 (HX.out w2 hb2).1 hxz
    have HO : Hid (∀ (W : World) (y : TT), Below w2.heap.size w2 W → y.In W → y.tm = eraseM x.tm → Calls Tryz.prog 26 #[.agg #[.int .i64 y.k, .int .i64 y.n, .int .i64 y.t.k, .slice y.t.a y.t.l.length y.t.c, .int .i64 y.f.k, .slice y.f.a y.f.l.length y.f.c, .slice y.a y.l.length y.c], .int .i64 f] W fun e w' => e = .returned (.tuple #[.agg #[.int .i64 r.1.k, .int .i64 r.1.n, .bool r.1.b], .int .i64 r.2]) ∧ Below W1.heap.size W1 w') := fun W y hW hy he => by
      refine (outcome_all y f W hy (by rw [he]; exact hsh.1) (by rw [he]; exact hts)).mono ?_
      rintro e w' ⟨h1, hb⟩
      rw [he] at h1
      rw [hr]
      exact ⟨h1, hb2.trans ((hW.trans (hb.mono hW.size)).mono hb2.size)⟩
    obtain ⟨a0, a1, a2, a3, a4, a5, a6⟩ := (HX.out w2 hb2).2
    simp only [Nat.zero_add] at a0 a1 a2 a3 a4 a5 a6
    have lx : w.heap.size < w2.heap.size := World.block_lt_of_cell? _ _ a0
    rw [hgd]
    clear hgd hok hsz hsh hts hxz hr hb2 HC HR HX
    go_wp2_with fail
    refine HER.out.mono ?_
    rintro e w4 ⟨y, rfl, hy, hye, hb4⟩
    go_wp2_with fail
    refine (HO.out w4 y hb4 hy hye).mono ?_
    rintro e w5 ⟨rfl, hb5⟩
    obtain ⟨r0, r1, r2, f0, f1, f2, rl, hB⟩ := HZ.out w5 hb5
    have HB : Hid (Below w.heap.size w w5) := hB
    clear hb4 hb5 hB HZ HO HER hy hye a0 a1 a2 a3 a4 a5 a6
    go_wp2_with fail
    obtain ⟨q0, q1, q2⟩ := set3_cells (u := .int .i64 r.1.k) (v := .int .i64 r.1.n) (z := .bool r.1.b) r0 r1 r2
    exact bodyPost_ret (v := .tuple #[.agg #[.int .i64 r.1.k, .int .i64 r.1.n, .bool r.1.b], .int .i64 r.2]) (by simp [results, Tryz.results14, go_sem, q0, q1, q2]) rfl (HE.out r.1 r.2 w5 HR1.out HB.out)
  · have hgd' : goodM 0 x.tm = false := by simpa using hgd
    have HR1 : Hid (R = (out0, 1)) := by rw [HR.out]; unfold bareR; rw [if_neg hgd]; rfl
    obtain ⟨r0, r1, r2, f0, f1, f2, rl, hB⟩ := HZ.out w2 hb2
    have HB : Hid (Below w.heap.size w w2) := hB
    rw [hgd']
    clear hB hgd hgd' hb2 HC HZ HX
    go_wp2_with fail
    obtain ⟨q0, q1, q2⟩ := set3_cells (u := .int .i64 0) (v := .int .i64 0) (z := .bool false) r0 r1 r2
    exact bodyPost_ret (v := .tuple #[.agg #[.int .i64 0, .int .i64 0, .bool false], .int .i64 1]) (by simp [results, Tryz.results14, go_sem, q0, q1, q2]) rfl (HE.out out0 1 w2 HR1.out HB.out)
end Go.Proofs.YtnddkmccagiclabGreatDoor

/-
  What the call of ref's BareTerm answers: what Bare does.
-/
namespace Go.Proofs.YtnddkmccagiclabGreatDoor
open Go.RowKit
theorem erase_noC : ∀ x : Tm, shp x → noC (eraseM x) := by
  intro x
  induction x using Tm.ind with
  | h k n t f l ih =>
    intro h
    obtain ⟨⟨k1, k10, hl, n1, n2, hn, _⟩, hp⟩ := shp_mk.1 h
    by_cases hk : k = 9 ∨ k = 10
    · have hl1 : l.length = 1 := by
        rw [hl]
        rcases hk with rfl | rfl <;> rfl
      rw [eraseM_in (x := ⟨k, n, t, f, l⟩) hk hl1]
      have hm := Tm.at_mem (x := ⟨k, n, t, f, l⟩) (j := 0) (by simp only; omega)
      exact ih _ hm (hp _ hm)
    · rw [eraseM_out (x := ⟨k, n, t, f, l⟩) hk]
      refine noC_mk.2 ⟨fun e => hk (.inr e), fun y hy => ?_⟩
      obtain ⟨z, hz, rfl⟩ := List.mem_map.1 hy
      exact ih z hz (hp z hz)
set_option maxRecDepth 20000 in
set_option maxHeartbeats 8000000 in
/-- ref's BareTerm. -/
theorem lawBare_any (x : TT) (f : Int) (w : World) (hx : x.In w) (hsz : x.sz ≤ 2000000) (hok : x.ok 100000000) :
    Calls Tryz.prog 21 #[.agg #[.int .i64 x.k, .int .i64 x.n, .int .i64 x.t.k, .slice x.t.a x.t.l.length x.t.c, .int .i64 x.f.k, .slice x.f.a x.f.l.length x.f.c, .slice x.a x.l.length x.c], .int .i64 f] w (OutPost (bareR x.tm f) w) := by
  obtain ⟨W1, hW1⟩ : ∃ W, W = (w.alloc (.cells #[.int .i64 x.k, .int .i64 x.n, .int .i64 x.t.k, .slice x.t.a x.t.l.length x.t.c, .int .i64 x.f.k, .slice x.f.a x.f.l.length x.f.c, .slice x.a x.l.length x.c] 27)).alloc (.cells #[.int .i64 0, .int .i64 0, .bool false] 29) := ⟨_, rfl⟩
  have hb1 : Below w.heap.size w W1 := by rw [hW1]; exact ((Below.refl _ _).alloc (Nat.le_refl _) _).alloc (by simp) _
  have hs1 : W1.heap.size = w.heap.size + 1 + 1 := by rw [hW1]; simp
  have z0 : W1.cell? ⟨w.heap.size + 1, 0, none⟩ = some (.int .i64 0) := by rw [hW1]; simp [go_sem]
  have z1 : W1.cell? ⟨w.heap.size + 1, 1, none⟩ = some (.int .i64 0) := by rw [hW1]; simp [go_sem]
  have z2 : W1.cell? ⟨w.heap.size + 1, 2, none⟩ = some (.bool false) := by rw [hW1]; simp [go_sem]
  have zf : ∀ i, W1.frozen? ⟨w.heap.size + 1, i, none⟩ = false := by intro i; rw [hW1]; simp [go_sem]
  have h7 : At7 W1 w.heap.size 0 x := by constructor <;> (rw [hW1]; simp [go_sem])
  have HC : Hid (Calls Tryz.prog 37 #[.agg #[.int .i64 x.k, .int .i64 x.n, .int .i64 x.t.k, .slice x.t.a x.t.l.length x.t.c, .int .i64 x.f.k, .slice x.f.a x.f.l.length x.f.c, .slice x.a x.l.length x.c], .int .i64 0] W1 fun e w' => e = .returned (.bool (goodM 0 x.tm)) ∧ Below W1.heap.size W1 w') := isTerm_any x 0 W1 (hx.below hb1) hsz hok
  have HZ : Hid (∀ W, Below W1.heap.size W1 W → W.cell? ⟨w.heap.size + 1, 0, none⟩ = some (.int .i64 0) ∧ W.cell? ⟨w.heap.size + 1, 1, none⟩ = some (.int .i64 0) ∧ W.cell? ⟨w.heap.size + 1, 2, none⟩ = some (.bool false) ∧ W.frozen? ⟨w.heap.size + 1, 0, none⟩ = false ∧ W.frozen? ⟨w.heap.size + 1, 1, none⟩ = false ∧ W.frozen? ⟨w.heap.size + 1, 2, none⟩ = false ∧ w.heap.size + 1 < W.heap.size ∧ Below w.heap.size w W) := fun W hW =>
    ⟨cell_later hW z0, cell_later hW z1, cell_later hW z2, (hW.frozen (p := ⟨w.heap.size + 1, 0, none⟩) (by rw [hs1]; show w.heap.size + 1 < _; omega)).trans (zf 0), (hW.frozen (p := ⟨w.heap.size + 1, 1, none⟩) (by rw [hs1]; show w.heap.size + 1 < _; omega)).trans (zf 1), (hW.frozen (p := ⟨w.heap.size + 1, 2, none⟩) (by rw [hs1]; show w.heap.size + 1 < _; omega)).trans (zf 2), by have := hW.size; omega, hb1.trans (hW.mono hb1.size)⟩
  have HX : Hid (∀ W, Below W1.heap.size W1 W → x.In W ∧ At7 W w.heap.size 0 x) := fun W hW => ⟨(hx.below hb1).below hW, h7.below hW⟩
  obtain ⟨R, hR⟩ : ∃ R, R = bareR x.tm f := ⟨_, rfl⟩
  rw [← hR]
  have HR : Hid (R = bareR x.tm f) := hR
  have HE : Hid (∀ (o : Out) (er : Int) (W : World), R = (o, er) → Below w.heap.size w W → OutPost R w (.returned (.tuple #[.agg #[.int .i64 o.k, .int .i64 o.n, .bool o.b], .int .i64 er])) (((W.setCell ⟨w.heap.size + 1, 0, none⟩ (.int .i64 o.k)).setCell ⟨w.heap.size + 1, 1, none⟩ (.int .i64 o.n)).setCell ⟨w.heap.size + 1, 2, none⟩ (.bool o.b))) := fun o er W h1 h2 => by
    rw [h1]
    exact ⟨rfl, ((h2.setCell (by simp) _).setCell (by simp) _).setCell (by simp) _⟩
  clear hR hb1 hs1 z0 z1 z2 zf hx hsz hok h7
  go_enter Tryz.func21, Tryz.ntmps21
  go_wp2_with fail
  rw [← hW1]
  clear hW1
  refine HC.out.mono ?_
  rintro e w2 ⟨rfl, hb2⟩
  by_cases hgd : goodM 0 x.tm = true
  · obtain ⟨hok, hsz⟩ := goodM_ok hgd
    have hsx := good_run x.tm 0 hok (by omega)
    have hsh := eraseM_shp x.tm hsx
    have hnc := erase_noC x.tm hsx
    have hts : (eraseM x.tm).tsz ≤ 100 := by have := hsh.2; rw [tsz_sz x.tm] at this; omega
    have hxz : x.sz ≤ 1000 := by have := (goodM_tok hgd).2; omega
    have HR1 : Hid (R = (if f < 0 ∨ 100 < f then (out0, 3) else (runM (eraseM x.tm) f.toNat, 0))) := by rw [HR.out]; unfold bareR; rw [if_pos hgd]; exact rfl
    by_cases hfr : f < 0 ∨ 100 < f
    · have HR2 : Hid (R = (out0, 3)) := by rw [HR1.out, if_pos hfr]; rfl
      obtain ⟨r0, r1, r2, f0, f1, f2, rl, hB⟩ := HZ.out w2 hb2
      have HB : Hid (Below w.heap.size w w2) := hB
      rw [hgd]
      rcases hfr with hfr | hfr
      · clear hgd hok hsz hsx hsh hnc hts hxz hb2 HC HR HX hB HR1
        go_wp2_with fail
        obtain ⟨q0, q1, q2⟩ := set3_cells (u := .int .i64 0) (v := .int .i64 0) (z := .bool false) r0 r1 r2
        exact bodyPost_ret (v := .tuple #[.agg #[.int .i64 0, .int .i64 0, .bool false], .int .i64 3]) (by simp [results, Tryz.results21, go_sem, q0, q1, q2]) rfl (HE.out out0 3 w2 HR2.out HB.out)
      · have hf9 : ¬ f < 0 := by omega
        clear hgd hok hsz hsx hsh hnc hts hxz hb2 HC HR HX hB HR1
        go_wp2_with fail
        obtain ⟨q0, q1, q2⟩ := set3_cells (u := .int .i64 0) (v := .int .i64 0) (z := .bool false) r0 r1 r2
        exact bodyPost_ret (v := .tuple #[.agg #[.int .i64 0, .int .i64 0, .bool false], .int .i64 3]) (by simp [results, Tryz.results21, go_sem, q0, q1, q2]) rfl (HE.out out0 3 w2 HR2.out HB.out)
    · have HR2 : Hid (R = (runM (eraseM x.tm) f.toNat, 0)) := by rw [HR1.out, if_neg hfr]; rfl
      have hf1 : ¬ f < 0 := by omega
      have hf2 : ¬ 100 < f := by omega
      have HER : Hid (Calls Tryz.prog 38 #[.agg #[.int .i64 x.k, .int .i64 x.n, .int .i64 x.t.k, .slice x.t.a x.t.l.length x.t.c, .int .i64 x.f.k, .slice x.f.a x.f.l.length x.f.c, .slice x.a x.l.length x.c]] w2 fun e w' => ∃ y : TT, e = .returned (.agg #[.int .i64 y.k, .int .i64 y.n, .int .i64 y.t.k, .slice y.t.a y.t.l.length y.t.c, .int .i64 y.f.k, .slice y.f.a y.f.l.length y.f.c, .slice y.a y.l.length y.c]) ∧ y.In w' ∧ y.tm = eraseM x.tm ∧ Below w2.heap.size w2 w') := by
        refine (eraseTm_any 1000 x w2 hxz (HX.out w2 hb2).1 hxz).mono ?_
        rintro e w' ⟨y, rfl, h1, h2, _, h4⟩
        exact ⟨y, rfl, h2, h1, h4⟩
      have HO : Hid (∀ (W : World) (y : TT), Below w2.heap.size w2 W → y.In W → y.tm = eraseM x.tm → Calls Tryz.prog 36 #[.agg #[.int .i64 y.k, .int .i64 y.n, .int .i64 y.t.k, .slice y.t.a y.t.l.length y.t.c, .int .i64 y.f.k, .slice y.f.a y.f.l.length y.f.c, .slice y.a y.l.length y.c], .int .i64 f] W fun e w' => e = .returned (.agg #[.int .i64 (runM (eraseM x.tm) f.toNat).k, .int .i64 (runM (eraseM x.tm) f.toNat).n, .bool (runM (eraseM x.tm) f.toNat).b]) ∧ Below W1.heap.size W1 w') := fun W y hW hy he => by
        have e : ((f.toNat : Nat) : Int) = f := by omega
        have h1 := lawOut_any false y anyY f.toNat W (by omega) hy ⟨by rw [he]; exact hsh.1, fun _ => by rw [he]; exact hnc⟩ (by rw [he]; exact hts) (fun h => by cases h)
        rw [e, he] at h1
        refine h1.mono ?_
        rintro e w' ⟨h1, hb⟩
        exact ⟨h1, hb2.trans ((hW.trans (hb.mono hW.size)).mono hb2.size)⟩
      obtain ⟨r, hr⟩ : ∃ r, r = runM (eraseM x.tm) f.toNat := ⟨_, rfl⟩
      rw [← hr] at HO HR2
      obtain ⟨a0, a1, a2, a3, a4, a5, a6⟩ := (HX.out w2 hb2).2
      simp only [Nat.zero_add] at a0 a1 a2 a3 a4 a5 a6
      have lx : w.heap.size < w2.heap.size := World.block_lt_of_cell? _ _ a0
      rw [hgd]
      clear hgd hok hsz hsx hsh hnc hts hxz hr hb2 HC HR HX HR1 hfr
      go_wp2_with fail
      refine HER.out.mono ?_
      rintro e w4 ⟨y, rfl, hy, hye, hb4⟩
      go_wp2_with fail
      refine (HO.out w4 y hb4 hy hye).mono ?_
      rintro e w5 ⟨rfl, hb5⟩
      obtain ⟨r0, r1, r2, f0, f1, f2, rl, hB⟩ := HZ.out w5 hb5
      have HB : Hid (Below w.heap.size w w5) := hB
      clear hb4 hb5 hB HZ HO HER hy hye a0 a1 a2 a3 a4 a5 a6
      go_wp2_with fail
      obtain ⟨q0, q1, q2⟩ := set3_cells (u := .int .i64 r.k) (v := .int .i64 r.n) (z := .bool r.b) r0 r1 r2
      exact bodyPost_ret (v := .tuple #[.agg #[.int .i64 r.k, .int .i64 r.n, .bool r.b], .int .i64 0]) (by simp [results, Tryz.results21, go_sem, q0, q1, q2]) rfl (HE.out r 0 w5 HR2.out HB.out)
  · have hgd' : goodM 0 x.tm = false := by simpa using hgd
    have HR1 : Hid (R = (out0, 1)) := by rw [HR.out]; unfold bareR; rw [if_neg hgd]; rfl
    obtain ⟨r0, r1, r2, f0, f1, f2, rl, hB⟩ := HZ.out w2 hb2
    have HB : Hid (Below w.heap.size w w2) := hB
    rw [hgd']
    clear hB hgd hgd' hb2 HC HZ HX
    go_wp2_with fail
    obtain ⟨q0, q1, q2⟩ := set3_cells (u := .int .i64 0) (v := .int .i64 0) (z := .bool false) r0 r1 r2
    exact bodyPost_ret (v := .tuple #[.agg #[.int .i64 0, .int .i64 0, .bool false], .int .i64 1]) (by simp [results, Tryz.results21, go_sem, q0, q1, q2]) rfl (HE.out out0 1 w2 HR1.out HB.out)
end Go.Proofs.YtnddkmccagiclabGreatDoor

/-
  What the law's own call 'runs' answers: true.
-/
namespace Go.Proofs.YtnddkmccagiclabGreatDoor
open Go.RowKit
set_option maxRecDepth 20000 in
set_option maxHeartbeats 4000000 in
/-- runs. -/
theorem runs_any (w : World) (hg : Gl w) : Calls Tryz.prog 23 #[] w fun e w' => e = .returned (.bool true) ∧ Below w.heap.size w w' := by
  have HT : Hid (Calls Tryz.prog 17 #[.string aS, .int .i64 5] w fun e w' => e = .returned (.tuple #[.agg #[.int .i64 1, .int .i64 7, .bool false], .int .i64 0]) ∧ Below w.heap.size w w') := by
    have := textFn_any aS (by show 38 ≤ 9223372036854775807; omega) 5 w hg
    rw [aS_text] at this
    exact this
  unfold aS at HT
  clear hg
  go_enter Tryz.func23, Tryz.ntmps23
  go_wp2_with fail
  refine HT.out.mono ?_
  rintro e w2 ⟨rfl, hb⟩
  have HB : Hid (Below w.heap.size w w2) := hb
  clear hb HT
  go_wp2_with fail
  go_ret
  exact ⟨rfl, HB.out.alloc HB.out.size _⟩
end Go.Proofs.YtnddkmccagiclabGreatDoor

/-
  How great the type of a term is at most; no program in it.
-/
namespace Go.Proofs.YtnddkmccagiclabGreatDoor
def Ty.sz : Ty → Nat
  | ⟨_, l⟩ => (l.map fun t => t.sz).sum + 1
theorem Ty.sz_mk (k : Int) (l : List Ty) : (Ty.mk k l).sz = (l.map Ty.sz).sum + 1 := by
  rw [Ty.sz]
theorem Tr.sz_ty (t : Tr) : t.sz = t.ty.sz := by
  induction t using Tr.ind with
  | h k a c l ih =>
    rw [Tr.ty_mk, Tr.sz_mk, Ty.sz_mk, List.map_map]
    have : l.map Tr.sz = l.map (Ty.sz ∘ Tr.ty) := List.map_congr_left fun x hx => ih x hx
    rw [this]
theorem goodY_sz : ∀ (n : Nat) (t : Ty), goodY n t = true → t.sz + 1 ≤ 2 ^ n
  | 0, t, h => by simp [goodY] at h
  | n + 1, t, h => by
    have hp : 1 ≤ 2 ^ n := Nat.one_le_two_pow
    rw [Nat.pow_succ]
    rcases goodY_cases h with ⟨k, rfl, _⟩ | ⟨x, y, rfl, hx, hy⟩
    · rw [Ty.sz_mk]; simp; omega
    · have h1 := goodY_sz n x hx
      have h2 := goodY_sz n y hy
      rw [Ty.sz_mk]
      simp only [List.map_cons, List.map_nil, List.sum_cons, List.sum_nil]; omega
end Go.Proofs.YtnddkmccagiclabGreatDoor
