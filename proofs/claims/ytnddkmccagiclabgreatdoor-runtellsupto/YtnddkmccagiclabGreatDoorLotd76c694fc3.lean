/-
  The law's own values as they lie in a world: numbers, truths, functions with what they hold, functions that were cast; what they stand for; no run of the program in it.
-/
import Derived.Test.YtnddkmccagiclabGreatDoorLot2ebbd2cd4c
import Derived.Test.YtnddkmccagiclabGreatDoorLot198e6357ab
import Derived.Deep.RegionHeld3
import Derived.Deep.LoopGhost
import Derived.BigQuiet
import Derived.Laws.EntriesVeiled
import Derived.Deep.DeepCutAuto
namespace Go.Proofs.YtnddkmccagiclabGreatDoor
open Go.RowKit
/-- A thing: its four cells; which way it was made (0: plain; 1: a function; 2: a cast one); the variables that it holds, and what lies in them. -/
structure Th where
  k : Int
  n : Int
  fn : Value
  tag : Int
  wy : Nat
  b1 : Nat
  b2 : Nat
  b3 : Nat
  b4 : Nat
  b5 : Nat
  b6 : Nat
  x : TT
  ea : Option Addr
  ec : Nat
  env : List Th
  f : Tr
  t : Tr
  no : Int
  back : Bool
  inn : List Th
theorem Th.ind {P : Th → Prop} (h : ∀ h : Th, (∀ y, y ∈ h.env → P y) → (∀ y, y ∈ h.inn → P y) → P h) : ∀ h, P h
  | ⟨k, n, fn, tag, wy, b1, b2, b3, b4, b5, b6, x, ea, ec, env, f, t, no, back, inn⟩ => h ⟨k, n, fn, tag, wy, b1, b2, b3, b4, b5, b6, x, ea, ec, env, f, t, no, back, inn⟩ (fun y _ => Th.ind h y) (fun y _ => Th.ind h y)
/-- The value. -/
def Th.ag (h : Th) : Value := .agg #[.int .i64 h.k, .int .i64 h.n, h.fn, .int .i64 h.tag]
/-- Who is to blame. -/
def Th.bl (h : Th) : Out := ⟨4, h.no, h.back⟩
/-- What it stands for, its mark aside. -/
def Th.cv : Th → Val
  | ⟨k, n, _, _, wy, _, _, _, _, _, _, x, _, _, env, f, t, no, back, inn⟩ =>
    if wy = 1 then funV (x.tm.at 0) (env.map fun e => if e.tag = 0 then e.cv else knownV e.cv e.tag)
    else if wy = 2 then withV ((inn.map fun e => e.cv).headD (numV 0)) (castOf (t.ty.l.getD 0 anyY) (f.ty.l.getD 0 anyY) (turnO ⟨4, no, back⟩)) (castOf (f.ty.l.getD 1 anyY) (t.ty.l.getD 1 anyY) ⟨4, no, back⟩)
    else if k = 1 then numV n else truthV n
/-- What it stands for. -/
def Th.val (h : Th) : Val := if h.tag = 0 then h.cv else knownV h.cv h.tag
theorem Th.cv_eq (h : Th) : h.cv = if h.wy = 1 then funV (h.x.tm.at 0) (h.env.map Th.val)
    else if h.wy = 2 then withV ((h.inn.map Th.cv).headD (numV 0)) (castOf (h.t.ty.l.getD 0 anyY) (h.f.ty.l.getD 0 anyY) (turnO h.bl)) (castOf (h.f.ty.l.getD 1 anyY) (h.t.ty.l.getD 1 anyY) h.bl)
    else if h.k = 1 then numV h.n else truthV h.n := by
  cases h
  rw [Th.cv]
  rfl
/-- Its four cells lie there. -/
structure At4 (w : World) (b o : Nat) (h : Th) : Prop where
  c0 : w.cell? ⟨b, o, none⟩ = some (.int .i64 h.k)
  c1 : w.cell? ⟨b, o + 1, none⟩ = some (.int .i64 h.n)
  c2 : w.cell? ⟨b, o + 2, none⟩ = some h.fn
  c3 : w.cell? ⟨b, o + 3, none⟩ = some (.int .i64 h.tag)
theorem At4.of {w w' : World} {b o : Nat} {x : Th} (h : At4 w b o x) (e : ∀ i, w'.cell? ⟨b, i, none⟩ = w.cell? ⟨b, i, none⟩) : At4 w' b o x :=
  ⟨(e _).trans h.c0, (e _).trans h.c1, (e _).trans h.c2, (e _).trans h.c3⟩
theorem At4.lt {w : World} {b o : Nat} {x : Th} (h : At4 w b o x) : b < w.heap.size := World.block_lt_of_cell? _ _ h.c0
/-- The blocks of which Q speaks are as they were. -/
def Same (Q : Nat → Prop) (w w' : World) : Prop := ∀ b, b < w.heap.size → Q b → w'.heap[b]? = w.heap[b]?
theorem Same.cell {Q : Nat → Prop} {w w' : World} (h : Same Q w w') {b i : Nat} {v : Value} (hc : w.cell? ⟨b, i, none⟩ = some v) (hb : Q b) : w'.cell? ⟨b, i, none⟩ = some v :=
  (World.cell?_of_block (a := ⟨b, i, none⟩) (h b (World.block_lt_of_cell? _ _ hc) hb)).trans hc
theorem Same.of_below {Q : Nat → Prop} {w w' : World} (h : Below w.heap.size w w') : Same Q w w' := fun b hb _ => h.block b hb
theorem Same.of_kept {Q : Nat → Prop} {R : Nat} {w w' : World} (h : Kept R none w w') (hQ : ¬ Q R) : Same Q w w' := fun b hb hq => h.block b hb (fun e => hQ (e ▸ hq)) (by simp)
theorem At4.same {Q : Nat → Prop} {w w' : World} {b o : Nat} {x : Th} (h : At4 w b o x) (hk : Same Q w w') (hb : Q b) : At4 w' b o x :=
  ⟨hk.cell h.c0 hb, hk.cell h.c1 hb, hk.cell h.c2 hb, hk.cell h.c3 hb⟩
theorem At7.same {Q : Nat → Prop} {w w' : World} {b o : Nat} {x : TT} (h : At7 w b o x) (hk : Same Q w w') (hb : Q b) : At7 w' b o x :=
  ⟨hk.cell h.c0 hb, hk.cell h.c1 hb, hk.cell h.c2 hb, hk.cell h.c3 hb, hk.cell h.c4 hb, hk.cell h.c5 hb, hk.cell h.c6 hb⟩
theorem TT.In.same {Q : Nat → Prop} {w w' : World} {x : TT} (h : x.In w) (hk : Same Q w w') (hb : x.Bl Q) : x.In w' :=
  h.congr (P := fun b => b < w.heap.size ∧ Q b) (fun b hb o => World.cell?_of_block (a := ⟨b, o, none⟩) (hk b hb.1 hb.2)) (h.bl.and hb)
theorem Tr.In.same {Q : Nat → Prop} {w w' : World} {x : Tr} (h : x.In w) (hk : Same Q w w') (hb : x.Bl Q) : x.In w' :=
  h.congr (P := fun b => b < w.heap.size ∧ Q b) (fun b hb o => World.cell?_of_block (a := ⟨b, o, none⟩) (hk b hb.1 hb.2)) (h.bl.and hb)
/-- A plain one. -/
structure Plain (h : Th) : Prop where
  fn : h.fn = .nilFunc
  k : h.k = 1 ∨ h.k = 2
  nb : -1000000 ≤ h.n ∧ h.n ≤ 1000000
/-- No cast in it. -/
def noC : Tm → Prop
  | ⟨k, _, _, _, l⟩ => k ≠ 10 ∧ ∀ x, x ∈ l → noC x
theorem noC_mk {k n : Int} {t f : Ty} {l : List Tm} : noC ⟨k, n, t, f, l⟩ ↔ k ≠ 10 ∧ ∀ x, x ∈ l → noC x := by
  rw [noC]
theorem noC.top {x : Tm} (h : noC x) : x.k ≠ 10 := by cases x; exact (noC_mk.1 h).1
theorem noC.part {x : Tm} (h : noC x) {j : Nat} (hj : j < x.l.length) : noC (x.at j) := by
  have hm := Tm.at_mem (x := x) hj
  cases x
  exact (noC_mk.1 h).2 _ hm
/-- A function, and what it holds. -/
structure Clo (m : Bool) (M R : Nat) (Q : Nat → Prop) (w : World) (h : Th) : Prop where
  k : h.k = 3
  fn : h.fn = .func (.func 95) #[] #[.pointer (some ⟨h.b1, 0, none⟩), .pointer (some ⟨h.b2, 0, none⟩), .pointer (some ⟨h.b3, 0, none⟩)]
  b1 : Q h.b1
  b2 : Q h.b2
  b3 : Q h.b3
  w1 : w.cell? ⟨h.b1, 0, none⟩ = some (.pointer (some ⟨R, 0, none⟩))
  x7 : At7 w h.b2 0 h.x
  xi : h.x.In w
  xb : h.x.Bl Q
  xk : h.x.k = 7
  xs : shp h.x.tm ∧ (m = false → noC h.x.tm)
  sz : h.x.tm.tsz + h.env.length ≤ M
  e3 : w.cell? ⟨h.b3, 0, none⟩ = some (.slice h.ea h.env.length h.ec)
  env : ∀ j (l : j < h.env.length), ∃ b o, h.ea = some ⟨b, o, none⟩ ∧ Q b ∧ At4 w b (o + j * 4) h.env[j]
/-- A function that was cast, and what it holds. -/
structure Pro (R : Nat) (Q : Nat → Prop) (w : World) (h : Th) (v : Th) : Prop where
  inn : h.inn = [v]
  k : h.k = 3
  fn : h.fn = .func (.func 131) #[] #[.pointer (some ⟨h.b1, 0, none⟩), .pointer (some ⟨h.b2, 0, none⟩), .pointer (some ⟨h.b3, 0, none⟩), .pointer (some ⟨h.b4, 0, none⟩), .pointer (some ⟨h.b5, 0, none⟩), .pointer (some ⟨h.b6, 0, none⟩)]
  b1 : Q h.b1
  b2 : Q h.b2
  b3 : Q h.b3
  b4 : Q h.b4
  b5 : Q h.b5
  b6 : Q h.b6
  w1 : w.cell? ⟨h.b1, 0, none⟩ = some (.pointer (some ⟨R, 0, none⟩))
  t0 : w.cell? ⟨h.b2, 0, none⟩ = some (.int .i64 h.t.k)
  t1 : w.cell? ⟨h.b2, 1, none⟩ = some (.slice h.t.a h.t.l.length h.t.c)
  f0 : w.cell? ⟨h.b3, 0, none⟩ = some (.int .i64 h.f.k)
  f1 : w.cell? ⟨h.b3, 1, none⟩ = some (.slice h.f.a h.f.l.length h.f.c)
  n4 : w.cell? ⟨h.b4, 0, none⟩ = some (.int .i64 h.no)
  k5 : w.cell? ⟨h.b5, 0, none⟩ = some (.bool h.back)
  v6 : At4 w h.b6 0 v
  ti : h.t.In w
  fi : h.f.In w
  tb : h.t.Bl Q
  fb : h.f.Bl Q
  tg : goodY 46 h.t.ty = true
  fg : goodY 46 h.f.ty = true
  tk : h.t.k = 3
  fk : h.f.k = 3
  fits : relY escFits h.f.ty h.t.ty = true
  ty : tyV v.cv h.f.ty
  vt : v.tag = 0
/-- The thing lies in the world whose run lies in block R, in blocks of which Q speaks; m: casts may be in it. -/
def Th.In (m : Bool) (M R : Nat) (Q : Nat → Prop) (w : World) : Th → Prop
  | ⟨k, n, fn, tag, wy, b1, b2, b3, b4, b5, b6, x, ea, ec, env, f, t, no, back, inn⟩ =>
    (wy = 0 ∧ Plain ⟨k, n, fn, tag, wy, b1, b2, b3, b4, b5, b6, x, ea, ec, env, f, t, no, back, inn⟩) ∨
    (wy = 1 ∧ Clo m M R Q w ⟨k, n, fn, tag, wy, b1, b2, b3, b4, b5, b6, x, ea, ec, env, f, t, no, back, inn⟩ ∧ ∀ e, e ∈ env → e.In m M R Q w) ∨
    (wy = 2 ∧ m = true ∧ (∃ v, Pro R Q w ⟨k, n, fn, tag, wy, b1, b2, b3, b4, b5, b6, x, ea, ec, env, f, t, no, back, inn⟩ v) ∧ ∀ e, e ∈ inn → e.In m M R Q w)
theorem Th.In_iff {m : Bool} {M R : Nat} {Q : Nat → Prop} {w : World} {h : Th} : h.In m M R Q w ↔ (h.wy = 0 ∧ Plain h) ∨ (h.wy = 1 ∧ Clo m M R Q w h ∧ ∀ e, e ∈ h.env → e.In m M R Q w) ∨ (h.wy = 2 ∧ m = true ∧ (∃ v, Pro R Q w h v) ∧ ∀ e, e ∈ h.inn → e.In m M R Q w) := by
  cases h
  rw [Th.In]
theorem Clo.same {m : Bool} {M R : Nat} {Q : Nat → Prop} {w w' : World} {h : Th} (c : Clo m M R Q w h) (hk : Same Q w w') : Clo m M R Q w' h :=
  ⟨c.k, c.fn, c.b1, c.b2, c.b3, hk.cell c.w1 c.b1, c.x7.same hk c.b2, c.xi.same hk c.xb, c.xb, c.xk, c.xs, c.sz, hk.cell c.e3 c.b3, fun j l => by
    obtain ⟨b, o, e, hb, h4⟩ := c.env j l
    exact ⟨b, o, e, hb, h4.same hk hb⟩⟩
theorem Pro.same {R : Nat} {Q : Nat → Prop} {w w' : World} {h v : Th} (c : Pro R Q w h v) (hk : Same Q w w') : Pro R Q w' h v :=
  ⟨c.inn, c.k, c.fn, c.b1, c.b2, c.b3, c.b4, c.b5, c.b6, hk.cell c.w1 c.b1, hk.cell c.t0 c.b2, hk.cell c.t1 c.b2, hk.cell c.f0 c.b3, hk.cell c.f1 c.b3, hk.cell c.n4 c.b4, hk.cell c.k5 c.b5, c.v6.same hk c.b6, c.ti.same hk c.tb, c.fi.same hk c.fb, c.tb, c.fb, c.tg, c.fg, c.tk, c.fk, c.fits, c.ty, c.vt⟩
theorem Clo.mono {m : Bool} {M R : Nat} {Q Q' : Nat → Prop} {w : World} {h : Th} (c : Clo m M R Q w h) (hq : ∀ b, b < w.heap.size → Q b → Q' b) : Clo m M R Q' w h :=
  ⟨c.k, c.fn, hq _ (World.block_lt_of_cell? _ _ c.w1) c.b1, hq _ c.x7.lt c.b2, hq _ (World.block_lt_of_cell? _ _ c.e3) c.b3, c.w1, c.x7, c.xi, (c.xi.bl.and c.xb).mono fun b hb => hq b hb.1 hb.2, c.xk, c.xs, c.sz, c.e3, fun j l => by
    obtain ⟨b, o, e, hb, h4⟩ := c.env j l
    exact ⟨b, o, e, hq _ h4.lt hb, h4⟩⟩
theorem Pro.mono {R : Nat} {Q Q' : Nat → Prop} {w : World} {h v : Th} (c : Pro R Q w h v) (hq : ∀ b, b < w.heap.size → Q b → Q' b) : Pro R Q' w h v :=
  ⟨c.inn, c.k, c.fn, hq _ (World.block_lt_of_cell? _ _ c.w1) c.b1, hq _ (World.block_lt_of_cell? _ _ c.t0) c.b2, hq _ (World.block_lt_of_cell? _ _ c.f0) c.b3, hq _ (World.block_lt_of_cell? _ _ c.n4) c.b4, hq _ (World.block_lt_of_cell? _ _ c.k5) c.b5, hq _ c.v6.lt c.b6, c.w1, c.t0, c.t1, c.f0, c.f1, c.n4, c.k5, c.v6, c.ti, c.fi, (c.ti.bl.and c.tb).mono fun b hb => hq b hb.1 hb.2, (c.fi.bl.and c.fb).mono fun b hb => hq b hb.1 hb.2, c.tg, c.fg, c.tk, c.fk, c.fits, c.ty, c.vt⟩
theorem Th.In.same {m : Bool} {M R : Nat} {Q : Nat → Prop} {w w' : World} (hk : Same Q w w') {h : Th} : h.In m M R Q w → h.In m M R Q w' := by
  induction h using Th.ind with
  | h h ie ii =>
    intro hi
    rcases Th.In_iff.1 hi with h0 | ⟨h1, hc, he⟩ | ⟨h2, hm, ⟨v, hp⟩, he⟩
    · exact Th.In_iff.2 (.inl h0)
    · exact Th.In_iff.2 (.inr (.inl ⟨h1, hc.same hk, fun e hm => ie e hm (he e hm)⟩))
    · exact Th.In_iff.2 (.inr (.inr ⟨h2, hm, ⟨v, hp.same hk⟩, fun e hm => ii e hm (he e hm)⟩))
/-- Blocks that lie there already are all that count. -/
theorem Th.In.mono {m : Bool} {M R : Nat} {Q Q' : Nat → Prop} {w : World} (hq : ∀ b, b < w.heap.size → Q b → Q' b) {h : Th} : h.In m M R Q w → h.In m M R Q' w := by
  induction h using Th.ind with
  | h h ie ii =>
    intro hi
    rcases Th.In_iff.1 hi with h0 | ⟨h1, hc, he⟩ | ⟨h2, hm, ⟨v, hp⟩, he⟩
    · exact Th.In_iff.2 (.inl h0)
    · exact Th.In_iff.2 (.inr (.inl ⟨h1, hc.mono hq, fun e hm => ie e hm (he e hm)⟩))
    · exact Th.In_iff.2 (.inr (.inr ⟨h2, hm, ⟨v, hp.mono hq⟩, fun e hm => ii e hm (he e hm)⟩))
/-- The mark is in no block. -/
theorem Th.In.tag {m : Bool} {M R : Nat} {Q : Nat → Prop} {w : World} {h : Th} (s : Int) (hi : h.In m M R Q w) : ({h with tag := s} : Th).In m M R Q w := by
  rcases Th.In_iff.1 hi with ⟨h0, p⟩ | ⟨h1, c, he⟩ | ⟨h2, hm, ⟨v, p⟩, he⟩
  · exact Th.In_iff.2 (.inl ⟨h0, ⟨p.fn, p.k, p.nb⟩⟩)
  · exact Th.In_iff.2 (.inr (.inl ⟨h1, ⟨c.k, c.fn, c.b1, c.b2, c.b3, c.w1, c.x7, c.xi, c.xb, c.xk, c.xs, c.sz, c.e3, c.env⟩, he⟩))
  · exact Th.In_iff.2 (.inr (.inr ⟨h2, hm, ⟨v, ⟨p.inn, p.k, p.fn, p.b1, p.b2, p.b3, p.b4, p.b5, p.b6, p.w1, p.t0, p.t1, p.f0, p.f1, p.n4, p.k5, p.v6, p.ti, p.fi, p.tb, p.fb, p.tg, p.fg, p.tk, p.fk, p.fits, p.ty, p.vt⟩⟩, he⟩))
theorem Th.cv_tag (h : Th) (s : Int) : ({h with tag := s} : Th).cv = h.cv := by
  rw [Th.cv_eq, Th.cv_eq]
  rfl
/-- What lies in its third cell. -/
theorem Th.In.one {m : Bool} {M R : Nat} {Q : Nat → Prop} {w : World} {h : Th} (hi : h.In m M R Q w) : h.fn.oneCell' = true := by
  rcases Th.In_iff.1 hi with ⟨_, p⟩ | ⟨_, c, _⟩ | ⟨_, _, ⟨v, p⟩, _⟩
  · rw [p.fn]; rfl
  · rw [c.fn]; rfl
  · rw [p.fn]; rfl
/-- A scope: where its things lie. -/
structure Env (m : Bool) (M R : Nat) (Q : Nat → Prop) (w : World) (ea : Option Addr) (E : List Th) : Prop where
  at4 : ∀ j (l : j < E.length), ∃ b o, ea = some ⟨b, o, none⟩ ∧ Q b ∧ At4 w b (o + j * 4) E[j]
  ins : ∀ e, e ∈ E → e.In m M R Q w
theorem Env.same {m : Bool} {M R : Nat} {Q : Nat → Prop} {w w' : World} {ea : Option Addr} {E : List Th} (h : Env m M R Q w ea E) (hk : Same Q w w') : Env m M R Q w' ea E :=
  ⟨fun j l => by
    obtain ⟨b, o, e, hb, h4⟩ := h.at4 j l
    exact ⟨b, o, e, hb, h4.same hk hb⟩, fun e he => (h.ins e he).same hk⟩
theorem Env.mono {m : Bool} {M R : Nat} {Q Q' : Nat → Prop} {w : World} {ea : Option Addr} {E : List Th} (h : Env m M R Q w ea E) (hq : ∀ b, b < w.heap.size → Q b → Q' b) : Env m M R Q' w ea E :=
  ⟨fun j l => by
    obtain ⟨b, o, e, hb, h4⟩ := h.at4 j l
    exact ⟨b, o, e, hq b h4.lt hb, h4⟩, fun e he => (h.ins e he).mono hq⟩
/-- The run's own variable: how many calls are left, and what has ended it. -/
structure Wl (R : Nat) (n : Nat) (o : Out) (w : World) : Prop where
  c0 : w.cell? ⟨R, 0, none⟩ = some (.int .i64 (n : Int))
  c1 : w.cell? ⟨R, 1, none⟩ = some (.int .i64 o.k)
  c2 : w.cell? ⟨R, 2, none⟩ = some (.int .i64 o.n)
  c3 : w.cell? ⟨R, 3, none⟩ = some (.bool o.b)
  z0 : w.frozen? ⟨R, 0, none⟩ = false
  z1 : w.frozen? ⟨R, 1, none⟩ = false
  z2 : w.frozen? ⟨R, 2, none⟩ = false
  z3 : w.frozen? ⟨R, 3, none⟩ = false
theorem Wl.lt {R n : Nat} {o : Out} {w : World} (h : Wl R n o w) : R < w.heap.size := World.block_lt_of_cell? _ _ h.c0
theorem Wl.below {R n : Nat} {o : Out} {w w' : World} (h : Wl R n o w) (hb : Below w.heap.size w w') : Wl R n o w' := by
  have c : ∀ i, w'.cell? ⟨R, i, none⟩ = w.cell? ⟨R, i, none⟩ := fun i => hb.cell (p := ⟨R, i, none⟩) h.lt
  have f : ∀ i, w'.frozen? ⟨R, i, none⟩ = w.frozen? ⟨R, i, none⟩ := fun i => hb.frozen (p := ⟨R, i, none⟩) h.lt
  exact ⟨(c _).trans h.c0, (c _).trans h.c1, (c _).trans h.c2, (c _).trans h.c3, (f _).trans h.z0, (f _).trans h.z1, (f _).trans h.z2, (f _).trans h.z3⟩
theorem Wl.same {R n : Nat} {o : Out} {w w' : World} {b : Nat} (h : Wl R n o w) (hk : Kept b none w w') (hb : b ≠ R) : Wl R n o w' := by
  have hr : R ≠ b := fun e => hb e.symm
  exact ⟨hk.cell h.c0 hr, hk.cell h.c1 hr, hk.cell h.c2 hr, hk.cell h.c3 hr, hk.fz h.z0 h.lt hr, hk.fz h.z1 h.lt hr, hk.fz h.z2 h.lt hr, hk.fz h.z3 h.lt hr⟩
/-- Nothing. -/
def noV : Value := .agg #[.int .i64 0, .int .i64 0, .nilFunc, .int .i64 0]
/-- Its type, as it was told: under a mark Any. -/
def Th.tyo (h : Th) : Ty := if h.tag = 0 then h.t.ty else anyY
/-- A tree of that type, nowhere. -/
def trOf : Ty → Tr
  | ⟨k, l⟩ => ⟨k, none, 0, l.map fun t => trOf t⟩
theorem trOf_ty : ∀ t : Ty, (trOf t).ty = t := by
  intro t
  induction t using Ty.ind with
  | h k l ih =>
    rw [trOf, Tr.ty_mk, List.map_map]
    congr 1
    have : ∀ l : List Ty, (∀ t, t ∈ l → (trOf t).ty = t) → l.map (Tr.ty ∘ trOf) = l := by
      intro l
      induction l with
      | nil => intro _; rfl
      | cons x r ihr =>
        intro h
        rw [List.map_cons, ihr fun t ht => h t (by simp [ht])]
        show (trOf x).ty :: r = _
        rw [h x (by simp)]
    exact this l ih
/-- It is of the type that it was told to be, and so is what it holds. -/
def Th.ok : Th → Prop
  | ⟨k, _, _, tag, wy, _, _, _, _, _, _, x, _, _, env, f, t, _, _, inn⟩ =>
    (tag = 0 ∨ ((tag = 1 ∨ tag = 2 ∨ tag = 3) ∧ t.ty = gr tag)) ∧
    ((wy = 0 ∧ ((k = 1 ∧ t.ty = numY) ∨ (k = 2 ∧ t.ty = truthY))) ∨
     (wy = 1 ∧ (∃ A B, t.ty = funY A B ∧ tyM (x.tm.at 0) (A :: env.map Th.tyo) B) ∧ ∀ e, e ∈ env → e.ok) ∨
     (wy = 2 ∧ ∀ e, e ∈ inn → e.ok ∧ e.t.ty = f.ty))
theorem Th.ok_iff {h : Th} : h.ok ↔ (h.tag = 0 ∨ ((h.tag = 1 ∨ h.tag = 2 ∨ h.tag = 3) ∧ h.t.ty = gr h.tag)) ∧
    ((h.wy = 0 ∧ ((h.k = 1 ∧ h.t.ty = numY) ∨ (h.k = 2 ∧ h.t.ty = truthY))) ∨
     (h.wy = 1 ∧ (∃ A B, h.t.ty = funY A B ∧ tyM (h.x.tm.at 0) (A :: h.env.map Th.tyo) B) ∧ ∀ e, e ∈ h.env → e.ok) ∨
     (h.wy = 2 ∧ ∀ e, e ∈ h.inn → e.ok ∧ e.t.ty = h.f.ty)) := by
  cases h
  rw [Th.ok]
theorem Th.ok.mark {h : Th} (ho : h.ok) {s : Int} (hs : s = 0 ∨ ((s = 1 ∨ s = 2 ∨ s = 3) ∧ h.t.ty = gr s)) : ({h with tag := s} : Th).ok :=
  Th.ok_iff.2 ⟨hs, (Th.ok_iff.1 ho).2⟩
/-- Typed: of that type. -/
def okTh (m : Bool) (T : Ty) (h : Th) : Prop := m = true → h.ok ∧ h.tyo = T
/-- What a call leaves: the run has ended, or the thing; S: what is said of the outcome, the value, and how many calls there were. -/
def ThPost (m : Bool) (M R F c : Nat) (Q : Nat → Prop) (w : World) (T : Ty) (S : Out → Val → Nat → Prop) (e : Ending) (w' : World) : Prop :=
  Kept R none w w' ∧ ∃ (r : Out) (V : Val) (c' : Nat), S r V c' ∧ c ≤ c' ∧ c' ≤ F ∧ Wl R (F - c') r w' ∧
    ((r.k ≠ 0 ∧ e = .returned noV) ∨ (r = out0 ∧ ∃ h : Th, e = .returned h.ag ∧ h.In m M R Q w' ∧ h.val = V ∧ okTh m T h))
end Go.Proofs.YtnddkmccagiclabGreatDoor

/-
  What the call of kind.same answers at two trees that lie in memory, where there is room for all levels of the first.
-/
namespace Go.Proofs.YtnddkmccagiclabGreatDoor
open Go.RowKit
theorem wrap_small (n : Nat) (hn : n ≤ 1000) : IntKind.i64.wrap (n : Int) = (n : Int) := by
  rw [IntKind.wrap_i64]; omega
set_option maxHeartbeats 1000000 in
theorem same_step (n : Nat) (hn : n ≤ 1000) (x y : Tr) (rp : Option Addr) (w : World) (hx : x.In w) (hy : y.In w) (hh : x.hgt ≤ n + 1) (hs : x.sm)
    (ih : Hid (∀ (x y : Tr) (w : World), x.In w → y.In w → x.hgt ≤ n → x.sm → Calls Tryz.prog 182 #[.agg #[.int .i64 x.k, .slice x.a x.l.length x.c], .agg #[.int .i64 y.k, .slice y.a y.l.length y.c], .int .i64 (n : Int), .pointer rp] w fun e w' => e = .returned (.bool (relY escSame x.ty y.ty)) ∧ Below w.heap.size w w')) :
    Calls Tryz.prog 182 #[.agg #[.int .i64 x.k, .slice x.a x.l.length x.c], .agg #[.int .i64 y.k, .slice y.a y.l.length y.c], .int .i64 ((n : Int) + 1), .pointer rp] w fun e w' => e = .returned (.bool (relY escSame x.ty y.ty)) ∧ Below w.heap.size w w' := by
  have hz : (((n : Int) + 1) == 0) = false := by simp; omega
  have hlen := hs.len
  by_cases ht0 : (x.k == y.k && (x.l.length : Int) == (y.l.length : Int)) = false
  · have ht : Hid ((x.k == y.k && (x.l.length : Int) == (y.l.length : Int)) = false) := ht0
    clear ht0
    go_enter Tryz.func182, Tryz.ntmps182
    go_wp2_with fail
    refine (alike_any _ _ _ _ _ _ _ _ false ht.out _).mono ?_
    rintro e w1 ⟨rfl, hb1⟩
    go_wp2_with fail
    go_ret
    refine ⟨?_, (((Below.refl _ _).alloc (Nat.le_refl _) _).alloc (by simp) _).trans (hb1.mono (by simp; omega))⟩
    rw [relY_top escSame x y rfl ht.out]
    rfl
  · have ht' : Hid ((x.k == y.k && (x.l.length : Int) == (y.l.length : Int)) = true) := by simpa [Hid] using ht0
    clear ht0
    have hk : Hid (x.k = y.k) := by have h := ht'.out; simp at h; exact h.1
    have hl : Hid (x.l.length = y.l.length) := by have h := ht'.out; simp at h; exact Int.ofNat.inj h.2
    go_enter Tryz.func182, Tryz.ntmps182
    go_wp2_with fail
    refine (alike_any _ _ _ _ _ _ _ _ true ht'.out _).mono ?_
    rintro e w1 ⟨rfl, hb1⟩
    have hbw : Below w.heap.size w w1 := (((Below.refl _ _).alloc (Nat.le_refl _) _).alloc (by simp) _).trans (hb1.mono (by simp; omega))
    have p1 : w1.cell? ⟨w.heap.size, 1, none⟩ = some (.slice x.a x.l.length x.c) := cell_later hb1 (by simp [go_sem])
    have p3 : w1.cell? ⟨w.heap.size + 1, 1, none⟩ = some (.slice y.a y.l.length y.c) := cell_later hb1 (by simp [go_sem])
    clear hb1
    go_wp2_with fail
    go_loopw [24] (fun i wr => ∃ j : Nat, j ≤ x.l.length ∧ i = .int .i64 (j : Int) ∧ Below w1.heap.size w1 wr ∧ ∀ q (h : q < x.l.length) (h' : q < y.l.length), q < j → relY escSame x.l[q].ty y.l[q].ty = true) (fun i _ => x.l.length - (intOf i).toNat)
    case atStart => exact ⟨0, Nat.zero_le _, rfl, Below.refl _ _, fun q _ _ h => absurd h (by omega)⟩
    case round =>
      obtain ⟨j, hj, rfl, hbr, hall⟩ := hrel
      have HA : Hid (∀ q (h : q < x.l.length) (h' : q < y.l.length), q < j → relY escSame x.l[q].ty y.l[q].ty = true) := hall
      clear hall
      have hbwr : Below w.heap.size w wr := hbw.trans (hbr.mono hbw.size)
      by_cases hlt : j < x.l.length
      · have hlt' : j < y.l.length := hl.out ▸ hlt
        obtain ⟨b, o, ea, x0, x1, hxj⟩ := hx.part j hlt
        obtain ⟨b', o', eb, y0, y1, hyj⟩ := hy.part j hlt'
        have q1 : wr.cell? ⟨w.heap.size, 1, none⟩ = some (.slice (some ⟨b, o, none⟩) x.l.length x.c) := by rw [← ea]; exact cell_later hbr p1
        have q3 : wr.cell? ⟨w.heap.size + 1, 1, none⟩ = some (.slice (some ⟨b', o', none⟩) y.l.length y.c) := by rw [← eb]; exact cell_later hbr p3
        replace x0 := cell_later hbwr x0
        replace x1 := cell_later hbwr x1
        replace y0 := cell_later hbwr y0
        replace y1 := cell_later hbwr y1
        have i1 : (j : Int) < (x.l.length : Int) := by omega
        have i2 : (j : Int) < (y.l.length : Int) := by omega
        have i0 : (0 : Int) ≤ (j : Int) := by omega
        clear p1 p3 ea eb hx hy ht'
        have hwr : IntKind.i64.wrap (n : Int) = (n : Int) := wrap_small n hn
        obtain ⟨r, hr⟩ : ∃ r, relY escSame x.l[j].ty y.l[j].ty = r := ⟨_, rfl⟩
        have HC : Hid (∀ (w : World), x.l[j].In w → y.l[j].In w → Calls Tryz.prog 182 #[.agg #[.int .i64 x.l[j].k, .slice x.l[j].a x.l[j].l.length x.l[j].c], .agg #[.int .i64 y.l[j].k, .slice y.l[j].a y.l[j].l.length y.l[j].c], .int .i64 (n : Int), .pointer rp] w fun e w' => e = .returned (.bool r) ∧ Below w.heap.size w w') := by
          intro w h1 h2
          have := ih.out x.l[j] y.l[j] w h1 h2 (Tr.hgt_part hh j hlt) (hs.part j hlt)
          rw [hr] at this
          exact this
        have HR : Hid (relY escSame x.l[j].ty y.l[j].ty = r) := hr
        clear hr
        cases r
        · go_wp2_with fail
          go_region_held3 (fun w' => w'.cell? ⟨w.heap.size, 1, none⟩ = some (.slice (some ⟨b, o, none⟩) x.l.length x.c) ∧ w'.cell? ⟨w.heap.size + 1, 1, none⟩ = some (.slice (some ⟨b', o', none⟩) y.l.length y.c) ∧ w'.cell? ⟨b, o + j * 2, none⟩ = some (.int .i64 x.l[j].k) ∧ w'.cell? ⟨b, o + j * 2 + 1, none⟩ = some (.slice x.l[j].a x.l[j].l.length x.l[j].c) ∧ w'.cell? ⟨b', o' + j * 2, none⟩ = some (.int .i64 y.l[j].k) ∧ w'.cell? ⟨b', o' + j * 2 + 1, none⟩ = some (.slice y.l[j].a y.l[j].l.length y.l[j].c)) (first | exact ⟨cell_later hb2 q1, cell_later hb2 q3, cell_later hb2 x0, cell_later hb2 x1, cell_later hb2 y0, cell_later hb2 y1⟩ | go_keep) (first | (go_at_call 182; refine (HC.out _ (hxj.below hbwr.drew) (hyj.below hbwr.drew)).mono ?_; rintro e w2 ⟨rfl, hb2⟩))
          have hbr2 : Below w1.heap.size w1 w2 := hbr.drew.trans (hb2.mono hbr.size)
          go_wp2_with fail
          go_ret
          refine ⟨?_, hbw.trans (hbr2.mono hbw.size)⟩
          rw [relY_part_not escSame x y rfl j hlt hlt' HR.out]
          rfl
        · go_wp2_with fail
          go_region_held3 (fun w' => w'.cell? ⟨w.heap.size, 1, none⟩ = some (.slice (some ⟨b, o, none⟩) x.l.length x.c) ∧ w'.cell? ⟨w.heap.size + 1, 1, none⟩ = some (.slice (some ⟨b', o', none⟩) y.l.length y.c) ∧ w'.cell? ⟨b, o + j * 2, none⟩ = some (.int .i64 x.l[j].k) ∧ w'.cell? ⟨b, o + j * 2 + 1, none⟩ = some (.slice x.l[j].a x.l[j].l.length x.l[j].c) ∧ w'.cell? ⟨b', o' + j * 2, none⟩ = some (.int .i64 y.l[j].k) ∧ w'.cell? ⟨b', o' + j * 2 + 1, none⟩ = some (.slice y.l[j].a y.l[j].l.length y.l[j].c)) (first | exact ⟨cell_later hb2 q1, cell_later hb2 q3, cell_later hb2 x0, cell_later hb2 x1, cell_later hb2 y0, cell_later hb2 y1⟩ | go_keep) (first | (go_at_call 182; refine (HC.out _ (hxj.below hbwr.drew) (hyj.below hbwr.drew)).mono ?_; rintro e w2 ⟨rfl, hb2⟩))
          have hbr2 : Below w1.heap.size w1 w2 := hbr.drew.trans (hb2.mono hbr.size)
          go_wp2_with fail
          go_roundw
          case rel =>
            refine ⟨j + 1, by omega, by go_num, hbr2, fun q h h' hq => ?_⟩
            by_cases e : q = j
            · subst e; exact HR.out
            · exact HA.out q h h' (by omega)
          case measure => simp [intOf]; omega
      · go_wp2_with fail
        go_ret
        refine ⟨?_, hbwr⟩
        rw [relY_parts escSame x y hk.out hl.out fun q h h' => HA.out q h h' (by omega)]
        rfl
theorem same_any (n : Nat) : n ≤ 1000 → ∀ (x y : Tr) (rp : Option Addr) (w : World), x.In w → y.In w → x.hgt ≤ n → x.sm → Calls Tryz.prog 182 #[.agg #[.int .i64 x.k, .slice x.a x.l.length x.c], .agg #[.int .i64 y.k, .slice y.a y.l.length y.c], .int .i64 (n : Int), .pointer rp] w fun e w' => e = .returned (.bool (relY escSame x.ty y.ty)) ∧ Below w.heap.size w w' := by
  induction n with
  | zero =>
    intro _ x y rp w _ _ h
    have := x.hgt_pos
    omega
  | succ n ih =>
    intro hn x y rp w hx hy h hs
    have e : ((n + 1 : Nat) : Int) = (n : Int) + 1 := by omega
    rw [e]
    exact same_step n (by omega) x y rp w hx hy h hs (fun x y w hx hy h hs => ih (by omega) x y rp w hx hy h hs)
end Go.Proofs.YtnddkmccagiclabGreatDoor

/-
  What the calls of kind.holds (of kind.same) and kind.Same answer at two trees of which the first has at most a thousand levels.
-/
namespace Go.Proofs.YtnddkmccagiclabGreatDoor
open Go.RowKit
/-- The list that is put off: the one pair, or none. -/
def Off (R : Nat) (x y : Tr) (r : Bool) (k : Nat) (wr : World) : Prop :=
  wr.frozen? ⟨R, 0, none⟩ = false ∧
  ((k = 1 ∧ ∃ g cap, wr.cell? ⟨R, 0, none⟩ = some (.slice (some ⟨g, 0, none⟩) 1 cap) ∧ wr.ownsRow (R + 1) 141 5 (.slice (some ⟨g, 0, none⟩) 1 cap) 1 [.int .i64 x.k, .slice x.a x.l.length x.c, .int .i64 y.k, .slice y.a y.l.length y.c, .pointer none])
    ∨ (k = 0 ∧ r = true ∧ ∃ a cap, wr.cell? ⟨R, 0, none⟩ = some (.slice a 0 cap)))
set_option maxHeartbeats 1000000 in
theorem holds_31 (x y : Tr) (r : Bool) (w : World) (hx : x.In w) (hy : y.In w)
    (HC : Hid (∀ (rp : Option Addr) (w : World), x.In w → y.In w → Calls Tryz.prog 182 #[.agg #[.int .i64 x.k, .slice x.a x.l.length x.c], .agg #[.int .i64 y.k, .slice y.a y.l.length y.c], .int .i64 1000, .pointer rp] w fun e w' => e = .returned (.bool r) ∧ Below w.heap.size w w')) :
    Calls Tryz.prog 44 #[.func (.func 182) #[] #[], .agg #[.int .i64 x.k, .slice x.a x.l.length x.c], .agg #[.int .i64 y.k, .slice y.a y.l.length y.c]] w fun e w' => e = .returned (.bool r) ∧ Below w.heap.size w w' := by
  go_enter Tryz.func44, Tryz.ntmps44
  go_wp2_with fail
  refine (put_any (w.heap.size + 1 + 1) (.slice none 0 0) 0 [] x.k y.k x.a y.a x.l.length y.l.length x.c y.c none _ (by simp [go_sem]) (by simp [go_sem]) (World.ownsRow_nil _ _ _ _) (by omega)).mono ?_
  rintro e w1 ⟨rfl, g, cap, hc1, hf1, ho1, _, hk1⟩
  have hbw : Below w.heap.size w w1 := ((((Below.refl _ _).alloc (Nat.le_refl _) _).alloc (by simp) _).alloc (by simp; omega) _).trans ((hk1.below (by simp [Value.ownBlock]) (by simp)).mono (by omega))
  have hsz : w.heap.size + 1 + 1 < w1.heap.size := World.block_lt_of_cell? _ _ hc1
  have HO : Hid (Off (w.heap.size + 1 + 1) x y r 1 w1) := ⟨hf1, .inl ⟨rfl, g, cap, by simpa using hc1, by simpa using ho1⟩⟩
  clear hc1 hf1 ho1 hk1
  go_wp2_with fail
  go_loopg [] 1 (fun k wr => Hid (Off (w.heap.size + 1 + 1) x y r k wr) ∧ Below w.heap.size w wr)
  case atStart => exact ⟨HO, hbw⟩
  case round =>
    obtain ⟨HR, hbr⟩ := hrel
    obtain ⟨hfr, ⟨rfl, g, cap, hc, ho⟩ | ⟨rfl, rfl, a, cap, hc⟩⟩ := HR.out
    · have c0 := ho.cellAt 0 (by omega)
      have c1 := ho.cellAt 1 (by omega)
      have c2 := ho.cellAt 2 (by omega)
      have c3 := ho.cellAt 3 (by omega)
      have c4 := ho.cellAt 4 (by omega)
      simp only [List.getElem?_cons_zero, List.getElem?_cons_succ] at c0 c1 c2 c3 c4
      have hcap : 1 ≤ cap := by
        rcases ho.2 with ⟨h, _⟩ | ⟨g', cap', cur, h, _, _, h1, _⟩
        · cases h
        · cases h; exact h1
      have hgr : w.heap.size + 1 + 1 < g := by
        rcases ho.2 with ⟨h, _⟩ | ⟨g', cap', cur, h, h1, _⟩
        · cases h
        · cases h; exact h1
      have hlr : w.heap.size + 1 + 1 < wr.heap.size := World.block_lt_of_cell? _ _ hc
      clear ho HR HO
      go_wp2_with fail
      refine (empty_any (w.heap.size + 1 + 1) (some ⟨g, 0, none⟩) 1 cap _ hc).mono ?_
      rintro e w' ⟨rfl, rfl⟩
      go_wp2_with fail
      refine (take_any (w.heap.size + 1 + 1) g 0 cap x.k y.k x.a y.a x.l.length y.l.length x.c y.c none _ (by simpa using hc) hfr (by omega) (by omega) (by simpa using c0) (by simpa using c1) (by simpa using c2) (by simpa using c3) (by simpa using c4)).mono ?_
      rintro e w' ⟨rfl, rfl⟩
      go_wp2_with fail
      have hb3 : Below w.heap.size w (((w'.setCell ⟨w.heap.size + 1 + 1, 0, none⟩ (.slice (some ⟨g, 0, none⟩) 0 cap)).alloc (.cells #[.int .i64 x.k, .slice x.a x.l.length x.c, .int .i64 y.k, .slice y.a y.l.length y.c, .pointer none] 141)).alloc (.cells #[.int .i64 x.k, .slice x.a x.l.length x.c, .int .i64 y.k, .slice y.a y.l.length y.c, .pointer none] 141)) :=
        ((hbr.setCell (by simp; omega) _).alloc (by simp [World.setCell]; omega) _).alloc (by simp [World.setCell]; omega) _
      have hb4 := hb3.alloc (by simp [World.setCell]; omega) (.cells #[.int .i64 x.k, .slice x.a x.l.length x.c, .int .i64 y.k, .slice y.a y.l.length y.c, .pointer none] 141)
      refine (HC.out _ _ (hx.below hb4) (hy.below hb4)).mono ?_
      rintro e w5 ⟨rfl, hb5⟩
      have hb6 : Below w.heap.size w w5 := hb4.trans (hb5.mono (by simp [World.setCell]; omega))
      have hcR : w5.cell? ⟨w.heap.size + 1 + 1, 0, none⟩ = some (.slice (some ⟨g, 0, none⟩) 0 cap) := by
        refine cell_later hb5 (cell_later ((((Below.refl _ (w'.setCell ⟨w.heap.size + 1 + 1, 0, none⟩ (.slice (some ⟨g, 0, none⟩) 0 cap))).alloc (Nat.le_refl _) _).alloc (by simp) _).alloc (by simp; omega) _) ?_)
        exact World.cell?_setCell_same _ _ _ hc
      have hfR : w5.frozen? ⟨w.heap.size + 1 + 1, 0, none⟩ = false := by
        rw [hb5.frozen (p := ⟨w.heap.size + 1 + 1, 0, none⟩) (by simp [World.setCell]; omega)]
        simp [frozen?_alloc_cells, hfr]
      clear hb5 hb4 hb3 hc hfr c0 c1 c2 c3 c4
      cases r
      · go_wp2_with fail
        go_ret
        exact ⟨rfl, hb6⟩
      · go_wp2_with fail
        go_roundg 0
        case measure => omega
        case rel => exact ⟨⟨hfR, .inr ⟨rfl, rfl, _, _, hcR⟩⟩, hb6⟩
    · go_wp2_with fail
      refine (empty_any (w.heap.size + 1 + 1) a 0 cap _ hc).mono ?_
      rintro e w' ⟨rfl, rfl⟩
      go_wp2_with fail
      go_ret
      exact ⟨rfl, hbr⟩
set_option maxHeartbeats 400000 in
/-- kind.Same. -/
theorem same_whole (x y : Tr) (w : World) (hx : x.In w) (hy : y.In w) (hh : x.hgt ≤ 1000) (hs : x.sm) :
    Calls Tryz.prog 147 #[.agg #[.int .i64 x.k, .slice x.a x.l.length x.c], .agg #[.int .i64 y.k, .slice y.a y.l.length y.c]] w fun e w' => e = .returned (.bool (relY escSame x.ty y.ty)) ∧ Below w.heap.size w w' := by
  obtain ⟨r, hr⟩ : ∃ r, relY escSame x.ty y.ty = r := ⟨_, rfl⟩
  have HC : Hid (∀ (rp : Option Addr) (w : World), x.In w → y.In w → Calls Tryz.prog 182 #[.agg #[.int .i64 x.k, .slice x.a x.l.length x.c], .agg #[.int .i64 y.k, .slice y.a y.l.length y.c], .int .i64 1000, .pointer rp] w fun e w' => e = .returned (.bool r) ∧ Below w.heap.size w w') := by
    intro rp w h1 h2
    have h := same_any 1000 (Nat.le_refl _) x y rp w h1 h2 hh hs
    rw [hr] at h
    exact h
  rw [hr]
  clear hr
  have HH : Hid (∀ (w : World), x.In w → y.In w → Calls Tryz.prog 44 #[.func (.func 182) #[] #[], .agg #[.int .i64 x.k, .slice x.a x.l.length x.c], .agg #[.int .i64 y.k, .slice y.a y.l.length y.c]] w fun e w' => e = .returned (.bool r) ∧ Below w.heap.size w w') := fun w h1 h2 => holds_31 x y r w h1 h2 HC
  clear HC
  go_enter Tryz.func147, Tryz.ntmps147
  go_wp2_with fail
  have hb0 : Below w.heap.size w ((w.alloc (Obj.cells #[.int .i64 x.k, .slice x.a x.l.length x.c] 24)).alloc (Obj.cells #[.int .i64 y.k, .slice y.a y.l.length y.c] 24)) := ((Below.refl _ _).alloc (Nat.le_refl _) _).alloc (by simp) _
  refine (HH.out _ (hx.below hb0) (hy.below hb0)).mono ?_
  rintro e w1 ⟨rfl, hb1⟩
  have hb2 := hb0.trans (hb1.mono (by simp; omega))
  clear hb0 hb1
  go_wp2_with fail
  go_ret
  exact ⟨rfl, hb2⟩
end Go.Proofs.YtnddkmccagiclabGreatDoor

/-
  A region that draws its order, all of whose operations yield one value in every world of a class and leave a world of that class: one walk in the order of the text serves every order.
-/
namespace Go.Proofs.YtnddkmccagiclabGreatDoor
open Go.RowKit
section
variable {P : Program} {C : World → Prop}
theorem wp_region_class {id : Nat} {Q : Exit → Act → World → Prop} {a : Act} {w : World} {l : List Oper} (hm : P.follows .mixedOrders = true) (hB : Region.lexB .any l.toArray = true) (hC : C { w with drawn := w.drawn + 1 })
    (h : wpQuiet P l.toArray C (fun a' => ∀ w', C w' → Q .normal a' w') l a) : (Code.region id l.toArray true).wp P Q a w :=
  wp_region_quiet (C := C) hm hB hC (by simpa using h)
variable {ops : Array Oper} {Q : Act → Prop} {a : Act} {o : Oper} {rest : List Oper}
/-- An operation that is wanted, and yields v in every world of the class. -/
theorem quiet_value (v : Value) (hw : Region.wanted o (yielded ops a.tmps) = true) (h : ∀ W, C W → (execOp a.eval o).run P W = .ok (.value v) W) (hk : wpQuiet P ops C Q rest (a.put o.dst v)) : wpQuiet P ops C Q (o :: rest) a :=
  wpQuiet_step fun K hK => by
    rw [if_pos hw]
    exact ⟨v, fun W hW => by unfold Oper.quietAt; rw [h W hW]; exact ⟨rfl, rfl⟩, hK _ hk⟩
/-- A call that is wanted, and hands back v in every world of the class. -/
theorem quiet_enter (v : Value) (f : FuncId) (args : Array Value) (hw : Region.wanted o (yielded ops a.tmps) = true) (h : ∀ W, C W → (execOp a.eval o).run P W = .ok (.enter f args) W) (hc : ∀ W, C W → Calls P f args W fun e w' => e = .returned v ∧ C w')
    (hk : wpQuiet P ops C Q rest (a.put o.dst v)) : wpQuiet P ops C Q (o :: rest) a :=
  wpQuiet_step fun K hK => by
    rw [if_pos hw]
    exact ⟨v, fun W hW => by unfold Oper.quietAt; rw [h W hW]; exact ⟨rfl, hc W hW⟩, hK _ hk⟩
end
end Go.Proofs.YtnddkmccagiclabGreatDoor

/-
  What the calls of ref's over and stuck do to a run.
-/
namespace Go.Proofs.YtnddkmccagiclabGreatDoor
open Go.RowKit
theorem Wl.set {R n : Nat} {o o' : Out} {w : World} (h : Wl R n o w) : Wl R n o' (((w.setCell ⟨R, 1, none⟩ (.int .i64 o'.k)).setCell ⟨R, 2, none⟩ (.int .i64 o'.n)).setCell ⟨R, 3, none⟩ (.bool o'.b)) := by
  obtain ⟨c0, c1, c2, c3, z0, z1, z2, z3⟩ := h
  constructor
  all_goals simp [go_sem, *]
theorem Wl.spend {R n : Nat} {o : Out} {w : World} (h : Wl R (n + 1) o w) : Wl R n o (w.setCell ⟨R, 0, none⟩ (.int .i64 (n : Int))) := by
  obtain ⟨c0, c1, c2, c3, z0, z1, z2, z3⟩ := h
  constructor
  all_goals simp [go_sem, *]
/-- A box for an answer. -/
structure Rb (w : World) (b : Nat) : Prop where
  c0 : w.cell? ⟨b, 0, none⟩ = some (.int .i64 0)
  c1 : w.cell? ⟨b, 1, none⟩ = some (.int .i64 0)
  c2 : w.cell? ⟨b, 2, none⟩ = some .nilFunc
  c3 : w.cell? ⟨b, 3, none⟩ = some (.int .i64 0)
  z0 : w.frozen? ⟨b, 0, none⟩ = false
  z1 : w.frozen? ⟨b, 1, none⟩ = false
  z2 : w.frozen? ⟨b, 2, none⟩ = false
  z3 : w.frozen? ⟨b, 3, none⟩ = false
theorem Rb.lt {w : World} {b : Nat} (h : Rb w b) : b < w.heap.size := World.block_lt_of_cell? _ _ h.c0
theorem Rb.new (w : World) : Rb (w.alloc (.cells #[.int .i64 0, .int .i64 0, .nilFunc, .int .i64 0] 103)) w.heap.size := by
  constructor
  all_goals simp [go_sem]
theorem Rb.kept {w w' : World} {b R : Nat} (h : Rb w b) (hk : Kept R none w w') (hb : b ≠ R) : Rb w' b :=
  ⟨hk.cell h.c0 hb, hk.cell h.c1 hb, hk.cell h.c2 hb, hk.cell h.c3 hb, hk.fz h.z0 h.lt hb, hk.fz h.z1 h.lt hb, hk.fz h.z2 h.lt hb, hk.fz h.z3 h.lt hb⟩
theorem Rb.below {w w' : World} {b : Nat} (h : Rb w b) (hk : Below w.heap.size w w') : Rb w' b :=
  h.kept (R := b + 1) (Kept.of_below hk) (by omega)
theorem Rb.set {w : World} {b : Nat} (h : Rb w b) (v0 v1 v2 v3 : Value) : (((((w.setCell ⟨b, 0, none⟩ v0).setCell ⟨b, 1, none⟩ v1).setCell ⟨b, 2, none⟩ v2).setCell ⟨b, 3, none⟩ v3).cell? ⟨b, 0, none⟩ = some v0 ∧ ((((w.setCell ⟨b, 0, none⟩ v0).setCell ⟨b, 1, none⟩ v1).setCell ⟨b, 2, none⟩ v2).setCell ⟨b, 3, none⟩ v3).cell? ⟨b, 1, none⟩ = some v1 ∧ ((((w.setCell ⟨b, 0, none⟩ v0).setCell ⟨b, 1, none⟩ v1).setCell ⟨b, 2, none⟩ v2).setCell ⟨b, 3, none⟩ v3).cell? ⟨b, 2, none⟩ = some v2 ∧ ((((w.setCell ⟨b, 0, none⟩ v0).setCell ⟨b, 1, none⟩ v1).setCell ⟨b, 2, none⟩ v2).setCell ⟨b, 3, none⟩ v3).cell? ⟨b, 3, none⟩ = some v3) ∧ Kept b none w ((((w.setCell ⟨b, 0, none⟩ v0).setCell ⟨b, 1, none⟩ v1).setCell ⟨b, 2, none⟩ v2).setCell ⟨b, 3, none⟩ v3) := by
  obtain ⟨c0, c1, c2, c3, z0, z1, z2, z3⟩ := h
  refine ⟨⟨?_, ?_, ?_, ?_⟩, ((setR_kept.trans setR_kept).trans setR_kept).trans setR_kept⟩
  all_goals simp [go_sem, *]
set_option maxRecDepth 20000 in
set_option maxHeartbeats 1000000 in
theorem over_any (R n : Nat) (o' : Out) (w : World) (h : Wl R n out0 w) : Calls Tryz.prog 96 #[.pointer (some ⟨R, 0, none⟩), .agg #[.int .i64 o'.k, .int .i64 o'.n, .bool o'.b]] w fun e w' => e = .returned noV ∧ Wl R n o' w' ∧ Kept R none w w' := by
  have lr := h.lt
  obtain ⟨c0, c1, c2, c3, z0, z1, z2, z3⟩ := h
  have h0 : Hid (Wl R n out0 w) := ⟨c0, c1, c2, c3, z0, z1, z2, z3⟩
  replace c1 : w.cell? ⟨R, 1, none⟩ = some (.int .i64 0) := c1
  replace c2 : w.cell? ⟨R, 2, none⟩ = some (.int .i64 0) := c2
  replace c3 : w.cell? ⟨R, 3, none⟩ = some (.bool false) := c3
  go_enter Tryz.func96, Tryz.ntmps96
  go_wp2_with fail
  have hw : Wl R n o' (((w.setCell ⟨R, 1, none⟩ (.int .i64 o'.k)).setCell ⟨R, 2, none⟩ (.int .i64 o'.n)).setCell ⟨R, 3, none⟩ (.bool o'.b)) := h0.out.set
  have hk : Kept R none w (((w.setCell ⟨R, 1, none⟩ (.int .i64 o'.k)).setCell ⟨R, 2, none⟩ (.int .i64 o'.n)).setCell ⟨R, 3, none⟩ (.bool o'.b)) := (setR_kept.trans setR_kept).trans setR_kept
  have hb : ∀ (W : World) (A B : Obj), Below W.heap.size W ((W.alloc A).alloc B) := fun W A B => ((Below.refl _ _).alloc (Nat.le_refl _) _).alloc (by simp) _
  refine bodyPost_ret (v := noV) ?_ rfl ⟨rfl, hw.below (hb _ _ _), hk.trans (Kept.of_below (hb _ _ _))⟩
  simp [results, Tryz.results96, go_sem, noV]
set_option maxRecDepth 20000 in
set_option maxHeartbeats 1000000 in
theorem stuck_any (R n : Nat) (w : World) (h : Wl R n out0 w) : Calls Tryz.prog 94 #[.pointer (some ⟨R, 0, none⟩)] w fun e w' => e = .returned noV ∧ Wl R n stuckO w' ∧ Kept R none w w' := by
  have lr := h.lt
  have hb : Below w.heap.size w (w.alloc (.cells #[.int .i64 0, .int .i64 0, .nilFunc, .int .i64 0] 103)) := (Below.refl _ _).alloc (Nat.le_refl _) _
  have h0 : Hid (Wl R n out0 (w.alloc (.cells #[.int .i64 0, .int .i64 0, .nilFunc, .int .i64 0] 103)) ∧ Below w.heap.size w (w.alloc (.cells #[.int .i64 0, .int .i64 0, .nilFunc, .int .i64 0] 103))) := ⟨h.below hb, hb⟩
  clear h hb
  go_enter Tryz.func94, Tryz.ntmps94
  go_wp2_with (go_at_call 96; refine (over_any R n stuckO _ h0.out.1).mono ?_; rintro e w2 ⟨rfl, hw2, hk2⟩; simp only [noV]; obtain ⟨q0, q1, q2, q3, z0, z1, z2, z3⟩ := (Rb.new w).kept hk2 (by omega); have HW : Hid (Wl R n stuckO w2 ∧ Kept R none (w.alloc (.cells #[.int .i64 0, .int .i64 0, .nilFunc, .int .i64 0] 103)) w2) := ⟨hw2, hk2⟩; clear hw2 hk2)
  have hr : Rb w2 w.heap.size := ⟨q0, q1, q2, q3, z0, z1, z2, z3⟩
  obtain ⟨⟨e0, e1, e2, e3⟩, hk⟩ := hr.set (.int .i64 0) (.int .i64 0) .nilFunc (.int .i64 0)
  refine bodyPost_ret (v := noV) ?_ rfl ⟨rfl, HW.out.1.same hk (by omega), ((Kept.of_below h0.out.2).trans HW.out.2).new hk (Nat.le_refl _)⟩
  simp [results, Tryz.results94, go_sem, noV, e0, e1, e2, e3]
end Go.Proofs.YtnddkmccagiclabGreatDoor

/-
  What the call of chaperoneref.IsRight answers at a tree that lies in memory.
-/
namespace Go.Proofs.YtnddkmccagiclabGreatDoor
open Go.RowKit
/-- One of the four kinds, of as many parts as it has. -/
def topR (k : Int) (m : Nat) : Bool := decide (0 ≤ k) && decide (k ≤ 2) && ((m : Int) == 0) || (k == 3 && (m : Int) == 2)
/-- Right, as a Bool. -/
def rightY : Ty → Bool
  | ⟨k, l⟩ => topR k l.length && (l.map fun t => rightY t).all id
theorem rightY_mk (k : Int) (l : List Ty) : rightY ⟨k, l⟩ = (topR k l.length && l.all rightY) := by
  rw [rightY, List.all_map]
  rfl
theorem take_all (f : Ty → Bool) (l : List Tr) (j : Nat) (h : j < l.length) : ((l.take (j + 1)).all fun t => f t.ty) = (((l.take j).all fun t => f t.ty) && f l[j].ty) := by
  rw [List.take_succ_eq_append_getElem h, List.all_append]
  simp
theorem right_ty (t : Tr) : rightY t.ty = (topR t.k t.l.length && t.l.all fun t => rightY t.ty) := by
  obtain ⟨k, a, c, l⟩ := t
  rw [Tr.ty_mk, rightY_mk, List.length_map, List.all_map]
  rfl
set_option maxHeartbeats 1000000 in
theorem isRight_step (n : Nat) (x : Tr) (A : Option Addr) (HA : Hid (A = x.a)) (w : World) (hx : x.In w) (hh : x.hgt ≤ n + 1) (hs : x.sm)
    (ih : Hid (∀ (x : Tr) (w : World), x.In w → x.hgt ≤ n → x.sm → Calls Tryz.prog 133 #[.agg #[.int .i64 x.k, .slice x.a x.l.length x.c]] w fun e w' => e = .returned (.bool (rightY x.ty)) ∧ Below w.heap.size w w')) :
    Calls Tryz.prog 133 #[.agg #[.int .i64 x.k, .slice A x.l.length x.c]] w fun e w' => e = .returned (.bool (rightY x.ty)) ∧ Below w.heap.size w w' := by
  have hlen := hs.len
  have hb0 : Below w.heap.size w (w.alloc (.cells #[.int .i64 x.k, .slice A x.l.length x.c] 24)) := (Below.refl _ _).alloc (Nat.le_refl _) _
  go_enter Tryz.func133, Tryz.ntmps133
  go_upto_region 1 with fail
  go_cut [3] (fun s3 wx => s3 = .bool (topR x.k x.l.length) ∧ wx = w.alloc (.cells #[.int .i64 x.k, .slice A x.l.length x.c] 24))
  case first =>
    by_cases k0 : 0 ≤ x.k
    · by_cases k2 : x.k ≤ 2
      · have e3 : (x.k == 3) = false := by simp; omega
        cases m0 : ((x.l.length : Int) == 0) with
        | true =>
          go_wp2_with fail
          go_meet
          case rel => exact ⟨by simp [topR, k0, k2, m0], rfl⟩
        | false =>
          go_wp2_with fail
          go_meet
          case rel => exact ⟨by simp [topR, m0, e3], rfl⟩
      · have d2 : decide (x.k ≤ 2) = false := by simpa using k2
        cases e3 : (x.k == 3) with
        | true =>
          go_wp2_with fail
          go_meet
          case rel => exact ⟨by simp [topR, d2, e3], rfl⟩
        | false =>
          go_wp2_with fail
          go_meet
          case rel => exact ⟨by simp [topR, d2, e3], rfl⟩
    · have d0 : decide (0 ≤ x.k) = false := by simpa using k0
      have e3 : (x.k == 3) = false := by simp; omega
      go_wp2_with fail
      go_meet
      case rel => exact ⟨by simp [topR, d0, e3], rfl⟩
  case rest =>
  obtain ⟨h3, hwc⟩ := hcut
  subst h3 hwc
  go_wp2_with fail
  go_loopg [3, 34] x.l.length (fun g b i wr => ∃ (j : Nat) (c : Bool), j ≤ x.l.length ∧ g = x.l.length - j ∧ b = .bool c ∧ i = .int .i64 (j : Int) ∧ Below w.heap.size w wr ∧ Hid (c = (topR x.k x.l.length && (x.l.take j).all fun t => rightY t.ty)))
  case atStart => exact ⟨0, _, Nat.zero_le _, rfl, rfl, rfl, hb0, by show _ = _; simp⟩
  case round =>
    obtain ⟨j, c, hj, hg, rfl, rfl, hbwr, HC⟩ := hrel
    have HG : Hid (gk = x.l.length - j) := hg
    clear hg
    by_cases hlt : j < x.l.length
    · obtain ⟨b, o, ea, x0, x1, hxj⟩ := hx.part j hlt
      have eA : A = some ⟨b, o, none⟩ := HA.out.trans ea
      subst eA
      clear ea HA
      replace x0 := cell_later hbwr x0
      replace x1 := cell_later hbwr x1
      have i1 : (j : Int) < (x.l.length : Int) := by omega
      have i0 : (0 : Int) ≤ (j : Int) := by omega
      have lb : b < wr.heap.size := World.block_lt_of_cell? _ _ x0
      obtain ⟨r, hr⟩ : ∃ r, rightY x.l[j].ty = r := ⟨_, rfl⟩
      have HI : Hid (∀ (w : World), x.l[j].In w → Calls Tryz.prog 133 #[.agg #[.int .i64 x.l[j].k, .slice x.l[j].a x.l[j].l.length x.l[j].c]] w fun e w' => e = .returned (.bool r) ∧ Below w.heap.size w w') := by
        intro w h1
        have := ih.out x.l[j] w h1 (Tr.hgt_part hh j hlt) (hs.part j hlt)
        rw [hr] at this
        exact this
      have HR : Hid (rightY x.l[j].ty = r) := hr
      clear hr
      have HT : Hid ((topR x.k x.l.length && (x.l.take (j + 1)).all fun t => rightY t.ty) = ((topR x.k x.l.length && (x.l.take j).all fun t => rightY t.ty) && r)) := by
        show _ = _
        rw [take_all rightY x.l j hlt, HR.out, Bool.and_assoc]
      have hba : Below w.heap.size w (wr.alloc (.cells #[.int .i64 x.l[j].k, .slice x.l[j].a x.l[j].l.length x.l[j].c] 24)) := hbwr.alloc hbwr.size _
      cases c
      · have HN : Hid (false = (topR x.k x.l.length && (x.l.take (j + 1)).all fun t => rightY t.ty)) := by show _ = _; rw [HT.out, ← HC.out]; rfl
        clear HT HC HI HR ih
        go_wp2_with fail
        go_roundg (x.l.length - (j + 1))
        case measure => rw [HG.out]; omega
        case rel => exact ⟨j + 1, false, by omega, rfl, rfl, by go_num, hba, HN⟩
      · have HN : Hid (r = (topR x.k x.l.length && (x.l.take (j + 1)).all fun t => rightY t.ty)) := by show _ = _; rw [HT.out, ← HC.out]; rfl
        clear HT HC HR ih
        go_wp2_with fail
        refine (HI.out _ (hxj.below hba)).mono ?_
        rintro e w2 ⟨rfl, hb2⟩
        have hb3 := hba.trans (hb2.mono hba.size)
        clear hb2 hba HI x0 x1
        go_wp2_with fail
        go_roundg (x.l.length - (j + 1))
        case measure => rw [HG.out]; omega
        case rel => exact ⟨j + 1, r, by omega, rfl, rfl, by go_num, hb3, HN⟩
    · have HN : Hid (c = rightY x.ty) := by
        show _ = _
        rw [HC.out, right_ty, List.take_of_length_le (by omega)]
      clear HC
      go_wp2_with fail
      go_ret
      exact ⟨by rw [← HN.out]; rfl, hbwr⟩
theorem isRight_any (n : Nat) : ∀ (x : Tr) (w : World), x.In w → x.hgt ≤ n → x.sm → Calls Tryz.prog 133 #[.agg #[.int .i64 x.k, .slice x.a x.l.length x.c]] w fun e w' => e = .returned (.bool (rightY x.ty)) ∧ Below w.heap.size w w' := by
  induction n with
  | zero =>
    intro x w _ h
    have := x.hgt_pos
    omega
  | succ n ih =>
    intro x w hx h hs
    exact isRight_step n x x.a rfl w hx h hs (fun x w hx h hs => ih x w hx h hs)
end Go.Proofs.YtnddkmccagiclabGreatDoor

/-
  What the calls of chaperoneref.DeepOf and chaperoneref.IsType answer at a tree that lies in memory.
-/
namespace Go.Proofs.YtnddkmccagiclabGreatDoor
open Go.RowKit
/-- The most levels of a list's trees. -/
def most (l : List Tr) : Nat := (l.map Tr.hgt).foldr max 0
theorem most_append : ∀ (l r : List Tr), most (l ++ r) = max (most l) (most r)
  | [], r => by simp [most]
  | t :: l, r => by
    have := most_append l r
    simp only [most, List.cons_append, List.map_cons, List.foldr_cons] at this ⊢
    rw [this]; omega
theorem most_take (l : List Tr) (j : Nat) (h : j < l.length) : most (l.take (j + 1)) = max (most (l.take j)) l[j].hgt := by
  rw [List.take_succ_eq_append_getElem h, most_append]
  simp [most]
theorem most_le (l : List Tr) (j : Nat) : most (l.take j) ≤ most l := by
  have h := most_append (l.take j) (l.drop j)
  rw [List.take_append_drop] at h
  omega
theorem hgt_most (t : Tr) : t.hgt = most t.l + 1 := by
  obtain ⟨k, a, c, l⟩ := t
  rw [Tr.hgt_mk]
  rfl
set_option maxHeartbeats 1000000 in
theorem deepOf_step (n : Nat) (hn : n ≤ 1000000000) (x : Tr) (A : Option Addr) (HA : Hid (A = x.a)) (w : World) (hx : x.In w) (hh : x.hgt ≤ n + 1) (hs : x.sm)
    (ih : Hid (∀ (x : Tr) (w : World), x.In w → x.hgt ≤ n → x.sm → Calls Tryz.prog 134 #[.agg #[.int .i64 x.k, .slice x.a x.l.length x.c]] w fun e w' => e = .returned (.int .i64 (x.hgt : Int)) ∧ Below w.heap.size w w')) :
    Calls Tryz.prog 134 #[.agg #[.int .i64 x.k, .slice A x.l.length x.c]] w fun e w' => e = .returned (.int .i64 (x.hgt : Int)) ∧ Below w.heap.size w w' := by
  have hlen := hs.len
  have hm := hgt_most x
  have HM : Hid (x.hgt = most x.l + 1) := hm
  have hmn : most x.l ≤ n := by omega
  clear hm
  have hb0 : Below w.heap.size w (w.alloc (.cells #[.int .i64 x.k, .slice A x.l.length x.c] 24)) := (Below.refl _ _).alloc (Nat.le_refl _) _
  go_enter Tryz.func134, Tryz.ntmps134
  go_wp2_with fail
  go_loopg [3, 9] x.l.length (fun g b i wr => ∃ (j m : Nat), j ≤ x.l.length ∧ g = x.l.length - j ∧ b = .int .i64 (m : Int) ∧ i = .int .i64 (j : Int) ∧ Below w.heap.size w wr ∧ Hid (m = most (x.l.take j)))
  case atStart => exact ⟨0, 0, Nat.zero_le _, rfl, rfl, rfl, hb0, rfl⟩
  case round =>
    obtain ⟨j, m, hj, hg, rfl, rfl, hbwr, HC⟩ := hrel
    have HG : Hid (gk = x.l.length - j) := hg
    clear hg
    have hmm : m ≤ n := by have := most_le x.l j; rw [HC.out]; omega
    by_cases hlt : j < x.l.length
    · obtain ⟨b, o, ea, x0, x1, hxj⟩ := hx.part j hlt
      have eA : A = some ⟨b, o, none⟩ := HA.out.trans ea
      subst eA
      clear ea HA
      replace x0 := cell_later hbwr x0
      replace x1 := cell_later hbwr x1
      have i1 : (j : Int) < (x.l.length : Int) := by omega
      have i0 : (0 : Int) ≤ (j : Int) := by omega
      have lb : b < wr.heap.size := World.block_lt_of_cell? _ _ x0
      obtain ⟨r, hr⟩ : ∃ r, x.l[j].hgt = r := ⟨_, rfl⟩
      have HI : Hid (∀ (w : World), x.l[j].In w → Calls Tryz.prog 134 #[.agg #[.int .i64 x.l[j].k, .slice x.l[j].a x.l[j].l.length x.l[j].c]] w fun e w' => e = .returned (.int .i64 (r : Int)) ∧ Below w.heap.size w w') := by
        intro w h1
        have := ih.out x.l[j] w h1 (Tr.hgt_part hh j hlt) (hs.part j hlt)
        rw [hr] at this
        exact this
      have HT : Hid (most (x.l.take (j + 1)) = max m r) := by
        show _ = _
        rw [most_take x.l j hlt, hr, ← HC.out]
      clear hr
      have hba : Below w.heap.size w (wr.alloc (.cells #[.int .i64 x.l[j].k, .slice x.l[j].a x.l[j].l.length x.l[j].c] 24)) := hbwr.alloc hbwr.size _
      clear HC ih
      go_wp2_with fail
      refine (HI.out _ (hxj.below hba)).mono ?_
      rintro e w2 ⟨rfl, hb2⟩
      have hb3 := hba.trans (hb2.mono hba.size)
      clear hb2 hba HI x0 x1
      rcases Nat.lt_or_ge m r with hmr | hmr
      · have hmi : (m : Int) < (r : Int) := by omega
        have HE : Hid (r = most (x.l.take (j + 1))) := by show _ = _; rw [HT.out]; omega
        go_wp2_with fail
        go_roundg (x.l.length - (j + 1))
        case measure => rw [HG.out]; omega
        case rel => exact ⟨j + 1, r, by omega, rfl, (by first | rfl | (congr 1; omega)), by go_num, hb3, HE⟩
      · have hmi : (r : Int) ≤ (m : Int) := by omega
        have HE : Hid (m = most (x.l.take (j + 1))) := by show _ = _; rw [HT.out]; omega
        go_wp2_with fail
        go_roundg (x.l.length - (j + 1))
        case measure => rw [HG.out]; omega
        case rel => exact ⟨j + 1, m, by omega, rfl, (by first | rfl | (congr 1; omega)), by go_num, hb3, HE⟩
    · have HN : Hid (m + 1 = x.hgt) := by
        show _ = _
        rw [HC.out, HM.out, List.take_of_length_le (by omega)]
      clear HC HM
      go_wp2_with fail
      go_ret
      exact ⟨by rw [← HN.out]; rfl, hbwr⟩
/-- chaperoneref.DeepOf. -/
theorem deepOf_any (n : Nat) : n ≤ 1000000000 → ∀ (x : Tr) (w : World), x.In w → x.hgt ≤ n → x.sm → Calls Tryz.prog 134 #[.agg #[.int .i64 x.k, .slice x.a x.l.length x.c]] w fun e w' => e = .returned (.int .i64 (x.hgt : Int)) ∧ Below w.heap.size w w' := by
  induction n with
  | zero =>
    intro _ x w _ h
    have := x.hgt_pos
    omega
  | succ n ih =>
    intro hn x w hx h hs
    exact deepOf_step n (by omega) x x.a rfl w hx h hs (fun x w hx h hs => ih (by omega) x w hx h hs)
end Go.Proofs.YtnddkmccagiclabGreatDoor

/-
  What the calls of kind.join and kind.Join do at two right trees of which the first has no more levels than there is room for.
-/
namespace Go.Proofs.YtnddkmccagiclabGreatDoor
open Go.RowKit
/-- But for two cells of one block the memory that was there is as it was. -/
structure Wrote (ib io : Nat) (w w' : World) : Prop where
  os : w'.os = w.os
  tape : w'.tape = w.tape
  output : w'.output = w.output
  size : w.heap.size ≤ w'.heap.size
  block : ∀ k, k < w.heap.size → k ≠ ib → w'.heap[k]? = w.heap[k]?
  cell : ∀ o, o ≠ io → o ≠ io + 1 → w'.cell? ⟨ib, o, none⟩ = w.cell? ⟨ib, o, none⟩
  frozen : ∀ o, w'.frozen? ⟨ib, o, none⟩ = w.frozen? ⟨ib, o, none⟩
theorem Wrote.alloc {ib io : Nat} {w w' : World} (h : Wrote ib io w w') (hi : ib < w.heap.size) (o : Obj) : Wrote ib io w (w'.alloc o) :=
  have hs := h.size
  have hb : Below w'.heap.size w' (w'.alloc o) := (Below.refl _ _).alloc (Nat.le_refl _) o
  ⟨h.os, h.tape, h.output, by rw [World.size_alloc]; omega, fun k hk hne => (hb.block k (by omega)).trans (h.block k hk hne), fun q h0 h1 => (hb.cell (p := ⟨ib, q, none⟩) (by simp; omega)).trans (h.cell q h0 h1), fun q => (hb.frozen (p := ⟨ib, q, none⟩) (by simp; omega)).trans (h.frozen q)⟩
theorem Wrote.of_below {ib io : Nat} {w w' : World} (h : Below w.heap.size w w') (hi : ib < w.heap.size) : Wrote ib io w w' :=
  ⟨h.os, h.tape, h.output, h.size, fun k hk _ => h.block k hk, fun q _ _ => h.cell (p := ⟨ib, q, none⟩) hi, fun q => h.frozen (p := ⟨ib, q, none⟩) hi⟩
theorem Wrote.set {ib io : Nat} {w w' : World} (h : Wrote ib io w w') (u v : Value) : Wrote ib io w ((w'.setCell ⟨ib, io, none⟩ u).setCell ⟨ib, io + 1, none⟩ v) := by
  refine ⟨h.os, h.tape, h.output, ?_, fun k hk hne => ?_, fun q h0 h1 => ?_, fun q => ?_⟩
  · have hs := h.size
    simp only [World.setCell, Array.size_modify]; exact hs
  · rw [Below.heap_setCell _ _ _ _ hne, Below.heap_setCell _ _ _ _ hne]; exact h.block k hk hne
  · rw [World.cell?_setCell_other, World.cell?_setCell_other]
    · exact h.cell q h0 h1
    · intro e; simp only [Addr.mk.injEq] at e; omega
    · intro e; simp only [Addr.mk.injEq] at e; omega
  · rw [World.frozen?_setCell, World.frozen?_setCell]; exact h.frozen q
theorem set_cells {ib io : Nat} {w : World} {u v u' v' : Value} (h0 : w.cell? ⟨ib, io, none⟩ = some u') (h1 : w.cell? ⟨ib, io + 1, none⟩ = some v') :
    ((w.setCell ⟨ib, io, none⟩ u).setCell ⟨ib, io + 1, none⟩ v).cell? ⟨ib, io, none⟩ = some u ∧ ((w.setCell ⟨ib, io, none⟩ u).setCell ⟨ib, io + 1, none⟩ v).cell? ⟨ib, io + 1, none⟩ = some v := by
  have hne : (⟨ib, io + 1, none⟩ : Addr) ≠ ⟨ib, io, none⟩ := by intro e; simp only [Addr.mk.injEq] at e; omega
  constructor
  · rw [World.cell?_setCell_other _ _ _ _ hne]; exact World.cell?_setCell_same _ _ _ h0
  · refine World.cell?_setCell_same _ _ _ (u := v') ?_
    rw [World.cell?_setCell_other _ _ _ _ (Ne.symm hne)]; exact h1
/-- What the call of join leaves: what both say, in new memory, but for the two cells that it was to be written into. -/
def Joined (x y : Tr) (ib io : Nat) (w w' : World) : Prop :=
  ∃ t : Tr, t.ty = joinY x.ty y.ty ∧ t.In w' ∧ t.Bl (w.heap.size ≤ ·) ∧ w'.cell? ⟨ib, io, none⟩ = some (.int .i64 t.k) ∧ w'.cell? ⟨ib, io + 1, none⟩ = some (.slice t.a t.l.length t.c) ∧ Wrote ib io w w'
/-- The two parts while they are made. -/
def JI (W1 : World) (P : Nat) (x0 x1 y0 y1 : Tr) (j : Nat) (wr : World) : Prop :=
  Below P W1 wr ∧ (∀ o, wr.frozen? ⟨P, o, none⟩ = false) ∧ ∃ s0 s1 : Tr, s0.In wr ∧ s1.In wr ∧ s0.Bl (P < ·) ∧ s1.Bl (P < ·) ∧
    wr.cell? ⟨P, 0, none⟩ = some (.int .i64 s0.k) ∧ wr.cell? ⟨P, 1, none⟩ = some (.slice s0.a s0.l.length s0.c) ∧ wr.cell? ⟨P, 2, none⟩ = some (.int .i64 s1.k) ∧ wr.cell? ⟨P, 3, none⟩ = some (.slice s1.a s1.l.length s1.c) ∧
    (0 < j → s0.ty = joinY x0.ty y0.ty) ∧ (1 < j → s1.ty = joinY x1.ty y1.ty) ∧ (j ≤ 0 → s0 = leaf 0) ∧ (j ≤ 1 → s1 = leaf 0)
theorem Wrote.under {ib io : Nat} {w w' : World} (h : Wrote ib io w w') (hi : ib ≤ w.heap.size) : Below ib w w' :=
  ⟨h.os, h.tape, h.output, h.size, fun k hk => h.block k (by omega) (by omega)⟩
theorem Joined.under {x y : Tr} {P io : Nat} {w w' : World} (h : Joined x y P io w.drew w') (hP : P ≤ w.heap.size) : Below P w w' := by
  obtain ⟨_, _, _, _, _, _, hw⟩ := h
  exact ((Below.refl _ _).drew).trans (hw.under hP)
/-- What lies in other blocks stays. -/
theorem Wrote.keeps {ib io : Nat} {w w' : World} (h : Wrote ib io w w') {t : Tr} (hin : t.In w) (hne : t.Bl (· ≠ ib)) : t.In w' := by
  refine hin.congr (P := fun b => b < w.heap.size ∧ b ≠ ib) ?_ (hin.bl.and hne)
  rintro b ⟨hb, hn⟩ o
  exact World.cell?_of_block (a := ⟨b, o, none⟩) (h.block b hb hn)
theorem JI.start {W1 : World} {x0 x1 y0 y1 : Tr} : JI W1 W1.heap.size x0 x1 y0 y1 0 (W1.alloc (.cells #[.int .i64 0, .slice none 0 0, .int .i64 0, .slice none 0 0] 24)) := by
  refine ⟨(Below.refl _ _).alloc (Nat.le_refl _) _, fun o => by simp [go_sem], leaf 0, leaf 0, leaf_in _ _, leaf_in _ _, leaf_bl _ _, leaf_bl _ _, by simp [go_sem, leaf], by simp [go_sem, leaf], by simp [go_sem, leaf], by simp [go_sem, leaf], fun h => absurd h (by omega), fun h => absurd h (by omega), fun _ => rfl, fun _ => rfl⟩
theorem JI.step0 {W1 wr w2 : World} {P : Nat} {x0 x1 y0 y1 : Tr} (h : JI W1 P x0 x1 y0 y1 0 wr) (hj : Joined x0 y0 P 0 wr.drew w2) : JI W1 P x0 x1 y0 y1 1 w2 := by
  obtain ⟨hb, hf, s0, s1, i0, i1, b0, b1, c0, c1, c2, c3, t0, t1, z0, z1⟩ := h
  obtain ⟨t, ht, hin, hbl, d0, d1, hw⟩ := hj
  have hP : P < wr.heap.size := World.block_lt_of_cell? _ _ c0
  refine ⟨hb.drew.trans (hw.under (Nat.le_of_lt hP)), fun o => (hw.frozen o).trans (hf o), t, s1, hin, hw.keeps (w := wr.drew) (i1.below ((Below.refl _ _).drew)) (b1.mono fun b hb => by omega), hbl.mono (fun b hb => Nat.lt_of_lt_of_le hP hb), b1, d0, d1, (hw.cell 2 (by omega) (by omega)).trans c2, (hw.cell 3 (by omega) (by omega)).trans c3, fun _ => ht, fun h => absurd h (by omega), fun h => absurd h (by omega), fun _ => z1 (by omega)⟩
theorem JI.step1 {W1 wr w2 : World} {P : Nat} {x0 x1 y0 y1 : Tr} (h : JI W1 P x0 x1 y0 y1 1 wr) (hj : Joined x1 y1 P 2 wr.drew w2) : JI W1 P x0 x1 y0 y1 2 w2 := by
  obtain ⟨hb, hf, s0, s1, i0, i1, b0, b1, c0, c1, c2, c3, t0, t1, z0, z1⟩ := h
  obtain ⟨t, ht, hin, hbl, d0, d1, hw⟩ := hj
  have hP : P < wr.heap.size := World.block_lt_of_cell? _ _ c0
  refine ⟨hb.drew.trans (hw.under (Nat.le_of_lt hP)), fun o => (hw.frozen o).trans (hf o), s0, t, hw.keeps (w := wr.drew) (i0.below ((Below.refl _ _).drew)) (b0.mono fun b hb => by omega), hin, b0, hbl.mono (fun b hb => Nat.lt_of_lt_of_le hP hb), (hw.cell 0 (by omega) (by omega)).trans c0, (hw.cell 1 (by omega) (by omega)).trans c1, d0, d1, fun _ => t0 (by omega), fun _ => ht, fun h => absurd h (by omega), fun h => absurd h (by omega)⟩
theorem Tryz.info24 : (Tryz.prog.info? 24).map (fun i => (i.zero, i.size, i.bytes)) = some (some (.agg #[.int .i64 0, .slice none 0 0]), 2, 32) := by kernel_rfl
theorem make0 (w : World) : (Instr.makeSlice 22 (.int .i64 0) (.int .i64 0)).run Tryz.prog w = .ok (.slice (some ⟨w.heap.size, 0, none⟩) 0 0) (w.alloc (.cells #[] 24)) := by
  obtain ⟨i0, hi0, hz0, hz1, hz2⟩ := info_parts Tryz.info24
  have h := run_make (P := Tryz.prog) w 22 24 i0 _ Tryz.underlying22 hi0 hz0 .i64 .i64 0 0 (by omega) (by omega) (by omega) (by omega)
  rw [h, hz1]
  have e : madeCells (Value.agg #[.int .i64 0, .slice none 0 0]).cells (Int.toNat 0 * 2) = #[] := by
    apply Array.ext'
    simp [madeCells, Array.range_zero']
  rw [e]
  rfl
theorem make2 (w : World) : (Instr.makeSlice 22 (.int .i64 2) (.int .i64 2)).run Tryz.prog w = .ok (.slice (some ⟨w.heap.size, 0, none⟩) 2 2) (w.alloc (.cells #[.int .i64 0, .slice none 0 0, .int .i64 0, .slice none 0 0] 24)) := by
  obtain ⟨i0, hi0, hz0, hz1, hz2⟩ := info_parts Tryz.info24
  have h := run_make (P := Tryz.prog) w 22 24 i0 _ Tryz.underlying22 hi0 hz0 .i64 .i64 2 2 (by omega) (by omega) (by rw [hz2]; omega) (by omega)
  rw [h, hz1]
  have e : madeCells (Value.agg #[.int .i64 0, .slice none 0 0]).cells (Int.toNat 2 * 2) = #[.int .i64 0, .slice none 0 0, .int .i64 0, .slice none 0 0] := by
    apply Array.ext'
    simp [madeCells, Value.cells, List.range_succ]
  rw [e]
  rfl
set_option maxHeartbeats 400000 in
theorem join_diff (n : Nat) (hn : n ≤ 1000) (k k' : Int) (hk : (k != k') = true) (a a' p rp : Option Addr) (m m' c c' : Nat) (w : World) :
    Calls Tryz.prog 110 #[.agg #[.int .i64 k, .slice a m c, .int .i64 k', .slice a' m' c', .pointer p], .int .i64 ((n : Int) + 1), .pointer rp] w fun e w' => e = .returned (.tuple #[]) ∧ w' = w.alloc (.cells #[.int .i64 k, .slice a m c, .int .i64 k', .slice a' m' c', .pointer p] 141) := by
  have hz : (((n : Int) + 1) == 0) = false := by simp; omega
  go_enter Tryz.func110, Tryz.ntmps110
  go_wp2_with fail
  exact bodyPost_ret (v := .tuple #[]) (by simp [results, Tryz.results110, go_sem]) rfl ⟨rfl, rfl⟩
set_option maxHeartbeats 400000 in
theorem join_leaf (n : Nat) (hn : n ≤ 1000) (k : Int) (a a' rp : Option Addr) (c c' ib io : Nat) (w : World) (z0 : w.cell? ⟨ib, io, none⟩ = some (.int .i64 0)) (z1 : w.cell? ⟨ib, io + 1, none⟩ = some (.slice none 0 0)) (f0 : w.frozen? ⟨ib, io, none⟩ = false) (f1 : w.frozen? ⟨ib, io + 1, none⟩ = false) :
    Calls Tryz.prog 110 #[.agg #[.int .i64 k, .slice a 0 c, .int .i64 k, .slice a' 0 c', .pointer (some ⟨ib, io, none⟩)], .int .i64 ((n : Int) + 1), .pointer rp] w fun e w' => e = .returned (.tuple #[]) ∧ ∃ g, w'.cell? ⟨ib, io, none⟩ = some (.int .i64 k) ∧ w'.cell? ⟨ib, io + 1, none⟩ = some (.slice (some ⟨g, 0, none⟩) 0 0) ∧ Wrote ib io w w' := by
  have hz : (((n : Int) + 1) == 0) = false := by simp; omega
  have lb : ib < w.heap.size := World.block_lt_of_cell? _ _ z0
  have hmk := make0
  go_enter Tryz.func110, Tryz.ntmps110
  go_wp2_with fail
  go_loopw [32] (fun i wr => i = .int .i64 0 ∧ wr = (w.alloc (.cells #[.int .i64 k, .slice a 0 c, .int .i64 k, .slice a' 0 c', .pointer (some ⟨ib, io, none⟩)] 141)).alloc (.cells #[] 24)) (fun _ _ => 0)
  case atStart => exact ⟨rfl, rfl⟩
  case round =>
    obtain ⟨rfl, rfl⟩ := hrel
    go_wp2_with fail
    go_end0
    refine ⟨rfl, w.heap.size + 1, ?_, ?_, ((Wrote.of_below (Below.refl _ _) lb).set _ _).alloc lb _ |>.alloc lb _⟩
    · refine cell_later (((Below.refl _ _).alloc (Nat.le_refl _) _).alloc (by simp) _) (set_cells z0 z1).1
    · refine cell_later (((Below.refl _ _).alloc (Nat.le_refl _) _).alloc (by simp) _) (set_cells z0 z1).2
set_option maxHeartbeats 1000000 in
theorem join_fun (n : Nat) (hn : n ≤ 1000) (rp : Option Addr) (bx ox by' oy c c' ib io : Nat) (x0 x1 y0 y1 : Tr) (w : World) (z0 : w.cell? ⟨ib, io, none⟩ = some (.int .i64 0)) (z1 : w.cell? ⟨ib, io + 1, none⟩ = some (.slice none 0 0)) (f0 : w.frozen? ⟨ib, io, none⟩ = false) (f1 : w.frozen? ⟨ib, io + 1, none⟩ = false)
    (cx0 : w.cell? ⟨bx, ox, none⟩ = some (.int .i64 x0.k)) (cx1 : w.cell? ⟨bx, ox + 1, none⟩ = some (.slice x0.a x0.l.length x0.c)) (cx2 : w.cell? ⟨bx, ox + 2, none⟩ = some (.int .i64 x1.k)) (cx3 : w.cell? ⟨bx, ox + 3, none⟩ = some (.slice x1.a x1.l.length x1.c))
    (cy0 : w.cell? ⟨by', oy, none⟩ = some (.int .i64 y0.k)) (cy1 : w.cell? ⟨by', oy + 1, none⟩ = some (.slice y0.a y0.l.length y0.c)) (cy2 : w.cell? ⟨by', oy + 2, none⟩ = some (.int .i64 y1.k)) (cy3 : w.cell? ⟨by', oy + 3, none⟩ = some (.slice y1.a y1.l.length y1.c))
    (H0 : Hid (∀ (P : Nat) (W : World), w.heap.size ≤ P → Below w.heap.size w W → W.cell? ⟨P, 0, none⟩ = some (.int .i64 0) → W.cell? ⟨P, 0 + 1, none⟩ = some (.slice none 0 0) → (∀ o, W.frozen? ⟨P, o, none⟩ = false) → Calls Tryz.prog 110 #[.agg #[.int .i64 x0.k, .slice x0.a x0.l.length x0.c, .int .i64 y0.k, .slice y0.a y0.l.length y0.c, .pointer (some ⟨P, 0, none⟩)], .int .i64 (n : Int), .pointer rp] W fun e w' => e = .returned (.tuple #[]) ∧ Joined x0 y0 P 0 W w'))
    (H1 : Hid (∀ (P : Nat) (W : World), w.heap.size ≤ P → Below w.heap.size w W → W.cell? ⟨P, 2, none⟩ = some (.int .i64 0) → W.cell? ⟨P, 2 + 1, none⟩ = some (.slice none 0 0) → (∀ o, W.frozen? ⟨P, o, none⟩ = false) → Calls Tryz.prog 110 #[.agg #[.int .i64 x1.k, .slice x1.a x1.l.length x1.c, .int .i64 y1.k, .slice y1.a y1.l.length y1.c, .pointer (some ⟨P, 2, none⟩)], .int .i64 (n : Int), .pointer rp] W fun e w' => e = .returned (.tuple #[]) ∧ Joined x1 y1 P 2 W w')) :
    Calls Tryz.prog 110 #[.agg #[.int .i64 3, .slice (some ⟨bx, ox, none⟩) 2 c, .int .i64 3, .slice (some ⟨by', oy, none⟩) 2 c', .pointer (some ⟨ib, io, none⟩)], .int .i64 ((n : Int) + 1), .pointer rp] w fun e w' => e = .returned (.tuple #[]) ∧ ∃ W1 wr P, w.heap.size ≤ P ∧ Below w.heap.size w wr ∧ JI W1 P x0 x1 y0 y1 2 wr ∧ w' = (wr.setCell ⟨ib, io, none⟩ (.int .i64 3)).setCell ⟨ib, io + 1, none⟩ (.slice (some ⟨P, 0, none⟩) 2 2) := by
  have hz : (((n : Int) + 1) == 0) = false := by simp; omega
  have lb : ib < w.heap.size := World.block_lt_of_cell? _ _ z0
  have lbx : bx < w.heap.size := World.block_lt_of_cell? _ _ cx0
  have lby : by' < w.heap.size := World.block_lt_of_cell? _ _ cy0
  have hmk := make2
  have hwr : IntKind.i64.wrap (n : Int) = (n : Int) := by rw [IntKind.wrap_i64]; omega
  go_enter Tryz.func110, Tryz.ntmps110
  go_wp2_with fail
  go_loopg [32] 2 (fun k i wr => ∃ j : Nat, k + j = 2 ∧ i = .int .i64 (j : Int) ∧ JI (w.alloc (.cells #[.int .i64 3, .slice (some ⟨bx, ox, none⟩) 2 c, .int .i64 3, .slice (some ⟨by', oy, none⟩) 2 c', .pointer (some ⟨ib, io, none⟩)] 141)) (w.heap.size + 1) x0 x1 y0 y1 j wr)
  case atStart => exact ⟨0, rfl, rfl, by simpa using JI.start (W1 := w.alloc (.cells #[.int .i64 3, .slice (some ⟨bx, ox, none⟩) 2 c, .int .i64 3, .slice (some ⟨by', oy, none⟩) 2 c', .pointer (some ⟨ib, io, none⟩)] 141)) (x0 := x0) (x1 := x1) (y0 := y0) (y1 := y1)⟩
  case round =>
    obtain ⟨j, hj, rfl, hji⟩ := hrel
    have HJ : Hid (JI (w.alloc (.cells #[.int .i64 3, .slice (some ⟨bx, ox, none⟩) 2 c, .int .i64 3, .slice (some ⟨by', oy, none⟩) 2 c', .pointer (some ⟨ib, io, none⟩)] 141)) (w.heap.size + 1) x0 x1 y0 y1 j wr) := hji
    obtain ⟨hb, hf, s0, s1, i0, i1, b0, b1, d0, d1, d2, d3, t0, t1, e0, e1⟩ := hji
    have hbw : Below w.heap.size w wr := ((Below.refl _ _).alloc (Nat.le_refl _) _).trans (hb.mono (by omega))
    have q1 : wr.cell? ⟨w.heap.size, 1, none⟩ = some (.slice (some ⟨bx, ox, none⟩) 2 c) := by rw [hb.cell (p := ⟨w.heap.size, 1, none⟩) (by simp)]; simp [go_sem]
    have q3 : wr.cell? ⟨w.heap.size, 3, none⟩ = some (.slice (some ⟨by', oy, none⟩) 2 c') := by rw [hb.cell (p := ⟨w.heap.size, 3, none⟩) (by simp)]; simp [go_sem]
    have q4 : wr.cell? ⟨w.heap.size, 4, none⟩ = some (.pointer (some ⟨ib, io, none⟩)) := by rw [hb.cell (p := ⟨w.heap.size, 4, none⟩) (by simp)]; simp [go_sem]
    have q0 : wr.cell? ⟨w.heap.size, 0, none⟩ = some (.int .i64 3) := by rw [hb.cell (p := ⟨w.heap.size, 0, none⟩) (by simp)]; simp [go_sem]
    replace cx0 := cell_later hbw cx0
    replace cx1 := cell_later hbw cx1
    replace cx2 := cell_later hbw cx2
    replace cx3 := cell_later hbw cx3
    replace cy0 := cell_later hbw cy0
    replace cy1 := cell_later hbw cy1
    replace cy2 := cell_later hbw cy2
    replace cy3 := cell_later hbw cy3
    have hP : w.heap.size + 1 ≤ wr.heap.size := Nat.le_of_lt (World.block_lt_of_cell? _ _ d0)
    obtain rfl | rfl | rfl : j = 0 ∨ j = 1 ∨ j = 2 := by omega
    · obtain rfl := e0 (by omega)
      have HG : Hid ((wr.drew.cell? ⟨w.heap.size + 1, 0, none⟩ = some (.int .i64 0)) ∧ (wr.drew.cell? ⟨w.heap.size + 1, 0 + 1, none⟩ = some (.slice none 0 0)) ∧ ∀ o, wr.drew.frozen? ⟨w.heap.size + 1, o, none⟩ = false) := ⟨d0, d1, hf⟩
      clear hf i0 i1 b0 b1 d0 d1 d2 d3 t0 t1 e0 e1 z0 z1 f0 f1 q0 q4
      go_wp2_with fail
      go_region_held3 (fun w' => w'.cell? ⟨w.heap.size, 1, none⟩ = some (.slice (some ⟨bx, ox, none⟩) 2 c) ∧ w'.cell? ⟨w.heap.size, 3, none⟩ = some (.slice (some ⟨by', oy, none⟩) 2 c') ∧ w'.cell? ⟨bx, ox, none⟩ = some (.int .i64 x0.k) ∧ w'.cell? ⟨bx, ox + 1, none⟩ = some (.slice x0.a x0.l.length x0.c) ∧ w'.cell? ⟨by', oy, none⟩ = some (.int .i64 y0.k) ∧ w'.cell? ⟨by', oy + 1, none⟩ = some (.slice y0.a y0.l.length y0.c))
        (first
          | exact ⟨(hu.cell (p := ⟨w.heap.size, 1, none⟩) (by simp)).trans q1, (hu.cell (p := ⟨w.heap.size, 3, none⟩) (by simp)).trans q3, (hu.cell (p := ⟨bx, _, none⟩) (Nat.lt_succ_of_lt lbx)).trans cx0, (hu.cell (p := ⟨bx, _, none⟩) (Nat.lt_succ_of_lt lbx)).trans cx1, (hu.cell (p := ⟨by', _, none⟩) (Nat.lt_succ_of_lt lby)).trans cy0, (hu.cell (p := ⟨by', _, none⟩) (Nat.lt_succ_of_lt lby)).trans cy1⟩
          | go_keep)
        (first
          | (go_at_call 110; refine (H0.out _ _ (Nat.le_succ _) hbw.drew HG.out.1 HG.out.2.1 HG.out.2.2).mono ?_; rintro e w2 ⟨rfl, hj2⟩; have hu := hj2.under hP))
      have HJ2 : Hid (JI (w.alloc (.cells #[.int .i64 3, .slice (some ⟨bx, ox, none⟩) 2 c, .int .i64 3, .slice (some ⟨by', oy, none⟩) 2 c', .pointer (some ⟨ib, io, none⟩)] 141)) (w.heap.size + 1) x0 x1 y0 y1 1 w2) := JI.step0 HJ.out hj2
      clear hj2
      go_wp2_with fail
      go_roundg 1
      case measure => omega
      case rel => exact ⟨1, rfl, rfl, HJ2⟩
    · obtain rfl := e1 (by omega)
      have HG : Hid ((wr.drew.cell? ⟨w.heap.size + 1, 2, none⟩ = some (.int .i64 0)) ∧ (wr.drew.cell? ⟨w.heap.size + 1, 2 + 1, none⟩ = some (.slice none 0 0)) ∧ ∀ o, wr.drew.frozen? ⟨w.heap.size + 1, o, none⟩ = false) := ⟨d2, d3, hf⟩
      clear hf i0 i1 b0 b1 d0 d1 d2 d3 t0 t1 e0 e1 z0 z1 f0 f1 q0 q4
      go_wp2_with fail
      go_region_held3 (fun w' => w'.cell? ⟨w.heap.size, 1, none⟩ = some (.slice (some ⟨bx, ox, none⟩) 2 c) ∧ w'.cell? ⟨w.heap.size, 3, none⟩ = some (.slice (some ⟨by', oy, none⟩) 2 c') ∧ w'.cell? ⟨bx, ox + 2, none⟩ = some (.int .i64 x1.k) ∧ w'.cell? ⟨bx, ox + 3, none⟩ = some (.slice x1.a x1.l.length x1.c) ∧ w'.cell? ⟨by', oy + 2, none⟩ = some (.int .i64 y1.k) ∧ w'.cell? ⟨by', oy + 3, none⟩ = some (.slice y1.a y1.l.length y1.c))
        (first
          | exact ⟨(hu.cell (p := ⟨w.heap.size, 1, none⟩) (by simp)).trans q1, (hu.cell (p := ⟨w.heap.size, 3, none⟩) (by simp)).trans q3, (hu.cell (p := ⟨bx, _, none⟩) (Nat.lt_succ_of_lt lbx)).trans cx2, (hu.cell (p := ⟨bx, _, none⟩) (Nat.lt_succ_of_lt lbx)).trans cx3, (hu.cell (p := ⟨by', _, none⟩) (Nat.lt_succ_of_lt lby)).trans cy2, (hu.cell (p := ⟨by', _, none⟩) (Nat.lt_succ_of_lt lby)).trans cy3⟩
          | go_keep)
        (first
          | (go_at_call 110; refine (H1.out _ _ (Nat.le_succ _) hbw.drew HG.out.1 HG.out.2.1 HG.out.2.2).mono ?_; rintro e w2 ⟨rfl, hj2⟩; have hu := hj2.under hP))
      have HJ2 : Hid (JI (w.alloc (.cells #[.int .i64 3, .slice (some ⟨bx, ox, none⟩) 2 c, .int .i64 3, .slice (some ⟨by', oy, none⟩) 2 c', .pointer (some ⟨ib, io, none⟩)] 141)) (w.heap.size + 1) x0 x1 y0 y1 2 w2) := JI.step1 HJ.out hj2
      clear hj2
      go_wp2_with fail
      go_roundg 0
      case measure => omega
      case rel => exact ⟨2, rfl, rfl, HJ2⟩
    · have zz0 := cell_later hbw z0
      have zz1 := cell_later hbw z1
      have ff0 : wr.frozen? ⟨ib, io, none⟩ = false := (hbw.frozen (p := ⟨ib, io, none⟩) lb).trans f0
      have ff1 : wr.frozen? ⟨ib, io + 1, none⟩ = false := (hbw.frozen (p := ⟨ib, io + 1, none⟩) lb).trans f1
      clear hf i0 i1 b0 b1 d0 d1 d2 d3 t0 t1 e0 e1 z0 z1 f0 f1
      go_wp2_with fail
      go_end0
      exact ⟨rfl, _, _, _, Nat.le_succ _, hbw, HJ.out, rfl⟩
end Go.Proofs.YtnddkmccagiclabGreatDoor

/-
  What the calls of kind.join and kind.Join answer at two right trees of which the first has at most a thousand levels.
-/
namespace Go.Proofs.YtnddkmccagiclabGreatDoor
open Go.RowKit
theorem set_keeps {ib io : Nat} {w : World} {u v : Value} {t : Tr} (hin : t.In w) (hne : t.Bl (· ≠ ib)) : t.In ((w.setCell ⟨ib, io, none⟩ u).setCell ⟨ib, io + 1, none⟩ v) := by
  refine hin.congr (P := (· ≠ ib)) ?_ hne
  intro b hb o
  rw [World.cell?_setCell_other, World.cell?_setCell_other]
  · intro e; simp only [Addr.mk.injEq] at e; omega
  · intro e; simp only [Addr.mk.injEq] at e; omega
theorem Joined.of_parts {x y x0 x1 y0 y1 : Tr} {ib io P : Nat} {w wr W1 : World} (hx : x.l = [x0, x1]) (hy : y.l = [y0, y1]) (kx : x.k = 3) (ky : y.k = 3) (hib : ib < w.heap.size) (hP : w.heap.size ≤ P) (hb : Below w.heap.size w wr) (h : JI W1 P x0 x1 y0 y1 2 wr)
    (z0 : w.cell? ⟨ib, io, none⟩ = some (.int .i64 0)) (z1 : w.cell? ⟨ib, io + 1, none⟩ = some (.slice none 0 0)) :
    Joined x y ib io w ((wr.setCell ⟨ib, io, none⟩ (.int .i64 3)).setCell ⟨ib, io + 1, none⟩ (.slice (some ⟨P, 0, none⟩) 2 2)) := by
  obtain ⟨_, hf, s0, s1, i0, i1, b0, b1, d0, d1, d2, d3, t0, t1, _, _⟩ := h
  have hc := set_cells (u := .int .i64 3) (v := .slice (some ⟨P, 0, none⟩) 2 2) (cell_later hb z0) (cell_later hb z1)
  have hcell : ∀ o, ((wr.setCell ⟨ib, io, none⟩ (.int .i64 3)).setCell ⟨ib, io + 1, none⟩ (.slice (some ⟨P, 0, none⟩) 2 2)).cell? ⟨P, o, none⟩ = wr.cell? ⟨P, o, none⟩ := by
    intro o
    rw [World.cell?_setCell_other, World.cell?_setCell_other]
    · intro e; simp only [Addr.mk.injEq] at e; omega
    · intro e; simp only [Addr.mk.injEq] at e; omega
  refine ⟨.mk 3 (some ⟨P, 0, none⟩) 2 [s0, s1], ?_, ?_, ?_, hc.1, hc.2, (Wrote.of_below hb hib).set _ _⟩
  · obtain ⟨k, a, c, l⟩ := x
    obtain ⟨k', a', c', l'⟩ := y
    dsimp only at hx hy kx ky
    subst hx hy kx ky
    simp [Tr.ty_mk, joinY_mk, joinL, t0 (by omega), t1 (by omega)]
  · exact Tr.In_two (by rw [hcell]; exact d0) (by rw [hcell]; exact d1) (by rw [hcell]; exact d2) (by rw [hcell]; exact d3) (set_keeps i0 (b0.mono fun b hb => by omega)) (set_keeps i1 (b1.mono fun b hb => by omega))
  · exact Tr.Bl_two hP (b0.mono fun b hb => by omega) (b1.mono fun b hb => by omega)
theorem Joined.of_diff {x y : Tr} {ib io : Nat} {w w' : World} (hk : x.k ≠ y.k) (hib : ib < w.heap.size) (hb : Below w.heap.size w w') (z0 : w.cell? ⟨ib, io, none⟩ = some (.int .i64 0)) (z1 : w.cell? ⟨ib, io + 1, none⟩ = some (.slice none 0 0)) : Joined x y ib io w w' := by
  refine ⟨leaf 0, ?_, leaf_in _ _, leaf_bl _ _, cell_later hb z0, cell_later hb z1, Wrote.of_below hb hib⟩
  obtain ⟨k, a, c, l⟩ := x
  obtain ⟨k', a', c', l'⟩ := y
  dsimp only at hk
  simp [leaf, Tr.ty_mk, joinY_mk, if_neg hk]
theorem join_any (n : Nat) : n ≤ 1000 → ∀ (x y : Tr) (rp : Option Addr) (ib io : Nat) (w : World), x.In w → y.In w → x.right → y.right → x.hgt ≤ n → w.cell? ⟨ib, io, none⟩ = some (.int .i64 0) → w.cell? ⟨ib, io + 1, none⟩ = some (.slice none 0 0) → w.frozen? ⟨ib, io, none⟩ = false → w.frozen? ⟨ib, io + 1, none⟩ = false →
    Calls Tryz.prog 110 #[.agg #[.int .i64 x.k, .slice x.a x.l.length x.c, .int .i64 y.k, .slice y.a y.l.length y.c, .pointer (some ⟨ib, io, none⟩)], .int .i64 (n : Int), .pointer rp] w fun e w' => e = .returned (.tuple #[]) ∧ Joined x y ib io w w' := by
  induction n with
  | zero =>
    intro _ x y rp ib io w _ _ _ _ h
    have := x.hgt_pos
    omega
  | succ n ih =>
    intro hn x y rp ib io w hx hy rx ry hh z0 z1 f0 f1
    have lb : ib < w.heap.size := World.block_lt_of_cell? _ _ z0
    have e : ((n + 1 : Nat) : Int) = (n : Int) + 1 := by omega
    rw [e]
    by_cases hk : x.k = y.k
    · rcases rx.cases with ⟨lx, kx⟩ | ⟨x0, x1, lx, kx, r0, r1⟩
      · rcases ry.cases with ⟨ly, ky⟩ | ⟨y0, y1, ly, ky, _, _⟩
        · rw [lx, ly, ← hk]
          refine (join_leaf n (by omega) x.k x.a y.a rp x.c y.c ib io w z0 z1 f0 f1).mono ?_
          rintro e w' ⟨rfl, g, c0, c1, hw⟩
          refine ⟨rfl, .mk x.k (some ⟨g, 0, none⟩) 0 [], ?_, Tr.In_nil _ _ _ _, Tr.Bl_nil _ _ _ _, c0, c1, hw⟩
          obtain ⟨k, a, c, l⟩ := x
          obtain ⟨k', a', c', l'⟩ := y
          dsimp only at lx ly hk
          subst lx ly hk
          simp [Tr.ty_mk, joinY_mk, joinL]
        · omega
      · rcases ry.cases with ⟨ly, ky⟩ | ⟨y0, y1, ly, ky, q0, q1⟩
        · omega
        · obtain ⟨bx, ox, ax, cx0, cx1, hx0⟩ := hx.part 0 (by simp [lx])
          obtain ⟨bx', ox', ax', cx2, cx3, hx1⟩ := hx.part 1 (by simp [lx])
          obtain ⟨by', oy, ay, cy0, cy1, hy0⟩ := hy.part 0 (by simp [ly])
          obtain ⟨by'', oy', ay', cy2, cy3, hy1⟩ := hy.part 1 (by simp [ly])
          have hg0 := Tr.hgt_part hh 0 (by simp [lx])
          have hg1 := Tr.hgt_part hh 1 (by simp [lx])
          rw [ax] at ax'
          rw [ay] at ay'
          obtain ⟨rfl, rfl⟩ : bx = bx' ∧ ox = ox' := by simpa using ax'
          obtain ⟨rfl, rfl⟩ : by' = by'' ∧ oy = oy' := by simpa using ay'
          simp only [lx, List.getElem_cons_zero, List.getElem_cons_succ] at cx0 cx1 cx2 cx3 hx0 hx1 hg0 hg1
          simp only [ly, List.getElem_cons_zero, List.getElem_cons_succ] at cy0 cy1 cy2 cy3 hy0 hy1
          rw [ax, ay, lx, ly, kx, ky]
          refine (join_fun n (by omega) rp bx ox by' oy x.c y.c ib io x0 x1 y0 y1 w z0 z1 f0 f1 (by simpa using cx0) (by simpa using cx1) (by simpa using cx2) (by simpa using cx3) (by simpa using cy0) (by simpa using cy1) (by simpa using cy2) (by simpa using cy3)
            (fun P W _ hb g0 g1 gf => ih (by omega) x0 y0 rp P 0 W (hx0.below hb) (hy0.below hb) r0 q0 hg0 g0 g1 (gf _) (gf _))
            (fun P W _ hb g0 g1 gf => ih (by omega) x1 y1 rp P 2 W (hx1.below hb) (hy1.below hb) r1 q1 hg1 g0 g1 (gf _) (gf _))).mono ?_
          rintro e w' ⟨rfl, W1, wr, P, hP, hb, hji, rfl⟩
          exact ⟨rfl, Joined.of_parts lx ly kx ky lb hP hb hji z0 z1⟩
    · refine (join_diff n (by omega) x.k y.k (by simpa using hk) x.a y.a (some ⟨ib, io, none⟩) rp x.l.length y.l.length x.c y.c w).mono ?_
      rintro e w' ⟨rfl, rfl⟩
      exact ⟨rfl, Joined.of_diff hk lb ((Below.refl _ _).alloc (Nat.le_refl _) _) z0 z1⟩
end Go.Proofs.YtnddkmccagiclabGreatDoor

/-
  What the calls of chaperoneref.fun and chaperoneref.any0 make.
-/
namespace Go.Proofs.YtnddkmccagiclabGreatDoor
open Go.RowKit
set_option maxHeartbeats 400000 in
/-- chaperoneref.fun. -/
theorem fun_cells (k k' : Int) (a a' : Option Addr) (m m' c c' : Nat) (w : World) :
    Calls Tryz.prog 93 #[.agg #[.int .i64 k, .slice a m c], .agg #[.int .i64 k', .slice a' m' c']] w fun e w' => ∃ g, w.heap.size ≤ g ∧ e = .returned (.agg #[.int .i64 3, .slice (some ⟨g, 0, none⟩) 2 2]) ∧ w'.cell? ⟨g, 0, none⟩ = some (.int .i64 k) ∧ w'.cell? ⟨g, 1, none⟩ = some (.slice a m c) ∧ w'.cell? ⟨g, 2, none⟩ = some (.int .i64 k') ∧ w'.cell? ⟨g, 3, none⟩ = some (.slice a' m' c') ∧ Below w.heap.size w w' := by
  go_enter Tryz.func93, Tryz.ntmps93
  go_wp2_with fail
  refine bodyPost_ret (v := .agg #[.int .i64 3, .slice (some ⟨w.heap.size + 1 + 1 + 1, 0, none⟩) 2 2]) (by simp [results, Tryz.results93, go_sem]) rfl ⟨_, ?_, rfl, by simp [go_sem], by simp [go_sem], by simp [go_sem], by simp [go_sem], ?_⟩
  · omega
  exact ((((Below.refl _ _).alloc (Nat.le_refl _) _).alloc (by simp) _).alloc (by simp; omega) _).alloc (by simp; omega) _
theorem fun_any (x y : Tr) (w : World) (hx : x.In w) (hy : y.In w) :
    Calls Tryz.prog 93 #[.agg #[.int .i64 x.k, .slice x.a x.l.length x.c], .agg #[.int .i64 y.k, .slice y.a y.l.length y.c]] w fun e w' => ∃ g, w.heap.size ≤ g ∧ e = .returned (.agg #[.int .i64 3, .slice (some ⟨g, 0, none⟩) 2 2]) ∧ (Tr.mk 3 (some ⟨g, 0, none⟩) 2 [x, y]).In w' ∧ Below w.heap.size w w' := by
  refine (fun_cells x.k y.k x.a y.a x.l.length y.l.length x.c y.c w).mono ?_
  rintro e w' ⟨g, hg, rfl, c0, c1, c2, c3, hb⟩
  refine ⟨g, hg, rfl, ?_, hb⟩
  exact Tr.In_two c0 c1 c2 c3 (hx.below hb) (hy.below hb)
set_option maxHeartbeats 400000 in
/-- chaperoneref.any0. -/
theorem any0_any (w : World) : Calls Tryz.prog 56 #[] w fun e w' => e = .returned (.agg #[.int .i64 0, .slice none 0 0]) ∧ w' = w.alloc (.cells #[.int .i64 0, .slice none 0 0] 24) := by
  go_enter Tryz.func56, Tryz.ntmps56
  go_wp2_with fail
  exact bodyPost_ret (v := .agg #[.int .i64 0, .slice none 0 0]) (by simp [results, Tryz.results56, go_sem]) rfl ⟨rfl, rfl⟩
end Go.Proofs.YtnddkmccagiclabGreatDoor

/-
  What the call of ref's GroundOf makes.
-/
namespace Go.Proofs.YtnddkmccagiclabGreatDoor
open Go.RowKit
set_option maxRecDepth 20000 in
set_option maxHeartbeats 1000000 in
theorem rground_fun (a : Option Addr) (n c : Nat) (w : World) : Calls Tryz.prog 132 #[.agg #[.int .i64 3, .slice a n c]] w fun e w' => ∃ g, w.heap.size ≤ g ∧ e = .returned (.agg #[.int .i64 3, .slice (some ⟨g, 0, none⟩) 2 2]) ∧ (Tr.mk 3 (some ⟨g, 0, none⟩) 2 [leaf 0, leaf 0]).In w' ∧ Below w.heap.size w w' := by
  go_enter Tryz.func132, Tryz.ntmps132
  go_wp2_with (go_at_call 56; refine (any0_any _).mono ?_; rintro e _ ⟨rfl, rfl⟩)
  obtain ⟨W1, hW1⟩ : ∃ W, W = (((w.alloc (.cells #[.int .i64 3, .slice a n c] 24)).alloc (.cells #[.int .i64 0, .slice none 0 0] 24)).alloc (.cells #[.int .i64 0, .slice none 0 0] 24)).alloc (.cells #[.int .i64 0, .slice none 0 0] 24) := ⟨_, rfl⟩
  have hb1 : Below w.heap.size w W1 := by rw [hW1]; exact ((((Below.refl _ _).alloc (Nat.le_refl _) _).alloc (by simp) _).alloc (by simp; omega) _).alloc (by simp; omega) _
  have hs1 : W1.heap.size = w.heap.size + 1 + 1 + 1 + 1 := by rw [hW1]; simp
  have z0 : W1.cell? ⟨w.heap.size + 1, 0, none⟩ = some (.int .i64 0) := by rw [hW1]; simp [go_sem]
  have z1 : W1.cell? ⟨w.heap.size + 1, 1, none⟩ = some (.slice none 0 0) := by rw [hW1]; simp [go_sem]
  have zf : ∀ o, W1.frozen? ⟨w.heap.size + 1, o, none⟩ = false := by intro o; rw [hW1]; simp [go_sem]
  rw [← hW1]
  clear hW1
  refine (fun_any (leaf 0) (leaf 0) W1 (leaf_in _ _) (leaf_in _ _)).mono ?_
  rintro e w2 ⟨g, hg, rfl, hin, hb⟩
  have x0 := cell_later hb z0
  have x1 := cell_later hb z1
  have f0 := (hb.frozen (p := ⟨w.heap.size + 1, 0, none⟩) (by rw [hs1]; show w.heap.size + 1 < _; omega)).trans (zf 0)
  have f1 := (hb.frozen (p := ⟨w.heap.size + 1, 1, none⟩) (by rw [hs1]; show w.heap.size + 1 < _; omega)).trans (zf 1)
  have HF : Hid (w.heap.size + 1 < g ∧ (Tr.mk 3 (some ⟨g, 0, none⟩) 2 [leaf 0, leaf 0]).In w2 ∧ Below w.heap.size w w2) := ⟨by omega, hin, hb1.trans (hb.mono hb1.size)⟩
  clear hb hg hin hb1 hs1 z0 z1 zf
  go_wp2_with fail
  have hh := set_cells (io := 0) (u := .int .i64 3) (v := .slice (some ⟨g, 0, none⟩) 2 2) x0 x1
  refine bodyPost_ret (v := .agg #[.int .i64 3, .slice (some ⟨g, 0, none⟩) 2 2]) (by simp [results, Tryz.results132, go_sem, hh.1, hh.2]) rfl ⟨g, by have := HF.out.1; omega, rfl, ?_, ?_⟩
  · exact set_keeps (io := 0) HF.out.2.1 (Tr.Bl_two (by have := HF.out.1; omega) (leaf_bl _ _) (leaf_bl _ _))
  · exact (HF.out.2.2.setCell (by simp) _).setCell (by simp) _
set_option maxRecDepth 20000 in
set_option maxHeartbeats 1000000 in
theorem rground_leaf (k : Int) (hk : (k == 3) = false) (a : Option Addr) (n c : Nat) (w : World) : Calls Tryz.prog 132 #[.agg #[.int .i64 k, .slice a n c]] w fun e w' => e = .returned (.agg #[.int .i64 k, .slice none 0 0]) ∧ Below w.heap.size w w' := by
  go_enter Tryz.func132, Tryz.ntmps132
  go_wp2_with fail
  refine bodyPost_ret (v := .agg #[.int .i64 k, .slice none 0 0]) (by simp [results, Tryz.results132, go_sem]) rfl ⟨rfl, ?_⟩
  exact ((Below.refl _ _).alloc (Nat.le_refl _) _).alloc (by simp) _
/-- GroundOf. -/
theorem rground_any (t : Tr) (w : World) : Calls Tryz.prog 132 #[.agg #[.int .i64 t.k, .slice t.a t.l.length t.c]] w fun e w' => ∃ u : Tr, e = .returned (.agg #[.int .i64 u.k, .slice u.a u.l.length u.c]) ∧ u.ty = groundY t.ty ∧ u.In w' ∧ u.Bl (w.heap.size ≤ ·) ∧ Below w.heap.size w w' := by
  by_cases hk : t.k = 3
  · rw [hk]
    refine (rground_fun t.a t.l.length t.c w).mono ?_
    rintro e w' ⟨g, hg, rfl, hin, hb⟩
    refine ⟨_, rfl, ?_, hin, Tr.Bl_two hg (leaf_bl _ _) (leaf_bl _ _), hb⟩
    unfold groundY
    rw [if_pos (by rw [t.ty_k]; exact hk), Tr.ty_mk]
    simp [leaf, Tr.ty_mk, anyY]
  · refine (rground_leaf t.k (by simpa using hk) t.a t.l.length t.c w).mono ?_
    rintro e w' ⟨rfl, hb⟩
    refine ⟨leaf t.k, rfl, ?_, leaf_in _ _, leaf_bl _ _, hb⟩
    unfold groundY
    rw [if_neg (by rw [t.ty_k]; exact hk), t.ty_k]
    simp [leaf, Tr.ty_mk]
end Go.Proofs.YtnddkmccagiclabGreatDoor
