/-
  What a run does, in plain mathematics: casts, values, tasks and the machine's step; that each step makes it less; no program in it.
-/
import Derived.Test.YtnddkmccagiclaaGreatDoorLot5c98e2b2d2
namespace Go.Proofs.YtnddkmccagiclaaGreatDoor
/-- An outcome: its kind, its number, whether it is Back. -/
structure Out where
  k : Int
  n : Int
  b : Bool
def out0 : Out := ⟨0, 0, false⟩
def stuckO : Out := ⟨6, 0, false⟩
def fuelO : Out := ⟨5, 0, false⟩
def turnO (o : Out) : Out := ⟨o.k, o.n, !o.b⟩
/-- A cast. -/
structure Ca where
  opens : Bool
  wrong : Out
  kind : Int
  ends : Out
  given : Option Ca
  answer : Option Ca
  hides : Bool
theorem Ca.ind {P : Ca → Prop} (h : ∀ o w k e g a d, (∀ x, g = some x → P x) → (∀ x, a = some x → P x) → P ⟨o, w, k, e, g, a, d⟩) : ∀ c, P c
  | ⟨o, w, k, e, g, a, d⟩ => h o w k e g a d (fun x _hx => Ca.ind h x) (fun x _hx => Ca.ind h x)
  termination_by c => SizeOf.sizeOf c
  decreasing_by
    · subst _hx; simp; omega
    · subst _hx; simp; omega
/-- One cast that does what both do. -/
def thenC : Option Ca → Option Ca → Option Ca
  | none, d => d
  | some c, none => some c
  | some ⟨o, w, k, e, g, a, h⟩, some ⟨_, w', k', e', g', a', h'⟩ =>
    if e.k = 0 then
      if k' = k then some ⟨o, w, k, e', thenC g' g, thenC a a', h'⟩
      else some ⟨o, w, k, w', none, none, false⟩
    else some ⟨o, w, k, e, g, a, h⟩
  termination_by c d => SizeOf.sizeOf c + SizeOf.sizeOf d
  decreasing_by
    · simp; omega
    · simp; omega
theorem thenC_nil (d : Option Ca) : thenC none d = d := by rw [thenC]
theorem thenC_one (c : Option Ca) : thenC c none = c := by cases c <;> rw [thenC]
theorem thenC_two (o : Bool) (w : Out) (k : Int) (e : Out) (g a : Option Ca) (h : Bool) (o' : Bool) (w' : Out) (k' : Int) (e' : Out) (g' a' : Option Ca) (h' : Bool) :
    thenC (some ⟨o, w, k, e, g, a, h⟩) (some ⟨o', w', k', e', g', a', h'⟩) = if e.k = 0 then (if k' = k then some ⟨o, w, k, e', thenC g' g, thenC a a', h'⟩ else some ⟨o, w, k, w', none, none, false⟩) else some ⟨o, w, k, e, g, a, h⟩ := by
  rw [thenC]
theorem thenC_some (c d : Ca) : thenC (some c) (some d) = if c.ends.k = 0 then (if d.kind = c.kind then some ⟨c.opens, c.wrong, c.kind, d.ends, thenC d.given c.given, thenC c.answer d.answer, d.hides⟩ else some ⟨c.opens, c.wrong, c.kind, d.wrong, none, none, false⟩) else some c := by
  cases c; cases d; rw [thenC_two]
/-- What is plain of a type. -/
def groundY (t : Ty) : Ty := if t.k = 3 then ⟨3, [anyY, anyY]⟩ else ⟨t.k, []⟩
def someC (c : Option Ca) (k : Int) : Ca := match c with
  | some c => c
  | none => ⟨false, out0, k, out0, none, none, false⟩
/-- The cast from a type to another one. -/
def newC : Nat → Ty → Ty → Out → Option Ca
  | 0, _, _, _ => none
  | m + 1, f, t, bl =>
    if relY escSame f t = true then none
    else if f.k = 3 ∧ t.k = 3 then some ⟨false, out0, 3, out0, newC m (t.l.getD 0 anyY) (f.l.getD 0 anyY) (turnO bl), newC m (f.l.getD 1 anyY) (t.l.getD 1 anyY) bl, false⟩
    else if t.k = 0 then
      let c := someC (newC m f (groundY f) bl) f.k
      some ⟨c.opens, c.wrong, c.kind, c.ends, c.given, c.answer, true⟩
    else if f.k = 0 then
      let c := someC (newC m (groundY t) t bl) t.k
      some ⟨true, bl, c.kind, c.ends, c.given, c.answer, c.hides⟩
    else some ⟨false, out0, f.k, stuckO, none, none, false⟩
/-- A value: a number, a truth, a function and where it stands, a function that was cast, something under Any. -/
structure Val where
  k : Int
  n : Int
  body : Tm
  env : List Val
  inn : List Val
  given : Option Ca
  answer : Option Ca
  as : Int
theorem Val.ind {P : Val → Prop} (h : ∀ k n b e i g a s, (∀ x, x ∈ e → P x) → (∀ x, x ∈ i → P x) → P ⟨k, n, b, e, i, g, a, s⟩) : ∀ v, P v
  | ⟨k, n, b, e, i, g, a, s⟩ => h k n b e i g a s (fun x _ => Val.ind h x) (fun x _ => Val.ind h x)
def tm0 : Tm := ⟨0, 0, anyY, anyY, []⟩
def numV (n : Int) : Val := ⟨1, n, tm0, [], [], none, none, 0⟩
def truthV (n : Int) : Val := ⟨2, n, tm0, [], [], none, none, 0⟩
def funV (x : Tm) (e : List Val) : Val := ⟨3, 0, x, e, [], none, none, 0⟩
def chapV (v : Val) (g a : Option Ca) : Val := ⟨4, 0, tm0, [], [v], g, a, 0⟩
def knownV (v : Val) (k : Int) : Val := ⟨5, 0, tm0, [], [v], none, none, k⟩
/-- What is within. -/
def Val.core (v : Val) : Val := v.inn.headD (numV 0)
def accompV (f : Val) (c : Ca) : Val := if f.k = 4 then chapV f.core (thenC c.given f.given) (thenC f.answer c.answer) else chapV f c.given c.answer
/-- A value after a cast at which the run goes on. -/
def ofC (c : Ca) (v : Val) : Val :=
  let v1 := if c.opens = true then v.core else v
  let v2 := if c.given.isSome = true ∨ c.answer.isSome = true then accompV v1 c else v1
  if c.hides = true then knownV v2 c.kind else v2
/-- The outcome of a run that came to a value. -/
def toldV (v : Val) : Out :=
  let v := if v.k = 5 then v.core else v
  if v.k = 1 then ⟨1, v.n, false⟩ else if v.k = 2 then ⟨2, v.n, false⟩ else ⟨3, 0, false⟩
/-- What is to be done: 1 look, 2 sum, 3 compare, 4 choose, 5 call, 6 change; 7: a call of what a chaperone goes with. -/
structure Task where
  d : Int
  x : Tm
  s : List Val
  c : Option Ca
def lookT (x : Tm) (s : List Val) : Task := ⟨1, x, s, none⟩
def doT (d : Int) : Task := ⟨d, tm0, [], none⟩
def chooseT (x : Tm) (s : List Val) : Task := ⟨4, x, s, none⟩
def changeT (c : Option Ca) : Task := ⟨6, tm0, [], c⟩
/-- A machine: what is to be done, the next one first; what was made, the last one first. -/
structure St where
  ts : List Task
  vs : List Val
  calls : Nat
  fuel : Nat
  ended : Out
def St.push (s : St) (v : Val) : St := ⟨s.ts, v :: s.vs, s.calls, s.fuel, s.ended⟩
def St.plan (s : St) (t : Task) : St := ⟨t :: s.ts, s.vs, s.calls, s.fuel, s.ended⟩
def St.stop (s : St) (o : Out) : St := ⟨s.ts, s.vs, s.calls, s.fuel, o⟩
def Tm.at (x : Tm) (j : Nat) : Tm := x.l.getD j tm0
def bothS (s : St) (x : Tm) (e : List Val) (d : Int) : St := ((s.plan (doT d)).plan (lookT (x.at 1) e)).plan (lookT (x.at 0) e)
def blameO (n : Int) : Out := ⟨4, n, false⟩
def lookS (s : St) (x : Tm) (e : List Val) : St :=
  if x.k = 1 then (match e[x.n.toNat]? with
    | some v => s.push v
    | none => s.stop stuckO)
  else if x.k = 2 then s.push (numV x.n)
  else if x.k = 3 then s.push (truthV x.n)
  else if x.k = 7 then s.push (funV (x.at 0) e)
  else if x.k = 9 then s.plan (lookT (x.at 0) e)
  else if x.k = 10 then (s.plan (changeT (newC 100 x.f x.t (blameO x.n)))).plan (lookT (x.at 0) e)
  else if x.k = 6 then (s.plan (chooseT x e)).plan (lookT (x.at 0) e)
  else if x.k = 4 then bothS s x e 2
  else if x.k = 5 then bothS s x e 3
  else bothS s x e 5
def clampI (n : Int) : Int := max (-1000000) (min n 1000000)
def enterS (s : St) (f g : Val) : St :=
  if s.calls = s.fuel then s.stop fuelO else ⟨lookT f.body (g :: f.env) :: s.ts, s.vs, s.calls + 1, s.fuel, s.ended⟩
def accompS (s : St) (f g : Val) : St :=
  ⟨changeT f.given :: doT 7 :: changeT f.answer :: s.ts, g :: f.core :: s.vs, s.calls, s.fuel, s.ended⟩
def callS (s : St) (f g : Val) : St := if f.k = 3 then enterS s f g else if f.k = 4 then accompS s f g else s.stop stuckO
def changeS (s : St) (c : Option Ca) (v : Val) : St := match c with
  | none => s.push v
  | some c =>
    if c.opens = true ∧ v.k ≠ 5 then s.stop stuckO
    else if c.opens = true ∧ v.as ≠ c.kind then s.stop c.wrong
    else if c.ends.k ≠ 0 then s.stop c.ends
    else s.push (ofC c v)
/-- The machine with the task taken off. -/
def doS (s : St) (t : Task) : St :=
  if t.d = 1 then lookS s t.x t.s else
  match s.vs with
  | v :: r =>
    if t.d = 6 then changeS ⟨s.ts, r, s.calls, s.fuel, s.ended⟩ t.c v
    else if t.d = 4 then (if v.k = 2 then (St.plan ⟨s.ts, r, s.calls, s.fuel, s.ended⟩ (lookT (t.x.at (if v.n = 1 then 1 else 2)) t.s)) else St.stop ⟨s.ts, r, s.calls, s.fuel, s.ended⟩ stuckO)
    else match r with
    | u :: q =>
      if t.d = 2 then ⟨s.ts, numV (clampI (u.n + v.n)) :: q, s.calls, s.fuel, if u.k = 1 ∧ v.k = 1 then s.ended else stuckO⟩
      else if t.d = 3 then ⟨s.ts, truthV (if u.n < v.n then 1 else 0) :: q, s.calls, s.fuel, if u.k = 1 ∧ v.k = 1 then s.ended else stuckO⟩
      else callS ⟨s.ts, q, s.calls, s.fuel, s.ended⟩ u v
    | [] => s
  | [] => s
/-- A step of the machine. -/
def stepS (s : St) : St :=
  if s.ended.k = 0 then (match s.ts with
    | [] => s
    | t :: r => doS ⟨r, s.vs, s.calls, s.fuel, s.ended⟩ t)
  else s
def runN : Nat → St → St
  | 0, s => s
  | n + 1, s => runN n (stepS s)
def St.done (s : St) : Prop := s.ended.k ≠ 0 ∨ s.ts = []
theorem done_step {s : St} (h : s.done) : stepS s = s := by
  unfold stepS
  rcases h with h | h
  · rw [if_neg h]
  · rw [h]; simp
theorem done_run {s : St} (h : s.done) : ∀ n, runN n s = s
  | 0 => rfl
  | n + 1 => by rw [runN, done_step h, done_run h n]
theorem runN_add (s : St) : ∀ a b, runN (a + b) s = runN b (runN a s)
  | 0, b => by simp [runN]
  | a + 1, b => by rw [show a + 1 + b = (a + b) + 1 by omega, runN, runN, runN_add (stepS s) a b]
theorem runN_succ (s : St) (n : Nat) : runN (n + 1) s = stepS (runN n s) := by
  rw [runN_add s n 1]; rfl
def finO (s : St) : Out := if s.ended.k = 0 then toldV (s.vs.headD (numV 0)) else s.ended
def st0 (x : Tm) (fuel : Nat) : St := ⟨[lookT x []], [], 0, fuel, out0⟩
def bigN : Nat := 200000
def runM (x : Tm) (fuel : Nat) : Out := finO (runN bigN (st0 x fuel))
theorem runM_eq (x : Tm) (fuel : Nat) : runM x fuel = finO (runN bigN (st0 x fuel)) := by rw [runM]
/-- How many parts a term has, a cast too. -/
def partsR (k : Int) : Nat := if k = 10 then 1 else partsOf k
/-- A term that the machine can go through. -/
def shp : Tm → Prop
  | ⟨k, n, t, f, l⟩ => (1 ≤ k ∧ k ≤ 10 ∧ l.length = partsR k ∧ -1000000 ≤ n ∧ n ≤ 1000000 ∧ (k = 1 → 0 ≤ n) ∧ (k = 10 → goodY 46 t = true ∧ goodY 46 f = true)) ∧ ∀ x, x ∈ l → shp x
theorem shp_mk {k n : Int} {t f : Ty} {l : List Tm} : shp ⟨k, n, t, f, l⟩ ↔ (1 ≤ k ∧ k ≤ 10 ∧ l.length = partsR k ∧ -1000000 ≤ n ∧ n ≤ 1000000 ∧ (k = 1 → 0 ≤ n) ∧ (k = 10 → goodY 46 t = true ∧ goodY 46 f = true)) ∧ ∀ x, x ∈ l → shp x := by
  rw [shp]
theorem shp.top {x : Tm} (h : shp x) : 1 ≤ x.k ∧ x.k ≤ 10 ∧ x.l.length = partsR x.k ∧ -1000000 ≤ x.n ∧ x.n ≤ 1000000 ∧ (x.k = 1 → 0 ≤ x.n) ∧ (x.k = 10 → goodY 46 x.t = true ∧ goodY 46 x.f = true) := by
  cases x; exact (shp_mk.1 h).1
theorem Tm.at_mem {x : Tm} {j : Nat} (h : j < x.l.length) : x.at j ∈ x.l := by
  unfold Tm.at
  rw [List.getD_eq_getElem?_getD, List.getElem?_eq_getElem h]
  exact List.getElem_mem h
theorem Tm.at_eq {x : Tm} {j : Nat} (h : j < x.l.length) : x.at j = x.l[j] := by
  unfold Tm.at
  rw [List.getD_eq_getElem?_getD, List.getElem?_eq_getElem h]; rfl
theorem shp.part {x : Tm} (h : shp x) {j : Nat} (hj : j < x.l.length) : shp (x.at j) := by
  have hm := Tm.at_mem hj
  cases x
  exact (shp_mk.1 h).2 _ hm
/-- How many terms there are in one. -/
def Tm.tsz : Tm → Nat
  | ⟨_, _, _, _, l⟩ => (l.map fun x => x.tsz).sum + 1
theorem Tm.tsz_mk (k n : Int) (t f : Ty) (l : List Tm) : (Tm.mk k n t f l).tsz = (l.map Tm.tsz).sum + 1 := by
  rw [Tm.tsz]
theorem Tm.tsz_eq (x : Tm) : x.tsz = (x.l.map Tm.tsz).sum + 1 := by cases x; rw [Tm.tsz_mk]
/-- A cast that opens knows how the run ends if it does not fit. -/
def okC : Ca → Prop
  | ⟨o, w, _, _, g, a, _⟩ => (o = true → w.k = 4) ∧ (∀ x, (h : g = some x) → okC x) ∧ (∀ x, (h : a = some x) → okC x)
  termination_by c => SizeOf.sizeOf c
  decreasing_by
    · subst h; simp; omega
    · subst h; simp; omega
theorem okC_mk {o : Bool} {w : Out} {k : Int} {e : Out} {g a : Option Ca} {d : Bool} : okC ⟨o, w, k, e, g, a, d⟩ ↔ (o = true → w.k = 4) ∧ (∀ x, g = some x → okC x) ∧ (∀ x, a = some x → okC x) := by
  rw [okC]
def okCo (c : Option Ca) : Prop := ∀ x, c = some x → okC x
theorem okCo_none : okCo none := fun _ h => by cases h
theorem okCo_some {c : Ca} (h : okC c) : okCo (some c) := fun _ e => by cases e; exact h
theorem okC.opens {c : Ca} (h : okC c) : c.opens = true → c.wrong.k = 4 := by cases c; exact (okC_mk.1 h).1
theorem okC.given {c : Ca} (h : okC c) : okCo c.given := by cases c; exact (okC_mk.1 h).2.1
theorem okC.answer {c : Ca} (h : okC c) : okCo c.answer := by cases c; exact (okC_mk.1 h).2.2
theorem okC_then : ∀ (n : Nat) (c d : Option Ca), SizeOf.sizeOf c + SizeOf.sizeOf d ≤ n → okCo c → okCo d → okCo (thenC c d)
  | 0, c, d, h, _, _ => by cases c <;> simp at h
  | n + 1, none, d, _, _, h => by rw [thenC_nil]; exact h
  | n + 1, some c, none, _, h, _ => by rw [thenC_one]; exact h
  | n + 1, some ⟨o, w, k, e, g, a, h⟩, some ⟨o', w', k', e', g', a', h'⟩, hn, hc, hd => by
    have hc := hc _ rfl
    have hd := hd _ rfl
    simp at hn
    rw [thenC_two]
    split
    · split
      · exact okCo_some (okC_mk.2 ⟨hc.opens, okC_then n g' g (by omega) hd.given hc.given, okC_then n a a' (by omega) hc.answer hd.answer⟩)
      · exact okCo_some (okC_mk.2 ⟨hc.opens, okCo_none, okCo_none⟩)
    · exact okCo_some hc
theorem okCo_then {c d : Option Ca} (hc : okCo c) (hd : okCo d) : okCo (thenC c d) := okC_then _ c d (Nat.le_refl _) hc hd
theorem okC_new : ∀ (n : Nat) (f t : Ty) (o : Out), o.k = 4 → okCo (newC n f t o)
  | 0, _, _, _, _ => okCo_none
  | n + 1, f, t, o, ho => by
    have hs : ∀ (c : Option Ca) (k : Int), okCo c → okC (someC c k) := fun c k h => by
      cases c with
      | none => exact okC_mk.2 ⟨fun h => (by cases h), okCo_none, okCo_none⟩
      | some c => exact h c rfl
    rw [newC]
    split
    · exact okCo_none
    split
    · exact okCo_some (okC_mk.2 ⟨fun h => (by cases h), okC_new n _ _ _ ho, okC_new n _ _ _ ho⟩)
    split
    · have h := hs _ f.k (okC_new n f (groundY f) o ho)
      exact okCo_some (okC_mk.2 ⟨h.opens, h.given, h.answer⟩)
    split
    · have h := hs _ t.k (okC_new n (groundY t) t o ho)
      exact okCo_some (okC_mk.2 ⟨fun _ => ho, h.given, h.answer⟩)
    · exact okCo_some (okC_mk.2 ⟨fun h => (by cases h), okCo_none, okCo_none⟩)
/-- A value that the machine can go on with. -/
def okV : Val → Prop
  | ⟨k, n, b, e, i, g, a, _⟩ => (1 ≤ k ∧ k ≤ 5 ∧ -1000000 ≤ n ∧ n ≤ 1000000 ∧ (k = 3 → shp b ∧ b.tsz ≤ 100) ∧ (k = 4 → ∃ v, i = [v] ∧ v.k ≠ 4) ∧ (k = 5 → ∃ v, i = [v]) ∧ okCo g ∧ okCo a) ∧ (∀ x, x ∈ e → okV x) ∧ (∀ x, x ∈ i → okV x)
theorem okV_mk {k n : Int} {b : Tm} {e i : List Val} {g a : Option Ca} {s : Int} : okV ⟨k, n, b, e, i, g, a, s⟩ ↔ (1 ≤ k ∧ k ≤ 5 ∧ -1000000 ≤ n ∧ n ≤ 1000000 ∧ (k = 3 → shp b ∧ b.tsz ≤ 100) ∧ (k = 4 → ∃ v, i = [v] ∧ v.k ≠ 4) ∧ (k = 5 → ∃ v, i = [v]) ∧ okCo g ∧ okCo a) ∧ (∀ x, x ∈ e → okV x) ∧ (∀ x, x ∈ i → okV x) := by
  rw [okV]
theorem okV.top {v : Val} (h : okV v) : 1 ≤ v.k ∧ v.k ≤ 5 ∧ -1000000 ≤ v.n ∧ v.n ≤ 1000000 := by
  cases v; have := (okV_mk.1 h).1; exact ⟨this.1, this.2.1, this.2.2.1, this.2.2.2.1⟩
theorem okV.body {v : Val} (h : okV v) (hk : v.k = 3) : shp v.body ∧ v.body.tsz ≤ 100 := by
  cases v; exact (okV_mk.1 h).1.2.2.2.2.1 hk
theorem okV.given {v : Val} (h : okV v) : okCo v.given := by
  cases v; exact (okV_mk.1 h).1.2.2.2.2.2.2.2.1
theorem okV.answer {v : Val} (h : okV v) : okCo v.answer := by
  cases v; exact (okV_mk.1 h).1.2.2.2.2.2.2.2.2
theorem okV.env {v : Val} (h : okV v) : ∀ x, x ∈ v.env → okV x := by
  cases v; exact (okV_mk.1 h).2.1
theorem okV.core4 {v : Val} (h : okV v) (hk : v.k = 4) : v.inn = [v.core] ∧ v.core.k ≠ 4 ∧ okV v.core := by
  cases v
  obtain ⟨⟨_, _, _, _, _, h4, _, _, _⟩, _, hi⟩ := okV_mk.1 h
  obtain ⟨u, rfl, hu⟩ := h4 hk
  exact ⟨rfl, hu, hi u (by simp)⟩
theorem okV.core5 {v : Val} (h : okV v) (hk : v.k = 5) : v.inn = [v.core] ∧ okV v.core := by
  cases v
  obtain ⟨⟨_, _, _, _, _, _, h5, _, _⟩, _, hi⟩ := okV_mk.1 h
  obtain ⟨u, rfl⟩ := h5 hk
  exact ⟨rfl, hi u (by simp)⟩
theorem okV_num {n : Int} (h : -1000000 ≤ n) (h' : n ≤ 1000000) : okV (numV n) := by
  refine okV_mk.2 ⟨⟨by omega, by omega, h, h', by omega, by omega, by omega, okCo_none, okCo_none⟩, fun x hx => (by cases hx), fun x hx => (by cases hx)⟩
theorem okV_truth {n : Int} (h : -1000000 ≤ n) (h' : n ≤ 1000000) : okV (truthV n) := by
  refine okV_mk.2 ⟨⟨by omega, by omega, h, h', by omega, by omega, by omega, okCo_none, okCo_none⟩, fun x hx => (by cases hx), fun x hx => (by cases hx)⟩
theorem okV_fun {b : Tm} {e : List Val} (h : shp b) (h' : b.tsz ≤ 100) (he : ∀ x, x ∈ e → okV x) : okV (funV b e) := by
  refine okV_mk.2 ⟨⟨by omega, by omega, by omega, by omega, fun _ => ⟨h, h'⟩, by omega, by omega, okCo_none, okCo_none⟩, he, fun x hx => by cases hx⟩
theorem okV_chap {v : Val} {g a : Option Ca} (h : okV v) (h4 : v.k ≠ 4) (hg : okCo g) (ha : okCo a) : okV (chapV v g a) := by
  refine okV_mk.2 ⟨⟨by omega, by omega, by omega, by omega, by omega, fun _ => ⟨v, rfl, h4⟩, by omega, hg, ha⟩, fun x hx => (by cases hx), fun x hx => ?_⟩
  simp at hx; subst hx; exact h
theorem okV_known {v : Val} {k : Int} (h : okV v) : okV (knownV v k) := by
  refine okV_mk.2 ⟨⟨by omega, by omega, by omega, by omega, by omega, by omega, fun _ => ⟨v, rfl⟩, okCo_none, okCo_none⟩, fun x hx => (by cases hx), fun x hx => ?_⟩
  simp at hx; subst hx; exact h
theorem okV_accomp {f : Val} {c : Ca} (h : okV f) (hc : okC c) : okV (accompV f c) := by
  unfold accompV
  split
  · rename_i hk
    obtain ⟨_, h2, h3⟩ := h.core4 hk
    exact okV_chap h3 h2 (okCo_then hc.given h.given) (okCo_then h.answer hc.answer)
  · rename_i hk
    exact okV_chap h hk hc.given hc.answer
theorem okV_of {c : Ca} {v : Val} (h : okV v) (hc : okC c) (ho : c.opens = true → v.k = 5) : okV (ofC c v) := by
  have h1 : okV (if c.opens = true then v.core else v) := by
    split
    · rename_i ho'; exact (h.core5 (ho ho')).2
    · exact h
  unfold ofC
  generalize (if c.opens = true then v.core else v) = u at h1
  have h2 : okV (if c.given.isSome = true ∨ c.answer.isSome = true then accompV u c else u) := by
    split
    · exact okV_accomp h1 hc
    · exact h1
  simp only
  generalize (if c.given.isSome = true ∨ c.answer.isSome = true then accompV u c else u) = u2 at h2
  split
  · exact okV_known h2
  · exact h2
/-- A task that the machine can do. -/
def okT (t : Task) : Prop := (t.d = 1 ∨ t.d = 4 → shp t.x ∧ t.x.tsz ≤ 100 ∧ ∀ v, v ∈ t.s → okV v) ∧ (t.d = 4 → t.x.k = 6) ∧ okCo t.c
/-- Which values are no chaperones, for sure. -/
def fl : List Bool → List Val → Prop
  | [], [] => True
  | b :: q, v :: r => (b = true → v.k ≠ 4) ∧ fl q r
  | _, _ => False
/-- That each task finds what it needs. -/
def wfT : List Task → List Bool → Prop
  | [], q => ∃ b, q = [b]
  | t :: ts, q => (t.d = 1 ∧ wfT ts (false :: q)) ∨ ((t.d = 4 ∨ t.d = 6) ∧ ∃ b r, q = b :: r ∧ wfT ts (false :: r)) ∨ ((t.d = 2 ∨ t.d = 3 ∨ t.d = 5) ∧ ∃ a b r, q = a :: b :: r ∧ wfT ts (false :: r)) ∨ (t.d = 7 ∧ ∃ a r, q = a :: true :: r ∧ wfT ts (false :: r))
/-- A machine that can go on. -/
structure okS (s : St) : Prop where
  q : ∃ q, wfT s.ts q ∧ fl q s.vs
  vs : ∀ v, v ∈ s.vs → okV v
  ts : ∀ t, t ∈ s.ts → okT t
  le : s.calls ≤ s.fuel
  max : s.fuel ≤ 100
/-- What a task takes at most. -/
def tw (t : Task) : Nat := if t.d = 1 then 8 * t.x.tsz else if t.d = 4 then 8 * (t.x.at 1).tsz + 8 * (t.x.at 2).tsz + 1 else if t.d = 5 then 5 else 1
/-- What is left to be done. -/
def mu (s : St) : Nat := (s.fuel - s.calls) * 1000 + (s.ts.map tw).sum
theorem fl_cons {q : List Bool} {v : Val} {r : List Val} (h : fl q r) : fl (false :: q) (v :: r) := ⟨fun h => (by cases h), h⟩
theorem fl_one {b : Bool} {q : List Bool} {vs : List Val} (h : fl (b :: q) vs) : ∃ v r, vs = v :: r ∧ (b = true → v.k ≠ 4) ∧ fl q r := by
  match vs, h with
  | v :: r, h => exact ⟨v, r, rfl, h.1, h.2⟩
theorem wf_look {t : Task} {ts : List Task} {q : List Bool} (hd : t.d = 1) (h : wfT ts (false :: q)) : wfT (t :: ts) q := .inl ⟨hd, h⟩
theorem wf_one {t : Task} {ts : List Task} {b : Bool} {q : List Bool} (hd : t.d = 4 ∨ t.d = 6) (h : wfT ts (false :: q)) : wfT (t :: ts) (b :: q) := .inr (.inl ⟨hd, b, q, rfl, h⟩)
theorem wf_two {t : Task} {ts : List Task} {a b : Bool} {q : List Bool} (hd : t.d = 2 ∨ t.d = 3 ∨ t.d = 5) (h : wfT ts (false :: q)) : wfT (t :: ts) (a :: b :: q) := .inr (.inr (.inl ⟨hd, a, b, q, rfl, h⟩))
theorem wf_seven {t : Task} {ts : List Task} {a : Bool} {q : List Bool} (hd : t.d = 7) (h : wfT ts (false :: q)) : wfT (t :: ts) (a :: true :: q) := .inr (.inr (.inr ⟨hd, a, q, rfl, h⟩))
theorem okT_look {x : Tm} {s : List Val} (h : shp x) (h' : x.tsz ≤ 100) (hs : ∀ v, v ∈ s → okV v) : okT (lookT x s) := ⟨fun _ => ⟨h, h', hs⟩, fun h => (by simp [lookT] at h), okCo_none⟩
theorem okT_do (d : Int) (h : d ≠ 1) (h4 : d ≠ 4) : okT (doT d) := ⟨fun h' => (by rcases h' with h' | h' <;> simp [doT] at h' <;> omega), fun h => absurd h h4, okCo_none⟩
theorem okT_change {c : Option Ca} (h : okCo c) : okT (changeT c) := ⟨fun h' => (by rcases h' with h' | h' <;> simp [changeT] at h'), fun h => (by simp [changeT] at h), h⟩
theorem okT_choose {x : Tm} {s : List Val} (h : shp x) (h' : x.tsz ≤ 100) (hs : ∀ v, v ∈ s → okV v) (hk : x.k = 6) : okT (chooseT x s) := ⟨fun _ => ⟨h, h', hs⟩, fun _ => hk, okCo_none⟩
theorem at_tsz : ∀ (l : List Tm) (x : Tm), x ∈ l → x.tsz ≤ (l.map Tm.tsz).sum
  | [], _, h => by cases h
  | y :: r, x, h => by
    rcases List.mem_cons.1 h with rfl | h
    · simp
    · have := at_tsz r x h
      simp; omega
theorem part_tsz {x : Tm} {j : Nat} (h : j < x.l.length) : (x.at j).tsz + 1 ≤ x.tsz := by
  have := at_tsz x.l _ (Tm.at_mem h)
  rw [x.tsz_eq]; omega
theorem two_tsz {x : Tm} (h : x.l.length = 2) : x.tsz = (x.at 0).tsz + (x.at 1).tsz + 1 := by
  rw [x.tsz_eq]
  unfold Tm.at
  match hl : x.l, h with
  | [a, b], _ => simp
theorem three_tsz {x : Tm} (h : x.l.length = 3) : x.tsz = (x.at 0).tsz + (x.at 1).tsz + (x.at 2).tsz + 1 := by
  rw [x.tsz_eq]
  unfold Tm.at
  match hl : x.l, h with
  | [a, b, c], _ => simp; omega
theorem Tm.tsz_pos (x : Tm) : 1 ≤ x.tsz := by rw [x.tsz_eq]; omega
theorem okS.push {s : St} {v : Val} (hq : ∃ q, wfT s.ts (false :: q) ∧ fl q s.vs) (hv : okV v) (h : ∀ v, v ∈ s.vs → okV v) (ht : ∀ t, t ∈ s.ts → okT t) (hl : s.calls ≤ s.fuel) (hm : s.fuel ≤ 100) : okS (s.push v) := by
  obtain ⟨q, h1, h2⟩ := hq
  refine ⟨⟨false :: q, h1, fl_cons h2⟩, fun u hu => ?_, ht, hl, hm⟩
  rcases List.mem_cons.1 hu with rfl | hu
  · exact hv
  · exact h u hu
/-- Where it goes on it can go on, and there is less to do. -/
def Next (s0 s : St) : Prop := s.ended.k = 0 → okS s ∧ mu s < mu s0
theorem both_next {s : St} {x : Tm} {e : List Val} {d : Int} {q : List Bool} (hd : d = 2 ∨ d = 3 ∨ d = 5) (hl : x.l.length = 2) (hx : shp x) (hz : x.tsz ≤ 100) (he : ∀ v, v ∈ e → okV v) (hw : wfT s.ts (false :: q)) (hf : fl q s.vs) (hv : ∀ v, v ∈ s.vs → okV v) (ht : ∀ t, t ∈ s.ts → okT t) (hle : s.calls ≤ s.fuel) (hm : s.fuel ≤ 100) :
    Next ⟨lookT x e :: s.ts, s.vs, s.calls, s.fuel, s.ended⟩ (bothS s x e d) := by
  intro _
  have h0 := part_tsz (x := x) (j := 0) (by omega)
  have h1 := part_tsz (x := x) (j := 1) (by omega)
  refine ⟨⟨⟨q, wf_look rfl (wf_look rfl (wf_two hd hw)), hf⟩, hv, fun t htm => ?_, hle, hm⟩, ?_⟩
  · rcases List.mem_cons.1 htm with rfl | htm
    · exact okT_look (hx.part (by omega)) (by omega) he
    rcases List.mem_cons.1 htm with rfl | htm
    · exact okT_look (hx.part (by omega)) (by omega) he
    rcases List.mem_cons.1 htm with rfl | htm
    · exact okT_do d (by omega) (by omega)
    · exact ht t htm
  · have h2 := two_tsz hl
    have h3 : tw (doT d) ≤ 5 := by unfold tw doT; simp only; split <;> (try split) <;> (try split) <;> simp_all <;> omega
    simp only [mu, bothS, St.plan, List.map_cons, List.sum_cons]
    have e1 : ∀ y : Tm, tw (lookT y e) = 8 * y.tsz := fun y => by simp [tw, lookT]
    rw [e1, e1, e1]
    omega
theorem look_next {s : St} {x : Tm} {e : List Val} {q : List Bool} (hx : shp x) (hz : x.tsz ≤ 100) (he : ∀ v, v ∈ e → okV v) (hw : wfT s.ts (false :: q)) (hf : fl q s.vs) (hv : ∀ v, v ∈ s.vs → okV v) (ht : ∀ t, t ∈ s.ts → okT t) (hle : s.calls ≤ s.fuel) (hm : s.fuel ≤ 100) :
    Next ⟨lookT x e :: s.ts, s.vs, s.calls, s.fuel, s.ended⟩ (lookS s x e) := by
  obtain ⟨k1, k10, hl, n1, n2, hn, hg⟩ := hx.top
  have e1 : ∀ y : Tm, tw (lookT y e) = 8 * y.tsz := fun y => by simp [tw, lookT]
  have hp := x.tsz_pos
  have pushed : ∀ v, okV v → Next ⟨lookT x e :: s.ts, s.vs, s.calls, s.fuel, s.ended⟩ (s.push v) := fun v h _ => by
    refine ⟨okS.push ⟨q, hw, hf⟩ h hv ht hle hm, ?_⟩
    simp only [mu, St.push, List.map_cons, List.sum_cons, e1]
    omega
  have hk : x.k = 1 ∨ x.k = 2 ∨ x.k = 3 ∨ x.k = 4 ∨ x.k = 5 ∨ x.k = 6 ∨ x.k = 7 ∨ x.k = 8 ∨ x.k = 9 ∨ x.k = 10 := by omega
  rcases hk with hk | hk | hk | hk | hk | hk | hk | hk | hk | hk
  · simp only [lookS, hk, if_true]
    cases h : e[x.n.toNat]? with
    | none => intro h; simp [St.stop, stuckO] at h
    | some v => exact pushed v (he v (List.mem_of_getElem? h))
  · simp only [lookS, hk]; exact pushed _ (okV_num n1 n2)
  · simp only [lookS, hk]; exact pushed _ (okV_truth n1 n2)
  · have hl2 : x.l.length = 2 := by rw [hl, hk]; rfl
    simp only [lookS, hk]
    exact both_next (.inl rfl) hl2 hx hz he hw hf hv ht hle hm
  · have hl2 : x.l.length = 2 := by rw [hl, hk]; rfl
    simp only [lookS, hk]
    exact both_next (.inr (.inl rfl)) hl2 hx hz he hw hf hv ht hle hm
  · have hl3 : x.l.length = 3 := by rw [hl, hk]; rfl
    simp only [lookS, hk]
    intro _
    have h0 := part_tsz (x := x) (j := 0) (by omega)
    refine ⟨⟨⟨q, wf_look rfl (wf_one (.inl rfl) hw), hf⟩, hv, fun t htm => ?_, hle, hm⟩, ?_⟩
    · rcases List.mem_cons.1 htm with rfl | htm
      · exact okT_look (hx.part (by omega)) (by omega) he
      rcases List.mem_cons.1 htm with rfl | htm
      · exact okT_choose hx hz he hk
      · exact ht t htm
    · have h3 := three_tsz hl3
      have h4 : tw (chooseT x e) = 8 * (x.at 1).tsz + 8 * (x.at 2).tsz + 1 := by simp [tw, chooseT]
      simp [mu, St.plan, e1, h4]
      omega
  · have hl1 : x.l.length = 1 := by rw [hl, hk]; rfl
    simp only [lookS, hk]
    have h0 := part_tsz (x := x) (j := 0) (by omega)
    exact pushed _ (okV_fun (hx.part (by omega)) (by omega) he)
  · have hl2 : x.l.length = 2 := by rw [hl, hk]; rfl
    simp only [lookS, hk]
    exact both_next (.inr (.inr rfl)) hl2 hx hz he hw hf hv ht hle hm
  · have hl1 : x.l.length = 1 := by rw [hl, hk]; rfl
    simp only [lookS, hk]
    intro _
    have h0 := part_tsz (x := x) (j := 0) (by omega)
    refine ⟨⟨⟨q, wf_look rfl hw, hf⟩, hv, fun t htm => ?_, hle, hm⟩, ?_⟩
    · rcases List.mem_cons.1 htm with rfl | htm
      · exact okT_look (hx.part (by omega)) (by omega) he
      · exact ht t htm
    · simp [mu, St.plan, e1]
      omega
  · have hl1 : x.l.length = 1 := by rw [hl, hk]; rfl
    simp only [lookS, hk]
    intro _
    have h0 := part_tsz (x := x) (j := 0) (by omega)
    refine ⟨⟨⟨q, wf_look rfl (wf_one (.inr rfl) hw), hf⟩, hv, fun t htm => ?_, hle, hm⟩, ?_⟩
    · rcases List.mem_cons.1 htm with rfl | htm
      · exact okT_look (hx.part (by omega)) (by omega) he
      rcases List.mem_cons.1 htm with rfl | htm
      · exact okT_change (okC_new _ _ _ _ rfl)
      · exact ht t htm
    · have h4 : ∀ c, tw (changeT c) = 1 := fun c => by simp [tw, changeT]
      simp [mu, St.plan, e1, h4]
      omega
theorem call_next {t : Task} {ts : List Task} {u v : Val} {vs : List Val} {calls fuel : Nat} {ended : Out} {r : List Bool} (hw : wfT ts (false :: r)) (hf : fl r vs) (hv : okV v) (hu : okV u) (hvs : ∀ u, u ∈ vs → okV u) (hts : ∀ t, t ∈ ts → okT t) (hle : calls ≤ fuel) (hm : fuel ≤ 100) (hp : 1 ≤ tw t) (h5 : u.k = 4 → 4 ≤ tw t) :
    Next ⟨t :: ts, v :: u :: vs, calls, fuel, ended⟩ (callS ⟨ts, vs, calls, fuel, ended⟩ u v) := by
  unfold callS
  split
  · rename_i hk
    unfold enterS
    split
    · intro h; simp [St.stop, fuelO] at h
    · rename_i hc
      simp only at hc
      intro _
      obtain ⟨hb, hb'⟩ := hu.body hk
      refine ⟨⟨⟨r, wf_look rfl hw, hf⟩, hvs, fun x hx => ?_, by simp only; omega, hm⟩, ?_⟩
      · rcases List.mem_cons.1 hx with rfl | hx
        · refine okT_look hb hb' fun y hy => ?_
          rcases List.mem_cons.1 hy with rfl | hy
          · exact hv
          · exact hu.env y hy
        · exact hts x hx
      · have e1 : tw (lookT u.body (v :: u.env)) = 8 * u.body.tsz := by simp [tw, lookT]
        simp only [mu, List.map_cons, List.sum_cons, e1]
        have : (fuel - calls) * 1000 = (fuel - (calls + 1)) * 1000 + 1000 := by omega
        omega
  · split
    · rename_i hk
      unfold accompS
      intro _
      obtain ⟨_, h4, hcore⟩ := hu.core4 hk
      refine ⟨⟨⟨false :: true :: r, wf_one (.inr rfl) (wf_seven rfl (wf_one (.inr rfl) hw)), ⟨fun h => (by cases h), fun _ => h4, hf⟩⟩, fun x hx => ?_, fun x hx => ?_, hle, hm⟩, ?_⟩
      · rcases List.mem_cons.1 hx with rfl | hx
        · exact hv
        rcases List.mem_cons.1 hx with rfl | hx
        · exact hcore
        · exact hvs x hx
      · rcases List.mem_cons.1 hx with rfl | hx
        · exact okT_change hu.given
        rcases List.mem_cons.1 hx with rfl | hx
        · exact okT_do 7 (by omega) (by omega)
        rcases List.mem_cons.1 hx with rfl | hx
        · exact okT_change hu.answer
        · exact hts x hx
      · have h4 : ∀ c, tw (changeT c) = 1 := fun c => by simp [tw, changeT]
        have h7 : tw (doT 7) = 1 := by simp [tw, doT]
        have := h5 hk
        simp only [mu, List.map_cons, List.sum_cons, h4, h7]
        omega
    · intro h; simp [St.stop, stuckO] at h
theorem step_next {s : St} (h : okS s) (h0 : s.ended.k = 0) (ht : s.ts ≠ []) : Next s (stepS s) := by
  obtain ⟨⟨q, hw, hf⟩, hv, hts, hle, hm⟩ := h
  obtain ⟨ts, vs, calls, fuel, ended⟩ := s
  match ts, ht with
  | t :: ts, _ =>
  have e0 : stepS ⟨t :: ts, vs, calls, fuel, ended⟩ = doS ⟨ts, vs, calls, fuel, ended⟩ t := by simp only [stepS]; rw [if_pos h0]
  rw [e0]
  have hts' : ∀ t, t ∈ ts → okT t := fun u hu => hts u (by simp [hu])
  have htt := hts t (by simp)
  simp only at hw hf hv hle hm h0
  have tpos : 1 ≤ tw t := by
    unfold tw
    have := t.x.tsz_pos
    split
    · omega
    · split
      · omega
      · split <;> omega
  rcases hw with ⟨hd, hw⟩ | ⟨hd, b, r, rfl, hw⟩ | ⟨hd, a, b, r, rfl, hw⟩ | ⟨hd, a, r, rfl, hw⟩
  · obtain ⟨hx, hz, he⟩ := htt.1 (.inl hd)
    have := look_next (s := ⟨ts, vs, calls, fuel, ended⟩) hx hz he hw hf hv hts' hle hm
    have e1 : tw t = tw (lookT t.x t.s) := by simp [tw, lookT, hd]
    simp only [doS, hd, if_true]
    intro h1
    refine ⟨(this h1).1, ?_⟩
    have h2 := (this h1).2
    simp only [mu, List.map_cons, List.sum_cons, e1] at h2 ⊢
    exact h2
  · obtain ⟨v, vs', rfl, _, hf'⟩ := fl_one hf
    have hvv := hv v (by simp)
    have hvs : ∀ u, u ∈ vs' → okV u := fun u hu => hv u (by simp [hu])
    have n1 : t.d ≠ 1 := by omega
    simp only [doS, n1, if_false]
    rcases hd with hd | hd
    · obtain ⟨hx, hz, he⟩ := htt.1 (.inr hd)
      have hk6 := htt.2.1 hd
      have hl3 : t.x.l.length = 3 := by rw [hx.top.2.2.1, hk6]; rfl
      simp only [hd]
      by_cases hk : v.k = 2
      · simp only [hk]
        intro _
        have hlt : (if v.n = 1 then 1 else 2) < t.x.l.length := by split <;> omega
        have h0 := part_tsz hlt
        refine ⟨⟨⟨r, wf_look rfl hw, hf'⟩, hvs, fun u hu => ?_, hle, hm⟩, ?_⟩
        · rcases List.mem_cons.1 hu with rfl | hu
          · exact okT_look (hx.part hlt) (by omega) he
          · exact hts' u hu
        · have e2 : tw t = 8 * (t.x.at 1).tsz + 8 * (t.x.at 2).tsz + 1 := by simp [tw, hd]
          have e3 : tw (lookT (t.x.at (if v.n = 1 then 1 else 2)) t.s) ≤ 8 * (t.x.at 1).tsz + 8 * (t.x.at 2).tsz := by
            simp only [tw, lookT, if_true]
            split <;> omega
          have e4 : ¬ ((4 : Int) = 6) := by decide
          simp only [mu, St.plan, List.map_cons, List.sum_cons, e2, e4, if_false, if_true]
          omega
      · simp only [hk]; intro h; simp [St.stop, stuckO] at h
    · simp only [hd]
      have pushed : ∀ u, okV u → Next ⟨t :: ts, v :: vs', calls, fuel, ended⟩ (St.push ⟨ts, vs', calls, fuel, ended⟩ u) := fun u h _ => by
        refine ⟨okS.push ⟨r, hw, hf'⟩ h hvs hts' hle hm, ?_⟩
        simp only [mu, St.push, List.map_cons, List.sum_cons]
        omega
      have stopped : ∀ o : Out, o.k ≠ 0 → Next ⟨t :: ts, v :: vs', calls, fuel, ended⟩ (St.stop ⟨ts, vs', calls, fuel, ended⟩ o) := fun o h h' => absurd h' h
      simp only [changeS]
      cases hc : t.c with
      | none => exact pushed v hvv
      | some c =>
        have hcc := htt.2.2 c hc
        simp only [if_true]
        split
        · exact stopped _ (by simp [stuckO])
        rename_i h1
        split
        · rename_i h2
          exact stopped _ (by rw [hcc.opens h2.1]; omega)
        split
        · rename_i h3; exact stopped _ h3
        · exact pushed _ (okV_of hvv hcc fun ho => Classical.byContradiction fun h => h1 ⟨ho, h⟩)
  · obtain ⟨v, vs1, rfl, _, hf1⟩ := fl_one hf
    obtain ⟨u, vs', rfl, _, hf'⟩ := fl_one hf1
    have hvv := hv v (by simp)
    have huu := hv u (by simp)
    have hvs : ∀ u, u ∈ vs' → okV u := fun u hu => hv u (by simp [hu])
    have n1 : t.d ≠ 1 := by omega
    have n6 : t.d ≠ 6 := by omega
    have n4 : t.d ≠ 4 := by omega
    simp only [doS, n1, n6, n4, if_false]
    have made : ∀ (z : Val) (o : Out), okV z → Next ⟨t :: ts, v :: u :: vs', calls, fuel, ended⟩ ⟨ts, z :: vs', calls, fuel, o⟩ := fun z o h _ => by
      refine ⟨⟨⟨false :: r, hw, fl_cons hf'⟩, fun x hx => ?_, hts', hle, hm⟩, ?_⟩
      · rcases List.mem_cons.1 hx with rfl | hx
        · exact h
        · exact hvs x hx
      · simp only [mu, List.map_cons, List.sum_cons]
        omega
    rcases hd with hd | hd | hd
    · simp only [hd, if_true]
      exact made _ _ (okV_num (by unfold clampI; omega) (by unfold clampI; omega))
    · simp only [hd]
      exact made _ _ (okV_truth (by split <;> omega) (by split <;> omega))
    · simp only [hd]
      have ht5 : tw t = 5 := by simp [tw, hd]
      exact call_next hw hf' hvv huu hvs hts' hle hm (by omega) (fun _ => by omega)
  · obtain ⟨v, vs1, rfl, _, hf1⟩ := fl_one hf
    obtain ⟨u, vs', rfl, h4, hf'⟩ := fl_one hf1
    have hvv := hv v (by simp)
    have huu := hv u (by simp)
    have hvs : ∀ u, u ∈ vs' → okV u := fun u hu => hv u (by simp [hu])
    simp only [doS, hd]
    exact call_next hw hf' hvv huu hvs hts' hle hm tpos (fun h => absurd h (h4 rfl))
/-- The machine that has gone so far. -/
theorem run_ok {s : St} (h : okS s) : ∀ n, (runN n s).ended.k = 0 → okS (runN n s) ∧ (mu (runN n s) + n ≤ mu s ∨ (runN n s).ts = [])
  | 0, _ => ⟨h, .inl (by simp [runN])⟩
  | n + 1, h0 => by
    rw [runN_succ] at h0 ⊢
    by_cases he : (runN n s).ended.k = 0
    · obtain ⟨h1, h2⟩ := run_ok h n he
      by_cases ht : (runN n s).ts = []
      · rw [done_step (.inr ht)]
        exact ⟨h1, .inr ht⟩
      · obtain ⟨h3, h4⟩ := step_next h1 he ht h0
        refine ⟨h3, ?_⟩
        rcases h2 with h2 | h2
        · exact .inl (by omega)
        · exact absurd h2 ht
    · rw [done_step (.inl he)] at h0
      exact absurd h0 he
theorem mu_pos {s : St} (h : okS s) (ht : s.ts ≠ []) : 1 ≤ mu s := by
  obtain ⟨ts, vs, calls, fuel, ended⟩ := s
  match ts, ht with
  | t :: r, _ =>
    have : 1 ≤ tw t := by
      unfold tw
      have := t.x.tsz_pos
      split
      · omega
      · split
        · omega
        · split <;> omega
    simp only [mu, List.map_cons, List.sum_cons]
    omega
theorem run_done {s : St} (h : okS s) : (runN (mu s) s).done := by
  by_cases he : (runN (mu s) s).ended.k = 0
  · obtain ⟨h1, h2⟩ := run_ok h (mu s) he
    rcases h2 with h2 | h2
    · refine .inr (Classical.byContradiction fun ht => ?_)
      have := mu_pos h1 ht
      omega
    · exact .inr h2
  · exact .inl he
theorem run_more {s : St} (h : okS s) {n : Nat} (hn : mu s ≤ n) : runN n s = runN (mu s) s := by
  obtain ⟨m, rfl⟩ : ∃ m, n = mu s + m := ⟨n - mu s, by omega⟩
  rw [runN_add, done_run (run_done h)]
theorem st0_ok {x : Tm} {fuel : Nat} (h : shp x) (hz : x.tsz ≤ 100) (hf : fuel ≤ 100) : okS (st0 x fuel) ∧ mu (st0 x fuel) ≤ 100800 := by
  refine ⟨⟨⟨[], .inl ⟨rfl, false, rfl⟩, trivial⟩, fun v hv => (by cases hv), fun t ht => ?_, Nat.zero_le _, hf⟩, ?_⟩
  · rcases List.mem_cons.1 ht with rfl | ht
    · exact okT_look h hz fun v hv => by cases hv
    · cases ht
  · simp only [mu, st0, List.map_cons, List.sum_cons, List.map_nil, List.sum_nil]
    have : tw (lookT x []) = 8 * x.tsz := by simp [tw, lookT]
    omega
/-- Where the machine has ended, is what is told. -/
theorem runM_of {x : Tm} {fuel : Nat} (h : shp x) (hz : x.tsz ≤ 100) (hf : fuel ≤ 100) {n : Nat} (hd : (runN n (st0 x fuel)).done) : runM x fuel = finO (runN n (st0 x fuel)) := by
  obtain ⟨h1, h2⟩ := st0_ok h hz hf
  rw [runM_eq]
  rw [run_more h1 (n := bigN) (by unfold bigN; omega)]
  rcases Nat.le_total n (mu (st0 x fuel)) with hle | hle
  · obtain ⟨m, e⟩ : ∃ m, mu (st0 x fuel) = n + m := ⟨_, (Nat.add_sub_of_le hle).symm⟩
    rw [e, runN_add, done_run hd]
  · rw [run_more h1 hle]
theorem runM_done {x : Tm} {fuel : Nat} (h : shp x) (hz : x.tsz ≤ 100) (hf : fuel ≤ 100) : (runN bigN (st0 x fuel)).done := by
  obtain ⟨h1, h2⟩ := st0_ok h hz hf
  rw [run_more h1 (n := bigN) (by unfold bigN; omega)]
  exact run_done h1
end Go.Proofs.YtnddkmccagiclaaGreatDoor
