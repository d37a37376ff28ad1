/-
  What the machine makes of a term, and of a call, put together of what it makes of the parts; plain mathematics.
-/
import Derived.Test.YtnddkmccagiclabGreatDoorLot198e6357ab
import Derived.Deep.RegionHeld3
import Derived.Deep.AppendLies
import Derived.Deep.RegionLaw
import Derived.Test.YtnddkmccagiclabGreatDoorLotfef4768764
import Derived.Deep.LoopGhost
import Derived.Shelf.Strconv.Itoa3
import Derived.Lib.SlicesS
namespace Go.Proofs.YtnddkmccagiclabGreatDoor
/-- From that machine on: it ends so, or comes to the value, with so many calls. -/
structure Gets (s : St) (ts : List Task) (vs : List Val) (F : Nat) (r : Out) (V : Val) (c' : Nat) : Prop where
  ok : r.k = 0 → Rch s ⟨ts, V :: vs, c', F, out0⟩
  bad : r.k ≠ 0 → Ends s r
theorem Gets.of {s t : St} {ts : List Task} {vs : List Val} {F : Nat} {r : Out} {V : Val} {c' : Nat} (h : Rch s t) (g : Gets t ts vs F r V c') : Gets s ts vs F r V c' := ⟨fun h0 => h.trans (g.ok h0), fun h0 => Ends.of h (g.bad h0)⟩
theorem Gets.step {s : St} {ts : List Task} {vs : List Val} {F : Nat} {r : Out} {V : Val} {c' : Nat} (g : Gets (stepS s) ts vs F r V c') : Gets s ts vs F r V c' := ⟨fun h0 => (g.ok h0).step, fun h0 => (g.bad h0).step⟩
theorem Gets.eqs {s t : St} {ts : List Task} {vs : List Val} {F : Nat} {r : Out} {V : Val} {c' : Nat} (h : eqS s t) (g : Gets t ts vs F r V c') : Gets s ts vs F r V c' := Gets.of ⟨0, h⟩ g
theorem Gets.to {s : St} {ts : List Task} {vs : List Val} {F : Nat} {r : Out} {V V' : Val} {c' : Nat} (g : Gets s ts vs F r V c') (h : eqV V V') : Gets s ts vs F r V' c' := ⟨fun h0 => (g.ok h0).to ⟨rfl, eqE_cons h rfl, rfl, rfl, rfl⟩, g.bad⟩
theorem Gets.stop {s : St} {ts : List Task} {vs : List Val} {F : Nat} {r : Out} {V : Val} {c' : Nat} (h : s.ended = r) (hr : r.k ≠ 0) : Gets s ts vs F r V c' := ⟨fun h0 => absurd h0 hr, fun _ => Ends.now h hr⟩
theorem Gets.done {ts : List Task} {vs : List Val} {F : Nat} {V : Val} {c' : Nat} : Gets ⟨ts, V :: vs, c', F, out0⟩ ts vs F out0 V c' := ⟨fun _ => Rch.refl _, fun h => absurd rfl h⟩
/-- Looking at a term. -/
def EvR (F : Nat) (x : Tm) (E : List Val) (c : Nat) (r : Out) (V : Val) (c' : Nat) : Prop := ∀ ts vs, Gets ⟨lookT x E :: ts, vs, c, F, out0⟩ ts vs F r V c'
/-- A call. -/
def ApR (F : Nat) (f g : Val) (c : Nat) (r : Out) (V : Val) (c' : Nat) : Prop := ∀ ts vs, Gets (callS ⟨ts, vs, c, F, out0⟩ f g) ts vs F r V c'
theorem EvR.congr {F : Nat} {x : Tm} {E E' : List Val} {c : Nat} {r : Out} {V V' : Val} {c' : Nat} (h : EvR F x E c r V c') (he : eqE E' E) (hv : eqV V V') : EvR F x E' c r V' c' := fun ts vs => by
  have hS : eqS ⟨lookT x E' :: ts, vs, c, F, out0⟩ ⟨lookT x E :: ts, vs, c, F, out0⟩ := ⟨eqTs_cons (eqT_mk he (eqC.refl _)) rfl, rfl, rfl, rfl, rfl⟩
  exact ((h ts vs).eqs hS).to hv
theorem ApR.congr {F : Nat} {f f' g g' : Val} {c : Nat} {r : Out} {V V' : Val} {c' : Nat} (h : ApR F f g c r V c') (hf : eqV f' f) (hg : eqV g' g) (hv : eqV V V') : ApR F f' g' c r V' c' := fun ts vs => ((h ts vs).eqs (call_congr (eqS.refl _) hf hg)).to hv
theorem look_step (x : Tm) (E : List Val) (ts : List Task) (vs : List Val) (c F : Nat) : stepS ⟨lookT x E :: ts, vs, c, F, out0⟩ = lookS ⟨ts, vs, c, F, out0⟩ x E := rfl
theorem ev_var {F : Nat} {x : Tm} {E : List Val} {c : Nat} {v : Val} (hk : x.k = 1) (h : E[x.n.toNat]? = some v) : EvR F x E c out0 v c := fun ts vs => by
  refine Gets.step ?_
  rw [look_step, lookS, if_pos hk, h]
  exact Gets.done
theorem ev_var_bad {F : Nat} {x : Tm} {E : List Val} {c : Nat} {V : Val} (hk : x.k = 1) (h : E[x.n.toNat]? = none) : EvR F x E c stuckO V c := fun ts vs => by
  refine Gets.step ?_
  rw [look_step, lookS, if_pos hk, h]
  exact Gets.stop rfl (by decide)
theorem ev_num {F : Nat} {x : Tm} {E : List Val} {c : Nat} (hk : x.k = 2) : EvR F x E c out0 (numV x.n) c := fun ts vs => by
  refine Gets.step ?_
  rw [look_step, lookS, if_neg (by omega), if_pos hk]
  exact Gets.done
theorem ev_truth {F : Nat} {x : Tm} {E : List Val} {c : Nat} (hk : x.k = 3) : EvR F x E c out0 (truthV x.n) c := fun ts vs => by
  refine Gets.step ?_
  rw [look_step, lookS, if_neg (by omega), if_neg (by omega), if_pos hk]
  exact Gets.done
theorem ev_fun {F : Nat} {x : Tm} {E : List Val} {c : Nat} (hk : x.k = 7) : EvR F x E c out0 (funV (x.at 0) E) c := fun ts vs => by
  refine Gets.step ?_
  rw [look_step, lookS, if_neg (by omega), if_neg (by omega), if_neg (by omega), if_pos hk]
  exact Gets.done
theorem ev_as {F : Nat} {x : Tm} {E : List Val} {c : Nat} {r : Out} {V : Val} {c' : Nat} (hk : x.k = 9) (h : EvR F (x.at 0) E c r V c') : EvR F x E c r V c' := fun ts vs => by
  refine Gets.step ?_
  rw [look_step, lookS, if_neg (by omega), if_neg (by omega), if_neg (by omega), if_neg (by omega), if_pos hk]
  exact h ts vs
theorem ev_cast_bad {F : Nat} {x : Tm} {E : List Val} {c : Nat} {r : Out} {V V' : Val} {c' : Nat} (hk : x.k = 10) (h : EvR F (x.at 0) E c r V c') (hr : r.k ≠ 0) : EvR F x E c r V' c' := fun ts vs => by
  refine Gets.step ?_
  rw [look_step, lookS, if_neg (by omega), if_neg (by omega), if_neg (by omega), if_neg (by omega), if_neg (by omega), if_pos hk]
  exact ⟨fun h0 => absurd h0 hr, fun _ => (h (changeT (newC 100 x.f x.t (blameO x.n)) :: ts) vs).bad hr⟩
theorem change_step (co : Option Ca) (ts : List Task) (v : Val) (vs : List Val) (c F : Nat) : stepS ⟨changeT co :: ts, v :: vs, c, F, out0⟩ = changeS ⟨ts, vs, c, F, out0⟩ co v := rfl
/-- A cast of the value that lies on top. -/
theorem change_gets {co : Option Ca} {v : Val} {ts : List Task} {vs : List Val} {c F : Nat} (hw : ∀ d, co = some d → d.opens = true → d.wrong.k ≠ 0) : Gets ⟨changeT co :: ts, v :: vs, c, F, out0⟩ ts vs F (chg co v).1 (chg co v).2 c := by
  refine Gets.step ?_
  rw [change_step, changeS_chg hw]
  by_cases h : (chg co v).1.k = 0
  · rw [if_pos h]
    exact ⟨fun _ => Rch.refl _, fun h' => absurd h h'⟩
  · rw [if_neg h]
    exact Gets.stop rfl h
theorem ev_cast {F : Nat} {x : Tm} {E : List Val} {c : Nat} {r : Out} {V : Val} {c' : Nat} (hk : x.k = 10) (h : EvR F (x.at 0) E c r V c') (hr : r.k = 0) : EvR F x E c (chg (newC 100 x.f x.t (blameO x.n)) V).1 (chg (newC 100 x.f x.t (blameO x.n)) V).2 c' := fun ts vs => by
  refine Gets.step ?_
  rw [look_step, lookS, if_neg (by omega), if_neg (by omega), if_neg (by omega), if_neg (by omega), if_neg (by omega), if_pos hk]
  refine Gets.of ((h (changeT (newC 100 x.f x.t (blameO x.n)) :: ts) vs).ok hr) (change_gets fun d hd ho => ?_)
  have := okC_new 100 x.f x.t (blameO x.n) rfl d hd
  rw [this.opens ho]
  omega
theorem if_step (x : Tm) (E : List Val) (ts : List Task) (v : Val) (vs : List Val) (c F : Nat) : stepS ⟨chooseT x E :: ts, v :: vs, c, F, out0⟩ = if v.k = 2 then (St.plan ⟨ts, vs, c, F, out0⟩ (lookT (x.at (if v.n = 1 then 1 else 2)) E)) else St.stop ⟨ts, vs, c, F, out0⟩ stuckO := rfl
theorem ev_if_bad {F : Nat} {x : Tm} {E : List Val} {c : Nat} {r : Out} {V V' : Val} {c' : Nat} (hk : x.k = 6) (h : EvR F (x.at 0) E c r V c') (hr : r.k ≠ 0) : EvR F x E c r V' c' := fun ts vs => by
  refine Gets.step ?_
  rw [look_step, lookS, if_neg (by omega), if_neg (by omega), if_neg (by omega), if_neg (by omega), if_neg (by omega), if_neg (by omega), if_pos hk]
  exact ⟨fun h0 => absurd h0 hr, fun _ => (h (chooseT x E :: ts) vs).bad hr⟩
theorem ev_if_stuck {F : Nat} {x : Tm} {E : List Val} {c : Nat} {r : Out} {V V' : Val} {c' : Nat} (hk : x.k = 6) (h : EvR F (x.at 0) E c r V c') (hr : r.k = 0) (hv : V.k ≠ 2) : EvR F x E c stuckO V' c' := fun ts vs => by
  refine Gets.step ?_
  rw [look_step, lookS, if_neg (by omega), if_neg (by omega), if_neg (by omega), if_neg (by omega), if_neg (by omega), if_neg (by omega), if_pos hk]
  refine Gets.of ((h (chooseT x E :: ts) vs).ok hr) (Gets.step ?_)
  rw [if_step, if_neg hv]
  exact Gets.stop rfl (by decide)
theorem ev_if {F : Nat} {x : Tm} {E : List Val} {c : Nat} {r r2 : Out} {V V2 : Val} {c' c2 : Nat} (hk : x.k = 6) (h : EvR F (x.at 0) E c r V c') (hr : r.k = 0) (hv : V.k = 2) (h2 : EvR F (x.at (if V.n = 1 then 1 else 2)) E c' r2 V2 c2) : EvR F x E c r2 V2 c2 := fun ts vs => by
  refine Gets.step ?_
  rw [look_step, lookS, if_neg (by omega), if_neg (by omega), if_neg (by omega), if_neg (by omega), if_neg (by omega), if_neg (by omega), if_pos hk]
  refine Gets.of ((h (chooseT x E :: ts) vs).ok hr) (Gets.step ?_)
  rw [if_step, if_pos hv]
  exact h2 ts vs
/-- What is to be done with two values. -/
def twoD (k : Int) : Int := if k = 4 then 2 else if k = 5 then 3 else 5
theorem look_both {s : St} {x : Tm} {E : List Val} (hk : x.k = 4 ∨ x.k = 5 ∨ x.k = 8) : lookS s x E = bothS s x E (twoD x.k) := by
  unfold lookS twoD
  rcases hk with h | h | h <;> rw [h] <;> rfl
theorem ev_both1 {F : Nat} {x : Tm} {E : List Val} {c : Nat} {r : Out} {V V' : Val} {c' : Nat} (hk : x.k = 4 ∨ x.k = 5 ∨ x.k = 8) (h : EvR F (x.at 0) E c r V c') (hr : r.k ≠ 0) : EvR F x E c r V' c' := fun ts vs => by
  refine Gets.step ?_
  rw [look_step, look_both hk]
  exact ⟨fun h0 => absurd h0 hr, fun _ => (h (lookT (x.at 1) E :: doT (twoD x.k) :: ts) vs).bad hr⟩
theorem ev_both2 {F : Nat} {x : Tm} {E : List Val} {c : Nat} {r r2 : Out} {V V2 V' : Val} {c' c2 : Nat} (hk : x.k = 4 ∨ x.k = 5 ∨ x.k = 8) (h : EvR F (x.at 0) E c r V c') (hr : r.k = 0) (h2 : EvR F (x.at 1) E c' r2 V2 c2) (hr2 : r2.k ≠ 0) : EvR F x E c r2 V' c2 := fun ts vs => by
  refine Gets.step ?_
  rw [look_step, look_both hk]
  refine Gets.of ((h (lookT (x.at 1) E :: doT (twoD x.k) :: ts) vs).ok hr) ?_
  exact ⟨fun h0 => absurd h0 hr2, fun _ => (h2 (doT (twoD x.k) :: ts) (V :: vs)).bad hr2⟩
theorem both_ready {F : Nat} {x : Tm} {E : List Val} {c : Nat} {r r2 : Out} {V V2 : Val} {c' c2 : Nat} (hk : x.k = 4 ∨ x.k = 5 ∨ x.k = 8) (h : EvR F (x.at 0) E c r V c') (hr : r.k = 0) (h2 : EvR F (x.at 1) E c' r2 V2 c2) (hr2 : r2.k = 0) (ts : List Task) (vs : List Val) : Rch ⟨lookT x E :: ts, vs, c, F, out0⟩ ⟨doT (twoD x.k) :: ts, V2 :: V :: vs, c2, F, out0⟩ := by
  refine Rch.step ?_
  rw [look_step, look_both hk]
  exact ((h (lookT (x.at 1) E :: doT (twoD x.k) :: ts) vs).ok hr).trans ((h2 (doT (twoD x.k) :: ts) (V :: vs)).ok hr2)
theorem ev_add {F : Nat} {x : Tm} {E : List Val} {c : Nat} {r r2 : Out} {V V2 : Val} {c' c2 : Nat} (hk : x.k = 4) (h : EvR F (x.at 0) E c r V c') (hr : r.k = 0) (h2 : EvR F (x.at 1) E c' r2 V2 c2) (hr2 : r2.k = 0) : EvR F x E c (if V.k = 1 ∧ V2.k = 1 then out0 else stuckO) (numV (clampI (V.n + V2.n))) c2 := fun ts vs => by
  refine Gets.of (both_ready (.inl hk) h hr h2 hr2 ts vs) (Gets.step ?_)
  have e : twoD x.k = 2 := by rw [hk]; rfl
  rw [e]
  show Gets ⟨ts, numV (clampI (V.n + V2.n)) :: vs, c2, F, if V.k = 1 ∧ V2.k = 1 then out0 else stuckO⟩ ts vs F _ _ c2
  split
  · exact Gets.done
  · exact Gets.stop rfl (by decide)
theorem ev_less {F : Nat} {x : Tm} {E : List Val} {c : Nat} {r r2 : Out} {V V2 : Val} {c' c2 : Nat} (hk : x.k = 5) (h : EvR F (x.at 0) E c r V c') (hr : r.k = 0) (h2 : EvR F (x.at 1) E c' r2 V2 c2) (hr2 : r2.k = 0) : EvR F x E c (if V.k = 1 ∧ V2.k = 1 then out0 else stuckO) (truthV (if V.n < V2.n then 1 else 0)) c2 := fun ts vs => by
  refine Gets.of (both_ready (.inr (.inl hk)) h hr h2 hr2 ts vs) (Gets.step ?_)
  have e : twoD x.k = 3 := by rw [hk]; rfl
  rw [e]
  show Gets ⟨ts, truthV (if V.n < V2.n then 1 else 0) :: vs, c2, F, if V.k = 1 ∧ V2.k = 1 then out0 else stuckO⟩ ts vs F _ _ c2
  by_cases hh : V.k = 1 ∧ V2.k = 1
  · rw [if_pos hh]; exact Gets.done
  · rw [if_neg hh]; exact Gets.stop rfl (by decide)
theorem ev_call {F : Nat} {x : Tm} {E : List Val} {c : Nat} {r r2 r3 : Out} {V V2 V3 : Val} {c' c2 c3 : Nat} (hk : x.k = 8) (h : EvR F (x.at 0) E c r V c') (hr : r.k = 0) (h2 : EvR F (x.at 1) E c' r2 V2 c2) (hr2 : r2.k = 0) (h3 : ApR F V V2 c2 r3 V3 c3) : EvR F x E c r3 V3 c3 := fun ts vs => by
  refine Gets.of (both_ready (.inr (.inr hk)) h hr h2 hr2 ts vs) (Gets.step ?_)
  have e : twoD x.k = 5 := by rw [hk]; rfl
  rw [e]
  exact h3 ts vs
/-! ### Calls -/
theorem ap_not {F : Nat} {f g : Val} {c : Nat} {V : Val} (h3 : f.k ≠ 3) (h4 : f.k ≠ 4) : ApR F f g c stuckO V c := fun ts vs => by
  unfold callS
  rw [if_neg h3, if_neg h4]
  exact Gets.stop rfl (by decide)
theorem ap_fuel {F : Nat} {f g : Val} {c : Nat} {V : Val} (h3 : f.k = 3) (hc : c = F) : ApR F f g c fuelO V c := fun ts vs => by
  unfold callS enterS
  rw [if_pos h3, if_pos hc]
  exact Gets.stop rfl (by decide)
theorem ap_enter {F : Nat} {f g : Val} {c : Nat} {r : Out} {V : Val} {c' : Nat} (h3 : f.k = 3) (hc : c ≠ F) (h : EvR F f.body (g :: f.env) (c + 1) r V c') : ApR F f g c r V c' := fun ts vs => by
  unfold callS enterS
  rw [if_pos h3, if_neg hc]
  exact h ts vs
theorem tyC_opens {d : Ca} {S T : Ty} (h : tyC (some d) S T) (ho : d.opens = true) : d.wrong.k = 4 := by
  obtain ⟨o, w, k, e, g, a, h'⟩ := d
  obtain ⟨_, _, _, c1, _⟩ := tyC_some.1 h
  rcases c1 with ⟨_, _, _, hw⟩ | ⟨ho', _⟩
  · exact hw
  · simp only at ho; rw [ho'] at ho; cases ho
/-- A call of a function that may have been cast: with what it is given, what its core comes to, and what becomes of that. -/
def ApX (F : Nat) (f g : Val) (B : Ty) (c : Nat) (r : Out) (V : Val) (c' : Nat) : Prop :=
  (f.k = 3 ∧ ApR F f g c r V c' ∧ (r.k = 0 → tyV V B)) ∨
  (f.k = 4 ∧ f.core.k = 3 ∧ (∃ A A0, tyC f.given A A0) ∧ (∃ B1, tyC f.answer B1 B) ∧ (((chg f.given g).1.k ≠ 0 ∧ r = (chg f.given g).1 ∧ c' = c) ∨ ((chg f.given g).1.k = 0 ∧ ∃ (B0 : Ty) (r1 : Out) (U : Val), tyC f.answer B0 B ∧ ApR F f.core (chg f.given g).2 c r1 U c' ∧ (r1.k = 0 → tyV U B0) ∧ ((r1.k ≠ 0 ∧ r = r1) ∨ (r1.k = 0 ∧ r = (chg f.answer U).1 ∧ (r.k = 0 → eqV V (chg f.answer U).2))))))
theorem seven_step {F : Nat} (ts : List Task) (vs : List Val) (f g : Val) (c : Nat) : stepS ⟨doT 7 :: ts, g :: f :: vs, c, F, out0⟩ = callS ⟨ts, vs, c, F, out0⟩ f g := rfl
theorem ap_of {F : Nat} {f g : Val} {B : Ty} {c : Nat} {r : Out} {V : Val} {c' : Nat} (h : ApX F f g B c r V c') : ApR F f g c r V c' := by
  rcases h with ⟨_, h, _⟩ | ⟨h4, _, ⟨_, _, og⟩, ⟨_, oa⟩, h⟩
  · exact h
  · intro ts vs
    have wg : ∀ d, f.given = some d → d.opens = true → d.wrong.k ≠ 0 := fun d hd ho => by rw [hd] at og; rw [tyC_opens og ho]; omega
    have wa : ∀ d, f.answer = some d → d.opens = true → d.wrong.k ≠ 0 := fun d hd ho => by rw [hd] at oa; rw [tyC_opens oa ho]; omega
    unfold callS
    rw [if_neg (by omega), if_pos h4]
    show Gets ⟨changeT f.given :: doT 7 :: changeT f.answer :: ts, g :: f.core :: vs, c, F, out0⟩ ts vs F r V c'
    have hg := change_gets (co := f.given) (v := g) (ts := doT 7 :: changeT f.answer :: ts) (vs := f.core :: vs) (c := c) (F := F) wg
    rcases h with ⟨h1, rfl, rfl⟩ | ⟨h1, B0, r1, U, _, hA, _, h2⟩
    · exact ⟨fun h0 => absurd h0 h1, fun _ => hg.bad h1⟩
    · refine Gets.of (hg.ok h1) (Gets.step ?_)
      rw [seven_step]
      rcases h2 with ⟨h3, rfl⟩ | ⟨h3, rfl, h5⟩
      · exact ⟨fun h0 => absurd h0 h3, fun _ => (hA (changeT f.answer :: ts) vs).bad h3⟩
      · refine Gets.of ((hA (changeT f.answer :: ts) vs).ok h3) ?_
        have ha := change_gets (co := f.answer) (v := U) (ts := ts) (vs := vs) (c := c') (F := F) wa
        exact ⟨fun h0 => (ha.ok h0).to ⟨rfl, eqE_cons (h5 h0).symm rfl, rfl, rfl, rfl⟩, ha.bad⟩
end Go.Proofs.YtnddkmccagiclabGreatDoor

/-
  Casts made of types, and a function that was cast and is cast again, as one who casts each time anew sees them; plain mathematics.
-/
namespace Go.Proofs.YtnddkmccagiclabGreatDoor
theorem ground_good {n : Nat} {f : Ty} (h : goodY (n + 1) f = true) : goodY (n + 1) (groundY f) = true := by
  rcases goodY_cases h with ⟨k, rfl, hk⟩ | ⟨x, y, rfl, hx, hy⟩
  · unfold groundY
    rw [if_neg (by simp only; omega)]
    exact h
  · unfold groundY
    rw [if_pos rfl]
    cases n with
    | zero => simp [goodY] at hx
    | succ n => simp [goodY, anyY]
theorem ground_k (f : Ty) : (groundY f).k = f.k := by
  unfold groundY
  split
  · rename_i h; exact h.symm
  · rfl
/-- Room to spare makes no other cast. -/
theorem newC_more : ∀ (m m' n : Nat) (f t : Ty) (o : Out), goodY n f = true → goodY n t = true → 2 * n + (if f.k = 0 ∨ t.k = 0 then 1 else 0) ≤ m → 2 * n + (if f.k = 0 ∨ t.k = 0 then 1 else 0) ≤ m' → newC m f t o = newC m' f t o
  | _, _, 0, f, t, o, hf, _, _, _ => by simp [goodY] at hf
  | 0, _, n + 1, f, t, o, _, _, h, _ => by omega
  | _ + 1, 0, n + 1, f, t, o, _, _, _, h => by omega
  | m + 1, m' + 1, n + 1, f, t, o, hf, ht, h, h' => by
    rw [newC, newC]
    by_cases hs : relY escSame f t = true
    · rw [if_pos hs, if_pos hs]
    rw [if_neg hs, if_neg hs]
    have hne : f ≠ t := fun e => hs (by rw [e]; exact same_refl t)
    by_cases h3 : f.k = 3 ∧ t.k = 3
    · rw [if_pos h3, if_pos h3]
      rcases goodY_cases hf with ⟨k, rfl, hk⟩ | ⟨f1, f2, rfl, gf1, gf2⟩
      · have := h3.1; simp only at this; omega
      rcases goodY_cases ht with ⟨k, rfl, hk⟩ | ⟨t1, t2, rfl, gt1, gt2⟩
      · have := h3.2; simp only at this; omega
      have b : 2 * n + 1 ≤ m := by omega
      have b' : 2 * n + 1 ≤ m' := by omega
      have e1 : newC m t1 f1 (turnO o) = newC m' t1 f1 (turnO o) := newC_more m m' n t1 f1 _ gt1 gf1 (by split <;> omega) (by split <;> omega)
      have e2 : newC m f2 t2 o = newC m' f2 t2 o := newC_more m m' n f2 t2 _ gf2 gt2 (by split <;> omega) (by split <;> omega)
      show some (Ca.mk false out0 3 out0 (newC m t1 f1 (turnO o)) (newC m f2 t2 o) false) = some (Ca.mk false out0 3 out0 (newC m' t1 f1 (turnO o)) (newC m' f2 t2 o) false)
      rw [e1, e2]
    rw [if_neg h3, if_neg h3]
    by_cases h0 : t.k = 0
    · rw [if_pos h0, if_pos h0]
      have hf0 : f.k ≠ 0 := fun e => by
        rcases goodY_cases hf with ⟨k, rfl, hk⟩ | ⟨f1, f2, rfl, gf1, gf2⟩
        · rcases goodY_cases ht with ⟨k', rfl, hk'⟩ | ⟨t1, t2, rfl, gt1, gt2⟩
          · simp only at e h0; subst e h0; exact hne rfl
          · cases h0
        · cases e
      rw [if_pos (.inr h0)] at h h'
      have e : newC m f (groundY f) o = newC m' f (groundY f) o := newC_more m m' (n + 1) f (groundY f) o hf (ground_good hf) (by rw [ground_k, if_neg (by omega)]; omega) (by rw [ground_k, if_neg (by omega)]; omega)
      simp only
      rw [e]
    rw [if_neg h0, if_neg h0]
    by_cases h1 : f.k = 0
    · rw [if_pos h1, if_pos h1]
      rw [if_pos (.inl h1)] at h h'
      have e : newC m (groundY t) t o = newC m' (groundY t) t o := newC_more m m' (n + 1) (groundY t) t o (ground_good ht) ht (by rw [ground_k, if_neg (by omega)]; omega) (by rw [ground_k, if_neg (by omega)]; omega)
      simp only
      rw [e]
    rw [if_neg h1, if_neg h1]
/-- The cast from a type to another one. -/
def castOf (f t : Ty) (o : Out) : Option Ca := newC 100 f t o
theorem castOf_99 {n : Nat} {f t : Ty} {o : Out} (hf : goodY n f = true) (ht : goodY n t = true) (hn : n ≤ 49) : newC 99 f t o = castOf f t o := newC_more 99 100 n f t o hf ht (by split <;> omega) (by split <;> omega)
theorem castOf_same {f t : Ty} {o : Out} (h : relY escSame f t = true) : castOf f t o = none := by
  unfold castOf
  rw [newC, if_pos h]
theorem castOf_fun {n : Nat} {f0 f1 t0 t1 : Ty} {o : Out} (hf0 : goodY n f0 = true) (hf1 : goodY n f1 = true) (ht0 : goodY n t0 = true) (ht1 : goodY n t1 = true) (hn : n ≤ 49) (h : relY escSame (funY f0 f1) (funY t0 t1) ≠ true) : castOf (funY f0 f1) (funY t0 t1) o = some ⟨false, out0, 3, out0, castOf t0 f0 (turnO o), castOf f1 t1 o, false⟩ := by
  rw [← castOf_99 ht0 hf0 hn, ← castOf_99 hf1 ht1 hn]
  unfold castOf
  rw [newC, if_neg h, if_pos ⟨rfl, rfl⟩]
  rfl
/-- A cast that neither opens nor hides goes on. -/
theorem castOf_flat {n : Nat} {f t : Ty} {o : Out} (hf : goodY (n + 1) f = true) (ht : goodY (n + 1) t = true) (hn : n ≤ 49) (hk : f.k = t.k) : castOf f t o = none ∨ (f.k = 3 ∧ ∃ g a, castOf f t o = some ⟨false, out0, 3, out0, g, a, false⟩) := by
  by_cases h : relY escSame f t = true
  · exact .inl (castOf_same h)
  rcases goodY_cases hf with ⟨k, rfl, hk1⟩ | ⟨f0, f1, rfl, gf0, gf1⟩ <;> rcases goodY_cases ht with ⟨k', rfl, hk2⟩ | ⟨t0, t1, rfl, gt0, gt1⟩
  · simp only at hk
    subst hk
    exact absurd (same_refl _) h
  · simp only at hk; omega
  · simp only at hk; omega
  · exact .inr ⟨rfl, _, _, castOf_fun gf0 gf1 gt0 gt1 hn h⟩
theorem chg_same {f t : Ty} {o : Out} {V : Val} (h : relY escSame f t = true) : chg (castOf f t o) V = (out0, V) := by rw [castOf_same h]; rfl
theorem chg_prox {g a : Option Ca} {V : Val} : chg (some ⟨false, out0, 3, out0, g, a, false⟩) V = (out0, withV V g a) := by
  rw [chg_some]
  simp only
  rw [if_neg (fun h => by cases h.1), if_neg (fun h => by cases h.1), if_neg (fun h => h rfl), ofC_with]
  simp
theorem chg_flat {n : Nat} {f t : Ty} {o : Out} {V : Val} (hf : goodY (n + 1) f = true) (ht : goodY (n + 1) t = true) (hn : n ≤ 49) (hk : f.k = t.k) : (chg (castOf f t o) V).1 = out0 ∧ (chg (castOf f t o) V).2 = withV V (someC (castOf f t o) f.k).given (someC (castOf f t o) f.k).answer ∧ (someC (castOf f t o) f.k).opens = false ∧ (someC (castOf f t o) f.k).kind = f.k ∧ (someC (castOf f t o) f.k).ends = out0 ∧ (someC (castOf f t o) f.k).hides = false ∧ (someC (castOf f t o) f.k).wrong = out0 := by
  rcases castOf_flat (o := o) hf ht hn hk with h | ⟨h3, g, a, h⟩
  · rw [h]
    refine ⟨rfl, ?_, rfl, rfl, rfl, rfl, rfl⟩
    show V = withV V none none
    unfold withV
    rw [if_neg (by simp)]
  · rw [h, chg_prox]
    exact ⟨rfl, rfl, rfl, h3.symm, rfl, rfl, rfl⟩
/-- To what is under Any. -/
theorem chg_hide {n : Nat} {f : Ty} {o : Out} {V : Val} (hf : goodY (n + 1) f = true) (hn : n ≤ 48) (hk : f.k ≠ 0) : chg (castOf f anyY o) V = (out0, knownV (chg (castOf f (groundY f) o) V).2 f.k) := by
  obtain ⟨_, h2, h3, h4, h5, h6, h7⟩ := chg_flat (o := o) (V := V) hf (ground_good hf) (by omega) (ground_k f).symm
  rw [h2]
  have e : castOf f anyY o = some ⟨(someC (castOf f (groundY f) o) f.k).opens, (someC (castOf f (groundY f) o) f.k).wrong, (someC (castOf f (groundY f) o) f.k).kind, (someC (castOf f (groundY f) o) f.k).ends, (someC (castOf f (groundY f) o) f.k).given, (someC (castOf f (groundY f) o) f.k).answer, true⟩ := by
    rw [← castOf_99 hf (ground_good hf) (by omega)]
    unfold castOf
    rw [newC, if_neg, if_neg (fun h => by cases h.2), if_pos (show anyY.k = 0 from rfl)]
    intro h
    have := same_eq _ _ h
    rw [this] at hk
    exact hk rfl
  rw [e, h3, h4, h5, h7, chg_some]
  simp only
  rw [if_neg (fun h => by cases h.1), if_neg (fun h => by cases h.1), if_neg (fun h => h rfl), ofC_with]
  simp
/-- Of what is under Any. -/
theorem chg_open {n : Nat} {t : Ty} {o : Out} {U : Val} {s : Int} (ht : goodY (n + 1) t = true) (hn : n ≤ 48) (hk : t.k ≠ 0) : chg (castOf anyY t o) (knownV U s) = if s ≠ t.k then (o, knownV U s) else (out0, (chg (castOf (groundY t) t o) U).2) := by
  obtain ⟨_, h2, h3, h4, h5, h6, h7⟩ := chg_flat (o := o) (V := U) (ground_good ht) ht (by omega) (ground_k t)
  rw [h2]
  rw [ground_k] at h3 h4 h5 h6 h7
  rw [ground_k]
  have e : castOf anyY t o = some ⟨true, o, (someC (castOf (groundY t) t o) t.k).kind, (someC (castOf (groundY t) t o) t.k).ends, (someC (castOf (groundY t) t o) t.k).given, (someC (castOf (groundY t) t o) t.k).answer, (someC (castOf (groundY t) t o) t.k).hides⟩ := by
    rw [← castOf_99 (ground_good ht) ht (by omega)]
    unfold castOf
    rw [newC, if_neg, if_neg (fun h => by cases h.1), if_neg hk, if_pos (show anyY.k = 0 from rfl)]
    intro h
    have := same_eq _ _ h
    rw [← this] at hk
    exact hk rfl
  rw [e, h4, h5, h6, chg_some]
  simp only
  rw [if_neg (fun h => h.2 rfl)]
  by_cases hs : s ≠ t.k
  · rw [if_pos hs, if_pos ⟨by trivial, hs⟩]
  · rw [if_neg hs, if_neg (fun h => hs h.2), if_neg (fun h => h rfl), ofC_with]
    simp [Val.core, knownV]
/-- What a cast of types makes of a value of the one. -/
theorem chg_ty {c : Option Ca} {v : Val} {S T : Ty} (hc : tyC c S T) (hv : tyV v S) : ((chg c v).1.k = 0 → tyV (chg c v).2 T) ∧ ((chg c v).1.k = 0 ∨ (chg c v).1.k = 4) := by
  have hw : ∀ d, c = some d → d.opens = true → d.wrong.k ≠ 0 := fun d hd ho => by rw [hd] at hc; rw [tyC_opens hc ho]; omega
  have h1 := changeS_chg (s := ⟨[], [], 0, 0, out0⟩) (v := v) hw
  rcases change_ty (s := ⟨[], [], 0, 0, out0⟩) hc hv with ⟨u, hu, tu⟩ | ⟨o, ho, o4⟩
  · rw [hu] at h1
    by_cases h0 : (chg c v).1.k = 0
    · rw [if_pos h0] at h1
      have : u = (chg c v).2 := by
        have := congrArg St.vs h1
        simpa [St.push] using this
      exact ⟨fun _ => this ▸ tu, .inl h0⟩
    · rw [if_neg h0] at h1
      have := congrArg St.ended h1
      exact absurd (show (chg c v).1.k = 0 by rw [← show out0 = (chg c v).1 from this]; rfl) h0
  · rw [ho] at h1
    by_cases h0 : (chg c v).1.k = 0
    · rw [if_pos h0] at h1
      have := congrArg St.ended h1
      have h2 : o = out0 := this
      rw [h2] at o4
      cases o4
    · rw [if_neg h0] at h1
      have : o = (chg c v).1 := congrArg St.ended h1
      exact ⟨fun h => absurd h h0, .inr (this ▸ o4)⟩
/-! ### A function that is cast -/
theorem ApR.any {F : Nat} {f g : Val} {c : Nat} {r : Out} {V V' : Val} {c' : Nat} (h : ApR F f g c r V c') (hr : r.k ≠ 0) : ApR F f g c r V' c' := fun ts vs => ⟨fun h0 => absurd h0 hr, (h ts vs).bad⟩
theorem ApX.any {F : Nat} {f g : Val} {B : Ty} {c : Nat} {r : Out} {V V' : Val} {c' : Nat} (h : ApX F f g B c r V c') (hr : r.k ≠ 0) : ApX F f g B c r V' c' := by
  rcases h with ⟨h1, h2, _⟩ | ⟨h1, h2, h3, h4, h5⟩
  · exact .inl ⟨h1, h2.any hr, fun h => absurd h hr⟩
  · refine .inr ⟨h1, h2, h3, h4, ?_⟩
    rcases h5 with h5 | ⟨h6, B0, r1, U, h7, h8, h9, h10⟩
    · exact .inl h5
    · refine .inr ⟨h6, B0, r1, U, h7, h8, h9, ?_⟩
      rcases h10 with h | ⟨h, h', _⟩
      · exact .inl h
      · exact .inr ⟨h, h', fun h0 => absurd h0 hr⟩
theorem withV_none (U : Val) : withV U none none = U := by unfold withV; rw [if_neg (by simp)]
theorem withV_or (U : Val) (g a : Option Ca) : (g = none ∧ a = none ∧ withV U g a = U) ∨ withV U g a = (if U.k = 4 then chapV U.core (thenC g U.given) (thenC U.answer a) else chapV U g a) := by
  by_cases h : g.isSome = true ∨ a.isSome = true
  · right
    unfold withV
    rw [if_pos h]
  · left
    have e1 : g = none := by cases g with
      | none => rfl
      | some _ => exact absurd (.inl rfl) h
    have e2 : a = none := by cases a with
      | none => rfl
      | some _ => exact absurd (.inr rfl) h
    subst e1 e2
    exact ⟨rfl, rfl, withV_none U⟩
/-- What is handed in is refused. -/
theorem ap_prox1 {F : Nat} {U X V : Val} {g a : Option Ca} {f0 f1 t0 t1 : Ty} {c : Nat} (hU : tyV U (funY f0 f1)) (hg : tyC g t0 f0) (ha : tyC a f1 t1) (hX : tyV X t0) (h1 : (chg g X).1.k ≠ 0) : ApX F (withV U g a) X t1 c (chg g X).1 V c := by
  rcases withV_or U g a with ⟨rfl, _, _⟩ | e
  · exact absurd rfl h1
  rw [e]
  rcases tyV_fun hU with ⟨k3, _⟩ | ⟨k4, _, hc3, A0, B0, _, hfg, hfa⟩
  · rw [if_neg (by omega)]
    exact .inr ⟨rfl, k3, ⟨_, _, hg⟩, ⟨_, ha⟩, .inl ⟨h1, rfl, rfl⟩⟩
  · rw [if_pos k4]
    have ht := (chg_then hg hfg hX).1 h1
    refine .inr ⟨rfl, hc3, ⟨_, _, tyC_thens hg hfg⟩, ⟨_, tyC_thens hfa ha⟩, .inl ⟨?_, ?_, rfl⟩⟩
    · show (chg (thenC g U.given) X).1.k ≠ 0
      rw [ht]; exact h1
    · show (chg g X).1 = (chg (thenC g U.given) X).1
      rw [ht]
/-- The call within ends the run. -/
theorem ap_prox2 {F : Nat} {U X V Z : Val} {g a : Option Ca} {f0 f1 t0 t1 : Ty} {c c2 : Nat} {r2 : Out} (hU : tyV U (funY f0 f1)) (hg : tyC g t0 f0) (ha : tyC a f1 t1) (hX : tyV X t0) (h1 : (chg g X).1.k = 0) (h2 : ApX F U (chg g X).2 f1 c r2 Z c2) (hr : r2.k ≠ 0) : ApX F (withV U g a) X t1 c r2 V c2 := by
  rcases withV_or U g a with ⟨rfl, rfl, e⟩ | e
  · rw [e, ← tyC_none.1 ha]
    exact h2.any hr
  rw [e]
  rcases h2 with ⟨k3, h3, h4⟩ | ⟨k4, hc3, ⟨A, A0, _⟩, _, h5⟩
  · rw [if_neg (by omega)]
    exact .inr ⟨rfl, k3, ⟨_, _, hg⟩, ⟨_, ha⟩, .inr ⟨h1, f1, r2, Z, ha, h3, h4, .inl ⟨hr, rfl⟩⟩⟩
  · rw [if_pos k4]
    rcases tyV_fun hU with ⟨k3, _⟩ | ⟨_, _, _, A0, B0, _, hfg, hfa⟩
    · omega
    obtain ⟨ht1, ht2⟩ := (chg_then hg hfg hX).2 h1
    refine .inr ⟨rfl, hc3, ⟨_, _, tyC_thens hg hfg⟩, ⟨_, tyC_thens hfa ha⟩, ?_⟩
    show ((chg (thenC g U.given) X).1.k ≠ 0 ∧ r2 = (chg (thenC g U.given) X).1 ∧ c2 = c) ∨ ((chg (thenC g U.given) X).1.k = 0 ∧ ∃ (B0 : Ty) (r1 : Out) (W : Val), tyC (thenC U.answer a) B0 t1 ∧ ApR F U.core (chg (thenC g U.given) X).2 c r1 W c2 ∧ (r1.k = 0 → tyV W B0) ∧ ((r1.k ≠ 0 ∧ r2 = r1) ∨ (r1.k = 0 ∧ r2 = (chg (thenC U.answer a) W).1 ∧ (r2.k = 0 → eqV V (chg (thenC U.answer a) W).2))))
    rw [ht1]
    rcases h5 with ⟨h6, h7, h8⟩ | ⟨h6, B1, r1, W, h7, h8, h9, h10⟩
    · exact .inl ⟨h6, h7, h8⟩
    · refine .inr ⟨h6, B1, r1, W, tyC_thens h7 ha, h8.congr (eqV.refl _) (ht2 (by rw [ht1]; exact h6)) (eqV.refl _), h9, ?_⟩
      rcases h10 with h | ⟨h, h', _⟩
      · exact .inl h
      · refine .inr ⟨h, ?_, fun h0 => absurd h0 hr⟩
        rw [(chg_then h7 ha (h9 h)).1 (by rw [← h']; exact hr)]
        exact h'
/-- The call within comes to a value, and that is cast. -/
theorem ap_prox3 {F : Nat} {U X Z : Val} {g a : Option Ca} {f0 f1 t0 t1 : Ty} {c c2 : Nat} (hU : tyV U (funY f0 f1)) (hg : tyC g t0 f0) (ha : tyC a f1 t1) (hX : tyV X t0) (h1 : (chg g X).1.k = 0) (h2 : ApX F U (chg g X).2 f1 c out0 Z c2) : ApX F (withV U g a) X t1 c (chg a Z).1 (chg a Z).2 c2 := by
  rcases withV_or U g a with ⟨rfl, rfl, e⟩ | e
  · rw [e, ← tyC_none.1 ha]
    exact h2
  rw [e]
  rcases h2 with ⟨k3, h3, h4⟩ | ⟨k4, hc3, ⟨A, A0, _⟩, _, h5⟩
  · rw [if_neg (by omega)]
    exact .inr ⟨rfl, k3, ⟨_, _, hg⟩, ⟨_, ha⟩, .inr ⟨h1, f1, out0, Z, ha, h3, h4, .inr ⟨rfl, rfl, fun _ => eqV.refl _⟩⟩⟩
  · rw [if_pos k4]
    rcases tyV_fun hU with ⟨k3, _⟩ | ⟨_, _, _, A0, B0, _, hfg, hfa⟩
    · omega
    obtain ⟨ht1, ht2⟩ := (chg_then hg hfg hX).2 h1
    refine .inr ⟨rfl, hc3, ⟨_, _, tyC_thens hg hfg⟩, ⟨_, tyC_thens hfa ha⟩, .inr ?_⟩
    show (chg (thenC g U.given) X).1.k = 0 ∧ ∃ (B0 : Ty) (r1 : Out) (W : Val), tyC (thenC U.answer a) B0 t1 ∧ ApR F U.core (chg (thenC g U.given) X).2 c r1 W c2 ∧ (r1.k = 0 → tyV W B0) ∧ ((r1.k ≠ 0 ∧ (chg a Z).1 = r1) ∨ (r1.k = 0 ∧ (chg a Z).1 = (chg (thenC U.answer a) W).1 ∧ ((chg a Z).1.k = 0 → eqV (chg a Z).2 (chg (thenC U.answer a) W).2)))
    rw [ht1]
    rcases h5 with ⟨h6, h7, _⟩ | ⟨h6, B1, r1, W, h7, h8, h9, h10⟩
    · exact absurd (by rw [← h7]; rfl) h6
    · refine ⟨h6, B1, r1, W, tyC_thens h7 ha, h8.congr (eqV.refl _) (ht2 (by rw [ht1]; exact h6)) (eqV.refl _), h9, ?_⟩
      rcases h10 with ⟨h, h'⟩ | ⟨h, h', h''⟩
      · exact absurd (by rw [← h']; rfl) h
      · obtain ⟨h11, h12⟩ := (chg_then h7 ha (h9 h)).2 (by rw [← h']; rfl)
        obtain ⟨h13, h14⟩ := chg_congr (eqC.refl a) (h'' rfl)
        refine .inr ⟨h, by rw [h11, h13], fun h0 => ?_⟩
        exact (h14 h0).trans (h12 (by rw [h11, ← h13]; exact h0)).symm
end Go.Proofs.YtnddkmccagiclabGreatDoor

/-
  What the calls of (*later).put, (*later).empty and (*later).take do to a list of pairs that lies behind a pointer.
-/
namespace Go.Proofs.YtnddkmccagiclabGreatDoor
open Go.RowKit
theorem Tryz.info141 : (Tryz.prog.info? 141).map (fun i => (i.zero, i.size, i.bytes)) = some (some (.agg #[.int .i64 0, .slice none 0 0, .int .i64 0, .slice none 0 0, .pointer none]), 5, 72) := by kernel_rfl
/-- But for block r and one row the memory is as it was. -/
structure Kept (r : Nat) (o : Option Nat) (w w' : World) : Prop where
  os : w'.os = w.os
  tape : w'.tape = w.tape
  output : w'.output = w.output
  size : w.heap.size ≤ w'.heap.size
  block : ∀ k, k < w.heap.size → k ≠ r → some k ≠ o → w'.heap[k]? = w.heap[k]?
theorem Kept.below {r : Nat} {o : Option Nat} {w w' : World} (h : Kept r o w w') (ho : ∀ g, o = some g → r ≤ g) (hr : r ≤ w.heap.size) : Below r w w' :=
  ⟨h.os, h.tape, h.output, h.size, fun k hk => h.block k (by omega) (by omega) (fun e => by have := ho k e.symm; omega)⟩
theorem put_end {r : Nat} {v : Value} {n : Nat} {ys : List Value} {w w1 : World} {X : Obj} {g cap : Nat} (hgrow : (((w.alloc X).alloc X).drew).grownBy w1 v.ownBlock) (hown : w1.ownsRow (r + 1) 141 5 (.slice (some ⟨g, 0, none⟩) (n + 1) cap) (n + 1) ys)
    (hat : v.ownBlock = some g ∨ g = w.heap.size + 2) (hcr : w1.cell? ⟨r, 0, none⟩ = some v) (hfr : w1.frozen? ⟨r, 0, none⟩ = false) :
    ∃ g' cap', (w1.setCell ⟨r, 0, none⟩ (.slice (some ⟨g, 0, none⟩) (n + 1) cap)).cell? ⟨r, 0, none⟩ = some (.slice (some ⟨g', 0, none⟩) (n + 1) cap') ∧ (w1.setCell ⟨r, 0, none⟩ (.slice (some ⟨g, 0, none⟩) (n + 1) cap)).frozen? ⟨r, 0, none⟩ = false ∧
      (w1.setCell ⟨r, 0, none⟩ (.slice (some ⟨g, 0, none⟩) (n + 1) cap)).ownsRow (r + 1) 141 5 (.slice (some ⟨g', 0, none⟩) (n + 1) cap') (n + 1) ys ∧ (v.ownBlock = some g' ∨ w.heap.size ≤ g') ∧ Kept r v.ownBlock w (w1.setCell ⟨r, 0, none⟩ (.slice (some ⟨g, 0, none⟩) (n + 1) cap)) := by
  have hb : Below w.heap.size w ((w.alloc X).alloc X).drew := (((Below.refl _ _).alloc (Nat.le_refl _) _).alloc (by simp) _).drew
  refine ⟨g, cap, World.cell?_setCell_same _ _ _ hcr, by simpa using hfr, ownsRow_setCell_below hown (by simp) _, ?_, ?_⟩
  · rcases hat with h | h
    · exact .inl h
    · exact .inr (by omega)
  · have hs := hgrow.size
    have hsz : ((w.alloc X).alloc X).drew.heap.size = w.heap.size + 1 + 1 := by simp
    refine ⟨hgrow.os.trans hb.os, hgrow.tape.trans hb.tape, hgrow.output.trans hb.output, ?_, fun k hk h1 h2 => ?_⟩
    · rw [show (w1.setCell ⟨r, 0, none⟩ (.slice (some ⟨g, 0, none⟩) (n + 1) cap)).heap.size = w1.heap.size from by simp [World.setCell]]
      omega
    · rw [Below.heap_setCell _ _ _ _ h1, hgrow.block k (by omega) h2, hb.block k hk]
set_option maxHeartbeats 400000 in
theorem empty_any (r : Nat) (a : Option Addr) (n c : Nat) (w : World) (hv : w.cell? ⟨r, 0, none⟩ = some (.slice a n c)) :
    Calls Tryz.prog 77 #[.pointer (some ⟨r, 0, none⟩)] w fun e w' => e = .returned (.bool ((n : Int) == 0)) ∧ w' = w := by
  go_enter Tryz.func77, Tryz.ntmps77
  go_wp2_with fail
  go_ret
  exact ⟨rfl, rfl⟩
set_option maxHeartbeats 400000 in
theorem take_any (r g : Nat) (n c : Nat) (k k' : Int) (a a' : Option Addr) (m m' d d' : Nat) (p : Option Addr) (w : World) (hv : w.cell? ⟨r, 0, none⟩ = some (.slice (some ⟨g, 0, none⟩) (n + 1) c)) (hf : w.frozen? ⟨r, 0, none⟩ = false) (hc : n + 1 ≤ c) (hn : n ≤ 140737488355328)
    (h0 : w.cell? ⟨g, n * 5, none⟩ = some (.int .i64 k)) (h1 : w.cell? ⟨g, n * 5 + 1, none⟩ = some (.slice a m d)) (h2 : w.cell? ⟨g, n * 5 + 2, none⟩ = some (.int .i64 k')) (h3 : w.cell? ⟨g, n * 5 + 3, none⟩ = some (.slice a' m' d')) (h4 : w.cell? ⟨g, n * 5 + 4, none⟩ = some (.pointer p)) :
    Calls Tryz.prog 78 #[.pointer (some ⟨r, 0, none⟩)] w fun e w' => e = .returned (.agg #[.int .i64 k, .slice a m d, .int .i64 k', .slice a' m' d', .pointer p]) ∧
      w' = ((w.setCell ⟨r, 0, none⟩ (.slice (some ⟨g, 0, none⟩) n c)).alloc (.cells #[.int .i64 k, .slice a m d, .int .i64 k', .slice a' m' d', .pointer p] 141)).alloc (.cells #[.int .i64 k, .slice a m d, .int .i64 k', .slice a' m' d', .pointer p] 141) := by
  have lr : r < w.heap.size := World.block_lt_of_cell? _ _ hv
  have lg : g < w.heap.size := World.block_lt_of_cell? _ _ h0
  go_enter Tryz.func78, Tryz.ntmps78
  go_wp2_with fail
  exact bodyPost_ret (v := .agg #[.int .i64 k, .slice a m d, .int .i64 k', .slice a' m' d', .pointer p]) (by simp [results, Tryz.results78, go_sem]) rfl ⟨rfl, rfl⟩
set_option maxHeartbeats 1000000 in
theorem put_any (r : Nat) (v : Value) (n : Nat) (xs : List Value) (k k' : Int) (a a' : Option Addr) (m m' d d' : Nat) (p : Option Addr) (w : World) (hv : w.cell? ⟨r, 0, none⟩ = some v) (hf : w.frozen? ⟨r, 0, none⟩ = false) (hown : w.ownsRow (r + 1) 141 5 v n xs) (hn : n + 1 ≤ 1000000000) :
    Calls Tryz.prog 76 #[.pointer (some ⟨r, 0, none⟩), .agg #[.int .i64 k, .slice a m d, .int .i64 k', .slice a' m' d', .pointer p]] w fun e w' => e = .returned (.tuple #[]) ∧
      ∃ g cap, w'.cell? ⟨r, 0, none⟩ = some (.slice (some ⟨g, 0, none⟩) (n + 1) cap) ∧ w'.frozen? ⟨r, 0, none⟩ = false ∧ w'.ownsRow (r + 1) 141 5 (.slice (some ⟨g, 0, none⟩) (n + 1) cap) (n + 1) (xs ++ [.int .i64 k, .slice a m d, .int .i64 k', .slice a' m' d', .pointer p]) ∧ (v.ownBlock = some g ∨ w.heap.size ≤ g) ∧ Kept r v.ownBlock w w' := by
  have lr : r < w.heap.size := World.block_lt_of_cell? _ _ hv
  obtain ⟨i0, hi0, hz0, hz1, hz2⟩ := info_parts Tryz.info141
  have hnr : v.ownBlock ≠ some r := by
    rcases hown.2 with ⟨rfl, _⟩ | ⟨g, cap, cur, rfl, hg, _⟩
    · simp [Value.ownBlock]
    · simp only [Value.ownBlock, ne_eq, Option.some.injEq]; omega
  have hnw : v.ownBlock ≠ some w.heap.size := by
    rcases hown.2 with ⟨rfl, _⟩ | ⟨g, cap, cur, rfl, hg, hb, _⟩
    · simp [Value.ownBlock]
    · have : g < w.heap.size := by
        rcases Nat.lt_or_ge g w.heap.size with hlt | hge
        · exact hlt
        · rw [Array.getElem?_eq_none hge] at hb; cases hb
      simp only [Value.ownBlock, ne_eq, Option.some.injEq]; omega
  have hfz2 : ((w.alloc (.cells #[.int .i64 k, .slice a m d, .int .i64 k', .slice a' m' d', .pointer p] 141)).alloc (.cells #[.int .i64 k, .slice a m d, .int .i64 k', .slice a' m' d', .pointer p] 141)).drew.frozen? ⟨r, 0, none⟩ = false := by
    have hb : Below w.heap.size w ((w.alloc (.cells #[.int .i64 k, .slice a m d, .int .i64 k', .slice a' m' d', .pointer p] 141)).alloc (.cells #[.int .i64 k, .slice a m d, .int .i64 k', .slice a' m' d', .pointer p] 141)).drew := (((Below.refl _ _).alloc (Nat.le_refl _) _).alloc (by simp) _).drew
    rw [hb.frozen (p := ⟨r, 0, none⟩) lr]; exact hf
  have hvz2 : ((w.alloc (.cells #[.int .i64 k, .slice a m d, .int .i64 k', .slice a' m' d', .pointer p] 141)).alloc (.cells #[.int .i64 k, .slice a m d, .int .i64 k', .slice a' m' d', .pointer p] 141)).drew.cell? ⟨r, 0, none⟩ = some v := by
    have hb : Below w.heap.size w ((w.alloc (.cells #[.int .i64 k, .slice a m d, .int .i64 k', .slice a' m' d', .pointer p] 141)).alloc (.cells #[.int .i64 k, .slice a m d, .int .i64 k', .slice a' m' d', .pointer p] 141)).drew := (((Below.refl _ _).alloc (Nat.le_refl _) _).alloc (by simp) _).drew
    exact cell_later hb hv
  have hblk : ((w.alloc (.cells #[.int .i64 k, .slice a m d, .int .i64 k', .slice a' m' d', .pointer p] 141)).alloc (.cells #[.int .i64 k, .slice a m d, .int .i64 k', .slice a' m' d', .pointer p] 141)).drew.heap[w.heap.size + 1]? = some (.cells #[.int .i64 k, .slice a m d, .int .i64 k', .slice a' m' d', .pointer p] 141) := by
    have h := heap_alloc_new (w.alloc (.cells #[.int .i64 k, .slice a m d, .int .i64 k', .slice a' m' d', .pointer p] 141)) (.cells #[.int .i64 k, .slice a m d, .int .i64 k', .slice a' m' d', .pointer p] 141)
    rw [World.size_alloc] at h
    exact h
  go_enter Tryz.func76, Tryz.ntmps76
  go_wp2_with fail
  go_region_law
    ((refine step_append_lies _ (by rfl) _ _ _ (by rfl) (r + 1) 141 i0 _ 5 72 Tryz.underlying135 hi0 hz0 hz1 hz2 rfl (by omega) v n xs (by rfl) (((hown.alloc _).alloc _).drew)
        ⟨w.heap.size + 1, 0, none⟩ 1 1 [.int .i64 k, .slice a m d, .int .i64 k', .slice a' m' d', .pointer p] (by rfl) (by rfl) (World.news_of_block (cs := #[.int .i64 k, .slice a m d, .int .i64 k', .slice a' m' d', .pointer p]) (t := 141) (fr := (0, 0)) hblk) (by simp [Value.oneCell'])
        (by omega) (by unfold maxLen; omega) (by omega) (by simp; omega) (w.heap.size + 2) (by simp) ?_; intro gg cap w1 hown1 hgrow hat hlt; have hfr : w1.frozen? ⟨r, 0, none⟩ = false := (by rw [hgrow.frozen_far _ (by simp; omega) (Ne.symm hnr)]; exact hfz2); have hcr : w1.cell? ⟨r, 0, none⟩ = some v := (by rw [hgrow.cell_far _ (by simp; omega) (Ne.symm hnr)]; exact hvz2)))
  all_goals
    go_end0
    exact ⟨rfl, put_end hgrow hown1 hat hcr hfr⟩
end Go.Proofs.YtnddkmccagiclabGreatDoor

/-
  Trees that stand for Go values of the type 'Term', with the addresses at which their lists lie, and what it means that such a tree lies in a world; no program in it.
-/
namespace Go.Proofs.YtnddkmccagiclabGreatDoor
open Go.RowKit
/-- A term: its kind, its number, its types, where its list lies, the list's capacity, its parts. -/
structure TT where
  k : Int
  n : Int
  t : Tr
  f : Tr
  a : Option Addr
  c : Nat
  l : List TT
theorem TT.ind {P : TT → Prop} (h : ∀ k n t f a c l, (∀ x, x ∈ l → P x) → P ⟨k, n, t, f, a, c, l⟩) : ∀ t, P t
  | ⟨k, n, t, f, a, c, l⟩ => h k n t f a c l fun x _ => TT.ind h x
def TT.tm : TT → Tm
  | ⟨k, n, t, f, _, _, l⟩ => ⟨k, n, t.ty, f.ty, l.map fun x => x.tm⟩
theorem TT.tm_mk (k n : Int) (t f : Tr) (a : Option Addr) (c : Nat) (l : List TT) : (TT.mk k n t f a c l).tm = ⟨k, n, t.ty, f.ty, l.map TT.tm⟩ := by
  rw [TT.tm]
theorem TT.tm_k (x : TT) : x.tm.k = x.k := by cases x; rw [TT.tm_mk]
theorem TT.tm_n (x : TT) : x.tm.n = x.n := by cases x; rw [TT.tm_mk]
theorem TT.tm_t (x : TT) : x.tm.t = x.t.ty := by cases x; rw [TT.tm_mk]
theorem TT.tm_f (x : TT) : x.tm.f = x.f.ty := by cases x; rw [TT.tm_mk]
theorem TT.tm_l (x : TT) : x.tm.l = x.l.map TT.tm := by cases x; rw [TT.tm_mk]
/-- The value. -/
def TT.ag (x : TT) : Value := .agg #[.int .i64 x.k, .int .i64 x.n, .int .i64 x.t.k, .slice x.t.a x.t.l.length x.t.c, .int .i64 x.f.k, .slice x.f.a x.f.l.length x.f.c, .slice x.a x.l.length x.c]
/-- Its seven cells lie there. -/
structure At7 (w : World) (b o : Nat) (x : TT) : Prop where
  c0 : w.cell? ⟨b, o, none⟩ = some (.int .i64 x.k)
  c1 : w.cell? ⟨b, o + 1, none⟩ = some (.int .i64 x.n)
  c2 : w.cell? ⟨b, o + 2, none⟩ = some (.int .i64 x.t.k)
  c3 : w.cell? ⟨b, o + 3, none⟩ = some (.slice x.t.a x.t.l.length x.t.c)
  c4 : w.cell? ⟨b, o + 4, none⟩ = some (.int .i64 x.f.k)
  c5 : w.cell? ⟨b, o + 5, none⟩ = some (.slice x.f.a x.f.l.length x.f.c)
  c6 : w.cell? ⟨b, o + 6, none⟩ = some (.slice x.a x.l.length x.c)
theorem At7.of {w w' : World} {b o : Nat} {x : TT} (h : At7 w b o x) (e : ∀ i, w'.cell? ⟨b, i, none⟩ = w.cell? ⟨b, i, none⟩) : At7 w' b o x :=
  ⟨(e _).trans h.c0, (e _).trans h.c1, (e _).trans h.c2, (e _).trans h.c3, (e _).trans h.c4, (e _).trans h.c5, (e _).trans h.c6⟩
theorem At7.lt {w : World} {b o : Nat} {x : TT} (h : At7 w b o x) : b < w.heap.size := World.block_lt_of_cell? _ _ h.c0
theorem At7.below {w w' : World} {b o : Nat} {x : TT} (hb : Below w.heap.size w w') (h : At7 w b o x) : At7 w' b o x :=
  h.of fun _ => hb.cell (p := ⟨b, _, none⟩) h.lt
/-- The term's types and its parts lie in the world. -/
def TT.In (w : World) : TT → Prop
  | ⟨_, _, t, f, a, _, l⟩ => t.In w ∧ f.In w ∧ (∀ j (h : j < l.length), ∃ b o, a = some ⟨b, o, none⟩ ∧ At7 w b (o + j * 7) l[j]) ∧ ∀ x, x ∈ l → x.In w
theorem TT.In_mk {w : World} {k n : Int} {t f : Tr} {a : Option Addr} {c : Nat} {l : List TT} : (TT.mk k n t f a c l).In w ↔ t.In w ∧ f.In w ∧ (∀ j (h : j < l.length), ∃ b o, a = some ⟨b, o, none⟩ ∧ At7 w b (o + j * 7) l[j]) ∧ ∀ x, x ∈ l → x.In w := by
  rw [TT.In]
theorem TT.In.t {w : World} {x : TT} (h : x.In w) : x.t.In w := by cases x; exact (TT.In_mk.1 h).1
theorem TT.In.f {w : World} {x : TT} (h : x.In w) : x.f.In w := by cases x; exact (TT.In_mk.1 h).2.1
/-- Part j: where it lies. -/
theorem TT.In.part {w : World} {x : TT} (h : x.In w) (j : Nat) (hj : j < x.l.length) : ∃ b o, x.a = some ⟨b, o, none⟩ ∧ At7 w b (o + j * 7) x.l[j] ∧ x.l[j].In w := by
  obtain ⟨k, n, t, f, a, c, l⟩ := x
  obtain ⟨_, _, hc, hi⟩ := TT.In_mk.1 h
  obtain ⟨b, o, e, c0⟩ := hc j hj
  exact ⟨b, o, e, c0, hi _ (List.getElem_mem hj)⟩
theorem TT.In.mem {w : World} {x y : TT} (h : x.In w) (hy : y ∈ x.l) : y.In w := by
  obtain ⟨k, n, t, f, a, c, l⟩ := x
  exact (TT.In_mk.1 h).2.2.2 y hy
theorem TT.In.below {w w' : World} (hb : Below w.heap.size w w') {x : TT} : x.In w → x.In w' := by
  induction x using TT.ind with
  | h k n t f a c l ih =>
    intro h
    obtain ⟨ht, hf, hc, hi⟩ := TT.In_mk.1 h
    refine TT.In_mk.2 ⟨ht.below hb, hf.below hb, fun j hj => ?_, fun x hx => ih x hx (hi x hx)⟩
    obtain ⟨b, o, e, c0⟩ := hc j hj
    exact ⟨b, o, e, c0.below hb⟩
/-- The blocks in which its types and parts lie are of this kind. -/
def TT.Bl (P : Nat → Prop) : TT → Prop
  | ⟨_, _, t, f, a, _, l⟩ => t.Bl P ∧ f.Bl P ∧ (l ≠ [] → ∀ x, a = some x → P x.block) ∧ ∀ x, x ∈ l → x.Bl P
theorem TT.Bl_mk {P : Nat → Prop} {k n : Int} {t f : Tr} {a : Option Addr} {c : Nat} {l : List TT} : (TT.mk k n t f a c l).Bl P ↔ t.Bl P ∧ f.Bl P ∧ (l ≠ [] → ∀ x, a = some x → P x.block) ∧ ∀ x, x ∈ l → x.Bl P := by
  rw [TT.Bl]
theorem TT.Bl.t {P : Nat → Prop} {x : TT} (h : x.Bl P) : x.t.Bl P := by cases x; exact (TT.Bl_mk.1 h).1
theorem TT.Bl.f {P : Nat → Prop} {x : TT} (h : x.Bl P) : x.f.Bl P := by cases x; exact (TT.Bl_mk.1 h).2.1
theorem TT.Bl.mem {P : Nat → Prop} {x y : TT} (h : x.Bl P) (hy : y ∈ x.l) : y.Bl P := by
  obtain ⟨k, n, t, f, a, c, l⟩ := x
  exact (TT.Bl_mk.1 h).2.2.2 y hy
theorem TT.Bl.own {P : Nat → Prop} {x : TT} (h : x.Bl P) (hl : x.l ≠ []) (y : Addr) (hy : x.a = some y) : P y.block := by
  obtain ⟨k, n, t, f, a, c, l⟩ := x
  exact (TT.Bl_mk.1 h).2.2.1 hl y hy
theorem TT.Bl.mono {P Q : Nat → Prop} (hPQ : ∀ b, P b → Q b) {x : TT} : x.Bl P → x.Bl Q := by
  induction x using TT.ind with
  | h k n t f a c l ih =>
    intro h
    obtain ⟨ht, hf, h1, h2⟩ := TT.Bl_mk.1 h
    exact TT.Bl_mk.2 ⟨ht.mono hPQ, hf.mono hPQ, fun hl x hx => hPQ _ (h1 hl x hx), fun x hx => ih x hx (h2 x hx)⟩
theorem TT.Bl.and {P Q : Nat → Prop} {x : TT} : x.Bl P → x.Bl Q → x.Bl (fun b => P b ∧ Q b) := by
  induction x using TT.ind with
  | h k n t f a c l ih =>
    intro h g
    obtain ⟨ht, hf, h1, h2⟩ := TT.Bl_mk.1 h
    obtain ⟨gt, gf, g1, g2⟩ := TT.Bl_mk.1 g
    exact TT.Bl_mk.2 ⟨ht.and gt, hf.and gf, fun hl x hx => ⟨h1 hl x hx, g1 hl x hx⟩, fun x hx => ih x hx (h2 x hx) (g2 x hx)⟩
theorem TT.In.bl {w : World} {x : TT} : x.In w → x.Bl (· < w.heap.size) := by
  induction x using TT.ind with
  | h k n t f a c l ih =>
    intro h
    obtain ⟨ht, hf, hc, hi⟩ := TT.In_mk.1 h
    refine TT.Bl_mk.2 ⟨ht.bl, hf.bl, fun hl x hx => ?_, fun x hx => ih x hx (hi x hx)⟩
    obtain ⟨b, o, e, c0⟩ := hc 0 (List.length_pos_iff.2 hl)
    rw [e] at hx
    have := Option.some.inj hx
    subst this
    exact c0.lt
/-- What lies in blocks that read as they did lies there still. -/
theorem TT.In.congr {w w' : World} {P : Nat → Prop} (hP : ∀ b, P b → ∀ o, w'.cell? ⟨b, o, none⟩ = w.cell? ⟨b, o, none⟩) {x : TT} : x.Bl P → x.In w → x.In w' := by
  induction x using TT.ind with
  | h k n t f a c l ih =>
    intro hb h
    obtain ⟨ht, hf, hc, hi⟩ := TT.In_mk.1 h
    obtain ⟨bt, bf, b1, b2⟩ := TT.Bl_mk.1 hb
    refine TT.In_mk.2 ⟨ht.congr hP bt, hf.congr hP bf, fun j hj => ?_, fun x hx => ih x hx (b2 x hx) (hi x hx)⟩
    obtain ⟨b, o, e, c0⟩ := hc j hj
    have hx : P b := b1 (fun e => by rw [e] at hj; simp at hj) _ e
    exact ⟨b, o, e, c0.of (hP b hx)⟩
theorem Tr.In.keptR {w w' : World} {R : Nat} {t : Tr} (h : t.In w) (hk : Kept R none w w') (hb : t.Bl (· ≠ R)) : t.In w' := by
  refine h.congr (P := fun b => b < w.heap.size ∧ b ≠ R) ?_ (h.bl.and hb)
  rintro b ⟨h1, h2⟩ o
  exact World.cell?_of_block (a := ⟨b, o, none⟩) (hk.block b h1 h2 (by simp))
theorem TT.In.keptR {w w' : World} {R : Nat} {x : TT} (h : x.In w) (hk : Kept R none w w') (hb : x.Bl (· ≠ R)) : x.In w' := by
  refine h.congr (P := fun b => b < w.heap.size ∧ b ≠ R) ?_ (h.bl.and hb)
  rintro b ⟨h1, h2⟩ o
  exact World.cell?_of_block (a := ⟨b, o, none⟩) (hk.block b h1 h2 (by simp))
theorem At7.keptR {w w' : World} {R b o : Nat} {x : TT} (h : At7 w b o x) (hk : Kept R none w w') (hb : b ≠ R) : At7 w' b o x :=
  h.of fun i => World.cell?_of_block (a := ⟨b, i, none⟩) (hk.block b h.lt hb (by simp))
/-- A term without parts and types. -/
def tleaf (k n : Int) : TT := ⟨k, n, ⟨0, none, 0, []⟩, ⟨0, none, 0, []⟩, none, 0, []⟩
theorem tleaf_in (k n : Int) (w : World) : (tleaf k n).In w := TT.In_mk.2 ⟨Tr.In_nil _ _ _ _, Tr.In_nil _ _ _ _, fun j h => absurd h (by simp), fun t h => absurd h (by simp)⟩
theorem tleaf_bl (k n : Int) (P : Nat → Prop) : (tleaf k n).Bl P := TT.Bl_mk.2 ⟨Tr.Bl_nil _ _ _ _, Tr.Bl_nil _ _ _ _, fun h => absurd rfl h, fun t h => absurd h (by simp)⟩
theorem tleaf_tm (k n : Int) : (tleaf k n).tm = ⟨k, n, anyY, anyY, []⟩ := by simp [tleaf, TT.tm_mk, Tr.ty_mk, anyY]
end Go.Proofs.YtnddkmccagiclabGreatDoor

/-
  A reader of words behind a pointer: what its state is, and what the calls of next, fail and want do to it; the package-level tables.
-/
namespace Go.Proofs.YtnddkmccagiclabGreatDoor
open Go.RowKit
theorem Kept.of_below {R : Nat} {o : Option Nat} {w w' : World} (h : Below w.heap.size w w') : Kept R o w w' :=
  ⟨h.os, h.tape, h.output, h.size, fun k hk _ _ => h.block k hk⟩
theorem Kept.trans {R : Nat} {w w1 w2 : World} (h : Kept R none w w1) (h' : Kept R none w1 w2) : Kept R none w w2 := by
  have hs := h.size
  exact ⟨h'.os.trans h.os, h'.tape.trans h.tape, h'.output.trans h.output, Nat.le_trans h.size h'.size, fun k hk h1 h2 => (h'.block k (by omega) h1 h2).trans (h.block k hk h1 h2)⟩
theorem Kept.cell {R : Nat} {w w' : World} (h : Kept R none w w') {b i : Nat} {v : Value} (hc : w.cell? ⟨b, i, none⟩ = some v) (h1 : b ≠ R) : w'.cell? ⟨b, i, none⟩ = some v :=
  (World.cell?_of_block (a := ⟨b, i, none⟩) (h.block b (World.block_lt_of_cell? _ _ hc) h1 (by simp))).trans hc
/-- Package-level variable g holds these cells. -/
def Vc (w : World) (g : Nat) (cs : Array Value) : Prop := ∃ t fr, w.heap[g]? = some (.cells cs t fr)
theorem Vc.cell {w : World} {g : Nat} {cs : Array Value} (h : Vc w g cs) (i : Nat) : w.cell? ⟨g, i, none⟩ = cs[i]? := by
  obtain ⟨t, fr, h⟩ := h
  rw [cell_of_row w g i cs t fr h]
/-- What the tables hold. -/
structure Gl (w : World) : Prop where
  tw : Vc w 1 #[.string ⟨#[110, 111]⟩, .string ⟨#[121, 101, 115]⟩]
  wd : Vc w 2 #[.string ⟨#[]⟩, .string ⟨#[]⟩, .string ⟨#[]⟩, .string ⟨#[]⟩, .string ⟨#[97, 100, 100]⟩, .string ⟨#[108, 101, 115, 115]⟩, .string ⟨#[105, 102]⟩, .string ⟨#[102, 117, 110]⟩, .string ⟨#[99, 97, 108, 108]⟩, .string ⟨#[97, 115]⟩]
  pt : Vc w 0 #[.int .i64 0, .int .i64 0, .int .i64 0, .int .i64 0, .int .i64 2, .int .i64 2, .int .i64 3, .int .i64 1, .int .i64 2, .int .i64 1]
  ty : Vc w 4 #[.string ⟨#[97, 110, 121]⟩, .string ⟨#[110, 117, 109]⟩, .string ⟨#[116, 114, 117, 116, 104]⟩]
  pw : Vc w 11 (Lib.pow10Tab.map fun z => Value.int .u64 z).toArray
  mx : ∃ m, Vc w 6 #[.int .i64 m]
  es : ∃ te pe, Vc w 9 #[.iface te pe]
  er : ∃ te pe, Vc w 10 #[.iface te pe]
theorem Vc.of {w w' : World} {g : Nat} {cs : Array Value} (h : Vc w g cs) (e : w'.heap[g]? = w.heap[g]?) : Vc w' g cs := by
  obtain ⟨t, fr, h⟩ := h
  exact ⟨t, fr, e.trans h⟩
theorem Vc.lt {w : World} {g : Nat} {cs : Array Value} (h : Vc w g cs) : g < w.heap.size := by
  obtain ⟨t, fr, h⟩ := h
  exact (Array.getElem?_eq_some_iff.1 h).1
theorem Gl.of {w w' : World} (h : Gl w) (e : ∀ g, g < 12 → w'.heap[g]? = w.heap[g]?) : Gl w' := by
  obtain ⟨m, hm⟩ := h.mx
  obtain ⟨a, b, hs⟩ := h.es
  obtain ⟨a', b', hr⟩ := h.er
  exact ⟨h.tw.of (e _ (by omega)), h.wd.of (e _ (by omega)), h.pt.of (e _ (by omega)), h.ty.of (e _ (by omega)), h.pw.of (e _ (by omega)), ⟨m, hm.of (e _ (by omega))⟩, ⟨a, b, hs.of (e _ (by omega))⟩, ⟨a', b', hr.of (e _ (by omega))⟩⟩
theorem Gl.size {w : World} (h : Gl w) : 12 ≤ w.heap.size := by
  exact h.pw.lt
theorem Gl.below {w w' : World} (h : Gl w) (hb : Below w.heap.size w w') : Gl w' :=
  h.of fun g hg => hb.block g (by have := h.size; omega)
theorem Gl.kept {w w' : World} {R : Nat} (h : Gl w) (hR : 12 ≤ R) (hb : Kept R none w w') : Gl w' :=
  h.of fun g hg => hb.block g (by have := h.size; omega) (by omega) (by simp)
/-- What the table of parts holds. -/
structure Gp (w : World) : Prop where
  pt : Vc w 0 #[.int .i64 0, .int .i64 0, .int .i64 0, .int .i64 0, .int .i64 2, .int .i64 2, .int .i64 3, .int .i64 1, .int .i64 2, .int .i64 1]
theorem Gl.gp {w : World} (h : Gl w) : Gp w := ⟨h.pt⟩
theorem Gp.size {w : World} (h : Gp w) : 1 ≤ w.heap.size := h.pt.lt
theorem Gp.below {w w' : World} (h : Gp w) (hb : Below w.heap.size w w') : Gp w' := ⟨h.pt.of (hb.block 0 h.pt.lt)⟩
theorem Gp.kept {w w' : World} {R : Nat} (h : Gp w) (hR : 1 ≤ R) (hb : Kept R none w w') : Gp w' := ⟨h.pt.of (hb.block 0 h.pt.lt (by omega) (by simp))⟩
/-- The words that are left, and whether something went wrong. -/
structure RS (R : Nat) (ws : List ByteArray) (b : Bool) (w : World) : Prop where
  l : ∃ a c, w.cell? ⟨R, 0, none⟩ = some (.slice a ws.length c) ∧ ws.length ≤ c ∧ (ws ≠ [] → ∃ A o, a = some ⟨A, o, none⟩ ∧ A < R ∧ ∀ (i : Nat) x, ws[i]? = some x → w.cell? ⟨A, o + i, none⟩ = some (.string x))
  b : w.cell? ⟨R, 1, none⟩ = some (.bool b)
  f0 : w.frozen? ⟨R, 0, none⟩ = false
  f1 : w.frozen? ⟨R, 1, none⟩ = false
  z : ws.length ≤ 1000000
theorem RS.lt {R : Nat} {ws : List ByteArray} {b : Bool} {w : World} (h : RS R ws b w) : R < w.heap.size := World.block_lt_of_cell? _ _ h.b
theorem RS.below {R : Nat} {ws : List ByteArray} {b : Bool} {w w' : World} (h : RS R ws b w) (hb : Below w.heap.size w w') : RS R ws b w' := by
  have hl := h.lt
  obtain ⟨⟨a, c, hc, hn, hw⟩, h1, h2, h3, hz⟩ := h
  refine ⟨⟨a, c, cell_later hb hc, hn, fun hne => ?_⟩, cell_later hb h1, (hb.frozen (p := ⟨R, 0, none⟩) hl).trans h2, (hb.frozen (p := ⟨R, 1, none⟩) hl).trans h3, hz⟩
  obtain ⟨A, o, ha, hA, hx⟩ := hw hne
  exact ⟨A, o, ha, hA, fun i x hi => cell_later hb (hx i x hi)⟩
theorem RS.set2 {R : Nat} {ws : List ByteArray} {b : Bool} {w : World} {k : Nat} {u v : Value} (h : RS R ws b w) (hk : R < k) : RS R ws b ((w.setCell ⟨k, 0, none⟩ u).setCell ⟨k, 1, none⟩ v) := by
  have hc : ∀ q i, q < k → ((w.setCell ⟨k, 0, none⟩ u).setCell ⟨k, 1, none⟩ v).cell? ⟨q, i, none⟩ = w.cell? ⟨q, i, none⟩ := by
    intro q i hq
    rw [World.cell?_setCell_other, World.cell?_setCell_other]
    · intro e; simp only [Addr.mk.injEq] at e; omega
    · intro e; simp only [Addr.mk.injEq] at e; omega
  obtain ⟨⟨a, c, h0, hn, hw⟩, h1, h2, h3, hz⟩ := h
  refine ⟨⟨a, c, (hc _ _ hk).trans h0, hn, fun hne => ?_⟩, (hc _ _ hk).trans h1, by rw [World.frozen?_setCell, World.frozen?_setCell]; exact h2, by rw [World.frozen?_setCell, World.frozen?_setCell]; exact h3, hz⟩
  obtain ⟨A, o, ha, hA, hx⟩ := hw hne
  exact ⟨A, o, ha, hA, fun i x hi => (hc _ _ (by omega)).trans (hx i x hi)⟩
theorem setR_kept {w : World} {R i : Nat} {v : Value} : Kept R none w (w.setCell ⟨R, i, none⟩ v) :=
  ⟨rfl, rfl, rfl, by simp [World.setCell], fun _ _ h1 _ => Below.heap_setCell _ _ _ _ h1⟩
set_option maxHeartbeats 400000 in
/-- (*reader).fail. -/
theorem fail_any (R : Nat) (ws : List ByteArray) (b : Bool) (w : World) (h : RS R ws b w) :
    Calls Tryz.prog 83 #[.pointer (some ⟨R, 0, none⟩)] w fun e w' => e = .returned (.tuple #[]) ∧ RS R [] true w' ∧ Kept R none w w' := by
  obtain ⟨⟨a, c, hc, _, _⟩, h1, h2, h3, _⟩ := h
  go_enter Tryz.func83, Tryz.ntmps83
  go_wp2_with fail
  go_end0
  have hne : (⟨R, 0, none⟩ : Addr) ≠ ⟨R, 1, none⟩ := by simp
  refine ⟨rfl, ⟨⟨none, 0, ?_, Nat.le_refl _, fun h => absurd rfl h⟩, ?_, ?_, ?_, by simp⟩, setR_kept.trans setR_kept⟩
  · refine World.cell?_setCell_same _ _ _ (u := .slice a ws.length c) ?_
    rw [World.cell?_setCell_other _ _ _ _ (Ne.symm hne)]
    exact hc
  · rw [World.cell?_setCell_other _ _ _ _ hne]
    exact World.cell?_setCell_same _ _ _ h1
  · rw [World.frozen?_setCell, World.frozen?_setCell]
    exact h2
  · rw [World.frozen?_setCell, World.frozen?_setCell]
    exact h3
set_option maxHeartbeats 400000 in
/-- (*reader).next where no word is left. -/
theorem next_nil (R : Nat) (b : Bool) (w : World) (h : RS R [] b w) :
    Calls Tryz.prog 51 #[.pointer (some ⟨R, 0, none⟩)] w fun e w' => e = .returned (.string ⟨#[]⟩) ∧ RS R [] true w' ∧ Kept R none w w' := by
  have HF : Hid (Calls Tryz.prog 83 #[.pointer (some ⟨R, 0, none⟩)] w fun e w' => e = .returned (.tuple #[]) ∧ RS R [] true w' ∧ Kept R none w w') := fail_any R [] b w h
  obtain ⟨⟨a, c, hc, _, _⟩, h1, h2, h3, _⟩ := h
  go_enter Tryz.func51, Tryz.ntmps51
  go_wp2_with fail
  refine HF.out.mono ?_
  rintro e w1 ⟨rfl, hr, hk⟩
  have HR : Hid (RS R [] true w1 ∧ Kept R none w w1) := ⟨hr, hk⟩
  clear hr hk HF
  go_wp2_with fail
  go_ret
  exact ⟨rfl, HR.out.1, HR.out.2⟩
set_option maxHeartbeats 400000 in
/-- (*reader).next where a word is left. -/
theorem next_cons (R : Nat) (x : ByteArray) (r : List ByteArray) (b : Bool) (w : World) (h : RS R (x :: r) b w) :
    Calls Tryz.prog 51 #[.pointer (some ⟨R, 0, none⟩)] w fun e w' => e = .returned (.string x) ∧ RS R r b w' ∧ Kept R none w w' := by
  obtain ⟨⟨a, c, hc, hn, hw⟩, h1, h2, h3, hz⟩ := h
  obtain ⟨A, o, rfl, hA, hx⟩ := hw (by simp)
  have x0 := hx 0 x (by simp)
  simp only [Nat.add_zero] at x0
  simp only [List.length_cons] at hc hn hz
  have e0 : (((r.length + 1 : Nat) : Int) == 0) = false := by simp; omega
  have i1 : (0 : Int) < ((r.length : Int) + 1) := by omega
  have i2 : (1 : Int) ≤ ((r.length : Int) + 1) := by omega
  have HX : Hid (∀ (i : Nat) y, (x :: r)[i]? = some y → w.cell? ⟨A, o + i, none⟩ = some (.string y)) := hx
  clear hx hw
  go_enter Tryz.func51, Tryz.ntmps51
  go_wp2_with fail
  all_goals go_ret
  all_goals
    refine ⟨rfl, ⟨⟨_, _, World.cell?_setCell_same _ _ _ hc, by omega, fun hne => ?_⟩, ?_, by rw [World.frozen?_setCell]; exact h2, by rw [World.frozen?_setCell]; exact h3, by omega⟩, setR_kept⟩
    rotate_left
    · rw [World.cell?_setCell_other _ _ _ _ (by simp)]
      exact h1
  · exact absurd (List.length_eq_zero_iff.1 (by omega)) hne
  · refine ⟨A, o + 1, rfl, hA, fun i y hi => ?_⟩
    rw [World.cell?_setCell_other]
    · rw [show o + 1 + i = o + (i + 1) by omega]
      exact HX.out (i + 1) y (by simpa using hi)
    · intro e; simp only [Addr.mk.injEq] at e; omega
set_option maxHeartbeats 400000 in
theorem want_walk (R : Nat) (x word : ByteArray) (r : List ByteArray) (b : Bool) (w : World) (h : RS R (x :: r) b w) :
    Calls Tryz.prog 87 #[.pointer (some ⟨R, 0, none⟩), .string word] w fun e w' => e = .returned (.tuple #[]) ∧ ((x = word ∧ RS R r b w') ∨ (x ≠ word ∧ RS R [] true w')) ∧ Kept R none w w' := by
  have HN : Hid (Calls Tryz.prog 51 #[.pointer (some ⟨R, 0, none⟩)] w fun e w' => e = .returned (.string x) ∧ RS R r b w' ∧ Kept R none w w') := next_cons R x r b w h
  clear h
  by_cases hx : x = word
  · subst hx
    go_enter Tryz.func87, Tryz.ntmps87
    go_wp2_with fail
    refine HN.out.mono ?_
    rintro e w1 ⟨rfl, hr, hk⟩
    have HR : Hid (RS R r b w1 ∧ Kept R none w w1) := ⟨hr, hk⟩
    clear hr hk HN
    go_wp2_with fail
    go_end0
    exact ⟨rfl, .inl ⟨trivial, HR.out.1⟩, HR.out.2⟩
  · have hb : (x.toList == word.toList) = false := (Lib.bytes_beq_false_iff _ _).2 hx
    have hb2 : (!x.toList == word.toList) = true := by rw [hb]; rfl
    have HX : Hid (x ≠ word) := hx
    clear hx
    go_enter Tryz.func87, Tryz.ntmps87
    go_wp2_with fail
    refine HN.out.mono ?_
    rintro e w1 ⟨rfl, hr, hk⟩
    have HF : Hid (Calls Tryz.prog 83 #[.pointer (some ⟨R, 0, none⟩)] w1 fun e w' => e = .returned (.tuple #[]) ∧ RS R [] true w' ∧ Kept R none w1 w') := fail_any R r b w1 hr
    have HK : Hid (Kept R none w w1) := hk
    clear hr hk HN
    go_wp2_with fail
    refine HF.out.mono ?_
    rintro e w2 ⟨rfl, hr, hk⟩
    have HR : Hid (RS R [] true w2 ∧ Kept R none w w2) := ⟨hr, HK.out.trans hk⟩
    clear hr hk HF HK
    go_wp2_with fail
    go_end0
    exact ⟨rfl, .inr ⟨HX.out, HR.out.1⟩, HR.out.2⟩
set_option maxHeartbeats 400000 in
theorem want_nil (R : Nat) (word : ByteArray) (hw : (⟨#[]⟩ : ByteArray) ≠ word) (b : Bool) (w : World) (h : RS R [] b w) :
    Calls Tryz.prog 87 #[.pointer (some ⟨R, 0, none⟩), .string word] w fun e w' => e = .returned (.tuple #[]) ∧ RS R [] true w' ∧ Kept R none w w' := by
  have HN : Hid (Calls Tryz.prog 51 #[.pointer (some ⟨R, 0, none⟩)] w fun e w' => e = .returned (.string ⟨#[]⟩) ∧ RS R [] true w' ∧ Kept R none w w') := next_nil R b w h
  have hb : ((⟨#[]⟩ : ByteArray).toList == word.toList) = false := (Lib.bytes_beq_false_iff _ _).2 hw
  have he : (⟨#[]⟩ : ByteArray).toList = [] := by rw [Lib.toList_data]
  have hb3 : (!word.toList.isEmpty) = true := by
    rw [he] at hb
    cases hl : word.toList with
    | nil => rw [hl] at hb; simp at hb
    | cons _ _ => rfl
  clear h hw hb he
  go_enter Tryz.func87, Tryz.ntmps87
  go_wp2_with fail
  refine HN.out.mono ?_
  rintro e w1 ⟨rfl, hr, hk⟩
  have HF : Hid (Calls Tryz.prog 83 #[.pointer (some ⟨R, 0, none⟩)] w1 fun e w' => e = .returned (.tuple #[]) ∧ RS R [] true w' ∧ Kept R none w1 w') := fail_any R [] true w1 hr
  have HK : Hid (Kept R none w w1) := hk
  clear hr hk HN
  go_wp2_with fail
  refine HF.out.mono ?_
  rintro e w2 ⟨rfl, hr, hk⟩
  have HR : Hid (RS R [] true w2 ∧ Kept R none w w2) := ⟨hr, HK.out.trans hk⟩
  clear hr hk HF HK
  go_wp2_with fail
  go_end0
  exact ⟨rfl, HR.out.1, HR.out.2⟩
end Go.Proofs.YtnddkmccagiclabGreatDoor

/-
  A box of a term's seven cells; a row of terms that a call makes longer; no program's run in it.
-/
namespace Go.Proofs.YtnddkmccagiclabGreatDoor
open Go.RowKit
theorem Kept.fz {R : Nat} {w w' : World} (h : Kept R none w w') {b i : Nat} (hf : w.frozen? ⟨b, i, none⟩ = false) (hl : b < w.heap.size) (hb : b ≠ R) : w'.frozen? ⟨b, i, none⟩ = false :=
  (World.frozen?_of_block (a := ⟨b, i, none⟩) (h.block b hl hb (by simp))).trans hf
theorem Kept.refl {R : Nat} {w : World} : Kept R none w w := ⟨rfl, rfl, rfl, Nat.le_refl _, fun _ _ _ _ => rfl⟩
/-- A store into a block that is new. -/
theorem Kept.new {R k : Nat} {w w' w'' : World} (h : Kept R none w w') (hk : Kept k none w' w'') (hn : w.heap.size ≤ k) : Kept R none w w'' :=
  ⟨hk.os.trans h.os, hk.tape.trans h.tape, hk.output.trans h.output, Nat.le_trans h.size hk.size, fun q hq h1 h2 => (hk.block q (by have := h.size; omega) (by omega) h2).trans (h.block q hq h1 h2)⟩
theorem RS.new {R k : Nat} {ws : List ByteArray} {b : Bool} {w w' : World} (h : RS R ws b w) (hk : Kept k none w w') (hR : R < k) : RS R ws b w' := by
  have hl := h.lt
  obtain ⟨⟨a, c, hc, hn, hw⟩, h1, h2, h3, hz⟩ := h
  refine ⟨⟨a, c, hk.cell hc (by omega), hn, fun hne => ?_⟩, hk.cell h1 (by omega), hk.fz h2 hl (by omega), hk.fz h3 hl (by omega), hz⟩
  obtain ⟨A, o, ha, hA, hx⟩ := hw hne
  exact ⟨A, o, ha, hA, fun i x hi => hk.cell (hx i x hi) (by omega)⟩
/-- Seven cells that may be written. -/
structure Box7 (w : World) (J : Nat) (x : TT) : Prop where
  at7 : At7 w J 0 x
  fz : ∀ i, i < 7 → w.frozen? ⟨J, i, none⟩ = false
theorem Box7.lt {w : World} {J : Nat} {x : TT} (h : Box7 w J x) : J < w.heap.size := h.at7.lt
theorem Box7.kept {R J : Nat} {w w' : World} {x : TT} (h : Box7 w J x) (hk : Kept R none w w') (hJ : J ≠ R) : Box7 w' J x :=
  ⟨h.at7.keptR hk hJ, fun i hi => hk.fz (h.fz i hi) h.lt hJ⟩
theorem Box7.below {J : Nat} {w w' : World} {x : TT} (h : Box7 w J x) (hb : Below w.heap.size w w') : Box7 w' J x :=
  ⟨h.at7.below hb, fun i hi => (hb.frozen (p := ⟨J, i, none⟩) h.lt).trans (h.fz i hi)⟩
theorem Box7.set6 {w : World} {J : Nat} {x : TT} {a' : Option Addr} {c' : Nat} {l' : List TT} (h : Box7 w J x) : Box7 (w.setCell ⟨J, 6, none⟩ (.slice a' l'.length c')) J { x with a := a', c := c', l := l' } := by
  have h7 := h.at7
  refine ⟨⟨?_, ?_, ?_, ?_, ?_, ?_, ?_⟩, fun i hi => by rw [World.frozen?_setCell]; exact h.fz i hi⟩
  · rw [World.cell?_setCell_other _ _ _ _ (by simp)]; exact h7.c0
  · rw [World.cell?_setCell_other _ _ _ _ (by simp)]; exact h7.c1
  · rw [World.cell?_setCell_other _ _ _ _ (by simp)]; exact h7.c2
  · rw [World.cell?_setCell_other _ _ _ _ (by simp)]; exact h7.c3
  · rw [World.cell?_setCell_other _ _ _ _ (by simp)]; exact h7.c4
  · rw [World.cell?_setCell_other _ _ _ _ (by simp)]; exact h7.c5
  · exact World.cell?_setCell_same _ _ _ (by simpa using h7.c6)
theorem Box7.set23 {w : World} {J : Nat} {x : TT} {t : Tr} (h : Box7 w J x) : Box7 ((w.setCell ⟨J, 2, none⟩ (.int .i64 t.k)).setCell ⟨J, 3, none⟩ (.slice t.a t.l.length t.c)) J { x with t := t } := by
  have h7 := h.at7
  refine ⟨⟨?_, ?_, ?_, ?_, ?_, ?_, ?_⟩, fun i hi => by rw [World.frozen?_setCell, World.frozen?_setCell]; exact h.fz i hi⟩
  · rw [World.cell?_setCell_other _ _ _ _ (by simp), World.cell?_setCell_other _ _ _ _ (by simp)]; exact h7.c0
  · rw [World.cell?_setCell_other _ _ _ _ (by simp), World.cell?_setCell_other _ _ _ _ (by simp)]; exact h7.c1
  · rw [World.cell?_setCell_other _ _ _ _ (by simp)]; exact World.cell?_setCell_same _ _ _ (by simpa using h7.c2)
  · refine World.cell?_setCell_same _ _ _ (u := .slice x.t.a x.t.l.length x.t.c) ?_
    rw [World.cell?_setCell_other _ _ _ _ (by simp)]; simpa using h7.c3
  · rw [World.cell?_setCell_other _ _ _ _ (by simp), World.cell?_setCell_other _ _ _ _ (by simp)]; exact h7.c4
  · rw [World.cell?_setCell_other _ _ _ _ (by simp), World.cell?_setCell_other _ _ _ _ (by simp)]; exact h7.c5
  · rw [World.cell?_setCell_other _ _ _ _ (by simp), World.cell?_setCell_other _ _ _ _ (by simp)]; exact h7.c6
/-- All seven cells written. -/
def put7 (w : World) (J : Nat) (x : TT) : World :=
  ((((((w.setCell ⟨J, 0, none⟩ (.int .i64 x.k)).setCell ⟨J, 1, none⟩ (.int .i64 x.n)).setCell ⟨J, 2, none⟩ (.int .i64 x.t.k)).setCell ⟨J, 3, none⟩ (.slice x.t.a x.t.l.length x.t.c)).setCell ⟨J, 4, none⟩ (.int .i64 x.f.k)).setCell ⟨J, 5, none⟩ (.slice x.f.a x.f.l.length x.f.c)).setCell ⟨J, 6, none⟩ (.slice x.a x.l.length x.c)
theorem set_get {w : World} {J i j : Nat} {u v : Value} (h : w.cell? ⟨J, i, none⟩ = some u) : (w.setCell ⟨J, j, none⟩ v).cell? ⟨J, i, none⟩ = some (if i = j then v else u) := by
  by_cases e : i = j
  · subst e
    rw [if_pos rfl]
    exact World.cell?_setCell_same _ _ _ h
  · rw [if_neg e, World.cell?_setCell_other _ _ _ _ (by simp)]
    exact h
theorem put7_box {w : World} {J : Nat} {x y : TT} (h : Box7 w J y) : Box7 (put7 w J x) J x := by
  have h7 := h.at7
  have c0 := h7.c0
  have c1 := h7.c1
  have c2 := h7.c2
  have c3 := h7.c3
  have c4 := h7.c4
  have c5 := h7.c5
  have c6 := h7.c6
  simp only [Nat.zero_add] at c0 c1 c2 c3 c4 c5 c6
  have key : ∀ i u, w.cell? ⟨J, i, none⟩ = some u → (put7 w J x).cell? ⟨J, i, none⟩ = some (if i = 6 then .slice x.a x.l.length x.c else if i = 5 then .slice x.f.a x.f.l.length x.f.c else if i = 4 then .int .i64 x.f.k else if i = 3 then .slice x.t.a x.t.l.length x.t.c else if i = 2 then .int .i64 x.t.k else if i = 1 then .int .i64 x.n else if i = 0 then .int .i64 x.k else u) := by
    intro i u hu
    exact set_get (set_get (set_get (set_get (set_get (set_get (set_get hu))))))
  refine ⟨⟨?_, ?_, ?_, ?_, ?_, ?_, ?_⟩, fun i hi => ?_⟩
  · simpa using key 0 _ c0
  · simpa using key 1 _ c1
  · simpa using key 2 _ c2
  · simpa using key 3 _ c3
  · simpa using key 4 _ c4
  · simpa using key 5 _ c5
  · simpa using key 6 _ c6
  · simp only [put7, World.frozen?_setCell]
    exact h.fz i hi
theorem put7_kept {w : World} {J : Nat} {x : TT} : Kept J none w (put7 w J x) :=
  setR_kept.trans (setR_kept.trans (setR_kept.trans (setR_kept.trans (setR_kept.trans (setR_kept.trans setR_kept)))))
theorem set23_kept {w : World} {J : Nat} {u v : Value} : Kept J none w ((w.setCell ⟨J, 2, none⟩ u).setCell ⟨J, 3, none⟩ v) :=
  setR_kept.trans setR_kept
/-! ### A row of terms -/
def cells7 (cs : List TT) : List Value := cs.flatMap fun x => [.int .i64 x.k, .int .i64 x.n, .int .i64 x.t.k, .slice x.t.a x.t.l.length x.t.c, .int .i64 x.f.k, .slice x.f.a x.f.l.length x.f.c, .slice x.a x.l.length x.c]
theorem cells7_append (a b : List TT) : cells7 (a ++ b) = cells7 a ++ cells7 b := by simp [cells7]
theorem cells7_at : ∀ (l : List TT) (j : Nat) (h : j < l.length) (i : Nat), i < 7 → (cells7 l)[j * 7 + i]? = [Value.int .i64 l[j].k, .int .i64 l[j].n, .int .i64 l[j].t.k, .slice l[j].t.a l[j].t.l.length l[j].t.c, .int .i64 l[j].f.k, .slice l[j].f.a l[j].f.l.length l[j].f.c, .slice l[j].a l[j].l.length l[j].c][i]?
  | [], j, h, _, _ => by simp at h
  | x :: r, 0, _, i, hi => by
    obtain rfl | rfl | rfl | rfl | rfl | rfl | rfl : i = 0 ∨ i = 1 ∨ i = 2 ∨ i = 3 ∨ i = 4 ∨ i = 5 ∨ i = 6 := by omega
    all_goals simp [cells7]
  | x :: r, j + 1, h, i, hi => by
    have ih := cells7_at r j (by simpa using h) i hi
    have e : (j + 1) * 7 + i = (j * 7 + i) + 1 + 1 + 1 + 1 + 1 + 1 + 1 := by omega
    rw [e]
    simpa [cells7] using ih
/-- A list that the call makes: its row, and what lies in it. -/
structure Row (base : Nat) (v : Value) (cs : List TT) (w : World) : Prop where
  own : w.ownsRow base 27 7 v cs.length (cells7 cs)
  ins : ∀ c, c ∈ cs → c.In w ∧ c.Bl (fun b => base ≤ b ∧ some b ≠ v.ownBlock)
theorem Row.nil (base : Nat) (w : World) : Row base (.slice none 0 0) [] w := ⟨World.ownsRow_nil _ _ _ _, fun c h => by cases h⟩
theorem Row.kept {base R : Nat} {v : Value} {cs : List TT} {w w' : World} (h : Row base v cs w) (hk : Kept R none w w') (hR : R < base) : Row base v cs w' := by
  refine ⟨⟨h.own.1, ?_⟩, fun c hc => ⟨(h.ins c hc).1.keptR hk ((h.ins c hc).2.mono fun b hb => by omega), (h.ins c hc).2⟩⟩
  rcases h.own.2 with hn | ⟨g, cap, cur, hv, hb, hg, rest⟩
  · exact .inl hn
  · exact .inr ⟨g, cap, cur, hv, hb, (hk.block g (Array.getElem?_eq_some_iff.1 hg).1 (by omega) (by simp)).trans hg, rest⟩
theorem Row.below {base : Nat} {v : Value} {cs : List TT} {w w' : World} (h : Row base v cs w) (hb : Below w.heap.size w w') : Row base v cs w' := by
  refine ⟨⟨h.own.1, ?_⟩, fun c hc => ⟨(h.ins c hc).1.below hb, (h.ins c hc).2⟩⟩
  rcases h.own.2 with hn | ⟨g, cap, cur, hv, hb', hg, rest⟩
  · exact .inl hn
  · exact .inr ⟨g, cap, cur, hv, hb', (hb.block g (Array.getElem?_eq_some_iff.1 hg).1).trans hg, rest⟩
/-- One more. -/
theorem Row.step {base : Nat} {v : Value} {cs : List TT} {w2 w3 : World} {c : TT} {gg cap1 : Nat} {X : Obj} (h : Row base v cs w2) (hin : c.In w2) (hbl : c.Bl (fun b => base ≤ b ∧ some b ≠ v.ownBlock))
    (hown : w3.ownsRow base 27 7 (.slice (some ⟨gg, 0, none⟩) (cs.length + 1) cap1) (cs.length + 1) (cells7 cs ++ cells7 [c])) (hgrow : (w2.alloc X).grownBy w3 v.ownBlock) (hat : v.ownBlock = some gg ∨ gg = w2.heap.size + 1) :
    Row base (.slice (some ⟨gg, 0, none⟩) (cs.length + 1) cap1) (cs ++ [c]) w3 ∧ ∀ k, k < w2.heap.size → some k ≠ v.ownBlock → w3.heap[k]? = w2.heap[k]? := by
  have hblk : ∀ k, k < w2.heap.size → some k ≠ v.ownBlock → w3.heap[k]? = w2.heap[k]? := fun k hk hn => by
    rw [hgrow.block k (by simp; omega) hn]
    exact ((Below.refl _ w2).alloc (Nat.le_refl _) X).block k hk
  refine ⟨⟨by rw [cells7_append, List.length_append, List.length_singleton]; exact hown, fun d hd => ?_⟩, hblk⟩
  have key : d.In w2 ∧ d.Bl (fun b => base ≤ b ∧ some b ≠ v.ownBlock) := by
    rcases List.mem_append.1 hd with hd | hd
    · exact h.ins d hd
    · rcases List.mem_singleton.1 hd with rfl
      exact ⟨hin, hbl⟩
  have i3 := key.1.bl.and key.2
  refine ⟨key.1.congr (P := fun b => b < w2.heap.size ∧ base ≤ b ∧ some b ≠ v.ownBlock) (fun b hb i => ?_) i3, i3.mono fun b hb => ⟨hb.2.1, ?_⟩⟩
  · exact World.cell?_of_block (a := ⟨b, i, none⟩) (hblk b hb.1 hb.2.2)
  · show some b ≠ some gg
    rcases hat with e | e
    · rw [← e]; exact hb.2.2
    · simp only [ne_eq, Option.some.injEq]; omega
/-- A row that the call owns is a term's list. -/
theorem Row.list {base : Nat} {v : Value} {cs : List TT} {w : World} (h : Row base v cs w) : ∃ a c, v = .slice a cs.length c ∧ (∀ j (hj : j < cs.length), ∃ b o, a = some ⟨b, o, none⟩ ∧ At7 w b (o + j * 7) cs[j]) ∧ (∀ y, cs ≠ [] → a = some y → base ≤ y.block) := by
  rcases h.own.2 with ⟨rfl, h0⟩ | ⟨g, cap, cur, rfl, hg, _⟩
  · have : cs = [] := List.length_eq_zero_iff.1 h0
    subst this
    exact ⟨none, 0, rfl, fun j hj => absurd hj (by simp), fun y h => absurd rfl h⟩
  · refine ⟨_, _, rfl, fun j hj => ⟨g, 0, rfl, ?_⟩, fun y _ hy => by cases hy; exact hg⟩
    have hc : ∀ i, i < 7 → w.cell? ⟨g, 0 + j * 7 + i, none⟩ = _ := fun i hi => by rw [Nat.zero_add, h.own.cellAt (j * 7 + i) (by omega), cells7_at cs j hj i hi]
    exact ⟨hc 0 (by omega), hc 1 (by omega), hc 2 (by omega), hc 3 (by omega), hc 4 (by omega), hc 5 (by omega), hc 6 (by omega)⟩
theorem Row.tree {base : Nat} {v : Value} {cs : List TT} {w : World} (h : Row base v cs w) : ∃ a c, v = .slice a cs.length c ∧ ∀ k n t f, t.In w → f.In w → (TT.mk k n t f a c cs).In w ∧ (∀ P : Nat → Prop, (∀ b, base ≤ b → P b) → t.Bl P → f.Bl P → (TT.mk k n t f a c cs).Bl P) := by
  obtain ⟨a, c, hv, hl, hb⟩ := h.list
  refine ⟨a, c, hv, fun k n t f ht hf => ⟨TT.In_mk.2 ⟨ht, hf, hl, fun x hx => (h.ins x hx).1⟩, fun P hP h1 h2 => TT.Bl_mk.2 ⟨h1, h2, fun hne x hx => hP _ (hb x hne hx), fun x hx => (h.ins x hx).2.mono fun b hb => hP b hb.1⟩⟩⟩
theorem Row.lt {base : Nat} {v : Value} {cs : List TT} {w : World} (h : Row base v cs w) (k : Nat) (hk : v.ownBlock = some k) : base ≤ k ∧ k < w.heap.size := h.own.lt k hk
end Go.Proofs.YtnddkmccagiclabGreatDoor
