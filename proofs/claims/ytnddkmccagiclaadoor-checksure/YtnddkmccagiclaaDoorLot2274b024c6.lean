/-
  For every term, however it lies in memory, the call of chaperonekeep.CheckSure returns true and leaves its argument as it was: where Any is nowhere told nothing is cast, the type is sure, and the term is as it was. The condition: the package-level table of parts holds what the program's text lays (the card ties that).
-/
import Derived.Test.YtnddkmccagiclaaDoorLot27580e19c2
import Derived.Test.YtnddkmccagiclaaDoorCards
import Derived.Test.YtnddkmccagiclaaDoorTie
import Derived.ProofKit
import Derived.OpenShut
import Derived.ShutString
import Derived.ChangeOld
import Derived.Deep.DeepHandedRow
namespace Go.Proofs.YtnddkmccagiclaaDoor
open Go.ChangeShapes Go.WideShapes Go.ChangeAt Go.RowKit

theorem checkSure_own : ownKnob Tryd.prog.godebug = none := by kernel_rfl
theorem checkSure_laidOut : laidOutB Tryd.prog = true := by kernel_rfl

/-- The table of parts, laid in a world. -/
def checkSure_layH (h : Array Obj) : Array Obj := h.modify 2 fun
  | .cells _ t fr => .cells #[.int .i64 0, .int .i64 0, .int .i64 0, .int .i64 0, .int .i64 2, .int .i64 2, .int .i64 3, .int .i64 1, .int .i64 2, .int .i64 1] t fr
  | o => o
def checkSure_lay (w : World) : World := { w with heap := checkSure_layH w.heap }
def checkSure_args : Array Value := #[.agg #[.int .i64 0, .int .i64 0, .int .i64 0, .slice none 0 0, .int .i64 0, .slice none 0 0, .slice none 0 0]]

set_option maxRecDepth 100000 in
theorem checkSure_laid (os : Os) : laidMet Tryd.prog Rows.checkSureRow.laid ((checkSure_lay (World.holding Tryd.prog os ⟨#[], #[], []⟩)).forCall (fun _ _ => 0) ⟨#[], checkSure_args, []⟩).memory :=
  laidMet_of_run' 8 (by kernel_rfl) (by kernel_rfl)

set_option maxRecDepth 100000 in
theorem checkSure_reads (os : Os) {H : Type} (enc : TypeId × Value → H) : ∃ places, DataW.whole enc Tryd.prog ((checkSure_lay (World.holding Tryd.prog os ⟨#[], #[], []⟩)).forCall (fun _ _ => 0) ⟨#[], checkSure_args, []⟩).memory Tryd.f6.params.toList Rows.checkSureSpec.vars false checkSure_args.toList 8 =
    some ([.agg [.lit (.int .i64 0), .lit (.int .i64 0), .agg [.lit (.int .i64 0), .nil], .agg [.lit (.int .i64 0), .nil], .nil]], [], places) :=
  ⟨[], by kernel_rfl⟩

set_option maxRecDepth 100000 in
theorem checkSure_lifted (os : Os) (started : os.Started) (H : Type) (enc : TypeId × Value → H) (F : Stop.Interp) :
    ReturnsInHanded {} Tryd.checked os 6 .any ((OpenSpec.ofChange Rows.checkSureSpec).preRow enc Tryd.prog Tryd.f6 Rows.checkSureRow.domain false Rows.checkSureRow.laid) (((OpenSpec.ofChange Rows.checkSureSpec).at F).post enc Tryd.prog Tryd.f6 false true false false) := by
  obtain ⟨places, hx⟩ := checkSure_reads os enc
  refine returnsInHanded_of_row (C := Tryd.checked) (s := OpenSpec.ofChange Rows.checkSureSpec) checkSure_own started (by kernel_rfl) Tryd.func6
    (witness_row_at (enc := enc) (C := Tryd.checked) false (checkSure_lay (World.holding Tryd.prog os ⟨#[], #[], []⟩)) checkSure_args rfl (by kernel_rfl) (by kernel_rfl) (by kernel_rfl)
      (OpenSpec.preRow_of_cond 8 hx (by kernel_rfl) (fun k hk => by cases hk) (by kernel_rfl) (checkSure_laid os))) ?_
  intro W base args ds gs before hval0 hW _ _ _ hL hsh _
  have hval : ∀ (j : Nat) t v, Tryd.f6.params[j]? = some t → args[j]? = some v → Value.okWide Tryd.prog W .any base t v := hval0
  have hW' := hW
  obtain ⟨p, q, hA0, hV, rfl, hfz, hnd⟩ := hW
  have hA : DataW.TrodAll enc Tryd.prog W 0 (fun _ => true) true Tryd.f6.params.toList args.toList ds p := hA0
  rw [Tryd.params6] at hA hval
  obtain ⟨v0, vs0, d0, ds0, p0, q0, hargs, rfl, rfl, h0, r0⟩ := trodAll_cons hA
  obtain ⟨rfl, rfl, rfl⟩ := trodAll_nil r0
  obtain rfl : args = #[v0] := by cases args; simp_all
  obtain ⟨rfl, rfl⟩ := trodVars_none hV
  have k0 := h0
  have lt0 : ∀ x ∈ p0, x.block < W.heap.size := by obtain ⟨m, hm⟩ := k0; exact DataW.trod_lt m _ _ _ hm
  obtain ⟨t0, rfl, i0, n0⟩ := tm_arg (hval 0 27 v0 rfl rfl) h0
  clear hA0 hval0
  have hgp : Gp W := gp_of (show laidMet Tryd.prog Rows.checkSureRow.laid W from hL)
  refine (ckSure_any t0 W hgp i0 n0).mono fun e W' ⟨he, bel⟩ => ?_
  subst he
  exact ⟨_, rfl, _, _, _, [], _, [], hW', trodAll_mk1 (shut_bool Tryd.underlying4 _), (trodAll_cons_mk (Below.trod checkSure_laidOut (by kernel_rfl) (of_decide_eq_true (by kernel_rfl)) k0 bel lt0) trodAll_mk0), rfl, bel.frame _, fun h => by cases h⟩

set_option maxRecDepth 100000 in
theorem checkSure_said : Rows.CheckSureSaid :=
  OpenClaim.holds_of_cond 6 Tryd.f6 rfl rfl rfl rfl rfl rfl rfl ⟨rfl, rfl, rfl, rfl, rfl⟩ rfl rfl rfl rfl rfl (by kernel_rfl) Tryd.func6 (by kernel_rfl)
    (of_decide_eq_true (by kernel_rfl)) (by unfold Func.isWrapper; first | (rw [if_pos (by decide +kernel)]; kernel_rfl) | (rw [if_neg (by decide +kernel)]; exact ⟨rfl, rfl⟩))
    (fun os started H enc _ F => by rw [OpenClaim.pre_eq_preRow]; exact checkSure_lifted os started H enc F)

/-- No parameter wants a stand-in; the program's own looks are off. -/
theorem checkSure_plain (f : FuncId) (fn : Func) (hf : Tryd.pinned.checked.prog.funcNamed "chaperone/chaperonekeep.CheckSure" = some f) (hfn : Tryd.pinned.checked.prog.funcs[f]? = some fn) :
    true = Tryd.pinned.checked.prog.looks [] ∧ ∀ (j : Nat) t, fn.params[j]? = some t → Tryd.pinned.checked.prog.wantsStandIn t = false := by
  obtain rfl : f = 6 := Option.some.inj ((show Tryd.prog.funcNamed "chaperone/chaperonekeep.CheckSure" = some 6 by kernel_rfl).symm.trans hf) |>.symm
  obtain rfl : fn = Tryd.f6 := (Option.some.inj (Tryd.func6.symm.trans hfn)).symm
  refine ⟨by kernel_rfl, fun j t ht => ?_⟩
  rw [Tryd.params6] at ht
  have hm := Array.mem_of_getElem? ht
  obtain rfl : t = 27 := by simpa using hm
  exact (show Tryd.prog.wantsStandIn 27 = false by kernel_rfl)

theorem checkSure_card : Rows.CheckSureCardSaid :=
  Claim7.holds_tied_plain_at .later [] _ _ _ _ checkSure_said (fun _ h => by cases h) (by kernel_rfl) (fun _ h => by cases h) checkSure_row_tie rfl ⟨rfl, rfl⟩ (by kernel_rfl) rfl checkSure_plain (by kernel_rfl)

#print axioms checkSure_card
end Go.Proofs.YtnddkmccagiclaaDoor
