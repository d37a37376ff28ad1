/-
  For every term and number, however they lie in memory, the call of chaperonekeep.CheckLoose returns true and leaves its arguments as they were: who says less is not refused for it, and its type says less. The condition: the package-level table of parts holds what the program's text lays (the card ties that).
-/
import Derived.Test.YtnddkmccagiclaaDoorLot075635ad9d
import Derived.Test.YtnddkmccagiclaaDoorCards
import Derived.Test.YtnddkmccagiclaaDoorTie
import Derived.ProofKit
import Derived.OpenShut
import Derived.ShutString
import Derived.ChangeOld
import Derived.Deep.DeepHandedRow
namespace Go.Proofs.YtnddkmccagiclaaDoor
open Go.ChangeShapes Go.WideShapes Go.ChangeAt Go.RowKit

theorem checkLoose_own : ownKnob Tryd.prog.godebug = none := by kernel_rfl
theorem checkLoose_laidOut : laidOutB Tryd.prog = true := by kernel_rfl

/-- The table of parts, laid in a world. -/
def checkLoose_layH (h : Array Obj) : Array Obj := h.modify 2 fun
  | .cells _ t fr => .cells #[.int .i64 0, .int .i64 0, .int .i64 0, .int .i64 0, .int .i64 2, .int .i64 2, .int .i64 3, .int .i64 1, .int .i64 2, .int .i64 1] t fr
  | o => o
def checkLoose_lay (w : World) : World := { w with heap := checkLoose_layH w.heap }
def checkLoose_args : Array Value := #[.agg #[.int .i64 0, .int .i64 0, .int .i64 0, .slice none 0 0, .int .i64 0, .slice none 0 0, .slice none 0 0], .int .i64 0]

set_option maxRecDepth 100000 in
theorem checkLoose_laid (os : Os) : laidMet Tryd.prog Rows.checkLooseRow.laid ((checkLoose_lay (World.holding Tryd.prog os ⟨#[], #[], []⟩)).forCall (fun _ _ => 0) ⟨#[], checkLoose_args, []⟩).memory :=
  laidMet_of_run' 8 (by kernel_rfl) (by kernel_rfl)

set_option maxRecDepth 100000 in
theorem checkLoose_reads (os : Os) {H : Type} (enc : TypeId × Value → H) : ∃ places, DataW.whole enc Tryd.prog ((checkLoose_lay (World.holding Tryd.prog os ⟨#[], #[], []⟩)).forCall (fun _ _ => 0) ⟨#[], checkLoose_args, []⟩).memory Tryd.f7.params.toList Rows.checkLooseSpec.vars false checkLoose_args.toList 8 =
    some ([.agg [.lit (.int .i64 0), .lit (.int .i64 0), .agg [.lit (.int .i64 0), .nil], .agg [.lit (.int .i64 0), .nil], .nil], .lit (.int .i64 0)], [], places) :=
  ⟨[], by kernel_rfl⟩

set_option maxRecDepth 100000 in
theorem checkLoose_lifted (os : Os) (started : os.Started) (H : Type) (enc : TypeId × Value → H) (F : Stop.Interp) :
    ReturnsInHanded {} Tryd.checked os 7 .any ((OpenSpec.ofChange Rows.checkLooseSpec).preRow enc Tryd.prog Tryd.f7 Rows.checkLooseRow.domain false Rows.checkLooseRow.laid) (((OpenSpec.ofChange Rows.checkLooseSpec).at F).post enc Tryd.prog Tryd.f7 false true false false) := by
  obtain ⟨places, hx⟩ := checkLoose_reads os enc
  refine returnsInHanded_of_row (C := Tryd.checked) (s := OpenSpec.ofChange Rows.checkLooseSpec) checkLoose_own started (by kernel_rfl) Tryd.func7
    (witness_row_at (enc := enc) (C := Tryd.checked) false (checkLoose_lay (World.holding Tryd.prog os ⟨#[], #[], []⟩)) checkLoose_args rfl (by kernel_rfl) (by kernel_rfl) (by kernel_rfl)
      (OpenSpec.preRow_of_cond 8 hx (by kernel_rfl) (fun k hk => by cases hk) (by kernel_rfl) (checkLoose_laid os))) ?_
  intro W base args ds gs before hval0 hW _ _ hwt hL hsh _
  have hval : ∀ (j : Nat) t v, Tryd.f7.params[j]? = some t → args[j]? = some v → Value.okWide Tryd.prog W .any base t v := hval0
  have hW' := hW
  obtain ⟨p, q, hA0, hV, rfl, hfz, hnd⟩ := hW
  have hA : DataW.TrodAll enc Tryd.prog W 0 (fun _ => true) true Tryd.f7.params.toList args.toList ds p := hA0
  rw [Tryd.params7] at hA hval
  obtain ⟨v0, vs0, d0, ds0, p0, q0, hargs, rfl, rfl, h0, r0⟩ := trodAll_cons hA
  obtain ⟨v1, vs1, d1, ds1, p1, q1, rfl, rfl, rfl, h1, r1⟩ := trodAll_cons r0
  obtain ⟨rfl, rfl, rfl⟩ := trodAll_nil r1
  obtain rfl : args = #[v0, v1] := by cases args; simp_all
  obtain ⟨rfl, rfl⟩ := trodVars_none hV
  have k0 := h0
  have lt0 : ∀ x ∈ p0, x.block < W.heap.size := by obtain ⟨m, hm⟩ := k0; exact DataW.trod_lt m _ _ _ hm
  have k1 := h1
  have lt1 : ∀ x ∈ p1, x.block < W.heap.size := by obtain ⟨m, hm⟩ := k1; exact DataW.trod_lt m _ _ _ hm
  obtain ⟨t0, rfl, i0, n0, l0⟩ := tm_arg_w (hval 0 27 v0 rfl rfl) h0
  have hlw : t0.lw := l0 fun q hq => by
    have hm : q ∈ DataW.weightsEach Tryd.prog (Tryd.f7.params.toList ++ (OpenSpec.ofChange Rows.checkLooseSpec).bare.plain.varTypes Tryd.prog) ([d0, d1] ++ []) := by
      rw [Tryd.params7]
      simp only [List.cons_append, DataW.weightsEach, List.mem_append]
      exact .inl hq
    have := List.all_eq_true.1 hwt q hm
    simpa using this
  obtain ⟨z, rfl, rfl, rfl, _⟩ := Go.ChangeShapes.open_int Tryd.underlying3 (hval 1 3 v1 rfl rfl) h1
  clear hA0 hval0
  have hgp : Gp W := gp_of (show laidMet Tryd.prog Rows.checkLooseRow.laid W from hL)
  refine (ckLoose_any t0 z W hgp i0 n0 hlw).mono fun e W' ⟨he, bel⟩ => ?_
  subst he
  exact ⟨_, rfl, _, _, _, [], _, [], hW', trodAll_mk1 (shut_bool Tryd.underlying4 _), (trodAll_cons_mk (Below.trod checkLoose_laidOut (by kernel_rfl) (of_decide_eq_true (by kernel_rfl)) k0 bel lt0) (trodAll_cons_mk (Below.trod checkLoose_laidOut (by kernel_rfl) (of_decide_eq_true (by kernel_rfl)) k1 bel lt1) trodAll_mk0)), rfl, bel.frame _, fun h => by cases h⟩

set_option maxRecDepth 100000 in
theorem checkLoose_said : Rows.CheckLooseSaid :=
  OpenClaim.holds_of_cond 7 Tryd.f7 rfl rfl rfl rfl rfl rfl rfl ⟨rfl, rfl, rfl, rfl, rfl⟩ rfl rfl rfl rfl rfl (by kernel_rfl) Tryd.func7 (by kernel_rfl)
    (of_decide_eq_true (by kernel_rfl)) (by unfold Func.isWrapper; first | (rw [if_pos (by decide +kernel)]; kernel_rfl) | (rw [if_neg (by decide +kernel)]; exact ⟨rfl, rfl⟩))
    (fun os started H enc _ F => by rw [OpenClaim.pre_eq_preRow]; exact checkLoose_lifted os started H enc F)

/-- No parameter wants a stand-in; the program's own looks are off. -/
theorem checkLoose_plain (f : FuncId) (fn : Func) (hf : Tryd.pinned.checked.prog.funcNamed "chaperone/chaperonekeep.CheckLoose" = some f) (hfn : Tryd.pinned.checked.prog.funcs[f]? = some fn) :
    true = Tryd.pinned.checked.prog.looks [] ∧ ∀ (j : Nat) t, fn.params[j]? = some t → Tryd.pinned.checked.prog.wantsStandIn t = false := by
  obtain rfl : f = 7 := Option.some.inj ((show Tryd.prog.funcNamed "chaperone/chaperonekeep.CheckLoose" = some 7 by kernel_rfl).symm.trans hf) |>.symm
  obtain rfl : fn = Tryd.f7 := (Option.some.inj (Tryd.func7.symm.trans hfn)).symm
  refine ⟨by kernel_rfl, fun j t ht => ?_⟩
  rw [Tryd.params7] at ht
  have hm := Array.mem_of_getElem? ht
  obtain rfl | rfl : t = 27 ∨ t = 3 := by simpa using hm
  · exact (show Tryd.prog.wantsStandIn 27 = false by kernel_rfl)
  · exact (show Tryd.prog.wantsStandIn 3 = false by kernel_rfl)

theorem checkLoose_card : Rows.CheckLooseCardSaid :=
  Claim7.holds_tied_plain_at .later [] _ _ _ _ checkLoose_said (fun _ h => by cases h) (by kernel_rfl) (fun _ h => by cases h) checkLoose_row_tie rfl ⟨rfl, rfl⟩ (by kernel_rfl) rfl checkLoose_plain (by kernel_rfl)

#print axioms checkLoose_card
end Go.Proofs.YtnddkmccagiclaaDoor
