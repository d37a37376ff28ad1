/-
  For every term, however it lies in memory, the call of chaperonekeep.CheckSites returns true and leaves its argument as it was: each term is cast once at most, between types that fit and are not alike, and without casts it is the term. The condition: the package-level table of parts holds what the program's text lays (the card ties that).
-/
import Derived.Test.YtnddkmccagiclaaDoorLotd43e7b5a9a
import Derived.Test.YtnddkmccagiclaaDoorLot6671dbdbe5
import Derived.Test.YtnddkmccagiclaaDoorCards
import Derived.Test.YtnddkmccagiclaaDoorTie
import Derived.ProofKit
import Derived.OpenShut
import Derived.ShutString
import Derived.ChangeOld
import Derived.Deep.DeepHandedRow
namespace Go.Proofs.YtnddkmccagiclaaDoor
open Go.ChangeShapes Go.WideShapes Go.ChangeAt Go.RowKit

theorem checkSites_own : ownKnob Tryd.prog.godebug = none := by kernel_rfl
theorem checkSites_laidOut : laidOutB Tryd.prog = true := by kernel_rfl

/-- The table of parts, laid in a world. -/
def checkSites_layH (h : Array Obj) : Array Obj := h.modify 2 fun
  | .cells _ t fr => .cells #[.int .i64 0, .int .i64 0, .int .i64 0, .int .i64 0, .int .i64 2, .int .i64 2, .int .i64 3, .int .i64 1, .int .i64 2, .int .i64 1] t fr
  | o => o
def checkSites_lay (w : World) : World := { w with heap := checkSites_layH w.heap }
def checkSites_args : Array Value := #[.agg #[.int .i64 0, .int .i64 0, .int .i64 0, .slice none 0 0, .int .i64 0, .slice none 0 0, .slice none 0 0]]

set_option maxRecDepth 100000 in
theorem checkSites_laid (os : Os) : laidMet Tryd.prog Rows.checkSitesRow.laid ((checkSites_lay (World.holding Tryd.prog os ⟨#[], #[], []⟩)).forCall (fun _ _ => 0) ⟨#[], checkSites_args, []⟩).memory :=
  laidMet_of_run' 8 (by kernel_rfl) (by kernel_rfl)

set_option maxRecDepth 100000 in
theorem checkSites_reads (os : Os) {H : Type} (enc : TypeId × Value → H) : ∃ places, DataW.whole enc Tryd.prog ((checkSites_lay (World.holding Tryd.prog os ⟨#[], #[], []⟩)).forCall (fun _ _ => 0) ⟨#[], checkSites_args, []⟩).memory Tryd.f5.params.toList Rows.checkSitesSpec.vars false checkSites_args.toList 8 =
    some ([.agg [.lit (.int .i64 0), .lit (.int .i64 0), .agg [.lit (.int .i64 0), .nil], .agg [.lit (.int .i64 0), .nil], .nil]], [], places) :=
  ⟨[], by kernel_rfl⟩

set_option maxRecDepth 100000 in
theorem checkSites_lifted (os : Os) (started : os.Started) (H : Type) (enc : TypeId × Value → H) (F : Stop.Interp) :
    ReturnsInHanded {} Tryd.checked os 5 .any ((OpenSpec.ofChange Rows.checkSitesSpec).preRow enc Tryd.prog Tryd.f5 Rows.checkSitesRow.domain false Rows.checkSitesRow.laid) (((OpenSpec.ofChange Rows.checkSitesSpec).at F).post enc Tryd.prog Tryd.f5 false true false false) := by
  obtain ⟨places, hx⟩ := checkSites_reads os enc
  refine returnsInHanded_of_row (C := Tryd.checked) (s := OpenSpec.ofChange Rows.checkSitesSpec) checkSites_own started (by kernel_rfl) Tryd.func5
    (witness_row_at (enc := enc) (C := Tryd.checked) false (checkSites_lay (World.holding Tryd.prog os ⟨#[], #[], []⟩)) checkSites_args rfl (by kernel_rfl) (by kernel_rfl) (by kernel_rfl)
      (OpenSpec.preRow_of_cond 8 hx (by kernel_rfl) (fun k hk => by cases hk) (by kernel_rfl) (checkSites_laid os))) ?_
  intro W base args ds gs before hval0 hW _ _ _ hL hsh _
  have hval : ∀ (j : Nat) t v, Tryd.f5.params[j]? = some t → args[j]? = some v → Value.okWide Tryd.prog W .any base t v := hval0
  have hW' := hW
  obtain ⟨p, q, hA0, hV, rfl, hfz, hnd⟩ := hW
  have hA : DataW.TrodAll enc Tryd.prog W 0 (fun _ => true) true Tryd.f5.params.toList args.toList ds p := hA0
  rw [Tryd.params5] at hA hval
  obtain ⟨v0, vs0, d0, ds0, p0, q0, hargs, rfl, rfl, h0, r0⟩ := trodAll_cons hA
  obtain ⟨rfl, rfl, rfl⟩ := trodAll_nil r0
  obtain rfl : args = #[v0] := by cases args; simp_all
  obtain ⟨rfl, rfl⟩ := trodVars_none hV
  have k0 := h0
  have lt0 : ∀ x ∈ p0, x.block < W.heap.size := by obtain ⟨m, hm⟩ := k0; exact DataW.trod_lt m _ _ _ hm
  obtain ⟨t0, rfl, i0, n0⟩ := tm_arg (hval 0 27 v0 rfl rfl) h0
  clear hA0 hval0
  have hgp : Gp W := gp_of (show laidMet Tryd.prog Rows.checkSitesRow.laid W from hL)
  refine (ckSites_any t0 W hgp i0 n0).mono fun e W' ⟨he, bel⟩ => ?_
  subst he
  exact ⟨_, rfl, _, _, _, [], _, [], hW', trodAll_mk1 (shut_bool Tryd.underlying4 _), (trodAll_cons_mk (Below.trod checkSites_laidOut (by kernel_rfl) (of_decide_eq_true (by kernel_rfl)) k0 bel lt0) trodAll_mk0), rfl, bel.frame _, fun h => by cases h⟩

set_option maxRecDepth 100000 in
theorem checkSites_said : Rows.CheckSitesSaid :=
  OpenClaim.holds_of_cond 5 Tryd.f5 rfl rfl rfl rfl rfl rfl rfl ⟨rfl, rfl, rfl, rfl, rfl⟩ rfl rfl rfl rfl rfl (by kernel_rfl) Tryd.func5 (by kernel_rfl)
    (of_decide_eq_true (by kernel_rfl)) (by unfold Func.isWrapper; first | (rw [if_pos (by decide +kernel)]; kernel_rfl) | (rw [if_neg (by decide +kernel)]; exact ⟨rfl, rfl⟩))
    (fun os started H enc _ F => by rw [OpenClaim.pre_eq_preRow]; exact checkSites_lifted os started H enc F)

/-- No parameter wants a stand-in; the program's own looks are off. -/
theorem checkSites_plain (f : FuncId) (fn : Func) (hf : Tryd.pinned.checked.prog.funcNamed "chaperone/chaperonekeep.CheckSites" = some f) (hfn : Tryd.pinned.checked.prog.funcs[f]? = some fn) :
    true = Tryd.pinned.checked.prog.looks [] ∧ ∀ (j : Nat) t, fn.params[j]? = some t → Tryd.pinned.checked.prog.wantsStandIn t = false := by
  obtain rfl : f = 5 := Option.some.inj ((show Tryd.prog.funcNamed "chaperone/chaperonekeep.CheckSites" = some 5 by kernel_rfl).symm.trans hf) |>.symm
  obtain rfl : fn = Tryd.f5 := (Option.some.inj (Tryd.func5.symm.trans hfn)).symm
  refine ⟨by kernel_rfl, fun j t ht => ?_⟩
  rw [Tryd.params5] at ht
  have hm := Array.mem_of_getElem? ht
  obtain rfl : t = 27 := by simpa using hm
  exact (show Tryd.prog.wantsStandIn 27 = false by kernel_rfl)

theorem checkSites_card : Rows.CheckSitesCardSaid :=
  Claim7.holds_tied_plain_at .later [] _ _ _ _ checkSites_said (fun _ h => by cases h) (by kernel_rfl) (fun _ h => by cases h) checkSites_row_tie rfl ⟨rfl, rfl⟩ (by kernel_rfl) rfl checkSites_plain (by kernel_rfl)

#print axioms checkSites_card
end Go.Proofs.YtnddkmccagiclaaDoor
