/-
  For every term of bulk at most 1048576, however it lies in memory, the call of chaperonelaw.CheckTells returns true and leaves its argument as it was: Check, and of good terms, and of what Check answers, Sites and Erase, answer what the document's own answers say, errors too. The condition: the package-level table of parts holds what the program's text lays (the card ties that).
-/
import Derived.Test.YtnddkmccagiclaaDoorLot27d85b5f60
import Derived.Test.YtnddkmccagiclaaDoorLotecbf9979cc
import Derived.Test.YtnddkmccagiclaaDoorCards
import Derived.Test.YtnddkmccagiclaaDoorTie
import Derived.ProofKit
import Derived.OpenShut
import Derived.ShutString
import Derived.ChangeOld
import Derived.Deep.DeepHandedRow
/-
  For every term of bulk at most 1048576, however it lies in memory, the call of chaperonelaw.CheckTells returns true and leaves its argument as it was: Check, and of good terms, and of what Check answers, Sites and Erase, answer what the document's own answers say, errors too. The condition: the package-level table of parts holds what the program's text lays (the card ties that).
-/
namespace Go.Proofs.YtnddkmccagiclaaDoor
open Go.ChangeShapes Go.WideShapes Go.ChangeAt Go.RowKit
theorem checkTells_own : ownKnob Tryd.prog.godebug = none := by kernel_rfl
theorem checkTells_laidOut : laidOutB Tryd.prog = true := by kernel_rfl
theorem bulk_one {H : Type} {d0 : DataW H} (hk : Rows.uptoSmall H ([d0] ++ []) = true) : Rows.uptoBulk d0 ≤ 1048576 := by
  have h : Rows.uptoBulkAll ([d0] ++ []) ≤ 1048576 := of_decide_eq_true hk
  simp only [List.append_nil, Rows.uptoBulkAll] at h
  omega
/-- The table of parts, laid in a world. -/
def checkTells_layH (h : Array Obj) : Array Obj := h.modify 2 fun
  | .cells _ t fr => .cells #[.int .i64 0, .int .i64 0, .int .i64 0, .int .i64 0, .int .i64 2, .int .i64 2, .int .i64 3, .int .i64 1, .int .i64 2, .int .i64 1] t fr
  | o => o
def checkTells_lay (w : World) : World := { w with heap := checkTells_layH w.heap }
def checkTells_args : Array Value := #[.agg #[.int .i64 0, .int .i64 0, .int .i64 0, .slice none 0 0, .int .i64 0, .slice none 0 0, .slice none 0 0]]
set_option maxRecDepth 100000 in
theorem checkTells_laid (os : Os) : laidMet Tryd.prog Rows.checkTellsUptoRow.laid ((checkTells_lay (World.holding Tryd.prog os ⟨#[], #[], []⟩)).forCall (fun _ _ => 0) ⟨#[], checkTells_args, []⟩).memory :=
  laidMet_of_run' 8 (by kernel_rfl) (by kernel_rfl)
set_option maxRecDepth 100000 in
theorem checkTells_reads (os : Os) {H : Type} (enc : TypeId × Value → H) : ∃ places, DataW.whole enc Tryd.prog ((checkTells_lay (World.holding Tryd.prog os ⟨#[], #[], []⟩)).forCall (fun _ _ => 0) ⟨#[], checkTells_args, []⟩).memory Tryd.f4.params.toList Rows.checkTellsSpec.vars false checkTells_args.toList 8 =
    some ([.agg [.lit (.int .i64 0), .lit (.int .i64 0), .agg [.lit (.int .i64 0), .nil], .agg [.lit (.int .i64 0), .nil], .nil]], [], places) :=
  ⟨[], by kernel_rfl⟩
set_option maxRecDepth 100000 in
theorem checkTells_lifted (os : Os) (started : os.Started) (H : Type) (enc : TypeId × Value → H) (F : Stop.Interp) :
    ReturnsInHanded {} Tryd.checked os 4 .any ((Rows.OpenSpec.upto Rows.checkTellsSpec).preRow enc Tryd.prog Tryd.f4 Rows.checkTellsUptoRow.domain false Rows.checkTellsUptoRow.laid) (((Rows.OpenSpec.upto Rows.checkTellsSpec).at F).post enc Tryd.prog Tryd.f4 false true false false) := by
  obtain ⟨places, hx⟩ := checkTells_reads os enc
  refine returnsInHanded_of_row (C := Tryd.checked) (s := Rows.OpenSpec.upto Rows.checkTellsSpec) checkTells_own started (by kernel_rfl) Tryd.func4
    (witness_row_at (enc := enc) (C := Tryd.checked) false (checkTells_lay (World.holding Tryd.prog os ⟨#[], #[], []⟩)) checkTells_args rfl (by kernel_rfl) (by kernel_rfl) (by kernel_rfl)
      (OpenSpec.preRow_of_cond 8 hx (by kernel_rfl) (fun k hk => by obtain rfl : Rows.uptoSmall = k := Option.some.inj hk; rfl) (by kernel_rfl) (checkTells_laid os))) ?_
  intro W base args ds gs before hval0 hW _ hk _ hL hsh _
  have hval : ∀ (j : Nat) t v, Tryd.f4.params[j]? = some t → args[j]? = some v → Value.okWide Tryd.prog W .any base t v := hval0
  have hW' := hW
  obtain ⟨p, q, hA0, hV, rfl, hfz, hnd⟩ := hW
  have hA : DataW.TrodAll enc Tryd.prog W 0 (fun _ => true) true Tryd.f4.params.toList args.toList ds p := hA0
  rw [Tryd.params4] at hA hval
  obtain ⟨v0, vs0, d0, ds0, p0, q0, hargs, rfl, rfl, h0, r0⟩ := trodAll_cons hA
  obtain ⟨rfl, rfl, rfl⟩ := trodAll_nil r0
  obtain rfl : args = #[v0] := by cases args; simp_all
  obtain ⟨rfl, rfl⟩ := trodVars_none hV
  have k0 := h0
  have lt0 : ∀ x ∈ p0, x.block < W.heap.size := by obtain ⟨m, hm⟩ := k0; exact DataW.trod_lt m _ _ _ hm
  obtain ⟨t0, rfl, i0, z0, n0⟩ := tm_arg_sz (hval 0 27 v0 rfl rfl) h0
  have hz := bulk_one (hk _ rfl)
  clear hA0 hval0
  have hgp : Gp W := gp_of (show laidMet Tryd.prog Rows.checkTellsUptoRow.laid W from hL)
  refine (ckTells_any t0 W hgp i0 (ok_more n0 (by omega)) (by omega)).mono fun e W' ⟨he, bel⟩ => ?_
  subst he
  exact ⟨_, rfl, _, _, _, [], _, [], hW', trodAll_mk1 (shut_bool Tryd.underlying4 _), (trodAll_cons_mk (Below.trod checkTells_laidOut (by kernel_rfl) (of_decide_eq_true (by kernel_rfl)) k0 bel lt0) trodAll_mk0), rfl, bel.frame _, fun h => by cases h⟩
set_option maxRecDepth 100000 in
theorem checkTells_said : Rows.CheckTellsUptoSaid :=
  OpenClaim.holds_of_cond 4 Tryd.f4 rfl rfl rfl rfl rfl rfl rfl ⟨rfl, rfl, rfl, rfl, rfl⟩ rfl rfl rfl rfl rfl (by kernel_rfl) Tryd.func4 (by kernel_rfl)
    (of_decide_eq_true (by kernel_rfl)) (by unfold Func.isWrapper; first | (rw [if_pos (by decide +kernel)]; kernel_rfl) | (rw [if_neg (by decide +kernel)]; exact ⟨rfl, rfl⟩))
    (fun os started H enc _ F => by rw [OpenClaim.pre_eq_preRow]; exact checkTells_lifted os started H enc F)
/-- No parameter wants a stand-in; the program's own looks are off. -/
theorem checkTells_plain (f : FuncId) (fn : Func) (hf : Tryd.pinned.checked.prog.funcNamed "chaperone/chaperonelaw.CheckTells" = some f) (hfn : Tryd.pinned.checked.prog.funcs[f]? = some fn) :
    true = Tryd.pinned.checked.prog.looks [] ∧ ∀ (j : Nat) t, fn.params[j]? = some t → Tryd.pinned.checked.prog.wantsStandIn t = false := by
  obtain rfl : f = 4 := Option.some.inj ((show Tryd.prog.funcNamed "chaperone/chaperonelaw.CheckTells" = some 4 by kernel_rfl).symm.trans hf) |>.symm
  obtain rfl : fn = Tryd.f4 := (Option.some.inj (Tryd.func4.symm.trans hfn)).symm
  refine ⟨by kernel_rfl, fun j t ht => ?_⟩
  rw [Tryd.params4] at ht
  have hm := Array.mem_of_getElem? ht
  obtain rfl : t = 27 := by simpa using hm
  exact (show Tryd.prog.wantsStandIn 27 = false by kernel_rfl)
theorem checkTells_card : Rows.CheckTellsUptoCardSaid :=
  Claim7.holds_tied_plain_at .later [] _ _ _ _ checkTells_said (fun _ h => by cases h) (by kernel_rfl) (fun _ h => by cases h) checkTellsUpto_row_tie rfl ⟨rfl, rfl⟩ (by kernel_rfl) rfl checkTells_plain (by kernel_rfl)
#print axioms checkTells_card
end Go.Proofs.YtnddkmccagiclaaDoor
