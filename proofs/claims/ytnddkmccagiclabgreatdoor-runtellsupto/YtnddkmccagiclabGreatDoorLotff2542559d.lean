/-
  For every term and every number of calls, together of bulk at most 1048576, however the term lies in memory, the call of chaperonelaw.RunTells returns true and leaves its arguments as they were: Run and Bare answer what the document's own answers say, errors too. The condition: the package-level tables hold what the program's text lays (the card ties that).
-/
import Derived.Test.YtnddkmccagiclabGreatDoorLot0b4461e132
import Derived.Test.YtnddkmccagiclabGreatDoorLot7e72340583
import Derived.Test.YtnddkmccagiclabGreatDoorCards
import Derived.Test.YtnddkmccagiclabGreatDoorTie
import Derived.ProofKit
import Derived.OpenShut
import Derived.ShutString
import Derived.ChangeOld
import Derived.Deep.DeepHandedRow
/-
  For every term and every number of calls, together of bulk at most 1048576, however the term lies in memory, the call of chaperonelaw.RunTells returns true and leaves its arguments as they were: Run and Bare answer what the document's own answers say, errors too. The condition: the package-level tables hold what the program's text lays (the card ties that).
-/
namespace Go.Proofs.YtnddkmccagiclabGreatDoor
open Go.ChangeShapes Go.WideShapes Go.ChangeAt Go.RowKit
theorem runTells_own : ownKnob Tryz.prog.godebug = none := by kernel_rfl
theorem runTells_laidOut : laidOutB Tryz.prog = true := by kernel_rfl
/-- The values of a table's datum. -/
def runTells_flatD : Nat → DataW Unit → List Value
  | 0, _ => []
  | n + 1, .agg l => l.flatMap fun d => runTells_flatD n d
  | _ + 1, .lit (.int k z) => [.int k z]
  | _ + 1, .lit (.string s) => [.string ⟨s.toArray⟩]
  | _ + 1, _ => []
def runTells_layV (g : Nat) (cs : List Value) (h : Array Obj) : Array Obj := h.modify g fun
  | .cells _ t fr => .cells cs.toArray t fr
  | o => o
def runTells_layAll (low : Nat) (h : Array Obj) : Array Obj :=
  runTells_layV 9 [.iface 261 (.pointer (some ⟨low, 0, none⟩))] (runTells_layV 10 [.iface 261 (.pointer (some ⟨low + 1, 0, none⟩))] (runTells_layV 1 (runTells_flatD 3 Rows.laid_chaperone_term_truthWords) (runTells_layV 2 (runTells_flatD 3 Rows.laid_chaperone_term_words) (runTells_layV 0 (runTells_flatD 3 Rows.laid_chaperone_term_parts) (runTells_layV 4 (runTells_flatD 3 Rows.laid_chaperone_term_typeWords) (runTells_layV 11 (runTells_flatD 3 Rows.laid_internal_strconv_uint64pow10) (runTells_layV 7 (runTells_flatD 3 Rows.laid_unicode_utf8_first) (runTells_layV 8 (runTells_flatD 3 Rows.laid_unicode_utf8_acceptRanges) (runTells_layV 12 (runTells_flatD 3 Rows.laid_math_bits_deBruijn32tab) (runTells_layV 13 (runTells_flatD 3 Rows.laid_math_bits_deBruijn64tab) h))))))))))
def runTells_layW (low : Nat) (w : World) : World := { w with heap := runTells_layAll low w.heap }
def runTells_synO : Obj := .cells #[.string ⟨#[105, 110, 118, 97, 108, 105, 100, 32, 115, 121, 110, 116, 97, 120]⟩] 263
def runTells_rngO : Obj := .cells #[.string ⟨#[118, 97, 108, 117, 101, 32, 111, 117, 116, 32, 111, 102, 32, 114, 97, 110, 103, 101]⟩] 263
def runTells_args : Array Value := #[.agg #[.int .i64 0, .int .i64 0, .int .i64 0, .slice none 0 0, .int .i64 0, .slice none 0 0, .slice none 0 0], .int .i64 0]
set_option maxRecDepth 100000 in
theorem runTells_laid (os : Os) : laidMet Tryz.prog Rows.runTellsUptoRow.laid ((runTells_layW (World.holding Tryz.prog default ⟨#[], #[], []⟩).heap.size (World.holding Tryz.prog os ⟨#[runTells_synO, runTells_rngO], #[], []⟩)).forCall (fun _ _ => 0) ⟨#[], runTells_args, []⟩).memory :=
  laidMet_of_run' 8 (by kernel_rfl) (by kernel_rfl)
set_option maxRecDepth 100000 in
theorem runTells_reads (os : Os) {H : Type} (enc : TypeId × Value → H) : ∃ places, DataW.whole enc Tryz.prog ((runTells_layW (World.holding Tryz.prog default ⟨#[], #[], []⟩).heap.size (World.holding Tryz.prog os ⟨#[runTells_synO, runTells_rngO], #[], []⟩)).forCall (fun _ _ => 0) ⟨#[], runTells_args, []⟩).memory Tryz.f9.params.toList Rows.runTellsSpec.vars false runTells_args.toList 8 =
    some ([.agg [.lit (.int .i64 0), .lit (.int .i64 0), .agg [.lit (.int .i64 0), .nil], .agg [.lit (.int .i64 0), .nil], .nil], .lit (.int .i64 0)], [], places) :=
  ⟨[], by kernel_rfl⟩
set_option maxRecDepth 100000 in
theorem runTells_lifted (os : Os) (started : os.Started) (H : Type) (enc : TypeId × Value → H) (F : Stop.Interp) :
    ReturnsInHanded {} Tryz.checked os 9 .any ((Rows.OpenSpec.upto Rows.runTellsSpec).preRow enc Tryz.prog Tryz.f9 Rows.runTellsUptoRow.domain false Rows.runTellsUptoRow.laid) (((Rows.OpenSpec.upto Rows.runTellsSpec).at F).post enc Tryz.prog Tryz.f9 false true false false) := by
  obtain ⟨places, hx⟩ := runTells_reads os enc
  refine returnsInHanded_of_row (C := Tryz.checked) (s := Rows.OpenSpec.upto Rows.runTellsSpec) runTells_own started (by kernel_rfl) Tryz.func9
    (witness_row_at (enc := enc) (C := Tryz.checked) false (runTells_layW (World.holding Tryz.prog default ⟨#[], #[], []⟩).heap.size (World.holding Tryz.prog os ⟨#[runTells_synO, runTells_rngO], #[], []⟩)) runTells_args rfl (by kernel_rfl) (by kernel_rfl) (by kernel_rfl)
      (OpenSpec.preRow_of_cond 8 hx (by kernel_rfl) (fun k hk => by obtain rfl : Rows.uptoSmall = k := Option.some.inj hk; rfl) (by kernel_rfl) (runTells_laid os))) ?_
  intro W base args ds gs before hval0 hW _ hk hwt hL hsh _
  have hval : ∀ (j : Nat) t v, Tryz.f9.params[j]? = some t → args[j]? = some v → Value.okWide Tryz.prog W .any base t v := hval0
  have hW' := hW
  obtain ⟨p, q, hA0, hV, rfl, hfz, hnd⟩ := hW
  have hA : DataW.TrodAll enc Tryz.prog W 0 (fun _ => true) true Tryz.f9.params.toList args.toList ds p := hA0
  rw [Tryz.params9] at hA hval
  obtain ⟨v0, vs0, d0, ds0, p0, q0, hargs, rfl, rfl, h0, r0⟩ := trodAll_cons hA
  obtain ⟨v1, vs1, d1, ds1, p1, q1, rfl, rfl, rfl, h1, r1⟩ := trodAll_cons r0
  obtain ⟨rfl, rfl, rfl⟩ := trodAll_nil r1
  obtain rfl : args = #[v0, v1] := by cases args; simp_all
  obtain ⟨rfl, rfl⟩ := trodVars_none hV
  have hz : Rows.uptoBulkAll ([d0, d1] ++ []) ≤ 1048576 := of_decide_eq_true (hk _ rfl)
  simp only [List.append_nil, Rows.uptoBulkAll] at hz
  have k0 := h0
  have lt0 : ∀ x ∈ p0, x.block < W.heap.size := by obtain ⟨m, hm⟩ := k0; exact DataW.trod_lt m _ _ _ hm
  have k1 := h1
  have lt1 : ∀ x ∈ p1, x.block < W.heap.size := by obtain ⟨m, hm⟩ := k1; exact DataW.trod_lt m _ _ _ hm
  obtain ⟨t0, rfl, i0, b0, n0⟩ := tm_arg_sz (hval 0 27 v0 rfl rfl) h0
  obtain ⟨z1, rfl, rfl, rfl, _⟩ := Go.ChangeShapes.open_int Tryz.underlying3 (hval 1 3 v1 rfl rfl) h1
  clear hA0 hval0
  have hgl : Gl W := gl_rows hL hsh
  refine (runTells_any t0 z1 W hgl i0 (ok_more n0 (by omega)) (by omega)).mono fun e W' ⟨he, bel⟩ => ?_
  subst he
  exact ⟨_, rfl, _, _, _, [], _, [], hW', trodAll_mk1 (shut_bool Tryz.underlying4 _), (trodAll_cons_mk (Below.trod runTells_laidOut (by kernel_rfl) (of_decide_eq_true (by kernel_rfl)) k0 bel lt0) (trodAll_cons_mk (Below.trod runTells_laidOut (by kernel_rfl) (of_decide_eq_true (by kernel_rfl)) k1 bel lt1) trodAll_mk0)), rfl, bel.frame _, fun h => by cases h⟩
set_option maxRecDepth 100000 in
theorem runTells_said : Rows.RunTellsUptoSaid :=
  OpenClaim.holds_of_cond 9 Tryz.f9 rfl rfl rfl rfl rfl rfl rfl ⟨rfl, rfl, rfl, rfl, rfl⟩ rfl rfl rfl rfl rfl (by kernel_rfl) Tryz.func9 (by kernel_rfl)
    (of_decide_eq_true (by kernel_rfl)) (by unfold Func.isWrapper; first | (rw [if_pos (by decide +kernel)]; kernel_rfl) | (rw [if_neg (by decide +kernel)]; exact ⟨rfl, rfl⟩))
    (fun os started H enc _ F => by rw [OpenClaim.pre_eq_preRow]; exact runTells_lifted os started H enc F)
/-- No parameter wants a stand-in; the program's own looks are off. -/
theorem runTells_plain (f : FuncId) (fn : Func) (hf : Tryz.pinned.checked.prog.funcNamed "chaperone/chaperonelaw.RunTells" = some f) (hfn : Tryz.pinned.checked.prog.funcs[f]? = some fn) :
    true = Tryz.pinned.checked.prog.looks [] ∧ ∀ (j : Nat) t, fn.params[j]? = some t → Tryz.pinned.checked.prog.wantsStandIn t = false := by
  obtain rfl : f = 9 := Option.some.inj ((show Tryz.prog.funcNamed "chaperone/chaperonelaw.RunTells" = some 9 by kernel_rfl).symm.trans hf) |>.symm
  obtain rfl : fn = Tryz.f9 := (Option.some.inj (Tryz.func9.symm.trans hfn)).symm
  refine ⟨by kernel_rfl, fun j t ht => ?_⟩
  rw [Tryz.params9] at ht
  have hm := Array.mem_of_getElem? ht
  obtain rfl | rfl : t = 27 ∨ t = 3 := by simpa using hm
  · exact (show Tryz.prog.wantsStandIn 27 = false by kernel_rfl)
  · exact (show Tryz.prog.wantsStandIn 3 = false by kernel_rfl)
theorem runTells_card : Rows.RunTellsUptoCardSaid :=
  Claim7.holds_tied_plain_at .later [] _ _ _ _ runTells_said (fun _ h => by cases h) (by kernel_rfl) (fun _ h => by cases h) runTellsUpto_row_tie rfl ⟨rfl, rfl⟩ (by kernel_rfl) rfl runTells_plain (by kernel_rfl)
#print axioms runTells_card
end Go.Proofs.YtnddkmccagiclabGreatDoor
