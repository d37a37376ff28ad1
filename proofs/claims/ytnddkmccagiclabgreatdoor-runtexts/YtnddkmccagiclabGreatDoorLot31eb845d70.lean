/-
  For every text and every number of calls the call of chaperonelaw.RunTexts returns true and leaves its arguments as they were: Text answers what the document's own answer says, errors too. The condition: the package-level tables hold what the program's text lays (the card ties that).
-/
import Derived.Test.YtnddkmccagiclabGreatDoorLot9a53dcdd9d
import Derived.Test.YtnddkmccagiclabGreatDoorCards
import Derived.Test.YtnddkmccagiclabGreatDoorTie
import Derived.ProofKit
import Derived.OpenShut
import Derived.ShutString
import Derived.ChangeOld
import Derived.Deep.DeepHandedRow
import Derived.Deep.DeepWitnessRowRef
/-
  For every text and every number of calls the call of chaperonelaw.RunTexts returns true and leaves its arguments as they were: Text answers what the document's own answer says, errors too. The condition: the package-level tables hold what the program's text lays (the card ties that).
-/
namespace Go.Proofs.YtnddkmccagiclabGreatDoor
open Go.ChangeShapes Go.WideShapes Go.ChangeAt Go.RowKit
theorem runTexts_own : ownKnob Tryz.prog.godebug = none := by kernel_rfl
theorem runTexts_laidOut : laidOutB Tryz.prog = true := by kernel_rfl
/-- The values of a table's datum. -/
def runTexts_flatD : Nat → DataW Unit → List Value
  | 0, _ => []
  | n + 1, .agg l => l.flatMap fun d => runTexts_flatD n d
  | _ + 1, .lit (.int k z) => [.int k z]
  | _ + 1, .lit (.string s) => [.string ⟨s.toArray⟩]
  | _ + 1, _ => []
def runTexts_layV (g : Nat) (cs : List Value) (h : Array Obj) : Array Obj := h.modify g fun
  | .cells _ t fr => .cells cs.toArray t fr
  | o => o
def runTexts_layAll (low : Nat) (h : Array Obj) : Array Obj :=
  runTexts_layV 5 [.pointer (some ⟨low + 3, 0, none⟩)] (runTexts_layV 9 [.iface 261 (.pointer (some ⟨low, 0, none⟩))] (runTexts_layV 10 [.iface 261 (.pointer (some ⟨low + 1, 0, none⟩))] (runTexts_layV 3 (runTexts_flatD 3 Rows.laid_strings_asciiSpace) (runTexts_layV 1 (runTexts_flatD 3 Rows.laid_chaperone_term_truthWords) (runTexts_layV 2 (runTexts_flatD 3 Rows.laid_chaperone_term_words) (runTexts_layV 0 (runTexts_flatD 3 Rows.laid_chaperone_term_parts) (runTexts_layV 4 (runTexts_flatD 3 Rows.laid_chaperone_term_typeWords) (runTexts_layV 11 (runTexts_flatD 3 Rows.laid_internal_strconv_uint64pow10) (runTexts_layV 7 (runTexts_flatD 3 Rows.laid_unicode_utf8_first) (runTexts_layV 8 (runTexts_flatD 3 Rows.laid_unicode_utf8_acceptRanges) (runTexts_layV 12 (runTexts_flatD 3 Rows.laid_math_bits_deBruijn32tab) (runTexts_layV 13 (runTexts_flatD 3 Rows.laid_math_bits_deBruijn64tab) h))))))))))))
def runTexts_layW (low : Nat) (w : World) : World := { w with heap := runTexts_layAll low w.heap }
def runTexts_synO : Obj := .cells #[.string ⟨#[105, 110, 118, 97, 108, 105, 100, 32, 115, 121, 110, 116, 97, 120]⟩] 263
def runTexts_rngO : Obj := .cells #[.string ⟨#[118, 97, 108, 117, 101, 32, 111, 117, 116, 32, 111, 102, 32, 114, 97, 110, 103, 101]⟩] 263
def runTexts_r16O : Obj := .cells #[.int .u16 9, .int .u16 13, .int .u16 1, .int .u16 32, .int .u16 133, .int .u16 101, .int .u16 160, .int .u16 5760, .int .u16 5600, .int .u16 8192, .int .u16 8202, .int .u16 1, .int .u16 8232, .int .u16 8233, .int .u16 1, .int .u16 8239, .int .u16 8287, .int .u16 48, .int .u16 12288, .int .u16 12288, .int .u16 1] 251
def runTexts_tabO (low : Nat) : Obj := .cells #[.slice (some ⟨low + 2, 0, none⟩) 7 7, .slice none 0 0, .int .i64 2] 248
def runTexts_args : Array Value := #[.string ⟨#[]⟩, .int .i64 0]
set_option maxRecDepth 100000 in
theorem runTexts_laid (os : Os) : laidMet Tryz.prog Rows.runTextsRow.laid ((runTexts_layW (World.holding Tryz.prog default ⟨#[], #[], []⟩).heap.size (World.holding Tryz.prog os ⟨#[runTexts_synO, runTexts_rngO, runTexts_r16O, runTexts_tabO (World.holding Tryz.prog default ⟨#[], #[], []⟩).heap.size], #[], []⟩)).forCall (fun _ _ => 0) ⟨#[], runTexts_args, []⟩).memory :=
  laidMet_of_key 8 [12, 13, 11, 8, 10, 21, 9, 20, 5, 23, 22, 3, 2, 1, 4, 0, 7] (by kernel_rfl) (by kernel_rfl)
set_option maxRecDepth 100000 in
theorem runTexts_reads (os : Os) {H : Type} (enc : TypeId × Value → H) : ∃ places, DataW.whole enc Tryz.prog ((runTexts_layW (World.holding Tryz.prog default ⟨#[], #[], []⟩).heap.size (World.holding Tryz.prog os ⟨#[runTexts_synO, runTexts_rngO, runTexts_r16O, runTexts_tabO (World.holding Tryz.prog default ⟨#[], #[], []⟩).heap.size], #[], []⟩)).forCall (fun _ _ => 0) ⟨#[], runTexts_args, []⟩).memory Tryz.f10.params.toList Rows.runTextsSpec.vars false runTexts_args.toList 8 =
    some ([.lit (.string []), .lit (.int .i64 0)], [], places) :=
  ⟨[], by kernel_rfl⟩
set_option maxRecDepth 100000 in
theorem runTexts_lifted (os : Os) (started : os.Started) (H : Type) (enc : TypeId × Value → H) (F : Stop.Interp) :
    ReturnsInHanded {} Tryz.checked os 10 .any ((OpenSpec.ofChange Rows.runTextsSpec).preRow enc Tryz.prog Tryz.f10 Rows.runTextsRow.domain false Rows.runTextsRow.laid) (((OpenSpec.ofChange Rows.runTextsSpec).at F).post enc Tryz.prog Tryz.f10 false true false false) := by
  obtain ⟨places, hx⟩ := runTexts_reads os enc
  refine returnsInHanded_of_row (C := Tryz.checked) (s := OpenSpec.ofChange Rows.runTextsSpec) runTexts_own started (by kernel_rfl) Tryz.func10
    (witness_row_atRef (enc := enc) (C := Tryz.checked) false (runTexts_layW (World.holding Tryz.prog default ⟨#[], #[], []⟩).heap.size (World.holding Tryz.prog os ⟨#[runTexts_synO, runTexts_rngO, runTexts_r16O, runTexts_tabO (World.holding Tryz.prog default ⟨#[], #[], []⟩).heap.size], #[], []⟩)) runTexts_args rfl (by kernel_rfl) (by kernel_rfl) (by kernel_rfl)
      (OpenSpec.preRow_of_cond 8 hx (by kernel_rfl) (fun k hk => by cases hk) (by kernel_rfl) (runTexts_laid os))) ?_
  intro W base args ds gs before hval0 hW _ hk hwt hL hsh _
  have hval : ∀ (j : Nat) t v, Tryz.f10.params[j]? = some t → args[j]? = some v → Value.okWide Tryz.prog W .any base t v := hval0
  have hW' := hW
  obtain ⟨p, q, hA0, hV, rfl, hfz, hnd⟩ := hW
  have hA : DataW.TrodAll enc Tryz.prog W 0 (fun _ => true) true Tryz.f10.params.toList args.toList ds p := hA0
  rw [Tryz.params10] at hA hval
  obtain ⟨v0, vs0, d0, ds0, p0, q0, hargs, rfl, rfl, h0, r0⟩ := trodAll_cons hA
  obtain ⟨v1, vs1, d1, ds1, p1, q1, rfl, rfl, rfl, h1, r1⟩ := trodAll_cons r0
  obtain ⟨rfl, rfl, rfl⟩ := trodAll_nil r1
  obtain rfl : args = #[v0, v1] := by cases args; simp_all
  obtain ⟨rfl, rfl⟩ := trodVars_none hV
  have k0 := h0
  have lt0 : ∀ x ∈ p0, x.block < W.heap.size := by obtain ⟨m, hm⟩ := k0; exact DataW.trod_lt m _ _ _ hm
  have k1 := h1
  have lt1 : ∀ x ∈ p1, x.block < W.heap.size := by obtain ⟨m, hm⟩ := k1; exact DataW.trod_lt m _ _ _ hm
  obtain ⟨s0, rfl, _, _, hsz0⟩ := Go.ChangeMaps.open_string Tryz.underlying9 (hval 0 9 v0 rfl rfl) h0
  obtain ⟨z1, rfl, rfl, rfl, _⟩ := Go.ChangeShapes.open_int Tryz.underlying3 (hval 1 3 v1 rfl rfl) h1
  clear hA0 hval0
  obtain ⟨hgl, hta⟩ : Gl W ∧ Ta W := gl_rows13 hL hsh
  refine (runTexts_any s0 hsz0 z1 W hgl hta).mono fun e W' ⟨he, bel⟩ => ?_
  subst he
  exact ⟨_, rfl, _, _, _, [], _, [], hW', trodAll_mk1 (shut_bool Tryz.underlying4 _), (trodAll_cons_mk (Below.trod runTexts_laidOut (by kernel_rfl) (of_decide_eq_true (by kernel_rfl)) k0 bel lt0) (trodAll_cons_mk (Below.trod runTexts_laidOut (by kernel_rfl) (of_decide_eq_true (by kernel_rfl)) k1 bel lt1) trodAll_mk0)), rfl, bel.frame _, fun h => by cases h⟩
set_option maxRecDepth 100000 in
theorem runTexts_said : Rows.RunTextsSaid :=
  OpenClaim.holds_of_cond 10 Tryz.f10 rfl rfl rfl rfl rfl rfl rfl ⟨rfl, rfl, rfl, rfl, rfl⟩ rfl rfl rfl rfl rfl (by kernel_rfl) Tryz.func10 (by kernel_rfl)
    (of_decide_eq_true (by kernel_rfl)) (by unfold Func.isWrapper; first | (rw [if_pos (by decide +kernel)]; kernel_rfl) | (rw [if_neg (by decide +kernel)]; exact ⟨rfl, rfl⟩))
    (fun os started H enc _ F => by rw [OpenClaim.pre_eq_preRow]; exact runTexts_lifted os started H enc F)
/-- No parameter wants a stand-in; the program's own looks are off. -/
theorem runTexts_plain (f : FuncId) (fn : Func) (hf : Tryz.pinned.checked.prog.funcNamed "chaperone/chaperonelaw.RunTexts" = some f) (hfn : Tryz.pinned.checked.prog.funcs[f]? = some fn) :
    true = Tryz.pinned.checked.prog.looks [] ∧ ∀ (j : Nat) t, fn.params[j]? = some t → Tryz.pinned.checked.prog.wantsStandIn t = false := by
  obtain rfl : f = 10 := Option.some.inj ((show Tryz.prog.funcNamed "chaperone/chaperonelaw.RunTexts" = some 10 by kernel_rfl).symm.trans hf) |>.symm
  obtain rfl : fn = Tryz.f10 := (Option.some.inj (Tryz.func10.symm.trans hfn)).symm
  refine ⟨by kernel_rfl, fun j t ht => ?_⟩
  rw [Tryz.params10] at ht
  have hm := Array.mem_of_getElem? ht
  obtain rfl | rfl : t = 9 ∨ t = 3 := by simpa using hm
  · exact (show Tryz.prog.wantsStandIn 9 = false by kernel_rfl)
  · exact (show Tryz.prog.wantsStandIn 3 = false by kernel_rfl)
theorem runTexts_card : Rows.RunTextsCardSaid :=
  Claim7.holds_tied_plain_at .later [] _ _ _ _ runTexts_said (fun _ h => by cases h) (by kernel_rfl) (fun _ h => by cases h) runTexts_row_tie rfl ⟨rfl, rfl⟩ (by kernel_rfl) rfl runTexts_plain (by kernel_rfl)
#print axioms runTexts_card
end Go.Proofs.YtnddkmccagiclabGreatDoor
