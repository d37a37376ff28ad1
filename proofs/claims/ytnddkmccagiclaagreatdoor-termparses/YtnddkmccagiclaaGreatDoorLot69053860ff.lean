/-
  For every text, the call of chaperonelaw.TermParses returns true and leaves its argument as it was: Parse answers exactly what the document says, errors too. The condition: the package-level tables hold what the program's text lays (the card ties that).
-/
import Derived.Test.YtnddkmccagiclaaGreatDoorLotf2e7923033
import Derived.Test.YtnddkmccagiclaaGreatDoorCards
import Derived.Test.YtnddkmccagiclaaGreatDoorTie
import Derived.ProofKit
import Derived.OpenShut
import Derived.ShutString
import Derived.ChangeOld
import Derived.Deep.DeepHandedRow
import Derived.Deep.DeepWitnessRowRef
namespace Go.Proofs.YtnddkmccagiclaaGreatDoor
open Go.ChangeShapes Go.WideShapes Go.ChangeAt Go.RowKit

theorem termParses_own : ownKnob Tryz.prog.godebug = none := by kernel_rfl
theorem termParses_laidOut : laidOutB Tryz.prog = true := by kernel_rfl

/-- The values of a table's datum. -/
def termParses_flatD : Nat → DataW Unit → List Value
  | 0, _ => []
  | n + 1, .agg l => l.flatMap fun d => termParses_flatD n d
  | _ + 1, .lit (.int k z) => [.int k z]
  | _ + 1, .lit (.string s) => [.string ⟨s.toArray⟩]
  | _ + 1, _ => []

def termParses_layV (g : Nat) (cs : List Value) (h : Array Obj) : Array Obj := h.modify g fun
  | .cells _ t fr => .cells cs.toArray t fr
  | o => o

def termParses_layAll (low : Nat) (h : Array Obj) : Array Obj :=
  termParses_layV 5 [.pointer (some ⟨low + 3, 0, none⟩)] (termParses_layV 10 [.iface 251 (.pointer (some ⟨low, 0, none⟩))] (termParses_layV 11 [.iface 251 (.pointer (some ⟨low + 1, 0, none⟩))] (termParses_layV 4 (termParses_flatD 3 Rows.laid_strings_asciiSpace) (termParses_layV 0 (termParses_flatD 3 Rows.laid_chaperone_term_truthWords) (termParses_layV 1 (termParses_flatD 3 Rows.laid_chaperone_term_words) (termParses_layV 2 (termParses_flatD 3 Rows.laid_chaperone_term_parts) (termParses_layV 3 (termParses_flatD 3 Rows.laid_chaperone_term_typeWords) (termParses_layV 7 (termParses_flatD 3 Rows.laid_internal_strconv_uint64pow10) (termParses_layV 8 (termParses_flatD 3 Rows.laid_unicode_utf8_first) (termParses_layV 9 (termParses_flatD 3 Rows.laid_unicode_utf8_acceptRanges) (termParses_layV 12 (termParses_flatD 3 Rows.laid_math_bits_deBruijn32tab) (termParses_layV 13 (termParses_flatD 3 Rows.laid_math_bits_deBruijn64tab) h))))))))))))

def termParses_layW (low : Nat) (w : World) : World := { w with heap := termParses_layAll low w.heap }

def termParses_synO : Obj := .cells #[.string ⟨#[105, 110, 118, 97, 108, 105, 100, 32, 115, 121, 110, 116, 97, 120]⟩] 253
def termParses_rngO : Obj := .cells #[.string ⟨#[118, 97, 108, 117, 101, 32, 111, 117, 116, 32, 111, 102, 32, 114, 97, 110, 103, 101]⟩] 253
def termParses_r16O : Obj := .cells #[.int .u16 9, .int .u16 13, .int .u16 1, .int .u16 32, .int .u16 133, .int .u16 101, .int .u16 160, .int .u16 5760, .int .u16 5600, .int .u16 8192, .int .u16 8202, .int .u16 1, .int .u16 8232, .int .u16 8233, .int .u16 1, .int .u16 8239, .int .u16 8287, .int .u16 48, .int .u16 12288, .int .u16 12288, .int .u16 1] 202
def termParses_tabO (low : Nat) : Obj := .cells #[.slice (some ⟨low + 2, 0, none⟩) 7 7, .slice none 0 0, .int .i64 2] 199
def termParses_args : Array Value := #[.string ⟨#[]⟩]

set_option maxRecDepth 100000 in
theorem termParses_laid (os : Os) : laidMet Tryz.prog Rows.termParsesRow.laid ((termParses_layW (World.holding Tryz.prog default ⟨#[], #[], []⟩).heap.size (World.holding Tryz.prog os ⟨#[termParses_synO, termParses_rngO, termParses_r16O, termParses_tabO (World.holding Tryz.prog default ⟨#[], #[], []⟩).heap.size], #[], []⟩)).forCall (fun _ _ => 0) ⟨#[], termParses_args, []⟩).memory :=
  laidMet_of_key 8 [12, 13, 7, 9, 11, 21, 10, 20, 5, 23, 22, 4, 1, 0, 3, 2, 8] (by kernel_rfl) (by kernel_rfl)

set_option maxRecDepth 100000 in
theorem termParses_reads (os : Os) {H : Type} (enc : TypeId × Value → H) : ∃ places, DataW.whole enc Tryz.prog ((termParses_layW (World.holding Tryz.prog default ⟨#[], #[], []⟩).heap.size (World.holding Tryz.prog os ⟨#[termParses_synO, termParses_rngO, termParses_r16O, termParses_tabO (World.holding Tryz.prog default ⟨#[], #[], []⟩).heap.size], #[], []⟩)).forCall (fun _ _ => 0) ⟨#[], termParses_args, []⟩).memory Tryz.f4.params.toList Rows.termParsesSpec.vars false termParses_args.toList 8 =
    some ([.lit (.string [])], [], places) :=
  ⟨[], by kernel_rfl⟩

set_option maxRecDepth 100000 in
theorem termParses_lifted (os : Os) (started : os.Started) (H : Type) (enc : TypeId × Value → H) (F : Stop.Interp) :
    ReturnsInHanded {} Tryz.checked os 4 .any ((OpenSpec.ofChange Rows.termParsesSpec).preRow enc Tryz.prog Tryz.f4 Rows.termParsesRow.domain false Rows.termParsesRow.laid) (((OpenSpec.ofChange Rows.termParsesSpec).at F).post enc Tryz.prog Tryz.f4 false true false false) := by
  obtain ⟨places, hx⟩ := termParses_reads os enc
  refine returnsInHanded_of_row (C := Tryz.checked) (s := OpenSpec.ofChange Rows.termParsesSpec) termParses_own started (by kernel_rfl) Tryz.func4
    (witness_row_atRef (enc := enc) (C := Tryz.checked) false (termParses_layW (World.holding Tryz.prog default ⟨#[], #[], []⟩).heap.size (World.holding Tryz.prog os ⟨#[termParses_synO, termParses_rngO, termParses_r16O, termParses_tabO (World.holding Tryz.prog default ⟨#[], #[], []⟩).heap.size], #[], []⟩)) termParses_args rfl (by kernel_rfl) (by kernel_rfl) (by kernel_rfl)
      (OpenSpec.preRow_of_cond 8 hx (by kernel_rfl) (fun k hk => by cases hk) (by kernel_rfl) (termParses_laid os))) ?_
  intro W base args ds gs before hval0 hW _ hk hwt hL hsh _
  have hval : ∀ (j : Nat) t v, Tryz.f4.params[j]? = some t → args[j]? = some v → Value.okWide Tryz.prog W .any base t v := hval0
  have hW' := hW
  obtain ⟨p, q, hA0, hV, rfl, hfz, hnd⟩ := hW
  have hA : DataW.TrodAll enc Tryz.prog W 0 (fun _ => true) true Tryz.f4.params.toList args.toList ds p := hA0
  rw [Tryz.params4] at hA hval
  obtain ⟨v0, vs0, d0, ds0, p0, q0, hargs, rfl, rfl, h0, r0⟩ := trodAll_cons hA
  obtain ⟨rfl, rfl, rfl⟩ := trodAll_nil r0
  obtain rfl : args = #[v0] := by cases args; simp_all
  obtain ⟨rfl, rfl⟩ := trodVars_none hV
  have k0 := h0
  have lt0 : ∀ x ∈ p0, x.block < W.heap.size := by obtain ⟨m, hm⟩ := k0; exact DataW.trod_lt m _ _ _ hm
  obtain ⟨s0, rfl, _, _, hsz0⟩ := Go.ChangeMaps.open_string Tryz.underlying9 (hval 0 9 v0 rfl rfl) h0
  clear hA0 hval0
  obtain ⟨hgl, hta⟩ : Gl W ∧ Ta W := gl_rows13 hL hsh
  refine (tmParses_any s0 W (by unfold maxLen at hsz0; omega) hgl hta).mono fun e W' ⟨he, bel⟩ => ?_
  subst he
  exact ⟨_, rfl, _, _, _, [], _, [], hW', trodAll_mk1 (shut_bool Tryz.underlying4 _), (trodAll_cons_mk (Below.trod termParses_laidOut (by kernel_rfl) (of_decide_eq_true (by kernel_rfl)) k0 bel lt0) trodAll_mk0), rfl, bel.frame _, fun h => by cases h⟩

set_option maxRecDepth 100000 in
theorem termParses_said : Rows.TermParsesSaid :=
  OpenClaim.holds_of_cond 4 Tryz.f4 rfl rfl rfl rfl rfl rfl rfl ⟨rfl, rfl, rfl, rfl, rfl⟩ rfl rfl rfl rfl rfl (by kernel_rfl) Tryz.func4 (by kernel_rfl)
    (of_decide_eq_true (by kernel_rfl)) (by unfold Func.isWrapper; first | (rw [if_pos (by decide +kernel)]; kernel_rfl) | (rw [if_neg (by decide +kernel)]; exact ⟨rfl, rfl⟩))
    (fun os started H enc _ F => by rw [OpenClaim.pre_eq_preRow]; exact termParses_lifted os started H enc F)

/-- No parameter wants a stand-in; the program's own looks are off. -/
theorem termParses_plain (f : FuncId) (fn : Func) (hf : Tryz.pinned.checked.prog.funcNamed "chaperone/chaperonelaw.TermParses" = some f) (hfn : Tryz.pinned.checked.prog.funcs[f]? = some fn) :
    true = Tryz.pinned.checked.prog.looks [] ∧ ∀ (j : Nat) t, fn.params[j]? = some t → Tryz.pinned.checked.prog.wantsStandIn t = false := by
  obtain rfl : f = 4 := Option.some.inj ((show Tryz.prog.funcNamed "chaperone/chaperonelaw.TermParses" = some 4 by kernel_rfl).symm.trans hf) |>.symm
  obtain rfl : fn = Tryz.f4 := (Option.some.inj (Tryz.func4.symm.trans hfn)).symm
  refine ⟨by kernel_rfl, fun j t ht => ?_⟩
  rw [Tryz.params4] at ht
  have hm := Array.mem_of_getElem? ht
  obtain rfl : t = 9 := by simpa using hm
  exact (show Tryz.prog.wantsStandIn 9 = false by kernel_rfl)

theorem termParses_card : Rows.TermParsesCardSaid :=
  Claim7.holds_tied_plain_at .later [] _ _ _ _ termParses_said (fun _ h => by cases h) (by kernel_rfl) (fun _ h => by cases h) termParses_row_tie rfl ⟨rfl, rfl⟩ (by kernel_rfl) rfl termParses_plain (by kernel_rfl)

#print axioms termParses_card
end Go.Proofs.YtnddkmccagiclaaGreatDoor
