/-
  For every two terms and every number, together of bulk at most 1048576, however they lie in memory, the call of chaperonelaw.TermTells returns true and leaves its arguments as they were: Good, Nodes, Same and Print answer what the document's own answers say, errors too. The condition: the package-level tables hold what the program's text lays (the card ties that).
-/
import Derived.Test.YtnddkmccagiclaaGreatDoorLot6d2feb57cc
import Derived.Test.YtnddkmccagiclaaGreatDoorLot924eb53265
import Derived.Test.YtnddkmccagiclaaGreatDoorCards
import Derived.Test.YtnddkmccagiclaaGreatDoorTie
import Derived.ProofKit
import Derived.OpenShut
import Derived.ShutString
import Derived.ChangeOld
import Derived.Deep.DeepHandedRow
import Derived.Deep.DeepWitnessRowRef
namespace Go.Proofs.YtnddkmccagiclaaGreatDoor
open Go.ChangeShapes Go.WideShapes Go.ChangeAt Go.RowKit

theorem termTells_own : ownKnob Tryz.prog.godebug = none := by kernel_rfl
theorem termTells_laidOut : laidOutB Tryz.prog = true := by kernel_rfl

/-- The values of a table's datum. -/
def termTells_flatD : Nat → DataW Unit → List Value
  | 0, _ => []
  | n + 1, .agg l => l.flatMap fun d => termTells_flatD n d
  | _ + 1, .lit (.int k z) => [.int k z]
  | _ + 1, .lit (.string s) => [.string ⟨s.toArray⟩]
  | _ + 1, _ => []

def termTells_layV (g : Nat) (cs : List Value) (h : Array Obj) : Array Obj := h.modify g fun
  | .cells _ t fr => .cells cs.toArray t fr
  | o => o

def termTells_layAll (low : Nat) (h : Array Obj) : Array Obj :=
  termTells_layV 5 [.pointer (some ⟨low + 3, 0, none⟩)] (termTells_layV 10 [.iface 251 (.pointer (some ⟨low, 0, none⟩))] (termTells_layV 11 [.iface 251 (.pointer (some ⟨low + 1, 0, none⟩))] (termTells_layV 4 (termTells_flatD 3 Rows.laid_strings_asciiSpace) (termTells_layV 0 (termTells_flatD 3 Rows.laid_chaperone_term_truthWords) (termTells_layV 1 (termTells_flatD 3 Rows.laid_chaperone_term_words) (termTells_layV 2 (termTells_flatD 3 Rows.laid_chaperone_term_parts) (termTells_layV 3 (termTells_flatD 3 Rows.laid_chaperone_term_typeWords) (termTells_layV 7 (termTells_flatD 3 Rows.laid_internal_strconv_uint64pow10) (termTells_layV 8 (termTells_flatD 3 Rows.laid_unicode_utf8_first) (termTells_layV 9 (termTells_flatD 3 Rows.laid_unicode_utf8_acceptRanges) (termTells_layV 12 (termTells_flatD 3 Rows.laid_math_bits_deBruijn32tab) (termTells_layV 13 (termTells_flatD 3 Rows.laid_math_bits_deBruijn64tab) h))))))))))))

def termTells_layW (low : Nat) (w : World) : World := { w with heap := termTells_layAll low w.heap }

def termTells_synO : Obj := .cells #[.string ⟨#[105, 110, 118, 97, 108, 105, 100, 32, 115, 121, 110, 116, 97, 120]⟩] 253
def termTells_rngO : Obj := .cells #[.string ⟨#[118, 97, 108, 117, 101, 32, 111, 117, 116, 32, 111, 102, 32, 114, 97, 110, 103, 101]⟩] 253
def termTells_r16O : Obj := .cells #[.int .u16 9, .int .u16 13, .int .u16 1, .int .u16 32, .int .u16 133, .int .u16 101, .int .u16 160, .int .u16 5760, .int .u16 5600, .int .u16 8192, .int .u16 8202, .int .u16 1, .int .u16 8232, .int .u16 8233, .int .u16 1, .int .u16 8239, .int .u16 8287, .int .u16 48, .int .u16 12288, .int .u16 12288, .int .u16 1] 202
def termTells_tabO (low : Nat) : Obj := .cells #[.slice (some ⟨low + 2, 0, none⟩) 7 7, .slice none 0 0, .int .i64 2] 199
def termTells_args : Array Value := #[.agg #[.int .i64 0, .int .i64 0, .int .i64 0, .slice none 0 0, .int .i64 0, .slice none 0 0, .slice none 0 0], .agg #[.int .i64 0, .int .i64 0, .int .i64 0, .slice none 0 0, .int .i64 0, .slice none 0 0, .slice none 0 0], .int .i64 0]

set_option maxRecDepth 100000 in
theorem termTells_laid (os : Os) : laidMet Tryz.prog Rows.termTellsUptoRow.laid ((termTells_layW (World.holding Tryz.prog default ⟨#[], #[], []⟩).heap.size (World.holding Tryz.prog os ⟨#[termTells_synO, termTells_rngO, termTells_r16O, termTells_tabO (World.holding Tryz.prog default ⟨#[], #[], []⟩).heap.size], #[], []⟩)).forCall (fun _ _ => 0) ⟨#[], termTells_args, []⟩).memory :=
  laidMet_of_key 8 [12, 13, 7, 9, 11, 21, 10, 20, 5, 23, 22, 4, 1, 0, 3, 2, 8] (by kernel_rfl) (by kernel_rfl)

set_option maxRecDepth 100000 in
theorem termTells_reads (os : Os) {H : Type} (enc : TypeId × Value → H) : ∃ places, DataW.whole enc Tryz.prog ((termTells_layW (World.holding Tryz.prog default ⟨#[], #[], []⟩).heap.size (World.holding Tryz.prog os ⟨#[termTells_synO, termTells_rngO, termTells_r16O, termTells_tabO (World.holding Tryz.prog default ⟨#[], #[], []⟩).heap.size], #[], []⟩)).forCall (fun _ _ => 0) ⟨#[], termTells_args, []⟩).memory Tryz.f3.params.toList Rows.termTellsSpec.vars false termTells_args.toList 8 =
    some ([.agg [.lit (.int .i64 0), .lit (.int .i64 0), .agg [.lit (.int .i64 0), .nil], .agg [.lit (.int .i64 0), .nil], .nil], .agg [.lit (.int .i64 0), .lit (.int .i64 0), .agg [.lit (.int .i64 0), .nil], .agg [.lit (.int .i64 0), .nil], .nil], .lit (.int .i64 0)], [], places) :=
  ⟨[], by kernel_rfl⟩

set_option maxRecDepth 100000 in
theorem termTells_lifted (os : Os) (started : os.Started) (H : Type) (enc : TypeId × Value → H) (F : Stop.Interp) :
    ReturnsInHanded {} Tryz.checked os 3 .any ((Rows.OpenSpec.upto Rows.termTellsSpec).preRow enc Tryz.prog Tryz.f3 Rows.termTellsUptoRow.domain false Rows.termTellsUptoRow.laid) (((Rows.OpenSpec.upto Rows.termTellsSpec).at F).post enc Tryz.prog Tryz.f3 false true false false) := by
  obtain ⟨places, hx⟩ := termTells_reads os enc
  refine returnsInHanded_of_row (C := Tryz.checked) (s := Rows.OpenSpec.upto Rows.termTellsSpec) termTells_own started (by kernel_rfl) Tryz.func3
    (witness_row_atRef (enc := enc) (C := Tryz.checked) false (termTells_layW (World.holding Tryz.prog default ⟨#[], #[], []⟩).heap.size (World.holding Tryz.prog os ⟨#[termTells_synO, termTells_rngO, termTells_r16O, termTells_tabO (World.holding Tryz.prog default ⟨#[], #[], []⟩).heap.size], #[], []⟩)) termTells_args rfl (by kernel_rfl) (by kernel_rfl) (by kernel_rfl)
      (OpenSpec.preRow_of_cond 8 hx (by kernel_rfl) (fun k hk => by obtain rfl : Rows.uptoSmall = k := Option.some.inj hk; rfl) (by kernel_rfl) (termTells_laid os))) ?_
  intro W base args ds gs before hval0 hW _ hk hwt hL hsh _
  have hval : ∀ (j : Nat) t v, Tryz.f3.params[j]? = some t → args[j]? = some v → Value.okWide Tryz.prog W .any base t v := hval0
  have hW' := hW
  obtain ⟨p, q, hA0, hV, rfl, hfz, hnd⟩ := hW
  have hA : DataW.TrodAll enc Tryz.prog W 0 (fun _ => true) true Tryz.f3.params.toList args.toList ds p := hA0
  rw [Tryz.params3] at hA hval
  obtain ⟨v0, vs0, d0, ds0, p0, q0, hargs, rfl, rfl, h0, r0⟩ := trodAll_cons hA
  obtain ⟨v1, vs1, d1, ds1, p1, q1, rfl, rfl, rfl, h1, r1⟩ := trodAll_cons r0
  obtain ⟨v2, vs2, d2, ds2, p2, q2, rfl, rfl, rfl, h2, r2⟩ := trodAll_cons r1
  obtain ⟨rfl, rfl, rfl⟩ := trodAll_nil r2
  obtain rfl : args = #[v0, v1, v2] := by cases args; simp_all
  obtain ⟨rfl, rfl⟩ := trodVars_none hV
  have hz : Rows.uptoBulkAll ([d0, d1, d2] ++ []) ≤ 1048576 := of_decide_eq_true (hk _ rfl)
  simp only [List.append_nil, Rows.uptoBulkAll] at hz
  have k0 := h0
  have lt0 : ∀ x ∈ p0, x.block < W.heap.size := by obtain ⟨m, hm⟩ := k0; exact DataW.trod_lt m _ _ _ hm
  have k1 := h1
  have lt1 : ∀ x ∈ p1, x.block < W.heap.size := by obtain ⟨m, hm⟩ := k1; exact DataW.trod_lt m _ _ _ hm
  have k2 := h2
  have lt2 : ∀ x ∈ p2, x.block < W.heap.size := by obtain ⟨m, hm⟩ := k2; exact DataW.trod_lt m _ _ _ hm
  obtain ⟨t0, rfl, i0, b0, n0⟩ := tm_arg_sz (hval 0 27 v0 rfl rfl) h0
  obtain ⟨t1, rfl, i1, b1, n1⟩ := tm_arg_sz (hval 1 27 v1 rfl rfl) h1
  obtain ⟨z2, rfl, rfl, rfl, _⟩ := Go.ChangeShapes.open_int Tryz.underlying3 (hval 2 3 v2 rfl rfl) h2
  clear hA0 hval0
  obtain ⟨hgl, hta⟩ : Gl W ∧ Ta W := gl_rows13 hL hsh
  refine (tmTells_any t0 t1 z2 W hgl hta i0 i1 (ok_more n0 (by omega)) (by omega)).mono fun e W' ⟨he, bel⟩ => ?_
  subst he
  exact ⟨_, rfl, _, _, _, [], _, [], hW', trodAll_mk1 (shut_bool Tryz.underlying4 _), (trodAll_cons_mk (Below.trod termTells_laidOut (by kernel_rfl) (of_decide_eq_true (by kernel_rfl)) k0 bel lt0) (trodAll_cons_mk (Below.trod termTells_laidOut (by kernel_rfl) (of_decide_eq_true (by kernel_rfl)) k1 bel lt1) (trodAll_cons_mk (Below.trod termTells_laidOut (by kernel_rfl) (of_decide_eq_true (by kernel_rfl)) k2 bel lt2) trodAll_mk0))), rfl, bel.frame _, fun h => by cases h⟩

set_option maxRecDepth 100000 in
theorem termTells_said : Rows.TermTellsUptoSaid :=
  OpenClaim.holds_of_cond 3 Tryz.f3 rfl rfl rfl rfl rfl rfl rfl ⟨rfl, rfl, rfl, rfl, rfl⟩ rfl rfl rfl rfl rfl (by kernel_rfl) Tryz.func3 (by kernel_rfl)
    (of_decide_eq_true (by kernel_rfl)) (by unfold Func.isWrapper; first | (rw [if_pos (by decide +kernel)]; kernel_rfl) | (rw [if_neg (by decide +kernel)]; exact ⟨rfl, rfl⟩))
    (fun os started H enc _ F => by rw [OpenClaim.pre_eq_preRow]; exact termTells_lifted os started H enc F)

/-- No parameter wants a stand-in; the program's own looks are off. -/
theorem termTells_plain (f : FuncId) (fn : Func) (hf : Tryz.pinned.checked.prog.funcNamed "chaperone/chaperonelaw.TermTells" = some f) (hfn : Tryz.pinned.checked.prog.funcs[f]? = some fn) :
    true = Tryz.pinned.checked.prog.looks [] ∧ ∀ (j : Nat) t, fn.params[j]? = some t → Tryz.pinned.checked.prog.wantsStandIn t = false := by
  obtain rfl : f = 3 := Option.some.inj ((show Tryz.prog.funcNamed "chaperone/chaperonelaw.TermTells" = some 3 by kernel_rfl).symm.trans hf) |>.symm
  obtain rfl : fn = Tryz.f3 := (Option.some.inj (Tryz.func3.symm.trans hfn)).symm
  refine ⟨by kernel_rfl, fun j t ht => ?_⟩
  rw [Tryz.params3] at ht
  have hm := Array.mem_of_getElem? ht
  obtain rfl | rfl : t = 27 ∨ t = 3 := by simpa using hm
  · exact (show Tryz.prog.wantsStandIn 27 = false by kernel_rfl)
  · exact (show Tryz.prog.wantsStandIn 3 = false by kernel_rfl)

theorem termTells_card : Rows.TermTellsUptoCardSaid :=
  Claim7.holds_tied_plain_at .later [] _ _ _ _ termTells_said (fun _ h => by cases h) (by kernel_rfl) (fun _ h => by cases h) termTellsUpto_row_tie rfl ⟨rfl, rfl⟩ (by kernel_rfl) rfl termTells_plain (by kernel_rfl)

#print axioms termTells_card
end Go.Proofs.YtnddkmccagiclaaGreatDoor
