/-
  A reader of words behind a pointer: what its state is, and what the calls of next, fail and want do to it; the package-level tables.
-/
import Derived.Test.YtnddkmccagiclaaGreatDoorLot8a8b3f08ee
import Derived.Deep.LoopGhost
import Derived.Shelf.Strconv.Itoa3
import Derived.Lib.SlicesS
import Derived.Test.YtnddkmccagiclaaGreatDoorLotf63a16e00c
import Derived.Test.YtnddkmccagiclaaGreatDoorLot141546800d
import Derived.BigQuiet
import Derived.Deep.QuietTactic
import Derived.WalkSmall
namespace Go.Proofs.YtnddkmccagiclaaGreatDoor
open Go.RowKit

theorem Kept.of_below {R : Nat} {o : Option Nat} {w w' : World} (h : Below w.heap.size w w') : Kept R o w w' :=
  ⟨h.os, h.tape, h.output, h.size, fun k hk _ _ => h.block k hk⟩

theorem Kept.trans {R : Nat} {w w1 w2 : World} (h : Kept R none w w1) (h' : Kept R none w1 w2) : Kept R none w w2 := by
  have hs := h.size
  exact ⟨h'.os.trans h.os, h'.tape.trans h.tape, h'.output.trans h.output, Nat.le_trans h.size h'.size, fun k hk h1 h2 => (h'.block k (by omega) h1 h2).trans (h.block k hk h1 h2)⟩

theorem Kept.cell {R : Nat} {w w' : World} (h : Kept R none w w') {b i : Nat} {v : Value} (hc : w.cell? ⟨b, i, none⟩ = some v) (h1 : b ≠ R) : w'.cell? ⟨b, i, none⟩ = some v :=
  (World.cell?_of_block (a := ⟨b, i, none⟩) (h.block b (World.block_lt_of_cell? _ _ hc) h1 (by simp))).trans hc

/-- Package-level variable g holds these cells. -/
def Vc (w : World) (g : Nat) (cs : Array Value) : Prop := ∃ t fr, w.heap[g]? = some (.cells cs t fr)

theorem Vc.cell {w : World} {g : Nat} {cs : Array Value} (h : Vc w g cs) (i : Nat) : w.cell? ⟨g, i, none⟩ = cs[i]? := by
  obtain ⟨t, fr, h⟩ := h
  rw [cell_of_row w g i cs t fr h]

/-- What the tables hold. -/
structure Gl (w : World) : Prop where
  tw : Vc w 0 #[.string ⟨#[110, 111]⟩, .string ⟨#[121, 101, 115]⟩]
  wd : Vc w 1 #[.string ⟨#[]⟩, .string ⟨#[]⟩, .string ⟨#[]⟩, .string ⟨#[]⟩, .string ⟨#[97, 100, 100]⟩, .string ⟨#[108, 101, 115, 115]⟩, .string ⟨#[105, 102]⟩, .string ⟨#[102, 117, 110]⟩, .string ⟨#[99, 97, 108, 108]⟩, .string ⟨#[97, 115]⟩]
  pt : Vc w 2 #[.int .i64 0, .int .i64 0, .int .i64 0, .int .i64 0, .int .i64 2, .int .i64 2, .int .i64 3, .int .i64 1, .int .i64 2, .int .i64 1]
  ty : Vc w 3 #[.string ⟨#[97, 110, 121]⟩, .string ⟨#[110, 117, 109]⟩, .string ⟨#[116, 114, 117, 116, 104]⟩]
  pw : Vc w 7 (Lib.pow10Tab.map fun z => Value.int .u64 z).toArray
  mx : ∃ m, Vc w 6 #[.int .i64 m]
  es : ∃ te pe, Vc w 10 #[.iface te pe]
  er : ∃ te pe, Vc w 11 #[.iface te pe]

theorem Vc.of {w w' : World} {g : Nat} {cs : Array Value} (h : Vc w g cs) (e : w'.heap[g]? = w.heap[g]?) : Vc w' g cs := by
  obtain ⟨t, fr, h⟩ := h
  exact ⟨t, fr, e.trans h⟩

theorem Vc.lt {w : World} {g : Nat} {cs : Array Value} (h : Vc w g cs) : g < w.heap.size := by
  obtain ⟨t, fr, h⟩ := h
  exact (Array.getElem?_eq_some_iff.1 h).1

theorem Gl.of {w w' : World} (h : Gl w) (e : ∀ g, g < 12 → w'.heap[g]? = w.heap[g]?) : Gl w' := by
  obtain ⟨m, hm⟩ := h.mx
  obtain ⟨a, b, hs⟩ := h.es
  obtain ⟨a', b', hr⟩ := h.er
  exact ⟨h.tw.of (e _ (by omega)), h.wd.of (e _ (by omega)), h.pt.of (e _ (by omega)), h.ty.of (e _ (by omega)), h.pw.of (e _ (by omega)), ⟨m, hm.of (e _ (by omega))⟩, ⟨a, b, hs.of (e _ (by omega))⟩, ⟨a', b', hr.of (e _ (by omega))⟩⟩

theorem Gl.size {w : World} (h : Gl w) : 12 ≤ w.heap.size := by
  obtain ⟨a', b', hr⟩ := h.er
  exact hr.lt

theorem Gl.below {w w' : World} (h : Gl w) (hb : Below w.heap.size w w') : Gl w' :=
  h.of fun g hg => hb.block g (by have := h.size; omega)

theorem Gl.kept {w w' : World} {R : Nat} (h : Gl w) (hR : 12 ≤ R) (hb : Kept R none w w') : Gl w' :=
  h.of fun g hg => hb.block g (by have := h.size; omega) (by omega) (by simp)

/-- What the table of parts holds. -/
structure Gp (w : World) : Prop where
  pt : Vc w 2 #[.int .i64 0, .int .i64 0, .int .i64 0, .int .i64 0, .int .i64 2, .int .i64 2, .int .i64 3, .int .i64 1, .int .i64 2, .int .i64 1]

theorem Gl.gp {w : World} (h : Gl w) : Gp w := ⟨h.pt⟩
theorem Gp.size {w : World} (h : Gp w) : 3 ≤ w.heap.size := h.pt.lt
theorem Gp.below {w w' : World} (h : Gp w) (hb : Below w.heap.size w w') : Gp w' := ⟨h.pt.of (hb.block 2 h.pt.lt)⟩
theorem Gp.kept {w w' : World} {R : Nat} (h : Gp w) (hR : 3 ≤ R) (hb : Kept R none w w') : Gp w' := ⟨h.pt.of (hb.block 2 h.pt.lt (by omega) (by simp))⟩

/-- The words that are left, and whether something went wrong. -/
structure RS (R : Nat) (ws : List ByteArray) (b : Bool) (w : World) : Prop where
  l : ∃ a c, w.cell? ⟨R, 0, none⟩ = some (.slice a ws.length c) ∧ ws.length ≤ c ∧ (ws ≠ [] → ∃ A o, a = some ⟨A, o, none⟩ ∧ A < R ∧ ∀ (i : Nat) x, ws[i]? = some x → w.cell? ⟨A, o + i, none⟩ = some (.string x))
  b : w.cell? ⟨R, 1, none⟩ = some (.bool b)
  f0 : w.frozen? ⟨R, 0, none⟩ = false
  f1 : w.frozen? ⟨R, 1, none⟩ = false
  z : ws.length ≤ 1000000

theorem RS.lt {R : Nat} {ws : List ByteArray} {b : Bool} {w : World} (h : RS R ws b w) : R < w.heap.size := World.block_lt_of_cell? _ _ h.b

theorem RS.below {R : Nat} {ws : List ByteArray} {b : Bool} {w w' : World} (h : RS R ws b w) (hb : Below w.heap.size w w') : RS R ws b w' := by
  have hl := h.lt
  obtain ⟨⟨a, c, hc, hn, hw⟩, h1, h2, h3, hz⟩ := h
  refine ⟨⟨a, c, cell_later hb hc, hn, fun hne => ?_⟩, cell_later hb h1, (hb.frozen (p := ⟨R, 0, none⟩) hl).trans h2, (hb.frozen (p := ⟨R, 1, none⟩) hl).trans h3, hz⟩
  obtain ⟨A, o, ha, hA, hx⟩ := hw hne
  exact ⟨A, o, ha, hA, fun i x hi => cell_later hb (hx i x hi)⟩

theorem RS.set2 {R : Nat} {ws : List ByteArray} {b : Bool} {w : World} {k : Nat} {u v : Value} (h : RS R ws b w) (hk : R < k) : RS R ws b ((w.setCell ⟨k, 0, none⟩ u).setCell ⟨k, 1, none⟩ v) := by
  have hc : ∀ q i, q < k → ((w.setCell ⟨k, 0, none⟩ u).setCell ⟨k, 1, none⟩ v).cell? ⟨q, i, none⟩ = w.cell? ⟨q, i, none⟩ := by
    intro q i hq
    rw [World.cell?_setCell_other, World.cell?_setCell_other]
    · intro e; simp only [Addr.mk.injEq] at e; omega
    · intro e; simp only [Addr.mk.injEq] at e; omega
  obtain ⟨⟨a, c, h0, hn, hw⟩, h1, h2, h3, hz⟩ := h
  refine ⟨⟨a, c, (hc _ _ hk).trans h0, hn, fun hne => ?_⟩, (hc _ _ hk).trans h1, by rw [World.frozen?_setCell, World.frozen?_setCell]; exact h2, by rw [World.frozen?_setCell, World.frozen?_setCell]; exact h3, hz⟩
  obtain ⟨A, o, ha, hA, hx⟩ := hw hne
  exact ⟨A, o, ha, hA, fun i x hi => (hc _ _ (by omega)).trans (hx i x hi)⟩

theorem setR_kept {w : World} {R i : Nat} {v : Value} : Kept R none w (w.setCell ⟨R, i, none⟩ v) :=
  ⟨rfl, rfl, rfl, by simp [World.setCell], fun _ _ h1 _ => Below.heap_setCell _ _ _ _ h1⟩

set_option maxHeartbeats 400000 in
/-- (*reader).fail. -/
theorem fail_any (R : Nat) (ws : List ByteArray) (b : Bool) (w : World) (h : RS R ws b w) :
    Calls Tryz.prog 82 #[.pointer (some ⟨R, 0, none⟩)] w fun e w' => e = .returned (.tuple #[]) ∧ RS R [] true w' ∧ Kept R none w w' := by
  obtain ⟨⟨a, c, hc, _, _⟩, h1, h2, h3, _⟩ := h
  go_enter Tryz.func82, Tryz.ntmps82
  go_wp2_with fail
  go_end0
  have hne : (⟨R, 0, none⟩ : Addr) ≠ ⟨R, 1, none⟩ := by simp
  refine ⟨rfl, ⟨⟨none, 0, ?_, Nat.le_refl _, fun h => absurd rfl h⟩, ?_, ?_, ?_, by simp⟩, setR_kept.trans setR_kept⟩
  · refine World.cell?_setCell_same _ _ _ (u := .slice a ws.length c) ?_
    rw [World.cell?_setCell_other _ _ _ _ (Ne.symm hne)]
    exact hc
  · rw [World.cell?_setCell_other _ _ _ _ hne]
    exact World.cell?_setCell_same _ _ _ h1
  · rw [World.frozen?_setCell, World.frozen?_setCell]
    exact h2
  · rw [World.frozen?_setCell, World.frozen?_setCell]
    exact h3

set_option maxHeartbeats 400000 in
/-- (*reader).next where no word is left. -/
theorem next_nil (R : Nat) (b : Bool) (w : World) (h : RS R [] b w) :
    Calls Tryz.prog 52 #[.pointer (some ⟨R, 0, none⟩)] w fun e w' => e = .returned (.string ⟨#[]⟩) ∧ RS R [] true w' ∧ Kept R none w w' := by
  have HF : Hid (Calls Tryz.prog 82 #[.pointer (some ⟨R, 0, none⟩)] w fun e w' => e = .returned (.tuple #[]) ∧ RS R [] true w' ∧ Kept R none w w') := fail_any R [] b w h
  obtain ⟨⟨a, c, hc, _, _⟩, h1, h2, h3, _⟩ := h
  go_enter Tryz.func52, Tryz.ntmps52
  go_wp2_with fail
  refine HF.out.mono ?_
  rintro e w1 ⟨rfl, hr, hk⟩
  have HR : Hid (RS R [] true w1 ∧ Kept R none w w1) := ⟨hr, hk⟩
  clear hr hk HF
  go_wp2_with fail
  go_ret
  exact ⟨rfl, HR.out.1, HR.out.2⟩

set_option maxHeartbeats 400000 in
/-- (*reader).next where a word is left. -/
theorem next_cons (R : Nat) (x : ByteArray) (r : List ByteArray) (b : Bool) (w : World) (h : RS R (x :: r) b w) :
    Calls Tryz.prog 52 #[.pointer (some ⟨R, 0, none⟩)] w fun e w' => e = .returned (.string x) ∧ RS R r b w' ∧ Kept R none w w' := by
  obtain ⟨⟨a, c, hc, hn, hw⟩, h1, h2, h3, hz⟩ := h
  obtain ⟨A, o, rfl, hA, hx⟩ := hw (by simp)
  have x0 := hx 0 x (by simp)
  simp only [Nat.add_zero] at x0
  simp only [List.length_cons] at hc hn hz
  have e0 : (((r.length + 1 : Nat) : Int) == 0) = false := by simp; omega
  have i1 : (0 : Int) < ((r.length : Int) + 1) := by omega
  have i2 : (1 : Int) ≤ ((r.length : Int) + 1) := by omega
  have HX : Hid (∀ (i : Nat) y, (x :: r)[i]? = some y → w.cell? ⟨A, o + i, none⟩ = some (.string y)) := hx
  clear hx hw
  go_enter Tryz.func52, Tryz.ntmps52
  go_wp2_with fail
  all_goals go_ret
  all_goals
    refine ⟨rfl, ⟨⟨_, _, World.cell?_setCell_same _ _ _ hc, by omega, fun hne => ?_⟩, ?_, by rw [World.frozen?_setCell]; exact h2, by rw [World.frozen?_setCell]; exact h3, by omega⟩, setR_kept⟩
    rotate_left
    · rw [World.cell?_setCell_other _ _ _ _ (by simp)]
      exact h1
  · exact absurd (List.length_eq_zero_iff.1 (by omega)) hne
  · refine ⟨A, o + 1, rfl, hA, fun i y hi => ?_⟩
    rw [World.cell?_setCell_other]
    · rw [show o + 1 + i = o + (i + 1) by omega]
      exact HX.out (i + 1) y (by simpa using hi)
    · intro e; simp only [Addr.mk.injEq] at e; omega

set_option maxHeartbeats 400000 in
theorem want_walk (R : Nat) (x word : ByteArray) (r : List ByteArray) (b : Bool) (w : World) (h : RS R (x :: r) b w) :
    Calls Tryz.prog 85 #[.pointer (some ⟨R, 0, none⟩), .string word] w fun e w' => e = .returned (.tuple #[]) ∧ ((x = word ∧ RS R r b w') ∨ (x ≠ word ∧ RS R [] true w')) ∧ Kept R none w w' := by
  have HN : Hid (Calls Tryz.prog 52 #[.pointer (some ⟨R, 0, none⟩)] w fun e w' => e = .returned (.string x) ∧ RS R r b w' ∧ Kept R none w w') := next_cons R x r b w h
  clear h
  by_cases hx : x = word
  · subst hx
    go_enter Tryz.func85, Tryz.ntmps85
    go_wp2_with fail
    refine HN.out.mono ?_
    rintro e w1 ⟨rfl, hr, hk⟩
    have HR : Hid (RS R r b w1 ∧ Kept R none w w1) := ⟨hr, hk⟩
    clear hr hk HN
    go_wp2_with fail
    go_end0
    exact ⟨rfl, .inl ⟨trivial, HR.out.1⟩, HR.out.2⟩
  · have hb : (x.toList == word.toList) = false := (Lib.bytes_beq_false_iff _ _).2 hx
    have hb2 : (!x.toList == word.toList) = true := by rw [hb]; rfl
    have HX : Hid (x ≠ word) := hx
    clear hx
    go_enter Tryz.func85, Tryz.ntmps85
    go_wp2_with fail
    refine HN.out.mono ?_
    rintro e w1 ⟨rfl, hr, hk⟩
    have HF : Hid (Calls Tryz.prog 82 #[.pointer (some ⟨R, 0, none⟩)] w1 fun e w' => e = .returned (.tuple #[]) ∧ RS R [] true w' ∧ Kept R none w1 w') := fail_any R r b w1 hr
    have HK : Hid (Kept R none w w1) := hk
    clear hr hk HN
    go_wp2_with fail
    refine HF.out.mono ?_
    rintro e w2 ⟨rfl, hr, hk⟩
    have HR : Hid (RS R [] true w2 ∧ Kept R none w w2) := ⟨hr, HK.out.trans hk⟩
    clear hr hk HF HK
    go_wp2_with fail
    go_end0
    exact ⟨rfl, .inr ⟨HX.out, HR.out.1⟩, HR.out.2⟩

set_option maxHeartbeats 400000 in
theorem want_nil (R : Nat) (word : ByteArray) (hw : (⟨#[]⟩ : ByteArray) ≠ word) (b : Bool) (w : World) (h : RS R [] b w) :
    Calls Tryz.prog 85 #[.pointer (some ⟨R, 0, none⟩), .string word] w fun e w' => e = .returned (.tuple #[]) ∧ RS R [] true w' ∧ Kept R none w w' := by
  have HN : Hid (Calls Tryz.prog 52 #[.pointer (some ⟨R, 0, none⟩)] w fun e w' => e = .returned (.string ⟨#[]⟩) ∧ RS R [] true w' ∧ Kept R none w w') := next_nil R b w h
  have hb : ((⟨#[]⟩ : ByteArray).toList == word.toList) = false := (Lib.bytes_beq_false_iff _ _).2 hw
  have he : (⟨#[]⟩ : ByteArray).toList = [] := by rw [Lib.toList_data]
  have hb3 : (!word.toList.isEmpty) = true := by
    rw [he] at hb
    cases hl : word.toList with
    | nil => rw [hl] at hb; simp at hb
    | cons _ _ => rfl
  clear h hw hb he
  go_enter Tryz.func85, Tryz.ntmps85
  go_wp2_with fail
  refine HN.out.mono ?_
  rintro e w1 ⟨rfl, hr, hk⟩
  have HF : Hid (Calls Tryz.prog 82 #[.pointer (some ⟨R, 0, none⟩)] w1 fun e w' => e = .returned (.tuple #[]) ∧ RS R [] true w' ∧ Kept R none w1 w') := fail_any R [] true w1 hr
  have HK : Hid (Kept R none w w1) := hk
  clear hr hk HN
  go_wp2_with fail
  refine HF.out.mono ?_
  rintro e w2 ⟨rfl, hr, hk⟩
  have HR : Hid (RS R [] true w2 ∧ Kept R none w w2) := ⟨hr, HK.out.trans hk⟩
  clear hr hk HF HK
  go_wp2_with fail
  go_end0
  exact ⟨rfl, HR.out.1, HR.out.2⟩
end Go.Proofs.YtnddkmccagiclaaGreatDoor

/-
  What the calls of truthOf, typeKindOf, tellsType and isSpace answer.
-/
namespace Go.Proofs.YtnddkmccagiclaaGreatDoor
open Go.RowKit

set_option maxHeartbeats 400000 in
theorem tells_any (k : Int) (w : World) : Calls Tryz.prog 37 #[.int .i64 k] w fun e w' => e = .returned (.bool (tells k)) ∧ w' = w := by
  cases h7 : (k == 7) with
  | true =>
    go_enter Tryz.func37, Tryz.ntmps37
    go_wp2_with fail
    go_ret
    exact ⟨by simp [tells, h7], rfl⟩
  | false =>
    go_enter Tryz.func37, Tryz.ntmps37
    go_wp2_with fail
    go_ret
    exact ⟨by simp [tells, h7], rfl⟩

/-- What such a call answers: the number and whether it was found. -/
def foundV (o : Option Nat) : Value := .tuple #[.int .i64 ((o.getD 0 : Nat) : Int), .bool o.isSome]

theorem ne_of_beq {x y : ByteArray} (h : (x.toList == y.toList) = false) : x ≠ y := (Lib.bytes_beq_false_iff _ _).1 h

theorem idx78_0 (u v : Value) (w : World) : (Instr.index 78 (.agg #[u, v]) (.int .i64 0)).run Tryz.prog w = .ok u w := by
  simp [Instr.index, run_underlying Tryz.underlying78, go_sem]
theorem idx78_1 (u v : Value) (w : World) : (Instr.index 78 (.agg #[u, v]) (.int .i64 1)).run Tryz.prog w = .ok v w := by
  simp [Instr.index, run_underlying Tryz.underlying78, go_sem]

set_option maxRecDepth 20000 in
set_option maxHeartbeats 1000000 in
theorem truthOf_any (x : ByteArray) (w : World) (hg : Gl w) : Calls Tryz.prog 54 #[.string x] w fun e w' => e = .returned (foundV (atWord x truthWs 0)) ∧ w' = w := by
  have c0 := hg.tw.cell 0
  have c1 := hg.tw.cell 1
  simp only [List.getElem?_toArray, List.getElem?_cons_zero, List.getElem?_cons_succ] at c0 c1
  clear hg
  obtain ⟨b0, h0⟩ : ∃ b, ((⟨#[110, 111]⟩ : ByteArray).toList == x.toList) = b := ⟨_, rfl⟩
  obtain ⟨b1, h1⟩ : ∃ b, ((⟨#[121, 101, 115]⟩ : ByteArray).toList == x.toList) = b := ⟨_, rfl⟩
  have H0 : Hid (((⟨#[110, 111]⟩ : ByteArray).toList == x.toList) = b0) := h0
  have H1 : Hid (((⟨#[121, 101, 115]⟩ : ByteArray).toList == x.toList) = b1) := h1
  have k0 : ([110, 111] == x.toList) = b0 := by rw [← h0, Lib.toList_data ⟨#[110, 111]⟩]
  have k1 : ([121, 101, 115] == x.toList) = b1 := by rw [← h1, Lib.toList_data ⟨#[121, 101, 115]⟩]
  clear h0 h1
  have x0 := idx78_0 (.string ⟨#[110, 111]⟩) (.string ⟨#[121, 101, 115]⟩)
  have x1 := idx78_1 (.string ⟨#[110, 111]⟩) (.string ⟨#[121, 101, 115]⟩)
  go_enter Tryz.func54, Tryz.ntmps54
  go_wp2_with fail
  go_loopg [7] 2 (fun k i wr => ∃ j : Nat, k + j = 2 ∧ i = .int .i64 (j : Int) ∧ wr = w ∧ Hid ((1 ≤ j → b0 = false) ∧ (2 ≤ j → b1 = false)))
  case atStart => exact ⟨0, rfl, rfl, rfl, fun h => absurd h (by omega), fun h => absurd h (by omega)⟩
  case round =>
    obtain ⟨j, hj, rfl, rfl, HJ⟩ := hrel
    obtain rfl | rfl | rfl : j = 0 ∨ j = 1 ∨ j = 2 := by omega
    · cases b0
      · go_wp2_with fail
        go_roundg 1
        case measure => omega
        case rel => exact ⟨1, rfl, rfl, rfl, fun _ => trivial, fun h => absurd h (by omega)⟩
      · go_wp2_with fail
        refine bodyPost_ret (v := .tuple #[.int .i64 0, .bool true]) (by simp [results, Tryz.results54, go_sem]) rfl ⟨?_, rfl⟩
        rw [← (Lib.bytes_beq_iff _ _).1 H0.out]
        rfl
    · obtain rfl := HJ.out.1 (by omega)
      cases b1
      · go_wp2_with fail
        go_roundg 0
        case measure => omega
        case rel => exact ⟨2, rfl, rfl, rfl, fun _ => trivial, fun _ => trivial⟩
      · go_wp2_with fail
        refine bodyPost_ret (v := .tuple #[.int .i64 1, .bool true]) (by simp [results, Tryz.results54, go_sem]) rfl ⟨?_, rfl⟩
        rw [← (Lib.bytes_beq_iff _ _).1 H1.out]
        rfl
    · obtain rfl := HJ.out.1 (by omega)
      obtain rfl := HJ.out.2 (by omega)
      go_wp2_with fail
      refine bodyPost_ret (v := .tuple #[.int .i64 0, .bool false]) (by simp [results, Tryz.results54, go_sem]) rfl ⟨?_, rfl⟩
      simp [foundV, atWord, truthWs, ne_of_beq H0.out, ne_of_beq H1.out]

theorem idx122_0 (u v t : Value) (w : World) : (Instr.index 122 (.agg #[u, v, t]) (.int .i64 0)).run Tryz.prog w = .ok u w := by
  simp [Instr.index, run_underlying Tryz.underlying122, go_sem]
theorem idx122_1 (u v t : Value) (w : World) : (Instr.index 122 (.agg #[u, v, t]) (.int .i64 1)).run Tryz.prog w = .ok v w := by
  simp [Instr.index, run_underlying Tryz.underlying122, go_sem]
theorem idx122_2 (u v t : Value) (w : World) : (Instr.index 122 (.agg #[u, v, t]) (.int .i64 2)).run Tryz.prog w = .ok t w := by
  simp [Instr.index, run_underlying Tryz.underlying122, go_sem]

set_option maxRecDepth 20000 in
set_option maxHeartbeats 1000000 in
theorem typeKindOf_any (x : ByteArray) (w : World) (hg : Gl w) : Calls Tryz.prog 121 #[.string x] w fun e w' => e = .returned (foundV (atWord x typeWs 0)) ∧ w' = w := by
  have c0 := hg.ty.cell 0
  have c1 := hg.ty.cell 1
  have c2 := hg.ty.cell 2
  simp only [List.getElem?_toArray, List.getElem?_cons_zero, List.getElem?_cons_succ] at c0 c1 c2
  clear hg
  obtain ⟨b0, h0⟩ : ∃ b, ((⟨#[97, 110, 121]⟩ : ByteArray).toList == x.toList) = b := ⟨_, rfl⟩
  obtain ⟨b1, h1⟩ : ∃ b, ((⟨#[110, 117, 109]⟩ : ByteArray).toList == x.toList) = b := ⟨_, rfl⟩
  obtain ⟨b2, h2⟩ : ∃ b, ((⟨#[116, 114, 117, 116, 104]⟩ : ByteArray).toList == x.toList) = b := ⟨_, rfl⟩
  have H0 : Hid (((⟨#[97, 110, 121]⟩ : ByteArray).toList == x.toList) = b0) := h0
  have H1 : Hid (((⟨#[110, 117, 109]⟩ : ByteArray).toList == x.toList) = b1) := h1
  have H2 : Hid (((⟨#[116, 114, 117, 116, 104]⟩ : ByteArray).toList == x.toList) = b2) := h2
  have k0 : ([97, 110, 121] == x.toList) = b0 := by rw [← h0, Lib.toList_data ⟨#[97, 110, 121]⟩]
  have k1 : ([110, 117, 109] == x.toList) = b1 := by rw [← h1, Lib.toList_data ⟨#[110, 117, 109]⟩]
  have k2 : ([116, 114, 117, 116, 104] == x.toList) = b2 := by rw [← h2, Lib.toList_data ⟨#[116, 114, 117, 116, 104]⟩]
  clear h0 h1 h2
  have x0 := idx122_0 (.string ⟨#[97, 110, 121]⟩) (.string ⟨#[110, 117, 109]⟩) (.string ⟨#[116, 114, 117, 116, 104]⟩)
  have x1 := idx122_1 (.string ⟨#[97, 110, 121]⟩) (.string ⟨#[110, 117, 109]⟩) (.string ⟨#[116, 114, 117, 116, 104]⟩)
  have x2 := idx122_2 (.string ⟨#[97, 110, 121]⟩) (.string ⟨#[110, 117, 109]⟩) (.string ⟨#[116, 114, 117, 116, 104]⟩)
  go_enter Tryz.func121, Tryz.ntmps121
  go_wp2_with fail
  go_loopg [7] 3 (fun k i wr => ∃ j : Nat, k + j = 3 ∧ i = .int .i64 (j : Int) ∧ wr = w ∧ Hid ((1 ≤ j → b0 = false) ∧ (2 ≤ j → b1 = false) ∧ (3 ≤ j → b2 = false)))
  case atStart => exact ⟨0, rfl, rfl, rfl, fun h => absurd h (by omega), fun h => absurd h (by omega), fun h => absurd h (by omega)⟩
  case round =>
    obtain ⟨j, hj, rfl, rfl, HJ⟩ := hrel
    obtain rfl | rfl | rfl | rfl : j = 0 ∨ j = 1 ∨ j = 2 ∨ j = 3 := by omega
    · cases b0
      · go_wp2_with fail
        go_roundg 2
        case measure => omega
        case rel => exact ⟨1, rfl, rfl, rfl, fun _ => trivial, fun h => absurd h (by omega), fun h => absurd h (by omega)⟩
      · go_wp2_with fail
        refine bodyPost_ret (v := .tuple #[.int .i64 0, .bool true]) (by simp [results, Tryz.results121, go_sem]) rfl ⟨?_, rfl⟩
        rw [← (Lib.bytes_beq_iff _ _).1 H0.out]
        rfl
    · obtain rfl := HJ.out.1 (by omega)
      cases b1
      · go_wp2_with fail
        go_roundg 1
        case measure => omega
        case rel => exact ⟨2, rfl, rfl, rfl, fun _ => trivial, fun _ => trivial, fun h => absurd h (by omega)⟩
      · go_wp2_with fail
        refine bodyPost_ret (v := .tuple #[.int .i64 1, .bool true]) (by simp [results, Tryz.results121, go_sem]) rfl ⟨?_, rfl⟩
        rw [← (Lib.bytes_beq_iff _ _).1 H1.out]
        rfl
    · obtain rfl := HJ.out.1 (by omega)
      obtain rfl := HJ.out.2.1 (by omega)
      cases b2
      · go_wp2_with fail
        go_roundg 0
        case measure => omega
        case rel => exact ⟨3, rfl, rfl, rfl, fun _ => trivial, fun _ => trivial, fun _ => trivial⟩
      · go_wp2_with fail
        refine bodyPost_ret (v := .tuple #[.int .i64 2, .bool true]) (by simp [results, Tryz.results121, go_sem]) rfl ⟨?_, rfl⟩
        rw [← (Lib.bytes_beq_iff _ _).1 H2.out]
        rfl
    · obtain rfl := HJ.out.1 (by omega)
      obtain rfl := HJ.out.2.1 (by omega)
      obtain rfl := HJ.out.2.2 (by omega)
      go_wp2_with fail
      refine bodyPost_ret (v := .tuple #[.int .i64 0, .bool false]) (by simp [results, Tryz.results121, go_sem]) rfl ⟨?_, rfl⟩
      simp [foundV, atWord, typeWs, ne_of_beq H0.out, ne_of_beq H1.out, ne_of_beq H2.out]
end Go.Proofs.YtnddkmccagiclaaGreatDoor

/-
  Trees that stand for Go values of the type 'Term', with the addresses at which their lists lie, and what it means that such a tree lies in a world; no program in it.
-/
namespace Go.Proofs.YtnddkmccagiclaaGreatDoor
open Go.RowKit

/-- A term: its kind, its number, its types, where its list lies, the list's capacity, its parts. -/
structure TT where
  k : Int
  n : Int
  t : Tr
  f : Tr
  a : Option Addr
  c : Nat
  l : List TT

theorem TT.ind {P : TT → Prop} (h : ∀ k n t f a c l, (∀ x, x ∈ l → P x) → P ⟨k, n, t, f, a, c, l⟩) : ∀ t, P t
  | ⟨k, n, t, f, a, c, l⟩ => h k n t f a c l fun x _ => TT.ind h x

def TT.tm : TT → Tm
  | ⟨k, n, t, f, _, _, l⟩ => ⟨k, n, t.ty, f.ty, l.map fun x => x.tm⟩

theorem TT.tm_mk (k n : Int) (t f : Tr) (a : Option Addr) (c : Nat) (l : List TT) : (TT.mk k n t f a c l).tm = ⟨k, n, t.ty, f.ty, l.map TT.tm⟩ := by
  rw [TT.tm]

theorem TT.tm_k (x : TT) : x.tm.k = x.k := by cases x; rw [TT.tm_mk]
theorem TT.tm_n (x : TT) : x.tm.n = x.n := by cases x; rw [TT.tm_mk]
theorem TT.tm_t (x : TT) : x.tm.t = x.t.ty := by cases x; rw [TT.tm_mk]
theorem TT.tm_f (x : TT) : x.tm.f = x.f.ty := by cases x; rw [TT.tm_mk]
theorem TT.tm_l (x : TT) : x.tm.l = x.l.map TT.tm := by cases x; rw [TT.tm_mk]

/-- The value. -/
def TT.ag (x : TT) : Value := .agg #[.int .i64 x.k, .int .i64 x.n, .int .i64 x.t.k, .slice x.t.a x.t.l.length x.t.c, .int .i64 x.f.k, .slice x.f.a x.f.l.length x.f.c, .slice x.a x.l.length x.c]

/-- Its seven cells lie there. -/
structure At7 (w : World) (b o : Nat) (x : TT) : Prop where
  c0 : w.cell? ⟨b, o, none⟩ = some (.int .i64 x.k)
  c1 : w.cell? ⟨b, o + 1, none⟩ = some (.int .i64 x.n)
  c2 : w.cell? ⟨b, o + 2, none⟩ = some (.int .i64 x.t.k)
  c3 : w.cell? ⟨b, o + 3, none⟩ = some (.slice x.t.a x.t.l.length x.t.c)
  c4 : w.cell? ⟨b, o + 4, none⟩ = some (.int .i64 x.f.k)
  c5 : w.cell? ⟨b, o + 5, none⟩ = some (.slice x.f.a x.f.l.length x.f.c)
  c6 : w.cell? ⟨b, o + 6, none⟩ = some (.slice x.a x.l.length x.c)

theorem At7.of {w w' : World} {b o : Nat} {x : TT} (h : At7 w b o x) (e : ∀ i, w'.cell? ⟨b, i, none⟩ = w.cell? ⟨b, i, none⟩) : At7 w' b o x :=
  ⟨(e _).trans h.c0, (e _).trans h.c1, (e _).trans h.c2, (e _).trans h.c3, (e _).trans h.c4, (e _).trans h.c5, (e _).trans h.c6⟩

theorem At7.lt {w : World} {b o : Nat} {x : TT} (h : At7 w b o x) : b < w.heap.size := World.block_lt_of_cell? _ _ h.c0

theorem At7.below {w w' : World} {b o : Nat} {x : TT} (hb : Below w.heap.size w w') (h : At7 w b o x) : At7 w' b o x :=
  h.of fun _ => hb.cell (p := ⟨b, _, none⟩) h.lt

/-- The term's types and its parts lie in the world. -/
def TT.In (w : World) : TT → Prop
  | ⟨_, _, t, f, a, _, l⟩ => t.In w ∧ f.In w ∧ (∀ j (h : j < l.length), ∃ b o, a = some ⟨b, o, none⟩ ∧ At7 w b (o + j * 7) l[j]) ∧ ∀ x, x ∈ l → x.In w

theorem TT.In_mk {w : World} {k n : Int} {t f : Tr} {a : Option Addr} {c : Nat} {l : List TT} : (TT.mk k n t f a c l).In w ↔ t.In w ∧ f.In w ∧ (∀ j (h : j < l.length), ∃ b o, a = some ⟨b, o, none⟩ ∧ At7 w b (o + j * 7) l[j]) ∧ ∀ x, x ∈ l → x.In w := by
  rw [TT.In]

theorem TT.In.t {w : World} {x : TT} (h : x.In w) : x.t.In w := by cases x; exact (TT.In_mk.1 h).1
theorem TT.In.f {w : World} {x : TT} (h : x.In w) : x.f.In w := by cases x; exact (TT.In_mk.1 h).2.1

/-- Part j: where it lies. -/
theorem TT.In.part {w : World} {x : TT} (h : x.In w) (j : Nat) (hj : j < x.l.length) : ∃ b o, x.a = some ⟨b, o, none⟩ ∧ At7 w b (o + j * 7) x.l[j] ∧ x.l[j].In w := by
  obtain ⟨k, n, t, f, a, c, l⟩ := x
  obtain ⟨_, _, hc, hi⟩ := TT.In_mk.1 h
  obtain ⟨b, o, e, c0⟩ := hc j hj
  exact ⟨b, o, e, c0, hi _ (List.getElem_mem hj)⟩

theorem TT.In.mem {w : World} {x y : TT} (h : x.In w) (hy : y ∈ x.l) : y.In w := by
  obtain ⟨k, n, t, f, a, c, l⟩ := x
  exact (TT.In_mk.1 h).2.2.2 y hy

theorem TT.In.below {w w' : World} (hb : Below w.heap.size w w') {x : TT} : x.In w → x.In w' := by
  induction x using TT.ind with
  | h k n t f a c l ih =>
    intro h
    obtain ⟨ht, hf, hc, hi⟩ := TT.In_mk.1 h
    refine TT.In_mk.2 ⟨ht.below hb, hf.below hb, fun j hj => ?_, fun x hx => ih x hx (hi x hx)⟩
    obtain ⟨b, o, e, c0⟩ := hc j hj
    exact ⟨b, o, e, c0.below hb⟩

/-- The blocks in which its types and parts lie are of this kind. -/
def TT.Bl (P : Nat → Prop) : TT → Prop
  | ⟨_, _, t, f, a, _, l⟩ => t.Bl P ∧ f.Bl P ∧ (l ≠ [] → ∀ x, a = some x → P x.block) ∧ ∀ x, x ∈ l → x.Bl P

theorem TT.Bl_mk {P : Nat → Prop} {k n : Int} {t f : Tr} {a : Option Addr} {c : Nat} {l : List TT} : (TT.mk k n t f a c l).Bl P ↔ t.Bl P ∧ f.Bl P ∧ (l ≠ [] → ∀ x, a = some x → P x.block) ∧ ∀ x, x ∈ l → x.Bl P := by
  rw [TT.Bl]

theorem TT.Bl.t {P : Nat → Prop} {x : TT} (h : x.Bl P) : x.t.Bl P := by cases x; exact (TT.Bl_mk.1 h).1
theorem TT.Bl.f {P : Nat → Prop} {x : TT} (h : x.Bl P) : x.f.Bl P := by cases x; exact (TT.Bl_mk.1 h).2.1
theorem TT.Bl.mem {P : Nat → Prop} {x y : TT} (h : x.Bl P) (hy : y ∈ x.l) : y.Bl P := by
  obtain ⟨k, n, t, f, a, c, l⟩ := x
  exact (TT.Bl_mk.1 h).2.2.2 y hy
theorem TT.Bl.own {P : Nat → Prop} {x : TT} (h : x.Bl P) (hl : x.l ≠ []) (y : Addr) (hy : x.a = some y) : P y.block := by
  obtain ⟨k, n, t, f, a, c, l⟩ := x
  exact (TT.Bl_mk.1 h).2.2.1 hl y hy

theorem TT.Bl.mono {P Q : Nat → Prop} (hPQ : ∀ b, P b → Q b) {x : TT} : x.Bl P → x.Bl Q := by
  induction x using TT.ind with
  | h k n t f a c l ih =>
    intro h
    obtain ⟨ht, hf, h1, h2⟩ := TT.Bl_mk.1 h
    exact TT.Bl_mk.2 ⟨ht.mono hPQ, hf.mono hPQ, fun hl x hx => hPQ _ (h1 hl x hx), fun x hx => ih x hx (h2 x hx)⟩

theorem TT.Bl.and {P Q : Nat → Prop} {x : TT} : x.Bl P → x.Bl Q → x.Bl (fun b => P b ∧ Q b) := by
  induction x using TT.ind with
  | h k n t f a c l ih =>
    intro h g
    obtain ⟨ht, hf, h1, h2⟩ := TT.Bl_mk.1 h
    obtain ⟨gt, gf, g1, g2⟩ := TT.Bl_mk.1 g
    exact TT.Bl_mk.2 ⟨ht.and gt, hf.and gf, fun hl x hx => ⟨h1 hl x hx, g1 hl x hx⟩, fun x hx => ih x hx (h2 x hx) (g2 x hx)⟩

theorem TT.In.bl {w : World} {x : TT} : x.In w → x.Bl (· < w.heap.size) := by
  induction x using TT.ind with
  | h k n t f a c l ih =>
    intro h
    obtain ⟨ht, hf, hc, hi⟩ := TT.In_mk.1 h
    refine TT.Bl_mk.2 ⟨ht.bl, hf.bl, fun hl x hx => ?_, fun x hx => ih x hx (hi x hx)⟩
    obtain ⟨b, o, e, c0⟩ := hc 0 (List.length_pos_iff.2 hl)
    rw [e] at hx
    have := Option.some.inj hx
    subst this
    exact c0.lt

/-- What lies in blocks that read as they did lies there still. -/
theorem TT.In.congr {w w' : World} {P : Nat → Prop} (hP : ∀ b, P b → ∀ o, w'.cell? ⟨b, o, none⟩ = w.cell? ⟨b, o, none⟩) {x : TT} : x.Bl P → x.In w → x.In w' := by
  induction x using TT.ind with
  | h k n t f a c l ih =>
    intro hb h
    obtain ⟨ht, hf, hc, hi⟩ := TT.In_mk.1 h
    obtain ⟨bt, bf, b1, b2⟩ := TT.Bl_mk.1 hb
    refine TT.In_mk.2 ⟨ht.congr hP bt, hf.congr hP bf, fun j hj => ?_, fun x hx => ih x hx (b2 x hx) (hi x hx)⟩
    obtain ⟨b, o, e, c0⟩ := hc j hj
    have hx : P b := b1 (fun e => by rw [e] at hj; simp at hj) _ e
    exact ⟨b, o, e, c0.of (hP b hx)⟩

theorem Tr.In.keptR {w w' : World} {R : Nat} {t : Tr} (h : t.In w) (hk : Kept R none w w') (hb : t.Bl (· ≠ R)) : t.In w' := by
  refine h.congr (P := fun b => b < w.heap.size ∧ b ≠ R) ?_ (h.bl.and hb)
  rintro b ⟨h1, h2⟩ o
  exact World.cell?_of_block (a := ⟨b, o, none⟩) (hk.block b h1 h2 (by simp))

theorem TT.In.keptR {w w' : World} {R : Nat} {x : TT} (h : x.In w) (hk : Kept R none w w') (hb : x.Bl (· ≠ R)) : x.In w' := by
  refine h.congr (P := fun b => b < w.heap.size ∧ b ≠ R) ?_ (h.bl.and hb)
  rintro b ⟨h1, h2⟩ o
  exact World.cell?_of_block (a := ⟨b, o, none⟩) (hk.block b h1 h2 (by simp))

theorem At7.keptR {w w' : World} {R b o : Nat} {x : TT} (h : At7 w b o x) (hk : Kept R none w w') (hb : b ≠ R) : At7 w' b o x :=
  h.of fun i => World.cell?_of_block (a := ⟨b, i, none⟩) (hk.block b h.lt hb (by simp))

/-- A term without parts and types. -/
def tleaf (k n : Int) : TT := ⟨k, n, ⟨0, none, 0, []⟩, ⟨0, none, 0, []⟩, none, 0, []⟩
theorem tleaf_in (k n : Int) (w : World) : (tleaf k n).In w := TT.In_mk.2 ⟨Tr.In_nil _ _ _ _, Tr.In_nil _ _ _ _, fun j h => absurd h (by simp), fun t h => absurd h (by simp)⟩
theorem tleaf_bl (k n : Int) (P : Nat → Prop) : (tleaf k n).Bl P := TT.Bl_mk.2 ⟨Tr.Bl_nil _ _ _ _, Tr.Bl_nil _ _ _ _, fun h => absurd rfl h, fun t h => absurd h (by simp)⟩
theorem tleaf_tm (k n : Int) : (tleaf k n).tm = ⟨k, n, anyY, anyY, []⟩ := by simp [tleaf, TT.tm_mk, Tr.ty_mk, anyY]
end Go.Proofs.YtnddkmccagiclaaGreatDoor

/-
  What the calls of term.isAny, term.goodTypes and (*walk).goodNumber answer, at whatever term lies in memory.
-/
namespace Go.Proofs.YtnddkmccagiclaaGreatDoor
open Go.RowKit

theorem below_dN {B : Nat} {a w : World} (h : Below B a w) (n : Nat) : Below B a (w.drewN n) := ⟨h.os, h.tape, h.output, h.size, h.block⟩

set_option maxHeartbeats 400000 in
theorem same_top (x y : Tr) (rp : Option Addr) (w : World) (ht : Hid ((x.k == y.k && (x.l.length : Int) == (y.l.length : Int)) = false)) :
    Calls Tryz.prog 80 #[.agg #[.int .i64 x.k, .slice x.a x.l.length x.c], .agg #[.int .i64 y.k, .slice y.a y.l.length y.c], .int .i64 1000, .pointer rp] w fun e w' => e = .returned (.bool false) ∧ Below w.heap.size w w' := by
  go_enter Tryz.func80, Tryz.ntmps80
  go_wp2_with fail
  refine (alike_any _ _ _ _ _ _ _ _ false ht.out _).mono ?_
  rintro e w1 ⟨rfl, hb1⟩
  go_wp2_with fail
  go_ret
  exact ⟨rfl, (((Below.refl _ _).alloc (Nat.le_refl _) _).alloc (by simp) _).trans (hb1.mono (by simp; omega))⟩

set_option maxHeartbeats 400000 in
theorem same_by (x y : Tr) (r : Bool) (w : World) (hx : x.In w) (hy : y.In w)
    (HC : Hid (∀ (rp : Option Addr) (w : World), x.In w → y.In w → Calls Tryz.prog 80 #[.agg #[.int .i64 x.k, .slice x.a x.l.length x.c], .agg #[.int .i64 y.k, .slice y.a y.l.length y.c], .int .i64 1000, .pointer rp] w fun e w' => e = .returned (.bool r) ∧ Below w.heap.size w w')) :
    Calls Tryz.prog 48 #[.agg #[.int .i64 x.k, .slice x.a x.l.length x.c], .agg #[.int .i64 y.k, .slice y.a y.l.length y.c]] w fun e w' => e = .returned (.bool r) ∧ Below w.heap.size w w' := by
  have HH : Hid (∀ (w : World), x.In w → y.In w → Calls Tryz.prog 79 #[.func (.func 80) #[] #[], .agg #[.int .i64 x.k, .slice x.a x.l.length x.c], .agg #[.int .i64 y.k, .slice y.a y.l.length y.c]] w fun e w' => e = .returned (.bool r) ∧ Below w.heap.size w w') := fun w h1 h2 => holds_31 x y r w h1 h2 HC
  clear HC
  go_enter Tryz.func48, Tryz.ntmps48
  go_wp2_with fail
  have hb0 : Below w.heap.size w ((w.alloc (Obj.cells #[.int .i64 x.k, .slice x.a x.l.length x.c] 24)).alloc (Obj.cells #[.int .i64 y.k, .slice y.a y.l.length y.c] 24)) := ((Below.refl _ _).alloc (Nat.le_refl _) _).alloc (by simp) _
  refine (HH.out _ (hx.below hb0) (hy.below hb0)).mono ?_
  rintro e w1 ⟨rfl, hb1⟩
  have hb2 := hb0.trans (hb1.mono (by simp; omega))
  clear hb0 hb1
  go_wp2_with fail
  go_ret
  exact ⟨rfl, hb2⟩

theorem ret_bool {a b : Bool} (h : a = b) : Ending.returned (.bool a) = .returned (.bool b) := by rw [h]

theorem leaf_ty (k : Int) : (leaf k).ty = ⟨k, []⟩ := by simp [leaf, Tr.ty_mk]

/-- kind.Same of any type and Any. -/
theorem same_any0 (x : Tr) (w : World) (hx : x.In w) :
    Calls Tryz.prog 48 #[.agg #[.int .i64 x.k, .slice x.a x.l.length x.c], .agg #[.int .i64 0, .slice none 0 0]] w fun e w' => e = .returned (.bool (isAnyY x.ty)) ∧ Below w.heap.size w w' := by
  have e0 : isAnyY x.ty = relY escSame x.ty (leaf 0).ty := by rw [leaf_ty]; rfl
  rw [e0]
  by_cases ht : (x.k == (leaf 0).k && (x.l.length : Int) == ((leaf 0).l.length : Int)) = false
  · have hr : relY escSame x.ty (leaf 0).ty = false := relY_top escSame x (leaf 0) rfl ht
    rw [hr]
    exact same_by x (leaf 0) false w hx (leaf_in 0 w) (fun rp w h1 h2 => same_top x (leaf 0) rp w ht)
  · have hl : x.l = [] := by
      simp [leaf] at ht
      exact ht.2
    have hh : x.hgt ≤ 1000 := by
      obtain ⟨k, a, c, l⟩ := x
      dsimp only at hl
      subst hl
      rw [Tr.hgt_mk]
      simp
    have hs : x.sm := by
      obtain ⟨k, a, c, l⟩ := x
      dsimp only at hl
      subst hl
      exact Tr.sm_mk.2 ⟨by simp, fun t h => by cases h⟩
    exact same_whole x (leaf 0) w hx (leaf_in 0 w) hh hs

set_option maxHeartbeats 400000 in
/-- term.isAny. -/
theorem isAny_any (x : Tr) (w : World) (hx : x.In w) :
    Calls Tryz.prog 75 #[.agg #[.int .i64 x.k, .slice x.a x.l.length x.c]] w fun e w' => e = .returned (.bool (isAnyY x.ty)) ∧ Below w.heap.size w w' := by
  have HC : Hid (∀ w, x.In w → Calls Tryz.prog 48 #[.agg #[.int .i64 x.k, .slice x.a x.l.length x.c], .agg #[.int .i64 0, .slice none 0 0]] w fun e w' => e = .returned (.bool (isAnyY x.ty)) ∧ Below w.heap.size w w') := same_any0 x
  go_enter Tryz.func75, Tryz.ntmps75
  go_wp2_with fail
  have hb0 : Below w.heap.size w (w.alloc (Obj.cells #[.int .i64 x.k, .slice x.a x.l.length x.c] 24)) := (Below.refl _ _).alloc (Nat.le_refl _) _
  refine (HC.out _ (hx.below hb0)).mono ?_
  rintro e w1 ⟨rfl, hb1⟩
  have hb2 := hb0.trans (hb1.mono (by simp))
  clear hb0 hb1
  go_wp2_with fail
  go_ret
  exact ⟨rfl, hb2⟩

set_option maxHeartbeats 1000000 in
/-- term.goodTypes. -/
theorem goodTypes_any (x : TT) (w : World) (ht : x.t.In w) (hf : x.f.In w) :
    Calls Tryz.prog 43 #[.agg #[.int .i64 x.k, .int .i64 x.n, .int .i64 x.t.k, .slice x.t.a x.t.l.length x.t.c, .int .i64 x.f.k, .slice x.f.a x.f.l.length x.f.c, .slice x.a x.l.length x.c]] w fun e w' => e = .returned (.bool (okTypes x.k x.t.ty x.f.ty)) ∧ Below w.heap.size w w' := by
  have HF : Hid (∀ w, x.f.In w → Calls Tryz.prog 75 #[.agg #[.int .i64 x.f.k, .slice x.f.a x.f.l.length x.f.c]] w fun e w' => e = .returned (.bool (isAnyY x.f.ty)) ∧ Below w.heap.size w w') := isAny_any x.f
  have HT : Hid (∀ w, x.t.In w → Calls Tryz.prog 75 #[.agg #[.int .i64 x.t.k, .slice x.t.a x.t.l.length x.t.c]] w fun e w' => e = .returned (.bool (isAnyY x.t.ty)) ∧ Below w.heap.size w w') := isAny_any x.t
  have HG : Hid (∀ w, x.t.In w → Calls Tryz.prog 76 #[.agg #[.int .i64 x.t.k, .slice x.t.a x.t.l.length x.t.c]] w fun e w' => e = .returned (.bool (goodY 4 x.t.ty)) ∧ Below w.heap.size w w') := by
    intro w h
    have := good_any x.t w h
    rw [goodT_eq] at this
    exact this
  have HK : Hid (∀ w, Calls Tryz.prog 37 #[.int .i64 x.k] w fun e w' => e = .returned (.bool (tells x.k)) ∧ w' = w) := tells_any x.k
  obtain ⟨bf, hbf⟩ : ∃ b, isAnyY x.f.ty = b := ⟨_, rfl⟩
  obtain ⟨bt, hbt⟩ : ∃ b, tells x.k = b := ⟨_, rfl⟩
  have HO : Hid (okTypes x.k x.t.ty x.f.ty = (bf && (if bt = true then goodY 4 x.t.ty else isAnyY x.t.ty))) := by show _ = _; rw [okTypes, hbf, hbt]
  rw [hbf] at HF
  rw [hbt] at HK
  clear hbf hbt
  have hb0 : Below w.heap.size w (w.alloc (Obj.cells #[.int .i64 x.k, .int .i64 x.n, .int .i64 x.t.k, .slice x.t.a x.t.l.length x.t.c, .int .i64 x.f.k, .slice x.f.a x.f.l.length x.f.c, .slice x.a x.l.length x.c] 27)) := (Below.refl _ _).alloc (Nat.le_refl _) _
  cases bf
  · go_enter Tryz.func43, Tryz.ntmps43
    go_wp2_with fail
    refine (HF.out _ (hf.below hb0)).mono ?_
    rintro e w1 ⟨rfl, hb1⟩
    have hb2 := hb0.trans (hb1.mono (by simp))
    clear hb0 hb1
    go_wp2_with fail
    go_ret
    exact ⟨by rw [HO.out]; rfl, hb2⟩
  · go_enter Tryz.func43, Tryz.ntmps43
    go_wp2_with fail
    refine (HF.out _ (hf.below hb0)).mono ?_
    rintro e w1 ⟨rfl, hb1⟩
    have hb2 := hb0.trans (hb1.mono (by simp))
    have q0 : w1.cell? ⟨w.heap.size, 0, none⟩ = some (.int .i64 x.k) := cell_later hb1 (by simp [go_sem])
    have q2 : w1.cell? ⟨w.heap.size, 2, none⟩ = some (.int .i64 x.t.k) := cell_later hb1 (by simp [go_sem])
    have q3 : w1.cell? ⟨w.heap.size, 3, none⟩ = some (.slice x.t.a x.t.l.length x.t.c) := cell_later hb1 (by simp [go_sem])
    clear hb0 hb1
    go_wp2_with fail
    refine (HK.out _).mono ?_
    rintro e w' ⟨rfl, rfl⟩
    cases bt
    · go_wp2_with fail
      refine (HT.out _ (ht.below hb2)).mono ?_
      rintro e w2 ⟨rfl, hb3⟩
      have hb4 := hb2.trans (hb3.mono hb2.size)
      clear hb3 hb2
      go_wp2_with fail
      go_ret
      exact ⟨by rw [HO.out]; rfl, hb4⟩
    · go_wp2_with fail
      refine (HG.out _ (ht.below hb2)).mono ?_
      rintro e w2 ⟨rfl, hb3⟩
      have hb4 := hb2.trans (hb3.mono hb2.size)
      clear hb3 hb2
      go_wp2_with fail
      go_ret
      exact ⟨by rw [HO.out]; rfl, hb4⟩

set_option maxHeartbeats 1000000 in
/-- (*walk).goodNumber. -/
theorem goodNumber_any (R : Nat) (ar : Int) (ins : Nat) (hi : ins ≤ 1000) (x : TT) (hn : x.n ≤ 9223372036854775807) (w : World) (hr : w.cell? ⟨R, 0, none⟩ = some (.int .i64 ar)) :
    Calls Tryz.prog 44 #[.pointer (some ⟨R, 0, none⟩), .agg #[.int .i64 x.k, .int .i64 x.n, .int .i64 x.t.k, .slice x.t.a x.t.l.length x.t.c, .int .i64 x.f.k, .slice x.f.a x.f.l.length x.f.c, .slice x.a x.l.length x.c], .int .i64 (ins : Int)] w fun e w' => e = .returned (.bool (okNum ar (ins : Int) x.k x.n)) ∧ Below w.heap.size w w' := by
  have hRl : R < w.heap.size := World.block_lt_of_cell? _ _ hr
  by_cases h1 : x.k = 1
  · have hk : (x.k == 1) = true := by simp [h1]
    by_cases h0 : 0 ≤ x.n
    · have hd : decide (0 ≤ x.n) = true := by simp [h0]
      have HO : Hid (okNum ar (ins : Int) x.k x.n = decide (x.n - (ins : Int) < ar)) := by show _ = _; rw [okNum, if_pos h1, hd, Bool.true_and]
      clear h1
      go_enter Tryz.func44, Tryz.ntmps44
      go_wp2_with fail
      go_quiet (fail)
      go_wp2_with fail
      go_ret
      exact ⟨ret_bool HO.out.symm, below_dN ((Below.refl _ _).alloc (Nat.le_refl _) _) _⟩
    · have hd : decide (0 ≤ x.n) = false := by simpa using h0
      have HO : Hid (okNum ar (ins : Int) x.k x.n = false) := by show _ = _; rw [okNum, if_pos h1, hd, Bool.false_and]
      clear h1
      go_enter Tryz.func44, Tryz.ntmps44
      go_wp2_with fail
      go_quiet (fail)
      go_wp2_with fail
      go_ret
      exact ⟨ret_bool HO.out.symm, below_dN ((Below.refl _ _).alloc (Nat.le_refl _) _) _⟩
  · have hk1 : (x.k == 1) = false := by simpa using h1
    by_cases h2 : x.k = 2
    · have hk2 : (x.k == 2) = true := by simp [h2]
      by_cases h0 : -1000000 ≤ x.n
      · have hd : decide (-1000000 ≤ x.n) = true := by simp [h0]
        have HO : Hid (okNum ar (ins : Int) x.k x.n = decide (x.n ≤ 1000000)) := by show _ = _; rw [okNum, if_neg h1, if_pos h2, hd, Bool.true_and]
        clear h1 h2
        go_enter Tryz.func44, Tryz.ntmps44
        go_wp2_with fail
        go_ret
        exact ⟨ret_bool HO.out.symm, (Below.refl _ _).alloc (Nat.le_refl _) _⟩
      · have hd : decide (-1000000 ≤ x.n) = false := by simpa using h0
        have HO : Hid (okNum ar (ins : Int) x.k x.n = false) := by show _ = _; rw [okNum, if_neg h1, if_pos h2, hd, Bool.false_and]
        clear h1 h2
        go_enter Tryz.func44, Tryz.ntmps44
        go_wp2_with fail
        go_ret
        exact ⟨ret_bool HO.out.symm, (Below.refl _ _).alloc (Nat.le_refl _) _⟩
    · have hk2 : (x.k == 2) = false := by simpa using h2
      by_cases h3 : x.k = 3
      · have hk3 : (x.k == 3) = true := by simp [h3]
        cases h0 : (x.n == 0) with
        | true =>
          have HO : Hid (okNum ar (ins : Int) x.k x.n = true) := by show _ = _; rw [okNum, if_neg h1, if_neg h2, if_pos h3, h0, Bool.true_or]
          clear h1 h2 h3
          go_enter Tryz.func44, Tryz.ntmps44
          go_wp2_with fail
          go_ret
          exact ⟨ret_bool HO.out.symm, (Below.refl _ _).alloc (Nat.le_refl _) _⟩
        | false =>
          have HO : Hid (okNum ar (ins : Int) x.k x.n = (x.n == 1)) := by show _ = _; rw [okNum, if_neg h1, if_neg h2, if_pos h3, h0, Bool.false_or]
          clear h1 h2 h3
          go_enter Tryz.func44, Tryz.ntmps44
          go_wp2_with fail
          go_ret
          exact ⟨ret_bool HO.out.symm, (Below.refl _ _).alloc (Nat.le_refl _) _⟩
      · have hk3 : (x.k == 3) = false := by simpa using h3
        have HO : Hid (okNum ar (ins : Int) x.k x.n = (x.n == 0)) := by show _ = _; rw [okNum, if_neg h1, if_neg h2, if_neg h3]
        clear h1 h2 h3
        go_enter Tryz.func44, Tryz.ntmps44
        go_wp2_with fail
        go_ret
        exact ⟨ret_bool HO.out.symm, (Below.refl _ _).alloc (Nat.le_refl _) _⟩
end Go.Proofs.YtnddkmccagiclaaGreatDoor

/-
  What the call of (*walk).good answers, at whatever term lies in memory: where its top is not good, and where it has no parts.
-/
namespace Go.Proofs.YtnddkmccagiclaaGreatDoor
open Go.RowKit

/-- A walk behind a pointer: how many functions are around, how much room is left. -/
structure WS (R : Nat) (ar : Int) (room : Nat) (w : World) : Prop where
  a : w.cell? ⟨R, 0, none⟩ = some (.int .i64 ar)
  r : w.cell? ⟨R, 1, none⟩ = some (.int .i64 (room : Int))
  z : w.frozen? ⟨R, 1, none⟩ = false

theorem WS.lt {R : Nat} {ar : Int} {room : Nat} {w : World} (h : WS R ar room w) : R < w.heap.size := World.block_lt_of_cell? _ _ h.a

theorem WS.below {R : Nat} {ar : Int} {room : Nat} {w w' : World} (h : WS R ar room w) (hb : Below w.heap.size w w') : WS R ar room w' :=
  ⟨cell_later hb h.a, cell_later hb h.r, (hb.frozen (p := ⟨R, 1, none⟩) h.lt).trans h.z⟩

theorem WS.set {R : Nat} {ar : Int} {room r : Nat} {w : World} (h : WS R ar room w) : WS R ar r (w.setCell ⟨R, 1, none⟩ (.int .i64 (r : Int))) :=
  ⟨by rw [World.cell?_setCell_other _ _ _ _ (by simp)]; exact h.a, World.cell?_setCell_same _ _ _ h.r, by rw [World.frozen?_setCell]; exact h.z⟩

/-- What the call leaves. -/
def GoodPost (R : Nat) (ar : Int) (o : Option Nat) (w : World) (e : Ending) (w' : World) : Prop :=
  ∃ r : Nat, e = .returned (.bool o.isSome) ∧ WS R ar r w' ∧ (∀ q, o = some q → q = r) ∧ Kept R none w w'

/-- Its numbers are whole numbers of 64 bits. -/
def TT.nb : TT → Prop
  | ⟨_, n, _, _, _, _, l⟩ => n ≤ 9223372036854775807 ∧ ∀ x, x ∈ l → x.nb

theorem TT.nb_mk {k n : Int} {t f : Tr} {a : Option Addr} {c : Nat} {l : List TT} : (TT.mk k n t f a c l).nb ↔ n ≤ 9223372036854775807 ∧ ∀ x, x ∈ l → x.nb := by
  rw [TT.nb]

theorem TT.nb.n {x : TT} (h : x.nb) : x.n ≤ 9223372036854775807 := by cases x; exact (TT.nb_mk.1 h).1
theorem TT.nb.mem {x y : TT} (h : x.nb) (hy : y ∈ x.l) : y.nb := by
  obtain ⟨k, n, t, f, a, c, l⟩ := x
  exact (TT.nb_mk.1 h).2 y hy

set_option maxHeartbeats 400000 in
theorem goodW_none (R : Nat) (ar ins : Int) (x : TT) (w : World) (hw : WS R ar 0 w) :
    Calls Tryz.prog 24 #[.pointer (some ⟨R, 0, none⟩), .agg #[.int .i64 x.k, .int .i64 x.n, .int .i64 x.t.k, .slice x.t.a x.t.l.length x.t.c, .int .i64 x.f.k, .slice x.f.a x.f.l.length x.f.c, .slice x.a x.l.length x.c], .int .i64 ins] w (GoodPost R ar none w) := by
  have hr := hw.r
  have hRl := hw.lt
  have e0 : ((0 : Nat) : Int) = 0 := rfl
  rw [e0] at hr
  go_enter Tryz.func24, Tryz.ntmps24
  go_wp2_with fail
  go_ret
  have hb : Below w.heap.size w (w.alloc (Obj.cells #[.int .i64 x.k, .int .i64 x.n, .int .i64 x.t.k, .slice x.t.a x.t.l.length x.t.c, .int .i64 x.f.k, .slice x.f.a x.f.l.length x.f.c, .slice x.a x.l.length x.c] 27)) := (Below.refl _ _).alloc (Nat.le_refl _) _
  exact ⟨0, rfl, hw.below hb, (fun q h => by cases h), Kept.of_below hb⟩

theorem parts_cell {w : World} (hg : Gp w) (k : Int) (h1 : 1 ≤ k) (h2 : k ≤ 9) : w.cell? ⟨2, k.toNat, none⟩ = some (.int .i64 (partsOf k : Int)) := by
  rw [hg.pt.cell]
  obtain rfl | rfl | rfl | rfl | rfl | rfl | rfl | rfl | rfl : k = 1 ∨ k = 2 ∨ k = 3 ∨ k = 4 ∨ k = 5 ∨ k = 6 ∨ k = 7 ∨ k = 8 ∨ k = 9 := by omega
  all_goals rfl

theorem len_ne (m p : Nat) (h : (m == p) = false) : ((m : Int) == (p : Int)) = false := by
  simp at h ⊢
  omega

/-- The world behind the count. -/
def wTop (R : Nat) (r : Nat) (x : TT) (w : World) : World :=
  (w.setCell ⟨R, 1, none⟩ (.int .i64 (r : Int))).alloc (Obj.cells #[.int .i64 x.k, .int .i64 x.n, .int .i64 x.t.k, .slice x.t.a x.t.l.length x.t.c, .int .i64 x.f.k, .slice x.f.a x.f.l.length x.f.c, .slice x.a x.l.length x.c] 27)

set_option maxHeartbeats 1000000 in
theorem goodW_bad1 (R : Nat) (ar : Int) (r : Nat) (hr1 : r ≤ 1000) (ins : Int) (x : TT) (w : World) (hg : Gp w) (hR : 3 ≤ R) (hw : WS R ar (r + 1) w)
    (hok : (decide (1 ≤ x.k) && decide (x.k ≤ 9) && (x.l.length == partsOf x.k)) = false) :
    Calls Tryz.prog 24 #[.pointer (some ⟨R, 0, none⟩), .agg #[.int .i64 x.k, .int .i64 x.n, .int .i64 x.t.k, .slice x.t.a x.t.l.length x.t.c, .int .i64 x.f.k, .slice x.f.a x.f.l.length x.f.c, .slice x.a x.l.length x.c], .int .i64 ins] w (GoodPost R ar none w) := by
  have hr := hw.r
  have hz := hw.z
  have hRl := hw.lt
  have e0 : ((r + 1 : Nat) : Int) = (r : Int) + 1 := by omega
  rw [e0] at hr
  have e1 : (((r : Int) + 1) == 0) = false := by simp; omega
  have fin : ∀ nq, GoodPost R ar none w (.returned (.bool false)) ((wTop R r x w).drewN nq) := by
    intro nq
    have hb : Below (w.setCell ⟨R, 1, none⟩ (.int .i64 (r : Int))).heap.size (w.setCell ⟨R, 1, none⟩ (.int .i64 (r : Int))) ((wTop R r x w).drewN nq) := below_dN ((Below.refl _ _).alloc (Nat.le_refl _) _) _
    exact ⟨r, rfl, (WS.set hw).below hb, (fun q h => by cases h), setR_kept.trans (Kept.of_below hb)⟩
  have FIN : Hid (∀ nq, GoodPost R ar none w (.returned (.bool false)) ((wTop R r x w).drewN nq)) := fin
  clear fin
  by_cases hk1 : 1 ≤ x.k
  · have hd1 : decide (x.k < 1) = false := by simp; omega
    by_cases hk2 : x.k ≤ 9
    · have hd2 : decide (9 < x.k) = false := by simp; omega
      have hp := parts_cell hg x.k hk1 hk2
      have hlen : (x.l.length == partsOf x.k) = false := by
        have a1 : decide (1 ≤ x.k) = true := by simp [hk1]
        have a2 : decide (x.k ≤ 9) = true := by simp [hk2]
        rw [a1, a2] at hok
        simpa using hok
      have hne := len_ne _ _ hlen
      have hne2 : ((x.l.length : Int) != (partsOf x.k : Int)) = true := by rw [bne, hne]; rfl
      have i0 : (0 : Int) ≤ x.k := by omega
      have i1 : x.k < 10 := by omega
      have n2 : (2 : Nat) ≠ R := by omega
      have h2l : 2 < w.heap.size := by have := hg.size; omega
      clear hok hlen hk1 hk2 hg
      go_enter Tryz.func24, Tryz.ntmps24
      go_wp2_with fail
      go_quiet (fail)
      go_wp2_with fail
      go_ret
      exact FIN.out _
    · have hd2 : decide (9 < x.k) = true := by simp; omega
      clear hok hk2
      go_enter Tryz.func24, Tryz.ntmps24
      go_wp2_with fail
      go_quiet (fail)
      go_wp2_with fail
      go_ret
      exact FIN.out _
  · have hd1 : decide (x.k < 1) = true := by simp; omega
    clear hok hk1
    go_enter Tryz.func24, Tryz.ntmps24
    go_wp2_with fail
    go_quiet (fail)
    go_wp2_with fail
    go_ret
    exact FIN.out _
end Go.Proofs.YtnddkmccagiclaaGreatDoor
