/-
  The small functions of package check: count, fresh, ruleOfCall, ruleOfIf, ahead: what a call of each answers, at types of at most a thousand levels.
-/
import Derived.Test.YtnddkmccagiclaaGreatDoorLotbe7660decd
import Derived.Test.YtnddkmccagiclaaGreatDoorLot0558bdb606
import Derived.Deep.LoopGhost
import Derived.Shelf.Strconv.Itoa3
import Derived.Lib.SlicesS
import Derived.Deep.AppendLies
import Derived.Deep.RegionLaw
import Derived.Deep.RegionHeld3
namespace Go.Proofs.YtnddkmccagiclaaGreatDoor
open Go.RowKit
set_option maxHeartbeats 400000 in
/-- count. -/
theorem count_any (R c : Nat) (hc : c ≤ 1000000) (w : World) (h : w.cell? ⟨R, 0, none⟩ = some (.int .i64 (c : Int))) (hf : w.frozen? ⟨R, 0, none⟩ = false) :
    Calls Tryz.prog 62 #[.pointer (some ⟨R, 0, none⟩)] w fun e w' => e = .returned (.int .i64 (c : Int)) ∧ w' = w.setCell ⟨R, 0, none⟩ (.int .i64 ((c + 1 : Nat) : Int)) := by
  have e1 : IntKind.i64.wrap ((c : Int) + 1) = ((c + 1 : Nat) : Int) := by
    have : ((c + 1 : Nat) : Int) = (c : Int) + 1 := by omega
    rw [this]
    rw [IntKind.wrap_i64]; omega
  go_enter Tryz.func62, Tryz.ntmps62
  go_wp2_with fail
  go_ret
  exact ⟨rfl, by first | rfl | rw [e1] | (simp [e1])⟩
/-- A copy of a right type is the type. -/
theorem join_self (t : Tr) : t.right → joinY t.ty t.ty = t.ty := by
  induction t using Tr.ind with
  | h k a c l ih =>
    intro h
    rw [Tr.ty_mk, joinY_mk, if_pos rfl]
    congr 1
    rcases Tr.right_mk.1 h with ⟨⟨rfl, _⟩ | ⟨hl, _⟩, hr⟩
    · rfl
    · match l, hl, hr, ih with
      | [x, y], _, hr, ih => simp [joinL, ih x (by simp) (hr x (by simp)), ih y (by simp) (hr y (by simp))]
set_option maxHeartbeats 400000 in
/-- fresh. -/
theorem fresh_any (x : Tr) (w : World) (hx : x.In w) (hr : x.right) (hh : x.hgt ≤ 1000) :
    Calls Tryz.prog 35 #[.agg #[.int .i64 x.k, .slice x.a x.l.length x.c]] w fun e w' => ∃ t : Tr, e = .returned (.agg #[.int .i64 t.k, .slice t.a t.l.length t.c]) ∧ t.ty = x.ty ∧ t.In w' ∧ t.Bl (w.heap.size ≤ ·) ∧ Below w.heap.size w w' := by
  have hb0 : Below w.heap.size w ((w.alloc (Obj.cells #[.int .i64 x.k, .slice x.a x.l.length x.c] 24)).alloc (Obj.cells #[.int .i64 0, .slice none 0 0] 24)) := ((Below.refl _ _).alloc (Nat.le_refl _) _).alloc (by simp) _
  have hz : ((w.alloc (Obj.cells #[.int .i64 x.k, .slice x.a x.l.length x.c] 24)).alloc (Obj.cells #[.int .i64 0, .slice none 0 0] 24)).heap.size = w.heap.size + 1 + 1 := by simp
  go_enter Tryz.func35, Tryz.ntmps35
  go_wp2_with fail
  refine (join_whole x x _ (hx.below hb0) (hx.below hb0) hr hr hh).mono ?_
  rintro e w1 ⟨t, rfl, ht, hin, hbl, hb1⟩
  rw [hz] at hbl hb1
  have q0 : w1.cell? ⟨w.heap.size + 1, 0, none⟩ = some (.int .i64 0) := (hb1.cell (p := ⟨w.heap.size + 1, 0, none⟩) (by simp)).trans (by simp [go_sem])
  have q1 : w1.cell? ⟨w.heap.size + 1, 1, none⟩ = some (.slice none 0 0) := (hb1.cell (p := ⟨w.heap.size + 1, 1, none⟩) (by simp)).trans (by simp [go_sem])
  have f0 : w1.frozen? ⟨w.heap.size + 1, 0, none⟩ = false := (hb1.frozen (p := ⟨w.heap.size + 1, 0, none⟩) (by simp)).trans (by simp [go_sem])
  have f1 : w1.frozen? ⟨w.heap.size + 1, 1, none⟩ = false := (hb1.frozen (p := ⟨w.heap.size + 1, 1, none⟩) (by simp)).trans (by simp [go_sem])
  have hbw : Below w.heap.size w w1 := hb0.trans (hb1.mono (by omega))
  have HE : Hid (∃ t' : Tr, Ending.returned (.agg #[.int .i64 t.k, .slice t.a t.l.length t.c]) = .returned (.agg #[.int .i64 t'.k, .slice t'.a t'.l.length t'.c]) ∧ t'.ty = x.ty ∧ t'.In ((w1.setCell ⟨w.heap.size + 1, 0, none⟩ (.int .i64 t.k)).setCell ⟨w.heap.size + 1, 1, none⟩ (.slice t.a t.l.length t.c)) ∧ t'.Bl (w.heap.size ≤ ·) ∧ Below w.heap.size w ((w1.setCell ⟨w.heap.size + 1, 0, none⟩ (.int .i64 t.k)).setCell ⟨w.heap.size + 1, 1, none⟩ (.slice t.a t.l.length t.c))) :=
    ⟨t, rfl, ht.trans (join_self x hr), set_keeps (io := 0) hin (hbl.mono fun b hb => by omega), hbl.mono fun b hb => by omega, (hbw.setCell (by simp) _).setCell (by simp) _⟩
  clear hb0 hb1 hbw ht hin hbl hz hx hr hh
  go_wp2_with fail
  refine bodyPost_ret (v := .agg #[.int .i64 t.k, .slice t.a t.l.length t.c]) ?_ rfl HE.out
  simp [results, Tryz.results35, go_sem, q0, q1]
end Go.Proofs.YtnddkmccagiclaaGreatDoor

/-
  A reader of words behind a pointer: what its state is, and what the calls of next, fail and want do to it; the package-level tables.
-/
namespace Go.Proofs.YtnddkmccagiclaaGreatDoor
open Go.RowKit
theorem Kept.of_below {R : Nat} {o : Option Nat} {w w' : World} (h : Below w.heap.size w w') : Kept R o w w' :=
  ⟨h.os, h.tape, h.output, h.size, fun k hk _ _ => h.block k hk⟩
theorem Kept.trans {R : Nat} {w w1 w2 : World} (h : Kept R none w w1) (h' : Kept R none w1 w2) : Kept R none w w2 := by
  have hs := h.size
  exact ⟨h'.os.trans h.os, h'.tape.trans h.tape, h'.output.trans h.output, Nat.le_trans h.size h'.size, fun k hk h1 h2 => (h'.block k (by omega) h1 h2).trans (h.block k hk h1 h2)⟩
theorem Kept.cell {R : Nat} {w w' : World} (h : Kept R none w w') {b i : Nat} {v : Value} (hc : w.cell? ⟨b, i, none⟩ = some v) (h1 : b ≠ R) : w'.cell? ⟨b, i, none⟩ = some v :=
  (World.cell?_of_block (a := ⟨b, i, none⟩) (h.block b (World.block_lt_of_cell? _ _ hc) h1 (by simp))).trans hc
/-- Package-level variable g holds these cells. -/
def Vc (w : World) (g : Nat) (cs : Array Value) : Prop := ∃ t fr, w.heap[g]? = some (.cells cs t fr)
theorem Vc.cell {w : World} {g : Nat} {cs : Array Value} (h : Vc w g cs) (i : Nat) : w.cell? ⟨g, i, none⟩ = cs[i]? := by
  obtain ⟨t, fr, h⟩ := h
  rw [cell_of_row w g i cs t fr h]
/-- What the tables hold. -/
structure Gl (w : World) : Prop where
  tw : Vc w 0 #[.string ⟨#[110, 111]⟩, .string ⟨#[121, 101, 115]⟩]
  wd : Vc w 1 #[.string ⟨#[]⟩, .string ⟨#[]⟩, .string ⟨#[]⟩, .string ⟨#[]⟩, .string ⟨#[97, 100, 100]⟩, .string ⟨#[108, 101, 115, 115]⟩, .string ⟨#[105, 102]⟩, .string ⟨#[102, 117, 110]⟩, .string ⟨#[99, 97, 108, 108]⟩, .string ⟨#[97, 115]⟩]
  pt : Vc w 2 #[.int .i64 0, .int .i64 0, .int .i64 0, .int .i64 0, .int .i64 2, .int .i64 2, .int .i64 3, .int .i64 1, .int .i64 2, .int .i64 1]
  ty : Vc w 3 #[.string ⟨#[97, 110, 121]⟩, .string ⟨#[110, 117, 109]⟩, .string ⟨#[116, 114, 117, 116, 104]⟩]
  pw : Vc w 7 (Lib.pow10Tab.map fun z => Value.int .u64 z).toArray
  mx : ∃ m, Vc w 6 #[.int .i64 m]
  es : ∃ te pe, Vc w 10 #[.iface te pe]
  er : ∃ te pe, Vc w 11 #[.iface te pe]
theorem Vc.of {w w' : World} {g : Nat} {cs : Array Value} (h : Vc w g cs) (e : w'.heap[g]? = w.heap[g]?) : Vc w' g cs := by
  obtain ⟨t, fr, h⟩ := h
  exact ⟨t, fr, e.trans h⟩
theorem Vc.lt {w : World} {g : Nat} {cs : Array Value} (h : Vc w g cs) : g < w.heap.size := by
  obtain ⟨t, fr, h⟩ := h
  exact (Array.getElem?_eq_some_iff.1 h).1
theorem Gl.of {w w' : World} (h : Gl w) (e : ∀ g, g < 12 → w'.heap[g]? = w.heap[g]?) : Gl w' := by
  obtain ⟨m, hm⟩ := h.mx
  obtain ⟨a, b, hs⟩ := h.es
  obtain ⟨a', b', hr⟩ := h.er
  exact ⟨h.tw.of (e _ (by omega)), h.wd.of (e _ (by omega)), h.pt.of (e _ (by omega)), h.ty.of (e _ (by omega)), h.pw.of (e _ (by omega)), ⟨m, hm.of (e _ (by omega))⟩, ⟨a, b, hs.of (e _ (by omega))⟩, ⟨a', b', hr.of (e _ (by omega))⟩⟩
theorem Gl.size {w : World} (h : Gl w) : 12 ≤ w.heap.size := by
  obtain ⟨a', b', hr⟩ := h.er
  exact hr.lt
theorem Gl.below {w w' : World} (h : Gl w) (hb : Below w.heap.size w w') : Gl w' :=
  h.of fun g hg => hb.block g (by have := h.size; omega)
theorem Gl.kept {w w' : World} {R : Nat} (h : Gl w) (hR : 12 ≤ R) (hb : Kept R none w w') : Gl w' :=
  h.of fun g hg => hb.block g (by have := h.size; omega) (by omega) (by simp)
/-- What the table of parts holds. -/
structure Gp (w : World) : Prop where
  pt : Vc w 2 #[.int .i64 0, .int .i64 0, .int .i64 0, .int .i64 0, .int .i64 2, .int .i64 2, .int .i64 3, .int .i64 1, .int .i64 2, .int .i64 1]
theorem Gl.gp {w : World} (h : Gl w) : Gp w := ⟨h.pt⟩
theorem Gp.size {w : World} (h : Gp w) : 3 ≤ w.heap.size := h.pt.lt
theorem Gp.below {w w' : World} (h : Gp w) (hb : Below w.heap.size w w') : Gp w' := ⟨h.pt.of (hb.block 2 h.pt.lt)⟩
theorem Gp.kept {w w' : World} {R : Nat} (h : Gp w) (hR : 3 ≤ R) (hb : Kept R none w w') : Gp w' := ⟨h.pt.of (hb.block 2 h.pt.lt (by omega) (by simp))⟩
/-- The words that are left, and whether something went wrong. -/
structure RS (R : Nat) (ws : List ByteArray) (b : Bool) (w : World) : Prop where
  l : ∃ a c, w.cell? ⟨R, 0, none⟩ = some (.slice a ws.length c) ∧ ws.length ≤ c ∧ (ws ≠ [] → ∃ A o, a = some ⟨A, o, none⟩ ∧ A < R ∧ ∀ (i : Nat) x, ws[i]? = some x → w.cell? ⟨A, o + i, none⟩ = some (.string x))
  b : w.cell? ⟨R, 1, none⟩ = some (.bool b)
  f0 : w.frozen? ⟨R, 0, none⟩ = false
  f1 : w.frozen? ⟨R, 1, none⟩ = false
  z : ws.length ≤ 1000000
theorem RS.lt {R : Nat} {ws : List ByteArray} {b : Bool} {w : World} (h : RS R ws b w) : R < w.heap.size := World.block_lt_of_cell? _ _ h.b
theorem RS.below {R : Nat} {ws : List ByteArray} {b : Bool} {w w' : World} (h : RS R ws b w) (hb : Below w.heap.size w w') : RS R ws b w' := by
  have hl := h.lt
  obtain ⟨⟨a, c, hc, hn, hw⟩, h1, h2, h3, hz⟩ := h
  refine ⟨⟨a, c, cell_later hb hc, hn, fun hne => ?_⟩, cell_later hb h1, (hb.frozen (p := ⟨R, 0, none⟩) hl).trans h2, (hb.frozen (p := ⟨R, 1, none⟩) hl).trans h3, hz⟩
  obtain ⟨A, o, ha, hA, hx⟩ := hw hne
  exact ⟨A, o, ha, hA, fun i x hi => cell_later hb (hx i x hi)⟩
theorem RS.set2 {R : Nat} {ws : List ByteArray} {b : Bool} {w : World} {k : Nat} {u v : Value} (h : RS R ws b w) (hk : R < k) : RS R ws b ((w.setCell ⟨k, 0, none⟩ u).setCell ⟨k, 1, none⟩ v) := by
  have hc : ∀ q i, q < k → ((w.setCell ⟨k, 0, none⟩ u).setCell ⟨k, 1, none⟩ v).cell? ⟨q, i, none⟩ = w.cell? ⟨q, i, none⟩ := by
    intro q i hq
    rw [World.cell?_setCell_other, World.cell?_setCell_other]
    · intro e; simp only [Addr.mk.injEq] at e; omega
    · intro e; simp only [Addr.mk.injEq] at e; omega
  obtain ⟨⟨a, c, h0, hn, hw⟩, h1, h2, h3, hz⟩ := h
  refine ⟨⟨a, c, (hc _ _ hk).trans h0, hn, fun hne => ?_⟩, (hc _ _ hk).trans h1, by rw [World.frozen?_setCell, World.frozen?_setCell]; exact h2, by rw [World.frozen?_setCell, World.frozen?_setCell]; exact h3, hz⟩
  obtain ⟨A, o, ha, hA, hx⟩ := hw hne
  exact ⟨A, o, ha, hA, fun i x hi => (hc _ _ (by omega)).trans (hx i x hi)⟩
theorem setR_kept {w : World} {R i : Nat} {v : Value} : Kept R none w (w.setCell ⟨R, i, none⟩ v) :=
  ⟨rfl, rfl, rfl, by simp [World.setCell], fun _ _ h1 _ => Below.heap_setCell _ _ _ _ h1⟩
set_option maxHeartbeats 400000 in
/-- (*reader).fail. -/
theorem fail_any (R : Nat) (ws : List ByteArray) (b : Bool) (w : World) (h : RS R ws b w) :
    Calls Tryz.prog 82 #[.pointer (some ⟨R, 0, none⟩)] w fun e w' => e = .returned (.tuple #[]) ∧ RS R [] true w' ∧ Kept R none w w' := by
  obtain ⟨⟨a, c, hc, _, _⟩, h1, h2, h3, _⟩ := h
  go_enter Tryz.func82, Tryz.ntmps82
  go_wp2_with fail
  go_end0
  have hne : (⟨R, 0, none⟩ : Addr) ≠ ⟨R, 1, none⟩ := by simp
  refine ⟨rfl, ⟨⟨none, 0, ?_, Nat.le_refl _, fun h => absurd rfl h⟩, ?_, ?_, ?_, by simp⟩, setR_kept.trans setR_kept⟩
  · refine World.cell?_setCell_same _ _ _ (u := .slice a ws.length c) ?_
    rw [World.cell?_setCell_other _ _ _ _ (Ne.symm hne)]
    exact hc
  · rw [World.cell?_setCell_other _ _ _ _ hne]
    exact World.cell?_setCell_same _ _ _ h1
  · rw [World.frozen?_setCell, World.frozen?_setCell]
    exact h2
  · rw [World.frozen?_setCell, World.frozen?_setCell]
    exact h3
set_option maxHeartbeats 400000 in
/-- (*reader).next where no word is left. -/
theorem next_nil (R : Nat) (b : Bool) (w : World) (h : RS R [] b w) :
    Calls Tryz.prog 52 #[.pointer (some ⟨R, 0, none⟩)] w fun e w' => e = .returned (.string ⟨#[]⟩) ∧ RS R [] true w' ∧ Kept R none w w' := by
  have HF : Hid (Calls Tryz.prog 82 #[.pointer (some ⟨R, 0, none⟩)] w fun e w' => e = .returned (.tuple #[]) ∧ RS R [] true w' ∧ Kept R none w w') := fail_any R [] b w h
  obtain ⟨⟨a, c, hc, _, _⟩, h1, h2, h3, _⟩ := h
  go_enter Tryz.func52, Tryz.ntmps52
  go_wp2_with fail
  refine HF.out.mono ?_
  rintro e w1 ⟨rfl, hr, hk⟩
  have HR : Hid (RS R [] true w1 ∧ Kept R none w w1) := ⟨hr, hk⟩
  clear hr hk HF
  go_wp2_with fail
  go_ret
  exact ⟨rfl, HR.out.1, HR.out.2⟩
set_option maxHeartbeats 400000 in
/-- (*reader).next where a word is left. -/
theorem next_cons (R : Nat) (x : ByteArray) (r : List ByteArray) (b : Bool) (w : World) (h : RS R (x :: r) b w) :
    Calls Tryz.prog 52 #[.pointer (some ⟨R, 0, none⟩)] w fun e w' => e = .returned (.string x) ∧ RS R r b w' ∧ Kept R none w w' := by
  obtain ⟨⟨a, c, hc, hn, hw⟩, h1, h2, h3, hz⟩ := h
  obtain ⟨A, o, rfl, hA, hx⟩ := hw (by simp)
  have x0 := hx 0 x (by simp)
  simp only [Nat.add_zero] at x0
  simp only [List.length_cons] at hc hn hz
  have e0 : (((r.length + 1 : Nat) : Int) == 0) = false := by simp; omega
  have i1 : (0 : Int) < ((r.length : Int) + 1) := by omega
  have i2 : (1 : Int) ≤ ((r.length : Int) + 1) := by omega
  have HX : Hid (∀ (i : Nat) y, (x :: r)[i]? = some y → w.cell? ⟨A, o + i, none⟩ = some (.string y)) := hx
  clear hx hw
  go_enter Tryz.func52, Tryz.ntmps52
  go_wp2_with fail
  all_goals go_ret
  all_goals
    refine ⟨rfl, ⟨⟨_, _, World.cell?_setCell_same _ _ _ hc, by omega, fun hne => ?_⟩, ?_, by rw [World.frozen?_setCell]; exact h2, by rw [World.frozen?_setCell]; exact h3, by omega⟩, setR_kept⟩
    rotate_left
    · rw [World.cell?_setCell_other _ _ _ _ (by simp)]
      exact h1
  · exact absurd (List.length_eq_zero_iff.1 (by omega)) hne
  · refine ⟨A, o + 1, rfl, hA, fun i y hi => ?_⟩
    rw [World.cell?_setCell_other]
    · rw [show o + 1 + i = o + (i + 1) by omega]
      exact HX.out (i + 1) y (by simpa using hi)
    · intro e; simp only [Addr.mk.injEq] at e; omega
set_option maxHeartbeats 400000 in
theorem want_walk (R : Nat) (x word : ByteArray) (r : List ByteArray) (b : Bool) (w : World) (h : RS R (x :: r) b w) :
    Calls Tryz.prog 85 #[.pointer (some ⟨R, 0, none⟩), .string word] w fun e w' => e = .returned (.tuple #[]) ∧ ((x = word ∧ RS R r b w') ∨ (x ≠ word ∧ RS R [] true w')) ∧ Kept R none w w' := by
  have HN : Hid (Calls Tryz.prog 52 #[.pointer (some ⟨R, 0, none⟩)] w fun e w' => e = .returned (.string x) ∧ RS R r b w' ∧ Kept R none w w') := next_cons R x r b w h
  clear h
  by_cases hx : x = word
  · subst hx
    go_enter Tryz.func85, Tryz.ntmps85
    go_wp2_with fail
    refine HN.out.mono ?_
    rintro e w1 ⟨rfl, hr, hk⟩
    have HR : Hid (RS R r b w1 ∧ Kept R none w w1) := ⟨hr, hk⟩
    clear hr hk HN
    go_wp2_with fail
    go_end0
    exact ⟨rfl, .inl ⟨trivial, HR.out.1⟩, HR.out.2⟩
  · have hb : (x.toList == word.toList) = false := (Lib.bytes_beq_false_iff _ _).2 hx
    have hb2 : (!x.toList == word.toList) = true := by rw [hb]; rfl
    have HX : Hid (x ≠ word) := hx
    clear hx
    go_enter Tryz.func85, Tryz.ntmps85
    go_wp2_with fail
    refine HN.out.mono ?_
    rintro e w1 ⟨rfl, hr, hk⟩
    have HF : Hid (Calls Tryz.prog 82 #[.pointer (some ⟨R, 0, none⟩)] w1 fun e w' => e = .returned (.tuple #[]) ∧ RS R [] true w' ∧ Kept R none w1 w') := fail_any R r b w1 hr
    have HK : Hid (Kept R none w w1) := hk
    clear hr hk HN
    go_wp2_with fail
    refine HF.out.mono ?_
    rintro e w2 ⟨rfl, hr, hk⟩
    have HR : Hid (RS R [] true w2 ∧ Kept R none w w2) := ⟨hr, HK.out.trans hk⟩
    clear hr hk HF HK
    go_wp2_with fail
    go_end0
    exact ⟨rfl, .inr ⟨HX.out, HR.out.1⟩, HR.out.2⟩
set_option maxHeartbeats 400000 in
theorem want_nil (R : Nat) (word : ByteArray) (hw : (⟨#[]⟩ : ByteArray) ≠ word) (b : Bool) (w : World) (h : RS R [] b w) :
    Calls Tryz.prog 85 #[.pointer (some ⟨R, 0, none⟩), .string word] w fun e w' => e = .returned (.tuple #[]) ∧ RS R [] true w' ∧ Kept R none w w' := by
  have HN : Hid (Calls Tryz.prog 52 #[.pointer (some ⟨R, 0, none⟩)] w fun e w' => e = .returned (.string ⟨#[]⟩) ∧ RS R [] true w' ∧ Kept R none w w') := next_nil R b w h
  have hb : ((⟨#[]⟩ : ByteArray).toList == word.toList) = false := (Lib.bytes_beq_false_iff _ _).2 hw
  have he : (⟨#[]⟩ : ByteArray).toList = [] := by rw [Lib.toList_data]
  have hb3 : (!word.toList.isEmpty) = true := by
    rw [he] at hb
    cases hl : word.toList with
    | nil => rw [hl] at hb; simp at hb
    | cons _ _ => rfl
  clear h hw hb he
  go_enter Tryz.func85, Tryz.ntmps85
  go_wp2_with fail
  refine HN.out.mono ?_
  rintro e w1 ⟨rfl, hr, hk⟩
  have HF : Hid (Calls Tryz.prog 82 #[.pointer (some ⟨R, 0, none⟩)] w1 fun e w' => e = .returned (.tuple #[]) ∧ RS R [] true w' ∧ Kept R none w1 w') := fail_any R [] true w1 hr
  have HK : Hid (Kept R none w w1) := hk
  clear hr hk HN
  go_wp2_with fail
  refine HF.out.mono ?_
  rintro e w2 ⟨rfl, hr, hk⟩
  have HR : Hid (RS R [] true w2 ∧ Kept R none w w2) := ⟨hr, HK.out.trans hk⟩
  clear hr hk HF HK
  go_wp2_with fail
  go_end0
  exact ⟨rfl, HR.out.1, HR.out.2⟩
end Go.Proofs.YtnddkmccagiclaaGreatDoor

/-
  A box of a term's seven cells; a row of terms that a call makes longer; no program's run in it.
-/
namespace Go.Proofs.YtnddkmccagiclaaGreatDoor
open Go.RowKit
theorem Kept.fz {R : Nat} {w w' : World} (h : Kept R none w w') {b i : Nat} (hf : w.frozen? ⟨b, i, none⟩ = false) (hl : b < w.heap.size) (hb : b ≠ R) : w'.frozen? ⟨b, i, none⟩ = false :=
  (World.frozen?_of_block (a := ⟨b, i, none⟩) (h.block b hl hb (by simp))).trans hf
theorem Kept.refl {R : Nat} {w : World} : Kept R none w w := ⟨rfl, rfl, rfl, Nat.le_refl _, fun _ _ _ _ => rfl⟩
/-- A store into a block that is new. -/
theorem Kept.new {R k : Nat} {w w' w'' : World} (h : Kept R none w w') (hk : Kept k none w' w'') (hn : w.heap.size ≤ k) : Kept R none w w'' :=
  ⟨hk.os.trans h.os, hk.tape.trans h.tape, hk.output.trans h.output, Nat.le_trans h.size hk.size, fun q hq h1 h2 => (hk.block q (by have := h.size; omega) (by omega) h2).trans (h.block q hq h1 h2)⟩
theorem RS.new {R k : Nat} {ws : List ByteArray} {b : Bool} {w w' : World} (h : RS R ws b w) (hk : Kept k none w w') (hR : R < k) : RS R ws b w' := by
  have hl := h.lt
  obtain ⟨⟨a, c, hc, hn, hw⟩, h1, h2, h3, hz⟩ := h
  refine ⟨⟨a, c, hk.cell hc (by omega), hn, fun hne => ?_⟩, hk.cell h1 (by omega), hk.fz h2 hl (by omega), hk.fz h3 hl (by omega), hz⟩
  obtain ⟨A, o, ha, hA, hx⟩ := hw hne
  exact ⟨A, o, ha, hA, fun i x hi => hk.cell (hx i x hi) (by omega)⟩
/-- Seven cells that may be written. -/
structure Box7 (w : World) (J : Nat) (x : TT) : Prop where
  at7 : At7 w J 0 x
  fz : ∀ i, i < 7 → w.frozen? ⟨J, i, none⟩ = false
theorem Box7.lt {w : World} {J : Nat} {x : TT} (h : Box7 w J x) : J < w.heap.size := h.at7.lt
theorem Box7.kept {R J : Nat} {w w' : World} {x : TT} (h : Box7 w J x) (hk : Kept R none w w') (hJ : J ≠ R) : Box7 w' J x :=
  ⟨h.at7.keptR hk hJ, fun i hi => hk.fz (h.fz i hi) h.lt hJ⟩
theorem Box7.below {J : Nat} {w w' : World} {x : TT} (h : Box7 w J x) (hb : Below w.heap.size w w') : Box7 w' J x :=
  ⟨h.at7.below hb, fun i hi => (hb.frozen (p := ⟨J, i, none⟩) h.lt).trans (h.fz i hi)⟩
theorem Box7.set6 {w : World} {J : Nat} {x : TT} {a' : Option Addr} {c' : Nat} {l' : List TT} (h : Box7 w J x) : Box7 (w.setCell ⟨J, 6, none⟩ (.slice a' l'.length c')) J { x with a := a', c := c', l := l' } := by
  have h7 := h.at7
  refine ⟨⟨?_, ?_, ?_, ?_, ?_, ?_, ?_⟩, fun i hi => by rw [World.frozen?_setCell]; exact h.fz i hi⟩
  · rw [World.cell?_setCell_other _ _ _ _ (by simp)]; exact h7.c0
  · rw [World.cell?_setCell_other _ _ _ _ (by simp)]; exact h7.c1
  · rw [World.cell?_setCell_other _ _ _ _ (by simp)]; exact h7.c2
  · rw [World.cell?_setCell_other _ _ _ _ (by simp)]; exact h7.c3
  · rw [World.cell?_setCell_other _ _ _ _ (by simp)]; exact h7.c4
  · rw [World.cell?_setCell_other _ _ _ _ (by simp)]; exact h7.c5
  · exact World.cell?_setCell_same _ _ _ (by simpa using h7.c6)
theorem Box7.set23 {w : World} {J : Nat} {x : TT} {t : Tr} (h : Box7 w J x) : Box7 ((w.setCell ⟨J, 2, none⟩ (.int .i64 t.k)).setCell ⟨J, 3, none⟩ (.slice t.a t.l.length t.c)) J { x with t := t } := by
  have h7 := h.at7
  refine ⟨⟨?_, ?_, ?_, ?_, ?_, ?_, ?_⟩, fun i hi => by rw [World.frozen?_setCell, World.frozen?_setCell]; exact h.fz i hi⟩
  · rw [World.cell?_setCell_other _ _ _ _ (by simp), World.cell?_setCell_other _ _ _ _ (by simp)]; exact h7.c0
  · rw [World.cell?_setCell_other _ _ _ _ (by simp), World.cell?_setCell_other _ _ _ _ (by simp)]; exact h7.c1
  · rw [World.cell?_setCell_other _ _ _ _ (by simp)]; exact World.cell?_setCell_same _ _ _ (by simpa using h7.c2)
  · refine World.cell?_setCell_same _ _ _ (u := .slice x.t.a x.t.l.length x.t.c) ?_
    rw [World.cell?_setCell_other _ _ _ _ (by simp)]; simpa using h7.c3
  · rw [World.cell?_setCell_other _ _ _ _ (by simp), World.cell?_setCell_other _ _ _ _ (by simp)]; exact h7.c4
  · rw [World.cell?_setCell_other _ _ _ _ (by simp), World.cell?_setCell_other _ _ _ _ (by simp)]; exact h7.c5
  · rw [World.cell?_setCell_other _ _ _ _ (by simp), World.cell?_setCell_other _ _ _ _ (by simp)]; exact h7.c6
/-- All seven cells written. -/
def put7 (w : World) (J : Nat) (x : TT) : World :=
  ((((((w.setCell ⟨J, 0, none⟩ (.int .i64 x.k)).setCell ⟨J, 1, none⟩ (.int .i64 x.n)).setCell ⟨J, 2, none⟩ (.int .i64 x.t.k)).setCell ⟨J, 3, none⟩ (.slice x.t.a x.t.l.length x.t.c)).setCell ⟨J, 4, none⟩ (.int .i64 x.f.k)).setCell ⟨J, 5, none⟩ (.slice x.f.a x.f.l.length x.f.c)).setCell ⟨J, 6, none⟩ (.slice x.a x.l.length x.c)
theorem set_get {w : World} {J i j : Nat} {u v : Value} (h : w.cell? ⟨J, i, none⟩ = some u) : (w.setCell ⟨J, j, none⟩ v).cell? ⟨J, i, none⟩ = some (if i = j then v else u) := by
  by_cases e : i = j
  · subst e
    rw [if_pos rfl]
    exact World.cell?_setCell_same _ _ _ h
  · rw [if_neg e, World.cell?_setCell_other _ _ _ _ (by simp)]
    exact h
theorem put7_box {w : World} {J : Nat} {x y : TT} (h : Box7 w J y) : Box7 (put7 w J x) J x := by
  have h7 := h.at7
  have c0 := h7.c0
  have c1 := h7.c1
  have c2 := h7.c2
  have c3 := h7.c3
  have c4 := h7.c4
  have c5 := h7.c5
  have c6 := h7.c6
  simp only [Nat.zero_add] at c0 c1 c2 c3 c4 c5 c6
  have key : ∀ i u, w.cell? ⟨J, i, none⟩ = some u → (put7 w J x).cell? ⟨J, i, none⟩ = some (if i = 6 then .slice x.a x.l.length x.c else if i = 5 then .slice x.f.a x.f.l.length x.f.c else if i = 4 then .int .i64 x.f.k else if i = 3 then .slice x.t.a x.t.l.length x.t.c else if i = 2 then .int .i64 x.t.k else if i = 1 then .int .i64 x.n else if i = 0 then .int .i64 x.k else u) := by
    intro i u hu
    exact set_get (set_get (set_get (set_get (set_get (set_get (set_get hu))))))
  refine ⟨⟨?_, ?_, ?_, ?_, ?_, ?_, ?_⟩, fun i hi => ?_⟩
  · simpa using key 0 _ c0
  · simpa using key 1 _ c1
  · simpa using key 2 _ c2
  · simpa using key 3 _ c3
  · simpa using key 4 _ c4
  · simpa using key 5 _ c5
  · simpa using key 6 _ c6
  · simp only [put7, World.frozen?_setCell]
    exact h.fz i hi
theorem put7_kept {w : World} {J : Nat} {x : TT} : Kept J none w (put7 w J x) :=
  setR_kept.trans (setR_kept.trans (setR_kept.trans (setR_kept.trans (setR_kept.trans (setR_kept.trans setR_kept)))))
theorem set23_kept {w : World} {J : Nat} {u v : Value} : Kept J none w ((w.setCell ⟨J, 2, none⟩ u).setCell ⟨J, 3, none⟩ v) :=
  setR_kept.trans setR_kept
/-! ### A row of terms -/
def cells7 (cs : List TT) : List Value := cs.flatMap fun x => [.int .i64 x.k, .int .i64 x.n, .int .i64 x.t.k, .slice x.t.a x.t.l.length x.t.c, .int .i64 x.f.k, .slice x.f.a x.f.l.length x.f.c, .slice x.a x.l.length x.c]
theorem cells7_append (a b : List TT) : cells7 (a ++ b) = cells7 a ++ cells7 b := by simp [cells7]
theorem cells7_at : ∀ (l : List TT) (j : Nat) (h : j < l.length) (i : Nat), i < 7 → (cells7 l)[j * 7 + i]? = [Value.int .i64 l[j].k, .int .i64 l[j].n, .int .i64 l[j].t.k, .slice l[j].t.a l[j].t.l.length l[j].t.c, .int .i64 l[j].f.k, .slice l[j].f.a l[j].f.l.length l[j].f.c, .slice l[j].a l[j].l.length l[j].c][i]?
  | [], j, h, _, _ => by simp at h
  | x :: r, 0, _, i, hi => by
    obtain rfl | rfl | rfl | rfl | rfl | rfl | rfl : i = 0 ∨ i = 1 ∨ i = 2 ∨ i = 3 ∨ i = 4 ∨ i = 5 ∨ i = 6 := by omega
    all_goals simp [cells7]
  | x :: r, j + 1, h, i, hi => by
    have ih := cells7_at r j (by simpa using h) i hi
    have e : (j + 1) * 7 + i = (j * 7 + i) + 1 + 1 + 1 + 1 + 1 + 1 + 1 := by omega
    rw [e]
    simpa [cells7] using ih
/-- A list that the call makes: its row, and what lies in it. -/
structure Row (base : Nat) (v : Value) (cs : List TT) (w : World) : Prop where
  own : w.ownsRow base 27 7 v cs.length (cells7 cs)
  ins : ∀ c, c ∈ cs → c.In w ∧ c.Bl (fun b => base ≤ b ∧ some b ≠ v.ownBlock)
theorem Row.nil (base : Nat) (w : World) : Row base (.slice none 0 0) [] w := ⟨World.ownsRow_nil _ _ _ _, fun c h => by cases h⟩
theorem Row.kept {base R : Nat} {v : Value} {cs : List TT} {w w' : World} (h : Row base v cs w) (hk : Kept R none w w') (hR : R < base) : Row base v cs w' := by
  refine ⟨⟨h.own.1, ?_⟩, fun c hc => ⟨(h.ins c hc).1.keptR hk ((h.ins c hc).2.mono fun b hb => by omega), (h.ins c hc).2⟩⟩
  rcases h.own.2 with hn | ⟨g, cap, cur, hv, hb, hg, rest⟩
  · exact .inl hn
  · exact .inr ⟨g, cap, cur, hv, hb, (hk.block g (Array.getElem?_eq_some_iff.1 hg).1 (by omega) (by simp)).trans hg, rest⟩
theorem Row.below {base : Nat} {v : Value} {cs : List TT} {w w' : World} (h : Row base v cs w) (hb : Below w.heap.size w w') : Row base v cs w' := by
  refine ⟨⟨h.own.1, ?_⟩, fun c hc => ⟨(h.ins c hc).1.below hb, (h.ins c hc).2⟩⟩
  rcases h.own.2 with hn | ⟨g, cap, cur, hv, hb', hg, rest⟩
  · exact .inl hn
  · exact .inr ⟨g, cap, cur, hv, hb', (hb.block g (Array.getElem?_eq_some_iff.1 hg).1).trans hg, rest⟩
/-- One more. -/
theorem Row.step {base : Nat} {v : Value} {cs : List TT} {w2 w3 : World} {c : TT} {gg cap1 : Nat} {X : Obj} (h : Row base v cs w2) (hin : c.In w2) (hbl : c.Bl (fun b => base ≤ b ∧ some b ≠ v.ownBlock))
    (hown : w3.ownsRow base 27 7 (.slice (some ⟨gg, 0, none⟩) (cs.length + 1) cap1) (cs.length + 1) (cells7 cs ++ cells7 [c])) (hgrow : (w2.alloc X).grownBy w3 v.ownBlock) (hat : v.ownBlock = some gg ∨ gg = w2.heap.size + 1) :
    Row base (.slice (some ⟨gg, 0, none⟩) (cs.length + 1) cap1) (cs ++ [c]) w3 ∧ ∀ k, k < w2.heap.size → some k ≠ v.ownBlock → w3.heap[k]? = w2.heap[k]? := by
  have hblk : ∀ k, k < w2.heap.size → some k ≠ v.ownBlock → w3.heap[k]? = w2.heap[k]? := fun k hk hn => by
    rw [hgrow.block k (by simp; omega) hn]
    exact ((Below.refl _ w2).alloc (Nat.le_refl _) X).block k hk
  refine ⟨⟨by rw [cells7_append, List.length_append, List.length_singleton]; exact hown, fun d hd => ?_⟩, hblk⟩
  have key : d.In w2 ∧ d.Bl (fun b => base ≤ b ∧ some b ≠ v.ownBlock) := by
    rcases List.mem_append.1 hd with hd | hd
    · exact h.ins d hd
    · rcases List.mem_singleton.1 hd with rfl
      exact ⟨hin, hbl⟩
  have i3 := key.1.bl.and key.2
  refine ⟨key.1.congr (P := fun b => b < w2.heap.size ∧ base ≤ b ∧ some b ≠ v.ownBlock) (fun b hb i => ?_) i3, i3.mono fun b hb => ⟨hb.2.1, ?_⟩⟩
  · exact World.cell?_of_block (a := ⟨b, i, none⟩) (hblk b hb.1 hb.2.2)
  · show some b ≠ some gg
    rcases hat with e | e
    · rw [← e]; exact hb.2.2
    · simp only [ne_eq, Option.some.injEq]; omega
/-- A row that the call owns is a term's list. -/
theorem Row.list {base : Nat} {v : Value} {cs : List TT} {w : World} (h : Row base v cs w) : ∃ a c, v = .slice a cs.length c ∧ (∀ j (hj : j < cs.length), ∃ b o, a = some ⟨b, o, none⟩ ∧ At7 w b (o + j * 7) cs[j]) ∧ (∀ y, cs ≠ [] → a = some y → base ≤ y.block) := by
  rcases h.own.2 with ⟨rfl, h0⟩ | ⟨g, cap, cur, rfl, hg, _⟩
  · have : cs = [] := List.length_eq_zero_iff.1 h0
    subst this
    exact ⟨none, 0, rfl, fun j hj => absurd hj (by simp), fun y h => absurd rfl h⟩
  · refine ⟨_, _, rfl, fun j hj => ⟨g, 0, rfl, ?_⟩, fun y _ hy => by cases hy; exact hg⟩
    have hc : ∀ i, i < 7 → w.cell? ⟨g, 0 + j * 7 + i, none⟩ = _ := fun i hi => by rw [Nat.zero_add, h.own.cellAt (j * 7 + i) (by omega), cells7_at cs j hj i hi]
    exact ⟨hc 0 (by omega), hc 1 (by omega), hc 2 (by omega), hc 3 (by omega), hc 4 (by omega), hc 5 (by omega), hc 6 (by omega)⟩
theorem Row.tree {base : Nat} {v : Value} {cs : List TT} {w : World} (h : Row base v cs w) : ∃ a c, v = .slice a cs.length c ∧ ∀ k n t f, t.In w → f.In w → (TT.mk k n t f a c cs).In w ∧ (∀ P : Nat → Prop, (∀ b, base ≤ b → P b) → t.Bl P → f.Bl P → (TT.mk k n t f a c cs).Bl P) := by
  obtain ⟨a, c, hv, hl, hb⟩ := h.list
  refine ⟨a, c, hv, fun k n t f ht hf => ⟨TT.In_mk.2 ⟨ht, hf, hl, fun x hx => (h.ins x hx).1⟩, fun P hP h1 h2 => TT.Bl_mk.2 ⟨h1, h2, fun hne x hx => hP _ (hb x hne hx), fun x hx => (h.ins x hx).2.mono fun b hb => hP b hb.1⟩⟩⟩
theorem Row.lt {base : Nat} {v : Value} {cs : List TT} {w : World} (h : Row base v cs w) (k : Nat) (hk : v.ownBlock = some k) : base ≤ k ∧ k < w.heap.size := h.own.lt k hk
end Go.Proofs.YtnddkmccagiclaaGreatDoor

/-
  What the calls of check's ruleOfCall and ruleOfIf answer.
-/
namespace Go.Proofs.YtnddkmccagiclaaGreatDoor
open Go.RowKit
/-- What a rule is: none, or a type and the list of what the parts are used as; all of it lies in blocks of kind Q. -/
def RuOut (Q : Nat → Prop) (w : World) (r : Option (Ty × List Ty)) (e : Ending) (w' : World) : Prop :=
  Below w.heap.size w w' ∧ ((r = none ∧ e = .returned (.tuple #[.agg #[.int .i64 0, .slice none 0 0, .slice none 0 0], .bool false])) ∨
    ∃ I U : Tr, r = some (I.ty, U.l.map Tr.ty) ∧ e = .returned (.tuple #[.agg #[.int .i64 I.k, .slice I.a I.l.length I.c, .slice U.a U.l.length U.c], .bool true]) ∧ I.In w' ∧ U.In w' ∧ I.Bl Q ∧ U.Bl Q)
/-- The rule of a call. -/
def callY (t : Ty) : Option (Ty × List Ty) :=
  if t.k = 0 then some (⟨0, []⟩, [⟨3, [⟨0, []⟩, ⟨0, []⟩]⟩, ⟨0, []⟩])
  else if t.k = 3 then some (t.l.getD 1 ⟨0, []⟩, [t, t.l.getD 0 ⟨0, []⟩])
  else none
set_option maxHeartbeats 1000000 in
theorem ruleOfCall_none (k : Int) (h0 : (k == 0) = false) (h3 : (k != 3) = true) (a : Option Addr) (m c : Nat) (w : World) :
    Calls Tryz.prog 104 #[.agg #[.int .i64 k, .slice a m c]] w fun e w' => e = .returned (.tuple #[.agg #[.int .i64 0, .slice none 0 0, .slice none 0 0], .bool false]) ∧ Below w.heap.size w w' := by
  go_enter Tryz.func104, Tryz.ntmps104
  go_wp2_with fail
  refine bodyPost_ret (v := .tuple #[.agg #[.int .i64 0, .slice none 0 0, .slice none 0 0], .bool false]) (by simp [results, Tryz.results104, go_sem]) rfl ⟨rfl, ?_⟩
  repeat (first | exact Below.refl _ _ | refine Below.drew ?_ | refine Below.setCell ?_ (by first | (simp; done) | (simp; omega) | omega) _ | refine Below.alloc ?_ (by first | (simp; done) | (simp; omega) | omega) _)
/-- A rule's three cells, filled, and a new block behind. -/
theorem rule_end {B P : Nat} {w W : World} {u v z u' v' z' : Value} {cs : Array Value} (hb : Below B w W) (c0 : W.cell? ⟨P, 0, none⟩ = some u') (c1 : W.cell? ⟨P, 1, none⟩ = some v') (c2 : W.cell? ⟨P, 2, none⟩ = some z') (hP : B ≤ P ∧ B ≤ W.heap.size) :
    Hid (((((W.setCell ⟨P, 0, none⟩ u).setCell ⟨P, 1, none⟩ v).setCell ⟨P, 2, none⟩ z).alloc (.cells cs 24)).cell? ⟨P, 0, none⟩ = some u ∧ ((((W.setCell ⟨P, 0, none⟩ u).setCell ⟨P, 1, none⟩ v).setCell ⟨P, 2, none⟩ z).alloc (.cells cs 24)).cell? ⟨P, 1, none⟩ = some v ∧ ((((W.setCell ⟨P, 0, none⟩ u).setCell ⟨P, 1, none⟩ v).setCell ⟨P, 2, none⟩ z).alloc (.cells cs 24)).cell? ⟨P, 2, none⟩ = some z ∧
      (∀ i, ((((W.setCell ⟨P, 0, none⟩ u).setCell ⟨P, 1, none⟩ v).setCell ⟨P, 2, none⟩ z).alloc (.cells cs 24)).cell? ⟨W.heap.size, i, none⟩ = cs[i]?) ∧ Below B w ((((W.setCell ⟨P, 0, none⟩ u).setCell ⟨P, 1, none⟩ v).setCell ⟨P, 2, none⟩ z).alloc (.cells cs 24))) := by
  have hz : (((W.setCell ⟨P, 0, none⟩ u).setCell ⟨P, 1, none⟩ v).setCell ⟨P, 2, none⟩ z).heap.size = W.heap.size := by simp [World.setCell]
  have a0 := set_get (j := 2) (v := z) (set_get (j := 1) (v := v) (set_get (j := 0) (v := u) c0))
  have a1 := set_get (j := 2) (v := z) (set_get (j := 1) (v := v) (set_get (j := 0) (v := u) c1))
  have a2 := set_get (j := 2) (v := z) (set_get (j := 1) (v := v) (set_get (j := 0) (v := u) c2))
  simp only [if_pos, if_false, Nat.reduceEqDiff, reduceCtorEq] at a0 a1 a2
  have hX : Below (((W.setCell ⟨P, 0, none⟩ u).setCell ⟨P, 1, none⟩ v).setCell ⟨P, 2, none⟩ z).heap.size (((W.setCell ⟨P, 0, none⟩ u).setCell ⟨P, 1, none⟩ v).setCell ⟨P, 2, none⟩ z) ((((W.setCell ⟨P, 0, none⟩ u).setCell ⟨P, 1, none⟩ v).setCell ⟨P, 2, none⟩ z).alloc (.cells cs 24)) := (Below.refl _ _).alloc (Nat.le_refl _) _
  refine ⟨cell_later hX (by simpa using a0), cell_later hX (by simpa using a1), cell_later hX (by simpa using a2), ?_, (((hb.setCell hP.1 _).setCell hP.1 _).setCell hP.1 _).alloc (by rw [hz]; exact hP.2) _⟩
  intro i
  rw [← hz]
  simp [go_sem]
set_option maxHeartbeats 1000000 in
theorem ruleOfCall_fun (b o c : Nat) (x y : Tr) (w : World) (x0 : w.cell? ⟨b, o, none⟩ = some (.int .i64 x.k)) (x1 : w.cell? ⟨b, o + 1, none⟩ = some (.slice x.a x.l.length x.c)) (y0 : w.cell? ⟨b, o + 2, none⟩ = some (.int .i64 y.k)) (y1 : w.cell? ⟨b, o + 3, none⟩ = some (.slice y.a y.l.length y.c)) :
    Calls Tryz.prog 104 #[.agg #[.int .i64 3, .slice (some ⟨b, o, none⟩) 2 c]] w fun e w' => ∃ g, w.heap.size ≤ g ∧ e = .returned (.tuple #[.agg #[.int .i64 y.k, .slice y.a y.l.length y.c, .slice (some ⟨g, 0, none⟩) 2 2], .bool true]) ∧
      w'.cell? ⟨g, 0, none⟩ = some (.int .i64 3) ∧ w'.cell? ⟨g, 1, none⟩ = some (.slice (some ⟨b, o, none⟩) 2 c) ∧ w'.cell? ⟨g, 2, none⟩ = some (.int .i64 x.k) ∧ w'.cell? ⟨g, 3, none⟩ = some (.slice x.a x.l.length x.c) ∧ Below w.heap.size w w' := by
  have lb : b < w.heap.size := World.block_lt_of_cell? _ _ x0
  go_enter Tryz.func104, Tryz.ntmps104
  go_wp2_with fail
  obtain ⟨W0, hW0⟩ : ∃ W0, W0 = ((w.alloc (Obj.cells #[.int .i64 3, .slice (some ⟨b, o, none⟩) 2 c] 24)).alloc (Obj.cells #[.int .i64 0, .slice none 0 0, .slice none 0 0] 115)) := ⟨_, rfl⟩
  have hs0 : W0.heap.size = w.heap.size + 1 + 1 := by rw [hW0]; simp
  have hb0 : Below w.heap.size w W0 := by rw [hW0]; exact ((Below.refl _ _).alloc (Nat.le_refl _) _).alloc (by simp) _
  have r0 : W0.cell? ⟨w.heap.size, 0, none⟩ = some (.int .i64 3) := by rw [hW0]; simp [go_sem]
  have r1 : W0.cell? ⟨w.heap.size, 1, none⟩ = some (.slice (some ⟨b, o, none⟩) 2 c) := by rw [hW0]; simp [go_sem]
  have r2 : W0.cell? ⟨w.heap.size + 1, 0, none⟩ = some (.int .i64 0) := by rw [hW0]; simp [go_sem]
  have r3 : W0.cell? ⟨w.heap.size + 1, 1, none⟩ = some (.slice none 0 0) := by rw [hW0]; simp [go_sem]
  have r4 : W0.cell? ⟨w.heap.size + 1, 2, none⟩ = some (.slice none 0 0) := by rw [hW0]; simp [go_sem]
  have r5 : ∀ i, W0.frozen? ⟨w.heap.size + 1, i, none⟩ = false := by intro i; rw [hW0]; simp [go_sem]
  replace x0 := cell_later hb0 x0
  replace x1 := cell_later hb0 x1
  replace y0 := cell_later hb0 y0
  replace y1 := cell_later hb0 y1
  rw [← hW0]
  clear hW0
  have lW : b < W0.heap.size := by omega
  have l0 : w.heap.size < W0.heap.size := by omega
  have l1 : w.heap.size + 1 < W0.heap.size := by omega
  have hbX : ∀ X, Below W0.heap.size W0 (W0.alloc X) := fun X => (Below.refl _ _).alloc (Nat.le_refl _) _
  have v0 := fun X => cell_later (hbX X) y0
  have v1 := fun X => cell_later (hbX X) y1
  have v2 := fun X => cell_later (hbX X) r0
  have v3 := fun X => cell_later (hbX X) r1
  have v4 := fun X => cell_later (hbX X) r2
  have v5 := fun X => cell_later (hbX X) r3
  have v6 := fun X => cell_later (hbX X) r4
  have v7 : ∀ X i, (W0.alloc X).frozen? ⟨w.heap.size + 1, i, none⟩ = false := fun X i => ((hbX X).frozen (p := ⟨w.heap.size + 1, i, none⟩) (by omega)).trans (r5 i)
  clear hbX
  have HX := rule_end (u := .int .i64 y.k) (v := .slice y.a y.l.length y.c) (z := .slice (some ⟨w.heap.size + 1 + 1, 0, none⟩) 2 2) (cs := #[.int .i64 3, .slice (some ⟨b, o, none⟩) 2 c, .int .i64 x.k, .slice x.a x.l.length x.c]) hb0 r2 r3 r4 (by omega)
  clear hb0
  go_region
  all_goals
    clear v0 v1 v2 v3 v4 v5 v6 v7
    go_wp2_with fail
    refine bodyPost_ret (v := .tuple #[.agg #[.int .i64 y.k, .slice y.a y.l.length y.c, .slice (some ⟨w.heap.size + 1 + 1, 0, none⟩) 2 2], .bool true]) (by simp [results, Tryz.results104, go_sem, HX.out.1, HX.out.2.1, HX.out.2.2.1]) rfl ⟨w.heap.size + 1 + 1, by omega, rfl, ?_, ?_, ?_, ?_, ?_⟩
    · have := HX.out.2.2.2.1 0; rw [hs0] at this; exact this
    · have := HX.out.2.2.2.1 1; rw [hs0] at this; exact this
    · have := HX.out.2.2.2.1 2; rw [hs0] at this; exact this
    · have := HX.out.2.2.2.1 3; rw [hs0] at this; exact this
    · exact HX.out.2.2.2.2.drew
set_option maxHeartbeats 1000000 in
theorem ruleOfCall_open (a : Option Addr) (m c : Nat) (w : World) :
    Calls Tryz.prog 104 #[.agg #[.int .i64 0, .slice a m c]] w fun e w' => ∃ b g, w.heap.size ≤ b ∧ w.heap.size ≤ g ∧ e = .returned (.tuple #[.agg #[.int .i64 0, .slice none 0 0, .slice (some ⟨g, 0, none⟩) 2 2], .bool true]) ∧
      w'.cell? ⟨b, 0, none⟩ = some (.int .i64 0) ∧ w'.cell? ⟨b, 1, none⟩ = some (.slice none 0 0) ∧ w'.cell? ⟨b, 2, none⟩ = some (.int .i64 0) ∧ w'.cell? ⟨b, 3, none⟩ = some (.slice none 0 0) ∧
      w'.cell? ⟨g, 0, none⟩ = some (.int .i64 3) ∧ w'.cell? ⟨g, 1, none⟩ = some (.slice (some ⟨b, 0, none⟩) 2 2) ∧ w'.cell? ⟨g, 2, none⟩ = some (.int .i64 0) ∧ w'.cell? ⟨g, 3, none⟩ = some (.slice none 0 0) ∧ Below w.heap.size w w' := by
  have hb0 : Below w.heap.size w ((w.alloc (Obj.cells #[.int .i64 0, .slice a m c] 24)).alloc (Obj.cells #[.int .i64 0, .slice none 0 0, .slice none 0 0] 115)) := ((Below.refl _ _).alloc (Nat.le_refl _) _).alloc (by simp) _
  have hz : ((w.alloc (Obj.cells #[.int .i64 0, .slice a m c] 24)).alloc (Obj.cells #[.int .i64 0, .slice none 0 0, .slice none 0 0] 115)).heap.size = w.heap.size + 1 + 1 := by simp
  go_enter Tryz.func104, Tryz.ntmps104
  go_wp2_with fail
  refine (to_cells 0 0 none none 0 0 0 0 _).mono ?_
  rintro e w1 ⟨b, hg, rfl, d0, d1, d2, d3, hb1⟩
  rw [hz] at hg hb1
  have q0 : w1.cell? ⟨w.heap.size, 0, none⟩ = some (.int .i64 0) := (hb1.cell (p := ⟨w.heap.size, 0, none⟩) (by simp; omega)).trans (by simp [go_sem])
  have q1 : w1.cell? ⟨w.heap.size, 1, none⟩ = some (.slice a m c) := (hb1.cell (p := ⟨w.heap.size, 1, none⟩) (by simp; omega)).trans (by simp [go_sem])
  have qf : ∀ i, w1.frozen? ⟨w.heap.size, i, none⟩ = false := fun i => (hb1.frozen (p := ⟨w.heap.size, i, none⟩) (by simp; omega)).trans (by simp [go_sem])
  have qf0 := qf 0
  have qf1 := qf 1
  have p0 : w1.cell? ⟨w.heap.size + 1, 0, none⟩ = some (.int .i64 0) := (hb1.cell (p := ⟨w.heap.size + 1, 0, none⟩) (by simp)).trans (by simp [go_sem])
  have p1 : w1.cell? ⟨w.heap.size + 1, 1, none⟩ = some (.slice none 0 0) := (hb1.cell (p := ⟨w.heap.size + 1, 1, none⟩) (by simp)).trans (by simp [go_sem])
  have p2 : w1.cell? ⟨w.heap.size + 1, 2, none⟩ = some (.slice none 0 0) := (hb1.cell (p := ⟨w.heap.size + 1, 2, none⟩) (by simp)).trans (by simp [go_sem])
  have p3 : ∀ i, w1.frozen? ⟨w.heap.size + 1, i, none⟩ = false := fun i => (hb1.frozen (p := ⟨w.heap.size + 1, i, none⟩) (by simp)).trans (by simp [go_sem])
  have hbw : Below w.heap.size w w1 := hb0.trans (hb1.mono (by omega))
  have lb1 : b < w1.heap.size := World.block_lt_of_cell? _ _ d0
  have ls1 : w.heap.size + 1 < w1.heap.size := World.block_lt_of_cell? _ _ p0
  clear hb0 hb1 hz
  have nb : b ≠ w.heap.size := by omega
  have n1 : w.heap.size + 1 ≠ w.heap.size := by omega
  obtain ⟨W0, hW0⟩ : ∃ W0, W0 = ((w1.setCell ⟨w.heap.size, 0, none⟩ (.int .i64 3)).setCell ⟨w.heap.size, 1, none⟩ (.slice (some ⟨b, 0, none⟩) 2 2)) := ⟨_, rfl⟩
  have hs0 : W0.heap.size = w1.heap.size := by rw [hW0]; simp [World.setCell]
  have hb0 : Below w.heap.size w W0 := by rw [hW0]; exact (hbw.setCell (by simp) _).setCell (by simp) _
  have r0 : W0.cell? ⟨w.heap.size, 0, none⟩ = some (.int .i64 3) := by rw [hW0]; exact (set_cells q0 q1).1
  have r1 : W0.cell? ⟨w.heap.size, 1, none⟩ = some (.slice (some ⟨b, 0, none⟩) 2 2) := by rw [hW0]; exact (set_cells q0 q1).2
  have r2 : W0.cell? ⟨w.heap.size + 1, 0, none⟩ = some (.int .i64 0) := by rw [hW0]; simp [go_sem, p0]
  have r3 : W0.cell? ⟨w.heap.size + 1, 1, none⟩ = some (.slice none 0 0) := by rw [hW0]; simp [go_sem, p1]
  have r4 : W0.cell? ⟨w.heap.size + 1, 2, none⟩ = some (.slice none 0 0) := by rw [hW0]; simp [go_sem, p2]
  have r5 : ∀ i, W0.frozen? ⟨w.heap.size + 1, i, none⟩ = false := by intro i; rw [hW0]; simp [go_sem, p3 i]
  replace d0 : W0.cell? ⟨b, 0, none⟩ = some (.int .i64 0) := by rw [hW0]; simp [go_sem, d0]
  replace d1 : W0.cell? ⟨b, 1, none⟩ = some (.slice none 0 0) := by rw [hW0]; simp [go_sem, d1]
  replace d2 : W0.cell? ⟨b, 2, none⟩ = some (.int .i64 0) := by rw [hW0]; simp [go_sem, d2]
  replace d3 : W0.cell? ⟨b, 3, none⟩ = some (.slice none 0 0) := by rw [hW0]; simp [go_sem, d3]
  clear p0 p1 p2 p3
  go_wp2_with fail
  rw [← hW0]
  clear hW0 q0 q1 qf qf0 qf1 hbw
  have lW : b < W0.heap.size := by omega
  have l0 : w.heap.size < W0.heap.size := by omega
  have l1 : w.heap.size + 1 < W0.heap.size := by omega
  have hbX : ∀ X, Below W0.heap.size W0 (W0.alloc X) := fun X => (Below.refl _ _).alloc (Nat.le_refl _) _
  have v0 := fun X => cell_later (hbX X) d2
  have v1 := fun X => cell_later (hbX X) d3
  have v2 := fun X => cell_later (hbX X) r0
  have v3 := fun X => cell_later (hbX X) r1
  have v4 := fun X => cell_later (hbX X) r2
  have v5 := fun X => cell_later (hbX X) r3
  have v6 := fun X => cell_later (hbX X) r4
  have v7 : ∀ X i, (W0.alloc X).frozen? ⟨w.heap.size + 1, i, none⟩ = false := fun X i => ((hbX X).frozen (p := ⟨w.heap.size + 1, i, none⟩) (by omega)).trans (r5 i)
  clear hbX
  have HX := rule_end (u := .int .i64 0) (v := .slice none 0 0) (z := .slice (some ⟨W0.heap.size, 0, none⟩) 2 2) (cs := #[.int .i64 3, .slice (some ⟨b, 0, none⟩) 2 2, .int .i64 0, .slice none 0 0]) hb0 r2 r3 r4 (by omega)
  have HD : Hid (∀ i v, W0.cell? ⟨b, i, none⟩ = some v → ((((W0.setCell ⟨w.heap.size + 1, 0, none⟩ (.int .i64 0)).setCell ⟨w.heap.size + 1, 1, none⟩ (.slice none 0 0)).setCell ⟨w.heap.size + 1, 2, none⟩ (.slice (some ⟨W0.heap.size, 0, none⟩) 2 2)).alloc (.cells #[.int .i64 3, .slice (some ⟨b, 0, none⟩) 2 2, .int .i64 0, .slice none 0 0] 24)).cell? ⟨b, i, none⟩ = some v) := by
    intro i v hv
    refine cell_later ((Below.refl _ _).alloc (Nat.le_refl _) _) ?_
    rw [World.cell?_setCell_other _ _ _ _ (by simp), World.cell?_setCell_other _ _ _ _ (by simp), World.cell?_setCell_other _ _ _ _ (by simp)]
    exact hv
  have HN : Hid (w.heap.size ≤ b ∧ w.heap.size ≤ W0.heap.size) := ⟨by omega, by omega⟩
  clear hb0 nb n1 hs0 ls1 lb1 hg
  go_region
  all_goals
    clear v0 v1 v2 v3 v4 v5 v6 v7
    go_wp2_with fail
    refine bodyPost_ret (v := .tuple #[.agg #[.int .i64 0, .slice none 0 0, .slice (some ⟨W0.heap.size, 0, none⟩) 2 2], .bool true]) (by simp [results, Tryz.results104, go_sem, HX.out.1, HX.out.2.1, HX.out.2.2.1]) rfl ⟨b, W0.heap.size, HN.out.1, HN.out.2, rfl, HD.out 0 _ d0, HD.out 1 _ d1, HD.out 2 _ d2, HD.out 3 _ d3, HX.out.2.2.2.1 0, HX.out.2.2.2.1 1, HX.out.2.2.2.1 2, HX.out.2.2.2.1 3, HX.out.2.2.2.2.drew⟩
end Go.Proofs.YtnddkmccagiclaaGreatDoor

/-
  What the call of check's ruleOfIf answers, and the calls of ruleOfCall and ruleOfIf at right types as rules.
-/
namespace Go.Proofs.YtnddkmccagiclaaGreatDoor
open Go.RowKit
/-- The rule of an If. -/
def ifY (c x y : Ty) : Option (Ty × List Ty) := if relY escFits x y then some (joinY x y, [c, joinY x y, joinY x y]) else none
theorem In_three {w : World} {k : Int} {g c : Nat} {x y z : Tr} (a0 : w.cell? ⟨g, 0, none⟩ = some (.int .i64 x.k)) (a1 : w.cell? ⟨g, 1, none⟩ = some (.slice x.a x.l.length x.c)) (b0 : w.cell? ⟨g, 2, none⟩ = some (.int .i64 y.k)) (b1 : w.cell? ⟨g, 3, none⟩ = some (.slice y.a y.l.length y.c)) (c0 : w.cell? ⟨g, 4, none⟩ = some (.int .i64 z.k)) (c1 : w.cell? ⟨g, 5, none⟩ = some (.slice z.a z.l.length z.c))
    (hx : x.In w) (hy : y.In w) (hz : z.In w) : (Tr.mk k (some ⟨g, 0, none⟩) c [x, y, z]).In w := by
  refine Tr.In_mk.2 ⟨fun j h => ?_, fun t h => ?_⟩
  · match j, h with
    | 0, _ => exact ⟨g, 0, rfl, by simpa using a0, by simpa [Tr.sl] using a1⟩
    | 1, _ => exact ⟨g, 0, rfl, by simpa using b0, by simpa [Tr.sl] using b1⟩
    | 2, _ => exact ⟨g, 0, rfl, by simpa using c0, by simpa [Tr.sl] using c1⟩
  · simp only [List.mem_cons, List.not_mem_nil, or_false] at h
    rcases h with rfl | rfl | rfl
    · exact hx
    · exact hy
    · exact hz
set_option maxHeartbeats 1000000 in
theorem ruleOfIf_cells (c x y : Tr) (w : World) (hx : x.In w) (hy : y.In w) (rx : x.right) (ry : y.right) (hh : x.hgt ≤ 1000) (hs : x.sm) :
    Calls Tryz.prog 102 #[.agg #[.int .i64 c.k, .slice c.a c.l.length c.c], .agg #[.int .i64 x.k, .slice x.a x.l.length x.c], .agg #[.int .i64 y.k, .slice y.a y.l.length y.c]] w fun e w' => Below w.heap.size w w' ∧
      ((relY escFits x.ty y.ty = false ∧ e = .returned (.tuple #[.agg #[.int .i64 0, .slice none 0 0, .slice none 0 0], .bool false])) ∨
       (relY escFits x.ty y.ty = true ∧ ∃ (t : Tr) (g : Nat), w.heap.size ≤ g ∧ t.ty = joinY x.ty y.ty ∧ t.In w' ∧ t.Bl (w.heap.size ≤ ·) ∧ e = .returned (.tuple #[.agg #[.int .i64 t.k, .slice t.a t.l.length t.c, .slice (some ⟨g, 0, none⟩) 3 3], .bool true]) ∧
        w'.cell? ⟨g, 0, none⟩ = some (.int .i64 c.k) ∧ w'.cell? ⟨g, 1, none⟩ = some (.slice c.a c.l.length c.c) ∧ w'.cell? ⟨g, 2, none⟩ = some (.int .i64 t.k) ∧ w'.cell? ⟨g, 3, none⟩ = some (.slice t.a t.l.length t.c) ∧ w'.cell? ⟨g, 4, none⟩ = some (.int .i64 t.k) ∧ w'.cell? ⟨g, 5, none⟩ = some (.slice t.a t.l.length t.c))) := by
  obtain ⟨W0, hW0⟩ : ∃ W0, W0 = ((((w.alloc (Obj.cells #[.int .i64 c.k, .slice c.a c.l.length c.c] 24)).alloc (Obj.cells #[.int .i64 x.k, .slice x.a x.l.length x.c] 24)).alloc (Obj.cells #[.int .i64 y.k, .slice y.a y.l.length y.c] 24)).alloc (Obj.cells #[.int .i64 0, .slice none 0 0, .slice none 0 0] 115)) := ⟨_, rfl⟩
  have hs0 : W0.heap.size = w.heap.size + 1 + 1 + 1 + 1 := by rw [hW0]; simp
  have hb0 : Below w.heap.size w W0 := by rw [hW0]; exact ((((Below.refl _ _).alloc (Nat.le_refl _) _).alloc (by simp) _).alloc (by simp; omega) _).alloc (by simp; omega) _
  have c0 : W0.cell? ⟨w.heap.size, 0, none⟩ = some (.int .i64 c.k) := by rw [hW0]; simp [go_sem]
  have c1 : W0.cell? ⟨w.heap.size, 1, none⟩ = some (.slice c.a c.l.length c.c) := by rw [hW0]; simp [go_sem]
  have x0 : W0.cell? ⟨w.heap.size + 1, 0, none⟩ = some (.int .i64 x.k) := by rw [hW0]; simp [go_sem]
  have x1 : W0.cell? ⟨w.heap.size + 1, 1, none⟩ = some (.slice x.a x.l.length x.c) := by rw [hW0]; simp [go_sem]
  have y0 : W0.cell? ⟨w.heap.size + 1 + 1, 0, none⟩ = some (.int .i64 y.k) := by rw [hW0]; simp [go_sem]
  have y1 : W0.cell? ⟨w.heap.size + 1 + 1, 1, none⟩ = some (.slice y.a y.l.length y.c) := by rw [hW0]; simp [go_sem]
  have z0 : W0.cell? ⟨w.heap.size + 1 + 1 + 1, 0, none⟩ = some (.int .i64 0) := by rw [hW0]; simp [go_sem]
  have z1 : W0.cell? ⟨w.heap.size + 1 + 1 + 1, 1, none⟩ = some (.slice none 0 0) := by rw [hW0]; simp [go_sem]
  have z2 : W0.cell? ⟨w.heap.size + 1 + 1 + 1, 2, none⟩ = some (.slice none 0 0) := by rw [hW0]; simp [go_sem]
  have zf : ∀ i, W0.frozen? ⟨w.heap.size + 1 + 1 + 1, i, none⟩ = false := by intro i; rw [hW0]; simp [go_sem]
  have HF : Hid (Calls Tryz.prog 105 #[.agg #[.int .i64 x.k, .slice x.a x.l.length x.c], .agg #[.int .i64 y.k, .slice y.a y.l.length y.c]] W0 fun e w' => e = .returned (.bool (relY escFits x.ty y.ty)) ∧ Below W0.heap.size W0 w') := fits_whole x y W0 (hx.below hb0) (hy.below hb0) hh hs
  have HJ : Hid (∀ w1, Below W0.heap.size W0 w1 → Calls Tryz.prog 69 #[.agg #[.int .i64 x.k, .slice x.a x.l.length x.c], .agg #[.int .i64 y.k, .slice y.a y.l.length y.c]] w1 fun e w' => ∃ t : Tr, e = .returned (.agg #[.int .i64 t.k, .slice t.a t.l.length t.c]) ∧ t.ty = joinY x.ty y.ty ∧ t.In w' ∧ t.Bl (w1.heap.size ≤ ·) ∧ Below w1.heap.size w1 w') :=
    fun w1 h1 => join_whole x y w1 ((hx.below hb0).below h1) ((hy.below hb0).below h1) rx ry hh
  clear hx hy rx ry hh hs
  go_enter Tryz.func102, Tryz.ntmps102
  go_wp2_with fail
  rw [← hW0]
  clear hW0
  refine HF.out.mono ?_
  rintro e w1 ⟨rfl, h1⟩
  clear HF
  replace HJ := HJ.out w1 h1
  have hs1 := h1.size
  replace c0 := cell_later h1 c0
  replace c1 := cell_later h1 c1
  replace x0 := cell_later h1 x0
  replace x1 := cell_later h1 x1
  replace y0 := cell_later h1 y0
  replace y1 := cell_later h1 y1
  replace z0 := cell_later h1 z0
  replace z1 := cell_later h1 z1
  replace z2 := cell_later h1 z2
  replace zf : ∀ i, w1.frozen? ⟨w.heap.size + 1 + 1 + 1, i, none⟩ = false := fun i => (h1.frozen (p := ⟨w.heap.size + 1 + 1 + 1, i, none⟩) (by simp; omega)).trans (zf i)
  have f0 := zf 0
  have f1 := zf 1
  have f2 := zf 2
  have hbw : Below w.heap.size w w1 := hb0.trans (h1.mono (by omega))
  cases hr : relY escFits x.ty y.ty with
  | false =>
    have HE : Hid (Below w.heap.size w (((w1.setCell ⟨w.heap.size + 1 + 1 + 1, 0, none⟩ (.int .i64 0)).setCell ⟨w.heap.size + 1 + 1 + 1, 1, none⟩ (.slice none 0 0)).setCell ⟨w.heap.size + 1 + 1 + 1, 2, none⟩ (.slice none 0 0))) := ((hbw.setCell (by simp; omega) _).setCell (by simp; omega) _).setCell (by simp; omega) _
    have HR : Hid (relY escFits x.ty y.ty = false) := hr
    clear hbw hb0 h1 hr HJ
    go_wp2_with fail
    refine bodyPost_ret (v := .tuple #[.agg #[.int .i64 0, .slice none 0 0, .slice none 0 0], .bool false]) ?_ rfl ⟨HE.out, .inl ⟨HR.out, rfl⟩⟩
    simp [results, Tryz.results102, go_sem, z0, z1, z2]
  | true =>
    have HB : Hid (Below w.heap.size w w1 ∧ W0.heap.size ≤ w1.heap.size ∧ W0.heap.size = w.heap.size + 1 + 1 + 1 + 1) := ⟨hbw, hs1, hs0⟩
    have HR : Hid (relY escFits x.ty y.ty = true) := hr
    clear hbw hb0 h1 hr
    go_wp2_with fail
    refine HJ.mono ?_
    rintro e w2 ⟨t, rfl, ht, hin, hbl, h2⟩
    have hs2 := h2.size
    replace c0 := cell_later h2 c0
    replace c1 := cell_later h2 c1
    replace z0 := cell_later h2 z0
    replace z1 := cell_later h2 z1
    replace z2 := cell_later h2 z2
    replace zf : ∀ i, w2.frozen? ⟨w.heap.size + 1 + 1 + 1, i, none⟩ = false := fun i => (h2.frozen (p := ⟨w.heap.size + 1 + 1 + 1, i, none⟩) (by simp; omega)).trans (zf i)
    replace f0 := zf 0
    replace f1 := zf 1
    replace f2 := zf 2
    have hbw : Below w.heap.size w w2 := HB.out.1.trans (h2.mono (HB.out.1.size))
    have l3 : w.heap.size + 1 + 1 + 1 < w2.heap.size := World.block_lt_of_cell? _ _ z0
    have hbX : ∀ X, Below w2.heap.size w2 (w2.alloc X) := fun X => (Below.refl _ _).alloc (Nat.le_refl _) _
    have v0 := fun X => cell_later (hbX X) c0
    have v1 := fun X => cell_later (hbX X) c1
    have hbY : ∀ X Y, Below w2.heap.size w2 ((w2.alloc X).alloc Y) := fun X Y => (hbX X).alloc (by simp) _
    have v2 := fun X Y => cell_later (hbY X Y) z0
    have v3 := fun X Y => cell_later (hbY X Y) z1
    have v4 := fun X Y => cell_later (hbY X Y) z2
    have v5 : ∀ X Y i, ((w2.alloc X).alloc Y).frozen? ⟨w.heap.size + 1 + 1 + 1, i, none⟩ = false := fun X Y i => ((hbY X Y).frozen (p := ⟨w.heap.size + 1 + 1 + 1, i, none⟩) l3).trans (zf i)
    clear hbY
    clear hbX
    have hin3 := hin.below ((Below.refl w2.heap.size w2).alloc (Nat.le_refl _) (.cells #[.int .i64 t.k, .slice t.a t.l.length t.c] 24))
    have HT : Hid (t.ty = joinY x.ty y.ty ∧ t.In w2 ∧ t.Bl (w1.heap.size ≤ ·) ∧ Below w.heap.size w w2 ∧ w1.heap.size ≤ w2.heap.size) := ⟨ht, hin, hbl, hbw, hs2⟩
    clear x0 x1 y0 y1 zf HJ ht hin hbl hbw hs2 h2 hin3
    go_wp2_with fail
    obtain ⟨X, hX⟩ : ∃ X, X = Obj.cells #[.int .i64 t.k, .slice t.a t.l.length t.c] 24 := ⟨_, rfl⟩
    have g0 : ∀ i, ((w2.alloc X).alloc (Obj.cells #[.int .i64 c.k, .slice c.a c.l.length c.c, .int .i64 t.k, .slice t.a t.l.length t.c, .int .i64 t.k, .slice t.a t.l.length t.c] 24)).cell? ⟨w2.heap.size + 1, i, none⟩ = #[Value.int .i64 c.k, .slice c.a c.l.length c.c, .int .i64 t.k, .slice t.a t.l.length t.c, .int .i64 t.k, .slice t.a t.l.length t.c][i]? := by
      intro i; simp [go_sem]
    have hbW : Below w2.heap.size w2 ((w2.alloc X).alloc (Obj.cells #[.int .i64 c.k, .slice c.a c.l.length c.c, .int .i64 t.k, .slice t.a t.l.length t.c, .int .i64 t.k, .slice t.a t.l.length t.c] 24)) := ((Below.refl _ _).alloc (Nat.le_refl _) _).alloc (by simp) _
    have e0 := v2 X (Obj.cells #[.int .i64 c.k, .slice c.a c.l.length c.c, .int .i64 t.k, .slice t.a t.l.length t.c, .int .i64 t.k, .slice t.a t.l.length t.c] 24)
    have e1 := v3 X (Obj.cells #[.int .i64 c.k, .slice c.a c.l.length c.c, .int .i64 t.k, .slice t.a t.l.length t.c, .int .i64 t.k, .slice t.a t.l.length t.c] 24)
    have e2 := v4 X (Obj.cells #[.int .i64 c.k, .slice c.a c.l.length c.c, .int .i64 t.k, .slice t.a t.l.length t.c, .int .i64 t.k, .slice t.a t.l.length t.c] 24)
    rw [← hX]
    clear v0 v1 v2 v3 v4 v5 hX
    generalize (w2.alloc X).alloc (Obj.cells #[.int .i64 c.k, .slice c.a c.l.length c.c, .int .i64 t.k, .slice t.a t.l.length t.c, .int .i64 t.k, .slice t.a t.l.length t.c] 24) = W3 at *
    obtain ⟨ht, hin, hbl, hbw, hs2⟩ := HT.out
    have hsb := HB.out
    have nP : w2.heap.size + 1 ≠ w.heap.size + 1 + 1 + 1 := by omega
    have G : ∀ i, (((W3.setCell ⟨w.heap.size + 1 + 1 + 1, 0, none⟩ (.int .i64 t.k)).setCell ⟨w.heap.size + 1 + 1 + 1, 1, none⟩ (.slice t.a t.l.length t.c)).setCell ⟨w.heap.size + 1 + 1 + 1, 2, none⟩ (.slice (some ⟨w2.heap.size + 1, 0, none⟩) 3 3)).cell? ⟨w2.heap.size + 1, i, none⟩ = #[Value.int .i64 c.k, .slice c.a c.l.length c.c, .int .i64 t.k, .slice t.a t.l.length t.c, .int .i64 t.k, .slice t.a t.l.length t.c][i]? := by
      intro i
      rw [World.cell?_setCell_other _ _ _ _ (by simp), World.cell?_setCell_other _ _ _ _ (by simp), World.cell?_setCell_other _ _ _ _ (by simp)]
      exact g0 i
    have T : t.In (((W3.setCell ⟨w.heap.size + 1 + 1 + 1, 0, none⟩ (.int .i64 t.k)).setCell ⟨w.heap.size + 1 + 1 + 1, 1, none⟩ (.slice t.a t.l.length t.c)).setCell ⟨w.heap.size + 1 + 1 + 1, 2, none⟩ (.slice (some ⟨w2.heap.size + 1, 0, none⟩) 3 3)) := by
      refine Tr.In.congr (P := fun b => w1.heap.size ≤ b) (fun b hb o => ?_) hbl (hin.below hbW)
      have hb' : w1.heap.size ≤ b := hb
      have nb : b ≠ w.heap.size + 1 + 1 + 1 := by omega
      rw [World.cell?_setCell_other _ _ _ _ (by simp), World.cell?_setCell_other _ _ _ _ (by simp), World.cell?_setCell_other _ _ _ _ (by simp)]
    have E : Below w.heap.size w (((W3.setCell ⟨w.heap.size + 1 + 1 + 1, 0, none⟩ (.int .i64 t.k)).setCell ⟨w.heap.size + 1 + 1 + 1, 1, none⟩ (.slice t.a t.l.length t.c)).setCell ⟨w.heap.size + 1 + 1 + 1, 2, none⟩ (.slice (some ⟨w2.heap.size + 1, 0, none⟩) 3 3)) :=
      (((hbw.trans (hbW.mono hbw.size)).setCell (by simp; omega) _).setCell (by simp; omega) _).setCell (by simp; omega) _
    refine bodyPost_ret (v := .tuple #[.agg #[.int .i64 t.k, .slice t.a t.l.length t.c, .slice (some ⟨w2.heap.size + 1, 0, none⟩) 3 3], .bool true]) ?_ rfl ⟨E, .inr ⟨HR.out, t, w2.heap.size + 1, by have := hbw.size; omega, ht, T, hbl.mono fun b hb => by omega, rfl, G 0, G 1, G 2, G 3, G 4, G 5⟩⟩
    simp [results, Tryz.results102, go_sem, e0, e1, e2]
theorem ruleOfIf_any (Q : Nat → Prop) (c x y : Tr) (w : World) (hc : c.In w) (hx : x.In w) (hy : y.In w) (rx : x.right) (ry : y.right) (hh : x.hgt ≤ 1000) (hs : x.sm) (hQ : ∀ b, w.heap.size ≤ b → Q b) (bc : c.Bl Q) :
    Calls Tryz.prog 102 #[.agg #[.int .i64 c.k, .slice c.a c.l.length c.c], .agg #[.int .i64 x.k, .slice x.a x.l.length x.c], .agg #[.int .i64 y.k, .slice y.a y.l.length y.c]] w (RuOut Q w (ifY c.ty x.ty y.ty)) := by
  refine (ruleOfIf_cells c x y w hx hy rx ry hh hs).mono ?_
  rintro e w' ⟨hb, ⟨hr, rfl⟩ | ⟨hr, t, g, hg, ht, hin, hbl, rfl, c0, c1, c2, c3, c4, c5⟩⟩
  · exact ⟨hb, .inl ⟨by simp [ifY, hr], rfl⟩⟩
  · have hbt : t.Bl Q := hbl.mono fun b h => hQ b h
    refine ⟨hb, .inr ⟨t, ⟨0, some ⟨g, 0, none⟩, 3, [c, t, t]⟩, ?_, rfl, hin, In_three c0 c1 c2 c3 c4 c5 (hc.below hb) hin hin, hbt, ?_⟩⟩
    · simp [ifY, hr, ht]
    · refine Tr.Bl_mk.2 ⟨fun _ x hx => ?_, fun q hq => ?_⟩
      · cases hx; exact hQ g hg
      · simp only [List.mem_cons, List.not_mem_nil, or_false] at hq
        rcases hq with rfl | rfl | rfl
        · exact bc
        · exact hbt
        · exact hbt
theorem ruleOfCall_any (Q : Nat → Prop) (x : Tr) (w : World) (hx : x.In w) (rx : x.right) (hQ : ∀ b, w.heap.size ≤ b → Q b) (bx : x.Bl Q) :
    Calls Tryz.prog 104 #[.agg #[.int .i64 x.k, .slice x.a x.l.length x.c]] w (RuOut Q w (callY x.ty)) := by
  obtain ⟨k, a, c, l⟩ := x
  by_cases h0 : k = 0
  · subst h0
    refine (ruleOfCall_open a l.length c w).mono ?_
    rintro e w' ⟨b, g, hb1, hg1, rfl, d0, d1, d2, d3, g0, g1, g2, g3, hb⟩
    have iF : (Tr.mk 3 (some ⟨b, 0, none⟩) 2 [leaf 0, leaf 0]).In w' := Tr.In_two d0 d1 d2 d3 (leaf_in _ _) (leaf_in _ _)
    refine ⟨hb, .inr ⟨leaf 0, ⟨0, some ⟨g, 0, none⟩, 2, [⟨3, some ⟨b, 0, none⟩, 2, [leaf 0, leaf 0]⟩, leaf 0]⟩, ?_, rfl, leaf_in _ _, Tr.In_two g0 g1 g2 g3 iF (leaf_in _ _), leaf_bl _ _, ?_⟩⟩
    · simp [callY, Tr.ty_mk, leaf]
    · exact Tr.Bl_two (hQ g hg1) (Tr.Bl_two (hQ b hb1) (leaf_bl _ _) (leaf_bl _ _)) (leaf_bl _ _)
  · by_cases h3 : k = 3
    · subst h3
      rcases Tr.right.cases rx with ⟨_, hk⟩ | ⟨x, y, hl, _, _, _⟩
      · simp at hk
      · dsimp only at hl
        subst hl
        obtain ⟨b, o, ha, p0, p1, ix⟩ := hx.at 0 (by simp)
        obtain ⟨b', o', ha', q0, q1, iy⟩ := hx.at 1 (by simp)
        subst ha
        cases ha'
        refine (ruleOfCall_fun b o c x y w (by simpa using p0) (by simpa using p1) (by simpa using q0) (by simpa using q1)).mono ?_
        rintro e w' ⟨g, hg, rfl, g0, g1, g2, g3, hb⟩
        obtain ⟨bo, bl⟩ := Tr.Bl_mk.1 bx
        refine ⟨hb, .inr ⟨y, ⟨0, some ⟨g, 0, none⟩, 2, [⟨3, some ⟨b, o, none⟩, c, [x, y]⟩, x]⟩, ?_, rfl, iy.below hb, Tr.In_two g0 g1 g2 g3 (hx.below hb) (ix.below hb), bl y (by simp), ?_⟩⟩
        · simp [callY, Tr.ty_mk]
        · exact Tr.Bl_two (hQ g hg) bx (bl x (by simp))
    · refine (ruleOfCall_none k (by simpa using h0) (by simpa using h3) a l.length c w).mono ?_
      rintro e w' ⟨rfl, hb⟩
      exact ⟨hb, .inl ⟨by simp [callY, Tr.ty_mk, h0, h3], rfl⟩⟩
end Go.Proofs.YtnddkmccagiclaaGreatDoor
