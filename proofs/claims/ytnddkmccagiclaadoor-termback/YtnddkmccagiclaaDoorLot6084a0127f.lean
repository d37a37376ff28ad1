/-
  A reader of words behind a pointer: what its state is, and what the calls of next, fail and want do to it; the package-level tables.
-/
import Derived.Test.YtnddkmccagiclaaDoorLotf3903b603a
import Derived.Deep.LoopGhost
import Derived.Shelf.Strconv.Itoa3
import Derived.Lib.SlicesS
import Derived.Lib.SpaceUEq
import Derived.Lib.FieldsP
import Derived.Lib.Replace
import Derived.Lib.MapLaws
import Derived.Lib.AtoiTie
import Derived.Lib.ItoaNum
import Derived.Lib.ItoaLen
namespace Go.Proofs.YtnddkmccagiclaaDoor
open Go.RowKit

theorem Kept.of_below {R : Nat} {o : Option Nat} {w w' : World} (h : Below w.heap.size w w') : Kept R o w w' :=
  ⟨h.os, h.tape, h.output, h.size, fun k hk _ _ => h.block k hk⟩

theorem Kept.trans {R : Nat} {w w1 w2 : World} (h : Kept R none w w1) (h' : Kept R none w1 w2) : Kept R none w w2 := by
  have hs := h.size
  exact ⟨h'.os.trans h.os, h'.tape.trans h.tape, h'.output.trans h.output, Nat.le_trans h.size h'.size, fun k hk h1 h2 => (h'.block k (by omega) h1 h2).trans (h.block k hk h1 h2)⟩

theorem Kept.cell {R : Nat} {w w' : World} (h : Kept R none w w') {b i : Nat} {v : Value} (hc : w.cell? ⟨b, i, none⟩ = some v) (h1 : b ≠ R) : w'.cell? ⟨b, i, none⟩ = some v :=
  (World.cell?_of_block (a := ⟨b, i, none⟩) (h.block b (World.block_lt_of_cell? _ _ hc) h1 (by simp))).trans hc

/-- Package-level variable g holds these cells. -/
def Vc (w : World) (g : Nat) (cs : Array Value) : Prop := ∃ t fr, w.heap[g]? = some (.cells cs t fr)

theorem Vc.cell {w : World} {g : Nat} {cs : Array Value} (h : Vc w g cs) (i : Nat) : w.cell? ⟨g, i, none⟩ = cs[i]? := by
  obtain ⟨t, fr, h⟩ := h
  rw [cell_of_row w g i cs t fr h]

/-- What the tables hold. -/
structure Gl (w : World) : Prop where
  tw : Vc w 0 #[.string ⟨#[110, 111]⟩, .string ⟨#[121, 101, 115]⟩]
  wd : Vc w 1 #[.string ⟨#[]⟩, .string ⟨#[]⟩, .string ⟨#[]⟩, .string ⟨#[]⟩, .string ⟨#[97, 100, 100]⟩, .string ⟨#[108, 101, 115, 115]⟩, .string ⟨#[105, 102]⟩, .string ⟨#[102, 117, 110]⟩, .string ⟨#[99, 97, 108, 108]⟩, .string ⟨#[97, 115]⟩]
  pt : Vc w 2 #[.int .i64 0, .int .i64 0, .int .i64 0, .int .i64 0, .int .i64 2, .int .i64 2, .int .i64 3, .int .i64 1, .int .i64 2, .int .i64 1]
  ty : Vc w 3 #[.string ⟨#[97, 110, 121]⟩, .string ⟨#[110, 117, 109]⟩, .string ⟨#[116, 114, 117, 116, 104]⟩]
  pw : Vc w 4 (Lib.pow10Tab.map fun z => Value.int .u64 z).toArray
  mx : ∃ m, Vc w 5 #[.int .i64 m]
  es : ∃ te pe, Vc w 8 #[.iface te pe]
  er : ∃ te pe, Vc w 9 #[.iface te pe]

theorem Vc.of {w w' : World} {g : Nat} {cs : Array Value} (h : Vc w g cs) (e : w'.heap[g]? = w.heap[g]?) : Vc w' g cs := by
  obtain ⟨t, fr, h⟩ := h
  exact ⟨t, fr, e.trans h⟩

theorem Vc.lt {w : World} {g : Nat} {cs : Array Value} (h : Vc w g cs) : g < w.heap.size := by
  obtain ⟨t, fr, h⟩ := h
  exact (Array.getElem?_eq_some_iff.1 h).1

theorem Gl.of {w w' : World} (h : Gl w) (e : ∀ g, g < 10 → w'.heap[g]? = w.heap[g]?) : Gl w' := by
  obtain ⟨m, hm⟩ := h.mx
  obtain ⟨a, b, hs⟩ := h.es
  obtain ⟨a', b', hr⟩ := h.er
  exact ⟨h.tw.of (e _ (by omega)), h.wd.of (e _ (by omega)), h.pt.of (e _ (by omega)), h.ty.of (e _ (by omega)), h.pw.of (e _ (by omega)), ⟨m, hm.of (e _ (by omega))⟩, ⟨a, b, hs.of (e _ (by omega))⟩, ⟨a', b', hr.of (e _ (by omega))⟩⟩

theorem Gl.size {w : World} (h : Gl w) : 10 ≤ w.heap.size := by
  obtain ⟨a', b', hr⟩ := h.er
  exact hr.lt

theorem Gl.below {w w' : World} (h : Gl w) (hb : Below w.heap.size w w') : Gl w' :=
  h.of fun g hg => hb.block g (by have := h.size; omega)

theorem Gl.kept {w w' : World} {R : Nat} (h : Gl w) (hR : 10 ≤ R) (hb : Kept R none w w') : Gl w' :=
  h.of fun g hg => hb.block g (by have := h.size; omega) (by omega) (by simp)

/-- What the table of parts holds. -/
structure Gp (w : World) : Prop where
  pt : Vc w 2 #[.int .i64 0, .int .i64 0, .int .i64 0, .int .i64 0, .int .i64 2, .int .i64 2, .int .i64 3, .int .i64 1, .int .i64 2, .int .i64 1]

theorem Gl.gp {w : World} (h : Gl w) : Gp w := ⟨h.pt⟩
theorem Gp.size {w : World} (h : Gp w) : 3 ≤ w.heap.size := h.pt.lt
theorem Gp.below {w w' : World} (h : Gp w) (hb : Below w.heap.size w w') : Gp w' := ⟨h.pt.of (hb.block 2 h.pt.lt)⟩
theorem Gp.kept {w w' : World} {R : Nat} (h : Gp w) (hR : 3 ≤ R) (hb : Kept R none w w') : Gp w' := ⟨h.pt.of (hb.block 2 h.pt.lt (by omega) (by simp))⟩

/-- The words that are left, and whether something went wrong. -/
structure RS (R : Nat) (ws : List ByteArray) (b : Bool) (w : World) : Prop where
  l : ∃ a c, w.cell? ⟨R, 0, none⟩ = some (.slice a ws.length c) ∧ ws.length ≤ c ∧ (ws ≠ [] → ∃ A o, a = some ⟨A, o, none⟩ ∧ A < R ∧ ∀ (i : Nat) x, ws[i]? = some x → w.cell? ⟨A, o + i, none⟩ = some (.string x))
  b : w.cell? ⟨R, 1, none⟩ = some (.bool b)
  f0 : w.frozen? ⟨R, 0, none⟩ = false
  f1 : w.frozen? ⟨R, 1, none⟩ = false
  z : ws.length ≤ 1000000

theorem RS.lt {R : Nat} {ws : List ByteArray} {b : Bool} {w : World} (h : RS R ws b w) : R < w.heap.size := World.block_lt_of_cell? _ _ h.b

theorem RS.below {R : Nat} {ws : List ByteArray} {b : Bool} {w w' : World} (h : RS R ws b w) (hb : Below w.heap.size w w') : RS R ws b w' := by
  have hl := h.lt
  obtain ⟨⟨a, c, hc, hn, hw⟩, h1, h2, h3, hz⟩ := h
  refine ⟨⟨a, c, cell_later hb hc, hn, fun hne => ?_⟩, cell_later hb h1, (hb.frozen (p := ⟨R, 0, none⟩) hl).trans h2, (hb.frozen (p := ⟨R, 1, none⟩) hl).trans h3, hz⟩
  obtain ⟨A, o, ha, hA, hx⟩ := hw hne
  exact ⟨A, o, ha, hA, fun i x hi => cell_later hb (hx i x hi)⟩

theorem RS.set2 {R : Nat} {ws : List ByteArray} {b : Bool} {w : World} {k : Nat} {u v : Value} (h : RS R ws b w) (hk : R < k) : RS R ws b ((w.setCell ⟨k, 0, none⟩ u).setCell ⟨k, 1, none⟩ v) := by
  have hc : ∀ q i, q < k → ((w.setCell ⟨k, 0, none⟩ u).setCell ⟨k, 1, none⟩ v).cell? ⟨q, i, none⟩ = w.cell? ⟨q, i, none⟩ := by
    intro q i hq
    rw [World.cell?_setCell_other, World.cell?_setCell_other]
    · intro e; simp only [Addr.mk.injEq] at e; omega
    · intro e; simp only [Addr.mk.injEq] at e; omega
  obtain ⟨⟨a, c, h0, hn, hw⟩, h1, h2, h3, hz⟩ := h
  refine ⟨⟨a, c, (hc _ _ hk).trans h0, hn, fun hne => ?_⟩, (hc _ _ hk).trans h1, by rw [World.frozen?_setCell, World.frozen?_setCell]; exact h2, by rw [World.frozen?_setCell, World.frozen?_setCell]; exact h3, hz⟩
  obtain ⟨A, o, ha, hA, hx⟩ := hw hne
  exact ⟨A, o, ha, hA, fun i x hi => (hc _ _ (by omega)).trans (hx i x hi)⟩

theorem setR_kept {w : World} {R i : Nat} {v : Value} : Kept R none w (w.setCell ⟨R, i, none⟩ v) :=
  ⟨rfl, rfl, rfl, by simp [World.setCell], fun _ _ h1 _ => Below.heap_setCell _ _ _ _ h1⟩

set_option maxHeartbeats 400000 in
/-- (*reader).fail. -/
theorem fail_any (R : Nat) (ws : List ByteArray) (b : Bool) (w : World) (h : RS R ws b w) :
    Calls Tryd.prog 83 #[.pointer (some ⟨R, 0, none⟩)] w fun e w' => e = .returned (.tuple #[]) ∧ RS R [] true w' ∧ Kept R none w w' := by
  obtain ⟨⟨a, c, hc, _, _⟩, h1, h2, h3, _⟩ := h
  go_enter Tryd.func83, Tryd.ntmps83
  go_wp2_with fail
  go_end0
  have hne : (⟨R, 0, none⟩ : Addr) ≠ ⟨R, 1, none⟩ := by simp
  refine ⟨rfl, ⟨⟨none, 0, ?_, Nat.le_refl _, fun h => absurd rfl h⟩, ?_, ?_, ?_, by simp⟩, setR_kept.trans setR_kept⟩
  · refine World.cell?_setCell_same _ _ _ (u := .slice a ws.length c) ?_
    rw [World.cell?_setCell_other _ _ _ _ (Ne.symm hne)]
    exact hc
  · rw [World.cell?_setCell_other _ _ _ _ hne]
    exact World.cell?_setCell_same _ _ _ h1
  · rw [World.frozen?_setCell, World.frozen?_setCell]
    exact h2
  · rw [World.frozen?_setCell, World.frozen?_setCell]
    exact h3

set_option maxHeartbeats 400000 in
/-- (*reader).next where no word is left. -/
theorem next_nil (R : Nat) (b : Bool) (w : World) (h : RS R [] b w) :
    Calls Tryd.prog 57 #[.pointer (some ⟨R, 0, none⟩)] w fun e w' => e = .returned (.string ⟨#[]⟩) ∧ RS R [] true w' ∧ Kept R none w w' := by
  have HF : Hid (Calls Tryd.prog 83 #[.pointer (some ⟨R, 0, none⟩)] w fun e w' => e = .returned (.tuple #[]) ∧ RS R [] true w' ∧ Kept R none w w') := fail_any R [] b w h
  obtain ⟨⟨a, c, hc, _, _⟩, h1, h2, h3, _⟩ := h
  go_enter Tryd.func57, Tryd.ntmps57
  go_wp2_with fail
  refine HF.out.mono ?_
  rintro e w1 ⟨rfl, hr, hk⟩
  have HR : Hid (RS R [] true w1 ∧ Kept R none w w1) := ⟨hr, hk⟩
  clear hr hk HF
  go_wp2_with fail
  go_ret
  exact ⟨rfl, HR.out.1, HR.out.2⟩

set_option maxHeartbeats 400000 in
/-- (*reader).next where a word is left. -/
theorem next_cons (R : Nat) (x : ByteArray) (r : List ByteArray) (b : Bool) (w : World) (h : RS R (x :: r) b w) :
    Calls Tryd.prog 57 #[.pointer (some ⟨R, 0, none⟩)] w fun e w' => e = .returned (.string x) ∧ RS R r b w' ∧ Kept R none w w' := by
  obtain ⟨⟨a, c, hc, hn, hw⟩, h1, h2, h3, hz⟩ := h
  obtain ⟨A, o, rfl, hA, hx⟩ := hw (by simp)
  have x0 := hx 0 x (by simp)
  simp only [Nat.add_zero] at x0
  simp only [List.length_cons] at hc hn hz
  have e0 : (((r.length + 1 : Nat) : Int) == 0) = false := by simp; omega
  have i1 : (0 : Int) < ((r.length : Int) + 1) := by omega
  have i2 : (1 : Int) ≤ ((r.length : Int) + 1) := by omega
  have HX : Hid (∀ (i : Nat) y, (x :: r)[i]? = some y → w.cell? ⟨A, o + i, none⟩ = some (.string y)) := hx
  clear hx hw
  go_enter Tryd.func57, Tryd.ntmps57
  go_wp2_with fail
  all_goals go_ret
  all_goals
    refine ⟨rfl, ⟨⟨_, _, World.cell?_setCell_same _ _ _ hc, by omega, fun hne => ?_⟩, ?_, by rw [World.frozen?_setCell]; exact h2, by rw [World.frozen?_setCell]; exact h3, by omega⟩, setR_kept⟩
    rotate_left
    · rw [World.cell?_setCell_other _ _ _ _ (by simp)]
      exact h1
  · exact absurd (List.length_eq_zero_iff.1 (by omega)) hne
  · refine ⟨A, o + 1, rfl, hA, fun i y hi => ?_⟩
    rw [World.cell?_setCell_other]
    · rw [show o + 1 + i = o + (i + 1) by omega]
      exact HX.out (i + 1) y (by simpa using hi)
    · intro e; simp only [Addr.mk.injEq] at e; omega

set_option maxHeartbeats 400000 in
theorem want_walk (R : Nat) (x word : ByteArray) (r : List ByteArray) (b : Bool) (w : World) (h : RS R (x :: r) b w) :
    Calls Tryd.prog 86 #[.pointer (some ⟨R, 0, none⟩), .string word] w fun e w' => e = .returned (.tuple #[]) ∧ ((x = word ∧ RS R r b w') ∨ (x ≠ word ∧ RS R [] true w')) ∧ Kept R none w w' := by
  have HN : Hid (Calls Tryd.prog 57 #[.pointer (some ⟨R, 0, none⟩)] w fun e w' => e = .returned (.string x) ∧ RS R r b w' ∧ Kept R none w w') := next_cons R x r b w h
  clear h
  by_cases hx : x = word
  · subst hx
    go_enter Tryd.func86, Tryd.ntmps86
    go_wp2_with fail
    refine HN.out.mono ?_
    rintro e w1 ⟨rfl, hr, hk⟩
    have HR : Hid (RS R r b w1 ∧ Kept R none w w1) := ⟨hr, hk⟩
    clear hr hk HN
    go_wp2_with fail
    go_end0
    exact ⟨rfl, .inl ⟨trivial, HR.out.1⟩, HR.out.2⟩
  · have hb : (x.toList == word.toList) = false := (Lib.bytes_beq_false_iff _ _).2 hx
    have hb2 : (!x.toList == word.toList) = true := by rw [hb]; rfl
    have HX : Hid (x ≠ word) := hx
    clear hx
    go_enter Tryd.func86, Tryd.ntmps86
    go_wp2_with fail
    refine HN.out.mono ?_
    rintro e w1 ⟨rfl, hr, hk⟩
    have HF : Hid (Calls Tryd.prog 83 #[.pointer (some ⟨R, 0, none⟩)] w1 fun e w' => e = .returned (.tuple #[]) ∧ RS R [] true w' ∧ Kept R none w1 w') := fail_any R r b w1 hr
    have HK : Hid (Kept R none w w1) := hk
    clear hr hk HN
    go_wp2_with fail
    refine HF.out.mono ?_
    rintro e w2 ⟨rfl, hr, hk⟩
    have HR : Hid (RS R [] true w2 ∧ Kept R none w w2) := ⟨hr, HK.out.trans hk⟩
    clear hr hk HF HK
    go_wp2_with fail
    go_end0
    exact ⟨rfl, .inr ⟨HX.out, HR.out.1⟩, HR.out.2⟩

set_option maxHeartbeats 400000 in
theorem want_nil (R : Nat) (word : ByteArray) (hw : (⟨#[]⟩ : ByteArray) ≠ word) (b : Bool) (w : World) (h : RS R [] b w) :
    Calls Tryd.prog 86 #[.pointer (some ⟨R, 0, none⟩), .string word] w fun e w' => e = .returned (.tuple #[]) ∧ RS R [] true w' ∧ Kept R none w w' := by
  have HN : Hid (Calls Tryd.prog 57 #[.pointer (some ⟨R, 0, none⟩)] w fun e w' => e = .returned (.string ⟨#[]⟩) ∧ RS R [] true w' ∧ Kept R none w w') := next_nil R b w h
  have hb : ((⟨#[]⟩ : ByteArray).toList == word.toList) = false := (Lib.bytes_beq_false_iff _ _).2 hw
  have he : (⟨#[]⟩ : ByteArray).toList = [] := by rw [Lib.toList_data]
  have hb3 : (!word.toList.isEmpty) = true := by
    rw [he] at hb
    cases hl : word.toList with
    | nil => rw [hl] at hb; simp at hb
    | cons _ _ => rfl
  clear h hw hb he
  go_enter Tryd.func86, Tryd.ntmps86
  go_wp2_with fail
  refine HN.out.mono ?_
  rintro e w1 ⟨rfl, hr, hk⟩
  have HF : Hid (Calls Tryd.prog 83 #[.pointer (some ⟨R, 0, none⟩)] w1 fun e w' => e = .returned (.tuple #[]) ∧ RS R [] true w' ∧ Kept R none w1 w') := fail_any R [] true w1 hr
  have HK : Hid (Kept R none w w1) := hk
  clear hr hk HN
  go_wp2_with fail
  refine HF.out.mono ?_
  rintro e w2 ⟨rfl, hr, hk⟩
  have HR : Hid (RS R [] true w2 ∧ Kept R none w w2) := ⟨hr, HK.out.trans hk⟩
  clear hr hk HF HK
  go_wp2_with fail
  go_end0
  exact ⟨rfl, HR.out.1, HR.out.2⟩
end Go.Proofs.YtnddkmccagiclaaDoor

/-
  The words of a text, byte by byte: what FieldsFunc at spaces and line ends gives of a text around whose brackets spaces were laid; no program in it.
-/
namespace Go.Proofs.YtnddkmccagiclaaDoor

def spB (c : UInt8) : Bool := c == 32 || c == 10
def spR (r : Nat) : Bool := r == 32 || r == 10

def flush (cur : List UInt8) : List (List UInt8) := if cur = [] then [] else [cur]

/-- The words between spaces. -/
def splitW (cur : List UInt8) : List UInt8 → List (List UInt8)
  | [] => flush cur
  | c :: r => if spB c = true then flush cur ++ splitW [] r else splitW (cur ++ [c]) r

theorem splitW_skip : ∀ (k : Nat) (cur l : List UInt8), k ≤ l.length → (∀ j, j < k → spB (l.getD j 0) = false) → splitW cur l = splitW (cur ++ l.take k) (l.drop k)
  | 0, cur, l, _, _ => by simp
  | k + 1, cur, [], h, _ => by simp at h
  | k + 1, cur, b :: t, h, hz => by
    have h0 := hz 0 (by omega)
    simp only [List.getD_cons_zero] at h0
    rw [splitW, if_neg (by simp [h0])]
    rw [splitW_skip k (cur ++ [b]) t (by simpa using h) (fun j hj => by have := hz (j + 1) (by omega); simpa using this)]
    simp

def curOf (s : ByteArray) (st : Option Nat) (pos : Nat) : List UInt8 :=
  match st with
  | none => []
  | some a => (s.data.toList.drop a).take (pos - a)

theorem curOf_ne (s : ByteArray) (a pos : Nat) (h : a < pos) (hp : pos ≤ s.size) : curOf s (some a) pos ≠ [] := by
  intro e
  have : (curOf s (some a) pos).length = 0 := by rw [e]; rfl
  have hl : s.data.toList.length = s.size := Array.length_toList
  simp only [curOf, List.length_take, List.length_drop, hl] at this
  omega

theorem spB_big (c : UInt8) (h : 128 ≤ c.toNat) : spB c = false := by
  simp only [spB, Bool.or_eq_false_iff, beq_eq_false_iff_ne]
  constructor
  · rintro rfl; simp at h
  · rintro rfl; simp at h

theorem spB_spR (c : UInt8) : spR c.toNat = spB c := by
  have e : ∀ n : UInt8, (c.toNat == n.toNat) = (c == n) := by
    intro n
    rw [Bool.eq_iff_iff, beq_iff_eq, beq_iff_eq]
    exact UInt8.toNat_inj
  have e1 := e 32
  have e2 := e 10
  simp only [spR, spB, ← e1, ← e2]
  rfl

theorem cur_step (s : ByteArray) (st : Option Nat) (pos k : Nat) (hst : ∀ a, st = some a → a < pos) :
    curOf s st pos ++ (s.data.toList.drop pos).take k = curOf s (some (st.getD pos)) (pos + k) := by
  cases st with
  | none =>
    simp only [curOf, Option.getD_none, List.nil_append]
    rw [show pos + k - pos = k by omega]
  | some a =>
    have := hst a rfl
    simp only [curOf, Option.getD_some]
    rw [show pos + k - a = (pos - a) + k by omega, List.take_add, List.drop_drop, show a + (pos - a) = pos by omega]

def bytesOf (s : ByteArray) (x : Nat × Nat) : List UInt8 := (s.data.toList.drop x.1).take (x.2 - x.1)

theorem spans_end (s : ByteArray) (f pos : Nat) (st : Option Nat) (acc : List (Nat × Nat)) (hp : pos ≤ s.size) (hlt : ¬ pos < s.size) (hst : ∀ a, st = some a → a < pos) :
    (Lib.closeSpans s (Lib.spansFromP spR s f pos st acc)).map (bytesOf s) = acc.map (bytesOf s) ++ splitW (curOf s st pos) (s.data.toList.drop pos) := by
  have hl : s.data.toList.length = s.size := Array.length_toList
  have e : pos = s.size := by omega
  rw [Lib.spansFromP_end spR s f pos st acc hlt]
  rw [List.drop_eq_nil_of_le (by rw [hl]; omega), splitW]
  cases st with
  | none => simp [Lib.closeSpans, curOf, flush]
  | some a =>
    rw [flush, if_neg (curOf_ne s a pos (hst a rfl) hp)]
    simp [Lib.closeSpans, curOf, bytesOf, e]

theorem spans_split (s : ByteArray) : ∀ (f pos : Nat) (st : Option Nat) (acc : List (Nat × Nat)), pos ≤ s.size → s.size ≤ pos + f → (∀ a, st = some a → a < pos) →
    (Lib.closeSpans s (Lib.spansFromP spR s f pos st acc)).map (bytesOf s) = acc.map (bytesOf s) ++ splitW (curOf s st pos) (s.data.toList.drop pos)
  | 0, pos, st, acc, hp, hf, hst => spans_end s 0 pos st acc hp (by omega) hst
  | f + 1, pos, st, acc, hp, hf, hst => by
    have hl : s.data.toList.length = s.size := Array.length_toList
    by_cases hlt : pos < s.size
    · have hd := Lib.decode_N s pos
      generalize hR : Utf8.decode s pos = D at hd
      have hyes : spR D.1 = true → Lib.spansFromP spR s (f + 1) pos st acc = Lib.spansFromP spR s f (pos + D.2) none (acc ++ (st.map fun a => (a, pos)).toList) := by
        intro h
        cases st <;> simp [Lib.spansFromP, hlt, hR, h]
      have hno : spR D.1 = false → Lib.spansFromP spR s (f + 1) pos st acc = Lib.spansFromP spR s f (pos + D.2) (some (st.getD pos)) acc := by
        intro h
        cases st <;> simp [Lib.spansFromP, hlt, hR, h]
      have hg : s.data.toList.drop pos = s.data.toList.getD pos 0 :: s.data.toList.drop (pos + 1) := by
        rw [List.drop_eq_getElem_cons (by rw [hl]; exact hlt)]
        simp [List.getD_eq_getElem?_getD, hl, hlt]
      have hge : ∀ j, (s.data.toList.drop pos).getD j 0 = s.data.toList.getD (pos + j) 0 := by
        intro j; simp [List.getD_eq_getElem?_getD, List.getElem?_drop]
      have hcon := Lib.decodeN_conts (s.data.toList.length - pos) (s.data.toList.getD pos 0).toNat (s.data.toList.getD (pos + 1) 0).toNat (s.data.toList.getD (pos + 2) 0).toNat (s.data.toList.getD (pos + 3) 0).toNat
      have hge1 := Lib.decodeN_ge1 (s.data.toList.length - pos) (s.data.toList.getD pos 0).toNat (s.data.toList.getD (pos + 1) 0).toNat (s.data.toList.getD (pos + 2) 0).toNat (s.data.toList.getD (pos + 3) 0).toNat
      have hsh := Lib.decodeN_shape (s.data.toList.length - pos) (s.data.toList.getD pos 0).toNat (s.data.toList.getD (pos + 1) 0).toNat (s.data.toList.getD (pos + 2) 0).toNat (s.data.toList.getD (pos + 3) 0).toNat
      rw [← hd] at hcon hge1 hsh
      -- a step that goes on with the word
      have go : ∀ k, D.2 = k → spR D.1 = false → pos + k ≤ s.size → (∀ j, j < k → spB (s.data.toList.getD (pos + j) 0) = false) → 1 ≤ k →
          (Lib.closeSpans s (Lib.spansFromP spR s (f + 1) pos st acc)).map (bytesOf s) = acc.map (bytesOf s) ++ splitW (curOf s st pos) (s.data.toList.drop pos) := by
        intro k hk hs hpk hz h1
        rw [hno hs, hk]
        have ih := spans_split s f (pos + k) (some (st.getD pos)) acc hpk (by omega) (by
          intro a ha
          cases st with
          | none => simp at ha; omega
          | some b => have := hst b rfl; simp at ha; omega)
        rw [splitW_skip k (curOf s st pos) (s.data.toList.drop pos) (by simp [hl]; omega) (fun j hj => by rw [hge]; exact hz j hj), cur_step s st pos k hst, List.drop_drop, ← ih]
      rcases hsh with ⟨hb, he⟩ | ⟨hb, hn, hb1, hb2, he⟩ | ⟨hb, hn, hb1, hb2, hb3, _, he⟩ | ⟨hb, hn, hb1, hb2, hb3, hb4, _, he⟩ | he
      · by_cases hs : spB (s.data.toList.getD pos 0) = true
        · have hr : spR D.1 = true := by rw [he]; exact (spB_spR _).trans hs
          rw [hyes hr, he]
          rw [hg, splitW, if_pos hs]
          cases st with
          | none =>
            rw [spans_split s f (pos + 1) none _ (by omega) (by omega) (by intro a h; cases h)]
            simp [curOf, flush]
          | some a =>
            have ha := hst a rfl
            rw [spans_split s f (pos + 1) none _ (by omega) (by omega) (by intro a h; cases h)]
            rw [flush, if_neg (curOf_ne s a pos ha hp)]
            simp [curOf, bytesOf]
        · have hs' : spB (s.data.toList.getD pos 0) = false := by simpa using hs
          exact go 1 (by rw [he]) (by rw [he]; exact (spB_spR _).trans hs') (by omega) (fun j hj => by rw [show j = 0 by omega]; exact hs') (by omega)
      · refine go 2 (by rw [he]) ?_ (by omega) (fun j hj => ?_) (by omega)
        · rw [he]; simp only [spR, Bool.or_eq_false_iff, beq_eq_false_iff_ne]; omega
        · refine spB_big _ ?_
          obtain rfl | rfl : j = 0 ∨ j = 1 := by omega
          · show 128 ≤ (s.data.toList.getD pos 0).toNat; omega
          · omega
      · refine go 3 (by rw [he]) ?_ (by omega) (fun j hj => ?_) (by omega)
        · rw [he]; simp only [spR, Bool.or_eq_false_iff, beq_eq_false_iff_ne]; omega
        · refine spB_big _ ?_
          obtain rfl | rfl | rfl : j = 0 ∨ j = 1 ∨ j = 2 := by omega
          · show 128 ≤ (s.data.toList.getD pos 0).toNat; omega
          · omega
          · omega
      · refine go 4 (by rw [he]) ?_ (by omega) (fun j hj => ?_) (by omega)
        · rw [he]; simp only [spR, Bool.or_eq_false_iff, beq_eq_false_iff_ne]; omega
        · refine spB_big _ ?_
          obtain rfl | rfl | rfl | rfl : j = 0 ∨ j = 1 ∨ j = 2 ∨ j = 3 := by omega
          · show 128 ≤ (s.data.toList.getD pos 0).toNat; omega
          · omega
          · omega
          · omega
      · by_cases hb : (s.data.toList.getD pos 0).toNat < 128
        · have e2 := Lib.decodeN_ascii (s.data.toList.length - pos) _ (s.data.toList.getD (pos + 1) 0).toNat (s.data.toList.getD (pos + 2) 0).toNat (s.data.toList.getD (pos + 3) 0).toNat hb
          rw [← hd, he] at e2
          have := congrArg Prod.fst e2
          simp only at this
          omega
        · refine go 1 (by rw [he]) (by rw [he]; rfl) (by omega) (fun j hj => ?_) (by omega)
          rw [show j = 0 by omega]
          exact spB_big _ (by show 128 ≤ (s.data.toList.getD pos 0).toNat; omega)
    · exact spans_end s (f + 1) pos st acc hp hlt hst

end Go.Proofs.YtnddkmccagiclaaDoor

/-
  Terms without addresses, their text and its words, and how words are read: the plain mathematics of package term; no program in it.
-/
namespace Go.Proofs.YtnddkmccagiclaaDoor

/-- tellsType. -/
def tells (k : Int) : Bool := k == 7 || k == 9

/-- Which of the words it is. -/
def atWord (x : ByteArray) : List ByteArray → Nat → Option Nat
  | [], _ => none
  | y :: r, i => if y = x then some i else atWord x r (i + 1)

def truthWs : List ByteArray := [⟨#[110, 111]⟩, ⟨#[121, 101, 115]⟩]
def typeWs : List ByteArray := [⟨#[97, 110, 121]⟩, ⟨#[110, 117, 109]⟩, ⟨#[116, 114, 117, 116, 104]⟩]
def kindWs : List ByteArray := [⟨#[97, 100, 100]⟩, ⟨#[108, 101, 115, 115]⟩, ⟨#[105, 102]⟩, ⟨#[102, 117, 110]⟩, ⟨#[99, 97, 108, 108]⟩, ⟨#[97, 115]⟩]
/-- The kind of a word that opens brackets. -/
def kindAt (x : ByteArray) : Option Nat := atWord x kindWs 4

/-- The number that a word tells, as it is printed. -/
def numOf (d : ByteArray) : Option Int :=
  match Lib.atoiAll d.data.toList with
  | .ok v => if (⟨(Lib.itoa v).toArray⟩ : ByteArray) = d then some v else none
  | _ => none

def opB : ByteArray := ⟨#[40]⟩
def clB : ByteArray := ⟨#[41]⟩
def toB : ByteArray := ⟨#[116, 111]⟩

/-- The words behind that one; none: it isn't the first. -/
def behind (x : ByteArray) : List ByteArray → Option (List ByteArray)
  | y :: r => if y = x then some r else none
  | [] => none

/-- The type that the words tell, and the words behind it. -/
def readTy : Nat → List ByteArray → Option (Ty × List ByteArray)
  | 0, _ => none
  | _ + 1, [] => none
  | n + 1, x :: r =>
    if x = opB then
      (behind toB r).bind fun r1 => (readTy n r1).bind fun p => (readTy n p.2).bind fun q => (behind clB q.2).map fun r4 => (⟨3, [p.1, q.1]⟩, r4)
    else (atWord x typeWs 0).map fun (k : Nat) => (Ty.mk (k : Int) [], r)

/-- A term: its kind, its number, its two types, its parts. -/
structure Tm where
  k : Int
  n : Int
  t : Ty
  f : Ty
  l : List Tm

theorem Tm.ind {P : Tm → Prop} (h : ∀ k n t f l, (∀ x, x ∈ l → P x) → P ⟨k, n, t, f, l⟩) : ∀ t, P t
  | ⟨k, n, t, f, l⟩ => h k n t f l fun x _ => Tm.ind h x

def anyY : Ty := ⟨0, []⟩

/-- How many parts a term of a kind has. -/
def partsOf (k : Int) : Nat := if k = 4 ∨ k = 5 ∨ k = 8 then 2 else if k = 6 then 3 else if k = 7 ∨ k = 9 then 1 else 0

/-- So many things, one behind the other. -/
def readN (f : List ByteArray → Option (Tm × List ByteArray)) : Nat → List ByteArray → Option (List Tm × List ByteArray)
  | 0, ws => some ([], ws)
  | m + 1, ws => (f ws).bind fun p => (readN f m p.2).map fun q => (p.1 :: q.1, q.2)

/-- A word that is no bracket. -/
def readWord (x : ByteArray) (r : List ByteArray) : Option (Tm × List ByteArray) :=
  match atWord x truthWs 0 with
  | some b => some (⟨3, (b : Int), anyY, anyY, []⟩, r)
  | none =>
    match x.data.toList with
    | 35 :: d => (numOf ⟨d.toArray⟩).map fun n => (⟨1, n, anyY, anyY, []⟩, r)
    | _ => (numOf x).map fun n => (⟨2, n, anyY, anyY, []⟩, r)

/-- The type that is told behind the word of a kind. -/
def readT (n : Nat) (k : Nat) (ws : List ByteArray) : Option (Ty × List ByteArray) := if tells (k : Int) = true then readTy n ws else some (anyY, ws)

/-- The term that the words tell, and the words behind it. -/
def readTm : Nat → List ByteArray → Option (Tm × List ByteArray)
  | 0, _ => none
  | _ + 1, [] => none
  | n + 1, x :: r =>
    if x = opB then
      match r with
      | [] => none
      | y :: r1 => (kindAt y).bind fun k => (readT n k r1).bind fun p => (readN (readTm n) (partsOf (k : Int)) p.2).bind fun q => (behind clB q.2).map fun r4 => (⟨(k : Int), 0, p.1, anyY, q.1⟩, r4)
    else readWord x r

/-! ### Good -/

def isAnyY (t : Ty) : Bool := relY escSame t anyY

def okNum (ar ins k n : Int) : Bool := if k = 1 then decide (0 ≤ n) && decide (n - ins < ar) else if k = 2 then decide (-1000000 ≤ n) && decide (n ≤ 1000000) else if k = 3 then n == 0 || n == 1 else n == 0

def okTypes (k : Int) (t f : Ty) : Bool := isAnyY f && (if tells k = true then goodY 4 t else isAnyY t)

/-- All that is asked of a term but of its parts. -/
def okTop (ar ins : Int) (x : Tm) : Bool := (decide (1 ≤ x.k) && decide (x.k ≤ 9) && (x.l.length == partsOf x.k)) && (okTypes x.k x.t x.f && okNum ar ins x.k x.n)

def bindL {α : Type} (f : α → Nat → Option Nat) : List α → Nat → Option Nat
  | [], r => some r
  | x :: xs, r => (f x r).bind fun r' => bindL f xs r'

def insOf (k ins : Int) : Int := if k = 7 then ins + 1 else ins

/-- Good, with the room that is left: none: it isn't. -/
def goodS (ar : Int) : Nat → Int → Tm → Nat → Option Nat
  | 0, _, _, _ => none
  | _ + 1, _, _, 0 => none
  | n + 1, ins, x, r + 1 => if okTop ar ins x = true then bindL (fun y r' => goodS ar n (insOf x.k ins) y r') x.l r else none

/-! ### Texts -/

def bw (w : List UInt8) : ByteArray := ⟨w.toArray⟩

theorem bw_data (w : List UInt8) : (bw w).data.toList = w := rfl
theorem bw_inj {a b : List UInt8} (h : bw a = bw b) : a = b := by
  have := congrArg (fun x : ByteArray => x.data.toList) h
  simpa [bw_data] using this
theorem bw_of (x : ByteArray) : bw x.data.toList = x := rfl

def kindW (k : Int) : List UInt8 := if k = 4 then [97, 100, 100] else if k = 5 then [108, 101, 115, 115] else if k = 6 then [105, 102] else if k = 7 then [102, 117, 110] else if k = 8 then [99, 97, 108, 108] else [97, 115]
def typeW (k : Int) : List UInt8 := if k = 1 then [110, 117, 109] else if k = 2 then [116, 114, 117, 116, 104] else [97, 110, 121]
def truthW (n : Int) : List UInt8 := if n = 1 then [121, 101, 115] else [110, 111]

def tyText : Nat → Ty → List UInt8
  | 0, _ => []
  | n + 1, ⟨k, l⟩ => if k = 3 then [40, 116, 111, 32] ++ tyText n (l.getD 0 anyY) ++ [32] ++ tyText n (l.getD 1 anyY) ++ [41] else typeW k

def tyWords : Nat → Ty → List (List UInt8)
  | 0, _ => []
  | n + 1, ⟨k, l⟩ => if k = 3 then [[40], [116, 111]] ++ tyWords n (l.getD 0 anyY) ++ tyWords n (l.getD 1 anyY) ++ [[41]] else [typeW k]

def tmText : Nat → Tm → List UInt8
  | 0, _ => []
  | n + 1, x => if x.k = 1 then 35 :: Lib.itoa x.n else if x.k = 2 then Lib.itoa x.n else if x.k = 3 then truthW x.n else
    40 :: kindW x.k ++ (if tells x.k = true then 32 :: tyText 4 x.t else []) ++ x.l.flatMap (fun y => 32 :: tmText n y) ++ [41]

def tmWords : Nat → Tm → List (List UInt8)
  | 0, _ => []
  | n + 1, x => if x.k = 1 then [35 :: Lib.itoa x.n] else if x.k = 2 then [Lib.itoa x.n] else if x.k = 3 then [truthW x.n] else
    [[40], kindW x.k] ++ (if tells x.k = true then tyWords 4 x.t else []) ++ x.l.flatMap (fun y => tmWords n y) ++ [[41]]

def brB (c : UInt8) : Bool := c == 40 || c == 41

/-- The words of a text: brackets are words, too. -/
def tokW (cur : List UInt8) : List UInt8 → List (List UInt8)
  | [] => flush cur
  | c :: r => if spB c = true then flush cur ++ tokW [] r else if brB c = true then flush cur ++ [[c]] ++ tokW [] r else tokW (cur ++ [c]) r

/-- Spaces around each such byte. -/
def around (c : UInt8) (s : List UInt8) : List UInt8 := s.flatMap fun x => if x = c then [32, c, 32] else [x]

theorem around_cons (c x : UInt8) (s : List UInt8) : around c (x :: s) = (if x = c then [32, c, 32] else [x]) ++ around c s := rfl
theorem around_append (c : UInt8) (a b : List UInt8) : around c (a ++ b) = around c a ++ around c b := by simp [around]

theorem split_tok : ∀ (s cur : List UInt8), splitW cur (around 41 (around 40 s)) = tokW cur s
  | [], cur => rfl
  | c :: r, cur => by
    by_cases h40 : c = 40
    · subst h40
      rw [around_cons, if_pos rfl, around_append]
      have e : around 41 [32, 40, 32] = [32, 40, 32] := rfl
      have e1 : spB 32 = true := rfl
      have e2 : spB 40 = false := rfl
      have e3 : brB 40 = true := rfl
      rw [e]
      simp only [List.cons_append, List.nil_append, splitW, tokW, e1, e2, e3, if_true]
      simp [flush, split_tok r []]
    · rw [around_cons, if_neg h40, around_append]
      by_cases h41 : c = 41
      · subst h41
        have e : around 41 [41] = [32, 41, 32] := rfl
        have e1 : spB 32 = true := rfl
        have e2 : spB 41 = false := rfl
        have e3 : brB 41 = true := rfl
        rw [e]
        simp only [List.cons_append, List.nil_append, splitW, tokW, e1, e2, e3, if_true]
        simp [flush, split_tok r []]
      · have e : around 41 [c] = [c] := by simp [around, h41]
        have eb : brB c = false := by simp [brB, h40, h41]
        rw [e]
        simp only [List.cons_append, List.nil_append, splitW, tokW, eb]
        cases spB c
        · simp [split_tok r (cur ++ [c])]
        · simp [split_tok r []]

def plainW (w : List UInt8) : Prop := w ≠ [] ∧ ∀ c ∈ w, spB c = false ∧ brB c = false
def delim (r : List UInt8) : Prop := r = [] ∨ ∃ c s, r = c :: s ∧ (spB c = true ∨ brB c = true)

theorem tok_run : ∀ (w cur r : List UInt8), (∀ c ∈ w, spB c = false ∧ brB c = false) → tokW cur (w ++ r) = tokW (cur ++ w) r
  | [], cur, r, _ => by simp
  | c :: w, cur, r, h => by
    have hc := h c (by simp)
    rw [List.cons_append, tokW, if_neg (by simp [hc.1]), if_neg (by simp [hc.2]), tok_run w (cur ++ [c]) r (fun d hd => h d (by simp [hd]))]
    simp

theorem tok_delim (cur r : List UInt8) (h : delim r) : tokW cur r = flush cur ++ tokW [] r := by
  rcases h with rfl | ⟨c, s, rfl, h⟩
  · simp [tokW, flush]
  · by_cases hs : spB c = true
    · rw [tokW, if_pos hs, tokW, if_pos hs]
      simp [flush]
    · have hb : brB c = true := by
        rcases h with h | h
        · exact absurd h hs
        · exact h
      rw [tokW, if_neg hs, if_pos hb, tokW, if_neg hs, if_pos hb]
      simp [flush]

theorem tok_plain (w r : List UInt8) (hw : plainW w) (h : delim r) : tokW [] (w ++ r) = w :: tokW [] r := by
  rw [tok_run w [] r hw.2, List.nil_append, tok_delim w r h, flush, if_neg hw.1]
  rfl

theorem tok_space (r : List UInt8) : tokW [] (32 :: r) = tokW [] r := by
  have e1 : spB 32 = true := rfl
  rw [tokW, if_pos e1]; simp [flush]
theorem tok_open (r : List UInt8) : tokW [] (40 :: r) = [40] :: tokW [] r := by
  have e1 : spB 40 = false := rfl
  have e2 : brB 40 = true := rfl
  rw [tokW, if_neg (by simp [e1]), if_pos e2]; simp [flush]
theorem tok_close (r : List UInt8) : tokW [] (41 :: r) = [41] :: tokW [] r := by
  have e1 : spB 41 = false := rfl
  have e2 : brB 41 = true := rfl
  rw [tokW, if_neg (by simp [e1]), if_pos e2]; simp [flush]

theorem delim_space (r : List UInt8) : delim (32 :: r) := .inr ⟨32, r, rfl, .inl rfl⟩
theorem delim_close (r : List UInt8) : delim (41 :: r) := .inr ⟨41, r, rfl, .inr rfl⟩

theorem plain_type (k : Int) : plainW (typeW k) := by
  unfold typeW
  split
  · exact ⟨by simp, by decide⟩
  · split
    · exact ⟨by simp, by decide⟩
    · exact ⟨by simp, by decide⟩
theorem plain_truth (k : Int) : plainW (truthW k) := by
  unfold truthW
  split
  · exact ⟨by simp, by decide⟩
  · exact ⟨by simp, by decide⟩
theorem plain_kind (k : Int) : plainW (kindW k) := by
  unfold kindW
  repeat' split
  all_goals exact ⟨by simp, by decide⟩

theorem tok_ty : ∀ (n : Nat) (t : Ty) (r : List UInt8), goodY n t = true → delim r → tokW [] (tyText n t ++ r) = tyWords n t ++ tokW [] r
  | 0, t, r, h, _ => by simp [goodY] at h
  | n + 1, ⟨k, l⟩, r, h, hr => by
    match l, h with
    | [], h =>
      have hk : k ≠ 3 := by
        intro e; subst e; simp [goodY] at h
      rw [tyText, if_neg hk, tyWords, if_neg hk, tok_plain _ _ (plain_type k) hr]
      rfl
    | [x], h => simp [goodY] at h
    | x :: y :: z :: s, h => simp [goodY] at h
    | [x, y], h =>
      simp only [goodY, Bool.and_eq_true, beq_iff_eq] at h
      obtain ⟨⟨rfl, hx⟩, hy⟩ := h
      rw [tyText, if_pos rfl, tyWords, if_pos rfl]
      have e1 : [40, 116, 111, 32] ++ tyText n ([x, y].getD 0 anyY) ++ [32] ++ tyText n ([x, y].getD 1 anyY) ++ [41] ++ r = 40 :: ([116, 111] ++ (32 :: (tyText n x ++ (32 :: (tyText n y ++ (41 :: r)))))) := by simp
      rw [e1, tok_open, tok_plain _ _ ⟨by simp, by decide⟩ (delim_space _), tok_space, tok_ty n x _ hx (delim_space _), tok_space, tok_ty n y _ hy (delim_close _), tok_close]
      simp

/-! ### Numbers -/

theorem decFrom_app : ∀ (a b : List UInt8) (acc : Nat), Lib.decFrom acc (a ++ b) = (Lib.decFrom acc a).bind fun m => Lib.decFrom m b
  | [], b, acc => rfl
  | c :: a, b, acc => by
    simp only [List.cons_append, Lib.decFrom]
    cases Lib.digitVal c with
    | none => rfl
    | some d => exact decFrom_app a b _

theorem digit_one (d : Nat) (h : d < 10) : Lib.digitVal (UInt8.ofNat (48 + d)) = some d := by
  have e : (UInt8.ofNat (48 + d)).toNat = 48 + d := by rw [UInt8.toNat_ofNat']; omega
  rw [Lib.digitVal, e, if_pos (by omega)]
  simp

theorem dec_digits (u : Nat) : Lib.decFrom 0 (Lib.decDigits u) = some u := by
  induction u using Nat.strongRecOn with
  | _ u ih =>
    by_cases h : u < 10
    · rw [Lib.decDigits, dif_pos h]
      simp only [Lib.decFrom, digit_one u h]
      simp
    · rw [Lib.decDigits, dif_neg h, decFrom_app, ih (u / 10) (by omega)]
      simp only [Option.bind_some, Lib.decFrom, digit_one (u % 10) (by omega)]
      congr 1; omega

theorem digits_are (u : Nat) : ∀ c ∈ Lib.decDigits u, 48 ≤ c.toNat ∧ c.toNat ≤ 57 := by
  intro c hc
  obtain ⟨i, hi, rfl⟩ := List.getElem_of_mem hc
  obtain ⟨d, hd⟩ := Lib.digit_of_decFrom _ 0 u (dec_digits u) i _ (List.getElem?_eq_getElem hi)
  have := Lib.digitVal_eq hd
  exact ⟨this.1, this.2.1⟩

theorem digits_ne (u : Nat) : Lib.decDigits u ≠ [] := by
  intro e
  have := dec_digits u
  rw [e] at this
  rw [Lib.decDigits] at e
  split at e
  · cases e
  · simp at e

theorem decNat_digits (u : Nat) : Lib.decNat (Lib.decDigits u) = some u := by
  have := digits_ne u
  cases h : Lib.decDigits u with
  | nil => exact absurd h this
  | cons c r =>
    rw [Lib.decNat, if_neg (by simp), ← h, dec_digits]

/-- The first byte of a number, and that all of them are signs of numbers. -/
theorem itoa_are (n : Int) : Lib.itoa n ≠ [] ∧ ∀ c ∈ Lib.itoa n, c = 45 ∨ (48 ≤ c.toNat ∧ c.toNat ≤ 57) := by
  unfold Lib.itoa
  split
  · exact ⟨by simp, fun c hc => by
      rcases List.mem_cons.1 hc with rfl | hc
      · exact .inl rfl
      · exact .inr (digits_are _ c hc)⟩
  · exact ⟨digits_ne _, fun c hc => .inr (digits_are _ c hc)⟩

theorem num_sign (c : UInt8) (h : c = 45 ∨ (48 ≤ c.toNat ∧ c.toNat ≤ 57)) : spB c = false ∧ brB c = false ∧ c ≠ 35 ∧ c ≠ 110 ∧ c ≠ 121 := by
  rcases h with rfl | h
  · decide
  · refine ⟨?_, ?_, ?_, ?_, ?_⟩
    · simp only [spB, Bool.or_eq_false_iff, beq_eq_false_iff_ne]
      constructor
      · rintro rfl; simp at h
      · rintro rfl; simp at h
    · simp only [brB, Bool.or_eq_false_iff, beq_eq_false_iff_ne]
      constructor
      · rintro rfl; simp at h
      · rintro rfl; simp at h
    · rintro rfl; simp at h
    · rintro rfl; simp at h
    · rintro rfl; simp at h

theorem plain_itoa (n : Int) : plainW (Lib.itoa n) :=
  ⟨(itoa_are n).1, fun c hc => ⟨(num_sign c ((itoa_are n).2 c hc)).1, (num_sign c ((itoa_are n).2 c hc)).2.1⟩⟩

theorem itoa_short (n : Int) (h : -1000000 ≤ n) (h' : n ≤ 1000000) : (Lib.itoa n).length ≤ 8 := by
  have key : ∀ u : Nat, u ≤ 1000000 → (Lib.decDigits u).length ≤ 7 := by
    intro u hu
    rw [Lib.decDigits_length]
    apply Nat.le_of_not_lt
    intro hl
    have hp : ∀ k, k ≤ 7 → ∀ v : Nat, v < 10 ^ k → 1 ≤ k → Lib.nDigits v ≤ k := by
      intro k
      induction k with
      | zero => intro _ v _ h; omega
      | succ k ih =>
        intro hk v hv _
        by_cases hs : v < 10
        · rw [Lib.nDigits_small hs]; omega
        · rw [Lib.nDigits_big hs]
          rw [Nat.pow_succ] at hv
          have h1 : 1 ≤ k := by
            apply Nat.one_le_iff_ne_zero.2
            rintro rfl
            simp at hv; omega
          have := ih (by omega) (v / 10) (by omega) h1
          omega
    have := hp 7 (by omega) u (by omega) (by omega)
    omega
  unfold Lib.itoa
  split
  · have := key n.natAbs (by omega)
    simp only [List.length_cons]; omega
  · have := key n.toNat (by omega)
    omega

theorem num_itoa (n : Int) (h : -1000000 ≤ n) (h' : n ≤ 1000000) : numOf (bw (Lib.itoa n)) = some n := by
  have hl := itoa_short n h h'
  have ha : Lib.atoiAll (Lib.itoa n) = .ok n := by
    rw [Lib.atoiAll_short _ (by omega)]
    unfold Lib.itoa
    by_cases hn : n < 0
    · rw [if_pos hn]
      have : Lib.atoi (45 :: Lib.decDigits n.natAbs) = (Lib.decNat (Lib.decDigits n.natAbs)).map fun (m : Nat) => -(m : Int) := by simp [Lib.atoi]
      rw [this, decNat_digits]
      simp only [Option.map_some, Lib.NumEnd.ofOption]
      congr 1; omega
    · rw [if_neg hn]
      have hd := digits_are n.toNat
      cases hc : Lib.decDigits n.toNat with
      | nil => exact absurd hc (digits_ne _)
      | cons c r =>
        rw [hc] at hd
        have hc1 := hd c (by simp)
        have h45 : c ≠ 45 := by rintro rfl; simp at hc1
        have h43 : c ≠ 43 := by rintro rfl; simp at hc1
        have : Lib.atoi (c :: r) = (Lib.decNat (c :: r)).map fun (m : Nat) => (m : Int) := by simp [Lib.atoi, h45, h43]
        rw [this, ← hc, decNat_digits]
        simp only [Option.map_some, Lib.NumEnd.ofOption]
        congr 1; omega
  rw [numOf, bw_data, ha]
  exact if_pos rfl

end Go.Proofs.YtnddkmccagiclaaDoor

/-
  What the calls of truthOf, typeKindOf, tellsType and isSpace answer.
-/
namespace Go.Proofs.YtnddkmccagiclaaDoor
open Go.RowKit

set_option maxHeartbeats 400000 in
theorem tells_any (k : Int) (w : World) : Calls Tryd.prog 52 #[.int .i64 k] w fun e w' => e = .returned (.bool (tells k)) ∧ w' = w := by
  cases h7 : (k == 7) with
  | true =>
    go_enter Tryd.func52, Tryd.ntmps52
    go_wp2_with fail
    go_ret
    exact ⟨by simp [tells, h7], rfl⟩
  | false =>
    go_enter Tryd.func52, Tryd.ntmps52
    go_wp2_with fail
    go_ret
    exact ⟨by simp [tells, h7], rfl⟩

/-- What such a call answers: the number and whether it was found. -/
def foundV (o : Option Nat) : Value := .tuple #[.int .i64 ((o.getD 0 : Nat) : Int), .bool o.isSome]

theorem ne_of_beq {x y : ByteArray} (h : (x.toList == y.toList) = false) : x ≠ y := (Lib.bytes_beq_false_iff _ _).1 h

theorem idx84_0 (u v : Value) (w : World) : (Instr.index 84 (.agg #[u, v]) (.int .i64 0)).run Tryd.prog w = .ok u w := by
  simp [Instr.index, run_underlying Tryd.underlying84, go_sem]
theorem idx84_1 (u v : Value) (w : World) : (Instr.index 84 (.agg #[u, v]) (.int .i64 1)).run Tryd.prog w = .ok v w := by
  simp [Instr.index, run_underlying Tryd.underlying84, go_sem]

set_option maxRecDepth 20000 in
set_option maxHeartbeats 1000000 in
theorem truthOf_any (x : ByteArray) (w : World) (hg : Gl w) : Calls Tryd.prog 59 #[.string x] w fun e w' => e = .returned (foundV (atWord x truthWs 0)) ∧ w' = w := by
  have c0 := hg.tw.cell 0
  have c1 := hg.tw.cell 1
  simp only [List.getElem?_toArray, List.getElem?_cons_zero, List.getElem?_cons_succ] at c0 c1
  clear hg
  obtain ⟨b0, h0⟩ : ∃ b, ((⟨#[110, 111]⟩ : ByteArray).toList == x.toList) = b := ⟨_, rfl⟩
  obtain ⟨b1, h1⟩ : ∃ b, ((⟨#[121, 101, 115]⟩ : ByteArray).toList == x.toList) = b := ⟨_, rfl⟩
  have H0 : Hid (((⟨#[110, 111]⟩ : ByteArray).toList == x.toList) = b0) := h0
  have H1 : Hid (((⟨#[121, 101, 115]⟩ : ByteArray).toList == x.toList) = b1) := h1
  have k0 : ([110, 111] == x.toList) = b0 := by rw [← h0, Lib.toList_data ⟨#[110, 111]⟩]
  have k1 : ([121, 101, 115] == x.toList) = b1 := by rw [← h1, Lib.toList_data ⟨#[121, 101, 115]⟩]
  clear h0 h1
  have x0 := idx84_0 (.string ⟨#[110, 111]⟩) (.string ⟨#[121, 101, 115]⟩)
  have x1 := idx84_1 (.string ⟨#[110, 111]⟩) (.string ⟨#[121, 101, 115]⟩)
  go_enter Tryd.func59, Tryd.ntmps59
  go_wp2_with fail
  go_loopg [7] 2 (fun k i wr => ∃ j : Nat, k + j = 2 ∧ i = .int .i64 (j : Int) ∧ wr = w ∧ Hid ((1 ≤ j → b0 = false) ∧ (2 ≤ j → b1 = false)))
  case atStart => exact ⟨0, rfl, rfl, rfl, fun h => absurd h (by omega), fun h => absurd h (by omega)⟩
  case round =>
    obtain ⟨j, hj, rfl, rfl, HJ⟩ := hrel
    obtain rfl | rfl | rfl : j = 0 ∨ j = 1 ∨ j = 2 := by omega
    · cases b0
      · go_wp2_with fail
        go_roundg 1
        case measure => omega
        case rel => exact ⟨1, rfl, rfl, rfl, fun _ => trivial, fun h => absurd h (by omega)⟩
      · go_wp2_with fail
        refine bodyPost_ret (v := .tuple #[.int .i64 0, .bool true]) (by simp [results, Tryd.results59, go_sem]) rfl ⟨?_, rfl⟩
        rw [← (Lib.bytes_beq_iff _ _).1 H0.out]
        rfl
    · obtain rfl := HJ.out.1 (by omega)
      cases b1
      · go_wp2_with fail
        go_roundg 0
        case measure => omega
        case rel => exact ⟨2, rfl, rfl, rfl, fun _ => trivial, fun _ => trivial⟩
      · go_wp2_with fail
        refine bodyPost_ret (v := .tuple #[.int .i64 1, .bool true]) (by simp [results, Tryd.results59, go_sem]) rfl ⟨?_, rfl⟩
        rw [← (Lib.bytes_beq_iff _ _).1 H1.out]
        rfl
    · obtain rfl := HJ.out.1 (by omega)
      obtain rfl := HJ.out.2 (by omega)
      go_wp2_with fail
      refine bodyPost_ret (v := .tuple #[.int .i64 0, .bool false]) (by simp [results, Tryd.results59, go_sem]) rfl ⟨?_, rfl⟩
      simp [foundV, atWord, truthWs, ne_of_beq H0.out, ne_of_beq H1.out]

theorem idx123_0 (u v t : Value) (w : World) : (Instr.index 123 (.agg #[u, v, t]) (.int .i64 0)).run Tryd.prog w = .ok u w := by
  simp [Instr.index, run_underlying Tryd.underlying123, go_sem]
theorem idx123_1 (u v t : Value) (w : World) : (Instr.index 123 (.agg #[u, v, t]) (.int .i64 1)).run Tryd.prog w = .ok v w := by
  simp [Instr.index, run_underlying Tryd.underlying123, go_sem]
theorem idx123_2 (u v t : Value) (w : World) : (Instr.index 123 (.agg #[u, v, t]) (.int .i64 2)).run Tryd.prog w = .ok t w := by
  simp [Instr.index, run_underlying Tryd.underlying123, go_sem]

set_option maxRecDepth 20000 in
set_option maxHeartbeats 1000000 in
theorem typeKindOf_any (x : ByteArray) (w : World) (hg : Gl w) : Calls Tryd.prog 106 #[.string x] w fun e w' => e = .returned (foundV (atWord x typeWs 0)) ∧ w' = w := by
  have c0 := hg.ty.cell 0
  have c1 := hg.ty.cell 1
  have c2 := hg.ty.cell 2
  simp only [List.getElem?_toArray, List.getElem?_cons_zero, List.getElem?_cons_succ] at c0 c1 c2
  clear hg
  obtain ⟨b0, h0⟩ : ∃ b, ((⟨#[97, 110, 121]⟩ : ByteArray).toList == x.toList) = b := ⟨_, rfl⟩
  obtain ⟨b1, h1⟩ : ∃ b, ((⟨#[110, 117, 109]⟩ : ByteArray).toList == x.toList) = b := ⟨_, rfl⟩
  obtain ⟨b2, h2⟩ : ∃ b, ((⟨#[116, 114, 117, 116, 104]⟩ : ByteArray).toList == x.toList) = b := ⟨_, rfl⟩
  have H0 : Hid (((⟨#[97, 110, 121]⟩ : ByteArray).toList == x.toList) = b0) := h0
  have H1 : Hid (((⟨#[110, 117, 109]⟩ : ByteArray).toList == x.toList) = b1) := h1
  have H2 : Hid (((⟨#[116, 114, 117, 116, 104]⟩ : ByteArray).toList == x.toList) = b2) := h2
  have k0 : ([97, 110, 121] == x.toList) = b0 := by rw [← h0, Lib.toList_data ⟨#[97, 110, 121]⟩]
  have k1 : ([110, 117, 109] == x.toList) = b1 := by rw [← h1, Lib.toList_data ⟨#[110, 117, 109]⟩]
  have k2 : ([116, 114, 117, 116, 104] == x.toList) = b2 := by rw [← h2, Lib.toList_data ⟨#[116, 114, 117, 116, 104]⟩]
  clear h0 h1 h2
  have x0 := idx123_0 (.string ⟨#[97, 110, 121]⟩) (.string ⟨#[110, 117, 109]⟩) (.string ⟨#[116, 114, 117, 116, 104]⟩)
  have x1 := idx123_1 (.string ⟨#[97, 110, 121]⟩) (.string ⟨#[110, 117, 109]⟩) (.string ⟨#[116, 114, 117, 116, 104]⟩)
  have x2 := idx123_2 (.string ⟨#[97, 110, 121]⟩) (.string ⟨#[110, 117, 109]⟩) (.string ⟨#[116, 114, 117, 116, 104]⟩)
  go_enter Tryd.func106, Tryd.ntmps106
  go_wp2_with fail
  go_loopg [7] 3 (fun k i wr => ∃ j : Nat, k + j = 3 ∧ i = .int .i64 (j : Int) ∧ wr = w ∧ Hid ((1 ≤ j → b0 = false) ∧ (2 ≤ j → b1 = false) ∧ (3 ≤ j → b2 = false)))
  case atStart => exact ⟨0, rfl, rfl, rfl, fun h => absurd h (by omega), fun h => absurd h (by omega), fun h => absurd h (by omega)⟩
  case round =>
    obtain ⟨j, hj, rfl, rfl, HJ⟩ := hrel
    obtain rfl | rfl | rfl | rfl : j = 0 ∨ j = 1 ∨ j = 2 ∨ j = 3 := by omega
    · cases b0
      · go_wp2_with fail
        go_roundg 2
        case measure => omega
        case rel => exact ⟨1, rfl, rfl, rfl, fun _ => trivial, fun h => absurd h (by omega), fun h => absurd h (by omega)⟩
      · go_wp2_with fail
        refine bodyPost_ret (v := .tuple #[.int .i64 0, .bool true]) (by simp [results, Tryd.results106, go_sem]) rfl ⟨?_, rfl⟩
        rw [← (Lib.bytes_beq_iff _ _).1 H0.out]
        rfl
    · obtain rfl := HJ.out.1 (by omega)
      cases b1
      · go_wp2_with fail
        go_roundg 1
        case measure => omega
        case rel => exact ⟨2, rfl, rfl, rfl, fun _ => trivial, fun _ => trivial, fun h => absurd h (by omega)⟩
      · go_wp2_with fail
        refine bodyPost_ret (v := .tuple #[.int .i64 1, .bool true]) (by simp [results, Tryd.results106, go_sem]) rfl ⟨?_, rfl⟩
        rw [← (Lib.bytes_beq_iff _ _).1 H1.out]
        rfl
    · obtain rfl := HJ.out.1 (by omega)
      obtain rfl := HJ.out.2.1 (by omega)
      cases b2
      · go_wp2_with fail
        go_roundg 0
        case measure => omega
        case rel => exact ⟨3, rfl, rfl, rfl, fun _ => trivial, fun _ => trivial, fun _ => trivial⟩
      · go_wp2_with fail
        refine bodyPost_ret (v := .tuple #[.int .i64 2, .bool true]) (by simp [results, Tryd.results106, go_sem]) rfl ⟨?_, rfl⟩
        rw [← (Lib.bytes_beq_iff _ _).1 H2.out]
        rfl
    · obtain rfl := HJ.out.1 (by omega)
      obtain rfl := HJ.out.2.1 (by omega)
      obtain rfl := HJ.out.2.2 (by omega)
      go_wp2_with fail
      refine bodyPost_ret (v := .tuple #[.int .i64 0, .bool false]) (by simp [results, Tryd.results106, go_sem]) rfl ⟨?_, rfl⟩
      simp [foundV, atWord, typeWs, ne_of_beq H0.out, ne_of_beq H1.out, ne_of_beq H2.out]
end Go.Proofs.YtnddkmccagiclaaDoor

/-
  Trees that stand for Go values of the type 'Term', with the addresses at which their lists lie, and what it means that such a tree lies in a world; no program in it.
-/
namespace Go.Proofs.YtnddkmccagiclaaDoor
open Go.RowKit

/-- A term: its kind, its number, its types, where its list lies, the list's capacity, its parts. -/
structure TT where
  k : Int
  n : Int
  t : Tr
  f : Tr
  a : Option Addr
  c : Nat
  l : List TT

theorem TT.ind {P : TT → Prop} (h : ∀ k n t f a c l, (∀ x, x ∈ l → P x) → P ⟨k, n, t, f, a, c, l⟩) : ∀ t, P t
  | ⟨k, n, t, f, a, c, l⟩ => h k n t f a c l fun x _ => TT.ind h x

def TT.tm : TT → Tm
  | ⟨k, n, t, f, _, _, l⟩ => ⟨k, n, t.ty, f.ty, l.map fun x => x.tm⟩

theorem TT.tm_mk (k n : Int) (t f : Tr) (a : Option Addr) (c : Nat) (l : List TT) : (TT.mk k n t f a c l).tm = ⟨k, n, t.ty, f.ty, l.map TT.tm⟩ := by
  rw [TT.tm]

theorem TT.tm_k (x : TT) : x.tm.k = x.k := by cases x; rw [TT.tm_mk]
theorem TT.tm_n (x : TT) : x.tm.n = x.n := by cases x; rw [TT.tm_mk]
theorem TT.tm_t (x : TT) : x.tm.t = x.t.ty := by cases x; rw [TT.tm_mk]
theorem TT.tm_f (x : TT) : x.tm.f = x.f.ty := by cases x; rw [TT.tm_mk]
theorem TT.tm_l (x : TT) : x.tm.l = x.l.map TT.tm := by cases x; rw [TT.tm_mk]

/-- The value. -/
def TT.ag (x : TT) : Value := .agg #[.int .i64 x.k, .int .i64 x.n, .int .i64 x.t.k, .slice x.t.a x.t.l.length x.t.c, .int .i64 x.f.k, .slice x.f.a x.f.l.length x.f.c, .slice x.a x.l.length x.c]

/-- Its seven cells lie there. -/
structure At7 (w : World) (b o : Nat) (x : TT) : Prop where
  c0 : w.cell? ⟨b, o, none⟩ = some (.int .i64 x.k)
  c1 : w.cell? ⟨b, o + 1, none⟩ = some (.int .i64 x.n)
  c2 : w.cell? ⟨b, o + 2, none⟩ = some (.int .i64 x.t.k)
  c3 : w.cell? ⟨b, o + 3, none⟩ = some (.slice x.t.a x.t.l.length x.t.c)
  c4 : w.cell? ⟨b, o + 4, none⟩ = some (.int .i64 x.f.k)
  c5 : w.cell? ⟨b, o + 5, none⟩ = some (.slice x.f.a x.f.l.length x.f.c)
  c6 : w.cell? ⟨b, o + 6, none⟩ = some (.slice x.a x.l.length x.c)

theorem At7.of {w w' : World} {b o : Nat} {x : TT} (h : At7 w b o x) (e : ∀ i, w'.cell? ⟨b, i, none⟩ = w.cell? ⟨b, i, none⟩) : At7 w' b o x :=
  ⟨(e _).trans h.c0, (e _).trans h.c1, (e _).trans h.c2, (e _).trans h.c3, (e _).trans h.c4, (e _).trans h.c5, (e _).trans h.c6⟩

theorem At7.lt {w : World} {b o : Nat} {x : TT} (h : At7 w b o x) : b < w.heap.size := World.block_lt_of_cell? _ _ h.c0

theorem At7.below {w w' : World} {b o : Nat} {x : TT} (hb : Below w.heap.size w w') (h : At7 w b o x) : At7 w' b o x :=
  h.of fun _ => hb.cell (p := ⟨b, _, none⟩) h.lt

/-- The term's types and its parts lie in the world. -/
def TT.In (w : World) : TT → Prop
  | ⟨_, _, t, f, a, _, l⟩ => t.In w ∧ f.In w ∧ (∀ j (h : j < l.length), ∃ b o, a = some ⟨b, o, none⟩ ∧ At7 w b (o + j * 7) l[j]) ∧ ∀ x, x ∈ l → x.In w

theorem TT.In_mk {w : World} {k n : Int} {t f : Tr} {a : Option Addr} {c : Nat} {l : List TT} : (TT.mk k n t f a c l).In w ↔ t.In w ∧ f.In w ∧ (∀ j (h : j < l.length), ∃ b o, a = some ⟨b, o, none⟩ ∧ At7 w b (o + j * 7) l[j]) ∧ ∀ x, x ∈ l → x.In w := by
  rw [TT.In]

theorem TT.In.t {w : World} {x : TT} (h : x.In w) : x.t.In w := by cases x; exact (TT.In_mk.1 h).1
theorem TT.In.f {w : World} {x : TT} (h : x.In w) : x.f.In w := by cases x; exact (TT.In_mk.1 h).2.1

/-- Part j: where it lies. -/
theorem TT.In.part {w : World} {x : TT} (h : x.In w) (j : Nat) (hj : j < x.l.length) : ∃ b o, x.a = some ⟨b, o, none⟩ ∧ At7 w b (o + j * 7) x.l[j] ∧ x.l[j].In w := by
  obtain ⟨k, n, t, f, a, c, l⟩ := x
  obtain ⟨_, _, hc, hi⟩ := TT.In_mk.1 h
  obtain ⟨b, o, e, c0⟩ := hc j hj
  exact ⟨b, o, e, c0, hi _ (List.getElem_mem hj)⟩

theorem TT.In.mem {w : World} {x y : TT} (h : x.In w) (hy : y ∈ x.l) : y.In w := by
  obtain ⟨k, n, t, f, a, c, l⟩ := x
  exact (TT.In_mk.1 h).2.2.2 y hy

theorem TT.In.below {w w' : World} (hb : Below w.heap.size w w') {x : TT} : x.In w → x.In w' := by
  induction x using TT.ind with
  | h k n t f a c l ih =>
    intro h
    obtain ⟨ht, hf, hc, hi⟩ := TT.In_mk.1 h
    refine TT.In_mk.2 ⟨ht.below hb, hf.below hb, fun j hj => ?_, fun x hx => ih x hx (hi x hx)⟩
    obtain ⟨b, o, e, c0⟩ := hc j hj
    exact ⟨b, o, e, c0.below hb⟩

/-- The blocks in which its types and parts lie are of this kind. -/
def TT.Bl (P : Nat → Prop) : TT → Prop
  | ⟨_, _, t, f, a, _, l⟩ => t.Bl P ∧ f.Bl P ∧ (l ≠ [] → ∀ x, a = some x → P x.block) ∧ ∀ x, x ∈ l → x.Bl P

theorem TT.Bl_mk {P : Nat → Prop} {k n : Int} {t f : Tr} {a : Option Addr} {c : Nat} {l : List TT} : (TT.mk k n t f a c l).Bl P ↔ t.Bl P ∧ f.Bl P ∧ (l ≠ [] → ∀ x, a = some x → P x.block) ∧ ∀ x, x ∈ l → x.Bl P := by
  rw [TT.Bl]

theorem TT.Bl.t {P : Nat → Prop} {x : TT} (h : x.Bl P) : x.t.Bl P := by cases x; exact (TT.Bl_mk.1 h).1
theorem TT.Bl.f {P : Nat → Prop} {x : TT} (h : x.Bl P) : x.f.Bl P := by cases x; exact (TT.Bl_mk.1 h).2.1
theorem TT.Bl.mem {P : Nat → Prop} {x y : TT} (h : x.Bl P) (hy : y ∈ x.l) : y.Bl P := by
  obtain ⟨k, n, t, f, a, c, l⟩ := x
  exact (TT.Bl_mk.1 h).2.2.2 y hy
theorem TT.Bl.own {P : Nat → Prop} {x : TT} (h : x.Bl P) (hl : x.l ≠ []) (y : Addr) (hy : x.a = some y) : P y.block := by
  obtain ⟨k, n, t, f, a, c, l⟩ := x
  exact (TT.Bl_mk.1 h).2.2.1 hl y hy

theorem TT.Bl.mono {P Q : Nat → Prop} (hPQ : ∀ b, P b → Q b) {x : TT} : x.Bl P → x.Bl Q := by
  induction x using TT.ind with
  | h k n t f a c l ih =>
    intro h
    obtain ⟨ht, hf, h1, h2⟩ := TT.Bl_mk.1 h
    exact TT.Bl_mk.2 ⟨ht.mono hPQ, hf.mono hPQ, fun hl x hx => hPQ _ (h1 hl x hx), fun x hx => ih x hx (h2 x hx)⟩

theorem TT.Bl.and {P Q : Nat → Prop} {x : TT} : x.Bl P → x.Bl Q → x.Bl (fun b => P b ∧ Q b) := by
  induction x using TT.ind with
  | h k n t f a c l ih =>
    intro h g
    obtain ⟨ht, hf, h1, h2⟩ := TT.Bl_mk.1 h
    obtain ⟨gt, gf, g1, g2⟩ := TT.Bl_mk.1 g
    exact TT.Bl_mk.2 ⟨ht.and gt, hf.and gf, fun hl x hx => ⟨h1 hl x hx, g1 hl x hx⟩, fun x hx => ih x hx (h2 x hx) (g2 x hx)⟩

theorem TT.In.bl {w : World} {x : TT} : x.In w → x.Bl (· < w.heap.size) := by
  induction x using TT.ind with
  | h k n t f a c l ih =>
    intro h
    obtain ⟨ht, hf, hc, hi⟩ := TT.In_mk.1 h
    refine TT.Bl_mk.2 ⟨ht.bl, hf.bl, fun hl x hx => ?_, fun x hx => ih x hx (hi x hx)⟩
    obtain ⟨b, o, e, c0⟩ := hc 0 (List.length_pos_iff.2 hl)
    rw [e] at hx
    have := Option.some.inj hx
    subst this
    exact c0.lt

/-- What lies in blocks that read as they did lies there still. -/
theorem TT.In.congr {w w' : World} {P : Nat → Prop} (hP : ∀ b, P b → ∀ o, w'.cell? ⟨b, o, none⟩ = w.cell? ⟨b, o, none⟩) {x : TT} : x.Bl P → x.In w → x.In w' := by
  induction x using TT.ind with
  | h k n t f a c l ih =>
    intro hb h
    obtain ⟨ht, hf, hc, hi⟩ := TT.In_mk.1 h
    obtain ⟨bt, bf, b1, b2⟩ := TT.Bl_mk.1 hb
    refine TT.In_mk.2 ⟨ht.congr hP bt, hf.congr hP bf, fun j hj => ?_, fun x hx => ih x hx (b2 x hx) (hi x hx)⟩
    obtain ⟨b, o, e, c0⟩ := hc j hj
    have hx : P b := b1 (fun e => by rw [e] at hj; simp at hj) _ e
    exact ⟨b, o, e, c0.of (hP b hx)⟩

theorem Tr.In.keptR {w w' : World} {R : Nat} {t : Tr} (h : t.In w) (hk : Kept R none w w') (hb : t.Bl (· ≠ R)) : t.In w' := by
  refine h.congr (P := fun b => b < w.heap.size ∧ b ≠ R) ?_ (h.bl.and hb)
  rintro b ⟨h1, h2⟩ o
  exact World.cell?_of_block (a := ⟨b, o, none⟩) (hk.block b h1 h2 (by simp))

theorem TT.In.keptR {w w' : World} {R : Nat} {x : TT} (h : x.In w) (hk : Kept R none w w') (hb : x.Bl (· ≠ R)) : x.In w' := by
  refine h.congr (P := fun b => b < w.heap.size ∧ b ≠ R) ?_ (h.bl.and hb)
  rintro b ⟨h1, h2⟩ o
  exact World.cell?_of_block (a := ⟨b, o, none⟩) (hk.block b h1 h2 (by simp))

theorem At7.keptR {w w' : World} {R b o : Nat} {x : TT} (h : At7 w b o x) (hk : Kept R none w w') (hb : b ≠ R) : At7 w' b o x :=
  h.of fun i => World.cell?_of_block (a := ⟨b, i, none⟩) (hk.block b h.lt hb (by simp))

/-- A term without parts and types. -/
def tleaf (k n : Int) : TT := ⟨k, n, ⟨0, none, 0, []⟩, ⟨0, none, 0, []⟩, none, 0, []⟩
theorem tleaf_in (k n : Int) (w : World) : (tleaf k n).In w := TT.In_mk.2 ⟨Tr.In_nil _ _ _ _, Tr.In_nil _ _ _ _, fun j h => absurd h (by simp), fun t h => absurd h (by simp)⟩
theorem tleaf_bl (k n : Int) (P : Nat → Prop) : (tleaf k n).Bl P := TT.Bl_mk.2 ⟨Tr.Bl_nil _ _ _ _, Tr.Bl_nil _ _ _ _, fun h => absurd rfl h, fun t h => absurd h (by simp)⟩
theorem tleaf_tm (k n : Int) : (tleaf k n).tm = ⟨k, n, anyY, anyY, []⟩ := by simp [tleaf, TT.tm_mk, Tr.ty_mk, anyY]
end Go.Proofs.YtnddkmccagiclaaDoor
