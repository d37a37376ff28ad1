/-
  What the calls of (*reader).readType and (*reader).readTypeInBrackets do: the type that the words tell, or something went wrong.
-/
import Derived.Test.YtibjnkpmnimgoaaDoorLook
import Derived.Test.YtibjnkpmnimgoaaDoorTerm
namespace Go.Proofs.YtibjnkpmnimgoaaDoor
open Go.RowKit

/-- The state behind a step: the words left, or none and something went wrong. -/
def After (R : Nat) (b : Bool) (o : Option (List ByteArray)) (w' : World) : Prop := (∃ r, o = some r ∧ RS R r b w') ∨ (o = none ∧ RS R [] true w')

theorem want_any (R : Nat) (word : ByteArray) (hw : (⟨#[]⟩ : ByteArray) ≠ word) (ws : List ByteArray) (b : Bool) (w : World) (h : RS R ws b w) :
    Calls Tryd.prog 86 #[.pointer (some ⟨R, 0, none⟩), .string word] w fun e w' => e = .returned (.tuple #[]) ∧ After R b (behind word ws) w' ∧ Kept R none w w' := by
  cases ws with
  | nil =>
    refine (want_nil R word hw b w h).mono ?_
    rintro e w' ⟨rfl, hr, hk⟩
    exact ⟨rfl, .inr ⟨rfl, hr⟩, hk⟩
  | cons x r =>
    refine (want_walk R x word r b w h).mono ?_
    rintro e w' ⟨rfl, ⟨hx, hr⟩ | ⟨hx, hr⟩, hk⟩
    · exact ⟨rfl, .inl ⟨r, by simp [behind, hx], hr⟩, hk⟩
    · exact ⟨rfl, .inr ⟨by simp [behind, hx], hr⟩, hk⟩

/-- What the call leaves: a tree, and the state. -/
def TyPost (R : Nat) (b : Bool) (o : Option (Ty × List ByteArray)) (w : World) (e : Ending) (w' : World) : Prop :=
  ∃ t : Tr, e = .returned (.agg #[.int .i64 t.k, .slice t.a t.l.length t.c]) ∧ t.In w' ∧ t.Bl (w.heap.size ≤ ·) ∧ Kept R none w w' ∧ After R b (o.map (·.2)) w' ∧ ∀ p, o = some p → t.ty = p.1

theorem set_two {k : Nat} {w : World} {u v u' v' : Value} (h0 : w.cell? ⟨k, 0, none⟩ = some u') (h1 : w.cell? ⟨k, 1, none⟩ = some v') :
    ((w.setCell ⟨k, 0, none⟩ u).setCell ⟨k, 1, none⟩ v).cell? ⟨k, 0, none⟩ = some u ∧ ((w.setCell ⟨k, 0, none⟩ u).setCell ⟨k, 1, none⟩ v).cell? ⟨k, 1, none⟩ = some v := by
  constructor
  · rw [World.cell?_setCell_other _ _ _ _ (by simp)]
    exact World.cell?_setCell_same _ _ _ h0
  · refine World.cell?_setCell_same _ _ _ (u := v') ?_
    rw [World.cell?_setCell_other _ _ _ _ (by simp)]
    exact h1

theorem kept_set2 {R k : Nat} {w w' : World} {u v : Value} (h : Kept R none w w') (hk : w.heap.size ≤ k) : Kept R none w ((w'.setCell ⟨k, 0, none⟩ u).setCell ⟨k, 1, none⟩ v) :=
  ⟨h.os, h.tape, h.output, by have := h.size; simpa [World.setCell] using this, fun q hq h1 h2 => by
    have hn : q ≠ k := by omega
    rw [Below.heap_setCell _ _ _ _ hn, Below.heap_setCell _ _ _ _ hn]
    exact h.block q hq h1 h2⟩

set_option maxRecDepth 20000 in
set_option maxHeartbeats 1000000 in
/-- (*reader).readType at a word that opens no brackets. -/
theorem readType_word (R n : Nat) (x : ByteArray) (r : List ByteArray) (hx : x ≠ opB) (b : Bool) (w : World) (hg : Gl w) (hR : 10 ≤ R) (h : RS R (x :: r) b w) :
    Calls Tryd.prog 85 #[.pointer (some ⟨R, 0, none⟩)] w (TyPost R b (readTy (n + 1) (x :: r)) w) := by
  have hb0 : Below w.heap.size w (w.alloc (.cells #[.int .i64 0, .slice none 0 0] 24)) := (Below.refl _ _).alloc (Nat.le_refl _) _
  have HN : Hid (Calls Tryd.prog 57 #[.pointer (some ⟨R, 0, none⟩)] (w.alloc (.cells #[.int .i64 0, .slice none 0 0] 24)) fun e w' => e = .returned (.string x) ∧ RS R r b w' ∧ Kept R none (w.alloc (.cells #[.int .i64 0, .slice none 0 0] 24)) w') := next_cons R x r b _ (h.below hb0)
  have hRl := h.lt
  have hq : (x.toList == [40]) = false := by
    have := (Lib.bytes_beq_false_iff x opB).2 hx
    rw [opB, Lib.toList_data ⟨#[40]⟩] at this
    exact this
  have HG : Hid (Gl (w.alloc (.cells #[.int .i64 0, .slice none 0 0] 24))) := hg.below hb0
  have HX : Hid (readTy (n + 1) (x :: r) = (atWord x typeWs 0).map fun (k : Nat) => (Ty.mk (k : Int) [], r)) := by
    have e : readTy (n + 1) (x :: r) = if x = opB then (behind toB r).bind fun r1 => (readTy n r1).bind fun p => (readTy n p.2).bind fun q => (behind clB q.2).map fun r4 => (⟨3, [p.1, q.1]⟩, r4) else (atWord x typeWs 0).map fun (k : Nat) => (Ty.mk (k : Int) [], r) := rfl
    exact e.trans (if_neg hx)
  clear h hx hg
  go_enter Tryd.func85, Tryd.ntmps85
  go_wp2_with fail
  refine HN.out.mono ?_
  rintro e w1 ⟨rfl, hr, hk⟩
  have z0 : w1.cell? ⟨w.heap.size, 0, none⟩ = some (.int .i64 0) := hk.cell (by simp [go_sem]) (by omega)
  have z1 : w1.cell? ⟨w.heap.size, 1, none⟩ = some (.slice none 0 0) := hk.cell (by simp [go_sem]) (by omega)
  have hzb := hk.block w.heap.size (by simp) (by omega) (by simp)
  have z2 : w1.frozen? ⟨w.heap.size, 0, none⟩ = false := (World.frozen?_of_block (a := ⟨w.heap.size, 0, none⟩) hzb).trans (by simp [go_sem])
  have z3 : w1.frozen? ⟨w.heap.size, 1, none⟩ = false := (World.frozen?_of_block (a := ⟨w.heap.size, 1, none⟩) hzb).trans (by simp [go_sem])
  have HG1 : Hid (Gl w1) := HG.out.kept hR hk
  have HK : Hid (Kept R none w w1) := (Kept.of_below hb0).trans hk
  have HR : Hid (RS R r b w1) := hr
  have hs1 : w.heap.size < w1.heap.size := World.block_lt_of_cell? _ _ z0
  clear hk hr hzb HN HG
  cases ha : atWord x typeWs 0 with
  | none =>
    have HT : Hid (Calls Tryd.prog 106 #[.string x] w1 fun e w' => e = .returned (.tuple #[.int .i64 0, .bool false]) ∧ w' = w1) := by
      have := typeKindOf_any x w1 HG1.out
      rw [ha] at this
      exact this
    have HO : Hid (readTy (n + 1) (x :: r) = none) := by show _ = _; rw [HX.out, ha]; rfl
    have HF : Hid (Calls Tryd.prog 83 #[.pointer (some ⟨R, 0, none⟩)] w1 fun e w' => e = .returned (.tuple #[]) ∧ RS R [] true w' ∧ Kept R none w1 w') := fail_any R r b w1 HR.out
    clear ha HX HG1
    go_wp2_with fail
    refine HT.out.mono ?_
    rintro e w2 ⟨rfl, rfl⟩
    go_wp2_with fail
    refine HF.out.mono ?_
    rintro e w3 ⟨rfl, hr3, hk3⟩
    have hne : w.heap.size ≠ R := by omega
    have y0 := hk3.cell z0 hne
    have y1 := hk3.cell z1 hne
    have hyb := hk3.block w.heap.size hs1 hne (by simp)
    have y2 := (World.frozen?_of_block (a := ⟨w.heap.size, 0, none⟩) hyb).trans z2
    have y3 := (World.frozen?_of_block (a := ⟨w.heap.size, 1, none⟩) hyb).trans z3
    have HR3 : Hid (RS R [] true w3 ∧ Kept R none w w3) := ⟨hr3, HK.out.trans hk3⟩
    clear hr3 hk3 hyb z0 z1 z2 z3 HF HT HR HK
    go_wp2_with fail
    refine bodyPost_ret (v := .agg #[.int .i64 0, .slice none 0 0]) ?_ rfl ⟨leaf 0, rfl, leaf_in _ _, leaf_bl _ _, ?_, ?_, ?_⟩
    · have hc := set_two (u := .int .i64 0) (v := .slice none 0 0) y0 y1
      simp [results, Tryd.results85, go_sem, hc.1, hc.2]
    · exact kept_set2 HR3.out.2 (Nat.le_refl _)
    · exact .inr ⟨by rw [HO.out]; rfl, HR3.out.1.set2 (by omega)⟩
    · intro p hp; rw [HO.out] at hp; cases hp
  | some k =>
    have HT : Hid (Calls Tryd.prog 106 #[.string x] w1 fun e w' => e = .returned (.tuple #[.int .i64 (k : Int), .bool true]) ∧ w' = w1) := by
      have := typeKindOf_any x w1 HG1.out
      rw [ha] at this
      exact this
    have HO : Hid (readTy (n + 1) (x :: r) = some (⟨(k : Int), []⟩, r)) := by show _ = _; rw [HX.out, ha]; rfl
    clear ha HX HG1
    go_wp2_with fail
    refine HT.out.mono ?_
    rintro e w2 ⟨rfl, rfl⟩
    go_wp2_with fail
    refine bodyPost_ret (v := .agg #[.int .i64 (k : Int), .slice none 0 0]) ?_ rfl ⟨leaf (k : Int), rfl, leaf_in _ _, leaf_bl _ _, ?_, ?_, ?_⟩
    · have hc := set_two (u := .int .i64 (k : Int)) (v := .slice none 0 0) z0 z1
      simp [results, Tryd.results85, go_sem, hc.1, hc.2]
    · exact kept_set2 HK.out (Nat.le_refl _)
    · exact .inl ⟨r, by rw [HO.out]; rfl, HR.out.set2 (by omega)⟩
    · intro p hp; rw [HO.out] at hp; cases hp; simp [leaf, Tr.ty_mk]
end Go.Proofs.YtibjnkpmnimgoaaDoor
