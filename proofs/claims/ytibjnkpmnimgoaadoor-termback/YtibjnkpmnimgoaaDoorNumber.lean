/-
  What the call of (*reader).number does at a word.
-/
import Derived.Test.YtibjnkpmnimgoaaDoorLook
import Derived.Test.YtibjnkpmnimgoaaDoorShelf
namespace Go.Proofs.YtibjnkpmnimgoaaDoor
open Go.RowKit

def NumPost (R : Nat) (ws : List ByteArray) (b : Bool) (d : ByteArray) (w : World) (e : Ending) (w' : World) : Prop :=
  ∃ n : Int, e = .returned (.int .i64 n) ∧ ((numOf d = some n ∧ RS R ws b w') ∨ (numOf d = none ∧ RS R [] true w')) ∧ Kept R none w w'

theorem Gl.pow {w : World} (h : Gl w) : Lib.TabIs Tryd.prog w "internal/strconv.uint64pow10" .u64 Lib.pow10Tab := by
  obtain ⟨t, fr, h⟩ := h.pw
  have hg : Tryd.prog.globalNamed "internal/strconv.uint64pow10" = some 4 := by kernel_rfl
  simp only [Lib.TabIs, World.var?, hg, Option.bind_some, h]

set_option maxRecDepth 20000 in
set_option maxHeartbeats 1000000 in
theorem number_bad (R : Nat) (ws : List ByteArray) (b : Bool) (d : ByteArray) (w : World) (h : RS R ws b w) (hn : Hid (numOf d = none))
    (HA : Hid (Calls Tryd.prog 88 #[.string d] w fun e w' => ∃ (n : Int) (N : Nat), e = .returned (.tuple #[.int .i64 n, .iface 162 (.pointer (some ⟨N, 0, none⟩))]) ∧ Below w.heap.size w w')) :
    Calls Tryd.prog 61 #[.pointer (some ⟨R, 0, none⟩), .string d] w (NumPost R ws b d w) := by
  go_enter Tryd.func61, Tryd.ntmps61
  go_wp2_with fail
  refine HA.out.mono ?_
  rintro e w1 ⟨n, N, rfl, hb⟩
  have HF : Hid (Calls Tryd.prog 83 #[.pointer (some ⟨R, 0, none⟩)] w1 fun e w' => e = .returned (.tuple #[]) ∧ RS R [] true w' ∧ Kept R none w1 w') := fail_any R ws b w1 (h.below hb)
  have HB : Hid (Kept R none w w1) := Kept.of_below hb
  clear hb HA h
  go_wp2_with fail
  refine HF.out.mono ?_
  rintro e w2 ⟨rfl, hr, hk⟩
  have HR : Hid (RS R [] true w2 ∧ Kept R none w w2) := ⟨hr, HB.out.trans hk⟩
  clear hr hk HF HB
  go_wp2_with fail
  go_ret
  exact ⟨0, rfl, .inr ⟨hn.out, HR.out.1⟩, HR.out.2⟩

set_option maxRecDepth 20000 in
set_option maxHeartbeats 1000000 in
theorem number_ok (R : Nat) (ws : List ByteArray) (b : Bool) (d : ByteArray) (v : Int) (w : World) (h : RS R ws b w)
    (HA : Hid (Calls Tryd.prog 88 #[.string d] w fun e w' => e = .returned (.tuple #[.int .i64 v, .nilIface]) ∧ Below w.heap.size w w'))
    (HI : Hid (∀ W, Below w.heap.size w W → Calls Tryd.prog 51 #[.int .i64 v] W fun e w' => e = .returned (.string ⟨(Lib.itoa v).toArray⟩) ∧ Below W.heap.size W w'))
    (HO : Hid (numOf d = if (⟨(Lib.itoa v).toArray⟩ : ByteArray) = d then some v else none)) :
    Calls Tryd.prog 61 #[.pointer (some ⟨R, 0, none⟩), .string d] w (NumPost R ws b d w) := by
  obtain ⟨s, hs⟩ : ∃ s : ByteArray, s = ⟨(Lib.itoa v).toArray⟩ := ⟨_, rfl⟩
  rw [← hs] at HI HO
  clear hs
  by_cases hd : s = d
  · have hn : Hid (numOf d = some v) := by show _ = _; rw [HO.out, if_pos hd]
    subst hd
    clear HO
    go_enter Tryd.func61, Tryd.ntmps61
    go_wp2_with fail
    refine HA.out.mono ?_
    rintro e w1 ⟨rfl, hb⟩
    have HB : Hid (Below w.heap.size w w1) := hb
    clear hb HA
    go_wp2_with fail
    refine (HI.out _ HB.out).mono ?_
    rintro e w2 ⟨rfl, hb⟩
    have HB2 : Hid (Below w.heap.size w w2) := HB.out.trans (hb.mono HB.out.size)
    have HR : Hid (RS R ws b w2) := h.below HB2.out
    clear hb HB h HI
    go_wp2_with fail
    go_ret
    exact ⟨v, rfl, .inl ⟨hn.out, HR.out⟩, Kept.of_below HB2.out⟩
  · have hn : Hid (numOf d = none) := by show _ = _; rw [HO.out, if_neg hd]
    have hb1 : (s.toList == d.toList) = false := (Lib.bytes_beq_false_iff _ _).2 hd
    have hb2 : (!s.toList == d.toList) = true := by rw [hb1]; rfl
    clear HO hd
    go_enter Tryd.func61, Tryd.ntmps61
    go_wp2_with fail
    refine HA.out.mono ?_
    rintro e w1 ⟨rfl, hb⟩
    have HB : Hid (Below w.heap.size w w1) := hb
    clear hb HA
    go_wp2_with fail
    refine (HI.out _ HB.out).mono ?_
    rintro e w2 ⟨rfl, hb⟩
    have HB2 : Hid (Below w.heap.size w w2) := HB.out.trans (hb.mono HB.out.size)
    have HF : Hid (Calls Tryd.prog 83 #[.pointer (some ⟨R, 0, none⟩)] w2 fun e w' => e = .returned (.tuple #[]) ∧ RS R [] true w' ∧ Kept R none w2 w') := fail_any R ws b w2 (h.below HB2.out)
    clear hb HB h HI
    go_wp2_with fail
    refine HF.out.mono ?_
    rintro e w3 ⟨rfl, hr, hk⟩
    have HR : Hid (RS R [] true w3 ∧ Kept R none w w3) := ⟨hr, (Kept.of_below HB2.out).trans hk⟩
    clear hr hk HF HB2
    go_wp2_with fail
    go_ret
    exact ⟨0, rfl, .inr ⟨hn.out, HR.out.1⟩, HR.out.2⟩

theorem below_grew (w : World) (k : Nat) (os : Array Obj) : Below w.heap.size w (Sort.grow (w.drewN k) os) := by
  refine ⟨rfl, rfl, rfl, ?_, fun i hi => ?_⟩
  · show w.heap.size ≤ (w.heap ++ os).size
    simp
  · show (w.heap ++ os)[i]? = w.heap[i]?
    exact Array.getElem?_append_left hi

/-- (*reader).number. -/
theorem number_any (R : Nat) (ws : List ByteArray) (b : Bool) (d : ByteArray) (hd : d.size ≤ 1000000) (w : World) (hg : Gl w) (h : RS R ws b w) :
    Calls Tryd.prog 61 #[.pointer (some ⟨R, 0, none⟩), .string d] w (NumPost R ws b d w) := by
  cases ha : Lib.atoiAll d.data.toList with
  | ok v =>
    have hv := Lib.atoiAll_bounds ha
    refine number_ok R ws b d v w h ?_ (fun W hb => ?_) (by show _ = _; simp only [numOf, ha])
    · refine (Tryd.strconv_Atoi_ok d (by omega) v ha w).mono ?_
      rintro e w' ⟨rfl, rfl | ⟨t, rfl⟩⟩
      · exact ⟨rfl, Below.refl _ _⟩
      · exact ⟨rfl, Lib.bytesWorld_below _ _ _⟩
    · refine (Tryd.strconv_Itoa v hv.1 hv.2 W (hg.below hb).pow).mono ?_
      rintro e w' ⟨rfl, k, os, rfl⟩
      exact ⟨rfl, below_grew _ _ _⟩
  | «syntax» =>
    obtain ⟨te, pe, hs⟩ := hg.es
    have hc := hs.cell 0
    refine number_bad R ws b d w h (by show _ = _; simp only [numOf, ha]) ?_
    refine (Tryd.strconv_Atoi_syntax d (by omega) ha (.iface te pe) w (by simpa using hc) (.inr ⟨te, pe, rfl⟩)).mono ?_
    rintro e w' ⟨N, rfl, _, _, hb⟩
    exact ⟨0, N, rfl, hb⟩
  | range =>
    obtain ⟨te, pe, hs⟩ := hg.er
    have hc := hs.cell 0
    refine number_bad R ws b d w h (by show _ = _; simp only [numOf, ha]) ?_
    refine (Tryd.strconv_Atoi_range d (by omega) ha (.iface te pe) w (by simpa using hc) (.inr ⟨te, pe, rfl⟩)).mono ?_
    rintro e w' ⟨N, rfl, _, _, hb⟩
    exact ⟨_, N, rfl, hb⟩
end Go.Proofs.YtibjnkpmnimgoaaDoor
