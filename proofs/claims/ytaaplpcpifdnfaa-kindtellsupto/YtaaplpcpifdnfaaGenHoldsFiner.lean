/-
  What the calls of kind.holds (of kind.finer) and kind.Finer answer at two trees of not too many nodes.
-/
import Derived.Test.YtaaplpcpifdnfaaGenLater
import Derived.Test.YtaaplpcpifdnfaaGenFiner
import Derived.Deep.LoopGhost
namespace Go.Proofs.Ytaaplpcpifdnfaa
open Go.RowKit

set_option maxHeartbeats 1000000 in
theorem holds_33G (x y : Tr) (r : Bool) (hr : Hid (relY escFiner x.ty y.ty = r)) (w : World) (hx : x.In w) (hy : y.In w) (hz : x.sz ≤ 100000000) :
    Calls Try.prog 30 #[.func (.func 33) #[] #[], .agg #[.int .i64 x.k, .slice x.a x.l.length x.c], .agg #[.int .i64 y.k, .slice y.a y.l.length y.c]] w fun e w' => e = .returned (.bool r) ∧ Below w.heap.size w w' := by
  have HX : Hid (x.At w.heap.size w) := ⟨hx, hx.bl⟩
  have HY : Hid (y.At w.heap.size w) := ⟨hy, hy.bl⟩
  have HZ : Hid (x.sz ≤ 100000000) := hz
  clear hx hy hz
  go_enter Try.func30, Try.ntmps30
  go_wp2_with fail
  refine (put_lst (w.heap.size + 1 + 1) [] none ⟨x, y, none⟩ _ ⟨⟨.slice none 0 0, by simp [go_sem], World.ownsRow_nil _ _ _ _, rfl⟩, by simp [go_sem]⟩ (by simp)).mono ?_
  rintro e w1 ⟨rfl, o1, hl1, _, hk1⟩
  have hbw : Below w.heap.size w w1 := ((((Below.refl _ _).alloc (Nat.le_refl _) _).alloc (by simp) _).alloc (by simp; omega) _).trans ((hk1.below (fun g e => by cases e) (by simp)).mono (by omega))
  have HO : Hid (Todo escFiner (w.heap.size + 1 + 1) x y w x.sz [⟨x, y, none⟩] o1 w1) := by
    refine ⟨hl1, szs_one _, by have := HZ.out; omega, fun q hq => ?_, ⟨fun h q hq => ?_, fun h => h _ (List.mem_singleton.2 rfl)⟩, hbw⟩
    · rcases List.mem_singleton.1 hq with rfl
      exact ⟨rfl, HX.out, HY.out⟩
    · rcases List.mem_singleton.1 hq with rfl
      exact h
  clear hl1 hk1 hbw HX HY
  go_wp2_with fail
  go_loopg [] x.sz (fun k wr => ∃ qs o, Hid (Todo escFiner (w.heap.size + 1 + 1) x y w k qs o wr))
  case atStart => exact ⟨_, _, HO⟩
  case round =>
    clear HO
    obtain ⟨qs, o, HT⟩ := hrel
    rcases List.eq_nil_or_concat qs with rfl | ⟨us, q, rfl⟩
    · go_wp2_with fail
      refine (empty_yes (w.heap.size + 1 + 1) o _ HT.out.l).mono ?_
      rintro e w' ⟨rfl, rfl⟩
      have HF : Hid (r = true) := by
        show r = true
        rw [← hr.out]
        exact HT.out.i.2 fun q hq => by cases hq
      go_wp2_with fail
      go_ret
      exact ⟨by rw [HF.out]; rfl, HT.out.b⟩
    · rw [List.concat_eq_append] at HT
      go_wp2_with fail
      refine (empty_no (w.heap.size + 1 + 1) us q o _ HT.out.l).mono ?_
      rintro e w' ⟨rfl, rfl⟩
      have hus : us.length ≤ 1000000000 := by
        have h1 := szs_len us
        have h2 := HT.out.s
        have h3 := HT.out.z
        rw [szs_append] at h2
        omega
      go_wp2_with fail
      refine (take_lst (w.heap.size + 1 + 1) us q o _ HT.out.l (by omega)).mono ?_
      rintro e w2 ⟨rfl, hl2, hk2⟩
      have hp : q.p = none := (HT.out.q q (by simp)).1
      rw [hp]
      clear hp
      have HW : Hid (∀ X, Below w2.heap.size w2 (w2.alloc X) ∧ Lst (w.heap.size + 1 + 1) us o (w2.alloc X)) := fun X => ⟨(Below.refl _ _).alloc (Nat.le_refl _) _, hl2.below ((Below.refl _ _).alloc (Nat.le_refl _) _)⟩
      have HK2 : Hid (Kept (w.heap.size + 1 + 1) none w' w2) := hk2
      have hw2 : w.heap.size + 1 + 1 < w2.heap.size := hl2.lt
      have HA : Hid (∀ X, q.x.At w.heap.size (w2.alloc X) ∧ q.y.At w.heap.size (w2.alloc X)) := by
        intro X
        obtain ⟨_, h1, h2⟩ := HT.out.q q (by simp)
        have hb : Below w.heap.size w (w2.alloc X) := (HT.out.b.trans ((hk2.below (fun g e => by cases e) (Nat.le_of_lt HT.out.l.lt)).mono (by omega))).alloc (by omega) X
        exact ⟨h1.below hb, h2.below hb⟩
      clear hl2 hk2
      go_wp2_with fail
      refine (finer_anyG 1000 (w.heap.size + 1 + 1) w.heap.size (by omega) (Nat.le_refl _) q.x q.y us o _ (HW.out _).2 (HA.out _).1 (HA.out _).2 (by have h1 := szs_len us; have h2 := HT.out.s; have h3 := HT.out.z; rw [szs_append, szs_one] at h2; omega)).mono ?_
      rintro e w5 ⟨r', qs, o2, rfl, hr5⟩
      have HR5 : Hid (RelS escFiner (w.heap.size + 1 + 1) w.heap.size (999 + 1) q.x q.y us o (w2.alloc (.cells #[.int .i64 q.x.k, .slice q.x.a q.x.l.length q.x.c, .int .i64 q.y.k, .slice q.y.a q.y.l.length q.y.c, .pointer none] 41)) r' qs o2 w5) := hr5
      clear hr5
      cases r'
      · have HF : Hid (r = false ∧ Below w.heap.size w w5) := by
          have h := HT.out.no (by omega) HK2.out (HW.out _).1 (HW.out _).2 HR5.out
          exact ⟨hr.out ▸ h.1, h.2⟩
        clear HR5 HW HA HK2 HT
        go_wp2_with fail
        go_ret
        exact ⟨by rw [HF.out.1]; rfl, HF.out.2⟩
      · have HF : Hid (Todo escFiner (w.heap.size + 1 + 1) x y w (szs (us ++ qs)) (us ++ qs) o2 w5 ∧ szs (us ++ qs) < gk) := HT.out.step (by omega) HK2.out (HW.out _).1 (HW.out _).2 HR5.out
        clear HR5 HW HA HK2 HT
        go_wp2_with fail
        go_roundg (szs (us ++ qs))
        case measure => exact HF.out.2
        case rel => exact ⟨_, _, HF.out.1⟩

set_option maxHeartbeats 400000 in
/-- kind.Finer. -/
theorem finer_wholeG (x y : Tr) (w : World) (hx : x.In w) (hy : y.In w) (hz : x.sz ≤ 100000000) :
    Calls Try.prog 19 #[.agg #[.int .i64 x.k, .slice x.a x.l.length x.c], .agg #[.int .i64 y.k, .slice y.a y.l.length y.c]] w fun e w' => e = .returned (.bool (relY escFiner x.ty y.ty)) ∧ Below w.heap.size w w' := by
  obtain ⟨r, hr⟩ : ∃ r, relY escFiner x.ty y.ty = r := ⟨_, rfl⟩
  have HH : Hid (∀ (w : World), x.In w → y.In w → Calls Try.prog 30 #[.func (.func 33) #[] #[], .agg #[.int .i64 x.k, .slice x.a x.l.length x.c], .agg #[.int .i64 y.k, .slice y.a y.l.length y.c]] w fun e w' => e = .returned (.bool r) ∧ Below w.heap.size w w') := fun w h1 h2 => holds_33G x y r hr w h1 h2 hz
  rw [hr]
  clear hr
  go_enter Try.func19, Try.ntmps19
  go_wp2_with fail
  have hb0 : Below w.heap.size w ((w.alloc (Obj.cells #[.int .i64 x.k, .slice x.a x.l.length x.c] 24)).alloc (Obj.cells #[.int .i64 y.k, .slice y.a y.l.length y.c] 24)) := ((Below.refl _ _).alloc (Nat.le_refl _) _).alloc (by simp) _
  refine (HH.out _ (hx.below hb0) (hy.below hb0)).mono ?_
  rintro e w1 ⟨rfl, hb1⟩
  have hb2 := hb0.trans (hb1.mono (by simp; omega))
  clear hb0 hb1
  go_wp2_with fail
  go_ret
  exact ⟨rfl, hb2⟩
end Go.Proofs.Ytaaplpcpifdnfaa
