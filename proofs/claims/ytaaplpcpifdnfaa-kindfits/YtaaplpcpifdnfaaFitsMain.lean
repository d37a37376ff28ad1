/-
  The call of chaperonekeep.KindFits answers true at whatever three trees lie in memory, and nothing that was there has turned.
-/
import Derived.Test.YtaaplpcpifdnfaaQuiet
import Derived.Deep.DeepCutAuto
namespace Go.Proofs.Ytaaplpcpifdnfaa
open Go.RowKit

set_option maxHeartbeats 1000000 in
theorem kfits_else (x y z : Tr) (w : World) (hx : x.In w) (hy : y.In w) (hz : z.In w) (hh : goodT 4 x = false ∨ goodT 4 x = true ∧ goodT 4 y = false ∨ goodT 4 x = true ∧ goodT 4 y = true ∧ goodT 4 z = false) :
    Calls Try.prog 5 #[.agg #[.int .i64 x.k, .slice x.a x.l.length x.c], .agg #[.int .i64 y.k, .slice y.a y.l.length y.c], .agg #[.int .i64 z.k, .slice z.a z.l.length z.c]] w fun e w' => e = .returned (.bool true) ∧ Below w.heap.size w w' := by
  have HF : Hid (Fx w x y z (((w.alloc (.cells #[.int .i64 x.k, .slice x.a x.l.length x.c] 24)).alloc (.cells #[.int .i64 y.k, .slice y.a y.l.length y.c] 24)).alloc (.cells #[.int .i64 z.k, .slice z.a z.l.length z.c] 24))) := Fx.start hx hy hz
  obtain ⟨gx, hgx⟩ : ∃ g, goodT 4 x = g := ⟨_, rfl⟩
  obtain ⟨gy, hgy⟩ : ∃ g, goodT 4 y = g := ⟨_, rfl⟩
  obtain ⟨gz, hgz⟩ : ∃ g, goodT 4 z = g := ⟨_, rfl⟩
  have G1 : Hid (∀ W, x.In W → Calls Try.prog 7 #[.agg #[.int .i64 x.k, .slice x.a x.l.length x.c]] W fun e w' => e = .returned (.bool gx) ∧ Below W.heap.size W w') := fun W h => hgx ▸ good_any x W h
  have G2 : Hid (∀ W, y.In W → Calls Try.prog 7 #[.agg #[.int .i64 y.k, .slice y.a y.l.length y.c]] W fun e w' => e = .returned (.bool gy) ∧ Below W.heap.size W w') := fun W h => hgy ▸ good_any y W h
  have G3 : Hid (∀ W, z.In W → Calls Try.prog 7 #[.agg #[.int .i64 z.k, .slice z.a z.l.length z.c]] W fun e w' => e = .returned (.bool gz) ∧ Below W.heap.size W w') := fun W h => hgz ▸ good_any z W h
  rw [hgx, hgy, hgz] at hh
  clear hgx hgy hgz hx hy hz
  rcases hh with rfl | ⟨rfl, rfl⟩ | ⟨rfl, rfl, rfl⟩
  · clear G2 G3
    go_enter Try.func5, Try.ntmps5
    go_wp2_with fail
    refine (G1.out _ HF.out.2.1).mono ?_
    rintro e w1 ⟨rfl, h1⟩
    have HF1 : Hid (Fx w x y z w1) := HF.out.later h1
    clear HF h1
    go_wp2_with fail
    refine (types_any _).mono ?_
    rintro e w2 ⟨rfl, h2⟩
    have hb := (HF1.out.later h2).1
    clear h2 HF1
    go_wp2_with fail
    go_ret
    exact ⟨rfl, hb⟩
  · clear G3
    go_enter Try.func5, Try.ntmps5
    go_wp2_with fail
    refine (G1.out _ HF.out.2.1).mono ?_
    rintro e w1 ⟨rfl, h1⟩
    have HF1 : Hid (Fx w x y z w1) := HF.out.later h1
    obtain ⟨_, _, _, _, _, _, c3, c4, _, _⟩ := HF1.out
    clear HF h1
    go_wp2_with fail
    refine (G2.out _ HF1.out.2.2.1).mono ?_
    rintro e w2 ⟨rfl, h2⟩
    have HF2 : Hid (Fx w x y z w2) := HF1.out.later h2
    clear HF1 h2 c3 c4
    go_wp2_with fail
    refine (types_any _).mono ?_
    rintro e w3 ⟨rfl, h3⟩
    have hb := (HF2.out.later h3).1
    clear h3 HF2
    go_wp2_with fail
    go_ret
    exact ⟨rfl, hb⟩
  · go_enter Try.func5, Try.ntmps5
    go_wp2_with fail
    refine (G1.out _ HF.out.2.1).mono ?_
    rintro e w1 ⟨rfl, h1⟩
    have HF1 : Hid (Fx w x y z w1) := HF.out.later h1
    obtain ⟨_, _, _, _, _, _, c3, c4, _, _⟩ := HF1.out
    clear HF h1
    go_wp2_with fail
    refine (G2.out _ HF1.out.2.2.1).mono ?_
    rintro e w2 ⟨rfl, h2⟩
    have HF2 : Hid (Fx w x y z w2) := HF1.out.later h2
    obtain ⟨_, _, _, _, _, _, _, _, c5, c6⟩ := HF2.out
    clear HF1 h2 c3 c4
    go_wp2_with fail
    refine (G3.out _ HF2.out.2.2.2.1).mono ?_
    rintro e w3 ⟨rfl, h3⟩
    have HF3 : Hid (Fx w x y z w3) := HF2.out.later h3
    clear HF2 h3 c5 c6
    go_wp2_with fail
    refine (types_any _).mono ?_
    rintro e w4 ⟨rfl, h4⟩
    have hb := (HF3.out.later h4).1
    clear h4 HF3
    go_wp2_with fail
    go_ret
    exact ⟨rfl, hb⟩
set_option maxHeartbeats 8000000 in
set_option maxRecDepth 100000 in
theorem kfits_main (x y z : Tr) (w : World) (hx : x.In w) (hy : y.In w) (hz : z.In w) (gx : goodT 4 x = true) (gy : goodT 4 y = true) (gz : goodT 4 z = true) :
    Calls Try.prog 5 #[.agg #[.int .i64 x.k, .slice x.a x.l.length x.c], .agg #[.int .i64 y.k, .slice y.a y.l.length y.c], .agg #[.int .i64 z.k, .slice z.a z.l.length z.c]] w fun e w' => e = .returned (.bool true) ∧ Below w.heap.size w w' := by
  have HF : Hid (Fx w x y z (((w.alloc (.cells #[.int .i64 x.k, .slice x.a x.l.length x.c] 24)).alloc (.cells #[.int .i64 y.k, .slice y.a y.l.length y.c] 24)).alloc (.cells #[.int .i64 z.k, .slice z.a z.l.length z.c] 24))) := Fx.start hx hy hz
  have G1 : Hid (∀ W, x.In W → Calls Try.prog 7 #[.agg #[.int .i64 x.k, .slice x.a x.l.length x.c]] W fun e w' => e = .returned (.bool true) ∧ Below W.heap.size W w') := fun W h => gx ▸ good_any x W h
  have G2 : Hid (∀ W, y.In W → Calls Try.prog 7 #[.agg #[.int .i64 y.k, .slice y.a y.l.length y.c]] W fun e w' => e = .returned (.bool true) ∧ Below W.heap.size W w') := fun W h => gy ▸ good_any y W h
  have G3 : Hid (∀ W, z.In W → Calls Try.prog 7 #[.agg #[.int .i64 z.k, .slice z.a z.l.length z.c]] W fun e w' => e = .returned (.bool true) ∧ Below W.heap.size W w') := fun W h => gz ▸ good_any z W h
  obtain ⟨hx1, sx, rx, yx⟩ := lev_good gx
  obtain ⟨hy1, sy, ry, yy⟩ := lev_good gy
  obtain ⟨hz1, sz, rz, yz⟩ := lev_good gz
  obtain ⟨r, hr⟩ : ∃ f, relY escFits x.ty y.ty = f := ⟨_, rfl⟩
  obtain ⟨s, hs⟩ : ∃ f, relY escFiner x.ty y.ty = f := ⟨_, rfl⟩
  obtain ⟨t, ht⟩ : ∃ f, relY escFiner y.ty z.ty = f := ⟨_, rfl⟩
  obtain ⟨u, hu⟩ : ∃ f, relY escFits x.ty z.ty = f := ⟨_, rfl⟩
  obtain ⟨v, hv⟩ : ∃ f, sureY x.ty = f := ⟨_, rfl⟩
  obtain ⟨p, hp⟩ : ∃ f, relY escFiner x.ty z.ty = f := ⟨_, rfl⟩
  obtain ⟨q, hq⟩ : ∃ f, relY escFiner y.ty x.ty = f := ⟨_, rfl⟩
  obtain ⟨m, hm⟩ : ∃ f, relY escSame x.ty y.ty = f := ⟨_, rfl⟩
  have L1 : Hid (s = true → r = true) := fun h => by rw [← hr]; exact finer_fits 4 x.ty y.ty yx yy (by rw [hs, h])
  have L2 : Hid (r = true → t = true → u = true) := fun h g => by rw [← hu]; exact fits_coarser 4 x.ty y.ty z.ty yx yy yz (by rw [hr, h]) (by rw [ht, g])
  have L3 : Hid (v = true → r = s) := fun h => by rw [← hr, ← hs]; exact sure_fits 4 x.ty y.ty yx yy (by rw [hv, h])
  have L4 : Hid (s = true → t = true → p = true) := fun h g => by rw [← hp]; exact finer_trans 4 x.ty y.ty z.ty yx yy yz (by rw [hs, h]) (by rw [ht, g])
  have L5 : Hid (s = true → q = true → m = true) := fun h g => by rw [← hm]; exact finer_both 4 x.ty y.ty yx yy (by rw [hs, h]) (by rw [hq, g])
  have Kxy : Hid (∀ W, x.In W → y.In W → Calls Try.prog 17 #[.agg #[.int .i64 x.k, .slice x.a x.l.length x.c], .agg #[.int .i64 y.k, .slice y.a y.l.length y.c]] W fun e w' => e = .returned (.bool r) ∧ Below W.heap.size W w') := fun W i1 i2 => hr ▸ fits_whole x y W i1 i2 hx1 sx
  have Kyx : Hid (∀ W, y.In W → x.In W → Calls Try.prog 17 #[.agg #[.int .i64 y.k, .slice y.a y.l.length y.c], .agg #[.int .i64 x.k, .slice x.a x.l.length x.c]] W fun e w' => e = .returned (.bool r) ∧ Below W.heap.size W w') := fun W i1 i2 => by
    have h := fits_whole y x W i1 i2 hy1 sy
    rw [← fits_sym 4 x.ty y.ty yx yy, hr] at h
    exact h
  have Kxx : Hid (∀ W, x.In W → Calls Try.prog 17 #[.agg #[.int .i64 x.k, .slice x.a x.l.length x.c], .agg #[.int .i64 x.k, .slice x.a x.l.length x.c]] W fun e w' => e = .returned (.bool true) ∧ Below W.heap.size W w') := fun W i1 => fits_refl 4 x.ty yx ▸ fits_whole x x W i1 i1 hx1 sx
  have Kxz : Hid (∀ W, x.In W → z.In W → Calls Try.prog 17 #[.agg #[.int .i64 x.k, .slice x.a x.l.length x.c], .agg #[.int .i64 z.k, .slice z.a z.l.length z.c]] W fun e w' => e = .returned (.bool u) ∧ Below W.heap.size W w') := fun W i1 i2 => hu ▸ fits_whole x z W i1 i2 hx1 sx
  have Nxy : Hid (∀ W, x.In W → y.In W → Calls Try.prog 19 #[.agg #[.int .i64 x.k, .slice x.a x.l.length x.c], .agg #[.int .i64 y.k, .slice y.a y.l.length y.c]] W fun e w' => e = .returned (.bool s) ∧ Below W.heap.size W w') := fun W i1 i2 => hs ▸ finer_whole x y W i1 i2 hx1 sx
  have Nyz : Hid (∀ W, y.In W → z.In W → Calls Try.prog 19 #[.agg #[.int .i64 y.k, .slice y.a y.l.length y.c], .agg #[.int .i64 z.k, .slice z.a z.l.length z.c]] W fun e w' => e = .returned (.bool t) ∧ Below W.heap.size W w') := fun W i1 i2 => ht ▸ finer_whole y z W i1 i2 hy1 sy
  have Nxz : Hid (∀ W, x.In W → z.In W → Calls Try.prog 19 #[.agg #[.int .i64 x.k, .slice x.a x.l.length x.c], .agg #[.int .i64 z.k, .slice z.a z.l.length z.c]] W fun e w' => e = .returned (.bool p) ∧ Below W.heap.size W w') := fun W i1 i2 => hp ▸ finer_whole x z W i1 i2 hx1 sx
  have Nyx : Hid (∀ W, y.In W → x.In W → Calls Try.prog 19 #[.agg #[.int .i64 y.k, .slice y.a y.l.length y.c], .agg #[.int .i64 x.k, .slice x.a x.l.length x.c]] W fun e w' => e = .returned (.bool q) ∧ Below W.heap.size W w') := fun W i1 i2 => hq ▸ finer_whole y x W i1 i2 hy1 sy
  have Mxy : Hid (∀ W, x.In W → y.In W → Calls Try.prog 10 #[.agg #[.int .i64 x.k, .slice x.a x.l.length x.c], .agg #[.int .i64 y.k, .slice y.a y.l.length y.c]] W fun e w' => e = .returned (.bool m) ∧ Below W.heap.size W w') := fun W i1 i2 => hm ▸ same_whole x y W i1 i2 hx1 sx
  have Vx : Hid (∀ W, x.In W → Calls Try.prog 25 #[.agg #[.int .i64 x.k, .slice x.a x.l.length x.c]] W fun e w' => e = .returned (.bool v) ∧ Below W.heap.size W w') := fun W i1 => hv ▸ sure_any x W i1 rx (by have := Tr.sz_good 4 x gx; omega)
  clear hr hs ht hu hv hp hq hm hx1 sx rx yx hy1 sy ry yy hz1 sz rz yz gx gy gz hx hy hz
  go_enter Try.func5, Try.ntmps5
  go_wp2_with fail
  refine (G1.out _ HF.out.2.1).mono ?_
  rintro e w1 ⟨rfl, h1⟩
  have HF1 : Hid (Fx w x y z w1) := HF.out.later h1
  obtain ⟨-, -, -, -, -, -, c3, c4, -, -⟩ := HF1.out
  clear HF h1
  go_wp2_with fail
  refine (G2.out _ HF1.out.2.2.1).mono ?_
  rintro e w2 ⟨rfl, h2⟩
  have HF2 : Hid (Fx w x y z w2) := HF1.out.later h2
  obtain ⟨-, -, -, -, -, -, -, -, c5, c6⟩ := HF2.out
  clear HF1 h2 c3 c4
  go_wp2_with fail
  refine (G3.out _ HF2.out.2.2.2.1).mono ?_
  rintro e w3 ⟨rfl, h3⟩
  have HF3 : Hid (Fx w x y z w3) := HF2.out.later h3
  clear HF2 h3 c5 c6 G1 G2 G3
  go_wp2_with fail
  go_cut [44] (fun s44 wx => s44 = .bool false ∧ Hid (Fx w x y z wx))
  case first =>
    refine wp_region_class (C := Fx w x y z) (by kernel_rfl) (by kernel_rfl) (HF3.out.later ((Below.refl _ _).drew)) ?_
    cases s
    · iterate 24 (first
        | go_big_quiet_skip
        | (refine quiet_value (v := ?_) (by rfl) ?_ ?_; rotate_left; (focus (intro W hW; obtain ⟨-, -, -, -, d1, d2, d3, d4, d5, d6⟩ := hW; first | (go_simp; done) | (go_simp; with_reducible rfl))); simp only [Act.put, List.setIfInBounds_toArray, List.set_cons_zero, List.set_cons_succ])
        | (refine quiet_enter (.bool r) 17 #[.agg #[.int .i64 x.k, .slice x.a x.l.length x.c], .agg #[.int .i64 y.k, .slice y.a y.l.length y.c]] (by rfl) ?_ (fun W hW => (Kxy.out W hW.2.1 hW.2.2.1).mono fun e w' ⟨he, hb⟩ => ⟨he, hW.later hb⟩) ?_; (focus (intro W _; go_simp; done)); simp only [Act.put, List.setIfInBounds_toArray, List.set_cons_zero, List.set_cons_succ])
        | (refine quiet_enter (.bool r) 17 #[.agg #[.int .i64 y.k, .slice y.a y.l.length y.c], .agg #[.int .i64 x.k, .slice x.a x.l.length x.c]] (by rfl) ?_ (fun W hW => (Kyx.out W hW.2.2.1 hW.2.1).mono fun e w' ⟨he, hb⟩ => ⟨he, hW.later hb⟩) ?_; (focus (intro W _; go_simp; done)); simp only [Act.put, List.setIfInBounds_toArray, List.set_cons_zero, List.set_cons_succ])
        | (refine quiet_enter (.bool true) 17 #[.agg #[.int .i64 x.k, .slice x.a x.l.length x.c], .agg #[.int .i64 x.k, .slice x.a x.l.length x.c]] (by rfl) ?_ (fun W hW => (Kxx.out W hW.2.1).mono fun e w' ⟨he, hb⟩ => ⟨he, hW.later hb⟩) ?_; (focus (intro W _; go_simp; done)); simp only [Act.put, List.setIfInBounds_toArray, List.set_cons_zero, List.set_cons_succ])
        | (refine quiet_enter (.bool false) 19 #[.agg #[.int .i64 x.k, .slice x.a x.l.length x.c], .agg #[.int .i64 y.k, .slice y.a y.l.length y.c]] (by rfl) ?_ (fun W hW => (Nxy.out W hW.2.1 hW.2.2.1).mono fun e w' ⟨he, hb⟩ => ⟨he, hW.later hb⟩) ?_; (focus (intro W _; go_simp; done)); simp only [Act.put, List.setIfInBounds_toArray, List.set_cons_zero, List.set_cons_succ]))
      refine wpQuiet_nil ?_
      intro wq hq
      have HQ : Hid (Fx w x y z wq) := hq
      clear hq
      go_wp2_with fail
      go_meet
      case rel => exact ⟨rfl, HQ⟩
    · obtain rfl := L1.out rfl
      iterate 24 (first
        | go_big_quiet_skip
        | (refine quiet_value (v := ?_) (by rfl) ?_ ?_; rotate_left; (focus (intro W hW; obtain ⟨-, -, -, -, d1, d2, d3, d4, d5, d6⟩ := hW; first | (go_simp; done) | (go_simp; with_reducible rfl))); simp only [Act.put, List.setIfInBounds_toArray, List.set_cons_zero, List.set_cons_succ])
        | (refine quiet_enter (.bool true) 17 #[.agg #[.int .i64 x.k, .slice x.a x.l.length x.c], .agg #[.int .i64 y.k, .slice y.a y.l.length y.c]] (by rfl) ?_ (fun W hW => (Kxy.out W hW.2.1 hW.2.2.1).mono fun e w' ⟨he, hb⟩ => ⟨he, hW.later hb⟩) ?_; (focus (intro W _; go_simp; done)); simp only [Act.put, List.setIfInBounds_toArray, List.set_cons_zero, List.set_cons_succ])
        | (refine quiet_enter (.bool true) 17 #[.agg #[.int .i64 y.k, .slice y.a y.l.length y.c], .agg #[.int .i64 x.k, .slice x.a x.l.length x.c]] (by rfl) ?_ (fun W hW => (Kyx.out W hW.2.2.1 hW.2.1).mono fun e w' ⟨he, hb⟩ => ⟨he, hW.later hb⟩) ?_; (focus (intro W _; go_simp; done)); simp only [Act.put, List.setIfInBounds_toArray, List.set_cons_zero, List.set_cons_succ])
        | (refine quiet_enter (.bool true) 17 #[.agg #[.int .i64 x.k, .slice x.a x.l.length x.c], .agg #[.int .i64 x.k, .slice x.a x.l.length x.c]] (by rfl) ?_ (fun W hW => (Kxx.out W hW.2.1).mono fun e w' ⟨he, hb⟩ => ⟨he, hW.later hb⟩) ?_; (focus (intro W _; go_simp; done)); simp only [Act.put, List.setIfInBounds_toArray, List.set_cons_zero, List.set_cons_succ])
        | (refine quiet_enter (.bool true) 19 #[.agg #[.int .i64 x.k, .slice x.a x.l.length x.c], .agg #[.int .i64 y.k, .slice y.a y.l.length y.c]] (by rfl) ?_ (fun W hW => (Nxy.out W hW.2.1 hW.2.2.1).mono fun e w' ⟨he, hb⟩ => ⟨he, hW.later hb⟩) ?_; (focus (intro W _; go_simp; done)); simp only [Act.put, List.setIfInBounds_toArray, List.set_cons_zero, List.set_cons_succ]))
      refine wpQuiet_nil ?_
      intro wq hq
      have HQ : Hid (Fx w x y z wq) := hq
      clear hq
      go_wp2_with fail
      go_meet
      case rel => exact ⟨rfl, HQ⟩
  case rest =>
    obtain ⟨h44, HF4⟩ := hcut
    subst h44
    clear HF3 Kyx Kxx
    go_wp2_with fail
    go_cut [71] (fun s71 wx => s71 = .bool false ∧ Hid (Fx w x y z wx))
    case first =>
      refine wp_region_class (C := Fx w x y z) (by kernel_rfl) (by kernel_rfl) (HF4.out.later ((Below.refl _ _).drew)) ?_
      cases r
      · cases v
        · iterate 27 (first
            | go_big_quiet_skip
            | (refine quiet_value (v := ?_) (by rfl) ?_ ?_; rotate_left; (focus (intro W hW; obtain ⟨-, -, -, -, d1, d2, d3, d4, d5, d6⟩ := hW; first | (go_simp; done) | (go_simp; with_reducible rfl))); simp only [Act.put, List.setIfInBounds_toArray, List.set_cons_zero, List.set_cons_succ])
            | (refine quiet_enter (.bool false) 17 #[.agg #[.int .i64 x.k, .slice x.a x.l.length x.c], .agg #[.int .i64 y.k, .slice y.a y.l.length y.c]] (by rfl) ?_ (fun W hW => (Kxy.out W hW.2.1 hW.2.2.1).mono fun e w' ⟨he, hb⟩ => ⟨he, hW.later hb⟩) ?_; (focus (intro W _; go_simp; done)); simp only [Act.put, List.setIfInBounds_toArray, List.set_cons_zero, List.set_cons_succ])
            | (refine quiet_enter (.bool false) 25 #[.agg #[.int .i64 x.k, .slice x.a x.l.length x.c]] (by rfl) ?_ (fun W hW => (Vx.out W hW.2.1).mono fun e w' ⟨he, hb⟩ => ⟨he, hW.later hb⟩) ?_; (focus (intro W _; go_simp; done)); simp only [Act.put, List.setIfInBounds_toArray, List.set_cons_zero, List.set_cons_succ]))
          refine wpQuiet_nil ?_
          intro wq hq
          have HQ : Hid (Fx w x y z wq) := hq
          clear hq
          go_wp2_with fail
          go_meet
          case rel => exact ⟨rfl, HQ⟩
        · obtain rfl := L3.out rfl
          iterate 27 (first
            | go_big_quiet_skip
            | (refine quiet_value (v := ?_) (by rfl) ?_ ?_; rotate_left; (focus (intro W hW; obtain ⟨-, -, -, -, d1, d2, d3, d4, d5, d6⟩ := hW; first | (go_simp; done) | (go_simp; with_reducible rfl))); simp only [Act.put, List.setIfInBounds_toArray, List.set_cons_zero, List.set_cons_succ])
            | (refine quiet_enter (.bool false) 17 #[.agg #[.int .i64 x.k, .slice x.a x.l.length x.c], .agg #[.int .i64 y.k, .slice y.a y.l.length y.c]] (by rfl) ?_ (fun W hW => (Kxy.out W hW.2.1 hW.2.2.1).mono fun e w' ⟨he, hb⟩ => ⟨he, hW.later hb⟩) ?_; (focus (intro W _; go_simp; done)); simp only [Act.put, List.setIfInBounds_toArray, List.set_cons_zero, List.set_cons_succ])
            | (refine quiet_enter (.bool false) 19 #[.agg #[.int .i64 x.k, .slice x.a x.l.length x.c], .agg #[.int .i64 y.k, .slice y.a y.l.length y.c]] (by rfl) ?_ (fun W hW => (Nxy.out W hW.2.1 hW.2.2.1).mono fun e w' ⟨he, hb⟩ => ⟨he, hW.later hb⟩) ?_; (focus (intro W _; go_simp; done)); simp only [Act.put, List.setIfInBounds_toArray, List.set_cons_zero, List.set_cons_succ])
            | (refine quiet_enter (.bool true) 25 #[.agg #[.int .i64 x.k, .slice x.a x.l.length x.c]] (by rfl) ?_ (fun W hW => (Vx.out W hW.2.1).mono fun e w' ⟨he, hb⟩ => ⟨he, hW.later hb⟩) ?_; (focus (intro W _; go_simp; done)); simp only [Act.put, List.setIfInBounds_toArray, List.set_cons_zero, List.set_cons_succ]))
          refine wpQuiet_nil ?_
          intro wq hq
          have HQ : Hid (Fx w x y z wq) := hq
          clear hq
          go_wp2_with fail
          go_meet
          case rel => exact ⟨rfl, HQ⟩
      · cases t
        · cases v
          · iterate 27 (first
              | go_big_quiet_skip
              | (refine quiet_value (v := ?_) (by rfl) ?_ ?_; rotate_left; (focus (intro W hW; obtain ⟨-, -, -, -, d1, d2, d3, d4, d5, d6⟩ := hW; first | (go_simp; done) | (go_simp; with_reducible rfl))); simp only [Act.put, List.setIfInBounds_toArray, List.set_cons_zero, List.set_cons_succ])
              | (refine quiet_enter (.bool true) 17 #[.agg #[.int .i64 x.k, .slice x.a x.l.length x.c], .agg #[.int .i64 y.k, .slice y.a y.l.length y.c]] (by rfl) ?_ (fun W hW => (Kxy.out W hW.2.1 hW.2.2.1).mono fun e w' ⟨he, hb⟩ => ⟨he, hW.later hb⟩) ?_; (focus (intro W _; go_simp; done)); simp only [Act.put, List.setIfInBounds_toArray, List.set_cons_zero, List.set_cons_succ])
              | (refine quiet_enter (.bool false) 19 #[.agg #[.int .i64 y.k, .slice y.a y.l.length y.c], .agg #[.int .i64 z.k, .slice z.a z.l.length z.c]] (by rfl) ?_ (fun W hW => (Nyz.out W hW.2.2.1 hW.2.2.2.1).mono fun e w' ⟨he, hb⟩ => ⟨he, hW.later hb⟩) ?_; (focus (intro W _; go_simp; done)); simp only [Act.put, List.setIfInBounds_toArray, List.set_cons_zero, List.set_cons_succ])
              | (refine quiet_enter (.bool false) 25 #[.agg #[.int .i64 x.k, .slice x.a x.l.length x.c]] (by rfl) ?_ (fun W hW => (Vx.out W hW.2.1).mono fun e w' ⟨he, hb⟩ => ⟨he, hW.later hb⟩) ?_; (focus (intro W _; go_simp; done)); simp only [Act.put, List.setIfInBounds_toArray, List.set_cons_zero, List.set_cons_succ]))
            refine wpQuiet_nil ?_
            intro wq hq
            have HQ : Hid (Fx w x y z wq) := hq
            clear hq
            go_wp2_with fail
            go_meet
            case rel => exact ⟨rfl, HQ⟩
          · obtain rfl := L3.out rfl
            iterate 27 (first
              | go_big_quiet_skip
              | (refine quiet_value (v := ?_) (by rfl) ?_ ?_; rotate_left; (focus (intro W hW; obtain ⟨-, -, -, -, d1, d2, d3, d4, d5, d6⟩ := hW; first | (go_simp; done) | (go_simp; with_reducible rfl))); simp only [Act.put, List.setIfInBounds_toArray, List.set_cons_zero, List.set_cons_succ])
              | (refine quiet_enter (.bool true) 17 #[.agg #[.int .i64 x.k, .slice x.a x.l.length x.c], .agg #[.int .i64 y.k, .slice y.a y.l.length y.c]] (by rfl) ?_ (fun W hW => (Kxy.out W hW.2.1 hW.2.2.1).mono fun e w' ⟨he, hb⟩ => ⟨he, hW.later hb⟩) ?_; (focus (intro W _; go_simp; done)); simp only [Act.put, List.setIfInBounds_toArray, List.set_cons_zero, List.set_cons_succ])
              | (refine quiet_enter (.bool true) 19 #[.agg #[.int .i64 x.k, .slice x.a x.l.length x.c], .agg #[.int .i64 y.k, .slice y.a y.l.length y.c]] (by rfl) ?_ (fun W hW => (Nxy.out W hW.2.1 hW.2.2.1).mono fun e w' ⟨he, hb⟩ => ⟨he, hW.later hb⟩) ?_; (focus (intro W _; go_simp; done)); simp only [Act.put, List.setIfInBounds_toArray, List.set_cons_zero, List.set_cons_succ])
              | (refine quiet_enter (.bool false) 19 #[.agg #[.int .i64 y.k, .slice y.a y.l.length y.c], .agg #[.int .i64 z.k, .slice z.a z.l.length z.c]] (by rfl) ?_ (fun W hW => (Nyz.out W hW.2.2.1 hW.2.2.2.1).mono fun e w' ⟨he, hb⟩ => ⟨he, hW.later hb⟩) ?_; (focus (intro W _; go_simp; done)); simp only [Act.put, List.setIfInBounds_toArray, List.set_cons_zero, List.set_cons_succ])
              | (refine quiet_enter (.bool true) 25 #[.agg #[.int .i64 x.k, .slice x.a x.l.length x.c]] (by rfl) ?_ (fun W hW => (Vx.out W hW.2.1).mono fun e w' ⟨he, hb⟩ => ⟨he, hW.later hb⟩) ?_; (focus (intro W _; go_simp; done)); simp only [Act.put, List.setIfInBounds_toArray, List.set_cons_zero, List.set_cons_succ]))
            refine wpQuiet_nil ?_
            intro wq hq
            have HQ : Hid (Fx w x y z wq) := hq
            clear hq
            go_wp2_with fail
            go_meet
            case rel => exact ⟨rfl, HQ⟩
        · obtain rfl := L2.out rfl rfl
          cases v
          · iterate 27 (first
              | go_big_quiet_skip
              | (refine quiet_value (v := ?_) (by rfl) ?_ ?_; rotate_left; (focus (intro W hW; obtain ⟨-, -, -, -, d1, d2, d3, d4, d5, d6⟩ := hW; first | (go_simp; done) | (go_simp; with_reducible rfl))); simp only [Act.put, List.setIfInBounds_toArray, List.set_cons_zero, List.set_cons_succ])
              | (refine quiet_enter (.bool true) 17 #[.agg #[.int .i64 x.k, .slice x.a x.l.length x.c], .agg #[.int .i64 y.k, .slice y.a y.l.length y.c]] (by rfl) ?_ (fun W hW => (Kxy.out W hW.2.1 hW.2.2.1).mono fun e w' ⟨he, hb⟩ => ⟨he, hW.later hb⟩) ?_; (focus (intro W _; go_simp; done)); simp only [Act.put, List.setIfInBounds_toArray, List.set_cons_zero, List.set_cons_succ])
              | (refine quiet_enter (.bool true) 17 #[.agg #[.int .i64 x.k, .slice x.a x.l.length x.c], .agg #[.int .i64 z.k, .slice z.a z.l.length z.c]] (by rfl) ?_ (fun W hW => (Kxz.out W hW.2.1 hW.2.2.2.1).mono fun e w' ⟨he, hb⟩ => ⟨he, hW.later hb⟩) ?_; (focus (intro W _; go_simp; done)); simp only [Act.put, List.setIfInBounds_toArray, List.set_cons_zero, List.set_cons_succ])
              | (refine quiet_enter (.bool true) 19 #[.agg #[.int .i64 y.k, .slice y.a y.l.length y.c], .agg #[.int .i64 z.k, .slice z.a z.l.length z.c]] (by rfl) ?_ (fun W hW => (Nyz.out W hW.2.2.1 hW.2.2.2.1).mono fun e w' ⟨he, hb⟩ => ⟨he, hW.later hb⟩) ?_; (focus (intro W _; go_simp; done)); simp only [Act.put, List.setIfInBounds_toArray, List.set_cons_zero, List.set_cons_succ])
              | (refine quiet_enter (.bool false) 25 #[.agg #[.int .i64 x.k, .slice x.a x.l.length x.c]] (by rfl) ?_ (fun W hW => (Vx.out W hW.2.1).mono fun e w' ⟨he, hb⟩ => ⟨he, hW.later hb⟩) ?_; (focus (intro W _; go_simp; done)); simp only [Act.put, List.setIfInBounds_toArray, List.set_cons_zero, List.set_cons_succ]))
            refine wpQuiet_nil ?_
            intro wq hq
            have HQ : Hid (Fx w x y z wq) := hq
            clear hq
            go_wp2_with fail
            go_meet
            case rel => exact ⟨rfl, HQ⟩
          · obtain rfl := L3.out rfl
            iterate 27 (first
              | go_big_quiet_skip
              | (refine quiet_value (v := ?_) (by rfl) ?_ ?_; rotate_left; (focus (intro W hW; obtain ⟨-, -, -, -, d1, d2, d3, d4, d5, d6⟩ := hW; first | (go_simp; done) | (go_simp; with_reducible rfl))); simp only [Act.put, List.setIfInBounds_toArray, List.set_cons_zero, List.set_cons_succ])
              | (refine quiet_enter (.bool true) 17 #[.agg #[.int .i64 x.k, .slice x.a x.l.length x.c], .agg #[.int .i64 y.k, .slice y.a y.l.length y.c]] (by rfl) ?_ (fun W hW => (Kxy.out W hW.2.1 hW.2.2.1).mono fun e w' ⟨he, hb⟩ => ⟨he, hW.later hb⟩) ?_; (focus (intro W _; go_simp; done)); simp only [Act.put, List.setIfInBounds_toArray, List.set_cons_zero, List.set_cons_succ])
              | (refine quiet_enter (.bool true) 17 #[.agg #[.int .i64 x.k, .slice x.a x.l.length x.c], .agg #[.int .i64 z.k, .slice z.a z.l.length z.c]] (by rfl) ?_ (fun W hW => (Kxz.out W hW.2.1 hW.2.2.2.1).mono fun e w' ⟨he, hb⟩ => ⟨he, hW.later hb⟩) ?_; (focus (intro W _; go_simp; done)); simp only [Act.put, List.setIfInBounds_toArray, List.set_cons_zero, List.set_cons_succ])
              | (refine quiet_enter (.bool true) 19 #[.agg #[.int .i64 x.k, .slice x.a x.l.length x.c], .agg #[.int .i64 y.k, .slice y.a y.l.length y.c]] (by rfl) ?_ (fun W hW => (Nxy.out W hW.2.1 hW.2.2.1).mono fun e w' ⟨he, hb⟩ => ⟨he, hW.later hb⟩) ?_; (focus (intro W _; go_simp; done)); simp only [Act.put, List.setIfInBounds_toArray, List.set_cons_zero, List.set_cons_succ])
              | (refine quiet_enter (.bool true) 19 #[.agg #[.int .i64 y.k, .slice y.a y.l.length y.c], .agg #[.int .i64 z.k, .slice z.a z.l.length z.c]] (by rfl) ?_ (fun W hW => (Nyz.out W hW.2.2.1 hW.2.2.2.1).mono fun e w' ⟨he, hb⟩ => ⟨he, hW.later hb⟩) ?_; (focus (intro W _; go_simp; done)); simp only [Act.put, List.setIfInBounds_toArray, List.set_cons_zero, List.set_cons_succ])
              | (refine quiet_enter (.bool true) 25 #[.agg #[.int .i64 x.k, .slice x.a x.l.length x.c]] (by rfl) ?_ (fun W hW => (Vx.out W hW.2.1).mono fun e w' ⟨he, hb⟩ => ⟨he, hW.later hb⟩) ?_; (focus (intro W _; go_simp; done)); simp only [Act.put, List.setIfInBounds_toArray, List.set_cons_zero, List.set_cons_succ]))
            refine wpQuiet_nil ?_
            intro wq hq
            have HQ : Hid (Fx w x y z wq) := hq
            clear hq
            go_wp2_with fail
            go_meet
            case rel => exact ⟨rfl, HQ⟩
    case rest =>
      obtain ⟨h71, HG⟩ := hcut
      subst h71
      clear HF4 Kxy Kxz Vx L1 L2 L3
      obtain ⟨-, -, -, -, c1, c2, c3, c4, c5, c6⟩ := HG.out
      cases s
      · go_wp2_with (first
          | (go_at_call 27; refine (types_any _).mono ?_; rintro e wn ⟨rfl, hn⟩; replace HG : Hid (Fx w x y z wn) := HG.out.later hn; clear hn)
          | (go_at_call 10; (refine (Mxy.out _ HG.out.2.1 HG.out.2.2.1).mono ?_; rintro e wn ⟨rfl, hn⟩; replace HG : Hid (Fx w x y z wn) := HG.out.later hn; clear hn; obtain ⟨-, -, -, -, c1, c2, c3, c4, c5, c6⟩ := HG.out))
          | (go_at_call_of 19 (z.k); first | (refine (Nyz.out _ HG.out.2.2.1 HG.out.2.2.2.1).mono ?_; rintro e wn ⟨rfl, hn⟩; replace HG : Hid (Fx w x y z wn) := HG.out.later hn; clear hn; obtain ⟨-, -, -, -, c1, c2, c3, c4, c5, c6⟩ := HG.out) | (refine (Nxz.out _ HG.out.2.1 HG.out.2.2.2.1).mono ?_; rintro e wn ⟨rfl, hn⟩; replace HG : Hid (Fx w x y z wn) := HG.out.later hn; clear hn; obtain ⟨-, -, -, -, c1, c2, c3, c4, c5, c6⟩ := HG.out))
          | (go_at_call 19; first | (refine (Nxy.out _ HG.out.2.1 HG.out.2.2.1).mono ?_; rintro e wn ⟨rfl, hn⟩; replace HG : Hid (Fx w x y z wn) := HG.out.later hn; clear hn; obtain ⟨-, -, -, -, c1, c2, c3, c4, c5, c6⟩ := HG.out) | (refine (Nyx.out _ HG.out.2.2.1 HG.out.2.1).mono ?_; rintro e wn ⟨rfl, hn⟩; replace HG : Hid (Fx w x y z wn) := HG.out.later hn; clear hn; obtain ⟨-, -, -, -, c1, c2, c3, c4, c5, c6⟩ := HG.out)))
        go_ret
        exact ⟨rfl, HG.out.1⟩
      · cases t
        · cases q
          · go_wp2_with (first
              | (go_at_call 27; refine (types_any _).mono ?_; rintro e wn ⟨rfl, hn⟩; replace HG : Hid (Fx w x y z wn) := HG.out.later hn; clear hn)
              | (go_at_call 10; (refine (Mxy.out _ HG.out.2.1 HG.out.2.2.1).mono ?_; rintro e wn ⟨rfl, hn⟩; replace HG : Hid (Fx w x y z wn) := HG.out.later hn; clear hn; obtain ⟨-, -, -, -, c1, c2, c3, c4, c5, c6⟩ := HG.out))
              | (go_at_call_of 19 (z.k); first | (refine (Nyz.out _ HG.out.2.2.1 HG.out.2.2.2.1).mono ?_; rintro e wn ⟨rfl, hn⟩; replace HG : Hid (Fx w x y z wn) := HG.out.later hn; clear hn; obtain ⟨-, -, -, -, c1, c2, c3, c4, c5, c6⟩ := HG.out) | (refine (Nxz.out _ HG.out.2.1 HG.out.2.2.2.1).mono ?_; rintro e wn ⟨rfl, hn⟩; replace HG : Hid (Fx w x y z wn) := HG.out.later hn; clear hn; obtain ⟨-, -, -, -, c1, c2, c3, c4, c5, c6⟩ := HG.out))
              | (go_at_call 19; first | (refine (Nxy.out _ HG.out.2.1 HG.out.2.2.1).mono ?_; rintro e wn ⟨rfl, hn⟩; replace HG : Hid (Fx w x y z wn) := HG.out.later hn; clear hn; obtain ⟨-, -, -, -, c1, c2, c3, c4, c5, c6⟩ := HG.out) | (refine (Nyx.out _ HG.out.2.2.1 HG.out.2.1).mono ?_; rintro e wn ⟨rfl, hn⟩; replace HG : Hid (Fx w x y z wn) := HG.out.later hn; clear hn; obtain ⟨-, -, -, -, c1, c2, c3, c4, c5, c6⟩ := HG.out)))
            go_ret
            exact ⟨rfl, HG.out.1⟩
          · obtain rfl := L5.out rfl rfl
            go_wp2_with (first
              | (go_at_call 27; refine (types_any _).mono ?_; rintro e wn ⟨rfl, hn⟩; replace HG : Hid (Fx w x y z wn) := HG.out.later hn; clear hn)
              | (go_at_call 10; (refine (Mxy.out _ HG.out.2.1 HG.out.2.2.1).mono ?_; rintro e wn ⟨rfl, hn⟩; replace HG : Hid (Fx w x y z wn) := HG.out.later hn; clear hn; obtain ⟨-, -, -, -, c1, c2, c3, c4, c5, c6⟩ := HG.out))
              | (go_at_call_of 19 (z.k); first | (refine (Nyz.out _ HG.out.2.2.1 HG.out.2.2.2.1).mono ?_; rintro e wn ⟨rfl, hn⟩; replace HG : Hid (Fx w x y z wn) := HG.out.later hn; clear hn; obtain ⟨-, -, -, -, c1, c2, c3, c4, c5, c6⟩ := HG.out) | (refine (Nxz.out _ HG.out.2.1 HG.out.2.2.2.1).mono ?_; rintro e wn ⟨rfl, hn⟩; replace HG : Hid (Fx w x y z wn) := HG.out.later hn; clear hn; obtain ⟨-, -, -, -, c1, c2, c3, c4, c5, c6⟩ := HG.out))
              | (go_at_call 19; first | (refine (Nxy.out _ HG.out.2.1 HG.out.2.2.1).mono ?_; rintro e wn ⟨rfl, hn⟩; replace HG : Hid (Fx w x y z wn) := HG.out.later hn; clear hn; obtain ⟨-, -, -, -, c1, c2, c3, c4, c5, c6⟩ := HG.out) | (refine (Nyx.out _ HG.out.2.2.1 HG.out.2.1).mono ?_; rintro e wn ⟨rfl, hn⟩; replace HG : Hid (Fx w x y z wn) := HG.out.later hn; clear hn; obtain ⟨-, -, -, -, c1, c2, c3, c4, c5, c6⟩ := HG.out)))
            go_ret
            exact ⟨rfl, HG.out.1⟩
        · obtain rfl := L4.out rfl rfl
          cases q
          · go_wp2_with (first
              | (go_at_call 27; refine (types_any _).mono ?_; rintro e wn ⟨rfl, hn⟩; replace HG : Hid (Fx w x y z wn) := HG.out.later hn; clear hn)
              | (go_at_call 10; (refine (Mxy.out _ HG.out.2.1 HG.out.2.2.1).mono ?_; rintro e wn ⟨rfl, hn⟩; replace HG : Hid (Fx w x y z wn) := HG.out.later hn; clear hn; obtain ⟨-, -, -, -, c1, c2, c3, c4, c5, c6⟩ := HG.out))
              | (go_at_call_of 19 (z.k); first | (refine (Nyz.out _ HG.out.2.2.1 HG.out.2.2.2.1).mono ?_; rintro e wn ⟨rfl, hn⟩; replace HG : Hid (Fx w x y z wn) := HG.out.later hn; clear hn; obtain ⟨-, -, -, -, c1, c2, c3, c4, c5, c6⟩ := HG.out) | (refine (Nxz.out _ HG.out.2.1 HG.out.2.2.2.1).mono ?_; rintro e wn ⟨rfl, hn⟩; replace HG : Hid (Fx w x y z wn) := HG.out.later hn; clear hn; obtain ⟨-, -, -, -, c1, c2, c3, c4, c5, c6⟩ := HG.out))
              | (go_at_call 19; first | (refine (Nxy.out _ HG.out.2.1 HG.out.2.2.1).mono ?_; rintro e wn ⟨rfl, hn⟩; replace HG : Hid (Fx w x y z wn) := HG.out.later hn; clear hn; obtain ⟨-, -, -, -, c1, c2, c3, c4, c5, c6⟩ := HG.out) | (refine (Nyx.out _ HG.out.2.2.1 HG.out.2.1).mono ?_; rintro e wn ⟨rfl, hn⟩; replace HG : Hid (Fx w x y z wn) := HG.out.later hn; clear hn; obtain ⟨-, -, -, -, c1, c2, c3, c4, c5, c6⟩ := HG.out)))
            go_ret
            exact ⟨rfl, HG.out.1⟩
          · obtain rfl := L5.out rfl rfl
            go_wp2_with (first
              | (go_at_call 27; refine (types_any _).mono ?_; rintro e wn ⟨rfl, hn⟩; replace HG : Hid (Fx w x y z wn) := HG.out.later hn; clear hn)
              | (go_at_call 10; (refine (Mxy.out _ HG.out.2.1 HG.out.2.2.1).mono ?_; rintro e wn ⟨rfl, hn⟩; replace HG : Hid (Fx w x y z wn) := HG.out.later hn; clear hn; obtain ⟨-, -, -, -, c1, c2, c3, c4, c5, c6⟩ := HG.out))
              | (go_at_call_of 19 (z.k); first | (refine (Nyz.out _ HG.out.2.2.1 HG.out.2.2.2.1).mono ?_; rintro e wn ⟨rfl, hn⟩; replace HG : Hid (Fx w x y z wn) := HG.out.later hn; clear hn; obtain ⟨-, -, -, -, c1, c2, c3, c4, c5, c6⟩ := HG.out) | (refine (Nxz.out _ HG.out.2.1 HG.out.2.2.2.1).mono ?_; rintro e wn ⟨rfl, hn⟩; replace HG : Hid (Fx w x y z wn) := HG.out.later hn; clear hn; obtain ⟨-, -, -, -, c1, c2, c3, c4, c5, c6⟩ := HG.out))
              | (go_at_call 19; first | (refine (Nxy.out _ HG.out.2.1 HG.out.2.2.1).mono ?_; rintro e wn ⟨rfl, hn⟩; replace HG : Hid (Fx w x y z wn) := HG.out.later hn; clear hn; obtain ⟨-, -, -, -, c1, c2, c3, c4, c5, c6⟩ := HG.out) | (refine (Nyx.out _ HG.out.2.2.1 HG.out.2.1).mono ?_; rintro e wn ⟨rfl, hn⟩; replace HG : Hid (Fx w x y z wn) := HG.out.later hn; clear hn; obtain ⟨-, -, -, -, c1, c2, c3, c4, c5, c6⟩ := HG.out)))
            go_ret
            exact ⟨rfl, HG.out.1⟩

/-- chaperonekeep.KindFits. -/
theorem kfits_any (x y z : Tr) (w : World) (hx : x.In w) (hy : y.In w) (hz : z.In w) :
    Calls Try.prog 5 #[.agg #[.int .i64 x.k, .slice x.a x.l.length x.c], .agg #[.int .i64 y.k, .slice y.a y.l.length y.c], .agg #[.int .i64 z.k, .slice z.a z.l.length z.c]] w fun e w' => e = .returned (.bool true) ∧ Below w.heap.size w w' := by
  cases gx : goodT 4 x with
  | false => exact kfits_else x y z w hx hy hz (.inl gx)
  | true =>
    cases gy : goodT 4 y with
    | false => exact kfits_else x y z w hx hy hz (.inr (.inl ⟨gx, gy⟩))
    | true =>
      cases gz : goodT 4 z with
      | false => exact kfits_else x y z w hx hy hz (.inr (.inr ⟨gx, gy, gz⟩))
      | true => exact kfits_main x y z w hx hy hz gx gy gz
end Go.Proofs.Ytaaplpcpifdnfaa
