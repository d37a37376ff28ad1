/-
  What the call of the machine's look does.
-/
import Derived.Test.YtnddkmccagiclabGreatDoorLotaa155060fb
import Derived.Test.YtnddkmccagiclabGreatDoorLotbabaccc85f
import Derived.Test.YtnddkmccagiclabGreatDoorLoted756f28d3
import Derived.Test.YtnddkmccagiclabGreatDoorLot4ae5b21284
import Derived.Deep.RegionHeld3
namespace Go.Proofs.YtnddkmccagiclabGreatDoor
open Go.RowKit
set_option maxRecDepth 20000 in
set_option maxHeartbeats 4000000 in
theorem look_ref {w0 w : World} {M : Nat} {G : Gh} {s : St} (h : MS w0 w M G s) (hv : s.vs.length + 1 ≤ 1000000000) {b o : Nat} {q : Option Addr} {e : List Val} (hs : G.sp q e) (n : Nat) (hn : n ≤ 1000000) (c0 : w0.cell? ⟨b, o, none⟩ = some (.int .i64 1)) (c1 : w0.cell? ⟨b, o + 1, none⟩ = some (.int .i64 n)) :
    Calls Tryz.prog 111 #[.pointer (some ⟨M, 0, none⟩), .pointer (some ⟨b, o, none⟩), .pointer q] w (StPost w0 w M G (match e[n]? with | some v => s.push v | none => s.stop stuckO)) := by
  have k0 := cell_later h.bel c0
  have k1 := cell_later h.bel c1
  have lb : b < w.heap.size := World.block_lt_of_cell? _ _ k0
  have H : Hid (MS w0 w M G s ∧ s.vs.length + 1 ≤ 1000000000 ∧ G.sp q e ∧ n ≤ 1000000) := ⟨h, hv, hs, hn⟩
  obtain ⟨S', hS⟩ : ∃ S', S' = (match e[n]? with | some v => s.push v | none => s.stop stuckO) := ⟨_, rfl⟩
  rw [← hS]
  have HS : Hid (S' = (match e[n]? with | some v => s.push v | none => s.stop stuckO)) := hS
  clear hS h hv hs hn c0 c1
  go_enter Tryz.func111, Tryz.ntmps111
  go_wp2_with fail
  refine (find_any H.out.1.hg q e H.out.2.2.1 n H.out.2.2.2).mono ?_
  rintro r w1 ⟨rfl, q1, rfl, hq⟩
  have HR : Hid (Calls Tryz.prog 148 #[.pointer (some ⟨M, 0, none⟩), .pointer q1] w1 fun e w' => e = .returned (.tuple #[]) ∧ Hid (StPost w0 w1 M G S' (.returned (.tuple #[])) w')) := by
    rcases hq with ⟨rfl, hn⟩ | ⟨v, hn, hq⟩
    · refine (refer_none H.out.1).mono ?_
      rintro e w' ⟨rfl, hp⟩
      refine ⟨rfl, rfl, ?_⟩
      rw [HS.out, hn]; exact hp
    · obtain ⟨b', rfl, hb'⟩ := hq
      refine (refer_some H.out.1 ⟨b', rfl, hb'⟩ H.out.2.1).mono ?_
      rintro e w' ⟨rfl, hp⟩
      refine ⟨rfl, rfl, ?_⟩
      rw [HS.out, hn]; exact hp
  clear hq HS H
  go_wp2_with fail
  refine HR.out.mono ?_
  rintro e w2 ⟨rfl, HE⟩
  go_wp2_with fail
  go_end0
  exact HE.out
set_option maxRecDepth 20000 in
set_option maxHeartbeats 4000000 in
theorem look_num {w0 w : World} {M : Nat} {G : Gh} {s : St} (h : MS w0 w M G s) (hv : s.vs.length + 1 ≤ 1000000000) {b o : Nat} {q : Option Addr} (k n : Int) (hk : k = 2 ∨ k = 3) (c0 : w0.cell? ⟨b, o, none⟩ = some (.int .i64 k)) (c1 : w0.cell? ⟨b, o + 1, none⟩ = some (.int .i64 n)) :
    Calls Tryz.prog 111 #[.pointer (some ⟨M, 0, none⟩), .pointer (some ⟨b, o, none⟩), .pointer q] w (StPost w0 w M G (s.push (if k = 2 then numV n else truthV n))) := by
  have k0 := cell_later h.bel c0
  have k1 := cell_later h.bel c1
  have lb : b < w.heap.size := World.block_lt_of_cell? _ _ k0
  rcases hk with rfl | rfl
  · have HK : Hid (Calls Tryz.prog 150 #[.pointer (some ⟨M, 0, none⟩), .pointer (some ⟨w.heap.size, 0, none⟩)] (w.alloc (valO 1 n none none none none none 0)) (fun e w' => e = .returned (.tuple #[]) ∧ Hid (StPost w0 w M G (s.push (numV n)) (.returned (.tuple #[])) w'))) := by
      refine (val_keep h ((Below.refl _ _).alloc (Nat.le_refl _) _) (val_num _) hv).mono ?_
      rintro e w' ⟨rfl, H', hl, h2, f2⟩
      exact ⟨rfl, rfl, H', hl, h2, f2⟩
    show Calls Tryz.prog 111 _ w (StPost w0 w M G (s.push (numV n)))
    clear h hv c0 c1
    go_enter Tryz.func111, Tryz.ntmps111
    go_wp2_with fail
    refine HK.out.mono ?_
    rintro e w2 ⟨rfl, HE⟩
    go_wp2_with fail
    go_end0
    exact HE.out
  · have HK : Hid (Calls Tryz.prog 150 #[.pointer (some ⟨M, 0, none⟩), .pointer (some ⟨w.heap.size, 0, none⟩)] (w.alloc (valO 2 n none none none none none 0)) (fun e w' => e = .returned (.tuple #[]) ∧ Hid (StPost w0 w M G (s.push (truthV n)) (.returned (.tuple #[])) w'))) := by
      refine (val_keep h ((Below.refl _ _).alloc (Nat.le_refl _) _) (val_truth _) hv).mono ?_
      rintro e w' ⟨rfl, H', hl, h2, f2⟩
      exact ⟨rfl, rfl, H', hl, h2, f2⟩
    show Calls Tryz.prog 111 _ w (StPost w0 w M G (s.push (truthV n)))
    clear h hv c0 c1
    go_enter Tryz.func111, Tryz.ntmps111
    go_wp2_with fail
    refine HK.out.mono ?_
    rintro e w2 ⟨rfl, HE⟩
    go_wp2_with fail
    go_end0
    exact HE.out
set_option maxRecDepth 20000 in
set_option maxHeartbeats 4000000 in
theorem look_fn {w0 w : World} {M : Nat} {G : Gh} {s : St} (h : MS w0 w M G s) (hv : s.vs.length + 1 ≤ 1000000000) {b o lb lo c : Nat} {q : Option Addr} {e : List Val} {y : Tm} (hs : G.sp q e) (hy : TmP w0 (some ⟨lb, lo, none⟩) y) (c0 : w0.cell? ⟨b, o, none⟩ = some (.int .i64 7)) (c6 : w0.cell? ⟨b, o + 6, none⟩ = some (.slice (some ⟨lb, lo, none⟩) 1 c)) :
    Calls Tryz.prog 111 #[.pointer (some ⟨M, 0, none⟩), .pointer (some ⟨b, o, none⟩), .pointer q] w (StPost w0 w M G (s.push (funV y e))) := by
  have k0 := cell_later h.bel c0
  have k6 := cell_later h.bel c6
  have lbb : b < w.heap.size := World.block_lt_of_cell? _ _ k0
  have HK : Hid (Calls Tryz.prog 150 #[.pointer (some ⟨M, 0, none⟩), .pointer (some ⟨w.heap.size, 0, none⟩)] (w.alloc (valO 3 0 (some ⟨lb, lo, none⟩) q none none none 0)) (fun e' w' => e' = .returned (.tuple #[]) ∧ Hid (StPost w0 w M G (s.push (funV y e)) (.returned (.tuple #[])) w'))) := by
    refine (val_keep h ((Below.refl _ _).alloc (Nat.le_refl _) _) (v := funV y e) (valO_at (fun _ => rfl) rfl rfl rfl (fun _ => ⟨hy, hs⟩) (fun h => by simp [funV] at h) (Gh.cp_none _) (Gh.cp_none _)) hv).mono ?_
    rintro e w' ⟨rfl, H', hl, h2, f2⟩
    exact ⟨rfl, rfl, H', hl, h2, f2⟩
  clear h hv c0 c6 hs hy
  go_enter Tryz.func111, Tryz.ntmps111
  go_wp2_with fail
  refine HK.out.mono ?_
  rintro e w2 ⟨rfl, HE⟩
  go_wp2_with fail
  go_end0
  exact HE.out
set_option maxRecDepth 20000 in
set_option maxHeartbeats 4000000 in
theorem look_as {w0 w : World} {M : Nat} {G : Gh} {s : St} (h : MS w0 w M G s) (hn : s.ts.length + 1 ≤ 1000000000) {b o lb lo c : Nat} {q : Option Addr} {e : List Val} {y : Tm} (hs : G.sp q e) (hy : TmP w0 (some ⟨lb, lo, none⟩) y) (c0 : w0.cell? ⟨b, o, none⟩ = some (.int .i64 9)) (c6 : w0.cell? ⟨b, o + 6, none⟩ = some (.slice (some ⟨lb, lo, none⟩) 1 c)) :
    Calls Tryz.prog 111 #[.pointer (some ⟨M, 0, none⟩), .pointer (some ⟨b, o, none⟩), .pointer q] w (StPost w0 w M G (s.plan (lookT y e))) := by
  have k0 := cell_later h.bel c0
  have k6 := cell_later h.bel c6
  have lbb : b < w.heap.size := World.block_lt_of_cell? _ _ k0
  have H : Hid (MS w0 w M G s ∧ s.ts.length + 1 ≤ 1000000000 ∧ G.sp q e ∧ TmP w0 (some ⟨lb, lo, none⟩) y) := ⟨h, hn, hs, hy⟩
  clear h hn c0 c6 hs hy
  go_enter Tryz.func111, Tryz.ntmps111
  go_wp2_with fail
  refine (plan_any H.out.1 (TkP.look H.out.2.2.2 H.out.2.2.1) H.out.2.1).mono ?_
  rintro e' w2 ⟨rfl, h2, f2⟩
  have HE : Hid (StPost w0 w M G (s.plan (lookT y e)) (.returned (.tuple #[])) w2) := StPost.of rfl h2 f2
  clear h2 f2
  go_wp2_with fail
  go_end0
  exact HE.out
set_option maxRecDepth 20000 in
set_option maxHeartbeats 4000000 in
theorem look_if {w0 w : World} {M : Nat} {G : Gh} {s : St} (h : MS w0 w M G s) (hn : s.ts.length + 2 ≤ 1000000000) {b o lb lo c : Nat} {q : Option Addr} {e : List Val} {x y : Tm} (hs : G.sp q e) (hx : TmP w0 (some ⟨b, o, none⟩) x) (hy : TmP w0 (some ⟨lb, lo, none⟩) y) (c0 : w0.cell? ⟨b, o, none⟩ = some (.int .i64 6)) (c6 : w0.cell? ⟨b, o + 6, none⟩ = some (.slice (some ⟨lb, lo, none⟩) 3 c)) :
    Calls Tryz.prog 111 #[.pointer (some ⟨M, 0, none⟩), .pointer (some ⟨b, o, none⟩), .pointer q] w (StPost w0 w M G ((s.plan (chooseT x e)).plan (lookT y e))) := by
  have k0 := cell_later h.bel c0
  have lbb : b < w.heap.size := World.block_lt_of_cell? _ _ k0
  have H : Hid (MS w0 w M G s ∧ s.ts.length + 2 ≤ 1000000000 ∧ G.sp q e ∧ TmP w0 (some ⟨lb, lo, none⟩) y ∧ TmP w0 (some ⟨b, o, none⟩) x ∧ w0.cell? ⟨b, o + 6, none⟩ = some (.slice (some ⟨lb, lo, none⟩) 3 c)) := ⟨h, hn, hs, hy, hx, c6⟩
  clear h hn c0 c6 hs hy hx
  go_enter Tryz.func111, Tryz.ntmps111
  go_wp2_with fail
  refine (plan_any H.out.1 (TkP.choose H.out.2.2.2.2.1 H.out.2.2.1) (by have := H.out.2.1; omega)).mono ?_
  rintro e' w1 ⟨rfl, h1, f1⟩
  have k6 := cell_later h1.bel H.out.2.2.2.2.2
  have lb1 : b < w1.heap.size := World.block_lt_of_cell? _ _ k6
  have H1 : Hid (MS w0 w1 M G (s.plan (chooseT x e)) ∧ Fr M w w1) := ⟨h1, f1⟩
  clear h1 f1 k0
  go_wp2_with fail
  refine (plan_any H1.out.1 (TkP.look H.out.2.2.2.1 H.out.2.2.1) (by have := H.out.2.1; simp only [St.plan, List.length_cons]; omega)).mono ?_
  rintro e' w2 ⟨rfl, h2, f2⟩
  have HE : Hid (StPost w0 w M G ((s.plan (chooseT x e)).plan (lookT y e)) (.returned (.tuple #[])) w2) := StPost.of rfl h2 (H1.out.2.trans f2)
  clear h2 f2
  go_wp2_with fail
  go_end0
  exact HE.out
set_option maxRecDepth 20000 in
set_option maxHeartbeats 4000000 in
theorem look_two {w0 w : World} {M : Nat} {G : Gh} {s : St} (h : MS w0 w M G s) (hn : s.ts.length + 3 ≤ 1000000000) {b o : Nat} {q : Option Addr} {e : List Val} {x : Tm} (hs : G.sp q e) (hx : TmP w0 (some ⟨b, o, none⟩) x) (hl : x.l.length = 2) (k : Int) (hk : k = 4 ∨ k = 5 ∨ k = 8) (c0 : w0.cell? ⟨b, o, none⟩ = some (.int .i64 k)) :
    Calls Tryz.prog 111 #[.pointer (some ⟨M, 0, none⟩), .pointer (some ⟨b, o, none⟩), .pointer q] w (StPost w0 w M G (bothS s x e (if k = 4 then 2 else if k = 5 then 3 else 5))) := by
  have k0 := cell_later h.bel c0
  have lbb : b < w.heap.size := World.block_lt_of_cell? _ _ k0
  have H : Hid (∀ d, (d = 2 ∨ d = 3 ∨ d = 5) → Calls Tryz.prog 152 #[.pointer (some ⟨M, 0, none⟩), .pointer (some ⟨b, o, none⟩), .pointer q, .int .i64 d] w fun e' w' => e' = .returned (.tuple #[]) ∧ Hid (StPost w0 w M G (bothS s x e d) (.returned (.tuple #[])) w')) := fun d hd => by
    refine (both_any h hx hs hl d hd hn).mono ?_
    rintro e w' ⟨rfl, hp⟩
    exact ⟨rfl, rfl, hp⟩
  clear h hn c0 hs hx hl
  rcases hk with rfl | rfl | rfl
  · show Calls Tryz.prog 111 _ w (StPost w0 w M G (bothS s x e 2))
    go_enter Tryz.func111, Tryz.ntmps111
    go_wp2_with fail
    refine (H.out 2 (.inl rfl)).mono ?_
    rintro e' w2 ⟨rfl, HE⟩
    go_wp2_with fail
    go_end0
    exact HE.out
  · show Calls Tryz.prog 111 _ w (StPost w0 w M G (bothS s x e 3))
    go_enter Tryz.func111, Tryz.ntmps111
    go_wp2_with fail
    refine (H.out 3 (.inr (.inl rfl))).mono ?_
    rintro e' w2 ⟨rfl, HE⟩
    go_wp2_with fail
    go_end0
    exact HE.out
  · show Calls Tryz.prog 111 _ w (StPost w0 w M G (bothS s x e 5))
    go_enter Tryz.func111, Tryz.ntmps111
    go_wp2_with fail
    refine (H.out 5 (.inr (.inr rfl))).mono ?_
    rintro e' w2 ⟨rfl, HE⟩
    go_wp2_with fail
    go_end0
    exact HE.out
set_option maxRecDepth 20000 in
set_option maxHeartbeats 8000000 in
theorem look_cast {w0 w : World} {M : Nat} {G : Gh} {s : St} (h : MS w0 w M G s) (hn : s.ts.length + 2 ≤ 1000000000) {b o lb lo c : Nat} {q : Option Addr} {e : List Val} {y : Tm} {x : TT} (hs : G.sp q e) (hx : At7 w0 b o x) (hxi : x.In w0) (hy : TmP w0 (some ⟨lb, lo, none⟩) y) (hk : x.k = 10) (c6 : w0.cell? ⟨b, o + 6, none⟩ = some (.slice (some ⟨lb, lo, none⟩) 1 c)) (gt : goodT 46 x.t = true) (gf : goodT 46 x.f = true) :
    Calls Tryz.prog 111 #[.pointer (some ⟨M, 0, none⟩), .pointer (some ⟨b, o, none⟩), .pointer q] w (StPost w0 w M G ((s.plan (changeT (newC 100 x.f.ty x.t.ty (blameO x.n)))).plan (lookT y e))) := by
  have k0 := cell_later h.bel hx.c0
  rw [hk] at k0
  have lbb : b < w.heap.size := World.block_lt_of_cell? _ _ k0
  have lM := h.lt
  obtain ⟨oc, hoc⟩ : ∃ oc, oc = newC 100 x.f.ty x.t.ty (blameO x.n) := ⟨_, rfl⟩
  have HN : Hid (∀ W, Below w.heap.size w W → Calls Tryz.prog 151 #[.agg #[.int .i64 x.f.k, .slice x.f.a x.f.l.length x.f.c], .agg #[.int .i64 x.t.k, .slice x.t.a x.t.l.length x.t.c], .agg #[.int .i64 4, .int .i64 x.n, .bool false]] W fun e' w' => ∃ p H, e' = .returned (.pointer p) ∧ H.cp p oc ∧ MS w0 w' M H s ∧ G.le H ∧ Below W.heap.size W w') := fun W hW => by
    have hm := h.below hW
    have hb0 := h.bel.trans (hW.mono h.bel.size)
    rw [hoc]
    refine (new_any w0 100 46 x.f x.t (blameO x.n) W G (by omega) gf gt (by split <;> omega) (hxi.f.below hb0) (hxi.t.below hb0) hm.hg).mono ?_
    intro e' w' hp
    obtain ⟨p, H, he, hcp, hpost⟩ := hp.known
    exact ⟨p, H, he, hcp, (hm.post hpost).1, hpost.le, hpost.bel⟩
  rw [← hoc]
  have HC : Hid (∀ W, Below w0.heap.size w0 W → W.cell? ⟨b, o + 1, none⟩ = some (.int .i64 x.n) ∧ W.cell? ⟨b, o + 2, none⟩ = some (.int .i64 x.t.k) ∧ W.cell? ⟨b, o + 3, none⟩ = some (.slice x.t.a x.t.l.length x.t.c) ∧ W.cell? ⟨b, o + 4, none⟩ = some (.int .i64 x.f.k) ∧ W.cell? ⟨b, o + 5, none⟩ = some (.slice x.f.a x.f.l.length x.f.c)) := fun W hW => by
    exact ⟨cell_later hW hx.c1, cell_later hW hx.c2, cell_later hW hx.c3, cell_later hW hx.c4, cell_later hW hx.c5⟩
  have H : Hid (s.ts.length + 2 ≤ 1000000000 ∧ G.sp q e ∧ TmP w0 (some ⟨lb, lo, none⟩) y ∧ w0.cell? ⟨b, o + 6, none⟩ = some (.slice (some ⟨lb, lo, none⟩) 1 c)) := ⟨hn, hs, hy, c6⟩
  have hbw : Below w0.heap.size w0 w.drew := h.bel.drew
  clear h hn c6 hs hy hx hxi hk hoc gt gf
  go_enter Tryz.func111, Tryz.ntmps111
  go_wp2_with fail
  have hbn : Below w.heap.size w w.drew := (Below.refl _ _).drew
  clear k0
  go_region_held3 (fun W => W.cell? ⟨b, o + 1, none⟩ = some (.int .i64 x.n) ∧ W.cell? ⟨b, o + 2, none⟩ = some (.int .i64 x.t.k) ∧ W.cell? ⟨b, o + 3, none⟩ = some (.slice x.t.a x.t.l.length x.t.c) ∧ W.cell? ⟨b, o + 4, none⟩ = some (.int .i64 x.f.k) ∧ W.cell? ⟨b, o + 5, none⟩ = some (.slice x.f.a x.f.l.length x.f.c))
    (first
      | exact HC.out _ hbw
      | go_keep)
    (first
      | (go_at_call 151; refine (HN.out _ hbn).mono ?_; rintro e' w1 ⟨p1, H1, rfl, hcp1, hm1, hl1, hb1⟩; replace hbw := hm1.bel; clear HN)
      | (go_at_call 72; refine (plan_any hm1 (TkP.change hcp1) (by have := H.out.1; omega)).mono ?_; rintro e' w2 ⟨rfl, hm2, hf2⟩; replace hbw := hm2.bel))
  have k6 := cell_later hm2.bel H.out.2.2.2
  have lb2 : b < w2.heap.size := World.block_lt_of_cell? _ _ k6
  have H2 : Hid (MS w0 w2 M H1 (s.plan (changeT oc)) ∧ Fr M w w2 ∧ G.le H1) := ⟨hm2, ((Fr.below ((Below.refl _ _).drew.trans hb1) lM)).trans hf2, hl1⟩
  clear hm1 hm2 hf2 hb1 hcp1 hl1 hbw hbn
  go_wp2_with fail
  refine (plan_any H2.out.1 (TkP.look H.out.2.2.1 (H.out.2.1.le H2.out.2.2)) (by have := H.out.1; simp only [St.plan, List.length_cons]; omega)).mono ?_
  rintro e' w3 ⟨rfl, h3, f3⟩
  have HE : Hid (StPost w0 w M G ((s.plan (changeT oc)).plan (lookT y e)) (.returned (.tuple #[])) w3) := ⟨rfl, H1, H2.out.2.2, h3, H2.out.2.1.trans f3⟩
  clear h3 f3
  go_wp2_with fail
  go_end0
  exact HE.out
/-- look. -/
theorem look_any {w0 w : World} {M : Nat} {G : Gh} {s : St} (h : MS w0 w M G s) (hn : s.ts.length + 3 ≤ 1000000000) (hv : s.vs.length + 1 ≤ 1000000000) {p q : Option Addr} {x : Tm} {e : List Val} (hx : TmP w0 p x) (hs : G.sp q e) (sx : shp x) :
    Calls Tryz.prog 111 #[.pointer (some ⟨M, 0, none⟩), .pointer p, .pointer q] w (StPost w0 w M G (lookS s x e)) := by
  obtain ⟨k1, k10, hl, n1, n2, hn0, hg⟩ := sx.top
  have hk : x.k = 1 ∨ x.k = 2 ∨ x.k = 3 ∨ x.k = 4 ∨ x.k = 5 ∨ x.k = 6 ∨ x.k = 7 ∨ x.k = 8 ∨ x.k = 9 ∨ x.k = 10 := by omega
  obtain ⟨b, o, rfl, c0, c1⟩ := hx.top
  have part : 0 < x.l.length → ∃ lb lo c, w0.cell? ⟨b, o + 6, none⟩ = some (.slice (some ⟨lb, lo, none⟩) x.l.length c) ∧ TmP w0 (some ⟨lb, lo, none⟩) (x.at 0) := fun hp => by
    obtain ⟨b', o', lb, lo, c, e, c6, hi⟩ := hx.part hp
    cases e
    exact ⟨lb, lo, c, c6, by simpa using hi 0 hp⟩
  rcases hk with hk | hk | hk | hk | hk | hk | hk | hk | hk | hk
  · have e1 : lookS s x e = (match e[x.n.toNat]? with | some v => s.push v | none => s.stop stuckO) := by simp only [lookS, hk, if_true]; cases e[x.n.toNat]? <;> rfl
    rw [e1]
    have hz := hn0 hk
    have e2 : x.n = ((x.n.toNat : Nat) : Int) := (Int.toNat_of_nonneg hz).symm
    rw [hk] at c0
    rw [e2] at c1
    exact look_ref h hv hs x.n.toNat (by omega) c0 c1
  · have e1 : lookS s x e = s.push (if x.k = 2 then numV x.n else truthV x.n) := by simp only [lookS, hk]; rfl
    rw [e1]
    exact look_num h hv x.k x.n (.inl hk) c0 c1
  · have e1 : lookS s x e = s.push (if x.k = 2 then numV x.n else truthV x.n) := by simp only [lookS, hk]; rfl
    rw [e1]
    exact look_num h hv x.k x.n (.inr hk) c0 c1
  · have e1 : lookS s x e = bothS s x e (if x.k = 4 then 2 else if x.k = 5 then 3 else 5) := by simp only [lookS, hk]; rfl
    rw [e1]
    exact look_two h hn hs hx (by rw [hl, hk]; rfl) x.k (.inl hk) c0
  · have e1 : lookS s x e = bothS s x e (if x.k = 4 then 2 else if x.k = 5 then 3 else 5) := by simp only [lookS, hk]; rfl
    rw [e1]
    exact look_two h hn hs hx (by rw [hl, hk]; rfl) x.k (.inr (.inl hk)) c0
  · have hl3 : x.l.length = 3 := by rw [hl, hk]; rfl
    obtain ⟨lb, lo, c, c6, h0⟩ := part (by omega)
    rw [hl3] at c6
    have e1 : lookS s x e = (s.plan (chooseT x e)).plan (lookT (x.at 0) e) := by simp only [lookS, hk]; rfl
    rw [e1]
    rw [hk] at c0
    exact look_if h (by omega) hs hx h0 c0 c6
  · have hl1 : x.l.length = 1 := by rw [hl, hk]; rfl
    obtain ⟨lb, lo, c, c6, h0⟩ := part (by omega)
    rw [hl1] at c6
    have e1 : lookS s x e = s.push (funV (x.at 0) e) := by simp only [lookS, hk]; rfl
    rw [e1]
    rw [hk] at c0
    exact look_fn h hv hs h0 c0 c6
  · have e1 : lookS s x e = bothS s x e (if x.k = 4 then 2 else if x.k = 5 then 3 else 5) := by simp only [lookS, hk]; rfl
    rw [e1]
    exact look_two h hn hs hx (by rw [hl, hk]; rfl) x.k (.inr (.inr hk)) c0
  · have hl1 : x.l.length = 1 := by rw [hl, hk]; rfl
    obtain ⟨lb, lo, c, c6, h0⟩ := part (by omega)
    rw [hl1] at c6
    have e1 : lookS s x e = s.plan (lookT (x.at 0) e) := by simp only [lookS, hk]; rfl
    rw [e1]
    rw [hk] at c0
    exact look_as h (by omega) hs h0 c0 c6
  · have hl1 : x.l.length = 1 := by rw [hl, hk]; rfl
    obtain ⟨lb, lo, c, c6, h0⟩ := part (by omega)
    rw [hl1] at c6
    have e1 : lookS s x e = (s.plan (changeT (newC 100 x.f x.t (blameO x.n)))).plan (lookT (x.at 0) e) := by simp only [lookS, hk]; rfl
    rw [e1]
    obtain ⟨b', o', y, e2, ha, hi, rfl⟩ := hx
    cases e2
    obtain ⟨g1, g2⟩ := hg hk
    rw [y.tm_t] at g1
    rw [y.tm_f] at g2
    rw [y.tm_t, y.tm_f, y.tm_n]
    exact look_cast h (by omega) hs ha hi h0 (by rw [← y.tm_k]; exact hk) c6 (by rw [goodT_eq]; exact g1) (by rw [goodT_eq]; exact g2)
set_option maxRecDepth 20000 in
set_option maxHeartbeats 4000000 in
/-- step. -/
theorem step_any {w0 w : World} {M : Nat} {G : Gh} {s : St} (h : MS w0 w M G s) (hn : s.ts.length + 3 ≤ 1000000000) (hv : s.vs.length + 2 ≤ 1000000000) (hc : s.calls ≤ 1000) (hok : ∀ v, v ∈ s.vs → okV v) {t : Task} (ht : okT t) (hw : ∃ q, wfT (t :: s.ts) q ∧ fl q s.vs) {d : Int} {pt ps pc : Option Addr} (hp : TkP w0 G t d pt ps pc) :
    Calls Tryz.prog 73 #[.pointer (some ⟨M, 0, none⟩), .agg #[.int .i64 d, .pointer pt, .pointer ps, .pointer pc]] w (StPost w0 w M G (doS s t)) := by
  obtain ⟨W, hW⟩ : ∃ W, W = w.alloc (.cells #[.int .i64 d, .pointer pt, .pointer ps, .pointer pc] 130) := ⟨_, rfl⟩
  have hb : Below w.heap.size w W := by rw [hW]; exact (Below.refl _ _).alloc (Nat.le_refl _) _
  have hm := h.below hb
  obtain ⟨hd, hts, htc⟩ := hp
  have up : ∀ e w', StPost w0 W M G (doS s t) e w' → e = .returned (.tuple #[]) ∧ Hid (StPost w0 w M G (doS s t) (.returned (.tuple #[])) w') := fun e w' hp => by
    obtain ⟨rfl, K, hl, hm', hf⟩ := hp
    exact ⟨rfl, rfl, K, hl, hm', (Fr.below hb h.lt).trans hf⟩
  obtain ⟨q, hwt, hfl⟩ := hw
  obtain ⟨ts, vs, ca, fu, en⟩ := s
  simp only at hn hv hc hok hwt hfl
  obtain ⟨S', hS⟩ : ∃ S', S' = doS ⟨ts, vs, ca, fu, en⟩ t := ⟨_, rfl⟩
  rw [← hS] at up ⊢
  have cases6 : (t.d = 1 ∧ Hid (Calls Tryz.prog 111 #[.pointer (some ⟨M, 0, none⟩), .pointer pt, .pointer ps] W fun e w' => e = .returned (.tuple #[]) ∧ Hid (StPost w0 w M G S' (.returned (.tuple #[])) w'))) ∨ (t.d = 2 ∧ Hid (Calls Tryz.prog 112 #[.pointer (some ⟨M, 0, none⟩)] W fun e w' => e = .returned (.tuple #[]) ∧ Hid (StPost w0 w M G S' (.returned (.tuple #[])) w'))) ∨ (t.d = 3 ∧ Hid (Calls Tryz.prog 113 #[.pointer (some ⟨M, 0, none⟩)] W fun e w' => e = .returned (.tuple #[]) ∧ Hid (StPost w0 w M G S' (.returned (.tuple #[])) w'))) ∨ (t.d = 4 ∧ Hid (Calls Tryz.prog 114 #[.pointer (some ⟨M, 0, none⟩), .pointer pt, .pointer ps] W fun e w' => e = .returned (.tuple #[]) ∧ Hid (StPost w0 w M G S' (.returned (.tuple #[])) w'))) ∨ ((t.d = 5 ∨ t.d = 7) ∧ Hid (Calls Tryz.prog 115 #[.pointer (some ⟨M, 0, none⟩)] W fun e w' => e = .returned (.tuple #[]) ∧ Hid (StPost w0 w M G S' (.returned (.tuple #[])) w'))) ∨ (t.d = 6 ∧ Hid (Calls Tryz.prog 116 #[.pointer (some ⟨M, 0, none⟩), .pointer pc] W fun e w' => e = .returned (.tuple #[]) ∧ Hid (StPost w0 w M G S' (.returned (.tuple #[])) w'))) := by
    rcases hwt with ⟨e1, _⟩ | ⟨e1, b, r, rfl, _⟩ | ⟨e1, a, b, r, rfl, _⟩ | ⟨e1, a, r, rfl, _⟩
    · obtain ⟨hx, hz, he⟩ := ht.1 (.inl e1)
      obtain ⟨hp1, hp2⟩ := hts (.inl e1)
      refine .inl ⟨e1, (look_any hm hn (show vs.length + 1 ≤ _ by omega) hp1 hp2 hx).mono fun e w' hh => up e w' ?_⟩
      have : S' = lookS ⟨ts, vs, ca, fu, en⟩ t.x t.s := by rw [hS]; simp only [doS, e1, if_true]
      rw [this]; exact hh
    · obtain ⟨v, vs', rfl, _, hf'⟩ := fl_one hfl
      simp only [List.length_cons] at hv
      rcases e1 with e1 | e1
      · obtain ⟨hx, hz, he⟩ := ht.1 (.inr e1)
        obtain ⟨hp1, hp2⟩ := hts (.inr e1)
        have hl3 : t.x.l.length = 3 := by rw [hx.top.2.2.1, ht.2.1 e1]; rfl
        refine .inr (.inr (.inr (.inl ⟨e1, (choose_raw hm (by omega) (by omega) hp1 hp2 hl3).mono fun e w' hh => up e w' ?_⟩)))
        have : S' = (if v.k = 2 then (St.plan ⟨ts, vs', ca, fu, en⟩ (lookT (t.x.at (if v.n = 1 then 1 else 2)) t.s)) else St.stop ⟨ts, vs', ca, fu, en⟩ stuckO) := by rw [hS]; simp only [doS, e1]; rfl
        rw [this]; exact hh
      · refine .inr (.inr (.inr (.inr (.inr ⟨e1, (change_raw hm (by omega) htc).mono fun e w' hh => up e w' ?_⟩))))
        have : S' = changeS ⟨ts, vs', ca, fu, en⟩ t.c v := by rw [hS]; simp only [doS, e1]; rfl
        rw [this]; exact hh
    · obtain ⟨v, vs1, rfl, _, hf1⟩ := fl_one hfl
      obtain ⟨u, vs', rfl, _, hf'⟩ := fl_one hf1
      simp only [List.length_cons] at hv
      have hu := (hok u (by simp)).top
      have hvv := (hok v (by simp)).top
      rcases e1 with e1 | e1 | e1
      · refine .inr (.inl ⟨e1, (sum_raw hm (by omega) rfl ⟨hu.2.2.1, hu.2.2.2⟩ ⟨hvv.2.2.1, hvv.2.2.2⟩).mono fun e w' hh => up e w' ?_⟩)
        have : S' = ⟨ts, numV (clampI (u.n + v.n)) :: vs', ca, fu, if u.k = 1 ∧ v.k = 1 then en else stuckO⟩ := by rw [hS]; simp only [doS, e1]; rfl
        rw [this]; exact hh
      · refine .inr (.inr (.inl ⟨e1, (compare_raw hm (by omega) rfl).mono fun e w' hh => up e w' ?_⟩))
        have : S' = ⟨ts, truthV (if u.n < v.n then 1 else 0) :: vs', ca, fu, if u.k = 1 ∧ v.k = 1 then en else stuckO⟩ := by rw [hS]; simp only [doS, e1]; rfl
        rw [this]; exact hh
      · refine .inr (.inr (.inr (.inr (.inl ⟨.inl e1, (call_raw hm (by omega) hn hc).mono fun e w' hh => up e w' ?_⟩))))
        have : S' = callS ⟨ts, vs', ca, fu, en⟩ u v := by rw [hS]; simp only [doS, e1]; rfl
        rw [this]; exact hh
    · obtain ⟨v, vs1, rfl, _, hf1⟩ := fl_one hfl
      obtain ⟨u, vs', rfl, _, hf'⟩ := fl_one hf1
      simp only [List.length_cons] at hv
      refine .inr (.inr (.inr (.inr (.inl ⟨.inr e1, (call_raw hm (by omega) hn hc).mono fun e w' hh => up e w' ?_⟩))))
      have : S' = callS ⟨ts, vs', ca, fu, en⟩ u v := by rw [hS]; simp only [doS, e1]; rfl
      rw [this]; exact hh
  clear hS up hfl hwt hm hb h ht hts htc hok hn hv hc
  rcases cases6 with ⟨e1, HC⟩ | ⟨e1, HC⟩ | ⟨e1, HC⟩ | ⟨e1, HC⟩ | ⟨e1, HC⟩ | ⟨e1, HC⟩
  · have hd1 : d = 1 := by rw [hd, e1]; rfl
    subst hd1
    clear e1 hd
    go_enter Tryz.func73, Tryz.ntmps73
    go_wp2_with fail
    rw [← hW]
    refine HC.out.mono ?_
    rintro e' w2 ⟨rfl, HE⟩
    go_wp2_with fail
    go_end0
    exact HE.out
  · have hd1 : d = 2 := by rw [hd, e1]; rfl
    subst hd1
    clear e1 hd
    go_enter Tryz.func73, Tryz.ntmps73
    go_wp2_with fail
    rw [← hW]
    refine HC.out.mono ?_
    rintro e' w2 ⟨rfl, HE⟩
    go_wp2_with fail
    go_end0
    exact HE.out
  · have hd1 : d = 3 := by rw [hd, e1]; rfl
    subst hd1
    clear e1 hd
    go_enter Tryz.func73, Tryz.ntmps73
    go_wp2_with fail
    rw [← hW]
    refine HC.out.mono ?_
    rintro e' w2 ⟨rfl, HE⟩
    go_wp2_with fail
    go_end0
    exact HE.out
  · have hd1 : d = 4 := by rw [hd, e1]; rfl
    subst hd1
    clear e1 hd
    go_enter Tryz.func73, Tryz.ntmps73
    go_wp2_with fail
    rw [← hW]
    refine HC.out.mono ?_
    rintro e' w2 ⟨rfl, HE⟩
    go_wp2_with fail
    go_end0
    exact HE.out
  · have hd1 : d = 5 := by rw [hd]; rcases e1 with e1 | e1 <;> rw [e1] <;> rfl
    subst hd1
    clear e1 hd
    go_enter Tryz.func73, Tryz.ntmps73
    go_wp2_with fail
    rw [← hW]
    refine HC.out.mono ?_
    rintro e' w2 ⟨rfl, HE⟩
    go_wp2_with fail
    go_end0
    exact HE.out
  · have hd1 : d = 6 := by rw [hd, e1]; rfl
    subst hd1
    clear e1 hd
    go_enter Tryz.func73, Tryz.ntmps73
    go_wp2_with fail
    rw [← hW]
    refine HC.out.mono ?_
    rintro e' w2 ⟨rfl, HE⟩
    go_wp2_with fail
    go_end0
    exact HE.out
end Go.Proofs.YtnddkmccagiclabGreatDoor

/-
  What the calls of the machine's run and of run's outcome answer.
-/
namespace Go.Proofs.YtnddkmccagiclabGreatDoor
open Go.RowKit
theorem wfT_len : ∀ (ts : List Task) (q : List Bool), wfT ts q → q.length ≤ ts.length + 1
  | [], q, h => by obtain ⟨b, rfl⟩ := h; simp
  | t :: ts, q, h => by
    rcases h with ⟨_, h⟩ | ⟨_, b, r, rfl, h⟩ | ⟨_, a, b, r, rfl, h⟩ | ⟨_, a, r, rfl, h⟩
    · have := wfT_len ts _ h; simp at this ⊢; omega
    · have := wfT_len ts _ h; simp at this ⊢; omega
    · have := wfT_len ts _ h; simp at this ⊢; omega
    · have := wfT_len ts _ h; simp at this ⊢; omega
theorem fl_len : ∀ (q : List Bool) (vs : List Val), fl q vs → vs.length = q.length
  | [], [], _ => rfl
  | _ :: q, _ :: vs, h => by simp [fl_len q vs h.2]
  | [], _ :: _, h => by cases h
  | _ :: _, [], h => by cases h
theorem ts_len : ∀ ts : List Task, ts.length ≤ (ts.map tw).sum
  | [] => by simp
  | t :: ts => by
    have h1 : 1 ≤ tw t := by
      unfold tw
      have := t.x.tsz_pos
      split
      · omega
      · split
        · omega
        · split <;> omega
    have h2 := ts_len ts
    simp only [List.length_cons, List.map_cons, List.sum_cons]
    omega
theorem okS.small {s : St} (h : okS s) (hm : mu s ≤ 200000) : s.ts.length ≤ 200000 ∧ s.vs.length ≤ 200001 ∧ s.calls ≤ 100 := by
  obtain ⟨q, h1, h2⟩ := h.q
  have a := ts_len s.ts
  have b := wfT_len _ _ h1
  have c := fl_len _ _ h2
  have d : (s.ts.map tw).sum ≤ mu s := by unfold mu; omega
  have e := h.le
  have f := h.max
  omega
/-- A task is taken off. -/
theorem MS.pop {w0 w : World} {M : Nat} {G : Gh} {t : Task} {r : List Task} {vs : List Val} {ca fu : Nat} {en : Out} (h : MS w0 w M G ⟨t :: r, vs, ca, fu, en⟩) : ∃ g cap d pt ps pc, w.cell? ⟨M, 0, none⟩ = some (.slice (some ⟨g, 0, none⟩) (r.length + 1) cap) ∧ r.length + 1 ≤ cap ∧ g < w.heap.size ∧ g ≠ M ∧
    w.cell? ⟨g, r.length * 4, none⟩ = some (.int .i64 d) ∧ w.cell? ⟨g, r.length * 4 + 1, none⟩ = some (.pointer pt) ∧ w.cell? ⟨g, r.length * 4 + 2, none⟩ = some (.pointer ps) ∧ w.cell? ⟨g, r.length * 4 + 3, none⟩ = some (.pointer pc) ∧ TkP w0 G t d pt ps pc ∧
    MS w0 (w.setCell ⟨M, 0, none⟩ (.slice (some ⟨g, 0, none⟩) r.length cap)) M G ⟨r, vs, ca, fu, en⟩ ∧ Fr M w (w.setCell ⟨M, 0, none⟩ (.slice (some ⟨g, 0, none⟩) r.length cap)) := by
  obtain ⟨tv, mv, txs, mxs, h0, h1, o0, o1, hne, ht, hvr⟩ := h.ex
  obtain ⟨ys, d, pt, ps, pc, rfl, htr, htk⟩ := ht
  obtain ⟨g, cap, rfl, hb, hlt⟩ := o0.form (by simp)
  have hys : ys.length = r.length * 4 := by
    have := o0.1
    simp at this
    omega
  have cell : ∀ i (v : Value), i < 4 → [Value.int .i64 d, .pointer pt, .pointer ps, .pointer pc][i]? = some v → w.cell? ⟨g, r.length * 4 + i, none⟩ = some v := fun i v hi hv => by
    have := o0.cellAt (r.length * 4 + i) (by simp; omega)
    rw [this, List.getElem?_append_right (by omega)]
    rw [show r.length * 4 + i - ys.length = i by omega]
    exact hv
  have hcap : r.length + 1 ≤ cap := by
    rcases o0.2 with ⟨h, _⟩ | ⟨g', cap', cur, h, _, _, h1, _⟩
    · cases h
    · cases h; simpa using h1
  have hgM : g ≠ M := by omega
  have oc : ∀ i, i ≠ 0 → (w.setCell ⟨M, 0, none⟩ (.slice (some ⟨g, 0, none⟩) r.length cap)).cell? ⟨M, i, none⟩ = w.cell? ⟨M, i, none⟩ := fun i hi => World.cell?_setCell_other _ _ _ _ (by intro e; cases e; exact hi rfl)
  have o0c : (w.setCell ⟨M, 0, none⟩ (.slice (some ⟨g, 0, none⟩) r.length cap)).cell? ⟨M, 0, none⟩ = some (.slice (some ⟨g, 0, none⟩) r.length cap) := World.cell?_setCell_same _ _ _ h0
  have rowBack : ∀ k, rowB (w.setCell ⟨M, 0, none⟩ (.slice (some ⟨g, 0, none⟩) r.length cap)) M k → rowB w M k := by
    rintro k ⟨u, hu, hc | hc⟩
    · rw [o0c] at hc
      cases hc
      exact ⟨_, (by simpa [Value.ownBlock] using hu), .inl h0⟩
    · rw [oc 1 (by omega)] at hc; exact ⟨u, hu, .inr hc⟩
  have hf : Fr M w (w.setCell ⟨M, 0, none⟩ (.slice (some ⟨g, 0, none⟩) r.length cap)) := ⟨rfl, rfl, rfl, by simp [World.setCell], fun k _ h1 h2 => ⟨Below.heap_setCell _ _ _ _ h1, fun hr => h2 (rowBack k hr)⟩⟩
  refine ⟨g, cap, d, pt, ps, pc, by simpa using h0, hcap, hlt, hgM, by simpa using cell 0 _ (by omega) rfl, cell 1 _ (by omega) rfl, cell 2 _ (by omega) rfl, cell 3 _ (by omega) rfl, htk, ⟨⟨_, mv, ys, mxs, o0c, (oc 1 (by omega)).trans h1, ownsRow_setCell_below (ownsRow_pop hys (by simpa using o0)) (by simp) _, ownsRow_setCell_below o1 (by simp) _, fun k hk1 hk2 => hne k (by simpa [Value.ownBlock] using hk1) hk2, htr, hvr⟩, (oc 2 (by omega)).trans h.c2, (oc 3 (by omega)).trans h.c3, (oc 4 (by omega)).trans h.c4, (oc 5 (by omega)).trans h.c5, (oc 6 (by omega)).trans h.c6, fun o => by simpa using h.fz o, ?_, fun b hb => ⟨(h.far b hb).1, fun hr => (h.far b hb).2 (rowBack b hr)⟩, h.bel.trans ((Below.refl _ _).setCell h.lo _), h.lo⟩, hf⟩
  exact h.hg.of fun b hb i => hf.cell (h.hg.lt hb) (h.far b hb).1 (h.far b hb).2 i
/-- How the tasks' list looks. -/
theorem MS.tasks {w0 w : World} {M : Nat} {G : Gh} {s : St} (h : MS w0 w M G s) : ∃ a c, w.cell? ⟨M, 0, none⟩ = some (.slice a s.ts.length c) := by
  obtain ⟨tv, mv, txs, mxs, h0, h1, o0, o1, hne, ht, hvr⟩ := h.ex
  rcases o0.2 with ⟨rfl, e⟩ | ⟨g, cap, cur, rfl, _⟩
  · exact ⟨none, 0, by rw [e]; exact h0⟩
  · exact ⟨_, _, h0⟩
theorem set3_cells {b : Nat} {W : World} {x0 x1 x2 u v z : Value} (h0 : W.cell? ⟨b, 0, none⟩ = some x0) (h1 : W.cell? ⟨b, 1, none⟩ = some x1) (h2 : W.cell? ⟨b, 2, none⟩ = some x2) :
    (((W.setCell ⟨b, 0, none⟩ u).setCell ⟨b, 1, none⟩ v).setCell ⟨b, 2, none⟩ z).cell? ⟨b, 0, none⟩ = some u ∧ (((W.setCell ⟨b, 0, none⟩ u).setCell ⟨b, 1, none⟩ v).setCell ⟨b, 2, none⟩ z).cell? ⟨b, 1, none⟩ = some v ∧ (((W.setCell ⟨b, 0, none⟩ u).setCell ⟨b, 1, none⟩ v).setCell ⟨b, 2, none⟩ z).cell? ⟨b, 2, none⟩ = some z := by
  refine ⟨?_, ?_, ?_⟩
  · rw [set_other (by omega), set_other (by omega)]; exact set_same h0
  · rw [set_other (by omega)]; exact set_same ((set_other (by omega)).trans h1)
  · exact set_same ((set_other (by omega)).trans ((set_other (by omega)).trans h2))
def mk (s : St) : Nat := if s.ended.k = 0 then mu s else 0
/-- The machine that has gone so far, in memory. -/
def RunI (w0 W1 : World) (M : Nat) (x : Tm) (fuel : Nat) (k : Nat) (wr : World) : Prop := ∃ n G s, s = runN n (st0 x fuel) ∧ (s.ended.k = 0 → okS s ∧ mu s ≤ 200000) ∧ MS w0 wr M G s ∧ Fr M W1 wr ∧ k = mk s
set_option maxRecDepth 20000 in
set_option maxHeartbeats 8000000 in
theorem run_any {w0 w : World} {M : Nat} {G : Gh} {x : Tm} {fuel : Nat} {p : Option Addr} (h : MS w0 w M G ⟨[], [], 0, fuel, out0⟩) (hx : TmP w0 p x) (sx : shp x) (hz : x.tsz ≤ 100) (hf : fuel ≤ 100) :
    Calls Tryz.prog 43 #[.pointer (some ⟨M, 0, none⟩), .pointer p] w fun e w' => e = .returned (.agg #[.int .i64 (runM x fuel).k, .int .i64 (runM x fuel).n, .bool (runM x fuel).b]) ∧ Below w0.heap.size w0 w' := by
  obtain ⟨hok0, hmu0⟩ := st0_ok sx hz hf
  obtain ⟨O, hO⟩ : ∃ O, O = runM x fuel := ⟨_, rfl⟩
  rw [← hO]
  have HO : Hid (∀ n, (runN n (st0 x fuel)).done → O = finO (runN n (st0 x fuel))) := fun n hd => by rw [hO]; exact runM_of sx hz hf hd
  have hMw := h.lt
  have HN : Hid (∀ n, (runN n (st0 x fuel)).ended.k = 0 → okS (runN n (st0 x fuel)) ∧ mu (runN n (st0 x fuel)) ≤ 200000) := fun n hn => by
    obtain ⟨a, b⟩ := run_ok hok0 n hn
    refine ⟨a, ?_⟩
    rcases b with b | b
    · omega
    · have := a.max
      simp only [mu, b, List.map_nil, List.sum_nil]
      omega
  obtain ⟨W1, hW1⟩ : ∃ W, W = w.alloc (.cells #[.int .i64 0, .int .i64 0, .bool false] 29) := ⟨_, rfl⟩
  have hb1 : Below w.heap.size w W1 := by rw [hW1]; exact (Below.refl _ _).alloc (Nat.le_refl _) _
  have hm1 := h.below hb1
  have z0 : W1.cell? ⟨w.heap.size, 0, none⟩ = some (.int .i64 0) := by rw [hW1]; simp [go_sem]
  have z1 : W1.cell? ⟨w.heap.size, 1, none⟩ = some (.int .i64 0) := by rw [hW1]; simp [go_sem]
  have z2 : W1.cell? ⟨w.heap.size, 2, none⟩ = some (.bool false) := by rw [hW1]; simp [go_sem]
  have zf : ∀ i, W1.frozen? ⟨w.heap.size, i, none⟩ = false := by intro i; rw [hW1]; simp [go_sem]
  have hrow : ¬ rowB W1 M w.heap.size := fun hr => by
    obtain ⟨u, hu, hc⟩ := hr
    obtain ⟨tv, mv, txs, mxs, e0, e1, o0, o1, _⟩ := h.ex
    have e0' := cell_later hb1 e0
    have e1' := cell_later hb1 e1
    rcases hc with hc | hc
    · rw [e0'] at hc; cases hc
      have := (o0.lt _ hu).2; omega
    · rw [e1'] at hc; cases hc
      have := (o1.lt _ hu).2; omega
  have hlt1 : w.heap.size < W1.heap.size := World.block_lt_of_cell? _ _ z0
  have HR : Hid (∀ wr, Fr M W1 wr → wr.cell? ⟨w.heap.size, 0, none⟩ = some (.int .i64 0) ∧ wr.cell? ⟨w.heap.size, 1, none⟩ = some (.int .i64 0) ∧ wr.cell? ⟨w.heap.size, 2, none⟩ = some (.bool false) ∧ (∀ i, wr.frozen? ⟨w.heap.size, i, none⟩ = false) ∧ w.heap.size < wr.heap.size) := fun wr hfr =>
    ⟨(hfr.cell hlt1 (by omega) hrow 0).trans z0, (hfr.cell hlt1 (by omega) hrow 1).trans z1, (hfr.cell hlt1 (by omega) hrow 2).trans z2, fun i => (hfr.frozen hlt1 (by omega) hrow i).trans (zf i), Nat.lt_of_lt_of_le hlt1 hfr.size⟩
  have HP : Hid (Calls Tryz.prog 72 #[.pointer (some ⟨M, 0, none⟩), .agg #[.int .i64 1, .pointer p, .pointer none, .pointer none]] W1 fun e w' => e = .returned (.tuple #[]) ∧ MS w0 w' M G (st0 x fuel) ∧ Fr M W1 w') := plan_any hm1 (TkP.look hx (Gh.sp_nil G)) (by simp)
  have HM : Hid (w0.heap.size ≤ w.heap.size ∧ w.heap.size ≠ M) := ⟨h.bel.size, by omega⟩
  clear h hx hz hf hok0 hmu0 hO hb1 hm1 z0 z1 z2 zf hrow hlt1 sx
  go_enter Tryz.func43, Tryz.ntmps43
  go_wp2_with fail
  rw [← hW1]
  clear hW1
  refine HP.out.mono ?_
  rintro e w2 ⟨rfl, hm2, hf2⟩
  have HI0 : Hid (RunI w0 W1 M x fuel (mk (st0 x fuel)) w2) := ⟨0, G, st0 x fuel, rfl, HN.out 0, hm2, hf2, rfl⟩
  clear hm2 hf2 HP
  go_wp2_with fail
  go_loopg [] (mk (st0 x fuel)) (fun k wr => Hid (RunI w0 W1 M x fuel k wr))
  case atStart => exact HI0
  case round =>
    obtain ⟨n, G', s, hs, hok, hm, hfr, hk⟩ := hrel.out
    have lM := hm.lt
    have m4 := hm.c4
    obtain ⟨r0, r1, r2, rf, rl⟩ := HR.out wr hfr
    have rf0 := rf 0
    have rf1 := rf 1
    have rf2 := rf 2
    have HE : Hid (∀ (o : Out) (W : World), Below w0.heap.size w0 W → Below w0.heap.size w0 (((W.setCell ⟨w.heap.size, 0, none⟩ (.int .i64 o.k)).setCell ⟨w.heap.size, 1, none⟩ (.int .i64 o.n)).setCell ⟨w.heap.size, 2, none⟩ (.bool o.b))) := fun o W hW => ((hW.setCell HM.out.1 _).setCell HM.out.1 _).setCell HM.out.1 _
    by_cases h0 : s.ended.k = 0
    · obtain ⟨okk, hmu⟩ := hok h0
      have e0 : (s.ended.k == 0) = true := by simpa using h0
      obtain ⟨ts, vs, ca, fu, en⟩ := s
      simp only at h0 e0 m4
      rw [h0] at m4
      match ts, hs, okk, hmu, hm, hk with
      | [], hs, okk, hmu, hm, hk =>
        obtain ⟨q, hq1, hq2⟩ := okk.q
        obtain ⟨b, rfl⟩ := hq1
        obtain ⟨v, r, hvs, _, hr⟩ := fl_one hq2
        simp only at hvs
        have hr0 : r = [] := by
          have := fl_len _ _ hr
          exact List.length_eq_zero_iff.1 (by simpa using this)
        subst hr0
        subst hvs
        obtain ⟨a, c, m0⟩ := hm.tasks
        simp only [List.length_nil] at m0
        have HO2 : Hid (O = toldV v) := by
          have := HO.out n (by rw [← hs]; exact .inr rfl)
          rw [this, ← hs]; unfold finO; rw [if_pos h0]; rfl
        have HT : Hid (Calls Tryz.prog 75 #[.pointer (some ⟨M, 0, none⟩)] wr fun e w' => ∃ p, e = .returned (.pointer p) ∧ G'.vp p v ∧ MS w0 w' M G' ⟨[], [], ca, fu, en⟩ ∧ Fr M wr w') := take_any' hm rfl (by simp)
        have HF : Hid (Fr M W1 wr) := hfr
        clear hs hok hm hfr hk h0 rf hrel HN HO HI0 okk hmu hq2 hr e0
        go_wp2_with fail
        refine HT.out.mono ?_
        rintro e w3 ⟨p3, rfl, hv3, hm3, hf3⟩
        have H3 : Hid (MS w0 w3 M G' ⟨[], [], ca, fu, en⟩ ∧ Fr M W1 w3 ∧ G'.vp p3 v) := ⟨hm3, HF.out.trans hf3, hv3⟩
        clear hm3 hf3 hv3 r0 r1 r2 rf0 rf1 rf2 rl
        go_wp2_with fail
        refine (told_any H3.out.1.hg H3.out.2.2).mono ?_
        rintro e w4 ⟨rfl, hb4⟩
        have hm4 := H3.out.1.below hb4
        have hf4 : Fr M W1 w4 := H3.out.2.1.trans (Fr.below hb4 H3.out.1.lt)
        obtain ⟨r0, r1, r2, rf, rl⟩ := HR.out w4 hf4
        have y4 := hm4.c4
        have y5 := hm4.c5
        have y6 := hm4.c6
        have g4 := hm4.fz 4
        have g5 := hm4.fz 5
        have g6 := hm4.fz 6
        have lM4 := hm4.lt
        have rf0 := rf 0
        have rf1 := rf 1
        have rf2 := rf 2
        have hMne : w.heap.size ≠ M := HM.out.2
        have HB4 : Hid (Below w0.heap.size w0 (((w4.setCell ⟨M, 4, none⟩ (.int .i64 (toldV v).k)).setCell ⟨M, 5, none⟩ (.int .i64 (toldV v).n)).setCell ⟨M, 6, none⟩ (.bool (toldV v).b))) := ((hm4.bel.setCell hm4.lo _).setCell hm4.lo _).setCell hm4.lo _
        have farc : ∀ i, (((w4.setCell ⟨M, 4, none⟩ (.int .i64 (toldV v).k)).setCell ⟨M, 5, none⟩ (.int .i64 (toldV v).n)).setCell ⟨M, 6, none⟩ (.bool (toldV v).b)).cell? ⟨w.heap.size, i, none⟩ = w4.cell? ⟨w.heap.size, i, none⟩ := fun i => by
          rw [World.cell?_setCell_far _ _ _ _ (Ne.symm hMne), World.cell?_setCell_far _ _ _ _ (Ne.symm hMne), World.cell?_setCell_far _ _ _ _ (Ne.symm hMne)]
        have x0 := (farc 0).trans r0
        have x1 := (farc 1).trans r1
        have x2 := (farc 2).trans r2
        have HX : Hid _ := set3_cells (u := .int .i64 (toldV v).k) (v := .int .i64 (toldV v).n) (z := .bool (toldV v).b) x0 x1 x2
        clear hm4 hf4 hb4 rf farc HR
        go_wp2_with fail
        obtain ⟨q0, q1, q2⟩ := HX.out
        refine bodyPost_ret (v := .agg #[.int .i64 O.k, .int .i64 O.n, .bool O.b]) ?_ rfl ⟨rfl, HE.out (toldV v) _ HB4.out⟩
        rw [HO2.out]
        simp [results, Tryz.results43, go_sem, q0, q1, q2]
      | t :: r, hs, okk, hmu, hm, hk =>
        obtain ⟨g, cap, d, pt, ps, pc, m0, hcap, lg, hgM, c0, c1, c2, c3, htk, hm5, hf5⟩ := hm.pop
        have f0 := hm.fz 0
        obtain ⟨sm1, sm2, sm3⟩ := okk.small hmu
        simp only [List.length_cons] at sm1
        simp only at sm2 sm3
        obtain ⟨X, hX⟩ : ∃ X, X = Obj.cells #[.int .i64 d, .pointer pt, .pointer ps, .pointer pc] 130 := ⟨_, rfl⟩
        obtain ⟨W5, hW5⟩ : ∃ W, W = (wr.setCell ⟨M, 0, none⟩ (.slice (some ⟨g, 0, none⟩) r.length cap)).alloc X := ⟨_, rfl⟩
        have hb5 : Below (wr.setCell ⟨M, 0, none⟩ (.slice (some ⟨g, 0, none⟩) r.length cap)).heap.size (wr.setCell ⟨M, 0, none⟩ (.slice (some ⟨g, 0, none⟩) r.length cap)) W5 := by rw [hW5]; exact (Below.refl _ _).alloc (Nat.le_refl _) _
        have hm6 := hm5.below hb5
        have hf6 : Fr M W1 W5 := hfr.trans (hf5.trans (Fr.below hb5 hm5.lt))
        have hst : stepS ⟨t :: r, vs, ca, fu, en⟩ = doS ⟨r, vs, ca, fu, en⟩ t := by simp only [stepS]; rw [if_pos h0]
        have hs1 : doS ⟨r, vs, ca, fu, en⟩ t = runN (n + 1) (st0 x fuel) := by rw [runN_succ, ← hs, hst]
        have hnx := step_next okk h0 (by simp)
        rw [hst] at hnx
        have HS : Hid (Calls Tryz.prog 73 #[.pointer (some ⟨M, 0, none⟩), .agg #[.int .i64 d, .pointer pt, .pointer ps, .pointer pc]] W5 fun e w' => e = .returned (.tuple #[]) ∧ Hid (RunI w0 W1 M x fuel (mk (doS ⟨r, vs, ca, fu, en⟩ t)) w')) := by
          refine (step_any hm6 (by simp only; omega) (by simp only; omega) (by simp only; omega) okk.vs (okk.ts t (by simp)) okk.q htk).mono ?_
          rintro e w' ⟨rfl, H', _, hm', hf'⟩
          refine ⟨rfl, n + 1, H', _, hs1, fun h => ?_, hm', hf6.trans hf', rfl⟩
          have h' := h
          rw [hs1] at h' ⊢
          exact HN.out (n + 1) h'
        have HK : Hid (mk (doS ⟨r, vs, ca, fu, en⟩ t) < gk) := by
          rw [hk]
          have hpos := mu_pos okk (by simp)
          unfold mk
          simp only [h0, if_true]
          split
          · rename_i h1; exact (hnx h1).2
          · exact hpos
        clear hs hok hm hfr hk h0 rf hrel HR HN HO HI0 okk hmu hm5 hf5 hb5 hm6 hf6 hst hs1 hnx htk e0 r0 r1 r2 rf0 rf1 rf2 rl
        subst hX
        go_wp2_with fail
        rw [← hW5]
        refine HS.out.mono ?_
        rintro e w6 ⟨rfl, HE2⟩
        clear hW5
        go_wp2_with fail
        go_roundg (mk (doS ⟨r, vs, ca, fu, en⟩ t))
        case measure => exact HK.out
        case rel => exact HE2
    · have HO2 : Hid (O = s.ended ∧ Below w0.heap.size w0 wr) := ⟨by
        have := HO.out n (by rw [← hs]; exact .inl h0)
        rw [this, ← hs]; unfold finO; rw [if_neg h0], hm.bel⟩
      have e0 : (s.ended.k == 0) = false := by simpa using h0
      have m5 := hm.c5
      have m6 := hm.c6
      clear hs hok hm hfr hk h0 rf hrel HR HN HO HI0
      go_wp2_with fail
      obtain ⟨q0, q1, q2⟩ := set3_cells (u := .int .i64 s.ended.k) (v := .int .i64 s.ended.n) (z := .bool s.ended.b) r0 r1 r2
      refine bodyPost_ret (v := .agg #[.int .i64 O.k, .int .i64 O.n, .bool O.b]) ?_ rfl ⟨rfl, HE.out s.ended _ HO2.out.2⟩
      rw [HO2.out.1]
      simp [results, Tryz.results43, go_sem, q0, q1, q2]
set_option maxRecDepth 20000 in
set_option maxHeartbeats 4000000 in
theorem outcome_range (x : TT) (f : Int) (hf : f < 0 ∨ 100 < f) (w : World) :
    Calls Tryz.prog 26 #[.agg #[.int .i64 x.k, .int .i64 x.n, .int .i64 x.t.k, .slice x.t.a x.t.l.length x.t.c, .int .i64 x.f.k, .slice x.f.a x.f.l.length x.f.c, .slice x.a x.l.length x.c], .int .i64 f] w fun e w' => e = .returned (.tuple #[.agg #[.int .i64 0, .int .i64 0, .bool false], .int .i64 3]) ∧ Below w.heap.size w w' := by
  by_cases h0 : f < 0
  · have e0 : decide (f < 0) = true := by simpa using h0
    clear hf h0
    go_enter Tryz.func26, Tryz.ntmps26
    go_wp2_with fail
    refine bodyPost_ret (v := .tuple #[.agg #[.int .i64 0, .int .i64 0, .bool false], .int .i64 3]) (by simp [results, Tryz.results26, go_sem]) rfl ⟨rfl, ?_⟩
    exact ((Below.refl _ _).alloc (Nat.le_refl _) _).alloc (by simp) _
  · have e0 : decide (f < 0) = false := by simpa using h0
    have e1 : decide ((100 : Int) < f) = true := by simp; omega
    clear hf h0
    go_enter Tryz.func26, Tryz.ntmps26
    go_wp2_with fail
    refine bodyPost_ret (v := .tuple #[.agg #[.int .i64 0, .int .i64 0, .bool false], .int .i64 3]) (by simp [results, Tryz.results26, go_sem]) rfl ⟨rfl, ?_⟩
    exact ((Below.refl _ _).alloc (Nat.le_refl _) _).alloc (by simp) _
theorem HG.none (w0 w : World) : HG w0 w ⟨fun _ => none, fun _ => none, fun _ => none⟩ := ⟨fun b x h => (by cases h), fun b x h => (by cases h), fun b x h => (by cases h)⟩
set_option maxRecDepth 20000 in
set_option maxHeartbeats 4000000 in
theorem outcome_any (x : TT) (fuel : Nat) (hf : fuel ≤ 100) (w : World) (hx : x.In w) (sx : shp x.tm) (hz : x.tm.tsz ≤ 100) :
    Calls Tryz.prog 26 #[.agg #[.int .i64 x.k, .int .i64 x.n, .int .i64 x.t.k, .slice x.t.a x.t.l.length x.t.c, .int .i64 x.f.k, .slice x.f.a x.f.l.length x.f.c, .slice x.a x.l.length x.c], .int .i64 fuel] w fun e w' => e = .returned (.tuple #[.agg #[.int .i64 (runM x.tm fuel).k, .int .i64 (runM x.tm fuel).n, .bool (runM x.tm fuel).b], .int .i64 0]) ∧ Below w.heap.size w w' := by
  have e0 : decide ((fuel : Int) < 0) = false := by simp
  have e1 : decide ((100 : Int) < (fuel : Int)) = false := by simp; omega
  obtain ⟨W1, hW1⟩ : ∃ W, W = (w.alloc (.cells #[.int .i64 x.k, .int .i64 x.n, .int .i64 x.t.k, .slice x.t.a x.t.l.length x.t.c, .int .i64 x.f.k, .slice x.f.a x.f.l.length x.f.c, .slice x.a x.l.length x.c] 27)).alloc (.cells #[.int .i64 0, .int .i64 0, .bool false] 29) := ⟨_, rfl⟩
  have hb1 : Below w.heap.size w W1 := by rw [hW1]; exact ((Below.refl _ _).alloc (Nat.le_refl _) _).alloc (by simp) _
  have hs1 : W1.heap.size = w.heap.size + 1 + 1 := by rw [hW1]; simp
  have hat : At7 W1 w.heap.size 0 x := by constructor <;> (rw [hW1]; simp [go_sem])
  have z0 : W1.cell? ⟨w.heap.size + 1, 0, none⟩ = some (.int .i64 0) := by rw [hW1]; simp [go_sem]
  have z1 : W1.cell? ⟨w.heap.size + 1, 1, none⟩ = some (.int .i64 0) := by rw [hW1]; simp [go_sem]
  have z2 : W1.cell? ⟨w.heap.size + 1, 2, none⟩ = some (.bool false) := by rw [hW1]; simp [go_sem]
  have zf : ∀ i, W1.frozen? ⟨w.heap.size + 1, i, none⟩ = false := by intro i; rw [hW1]; simp [go_sem]
  obtain ⟨W2, hW2⟩ : ∃ W, W = W1.alloc (.cells #[.slice none 0 0, .slice none 0 0, .int .i64 0, .int .i64 (fuel : Int), .int .i64 0, .int .i64 0, .bool false] 74) := ⟨_, rfl⟩
  have hb2 : Below W1.heap.size W1 W2 := by rw [hW2]; exact (Below.refl _ _).alloc (Nat.le_refl _) _
  have hms : MS W1 W2 W1.heap.size ⟨fun _ => none, fun _ => none, fun _ => none⟩ ⟨[], [], 0, fuel, out0⟩ := by
    refine ⟨⟨.slice none 0 0, .slice none 0 0, [], [], by rw [hW2]; simp [go_sem], by rw [hW2]; simp [go_sem], World.ownsRow_nil _ _ _ _, World.ownsRow_nil _ _ _ _, fun g h => by simp [Value.ownBlock] at h, rfl, rfl⟩, by rw [hW2]; simp [go_sem], by rw [hW2]; simp [go_sem], by rw [hW2]; simp [go_sem, out0], by rw [hW2]; simp [go_sem, out0], by rw [hW2]; simp [go_sem, out0], fun o => by rw [hW2]; simp [go_sem], HG.none _ _, fun b h => ?_, hb2, Nat.le_refl _⟩
    rcases h with h | h | h <;> exact absurd rfl h
  have HC : Hid (Calls Tryz.prog 43 #[.pointer (some ⟨W1.heap.size, 0, none⟩), .pointer (some ⟨w.heap.size, 0, none⟩)] W2 fun e w' => e = .returned (.agg #[.int .i64 (runM x.tm fuel).k, .int .i64 (runM x.tm fuel).n, .bool (runM x.tm fuel).b]) ∧ Below W1.heap.size W1 w') := run_any hms ⟨w.heap.size, 0, x, rfl, hat, hx.below hb1, rfl⟩ sx hz hf
  rw [hs1] at HC
  have HZ : Hid (Below w.heap.size w W1 ∧ W1.heap.size = w.heap.size + 1 + 1 ∧ W1.cell? ⟨w.heap.size + 1, 0, none⟩ = some (.int .i64 0) ∧ W1.cell? ⟨w.heap.size + 1, 1, none⟩ = some (.int .i64 0) ∧ W1.cell? ⟨w.heap.size + 1, 2, none⟩ = some (.bool false) ∧ ∀ i, W1.frozen? ⟨w.heap.size + 1, i, none⟩ = false) := ⟨hb1, hs1, z0, z1, z2, zf⟩
  obtain ⟨O, hO⟩ : ∃ O, O = runM x.tm fuel := ⟨_, rfl⟩
  rw [← hO] at HC ⊢
  rw [hW1] at hW2
  clear hO hms hat hb1 hs1 z0 z1 z2 zf hb2 hx sx hz hf
  go_enter Tryz.func26, Tryz.ntmps26
  go_wp2_with fail
  rw [← hW2]
  refine HC.out.mono ?_
  rintro e w3 ⟨rfl, hb3⟩
  obtain ⟨y1, y2, y3, y4, y5, y6⟩ := HZ.out
  have r0 := (hb3.cell (p := ⟨w.heap.size + 1, 0, none⟩) (by simp)).trans y3
  have r1 := (hb3.cell (p := ⟨w.heap.size + 1, 1, none⟩) (by simp)).trans y4
  have r2 := (hb3.cell (p := ⟨w.heap.size + 1, 2, none⟩) (by simp)).trans y5
  have f0 := (hb3.frozen (p := ⟨w.heap.size + 1, 0, none⟩) (by simp)).trans (y6 0)
  have f1 := (hb3.frozen (p := ⟨w.heap.size + 1, 1, none⟩) (by simp)).trans (y6 1)
  have f2 := (hb3.frozen (p := ⟨w.heap.size + 1, 2, none⟩) (by simp)).trans (y6 2)
  have HB : Hid (Below w.heap.size w w3) := y1.trans (hb3.mono (by omega))
  clear y1 y2 y3 y4 y5 y6 hb3 hW1 hW2
  go_wp2_with fail
  obtain ⟨q0, q1, q2⟩ := set3_cells (u := .int .i64 O.k) (v := .int .i64 O.n) (z := .bool O.b) r0 r1 r2
  refine bodyPost_ret (v := .tuple #[.agg #[.int .i64 O.k, .int .i64 O.n, .bool O.b], .int .i64 0]) (by simp [results, Tryz.results26, go_sem, q0, q1, q2]) rfl ⟨rfl, ?_⟩
  exact ((HB.out.setCell (by simp) _).setCell (by simp) _).setCell (by simp) _
end Go.Proofs.YtnddkmccagiclabGreatDoor

/-
  What the call of ref's outcome answers: what the machine comes to.
-/
namespace Go.Proofs.YtnddkmccagiclabGreatDoor
open Go.RowKit
/-- What is told of a thing. -/
theorem told_th {m : Bool} {M R : Nat} {Q : Nat → Prop} {w : World} {h : Th} (hi : h.In m M R Q w) : (h.k = 3 ∧ toldV h.val = ⟨3, 0, false⟩) ∨ (h.k ≠ 3 ∧ toldV h.val = ⟨h.k, h.n, false⟩) := by
  have e : ∀ v : Val, v.k ≠ 5 → toldV v = if v.k = 1 then ⟨1, v.n, false⟩ else if v.k = 2 then ⟨2, v.n, false⟩ else ⟨3, 0, false⟩ := fun v hv => by
    unfold toldV
    rw [if_neg hv]
  have hc := (hi.tag 0).kinds
  have hcv : ({h with tag := 0} : Th).val = h.cv := by
    unfold Th.val
    rw [if_pos rfl, Th.cv_tag]
  rw [hcv] at hc
  have e2 : toldV h.val = toldV h.cv := by
    unfold Th.val
    split
    · rfl
    · have hne : h.cv.k ≠ 5 := by
        rcases hc with ⟨h0, _⟩ | ⟨_, _, ⟨_, h2⟩ | ⟨_, h2⟩ | ⟨_, h2, _⟩⟩
        · exact absurd rfl h0
        · rw [h2]; simp [numV]
        · rw [h2]; simp [truthV]
        · omega
      rw [e _ hne]
      rfl
  rw [e2]
  rcases hc with ⟨h0, _⟩ | ⟨_, _, ⟨h1, h2⟩ | ⟨h1, h2⟩ | ⟨h1, h2, _⟩⟩
  · exact absurd rfl h0
  · replace h1 : h.k = 1 := h1
    refine .inr ⟨by omega, ?_⟩
    rw [h2, h1]; rfl
  · replace h1 : h.k = 2 := h1
    refine .inr ⟨by omega, ?_⟩
    rw [h2, h1]; rfl
  · replace h1 : h.k = 3 := h1
    refine .inl ⟨h1, ?_⟩
    rw [e _ (by omega), if_neg (by omega), if_neg (by omega)]
set_option maxRecDepth 20000 in
set_option maxHeartbeats 4000000 in
/-- ref's outcome. -/
theorem lawOut_any (m : Bool) (x : TT) (i : Ty) (f : Nat) (w : World) (hf : f ≤ 100) (hx : x.In w) (hs : shp x.tm ∧ (m = false → noC x.tm)) (hz : x.tm.tsz ≤ 100) (hty : m = true → tyM x.tm [] i) :
    Calls Tryz.prog 36 #[.agg #[.int .i64 x.k, .int .i64 x.n, .int .i64 x.t.k, .slice x.t.a x.t.l.length x.t.c, .int .i64 x.f.k, .slice x.f.a x.f.l.length x.f.c, .slice x.a x.l.length x.c], .int .i64 (f : Int)] w fun e w' => e = .returned (.agg #[.int .i64 (runM x.tm f).k, .int .i64 (runM x.tm f).n, .bool (runM x.tm f).b]) ∧ Below w.heap.size w w' := by
  obtain ⟨W1, hW1⟩ : ∃ W, W = ((w.alloc (.cells #[.int .i64 x.k, .int .i64 x.n, .int .i64 x.t.k, .slice x.t.a x.t.l.length x.t.c, .int .i64 x.f.k, .slice x.f.a x.f.l.length x.f.c, .slice x.a x.l.length x.c] 27)).alloc (.cells #[.int .i64 0, .int .i64 0, .bool false] 29)).alloc (.cells #[.int .i64 (f : Int), .int .i64 0, .int .i64 0, .bool false] 100) := ⟨_, rfl⟩
  have hb1 : Below w.heap.size w W1 := by rw [hW1]; exact (((Below.refl _ _).alloc (Nat.le_refl _) _).alloc (by simp) _).alloc (by simp; omega) _
  have hs1 : W1.heap.size = w.heap.size + 1 + 1 + 1 := by rw [hW1]; simp
  have hwl : Wl (w.heap.size + 1 + 1) (f - 0) out0 W1 := by
    constructor <;> (rw [hW1]; simp [go_sem, out0])
  have h7 : At7 W1 w.heap.size 0 x := by constructor <;> (rw [hW1]; simp [go_sem])
  have z0 : W1.cell? ⟨w.heap.size + 1, 0, none⟩ = some (.int .i64 0) := by rw [hW1]; simp [go_sem]
  have z1 : W1.cell? ⟨w.heap.size + 1, 1, none⟩ = some (.int .i64 0) := by rw [hW1]; simp [go_sem]
  have z2 : W1.cell? ⟨w.heap.size + 1, 2, none⟩ = some (.bool false) := by rw [hW1]; simp [go_sem]
  have zf : ∀ i, W1.frozen? ⟨w.heap.size + 1, i, none⟩ = false := by intro i; rw [hW1]; simp [go_sem]
  have HC : Hid (Calls Tryz.prog 59 #[.pointer (some ⟨w.heap.size + 1 + 1, 0, none⟩), .agg #[.int .i64 x.k, .int .i64 x.n, .int .i64 x.t.k, .slice x.t.a x.t.l.length x.t.c, .int .i64 x.f.k, .slice x.f.a x.f.l.length x.f.c, .slice x.a x.l.length x.c], .slice none 0 0] W1 (ThPost m 100 (w.heap.size + 1 + 1) f 0 (fun b => b ≠ w.heap.size + 1 + 1) W1 i (EvS m f x.tm [] i 0))) :=
    ev_all (m := m) (M := 100) (R := w.heap.size + 1 + 1) (F := f) (by omega) (by omega) f 0 (by omega) (by omega) x [] i none 0 ⟨hs, by simp; omega, fun hm => ⟨hty hm, fun e he => by cases he⟩⟩ (fun b => b ≠ w.heap.size + 1 + 1) W1 (hx.below hb1) (hx.bl.mono fun b hb => by omega) ⟨fun j l => absurd l (by simp), fun e he => by cases he⟩ hwl (fun h => h rfl) (fun b hb => by omega)
  have HE : Hid (∀ r V c', EvS m f x.tm [] i 0 r V c' → (r.k ≠ 0 → runM x.tm f = r) ∧ (r = out0 → runM x.tm f = toldV V)) := fun r V c' h => by
    have hg := h.1 [] []
    refine ⟨fun hr => runM_ends hs.1 hz hf (hg.bad hr), fun hr => ?_⟩
    subst hr
    exact runM_value hs.1 hz hf (hg.ok rfl)
  have HZ : Hid (∀ W, Kept (w.heap.size + 1 + 1) none W1 W → W.cell? ⟨w.heap.size + 1, 0, none⟩ = some (.int .i64 0) ∧ W.cell? ⟨w.heap.size + 1, 1, none⟩ = some (.int .i64 0) ∧ W.cell? ⟨w.heap.size + 1, 2, none⟩ = some (.bool false) ∧ W.frozen? ⟨w.heap.size + 1, 0, none⟩ = false ∧ W.frozen? ⟨w.heap.size + 1, 1, none⟩ = false ∧ W.frozen? ⟨w.heap.size + 1, 2, none⟩ = false ∧ Below w.heap.size w W) := fun W hk =>
    ⟨hk.cell z0 (by omega), hk.cell z1 (by omega), hk.cell z2 (by omega), hk.fz (zf 0) (by omega) (by omega), hk.fz (zf 1) (by omega) (by omega), hk.fz (zf 2) (by omega) (by omega), hb1.trans ((hk.below (by simp) (by omega)).mono (by omega))⟩
  obtain ⟨P, hP⟩ : ∃ P, P = runM x.tm f := ⟨_, rfl⟩
  rw [← hP] at HE ⊢
  obtain ⟨p0, p1, p2, p3, p4, p5, p6⟩ := h7
  simp only [Nat.zero_add] at p0 p1 p2 p3 p4 p5 p6
  have hsz : w.heap.size + 1 + 1 < W1.heap.size := by omega
  clear hP hx hs hz hty hb1 hwl z0 z1 z2 zf hs1 hf
  go_enter Tryz.func36, Tryz.ntmps36
  go_upto_region 2 with fail
  rw [← hW1]
  clear hW1
  go_wp2_with fail
  refine HC.out.mono ?_
  rintro e w4 ⟨hk4, r, V, c', hS, hc1, hc2, hw4, ⟨hr, rfl⟩ | ⟨rfl, z, rfl, hzi, hzv, _⟩⟩
  · have HPr : Hid (P = r) := (HE.out _ _ _ hS).1 hr
    have hgk : (r.k != 0) = true := by simpa using hr
    obtain ⟨r0, r1, r2, f0, f1, f2, hB⟩ := HZ.out w4 hk4
    have HB : Hid (Below w.heap.size w w4) := hB
    obtain ⟨c0, c1, c2, c3, _, _, _, _⟩ := hw4
    have hlw : w.heap.size + 1 < w4.heap.size := World.block_lt_of_cell? _ _ r0
    have hlR : w.heap.size + 1 + 1 < w4.heap.size := World.block_lt_of_cell? _ _ c0
    clear hS hr hk4 hB HC HE HZ p0 p1 p2 p3 p4 p5 p6 hc1 hc2
    simp only [noV]
    go_wp2_with fail
    obtain ⟨q0, q1, q2⟩ := set3_cells (W := w4) (u := .int .i64 r.k) (v := .int .i64 r.n) (z := .bool r.b) r0 r1 r2
    have q0' := fun (o : Obj) => cell_later ((Below.refl _ _).alloc (Nat.le_refl _) o) q0
    have q1' := fun (o : Obj) => cell_later ((Below.refl _ _).alloc (Nat.le_refl _) o) q1
    have q2' := fun (o : Obj) => cell_later ((Below.refl _ _).alloc (Nat.le_refl _) o) q2
    refine bodyPost_ret (v := .agg #[.int .i64 r.k, .int .i64 r.n, .bool r.b]) ?_ rfl ⟨by rw [HPr.out], (((HB.out.setCell (by simp) _).setCell (by simp) _).setCell (by simp) _).alloc (by simpa using HB.out.size) _⟩
    simp [results, Tryz.results36, go_sem, q0', q1', q2']
  · have HPr : Hid (P = toldV z.val) := hzv ▸ (HE.out _ _ _ hS).2 rfl
    obtain ⟨r0, r1, r2, f0, f1, f2, hB⟩ := HZ.out w4 hk4
    have HB : Hid (Below w.heap.size w w4) := hB
    obtain ⟨c0, c1, c2, c3, _, _, _, _⟩ := hw4
    replace c1 : w4.cell? ⟨w.heap.size + 1 + 1, 1, none⟩ = some (.int .i64 0) := c1
    have hlw : w.heap.size + 1 < w4.heap.size := World.block_lt_of_cell? _ _ r0
    have hlR : w.heap.size + 1 + 1 < w4.heap.size := World.block_lt_of_cell? _ _ c0
    have htd := told_th hzi
    have hone := hzi.one
    have hst4 : ∀ (a : Addr) (m : Mode) (W : World), (store a z.fn m).run Tryz.prog W = stored Tryz.prog W a z.fn m := fun a m W => run_storeOne hone
    clear hS hk4 hB HC HE HZ p0 p1 p2 p3 p4 p5 p6 hc1 hc2 hzi hzv hone
    simp only [Th.ag]
    rcases htd with ⟨h3, ht⟩ | ⟨h3, ht⟩
    · have HT : Hid (P = ⟨3, 0, false⟩) := HPr.out.trans ht
      rw [h3]
      clear h3 ht HPr
      go_wp2_with fail
      obtain ⟨q0, q1, q2⟩ := set3_cells (W := w4) (u := .int .i64 3) (v := .int .i64 0) (z := .bool false) r0 r1 r2
      have q0' := fun (o : Obj) => cell_later ((Below.refl _ _).alloc (Nat.le_refl _) o) q0
      have q1' := fun (o : Obj) => cell_later ((Below.refl _ _).alloc (Nat.le_refl _) o) q1
      have q2' := fun (o : Obj) => cell_later ((Below.refl _ _).alloc (Nat.le_refl _) o) q2
      refine bodyPost_ret (v := .agg #[.int .i64 3, .int .i64 0, .bool false]) ?_ rfl ⟨by rw [HT.out], (((HB.out.setCell (by simp) _).setCell (by simp) _).setCell (by simp) _).alloc (by simpa using HB.out.size) _⟩
      simp [results, Tryz.results36, go_sem, q0', q1', q2']
    · have HT : Hid (P = ⟨z.k, z.n, false⟩) := HPr.out.trans ht
      have k3 : (z.k == 3) = false := by simpa using h3
      clear h3 ht HPr
      go_wp2_with fail
      obtain ⟨q0, q1, q2⟩ := set3_cells (W := w4) (u := .int .i64 z.k) (v := .int .i64 z.n) (z := .bool false) r0 r1 r2
      have q0' := fun (o : Obj) => cell_later ((Below.refl _ _).alloc (Nat.le_refl _) o) q0
      have q1' := fun (o : Obj) => cell_later ((Below.refl _ _).alloc (Nat.le_refl _) o) q1
      have q2' := fun (o : Obj) => cell_later ((Below.refl _ _).alloc (Nat.le_refl _) o) q2
      refine bodyPost_ret (v := .agg #[.int .i64 z.k, .int .i64 z.n, .bool false]) ?_ rfl ⟨by rw [HT.out], (((HB.out.setCell (by simp) _).setCell (by simp) _).setCell (by simp) _).alloc (by simpa using HB.out.size) _⟩
      simp [results, Tryz.results36, go_sem, q0', q1', q2']
end Go.Proofs.YtnddkmccagiclabGreatDoor

/-
  The type of a term, by the document's own road, is that of the term's reading; in plain mathematics; no program in it.
-/
namespace Go.Proofs.YtnddkmccagiclabGreatDoor
/-- Each part's type; none: one has none. -/
def mapT : (l : List Tm) → ((x : Tm) → x ∈ l → Option Ty) → Option (List Ty)
  | [], _ => some []
  | x :: r, f => (f x List.mem_cons_self).bind fun i => (mapT r (fun z h => f z (List.mem_cons_of_mem _ h))).bind fun q => some (i :: q)
/-- A term's type. -/
def typeS : Tm → List Ty → Option Ty
  | ⟨k, n, t, _, l⟩, takes =>
    (mapT l (fun x _ => typeS x (takesIn k t takes))).bind fun ts =>
      (ruleY k n t ts (takesIn k t takes)).bind fun r => if fitL ts r.2 = true then some r.1 else none
def typeL : List Tm → List Ty → Option (List Ty)
  | [], _ => some []
  | x :: r, takes => (typeS x takes).bind fun i => (typeL r takes).bind fun q => some (i :: q)
theorem mapT_type (takes : List Ty) : ∀ (l : List Tm), mapT l (fun x _ => typeS x takes) = typeL l takes
  | [] => rfl
  | x :: r => by simp only [mapT, typeL, mapT_type takes r]
/-- What a rule makes of the parts' types. -/
def ruleTy (k n : Int) (t : Ty) (ts takes : List Ty) : Option Ty :=
  (ruleY k n t ts takes).bind fun r => if fitL ts r.2 = true then some r.1 else none
theorem typeS_mk (k n : Int) (t f : Ty) (l : List Tm) (takes : List Ty) : typeS ⟨k, n, t, f, l⟩ takes =
    (typeL l (takesIn k t takes)).bind fun ts => ruleTy k n t ts (takesIn k t takes) := by
  rw [typeS, mapT_type]
  rfl
theorem readL_type {takes : List Ty} : ∀ (l : List Tm) (c : Nat), (∀ x, x ∈ l → ∀ c, (readS x takes c).map Prod.snd = typeS x takes) → (readL l takes c).map (fun ps => ps.map fun p => p.2.2) = typeL l takes
  | [], _, _ => rfl
  | x :: r, c, h => by
    simp only [readL, typeL]
    rw [← h x (by simp) c]
    have ih := readL_type r (c + x.sz) fun z hz => h z (by simp [hz])
    rw [← ih]
    cases readS x takes c with
    | none => rfl
    | some p =>
      cases readL r takes (c + x.sz) with
      | none => rfl
      | some q => rfl
/-- The reading's type. -/
theorem read_type : ∀ (x : Tm) (takes : List Ty) (c : Nat), (readS x takes c).map Prod.snd = typeS x takes := by
  intro x
  induction x using Tm.ind with
  | h k n t f l ih =>
    intro takes c
    rw [readS_mk, typeS_mk, ← readL_type l (c + 1) fun z hz c => ih z hz _ c]
    cases readL l (takesIn k t takes) (c + 1) with
    | none => rfl
    | some ps =>
      simp only [Option.bind_some, Option.map_some, ruleTy]
      cases ruleY k n t (ps.map fun p => p.2.2) (takesIn k t takes) with
      | none => rfl
      | some r =>
        simp only [Option.bind_some]
        split <;> rfl
theorem typeL_some : ∀ {l : List Tm} {takes ts : List Ty}, typeL l takes = some ts → ts.length = l.length ∧ ∀ j (h : j < l.length) (h' : j < ts.length), typeS l[j] takes = some ts[j]
  | [], _, ts, h => by
    rw [typeL] at h
    cases h
    exact ⟨rfl, fun j h => by simp at h⟩
  | x :: r, takes, ts, h => by
    rw [typeL] at h
    cases hx : typeS x takes with
    | none => rw [hx] at h; cases h
    | some i =>
      rw [hx] at h
      simp only [Option.bind_some] at h
      cases hr : typeL r takes with
      | none => rw [hr] at h; cases h
      | some q =>
        rw [hr] at h
        simp only [Option.bind_some] at h
        cases h
        have ih := typeL_some hr
        refine ⟨by simp [ih.1], fun j h h' => ?_⟩
        match j with
        | 0 => exact hx
        | j + 1 => exact ih.2 j (by simpa using h) (by simpa using h')
theorem typeL_all : ∀ (l : List Tm) (takes ts : List Ty), ts.length = l.length → (∀ j (h : j < l.length) (h' : j < ts.length), typeS l[j] takes = some ts[j]) → typeL l takes = some ts
  | [], _, ts, hl, _ => by
    have : ts = [] := List.eq_nil_of_length_eq_zero hl
    subst this
    rfl
  | x :: r, takes, [], hl, _ => by simp at hl
  | x :: r, takes, i :: q, hl, h => by
    have h0 := h 0 (by simp) (by simp)
    simp only [List.getElem_cons_zero] at h0
    rw [typeL, h0, typeL_all r takes q (by simpa using hl) fun j h1 h2 => h (j + 1) (by simpa using h1) (by simpa using h2)]
    rfl
theorem typeL_none : ∀ (l : List Tm) (takes : List Ty) (j : Nat) (h : j < l.length), typeS l[j] takes = none → typeL l takes = none
  | [], _, j, h, _ => by simp at h
  | x :: r, takes, 0, _, e => by
    simp only [List.getElem_cons_zero] at e
    rw [typeL, e]
    rfl
  | x :: r, takes, j + 1, h, e => by
    rw [typeL, typeL_none r takes j (by simpa using h) (by simpa using e)]
    cases typeS x takes <;> rfl
/-- The type of a good term is good. -/
theorem type_good {x : Tm} {takes : List Ty} {i : Ty} (hok : okTm x takes.length) (hT : ∀ u, u ∈ takes → goodY 4 u = true) (h : typeS x takes = some i) : goodY (x.sz + 4) i = true := by
  rw [← read_type x takes 0] at h
  cases hr : readS x takes 0 with
  | none => rw [hr] at h; cases h
  | some p =>
    rw [hr] at h
    simp only [Option.map_some, Option.some.injEq] at h
    subst h
    exact read_good x takes 0 p.1 p.2 hok hT hr
/-! ### The rules, kind by kind -/
theorem ruleTy_ref (n : Int) (t : Ty) (takes : List Ty) : ruleTy 1 n t [] takes = some (takes.getD n.toNat ⟨0, []⟩) := by
  simp [ruleTy, ruleY, fitL]
theorem ruleTy_lit (n : Int) (t : Ty) (takes : List Ty) : ruleTy 2 n t [] takes = some ⟨1, []⟩ := by
  simp [ruleTy, ruleY, fitL]
theorem ruleTy_says (n : Int) (t : Ty) (takes : List Ty) : ruleTy 3 n t [] takes = some ⟨2, []⟩ := by
  simp [ruleTy, ruleY, fitL]
theorem ruleTy_num (n : Int) (t x y : Ty) (takes : List Ty) : ruleTy 4 n t [x, y] takes = if (relY escFits x ⟨1, []⟩ && relY escFits y ⟨1, []⟩) = true then some ⟨1, []⟩ else none := by
  simp [ruleTy, ruleY, fitL]
theorem ruleTy_less (n : Int) (t x y : Ty) (takes : List Ty) : ruleTy 5 n t [x, y] takes = if (relY escFits x ⟨1, []⟩ && relY escFits y ⟨1, []⟩) = true then some ⟨2, []⟩ else none := by
  simp [ruleTy, ruleY, fitL]
theorem ruleTy_fn (n : Int) (t x : Ty) (takes : List Ty) (hx : relY escFits x x = true) : ruleTy 7 n t [x] takes = some ⟨3, [t, x]⟩ := by
  simp [ruleTy, ruleY, fitL, hx]
theorem ruleTy_as (n : Int) (t x : Ty) (takes : List Ty) : ruleTy 9 n t [x] takes = if relY escFits x t = true then some t else none := by
  simp [ruleTy, ruleY, fitL]
theorem ruleTy_any (n : Int) (t y : Ty) (l : List Ty) (takes : List Ty) : ruleTy 8 n t [⟨0, l⟩, y] takes = some ⟨0, []⟩ := by
  have h1 : relY escFits ⟨0, l⟩ ⟨3, [⟨0, []⟩, ⟨0, []⟩]⟩ = true := by rw [relY_mk]; rfl
  have h2 : relY escFits y ⟨0, []⟩ = true := by obtain ⟨k, m⟩ := y; rw [relY_mk]; simp [escFits]
  simp [ruleTy, ruleY, callY, fitL, h1, h2]
theorem ruleTy_call (n : Int) (t a b y : Ty) (takes : List Ty) (hx : relY escFits ⟨3, [a, b]⟩ ⟨3, [a, b]⟩ = true) : ruleTy 8 n t [⟨3, [a, b]⟩, y] takes = if relY escFits y a = true then some b else none := by
  simp [ruleTy, ruleY, callY, fitL, hx]
theorem ruleTy_other (n : Int) (t y : Ty) (k : Int) (l : List Ty) (takes : List Ty) (h0 : k ≠ 0) (h3 : k ≠ 3) : ruleTy 8 n t [⟨k, l⟩, y] takes = none := by
  simp [ruleTy, ruleY, callY, h0, h3]
theorem ruleTy_if (n : Int) (t x y z : Ty) (takes : List Ty) (hj : relY escFits y z = true → relY escFits y (joinY y z) = true ∧ relY escFits z (joinY y z) = true) : ruleTy 6 n t [x, y, z] takes = if (relY escFits x ⟨2, []⟩ && relY escFits y z) = true then some (joinY y z) else none := by
  simp only [ruleTy, ruleY, ifY]
  cases hf : relY escFits y z with
  | false => simp [hf]
  | true =>
    have := hj hf
    cases hx : relY escFits x ⟨2, []⟩ <;> simp [hf, fitL, hx, this.1, this.2]
end Go.Proofs.YtnddkmccagiclabGreatDoor

/-
  A row of types that a call makes longer, type by type; what the call of ref's typeOf leaves; no run of the program in it.
-/
namespace Go.Proofs.YtnddkmccagiclabGreatDoor
open Go.RowKit
/-- An operation that may be taken first, by its place in the region's list. -/
theorem takeH {P : Program} {md : Region.Mode} {ops : Array Oper} {Q : Exit → Act → World → Prop} {S : World → Prop} {i : Nat} {o : Oper} {v : Value} {fuel : Nat} {listed : Array Bool} {a : Act} {w : World} (ho : ops.toList[i]? = some o)
    (hs : Region.noSelect ops = true) (hf : Region.free md ops listed i = true) (hr : (Region.ready md ops listed).contains i = true)
    (hQ : ∀ c a w, Q (.panic c) (a.put o.dst v) w → Q (.panic c) a w) (hy : YieldsIf P ops S o v a) (hS : S w)
    (h : wpAnyH P md ops Q S fuel (listed.setIfInBounds i true) (a.put o.dst v) w) : wpAnyH P md ops Q S (fuel + 1) listed a w :=
  wpAnyH_take (i := i) (oi := o) (by simpa using ho) hs hf hr hQ hy hS h
/-- The one that comes up, by its place in the region's list. -/
theorem oneH {P : Program} {md : Region.Mode} {ops : Array Oper} {Q : Exit → Act → World → Prop} {S : World → Prop} {i : Nat} {o : Oper} {fuel : Nat} {listed : Array Bool} {a : Act} {w : World} (ho : ops.toList[i]? = some o) (hr : Region.ready md ops listed = [i])
    (h : ∀ K' : Act → World → Prop, Shut (∀ a w, S w → (S w → wpAnyH P md ops Q S fuel (listed.setIfInBounds i true) a w) → K' a w) → if Region.wanted o (yielded ops a.tmps) = true then Oper.wp P o a w K' Q else K' (a.put o.dst undef) w) : wpAnyH P md ops Q S (fuel + 1) listed a w :=
  wpAnyH_ready hr (by simp) (AllReadyH.cons (o := o) (by simpa using ho) h AllReadyH.nil)
/-- A row of types that lies in blocks of its own, behind all that lay in W. -/
structure TL (Q : Nat → Prop) (W : World) (v : Value) (ts : List Tr) (wr : World) : Prop where
  own : wr.ownsRow W.heap.size 24 2 v ts.length (cellsOf ts)
  ins : ∀ t, t ∈ ts → t.In wr ∧ t.Bl (fun b => Q b ∧ some b ≠ v.ownBlock)
  low : Below W.heap.size W wr
theorem TL.start (Q : Nat → Prop) (W : World) : TL Q W (.slice none 0 0) [] W :=
  ⟨World.ownsRow_nil _ _ _ _, fun t h => (by cases h), Below.refl _ _⟩
theorem TL.below {Q : Nat → Prop} {W wr w2 : World} {v : Value} {ts : List Tr} (h : TL Q W v ts wr) (hb : Below wr.heap.size wr w2) : TL Q W v ts w2 :=
  ⟨ownsRow_below h.own hb, fun t ht => ⟨(h.ins t ht).1.below hb, (h.ins t ht).2⟩, h.low.trans (hb.mono h.low.size)⟩
/-- One more. -/
theorem TL.step {Q : Nat → Prop} {W wr w2 w3 : World} {v : Value} {ts : List Tr} {t : Tr} {gg cap1 : Nat} (h : TL Q W v ts wr) (hb : Below wr.heap.size wr w2) (hin : t.In w2) (hbl : t.Bl (fun b => Q b ∧ some b ≠ v.ownBlock))
    (hown : w3.ownsRow W.heap.size 24 2 (.slice (some ⟨gg, 0, none⟩) (ts.length + 1) cap1) (ts.length + 1) (cellsOf ts ++ [.int .i64 t.k, .slice t.a t.l.length t.c])) (hgrow : w2.grownBy w3 v.ownBlock) (hat : v.ownBlock = some gg ∨ w2.heap.size ≤ gg) :
    TL Q W (.slice (some ⟨gg, 0, none⟩) (ts.length + 1) cap1) (ts ++ [t]) w3 := by
  have s2 := hb.size
  have s3 := hgrow.size
  have hov : ∀ k, v.ownBlock = some k → W.heap.size ≤ k ∧ k < wr.heap.size := h.own.lt
  have hold : ∀ k i, k < w2.heap.size → some k ≠ v.ownBlock → w3.cell? ⟨k, i, none⟩ = w2.cell? ⟨k, i, none⟩ := fun k i hk hn =>
    World.cell?_of_block (a := ⟨k, i, none⟩) (hgrow.block k hk hn)
  have hne : ∀ b, b < w2.heap.size → some b ≠ v.ownBlock → some b ≠ (Value.slice (some ⟨gg, 0, none⟩) (ts.length + 1) cap1).ownBlock := fun b hb hn => by
    show some b ≠ some gg
    rcases hat with e | e
    · rw [← e]; exact hn
    · simp only [ne_eq, Option.some.injEq]; omega
  have keep : ∀ d : Tr, d.In w2 → d.Bl (fun b => Q b ∧ some b ≠ v.ownBlock) → d.In w3 ∧ d.Bl (fun b => Q b ∧ some b ≠ (Value.slice (some ⟨gg, 0, none⟩) (ts.length + 1) cap1).ownBlock) := fun d h1 h2 => by
    have i3 := h1.bl.and h2
    exact ⟨h1.congr (P := fun b => b < w2.heap.size ∧ Q b ∧ some b ≠ v.ownBlock) (fun b hb i => hold b i hb.1 hb.2.2) i3, i3.mono fun b hb => ⟨hb.2.1, hne b hb.1 hb.2.2⟩⟩
  refine ⟨?_, ?_, ?_⟩
  · rw [cellsOf_append, List.length_append, List.length_singleton]
    exact hown
  · intro d hd
    rcases List.mem_append.1 hd with hd | hd
    · exact keep d ((h.ins d hd).1.below hb) (h.ins d hd).2
    · rcases List.mem_singleton.1 hd with rfl
      exact keep d hin hbl
  · have hb3 : Below W.heap.size w2 w3 := ⟨hgrow.os, hgrow.tape, hgrow.output, hgrow.size, fun k hk => hgrow.block k (by have := h.low.size; omega) (fun e => by have := (hov k e.symm).1; omega)⟩
    exact (h.low.trans (hb.mono h.low.size)).trans hb3
/-- The row as a tree's list. -/
theorem TL.tree {Q : Nat → Prop} {W wr : World} {v : Value} {ts : List Tr} (h : TL Q W v ts wr) : ∃ a c, v = .slice a ts.length c ∧ (Tr.mk 0 a c ts).In wr ∧ (∀ y, a = some y → W.heap.size ≤ y.block) ∧ ∀ t, t ∈ ts → t.In wr ∧ t.Bl Q := by
  have hQ : ∀ t, t ∈ ts → t.In wr ∧ t.Bl Q := fun t ht => ⟨(h.ins t ht).1, (h.ins t ht).2.mono fun b hb => hb.1⟩
  rcases h.own.2 with ⟨rfl, h0⟩ | ⟨g, cap, cur, rfl, hg, _⟩
  · have : ts = [] := List.length_eq_zero_iff.1 h0
    subst this
    exact ⟨none, 0, rfl, Tr.In_nil _ _ _ _, fun y hy => (by cases hy), hQ⟩
  · refine ⟨_, _, rfl, Tr.In_mk.2 ⟨fun j hj => ⟨g, 0, rfl, ?_, ?_⟩, fun t ht => (h.ins t ht).1⟩, fun y hy => (by cases hy; exact hg), hQ⟩
    · rw [Nat.zero_add, h.own.cellAt (j * 2) (by omega), (cellsOf_at2 ts j hj).1]
    · rw [Nat.zero_add, h.own.cellAt (j * 2 + 1) (by omega), (cellsOf_at2 ts j hj).2]
theorem Ty.eta (t : Ty) : t = ⟨t.k, t.l⟩ := by cases t; rfl
theorem typeS_tm (x : TT) (T : List Ty) : typeS x.tm T = (typeL (x.l.map TT.tm) (takesIn x.k x.t.ty T)).bind fun ts => ruleTy x.k x.n x.t.ty ts (takesIn x.k x.t.ty T) := by
  obtain ⟨k, n, t, f, a, c, l⟩ := x
  rw [TT.tm_mk, typeS_mk]
/-- What a call that tells a type leaves; none: there is none. -/
def TyPost (Q : Nat → Prop) (T : Option Ty) (w : World) (e : Ending) (w' : World) : Prop :=
  ∃ (t : Tr) (b : Bool), e = .returned (.tuple #[.agg #[.int .i64 t.k, .slice t.a t.l.length t.c], .bool b]) ∧ b = T.isSome ∧ (∀ i, T = some i → t.ty = i) ∧ t.In w' ∧ t.Bl Q ∧ Below w.heap.size w w'
/-- Behind the entry of typeOf: the boxes. -/
structure TB (x : TT) (w : World) (W : World) : Prop where
  low : Below w.heap.size w W
  at7 : At7 W w.heap.size 0 x
  r0 : W.cell? ⟨w.heap.size + 1, 0, none⟩ = some (.int .i64 0)
  r1 : W.cell? ⟨w.heap.size + 1, 1, none⟩ = some (.slice none 0 0)
  f0 : W.frozen? ⟨w.heap.size + 1, 0, none⟩ = false
  f1 : W.frozen? ⟨w.heap.size + 1, 1, none⟩ = false
  n0 : W.cell? ⟨w.heap.size + 1 + 1, 0, none⟩ = some (.int .i64 1)
  n1 : W.cell? ⟨w.heap.size + 1 + 1, 1, none⟩ = some (.slice none 0 0)
  t0 : W.cell? ⟨w.heap.size + 1 + 1 + 1, 0, none⟩ = some (.int .i64 2)
  t1 : W.cell? ⟨w.heap.size + 1 + 1 + 1, 1, none⟩ = some (.slice none 0 0)
theorem TB.lt {x : TT} {w W : World} (h : TB x w W) : w.heap.size + 1 + 1 + 1 < W.heap.size := World.block_lt_of_cell? _ _ h.t0
theorem TB.below {x : TT} {w W V : World} (h : TB x w W) (hb : Below W.heap.size W V) : TB x w V := by
  have hl := h.lt
  have c : ∀ b i, b ≤ w.heap.size + 1 + 1 + 1 → V.cell? ⟨b, i, none⟩ = W.cell? ⟨b, i, none⟩ := fun b i h => hb.cell (p := ⟨b, i, none⟩) (show b < _ by omega)
  have f : ∀ b i, b ≤ w.heap.size + 1 + 1 + 1 → V.frozen? ⟨b, i, none⟩ = W.frozen? ⟨b, i, none⟩ := fun b i h => hb.frozen (p := ⟨b, i, none⟩) (show b < _ by omega)
  exact ⟨h.low.trans (hb.mono h.low.size), h.at7.below hb, (c _ _ (by omega)).trans h.r0, (c _ _ (by omega)).trans h.r1, (f _ _ (by omega)).trans h.f0, (f _ _ (by omega)).trans h.f1, (c _ _ (by omega)).trans h.n0, (c _ _ (by omega)).trans h.n1, (c _ _ (by omega)).trans h.t0, (c _ _ (by omega)).trans h.t1⟩
/-- The answer's two cells, filled. -/
theorem ty_end {Q : Nat → Prop} {T : Option Ty} {t : Tr} {z : TT} {w wr : World} {b : Bool} (h : TB z w wr) (hb : b = T.isSome) (ht : ∀ i, T = some i → t.ty = i) (hin : t.In wr) (hbl : t.Bl Q) (hQ : t.Bl (· ≠ w.heap.size + 1)) :
    TyPost Q T w (.returned (.tuple #[.agg #[.int .i64 t.k, .slice t.a t.l.length t.c], .bool b])) ((wr.setCell ⟨w.heap.size + 1, 0, none⟩ (.int .i64 t.k)).setCell ⟨w.heap.size + 1, 1, none⟩ (.slice t.a t.l.length t.c)) ∧
    ((wr.setCell ⟨w.heap.size + 1, 0, none⟩ (.int .i64 t.k)).setCell ⟨w.heap.size + 1, 1, none⟩ (.slice t.a t.l.length t.c)).cell? ⟨w.heap.size + 1, 0, none⟩ = some (.int .i64 t.k) ∧
    ((wr.setCell ⟨w.heap.size + 1, 0, none⟩ (.int .i64 t.k)).setCell ⟨w.heap.size + 1, 1, none⟩ (.slice t.a t.l.length t.c)).cell? ⟨w.heap.size + 1, 1, none⟩ = some (.slice t.a t.l.length t.c) := by
  have hc := set_cells (u := .int .i64 t.k) (v := .slice t.a t.l.length t.c) h.r0 h.r1
  have hk := set_keeps (ib := w.heap.size + 1) (io := 0) (u := .int .i64 t.k) (v := .slice t.a t.l.length t.c) hin (hQ.mono fun b hb => hb)
  simp only [Nat.zero_add] at hc hk
  exact ⟨⟨t, b, rfl, hb, ht, hk, hbl, (h.low.setCell (by simp) _).setCell (by simp) _⟩, hc.1, hc.2⟩
end Go.Proofs.YtnddkmccagiclabGreatDoor
