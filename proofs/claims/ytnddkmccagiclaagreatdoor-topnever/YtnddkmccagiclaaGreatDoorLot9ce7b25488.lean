/-
  What the call of run's newCast answers, where it casts to Any, from Any, or a function to a function.
-/
import Derived.Test.YtnddkmccagiclaaGreatDoorLote5e6808ac6
namespace Go.Proofs.YtnddkmccagiclaaGreatDoor
open Go.RowKit
set_option maxRecDepth 20000 in
set_option maxHeartbeats 1000000 in
theorem ground_fun (a : Option Addr) (m c : Nat) (w : World) :
    Calls Tryz.prog 184 #[.agg #[.int .i64 3, .slice a m c]] w fun e w' => ∃ g, e = .returned (.agg #[.int .i64 3, .slice (some ⟨g, 0, none⟩) 2 2]) ∧ (Tr.mk 3 (some ⟨g, 0, none⟩) 2 [leaf 0, leaf 0]).In w' ∧ Below w.heap.size w w' := by
  obtain ⟨W1, hW1⟩ : ∃ W, W = (w.alloc (.cells #[.int .i64 3, .slice a m c] 24)).alloc (.cells #[.int .i64 0, .slice none 0 0] 24) := ⟨_, rfl⟩
  have hb1 : Below w.heap.size w W1 := by rw [hW1]; exact ((Below.refl _ _).alloc (Nat.le_refl _) _).alloc (by simp) _
  have hs1 : W1.heap.size = w.heap.size + 1 + 1 := by rw [hW1]; simp
  have z0 : W1.cell? ⟨w.heap.size + 1, 0, none⟩ = some (.int .i64 0) := by rw [hW1]; simp [go_sem]
  have z1 : W1.cell? ⟨w.heap.size + 1, 1, none⟩ = some (.slice none 0 0) := by rw [hW1]; simp [go_sem]
  have zf : ∀ o, W1.frozen? ⟨w.heap.size + 1, o, none⟩ = false := by intro o; rw [hW1]; simp [go_sem]
  have HT : Hid (Calls Tryz.prog 103 #[.agg #[.int .i64 0, .slice none 0 0], .agg #[.int .i64 0, .slice none 0 0]] W1 fun e w' => ∃ g, W1.heap.size ≤ g ∧ e = .returned (.agg #[.int .i64 3, .slice (some ⟨g, 0, none⟩) 2 2]) ∧ (Tr.mk 3 (some ⟨g, 0, none⟩) 2 [leaf 0, leaf 0]).In w' ∧ Below W1.heap.size W1 w') := to_any (leaf 0) (leaf 0) W1 (leaf_in _ _) (leaf_in _ _)
  have HZ : Hid (Below w.heap.size w W1 ∧ W1.heap.size = w.heap.size + 1 + 1 ∧ W1.cell? ⟨w.heap.size + 1, 0, none⟩ = some (.int .i64 0) ∧ W1.cell? ⟨w.heap.size + 1, 1, none⟩ = some (.slice none 0 0) ∧ ∀ o, W1.frozen? ⟨w.heap.size + 1, o, none⟩ = false) := ⟨hb1, hs1, z0, z1, zf⟩
  clear hb1 hs1 z0 z1 zf
  go_enter Tryz.func184, Tryz.ntmps184
  go_wp2_with fail
  rw [← hW1]
  clear hW1
  refine HT.out.mono ?_
  rintro e w2 ⟨g, hg, rfl, hin, hb⟩
  obtain ⟨y1, y2, y3, y4, y5⟩ := HZ.out
  have x0 := cell_later hb y3
  have x1 := cell_later hb y4
  have f0 := (hb.frozen (p := ⟨w.heap.size + 1, 0, none⟩) (by rw [y2]; show w.heap.size + 1 < _; omega)).trans (y5 0)
  have f1 := (hb.frozen (p := ⟨w.heap.size + 1, 1, none⟩) (by rw [y2]; show w.heap.size + 1 < _; omega)).trans (y5 1)
  have HF : Hid (g ≠ w.heap.size + 1 ∧ (Tr.mk 3 (some ⟨g, 0, none⟩) 2 [leaf 0, leaf 0]).In w2 ∧ Below w.heap.size w w2) := ⟨by omega, hin, y1.trans (hb.mono y1.size)⟩
  clear hb hg hin y1 y2 y3 y4 y5
  go_wp2_with fail
  have hh := set_cells (io := 0) (u := .int .i64 3) (v := .slice (some ⟨g, 0, none⟩) 2 2) x0 x1
  refine bodyPost_ret (v := .agg #[.int .i64 3, .slice (some ⟨g, 0, none⟩) 2 2]) (by simp [results, Tryz.results184, go_sem, hh.1, hh.2]) rfl ⟨g, rfl, ?_, ?_⟩
  · exact set_keeps (io := 0) HF.out.2.1 (Tr.Bl_two HF.out.1 (leaf_bl _ _) (leaf_bl _ _))
  · exact (HF.out.2.2.setCell (by simp) _).setCell (by simp) _
/-- Ground. -/
theorem ground_any (t : Tr) (w : World) : Calls Tryz.prog 184 #[.agg #[.int .i64 t.k, .slice t.a t.l.length t.c]] w fun e w' => ∃ u : Tr, e = .returned (.agg #[.int .i64 u.k, .slice u.a u.l.length u.c]) ∧ u.ty = groundY t.ty ∧ u.In w' ∧ Below w.heap.size w w' := by
  by_cases hk : t.k = 3
  · rw [hk]
    refine (ground_fun t.a t.l.length t.c w).mono ?_
    rintro e w' ⟨g, rfl, hin, hb⟩
    refine ⟨_, rfl, ?_, hin, hb⟩
    unfold groundY
    rw [if_pos (by rw [t.ty_k]; exact hk), Tr.ty_mk]
    simp [leaf, Tr.ty_mk, anyY]
  · refine (ground_leaf t.k (by simpa using hk) t.a t.l.length t.c w).mono ?_
    rintro e w' ⟨rfl, hb⟩
    refine ⟨leaf t.k, rfl, ?_, leaf_in _ _, hb⟩
    unfold groundY
    rw [if_neg (by rw [t.ty_k]; exact hk), t.ty_k]
    simp [leaf, Tr.ty_mk]
theorem cast0_at (w : World) (k : Int) : CAt (w.alloc (cast0 k)) w.heap.size ⟨false, out0, k, out0, none, none, false⟩ none none := by
  constructor <;> simp [cast0, out0, go_sem]
/-- notNil, of what newCast answered. -/
theorem notNil_any {w0 w1 w : World} {G H : Gh} {oc : Option Ca} {p : Option Addr} (k : Int) (hp : HPost w0 w1 G w H) (h : (p = none ∧ oc = none) ∨ ∃ b c pg pa, p = some ⟨b, 0, none⟩ ∧ oc = some c ∧ CAt w b c pg pa ∧ H.cp pg c.given ∧ H.cp pa c.answer ∧ ¬ H.dom b ∧ w1.heap.size ≤ b ∧ ∀ o, w.frozen? ⟨b, o, none⟩ = false) :
    Calls Tryz.prog 183 #[.pointer p, .int .i64 k] w fun e w' => ∃ b pg pa, e = .returned (.pointer (some ⟨b, 0, none⟩)) ∧ CAt w' b (someC oc k) pg pa ∧ H.cp pg (someC oc k).given ∧ H.cp pa (someC oc k).answer ∧ ¬ H.dom b ∧ w1.heap.size ≤ b ∧ (∀ o, w'.frozen? ⟨b, o, none⟩ = false) ∧ HPost w0 w1 G w' H ∧ Below w.heap.size w w' := by
  rcases h with ⟨rfl, rfl⟩ | ⟨b, c, pg, pa, rfl, rfl, hc, hg, ha, hd, hb, hf⟩
  · refine (notNil_none k w).mono ?_
    rintro e w' ⟨rfl, rfl⟩
    have hbb : Below w.heap.size w (w.alloc (cast0 k)) := (Below.refl _ _).alloc (Nat.le_refl _) _
    refine ⟨w.heap.size, none, none, rfl, cast0_at w k, Gh.cp_none _, Gh.cp_none _, fun hd => ?_, hp.bel.size, fun o => by simp [cast0, go_sem], ⟨hp.le, hp.hg.below hbb, hp.bel.trans (hbb.mono hp.bel.size), hp.new⟩, hbb⟩
    have := hp.hg.lt hd; omega
  · refine (notNil_some b k w).mono ?_
    rintro e w' ⟨rfl, rfl⟩
    exact ⟨b, pg, pa, rfl, hc, hg, ha, hd, hb, hf, hp, Below.refl _ _⟩
theorem HPost.set {w0 w W : World} {G H : Gh} (h : HPost w0 w G W H) {b : Nat} (hd : ¬ H.dom b) (hb : w.heap.size ≤ b) (j : Nat) (v : Value) : HPost w0 w G (W.setCell ⟨b, j, none⟩ v) H :=
  ⟨h.le, h.hg.of fun k hk i => World.cell?_setCell_far _ _ _ _ (by intro e; simp only at e; exact hd (e ▸ hk)), h.bel.setCell hb _, h.new⟩
theorem CAt.setOpens {W : World} {b : Nat} {c : Ca} {pg pa : Option Addr} (h : CAt W b c pg pa) (o : Out) : CAt ((((W.setCell ⟨b, 0, none⟩ (.bool true)).setCell ⟨b, 1, none⟩ (.int .i64 o.k)).setCell ⟨b, 2, none⟩ (.int .i64 o.n)).setCell ⟨b, 3, none⟩ (.bool o.b)) b ⟨true, o, c.kind, c.ends, c.given, c.answer, c.hides⟩ pg pa := by
  obtain ⟨h0, h1, h2, h3, h4, h5, h6, h7, h8, h9, h10⟩ := h
  have far : ∀ i, 4 ≤ i → ((((W.setCell ⟨b, 0, none⟩ (.bool true)).setCell ⟨b, 1, none⟩ (.int .i64 o.k)).setCell ⟨b, 2, none⟩ (.int .i64 o.n)).setCell ⟨b, 3, none⟩ (.bool o.b)).cell? ⟨b, i, none⟩ = W.cell? ⟨b, i, none⟩ := fun i hi => by rw [set_other (by omega), set_other (by omega), set_other (by omega), set_other (by omega)]
  refine ⟨?_, ?_, ?_, ?_, (far 4 (by omega)).trans h4, (far 5 (by omega)).trans h5, (far 6 (by omega)).trans h6, (far 7 (by omega)).trans h7, (far 8 (by omega)).trans h8, (far 9 (by omega)).trans h9, (far 10 (by omega)).trans h10⟩
  · rw [set_other (by omega), set_other (by omega), set_other (by omega)]; exact set_same h0
  · rw [set_other (by omega), set_other (by omega)]; exact set_same ((set_other (by omega)).trans h1)
  · rw [set_other (by omega)]; exact set_same ((set_other (by omega)).trans ((set_other (by omega)).trans h2))
  · exact set_same ((set_other (by omega)).trans ((set_other (by omega)).trans ((set_other (by omega)).trans h3)))
set_option maxRecDepth 20000 in
set_option maxHeartbeats 4000000 in
theorem new_toAny (m : Nat) (f t : Tr) (o : Out) (w0 w : World) (G : Gh) (hG : HG w0 w G) (ht0 : t.k = 0) (hs : ∀ W, Below w.heap.size w W → Calls Tryz.prog 48 #[.agg #[.int .i64 f.k, .slice f.a f.l.length f.c], .agg #[.int .i64 t.k, .slice t.a t.l.length t.c]] W fun e w' => e = .returned (.bool false) ∧ Below W.heap.size W w')
    (IH : ∀ W (u : Tr), Below w.heap.size w W → u.In W → u.ty = groundY f.ty → HG w0 W G → Calls Tryz.prog 163 #[.agg #[.int .i64 f.k, .slice f.a f.l.length f.c], .agg #[.int .i64 u.k, .slice u.a u.l.length u.c], .agg #[.int .i64 o.k, .int .i64 o.n, .bool o.b]] W (NPost w0 W G (newC m f.ty (groundY f.ty) o))) :
    Calls Tryz.prog 163 #[.agg #[.int .i64 f.k, .slice f.a f.l.length f.c], .agg #[.int .i64 t.k, .slice t.a t.l.length t.c], .agg #[.int .i64 o.k, .int .i64 o.n, .bool o.b]] w (NPost w0 w G (some ⟨(someC (newC m f.ty (groundY f.ty) o) f.k).opens, (someC (newC m f.ty (groundY f.ty) o) f.k).wrong, (someC (newC m f.ty (groundY f.ty) o) f.k).kind, (someC (newC m f.ty (groundY f.ty) o) f.k).ends, (someC (newC m f.ty (groundY f.ty) o) f.k).given, (someC (newC m f.ty (groundY f.ty) o) f.k).answer, true⟩)) := by
  obtain ⟨oc, hoc⟩ : ∃ oc, oc = newC m f.ty (groundY f.ty) o := ⟨_, rfl⟩
  rw [← hoc] at IH ⊢
  have t3 : (t.k == 3) = false := by rw [ht0]; rfl
  have HS : Hid (HG w0 w G ∧ Calls Tryz.prog 48 #[.agg #[.int .i64 f.k, .slice f.a f.l.length f.c], .agg #[.int .i64 t.k, .slice t.a t.l.length t.c]] (nW f t o w) fun e w' => e = .returned (.bool false) ∧ Below (nW f t o w).heap.size (nW f t o w) w') := ⟨hG, hs _ (nW_below f t o w)⟩
  have HI : Hid (∀ W (u : Tr), Below w.heap.size w W → u.In W → u.ty = groundY f.ty → HG w0 W G → Calls Tryz.prog 163 #[.agg #[.int .i64 f.k, .slice f.a f.l.length f.c], .agg #[.int .i64 u.k, .slice u.a u.l.length u.c], .agg #[.int .i64 o.k, .int .i64 o.n, .bool o.b]] W (NPost w0 W G oc)) := IH
  have HN := nW_nb f t o w
  have e0 : (t.k == 0) = true := by rw [ht0]; rfl
  clear hs hG IH hoc ht0
  obtain ⟨x3, hx3⟩ : ∃ x3, (f.k == 3) = x3 := ⟨_, rfl⟩
  cases x3
  all_goals
    go_enter Tryz.func163, Tryz.ntmps163
    go_wp2_with fail
    refine HS.out.2.mono ?_
    rintro e w2 ⟨rfl, hb⟩
    have HB : Hid (Below w.heap.size w w2 ∧ NB f t o w.heap.size w2) := ⟨(nW_below f t o w).trans (hb.mono (nW_below f t o w).size), HN.below hb⟩
    obtain ⟨b0, b1, b2, b3, b4, b5, b6⟩ := HN.below hb
    clear hb HN
    go_wp2_with fail
    have hbn : Below w2.heap.size w2 w2.drew := (Below.refl _ _).drew
    have HK : Hid (∀ w', Below w2.heap.size w2 w' → w'.cell? ⟨w.heap.size, 0, none⟩ = some (.int .i64 f.k) ∧ w'.cell? ⟨w.heap.size, 1, none⟩ = some (.slice f.a f.l.length f.c) ∧ w'.cell? ⟨w.heap.size + 1 + 1, 0, none⟩ = some (.int .i64 o.k) ∧ w'.cell? ⟨w.heap.size + 1 + 1, 1, none⟩ = some (.int .i64 o.n) ∧ w'.cell? ⟨w.heap.size + 1 + 1, 2, none⟩ = some (.bool o.b)) := fun w' h => by
      obtain ⟨q0, q1, q2, q3, q4, q5, q6⟩ := HB.out.2.below h
      exact ⟨q0, q1, q4, q5, q6⟩
    have HG1 : Hid (∀ W, Calls Tryz.prog 184 #[.agg #[.int .i64 f.k, .slice f.a f.l.length f.c]] W fun e w' => ∃ u : Tr, e = .returned (.agg #[.int .i64 u.k, .slice u.a u.l.length u.c]) ∧ u.ty = groundY f.ty ∧ u.In w' ∧ Below W.heap.size W w') := fun W => ground_any f W
    have HL : Hid (∀ W, Below w2.heap.size w2 W → Below w.heap.size w W ∧ HG w0 W G) := fun W h => ⟨HB.out.1.trans (h.mono HB.out.1.size), HS.out.1.below (HB.out.1.trans (h.mono HB.out.1.size))⟩
    clear b0 b1 b2 b3 b4 b5 b6
    go_region_held3 (fun w' => w'.cell? ⟨w.heap.size, 0, none⟩ = some (.int .i64 f.k) ∧ w'.cell? ⟨w.heap.size, 1, none⟩ = some (.slice f.a f.l.length f.c) ∧ w'.cell? ⟨w.heap.size + 1 + 1, 0, none⟩ = some (.int .i64 o.k) ∧ w'.cell? ⟨w.heap.size + 1 + 1, 1, none⟩ = some (.int .i64 o.n) ∧ w'.cell? ⟨w.heap.size + 1 + 1, 2, none⟩ = some (.bool o.b))
      (first
        | exact HK.out _ hbn
        | go_keep)
      (first
        | (go_at_call 184; refine (HG1.out _).mono ?_; rintro e w3 ⟨u, rfl, hu, hui, hb3⟩; replace hbn := hbn.trans (hb3.mono hbn.size); clear HG1)
        | (go_at_call 163; refine (HI.out _ u (HL.out _ hbn).1 hui hu (HL.out _ hbn).2).mono ?_; rintro e w4 ⟨p4, H4, rfl, hp4, hd4⟩; replace hbn := hbn.trans (hp4.bel.mono hbn.size); clear HI)
        | (go_at_call 183; refine (notNil_any f.k hp4 hd4).mono ?_; rintro e w5 ⟨b, pg, pa, rfl, hC, hg, ha, hd, hsz, hfz, hp5, hb5⟩; replace hbn := hbn.trans (hb5.mono hbn.size)))
    have hlb : b < w5.heap.size := World.block_lt_of_cell? _ _ hC.c0
    have d10 := hC.c10
    have g10 := hfz 10
    have hw3 : Below w.heap.size w w3 := (HL.out w3 ((Below.refl _ _).drew.trans hb3)).1
    have HE : Hid (NPost w0 w G (some ⟨(someC oc f.k).opens, (someC oc f.k).wrong, (someC oc f.k).kind, (someC oc f.k).ends, (someC oc f.k).given, (someC oc f.k).answer, true⟩) (.returned (.pointer (some ⟨b, 0, none⟩))) (w5.setCell ⟨b, 10, none⟩ (.bool true))) := by
      have h1 : HPost w0 w G w5 H4 := (HPost.below HS.out.1 hw3).trans hp5
      exact ⟨_, H4, rfl, h1.set hd (Nat.le_trans hw3.size hsz) 10 _, .inr ⟨b, _, pg, pa, rfl, rfl, hC.setHides true, hg, ha, hd, Nat.le_trans hw3.size hsz, fun i => by simpa using hfz i⟩⟩
    clear hC hfz hp5 hb5 hg ha hd hsz hp4 hd4 hu hui hb3 hbn hw3
    go_wp2_with fail
    go_ret
    exact HE.out
set_option maxRecDepth 20000 in
set_option maxHeartbeats 4000000 in
theorem new_fromAny (m : Nat) (f t : Tr) (o : Out) (w0 w : World) (G : Gh) (hG : HG w0 w G) (hf0 : f.k = 0) (ht0 : (t.k == 0) = false) (hs : ∀ W, Below w.heap.size w W → Calls Tryz.prog 48 #[.agg #[.int .i64 f.k, .slice f.a f.l.length f.c], .agg #[.int .i64 t.k, .slice t.a t.l.length t.c]] W fun e w' => e = .returned (.bool false) ∧ Below W.heap.size W w')
    (IH : ∀ W (u : Tr), Below w.heap.size w W → u.In W → u.ty = groundY t.ty → HG w0 W G → Calls Tryz.prog 163 #[.agg #[.int .i64 u.k, .slice u.a u.l.length u.c], .agg #[.int .i64 t.k, .slice t.a t.l.length t.c], .agg #[.int .i64 o.k, .int .i64 o.n, .bool o.b]] W (NPost w0 W G (newC m (groundY t.ty) t.ty o))) :
    Calls Tryz.prog 163 #[.agg #[.int .i64 f.k, .slice f.a f.l.length f.c], .agg #[.int .i64 t.k, .slice t.a t.l.length t.c], .agg #[.int .i64 o.k, .int .i64 o.n, .bool o.b]] w (NPost w0 w G (some ⟨true, o, (someC (newC m (groundY t.ty) t.ty o) t.k).kind, (someC (newC m (groundY t.ty) t.ty o) t.k).ends, (someC (newC m (groundY t.ty) t.ty o) t.k).given, (someC (newC m (groundY t.ty) t.ty o) t.k).answer, (someC (newC m (groundY t.ty) t.ty o) t.k).hides⟩)) := by
  obtain ⟨oc, hoc⟩ : ∃ oc, oc = newC m (groundY t.ty) t.ty o := ⟨_, rfl⟩
  rw [← hoc] at IH ⊢
  have f3 : (f.k == 3) = false := by rw [hf0]; rfl
  have HS : Hid (HG w0 w G ∧ Calls Tryz.prog 48 #[.agg #[.int .i64 f.k, .slice f.a f.l.length f.c], .agg #[.int .i64 t.k, .slice t.a t.l.length t.c]] (nW f t o w) fun e w' => e = .returned (.bool false) ∧ Below (nW f t o w).heap.size (nW f t o w) w') := ⟨hG, hs _ (nW_below f t o w)⟩
  have HI : Hid (∀ W (u : Tr), Below w.heap.size w W → u.In W → u.ty = groundY t.ty → HG w0 W G → Calls Tryz.prog 163 #[.agg #[.int .i64 u.k, .slice u.a u.l.length u.c], .agg #[.int .i64 t.k, .slice t.a t.l.length t.c], .agg #[.int .i64 o.k, .int .i64 o.n, .bool o.b]] W (NPost w0 W G oc)) := IH
  have HN := nW_nb f t o w
  have e0 : (f.k == 0) = true := by rw [hf0]; rfl
  clear hs hG IH hoc hf0
  go_enter Tryz.func163, Tryz.ntmps163
  go_wp2_with fail
  refine HS.out.2.mono ?_
  rintro e w2 ⟨rfl, hb⟩
  have HB : Hid (Below w.heap.size w w2 ∧ NB f t o w.heap.size w2) := ⟨(nW_below f t o w).trans (hb.mono (nW_below f t o w).size), HN.below hb⟩
  obtain ⟨b0, b1, b2, b3, b4, b5, b6⟩ := HN.below hb
  clear hb HN
  go_wp2_with fail
  have hbn : Below w2.heap.size w2 w2.drew := (Below.refl _ _).drew
  have HK : Hid (∀ w', Below w2.heap.size w2 w' → w'.cell? ⟨w.heap.size + 1, 0, none⟩ = some (.int .i64 t.k) ∧ w'.cell? ⟨w.heap.size + 1, 1, none⟩ = some (.slice t.a t.l.length t.c) ∧ w'.cell? ⟨w.heap.size + 1 + 1, 0, none⟩ = some (.int .i64 o.k) ∧ w'.cell? ⟨w.heap.size + 1 + 1, 1, none⟩ = some (.int .i64 o.n) ∧ w'.cell? ⟨w.heap.size + 1 + 1, 2, none⟩ = some (.bool o.b)) := fun w' h => by
    obtain ⟨q0, q1, q2, q3, q4, q5, q6⟩ := HB.out.2.below h
    exact ⟨q2, q3, q4, q5, q6⟩
  have HG1 : Hid (∀ W, Calls Tryz.prog 184 #[.agg #[.int .i64 t.k, .slice t.a t.l.length t.c]] W fun e w' => ∃ u : Tr, e = .returned (.agg #[.int .i64 u.k, .slice u.a u.l.length u.c]) ∧ u.ty = groundY t.ty ∧ u.In w' ∧ Below W.heap.size W w') := fun W => ground_any t W
  have HL : Hid (∀ W, Below w2.heap.size w2 W → Below w.heap.size w W ∧ HG w0 W G) := fun W h => ⟨HB.out.1.trans (h.mono HB.out.1.size), HS.out.1.below (HB.out.1.trans (h.mono HB.out.1.size))⟩
  clear b0 b1 b2 b3 b4 b5 b6
  go_region_held3 (fun w' => w'.cell? ⟨w.heap.size + 1, 0, none⟩ = some (.int .i64 t.k) ∧ w'.cell? ⟨w.heap.size + 1, 1, none⟩ = some (.slice t.a t.l.length t.c) ∧ w'.cell? ⟨w.heap.size + 1 + 1, 0, none⟩ = some (.int .i64 o.k) ∧ w'.cell? ⟨w.heap.size + 1 + 1, 1, none⟩ = some (.int .i64 o.n) ∧ w'.cell? ⟨w.heap.size + 1 + 1, 2, none⟩ = some (.bool o.b))
    (first
      | exact HK.out _ hbn
      | go_keep)
    (first
      | (go_at_call 184; refine (HG1.out _).mono ?_; rintro e w3 ⟨u, rfl, hu, hui, hb3⟩; replace hbn := hbn.trans (hb3.mono hbn.size); clear HG1)
      | (go_at_call 163; refine (HI.out _ u (HL.out _ hbn).1 hui hu (HL.out _ hbn).2).mono ?_; rintro e w4 ⟨p4, H4, rfl, hp4, hd4⟩; replace hbn := hbn.trans (hp4.bel.mono hbn.size); clear HI)
      | (go_at_call 183; refine (notNil_any t.k hp4 hd4).mono ?_; rintro e w5 ⟨b, pg, pa, rfl, hC, hg, ha, hd, hsz, hfz, hp5, hb5⟩; replace hbn := hbn.trans (hb5.mono hbn.size)))
  have hlb : b < w5.heap.size := World.block_lt_of_cell? _ _ hC.c0
  have d0 := hC.c0
  have d1 := hC.c1
  have d2 := hC.c2
  have d3 := hC.c3
  have g0 := hfz 0
  have g1 := hfz 1
  have g2 := hfz 2
  have g3 := hfz 3
  obtain ⟨_, _, k4, k5, k6⟩ := HK.out _ hbn
  have hw3 : Below w.heap.size w w3 := (HL.out w3 ((Below.refl _ _).drew.trans hb3)).1
  have hw5 : w.heap.size + 1 + 1 < w5.heap.size := World.block_lt_of_cell? _ _ k4
  have hbne : b ≠ w.heap.size + 1 + 1 := by
    have h1 := HB.out.2.lt
    have h2 : w2.heap.size ≤ w3.heap.size := ((Below.refl w2.heap.size w2).drew.trans hb3).size
    omega
  have HE : Hid (∀ n, NPost w0 w G (some ⟨true, o, (someC oc t.k).kind, (someC oc t.k).ends, (someC oc t.k).given, (someC oc t.k).answer, (someC oc t.k).hides⟩) (.returned (.pointer (some ⟨b, 0, none⟩))) (((((w5.drewN n).setCell ⟨b, 0, none⟩ (.bool true)).setCell ⟨b, 1, none⟩ (.int .i64 o.k)).setCell ⟨b, 2, none⟩ (.int .i64 o.n)).setCell ⟨b, 3, none⟩ (.bool o.b))) := by
    intro n
    have h0 : HPost w0 w5 H4 (w5.drewN n) H4 := HPost.below hp5.hg (below_rN (Below.refl _ _) n)
    have h1 : HPost w0 w G (w5.drewN n) H4 := ((HPost.below HS.out.1 hw3).trans hp5).trans h0
    have hsz' := Nat.le_trans hw3.size hsz
    refine ⟨_, H4, rfl, (((h1.set hd hsz' 0 _).set hd hsz' 1 _).set hd hsz' 2 _).set hd hsz' 3 _, .inr ⟨b, _, pg, pa, rfl, rfl, (hC.of (w' := w5.drewN n) fun _ => rfl).setOpens o, hg, ha, hd, hsz', fun i => by simpa using hfz i⟩⟩
  clear hC hfz hp5 hb5 hg ha hd hsz hp4 hd4 hu hui hb3 hbn hw3
  go_wp2_with fail
  go_region
  all_goals
    go_wp2_with fail
    go_ret
    exact HE.out 1
set_option maxRecDepth 20000 in
set_option maxHeartbeats 8000000 in
theorem new_fun (m : Nat) (f t x0 x1 y0 y1 : Tr) (fb fo tb tz : Nat) (o : Out) (w0 w : World) (G : Gh) (hG : HG w0 w G) (ef : f.a = some ⟨fb, fo, none⟩) (et : t.a = some ⟨tb, tz, none⟩) (lf : f.l.length = 2) (lt : t.l.length = 2) (kf : f.k = 3) (kt : t.k = 3)
    (p0 : w.cell? ⟨fb, fo, none⟩ = some (.int .i64 x0.k)) (p1 : w.cell? ⟨fb, fo + 1, none⟩ = some (.slice x0.a x0.l.length x0.c)) (p2 : w.cell? ⟨fb, fo + 2, none⟩ = some (.int .i64 x1.k)) (p3 : w.cell? ⟨fb, fo + 3, none⟩ = some (.slice x1.a x1.l.length x1.c))
    (q0 : w.cell? ⟨tb, tz, none⟩ = some (.int .i64 y0.k)) (q1 : w.cell? ⟨tb, tz + 1, none⟩ = some (.slice y0.a y0.l.length y0.c)) (q2 : w.cell? ⟨tb, tz + 2, none⟩ = some (.int .i64 y1.k)) (q3 : w.cell? ⟨tb, tz + 3, none⟩ = some (.slice y1.a y1.l.length y1.c))
    (hs : ∀ W, Below w.heap.size w W → Calls Tryz.prog 48 #[.agg #[.int .i64 f.k, .slice f.a f.l.length f.c], .agg #[.int .i64 t.k, .slice t.a t.l.length t.c]] W fun e w' => e = .returned (.bool false) ∧ Below W.heap.size W w')
    (I0 : ∀ W, Below w.heap.size w W → HG w0 W G → Calls Tryz.prog 163 #[.agg #[.int .i64 y0.k, .slice y0.a y0.l.length y0.c], .agg #[.int .i64 x0.k, .slice x0.a x0.l.length x0.c], .agg #[.int .i64 o.k, .int .i64 o.n, .bool (!o.b)]] W (NPost w0 W G (newC m y0.ty x0.ty (turnO o))))
    (I1 : ∀ W H, Below w.heap.size w W → HG w0 W H → Calls Tryz.prog 163 #[.agg #[.int .i64 x1.k, .slice x1.a x1.l.length x1.c], .agg #[.int .i64 y1.k, .slice y1.a y1.l.length y1.c], .agg #[.int .i64 o.k, .int .i64 o.n, .bool o.b]] W (NPost w0 W H (newC m x1.ty y1.ty o))) :
    Calls Tryz.prog 163 #[.agg #[.int .i64 f.k, .slice f.a f.l.length f.c], .agg #[.int .i64 t.k, .slice t.a t.l.length t.c], .agg #[.int .i64 o.k, .int .i64 o.n, .bool o.b]] w (NPost w0 w G (some ⟨false, out0, 3, out0, newC m y0.ty x0.ty (turnO o), newC m x1.ty y1.ty o, false⟩)) := by
  have lfb : fb < w.heap.size := World.block_lt_of_cell? _ _ p0
  have ltb : tb < w.heap.size := World.block_lt_of_cell? _ _ q0
  obtain ⟨n0, hn0⟩ : ∃ n, n = newC m y0.ty x0.ty (turnO o) := ⟨_, rfl⟩
  obtain ⟨n1, hn1⟩ : ∃ n, n = newC m x1.ty y1.ty o := ⟨_, rfl⟩
  rw [← hn0] at I0 ⊢
  rw [← hn1] at I1 ⊢
  have HN0 := nW_nb f t o w
  have HS0 := hs _ (nW_below f t o w)
  obtain ⟨W1, hW1⟩ : ∃ W, W = nW f t o w := ⟨_, rfl⟩
  have hb1 : Below w.heap.size w W1 := by rw [hW1]; exact nW_below f t o w
  rw [← hW1] at HN0 HS0
  have HS : Hid (HG w0 w G ∧ Calls Tryz.prog 48 #[.agg #[.int .i64 f.k, .slice f.a f.l.length f.c], .agg #[.int .i64 t.k, .slice t.a t.l.length t.c]] W1 fun e w' => e = .returned (.bool false) ∧ Below W1.heap.size W1 w') := ⟨hG, HS0⟩
  have HI0 : Hid (∀ W, Below w.heap.size w W → HG w0 W G → Calls Tryz.prog 163 #[.agg #[.int .i64 y0.k, .slice y0.a y0.l.length y0.c], .agg #[.int .i64 x0.k, .slice x0.a x0.l.length x0.c], .agg #[.int .i64 o.k, .int .i64 o.n, .bool (!o.b)]] W fun e w' => ∃ p H, e = .returned (.pointer p) ∧ H.cp p n0 ∧ HPost w0 W G w' H) := fun W h1 h2 => (I0 W h1 h2).mono fun e w' h => h.known
  have HI1 : Hid (∀ W H, Below w.heap.size w W → HG w0 W H → Calls Tryz.prog 163 #[.agg #[.int .i64 x1.k, .slice x1.a x1.l.length x1.c], .agg #[.int .i64 y1.k, .slice y1.a y1.l.length y1.c], .agg #[.int .i64 o.k, .int .i64 o.n, .bool o.b]] W fun e w' => ∃ p H', e = .returned (.pointer p) ∧ H'.cp p n1 ∧ HPost w0 W H w' H') := fun W H h1 h2 => (I1 W H h1 h2).mono fun e w' h => h.known
  have HT : Hid (∀ W, Calls Tryz.prog 182 #[.agg #[.int .i64 o.k, .int .i64 o.n, .bool o.b]] W fun e w' => e = .returned (.agg #[.int .i64 o.k, .int .i64 o.n, .bool (!o.b)]) ∧ Below W.heap.size W w') := fun W => turned_any o.k o.n o.b W
  have HP : Hid (∀ W', Below w.heap.size w W' → W'.cell? ⟨fb, fo, none⟩ = some (.int .i64 x0.k) ∧ W'.cell? ⟨fb, fo + 1, none⟩ = some (.slice x0.a x0.l.length x0.c) ∧ W'.cell? ⟨fb, fo + 2, none⟩ = some (.int .i64 x1.k) ∧ W'.cell? ⟨fb, fo + 3, none⟩ = some (.slice x1.a x1.l.length x1.c) ∧ W'.cell? ⟨tb, tz, none⟩ = some (.int .i64 y0.k) ∧ W'.cell? ⟨tb, tz + 1, none⟩ = some (.slice y0.a y0.l.length y0.c) ∧ W'.cell? ⟨tb, tz + 2, none⟩ = some (.int .i64 y1.k) ∧ W'.cell? ⟨tb, tz + 3, none⟩ = some (.slice y1.a y1.l.length y1.c)) :=
    fun W' h => ⟨cell_later h p0, cell_later h p1, cell_later h p2, cell_later h p3, cell_later h q0, cell_later h q1, cell_later h q2, cell_later h q3⟩
  have HN : Hid (NB f t o w.heap.size W1 ∧ Below w.heap.size w W1) := ⟨HN0, hb1⟩
  rw [ef, lf, kf, et, lt, kt] at HS ⊢
  have HN1 := HN0
  clear hs hG I0 I1 p0 p1 p2 p3 q0 q1 q2 q3 hn0 hn1 HS0 HN0 hb1
  unfold nW at hW1
  rw [ef, lf, kf, et, lt, kt] at hW1
  go_enter Tryz.func163, Tryz.ntmps163
  go_wp2_with fail
  rw [← hW1]
  clear hW1
  refine HS.out.2.mono ?_
  rintro e w2 ⟨rfl, hb⟩
  have HB : Hid (Below w.heap.size w w2 ∧ NB f t o w.heap.size w2) := ⟨HN.out.2.trans (hb.mono HN.out.2.size), HN.out.1.below hb⟩
  obtain ⟨b0, b1, b2, b3, b4, b5, b6⟩ := HB.out.2
  rw [kf] at b0
  rw [kt] at b2
  rw [ef, lf] at b1
  rw [et, lt] at b3
  clear hb HN HN1
  go_wp2_with fail
  have hbn : Below w2.heap.size w2 w2.drew := (Below.refl _ _).drew
  have HK : Hid (∀ w', Below w2.heap.size w2 w' → w'.cell? ⟨w.heap.size, 1, none⟩ = some (.slice (some ⟨fb, fo, none⟩) 2 f.c) ∧ w'.cell? ⟨w.heap.size + 1, 1, none⟩ = some (.slice (some ⟨tb, tz, none⟩) 2 t.c) ∧ w'.cell? ⟨w.heap.size + 1 + 1, 0, none⟩ = some (.int .i64 o.k) ∧ w'.cell? ⟨w.heap.size + 1 + 1, 1, none⟩ = some (.int .i64 o.n) ∧ w'.cell? ⟨w.heap.size + 1 + 1, 2, none⟩ = some (.bool o.b) ∧ w'.cell? ⟨fb, fo, none⟩ = some (.int .i64 x0.k) ∧ w'.cell? ⟨fb, fo + 1, none⟩ = some (.slice x0.a x0.l.length x0.c) ∧ w'.cell? ⟨fb, fo + 2, none⟩ = some (.int .i64 x1.k) ∧ w'.cell? ⟨fb, fo + 3, none⟩ = some (.slice x1.a x1.l.length x1.c) ∧ w'.cell? ⟨tb, tz, none⟩ = some (.int .i64 y0.k) ∧ w'.cell? ⟨tb, tz + 1, none⟩ = some (.slice y0.a y0.l.length y0.c) ∧ w'.cell? ⟨tb, tz + 2, none⟩ = some (.int .i64 y1.k) ∧ w'.cell? ⟨tb, tz + 3, none⟩ = some (.slice y1.a y1.l.length y1.c)) := fun w' h =>
    ⟨cell_later h b1, cell_later h b3, cell_later h b4, cell_later h b5, cell_later h b6, HP.out w' (HB.out.1.trans (h.mono HB.out.1.size))⟩
  have HL : Hid (∀ W, Below w2.heap.size w2 W → Below w.heap.size w W ∧ HG w0 W G) := fun W h => ⟨HB.out.1.trans (h.mono HB.out.1.size), HS.out.1.below (HB.out.1.trans (h.mono HB.out.1.size))⟩
  clear b0 b1 b2 b3 b4 b5 b6
  go_region_held3 (fun w' => w'.cell? ⟨w.heap.size, 1, none⟩ = some (.slice (some ⟨fb, fo, none⟩) 2 f.c) ∧ w'.cell? ⟨w.heap.size + 1, 1, none⟩ = some (.slice (some ⟨tb, tz, none⟩) 2 t.c) ∧ w'.cell? ⟨w.heap.size + 1 + 1, 0, none⟩ = some (.int .i64 o.k) ∧ w'.cell? ⟨w.heap.size + 1 + 1, 1, none⟩ = some (.int .i64 o.n) ∧ w'.cell? ⟨w.heap.size + 1 + 1, 2, none⟩ = some (.bool o.b) ∧ w'.cell? ⟨fb, fo, none⟩ = some (.int .i64 x0.k) ∧ w'.cell? ⟨fb, fo + 1, none⟩ = some (.slice x0.a x0.l.length x0.c) ∧ w'.cell? ⟨fb, fo + 2, none⟩ = some (.int .i64 x1.k) ∧ w'.cell? ⟨fb, fo + 3, none⟩ = some (.slice x1.a x1.l.length x1.c) ∧ w'.cell? ⟨tb, tz, none⟩ = some (.int .i64 y0.k) ∧ w'.cell? ⟨tb, tz + 1, none⟩ = some (.slice y0.a y0.l.length y0.c) ∧ w'.cell? ⟨tb, tz + 2, none⟩ = some (.int .i64 y1.k) ∧ w'.cell? ⟨tb, tz + 3, none⟩ = some (.slice y1.a y1.l.length y1.c))
    (first
      | exact HK.out _ hbn
      | exact HK.out _ (hbn.alloc hbn.size _)
      | go_keep)
    (first
      | (go_at_call 182; refine (HT.out _).mono ?_; rintro e w3 ⟨rfl, hb3⟩; replace hbn := hbn.trans (hb3.mono hbn.size); clear HT)
      | (go_at_call 163; refine (HI0.out _ (HL.out _ hbn).1 (HL.out _ hbn).2).mono ?_; rintro e w4 ⟨p4, H4, rfl, hc4, hp4⟩; replace hbn := hbn.trans (hp4.bel.mono hbn.size); clear HI0)
      | (go_at_call 163; refine (HI1.out _ H4 (HL.out _ hbn).1 hp4.hg).mono ?_; rintro e w5 ⟨p5, H5, rfl, hc5, hp5⟩; replace hbn := hbn.trans (hp5.bel.mono hbn.size); clear HI1))
  have HE : Hid (NPost w0 w G (some ⟨false, out0, 3, out0, n0, n1, false⟩) (.returned (.pointer (some ⟨w5.heap.size, 0, none⟩))) (w5.alloc (castO ⟨false, out0, 3, out0, n0, n1, false⟩ p4 p5))) := by
    have hw3 : Below w.heap.size w w3 := (HL.out w3 ((Below.refl _ _).drew.trans hb3)).1
    have h1 : HPost w0 w G w5 H5 := ((HPost.below HS.out.1 hw3).trans hp4).trans hp5
    have hb5 : Below w5.heap.size w5 (w5.alloc (castO ⟨false, out0, 3, out0, n0, n1, false⟩ p4 p5)) := (Below.refl _ _).alloc (Nat.le_refl _) _
    refine ⟨_, H5, rfl, h1.trans (HPost.below h1.hg hb5), .inr ⟨w5.heap.size, _, p4, p5, rfl, rfl, castO_at _ _ _ _, hc4.le hp5.le, hc5, fun hd => ?_, h1.bel.size, fun i => by simp [castO, go_sem]⟩⟩
    have := h1.hg.lt hd; omega
  clear hc4 hp4 hc5 hp5 hb3 hbn
  go_wp2_with fail
  go_ret
  exact HE.out
/-- newCast. -/
theorem new_any (w0 : World) : ∀ (m n : Nat) (f t : Tr) (o : Out) (w : World) (G : Gh), n ≤ 500 → goodT n f = true → goodT n t = true → 2 * n + (if f.k = 0 ∨ t.k = 0 then 1 else 0) ≤ m → f.In w → t.In w → HG w0 w G →
    Calls Tryz.prog 163 #[.agg #[.int .i64 f.k, .slice f.a f.l.length f.c], .agg #[.int .i64 t.k, .slice t.a t.l.length t.c], .agg #[.int .i64 o.k, .int .i64 o.n, .bool o.b]] w (NPost w0 w G (newC m f.ty t.ty o))
  | 0, 0, f, t, o, w, G, _, hf, _, _, _, _, _ => by simp [goodT] at hf
  | 0, n + 1, f, t, o, w, G, _, _, _, hm, _, _, _ => by omega
  | m + 1, 0, f, t, o, w, G, _, hf, _, _, _, _, _ => by simp [goodT] at hf
  | m + 1, n + 1, f, t, o, w, G, hn, hf, ht, hm, hfi, hti, hG => by
    have hh : f.hgt ≤ 1000 := Nat.le_trans (Tr.hgt_good _ f hf) (by omega)
    have hsm := Tr.sm_good _ f hf
    have HS : ∀ W, Below w.heap.size w W → Calls Tryz.prog 48 #[.agg #[.int .i64 f.k, .slice f.a f.l.length f.c], .agg #[.int .i64 t.k, .slice t.a t.l.length t.c]] W fun e w' => e = .returned (.bool (relY escSame f.ty t.ty)) ∧ Below W.heap.size W w' := fun W hb => same_whole f t W (hfi.below hb) (hti.below hb) hh hsm
    rw [newC]
    by_cases hs : relY escSame f.ty t.ty = true
    · rw [if_pos hs]
      rw [hs] at HS
      exact new_same f t o w0 w G hG HS
    rw [if_neg hs]
    have hs' : relY escSame f.ty t.ty = false := by simpa using hs
    rw [hs'] at HS
    have kf := f.ty_k
    have kt := t.ty_k
    have gf : goodY (n + 1) f.ty = true := by rw [← goodT_eq]; exact hf
    have gt : goodY (n + 1) t.ty = true := by rw [← goodT_eq]; exact ht
    have gg : ∀ u : Ty, goodY (n + 1) u = true → goodY (n + 1) (groundY u) = true := fun u hu => by
      unfold groundY
      split
      · rename_i h3
        cases n with
        | zero =>
          exfalso
          obtain ⟨k, l⟩ := u
          simp only at h3
          subst h3
          match l, hu with
          | [], hu => simp [goodY] at hu
          | [x], hu => simp [goodY] at hu
          | [x, y], hu => simp [goodY] at hu
          | x :: y :: z :: r, hu => simp [goodY] at hu
        | succ n => simp [goodY, anyY]
      · rename_i h3
        obtain ⟨k, l⟩ := u
        match l, hu with
        | [], hu => exact hu
        | [x], hu => simp [goodY] at hu
        | [x, y], hu => simp only [goodY, Bool.and_eq_true, beq_iff_eq] at hu; exact absurd hu.1.1 h3
        | x :: y :: z :: r, hu => simp [goodY] at hu
    have g0 : ∀ u : Ty, u.k ≠ 0 → (groundY u).k ≠ 0 := fun u hu => by
      unfold groundY
      split
      · simp
      · exact hu
    by_cases h3 : f.k = 3 ∧ t.k = 3
    · rw [if_pos (by rw [kf, kt]; exact h3)]
      rcases (Tr.right_good _ f hf).cases with ⟨_, h⟩ | ⟨x0, x1, lf, _, _, _⟩
      · omega
      rcases (Tr.right_good _ t ht).cases with ⟨_, h⟩ | ⟨y0, y1, lt, _, _, _⟩
      · omega
      obtain ⟨fb, fo, af, p0, p1, hx0⟩ := hfi.part 0 (by simp [lf])
      obtain ⟨fb', fo', af', p2, p3, hx1⟩ := hfi.part 1 (by simp [lf])
      obtain ⟨tb, tz, at', q0, q1, hy0⟩ := hti.part 0 (by simp [lt])
      obtain ⟨tb', tz', at'', q2, q3, hy1⟩ := hti.part 1 (by simp [lt])
      rw [af] at af'
      rw [at'] at at''
      obtain ⟨rfl, rfl⟩ : fb = fb' ∧ fo = fo' := by simpa using af'
      obtain ⟨rfl, rfl⟩ : tb = tb' ∧ tz = tz' := by simpa using at''
      simp only [lf, List.getElem_cons_zero, List.getElem_cons_succ] at p0 p1 p2 p3 hx0 hx1
      simp only [lt, List.getElem_cons_zero, List.getElem_cons_succ] at q0 q1 q2 q3 hy0 hy1
      have gfx : goodT n x0 = true ∧ goodT n x1 = true := by
        obtain ⟨k, a, c, l⟩ := f
        simp only at lf
        subst lf
        simp only [goodT, Bool.and_eq_true] at hf
        exact ⟨hf.1.2, hf.2⟩
      have gty : goodT n y0 = true ∧ goodT n y1 = true := by
        obtain ⟨k, a, c, l⟩ := t
        simp only at lt
        subst lt
        simp only [goodT, Bool.and_eq_true] at ht
        exact ⟨ht.1.2, ht.2⟩
      have ef : f.ty.l.getD 0 anyY = x0.ty ∧ f.ty.l.getD 1 anyY = x1.ty := by rw [f.ty_l, lf]; exact ⟨rfl, rfl⟩
      have et : t.ty.l.getD 0 anyY = y0.ty ∧ t.ty.l.getD 1 anyY = y1.ty := by rw [t.ty_l, lt]; exact ⟨rfl, rfl⟩
      rw [ef.1, ef.2, et.1, et.2]
      have hm' : 2 * (n + 1) ≤ m + 1 := by omega
      have i1 : ∀ p : Prop, ∀ [Decidable p], (if p then 1 else 0) ≤ 1 := fun p _ => by split <;> omega
      have i2 := i1 (y0.k = 0 ∨ x0.k = 0)
      have i3 := i1 (x1.k = 0 ∨ y1.k = 0)
      exact new_fun m f t x0 x1 y0 y1 fb fo tb tz o w0 w G hG af at' (by rw [lf]; rfl) (by rw [lt]; rfl) h3.1 h3.2 (by simpa using p0) (by simpa using p1) (by simpa using p2) (by simpa using p3) (by simpa using q0) (by simpa using q1) (by simpa using q2) (by simpa using q3) HS
        (fun W hb hW => new_any w0 m n y0 x0 (turnO o) W G (by omega) gty.1 gfx.1 (by omega) (hy0.below hb) (hx0.below hb) hW)
        (fun W H hb hW => new_any w0 m n x1 y1 o W H (by omega) gfx.2 gty.2 (by omega) (hx1.below hb) (hy1.below hb) hW)
    rw [if_neg (by rw [kf, kt]; exact h3)]
    by_cases ht0 : t.k = 0
    · rw [if_pos (by rw [kt]; exact ht0)]
      have hf0 : f.k ≠ 0 := fun e => hs (by
        rcases (Tr.right_good _ f hf).cases with ⟨lf, _⟩ | ⟨x0, x1, _, h, _, _⟩
        · rcases (Tr.right_good _ t ht).cases with ⟨lt, _⟩ | ⟨y0, y1, _, h, _, _⟩
          · have e1 : f.ty = ⟨0, []⟩ := by cases f; simp only at e lf; subst e lf; simp [Tr.ty_mk]
            have e2 : t.ty = ⟨0, []⟩ := by cases t; simp only at ht0 lt; subst ht0 lt; simp [Tr.ty_mk]
            rw [e1, e2, relY_mk]; rfl
          · omega
        · omega)
      simp only [kf]
      rw [if_pos (.inr ht0)] at hm
      refine new_toAny m f t o w0 w G hG ht0 HS fun W u hb hu hut hW => ?_
      have gu : goodT (n + 1) u = true := by rw [goodT_eq, hut]; exact gg _ gf
      have ku : u.k ≠ 0 := by rw [← u.ty_k, hut]; exact g0 _ (by rw [kf]; exact hf0)
      rw [← hut]
      exact new_any w0 m (n + 1) f u o W G hn hf gu (by rw [if_neg (by omega)]; omega) (hfi.below hb) hu hW
    rw [if_neg (by rw [kt]; exact ht0)]
    by_cases hf0 : f.k = 0
    · rw [if_pos (by rw [kf]; exact hf0)]
      simp only [kt]
      rw [if_pos (.inl hf0)] at hm
      refine new_fromAny m f t o w0 w G hG hf0 (by simpa using ht0) HS fun W u hb hu hut hW => ?_
      have gu : goodT (n + 1) u = true := by rw [goodT_eq, hut]; exact gg _ gt
      have ku : u.k ≠ 0 := by rw [← u.ty_k, hut]; exact g0 _ (by rw [kt]; exact ht0)
      rw [← hut]
      exact new_any w0 m (n + 1) u t o W G hn gu ht (by rw [if_neg (by omega)]; omega) hu (hti.below hb) hW
    rw [if_neg (by rw [kf]; exact hf0), kf]
    refine new_stuck f t o w0 w G hG ?_ (by simpa using hf0) (by simpa using ht0) HS
    by_cases hf3 : f.k = 3
    · exact .inr (by simpa using fun h => h3 ⟨hf3, h⟩)
    · exact .inl (by simpa using hf3)
end Go.Proofs.YtnddkmccagiclaaGreatDoor
