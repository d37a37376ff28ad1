/-
  What the calls of run's accompanied and of a cast's of answer: a value after a cast.
-/
import Derived.Test.YtnddkmccagiclaaGreatDoorLotdde1622dba
namespace Go.Proofs.YtnddkmccagiclaaGreatDoor
open Go.RowKit
/-- A value's cells, laid anew. -/
def valO (k n : Int) (pb ps pi pg pa : Option Addr) (z : Int) : Obj := .cells #[.int .i64 k, .int .i64 n, .pointer pb, .pointer ps, .pointer pi, .pointer pg, .pointer pa, .int .i64 z] 189
theorem valO_at {k n : Int} {pb ps pi pg pa : Option Addr} {z : Int} {w0 w : World} {G : Gh} {W : World} (hW : ∀ i, W.cell? ⟨w.heap.size, i, none⟩ = (w.alloc (valO k n pb ps pi pg pa z)).cell? ⟨w.heap.size, i, none⟩) {v : Val} (ek : v.k = k) (en : v.n = n) (ea : v.as = z) (h3 : v.k = 3 → TmP w0 pb v.body ∧ G.sp ps v.env) (h4 : v.k = 4 ∨ v.k = 5 → ∃ u, v.inn = [u] ∧ G.vp pi u) (hg : G.cp pg v.given) (ha : G.cp pa v.answer) : VAt w0 W G w.heap.size v := by
  refine ⟨pb, ps, pi, pg, pa, ?_, ?_, ?_, ?_, ?_, ?_, ?_, ?_, h3, h4, hg, ha⟩ <;> rw [hW] <;> simp [valO, go_sem, ek, en, ea]
/-- A new value. -/
theorem val_new {w0 w W : World} {G : Gh} (hG : HG w0 w G) (hb : Below w.heap.size w W) {v : Val} (hv : VAt w0 W G w.heap.size v) : HPost w0 w G W (G.addV w.heap.size v) ∧ (G.addV w.heap.size v).vp (some ⟨w.heap.size, 0, none⟩) v := by
  have hd : ¬ G.dom w.heap.size := fun h => by have := hG.lt h; omega
  refine ⟨⟨Gh.le_addV hd, (hG.below hb).addV hd hv, hb, fun b h => ?_⟩, Gh.vp_addV _ _ _⟩
  rcases Gh.dom_addV h with rfl | h
  · exact .inr (Nat.le_refl _)
  · exact .inl h
def ValPost (w0 w : World) (G : Gh) (v : Val) (e : Ending) (w' : World) : Prop := ∃ p H, e = .returned (.pointer p) ∧ H.vp p v ∧ HPost w0 w G w' H
set_option maxRecDepth 20000 in
set_option maxHeartbeats 1000000 in
theorem accomp_plain (f c : Nat) (k : Int) (hk : (k != 4) = true) (pg pa : Option Addr) (w : World) (h0 : w.cell? ⟨f, 0, none⟩ = some (.int .i64 k)) (c8 : w.cell? ⟨c, 8, none⟩ = some (.pointer pg)) (c9 : w.cell? ⟨c, 9, none⟩ = some (.pointer pa)) :
    Calls Tryz.prog 185 #[.pointer (some ⟨f, 0, none⟩), .pointer (some ⟨c, 0, none⟩)] w fun e w' => e = .returned (.pointer (some ⟨w.heap.size, 0, none⟩)) ∧ (∀ i, w'.cell? ⟨w.heap.size, i, none⟩ = (w.alloc (valO 4 0 none none (some ⟨f, 0, none⟩) pg pa 0)).cell? ⟨w.heap.size, i, none⟩) ∧ Below w.heap.size w w' := by
  have lf : f < w.heap.size := World.block_lt_of_cell? _ _ h0
  have lc : c < w.heap.size := World.block_lt_of_cell? _ _ c8
  go_enter Tryz.func185, Tryz.ntmps185
  go_wp2_with fail
  go_region
  all_goals
    go_wp2_with fail
    go_ret
    exact ⟨rfl, fun _ => rfl, ((Below.refl _ _).alloc (Nat.le_refl _) _).drew⟩
set_option maxRecDepth 20000 in
set_option maxHeartbeats 4000000 in
theorem accomp_chap (f c : Nat) (w0 w : World) (G : Gh) (pi pfg pfa pg pa : Option Addr) (xg xa yg ya : Option Ca) (hG : HG w0 w G) (f0 : w.cell? ⟨f, 0, none⟩ = some (.int .i64 4)) (f4 : w.cell? ⟨f, 4, none⟩ = some (.pointer pi)) (f5 : w.cell? ⟨f, 5, none⟩ = some (.pointer pfg)) (f6 : w.cell? ⟨f, 6, none⟩ = some (.pointer pfa)) (c8 : w.cell? ⟨c, 8, none⟩ = some (.pointer pg)) (c9 : w.cell? ⟨c, 9, none⟩ = some (.pointer pa))
    (hxg : G.cp pg xg) (hyg : G.cp pfg yg) (hya : G.cp pfa ya) (hxa : G.cp pa xa) :
    Calls Tryz.prog 185 #[.pointer (some ⟨f, 0, none⟩), .pointer (some ⟨c, 0, none⟩)] w fun e w' => ∃ (w3 : World) (H : Gh) (p1 p2 : Option Addr), e = .returned (.pointer (some ⟨w3.heap.size, 0, none⟩)) ∧ HPost w0 w G w3 H ∧ H.cp p1 (thenC xg yg) ∧ H.cp p2 (thenC ya xa) ∧ (∀ i, w'.cell? ⟨w3.heap.size, i, none⟩ = (w3.alloc (valO 4 0 none none pi p1 p2 0)).cell? ⟨w3.heap.size, i, none⟩) ∧ Below w3.heap.size w3 w' := by
  have lf : f < w.heap.size := World.block_lt_of_cell? _ _ f0
  have lc : c < w.heap.size := World.block_lt_of_cell? _ _ c8
  have HK : Hid (∀ w' : World, Below w.heap.size w w' → (w'.cell? ⟨f, 4, none⟩ = some (.pointer pi) ∧ w'.cell? ⟨f, 5, none⟩ = some (.pointer pfg) ∧ w'.cell? ⟨f, 6, none⟩ = some (.pointer pfa) ∧ w'.cell? ⟨c, 8, none⟩ = some (.pointer pg) ∧ w'.cell? ⟨c, 9, none⟩ = some (.pointer pa))) := fun w' h => ⟨cell_later h f4, cell_later h f5, cell_later h f6, cell_later h c8, cell_later h c9⟩
  have H0 : Hid (Calls Tryz.prog 191 #[.pointer pg, .pointer pfg] w.drew (ThenPost w0 w.drew G xg yg)) := then_all (hG.below ((Below.refl _ _).drew)) hxg hyg
  have H1 : Hid (∀ W H, G.le H → HG w0 W H → Calls Tryz.prog 191 #[.pointer pfa, .pointer pa] W (ThenPost w0 W H ya xa)) := fun W H hl hW => then_all hW (hya.le hl) (hxa.le hl)
  have hbn : Below w.heap.size w w.drew := (Below.refl _ _).drew
  clear hxg hyg hya hxa
  go_enter Tryz.func185, Tryz.ntmps185
  go_wp2_with fail
  clear f4 f5 f6 c8 c9
  go_region_held3 (fun w' => w'.cell? ⟨f, 4, none⟩ = some (.pointer pi) ∧ w'.cell? ⟨f, 5, none⟩ = some (.pointer pfg) ∧ w'.cell? ⟨f, 6, none⟩ = some (.pointer pfa) ∧ w'.cell? ⟨c, 8, none⟩ = some (.pointer pg) ∧ w'.cell? ⟨c, 9, none⟩ = some (.pointer pa))
    (first
      | exact HK.out _ hbn
      | exact HK.out _ (hbn.alloc (by have := hbn.size; omega) _)
      | go_keep)
    (first
      | (go_at_call 191; refine H0.out.mono ?_; rintro e w2 ⟨p1, H2, rfl, hcp1, hp1⟩; replace hbn := hbn.trans (hp1.bel.mono hbn.size); clear H0)
      | (go_at_call 191; refine (H1.out _ H2 hp1.le hp1.hg).mono ?_; rintro e w3 ⟨p2, H3, rfl, hcp2, hp2⟩; replace hbn := hbn.trans (hp2.bel.mono hbn.size); clear H1))
  go_wp2_with fail
  go_ret
  have hs : HPost w0 w G w3 H3 := (HPost.below hG ((Below.refl _ _).drew)).trans (hp1.trans hp2)
  exact ⟨w3, H3, p1, p2, rfl, hs, hcp1.le hp2.le, hcp2, fun _ => rfl, (Below.refl _ _).alloc (Nat.le_refl _) _⟩
/-- accompanied. -/
theorem accomp_any {w0 w : World} {G : Gh} (hG : HG w0 w G) {p q : Option Addr} {f : Val} {c : Ca} (hf : G.vp p f) (hc : G.cp q (some c)) : Calls Tryz.prog 185 #[.pointer p, .pointer q] w (ValPost w0 w G (accompV f c)) := by
  obtain ⟨b, rfl, hb⟩ := hf
  rcases hc with ⟨_, h⟩ | ⟨x, y, rfl, e, hx⟩
  · cases h
  cases e
  obtain ⟨pb, ps, pi, pg, pa, h0, h1, h2, h3, h4, h5, h6, h7, a1, a2, a3, a4⟩ := hG.v b f hb
  obtain ⟨qg, qa, hC, cg, ca⟩ := hG.c x c hx
  by_cases hk : f.k = 4
  · rw [hk] at h0
    obtain ⟨u, hi, hu⟩ := a2 (.inl hk)
    have hcore : f.core = u := by unfold Val.core; rw [hi]; rfl
    refine (accomp_chap b x w0 w G pi pg pa qg qa c.given c.answer f.given f.answer hG h0 h4 h5 h6 hC.c8 hC.c9 cg a3 a4 ca).mono ?_
    rintro e w' ⟨w3, H, p1, p2, rfl, hp, c1, c2, hcell, hb3⟩
    have e1 : accompV f c = chapV u (thenC c.given f.given) (thenC f.answer c.answer) := by unfold accompV; rw [if_pos hk, hcore]
    have hv : VAt w0 w' H w3.heap.size (accompV f c) := by
      rw [e1]
      exact valO_at hcell rfl rfl rfl (fun h => by simp [chapV] at h) (fun _ => ⟨u, rfl, hu.le hp.le⟩) c1 c2
    obtain ⟨r1, r2⟩ := val_new hp.hg hb3 hv
    exact ⟨_, _, rfl, r2, hp.trans r1⟩
  · refine (accomp_plain b x f.k (by simpa using hk) qg qa w h0 hC.c8 hC.c9).mono ?_
    rintro e w' ⟨rfl, hcell, hbb⟩
    have e1 : accompV f c = chapV f c.given c.answer := by unfold accompV; rw [if_neg hk]
    have hv : VAt w0 w' G w.heap.size (accompV f c) := by
      rw [e1]
      exact valO_at hcell rfl rfl rfl (fun h => by simp [chapV] at h) (fun _ => ⟨f, rfl, b, rfl, hb⟩) cg ca
    obtain ⟨r1, r2⟩ := val_new hG hbb hv
    exact ⟨_, _, rfl, r2, r1⟩
set_option maxRecDepth 20000 in
set_option maxHeartbeats 4000000 in
theorem of_walk (c : Nat) (op hi : Bool) (kind : Int) (pg pa p p1 : Option Addr) (w : World) (c0 : w.cell? ⟨c, 0, none⟩ = some (.bool op)) (c4 : w.cell? ⟨c, 4, none⟩ = some (.int .i64 kind)) (c8 : w.cell? ⟨c, 8, none⟩ = some (.pointer pg)) (c9 : w.cell? ⟨c, 9, none⟩ = some (.pointer pa)) (c10 : w.cell? ⟨c, 10, none⟩ = some (.bool hi))
    (hop : op = true → ∃ b, p = some ⟨b, 0, none⟩ ∧ w.cell? ⟨b, 4, none⟩ = some (.pointer p1)) (hnop : op = false → p1 = p) (Z : Option Addr → World → Prop) (hz : pg.isSome = false → pa.isSome = false → Z p1 w) (hc : pg.isSome = true ∨ pa.isSome = true → Calls Tryz.prog 185 #[.pointer p1, .pointer (some ⟨c, 0, none⟩)] w fun e w' => ∃ q, e = .returned (.pointer q) ∧ Z q w' ∧ Below w.heap.size w w') :
    Calls Tryz.prog 170 #[.pointer (some ⟨c, 0, none⟩), .pointer p] w fun e w' => ∃ q W, Z q W ∧ ((hi = false ∧ e = .returned (.pointer q) ∧ w' = W) ∨ (hi = true ∧ e = .returned (.pointer (some ⟨W.heap.size, 0, none⟩)) ∧ w' = W.alloc (valO 5 0 none none q none none kind))) := by
  have lc : c < w.heap.size := World.block_lt_of_cell? _ _ c0
  have HZ : Hid (pg.isSome = false → pa.isSome = false → Z p1 w) := hz
  have HC : Hid (pg.isSome = true ∨ pa.isSome = true → Calls Tryz.prog 185 #[.pointer p1, .pointer (some ⟨c, 0, none⟩)] w fun e w' => ∃ q, e = .returned (.pointer q) ∧ Z q w' ∧ Below w.heap.size w w') := hc
  clear hz hc
  cases op
  · have e := hnop rfl
    subst e
    clear hop hnop
    cases pg with
    | none =>
      cases pa with
      | none =>
        cases hi <;> (go_enter Tryz.func170, Tryz.ntmps170; go_wp2_with fail; go_ret)
        · exact ⟨p1, w, HZ.out rfl rfl, .inl ⟨by trivial, rfl, rfl⟩⟩
        · exact ⟨p1, w, HZ.out rfl rfl, .inr ⟨by trivial, rfl, rfl⟩⟩
      | some a =>
        cases hi
        all_goals
          go_enter Tryz.func170, Tryz.ntmps170
          go_wp2_with fail
          refine (HC.out (.inr rfl)).mono ?_
          rintro e w2 ⟨q, rfl, hZ, hb⟩
          have d4 := cell_later hb c4
          have d10 := cell_later hb c10
          have lc2 : c < w2.heap.size := Nat.lt_of_lt_of_le lc hb.size
          have HZ2 : Hid (Z q w2) := hZ
          clear hZ
          go_wp2_with fail
          go_ret
        · exact ⟨q, w2, HZ2.out, .inl ⟨by trivial, rfl, rfl⟩⟩
        · exact ⟨q, w2, HZ2.out, .inr ⟨by trivial, rfl, rfl⟩⟩
    | some g =>
      cases hi
      all_goals
        go_enter Tryz.func170, Tryz.ntmps170
        go_wp2_with fail
        refine (HC.out (.inl rfl)).mono ?_
        rintro e w2 ⟨q, rfl, hZ, hb⟩
        have d4 := cell_later hb c4
        have d10 := cell_later hb c10
        have lc2 : c < w2.heap.size := Nat.lt_of_lt_of_le lc hb.size
        have HZ2 : Hid (Z q w2) := hZ
        clear hZ
        go_wp2_with fail
        go_ret
      · exact ⟨q, w2, HZ2.out, .inl ⟨by trivial, rfl, rfl⟩⟩
      · exact ⟨q, w2, HZ2.out, .inr ⟨by trivial, rfl, rfl⟩⟩
  · obtain ⟨b, rfl, b4⟩ := hop rfl
    have lb : b < w.heap.size := World.block_lt_of_cell? _ _ b4
    clear hop hnop
    cases pg with
    | none =>
      cases pa with
      | none =>
        cases hi <;> (go_enter Tryz.func170, Tryz.ntmps170; go_wp2_with fail; go_ret)
        · exact ⟨p1, w, HZ.out rfl rfl, .inl ⟨by trivial, rfl, rfl⟩⟩
        · exact ⟨p1, w, HZ.out rfl rfl, .inr ⟨by trivial, rfl, rfl⟩⟩
      | some a =>
        cases hi
        all_goals
          go_enter Tryz.func170, Tryz.ntmps170
          go_wp2_with fail
          refine (HC.out (.inr rfl)).mono ?_
          rintro e w2 ⟨q, rfl, hZ, hb⟩
          have d4 := cell_later hb c4
          have d10 := cell_later hb c10
          have lc2 : c < w2.heap.size := Nat.lt_of_lt_of_le lc hb.size
          have HZ2 : Hid (Z q w2) := hZ
          clear hZ
          go_wp2_with fail
          go_ret
        · exact ⟨q, w2, HZ2.out, .inl ⟨by trivial, rfl, rfl⟩⟩
        · exact ⟨q, w2, HZ2.out, .inr ⟨by trivial, rfl, rfl⟩⟩
    | some g =>
      cases hi
      all_goals
        go_enter Tryz.func170, Tryz.ntmps170
        go_wp2_with fail
        refine (HC.out (.inl rfl)).mono ?_
        rintro e w2 ⟨q, rfl, hZ, hb⟩
        have d4 := cell_later hb c4
        have d10 := cell_later hb c10
        have lc2 : c < w2.heap.size := Nat.lt_of_lt_of_le lc hb.size
        have HZ2 : Hid (Z q w2) := hZ
        clear hZ
        go_wp2_with fail
        go_ret
      · exact ⟨q, w2, HZ2.out, .inl ⟨by trivial, rfl, rfl⟩⟩
      · exact ⟨q, w2, HZ2.out, .inr ⟨by trivial, rfl, rfl⟩⟩
theorem cp_some {G : Gh} {p : Option Addr} {c : Option Ca} (h : G.cp p c) : p.isSome = c.isSome := by
  rcases h with ⟨rfl, rfl⟩ | ⟨b, x, rfl, rfl, _⟩ <;> rfl
/-- of. -/
theorem of_any {w0 w : World} {G : Gh} (hG : HG w0 w G) {p q : Option Addr} {v : Val} {c : Ca} (hv : G.vp p v) (hc : G.cp q (some c)) (ho : c.opens = true → v.k = 5) : Calls Tryz.prog 170 #[.pointer q, .pointer p] w (ValPost w0 w G (ofC c v)) := by
  rcases hc with ⟨_, h⟩ | ⟨x, y, rfl, e, hx⟩
  · cases h
  cases e
  obtain ⟨qg, qa, hC, cg, ca⟩ := hG.c x c hx
  obtain ⟨b, rfl, hb⟩ := hv
  obtain ⟨pb, ps, pi, pg, pa, h0, h1, h2, h3, h4, h5, h6, h7, a1, a2, a3, a4⟩ := hG.v b v hb
  obtain ⟨p1, hp1, hop, hnop⟩ : ∃ p1, G.vp p1 (if c.opens = true then v.core else v) ∧ (c.opens = true → ∃ b', (some ⟨b, 0, none⟩ : Option Addr) = some ⟨b', 0, none⟩ ∧ w.cell? ⟨b', 4, none⟩ = some (.pointer p1)) ∧ (c.opens = false → p1 = some ⟨b, 0, none⟩) := by
    by_cases hop : c.opens = true
    · obtain ⟨u, hi, hu⟩ := a2 (.inr (ho hop))
      have hcore : v.core = u := by unfold Val.core; rw [hi]; rfl
      exact ⟨pi, by rw [if_pos hop, hcore]; exact hu, fun _ => ⟨b, rfl, h4⟩, fun h => by rw [hop] at h; cases h⟩
    · exact ⟨some ⟨b, 0, none⟩, by rw [if_neg hop]; exact ⟨b, rfl, hb⟩, fun h => absurd h hop, fun _ => rfl⟩
  obtain ⟨u, hu⟩ : ∃ u, u = if c.opens = true then v.core else v := ⟨_, rfl⟩
  rw [← hu] at hp1
  obtain ⟨z, hz⟩ : ∃ z, z = if c.given.isSome = true ∨ c.answer.isSome = true then accompV u c else u := ⟨_, rfl⟩
  have e1 : ofC c v = if c.hides = true then knownV z c.kind else z := by
    unfold ofC
    simp only
    rw [← hu, ← hz]
  rw [e1]
  have gg := cp_some cg
  have ga := cp_some ca
  refine (of_walk x c.opens c.hides c.kind qg qa (some ⟨b, 0, none⟩) p1 w hC.c0 hC.c4 hC.c8 hC.c9 hC.c10 hop hnop (fun q W => ∃ H, H.vp q z ∧ HPost w0 w G W H) (fun n1 n2 => ⟨G, ?_, HPost.refl hG⟩) (fun hs => ?_)).mono ?_
  · rw [hz, if_neg (by rw [← gg, ← ga, n1, n2]; simp)]; exact hp1
  · refine (accomp_any hG hp1 (.inr ⟨x, c, rfl, rfl, hx⟩)).mono ?_
    rintro e w' ⟨q, H, rfl, hq, hp⟩
    exact ⟨q, rfl, ⟨H, by rw [hz, if_pos (by rw [← gg, ← ga]; exact hs)]; exact hq, hp⟩, hp.bel⟩
  · rintro e w' ⟨q, W, ⟨H, hq, hp⟩, ⟨hh, rfl, rfl⟩ | ⟨hh, rfl, rfl⟩⟩
    · exact ⟨q, H, rfl, by rw [hh]; exact hq, hp⟩
    · have hb : Below W.heap.size W (W.alloc (valO 5 0 none none q none none c.kind)) := (Below.refl _ _).alloc (Nat.le_refl _) _
      have hvv : VAt w0 (W.alloc (valO 5 0 none none q none none c.kind)) H W.heap.size (knownV z c.kind) := valO_at (fun _ => rfl) rfl rfl rfl (fun h => by simp [knownV] at h) (fun _ => ⟨z, rfl, hq⟩) (Gh.cp_none _) (Gh.cp_none _)
      obtain ⟨r1, r2⟩ := val_new hp.hg hb hvv
      exact ⟨_, _, rfl, by rw [if_pos hh]; exact r2, hp.trans r1⟩
end Go.Proofs.YtnddkmccagiclaaGreatDoor

/-
  What the calls of the machine's refer, lookAtBoth, takeNumbers, sum, compare and choose do.
-/
namespace Go.Proofs.YtnddkmccagiclaaGreatDoor
open Go.RowKit
/-- A call of the machine's that answers nothing. -/
def StPost (w0 w : World) (M : Nat) (G : Gh) (s : St) (e : Ending) (w' : World) : Prop := e = .returned (.tuple #[]) ∧ ∃ H, G.le H ∧ MS w0 w' M H s ∧ Fr M w w'
theorem StPost.of {w0 w w' : World} {M : Nat} {G : Gh} {s : St} {e : Ending} (he : e = .returned (.tuple #[])) (h : MS w0 w' M G s) (hf : Fr M w w') : StPost w0 w M G s e w' := ⟨he, G, Gh.le.refl G, h, hf⟩
set_option maxRecDepth 20000 in
set_option maxHeartbeats 1000000 in
theorem refer_none {w0 w : World} {M : Nat} {G : Gh} {s : St} (h : MS w0 w M G s) : Calls Tryz.prog 160 #[.pointer (some ⟨M, 0, none⟩), .pointer none] w (StPost w0 w M G (s.stop stuckO)) := by
  have H : Hid (MS w0 w M G s) := h
  clear h
  go_enter Tryz.func160, Tryz.ntmps160
  go_wp2_with fail
  refine (stick_any H.out).mono ?_
  rintro e w' ⟨rfl, h1, h2⟩
  have HE : Hid (StPost w0 w M G (s.stop stuckO) (.returned (.tuple #[])) w') := StPost.of rfl h1 h2
  clear h1 h2
  go_wp2_with fail
  go_end0
  exact HE.out
set_option maxRecDepth 20000 in
set_option maxHeartbeats 1000000 in
theorem refer_some {w0 w : World} {M : Nat} {G : Gh} {s : St} (h : MS w0 w M G s) {b : Nat} {v : Val} (hv : G.vp (some ⟨b, 0, none⟩) v) (hn : s.vs.length + 1 ≤ 1000000000) : Calls Tryz.prog 160 #[.pointer (some ⟨M, 0, none⟩), .pointer (some ⟨b, 0, none⟩)] w (StPost w0 w M G (s.push v)) := by
  have H : Hid (MS w0 w M G s ∧ G.vp (some ⟨b, 0, none⟩) v ∧ s.vs.length + 1 ≤ 1000000000) := ⟨h, hv, hn⟩
  clear h hv hn
  go_enter Tryz.func160, Tryz.ntmps160
  go_wp2_with fail
  refine (keep_any H.out.1 H.out.2.1 H.out.2.2).mono ?_
  rintro e w' ⟨rfl, h1, h2⟩
  have HE : Hid (StPost w0 w M G (s.push v) (.returned (.tuple #[])) w') := StPost.of rfl h1 h2
  clear h1 h2
  go_wp2_with fail
  go_end0
  exact HE.out
/-- A part of a term that lies in memory. -/
theorem TmP.part {w0 : World} {p : Option Addr} {x : Tm} (h : TmP w0 p x) {j : Nat} (hj : j < x.l.length) : ∃ b o lb lo c, p = some ⟨b, o, none⟩ ∧ w0.cell? ⟨b, o + 6, none⟩ = some (.slice (some ⟨lb, lo, none⟩) x.l.length c) ∧ ∀ i, i < x.l.length → TmP w0 (some ⟨lb, lo + i * 7, none⟩) (x.at i) := by
  obtain ⟨b, o, y, rfl, ha, hi, rfl⟩ := h
  have hl : y.tm.l.length = y.l.length := by rw [y.tm_l]; simp
  obtain ⟨lb, lo, ea, _, _⟩ := hi.part j (by omega)
  refine ⟨b, o, lb, lo, y.c, rfl, ?_, fun i hi' => ?_⟩
  · rw [hl, ← ea]; exact ha.c6
  · obtain ⟨lb', lo', ea', h7, hin⟩ := hi.part i (by omega)
    rw [ea] at ea'
    obtain ⟨rfl, rfl⟩ : lb = lb' ∧ lo = lo' := by simpa using ea'
    refine ⟨lb, lo + i * 7, y.l[i], rfl, h7, hin, ?_⟩
    rw [Tm.at_eq (by omega)]
    simp [y.tm_l]
/-- Its numbers. -/
theorem TmP.top {w0 : World} {p : Option Addr} {x : Tm} (h : TmP w0 p x) : ∃ b o, p = some ⟨b, o, none⟩ ∧ w0.cell? ⟨b, o, none⟩ = some (.int .i64 x.k) ∧ w0.cell? ⟨b, o + 1, none⟩ = some (.int .i64 x.n) := by
  obtain ⟨b, o, y, rfl, ha, hi, rfl⟩ := h
  exact ⟨b, o, rfl, by rw [y.tm_k]; exact ha.c0, by rw [y.tm_n]; exact ha.c1⟩
theorem TkP.look {w0 : World} {G : Gh} {p q : Option Addr} {x : Tm} {e : List Val} (h : TmP w0 p x) (hs : G.sp q e) : TkP w0 G (lookT x e) 1 p q none := ⟨rfl, fun _ => ⟨h, hs⟩, Gh.cp_none _⟩
theorem TkP.do_ {w0 : World} {G : Gh} (d : Int) (h1 : d ≠ 1) (h4 : d ≠ 4) : TkP w0 G (doT d) (dOf d) none none none := ⟨rfl, fun h => by rcases h with h | h; exact absurd h h1; exact absurd h h4, Gh.cp_none _⟩
theorem TkP.choose {w0 : World} {G : Gh} {p q : Option Addr} {x : Tm} {e : List Val} (h : TmP w0 p x) (hs : G.sp q e) : TkP w0 G (chooseT x e) 4 p q none := ⟨rfl, fun _ => ⟨h, hs⟩, Gh.cp_none _⟩
theorem TkP.change {w0 : World} {G : Gh} {p : Option Addr} {c : Option Ca} (h : G.cp p c) : TkP w0 G (changeT c) 6 none none p := ⟨rfl, fun h => by rcases h with h | h <;> simp [changeT] at h, h⟩
set_option maxRecDepth 20000 in
set_option maxHeartbeats 1000000 in
theorem both_any {w0 w : World} {M : Nat} {G : Gh} {s : St} (h : MS w0 w M G s) {p q : Option Addr} {x : Tm} {e : List Val} (hx : TmP w0 p x) (hs : G.sp q e) (hl : x.l.length = 2) (d : Int) (hd : d = 2 ∨ d = 3 ∨ d = 5) (hn : s.ts.length + 3 ≤ 1000000000) : Calls Tryz.prog 164 #[.pointer (some ⟨M, 0, none⟩), .pointer p, .pointer q, .int .i64 d] w (StPost w0 w M G (bothS s x e d)) := by
  obtain ⟨b, o, lb, lo, c, rfl, c6, hp⟩ := hx.part (j := 0) (by omega)
  rw [hl] at c6
  have lb0 : b < w0.heap.size := World.block_lt_of_cell? _ _ c6
  have hd' : dOf d = d := by unfold dOf; rw [if_neg (by omega)]
  have H : Hid (MS w0 w M G s ∧ G.sp q e ∧ TmP w0 (some ⟨lb, lo + 7, none⟩) (x.at 1) ∧ TmP w0 (some ⟨lb, lo, none⟩) (x.at 0) ∧ TkP w0 G (doT d) d none none none ∧ s.ts.length + 3 ≤ 1000000000 ∧ w0.cell? ⟨b, o + 6, none⟩ = some (.slice (some ⟨lb, lo, none⟩) 2 c)) := ⟨h, hs, by simpa using hp 1 (by omega), by simpa using hp 0 (by omega), by have := TkP.do_ (w0 := w0) (G := G) d (by omega) (by omega); rwa [hd'] at this, hn, c6⟩
  clear hs hp hn hd hd' hl hx c6 h
  go_enter Tryz.func164, Tryz.ntmps164
  go_wp2_with fail
  refine (plan_any H.out.1 H.out.2.2.2.2.1 (by have := H.out.2.2.2.2.2.1; omega)).mono ?_
  rintro e' w1 ⟨rfl, h1, f1⟩
  have k1 := cell_later h1.bel H.out.2.2.2.2.2.2
  have l1 : b < w1.heap.size := World.block_lt_of_cell? _ _ k1
  have H1 : Hid (MS w0 w1 M G (s.plan (doT d)) ∧ Fr M w w1) := ⟨h1, f1⟩
  clear h1 f1
  go_wp2_with fail
  refine (plan_any H1.out.1 (TkP.look H.out.2.2.1 H.out.2.1) (by have := H.out.2.2.2.2.2.1; simp only [St.plan, List.length_cons]; omega)).mono ?_
  rintro e' w2 ⟨rfl, h2, f2⟩
  have k2 := cell_later h2.bel H.out.2.2.2.2.2.2
  have l2 : b < w2.heap.size := World.block_lt_of_cell? _ _ k2
  have H2 : Hid (MS w0 w2 M G ((s.plan (doT d)).plan (lookT (x.at 1) e)) ∧ Fr M w w2) := ⟨h2, H1.out.2.trans f2⟩
  clear h2 f2 k1 l1
  go_wp2_with fail
  refine (plan_any H2.out.1 (TkP.look H.out.2.2.2.1 H.out.2.1) (by have := H.out.2.2.2.2.2.1; simp only [St.plan, List.length_cons]; omega)).mono ?_
  rintro e' w3 ⟨rfl, h3, f3⟩
  have HE : Hid (StPost w0 w M G (bothS s x e d) (.returned (.tuple #[])) w3) := StPost.of rfl h3 (H2.out.2.trans f3)
  clear h3 f3 k2 l2
  go_wp2_with fail
  go_end0
  exact HE.out
/-- A value's first two cells. -/
theorem vp_top {w0 w : World} {G : Gh} (h : HG w0 w G) {p : Option Addr} {v : Val} (hv : G.vp p v) : ∃ b, p = some ⟨b, 0, none⟩ ∧ w.cell? ⟨b, 0, none⟩ = some (.int .i64 v.k) ∧ w.cell? ⟨b, 1, none⟩ = some (.int .i64 v.n) ∧ b < w.heap.size := by
  obtain ⟨b, rfl, hb⟩ := hv
  obtain ⟨pb, ps, pi, pg, pa, h0, h1, _⟩ := h.v b v hb
  exact ⟨b, rfl, h0, h1, World.block_lt_of_cell? _ _ h0⟩
set_option maxRecDepth 20000 in
set_option maxHeartbeats 2000000 in
theorem numbers_raw {w0 w : World} {M : Nat} {G : Gh} {ts : List Task} {u v : Val} {r : List Val} {ca fu : Nat} {en en' : Out} (h : MS w0 w M G ⟨ts, v :: u :: r, ca, fu, en⟩) (hn : r.length + 1 ≤ 1000000000) (he : en' = if u.k = 1 ∧ v.k = 1 then en else stuckO) :
    Calls Tryz.prog 165 #[.pointer (some ⟨M, 0, none⟩)] w fun e w' => e = .returned (.tuple #[.int .i64 u.n, .int .i64 v.n]) ∧ MS w0 w' M G ⟨ts, r, ca, fu, en'⟩ ∧ Fr M w w' := by
  have H : Hid (MS w0 w M G ⟨ts, v :: u :: r, ca, fu, en⟩ ∧ r.length + 1 ≤ 1000000000) := ⟨h, hn⟩
  have HI : Hid (en' = if u.k = 1 ∧ v.k = 1 then en else stuckO) := he
  clear h hn he
  go_enter Tryz.func165, Tryz.ntmps165
  go_wp2_with fail
  refine (take_any' H.out.1 rfl (by have := H.out.2; simp only [List.length_cons]; omega)).mono ?_
  rintro e w1 ⟨p1, rfl, hv1, h1, f1⟩
  have H1 : Hid (MS w0 w1 M G ⟨ts, u :: r, ca, fu, en⟩ ∧ G.vp p1 v ∧ Fr M w w1) := ⟨h1, hv1, f1⟩
  clear hv1 h1 f1
  go_wp2_with fail
  refine (take_any' H1.out.1 rfl (by have := H.out.2; omega)).mono ?_
  rintro e w2 ⟨p2, rfl, hv2, h2, f2⟩
  obtain ⟨b2, rfl, u0, u1, lu⟩ := vp_top h2.hg hv2
  obtain ⟨b1, rfl, v0, v1, lv⟩ := vp_top h2.hg H1.out.2.1
  have H2 : Hid (MS w0 w2 M G ⟨ts, r, ca, fu, en⟩ ∧ Fr M w w2 ∧ G.vp (some ⟨b2, 0, none⟩) u ∧ G.vp (some ⟨b1, 0, none⟩) v) := ⟨h2, H1.out.2.2.trans f2, hv2, H1.out.2.1⟩
  clear h2 f2 hv2 H H1
  have good : ∀ n, u.k = 1 → v.k = 1 → MS w0 (w2.drewN n) M G ⟨ts, r, ca, fu, en'⟩ ∧ Fr M w (w2.drewN n) := fun n hu hv => by
    rw [HI.out, if_pos ⟨hu, hv⟩]
    have hb := below_rN (Below.refl w2.heap.size w2) n
    exact ⟨H2.out.1.below hb, H2.out.2.1.trans (Fr.below hb H2.out.1.lt)⟩
  have HB : Hid (¬ (u.k = 1 ∧ v.k = 1) → Calls Tryz.prog 166 #[.pointer (some ⟨M, 0, none⟩)] w2 fun e w' => e = .returned (.tuple #[]) ∧ MS w0 w' M G ⟨ts, r, ca, fu, en'⟩ ∧ Fr M w w') := fun hn => by
    refine (stick_any H2.out.1).mono ?_
    rintro e w' ⟨rfl, h1, f1⟩
    rw [HI.out, if_neg hn]
    exact ⟨rfl, h1, H2.out.2.1.trans f1⟩
  have HGd : Hid (∀ n, u.k = 1 → v.k = 1 → MS w0 (w2.drewN n) M G ⟨ts, r, ca, fu, en'⟩ ∧ Fr M w (w2.drewN n)) := good
  clear good
  by_cases hu : u.k = 1
  · by_cases hv : v.k = 1
    · have HV : Hid (u.k = 1 ∧ v.k = 1) := ⟨hu, hv⟩
      rw [hu] at u0
      rw [hv] at v0
      clear hu hv
      go_wp2_with fail
      go_quiet (fail)
      go_wp2_with fail
      refine bodyPost_ret (v := .tuple #[.int .i64 u.n, .int .i64 v.n]) (by simp [results, Tryz.results165, go_sem]) rfl ⟨rfl, HGd.out _ HV.out.1 HV.out.2⟩
    · have HV : Hid (¬ (u.k = 1 ∧ v.k = 1)) := fun h => hv h.2
      have hv' : (v.k != 1) = true := by simpa using hv
      rw [hu] at u0
      clear hu hv
      go_wp2_with fail
      refine (HB.out HV.out).mono ?_
      rintro e w3 ⟨rfl, h3, f3⟩
      have y1 := (vp_top h3.hg H2.out.2.2.1)
      have y2 := (vp_top h3.hg H2.out.2.2.2)
      obtain ⟨_, e1, _, u1', lu'⟩ := y1
      obtain ⟨_, e2, _, v1', lv'⟩ := y2
      cases e1
      cases e2
      have H3 : Hid (MS w0 w3 M G ⟨ts, r, ca, fu, en'⟩ ∧ Fr M w w3) := ⟨h3, f3⟩
      clear h3 f3
      go_wp2_with fail
      go_quiet (fail)
      go_wp2_with fail
      have hb := below_rN (Below.refl w3.heap.size w3) nq
      refine bodyPost_ret (v := .tuple #[.int .i64 u.n, .int .i64 v.n]) (by simp [results, Tryz.results165, go_sem]) rfl ⟨rfl, H3.out.1.below hb, H3.out.2.trans (Fr.below hb H3.out.1.lt)⟩
  · have HV : Hid (¬ (u.k = 1 ∧ v.k = 1)) := fun h => hu h.1
    have hu' : (u.k != 1) = true := by simpa using hu
    clear hu
    go_wp2_with fail
    refine (HB.out HV.out).mono ?_
    rintro e w3 ⟨rfl, h3, f3⟩
    have y1 := (vp_top h3.hg H2.out.2.2.1)
    have y2 := (vp_top h3.hg H2.out.2.2.2)
    obtain ⟨_, e1, _, u1', lu'⟩ := y1
    obtain ⟨_, e2, _, v1', lv'⟩ := y2
    cases e1
    cases e2
    have H3 : Hid (MS w0 w3 M G ⟨ts, r, ca, fu, en'⟩ ∧ Fr M w w3) := ⟨h3, f3⟩
    clear h3 f3
    go_wp2_with fail
    go_quiet (fail)
    go_wp2_with fail
    have hb := below_rN (Below.refl w3.heap.size w3) nq
    refine bodyPost_ret (v := .tuple #[.int .i64 u.n, .int .i64 v.n]) (by simp [results, Tryz.results165, go_sem]) rfl ⟨rfl, H3.out.1.below hb, H3.out.2.trans (Fr.below hb H3.out.1.lt)⟩
/-- A value is made and kept. -/
theorem val_keep {w0 w W : World} {M : Nat} {G : Gh} {s : St} (h : MS w0 w M G s) {v : Val} (hb : Below w.heap.size w W) (hv : VAt w0 W G w.heap.size v) (hn : s.vs.length + 1 ≤ 1000000000) :
    Calls Tryz.prog 162 #[.pointer (some ⟨M, 0, none⟩), .pointer (some ⟨w.heap.size, 0, none⟩)] W (fun e w' => e = .returned (.tuple #[]) ∧ ∃ H, G.le H ∧ MS w0 w' M H (s.push v) ∧ Fr M w w') := by
  obtain ⟨r1, r2⟩ := val_new h.hg hb hv
  obtain ⟨m1, m2⟩ := h.post r1
  refine (keep_any m1 r2 hn).mono ?_
  rintro e w' ⟨rfl, h1, h2⟩
  exact ⟨rfl, _, r1.le, h1, m2.trans h2⟩
theorem val_num {w0 w : World} {G : Gh} (n : Int) : VAt w0 (w.alloc (valO 1 n none none none none none 0)) G w.heap.size (numV n) := valO_at (fun _ => rfl) rfl rfl rfl (fun h => by simp [numV] at h) (fun h => by simp [numV] at h) (Gh.cp_none _) (Gh.cp_none _)
theorem val_truth {w0 w : World} {G : Gh} (n : Int) : VAt w0 (w.alloc (valO 2 n none none none none none 0)) G w.heap.size (truthV n) := valO_at (fun _ => rfl) rfl rfl rfl (fun h => by simp [truthV] at h) (fun h => by simp [truthV] at h) (Gh.cp_none _) (Gh.cp_none _)
set_option maxRecDepth 20000 in
set_option maxHeartbeats 2000000 in
theorem sum_raw {w0 w : World} {M : Nat} {G : Gh} {ts : List Task} {u v : Val} {r : List Val} {ca fu : Nat} {en en' : Out} (h : MS w0 w M G ⟨ts, v :: u :: r, ca, fu, en⟩) (hn : r.length + 1 ≤ 1000000000) (he : en' = if u.k = 1 ∧ v.k = 1 then en else stuckO) (hu : -1000000 ≤ u.n ∧ u.n ≤ 1000000) (hv : -1000000 ≤ v.n ∧ v.n ≤ 1000000) :
    Calls Tryz.prog 135 #[.pointer (some ⟨M, 0, none⟩)] w (StPost w0 w M G ⟨ts, numV (clampI (u.n + v.n)) :: r, ca, fu, en'⟩) := by
  have H : Hid (Calls Tryz.prog 165 #[.pointer (some ⟨M, 0, none⟩)] w fun e w' => e = .returned (.tuple #[.int .i64 u.n, .int .i64 v.n]) ∧ MS w0 w' M G ⟨ts, r, ca, fu, en'⟩ ∧ Fr M w w') := numbers_raw h hn he
  clear h he
  obtain ⟨a, ha⟩ : ∃ a, a = u.n := ⟨_, rfl⟩
  obtain ⟨b, hb⟩ : ∃ b, b = v.n := ⟨_, rfl⟩
  rw [← ha] at hu H ⊢
  rw [← hb] at hv H ⊢
  clear ha hb
  obtain ⟨a1, a2⟩ := hu
  obtain ⟨b1, b2⟩ := hv
  go_enter Tryz.func135, Tryz.ntmps135
  go_wp2_with fail
  refine H.out.mono ?_
  rintro e w1 ⟨rfl, h1, f1⟩
  have HK : Hid (∀ X, X = clampI (a + b) → Calls Tryz.prog 162 #[.pointer (some ⟨M, 0, none⟩), .pointer (some ⟨w1.heap.size, 0, none⟩)] (w1.alloc (valO 1 X none none none none none 0)) (fun e w' => e = .returned (.tuple #[]) ∧ Hid (StPost w0 w M G ⟨ts, numV (clampI (a + b)) :: r, ca, fu, en'⟩ (.returned (.tuple #[])) w'))) := by
    intro X hX
    subst hX
    refine (val_keep h1 ((Below.refl _ _).alloc (Nat.le_refl _) _) (val_num _) hn).mono ?_
    rintro e w' ⟨rfl, H', hl, h2, f2⟩
    exact ⟨rfl, rfl, H', hl, h2, f1.trans f2⟩
  clear h1 f1 hn H
  go_wp2_with fail
  all_goals
    refine (HK.out _ (by unfold clampI; omega)).mono ?_
    rintro e w2 ⟨rfl, HE⟩
    go_wp2_with fail
    go_end0
    exact HE.out
set_option maxRecDepth 20000 in
set_option maxHeartbeats 2000000 in
theorem compare_raw {w0 w : World} {M : Nat} {G : Gh} {ts : List Task} {u v : Val} {r : List Val} {ca fu : Nat} {en en' : Out} (h : MS w0 w M G ⟨ts, v :: u :: r, ca, fu, en⟩) (hn : r.length + 1 ≤ 1000000000) (he : en' = if u.k = 1 ∧ v.k = 1 then en else stuckO) :
    Calls Tryz.prog 136 #[.pointer (some ⟨M, 0, none⟩)] w (StPost w0 w M G ⟨ts, truthV (if u.n < v.n then 1 else 0) :: r, ca, fu, en'⟩) := by
  have H : Hid (Calls Tryz.prog 165 #[.pointer (some ⟨M, 0, none⟩)] w fun e w' => e = .returned (.tuple #[.int .i64 u.n, .int .i64 v.n]) ∧ MS w0 w' M G ⟨ts, r, ca, fu, en'⟩ ∧ Fr M w w') := numbers_raw h hn he
  clear h he
  obtain ⟨a, ha⟩ : ∃ a, a = u.n := ⟨_, rfl⟩
  obtain ⟨b, hb⟩ : ∃ b, b = v.n := ⟨_, rfl⟩
  rw [← ha] at H ⊢
  rw [← hb] at H ⊢
  clear ha hb
  obtain ⟨z, hz⟩ : ∃ z : Int, z = if a < b then 1 else 0 := ⟨_, rfl⟩
  rw [← hz]
  have HK : Hid (∀ w1 X, MS w0 w1 M G ⟨ts, r, ca, fu, en'⟩ → Fr M w w1 → X = z → Calls Tryz.prog 162 #[.pointer (some ⟨M, 0, none⟩), .pointer (some ⟨w1.heap.size, 0, none⟩)] (w1.alloc (valO 2 X none none none none none 0)) (fun e w' => e = .returned (.tuple #[]) ∧ Hid (StPost w0 w M G ⟨ts, truthV z :: r, ca, fu, en'⟩ (.returned (.tuple #[])) w'))) := by
    intro w1 X h1 f1 hX
    subst hX
    refine (val_keep h1 ((Below.refl _ _).alloc (Nat.le_refl _) _) (val_truth _) hn).mono ?_
    rintro e w' ⟨rfl, H', hl, h2, f2⟩
    exact ⟨rfl, rfl, H', hl, h2, f1.trans f2⟩
  by_cases hlt : a < b
  · have HZ : Hid (1 = z) := by rw [hz, if_pos hlt]; rfl
    have hd : decide (a < b) = true := by simpa using hlt
    clear hz hn
    go_enter Tryz.func136, Tryz.ntmps136
    go_wp2_with fail
    refine H.out.mono ?_
    rintro e w1 ⟨rfl, h1, f1⟩
    have H1 : Hid (MS w0 w1 M G ⟨ts, r, ca, fu, en'⟩ ∧ Fr M w w1) := ⟨h1, f1⟩
    clear h1 f1
    go_wp2_with fail
    refine (HK.out w1 _ H1.out.1 H1.out.2 HZ.out).mono ?_
    rintro e w2 ⟨rfl, HE⟩
    go_wp2_with fail
    go_end0
    exact HE.out
  · have HZ : Hid (0 = z) := by rw [hz, if_neg hlt]; rfl
    have hd : decide (a < b) = false := by simpa using hlt
    clear hz hn
    go_enter Tryz.func136, Tryz.ntmps136
    go_wp2_with fail
    refine H.out.mono ?_
    rintro e w1 ⟨rfl, h1, f1⟩
    have H1 : Hid (MS w0 w1 M G ⟨ts, r, ca, fu, en'⟩ ∧ Fr M w w1) := ⟨h1, f1⟩
    clear h1 f1
    go_wp2_with fail
    refine (HK.out w1 _ H1.out.1 H1.out.2 HZ.out).mono ?_
    rintro e w2 ⟨rfl, HE⟩
    go_wp2_with fail
    go_end0
    exact HE.out
set_option maxRecDepth 20000 in
set_option maxHeartbeats 2000000 in
theorem choose_raw {w0 w : World} {M : Nat} {G : Gh} {ts : List Task} {v : Val} {r : List Val} {ca fu : Nat} {en : Out} (h : MS w0 w M G ⟨ts, v :: r, ca, fu, en⟩) (hr : r.length ≤ 1000000000) (hn : ts.length + 1 ≤ 1000000000) {p q : Option Addr} {x : Tm} {e : List Val} (hx : TmP w0 p x) (hs : G.sp q e) (hl : x.l.length = 3) :
    Calls Tryz.prog 137 #[.pointer (some ⟨M, 0, none⟩), .pointer p, .pointer q] w (StPost w0 w M G (if v.k = 2 then (St.plan ⟨ts, r, ca, fu, en⟩ (lookT (x.at (if v.n = 1 then 1 else 2)) e)) else St.stop ⟨ts, r, ca, fu, en⟩ stuckO)) := by
  obtain ⟨b, o, lb, lo, c, rfl, c6, hp⟩ := hx.part (j := 0) (by omega)
  rw [hl] at c6
  have H : Hid (Calls Tryz.prog 101 #[.pointer (some ⟨M, 0, none⟩)] w fun e w' => ∃ p, e = .returned (.pointer p) ∧ G.vp p v ∧ MS w0 w' M G ⟨ts, r, ca, fu, en⟩ ∧ Fr M w w') := take_any' h rfl hr
  have HT : Hid (G.sp q e ∧ TmP w0 (some ⟨lb, lo + 7, none⟩) (x.at 1) ∧ TmP w0 (some ⟨lb, lo + 14, none⟩) (x.at 2) ∧ ts.length + 1 ≤ 1000000000 ∧ w0.cell? ⟨b, o + 6, none⟩ = some (.slice (some ⟨lb, lo, none⟩) 3 c)) := ⟨hs, by simpa using hp 1 (by omega), by simpa using hp 2 (by omega), hn, c6⟩
  clear h hx hs hp c6 hn hr
  obtain ⟨S', hS⟩ : ∃ S', S' = (if v.k = 2 then (St.plan ⟨ts, r, ca, fu, en⟩ (lookT (x.at (if v.n = 1 then 1 else 2)) e)) else St.stop ⟨ts, r, ca, fu, en⟩ stuckO) := ⟨_, rfl⟩
  rw [← hS]
  have HS : Hid (S' = (if v.k = 2 then (St.plan ⟨ts, r, ca, fu, en⟩ (lookT (x.at (if v.n = 1 then 1 else 2)) e)) else St.stop ⟨ts, r, ca, fu, en⟩ stuckO)) := hS
  clear hS hl
  go_enter Tryz.func137, Tryz.ntmps137
  go_wp2_with fail
  refine H.out.mono ?_
  rintro e' w1 ⟨p1, rfl, hv1, h1, f1⟩
  obtain ⟨b1, rfl, v0, v1, lv⟩ := vp_top h1.hg hv1
  have k6 := cell_later h1.bel HT.out.2.2.2.2
  have lb6 : b < w1.heap.size := World.block_lt_of_cell? _ _ k6
  have H1 : Hid (MS w0 w1 M G ⟨ts, r, ca, fu, en⟩ ∧ Fr M w w1) := ⟨h1, f1⟩
  clear h1 f1 hv1 H
  by_cases hk : v.k = 2
  · rw [hk] at v0
    by_cases hn : v.n = 1
    · rw [hn] at v1
      have HS' : Hid (S' = St.plan ⟨ts, r, ca, fu, en⟩ (lookT (x.at 1) e)) := by rw [HS.out, if_pos hk, if_pos hn]; rfl
      clear hk hn HS
      go_wp2_with fail
      refine (plan_any H1.out.1 (TkP.look HT.out.2.1 HT.out.1) HT.out.2.2.2.1).mono ?_
      rintro e' w2 ⟨rfl, h2, f2⟩
      have HE : Hid (StPost w0 w M G S' (.returned (.tuple #[])) w2) := by rw [HS'.out]; exact StPost.of rfl h2 (H1.out.2.trans f2)
      clear h2 f2
      go_wp2_with fail
      go_end0
      exact HE.out
    · have hn' : (v.n == 1) = false := by simpa using hn
      have HS' : Hid (S' = St.plan ⟨ts, r, ca, fu, en⟩ (lookT (x.at 2) e)) := by rw [HS.out, if_pos hk, if_neg hn]; rfl
      clear hk hn HS
      go_wp2_with fail
      refine (plan_any H1.out.1 (TkP.look HT.out.2.2.1 HT.out.1) HT.out.2.2.2.1).mono ?_
      rintro e' w2 ⟨rfl, h2, f2⟩
      have HE : Hid (StPost w0 w M G S' (.returned (.tuple #[])) w2) := by rw [HS'.out]; exact StPost.of rfl h2 (H1.out.2.trans f2)
      clear h2 f2
      go_wp2_with fail
      go_end0
      exact HE.out
  · have hk' : (v.k != 2) = true := by simpa using hk
    have HS' : Hid (S' = St.stop ⟨ts, r, ca, fu, en⟩ stuckO) := by rw [HS.out, if_neg hk]; rfl
    clear hk HS
    go_wp2_with fail
    refine (stick_any H1.out.1).mono ?_
    rintro e' w2 ⟨rfl, h2, f2⟩
    have HE : Hid (StPost w0 w M G S' (.returned (.tuple #[])) w2) := by rw [HS'.out]; exact StPost.of rfl h2 (H1.out.2.trans f2)
    clear h2 f2
    go_wp2_with fail
    go_end0
    exact HE.out
end Go.Proofs.YtnddkmccagiclaaGreatDoor

/-
  What the calls of the machine's enter, accompany, call and change do.
-/
namespace Go.Proofs.YtnddkmccagiclaaGreatDoor
open Go.RowKit
theorem scope_new {w0 w W : World} {G : Gh} (hG : HG w0 w G) (hb : Below w.heap.size w W) {e : List Val} (hv : SAt W G w.heap.size e) : HPost w0 w G W (G.addS w.heap.size e) ∧ (G.addS w.heap.size e).sp (some ⟨w.heap.size, 0, none⟩) e := by
  have hd : ¬ G.dom w.heap.size := fun h => by have := hG.lt h; omega
  refine ⟨⟨Gh.le_addS hd, (hG.below hb).addS hd hv, hb, fun b h => ?_⟩, Gh.sp_addS _ _ _⟩
  rcases Gh.dom_addS h with rfl | h
  · exact .inr (Nat.le_refl _)
  · exact .inl h
set_option maxRecDepth 20000 in
set_option maxHeartbeats 2000000 in
theorem enter_raw {w0 w : World} {M : Nat} {G : Gh} {s : St} (h : MS w0 w M G s) (hn : s.ts.length + 1 ≤ 1000000000) (hc : s.calls ≤ 1000) {pf pg : Option Addr} {f g : Val} (hf : G.vp pf f) (hg : G.vp pg g) (hk : f.k = 3) :
    Calls Tryz.prog 167 #[.pointer (some ⟨M, 0, none⟩), .pointer pf, .pointer pg] w (StPost w0 w M G (enterS s f g)) := by
  obtain ⟨b, rfl, hb⟩ := hf
  obtain ⟨pb, ps, pi, pga, pa, h0, h1, h2, h3, h4, h5, h6, h7, a1, a2, a3, a4⟩ := h.hg.v b f hb
  obtain ⟨hbody, henv⟩ := a1 hk
  have lb : b < w.heap.size := World.block_lt_of_cell? _ _ h0
  have lM := h.lt
  have m2 := h.c2
  have m3 := h.c3
  have g2 := h.fz 2
  have hbM := (h.far b (.inl (by rw [hb]; simp))).1
  obtain ⟨S', hS⟩ : ∃ S', S' = enterS s f g := ⟨_, rfl⟩
  rw [← hS]
  by_cases hcf : s.calls = s.fuel
  · have HS : Hid (S' = s.stop fuelO) := by rw [hS]; unfold enterS; rw [if_pos hcf]; rfl
    have e1 : ((s.calls : Int) == (s.fuel : Int)) = true := by rw [hcf]; simp
    have H : Hid (MS w0 w M G s) := h
    clear hS hcf h hn hc hg a1 a2 a3 a4 hbody henv h0 h1 h2 h3 h4 h5 h6 h7
    go_enter Tryz.func167, Tryz.ntmps167
    go_wp2_with fail
    go_quiet (fail)
    go_wp2_with fail
    refine (end_any (H.out.below (below_rN (Below.refl _ _) _)) fuelO).mono ?_
    rintro e w1 ⟨rfl, x1, x2⟩
    have HE : Hid (StPost w0 w M G S' (.returned (.tuple #[])) w1) := by rw [HS.out]; exact StPost.of rfl x1 ((Fr.below (below_rN (Below.refl _ _) _) lM).trans x2)
    clear x1 x2
    go_wp2_with fail
    go_end0
    exact HE.out
  · have HS : Hid (S' = ⟨lookT f.body (g :: f.env) :: s.ts, s.vs, s.calls + 1, s.fuel, s.ended⟩) := by rw [hS]; unfold enterS; rw [if_neg hcf]; rfl
    have e1 : ((s.calls : Int) == (s.fuel : Int)) = false := by simp; omega
    have H : Hid (MS w0 w M G s ∧ s.ts.length + 1 ≤ 1000000000 ∧ G.vp pg g ∧ TmP w0 pb f.body ∧ G.sp ps f.env) := ⟨h, hn, hg, hbody, henv⟩
    clear hS hcf h hn hg a1 a2 a3 a4 hbody henv h0 h1 h4 h5 h6 h7
    go_enter Tryz.func167, Tryz.ntmps167
    go_wp2_with fail
    go_quiet (fail)
    go_wp2_with fail
    obtain ⟨W2, hW2⟩ : ∃ W, W = (w.drewN nq).setCell ⟨M, 2, none⟩ (.int .i64 ((s.calls : Int) + 1)) := ⟨_, rfl⟩
    have hms : MS w0 W2 M G ⟨s.ts, s.vs, s.calls + 1, s.fuel, s.ended⟩ ∧ Fr M w W2 := by
      rw [hW2]
      refine H.out.1.set (s' := ⟨s.ts, s.vs, s.calls + 1, s.fuel, s.ended⟩) _ ?_ ?_ rfl rfl ⟨rfl, rfl, rfl, by simp [World.setCell], fun k hk h1 _ => Below.heap_setCell _ _ _ _ h1⟩ ?_ ?_ ?_ ?_ ?_ ?_
      · rw [set_other (by omega)]; rfl
      · rw [set_other (by omega)]; rfl
      · have := set_same (u := w.drewN nq) (v := .int .i64 ((s.calls : Int) + 1)) (j := 2) (b := M) H.out.1.c2
        simpa using this
      · rw [set_other (by omega)]; exact H.out.1.c3
      · rw [set_other (by omega)]; exact H.out.1.c4
      · rw [set_other (by omega)]; exact H.out.1.c5
      · rw [set_other (by omega)]; exact H.out.1.c6
      · intro i; simpa using H.out.1.fz i
    have k2 : W2.cell? ⟨b, 2, none⟩ = some (.pointer pb) := by rw [hW2, World.cell?_setCell_far _ _ _ _ (by intro e; exact hbM e.symm)]; exact h2
    have k3 : W2.cell? ⟨b, 3, none⟩ = some (.pointer ps) := by rw [hW2, World.cell?_setCell_far _ _ _ _ (by intro e; exact hbM e.symm)]; exact h3
    have lb2 : b < W2.heap.size := World.block_lt_of_cell? _ _ k2
    have lM2 := hms.1.lt
    have HP : Hid (Calls Tryz.prog 98 #[.pointer (some ⟨M, 0, none⟩), .agg #[.int .i64 1, .pointer pb, .pointer (some ⟨W2.heap.size, 0, none⟩), .pointer none]] (W2.alloc (.cells #[.pointer pg, .pointer ps] 243)).drew fun e w' => e = .returned (.tuple #[]) ∧ Hid (StPost w0 w M G S' (.returned (.tuple #[])) w')) := by
      have hb2 : Below W2.heap.size W2 (W2.alloc (.cells #[.pointer pg, .pointer ps] 243)).drew := ((Below.refl _ _).alloc (Nat.le_refl _) _).drew
      obtain ⟨r1, r2⟩ := scope_new (e := g :: f.env) hms.1.hg hb2 ⟨g, f.env, pg, ps, rfl, by simp [go_sem], by simp [go_sem], H.out.2.2.1, H.out.2.2.2.2⟩
      obtain ⟨m1, m2⟩ := hms.1.post r1
      refine (plan_any m1 (TkP.look H.out.2.2.2.1 r2) H.out.2.1).mono ?_
      rintro e w' ⟨rfl, x1, x2⟩
      refine ⟨rfl, ?_⟩
      rw [HS.out]
      exact ⟨rfl, _, r1.le, x1, hms.2.trans (m2.trans x2)⟩
    rw [← hW2]
    clear hW2 hms h2 h3 m2 m3 g2
    go_region_with (go_at_call 98; refine HP.out.mono ?_; rintro e w3 ⟨rfl, HE⟩)
    all_goals
      go_wp2_with fail
      go_end0
      exact HE.out
set_option maxRecDepth 20000 in
set_option maxHeartbeats 2000000 in
theorem accomp_raw {w0 w : World} {M : Nat} {G : Gh} {s : St} (h : MS w0 w M G s) (hn : s.ts.length + 3 ≤ 1000000000) (hv : s.vs.length + 2 ≤ 1000000000) {pf pg : Option Addr} {f g : Val} (hf : G.vp pf f) (hg : G.vp pg g) (hk : f.k = 4) :
    Calls Tryz.prog 168 #[.pointer (some ⟨M, 0, none⟩), .pointer pf, .pointer pg] w (StPost w0 w M G (accompS s f g)) := by
  obtain ⟨b, rfl, hb⟩ := hf
  have cells : ∀ W, HG w0 W G → ∃ pi pga pa, W.cell? ⟨b, 4, none⟩ = some (.pointer pi) ∧ W.cell? ⟨b, 5, none⟩ = some (.pointer pga) ∧ W.cell? ⟨b, 6, none⟩ = some (.pointer pa) ∧ G.vp pi f.core ∧ G.cp pga f.given ∧ G.cp pa f.answer ∧ b < W.heap.size := fun W hW => by
    obtain ⟨pb, ps, pi, pga, pa, h0, h1, h2, h3, h4, h5, h6, h7, a1, a2, a3, a4⟩ := hW.v b f hb
    obtain ⟨u, hi, hu⟩ := a2 (.inl hk)
    have hcore : f.core = u := by unfold Val.core; rw [hi]; rfl
    exact ⟨pi, pga, pa, h4, h5, h6, by rw [hcore]; exact hu, a3, a4, World.block_lt_of_cell? _ _ h0⟩
  have HC : Hid (∀ W, HG w0 W G → ∃ pi pga pa, W.cell? ⟨b, 4, none⟩ = some (.pointer pi) ∧ W.cell? ⟨b, 5, none⟩ = some (.pointer pga) ∧ W.cell? ⟨b, 6, none⟩ = some (.pointer pa) ∧ G.vp pi f.core ∧ G.cp pga f.given ∧ G.cp pa f.answer ∧ b < W.heap.size) := cells
  obtain ⟨pi, pga, pa, c4, _, _, i1, _, _, lb⟩ := cells w h.hg
  have H : Hid (MS w0 w M G s ∧ G.vp pi f.core ∧ G.vp pg g ∧ s.ts.length + 3 ≤ 1000000000 ∧ s.vs.length + 2 ≤ 1000000000) := ⟨h, i1, hg, hn, hv⟩
  clear h i1 hg hn hv cells hk hb
  go_enter Tryz.func168, Tryz.ntmps168
  go_wp2_with fail
  refine (keep_any H.out.1 H.out.2.1 (by have := H.out.2.2.2.2; omega)).mono ?_
  rintro e w1 ⟨rfl, h1, f1⟩
  have H1 : Hid (MS w0 w1 M G (s.push f.core) ∧ Fr M w w1) := ⟨h1, f1⟩
  clear h1 f1 c4 lb
  go_wp2_with fail
  refine (keep_any H1.out.1 H.out.2.2.1 (by have := H.out.2.2.2.2; simp only [St.push, List.length_cons]; omega)).mono ?_
  rintro e w2 ⟨rfl, h2, f2⟩
  obtain ⟨_, _, pa2, _, _, c6, _, _, i6, lb⟩ := HC.out w2 h2.hg
  have H2 : Hid (MS w0 w2 M G ((s.push f.core).push g) ∧ Fr M w w2 ∧ G.cp pa2 f.answer) := ⟨h2, H1.out.2.trans f2, i6⟩
  clear h2 f2 i6
  go_wp2_with fail
  refine (plan_any H2.out.1 (TkP.change H2.out.2.2) (by have := H.out.2.2.2.1; simp only [St.push]; omega)).mono ?_
  rintro e w3 ⟨rfl, h3, f3⟩
  have H3 : Hid (MS w0 w3 M G (((s.push f.core).push g).plan (changeT f.answer)) ∧ Fr M w w3) := ⟨h3, H2.out.2.1.trans f3⟩
  clear h3 f3 c6 lb
  go_wp2_with fail
  refine (plan_any (t := doT 7) H3.out.1 (TkP.do_ (w0 := w0) (G := G) 7 (by omega) (by omega)) (by have := H.out.2.2.2.1; simp only [St.push, St.plan, List.length_cons]; omega)).mono ?_
  rintro e w4 ⟨rfl, h4, f4⟩
  obtain ⟨_, pg4, _, _, c5, _, _, i5, _, lb⟩ := HC.out w4 h4.hg
  have H4 : Hid (MS w0 w4 M G ((((s.push f.core).push g).plan (changeT f.answer)).plan (doT 7)) ∧ Fr M w w4 ∧ G.cp pg4 f.given) := ⟨h4, H3.out.2.trans f4, i5⟩
  clear h4 f4 i5
  go_wp2_with fail
  refine (plan_any H4.out.1 (TkP.change H4.out.2.2) (by have := H.out.2.2.2.1; simp only [St.push, St.plan, List.length_cons]; omega)).mono ?_
  rintro e w5 ⟨rfl, h5, f5⟩
  have HE : Hid (StPost w0 w M G (accompS s f g) (.returned (.tuple #[])) w5) := StPost.of rfl h5 (H4.out.2.1.trans f5)
  clear h5 f5
  go_wp2_with fail
  go_end0
  exact HE.out
set_option maxRecDepth 20000 in
set_option maxHeartbeats 2000000 in
theorem call_raw {w0 w : World} {M : Nat} {G : Gh} {ts : List Task} {u v : Val} {r : List Val} {ca fu : Nat} {en : Out} (h : MS w0 w M G ⟨ts, v :: u :: r, ca, fu, en⟩) (hr : r.length + 2 ≤ 1000000000) (hn : ts.length + 3 ≤ 1000000000) (hc : ca ≤ 1000) :
    Calls Tryz.prog 138 #[.pointer (some ⟨M, 0, none⟩)] w (StPost w0 w M G (callS ⟨ts, r, ca, fu, en⟩ u v)) := by
  have H : Hid (MS w0 w M G ⟨ts, v :: u :: r, ca, fu, en⟩ ∧ r.length + 2 ≤ 1000000000 ∧ ts.length + 3 ≤ 1000000000 ∧ ca ≤ 1000) := ⟨h, hr, hn, hc⟩
  clear h hn hr hc
  obtain ⟨S', hS⟩ : ∃ S', S' = callS ⟨ts, r, ca, fu, en⟩ u v := ⟨_, rfl⟩
  rw [← hS]
  have HS : Hid (S' = callS ⟨ts, r, ca, fu, en⟩ u v) := hS
  clear hS
  go_enter Tryz.func138, Tryz.ntmps138
  go_wp2_with fail
  refine (take_any' H.out.1 rfl (by have := H.out.2.1; simp only [List.length_cons]; omega)).mono ?_
  rintro e w1 ⟨p1, rfl, hv1, h1, f1⟩
  have H1 : Hid (MS w0 w1 M G ⟨ts, u :: r, ca, fu, en⟩ ∧ G.vp p1 v ∧ Fr M w w1) := ⟨h1, hv1, f1⟩
  clear hv1 h1 f1
  go_wp2_with fail
  refine (take_any' H1.out.1 rfl (by have := H.out.2.1; omega)).mono ?_
  rintro e w2 ⟨p2, rfl, hv2, h2, f2⟩
  obtain ⟨b2, rfl, u0, u1, lu⟩ := vp_top h2.hg hv2
  have H2 : Hid (MS w0 w2 M G ⟨ts, r, ca, fu, en⟩ ∧ Fr M w w2 ∧ G.vp (some ⟨b2, 0, none⟩) u ∧ G.vp p1 v) := ⟨h2, H1.out.2.2.trans f2, hv2, H1.out.2.1⟩
  clear h2 f2 hv2 H1 u1
  have fin : ∀ e w', StPost w0 w2 M G S' e w' → e = .returned (.tuple #[]) ∧ Hid (StPost w0 w M G S' (.returned (.tuple #[])) w') := fun e w' h => by
    obtain ⟨rfl, K, hl, hm, hf⟩ := h
    exact ⟨rfl, rfl, K, hl, hm, H2.out.2.1.trans hf⟩
  have HF : Hid (∀ e w', StPost w0 w2 M G S' e w' → e = .returned (.tuple #[]) ∧ Hid (StPost w0 w M G S' (.returned (.tuple #[])) w')) := fin
  clear fin
  by_cases h3 : u.k = 3
  · have HC : Hid (Calls Tryz.prog 167 #[.pointer (some ⟨M, 0, none⟩), .pointer (some ⟨b2, 0, none⟩), .pointer p1] w2 fun e w' => e = .returned (.tuple #[]) ∧ Hid (StPost w0 w M G S' (.returned (.tuple #[])) w')) := by
      refine (enter_raw H2.out.1 (by have := H.out.2.2.1; show ts.length + 1 ≤ _; omega) H.out.2.2.2 H2.out.2.2.1 H2.out.2.2.2 h3).mono fun e w' hp => HF.out e w' ?_
      have e1 : callS ⟨ts, r, ca, fu, en⟩ u v = enterS ⟨ts, r, ca, fu, en⟩ u v := by unfold callS; rw [if_pos h3]
      rw [HS.out, e1]; exact hp
    rw [h3] at u0
    clear h3
    go_wp2_with fail
    refine HC.out.mono ?_
    rintro e w3 ⟨rfl, HE⟩
    go_wp2_with fail
    go_end0
    exact HE.out
  · by_cases h4 : u.k = 4
    · have HC : Hid (Calls Tryz.prog 168 #[.pointer (some ⟨M, 0, none⟩), .pointer (some ⟨b2, 0, none⟩), .pointer p1] w2 fun e w' => e = .returned (.tuple #[]) ∧ Hid (StPost w0 w M G S' (.returned (.tuple #[])) w')) := by
        refine (accomp_raw H2.out.1 H.out.2.2.1 H.out.2.1 H2.out.2.2.1 H2.out.2.2.2 h4).mono fun e w' hp => HF.out e w' ?_
        have e1 : callS ⟨ts, r, ca, fu, en⟩ u v = accompS ⟨ts, r, ca, fu, en⟩ u v := by unfold callS; rw [if_neg h3, if_pos h4]
        rw [HS.out, e1]; exact hp
      rw [h4] at u0
      clear h3 h4
      go_wp2_with fail
      refine HC.out.mono ?_
      rintro e w3 ⟨rfl, HE⟩
      go_wp2_with fail
      go_end0
      exact HE.out
    · have HC : Hid (Calls Tryz.prog 166 #[.pointer (some ⟨M, 0, none⟩)] w2 fun e w' => e = .returned (.tuple #[]) ∧ Hid (StPost w0 w M G S' (.returned (.tuple #[])) w')) := by
        refine (stick_any H2.out.1).mono fun e w' hp => HF.out e w' ?_
        have e1 : callS ⟨ts, r, ca, fu, en⟩ u v = St.stop ⟨ts, r, ca, fu, en⟩ stuckO := by unfold callS; rw [if_neg h3, if_neg h4]
        rw [HS.out, e1]
        exact StPost.of hp.1 hp.2.1 hp.2.2
      have q3 : (u.k == 3) = false := by simpa using h3
      have q4 : (u.k == 4) = false := by simpa using h4
      clear h3 h4
      go_wp2_with fail
      refine HC.out.mono ?_
      rintro e w3 ⟨rfl, HE⟩
      go_wp2_with fail
      go_end0
      exact HE.out
end Go.Proofs.YtnddkmccagiclaaGreatDoor

/-
  What the call of the machine's change does.
-/
namespace Go.Proofs.YtnddkmccagiclaaGreatDoor
open Go.RowKit
set_option maxRecDepth 20000 in
set_option maxHeartbeats 4000000 in
theorem change_raw {w0 w : World} {M : Nat} {G : Gh} {ts : List Task} {v : Val} {r : List Val} {ca fu : Nat} {en : Out} (h : MS w0 w M G ⟨ts, v :: r, ca, fu, en⟩) (hr : r.length + 1 ≤ 1000000000) {pc : Option Addr} {c : Option Ca} (hc : G.cp pc c) :
    Calls Tryz.prog 139 #[.pointer (some ⟨M, 0, none⟩), .pointer pc] w (StPost w0 w M G (changeS ⟨ts, r, ca, fu, en⟩ c v)) := by
  have H : Hid (Calls Tryz.prog 101 #[.pointer (some ⟨M, 0, none⟩)] w fun e w' => ∃ p, e = .returned (.pointer p) ∧ G.vp p v ∧ MS w0 w' M G ⟨ts, r, ca, fu, en⟩ ∧ Fr M w w') := take_any' h rfl (by omega)
  have HR : Hid (r.length + 1 ≤ 1000000000) := hr
  clear h hr
  obtain ⟨S', hS⟩ : ∃ S', S' = changeS ⟨ts, r, ca, fu, en⟩ c v := ⟨_, rfl⟩
  rw [← hS]
  rcases hc with ⟨rfl, rfl⟩ | ⟨q, x, rfl, rfl, hq⟩
  · have HS : Hid (S' = St.push ⟨ts, r, ca, fu, en⟩ v) := hS
    clear hS
    go_enter Tryz.func139, Tryz.ntmps139
    go_wp2_with fail
    refine H.out.mono ?_
    rintro e w1 ⟨p1, rfl, hv1, h1, f1⟩
    have H1 : Hid (MS w0 w1 M G ⟨ts, r, ca, fu, en⟩ ∧ G.vp p1 v ∧ Fr M w w1) := ⟨h1, hv1, f1⟩
    clear hv1 h1 f1
    go_wp2_with fail
    refine (keep_any H1.out.1 H1.out.2.1 HR.out).mono ?_
    rintro e w2 ⟨rfl, h2, f2⟩
    have HE : Hid (StPost w0 w M G S' (.returned (.tuple #[])) w2) := by rw [HS.out]; exact StPost.of rfl h2 (H1.out.2.2.trans f2)
    clear h2 f2
    go_wp2_with fail
    go_end0
    exact HE.out
  · have HX : Hid (G.c q = some x) := hq
    have HS : Hid (S' = changeS ⟨ts, r, ca, fu, en⟩ (some x) v) := hS
    clear hS hq
    obtain ⟨op, hop⟩ : ∃ b, x.opens = b := ⟨_, rfl⟩
    have e1 : op = true → v.k ≠ 5 → S' = St.stop ⟨ts, r, ca, fu, en⟩ stuckO := fun h1 h2 => by rw [HS.out]; simp only [changeS]; rw [if_pos ⟨by rw [hop]; exact h1, h2⟩]
    have e2 : op = true → v.k = 5 → v.as ≠ x.kind → S' = St.stop ⟨ts, r, ca, fu, en⟩ x.wrong := fun h1 h2 h3 => by rw [HS.out]; simp only [changeS]; rw [if_neg (fun h => h.2 h2), if_pos ⟨by rw [hop]; exact h1, h3⟩]
    have e3 : (op = true → v.k = 5 ∧ v.as = x.kind) → x.ends.k ≠ 0 → S' = St.stop ⟨ts, r, ca, fu, en⟩ x.ends := fun h1 h2 => by rw [HS.out]; simp only [changeS]; rw [if_neg (fun h => h.2 (h1 (by rw [← hop]; exact h.1)).1), if_neg (fun h => h.2 (h1 (by rw [← hop]; exact h.1)).2), if_pos h2]
    have e4 : (op = true → v.k = 5 ∧ v.as = x.kind) → x.ends.k = 0 → S' = St.push ⟨ts, r, ca, fu, en⟩ (ofC x v) := fun h1 h2 => by rw [HS.out]; simp only [changeS]; rw [if_neg (fun h => h.2 (h1 (by rw [← hop]; exact h.1)).1), if_neg (fun h => h.2 (h1 (by rw [← hop]; exact h.1)).2), if_neg (fun h => h h2)]
    have H4 : Hid ((op = true → v.k ≠ 5 → S' = St.stop ⟨ts, r, ca, fu, en⟩ stuckO) ∧ (op = true → v.k = 5 → v.as ≠ x.kind → S' = St.stop ⟨ts, r, ca, fu, en⟩ x.wrong) ∧ ((op = true → v.k = 5 ∧ v.as = x.kind) → x.ends.k ≠ 0 → S' = St.stop ⟨ts, r, ca, fu, en⟩ x.ends) ∧ ((op = true → v.k = 5 ∧ v.as = x.kind) → x.ends.k = 0 → S' = St.push ⟨ts, r, ca, fu, en⟩ (ofC x v)) ∧ x.opens = op) := ⟨e1, e2, e3, e4, hop⟩
    clear e1 e2 e3 e4
    have HM : ∀ (w1 : World) (p1 : Option Addr), MS w0 w1 M G ⟨ts, r, ca, fu, en⟩ → G.vp p1 v → Fr M w w1 → Hid ((∀ n, S' = St.stop ⟨ts, r, ca, fu, en⟩ stuckO → Calls Tryz.prog 166 #[.pointer (some ⟨M, 0, none⟩)] (w1.drewN n) fun e w' => e = .returned (.tuple #[]) ∧ Hid (StPost w0 w M G S' (.returned (.tuple #[])) w')) ∧
        (∀ n (o : Out), S' = St.stop ⟨ts, r, ca, fu, en⟩ o → Calls Tryz.prog 169 #[.pointer (some ⟨M, 0, none⟩), .agg #[.int .i64 o.k, .int .i64 o.n, .bool o.b]] (w1.drewN n) fun e w' => e = .returned (.tuple #[]) ∧ Hid (StPost w0 w M G S' (.returned (.tuple #[])) w')) ∧
        (∀ n, S' = St.push ⟨ts, r, ca, fu, en⟩ (ofC x v) → (op = true → v.k = 5) → Calls Tryz.prog 170 #[.pointer (some ⟨q, 0, none⟩), .pointer p1] (w1.drewN n) fun e w' => ∃ p2, e = .returned (.pointer p2) ∧ Hid (Calls Tryz.prog 162 #[.pointer (some ⟨M, 0, none⟩), .pointer p2] w' fun e w'' => e = .returned (.tuple #[]) ∧ Hid (StPost w0 w M G S' (.returned (.tuple #[])) w'')))) := by
      intro w1 p1 h1 hv1 f1
      have hb := fun n => below_rN (Below.refl w1.heap.size w1) n
      refine ⟨fun n hs => ?_, fun n o hs => ?_, fun n hs ho => ?_⟩
      · refine (stick_any (h1.below (hb n))).mono ?_
        rintro e w' ⟨rfl, a, b⟩
        refine ⟨rfl, ?_⟩
        rw [hs]; exact StPost.of rfl a (f1.trans ((Fr.below (hb n) h1.lt).trans b))
      · refine (end_any (h1.below (hb n)) o).mono ?_
        rintro e w' ⟨rfl, a, b⟩
        refine ⟨rfl, ?_⟩
        rw [hs]; exact StPost.of rfl a (f1.trans ((Fr.below (hb n) h1.lt).trans b))
      · have h1' := h1.below (hb n)
        refine (of_any h1'.hg hv1 (.inr ⟨q, x, rfl, rfl, HX.out⟩) (fun h => ho (by rw [← H4.out.2.2.2.2]; exact h))).mono ?_
        rintro e w' ⟨p2, H2, rfl, hp2, hpost⟩
        obtain ⟨m1, m2⟩ := h1'.post hpost
        refine ⟨p2, rfl, (keep_any m1 hp2 HR.out).mono ?_⟩
        rintro e w'' ⟨rfl, a, b⟩
        refine ⟨rfl, ?_⟩
        rw [hs]; exact ⟨rfl, H2, hpost.le, a, f1.trans ((Fr.below (hb n) h1.lt).trans (m2.trans b))⟩
    have HMH : Hid (∀ (w1 : World) (p1 : Option Addr), MS w0 w1 M G ⟨ts, r, ca, fu, en⟩ → G.vp p1 v → Fr M w w1 → Hid ((∀ n, S' = St.stop ⟨ts, r, ca, fu, en⟩ stuckO → Calls Tryz.prog 166 #[.pointer (some ⟨M, 0, none⟩)] (w1.drewN n) fun e w' => e = .returned (.tuple #[]) ∧ Hid (StPost w0 w M G S' (.returned (.tuple #[])) w')) ∧
        (∀ n (o : Out), S' = St.stop ⟨ts, r, ca, fu, en⟩ o → Calls Tryz.prog 169 #[.pointer (some ⟨M, 0, none⟩), .agg #[.int .i64 o.k, .int .i64 o.n, .bool o.b]] (w1.drewN n) fun e w' => e = .returned (.tuple #[]) ∧ Hid (StPost w0 w M G S' (.returned (.tuple #[])) w')) ∧
        (∀ n, S' = St.push ⟨ts, r, ca, fu, en⟩ (ofC x v) → (op = true → v.k = 5) → Calls Tryz.prog 170 #[.pointer (some ⟨q, 0, none⟩), .pointer p1] (w1.drewN n) fun e w' => ∃ p2, e = .returned (.pointer p2) ∧ Hid (Calls Tryz.prog 162 #[.pointer (some ⟨M, 0, none⟩), .pointer p2] w' fun e w'' => e = .returned (.tuple #[]) ∧ Hid (StPost w0 w M G S' (.returned (.tuple #[])) w''))))) := HM
    clear HM hop
    have HCL : Hid (∀ (w1 : World) (p1 : Option Addr), HG w0 w1 G → G.vp p1 v → ∃ b pg pa, p1 = some ⟨b, 0, none⟩ ∧ b < w1.heap.size ∧ q < w1.heap.size ∧ w1.cell? ⟨b, 0, none⟩ = some (.int .i64 v.k) ∧ w1.cell? ⟨b, 7, none⟩ = some (.int .i64 v.as) ∧ CAt w1 q x pg pa) := by
      intro w1 p1 hg hv
      obtain ⟨b, rfl, hb⟩ := hv
      obtain ⟨pb, ps, pi, pg, pa, h0, h1, h2, h3, h4, h5, h6, h7, _⟩ := hg.v b v hb
      obtain ⟨pg', pa', hC, _, _⟩ := hg.c q x HX.out
      exact ⟨b, pg', pa', rfl, World.block_lt_of_cell? _ _ h0, World.block_lt_of_cell? _ _ hC.c0, h0, h7, hC⟩
    go_enter Tryz.func139, Tryz.ntmps139
    go_wp2_with fail
    refine H.out.mono ?_
    rintro e w1 ⟨p1, rfl, hv1, h1, f1⟩
    obtain ⟨b, pg, pa, rfl, lb, lq, v0, v7, hC⟩ := HCL.out w1 p1 h1.hg hv1
    have HA := HMH.out w1 _ h1 hv1 f1
    obtain ⟨c0, c1, c2, c3, c4, c5, c6, c7, c8, c9, c10⟩ := hC
    rw [H4.out.2.2.2.2] at c0
    clear h1 f1 hv1 H HMH HCL HS c8 c9 c10
    cases op
    · by_cases h0 : x.ends.k = 0
      · have HS : Hid (S' = St.push ⟨ts, r, ca, fu, en⟩ (ofC x v)) := H4.out.2.2.2.1 (fun h => by cases h) h0
        have z0 : (x.ends.k != 0) = false := by simpa using h0
        clear h0 H4
        go_wp2_with fail
        go_quiet (fail)
        go_wp2_with fail
        refine (HA.out.2.2 _ HS.out (fun h => by cases h)).mono ?_
        rintro e w2 ⟨p2, rfl, HKp⟩
        go_wp2_with fail
        refine HKp.out.mono ?_
        rintro e w3 ⟨rfl, HE⟩
        go_wp2_with fail
        go_end0
        exact HE.out
      · have HS : Hid (S' = St.stop ⟨ts, r, ca, fu, en⟩ x.ends) := H4.out.2.2.1 (fun h => by cases h) h0
        have z0 : (x.ends.k != 0) = true := by simpa using h0
        clear h0 H4
        go_wp2_with fail
        go_quiet (fail)
        go_wp2_with fail
        refine (HA.out.2.1 _ x.ends HS.out).mono ?_
        rintro e w2 ⟨rfl, HE⟩
        go_wp2_with fail
        go_end0
        exact HE.out
    · by_cases h5 : v.k = 5
      · by_cases ha : v.as = x.kind
        · have hok : (true = true → v.k = 5 ∧ v.as = x.kind) := fun _ => ⟨h5, ha⟩
          have z7 : (v.as != x.kind) = false := by simpa using ha
          have H5 : Hid (v.k = 5) := h5
          rw [h5] at v0
          by_cases h0 : x.ends.k = 0
          · have HS : Hid (S' = St.push ⟨ts, r, ca, fu, en⟩ (ofC x v)) := H4.out.2.2.2.1 hok h0
            have z0 : (x.ends.k != 0) = false := by simpa using h0
            clear h0 H4 h5 ha hok
            go_wp2_with fail
            go_quiet (fail)
            go_wp2_with fail
            refine (HA.out.2.2 _ HS.out (fun _ => H5.out)).mono ?_
            rintro e w2 ⟨p2, rfl, HKp⟩
            go_wp2_with fail
            refine HKp.out.mono ?_
            rintro e w3 ⟨rfl, HE⟩
            go_wp2_with fail
            go_end0
            exact HE.out
          · have HS : Hid (S' = St.stop ⟨ts, r, ca, fu, en⟩ x.ends) := H4.out.2.2.1 hok h0
            have z0 : (x.ends.k != 0) = true := by simpa using h0
            clear h0 H4 h5 ha hok
            go_wp2_with fail
            go_quiet (fail)
            go_wp2_with fail
            refine (HA.out.2.1 _ x.ends HS.out).mono ?_
            rintro e w2 ⟨rfl, HE⟩
            go_wp2_with fail
            go_end0
            exact HE.out
        · have HS : Hid (S' = St.stop ⟨ts, r, ca, fu, en⟩ x.wrong) := H4.out.2.1 rfl h5 ha
          have z7 : (v.as != x.kind) = true := by simpa using ha
          rw [h5] at v0
          clear h5 ha H4
          go_wp2_with fail
          go_quiet (fail)
          go_wp2_with fail
          refine (HA.out.2.1 _ x.wrong HS.out).mono ?_
          rintro e w2 ⟨rfl, HE⟩
          go_wp2_with fail
          go_end0
          exact HE.out
      · have HS : Hid (S' = St.stop ⟨ts, r, ca, fu, en⟩ stuckO) := H4.out.1 rfl h5
        have z5 : (v.k != 5) = true := by simpa using h5
        clear h5 H4
        go_wp2_with fail
        refine (HA.out.1 0 HS.out).mono ?_
        rintro e w2 ⟨rfl, HE⟩
        go_wp2_with fail
        go_end0
        exact HE.out
end Go.Proofs.YtnddkmccagiclaaGreatDoor
