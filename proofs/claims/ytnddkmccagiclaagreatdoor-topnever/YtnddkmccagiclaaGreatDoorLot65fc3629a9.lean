/-
  What the calls of (*reader).readType and (*reader).readTypeInBrackets do, whatever words are left.
-/
import Derived.Test.YtnddkmccagiclaaGreatDoorLot1a1770ec87
import Derived.WalkSmall
import Derived.Test.YtnddkmccagiclaaGreatDoorLot1ed503618d
import Derived.Test.YtnddkmccagiclaaGreatDoorLotb19f3f36a9
namespace Go.Proofs.YtnddkmccagiclaaGreatDoor
open Go.RowKit
/-- The state behind a step, in letters. -/
def StepR (o : Option (List ByteArray)) (b : Bool) (ws' : List ByteArray) (b' : Bool) : Prop := (o = some ws' ∧ b' = b) ∨ (o = none ∧ ws' = [] ∧ b' = true)
theorem After.letters {R : Nat} {b : Bool} {o : Option (List ByteArray)} {w : World} (h : After R b o w) : ∃ ws' b', RS R ws' b' w ∧ StepR o b ws' b' := by
  rcases h with ⟨r, ho, hr⟩ | ⟨ho, hr⟩
  · exact ⟨r, b, hr, .inl ⟨ho, rfl⟩⟩
  · exact ⟨[], true, hr, .inr ⟨ho, rfl, rfl⟩⟩
theorem StepR.after {R : Nat} {b b' : Bool} {o : Option (List ByteArray)} {ws' : List ByteArray} {w : World} (h : StepR o b ws' b') (hr : RS R ws' b' w) : After R b o w := by
  rcases h with ⟨ho, rfl⟩ | ⟨ho, rfl, rfl⟩
  · exact .inl ⟨_, ho, hr⟩
  · exact .inr ⟨ho, hr⟩
theorem behind_len {x : ByteArray} {ws r : List ByteArray} (h : behind x ws = some r) : r.length < ws.length := by
  cases ws with
  | nil => cases h
  | cons y s =>
    simp only [behind] at h
    split at h
    · cases h; simp
    · cases h
theorem readTy_len : ∀ (n : Nat) (ws : List ByteArray) (p : Ty × List ByteArray), readTy n ws = some p → p.2.length < ws.length
  | 0, _, _, h => by simp [readTy] at h
  | n + 1, [], _, h => by simp [readTy] at h
  | n + 1, x :: r, p, h => by
    simp only [readTy] at h
    split at h
    · simp only [Option.bind_eq_some_iff, Option.map_eq_some_iff] at h
      obtain ⟨r1, h1, q1, h2, q2, h3, r4, h4, rfl⟩ := h
      have a1 := behind_len h1
      have a2 := readTy_len n _ _ h2
      have a3 := readTy_len n _ _ h3
      have a4 := behind_len h4
      simp only [List.length_cons]; omega
    · simp only [Option.map_eq_some_iff] at h
      obtain ⟨k, _, rfl⟩ := h
      simp
theorem readTy_nil (n : Nat) : readTy n [] = none := by cases n <;> rfl
theorem StepR.len {o : Option (List ByteArray)} {b b' : Bool} {ws' : List ByteArray} {N : Nat} (h : StepR o b ws' b') (hN : ∀ r, o = some r → r.length ≤ N) : ws'.length ≤ N := by
  rcases h with ⟨ho, _⟩ | ⟨_, rfl, _⟩
  · exact hN _ ho
  · exact Nat.zero_le _
set_option maxRecDepth 20000 in
set_option maxHeartbeats 1000000 in
/-- (*reader).readType where no word is left. -/
theorem readType_nil (R n : Nat) (b : Bool) (w : World) (hg : Gl w) (hR : 12 ≤ R) (h : RS R [] b w) :
    Calls Tryz.prog 84 #[.pointer (some ⟨R, 0, none⟩)] w (TyPost R b (readTy n []) w) := by
  have hb0 : Below w.heap.size w (w.alloc (.cells #[.int .i64 0, .slice none 0 0] 24)) := (Below.refl _ _).alloc (Nat.le_refl _) _
  have HN : Hid (Calls Tryz.prog 52 #[.pointer (some ⟨R, 0, none⟩)] (w.alloc (.cells #[.int .i64 0, .slice none 0 0] 24)) fun e w' => e = .returned (.string ⟨#[]⟩) ∧ RS R [] true w' ∧ Kept R none (w.alloc (.cells #[.int .i64 0, .slice none 0 0] 24)) w') := next_nil R b _ (h.below hb0)
  have hRl := h.lt
  have HG : Hid (Gl (w.alloc (.cells #[.int .i64 0, .slice none 0 0] 24))) := hg.below hb0
  rw [readTy_nil]
  clear h hg
  go_enter Tryz.func84, Tryz.ntmps84
  go_wp2_with fail
  refine HN.out.mono ?_
  rintro e w1 ⟨rfl, hr, hk⟩
  have z0 : w1.cell? ⟨w.heap.size, 0, none⟩ = some (.int .i64 0) := hk.cell (by simp [go_sem]) (by omega)
  have z1 : w1.cell? ⟨w.heap.size, 1, none⟩ = some (.slice none 0 0) := hk.cell (by simp [go_sem]) (by omega)
  have z2 : w1.frozen? ⟨w.heap.size, 0, none⟩ = false := hk.fz (by simp [go_sem]) (by simp) (by omega)
  have z3 : w1.frozen? ⟨w.heap.size, 1, none⟩ = false := hk.fz (by simp [go_sem]) (by simp) (by omega)
  have HG1 : Hid (Gl w1) := HG.out.kept hR hk
  have HK : Hid (Kept R none w w1) := (Kept.of_below hb0).trans hk
  have HR : Hid (RS R [] true w1) := hr
  have hs1 : w.heap.size < w1.heap.size := World.block_lt_of_cell? _ _ z0
  have HT : Hid (Calls Tryz.prog 121 #[.string ⟨#[]⟩] w1 fun e w' => e = .returned (.tuple #[.int .i64 0, .bool false]) ∧ w' = w1) := typeKindOf_any ⟨#[]⟩ w1 HG1.out
  have HF : Hid (Calls Tryz.prog 82 #[.pointer (some ⟨R, 0, none⟩)] w1 fun e w' => e = .returned (.tuple #[]) ∧ RS R [] true w' ∧ Kept R none w1 w') := fail_any R [] true w1 HR.out
  clear hk hr HN HG HG1
  go_wp2_with fail
  refine HT.out.mono ?_
  rintro e w2 ⟨rfl, rfl⟩
  go_wp2_with fail
  refine HF.out.mono ?_
  rintro e w3 ⟨rfl, hr3, hk3⟩
  have hne : w.heap.size ≠ R := by omega
  have y0 := hk3.cell z0 hne
  have y1 := hk3.cell z1 hne
  have y2 := hk3.fz z2 hs1 hne
  have y3 := hk3.fz z3 hs1 hne
  have HR3 : Hid (RS R [] true w3 ∧ Kept R none w w3) := ⟨hr3, HK.out.trans hk3⟩
  clear hr3 hk3 z0 z1 z2 z3 HF HT HR HK
  go_wp2_with fail
  refine bodyPost_ret (v := .agg #[.int .i64 0, .slice none 0 0]) ?_ rfl ⟨leaf 0, rfl, leaf_in _ _, leaf_bl _ _, ?_, ?_, ?_⟩
  · have hc := set_two (u := .int .i64 0) (v := .slice none 0 0) y0 y1
    simp [results, Tryz.results84, go_sem, hc.1, hc.2]
  · exact kept_set2 HR3.out.2 (Nat.le_refl _)
  · exact .inr ⟨rfl, HR3.out.1.set2 (by omega)⟩
  · intro p hp; cases hp
/-- What the brackets tell. -/
def inTy (n : Nat) (r : List ByteArray) : Option (Ty × List ByteArray) :=
  (behind toB r).bind fun r1 => (readTy n r1).bind fun p => (readTy n p.2).bind fun q => (behind clB q.2).map fun r4 => (⟨3, [p.1, q.1]⟩, r4)
/-- Four steps make the whole. -/
theorem inTy_steps {n : Nat} {r ws1 ws2 ws3 ws4 : List ByteArray} {b b1 b2 b3 b4 : Bool} {t1 t2 : Ty}
    (h1 : StepR (behind toB r) b ws1 b1) (h2 : StepR ((readTy n ws1).map (·.2)) b1 ws2 b2) (e2 : ∀ p, readTy n ws1 = some p → t1 = p.1)
    (h3 : StepR ((readTy n ws2).map (·.2)) b2 ws3 b3) (e3 : ∀ p, readTy n ws2 = some p → t2 = p.1) (h4 : StepR (behind clB ws3) b3 ws4 b4) :
    StepR ((inTy n r).map (·.2)) b ws4 b4 ∧ ∀ p, inTy n r = some p → (⟨3, [t1, t2]⟩ : Ty) = p.1 := by
  have dead : ∀ (o : Option (Ty × List ByteArray)), o = none → ws4 = [] → b4 = true → StepR (o.map (·.2)) b ws4 b4 ∧ ∀ p, o = some p → (⟨3, [t1, t2]⟩ : Ty) = p.1 := by
    rintro o rfl rfl rfl
    exact ⟨.inr ⟨rfl, rfl, rfl⟩, fun p h => by cases h⟩
  have nil4 : ws3 = [] → b3 = true → ws4 = [] ∧ b4 = true := by
    rintro rfl rfl
    rcases h4 with ⟨h, _⟩ | ⟨_, h, h'⟩
    · cases h
    · exact ⟨h, h'⟩
  have nil3 : ws2 = [] → b2 = true → ws4 = [] ∧ b4 = true := by
    rintro rfl rfl
    rw [readTy_nil] at h3
    rcases h3 with ⟨h, _⟩ | ⟨_, h, h'⟩
    · cases h
    · exact nil4 h h'
  have nil2 : ws1 = [] → b1 = true → ws4 = [] ∧ b4 = true := by
    rintro rfl rfl
    rw [readTy_nil] at h2
    rcases h2 with ⟨h, _⟩ | ⟨_, h, h'⟩
    · cases h
    · exact nil3 h h'
  rcases h1 with ⟨ho1, rfl⟩ | ⟨ho1, hn1, hb1⟩
  · rcases h2 with ⟨ho2, rfl⟩ | ⟨ho2, hn2, hb2⟩
    · obtain ⟨p, hp, hp2⟩ := Option.map_eq_some_iff.1 ho2
      rcases h3 with ⟨ho3, rfl⟩ | ⟨ho3, hn3, hb3⟩
      · obtain ⟨q, hq, hq2⟩ := Option.map_eq_some_iff.1 ho3
        subst hp2
        rcases h4 with ⟨ho4, rfl⟩ | ⟨ho4, hn4, hb4⟩
        · subst hq2
          have e : inTy n r = some (⟨3, [p.1, q.1]⟩, ws4) := by simp [inTy, ho1, hp, hq, ho4]
          rw [e]
          refine ⟨.inl ⟨rfl, rfl⟩, fun x hx => ?_⟩
          cases hx
          rw [e2 p hp, e3 q hq]
        · subst hq2
          exact dead _ (by simp [inTy, ho1, hp, hq, ho4]) hn4 hb4
      · have hq : readTy n p.2 = none := by rw [hp2]; exact Option.map_eq_none_iff.1 ho3
        obtain ⟨x, y⟩ := nil4 hn3 hb3
        exact dead _ (by simp [inTy, ho1, hp, hq]) x y
    · have hq : readTy n ws1 = none := Option.map_eq_none_iff.1 ho2
      obtain ⟨x, y⟩ := nil3 hn2 hb2
      exact dead _ (by simp [inTy, ho1, hq]) x y
  · obtain ⟨x, y⟩ := nil2 hn1 hb1
    exact dead _ (by simp [inTy, ho1]) x y
/-- A tree stays where another block is written. -/
theorem Tr.In.set2 {w : World} {k : Nat} {u v : Value} {t : Tr} (h : t.In w) (hb : t.Bl (· ≠ k)) : t.In ((w.setCell ⟨k, 0, none⟩ u).setCell ⟨k, 1, none⟩ v) := by
  refine h.congr (P := fun b => b ≠ k) ?_ hb
  intro b hbk o
  rw [World.cell?_setCell_other, World.cell?_setCell_other]
  · intro e; simp only [Addr.mk.injEq] at e; omega
  · intro e; simp only [Addr.mk.injEq] at e; omega
set_option maxRecDepth 20000 in
set_option maxHeartbeats 2000000 in
theorem inTy_walk (R n : Nat) (r : List ByteArray) (b : Bool) (w : World) (hg : Gl w) (hR : 12 ≤ R) (h : RS R r b w) (hn : r.length ≤ n) (h1n : 1 ≤ n)
    (ih : Hid (∀ (ws : List ByteArray) (b : Bool) (w : World), ws.length < n → Gl w → RS R ws b w → Calls Tryz.prog 84 #[.pointer (some ⟨R, 0, none⟩)] w (TyPost R b (readTy n ws) w))) :
    Calls Tryz.prog 120 #[.pointer (some ⟨R, 0, none⟩)] w (TyPost R b (inTy n r) w) := by
  have hb0 : Below w.heap.size w (w.alloc (.cells #[.int .i64 0, .slice none 0 0] 24)) := (Below.refl _ _).alloc (Nat.le_refl _) _
  have HW : Hid (Calls Tryz.prog 85 #[.pointer (some ⟨R, 0, none⟩), .string ⟨#[116, 111]⟩] (w.alloc (.cells #[.int .i64 0, .slice none 0 0] 24)) fun e w' => e = .returned (.tuple #[]) ∧ After R b (behind toB r) w' ∧ Kept R none (w.alloc (.cells #[.int .i64 0, .slice none 0 0] 24)) w') := want_any R toB (by decide) r b _ (h.below hb0)
  have hRl := h.lt
  have HG : Hid (Gl (w.alloc (.cells #[.int .i64 0, .slice none 0 0] 24))) := hg.below hb0
  have HL : Hid (r.length ≤ n) := hn
  clear h hg hn
  go_enter Tryz.func120, Tryz.ntmps120
  go_wp2_with fail
  refine HW.out.mono ?_
  rintro e w1 ⟨rfl, hA, hk⟩
  obtain ⟨ws1, b1, hr1, hs1⟩ := hA.letters
  have hl1 : ws1.length < n := by
    rcases hs1 with ⟨ho, _⟩ | ⟨_, rfl, _⟩
    · have := behind_len ho; have := HL.out; omega
    · simp; omega
  have z0 : w1.cell? ⟨w.heap.size, 0, none⟩ = some (.int .i64 0) := hk.cell (by simp [go_sem]) (by omega)
  have z1 : w1.cell? ⟨w.heap.size, 1, none⟩ = some (.slice none 0 0) := hk.cell (by simp [go_sem]) (by omega)
  have z2 : w1.frozen? ⟨w.heap.size, 0, none⟩ = false := hk.fz (by simp [go_sem]) (by simp) (by omega)
  have z3 : w1.frozen? ⟨w.heap.size, 1, none⟩ = false := hk.fz (by simp [go_sem]) (by simp) (by omega)
  have hsz1 : w.heap.size < w1.heap.size := World.block_lt_of_cell? _ _ z0
  have HZ : Hid (w1.cell? ⟨w.heap.size, 0, none⟩ = some (.int .i64 0) ∧ w1.cell? ⟨w.heap.size, 1, none⟩ = some (.slice none 0 0) ∧ w1.frozen? ⟨w.heap.size, 0, none⟩ = false ∧ w1.frozen? ⟨w.heap.size, 1, none⟩ = false) := ⟨z0, z1, z2, z3⟩
  have HK1 : Hid (Kept R none w w1) := (Kept.of_below hb0).trans hk
  have HT1 : Hid (Calls Tryz.prog 84 #[.pointer (some ⟨R, 0, none⟩)] w1 (TyPost R b1 (readTy n ws1) w1)) := ih.out ws1 b1 w1 hl1 (HG.out.kept hR hk) hr1
  have HG1 : Hid (Gl w1) := HG.out.kept hR hk
  have HS1 : Hid (StepR (behind toB r) b ws1 b1) := hs1
  have HL1 : Hid (ws1.length < n) := hl1
  clear hk hA hr1 hs1 hl1 HW HG z0 z1 z2 z3
  go_wp2_with fail
  refine HT1.out.mono ?_
  rintro e w2 ⟨t1, rfl, hi1, hbl1, hk2, hA2, he1⟩
  obtain ⟨ws2, b2, hr2, hs2⟩ := hA2.letters
  have hl2 : ws2.length < n := by
    rcases hs2 with ⟨ho, _⟩ | ⟨_, rfl, _⟩
    · obtain ⟨p, hp, rfl⟩ := Option.map_eq_some_iff.1 ho
      have := readTy_len n _ _ hp; have := HL1.out; omega
    · simp; omega
  have hsz2 : w1.heap.size ≤ w2.heap.size := hk2.size
  have HA : Hid (StepR ((readTy n ws1).map (·.2)) b1 ws2 b2 ∧ (∀ p, readTy n ws1 = some p → t1.ty = p.1) ∧ t1.In w2 ∧ t1.Bl (w1.heap.size ≤ ·) ∧ Kept R none w1 w2) := ⟨hs2, he1, hi1, hbl1, hk2⟩
  have hb2 : ∀ o, Below w2.heap.size w2 (w2.alloc o) := fun o => (Below.refl _ _).alloc (Nat.le_refl _) _
  have HT2 : Hid (∀ o, Calls Tryz.prog 84 #[.pointer (some ⟨R, 0, none⟩)] (w2.alloc o) (TyPost R b2 (readTy n ws2) (w2.alloc o))) := fun o => ih.out ws2 b2 _ hl2 ((HG1.out.kept hR hk2).below (hb2 o)) (hr2.below (hb2 o))
  clear hi1 hbl1 hk2 hA2 he1 hr2 hs2 hl2 HT1 HG1 HL1 hb2
  go_wp2_with fail
  refine (HT2.out _).mono ?_
  rintro e w3 ⟨t2, rfl, hi2, hbl2, hk3, hA3, he2⟩
  obtain ⟨ws3, b3, hr3, hs3⟩ := hA3.letters
  have hne : w.heap.size ≠ R := by omega
  have hne2 : w2.heap.size ≠ R := by omega
  have v0 := hk3.cell (b := w2.heap.size) (i := 0) (v := .int .i64 t1.k) (by simp [go_sem]) hne2
  have v1 := hk3.cell (b := w2.heap.size) (i := 1) (v := .slice t1.a t1.l.length t1.c) (by simp [go_sem]) hne2
  have hsz3 : w2.heap.size < w3.heap.size := World.block_lt_of_cell? _ _ v0
  have hkB : Kept R none w1 w3 := (HA.out.2.2.2.2.trans (Kept.of_below ((Below.refl _ _).alloc (Nat.le_refl _) _))).trans hk3
  have HB : Hid (StepR ((readTy n ws2).map (·.2)) b2 ws3 b3 ∧ (∀ p, readTy n ws2 = some p → t2.ty = p.1) ∧ t2.In w3 ∧ t2.Bl (w2.heap.size < ·) ∧ Kept R none w1 w3 ∧ t1.In w3) :=
    ⟨hs3, he2, hi2, hbl2.mono (fun b h => by simp at h; omega), hkB, HA.out.2.2.1.keptR ((Kept.of_below ((Below.refl _ _).alloc (Nat.le_refl _) _)).trans hk3) (HA.out.2.2.2.1.mono fun b h => by omega)⟩
  have hb3 : ∀ o, Below w3.heap.size w3 (w3.alloc o) := fun o => (Below.refl _ _).alloc (Nat.le_refl _) _
  have HW3 : Hid (∀ o, Calls Tryz.prog 85 #[.pointer (some ⟨R, 0, none⟩), .string ⟨#[41]⟩] (w3.alloc o) fun e w' => e = .returned (.tuple #[]) ∧ After R b3 (behind clB ws3) w' ∧ Kept R none (w3.alloc o) w') := fun o => want_any R clB (by decide) ws3 b3 _ (hr3.below (hb3 o))
  clear hi2 hbl2 hk3 hA3 he2 hr3 hs3 hkB HT2 hb3
  have HV : Hid (w3.cell? ⟨w2.heap.size, 0, none⟩ = some (.int .i64 t1.k) ∧ w3.cell? ⟨w2.heap.size, 1, none⟩ = some (.slice t1.a t1.l.length t1.c)) := ⟨v0, v1⟩
  clear v0 v1
  go_wp2_with fail
  refine (HW3.out _).mono ?_
  rintro e w4 ⟨rfl, hA4, hk4⟩
  obtain ⟨ws4, b4, hr4, hs4⟩ := hA4.letters
  have hk34 : Kept R none w3 w4 := (Kept.of_below ((Below.refl _ _).alloc (Nat.le_refl _) _)).trans hk4
  have hne3 : w3.heap.size ≠ R := by omega
  have v0 := hk34.cell HV.out.1 hne2
  have v1 := hk34.cell HV.out.2 hne2
  have u0 := hk4.cell (b := w3.heap.size) (i := 0) (v := .int .i64 t2.k) (by simp [go_sem]) hne3
  have u1 := hk4.cell (b := w3.heap.size) (i := 1) (v := .slice t2.a t2.l.length t2.c) (by simp [go_sem]) hne3
  have hk14 : Kept R none w1 w4 := HB.out.2.2.2.2.1.trans hk34
  have hsz4 : w3.heap.size < w4.heap.size := World.block_lt_of_cell? _ _ u0
  have hi1 : t1.In w4 := HB.out.2.2.2.2.2.keptR hk34 (HA.out.2.2.2.1.mono fun b h => by omega)
  have hi2 : t2.In w4 := HB.out.2.2.1.keptR hk34 (HB.out.2.2.2.1.mono fun b h => by omega)
  have HT : Hid (Calls Tryz.prog 103 #[.agg #[.int .i64 t1.k, .slice t1.a t1.l.length t1.c], .agg #[.int .i64 t2.k, .slice t2.a t2.l.length t2.c]] w4 fun e w' => ∃ g, w4.heap.size ≤ g ∧ e = .returned (.agg #[.int .i64 3, .slice (some ⟨g, 0, none⟩) 2 2]) ∧ (Tr.mk 3 (some ⟨g, 0, none⟩) 2 [t1, t2]).In w' ∧ Below w4.heap.size w4 w') := to_any t1 t2 w4 hi1 hi2
  have HC : Hid (StepR (behind clB ws3) b3 ws4 b4 ∧ RS R ws4 b4 w4 ∧ Kept R none w1 w4) := ⟨hs4, hr4, hk14⟩
  clear hs4 hr4 hk14 hk34 hk4 hA4 hi1 hi2 HW3 HV
  go_wp2_with fail
  refine HT.out.mono ?_
  rintro e w5 ⟨g, hg5, rfl, hin5, hb5⟩
  have hk15 : Kept R none w1 w5 := HC.out.2.2.trans (Kept.of_below hb5)
  have y0 := hk15.cell HZ.out.1 hne
  have y1 := hk15.cell HZ.out.2.1 hne
  have y2 := hk15.fz HZ.out.2.2.1 hsz1 hne
  have y3 := hk15.fz HZ.out.2.2.2 hsz1 hne
  have HD : Hid (RS R ws4 b4 w5 ∧ Kept R none w w5 ∧ (Tr.mk 3 (some ⟨g, 0, none⟩) 2 [t1, t2]).In w5 ∧ w4.heap.size ≤ g) := ⟨HC.out.2.1.below hb5, HK1.out.trans hk15, hin5, hg5⟩
  clear hg5 hin5 hb5 hk15 HT v0 v1 u0 u1
  go_wp2_with fail
  have hfin := inTy_steps HS1.out HA.out.1 (fun p hp => HA.out.2.1 p hp) HB.out.1 (fun p hp => HB.out.2.1 p hp) HC.out.1
  have hbl : (Tr.mk 3 (some ⟨g, 0, none⟩) 2 [t1, t2]).Bl (w.heap.size < ·) := by
    have := HD.out.2.2.2
    exact Tr.Bl_two (by omega) (HA.out.2.2.2.1.mono fun b h => by omega) (HB.out.2.2.2.1.mono fun b h => by omega)
  refine bodyPost_ret (v := .agg #[.int .i64 3, .slice (some ⟨g, 0, none⟩) 2 2]) ?_ rfl ⟨Tr.mk 3 (some ⟨g, 0, none⟩) 2 [t1, t2], rfl, HD.out.2.2.1.set2 (hbl.mono fun b h => by omega), hbl.mono (fun b h => by omega), kept_set2 HD.out.2.1 (Nat.le_refl _), ?_, ?_⟩
  · have hc := set_two (u := .int .i64 3) (v := .slice (some ⟨g, 0, none⟩) 2 2) y0 y1
    simp [results, Tryz.results120, go_sem, hc.1, hc.2]
  · exact hfin.1.after (HD.out.1.set2 (by omega))
  · intro p hp
    rw [← hfin.2 p hp]
    simp [Tr.ty_mk]
set_option maxRecDepth 20000 in
set_option maxHeartbeats 1000000 in
/-- (*reader).readType at an open bracket. -/
theorem readType_open (R n : Nat) (r : List ByteArray) (b : Bool) (w : World) (hR : 12 ≤ R) (hg : Gl w) (h : RS R (opB :: r) b w)
    (ih : Hid (∀ (w : World), Gl w → RS R r b w → Calls Tryz.prog 120 #[.pointer (some ⟨R, 0, none⟩)] w (TyPost R b (inTy n r) w))) :
    Calls Tryz.prog 84 #[.pointer (some ⟨R, 0, none⟩)] w (TyPost R b (readTy (n + 1) (opB :: r)) w) := by
  have hb0 : Below w.heap.size w (w.alloc (.cells #[.int .i64 0, .slice none 0 0] 24)) := (Below.refl _ _).alloc (Nat.le_refl _) _
  have HN : Hid (Calls Tryz.prog 52 #[.pointer (some ⟨R, 0, none⟩)] (w.alloc (.cells #[.int .i64 0, .slice none 0 0] 24)) fun e w' => e = .returned (.string ⟨#[40]⟩) ∧ RS R r b w' ∧ Kept R none (w.alloc (.cells #[.int .i64 0, .slice none 0 0] 24)) w') := next_cons R opB r b _ (h.below hb0)
  have hRl := h.lt
  have HG : Hid (Gl (w.alloc (.cells #[.int .i64 0, .slice none 0 0] 24))) := hg.below hb0
  have e : readTy (n + 1) (opB :: r) = inTy n r := by rw [readTy, if_pos rfl]; rfl
  rw [e]
  clear h hg e
  go_enter Tryz.func84, Tryz.ntmps84
  go_wp2_with fail
  refine HN.out.mono ?_
  rintro e w1 ⟨rfl, hr, hk⟩
  have hne : w.heap.size ≠ R := by omega
  have z0 : w1.cell? ⟨w.heap.size, 0, none⟩ = some (.int .i64 0) := hk.cell (by simp [go_sem]) hne
  have z1 : w1.cell? ⟨w.heap.size, 1, none⟩ = some (.slice none 0 0) := hk.cell (by simp [go_sem]) hne
  have z2 : w1.frozen? ⟨w.heap.size, 0, none⟩ = false := hk.fz (by simp [go_sem]) (by simp) hne
  have z3 : w1.frozen? ⟨w.heap.size, 1, none⟩ = false := hk.fz (by simp [go_sem]) (by simp) hne
  have hs1 : w.heap.size < w1.heap.size := World.block_lt_of_cell? _ _ z0
  have HT : Hid (Calls Tryz.prog 120 #[.pointer (some ⟨R, 0, none⟩)] w1 (TyPost R b (inTy n r) w1)) := ih.out w1 (HG.out.kept hR hk) hr
  have HK : Hid (Kept R none w w1) := (Kept.of_below hb0).trans hk
  clear hk hr HN HG
  go_wp2_with fail
  refine HT.out.mono ?_
  rintro e w2 ⟨t, rfl, hi, hbl, hk2, hA, he⟩
  have y0 := hk2.cell z0 hne
  have y1 := hk2.cell z1 hne
  have y2 := hk2.fz z2 hs1 hne
  have y3 := hk2.fz z3 hs1 hne
  have HD : Hid (t.In w2 ∧ t.Bl (w1.heap.size ≤ ·) ∧ Kept R none w w2 ∧ After R b ((inTy n r).map (·.2)) w2 ∧ ∀ p, inTy n r = some p → t.ty = p.1) := ⟨hi, hbl, HK.out.trans hk2, hA, he⟩
  clear hi hbl hk2 hA he HK HT z0 z1 z2 z3
  go_wp2_with fail
  obtain ⟨ws', b', hr', hs'⟩ := HD.out.2.2.2.1.letters
  refine bodyPost_ret (v := .agg #[.int .i64 t.k, .slice t.a t.l.length t.c]) ?_ rfl ⟨t, rfl, HD.out.1.set2 (HD.out.2.1.mono fun b h => by omega), HD.out.2.1.mono (fun b h => by omega), kept_set2 HD.out.2.2.1 (Nat.le_refl _), hs'.after (hr'.set2 (by omega)), HD.out.2.2.2.2⟩
  have hc := set_two (u := .int .i64 t.k) (v := .slice t.a t.l.length t.c) y0 y1
  simp [results, Tryz.results84, go_sem, hc.1, hc.2]
/-- (*reader).readType. -/
theorem readType_any (R : Nat) (hR : 12 ≤ R) (n : Nat) : ∀ (ws : List ByteArray) (b : Bool) (w : World), ws.length < n → Gl w → RS R ws b w →
    Calls Tryz.prog 84 #[.pointer (some ⟨R, 0, none⟩)] w (TyPost R b (readTy n ws) w) := by
  induction n with
  | zero => intro ws b w h; omega
  | succ n ih =>
    intro ws b w hn hg h
    cases ws with
    | nil => exact readType_nil R (n + 1) b w hg hR h
    | cons x r =>
      by_cases hx : x = opB
      · subst hx
        refine readType_open R n r b w hR hg h (fun w hg h => ?_)
        cases n with
        | zero => simp at hn
        | succ n => exact inTy_walk R (n + 1) r b w hg hR h (by simp at hn; omega) (by omega) ih
      · exact readType_word R n x r hx b w hg hR h
end Go.Proofs.YtnddkmccagiclaaGreatDoor

/-
  What the call of kindOf answers.
-/
namespace Go.Proofs.YtnddkmccagiclaaGreatDoor
open Go.RowKit
theorem idx79_0 (v0 v1 v2 v3 v4 v5 v6 v7 v8 v9 : Value) (w : World) : (Instr.index 79 (.agg #[v0, v1, v2, v3, v4, v5, v6, v7, v8, v9]) (.int .i64 0)).run Tryz.prog w = .ok v0 w := by
  simp [Instr.index, run_underlying Tryz.underlying79, go_sem]
theorem idx79_1 (v0 v1 v2 v3 v4 v5 v6 v7 v8 v9 : Value) (w : World) : (Instr.index 79 (.agg #[v0, v1, v2, v3, v4, v5, v6, v7, v8, v9]) (.int .i64 1)).run Tryz.prog w = .ok v1 w := by
  simp [Instr.index, run_underlying Tryz.underlying79, go_sem]
theorem idx79_2 (v0 v1 v2 v3 v4 v5 v6 v7 v8 v9 : Value) (w : World) : (Instr.index 79 (.agg #[v0, v1, v2, v3, v4, v5, v6, v7, v8, v9]) (.int .i64 2)).run Tryz.prog w = .ok v2 w := by
  simp [Instr.index, run_underlying Tryz.underlying79, go_sem]
theorem idx79_3 (v0 v1 v2 v3 v4 v5 v6 v7 v8 v9 : Value) (w : World) : (Instr.index 79 (.agg #[v0, v1, v2, v3, v4, v5, v6, v7, v8, v9]) (.int .i64 3)).run Tryz.prog w = .ok v3 w := by
  simp [Instr.index, run_underlying Tryz.underlying79, go_sem]
theorem idx79_4 (v0 v1 v2 v3 v4 v5 v6 v7 v8 v9 : Value) (w : World) : (Instr.index 79 (.agg #[v0, v1, v2, v3, v4, v5, v6, v7, v8, v9]) (.int .i64 4)).run Tryz.prog w = .ok v4 w := by
  simp [Instr.index, run_underlying Tryz.underlying79, go_sem]
theorem idx79_5 (v0 v1 v2 v3 v4 v5 v6 v7 v8 v9 : Value) (w : World) : (Instr.index 79 (.agg #[v0, v1, v2, v3, v4, v5, v6, v7, v8, v9]) (.int .i64 5)).run Tryz.prog w = .ok v5 w := by
  simp [Instr.index, run_underlying Tryz.underlying79, go_sem]
theorem idx79_6 (v0 v1 v2 v3 v4 v5 v6 v7 v8 v9 : Value) (w : World) : (Instr.index 79 (.agg #[v0, v1, v2, v3, v4, v5, v6, v7, v8, v9]) (.int .i64 6)).run Tryz.prog w = .ok v6 w := by
  simp [Instr.index, run_underlying Tryz.underlying79, go_sem]
theorem idx79_7 (v0 v1 v2 v3 v4 v5 v6 v7 v8 v9 : Value) (w : World) : (Instr.index 79 (.agg #[v0, v1, v2, v3, v4, v5, v6, v7, v8, v9]) (.int .i64 7)).run Tryz.prog w = .ok v7 w := by
  simp [Instr.index, run_underlying Tryz.underlying79, go_sem]
theorem idx79_8 (v0 v1 v2 v3 v4 v5 v6 v7 v8 v9 : Value) (w : World) : (Instr.index 79 (.agg #[v0, v1, v2, v3, v4, v5, v6, v7, v8, v9]) (.int .i64 8)).run Tryz.prog w = .ok v8 w := by
  simp [Instr.index, run_underlying Tryz.underlying79, go_sem]
theorem idx79_9 (v0 v1 v2 v3 v4 v5 v6 v7 v8 v9 : Value) (w : World) : (Instr.index 79 (.agg #[v0, v1, v2, v3, v4, v5, v6, v7, v8, v9]) (.int .i64 9)).run Tryz.prog w = .ok v9 w := by
  simp [Instr.index, run_underlying Tryz.underlying79, go_sem]
set_option maxRecDepth 20000 in
set_option maxHeartbeats 2000000 in
theorem kindOf_any (x : ByteArray) (w : World) (hg : Gl w) : Calls Tryz.prog 83 #[.string x] w fun e w' => e = .returned (foundV (kindAt x)) ∧ w' = w := by
  have c0 := hg.wd.cell 0
  have c1 := hg.wd.cell 1
  have c2 := hg.wd.cell 2
  have c3 := hg.wd.cell 3
  have c4 := hg.wd.cell 4
  have c5 := hg.wd.cell 5
  have c6 := hg.wd.cell 6
  have c7 := hg.wd.cell 7
  have c8 := hg.wd.cell 8
  have c9 := hg.wd.cell 9
  simp only [List.getElem?_toArray, List.getElem?_cons_zero, List.getElem?_cons_succ] at c0 c1 c2 c3 c4 c5 c6 c7 c8 c9
  clear hg
  obtain ⟨be, he⟩ : ∃ b, x.toList.isEmpty = b := ⟨_, rfl⟩
  have HE : Hid (x.toList.isEmpty = be) := he
  obtain ⟨b4, h4⟩ : ∃ b, ((⟨#[97, 100, 100]⟩ : ByteArray).toList == x.toList) = b := ⟨_, rfl⟩
  have H4 : Hid (((⟨#[97, 100, 100]⟩ : ByteArray).toList == x.toList) = b4) := h4
  have k4 : ([97, 100, 100] == x.toList) = b4 := by rw [← h4, Lib.toList_data ⟨#[97, 100, 100]⟩]
  obtain ⟨b5, h5⟩ : ∃ b, ((⟨#[108, 101, 115, 115]⟩ : ByteArray).toList == x.toList) = b := ⟨_, rfl⟩
  have H5 : Hid (((⟨#[108, 101, 115, 115]⟩ : ByteArray).toList == x.toList) = b5) := h5
  have k5 : ([108, 101, 115, 115] == x.toList) = b5 := by rw [← h5, Lib.toList_data ⟨#[108, 101, 115, 115]⟩]
  obtain ⟨b6, h6⟩ : ∃ b, ((⟨#[105, 102]⟩ : ByteArray).toList == x.toList) = b := ⟨_, rfl⟩
  have H6 : Hid (((⟨#[105, 102]⟩ : ByteArray).toList == x.toList) = b6) := h6
  have k6 : ([105, 102] == x.toList) = b6 := by rw [← h6, Lib.toList_data ⟨#[105, 102]⟩]
  obtain ⟨b7, h7⟩ : ∃ b, ((⟨#[102, 117, 110]⟩ : ByteArray).toList == x.toList) = b := ⟨_, rfl⟩
  have H7 : Hid (((⟨#[102, 117, 110]⟩ : ByteArray).toList == x.toList) = b7) := h7
  have k7 : ([102, 117, 110] == x.toList) = b7 := by rw [← h7, Lib.toList_data ⟨#[102, 117, 110]⟩]
  obtain ⟨b8, h8⟩ : ∃ b, ((⟨#[99, 97, 108, 108]⟩ : ByteArray).toList == x.toList) = b := ⟨_, rfl⟩
  have H8 : Hid (((⟨#[99, 97, 108, 108]⟩ : ByteArray).toList == x.toList) = b8) := h8
  have k8 : ([99, 97, 108, 108] == x.toList) = b8 := by rw [← h8, Lib.toList_data ⟨#[99, 97, 108, 108]⟩]
  obtain ⟨b9, h9⟩ : ∃ b, ((⟨#[97, 115]⟩ : ByteArray).toList == x.toList) = b := ⟨_, rfl⟩
  have H9 : Hid (((⟨#[97, 115]⟩ : ByteArray).toList == x.toList) = b9) := h9
  have k9 : ([97, 115] == x.toList) = b9 := by rw [← h9, Lib.toList_data ⟨#[97, 115]⟩]
  clear h4 h5 h6 h7 h8 h9
  have x0 := idx79_0 (.string ⟨#[]⟩) (.string ⟨#[]⟩) (.string ⟨#[]⟩) (.string ⟨#[]⟩) (.string ⟨#[97, 100, 100]⟩) (.string ⟨#[108, 101, 115, 115]⟩) (.string ⟨#[105, 102]⟩) (.string ⟨#[102, 117, 110]⟩) (.string ⟨#[99, 97, 108, 108]⟩) (.string ⟨#[97, 115]⟩)
  have x1 := idx79_1 (.string ⟨#[]⟩) (.string ⟨#[]⟩) (.string ⟨#[]⟩) (.string ⟨#[]⟩) (.string ⟨#[97, 100, 100]⟩) (.string ⟨#[108, 101, 115, 115]⟩) (.string ⟨#[105, 102]⟩) (.string ⟨#[102, 117, 110]⟩) (.string ⟨#[99, 97, 108, 108]⟩) (.string ⟨#[97, 115]⟩)
  have x2 := idx79_2 (.string ⟨#[]⟩) (.string ⟨#[]⟩) (.string ⟨#[]⟩) (.string ⟨#[]⟩) (.string ⟨#[97, 100, 100]⟩) (.string ⟨#[108, 101, 115, 115]⟩) (.string ⟨#[105, 102]⟩) (.string ⟨#[102, 117, 110]⟩) (.string ⟨#[99, 97, 108, 108]⟩) (.string ⟨#[97, 115]⟩)
  have x3 := idx79_3 (.string ⟨#[]⟩) (.string ⟨#[]⟩) (.string ⟨#[]⟩) (.string ⟨#[]⟩) (.string ⟨#[97, 100, 100]⟩) (.string ⟨#[108, 101, 115, 115]⟩) (.string ⟨#[105, 102]⟩) (.string ⟨#[102, 117, 110]⟩) (.string ⟨#[99, 97, 108, 108]⟩) (.string ⟨#[97, 115]⟩)
  have x4 := idx79_4 (.string ⟨#[]⟩) (.string ⟨#[]⟩) (.string ⟨#[]⟩) (.string ⟨#[]⟩) (.string ⟨#[97, 100, 100]⟩) (.string ⟨#[108, 101, 115, 115]⟩) (.string ⟨#[105, 102]⟩) (.string ⟨#[102, 117, 110]⟩) (.string ⟨#[99, 97, 108, 108]⟩) (.string ⟨#[97, 115]⟩)
  have x5 := idx79_5 (.string ⟨#[]⟩) (.string ⟨#[]⟩) (.string ⟨#[]⟩) (.string ⟨#[]⟩) (.string ⟨#[97, 100, 100]⟩) (.string ⟨#[108, 101, 115, 115]⟩) (.string ⟨#[105, 102]⟩) (.string ⟨#[102, 117, 110]⟩) (.string ⟨#[99, 97, 108, 108]⟩) (.string ⟨#[97, 115]⟩)
  have x6 := idx79_6 (.string ⟨#[]⟩) (.string ⟨#[]⟩) (.string ⟨#[]⟩) (.string ⟨#[]⟩) (.string ⟨#[97, 100, 100]⟩) (.string ⟨#[108, 101, 115, 115]⟩) (.string ⟨#[105, 102]⟩) (.string ⟨#[102, 117, 110]⟩) (.string ⟨#[99, 97, 108, 108]⟩) (.string ⟨#[97, 115]⟩)
  have x7 := idx79_7 (.string ⟨#[]⟩) (.string ⟨#[]⟩) (.string ⟨#[]⟩) (.string ⟨#[]⟩) (.string ⟨#[97, 100, 100]⟩) (.string ⟨#[108, 101, 115, 115]⟩) (.string ⟨#[105, 102]⟩) (.string ⟨#[102, 117, 110]⟩) (.string ⟨#[99, 97, 108, 108]⟩) (.string ⟨#[97, 115]⟩)
  have x8 := idx79_8 (.string ⟨#[]⟩) (.string ⟨#[]⟩) (.string ⟨#[]⟩) (.string ⟨#[]⟩) (.string ⟨#[97, 100, 100]⟩) (.string ⟨#[108, 101, 115, 115]⟩) (.string ⟨#[105, 102]⟩) (.string ⟨#[102, 117, 110]⟩) (.string ⟨#[99, 97, 108, 108]⟩) (.string ⟨#[97, 115]⟩)
  have x9 := idx79_9 (.string ⟨#[]⟩) (.string ⟨#[]⟩) (.string ⟨#[]⟩) (.string ⟨#[]⟩) (.string ⟨#[97, 100, 100]⟩) (.string ⟨#[108, 101, 115, 115]⟩) (.string ⟨#[105, 102]⟩) (.string ⟨#[102, 117, 110]⟩) (.string ⟨#[99, 97, 108, 108]⟩) (.string ⟨#[97, 115]⟩)
  have HNE : Hid (∀ l : List UInt8, l ≠ [] → (l == x.toList) = true → be = false) := by
    intro l hl h
    have e : l = x.toList := by simpa using h
    rw [← HE.out, ← e]
    cases l with
    | nil => exact absurd rfl hl
    | cons _ _ => rfl
  go_enter Tryz.func83, Tryz.ntmps83
  go_wp2_with fail
  go_loopg [7] 10 (fun k i wr => ∃ j : Nat, k + j = 10 ∧ i = .int .i64 (j : Int) ∧ wr = w ∧ Hid ((5 ≤ j → b4 = false) ∧ (6 ≤ j → b5 = false) ∧ (7 ≤ j → b6 = false) ∧ (8 ≤ j → b7 = false) ∧ (9 ≤ j → b8 = false) ∧ (10 ≤ j → b9 = false)))
  case atStart => exact ⟨0, rfl, rfl, rfl, fun h => absurd h (by omega), fun h => absurd h (by omega), fun h => absurd h (by omega), fun h => absurd h (by omega), fun h => absurd h (by omega), fun h => absurd h (by omega)⟩
  case round =>
    obtain ⟨j, hj, rfl, rfl, HJ⟩ := hrel
    obtain rfl | rfl | rfl | rfl | rfl | rfl | rfl | rfl | rfl | rfl | rfl : j = 0 ∨ j = 1 ∨ j = 2 ∨ j = 3 ∨ j = 4 ∨ j = 5 ∨ j = 6 ∨ j = 7 ∨ j = 8 ∨ j = 9 ∨ j = 10 := by omega
    · cases be
      · go_wp2_with fail
        go_roundg 9
        case measure => omega
        case rel => exact ⟨1, rfl, rfl, rfl, fun h => absurd h (by omega), fun h => absurd h (by omega), fun h => absurd h (by omega), fun h => absurd h (by omega), fun h => absurd h (by omega), fun h => absurd h (by omega)⟩
      · go_wp2_with fail
        go_roundg 9
        case measure => omega
        case rel => exact ⟨1, rfl, rfl, rfl, fun h => absurd h (by omega), fun h => absurd h (by omega), fun h => absurd h (by omega), fun h => absurd h (by omega), fun h => absurd h (by omega), fun h => absurd h (by omega)⟩
    · cases be
      · go_wp2_with fail
        go_roundg 8
        case measure => omega
        case rel => exact ⟨2, rfl, rfl, rfl, fun h => absurd h (by omega), fun h => absurd h (by omega), fun h => absurd h (by omega), fun h => absurd h (by omega), fun h => absurd h (by omega), fun h => absurd h (by omega)⟩
      · go_wp2_with fail
        go_roundg 8
        case measure => omega
        case rel => exact ⟨2, rfl, rfl, rfl, fun h => absurd h (by omega), fun h => absurd h (by omega), fun h => absurd h (by omega), fun h => absurd h (by omega), fun h => absurd h (by omega), fun h => absurd h (by omega)⟩
    · cases be
      · go_wp2_with fail
        go_roundg 7
        case measure => omega
        case rel => exact ⟨3, rfl, rfl, rfl, fun h => absurd h (by omega), fun h => absurd h (by omega), fun h => absurd h (by omega), fun h => absurd h (by omega), fun h => absurd h (by omega), fun h => absurd h (by omega)⟩
      · go_wp2_with fail
        go_roundg 7
        case measure => omega
        case rel => exact ⟨3, rfl, rfl, rfl, fun h => absurd h (by omega), fun h => absurd h (by omega), fun h => absurd h (by omega), fun h => absurd h (by omega), fun h => absurd h (by omega), fun h => absurd h (by omega)⟩
    · cases be
      · go_wp2_with fail
        go_roundg 6
        case measure => omega
        case rel => exact ⟨4, rfl, rfl, rfl, fun h => absurd h (by omega), fun h => absurd h (by omega), fun h => absurd h (by omega), fun h => absurd h (by omega), fun h => absurd h (by omega), fun h => absurd h (by omega)⟩
      · go_wp2_with fail
        go_roundg 6
        case measure => omega
        case rel => exact ⟨4, rfl, rfl, rfl, fun h => absurd h (by omega), fun h => absurd h (by omega), fun h => absurd h (by omega), fun h => absurd h (by omega), fun h => absurd h (by omega), fun h => absurd h (by omega)⟩
    · cases b4
      · go_wp2_with fail
        go_roundg 5
        case measure => omega
        case rel => exact ⟨5, rfl, rfl, rfl, fun _ => trivial, fun h => absurd h (by omega), fun h => absurd h (by omega), fun h => absurd h (by omega), fun h => absurd h (by omega), fun h => absurd h (by omega)⟩
      · obtain rfl := HNE.out [97, 100, 100] (by simp) k4
        go_wp2_with fail
        refine bodyPost_ret (v := .tuple #[.int .i64 4, .bool true]) (by simp [results, Tryz.results83, go_sem]) rfl ⟨?_, rfl⟩
        rw [← (Lib.bytes_beq_iff _ _).1 H4.out]
        rfl
    · obtain rfl := HJ.out.1 (by omega)
      cases b5
      · go_wp2_with fail
        go_roundg 4
        case measure => omega
        case rel => exact ⟨6, rfl, rfl, rfl, fun _ => trivial, fun _ => trivial, fun h => absurd h (by omega), fun h => absurd h (by omega), fun h => absurd h (by omega), fun h => absurd h (by omega)⟩
      · obtain rfl := HNE.out [108, 101, 115, 115] (by simp) k5
        go_wp2_with fail
        refine bodyPost_ret (v := .tuple #[.int .i64 5, .bool true]) (by simp [results, Tryz.results83, go_sem]) rfl ⟨?_, rfl⟩
        rw [← (Lib.bytes_beq_iff _ _).1 H5.out]
        rfl
    · obtain rfl := HJ.out.1 (by omega)
      obtain rfl := HJ.out.2.1 (by omega)
      cases b6
      · go_wp2_with fail
        go_roundg 3
        case measure => omega
        case rel => exact ⟨7, rfl, rfl, rfl, fun _ => trivial, fun _ => trivial, fun _ => trivial, fun h => absurd h (by omega), fun h => absurd h (by omega), fun h => absurd h (by omega)⟩
      · obtain rfl := HNE.out [105, 102] (by simp) k6
        go_wp2_with fail
        refine bodyPost_ret (v := .tuple #[.int .i64 6, .bool true]) (by simp [results, Tryz.results83, go_sem]) rfl ⟨?_, rfl⟩
        rw [← (Lib.bytes_beq_iff _ _).1 H6.out]
        rfl
    · obtain rfl := HJ.out.1 (by omega)
      obtain rfl := HJ.out.2.1 (by omega)
      obtain rfl := HJ.out.2.2.1 (by omega)
      cases b7
      · go_wp2_with fail
        go_roundg 2
        case measure => omega
        case rel => exact ⟨8, rfl, rfl, rfl, fun _ => trivial, fun _ => trivial, fun _ => trivial, fun _ => trivial, fun h => absurd h (by omega), fun h => absurd h (by omega)⟩
      · obtain rfl := HNE.out [102, 117, 110] (by simp) k7
        go_wp2_with fail
        refine bodyPost_ret (v := .tuple #[.int .i64 7, .bool true]) (by simp [results, Tryz.results83, go_sem]) rfl ⟨?_, rfl⟩
        rw [← (Lib.bytes_beq_iff _ _).1 H7.out]
        rfl
    · obtain rfl := HJ.out.1 (by omega)
      obtain rfl := HJ.out.2.1 (by omega)
      obtain rfl := HJ.out.2.2.1 (by omega)
      obtain rfl := HJ.out.2.2.2.1 (by omega)
      cases b8
      · go_wp2_with fail
        go_roundg 1
        case measure => omega
        case rel => exact ⟨9, rfl, rfl, rfl, fun _ => trivial, fun _ => trivial, fun _ => trivial, fun _ => trivial, fun _ => trivial, fun h => absurd h (by omega)⟩
      · obtain rfl := HNE.out [99, 97, 108, 108] (by simp) k8
        go_wp2_with fail
        refine bodyPost_ret (v := .tuple #[.int .i64 8, .bool true]) (by simp [results, Tryz.results83, go_sem]) rfl ⟨?_, rfl⟩
        rw [← (Lib.bytes_beq_iff _ _).1 H8.out]
        rfl
    · obtain rfl := HJ.out.1 (by omega)
      obtain rfl := HJ.out.2.1 (by omega)
      obtain rfl := HJ.out.2.2.1 (by omega)
      obtain rfl := HJ.out.2.2.2.1 (by omega)
      obtain rfl := HJ.out.2.2.2.2.1 (by omega)
      cases b9
      · go_wp2_with fail
        go_roundg 0
        case measure => omega
        case rel => exact ⟨10, rfl, rfl, rfl, fun _ => trivial, fun _ => trivial, fun _ => trivial, fun _ => trivial, fun _ => trivial, fun _ => trivial⟩
      · obtain rfl := HNE.out [97, 115] (by simp) k9
        go_wp2_with fail
        refine bodyPost_ret (v := .tuple #[.int .i64 9, .bool true]) (by simp [results, Tryz.results83, go_sem]) rfl ⟨?_, rfl⟩
        rw [← (Lib.bytes_beq_iff _ _).1 H9.out]
        rfl
    · obtain rfl := HJ.out.1 (by omega)
      obtain rfl := HJ.out.2.1 (by omega)
      obtain rfl := HJ.out.2.2.1 (by omega)
      obtain rfl := HJ.out.2.2.2.1 (by omega)
      obtain rfl := HJ.out.2.2.2.2.1 (by omega)
      obtain rfl := HJ.out.2.2.2.2.2 (by omega)
      go_wp2_with fail
      refine bodyPost_ret (v := .tuple #[.int .i64 0, .bool false]) (by simp [results, Tryz.results83, go_sem]) rfl ⟨?_, rfl⟩
      simp [foundV, kindAt, atWord, kindWs, ne_of_beq H4.out, ne_of_beq H5.out, ne_of_beq H6.out, ne_of_beq H7.out, ne_of_beq H8.out, ne_of_beq H9.out]
end Go.Proofs.YtnddkmccagiclaaGreatDoor
