/-
  What the calls of (*reader).readType and (*reader).readTypeInBrackets do, whatever words are left.
-/
import Derived.Test.YtnddkmccagiclabGreatDoorLot2c1b367ec8
import Derived.WalkSmall
import Derived.Test.YtnddkmccagiclabGreatDoorLot2ebbd2cd4c
import Derived.Test.YtnddkmccagiclabGreatDoorLot59e900709f
import Derived.Shelf.Strings.Builder1
import Derived.Shelf.Strings.Builder2
import Derived.Shelf.Small.Utf8
import Derived.Shelf.Small.Strs
import Derived.Shelf.Small.Wraps
import Derived.Shelf.Utf8.RuneCount
import Derived.Shelf.Strconv.Atoi
import Derived.Shelf.Strconv.Itoa0
import Derived.Shelf.Strconv.Itoa1
import Derived.Shelf.LaysM
import Derived.Shelf.Strconv.Itoa2
import Derived.Shelf.Strconv.Itoa3
import Derived.Shelf.Strconv.AtoiErrFast
import Derived.Shelf.Strconv.ParseIntEmpty
import Derived.Shelf.Strconv.AtoiFail
import Derived.Shelf.Strconv.Clone
import Derived.Shelf.Strconv.SyntaxError
import Derived.Shelf.LaysC
import Derived.Shelf.Strconv.ToError
import Derived.Shelf.Strconv.Lower
import Derived.Shelf.Strconv.ParseUint10
import Derived.Shelf.Strconv.ParseUint10Empty
import Derived.Shelf.Strconv.ParseUint10Any
import Derived.Shelf.Strconv.ParseInt10
import Derived.Shelf.Strconv.AtoiLong
import Derived.Shelf.Strconv.AtoiInnerAll
import Derived.Shelf.Strconv.RangeError
import Derived.Shelf.Strconv.ToErrorRange
import Derived.Shelf.Strconv.AtoiAll
import Derived.Shelf.Strconv.ErrVarAll
import Derived.Shelf.Strings.Search1
import Derived.Shelf.Strings.Search2
import Derived.Shelf.Strings.Search3
import Derived.Shelf.Strings.Count
import Derived.Shelf.Strings.Shaped
import Derived.Shelf.Strings.Prefix
import Derived.Shelf.Strings.Split
import Derived.Shelf.Strings.Fields
import Derived.Shelf.Strings.Replace
import Derived.Shelf.Strings.SplitShaped
import Derived.Shelf.Unicode.Latin
import Derived.Shelf.Unicode.Decode
import Derived.Shelf.Strings.Runes
import Derived.Shelf.Strings.RuneCount
import Derived.Shelf.Strings.IndexAny
import Derived.Shelf.Strings.AsciiSet
import Derived.Shelf.Strings.IndexAnyAll
import Derived.Shelf.Unicode.DecodeSlow
import Derived.Shelf.Unicode.DecodeAny
import Derived.Shelf.Unicode.Is16White
import Derived.Shelf.Unicode.IsSpaceAny
import Derived.Shelf.Unicode.DecodeLast
import Derived.Shelf.Strings.FieldsFuncAny
import Derived.Shelf.Unicode.Is16Any
import Derived.Shelf.Unicode.Is32Any
import Derived.Shelf.Unicode.ExclAny
import Derived.Shelf.Strings.FieldsFuncGrows
import Derived.Test.YtnddkmccagiclabGreatDoorProg
namespace Go.Proofs.YtnddkmccagiclabGreatDoor
open Go.RowKit
/-- The state behind a step, in letters. -/
def StepR (o : Option (List ByteArray)) (b : Bool) (ws' : List ByteArray) (b' : Bool) : Prop := (o = some ws' ∧ b' = b) ∨ (o = none ∧ ws' = [] ∧ b' = true)
theorem After.letters {R : Nat} {b : Bool} {o : Option (List ByteArray)} {w : World} (h : After R b o w) : ∃ ws' b', RS R ws' b' w ∧ StepR o b ws' b' := by
  rcases h with ⟨r, ho, hr⟩ | ⟨ho, hr⟩
  · exact ⟨r, b, hr, .inl ⟨ho, rfl⟩⟩
  · exact ⟨[], true, hr, .inr ⟨ho, rfl, rfl⟩⟩
theorem StepR.after {R : Nat} {b b' : Bool} {o : Option (List ByteArray)} {ws' : List ByteArray} {w : World} (h : StepR o b ws' b') (hr : RS R ws' b' w) : After R b o w := by
  rcases h with ⟨ho, rfl⟩ | ⟨ho, rfl, rfl⟩
  · exact .inl ⟨_, ho, hr⟩
  · exact .inr ⟨ho, hr⟩
theorem behind_len {x : ByteArray} {ws r : List ByteArray} (h : behind x ws = some r) : r.length < ws.length := by
  cases ws with
  | nil => cases h
  | cons y s =>
    simp only [behind] at h
    split at h
    · cases h; simp
    · cases h
theorem readTy_len : ∀ (n : Nat) (ws : List ByteArray) (p : Ty × List ByteArray), readTy n ws = some p → p.2.length < ws.length
  | 0, _, _, h => by simp [readTy] at h
  | n + 1, [], _, h => by simp [readTy] at h
  | n + 1, x :: r, p, h => by
    simp only [readTy] at h
    split at h
    · simp only [Option.bind_eq_some_iff, Option.map_eq_some_iff] at h
      obtain ⟨r1, h1, q1, h2, q2, h3, r4, h4, rfl⟩ := h
      have a1 := behind_len h1
      have a2 := readTy_len n _ _ h2
      have a3 := readTy_len n _ _ h3
      have a4 := behind_len h4
      simp only [List.length_cons]; omega
    · simp only [Option.map_eq_some_iff] at h
      obtain ⟨k, _, rfl⟩ := h
      simp
theorem readTy_nil (n : Nat) : readTy n [] = none := by cases n <;> rfl
theorem StepR.len {o : Option (List ByteArray)} {b b' : Bool} {ws' : List ByteArray} {N : Nat} (h : StepR o b ws' b') (hN : ∀ r, o = some r → r.length ≤ N) : ws'.length ≤ N := by
  rcases h with ⟨ho, _⟩ | ⟨_, rfl, _⟩
  · exact hN _ ho
  · exact Nat.zero_le _
set_option maxRecDepth 20000 in
set_option maxHeartbeats 1000000 in
/-- (*reader).readType where no word is left. -/
theorem readType_nil (R n : Nat) (b : Bool) (w : World) (hg : Gl w) (hR : 12 ≤ R) (h : RS R [] b w) :
    Calls Tryz.prog 86 #[.pointer (some ⟨R, 0, none⟩)] w (TyPostP R b (readTy n []) w) := by
  have hb0 : Below w.heap.size w (w.alloc (.cells #[.int .i64 0, .slice none 0 0] 24)) := (Below.refl _ _).alloc (Nat.le_refl _) _
  have HN : Hid (Calls Tryz.prog 51 #[.pointer (some ⟨R, 0, none⟩)] (w.alloc (.cells #[.int .i64 0, .slice none 0 0] 24)) fun e w' => e = .returned (.string ⟨#[]⟩) ∧ RS R [] true w' ∧ Kept R none (w.alloc (.cells #[.int .i64 0, .slice none 0 0] 24)) w') := next_nil R b _ (h.below hb0)
  have hRl := h.lt
  have HG : Hid (Gl (w.alloc (.cells #[.int .i64 0, .slice none 0 0] 24))) := hg.below hb0
  rw [readTy_nil]
  clear h hg
  go_enter Tryz.func86, Tryz.ntmps86
  go_wp2_with fail
  refine HN.out.mono ?_
  rintro e w1 ⟨rfl, hr, hk⟩
  have z0 : w1.cell? ⟨w.heap.size, 0, none⟩ = some (.int .i64 0) := hk.cell (by simp [go_sem]) (by omega)
  have z1 : w1.cell? ⟨w.heap.size, 1, none⟩ = some (.slice none 0 0) := hk.cell (by simp [go_sem]) (by omega)
  have z2 : w1.frozen? ⟨w.heap.size, 0, none⟩ = false := hk.fz (by simp [go_sem]) (by simp) (by omega)
  have z3 : w1.frozen? ⟨w.heap.size, 1, none⟩ = false := hk.fz (by simp [go_sem]) (by simp) (by omega)
  have HG1 : Hid (Gl w1) := HG.out.kept hR hk
  have HK : Hid (Kept R none w w1) := (Kept.of_below hb0).trans hk
  have HR : Hid (RS R [] true w1) := hr
  have hs1 : w.heap.size < w1.heap.size := World.block_lt_of_cell? _ _ z0
  have HT : Hid (Calls Tryz.prog 126 #[.string ⟨#[]⟩] w1 fun e w' => e = .returned (.tuple #[.int .i64 0, .bool false]) ∧ w' = w1) := typeKindOf_any ⟨#[]⟩ w1 HG1.out
  have HF : Hid (Calls Tryz.prog 83 #[.pointer (some ⟨R, 0, none⟩)] w1 fun e w' => e = .returned (.tuple #[]) ∧ RS R [] true w' ∧ Kept R none w1 w') := fail_any R [] true w1 HR.out
  clear hk hr HN HG HG1
  go_wp2_with fail
  refine HT.out.mono ?_
  rintro e w2 ⟨rfl, rfl⟩
  go_wp2_with fail
  refine HF.out.mono ?_
  rintro e w3 ⟨rfl, hr3, hk3⟩
  have hne : w.heap.size ≠ R := by omega
  have y0 := hk3.cell z0 hne
  have y1 := hk3.cell z1 hne
  have y2 := hk3.fz z2 hs1 hne
  have y3 := hk3.fz z3 hs1 hne
  have HR3 : Hid (RS R [] true w3 ∧ Kept R none w w3) := ⟨hr3, HK.out.trans hk3⟩
  clear hr3 hk3 z0 z1 z2 z3 HF HT HR HK
  go_wp2_with fail
  refine bodyPost_ret (v := .agg #[.int .i64 0, .slice none 0 0]) ?_ rfl ⟨leaf 0, rfl, leaf_in _ _, leaf_bl _ _, ?_, ?_, ?_⟩
  · have hc := set_two (u := .int .i64 0) (v := .slice none 0 0) y0 y1
    simp [results, Tryz.results86, go_sem, hc.1, hc.2]
  · exact kept_set2 HR3.out.2 (Nat.le_refl _)
  · exact .inr ⟨rfl, HR3.out.1.set2 (by omega)⟩
  · intro p hp; cases hp
/-- What the brackets tell. -/
def inTy (n : Nat) (r : List ByteArray) : Option (Ty × List ByteArray) :=
  (behind toB r).bind fun r1 => (readTy n r1).bind fun p => (readTy n p.2).bind fun q => (behind clB q.2).map fun r4 => (⟨3, [p.1, q.1]⟩, r4)
/-- Four steps make the whole. -/
theorem inTy_steps {n : Nat} {r ws1 ws2 ws3 ws4 : List ByteArray} {b b1 b2 b3 b4 : Bool} {t1 t2 : Ty}
    (h1 : StepR (behind toB r) b ws1 b1) (h2 : StepR ((readTy n ws1).map (·.2)) b1 ws2 b2) (e2 : ∀ p, readTy n ws1 = some p → t1 = p.1)
    (h3 : StepR ((readTy n ws2).map (·.2)) b2 ws3 b3) (e3 : ∀ p, readTy n ws2 = some p → t2 = p.1) (h4 : StepR (behind clB ws3) b3 ws4 b4) :
    StepR ((inTy n r).map (·.2)) b ws4 b4 ∧ ∀ p, inTy n r = some p → (⟨3, [t1, t2]⟩ : Ty) = p.1 := by
  have dead : ∀ (o : Option (Ty × List ByteArray)), o = none → ws4 = [] → b4 = true → StepR (o.map (·.2)) b ws4 b4 ∧ ∀ p, o = some p → (⟨3, [t1, t2]⟩ : Ty) = p.1 := by
    rintro o rfl rfl rfl
    exact ⟨.inr ⟨rfl, rfl, rfl⟩, fun p h => by cases h⟩
  have nil4 : ws3 = [] → b3 = true → ws4 = [] ∧ b4 = true := by
    rintro rfl rfl
    rcases h4 with ⟨h, _⟩ | ⟨_, h, h'⟩
    · cases h
    · exact ⟨h, h'⟩
  have nil3 : ws2 = [] → b2 = true → ws4 = [] ∧ b4 = true := by
    rintro rfl rfl
    rw [readTy_nil] at h3
    rcases h3 with ⟨h, _⟩ | ⟨_, h, h'⟩
    · cases h
    · exact nil4 h h'
  have nil2 : ws1 = [] → b1 = true → ws4 = [] ∧ b4 = true := by
    rintro rfl rfl
    rw [readTy_nil] at h2
    rcases h2 with ⟨h, _⟩ | ⟨_, h, h'⟩
    · cases h
    · exact nil3 h h'
  rcases h1 with ⟨ho1, rfl⟩ | ⟨ho1, hn1, hb1⟩
  · rcases h2 with ⟨ho2, rfl⟩ | ⟨ho2, hn2, hb2⟩
    · obtain ⟨p, hp, hp2⟩ := Option.map_eq_some_iff.1 ho2
      rcases h3 with ⟨ho3, rfl⟩ | ⟨ho3, hn3, hb3⟩
      · obtain ⟨q, hq, hq2⟩ := Option.map_eq_some_iff.1 ho3
        subst hp2
        rcases h4 with ⟨ho4, rfl⟩ | ⟨ho4, hn4, hb4⟩
        · subst hq2
          have e : inTy n r = some (⟨3, [p.1, q.1]⟩, ws4) := by simp [inTy, ho1, hp, hq, ho4]
          rw [e]
          refine ⟨.inl ⟨rfl, rfl⟩, fun x hx => ?_⟩
          cases hx
          rw [e2 p hp, e3 q hq]
        · subst hq2
          exact dead _ (by simp [inTy, ho1, hp, hq, ho4]) hn4 hb4
      · have hq : readTy n p.2 = none := by rw [hp2]; exact Option.map_eq_none_iff.1 ho3
        obtain ⟨x, y⟩ := nil4 hn3 hb3
        exact dead _ (by simp [inTy, ho1, hp, hq]) x y
    · have hq : readTy n ws1 = none := Option.map_eq_none_iff.1 ho2
      obtain ⟨x, y⟩ := nil3 hn2 hb2
      exact dead _ (by simp [inTy, ho1, hq]) x y
  · obtain ⟨x, y⟩ := nil2 hn1 hb1
    exact dead _ (by simp [inTy, ho1]) x y
/-- A tree stays where another block is written. -/
theorem Tr.In.set2 {w : World} {k : Nat} {u v : Value} {t : Tr} (h : t.In w) (hb : t.Bl (· ≠ k)) : t.In ((w.setCell ⟨k, 0, none⟩ u).setCell ⟨k, 1, none⟩ v) := by
  refine h.congr (P := fun b => b ≠ k) ?_ hb
  intro b hbk o
  rw [World.cell?_setCell_other, World.cell?_setCell_other]
  · intro e; simp only [Addr.mk.injEq] at e; omega
  · intro e; simp only [Addr.mk.injEq] at e; omega
set_option maxRecDepth 20000 in
set_option maxHeartbeats 2000000 in
theorem inTy_walk (R n : Nat) (r : List ByteArray) (b : Bool) (w : World) (hg : Gl w) (hR : 12 ≤ R) (h : RS R r b w) (hn : r.length ≤ n) (h1n : 1 ≤ n)
    (ih : Hid (∀ (ws : List ByteArray) (b : Bool) (w : World), ws.length < n → Gl w → RS R ws b w → Calls Tryz.prog 86 #[.pointer (some ⟨R, 0, none⟩)] w (TyPostP R b (readTy n ws) w))) :
    Calls Tryz.prog 125 #[.pointer (some ⟨R, 0, none⟩)] w (TyPostP R b (inTy n r) w) := by
  have hb0 : Below w.heap.size w (w.alloc (.cells #[.int .i64 0, .slice none 0 0] 24)) := (Below.refl _ _).alloc (Nat.le_refl _) _
  have HW : Hid (Calls Tryz.prog 87 #[.pointer (some ⟨R, 0, none⟩), .string ⟨#[116, 111]⟩] (w.alloc (.cells #[.int .i64 0, .slice none 0 0] 24)) fun e w' => e = .returned (.tuple #[]) ∧ After R b (behind toB r) w' ∧ Kept R none (w.alloc (.cells #[.int .i64 0, .slice none 0 0] 24)) w') := want_any R toB (by decide) r b _ (h.below hb0)
  have hRl := h.lt
  have HG : Hid (Gl (w.alloc (.cells #[.int .i64 0, .slice none 0 0] 24))) := hg.below hb0
  have HL : Hid (r.length ≤ n) := hn
  clear h hg hn
  go_enter Tryz.func125, Tryz.ntmps125
  go_wp2_with fail
  refine HW.out.mono ?_
  rintro e w1 ⟨rfl, hA, hk⟩
  obtain ⟨ws1, b1, hr1, hs1⟩ := hA.letters
  have hl1 : ws1.length < n := by
    rcases hs1 with ⟨ho, _⟩ | ⟨_, rfl, _⟩
    · have := behind_len ho; have := HL.out; omega
    · simp; omega
  have z0 : w1.cell? ⟨w.heap.size, 0, none⟩ = some (.int .i64 0) := hk.cell (by simp [go_sem]) (by omega)
  have z1 : w1.cell? ⟨w.heap.size, 1, none⟩ = some (.slice none 0 0) := hk.cell (by simp [go_sem]) (by omega)
  have z2 : w1.frozen? ⟨w.heap.size, 0, none⟩ = false := hk.fz (by simp [go_sem]) (by simp) (by omega)
  have z3 : w1.frozen? ⟨w.heap.size, 1, none⟩ = false := hk.fz (by simp [go_sem]) (by simp) (by omega)
  have hsz1 : w.heap.size < w1.heap.size := World.block_lt_of_cell? _ _ z0
  have HZ : Hid (w1.cell? ⟨w.heap.size, 0, none⟩ = some (.int .i64 0) ∧ w1.cell? ⟨w.heap.size, 1, none⟩ = some (.slice none 0 0) ∧ w1.frozen? ⟨w.heap.size, 0, none⟩ = false ∧ w1.frozen? ⟨w.heap.size, 1, none⟩ = false) := ⟨z0, z1, z2, z3⟩
  have HK1 : Hid (Kept R none w w1) := (Kept.of_below hb0).trans hk
  have HT1 : Hid (Calls Tryz.prog 86 #[.pointer (some ⟨R, 0, none⟩)] w1 (TyPostP R b1 (readTy n ws1) w1)) := ih.out ws1 b1 w1 hl1 (HG.out.kept hR hk) hr1
  have HG1 : Hid (Gl w1) := HG.out.kept hR hk
  have HS1 : Hid (StepR (behind toB r) b ws1 b1) := hs1
  have HL1 : Hid (ws1.length < n) := hl1
  clear hk hA hr1 hs1 hl1 HW HG z0 z1 z2 z3
  go_wp2_with fail
  refine HT1.out.mono ?_
  rintro e w2 ⟨t1, rfl, hi1, hbl1, hk2, hA2, he1⟩
  obtain ⟨ws2, b2, hr2, hs2⟩ := hA2.letters
  have hl2 : ws2.length < n := by
    rcases hs2 with ⟨ho, _⟩ | ⟨_, rfl, _⟩
    · obtain ⟨p, hp, rfl⟩ := Option.map_eq_some_iff.1 ho
      have := readTy_len n _ _ hp; have := HL1.out; omega
    · simp; omega
  have hsz2 : w1.heap.size ≤ w2.heap.size := hk2.size
  have HA : Hid (StepR ((readTy n ws1).map (·.2)) b1 ws2 b2 ∧ (∀ p, readTy n ws1 = some p → t1.ty = p.1) ∧ t1.In w2 ∧ t1.Bl (w1.heap.size ≤ ·) ∧ Kept R none w1 w2) := ⟨hs2, he1, hi1, hbl1, hk2⟩
  have hb2 : ∀ o, Below w2.heap.size w2 (w2.alloc o) := fun o => (Below.refl _ _).alloc (Nat.le_refl _) _
  have HT2 : Hid (∀ o, Calls Tryz.prog 86 #[.pointer (some ⟨R, 0, none⟩)] (w2.alloc o) (TyPostP R b2 (readTy n ws2) (w2.alloc o))) := fun o => ih.out ws2 b2 _ hl2 ((HG1.out.kept hR hk2).below (hb2 o)) (hr2.below (hb2 o))
  clear hi1 hbl1 hk2 hA2 he1 hr2 hs2 hl2 HT1 HG1 HL1 hb2
  go_wp2_with fail
  refine (HT2.out _).mono ?_
  rintro e w3 ⟨t2, rfl, hi2, hbl2, hk3, hA3, he2⟩
  obtain ⟨ws3, b3, hr3, hs3⟩ := hA3.letters
  have hne : w.heap.size ≠ R := by omega
  have hne2 : w2.heap.size ≠ R := by omega
  have v0 := hk3.cell (b := w2.heap.size) (i := 0) (v := .int .i64 t1.k) (by simp [go_sem]) hne2
  have v1 := hk3.cell (b := w2.heap.size) (i := 1) (v := .slice t1.a t1.l.length t1.c) (by simp [go_sem]) hne2
  have hsz3 : w2.heap.size < w3.heap.size := World.block_lt_of_cell? _ _ v0
  have hkB : Kept R none w1 w3 := (HA.out.2.2.2.2.trans (Kept.of_below ((Below.refl _ _).alloc (Nat.le_refl _) _))).trans hk3
  have HB : Hid (StepR ((readTy n ws2).map (·.2)) b2 ws3 b3 ∧ (∀ p, readTy n ws2 = some p → t2.ty = p.1) ∧ t2.In w3 ∧ t2.Bl (w2.heap.size < ·) ∧ Kept R none w1 w3 ∧ t1.In w3) :=
    ⟨hs3, he2, hi2, hbl2.mono (fun b h => by simp at h; omega), hkB, HA.out.2.2.1.keptR ((Kept.of_below ((Below.refl _ _).alloc (Nat.le_refl _) _)).trans hk3) (HA.out.2.2.2.1.mono fun b h => by omega)⟩
  have hb3 : ∀ o, Below w3.heap.size w3 (w3.alloc o) := fun o => (Below.refl _ _).alloc (Nat.le_refl _) _
  have HW3 : Hid (∀ o, Calls Tryz.prog 87 #[.pointer (some ⟨R, 0, none⟩), .string ⟨#[41]⟩] (w3.alloc o) fun e w' => e = .returned (.tuple #[]) ∧ After R b3 (behind clB ws3) w' ∧ Kept R none (w3.alloc o) w') := fun o => want_any R clB (by decide) ws3 b3 _ (hr3.below (hb3 o))
  clear hi2 hbl2 hk3 hA3 he2 hr3 hs3 hkB HT2 hb3
  have HV : Hid (w3.cell? ⟨w2.heap.size, 0, none⟩ = some (.int .i64 t1.k) ∧ w3.cell? ⟨w2.heap.size, 1, none⟩ = some (.slice t1.a t1.l.length t1.c)) := ⟨v0, v1⟩
  clear v0 v1
  go_wp2_with fail
  refine (HW3.out _).mono ?_
  rintro e w4 ⟨rfl, hA4, hk4⟩
  obtain ⟨ws4, b4, hr4, hs4⟩ := hA4.letters
  have hk34 : Kept R none w3 w4 := (Kept.of_below ((Below.refl _ _).alloc (Nat.le_refl _) _)).trans hk4
  have hne3 : w3.heap.size ≠ R := by omega
  have v0 := hk34.cell HV.out.1 hne2
  have v1 := hk34.cell HV.out.2 hne2
  have u0 := hk4.cell (b := w3.heap.size) (i := 0) (v := .int .i64 t2.k) (by simp [go_sem]) hne3
  have u1 := hk4.cell (b := w3.heap.size) (i := 1) (v := .slice t2.a t2.l.length t2.c) (by simp [go_sem]) hne3
  have hk14 : Kept R none w1 w4 := HB.out.2.2.2.2.1.trans hk34
  have hsz4 : w3.heap.size < w4.heap.size := World.block_lt_of_cell? _ _ u0
  have hi1 : t1.In w4 := HB.out.2.2.2.2.2.keptR hk34 (HA.out.2.2.2.1.mono fun b h => by omega)
  have hi2 : t2.In w4 := HB.out.2.2.1.keptR hk34 (HB.out.2.2.2.1.mono fun b h => by omega)
  have HT : Hid (Calls Tryz.prog 106 #[.agg #[.int .i64 t1.k, .slice t1.a t1.l.length t1.c], .agg #[.int .i64 t2.k, .slice t2.a t2.l.length t2.c]] w4 fun e w' => ∃ g, w4.heap.size ≤ g ∧ e = .returned (.agg #[.int .i64 3, .slice (some ⟨g, 0, none⟩) 2 2]) ∧ (Tr.mk 3 (some ⟨g, 0, none⟩) 2 [t1, t2]).In w' ∧ Below w4.heap.size w4 w') := to_any t1 t2 w4 hi1 hi2
  have HC : Hid (StepR (behind clB ws3) b3 ws4 b4 ∧ RS R ws4 b4 w4 ∧ Kept R none w1 w4) := ⟨hs4, hr4, hk14⟩
  clear hs4 hr4 hk14 hk34 hk4 hA4 hi1 hi2 HW3 HV
  go_wp2_with fail
  refine HT.out.mono ?_
  rintro e w5 ⟨g, hg5, rfl, hin5, hb5⟩
  have hk15 : Kept R none w1 w5 := HC.out.2.2.trans (Kept.of_below hb5)
  have y0 := hk15.cell HZ.out.1 hne
  have y1 := hk15.cell HZ.out.2.1 hne
  have y2 := hk15.fz HZ.out.2.2.1 hsz1 hne
  have y3 := hk15.fz HZ.out.2.2.2 hsz1 hne
  have HD : Hid (RS R ws4 b4 w5 ∧ Kept R none w w5 ∧ (Tr.mk 3 (some ⟨g, 0, none⟩) 2 [t1, t2]).In w5 ∧ w4.heap.size ≤ g) := ⟨HC.out.2.1.below hb5, HK1.out.trans hk15, hin5, hg5⟩
  clear hg5 hin5 hb5 hk15 HT v0 v1 u0 u1
  go_wp2_with fail
  have hfin := inTy_steps HS1.out HA.out.1 (fun p hp => HA.out.2.1 p hp) HB.out.1 (fun p hp => HB.out.2.1 p hp) HC.out.1
  have hbl : (Tr.mk 3 (some ⟨g, 0, none⟩) 2 [t1, t2]).Bl (w.heap.size < ·) := by
    have := HD.out.2.2.2
    exact Tr.Bl_two (by omega) (HA.out.2.2.2.1.mono fun b h => by omega) (HB.out.2.2.2.1.mono fun b h => by omega)
  refine bodyPost_ret (v := .agg #[.int .i64 3, .slice (some ⟨g, 0, none⟩) 2 2]) ?_ rfl ⟨Tr.mk 3 (some ⟨g, 0, none⟩) 2 [t1, t2], rfl, HD.out.2.2.1.set2 (hbl.mono fun b h => by omega), hbl.mono (fun b h => by omega), kept_set2 HD.out.2.1 (Nat.le_refl _), ?_, ?_⟩
  · have hc := set_two (u := .int .i64 3) (v := .slice (some ⟨g, 0, none⟩) 2 2) y0 y1
    simp [results, Tryz.results125, go_sem, hc.1, hc.2]
  · exact hfin.1.after (HD.out.1.set2 (by omega))
  · intro p hp
    rw [← hfin.2 p hp]
    simp [Tr.ty_mk]
set_option maxRecDepth 20000 in
set_option maxHeartbeats 1000000 in
/-- (*reader).readType at an open bracket. -/
theorem readType_open (R n : Nat) (r : List ByteArray) (b : Bool) (w : World) (hR : 12 ≤ R) (hg : Gl w) (h : RS R (opB :: r) b w)
    (ih : Hid (∀ (w : World), Gl w → RS R r b w → Calls Tryz.prog 125 #[.pointer (some ⟨R, 0, none⟩)] w (TyPostP R b (inTy n r) w))) :
    Calls Tryz.prog 86 #[.pointer (some ⟨R, 0, none⟩)] w (TyPostP R b (readTy (n + 1) (opB :: r)) w) := by
  have hb0 : Below w.heap.size w (w.alloc (.cells #[.int .i64 0, .slice none 0 0] 24)) := (Below.refl _ _).alloc (Nat.le_refl _) _
  have HN : Hid (Calls Tryz.prog 51 #[.pointer (some ⟨R, 0, none⟩)] (w.alloc (.cells #[.int .i64 0, .slice none 0 0] 24)) fun e w' => e = .returned (.string ⟨#[40]⟩) ∧ RS R r b w' ∧ Kept R none (w.alloc (.cells #[.int .i64 0, .slice none 0 0] 24)) w') := next_cons R opB r b _ (h.below hb0)
  have hRl := h.lt
  have HG : Hid (Gl (w.alloc (.cells #[.int .i64 0, .slice none 0 0] 24))) := hg.below hb0
  have e : readTy (n + 1) (opB :: r) = inTy n r := by rw [readTy, if_pos rfl]; rfl
  rw [e]
  clear h hg e
  go_enter Tryz.func86, Tryz.ntmps86
  go_wp2_with fail
  refine HN.out.mono ?_
  rintro e w1 ⟨rfl, hr, hk⟩
  have hne : w.heap.size ≠ R := by omega
  have z0 : w1.cell? ⟨w.heap.size, 0, none⟩ = some (.int .i64 0) := hk.cell (by simp [go_sem]) hne
  have z1 : w1.cell? ⟨w.heap.size, 1, none⟩ = some (.slice none 0 0) := hk.cell (by simp [go_sem]) hne
  have z2 : w1.frozen? ⟨w.heap.size, 0, none⟩ = false := hk.fz (by simp [go_sem]) (by simp) hne
  have z3 : w1.frozen? ⟨w.heap.size, 1, none⟩ = false := hk.fz (by simp [go_sem]) (by simp) hne
  have hs1 : w.heap.size < w1.heap.size := World.block_lt_of_cell? _ _ z0
  have HT : Hid (Calls Tryz.prog 125 #[.pointer (some ⟨R, 0, none⟩)] w1 (TyPostP R b (inTy n r) w1)) := ih.out w1 (HG.out.kept hR hk) hr
  have HK : Hid (Kept R none w w1) := (Kept.of_below hb0).trans hk
  clear hk hr HN HG
  go_wp2_with fail
  refine HT.out.mono ?_
  rintro e w2 ⟨t, rfl, hi, hbl, hk2, hA, he⟩
  have y0 := hk2.cell z0 hne
  have y1 := hk2.cell z1 hne
  have y2 := hk2.fz z2 hs1 hne
  have y3 := hk2.fz z3 hs1 hne
  have HD : Hid (t.In w2 ∧ t.Bl (w1.heap.size ≤ ·) ∧ Kept R none w w2 ∧ After R b ((inTy n r).map (·.2)) w2 ∧ ∀ p, inTy n r = some p → t.ty = p.1) := ⟨hi, hbl, HK.out.trans hk2, hA, he⟩
  clear hi hbl hk2 hA he HK HT z0 z1 z2 z3
  go_wp2_with fail
  obtain ⟨ws', b', hr', hs'⟩ := HD.out.2.2.2.1.letters
  refine bodyPost_ret (v := .agg #[.int .i64 t.k, .slice t.a t.l.length t.c]) ?_ rfl ⟨t, rfl, HD.out.1.set2 (HD.out.2.1.mono fun b h => by omega), HD.out.2.1.mono (fun b h => by omega), kept_set2 HD.out.2.2.1 (Nat.le_refl _), hs'.after (hr'.set2 (by omega)), HD.out.2.2.2.2⟩
  have hc := set_two (u := .int .i64 t.k) (v := .slice t.a t.l.length t.c) y0 y1
  simp [results, Tryz.results86, go_sem, hc.1, hc.2]
/-- (*reader).readType. -/
theorem readType_any (R : Nat) (hR : 12 ≤ R) (n : Nat) : ∀ (ws : List ByteArray) (b : Bool) (w : World), ws.length < n → Gl w → RS R ws b w →
    Calls Tryz.prog 86 #[.pointer (some ⟨R, 0, none⟩)] w (TyPostP R b (readTy n ws) w) := by
  induction n with
  | zero => intro ws b w h; omega
  | succ n ih =>
    intro ws b w hn hg h
    cases ws with
    | nil => exact readType_nil R (n + 1) b w hg hR h
    | cons x r =>
      by_cases hx : x = opB
      · subst hx
        refine readType_open R n r b w hR hg h (fun w hg h => ?_)
        cases n with
        | zero => simp at hn
        | succ n => exact inTy_walk R (n + 1) r b w hg hR h (by simp at hn; omega) (by omega) ih
      · exact readType_word R n x r hx b w hg hR h
end Go.Proofs.YtnddkmccagiclabGreatDoor

/-
  What the call of kindOf answers.
-/
namespace Go.Proofs.YtnddkmccagiclabGreatDoor
open Go.RowKit
theorem idx180_0 (v0 v1 v2 v3 v4 v5 v6 v7 v8 v9 : Value) (w : World) : (Instr.index 180 (.agg #[v0, v1, v2, v3, v4, v5, v6, v7, v8, v9]) (.int .i64 0)).run Tryz.prog w = .ok v0 w := by
  simp [Instr.index, run_underlying Tryz.underlying180, go_sem]
theorem idx180_1 (v0 v1 v2 v3 v4 v5 v6 v7 v8 v9 : Value) (w : World) : (Instr.index 180 (.agg #[v0, v1, v2, v3, v4, v5, v6, v7, v8, v9]) (.int .i64 1)).run Tryz.prog w = .ok v1 w := by
  simp [Instr.index, run_underlying Tryz.underlying180, go_sem]
theorem idx180_2 (v0 v1 v2 v3 v4 v5 v6 v7 v8 v9 : Value) (w : World) : (Instr.index 180 (.agg #[v0, v1, v2, v3, v4, v5, v6, v7, v8, v9]) (.int .i64 2)).run Tryz.prog w = .ok v2 w := by
  simp [Instr.index, run_underlying Tryz.underlying180, go_sem]
theorem idx180_3 (v0 v1 v2 v3 v4 v5 v6 v7 v8 v9 : Value) (w : World) : (Instr.index 180 (.agg #[v0, v1, v2, v3, v4, v5, v6, v7, v8, v9]) (.int .i64 3)).run Tryz.prog w = .ok v3 w := by
  simp [Instr.index, run_underlying Tryz.underlying180, go_sem]
theorem idx180_4 (v0 v1 v2 v3 v4 v5 v6 v7 v8 v9 : Value) (w : World) : (Instr.index 180 (.agg #[v0, v1, v2, v3, v4, v5, v6, v7, v8, v9]) (.int .i64 4)).run Tryz.prog w = .ok v4 w := by
  simp [Instr.index, run_underlying Tryz.underlying180, go_sem]
theorem idx180_5 (v0 v1 v2 v3 v4 v5 v6 v7 v8 v9 : Value) (w : World) : (Instr.index 180 (.agg #[v0, v1, v2, v3, v4, v5, v6, v7, v8, v9]) (.int .i64 5)).run Tryz.prog w = .ok v5 w := by
  simp [Instr.index, run_underlying Tryz.underlying180, go_sem]
theorem idx180_6 (v0 v1 v2 v3 v4 v5 v6 v7 v8 v9 : Value) (w : World) : (Instr.index 180 (.agg #[v0, v1, v2, v3, v4, v5, v6, v7, v8, v9]) (.int .i64 6)).run Tryz.prog w = .ok v6 w := by
  simp [Instr.index, run_underlying Tryz.underlying180, go_sem]
theorem idx180_7 (v0 v1 v2 v3 v4 v5 v6 v7 v8 v9 : Value) (w : World) : (Instr.index 180 (.agg #[v0, v1, v2, v3, v4, v5, v6, v7, v8, v9]) (.int .i64 7)).run Tryz.prog w = .ok v7 w := by
  simp [Instr.index, run_underlying Tryz.underlying180, go_sem]
theorem idx180_8 (v0 v1 v2 v3 v4 v5 v6 v7 v8 v9 : Value) (w : World) : (Instr.index 180 (.agg #[v0, v1, v2, v3, v4, v5, v6, v7, v8, v9]) (.int .i64 8)).run Tryz.prog w = .ok v8 w := by
  simp [Instr.index, run_underlying Tryz.underlying180, go_sem]
theorem idx180_9 (v0 v1 v2 v3 v4 v5 v6 v7 v8 v9 : Value) (w : World) : (Instr.index 180 (.agg #[v0, v1, v2, v3, v4, v5, v6, v7, v8, v9]) (.int .i64 9)).run Tryz.prog w = .ok v9 w := by
  simp [Instr.index, run_underlying Tryz.underlying180, go_sem]
set_option maxRecDepth 20000 in
set_option maxHeartbeats 2000000 in
theorem kindOf_any (x : ByteArray) (w : World) (hg : Gl w) : Calls Tryz.prog 84 #[.string x] w fun e w' => e = .returned (foundV (kindAt x)) ∧ w' = w := by
  have c0 := hg.wd.cell 0
  have c1 := hg.wd.cell 1
  have c2 := hg.wd.cell 2
  have c3 := hg.wd.cell 3
  have c4 := hg.wd.cell 4
  have c5 := hg.wd.cell 5
  have c6 := hg.wd.cell 6
  have c7 := hg.wd.cell 7
  have c8 := hg.wd.cell 8
  have c9 := hg.wd.cell 9
  simp only [List.getElem?_toArray, List.getElem?_cons_zero, List.getElem?_cons_succ] at c0 c1 c2 c3 c4 c5 c6 c7 c8 c9
  clear hg
  obtain ⟨be, he⟩ : ∃ b, x.toList.isEmpty = b := ⟨_, rfl⟩
  have HE : Hid (x.toList.isEmpty = be) := he
  obtain ⟨b4, h4⟩ : ∃ b, ((⟨#[97, 100, 100]⟩ : ByteArray).toList == x.toList) = b := ⟨_, rfl⟩
  have H4 : Hid (((⟨#[97, 100, 100]⟩ : ByteArray).toList == x.toList) = b4) := h4
  have k4 : ([97, 100, 100] == x.toList) = b4 := by rw [← h4, Lib.toList_data ⟨#[97, 100, 100]⟩]
  obtain ⟨b5, h5⟩ : ∃ b, ((⟨#[108, 101, 115, 115]⟩ : ByteArray).toList == x.toList) = b := ⟨_, rfl⟩
  have H5 : Hid (((⟨#[108, 101, 115, 115]⟩ : ByteArray).toList == x.toList) = b5) := h5
  have k5 : ([108, 101, 115, 115] == x.toList) = b5 := by rw [← h5, Lib.toList_data ⟨#[108, 101, 115, 115]⟩]
  obtain ⟨b6, h6⟩ : ∃ b, ((⟨#[105, 102]⟩ : ByteArray).toList == x.toList) = b := ⟨_, rfl⟩
  have H6 : Hid (((⟨#[105, 102]⟩ : ByteArray).toList == x.toList) = b6) := h6
  have k6 : ([105, 102] == x.toList) = b6 := by rw [← h6, Lib.toList_data ⟨#[105, 102]⟩]
  obtain ⟨b7, h7⟩ : ∃ b, ((⟨#[102, 117, 110]⟩ : ByteArray).toList == x.toList) = b := ⟨_, rfl⟩
  have H7 : Hid (((⟨#[102, 117, 110]⟩ : ByteArray).toList == x.toList) = b7) := h7
  have k7 : ([102, 117, 110] == x.toList) = b7 := by rw [← h7, Lib.toList_data ⟨#[102, 117, 110]⟩]
  obtain ⟨b8, h8⟩ : ∃ b, ((⟨#[99, 97, 108, 108]⟩ : ByteArray).toList == x.toList) = b := ⟨_, rfl⟩
  have H8 : Hid (((⟨#[99, 97, 108, 108]⟩ : ByteArray).toList == x.toList) = b8) := h8
  have k8 : ([99, 97, 108, 108] == x.toList) = b8 := by rw [← h8, Lib.toList_data ⟨#[99, 97, 108, 108]⟩]
  obtain ⟨b9, h9⟩ : ∃ b, ((⟨#[97, 115]⟩ : ByteArray).toList == x.toList) = b := ⟨_, rfl⟩
  have H9 : Hid (((⟨#[97, 115]⟩ : ByteArray).toList == x.toList) = b9) := h9
  have k9 : ([97, 115] == x.toList) = b9 := by rw [← h9, Lib.toList_data ⟨#[97, 115]⟩]
  clear h4 h5 h6 h7 h8 h9
  have x0 := idx180_0 (.string ⟨#[]⟩) (.string ⟨#[]⟩) (.string ⟨#[]⟩) (.string ⟨#[]⟩) (.string ⟨#[97, 100, 100]⟩) (.string ⟨#[108, 101, 115, 115]⟩) (.string ⟨#[105, 102]⟩) (.string ⟨#[102, 117, 110]⟩) (.string ⟨#[99, 97, 108, 108]⟩) (.string ⟨#[97, 115]⟩)
  have x1 := idx180_1 (.string ⟨#[]⟩) (.string ⟨#[]⟩) (.string ⟨#[]⟩) (.string ⟨#[]⟩) (.string ⟨#[97, 100, 100]⟩) (.string ⟨#[108, 101, 115, 115]⟩) (.string ⟨#[105, 102]⟩) (.string ⟨#[102, 117, 110]⟩) (.string ⟨#[99, 97, 108, 108]⟩) (.string ⟨#[97, 115]⟩)
  have x2 := idx180_2 (.string ⟨#[]⟩) (.string ⟨#[]⟩) (.string ⟨#[]⟩) (.string ⟨#[]⟩) (.string ⟨#[97, 100, 100]⟩) (.string ⟨#[108, 101, 115, 115]⟩) (.string ⟨#[105, 102]⟩) (.string ⟨#[102, 117, 110]⟩) (.string ⟨#[99, 97, 108, 108]⟩) (.string ⟨#[97, 115]⟩)
  have x3 := idx180_3 (.string ⟨#[]⟩) (.string ⟨#[]⟩) (.string ⟨#[]⟩) (.string ⟨#[]⟩) (.string ⟨#[97, 100, 100]⟩) (.string ⟨#[108, 101, 115, 115]⟩) (.string ⟨#[105, 102]⟩) (.string ⟨#[102, 117, 110]⟩) (.string ⟨#[99, 97, 108, 108]⟩) (.string ⟨#[97, 115]⟩)
  have x4 := idx180_4 (.string ⟨#[]⟩) (.string ⟨#[]⟩) (.string ⟨#[]⟩) (.string ⟨#[]⟩) (.string ⟨#[97, 100, 100]⟩) (.string ⟨#[108, 101, 115, 115]⟩) (.string ⟨#[105, 102]⟩) (.string ⟨#[102, 117, 110]⟩) (.string ⟨#[99, 97, 108, 108]⟩) (.string ⟨#[97, 115]⟩)
  have x5 := idx180_5 (.string ⟨#[]⟩) (.string ⟨#[]⟩) (.string ⟨#[]⟩) (.string ⟨#[]⟩) (.string ⟨#[97, 100, 100]⟩) (.string ⟨#[108, 101, 115, 115]⟩) (.string ⟨#[105, 102]⟩) (.string ⟨#[102, 117, 110]⟩) (.string ⟨#[99, 97, 108, 108]⟩) (.string ⟨#[97, 115]⟩)
  have x6 := idx180_6 (.string ⟨#[]⟩) (.string ⟨#[]⟩) (.string ⟨#[]⟩) (.string ⟨#[]⟩) (.string ⟨#[97, 100, 100]⟩) (.string ⟨#[108, 101, 115, 115]⟩) (.string ⟨#[105, 102]⟩) (.string ⟨#[102, 117, 110]⟩) (.string ⟨#[99, 97, 108, 108]⟩) (.string ⟨#[97, 115]⟩)
  have x7 := idx180_7 (.string ⟨#[]⟩) (.string ⟨#[]⟩) (.string ⟨#[]⟩) (.string ⟨#[]⟩) (.string ⟨#[97, 100, 100]⟩) (.string ⟨#[108, 101, 115, 115]⟩) (.string ⟨#[105, 102]⟩) (.string ⟨#[102, 117, 110]⟩) (.string ⟨#[99, 97, 108, 108]⟩) (.string ⟨#[97, 115]⟩)
  have x8 := idx180_8 (.string ⟨#[]⟩) (.string ⟨#[]⟩) (.string ⟨#[]⟩) (.string ⟨#[]⟩) (.string ⟨#[97, 100, 100]⟩) (.string ⟨#[108, 101, 115, 115]⟩) (.string ⟨#[105, 102]⟩) (.string ⟨#[102, 117, 110]⟩) (.string ⟨#[99, 97, 108, 108]⟩) (.string ⟨#[97, 115]⟩)
  have x9 := idx180_9 (.string ⟨#[]⟩) (.string ⟨#[]⟩) (.string ⟨#[]⟩) (.string ⟨#[]⟩) (.string ⟨#[97, 100, 100]⟩) (.string ⟨#[108, 101, 115, 115]⟩) (.string ⟨#[105, 102]⟩) (.string ⟨#[102, 117, 110]⟩) (.string ⟨#[99, 97, 108, 108]⟩) (.string ⟨#[97, 115]⟩)
  have HNE : Hid (∀ l : List UInt8, l ≠ [] → (l == x.toList) = true → be = false) := by
    intro l hl h
    have e : l = x.toList := by simpa using h
    rw [← HE.out, ← e]
    cases l with
    | nil => exact absurd rfl hl
    | cons _ _ => rfl
  go_enter Tryz.func84, Tryz.ntmps84
  go_wp2_with fail
  go_loopg [7] 10 (fun k i wr => ∃ j : Nat, k + j = 10 ∧ i = .int .i64 (j : Int) ∧ wr = w ∧ Hid ((5 ≤ j → b4 = false) ∧ (6 ≤ j → b5 = false) ∧ (7 ≤ j → b6 = false) ∧ (8 ≤ j → b7 = false) ∧ (9 ≤ j → b8 = false) ∧ (10 ≤ j → b9 = false)))
  case atStart => exact ⟨0, rfl, rfl, rfl, fun h => absurd h (by omega), fun h => absurd h (by omega), fun h => absurd h (by omega), fun h => absurd h (by omega), fun h => absurd h (by omega), fun h => absurd h (by omega)⟩
  case round =>
    obtain ⟨j, hj, rfl, rfl, HJ⟩ := hrel
    obtain rfl | rfl | rfl | rfl | rfl | rfl | rfl | rfl | rfl | rfl | rfl : j = 0 ∨ j = 1 ∨ j = 2 ∨ j = 3 ∨ j = 4 ∨ j = 5 ∨ j = 6 ∨ j = 7 ∨ j = 8 ∨ j = 9 ∨ j = 10 := by omega
    · cases be
      · go_wp2_with fail
        go_roundg 9
        case measure => omega
        case rel => exact ⟨1, rfl, rfl, rfl, fun h => absurd h (by omega), fun h => absurd h (by omega), fun h => absurd h (by omega), fun h => absurd h (by omega), fun h => absurd h (by omega), fun h => absurd h (by omega)⟩
      · go_wp2_with fail
        go_roundg 9
        case measure => omega
        case rel => exact ⟨1, rfl, rfl, rfl, fun h => absurd h (by omega), fun h => absurd h (by omega), fun h => absurd h (by omega), fun h => absurd h (by omega), fun h => absurd h (by omega), fun h => absurd h (by omega)⟩
    · cases be
      · go_wp2_with fail
        go_roundg 8
        case measure => omega
        case rel => exact ⟨2, rfl, rfl, rfl, fun h => absurd h (by omega), fun h => absurd h (by omega), fun h => absurd h (by omega), fun h => absurd h (by omega), fun h => absurd h (by omega), fun h => absurd h (by omega)⟩
      · go_wp2_with fail
        go_roundg 8
        case measure => omega
        case rel => exact ⟨2, rfl, rfl, rfl, fun h => absurd h (by omega), fun h => absurd h (by omega), fun h => absurd h (by omega), fun h => absurd h (by omega), fun h => absurd h (by omega), fun h => absurd h (by omega)⟩
    · cases be
      · go_wp2_with fail
        go_roundg 7
        case measure => omega
        case rel => exact ⟨3, rfl, rfl, rfl, fun h => absurd h (by omega), fun h => absurd h (by omega), fun h => absurd h (by omega), fun h => absurd h (by omega), fun h => absurd h (by omega), fun h => absurd h (by omega)⟩
      · go_wp2_with fail
        go_roundg 7
        case measure => omega
        case rel => exact ⟨3, rfl, rfl, rfl, fun h => absurd h (by omega), fun h => absurd h (by omega), fun h => absurd h (by omega), fun h => absurd h (by omega), fun h => absurd h (by omega), fun h => absurd h (by omega)⟩
    · cases be
      · go_wp2_with fail
        go_roundg 6
        case measure => omega
        case rel => exact ⟨4, rfl, rfl, rfl, fun h => absurd h (by omega), fun h => absurd h (by omega), fun h => absurd h (by omega), fun h => absurd h (by omega), fun h => absurd h (by omega), fun h => absurd h (by omega)⟩
      · go_wp2_with fail
        go_roundg 6
        case measure => omega
        case rel => exact ⟨4, rfl, rfl, rfl, fun h => absurd h (by omega), fun h => absurd h (by omega), fun h => absurd h (by omega), fun h => absurd h (by omega), fun h => absurd h (by omega), fun h => absurd h (by omega)⟩
    · cases b4
      · go_wp2_with fail
        go_roundg 5
        case measure => omega
        case rel => exact ⟨5, rfl, rfl, rfl, fun _ => trivial, fun h => absurd h (by omega), fun h => absurd h (by omega), fun h => absurd h (by omega), fun h => absurd h (by omega), fun h => absurd h (by omega)⟩
      · obtain rfl := HNE.out [97, 100, 100] (by simp) k4
        go_wp2_with fail
        refine bodyPost_ret (v := .tuple #[.int .i64 4, .bool true]) (by simp [results, Tryz.results84, go_sem]) rfl ⟨?_, rfl⟩
        rw [← (Lib.bytes_beq_iff _ _).1 H4.out]
        rfl
    · obtain rfl := HJ.out.1 (by omega)
      cases b5
      · go_wp2_with fail
        go_roundg 4
        case measure => omega
        case rel => exact ⟨6, rfl, rfl, rfl, fun _ => trivial, fun _ => trivial, fun h => absurd h (by omega), fun h => absurd h (by omega), fun h => absurd h (by omega), fun h => absurd h (by omega)⟩
      · obtain rfl := HNE.out [108, 101, 115, 115] (by simp) k5
        go_wp2_with fail
        refine bodyPost_ret (v := .tuple #[.int .i64 5, .bool true]) (by simp [results, Tryz.results84, go_sem]) rfl ⟨?_, rfl⟩
        rw [← (Lib.bytes_beq_iff _ _).1 H5.out]
        rfl
    · obtain rfl := HJ.out.1 (by omega)
      obtain rfl := HJ.out.2.1 (by omega)
      cases b6
      · go_wp2_with fail
        go_roundg 3
        case measure => omega
        case rel => exact ⟨7, rfl, rfl, rfl, fun _ => trivial, fun _ => trivial, fun _ => trivial, fun h => absurd h (by omega), fun h => absurd h (by omega), fun h => absurd h (by omega)⟩
      · obtain rfl := HNE.out [105, 102] (by simp) k6
        go_wp2_with fail
        refine bodyPost_ret (v := .tuple #[.int .i64 6, .bool true]) (by simp [results, Tryz.results84, go_sem]) rfl ⟨?_, rfl⟩
        rw [← (Lib.bytes_beq_iff _ _).1 H6.out]
        rfl
    · obtain rfl := HJ.out.1 (by omega)
      obtain rfl := HJ.out.2.1 (by omega)
      obtain rfl := HJ.out.2.2.1 (by omega)
      cases b7
      · go_wp2_with fail
        go_roundg 2
        case measure => omega
        case rel => exact ⟨8, rfl, rfl, rfl, fun _ => trivial, fun _ => trivial, fun _ => trivial, fun _ => trivial, fun h => absurd h (by omega), fun h => absurd h (by omega)⟩
      · obtain rfl := HNE.out [102, 117, 110] (by simp) k7
        go_wp2_with fail
        refine bodyPost_ret (v := .tuple #[.int .i64 7, .bool true]) (by simp [results, Tryz.results84, go_sem]) rfl ⟨?_, rfl⟩
        rw [← (Lib.bytes_beq_iff _ _).1 H7.out]
        rfl
    · obtain rfl := HJ.out.1 (by omega)
      obtain rfl := HJ.out.2.1 (by omega)
      obtain rfl := HJ.out.2.2.1 (by omega)
      obtain rfl := HJ.out.2.2.2.1 (by omega)
      cases b8
      · go_wp2_with fail
        go_roundg 1
        case measure => omega
        case rel => exact ⟨9, rfl, rfl, rfl, fun _ => trivial, fun _ => trivial, fun _ => trivial, fun _ => trivial, fun _ => trivial, fun h => absurd h (by omega)⟩
      · obtain rfl := HNE.out [99, 97, 108, 108] (by simp) k8
        go_wp2_with fail
        refine bodyPost_ret (v := .tuple #[.int .i64 8, .bool true]) (by simp [results, Tryz.results84, go_sem]) rfl ⟨?_, rfl⟩
        rw [← (Lib.bytes_beq_iff _ _).1 H8.out]
        rfl
    · obtain rfl := HJ.out.1 (by omega)
      obtain rfl := HJ.out.2.1 (by omega)
      obtain rfl := HJ.out.2.2.1 (by omega)
      obtain rfl := HJ.out.2.2.2.1 (by omega)
      obtain rfl := HJ.out.2.2.2.2.1 (by omega)
      cases b9
      · go_wp2_with fail
        go_roundg 0
        case measure => omega
        case rel => exact ⟨10, rfl, rfl, rfl, fun _ => trivial, fun _ => trivial, fun _ => trivial, fun _ => trivial, fun _ => trivial, fun _ => trivial⟩
      · obtain rfl := HNE.out [97, 115] (by simp) k9
        go_wp2_with fail
        refine bodyPost_ret (v := .tuple #[.int .i64 9, .bool true]) (by simp [results, Tryz.results84, go_sem]) rfl ⟨?_, rfl⟩
        rw [← (Lib.bytes_beq_iff _ _).1 H9.out]
        rfl
    · obtain rfl := HJ.out.1 (by omega)
      obtain rfl := HJ.out.2.1 (by omega)
      obtain rfl := HJ.out.2.2.1 (by omega)
      obtain rfl := HJ.out.2.2.2.1 (by omega)
      obtain rfl := HJ.out.2.2.2.2.1 (by omega)
      obtain rfl := HJ.out.2.2.2.2.2 (by omega)
      go_wp2_with fail
      refine bodyPost_ret (v := .tuple #[.int .i64 0, .bool false]) (by simp [results, Tryz.results84, go_sem]) rfl ⟨?_, rfl⟩
      simp [foundV, kindAt, atWord, kindWs, ne_of_beq H4.out, ne_of_beq H5.out, ne_of_beq H6.out, ne_of_beq H7.out, ne_of_beq H8.out, ne_of_beq H9.out]
end Go.Proofs.YtnddkmccagiclabGreatDoor

/-
  DERIVED: THE SHELF's CONTRACTS AT THIS DUMP, IN PLAIN WORDS (tools/lay-plain.mjs out of 'TryzShelf.lean', which tools/lay-shelf.mjs wrote): THE SAME DECLARATIONS UNDER THE SAME NAMES: 'import', 'namespace', 'open', 'def', 'theorem' AND NOTHING ELSE: no command of the shelf's: FOR A HAND-IN. Each laying: the table of numbers ('.._ren') and one theorem, a field a fact of the dump's own or the kernel's comparison; each contract: ONE APPLICATION.
-/
namespace Go.Proofs
open Go.Shelf
open Go.RowKit in
open Go.RowKit in
open Go.RowKit in
open Go.RowKit in
open Go.RowKit in
def Tryz.lays119_ren : Go.Shelf.Ren := ⟨fun | 119 => 174 | n => n, fun | 21 => 21 | 4 => 4 | n => n, fun | n => n⟩
theorem Tryz.lays119 : Go.Proofs.Lays.n119 Tryz.prog Tryz.lays119_ren := {
  mixed := by kernel_rfl
  f119 := Tryz.func174.trans (congrArg some (by kernel_rfl))
  t4 := Tryz.underlying4
  a4 := Tryz.isAgg4
  z4 := Tryz.sizeOf4
  v4 := Tryz.zeroValue4
  t21 := Tryz.underlying21
  a21 := Tryz.isAgg21
  z21 := Tryz.sizeOf21
  v21 := Tryz.zeroValue21 }
/-- utf8.ValidRune: "ValidRune reports whether r can be legally encoded as UTF-8. Code points that are out of range or a surrogate half are illegal.": IT RETURNS 'Lib.validRune r'; the world is as it was. (LAID: no walk: one application.) -/
theorem Tryz.utf8_ValidRune (r : Int) (w : World) :
    Calls Tryz.prog 174 #[.int .i32 r] w fun e w' => e = .returned (.bool (Lib.validRune r)) ∧ w' = w := Any.utf8_ValidRune Tryz.lays119 r w
def Tryz.lays137_ren : Go.Shelf.Ren := ⟨fun | 137 => 173 | 217 => 189 | 266 => 202 | n => n, fun | 9 => 9 | 5 => 5 | 3 => 3 | n => n, fun | n => n⟩
theorem Tryz.lays137 : Go.Proofs.Lays.n137 Tryz.prog Tryz.lays137_ren := {
  mixed := by kernel_rfl
  f137 := Tryz.func173.trans (congrArg some (by kernel_rfl))
  f217 := Tryz.func189.trans (congrArg some (by kernel_rfl))
  f266 := Tryz.func202.trans (congrArg some (by kernel_rfl))
  t3 := Tryz.underlying3
  a3 := Tryz.isAgg3
  z3 := Tryz.sizeOf3
  v3 := Tryz.zeroValue3
  t5 := Tryz.underlying5
  a5 := Tryz.isAgg5
  z5 := Tryz.sizeOf5
  v5 := Tryz.zeroValue5
  t9 := Tryz.underlying9
  a9 := Tryz.isAgg9
  z9 := Tryz.sizeOf9
  v9 := Tryz.zeroValue9 }
open Go.RowKit in
/-- strings.IndexByte: "IndexByte returns the index of the first instance of c in s, or -1 if c is not present in s.": IT RETURNS 'Lib.indexByte s c'; the world is as it was. (LAID: no walk: one application.) -/
theorem Tryz.strings_IndexByte (s : ByteArray) (c : Int) (w : World) :
    Calls Tryz.prog 173 #[.string s, .int .u8 c] w fun e w' => e = .returned (.int .i64 (Lib.indexByte s.data.toList c.toNat.toUInt8)) ∧ w' = w := Any.strings_IndexByte Tryz.lays137 s c w
open Go.RowKit in
def Tryz.lays103_ren : Go.Shelf.Ren := ⟨fun | 103 => 54 | 210 => 88 | 206 => 127 | n => n, fun | 9 => 9 | 4 => 4 | 24 => 91 | 3 => 3 | n => n, fun | n => n⟩
theorem Tryz.lays103 : Go.Proofs.Lays.n103 Tryz.prog Tryz.lays103_ren := {
  mixed := by kernel_rfl
  f103 := Tryz.func54.trans (congrArg some (by kernel_rfl))
  f206 := Tryz.func127.trans (congrArg some (by kernel_rfl))
  f210 := Tryz.func88.trans (congrArg some (by kernel_rfl))
  t3 := Tryz.underlying3
  a3 := Tryz.isAgg3
  z3 := Tryz.sizeOf3
  v3 := Tryz.zeroValue3
  t4 := Tryz.underlying4
  a4 := Tryz.isAgg4
  z4 := Tryz.sizeOf4
  v4 := Tryz.zeroValue4
  t9 := Tryz.underlying9
  a9 := Tryz.isAgg9
  z9 := Tryz.sizeOf9
  v9 := Tryz.zeroValue9
  t24 := Tryz.underlying91
  a24 := Tryz.isAgg91
  z24 := Tryz.sizeOf91
  v24 := Tryz.zeroValue91 }
open Go.RowKit in
/-- strings.CutPrefix: "CutPrefix returns s without the provided leading prefix string and reports whether it found the prefix. If s doesn't start with prefix, CutPrefix returns s, false. If prefix is the empty string, CutPrefix returns s, true.": IT RETURNS '(Lib.trimPrefix s p, Lib.hasPrefix s p)'; the world is as it was. (LAID: no walk: one application.) -/
theorem Tryz.strings_CutPrefix (s p : ByteArray) (w : World) :
    Calls Tryz.prog 54 #[.string s, .string p] w fun e w' => e = .returned (.tuple #[.string ⟨(Lib.trimPrefix s.data.toList p.data.toList).toArray⟩, .bool (Lib.hasPrefix s.data.toList p.data.toList)]) ∧ w' = w := Any.strings_CutPrefix Tryz.lays103 s p w
open Go.RowKit in
open Go.RowKit in
open Go.RowKit in
open Go.Lib in
open Go.Lib in
open Go.Lib in
open Go.Lib in
open Go.RowKit Go.Sort Go.Lib in
open Go.RowKit Go.Sort Go.Lib in
open Go.RowKit Go.Sort Go.Lib in
open Go.RowKit Go.Sort Go.Lib in
open Go.RowKit Go.Sort Go.Lib in
def Tryz.laysM171_ren : Go.Shelf.Ren := ⟨fun | 171 => 90 | 243 => 130 | 246 => 171 | 283 => 194 | 284 => 195 | 285 => 196 | 286 => 197 | 129 => 207 | 317 => 206 | 318 => 208 | 319 => 209 | 320 => 210 | 337 => 212 | 338 => 213 | n => n, fun | 3 => 3 | 9 => 9 | 2 => 2 | 4 => 4 | 171 => 240 | 0 => 0 | 53 => 233 | 37 => 174 | 5 => 5 | 173 => 243 | 212 => 265 | 51 => 219 | 20 => 20 | 213 => 266 | 46 => 218 | 232 => 271 | 233 => 272 | n => n, fun | 17 => 11 | 18 => 12 | 19 => 13 | n => n⟩
theorem Tryz.laysM171 : Go.Proofs.LaysM.n171 Tryz.prog Tryz.laysM171_ren := {
  mixed := by kernel_rfl
  f129 := Tryz.func207.trans (congrArg some (by kernel_rfl))
  f171 := Tryz.func90.trans (congrArg some (by kernel_rfl))
  f243 := Tryz.func130.trans (congrArg some (by kernel_rfl))
  f246 := Tryz.func171.trans (congrArg some (by kernel_rfl))
  f283 := Tryz.func194.trans (congrArg some (by kernel_rfl))
  f284 := Tryz.func195.trans (congrArg some (by kernel_rfl))
  f285 := Tryz.func196.trans (congrArg some (by kernel_rfl))
  f286 := Tryz.func197.trans (congrArg some (by kernel_rfl))
  f317 := Tryz.func206.trans (congrArg some (by kernel_rfl))
  f318 := Tryz.func208.trans (congrArg some (by kernel_rfl))
  f319 := Tryz.func209.trans (congrArg some (by kernel_rfl))
  f320 := Tryz.func210.trans (congrArg some (by kernel_rfl))
  f337 := Tryz.func212.trans (congrArg some (by kernel_rfl))
  f338 := Tryz.func213.trans (congrArg some (by kernel_rfl))
  t0 := Tryz.underlying0
  a0 := Tryz.isAgg0
  z0 := Tryz.sizeOf0
  v0 := Tryz.zeroValue0
  t2 := Tryz.underlying2
  a2 := Tryz.isAgg2
  z2 := Tryz.sizeOf2
  v2 := Tryz.zeroValue2
  t3 := Tryz.underlying3
  a3 := Tryz.isAgg3
  z3 := Tryz.sizeOf3
  v3 := Tryz.zeroValue3
  t4 := Tryz.underlying4
  a4 := Tryz.isAgg4
  z4 := Tryz.sizeOf4
  v4 := Tryz.zeroValue4
  t5 := Tryz.underlying5
  a5 := Tryz.isAgg5
  z5 := Tryz.sizeOf5
  v5 := Tryz.zeroValue5
  t9 := Tryz.underlying9
  a9 := Tryz.isAgg9
  z9 := Tryz.sizeOf9
  v9 := Tryz.zeroValue9
  t20 := Tryz.underlying20
  a20 := Tryz.isAgg20
  z20 := Tryz.sizeOf20
  v20 := Tryz.zeroValue20
  t37 := Tryz.underlying174
  a37 := Tryz.isAgg174
  z37 := Tryz.sizeOf174
  v37 := Tryz.zeroValue174
  t46 := Tryz.underlying218
  a46 := Tryz.isAgg218
  z46 := Tryz.sizeOf218
  v46 := Tryz.zeroValue218
  t51 := Tryz.underlying219
  a51 := Tryz.isAgg219
  z51 := Tryz.sizeOf219
  v51 := Tryz.zeroValue219
  t53 := Tryz.underlying233
  a53 := Tryz.isAgg233
  z53 := Tryz.sizeOf233
  v53 := Tryz.zeroValue233
  t171 := Tryz.underlying240
  a171 := Tryz.isAgg240
  z171 := Tryz.sizeOf240
  v171 := Tryz.zeroValue240
  t173 := Tryz.underlying243
  a173 := Tryz.isAgg243
  z173 := Tryz.sizeOf243
  v173 := Tryz.zeroValue243
  t212 := Tryz.underlying265
  a212 := Tryz.isAgg265
  z212 := Tryz.sizeOf265
  v212 := Tryz.zeroValue265
  t213 := Tryz.underlying266
  a213 := Tryz.isAgg266
  z213 := Tryz.sizeOf266
  t232 := Tryz.underlying271
  a232 := Tryz.isAgg271
  z232 := Tryz.sizeOf271
  v232 := Tryz.zeroValue271
  t233 := Tryz.underlying272
  a233 := Tryz.isAgg272
  z233 := Tryz.sizeOf272
  v233 := Tryz.zeroValue272
  g17 := by kernel_rfl
  g18 := by kernel_rfl
  g19 := by kernel_rfl
  i0 := by kernel_rfl
  i2 := by kernel_rfl
  i3 := by kernel_rfl
  i4 := by kernel_rfl
  i5 := by kernel_rfl
  i9 := by kernel_rfl
  i20 := by kernel_rfl
  i37 := by kernel_rfl
  i46 := by kernel_rfl
  i51 := by kernel_rfl
  i53 := by kernel_rfl
  i171 := by kernel_rfl
  i173 := by kernel_rfl
  i212 := by kernel_rfl
  i232 := by kernel_rfl
  i233 := by kernel_rfl
  m17 := by kernel_rfl
  m18 := by kernel_rfl
  m19 := by kernel_rfl }
open Go.RowKit Go.Sort Go.Lib in
/-- strconv.Itoa: "Itoa is equivalent to FormatInt(int64(i), 10).": i's DECIMAL NUMERAL ('Lib.itoa': a '-' where i is negative, then the digits), FOR EVERY int. The world behind the call: the world before it, new blocks behind the heap (the library's 'var a [24]byte'), draws. (LAID: no walk: one application.) -/
theorem Tryz.strconv_Itoa (n : Int) (h0 : -9223372036854775808 ≤ n) (h1 : n ≤ 9223372036854775807) (w : World) (htab : Lib.TabIs Tryz.prog w "internal/strconv.uint64pow10" .u64 Lib.pow10Tab) :
    Calls Tryz.prog 90 #[.int .i64 n] w fun e w' => e = .returned (.string ⟨(Lib.itoa n).toArray⟩) ∧ ∃ k os, w' = grow (w.drewN k) os := Any.strconv_Itoa Tryz.laysM171 n h0 h1 w htab
open Go.RowKit Go.Sort Go.Lib in
open Go.RowKit in
open Go.RowKit in
open Go.RowKit in
open Go.RowKit in
open Go.RowKit in
open Go.RowKit in
open Go.RowKit in
open Go.RowKit in
open Go.RowKit in
open Go.RowKit in
open Go.RowKit in
open Go.RowKit in
open Go.RowKit in
open Go.RowKit in
open Go.RowKit in
open Go.RowKit in
def Tryz.laysC172_ren : Go.Shelf.Ren := ⟨fun | 172 => 89 | 244 => 128 | 245 => 129 | 247 => 166 | 279 => 167 | 280 => 168 | 281 => 169 | 282 => 170 | 287 => 191 | 316 => 192 | 171 => 90 | 205 => 193 | 321 => 204 | 322 => 205 | 243 => 130 | 246 => 171 | 283 => 194 | 284 => 195 | 285 => 196 | 286 => 197 | 129 => 207 | 317 => 206 | 318 => 208 | 319 => 209 | 320 => 210 | 337 => 212 | 338 => 213 | n => n, fun | 9 => 9 | 3 => 3 | 75 => 153 | 76 => 154 | 4 => 4 | 5 => 5 | 167 => 210 | 37 => 174 | 0 => 0 | 85 => 211 | 2 => 2 | 168 => 213 | 53 => 233 | 175 => 234 | 46 => 218 | 210 => 238 | 127 => 208 | 145 => 263 | 143 => 261 | 21 => 21 | 171 => 240 | 173 => 243 | 212 => 265 | 51 => 219 | 20 => 20 | 213 => 266 | 232 => 271 | 233 => 272 | 80 => 88 | n => n, fun | 15 => 9 | 16 => 10 | 17 => 11 | 18 => 12 | 19 => 13 | n => n⟩
theorem Tryz.laysC172 : Go.Proofs.LaysC.n172 Tryz.prog Tryz.laysC172_ren := {
  mixed := by kernel_rfl
  f129 := Tryz.func207.trans (congrArg some (by kernel_rfl))
  f171 := Tryz.func90.trans (congrArg some (by kernel_rfl))
  f172 := Tryz.func89.trans (congrArg some (by kernel_rfl))
  f205 := Tryz.func193.trans (congrArg some (by kernel_rfl))
  f243 := Tryz.func130.trans (congrArg some (by kernel_rfl))
  f244 := Tryz.func128.trans (congrArg some (by kernel_rfl))
  f245 := Tryz.func129.trans (congrArg some (by kernel_rfl))
  f246 := Tryz.func171.trans (congrArg some (by kernel_rfl))
  f247 := Tryz.func166.trans (congrArg some (by kernel_rfl))
  f279 := Tryz.func167.trans (congrArg some (by kernel_rfl))
  f280 := Tryz.func168.trans (congrArg some (by kernel_rfl))
  f281 := Tryz.func169.trans (congrArg some (by kernel_rfl))
  f282 := Tryz.func170.trans (congrArg some (by kernel_rfl))
  f283 := Tryz.func194.trans (congrArg some (by kernel_rfl))
  f284 := Tryz.func195.trans (congrArg some (by kernel_rfl))
  f285 := Tryz.func196.trans (congrArg some (by kernel_rfl))
  f286 := Tryz.func197.trans (congrArg some (by kernel_rfl))
  f287 := Tryz.func191.trans (congrArg some (by kernel_rfl))
  f316 := Tryz.func192.trans (congrArg some (by kernel_rfl))
  f317 := Tryz.func206.trans (congrArg some (by kernel_rfl))
  f318 := Tryz.func208.trans (congrArg some (by kernel_rfl))
  f319 := Tryz.func209.trans (congrArg some (by kernel_rfl))
  f320 := Tryz.func210.trans (congrArg some (by kernel_rfl))
  f321 := Tryz.func204.trans (congrArg some (by kernel_rfl))
  f322 := Tryz.func205.trans (congrArg some (by kernel_rfl))
  f337 := Tryz.func212.trans (congrArg some (by kernel_rfl))
  f338 := Tryz.func213.trans (congrArg some (by kernel_rfl))
  t0 := Tryz.underlying0
  a0 := Tryz.isAgg0
  z0 := Tryz.sizeOf0
  v0 := Tryz.zeroValue0
  t2 := Tryz.underlying2
  a2 := Tryz.isAgg2
  z2 := Tryz.sizeOf2
  v2 := Tryz.zeroValue2
  t3 := Tryz.underlying3
  a3 := Tryz.isAgg3
  z3 := Tryz.sizeOf3
  v3 := Tryz.zeroValue3
  t4 := Tryz.underlying4
  a4 := Tryz.isAgg4
  z4 := Tryz.sizeOf4
  v4 := Tryz.zeroValue4
  t5 := Tryz.underlying5
  a5 := Tryz.isAgg5
  z5 := Tryz.sizeOf5
  v5 := Tryz.zeroValue5
  t9 := Tryz.underlying9
  a9 := Tryz.isAgg9
  z9 := Tryz.sizeOf9
  v9 := Tryz.zeroValue9
  t20 := Tryz.underlying20
  a20 := Tryz.isAgg20
  z20 := Tryz.sizeOf20
  v20 := Tryz.zeroValue20
  t21 := Tryz.underlying21
  a21 := Tryz.isAgg21
  z21 := Tryz.sizeOf21
  v21 := Tryz.zeroValue21
  t37 := Tryz.underlying174
  a37 := Tryz.isAgg174
  z37 := Tryz.sizeOf174
  v37 := Tryz.zeroValue174
  t46 := Tryz.underlying218
  a46 := Tryz.isAgg218
  z46 := Tryz.sizeOf218
  v46 := Tryz.zeroValue218
  t51 := Tryz.underlying219
  a51 := Tryz.isAgg219
  z51 := Tryz.sizeOf219
  v51 := Tryz.zeroValue219
  t53 := Tryz.underlying233
  a53 := Tryz.isAgg233
  z53 := Tryz.sizeOf233
  v53 := Tryz.zeroValue233
  t75 := Tryz.underlying153
  a75 := Tryz.isAgg153
  z75 := Tryz.sizeOf153
  v75 := Tryz.zeroValue153
  t76 := Tryz.underlying154
  a76 := Tryz.isAgg154
  z76 := Tryz.sizeOf154
  v76 := Tryz.zeroValue154
  t85 := Tryz.underlying211
  a85 := Tryz.isAgg211
  z85 := Tryz.sizeOf211
  v85 := Tryz.zeroValue211
  t127 := Tryz.underlying208
  a127 := Tryz.isAgg208
  z127 := Tryz.sizeOf208
  v127 := Tryz.zeroValue208
  t143 := Tryz.underlying261
  a143 := Tryz.isAgg261
  z143 := Tryz.sizeOf261
  v143 := Tryz.zeroValue261
  t145 := Tryz.underlying263
  a145 := Tryz.isAgg263
  z145 := Tryz.sizeOf263
  v145 := Tryz.zeroValue263
  t167 := Tryz.underlying210
  a167 := Tryz.isAgg210
  z167 := Tryz.sizeOf210
  v167 := Tryz.zeroValue210
  t168 := Tryz.underlying213
  a168 := Tryz.isAgg213
  z168 := Tryz.sizeOf213
  v168 := Tryz.zeroValue213
  t171 := Tryz.underlying240
  a171 := Tryz.isAgg240
  z171 := Tryz.sizeOf240
  v171 := Tryz.zeroValue240
  t173 := Tryz.underlying243
  a173 := Tryz.isAgg243
  z173 := Tryz.sizeOf243
  v173 := Tryz.zeroValue243
  t175 := Tryz.underlying234
  a175 := Tryz.isAgg234
  z175 := Tryz.sizeOf234
  v175 := Tryz.zeroValue234
  t210 := Tryz.underlying238
  a210 := Tryz.isAgg238
  z210 := Tryz.sizeOf238
  v210 := Tryz.zeroValue238
  t212 := Tryz.underlying265
  a212 := Tryz.isAgg265
  z212 := Tryz.sizeOf265
  v212 := Tryz.zeroValue265
  t213 := Tryz.underlying266
  a213 := Tryz.isAgg266
  z213 := Tryz.sizeOf266
  t232 := Tryz.underlying271
  a232 := Tryz.isAgg271
  z232 := Tryz.sizeOf271
  v232 := Tryz.zeroValue271
  t233 := Tryz.underlying272
  a233 := Tryz.isAgg272
  z233 := Tryz.sizeOf272
  v233 := Tryz.zeroValue272
  g15 := by kernel_rfl
  g16 := by kernel_rfl
  g17 := by kernel_rfl
  g18 := by kernel_rfl
  g19 := by kernel_rfl
  t80 := Tryz.underlying88
  a80 := Tryz.isAgg88
  z80 := Tryz.sizeOf88
  v80 := Tryz.zeroValue88
  i0 := by kernel_rfl
  i2 := by kernel_rfl
  i3 := by kernel_rfl
  i4 := by kernel_rfl
  i5 := by kernel_rfl
  i9 := by kernel_rfl
  i20 := by kernel_rfl
  i21 := by kernel_rfl
  i37 := by kernel_rfl
  i46 := by kernel_rfl
  i51 := by kernel_rfl
  i53 := by kernel_rfl
  i75 := by kernel_rfl
  i76 := by kernel_rfl
  i80 := by kernel_rfl
  i85 := by kernel_rfl
  i127 := by kernel_rfl
  i143 := by kernel_rfl
  i145 := by kernel_rfl
  i167 := by kernel_rfl
  i168 := by kernel_rfl
  i171 := by kernel_rfl
  i173 := by kernel_rfl
  i175 := by kernel_rfl
  i210 := by kernel_rfl
  i212 := by kernel_rfl
  i232 := by kernel_rfl
  i233 := by kernel_rfl
  m15 := by kernel_rfl
  m16 := by kernel_rfl
  m17 := by kernel_rfl
  m18 := by kernel_rfl
  m19 := by kernel_rfl
  c0 := by kernel_rfl
  c2 := by kernel_rfl
  c3 := by kernel_rfl
  c4 := by kernel_rfl
  c5 := by kernel_rfl
  c9 := by kernel_rfl
  c20 := by kernel_rfl
  c21 := by kernel_rfl
  c37 := by kernel_rfl
  c46 := by kernel_rfl
  c51 := by kernel_rfl
  c53 := by kernel_rfl
  c75 := by kernel_rfl
  c76 := by kernel_rfl
  c80 := by kernel_rfl
  c85 := by kernel_rfl
  c127 := by kernel_rfl
  c143 := by kernel_rfl
  c145 := by kernel_rfl
  c167 := by kernel_rfl
  c168 := by kernel_rfl
  c171 := by kernel_rfl
  c173 := by kernel_rfl
  c175 := by kernel_rfl
  c210 := by kernel_rfl
  c212 := by kernel_rfl
  c213 := by kernel_rfl
  c232 := by kernel_rfl
  c233 := by kernel_rfl }
open Go.RowKit in
/-- strconv.Atoi, AT EVERY STRING THAT SPELLS AN int ('Lib.atoiAll .. = .ok v'; of whatever length: leading zeros count): v, AND NO ERROR. The world: as it was, or with the one new row that '[]byte(..)' lays. (LAID: no walk: one application.) -/
theorem Tryz.strconv_Atoi_ok (s : ByteArray) (hmax : s.size ≤ 9223372036854775806) (v : Int) (h : Lib.atoiAll s.data.toList = .ok v) (w : World) :
    Calls Tryz.prog 89 #[.string s] w fun e w' => e = .returned (.tuple #[.int .i64 v, .nilIface]) ∧ (w' = w ∨ ∃ t, w' = Lib.bytesWorld w 5 t) := Any.strconv_Atoi_ok Tryz.laysC172 s hmax v h w
open Go.RowKit in
/-- strconv.Atoi, AT EVERY STRING THAT IS NO DECIMAL NUMERAL ('.syntax'): 0, AND AN ERROR THAT IS NOT nil: a *NumError in a new block N: {Func: "Atoi", Num: s's bytes, Err: what the variable ErrSyntax holds}. Of what was there nothing has turned. (LAID: no walk: one application.) -/
theorem Tryz.strconv_Atoi_syntax (s : ByteArray) (hlim : s.size ≤ 281474976710656) (h : Lib.atoiAll s.data.toList = .«syntax») (ev : Value) (w : World) (hv : w.cell? ⟨9, 0, none⟩ = some ev) (hev : ev = .nilIface ∨ ∃ te pe, ev = .iface te pe) :
    Calls Tryz.prog 89 #[.string s] w fun e w' => ∃ N, e = .returned (.tuple #[.int .i64 (0), .iface 213 (.pointer (some ⟨N, 0, none⟩))]) ∧ w.heap.size ≤ N ∧ w'.heap[N]? = some (.cells #[.string ⟨#[65, 116, 111, 105]⟩, .string s, ev] 238 (0, 0)) ∧ Below w.heap.size w w' := Any.strconv_Atoi_syntax Tryz.laysC172 s hlim h ev w hv hev
open Go.RowKit in
/-- strconv.Atoi, AT EVERY NUMERAL THAT NO int HOLDS ('.range'): THE GREATEST OR THE LEAST int, BY THE SIGN ('Lib.atoiSat'), AND AN ERROR THAT IS NOT nil: a *NumError in a new block N: {Func: "Atoi", Num: s's bytes, Err: what the variable ErrRange holds}. Of what was there nothing has turned. (LAID: no walk: one application.) -/
theorem Tryz.strconv_Atoi_range (s : ByteArray) (hlim : s.size ≤ 281474976710656) (h : Lib.atoiAll s.data.toList = .range) (ev : Value) (w : World) (hv : w.cell? ⟨10, 0, none⟩ = some ev) (hev : ev = .nilIface ∨ ∃ te pe, ev = .iface te pe) :
    Calls Tryz.prog 89 #[.string s] w fun e w' => ∃ N, e = .returned (.tuple #[.int .i64 (Lib.atoiSat s.data.toList), .iface 213 (.pointer (some ⟨N, 0, none⟩))]) ∧ w.heap.size ≤ N ∧ w'.heap[N]? = some (.cells #[.string ⟨#[65, 116, 111, 105]⟩, .string s, ev] 238 (0, 0)) ∧ Below w.heap.size w w' := Any.strconv_Atoi_range Tryz.laysC172 s hlim h ev w hv hev
open Go.RowKit in
open Go.RowKit in
open Go.RowKit Go.Lib in
open Go.RowKit Go.Lib in
open Go.RowKit Go.Lib in
open Go.RowKit Go.Lib in
open Go.RowKit Go.Lib in
open Go.RowKit Go.Lib in
open Go.RowKit Go.Lib in
open Go.RowKit Go.Lib in
open Go.RowKit Go.Lib in
open Go.RowKit Go.Lib in
open Go.RowKit Go.Lib in
open Go.RowKit Go.Lib in
open Go.RowKit Go.Lib in
open Go.RowKit Go.Lib in
open Go.RowKit Go.Lib in
def Tryz.lays101_ren : Go.Shelf.Ren := ⟨fun | 101 => 142 | 208 => 177 | 206 => 127 | n => n, fun | 9 => 9 | 4 => 4 | 3 => 3 | n => n, fun | n => n⟩
theorem Tryz.lays101 : Go.Proofs.Lays.n101 Tryz.prog Tryz.lays101_ren := {
  mixed := by kernel_rfl
  f101 := Tryz.func142.trans (congrArg some (by kernel_rfl))
  f206 := Tryz.func127.trans (congrArg some (by kernel_rfl))
  f208 := Tryz.func177.trans (congrArg some (by kernel_rfl))
  t3 := Tryz.underlying3
  a3 := Tryz.isAgg3
  z3 := Tryz.sizeOf3
  v3 := Tryz.zeroValue3
  t4 := Tryz.underlying4
  a4 := Tryz.isAgg4
  z4 := Tryz.sizeOf4
  v4 := Tryz.zeroValue4
  t9 := Tryz.underlying9
  a9 := Tryz.isAgg9
  z9 := Tryz.sizeOf9
  v9 := Tryz.zeroValue9 }
open Go.RowKit Go.Lib in
/-- strings.TrimPrefix: "TrimPrefix returns s without the provided leading prefix string. If s doesn't start with prefix, s is returned unchanged.": IT RETURNS 'Lib.trimPrefix s prefix'; the world is as it was. (LAID: no walk: one application.) -/
theorem Tryz.strings_TrimPrefix (s p : ByteArray) (w : World) :
    Calls Tryz.prog 142 #[.string s, .string p] w fun e w' => e = .returned (.string ⟨(Lib.trimPrefix s.data.toList p.data.toList).toArray⟩) ∧ w' = w := Any.strings_TrimPrefix Tryz.lays101 s p w
open Go.RowKit Go.Lib in
def Tryz.lays157_ren : Go.Shelf.Ren := ⟨fun | 157 => 103 | 229 => 49 | 199 => 145 | 261 => 181 | 311 => 199 | 312 => 200 | n => n, fun | 9 => 9 | 31 => 56 | 3 => 3 | 5 => 5 | 4 => 4 | 119 => 194 | 0 => 0 | 40 => 87 | 152 => 147 | 21 => 21 | 154 => 149 | 51 => 219 | 141 => 221 | 196 => 248 | 193 => 245 | 198 => 251 | 49 => 249 | 194 => 246 | 201 => 254 | 226 => 268 | 46 => 218 | 227 => 269 | n => n, fun | 0 => 3 | 6 => 5 | n => n⟩
theorem Tryz.lays157 : Go.Proofs.Lays.n157 Tryz.prog Tryz.lays157_ren := {
  mixed := by kernel_rfl
  f157 := Tryz.func103.trans (congrArg some (by kernel_rfl))
  f199 := Tryz.func145.trans (congrArg some (by kernel_rfl))
  f229 := Tryz.func49.trans (congrArg some (by kernel_rfl))
  f261 := Tryz.func181.trans (congrArg some (by kernel_rfl))
  f311 := Tryz.func199.trans (congrArg some (by kernel_rfl))
  f312 := Tryz.func200.trans (congrArg some (by kernel_rfl))
  t0 := Tryz.underlying0
  a0 := Tryz.isAgg0
  z0 := Tryz.sizeOf0
  v0 := Tryz.zeroValue0
  t3 := Tryz.underlying3
  a3 := Tryz.isAgg3
  z3 := Tryz.sizeOf3
  v3 := Tryz.zeroValue3
  t4 := Tryz.underlying4
  a4 := Tryz.isAgg4
  z4 := Tryz.sizeOf4
  v4 := Tryz.zeroValue4
  t5 := Tryz.underlying5
  a5 := Tryz.isAgg5
  z5 := Tryz.sizeOf5
  v5 := Tryz.zeroValue5
  t9 := Tryz.underlying9
  a9 := Tryz.isAgg9
  z9 := Tryz.sizeOf9
  v9 := Tryz.zeroValue9
  t21 := Tryz.underlying21
  a21 := Tryz.isAgg21
  z21 := Tryz.sizeOf21
  v21 := Tryz.zeroValue21
  t31 := Tryz.underlying56
  a31 := Tryz.isAgg56
  z31 := Tryz.sizeOf56
  v31 := Tryz.zeroValue56
  t40 := Tryz.underlying87
  a40 := Tryz.isAgg87
  z40 := Tryz.sizeOf87
  v40 := Tryz.zeroValue87
  t46 := Tryz.underlying218
  a46 := Tryz.isAgg218
  z46 := Tryz.sizeOf218
  v46 := Tryz.zeroValue218
  t49 := Tryz.underlying249
  a49 := Tryz.isAgg249
  z49 := Tryz.sizeOf249
  v49 := Tryz.zeroValue249
  t51 := Tryz.underlying219
  a51 := Tryz.isAgg219
  z51 := Tryz.sizeOf219
  v51 := Tryz.zeroValue219
  t119 := Tryz.underlying194
  a119 := Tryz.isAgg194
  z119 := Tryz.sizeOf194
  t141 := Tryz.underlying221
  a141 := Tryz.isAgg221
  z141 := Tryz.sizeOf221
  v141 := Tryz.zeroValue221
  t152 := Tryz.underlying147
  a152 := Tryz.isAgg147
  z152 := Tryz.sizeOf147
  v152 := Tryz.zeroValue147
  t154 := Tryz.underlying149
  a154 := Tryz.isAgg149
  z154 := Tryz.sizeOf149
  v154 := Tryz.zeroValue149
  t193 := Tryz.underlying245
  a193 := Tryz.isAgg245
  z193 := Tryz.sizeOf245
  v193 := Tryz.zeroValue245
  t194 := Tryz.underlying246
  a194 := Tryz.isAgg246
  z194 := Tryz.sizeOf246
  v194 := Tryz.zeroValue246
  t196 := Tryz.underlying248
  a196 := Tryz.isAgg248
  z196 := Tryz.sizeOf248
  v196 := Tryz.zeroValue248
  t198 := Tryz.underlying251
  a198 := Tryz.isAgg251
  z198 := Tryz.sizeOf251
  v198 := Tryz.zeroValue251
  t201 := Tryz.underlying254
  a201 := Tryz.isAgg254
  z201 := Tryz.sizeOf254
  v201 := Tryz.zeroValue254
  t226 := Tryz.underlying268
  a226 := Tryz.isAgg268
  z226 := Tryz.sizeOf268
  v226 := Tryz.zeroValue268
  t227 := Tryz.underlying269
  a227 := Tryz.isAgg269
  z227 := Tryz.sizeOf269
  v227 := Tryz.zeroValue269
  g0 := by kernel_rfl
  g6 := by kernel_rfl }
open Go.RowKit Go.Lib in
/-- strings.Fields, the table by 'Lib.TabIs' (as strings.TrimSpace's contract). 'hg': the table's number, by its name: at a dump 'by kernel_rfl'. (LAID: no walk: one application.) -/
theorem Tryz.strings_Fields (s : ByteArray) (w : World) (hs : s.size < 4294967281) (hascii : ∀ (j : Nat) b, s.data.toList[j]? = some b → b.toNat < 128) (htab : Lib.TabIs Tryz.prog w "strings.asciiSpace" .u8 Lib.asciiSpaceTab) :
    Calls Tryz.prog 103 #[.string s] w fun e w' =>
      e = .returned (.slice (some ⟨w.heap.size, 0, none⟩) (Lib.fields s.data.toList).length (Lib.fields s.data.toList).length) ∧ w' = w.alloc (.cells ((Lib.fields s.data.toList).map fun l => Value.string ⟨l.toArray⟩).toArray 9) := Any.strings_Fields Tryz.lays157 (by kernel_rfl) (by kernel_rfl) s w hs hascii htab
open Go.RowKit Go.Lib in
open Go.RowKit Go.Lib in
open Go.RowKit Go.Lib in
open Go.RowKit Go.Lib in
def Tryz.lays155_ren : Go.Shelf.Ren := ⟨fun | 155 => 48 | 154 => 82 | 138 => 119 | 165 => 120 | 143 => 121 | 166 => 122 | 197 => 123 | 169 => 124 | 195 => 160 | 218 => 161 | 240 => 162 | 241 => 163 | 219 => 164 | 260 => 165 | 276 => 187 | 277 => 188 | 217 => 189 | 225 => 176 | 224 => 175 | 267 => 190 | 266 => 202 | 314 => 203 | n => n, fun | 9 => 9 | 3 => 3 | 4 => 4 | 72 => 176 | 0 => 0 | 76 => 154 | 105 => 178 | 21 => 21 | 5 => 5 | 70 => 173 | 20 => 20 | 37 => 174 | 75 => 153 | 127 => 208 | 164 => 227 | 46 => 218 | 119 => 194 | 139 => 232 | 138 => 231 | 146 => 257 | 51 => 219 | 80 => 88 | n => n, fun | 1 => 6 | 3 => 7 | 4 => 8 | n => n⟩
theorem Tryz.lays155 : Go.Proofs.Lays.n155 Tryz.prog Tryz.lays155_ren := {
  mixed := by kernel_rfl
  f138 := Tryz.func119.trans (congrArg some (by kernel_rfl))
  f143 := Tryz.func121.trans (congrArg some (by kernel_rfl))
  f154 := Tryz.func82.trans (congrArg some (by kernel_rfl))
  f155 := Tryz.func48.trans (congrArg some (by kernel_rfl))
  f165 := Tryz.func120.trans (congrArg some (by kernel_rfl))
  f166 := Tryz.func122.trans (congrArg some (by kernel_rfl))
  f169 := Tryz.func124.trans (congrArg some (by kernel_rfl))
  f195 := Tryz.func160.trans (congrArg some (by kernel_rfl))
  f197 := Tryz.func123.trans (congrArg some (by kernel_rfl))
  f217 := Tryz.func189.trans (congrArg some (by kernel_rfl))
  f218 := Tryz.func161.trans (congrArg some (by kernel_rfl))
  f219 := Tryz.func164.trans (congrArg some (by kernel_rfl))
  f224 := Tryz.func175.trans (congrArg some (by kernel_rfl))
  f225 := Tryz.func176.trans (congrArg some (by kernel_rfl))
  f240 := Tryz.func162.trans (congrArg some (by kernel_rfl))
  f241 := Tryz.func163.trans (congrArg some (by kernel_rfl))
  f260 := Tryz.func165.trans (congrArg some (by kernel_rfl))
  f266 := Tryz.func202.trans (congrArg some (by kernel_rfl))
  f267 := Tryz.func190.trans (congrArg some (by kernel_rfl))
  f276 := Tryz.func187.trans (congrArg some (by kernel_rfl))
  f277 := Tryz.func188.trans (congrArg some (by kernel_rfl))
  f314 := Tryz.func203.trans (congrArg some (by kernel_rfl))
  t0 := Tryz.underlying0
  a0 := Tryz.isAgg0
  z0 := Tryz.sizeOf0
  v0 := Tryz.zeroValue0
  t3 := Tryz.underlying3
  a3 := Tryz.isAgg3
  z3 := Tryz.sizeOf3
  v3 := Tryz.zeroValue3
  t4 := Tryz.underlying4
  a4 := Tryz.isAgg4
  z4 := Tryz.sizeOf4
  v4 := Tryz.zeroValue4
  t5 := Tryz.underlying5
  a5 := Tryz.isAgg5
  z5 := Tryz.sizeOf5
  v5 := Tryz.zeroValue5
  t9 := Tryz.underlying9
  a9 := Tryz.isAgg9
  z9 := Tryz.sizeOf9
  v9 := Tryz.zeroValue9
  t20 := Tryz.underlying20
  a20 := Tryz.isAgg20
  z20 := Tryz.sizeOf20
  v20 := Tryz.zeroValue20
  t21 := Tryz.underlying21
  a21 := Tryz.isAgg21
  z21 := Tryz.sizeOf21
  v21 := Tryz.zeroValue21
  t37 := Tryz.underlying174
  a37 := Tryz.isAgg174
  z37 := Tryz.sizeOf174
  v37 := Tryz.zeroValue174
  t46 := Tryz.underlying218
  a46 := Tryz.isAgg218
  z46 := Tryz.sizeOf218
  v46 := Tryz.zeroValue218
  t51 := Tryz.underlying219
  a51 := Tryz.isAgg219
  z51 := Tryz.sizeOf219
  v51 := Tryz.zeroValue219
  t70 := Tryz.underlying173
  a70 := Tryz.isAgg173
  z70 := Tryz.sizeOf173
  v70 := Tryz.zeroValue173
  t72 := Tryz.underlying176
  a72 := Tryz.isAgg176
  z72 := Tryz.sizeOf176
  v72 := Tryz.zeroValue176
  t75 := Tryz.underlying153
  a75 := Tryz.isAgg153
  z75 := Tryz.sizeOf153
  v75 := Tryz.zeroValue153
  t76 := Tryz.underlying154
  a76 := Tryz.isAgg154
  z76 := Tryz.sizeOf154
  v76 := Tryz.zeroValue154
  t105 := Tryz.underlying178
  a105 := Tryz.isAgg178
  z105 := Tryz.sizeOf178
  v105 := Tryz.zeroValue178
  t119 := Tryz.underlying194
  a119 := Tryz.isAgg194
  z119 := Tryz.sizeOf194
  t127 := Tryz.underlying208
  a127 := Tryz.isAgg208
  z127 := Tryz.sizeOf208
  v127 := Tryz.zeroValue208
  t138 := Tryz.underlying231
  a138 := Tryz.isAgg231
  z138 := Tryz.sizeOf231
  v138 := Tryz.zeroValue231
  t139 := Tryz.underlying232
  a139 := Tryz.isAgg232
  z139 := Tryz.sizeOf232
  v139 := Tryz.zeroValue232
  t146 := Tryz.underlying257
  a146 := Tryz.isAgg257
  z146 := Tryz.sizeOf257
  v146 := Tryz.zeroValue257
  t164 := Tryz.underlying227
  a164 := Tryz.isAgg227
  z164 := Tryz.sizeOf227
  v164 := Tryz.zeroValue227
  g1 := by kernel_rfl
  g3 := by kernel_rfl
  g4 := by kernel_rfl }
theorem Tryz.Builder_Extra_155 : Builder.Extra Tryz.prog Tryz.lays155_ren := {
  sizeBuilder := by kernel_rfl
  liesBuilder := by kernel_rfl
  t5 := Tryz.underlying5
  a5 := Tryz.isAgg5
  z5 := Tryz.sizeOf5
  v5 := Tryz.zeroValue5
  infoByte := by kernel_rfl
  cellsByte := by kernel_rfl
  sizeByte := by kernel_rfl
  neB5 := by decide }
open Go.RowKit Go.Lib in
/-- strings.ReplaceAll: "ReplaceAll returns a copy of the string s with all non-overlapping instances of old replaced by new.": AT AN old THAT IS NOT EMPTY: 'Lib.replaceAll s old new'. (LAID: no walk: one application.) -/
theorem Tryz.strings_ReplaceAll (s old new : ByteArray) (m : Int) (w : World) (hs : s.size < 4294967281) (hm : w.cell? ⟨6, 0, none⟩ = some (.int .i64 m)) (h1 : 1 ≤ old.size) (hlen : s.size + Lib.countB s old * new.size ≤ 140737488355328) :
    Calls Tryz.prog 48 #[.string s, .string old, .string new] w fun e w' =>
      e = .returned (.string ⟨(Lib.replaceAll s.data.toList old.data.toList new.data.toList).toArray⟩) ∧ Below w.heap.size w w' := Any.strings_ReplaceAll Tryz.lays155 Tryz.Builder_Extra_155 s old new m w hs hm h1 hlen
open Go.RowKit Go.Lib in
open Go.RowKit Go.Lib in
def Tryz.laysM155_ren : Go.Shelf.Ren := ⟨fun | 155 => 48 | 154 => 82 | 138 => 119 | 165 => 120 | 143 => 121 | 166 => 122 | 197 => 123 | 169 => 124 | 195 => 160 | 218 => 161 | 240 => 162 | 241 => 163 | 219 => 164 | 260 => 165 | 276 => 187 | 277 => 188 | 217 => 189 | 225 => 176 | 224 => 175 | 267 => 190 | 266 => 202 | 314 => 203 | n => n, fun | 9 => 9 | 3 => 3 | 4 => 4 | 72 => 176 | 0 => 0 | 76 => 154 | 105 => 178 | 21 => 21 | 5 => 5 | 70 => 173 | 20 => 20 | 37 => 174 | 75 => 153 | 127 => 208 | 164 => 227 | 46 => 218 | 119 => 194 | 139 => 232 | 138 => 231 | 146 => 257 | 51 => 219 | 80 => 88 | n => n, fun | 1 => 6 | 3 => 7 | 4 => 8 | n => n⟩
theorem Tryz.laysM155 : Go.Proofs.LaysM.n155 Tryz.prog Tryz.laysM155_ren := {
  mixed := by kernel_rfl
  f138 := Tryz.func119.trans (congrArg some (by kernel_rfl))
  f143 := Tryz.func121.trans (congrArg some (by kernel_rfl))
  f154 := Tryz.func82.trans (congrArg some (by kernel_rfl))
  f155 := Tryz.func48.trans (congrArg some (by kernel_rfl))
  f165 := Tryz.func120.trans (congrArg some (by kernel_rfl))
  f166 := Tryz.func122.trans (congrArg some (by kernel_rfl))
  f169 := Tryz.func124.trans (congrArg some (by kernel_rfl))
  f195 := Tryz.func160.trans (congrArg some (by kernel_rfl))
  f197 := Tryz.func123.trans (congrArg some (by kernel_rfl))
  f217 := Tryz.func189.trans (congrArg some (by kernel_rfl))
  f218 := Tryz.func161.trans (congrArg some (by kernel_rfl))
  f219 := Tryz.func164.trans (congrArg some (by kernel_rfl))
  f224 := Tryz.func175.trans (congrArg some (by kernel_rfl))
  f225 := Tryz.func176.trans (congrArg some (by kernel_rfl))
  f240 := Tryz.func162.trans (congrArg some (by kernel_rfl))
  f241 := Tryz.func163.trans (congrArg some (by kernel_rfl))
  f260 := Tryz.func165.trans (congrArg some (by kernel_rfl))
  f266 := Tryz.func202.trans (congrArg some (by kernel_rfl))
  f267 := Tryz.func190.trans (congrArg some (by kernel_rfl))
  f276 := Tryz.func187.trans (congrArg some (by kernel_rfl))
  f277 := Tryz.func188.trans (congrArg some (by kernel_rfl))
  f314 := Tryz.func203.trans (congrArg some (by kernel_rfl))
  t0 := Tryz.underlying0
  a0 := Tryz.isAgg0
  z0 := Tryz.sizeOf0
  v0 := Tryz.zeroValue0
  t3 := Tryz.underlying3
  a3 := Tryz.isAgg3
  z3 := Tryz.sizeOf3
  v3 := Tryz.zeroValue3
  t4 := Tryz.underlying4
  a4 := Tryz.isAgg4
  z4 := Tryz.sizeOf4
  v4 := Tryz.zeroValue4
  t5 := Tryz.underlying5
  a5 := Tryz.isAgg5
  z5 := Tryz.sizeOf5
  v5 := Tryz.zeroValue5
  t9 := Tryz.underlying9
  a9 := Tryz.isAgg9
  z9 := Tryz.sizeOf9
  v9 := Tryz.zeroValue9
  t20 := Tryz.underlying20
  a20 := Tryz.isAgg20
  z20 := Tryz.sizeOf20
  v20 := Tryz.zeroValue20
  t21 := Tryz.underlying21
  a21 := Tryz.isAgg21
  z21 := Tryz.sizeOf21
  v21 := Tryz.zeroValue21
  t37 := Tryz.underlying174
  a37 := Tryz.isAgg174
  z37 := Tryz.sizeOf174
  v37 := Tryz.zeroValue174
  t46 := Tryz.underlying218
  a46 := Tryz.isAgg218
  z46 := Tryz.sizeOf218
  v46 := Tryz.zeroValue218
  t51 := Tryz.underlying219
  a51 := Tryz.isAgg219
  z51 := Tryz.sizeOf219
  v51 := Tryz.zeroValue219
  t70 := Tryz.underlying173
  a70 := Tryz.isAgg173
  z70 := Tryz.sizeOf173
  v70 := Tryz.zeroValue173
  t72 := Tryz.underlying176
  a72 := Tryz.isAgg176
  z72 := Tryz.sizeOf176
  v72 := Tryz.zeroValue176
  t75 := Tryz.underlying153
  a75 := Tryz.isAgg153
  z75 := Tryz.sizeOf153
  v75 := Tryz.zeroValue153
  t76 := Tryz.underlying154
  a76 := Tryz.isAgg154
  z76 := Tryz.sizeOf154
  v76 := Tryz.zeroValue154
  t105 := Tryz.underlying178
  a105 := Tryz.isAgg178
  z105 := Tryz.sizeOf178
  v105 := Tryz.zeroValue178
  t119 := Tryz.underlying194
  a119 := Tryz.isAgg194
  z119 := Tryz.sizeOf194
  t127 := Tryz.underlying208
  a127 := Tryz.isAgg208
  z127 := Tryz.sizeOf208
  v127 := Tryz.zeroValue208
  t138 := Tryz.underlying231
  a138 := Tryz.isAgg231
  z138 := Tryz.sizeOf231
  v138 := Tryz.zeroValue231
  t139 := Tryz.underlying232
  a139 := Tryz.isAgg232
  z139 := Tryz.sizeOf232
  v139 := Tryz.zeroValue232
  t146 := Tryz.underlying257
  a146 := Tryz.isAgg257
  z146 := Tryz.sizeOf257
  v146 := Tryz.zeroValue257
  t164 := Tryz.underlying227
  a164 := Tryz.isAgg227
  z164 := Tryz.sizeOf227
  v164 := Tryz.zeroValue227
  g1 := by kernel_rfl
  g3 := by kernel_rfl
  g4 := by kernel_rfl
  t80 := Tryz.underlying88
  a80 := Tryz.isAgg88
  z80 := Tryz.sizeOf88
  v80 := Tryz.zeroValue88
  i0 := by kernel_rfl
  i3 := by kernel_rfl
  i4 := by kernel_rfl
  i5 := by kernel_rfl
  i9 := by kernel_rfl
  i20 := by kernel_rfl
  i21 := by kernel_rfl
  i37 := by kernel_rfl
  i46 := by kernel_rfl
  i51 := by kernel_rfl
  i70 := by kernel_rfl
  i72 := by kernel_rfl
  i75 := by kernel_rfl
  i76 := by kernel_rfl
  i80 := by kernel_rfl
  i105 := by kernel_rfl
  i127 := by kernel_rfl
  i138 := by kernel_rfl
  i139 := by kernel_rfl
  i146 := by kernel_rfl
  i164 := by kernel_rfl
  m1 := by kernel_rfl
  s1_3 := fun w h => Go.Proofs.cell_of_shapedOpen_int (zero := #[.int .i64 0]) (t := 3) h (of_decide_eq_true (by kernel_rfl)) (by kernel_rfl) rfl (by kernel_rfl) (by kernel_rfl) Tryz.underlying3
  m3 := by kernel_rfl
  m4 := by kernel_rfl }
open Go.RowKit Go.Lib in
open Go.RowKit Go.Lib in
open Go.RowKit Go.Lib in
def Tryz.lays152_ren : Go.Shelf.Ren := ⟨fun | 152 => 139 | 137 => 173 | 119 => 174 | 224 => 175 | 225 => 176 | 217 => 189 | 266 => 202 | n => n, fun | 9 => 9 | 21 => 21 | 3 => 3 | 4 => 4 | 5 => 5 | 0 => 0 | 46 => 218 | n => n, fun | n => n⟩
theorem Tryz.lays152 : Go.Proofs.Lays.n152 Tryz.prog Tryz.lays152_ren := {
  mixed := by kernel_rfl
  f119 := Tryz.func174.trans (congrArg some (by kernel_rfl))
  f137 := Tryz.func173.trans (congrArg some (by kernel_rfl))
  f152 := Tryz.func139.trans (congrArg some (by kernel_rfl))
  f217 := Tryz.func189.trans (congrArg some (by kernel_rfl))
  f224 := Tryz.func175.trans (congrArg some (by kernel_rfl))
  f225 := Tryz.func176.trans (congrArg some (by kernel_rfl))
  f266 := Tryz.func202.trans (congrArg some (by kernel_rfl))
  t0 := Tryz.underlying0
  a0 := Tryz.isAgg0
  z0 := Tryz.sizeOf0
  v0 := Tryz.zeroValue0
  t3 := Tryz.underlying3
  a3 := Tryz.isAgg3
  z3 := Tryz.sizeOf3
  v3 := Tryz.zeroValue3
  t4 := Tryz.underlying4
  a4 := Tryz.isAgg4
  z4 := Tryz.sizeOf4
  v4 := Tryz.zeroValue4
  t5 := Tryz.underlying5
  a5 := Tryz.isAgg5
  z5 := Tryz.sizeOf5
  v5 := Tryz.zeroValue5
  t9 := Tryz.underlying9
  a9 := Tryz.isAgg9
  z9 := Tryz.sizeOf9
  v9 := Tryz.zeroValue9
  t21 := Tryz.underlying21
  a21 := Tryz.isAgg21
  z21 := Tryz.sizeOf21
  v21 := Tryz.zeroValue21
  t46 := Tryz.underlying218
  a46 := Tryz.isAgg218
  z46 := Tryz.sizeOf218
  v46 := Tryz.zeroValue218 }
open Go.RowKit Go.Lib in
theorem Tryz.strings_IndexRune_ascii (s : ByteArray) (r : Int) (w : World) (h0 : 0 ≤ r) (h1 : r < 128) :
    Calls Tryz.prog 139 #[.string s, .int .i32 r] w fun e w' => e = .returned (.int .i64 (Lib.indexByte s.data.toList r.toNat.toUInt8)) ∧ w' = w := Any.strings_IndexRune_ascii Tryz.lays152 s r w h0 h1
open Go.RowKit Go.Lib in
open Go.RowKit Go.Lib in
def Tryz.lays226_ren : Go.Shelf.Ren := ⟨fun | 226 => 140 | n => n, fun | 3 => 3 | 4 => 4 | n => n, fun | n => n⟩
theorem Tryz.lays226 : Go.Proofs.Lays.n226 Tryz.prog Tryz.lays226_ren := {
  mixed := by kernel_rfl
  f226 := Tryz.func140.trans (congrArg some (by kernel_rfl))
  t3 := Tryz.underlying3
  a3 := Tryz.isAgg3
  z3 := Tryz.sizeOf3
  v3 := Tryz.zeroValue3
  t4 := Tryz.underlying4
  a4 := Tryz.isAgg4
  z4 := Tryz.sizeOf4
  v4 := Tryz.zeroValue4 }
open Go.RowKit Go.Lib in
theorem Tryz.strings_shouldUseASCIISet (n : Int) (w : World) :
    Calls Tryz.prog 140 #[.int .i64 n] w fun e w' => e = .returned (.bool (decide (8 < n))) ∧ w' = w := Any.strings_shouldUseASCIISet Tryz.lays226 n w
def Tryz.lays153_ren : Go.Shelf.Ren := ⟨fun | 153 => 101 | 152 => 139 | 226 => 140 | 227 => 136 | 228 => 141 | 137 => 173 | 119 => 174 | 224 => 175 | 225 => 176 | 217 => 189 | 266 => 202 | n => n, fun | 9 => 9 | 3 => 3 | 4 => 4 | 5 => 5 | 21 => 21 | 117 => 188 | 116 => 187 | 0 => 0 | 46 => 218 | 124 => 191 | n => n, fun | n => n⟩
theorem Tryz.lays153 : Go.Proofs.Lays.n153 Tryz.prog Tryz.lays153_ren := {
  mixed := by kernel_rfl
  f119 := Tryz.func174.trans (congrArg some (by kernel_rfl))
  f137 := Tryz.func173.trans (congrArg some (by kernel_rfl))
  f152 := Tryz.func139.trans (congrArg some (by kernel_rfl))
  f153 := Tryz.func101.trans (congrArg some (by kernel_rfl))
  f217 := Tryz.func189.trans (congrArg some (by kernel_rfl))
  f224 := Tryz.func175.trans (congrArg some (by kernel_rfl))
  f225 := Tryz.func176.trans (congrArg some (by kernel_rfl))
  f226 := Tryz.func140.trans (congrArg some (by kernel_rfl))
  f227 := Tryz.func136.trans (congrArg some (by kernel_rfl))
  f228 := Tryz.func141.trans (congrArg some (by kernel_rfl))
  f266 := Tryz.func202.trans (congrArg some (by kernel_rfl))
  t0 := Tryz.underlying0
  a0 := Tryz.isAgg0
  z0 := Tryz.sizeOf0
  v0 := Tryz.zeroValue0
  t3 := Tryz.underlying3
  a3 := Tryz.isAgg3
  z3 := Tryz.sizeOf3
  v3 := Tryz.zeroValue3
  t4 := Tryz.underlying4
  a4 := Tryz.isAgg4
  z4 := Tryz.sizeOf4
  v4 := Tryz.zeroValue4
  t5 := Tryz.underlying5
  a5 := Tryz.isAgg5
  z5 := Tryz.sizeOf5
  v5 := Tryz.zeroValue5
  t9 := Tryz.underlying9
  a9 := Tryz.isAgg9
  z9 := Tryz.sizeOf9
  v9 := Tryz.zeroValue9
  t21 := Tryz.underlying21
  a21 := Tryz.isAgg21
  z21 := Tryz.sizeOf21
  v21 := Tryz.zeroValue21
  t46 := Tryz.underlying218
  a46 := Tryz.isAgg218
  z46 := Tryz.sizeOf218
  v46 := Tryz.zeroValue218
  t116 := Tryz.underlying187
  a116 := Tryz.isAgg187
  z116 := Tryz.sizeOf187
  t117 := Tryz.underlying188
  a117 := Tryz.isAgg188
  z117 := Tryz.sizeOf188
  v117 := Tryz.zeroValue188
  t124 := Tryz.underlying191
  a124 := Tryz.isAgg191
  z124 := Tryz.sizeOf191
  v124 := Tryz.zeroValue191 }
open Go.RowKit Go.Lib in
open Go.RowKit Go.Lib in
open Go.RowKit Go.Lib in
open Go.RowKit Go.Lib in
open Go.RowKit Go.Lib in
open Go.RowKit Go.Lib in
theorem Tryz.strings_IndexAny_long (hv116 : ∀ w, (zeroValue 187).run Tryz.prog w = .ok (.agg (Array.replicate 256 (.bool false))) w) (s chars : ByteArray) (w : World) (h2 : 2 ≤ chars.size) (h8 : 8 < s.size) (hs : s.size < 4294967281) (hcs : chars.size < 4294967281) (hascii : ∀ (j : Nat) b, chars.data.toList[j]? = some b → b.toNat < 128) :
    Calls Tryz.prog 101 #[.string s, .string chars] w fun e w' => e = .returned (.int .i64 (Lib.indexAny s.data.toList chars.data.toList)) ∧ w' = ((w.alloc (.cells (Lib.setCells chars.data.toList) 187)).alloc (.cells (Lib.setCells chars.data.toList) 187)) := Any.strings_IndexAny_long Tryz.lays153 hv116 (by kernel_rfl) s chars w h2 h8 hs hcs hascii
open Go.RowKit Go.Lib in
open Go.RowKit Go.Lib in
open Go.RowKit Go.Lib in
open Go.RowKit Go.Lib in
open Go.RowKit Go.Lib in
open Go.RowKit Go.Lib in
open Go.RowKit Go.Lib in
open Go.RowKit Go.Lib in
def Tryz.lays229_ren : Go.Shelf.Ren := ⟨fun | 229 => 49 | n => n, fun | 9 => 9 | 40 => 87 | 31 => 56 | 152 => 147 | 3 => 3 | 0 => 0 | 4 => 4 | 21 => 21 | 154 => 149 | n => n, fun | n => n⟩
theorem Tryz.lays229 : Go.Proofs.Lays.n229 Tryz.prog Tryz.lays229_ren := {
  mixed := by kernel_rfl
  f229 := Tryz.func49.trans (congrArg some (by kernel_rfl))
  t0 := Tryz.underlying0
  a0 := Tryz.isAgg0
  z0 := Tryz.sizeOf0
  v0 := Tryz.zeroValue0
  t3 := Tryz.underlying3
  a3 := Tryz.isAgg3
  z3 := Tryz.sizeOf3
  v3 := Tryz.zeroValue3
  t4 := Tryz.underlying4
  a4 := Tryz.isAgg4
  z4 := Tryz.sizeOf4
  v4 := Tryz.zeroValue4
  t9 := Tryz.underlying9
  a9 := Tryz.isAgg9
  z9 := Tryz.sizeOf9
  v9 := Tryz.zeroValue9
  t21 := Tryz.underlying21
  a21 := Tryz.isAgg21
  z21 := Tryz.sizeOf21
  v21 := Tryz.zeroValue21
  t31 := Tryz.underlying56
  a31 := Tryz.isAgg56
  z31 := Tryz.sizeOf56
  v31 := Tryz.zeroValue56
  t40 := Tryz.underlying87
  a40 := Tryz.isAgg87
  z40 := Tryz.sizeOf87
  v40 := Tryz.zeroValue87
  t152 := Tryz.underlying147
  a152 := Tryz.isAgg147
  z152 := Tryz.sizeOf147
  v152 := Tryz.zeroValue147
  t154 := Tryz.underlying149
  a154 := Tryz.isAgg149
  z154 := Tryz.sizeOf149
  v154 := Tryz.zeroValue149 }
open Go.RowKit Go.Lib in
open Go.RowKit Go.Lib in
open Go.RowKit Go.Lib in
open Go.RowKit Go.Lib in
open Go.RowKit Go.Lib in
open Go.RowKit Go.Lib in
theorem Tryz.strings_FieldsFunc_grows (g : Nat) (lb : Array Value) (eg : ∀ args w, (callFunc g args).run Tryz.prog w = .ok (.enter g args) w) (p : Nat → Bool) (s : ByteArray) (w : World) (hs : s.size ≤ 4294967296) (hp : PredGrows Tryz.prog g lb p w) :
    Calls Tryz.prog 49 #[.string s, .func (.func g) #[] lb] w fun e w' => ∃ A, e = .returned (.slice (some ⟨A, 0, none⟩) (Lib.goFieldsP p s).length (Lib.goFieldsP p s).length) ∧ w.heap.size ≤ A ∧
      w'.ownsRow w.heap.size 9 1 (.slice (some ⟨A, 0, none⟩) (Lib.goFieldsP p s).length (Lib.goFieldsP p s).length) (Lib.goFieldsP p s).length ((Lib.goFieldsP p s).map Value.string) ∧ Below w.heap.size w w' := Any.strings_FieldsFunc_grows Tryz.lays229 g lb eg p s w hs hp (by kernel_rfl) (by kernel_rfl)
end Go.Proofs

/-
  What the call of (*reader).number does at a word.
-/
namespace Go.Proofs.YtnddkmccagiclabGreatDoor
open Go.RowKit
def NumPost (R : Nat) (ws : List ByteArray) (b : Bool) (d : ByteArray) (w : World) (e : Ending) (w' : World) : Prop :=
  ∃ n : Int, e = .returned (.int .i64 n) ∧ ((numOf d = some n ∧ RS R ws b w') ∨ (numOf d = none ∧ RS R [] true w')) ∧ Kept R none w w'
theorem Gl.pow {w : World} (h : Gl w) : Lib.TabIs Tryz.prog w "internal/strconv.uint64pow10" .u64 Lib.pow10Tab := by
  obtain ⟨t, fr, h⟩ := h.pw
  have hg : Tryz.prog.globalNamed "internal/strconv.uint64pow10" = some 11 := by kernel_rfl
  simp only [Lib.TabIs, World.var?, hg, Option.bind_some, h]
set_option maxRecDepth 20000 in
set_option maxHeartbeats 1000000 in
theorem number_bad (R : Nat) (ws : List ByteArray) (b : Bool) (d : ByteArray) (w : World) (h : RS R ws b w) (hn : Hid (numOf d = none))
    (HA : Hid (Calls Tryz.prog 89 #[.string d] w fun e w' => ∃ (n : Int) (N : Nat), e = .returned (.tuple #[.int .i64 n, .iface 213 (.pointer (some ⟨N, 0, none⟩))]) ∧ Below w.heap.size w w')) :
    Calls Tryz.prog 55 #[.pointer (some ⟨R, 0, none⟩), .string d] w (NumPost R ws b d w) := by
  go_enter Tryz.func55, Tryz.ntmps55
  go_wp2_with fail
  refine HA.out.mono ?_
  rintro e w1 ⟨n, N, rfl, hb⟩
  have HF : Hid (Calls Tryz.prog 83 #[.pointer (some ⟨R, 0, none⟩)] w1 fun e w' => e = .returned (.tuple #[]) ∧ RS R [] true w' ∧ Kept R none w1 w') := fail_any R ws b w1 (h.below hb)
  have HB : Hid (Kept R none w w1) := Kept.of_below hb
  clear hb HA h
  go_wp2_with fail
  refine HF.out.mono ?_
  rintro e w2 ⟨rfl, hr, hk⟩
  have HR : Hid (RS R [] true w2 ∧ Kept R none w w2) := ⟨hr, HB.out.trans hk⟩
  clear hr hk HF HB
  go_wp2_with fail
  go_ret
  exact ⟨0, rfl, .inr ⟨hn.out, HR.out.1⟩, HR.out.2⟩
set_option maxRecDepth 20000 in
set_option maxHeartbeats 1000000 in
theorem number_ok (R : Nat) (ws : List ByteArray) (b : Bool) (d : ByteArray) (v : Int) (w : World) (h : RS R ws b w)
    (HA : Hid (Calls Tryz.prog 89 #[.string d] w fun e w' => e = .returned (.tuple #[.int .i64 v, .nilIface]) ∧ Below w.heap.size w w'))
    (HI : Hid (∀ W, Below w.heap.size w W → Calls Tryz.prog 90 #[.int .i64 v] W fun e w' => e = .returned (.string ⟨(Lib.itoa v).toArray⟩) ∧ Below W.heap.size W w'))
    (HO : Hid (numOf d = if (⟨(Lib.itoa v).toArray⟩ : ByteArray) = d then some v else none)) :
    Calls Tryz.prog 55 #[.pointer (some ⟨R, 0, none⟩), .string d] w (NumPost R ws b d w) := by
  obtain ⟨s, hs⟩ : ∃ s : ByteArray, s = ⟨(Lib.itoa v).toArray⟩ := ⟨_, rfl⟩
  rw [← hs] at HI HO
  clear hs
  by_cases hd : s = d
  · have hn : Hid (numOf d = some v) := by show _ = _; rw [HO.out, if_pos hd]
    subst hd
    clear HO
    go_enter Tryz.func55, Tryz.ntmps55
    go_wp2_with fail
    refine HA.out.mono ?_
    rintro e w1 ⟨rfl, hb⟩
    have HB : Hid (Below w.heap.size w w1) := hb
    clear hb HA
    go_wp2_with fail
    refine (HI.out _ HB.out).mono ?_
    rintro e w2 ⟨rfl, hb⟩
    have HB2 : Hid (Below w.heap.size w w2) := HB.out.trans (hb.mono HB.out.size)
    have HR : Hid (RS R ws b w2) := h.below HB2.out
    clear hb HB h HI
    go_wp2_with fail
    go_ret
    exact ⟨v, rfl, .inl ⟨hn.out, HR.out⟩, Kept.of_below HB2.out⟩
  · have hn : Hid (numOf d = none) := by show _ = _; rw [HO.out, if_neg hd]
    have hb1 : (s.toList == d.toList) = false := (Lib.bytes_beq_false_iff _ _).2 hd
    have hb2 : (!s.toList == d.toList) = true := by rw [hb1]; rfl
    clear HO hd
    go_enter Tryz.func55, Tryz.ntmps55
    go_wp2_with fail
    refine HA.out.mono ?_
    rintro e w1 ⟨rfl, hb⟩
    have HB : Hid (Below w.heap.size w w1) := hb
    clear hb HA
    go_wp2_with fail
    refine (HI.out _ HB.out).mono ?_
    rintro e w2 ⟨rfl, hb⟩
    have HB2 : Hid (Below w.heap.size w w2) := HB.out.trans (hb.mono HB.out.size)
    have HF : Hid (Calls Tryz.prog 83 #[.pointer (some ⟨R, 0, none⟩)] w2 fun e w' => e = .returned (.tuple #[]) ∧ RS R [] true w' ∧ Kept R none w2 w') := fail_any R ws b w2 (h.below HB2.out)
    clear hb HB h HI
    go_wp2_with fail
    refine HF.out.mono ?_
    rintro e w3 ⟨rfl, hr, hk⟩
    have HR : Hid (RS R [] true w3 ∧ Kept R none w w3) := ⟨hr, (Kept.of_below HB2.out).trans hk⟩
    clear hr hk HF HB2
    go_wp2_with fail
    go_ret
    exact ⟨0, rfl, .inr ⟨hn.out, HR.out.1⟩, HR.out.2⟩
theorem below_grew (w : World) (k : Nat) (os : Array Obj) : Below w.heap.size w (Sort.grow (w.drewN k) os) := by
  refine ⟨rfl, rfl, rfl, ?_, fun i hi => ?_⟩
  · show w.heap.size ≤ (w.heap ++ os).size
    simp
  · show (w.heap ++ os)[i]? = w.heap[i]?
    exact Array.getElem?_append_left hi
/-- (*reader).number. -/
theorem number_any (R : Nat) (ws : List ByteArray) (b : Bool) (d : ByteArray) (hd : d.size ≤ 1000000) (w : World) (hg : Gl w) (h : RS R ws b w) :
    Calls Tryz.prog 55 #[.pointer (some ⟨R, 0, none⟩), .string d] w (NumPost R ws b d w) := by
  cases ha : Lib.atoiAll d.data.toList with
  | ok v =>
    have hv := Lib.atoiAll_bounds ha
    refine number_ok R ws b d v w h ?_ (fun W hb => ?_) (by show _ = _; simp only [numOf, ha])
    · refine (Tryz.strconv_Atoi_ok d (by omega) v ha w).mono ?_
      rintro e w' ⟨rfl, rfl | ⟨t, rfl⟩⟩
      · exact ⟨rfl, Below.refl _ _⟩
      · exact ⟨rfl, Lib.bytesWorld_below _ _ _⟩
    · refine (Tryz.strconv_Itoa v hv.1 hv.2 W (hg.below hb).pow).mono ?_
      rintro e w' ⟨rfl, k, os, rfl⟩
      exact ⟨rfl, below_grew _ _ _⟩
  | «syntax» =>
    obtain ⟨te, pe, hs⟩ := hg.es
    have hc := hs.cell 0
    refine number_bad R ws b d w h (by show _ = _; simp only [numOf, ha]) ?_
    refine (Tryz.strconv_Atoi_syntax d (by omega) ha (.iface te pe) w (by simpa using hc) (.inr ⟨te, pe, rfl⟩)).mono ?_
    rintro e w' ⟨N, rfl, _, _, hb⟩
    exact ⟨0, N, rfl, hb⟩
  | range =>
    obtain ⟨te, pe, hs⟩ := hg.er
    have hc := hs.cell 0
    refine number_bad R ws b d w h (by show _ = _; simp only [numOf, ha]) ?_
    refine (Tryz.strconv_Atoi_range d (by omega) ha (.iface te pe) w (by simpa using hc) (.inr ⟨te, pe, rfl⟩)).mono ?_
    rintro e w' ⟨N, rfl, _, _, hb⟩
    exact ⟨_, N, rfl, hb⟩
end Go.Proofs.YtnddkmccagiclabGreatDoor
