/-
  What the call of (*reader).number does at a word.
-/
import Derived.Test.YtnddkmccagiclabGreatDoorLotbc83021122
import Derived.Test.YtnddkmccagiclabGreatDoorLot184d16af1b
import Derived.Test.YtnddkmccagiclabGreatDoorLot6a4b96f1ae
import Derived.Test.YtnddkmccagiclabGreatDoorLote6c3f9598a
namespace Go.Proofs.YtnddkmccagiclabGreatDoor
open Go.RowKit

def NumPost (R : Nat) (ws : List ByteArray) (b : Bool) (d : ByteArray) (w : World) (e : Ending) (w' : World) : Prop :=
  ∃ n : Int, e = .returned (.int .i64 n) ∧ ((numOf d = some n ∧ RS R ws b w') ∨ (numOf d = none ∧ RS R [] true w')) ∧ Kept R none w w'

theorem Gl.pow {w : World} (h : Gl w) : Lib.TabIs Tryz.prog w "internal/strconv.uint64pow10" .u64 Lib.pow10Tab := by
  obtain ⟨t, fr, h⟩ := h.pw
  have hg : Tryz.prog.globalNamed "internal/strconv.uint64pow10" = some 11 := by kernel_rfl
  simp only [Lib.TabIs, World.var?, hg, Option.bind_some, h]

set_option maxRecDepth 20000 in
set_option maxHeartbeats 1000000 in
theorem number_bad (R : Nat) (ws : List ByteArray) (b : Bool) (d : ByteArray) (w : World) (h : RS R ws b w) (hn : Hid (numOf d = none))
    (HA : Hid (Calls Tryz.prog 89 #[.string d] w fun e w' => ∃ (n : Int) (N : Nat), e = .returned (.tuple #[.int .i64 n, .iface 213 (.pointer (some ⟨N, 0, none⟩))]) ∧ Below w.heap.size w w')) :
    Calls Tryz.prog 55 #[.pointer (some ⟨R, 0, none⟩), .string d] w (NumPost R ws b d w) := by
  go_enter Tryz.func55, Tryz.ntmps55
  go_wp2_with fail
  refine HA.out.mono ?_
  rintro e w1 ⟨n, N, rfl, hb⟩
  have HF : Hid (Calls Tryz.prog 83 #[.pointer (some ⟨R, 0, none⟩)] w1 fun e w' => e = .returned (.tuple #[]) ∧ RS R [] true w' ∧ Kept R none w1 w') := fail_any R ws b w1 (h.below hb)
  have HB : Hid (Kept R none w w1) := Kept.of_below hb
  clear hb HA h
  go_wp2_with fail
  refine HF.out.mono ?_
  rintro e w2 ⟨rfl, hr, hk⟩
  have HR : Hid (RS R [] true w2 ∧ Kept R none w w2) := ⟨hr, HB.out.trans hk⟩
  clear hr hk HF HB
  go_wp2_with fail
  go_ret
  exact ⟨0, rfl, .inr ⟨hn.out, HR.out.1⟩, HR.out.2⟩

set_option maxRecDepth 20000 in
set_option maxHeartbeats 1000000 in
theorem number_ok (R : Nat) (ws : List ByteArray) (b : Bool) (d : ByteArray) (v : Int) (w : World) (h : RS R ws b w)
    (HA : Hid (Calls Tryz.prog 89 #[.string d] w fun e w' => e = .returned (.tuple #[.int .i64 v, .nilIface]) ∧ Below w.heap.size w w'))
    (HI : Hid (∀ W, Below w.heap.size w W → Calls Tryz.prog 90 #[.int .i64 v] W fun e w' => e = .returned (.string ⟨(Lib.itoa v).toArray⟩) ∧ Below W.heap.size W w'))
    (HO : Hid (numOf d = if (⟨(Lib.itoa v).toArray⟩ : ByteArray) = d then some v else none)) :
    Calls Tryz.prog 55 #[.pointer (some ⟨R, 0, none⟩), .string d] w (NumPost R ws b d w) := by
  obtain ⟨s, hs⟩ : ∃ s : ByteArray, s = ⟨(Lib.itoa v).toArray⟩ := ⟨_, rfl⟩
  rw [← hs] at HI HO
  clear hs
  by_cases hd : s = d
  · have hn : Hid (numOf d = some v) := by show _ = _; rw [HO.out, if_pos hd]
    subst hd
    clear HO
    go_enter Tryz.func55, Tryz.ntmps55
    go_wp2_with fail
    refine HA.out.mono ?_
    rintro e w1 ⟨rfl, hb⟩
    have HB : Hid (Below w.heap.size w w1) := hb
    clear hb HA
    go_wp2_with fail
    refine (HI.out _ HB.out).mono ?_
    rintro e w2 ⟨rfl, hb⟩
    have HB2 : Hid (Below w.heap.size w w2) := HB.out.trans (hb.mono HB.out.size)
    have HR : Hid (RS R ws b w2) := h.below HB2.out
    clear hb HB h HI
    go_wp2_with fail
    go_ret
    exact ⟨v, rfl, .inl ⟨hn.out, HR.out⟩, Kept.of_below HB2.out⟩
  · have hn : Hid (numOf d = none) := by show _ = _; rw [HO.out, if_neg hd]
    have hb1 : (s.toList == d.toList) = false := (Lib.bytes_beq_false_iff _ _).2 hd
    have hb2 : (!s.toList == d.toList) = true := by rw [hb1]; rfl
    clear HO hd
    go_enter Tryz.func55, Tryz.ntmps55
    go_wp2_with fail
    refine HA.out.mono ?_
    rintro e w1 ⟨rfl, hb⟩
    have HB : Hid (Below w.heap.size w w1) := hb
    clear hb HA
    go_wp2_with fail
    refine (HI.out _ HB.out).mono ?_
    rintro e w2 ⟨rfl, hb⟩
    have HB2 : Hid (Below w.heap.size w w2) := HB.out.trans (hb.mono HB.out.size)
    have HF : Hid (Calls Tryz.prog 83 #[.pointer (some ⟨R, 0, none⟩)] w2 fun e w' => e = .returned (.tuple #[]) ∧ RS R [] true w' ∧ Kept R none w2 w') := fail_any R ws b w2 (h.below HB2.out)
    clear hb HB h HI
    go_wp2_with fail
    refine HF.out.mono ?_
    rintro e w3 ⟨rfl, hr, hk⟩
    have HR : Hid (RS R [] true w3 ∧ Kept R none w w3) := ⟨hr, (Kept.of_below HB2.out).trans hk⟩
    clear hr hk HF HB2
    go_wp2_with fail
    go_ret
    exact ⟨0, rfl, .inr ⟨hn.out, HR.out.1⟩, HR.out.2⟩

theorem below_grew (w : World) (k : Nat) (os : Array Obj) : Below w.heap.size w (Sort.grow (w.drewN k) os) := by
  refine ⟨rfl, rfl, rfl, ?_, fun i hi => ?_⟩
  · show w.heap.size ≤ (w.heap ++ os).size
    simp
  · show (w.heap ++ os)[i]? = w.heap[i]?
    exact Array.getElem?_append_left hi

/-- (*reader).number. -/
theorem number_any (R : Nat) (ws : List ByteArray) (b : Bool) (d : ByteArray) (hd : d.size ≤ 1000000) (w : World) (hg : Gl w) (h : RS R ws b w) :
    Calls Tryz.prog 55 #[.pointer (some ⟨R, 0, none⟩), .string d] w (NumPost R ws b d w) := by
  cases ha : Lib.atoiAll d.data.toList with
  | ok v =>
    have hv := Lib.atoiAll_bounds ha
    refine number_ok R ws b d v w h ?_ (fun W hb => ?_) (by show _ = _; simp only [numOf, ha])
    · refine (Tryz.strconv_Atoi_ok d (by omega) v ha w).mono ?_
      rintro e w' ⟨rfl, rfl | ⟨t, rfl⟩⟩
      · exact ⟨rfl, Below.refl _ _⟩
      · exact ⟨rfl, Lib.bytesWorld_below _ _ _⟩
    · refine (Tryz.strconv_Itoa v hv.1 hv.2 W (hg.below hb).pow).mono ?_
      rintro e w' ⟨rfl, k, os, rfl⟩
      exact ⟨rfl, below_grew _ _ _⟩
  | «syntax» =>
    obtain ⟨te, pe, hs⟩ := hg.es
    have hc := hs.cell 0
    refine number_bad R ws b d w h (by show _ = _; simp only [numOf, ha]) ?_
    refine (Tryz.strconv_Atoi_syntax d (by omega) ha (.iface te pe) w (by simpa using hc) (.inr ⟨te, pe, rfl⟩)).mono ?_
    rintro e w' ⟨N, rfl, _, _, hb⟩
    exact ⟨0, N, rfl, hb⟩
  | range =>
    obtain ⟨te, pe, hs⟩ := hg.er
    have hc := hs.cell 0
    refine number_bad R ws b d w h (by show _ = _; simp only [numOf, ha]) ?_
    refine (Tryz.strconv_Atoi_range d (by omega) ha (.iface te pe) w (by simpa using hc) (.inr ⟨te, pe, rfl⟩)).mono ?_
    rintro e w' ⟨N, rfl, _, _, hb⟩
    exact ⟨_, N, rfl, hb⟩
end Go.Proofs.YtnddkmccagiclabGreatDoor

/-
  How a term's text is read part by part: the plain mathematics, and the call of (*reader).readTerm at a word that opens no brackets.
-/
namespace Go.Proofs.YtnddkmccagiclabGreatDoor
open Go.RowKit

theorem readN_len (f : List ByteArray → Option (Tm × List ByteArray)) (hf : ∀ ws p, f ws = some p → p.2.length ≤ ws.length) : ∀ (m : Nat) (ws : List ByteArray) (q : List Tm × List ByteArray), readN f m ws = some q → q.2.length ≤ ws.length
  | 0, ws, q, h => by simp [readN] at h; rw [← h]; exact Nat.le_refl _
  | m + 1, ws, q, h => by
    simp only [readN, Option.bind_eq_some_iff, Option.map_eq_some_iff] at h
    obtain ⟨p, hp, q', hq, rfl⟩ := h
    have := hf ws p hp
    have := readN_len f hf m _ _ hq
    simp only
    omega

/-- What stands in the brackets. -/
def inTm (n : Nat) : List ByteArray → Option (Tm × List ByteArray)
  | [] => none
  | y :: r1 => (kindAt y).bind fun k => (readT n k r1).bind fun p => (readN (readTm n) (partsOf (k : Int)) p.2).bind fun q => (behind clB q.2).map fun r4 => (⟨(k : Int), 0, p.1, anyY, q.1⟩, r4)

theorem readTm_open (n : Nat) (r : List ByteArray) : readTm (n + 1) (opB :: r) = inTm n r := by
  cases r <;> simp [readTm, inTm]

theorem readTm_word (n : Nat) (x : ByteArray) (r : List ByteArray) (hx : x ≠ opB) : readTm (n + 1) (x :: r) = readWord x r := by
  cases r <;> simp [readTm, hx]

theorem readT_len {n k : Nat} {ws : List ByteArray} {p : Ty × List ByteArray} (h : readT n k ws = some p) : p.2.length ≤ ws.length := by
  unfold readT at h
  split at h
  · exact Nat.le_of_lt (readTy_len n _ _ h)
  · cases h; exact Nat.le_refl _

theorem readWord_len {x : ByteArray} {r : List ByteArray} {p : Tm × List ByteArray} (h : readWord x r = some p) : p.2 = r := by
  unfold readWord at h
  split at h
  · cases h; rfl
  · split at h
    · obtain ⟨_, _, rfl⟩ := Option.map_eq_some_iff.1 h; rfl
    · obtain ⟨_, _, rfl⟩ := Option.map_eq_some_iff.1 h; rfl

theorem readTm_len : ∀ (n : Nat) (ws : List ByteArray) (p : Tm × List ByteArray), readTm n ws = some p → p.2.length < ws.length
  | 0, _, _, h => by simp [readTm] at h
  | n + 1, [], _, h => by simp [readTm] at h
  | n + 1, x :: r, p, h => by
    by_cases hx : x = opB
    · subst hx
      rw [readTm_open] at h
      cases r with
      | nil => cases h
      | cons y r1 =>
        simp only [inTm, Option.bind_eq_some_iff, Option.map_eq_some_iff] at h
        obtain ⟨k, _, p1, h1, q, h2, r4, h3, rfl⟩ := h
        have a1 := readT_len h1
        have a2 := readN_len (readTm n) (fun ws p hp => Nat.le_of_lt (readTm_len n ws p hp)) _ _ _ h2
        have a3 := behind_len h3
        simp only [List.length_cons]; omega
    · rw [readTm_word n x r hx] at h
      rw [readWord_len h]
      simp

theorem readTm_nil (n : Nat) : readTm n [] = none := by cases n <;> rfl

/-- So many of the parts have been read. -/
def InvN (f : List ByteArray → Option (Tm × List ByteArray)) (m : Nat) (ws0 : List ByteArray) (b : Bool) (j : Nat) (ws' : List ByteArray) (b' : Bool) (tms : List Tm) : Prop :=
  (b' = b ∧ readN f m ws0 = (readN f (m - j) ws').map (fun q => (tms ++ q.1, q.2))) ∨ (ws' = [] ∧ b' = true ∧ readN f m ws0 = none)

theorem InvN.start (f : List ByteArray → Option (Tm × List ByteArray)) (m : Nat) (ws : List ByteArray) (b : Bool) : InvN f m ws b 0 ws b [] := by
  refine .inl ⟨rfl, ?_⟩
  simp

theorem InvN.step {f : List ByteArray → Option (Tm × List ByteArray)} {m j : Nat} {ws0 ws' ws'' : List ByteArray} {b b' b'' : Bool} {tms : List Tm} {x : Tm} (hf : f [] = none) (hj : j < m) (h : InvN f m ws0 b j ws' b' tms)
    (hs : StepR ((f ws').map (·.2)) b' ws'' b'') (he : ∀ p, f ws' = some p → x = p.1) : InvN f m ws0 b (j + 1) ws'' b'' (tms ++ [x]) := by
  rcases h with ⟨rfl, h⟩ | ⟨rfl, rfl, h⟩
  · have e : m - j = (m - (j + 1)) + 1 := by omega
    rw [e] at h
    rcases hs with ⟨ho, rfl⟩ | ⟨ho, hn, hb⟩
    · obtain ⟨p, hp, rfl⟩ := Option.map_eq_some_iff.1 ho
      refine .inl ⟨rfl, ?_⟩
      rw [h, readN, hp, he p hp]
      simp only [Option.bind_some, Option.map_map]
      congr 1
      funext q
      simp
    · have hp : f ws' = none := Option.map_eq_none_iff.1 ho
      refine .inr ⟨hn, hb, ?_⟩
      rw [h, readN, hp]
      rfl
  · rw [hf] at hs
    rcases hs with ⟨ho, _⟩ | ⟨_, hn, hb⟩
    · cases ho
    · exact .inr ⟨hn, hb, h⟩

/-- The steps make the whole. -/
theorem inTm_steps {n k : Nat} {y : ByteArray} {r1 ws1 ws2 ws3 : List ByteArray} {b b1 b2 b3 : Bool} {t : Ty} {tms : List Tm} (hk : kindAt y = some k)
    (h1 : StepR ((readT n k r1).map (·.2)) b ws1 b1) (e1 : ∀ p, readT n k r1 = some p → t = p.1)
    (h2 : InvN (readTm n) (partsOf (k : Int)) ws1 b1 (partsOf (k : Int)) ws2 b2 tms) (h3 : StepR (behind clB ws2) b2 ws3 b3) (hdead : readT n k r1 = none → 0 < partsOf (k : Int)) :
    StepR ((inTm n (y :: r1)).map (·.2)) b ws3 b3 ∧ ∀ p, inTm n (y :: r1) = some p → (⟨(k : Int), 0, t, anyY, tms⟩ : Tm) = p.1 := by
  have dead : ∀ (o : Option (Tm × List ByteArray)), o = none → ws3 = [] → b3 = true → StepR (o.map (·.2)) b ws3 b3 ∧ ∀ p, o = some p → (⟨(k : Int), 0, t, anyY, tms⟩ : Tm) = p.1 := by
    rintro o rfl rfl rfl
    exact ⟨.inr ⟨rfl, rfl, rfl⟩, fun p h => by cases h⟩
  have nil3 : ws2 = [] → b2 = true → ws3 = [] ∧ b3 = true := by
    rintro rfl rfl
    rcases h3 with ⟨h, _⟩ | ⟨_, h, h'⟩
    · cases h
    · exact ⟨h, h'⟩
  have e : inTm n (y :: r1) = (readT n k r1).bind fun p => (readN (readTm n) (partsOf (k : Int)) p.2).bind fun q => (behind clB q.2).map fun r4 => (⟨(k : Int), 0, p.1, anyY, q.1⟩, r4) := by
    simp only [inTm, hk, Option.bind_some]
  rw [e]
  rcases h1 with ⟨ho1, rfl⟩ | ⟨ho1, hn1, hb1⟩
  · obtain ⟨p, hp, hp2⟩ := Option.map_eq_some_iff.1 ho1
    rw [hp, Option.bind_some, hp2]
    rcases h2 with ⟨rfl, h2⟩ | ⟨hw2, hb2, h2⟩
    · rw [Nat.sub_self, readN] at h2
      simp only [Option.map_some, List.append_nil] at h2
      rw [h2, Option.bind_some]
      rcases h3 with ⟨ho3, rfl⟩ | ⟨ho3, hn3, hb3⟩
      · rw [ho3]
        refine ⟨.inl ⟨rfl, rfl⟩, fun x hx => ?_⟩
        cases hx
        rw [e1 p hp]
      · rw [ho3]
        exact dead _ rfl hn3 hb3
    · rw [h2]
      obtain ⟨a, c⟩ := nil3 hw2 hb2
      exact dead _ rfl a c
  · have hp : readT n k r1 = none := Option.map_eq_none_iff.1 ho1
    have hm := hdead hp
    rw [hp]
    subst hn1 hb1
    have hno : readN (readTm n) (partsOf (k : Int)) [] = none := by
      obtain ⟨m, hm'⟩ : ∃ m, partsOf (k : Int) = m + 1 := ⟨partsOf (k : Int) - 1, by omega⟩
      rw [hm', readN, readTm_nil]
      rfl
    rcases h2 with ⟨rfl, h2⟩ | ⟨hw2, hb2, _⟩
    · rw [hno, Nat.sub_self, readN] at h2
      cases h2
    · obtain ⟨a, c⟩ := nil3 hw2 hb2
      exact dead _ rfl a c

/-- What the call leaves: a term's tree, and the state. -/
def TmPost (R : Nat) (b : Bool) (o : Option (Tm × List ByteArray)) (w : World) (e : Ending) (w' : World) : Prop :=
  ∃ x : TT, e = .returned (.agg #[.int .i64 x.k, .int .i64 x.n, .int .i64 x.t.k, .slice x.t.a x.t.l.length x.t.c, .int .i64 x.f.k, .slice x.f.a x.f.l.length x.f.c, .slice x.a x.l.length x.c]) ∧ x.In w' ∧ x.Bl (w.heap.size ≤ ·) ∧ Kept R none w w' ∧ After R b (o.map (·.2)) w' ∧ ∀ p, o = some p → x.tm = p.1

theorem box7_alloc (w : World) : Box7 (w.alloc (.cells #[.int .i64 0, .int .i64 0, .int .i64 0, .slice none 0 0, .int .i64 0, .slice none 0 0, .slice none 0 0] 27)) w.heap.size (tleaf 0 0) := by
  refine ⟨⟨?_, ?_, ?_, ?_, ?_, ?_, ?_⟩, fun i hi => ?_⟩
  · simp [go_sem, tleaf]
  · simp [go_sem, tleaf]
  · simp [go_sem, tleaf]
  · simp [go_sem, tleaf]
  · simp [go_sem, tleaf]
  · simp [go_sem, tleaf]
  · simp [go_sem, tleaf]
  · simp [go_sem]

/-- Each cell, right behind its store. -/
theorem put7_gets {w : World} {k : Nat} {x y : TT} (hbx : Box7 w k y) : (w.setCell ⟨k, 0, none⟩ (.int .i64 x.k)).cell? ⟨k, 0, none⟩ = some (.int .i64 x.k) ∧ ((w.setCell ⟨k, 0, none⟩ (.int .i64 x.k)).setCell ⟨k, 1, none⟩ (.int .i64 x.n)).cell? ⟨k, 1, none⟩ = some (.int .i64 x.n) ∧ (((w.setCell ⟨k, 0, none⟩ (.int .i64 x.k)).setCell ⟨k, 1, none⟩ (.int .i64 x.n)).setCell ⟨k, 2, none⟩ (.int .i64 x.t.k)).cell? ⟨k, 2, none⟩ = some (.int .i64 x.t.k) ∧ ((((w.setCell ⟨k, 0, none⟩ (.int .i64 x.k)).setCell ⟨k, 1, none⟩ (.int .i64 x.n)).setCell ⟨k, 2, none⟩ (.int .i64 x.t.k)).setCell ⟨k, 3, none⟩ (.slice x.t.a x.t.l.length x.t.c)).cell? ⟨k, 3, none⟩ = some (.slice x.t.a x.t.l.length x.t.c) ∧ (((((w.setCell ⟨k, 0, none⟩ (.int .i64 x.k)).setCell ⟨k, 1, none⟩ (.int .i64 x.n)).setCell ⟨k, 2, none⟩ (.int .i64 x.t.k)).setCell ⟨k, 3, none⟩ (.slice x.t.a x.t.l.length x.t.c)).setCell ⟨k, 4, none⟩ (.int .i64 x.f.k)).cell? ⟨k, 4, none⟩ = some (.int .i64 x.f.k) ∧ ((((((w.setCell ⟨k, 0, none⟩ (.int .i64 x.k)).setCell ⟨k, 1, none⟩ (.int .i64 x.n)).setCell ⟨k, 2, none⟩ (.int .i64 x.t.k)).setCell ⟨k, 3, none⟩ (.slice x.t.a x.t.l.length x.t.c)).setCell ⟨k, 4, none⟩ (.int .i64 x.f.k)).setCell ⟨k, 5, none⟩ (.slice x.f.a x.f.l.length x.f.c)).cell? ⟨k, 5, none⟩ = some (.slice x.f.a x.f.l.length x.f.c) ∧ (((((((w.setCell ⟨k, 0, none⟩ (.int .i64 x.k)).setCell ⟨k, 1, none⟩ (.int .i64 x.n)).setCell ⟨k, 2, none⟩ (.int .i64 x.t.k)).setCell ⟨k, 3, none⟩ (.slice x.t.a x.t.l.length x.t.c)).setCell ⟨k, 4, none⟩ (.int .i64 x.f.k)).setCell ⟨k, 5, none⟩ (.slice x.f.a x.f.l.length x.f.c)).setCell ⟨k, 6, none⟩ (.slice x.a x.l.length x.c)).cell? ⟨k, 6, none⟩ = some (.slice x.a x.l.length x.c) := by
  have h7 := hbx.at7
  have c0 := h7.c0
  have c1 := h7.c1
  have c2 := h7.c2
  have c3 := h7.c3
  have c4 := h7.c4
  have c5 := h7.c5
  have c6 := h7.c6
  simp only [Nat.zero_add] at c0 c1 c2 c3 c4 c5 c6
  exact ⟨(World.cell?_setCell_same _ _ _ c0), (World.cell?_setCell_same _ _ _ (set_get (j := 0) c1)), (World.cell?_setCell_same _ _ _ (set_get (j := 1) (set_get (j := 0) c2))), (World.cell?_setCell_same _ _ _ (set_get (j := 2) (set_get (j := 1) (set_get (j := 0) c3)))), (World.cell?_setCell_same _ _ _ (set_get (j := 3) (set_get (j := 2) (set_get (j := 1) (set_get (j := 0) c4))))), (World.cell?_setCell_same _ _ _ (set_get (j := 4) (set_get (j := 3) (set_get (j := 2) (set_get (j := 1) (set_get (j := 0) c5)))))), (World.cell?_setCell_same _ _ _ (set_get (j := 5) (set_get (j := 4) (set_get (j := 3) (set_get (j := 2) (set_get (j := 1) (set_get (j := 0) c6)))))))⟩

/-- What is left in the result's place is what is answered. -/
theorem tm_end {R k : Nat} {b b' : Bool} {o : Option (Tm × List ByteArray)} {ws' : List ByteArray} {w w2 : World} {x y : TT} (hbx : Box7 w2 k y) (hk : w.heap.size ≤ k) (hR : R < k) (hi : x.In w2) (hbl : x.Bl (k < ·)) (hkp : Kept R none w w2) (hr : RS R ws' b' w2) (hs : StepR (o.map (·.2)) b ws' b') (he : ∀ p, o = some p → x.tm = p.1) :
    TmPost R b o w (.returned (.agg #[.int .i64 x.k, .int .i64 x.n, .int .i64 x.t.k, .slice x.t.a x.t.l.length x.t.c, .int .i64 x.f.k, .slice x.f.a x.f.l.length x.f.c, .slice x.a x.l.length x.c])) (put7 w2 k x) ∧ At7 (put7 w2 k x) k 0 x :=
  ⟨⟨x, rfl, hi.keptR put7_kept (hbl.mono fun b h => by omega), hbl.mono (fun b h => by omega), hkp.new put7_kept hk, hs.after (hr.new put7_kept hR), he⟩, (put7_box hbx).at7⟩
end Go.Proofs.YtnddkmccagiclabGreatDoor

/-
  What the call of (*reader).readTerm does where no word is left, and at a word that opens no brackets.
-/
namespace Go.Proofs.YtnddkmccagiclabGreatDoor
open Go.RowKit

/-- The world behind the first box. -/
def w7 (w : World) : World := w.alloc (.cells #[.int .i64 0, .int .i64 0, .int .i64 0, .slice none 0 0, .int .i64 0, .slice none 0 0, .slice none 0 0] 27)

theorem w7_below (w : World) : Below w.heap.size w (w7 w) := (Below.refl _ _).alloc (Nat.le_refl _) _

theorem cut_yes (x : ByteArray) (d : List UInt8) (h : x.data.toList = 35 :: d) : Lib.trimPrefix x.data.toList [35] = d ∧ Lib.hasPrefix x.data.toList [35] = true := by
  rw [h]
  simp [Lib.trimPrefix, Lib.hasPrefix]

theorem cut_no (x : ByteArray) (h : ∀ d, x.data.toList ≠ 35 :: d) : Lib.hasPrefix x.data.toList [35] = false := by
  cases hx : x.data.toList with
  | nil => rfl
  | cons c r =>
    have : c ≠ 35 := fun e => h r (by rw [hx, e])
    have h2 : (35 == c) = false := by simpa using fun e => this e.symm
    simp [Lib.hasPrefix, List.isPrefixOf, h2]

/-- What a number's call leaves, in letters. -/
theorem num_letters {R : Nat} {ws : List ByteArray} {b : Bool} {d : ByteArray} {w : World} {e : Ending} {w' : World} (h : NumPost R ws b d w e w') : ∃ (n : Int) (ws' : List ByteArray) (b' : Bool), e = .returned (.int .i64 n) ∧ RS R ws' b' w' ∧ Kept R none w w' ∧
    (∀ K : Int → Tm, StepR (((numOf d).map fun n => (K n, ws)).map (·.2)) b ws' b' ∧ ∀ p, ((numOf d).map fun n => (K n, ws)) = some p → K n = p.1) := by
  obtain ⟨n, he, ⟨hn, hr⟩ | ⟨hn, hr⟩, hk⟩ := h
  · exact ⟨n, ws, b, he, hr, hk, fun K => ⟨.inl ⟨by rw [hn]; rfl, rfl⟩, fun p hp => by rw [hn] at hp; cases hp; rfl⟩⟩
  · exact ⟨n, [], true, he, hr, hk, fun K => ⟨.inr ⟨by rw [hn]; rfl, rfl, rfl⟩, fun p hp => by rw [hn] at hp; cases hp⟩⟩

set_option maxRecDepth 20000 in
set_option maxHeartbeats 2000000 in
/-- From the word on: the truths, the marks of a Ref, the numbers. -/
theorem readTerm_by (R : Nat) (x : ByteArray) (hxs : x.size ≤ 1000000) (r : List ByteArray) (b b1 : Bool) (o : Option (Tm × List ByteArray)) (w : World) (hg : Gl w) (hR : 12 ≤ R) (hRl : R < w.heap.size) (hx : x ≠ opB)
    (HN : Hid (Calls Tryz.prog 51 #[.pointer (some ⟨R, 0, none⟩)] (w7 w) fun e w' => e = .returned (.string x) ∧ RS R r b1 w' ∧ Kept R none (w7 w) w'))
    (HO : Hid (∀ (t : TT) ws' b', StepR ((readWord x r).map (·.2)) b1 ws' b' → (∀ p, readWord x r = some p → t.tm = p.1) → StepR (o.map (·.2)) b ws' b' ∧ ∀ p, o = some p → t.tm = p.1)) :
    Calls Tryz.prog 33 #[.pointer (some ⟨R, 0, none⟩)] w (TmPost R b o w) := by
  have hq : (x.toList == [40]) = false := by
    have := (Lib.bytes_beq_false_iff x opB).2 hx
    rw [opB, Lib.toList_data ⟨#[40]⟩] at this
    exact this
  have HG : Hid (Gl (w7 w)) := hg.below (w7_below w)
  clear hg hx
  go_enter Tryz.func33, Tryz.ntmps33
  go_wp2_with fail
  refine HN.out.mono ?_
  rintro e w1 ⟨rfl, hr, hk⟩
  have hne : w.heap.size ≠ R := by omega
  have hbx : Box7 w1 w.heap.size (tleaf 0 0) := (box7_alloc w).kept hk hne
  have hs1 : w.heap.size < w1.heap.size := hbx.lt
  have HD : Hid (RS R r b1 w1 ∧ Gl w1 ∧ Kept R none w w1 ∧ Box7 w1 w.heap.size (tleaf 0 0)) := ⟨hr, HG.out.kept hR hk, (Kept.of_below (w7_below w)).trans hk, hbx⟩
  clear hr hk HN HG hbx
  have HT : Hid (Calls Tryz.prog 53 #[.string x] w1 fun e w' => e = .returned (foundV (atWord x truthWs 0)) ∧ w' = w1) := truthOf_any x w1 HD.out.2.1
  cases ha : atWord x truthWs 0 with
  | some k =>
    rw [ha] at HT
    replace HT : Hid (Calls Tryz.prog 53 #[.string x] w1 fun e w' => e = .returned (.tuple #[.int .i64 (k : Int), .bool true]) ∧ w' = w1) := HT
    have HE : Hid (readWord x r = some (⟨3, (k : Int), anyY, anyY, []⟩, r)) := by show _ = _; simp [readWord, ha]
    clear ha
    have h7 := HD.out.2.2.2.at7
    have c0 := h7.c0
    have c1 := h7.c1
    have c2 := h7.c2
    have c3 := h7.c3
    have c4 := h7.c4
    have c5 := h7.c5
    have c6 := h7.c6
    simp only [Nat.zero_add, tleaf] at c0 c1 c2 c3 c4 c5 c6
    have f0 := HD.out.2.2.2.fz 0 (by omega)
    have f1 := HD.out.2.2.2.fz 1 (by omega)
    have f2 := HD.out.2.2.2.fz 2 (by omega)
    have f3 := HD.out.2.2.2.fz 3 (by omega)
    have f4 := HD.out.2.2.2.fz 4 (by omega)
    have f5 := HD.out.2.2.2.fz 5 (by omega)
    have f6 := HD.out.2.2.2.fz 6 (by omega)
    clear h7
    go_wp2_with fail
    refine HT.out.mono ?_
    rintro e w2 ⟨rfl, rfl⟩
    go_wp2_with fail
    have h9 := HO.out (tleaf 3 (k : Int)) r b1 (by rw [HE.out]; exact .inl ⟨rfl, rfl⟩) (fun p hp => by rw [HE.out] at hp; cases hp; exact tleaf_tm _ _)
    have hE := tm_end (x := tleaf 3 (k : Int)) (w := w) HD.out.2.2.2 (Nat.le_refl _) hRl (tleaf_in _ _ _) (tleaf_bl _ _ _) HD.out.2.2.1 HD.out.1 h9.1 h9.2
    refine bodyPost_ret (v := .agg #[.int .i64 3, .int .i64 (k : Int), .int .i64 0, .slice none 0 0, .int .i64 0, .slice none 0 0, .slice none 0 0]) ?_ rfl hE.1
    obtain ⟨d0, d1, d2, d3, d4, d5, d6⟩ := put7_gets (x := tleaf 3 (k : Int)) HD.out.2.2.2
    simp only [tleaf, List.length_nil] at d0 d1 d2 d3 d4 d5 d6
    simp [results, Tryz.results33, go_sem, d0, d1, d2, d3, d4, d5, d6]
  | none =>
    rw [ha] at HT
    replace HT : Hid (Calls Tryz.prog 53 #[.string x] w1 fun e w' => e = .returned (.tuple #[.int .i64 0, .bool false]) ∧ w' = w1) := HT
    by_cases hp : ∃ d, x.data.toList = 35 :: d
    · obtain ⟨d, hd⟩ := hp
      have HE : Hid (readWord x r = (numOf ⟨d.toArray⟩).map fun n => (⟨1, n, anyY, anyY, []⟩, r)) := by show _ = _; simp [readWord, ha, hd]
      have HC : Hid (Calls Tryz.prog 54 #[.string x, .string ⟨#[35]⟩] w1 fun e w' => e = .returned (.tuple #[.string ⟨d.toArray⟩, .bool true]) ∧ w' = w1) := by
        have := Tryz.strings_CutPrefix x ⟨#[35]⟩ w1
        have hc := cut_yes x d hd
        rw [show (⟨#[35]⟩ : ByteArray).data.toList = [35] from rfl, hc.1, hc.2] at this
        exact this
      have HM : Hid (Calls Tryz.prog 55 #[.pointer (some ⟨R, 0, none⟩), .string ⟨d.toArray⟩] w1 (NumPost R r b1 ⟨d.toArray⟩ w1)) := by
        refine number_any R r b1 ⟨d.toArray⟩ ?_ w1 HD.out.2.1 HD.out.1
        have : x.data.toList.length = x.size := Array.length_toList
        rw [hd] at this
        show d.toArray.size ≤ 1000000
        simp at this ⊢
        omega
      clear ha hd
      go_wp2_with fail
      refine HT.out.mono ?_
      rintro e w2 ⟨rfl, rfl⟩
      go_wp2_with fail
      refine HC.out.mono ?_
      rintro e w3 ⟨rfl, rfl⟩
      go_wp2_with fail
      refine HM.out.mono ?_
      intro e w4 hpost
      obtain ⟨n, ws', b', rfl, hr4, hk4, hs4⟩ := num_letters hpost
      have HB : Hid (Box7 w4 w.heap.size (tleaf 0 0) ∧ RS R ws' b' w4 ∧ Kept R none w w4) := ⟨HD.out.2.2.2.kept hk4 hne, hr4, HD.out.2.2.1.trans hk4⟩
      have HS : Hid (StepR ((readWord x r).map (·.2)) b1 ws' b' ∧ ∀ p, readWord x r = some p → (tleaf 1 n).tm = p.1) := by
        have := hs4 (fun n => ⟨1, n, anyY, anyY, []⟩)
        rw [HE.out, tleaf_tm]
        exact this
      have h7 := HB.out.1.at7
      have c0 := h7.c0
      have c1 := h7.c1
      have c2 := h7.c2
      have c3 := h7.c3
      have c4 := h7.c4
      have c5 := h7.c5
      have c6 := h7.c6
      simp only [Nat.zero_add, tleaf] at c0 c1 c2 c3 c4 c5 c6
      have f0 := HB.out.1.fz 0 (by omega)
      have f1 := HB.out.1.fz 1 (by omega)
      have f2 := HB.out.1.fz 2 (by omega)
      have f3 := HB.out.1.fz 3 (by omega)
      have f4 := HB.out.1.fz 4 (by omega)
      have f5 := HB.out.1.fz 5 (by omega)
      have f6 := HB.out.1.fz 6 (by omega)
      clear h7 hpost hr4 hk4 hs4 HM HC HT
      go_wp2_with fail
      have h9 := HO.out (tleaf 1 n) ws' b' HS.out.1 HS.out.2
      have hE := tm_end (x := tleaf 1 n) (w := w) HB.out.1 (Nat.le_refl _) hRl (tleaf_in _ _ _) (tleaf_bl _ _ _) HB.out.2.2 HB.out.2.1 h9.1 h9.2
      refine bodyPost_ret (v := .agg #[.int .i64 1, .int .i64 n, .int .i64 0, .slice none 0 0, .int .i64 0, .slice none 0 0, .slice none 0 0]) ?_ rfl hE.1
      obtain ⟨d0, d1, d2, d3, d4, d5, d6⟩ := put7_gets (x := tleaf 1 n) HB.out.1
      simp only [tleaf, List.length_nil] at d0 d1 d2 d3 d4 d5 d6
      simp [results, Tryz.results33, go_sem, d0, d1, d2, d3, d4, d5, d6]
    · have hp' : ∀ d, x.data.toList ≠ 35 :: d := fun d hd => hp ⟨d, hd⟩
      have HE : Hid (readWord x r = (numOf x).map fun n => (⟨2, n, anyY, anyY, []⟩, r)) := by
        show _ = _
        simp only [readWord, ha]
      have HC : Hid (Calls Tryz.prog 54 #[.string x, .string ⟨#[35]⟩] w1 fun e w' => ∃ y, e = .returned (.tuple #[.string y, .bool false]) ∧ w' = w1) := by
        refine (Tryz.strings_CutPrefix x ⟨#[35]⟩ w1).mono ?_
        rintro e w' ⟨rfl, rfl⟩
        exact ⟨⟨(Lib.trimPrefix x.data.toList [35]).toArray⟩, by rw [show (⟨#[35]⟩ : ByteArray).data.toList = [35] from rfl, cut_no x hp'], rfl⟩
      have HM : Hid (Calls Tryz.prog 55 #[.pointer (some ⟨R, 0, none⟩), .string x] w1 (NumPost R r b1 x w1)) := number_any R r b1 x hxs w1 HD.out.2.1 HD.out.1
      clear ha hp hp'
      go_wp2_with fail
      refine HT.out.mono ?_
      rintro e w2 ⟨rfl, rfl⟩
      go_wp2_with fail
      refine HC.out.mono ?_
      rintro e w3 ⟨y, rfl, rfl⟩
      go_wp2_with fail
      refine HM.out.mono ?_
      intro e w4 hpost
      obtain ⟨n, ws', b', rfl, hr4, hk4, hs4⟩ := num_letters hpost
      have HB : Hid (Box7 w4 w.heap.size (tleaf 0 0) ∧ RS R ws' b' w4 ∧ Kept R none w w4) := ⟨HD.out.2.2.2.kept hk4 hne, hr4, HD.out.2.2.1.trans hk4⟩
      have HS : Hid (StepR ((readWord x r).map (·.2)) b1 ws' b' ∧ ∀ p, readWord x r = some p → (tleaf 2 n).tm = p.1) := by
        have := hs4 (fun n => ⟨2, n, anyY, anyY, []⟩)
        rw [HE.out, tleaf_tm]
        exact this
      have h7 := HB.out.1.at7
      have c0 := h7.c0
      have c1 := h7.c1
      have c2 := h7.c2
      have c3 := h7.c3
      have c4 := h7.c4
      have c5 := h7.c5
      have c6 := h7.c6
      simp only [Nat.zero_add, tleaf] at c0 c1 c2 c3 c4 c5 c6
      have f0 := HB.out.1.fz 0 (by omega)
      have f1 := HB.out.1.fz 1 (by omega)
      have f2 := HB.out.1.fz 2 (by omega)
      have f3 := HB.out.1.fz 3 (by omega)
      have f4 := HB.out.1.fz 4 (by omega)
      have f5 := HB.out.1.fz 5 (by omega)
      have f6 := HB.out.1.fz 6 (by omega)
      clear h7 hpost hr4 hk4 hs4 HM HC HT
      go_wp2_with fail
      have h9 := HO.out (tleaf 2 n) ws' b' HS.out.1 HS.out.2
      have hE := tm_end (x := tleaf 2 n) (w := w) HB.out.1 (Nat.le_refl _) hRl (tleaf_in _ _ _) (tleaf_bl _ _ _) HB.out.2.2 HB.out.2.1 h9.1 h9.2
      refine bodyPost_ret (v := .agg #[.int .i64 2, .int .i64 n, .int .i64 0, .slice none 0 0, .int .i64 0, .slice none 0 0, .slice none 0 0]) ?_ rfl hE.1
      obtain ⟨d0, d1, d2, d3, d4, d5, d6⟩ := put7_gets (x := tleaf 2 n) HB.out.1
      simp only [tleaf, List.length_nil] at d0 d1 d2 d3 d4 d5 d6
      simp [results, Tryz.results33, go_sem, d0, d1, d2, d3, d4, d5, d6]

/-- (*reader).readTerm where no word is left. -/
theorem readTerm_nil (R n : Nat) (b : Bool) (w : World) (hg : Gl w) (hR : 12 ≤ R) (h : RS R [] b w) :
    Calls Tryz.prog 33 #[.pointer (some ⟨R, 0, none⟩)] w (TmPost R b (readTm n []) w) := by
  rw [readTm_nil]
  refine readTerm_by R ⟨#[]⟩ (by decide) [] b true none w hg hR h.lt (by decide) (next_nil R b _ (h.below (w7_below w))) ?_
  intro t ws' b' hs _
  have e : readWord ⟨#[]⟩ [] = none := by
    have e1 : atWord ⟨#[]⟩ truthWs 0 = none := by decide
    have e2 : numOf ⟨#[]⟩ = none := rfl
    simp only [readWord, e1, e2]
    rfl
  rw [e] at hs
  rcases hs with ⟨ho, _⟩ | ⟨_, h1, h2⟩
  · cases ho
  · exact ⟨.inr ⟨rfl, h1, h2⟩, fun p hp => by cases hp⟩

/-- (*reader).readTerm at a word that opens no brackets. -/
theorem readTerm_word (R n : Nat) (x : ByteArray) (hxs : x.size ≤ 1000000) (r : List ByteArray) (hx : x ≠ opB) (b : Bool) (w : World) (hg : Gl w) (hR : 12 ≤ R) (h : RS R (x :: r) b w) :
    Calls Tryz.prog 33 #[.pointer (some ⟨R, 0, none⟩)] w (TmPost R b (readTm (n + 1) (x :: r)) w) := by
  rw [readTm_word n x r hx]
  exact readTerm_by R x hxs r b b (readWord x r) w hg hR h.lt hx (next_cons R x r b _ (h.below (w7_below w))) (fun t ws' b' hs he => ⟨hs, he⟩)
end Go.Proofs.YtnddkmccagiclabGreatDoor

/-
  What the call of (*reader).readTermInBrackets does: where the word is none of the words, and while the parts are read.
-/
namespace Go.Proofs.YtnddkmccagiclabGreatDoor
open Go.RowKit

theorem behind_suf {x : ByteArray} {ws r : List ByteArray} (h : behind x ws = some r) : r <:+ ws := by
  cases ws with
  | nil => cases h
  | cons y s =>
    simp only [behind] at h
    split at h
    · cases h; exact List.suffix_cons _ _
    · cases h

theorem readTy_suf : ∀ (n : Nat) (ws : List ByteArray) (p : Ty × List ByteArray), readTy n ws = some p → p.2 <:+ ws
  | 0, _, _, h => by simp [readTy] at h
  | n + 1, [], _, h => by simp [readTy] at h
  | n + 1, x :: r, p, h => by
    simp only [readTy] at h
    split at h
    · simp only [Option.bind_eq_some_iff, Option.map_eq_some_iff] at h
      obtain ⟨r1, h1, q1, h2, q2, h3, r4, h4, rfl⟩ := h
      exact (behind_suf h4).trans ((readTy_suf n _ _ h3).trans ((readTy_suf n _ _ h2).trans ((behind_suf h1).trans (List.suffix_cons _ _))))
    · simp only [Option.map_eq_some_iff] at h
      obtain ⟨k, _, rfl⟩ := h
      exact List.suffix_cons _ _

theorem readT_suf {n k : Nat} {ws : List ByteArray} {p : Ty × List ByteArray} (h : readT n k ws = some p) : p.2 <:+ ws := by
  unfold readT at h
  split at h
  · exact readTy_suf n _ _ h
  · cases h; exact List.suffix_rfl

theorem readN_suf (f : List ByteArray → Option (Tm × List ByteArray)) (hf : ∀ ws p, f ws = some p → p.2 <:+ ws) : ∀ (m : Nat) (ws : List ByteArray) (q : List Tm × List ByteArray), readN f m ws = some q → q.2 <:+ ws
  | 0, ws, q, h => by simp [readN] at h; rw [← h]; exact List.suffix_rfl
  | m + 1, ws, q, h => by
    simp only [readN, Option.bind_eq_some_iff, Option.map_eq_some_iff] at h
    obtain ⟨p, hp, q', hq, rfl⟩ := h
    exact (readN_suf f hf m _ _ hq).trans (hf ws p hp)

theorem readTm_suf : ∀ (n : Nat) (ws : List ByteArray) (p : Tm × List ByteArray), readTm n ws = some p → p.2 <:+ ws
  | 0, _, _, h => by simp [readTm] at h
  | n + 1, [], _, h => by simp [readTm] at h
  | n + 1, x :: r, p, h => by
    by_cases hx : x = opB
    · subst hx
      rw [readTm_open] at h
      cases r with
      | nil => cases h
      | cons y r1 =>
        simp only [inTm, Option.bind_eq_some_iff, Option.map_eq_some_iff] at h
        obtain ⟨k, _, p1, h1, q, h2, r4, h3, rfl⟩ := h
        have a2 := readN_suf (readTm n) (fun ws p hp => readTm_suf n ws p hp) _ _ _ h2
        exact (behind_suf h3).trans (a2.trans ((readT_suf h1).trans ((List.suffix_cons _ _).trans (List.suffix_cons _ _))))
    · rw [readTm_word n x r hx] at h
      rw [readWord_len h]
      exact List.suffix_cons _ _

/-- No word is long. -/
def SmW (ws : List ByteArray) : Prop := ∀ x, x ∈ ws → x.size ≤ 1000000

theorem SmW.suf {a b : List ByteArray} (h : SmW b) (hs : a <:+ b) : SmW a := fun x hx => h x (hs.subset hx)

theorem SmW.step {o : Option (List ByteArray)} {b b' : Bool} {ws ws' : List ByteArray} (h : SmW ws) (hs : StepR o b ws' b') (ho : ∀ r, o = some r → r <:+ ws) : SmW ws' := by
  rcases hs with ⟨e, _⟩ | ⟨_, rfl, _⟩
  · exact h.suf (ho _ e)
  · intro x hx; cases hx

/-! ### What stays where other blocks are written -/

theorem RS.agree {R : Nat} {ws : List ByteArray} {b : Bool} {w w' : World} (h : RS R ws b w) (e : ∀ k, k ≤ R → w'.heap[k]? = w.heap[k]?) : RS R ws b w' := by
  obtain ⟨⟨a, c, hc, hn, hw⟩, h1, h2, h3, hz⟩ := h
  refine ⟨⟨a, c, (World.cell?_of_block (a := ⟨R, 0, none⟩) (e R (Nat.le_refl _))).trans hc, hn, fun hne => ?_⟩, (World.cell?_of_block (a := ⟨R, 1, none⟩) (e R (Nat.le_refl _))).trans h1, (World.frozen?_of_block (a := ⟨R, 0, none⟩) (e R (Nat.le_refl _))).trans h2, (World.frozen?_of_block (a := ⟨R, 1, none⟩) (e R (Nat.le_refl _))).trans h3, hz⟩
  obtain ⟨A, o, ha, hA, hx⟩ := hw hne
  exact ⟨A, o, ha, hA, fun i x hi => (World.cell?_of_block (a := ⟨A, o + i, none⟩) (e A (Nat.le_of_lt hA))).trans (hx i x hi)⟩

theorem Box7.agree {J : Nat} {w w' : World} {x : TT} (h : Box7 w J x) (e : w'.heap[J]? = w.heap[J]?) : Box7 w' J x :=
  ⟨h.at7.of fun i => World.cell?_of_block (a := ⟨J, i, none⟩) e, fun i hi => (World.frozen?_of_block (a := ⟨J, i, none⟩) e).trans (h.fz i hi)⟩

theorem Kept.agree {R : Nat} {w w2 w3 : World} (h : Kept R none w w2) (h1 : w3.os = w2.os) (h2 : w3.tape = w2.tape) (h3 : w3.output = w2.output) (h4 : w2.heap.size ≤ w3.heap.size) (e : ∀ k, k < w.heap.size → w3.heap[k]? = w2.heap[k]?) : Kept R none w w3 :=
  ⟨h1.trans h.os, h2.trans h.tape, h3.trans h.output, Nat.le_trans h.size h4, fun k hk a b => (e k hk).trans (h.block k hk a b)⟩

theorem Tr.In.agree {w w' : World} {t : Tr} {P : Nat → Prop} (h : t.In w) (hb : t.Bl P) (e : ∀ k, P k → w'.heap[k]? = w.heap[k]?) : t.In w' :=
  h.congr (P := P) (fun b hb o => World.cell?_of_block (a := ⟨b, o, none⟩) (e b hb)) hb

theorem Tryz.info27 : (Tryz.prog.info? 27).map (fun i => (i.zero, i.size, i.bytes)) = some (some (.agg #[.int .i64 0, .int .i64 0, .int .i64 0, .slice none 0 0, .int .i64 0, .slice none 0 0, .slice none 0 0]), 7, 104) := by kernel_rfl

set_option maxRecDepth 20000 in
set_option maxHeartbeats 2000000 in
/-- The word is none of the words. -/
theorem brack_bad (R : Nat) (y : ByteArray) (hy : kindAt y = none) (r : List ByteArray) (b b1 : Bool) (w : World) (hg : Gl w) (hR : 12 ≤ R) (hRl : R < w.heap.size)
    (HN : Hid (Calls Tryz.prog 51 #[.pointer (some ⟨R, 0, none⟩)] (w7 w) fun e w' => e = .returned (.string y) ∧ RS R r b1 w' ∧ Kept R none (w7 w) w')) :
    Calls Tryz.prog 52 #[.pointer (some ⟨R, 0, none⟩)] w (TmPost R b none w) := by
  have HG : Hid (Gl (w7 w)) := hg.below (w7_below w)
  clear hg
  go_enter Tryz.func52, Tryz.ntmps52
  go_wp2_with fail
  refine HN.out.mono ?_
  rintro e w1 ⟨rfl, hr, hk⟩
  have hne : w.heap.size ≠ R := by omega
  have HT : Hid (Calls Tryz.prog 84 #[.string y] w1 fun e w' => e = .returned (.tuple #[.int .i64 0, .bool false]) ∧ w' = w1) := by
    have := kindOf_any y w1 (HG.out.kept hR hk)
    rw [hy] at this
    exact this
  have HF : Hid (Calls Tryz.prog 83 #[.pointer (some ⟨R, 0, none⟩)] w1 fun e w' => e = .returned (.tuple #[]) ∧ RS R [] true w' ∧ Kept R none w1 w') := fail_any R r b1 w1 hr
  have HD : Hid (Kept R none w w1 ∧ Box7 w1 w.heap.size (tleaf 0 0)) := ⟨(Kept.of_below (w7_below w)).trans hk, (box7_alloc w).kept hk hne⟩
  clear hr hk HN HG hy
  go_wp2_with fail
  refine HT.out.mono ?_
  rintro e w2 ⟨rfl, rfl⟩
  go_wp2_with fail
  refine HF.out.mono ?_
  rintro e w4 ⟨rfl, hr4, hk4⟩
  have HB : Hid (Box7 w4 w.heap.size (tleaf 0 0) ∧ RS R [] true w4 ∧ Kept R none w w4) := ⟨HD.out.2.kept hk4 hne, hr4, HD.out.1.trans hk4⟩
  have h7 := HB.out.1.at7
  have c0 := h7.c0
  have c1 := h7.c1
  have c2 := h7.c2
  have c3 := h7.c3
  have c4 := h7.c4
  have c5 := h7.c5
  have c6 := h7.c6
  simp only [Nat.zero_add, tleaf] at c0 c1 c2 c3 c4 c5 c6
  have f0 := HB.out.1.fz 0 (by omega)
  have f1 := HB.out.1.fz 1 (by omega)
  have f2 := HB.out.1.fz 2 (by omega)
  have f3 := HB.out.1.fz 3 (by omega)
  have f4 := HB.out.1.fz 4 (by omega)
  have f5 := HB.out.1.fz 5 (by omega)
  have f6 := HB.out.1.fz 6 (by omega)
  clear h7 hr4 hk4 HF HT
  go_wp2_with fail
  have hE := tm_end (x := tleaf 0 0) (w := w) (o := none) (b := b) HB.out.1 (Nat.le_refl _) hRl (tleaf_in _ _ _) (tleaf_bl _ _ _) HB.out.2.2 HB.out.2.1 (.inr ⟨rfl, rfl, rfl⟩) (fun p hp => by cases hp)
  refine bodyPost_ret (v := .agg #[.int .i64 0, .int .i64 0, .int .i64 0, .slice none 0 0, .int .i64 0, .slice none 0 0, .slice none 0 0]) ?_ rfl hE.1
  obtain ⟨d0, d1, d2, d3, d4, d5, d6⟩ := put7_gets (x := tleaf 0 0) HB.out.1
  simp only [tleaf, List.length_nil] at d0 d1 d2 d3 d4 d5 d6
  simp [results, Tryz.results52, go_sem, d0, d1, d2, d3, d4, d5, d6]

set_option maxRecDepth 20000 in
set_option maxHeartbeats 1000000 in
/-- (*reader).readTerm at an open bracket. -/
theorem readTerm_open (R n : Nat) (r : List ByteArray) (b : Bool) (w : World) (hR : 12 ≤ R) (hg : Gl w) (h : RS R (opB :: r) b w)
    (ih : Hid (∀ (w : World), Gl w → RS R r b w → Calls Tryz.prog 52 #[.pointer (some ⟨R, 0, none⟩)] w (TmPost R b (inTm n r) w))) :
    Calls Tryz.prog 33 #[.pointer (some ⟨R, 0, none⟩)] w (TmPost R b (inTm n r) w) := by
  have HN : Hid (Calls Tryz.prog 51 #[.pointer (some ⟨R, 0, none⟩)] (w7 w) fun e w' => e = .returned (.string ⟨#[40]⟩) ∧ RS R r b w' ∧ Kept R none (w7 w) w') := next_cons R opB r b _ (h.below (w7_below w))
  have hRl := h.lt
  have HG : Hid (Gl (w7 w)) := hg.below (w7_below w)
  clear h hg
  go_enter Tryz.func33, Tryz.ntmps33
  go_wp2_with fail
  refine HN.out.mono ?_
  rintro e w1 ⟨rfl, hr, hk⟩
  have hne : w.heap.size ≠ R := by omega
  have hbx1 : Box7 w1 w.heap.size (tleaf 0 0) := (box7_alloc w).kept hk hne
  have hs1 : w.heap.size < w1.heap.size := hbx1.lt
  have HT : Hid (Calls Tryz.prog 52 #[.pointer (some ⟨R, 0, none⟩)] w1 (TmPost R b (inTm n r) w1)) := ih.out w1 (HG.out.kept hR hk) hr
  have HD : Hid (Kept R none w w1 ∧ Box7 w1 w.heap.size (tleaf 0 0)) := ⟨(Kept.of_below (w7_below w)).trans hk, hbx1⟩
  clear hk hr HN HG hbx1
  go_wp2_with fail
  refine HT.out.mono ?_
  rintro e w2 ⟨x, rfl, hi, hbl, hk2, hA, he⟩
  obtain ⟨ws', b', hr2, hs2⟩ := hA.letters
  have hbx := HD.out.2.kept hk2 hne
  have HE : Hid (TmPost R b (inTm n r) w (.returned (.agg #[.int .i64 x.k, .int .i64 x.n, .int .i64 x.t.k, .slice x.t.a x.t.l.length x.t.c, .int .i64 x.f.k, .slice x.f.a x.f.l.length x.f.c, .slice x.a x.l.length x.c])) (put7 w2 w.heap.size x)) :=
    (tm_end hbx (Nat.le_refl _) hRl hi (hbl.mono fun b hb => by omega) (HD.out.1.trans hk2) hr2 hs2 he).1
  have HGT : Hid _ := put7_gets (x := x) hbx
  have h7 := hbx.at7
  have c0 := h7.c0
  have c1 := h7.c1
  have c2 := h7.c2
  have c3 := h7.c3
  have c4 := h7.c4
  have c5 := h7.c5
  have c6 := h7.c6
  simp only [Nat.zero_add, tleaf] at c0 c1 c2 c3 c4 c5 c6
  have f0 := hbx.fz 0 (by omega)
  have f1 := hbx.fz 1 (by omega)
  have f2 := hbx.fz 2 (by omega)
  have f3 := hbx.fz 3 (by omega)
  have f4 := hbx.fz 4 (by omega)
  have f5 := hbx.fz 5 (by omega)
  have f6 := hbx.fz 6 (by omega)
  clear h7 hi hbl hk2 hA he hr2 hs2 hbx HT HD
  go_wp2_with fail
  refine bodyPost_ret (v := .agg #[.int .i64 x.k, .int .i64 x.n, .int .i64 x.t.k, .slice x.t.a x.t.l.length x.t.c, .int .i64 x.f.k, .slice x.f.a x.f.l.length x.f.c, .slice x.a x.l.length x.c]) ?_ rfl HE.out
  obtain ⟨d0, d1, d2, d3, d4, d5, d6⟩ := HGT.out
  simp [results, Tryz.results33, go_sem, d0, d1, d2, d3, d4, d5, d6]

/-- While the parts are read. -/
structure LB (R H J B k n : Nat) (ws1 : List ByteArray) (b1 : Bool) (t : Tr) (w : World) (j : Nat) (v : Value) (cs : List TT) (ws' : List ByteArray) (b' : Bool) (wr : World) : Prop where
  row : Row B v cs wr
  len : cs.length = j
  box : ∃ a c, v = .slice a cs.length c ∧ Box7 wr J ⟨(k : Int), 0, t, leaf 0, a, c, cs⟩
  res : Box7 wr H (tleaf 0 0)
  rs : RS R ws' b' wr
  kept : Kept R none w wr
  inv : InvN (readTm n) (partsOf (k : Int)) ws1 b1 j ws' b' (cs.map TT.tm)
  tin : t.In wr
  tbl : t.Bl (fun b => J < b ∧ b < B)
  gl : Gl wr
  sm : SmW ws'
  small : ws'.length < n
  size : B ≤ wr.heap.size

theorem LB.step {R H J B k n : Nat} {ws1 : List ByteArray} {b1 : Bool} {t : Tr} {w : World} {j : Nat} {v : Value} {cs : List TT} {ws' ws'' : List ByteArray} {b' b'' : Bool} {wr w2 w3 : World} {x : TT} {gg cap1 : Nat} {X : Obj}
    (h : LB R H J B k n ws1 b1 t w j v cs ws' b' wr) (hRH : R < H) (hHJ : H < J) (hJB : J < B) (hw : w.heap.size ≤ H) (hR : 12 ≤ R) (hj : j < partsOf (k : Int))
    (hin : x.In w2) (hbl : x.Bl (wr.heap.size ≤ ·)) (hk : Kept R none wr w2) (hr : RS R ws'' b'' w2) (hs : StepR ((readTm n ws').map (·.2)) b' ws'' b'') (he : ∀ p, readTm n ws' = some p → x.tm = p.1)
    (hown : w3.ownsRow B 27 7 (.slice (some ⟨gg, 0, none⟩) (cs.length + 1) cap1) (cs.length + 1) (cells7 cs ++ cells7 [x])) (hgrow : (w2.alloc X).grownBy w3 v.ownBlock) (hat : v.ownBlock = some gg ∨ gg = w2.heap.size + 1) :
    LB R H J B k n ws1 b1 t w (j + 1) (.slice (some ⟨gg, 0, none⟩) (cs.length + 1) cap1) (cs ++ [x]) ws'' b'' (w3.setCell ⟨J, 6, none⟩ (.slice (some ⟨gg, 0, none⟩) (cs.length + 1) cap1)) := by
  have hsz := h.size
  have hks := hk.size
  have hov : ∀ q, v.ownBlock = some q → B ≤ q ∧ q < wr.heap.size := h.row.lt
  have hrow2 : Row B v cs w2 := h.row.kept hk (by omega)
  obtain ⟨hrow3, hblk⟩ := hrow2.step hin (hbl.mono fun b hb => ⟨by omega, fun e => by have := (hov b e.symm).2; omega⟩) hown hgrow hat
  have hlow : ∀ q, q < B → w3.heap[q]? = w2.heap[q]? := fun q hq => hblk q (by omega) (fun e => by have := (hov q e.symm).1; omega)
  have hs3 : w2.heap.size ≤ w3.heap.size := by have := hgrow.size; simp at this; omega
  have hk23 : ∀ {u : World}, Kept R none u w2 → u.heap.size ≤ B → Kept R none u w3 := fun hu hB => hu.agree (hgrow.os.trans rfl) (hgrow.tape.trans rfl) (hgrow.output.trans rfl) hs3 (fun q hq => hlow q (by omega))
  have hkJ : Kept J none w3 (w3.setCell ⟨J, 6, none⟩ (.slice (some ⟨gg, 0, none⟩) (cs.length + 1) cap1)) := setR_kept
  obtain ⟨a, c, hv, hbox⟩ := h.box
  have hbox3 : Box7 w3 J ⟨(k : Int), 0, t, leaf 0, a, c, cs⟩ := (hbox.kept hk (by omega)).agree (hlow J hJB)
  have hw2 : Kept R none w w2 := h.kept.trans hk
  have hinv := h.inv.step (readTm_nil n) hj hs he
  refine ⟨hrow3.kept hkJ (by omega), by rw [List.length_append, h.len]; rfl, ⟨some ⟨gg, 0, none⟩, cap1, ?_, ?_⟩, ?_, ?_, ?_, ?_, ?_, h.tbl, ?_, ?_, ?_, ?_⟩
  · rw [List.length_append, List.length_singleton]
  · have := hbox3.set6 (a' := some ⟨gg, 0, none⟩) (c' := cap1) (l' := cs ++ [x])
    rw [List.length_append, List.length_singleton] at this
    exact this
  · exact ((h.res.kept hk (by omega)).agree (hlow H (by omega))).kept hkJ (by omega)
  · exact (hr.agree fun q hq => hlow q (by omega)).new hkJ (by omega)
  · exact (hk23 hw2 (by omega)).new hkJ (by omega)
  · rw [List.map_append]
    exact hinv
  · exact ((h.tin.keptR hk (h.tbl.mono fun b hb => by omega)).agree h.tbl (fun q hq => hlow q hq.2)).keptR hkJ (h.tbl.mono fun b hb => by omega)
  · exact ((h.gl.kept hR hk).of fun g hg => hlow g (by omega)).kept (by omega) hkJ
  · exact h.sm.step hs (fun r hr => by obtain ⟨p, hp, rfl⟩ := Option.map_eq_some_iff.1 hr; exact readTm_suf n _ _ hp)
  · have := h.small
    refine Nat.lt_of_le_of_lt (hs.len (N := ws'.length) fun r hr => ?_) this
    obtain ⟨p, hp, rfl⟩ := Option.map_eq_some_iff.1 hr
    exact Nat.le_of_lt (readTm_len n _ _ hp)
  · have := hkJ.size
    omega
end Go.Proofs.YtnddkmccagiclabGreatDoor
