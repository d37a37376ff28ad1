/-
  What the calls of term.typeText and term.termText answer at good types and terms.
-/
import Derived.Test.YtnddkmccagiclaaGreatDoorLotb171d508ce
import Derived.Test.YtnddkmccagiclaaGreatDoorLot141546800d
import Derived.Test.YtnddkmccagiclaaGreatDoorLot8f935494a2
import Derived.Shelf.Strings.OnBuilder
import Derived.Test.YtnddkmccagiclaaGreatDoorLot8a8b3f08ee
import Derived.Test.YtnddkmccagiclaaGreatDoorLotd69e488c8b
namespace Go.Proofs.YtnddkmccagiclaaGreatDoor
open Go.RowKit

theorem tyText_len : ∀ (n : Nat) (t : Ty), (tyText n t).length + 6 ≤ 6 * 2 ^ n
  | 0, _ => by simp [tyText]
  | n + 1, ⟨k, l⟩ => by
    have e : 2 ^ (n + 1) = 2 * 2 ^ n := by rw [Nat.pow_succ]; omega
    have hp : 1 ≤ 2 ^ n := Nat.one_le_two_pow
    simp only [tyText]
    split
    · have h1 := tyText_len n (l.getD 0 anyY)
      have h2 := tyText_len n (l.getD 1 anyY)
      simp only [List.length_append, List.length_cons, List.length_nil]
      omega
    · have : (typeW k).length ≤ 5 := by unfold typeW; repeat' split
                                        all_goals simp
      omega

/-- term.typeText. -/
theorem typeText_any (n : Nat) : n ≤ 10 → ∀ (t : Tr) (w : World), goodY n t.ty = true → t.In w → Gl w →
    Calls Tryz.prog 38 #[.agg #[.int .i64 t.k, .slice t.a t.l.length t.c]] w fun e w' => e = .returned (.string (bw (tyText n t.ty))) ∧ Below w.heap.size w w' := by
  induction n with
  | zero => intro _ t w h; simp [goodY] at h
  | succ n ih =>
    intro hn ⟨k, a, c, l⟩ w h hin hg
    rw [Tr.ty_mk] at h ⊢
    match l, h, hin with
    | [], h, hin =>
      have hk : k = 0 ∨ k = 1 ∨ k = 2 := by simpa [goodY, or_assoc] using h
      have hk3 : k ≠ 3 := by omega
      have e : tyText (n + 1) ⟨k, List.map Tr.ty []⟩ = typeW k := by simp [tyText, hk3]
      rw [e]
      exact typeText_leaf k hk a c 0 w hg
    | [x], h, hin => simp [goodY] at h
    | x :: y :: z :: r, h, hin => simp [goodY] at h
    | [x, y], h, hin =>
      simp only [List.map_cons, List.map_nil, goodY, Bool.and_eq_true, beq_iff_eq] at h
      obtain ⟨⟨rfl, hx⟩, hy⟩ := h
      obtain ⟨b, o, e0, x0, x1, hxi⟩ := hin.at 0 (by simp)
      obtain ⟨b', o', e1, y0, y1, hyi⟩ := hin.at 1 (by simp)
      rw [e0] at e1
      obtain ⟨rfl, rfl⟩ : b = b' ∧ o = o' := by simpa using e1
      subst e0
      have hp : (2 : Nat) ^ n ≤ 2 ^ 10 := Nat.pow_le_pow_right (by omega) (by omega)
      have lx := tyText_len n x.ty
      have ly := tyText_len n y.ty
      have h10 : (2 : Nat) ^ 10 = 1024 := by decide
      have := typeText_fun b o c x y (fun q => tyText n q.ty) (by show (tyText n x.ty).length ≤ _; omega) (by show (tyText n y.ty).length ≤ _; omega) w (by simpa using x0) (by simpa using x1) (by simpa using y0) (by simpa using y1)
        (fun q W hq hb => by
          rcases hq with rfl | rfl
          · exact ih (by omega) _ W hx (hxi.below hb) (hg.below hb)
          · exact ih (by omega) _ W hy (hyi.below hb) (hg.below hb))
      exact this

/-! ### Terms -/

theorem okNum_bound {ins : Nat} (hi : ins ≤ 1000) {k n : Int} (h : okNum 0 (ins : Int) k n = true) : -1000000 ≤ n ∧ n ≤ 1000000 := by
  unfold okNum at h
  split at h
  · simp only [Bool.and_eq_true, decide_eq_true_eq] at h; omega
  · split at h
    · simp only [Bool.and_eq_true, decide_eq_true_eq] at h; exact h
    · split at h
      · simp only [Bool.or_eq_true, beq_iff_eq] at h; omega
      · simp only [beq_iff_eq] at h; omega

/-- What is known of a good term. -/
theorem bindL_each {α : Type} {f : α → Nat → Option Nat} : ∀ {l : List α} {r r' : Nat}, bindL f l r = some r' → ∀ (j : Nat) (hj : j < l.length), ∃ q q', f l[j] q = some q'
  | [], _, _, _, j, hj => by simp at hj
  | x :: l, r, r', h, j, hj => by
    simp only [bindL] at h
    cases hq : f x r with
    | none => rw [hq] at h; cases h
    | some q =>
      rw [hq] at h
      cases j with
      | zero => exact ⟨r, q, hq⟩
      | succ j => exact bindL_each h j (by simpa using hj)

/-- Each of them is met with some room, at most that of the beginning. -/
theorem bindL_at {α : Type} {f : α → Nat → Option Nat} (hf : ∀ y q q', f y q = some q' → q' ≤ q) : ∀ {l : List α} {r r' : Nat}, bindL f l r = some r' → ∀ (j : Nat) (hj : j < l.length), ∃ q q', q ≤ r ∧ f l[j] q = some q'
  | [], _, _, _, j, hj => by simp at hj
  | x :: l, r, r', h, j, hj => by
    simp only [bindL] at h
    cases hq : f x r with
    | none => rw [hq] at h; cases h
    | some q =>
      rw [hq] at h
      cases j with
      | zero => exact ⟨r, q, Nat.le_refl _, hq⟩
      | succ j =>
        obtain ⟨a, b, h1, h2⟩ := bindL_at hf h j (by simpa using hj)
        have := hf x r q hq
        exact ⟨a, b, by omega, h2⟩

theorem mem_len {α β : Type} {g : α → List β} : ∀ {l : List α} {y : α}, y ∈ l → (g y).length ≤ (l.flatMap g).length
  | [], y, h => by cases h
  | x :: l, y, h => by
    simp only [List.flatMap_cons, List.length_append]
    rcases List.mem_cons.1 h with rfl | h
    · omega
    · have := mem_len (g := g) h
      omega

theorem bindL_sum (f : Tm → Nat → Option Nat) (g : Tm → List UInt8) (hf : ∀ y q q', f y q = some q' → q' ≤ q ∧ (g y).length ≤ 120 * (q - q')) : ∀ (l : List Tm) (r r' : Nat), bindL f l r = some r' → r' ≤ r ∧ (l.flatMap fun y => 32 :: g y).length ≤ 120 * (r - r') + l.length
  | [], r, r', h => by simp [bindL] at h; simp; omega
  | x :: l, r, r', h => by
    simp only [bindL] at h
    cases hq : f x r with
    | none => rw [hq] at h; cases h
    | some q =>
      rw [hq] at h
      have h1 := hf x r q hq
      have h2 := bindL_sum f g hf l q r' h
      simp only [List.flatMap_cons, List.length_append, List.length_cons]
      omega

theorem tmText_len : ∀ (n : Nat) (ins : Nat) (x : Tm) (r r' : Nat), ins + n ≤ 1000 → goodS 0 n (ins : Int) x r = some r' → r' < r ∧ (tmText n x).length ≤ 120 * (r - r')
  | 0, ins, x, r, r', _, h => by simp [goodS] at h
  | n + 1, ins, x, r, r', hi, h => by
    obtain ⟨m, q, hm, rfl, hok, hb⟩ := goodS_top h
    obtain rfl : n = m := by omega
    obtain ⟨h1, h9, hl, _, hnum⟩ := okTop_parts hok
    have hbd := okNum_bound (by omega) hnum
    have hit := itoa_short x.n hbd.1 hbd.2
    have hins : insOf x.k (ins : Int) = ((if x.k = 7 then ins + 1 else ins : Nat) : Int) := by unfold insOf; split <;> simp
    rw [hins] at hb
    have hs := bindL_sum _ (tmText n) (fun y q q' h => by
      have := tmText_len n _ y q q' (by split <;> omega) h
      exact ⟨by omega, this.2⟩) x.l q r' hb
    have hty := tyText_len 4 x.t
    have hp := parts_le x.k
    refine ⟨by omega, ?_⟩
    simp only [tmText]
    have hkw : (kindW x.k).length ≤ 4 := by unfold kindW; repeat' split
                                            all_goals simp
    have htw : (truthW x.n).length ≤ 3 := by unfold truthW; split <;> simp
    split
    · simp only [List.length_cons]; omega
    · split
      · omega
      · split
        · omega
        · simp only [List.length_append, List.length_cons, List.length_nil]
          split
          · simp only [List.length_cons]; omega
          · simp only [List.length_nil]; omega
end Go.Proofs.YtnddkmccagiclaaGreatDoor

/-
  What the calls of term.termText and term.Print answer.
-/
namespace Go.Proofs.YtnddkmccagiclaaGreatDoor
open Go.RowKit

theorem words_cell {w : World} (hg : Gl w) (k : Int) (h1 : 4 ≤ k) (h2 : k ≤ 9) : w.cell? ⟨1, k.toNat, none⟩ = some (.string (bw (kindW k))) := by
  rw [hg.wd.cell]
  obtain rfl | rfl | rfl | rfl | rfl | rfl : k = 4 ∨ k = 5 ∨ k = 6 ∨ k = 7 ∨ k = 8 ∨ k = 9 := by omega
  all_goals rfl

theorem truth_cell {w : World} (hg : Gl w) (n : Int) (h : n = 0 ∨ n = 1) : w.cell? ⟨0, n.toNat, none⟩ = some (.string (bw (truthW n))) := by
  rw [hg.tw.cell]
  rcases h with rfl | rfl
  all_goals rfl

theorem itoa_any (v : Int) (h0 : -1000000 ≤ v) (h1 : v ≤ 1000000) (W : World) (hg : Gl W) : Calls Tryz.prog 36 #[.int .i64 v] W fun e w' => e = .returned (.string (bw (Lib.itoa v))) ∧ Below W.heap.size W w' := by
  refine (Tryz.strconv_Itoa v (by omega) (by omega) W hg.pow).mono ?_
  rintro e w' ⟨rfl, k, os, rfl⟩
  exact ⟨rfl, below_grew _ _ _⟩

set_option maxRecDepth 20000 in
set_option maxHeartbeats 1000000 in
theorem termText_word (x : TT) (w : World) (hg : Gl w) (hk : x.k = 1 ∨ x.k = 2 ∨ x.k = 3) (h0 : -1000000 ≤ x.n) (h1 : x.n ≤ 1000000) (h3 : x.k = 3 → x.n = 0 ∨ x.n = 1) :
    Calls Tryz.prog 22 #[.agg #[.int .i64 x.k, .int .i64 x.n, .int .i64 x.t.k, .slice x.t.a x.t.l.length x.t.c, .int .i64 x.f.k, .slice x.f.a x.f.l.length x.f.c, .slice x.a x.l.length x.c]] w fun e w' => e = .returned (.string (bw (if x.k = 1 then 35 :: Lib.itoa x.n else if x.k = 2 then Lib.itoa x.n else truthW x.n))) ∧ Below w.heap.size w w' := by
  have hl := itoa_short x.n h0 h1
  have HI : Hid (∀ W, Gl W → Calls Tryz.prog 36 #[.int .i64 x.n] W fun e w' => e = .returned (.string (bw (Lib.itoa x.n))) ∧ Below W.heap.size W w') := itoa_any x.n h0 h1
  have hb0 : ∀ o, Below w.heap.size w (w.alloc o) := fun o => (Below.refl _ _).alloc (Nat.le_refl _) _
  have HG : Hid (∀ o, Gl (w.alloc o)) := fun o => hg.below (hb0 o)
  have hgs := hg.size
  by_cases k1 : x.k = 1
  · rw [if_pos k1]
    have e1 : (x.k == 1) = true := by simp [k1]
    have a1 : ∀ w, (Op.stringOp .add ⟨#[35]⟩ (bw (Lib.itoa x.n))).run Tryz.prog w = .ok (.string (bw (35 :: Lib.itoa x.n))) w := cat_run [35] (Lib.itoa x.n) (by simp; omega)
    clear hg hk h3 k1 hb0
    go_enter Tryz.func22, Tryz.ntmps22
    go_wp2_with fail
    refine (HI.out _ (HG.out _)).mono ?_
    rintro e w1 ⟨rfl, hb1⟩
    have hb2 : Below w.heap.size w w1 := ((Below.refl _ _).alloc (Nat.le_refl _) _).trans (hb1.mono (by simp))
    clear hb1
    go_wp2_with fail
    go_ret
    exact ⟨rfl, hb2⟩
  · rw [if_neg k1]
    have e1 : (x.k == 1) = false := by simpa using k1
    by_cases k2 : x.k = 2
    · rw [if_pos k2]
      have e2 : (x.k == 2) = true := by simp [k2]
      clear hg hk h3 k1 k2 hb0
      go_enter Tryz.func22, Tryz.ntmps22
      go_wp2_with fail
      refine (HI.out _ (HG.out _)).mono ?_
      rintro e w1 ⟨rfl, hb1⟩
      have hb2 : Below w.heap.size w w1 := ((Below.refl _ _).alloc (Nat.le_refl _) _).trans (hb1.mono (by simp))
      clear hb1
      go_wp2_with fail
      go_ret
      exact ⟨rfl, hb2⟩
    · rw [if_neg k2]
      have e2 : (x.k == 2) = false := by simpa using k2
      have k3 : x.k = 3 := by omega
      have e3 : (x.k == 3) = true := by simp [k3]
      have hc := truth_cell hg x.n (h3 k3)
      have i0 : (0 : Int) ≤ x.n := by have := h3 k3; omega
      have i1 : x.n < 2 := by have := h3 k3; omega
      have hne : (0 : Nat) < w.heap.size := by omega
      clear hg hk h3 k1 k2 k3 hb0
      go_enter Tryz.func22, Tryz.ntmps22
      go_wp2_with fail
      go_ret
      exact ⟨rfl, (Below.refl _ _).alloc (Nat.le_refl _) _⟩

set_option maxRecDepth 20000 in
set_option maxHeartbeats 4000000 in
theorem termText_parts (x : TT) (w : World) (hg : Gl w) (hx : x.In w) (h4 : 4 ≤ x.k) (h9 : x.k ≤ 9) (hln : x.l.length ≤ 3) (hty : tells x.k = true → goodY 4 x.t.ty = true)
    (tf : TT → List UInt8) (pre : List UInt8) (hpre : pre = 40 :: kindW x.k ++ (if tells x.k = true then 32 :: tyText 4 x.t.ty else []))
    (hlen : ∀ j (hj : j < x.l.length), (tf x.l[j]).length ≤ 1000000)
    (HC : Hid (∀ (j : Nat) (hj : j < x.l.length) (W : World), Gl W → x.l[j].In W → Calls Tryz.prog 22 #[.agg #[.int .i64 x.l[j].k, .int .i64 x.l[j].n, .int .i64 x.l[j].t.k, .slice x.l[j].t.a x.l[j].t.l.length x.l[j].t.c, .int .i64 x.l[j].f.k, .slice x.l[j].f.a x.l[j].f.l.length x.l[j].f.c, .slice x.l[j].a x.l[j].l.length x.l[j].c]] W fun e w' => e = .returned (.string (bw (tf x.l[j]))) ∧ Below W.heap.size W w')) :
    Calls Tryz.prog 22 #[.agg #[.int .i64 x.k, .int .i64 x.n, .int .i64 x.t.k, .slice x.t.a x.t.l.length x.t.c, .int .i64 x.f.k, .slice x.f.a x.f.l.length x.f.c, .slice x.a x.l.length x.c]] w fun e w' => e = .returned (.string (bw (pre ++ x.l.flatMap (fun y => 32 :: tf y) ++ [41]))) ∧ Below w.heap.size w w' := by
  have e1 : (x.k == 1) = false := by simp; omega
  have e2 : (x.k == 2) = false := by simp; omega
  have e3 : (x.k == 3) = false := by simp; omega
  have hc := words_cell hg x.k h4 h9
  have i0 : (0 : Int) ≤ x.k := by omega
  have i1 : x.k < 10 := by omega
  have hgs := hg.size
  have hne : (1 : Nat) < w.heap.size := by omega
  have hkw : (kindW x.k).length ≤ 4 := by unfold kindW; repeat' split
                                          all_goals simp
  have a1 : ∀ w, (Op.stringOp .add ⟨#[40]⟩ (bw (kindW x.k))).run Tryz.prog w = .ok (.string (bw (40 :: kindW x.k))) w := cat_run [40] (kindW x.k) (by simp; omega)
  have hb0 : ∀ o, Below w.heap.size w (w.alloc o) := fun o => (Below.refl _ _).alloc (Nat.le_refl _) _
  have HG : Hid (∀ o, Gl (w.alloc o)) := fun o => hg.below (hb0 o)
  have HX : Hid (∀ o, x.In (w.alloc o)) := fun o => hx.below (hb0 o)
  have HB : Hid (∀ o, Below w.heap.size w (w.alloc o)) := hb0
  obtain ⟨bt, hbt⟩ : ∃ b, tells x.k = b := ⟨_, rfl⟩
  have HK : Hid (∀ w, Calls Tryz.prog 37 #[.int .i64 x.k] w fun e w' => e = .returned (.bool bt) ∧ w' = w) := by
    intro w
    have := tells_any x.k w
    rw [hbt] at this
    exact this
  rw [hbt] at hpre hty
  have htl := tyText_len 4 x.t.ty
  obtain ⟨TY, hTY⟩ : ∃ l, tyText 4 x.t.ty = l := ⟨_, rfl⟩
  have HT : Hid (bt = true → ∀ W, Gl W → x.t.In W → Calls Tryz.prog 38 #[.agg #[.int .i64 x.t.k, .slice x.t.a x.t.l.length x.t.c]] W fun e w' => e = .returned (.string (bw TY)) ∧ Below W.heap.size W w') := by
    intro hb W hgW hW
    have := typeText_any 4 (by omega) x.t W (hty hb) hW hgW
    rw [hTY] at this
    exact this
  rw [hTY] at hpre htl
  have htl' : TY.length ≤ 90 := by omega
  have a2 : ∀ w, (Op.stringOp .add ⟨#[32]⟩ (bw TY)).run Tryz.prog w = .ok (.string (bw (32 :: TY))) w := cat_run [32] TY (by simp; omega)
  have a3 : ∀ w, (Op.stringOp .add (bw (40 :: kindW x.k)) (bw (32 :: TY))).run Tryz.prog w = .ok (.string (bw (40 :: kindW x.k ++ 32 :: TY))) w := cat_run (40 :: kindW x.k) (32 :: TY) (by simp; omega)
  obtain ⟨KW, hKW⟩ : ∃ l, kindW x.k = l := ⟨_, rfl⟩
  rw [hKW] at hpre hc hkw a1 a3
  have HPRE : Hid (pre = 40 :: KW ++ (if bt = true then 32 :: TY else [])) := hpre
  have hpl : pre.length ≤ 100 := by rw [hpre]; split <;> simp <;> omega
  have HLN : Hid (∀ j (hj : j < x.l.length), (tf x.l[j]).length ≤ 1000000) := hlen
  clear hg hx hty hbt hTY hKW hpre htl h4 h9 hlen hb0
  cases bt
  rotate_left
  focus
    have HP2 : Hid (pre = 40 :: KW ++ 32 :: TY) := HPRE.out
    rw [← HP2.out] at a3
    go_enter Tryz.func22, Tryz.ntmps22
    go_wp2_with fail
    refine (HK.out _).mono ?_
    rintro e w' ⟨rfl, hw'⟩
    subst hw'
    go_wp2_with fail
    refine (HT.out trivial _ (HG.out _) (HX.out _).t).mono ?_
    rintro e w2 ⟨rfl, hb2⟩
    have HE2 : Hid (Below w.heap.size w w2 ∧ x.In w2 ∧ Gl w2) := ⟨(HB.out _).trans (hb2.mono (by simp)), (HX.out _).below hb2, (HG.out _).below hb2⟩
    have c6 : w2.cell? ⟨w.heap.size, 6, none⟩ = some (.slice x.a x.l.length x.c) := cell_later hb2 (by simp [go_sem])
    clear hb2
    go_wp2_with fail
  rotate_left
  focus
    have HP2 : Hid (pre = 40 :: KW) := by have := HPRE.out; simpa [Hid] using this
    rw [← HP2.out] at a1
    go_enter Tryz.func22, Tryz.ntmps22
    go_wp2_with fail
    refine (HK.out _).mono ?_
    rintro e w2 ⟨rfl, hw'⟩
    have HE2 : Hid (Below w.heap.size w w2 ∧ x.In w2 ∧ Gl w2) := by subst hw'; exact ⟨HB.out _, HX.out _, HG.out _⟩
    have c6 : w2.cell? ⟨w.heap.size, 6, none⟩ = some (.slice x.a x.l.length x.c) := by subst hw'; simp [go_sem]
    clear hw'
    go_wp2_with fail
  all_goals
    clear a1 a2 a3
    go_loopg [3, 42] x.l.length (fun g tv i wr => ∃ (j : Nat) (acc : List UInt8), g + j = x.l.length ∧ i = .int .i64 (j : Int) ∧ tv = .string (bw acc) ∧ Hid (acc = pre ++ (x.l.take j).flatMap (fun y => 32 :: tf y) ∧ acc.length ≤ 100 + j * 1000001 ∧ Below w2.heap.size w2 wr))
    case atStart => exact ⟨0, pre, by omega, rfl, rfl, by simp, by omega, Below.refl _ _⟩
    case round =>
      obtain ⟨j, acc, hj, rfl, rfl, HQ⟩ := hrel
      by_cases hlt : j < x.l.length
      · obtain ⟨b, o, ea, h7', hxj⟩ := HE2.out.2.1.part j hlt
        have h8 := h7'.below HQ.out.2.2
        have d0 := h8.c0
        have d1 := h8.c1
        have d2 := h8.c2
        have d3 := h8.c3
        have d4 := h8.c4
        have d5 := h8.c5
        have d6 := h8.c6
        have hbp : ∀ o, Below wr.heap.size wr (wr.alloc o) := fun o => (Below.refl _ _).alloc (Nat.le_refl _) _
        have HP : Hid (∀ o, Calls Tryz.prog 22 #[.agg #[.int .i64 x.l[j].k, .int .i64 x.l[j].n, .int .i64 x.l[j].t.k, .slice x.l[j].t.a x.l[j].t.l.length x.l[j].t.c, .int .i64 x.l[j].f.k, .slice x.l[j].f.a x.l[j].f.l.length x.l[j].f.c, .slice x.l[j].a x.l[j].l.length x.l[j].c]] (wr.alloc o) fun e w' => e = .returned (.string (bw (tf x.l[j]))) ∧ Below (wr.alloc o).heap.size (wr.alloc o) w') := fun o => HC.out j hlt _ ((HE2.out.2.2.below HQ.out.2.2).below (hbp o)) ((hxj.below HQ.out.2.2).below (hbp o))
        have i2 : (j : Int) < (x.l.length : Int) := by omega
        have i3 : (0 : Int) ≤ (j : Int) := by omega
        have hl1 := HLN.out j hlt
        have hl2 := HQ.out.2.1
        obtain ⟨T, hT⟩ : ∃ T, tf x.l[j] = T := ⟨_, rfl⟩
        rw [hT] at HP hl1
        have HTT : Hid (tf x.l[j] = T) := hT
        have b1 : ∀ w, (Op.stringOp .add ⟨#[32]⟩ (bw T)).run Tryz.prog w = .ok (.string (bw (32 :: T))) w := cat_run [32] T (by simp; omega)
        have b2 : ∀ w, (Op.stringOp .add (bw acc) (bw (32 :: T))).run Tryz.prog w = .ok (.string (bw (acc ++ 32 :: T))) w := cat_run acc (32 :: T) (by simp; omega)
        have HEA : Hid (x.a = some ⟨b, o, none⟩) := ea
        have HJ : Hid (gk + j = x.l.length) := hj
        rw [ea]
        clear h7' hxj h8 ea hbp hT hj hl2 hl1
        go_wp2_with fail
        refine (HP.out _).mono ?_
        rintro e w3 ⟨rfl, hb3⟩
        have HF : Hid (acc ++ 32 :: T = pre ++ (x.l.take (j + 1)).flatMap (fun y => 32 :: tf y) ∧ (acc ++ 32 :: T).length ≤ 100 + (j + 1) * 1000001 ∧ Below w2.heap.size w2 w3) := by
          refine ⟨?_, ?_, HQ.out.2.2.trans (((Below.refl _ _).alloc (Nat.le_refl _) _).trans (hb3.mono (by simp)) |>.mono HQ.out.2.2.size)⟩
          · rw [List.take_succ_eq_append_getElem hlt, List.flatMap_append, ← List.append_assoc, ← HQ.out.1]
            simp [HTT.out]
          · have h1 := HQ.out.2.1
            have h2 := HLN.out j hlt
            rw [HTT.out] at h2
            simp only [List.length_append, List.length_cons]
            omega
        clear hb3 HQ HP d0 d1 d2 d3 d4 d5 d6
        go_wp2_with fail
        rw [← HEA.out]
        go_roundg (x.l.length - (j + 1))
        case measure => have := HJ.out; omega
        case rel => exact ⟨j + 1, acc ++ 32 :: T, by have := HJ.out; omega, by go_num, rfl, HF⟩
      · have hl2 := HQ.out.2.1
        have b1 : ∀ w, (Op.stringOp .add (bw acc) ⟨#[41]⟩).run Tryz.prog w = .ok (.string (bw (acc ++ [41]))) w := cat_run acc [41] (by simp; omega)
        have HF : Hid (acc ++ [41] = pre ++ x.l.flatMap (fun y => 32 :: tf y) ++ [41] ∧ Below w.heap.size w wr) := by
          refine ⟨?_, HE2.out.1.trans (HQ.out.2.2.mono HE2.out.1.size)⟩
          rw [HQ.out.1, List.take_of_length_le (by omega)]
        clear HQ hj hl2
        go_wp2_with fail
        go_ret
        exact ⟨by rw [← HF.out.1]; rfl, HF.out.2⟩
end Go.Proofs.YtnddkmccagiclaaGreatDoor

/-
  What the call of term.Print answers, at any term.
-/
namespace Go.Proofs.YtnddkmccagiclaaGreatDoor
open Go.RowKit

/-- term.termText. -/
theorem termText_any (n : Nat) : n ≤ 500 → ∀ (ins : Nat) (x : TT) (r r' : Nat) (w : World), ins + n ≤ 1000 → r ≤ 1000 → goodS 0 n (ins : Int) x.tm r = some r' → Gl w → x.In w →
    Calls Tryz.prog 22 #[.agg #[.int .i64 x.k, .int .i64 x.n, .int .i64 x.t.k, .slice x.t.a x.t.l.length x.t.c, .int .i64 x.f.k, .slice x.f.a x.f.l.length x.f.c, .slice x.a x.l.length x.c]] w fun e w' => e = .returned (.string (bw (tmText n x.tm))) ∧ Below w.heap.size w w' := by
  induction n with
  | zero => intro _ ins x r r' w _ _ h; simp [goodS] at h
  | succ n ih =>
    intro hn ins x r r' w hi hr h hg hx
    obtain ⟨m, q, hm, rfl, hok, hb⟩ := goodS_top h
    obtain rfl : n = m := by omega
    obtain ⟨h1, h9, hl, hty, hnum⟩ := okTop_parts hok
    rw [TT.tm_k] at h1 h9 hty hnum hl hb
    rw [TT.tm_n] at hnum
    rw [TT.tm_t, TT.tm_f] at hty
    rw [TT.tm_l, List.length_map] at hl
    have hbd := okNum_bound (by omega) hnum
    by_cases hk : x.k = 1 ∨ x.k = 2 ∨ x.k = 3
    · have e : tmText (n + 1) x.tm = if x.k = 1 then 35 :: Lib.itoa x.n else if x.k = 2 then Lib.itoa x.n else truthW x.n := by
        simp only [tmText, TT.tm_k, TT.tm_n]
        split
        · rfl
        · split
          · rfl
          · rw [if_pos (by omega)]
      rw [e]
      refine termText_word x w hg hk hbd.1 hbd.2 (fun h3 => ?_)
      rw [okNum, if_neg (by omega), if_neg (by omega), if_pos h3] at hnum
      simpa using hnum
    · have hp := parts_le x.k
      have e : tmText (n + 1) x.tm = (40 :: kindW x.k ++ (if tells x.k = true then 32 :: tyText 4 x.t.ty else [])) ++ x.l.flatMap (fun y => 32 :: tmText n y.tm) ++ [41] := by
        simp only [tmText, TT.tm_k, TT.tm_n, TT.tm_t, TT.tm_l]
        rw [if_neg (by omega), if_neg (by omega), if_neg (by omega), List.flatMap_map]
      rw [e]
      have hins : insOf x.k (ins : Int) = ((if x.k = 7 then ins + 1 else ins : Nat) : Int) := by unfold insOf; split <;> simp
      rw [hins, TT.tm_l, bindL_map] at hb
      refine termText_parts x w hg hx (by omega) h9 (by omega) (fun ht => ?_) (fun y => tmText n y.tm) _ rfl (fun j hj => ?_) (fun j hj W hgW hW => ?_)
      · simp only [okTypes, Bool.and_eq_true] at hty
        rw [ht, if_pos rfl] at hty
        exact hty.2
      · obtain ⟨q1, q2, hq1, hq⟩ := bindL_at (fun y q q' h => goodS_le 0 n _ _ q q' h) hb j hj
        have := tmText_len n (if x.k = 7 then ins + 1 else ins) x.l[j].tm q1 q2 (by split <;> omega) hq
        show (tmText n x.l[j].tm).length ≤ 1000000
        omega
      · obtain ⟨q1, q2, hq1, hq⟩ := bindL_at (fun y q q' h => goodS_le 0 n _ _ q q' h) hb j hj
        exact ih (by omega) (if x.k = 7 then ins + 1 else ins) x.l[j] q1 q2 W (by split <;> omega) (by omega) hq hgW hW

def PrPost (x : Tm) (w : World) (e : Ending) (w' : World) : Prop :=
  ∃ (s : ByteArray) (er : Int), e = .returned (.tuple #[.string s, .int .i64 er]) ∧ Below w.heap.size w w' ∧
    ((goodM 0 x = false ∧ s = bw [] ∧ er = 1) ∨ (goodM 0 x = true ∧ 1000 < (tmText 40 x).length ∧ s = bw [] ∧ er = 4) ∨ (goodM 0 x = true ∧ (tmText 40 x).length ≤ 1000 ∧ s = bw (tmText 40 x) ∧ er = 0))

theorem bw_size (a : List UInt8) : (bw a).size = a.length := by
  show a.toArray.size = a.length
  simp

set_option maxRecDepth 20000 in
set_option maxHeartbeats 1000000 in
/-- term.Print. -/
theorem print_any (x : TT) (w : World) (hg : Gl w) (hx : x.In w) (hnb : x.nb) :
    Calls Tryz.prog 7 #[.agg #[.int .i64 x.k, .int .i64 x.n, .int .i64 x.t.k, .slice x.t.a x.t.l.length x.t.c, .int .i64 x.f.k, .slice x.f.a x.f.l.length x.f.c, .slice x.a x.l.length x.c]] w (PrPost x.tm w) := by
  have hb0 : ∀ o, Below w.heap.size w (w.alloc o) := fun o => (Below.refl _ _).alloc (Nat.le_refl _) _
  obtain ⟨g, hgd⟩ : ∃ g, goodM 0 x.tm = g := ⟨_, rfl⟩
  have HGD : Hid (∀ o, Calls Tryz.prog 9 #[.agg #[.int .i64 x.k, .int .i64 x.n, .int .i64 x.t.k, .slice x.t.a x.t.l.length x.t.c, .int .i64 x.f.k, .slice x.f.a x.f.l.length x.f.c, .slice x.a x.l.length x.c], .int .i64 0] (w.alloc o) fun e w' => e = .returned (.bool g) ∧ Below (w.alloc o).heap.size (w.alloc o) w') := by
    intro o
    have := goodTm_any x 0 _ (hg.below (hb0 o)).gp (hx.below (hb0 o)) hnb
    rw [hgd] at this
    exact this
  have HGG : Hid (goodM 0 x.tm = g) := hgd
  have HG : Hid (Gl w ∧ x.In w) := ⟨hg, hx⟩
  have HB : Hid (∀ o, Below w.heap.size w (w.alloc o)) := hb0
  clear hg hx hnb hgd hb0
  cases g with
  | false =>
    go_enter Tryz.func7, Tryz.ntmps7
    go_wp2_with fail
    refine (HGD.out _).mono ?_
    rintro e w1 ⟨rfl, hb1⟩
    have HF : Hid (PrPost x.tm w (.returned (.tuple #[.string ⟨#[]⟩, .int .i64 1])) w1) := ⟨_, _, rfl, (HB.out _).trans (hb1.mono (by simp)), .inl ⟨HGG.out, rfl, rfl⟩⟩
    clear hb1
    go_wp2_with fail
    go_ret2
    exact HF.out
  | true =>
    obtain ⟨r', hr⟩ := Option.isSome_iff_exists.1 HGG.out
    have hr0 : goodS 0 40 ((0 : Nat) : Int) x.tm 40 = some r' := hr
    have hl := (tmText_len 40 0 x.tm 40 r' (by omega) hr0).2
    obtain ⟨T, hT⟩ : ∃ T, tmText 40 x.tm = T := ⟨_, rfl⟩
    have HTT : Hid (∀ W, Gl W → x.In W → Calls Tryz.prog 22 #[.agg #[.int .i64 x.k, .int .i64 x.n, .int .i64 x.t.k, .slice x.t.a x.t.l.length x.t.c, .int .i64 x.f.k, .slice x.f.a x.f.l.length x.f.c, .slice x.a x.l.length x.c]] W fun e w' => e = .returned (.string (bw T)) ∧ Below W.heap.size W w') := by
      intro W hgW hxW
      have := termText_any 40 (by omega) 0 x 40 r' W (by omega) (by omega) hr0 hgW hxW
      rw [hT] at this
      exact this
    have HT : Hid (tmText 40 x.tm = T) := hT
    have hsz := bw_size T
    have hsz2 : (bw T).size ≤ 100000 := by rw [hsz, ← hT]; omega
    by_cases hlong : 1000 < (bw T).size
    · have i1 : (1000 : Int) < ((bw T).size : Int) := by omega
      have HL : Hid (1000 < (tmText 40 x.tm).length) := by rw [HT.out, ← hsz]; exact hlong
      clear hl hr hr0 hT hsz hlong
      go_enter Tryz.func7, Tryz.ntmps7
      go_wp2_with fail
      refine (HGD.out _).mono ?_
      rintro e w1 ⟨rfl, hb1⟩
      have hbw : Below w.heap.size w w1 := (HB.out _).trans (hb1.mono (by simp))
      have h7 : At7 w1 w.heap.size 0 x := At7.below hb1 (by constructor <;> simp [go_sem])
      have c0 := h7.c0
      have c1 := h7.c1
      have c2 := h7.c2
      have c3 := h7.c3
      have c4 := h7.c4
      have c5 := h7.c5
      have c6 := h7.c6
      simp only [Nat.zero_add] at c0 c1 c2 c3 c4 c5 c6
      clear h7 hb1
      go_wp2_with fail
      refine (HTT.out _ (HG.out.1.below hbw) (HG.out.2.below hbw)).mono ?_
      rintro e w2 ⟨rfl, hb2⟩
      have HF : Hid (PrPost x.tm w (.returned (.tuple #[.string ⟨#[]⟩, .int .i64 4])) w2) := ⟨_, _, rfl, hbw.trans (hb2.mono hbw.size), .inr (.inl ⟨HGG.out, HL.out, rfl, rfl⟩)⟩
      clear hb2 hbw c0 c1 c2 c3 c4 c5 c6
      go_wp2_with fail
      go_ret2
      exact HF.out
    · have i1 : ¬ (1000 : Int) < ((bw T).size : Int) := by omega
      have hl9 : (tmText 40 x.tm).length ≤ 1000 := by rw [hT, ← hsz]; omega
      have HL : Hid ((tmText 40 x.tm).length ≤ 1000) := hl9
      clear hl9
      clear hl hr hr0 hT hsz hlong
      go_enter Tryz.func7, Tryz.ntmps7
      go_wp2_with fail
      refine (HGD.out _).mono ?_
      rintro e w1 ⟨rfl, hb1⟩
      have hbw : Below w.heap.size w w1 := (HB.out _).trans (hb1.mono (by simp))
      have h7 : At7 w1 w.heap.size 0 x := At7.below hb1 (by constructor <;> simp [go_sem])
      have c0 := h7.c0
      have c1 := h7.c1
      have c2 := h7.c2
      have c3 := h7.c3
      have c4 := h7.c4
      have c5 := h7.c5
      have c6 := h7.c6
      simp only [Nat.zero_add] at c0 c1 c2 c3 c4 c5 c6
      clear h7 hb1
      go_wp2_with fail
      refine (HTT.out _ (HG.out.1.below hbw) (HG.out.2.below hbw)).mono ?_
      rintro e w2 ⟨rfl, hb2⟩
      have HF : Hid (PrPost x.tm w (.returned (.tuple #[.string (bw T), .int .i64 0])) w2) := ⟨_, _, rfl, hbw.trans (hb2.mono hbw.size), .inr (.inr ⟨HGG.out, HL.out, by rw [HT.out], rfl⟩)⟩
      clear hb2 hbw c0 c1 c2 c3 c4 c5 c6
      go_wp2_with fail
      go_ret2
      exact HF.out
end Go.Proofs.YtnddkmccagiclaaGreatDoor

/-
  What the call of chaperoneref.typeText answers at good types.
-/
namespace Go.Proofs.YtnddkmccagiclaaGreatDoor
open Go.RowKit

set_option maxHeartbeats 1000000 in
theorem refText_leaf (k : Int) (hk : k = 0 ∨ k = 1 ∨ k = 2) (a : Option Addr) (c m : Nat) (w : World) :
    Calls Tryz.prog 41 #[.agg #[.int .i64 k, .slice a m c]] w fun e w' => e = .returned (.string (bw (typeW k))) ∧ Below w.heap.size w w' := by
  have hbw : ∀ o, Below w.heap.size w (w.alloc o) := fun o => (Below.refl _ _).alloc (Nat.le_refl _) _
  rcases hk with rfl | rfl | rfl
  · go_enter Tryz.func41, Tryz.ntmps41
    go_wp2_with fail
    go_ret
    exact ⟨rfl, hbw _⟩
  · go_enter Tryz.func41, Tryz.ntmps41
    go_wp2_with fail
    go_ret
    exact ⟨rfl, hbw _⟩
  · go_enter Tryz.func41, Tryz.ntmps41
    go_wp2_with fail
    go_ret
    exact ⟨rfl, hbw _⟩

set_option maxRecDepth 20000 in
set_option maxHeartbeats 2000000 in
theorem refText_fun (b o c : Nat) (x y : Tr) (tf : Tr → List UInt8) (hlx : (tf x).length ≤ 1000000) (hly : (tf y).length ≤ 1000000) (w : World)
    (x0 : w.cell? ⟨b, o, none⟩ = some (.int .i64 x.k)) (x1 : w.cell? ⟨b, o + 1, none⟩ = some (.slice x.a x.l.length x.c))
    (y0 : w.cell? ⟨b, o + 2, none⟩ = some (.int .i64 y.k)) (y1 : w.cell? ⟨b, o + 3, none⟩ = some (.slice y.a y.l.length y.c))
    (G : Hid (∀ (q : Tr) W, (q = x ∨ q = y) → Below w.heap.size w W → Calls Tryz.prog 41 #[.agg #[.int .i64 q.k, .slice q.a q.l.length q.c]] W fun e w' => e = .returned (.string (bw (tf q))) ∧ Below W.heap.size W w')) :
    Calls Tryz.prog 41 #[.agg #[.int .i64 3, .slice (some ⟨b, o, none⟩) 2 c]] w fun e w' => e = .returned (.string (bw ([40, 116, 111, 32] ++ tf x ++ [32] ++ tf y ++ [41]))) ∧ Below w.heap.size w w' := by
  have lb : b < w.heap.size := World.block_lt_of_cell? _ _ x0
  have hb0 : Below w.heap.size w (w.alloc (.cells #[.int .i64 3, .slice (some ⟨b, o, none⟩) 2 c] 24)).drew := ((Below.refl _ _).alloc (Nat.le_refl _) _).drew
  have hb1 : Below w.heap.size w (w.alloc (.cells #[.int .i64 3, .slice (some ⟨b, o, none⟩) 2 c] 24)) := ((Below.refl _ _).alloc (Nat.le_refl _) _)
  have a1 : ∀ w, (Op.stringOp .add ⟨#[40, 116, 111, 32]⟩ (bw (tf x))).run Tryz.prog w = .ok (.string (bw ([40, 116, 111, 32] ++ tf x))) w := rcat_run [40, 116, 111, 32] (tf x) (by simp; omega)
  have a2 : ∀ w, (Op.stringOp .add (bw ([40, 116, 111, 32] ++ tf x)) ⟨#[32]⟩).run Tryz.prog w = .ok (.string (bw ([40, 116, 111, 32] ++ tf x ++ [32]))) w := rcat_run ([40, 116, 111, 32] ++ tf x) [32] (by simp; omega)
  have a3 : ∀ w, (Op.stringOp .add (bw ([40, 116, 111, 32] ++ tf x ++ [32])) (bw (tf y))).run Tryz.prog w = .ok (.string (bw ([40, 116, 111, 32] ++ tf x ++ [32] ++ tf y))) w := rcat_run ([40, 116, 111, 32] ++ tf x ++ [32]) (tf y) (by simp; omega)
  have a4 : ∀ w, (Op.stringOp .add (bw ([40, 116, 111, 32] ++ tf x ++ [32] ++ tf y)) ⟨#[41]⟩).run Tryz.prog w = .ok (.string (bw ([40, 116, 111, 32] ++ tf x ++ [32] ++ tf y ++ [41]))) w := rcat_run ([40, 116, 111, 32] ++ tf x ++ [32] ++ tf y) [41] (by simp; omega)
  obtain ⟨v1, hv1⟩ : ∃ v, bw ([40, 116, 111, 32] ++ tf x) = v := ⟨_, rfl⟩
  obtain ⟨v2, hv2⟩ : ∃ v, bw ([40, 116, 111, 32] ++ tf x ++ [32]) = v := ⟨_, rfl⟩
  obtain ⟨v3, hv3⟩ : ∃ v, bw ([40, 116, 111, 32] ++ tf x ++ [32] ++ tf y) = v := ⟨_, rfl⟩
  obtain ⟨v4, hv4⟩ : ∃ v, bw ([40, 116, 111, 32] ++ tf x ++ [32] ++ tf y ++ [41]) = v := ⟨_, rfl⟩
  rw [hv1] at a1 a2
  rw [hv2] at a2 a3
  rw [hv3] at a3 a4
  rw [hv4] at a4
  rw [hv4]
  clear hv1 hv2 hv3 hv4
  go_enter Tryz.func41, Tryz.ntmps41
  go_wp2_with fail
  go_region_held3 (fun w' => Below w.heap.size w w' ∧ w'.cell? ⟨w.heap.size, 1, none⟩ = some (.slice (some ⟨b, o, none⟩) 2 c) ∧ w'.cell? ⟨b, o, none⟩ = some (.int .i64 x.k) ∧ w'.cell? ⟨b, o + 1, none⟩ = some (.slice x.a x.l.length x.c) ∧ w'.cell? ⟨b, o + 2, none⟩ = some (.int .i64 y.k) ∧ w'.cell? ⟨b, o + 3, none⟩ = some (.slice y.a y.l.length y.c))
    (first
      | exact ⟨hb0, by simp [go_sem], cell_later hb0 x0, cell_later hb0 x1, cell_later hb0 y0, cell_later hb0 y1⟩
      | (go_split_ands; exact ⟨Below.trans (by assumption) ((h53).mono (Below.size (by assumption))), cell_later h53 (by assumption), cell_later h53 (by assumption), cell_later h53 (by assumption), cell_later h53 (by assumption), cell_later h53 (by assumption)⟩)
      | go_keep)
    (first
      | (go_at_call 41; go_split_ands; refine (G.out _ _ ?_ (by assumption)).mono ?_; (first | exact .inl rfl | exact .inr rfl); rintro e w53 ⟨rfl, h53⟩))
  go_split_ands
  have hbe : Below w.heap.size w w53 := by assumption
  go_wp2_with fail
  go_ret
  exact ⟨rfl, hbe⟩

/-- typeText. -/
theorem refText_any (n : Nat) : n ≤ 10 → ∀ (t : Tr) (w : World), goodY n t.ty = true → t.In w →
    Calls Tryz.prog 41 #[.agg #[.int .i64 t.k, .slice t.a t.l.length t.c]] w fun e w' => e = .returned (.string (bw (tyText n t.ty))) ∧ Below w.heap.size w w' := by
  induction n with
  | zero => intro _ t w h; simp [goodY] at h
  | succ n ih =>
    intro hn ⟨k, a, c, l⟩ w h hin
    rw [Tr.ty_mk] at h ⊢
    match l, h, hin with
    | [], h, hin =>
      have hk : k = 0 ∨ k = 1 ∨ k = 2 := by simpa [goodY, or_assoc] using h
      have hk3 : k ≠ 3 := by omega
      have e : tyText (n + 1) ⟨k, List.map Tr.ty []⟩ = typeW k := by simp [tyText, hk3]
      rw [e]
      exact refText_leaf k hk a c 0 w
    | [x], h, hin => simp [goodY] at h
    | x :: y :: z :: r, h, hin => simp [goodY] at h
    | [x, y], h, hin =>
      simp only [List.map_cons, List.map_nil, goodY, Bool.and_eq_true, beq_iff_eq] at h
      obtain ⟨⟨rfl, hx⟩, hy⟩ := h
      obtain ⟨b, o, e0, x0, x1, hxi⟩ := hin.at 0 (by simp)
      obtain ⟨b', o', e1, y0, y1, hyi⟩ := hin.at 1 (by simp)
      rw [e0] at e1
      obtain ⟨rfl, rfl⟩ : b = b' ∧ o = o' := by simpa using e1
      subst e0
      have hp : (2 : Nat) ^ n ≤ 2 ^ 10 := Nat.pow_le_pow_right (by omega) (by omega)
      have lx := tyText_len n x.ty
      have ly := tyText_len n y.ty
      have h10 : (2 : Nat) ^ 10 = 1024 := by decide
      have := refText_fun b o c x y (fun q => tyText n q.ty) (by show (tyText n x.ty).length ≤ _; omega) (by show (tyText n y.ty).length ≤ _; omega) w (by simpa using x0) (by simpa using x1) (by simpa using y0) (by simpa using y1)
        (fun q W hq hb => by
          rcases hq with rfl | rfl
          · exact ih (by omega) _ W hx (hxi.below hb)
          · exact ih (by omega) _ W hy (hyi.below hb))
      exact this

end Go.Proofs.YtnddkmccagiclaaGreatDoor

/-
  What the call of strings.Join answers at this seat: the shelf's contract, laid by hand.
-/
namespace Go.Proofs
open Go.RowKit

def Tryz.lays156_ren : Go.Shelf.Ren := ⟨fun | 156 => 42 | 165 => 72 | 166 => 73 | 169 => 74 | 240 => 113 | 241 => 114 | 276 => 147 | 277 => 148 | n => n, fun | 31 => 57 | 37 => 123 | 70 => 125 | 72 => 127 | 164 => 207 | 75 => 130 | 76 => 131 | 80 => 92 | 127 => 176 | n => n, fun | n => n⟩
theorem Tryz.lays156 : Go.Proofs.Lays.n156 Tryz.prog Tryz.lays156_ren := {
  mixed := by kernel_rfl
  f156 := Tryz.func42.trans (congrArg some (by kernel_rfl))
  f165 := Tryz.func72.trans (congrArg some (by kernel_rfl))
  f166 := Tryz.func73.trans (congrArg some (by kernel_rfl))
  f169 := Tryz.func74.trans (congrArg some (by kernel_rfl))
  f240 := Tryz.func113.trans (congrArg some (by kernel_rfl))
  f241 := Tryz.func114.trans (congrArg some (by kernel_rfl))
  f276 := Tryz.func147.trans (congrArg some (by kernel_rfl))
  f277 := Tryz.func148.trans (congrArg some (by kernel_rfl))
  t0 := Tryz.underlying0
  a0 := Tryz.isAgg0
  z0 := Tryz.sizeOf0
  v0 := Tryz.zeroValue0
  t3 := Tryz.underlying3
  a3 := Tryz.isAgg3
  z3 := Tryz.sizeOf3
  v3 := Tryz.zeroValue3
  t4 := Tryz.underlying4
  a4 := Tryz.isAgg4
  z4 := Tryz.sizeOf4
  v4 := Tryz.zeroValue4
  t9 := Tryz.underlying9
  a9 := Tryz.isAgg9
  z9 := Tryz.sizeOf9
  v9 := Tryz.zeroValue9
  t20 := Tryz.underlying20
  a20 := Tryz.isAgg20
  z20 := Tryz.sizeOf20
  v20 := Tryz.zeroValue20
  t31 := Tryz.underlying57
  a31 := Tryz.isAgg57
  z31 := Tryz.sizeOf57
  v31 := Tryz.zeroValue57
  t37 := Tryz.underlying123
  a37 := Tryz.isAgg123
  z37 := Tryz.sizeOf123
  v37 := Tryz.zeroValue123
  t70 := Tryz.underlying125
  a70 := Tryz.isAgg125
  z70 := Tryz.sizeOf125
  v70 := Tryz.zeroValue125
  t72 := Tryz.underlying127
  a72 := Tryz.isAgg127
  z72 := Tryz.sizeOf127
  v72 := Tryz.zeroValue127
  t75 := Tryz.underlying130
  a75 := Tryz.isAgg130
  z75 := Tryz.sizeOf130
  v75 := Tryz.zeroValue130
  t76 := Tryz.underlying131
  a76 := Tryz.isAgg131
  z76 := Tryz.sizeOf131
  v76 := Tryz.zeroValue131
  t127 := Tryz.underlying176
  a127 := Tryz.isAgg176
  z127 := Tryz.sizeOf176
  v127 := Tryz.zeroValue176
  t164 := Tryz.underlying207
  a164 := Tryz.isAgg207
  z164 := Tryz.sizeOf207
  v164 := Tryz.zeroValue207 }
theorem Tryz.Builder_Extra_156 : Builder.Extra Tryz.prog Tryz.lays156_ren := {
  sizeBuilder := by kernel_rfl
  liesBuilder := by kernel_rfl
  t5 := Tryz.underlying5
  a5 := Tryz.isAgg5
  z5 := Tryz.sizeOf5
  v5 := Tryz.zeroValue5
  infoByte := by kernel_rfl
  cellsByte := by kernel_rfl
  sizeByte := by kernel_rfl
  neB5 := by decide }
/-- strings.Join. -/
theorem Tryz.strings_Join (bk o c : Nat) (xs : List ByteArray) (sep : ByteArray) (w : World)
    (hcells : ∀ (j : Nat) x, xs[j]? = some x → w.cell? ⟨bk, o + j, none⟩ = some (.string x))
    (hbk : bk < w.heap.size) (hN : xs.length ≤ 140737488355328) (hcap : xs.length ≤ c)
    (hlen : (Lib.join (xs.map (·.data.toList)) sep.data.toList).length ≤ 140737488355328) :
    Calls Tryz.prog 42 #[.slice (some ⟨bk, o, none⟩) xs.length c, .string sep] w fun e w' => e = .returned (.string ⟨(Lib.join (xs.map (·.data.toList)) sep.data.toList).toArray⟩) ∧ Below w.heap.size w w' :=
  Any.strings_Join Tryz.lays156 Tryz.Builder_Extra_156 bk o c xs sep w hcells hbk hN hcap hlen
end Go.Proofs

/-
  What the call of kind.Join answers at two right trees of which the first has at most a thousand levels.
-/
namespace Go.Proofs.YtnddkmccagiclaaGreatDoor
open Go.RowKit

/-- The list that is put off, and what is joined: the one pair, or none. -/
def OffJ (R : Nat) (x y : Tr) (k : Nat) (wr : World) : Prop :=
  wr.frozen? ⟨R + 1, 0, none⟩ = false ∧ wr.frozen? ⟨R, 0, none⟩ = false ∧ wr.frozen? ⟨R, 1, none⟩ = false ∧
  ((k = 1 ∧ wr.cell? ⟨R, 0, none⟩ = some (.int .i64 0) ∧ wr.cell? ⟨R, 1, none⟩ = some (.slice none 0 0) ∧ ∃ g cap, wr.cell? ⟨R + 1, 0, none⟩ = some (.slice (some ⟨g, 0, none⟩) 1 cap) ∧ wr.ownsRow (R + 2) 168 5 (.slice (some ⟨g, 0, none⟩) 1 cap) 1 [.int .i64 x.k, .slice x.a x.l.length x.c, .int .i64 y.k, .slice y.a y.l.length y.c, .pointer (some ⟨R, 0, none⟩)])
    ∨ (k = 0 ∧ (∃ t : Tr, t.ty = joinY x.ty y.ty ∧ t.In wr ∧ t.Bl (R < ·) ∧ wr.cell? ⟨R, 0, none⟩ = some (.int .i64 t.k) ∧ wr.cell? ⟨R, 1, none⟩ = some (.slice t.a t.l.length t.c)) ∧ ∃ a cap, wr.cell? ⟨R + 1, 0, none⟩ = some (.slice a 0 cap)))

set_option maxHeartbeats 1000000 in
/-- kind.Join. -/
theorem join_whole (x y : Tr) (w : World) (hx : x.In w) (hy : y.In w) (rx : x.right) (ry : y.right) (hh : x.hgt ≤ 1000) :
    Calls Tryz.prog 69 #[.agg #[.int .i64 x.k, .slice x.a x.l.length x.c], .agg #[.int .i64 y.k, .slice y.a y.l.length y.c]] w fun e w' => ∃ t : Tr, e = .returned (.agg #[.int .i64 t.k, .slice t.a t.l.length t.c]) ∧ t.ty = joinY x.ty y.ty ∧ t.In w' ∧ t.Bl (w.heap.size ≤ ·) ∧ Below w.heap.size w w' := by
  have HC : Hid (∀ (rp : Option Addr) (ib io : Nat) (w : World), x.In w → y.In w → w.cell? ⟨ib, io, none⟩ = some (.int .i64 0) → w.cell? ⟨ib, io + 1, none⟩ = some (.slice none 0 0) → w.frozen? ⟨ib, io, none⟩ = false → w.frozen? ⟨ib, io + 1, none⟩ = false →
    Calls Tryz.prog 109 #[.agg #[.int .i64 x.k, .slice x.a x.l.length x.c, .int .i64 y.k, .slice y.a y.l.length y.c, .pointer (some ⟨ib, io, none⟩)], .int .i64 1000, .pointer rp] w fun e w' => e = .returned (.tuple #[]) ∧ Joined x y ib io w w') := fun rp ib io w h1 h2 => join_any 1000 (Nat.le_refl _) x y rp ib io w h1 h2 rx ry hh
  go_enter Tryz.func69, Tryz.ntmps69
  go_wp2_with fail
  obtain ⟨W0, hW0⟩ : ∃ W0, W0 = (((w.alloc (Obj.cells #[.int .i64 x.k, .slice x.a x.l.length x.c] 24)).alloc (Obj.cells #[.int .i64 y.k, .slice y.a y.l.length y.c] 24)).alloc (Obj.cells #[.int .i64 0, .slice none 0 0] 24)) := ⟨_, rfl⟩
  have hs0 : W0.heap.size = w.heap.size + 1 + 1 + 1 := by rw [hW0]; simp
  have hbw0 : Below w.heap.size w W0 := by rw [hW0]; exact (((Below.refl _ _).alloc (Nat.le_refl _) _).alloc (by simp) _).alloc (by simp; omega) _
  have r0 : W0.cell? ⟨w.heap.size + 1 + 1, 0, none⟩ = some (.int .i64 0) := by rw [hW0]; simp [go_sem]
  have r1 : W0.cell? ⟨w.heap.size + 1 + 1, 1, none⟩ = some (.slice none 0 0) := by rw [hW0]; simp [go_sem]
  have r2 : ∀ o, W0.frozen? ⟨w.heap.size + 1 + 1, o, none⟩ = false := by intro o; rw [hW0]; simp [go_sem]
  rw [← hW0]
  clear hW0
  have u0 : ((W0.alloc (Obj.cells #[.int .i64 0, .slice none 0 0] 24)).alloc (Obj.cells #[.slice none 0 0] 164)).cell? ⟨w.heap.size + 1 + 1 + 1, 0, none⟩ = some (.int .i64 0) := by rw [← hs0]; simp [go_sem]
  have u1 : ((W0.alloc (Obj.cells #[.int .i64 0, .slice none 0 0] 24)).alloc (Obj.cells #[.slice none 0 0] 164)).cell? ⟨w.heap.size + 1 + 1 + 1, 1, none⟩ = some (.slice none 0 0) := by rw [← hs0]; simp [go_sem]
  have u2 : ∀ o, ((W0.alloc (Obj.cells #[.int .i64 0, .slice none 0 0] 24)).alloc (Obj.cells #[.slice none 0 0] 164)).frozen? ⟨w.heap.size + 1 + 1 + 1, o, none⟩ = false := by intro o; rw [← hs0]; simp [go_sem]
  refine (put_any (w.heap.size + 1 + 1 + 1 + 1) (.slice none 0 0) 0 [] x.k y.k x.a y.a x.l.length y.l.length x.c y.c (some ⟨w.heap.size + 1 + 1 + 1, 0, none⟩) _ (by rw [← hs0]; simp [go_sem]) (by rw [← hs0]; simp [go_sem]) (World.ownsRow_nil _ _ _ _) (by omega)).mono ?_
  rintro e w1 ⟨rfl, g, cap, hc1, hf1, ho1, _, hk1⟩
  have hb1 : Below (w.heap.size + 1 + 1 + 1) W0 w1 := by
    have h := hk1.below (by simp [Value.ownBlock]) (by simp [hs0])
    have h' : Below W0.heap.size W0 ((W0.alloc (Obj.cells #[.int .i64 0, .slice none 0 0] 24)).alloc (Obj.cells #[.slice none 0 0] 164)) := ((Below.refl _ _).alloc (Nat.le_refl _) _).alloc (by simp) _
    rw [hs0] at h'
    exact h'.trans (h.mono (by omega))
  have hblk := hk1.below (by simp [Value.ownBlock]) (by simp [hs0])
  have HO : Hid (OffJ (w.heap.size + 1 + 1 + 1) x y 1 w1) :=
    ⟨hf1, (hblk.frozen (p := ⟨w.heap.size + 1 + 1 + 1, 0, none⟩) (by simp)).trans (u2 0), (hblk.frozen (p := ⟨w.heap.size + 1 + 1 + 1, 1, none⟩) (by simp)).trans (u2 1), .inl ⟨rfl, (hblk.cell (p := ⟨w.heap.size + 1 + 1 + 1, 0, none⟩) (by simp)).trans u0, (hblk.cell (p := ⟨w.heap.size + 1 + 1 + 1, 1, none⟩) (by simp)).trans u1, g, cap, by simpa using hc1, by simpa using ho1⟩⟩
  clear hc1 hf1 ho1 hk1 u0 u1 u2 hblk
  have HR0 : Hid (W0.cell? ⟨w.heap.size + 1 + 1, 0, none⟩ = some (.int .i64 0) ∧ W0.cell? ⟨w.heap.size + 1 + 1, 1, none⟩ = some (.slice none 0 0) ∧ ∀ o, W0.frozen? ⟨w.heap.size + 1 + 1, o, none⟩ = false) := ⟨r0, r1, r2⟩
  have HS0 : Hid (W0.heap.size = w.heap.size + 1 + 1 + 1) := hs0
  clear r0 r1 r2 hs0
  go_wp2_with fail
  go_loopg [] 1 (fun k wr => Hid (OffJ (w.heap.size + 1 + 1 + 1) x y k wr) ∧ Below (w.heap.size + 1 + 1 + 1) W0 wr)
  case atStart => exact ⟨HO, hb1⟩
  case round =>
    obtain ⟨HR, hbr⟩ := hrel
    have hbwr : Below w.heap.size w wr := hbw0.trans (hbr.mono (by omega))
    obtain ⟨hfr, g0, g1, ⟨rfl, z0, z1, g, cap, hc, ho⟩ | ⟨rfl, ⟨t, ht, hin, hbl, t0, t1⟩, a, cap, hc⟩⟩ := HR.out
    · have c0 := ho.cellAt 0 (by omega)
      have c1 := ho.cellAt 1 (by omega)
      have c2 := ho.cellAt 2 (by omega)
      have c3 := ho.cellAt 3 (by omega)
      have c4 := ho.cellAt 4 (by omega)
      simp only [List.getElem?_cons_zero, List.getElem?_cons_succ] at c0 c1 c2 c3 c4
      have hcap : 1 ≤ cap := by
        rcases ho.2 with ⟨h, _⟩ | ⟨g', cap', cur, h, _, _, h1, _⟩
        · cases h
        · cases h; exact h1
      have hlr : w.heap.size + 1 + 1 + 1 + 1 < wr.heap.size := World.block_lt_of_cell? _ _ hc
      clear ho HR HO
      go_wp2_with fail
      refine (empty_any (w.heap.size + 1 + 1 + 1 + 1) (some ⟨g, 0, none⟩) 1 cap _ hc).mono ?_
      rintro e w' ⟨rfl, rfl⟩
      go_wp2_with fail
      refine (take_any (w.heap.size + 1 + 1 + 1 + 1) g 0 cap x.k y.k x.a y.a x.l.length y.l.length x.c y.c (some ⟨w.heap.size + 1 + 1 + 1, 0, none⟩) _ (by simpa using hc) hfr (by omega) (by omega) (by simpa using c0) (by simpa using c1) (by simpa using c2) (by simpa using c3) (by simpa using c4)).mono ?_
      rintro e w' ⟨rfl, rfl⟩
      go_wp2_with fail
      obtain ⟨WT, hWT⟩ : ∃ WT, WT = ((w'.setCell ⟨w.heap.size + 1 + 1 + 1 + 1, 0, none⟩ (.slice (some ⟨g, 0, none⟩) 0 cap)).alloc (.cells #[.int .i64 x.k, .slice x.a x.l.length x.c, .int .i64 y.k, .slice y.a y.l.length y.c, .pointer (some ⟨w.heap.size + 1 + 1 + 1, 0, none⟩)] 168)).alloc (.cells #[.int .i64 x.k, .slice x.a x.l.length x.c, .int .i64 y.k, .slice y.a y.l.length y.c, .pointer (some ⟨w.heap.size + 1 + 1 + 1, 0, none⟩)] 168) := ⟨_, rfl⟩
      have hbt : Below (w.heap.size + 1 + 1 + 1 + 1) w' WT := by
        rw [hWT]
        exact (((Below.refl _ _).setCell (by simp) _).alloc (by simp [World.setCell]; omega) _).alloc (by simp [World.setCell]; omega) _
      have hsT : w'.heap.size ≤ WT.heap.size := hbt.size
      have hcT : WT.cell? ⟨w.heap.size + 1 + 1 + 1 + 1, 0, none⟩ = some (.slice (some ⟨g, 0, none⟩) 0 cap) := by
        rw [hWT]
        exact cell_later (((Below.refl _ _).alloc (Nat.le_refl _) _).alloc (by simp) _) (World.cell?_setCell_same _ _ _ hc)
      have hfT : WT.frozen? ⟨w.heap.size + 1 + 1 + 1 + 1, 0, none⟩ = false := by
        rw [hWT]
        simp [frozen?_alloc_cells, hfr]
      rw [← hWT]
      have hbT : Below w.heap.size w WT := hbwr.trans (hbt.mono (by omega))
      refine (HC.out _ (w.heap.size + 1 + 1 + 1) 0 WT (hx.below hbT) (hy.below hbT) ((hbt.cell (p := ⟨w.heap.size + 1 + 1 + 1, 0, none⟩) (by simp)).trans z0) ((hbt.cell (p := ⟨w.heap.size + 1 + 1 + 1, 1, none⟩) (by simp)).trans z1) ((hbt.frozen (p := ⟨w.heap.size + 1 + 1 + 1, 0, none⟩) (by simp)).trans g0) ((hbt.frozen (p := ⟨w.heap.size + 1 + 1 + 1, 1, none⟩) (by simp)).trans g1)).mono ?_
      rintro e w5 ⟨rfl, t, ht, hin, hbl, t0, t1, hw⟩
      have hbl' : w5.heap[w.heap.size + 1 + 1 + 1 + 1]? = WT.heap[w.heap.size + 1 + 1 + 1 + 1]? := hw.block _ (by omega) (by omega)
      have HO5 : Hid (OffJ (w.heap.size + 1 + 1 + 1) x y 0 w5) :=
        ⟨(World.frozen?_of_block (a := ⟨w.heap.size + 1 + 1 + 1 + 1, 0, none⟩) hbl').trans hfT, (hw.frozen 0).trans ((hbt.frozen (p := ⟨w.heap.size + 1 + 1 + 1, 0, none⟩) (by simp)).trans g0), (hw.frozen 1).trans ((hbt.frozen (p := ⟨w.heap.size + 1 + 1 + 1, 1, none⟩) (by simp)).trans g1),
          .inr ⟨rfl, ⟨t, ht, hin, hbl.mono fun b hb => by omega, t0, t1⟩, _, _, (World.cell?_of_block (a := ⟨w.heap.size + 1 + 1 + 1 + 1, 0, none⟩) hbl').trans hcT⟩⟩
      have hb5 : Below (w.heap.size + 1 + 1 + 1) W0 w5 := hbr.trans ((hbt.mono (by omega)).trans (hw.under (by omega)))
      clear hWT hbt hcT hfT hbT ht hin hbl t0 t1 hw hbl' z0 z1 g0 g1 hfr hc c0 c1 c2 c3 c4
      go_wp2_with fail
      go_roundg 0
      case measure => omega
      case rel => exact ⟨HO5, hb5⟩
    · go_wp2_with fail
      refine (empty_any (w.heap.size + 1 + 1 + 1 + 1) a 0 cap _ hc).mono ?_
      rintro e w' ⟨rfl, rfl⟩
      have v0 := (hbr.cell (p := ⟨w.heap.size + 1 + 1, 0, none⟩) (by simp)).trans HR0.out.1
      have v1 := (hbr.cell (p := ⟨w.heap.size + 1 + 1, 1, none⟩) (by simp)).trans HR0.out.2.1
      have v2 := (hbr.frozen (p := ⟨w.heap.size + 1 + 1, 0, none⟩) (by simp)).trans (HR0.out.2.2 0)
      have v3 := (hbr.frozen (p := ⟨w.heap.size + 1 + 1, 1, none⟩) (by simp)).trans (HR0.out.2.2 1)
      have HT : Hid (t.ty = joinY x.ty y.ty) := ht
      clear ht HR HO hc hfr g0 g1
      go_wp2_with fail
      refine bodyPost_ret (v := .agg #[.int .i64 t.k, .slice t.a t.l.length t.c]) ?_ rfl ⟨t, rfl, HT.out, set_keeps hin (hbl.mono fun b hb => by omega), hbl.mono fun b hb => by omega, (hbwr.setCell (by simp; omega) _).setCell (by simp; omega) _⟩
      have hh := set_cells (u := .int .i64 t.k) (v := .slice t.a t.l.length t.c) v0 v1
      simp [results, Tryz.results69, go_sem, hh.1, hh.2]
end Go.Proofs.YtnddkmccagiclaaGreatDoor

/-
  What the call of kind.fits answers at two trees that lie in memory, where there is room for all levels of the first.
-/
namespace Go.Proofs.YtnddkmccagiclaaGreatDoor
open Go.RowKit

set_option maxHeartbeats 400000 in
theorem fits_left (n : Nat) (hn : n ≤ 1000) (k' : Int) (a a' : Option Addr) (m m' c c' : Nat) (rp : Option Addr) (w : World) :
    Calls Tryz.prog 140 #[.agg #[.int .i64 0, .slice a m c], .agg #[.int .i64 k', .slice a' m' c'], .int .i64 ((n : Int) + 1), .pointer rp] w fun e w' => e = .returned (.bool true) ∧ Below w.heap.size w w' := by
  have hz : (((n : Int) + 1) == 0) = false := by simp; omega
  go_enter Tryz.func140, Tryz.ntmps140
  go_wp2_with fail
  go_ret
  exact ⟨rfl, ((Below.refl _ _).alloc (Nat.le_refl _) _).alloc (by simp) _⟩

set_option maxHeartbeats 400000 in
theorem fits_right (n : Nat) (hn : n ≤ 1000) (k : Int) (hk : (k == 0) = false) (a a' : Option Addr) (m m' c c' : Nat) (rp : Option Addr) (w : World) :
    Calls Tryz.prog 140 #[.agg #[.int .i64 k, .slice a m c], .agg #[.int .i64 0, .slice a' m' c'], .int .i64 ((n : Int) + 1), .pointer rp] w fun e w' => e = .returned (.bool true) ∧ Below w.heap.size w w' := by
  have hz : (((n : Int) + 1) == 0) = false := by simp; omega
  go_enter Tryz.func140, Tryz.ntmps140
  go_wp2_with fail
  go_ret
  exact ⟨rfl, ((Below.refl _ _).alloc (Nat.le_refl _) _).alloc (by simp) _⟩

set_option maxHeartbeats 1000000 in
theorem fits_step (n : Nat) (hn : n ≤ 1000) (x y : Tr) (rp : Option Addr) (w : World) (hx : x.In w) (hy : y.In w) (hh : x.hgt ≤ n + 1) (hs : x.sm) (e1 : (x.k == 0) = false) (e2 : (y.k == 0) = false)
    (ih : Hid (∀ (x y : Tr) (w : World), x.In w → y.In w → x.hgt ≤ n → x.sm → Calls Tryz.prog 140 #[.agg #[.int .i64 x.k, .slice x.a x.l.length x.c], .agg #[.int .i64 y.k, .slice y.a y.l.length y.c], .int .i64 (n : Int), .pointer rp] w fun e w' => e = .returned (.bool (relY escFits x.ty y.ty)) ∧ Below w.heap.size w w')) :
    Calls Tryz.prog 140 #[.agg #[.int .i64 x.k, .slice x.a x.l.length x.c], .agg #[.int .i64 y.k, .slice y.a y.l.length y.c], .int .i64 ((n : Int) + 1), .pointer rp] w fun e w' => e = .returned (.bool (relY escFits x.ty y.ty)) ∧ Below w.heap.size w w' := by
  have hz : (((n : Int) + 1) == 0) = false := by simp; omega
  have hlen := hs.len
  by_cases ht0 : (x.k == y.k && (x.l.length : Int) == (y.l.length : Int)) = false
  · have ht : Hid ((x.k == y.k && (x.l.length : Int) == (y.l.length : Int)) = false) := ht0
    clear ht0
    go_enter Tryz.func140, Tryz.ntmps140
    go_wp2_with fail
    refine (alike_any _ _ _ _ _ _ _ _ false ht.out _).mono ?_
    rintro e w1 ⟨rfl, hb1⟩
    go_wp2_with fail
    go_ret
    refine ⟨?_, (((Below.refl _ _).alloc (Nat.le_refl _) _).alloc (by simp) _).trans (hb1.mono (by simp; omega))⟩
    rw [relY_top escFits x y (by simp [escFits, e1, e2]) ht.out]
    rfl
  · have ht' : Hid ((x.k == y.k && (x.l.length : Int) == (y.l.length : Int)) = true) := by simpa [Hid] using ht0
    clear ht0
    have hk : Hid (x.k = y.k) := by have h := ht'.out; simp at h; exact h.1
    have hl : Hid (x.l.length = y.l.length) := by have h := ht'.out; simp at h; exact Int.ofNat.inj h.2
    go_enter Tryz.func140, Tryz.ntmps140
    go_wp2_with fail
    refine (alike_any _ _ _ _ _ _ _ _ true ht'.out _).mono ?_
    rintro e w1 ⟨rfl, hb1⟩
    have hbw : Below w.heap.size w w1 := (((Below.refl _ _).alloc (Nat.le_refl _) _).alloc (by simp) _).trans (hb1.mono (by simp; omega))
    have p1 : w1.cell? ⟨w.heap.size, 1, none⟩ = some (.slice x.a x.l.length x.c) := cell_later hb1 (by simp [go_sem])
    have p3 : w1.cell? ⟨w.heap.size + 1, 1, none⟩ = some (.slice y.a y.l.length y.c) := cell_later hb1 (by simp [go_sem])
    clear hb1
    go_wp2_with fail
    go_loopw [32] (fun i wr => ∃ j : Nat, j ≤ x.l.length ∧ i = .int .i64 (j : Int) ∧ Below w1.heap.size w1 wr ∧ ∀ q (h : q < x.l.length) (h' : q < y.l.length), q < j → relY escFits x.l[q].ty y.l[q].ty = true) (fun i _ => x.l.length - (intOf i).toNat)
    case atStart => exact ⟨0, Nat.zero_le _, rfl, Below.refl _ _, fun q _ _ h => absurd h (by omega)⟩
    case round =>
      obtain ⟨j, hj, rfl, hbr, hall⟩ := hrel
      have HA : Hid (∀ q (h : q < x.l.length) (h' : q < y.l.length), q < j → relY escFits x.l[q].ty y.l[q].ty = true) := hall
      clear hall
      have hbwr : Below w.heap.size w wr := hbw.trans (hbr.mono hbw.size)
      by_cases hlt : j < x.l.length
      · have hlt' : j < y.l.length := hl.out ▸ hlt
        obtain ⟨b, o, ea, x0, x1, hxj⟩ := hx.part j hlt
        obtain ⟨b', o', eb, y0, y1, hyj⟩ := hy.part j hlt'
        have q1 : wr.cell? ⟨w.heap.size, 1, none⟩ = some (.slice (some ⟨b, o, none⟩) x.l.length x.c) := by rw [← ea]; exact cell_later hbr p1
        have q3 : wr.cell? ⟨w.heap.size + 1, 1, none⟩ = some (.slice (some ⟨b', o', none⟩) y.l.length y.c) := by rw [← eb]; exact cell_later hbr p3
        replace x0 := cell_later hbwr x0
        replace x1 := cell_later hbwr x1
        replace y0 := cell_later hbwr y0
        replace y1 := cell_later hbwr y1
        have i1 : (j : Int) < (x.l.length : Int) := by omega
        have i2 : (j : Int) < (y.l.length : Int) := by omega
        have i0 : (0 : Int) ≤ (j : Int) := by omega
        clear p1 p3 ea eb hx hy ht'
        have hwr : IntKind.i64.wrap (n : Int) = (n : Int) := wrap_small n hn
        obtain ⟨r, hr⟩ : ∃ r, relY escFits x.l[j].ty y.l[j].ty = r := ⟨_, rfl⟩
        have HC : Hid (∀ (w : World), x.l[j].In w → y.l[j].In w → Calls Tryz.prog 140 #[.agg #[.int .i64 x.l[j].k, .slice x.l[j].a x.l[j].l.length x.l[j].c], .agg #[.int .i64 y.l[j].k, .slice y.l[j].a y.l[j].l.length y.l[j].c], .int .i64 (n : Int), .pointer rp] w fun e w' => e = .returned (.bool r) ∧ Below w.heap.size w w') := by
          intro w h1 h2
          have := ih.out x.l[j] y.l[j] w h1 h2 (Tr.hgt_part hh j hlt) (hs.part j hlt)
          rw [hr] at this
          exact this
        have HR : Hid (relY escFits x.l[j].ty y.l[j].ty = r) := hr
        clear hr
        cases r
        · go_wp2_with fail
          go_region_held3 (fun w' => w'.cell? ⟨w.heap.size, 1, none⟩ = some (.slice (some ⟨b, o, none⟩) x.l.length x.c) ∧ w'.cell? ⟨w.heap.size + 1, 1, none⟩ = some (.slice (some ⟨b', o', none⟩) y.l.length y.c) ∧ w'.cell? ⟨b, o + j * 2, none⟩ = some (.int .i64 x.l[j].k) ∧ w'.cell? ⟨b, o + j * 2 + 1, none⟩ = some (.slice x.l[j].a x.l[j].l.length x.l[j].c) ∧ w'.cell? ⟨b', o' + j * 2, none⟩ = some (.int .i64 y.l[j].k) ∧ w'.cell? ⟨b', o' + j * 2 + 1, none⟩ = some (.slice y.l[j].a y.l[j].l.length y.l[j].c)) (first | exact ⟨cell_later hb2 q1, cell_later hb2 q3, cell_later hb2 x0, cell_later hb2 x1, cell_later hb2 y0, cell_later hb2 y1⟩ | go_keep) (first | (go_at_call 140; refine (HC.out _ (hxj.below hbwr.drew) (hyj.below hbwr.drew)).mono ?_; rintro e w2 ⟨rfl, hb2⟩))
          have hbr2 : Below w1.heap.size w1 w2 := hbr.drew.trans (hb2.mono hbr.size)
          go_wp2_with fail
          go_ret
          refine ⟨?_, hbw.trans (hbr2.mono hbw.size)⟩
          rw [relY_part_not escFits x y (by simp [escFits, e1, e2]) j hlt hlt' HR.out]
          rfl
        · go_wp2_with fail
          go_region_held3 (fun w' => w'.cell? ⟨w.heap.size, 1, none⟩ = some (.slice (some ⟨b, o, none⟩) x.l.length x.c) ∧ w'.cell? ⟨w.heap.size + 1, 1, none⟩ = some (.slice (some ⟨b', o', none⟩) y.l.length y.c) ∧ w'.cell? ⟨b, o + j * 2, none⟩ = some (.int .i64 x.l[j].k) ∧ w'.cell? ⟨b, o + j * 2 + 1, none⟩ = some (.slice x.l[j].a x.l[j].l.length x.l[j].c) ∧ w'.cell? ⟨b', o' + j * 2, none⟩ = some (.int .i64 y.l[j].k) ∧ w'.cell? ⟨b', o' + j * 2 + 1, none⟩ = some (.slice y.l[j].a y.l[j].l.length y.l[j].c)) (first | exact ⟨cell_later hb2 q1, cell_later hb2 q3, cell_later hb2 x0, cell_later hb2 x1, cell_later hb2 y0, cell_later hb2 y1⟩ | go_keep) (first | (go_at_call 140; refine (HC.out _ (hxj.below hbwr.drew) (hyj.below hbwr.drew)).mono ?_; rintro e w2 ⟨rfl, hb2⟩))
          have hbr2 : Below w1.heap.size w1 w2 := hbr.drew.trans (hb2.mono hbr.size)
          go_wp2_with fail
          go_roundw
          case rel =>
            refine ⟨j + 1, by omega, by go_num, hbr2, fun q h h' hq => ?_⟩
            by_cases e : q = j
            · subst e; exact HR.out
            · exact HA.out q h h' (by omega)
          case measure => simp [intOf]; omega
      · go_wp2_with fail
        go_ret
        refine ⟨?_, hbwr⟩
        rw [relY_parts escFits x y hk.out hl.out fun q h h' => HA.out q h h' (by omega)]
        rfl

theorem fits_any (n : Nat) : n ≤ 1000 → ∀ (x y : Tr) (rp : Option Addr) (w : World), x.In w → y.In w → x.hgt ≤ n → x.sm → Calls Tryz.prog 140 #[.agg #[.int .i64 x.k, .slice x.a x.l.length x.c], .agg #[.int .i64 y.k, .slice y.a y.l.length y.c], .int .i64 (n : Int), .pointer rp] w fun e w' => e = .returned (.bool (relY escFits x.ty y.ty)) ∧ Below w.heap.size w w' := by
  induction n with
  | zero =>
    intro _ x y rp w _ _ h
    have := x.hgt_pos
    omega
  | succ n ih =>
    intro hn x y rp w hx hy h hs
    have e : ((n + 1 : Nat) : Int) = (n : Int) + 1 := by omega
    rw [e]
    by_cases k1 : x.k = 0
    · rw [k1, relY_esc escFits x y (by simp [escFits, k1])]
      exact fits_left n (by omega) y.k x.a y.a _ _ _ _ rp w
    by_cases k2 : y.k = 0
    · rw [k2, relY_esc escFits x y (by simp [escFits, k2])]
      exact fits_right n (by omega) x.k (by simpa using k1) x.a y.a _ _ _ _ rp w
    exact fits_step n (by omega) x y rp w hx hy h hs (by simpa using k1) (by simpa using k2) (fun x y w hx hy h hs => ih (by omega) x y rp w hx hy h hs)
end Go.Proofs.YtnddkmccagiclaaGreatDoor
