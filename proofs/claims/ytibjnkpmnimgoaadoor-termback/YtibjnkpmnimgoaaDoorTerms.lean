/-
  What the call of chaperonekeep.terms answers.
-/
import Derived.Test.YtibjnkpmnimgoaaDoorNodes
import Derived.Test.YtibjnkpmnimgoaaDoorBack
import Derived.Test.YtibjnkpmnimgoaaDoorPrintD
namespace Go.Proofs.YtibjnkpmnimgoaaDoor
open Go.RowKit

theorem any_tok {t : Tr} (h : isAnyY t.ty = true) : t.hgt ≤ 1000 ∧ t.sm := by
  have e := isAny_eq h
  obtain ⟨k, a, c, l⟩ := t
  rw [Tr.ty_mk] at e
  have hl : l = [] := by
    have := congrArg Ty.l e
    simpa [anyY] using this
  subst hl
  refine ⟨?_, Tr.sm_mk.2 ⟨by simp, fun t h => by cases h⟩⟩
  rw [Tr.hgt_mk]; simp

theorem bindL_all {f : TT → Nat → Option Nat} (hf : ∀ y q q', f y q = some q' → y.tok ∧ y.sz + q' = q) : ∀ (l : List TT) (r r' : Nat), bindL f l r = some r' → (∀ y, y ∈ l → y.tok) ∧ (l.map TT.sz).sum + r' = r
  | [], r, r', h => by simp [bindL] at h; exact ⟨(fun y hy => by cases hy), by simpa using h.symm⟩
  | x :: l, r, r', h => by
    simp only [bindL] at h
    cases hq : f x r with
    | none => rw [hq] at h; cases h
    | some q =>
      rw [hq] at h
      have h1 := hf x r q hq
      have h2 := bindL_all hf l q r' h
      refine ⟨fun y hy => ?_, ?_⟩
      · rcases List.mem_cons.1 hy with rfl | hy
        · exact h1.1
        · exact h2.1 y hy
      · simp only [List.map_cons, List.sum_cons]; omega

/-- A good term has types of few levels, and as many terms as the room that it took. -/
theorem goodS_tok (ar : Int) : ∀ (n : Nat) (ins : Int) (x : TT) (r r' : Nat), goodS ar n ins x.tm r = some r' → x.tok ∧ x.sz + r' = r
  | 0, _, _, _, _, h => by simp [goodS] at h
  | n + 1, ins, x, r, r', h => by
    obtain ⟨m, q, hm, rfl, hok, hb⟩ := goodS_top h
    obtain rfl : n = m := by omega
    obtain ⟨_, _, _, hty, _⟩ := okTop_parts hok
    rw [TT.tm_l, TT.tm_k, bindL_map] at hb
    have hall := bindL_all (fun y q q' h => goodS_tok ar n _ y q q' h) x.l q r' hb
    rw [TT.tm_t, TT.tm_f, TT.tm_k] at hty
    simp only [okTypes, Bool.and_eq_true] at hty
    have ht : x.t.hgt ≤ 1000 ∧ x.t.sm := by
      by_cases hk : tells x.k = true
      · have := hty.2
        rw [hk, if_pos rfl, ← goodT_eq] at this
        exact ⟨Nat.le_trans (Tr.hgt_good 4 _ this) (by omega), Tr.sm_good 4 _ this⟩
      · have hk' : tells x.k = false := by simpa using hk
        have := hty.2
        rw [hk', if_neg (by simp)] at this
        exact any_tok this
    have hs := x.sz_eq
    refine ⟨?_, by omega⟩
    obtain ⟨k, n', t, f, a, c, l⟩ := x
    exact TT.tok_mk.2 ⟨ht, any_tok hty.1, hall.1⟩

theorem goodM_tok {ar : Int} {x : TT} (h : goodM ar x.tm = true) : x.tok ∧ x.sz ≤ 40 := by
  obtain ⟨r', hr⟩ := Option.isSome_iff_exists.1 h
  have := goodS_tok ar 40 0 x 40 r' hr
  exact ⟨this.1, by omega⟩

def Tm.sz : Tm → Nat
  | ⟨_, _, _, _, l⟩ => (l.map fun t => t.sz).sum + 1
theorem Tm.sz_mk (k n : Int) (t f : Ty) (l : List Tm) : (Tm.mk k n t f l).sz = (l.map Tm.sz).sum + 1 := by
  rw [Tm.sz]

theorem TT.sz_tm (x : TT) : x.sz = x.tm.sz := by
  induction x using TT.ind with
  | h k n t f a c l ih =>
    rw [TT.tm_mk, TT.sz_mk, Tm.sz_mk, List.map_map]
    have : l.map TT.sz = l.map (Tm.sz ∘ TT.tm) := List.map_congr_left fun x hx => ih x hx
    rw [this]

/-! ### The closed term -/

/-- (fun (to num any) (call #0 7)) -/
def T0 : Tm := ⟨7, 0, ⟨3, [⟨1, []⟩, ⟨0, []⟩]⟩, anyY, [⟨8, 0, anyY, anyY, [⟨1, 0, anyY, anyY, []⟩, ⟨2, 7, anyY, anyY, []⟩]⟩]⟩
def X0 : ByteArray := ⟨#[40, 102, 117, 110, 32, 40, 116, 111, 32, 110, 117, 109, 32, 97, 110, 121, 41, 32, 40, 99, 97, 108, 108, 32, 35, 48, 32, 55, 41, 41]⟩

theorem itoa0 : Lib.itoa 0 = [48] := by
  rw [Lib.itoa, if_neg (by omega)]
  exact Lib.decDigits_one (by omega)
theorem itoa7 : Lib.itoa 7 = [55] := by
  rw [Lib.itoa, if_neg (by omega)]
  exact Lib.decDigits_one (by omega)

theorem isAny_any0 : isAnyY anyY = true := by simp [isAnyY, anyY, relY_mk, relL]

theorem T0_texts (n : Nat) : tmText (n + 1 + 1 + 1) T0 = X0.data.toList := by
  have e : tyText (1 + 1 + 1 + 1) ⟨3, [⟨1, []⟩, ⟨0, []⟩]⟩ = [40, 116, 111, 32, 110, 117, 109, 32, 97, 110, 121, 41] := rfl
  have e4 : tyText 4 ⟨3, [⟨1, []⟩, ⟨0, []⟩]⟩ = [40, 116, 111, 32, 110, 117, 109, 32, 97, 110, 121, 41] := e
  simp [T0, tmText, e4, kindW, tells, itoa0, itoa7, X0]

theorem T0_text : tmText 40 T0 = X0.data.toList := T0_texts 37

theorem T0_step (n r : Nat) : goodS 0 (n + 1 + 1 + 1) 0 T0 (r + 1 + 1 + 1 + 1) = some r := by
  simp [goodS, T0, okTop, okTypes, okNum, tells, partsOf, goodY, isAny_any0, bindL, insOf]

theorem T0_good : goodM 0 T0 = true := congrArg Option.isSome (T0_step 37 36)

theorem T0_size : T0.sz = 4 := by simp [T0, Tm.sz_mk]

theorem X0_parse : parseS X0.data.toList = some T0 := by
  rw [← T0_text]
  exact parse_text T0 T0_good

set_option maxRecDepth 20000 in
set_option maxHeartbeats 2000000 in
/-- chaperonekeep.terms. -/
theorem terms_any (w : World) (hg : Gl w) : Calls Tryd.prog 11 #[] w fun e w' => e = .returned (.bool true) ∧ Below w.heap.size w w' := by
  have HP : Hid (Calls Tryd.prog 9 #[.string ⟨#[40, 102, 117, 110, 32, 40, 116, 111, 32, 110, 117, 109, 32, 97, 110, 121, 41, 32, 40, 99, 97, 108, 108, 32, 35, 48, 32, 55, 41, 41]⟩] w fun e w' => ∃ x : TT, e = .returned (.tuple #[.agg #[.int .i64 x.k, .int .i64 x.n, .int .i64 x.t.k, .slice x.t.a x.t.l.length x.t.c, .int .i64 x.f.k, .slice x.f.a x.f.l.length x.f.c, .slice x.a x.l.length x.c], .int .i64 0]) ∧ x.In w' ∧ x.nb ∧ x.tm = T0 ∧ Below w.heap.size w w') := by
    refine (parse_any X0 (by decide) w hg).mono ?_
    rintro e w' ⟨x, er, rfl, hin, hnb, hb, ⟨h, _⟩ | ⟨_, h, _⟩ | ⟨_, h, rfl⟩⟩
    · exact absurd h (by decide)
    · rw [X0_parse] at h; cases h
    · rw [X0_parse] at h
      exact ⟨x, rfl, hin, hnb, (Option.some.inj h).symm, hb⟩
  have HG : Hid (Gl w) := hg
  clear hg
  go_enter Tryd.func11, Tryd.ntmps11
  go_wp2_with fail
  refine HP.out.mono ?_
  rintro e w1 ⟨x, rfl, hin, hnb, htm, hb1⟩
  have hk7 : x.k = 7 := by rw [← TT.tm_k, htm]; rfl
  have hz4 : x.sz = 4 := by rw [TT.sz_tm, htm, T0_size]
  have hbo : ∀ o, Below w1.heap.size w1 (w1.alloc o) := fun o => (Below.refl _ _).alloc (Nat.le_refl _) _
  have HPR : Hid (∀ o, Calls Tryd.prog 8 #[.agg #[.int .i64 x.k, .int .i64 x.n, .int .i64 x.t.k, .slice x.t.a x.t.l.length x.t.c, .int .i64 x.f.k, .slice x.f.a x.f.l.length x.f.c, .slice x.a x.l.length x.c]] (w1.alloc o) fun e w' => e = .returned (.tuple #[.string ⟨#[40, 102, 117, 110, 32, 40, 116, 111, 32, 110, 117, 109, 32, 97, 110, 121, 41, 32, 40, 99, 97, 108, 108, 32, 35, 48, 32, 55, 41, 41]⟩, .int .i64 0]) ∧ Below (w1.alloc o).heap.size (w1.alloc o) w') := by
    intro o
    refine (print_any x _ ((HG.out.below hb1).below (hbo o)) (hin.below (hbo o)) hnb).mono ?_
    rintro e w' ⟨s, er, rfl, hb, ⟨h, _⟩ | ⟨_, h, _⟩ | ⟨_, _, rfl, rfl⟩⟩
    · rw [htm, T0_good] at h; cases h
    · rw [htm, T0_text] at h; exact absurd h (by decide)
    · refine ⟨?_, hb⟩
      rw [htm, T0_text]
      rfl
  have HND : Hid (∀ W, x.In W → Calls Tryd.prog 25 #[.agg #[.int .i64 x.k, .int .i64 x.n, .int .i64 x.t.k, .slice x.t.a x.t.l.length x.t.c, .int .i64 x.f.k, .slice x.f.a x.f.l.length x.f.c, .slice x.a x.l.length x.c]] W fun e w' => e = .returned (.int .i64 4) ∧ Below W.heap.size W w') := by
    intro W hW
    have := nodes_any x W hW (by omega)
    rw [hz4] at this
    exact this
  have HK : Hid (x.k = 7) := hk7
  have e7 : (x.k == 7) = true := by simp [hk7]
  have HI : Hid (x.In w1 ∧ Below w.heap.size w w1) := ⟨hin, hb1⟩
  clear hk7 hz4 htm hin hnb hb1 hbo HP HG
  go_wp2_with fail
  refine (HPR.out _).mono ?_
  rintro e w2 ⟨rfl, hb2⟩
  have h7 : At7 w2 w1.heap.size 0 x := At7.below hb2 (by constructor <;> simp [go_sem])
  have hbw : Below w1.heap.size w1 w2 := ((Below.refl _ _).alloc (Nat.le_refl _) _).trans (hb2.mono (by simp))
  have c0 := h7.c0
  have c1 := h7.c1
  have c2 := h7.c2
  have c3 := h7.c3
  have c4 := h7.c4
  have c5 := h7.c5
  have c6 := h7.c6
  simp only [Nat.zero_add] at c0 c1 c2 c3 c4 c5 c6
  have HN2 : Hid (Calls Tryd.prog 25 #[.agg #[.int .i64 x.k, .int .i64 x.n, .int .i64 x.t.k, .slice x.t.a x.t.l.length x.t.c, .int .i64 x.f.k, .slice x.f.a x.f.l.length x.f.c, .slice x.a x.l.length x.c]] w2 fun e w' => e = .returned (.int .i64 4) ∧ Below w2.heap.size w2 w') := HND.out w2 (HI.out.1.below hbw)
  have HB2 : Hid (Below w.heap.size w w2) := HI.out.2.trans (hbw.mono HI.out.2.size)
  clear h7 hb2 hbw HPR HND
  go_wp2_with fail
  refine HN2.out.mono ?_
  rintro e w3 ⟨rfl, hb3⟩
  have HB3 : Hid (Below w.heap.size w w3) := HB2.out.trans (hb3.mono HB2.out.size)
  clear hb3 c0 c1 c2 c3 c4 c5 c6
  go_wp2_with fail
  go_ret
  exact ⟨rfl, HB3.out⟩
end Go.Proofs.YtibjnkpmnimgoaaDoor
