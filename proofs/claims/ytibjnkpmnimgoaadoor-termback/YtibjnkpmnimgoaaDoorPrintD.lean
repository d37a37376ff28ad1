/-
  What the call of term.Print answers, at any term.
-/
import Derived.Test.YtibjnkpmnimgoaaDoorPrintC
namespace Go.Proofs.YtibjnkpmnimgoaaDoor
open Go.RowKit

/-- term.termText. -/
theorem termText_any (n : Nat) : n ≤ 500 → ∀ (ins : Nat) (x : TT) (r r' : Nat) (w : World), ins + n ≤ 1000 → r ≤ 1000 → goodS 0 n (ins : Int) x.tm r = some r' → Gl w → x.In w →
    Calls Tryd.prog 33 #[.agg #[.int .i64 x.k, .int .i64 x.n, .int .i64 x.t.k, .slice x.t.a x.t.l.length x.t.c, .int .i64 x.f.k, .slice x.f.a x.f.l.length x.f.c, .slice x.a x.l.length x.c]] w fun e w' => e = .returned (.string (bw (tmText n x.tm))) ∧ Below w.heap.size w w' := by
  induction n with
  | zero => intro _ ins x r r' w _ _ h; simp [goodS] at h
  | succ n ih =>
    intro hn ins x r r' w hi hr h hg hx
    obtain ⟨m, q, hm, rfl, hok, hb⟩ := goodS_top h
    obtain rfl : n = m := by omega
    obtain ⟨h1, h9, hl, hty, hnum⟩ := okTop_parts hok
    rw [TT.tm_k] at h1 h9 hty hnum hl hb
    rw [TT.tm_n] at hnum
    rw [TT.tm_t, TT.tm_f] at hty
    rw [TT.tm_l, List.length_map] at hl
    have hbd := okNum_bound (by omega) hnum
    by_cases hk : x.k = 1 ∨ x.k = 2 ∨ x.k = 3
    · have e : tmText (n + 1) x.tm = if x.k = 1 then 35 :: Lib.itoa x.n else if x.k = 2 then Lib.itoa x.n else truthW x.n := by
        simp only [tmText, TT.tm_k, TT.tm_n]
        split
        · rfl
        · split
          · rfl
          · rw [if_pos (by omega)]
      rw [e]
      refine termText_word x w hg hk hbd.1 hbd.2 (fun h3 => ?_)
      rw [okNum, if_neg (by omega), if_neg (by omega), if_pos h3] at hnum
      simpa using hnum
    · have hp := parts_le x.k
      have e : tmText (n + 1) x.tm = (40 :: kindW x.k ++ (if tells x.k = true then 32 :: tyText 4 x.t.ty else [])) ++ x.l.flatMap (fun y => 32 :: tmText n y.tm) ++ [41] := by
        simp only [tmText, TT.tm_k, TT.tm_n, TT.tm_t, TT.tm_l]
        rw [if_neg (by omega), if_neg (by omega), if_neg (by omega), List.flatMap_map]
      rw [e]
      have hins : insOf x.k (ins : Int) = ((if x.k = 7 then ins + 1 else ins : Nat) : Int) := by unfold insOf; split <;> simp
      rw [hins, TT.tm_l, bindL_map] at hb
      refine termText_parts x w hg hx (by omega) h9 (by omega) (fun ht => ?_) (fun y => tmText n y.tm) _ rfl (fun j hj => ?_) (fun j hj W hgW hW => ?_)
      · simp only [okTypes, Bool.and_eq_true] at hty
        rw [ht, if_pos rfl] at hty
        exact hty.2
      · obtain ⟨q1, q2, hq1, hq⟩ := bindL_at (fun y q q' h => goodS_le 0 n _ _ q q' h) hb j hj
        have := tmText_len n (if x.k = 7 then ins + 1 else ins) x.l[j].tm q1 q2 (by split <;> omega) hq
        show (tmText n x.l[j].tm).length ≤ 1000000
        omega
      · obtain ⟨q1, q2, hq1, hq⟩ := bindL_at (fun y q q' h => goodS_le 0 n _ _ q q' h) hb j hj
        exact ih (by omega) (if x.k = 7 then ins + 1 else ins) x.l[j] q1 q2 W (by split <;> omega) (by omega) hq hgW hW

def PrPost (x : Tm) (w : World) (e : Ending) (w' : World) : Prop :=
  ∃ (s : ByteArray) (er : Int), e = .returned (.tuple #[.string s, .int .i64 er]) ∧ Below w.heap.size w w' ∧
    ((goodM 0 x = false ∧ s = bw [] ∧ er = 1) ∨ (goodM 0 x = true ∧ 1000 < (tmText 40 x).length ∧ s = bw [] ∧ er = 4) ∨ (goodM 0 x = true ∧ (tmText 40 x).length ≤ 1000 ∧ s = bw (tmText 40 x) ∧ er = 0))

theorem bw_size (a : List UInt8) : (bw a).size = a.length := by
  show a.toArray.size = a.length
  simp

set_option maxRecDepth 20000 in
set_option maxHeartbeats 1000000 in
/-- term.Print. -/
theorem print_any (x : TT) (w : World) (hg : Gl w) (hx : x.In w) (hnb : x.nb) :
    Calls Tryd.prog 8 #[.agg #[.int .i64 x.k, .int .i64 x.n, .int .i64 x.t.k, .slice x.t.a x.t.l.length x.t.c, .int .i64 x.f.k, .slice x.f.a x.f.l.length x.f.c, .slice x.a x.l.length x.c]] w (PrPost x.tm w) := by
  have hb0 : ∀ o, Below w.heap.size w (w.alloc o) := fun o => (Below.refl _ _).alloc (Nat.le_refl _) _
  obtain ⟨g, hgd⟩ : ∃ g, goodM 0 x.tm = g := ⟨_, rfl⟩
  have HGD : Hid (∀ o, Calls Tryd.prog 32 #[.agg #[.int .i64 x.k, .int .i64 x.n, .int .i64 x.t.k, .slice x.t.a x.t.l.length x.t.c, .int .i64 x.f.k, .slice x.f.a x.f.l.length x.f.c, .slice x.a x.l.length x.c], .int .i64 0] (w.alloc o) fun e w' => e = .returned (.bool g) ∧ Below (w.alloc o).heap.size (w.alloc o) w') := by
    intro o
    have := goodTm_any x 0 _ (hg.below (hb0 o)) (hx.below (hb0 o)) hnb
    rw [hgd] at this
    exact this
  have HGG : Hid (goodM 0 x.tm = g) := hgd
  have HG : Hid (Gl w ∧ x.In w) := ⟨hg, hx⟩
  have HB : Hid (∀ o, Below w.heap.size w (w.alloc o)) := hb0
  clear hg hx hnb hgd hb0
  cases g with
  | false =>
    go_enter Tryd.func8, Tryd.ntmps8
    go_wp2_with fail
    refine (HGD.out _).mono ?_
    rintro e w1 ⟨rfl, hb1⟩
    have HF : Hid (PrPost x.tm w (.returned (.tuple #[.string ⟨#[]⟩, .int .i64 1])) w1) := ⟨_, _, rfl, (HB.out _).trans (hb1.mono (by simp)), .inl ⟨HGG.out, rfl, rfl⟩⟩
    clear hb1
    go_wp2_with fail
    go_ret2
    exact HF.out
  | true =>
    obtain ⟨r', hr⟩ := Option.isSome_iff_exists.1 HGG.out
    have hr0 : goodS 0 40 ((0 : Nat) : Int) x.tm 40 = some r' := hr
    have hl := (tmText_len 40 0 x.tm 40 r' (by omega) hr0).2
    obtain ⟨T, hT⟩ : ∃ T, tmText 40 x.tm = T := ⟨_, rfl⟩
    have HTT : Hid (∀ W, Gl W → x.In W → Calls Tryd.prog 33 #[.agg #[.int .i64 x.k, .int .i64 x.n, .int .i64 x.t.k, .slice x.t.a x.t.l.length x.t.c, .int .i64 x.f.k, .slice x.f.a x.f.l.length x.f.c, .slice x.a x.l.length x.c]] W fun e w' => e = .returned (.string (bw T)) ∧ Below W.heap.size W w') := by
      intro W hgW hxW
      have := termText_any 40 (by omega) 0 x 40 r' W (by omega) (by omega) hr0 hgW hxW
      rw [hT] at this
      exact this
    have HT : Hid (tmText 40 x.tm = T) := hT
    have hsz := bw_size T
    have hsz2 : (bw T).size ≤ 100000 := by rw [hsz, ← hT]; omega
    by_cases hlong : 1000 < (bw T).size
    · have i1 : (1000 : Int) < ((bw T).size : Int) := by omega
      have HL : Hid (1000 < (tmText 40 x.tm).length) := by rw [HT.out, ← hsz]; exact hlong
      clear hl hr hr0 hT hsz hlong
      go_enter Tryd.func8, Tryd.ntmps8
      go_wp2_with fail
      refine (HGD.out _).mono ?_
      rintro e w1 ⟨rfl, hb1⟩
      have hbw : Below w.heap.size w w1 := (HB.out _).trans (hb1.mono (by simp))
      have h7 : At7 w1 w.heap.size 0 x := At7.below hb1 (by constructor <;> simp [go_sem])
      have c0 := h7.c0
      have c1 := h7.c1
      have c2 := h7.c2
      have c3 := h7.c3
      have c4 := h7.c4
      have c5 := h7.c5
      have c6 := h7.c6
      simp only [Nat.zero_add] at c0 c1 c2 c3 c4 c5 c6
      clear h7 hb1
      go_wp2_with fail
      refine (HTT.out _ (HG.out.1.below hbw) (HG.out.2.below hbw)).mono ?_
      rintro e w2 ⟨rfl, hb2⟩
      have HF : Hid (PrPost x.tm w (.returned (.tuple #[.string ⟨#[]⟩, .int .i64 4])) w2) := ⟨_, _, rfl, hbw.trans (hb2.mono hbw.size), .inr (.inl ⟨HGG.out, HL.out, rfl, rfl⟩)⟩
      clear hb2 hbw c0 c1 c2 c3 c4 c5 c6
      go_wp2_with fail
      go_ret2
      exact HF.out
    · have i1 : ¬ (1000 : Int) < ((bw T).size : Int) := by omega
      have hl9 : (tmText 40 x.tm).length ≤ 1000 := by rw [hT, ← hsz]; omega
      have HL : Hid ((tmText 40 x.tm).length ≤ 1000) := hl9
      clear hl9
      clear hl hr hr0 hT hsz hlong
      go_enter Tryd.func8, Tryd.ntmps8
      go_wp2_with fail
      refine (HGD.out _).mono ?_
      rintro e w1 ⟨rfl, hb1⟩
      have hbw : Below w.heap.size w w1 := (HB.out _).trans (hb1.mono (by simp))
      have h7 : At7 w1 w.heap.size 0 x := At7.below hb1 (by constructor <;> simp [go_sem])
      have c0 := h7.c0
      have c1 := h7.c1
      have c2 := h7.c2
      have c3 := h7.c3
      have c4 := h7.c4
      have c5 := h7.c5
      have c6 := h7.c6
      simp only [Nat.zero_add] at c0 c1 c2 c3 c4 c5 c6
      clear h7 hb1
      go_wp2_with fail
      refine (HTT.out _ (HG.out.1.below hbw) (HG.out.2.below hbw)).mono ?_
      rintro e w2 ⟨rfl, hb2⟩
      have HF : Hid (PrPost x.tm w (.returned (.tuple #[.string (bw T), .int .i64 0])) w2) := ⟨_, _, rfl, hbw.trans (hb2.mono hbw.size), .inr (.inr ⟨HGG.out, HL.out, by rw [HT.out], rfl⟩)⟩
      clear hb2 hbw c0 c1 c2 c3 c4 c5 c6
      go_wp2_with fail
      go_ret2
      exact HF.out
end Go.Proofs.YtibjnkpmnimgoaaDoor
