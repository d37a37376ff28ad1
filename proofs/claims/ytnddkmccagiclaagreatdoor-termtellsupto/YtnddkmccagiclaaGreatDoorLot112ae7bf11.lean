/-
  What the call of term.Print answers, at any term.
-/
import Derived.Test.YtnddkmccagiclaaGreatDoorLotfd21d846ae
import Derived.Test.YtnddkmccagiclaaGreatDoorLotce5b4f1487
import Derived.Test.YtnddkmccagiclaaGreatDoorLot8f935494a2
import Derived.Shelf.Strings.OnBuilder
import Derived.Deep.LoopGhost
namespace Go.Proofs.YtnddkmccagiclaaGreatDoor
open Go.RowKit

/-- term.termText. -/
theorem termText_any (n : Nat) : n ≤ 500 → ∀ (ins : Nat) (x : TT) (r r' : Nat) (w : World), ins + n ≤ 1000 → r ≤ 1000 → goodS 0 n (ins : Int) x.tm r = some r' → Gl w → x.In w →
    Calls Tryz.prog 22 #[.agg #[.int .i64 x.k, .int .i64 x.n, .int .i64 x.t.k, .slice x.t.a x.t.l.length x.t.c, .int .i64 x.f.k, .slice x.f.a x.f.l.length x.f.c, .slice x.a x.l.length x.c]] w fun e w' => e = .returned (.string (bw (tmText n x.tm))) ∧ Below w.heap.size w w' := by
  induction n with
  | zero => intro _ ins x r r' w _ _ h; simp [goodS] at h
  | succ n ih =>
    intro hn ins x r r' w hi hr h hg hx
    obtain ⟨m, q, hm, rfl, hok, hb⟩ := goodS_top h
    obtain rfl : n = m := by omega
    obtain ⟨h1, h9, hl, hty, hnum⟩ := okTop_parts hok
    rw [TT.tm_k] at h1 h9 hty hnum hl hb
    rw [TT.tm_n] at hnum
    rw [TT.tm_t, TT.tm_f] at hty
    rw [TT.tm_l, List.length_map] at hl
    have hbd := okNum_bound (by omega) hnum
    by_cases hk : x.k = 1 ∨ x.k = 2 ∨ x.k = 3
    · have e : tmText (n + 1) x.tm = if x.k = 1 then 35 :: Lib.itoa x.n else if x.k = 2 then Lib.itoa x.n else truthW x.n := by
        simp only [tmText, TT.tm_k, TT.tm_n]
        split
        · rfl
        · split
          · rfl
          · rw [if_pos (by omega)]
      rw [e]
      refine termText_word x w hg hk hbd.1 hbd.2 (fun h3 => ?_)
      rw [okNum, if_neg (by omega), if_neg (by omega), if_pos h3] at hnum
      simpa using hnum
    · have hp := parts_le x.k
      have e : tmText (n + 1) x.tm = (40 :: kindW x.k ++ (if tells x.k = true then 32 :: tyText 4 x.t.ty else [])) ++ x.l.flatMap (fun y => 32 :: tmText n y.tm) ++ [41] := by
        simp only [tmText, TT.tm_k, TT.tm_n, TT.tm_t, TT.tm_l]
        rw [if_neg (by omega), if_neg (by omega), if_neg (by omega), List.flatMap_map]
      rw [e]
      have hins : insOf x.k (ins : Int) = ((if x.k = 7 then ins + 1 else ins : Nat) : Int) := by unfold insOf; split <;> simp
      rw [hins, TT.tm_l, bindL_map] at hb
      refine termText_parts x w hg hx (by omega) h9 (by omega) (fun ht => ?_) (fun y => tmText n y.tm) _ rfl (fun j hj => ?_) (fun j hj W hgW hW => ?_)
      · simp only [okTypes, Bool.and_eq_true] at hty
        rw [ht, if_pos rfl] at hty
        exact hty.2
      · obtain ⟨q1, q2, hq1, hq⟩ := bindL_at (fun y q q' h => goodS_le 0 n _ _ q q' h) hb j hj
        have := tmText_len n (if x.k = 7 then ins + 1 else ins) x.l[j].tm q1 q2 (by split <;> omega) hq
        show (tmText n x.l[j].tm).length ≤ 1000000
        omega
      · obtain ⟨q1, q2, hq1, hq⟩ := bindL_at (fun y q q' h => goodS_le 0 n _ _ q q' h) hb j hj
        exact ih (by omega) (if x.k = 7 then ins + 1 else ins) x.l[j] q1 q2 W (by split <;> omega) (by omega) hq hgW hW

def PrPost (x : Tm) (w : World) (e : Ending) (w' : World) : Prop :=
  ∃ (s : ByteArray) (er : Int), e = .returned (.tuple #[.string s, .int .i64 er]) ∧ Below w.heap.size w w' ∧
    ((goodM 0 x = false ∧ s = bw [] ∧ er = 1) ∨ (goodM 0 x = true ∧ 1000 < (tmText 40 x).length ∧ s = bw [] ∧ er = 4) ∨ (goodM 0 x = true ∧ (tmText 40 x).length ≤ 1000 ∧ s = bw (tmText 40 x) ∧ er = 0))

theorem bw_size (a : List UInt8) : (bw a).size = a.length := by
  show a.toArray.size = a.length
  simp

set_option maxRecDepth 20000 in
set_option maxHeartbeats 1000000 in
/-- term.Print. -/
theorem print_any (x : TT) (w : World) (hg : Gl w) (hx : x.In w) (hnb : x.nb) :
    Calls Tryz.prog 7 #[.agg #[.int .i64 x.k, .int .i64 x.n, .int .i64 x.t.k, .slice x.t.a x.t.l.length x.t.c, .int .i64 x.f.k, .slice x.f.a x.f.l.length x.f.c, .slice x.a x.l.length x.c]] w (PrPost x.tm w) := by
  have hb0 : ∀ o, Below w.heap.size w (w.alloc o) := fun o => (Below.refl _ _).alloc (Nat.le_refl _) _
  obtain ⟨g, hgd⟩ : ∃ g, goodM 0 x.tm = g := ⟨_, rfl⟩
  have HGD : Hid (∀ o, Calls Tryz.prog 9 #[.agg #[.int .i64 x.k, .int .i64 x.n, .int .i64 x.t.k, .slice x.t.a x.t.l.length x.t.c, .int .i64 x.f.k, .slice x.f.a x.f.l.length x.f.c, .slice x.a x.l.length x.c], .int .i64 0] (w.alloc o) fun e w' => e = .returned (.bool g) ∧ Below (w.alloc o).heap.size (w.alloc o) w') := by
    intro o
    have := goodTm_any x 0 _ (hg.below (hb0 o)).gp (hx.below (hb0 o)) hnb
    rw [hgd] at this
    exact this
  have HGG : Hid (goodM 0 x.tm = g) := hgd
  have HG : Hid (Gl w ∧ x.In w) := ⟨hg, hx⟩
  have HB : Hid (∀ o, Below w.heap.size w (w.alloc o)) := hb0
  clear hg hx hnb hgd hb0
  cases g with
  | false =>
    go_enter Tryz.func7, Tryz.ntmps7
    go_wp2_with fail
    refine (HGD.out _).mono ?_
    rintro e w1 ⟨rfl, hb1⟩
    have HF : Hid (PrPost x.tm w (.returned (.tuple #[.string ⟨#[]⟩, .int .i64 1])) w1) := ⟨_, _, rfl, (HB.out _).trans (hb1.mono (by simp)), .inl ⟨HGG.out, rfl, rfl⟩⟩
    clear hb1
    go_wp2_with fail
    go_ret2
    exact HF.out
  | true =>
    obtain ⟨r', hr⟩ := Option.isSome_iff_exists.1 HGG.out
    have hr0 : goodS 0 40 ((0 : Nat) : Int) x.tm 40 = some r' := hr
    have hl := (tmText_len 40 0 x.tm 40 r' (by omega) hr0).2
    obtain ⟨T, hT⟩ : ∃ T, tmText 40 x.tm = T := ⟨_, rfl⟩
    have HTT : Hid (∀ W, Gl W → x.In W → Calls Tryz.prog 22 #[.agg #[.int .i64 x.k, .int .i64 x.n, .int .i64 x.t.k, .slice x.t.a x.t.l.length x.t.c, .int .i64 x.f.k, .slice x.f.a x.f.l.length x.f.c, .slice x.a x.l.length x.c]] W fun e w' => e = .returned (.string (bw T)) ∧ Below W.heap.size W w') := by
      intro W hgW hxW
      have := termText_any 40 (by omega) 0 x 40 r' W (by omega) (by omega) hr0 hgW hxW
      rw [hT] at this
      exact this
    have HT : Hid (tmText 40 x.tm = T) := hT
    have hsz := bw_size T
    have hsz2 : (bw T).size ≤ 100000 := by rw [hsz, ← hT]; omega
    by_cases hlong : 1000 < (bw T).size
    · have i1 : (1000 : Int) < ((bw T).size : Int) := by omega
      have HL : Hid (1000 < (tmText 40 x.tm).length) := by rw [HT.out, ← hsz]; exact hlong
      clear hl hr hr0 hT hsz hlong
      go_enter Tryz.func7, Tryz.ntmps7
      go_wp2_with fail
      refine (HGD.out _).mono ?_
      rintro e w1 ⟨rfl, hb1⟩
      have hbw : Below w.heap.size w w1 := (HB.out _).trans (hb1.mono (by simp))
      have h7 : At7 w1 w.heap.size 0 x := At7.below hb1 (by constructor <;> simp [go_sem])
      have c0 := h7.c0
      have c1 := h7.c1
      have c2 := h7.c2
      have c3 := h7.c3
      have c4 := h7.c4
      have c5 := h7.c5
      have c6 := h7.c6
      simp only [Nat.zero_add] at c0 c1 c2 c3 c4 c5 c6
      clear h7 hb1
      go_wp2_with fail
      refine (HTT.out _ (HG.out.1.below hbw) (HG.out.2.below hbw)).mono ?_
      rintro e w2 ⟨rfl, hb2⟩
      have HF : Hid (PrPost x.tm w (.returned (.tuple #[.string ⟨#[]⟩, .int .i64 4])) w2) := ⟨_, _, rfl, hbw.trans (hb2.mono hbw.size), .inr (.inl ⟨HGG.out, HL.out, rfl, rfl⟩)⟩
      clear hb2 hbw c0 c1 c2 c3 c4 c5 c6
      go_wp2_with fail
      go_ret2
      exact HF.out
    · have i1 : ¬ (1000 : Int) < ((bw T).size : Int) := by omega
      have hl9 : (tmText 40 x.tm).length ≤ 1000 := by rw [hT, ← hsz]; omega
      have HL : Hid ((tmText 40 x.tm).length ≤ 1000) := hl9
      clear hl9
      clear hl hr hr0 hT hsz hlong
      go_enter Tryz.func7, Tryz.ntmps7
      go_wp2_with fail
      refine (HGD.out _).mono ?_
      rintro e w1 ⟨rfl, hb1⟩
      have hbw : Below w.heap.size w w1 := (HB.out _).trans (hb1.mono (by simp))
      have h7 : At7 w1 w.heap.size 0 x := At7.below hb1 (by constructor <;> simp [go_sem])
      have c0 := h7.c0
      have c1 := h7.c1
      have c2 := h7.c2
      have c3 := h7.c3
      have c4 := h7.c4
      have c5 := h7.c5
      have c6 := h7.c6
      simp only [Nat.zero_add] at c0 c1 c2 c3 c4 c5 c6
      clear h7 hb1
      go_wp2_with fail
      refine (HTT.out _ (HG.out.1.below hbw) (HG.out.2.below hbw)).mono ?_
      rintro e w2 ⟨rfl, hb2⟩
      have HF : Hid (PrPost x.tm w (.returned (.tuple #[.string (bw T), .int .i64 0])) w2) := ⟨_, _, rfl, hbw.trans (hb2.mono hbw.size), .inr (.inr ⟨HGG.out, HL.out, by rw [HT.out], rfl⟩)⟩
      clear hb2 hbw c0 c1 c2 c3 c4 c5 c6
      go_wp2_with fail
      go_ret2
      exact HF.out
end Go.Proofs.YtnddkmccagiclaaGreatDoor

/-
  What the call of chaperoneref.typeText answers at good types.
-/
namespace Go.Proofs.YtnddkmccagiclaaGreatDoor
open Go.RowKit

set_option maxHeartbeats 1000000 in
theorem refText_leaf (k : Int) (hk : k = 0 ∨ k = 1 ∨ k = 2) (a : Option Addr) (c m : Nat) (w : World) :
    Calls Tryz.prog 41 #[.agg #[.int .i64 k, .slice a m c]] w fun e w' => e = .returned (.string (bw (typeW k))) ∧ Below w.heap.size w w' := by
  have hbw : ∀ o, Below w.heap.size w (w.alloc o) := fun o => (Below.refl _ _).alloc (Nat.le_refl _) _
  rcases hk with rfl | rfl | rfl
  · go_enter Tryz.func41, Tryz.ntmps41
    go_wp2_with fail
    go_ret
    exact ⟨rfl, hbw _⟩
  · go_enter Tryz.func41, Tryz.ntmps41
    go_wp2_with fail
    go_ret
    exact ⟨rfl, hbw _⟩
  · go_enter Tryz.func41, Tryz.ntmps41
    go_wp2_with fail
    go_ret
    exact ⟨rfl, hbw _⟩

set_option maxRecDepth 20000 in
set_option maxHeartbeats 2000000 in
theorem refText_fun (b o c : Nat) (x y : Tr) (tf : Tr → List UInt8) (hlx : (tf x).length ≤ 1000000) (hly : (tf y).length ≤ 1000000) (w : World)
    (x0 : w.cell? ⟨b, o, none⟩ = some (.int .i64 x.k)) (x1 : w.cell? ⟨b, o + 1, none⟩ = some (.slice x.a x.l.length x.c))
    (y0 : w.cell? ⟨b, o + 2, none⟩ = some (.int .i64 y.k)) (y1 : w.cell? ⟨b, o + 3, none⟩ = some (.slice y.a y.l.length y.c))
    (G : Hid (∀ (q : Tr) W, (q = x ∨ q = y) → Below w.heap.size w W → Calls Tryz.prog 41 #[.agg #[.int .i64 q.k, .slice q.a q.l.length q.c]] W fun e w' => e = .returned (.string (bw (tf q))) ∧ Below W.heap.size W w')) :
    Calls Tryz.prog 41 #[.agg #[.int .i64 3, .slice (some ⟨b, o, none⟩) 2 c]] w fun e w' => e = .returned (.string (bw ([40, 116, 111, 32] ++ tf x ++ [32] ++ tf y ++ [41]))) ∧ Below w.heap.size w w' := by
  have lb : b < w.heap.size := World.block_lt_of_cell? _ _ x0
  have hb0 : Below w.heap.size w (w.alloc (.cells #[.int .i64 3, .slice (some ⟨b, o, none⟩) 2 c] 24)).drew := ((Below.refl _ _).alloc (Nat.le_refl _) _).drew
  have hb1 : Below w.heap.size w (w.alloc (.cells #[.int .i64 3, .slice (some ⟨b, o, none⟩) 2 c] 24)) := ((Below.refl _ _).alloc (Nat.le_refl _) _)
  have a1 : ∀ w, (Op.stringOp .add ⟨#[40, 116, 111, 32]⟩ (bw (tf x))).run Tryz.prog w = .ok (.string (bw ([40, 116, 111, 32] ++ tf x))) w := rcat_run [40, 116, 111, 32] (tf x) (by simp; omega)
  have a2 : ∀ w, (Op.stringOp .add (bw ([40, 116, 111, 32] ++ tf x)) ⟨#[32]⟩).run Tryz.prog w = .ok (.string (bw ([40, 116, 111, 32] ++ tf x ++ [32]))) w := rcat_run ([40, 116, 111, 32] ++ tf x) [32] (by simp; omega)
  have a3 : ∀ w, (Op.stringOp .add (bw ([40, 116, 111, 32] ++ tf x ++ [32])) (bw (tf y))).run Tryz.prog w = .ok (.string (bw ([40, 116, 111, 32] ++ tf x ++ [32] ++ tf y))) w := rcat_run ([40, 116, 111, 32] ++ tf x ++ [32]) (tf y) (by simp; omega)
  have a4 : ∀ w, (Op.stringOp .add (bw ([40, 116, 111, 32] ++ tf x ++ [32] ++ tf y)) ⟨#[41]⟩).run Tryz.prog w = .ok (.string (bw ([40, 116, 111, 32] ++ tf x ++ [32] ++ tf y ++ [41]))) w := rcat_run ([40, 116, 111, 32] ++ tf x ++ [32] ++ tf y) [41] (by simp; omega)
  obtain ⟨v1, hv1⟩ : ∃ v, bw ([40, 116, 111, 32] ++ tf x) = v := ⟨_, rfl⟩
  obtain ⟨v2, hv2⟩ : ∃ v, bw ([40, 116, 111, 32] ++ tf x ++ [32]) = v := ⟨_, rfl⟩
  obtain ⟨v3, hv3⟩ : ∃ v, bw ([40, 116, 111, 32] ++ tf x ++ [32] ++ tf y) = v := ⟨_, rfl⟩
  obtain ⟨v4, hv4⟩ : ∃ v, bw ([40, 116, 111, 32] ++ tf x ++ [32] ++ tf y ++ [41]) = v := ⟨_, rfl⟩
  rw [hv1] at a1 a2
  rw [hv2] at a2 a3
  rw [hv3] at a3 a4
  rw [hv4] at a4
  rw [hv4]
  clear hv1 hv2 hv3 hv4
  go_enter Tryz.func41, Tryz.ntmps41
  go_wp2_with fail
  go_region_held3 (fun w' => Below w.heap.size w w' ∧ w'.cell? ⟨w.heap.size, 1, none⟩ = some (.slice (some ⟨b, o, none⟩) 2 c) ∧ w'.cell? ⟨b, o, none⟩ = some (.int .i64 x.k) ∧ w'.cell? ⟨b, o + 1, none⟩ = some (.slice x.a x.l.length x.c) ∧ w'.cell? ⟨b, o + 2, none⟩ = some (.int .i64 y.k) ∧ w'.cell? ⟨b, o + 3, none⟩ = some (.slice y.a y.l.length y.c))
    (first
      | exact ⟨hb0, by simp [go_sem], cell_later hb0 x0, cell_later hb0 x1, cell_later hb0 y0, cell_later hb0 y1⟩
      | (go_split_ands; exact ⟨Below.trans (by assumption) ((h53).mono (Below.size (by assumption))), cell_later h53 (by assumption), cell_later h53 (by assumption), cell_later h53 (by assumption), cell_later h53 (by assumption), cell_later h53 (by assumption)⟩)
      | go_keep)
    (first
      | (go_at_call 41; go_split_ands; refine (G.out _ _ ?_ (by assumption)).mono ?_; (first | exact .inl rfl | exact .inr rfl); rintro e w53 ⟨rfl, h53⟩))
  go_split_ands
  have hbe : Below w.heap.size w w53 := by assumption
  go_wp2_with fail
  go_ret
  exact ⟨rfl, hbe⟩

/-- typeText. -/
theorem refText_any (n : Nat) : n ≤ 10 → ∀ (t : Tr) (w : World), goodY n t.ty = true → t.In w →
    Calls Tryz.prog 41 #[.agg #[.int .i64 t.k, .slice t.a t.l.length t.c]] w fun e w' => e = .returned (.string (bw (tyText n t.ty))) ∧ Below w.heap.size w w' := by
  induction n with
  | zero => intro _ t w h; simp [goodY] at h
  | succ n ih =>
    intro hn ⟨k, a, c, l⟩ w h hin
    rw [Tr.ty_mk] at h ⊢
    match l, h, hin with
    | [], h, hin =>
      have hk : k = 0 ∨ k = 1 ∨ k = 2 := by simpa [goodY, or_assoc] using h
      have hk3 : k ≠ 3 := by omega
      have e : tyText (n + 1) ⟨k, List.map Tr.ty []⟩ = typeW k := by simp [tyText, hk3]
      rw [e]
      exact refText_leaf k hk a c 0 w
    | [x], h, hin => simp [goodY] at h
    | x :: y :: z :: r, h, hin => simp [goodY] at h
    | [x, y], h, hin =>
      simp only [List.map_cons, List.map_nil, goodY, Bool.and_eq_true, beq_iff_eq] at h
      obtain ⟨⟨rfl, hx⟩, hy⟩ := h
      obtain ⟨b, o, e0, x0, x1, hxi⟩ := hin.at 0 (by simp)
      obtain ⟨b', o', e1, y0, y1, hyi⟩ := hin.at 1 (by simp)
      rw [e0] at e1
      obtain ⟨rfl, rfl⟩ : b = b' ∧ o = o' := by simpa using e1
      subst e0
      have hp : (2 : Nat) ^ n ≤ 2 ^ 10 := Nat.pow_le_pow_right (by omega) (by omega)
      have lx := tyText_len n x.ty
      have ly := tyText_len n y.ty
      have h10 : (2 : Nat) ^ 10 = 1024 := by decide
      have := refText_fun b o c x y (fun q => tyText n q.ty) (by show (tyText n x.ty).length ≤ _; omega) (by show (tyText n y.ty).length ≤ _; omega) w (by simpa using x0) (by simpa using x1) (by simpa using y0) (by simpa using y1)
        (fun q W hq hb => by
          rcases hq with rfl | rfl
          · exact ih (by omega) _ W hx (hxi.below hb)
          · exact ih (by omega) _ W hy (hyi.below hb))
      exact this

end Go.Proofs.YtnddkmccagiclaaGreatDoor

/-
  What the call of strings.Join answers at this seat: the shelf's contract, laid by hand.
-/
namespace Go.Proofs
open Go.RowKit

def Tryz.lays156_ren : Go.Shelf.Ren := ⟨fun | 156 => 42 | 165 => 72 | 166 => 73 | 169 => 74 | 240 => 113 | 241 => 114 | 276 => 147 | 277 => 148 | n => n, fun | 31 => 57 | 37 => 123 | 70 => 125 | 72 => 127 | 164 => 207 | 75 => 130 | 76 => 131 | 80 => 92 | 127 => 176 | n => n, fun | n => n⟩
theorem Tryz.lays156 : Go.Proofs.Lays.n156 Tryz.prog Tryz.lays156_ren := {
  mixed := by kernel_rfl
  f156 := Tryz.func42.trans (congrArg some (by kernel_rfl))
  f165 := Tryz.func72.trans (congrArg some (by kernel_rfl))
  f166 := Tryz.func73.trans (congrArg some (by kernel_rfl))
  f169 := Tryz.func74.trans (congrArg some (by kernel_rfl))
  f240 := Tryz.func113.trans (congrArg some (by kernel_rfl))
  f241 := Tryz.func114.trans (congrArg some (by kernel_rfl))
  f276 := Tryz.func147.trans (congrArg some (by kernel_rfl))
  f277 := Tryz.func148.trans (congrArg some (by kernel_rfl))
  t0 := Tryz.underlying0
  a0 := Tryz.isAgg0
  z0 := Tryz.sizeOf0
  v0 := Tryz.zeroValue0
  t3 := Tryz.underlying3
  a3 := Tryz.isAgg3
  z3 := Tryz.sizeOf3
  v3 := Tryz.zeroValue3
  t4 := Tryz.underlying4
  a4 := Tryz.isAgg4
  z4 := Tryz.sizeOf4
  v4 := Tryz.zeroValue4
  t9 := Tryz.underlying9
  a9 := Tryz.isAgg9
  z9 := Tryz.sizeOf9
  v9 := Tryz.zeroValue9
  t20 := Tryz.underlying20
  a20 := Tryz.isAgg20
  z20 := Tryz.sizeOf20
  v20 := Tryz.zeroValue20
  t31 := Tryz.underlying57
  a31 := Tryz.isAgg57
  z31 := Tryz.sizeOf57
  v31 := Tryz.zeroValue57
  t37 := Tryz.underlying123
  a37 := Tryz.isAgg123
  z37 := Tryz.sizeOf123
  v37 := Tryz.zeroValue123
  t70 := Tryz.underlying125
  a70 := Tryz.isAgg125
  z70 := Tryz.sizeOf125
  v70 := Tryz.zeroValue125
  t72 := Tryz.underlying127
  a72 := Tryz.isAgg127
  z72 := Tryz.sizeOf127
  v72 := Tryz.zeroValue127
  t75 := Tryz.underlying130
  a75 := Tryz.isAgg130
  z75 := Tryz.sizeOf130
  v75 := Tryz.zeroValue130
  t76 := Tryz.underlying131
  a76 := Tryz.isAgg131
  z76 := Tryz.sizeOf131
  v76 := Tryz.zeroValue131
  t127 := Tryz.underlying176
  a127 := Tryz.isAgg176
  z127 := Tryz.sizeOf176
  v127 := Tryz.zeroValue176
  t164 := Tryz.underlying207
  a164 := Tryz.isAgg207
  z164 := Tryz.sizeOf207
  v164 := Tryz.zeroValue207 }
theorem Tryz.Builder_Extra_156 : Builder.Extra Tryz.prog Tryz.lays156_ren := {
  sizeBuilder := by kernel_rfl
  liesBuilder := by kernel_rfl
  t5 := Tryz.underlying5
  a5 := Tryz.isAgg5
  z5 := Tryz.sizeOf5
  v5 := Tryz.zeroValue5
  infoByte := by kernel_rfl
  cellsByte := by kernel_rfl
  sizeByte := by kernel_rfl
  neB5 := by decide }
/-- strings.Join. -/
theorem Tryz.strings_Join (bk o c : Nat) (xs : List ByteArray) (sep : ByteArray) (w : World)
    (hcells : ∀ (j : Nat) x, xs[j]? = some x → w.cell? ⟨bk, o + j, none⟩ = some (.string x))
    (hbk : bk < w.heap.size) (hN : xs.length ≤ 140737488355328) (hcap : xs.length ≤ c)
    (hlen : (Lib.join (xs.map (·.data.toList)) sep.data.toList).length ≤ 140737488355328) :
    Calls Tryz.prog 42 #[.slice (some ⟨bk, o, none⟩) xs.length c, .string sep] w fun e w' => e = .returned (.string ⟨(Lib.join (xs.map (·.data.toList)) sep.data.toList).toArray⟩) ∧ Below w.heap.size w w' :=
  Any.strings_Join Tryz.lays156 Tryz.Builder_Extra_156 bk o c xs sep w hcells hbk hN hcap hlen
end Go.Proofs

/-
  What the calls of kind.join and kind.Join do at two right trees of which the first has no more levels than there is room for.
-/
namespace Go.Proofs.YtnddkmccagiclaaGreatDoor
open Go.RowKit

/-- But for two cells of one block the memory that was there is as it was. -/
structure Wrote (ib io : Nat) (w w' : World) : Prop where
  os : w'.os = w.os
  tape : w'.tape = w.tape
  output : w'.output = w.output
  size : w.heap.size ≤ w'.heap.size
  block : ∀ k, k < w.heap.size → k ≠ ib → w'.heap[k]? = w.heap[k]?
  cell : ∀ o, o ≠ io → o ≠ io + 1 → w'.cell? ⟨ib, o, none⟩ = w.cell? ⟨ib, o, none⟩
  frozen : ∀ o, w'.frozen? ⟨ib, o, none⟩ = w.frozen? ⟨ib, o, none⟩

theorem Wrote.alloc {ib io : Nat} {w w' : World} (h : Wrote ib io w w') (hi : ib < w.heap.size) (o : Obj) : Wrote ib io w (w'.alloc o) :=
  have hs := h.size
  have hb : Below w'.heap.size w' (w'.alloc o) := (Below.refl _ _).alloc (Nat.le_refl _) o
  ⟨h.os, h.tape, h.output, by rw [World.size_alloc]; omega, fun k hk hne => (hb.block k (by omega)).trans (h.block k hk hne), fun q h0 h1 => (hb.cell (p := ⟨ib, q, none⟩) (by simp; omega)).trans (h.cell q h0 h1), fun q => (hb.frozen (p := ⟨ib, q, none⟩) (by simp; omega)).trans (h.frozen q)⟩

theorem Wrote.of_below {ib io : Nat} {w w' : World} (h : Below w.heap.size w w') (hi : ib < w.heap.size) : Wrote ib io w w' :=
  ⟨h.os, h.tape, h.output, h.size, fun k hk _ => h.block k hk, fun q _ _ => h.cell (p := ⟨ib, q, none⟩) hi, fun q => h.frozen (p := ⟨ib, q, none⟩) hi⟩

theorem Wrote.set {ib io : Nat} {w w' : World} (h : Wrote ib io w w') (u v : Value) : Wrote ib io w ((w'.setCell ⟨ib, io, none⟩ u).setCell ⟨ib, io + 1, none⟩ v) := by
  refine ⟨h.os, h.tape, h.output, ?_, fun k hk hne => ?_, fun q h0 h1 => ?_, fun q => ?_⟩
  · have hs := h.size
    simp only [World.setCell, Array.size_modify]; exact hs
  · rw [Below.heap_setCell _ _ _ _ hne, Below.heap_setCell _ _ _ _ hne]; exact h.block k hk hne
  · rw [World.cell?_setCell_other, World.cell?_setCell_other]
    · exact h.cell q h0 h1
    · intro e; simp only [Addr.mk.injEq] at e; omega
    · intro e; simp only [Addr.mk.injEq] at e; omega
  · rw [World.frozen?_setCell, World.frozen?_setCell]; exact h.frozen q

theorem set_cells {ib io : Nat} {w : World} {u v u' v' : Value} (h0 : w.cell? ⟨ib, io, none⟩ = some u') (h1 : w.cell? ⟨ib, io + 1, none⟩ = some v') :
    ((w.setCell ⟨ib, io, none⟩ u).setCell ⟨ib, io + 1, none⟩ v).cell? ⟨ib, io, none⟩ = some u ∧ ((w.setCell ⟨ib, io, none⟩ u).setCell ⟨ib, io + 1, none⟩ v).cell? ⟨ib, io + 1, none⟩ = some v := by
  have hne : (⟨ib, io + 1, none⟩ : Addr) ≠ ⟨ib, io, none⟩ := by intro e; simp only [Addr.mk.injEq] at e; omega
  constructor
  · rw [World.cell?_setCell_other _ _ _ _ hne]; exact World.cell?_setCell_same _ _ _ h0
  · refine World.cell?_setCell_same _ _ _ (u := v') ?_
    rw [World.cell?_setCell_other _ _ _ _ (Ne.symm hne)]; exact h1

/-- What the call of join leaves: what both say, in new memory, but for the two cells that it was to be written into. -/
def Joined (x y : Tr) (ib io : Nat) (w w' : World) : Prop :=
  ∃ t : Tr, t.ty = joinY x.ty y.ty ∧ t.In w' ∧ t.Bl (w.heap.size ≤ ·) ∧ w'.cell? ⟨ib, io, none⟩ = some (.int .i64 t.k) ∧ w'.cell? ⟨ib, io + 1, none⟩ = some (.slice t.a t.l.length t.c) ∧ Wrote ib io w w'

/-- The two parts while they are made. -/
def JI (W1 : World) (P : Nat) (x0 x1 y0 y1 : Tr) (j : Nat) (wr : World) : Prop :=
  Below P W1 wr ∧ (∀ o, wr.frozen? ⟨P, o, none⟩ = false) ∧ ∃ s0 s1 : Tr, s0.In wr ∧ s1.In wr ∧ s0.Bl (P < ·) ∧ s1.Bl (P < ·) ∧
    wr.cell? ⟨P, 0, none⟩ = some (.int .i64 s0.k) ∧ wr.cell? ⟨P, 1, none⟩ = some (.slice s0.a s0.l.length s0.c) ∧ wr.cell? ⟨P, 2, none⟩ = some (.int .i64 s1.k) ∧ wr.cell? ⟨P, 3, none⟩ = some (.slice s1.a s1.l.length s1.c) ∧
    (0 < j → s0.ty = joinY x0.ty y0.ty) ∧ (1 < j → s1.ty = joinY x1.ty y1.ty) ∧ (j ≤ 0 → s0 = leaf 0) ∧ (j ≤ 1 → s1 = leaf 0)

theorem Wrote.under {ib io : Nat} {w w' : World} (h : Wrote ib io w w') (hi : ib ≤ w.heap.size) : Below ib w w' :=
  ⟨h.os, h.tape, h.output, h.size, fun k hk => h.block k (by omega) (by omega)⟩

theorem Joined.under {x y : Tr} {P io : Nat} {w w' : World} (h : Joined x y P io w.drew w') (hP : P ≤ w.heap.size) : Below P w w' := by
  obtain ⟨_, _, _, _, _, _, hw⟩ := h
  exact ((Below.refl _ _).drew).trans (hw.under hP)

/-- What lies in other blocks stays. -/
theorem Wrote.keeps {ib io : Nat} {w w' : World} (h : Wrote ib io w w') {t : Tr} (hin : t.In w) (hne : t.Bl (· ≠ ib)) : t.In w' := by
  refine hin.congr (P := fun b => b < w.heap.size ∧ b ≠ ib) ?_ (hin.bl.and hne)
  rintro b ⟨hb, hn⟩ o
  exact World.cell?_of_block (a := ⟨b, o, none⟩) (h.block b hb hn)

theorem JI.start {W1 : World} {x0 x1 y0 y1 : Tr} : JI W1 W1.heap.size x0 x1 y0 y1 0 (W1.alloc (.cells #[.int .i64 0, .slice none 0 0, .int .i64 0, .slice none 0 0] 24)) := by
  refine ⟨(Below.refl _ _).alloc (Nat.le_refl _) _, fun o => by simp [go_sem], leaf 0, leaf 0, leaf_in _ _, leaf_in _ _, leaf_bl _ _, leaf_bl _ _, by simp [go_sem, leaf], by simp [go_sem, leaf], by simp [go_sem, leaf], by simp [go_sem, leaf], fun h => absurd h (by omega), fun h => absurd h (by omega), fun _ => rfl, fun _ => rfl⟩

theorem JI.step0 {W1 wr w2 : World} {P : Nat} {x0 x1 y0 y1 : Tr} (h : JI W1 P x0 x1 y0 y1 0 wr) (hj : Joined x0 y0 P 0 wr.drew w2) : JI W1 P x0 x1 y0 y1 1 w2 := by
  obtain ⟨hb, hf, s0, s1, i0, i1, b0, b1, c0, c1, c2, c3, t0, t1, z0, z1⟩ := h
  obtain ⟨t, ht, hin, hbl, d0, d1, hw⟩ := hj
  have hP : P < wr.heap.size := World.block_lt_of_cell? _ _ c0
  refine ⟨hb.drew.trans (hw.under (Nat.le_of_lt hP)), fun o => (hw.frozen o).trans (hf o), t, s1, hin, hw.keeps (w := wr.drew) (i1.below ((Below.refl _ _).drew)) (b1.mono fun b hb => by omega), hbl.mono (fun b hb => Nat.lt_of_lt_of_le hP hb), b1, d0, d1, (hw.cell 2 (by omega) (by omega)).trans c2, (hw.cell 3 (by omega) (by omega)).trans c3, fun _ => ht, fun h => absurd h (by omega), fun h => absurd h (by omega), fun _ => z1 (by omega)⟩

theorem JI.step1 {W1 wr w2 : World} {P : Nat} {x0 x1 y0 y1 : Tr} (h : JI W1 P x0 x1 y0 y1 1 wr) (hj : Joined x1 y1 P 2 wr.drew w2) : JI W1 P x0 x1 y0 y1 2 w2 := by
  obtain ⟨hb, hf, s0, s1, i0, i1, b0, b1, c0, c1, c2, c3, t0, t1, z0, z1⟩ := h
  obtain ⟨t, ht, hin, hbl, d0, d1, hw⟩ := hj
  have hP : P < wr.heap.size := World.block_lt_of_cell? _ _ c0
  refine ⟨hb.drew.trans (hw.under (Nat.le_of_lt hP)), fun o => (hw.frozen o).trans (hf o), s0, t, hw.keeps (w := wr.drew) (i0.below ((Below.refl _ _).drew)) (b0.mono fun b hb => by omega), hin, b0, hbl.mono (fun b hb => Nat.lt_of_lt_of_le hP hb), (hw.cell 0 (by omega) (by omega)).trans c0, (hw.cell 1 (by omega) (by omega)).trans c1, d0, d1, fun _ => t0 (by omega), fun _ => ht, fun h => absurd h (by omega), fun h => absurd h (by omega)⟩

theorem Tryz.info24 : (Tryz.prog.info? 24).map (fun i => (i.zero, i.size, i.bytes)) = some (some (.agg #[.int .i64 0, .slice none 0 0]), 2, 32) := by kernel_rfl

theorem make0 (w : World) : (Instr.makeSlice 22 (.int .i64 0) (.int .i64 0)).run Tryz.prog w = .ok (.slice (some ⟨w.heap.size, 0, none⟩) 0 0) (w.alloc (.cells #[] 24)) := by
  obtain ⟨i0, hi0, hz0, hz1, hz2⟩ := info_parts Tryz.info24
  have h := run_make (P := Tryz.prog) w 22 24 i0 _ Tryz.underlying22 hi0 hz0 .i64 .i64 0 0 (by omega) (by omega) (by omega) (by omega)
  rw [h, hz1]
  have e : madeCells (Value.agg #[.int .i64 0, .slice none 0 0]).cells (Int.toNat 0 * 2) = #[] := by
    apply Array.ext'
    simp [madeCells, Array.range_zero']
  rw [e]
  rfl

theorem make2 (w : World) : (Instr.makeSlice 22 (.int .i64 2) (.int .i64 2)).run Tryz.prog w = .ok (.slice (some ⟨w.heap.size, 0, none⟩) 2 2) (w.alloc (.cells #[.int .i64 0, .slice none 0 0, .int .i64 0, .slice none 0 0] 24)) := by
  obtain ⟨i0, hi0, hz0, hz1, hz2⟩ := info_parts Tryz.info24
  have h := run_make (P := Tryz.prog) w 22 24 i0 _ Tryz.underlying22 hi0 hz0 .i64 .i64 2 2 (by omega) (by omega) (by rw [hz2]; omega) (by omega)
  rw [h, hz1]
  have e : madeCells (Value.agg #[.int .i64 0, .slice none 0 0]).cells (Int.toNat 2 * 2) = #[.int .i64 0, .slice none 0 0, .int .i64 0, .slice none 0 0] := by
    apply Array.ext'
    simp [madeCells, Value.cells, List.range_succ]
  rw [e]
  rfl

set_option maxHeartbeats 400000 in
theorem join_diff (n : Nat) (hn : n ≤ 1000) (k k' : Int) (hk : (k != k') = true) (a a' p rp : Option Addr) (m m' c c' : Nat) (w : World) :
    Calls Tryz.prog 109 #[.agg #[.int .i64 k, .slice a m c, .int .i64 k', .slice a' m' c', .pointer p], .int .i64 ((n : Int) + 1), .pointer rp] w fun e w' => e = .returned (.tuple #[]) ∧ w' = w.alloc (.cells #[.int .i64 k, .slice a m c, .int .i64 k', .slice a' m' c', .pointer p] 168) := by
  have hz : (((n : Int) + 1) == 0) = false := by simp; omega
  go_enter Tryz.func109, Tryz.ntmps109
  go_wp2_with fail
  exact bodyPost_ret (v := .tuple #[]) (by simp [results, Tryz.results109, go_sem]) rfl ⟨rfl, rfl⟩

set_option maxHeartbeats 400000 in
theorem join_leaf (n : Nat) (hn : n ≤ 1000) (k : Int) (a a' rp : Option Addr) (c c' ib io : Nat) (w : World) (z0 : w.cell? ⟨ib, io, none⟩ = some (.int .i64 0)) (z1 : w.cell? ⟨ib, io + 1, none⟩ = some (.slice none 0 0)) (f0 : w.frozen? ⟨ib, io, none⟩ = false) (f1 : w.frozen? ⟨ib, io + 1, none⟩ = false) :
    Calls Tryz.prog 109 #[.agg #[.int .i64 k, .slice a 0 c, .int .i64 k, .slice a' 0 c', .pointer (some ⟨ib, io, none⟩)], .int .i64 ((n : Int) + 1), .pointer rp] w fun e w' => e = .returned (.tuple #[]) ∧ ∃ g, w'.cell? ⟨ib, io, none⟩ = some (.int .i64 k) ∧ w'.cell? ⟨ib, io + 1, none⟩ = some (.slice (some ⟨g, 0, none⟩) 0 0) ∧ Wrote ib io w w' := by
  have hz : (((n : Int) + 1) == 0) = false := by simp; omega
  have lb : ib < w.heap.size := World.block_lt_of_cell? _ _ z0
  have hmk := make0
  go_enter Tryz.func109, Tryz.ntmps109
  go_wp2_with fail
  go_loopw [32] (fun i wr => i = .int .i64 0 ∧ wr = (w.alloc (.cells #[.int .i64 k, .slice a 0 c, .int .i64 k, .slice a' 0 c', .pointer (some ⟨ib, io, none⟩)] 168)).alloc (.cells #[] 24)) (fun _ _ => 0)
  case atStart => exact ⟨rfl, rfl⟩
  case round =>
    obtain ⟨rfl, rfl⟩ := hrel
    go_wp2_with fail
    go_end0
    refine ⟨rfl, w.heap.size + 1, ?_, ?_, ((Wrote.of_below (Below.refl _ _) lb).set _ _).alloc lb _ |>.alloc lb _⟩
    · refine cell_later (((Below.refl _ _).alloc (Nat.le_refl _) _).alloc (by simp) _) (set_cells z0 z1).1
    · refine cell_later (((Below.refl _ _).alloc (Nat.le_refl _) _).alloc (by simp) _) (set_cells z0 z1).2
set_option maxHeartbeats 1000000 in
theorem join_fun (n : Nat) (hn : n ≤ 1000) (rp : Option Addr) (bx ox by' oy c c' ib io : Nat) (x0 x1 y0 y1 : Tr) (w : World) (z0 : w.cell? ⟨ib, io, none⟩ = some (.int .i64 0)) (z1 : w.cell? ⟨ib, io + 1, none⟩ = some (.slice none 0 0)) (f0 : w.frozen? ⟨ib, io, none⟩ = false) (f1 : w.frozen? ⟨ib, io + 1, none⟩ = false)
    (cx0 : w.cell? ⟨bx, ox, none⟩ = some (.int .i64 x0.k)) (cx1 : w.cell? ⟨bx, ox + 1, none⟩ = some (.slice x0.a x0.l.length x0.c)) (cx2 : w.cell? ⟨bx, ox + 2, none⟩ = some (.int .i64 x1.k)) (cx3 : w.cell? ⟨bx, ox + 3, none⟩ = some (.slice x1.a x1.l.length x1.c))
    (cy0 : w.cell? ⟨by', oy, none⟩ = some (.int .i64 y0.k)) (cy1 : w.cell? ⟨by', oy + 1, none⟩ = some (.slice y0.a y0.l.length y0.c)) (cy2 : w.cell? ⟨by', oy + 2, none⟩ = some (.int .i64 y1.k)) (cy3 : w.cell? ⟨by', oy + 3, none⟩ = some (.slice y1.a y1.l.length y1.c))
    (H0 : Hid (∀ (P : Nat) (W : World), w.heap.size ≤ P → Below w.heap.size w W → W.cell? ⟨P, 0, none⟩ = some (.int .i64 0) → W.cell? ⟨P, 0 + 1, none⟩ = some (.slice none 0 0) → (∀ o, W.frozen? ⟨P, o, none⟩ = false) → Calls Tryz.prog 109 #[.agg #[.int .i64 x0.k, .slice x0.a x0.l.length x0.c, .int .i64 y0.k, .slice y0.a y0.l.length y0.c, .pointer (some ⟨P, 0, none⟩)], .int .i64 (n : Int), .pointer rp] W fun e w' => e = .returned (.tuple #[]) ∧ Joined x0 y0 P 0 W w'))
    (H1 : Hid (∀ (P : Nat) (W : World), w.heap.size ≤ P → Below w.heap.size w W → W.cell? ⟨P, 2, none⟩ = some (.int .i64 0) → W.cell? ⟨P, 2 + 1, none⟩ = some (.slice none 0 0) → (∀ o, W.frozen? ⟨P, o, none⟩ = false) → Calls Tryz.prog 109 #[.agg #[.int .i64 x1.k, .slice x1.a x1.l.length x1.c, .int .i64 y1.k, .slice y1.a y1.l.length y1.c, .pointer (some ⟨P, 2, none⟩)], .int .i64 (n : Int), .pointer rp] W fun e w' => e = .returned (.tuple #[]) ∧ Joined x1 y1 P 2 W w')) :
    Calls Tryz.prog 109 #[.agg #[.int .i64 3, .slice (some ⟨bx, ox, none⟩) 2 c, .int .i64 3, .slice (some ⟨by', oy, none⟩) 2 c', .pointer (some ⟨ib, io, none⟩)], .int .i64 ((n : Int) + 1), .pointer rp] w fun e w' => e = .returned (.tuple #[]) ∧ ∃ W1 wr P, w.heap.size ≤ P ∧ Below w.heap.size w wr ∧ JI W1 P x0 x1 y0 y1 2 wr ∧ w' = (wr.setCell ⟨ib, io, none⟩ (.int .i64 3)).setCell ⟨ib, io + 1, none⟩ (.slice (some ⟨P, 0, none⟩) 2 2) := by
  have hz : (((n : Int) + 1) == 0) = false := by simp; omega
  have lb : ib < w.heap.size := World.block_lt_of_cell? _ _ z0
  have lbx : bx < w.heap.size := World.block_lt_of_cell? _ _ cx0
  have lby : by' < w.heap.size := World.block_lt_of_cell? _ _ cy0
  have hmk := make2
  have hwr : IntKind.i64.wrap (n : Int) = (n : Int) := by rw [IntKind.wrap_i64]; omega
  go_enter Tryz.func109, Tryz.ntmps109
  go_wp2_with fail
  go_loopg [32] 2 (fun k i wr => ∃ j : Nat, k + j = 2 ∧ i = .int .i64 (j : Int) ∧ JI (w.alloc (.cells #[.int .i64 3, .slice (some ⟨bx, ox, none⟩) 2 c, .int .i64 3, .slice (some ⟨by', oy, none⟩) 2 c', .pointer (some ⟨ib, io, none⟩)] 168)) (w.heap.size + 1) x0 x1 y0 y1 j wr)
  case atStart => exact ⟨0, rfl, rfl, by simpa using JI.start (W1 := w.alloc (.cells #[.int .i64 3, .slice (some ⟨bx, ox, none⟩) 2 c, .int .i64 3, .slice (some ⟨by', oy, none⟩) 2 c', .pointer (some ⟨ib, io, none⟩)] 168)) (x0 := x0) (x1 := x1) (y0 := y0) (y1 := y1)⟩
  case round =>
    obtain ⟨j, hj, rfl, hji⟩ := hrel
    have HJ : Hid (JI (w.alloc (.cells #[.int .i64 3, .slice (some ⟨bx, ox, none⟩) 2 c, .int .i64 3, .slice (some ⟨by', oy, none⟩) 2 c', .pointer (some ⟨ib, io, none⟩)] 168)) (w.heap.size + 1) x0 x1 y0 y1 j wr) := hji
    obtain ⟨hb, hf, s0, s1, i0, i1, b0, b1, d0, d1, d2, d3, t0, t1, e0, e1⟩ := hji
    have hbw : Below w.heap.size w wr := ((Below.refl _ _).alloc (Nat.le_refl _) _).trans (hb.mono (by omega))
    have q1 : wr.cell? ⟨w.heap.size, 1, none⟩ = some (.slice (some ⟨bx, ox, none⟩) 2 c) := by rw [hb.cell (p := ⟨w.heap.size, 1, none⟩) (by simp)]; simp [go_sem]
    have q3 : wr.cell? ⟨w.heap.size, 3, none⟩ = some (.slice (some ⟨by', oy, none⟩) 2 c') := by rw [hb.cell (p := ⟨w.heap.size, 3, none⟩) (by simp)]; simp [go_sem]
    have q4 : wr.cell? ⟨w.heap.size, 4, none⟩ = some (.pointer (some ⟨ib, io, none⟩)) := by rw [hb.cell (p := ⟨w.heap.size, 4, none⟩) (by simp)]; simp [go_sem]
    have q0 : wr.cell? ⟨w.heap.size, 0, none⟩ = some (.int .i64 3) := by rw [hb.cell (p := ⟨w.heap.size, 0, none⟩) (by simp)]; simp [go_sem]
    replace cx0 := cell_later hbw cx0
    replace cx1 := cell_later hbw cx1
    replace cx2 := cell_later hbw cx2
    replace cx3 := cell_later hbw cx3
    replace cy0 := cell_later hbw cy0
    replace cy1 := cell_later hbw cy1
    replace cy2 := cell_later hbw cy2
    replace cy3 := cell_later hbw cy3
    have hP : w.heap.size + 1 ≤ wr.heap.size := Nat.le_of_lt (World.block_lt_of_cell? _ _ d0)
    obtain rfl | rfl | rfl : j = 0 ∨ j = 1 ∨ j = 2 := by omega
    · obtain rfl := e0 (by omega)
      have HG : Hid ((wr.drew.cell? ⟨w.heap.size + 1, 0, none⟩ = some (.int .i64 0)) ∧ (wr.drew.cell? ⟨w.heap.size + 1, 0 + 1, none⟩ = some (.slice none 0 0)) ∧ ∀ o, wr.drew.frozen? ⟨w.heap.size + 1, o, none⟩ = false) := ⟨d0, d1, hf⟩
      clear hf i0 i1 b0 b1 d0 d1 d2 d3 t0 t1 e0 e1 z0 z1 f0 f1 q0 q4
      go_wp2_with fail
      go_region_held3 (fun w' => w'.cell? ⟨w.heap.size, 1, none⟩ = some (.slice (some ⟨bx, ox, none⟩) 2 c) ∧ w'.cell? ⟨w.heap.size, 3, none⟩ = some (.slice (some ⟨by', oy, none⟩) 2 c') ∧ w'.cell? ⟨bx, ox, none⟩ = some (.int .i64 x0.k) ∧ w'.cell? ⟨bx, ox + 1, none⟩ = some (.slice x0.a x0.l.length x0.c) ∧ w'.cell? ⟨by', oy, none⟩ = some (.int .i64 y0.k) ∧ w'.cell? ⟨by', oy + 1, none⟩ = some (.slice y0.a y0.l.length y0.c))
        (first
          | exact ⟨(hu.cell (p := ⟨w.heap.size, 1, none⟩) (by simp)).trans q1, (hu.cell (p := ⟨w.heap.size, 3, none⟩) (by simp)).trans q3, (hu.cell (p := ⟨bx, _, none⟩) (Nat.lt_succ_of_lt lbx)).trans cx0, (hu.cell (p := ⟨bx, _, none⟩) (Nat.lt_succ_of_lt lbx)).trans cx1, (hu.cell (p := ⟨by', _, none⟩) (Nat.lt_succ_of_lt lby)).trans cy0, (hu.cell (p := ⟨by', _, none⟩) (Nat.lt_succ_of_lt lby)).trans cy1⟩
          | go_keep)
        (first
          | (go_at_call 109; refine (H0.out _ _ (Nat.le_succ _) hbw.drew HG.out.1 HG.out.2.1 HG.out.2.2).mono ?_; rintro e w2 ⟨rfl, hj2⟩; have hu := hj2.under hP))
      have HJ2 : Hid (JI (w.alloc (.cells #[.int .i64 3, .slice (some ⟨bx, ox, none⟩) 2 c, .int .i64 3, .slice (some ⟨by', oy, none⟩) 2 c', .pointer (some ⟨ib, io, none⟩)] 168)) (w.heap.size + 1) x0 x1 y0 y1 1 w2) := JI.step0 HJ.out hj2
      clear hj2
      go_wp2_with fail
      go_roundg 1
      case measure => omega
      case rel => exact ⟨1, rfl, rfl, HJ2⟩
    · obtain rfl := e1 (by omega)
      have HG : Hid ((wr.drew.cell? ⟨w.heap.size + 1, 2, none⟩ = some (.int .i64 0)) ∧ (wr.drew.cell? ⟨w.heap.size + 1, 2 + 1, none⟩ = some (.slice none 0 0)) ∧ ∀ o, wr.drew.frozen? ⟨w.heap.size + 1, o, none⟩ = false) := ⟨d2, d3, hf⟩
      clear hf i0 i1 b0 b1 d0 d1 d2 d3 t0 t1 e0 e1 z0 z1 f0 f1 q0 q4
      go_wp2_with fail
      go_region_held3 (fun w' => w'.cell? ⟨w.heap.size, 1, none⟩ = some (.slice (some ⟨bx, ox, none⟩) 2 c) ∧ w'.cell? ⟨w.heap.size, 3, none⟩ = some (.slice (some ⟨by', oy, none⟩) 2 c') ∧ w'.cell? ⟨bx, ox + 2, none⟩ = some (.int .i64 x1.k) ∧ w'.cell? ⟨bx, ox + 3, none⟩ = some (.slice x1.a x1.l.length x1.c) ∧ w'.cell? ⟨by', oy + 2, none⟩ = some (.int .i64 y1.k) ∧ w'.cell? ⟨by', oy + 3, none⟩ = some (.slice y1.a y1.l.length y1.c))
        (first
          | exact ⟨(hu.cell (p := ⟨w.heap.size, 1, none⟩) (by simp)).trans q1, (hu.cell (p := ⟨w.heap.size, 3, none⟩) (by simp)).trans q3, (hu.cell (p := ⟨bx, _, none⟩) (Nat.lt_succ_of_lt lbx)).trans cx2, (hu.cell (p := ⟨bx, _, none⟩) (Nat.lt_succ_of_lt lbx)).trans cx3, (hu.cell (p := ⟨by', _, none⟩) (Nat.lt_succ_of_lt lby)).trans cy2, (hu.cell (p := ⟨by', _, none⟩) (Nat.lt_succ_of_lt lby)).trans cy3⟩
          | go_keep)
        (first
          | (go_at_call 109; refine (H1.out _ _ (Nat.le_succ _) hbw.drew HG.out.1 HG.out.2.1 HG.out.2.2).mono ?_; rintro e w2 ⟨rfl, hj2⟩; have hu := hj2.under hP))
      have HJ2 : Hid (JI (w.alloc (.cells #[.int .i64 3, .slice (some ⟨bx, ox, none⟩) 2 c, .int .i64 3, .slice (some ⟨by', oy, none⟩) 2 c', .pointer (some ⟨ib, io, none⟩)] 168)) (w.heap.size + 1) x0 x1 y0 y1 2 w2) := JI.step1 HJ.out hj2
      clear hj2
      go_wp2_with fail
      go_roundg 0
      case measure => omega
      case rel => exact ⟨2, rfl, rfl, HJ2⟩
    · have zz0 := cell_later hbw z0
      have zz1 := cell_later hbw z1
      have ff0 : wr.frozen? ⟨ib, io, none⟩ = false := (hbw.frozen (p := ⟨ib, io, none⟩) lb).trans f0
      have ff1 : wr.frozen? ⟨ib, io + 1, none⟩ = false := (hbw.frozen (p := ⟨ib, io + 1, none⟩) lb).trans f1
      clear hf i0 i1 b0 b1 d0 d1 d2 d3 t0 t1 e0 e1 z0 z1 f0 f1
      go_wp2_with fail
      go_end0
      exact ⟨rfl, _, _, _, Nat.le_succ _, hbw, HJ.out, rfl⟩
end Go.Proofs.YtnddkmccagiclaaGreatDoor

/-
  What the calls of kind.join and kind.Join answer at two right trees of which the first has at most a thousand levels.
-/
namespace Go.Proofs.YtnddkmccagiclaaGreatDoor
open Go.RowKit

theorem set_keeps {ib io : Nat} {w : World} {u v : Value} {t : Tr} (hin : t.In w) (hne : t.Bl (· ≠ ib)) : t.In ((w.setCell ⟨ib, io, none⟩ u).setCell ⟨ib, io + 1, none⟩ v) := by
  refine hin.congr (P := (· ≠ ib)) ?_ hne
  intro b hb o
  rw [World.cell?_setCell_other, World.cell?_setCell_other]
  · intro e; simp only [Addr.mk.injEq] at e; omega
  · intro e; simp only [Addr.mk.injEq] at e; omega

theorem Joined.of_parts {x y x0 x1 y0 y1 : Tr} {ib io P : Nat} {w wr W1 : World} (hx : x.l = [x0, x1]) (hy : y.l = [y0, y1]) (kx : x.k = 3) (ky : y.k = 3) (hib : ib < w.heap.size) (hP : w.heap.size ≤ P) (hb : Below w.heap.size w wr) (h : JI W1 P x0 x1 y0 y1 2 wr)
    (z0 : w.cell? ⟨ib, io, none⟩ = some (.int .i64 0)) (z1 : w.cell? ⟨ib, io + 1, none⟩ = some (.slice none 0 0)) :
    Joined x y ib io w ((wr.setCell ⟨ib, io, none⟩ (.int .i64 3)).setCell ⟨ib, io + 1, none⟩ (.slice (some ⟨P, 0, none⟩) 2 2)) := by
  obtain ⟨_, hf, s0, s1, i0, i1, b0, b1, d0, d1, d2, d3, t0, t1, _, _⟩ := h
  have hc := set_cells (u := .int .i64 3) (v := .slice (some ⟨P, 0, none⟩) 2 2) (cell_later hb z0) (cell_later hb z1)
  have hcell : ∀ o, ((wr.setCell ⟨ib, io, none⟩ (.int .i64 3)).setCell ⟨ib, io + 1, none⟩ (.slice (some ⟨P, 0, none⟩) 2 2)).cell? ⟨P, o, none⟩ = wr.cell? ⟨P, o, none⟩ := by
    intro o
    rw [World.cell?_setCell_other, World.cell?_setCell_other]
    · intro e; simp only [Addr.mk.injEq] at e; omega
    · intro e; simp only [Addr.mk.injEq] at e; omega
  refine ⟨.mk 3 (some ⟨P, 0, none⟩) 2 [s0, s1], ?_, ?_, ?_, hc.1, hc.2, (Wrote.of_below hb hib).set _ _⟩
  · obtain ⟨k, a, c, l⟩ := x
    obtain ⟨k', a', c', l'⟩ := y
    dsimp only at hx hy kx ky
    subst hx hy kx ky
    simp [Tr.ty_mk, joinY_mk, joinL, t0 (by omega), t1 (by omega)]
  · exact Tr.In_two (by rw [hcell]; exact d0) (by rw [hcell]; exact d1) (by rw [hcell]; exact d2) (by rw [hcell]; exact d3) (set_keeps i0 (b0.mono fun b hb => by omega)) (set_keeps i1 (b1.mono fun b hb => by omega))
  · exact Tr.Bl_two hP (b0.mono fun b hb => by omega) (b1.mono fun b hb => by omega)

theorem Joined.of_diff {x y : Tr} {ib io : Nat} {w w' : World} (hk : x.k ≠ y.k) (hib : ib < w.heap.size) (hb : Below w.heap.size w w') (z0 : w.cell? ⟨ib, io, none⟩ = some (.int .i64 0)) (z1 : w.cell? ⟨ib, io + 1, none⟩ = some (.slice none 0 0)) : Joined x y ib io w w' := by
  refine ⟨leaf 0, ?_, leaf_in _ _, leaf_bl _ _, cell_later hb z0, cell_later hb z1, Wrote.of_below hb hib⟩
  obtain ⟨k, a, c, l⟩ := x
  obtain ⟨k', a', c', l'⟩ := y
  dsimp only at hk
  simp [leaf, Tr.ty_mk, joinY_mk, if_neg hk]

theorem join_any (n : Nat) : n ≤ 1000 → ∀ (x y : Tr) (rp : Option Addr) (ib io : Nat) (w : World), x.In w → y.In w → x.right → y.right → x.hgt ≤ n → w.cell? ⟨ib, io, none⟩ = some (.int .i64 0) → w.cell? ⟨ib, io + 1, none⟩ = some (.slice none 0 0) → w.frozen? ⟨ib, io, none⟩ = false → w.frozen? ⟨ib, io + 1, none⟩ = false →
    Calls Tryz.prog 109 #[.agg #[.int .i64 x.k, .slice x.a x.l.length x.c, .int .i64 y.k, .slice y.a y.l.length y.c, .pointer (some ⟨ib, io, none⟩)], .int .i64 (n : Int), .pointer rp] w fun e w' => e = .returned (.tuple #[]) ∧ Joined x y ib io w w' := by
  induction n with
  | zero =>
    intro _ x y rp ib io w _ _ _ _ h
    have := x.hgt_pos
    omega
  | succ n ih =>
    intro hn x y rp ib io w hx hy rx ry hh z0 z1 f0 f1
    have lb : ib < w.heap.size := World.block_lt_of_cell? _ _ z0
    have e : ((n + 1 : Nat) : Int) = (n : Int) + 1 := by omega
    rw [e]
    by_cases hk : x.k = y.k
    · rcases rx.cases with ⟨lx, kx⟩ | ⟨x0, x1, lx, kx, r0, r1⟩
      · rcases ry.cases with ⟨ly, ky⟩ | ⟨y0, y1, ly, ky, _, _⟩
        · rw [lx, ly, ← hk]
          refine (join_leaf n (by omega) x.k x.a y.a rp x.c y.c ib io w z0 z1 f0 f1).mono ?_
          rintro e w' ⟨rfl, g, c0, c1, hw⟩
          refine ⟨rfl, .mk x.k (some ⟨g, 0, none⟩) 0 [], ?_, Tr.In_nil _ _ _ _, Tr.Bl_nil _ _ _ _, c0, c1, hw⟩
          obtain ⟨k, a, c, l⟩ := x
          obtain ⟨k', a', c', l'⟩ := y
          dsimp only at lx ly hk
          subst lx ly hk
          simp [Tr.ty_mk, joinY_mk, joinL]
        · omega
      · rcases ry.cases with ⟨ly, ky⟩ | ⟨y0, y1, ly, ky, q0, q1⟩
        · omega
        · obtain ⟨bx, ox, ax, cx0, cx1, hx0⟩ := hx.part 0 (by simp [lx])
          obtain ⟨bx', ox', ax', cx2, cx3, hx1⟩ := hx.part 1 (by simp [lx])
          obtain ⟨by', oy, ay, cy0, cy1, hy0⟩ := hy.part 0 (by simp [ly])
          obtain ⟨by'', oy', ay', cy2, cy3, hy1⟩ := hy.part 1 (by simp [ly])
          have hg0 := Tr.hgt_part hh 0 (by simp [lx])
          have hg1 := Tr.hgt_part hh 1 (by simp [lx])
          rw [ax] at ax'
          rw [ay] at ay'
          obtain ⟨rfl, rfl⟩ : bx = bx' ∧ ox = ox' := by simpa using ax'
          obtain ⟨rfl, rfl⟩ : by' = by'' ∧ oy = oy' := by simpa using ay'
          simp only [lx, List.getElem_cons_zero, List.getElem_cons_succ] at cx0 cx1 cx2 cx3 hx0 hx1 hg0 hg1
          simp only [ly, List.getElem_cons_zero, List.getElem_cons_succ] at cy0 cy1 cy2 cy3 hy0 hy1
          rw [ax, ay, lx, ly, kx, ky]
          refine (join_fun n (by omega) rp bx ox by' oy x.c y.c ib io x0 x1 y0 y1 w z0 z1 f0 f1 (by simpa using cx0) (by simpa using cx1) (by simpa using cx2) (by simpa using cx3) (by simpa using cy0) (by simpa using cy1) (by simpa using cy2) (by simpa using cy3)
            (fun P W _ hb g0 g1 gf => ih (by omega) x0 y0 rp P 0 W (hx0.below hb) (hy0.below hb) r0 q0 hg0 g0 g1 (gf _) (gf _))
            (fun P W _ hb g0 g1 gf => ih (by omega) x1 y1 rp P 2 W (hx1.below hb) (hy1.below hb) r1 q1 hg1 g0 g1 (gf _) (gf _))).mono ?_
          rintro e w' ⟨rfl, W1, wr, P, hP, hb, hji, rfl⟩
          exact ⟨rfl, Joined.of_parts lx ly kx ky lb hP hb hji z0 z1⟩
    · refine (join_diff n (by omega) x.k y.k (by simpa using hk) x.a y.a (some ⟨ib, io, none⟩) rp x.l.length y.l.length x.c y.c w).mono ?_
      rintro e w' ⟨rfl, rfl⟩
      exact ⟨rfl, Joined.of_diff hk lb ((Below.refl _ _).alloc (Nat.le_refl _) _) z0 z1⟩
end Go.Proofs.YtnddkmccagiclaaGreatDoor

/-
  What the call of kind.Join answers at two right trees of which the first has at most a thousand levels.
-/
namespace Go.Proofs.YtnddkmccagiclaaGreatDoor
open Go.RowKit

/-- The list that is put off, and what is joined: the one pair, or none. -/
def OffJ (R : Nat) (x y : Tr) (k : Nat) (wr : World) : Prop :=
  wr.frozen? ⟨R + 1, 0, none⟩ = false ∧ wr.frozen? ⟨R, 0, none⟩ = false ∧ wr.frozen? ⟨R, 1, none⟩ = false ∧
  ((k = 1 ∧ wr.cell? ⟨R, 0, none⟩ = some (.int .i64 0) ∧ wr.cell? ⟨R, 1, none⟩ = some (.slice none 0 0) ∧ ∃ g cap, wr.cell? ⟨R + 1, 0, none⟩ = some (.slice (some ⟨g, 0, none⟩) 1 cap) ∧ wr.ownsRow (R + 2) 168 5 (.slice (some ⟨g, 0, none⟩) 1 cap) 1 [.int .i64 x.k, .slice x.a x.l.length x.c, .int .i64 y.k, .slice y.a y.l.length y.c, .pointer (some ⟨R, 0, none⟩)])
    ∨ (k = 0 ∧ (∃ t : Tr, t.ty = joinY x.ty y.ty ∧ t.In wr ∧ t.Bl (R < ·) ∧ wr.cell? ⟨R, 0, none⟩ = some (.int .i64 t.k) ∧ wr.cell? ⟨R, 1, none⟩ = some (.slice t.a t.l.length t.c)) ∧ ∃ a cap, wr.cell? ⟨R + 1, 0, none⟩ = some (.slice a 0 cap)))

set_option maxHeartbeats 1000000 in
/-- kind.Join. -/
theorem join_whole (x y : Tr) (w : World) (hx : x.In w) (hy : y.In w) (rx : x.right) (ry : y.right) (hh : x.hgt ≤ 1000) :
    Calls Tryz.prog 69 #[.agg #[.int .i64 x.k, .slice x.a x.l.length x.c], .agg #[.int .i64 y.k, .slice y.a y.l.length y.c]] w fun e w' => ∃ t : Tr, e = .returned (.agg #[.int .i64 t.k, .slice t.a t.l.length t.c]) ∧ t.ty = joinY x.ty y.ty ∧ t.In w' ∧ t.Bl (w.heap.size ≤ ·) ∧ Below w.heap.size w w' := by
  have HC : Hid (∀ (rp : Option Addr) (ib io : Nat) (w : World), x.In w → y.In w → w.cell? ⟨ib, io, none⟩ = some (.int .i64 0) → w.cell? ⟨ib, io + 1, none⟩ = some (.slice none 0 0) → w.frozen? ⟨ib, io, none⟩ = false → w.frozen? ⟨ib, io + 1, none⟩ = false →
    Calls Tryz.prog 109 #[.agg #[.int .i64 x.k, .slice x.a x.l.length x.c, .int .i64 y.k, .slice y.a y.l.length y.c, .pointer (some ⟨ib, io, none⟩)], .int .i64 1000, .pointer rp] w fun e w' => e = .returned (.tuple #[]) ∧ Joined x y ib io w w') := fun rp ib io w h1 h2 => join_any 1000 (Nat.le_refl _) x y rp ib io w h1 h2 rx ry hh
  go_enter Tryz.func69, Tryz.ntmps69
  go_wp2_with fail
  obtain ⟨W0, hW0⟩ : ∃ W0, W0 = (((w.alloc (Obj.cells #[.int .i64 x.k, .slice x.a x.l.length x.c] 24)).alloc (Obj.cells #[.int .i64 y.k, .slice y.a y.l.length y.c] 24)).alloc (Obj.cells #[.int .i64 0, .slice none 0 0] 24)) := ⟨_, rfl⟩
  have hs0 : W0.heap.size = w.heap.size + 1 + 1 + 1 := by rw [hW0]; simp
  have hbw0 : Below w.heap.size w W0 := by rw [hW0]; exact (((Below.refl _ _).alloc (Nat.le_refl _) _).alloc (by simp) _).alloc (by simp; omega) _
  have r0 : W0.cell? ⟨w.heap.size + 1 + 1, 0, none⟩ = some (.int .i64 0) := by rw [hW0]; simp [go_sem]
  have r1 : W0.cell? ⟨w.heap.size + 1 + 1, 1, none⟩ = some (.slice none 0 0) := by rw [hW0]; simp [go_sem]
  have r2 : ∀ o, W0.frozen? ⟨w.heap.size + 1 + 1, o, none⟩ = false := by intro o; rw [hW0]; simp [go_sem]
  rw [← hW0]
  clear hW0
  have u0 : ((W0.alloc (Obj.cells #[.int .i64 0, .slice none 0 0] 24)).alloc (Obj.cells #[.slice none 0 0] 164)).cell? ⟨w.heap.size + 1 + 1 + 1, 0, none⟩ = some (.int .i64 0) := by rw [← hs0]; simp [go_sem]
  have u1 : ((W0.alloc (Obj.cells #[.int .i64 0, .slice none 0 0] 24)).alloc (Obj.cells #[.slice none 0 0] 164)).cell? ⟨w.heap.size + 1 + 1 + 1, 1, none⟩ = some (.slice none 0 0) := by rw [← hs0]; simp [go_sem]
  have u2 : ∀ o, ((W0.alloc (Obj.cells #[.int .i64 0, .slice none 0 0] 24)).alloc (Obj.cells #[.slice none 0 0] 164)).frozen? ⟨w.heap.size + 1 + 1 + 1, o, none⟩ = false := by intro o; rw [← hs0]; simp [go_sem]
  refine (put_any (w.heap.size + 1 + 1 + 1 + 1) (.slice none 0 0) 0 [] x.k y.k x.a y.a x.l.length y.l.length x.c y.c (some ⟨w.heap.size + 1 + 1 + 1, 0, none⟩) _ (by rw [← hs0]; simp [go_sem]) (by rw [← hs0]; simp [go_sem]) (World.ownsRow_nil _ _ _ _) (by omega)).mono ?_
  rintro e w1 ⟨rfl, g, cap, hc1, hf1, ho1, _, hk1⟩
  have hb1 : Below (w.heap.size + 1 + 1 + 1) W0 w1 := by
    have h := hk1.below (by simp [Value.ownBlock]) (by simp [hs0])
    have h' : Below W0.heap.size W0 ((W0.alloc (Obj.cells #[.int .i64 0, .slice none 0 0] 24)).alloc (Obj.cells #[.slice none 0 0] 164)) := ((Below.refl _ _).alloc (Nat.le_refl _) _).alloc (by simp) _
    rw [hs0] at h'
    exact h'.trans (h.mono (by omega))
  have hblk := hk1.below (by simp [Value.ownBlock]) (by simp [hs0])
  have HO : Hid (OffJ (w.heap.size + 1 + 1 + 1) x y 1 w1) :=
    ⟨hf1, (hblk.frozen (p := ⟨w.heap.size + 1 + 1 + 1, 0, none⟩) (by simp)).trans (u2 0), (hblk.frozen (p := ⟨w.heap.size + 1 + 1 + 1, 1, none⟩) (by simp)).trans (u2 1), .inl ⟨rfl, (hblk.cell (p := ⟨w.heap.size + 1 + 1 + 1, 0, none⟩) (by simp)).trans u0, (hblk.cell (p := ⟨w.heap.size + 1 + 1 + 1, 1, none⟩) (by simp)).trans u1, g, cap, by simpa using hc1, by simpa using ho1⟩⟩
  clear hc1 hf1 ho1 hk1 u0 u1 u2 hblk
  have HR0 : Hid (W0.cell? ⟨w.heap.size + 1 + 1, 0, none⟩ = some (.int .i64 0) ∧ W0.cell? ⟨w.heap.size + 1 + 1, 1, none⟩ = some (.slice none 0 0) ∧ ∀ o, W0.frozen? ⟨w.heap.size + 1 + 1, o, none⟩ = false) := ⟨r0, r1, r2⟩
  have HS0 : Hid (W0.heap.size = w.heap.size + 1 + 1 + 1) := hs0
  clear r0 r1 r2 hs0
  go_wp2_with fail
  go_loopg [] 1 (fun k wr => Hid (OffJ (w.heap.size + 1 + 1 + 1) x y k wr) ∧ Below (w.heap.size + 1 + 1 + 1) W0 wr)
  case atStart => exact ⟨HO, hb1⟩
  case round =>
    obtain ⟨HR, hbr⟩ := hrel
    have hbwr : Below w.heap.size w wr := hbw0.trans (hbr.mono (by omega))
    obtain ⟨hfr, g0, g1, ⟨rfl, z0, z1, g, cap, hc, ho⟩ | ⟨rfl, ⟨t, ht, hin, hbl, t0, t1⟩, a, cap, hc⟩⟩ := HR.out
    · have c0 := ho.cellAt 0 (by omega)
      have c1 := ho.cellAt 1 (by omega)
      have c2 := ho.cellAt 2 (by omega)
      have c3 := ho.cellAt 3 (by omega)
      have c4 := ho.cellAt 4 (by omega)
      simp only [List.getElem?_cons_zero, List.getElem?_cons_succ] at c0 c1 c2 c3 c4
      have hcap : 1 ≤ cap := by
        rcases ho.2 with ⟨h, _⟩ | ⟨g', cap', cur, h, _, _, h1, _⟩
        · cases h
        · cases h; exact h1
      have hlr : w.heap.size + 1 + 1 + 1 + 1 < wr.heap.size := World.block_lt_of_cell? _ _ hc
      clear ho HR HO
      go_wp2_with fail
      refine (empty_any (w.heap.size + 1 + 1 + 1 + 1) (some ⟨g, 0, none⟩) 1 cap _ hc).mono ?_
      rintro e w' ⟨rfl, rfl⟩
      go_wp2_with fail
      refine (take_any (w.heap.size + 1 + 1 + 1 + 1) g 0 cap x.k y.k x.a y.a x.l.length y.l.length x.c y.c (some ⟨w.heap.size + 1 + 1 + 1, 0, none⟩) _ (by simpa using hc) hfr (by omega) (by omega) (by simpa using c0) (by simpa using c1) (by simpa using c2) (by simpa using c3) (by simpa using c4)).mono ?_
      rintro e w' ⟨rfl, rfl⟩
      go_wp2_with fail
      obtain ⟨WT, hWT⟩ : ∃ WT, WT = ((w'.setCell ⟨w.heap.size + 1 + 1 + 1 + 1, 0, none⟩ (.slice (some ⟨g, 0, none⟩) 0 cap)).alloc (.cells #[.int .i64 x.k, .slice x.a x.l.length x.c, .int .i64 y.k, .slice y.a y.l.length y.c, .pointer (some ⟨w.heap.size + 1 + 1 + 1, 0, none⟩)] 168)).alloc (.cells #[.int .i64 x.k, .slice x.a x.l.length x.c, .int .i64 y.k, .slice y.a y.l.length y.c, .pointer (some ⟨w.heap.size + 1 + 1 + 1, 0, none⟩)] 168) := ⟨_, rfl⟩
      have hbt : Below (w.heap.size + 1 + 1 + 1 + 1) w' WT := by
        rw [hWT]
        exact (((Below.refl _ _).setCell (by simp) _).alloc (by simp [World.setCell]; omega) _).alloc (by simp [World.setCell]; omega) _
      have hsT : w'.heap.size ≤ WT.heap.size := hbt.size
      have hcT : WT.cell? ⟨w.heap.size + 1 + 1 + 1 + 1, 0, none⟩ = some (.slice (some ⟨g, 0, none⟩) 0 cap) := by
        rw [hWT]
        exact cell_later (((Below.refl _ _).alloc (Nat.le_refl _) _).alloc (by simp) _) (World.cell?_setCell_same _ _ _ hc)
      have hfT : WT.frozen? ⟨w.heap.size + 1 + 1 + 1 + 1, 0, none⟩ = false := by
        rw [hWT]
        simp [frozen?_alloc_cells, hfr]
      rw [← hWT]
      have hbT : Below w.heap.size w WT := hbwr.trans (hbt.mono (by omega))
      refine (HC.out _ (w.heap.size + 1 + 1 + 1) 0 WT (hx.below hbT) (hy.below hbT) ((hbt.cell (p := ⟨w.heap.size + 1 + 1 + 1, 0, none⟩) (by simp)).trans z0) ((hbt.cell (p := ⟨w.heap.size + 1 + 1 + 1, 1, none⟩) (by simp)).trans z1) ((hbt.frozen (p := ⟨w.heap.size + 1 + 1 + 1, 0, none⟩) (by simp)).trans g0) ((hbt.frozen (p := ⟨w.heap.size + 1 + 1 + 1, 1, none⟩) (by simp)).trans g1)).mono ?_
      rintro e w5 ⟨rfl, t, ht, hin, hbl, t0, t1, hw⟩
      have hbl' : w5.heap[w.heap.size + 1 + 1 + 1 + 1]? = WT.heap[w.heap.size + 1 + 1 + 1 + 1]? := hw.block _ (by omega) (by omega)
      have HO5 : Hid (OffJ (w.heap.size + 1 + 1 + 1) x y 0 w5) :=
        ⟨(World.frozen?_of_block (a := ⟨w.heap.size + 1 + 1 + 1 + 1, 0, none⟩) hbl').trans hfT, (hw.frozen 0).trans ((hbt.frozen (p := ⟨w.heap.size + 1 + 1 + 1, 0, none⟩) (by simp)).trans g0), (hw.frozen 1).trans ((hbt.frozen (p := ⟨w.heap.size + 1 + 1 + 1, 1, none⟩) (by simp)).trans g1),
          .inr ⟨rfl, ⟨t, ht, hin, hbl.mono fun b hb => by omega, t0, t1⟩, _, _, (World.cell?_of_block (a := ⟨w.heap.size + 1 + 1 + 1 + 1, 0, none⟩) hbl').trans hcT⟩⟩
      have hb5 : Below (w.heap.size + 1 + 1 + 1) W0 w5 := hbr.trans ((hbt.mono (by omega)).trans (hw.under (by omega)))
      clear hWT hbt hcT hfT hbT ht hin hbl t0 t1 hw hbl' z0 z1 g0 g1 hfr hc c0 c1 c2 c3 c4
      go_wp2_with fail
      go_roundg 0
      case measure => omega
      case rel => exact ⟨HO5, hb5⟩
    · go_wp2_with fail
      refine (empty_any (w.heap.size + 1 + 1 + 1 + 1) a 0 cap _ hc).mono ?_
      rintro e w' ⟨rfl, rfl⟩
      have v0 := (hbr.cell (p := ⟨w.heap.size + 1 + 1, 0, none⟩) (by simp)).trans HR0.out.1
      have v1 := (hbr.cell (p := ⟨w.heap.size + 1 + 1, 1, none⟩) (by simp)).trans HR0.out.2.1
      have v2 := (hbr.frozen (p := ⟨w.heap.size + 1 + 1, 0, none⟩) (by simp)).trans (HR0.out.2.2 0)
      have v3 := (hbr.frozen (p := ⟨w.heap.size + 1 + 1, 1, none⟩) (by simp)).trans (HR0.out.2.2 1)
      have HT : Hid (t.ty = joinY x.ty y.ty) := ht
      clear ht HR HO hc hfr g0 g1
      go_wp2_with fail
      refine bodyPost_ret (v := .agg #[.int .i64 t.k, .slice t.a t.l.length t.c]) ?_ rfl ⟨t, rfl, HT.out, set_keeps hin (hbl.mono fun b hb => by omega), hbl.mono fun b hb => by omega, (hbwr.setCell (by simp; omega) _).setCell (by simp; omega) _⟩
      have hh := set_cells (u := .int .i64 t.k) (v := .slice t.a t.l.length t.c) v0 v1
      simp [results, Tryz.results69, go_sem, hh.1, hh.2]
end Go.Proofs.YtnddkmccagiclaaGreatDoor
