/-
  What the call of ref's tree.kind answers.
-/
import Derived.Test.YtnddkmccagiclaaGreatDoorLotb837bfd78f
import Derived.Test.YtnddkmccagiclaaGreatDoorLot141546800d
import Derived.Deep.LoopGhost
import Derived.Laws.IdiomStrings
import Derived.IntWalk
namespace Go.Proofs.YtnddkmccagiclaaGreatDoor
open Go.RowKit

/-- What a call that tells a type leaves; none: there is none. -/
def KdPost (T : Option Ty) (w : World) (e : Ending) (w' : World) : Prop :=
  ∃ (t : Tr) (b : Bool), e = .returned (.tuple #[.agg #[.int .i64 t.k, .slice t.a t.l.length t.c], .bool b]) ∧ Hid (b = T.isSome ∧ (∀ i, T = some i → t.ty = i) ∧ t.In w' ∧ t.Bl (w.heap.size ≤ ·) ∧ Below w.heap.size w w')

/-- Behind the entry: the tree's box, the answer's. -/
structure KB (x : Nd) (w : World) (W : World) : Prop where
  low : Below w.heap.size w W
  b0 : W.cell? ⟨w.heap.size, 0, none⟩ = some (.string x.w)
  b1 : W.cell? ⟨w.heap.size, 1, none⟩ = some (.slice x.a x.l.length x.c)
  b2 : W.cell? ⟨w.heap.size, 2, none⟩ = some (.bool x.o)
  r0 : W.cell? ⟨w.heap.size + 1, 0, none⟩ = some (.int .i64 0)
  r1 : W.cell? ⟨w.heap.size + 1, 1, none⟩ = some (.slice none 0 0)
  f0 : W.frozen? ⟨w.heap.size + 1, 0, none⟩ = false
  f1 : W.frozen? ⟨w.heap.size + 1, 1, none⟩ = false

theorem KB.lt {x : Nd} {w W : World} (h : KB x w W) : w.heap.size + 1 < W.heap.size := World.block_lt_of_cell? _ _ h.r0

theorem KB.below {x : Nd} {w W V : World} (h : KB x w W) (hb : Below W.heap.size W V) : KB x w V := by
  have hl := h.lt
  have c : ∀ b i, b ≤ w.heap.size + 1 → V.cell? ⟨b, i, none⟩ = W.cell? ⟨b, i, none⟩ := fun b i h => hb.cell (p := ⟨b, i, none⟩) (show b < _ by omega)
  have f : ∀ b i, b ≤ w.heap.size + 1 → V.frozen? ⟨b, i, none⟩ = W.frozen? ⟨b, i, none⟩ := fun b i h => hb.frozen (p := ⟨b, i, none⟩) (show b < _ by omega)
  exact ⟨h.low.trans (hb.mono h.low.size), (c _ _ (by omega)).trans h.b0, (c _ _ (by omega)).trans h.b1, (c _ _ (by omega)).trans h.b2, (c _ _ (by omega)).trans h.r0, (c _ _ (by omega)).trans h.r1, (f _ _ (by omega)).trans h.f0, (f _ _ (by omega)).trans h.f1⟩

theorem KB.start (x : Nd) (w : World) : KB x w ((w.alloc (.cells #[.string x.w, .slice x.a x.l.length x.c, .bool x.o] 67)).alloc (.cells #[.int .i64 0, .slice none 0 0] 24)) := by
  constructor
  · exact ((Below.refl _ _).alloc (Nat.le_refl _) _).alloc (by simp) _
  all_goals simp [go_sem]

/-- The answer's two cells, filled. -/
theorem kd_end {T : Option Ty} {t : Tr} {x : Nd} {w wr : World} {b : Bool} (h : KB x w wr) (hb : b = T.isSome) (ht : ∀ i, T = some i → t.ty = i) (hin : t.In wr) (hbl : t.Bl (fun b => w.heap.size ≤ b ∧ b ≠ w.heap.size + 1)) :
    KdPost T w (.returned (.tuple #[.agg #[.int .i64 t.k, .slice t.a t.l.length t.c], .bool b])) ((wr.setCell ⟨w.heap.size + 1, 0, none⟩ (.int .i64 t.k)).setCell ⟨w.heap.size + 1, 1, none⟩ (.slice t.a t.l.length t.c)) ∧
    ((wr.setCell ⟨w.heap.size + 1, 0, none⟩ (.int .i64 t.k)).setCell ⟨w.heap.size + 1, 1, none⟩ (.slice t.a t.l.length t.c)).cell? ⟨w.heap.size + 1, 0, none⟩ = some (.int .i64 t.k) ∧
    ((wr.setCell ⟨w.heap.size + 1, 0, none⟩ (.int .i64 t.k)).setCell ⟨w.heap.size + 1, 1, none⟩ (.slice t.a t.l.length t.c)).cell? ⟨w.heap.size + 1, 1, none⟩ = some (.slice t.a t.l.length t.c) := by
  have hc := set_cells (u := .int .i64 t.k) (v := .slice t.a t.l.length t.c) h.r0 h.r1
  have hk := set_keeps (ib := w.heap.size + 1) (io := 0) (u := .int .i64 t.k) (v := .slice t.a t.l.length t.c) hin (hbl.mono fun b hb => hb.2)
  simp only [Nat.zero_add] at hc hk
  exact ⟨⟨t, b, rfl, hb, ht, hk, hbl.mono fun b hb => hb.1, (h.low.setCell (by simp) _).setCell (by simp) _⟩, hc.1, hc.2⟩

theorem kd_leaf {T : Option Ty} {z : Int} {x : Nd} {w wr : World} {b : Bool} (h : KB x w wr) (hb : b = T.isSome) (ht : ∀ i, T = some i → Ty.mk z [] = i) :
    KdPost T w (.returned (.tuple #[.agg #[.int .i64 z, .slice none 0 0], .bool b])) ((wr.setCell ⟨w.heap.size + 1, 0, none⟩ (.int .i64 z)).setCell ⟨w.heap.size + 1, 1, none⟩ (.slice none 0 0)) ∧
    ((wr.setCell ⟨w.heap.size + 1, 0, none⟩ (.int .i64 z)).setCell ⟨w.heap.size + 1, 1, none⟩ (.slice none 0 0)).cell? ⟨w.heap.size + 1, 0, none⟩ = some (.int .i64 z) ∧
    ((wr.setCell ⟨w.heap.size + 1, 0, none⟩ (.int .i64 z)).setCell ⟨w.heap.size + 1, 1, none⟩ (.slice none 0 0)).cell? ⟨w.heap.size + 1, 1, none⟩ = some (.slice none 0 0) :=
  kd_end (t := leaf z) h hb (fun i hi => (leaf_ty z).trans (ht i hi)) (leaf_in z wr) (leaf_bl z _)

theorem kindT_word (n : Nat) (x : Nd) (h : x.o = false) : kindT (n + 1) x.tn = (atWord x.w typeWs 0).map fun (k : Nat) => Ty.mk (k : Int) [] := by
  rw [kindT, Nd.tn_o, if_pos h, Nd.tn_w]
  rfl

set_option maxRecDepth 20000 in
set_option maxHeartbeats 4000000 in
theorem kind_word (n : Nat) (x : Nd) (w : World) (ho : x.o = false) : Calls Tryz.prog 60 #[.agg #[.string x.w, .slice x.a x.l.length x.c, .bool x.o]] w (KdPost (kindT (n + 1) x.tn) w) := by
  rw [kindT_word n x ho]
  obtain ⟨b0, h0⟩ : ∃ b, (x.w.toList == (⟨#[97, 110, 121]⟩ : ByteArray).toList) = b := ⟨_, rfl⟩
  obtain ⟨b1, h1⟩ : ∃ b, (x.w.toList == (⟨#[110, 117, 109]⟩ : ByteArray).toList) = b := ⟨_, rfl⟩
  obtain ⟨b2, h2⟩ : ∃ b, (x.w.toList == (⟨#[116, 114, 117, 116, 104]⟩ : ByteArray).toList) = b := ⟨_, rfl⟩
  have H0 : Hid ((x.w.toList == (⟨#[97, 110, 121]⟩ : ByteArray).toList) = b0) := h0
  have k0 : (x.w.toList == [97, 110, 121]) = b0 := by rw [← h0, Lib.toList_data ⟨#[97, 110, 121]⟩]
  have H1 : Hid ((x.w.toList == (⟨#[110, 117, 109]⟩ : ByteArray).toList) = b1) := h1
  have k1 : (x.w.toList == [110, 117, 109]) = b1 := by rw [← h1, Lib.toList_data ⟨#[110, 117, 109]⟩]
  have H2 : Hid ((x.w.toList == (⟨#[116, 114, 117, 116, 104]⟩ : ByteArray).toList) = b2) := h2
  have k2 : (x.w.toList == [116, 114, 117, 116, 104]) = b2 := by rw [← h2, Lib.toList_data ⟨#[116, 114, 117, 116, 104]⟩]
  have HAT : Hid (atWord x.w typeWs 0 = if b0 = true then some 0 else if b1 = true then some 1 else if b2 = true then some 2 else none) := by
    have e : ∀ (y : ByteArray) (b : Bool), (x.w.toList == y.toList) = b → ((y = x.w) ↔ b = true) := fun y b h => by
      rw [← h]
      constructor
      · rintro rfl; simp
      · intro h'; exact ((Lib.bytes_beq_iff _ _).1 h').symm
    show _ = _
    simp only [typeWs, atWord, e _ _ h0, e _ _ h1, e _ _ h2]
  clear h0 h1 h2 H0 H1 H2
  obtain ⟨W1, hW1⟩ : ∃ W, W = (w.alloc (.cells #[.string x.w, .slice x.a x.l.length x.c, .bool x.o] 67)).alloc (.cells #[.int .i64 0, .slice none 0 0] 24) := ⟨_, rfl⟩
  have HK : Hid (KB x w W1) := by rw [hW1]; exact KB.start x w
  obtain ⟨T, hT⟩ : ∃ T, atWord x.w typeWs 0 = T := ⟨_, rfl⟩
  rw [hT] at HAT ⊢
  clear hT
  obtain ⟨W2, hW2⟩ : ∃ W, W = W1.alloc (.cells #[.string ⟨#[97, 110, 121]⟩, .string ⟨#[110, 117, 109]⟩, .string ⟨#[116, 114, 117, 116, 104]⟩] 9) := ⟨_, rfl⟩
  have hb2 : Below W1.heap.size W1 W2 := by rw [hW2]; exact (Below.refl _ _).alloc (Nat.le_refl _) _
  have HK2 : Hid (KB x w W2) := HK.out.below hb2
  have g0 : W2.cell? ⟨W1.heap.size, 0, none⟩ = some (.string ⟨#[97, 110, 121]⟩) := by rw [hW2]; simp
  have g1 : W2.cell? ⟨W1.heap.size, 1, none⟩ = some (.string ⟨#[110, 117, 109]⟩) := by rw [hW2]; simp
  have g2 : W2.cell? ⟨W1.heap.size, 2, none⟩ = some (.string ⟨#[116, 114, 117, 116, 104]⟩) := by rw [hW2]; simp
  obtain ⟨p0, p1, p2⟩ : W2.cell? ⟨w.heap.size, 0, none⟩ = some (.string x.w) ∧ W2.frozen? ⟨w.heap.size + 1, 0, none⟩ = false ∧ W2.frozen? ⟨w.heap.size + 1, 1, none⟩ = false := ⟨HK2.out.b0, HK2.out.f0, HK2.out.f1⟩
  obtain ⟨q0, q1⟩ : W2.cell? ⟨w.heap.size + 1, 0, none⟩ = some (.int .i64 0) ∧ W2.cell? ⟨w.heap.size + 1, 1, none⟩ = some (.slice none 0 0) := ⟨HK2.out.r0, HK2.out.r1⟩
  have hob := HK.out.b2
  rw [ho] at hob
  clear hb2 ho HK
  go_enter Tryz.func60, Tryz.ntmps60
  go_upto_region 1 with fail
  rw [← hW1]
  clear hW1
  go_upto_region 3 with fail
  rw [← hW2]
  clear hW2
  go_loopg [15] 3 (fun g i wr => ∃ j : Nat, g + j = 3 ∧ i = .int .i64 (j : Int) ∧ wr = W2 ∧ Hid ((1 ≤ j → b0 = false) ∧ (2 ≤ j → b1 = false) ∧ (3 ≤ j → b2 = false)))
  case atStart => exact ⟨0, rfl, rfl, rfl, fun h => absurd h (by omega), fun h => absurd h (by omega), fun h => absurd h (by omega)⟩
  case round =>
    obtain ⟨j, hj, rfl, rfl, HJ⟩ := hrel
    obtain rfl | rfl | rfl | rfl : j = 0 ∨ j = 1 ∨ j = 2 ∨ j = 3 := by omega
    · cases b0
      · clear HAT HK2
        go_wp2_with fail
        go_roundg 2
        case measure => omega
        case rel => exact ⟨1, rfl, rfl, rfl, fun _ => trivial, fun h => absurd h (by omega), fun h => absurd h (by omega)⟩
      · obtain ⟨hE1, hE2, hE3⟩ := kd_leaf (T := T.map fun (k : Nat) => Ty.mk (k : Int) []) (z := 0) (b := true) HK2.out (by rw [HAT.out]; rfl) (fun i hi => by rw [HAT.out] at hi; exact Option.some.inj hi)
        have HE1 : Hid (KdPost (T.map fun (k : Nat) => Ty.mk (k : Int) []) w (.returned (.tuple #[.agg #[.int .i64 0, .slice none 0 0], .bool true])) ((wr.setCell ⟨w.heap.size + 1, 0, none⟩ (.int .i64 0)).setCell ⟨w.heap.size + 1, 1, none⟩ (.slice none 0 0))) := hE1
        clear HAT HK2 hE1
        go_wp2_with fail
        refine bodyPost_ret (v := .tuple #[.agg #[.int .i64 0, .slice none 0 0], .bool true]) ?_ rfl HE1.out
        simp [results, Tryz.results60, go_sem, hE2, hE3]
    · obtain rfl := HJ.out.1 (by omega)
      cases b1
      · clear HAT HK2
        go_wp2_with fail
        go_roundg 1
        case measure => omega
        case rel => exact ⟨2, rfl, rfl, rfl, fun _ => trivial, fun _ => trivial, fun h => absurd h (by omega)⟩
      · obtain ⟨hE1, hE2, hE3⟩ := kd_leaf (T := T.map fun (k : Nat) => Ty.mk (k : Int) []) (z := 1) (b := true) HK2.out (by rw [HAT.out]; rfl) (fun i hi => by rw [HAT.out] at hi; exact Option.some.inj hi)
        have HE1 : Hid (KdPost (T.map fun (k : Nat) => Ty.mk (k : Int) []) w (.returned (.tuple #[.agg #[.int .i64 1, .slice none 0 0], .bool true])) ((wr.setCell ⟨w.heap.size + 1, 0, none⟩ (.int .i64 1)).setCell ⟨w.heap.size + 1, 1, none⟩ (.slice none 0 0))) := hE1
        clear HAT HK2 hE1
        go_wp2_with fail
        refine bodyPost_ret (v := .tuple #[.agg #[.int .i64 1, .slice none 0 0], .bool true]) ?_ rfl HE1.out
        simp [results, Tryz.results60, go_sem, hE2, hE3]
    · obtain rfl := HJ.out.1 (by omega)
      obtain rfl := HJ.out.2.1 (by omega)
      cases b2
      · clear HAT HK2
        go_wp2_with fail
        go_roundg 0
        case measure => omega
        case rel => exact ⟨3, rfl, rfl, rfl, fun _ => trivial, fun _ => trivial, fun _ => trivial⟩
      · obtain ⟨hE1, hE2, hE3⟩ := kd_leaf (T := T.map fun (k : Nat) => Ty.mk (k : Int) []) (z := 2) (b := true) HK2.out (by rw [HAT.out]; rfl) (fun i hi => by rw [HAT.out] at hi; exact Option.some.inj hi)
        have HE1 : Hid (KdPost (T.map fun (k : Nat) => Ty.mk (k : Int) []) w (.returned (.tuple #[.agg #[.int .i64 2, .slice none 0 0], .bool true])) ((wr.setCell ⟨w.heap.size + 1, 0, none⟩ (.int .i64 2)).setCell ⟨w.heap.size + 1, 1, none⟩ (.slice none 0 0))) := hE1
        clear HAT HK2 hE1
        go_wp2_with fail
        refine bodyPost_ret (v := .tuple #[.agg #[.int .i64 2, .slice none 0 0], .bool true]) ?_ rfl HE1.out
        simp [results, Tryz.results60, go_sem, hE2, hE3]
    · obtain rfl := HJ.out.1 (by omega)
      obtain rfl := HJ.out.2.1 (by omega)
      obtain rfl := HJ.out.2.2 (by omega)
      have HEN : Hid (∀ V, Below wr.heap.size wr V → KdPost (T.map fun (k : Nat) => Ty.mk (k : Int) []) w (.returned (.tuple #[.agg #[.int .i64 0, .slice none 0 0], .bool false])) ((V.setCell ⟨w.heap.size + 1, 0, none⟩ (.int .i64 0)).setCell ⟨w.heap.size + 1, 1, none⟩ (.slice none 0 0)) ∧
          ((V.setCell ⟨w.heap.size + 1, 0, none⟩ (.int .i64 0)).setCell ⟨w.heap.size + 1, 1, none⟩ (.slice none 0 0)).cell? ⟨w.heap.size + 1, 0, none⟩ = some (.int .i64 0) ∧
          ((V.setCell ⟨w.heap.size + 1, 0, none⟩ (.int .i64 0)).setCell ⟨w.heap.size + 1, 1, none⟩ (.slice none 0 0)).cell? ⟨w.heap.size + 1, 1, none⟩ = some (.slice none 0 0)) := fun V hV =>
        kd_leaf (T := T.map fun (k : Nat) => Ty.mk (k : Int) []) (z := 0) (b := false) (HK2.out.below hV) (by rw [HAT.out]; rfl) (fun i hi => by rw [HAT.out] at hi; cases hi)
      have HV : Hid (KB x w (wr.alloc (.cells #[.int .i64 0, .slice none 0 0] 24))) := HK2.out.below ((Below.refl _ _).alloc (Nat.le_refl _) _)
      clear HAT HK2
      obtain ⟨V, hV⟩ : ∃ V, V = wr.alloc (.cells #[.int .i64 0, .slice none 0 0] 24) := ⟨_, rfl⟩
      have HBV : Hid (Below wr.heap.size wr V) := by rw [hV]; exact (Below.refl _ _).alloc (Nat.le_refl _) _
      rw [← hV] at HV
      have s0 := HV.out.f0
      have s1 := HV.out.f1
      have s2 := HV.out.r0
      have s3 := HV.out.r1
      go_wp2_with fail
      refine (any0_any _).mono ?_
      rintro e w3 ⟨rfl, hw3⟩
      rw [hw3, ← hV]
      obtain ⟨hE1, hE2, hE3⟩ := HEN.out V HBV.out
      have HE1 : Hid (KdPost (T.map fun (k : Nat) => Ty.mk (k : Int) []) w (.returned (.tuple #[.agg #[.int .i64 0, .slice none 0 0], .bool false])) ((V.setCell ⟨w.heap.size + 1, 0, none⟩ (.int .i64 0)).setCell ⟨w.heap.size + 1, 1, none⟩ (.slice none 0 0))) := hE1
      clear hV hw3 w3 HV HEN HBV hE1
      go_wp2_with fail
      refine bodyPost_ret (v := .tuple #[.agg #[.int .i64 0, .slice none 0 0], .bool false]) ?_ rfl HE1.out
      simp [results, Tryz.results60, go_sem, hE2, hE3]
end Go.Proofs.YtnddkmccagiclaaGreatDoor

/-
  What the call of ref's tree.kind answers, at a tree with brackets.
-/
namespace Go.Proofs.YtnddkmccagiclaaGreatDoor
open Go.RowKit

theorem flat_of (t : Tn) (h : t.o = true) : t.flat = [40] :: (flatL t.l ++ [[41]]) := by
  obtain ⟨w, l, o⟩ := t
  obtain rfl : o = true := h
  exact flat_open w l

theorem kindT_len (n : Nat) (x : Nd) (ho : x.o = true) (hl : x.l.length ≠ 3) : kindT (n + 1) x.tn = none := by
  rw [kindT, Nd.tn_o, if_neg (by rw [ho]; simp), Nd.tn_l]
  split
  · rename_i a b c h
    have := congrArg List.length h
    simp at this
    omega
  · rfl

theorem kindT_three (n : Nat) (x A B C : Nd) (ho : x.o = true) (hl : x.l = [A, B, C]) : kindT (n + 1) x.tn = if A.o = false ∧ A.w.data.toList = [116, 111] then (kindT n B.tn).bind fun p => (kindT n C.tn).map fun q => ⟨3, [p, q]⟩ else none := by
  rw [kindT, Nd.tn_o, if_neg (by rw [ho]; simp), Nd.tn_l, hl]
  simp only [List.map_cons, List.map_nil, Nd.tn_o, Nd.tn_w]

set_option maxRecDepth 20000 in
set_option maxHeartbeats 8000000 in
theorem kind_open (n : Nat) (x : Nd) (w : World) (hx : x.In w) (ho : x.o = true)
    (ih : Hid (∀ (y : Nd) (W : World), y ∈ x.l → y.In W → Calls Tryz.prog 60 #[.agg #[.string y.w, .slice y.a y.l.length y.c, .bool y.o]] W (KdPost (kindT n y.tn) W))) :
    Calls Tryz.prog 60 #[.agg #[.string x.w, .slice x.a x.l.length x.c, .bool x.o]] w (KdPost (kindT (n + 1) x.tn) w) := by
  obtain ⟨W1, hW1⟩ : ∃ W, W = (w.alloc (.cells #[.string x.w, .slice x.a x.l.length x.c, .bool x.o] 67)).alloc (.cells #[.int .i64 0, .slice none 0 0] 24) := ⟨_, rfl⟩
  have HK : Hid (KB x w W1) := by rw [hW1]; exact KB.start x w
  by_cases hl : x.l.length = 3
  · obtain ⟨A, B, C, hABC⟩ : ∃ A B C, x.l = [A, B, C] := by
      match h : x.l, hl with
      | [A, B, C], _ => exact ⟨A, B, C, rfl⟩
    have hlz : (((x.l.length : Nat) : Int) != 3) = false := by rw [hl]; rfl
    obtain ⟨b, f, ea, e0, e1, e2, hA0⟩ := hx.part 0 (by omega)
    clear hA0
    obtain ⟨b', f', ea', e3, e4, e5, hB⟩ := hx.part 1 (by omega)
    obtain ⟨b'', f'', ea'', e6, e7, e8, hC⟩ := hx.part 2 (by omega)
    obtain ⟨rfl, rfl⟩ : b = b' ∧ f = f' := by rw [ea] at ea'; simpa using ea'
    obtain ⟨rfl, rfl⟩ : b = b'' ∧ f = f'' := by rw [ea] at ea''; simpa using ea''
    have HM : Hid (A ∈ x.l ∧ B ∈ x.l ∧ C ∈ x.l) := by show _ ∧ _; rw [hABC]; simp
    simp only [hABC, List.getElem_cons_zero, List.getElem_cons_succ, Nat.zero_mul, Nat.add_zero, Nat.one_mul, Nat.reduceMul] at e0 e1 e2 e3 e4 e5 e6 e7 e8 hB hC
    have HT3 := kindT_three n x A B C ho hABC
    have HIN : Hid (B.In w ∧ C.In w) := ⟨hB, hC⟩
    clear hB hC ea' ea''
    have HX : Hid (∀ V, Below W1.heap.size W1 V → (V.cell? ⟨b, f, none⟩ = some (.string A.w) ∧ V.cell? ⟨b, f + 2, none⟩ = some (.bool A.o)) ∧ (V.cell? ⟨b, f + 3, none⟩ = some (.string B.w) ∧ V.cell? ⟨b, f + 3 + 1, none⟩ = some (.slice B.a B.l.length B.c) ∧ V.cell? ⟨b, f + 3 + 2, none⟩ = some (.bool B.o)) ∧ (V.cell? ⟨b, f + 6, none⟩ = some (.string C.w) ∧ V.cell? ⟨b, f + 6 + 1, none⟩ = some (.slice C.a C.l.length C.c) ∧ V.cell? ⟨b, f + 6 + 2, none⟩ = some (.bool C.o))) := fun V hV => by
      have hb : Below w.heap.size w V := HK.out.low.trans (hV.mono HK.out.low.size)
      exact ⟨⟨cell_later hb e0, cell_later hb e2⟩, ⟨cell_later hb e3, cell_later hb e4, cell_later hb e5⟩, cell_later hb e6, cell_later hb e7, cell_later hb e8⟩
    clear e0 e1 e2 e3 e4 e5 e6 e7 e8
    obtain ⟨a0, a2⟩ := (HX.out W1 (Below.refl _ _)).1
    by_cases hA : A.o = true
    · have HT : Hid (kindT (n + 1) x.tn = none) := by
        show _ = _
        rw [HT3, if_neg (by rw [hA]; simp)]
      rw [hA] at a2
      clear HT3 hA hx hABC HM HIN ih HX
      have HEN : Hid (∀ V, Below W1.heap.size W1 V → KdPost (kindT (n + 1) x.tn) w (.returned (.tuple #[.agg #[.int .i64 0, .slice none 0 0], .bool false])) ((V.setCell ⟨w.heap.size + 1, 0, none⟩ (.int .i64 0)).setCell ⟨w.heap.size + 1, 1, none⟩ (.slice none 0 0)) ∧
          ((V.setCell ⟨w.heap.size + 1, 0, none⟩ (.int .i64 0)).setCell ⟨w.heap.size + 1, 1, none⟩ (.slice none 0 0)).cell? ⟨w.heap.size + 1, 0, none⟩ = some (.int .i64 0) ∧
          ((V.setCell ⟨w.heap.size + 1, 0, none⟩ (.int .i64 0)).setCell ⟨w.heap.size + 1, 1, none⟩ (.slice none 0 0)).cell? ⟨w.heap.size + 1, 1, none⟩ = some (.slice none 0 0)) := fun V hV =>
        kd_leaf (T := kindT (n + 1) x.tn) (z := 0) (b := false) (HK.out.below hV) (by rw [HT.out]; rfl) (fun i hi => by rw [HT.out] at hi; cases hi)
      obtain ⟨V, hV⟩ : ∃ V, V = W1.alloc (.cells #[.int .i64 0, .slice none 0 0] 24) := ⟨_, rfl⟩
      have HBV : Hid (Below W1.heap.size W1 V) := by rw [hV]; exact (Below.refl _ _).alloc (Nat.le_refl _) _
      obtain ⟨s0, s1, s2, s3⟩ : V.frozen? ⟨w.heap.size + 1, 0, none⟩ = false ∧ V.frozen? ⟨w.heap.size + 1, 1, none⟩ = false ∧ V.cell? ⟨w.heap.size + 1, 0, none⟩ = some (.int .i64 0) ∧ V.cell? ⟨w.heap.size + 1, 1, none⟩ = some (.slice none 0 0) := ⟨(HK.out.below HBV.out).f0, (HK.out.below HBV.out).f1, (HK.out.below HBV.out).r0, (HK.out.below HBV.out).r1⟩
      obtain ⟨p1, p2⟩ : W1.cell? ⟨w.heap.size, 1, none⟩ = some (.slice x.a x.l.length x.c) ∧ W1.cell? ⟨w.heap.size, 2, none⟩ = some (.bool x.o) := ⟨HK.out.b1, HK.out.b2⟩
      rw [ho] at p2
      rw [ea, hl] at p1
      clear ea hl hlz
      clear HK HT ho
      go_enter Tryz.func60, Tryz.ntmps60
      go_upto_region 1 with fail
      rw [← hW1]
      clear hW1
      go_wp2_with fail
      refine (any0_any _).mono ?_
      rintro e w3 ⟨rfl, hw3⟩
      rw [hw3, ← hV]
      obtain ⟨hE1, hE2, hE3⟩ := HEN.out V HBV.out
      have HE1 : Hid (KdPost (kindT (n + 1) x.tn) w (.returned (.tuple #[.agg #[.int .i64 0, .slice none 0 0], .bool false])) ((V.setCell ⟨w.heap.size + 1, 0, none⟩ (.int .i64 0)).setCell ⟨w.heap.size + 1, 1, none⟩ (.slice none 0 0))) := hE1
      clear hV hw3 w3 HEN HBV hE1
      go_wp2_with fail
      refine bodyPost_ret (v := .tuple #[.agg #[.int .i64 0, .slice none 0 0], .bool false]) ?_ rfl HE1.out
      simp [results, Tryz.results60, go_sem, hE2, hE3]

    · have hAo : A.o = false := by simpa using hA
      rw [hAo] at a2
      obtain ⟨bt, hbt⟩ : ∃ bt, (A.w.toList == (⟨#[116, 111]⟩ : ByteArray).toList) = bt := ⟨_, rfl⟩
      have hbt2 : (A.w.toList == [116, 111]) = bt := by rw [← hbt, Lib.toList_data ⟨#[116, 111]⟩]
      have HAW : Hid (A.w.data.toList = [116, 111] ↔ bt = true) := by
        show _ ↔ _
        rw [← hbt2, Lib.toList_data, beq_iff_eq]
      clear hbt
      cases bt
      · have HT : Hid (kindT (n + 1) x.tn = none) := by
          show _ = _
          rw [HT3, if_neg (fun h => by have := HAW.out.1 h.2; cases this)]
        clear HT3 hA hx hABC HM HIN ih HX HAW hAo
        have HEN : Hid (∀ V, Below W1.heap.size W1 V → KdPost (kindT (n + 1) x.tn) w (.returned (.tuple #[.agg #[.int .i64 0, .slice none 0 0], .bool false])) ((V.setCell ⟨w.heap.size + 1, 0, none⟩ (.int .i64 0)).setCell ⟨w.heap.size + 1, 1, none⟩ (.slice none 0 0)) ∧
            ((V.setCell ⟨w.heap.size + 1, 0, none⟩ (.int .i64 0)).setCell ⟨w.heap.size + 1, 1, none⟩ (.slice none 0 0)).cell? ⟨w.heap.size + 1, 0, none⟩ = some (.int .i64 0) ∧
            ((V.setCell ⟨w.heap.size + 1, 0, none⟩ (.int .i64 0)).setCell ⟨w.heap.size + 1, 1, none⟩ (.slice none 0 0)).cell? ⟨w.heap.size + 1, 1, none⟩ = some (.slice none 0 0)) := fun V hV =>
          kd_leaf (T := kindT (n + 1) x.tn) (z := 0) (b := false) (HK.out.below hV) (by rw [HT.out]; rfl) (fun i hi => by rw [HT.out] at hi; cases hi)
        obtain ⟨V, hV⟩ : ∃ V, V = W1.alloc (.cells #[.int .i64 0, .slice none 0 0] 24) := ⟨_, rfl⟩
        have HBV : Hid (Below W1.heap.size W1 V) := by rw [hV]; exact (Below.refl _ _).alloc (Nat.le_refl _) _
        obtain ⟨s0, s1, s2, s3⟩ : V.frozen? ⟨w.heap.size + 1, 0, none⟩ = false ∧ V.frozen? ⟨w.heap.size + 1, 1, none⟩ = false ∧ V.cell? ⟨w.heap.size + 1, 0, none⟩ = some (.int .i64 0) ∧ V.cell? ⟨w.heap.size + 1, 1, none⟩ = some (.slice none 0 0) := ⟨(HK.out.below HBV.out).f0, (HK.out.below HBV.out).f1, (HK.out.below HBV.out).r0, (HK.out.below HBV.out).r1⟩
        obtain ⟨p1, p2⟩ : W1.cell? ⟨w.heap.size, 1, none⟩ = some (.slice x.a x.l.length x.c) ∧ W1.cell? ⟨w.heap.size, 2, none⟩ = some (.bool x.o) := ⟨HK.out.b1, HK.out.b2⟩
        rw [ho] at p2
        rw [ea, hl] at p1
        clear ea hl hlz
        clear HK HT ho
        go_enter Tryz.func60, Tryz.ntmps60
        go_upto_region 1 with fail
        rw [← hW1]
        clear hW1
        go_wp2_with fail
        refine (any0_any _).mono ?_
        rintro e w3 ⟨rfl, hw3⟩
        rw [hw3, ← hV]
        obtain ⟨hE1, hE2, hE3⟩ := HEN.out V HBV.out
        have HE1 : Hid (KdPost (kindT (n + 1) x.tn) w (.returned (.tuple #[.agg #[.int .i64 0, .slice none 0 0], .bool false])) ((V.setCell ⟨w.heap.size + 1, 0, none⟩ (.int .i64 0)).setCell ⟨w.heap.size + 1, 1, none⟩ (.slice none 0 0))) := hE1
        clear hV hw3 w3 HEN HBV hE1
        go_wp2_with fail
        refine bodyPost_ret (v := .tuple #[.agg #[.int .i64 0, .slice none 0 0], .bool false]) ?_ rfl HE1.out
        simp [results, Tryz.results60, go_sem, hE2, hE3]

      · have HT : Hid (kindT (n + 1) x.tn = (kindT n B.tn).bind fun p => (kindT n C.tn).map fun q => ⟨3, [p, q]⟩) := by
          show _ = _
          rw [HT3, if_pos ⟨hAo, HAW.out.2 rfl⟩]
        obtain ⟨p1, p2⟩ : W1.cell? ⟨w.heap.size, 1, none⟩ = some (.slice x.a x.l.length x.c) ∧ W1.cell? ⟨w.heap.size, 2, none⟩ = some (.bool x.o) := ⟨HK.out.b1, HK.out.b2⟩
        have HP1 : Hid (∀ V, Below W1.heap.size W1 V → V.cell? ⟨w.heap.size, 1, none⟩ = some (.slice (some ⟨b, f, none⟩) 3 x.c)) := fun V hV => by
          have := (HK.out.below hV).b1
          rw [ea, hl] at this
          exact this
        rw [ho] at p2
        rw [ea, hl] at p1
        obtain ⟨d0, d1, d2⟩ := (HX.out W1 (Below.refl _ _)).2.1
        have HCB : Hid (Calls Tryz.prog 60 #[.agg #[.string B.w, .slice B.a B.l.length B.c, .bool B.o]] W1 (KdPost (kindT n B.tn) W1)) := ih.out B W1 HM.out.2.1 (HIN.out.1.below HK.out.low)
        clear HT3 hA hx hABC HAW hAo hlz ho ea hl
        go_enter Tryz.func60, Tryz.ntmps60
        go_upto_region 1 with fail
        rw [← hW1]
        clear hW1
        go_wp2_with fail
        refine HCB.out.mono ?_
        rintro e w3 ⟨tB, bB, rfl, HB⟩
        clear HCB a0 a2 d0 d1 d2 p1 p2 hbt2
        obtain ⟨W4, hW4⟩ : ∃ W, W = w3.alloc (.cells #[.int .i64 tB.k, .slice tB.a tB.l.length tB.c] 24) := ⟨_, rfl⟩
        have hb34 : Below w3.heap.size w3 W4 := by rw [hW4]; exact (Below.refl _ _).alloc (Nat.le_refl _) _
        have hb14 : Below W1.heap.size W1 W4 := HB.out.2.2.2.2.trans (hb34.mono HB.out.2.2.2.2.size)
        have HB4 : Hid (Below W1.heap.size W1 W4 ∧ tB.In W4 ∧ W4.cell? ⟨w3.heap.size, 0, none⟩ = some (.int .i64 tB.k) ∧ W4.cell? ⟨w3.heap.size, 1, none⟩ = some (.slice tB.a tB.l.length tB.c) ∧ W1.heap.size ≤ w3.heap.size) := ⟨hb14, HB.out.2.2.1.below hb34, by rw [hW4]; simp, by rw [hW4]; simp, HB.out.2.2.2.2.size⟩
        have p1 := HP1.out W4 hb14
        obtain ⟨d0, d1, d2⟩ := (HX.out W4 hb14).2.2
        have HCC : Hid (Calls Tryz.prog 60 #[.agg #[.string C.w, .slice C.a C.l.length C.c, .bool C.o]] W4 (KdPost (kindT n C.tn) W4)) := ih.out C W4 HM.out.2.2 ((HIN.out.2.below HK.out.low).below hb14)
        clear hb34 hb14
        go_upto_region 12 with fail
        rw [← hW4]
        clear hW4
        go_wp2_with fail
        refine HCC.out.mono ?_
        rintro e w5 ⟨tC, bC, rfl, HC⟩
        clear HCC p1 d0 d1 d2 HP1 HX ih
        obtain ⟨W6, hW6⟩ : ∃ W, W = w5.alloc (.cells #[.int .i64 tC.k, .slice tC.a tC.l.length tC.c] 24) := ⟨_, rfl⟩
        have hb56 : Below w5.heap.size w5 W6 := by rw [hW6]; exact (Below.refl _ _).alloc (Nat.le_refl _) _
        have hb46 : Below W4.heap.size W4 W6 := HC.out.2.2.2.2.trans (hb56.mono HC.out.2.2.2.2.size)
        have hb16 : Below W1.heap.size W1 W6 := HB4.out.1.trans (hb46.mono HB4.out.1.size)
        have l4 : w3.heap.size < W4.heap.size := World.block_lt_of_cell? _ _ HB4.out.2.2.1
        have r0 : W6.cell? ⟨w3.heap.size, 0, none⟩ = some (.int .i64 tB.k) := (hb46.cell (p := ⟨w3.heap.size, 0, none⟩) l4).trans HB4.out.2.2.1
        have r1 : W6.cell? ⟨w3.heap.size, 1, none⟩ = some (.slice tB.a tB.l.length tB.c) := (hb46.cell (p := ⟨w3.heap.size, 1, none⟩) l4).trans HB4.out.2.2.2.1
        have r2 : W6.cell? ⟨w5.heap.size, 0, none⟩ = some (.int .i64 tC.k) := by rw [hW6]; simp
        have r3 : W6.cell? ⟨w5.heap.size, 1, none⟩ = some (.slice tC.a tC.l.length tC.c) := by rw [hW6]; simp
        have HCF : Hid (Calls Tryz.prog 97 #[.agg #[.int .i64 tB.k, .slice tB.a tB.l.length tB.c], .agg #[.int .i64 tC.k, .slice tC.a tC.l.length tC.c]] W6 fun e w' => ∃ g, W6.heap.size ≤ g ∧ e = .returned (.agg #[.int .i64 3, .slice (some ⟨g, 0, none⟩) 2 2]) ∧ Hid ((Tr.mk 3 (some ⟨g, 0, none⟩) 2 [tB, tC]).In w' ∧ Below W6.heap.size W6 w')) := by
          refine (fun_any tB tC W6 (HB4.out.2.1.below hb46) (HC.out.2.2.1.below hb56)).mono ?_
          rintro e w' ⟨g, hg, rfl, h1, h2⟩
          exact ⟨g, hg, rfl, h1, h2⟩
        have HBB : Hid (bB = (kindT n B.tn).isSome ∧ (∀ i, kindT n B.tn = some i → tB.ty = i) ∧ tB.Bl (W1.heap.size ≤ ·)) := ⟨HB.out.1, HB.out.2.1, HB.out.2.2.2.1⟩
        have HCC2 : Hid (bC = (kindT n C.tn).isSome ∧ (∀ i, kindT n C.tn = some i → tC.ty = i) ∧ tC.Bl (W1.heap.size ≤ ·)) := ⟨HC.out.1, HC.out.2.1, HC.out.2.2.2.1.mono fun b hb => by have := HB4.out.1.size; omega⟩
        have H16 : Hid (Below W1.heap.size W1 W6) := hb16
        clear HB HC hb56 hb46 hb16 l4 HB4
        go_upto_region 13 with fail
        rw [← hW6]
        clear hW6
        go_wp2_with fail
        refine HCF.out.mono ?_
        rintro e w7 ⟨g, hg, rfl, HG⟩
        have H17 : Hid (Below W1.heap.size W1 w7) := H16.out.trans (HG.out.2.mono H16.out.size)
        have HKR := HK.out.below H17.out
        have s0 := HKR.f0
        have s1 := HKR.f1
        have s2 := HKR.r0
        have s3 := HKR.r1
        have hlt := HK.out.lt
        have HEN : Hid (KdPost (kindT (n + 1) x.tn) w (.returned (.tuple #[.agg #[.int .i64 3, .slice (some ⟨g, 0, none⟩) 2 2], .bool (bB && bC)])) ((w7.setCell ⟨w.heap.size + 1, 0, none⟩ (.int .i64 3)).setCell ⟨w.heap.size + 1, 1, none⟩ (.slice (some ⟨g, 0, none⟩) 2 2)) ∧
            ((w7.setCell ⟨w.heap.size + 1, 0, none⟩ (.int .i64 3)).setCell ⟨w.heap.size + 1, 1, none⟩ (.slice (some ⟨g, 0, none⟩) 2 2)).cell? ⟨w.heap.size + 1, 0, none⟩ = some (.int .i64 3) ∧
            ((w7.setCell ⟨w.heap.size + 1, 0, none⟩ (.int .i64 3)).setCell ⟨w.heap.size + 1, 1, none⟩ (.slice (some ⟨g, 0, none⟩) 2 2)).cell? ⟨w.heap.size + 1, 1, none⟩ = some (.slice (some ⟨g, 0, none⟩) 2 2)) := by
          have hs := H16.out.size
          refine kd_end (t := Tr.mk 3 (some ⟨g, 0, none⟩) 2 [tB, tC]) HKR ?_ (fun i hi => ?_) HG.out.1 (Tr.Bl_two ⟨by omega, by omega⟩ (HBB.out.2.2.mono fun b hb => ⟨by omega, by omega⟩) (HCC2.out.2.2.mono fun b hb => ⟨by omega, by omega⟩))
          · rw [HT.out, HBB.out.1, HCC2.out.1]
            cases kindT n B.tn with
            | none => rfl
            | some p => cases kindT n C.tn <;> rfl
          · rw [HT.out] at hi
            obtain ⟨p, hp, hi⟩ := Option.bind_eq_some_iff.1 hi
            obtain ⟨q, hq, rfl⟩ := Option.map_eq_some_iff.1 hi
            rw [Tr.ty_mk]
            simp [HBB.out.2.1 p hp, HCC2.out.2.1 q hq]
        clear HCF HG H16 H17 HKR HBB HCC2 HT HK hlt hg r0 r1 r2 r3 HM HIN
        obtain ⟨bb, hbb⟩ : ∃ bb, (bB && bC) = bb := ⟨_, rfl⟩
        rw [hbb] at HEN
        cases bB
        · obtain rfl : false = bb := hbb
          obtain ⟨_, hE2, hE3⟩ := HEN.out
          go_wp2_with fail
          refine bodyPost_ret (v := .tuple #[.agg #[.int .i64 3, .slice (some ⟨g, 0, none⟩) 2 2], .bool false]) ?_ rfl HEN.out.1
          simp [results, Tryz.results60, go_sem, hE2, hE3]
        · obtain rfl : bC = bb := by simpa using hbb
          obtain ⟨_, hE2, hE3⟩ := HEN.out
          clear hbb
          go_wp2_with fail
          refine bodyPost_ret (v := .tuple #[.agg #[.int .i64 3, .slice (some ⟨g, 0, none⟩) 2 2], .bool bC]) ?_ rfl HEN.out.1
          simp [results, Tryz.results60, go_sem, hE2, hE3]
  · have HT : Hid (kindT (n + 1) x.tn = none) := kindT_len n x ho hl
    have hlz : (((x.l.length : Nat) : Int) != 3) = true := by
      rw [bne_iff_ne]
      omega
    clear hx ih hl
    have HEN : Hid (∀ V, Below W1.heap.size W1 V → KdPost (kindT (n + 1) x.tn) w (.returned (.tuple #[.agg #[.int .i64 0, .slice none 0 0], .bool false])) ((V.setCell ⟨w.heap.size + 1, 0, none⟩ (.int .i64 0)).setCell ⟨w.heap.size + 1, 1, none⟩ (.slice none 0 0)) ∧
        ((V.setCell ⟨w.heap.size + 1, 0, none⟩ (.int .i64 0)).setCell ⟨w.heap.size + 1, 1, none⟩ (.slice none 0 0)).cell? ⟨w.heap.size + 1, 0, none⟩ = some (.int .i64 0) ∧
        ((V.setCell ⟨w.heap.size + 1, 0, none⟩ (.int .i64 0)).setCell ⟨w.heap.size + 1, 1, none⟩ (.slice none 0 0)).cell? ⟨w.heap.size + 1, 1, none⟩ = some (.slice none 0 0)) := fun V hV =>
      kd_leaf (T := kindT (n + 1) x.tn) (z := 0) (b := false) (HK.out.below hV) (by rw [HT.out]; rfl) (fun i hi => by rw [HT.out] at hi; cases hi)
    obtain ⟨V, hV⟩ : ∃ V, V = W1.alloc (.cells #[.int .i64 0, .slice none 0 0] 24) := ⟨_, rfl⟩
    have HBV : Hid (Below W1.heap.size W1 V) := by rw [hV]; exact (Below.refl _ _).alloc (Nat.le_refl _) _
    obtain ⟨s0, s1, s2, s3⟩ : V.frozen? ⟨w.heap.size + 1, 0, none⟩ = false ∧ V.frozen? ⟨w.heap.size + 1, 1, none⟩ = false ∧ V.cell? ⟨w.heap.size + 1, 0, none⟩ = some (.int .i64 0) ∧ V.cell? ⟨w.heap.size + 1, 1, none⟩ = some (.slice none 0 0) := ⟨(HK.out.below HBV.out).f0, (HK.out.below HBV.out).f1, (HK.out.below HBV.out).r0, (HK.out.below HBV.out).r1⟩
    obtain ⟨p1, p2⟩ : W1.cell? ⟨w.heap.size, 1, none⟩ = some (.slice x.a x.l.length x.c) ∧ W1.cell? ⟨w.heap.size, 2, none⟩ = some (.bool x.o) := ⟨HK.out.b1, HK.out.b2⟩
    rw [ho] at p2
    clear HK HT ho
    go_enter Tryz.func60, Tryz.ntmps60
    go_upto_region 1 with fail
    rw [← hW1]
    clear hW1
    go_wp2_with fail
    refine (any0_any _).mono ?_
    rintro e w3 ⟨rfl, hw3⟩
    rw [hw3, ← hV]
    obtain ⟨hE1, hE2, hE3⟩ := HEN.out V HBV.out
    have HE1 : Hid (KdPost (kindT (n + 1) x.tn) w (.returned (.tuple #[.agg #[.int .i64 0, .slice none 0 0], .bool false])) ((V.setCell ⟨w.heap.size + 1, 0, none⟩ (.int .i64 0)).setCell ⟨w.heap.size + 1, 1, none⟩ (.slice none 0 0))) := hE1
    clear hV hw3 w3 HEN HBV hE1
    go_wp2_with fail
    refine bodyPost_ret (v := .tuple #[.agg #[.int .i64 0, .slice none 0 0], .bool false]) ?_ rfl HE1.out
    simp [results, Tryz.results60, go_sem, hE2, hE3]


theorem kind_any : ∀ (n : Nat) (x : Nd) (w : World), x.In w → x.tn.flat.length ≤ n → Calls Tryz.prog 60 #[.agg #[.string x.w, .slice x.a x.l.length x.c, .bool x.o]] w (KdPost (kindT n x.tn) w)
  | 0, x, w, _, h => by have := flat_pos x.tn; omega
  | n + 1, x, w, hx, h => by
    by_cases ho : x.o = true
    · refine kind_open n x w hx ho fun y W hy hW => kind_any n y W hW ?_
      rw [flat_of x.tn (by rw [Nd.tn_o]; exact ho)] at h
      simp only [List.length_cons, List.length_append, List.length_nil] at h
      have := flatL_len_mem (x := y.tn) (l := x.tn.l) (by rw [Nd.tn_l]; exact List.mem_map.2 ⟨y, hy, rfl⟩)
      omega
    · exact kind_word n x w (by simpa using ho)
end Go.Proofs.YtnddkmccagiclaaGreatDoor

/-
  The number that a word of at most seven digits tells: the plain mathematics of ref's number.
-/
namespace Go.Proofs.YtnddkmccagiclaaGreatDoor

/-- What digits come to. -/
def valD (l : List UInt8) : Int := l.foldl (fun (n : Int) (c : UInt8) => 10 * n + (c.toNat : Int) - 48) 0

theorem valD_append (l : List UInt8) (c : UInt8) : valD (l ++ [c]) = 10 * valD l + (c.toNat : Int) - 48 := by
  simp [valD]

theorem valD_digits (u : Nat) : valD (Lib.decDigits u) = (u : Int) := by
  induction u using Nat.strongRecOn with
  | _ u ih =>
    by_cases h : u < 10
    · rw [Lib.decDigits_one h]
      have : (UInt8.ofNat (48 + u)).toNat = 48 + u := by simp; omega
      simp only [valD, List.foldl_cons, List.foldl_nil, this]
      omega
    · rw [← decDigits_more u h, Lib.decDigits_one (i := u % 10) (by omega), valD_append, ih (u / 10) (by omega)]
      have : (UInt8.ofNat (48 + u % 10)).toNat = 48 + u % 10 := by simp; omega
      rw [this]
      omega

def DigB (c : UInt8) : Prop := 48 ≤ c.toNat ∧ c.toNat ≤ 57

theorem valF_bound : ∀ (l : List UInt8) (acc P : Int), (∀ c, c ∈ l → DigB c) → 0 ≤ acc → P = 10 ^ l.length → acc * P + P ≤ 10000000 → 0 ≤ l.foldl (fun (n : Int) (c : UInt8) => 10 * n + (c.toNat : Int) - 48) acc ∧ l.foldl (fun (n : Int) (c : UInt8) => 10 * n + (c.toNat : Int) - 48) acc ≤ 9999999
  | [], acc, P, _, h0, hP, h => by
    simp only [List.length_nil, Int.pow_zero] at hP
    subst hP
    simp only [List.foldl_nil]
    omega
  | c :: r, acc, P, hd, h0, hP, h => by
    rw [List.length_cons, Int.pow_succ] at hP
    obtain ⟨R, hR⟩ : ∃ R : Int, R = 10 ^ r.length := ⟨_, rfl⟩
    rw [← hR] at hP
    have hR0 : 0 ≤ R := by rw [hR]; exact Int.pow_nonneg (by omega)
    obtain ⟨h1, h2⟩ := hd c List.mem_cons_self
    rw [List.foldl_cons]
    refine valF_bound r _ R (fun d hd' => hd d (List.mem_cons_of_mem _ hd')) (by omega) hR ?_
    have h3 : ((c.toNat : Int) - 48) * R ≤ 9 * R := Int.mul_le_mul_of_nonneg_right (by omega) hR0
    have e1 : (10 * acc + (c.toNat : Int) - 48) * R = 10 * (acc * R) + ((c.toNat : Int) - 48) * R := by
      rw [show 10 * acc + (c.toNat : Int) - 48 = 10 * acc + ((c.toNat : Int) - 48) by omega, Int.add_mul, Int.mul_assoc]
    have e2 : acc * (R * 10) = 10 * (acc * R) := by rw [← Int.mul_assoc]; omega
    rw [e1]
    rw [hP, e2] at h
    omega

theorem valD_bound (l : List UInt8) (h : ∀ c, c ∈ l → DigB c) (hl : l.length ≤ 7) : 0 ≤ valD l ∧ valD l ≤ 9999999 := by
  refine valF_bound l 0 (10 ^ l.length) h (by omega) rfl ?_
  have : ∀ k : Nat, k ≤ 7 → (10 : Int) ^ k ≤ 10000000 := fun k hk => by
    match k, hk with
    | 0, _ => decide
    | 1, _ => decide
    | 2, _ => decide
    | 3, _ => decide
    | 4, _ => decide
    | 5, _ => decide
    | 6, _ => decide
    | 7, _ => decide
  have := this l.length hl
  omega

/-- The digits, and whether a minus stands ahead of them. -/
def strip : List UInt8 → List UInt8 × Bool
  | 45 :: d => (d, true)
  | d => (d, false)
theorem strip_minus (d : List UInt8) : strip (45 :: d) = (d, true) := rfl
theorem strip_plain (l : List UInt8) (h : ∀ d, l ≠ 45 :: d) : strip l = (l, false) := by
  unfold strip
  split
  · rename_i d; exact absurd rfl (h d)
  · rfl

def okD (d : List UInt8) : Prop := d ≠ [] ∧ d.length ≤ 7 ∧ ∀ c, c ∈ d → DigB c
def sgn (p : List UInt8 × Bool) : Int := if p.2 = true then -valD p.1 else valD p.1

theorem sgn_bound {p : List UInt8 × Bool} (h : okD p.1) : -9999999 ≤ sgn p ∧ sgn p ≤ 9999999 ∧ 0 ≤ valD p.1 ∧ valD p.1 ≤ 9999999 := by
  obtain ⟨h1, h2⟩ := valD_bound p.1 h.2.2 h.2.1
  unfold sgn
  split <;> omega

theorem num_of_itoa (n : Int) (h : -9999999 ≤ n) (h' : n ≤ 9999999) : numOf (bw (Lib.itoa n)) = some n := by
  have hl : (Lib.itoa n).length ≤ 8 := by
    unfold Lib.itoa
    split
    · have := decDigits_seven n.natAbs (by omega)
      simp only [List.length_cons]; omega
    · have := decDigits_seven n.toNat (by omega)
      omega
  have ha : Lib.atoiAll (Lib.itoa n) = .ok n := by
    rw [Lib.atoiAll_short _ (by omega)]
    unfold Lib.itoa
    by_cases hn : n < 0
    · rw [if_pos hn]
      have : Lib.atoi (45 :: Lib.decDigits n.natAbs) = (Lib.decNat (Lib.decDigits n.natAbs)).map fun (m : Nat) => -(m : Int) := by simp [Lib.atoi]
      rw [this, decNat_digits]
      simp only [Option.map_some, Lib.NumEnd.ofOption]
      congr 1; omega
    · rw [if_neg hn]
      have hd := digits_are n.toNat
      cases hc : Lib.decDigits n.toNat with
      | nil => exact absurd hc (digits_ne _)
      | cons c r =>
        rw [hc] at hd
        have hc1 := hd c (by simp)
        have h45 : c ≠ 45 := by rintro rfl; simp at hc1
        have h43 : c ≠ 43 := by rintro rfl; simp at hc1
        have : Lib.atoi (c :: r) = (Lib.decNat (c :: r)).map fun (m : Nat) => (m : Int) := by simp [Lib.atoi, h45, h43]
        rw [this, ← hc, decNat_digits]
        simp only [Option.map_some, Lib.NumEnd.ofOption]
        congr 1; omega
  rw [numOf, bw_data, ha]
  exact if_pos rfl

theorem numOf_itoa {l : List UInt8} {v : Int} (h : numOf (bw l) = some v) : Lib.itoa v = l := by
  rw [numOf] at h
  split at h
  · split at h
    · rename_i e
      obtain rfl := Option.some.inj h
      exact bw_inj e
    · cases h
  · cases h

/-- A word that tells a number: its digits, and the number. -/
theorem numT_facts {l : List UInt8} {v : Int} (h : numT l = some v) : okD (strip l).1 ∧ v = sgn (strip l) ∧ Lib.itoa v = l := by
  obtain ⟨h1, h2, h3⟩ := numT_of h
  have hl := numOf_itoa h1
  refine ⟨?_, ?_, hl⟩
  all_goals
    rw [← hl]
    unfold Lib.itoa
    split
    · rename_i hn
      rw [strip_minus]
      first
        | exact ⟨digits_ne _, decDigits_seven _ (by omega), fun c hc => digits_are _ c hc⟩
        | (show v = if true = true then -valD (Lib.decDigits v.natAbs) else _
           rw [if_pos rfl, valD_digits]; omega)
    · rename_i hn
      have hp : ∀ d, Lib.decDigits v.toNat ≠ 45 :: d := fun d e => by
        have := digits_are v.toNat 45 (by rw [e]; simp)
        simp at this
      rw [strip_plain _ hp]
      first
        | exact ⟨digits_ne _, decDigits_seven _ (by omega), fun c hc => digits_are _ c hc⟩
        | (show v = if false = true then _ else valD (Lib.decDigits v.toNat)
           rw [if_neg (by simp), valD_digits]; omega)

theorem numT_bad {l : List UInt8} (h : ¬ okD (strip l).1) : numT l = none := by
  cases hn : numT l with
  | none => rfl
  | some v => exact absurd (numT_facts hn).1 h

theorem numT_good {l : List UInt8} (h : okD (strip l).1) : numT l = if Lib.itoa (sgn (strip l)) = l then some (sgn (strip l)) else none := by
  have hb := sgn_bound h
  split
  · rename_i e
    have := num_of_itoa (sgn (strip l)) hb.1 hb.2.1
    rw [e] at this
    exact numT_to this ⟨hb.1, hb.2.1⟩
  · rename_i e
    cases hn : numT l with
    | none => rfl
    | some v =>
      obtain ⟨_, h2, h3⟩ := numT_facts hn
      rw [← h2] at e
      exact absurd h3 e
end Go.Proofs.YtnddkmccagiclaaGreatDoor

/-
  What the call of ref's number answers.
-/
namespace Go.Proofs.YtnddkmccagiclaaGreatDoor
open Go.RowKit

/-- What a call that tells a number leaves. -/
def NuPost (s : List UInt8) (w : World) (e : Ending) (w' : World) : Prop :=
  ∃ (n : Int) (ok : Bool), e = .returned (.tuple #[.int .i64 n, .bool ok]) ∧ Hid (ok = (numT s).isSome ∧ (∀ v, numT s = some v → n = v) ∧ (-9999999 ≤ n ∧ n ≤ 9999999) ∧ Below w.heap.size w w')

theorem strip_trim (l : List UInt8) : Lib.trimPrefix l [45] = (strip l).1 := by
  by_cases h : ∃ d, l = 45 :: d
  · obtain ⟨d, rfl⟩ := h
    rw [strip_minus, Lib.trimPrefix, if_pos (by simp [Lib.hasPrefix])]
    rfl
  · rw [strip_plain l fun d e => h ⟨d, e⟩, Lib.trimPrefix, if_neg]
    intro hp
    cases l with
    | nil => simp [Lib.hasPrefix] at hp
    | cons c r =>
      have : 45 = c := by
        simp only [Lib.hasPrefix, List.isPrefixOf, Bool.and_true, beq_iff_eq] at hp
        exact hp
      exact h ⟨r, by rw [← this]⟩

theorem strip_ne (l : List UInt8) : ((strip l).1 = l) ↔ (strip l).2 = false := by
  by_cases h : ∃ d, l = 45 :: d
  · obtain ⟨d, rfl⟩ := h
    rw [strip_minus]
    constructor
    · intro e
      have := congrArg List.length e
      simp at this
    · intro e; cases e
  · rw [strip_plain l fun d e => h ⟨d, e⟩]
    simp

theorem dig_contains (c : UInt8) : digW.contains c = true ↔ DigB c := by
  have : ∀ n : Fin 256, digW.contains (UInt8.ofNat n.val) = true ↔ DigB (UInt8.ofNat n.val) := by
    unfold DigB
    decide +kernel
  have h := this ⟨c.toNat, c.toNat_lt⟩
  simpa using h

set_option maxRecDepth 20000 in
set_option maxHeartbeats 4000000 in
theorem numberR_any (s : ByteArray) (w : World) (hs : s.size ≤ 2000) : Calls Tryz.prog 59 #[.string s] w (NuPost s.data.toList w) := by
  obtain ⟨d, hd⟩ : ∃ d, (strip s.data.toList).1 = d := ⟨_, rfl⟩
  obtain ⟨D, hD⟩ : ∃ D, bw d = D := ⟨_, rfl⟩
  have HD : Hid (D.data.toList = d ∧ D.size = d.length) := by
    rw [← hD]
    exact ⟨rfl, by show d.toArray.size = _; simp⟩
  have hds : d.length ≤ 2000 := by
    have hl : s.data.toList.length = s.size := Array.length_toList
    rw [← hd, ← strip_trim, Lib.trimPrefix]
    split
    · rw [List.length_drop]; omega
    · omega
  have HP : Hid (∀ W, Calls Tryz.prog 95 #[.string s, .string ⟨#[45]⟩] W fun e w' => e = .returned (.string D) ∧ w' = W) := fun W => by
    refine (Tryz.strings_TrimPrefix s ⟨#[45]⟩ W).mono ?_
    rintro e w' ⟨rfl, h⟩
    refine ⟨?_, h⟩
    show Ending.returned (.string (bw (Lib.trimPrefix s.data.toList [45]))) = _
    rw [strip_trim, hd, hD]
  have HT : Hid (∀ W, Calls Tryz.prog 96 #[.string D, .string ⟨#[48, 49, 50, 51, 52, 53, 54, 55, 56, 57]⟩] W fun e w' => ∃ t : ByteArray, e = .returned (.string t) ∧ Hid (t = ⟨#[]⟩ ↔ ∀ c, c ∈ d → DigB c) ∧ Below W.heap.size W w') := fun W => by
    refine (trimDigits_any D W (by have := HD.out.2; omega)).mono ?_
    rintro e w' ⟨t, rfl, h1, h2⟩
    refine ⟨t, rfl, ?_, h2⟩
    show _ ↔ _
    rw [h1, HD.out.1]
    exact forall_congr' fun c => forall_congr' fun _ => dig_contains c
  have BAD : Hid (¬ okD d → ∀ W, Below w.heap.size w W → NuPost s.data.toList w (.returned (.tuple #[.int .i64 0, .bool false])) W) := fun h W hW =>
    ⟨0, false, rfl, by rw [numT_bad (by rw [hd]; exact h)]; exact ⟨rfl, (fun v hv => by cases hv), ⟨by omega, by omega⟩, hW⟩⟩
  have HGOOD : Hid (okD d → numT s.data.toList = if Lib.itoa (sgn (strip s.data.toList)) = s.data.toList then some (sgn (strip s.data.toList)) else none) := fun h => numT_good (by rw [hd]; exact h)
  have HSG : Hid (sgn (strip s.data.toList) = if (strip s.data.toList).2 = true then -valD d else valD d) := by
    show _ = _
    rw [sgn, hd]
  have HNE : Hid (d = s.data.toList ↔ (strip s.data.toList).2 = false) := by
    show _ ↔ _
    rw [← hd]
    exact strip_ne _
  clear hD hd
  go_enter Tryz.func59, Tryz.ntmps59
  go_wp2_with fail
  refine (HP.out _).mono ?_
  rintro e w1 ⟨rfl, hw1⟩
  rw [hw1]
  clear hw1 w1 HP
  by_cases h0 : d = []
  · have hemp : D.toList.isEmpty = true := by rw [Lib.toList_data, HD.out.1, h0]; rfl
    have HB := BAD.out (fun h => h.1 h0) w (Below.refl _ _)
    have HB' : Hid (NuPost s.data.toList w (.returned (.tuple #[.int .i64 0, .bool false])) w) := HB
    clear HB BAD HGOOD HSG HNE HT HD h0
    go_wp2_with fail
    refine bodyPost_ret (v := .tuple #[.int .i64 0, .bool false]) ?_ rfl HB'.out
    simp [results, Tryz.results59, go_sem]
  · have hemp : D.toList.isEmpty = false := by
      rw [Lib.toList_data, HD.out.1]
      cases d with
      | nil => exact absurd rfl h0
      | cons _ _ => rfl
    have hDs : D.size = d.length := HD.out.2
    by_cases h7 : d.length ≤ 7
    · have hgt : ¬ (7 : Int) < (d.length : Int) := by omega
      go_wp2_with fail
      refine (HT.out _).mono ?_
      rintro e w2 ⟨t, rfl, HTT, hb2⟩
      have H2 : Hid (Below w.heap.size w w2) := hb2
      clear hb2 HT
      by_cases ht : ∀ c, c ∈ d → DigB c
      · obtain rfl := HTT.out.2 ht
        have HOK : Hid (okD d) := ⟨h0, h7, ht⟩
        clear HTT BAD ht
        have he0 : (⟨#[]⟩ : ByteArray).toList.isEmpty = true := by rw [Lib.toList_data]; rfl
        have hcv := run_bytes_of_string (P := Tryz.prog) w2 9 123 5 D Tryz.underlying9 Tryz.underlying123 Tryz.underlying5
        obtain ⟨cp, hcp⟩ : ∃ cp, grownCap w2 D.size 0 5 = cp := ⟨_, rfl⟩
        rw [hcp] at hcv
        obtain ⟨W3, hW3⟩ : ∃ W, W = w2.drew.alloc (.cells (bytesRow D cp) 5 ((bytesRow D cp).size, (bytesRow D cp).size + 1)) := ⟨_, rfl⟩
        rw [← hW3, hDs] at hcv
        have HC : Hid ((∀ k (h : k < d.length), W3.cell? ⟨w2.heap.size, k, none⟩ = some (.int .u8 (d[k].toNat : Int))) ∧ Below w.heap.size w W3) := by
          refine ⟨fun k hk => ?_, H2.out.trans ?_⟩
          · have hh : W3.heap[w2.heap.size]? = some (.cells (bytesRow D cp) 5 ((bytesRow D cp).size, (bytesRow D cp).size + 1)) := by rw [hW3]; exact heap_alloc_new w2.drew _
            rw [cell_of_row W3 w2.heap.size k _ _ _ hh]
            have hk2 : k < D.data.size := by
              have : D.data.size = d.length := hDs
              omega
            unfold bytesRow
            rw [Array.getElem?_append_left (by simpa using hk2), Array.getElem?_map, Array.getElem?_eq_getElem hk2]
            have e1 : D.data.toList[k]? = some d[k] := by rw [HD.out.1, List.getElem?_eq_getElem hk]
            have e2 : D.data[k]'hk2 = d[k] := by
              rw [← Array.getElem_toList]
              rw [List.getElem?_eq_getElem (by simpa using hk2)] at e1
              exact Option.some.inj e1
            rw [e2]
            rfl
          · rw [hW3]
            exact ((Below.refl _ _).drew.alloc (Nat.le_refl _) _).mono H2.out.size
        clear hcp hW3 H2 hDs
        go_wp2_with fail
        go_loopg [5, 7, 25] d.length (fun g v5 _ v25 wr => ∃ k : Nat, g + k = d.length ∧ v25 = .int .i64 (k : Int) ∧ v5 = .int .i64 (valD (d.take k)) ∧ wr = W3)
        case atStart => exact ⟨0, rfl, rfl, by simp [valD], rfl⟩
        case round =>
          obtain ⟨k, hk, rfl, rfl, rfl⟩ := hrel
          obtain ⟨N, hN⟩ : ∃ N, valD (d.take k) = N := ⟨_, rfl⟩
          rw [hN]
          by_cases hlt : k < d.length
          · have c0 := HC.out.1 k hlt
            obtain ⟨x, hx⟩ : ∃ x, d[k] = x := ⟨_, rfl⟩
            rw [hx] at c0
            have hxd : DigB x := by rw [← hx]; exact HOK.out.2.2 _ (List.getElem_mem hlt)
            have hNb : 0 ≤ N ∧ N ≤ 9999999 := by
              rw [← hN]
              exact valD_bound _ (fun c hc => HOK.out.2.2 c (List.mem_of_mem_take hc)) (by rw [List.length_take]; omega)
            have HN1 : Hid (valD (d.take (k + 1)) = 10 * N + (x.toNat : Int) - 48) := by
              show _ = _
              rw [List.take_succ_eq_append_getElem hlt, valD_append, hN, hx]
            obtain ⟨x1, x2⟩ := hxd
            have q1 : IntKind.i64.wrap (10 * N) = 10 * N := Go.wrap_small _ (by omega) (by omega)
            have q2 : IntKind.i64.wrap (10 * N + (x.toNat : Int)) = 10 * N + (x.toNat : Int) := Go.wrap_small _ (by omega) (by omega)
            have q3 : IntKind.i64.wrap (10 * N + (x.toNat : Int) - 48) = 10 * N + (x.toNat : Int) - 48 := Go.wrap_small _ (by omega) (by omega)
            have q4 : (k : Int) < (d.length : Int) := by omega
            have q5 : IntKind.i64.wrap ((k : Int) + 1) = (k : Int) + 1 := Go.wrap_small _ (by omega) (by omega)
            have q6 : IntKind.i64.wrap (x.toNat : Int) = (x.toNat : Int) := Go.wrap_small _ (by omega) (by omega)
            clear hN hx HGOOD HSG HNE
            go_wp2_with fail
            go_roundg (gk - 1)
            case measure => omega
            case rel => exact ⟨k + 1, by omega, by simp, by rw [HN1.out], rfl⟩
          · have hke : k = d.length := by omega
            have q4 : ¬ (k : Int) < (d.length : Int) := by omega
            have HV : Hid (valD d = N ∧ 0 ≤ N ∧ N ≤ 9999999) := by
              rw [hke, List.take_length] at hN
              have := valD_bound d HOK.out.2.2 HOK.out.2.1
              rw [hN] at this
              exact ⟨hN, this⟩
            obtain ⟨ng, hng⟩ : ∃ ng, (strip s.data.toList).2 = ng := ⟨_, rfl⟩
            have hcmp : (D.toList == s.toList) = !ng := by
              rw [← hng, Lib.toList_data, Lib.toList_data, HD.out.1]
              cases hg : (strip s.data.toList).2
              · rw [HNE.out.2 hg]; simp
              · rw [Bool.not_true, beq_eq_false_iff_ne]
                intro e
                have := HNE.out.1 e
                rw [hg] at this
                cases this
            obtain ⟨n, hn⟩ : ∃ n, (if ng = true then -N else N) = n := ⟨_, rfl⟩
            have HnS : Hid (sgn (strip s.data.toList) = n ∧ -9999999 ≤ n ∧ n ≤ 9999999) := by
              refine ⟨by rw [HSG.out, hng, HV.out.1, hn], ?_, ?_⟩
              all_goals rw [← hn]; have := HV.out.2; split <;> omega
            clear hN hng
            obtain ⟨T, hT⟩ : ∃ T, bw (Lib.itoa n) = T := ⟨_, rfl⟩
            obtain ⟨okb, hokb⟩ : ∃ b, (T.toList == s.toList) = b := ⟨_, rfl⟩
            have HDEC : Hid (∀ W, Below wr.heap.size wr W → Calls Tryz.prog 39 #[.int .i64 n] W fun e w' => e = .returned (.string T) ∧ Below wr.heap.size wr w') := fun W hb => by
              refine (decimal_any n HnS.out.2.1 HnS.out.2.2 W).mono ?_
              rintro e w' ⟨rfl, h⟩
              exact ⟨by rw [hT], hb.trans (h.mono hb.size)⟩
            have HFIN : Hid (∀ W, Below wr.heap.size wr W → NuPost s.data.toList w (.returned (.tuple #[.int .i64 n, .bool okb])) W) := fun W hb => by
              have hg := HGOOD.out HOK.out
              rw [HnS.out.1] at hg
              have he : okb = true ↔ Lib.itoa n = s.data.toList := by
                rw [← hokb, Lib.toList_data, Lib.toList_data, ← hT, bw_data, beq_iff_eq]
              refine ⟨n, okb, rfl, ?_, ?_, ⟨HnS.out.2.1, HnS.out.2.2⟩, HC.out.2.trans (hb.mono HC.out.2.size)⟩
              · rw [hg]
                cases okb
                · rw [if_neg fun h => by have := he.2 h; cases this]; rfl
                · rw [if_pos (he.1 rfl)]; rfl
              · intro v hv
                rw [hg] at hv
                split at hv
                · exact Option.some.inj hv
                · cases hv
            clear HGOOD HSG HNE HC HD HOK hcv hT
            cases ng
            · obtain rfl : n = N := by simpa using hn.symm
              clear hn HV HnS
              go_wp2_with fail
              refine (HDEC.out _ (Below.refl _ _)).mono ?_
              rintro e w6 ⟨rfl, hb6⟩
              have HF : Hid (NuPost s.data.toList w (.returned (.tuple #[.int .i64 n, .bool okb])) w6) := HFIN.out w6 hb6
              clear hb6 HFIN HDEC
              go_wp2_with fail
              refine bodyPost_ret (v := .tuple #[.int .i64 n, .bool okb]) ?_ rfl HF.out
              simp [results, Tryz.results59, go_sem]
            · have hwn : IntKind.i64.wrap (-N) = n := by
                have := HV.out.2
                rw [show IntKind.i64.wrap (-N) = -N by rw [IntKind.wrap_i64]; omega]
                simpa using hn
              clear hn HV HnS
              go_wp2_with fail
              refine (HDEC.out _ (Below.refl _ _)).mono ?_
              rintro e w6 ⟨rfl, hb6⟩
              have HF : Hid (NuPost s.data.toList w (.returned (.tuple #[.int .i64 n, .bool okb])) w6) := HFIN.out w6 hb6
              clear hb6 HFIN HDEC
              go_wp2_with fail
              refine bodyPost_ret (v := .tuple #[.int .i64 n, .bool okb]) ?_ rfl HF.out
              simp [results, Tryz.results59, go_sem]
      · have htn : t.toList.isEmpty = false := by
          rw [Lib.toList_data]
          cases hc : t.data.toList with
          | nil =>
            exfalso
            refine ht (HTT.out.1 ?_)
            rw [← bw_of t, hc]
            rfl
          | cons _ _ => rfl
        have HB' : Hid (NuPost s.data.toList w (.returned (.tuple #[.int .i64 0, .bool false])) w2) := BAD.out (fun h => ht h.2.2) w2 H2.out
        clear BAD HGOOD HSG HNE HD h0 HTT
        go_wp2_with fail
        refine bodyPost_ret (v := .tuple #[.int .i64 0, .bool false]) ?_ rfl HB'.out
        simp [results, Tryz.results59, go_sem]
    · have hgt : (7 : Int) < (d.length : Int) := by omega
      have HB' : Hid (NuPost s.data.toList w (.returned (.tuple #[.int .i64 0, .bool false])) w) := BAD.out (fun h => h7 h.2.1) w (Below.refl _ _)
      clear BAD HGOOD HSG HNE HT HD h0
      go_wp2_with fail
      refine bodyPost_ret (v := .tuple #[.int .i64 0, .bool false]) ?_ rfl HB'.out
      simp [results, Tryz.results59, go_sem]
end Go.Proofs.YtnddkmccagiclaaGreatDoor
