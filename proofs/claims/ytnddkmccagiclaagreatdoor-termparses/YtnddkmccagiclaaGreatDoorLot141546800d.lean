/-
  What the calls of strings.TrimLeft and strings.Trim answer at this seat: the shelf's contracts, laid by hand.
-/
import Derived.Shelf.Strings.SlTrimAscii
import Derived.Test.YtnddkmccagiclaaGreatDoorLot8f935494a2
import Derived.Test.YtnddkmccagiclaaGreatDoorLot699faab87f
import Derived.Laws.Runes
import Derived.Scope
import Derived.Deep.RegionHeld3
import Derived.Lib.IndexBytes
import Derived.Deep.LoopGhost
import Derived.Lib.IndexAny
import Derived.Laws.RangeAny
import Derived.Lib.SpaceUEq
import Derived.Lib.OthersKept
import Derived.Test.YtnddkmccagiclaaGreatDoorLotf63a16e00c
import Derived.Test.YtnddkmccagiclaaGreatDoorLot8a8b3f08ee
import Derived.Lib.ItoaNum
import Derived.Lib.SlBytesRow
import Derived.IntWalk
import Derived.Test.YtnddkmccagiclaaGreatDoorLotd69e488c8b
import Derived.Test.YtnddkmccagiclaaGreatDoorRows
namespace Go.Proofs
open Go.Shelf
def Tryz.lays161_ren : Go.Shelf.Ren := ⟨fun | 161 => 57 | 231 => 88 | 227 => 89 | 233 => 90 | 235 => 91 | 228 => 94 | 197 => 119 | 151 => 125 | 260 => 152 | 152 => 92 | 137 => 126 | 119 => 127 | 224 => 128 | 225 => 129 | 217 => 158 | 266 => 180 | n => n, fun | 9 => 9 | 4 => 4 | 3 => 3 | 5 => 5 | 117 => 145 | 116 => 144 | 0 => 0 | 124 => 148 | 105 => 179 | 21 => 21 | 119 => 124 | 46 => 185 | 139 => 235 | 138 => 234 | n => n, fun | 3 => 8 | 4 => 9 | n => n⟩
theorem Tryz.lays161 : Go.Proofs.Lays.n161 Tryz.prog Tryz.lays161_ren := {
  mixed := by kernel_rfl
  f119 := Tryz.func127.trans (congrArg some (by kernel_rfl))
  f137 := Tryz.func126.trans (congrArg some (by kernel_rfl))
  f151 := Tryz.func125.trans (congrArg some (by kernel_rfl))
  f152 := Tryz.func92.trans (congrArg some (by kernel_rfl))
  f161 := Tryz.func57.trans (congrArg some (by kernel_rfl))
  f197 := Tryz.func119.trans (congrArg some (by kernel_rfl))
  f217 := Tryz.func158.trans (congrArg some (by kernel_rfl))
  f224 := Tryz.func128.trans (congrArg some (by kernel_rfl))
  f225 := Tryz.func129.trans (congrArg some (by kernel_rfl))
  f227 := Tryz.func89.trans (congrArg some (by kernel_rfl))
  f228 := Tryz.func94.trans (congrArg some (by kernel_rfl))
  f231 := Tryz.func88.trans (congrArg some (by kernel_rfl))
  f233 := Tryz.func90.trans (congrArg some (by kernel_rfl))
  f235 := Tryz.func91.trans (congrArg some (by kernel_rfl))
  f260 := Tryz.func152.trans (congrArg some (by kernel_rfl))
  f266 := Tryz.func180.trans (congrArg some (by kernel_rfl))
  t0 := Tryz.underlying0
  a0 := Tryz.isAgg0
  z0 := Tryz.sizeOf0
  v0 := Tryz.zeroValue0
  t3 := Tryz.underlying3
  a3 := Tryz.isAgg3
  z3 := Tryz.sizeOf3
  v3 := Tryz.zeroValue3
  t4 := Tryz.underlying4
  a4 := Tryz.isAgg4
  z4 := Tryz.sizeOf4
  v4 := Tryz.zeroValue4
  t5 := Tryz.underlying5
  a5 := Tryz.isAgg5
  z5 := Tryz.sizeOf5
  v5 := Tryz.zeroValue5
  t9 := Tryz.underlying9
  a9 := Tryz.isAgg9
  z9 := Tryz.sizeOf9
  v9 := Tryz.zeroValue9
  t21 := Tryz.underlying21
  a21 := Tryz.isAgg21
  z21 := Tryz.sizeOf21
  v21 := Tryz.zeroValue21
  t46 := Tryz.underlying185
  a46 := Tryz.isAgg185
  z46 := Tryz.sizeOf185
  v46 := Tryz.zeroValue185
  t105 := Tryz.underlying179
  a105 := Tryz.isAgg179
  z105 := Tryz.sizeOf179
  v105 := Tryz.zeroValue179
  t116 := Tryz.underlying144
  a116 := Tryz.isAgg144
  z116 := Tryz.sizeOf144
  t117 := Tryz.underlying145
  a117 := Tryz.isAgg145
  z117 := Tryz.sizeOf145
  v117 := Tryz.zeroValue145
  t119 := Tryz.underlying124
  a119 := Tryz.isAgg124
  z119 := Tryz.sizeOf124
  t124 := Tryz.underlying148
  a124 := Tryz.isAgg148
  z124 := Tryz.sizeOf148
  v124 := Tryz.zeroValue148
  t138 := Tryz.underlying234
  a138 := Tryz.isAgg234
  z138 := Tryz.sizeOf234
  v138 := Tryz.zeroValue234
  t139 := Tryz.underlying235
  a139 := Tryz.isAgg235
  z139 := Tryz.sizeOf235
  v139 := Tryz.zeroValue235
  g3 := by kernel_rfl
  g4 := by kernel_rfl }
def Tryz.lays160_ren : Go.Shelf.Ren := ⟨fun | 160 => 96 | 232 => 131 | 231 => 88 | 227 => 89 | 234 => 132 | 233 => 90 | 236 => 133 | 235 => 91 | 228 => 94 | 271 => 159 | 151 => 125 | 197 => 119 | 120 => 181 | 152 => 92 | 260 => 152 | 137 => 126 | 119 => 127 | 224 => 128 | 225 => 129 | 217 => 158 | 266 => 180 | n => n, fun | 9 => 9 | 4 => 4 | 3 => 3 | 5 => 5 | 117 => 145 | 116 => 144 | 0 => 0 | 124 => 148 | 21 => 21 | 105 => 179 | 46 => 185 | 119 => 124 | 139 => 235 | 138 => 234 | n => n, fun | 3 => 8 | 4 => 9 | n => n⟩
theorem Tryz.lays160 : Go.Proofs.Lays.n160 Tryz.prog Tryz.lays160_ren := {
  mixed := by kernel_rfl
  f119 := Tryz.func127.trans (congrArg some (by kernel_rfl))
  f120 := Tryz.func181.trans (congrArg some (by kernel_rfl))
  f137 := Tryz.func126.trans (congrArg some (by kernel_rfl))
  f151 := Tryz.func125.trans (congrArg some (by kernel_rfl))
  f152 := Tryz.func92.trans (congrArg some (by kernel_rfl))
  f160 := Tryz.func96.trans (congrArg some (by kernel_rfl))
  f197 := Tryz.func119.trans (congrArg some (by kernel_rfl))
  f217 := Tryz.func158.trans (congrArg some (by kernel_rfl))
  f224 := Tryz.func128.trans (congrArg some (by kernel_rfl))
  f225 := Tryz.func129.trans (congrArg some (by kernel_rfl))
  f227 := Tryz.func89.trans (congrArg some (by kernel_rfl))
  f228 := Tryz.func94.trans (congrArg some (by kernel_rfl))
  f231 := Tryz.func88.trans (congrArg some (by kernel_rfl))
  f232 := Tryz.func131.trans (congrArg some (by kernel_rfl))
  f233 := Tryz.func90.trans (congrArg some (by kernel_rfl))
  f234 := Tryz.func132.trans (congrArg some (by kernel_rfl))
  f235 := Tryz.func91.trans (congrArg some (by kernel_rfl))
  f236 := Tryz.func133.trans (congrArg some (by kernel_rfl))
  f260 := Tryz.func152.trans (congrArg some (by kernel_rfl))
  f266 := Tryz.func180.trans (congrArg some (by kernel_rfl))
  f271 := Tryz.func159.trans (congrArg some (by kernel_rfl))
  t0 := Tryz.underlying0
  a0 := Tryz.isAgg0
  z0 := Tryz.sizeOf0
  v0 := Tryz.zeroValue0
  t3 := Tryz.underlying3
  a3 := Tryz.isAgg3
  z3 := Tryz.sizeOf3
  v3 := Tryz.zeroValue3
  t4 := Tryz.underlying4
  a4 := Tryz.isAgg4
  z4 := Tryz.sizeOf4
  v4 := Tryz.zeroValue4
  t5 := Tryz.underlying5
  a5 := Tryz.isAgg5
  z5 := Tryz.sizeOf5
  v5 := Tryz.zeroValue5
  t9 := Tryz.underlying9
  a9 := Tryz.isAgg9
  z9 := Tryz.sizeOf9
  v9 := Tryz.zeroValue9
  t21 := Tryz.underlying21
  a21 := Tryz.isAgg21
  z21 := Tryz.sizeOf21
  v21 := Tryz.zeroValue21
  t46 := Tryz.underlying185
  a46 := Tryz.isAgg185
  z46 := Tryz.sizeOf185
  v46 := Tryz.zeroValue185
  t105 := Tryz.underlying179
  a105 := Tryz.isAgg179
  z105 := Tryz.sizeOf179
  v105 := Tryz.zeroValue179
  t116 := Tryz.underlying144
  a116 := Tryz.isAgg144
  z116 := Tryz.sizeOf144
  t117 := Tryz.underlying145
  a117 := Tryz.isAgg145
  z117 := Tryz.sizeOf145
  v117 := Tryz.zeroValue145
  t119 := Tryz.underlying124
  a119 := Tryz.isAgg124
  z119 := Tryz.sizeOf124
  t124 := Tryz.underlying148
  a124 := Tryz.isAgg148
  z124 := Tryz.sizeOf148
  v124 := Tryz.zeroValue148
  t138 := Tryz.underlying234
  a138 := Tryz.isAgg234
  z138 := Tryz.sizeOf234
  v138 := Tryz.zeroValue234
  t139 := Tryz.underlying235
  a139 := Tryz.isAgg235
  z139 := Tryz.sizeOf235
  v139 := Tryz.zeroValue235
  g3 := by kernel_rfl
  g4 := by kernel_rfl }
end Go.Proofs
namespace Go.Proofs.YtnddkmccagiclaaGreatDoor
open Go.RowKit

theorem trimLeft_eq : ∀ l : List UInt8, Lib.trimLeftS l [32, 10] = trimS l
  | [] => rfl
  | c :: r => by
    have ih := trimLeft_eq r
    have e : ([32, 10] : List UInt8).contains c = spB c := by
      simp only [List.contains_cons, List.contains_nil, Bool.or_false, spB]
    rw [Lib.trimLeftS, List.dropWhile_cons]
    rw [Lib.trimLeftS] at ih
    rw [trimS, e]
    split
    · exact ih
    · rfl

/-- strings.TrimLeft(s, " \n"). -/
theorem trimLeft_any (s : ByteArray) (w : World) : Calls Tryz.prog 57 #[.string s, .string ⟨#[32, 10]⟩] w fun e w' => e = .returned (.string (bw (trimS s.data.toList))) ∧ Below w.heap.size w w' := by
  refine (Any.strings_TrimLeft_laid Tryz.lays161 (by kernel_rfl) s ⟨#[32, 10]⟩ w (by decide) (ascii_of_all (by decide))).mono ?_
  rintro e w' ⟨rfl, hb⟩
  exact ⟨by show Ending.returned (.string ⟨(Lib.trimLeftS s.data.toList [32, 10]).toArray⟩) = _; rw [trimLeft_eq]; rfl, hb⟩

theorem dropW_nil {α : Type} (p : α → Bool) : ∀ l : List α, l.dropWhile p = [] ↔ ∀ x, x ∈ l → p x = true
  | [] => ⟨(fun _ x h => by cases h), fun _ => rfl⟩
  | a :: l => by
    rw [List.dropWhile_cons]
    have ih := dropW_nil p l
    by_cases h : p a = true
    · rw [if_pos h, ih]
      exact ⟨fun H x hx => by
        rcases List.mem_cons.1 hx with rfl | hx
        · exact h
        · exact H x hx, fun H x hx => H x (List.mem_cons_of_mem _ hx)⟩
    · rw [if_neg h]
      exact ⟨(fun e => by cases e), fun H => absurd (H a List.mem_cons_self) h⟩

theorem trim_nil (l cs : List UInt8) : Lib.trimS l cs = [] ↔ ∀ c, c ∈ l → cs.contains c = true := by
  rw [Lib.trimS, Lib.trimLeftS, dropW_nil]
  constructor
  · intro h c hc
    by_cases hm : c ∈ Lib.trimRightS l cs
    · exact h c hm
    · rw [Lib.trimRightS] at hm
      have hs : l.reverse.takeWhile (cs.contains ·) ++ l.reverse.dropWhile (cs.contains ·) = l.reverse := List.takeWhile_append_dropWhile
      have : c ∈ l.reverse.takeWhile (cs.contains ·) ++ l.reverse.dropWhile (cs.contains ·) := by rw [hs]; exact List.mem_reverse.2 hc
      rcases List.mem_append.1 this with h' | h'
      · exact List.all_eq_true.1 (List.all_takeWhile (p := (cs.contains ·)) (l := l.reverse)) c h'
      · exact absurd (List.mem_reverse.2 h') hm
  · intro h c hc
    rw [Lib.trimRightS] at hc
    exact h c (List.mem_reverse.1 ((List.dropWhile_suffix _).subset (List.mem_reverse.1 hc)))

def digW : List UInt8 := [48, 49, 50, 51, 52, 53, 54, 55, 56, 57]

/-- strings.Trim(s, "0123456789"): nothing is left where all are digits. -/
theorem trimDigits_any (s : ByteArray) (w : World) (hs : s.size ≤ 1000000) : Calls Tryz.prog 96 #[.string s, .string ⟨#[48, 49, 50, 51, 52, 53, 54, 55, 56, 57]⟩] w fun e w' => ∃ t : ByteArray, e = .returned (.string t) ∧ (t = ⟨#[]⟩ ↔ ∀ c, c ∈ s.data.toList → digW.contains c = true) ∧ Below w.heap.size w w' := by
  refine (Any.strings_Trim_laid Tryz.lays160 (by kernel_rfl) s ⟨#[48, 49, 50, 51, 52, 53, 54, 55, 56, 57]⟩ w (by omega) (by decide) (ascii_of_all (by decide))).mono ?_
  rintro e w' ⟨rfl, hb⟩
  refine ⟨_, rfl, ?_, hb⟩
  rw [← trim_nil s.data.toList digW]
  constructor
  · intro h
    have := congrArg (fun x : ByteArray => x.data.toList) h
    show Lib.trimS s.data.toList [48, 49, 50, 51, 52, 53, 54, 55, 56, 57] = []
    simpa using this
  · intro h
    show (⟨(Lib.trimS s.data.toList digW).toArray⟩ : ByteArray) = _
    rw [h]
end Go.Proofs.YtnddkmccagiclaaGreatDoor

/-
  What the call of strings.IndexAny answers for brackets and spaces, whatever the text: the shelf lacks short texts that are not ASCII.
-/
namespace Go.Proofs.YtnddkmccagiclaaGreatDoor
open Go.RowKit

def delB : ByteArray := ⟨#[32, 10, 40, 41]⟩

theorem delB_at (i : Nat) (h : i < delB.size) : (delB[i]'h).toNat < 128 := by
  have h4 : i < 4 := h
  match i, h4 with
  | 0, _ => show (32 : UInt8).toNat < 128; decide
  | 1, _ => show (10 : UInt8).toNat < 128; decide
  | 2, _ => show (40 : UInt8).toNat < 128; decide
  | 3, _ => show (41 : UInt8).toNat < 128; decide

theorem indexByte_none : ∀ (l : List UInt8) (c : UInt8), (∀ b, b ∈ l → b ≠ c) → Lib.indexByte l c = -1
  | [], _, _ => rfl
  | b :: l, c, h => by
    rw [Lib.indexByte, if_neg (by simpa using h b List.mem_cons_self), if_pos]
    rw [indexByte_none l c fun x hx => h x (List.mem_cons_of_mem _ hx)]
    rfl

set_option maxHeartbeats 4000000 in
set_option maxRecDepth 100000 in
/-- A rune that is none: not among them. -/
theorem indexRune_bad (w : World) : Calls Tryz.prog 92 #[.string delB, .int .i32 65533] w fun e w' => e = .returned (.int .i64 (-1)) ∧ Below w.heap.size w w' := by
  have hbelow : ∀ i, Below w.heap.size w (w.iter delB i) := fun i => by
    unfold World.iter
    exact (Below.refl _ _).alloc (Nat.le_refl _) _
  obtain ⟨D, hD⟩ : ∃ D, delB = D := ⟨_, rfl⟩
  have HS : Hid (D.size = 4 ∧ ∀ i (h : i < D.size), (D[i]'h).toNat < 128) := by
    subst hD
    exact ⟨rfl, delB_at⟩
  rw [hD] at hbelow ⊢
  clear hD
  go_enter Tryz.func92, Tryz.ntmps92
  go_wp2_with fail
  go_loopg [] 4 (fun g wr => ∃ i : Nat, i + g = 4 ∧ wr = w.iter D i)
  case atStart => exact ⟨0, rfl, rfl⟩
  case round =>
    obtain ⟨i, hig, rfl⟩ := hrel
    cases gk with
    | zero =>
      have hi : ¬ i < D.size := by rw [HS.out.1]; omega
      have hnx := fun ty => run_next_end (P := Tryz.prog) w D i ty hi
      go_wp2_with fail
      go_ret
      exact ⟨rfl, hbelow _⟩
    | succ g =>
      have hi : i < D.size := by rw [HS.out.1]; omega
      obtain ⟨x, hx⟩ : ∃ x : UInt8, D[i]'hi = x := ⟨_, rfl⟩
      have hx128 : x.toNat < 128 := by rw [← hx]; exact HS.out.2 i hi
      have hnx := fun ty => run_next_ascii (P := Tryz.prog) w D i ty hi (by rw [hx]; exact hx128)
      rw [hx] at hnx
      have hne : ((x.toNat : Int) == 65533) = false := by simp; omega
      clear hx
      go_wp2_with fail
      go_roundg g
      case measure => omega
      case rel => exact ⟨i + 1, by omega, rfl⟩

set_option maxHeartbeats 4000000 in
set_option maxRecDepth 100000 in
/-- A rune of more than one byte: not among them. -/
theorem indexRune_big (r : Int) (w : World) (h128 : 128 ≤ r) (hne : r ≠ 65533) (hv : Utf8.valid r = true) : Calls Tryz.prog 92 #[.string delB, .int .i32 r] w fun e w' => e = .returned (.int .i64 (-1)) ∧ Below w.heap.size w w' := by
  obtain ⟨h2, h4, hb⟩ := encode_facts r hv h128
  obtain ⟨E, hE⟩ : ∃ E, Utf8.encode r = E := ⟨_, rfl⟩
  rw [hE] at h2 h4 hb
  obtain ⟨n, hn⟩ : ∃ n, E.size = n + 1 := ⟨E.size - 1, by omega⟩
  have hnE : n < E.size := by omega
  obtain ⟨y, hy⟩ : ∃ y : UInt8, E[n]'hnE = y := ⟨_, rfl⟩
  have hy128 : 128 ≤ y.toNat := by
    have := hb (by omega)
    rw [← hy]
    simpa [hn] using this
  obtain ⟨D, hD⟩ : ∃ D, delB = D := ⟨_, rfl⟩
  have HD : Hid (delB = D) := hD
  have hD4 : D.size = 4 := by rw [← hD]; rfl
  have hnD : n < D.size := by omega
  obtain ⟨x, hx⟩ : ∃ x : UInt8, D[n]'hnD = x := ⟨_, rfl⟩
  have hx128 : x.toNat < 128 := by subst hD; rw [← hx]; exact delB_at n hnD
  have hvr : Lib.validRune r = true := by
    simp only [Utf8.valid, Bool.or_eq_true, Bool.and_eq_true, decide_eq_true_eq] at hv
    simp only [Lib.validRune, decide_eq_true_eq]
    omega
  have hr1 : decide (r < 128) = false := decide_eq_false (by omega)
  have hr2 : (r == 65533) = false := by simpa using hne
  have hr0 : decide (0 ≤ r) = true := decide_eq_true (by omega)
  rw [hD]
  clear hD hb hv hne
  go_enter Tryz.func92, Tryz.ntmps92
  go_wp2_with fail
  refine (Tryz.utf8_ValidRune r _).mono ?_
  rintro e w' ⟨rfl, hw⟩
  rw [hw, hvr]
  clear hw w'
  go_wp2_with fail
  refine wp_scope_straight ?_
  have hnz : ((E.size : Nat) : Int) - 1 = (n : Int) := by omega
  go_wp2_with fail
  go_loopg [9] 1 (fun g i wr => g = 1 ∧ i = .int .i64 (n : Int) ∧ wr = w)
  case atStart => exact ⟨rfl, rfl, rfl⟩
  case round =>
    obtain ⟨rfl, rfl, rfl⟩ := hrel
    have hn4 : (n : Int) < 4 := by omega
    have hxy : ((x.toNat : Int) != (y.toNat : Int)) = true := by simp; omega
    have hn0 : ¬ ((n : Int) < 0) := by omega
    have hn1 : (n : Int) < (n : Int) + 1 := by omega
    have hib : ∀ a, Lib.indexByte (D.extract a D.size).data.toList ((y.toNat : Int)).toNat.toUInt8 = -1 := fun a => by
      refine indexByte_none _ _ fun c hc e => ?_
      have hm : c ∈ D.data.toList := by
        rw [Lib.extract_to_end] at hc
        exact List.mem_of_mem_drop hc
      rw [← HD.out] at hm
      have : c.toNat < 128 := by
        have : c ∈ [(32 : UInt8), 10, 40, 41] := hm
        simp only [List.mem_cons, List.not_mem_nil, or_false] at this
        rcases this with rfl | rfl | rfl | rfl <;> decide
      rw [e] at this
      simp at this
      omega
    have hsl : ∀ w, (Instr.slice 9 (.string D) (some (.int .i64 ((n : Int) + 1))) none none).run Tryz.prog w = .ok (.string (D.extract (n + 1) D.size)) w := fun w => by
      rw [run_slice_string_from_if w 9 D .i64 ((n : Int) + 1) Tryz.underlying9, if_pos ⟨by omega, by omega⟩]
      rfl
    obtain ⟨T, hT⟩ : ∃ T, D.extract (n + 1) D.size = T := ⟨_, rfl⟩
    have hib' : Lib.indexByte T.data.toList ((y.toNat : Int)).toNat.toUInt8 = -1 := by rw [← hT]; exact hib _
    rw [hT] at hsl
    clear hib hT
    have hwr : IntKind.i64.wrap ((n : Int) + 1) = (n : Int) + 1 := Go.wrap_small _ (by omega) (by omega)
    have hn2 : (n : Int) + 1 ≤ 4 := by omega
    have hn3 : (0 : Int) ≤ (n : Int) + 1 := by omega
    go_wp2_with fail
    refine wp_scope_straight ?_
    go_wp2_with fail
    go_region_held3 (fun w' => Below wr.heap.size wr w') (first | exact (Below.refl _ _).drew | go_keep) (fail)
    all_goals go_wp2_with fail
    all_goals (go_region_held3 (fun w' => Below wr.heap.size wr w') (first | exact (Below.refl _ _).drew.drew | go_keep) (first | (go_at_call 126; refine (Tryz.strings_IndexByte _ _ _).mono ?_; rintro e w' ⟨rfl, hw⟩; rw [hw, hib'])))
    all_goals go_wp2_with fail
    all_goals (simp only [Exit.noGoto, Exit.then, Exit.inBlock])
    all_goals (go_ret; exact ⟨rfl, by assumption⟩)
end Go.Proofs.YtnddkmccagiclaaGreatDoor

/-
  What the call of strings.IndexAny answers for brackets and spaces, whatever the text.
-/
namespace Go.Proofs.YtnddkmccagiclaaGreatDoor
open Go.RowKit

/-- One step of the range over a text: an ASCII byte, or a rune of bytes that are none. -/
theorem rune_step (s : ByteArray) (i : Nat) (h : i < s.size) :
    ((s.data.toList.getD i 0).toNat < 128 ∧ Utf8.decode s i = ((s.data.toList.getD i 0).toNat, 1)) ∨
    (128 ≤ (Utf8.decode s i).1 ∧ Utf8.valid ((Utf8.decode s i).1 : Int) = true ∧ 1 ≤ (Utf8.decode s i).2 ∧ i + (Utf8.decode s i).2 ≤ s.size ∧ ∀ j, j < (Utf8.decode s i).2 → 128 ≤ (s.data.toList.getD (i + j) 0).toNat) := by
  have hl : s.data.toList.length = s.size := Array.length_toList
  have hd := Lib.decode_N s i
  generalize hR : Utf8.decode s i = D at hd
  have hsh := Lib.decodeN_shape (s.data.toList.length - i) (s.data.toList.getD i 0).toNat (s.data.toList.getD (i + 1) 0).toNat (s.data.toList.getD (i + 2) 0).toNat (s.data.toList.getD (i + 3) 0).toNat
  rw [← hd] at hsh
  rcases hsh with ⟨hb, he⟩ | ⟨hb, hn, hb1, hb2, he⟩ | ⟨hb, hn, hb1, hb2, hb3, hv, he⟩ | ⟨hb, hn, hb1, hb2, hb3, hb4, hv, he⟩ | he
  · exact .inl ⟨hb, he⟩
  · right
    rw [he]
    refine ⟨by show 128 ≤ _; omega, ?_, by show 1 ≤ 2; omega, by show i + 2 ≤ _; omega, fun j hj => ?_⟩
    · simp only [Utf8.valid, Bool.or_eq_true, Bool.and_eq_true, decide_eq_true_eq]
      omega
    · replace hj : j < 2 := hj
      obtain rfl | rfl : j = 0 ∨ j = 1 := by omega
      · show 128 ≤ (s.data.toList.getD i 0).toNat; omega
      · omega
  · right
    rw [he]
    refine ⟨by show 128 ≤ _; omega, ?_, by show 1 ≤ 3; omega, by show i + 3 ≤ _; omega, fun j hj => ?_⟩
    · simp only [Utf8.valid, Bool.or_eq_true, Bool.and_eq_true, decide_eq_true_eq]
      omega
    · replace hj : j < 3 := hj
      obtain rfl | rfl | rfl : j = 0 ∨ j = 1 ∨ j = 2 := by omega
      · show 128 ≤ (s.data.toList.getD i 0).toNat; omega
      · omega
      · omega
  · right
    rw [he]
    refine ⟨by show 128 ≤ _; omega, ?_, by show 1 ≤ 4; omega, by show i + 4 ≤ _; omega, fun j hj => ?_⟩
    · simp only [Utf8.valid, Bool.or_eq_true, Bool.and_eq_true, decide_eq_true_eq]
      omega
    · replace hj : j < 4 := hj
      obtain rfl | rfl | rfl | rfl : j = 0 ∨ j = 1 ∨ j = 2 ∨ j = 3 := by omega
      · show 128 ≤ (s.data.toList.getD i 0).toNat; omega
      · omega
      · omega
      · omega
  · right
    have hb : ¬ (s.data.toList.getD i 0).toNat < 128 := fun hb => by
      have e1 : Lib.decodeN (s.data.toList.length - i) (s.data.toList.getD i 0).toNat (s.data.toList.getD (i + 1) 0).toNat (s.data.toList.getD (i + 2) 0).toNat (s.data.toList.getD (i + 3) 0).toNat = ((s.data.toList.getD i 0).toNat, 1) := by
        rw [Lib.decodeN, if_pos hb]
      rw [← hd, he] at e1
      have := (Prod.mk.inj e1).1
      omega
    rw [he]
    refine ⟨by show 128 ≤ 65533; omega, by decide, by show 1 ≤ 1; omega, by show i + 1 ≤ _; omega, fun j hj => ?_⟩
    replace hj : j < 1 := hj
    obtain rfl : j = 0 := by omega
    show 128 ≤ (s.data.toList.getD i 0).toNat
    omega

def delL : List UInt8 := [32, 10, 40, 41]

theorem del_none {c : UInt8} (h : 128 ≤ c.toNat) : delL.contains c = false := by
  cases e : delL.contains c
  · rfl
  · exfalso
    have : c ∈ delL := by simpa using e
    simp only [delL, List.mem_cons, List.not_mem_nil, or_false] at this
    rcases this with rfl | rfl | rfl | rfl <;> revert h <;> decide

theorem noAny_more {s : ByteArray} {i : Nat} (k : Nat) (h : Lib.NoAny s.data.toList delL i) (hk : ∀ j, j < k → 128 ≤ (s.data.toList.getD (i + j) 0).toNat) : Lib.NoAny s.data.toList delL (i + k) := fun j b hj hb => by
  by_cases hi : j < i
  · exact h j b hi hb
  · have := hk (j - i) (by omega)
    rw [show i + (j - i) = j by omega, List.getD_eq_getElem?_getD, hb] at this
    exact del_none this

set_option maxHeartbeats 8000000 in
set_option maxRecDepth 100000 in
/-- A text of at most eight bytes. -/
theorem idxAny_short (s : ByteArray) (w : World) (h8 : s.size ≤ 8) : Calls Tryz.prog 58 #[.string s, .string delB] w fun e w' => e = .returned (.int .i64 (Lib.indexAny s.data.toList delL)) ∧ Below w.heap.size w w' := by
  obtain ⟨D, hD⟩ : ∃ D, delB = D := ⟨_, rfl⟩
  have HD : Hid (delB = D) := hD
  have hsz : D.size = 4 := by rw [← hD]; rfl
  have hemp : D.toList.isEmpty = false := by rw [← hD, Lib.toList_data]; rfl
  have hn1 : ((D.size : Int) == 1) = false := by rw [hsz]; rfl
  have h8z : decide ((8 : Int) < (s.size : Int)) = false := decide_eq_false (by omega)
  have HR : Hid (∀ (x : UInt8) W, x.toNat < 128 → Calls Tryz.prog 92 #[.string D, .int .i32 (x.toNat : Int)] W fun e w' => e = .returned (.int .i64 (Lib.indexByte delL x)) ∧ w' = W) := fun x W hx => by
    refine (Tryz.strings_IndexRune_ascii D (x.toNat : Int) W (by omega) (by omega)).mono ?_
    rintro e w' ⟨rfl, h⟩
    refine ⟨?_, h⟩
    rw [← hD, show ((x.toNat : Int)).toNat.toUInt8 = x by simp]
    rfl
  have HB : Hid (∀ (r : Nat) W, 128 ≤ r → Utf8.valid (r : Int) = true → Calls Tryz.prog 92 #[.string D, .int .i32 (r : Int)] W fun e w' => e = .returned (.int .i64 (-1)) ∧ Below W.heap.size W w') := fun r W h1 h2 => by
    rw [← hD]
    by_cases h3 : (r : Int) = 65533
    · rw [h3]; exact indexRune_bad W
    · exact indexRune_big (r : Int) W (by omega) h3 h2
  rw [hD]
  clear hD
  go_enter Tryz.func58, Tryz.ntmps58
  go_wp2_with fail
  refine (Tryz.strings_shouldUseASCIISet _ _).mono ?_
  rintro e w' ⟨rfl, hw⟩
  rw [hw, h8z]
  clear hw w'
  go_wp2_with fail
  go_loopg [9, 10] s.size (fun g _ _ wx => ∃ i : Nat, i + g = s.size ∧ Hid (Lib.NoAny s.data.toList delL i ∧ Below w.heap.size w wx ∧ wx.heap[w.heap.size]? = some (.stringIter s i)))
  case atStart => exact ⟨0, by omega, Lib.NoAny.zero _ _, (Below.refl _ _).alloc (Nat.le_refl _) _, World.iter_heap w s 0⟩
  case round =>
    obtain ⟨i, hig, HN⟩ := hrel
    by_cases hi : i < s.size
    · have hnx := fun ty => Lib.run_next_any_at (P := Tryz.prog) wr w.heap.size s i ty HN.out.2.2 hi
      obtain ⟨R, hR⟩ : ∃ R, (Utf8.decode s i).1 = R := ⟨_, rfl⟩
      obtain ⟨k, hk⟩ : ∃ k, (Utf8.decode s i).2 = k := ⟨_, rfl⟩
      have hst := rune_step s i hi
      rw [hR, hk] at hst hnx
      have hdk : Utf8.decode s i = (R, k) := by rw [← hR, ← hk]
      rw [hdk] at hst
      clear hR hk hdk
      have HV : Hid (Below w.heap.size w (wr.iterAt w.heap.size s (i + k)) ∧ (wr.iterAt w.heap.size s (i + k)).heap[w.heap.size]? = some (.stringIter s (i + k))) := ⟨Lib.below_iterAt HN.out.2.1 (Nat.le_refl _) _ _, Lib.iterAt_heap _ _ _ _ _ HN.out.2.2⟩
      obtain ⟨V, hV⟩ : ∃ V, wr.iterAt w.heap.size s (i + k) = V := ⟨_, rfl⟩
      rw [hV] at hnx HV
      clear hV
      rcases hst with ⟨hb, hd⟩ | ⟨hr1, hr2, hr3, hr4, hr5⟩
      · obtain ⟨hR, rfl⟩ := Prod.mk.inj hd
        obtain ⟨x, hx⟩ : ∃ x : UInt8, s.data.toList.getD i 0 = x := ⟨_, rfl⟩
        rw [hx] at hb hR
        subst hR
        have hl : s.data.toList.length = s.size := Array.length_toList
        have hxl : s.data.toList[i]? = some x := by
          rw [← hx, List.getD_eq_getElem?_getD, List.getElem?_eq_getElem (by omega)]
          rfl
        have Hx : Hid (s.data.toList[i]? = some x) := hxl
        clear hxl hx hl hd
        have hcon := Lib.contains_iff_indexByte delL x
        obtain ⟨q, hq⟩ : ∃ q, Lib.indexByte delL x = q := ⟨_, rfl⟩
        rw [hq] at hcon
        have Hq : Hid (Lib.indexByte delL x = q) := hq
        clear hq
        cases hin : delL.contains x
        · rw [hin] at hcon
          have hlt : ¬ ((0 : Int) ≤ q) := of_decide_eq_false hcon.symm
          clear hcon
          go_wp2_with fail
          refine (HR.out x _ hb).mono ?_
          rintro e w' ⟨rfl, hw⟩
          rw [hw, Hq.out]
          clear hw w'
          go_wp2_with fail
          go_roundg (gk - 1)
          case measure => omega
          case rel => exact ⟨i + 1, by omega, HN.out.1.succ Hx.out hin, HV.out⟩
        · rw [hin] at hcon
          have hge : (0 : Int) ≤ q := of_decide_eq_true hcon.symm
          clear hcon
          have HF : Hid (Lib.indexAny s.data.toList delL = (i : Int)) := Lib.indexAny_hit HN.out.1 Hx.out hin
          go_wp2_with fail
          refine (HR.out x _ hb).mono ?_
          rintro e w' ⟨rfl, hw⟩
          rw [hw, Hq.out]
          clear hw w'
          go_wp2_with fail
          rw [HF.out]
          go_ret
          exact ⟨rfl, HV.out.1⟩
      · have HNN : Hid (Lib.NoAny s.data.toList delL (i + k)) := noAny_more k HN.out.1 hr5
        replace hr1 : 128 ≤ R := hr1
        replace hr2 : Utf8.valid (R : Int) = true := hr2
        replace hr3 : 1 ≤ k := hr3
        replace hr4 : i + k ≤ s.size := hr4
        have HR2 : Hid (128 ≤ R ∧ Utf8.valid (R : Int) = true) := ⟨hr1, hr2⟩
        clear hr5 hr1 hr2
        have hlt : ¬ ((0 : Int) ≤ -1) := by omega
        go_wp2_with fail
        refine (HB.out R _ HR2.out.1 HR2.out.2).mono ?_
        rintro e w' ⟨rfl, hbw⟩
        have HW : Hid (Below w.heap.size w w' ∧ w'.heap[w.heap.size]? = some (.stringIter s (i + k))) := by
          have hs := HV.out.1.size
          have hlt : w.heap.size < V.heap.size := (Array.getElem?_eq_some_iff.1 HV.out.2).1
          exact ⟨HV.out.1.trans (hbw.mono hs), (hbw.block _ hlt).trans HV.out.2⟩
        clear hbw
        go_wp2_with fail
        go_roundg (gk - k)
        case measure => omega
        case rel => exact ⟨i + k, by omega, HNN.out, HW.out⟩
    · have hnx := fun ty => Lib.run_next_end_at (P := Tryz.prog) wr w.heap.size s i ty HN.out.2.2 hi
      have hse : i = s.size := by omega
      have HF : Hid (Lib.indexAny s.data.toList delL = -1) := Lib.indexAny_none (by
        have hl : s.data.toList.length = s.size := Array.length_toList
        rw [hl, ← hse]; exact HN.out.1)
      go_wp2_with fail
      rw [HF.out]
      go_ret
      exact ⟨rfl, HN.out.2.1⟩

theorem mid_del (c : UInt8) : midB c = !delL.contains c := by
  simp only [midB, delL, spB, brB, List.contains_cons, List.contains_nil, Bool.or_false]
  cases c == 32 <;> cases c == 10 <;> cases c == 40 <;> cases c == 41 <;> rfl

/-- Where the first of them stands: behind the word. -/
theorem indexAny_take : ∀ l : List UInt8, Lib.indexAny l delL = if (takeW l).length < l.length then ((takeW l).length : Int) else -1
  | [] => rfl
  | c :: r => by
    have ih := indexAny_take r
    rw [Lib.indexAny]
    cases hc : delL.contains c
    · have hm : midB c = true := by rw [mid_del, hc]; rfl
      have e : takeW (c :: r) = c :: takeW r := by simp [takeW, hm]
      rw [e, ih]
      simp only [Bool.false_eq_true, if_false, List.length_cons]
      by_cases h : (takeW r).length < r.length
      · have h' : (takeW r).length + 1 < r.length + 1 := by omega
        have hz : (((takeW r).length : Int) == -1) = false := by
          rw [beq_eq_false_iff_ne]
          omega
        simp only [h, h', if_true, hz, Bool.false_eq_true, if_false]
        omega
      · have h' : ¬ (takeW r).length + 1 < r.length + 1 := by omega
        simp only [h, h', if_false]
        rfl
    · have hm : midB c = false := by rw [mid_del, hc]; rfl
      have e : takeW (c :: r) = [] := by simp [takeW, hm]
      rw [e]
      simp

theorem idxAny_any (s : ByteArray) (w : World) (hs : s.size ≤ 1000000) : Calls Tryz.prog 58 #[.string s, .string delB] w fun e w' => e = .returned (.int .i64 (Lib.indexAny s.data.toList delL)) ∧ Below w.heap.size w w' := by
  by_cases h8 : s.size ≤ 8
  · exact idxAny_short s w h8
  · refine (Tryz.strings_IndexAny_long (zero_of_info (P := Tryz.prog) (n := 256) (by kernel_rfl)).1 s delB w (by decide) (by omega) (by omega) (by decide) (ascii_of_all (by decide))).mono ?_
    rintro e w' ⟨rfl, hw⟩
    refine ⟨rfl, ?_⟩
    rw [hw]
    exact ((Below.refl _ _).alloc (Nat.le_refl _) _).alloc (by simp) _
end Go.Proofs.YtnddkmccagiclaaGreatDoor

/-
  What the call of chaperoneref.decimal answers.
-/
namespace Go.Proofs.YtnddkmccagiclaaGreatDoor
open Go.RowKit

theorem Tryz.underlying123 : Tryz.prog.underlying 123 = some (.slice 5) := by kernel_rfl
theorem Tryz.underlying5 : Tryz.prog.underlying 5 = some (.int .u8) := by kernel_rfl
theorem Tryz.underlying9 : Tryz.prog.underlying 9 = some .string := by kernel_rfl

theorem rcat_run (a b : List UInt8) (h : a.length + b.length ≤ 1000000000) (w : World) : (Op.stringOp .add (bw a) (bw b)).run Tryz.prog w = .ok (.string (bw (a ++ b))) w := by
  have e : bw a ++ bw b = bw (a ++ b) := by
    apply ByteArray.ext
    show (bw a ++ bw b).data = (a ++ b).toArray
    rw [ByteArray.data_append]
    simp [bw]
  rw [run_string_add_sum, e]
  show a.toArray.size + b.toArray.size ≤ 9223372036854775807
  simp; omega

/-- A string of one byte. -/
theorem one_byte (u : Nat) (hu : u < 10) (w : World) : (convert 123 9 (.slice (some ⟨w.heap.size, 0, none⟩) 1 1)).run Tryz.prog (w.alloc (.cells #[.int .u8 (48 + (u : Int))] 5)) = .ok (.string (bw (Lib.decDigits u))) (w.alloc (.cells #[.int .u8 (48 + (u : Int))] 5)) := by
  rw [Lib.decDigits_one hu]
  refine Lib.run_convert_whole (P := Tryz.prog) _ 123 5 9 Tryz.underlying123 Tryz.underlying5 Tryz.underlying9 w.heap.size 0 (bw [UInt8.ofNat (48 + u)]) (fun i hi => ?_) 1
  have h0 : i = 0 := by
    have : (bw [UInt8.ofNat (48 + u)]).size = 1 := rfl
    omega
  subst h0
  have e : (bw [UInt8.ofNat (48 + u)])[0].toNat = 48 + u := by
    show (UInt8.ofNat (48 + u)).toNat = _
    simp; omega
  rw [e]
  simp [go_sem]

theorem nDigits_le : ∀ (k v : Nat), v < 10 ^ (k + 1) → Lib.nDigits v ≤ k + 1
  | 0, v, h => by rw [Lib.nDigits_small (by simpa using h)]; omega
  | k + 1, v, h => by
    by_cases hs : v < 10
    · rw [Lib.nDigits_small hs]; omega
    · rw [Lib.nDigits_big hs]
      rw [Nat.pow_succ] at h
      have := nDigits_le k (v / 10) (by omega)
      omega

theorem decDigits_seven (u : Nat) (hu : u ≤ 9999999) : (Lib.decDigits u).length ≤ 7 := by
  rw [Lib.decDigits_length]
  exact nDigits_le 6 u (by omega)

theorem decDigits_len (u : Nat) (hu : u ≤ 9999999) : (Lib.decDigits u).length ≤ 30 := by
  have := decDigits_seven u hu
  omega

theorem decDigits_more (u : Nat) (h : ¬ u < 10) : Lib.decDigits (u / 10) ++ Lib.decDigits (u % 10) = Lib.decDigits u := by
  rw [Lib.decDigits_one (i := u % 10) (by omega)]
  conv => rhs; rw [Lib.decDigits, dif_neg h]

set_option maxRecDepth 20000 in
set_option maxHeartbeats 1000000 in
theorem decimal_nat (u : Nat) : u ≤ 9999999 → ∀ w : World, Calls Tryz.prog 39 #[.int .i64 (u : Int)] w fun e w' => e = .returned (.string (bw (Lib.decDigits u))) ∧ Below w.heap.size w w' := by
  induction u using Nat.strongRecOn with
  | _ u ih =>
    intro hu w
    have h0 : ¬ (u : Int) < 0 := by omega
    by_cases h9 : u < 10
    · have h1 : ¬ (u : Int) > 9 := by omega
      have hbw : ∀ o, Below w.heap.size w (w.alloc o) := fun o => (Below.refl _ _).alloc (Nat.le_refl _) _
      have hcv := one_byte u h9 w
      clear ih
      go_enter Tryz.func39, Tryz.ntmps39
      go_wp2_with fail
      refine bodyPost_ret (v := .string (bw (Lib.decDigits u))) ?_ rfl ⟨rfl, hbw _⟩
      simp [results, Tryz.results39, go_sem]
    · have h1 : (9 : Int) < (u : Int) := by omega
      have HA : Hid (∀ w : World, Calls Tryz.prog 39 #[.int .i64 ((u : Int) / 10)] w fun e w' => e = .returned (.string (bw (Lib.decDigits (u / 10)))) ∧ Below w.heap.size w w') := by
        intro w
        rw [show (u : Int) / 10 = ((u / 10 : Nat) : Int) by omega]
        exact ih (u / 10) (by omega) (by omega) w
      have HC : Hid (∀ w : World, Calls Tryz.prog 39 #[.int .i64 ((u : Int) % 10)] w fun e w' => e = .returned (.string (bw (Lib.decDigits (u % 10)))) ∧ Below w.heap.size w w') := by
        intro w
        rw [show (u : Int) % 10 = ((u % 10 : Nat) : Int) by omega]
        exact ih (u % 10) (by omega) (by omega) w
      have hcat : ∀ W, (Op.stringOp .add (bw (Lib.decDigits (u / 10))) (bw (Lib.decDigits (u % 10)))).run Tryz.prog W = .ok (.string (bw (Lib.decDigits u))) W := fun W => by
        have l1 := decDigits_len (u / 10) (by omega)
        have l2 := decDigits_len (u % 10) (by omega)
        rw [rcat_run _ _ (by omega) W, decDigits_more u h9]
      clear ih
      go_enter Tryz.func39, Tryz.ntmps39
      go_wp2_with fail
      refine (HA.out _).mono ?_
      rintro e w1 ⟨rfl, hb1⟩
      go_wp2_with fail
      refine (HC.out _).mono ?_
      rintro e w2 ⟨rfl, hb2⟩
      go_wp2_with fail
      refine bodyPost_ret (v := .string (bw (Lib.decDigits u))) ?_ rfl ⟨rfl, hb1.trans (hb2.mono hb1.size)⟩
      simp [results, Tryz.results39, go_sem]

set_option maxRecDepth 20000 in
set_option maxHeartbeats 1000000 in
/-- decimal. -/
theorem decimal_any (n : Int) (h0 : -9999999 ≤ n) (h1 : n ≤ 9999999) (w : World) : Calls Tryz.prog 39 #[.int .i64 n] w fun e w' => e = .returned (.string (bw (Lib.itoa n))) ∧ Below w.heap.size w w' := by
  by_cases hn : n < 0
  · have HA : Hid (∀ w : World, Calls Tryz.prog 39 #[.int .i64 (-n)] w fun e w' => e = .returned (.string (bw (Lib.decDigits n.natAbs))) ∧ Below w.heap.size w w') := by
      intro w
      rw [show -n = ((n.natAbs : Nat) : Int) by omega]
      exact decimal_nat n.natAbs (by omega) w
    have hcat : ∀ W, (Op.stringOp .add { data := #[45] } (bw (Lib.decDigits n.natAbs))).run Tryz.prog W = .ok (.string (bw (Lib.itoa n))) W := fun W => by
      have l1 := decDigits_len n.natAbs (by omega)
      have := rcat_run [45] (Lib.decDigits n.natAbs) (by simp; omega) W
      have e : Lib.itoa n = [45] ++ Lib.decDigits n.natAbs := by unfold Lib.itoa; rw [if_pos hn]; rfl
      rw [e]
      exact this
    go_enter Tryz.func39, Tryz.ntmps39
    go_wp2_with fail
    refine (HA.out _).mono ?_
    rintro e w1 ⟨rfl, hb1⟩
    go_wp2_with fail
    refine bodyPost_ret (v := .string (bw (Lib.itoa n))) ?_ rfl ⟨rfl, hb1⟩
    simp [results, Tryz.results39, go_sem]
  · obtain ⟨u, rfl⟩ : ∃ u : Nat, n = (u : Int) := ⟨n.toNat, by omega⟩
    have e : Lib.itoa (u : Int) = Lib.decDigits u := by unfold Lib.itoa; rw [if_neg (by omega)]; simp
    rw [e]
    exact decimal_nat u (by omega) w
end Go.Proofs.YtnddkmccagiclaaGreatDoor

/-
  What the calls of kind.holds (of kind.same) and kind.Same answer at two trees of which the first has at most a thousand levels.
-/
namespace Go.Proofs.YtnddkmccagiclaaGreatDoor
open Go.RowKit

/-- The list that is put off: the one pair, or none. -/
def Off (R : Nat) (x y : Tr) (r : Bool) (k : Nat) (wr : World) : Prop :=
  wr.frozen? ⟨R, 0, none⟩ = false ∧
  ((k = 1 ∧ ∃ g cap, wr.cell? ⟨R, 0, none⟩ = some (.slice (some ⟨g, 0, none⟩) 1 cap) ∧ wr.ownsRow (R + 1) 168 5 (.slice (some ⟨g, 0, none⟩) 1 cap) 1 [.int .i64 x.k, .slice x.a x.l.length x.c, .int .i64 y.k, .slice y.a y.l.length y.c, .pointer none])
    ∨ (k = 0 ∧ r = true ∧ ∃ a cap, wr.cell? ⟨R, 0, none⟩ = some (.slice a 0 cap)))

set_option maxHeartbeats 1000000 in
theorem holds_31 (x y : Tr) (r : Bool) (w : World) (hx : x.In w) (hy : y.In w)
    (HC : Hid (∀ (rp : Option Addr) (w : World), x.In w → y.In w → Calls Tryz.prog 80 #[.agg #[.int .i64 x.k, .slice x.a x.l.length x.c], .agg #[.int .i64 y.k, .slice y.a y.l.length y.c], .int .i64 1000, .pointer rp] w fun e w' => e = .returned (.bool r) ∧ Below w.heap.size w w')) :
    Calls Tryz.prog 79 #[.func (.func 80) #[] #[], .agg #[.int .i64 x.k, .slice x.a x.l.length x.c], .agg #[.int .i64 y.k, .slice y.a y.l.length y.c]] w fun e w' => e = .returned (.bool r) ∧ Below w.heap.size w w' := by
  go_enter Tryz.func79, Tryz.ntmps79
  go_wp2_with fail
  refine (put_any (w.heap.size + 1 + 1) (.slice none 0 0) 0 [] x.k y.k x.a y.a x.l.length y.l.length x.c y.c none _ (by simp [go_sem]) (by simp [go_sem]) (World.ownsRow_nil _ _ _ _) (by omega)).mono ?_
  rintro e w1 ⟨rfl, g, cap, hc1, hf1, ho1, _, hk1⟩
  have hbw : Below w.heap.size w w1 := ((((Below.refl _ _).alloc (Nat.le_refl _) _).alloc (by simp) _).alloc (by simp; omega) _).trans ((hk1.below (by simp [Value.ownBlock]) (by simp)).mono (by omega))
  have hsz : w.heap.size + 1 + 1 < w1.heap.size := World.block_lt_of_cell? _ _ hc1
  have HO : Hid (Off (w.heap.size + 1 + 1) x y r 1 w1) := ⟨hf1, .inl ⟨rfl, g, cap, by simpa using hc1, by simpa using ho1⟩⟩
  clear hc1 hf1 ho1 hk1
  go_wp2_with fail
  go_loopg [] 1 (fun k wr => Hid (Off (w.heap.size + 1 + 1) x y r k wr) ∧ Below w.heap.size w wr)
  case atStart => exact ⟨HO, hbw⟩
  case round =>
    obtain ⟨HR, hbr⟩ := hrel
    obtain ⟨hfr, ⟨rfl, g, cap, hc, ho⟩ | ⟨rfl, rfl, a, cap, hc⟩⟩ := HR.out
    · have c0 := ho.cellAt 0 (by omega)
      have c1 := ho.cellAt 1 (by omega)
      have c2 := ho.cellAt 2 (by omega)
      have c3 := ho.cellAt 3 (by omega)
      have c4 := ho.cellAt 4 (by omega)
      simp only [List.getElem?_cons_zero, List.getElem?_cons_succ] at c0 c1 c2 c3 c4
      have hcap : 1 ≤ cap := by
        rcases ho.2 with ⟨h, _⟩ | ⟨g', cap', cur, h, _, _, h1, _⟩
        · cases h
        · cases h; exact h1
      have hgr : w.heap.size + 1 + 1 < g := by
        rcases ho.2 with ⟨h, _⟩ | ⟨g', cap', cur, h, h1, _⟩
        · cases h
        · cases h; exact h1
      have hlr : w.heap.size + 1 + 1 < wr.heap.size := World.block_lt_of_cell? _ _ hc
      clear ho HR HO
      go_wp2_with fail
      refine (empty_any (w.heap.size + 1 + 1) (some ⟨g, 0, none⟩) 1 cap _ hc).mono ?_
      rintro e w' ⟨rfl, rfl⟩
      go_wp2_with fail
      refine (take_any (w.heap.size + 1 + 1) g 0 cap x.k y.k x.a y.a x.l.length y.l.length x.c y.c none _ (by simpa using hc) hfr (by omega) (by omega) (by simpa using c0) (by simpa using c1) (by simpa using c2) (by simpa using c3) (by simpa using c4)).mono ?_
      rintro e w' ⟨rfl, rfl⟩
      go_wp2_with fail
      have hb3 : Below w.heap.size w (((w'.setCell ⟨w.heap.size + 1 + 1, 0, none⟩ (.slice (some ⟨g, 0, none⟩) 0 cap)).alloc (.cells #[.int .i64 x.k, .slice x.a x.l.length x.c, .int .i64 y.k, .slice y.a y.l.length y.c, .pointer none] 168)).alloc (.cells #[.int .i64 x.k, .slice x.a x.l.length x.c, .int .i64 y.k, .slice y.a y.l.length y.c, .pointer none] 168)) :=
        ((hbr.setCell (by simp; omega) _).alloc (by simp [World.setCell]; omega) _).alloc (by simp [World.setCell]; omega) _
      have hb4 := hb3.alloc (by simp [World.setCell]; omega) (.cells #[.int .i64 x.k, .slice x.a x.l.length x.c, .int .i64 y.k, .slice y.a y.l.length y.c, .pointer none] 168)
      refine (HC.out _ _ (hx.below hb4) (hy.below hb4)).mono ?_
      rintro e w5 ⟨rfl, hb5⟩
      have hb6 : Below w.heap.size w w5 := hb4.trans (hb5.mono (by simp [World.setCell]; omega))
      have hcR : w5.cell? ⟨w.heap.size + 1 + 1, 0, none⟩ = some (.slice (some ⟨g, 0, none⟩) 0 cap) := by
        refine cell_later hb5 (cell_later ((((Below.refl _ (w'.setCell ⟨w.heap.size + 1 + 1, 0, none⟩ (.slice (some ⟨g, 0, none⟩) 0 cap))).alloc (Nat.le_refl _) _).alloc (by simp) _).alloc (by simp; omega) _) ?_)
        exact World.cell?_setCell_same _ _ _ hc
      have hfR : w5.frozen? ⟨w.heap.size + 1 + 1, 0, none⟩ = false := by
        rw [hb5.frozen (p := ⟨w.heap.size + 1 + 1, 0, none⟩) (by simp [World.setCell]; omega)]
        simp [frozen?_alloc_cells, hfr]
      clear hb5 hb4 hb3 hc hfr c0 c1 c2 c3 c4
      cases r
      · go_wp2_with fail
        go_ret
        exact ⟨rfl, hb6⟩
      · go_wp2_with fail
        go_roundg 0
        case measure => omega
        case rel => exact ⟨⟨hfR, .inr ⟨rfl, rfl, _, _, hcR⟩⟩, hb6⟩
    · go_wp2_with fail
      refine (empty_any (w.heap.size + 1 + 1) a 0 cap _ hc).mono ?_
      rintro e w' ⟨rfl, rfl⟩
      go_wp2_with fail
      go_ret
      exact ⟨rfl, hbr⟩
set_option maxHeartbeats 400000 in
/-- kind.Same. -/
theorem same_whole (x y : Tr) (w : World) (hx : x.In w) (hy : y.In w) (hh : x.hgt ≤ 1000) (hs : x.sm) :
    Calls Tryz.prog 48 #[.agg #[.int .i64 x.k, .slice x.a x.l.length x.c], .agg #[.int .i64 y.k, .slice y.a y.l.length y.c]] w fun e w' => e = .returned (.bool (relY escSame x.ty y.ty)) ∧ Below w.heap.size w w' := by
  obtain ⟨r, hr⟩ : ∃ r, relY escSame x.ty y.ty = r := ⟨_, rfl⟩
  have HC : Hid (∀ (rp : Option Addr) (w : World), x.In w → y.In w → Calls Tryz.prog 80 #[.agg #[.int .i64 x.k, .slice x.a x.l.length x.c], .agg #[.int .i64 y.k, .slice y.a y.l.length y.c], .int .i64 1000, .pointer rp] w fun e w' => e = .returned (.bool r) ∧ Below w.heap.size w w') := by
    intro rp w h1 h2
    have h := same_any 1000 (Nat.le_refl _) x y rp w h1 h2 hh hs
    rw [hr] at h
    exact h
  rw [hr]
  clear hr
  have HH : Hid (∀ (w : World), x.In w → y.In w → Calls Tryz.prog 79 #[.func (.func 80) #[] #[], .agg #[.int .i64 x.k, .slice x.a x.l.length x.c], .agg #[.int .i64 y.k, .slice y.a y.l.length y.c]] w fun e w' => e = .returned (.bool r) ∧ Below w.heap.size w w') := fun w h1 h2 => holds_31 x y r w h1 h2 HC
  clear HC
  go_enter Tryz.func48, Tryz.ntmps48
  go_wp2_with fail
  have hb0 : Below w.heap.size w ((w.alloc (Obj.cells #[.int .i64 x.k, .slice x.a x.l.length x.c] 24)).alloc (Obj.cells #[.int .i64 y.k, .slice y.a y.l.length y.c] 24)) := ((Below.refl _ _).alloc (Nat.le_refl _) _).alloc (by simp) _
  refine (HH.out _ (hx.below hb0) (hy.below hb0)).mono ?_
  rintro e w1 ⟨rfl, hb1⟩
  have hb2 := hb0.trans (hb1.mono (by simp; omega))
  clear hb0 hb1
  go_wp2_with fail
  go_ret
  exact ⟨rfl, hb2⟩

end Go.Proofs.YtnddkmccagiclaaGreatDoor

/-
  What the calls of kind.goodWithin and kind.Good answer, at whatever tree lies in memory.
-/
namespace Go.Proofs.YtnddkmccagiclaaGreatDoor
open Go.RowKit

set_option maxHeartbeats 400000 in
theorem within_zero (k : Int) (a : Option Addr) (c : Nat) (l : List Tr) (w : World) :
    Calls Tryz.prog 115 #[.agg #[.int .i64 k, .slice a l.length c], .int .i64 0] w fun e w' => e = .returned (.bool false) ∧ Below w.heap.size w w' := by
  go_enter Tryz.func115, Tryz.ntmps115
  go_wp2_with fail
  go_ret
  exact ⟨rfl, (Below.refl _ _).alloc (Nat.le_refl _) _⟩

set_option maxHeartbeats 400000 in
theorem within_leaf (n : Nat) (hn : n ≤ 1000) (k : Int) (hk : k = 0 ∨ k = 1 ∨ k = 2) (a : Option Addr) (c : Nat) (m : Nat) (w : World) :
    Calls Tryz.prog 115 #[.agg #[.int .i64 k, .slice a m c], .int .i64 ((n : Int) + 1)] w fun e w' => e = .returned (.bool ((m : Int) == 0)) ∧ Below w.heap.size w w' := by
  have h1 : (((n : Int) + 1) == 0) = false := by simp; omega
  rcases hk with rfl | rfl | rfl <;>
  · go_enter Tryz.func115, Tryz.ntmps115
    go_wp2_with fail
    go_ret
    exact ⟨rfl, (Below.refl _ _).alloc (Nat.le_refl _) _⟩

set_option maxHeartbeats 400000 in
theorem within_other (n : Nat) (hn : n ≤ 1000) (k : Int) (h0 : (k == 0) = false) (h1 : (k == 1) = false) (h2 : (k == 2) = false) (h3 : (k == 3) = false) (a : Option Addr) (c : Nat) (m : Nat) (w : World) :
    Calls Tryz.prog 115 #[.agg #[.int .i64 k, .slice a m c], .int .i64 ((n : Int) + 1)] w fun e w' => e = .returned (.bool false) ∧ Below w.heap.size w w' := by
  have hz : (((n : Int) + 1) == 0) = false := by simp; omega
  go_enter Tryz.func115, Tryz.ntmps115
  go_wp2_with fail
  go_ret
  exact ⟨rfl, (Below.refl _ _).alloc (Nat.le_refl _) _⟩

set_option maxHeartbeats 400000 in
theorem within_fun_no (n : Nat) (hn : n ≤ 1000) (a : Option Addr) (c : Nat) (m : Nat) (hm : ((m : Int) == 2) = false) (w : World) :
    Calls Tryz.prog 115 #[.agg #[.int .i64 3, .slice a m c], .int .i64 ((n : Int) + 1)] w fun e w' => e = .returned (.bool false) ∧ Below w.heap.size w w' := by
  have hz : (((n : Int) + 1) == 0) = false := by simp; omega
  go_enter Tryz.func115, Tryz.ntmps115
  go_wp2_with fail
  go_ret
  exact ⟨rfl, (Below.refl _ _).alloc (Nat.le_refl _) _⟩

set_option maxHeartbeats 400000 in
theorem within_fun (n : Nat) (hn : n ≤ 1000) (b o c : Nat) (kx ky : Int) (ax ay : Option Addr) (mx my cx cy : Nat) (gx gy : Bool) (w : World)
    (x0 : w.cell? ⟨b, o, none⟩ = some (.int .i64 kx)) (x1 : w.cell? ⟨b, o + 1, none⟩ = some (.slice ax mx cx))
    (y0 : w.cell? ⟨b, o + 2, none⟩ = some (.int .i64 ky)) (y1 : w.cell? ⟨b, o + 3, none⟩ = some (.slice ay my cy))
    (hx : Hid (∀ w', Below w.heap.size w w' → Calls Tryz.prog 115 #[.agg #[.int .i64 kx, .slice ax mx cx], .int .i64 (n : Int)] w' fun e w'' => e = .returned (.bool gx) ∧ Below w'.heap.size w' w''))
    (hy : Hid (∀ w', Below w.heap.size w w' → Calls Tryz.prog 115 #[.agg #[.int .i64 ky, .slice ay my cy], .int .i64 (n : Int)] w' fun e w'' => e = .returned (.bool gy) ∧ Below w'.heap.size w' w'')) :
    Calls Tryz.prog 115 #[.agg #[.int .i64 3, .slice (some ⟨b, o, none⟩) 2 c], .int .i64 ((n : Int) + 1)] w fun e w' => e = .returned (.bool (gx && gy)) ∧ Below w.heap.size w w' := by
  have hz : (((n : Int) + 1) == 0) = false := by simp; omega
  have lb : b < w.heap.size := World.block_lt_of_cell? _ _ x0
  cases gx
  · go_enter Tryz.func115, Tryz.ntmps115
    go_wp2_with fail
    refine (hx.out _ ((Below.refl _ _).alloc (Nat.le_refl _) _)).mono ?_
    rintro e w1 ⟨rfl, hb1⟩
    go_wp2_with fail
    go_ret
    exact ⟨rfl, ((Below.refl _ _).alloc (Nat.le_refl _) _).trans (hb1.mono (by simp))⟩
  · go_enter Tryz.func115, Tryz.ntmps115
    go_wp2_with fail
    refine (hx.out _ ((Below.refl _ _).alloc (Nat.le_refl _) _)).mono ?_
    rintro e w1 ⟨rfl, hb1⟩
    have hbw : Below w.heap.size w w1 := ((Below.refl _ _).alloc (Nat.le_refl _) _).trans (hb1.mono (by simp))
    have b1 : w1.cell? ⟨w.heap.size, 1, none⟩ = some (.slice (some ⟨b, o, none⟩) 2 c) := cell_later hb1 (by simp [go_sem])
    have y0' := cell_later hbw y0
    have y1' := cell_later hbw y1
    go_wp2_with fail
    refine (hy.out _ hbw).mono ?_
    rintro e w2 ⟨rfl, hb2⟩
    go_wp2_with fail
    go_ret
    exact ⟨by simp, hbw.trans (hb2.mono hbw.size)⟩

theorem within_zero' (t : Tr) (w : World) : Calls Tryz.prog 115 #[.agg #[.int .i64 t.k, .slice t.a t.l.length t.c], .int .i64 0] w fun e w' => e = .returned (.bool (goodT 0 t)) ∧ Below w.heap.size w w' := by
  refine (within_zero t.k t.a t.c t.l w).mono ?_
  rintro e w' ⟨rfl, hb⟩
  exact ⟨by simp [goodT], hb⟩

theorem within_any (n : Nat) : n ≤ 1000 → ∀ (t : Tr) (w : World), t.In w →
    Calls Tryz.prog 115 #[.agg #[.int .i64 t.k, .slice t.a t.l.length t.c], .int .i64 (n : Int)] w fun e w' => e = .returned (.bool (goodT n t)) ∧ Below w.heap.size w w' := by
  induction n with
  | zero =>
    intro _ t w _
    have e : ((0 : Nat) : Int) = 0 := rfl
    rw [e]
    exact within_zero' t w
  | succ n ih =>
    intro hn ⟨k, a, c, l⟩ w hin
    have e : ((n + 1 : Nat) : Int) = (n : Int) + 1 := by omega
    rw [e]
    dsimp only
    by_cases hk : k = 0 ∨ k = 1 ∨ k = 2
    · refine (within_leaf n (by omega) k hk a c l.length w).mono ?_
      rintro e w' ⟨rfl, hb⟩
      refine ⟨?_, hb⟩
      have e3 : (k == 3) = false := by simp; omega
      have eo : (k == 0 || k == 1 || k == 2) = true := by simpa [or_assoc] using hk
      match l with
      | [] => simp [goodT, eo]
      | [x] => simp [goodT]
      | [x, y] => simp [goodT, e3]
      | x :: y :: z :: r => simp [goodT]; omega
    · have h0 : (k == 0) = false := by simp; omega
      have h1 : (k == 1) = false := by simp; omega
      have h2 : (k == 2) = false := by simp; omega
      by_cases h3 : k = 3
      · subst h3
        match l, hin with
        | [], hin => exact within_fun_no n (by omega) a c 0 (by decide) w
        | [x], hin => exact within_fun_no n (by omega) a c 1 (by decide) w
        | x :: y :: z :: r, hin =>
          refine (within_fun_no n (by omega) a c (x :: y :: z :: r).length (by simp; omega) w).mono ?_
          rintro e w' ⟨rfl, hb⟩
          exact ⟨by simp [goodT], hb⟩
        | [x, y], hin =>
          obtain ⟨b, o, e0, x0, x1, hx⟩ := hin.at 0 (by simp)
          obtain ⟨b', o', e1, y0, y1, hy⟩ := hin.at 1 (by simp)
          rw [e0] at e1
          obtain ⟨rfl, rfl⟩ : b = b' ∧ o = o' := by simpa using e1
          subst e0
          refine (within_fun n (by omega) b o c x.k y.k x.a y.a x.l.length y.l.length x.c y.c (goodT n x) (goodT n y) w (by simpa using x0) (by simpa using x1) (by simpa using y0) (by simpa using y1)
            (fun w' hb => ih (by omega) x w' (hx.below hb)) (fun w' hb => ih (by omega) y w' (hy.below hb))).mono ?_
          rintro e w' ⟨rfl, hb⟩
          exact ⟨by simp [goodT], hb⟩
      · refine (within_other n (by omega) k h0 h1 h2 (by simpa using h3) a c l.length w).mono ?_
        rintro e w' ⟨rfl, hb⟩
        refine ⟨?_, hb⟩
        have e3 : (k == 3) = false := by simpa using h3
        match l with
        | [] => simp [goodT, h0, h1, h2]
        | [x] => simp [goodT]
        | [x, y] => simp [goodT, e3]
        | x :: y :: z :: r => simp [goodT]

set_option maxHeartbeats 400000 in
/-- kind.Good. -/
theorem good_any (t : Tr) (w : World) (hin : t.In w) :
    Calls Tryz.prog 76 #[.agg #[.int .i64 t.k, .slice t.a t.l.length t.c]] w fun e w' => e = .returned (.bool (goodT 4 t)) ∧ Below w.heap.size w w' := by
  have hw := within_any 4 (by omega) t
  have HW : Hid (∀ (w : World), t.In w → Calls Tryz.prog 115 #[.agg #[.int .i64 t.k, .slice t.a t.l.length t.c], .int .i64 4] w fun e w' => e = .returned (.bool (goodT 4 t)) ∧ Below w.heap.size w w') := hw
  clear hw
  go_enter Tryz.func76, Tryz.ntmps76
  go_wp2_with fail
  refine (HW.out _ (hin.below ((Below.refl _ _).alloc (Nat.le_refl _) _))).mono ?_
  rintro e w1 ⟨rfl, hb1⟩
  go_wp2_with fail
  go_ret
  exact ⟨rfl, ((Below.refl _ _).alloc (Nat.le_refl _) _).trans (hb1.mono (by simp))⟩
end Go.Proofs.YtnddkmccagiclaaGreatDoor
