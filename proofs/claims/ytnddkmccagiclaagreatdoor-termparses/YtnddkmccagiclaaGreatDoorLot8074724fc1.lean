/-
  What the call of chaperoneref.SameType answers at two trees that lie in memory.
-/
import Derived.Test.YtnddkmccagiclaaGreatDoorLotd69e488c8b
import Derived.Deep.LoopGhost
import Derived.Test.YtnddkmccagiclaaGreatDoorLotb171d508ce
import Derived.Test.YtnddkmccagiclaaGreatDoorLot694cd256ef
import Derived.Test.YtnddkmccagiclaaGreatDoorLot8d717cfea7
import Derived.Test.YtnddkmccagiclaaGreatDoorLotf63a16e00c
import Derived.Test.YtnddkmccagiclaaGreatDoorLot8a8b3f08ee
namespace Go.Proofs.YtnddkmccagiclaaGreatDoor
open Go.RowKit

set_option maxHeartbeats 1000000 in
theorem sameType_step (n : Nat) (x y : Tr) (w : World) (hx : x.In w) (hy : y.In w) (hh : x.hgt ≤ n + 1) (hs : x.sm)
    (ih : Hid (∀ (x y : Tr) (w : World), x.In w → y.In w → x.hgt ≤ n → x.sm → Calls Tryz.prog 27 #[.agg #[.int .i64 x.k, .slice x.a x.l.length x.c], .agg #[.int .i64 y.k, .slice y.a y.l.length y.c]] w fun e w' => e = .returned (.bool (relY escSame x.ty y.ty)) ∧ Below w.heap.size w w')) :
    Calls Tryz.prog 27 #[.agg #[.int .i64 x.k, .slice x.a x.l.length x.c], .agg #[.int .i64 y.k, .slice y.a y.l.length y.c]] w fun e w' => e = .returned (.bool (relY escSame x.ty y.ty)) ∧ Below w.heap.size w w' := by
  have hlen := hs.len
  obtain ⟨tk, htk⟩ : ∃ b, (x.k == y.k) = b := ⟨_, rfl⟩
  obtain ⟨tl, htl⟩ : ∃ b, ((x.l.length : Int) == (y.l.length : Int)) = b := ⟨_, rfl⟩
  have HK : Hid ((x.k == y.k) = tk) := htk
  have HL : Hid (((x.l.length : Int) == (y.l.length : Int)) = tl) := htl
  have p1 : ((w.alloc (.cells #[.int .i64 x.k, .slice x.a x.l.length x.c] 24)).alloc (.cells #[.int .i64 y.k, .slice y.a y.l.length y.c] 24)).cell? ⟨w.heap.size, 1, none⟩ = some (.slice x.a x.l.length x.c) := by simp [go_sem]
  have p3 : ((w.alloc (.cells #[.int .i64 x.k, .slice x.a x.l.length x.c] 24)).alloc (.cells #[.int .i64 y.k, .slice y.a y.l.length y.c] 24)).cell? ⟨w.heap.size + 1, 1, none⟩ = some (.slice y.a y.l.length y.c) := by simp [go_sem]
  have HP : Hid (((w.alloc (.cells #[.int .i64 x.k, .slice x.a x.l.length x.c] 24)).alloc (.cells #[.int .i64 y.k, .slice y.a y.l.length y.c] 24)).cell? ⟨w.heap.size, 1, none⟩ = some (.slice x.a x.l.length x.c) ∧ ((w.alloc (.cells #[.int .i64 x.k, .slice x.a x.l.length x.c] 24)).alloc (.cells #[.int .i64 y.k, .slice y.a y.l.length y.c] 24)).cell? ⟨w.heap.size + 1, 1, none⟩ = some (.slice y.a y.l.length y.c)) := ⟨p1, p3⟩
  clear p1 p3
  have hb0 : Below w.heap.size w ((w.alloc (.cells #[.int .i64 x.k, .slice x.a x.l.length x.c] 24)).alloc (.cells #[.int .i64 y.k, .slice y.a y.l.length y.c] 24)) := ((Below.refl _ _).alloc (Nat.le_refl _) _).alloc (by simp) _
  cases tk
  · have HT : Hid ((x.k == y.k && (x.l.length : Int) == (y.l.length : Int)) = false) := by show _ = false; rw [HK.out]; rfl
    clear htl HL HK
    go_enter Tryz.func27, Tryz.ntmps27
    go_wp2_with fail
    go_loopw [5, 6] (fun b i wr => b = .bool false ∧ i = .int .i64 0 ∧ wr = ((w.alloc (.cells #[.int .i64 x.k, .slice x.a x.l.length x.c] 24)).alloc (.cells #[.int .i64 y.k, .slice y.a y.l.length y.c] 24))) (fun _ _ _ => 0)
    case atStart => exact ⟨rfl, rfl, rfl⟩
    case round =>
      obtain ⟨rfl, rfl, rfl⟩ := hrel
      go_wp2_with fail
      go_ret
      exact ⟨by rw [relY_top escSame x y rfl HT.out]; rfl, hb0⟩
  · cases tl
    · have HT : Hid ((x.k == y.k && (x.l.length : Int) == (y.l.length : Int)) = false) := by show _ = false; rw [HK.out, HL.out]; rfl
      clear HL HK
      go_enter Tryz.func27, Tryz.ntmps27
      go_wp2_with fail
      go_loopw [5, 6] (fun b i wr => b = .bool false ∧ i = .int .i64 0 ∧ wr = ((w.alloc (.cells #[.int .i64 x.k, .slice x.a x.l.length x.c] 24)).alloc (.cells #[.int .i64 y.k, .slice y.a y.l.length y.c] 24))) (fun _ _ _ => 0)
      case atStart => exact ⟨rfl, rfl, rfl⟩
      case round =>
        obtain ⟨rfl, rfl, rfl⟩ := hrel
        go_wp2_with fail
        go_ret
        exact ⟨by rw [relY_top escSame x y rfl HT.out]; rfl, hb0⟩
    · have hk : Hid (x.k = y.k) := by show x.k = y.k; have h := HK.out; simpa using h
      have hl : Hid (x.l.length = y.l.length) := by have h := HL.out; simp at h; exact Int.ofNat.inj h
      clear HL HK
      go_enter Tryz.func27, Tryz.ntmps27
      go_wp2_with fail
      clear htk htl
      go_loopg [5, 6] (x.l.length + 1) (fun g b i wr => ∃ (j : Nat) (c : Bool), j ≤ x.l.length ∧ g = (if c then x.l.length - j + 1 else 0) ∧ b = .bool c ∧ i = .int .i64 (j : Int) ∧ Below w.heap.size w wr ∧ wr.cell? ⟨w.heap.size, 1, none⟩ = some (.slice x.a x.l.length x.c) ∧ wr.cell? ⟨w.heap.size + 1, 1, none⟩ = some (.slice y.a y.l.length y.c) ∧
        Hid (c = true → ∀ q (h : q < x.l.length) (h' : q < y.l.length), q < j → relY escSame x.l[q].ty y.l[q].ty = true) ∧ Hid (c = false → relY escSame x.ty y.ty = false))
      case atStart => exact ⟨0, true, Nat.zero_le _, rfl, rfl, rfl, hb0, HP.out.1, HP.out.2, fun _ q _ _ h => absurd h (by omega), fun h => by cases h⟩
      case round =>
        obtain ⟨j, c, hj, hg, rfl, rfl, hbwr, p1, p3, HA, HB⟩ := hrel
        cases c
        · have HB1 : Hid (relY escSame x.ty y.ty = false) := HB.out rfl
          clear HA HB hg
          go_wp2_with fail
          go_ret
          exact ⟨by rw [HB1.out]; rfl, hbwr⟩
        · have HA1 : Hid (∀ q (h : q < x.l.length) (h' : q < y.l.length), q < j → relY escSame x.l[q].ty y.l[q].ty = true) := HA.out rfl
          clear HA HB
          by_cases hlt : j < x.l.length
          · have hlt' : j < y.l.length := hl.out ▸ hlt
            obtain ⟨b, o, ea, x0, x1, hxj⟩ := hx.part j hlt
            obtain ⟨b', o', eb, y0, y1, hyj⟩ := hy.part j hlt'
            have q1 : wr.cell? ⟨w.heap.size, 1, none⟩ = some (.slice (some ⟨b, o, none⟩) x.l.length x.c) := by rw [← ea]; exact p1
            have q3 : wr.cell? ⟨w.heap.size + 1, 1, none⟩ = some (.slice (some ⟨b', o', none⟩) y.l.length y.c) := by rw [← eb]; exact p3
            have HPP : Hid (wr.cell? ⟨w.heap.size, 1, none⟩ = some (.slice x.a x.l.length x.c) ∧ wr.cell? ⟨w.heap.size + 1, 1, none⟩ = some (.slice y.a y.l.length y.c)) := ⟨p1, p3⟩
            replace x0 := cell_later hbwr x0
            replace x1 := cell_later hbwr x1
            replace y0 := cell_later hbwr y0
            replace y1 := cell_later hbwr y1
            have i1 : (j : Int) < (x.l.length : Int) := by omega
            have i2 : (j : Int) < (y.l.length : Int) := by omega
            have i0 : (0 : Int) ≤ (j : Int) := by omega
            obtain ⟨r, hr⟩ : ∃ r, relY escSame x.l[j].ty y.l[j].ty = r := ⟨_, rfl⟩
            have HC : Hid (∀ (w : World), x.l[j].In w → y.l[j].In w → Calls Tryz.prog 27 #[.agg #[.int .i64 x.l[j].k, .slice x.l[j].a x.l[j].l.length x.l[j].c], .agg #[.int .i64 y.l[j].k, .slice y.l[j].a y.l[j].l.length y.l[j].c]] w fun e w' => e = .returned (.bool r) ∧ Below w.heap.size w w') := by
              intro w h1 h2
              have := ih.out x.l[j] y.l[j] w h1 h2 (Tr.hgt_part hh j hlt) (hs.part j hlt)
              rw [hr] at this
              exact this
            have HR : Hid (relY escSame x.l[j].ty y.l[j].ty = r) := hr
            have HG : Hid (gk = if true then x.l.length - j + 1 else 0) := hg
            clear hr p1 p3 ea eb hx hy hg
            go_wp2_with fail
            go_region_held3 (fun w' => w'.cell? ⟨w.heap.size, 1, none⟩ = some (.slice (some ⟨b, o, none⟩) x.l.length x.c) ∧ w'.cell? ⟨w.heap.size + 1, 1, none⟩ = some (.slice (some ⟨b', o', none⟩) y.l.length y.c) ∧ w'.cell? ⟨b, o + j * 2, none⟩ = some (.int .i64 x.l[j].k) ∧ w'.cell? ⟨b, o + j * 2 + 1, none⟩ = some (.slice x.l[j].a x.l[j].l.length x.l[j].c) ∧ w'.cell? ⟨b', o' + j * 2, none⟩ = some (.int .i64 y.l[j].k) ∧ w'.cell? ⟨b', o' + j * 2 + 1, none⟩ = some (.slice y.l[j].a y.l[j].l.length y.l[j].c))
              (first | exact ⟨cell_later hb2 q1, cell_later hb2 q3, cell_later hb2 x0, cell_later hb2 x1, cell_later hb2 y0, cell_later hb2 y1⟩ | go_keep)
              (first | (go_at_call 27; refine (HC.out _ (hxj.below hbwr.drew) (hyj.below hbwr.drew)).mono ?_; rintro e w2 ⟨rfl, hb2⟩))
            have hbr2 : Below w.heap.size w w2 := hbwr.drew.trans (hb2.mono hbwr.size)
            have s1 := cell_later hb2 HPP.out.1
            have s3 := cell_later hb2 HPP.out.2
            clear hb2 q1 q3 x0 x1 y0 y1 HC HPP
            go_wp2_with fail
            go_roundg (if r then x.l.length - (j + 1) + 1 else 0)
            case measure => rw [HG.out]; cases r <;> simp <;> omega
            case rel =>
              refine ⟨j + 1, r, by omega, rfl, rfl, by go_num, hbr2, s1, s3, fun h q h1 h2 hq => ?_, fun h => ?_⟩
              · by_cases e : q = j
                · subst e; rw [HR.out, h]
                · exact HA1.out q h1 h2 (by omega)
              · exact relY_part_not escSame x y rfl j hlt hlt' (by rw [HR.out, h])
          · go_wp2_with fail
            go_ret
            refine ⟨?_, hbwr⟩
            rw [relY_parts escSame x y hk.out hl.out fun q h h' => HA1.out q h h' (by omega)]
            rfl

/-- chaperoneref.SameType. -/
theorem sameType_any (n : Nat) : ∀ (x y : Tr) (w : World), x.In w → y.In w → x.hgt ≤ n → x.sm → Calls Tryz.prog 27 #[.agg #[.int .i64 x.k, .slice x.a x.l.length x.c], .agg #[.int .i64 y.k, .slice y.a y.l.length y.c]] w fun e w' => e = .returned (.bool (relY escSame x.ty y.ty)) ∧ Below w.heap.size w w' := by
  induction n with
  | zero =>
    intro x y w _ _ h
    have := x.hgt_pos
    omega
  | succ n ih =>
    intro x y w hx hy h hs
    exact sameType_step n x y w hx hy h hs (fun x y w hx hy h hs => ih x y w hx hy h hs)
end Go.Proofs.YtnddkmccagiclaaGreatDoor

/-
  What the call of term.Same answers at two terms that are alike.
-/
namespace Go.Proofs.YtnddkmccagiclaaGreatDoor
open Go.RowKit

/-- A list of one term that lies in a block of its own. -/
def oneOf (g : Nat) (x : TT) : TT := ⟨0, 0, leaf 0, leaf 0, some ⟨g, 0, none⟩, 1, [x]⟩

theorem oneOf_in {w : World} {g : Nat} {x : TT} (h : At7 w g 0 x) (hx : x.In w) : (oneOf g x).In w := by
  refine TT.In_mk.2 ⟨leaf_in _ _, leaf_in _ _, fun j hj => ⟨g, 0, rfl, ?_⟩, fun y hy => ?_⟩
  · obtain rfl : j = 0 := by simp at hj; omega
    exact h
  · rcases List.mem_singleton.1 hy with rfl
    exact hx

theorem oneOf_bl {P : Nat → Prop} {g : Nat} {x : TT} (h : P g) (hx : x.Bl P) : (oneOf g x).Bl P := by
  refine TT.Bl_mk.2 ⟨leaf_bl _ _, leaf_bl _ _, fun _ y hy => by cases hy; exact h, fun y hy => ?_⟩
  rcases List.mem_singleton.1 hy with rfl
  exact hx

theorem leaf_tok (k : Int) : (leaf k).hgt ≤ 1000 ∧ (leaf k).sm := by
  refine ⟨?_, Tr.sm_mk.2 ⟨by simp, fun t h => by cases h⟩⟩
  rw [leaf, Tr.hgt_mk]; simp

theorem oneOf_tok {g : Nat} {x : TT} (hx : x.tok) : (oneOf g x).tok := by
  refine TT.tok_mk.2 ⟨leaf_tok 0, leaf_tok 0, fun y hy => ?_⟩
  rcases List.mem_singleton.1 hy with rfl
  exact hx

theorem tleaf_tok (k n : Int) : (tleaf k n).tok := TT.tok_mk.2 ⟨leaf_tok 0, leaf_tok 0, fun y hy => by cases hy⟩

set_option maxRecDepth 20000 in
set_option maxHeartbeats 8000000 in
/-- term.Same, of two that are alike. -/
theorem sameTm_yes (x y : TT) (w : World) (hx : x.In w) (hy : y.In w) (htm : x.tm = y.tm) (hto : x.tok) (hsz : x.sz ≤ 1000000) :
    Calls Tryz.prog 13 #[.agg #[.int .i64 x.k, .int .i64 x.n, .int .i64 x.t.k, .slice x.t.a x.t.l.length x.t.c, .int .i64 x.f.k, .slice x.f.a x.f.l.length x.f.c, .slice x.a x.l.length x.c], .agg #[.int .i64 y.k, .int .i64 y.n, .int .i64 y.t.k, .slice y.t.a y.t.l.length y.t.c, .int .i64 y.f.k, .slice y.f.a y.f.l.length y.f.c, .slice y.a y.l.length y.c]] w fun e w' => e = .returned (.bool true) ∧ Below w.heap.size w w' := by
  obtain ⟨i0, hi0, hz0, hz1, hz2⟩ := info_parts Tryz.info53
  obtain ⟨OX, hOX⟩ : ∃ O, O = Obj.cells #[.int .i64 x.k, .int .i64 x.n, .int .i64 x.t.k, .slice x.t.a x.t.l.length x.t.c, .int .i64 x.f.k, .slice x.f.a x.f.l.length x.f.c, .slice x.a x.l.length x.c] 27 := ⟨_, rfl⟩
  obtain ⟨OY, hOY⟩ : ∃ O, O = Obj.cells #[.int .i64 y.k, .int .i64 y.n, .int .i64 y.t.k, .slice y.t.a y.t.l.length y.t.c, .int .i64 y.f.k, .slice y.f.a y.f.l.length y.f.c, .slice y.a y.l.length y.c] 27 := ⟨_, rfl⟩
  have HL : Hid (Stk (w.heap.size + 1 + 1 + 1 + 1) (.slice (some ⟨w.heap.size + 1 + 1 + 1 + 1, 0, none⟩) 1 1) [(oneOf (w.heap.size + 1 + 1) x, oneOf (w.heap.size + 1 + 1 + 1) y)] (((((w.alloc OX).alloc OY).alloc OX).alloc OY).alloc (.cells #[.slice (some ⟨w.heap.size + 1 + 1, 0, none⟩) 1 1, .slice (some ⟨w.heap.size + 1 + 1 + 1, 0, none⟩) 1 1] 53)) ∧ Below w.heap.size w (((((w.alloc OX).alloc OY).alloc OX).alloc OY).alloc (.cells #[.slice (some ⟨w.heap.size + 1 + 1, 0, none⟩) 1 1, .slice (some ⟨w.heap.size + 1 + 1 + 1, 0, none⟩) 1 1] 53)) ∧ mass [(oneOf (w.heap.size + 1 + 1) x, oneOf (w.heap.size + 1 + 1 + 1) y)] ≤ 1000001) := by
    have hb : Below w.heap.size w (((((w.alloc OX).alloc OY).alloc OX).alloc OY).alloc (.cells #[.slice (some ⟨w.heap.size + 1 + 1, 0, none⟩) 1 1, .slice (some ⟨w.heap.size + 1 + 1 + 1, 0, none⟩) 1 1] 53)) := (((((Below.refl _ _).alloc (Nat.le_refl _) _).alloc (by simp) _).alloc (by simp; omega) _).alloc (by simp; omega) _).alloc (by simp; omega) _
    have hh := heap_alloc_new ((((w.alloc OX).alloc OY).alloc OX).alloc OY) (.cells #[.slice (some ⟨w.heap.size + 1 + 1, 0, none⟩) 1 1, .slice (some ⟨w.heap.size + 1 + 1 + 1, 0, none⟩) 1 1] 53)
    simp only [World.size_alloc] at hh
    refine ⟨⟨⟨rfl, .inr ⟨_, 1, _, rfl, Nat.le_refl _, hh, Nat.le_refl _, by unfold maxLen; omega, rfl, rfl⟩⟩, fun p hp => ?_⟩, hb, ?_⟩
    · rcases List.mem_singleton.1 hp with rfl
      refine ⟨oneOf_in ?_ (hx.below hb), oneOf_in ?_ (hy.below hb), oneOf_bl (by omega) (hx.bl.mono fun b h => by omega), oneOf_bl (by omega) (hy.bl.mono fun b h => by omega), oneOf_tok hto, ?_⟩
      · subst hOX hOY; constructor <;> simp [go_sem]
      · subst hOX hOY; constructor <;> simp [go_sem]
      · simp [oneOf, htm]
    · simp [mass, oneOf, TT.sz_mk]; omega
  obtain ⟨B, hB⟩ : ∃ B, w.heap.size + 1 + 1 + 1 + 1 = B := ⟨_, rfl⟩
  have hBw : w.heap.size < B := by omega
  subst hOX hOY
  clear hx hy htm hto hsz
  go_enter Tryz.func13, Tryz.ntmps13
  go_wp2_with fail
  go_loopg [5] (mass [(oneOf (w.heap.size + 1 + 1) x, oneOf (w.heap.size + 1 + 1 + 1) y)]) (fun k v wr => ∃ (u : Value) (ps : List (TT × TT)), u = v ∧ k = mass ps ∧ Hid (Stk B u ps wr ∧ Below w.heap.size w wr ∧ mass ps ≤ 1000001))
  case atStart => exact ⟨_, _, rfl, rfl, by rw [← hB]; exact HL⟩
  case round =>
    obtain ⟨v, ps, hv, hk, HR⟩ := hrel
    subst hv
    have HK : Hid (gk = mass ps) := hk
    clear hk HL hB
    by_cases hne : ps = []
    · subst hne
      obtain ⟨a, c, rfl⟩ : ∃ a c, v = .slice a 0 c := by
        rcases HR.out.1.own.2 with ⟨rfl, _⟩ | ⟨g, cap, cur, rfl, _⟩
        · exact ⟨_, _, rfl⟩
        · exact ⟨_, _, rfl⟩
      have HF : Hid (Below w.heap.size w wr) := HR.out.2.1
      clear HR HK
      go_wp2_with fail
      go_ret
      exact ⟨rfl, HF.out⟩
    · obtain ⟨us, p, rfl⟩ : ∃ us p, ps = us ++ [p] := ⟨ps.dropLast, ps.getLast hne, (List.dropLast_concat_getLast hne).symm⟩
      have ho := HR.out.1.own
      have hlen : (us ++ [p]).length = us.length + 1 := by simp
      rw [hlen, cells2_append] at ho
      obtain ⟨g, cap, rfl, hg, hgl⟩ := ho.form (by omega)
      have c0 := ho.cellAt (us.length * 2) (by omega)
      have c1 := ho.cellAt (us.length * 2 + 1) (by omega)
      rw [List.getElem?_append_right (by rw [cells2_length]; exact Nat.le_refl _), cells2_length, Nat.sub_self] at c0
      rw [List.getElem?_append_right (by rw [cells2_length]; omega), cells2_length, show us.length * 2 + 1 - us.length * 2 = 1 by omega] at c1
      simp only [cells2, List.flatMap_cons, List.flatMap_nil, List.append_nil, List.getElem?_cons_zero, List.getElem?_cons_succ] at c0 c1
      have hcap : us.length + 1 ≤ cap := by
        rcases ho.2 with ⟨h, _⟩ | ⟨g', cap', cur, h, _, _, h1, _⟩
        · cases h
        · cases h; exact h1
      have hop : wr.ownsRow B 53 2 (.slice (some ⟨g, 0, none⟩) us.length cap) us.length (cells2 us) := ownsRow_pop (cells2_length us) ho
      have hpr : Pr B wr p := HR.out.1.ins p (by simp)
      have hms : mass (us ++ [p]) = mass us + p.1.sz := by simp [mass]
      have hus := Stk.len (ps := us)
      have hml := HR.out.2.2
      have i1 : (us.length : Int) < ((us.length : Int) + 1) := by omega
      have n1 : (us.length : Int) ≤ 1000001 := by omega
      have n2 : (us.length : Int) ≤ (cap : Int) := by omega
      have n3 : (0 : Int) ≤ (us.length : Int) := by omega
      have hgne : g ≠ wr.heap.size := by omega
      have hpl : p.1.l.length ≤ 1000001 := by
        have h1 := p.1.sz_eq
        have h2 : p.1.l.length ≤ (p.1.l.map TT.sz).sum := by
          generalize p.1.l = l
          induction l with
          | nil => simp
          | cons u r ih => have := u.sz_pos; simp only [List.length_cons, List.map_cons, List.sum_cons]; omega
        omega
      have hszB : B ≤ wr.heap.size := by omega
      have HI : Hid (Stk B (.slice (some ⟨g, 0, none⟩) us.length cap) us wr ∧ Below w.heap.size w wr ∧ Pr B wr p ∧ g < wr.heap.size) := ⟨⟨hop, fun q hq => HR.out.1.ins q (by simp [hq])⟩, HR.out.2.1, hpr, hgl⟩
      have HM : Hid (gk = mass us + p.1.sz ∧ mass us + p.1.sz ≤ 1000001) := ⟨HK.out.trans hms, by rw [← hms]; exact hml⟩
      clear ho hop hpr HR HK hms hml hne hlen hus
      go_wp2_with fail
      obtain ⟨W0, hW0⟩ : ∃ W, W = wr := ⟨_, rfl⟩
      subst hW0
      have hb0 : ∀ o, Below W0.heap.size W0 (W0.alloc o) := fun o => (Below.refl _ _).alloc (Nat.le_refl _) _
      have HI0 : Hid (∀ o, Stk B (.slice (some ⟨g, 0, none⟩) us.length cap) us (W0.alloc o) ∧ Below w.heap.size w (W0.alloc o) ∧ Pr B (W0.alloc o) p) := fun o =>
        ⟨⟨HI.out.1.own.alloc _, fun q hq => (HI.out.1.ins q hq).low ((hb0 o).mono hszB)⟩, HI.out.2.1.trans ((hb0 o).mono (by omega)), HI.out.2.2.1.low ((hb0 o).mono hszB)⟩
      clear hb0 c0 c1
      go_loopg [5, 33] p.1.l.length (fun q v i wx => ∃ (j : Nat) (u : Value), q + j = p.1.l.length ∧ i = .int .i64 (j : Int) ∧ u = v ∧ Hid (Stk B u (us ++ kids (p.1.l.take j) (p.2.l.take j)) wx ∧ Below w.heap.size w wx ∧ Pr B wx p ∧ wx.cell? ⟨W0.heap.size, 1, none⟩ = some (.slice p.2.a p.2.l.length p.2.c) ∧ u.ownBlock ≠ some W0.heap.size))
      case atStart => exact ⟨0, _, by omega, rfl, rfl, by simp [kids]; exact (HI0.out _).1, (HI0.out _).2.1, (HI0.out _).2.2, by simp [go_sem], by simp [Value.ownBlock]; omega⟩
      case round =>
        obtain ⟨j, v, hj, rfl, hv, HQ⟩ := hrel
        subst hv
        have HJ : Hid (gk + j = p.1.l.length) := hj
        clear hj HI0
        have hll : p.1.l.length = p.2.l.length := by have := congrArg List.length HQ.out.2.2.1.2.2.2.2.2; simpa using this
        have HLL : Hid (p.1.l.length = p.2.l.length) := hll
        clear hll
        by_cases hlt : j < p.1.l.length
        · have hlt2 : j < p.2.l.length := by rw [← HLL.out]; exact hlt
          obtain ⟨hp1, hp2, hb1, hb2, hto, htm⟩ := HQ.out.2.2.1
          obtain ⟨b, o, ea, hX, hxj⟩ := hp1.part j hlt
          obtain ⟨b', o', ea', hY, hyj⟩ := hp2.part j hlt2
          have c1 := HQ.out.2.2.2.1
          rw [ea'] at c1
          have hxy : p.1.l[j].tm = p.2.l[j].tm := by
            have h1 : (p.1.l.map TT.tm)[j]? = some p.1.l[j].tm := by simp [hlt]
            have h2 : (p.2.l.map TT.tm)[j]? = some p.2.l[j].tm := by simp [hlt2]
            rw [htm, h2] at h1
            exact (Option.some.inj h1).symm
          obtain ⟨qk, qn, ql, qt, qf, qm⟩ := tm_parts hxy
          have htoj : p.1.l[j].tok := hto.mem (List.getElem_mem hlt)
          have hblj : p.1.l[j].Bl (· < B) ∧ p.2.l[j].Bl (· < B) := ⟨hb1.mem (List.getElem_mem hlt), hb2.mem (List.getElem_mem hlt2)⟩
          obtain ⟨X, hXe⟩ : ∃ X, p.1.l[j] = X := ⟨_, rfl⟩
          obtain ⟨Y, hYe⟩ : ∃ Y, p.2.l[j] = Y := ⟨_, rfl⟩
          rw [hXe] at hX hxj qk qn ql qt qf qm htoj hblj
          rw [hYe] at hY hyj qk qn ql qt qf qm hblj
          have HXY : Hid (p.1.l[j] = X ∧ p.2.l[j] = Y) := ⟨hXe, hYe⟩
          have d0 := hX.c0
          have d1 := hX.c1
          have d2 := hX.c2
          have d3 := hX.c3
          have d4 := hX.c4
          have d5 := hX.c5
          have d6 := hX.c6
          have e0 := hY.c0
          have e1 := hY.c1
          have e2 := hY.c2
          have e3 := hY.c3
          have e4 := hY.c4
          have e5 := hY.c5
          have e6 := hY.c6
          have lb : b < wr.heap.size := hX.lt
          have lb' : b' < wr.heap.size := hY.lt
          have lN : W0.heap.size < wr.heap.size := World.block_lt_of_cell? _ _ c1
          have HA : Hid (∀ W, Below wr.heap.size wr W → Calls Tryz.prog 26 #[.agg #[.int .i64 X.k, .int .i64 X.n, .int .i64 X.t.k, .slice X.t.a X.t.l.length X.t.c, .int .i64 X.f.k, .slice X.f.a X.f.l.length X.f.c, .slice X.a X.l.length X.c], .agg #[.int .i64 Y.k, .int .i64 Y.n, .int .i64 Y.t.k, .slice Y.t.a Y.t.l.length Y.t.c, .int .i64 Y.f.k, .slice Y.f.a Y.f.l.length Y.f.c, .slice Y.a Y.l.length Y.c]] W fun e w' => e = .returned (.bool true) ∧ Below W.heap.size W w') := fun W hW => alikeTm_yes X Y W (hxj.below hW) (hyj.below hW) qk qn ql qt qf htoj
          have HP : Hid (Pr B wr (X, Y)) := ⟨hxj, hyj, hblj.1, hblj.2, htoj, qm⟩
          have HQL : Hid (X.l.length = Y.l.length) := ql
          have i5 : (j : Int) < (p.1.l.length : Int) := by omega
          have i6 : (j : Int) < (p.2.l.length : Int) := by omega
          have i7 : (0 : Int) ≤ (j : Int) := by omega
          have HEA : Hid (p.1.a = some ⟨b, o, none⟩) := ea
          rw [ea]
          have hb2 : ∀ o o', Below wr.heap.size wr ((wr.alloc o).alloc o') := fun o o' => ((Below.refl _ _).alloc (Nat.le_refl _) _).alloc (by simp) _
          have HB2 : Hid (∀ o o', Below wr.heap.size wr ((wr.alloc o).alloc o')) := hb2
          clear hp1 hp2 hb1 hto htm ea ea' hX hY hxj hyj hxy qk qn ql qt qf qm htoj hblj hXe hYe hb2
          go_wp2_with fail
          refine (HA.out _ (HB2.out _ _)).mono ?_
          rintro e w2 ⟨rfl, hbz⟩
          have hbw : Below wr.heap.size wr w2 := (HB2.out _ _).trans (hbz.mono (by simp; omega))
          have m6 : w2.cell? ⟨wr.heap.size, 6, none⟩ = some (.slice X.a X.l.length X.c) := cell_later hbz (by simp [go_sem])
          have k6 : w2.cell? ⟨wr.heap.size + 1, 6, none⟩ = some (.slice Y.a Y.l.length Y.c) := cell_later hbz (by simp [go_sem])
          have lw2 : wr.heap.size + 1 < w2.heap.size := World.block_lt_of_cell? _ _ k6
          have HW2 : Hid (Stk B v (us ++ kids (p.1.l.take j) (p.2.l.take j)) w2 ∧ Below w.heap.size w w2 ∧ Pr B w2 p ∧ w2.cell? ⟨W0.heap.size, 1, none⟩ = some (.slice p.2.a p.2.l.length p.2.c) ∧ v.ownBlock ≠ some W0.heap.size ∧ Pr B w2 (X, Y)) := by
            have hlow : Below B wr w2 := hbw.mono (by omega)
            refine ⟨⟨?_, fun q hq => (HQ.out.1.ins q hq).low hlow⟩, HQ.out.2.1.trans (hbw.mono HQ.out.2.1.size), HQ.out.2.2.1.low hlow, cell_later hbw HQ.out.2.2.2.1, HQ.out.2.2.2.2, HP.out.low hlow⟩
            exact ownsRow_low HQ.out.1.own hbw
          have HSN : Hid (kids (p.1.l.take (j + 1)) (p.2.l.take (j + 1)) = kids (p.1.l.take j) (p.2.l.take j) ++ (if X.l.length = 0 then [] else [(X, Y)])) := by
            have := kids_snoc p.1.l p.2.l j hlt hlt2
            rw [HXY.out.1, HXY.out.2] at this
            exact this
          clear hbz hbw HQ HA HP c1 d0 d1 d2 d3 d4 d5 d6 e0 e1 e2 e3 e4 e5 e6
          by_cases hz : X.l.length = 0
          · have i8 : ¬ (0 : Int) < (X.l.length : Int) := by omega
            have HN : Hid (Stk B v (us ++ kids (p.1.l.take (j + 1)) (p.2.l.take (j + 1))) w2 ∧ Below w.heap.size w w2 ∧ Pr B w2 p ∧ w2.cell? ⟨W0.heap.size, 1, none⟩ = some (.slice p.2.a p.2.l.length p.2.c) ∧ v.ownBlock ≠ some W0.heap.size) := by
              show _ ∧ _
              rw [HSN.out, if_pos hz, List.append_nil]
              exact ⟨HW2.out.1, HW2.out.2.1, HW2.out.2.2.1, HW2.out.2.2.2.1, HW2.out.2.2.2.2.1⟩
            clear hz HW2
            go_wp2_with fail
            rw [← HEA.out]
            go_roundg (p.1.l.length - (j + 1))
            case measure => have := HJ.out; omega
            case rel => exact ⟨j + 1, _, by have := HJ.out; omega, by go_num, rfl, HN⟩
          · have i8 : (0 : Int) < (X.l.length : Int) := by omega
            obtain ⟨N, hN⟩ : ∃ N, (us ++ kids (p.1.l.take j) (p.2.l.take j)).length = N := ⟨_, rfl⟩
            obtain ⟨xs, hxs⟩ : ∃ xs, cells2 (us ++ kids (p.1.l.take j) (p.2.l.take j)) = xs := ⟨_, rfl⟩
            have hNb : N ≤ 1000001 := by
              have h1 := Stk.len (ps := us ++ kids (p.1.l.take j) (p.2.l.take j))
              have h2 := kids_mass (p.1.l.take j) (p.2.l.take j)
              have h3 := sum_take_le TT.sz p.1.l j
              have h4 := p.1.sz_eq
              have h5 := HM.out.2
              have h6 : mass (us ++ kids (p.1.l.take j) (p.2.l.take j)) = mass us + mass (kids (p.1.l.take j) (p.2.l.take j)) := by simp [mass]
              omega
            have uo : w2.ownsRow B 53 2 v N xs := by rw [← hN, ← hxs]; exact HW2.out.1.own
            have hnew := heap_alloc_new w2 (.cells #[.slice X.a X.l.length X.c, .slice Y.a Y.l.length Y.c] 53)
            have HNX : Hid ((us ++ kids (p.1.l.take j) (p.2.l.take j)).length = N ∧ cells2 (us ++ kids (p.1.l.take j) (p.2.l.take j)) = xs) := ⟨hN, hxs⟩
            have HZ : Hid (X.l.length ≠ 0) := hz
            clear hN hxs hz
            go_wp2_with (at_builtin; refine wpList_append_lies _ rfl _ _ _ rfl B 53 i0 _ 2 48 Tryz.underlying54 hi0 hz0 hz1 hz2 rfl (by omega) v N xs rfl (uo.alloc _) ⟨w2.heap.size, 0, none⟩ 1 1 [.slice X.a X.l.length X.c, .slice Y.a Y.l.length Y.c] rfl rfl (World.news_of_block (cs := #[.slice X.a X.l.length X.c, .slice Y.a Y.l.length Y.c]) (t := 53) (fr := (0, 0)) hnew) (by simp [Value.oneCell']) (by omega) (by unfold maxLen; omega) (by omega) (by simp; omega) (w2.heap.size + 1) (by simp) ?_; intro gg cap1 w3 hown1 hgrow hat hlt3)
            have hov : ∀ q, v.ownBlock = some q → B ≤ q ∧ q < w2.heap.size := uo.lt
            have hlow : Below B w2 w3 := by
              refine ⟨hgrow.os.trans rfl, hgrow.tape.trans rfl, hgrow.output.trans rfl, by have := hgrow.size; simp at this; omega, fun q hq => ?_⟩
              rw [hgrow.block q (by simp; omega) (fun e => by have := (hov q e.symm).1; omega)]
              exact ((Below.refl _ w2).alloc (Nat.le_refl _) _).block q (by omega)
            have hcN : w3.cell? ⟨W0.heap.size, 1, none⟩ = some (.slice p.2.a p.2.l.length p.2.c) := by
              rw [hgrow.cell_far _ (by simp; omega) (Ne.symm HW2.out.2.2.2.2.1)]
              exact cell_later ((Below.refl _ _).alloc (Nat.le_refl _) _) HW2.out.2.2.2.1
            have HN : Hid (Stk B (.slice (some ⟨gg, 0, none⟩) (N + 1) cap1) (us ++ kids (p.1.l.take (j + 1)) (p.2.l.take (j + 1))) w3 ∧ Below w.heap.size w w3 ∧ Pr B w3 p ∧ w3.cell? ⟨W0.heap.size, 1, none⟩ = some (.slice p.2.a p.2.l.length p.2.c) ∧ (Value.slice (some ⟨gg, 0, none⟩) (N + 1) cap1).ownBlock ≠ some W0.heap.size) := by
              show _ ∧ _
              rw [HSN.out, if_neg HZ.out, ← List.append_assoc]
              refine ⟨⟨?_, fun q hq => ?_⟩, HW2.out.2.1.trans (hlow.mono (by omega)), HW2.out.2.2.1.low hlow, hcN, ?_⟩
              · rw [cells2_append, List.length_append, List.length_singleton, HNX.out.1, HNX.out.2]
                exact hown1
              · rcases List.mem_append.1 hq with hq | hq
                · exact (HW2.out.1.ins q hq).low hlow
                · rcases List.mem_singleton.1 hq with rfl
                  exact HW2.out.2.2.2.2.2.low hlow
              · show some gg ≠ some W0.heap.size
                rcases hat with e | e
                · rw [← e]; exact HW2.out.2.2.2.2.1
                · simp only [ne_eq, Option.some.injEq]; omega
            clear hown1 hgrow hat hlt3 hov hlow hcN HW2 uo hnew m6 k6
            go_wp2_with fail
            rw [← HEA.out]
            go_roundg (p.1.l.length - (j + 1))
            case measure => have := HJ.out; omega
            case rel => exact ⟨j + 1, _, by have := HJ.out; omega, by go_num, rfl, HN⟩
        · have HN : Hid (Stk B v (us ++ kids p.1.l p.2.l) wr ∧ Below w.heap.size w wr ∧ mass (us ++ kids p.1.l p.2.l) ≤ 1000001) := by
            have h1 := HQ.out.1
            rw [List.take_of_length_le (by omega), List.take_of_length_le (by have := HLL.out; omega)] at h1
            have h2 := kids_mass p.1.l p.2.l
            have h4 := p.1.sz_eq
            have h5 := HM.out.2
            have h6 : mass (us ++ kids p.1.l p.2.l) = mass us + mass (kids p.1.l p.2.l) := by simp [mass]
            exact ⟨h1, HQ.out.2.1, by omega⟩
          clear HQ
          go_wp2_with fail
          go_roundg (mass (us ++ kids p.1.l p.2.l))
          case measure =>
            have h2 := kids_mass p.1.l p.2.l
            have h4 := p.1.sz_eq
            have h5 := HM.out.1
            have h6 : mass (us ++ kids p.1.l p.2.l) = mass us + mass (kids p.1.l p.2.l) := by simp [mass]
            omega
          case rel => exact ⟨_, _, rfl, rfl, HN⟩
end Go.Proofs.YtnddkmccagiclaaGreatDoor

/-
  No list within a term is longer than what memory holds.
-/
namespace Go.Proofs.YtnddkmccagiclaaGreatDoor
open Go.RowKit

/-- No list is longer than what memory holds. -/
def TT.lw : TT → Prop
  | ⟨_, _, _, _, _, _, l⟩ => l.length ≤ 1353245080300 ∧ ∀ y, y ∈ l → y.lw
theorem TT.lw_mk {k n : Int} {t f : Tr} {a : Option Addr} {c : Nat} {l : List TT} : (TT.mk k n t f a c l).lw ↔ l.length ≤ 1353245080300 ∧ ∀ y, y ∈ l → y.lw := by
  rw [TT.lw]
theorem TT.lw.len {x : TT} (h : x.lw) : x.l.length ≤ 1353245080300 := by cases x; exact (TT.lw_mk.1 h).1
theorem TT.lw.mem {x y : TT} (h : x.lw) (hy : y ∈ x.l) : y.lw := by
  obtain ⟨k, n, t, f, a, c, l⟩ := x
  exact (TT.lw_mk.1 h).2 y hy
end Go.Proofs.YtnddkmccagiclaaGreatDoor

/-
  What the call of chaperoneref.SameTerm answers at two terms that lie in memory and are alike.
-/
namespace Go.Proofs.YtnddkmccagiclaaGreatDoor
open Go.RowKit

/-- No list of its types is too long. -/
def TT.tsm : TT → Prop
  | ⟨_, _, t, f, _, _, l⟩ => t.sm ∧ f.sm ∧ ∀ y, y ∈ l → y.tsm
theorem TT.tsm_mk {k n : Int} {t f : Tr} {a : Option Addr} {c : Nat} {l : List TT} : (TT.mk k n t f a c l).tsm ↔ t.sm ∧ f.sm ∧ ∀ y, y ∈ l → y.tsm := by
  rw [TT.tsm]
theorem TT.tsm.t {x : TT} (h : x.tsm) : x.t.sm := by cases x; exact (TT.tsm_mk.1 h).1
theorem TT.tsm.f {x : TT} (h : x.tsm) : x.f.sm := by cases x; exact (TT.tsm_mk.1 h).2.1
theorem TT.tsm.mem {x y : TT} (h : x.tsm) (hy : y ∈ x.l) : y.tsm := by
  obtain ⟨k, n, t, f, a, c, l⟩ := x
  exact (TT.tsm_mk.1 h).2.2 y hy

set_option maxHeartbeats 1000000 in
theorem sameTerm_step (x y : TT) (w : World) (hx : x.In w) (hy : y.In w) (hm : x.tm = y.tm) (hlw : x.lw) (hts : x.tsm)
    (ih : Hid (∀ (j : Nat) (hj : j < x.l.length) (z : TT) (w : World), x.l[j].In w → z.In w → x.l[j].tm = z.tm → Calls Tryz.prog 14 #[.agg #[.int .i64 x.l[j].k, .int .i64 x.l[j].n, .int .i64 x.l[j].t.k, .slice x.l[j].t.a x.l[j].t.l.length x.l[j].t.c, .int .i64 x.l[j].f.k, .slice x.l[j].f.a x.l[j].f.l.length x.l[j].f.c, .slice x.l[j].a x.l[j].l.length x.l[j].c], .agg #[.int .i64 z.k, .int .i64 z.n, .int .i64 z.t.k, .slice z.t.a z.t.l.length z.t.c, .int .i64 z.f.k, .slice z.f.a z.f.l.length z.f.c, .slice z.a z.l.length z.c]] w fun e w' => e = .returned (.bool true) ∧ Below w.heap.size w w')) :
    Calls Tryz.prog 14 #[.agg #[.int .i64 x.k, .int .i64 x.n, .int .i64 x.t.k, .slice x.t.a x.t.l.length x.t.c, .int .i64 x.f.k, .slice x.f.a x.f.l.length x.f.c, .slice x.a x.l.length x.c], .agg #[.int .i64 y.k, .int .i64 y.n, .int .i64 y.t.k, .slice y.t.a y.t.l.length y.t.c, .int .i64 y.f.k, .slice y.f.a y.f.l.length y.f.c, .slice y.a y.l.length y.c]] w fun e w' => e = .returned (.bool true) ∧ Below w.heap.size w w' := by
  have hlen := hlw.len
  obtain ⟨hk, hn, hl, ht, hf, hp⟩ := tm_parts hm
  have HT : Hid (∀ W, x.t.In W → y.t.In W → Calls Tryz.prog 27 #[.agg #[.int .i64 x.t.k, .slice x.t.a x.t.l.length x.t.c], .agg #[.int .i64 y.t.k, .slice y.t.a y.t.l.length y.t.c]] W fun e w' => e = .returned (.bool true) ∧ Below W.heap.size W w') := by
    intro W h1 h2
    have := sameType_any _ x.t y.t W h1 h2 (Nat.le_refl _) hts.t
    rw [ht, relY_refl] at this
    exact this
  have HF : Hid (∀ W, x.f.In W → y.f.In W → Calls Tryz.prog 27 #[.agg #[.int .i64 x.f.k, .slice x.f.a x.f.l.length x.f.c], .agg #[.int .i64 y.f.k, .slice y.f.a y.f.l.length y.f.c]] W fun e w' => e = .returned (.bool true) ∧ Below W.heap.size W w') := by
    intro W h1 h2
    have := sameType_any _ x.f y.f W h1 h2 (Nat.le_refl _) hts.f
    rw [hf, relY_refl] at this
    exact this
  have e1 : (x.k == y.k) = true := by simp [hk]
  have e2 : (x.n == y.n) = true := by simp [hn]
  have e3 : ((x.l.length : Int) == (y.l.length : Int)) = true := by simp [hl]
  have HB : Hid (∀ o o', Below w.heap.size w ((w.alloc o).alloc o')) := fun o o' => ((Below.refl _ _).alloc (Nat.le_refl _) _).alloc (by simp) _
  have HX : Hid (x.In w ∧ y.In w) := ⟨hx, hy⟩
  have HP : Hid (x.l.length = y.l.length ∧ x.l.map TT.tm = y.l.map TT.tm) := ⟨hl, hp⟩
  clear hk hn hl ht hf hp hm hts hlw
  go_enter Tryz.func14, Tryz.ntmps14
  go_wp2_with fail
  refine (HT.out _ (HX.out.1.below (HB.out _ _)).t (HX.out.2.below (HB.out _ _)).t).mono ?_
  rintro e w1 ⟨rfl, hb1⟩
  have hbw : Below w.heap.size w w1 := (HB.out _ _).trans (hb1.mono (by simp; omega))
  have q4 : w1.cell? ⟨w.heap.size, 4, none⟩ = some (.int .i64 x.f.k) := cell_later hb1 (by simp [go_sem])
  have q5 : w1.cell? ⟨w.heap.size, 5, none⟩ = some (.slice x.f.a x.f.l.length x.f.c) := cell_later hb1 (by simp [go_sem])
  have q6 : w1.cell? ⟨w.heap.size, 6, none⟩ = some (.slice x.a x.l.length x.c) := cell_later hb1 (by simp [go_sem])
  have p4 : w1.cell? ⟨w.heap.size + 1, 4, none⟩ = some (.int .i64 y.f.k) := cell_later hb1 (by simp [go_sem])
  have p5 : w1.cell? ⟨w.heap.size + 1, 5, none⟩ = some (.slice y.f.a y.f.l.length y.f.c) := cell_later hb1 (by simp [go_sem])
  have p6 : w1.cell? ⟨w.heap.size + 1, 6, none⟩ = some (.slice y.a y.l.length y.c) := cell_later hb1 (by simp [go_sem])
  clear hb1
  go_wp2_with fail
  refine (HF.out _ (HX.out.1.below hbw).f (HX.out.2.below hbw).f).mono ?_
  rintro e w2 ⟨rfl, hb2⟩
  have hbz := hbw.trans (hb2.mono hbw.size)
  replace q6 := cell_later hb2 q6
  replace p6 := cell_later hb2 p6
  clear hb2 hbw q4 q5 p4 p5 HT HF
  go_wp2_with fail
  go_loopg [5, 6] (x.l.length) (fun g b i wr => ∃ (j : Nat), j ≤ x.l.length ∧ g = x.l.length - j ∧ b = .bool true ∧ i = .int .i64 (j : Int) ∧ Below w.heap.size w wr ∧ wr.cell? ⟨w.heap.size, 6, none⟩ = some (.slice x.a x.l.length x.c) ∧ wr.cell? ⟨w.heap.size + 1, 6, none⟩ = some (.slice y.a y.l.length y.c))
  case atStart => exact ⟨0, Nat.zero_le _, rfl, rfl, rfl, hbz, q6, p6⟩
  case round =>
    obtain ⟨j, hj, hg, rfl, rfl, hbwr, p1, p3⟩ := hrel
    have HG : Hid (gk = x.l.length - j) := hg
    clear hg
    by_cases hlt : j < x.l.length
    · have hlt' : j < y.l.length := HP.out.1 ▸ hlt
      have HM : Hid (x.l[j].tm = y.l[j].tm) := by
        have h := congrArg (fun l => l[j]?) HP.out.2
        simp only [List.getElem?_map, List.getElem?_eq_getElem hlt, List.getElem?_eq_getElem hlt', Option.map_some, Option.some.injEq] at h
        exact h
      obtain ⟨b, o, ea, ⟨x0, x1, x2, x3, x4, x5, x6⟩, hxj⟩ := hx.part j hlt
      obtain ⟨b', o', eb, ⟨y0, y1, y2, y3, y4, y5, y6⟩, hyj⟩ := hy.part j hlt'
      have q1 : wr.cell? ⟨w.heap.size, 6, none⟩ = some (.slice (some ⟨b, o, none⟩) x.l.length x.c) := by rw [← ea]; exact p1
      have q3 : wr.cell? ⟨w.heap.size + 1, 6, none⟩ = some (.slice (some ⟨b', o', none⟩) y.l.length y.c) := by rw [← eb]; exact p3
      have HPP : Hid (wr.cell? ⟨w.heap.size, 6, none⟩ = some (.slice x.a x.l.length x.c) ∧ wr.cell? ⟨w.heap.size + 1, 6, none⟩ = some (.slice y.a y.l.length y.c)) := ⟨p1, p3⟩
      replace x0 := cell_later hbwr x0
      replace x1 := cell_later hbwr x1
      replace x2 := cell_later hbwr x2
      replace x3 := cell_later hbwr x3
      replace x4 := cell_later hbwr x4
      replace x5 := cell_later hbwr x5
      replace x6 := cell_later hbwr x6
      replace y0 := cell_later hbwr y0
      replace y1 := cell_later hbwr y1
      replace y2 := cell_later hbwr y2
      replace y3 := cell_later hbwr y3
      replace y4 := cell_later hbwr y4
      replace y5 := cell_later hbwr y5
      replace y6 := cell_later hbwr y6
      have i1 : (j : Int) < (x.l.length : Int) := by omega
      have i2 : (j : Int) < (y.l.length : Int) := by omega
      have i0 : (0 : Int) ≤ (j : Int) := by omega
      have HC : Hid (∀ (w : World), x.l[j].In w → y.l[j].In w → Calls Tryz.prog 14 #[.agg #[.int .i64 x.l[j].k, .int .i64 x.l[j].n, .int .i64 x.l[j].t.k, .slice x.l[j].t.a x.l[j].t.l.length x.l[j].t.c, .int .i64 x.l[j].f.k, .slice x.l[j].f.a x.l[j].f.l.length x.l[j].f.c, .slice x.l[j].a x.l[j].l.length x.l[j].c], .agg #[.int .i64 y.l[j].k, .int .i64 y.l[j].n, .int .i64 y.l[j].t.k, .slice y.l[j].t.a y.l[j].t.l.length y.l[j].t.c, .int .i64 y.l[j].f.k, .slice y.l[j].f.a y.l[j].f.l.length y.l[j].f.c, .slice y.l[j].a y.l[j].l.length y.l[j].c]] w fun e w' => e = .returned (.bool true) ∧ Below w.heap.size w w') := fun w h1 h2 => ih.out j hlt y.l[j] w h1 h2 HM.out
      clear p1 p3 ea eb hx hy HM HX HB
      go_wp2_with fail
      go_region_held3 (fun w' => w'.cell? ⟨w.heap.size, 6, none⟩ = some (.slice (some ⟨b, o, none⟩) x.l.length x.c) ∧ w'.cell? ⟨w.heap.size + 1, 6, none⟩ = some (.slice (some ⟨b', o', none⟩) y.l.length y.c) ∧ w'.cell? ⟨b, o + j * 7, none⟩ = some (.int .i64 x.l[j].k) ∧ w'.cell? ⟨b, o + j * 7 + 1, none⟩ = some (.int .i64 x.l[j].n) ∧ w'.cell? ⟨b, o + j * 7 + 2, none⟩ = some (.int .i64 x.l[j].t.k) ∧ w'.cell? ⟨b, o + j * 7 + 3, none⟩ = some (.slice x.l[j].t.a x.l[j].t.l.length x.l[j].t.c) ∧ w'.cell? ⟨b, o + j * 7 + 4, none⟩ = some (.int .i64 x.l[j].f.k) ∧ w'.cell? ⟨b, o + j * 7 + 5, none⟩ = some (.slice x.l[j].f.a x.l[j].f.l.length x.l[j].f.c) ∧ w'.cell? ⟨b, o + j * 7 + 6, none⟩ = some (.slice x.l[j].a x.l[j].l.length x.l[j].c) ∧ w'.cell? ⟨b', o' + j * 7, none⟩ = some (.int .i64 y.l[j].k) ∧ w'.cell? ⟨b', o' + j * 7 + 1, none⟩ = some (.int .i64 y.l[j].n) ∧ w'.cell? ⟨b', o' + j * 7 + 2, none⟩ = some (.int .i64 y.l[j].t.k) ∧ w'.cell? ⟨b', o' + j * 7 + 3, none⟩ = some (.slice y.l[j].t.a y.l[j].t.l.length y.l[j].t.c) ∧ w'.cell? ⟨b', o' + j * 7 + 4, none⟩ = some (.int .i64 y.l[j].f.k) ∧ w'.cell? ⟨b', o' + j * 7 + 5, none⟩ = some (.slice y.l[j].f.a y.l[j].f.l.length y.l[j].f.c) ∧ w'.cell? ⟨b', o' + j * 7 + 6, none⟩ = some (.slice y.l[j].a y.l[j].l.length y.l[j].c))
        (first | exact ⟨cell_later hb2 q1, cell_later hb2 q3, cell_later hb2 x0, cell_later hb2 x1, cell_later hb2 x2, cell_later hb2 x3, cell_later hb2 x4, cell_later hb2 x5, cell_later hb2 x6, cell_later hb2 y0, cell_later hb2 y1, cell_later hb2 y2, cell_later hb2 y3, cell_later hb2 y4, cell_later hb2 y5, cell_later hb2 y6⟩ | go_keep)
        (first | (go_at_call 14; refine (HC.out _ (hxj.below hbwr.drew) (hyj.below hbwr.drew)).mono ?_; rintro e w2 ⟨rfl, hb2⟩))
      have hbr2 : Below w.heap.size w w2 := hbwr.drew.trans (hb2.mono hbwr.size)
      have s1 := cell_later hb2 HPP.out.1
      have s3 := cell_later hb2 HPP.out.2
      clear hb2 q1 q3 x0 x1 x2 x3 x4 x5 x6 y0 y1 y2 y3 y4 y5 y6 HC HPP
      go_wp2_with fail
      go_roundg (x.l.length - (j + 1))
      case measure => rw [HG.out]; omega
      case rel => exact ⟨j + 1, by omega, rfl, rfl, by go_num, hbr2, s1, s3⟩
    · go_wp2_with fail
      go_ret
      exact ⟨rfl, hbwr⟩

/-- chaperoneref.SameTerm, of two that are alike. -/
theorem sameTerm_yes : ∀ (x y : TT) (w : World), x.In w → y.In w → x.tm = y.tm → x.lw → x.tsm → Calls Tryz.prog 14 #[.agg #[.int .i64 x.k, .int .i64 x.n, .int .i64 x.t.k, .slice x.t.a x.t.l.length x.t.c, .int .i64 x.f.k, .slice x.f.a x.f.l.length x.f.c, .slice x.a x.l.length x.c], .agg #[.int .i64 y.k, .int .i64 y.n, .int .i64 y.t.k, .slice y.t.a y.t.l.length y.t.c, .int .i64 y.f.k, .slice y.f.a y.f.l.length y.f.c, .slice y.a y.l.length y.c]] w fun e w' => e = .returned (.bool true) ∧ Below w.heap.size w w' := by
  intro x
  induction x using TT.ind with
  | h k n t f a c l ih =>
    intro y w hx hy hm hl ht
    exact sameTerm_step ⟨k, n, t, f, a, c, l⟩ y w hx hy hm hl ht (fun j hj z w h1 h2 h3 => ih _ (List.getElem_mem hj) z w h1 h2 h3 (hl.mem (List.getElem_mem hj)) (ht.mem (List.getElem_mem hj)))
end Go.Proofs.YtnddkmccagiclaaGreatDoor

/-
  What the call of check's ruleOf answers, at every kind that a good term has.
-/
namespace Go.Proofs.YtnddkmccagiclaaGreatDoor
open Go.RowKit

/-- The rule of a term: by its kind, number and type, the types of its parts, and what the functions around it take. -/
def ruleY (k n : Int) (t : Ty) (ps takes : List Ty) : Option (Ty × List Ty) :=
  if k = 1 then some (takes.getD n.toNat ⟨0, []⟩, [])
  else if k = 2 then some (⟨1, []⟩, [])
  else if k = 3 then some (⟨2, []⟩, [])
  else if k = 4 then some (⟨1, []⟩, [⟨1, []⟩, ⟨1, []⟩])
  else if k = 5 then some (⟨2, []⟩, [⟨1, []⟩, ⟨1, []⟩])
  else if k = 6 then ifY ⟨2, []⟩ (ps.getD 1 ⟨0, []⟩) (ps.getD 2 ⟨0, []⟩)
  else if k = 7 then some (⟨3, [t, ps.getD 0 ⟨0, []⟩]⟩, ps)
  else if k = 8 then callY (ps.getD 0 ⟨0, []⟩)
  else if k = 9 then some (t, [t])
  else none

theorem bl_one {Q : Nat → Prop} {g c : Nat} {x : Tr} (h : Q g) (hx : x.Bl Q) : (Tr.mk 0 (some ⟨g, 0, none⟩) c [x]).Bl Q := by
  refine Tr.Bl_mk.2 ⟨fun _ y hy => by cases hy; exact h, fun t ht => ?_⟩
  have : t = x := by simpa using ht
  subst this; exact hx

theorem In_one {w : World} {g c : Nat} {x : Tr} (c0 : w.cell? ⟨g, 0, none⟩ = some (.int .i64 x.k)) (c1 : w.cell? ⟨g, 1, none⟩ = some (.slice x.a x.l.length x.c)) (hx : x.In w) : (Tr.mk 0 (some ⟨g, 0, none⟩) c [x]).In w := by
  refine Tr.In_mk.2 ⟨fun j h => ?_, fun t ht => ?_⟩
  · have hj : j = 0 := by simpa using h
    subst hj
    exact ⟨g, 0, rfl, by simpa using c0, by simpa [Tr.sl] using c1⟩
  · have : t = x := by simpa using ht
    subst this; exact hx

theorem ruleOf_any (Q : Nat → Prop) (x : TT) (p T : Tr) (w : World) (h1 : 1 ≤ x.k) (h9 : x.k ≤ 9) (hp : p.l.length = partsOf x.k) (hn : x.k = 1 → 0 ≤ x.n ∧ x.n < (T.l.length : Int))
    (ht : x.t.In w) (bt : x.t.Bl Q) (ip : p.In w) (bp : p.Bl Q) (iT : T.In w) (bT : T.Bl Q) (hok : ∀ t, t ∈ p.l → t.right ∧ t.hgt ≤ 1000 ∧ t.sm) (hQ : ∀ b, w.heap.size ≤ b → Q b) :
    Calls Tryz.prog 65 #[.agg #[.int .i64 x.k, .int .i64 x.n, .int .i64 x.t.k, .slice x.t.a x.t.l.length x.t.c, .int .i64 x.f.k, .slice x.f.a x.f.l.length x.f.c, .slice x.a x.l.length x.c], .slice p.a p.l.length p.c, .slice T.a T.l.length T.c] w (RuOut Q w (ruleY x.k x.n x.t.ty (p.l.map Tr.ty) (T.l.map Tr.ty))) := by
  have hk : x.k = 1 ∨ x.k = 2 ∨ x.k = 3 ∨ x.k = 4 ∨ x.k = 5 ∨ x.k = 6 ∨ x.k = 7 ∨ x.k = 8 ∨ x.k = 9 := by omega
  rcases hk with e | e | e | e | e | e | e | e | e
  · obtain ⟨m, hm⟩ : ∃ m : Nat, x.n = (m : Int) := ⟨x.n.toNat, by have := hn e; omega⟩
    have hlt : m < T.l.length := by have := hn e; omega
    obtain ⟨b, o, ea, c0, c1, hi⟩ := iT.part m hlt
    have hbt : T.l[m].Bl Q := by
      obtain ⟨k, a, c, l⟩ := T
      exact (Tr.Bl_mk.1 bT).2 _ (List.getElem_mem hlt)
    rw [e, hm, ea]
    refine (ruleOf_1 x m hm p.a p.l.length p.c b o T.l.length T.c hlt T.l[m] w c0 c1).mono ?_
    rintro e w' ⟨rfl, hb⟩
    exact ⟨hb, .inr ⟨T.l[m], leaf 0, by simp [ruleY, leaf, hlt], rfl, hi.below hb, leaf_in _ _, hbt, leaf_bl _ _⟩⟩
  · rw [e]
    refine (ruleOf_2 x p.a T.a p.l.length p.c T.l.length T.c w).mono ?_
    rintro e w' ⟨rfl, hb⟩
    exact ⟨hb, .inr ⟨leaf 1, leaf 0, by simp [ruleY, leaf, Tr.ty_mk], rfl, leaf_in _ _, leaf_in _ _, leaf_bl _ _, leaf_bl _ _⟩⟩
  · rw [e]
    refine (ruleOf_3 x p.a T.a p.l.length p.c T.l.length T.c w).mono ?_
    rintro e w' ⟨rfl, hb⟩
    exact ⟨hb, .inr ⟨leaf 2, leaf 0, by simp [ruleY, leaf, Tr.ty_mk], rfl, leaf_in _ _, leaf_in _ _, leaf_bl _ _, leaf_bl _ _⟩⟩
  · rw [e]
    refine (ruleOf_4 x p.a T.a p.l.length p.c T.l.length T.c w).mono ?_
    rintro e w' ⟨g, hg, rfl, c0, c1, c2, c3, hb⟩
    exact ⟨hb, .inr ⟨leaf 1, ⟨0, some ⟨g, 0, none⟩, 2, [leaf 1, leaf 1]⟩, by simp [ruleY, leaf, Tr.ty_mk], rfl, leaf_in _ _, Tr.In_two c0 c1 c2 c3 (leaf_in _ _) (leaf_in _ _), leaf_bl _ _, Tr.Bl_two (hQ g hg) (leaf_bl _ _) (leaf_bl _ _)⟩⟩
  · rw [e]
    refine (ruleOf_5 x p.a T.a p.l.length p.c T.l.length T.c w).mono ?_
    rintro e w' ⟨g, hg, rfl, c0, c1, c2, c3, hb⟩
    exact ⟨hb, .inr ⟨leaf 2, ⟨0, some ⟨g, 0, none⟩, 2, [leaf 1, leaf 1]⟩, by simp [ruleY, leaf, Tr.ty_mk], rfl, leaf_in _ _, Tr.In_two c0 c1 c2 c3 (leaf_in _ _) (leaf_in _ _), leaf_bl _ _, Tr.Bl_two (hQ g hg) (leaf_bl _ _) (leaf_bl _ _)⟩⟩
  · have hl : p.l.length = 3 := by rw [hp, e]; rfl
    obtain ⟨b, o, ea, c0, c1, hi1⟩ := ip.part 1 (by omega)
    obtain ⟨b', o', eb, d0, d1, hi2⟩ := ip.part 2 (by omega)
    rw [ea] at eb
    cases eb
    have o1 := hok _ (List.getElem_mem (show 1 < p.l.length by omega))
    have o2 := hok _ (List.getElem_mem (show 2 < p.l.length by omega))
    have he : ruleY 6 x.n x.t.ty (p.l.map Tr.ty) (T.l.map Tr.ty) = ifY ⟨2, []⟩ (p.l[1]'(by omega)).ty (p.l[2]'(by omega)).ty := by
      simp [ruleY, hl]
    rw [e, ea, he]
    exact ruleOf_6 Q x _ _ b o p.l.length p.c T.a T.l.length T.c w (by omega) c0 c1 d0 d1 hi1 hi2 o1.1 o2.1 o1.2.1 o1.2.2 hQ
  · have hl : p.l.length = 1 := by rw [hp, e]; rfl
    obtain ⟨q, hq⟩ : ∃ q, p.l = [q] := List.length_eq_one_iff.1 hl
    obtain ⟨b, o, ea, c0, c1, hi⟩ := ip.part 0 (by omega)
    have hq0 : p.l[0]'(by omega) = q := by simp [hq]
    rw [hq0] at c0 c1 hi
    have hbp : q.Bl Q ∧ Q b := by
      obtain ⟨k, a, c, l⟩ := p
      dsimp only at hq ea
      subst hq ea
      exact ⟨(Tr.Bl_mk.1 bp).2 _ (by simp), (Tr.Bl_mk.1 bp).1 (by simp) _ rfl⟩
    have he : ruleY 7 x.n x.t.ty (p.l.map Tr.ty) (T.l.map Tr.ty) = some (⟨3, [x.t.ty, q.ty]⟩, [q.ty]) := by
      simp [ruleY, hq]
    rw [e, ea, he, hl]
    exact ruleOf_7 Q x q b o p.c T.a T.l.length T.c w (by simpa using c0) (by simpa using c1) hi ht hbp.1 bt hbp.2 hQ
  · have hl : p.l.length = 2 := by rw [hp, e]; rfl
    obtain ⟨b, o, ea, c0, c1, hi⟩ := ip.part 0 (by omega)
    have o1 := hok _ (List.getElem_mem (show 0 < p.l.length by omega))
    have hbp : (p.l[0]'(by omega)).Bl Q := by
      obtain ⟨k, a, c, l⟩ := p
      exact (Tr.Bl_mk.1 bp).2 _ (List.getElem_mem (by dsimp only at hl; omega))
    have he : ruleY 8 x.n x.t.ty (p.l.map Tr.ty) (T.l.map Tr.ty) = callY (p.l[0]'(by omega)).ty := by
      simp [ruleY, hl]
    rw [e, ea, he]
    exact ruleOf_8 Q x _ b o p.l.length p.c T.a T.l.length T.c w (by omega) (by simpa using c0) (by simpa using c1) hi o1.1 hQ hbp
  · rw [e]
    refine (ruleOf_9 x p.a T.a p.l.length p.c T.l.length T.c w).mono ?_
    rintro e w' ⟨g, hg, rfl, c0, c1, hb⟩
    exact ⟨hb, .inr ⟨x.t, ⟨0, some ⟨g, 0, none⟩, 1, [x.t]⟩, by simp [ruleY], rfl, ht.below hb, In_one c0 c1 (ht.below hb), bt, bl_one (hQ g hg) bt⟩⟩
end Go.Proofs.YtnddkmccagiclaaGreatDoor

/-
  The plain mathematics of good types: what both say each of them says; who is finer fits; what is sure fits only what is coarser; no program in it.
-/
namespace Go.Proofs.YtnddkmccagiclaaGreatDoor

theorem goodY_cases {n : Nat} {t : Ty} (h : goodY (n + 1) t = true) : (∃ k, t = ⟨k, []⟩ ∧ (k = 0 ∨ k = 1 ∨ k = 2)) ∨ ∃ x y, t = ⟨3, [x, y]⟩ ∧ goodY n x = true ∧ goodY n y = true := by
  match t, h with
  | ⟨k, []⟩, h => exact .inl ⟨k, rfl, by simpa [goodY, or_assoc] using h⟩
  | ⟨k, [x]⟩, h => simp [goodY] at h
  | ⟨k, [x, y]⟩, h =>
    simp [goodY] at h
    obtain ⟨⟨rfl, hx⟩, hy⟩ := h
    exact .inr ⟨x, y, rfl, hx, hy⟩
  | ⟨k, x :: y :: z :: r⟩, h => simp [goodY] at h

theorem any_left (t : Ty) (l : List Ty) : relY escFits ⟨0, l⟩ t = true := by cases t; simp [relY_mk, escFits]
theorem any_right (t : Ty) (l : List Ty) : relY escFits t ⟨0, l⟩ = true := by cases t; simp [relY_mk, escFits]
theorem any_coarser (t : Ty) (l : List Ty) : relY escFiner t ⟨0, l⟩ = true := by cases t; simp [relY_mk, escFiner]

theorem two (esc : Int → Int → Bool) (x y x' y' : Ty) (h : esc 3 3 = false) : relY esc ⟨3, [x, y]⟩ ⟨3, [x', y']⟩ = (relY esc x x' && relY esc y y') := by
  simp [relY_mk, relL, h]

theorem join_two (x y x' y' : Ty) : joinY ⟨3, [x, y]⟩ ⟨3, [x', y']⟩ = ⟨3, [joinY x x', joinY y y']⟩ := by
  simp [joinY_mk, joinL]

theorem join_facts : ∀ (n : Nat) (a b : Ty), goodY n a = true → goodY n b = true →
    goodY n (joinY a b) = true ∧ relY escFiner a (joinY a b) = true ∧ relY escFiner b (joinY a b) = true ∧ joinY b a = joinY a b ∧ joinY a a = a
  | 0, a, b, h, _ => by simp [goodY] at h
  | n + 1, a, b, ha, hb => by
    rcases goodY_cases ha with ⟨k, rfl, hk⟩ | ⟨x, y, rfl, hx, hy⟩
    · rcases goodY_cases hb with ⟨k', rfl, hk'⟩ | ⟨x', y', rfl, hx', hy'⟩
      · by_cases e : k = k'
        · subst e
          rcases hk with rfl | rfl | rfl <;> simp [joinY_mk, joinL, goodY, relY_mk, relL]
        · have e' : k' ≠ k := fun h => e h.symm
          simp [joinY_mk, joinL, e, e', goodY, relY_mk, escFiner]
      · have e : k ≠ 3 := by omega
        have e' : (3 : Int) ≠ k := by omega
        simp [joinY_mk, joinL, e, e', goodY, relY_mk, escFiner]
    · rcases goodY_cases hb with ⟨k', rfl, hk'⟩ | ⟨x', y', rfl, hx', hy'⟩
      · have e : k' ≠ 3 := by omega
        have e' : (3 : Int) ≠ k' := by omega
        obtain ⟨_, _, _, _, ix⟩ := join_facts n x x hx hx
        obtain ⟨_, _, _, _, iy⟩ := join_facts n y y hy hy
        simp [joinY_mk, joinL, e, e', goodY, relY_mk, escFiner, ix, iy]
      · obtain ⟨g1, f1, f2, c1, i1⟩ := join_facts n x x' hx hx'
        obtain ⟨g2, f3, f4, c2, i2⟩ := join_facts n y y' hy hy'
        refine ⟨?_, ?_, ?_, ?_, ?_⟩
        · rw [join_two]; simp [goodY, g1, g2]
        · rw [join_two, two _ _ _ _ _ rfl, f1, f3]; rfl
        · rw [join_two, two _ _ _ _ _ rfl, f2, f4]; rfl
        · rw [join_two, join_two, c1, c2]
        · rw [join_two, i1, i2]

theorem join_least : ∀ (n : Nat) (a b c : Ty), goodY n a = true → goodY n b = true → goodY n c = true → relY escFiner a c = true → relY escFiner b c = true → relY escFiner (joinY a b) c = true
  | 0, a, b, c, h, _, _ => by simp [goodY] at h
  | n + 1, a, b, c, ha, hb, hc => by
    intro h1 h2
    rcases goodY_cases hc with ⟨k, rfl, hk⟩ | ⟨z, u, rfl, hz, hu⟩
    · rcases hk with rfl | hk
      · exact any_coarser _ _
      · have k0 : k ≠ 0 := by omega
        rcases goodY_cases ha with ⟨ka, rfl, _⟩ | ⟨x, y, rfl, hx, hy⟩
        · rcases goodY_cases hb with ⟨kb, rfl, _⟩ | ⟨x', y', rfl, hx', hy'⟩
          · simp [relY_mk, relL, escFiner, k0] at h1 h2
            subst h1
            subst h2
            simp [joinY_mk, joinL, relY_mk, relL]
          · simp [relY_mk, relL, escFiner, k0] at h2
        · simp [relY_mk, relL, escFiner, k0] at h1
    · rcases goodY_cases ha with ⟨ka, rfl, hka⟩ | ⟨x, y, rfl, hx, hy⟩
      · have e : ka ≠ 3 := by omega
        simp [relY_mk, relL, escFiner] at h1
      · rcases goodY_cases hb with ⟨kb, rfl, hkb⟩ | ⟨x', y', rfl, hx', hy'⟩
        · simp [relY_mk, relL, escFiner] at h2
        · rw [two _ _ _ _ _ rfl, Bool.and_eq_true] at h1 h2
          rw [join_two, two _ _ _ _ _ rfl, join_least n x x' z hx hx' hz h1.1 h2.1, join_least n y y' u hy hy' hu h1.2 h2.2]
          rfl

theorem fits_sym : ∀ (n : Nat) (a b : Ty), goodY n a = true → goodY n b = true → relY escFits a b = relY escFits b a
  | 0, a, b, h, _ => by simp [goodY] at h
  | n + 1, a, b, ha, hb => by
    rcases goodY_cases ha with ⟨ka, rfl, _⟩ | ⟨x, y, rfl, hx, hy⟩
    · rcases goodY_cases hb with ⟨kb, rfl, _⟩ | ⟨x', y', rfl, hx', hy'⟩
      · simp [relY_mk, relL, escFits, Bool.or_comm, Bool.beq_comm]
      · simp [relY_mk, relL, escFits]
    · rcases goodY_cases hb with ⟨kb, rfl, _⟩ | ⟨x', y', rfl, hx', hy'⟩
      · simp [relY_mk, relL, escFits]
      · rw [two _ _ _ _ _ rfl, two _ _ _ _ _ rfl, fits_sym n x x' hx hx', fits_sym n y y' hy hy']

theorem fits_refl : ∀ (n : Nat) (a : Ty), goodY n a = true → relY escFits a a = true
  | 0, a, h => by simp [goodY] at h
  | n + 1, a, ha => by
    rcases goodY_cases ha with ⟨ka, rfl, _⟩ | ⟨x, y, rfl, hx, hy⟩
    · simp [relY_mk, relL]
    · rw [two _ _ _ _ _ rfl, fits_refl n x hx, fits_refl n y hy]; rfl

theorem finer_fits : ∀ (n : Nat) (a b : Ty), goodY n a = true → goodY n b = true → relY escFiner a b = true → relY escFits a b = true
  | 0, a, b, h, _ => by simp [goodY] at h
  | n + 1, a, b, ha, hb => by
    intro h
    rcases goodY_cases hb with ⟨kb, rfl, _⟩ | ⟨x', y', rfl, hx', hy'⟩
    · rcases goodY_cases ha with ⟨ka, rfl, _⟩ | ⟨x, y, rfl, hx, hy⟩
      · simp [relY_mk, relL, escFiner] at h
        simp [relY_mk, relL, escFits]
        omega
      · simp [relY_mk, relL, escFiner] at h
        subst h
        exact any_right _ _
    · rcases goodY_cases ha with ⟨ka, rfl, _⟩ | ⟨x, y, rfl, hx, hy⟩
      · simp [relY_mk, relL, escFiner] at h
      · rw [two _ _ _ _ _ rfl, Bool.and_eq_true] at h
        rw [two _ _ _ _ _ rfl, finer_fits n x x' hx hx' h.1, finer_fits n y y' hy hy' h.2]
        rfl

theorem fits_coarser : ∀ (n : Nat) (a b c : Ty), goodY n a = true → goodY n b = true → goodY n c = true → relY escFits a b = true → relY escFiner b c = true → relY escFits a c = true
  | 0, a, b, c, h, _, _ => by simp [goodY] at h
  | n + 1, a, b, c, ha, hb, hc => by
    intro h1 h2
    rcases goodY_cases hc with ⟨k, rfl, hk⟩ | ⟨z, u, rfl, hz, hu⟩
    · by_cases k0 : k = 0
      · subst k0; exact any_right _ _
      · rcases goodY_cases hb with ⟨kb, rfl, hkb⟩ | ⟨x', y', rfl, hx', hy'⟩
        · simp [relY_mk, relL, escFiner, k0] at h2
          subst h2
          exact h1
        · simp [relY_mk, relL, escFiner, k0] at h2
    · rcases goodY_cases hb with ⟨kb, rfl, hkb⟩ | ⟨x', y', rfl, hx', hy'⟩
      · simp [relY_mk, relL, escFiner] at h2
      · rcases goodY_cases ha with ⟨ka, rfl, hka⟩ | ⟨x, y, rfl, hx, hy⟩
        · simp [relY_mk, relL, escFits] at h1
          subst h1
          exact any_left _ _
        · rw [two _ _ _ _ _ rfl, Bool.and_eq_true] at h1 h2
          rw [two _ _ _ _ _ rfl, fits_coarser n x x' z hx hx' hz h1.1 h2.1, fits_coarser n y y' u hy hy' hu h1.2 h2.2]
          rfl

theorem sure_fits : ∀ (n : Nat) (a b : Ty), goodY n a = true → goodY n b = true → sureY a = true → relY escFits a b = relY escFiner a b
  | 0, a, b, h, _ => by simp [goodY] at h
  | n + 1, a, b, ha, hb => by
    intro hs
    rcases goodY_cases ha with ⟨ka, rfl, _⟩ | ⟨x, y, rfl, hx, hy⟩
    · have k0 : ka ≠ 0 := by simpa [sureY_mk] using hs
      have k1 : (ka == 0) = false := by simpa using k0
      rcases goodY_cases hb with ⟨kb, rfl, _⟩ | ⟨x', y', rfl, hx', hy'⟩
      · simp [relY_mk, relL, escFits, escFiner, k1]
      · simp [relY_mk, relL, escFits, escFiner, k0]
    · rcases goodY_cases hb with ⟨kb, rfl, _⟩ | ⟨x', y', rfl, hx', hy'⟩
      · simp [relY_mk, relL, escFits, escFiner]
      · have hs' : sureY x = true ∧ sureY y = true := by simpa [sureY_mk] using hs
        rw [two _ _ _ _ _ rfl, two _ _ _ _ _ rfl, sure_fits n x x' hx hx' hs'.1, sure_fits n y y' hy hy' hs'.2]

theorem finer_trans : ∀ (n : Nat) (a b c : Ty), goodY n a = true → goodY n b = true → goodY n c = true → relY escFiner a b = true → relY escFiner b c = true → relY escFiner a c = true
  | 0, a, b, c, h, _, _ => by simp [goodY] at h
  | n + 1, a, b, c, ha, hb, hc => by
    intro h1 h2
    rcases goodY_cases hc with ⟨k, rfl, hk⟩ | ⟨z, u, rfl, hz, hu⟩
    · by_cases k0 : k = 0
      · subst k0; exact any_coarser _ _
      · rcases goodY_cases hb with ⟨kb, rfl, hkb⟩ | ⟨x', y', rfl, hx', hy'⟩
        · simp [relY_mk, relL, escFiner, k0] at h2
          subst h2
          exact h1
        · simp [relY_mk, relL, escFiner, k0] at h2
    · rcases goodY_cases hb with ⟨kb, rfl, hkb⟩ | ⟨x', y', rfl, hx', hy'⟩
      · simp [relY_mk, relL, escFiner] at h2
      · rcases goodY_cases ha with ⟨ka, rfl, hka⟩ | ⟨x, y, rfl, hx, hy⟩
        · simp [relY_mk, relL, escFiner] at h1
        · rw [two _ _ _ _ _ rfl, Bool.and_eq_true] at h1 h2
          rw [two _ _ _ _ _ rfl, finer_trans n x x' z hx hx' hz h1.1 h2.1, finer_trans n y y' u hy hy' hu h1.2 h2.2]
          rfl

theorem finer_both : ∀ (n : Nat) (a b : Ty), goodY n a = true → goodY n b = true → relY escFiner a b = true → relY escFiner b a = true → relY escSame a b = true
  | 0, a, b, h, _ => by simp [goodY] at h
  | n + 1, a, b, ha, hb => by
    intro h1 h2
    rcases goodY_cases ha with ⟨ka, rfl, hka⟩ | ⟨x, y, rfl, hx, hy⟩
    · rcases goodY_cases hb with ⟨kb, rfl, hkb⟩ | ⟨x', y', rfl, hx', hy'⟩
      · simp [relY_mk, relL, escFiner] at h1 h2
        simp [relY_mk, relL, escSame]
        omega
      · simp [relY_mk, relL, escFiner] at h1
    · rcases goodY_cases hb with ⟨kb, rfl, hkb⟩ | ⟨x', y', rfl, hx', hy'⟩
      · simp [relY_mk, relL, escFiner] at h2
      · rw [two _ _ _ _ _ rfl, Bool.and_eq_true] at h1 h2
        rw [two _ _ _ _ _ rfl, finer_both n x x' hx hx' h1.1 h2.1, finer_both n y y' hy hy' h1.2 h2.2]
        rfl
end Go.Proofs.YtnddkmccagiclaaGreatDoor
