/-
  What the call of chaperoneref.FinerOf answers at two trees that lie in memory.
-/
import Derived.Test.YtaaplpcpifdnfaaRefSame
import Derived.Deep.LoopGhost
namespace Go.Proofs.Ytaaplpcpifdnfaa
open Go.RowKit

/-- One kind, and parts that go together. -/
def coreY (esc : Int → Int → Bool) (x y : Tr) : Bool := x.k == y.k && relL esc (x.l.map Tr.ty) (y.l.map Tr.ty)

theorem relY_core (esc : Int → Int → Bool) (x y : Tr) : relY esc x.ty y.ty = (esc x.k y.k || coreY esc x y) := by
  obtain ⟨k, a, c, l⟩ := x
  obtain ⟨k', a', c', l'⟩ := y
  rw [Tr.ty_mk, Tr.ty_mk, relY_mk]
  rfl

theorem core_top (esc : Int → Int → Bool) (x y : Tr) (ht : (x.k == y.k && (x.l.length : Int) == (y.l.length : Int)) = false) : coreY esc x y = false := by
  unfold coreY
  by_cases hk : (x.k == y.k) = true
  · rw [hk, Bool.true_and] at ht
    rw [hk, Bool.true_and]
    cases hr : relL esc (x.l.map Tr.ty) (y.l.map Tr.ty) with
    | false => rfl
    | true =>
      have := relL_len esc _ _ hr
      rw [List.length_map, List.length_map] at this
      rw [this] at ht
      simp at ht
  · have : (x.k == y.k) = false := by simpa using hk
    rw [this, Bool.false_and]

theorem core_part_not (esc : Int → Int → Bool) (x y : Tr) (j : Nat) (h : j < x.l.length) (h' : j < y.l.length) (hr : relY esc x.l[j].ty y.l[j].ty = false) : coreY esc x y = false := by
  unfold coreY
  rw [relL_not esc (x.l.map Tr.ty) (y.l.map Tr.ty) j (by simpa using h) (by simpa using h') (by simpa using hr), Bool.and_false]

theorem core_parts (esc : Int → Int → Bool) (x y : Tr) (hk : x.k = y.k) (hl : x.l.length = y.l.length) (hr : ∀ q (h : q < x.l.length) (h' : q < y.l.length), relY esc x.l[q].ty y.l[q].ty = true) : coreY esc x y = true := by
  unfold coreY
  rw [relL_all esc (x.l.map Tr.ty) (y.l.map Tr.ty) (by simpa using hl) fun j h h' => by simpa using hr j (by simpa using h) (by simpa using h')]
  simp [hk]

set_option maxHeartbeats 1000000 in
theorem finerOf_step (n : Nat) (x y : Tr) (w : World) (hx : x.In w) (hy : y.In w) (hh : x.hgt ≤ n + 1) (hs : x.sm)
    (ih : Hid (∀ (x y : Tr) (w : World), x.In w → y.In w → x.hgt ≤ n → x.sm → Calls Try.prog 20 #[.agg #[.int .i64 x.k, .slice x.a x.l.length x.c], .agg #[.int .i64 y.k, .slice y.a y.l.length y.c]] w fun e w' => e = .returned (.bool (relY escFiner x.ty y.ty)) ∧ Below w.heap.size w w')) :
    Calls Try.prog 20 #[.agg #[.int .i64 x.k, .slice x.a x.l.length x.c], .agg #[.int .i64 y.k, .slice y.a y.l.length y.c]] w fun e w' => e = .returned (.bool (relY escFiner x.ty y.ty)) ∧ Below w.heap.size w w' := by
  have hlen := hs.len
  obtain ⟨tk, htk⟩ : ∃ b, (x.k == y.k) = b := ⟨_, rfl⟩
  obtain ⟨tl, htl⟩ : ∃ b, ((x.l.length : Int) == (y.l.length : Int)) = b := ⟨_, rfl⟩
  have HK : Hid ((x.k == y.k) = tk) := htk
  have HL : Hid (((x.l.length : Int) == (y.l.length : Int)) = tl) := htl
  have p1 : ((w.alloc (.cells #[.int .i64 x.k, .slice x.a x.l.length x.c] 24)).alloc (.cells #[.int .i64 y.k, .slice y.a y.l.length y.c] 24)).cell? ⟨w.heap.size, 1, none⟩ = some (.slice x.a x.l.length x.c) := by simp [go_sem]
  have p3 : ((w.alloc (.cells #[.int .i64 x.k, .slice x.a x.l.length x.c] 24)).alloc (.cells #[.int .i64 y.k, .slice y.a y.l.length y.c] 24)).cell? ⟨w.heap.size + 1, 1, none⟩ = some (.slice y.a y.l.length y.c) := by simp [go_sem]
  have HP : Hid (((w.alloc (.cells #[.int .i64 x.k, .slice x.a x.l.length x.c] 24)).alloc (.cells #[.int .i64 y.k, .slice y.a y.l.length y.c] 24)).cell? ⟨w.heap.size, 1, none⟩ = some (.slice x.a x.l.length x.c) ∧ ((w.alloc (.cells #[.int .i64 x.k, .slice x.a x.l.length x.c] 24)).alloc (.cells #[.int .i64 y.k, .slice y.a y.l.length y.c] 24)).cell? ⟨w.heap.size + 1, 1, none⟩ = some (.slice y.a y.l.length y.c)) := ⟨p1, p3⟩
  have P0 : Hid (((w.alloc (.cells #[.int .i64 x.k, .slice x.a x.l.length x.c] 24)).alloc (.cells #[.int .i64 y.k, .slice y.a y.l.length y.c] 24)).cell? ⟨w.heap.size + 1, 0, none⟩ = some (.int .i64 y.k)) := by show _ = _; simp [go_sem]
  clear p1 p3
  have hb0 : Below w.heap.size w ((w.alloc (.cells #[.int .i64 x.k, .slice x.a x.l.length x.c] 24)).alloc (.cells #[.int .i64 y.k, .slice y.a y.l.length y.c] 24)) := ((Below.refl _ _).alloc (Nat.le_refl _) _).alloc (by simp) _
  cases tk
  · have HT : Hid ((x.k == y.k && (x.l.length : Int) == (y.l.length : Int)) = false) := by show _ = false; rw [HK.out]; rfl
    clear htl HL HK
    go_enter Try.func20, Try.ntmps20
    go_wp2_with fail
    go_loopw [5, 6] (fun b i wr => b = .bool false ∧ i = .int .i64 0 ∧ wr = ((w.alloc (.cells #[.int .i64 x.k, .slice x.a x.l.length x.c] 24)).alloc (.cells #[.int .i64 y.k, .slice y.a y.l.length y.c] 24))) (fun _ _ _ => 0)
    case atStart => exact ⟨rfl, rfl, rfl⟩
    case round =>
      obtain ⟨rfl, rfl, rfl⟩ := hrel
      go_wp2_with fail
      go_ret
      exact ⟨by rw [relY_core, core_top escFiner x y HT.out, Bool.or_false]; rfl, hb0⟩
  · cases tl
    · have HT : Hid ((x.k == y.k && (x.l.length : Int) == (y.l.length : Int)) = false) := by show _ = false; rw [HK.out, HL.out]; rfl
      clear HL HK
      go_enter Try.func20, Try.ntmps20
      go_wp2_with fail
      go_loopw [5, 6] (fun b i wr => b = .bool false ∧ i = .int .i64 0 ∧ wr = ((w.alloc (.cells #[.int .i64 x.k, .slice x.a x.l.length x.c] 24)).alloc (.cells #[.int .i64 y.k, .slice y.a y.l.length y.c] 24))) (fun _ _ _ => 0)
      case atStart => exact ⟨rfl, rfl, rfl⟩
      case round =>
        obtain ⟨rfl, rfl, rfl⟩ := hrel
        go_wp2_with fail
        go_ret
        exact ⟨by rw [relY_core, core_top escFiner x y HT.out, Bool.or_false]; rfl, hb0⟩
    · have hk : Hid (x.k = y.k) := by show x.k = y.k; have h := HK.out; simpa using h
      have hl : Hid (x.l.length = y.l.length) := by have h := HL.out; simp at h; exact Int.ofNat.inj h
      clear HL HK
      go_enter Try.func20, Try.ntmps20
      go_wp2_with fail
      clear htk htl
      go_loopg [5, 6] (x.l.length + 1) (fun g b i wr => ∃ (j : Nat) (c : Bool), j ≤ x.l.length ∧ g = (if c then x.l.length - j + 1 else 0) ∧ b = .bool c ∧ i = .int .i64 (j : Int) ∧ Below w.heap.size w wr ∧ wr.cell? ⟨w.heap.size, 1, none⟩ = some (.slice x.a x.l.length x.c) ∧ wr.cell? ⟨w.heap.size + 1, 1, none⟩ = some (.slice y.a y.l.length y.c) ∧ wr.cell? ⟨w.heap.size + 1, 0, none⟩ = some (.int .i64 y.k) ∧
        Hid (c = true → ∀ q (h : q < x.l.length) (h' : q < y.l.length), q < j → relY escFiner x.l[q].ty y.l[q].ty = true) ∧ Hid (c = false → coreY escFiner x y = false))
      case atStart => exact ⟨0, true, Nat.zero_le _, rfl, rfl, rfl, hb0, HP.out.1, HP.out.2, P0.out, fun _ q _ _ h => absurd h (by omega), fun h => by cases h⟩
      case round =>
        obtain ⟨j, c, hj, hg, rfl, rfl, hbwr, p1, p3, p0, HA, HB⟩ := hrel
        cases c
        · have HB1 : Hid (coreY escFiner x y = false) := HB.out rfl
          clear HA HB hg
          go_wp2_with fail
          go_ret
          exact ⟨by rw [relY_core, HB1.out, Bool.or_false]; rfl, hbwr⟩
        · have HA1 : Hid (∀ q (h : q < x.l.length) (h' : q < y.l.length), q < j → relY escFiner x.l[q].ty y.l[q].ty = true) := HA.out rfl
          clear HA HB
          by_cases hlt : j < x.l.length
          · have hlt' : j < y.l.length := hl.out ▸ hlt
            obtain ⟨b, o, ea, x0, x1, hxj⟩ := hx.part j hlt
            obtain ⟨b', o', eb, y0, y1, hyj⟩ := hy.part j hlt'
            have q1 : wr.cell? ⟨w.heap.size, 1, none⟩ = some (.slice (some ⟨b, o, none⟩) x.l.length x.c) := by rw [← ea]; exact p1
            have q3 : wr.cell? ⟨w.heap.size + 1, 1, none⟩ = some (.slice (some ⟨b', o', none⟩) y.l.length y.c) := by rw [← eb]; exact p3
            have HPP : Hid (wr.cell? ⟨w.heap.size, 1, none⟩ = some (.slice x.a x.l.length x.c) ∧ wr.cell? ⟨w.heap.size + 1, 1, none⟩ = some (.slice y.a y.l.length y.c)) := ⟨p1, p3⟩
            replace x0 := cell_later hbwr x0
            replace x1 := cell_later hbwr x1
            replace y0 := cell_later hbwr y0
            replace y1 := cell_later hbwr y1
            have i1 : (j : Int) < (x.l.length : Int) := by omega
            have i2 : (j : Int) < (y.l.length : Int) := by omega
            have i0 : (0 : Int) ≤ (j : Int) := by omega
            obtain ⟨r, hr⟩ : ∃ r, relY escFiner x.l[j].ty y.l[j].ty = r := ⟨_, rfl⟩
            have HC : Hid (∀ (w : World), x.l[j].In w → y.l[j].In w → Calls Try.prog 20 #[.agg #[.int .i64 x.l[j].k, .slice x.l[j].a x.l[j].l.length x.l[j].c], .agg #[.int .i64 y.l[j].k, .slice y.l[j].a y.l[j].l.length y.l[j].c]] w fun e w' => e = .returned (.bool r) ∧ Below w.heap.size w w') := by
              intro w h1 h2
              have := ih.out x.l[j] y.l[j] w h1 h2 (Tr.hgt_part hh j hlt) (hs.part j hlt)
              rw [hr] at this
              exact this
            have HR : Hid (relY escFiner x.l[j].ty y.l[j].ty = r) := hr
            have HG : Hid (gk = if true then x.l.length - j + 1 else 0) := hg
            clear hr p1 p3 ea eb hx hy hg
            go_wp2_with fail
            go_region_held3 (fun w' => w'.cell? ⟨w.heap.size, 1, none⟩ = some (.slice (some ⟨b, o, none⟩) x.l.length x.c) ∧ w'.cell? ⟨w.heap.size + 1, 1, none⟩ = some (.slice (some ⟨b', o', none⟩) y.l.length y.c) ∧ w'.cell? ⟨b, o + j * 2, none⟩ = some (.int .i64 x.l[j].k) ∧ w'.cell? ⟨b, o + j * 2 + 1, none⟩ = some (.slice x.l[j].a x.l[j].l.length x.l[j].c) ∧ w'.cell? ⟨b', o' + j * 2, none⟩ = some (.int .i64 y.l[j].k) ∧ w'.cell? ⟨b', o' + j * 2 + 1, none⟩ = some (.slice y.l[j].a y.l[j].l.length y.l[j].c))
              (first | exact ⟨cell_later hb2 q1, cell_later hb2 q3, cell_later hb2 x0, cell_later hb2 x1, cell_later hb2 y0, cell_later hb2 y1⟩ | go_keep)
              (first | (go_at_call 20; refine (HC.out _ (hxj.below hbwr.drew) (hyj.below hbwr.drew)).mono ?_; rintro e w2 ⟨rfl, hb2⟩))
            have hbr2 : Below w.heap.size w w2 := hbwr.drew.trans (hb2.mono hbwr.size)
            have s1 := cell_later hb2 HPP.out.1
            have s3 := cell_later hb2 HPP.out.2
            have s0 := cell_later hb2 p0
            clear hb2 q1 q3 x0 x1 y0 y1 HC HPP
            go_wp2_with fail
            go_roundg (if r then x.l.length - (j + 1) + 1 else 0)
            case measure => rw [HG.out]; cases r <;> simp <;> omega
            case rel =>
              refine ⟨j + 1, r, by omega, rfl, rfl, by go_num, hbr2, s1, s3, s0, fun h q h1 h2 hq => ?_, fun h => ?_⟩
              · by_cases e : q = j
                · subst e; rw [HR.out, h]
                · exact HA1.out q h1 h2 (by omega)
              · exact core_part_not escFiner x y j hlt hlt' (by rw [HR.out, h])
          · go_wp2_with fail
            go_ret
            refine ⟨?_, hbwr⟩
            rw [relY_core, core_parts escFiner x y hk.out hl.out fun q h h' => HA1.out q h h' (by omega), Bool.or_true]
            rfl

/-- chaperoneref.FinerOf. -/
theorem finerOf_any (n : Nat) : ∀ (x y : Tr) (w : World), x.In w → y.In w → x.hgt ≤ n → x.sm → Calls Try.prog 20 #[.agg #[.int .i64 x.k, .slice x.a x.l.length x.c], .agg #[.int .i64 y.k, .slice y.a y.l.length y.c]] w fun e w' => e = .returned (.bool (relY escFiner x.ty y.ty)) ∧ Below w.heap.size w w' := by
  induction n with
  | zero =>
    intro x y w _ _ h
    have := x.hgt_pos
    omega
  | succ n ih =>
    intro x y w hx hy h hs
    exact finerOf_step n x y w hx hy h hs (fun x y w hx hy h hs => ih x y w hx hy h hs)
end Go.Proofs.Ytaaplpcpifdnfaa
