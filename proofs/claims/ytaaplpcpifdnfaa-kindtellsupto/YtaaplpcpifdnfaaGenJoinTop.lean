/-
  What the call of kind.Join answers at two right trees of not too many nodes.
-/
import Derived.Test.YtaaplpcpifdnfaaGenJoin
namespace Go.Proofs.Ytaaplpcpifdnfaa
open Go.RowKit

theorem TodoJ.start {R B rb : Nat} {x y : Tr} {w W0 w1 : World} {o : Option Nat} (hR : rb < R) (hl : Lst R [⟨x, y, some ⟨rb, 0, none⟩⟩] o w1) (hz : x.sz ≤ 1000000000) (hx : x.At B w) (hy : y.At B w) (rx : x.right) (ry : y.right) (c0 : w1.cell? ⟨rb, 0, none⟩ = some (.int .i64 0)) (c1 : w1.cell? ⟨rb, 1, none⟩ = some (.slice none 0 0)) (f0 : w1.frozen? ⟨rb, 0, none⟩ = false) (f1 : w1.frozen? ⟨rb, 1, none⟩ = false) (hb : Below rb W0 w1) :
    TodoJ R B rb (joinY x.ty y.ty) w W0 x.sz [⟨x, y, some ⟨rb, 0, none⟩⟩] o (Two rb 0) w1 := by
  refine ⟨hl, szs_one _, hz, fun q hq => ?_, List.pairwise_singleton _ _, ?_, fun W _ hf => ?_, hb⟩
  · rcases List.mem_singleton.1 hq with rfl
    exact ⟨⟨hx, rx⟩, ⟨hy, ry⟩, rb, 0, rfl, ⟨rfl, .inl rfl⟩, ⟨rfl, .inr rfl⟩, c0, c1, f0, f1⟩
  · rintro k c ⟨rfl, _⟩
    have := hl.lt
    refine ⟨Nat.le_refl _, by omega, by omega, fun e => ?_⟩
    have := hl.own k e.symm
    omega
  · obtain ⟨b, i, e, h⟩ := hf _ (List.mem_singleton.2 rfl)
    cases e
    exact h

set_option maxHeartbeats 1000000 in
/-- kind.Join. -/
theorem join_wholeG (x y : Tr) (w : World) (hx : x.In w) (hy : y.In w) (rx : x.right) (ry : y.right) (hz : x.sz ≤ 100000000) :
    Calls Try.prog 21 #[.agg #[.int .i64 x.k, .slice x.a x.l.length x.c], .agg #[.int .i64 y.k, .slice y.a y.l.length y.c]] w fun e w' => ∃ t : Tr, e = .returned (.agg #[.int .i64 t.k, .slice t.a t.l.length t.c]) ∧ t.ty = joinY x.ty y.ty ∧ t.In w' ∧ Below w.heap.size w w' := by
  have HX : Hid (x.At w.heap.size w) := ⟨hx, hx.bl⟩
  have HY : Hid (y.At w.heap.size w) := ⟨hy, hy.bl⟩
  have HZ : Hid (x.sz ≤ 100000000) := hz
  have HRX : Hid x.right := rx
  have HRY : Hid y.right := ry
  obtain ⟨T, hT⟩ : ∃ T, T = joinY x.ty y.ty := ⟨_, rfl⟩
  have HTT : Hid (T = joinY x.ty y.ty) := hT
  clear hx hy hz rx ry hT
  go_enter Try.func21, Try.ntmps21
  go_wp2_with fail
  obtain ⟨W0, hW0⟩ : ∃ W0, W0 = (((w.alloc (Obj.cells #[.int .i64 x.k, .slice x.a x.l.length x.c] 24)).alloc (Obj.cells #[.int .i64 y.k, .slice y.a y.l.length y.c] 24)).alloc (Obj.cells #[.int .i64 0, .slice none 0 0] 24)) := ⟨_, rfl⟩
  have hs0 : W0.heap.size = w.heap.size + 1 + 1 + 1 := by rw [hW0]; simp
  have hbw0 : Below w.heap.size w W0 := by rw [hW0]; exact (((Below.refl _ _).alloc (Nat.le_refl _) _).alloc (by simp) _).alloc (by simp; omega) _
  have r0 : W0.cell? ⟨w.heap.size + 1 + 1, 0, none⟩ = some (.int .i64 0) := by rw [hW0]; simp [go_sem]
  have r1 : W0.cell? ⟨w.heap.size + 1 + 1, 1, none⟩ = some (.slice none 0 0) := by rw [hW0]; simp [go_sem]
  have r2 : ∀ o, W0.frozen? ⟨w.heap.size + 1 + 1, o, none⟩ = false := by intro o; rw [hW0]; simp [go_sem]
  rw [← hW0]
  clear hW0
  have u0 : ((W0.alloc (Obj.cells #[.int .i64 0, .slice none 0 0] 24)).alloc (Obj.cells #[.slice none 0 0] 37)).cell? ⟨w.heap.size + 1 + 1 + 1, 0, none⟩ = some (.int .i64 0) := by rw [← hs0]; simp [go_sem]
  have u1 : ((W0.alloc (Obj.cells #[.int .i64 0, .slice none 0 0] 24)).alloc (Obj.cells #[.slice none 0 0] 37)).cell? ⟨w.heap.size + 1 + 1 + 1, 1, none⟩ = some (.slice none 0 0) := by rw [← hs0]; simp [go_sem]
  have u2 : ∀ o, ((W0.alloc (Obj.cells #[.int .i64 0, .slice none 0 0] 24)).alloc (Obj.cells #[.slice none 0 0] 37)).frozen? ⟨w.heap.size + 1 + 1 + 1, o, none⟩ = false := by intro o; rw [← hs0]; simp [go_sem]
  refine (put_lst (w.heap.size + 1 + 1 + 1 + 1) [] none ⟨x, y, some ⟨w.heap.size + 1 + 1 + 1, 0, none⟩⟩ _ ⟨⟨.slice none 0 0, by rw [← hs0]; simp [go_sem], World.ownsRow_nil _ _ _ _, rfl⟩, by rw [← hs0]; simp [go_sem]⟩ (by simp)).mono ?_
  rintro e w1 ⟨rfl, o1, hl1, _, hk1⟩
  have hblk := hk1.below (r := w.heap.size + 1 + 1 + 1 + 1) (fun g e => by cases e) (by simp [hs0])
  have hb1 : Below (w.heap.size + 1 + 1 + 1) W0 w1 := by
    have h' : Below W0.heap.size W0 ((W0.alloc (Obj.cells #[.int .i64 0, .slice none 0 0] 24)).alloc (Obj.cells #[.slice none 0 0] 37)) := ((Below.refl _ _).alloc (Nat.le_refl _) _).alloc (by simp) _
    rw [hs0] at h'
    exact h'.trans (hblk.mono (by omega))
  have HO : Hid (TodoJ (w.heap.size + 1 + 1 + 1 + 1) w.heap.size (w.heap.size + 1 + 1 + 1) T w W0 x.sz [⟨x, y, some ⟨w.heap.size + 1 + 1 + 1, 0, none⟩⟩] o1 (Two (w.heap.size + 1 + 1 + 1) 0) w1) := by
    rw [HTT.out]
    exact TodoJ.start (by omega) hl1 (by have := HZ.out; omega) HX.out HY.out HRX.out HRY.out ((hblk.cell (p := ⟨w.heap.size + 1 + 1 + 1, 0, none⟩) (by simp)).trans u0) ((hblk.cell (p := ⟨w.heap.size + 1 + 1 + 1, 1, none⟩) (by simp)).trans u1) ((hblk.frozen (p := ⟨w.heap.size + 1 + 1 + 1, 0, none⟩) (by simp)).trans (u2 0)) ((hblk.frozen (p := ⟨w.heap.size + 1 + 1 + 1, 1, none⟩) (by simp)).trans (u2 1)) hb1
  clear hl1 hk1 u0 u1 u2 hblk hb1
  have HR0 : Hid (W0.cell? ⟨w.heap.size + 1 + 1, 0, none⟩ = some (.int .i64 0) ∧ W0.cell? ⟨w.heap.size + 1 + 1, 1, none⟩ = some (.slice none 0 0) ∧ ∀ o, W0.frozen? ⟨w.heap.size + 1 + 1, o, none⟩ = false) := ⟨r0, r1, r2⟩
  have HS0 : Hid (W0.heap.size = w.heap.size + 1 + 1 + 1) := hs0
  clear r0 r1 r2 hs0
  go_wp2_with fail
  go_loopg [] x.sz (fun k wr => ∃ qs o D, Hid (TodoJ (w.heap.size + 1 + 1 + 1 + 1) w.heap.size (w.heap.size + 1 + 1 + 1) T w W0 k qs o D wr))
  case atStart => exact ⟨_, _, _, HO⟩
  case round =>
    clear HO
    obtain ⟨qs, o, D, HT⟩ := hrel
    have hbwr : Below w.heap.size w wr := hbw0.trans (HT.out.b.mono (by omega))
    have hlr := HT.out.l.lt
    rcases List.eq_nil_or_concat qs with rfl | ⟨us, q, rfl⟩
    · go_wp2_with fail
      refine (empty_yes (w.heap.size + 1 + 1 + 1 + 1) o _ HT.out.l).mono ?_
      rintro e w' ⟨rfl, rfl⟩
      obtain ⟨t, ht, hin, hbl, t0, t1⟩ := HT.out.v w' (fun _ _ _ _ => rfl) (fun h hh => by cases hh)
      have v0 := (HT.out.b.cell (p := ⟨w.heap.size + 1 + 1, 0, none⟩) (by simp)).trans HR0.out.1
      have v1 := (HT.out.b.cell (p := ⟨w.heap.size + 1 + 1, 1, none⟩) (by simp)).trans HR0.out.2.1
      have v2 := (HT.out.b.frozen (p := ⟨w.heap.size + 1 + 1, 0, none⟩) (by simp)).trans (HR0.out.2.2 0)
      have v3 := (HT.out.b.frozen (p := ⟨w.heap.size + 1 + 1, 1, none⟩) (by simp)).trans (HR0.out.2.2 1)
      have HT2 : Hid (t.ty = joinY x.ty y.ty) := ht.trans HTT.out
      clear ht HT
      go_wp2_with fail
      refine bodyPost_ret (v := .agg #[.int .i64 t.k, .slice t.a t.l.length t.c]) ?_ rfl ⟨t, rfl, HT2.out, set_keeps hin (hbl.mono fun b hb => by omega), (hbwr.setCell (by simp; omega) _).setCell (by simp; omega) _⟩
      have hh := set_cells (u := .int .i64 t.k) (v := .slice t.a t.l.length t.c) v0 v1
      simp [results, Try.results21, go_sem, hh.1, hh.2]
    · rw [List.concat_eq_append] at HT
      go_wp2_with fail
      refine (empty_no (w.heap.size + 1 + 1 + 1 + 1) us q o _ HT.out.l).mono ?_
      rintro e w' ⟨rfl, rfl⟩
      have hus : us.length + q.x.sz ≤ 1000000000 := by
        have h1 := szs_len us
        have h2 := HT.out.s
        have h3 := HT.out.z
        rw [szs_append, szs_one] at h2
        omega
      go_wp2_with fail
      refine (take_lst (w.heap.size + 1 + 1 + 1 + 1) us q o _ HT.out.l (by omega)).mono ?_
      rintro e w2 ⟨rfl, hl2, hk2⟩
      obtain ⟨⟨ax, rx⟩, ⟨ay, ry⟩, b, i, hpe, d0, d1, c0, c1, f0, f1⟩ := HT.out.q q (by simp)
      have hlow : Below (w.heap.size + 1 + 1 + 1 + 1) w' w2 := hk2.below (fun g e => by cases e) (by omega)
      have hdb := HT.out.d _ _ d0
      have hblk := hk2.block b hdb.2.1 hdb.2.2.1 (by simp)
      have HP : Hid (JPre (w.heap.size + 1 + 1 + 1 + 1) w.heap.size b i us o w2) :=
        ⟨hl2, (World.cell?_of_block (a := ⟨b, i, none⟩) hblk).trans c0, (World.cell?_of_block (a := ⟨b, i + 1, none⟩) hblk).trans c1, (World.frozen?_of_block (a := ⟨b, i, none⟩) hblk).trans f0, (World.frozen?_of_block (a := ⟨b, i + 1, none⟩) hblk).trans f1, hdb.2.2.1, hdb.2.2.2, by omega, by omega⟩
      have hb2 : Below w.heap.size w w2 := hbwr.trans (hlow.mono (by omega))
      have HC : Hid (Calls Try.prog 36 #[.agg #[.int .i64 q.x.k, .slice q.x.a q.x.l.length q.x.c, .int .i64 q.y.k, .slice q.y.a q.y.l.length q.y.c, .pointer (some ⟨b, i, none⟩)], .int .i64 1000, .pointer (some ⟨w.heap.size + 1 + 1 + 1 + 1, 0, none⟩)] w2 (JPost (w.heap.size + 1 + 1 + 1 + 1) w.heap.size 1000 q.x q.y b i us o w2)) :=
        join_anyG _ _ 1000 (Nat.le_refl _) q.x q.y us o b i w2 HP.out (ax.below hb2) (ay.below hb2) rx ry hus
      have HK2 : Hid (Kept (w.heap.size + 1 + 1 + 1 + 1) none w' w2 ∧ Lst (w.heap.size + 1 + 1 + 1 + 1) us o w2 ∧ q.p = some ⟨b, i, none⟩) := ⟨hk2, hl2, hpe⟩
      rw [hpe]
      clear hl2 hk2 ax rx ay ry hpe d0 d1 c0 c1 f0 f1 hlow hdb hblk hb2 HP
      go_wp2_with fail
      refine HC.out.mono ?_
      rintro e w5 ⟨rfl, qs, o2, D2, hj5⟩
      have HF : Hid (TodoJ (w.heap.size + 1 + 1 + 1 + 1) w.heap.size (w.heap.size + 1 + 1 + 1) T w W0 (szs (us ++ qs)) (us ++ qs) o2 (fun k c => D k c ∨ D2 k c) w5 ∧ szs (us ++ qs) < gk) :=
        TodoJ.step (n := 999) HT.out (by omega) (by omega) hbw0 HK2.out.2.2 HK2.out.1 HK2.out.2.1 hj5
      clear hj5 HC HK2 HT
      go_wp2_with fail
      go_roundg (szs (us ++ qs))
      case measure => exact HF.out.2
      case rel => exact ⟨_, _, _, HF.out.1⟩
end Go.Proofs.Ytaaplpcpifdnfaa
