/-
  What the call of check's Erase answers: a term without casts and types.
-/
import Derived.Test.YtnddkmccagiclaaDoorLota7b413de0b
import Derived.Deep.DeepCutAuto
import Derived.Deep.RegionHeld3
import Derived.Deep.RegionLaw
import Derived.Test.YtnddkmccagiclaaDoorLot332df9f803
import Derived.Test.YtnddkmccagiclaaDoorLote54be471a2
import Derived.Test.YtnddkmccagiclaaDoorLot03e384e275
import Derived.Test.YtnddkmccagiclaaDoorLot7570b2d23b
namespace Go.Proofs.YtnddkmccagiclaaDoor
open Go.RowKit
theorem Tryd.info76 : (Tryd.prog.info? 76).map (fun i => (i.zero, i.size, i.bytes)) = some (some (.agg #[.int .i64 0, .int .i64 0, .int .i64 0, .slice none 0 0, .int .i64 0, .slice none 0 0, .slice none 0 0, .pointer none]), 8, 112) := by kernel_rfl
def massH (hs : List Ho) : Nat := (hs.map fun h => h.p.sz).sum
theorem massH_len (hs : List Ho) : hs.length ≤ massH hs := by
  induction hs with
  | nil => simp
  | cons p r ih => have := p.p.sz_pos; simp only [massH, List.map_cons, List.sum_cons, List.length_cons] at ih ⊢; omega
theorem massH_kids (g : Nat) (l : List TT) : massH (kidsH g l) = (l.map TT.sz).sum := by
  have : (kidsH g l).map (fun h => h.p.sz) = l.map TT.sz := by
    apply List.ext_getElem
    · simp [kidsH_length]
    · intro j h1 h2
      have hj : j < l.length := by simpa using h2
      simp only [List.getElem_map]
      rw [kidsH_at g l j (by rw [kidsH_length]; exact hj) hj]
  rw [massH, this]
theorem kidsH_snoc (g : Nat) (l : List TT) (j : Nat) (h : j < l.length) : (kidsH g l).take (j + 1) = (kidsH g l).take j ++ [⟨l[j], g, j⟩] := by
  rw [take_snoc _ _ (by rw [kidsH_length]; exact h), kidsH_at g l j (by rw [kidsH_length]; exact h) h]
theorem Open7.new (w : World) (n j : Nat) (h : j < n) : Open7 (w.alloc (.cells (madeCells #[.int .i64 0, .int .i64 0, .int .i64 0, .slice none 0 0, .int .i64 0, .slice none 0 0, .slice none 0 0] (n * 7)) 27)) w.heap.size j := fun i hi => by
  have hs : j * 7 + i < (madeCells #[.int .i64 0, .int .i64 0, .int .i64 0, .slice none 0 0, .int .i64 0, .slice none 0 0, .slice none 0 0] (n * 7)).size := by rw [size_madeCells]; omega
  exact ⟨⟨(madeCells #[.int .i64 0, .int .i64 0, .int .i64 0, .slice none 0 0, .int .i64 0, .slice none 0 0, .slice none 0 0] (n * 7))[j * 7 + i], by simp [go_sem, hs]⟩, by simp [go_sem]⟩
/-- While the parts are put behind. -/
structure EN (B g0 : Nat) (us ks : List Ho) (W4 : World) (v : Value) (j : Nat) (W : World) : Prop where
  own : W.ownsRow B 76 8 v (us ++ ks.take j).length (cells8 (us ++ ks.take j))
  low : Below B W4 W
  fr : ∀ b, b < W4.heap.size → b ≠ g0 → W.heap[b]? = W4.heap[b]?
  ob : ∀ b, v.ownBlock = some b → b = g0 ∨ W4.heap.size ≤ b
  sz : W4.heap.size ≤ W.heap.size
theorem EN.push {B g0 N cap1 gg : Nat} {us ks : List Ho} {W4 W W3 : World} {v : Value} {j : Nat} {k : Ho} {X Y : Obj} {xs : List Value} (e : EN B g0 us ks W4 v j W) (hB : B ≤ W4.heap.size) (hks : ks.take (j + 1) = ks.take j ++ [k]) (hN : (us ++ ks.take j).length = N) (hxs : cells8 (us ++ ks.take j) = xs)
    (hown : W3.ownsRow B 76 8 (.slice (some ⟨gg, 0, none⟩) (N + 1) cap1) (N + 1) (xs ++ cell8 k)) (hgrow : (((W.alloc X).alloc Y).drew).grownBy W3 v.ownBlock) (hat : v.ownBlock = some gg ∨ gg = W.heap.size + 1 + 1) : EN B g0 us ks W4 (.slice (some ⟨gg, 0, none⟩) (N + 1) cap1) (j + 1) W3 := by
  have hs := hgrow.size
  have hs0 : (((W.alloc X).alloc Y).drew).heap.size = W.heap.size + 1 + 1 := by simp
  have hblk : ∀ b, b < W.heap.size → some b ≠ v.ownBlock → W3.heap[b]? = W.heap[b]? := fun b hb hn => by
    rw [hgrow.block b (by omega) hn]
    have h1 : Below W.heap.size W (((W.alloc X).alloc Y).drew) := (((Below.refl _ W).alloc (Nat.le_refl _) X).alloc (by simp) Y).drew
    exact h1.block b hb
  have hsz := e.sz
  refine ⟨?_, ?_, fun b hb hn => ?_, fun b hb => ?_, by omega⟩
  · rw [hks, ← List.append_assoc, List.length_append, List.length_singleton, cells8_append, cells8_one, hN, hxs]
    exact hown
  · refine ⟨(hgrow.os.trans rfl).trans e.low.os, (hgrow.tape.trans rfl).trans e.low.tape, (hgrow.output.trans rfl).trans e.low.output, by omega, fun b hb => ?_⟩
    refine (hblk b (by omega) fun e2 => ?_).trans (e.low.block b hb)
    have := (e.own.lt b e2.symm).1
    omega
  · refine (hblk b (by omega) fun e2 => ?_).trans (e.fr b hb hn)
    rcases e.ob b e2.symm with h | h
    · exact hn h
    · omega
  · have hb' : gg = b := Option.some.inj hb
    rcases hat with h | h
    · exact e.ob b (by rw [← hb']; exact h)
    · omega
set_option maxRecDepth 20000 in
set_option maxHeartbeats 16000000 in
/-- Erase. -/
theorem erase_any (x : TT) (w : World) (hx : x.In w) (hsz : x.sz ≤ 1000) :
    Calls Tryd.prog 20 #[.agg #[.int .i64 x.k, .int .i64 x.n, .int .i64 x.t.k, .slice x.t.a x.t.l.length x.t.c, .int .i64 x.f.k, .slice x.f.a x.f.l.length x.f.c, .slice x.a x.l.length x.c]] w fun e w' => ∃ y : TT, e = .returned (.agg #[.int .i64 y.k, .int .i64 y.n, .int .i64 y.t.k, .slice y.t.a y.t.l.length y.t.c, .int .i64 y.f.k, .slice y.f.a y.f.l.length y.f.c, .slice y.a y.l.length y.c]) ∧ y.In w' ∧ y.tm = eraseM x.tm ∧ Below w.heap.size w w' := by
  obtain ⟨i0, hi0, hz0, hz1, hz2⟩ := info_parts Tryd.info27c
  obtain ⟨j0, hj0, hy0, hy1, hy2⟩ := info_parts Tryd.info76
  obtain ⟨W1, hW1⟩ : ∃ W1, W1 = ((((w.alloc (.cells #[.int .i64 x.k, .int .i64 x.n, .int .i64 x.t.k, .slice x.t.a x.t.l.length x.t.c, .int .i64 x.f.k, .slice x.f.a x.f.l.length x.f.c, .slice x.a x.l.length x.c] 27)).alloc (.cells #[.int .i64 0, .int .i64 0, .int .i64 0, .slice none 0 0, .int .i64 0, .slice none 0 0, .slice none 0 0] 27)).alloc (.cells #[.int .i64 0, .int .i64 0, .int .i64 0, .slice none 0 0, .int .i64 0, .slice none 0 0, .slice none 0 0] 27)).alloc (.cells #[.int .i64 x.k, .int .i64 x.n, .int .i64 x.t.k, .slice x.t.a x.t.l.length x.t.c, .int .i64 x.f.k, .slice x.f.a x.f.l.length x.f.c, .slice x.a x.l.length x.c, .pointer (some ⟨(w.heap.size + 1 + 1), 0, none⟩)] 76)) := ⟨_, rfl⟩
  have hb1 : Below w.heap.size w W1 := by rw [hW1]; exact ((((Below.refl _ _).alloc (Nat.le_refl _) _).alloc (by simp) _).alloc (by simp; omega) _).alloc (by simp; omega) _
  have hs1 : W1.heap.size = w.heap.size + 1 + 1 + 1 + 1 := by rw [hW1]; simp
  have hz1' : ZB7 W1 (w.heap.size + 1) := by
    rw [hW1]
    refine ⟨⟨?_, ?_, ?_, ?_, ?_, ?_, ?_⟩, ?_, ?_, ?_, ?_, ?_, ?_, ?_⟩ <;> simp [go_sem]
  obtain ⟨B, hB⟩ : ∃ B, (w.heap.size + 1 + 1) = B := ⟨_, rfl⟩
  have HL : Hid (EI B (eraseM x.tm) (w.heap.size + 1 + 1) (.slice (some ⟨w.heap.size + 1 + 1 + 1, 0, none⟩) 1 1) [⟨x, B, 0⟩] (fun b => b = B) W1 ∧ Below B W1 W1 ∧ massH [⟨x, B, 0⟩] ≤ 1000 ∧ B ≤ W1.heap.size) := by
    have hh := heap_alloc_new (((w.alloc (.cells #[.int .i64 x.k, .int .i64 x.n, .int .i64 x.t.k, .slice x.t.a x.t.l.length x.t.c, .int .i64 x.f.k, .slice x.f.a x.f.l.length x.f.c, .slice x.a x.l.length x.c] 27)).alloc (.cells #[.int .i64 0, .int .i64 0, .int .i64 0, .slice none 0 0, .int .i64 0, .slice none 0 0, .slice none 0 0] 27)).alloc (.cells #[.int .i64 0, .int .i64 0, .int .i64 0, .slice none 0 0, .int .i64 0, .slice none 0 0, .slice none 0 0] 27)) (.cells #[.int .i64 x.k, .int .i64 x.n, .int .i64 x.t.k, .slice x.t.a x.t.l.length x.t.c, .int .i64 x.f.k, .slice x.f.a x.f.l.length x.f.c, .slice x.a x.l.length x.c, .pointer (some ⟨(w.heap.size + 1 + 1), 0, none⟩)] 76)
    rw [← hW1] at hh
    simp only [World.size_alloc] at hh
    have hopn : Open7 W1 B 0 := by
      intro i hi
      obtain rfl | rfl | rfl | rfl | rfl | rfl | rfl : i = 0 ∨ i = 1 ∨ i = 2 ∨ i = 3 ∨ i = 4 ∨ i = 5 ∨ i = 6 := by omega
      all_goals exact ⟨⟨_, by rw [hW1, ← hB]; simp [go_sem]; rfl⟩, by rw [hW1, ← hB]; simp [go_sem]⟩
    refine ⟨⟨⟨rfl, .inr ⟨_, 1, _, rfl, by omega, hh, Nat.le_refl _, by unfold maxLen; omega, rfl, ?_⟩⟩, ?_, ?_, by simp, ?_⟩, Below.refl _ _, by simpa [massH] using hsz, by omega⟩
    · simp [cells8, cell8, hB]
    · rintro b rfl
      exact ⟨Nat.le_refl _, by omega, fun e => by have := Option.some.inj e; simp at this; omega⟩
    · intro h hh
      rcases List.mem_singleton.1 hh with rfl
      exact ⟨⟨hx.below hb1, hx.bl.mono fun b h => by omega⟩, rfl, hopn⟩
    · intro w' _ hL
      have := hL ⟨x, B, 0⟩ (by simp)
      rw [hB]
      exact this
  have HX : Hid (Below w.heap.size w W1 ∧ W1.heap.size = w.heap.size + 1 + 1 + 1 + 1 ∧ ZB7 W1 (w.heap.size + 1) ∧ (w.heap.size + 1 + 1) = B) := ⟨hb1, hs1, hz1', hB⟩
  have r0 : (((w.alloc (.cells #[.int .i64 x.k, .int .i64 x.n, .int .i64 x.t.k, .slice x.t.a x.t.l.length x.t.c, .int .i64 x.f.k, .slice x.f.a x.f.l.length x.f.c, .slice x.a x.l.length x.c] 27)).alloc (.cells #[.int .i64 0, .int .i64 0, .int .i64 0, .slice none 0 0, .int .i64 0, .slice none 0 0, .slice none 0 0] 27)).alloc (.cells #[.int .i64 0, .int .i64 0, .int .i64 0, .slice none 0 0, .int .i64 0, .slice none 0 0, .slice none 0 0] 27)).cell? ⟨w.heap.size, 0, none⟩ = some (.int .i64 x.k) := by simp [go_sem]
  have r1 : (((w.alloc (.cells #[.int .i64 x.k, .int .i64 x.n, .int .i64 x.t.k, .slice x.t.a x.t.l.length x.t.c, .int .i64 x.f.k, .slice x.f.a x.f.l.length x.f.c, .slice x.a x.l.length x.c] 27)).alloc (.cells #[.int .i64 0, .int .i64 0, .int .i64 0, .slice none 0 0, .int .i64 0, .slice none 0 0, .slice none 0 0] 27)).alloc (.cells #[.int .i64 0, .int .i64 0, .int .i64 0, .slice none 0 0, .int .i64 0, .slice none 0 0, .slice none 0 0] 27)).cell? ⟨w.heap.size, 1, none⟩ = some (.int .i64 x.n) := by simp [go_sem]
  have r2 : (((w.alloc (.cells #[.int .i64 x.k, .int .i64 x.n, .int .i64 x.t.k, .slice x.t.a x.t.l.length x.t.c, .int .i64 x.f.k, .slice x.f.a x.f.l.length x.f.c, .slice x.a x.l.length x.c] 27)).alloc (.cells #[.int .i64 0, .int .i64 0, .int .i64 0, .slice none 0 0, .int .i64 0, .slice none 0 0, .slice none 0 0] 27)).alloc (.cells #[.int .i64 0, .int .i64 0, .int .i64 0, .slice none 0 0, .int .i64 0, .slice none 0 0, .slice none 0 0] 27)).cell? ⟨w.heap.size, 2, none⟩ = some (.int .i64 x.t.k) := by simp [go_sem]
  have r3 : (((w.alloc (.cells #[.int .i64 x.k, .int .i64 x.n, .int .i64 x.t.k, .slice x.t.a x.t.l.length x.t.c, .int .i64 x.f.k, .slice x.f.a x.f.l.length x.f.c, .slice x.a x.l.length x.c] 27)).alloc (.cells #[.int .i64 0, .int .i64 0, .int .i64 0, .slice none 0 0, .int .i64 0, .slice none 0 0, .slice none 0 0] 27)).alloc (.cells #[.int .i64 0, .int .i64 0, .int .i64 0, .slice none 0 0, .int .i64 0, .slice none 0 0, .slice none 0 0] 27)).cell? ⟨w.heap.size, 3, none⟩ = some (.slice x.t.a x.t.l.length x.t.c) := by simp [go_sem]
  have r4 : (((w.alloc (.cells #[.int .i64 x.k, .int .i64 x.n, .int .i64 x.t.k, .slice x.t.a x.t.l.length x.t.c, .int .i64 x.f.k, .slice x.f.a x.f.l.length x.f.c, .slice x.a x.l.length x.c] 27)).alloc (.cells #[.int .i64 0, .int .i64 0, .int .i64 0, .slice none 0 0, .int .i64 0, .slice none 0 0, .slice none 0 0] 27)).alloc (.cells #[.int .i64 0, .int .i64 0, .int .i64 0, .slice none 0 0, .int .i64 0, .slice none 0 0, .slice none 0 0] 27)).cell? ⟨w.heap.size, 4, none⟩ = some (.int .i64 x.f.k) := by simp [go_sem]
  have r5 : (((w.alloc (.cells #[.int .i64 x.k, .int .i64 x.n, .int .i64 x.t.k, .slice x.t.a x.t.l.length x.t.c, .int .i64 x.f.k, .slice x.f.a x.f.l.length x.f.c, .slice x.a x.l.length x.c] 27)).alloc (.cells #[.int .i64 0, .int .i64 0, .int .i64 0, .slice none 0 0, .int .i64 0, .slice none 0 0, .slice none 0 0] 27)).alloc (.cells #[.int .i64 0, .int .i64 0, .int .i64 0, .slice none 0 0, .int .i64 0, .slice none 0 0, .slice none 0 0] 27)).cell? ⟨w.heap.size, 5, none⟩ = some (.slice x.f.a x.f.l.length x.f.c) := by simp [go_sem]
  have r6 : (((w.alloc (.cells #[.int .i64 x.k, .int .i64 x.n, .int .i64 x.t.k, .slice x.t.a x.t.l.length x.t.c, .int .i64 x.f.k, .slice x.f.a x.f.l.length x.f.c, .slice x.a x.l.length x.c] 27)).alloc (.cells #[.int .i64 0, .int .i64 0, .int .i64 0, .slice none 0 0, .int .i64 0, .slice none 0 0, .slice none 0 0] 27)).alloc (.cells #[.int .i64 0, .int .i64 0, .int .i64 0, .slice none 0 0, .int .i64 0, .slice none 0 0, .slice none 0 0] 27)).cell? ⟨w.heap.size, 6, none⟩ = some (.slice x.a x.l.length x.c) := by simp [go_sem]
  clear hx hsz hb1 hs1 hz1' hB
  go_enter Tryd.func20, Tryd.ntmps20
  go_wp2_with fail
  rw [← hW1]
  clear hW1 r0 r1 r2 r3 r4 r5 r6
  go_loopg [4] (massH [⟨x, B, 0⟩]) (fun k s4 wr => ∃ (v : Value) (hs : List Ho) (D : Nat → Prop), v = s4 ∧ k = massH hs ∧ Hid (EI B (eraseM x.tm) (w.heap.size + 1 + 1) v hs D wr ∧ Below B W1 wr ∧ massH hs ≤ 1000 ∧ B ≤ wr.heap.size))
  case atStart => exact ⟨_, [⟨x, B, 0⟩], _, rfl, rfl, HL⟩
  case round =>
    obtain ⟨v, hs, D, hv, hk, HR⟩ := hrel
    subst hv
    have HK : Hid (gk = massH hs) := hk
    clear hk HL
    by_cases hne : hs = []
    · subst hne
      obtain ⟨a, c', rfl⟩ : ∃ a c, v = .slice a 0 c := by
        rcases HR.out.1.own.2 with ⟨rfl, _⟩ | ⟨g, cap, cur, rfl, _⟩
        · exact ⟨_, _, rfl⟩
        · exact ⟨_, _, rfl⟩
      obtain ⟨y, h7, hyi, hyt, hyb⟩ := HR.out.1.ends
      obtain ⟨hbW, hs1, hz1', hBe⟩ := HX.out
      have hzr : ZB7 wr (w.heap.size + 1) := hz1'.low HR.out.2.1 (by omega)
      have HN : Hid (∃ z : TT, Ending.returned (.agg #[.int .i64 y.k, .int .i64 y.n, .int .i64 y.t.k, .slice y.t.a y.t.l.length y.t.c, .int .i64 y.f.k, .slice y.f.a y.f.l.length y.f.c, .slice y.a y.l.length y.c]) = .returned (.agg #[.int .i64 z.k, .int .i64 z.n, .int .i64 z.t.k, .slice z.t.a z.t.l.length z.t.c, .int .i64 z.f.k, .slice z.f.a z.f.l.length z.f.c, .slice z.a z.l.length z.c]) ∧ z.In (put7 wr (w.heap.size + 1) y) ∧ z.tm = eraseM x.tm ∧ Below w.heap.size w (put7 wr (w.heap.size + 1) y)) := by
        have hk := put7_kept (w := wr) (J := w.heap.size + 1) (x := y)
        refine ⟨y, rfl, hyi.keptR hk (hyb.mono fun b hb => by omega), hyt, ?_⟩
        exact (hbW.trans (HR.out.2.1.mono (by omega))).trans ((hk.below (by simp) (Nat.le_of_lt hzr.lt)).mono (by omega))
      obtain ⟨e0, e1, e2, e3, e4, e5, e6⟩ := (put7_box (x := y) hzr.box).at7
      simp only [Nat.zero_add] at e0 e1 e2 e3 e4 e5 e6
      obtain ⟨q0, q1, q2, q3, q4, q5, q6⟩ := h7
      simp only [Nat.zero_mul, Nat.zero_add] at q0 q1 q2 q3 q4 q5 q6
      obtain ⟨⟨y0, y1, y2, y3, y4, y5, y6⟩, f0, f1, f2, f3, f4, f5, f6⟩ := hzr
      clear HR HK hyi hyt hyb hbW hs1 hz1' hBe HX
      go_wp2_with fail
      refine bodyPost_ret (v := .agg #[.int .i64 y.k, .int .i64 y.n, .int .i64 y.t.k, .slice y.t.a y.t.l.length y.t.c, .int .i64 y.f.k, .slice y.f.a y.f.l.length y.f.c, .slice y.a y.l.length y.c]) ?_ rfl HN.out
      unfold put7 at e0 e1 e2 e3 e4 e5 e6
      simp [results, Tryd.results20, go_sem, e0, e1, e2, e3, e4, e5, e6]
    · obtain ⟨us, h, rfl⟩ : ∃ us p, hs = us ++ [p] := ⟨hs.dropLast, hs.getLast hne, (List.dropLast_concat_getLast hne).symm⟩
      have ho := HR.out.1.own
      have hlen : (us ++ [h]).length = us.length + 1 := by simp
      rw [hlen] at ho
      obtain ⟨g0, cap, rfl, hg, hgl⟩ := ho.form (by omega)
      have hc : ∀ i, i < 8 → wr.cell? ⟨g0, us.length * 8 + i, none⟩ = ([.int .i64 h.p.k, .int .i64 h.p.n, .int .i64 h.p.t.k, .slice h.p.t.a h.p.t.l.length h.p.t.c, .int .i64 h.p.f.k, .slice h.p.f.a h.p.f.l.length h.p.f.c, .slice h.p.a h.p.l.length h.p.c, .pointer (some ⟨h.b, h.j * 7, none⟩)] : List Value)[i]? := by
        intro i hi
        rw [ho.cellAt (us.length * 8 + i) (by omega)]
        have := cells8_at (us ++ [h]) us.length (by simp) i hi
        rw [this]
        simp [cell8]
      have c0 : wr.cell? ⟨g0, us.length * 8, none⟩ = some (.int .i64 h.p.k) := (hc 0 (by omega)).trans rfl
      have c1 : wr.cell? ⟨g0, us.length * 8 + 1, none⟩ = some (.int .i64 h.p.n) := (hc 1 (by omega)).trans rfl
      have c2 : wr.cell? ⟨g0, us.length * 8 + 2, none⟩ = some (.int .i64 h.p.t.k) := (hc 2 (by omega)).trans rfl
      have c3 : wr.cell? ⟨g0, us.length * 8 + 3, none⟩ = some (.slice h.p.t.a h.p.t.l.length h.p.t.c) := (hc 3 (by omega)).trans rfl
      have c4 : wr.cell? ⟨g0, us.length * 8 + 4, none⟩ = some (.int .i64 h.p.f.k) := (hc 4 (by omega)).trans rfl
      have c5 : wr.cell? ⟨g0, us.length * 8 + 5, none⟩ = some (.slice h.p.f.a h.p.f.l.length h.p.f.c) := (hc 5 (by omega)).trans rfl
      have c6 : wr.cell? ⟨g0, us.length * 8 + 6, none⟩ = some (.slice h.p.a h.p.l.length h.p.c) := (hc 6 (by omega)).trans rfl
      have c7 : wr.cell? ⟨g0, us.length * 8 + 7, none⟩ = some (.pointer (some ⟨h.b, h.j * 7, none⟩)) := (hc 7 (by omega)).trans rfl
      have hcap : us.length + 1 ≤ cap := by
        rcases ho.2 with ⟨h, _⟩ | ⟨g', cap', cur, h, _, _, h1, _⟩
        · cases h
        · cases h; exact h1
      have hop : wr.ownsRow B 76 8 (.slice (some ⟨g0, 0, none⟩) us.length cap) us.length (cells8 us) := by
        rw [cells8_append] at ho
        exact ownsRow_pop (cells8_length us) ho
      have hms : massH (us ++ [h]) = massH us + h.p.sz := by simp [massH]
      have hml := HR.out.2.2.1
      have hus := massH_len us
      have i1 : (us.length : Int) < ((us.length : Int) + 1) := by omega
      have n1 : (us.length : Int) ≤ 1001 := by omega
      have n2 : (us.length : Int) ≤ (cap : Int) := by omega
      have n3 : (0 : Int) ≤ (us.length : Int) := by omega
      obtain ⟨⟨hpi, hpb⟩, hhD, hhO⟩ := HR.out.1.ho h (by simp)
      obtain ⟨OP, hOP⟩ : ∃ O, O = Obj.cells #[.int .i64 h.p.k, .int .i64 h.p.n, .int .i64 h.p.t.k, .slice h.p.t.a h.p.t.l.length h.p.t.c, .int .i64 h.p.f.k, .slice h.p.f.a h.p.f.l.length h.p.f.c, .slice h.p.a h.p.l.length h.p.c, .pointer (some ⟨h.b, h.j * 7, none⟩)] 76 := ⟨_, rfl⟩
      have hA : Below wr.heap.size wr (wr.alloc OP) := (Below.refl _ _).alloc (Nat.le_refl _) _
      have HIN : Hid (Calls Tryd.prog 45 #[.agg #[.int .i64 h.p.k, .int .i64 h.p.n, .int .i64 h.p.t.k, .slice h.p.t.a h.p.t.l.length h.p.t.c, .int .i64 h.p.f.k, .slice h.p.f.a h.p.f.l.length h.p.f.c, .slice h.p.a h.p.l.length h.p.c]] (wr.alloc OP) (InPost h.p (wr.alloc OP))) := inside_any h.p (wr.alloc OP) (hpi.below hA)
      have hBr := HR.out.2.2.2
      have HM : Hid (gk = massH us + h.p.sz ∧ massH us + h.p.sz ≤ 1000) := ⟨HK.out.trans hms, by rw [← hms]; exact hml⟩
      have HE : Hid (EI B (eraseM x.tm) (w.heap.size + 1 + 1) (.slice (some ⟨g0, 0, none⟩) (us.length + 1) cap) (us ++ [h]) D wr ∧ Below B W1 wr ∧ B ≤ wr.heap.size ∧ wr.ownsRow B 76 8 (.slice (some ⟨g0, 0, none⟩) us.length cap) us.length (cells8 us) ∧ g0 < wr.heap.size ∧ h.p.Bl (· < B)) := ⟨HR.out.1, HR.out.2.1, hBr, hop, hgl, hpb⟩
      clear ho hop HR HK hms hml hne hlen hus hc hA hpi hpb
      subst hOP
      go_wp2_with fail
      refine HIN.out.mono ?_
      rintro e w2 ⟨q, rfl, hqi, hqb, hqs, hqe, hb2⟩
      clear HIN c0 c1 c2 c3 c4 c5 c6 c7
      have hqB : q.Bl (· < B) := hqb _ HE.out.2.2.2.2.2
      have hql : q.l.length ≤ 1000 := by have h1 := q.sz_eq; have h2 := len_sum q.l; have h3 := HM.out.2; omega
      have hmk := makeT q.l.length hql
      obtain ⟨W4, hW4⟩ : ∃ W4, W4 = (w2.alloc (.cells #[.int .i64 q.k, .int .i64 q.n, .int .i64 q.t.k, .slice q.t.a q.t.l.length q.t.c, .int .i64 q.f.k, .slice q.f.a q.f.l.length q.f.c, .slice q.a q.l.length q.c] 27)).alloc (.cells (madeCells #[.int .i64 0, .int .i64 0, .int .i64 0, .slice none 0 0, .int .i64 0, .slice none 0 0, .slice none 0 0] (q.l.length * 7)) 27) := ⟨_, rfl⟩
      have hA4 : Below w2.heap.size w2 W4 := by rw [hW4]; exact ((Below.refl _ _).alloc (Nat.le_refl _) _).alloc (by simp) _
      have hs4 : W4.heap.size = w2.heap.size + 1 + 1 := by rw [hW4]; simp
      have hrs : wr.heap.size + 1 ≤ w2.heap.size := by have := hb2.size; simpa using this
      have hb24 := hb2.trans (hA4.mono hb2.size)
      have hr4 : Below wr.heap.size wr W4 := ((Below.refl _ _).alloc (Nat.le_refl _) _).trans (hb24.mono (by simp))
      have hnb7 : W4.cell? ⟨wr.heap.size, 7, none⟩ = some (.pointer (some ⟨h.b, h.j * 7, none⟩)) := (hb24.cell (p := ⟨wr.heap.size, 7, none⟩) (by simp)).trans (by simp [go_sem])
      have hq0 : W4.cell? ⟨w2.heap.size, 0, none⟩ = some (.int .i64 q.k) := by rw [hW4]; simp [go_sem]
      have hq1 : W4.cell? ⟨w2.heap.size, 1, none⟩ = some (.int .i64 q.n) := by rw [hW4]; simp [go_sem]
      have hq6 : W4.cell? ⟨w2.heap.size, 6, none⟩ = some (.slice q.a q.l.length q.c) := by rw [hW4]; simp [go_sem]
      have hgO : ∀ j, j < q.l.length → Open7 W4 (w2.heap.size + 1) j := fun j hj => by
        have := Open7.new (w2.alloc (.cells #[.int .i64 q.k, .int .i64 q.n, .int .i64 q.t.k, .slice q.t.a q.t.l.length q.t.c, .int .i64 q.f.k, .slice q.f.a q.f.l.length q.f.c, .slice q.a q.l.length q.c] 27)) q.l.length j hj
        rw [← hW4] at this
        simpa using this
      have HQQ : Hid (q.In W4 ∧ q.Bl (· < B) ∧ q.sz ≤ h.p.sz ∧ eraseM h.p.tm = ⟨q.k, q.n, anyY, anyY, (q.l.map TT.tm).map eraseM⟩ ∧ Below wr.heap.size wr W4 ∧ (∀ j, j < q.l.length → Open7 W4 (w2.heap.size + 1) j) ∧ W4.heap.size = w2.heap.size + 1 + 1 ∧ wr.heap.size + 1 ≤ w2.heap.size) := ⟨hqi.below hA4, hqB, hqs, hqe, hr4, hgO, hs4, hrs⟩
      have HNB : Hid (W4.cell? ⟨wr.heap.size, 7, none⟩ = some (.pointer (some ⟨h.b, h.j * 7, none⟩)) ∧ W4.cell? ⟨w2.heap.size, 0, none⟩ = some (.int .i64 q.k) ∧ W4.cell? ⟨w2.heap.size, 1, none⟩ = some (.int .i64 q.n) ∧ W4.cell? ⟨w2.heap.size, 6, none⟩ = some (.slice q.a q.l.length q.c)) := ⟨hnb7, hq0, hq1, hq6⟩
      have HL0 : Hid (EN B g0 us (kidsH (w2.heap.size + 1) q.l) W4 (Value.slice (some ⟨g0, 0, none⟩) us.length cap) 0 W4) := by
        obtain ⟨he, hbW, hBr, hop, hgl, _⟩ := HE.out
        refine ⟨?_, Below.refl _ _, fun _ _ _ => rfl, fun b hb => .inl (Option.some.inj hb).symm, Nat.le_refl _⟩
        have := ownsRow_low hop hr4
        simpa using this
      clear hqi hqb hqs hqe hb2 hqB hA4 hb24 hr4 hgO hs4 hrs hnb7 hq0 hq1
      go_wp2_with fail
      rw [← hW4]
      clear hW4 hmk hq6
      obtain ⟨W0, hW0⟩ : ∃ W, W = wr := ⟨_, rfl⟩
      subst hW0
      obtain ⟨K0, hK0⟩ : ∃ K, K = gk := ⟨_, rfl⟩
      subst hK0
      go_loopg [4, 37] q.l.length (fun c s4 s37 wi => ∃ (j : Nat) (v' : Value), c + j = q.l.length ∧ v' = s4 ∧ s37 = .int .i64 (j : Int) ∧ Hid (EN B g0 us (kidsH (w2.heap.size + 1) q.l) W4 v' j wi))
      case atStart => exact ⟨0, _, by omega, rfl, rfl, HL0⟩
      case round =>
        obtain ⟨j, v', hj, hv', rfl, HQ⟩ := hrel
        subst hv'
        clear HL0
        obtain ⟨wi, hwi⟩ : ∃ W, W = wr := ⟨_, rfl⟩
        subst hwi
        by_cases hlt : j < q.l.length
        · obtain ⟨yb, yo, ea, h7, hyi⟩ := HQQ.out.1.part j hlt
          have hybB : yb < B := HQQ.out.2.1.own (fun e => by rw [e] at hlt; simp at hlt) _ ea
          obtain ⟨y, hye⟩ : ∃ y, q.l[j] = y := ⟨_, rfl⟩
          rw [hye] at h7 hyi
          obtain ⟨d0, d1, d2, d3, d4, d5, d6⟩ := h7.of fun i => HQ.out.low.cell (p := ⟨yb, i, none⟩) hybB
          have i1' : (j : Int) < (q.l.length : Int) := by omega
          have i0' : (0 : Int) ≤ (j : Int) := by omega
          have HEA : Hid (q.a = some ⟨yb, yo, none⟩) := ea
          rw [ea]
          obtain ⟨WY, hWY⟩ : ∃ W, W = wi.alloc (.cells #[.int .i64 y.k, .int .i64 y.n, .int .i64 y.t.k, .slice y.t.a y.t.l.length y.t.c, .int .i64 y.f.k, .slice y.f.a y.f.l.length y.f.c, .slice y.a y.l.length y.c] 27) := ⟨_, rfl⟩
          have hYs : WY.heap.size = wi.heap.size + 1 := by rw [hWY]; simp
          have hAY : Below wi.heap.size wi WY := by rw [hWY]; exact (Below.refl _ _).alloc (Nat.le_refl _) _
          have HS : Hid (∀ W', Below WY.heap.size WY W' → W'.cell? ⟨wi.heap.size, 0, none⟩ = some (.int .i64 y.k) ∧ W'.cell? ⟨wi.heap.size, 1, none⟩ = some (.int .i64 y.n) ∧ W'.cell? ⟨wi.heap.size, 2, none⟩ = some (.int .i64 y.t.k) ∧ W'.cell? ⟨wi.heap.size, 3, none⟩ = some (.slice y.t.a y.t.l.length y.t.c) ∧ W'.cell? ⟨wi.heap.size, 4, none⟩ = some (.int .i64 y.f.k) ∧ W'.cell? ⟨wi.heap.size, 5, none⟩ = some (.slice y.f.a y.f.l.length y.f.c) ∧ W'.cell? ⟨wi.heap.size, 6, none⟩ = some (.slice y.a y.l.length y.c)) := by
            intro W' hb
            have h7' : At7 WY wi.heap.size 0 y := by rw [hWY]; exact At7.new wi y
            obtain ⟨c0, c1, c2, c3, c4, c5, c6⟩ := h7'.below hb
            simp only [Nat.zero_add] at c0 c1 c2 c3 c4 c5 c6
            exact ⟨c0, c1, c2, c3, c4, c5, c6⟩
          have HS0 : Hid (WY.cell? ⟨wi.heap.size, 0, none⟩ = some (.int .i64 y.k) ∧ WY.cell? ⟨wi.heap.size, 1, none⟩ = some (.int .i64 y.n) ∧ WY.cell? ⟨wi.heap.size, 2, none⟩ = some (.int .i64 y.t.k) ∧ WY.cell? ⟨wi.heap.size, 3, none⟩ = some (.slice y.t.a y.t.l.length y.t.c) ∧ WY.cell? ⟨wi.heap.size, 4, none⟩ = some (.int .i64 y.f.k) ∧ WY.cell? ⟨wi.heap.size, 5, none⟩ = some (.slice y.f.a y.f.l.length y.f.c) ∧ WY.cell? ⟨wi.heap.size, 6, none⟩ = some (.slice y.a y.l.length y.c)) := HS.out _ (Below.refl _ _)
          have HS1 : Hid (WY.drew.cell? ⟨wi.heap.size, 0, none⟩ = some (.int .i64 y.k) ∧ WY.drew.cell? ⟨wi.heap.size, 1, none⟩ = some (.int .i64 y.n) ∧ WY.drew.cell? ⟨wi.heap.size, 2, none⟩ = some (.int .i64 y.t.k) ∧ WY.drew.cell? ⟨wi.heap.size, 3, none⟩ = some (.slice y.t.a y.t.l.length y.t.c) ∧ WY.drew.cell? ⟨wi.heap.size, 4, none⟩ = some (.int .i64 y.f.k) ∧ WY.drew.cell? ⟨wi.heap.size, 5, none⟩ = some (.slice y.f.a y.f.l.length y.f.c) ∧ WY.drew.cell? ⟨wi.heap.size, 6, none⟩ = some (.slice y.a y.l.length y.c)) := HS.out _ ((Below.refl _ _).drew)
          have HSA : Hid (∀ X, (WY.drew.alloc X).cell? ⟨wi.heap.size, 0, none⟩ = some (.int .i64 y.k) ∧ (WY.drew.alloc X).cell? ⟨wi.heap.size, 1, none⟩ = some (.int .i64 y.n) ∧ (WY.drew.alloc X).cell? ⟨wi.heap.size, 2, none⟩ = some (.int .i64 y.t.k) ∧ (WY.drew.alloc X).cell? ⟨wi.heap.size, 3, none⟩ = some (.slice y.t.a y.t.l.length y.t.c) ∧ (WY.drew.alloc X).cell? ⟨wi.heap.size, 4, none⟩ = some (.int .i64 y.f.k) ∧ (WY.drew.alloc X).cell? ⟨wi.heap.size, 5, none⟩ = some (.slice y.f.a y.f.l.length y.f.c) ∧ (WY.drew.alloc X).cell? ⟨wi.heap.size, 6, none⟩ = some (.slice y.a y.l.length y.c)) := fun X => HS.out _ (((Below.refl _ _).drew).alloc (Nat.le_refl _) X)
          have HSB : Hid (∀ X, (WY.alloc X).drew.cell? ⟨wi.heap.size, 0, none⟩ = some (.int .i64 y.k) ∧ (WY.alloc X).drew.cell? ⟨wi.heap.size, 1, none⟩ = some (.int .i64 y.n) ∧ (WY.alloc X).drew.cell? ⟨wi.heap.size, 2, none⟩ = some (.int .i64 y.t.k) ∧ (WY.alloc X).drew.cell? ⟨wi.heap.size, 3, none⟩ = some (.slice y.t.a y.t.l.length y.t.c) ∧ (WY.alloc X).drew.cell? ⟨wi.heap.size, 4, none⟩ = some (.int .i64 y.f.k) ∧ (WY.alloc X).drew.cell? ⟨wi.heap.size, 5, none⟩ = some (.slice y.f.a y.f.l.length y.f.c) ∧ (WY.alloc X).drew.cell? ⟨wi.heap.size, 6, none⟩ = some (.slice y.a y.l.length y.c)) := fun X => HS.out _ (((Below.refl _ _).alloc (Nat.le_refl _) X).drew)
          obtain ⟨N, hN⟩ : ∃ N, (us ++ (kidsH (w2.heap.size + 1) q.l).take j).length = N := ⟨_, rfl⟩
          obtain ⟨xs, hxs⟩ : ∃ xs, cells8 (us ++ (kidsH (w2.heap.size + 1) q.l).take j) = xs := ⟨_, rfl⟩
          have hNb : N ≤ 2002 := by
            rw [← hN, List.length_append, List.length_take]
            have h1 := massH_len us
            have h2 := HM.out.2
            omega
          have hou : v'.ownBlock ≠ some wi.heap.size := fun e => by have := (HQ.out.own.lt _ e).2; omega
          have uo : WY.ownsRow B 76 8 v' N xs := by
            rw [← hN, ← hxs]
            exact ownsRow_low HQ.out.own hAY
          have hnew : ((WY.alloc (.cells #[.int .i64 y.k, .int .i64 y.n, .int .i64 y.t.k, .slice y.t.a y.t.l.length y.t.c, .int .i64 y.f.k, .slice y.f.a y.f.l.length y.f.c, .slice y.a y.l.length y.c, .pointer (some ⟨w2.heap.size + 1, j * 7, none⟩)] 76)).drew).heap[WY.heap.size]? = some (.cells #[.int .i64 y.k, .int .i64 y.n, .int .i64 y.t.k, .slice y.t.a y.t.l.length y.t.c, .int .i64 y.f.k, .slice y.f.a y.f.l.length y.f.c, .slice y.a y.l.length y.c, .pointer (some ⟨w2.heap.size + 1, j * 7, none⟩)] 76) := heap_alloc_new WY (.cells #[.int .i64 y.k, .int .i64 y.n, .int .i64 y.t.k, .slice y.t.a y.t.l.length y.t.c, .int .i64 y.f.k, .slice y.f.a y.f.l.length y.f.c, .slice y.a y.l.length y.c, .pointer (some ⟨w2.heap.size + 1, j * 7, none⟩)] 76)
          have hBw : B ≤ WY.heap.size := by
            have h1 := HE.out.2.2.1
            have h2 := HQ.out.sz
            have h3 := HQQ.out.2.2.2.2.1.size
            show B ≤ WY.heap.size
            omega
          have HSG : Hid (∀ (w7 : World) (X : Obj), ((WY.alloc X).drew).grownBy w7 v'.ownBlock → w7.cell? ⟨wi.heap.size, 0, none⟩ = some (.int .i64 y.k) ∧ w7.cell? ⟨wi.heap.size, 1, none⟩ = some (.int .i64 y.n) ∧ w7.cell? ⟨wi.heap.size, 2, none⟩ = some (.int .i64 y.t.k) ∧ w7.cell? ⟨wi.heap.size, 3, none⟩ = some (.slice y.t.a y.t.l.length y.t.c) ∧ w7.cell? ⟨wi.heap.size, 4, none⟩ = some (.int .i64 y.f.k) ∧ w7.cell? ⟨wi.heap.size, 5, none⟩ = some (.slice y.f.a y.f.l.length y.f.c) ∧ w7.cell? ⟨wi.heap.size, 6, none⟩ = some (.slice y.a y.l.length y.c)) := by
            intro w7 X hgr
            have hc7 : ∀ i, w7.cell? ⟨wi.heap.size, i, none⟩ = ((WY.alloc X).drew).cell? ⟨wi.heap.size, i, none⟩ := fun i =>
              World.cell?_of_block (a := ⟨wi.heap.size, i, none⟩) (hgr.block wi.heap.size (by simp; omega) (fun e => hou e.symm))
            obtain ⟨c0, c1, c2, c3, c4, c5, c6⟩ := HSB.out X
            exact ⟨(hc7 _).trans c0, (hc7 _).trans c1, (hc7 _).trans c2, (hc7 _).trans c3, (hc7 _).trans c4, (hc7 _).trans c5, (hc7 _).trans c6⟩
          have HY : Hid (q.l[j] = y ∧ WY = wi.alloc (.cells #[.int .i64 y.k, .int .i64 y.n, .int .i64 y.t.k, .slice y.t.a y.t.l.length y.t.c, .int .i64 y.f.k, .slice y.f.a y.f.l.length y.f.c, .slice y.a y.l.length y.c] 27) ∧ (us ++ (kidsH (w2.heap.size + 1) q.l).take j).length = N ∧ cells8 (us ++ (kidsH (w2.heap.size + 1) q.l).take j) = xs ∧ WY.heap.size = wi.heap.size + 1) := ⟨hye, hWY, hN, hxs, hYs⟩
          have HJ : Hid (gk + j = q.l.length) := hj
          clear h7 hyi hye ea hN hxs hybB hAY hou hj hYs
          go_upto_region 12 with fail
          rw [← hWY]
          clear hWY d0 d1 d2 d3 d4 d5 d6
          go_region_held3 (fun W' => W'.cell? ⟨wi.heap.size, 0, none⟩ = some (.int .i64 y.k) ∧ W'.cell? ⟨wi.heap.size, 1, none⟩ = some (.int .i64 y.n) ∧ W'.cell? ⟨wi.heap.size, 2, none⟩ = some (.int .i64 y.t.k) ∧ W'.cell? ⟨wi.heap.size, 3, none⟩ = some (.slice y.t.a y.t.l.length y.t.c) ∧ W'.cell? ⟨wi.heap.size, 4, none⟩ = some (.int .i64 y.f.k) ∧ W'.cell? ⟨wi.heap.size, 5, none⟩ = some (.slice y.f.a y.f.l.length y.f.c) ∧ W'.cell? ⟨wi.heap.size, 6, none⟩ = some (.slice y.a y.l.length y.c))
            (first
              | (with_reducible exact HS0.out)
              | (with_reducible exact HS1.out)
              | (with_reducible exact HSA.out _)
              | (with_reducible exact HSB.out _)
              | (with_reducible exact HSG.out _ _ hgrow)
              | fail)
            (first
              | (refine step_append_lies _ (by rfl) _ _ _ (by rfl) B 76 j0 _ 8 112 Tryd.underlying77 hj0 hy0 hy1 hy2 rfl (by omega) v' N xs (by rfl) ((uo.alloc _).drew) ⟨WY.heap.size, 0, none⟩ 1 1 [.int .i64 y.k, .int .i64 y.n, .int .i64 y.t.k, .slice y.t.a y.t.l.length y.t.c, .int .i64 y.f.k, .slice y.f.a y.f.l.length y.f.c, .slice y.a y.l.length y.c, .pointer (some ⟨w2.heap.size + 1, j * 7, none⟩)] (by rfl) (by rfl) (World.news_of_block (cs := #[.int .i64 y.k, .int .i64 y.n, .int .i64 y.t.k, .slice y.t.a y.t.l.length y.t.c, .int .i64 y.f.k, .slice y.f.a y.f.l.length y.f.c, .slice y.a y.l.length y.c, .pointer (some ⟨w2.heap.size + 1, j * 7, none⟩)]) (t := 76) (fr := (0, 0)) hnew) (by simp [Value.oneCell']) (by omega) (by unfold maxLen; omega) (by omega) (by simp; omega) (WY.heap.size + 1) (by simp) ?_; intro gg cap1 w7 hown1 hgrow hat hlt3)
              | fail)
          have HN : Hid (EN B g0 us (kidsH (w2.heap.size + 1) q.l) W4 (Value.slice (some ⟨gg, 0, none⟩) (N + 1) cap1) (j + 1) w7) := by
            obtain ⟨hye, hWY, hN, hxs, hYs⟩ := HY.out
            have hks := kidsH_snoc (w2.heap.size + 1) q.l j hlt
            rw [hye] at hks
            rw [hWY] at hgrow
            exact HQ.out.push (X := .cells #[.int .i64 y.k, .int .i64 y.n, .int .i64 y.t.k, .slice y.t.a y.t.l.length y.t.c, .int .i64 y.f.k, .slice y.f.a y.f.l.length y.f.c, .slice y.a y.l.length y.c] 27) (Y := .cells #[.int .i64 y.k, .int .i64 y.n, .int .i64 y.t.k, .slice y.t.a y.t.l.length y.t.c, .int .i64 y.f.k, .slice y.f.a y.f.l.length y.f.c, .slice y.a y.l.length y.c, .pointer (some ⟨w2.heap.size + 1, j * 7, none⟩)] 76) (by have h1 := HE.out.2.2.1; have h3 := HQQ.out.2.2.2.2.1.size; omega) hks hN hxs hown1 hgrow (by
              rcases hat with e | e
              · exact .inl e
              · exact .inr (by rw [e]; show WY.heap.size + 1 = _; omega))
          clear hown1 hgrow hat hlt3 uo hnew HS HS0 HS1 HSA HSB HSG HQ HY
          go_wp2_with fail
          rw [← HEA.out]
          go_roundg (q.l.length - (j + 1))
          case measure => have := HJ.out; omega
          case rel => exact ⟨j + 1, _, by have := HJ.out; omega, rfl, by go_num, HN⟩
        · have hje : j = q.l.length := by omega
          obtain ⟨he, hbW, hBr, hop, hgl, hpB⟩ := HE.out
          obtain ⟨hqi, hqB, hqs, hqe, hr4, hgO, hs4, hrs⟩ := HQQ.out
          obtain ⟨hown, hlow4, hfr, hob, hsz4⟩ := HQ.out
          have htk : (kidsH (w2.heap.size + 1) q.l).take j = kidsH (w2.heap.size + 1) q.l := List.take_of_length_le (by rw [kidsH_length]; omega)
          rw [htk] at hown
          have hlow : Below B W0 wi := (hr4.mono hBr).trans hlow4
          have hD : ∀ b, D b → wi.heap[b]? = W0.heap[b]? := fun b hb => by
            obtain ⟨h1, h2, h3⟩ := he.d b hb
            have hbg : b ≠ g0 := fun e => h3 (by rw [e]; rfl)
            exact (hfr b (by omega) hbg).trans (hr4.block b h2)
          obtain ⟨_, hhD2, hhO2⟩ := he.ho h (by simp)
          obtain ⟨hb1, hb2, hb3⟩ := he.d h.b hhD2
          have hst := he.step (q := q) (g := w2.heap.size + 1) (v2 := v') (w2 := wi) hqe
            (fun y hy => ⟨(hqi.mem hy).congr (P := (· < B)) (fun b hb o => hlow4.cell (p := ⟨b, o, none⟩) hb) (hqB.mem hy), hqB.mem hy⟩) (by omega) (by omega) (by omega)
            (fun j' hj' => (hgO j' hj').of (hfr _ (by omega) (by omega))) hown
            (fun b hb => by
              rcases hob b hb with h1 | h1
              · exact .inl (by rw [h1]; rfl)
              · exact .inr (by omega))
            (fun e => by
              rcases hob _ e with h1 | h1
              · omega
              · omega) hlow hD
          have hOw : Open7 wi h.b h.j := hhO2.of (hD _ hhD2)
          have hmk2 : massH (us ++ kidsH (w2.heap.size + 1) q.l) = massH us + (q.l.map TT.sz).sum := by
            rw [← massH_kids (w2.heap.size + 1) q.l]
            simp [massH]
          have hqsz := q.sz_eq
          have HN : Hid (EI B (eraseM x.tm) (w.heap.size + 1 + 1) v' (us ++ kidsH (w2.heap.size + 1) q.l) (fun b => D b ∨ b = w2.heap.size + 1) (put7at wi h.b (h.j * 7) (TT.mk q.k q.n (leaf 0) (leaf 0) (some ⟨w2.heap.size + 1, 0, none⟩) q.l.length q.l)) ∧ Below B W1 (put7at wi h.b (h.j * 7) (TT.mk q.k q.n (leaf 0) (leaf 0) (some ⟨w2.heap.size + 1, 0, none⟩) q.l.length q.l)) ∧ massH (us ++ kidsH (w2.heap.size + 1) q.l) ≤ 1000 ∧ B ≤ (put7at wi h.b (h.j * 7) (TT.mk q.k q.n (leaf 0) (leaf 0) (some ⟨w2.heap.size + 1, 0, none⟩) q.l.length q.l)).heap.size) := by
            refine ⟨hst, (hbW.trans hlow).trans ((put7at_kept.below (by simp) (by omega)).mono hb1), by have := HM.out; omega, by rw [put7at_size]; omega⟩
          have HMs : Hid (massH (us ++ kidsH (w2.heap.size + 1) q.l) < K0) := by
            have := HM.out
            show _ < _
            omega
          have u7 : wi.cell? ⟨W0.heap.size, 7, none⟩ = some (.pointer (some ⟨h.b, h.j * 7, none⟩)) := (World.cell?_of_block (a := ⟨W0.heap.size, 7, none⟩) (hfr W0.heap.size (by omega) (by omega))).trans HNB.out.1
          have u0 : wi.cell? ⟨w2.heap.size, 0, none⟩ = some (.int .i64 q.k) := (World.cell?_of_block (a := ⟨w2.heap.size, 0, none⟩) (hfr w2.heap.size (by omega) (by omega))).trans HNB.out.2.1
          have u1 : wi.cell? ⟨w2.heap.size, 1, none⟩ = some (.int .i64 q.n) := (World.cell?_of_block (a := ⟨w2.heap.size, 1, none⟩) (hfr w2.heap.size (by omega) (by omega))).trans HNB.out.2.2.1
          obtain ⟨⟨o0, t0⟩, f0⟩ := hOw 0 (by omega)
          obtain ⟨⟨o1, t1⟩, f1⟩ := hOw 1 (by omega)
          obtain ⟨⟨o2, t2⟩, f2⟩ := hOw 2 (by omega)
          obtain ⟨⟨o3, t3⟩, f3⟩ := hOw 3 (by omega)
          obtain ⟨⟨o4, t4⟩, f4⟩ := hOw 4 (by omega)
          obtain ⟨⟨o5, t5⟩, f5⟩ := hOw 5 (by omega)
          obtain ⟨⟨o6, t6⟩, f6⟩ := hOw 6 (by omega)
          simp only [Nat.add_zero] at t0 f0
          clear HE HQQ HQ he hbW hBr hop hgl hpB hqi hqB hqs hqe hr4 hgO hs4 hrs hown hlow4 hfr hob hsz4 htk hlow hD hhD2 hhO2 hb1 hb2 hb3 hst hOw hmk2 hqsz HNB hje hj
          go_wp2_with fail
          go_roundg (massH (us ++ kidsH (w2.heap.size + 1) q.l))
          case measure => exact HMs.out
          case rel => exact ⟨_, _, _, rfl, rfl, HN⟩
end Go.Proofs.YtnddkmccagiclaaDoor

/-
  A term without casts and types has no types to speak of, and no more terms than it had; no program in it.
-/
namespace Go.Proofs.YtnddkmccagiclaaDoor
open Go.RowKit
/-- All types are Any. -/
def bareM : Tm → Prop
  | ⟨_, _, t, f, l⟩ => t = anyY ∧ f = anyY ∧ ∀ y, y ∈ l → bareM y
theorem bareM_mk {k n : Int} {t f : Ty} {l : List Tm} : bareM ⟨k, n, t, f, l⟩ ↔ t = anyY ∧ f = anyY ∧ ∀ y, y ∈ l → bareM y := by
  rw [bareM]
theorem bare_erase : ∀ x : Tm, bareM (eraseM x) := by
  intro x
  induction x using Tm.ind with
  | h k n t f l ih =>
    rw [eraseM_mk]
    have hm : ∀ y, y ∈ l.map eraseM → bareM y := fun y hy => by
      obtain ⟨z, hz, rfl⟩ := List.mem_map.1 hy
      exact ih z hz
    generalize l.map eraseM = m at hm
    match m, hm with
    | [], _ => exact bareM_mk.2 ⟨rfl, rfl, fun y hy => by cases hy⟩
    | [y], hm =>
      by_cases h9 : k = 9 ∨ k = 10
      · have e : eraseT k n [y] = y := if_pos h9
        rw [e]
        exact hm y (by simp)
      · have e : eraseT k n [y] = ⟨k, n, anyY, anyY, [y]⟩ := if_neg h9
        rw [e]
        exact bareM_mk.2 ⟨rfl, rfl, hm⟩
    | y :: z :: r, hm => exact bareM_mk.2 ⟨rfl, rfl, hm⟩
theorem erase_sz : ∀ x : Tm, (eraseM x).sz ≤ x.sz := by
  intro x
  induction x using Tm.ind with
  | h k n t f l ih =>
    rw [eraseM_mk, Tm.sz_mk]
    have hs : ((l.map eraseM).map Tm.sz).sum ≤ (l.map Tm.sz).sum := by
      have : ∀ l : List Tm, (∀ x, x ∈ l → (eraseM x).sz ≤ x.sz) → ((l.map eraseM).map Tm.sz).sum ≤ (l.map Tm.sz).sum := by
        intro l
        induction l with
        | nil => intro _; simp
        | cons z r ihr => intro h; have h1 := h z (by simp); have h2 := ihr fun q hq => h q (by simp [hq]); simp only [List.map_cons, List.sum_cons]; omega
      exact this l ih
    generalize l.map eraseM = m at hs
    match m, hs with
    | [], hs => show (Tm.mk k n anyY anyY []).sz ≤ _; rw [Tm.sz_mk]; omega
    | [y], hs =>
      by_cases h9 : k = 9 ∨ k = 10
      · have e : eraseT k n [y] = y := if_pos h9
        rw [e]
        simp at hs
        omega
      · have e : eraseT k n [y] = ⟨k, n, anyY, anyY, [y]⟩ := if_neg h9
        rw [e, Tm.sz_mk]
        omega
    | y :: z :: r, hs => show (Tm.mk k n anyY anyY (y :: z :: r)).sz ≤ _; rw [Tm.sz_mk]; omega
end Go.Proofs.YtnddkmccagiclaaDoor

/-
  What the call of chaperonekeep.CheckSites answers.
-/
namespace Go.Proofs.YtnddkmccagiclaaDoor
open Go.RowKit
/-- What is known of the casts, one by one. -/
structure SF (x y : TT) (ss : List St) : Prop where
  lo : ∀ s, s ∈ ss → 1 ≤ s.n ∧ s.n < (x.sz : Int)
  gf : ∀ s, s ∈ ss → goodT 44 s.f = true ∧ goodT 44 s.t = true
  fi : ∀ s, s ∈ ss → relY escFits s.f.ty s.t.ty = true
  sa : ∀ s, s ∈ ss → relY escSame s.f.ty s.t.ty = false
  gr : ∀ r j (hr : r < ss.length) (hj : j < ss.length), r < j → ss[r].n < ss[j].n
  sz : y.sz = x.sz + ss.length
  er : eraseM y.tm = eraseM x.tm
theorem sites_facts {x y : TT} {i : Ty} {ss : List St} (hg : goodM 0 x.tm = true) (h : readS x.tm [] 0 = some (y.tm, i)) (hm : ss.map St.m = sitesM y.tm) : SF x y ss := by
  obtain ⟨hok, hsz⟩ := goodM_ok hg
  have S := read_sites x.tm [] 0 y.tm i hok (fun u h => by cases h) h
  have hmem : ∀ s, s ∈ ss → s.m ∈ sitesM y.tm := fun s hs => by rw [← hm]; exact List.mem_map.2 ⟨s, hs, rfl⟩
  have hx := x.sz_tm
  refine ⟨fun s hs => ?_, fun s hs => ?_, fun s hs => (S.inn _ (hmem s hs)).2.2.2.2.1, fun s hs => (S.inn _ (hmem s hs)).2.2.2.2.2, fun r j hr hj hrj => ?_, ?_, S.er⟩
  · obtain ⟨h1, h2, _⟩ := S.inn _ (hmem s hs)
    simp only [St.m] at h1 h2
    omega
  · obtain ⟨_, _, h3⟩ := S.inn _ (hmem s hs)
    have h4 := h3.more (m' := 44) (by omega)
    exact ⟨by rw [goodT_eq]; exact h4.1, by rw [goodT_eq]; exact h4.2.1⟩
  · have hp := S.grow
    rw [← hm, List.map_map, List.pairwise_map, List.pairwise_iff_getElem] at hp
    exact hp r j hr hj hrj
  · have := S.sz
    rw [← hm, List.length_map, ← y.sz_tm, ← x.sz_tm] at this
    exact this
end Go.Proofs.YtnddkmccagiclaaDoor

/-
  What the law CheckTells needs of terms in plain mathematics; one form for what the two checkers answer; no run of the program in it.
-/
namespace Go.Proofs.YtnddkmccagiclaaDoor
open Go.RowKit
/-- No list in it is longer than any memory. -/
def smY : Ty → Prop
  | ⟨_, l⟩ => l.length ≤ 140737488355328 ∧ ∀ t, t ∈ l → smY t
theorem smY_mk {k : Int} {l : List Ty} : smY ⟨k, l⟩ ↔ l.length ≤ 140737488355328 ∧ ∀ t, t ∈ l → smY t := by
  rw [smY]
theorem sm_ty (t : Tr) : t.sm ↔ smY t.ty := by
  induction t using Tr.ind with
  | h k a c l ih =>
    rw [Tr.sm_mk, Tr.ty_mk, smY_mk, List.length_map]
    refine and_congr Iff.rfl ⟨fun h t ht => ?_, fun h t ht => ?_⟩
    · obtain ⟨z, hz, rfl⟩ := List.mem_map.1 ht
      exact (ih z hz).1 (h z hz)
    · exact (ih t ht).2 (h t.ty (List.mem_map.2 ⟨t, ht, rfl⟩))
theorem sm_good : ∀ (n : Nat) (t : Ty), goodY n t = true → smY t
  | 0, t, h => by simp [goodY] at h
  | n + 1, t, h => by
    rcases goodY_cases h with ⟨k, rfl, _⟩ | ⟨x, y, rfl, hx, hy⟩
    · exact smY_mk.2 ⟨by simp, fun t ht => by cases ht⟩
    · refine smY_mk.2 ⟨by simp, fun t ht => ?_⟩
      simp only [List.mem_cons, List.not_mem_nil, or_false] at ht
      rcases ht with rfl | rfl
      · exact sm_good n _ hx
      · exact sm_good n _ hy
def tsmM : Tm → Prop
  | ⟨_, _, t, f, l⟩ => smY t ∧ smY f ∧ ∀ y, y ∈ l → tsmM y
theorem tsmM_mk {k n : Int} {t f : Ty} {l : List Tm} : tsmM ⟨k, n, t, f, l⟩ ↔ smY t ∧ smY f ∧ ∀ y, y ∈ l → tsmM y := by
  rw [tsmM]
theorem tsm_tm (x : TT) : x.tsm ↔ tsmM x.tm := by
  induction x using TT.ind with
  | h k n t f a c l ih =>
    rw [TT.tsm_mk, TT.tm_mk, tsmM_mk, sm_ty, sm_ty]
    refine and_congr Iff.rfl (and_congr Iff.rfl ⟨fun h y hy => ?_, fun h y hy => ?_⟩)
    · obtain ⟨z, hz, rfl⟩ := List.mem_map.1 hy
      exact (ih z hz).1 (h z hz)
    · exact (ih y hy).2 (h y.tm (List.mem_map.2 ⟨y, hy, rfl⟩))
theorem castL_tsm : ∀ (ps : List (Nat × Tm × Ty)) (us : List Ty), (∀ p, p ∈ ps → tsmM p.2.1 ∧ smY p.2.2) → (∀ u, u ∈ us → smY u) → ∀ y, y ∈ castL ps us → tsmM y
  | [], _, _, _, y, h => by simp [castL] at h
  | p :: r, [], _, _, y, h => by simp [castL] at h
  | p :: r, u :: s, hp, hu, y, h => by
    simp only [castL, List.mem_cons] at h
    rcases h with rfl | h
    · unfold castY
      split
      · exact (hp p (by simp)).1
      · refine tsmM_mk.2 ⟨hu u (by simp), (hp p (by simp)).2, fun z hz => ?_⟩
        have : z = p.2.1 := by simpa using hz
        subst this
        exact (hp p (by simp)).1
    · exact castL_tsm r s (fun q hq => hp q (by simp [hq])) (fun q hq => hu q (by simp [hq])) y h
/-- The types within a reading are small. -/
theorem read_tsm : ∀ (x : Tm) (takes : List Ty) (c : Nat) (y : Tm) (i : Ty), okTm x takes.length → (∀ u, u ∈ takes → goodY 4 u = true) → readS x takes c = some (y, i) → tsmM y := by
  intro x
  induction x using Tm.ind with
  | h k n t f l ih =>
    intro takes c y i hok hT h
    obtain ⟨h0, h1⟩ := okTm_mk.1 hok
    obtain ⟨k1, k9, hl, _, ht, _, _⟩ := okTop_all h0
    obtain ⟨ps, us, e1, e2, _, rfl⟩ := readS_some h
    have hlen := readL_length _ _ _ _ e1
    have hT' := takesIn_good (k := k) ht hT
    have hp : ∀ j (hj : j < ps.length) (hj' : j < l.length), tsmM ps[j].2.1 ∧ goodY ((l.map Tm.sz).sum + 4) ps[j].2.2 = true := fun j hj hj' => by
      have := readL_all (Q := fun x _ y i => tsmM y ∧ goodY (x.sz + 4) i = true) l _ ps e1 (fun x hx c y i hr => ⟨ih x hx _ c y i (by rw [takesIn_length]; exact h1 x hx) hT' hr, read_good x _ c y i (by rw [takesIn_length]; exact h1 x hx) hT' hr⟩) j hj hj'
      have hs := sz_mem l l[j] (List.getElem_mem _)
      exact ⟨this.1, goodY_more _ _ _ (by omega) this.2⟩
    have hr := rule_good ((l.map Tm.sz).sum + 4) (by omega) k1 k9 (by rw [List.length_map, hlen]; exact hl) ht hT' (fun u hu => by
      obtain ⟨p, hp', rfl⟩ := List.mem_map.1 hu
      obtain ⟨j, hj, rfl⟩ := List.getElem_of_mem hp'
      exact (hp j hj (by omega)).2) e2
    refine tsmM_mk.2 ⟨sm_good 4 t ht, sm_good 1 anyY rfl, castL_tsm ps us (fun p hp' => ?_) (fun u hu => sm_good _ u (hr.2.2 u hu))⟩
    obtain ⟨j, hj, rfl⟩ := List.getElem_of_mem hp'
    exact ⟨(hp j hj (by omega)).1, sm_good _ _ (hp j hj (by omega)).2⟩
theorem lw_sz (x : TT) (h : x.sz ≤ 2000000) : x.lw := by
  induction x using TT.ind with
  | h k n t f a c l ih =>
    rw [TT.sz_mk] at h
    have hl := len_sum l
    refine TT.lw_mk.2 ⟨by omega, fun y hy => ih y hy ?_⟩
    have e : y.tm.sz ≤ ((l.map TT.tm).map Tm.sz).sum := sz_mem _ _ (List.mem_map.2 ⟨_, hy, rfl⟩)
    have e2 : (l.map TT.tm).map Tm.sz = l.map TT.sz := by rw [List.map_map]; exact List.map_congr_left fun z _ => z.sz_tm.symm
    rw [e2, ← TT.sz_tm] at e
    omega
theorem nb_congr : ∀ (x y : TT), x.tm = y.tm → x.nb → y.nb := by
  intro x
  induction x using TT.ind with
  | h k n t f a c l ih =>
    intro y hm h
    obtain ⟨k', n', t', f', a', c', l'⟩ := y
    rw [TT.tm_mk, TT.tm_mk, Tm.mk.injEq] at hm
    obtain ⟨_, rfl, _, _, hl⟩ := hm
    obtain ⟨h1, h2⟩ := TT.nb_mk.1 h
    refine TT.nb_mk.2 ⟨h1, fun z hz => ?_⟩
    obtain ⟨j, hj, rfl⟩ := List.getElem_of_mem hz
    have hlen : l.length = l'.length := by simpa using congrArg List.length hl
    have e := congrArg (fun m => m[j]?) hl
    simp only [List.getElem?_map, List.getElem?_eq_getElem hj, List.getElem?_eq_getElem (show j < l.length by omega), Option.map_some, Option.some.injEq] at e
    exact ih l[j] (List.getElem_mem _) l'[j] e (h2 _ (List.getElem_mem _))
/-- What a checker answers, in one form. -/
def CkI (x y : TT) (i : Tr) (ec : Int) (w' : World) : Prop :=
  (y.In w' ∧ i.In w' ∧ y.tsm ∧ y.sz ≤ 80 ∧ i.sm) ∧ ((ec = 1 ∧ goodM 0 x.tm = false ∧ y.tm = ⟨0, 0, anyY, anyY, []⟩ ∧ i.ty = ⟨0, []⟩) ∨ (ec = 2 ∧ (goodM 0 x.tm = true ∧ readS x.tm [] 0 = none) ∧ y.tm = ⟨0, 0, anyY, anyY, []⟩ ∧ i.ty = ⟨0, []⟩) ∨ (ec = 0 ∧ goodM 0 x.tm = true ∧ readS x.tm [] 0 = some (y.tm, i.ty)))
theorem ck_form {x : TT} {w : World} {e : Ending} {w' : World} (h : CkPost x w e w') : ∃ (y : TT) (i : Tr) (ec : Int), e = .returned (.tuple #[.agg #[.int .i64 y.k, .int .i64 y.n, .int .i64 y.t.k, .slice y.t.a y.t.l.length y.t.c, .int .i64 y.f.k, .slice y.f.a y.f.l.length y.f.c, .slice y.a y.l.length y.c], .agg #[.int .i64 i.k, .slice i.a i.l.length i.c], .int .i64 ec]) ∧ Hid (CkI x y i ec w') ∧ Below w.heap.size w w' := by
  have hz : (tleaf 0 0).tsm := (tsm_tm _).2 (by rw [tleaf_tm]; exact tsmM_mk.2 ⟨sm_good 1 anyY rfl, sm_good 1 anyY rfl, fun y hy => by cases hy⟩)
  have hl : (leaf 0).sm := (sm_ty _).2 (by rw [leaf_ty]; exact sm_good 1 _ rfl)
  have hs : (tleaf 0 0).sz ≤ 80 := by rw [TT.sz_tm, tleaf_tm, Tm.sz_mk]; simp
  obtain ⟨hb, ⟨h1, rfl⟩ | ⟨h1, h2, rfl⟩ | ⟨h1, y, i, h2, rfl, h3, h4, h5⟩⟩ := h
  · exact ⟨tleaf 0 0, leaf 0, 1, rfl, ⟨⟨tleaf_in _ _ _, leaf_in _ _, hz, hs, hl⟩, .inl ⟨rfl, h1, tleaf_tm 0 0, leaf_ty 0⟩⟩, hb⟩
  · exact ⟨tleaf 0 0, leaf 0, 2, rfl, ⟨⟨tleaf_in _ _ _, leaf_in _ _, hz, hs, hl⟩, .inr (.inl ⟨rfl, ⟨h1, h2⟩, tleaf_tm 0 0, leaf_ty 0⟩)⟩, hb⟩
  · obtain ⟨hok, hsz⟩ := goodM_ok h1
    have hys : y.sz ≤ 80 := by
      have S := read_sites x.tm [] 0 y.tm i.ty hok (fun u h => by cases h) h2
      have hx40 : x.sz ≤ 40 := by rw [x.sz_tm]; exact hsz
      have hl : (sitesM y.tm).length ≤ x.sz := by
        have hp := S.grow
        have hin := S.inn
        have : ∀ (l : List (Int × Ty × Ty)) (lo : Int), (l.map fun s => s.1).Pairwise (· < ·) → (∀ s, s ∈ l → lo ≤ s.1 ∧ s.1 < (x.sz : Int)) → lo ≤ (x.sz : Int) → (l.length : Int) ≤ (x.sz : Int) - lo := by
          intro l
          induction l with
          | nil => intro lo _ _ h; simp; omega
          | cons a r ih =>
            intro lo hp hin hlo
            rw [List.map_cons, List.pairwise_cons] at hp
            have ha := hin a (by simp)
            have := ih (a.1 + 1) hp.2 (fun s hs => ⟨by have := hp.1 s.1 (List.mem_map.2 ⟨s, hs, rfl⟩); omega, (hin s (by simp [hs])).2⟩) (by omega)
            simp only [List.length_cons]
            omega
        have h2 := this (sitesM y.tm) 1 hp (fun s hs => by
          obtain ⟨h1, h2, _⟩ := hin s hs
          have := x.sz_tm
          exact ⟨by omega, by omega⟩) (by have := x.sz_pos; omega)
        omega
      have := S.sz
      rw [← y.sz_tm, ← x.sz_tm] at this
      omega
    exact ⟨y, i, 0, rfl, ⟨⟨h3, h4, (tsm_tm y).2 (read_tsm x.tm [] 0 y.tm i.ty hok (fun u h => by cases h) h2), hys, Tr.sm_good 44 i h5⟩, .inr (.inr ⟨rfl, h1, h2⟩)⟩, hb⟩
/-- Two checkers' answers for one term are alike. -/
theorem ck_alike {x x' y y' : TT} {i i' : Tr} {ec ec' : Int} {W W' : World} (h : CkI x y i ec W) (h' : CkI x' y' i' ec' W') (hx : x.tm = x'.tm) : y.tm = y'.tm ∧ i.ty = i'.ty ∧ ec = ec' := by
  obtain ⟨_, h⟩ := h
  obtain ⟨_, h'⟩ := h'
  rw [hx] at h
  rcases h with ⟨rfl, a1, a2, a3⟩ | ⟨rfl, ⟨a1, a4⟩, a2, a3⟩ | ⟨rfl, a1, a2⟩ <;> rcases h' with ⟨rfl, b1, b2, b3⟩ | ⟨rfl, ⟨b1, b4⟩, b2, b3⟩ | ⟨rfl, b1, b2⟩
  · exact ⟨a2.trans b2.symm, a3.trans b3.symm, rfl⟩
  · rw [a1] at b1; cases b1
  · rw [a1] at b1; cases b1
  · rw [a1] at b1; cases b1
  · exact ⟨a2.trans b2.symm, a3.trans b3.symm, rfl⟩
  · rw [a4] at b2; cases b2
  · rw [a1] at b1; cases b1
  · rw [a2] at b4; cases b4
  · rw [a2] at b2
    simp only [Option.some.injEq, Prod.mk.injEq] at b2
    exact ⟨b2.1, b2.2, rfl⟩
end Go.Proofs.YtnddkmccagiclaaDoor

/-
  What the call of chaperonelaw.checks answers.
-/
namespace Go.Proofs.YtnddkmccagiclaaDoor
open Go.RowKit
set_option maxRecDepth 20000 in
set_option maxHeartbeats 4000000 in
/-- chaperonelaw.checks. -/
theorem lawChecks_any (w : World) (hg : Gp w) : Calls Tryd.prog 17 #[] w fun e w' => e = .returned (.bool true) ∧ Below w.heap.size w w' := by
  obtain ⟨W1, hW1⟩ : ∃ W1, W1 = w.alloc (.cells #[.int .i64 2, .int .i64 7, .int .i64 0, .slice none 0 0, .int .i64 0, .slice none 0 0, .slice none 0 0] 27) := ⟨_, rfl⟩
  have hb1 : Below w.heap.size w W1 := by rw [hW1]; exact (Below.refl _ _).alloc (Nat.le_refl _) _
  have hin : (TT.mk 9 0 (leaf 0) (leaf 0) (some ⟨w.heap.size, 0, none⟩) 1 [tleaf 2 7]).In W1 := by
    refine TT.In_mk.2 ⟨leaf_in _ _, leaf_in _ _, fun j hj => ⟨w.heap.size, 0, rfl, ?_⟩, fun x hx => ?_⟩
    · have hj0 : j = 0 := by simpa using hj
      subst hj0
      rw [hW1]
      simp only [Nat.zero_mul, Nat.add_zero, List.getElem_cons_zero]
      exact At7.new w (tleaf 2 7)
    · rcases List.mem_singleton.1 hx with rfl
      exact TT.In_mk.2 ⟨leaf_in _ _, leaf_in _ _, fun j hj => absurd hj (by simp), fun x hx => by cases hx⟩
  have htm : (TT.mk 9 0 (leaf 0) (leaf 0) (some ⟨w.heap.size, 0, none⟩) 1 [tleaf 2 7]).tm = C0 := by
    have h1 : (tleaf 2 7).tm = ⟨2, 7, anyY, anyY, []⟩ := tleaf_tm 2 7
    rw [TT.tm_mk, leaf_ty, List.map_cons, List.map_nil, h1]
    rfl
  have HC : Hid (Calls Tryd.prog 13 #[.agg #[.int .i64 9, .int .i64 0, .int .i64 0, .slice none 0 0, .int .i64 0, .slice none 0 0, .slice (some ⟨w.heap.size, 0, none⟩) 1 1]] W1 fun e w2 => ∃ (y z : TT) (i : Tr) (b o : Nat), e = .returned (.tuple #[.agg #[.int .i64 y.k, .int .i64 y.n, .int .i64 y.t.k, .slice y.t.a y.t.l.length y.t.c, .int .i64 y.f.k, .slice y.f.a y.f.l.length y.f.c, .slice (some ⟨b, o, none⟩) 1 y.c], .agg #[.int .i64 0, .slice i.a i.l.length i.c], .int .i64 0]) ∧ Hid (y.tm = C1 ∧ y.In w2 ∧ y.a = some ⟨b, o, none⟩ ∧ y.l.length = 1) ∧ w2.cell? ⟨b, o, none⟩ = some (.int .i64 10) ∧ Below W1.heap.size W1 w2) := by
    have := check_any (TT.mk 9 0 (leaf 0) (leaf 0) (some ⟨w.heap.size, 0, none⟩) 1 [tleaf 2 7]) W1 (hg.below hb1) hin (TT.nb_mk.2 ⟨by omega, fun x hx => by rcases List.mem_singleton.1 hx with rfl; exact TT.nb_mk.2 ⟨by omega, fun y hy => by cases hy⟩⟩)
    refine this.mono ?_
    rintro e w2 ⟨hb, ⟨hn, _⟩ | ⟨_, hn, _⟩ | ⟨_, y, i, hy, rfl, hyi, hii, _⟩⟩
    · rw [htm, C0_good] at hn; cases hn
    · rw [htm, C0_read] at hn; cases hn
    · rw [htm, C0_read] at hy
      have e1 : y.tm = C1 := (congrArg Prod.fst (Option.some.inj hy)).symm
      have e2 : i.ty = anyY := (congrArg Prod.snd (Option.some.inj hy)).symm
      have hik : i.k = 0 := by rw [← Tr.ty_k, e2]; rfl
      have hyl : y.l.map TT.tm = [⟨10, 1, anyY, ⟨1, []⟩, [⟨2, 7, anyY, anyY, []⟩]⟩] := by
        have := congrArg Tm.l e1
        rw [TT.tm_l] at this
        exact this
      obtain ⟨z, hz⟩ : ∃ z, y.l = [z] := by
        have : y.l.length = 1 := by have := congrArg List.length hyl; simpa using this
        exact List.length_eq_one_iff.1 this
      have hzk : z.k = 10 := by
        rw [hz] at hyl
        have := congrArg Tm.k (List.head_eq_of_cons_eq hyl)
        rw [TT.tm_k] at this
        exact this
      obtain ⟨b, o, ea, h7, _⟩ := hyi.part 0 (by rw [hz]; simp)
      have h70 := h7.c0
      simp only [hz, List.getElem_cons_zero, hzk, Nat.zero_mul, Nat.add_zero] at h70
      refine ⟨y, z, i, b, o, by rw [ea, hz, hik]; rfl, ⟨e1, hyi, ea, by rw [hz]; rfl⟩, h70, hb⟩
  have HB1 : Hid (Below w.heap.size w W1) := hb1
  clear hin htm hb1 hg
  go_enter Tryd.func17, Tryd.ntmps17
  go_wp2_with fail
  rw [← hW1]
  clear hW1
  refine HC.out.mono ?_
  rintro e w2 ⟨y, z, i, b, o, rfl, HY, hz0, hb2⟩
  have hB2 : Below w.heap.size w w2 := HB1.out.trans (hb2.mono HB1.out.size)
  have hsz : y.sz ≤ 1000 := by rw [y.sz_tm, HY.out.1, C1_sz]; omega
  have hcok : y.cok := cok_of 44 (by omega) y fun s hs => by
    rw [HY.out.1, C1_sites] at hs
    rcases List.mem_singleton.1 hs with rfl
    exact ⟨goodY_num _, goodY_any _⟩
  obtain ⟨W3, hW3⟩ : ∃ W3, W3 = (w2.alloc (.cells #[.int .i64 y.k, .int .i64 y.n, .int .i64 y.t.k, .slice y.t.a y.t.l.length y.t.c, .int .i64 y.f.k, .slice y.f.a y.f.l.length y.f.c, .slice (some ⟨b, o, none⟩) 1 y.c] 27)).alloc (.cells #[.int .i64 0, .slice i.a i.l.length i.c] 24) := ⟨_, rfl⟩
  have hA : Below w2.heap.size w2 W3 := by rw [hW3]; exact ((Below.refl _ _).alloc (Nat.le_refl _) _).alloc (by simp) _
  have h0 : W3.cell? ⟨b, o, none⟩ = some (.int .i64 10) := cell_later hA hz0
  have HSI : Hid (Calls Tryd.prog 19 #[.agg #[.int .i64 y.k, .int .i64 y.n, .int .i64 y.t.k, .slice y.t.a y.t.l.length y.t.c, .int .i64 y.f.k, .slice y.f.a y.f.l.length y.f.c, .slice (some ⟨b, o, none⟩) 1 y.c]] W3 fun e w' => ∃ (a : Option Addr) (c : Nat), e = .returned (.slice a 1 c) ∧ Below W3.heap.size W3 w') := by
    have := sites_any y W3 (HY.out.2.1.below hA) hsz hcok
    rw [HY.out.2.2.1, HY.out.2.2.2] at this
    refine this.mono ?_
    rintro e w' ⟨ss, a, c, rfl, _, hm, hb⟩
    have hl : ss.length = 1 := by
      have := congrArg List.length hm
      rw [HY.out.1, C1_sites] at this
      simpa using this
    exact ⟨a, c, by rw [hl], hb⟩
  have q0 : W3.cell? ⟨w2.heap.size + 1, 0, none⟩ = some (.int .i64 0) := by rw [hW3]; simp [go_sem]
  have HE : Hid (Below w.heap.size w W3) := hB2.trans (hA.mono hB2.size)
  have r0 : W3.cell? ⟨w2.heap.size, 0, none⟩ = some (.int .i64 y.k) := by rw [hW3]; simp [go_sem]
  have r1 : W3.cell? ⟨w2.heap.size, 1, none⟩ = some (.int .i64 y.n) := by rw [hW3]; simp [go_sem]
  have r2 : W3.cell? ⟨w2.heap.size, 2, none⟩ = some (.int .i64 y.t.k) := by rw [hW3]; simp [go_sem]
  have r3 : W3.cell? ⟨w2.heap.size, 3, none⟩ = some (.slice y.t.a y.t.l.length y.t.c) := by rw [hW3]; simp [go_sem]
  have r4 : W3.cell? ⟨w2.heap.size, 4, none⟩ = some (.int .i64 y.f.k) := by rw [hW3]; simp [go_sem]
  have r5 : W3.cell? ⟨w2.heap.size, 5, none⟩ = some (.slice y.f.a y.f.l.length y.f.c) := by rw [hW3]; simp [go_sem]
  have r6 : W3.cell? ⟨w2.heap.size, 6, none⟩ = some (.slice (some ⟨b, o, none⟩) 1 y.c) := by rw [hW3]; simp [go_sem]
  clear hsz hcok hA hB2 hb2 HY HC HB1 hz0
  go_upto_region 2 with fail
  rw [← hW3]
  clear hW3
  go_wp2_with fail
  refine HSI.out.mono ?_
  rintro e w4 ⟨a, c, rfl, hb4⟩
  have HN : Hid (Below w.heap.size w w4) := HE.out.trans (hb4.mono HE.out.size)
  clear hb4 HSI HE h0 q0
  go_wp2_with fail
  go_ret
  exact ⟨rfl, HN.out⟩
end Go.Proofs.YtnddkmccagiclaaDoor
