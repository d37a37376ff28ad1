/-
  What the calls of ref's right and IsTerm answer at every term that lies in memory.
-/
import Derived.Test.YtnddkmccagiclaaGreatDoorLot61f0038289
import Derived.Test.YtnddkmccagiclaaGreatDoorLot659ec22ce0
import Derived.OpenShut
import Derived.Test.YtnddkmccagiclaaGreatDoorLot914012f14a
import Derived.Test.YtnddkmccagiclaaGreatDoorLot5a19ec12aa
import Derived.Test.YtnddkmccagiclaaGreatDoorLotd69e488c8b
import Derived.IntWalk
import Derived.Test.YtnddkmccagiclaaGreatDoorLotbee073f4cf
namespace Go.Proofs.YtnddkmccagiclaaGreatDoor
open Go.RowKit

/-- Each number within a term is one of sixty-four bits, its types and lists are of at most so many nodes. -/
def TT.ok (m : Nat) : TT → Prop
  | ⟨k, n, t, f, _, _, l⟩ => ((Lit.int .i64 k).wf = true ∧ (Lit.int .i64 n).wf = true ∧ t.sz ≤ m ∧ f.sz ≤ m ∧ l.length ≤ m) ∧ ∀ y, y ∈ l → y.ok m
theorem TT.ok_mk {m : Nat} {k n : Int} {t f : Tr} {a : Option Addr} {c : Nat} {l : List TT} : (TT.mk k n t f a c l).ok m ↔ ((Lit.int .i64 k).wf = true ∧ (Lit.int .i64 n).wf = true ∧ t.sz ≤ m ∧ f.sz ≤ m ∧ l.length ≤ m) ∧ ∀ y, y ∈ l → y.ok m := by
  rw [TT.ok]
theorem TT.ok.top {m : Nat} {x : TT} (h : x.ok m) : (Lit.int .i64 x.k).wf = true ∧ (Lit.int .i64 x.n).wf = true ∧ x.t.sz ≤ m ∧ x.f.sz ≤ m ∧ x.l.length ≤ m := by cases x; exact (TT.ok_mk.1 h).1
theorem TT.ok.mem {m : Nat} {x y : TT} (h : x.ok m) (hy : y ∈ x.l) : y.ok m := by
  obtain ⟨k, n, t, f, a, c, l⟩ := x
  exact (TT.ok_mk.1 h).2 y hy

theorem tsz_mem : ∀ (l : List Tr) (t : Tr), t ∈ l → t.sz ≤ (l.map Tr.sz).sum
  | [], _, h => by cases h
  | y :: r, t, h => by
    rcases List.mem_cons.1 h with rfl | h
    · simp
    · have := tsz_mem r t h
      simp; omega

theorem maxes_le : ∀ (l : List Nat) (m : Nat), (∀ x, x ∈ l → x ≤ m) → l.foldr max 0 ≤ m
  | [], m, _ => by simp
  | x :: r, m, h => by
    have h1 := maxes_le r m fun y hy => h y (by simp [hy])
    have h2 := h x (by simp)
    simp only [List.foldr_cons]; omega

theorem Tr.hgt_sz (t : Tr) : t.hgt ≤ t.sz := by
  induction t using Tr.ind with
  | h k a c l ih =>
    rw [Tr.hgt_mk, Tr.sz_mk]
    have : (l.map Tr.hgt).foldr max 0 ≤ (l.map Tr.sz).sum := by
      refine maxes_le _ _ fun x hx => ?_
      obtain ⟨t, ht, rfl⟩ := List.mem_map.1 hx
      exact Nat.le_trans (ih t ht) (tsz_mem l t ht)
    omega

theorem tlen_sz : ∀ (l : List Tr), l.length ≤ (l.map Tr.sz).sum
  | [] => by simp
  | t :: r => by
    have := tlen_sz r
    have := t.sz_pos
    simp; omega

theorem Tr.sm_sz (t : Tr) (h : t.sz ≤ 100000000) : t.sm := by
  induction t using Tr.ind with
  | h k a c l ih =>
    rw [Tr.sz_mk] at h
    refine Tr.sm_mk.2 ⟨?_, fun t ht => ih t ht ?_⟩
    · have := tlen_sz l
      omega
    · have := tsz_mem l t ht
      omega

theorem TT.ok.tsm {m : Nat} (hm : m ≤ 100000000) {x : TT} : x.ok m → x.tsm := by
  induction x using TT.ind with
  | h k n t f a c l ih =>
    intro h
    obtain ⟨⟨_, _, ht, hf, _⟩, hl⟩ := TT.ok_mk.1 h
    exact TT.tsm_mk.2 ⟨t.sm_sz (by omega), f.sm_sz (by omega), fun y hy => ih y hy (hl y hy)⟩
theorem TT.ok.csz {m : Nat} (hm : m ≤ 100000000) {x : TT} : x.ok m → x.csz := by
  induction x using TT.ind with
  | h k n t f a c l ih =>
    intro h
    obtain ⟨⟨_, _, ht, hf, _⟩, hl⟩ := TT.ok_mk.1 h
    exact TT.csz_mk.2 ⟨by omega, by omega, fun y hy => ih y hy (hl y hy)⟩
theorem TT.ok.lw {m : Nat} (hm : m ≤ 100000000) {x : TT} : x.ok m → x.lw := by
  induction x using TT.ind with
  | h k n t f a c l ih =>
    intro h
    obtain ⟨⟨_, _, _, _, hk⟩, hl⟩ := TT.ok_mk.1 h
    exact TT.lw_mk.2 ⟨by omega, fun y hy => ih y hy (hl y hy)⟩
theorem TT.ok.nb {m : Nat} {x : TT} : x.ok m → x.nb := by
  induction x using TT.ind with
  | h k n t f a c l ih =>
    intro h
    obtain ⟨⟨_, hn, _, _, _⟩, hl⟩ := TT.ok_mk.1 h
    exact TT.nb_mk.2 ⟨(bounds_i64 hn).2, fun y hy => ih y hy (hl y hy)⟩

theorem rightM_all (ar : Int) (x : TT) (own : Int) (h1 : 1 ≤ x.k) (h9 : x.k ≤ 9) (hp : x.l.length = partsOf x.k) (hf : relY escSame x.f.ty ⟨0, []⟩ = true) :
    (okNum ar own x.k x.n && (if tells x.k = true then goodY 4 x.t.ty else isAnyY x.t.ty) && x.l.all fun y => rightM ar y.tm (insOf x.k own)) = rightM ar x.tm own := by
  obtain ⟨k, n, t, f, a, c, l⟩ := x
  rw [TT.tm_mk, rightM_mk]
  have e1 : decide (1 ≤ k) = true := by simpa using h1
  have e9 : decide (k ≤ 9) = true := by simpa using h9
  have ep : ((l.map TT.tm).length == partsOf k) = true := by simpa using hp
  have ef : isAnyY f.ty = true := hf
  have el : ((l.map TT.tm).all fun y => rightM ar y (insOf k own)) = (l.all fun y => rightM ar y.tm (insOf k own)) := by rw [List.all_map]; rfl
  simp only [okTop, okTypes, e1, e9, ep, ef, Bool.true_and, el]
  cases okNum ar own k n <;> cases (if tells k = true then goodY 4 t.ty else isAnyY t.ty) <;> rfl

theorem rightM_not (ar : Int) (x : TT) (own : Int) (h : okTop ar own x.tm = false) : rightM ar x.tm own = false := by
  obtain ⟨k, n, t, f, a, c, l⟩ := x
  rw [TT.tm_mk] at h
  rw [TT.tm_mk, rightM_mk, h]
  rfl

/-- right. -/
theorem right_any (ar : Int) : ∀ (m : Nat) (x : TT) (own : Int) (w : World), x.In w → x.sz ≤ m → x.ok 100000000 → 0 ≤ own → own + (m : Int) ≤ 1000000000 →
    Calls Tryz.prog 25 #[.agg #[.int .i64 x.k, .int .i64 x.n, .int .i64 x.t.k, .slice x.t.a x.t.l.length x.t.c, .int .i64 x.f.k, .slice x.f.a x.f.l.length x.f.c, .slice x.a x.l.length x.c], .int .i64 ar, .int .i64 own] w fun e w' => e = .returned (.bool (rightM ar x.tm own)) ∧ Below w.heap.size w w' := by
  intro m
  induction m with
  | zero =>
    intro x own w _ h
    have := x.sz_pos
    omega
  | succ m ih =>
    intro x own w hx hm hok h0 h1
    obtain ⟨hkw, hnw, ht, hf, _⟩ := hok.top
    by_cases hk : x.k < 1 ∨ 9 < x.k
    · rw [rightM_not ar x own (by simp only [okTop, TT.tm_k]; rcases hk with h | h <;> simp <;> omega)]
      exact right_kind x ar own w hk
    by_cases hl : x.l.length = partsOf x.k
    · by_cases hfe : relY escSame x.f.ty ⟨0, []⟩ = true
      · rw [← rightM_all ar x own (by omega) (by omega) hl hfe]
        have h3 : x.l.length ≤ 3 := by rw [hl]; unfold partsOf; split <;> (try split) <;> (try split) <;> omega
        refine right_main x ar own w hx hkw (by omega) (by omega) hl 100000000 (Nat.le_trans x.f.hgt_sz hf) (x.f.sm_sz hf) hfe (by omega) (Nat.le_trans x.t.hgt_sz ht) (x.t.sm_sz ht) (bounds_i64 hnw).2 h0 (by omega) h3 ?_
        intro j hj W hin
        have hs : x.l[j].sz ≤ m := by
          have h1 := x.sz_eq
          have h2 : x.l[j].sz ≤ (x.l.map TT.sz).sum := by
            have : ∀ (l : List TT) (y : TT), y ∈ l → y.sz ≤ (l.map TT.sz).sum := by
              intro l
              induction l with
              | nil => intro y h; cases h
              | cons a r ih =>
                intro y h
                rcases List.mem_cons.1 h with rfl | h
                · simp
                · have := ih y h
                  simp; omega
            exact this x.l _ (List.getElem_mem hj)
          omega
        have hi : 0 ≤ insOf x.k own ∧ insOf x.k own ≤ own + 1 := by unfold insOf; split <;> omega
        exact ih x.l[j] (insOf x.k own) W hin hs (hok.mem (List.getElem_mem hj)) hi.1 (by omega)
      · have hfe' : relY escSame x.f.ty ⟨0, []⟩ = false := by simpa using hfe
        rw [rightM_not ar x own (by simp only [okTop, okTypes, TT.tm_f, isAnyY, anyY, hfe']; simp)]
        exact right_from x ar own w hx hkw (by omega) (by omega) hl 100000000 (Nat.le_trans x.f.hgt_sz hf) (x.f.sm_sz hf) hfe'
    · rw [rightM_not ar x own (by simp only [okTop, TT.tm_k, TT.tm_l]; simp [hl])]
      exact right_parts x ar own w hkw (by omega) (by omega) hl

set_option maxRecDepth 20000 in
set_option maxHeartbeats 1000000 in
/-- IsTerm. -/
theorem isTerm_any (x : TT) (ar : Int) (w : World) (hx : x.In w) (hsz : x.sz ≤ 2000000) (hok : x.ok 100000000) :
    Calls Tryz.prog 10 #[.agg #[.int .i64 x.k, .int .i64 x.n, .int .i64 x.t.k, .slice x.t.a x.t.l.length x.t.c, .int .i64 x.f.k, .slice x.f.a x.f.l.length x.f.c, .slice x.a x.l.length x.c], .int .i64 ar] w fun e w' => e = .returned (.bool (goodM ar x.tm)) ∧ Below w.heap.size w w' := by
  have HN : Hid (∀ W, x.In W → Calls Tryz.prog 12 #[.agg #[.int .i64 x.k, .int .i64 x.n, .int .i64 x.t.k, .slice x.t.a x.t.l.length x.t.c, .int .i64 x.f.k, .slice x.f.a x.f.l.length x.f.c, .slice x.a x.l.length x.c]] W fun e w' => e = .returned (.int .i64 (x.sz : Int)) ∧ Below W.heap.size W w') := fun W h => nodesOf_any x W h hsz
  have HR : Hid (∀ W, x.In W → Calls Tryz.prog 25 #[.agg #[.int .i64 x.k, .int .i64 x.n, .int .i64 x.t.k, .slice x.t.a x.t.l.length x.t.c, .int .i64 x.f.k, .slice x.f.a x.f.l.length x.f.c, .slice x.a x.l.length x.c], .int .i64 ar, .int .i64 0] W fun e w' => e = .returned (.bool (rightM ar x.tm 0)) ∧ Below W.heap.size W w') := fun W h => right_any ar x.sz x 0 W h (Nat.le_refl _) hok (by omega) (by omega)
  have HG : Hid (goodM ar x.tm = (decide (x.sz < 41) && rightM ar x.tm 0)) := by rw [x.sz_tm]; exact goodM_right ar x.tm
  obtain ⟨g, hg⟩ : ∃ g, g = goodM ar x.tm := ⟨_, rfl⟩
  rw [← hg] at HG ⊢
  clear hg
  obtain ⟨W1, hW1⟩ : ∃ W, W = w.alloc (.cells #[.int .i64 x.k, .int .i64 x.n, .int .i64 x.t.k, .slice x.t.a x.t.l.length x.t.c, .int .i64 x.f.k, .slice x.f.a x.f.l.length x.f.c, .slice x.a x.l.length x.c] 27) := ⟨_, rfl⟩
  have hb1 : Below w.heap.size w W1 := by rw [hW1]; exact (Below.refl _ _).alloc (Nat.le_refl _) _
  obtain ⟨SZ, hSZ⟩ : ∃ S : Int, S = (x.sz : Int) := ⟨_, rfl⟩
  obtain ⟨r, hr⟩ : ∃ r, r = rightM ar x.tm 0 := ⟨_, rfl⟩
  rw [← hr] at HG
  have HP : Hid (∀ W, Below W1.heap.size W1 W → Calls Tryz.prog 12 #[.agg #[.int .i64 x.k, .int .i64 x.n, .int .i64 x.t.k, .slice x.t.a x.t.l.length x.t.c, .int .i64 x.f.k, .slice x.f.a x.f.l.length x.f.c, .slice x.a x.l.length x.c]] W fun e w' => e = .returned (.int .i64 SZ) ∧ Below W1.heap.size W1 w') := fun W hW => by
    refine (HN.out W (hx.below (hb1.trans (hW.mono hb1.size)))).mono ?_
    rintro e w' ⟨rfl, hb⟩
    rw [hSZ]
    exact ⟨rfl, hW.trans (hb.mono hW.size)⟩
  have HQ : Hid (∀ W, Below W1.heap.size W1 W → Calls Tryz.prog 25 #[.agg #[.int .i64 x.k, .int .i64 x.n, .int .i64 x.t.k, .slice x.t.a x.t.l.length x.t.c, .int .i64 x.f.k, .slice x.f.a x.f.l.length x.f.c, .slice x.a x.l.length x.c], .int .i64 ar, .int .i64 0] W fun e w' => e = .returned (.bool r) ∧ Below W1.heap.size W1 w') := fun W hW => by
    refine (HR.out W (hx.below (hb1.trans (hW.mono hb1.size)))).mono ?_
    rintro e w' ⟨rfl, hb⟩
    rw [hr]
    exact ⟨rfl, hW.trans (hb.mono hW.size)⟩
  have h7 : At7 W1 w.heap.size 0 x := by constructor <;> (rw [hW1]; simp [go_sem])
  have HK : Hid (∀ W, Below W1.heap.size W1 W → W.cell? ⟨w.heap.size, 0, none⟩ = some (.int .i64 x.k) ∧ W.cell? ⟨w.heap.size, 1, none⟩ = some (.int .i64 x.n) ∧ W.cell? ⟨w.heap.size, 2, none⟩ = some (.int .i64 x.t.k) ∧ W.cell? ⟨w.heap.size, 3, none⟩ = some (.slice x.t.a x.t.l.length x.t.c) ∧ W.cell? ⟨w.heap.size, 4, none⟩ = some (.int .i64 x.f.k) ∧ W.cell? ⟨w.heap.size, 5, none⟩ = some (.slice x.f.a x.f.l.length x.f.c) ∧ W.cell? ⟨w.heap.size, 6, none⟩ = some (.slice x.a x.l.length x.c)) := fun W hW => by
    obtain ⟨a0, a1, a2, a3, a4, a5, a6⟩ := h7.below hW
    simp only [Nat.zero_add] at a0 a1 a2 a3 a4 a5 a6
    exact ⟨a0, a1, a2, a3, a4, a5, a6⟩
  have HB : Hid (Below w.heap.size w W1) := hb1
  obtain ⟨d0, d1, d2, d3, d4, d5, d6⟩ := HK.out W1 (Below.refl _ _)
  have lw1 : w.heap.size < W1.heap.size := World.block_lt_of_cell? _ _ d0
  by_cases h41 : x.sz < 41
  · have e1 : decide (SZ < 41) = true := by simp; omega
    have HE : Hid (g = r) := by
      have := HG.out
      rw [show decide (x.sz < 41) = true by simpa using h41, Bool.true_and] at this
      exact this
    clear hb1 h7 hx hsz hok HN HR hSZ hr h41 HG
    go_enter Tryz.func10, Tryz.ntmps10
    go_upto_region 1 with fail
    rw [← hW1]
    clear hW1
    go_wp2_with (first
      | (go_at_call 12; refine (HP.out _ (Below.refl _ _)).mono ?_; rintro e w2 ⟨rfl, hb2⟩; obtain ⟨d0, d1, d2, d3, d4, d5, d6⟩ := HK.out _ hb2; have lw2 : w.heap.size < w2.heap.size := World.block_lt_of_cell? _ _ d0)
      | (go_at_call 25; refine (HQ.out _ hb2).mono ?_; rintro e w3 ⟨rfl, hb3⟩))
    have HZ : Hid (Below w.heap.size w w3) := HB.out.trans (hb3.mono HB.out.size)
    clear hb3 hb2
    go_ret
    exact ⟨by rw [HE.out]; cases r <;> rfl, HZ.out⟩
  · have e1 : decide (SZ < 41) = false := by simp; omega
    have HE : Hid (g = false) := by
      have := HG.out
      rw [show decide (x.sz < 41) = false by simpa using h41, Bool.false_and] at this
      exact this
    clear hb1 h7 hx hsz hok HN HR hSZ hr h41 HG HQ
    go_enter Tryz.func10, Tryz.ntmps10
    go_upto_region 1 with fail
    rw [← hW1]
    clear hW1
    go_wp2_with (first
      | (go_at_call 12; refine (HP.out _ (Below.refl _ _)).mono ?_; rintro e w2 ⟨rfl, hb2⟩; obtain ⟨d0, d1, d2, d3, d4, d5, d6⟩ := HK.out _ hb2; have lw2 : w.heap.size < w2.heap.size := World.block_lt_of_cell? _ _ d0))
    have HZ : Hid (Below w.heap.size w w2) := HB.out.trans (hb2.mono HB.out.size)
    clear hb2
    go_ret
    exact ⟨by rw [HE.out]; cases r <;> rfl, HZ.out⟩
end Go.Proofs.YtnddkmccagiclaaGreatDoor

/-
  How great the type of a term is at most; no program in it.
-/
namespace Go.Proofs.YtnddkmccagiclaaGreatDoor

def Ty.sz : Ty → Nat
  | ⟨_, l⟩ => (l.map fun t => t.sz).sum + 1
theorem Ty.sz_mk (k : Int) (l : List Ty) : (Ty.mk k l).sz = (l.map Ty.sz).sum + 1 := by
  rw [Ty.sz]

theorem Tr.sz_ty (t : Tr) : t.sz = t.ty.sz := by
  induction t using Tr.ind with
  | h k a c l ih =>
    rw [Tr.ty_mk, Tr.sz_mk, Ty.sz_mk, List.map_map]
    have : l.map Tr.sz = l.map (Ty.sz ∘ Tr.ty) := List.map_congr_left fun x hx => ih x hx
    rw [this]

theorem goodY_sz : ∀ (n : Nat) (t : Ty), goodY n t = true → t.sz + 1 ≤ 2 ^ n
  | 0, t, h => by simp [goodY] at h
  | n + 1, t, h => by
    have hp : 1 ≤ 2 ^ n := Nat.one_le_two_pow
    rw [Nat.pow_succ]
    rcases goodY_cases h with ⟨k, rfl, _⟩ | ⟨x, y, rfl, hx, hy⟩
    · rw [Ty.sz_mk]; simp; omega
    · have h1 := goodY_sz n x hx
      have h2 := goodY_sz n y hy
      rw [Ty.sz_mk]
      simp only [List.map_cons, List.map_nil, List.sum_cons, List.sum_nil]; omega

theorem sz_leaf (k : Int) : (Ty.mk k []).sz = 1 := by simp [Ty.sz_mk]

theorem join_sz : ∀ (n : Nat) (a b : Ty), goodY n a = true → goodY n b = true → (joinY a b).sz ≤ a.sz
  | 0, a, b, h, _ => by simp [goodY] at h
  | n + 1, a, b, ha, hb => by
    have any1 : ∀ t : Ty, (Ty.mk 0 []).sz ≤ t.sz := fun t => by
      obtain ⟨k, l⟩ := t
      rw [sz_leaf, Ty.sz_mk]; omega
    rcases goodY_cases ha with ⟨k, rfl, hk⟩ | ⟨x, y, rfl, hx, hy⟩
    · rcases goodY_cases hb with ⟨k', rfl, hk'⟩ | ⟨x', y', rfl, hx', hy'⟩
      · rw [joinY_mk]
        split
        · simp [joinL]
        · exact any1 _
      · have e : k ≠ 3 := by omega
        rw [joinY_mk, if_neg e]
        exact any1 _
    · rcases goodY_cases hb with ⟨k', rfl, hk'⟩ | ⟨x', y', rfl, hx', hy'⟩
      · have e : (3 : Int) ≠ k' := by omega
        rw [joinY_mk, if_neg e]
        exact any1 _
      · rw [join_two, Ty.sz_mk, Ty.sz_mk]
        have h1 := join_sz n x x' hx hx'
        have h2 := join_sz n y y' hy hy'
        simp only [List.map_cons, List.map_nil, List.sum_cons, List.sum_nil]
        omega

theorem getD_sz {M : Nat} {l : List Ty} (h : ∀ u, u ∈ l → u.sz ≤ M) (hM : 1 ≤ M) (j : Nat) : (l.getD j ⟨0, []⟩).sz ≤ M := by
  rw [List.getD_eq_getElem?_getD]
  cases hj : l[j]? with
  | none => simpa [sz_leaf] using hM
  | some u => exact h u (List.mem_of_getElem? hj)

theorem rule_sz {k n : Int} {t : Ty} {ps takes : List Ty} {i : Ty} {us : List Ty} (m M : Nat) (h1 : 1 ≤ k) (h9 : k ≤ 9) (ht : goodY 4 t = true) (hT : ∀ u, u ∈ takes → goodY 4 u = true) (hm : 1 ≤ m) (hp : ∀ u, u ∈ ps → goodY m u = true) (hpM : ∀ u, u ∈ ps → u.sz ≤ M)
    (h : ruleY k n t ps takes = some (i, us)) : i.sz ≤ M + 17 := by
  have hk : k = 1 ∨ k = 2 ∨ k = 3 ∨ k = 4 ∨ k = 5 ∨ k = 6 ∨ k = 7 ∨ k = 8 ∨ k = 9 := by omega
  have s4 : ∀ u, goodY 4 u = true → u.sz ≤ 15 := fun u hu => by have := goodY_sz 4 u hu; omega
  have hpd : ∀ j, (ps.getD j ⟨0, []⟩).sz ≤ M + 1 := fun j => getD_sz (fun u hu => by have := hpM u hu; omega) (by omega) j
  rcases hk with rfl | rfl | rfl | rfl | rfl | rfl | rfl | rfl | rfl
  · have h' : some (takes.getD n.toNat ⟨0, []⟩, []) = some (i, us) := by simpa [ruleY] using h
    cases h'
    have := getD_sz (M := 15) (fun u hu => s4 u (hT u hu)) (by omega) n.toNat
    omega
  · simp [ruleY] at h
    rw [← h.1, sz_leaf]; omega
  · simp [ruleY] at h
    rw [← h.1, sz_leaf]; omega
  · simp [ruleY] at h
    rw [← h.1, sz_leaf]; omega
  · simp [ruleY] at h
    rw [← h.1, sz_leaf]; omega
  · have h' : ifY ⟨2, []⟩ (ps.getD 1 ⟨0, []⟩) (ps.getD 2 ⟨0, []⟩) = some (i, us) := by simpa [ruleY] using h
    unfold ifY at h'
    split at h'
    · cases h'
      have := join_sz m _ _ (getD_good hp hm 1) (getD_good hp hm 2)
      have := hpd 1
      omega
    · cases h'
  · have h' : some (Ty.mk 3 [t, ps.getD 0 ⟨0, []⟩], ps) = some (i, us) := by simpa [ruleY] using h
    cases h'
    rw [Ty.sz_mk]
    have := s4 t ht
    have h0 : ps = [] ∨ ∃ u, u ∈ ps ∧ ps.getD 0 ⟨0, []⟩ = u := by
      cases ps with
      | nil => exact .inl rfl
      | cons a r => exact .inr ⟨a, by simp, by simp⟩
    rcases h0 with rfl | ⟨u, hu, e⟩
    · simp [sz_leaf]; omega
    · rw [e]
      have := hpM u hu
      simp only [List.map_cons, List.map_nil, List.sum_cons, List.sum_nil]
      omega
  · have h' : callY (ps.getD 0 ⟨0, []⟩) = some (i, us) := by simpa [ruleY] using h
    have hs := hpd 0
    have hg := getD_good hp hm 0
    generalize ps.getD 0 ⟨0, []⟩ = q at h' hs hg
    obtain ⟨m, rfl⟩ : ∃ r, m = r + 1 := ⟨m - 1, by omega⟩
    rcases goodY_cases hg with ⟨k, rfl, hk⟩ | ⟨x, y, rfl, hx, hy⟩
    · rcases hk with rfl | rfl | rfl
      · simp [callY] at h'
        rw [← h'.1, sz_leaf]; omega
      · simp [callY] at h'
      · simp [callY] at h'
    · simp [callY] at h'
      rw [Ty.sz_mk] at hs
      simp only [List.map_cons, List.map_nil, List.sum_cons, List.sum_nil] at hs
      rw [← h'.1]
      omega
  · have h' : some (t, [t]) = some (i, us) := by simpa [ruleY] using h
    cases h'
    have := s4 _ ht
    omega

/-- A type is not much greater than its term. -/
theorem read_sz : ∀ (x : Tm) (takes : List Ty) (c : Nat) (y : Tm) (i : Ty), okTm x takes.length → (∀ u, u ∈ takes → goodY 4 u = true) → readS x takes c = some (y, i) → i.sz ≤ 17 * x.sz := by
  intro x
  induction x using Tm.ind with
  | h k n t f l ih =>
    intro takes c y i hok hT h
    obtain ⟨h0, h1⟩ := okTm_mk.1 hok
    obtain ⟨k1, k9, hl, _, ht, _, _⟩ := okTop_all h0
    obtain ⟨ps, us, e1, e2, _, _⟩ := readS_some h
    have hlen := readL_length _ _ _ _ e1
    have hp : ∀ u, u ∈ ps.map (fun p => p.2.2) → goodY ((l.map Tm.sz).sum + 4) u = true ∧ u.sz ≤ 17 * (l.map Tm.sz).sum := by
      intro u hu
      obtain ⟨j, hj, rfl⟩ := List.getElem_of_mem hu
      have hj' : j < ps.length := by simpa using hj
      have := readL_all (Q := fun x _ _ i => goodY (x.sz + 4) i = true ∧ i.sz ≤ 17 * x.sz) l _ ps e1 (fun x hx c y i hr => ⟨read_good x _ c y i (by rw [takesIn_length]; exact h1 x hx) (takesIn_good ht hT) hr, ih x hx _ c y i (by rw [takesIn_length]; exact h1 x hx) (takesIn_good ht hT) hr⟩) j hj' (by omega)
      have hs := sz_mem l l[j] (List.getElem_mem _)
      have h2 := goodY_more _ ((l.map Tm.sz).sum + 4) _ (by omega) this.1
      have h3 : (ps[j].2.2).sz ≤ 17 * (l.map Tm.sz).sum := by have := this.2; omega
      simpa using And.intro h2 h3
    have := rule_sz ((l.map Tm.sz).sum + 4) (17 * (l.map Tm.sz).sum) k1 k9 ht (takesIn_good ht hT) (by omega) (fun u hu => (hp u hu).1) (fun u hu => (hp u hu).2) e2
    rw [Tm.sz_mk]
    omega
end Go.Proofs.YtnddkmccagiclaaGreatDoor

/-
  Of a text's trees and of the terms that trees tell: how large they are; plain.
-/
namespace Go.Proofs.YtnddkmccagiclaaGreatDoor

theorem flat_ofA (t : Tn) (h : t.o = true) : t.flat = [40] :: (flatL t.l ++ [[41]]) := by
  obtain ⟨w, l, o⟩ := t
  obtain rfl : o = true := h
  exact flat_open w l

theorem kindT_sz : ∀ (n : Nat) (x : Tn) (t : Ty), kindT n x = some t → t.sz ≤ x.flat.length
  | 0, _, _, h => by simp [kindT] at h
  | n + 1, x, t, h => by
    rw [kindT] at h
    by_cases ho : x.o = false
    · rw [if_pos ho] at h
      obtain ⟨k, _, rfl⟩ := Option.map_eq_some_iff.1 h
      have := flat_pos x
      rw [Ty.sz_mk]
      simpa using this
    · rw [if_neg ho] at h
      split at h
      · rename_i a b c hl
        split at h
        · obtain ⟨p, hp, h⟩ := Option.bind_eq_some_iff.1 h
          obtain ⟨q, hq, rfl⟩ := Option.map_eq_some_iff.1 h
          have h1 := kindT_sz n b p hp
          have h2 := kindT_sz n c q hq
          rw [flat_ofA x (by simpa using ho), hl]
          simp only [flatL_cons, flatL_nil, List.append_nil, List.length_cons, List.length_append, List.length_nil]
          rw [Ty.sz_mk]
          simp only [List.map_cons, List.map_nil, List.sum_cons, List.sum_nil]
          omega
        · cases h
      · cases h

/-- Kinds and numbers are whole numbers of 64 bits, types and lists are small. -/
def okM (m : Nat) : Tm → Prop
  | ⟨k, n, t, f, l⟩ => ((Lit.int .i64 k).wf = true ∧ (Lit.int .i64 n).wf = true ∧ t.sz ≤ m ∧ f.sz ≤ m ∧ l.length ≤ m) ∧ ∀ y, y ∈ l → okM m y
theorem okM_mk {m : Nat} {k n : Int} {t f : Ty} {l : List Tm} : okM m ⟨k, n, t, f, l⟩ ↔ ((Lit.int .i64 k).wf = true ∧ (Lit.int .i64 n).wf = true ∧ t.sz ≤ m ∧ f.sz ≤ m ∧ l.length ≤ m) ∧ ∀ y, y ∈ l → okM m y := by
  rw [okM]

theorem ok_tm {m : Nat} (x : TT) : okM m x.tm → x.ok m := by
  induction x using TT.ind with
  | h k n t f a c l ih =>
    intro h
    rw [TT.tm_mk] at h
    obtain ⟨⟨h1, h2, h3, h4, h5⟩, h6⟩ := okM_mk.1 h
    exact TT.ok_mk.2 ⟨⟨h1, h2, by rw [Tr.sz_ty]; exact h3, by rw [Tr.sz_ty]; exact h4, by simpa using h5⟩, fun y hy => ih y hy (h6 _ (List.mem_map.2 ⟨y, hy, rfl⟩))⟩

theorem wf_small (v : Int) (h : -9999999 ≤ v ∧ v ≤ 9999999) : (Lit.int .i64 v).wf = true := by
  have h1 : IntKind.i64.min = -9223372036854775808 := by decide
  have h2 : IntKind.i64.max = 9223372036854775807 := by decide
  simp [Lit.wf, h1, h2]
  omega

theorem wordT_ok {w : List UInt8} {i : Tm} (h : wordT w = some i) : okM 3000 i ∧ i.sz = 1 := by
  have leafok : ∀ k n : Int, (-9999999 ≤ k ∧ k ≤ 9999999) → (-9999999 ≤ n ∧ n ≤ 9999999) → okM 3000 ⟨k, n, anyY, anyY, []⟩ ∧ (Tm.mk k n anyY anyY []).sz = 1 := fun k n hk hn =>
    ⟨okM_mk.2 ⟨⟨wf_small k hk, wf_small n hn, by rw [anyY, Ty.sz_mk]; simp, by rw [anyY, Ty.sz_mk]; simp, by simp⟩, fun y hy => by cases hy⟩, by rw [Tm.sz_mk]; simp⟩
  cases ha : atWord (bw w) truthWs 0 with
  | some b =>
    rw [wordT_truth w b ha] at h
    obtain rfl := Option.some.inj h
    have hb : b ≤ 1 := by
      simp only [truthWs, atWord] at ha
      split at ha
      · have := Option.some.inj ha; omega
      · split at ha
        · have := Option.some.inj ha; omega
        · cases ha
    exact leafok 3 b (by omega) (by omega)
  | none =>
    rcases hash_or w with ⟨d, rfl⟩ | hw
    · rw [wordT_hash d ha] at h
      obtain ⟨n, hn, rfl⟩ := Option.map_eq_some_iff.1 h
      exact leafok 1 n (by omega) (numT_of hn).2
    · rw [wordT_num w ha hw] at h
      obtain ⟨n, hn, rfl⟩ := Option.map_eq_some_iff.1 h
      exact leafok 2 n (by omega) (numT_of hn).2

theorem allO_facts {f : Tn → Option Tm} {Q : Tn → Tm → Prop} (hf : ∀ x t, f x = some t → Q x t) : ∀ (l : List Tn) (ts : List Tm), (∀ x, x ∈ l → True) → allO f l = some ts → ts.length = l.length ∧ ∀ i (h : i < l.length) (h' : i < ts.length), Q l[i] ts[i]
  | [], ts, _, h => by
    obtain rfl := Option.some.inj h
    exact ⟨rfl, fun i h => by cases h⟩
  | x :: l, ts, _, h => by
    rw [allO] at h
    obtain ⟨t, ht, h⟩ := Option.bind_eq_some_iff.1 h
    obtain ⟨us, hu, rfl⟩ := Option.map_eq_some_iff.1 h
    obtain ⟨h1, h2⟩ := allO_facts hf l us (fun _ _ => trivial) hu
    refine ⟨by simp [h1], fun i hi hi' => ?_⟩
    cases i with
    | zero => exact hf x t ht
    | succ i => exact h2 i (by simpa using hi) (by simpa using hi')

theorem sum_flat : ∀ (l : List Tn) (ts : List Tm), ts.length = l.length → (∀ i (h : i < l.length) (h' : i < ts.length), ts[i].sz ≤ l[i].flat.length) → (ts.map Tm.sz).sum ≤ (flatL l).length
  | [], [], _, _ => by simp [flatL]
  | [], t :: ts, h, _ => by simp at h
  | x :: l, [], h, _ => by simp at h
  | x :: l, t :: ts, hl, h => by
    have h0 := h 0 (by simp) (by simp)
    have h1 := sum_flat l ts (by simpa using hl) fun i a b => by
      have := h (i + 1) (by simpa using a) (by simpa using b)
      simpa using this
    simp only [List.getElem_cons_zero] at h0
    rw [flatL_cons, List.length_append, List.map_cons, List.sum_cons]
    omega

theorem partsOf_le (k : Int) : partsOf k ≤ 3 := by
  unfold partsOf
  split
  · omega
  · split
    · omega
    · split <;> omega

theorem kindAt_le {x : ByteArray} {k : Nat} (h : kindAt x = some k) : k ≤ 9 := by
  simp only [kindAt, kindWs, atWord] at h
  repeat' split at h
  all_goals first | (have := Option.some.inj h; omega) | cases h

theorem termT_ok : ∀ (n : Nat) (x : Tn) (i : Tm), termT n x = some i → x.flat.length ≤ 3000 → okM 3000 i ∧ i.sz ≤ x.flat.length
  | 0, _, _, h, _ => by simp [termT] at h
  | n + 1, x, i, h, hl => by
    rw [termT] at h
    by_cases ho : x.o = false
    · rw [if_pos ho] at h
      have := wordT_ok h
      have hp := flat_pos x
      exact ⟨this.1, by omega⟩
    · rw [if_neg ho] at h
      have hfo := flat_ofA x (by simpa using ho)
      split at h
      · cases h
      · rename_i y r hxl
        split at h
        · cases h
        · obtain ⟨k, hk, h⟩ := Option.bind_eq_some_iff.1 h
          obtain ⟨p, hp, h⟩ := Option.bind_eq_some_iff.1 h
          split at h
          · rename_i hlen
            obtain ⟨ts, hts, rfl⟩ := Option.map_eq_some_iff.1 h
            rw [hxl, flatL_cons] at hfo
            have hlf : x.flat.length = y.flat.length + (flatL r).length + 2 := by rw [hfo]; simp; omega
            have hpos := flat_pos y
            have hP : p.1.sz ≤ 3000 ∧ (flatL p.2).length ≤ (flatL r).length ∧ ∀ z, z ∈ p.2 → z.flat.length ≤ (flatL r).length := by
              by_cases ht : tells (k : Int) = true
              · cases r with
                | nil => rw [headT_nil _ _ ht] at hp; cases hp
                | cons z r =>
                  rw [headT_yes _ _ _ _ ht] at hp
                  obtain ⟨q, hq, rfl⟩ := Option.map_eq_some_iff.1 hp
                  have := kindT_sz n z q hq
                  rw [flatL_cons, List.length_append] at hlf ⊢
                  refine ⟨by show q.sz ≤ 3000; omega, by show (flatL r).length ≤ _; omega, fun u hu => ?_⟩
                  have h9 : u.flat.length ≤ (flatL r).length := flatL_len_mem hu
                  omega
              · rw [headT_no _ _ _ ht] at hp
                obtain rfl := Option.some.inj hp
                exact ⟨by show anyY.sz ≤ 3000; rw [anyY, Ty.sz_mk]; simp, Nat.le_refl _, fun u hu => flatL_len_mem hu⟩
            obtain ⟨h1, h2⟩ := allO_facts (f := fun z => if z.flat.length ≤ 3000 then termT n z else none) (Q := fun z t => okM 3000 t ∧ t.sz ≤ z.flat.length) (fun z t hz => by
              split at hz
              · exact termT_ok n z t hz (by assumption)
              · cases hz) p.2 ts (fun _ _ => trivial) (by
              rw [← hts]
              refine allO_congr p.2 fun z hz => ?_
              have := hP.2.2 z hz
              rw [if_pos (by omega)])
            have h3 := partsOf_le (k : Int)
            have h4 := kindAt_le hk
            refine ⟨okM_mk.2 ⟨⟨wf_small _ (by omega), wf_small _ (by omega), hP.1, by rw [anyY, Ty.sz_mk]; simp, by omega⟩, fun t ht => ?_⟩, ?_⟩
            · obtain ⟨q, hq, rfl⟩ := List.getElem_of_mem ht
              exact (h2 q (by omega) hq).1
            · rw [Tm.sz_mk]
              have := sum_flat p.2 ts h1 fun q a b => (h2 q a b).2
              omega
          · cases h

theorem flat_subA {x : Tn} {z : List UInt8} : ∀ {l : List Tn}, x ∈ l → z ∈ x.flat → z ∈ flatL l
  | y :: l, h, hz => by
    rw [flatL_cons]
    rcases List.mem_cons.1 h with rfl | h
    · exact List.mem_append_left _ hz
    · exact List.mem_append_right _ (flat_subA h hz)

/-- The trees of a short text. -/
theorem TR_facts {s : List UInt8} {l : List Tn} {r : List UInt8} (h : TR s false = some (l, r)) (hs : s.length ≤ 1000) : ∀ x, x ∈ l → x.nice ∧ x.flat.length ≤ 3000 ∧ ∀ y, y ∈ x.flat → y.length ≤ 2000 := by
  have h1 := trees_tok (s.length + 1) s false
  rw [TR] at h
  rw [h] at h1
  have hk : ∀ x, x ∈ tokW [] s → KindW x := tok_kinds s [] (fun _ h => by cases h)
  obtain ⟨a1, a2, _⟩ := treesT_back _ _ _ _ _ hk h1.symm
  simp only [Bool.false_eq_true, if_false, List.append_nil] at a2
  have htl := tok_len s []
  intro x hx
  refine ⟨a1 x hx, ?_, fun y hy => ?_⟩
  · have := flatL_len_mem hx
    rw [a2] at htl
    omega
  · have hm : y ∈ tokW [] s := by
      rw [a2]
      exact flat_subA hx hy
    have := tok_small s [] y hm
    simp at this
    omega

theorem parse_TR (s : List UInt8) : parseS s = match TR s false with
    | some ([x], _) => (termT x.flat.length x).bind fun t => if goodM 0 t = true then some t else none
    | _ => none := by
  rw [← parse_same, parseR, treesR, TR_of _ s false (by omega)]
  rfl
end Go.Proofs.YtnddkmccagiclaaGreatDoor

/-
  What the call of ref's ParseTerm answers.
-/
namespace Go.Proofs.YtnddkmccagiclaaGreatDoor
open Go.RowKit

def PtPost (s : ByteArray) (w : World) (e : Ending) (w' : World) : Prop :=
  ∃ (x : TT) (er : Int), e = .returned (.tuple #[.agg #[.int .i64 x.k, .int .i64 x.n, .int .i64 x.t.k, .slice x.t.a x.t.l.length x.t.c, .int .i64 x.f.k, .slice x.f.a x.f.l.length x.f.c, .slice x.a x.l.length x.c], .int .i64 er]) ∧ Hid (x.In w' ∧ Below w.heap.size w w' ∧
    ((1000 < s.size ∧ er = 4 ∧ x = tleaf 0 0) ∨ (s.size ≤ 1000 ∧ parseS s.data.toList = none ∧ er = 1 ∧ x = tleaf 0 0) ∨ (s.size ≤ 1000 ∧ parseS s.data.toList = some x.tm ∧ er = 0)))

theorem ok_larger {m m' : Nat} {x : TT} : x.ok m → m ≤ m' → x.ok m' := by
  induction x using TT.ind with
  | h k n t f a c l ih =>
    intro h hm
    obtain ⟨⟨h1, h2, h3, h4, h5⟩, h6⟩ := TT.ok_mk.1 h
    exact TT.ok_mk.2 ⟨⟨h1, h2, by omega, by omega, by omega⟩, fun y hy => ih y hy (h6 y hy) hm⟩

set_option maxRecDepth 20000 in
set_option maxHeartbeats 8000000 in
theorem parseTerm_any (s : ByteArray) (w : World) (hta : Ta w) : Calls Tryz.prog 17 #[.string s] w (PtPost s w) := by
  obtain ⟨W1, hW1⟩ : ∃ W, W = w.alloc (.cells #[.int .i64 0, .int .i64 0, .int .i64 0, .slice none 0 0, .int .i64 0, .slice none 0 0, .slice none 0 0] 27) := ⟨_, rfl⟩
  have HB1 : Hid (Below w.heap.size w W1) := by rw [hW1]; exact (Below.refl _ _).alloc (Nat.le_refl _) _
  have HBX : Hid (Box7 W1 w.heap.size (tleaf 0 0)) := by
    rw [hW1]
    exact ⟨At7.new w (tleaf 0 0), fun i hi => by simp [go_sem]⟩
  have HE : Hid (∀ V, Below W1.heap.size W1 V → Box7 V w.heap.size (tleaf 0 0) ∧ Below w.heap.size w V ∧ Ta V) := fun V hV => by
    have hb : Below w.heap.size w V := HB1.out.trans (hV.mono HB1.out.size)
    exact ⟨HBX.out.below hV, hb, hta.below hb⟩
  clear HB1 HBX hta
  by_cases hs : s.size ≤ 1000
  · have hgt : ¬ (1000 : Int) < ((s.size : Nat) : Int) := by omega
    have hll : s.data.toList.length ≤ 1000 := by
      have hl : s.data.toList.length = s.size := Array.length_toList
      omega
    have BAD0 : Hid (parseS s.data.toList = none → ∀ V, Below W1.heap.size W1 V → PtPost s w (.returned (.tuple #[.agg #[.int .i64 0, .int .i64 0, .int .i64 0, .slice none 0 0, .int .i64 0, .slice none 0 0, .slice none 0 0], .int .i64 1])) (put7 V w.heap.size (tleaf 0 0))) := fun hp V hV =>
      ⟨tleaf 0 0, 1, rfl, tleaf_in _ _ _, put7_below (HE.out V hV).2.1, .inr (.inl ⟨hs, hp, rfl, rfl⟩)⟩
    have HTS : Hid (Calls Tryz.prog 30 #[.string s, .bool false] W1 (TsPost s false W1)) := trees_any s.size s false W1 (Nat.le_refl _) hs
    go_enter Tryz.func17, Tryz.ntmps17
    go_upto_region 1 with fail
    rw [← hW1]
    clear hW1
    go_wp2_with fail
    refine HTS.out.mono ?_
    rintro e w2 ⟨a, c, ts, R, ok, rfl, HP⟩
    clear HTS
    have H2 : Hid (Below W1.heap.size W1 w2) := HP.out.2.1
    cases ok
    · have BAD : Hid (∀ V, Below W1.heap.size W1 V → PtPost s w (.returned (.tuple #[.agg #[.int .i64 0, .int .i64 0, .int .i64 0, .slice none 0 0, .int .i64 0, .slice none 0 0, .slice none 0 0], .int .i64 1])) (put7 V w.heap.size (tleaf 0 0))) := BAD0.out (by
        rw [parse_TR]
        rcases HP.out.2.2 with ⟨h, _⟩ | ⟨p, _, h, _⟩
        · rw [h]
        · cases h)
      clear BAD0 HP
      have HP : Hid (PtPost s w (.returned (.tuple #[.agg #[.int .i64 0, .int .i64 0, .int .i64 0, .slice none 0 0, .int .i64 0, .slice none 0 0, .slice none 0 0], .int .i64 1])) (put7 w2 w.heap.size (tleaf 0 0))) := BAD.out w2 H2.out
      have HBXV := (HE.out w2 H2.out).1
      have HGT : Hid _ := put7_gets (x := tleaf 0 0) HBXV
      obtain ⟨c0, c1, c2, c3, c4, c5, c6⟩ := HBXV.at7
      simp only [Nat.zero_add, tleaf] at c0 c1 c2 c3 c4 c5 c6
      have f0 := HBXV.fz 0 (by omega)
      have f1 := HBXV.fz 1 (by omega)
      have f2 := HBXV.fz 2 (by omega)
      have f3 := HBXV.fz 3 (by omega)
      have f4 := HBXV.fz 4 (by omega)
      have f5 := HBXV.fz 5 (by omega)
      have f6 := HBXV.fz 6 (by omega)
      clear HBXV BAD HE H2
      go_wp2_with fail
      refine bodyPost_ret (v := .tuple #[.agg #[.int .i64 0, .int .i64 0, .int .i64 0, .slice none 0 0, .int .i64 0, .slice none 0 0, .slice none 0 0], .int .i64 1]) ?_ rfl HP.out
      obtain ⟨d0, d1, d2, d3, d4, d5, d6⟩ := HGT.out
      simp only [tleaf, List.length_nil] at d0 d1 d2 d3 d4 d5 d6
      simp [results, Tryz.results17, go_sem, d0, d1, d2, d3, d4, d5, d6]
    · obtain ⟨p, hp, hpt, hpr⟩ : ∃ p, TR s.data.toList false = some p ∧ ts.map Nd.tn = p.1 ∧ R.data.toList = p.2 := by
        rcases HP.out.2.2 with ⟨_, h⟩ | ⟨p, h1, _, h2, h3⟩
        · cases h
        · exact ⟨p, h1, h2, h3⟩
      by_cases h1 : ts.length = 1
      · obtain ⟨X, hX⟩ : ∃ X, ts = [X] := by
          match ts, h1 with
          | [X], _ => exact ⟨X, rfl⟩
        subst hX
        have hpe : TR s.data.toList false = some ([X.tn], p.2) := by
          rw [hp]
          have : p.1 = [X.tn] := by rw [← hpt]; rfl
          rw [← this]
        have HTF : Hid (X.tn.nice ∧ X.tn.flat.length ≤ 3000 ∧ ∀ y, y ∈ X.tn.flat → y.length ≤ 2000) := TR_facts hpe hll X.tn (by simp)
        have HPS : Hid (parseS s.data.toList = (termT X.tn.flat.length X.tn).bind fun t => if goodM 0 t = true then some t else none) := by
          show _ = _
          rw [parse_TR, hpe]
        obtain ⟨hrow, _⟩ := HP.out.1 ⟨#[]⟩ false
        obtain ⟨b, f, ea, x0, x1, x2, hXi⟩ := hrow.part 0 (by simp)
        replace ea : a = some ⟨b, f, none⟩ := ea
        subst ea
        simp only [List.getElem_cons_zero, Nat.zero_mul, Nat.add_zero] at x0 x1 x2 hXi
        have HTM : Hid (Calls Tryz.prog 31 #[.agg #[.string X.w, .slice X.a X.l.length X.c, .bool X.o]] w2 (TrPost (termT X.tn.flat.length X.tn) w2)) := term_any X.tn.flat.length X w2 hXi (HE.out w2 H2.out).2.2 HTF.out.1 (Nat.le_refl _) HTF.out.2.2 HTF.out.2.1
        have HTO : Hid (∀ i, termT X.tn.flat.length X.tn = some i → okM 3000 i ∧ i.sz ≤ 3000) := fun i hi => by
          have := termT_ok _ _ _ hi HTF.out.2.1
          exact ⟨this.1, by have := HTF.out.2.1; omega⟩
        obtain ⟨TX, hTX⟩ : ∃ T, termT X.tn.flat.length X.tn = T := ⟨_, rfl⟩
        rw [hTX] at HTM HPS HTO
        simp only [List.length_cons, List.length_nil]
        clear hTX hp hpt hpr hpe hrow hXi HP HTF h1 hll
        go_wp2_with fail
        refine HTM.out.mono ?_
        rintro e w3 ⟨t, is, rfl, HT⟩
        clear HTM x0 x1 x2
        obtain ⟨V, hV⟩ : ∃ W, W = w3.alloc (.cells #[.int .i64 t.k, .int .i64 t.n, .int .i64 t.t.k, .slice t.t.a t.t.l.length t.t.c, .int .i64 t.f.k, .slice t.f.a t.f.l.length t.f.c, .slice t.a t.l.length t.c] 27) := ⟨_, rfl⟩
        have hb3 : Below w3.heap.size w3 V := by rw [hV]; exact (Below.refl _ _).alloc (Nat.le_refl _) _
        have hb2 : Below w2.heap.size w2 V := HT.out.2.2.2.2.trans (hb3.mono HT.out.2.2.2.2.size)
        have H3 : Hid (Below W1.heap.size W1 V) := H2.out.trans (hb2.mono H2.out.size)
        have HT7 : Hid (At7 V w3.heap.size 0 t ∧ t.In V) := ⟨by rw [hV]; exact At7.new w3 t, HT.out.2.2.1.below hb3⟩
        have HBL : Hid (t.Bl (· ≠ w.heap.size)) := HT.out.2.2.2.1.mono fun b hb => by
          have h1 := HE.out W1 (Below.refl _ _)
          have h2 := h1.1.lt
          have h3 := H2.out.size
          omega
        have HTT : Hid (is = TX.isSome ∧ ∀ i, TX = some i → t.tm = i) := ⟨HT.out.1, HT.out.2.1⟩
        clear hb3 hb2 HT
        go_upto_region 6 with fail
        rw [← hV]
        clear hV
        cases is
        · have BAD : Hid (∀ V, Below W1.heap.size W1 V → PtPost s w (.returned (.tuple #[.agg #[.int .i64 0, .int .i64 0, .int .i64 0, .slice none 0 0, .int .i64 0, .slice none 0 0, .slice none 0 0], .int .i64 1])) (put7 V w.heap.size (tleaf 0 0))) := BAD0.out (by
            rw [HPS.out]
            cases h : TX with
            | none => rfl
            | some i => have := HTT.out.1; rw [h] at this; cases this)
          clear BAD0 HPS HTO HTT HT7
          have HP : Hid (PtPost s w (.returned (.tuple #[.agg #[.int .i64 0, .int .i64 0, .int .i64 0, .slice none 0 0, .int .i64 0, .slice none 0 0, .slice none 0 0], .int .i64 1])) (put7 V w.heap.size (tleaf 0 0))) := BAD.out V H3.out
          have HBXV := (HE.out V H3.out).1
          have HGT : Hid _ := put7_gets (x := tleaf 0 0) HBXV
          obtain ⟨c0, c1, c2, c3, c4, c5, c6⟩ := HBXV.at7
          simp only [Nat.zero_add, tleaf] at c0 c1 c2 c3 c4 c5 c6
          have f0 := HBXV.fz 0 (by omega)
          have f1 := HBXV.fz 1 (by omega)
          have f2 := HBXV.fz 2 (by omega)
          have f3 := HBXV.fz 3 (by omega)
          have f4 := HBXV.fz 4 (by omega)
          have f5 := HBXV.fz 5 (by omega)
          have f6 := HBXV.fz 6 (by omega)
          clear HBXV BAD HE H3 H2
          go_wp2_with fail
          refine bodyPost_ret (v := .tuple #[.agg #[.int .i64 0, .int .i64 0, .int .i64 0, .slice none 0 0, .int .i64 0, .slice none 0 0, .slice none 0 0], .int .i64 1]) ?_ rfl HP.out
          obtain ⟨d0, d1, d2, d3, d4, d5, d6⟩ := HGT.out
          simp only [tleaf, List.length_nil] at d0 d1 d2 d3 d4 d5 d6
          simp [results, Tryz.results17, go_sem, d0, d1, d2, d3, d4, d5, d6]
        · have HTI : Hid (TX = some t.tm) := by
            cases h : TX with
            | none => have := HTT.out.1; rw [h] at this; cases this
            | some i => show some i = some t.tm; rw [HTT.out.2 i h]
          obtain ⟨g, hg⟩ : ∃ g, goodM 0 t.tm = g := ⟨_, rfl⟩
          have HIS : Hid (Calls Tryz.prog 10 #[.agg #[.int .i64 t.k, .int .i64 t.n, .int .i64 t.t.k, .slice t.t.a t.t.l.length t.t.c, .int .i64 t.f.k, .slice t.f.a t.f.l.length t.f.c, .slice t.a t.l.length t.c], .int .i64 0] V fun e w' => e = .returned (.bool g) ∧ Below V.heap.size V w') := by
            obtain ⟨o1, o2⟩ := HTO.out t.tm HTI.out
            have h := isTerm_any t 0 V HT7.out.2 (by rw [TT.sz_tm]; omega) (ok_larger (ok_tm t o1) (by omega))
            rw [hg] at h
            exact h
          have HPG : Hid (parseS s.data.toList = if g = true then some t.tm else none) := by
            show _ = _
            rw [HPS.out, HTI.out, Option.bind_some, hg]
          obtain ⟨q0, q1, q2, q3, q4, q5, q6⟩ := HT7.out.1.all
          clear HPS HTO HTT HTI hg
          go_wp2_with fail
          refine HIS.out.mono ?_
          rintro e w4 ⟨rfl, hb4⟩
          have H4 : Hid (Below W1.heap.size W1 w4) := H3.out.trans (hb4.mono H3.out.size)
          have hlt : w3.heap.size < V.heap.size := HT7.out.1.lt
          obtain ⟨m0, m1, m2, m3, m4, m5, m6⟩ := (HT7.out.1.below hb4).all
          have HT4 : Hid (t.In w4) := HT7.out.2.below hb4
          clear q0 q1 q2 q3 q4 q5 q6 hb4 HIS HT7 hlt
          cases g
          · have BAD : Hid (∀ V, Below W1.heap.size W1 V → PtPost s w (.returned (.tuple #[.agg #[.int .i64 0, .int .i64 0, .int .i64 0, .slice none 0 0, .int .i64 0, .slice none 0 0, .slice none 0 0], .int .i64 1])) (put7 V w.heap.size (tleaf 0 0))) := BAD0.out (by rw [HPG.out]; rfl)
            clear BAD0 HPG HT4 m0 m1 m2 m3 m4 m5 m6
            have HP : Hid (PtPost s w (.returned (.tuple #[.agg #[.int .i64 0, .int .i64 0, .int .i64 0, .slice none 0 0, .int .i64 0, .slice none 0 0, .slice none 0 0], .int .i64 1])) (put7 w4 w.heap.size (tleaf 0 0))) := BAD.out w4 H4.out
            have HBXV := (HE.out w4 H4.out).1
            have HGT : Hid _ := put7_gets (x := tleaf 0 0) HBXV
            obtain ⟨c0, c1, c2, c3, c4, c5, c6⟩ := HBXV.at7
            simp only [Nat.zero_add, tleaf] at c0 c1 c2 c3 c4 c5 c6
            have f0 := HBXV.fz 0 (by omega)
            have f1 := HBXV.fz 1 (by omega)
            have f2 := HBXV.fz 2 (by omega)
            have f3 := HBXV.fz 3 (by omega)
            have f4 := HBXV.fz 4 (by omega)
            have f5 := HBXV.fz 5 (by omega)
            have f6 := HBXV.fz 6 (by omega)
            clear HBXV BAD HE H4 H3 H2
            go_wp2_with fail
            refine bodyPost_ret (v := .tuple #[.agg #[.int .i64 0, .int .i64 0, .int .i64 0, .slice none 0 0, .int .i64 0, .slice none 0 0, .slice none 0 0], .int .i64 1]) ?_ rfl HP.out
            obtain ⟨d0, d1, d2, d3, d4, d5, d6⟩ := HGT.out
            simp only [tleaf, List.length_nil] at d0 d1 d2 d3 d4 d5 d6
            simp [results, Tryz.results17, go_sem, d0, d1, d2, d3, d4, d5, d6]
          · have HP : Hid (PtPost s w (.returned (.tuple #[.agg #[.int .i64 t.k, .int .i64 t.n, .int .i64 t.t.k, .slice t.t.a t.t.l.length t.t.c, .int .i64 t.f.k, .slice t.f.a t.f.l.length t.f.c, .slice t.a t.l.length t.c], .int .i64 0])) (put7 w4 w.heap.size t)) := by
              have hbl : t.Bl (· ≠ w.heap.size) := HBL.out
              have hk := put7_kept (w := w4) (J := w.heap.size) (x := t)
              exact ⟨t, 0, rfl, HT4.out.keptR hk hbl, put7_below (HE.out w4 H4.out).2.1, .inr (.inr ⟨hs, by rw [HPG.out, if_pos rfl], rfl⟩)⟩
            have HBXV := (HE.out w4 H4.out).1
            have HGT : Hid _ := put7_gets (x := t) HBXV
            obtain ⟨c0, c1, c2, c3, c4, c5, c6⟩ := HBXV.at7
            simp only [Nat.zero_add, tleaf] at c0 c1 c2 c3 c4 c5 c6
            have f0 := HBXV.fz 0 (by omega)
            have f1 := HBXV.fz 1 (by omega)
            have f2 := HBXV.fz 2 (by omega)
            have f3 := HBXV.fz 3 (by omega)
            have f4 := HBXV.fz 4 (by omega)
            have f5 := HBXV.fz 5 (by omega)
            have f6 := HBXV.fz 6 (by omega)
            clear HBXV BAD0 HE HPG HT4 H4 H3 H2
            go_wp2_with fail
            refine bodyPost_ret (v := .tuple #[.agg #[.int .i64 t.k, .int .i64 t.n, .int .i64 t.t.k, .slice t.t.a t.t.l.length t.t.c, .int .i64 t.f.k, .slice t.f.a t.f.l.length t.f.c, .slice t.a t.l.length t.c], .int .i64 0]) ?_ rfl HP.out
            obtain ⟨d0, d1, d2, d3, d4, d5, d6⟩ := HGT.out
            simp [results, Tryz.results17, go_sem, d0, d1, d2, d3, d4, d5, d6]
      · have BAD : Hid (∀ V, Below W1.heap.size W1 V → PtPost s w (.returned (.tuple #[.agg #[.int .i64 0, .int .i64 0, .int .i64 0, .slice none 0 0, .int .i64 0, .slice none 0 0, .slice none 0 0], .int .i64 1])) (put7 V w.heap.size (tleaf 0 0))) := BAD0.out (by
          rw [parse_TR, hp]
          split
          · rename_i x q e
            exfalso
            have e1 := Option.some.inj e
            have := congrArg List.length hpt
            rw [e1] at this
            simp at this
            omega
          · rfl)
        have hl1 : (((ts.length : Nat) : Int) == 1) = false := by
          rw [beq_eq_false_iff_ne]
          omega
        clear BAD0 HP hp hpt hpr h1 hll
        have HP : Hid (PtPost s w (.returned (.tuple #[.agg #[.int .i64 0, .int .i64 0, .int .i64 0, .slice none 0 0, .int .i64 0, .slice none 0 0, .slice none 0 0], .int .i64 1])) (put7 w2 w.heap.size (tleaf 0 0))) := BAD.out w2 H2.out
        have HBXV := (HE.out w2 H2.out).1
        have HGT : Hid _ := put7_gets (x := tleaf 0 0) HBXV
        obtain ⟨c0, c1, c2, c3, c4, c5, c6⟩ := HBXV.at7
        simp only [Nat.zero_add, tleaf] at c0 c1 c2 c3 c4 c5 c6
        have f0 := HBXV.fz 0 (by omega)
        have f1 := HBXV.fz 1 (by omega)
        have f2 := HBXV.fz 2 (by omega)
        have f3 := HBXV.fz 3 (by omega)
        have f4 := HBXV.fz 4 (by omega)
        have f5 := HBXV.fz 5 (by omega)
        have f6 := HBXV.fz 6 (by omega)
        clear HBXV BAD HE H2
        go_wp2_with fail
        refine bodyPost_ret (v := .tuple #[.agg #[.int .i64 0, .int .i64 0, .int .i64 0, .slice none 0 0, .int .i64 0, .slice none 0 0, .slice none 0 0], .int .i64 1]) ?_ rfl HP.out
        obtain ⟨d0, d1, d2, d3, d4, d5, d6⟩ := HGT.out
        simp only [tleaf, List.length_nil] at d0 d1 d2 d3 d4 d5 d6
        simp [results, Tryz.results17, go_sem, d0, d1, d2, d3, d4, d5, d6]
  · have hgt : (1000 : Int) < ((s.size : Nat) : Int) := by omega
    have BAD : Hid (∀ V, Below W1.heap.size W1 V → PtPost s w (.returned (.tuple #[.agg #[.int .i64 0, .int .i64 0, .int .i64 0, .slice none 0 0, .int .i64 0, .slice none 0 0, .slice none 0 0], .int .i64 4])) (put7 V w.heap.size (tleaf 0 0))) := fun V hV =>
      ⟨tleaf 0 0, 4, rfl, tleaf_in _ _ _, put7_below (HE.out V hV).2.1, .inl ⟨by omega, rfl, rfl⟩⟩
    go_enter Tryz.func17, Tryz.ntmps17
    go_upto_region 1 with fail
    rw [← hW1]
    clear hW1 hs
    have HP : Hid (PtPost s w (.returned (.tuple #[.agg #[.int .i64 0, .int .i64 0, .int .i64 0, .slice none 0 0, .int .i64 0, .slice none 0 0, .slice none 0 0], .int .i64 4])) (put7 W1 w.heap.size (tleaf 0 0))) := BAD.out W1 (Below.refl _ _)
    have HBXV := (HE.out W1 (Below.refl _ _)).1
    have HGT : Hid _ := put7_gets (x := tleaf 0 0) HBXV
    obtain ⟨c0, c1, c2, c3, c4, c5, c6⟩ := HBXV.at7
    simp only [Nat.zero_add, tleaf] at c0 c1 c2 c3 c4 c5 c6
    have f0 := HBXV.fz 0 (by omega)
    have f1 := HBXV.fz 1 (by omega)
    have f2 := HBXV.fz 2 (by omega)
    have f3 := HBXV.fz 3 (by omega)
    have f4 := HBXV.fz 4 (by omega)
    have f5 := HBXV.fz 5 (by omega)
    have f6 := HBXV.fz 6 (by omega)
    clear HBXV BAD HE 
    go_wp2_with fail
    refine bodyPost_ret (v := .tuple #[.agg #[.int .i64 0, .int .i64 0, .int .i64 0, .slice none 0 0, .int .i64 0, .slice none 0 0, .slice none 0 0], .int .i64 4]) ?_ rfl HP.out
    obtain ⟨d0, d1, d2, d3, d4, d5, d6⟩ := HGT.out
    simp only [tleaf, List.length_nil] at d0 d1 d2 d3 d4 d5 d6
    simp [results, Tryz.results17, go_sem, d0, d1, d2, d3, d4, d5, d6]
end Go.Proofs.YtnddkmccagiclaaGreatDoor
