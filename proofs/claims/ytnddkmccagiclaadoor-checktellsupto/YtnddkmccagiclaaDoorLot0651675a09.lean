/-
  What the call of chaperonelaw.sameSites answers at two rows of casts that are alike.
-/
import Derived.Test.YtnddkmccagiclaaDoorLot476311c9ca
import Derived.Test.YtnddkmccagiclaaDoorLotec24e6b422
import Derived.Test.YtnddkmccagiclaaDoorLotd67a467724
import Derived.Test.YtnddkmccagiclaaDoorLotfb9ab9a4a1
namespace Go.Proofs.YtnddkmccagiclaaDoor
open Go.RowKit

set_option maxRecDepth 20000 in
set_option maxHeartbeats 2000000 in
theorem sameSites_yes (ss ts : List St) (a b : Option Addr) (c d : Nat) (w : World) (hs : SL w a ss) (ht : SL w b ts) (hm : ss.map St.m = ts.map St.m) (hsm : ∀ s, s ∈ ss → s.f.sm ∧ s.t.sm) (hl : ss.length ≤ 1000000) :
    Calls Tryd.prog 22 #[.slice a ss.length c, .slice b ts.length d] w fun e w' => e = .returned (.bool true) ∧ Below w.heap.size w w' := by
  have hlen : ss.length = ts.length := by simpa using congrArg List.length hm
  have e1 : ((ss.length : Int) != (ts.length : Int)) = false := by simp [hlen]
  have HLN : Hid (ss.length = ts.length) := hlen
  clear hlen
  go_enter Tryd.func22, Tryd.ntmps22
  go_wp2_with fail
  clear e1
  go_loopg [13] ss.length (fun g i wr => ∃ (j : Nat), j ≤ ss.length ∧ g = ss.length - j ∧ i = .int .i64 (j : Int) ∧ Below w.heap.size w wr)
  case atStart => exact ⟨0, Nat.zero_le _, rfl, rfl, Below.refl _ _⟩
  case round =>
    obtain ⟨j, hj, hg, rfl, hbwr⟩ := hrel
    have HG : Hid (gk = ss.length - j) := hg
    clear hg
    by_cases hlt : j < ss.length
    · have hlt' : j < ts.length := by have := HLN.out; omega
      have hmj : ss[j].m = ts[j].m := by
        have h := congrArg (fun l => l[j]?) hm
        simp only [List.getElem?_map, List.getElem?_eq_getElem hlt, List.getElem?_eq_getElem hlt', Option.map_some, Option.some.injEq] at h
        exact h
      have hn0 : ss[j].n = ts[j].n := congrArg (fun p => p.1) hmj
      have hn2 : (ss[j].n != ts[j].n) = false := by simp [hn0]
      have hf : ss[j].f.ty = ts[j].f.ty := congrArg (fun p => p.2.1) hmj
      have htt : ss[j].t.ty = ts[j].t.ty := congrArg (fun p => p.2.2) hmj
      obtain ⟨bx, ox, ea, x0, x1, x2, x3, x4, xf, xt⟩ := hs j hlt
      obtain ⟨by_, oy, eb, y0, y1, y2, y3, y4, yf, yt⟩ := ht j hlt'
      replace x0 := cell_later hbwr x0
      replace x1 := cell_later hbwr x1
      replace x2 := cell_later hbwr x2
      replace x3 := cell_later hbwr x3
      replace x4 := cell_later hbwr x4
      replace y0 := cell_later hbwr y0
      replace y1 := cell_later hbwr y1
      replace y2 := cell_later hbwr y2
      replace y3 := cell_later hbwr y3
      replace y4 := cell_later hbwr y4
      have HF : Hid (∀ W, Below w.heap.size w W → Calls Tryd.prog 16 #[.agg #[.int .i64 ss[j].f.k, .slice ss[j].f.a ss[j].f.l.length ss[j].f.c], .agg #[.int .i64 ts[j].f.k, .slice ts[j].f.a ts[j].f.l.length ts[j].f.c]] W fun e w' => e = .returned (.bool true) ∧ Below W.heap.size W w') := by
        intro W hb
        have := sameType_any _ ss[j].f ts[j].f W (xf.below hb) (yf.below hb) (Nat.le_refl _) (hsm _ (List.getElem_mem hlt)).1
        rw [hf, relY_refl] at this
        exact this
      have HT : Hid (∀ W, Below w.heap.size w W → Calls Tryd.prog 16 #[.agg #[.int .i64 ss[j].t.k, .slice ss[j].t.a ss[j].t.l.length ss[j].t.c], .agg #[.int .i64 ts[j].t.k, .slice ts[j].t.a ts[j].t.l.length ts[j].t.c]] W fun e w' => e = .returned (.bool true) ∧ Below W.heap.size W w') := by
        intro W hb
        have := sameType_any _ ss[j].t ts[j].t W (xt.below hb) (yt.below hb) (Nat.le_refl _) (hsm _ (List.getElem_mem hlt)).2
        rw [htt, relY_refl] at this
        exact this
      have i1 : (j : Int) < (ss.length : Int) := by omega
      have i2 : (j : Int) < (ts.length : Int) := by omega
      have i0 : (0 : Int) ≤ (j : Int) := by omega
      have HS : Hid (a = some ⟨bx, ox, none⟩ ∧ b = some ⟨by_, oy, none⟩) := ⟨ea, eb⟩
      rw [ea, eb]
      clear ea eb hn0 hmj hf htt xf xt yf yt hs ht hm hsm
      go_wp2_with fail
      go_region_held3 (fun w' => w'.cell? ⟨bx, ox + j * 5, none⟩ = some (.int .i64 ss[j].n) ∧ w'.cell? ⟨bx, ox + j * 5 + 1, none⟩ = some (.int .i64 ss[j].f.k) ∧ w'.cell? ⟨bx, ox + j * 5 + 2, none⟩ = some (.slice ss[j].f.a ss[j].f.l.length ss[j].f.c) ∧ w'.cell? ⟨bx, ox + j * 5 + 3, none⟩ = some (.int .i64 ss[j].t.k) ∧ w'.cell? ⟨bx, ox + j * 5 + 4, none⟩ = some (.slice ss[j].t.a ss[j].t.l.length ss[j].t.c) ∧ w'.cell? ⟨by_, oy + j * 5, none⟩ = some (.int .i64 ts[j].n) ∧ w'.cell? ⟨by_, oy + j * 5 + 1, none⟩ = some (.int .i64 ts[j].f.k) ∧ w'.cell? ⟨by_, oy + j * 5 + 2, none⟩ = some (.slice ts[j].f.a ts[j].f.l.length ts[j].f.c) ∧ w'.cell? ⟨by_, oy + j * 5 + 3, none⟩ = some (.int .i64 ts[j].t.k) ∧ w'.cell? ⟨by_, oy + j * 5 + 4, none⟩ = some (.slice ts[j].t.a ts[j].t.l.length ts[j].t.c))
        (first | exact ⟨cell_later hb2 x0, cell_later hb2 x1, cell_later hb2 x2, cell_later hb2 x3, cell_later hb2 x4, cell_later hb2 y0, cell_later hb2 y1, cell_later hb2 y2, cell_later hb2 y3, cell_later hb2 y4⟩ | exact ⟨cell_later hb23 x0, cell_later hb23 x1, cell_later hb23 x2, cell_later hb23 x3, cell_later hb23 x4, cell_later hb23 y0, cell_later hb23 y1, cell_later hb23 y2, cell_later hb23 y3, cell_later hb23 y4⟩ | go_keep)
        (first
          | (go_at_call 16; refine (HF.out _ hbwr.drew).mono ?_; rintro e w2 ⟨rfl, hb2⟩; clear HF)
          | (go_at_call 16; refine (HT.out _ (hbwr.drew.trans (hb2.mono hbwr.size))).mono ?_; rintro e w3 ⟨rfl, hb3⟩; have hb23 := hb2.trans (hb3.mono hb2.size); clear HT))
      have hbz : Below w.heap.size w w3 := hbwr.drew.trans (hb23.mono hbwr.size)
      clear hb2 hb3 hb23 x0 x1 x2 x3 x4 y0 y1 y2 y3 y4
      go_wp2_with fail
      rw [← HS.out.1, ← HS.out.2]
      go_roundg (ss.length - (j + 1))
      case measure => rw [HG.out]; omega
      case rel => exact ⟨j + 1, by omega, rfl, by go_num, hbz⟩
    · go_wp2_with fail
      go_ret
      exact ⟨rfl, hbwr⟩
end Go.Proofs.YtnddkmccagiclaaDoor

/-
  Casts in a row, and a row of terms still to be looked at, the first of them first; no run of the program in it.
-/
namespace Go.Proofs.YtnddkmccagiclaaDoor
open Go.RowKit

/-- append of nothing to nothing. -/
theorem step_append_none {P : Program} {ops : Array Oper} {o : Oper} {a : Act} {w : World} {K : Act → World → Prop} {Q : Exit → Act → World → Prop} {E : Prop}
    (hg : o.guard = none) (s x : Operand) (t : TypeId) (hop : o.op = Op.call { callee := Callee.builtin Builtin.append, args := #[s, x], argTypes := #[t, t] })
    (e : TypeId) (i : TypeInfo) (h1 : P.underlying t = some (.slice e)) (h2 : P.info? e = some i)
    (hs : a.eval s = .slice none 0 0) (xa : Option Addr) (c : Nat) (hx : a.eval x = .slice xa 0 c)
    (hK : K (a.put o.dst (.slice none 0 0)) w) :
    if Region.wanted o (yielded ops a.tmps) = true then Oper.wp P o a w K Q else E := by
  have hw : Region.wanted o (yielded ops a.tmps) = true := by simp [Region.wanted, hg]
  rw [if_pos hw]
  have hsrc : Src P i.size t (.slice xa 0 c) 0 [] w := by
    cases xa with
    | none => exact Src.ofNil w h1 c
    | some ad => exact Src.ofSlice w h1 ad 0 c [] (by simp) (fun j u h => by simp at h) (fun u h => by cases h)
  have hrun : (Builtin.append_ #[t, t] o.type #[.slice none 0 0, .slice xa 0 c]).run P w = .ok (.slice none 0 0) w := by
    simp [Builtin.append_, run_underlying h1, sizeOf, typeInfo, h2, hsrc.len, hsrc.cells]
  unfold Oper.wp
  simp only [execOp, hop, resolve, invoke, builtin, Sem.run_bind, Sem.run_pure, Result.andThen_ok, List.map_toArray, List.map_cons, List.map_nil, hs, hx, hrun]
  exact hK

/-- The two rows; the terms and the casts' types lie below. -/
structure SJ (B : Nat) (v u : Value) (ps : List TT) (ss : List St) (w : World) : Prop where
  ov : w.ownsRow B 27 7 v ps.length (cells7 ps)
  ou : w.ownsRow B 46 5 u ss.length (cells5 ss)
  ne : ∀ g, v.ownBlock = some g → u.ownBlock ≠ some g
  pi : ∀ p, p ∈ ps → p.In w ∧ p.Bl (· < B)
  si : ∀ s, s ∈ ss → (s.f.In w ∧ s.f.Bl (· < B)) ∧ s.t.In w ∧ s.t.Bl (· < B)

theorem SJ.below {B : Nat} {v u : Value} {ps : List TT} {ss : List St} {w w' : World} (h : SJ B v u ps ss w) (hb : Below w.heap.size w w') : SJ B v u ps ss w' :=
  ⟨ownsRow_below h.ov hb, ownsRow_below h.ou hb, h.ne, fun p hp => ⟨(h.pi p hp).1.below hb, (h.pi p hp).2⟩, fun s hs => ⟨⟨(h.si s hs).1.1.below hb, (h.si s hs).1.2⟩, (h.si s hs).2.1.below hb, (h.si s hs).2.2⟩⟩

/-- One more cast. -/
theorem SJ.push {B : Nat} {v u : Value} {ps : List TT} {ss : List St} {w2 w3 : World} {s : St} {gg cap1 : Nat} (h : SJ B v u ps ss w2) (hB : B ≤ w2.heap.size) (hs : (s.f.In w2 ∧ s.f.Bl (· < B)) ∧ s.t.In w2 ∧ s.t.Bl (· < B))
    (hown : w3.ownsRow B 46 5 (.slice (some ⟨gg, 0, none⟩) (ss.length + 1) cap1) (ss.length + 1) (cells5 ss ++ cell5 s)) (hgrow : w2.grownBy w3 u.ownBlock) (hat : u.ownBlock = some gg ∨ w2.heap.size ≤ gg) :
    SJ B v (.slice (some ⟨gg, 0, none⟩) (ss.length + 1) cap1) ps (ss ++ [s]) w3 ∧ Below B w2 w3 := by
  have hlow : Below B w2 w3 := ⟨hgrow.os, hgrow.tape, hgrow.output, hgrow.size, fun k hk => hgrow.block k (by omega) (fun e => by have := (h.ou.lt k e.symm).1; omega)⟩
  have hT : ∀ t : Tr, t.In w2 → t.Bl (· < B) → t.In w3 := fun t h1 h2 => h1.congr (P := (· < B)) (fun b hb o => hlow.cell (p := ⟨b, o, none⟩) hb) h2
  have hP : ∀ t : TT, t.In w2 → t.Bl (· < B) → t.In w3 := fun t h1 h2 => h1.congr (P := (· < B)) (fun b hb o => hlow.cell (p := ⟨b, o, none⟩) hb) h2
  refine ⟨⟨?_, ?_, ?_, fun p hp => ⟨hP p (h.pi p hp).1 (h.pi p hp).2, (h.pi p hp).2⟩, fun q hq => ?_⟩, hlow⟩
  · exact ownsRow_blk h.ov fun k hk => hgrow.block k (h.ov.lt k hk).2 (fun e => h.ne k hk e.symm)
  · rw [cells5_append, cells5_one, List.length_append, List.length_singleton]
    exact hown
  · intro g hg e
    have : gg = g := Option.some.inj e
    subst this
    rcases hat with e1 | e1
    · exact h.ne _ hg e1
    · have := (h.ov.lt _ hg).2; omega
  · have key : (q.f.In w2 ∧ q.f.Bl (· < B)) ∧ q.t.In w2 ∧ q.t.Bl (· < B) := by
      rcases List.mem_append.1 hq with hq | hq
      · exact h.si q hq
      · rcases List.mem_singleton.1 hq with rfl
        exact hs
    exact ⟨⟨hT _ key.1.1 key.1.2, key.1.2⟩, hT _ key.2.1 key.2.2, key.2.2⟩

/-- Another row of terms, in new blocks. -/
theorem SJ.turn {B : Nat} {v v' u : Value} {ps qs : List TT} {ss : List St} {w2 w3 : World} (h : SJ B v u ps ss w2) (hB : B ≤ w2.heap.size) (hk : ∀ k, k < w2.heap.size → w3.heap[k]? = w2.heap[k]?) (hown : w3.ownsRow B 27 7 v' qs.length (cells7 qs)) (hv : ∀ g, v'.ownBlock = some g → w2.heap.size ≤ g) (hq : ∀ q, q ∈ qs → q.In w2 ∧ q.Bl (· < B)) : SJ B v' u qs ss w3 := by
  have hT : ∀ t : Tr, t.In w2 → t.Bl (· < B) → t.In w3 := fun t h1 h2 => h1.congr (P := (· < B)) (fun b hb o => World.cell?_of_block (a := ⟨b, o, none⟩) (hk b (by omega))) h2
  have hP : ∀ t : TT, t.In w2 → t.Bl (· < B) → t.In w3 := fun t h1 h2 => h1.congr (P := (· < B)) (fun b hb o => World.cell?_of_block (a := ⟨b, o, none⟩) (hk b (by omega))) h2
  exact ⟨hown, ownsRow_blk h.ou fun k e => hk k (h.ou.lt k e).2, fun g e e2 => (by have h1 := hv g e; have h2 := (h.ou.lt g e2).2; omega), fun p hp => ⟨hP p (hq p hp).1 (hq p hp).2, (hq p hp).2⟩, fun s hs => ⟨⟨hT _ (h.si s hs).1.1 (h.si s hs).1.2, (h.si s hs).1.2⟩, hT _ (h.si s hs).2.1 (h.si s hs).2.2, (h.si s hs).2.2⟩⟩

theorem SJ.list {B : Nat} {v u : Value} {ps : List TT} {ss : List St} {w : World} (h : SJ B v u ps ss w) : ∃ a c, u = .slice a ss.length c ∧ (SL w a ss ∧ ss.length ≤ c) := by
  rcases h.ou.2 with ⟨rfl, h0⟩ | ⟨g, cap, cur, rfl, hg, _, hcl, _⟩
  · have : ss = [] := List.length_eq_zero_iff.1 h0
    subst this
    exact ⟨none, 0, rfl, fun j hj => absurd hj (by simp), by simp⟩
  · refine ⟨_, _, rfl, fun j hj => ⟨g, 0, rfl, ?_⟩, hcl⟩
    have hc : ∀ i, i < 5 → w.cell? ⟨g, 0 + j * 5 + i, none⟩ = _ := fun i hi => by rw [Nat.zero_add, h.ou.cellAt (j * 5 + i) (by omega), cells5_at ss j hj i hi]
    exact ⟨hc 0 (by omega), hc 1 (by omega), hc 2 (by omega), hc 3 (by omega), hc 4 (by omega), (h.si _ (List.getElem_mem hj)).1.1, (h.si _ (List.getElem_mem hj)).2.1⟩

/-- What is still to come. -/
def toGo (ps : List TT) : List (Int × Ty × Ty) := ps.flatMap fun p => sitesM p.tm

theorem toGo_cons (p : TT) (us : List TT) : toGo (p :: us) = (if p.k = 10 then [(p.n, p.f.ty, p.t.ty)] else []) ++ toGo (p.l ++ us) := by
  obtain ⟨k, n, t, f, a, c, l⟩ := p
  simp only [toGo, List.flatMap_cons, List.flatMap_append]
  rw [TT.tm_mk, sitesM_mk, List.flatMap_map, List.append_assoc]

theorem sites_len : ∀ y : TT, (sitesM y.tm).length ≤ y.sz := by
  intro y
  induction y using TT.ind with
  | h k n t f a c l ih =>
    rw [TT.tm_mk, sitesM_mk, TT.sz_mk]
    have h3 : ∀ l : List TT, (∀ z, z ∈ l → (sitesM z.tm).length ≤ z.sz) → ((l.map TT.tm).flatMap sitesM).length ≤ (l.map TT.sz).sum := by
      intro l
      induction l with
      | nil => intro _; simp
      | cons z r ihr => intro h; have := h z (by simp); have := ihr fun q hq => h q (by simp [hq]); simp only [List.map_cons, List.flatMap_cons, List.length_append, List.sum_cons]; omega
    have := h3 l ih
    have h1 : (if k = 10 then [(n, f.ty, t.ty)] else []).length ≤ 1 := by split <;> simp
    rw [List.length_append]
    omega
end Go.Proofs.YtnddkmccagiclaaDoor

/-
  What the call of ref's SitesOf answers.
-/
namespace Go.Proofs.YtnddkmccagiclaaDoor
open Go.RowKit

set_option maxRecDepth 20000 in
set_option maxHeartbeats 8000000 in
/-- SitesOf. -/
theorem sitesOf_any (x : TT) (w : World) (hx : x.In w) (hsz : x.sz ≤ 1000) :
    Calls Tryd.prog 23 #[.agg #[.int .i64 x.k, .int .i64 x.n, .int .i64 x.t.k, .slice x.t.a x.t.l.length x.t.c, .int .i64 x.f.k, .slice x.f.a x.f.l.length x.f.c, .slice x.a x.l.length x.c]] w fun e w' => ∃ (ss : List St) (a : Option Addr) (c : Nat), e = .returned (.slice a ss.length c) ∧ (SL w' a ss ∧ ss.length ≤ c) ∧ ss.map St.m = sitesM x.tm ∧ Below w.heap.size w w' := by
  obtain ⟨i0, hi0, hz0, hz1, hz2⟩ := info_parts Tryd.info27c
  obtain ⟨j0, hj0, hy0, hy1, hy2⟩ := info_parts Tryd.info46
  obtain ⟨B, hB⟩ : ∃ B, w.heap.size + 1 = B := ⟨_, rfl⟩
  obtain ⟨W1, hW1⟩ : ∃ W, W = (w.alloc (.cells #[.int .i64 x.k, .int .i64 x.n, .int .i64 x.t.k, .slice x.t.a x.t.l.length x.t.c, .int .i64 x.f.k, .slice x.f.a x.f.l.length x.f.c, .slice x.a x.l.length x.c] 27)).alloc (.cells #[.int .i64 x.k, .int .i64 x.n, .int .i64 x.t.k, .slice x.t.a x.t.l.length x.t.c, .int .i64 x.f.k, .slice x.f.a x.f.l.length x.f.c, .slice x.a x.l.length x.c] 27) := ⟨_, rfl⟩
  have HL : Hid (SJ B (.slice (some ⟨B, 0, none⟩) 1 1) (.slice none 0 0) [x] [] W1 ∧ Below w.heap.size w W1 ∧ mass1 [x] ≤ 1000 ∧ B ≤ W1.heap.size ∧ ([] : List St).map St.m ++ toGo [x] = sitesM x.tm) := by
    subst hB
    have hb : Below w.heap.size w W1 := by rw [hW1]; exact ((Below.refl _ _).alloc (Nat.le_refl _) _).alloc (by simp) _
    have hh := heap_alloc_new (w.alloc (.cells #[.int .i64 x.k, .int .i64 x.n, .int .i64 x.t.k, .slice x.t.a x.t.l.length x.t.c, .int .i64 x.f.k, .slice x.f.a x.f.l.length x.f.c, .slice x.a x.l.length x.c] 27)) (.cells #[.int .i64 x.k, .int .i64 x.n, .int .i64 x.t.k, .slice x.t.a x.t.l.length x.t.c, .int .i64 x.f.k, .slice x.f.a x.f.l.length x.f.c, .slice x.a x.l.length x.c] 27)
    simp only [World.size_alloc] at hh
    rw [← hW1] at hh
    refine ⟨⟨⟨rfl, .inr ⟨_, 1, _, rfl, by omega, hh, Nat.le_refl _, by unfold maxLen; omega, rfl, rfl⟩⟩, World.ownsRow_nil _ _ _ _, fun g _ => by simp [Value.ownBlock], fun p hp => ?_, fun s hs => by cases hs⟩, hb, by simpa [mass1] using hsz, by rw [hW1]; simp, by simp [toGo]⟩
    rcases List.mem_singleton.1 hp with rfl
    exact ⟨hx.below hb, hx.bl.mono fun b h => by omega⟩
  have HSX : Hid ((sitesM x.tm).length ≤ 1000) := Nat.le_trans (sites_len x) hsz
  have hBw : w.heap.size < B := by omega
  clear hx hsz
  go_enter Tryd.func23, Tryd.ntmps23
  go_wp2_with fail
  rw [← hW1]
  clear hW1
  go_loopg [3, 4] (mass1 [x]) (fun k s3 s4 wr => ∃ (u v : Value) (ps : List TT) (ss : List St), u = s3 ∧ v = s4 ∧ k = mass1 ps ∧ Hid (SJ B v u ps ss wr ∧ Below w.heap.size w wr ∧ mass1 ps ≤ 1000 ∧ B ≤ wr.heap.size ∧ ss.map St.m ++ toGo ps = sitesM x.tm))
  case atStart => exact ⟨_, _, [x], [], rfl, rfl, rfl, HL⟩
  case round =>
    obtain ⟨u, v, ps, ss, hu, hv, hk, HR⟩ := hrel
    subst hu hv
    have HK : Hid (gk = mass1 ps) := hk
    clear hk HL hB
    match ps with
    | [] =>
      obtain ⟨a, c', rfl⟩ : ∃ a c, v = .slice a 0 c := by
        rcases HR.out.1.ov.2 with ⟨rfl, _⟩ | ⟨g, cap, cur, rfl, _⟩
        · exact ⟨_, _, rfl⟩
        · exact ⟨_, _, rfl⟩
      obtain ⟨ua, uc, rfl, hsl⟩ := HR.out.1.list
      have HF : Hid (∃ (ss' : List St) (a : Option Addr) (c : Nat), Ending.returned (.slice ua ss.length uc) = .returned (.slice a ss'.length c) ∧ (SL wr a ss' ∧ ss'.length ≤ c) ∧ ss'.map St.m = sitesM x.tm ∧ Below w.heap.size w wr) := ⟨ss, ua, uc, rfl, hsl, by have := HR.out.2.2.2.2; simpa [toGo] using this, HR.out.2.1⟩
      clear HR HK hsl
      go_wp2_with fail
      go_ret
      exact HF.out
    | p :: us =>
      have ho := HR.out.1.ov
      obtain ⟨g, cap, rfl, hg, hgl⟩ := ho.form (by simp)
      have hlen : (p :: us).length = us.length + 1 := by simp
      rw [hlen] at ho
      have hcap : us.length + 1 ≤ cap := by
        rcases ho.2 with ⟨h, _⟩ | ⟨g', cap', cur, h, _, _, h1, _⟩
        · cases h
        · cases h; exact h1
      have hcc : ∀ i, i < 7 → wr.cell? ⟨g, i, none⟩ = (#[.int .i64 p.k, .int .i64 p.n, .int .i64 p.t.k, .slice p.t.a p.t.l.length p.t.c, .int .i64 p.f.k, .slice p.f.a p.f.l.length p.f.c, .slice p.a p.l.length p.c] : Array Value)[i]? := by
        intro i hi
        rw [ho.cellAt i (by omega)]
        have := cells7_at (p :: us) 0 (by simp) i hi
        simp only [Nat.zero_mul, Nat.zero_add] at this
        rw [this]
        simp
      have c0 : wr.cell? ⟨g, 0, none⟩ = some (.int .i64 p.k) := (hcc 0 (by omega)).trans rfl
      have c1 : wr.cell? ⟨g, 1, none⟩ = some (.int .i64 p.n) := (hcc 1 (by omega)).trans rfl
      have c2 : wr.cell? ⟨g, 2, none⟩ = some (.int .i64 p.t.k) := (hcc 2 (by omega)).trans rfl
      have c3 : wr.cell? ⟨g, 3, none⟩ = some (.slice p.t.a p.t.l.length p.t.c) := (hcc 3 (by omega)).trans rfl
      have c4 : wr.cell? ⟨g, 4, none⟩ = some (.int .i64 p.f.k) := (hcc 4 (by omega)).trans rfl
      have c5 : wr.cell? ⟨g, 5, none⟩ = some (.slice p.f.a p.f.l.length p.f.c) := (hcc 5 (by omega)).trans rfl
      have c6 : wr.cell? ⟨g, 6, none⟩ = some (.slice p.a p.l.length p.c) := (hcc 6 (by omega)).trans rfl
      have hms : mass1 (p :: us) = p.sz + mass1 us := by simp [mass1]
      have hus := Stk1.len (ps := us)
      have hps : p.sz = (p.l.map TT.sz).sum + 1 := p.sz_eq
      have hpl := len_sum p.l
      have hml := HR.out.2.2.1
      have n1 : (us.length : Int) ≤ 1000 := by omega
      have n2 : (us.length : Int) + 1 ≤ (cap : Int) := by omega
      have n3 : (0 : Int) ≤ (us.length : Int) := by omega
      have n4 : (1 : Int) ≤ (us.length : Int) + 1 := by omega
      have hpl1 : p.l.length ≤ 1000 := by omega
      have hma : mass1 (p.l ++ us) + 1 = mass1 (p :: us) := by
        rw [hms, hps]
        simp only [mass1, List.map_append, List.sum_append_nat]
        omega
      have hmm : mass1 (p.l ++ us) < gk := by have := HK.out; omega
      obtain ⟨WP, hWP⟩ : ∃ W, W = wr.alloc (.cells #[.int .i64 p.k, .int .i64 p.n, .int .i64 p.t.k, .slice p.t.a p.t.l.length p.t.c, .int .i64 p.f.k, .slice p.f.a p.f.l.length p.f.c, .slice p.a p.l.length p.c] 27) := ⟨_, rfl⟩
      obtain ⟨NB, hNB⟩ : ∃ NB, NB = wr.heap.size := ⟨_, rfl⟩
      have hA : Below wr.heap.size wr WP := by rw [hWP]; exact (Below.refl _ _).alloc (Nat.le_refl _) _
      have hp7 : At7 WP NB 0 p := by rw [hWP, hNB]; exact At7.new wr p
      have hss : ss.length ≤ 1000 := by
        have h5 := congrArg List.length HR.out.2.2.2.2
        have h6 := HSX.out
        simp only [List.length_append, List.length_map] at h5
        omega
      have HI : Hid (SJ B (.slice (some ⟨g, 0, none⟩) (us.length + 1) cap) u (p :: us) ss WP ∧ Below w.heap.size w WP ∧ At7 WP NB 0 p ∧ B ≤ WP.heap.size ∧ u.ownBlock ≠ some NB ∧ ss.map St.m ++ ((if p.k = 10 then [(p.n, p.f.ty, p.t.ty)] else []) ++ toGo (p.l ++ us)) = sitesM x.tm ∧ g < NB) :=
        ⟨by have := HR.out.1.below hA; rwa [hlen] at this, HR.out.2.1.trans (hA.mono HR.out.2.1.size), hp7, by have := HR.out.2.2.2.1; have := hA.size; omega, fun e => by have := (HR.out.1.ou.lt _ e).2; omega, by rw [← toGo_cons]; exact HR.out.2.2.2.2, by rw [hNB]; exact hgl⟩
      have HM : Hid (mass1 (p.l ++ us) ≤ 1000) := by show _ ≤ _; omega
      have lg : g < wr.heap.size := hgl
      clear ho HR HK hms hml hlen hus hcc hA hp7 hma hps hpl hgl hg
      go_upto_if 16 with fail
      rw [← hWP, ← hNB]
      clear hWP hNB c0 c1 c2 c3 c4 c5 c6
      go_cut [3] (fun s3 wx => ∃ (u' : Value) (ss' : List St), u' = s3 ∧ Hid (SJ B (.slice (some ⟨g, 0, none⟩) (us.length + 1) cap) u' (p :: us) ss' wx ∧ Below w.heap.size w wx ∧ At7 wx NB 0 p ∧ B ≤ wx.heap.size ∧ ss'.map St.m ++ toGo (p.l ++ us) = sitesM x.tm))
      case first =>
        by_cases hk0 : p.k = 10
        · have hk' : (p.k == 10) = true := by simpa using hk0
          have Hk : Hid (p.k = 10) := hk0
          rw [hk']
          clear hk' hk0
          obtain ⟨a0, a1, a2, a3, a4, a5, a6⟩ := HI.out.2.2.1
          simp only [Nat.zero_add] at a0 a1 a2 a3 a4 a5 a6
          have lN : NB < WP.heap.size := World.block_lt_of_cell? _ _ a0
          have hoa : (WP.alloc (.cells #[.int .i64 p.n, .int .i64 p.f.k, .slice p.f.a p.f.l.length p.f.c, .int .i64 p.t.k, .slice p.t.a p.t.l.length p.t.c] 46)).ownsRow B 46 5 u ss.length (cells5 ss) := ownsRow_below HI.out.1.ou ((Below.refl _ _).alloc (Nat.le_refl _) _)
          have hnew := heap_alloc_new WP (.cells #[.int .i64 p.n, .int .i64 p.f.k, .slice p.f.a p.f.l.length p.f.c, .int .i64 p.t.k, .slice p.t.a p.t.l.length p.t.c] 46)
          have hBP := HI.out.2.2.2.1
          go_wp2_with (at_builtin; refine wpList_append_lies _ rfl _ _ _ rfl B 46 j0 _ 5 72 Tryd.underlying41 hj0 hy0 hy1 hy2 rfl (by omega) u ss.length (cells5 ss) rfl hoa ⟨WP.heap.size, 0, none⟩ 1 1 [.int .i64 p.n, .int .i64 p.f.k, .slice p.f.a p.f.l.length p.f.c, .int .i64 p.t.k, .slice p.t.a p.t.l.length p.t.c] rfl rfl (World.news_of_block (cs := #[.int .i64 p.n, .int .i64 p.f.k, .slice p.f.a p.f.l.length p.f.c, .int .i64 p.t.k, .slice p.t.a p.t.l.length p.t.c]) (t := 46) (fr := (0, 0)) hnew) (by simp [Value.oneCell']) (by omega) (by unfold maxLen; omega) (by omega) (by simp; omega) (WP.heap.size + 1) (by simp) ?_; intro gg cap1 w5 hown1 hgrow hat hlt5)
          have HN : Hid (SJ B (.slice (some ⟨g, 0, none⟩) (us.length + 1) cap) (.slice (some ⟨gg, 0, none⟩) (ss.length + 1) cap1) (p :: us) (ss ++ [St.mk p.n p.f p.t]) w5 ∧ Below w.heap.size w w5 ∧ At7 w5 NB 0 p ∧ B ≤ w5.heap.size ∧ (ss ++ [St.mk p.n p.f p.t]).map St.m ++ toGo (p.l ++ us) = sitesM x.tm) := by
            obtain ⟨hsj, hbw, hp7, hBl, hne, htg, hgn⟩ := HI.out
            have hpp := hsj.pi p (by simp)
            have hba : Below WP.heap.size WP (WP.alloc (.cells #[.int .i64 p.n, .int .i64 p.f.k, .slice p.f.a p.f.l.length p.f.c, .int .i64 p.t.k, .slice p.t.a p.t.l.length p.t.c] 46)) := (Below.refl _ _).alloc (Nat.le_refl _) _
            have hst := (hsj.below hba).push (gg := gg) (cap1 := cap1) (w3 := w5) (s := ⟨p.n, p.f, p.t⟩) (by simp; omega) ⟨⟨hpp.1.f.below hba, hpp.2.f⟩, hpp.1.t.below hba, hpp.2.t⟩ hown1 hgrow (hat.imp id fun h => by simp; omega)
            have hs5 := hgrow.size
            simp at hs5
            refine ⟨hst.1, (hbw.trans (hba.mono hbw.size)).trans (hst.2.mono (by omega)), ?_, by omega, ?_⟩
            · exact (hp7.below hba).of fun i => World.cell?_of_block (a := ⟨NB, i, none⟩) (hgrow.block NB (by simp; omega) fun e => hne e.symm)
            · rw [if_pos Hk.out] at htg
              rw [← htg]
              simp [St.m]
          clear hown1 hgrow hat hlt5 hoa hnew
          go_meet
          case rel => exact ⟨_, _, rfl, HN⟩
        · have hk' : (p.k == 10) = false := by simpa using hk0
          have HN : Hid (SJ B (.slice (some ⟨g, 0, none⟩) (us.length + 1) cap) u (p :: us) ss WP ∧ Below w.heap.size w WP ∧ At7 WP NB 0 p ∧ B ≤ WP.heap.size ∧ ss.map St.m ++ toGo (p.l ++ us) = sitesM x.tm) := by
            obtain ⟨hsj, hbw, hp7, hBl, hne, htg, hgn⟩ := HI.out
            rw [if_neg hk0, List.nil_append] at htg
            exact ⟨hsj, hbw, hp7, hBl, htg⟩
          rw [hk']
          clear hk' hk0
          go_wp2_with fail
          go_meet
          case rel => exact ⟨_, _, rfl, HN⟩
      case rest =>
      obtain ⟨u', ss', hu', HJ⟩ := hcut
      subst hu'
      have hgn : g < NB := HI.out.2.2.2.2.2.2
      obtain ⟨a0, a1, a2, a3, a4, a5, a6⟩ := HJ.out.2.2.1
      simp only [Nat.zero_add] at a0 a1 a2 a3 a4 a5 a6
      have lN : NB < wc.heap.size := World.block_lt_of_cell? _ _ a0
      have hBw : B ≤ wc.heap.size := HJ.out.2.2.2.1
      have hpi : p.In wc := (HJ.out.1.pi p (by simp)).1
      have HS : Hid (∀ W, Below wc.heap.size wc W → (fun W => W.cell? ⟨NB, 6, none⟩ = some (.slice p.a p.l.length p.c)) W) := fun W h => cell_later h a6
      have HSB : Hid (∀ W : World, (∀ k, k < wc.heap.size → W.heap[k]? = wc.heap[k]?) → (fun W => W.cell? ⟨NB, 6, none⟩ = some (.slice p.a p.l.length p.c)) W) := fun W h => (World.cell?_of_block (a := ⟨NB, 6, none⟩) (h NB lN)).trans a6
      have HUSN : Hid (∀ W : World, (∀ k, k < wc.heap.size → W.heap[k]? = wc.heap[k]?) → ∀ j u, (cells7 us)[j]? = some u → W.cell? ((⟨g, 7, none⟩ : Addr).add j) = some u) := by
        intro W hW j u hj
        have hc := HJ.out.1.ov.cells (g := g) rfl (7 + j) u (by
          have e : cells7 (p :: us) = cells7 [p] ++ cells7 us := by simp [cells7]
          rw [e, List.getElem?_append_right (by simp [cells7])]
          simpa [cells7] using hj)
        have e1 : ((⟨g, 0, none⟩ : Addr).add (7 + j)) = ⟨g, 7 + j, none⟩ := by simp [Addr.add]
        have e2 : ((⟨g, 7, none⟩ : Addr).add j) = ⟨g, 7 + j, none⟩ := by
          unfold Addr.add
          by_cases hq : j = 0 <;> simp [hq]
        rw [e1] at hc
        rw [e2]
        exact (World.cell?_of_block (a := ⟨g, 7 + j, none⟩) (hW g (by omega))).trans hc
      have HFIN : Hid (∀ (v' : Value) (w4 : World), w4.ownsRow B 27 7 v' (p.l ++ us).length (cells7 (p.l ++ us)) → (∀ q, v'.ownBlock = some q → wc.heap.size ≤ q) → Below wc.heap.size wc w4 → (SJ B v' u' (p.l ++ us) ss' w4 ∧ Below w.heap.size w w4 ∧ mass1 (p.l ++ us) ≤ 1000 ∧ B ≤ w4.heap.size ∧ ss'.map St.m ++ toGo (p.l ++ us) = sitesM x.tm)) := by
        intro v' w4 h1 h2 h3
        refine ⟨HJ.out.1.turn hBw (fun k hk => h3.block k hk) h1 h2 fun q hq => ?_, HJ.out.2.1.trans (h3.mono HJ.out.2.1.size), HM.out, by have := h3.size; omega, HJ.out.2.2.2.2⟩
        rcases List.mem_append.1 hq with hq | hq
        · have hpp := HJ.out.1.pi p (by simp)
          exact ⟨hpp.1.mem hq, hpp.2.mem hq⟩
        · exact HJ.out.1.pi q (by simp [hq])
      clear HJ HI HM a0 a1 a2 a3 a4 a5
      by_cases hl0 : p.l.length = 0
      · have hnil : p.l = [] := List.length_eq_zero_iff.1 hl0
        by_cases hu0 : us.length = 0
        · have HU0 : Hid (us.length = 0) := hu0
          have HL0 : Hid (p.l.length = 0 ∧ p.l = []) := ⟨hl0, hnil⟩
          obtain ⟨SA, hSA⟩ : ∃ A : Option Addr, (if cap = 1 then some ⟨g, 0, none⟩ else some ⟨g, 7, none⟩) = A := ⟨_, rfl⟩
          clear hu0 hl0 hnil
          go_upto_region 7 with fail
          refine wp_region_held_drew (S := fun W => W.cell? ⟨NB, 6, none⟩ = some (.slice p.a p.l.length p.c)) (by kernel_rfl) (HS.out _ ((Below.refl _ _).drew)) (fun hHeld => ?_)
          refine takeH (i := 0) (v := ?_) rfl (by kernel_rfl) (by kernel_rfl) (by kernel_rfl) (fun _ _ _ h => h) (Or.inl ⟨by rfl, ?_⟩) hHeld ?_; rotate_left; (focus (intro w' hSw; (try dsimp only at hSw); go_split_ands; first | (go_simp; done) | (go_simp; with_reducible rfl))); simp only [Act.put, List.setIfInBounds_toArray, List.set_cons_zero, List.set_cons_succ]
          refine takeH (i := 1) (v := ?_) rfl (by kernel_rfl) (by kernel_rfl) (by kernel_rfl) (fun _ _ _ h => h) (Or.inl ⟨by rfl, ?_⟩) hHeld ?_; rotate_left; (focus (intro w' hSw; (try dsimp only at hSw); go_split_ands; first | (go_simp; done) | (go_simp; with_reducible rfl))); simp only [Act.put, List.setIfInBounds_toArray, List.set_cons_zero, List.set_cons_succ]
          refine takeH (i := 3) (v := ?_) rfl (by kernel_rfl) (by kernel_rfl) (by kernel_rfl) (fun _ _ _ h => h) (Or.inl ⟨by rfl, ?_⟩) hHeld ?_; rotate_left; (focus (intro w' hSw; (try dsimp only at hSw); go_split_ands; first | (go_simp; done) | (go_simp; with_reducible rfl))); simp only [Act.put, List.setIfInBounds_toArray, List.set_cons_zero, List.set_cons_succ]
          refine takeH (i := 4) (v := ?_) rfl (by kernel_rfl) (by kernel_rfl) (by kernel_rfl) (fun _ _ _ h => h) (Or.inl ⟨by rfl, ?_⟩) hHeld ?_; rotate_left; (focus (intro w' hSw; (try dsimp only at hSw); go_split_ands; first | (go_simp; done) | (go_simp; with_reducible rfl))); simp only [Act.put, List.setIfInBounds_toArray, List.set_cons_zero, List.set_cons_succ]
          refine oneH (i := 2) rfl (by kernel_rfl) (fun K hK => ?_)
          refine step_append_none (by rfl) _ _ _ (by rfl) 27 i0 Tryd.underlying25 hi0 (by rfl) p.a p.c (by show Value.slice p.a p.l.length p.c = _; rw [HL0.out.1]) ?_
          refine hK.out _ _ hHeld (fun hHeld => ?_)
          clear hK K
          refine oneH (i := 5) rfl (by kernel_rfl) (fun K hK => ?_)
          refine step_append_none (by rfl) _ _ _ (by rfl) 27 i0 Tryd.underlying25 hi0 (by rfl) SA (cap - 1) (by show Value.slice SA us.length (cap - 1) = _; rw [HU0.out]) ?_
          have HN : Hid (SJ B (.slice none 0 0) u' (p.l ++ us) ss' wc.drew ∧ Below w.heap.size w wc.drew ∧ mass1 (p.l ++ us) ≤ 1000 ∧ B ≤ wc.drew.heap.size ∧ ss'.map St.m ++ toGo (p.l ++ us) = sitesM x.tm) := HFIN.out (.slice none 0 0) wc.drew (by rw [HL0.out.2, List.nil_append, List.length_eq_zero_iff.1 HU0.out]; exact World.ownsRow_nil _ _ _ _) (fun q hq => by simp [Value.ownBlock] at hq) ((Below.refl _ _).drew)
          refine hK.out _ _ hHeld (fun hHeld => ?_)
          clear hK K
          refine takeH (i := 6) (v := ?_) rfl (by kernel_rfl) (by kernel_rfl) (by kernel_rfl) (fun _ _ _ h => h) (Or.inl ⟨by rfl, ?_⟩) hHeld ?_; rotate_left; (focus (intro w' hSw; (try dsimp only at hSw); go_split_ands; first | (go_simp; done) | (go_simp; with_reducible rfl))); simp only [Act.put, List.setIfInBounds_toArray, List.set_cons_zero, List.set_cons_succ]
          refine wpAnyH_done (by kernel_rfl) ?_ _
          go_wp2_with fail
          (try simp only [Nat.zero_add] at HN)
          go_roundg (mass1 (p.l ++ us))
          case measure => exact hmm
          case rel => exact ⟨_, _, p.l ++ us, ss', rfl, rfl, rfl, HN⟩
        · have hu1 : 0 < us.length := by omega
          have hcap1 : ¬ cap = 1 := by omega
          have HL0 : Hid (p.l.length = 0 ∧ p.l = []) := ⟨hl0, hnil⟩
          clear hu0 hl0 hnil
          go_upto_region 7 with fail
          refine wp_region_held_drew (S := fun W => W.cell? ⟨NB, 6, none⟩ = some (.slice p.a p.l.length p.c)) (by kernel_rfl) (HS.out _ ((Below.refl _ _).drew)) (fun hHeld => ?_)
          refine takeH (i := 0) (v := ?_) rfl (by kernel_rfl) (by kernel_rfl) (by kernel_rfl) (fun _ _ _ h => h) (Or.inl ⟨by rfl, ?_⟩) hHeld ?_; rotate_left; (focus (intro w' hSw; (try dsimp only at hSw); go_split_ands; first | (go_simp; done) | (go_simp; with_reducible rfl))); simp only [Act.put, List.setIfInBounds_toArray, List.set_cons_zero, List.set_cons_succ]
          refine takeH (i := 1) (v := ?_) rfl (by kernel_rfl) (by kernel_rfl) (by kernel_rfl) (fun _ _ _ h => h) (Or.inl ⟨by rfl, ?_⟩) hHeld ?_; rotate_left; (focus (intro w' hSw; (try dsimp only at hSw); go_split_ands; first | (go_simp; done) | (go_simp; with_reducible rfl))); simp only [Act.put, List.setIfInBounds_toArray, List.set_cons_zero, List.set_cons_succ]
          refine takeH (i := 3) (v := ?_) rfl (by kernel_rfl) (by kernel_rfl) (by kernel_rfl) (fun _ _ _ h => h) (Or.inl ⟨by rfl, ?_⟩) hHeld ?_; rotate_left; (focus (intro w' hSw; (try dsimp only at hSw); go_split_ands; first | (go_simp; done) | (go_simp; with_reducible rfl))); simp only [Act.put, List.setIfInBounds_toArray, List.set_cons_zero, List.set_cons_succ]
          refine takeH (i := 4) (v := ?_) rfl (by kernel_rfl) (by kernel_rfl) (by kernel_rfl) (fun _ _ _ h => h) (Or.inl ⟨by rfl, ?_⟩) hHeld ?_; rotate_left; (focus (intro w' hSw; (try dsimp only at hSw); go_split_ands; first | (go_simp; done) | (go_simp; with_reducible rfl))); simp only [Act.put, List.setIfInBounds_toArray, List.set_cons_zero, List.set_cons_succ]
          refine oneH (i := 2) rfl (by kernel_rfl) (fun K hK => ?_)
          refine step_append_none (by rfl) _ _ _ (by rfl) 27 i0 Tryd.underlying25 hi0 (by rfl) p.a p.c (by show Value.slice p.a p.l.length p.c = _; rw [HL0.out.1]) ?_
          refine hK.out _ _ hHeld (fun hHeld => ?_)
          clear hK K
          refine oneH (i := 5) rfl (by kernel_rfl) (fun K hK => ?_)
          refine step_append_lies _ (by rfl) _ _ _ (by rfl) B 27 i0 _ 7 104 Tryd.underlying25 hi0 hz0 hz1 hz2 rfl (by omega) (.slice none 0 0) 0 [] (by rfl) (World.ownsRow_nil _ _ _ _) ⟨g, 7, none⟩ us.length (cap - 1) (cells7 us) (by rfl) (cells7_len _) (HUSN.out wc.drew (fun k hk => rfl)) (cells7_one _) hu1 (by unfold maxLen; omega) (by omega) hBw wc.heap.size rfl ?_
          intro g2 c2 w4 hown2 hgrow2 hat2 hlt2
          have hk2 : ∀ k, k < wc.heap.size → w4.heap[k]? = wc.heap[k]? := fun k hk => hgrow2.block k hk (by simp [Value.ownBlock])
          have hb4 : ∀ q, (Value.slice (some ⟨g2, 0, none⟩) (0 + us.length) c2).ownBlock = some q → wc.heap.size ≤ q := fun q hq => by
            have : g2 = q := Option.some.inj hq
            subst this
            rcases hat2 with e | e
            · simp [Value.ownBlock] at e
            · omega
          have hlow4 : Below wc.heap.size wc w4 := ⟨hgrow2.os, hgrow2.tape, hgrow2.output, hgrow2.size, hk2⟩
          have HN : Hid (SJ B (.slice (some ⟨g2, 0, none⟩) (0 + us.length) c2) u' (p.l ++ us) ss' w4 ∧ Below w.heap.size w w4 ∧ mass1 (p.l ++ us) ≤ 1000 ∧ B ≤ w4.heap.size ∧ ss'.map St.m ++ toGo (p.l ++ us) = sitesM x.tm) := HFIN.out (.slice (some ⟨g2, 0, none⟩) (0 + us.length) c2) w4 (by rw [HL0.out.2, List.nil_append]; simpa using hown2) hb4 hlow4
          refine hK.out _ _ (HSB.out _ hk2) (fun hHeld => ?_)
          clear hK K hown2 hgrow2 hat2 hlt2 hk2 hb4 hlow4
          refine takeH (i := 6) (v := ?_) rfl (by kernel_rfl) (by kernel_rfl) (by kernel_rfl) (fun _ _ _ h => h) (Or.inl ⟨by rfl, ?_⟩) hHeld ?_; rotate_left; (focus (intro w' hSw; (try dsimp only at hSw); go_split_ands; first | (go_simp; done) | (go_simp; with_reducible rfl))); simp only [Act.put, List.setIfInBounds_toArray, List.set_cons_zero, List.set_cons_succ]
          refine wpAnyH_done (by kernel_rfl) ?_ _
          go_wp2_with fail
          (try simp only [Nat.zero_add] at HN)
          go_roundg (mass1 (p.l ++ us))
          case measure => exact hmm
          case rel => exact ⟨_, _, p.l ++ us, ss', rfl, rfl, rfl, HN⟩
      · have hl1 : 0 < p.l.length := by omega
        by_cases hu0 : us.length = 0
        · have HU0 : Hid (us.length = 0) := hu0
          obtain ⟨SA, hSA⟩ : ∃ A : Option Addr, (if cap = 1 then some ⟨g, 0, none⟩ else some ⟨g, 7, none⟩) = A := ⟨_, rfl⟩
          clear hu0 hl0
          obtain ⟨xb, xo, xa, _, _⟩ := hpi.part 0 (by omega)
          have HNW : Hid (∀ j u, (cells7 p.l)[j]? = some u → wc.drew.cell? ((⟨xb, xo, none⟩ : Addr).add j) = some u) := parts_cells (hpi.below ((Below.refl _ _).drew)) xa
          have HXA : Hid (p.a = some ⟨xb, xo, none⟩) := xa
          clear xa
          go_upto_region 7 with fail
          refine wp_region_held_drew (S := fun W => W.cell? ⟨NB, 6, none⟩ = some (.slice p.a p.l.length p.c)) (by kernel_rfl) (HS.out _ ((Below.refl _ _).drew)) (fun hHeld => ?_)
          refine takeH (i := 0) (v := ?_) rfl (by kernel_rfl) (by kernel_rfl) (by kernel_rfl) (fun _ _ _ h => h) (Or.inl ⟨by rfl, ?_⟩) hHeld ?_; rotate_left; (focus (intro w' hSw; (try dsimp only at hSw); go_split_ands; first | (go_simp; done) | (go_simp; with_reducible rfl))); simp only [Act.put, List.setIfInBounds_toArray, List.set_cons_zero, List.set_cons_succ]
          refine takeH (i := 1) (v := ?_) rfl (by kernel_rfl) (by kernel_rfl) (by kernel_rfl) (fun _ _ _ h => h) (Or.inl ⟨by rfl, ?_⟩) hHeld ?_; rotate_left; (focus (intro w' hSw; (try dsimp only at hSw); go_split_ands; first | (go_simp; done) | (go_simp; with_reducible rfl))); simp only [Act.put, List.setIfInBounds_toArray, List.set_cons_zero, List.set_cons_succ]
          refine takeH (i := 3) (v := ?_) rfl (by kernel_rfl) (by kernel_rfl) (by kernel_rfl) (fun _ _ _ h => h) (Or.inl ⟨by rfl, ?_⟩) hHeld ?_; rotate_left; (focus (intro w' hSw; (try dsimp only at hSw); go_split_ands; first | (go_simp; done) | (go_simp; with_reducible rfl))); simp only [Act.put, List.setIfInBounds_toArray, List.set_cons_zero, List.set_cons_succ]
          refine takeH (i := 4) (v := ?_) rfl (by kernel_rfl) (by kernel_rfl) (by kernel_rfl) (fun _ _ _ h => h) (Or.inl ⟨by rfl, ?_⟩) hHeld ?_; rotate_left; (focus (intro w' hSw; (try dsimp only at hSw); go_split_ands; first | (go_simp; done) | (go_simp; with_reducible rfl))); simp only [Act.put, List.setIfInBounds_toArray, List.set_cons_zero, List.set_cons_succ]
          refine oneH (i := 2) rfl (by kernel_rfl) (fun K hK => ?_)
          refine step_append_lies _ (by rfl) _ _ _ (by rfl) B 27 i0 _ 7 104 Tryd.underlying25 hi0 hz0 hz1 hz2 rfl (by omega) (.slice none 0 0) 0 [] (by rfl) (World.ownsRow_nil _ _ _ _) ⟨xb, xo, none⟩ p.l.length p.c (cells7 p.l) (by show Value.slice p.a p.l.length p.c = _; rw [HXA.out]) (cells7_len _) HNW.out (cells7_one _) hl1 (by unfold maxLen; omega) (by omega) hBw wc.heap.size rfl ?_
          intro g1 c1 w3 hown1 hgrow1 hat1 hlt1
          have hk1 : ∀ k, k < wc.heap.size → w3.heap[k]? = wc.heap[k]? := fun k hk => hgrow1.block k hk (by simp [Value.ownBlock])
          have hs3 : wc.heap.size ≤ w3.heap.size := hgrow1.size
          have hg1 : wc.heap.size ≤ g1 := by
            rcases hat1 with e | e
            · simp [Value.ownBlock] at e
            · omega
          refine hK.out _ _ (HSB.out _ hk1) (fun hHeld => ?_)
          clear hK K
          refine oneH (i := 5) rfl (by kernel_rfl) (fun K hK => ?_)
          have hcc1 : 0 + p.l.length ≤ c1 := by
            rcases hown1.2 with ⟨h, _⟩ | ⟨g', cap', cur, h, _, _, h1, _⟩
            · cases h
            · cases h; exact h1
          refine step_append_void (by rfl) _ _ _ (by rfl) 27 i0 Tryd.underlying25 hi0 g1 (0 + p.l.length) c1 (by rfl) SA (cap - 1) (by show Value.slice SA us.length (cap - 1) = _; rw [HU0.out]) hcc1 ?_
          have hb4 : ∀ q, (Value.slice (some ⟨g1, 0, none⟩) (0 + p.l.length) c1).ownBlock = some q → wc.heap.size ≤ q := fun q hq => by
            have : g1 = q := Option.some.inj hq
            omega
          have hlow4 : Below wc.heap.size wc w3 := ⟨hgrow1.os, hgrow1.tape, hgrow1.output, hs3, hk1⟩
          have HN : Hid (SJ B (.slice (some ⟨g1, 0, none⟩) (0 + p.l.length) c1) u' (p.l ++ us) ss' w3 ∧ Below w.heap.size w w3 ∧ mass1 (p.l ++ us) ≤ 1000 ∧ B ≤ w3.heap.size ∧ ss'.map St.m ++ toGo (p.l ++ us) = sitesM x.tm) := HFIN.out (.slice (some ⟨g1, 0, none⟩) (0 + p.l.length) c1) w3 (by rw [List.length_append, HU0.out, List.length_eq_zero_iff.1 HU0.out, List.append_nil]; simpa using hown1) hb4 hlow4
          refine hK.out _ _ hHeld (fun hHeld => ?_)
          clear hK K hown1 hgrow1 hat1 hlt1 hk1 hb4 hlow4 hs3 hg1 HNW
          refine takeH (i := 6) (v := ?_) rfl (by kernel_rfl) (by kernel_rfl) (by kernel_rfl) (fun _ _ _ h => h) (Or.inl ⟨by rfl, ?_⟩) hHeld ?_; rotate_left; (focus (intro w' hSw; (try dsimp only at hSw); go_split_ands; first | (go_simp; done) | (go_simp; with_reducible rfl))); simp only [Act.put, List.setIfInBounds_toArray, List.set_cons_zero, List.set_cons_succ]
          refine wpAnyH_done (by kernel_rfl) ?_ _
          go_wp2_with fail
          (try simp only [Nat.zero_add] at HN)
          go_roundg (mass1 (p.l ++ us))
          case measure => exact hmm
          case rel => exact ⟨_, _, p.l ++ us, ss', rfl, rfl, rfl, HN⟩
        · have hu1 : 0 < us.length := by omega
          have hcap1 : ¬ cap = 1 := by omega
          clear hu0 hl0
          obtain ⟨xb, xo, xa, _, _⟩ := hpi.part 0 (by omega)
          have HNW : Hid (∀ j u, (cells7 p.l)[j]? = some u → wc.drew.cell? ((⟨xb, xo, none⟩ : Addr).add j) = some u) := parts_cells (hpi.below ((Below.refl _ _).drew)) xa
          have HXA : Hid (p.a = some ⟨xb, xo, none⟩) := xa
          clear xa
          go_upto_region 7 with fail
          refine wp_region_held_drew (S := fun W => W.cell? ⟨NB, 6, none⟩ = some (.slice p.a p.l.length p.c)) (by kernel_rfl) (HS.out _ ((Below.refl _ _).drew)) (fun hHeld => ?_)
          refine takeH (i := 0) (v := ?_) rfl (by kernel_rfl) (by kernel_rfl) (by kernel_rfl) (fun _ _ _ h => h) (Or.inl ⟨by rfl, ?_⟩) hHeld ?_; rotate_left; (focus (intro w' hSw; (try dsimp only at hSw); go_split_ands; first | (go_simp; done) | (go_simp; with_reducible rfl))); simp only [Act.put, List.setIfInBounds_toArray, List.set_cons_zero, List.set_cons_succ]
          refine takeH (i := 1) (v := ?_) rfl (by kernel_rfl) (by kernel_rfl) (by kernel_rfl) (fun _ _ _ h => h) (Or.inl ⟨by rfl, ?_⟩) hHeld ?_; rotate_left; (focus (intro w' hSw; (try dsimp only at hSw); go_split_ands; first | (go_simp; done) | (go_simp; with_reducible rfl))); simp only [Act.put, List.setIfInBounds_toArray, List.set_cons_zero, List.set_cons_succ]
          refine takeH (i := 3) (v := ?_) rfl (by kernel_rfl) (by kernel_rfl) (by kernel_rfl) (fun _ _ _ h => h) (Or.inl ⟨by rfl, ?_⟩) hHeld ?_; rotate_left; (focus (intro w' hSw; (try dsimp only at hSw); go_split_ands; first | (go_simp; done) | (go_simp; with_reducible rfl))); simp only [Act.put, List.setIfInBounds_toArray, List.set_cons_zero, List.set_cons_succ]
          refine takeH (i := 4) (v := ?_) rfl (by kernel_rfl) (by kernel_rfl) (by kernel_rfl) (fun _ _ _ h => h) (Or.inl ⟨by rfl, ?_⟩) hHeld ?_; rotate_left; (focus (intro w' hSw; (try dsimp only at hSw); go_split_ands; first | (go_simp; done) | (go_simp; with_reducible rfl))); simp only [Act.put, List.setIfInBounds_toArray, List.set_cons_zero, List.set_cons_succ]
          refine oneH (i := 2) rfl (by kernel_rfl) (fun K hK => ?_)
          refine step_append_lies _ (by rfl) _ _ _ (by rfl) B 27 i0 _ 7 104 Tryd.underlying25 hi0 hz0 hz1 hz2 rfl (by omega) (.slice none 0 0) 0 [] (by rfl) (World.ownsRow_nil _ _ _ _) ⟨xb, xo, none⟩ p.l.length p.c (cells7 p.l) (by show Value.slice p.a p.l.length p.c = _; rw [HXA.out]) (cells7_len _) HNW.out (cells7_one _) hl1 (by unfold maxLen; omega) (by omega) hBw wc.heap.size rfl ?_
          intro g1 c1 w3 hown1 hgrow1 hat1 hlt1
          have hk1 : ∀ k, k < wc.heap.size → w3.heap[k]? = wc.heap[k]? := fun k hk => hgrow1.block k hk (by simp [Value.ownBlock])
          have hs3 : wc.heap.size ≤ w3.heap.size := hgrow1.size
          have hg1 : wc.heap.size ≤ g1 := by
            rcases hat1 with e | e
            · simp [Value.ownBlock] at e
            · omega
          refine hK.out _ _ (HSB.out _ hk1) (fun hHeld => ?_)
          clear hK K
          refine oneH (i := 5) rfl (by kernel_rfl) (fun K hK => ?_)
          refine step_append_lies _ (by rfl) _ _ _ (by rfl) B 27 i0 _ 7 104 Tryd.underlying25 hi0 hz0 hz1 hz2 rfl (by omega) (.slice (some ⟨g1, 0, none⟩) (0 + p.l.length) c1) (0 + p.l.length) ([] ++ cells7 p.l) (by rfl) hown1 ⟨g, 7, none⟩ us.length (cap - 1) (cells7 us) (by rfl) (cells7_len _) (HUSN.out w3 hk1) (cells7_one _) hu1 (by unfold maxLen; omega) (by omega) (by omega) w3.heap.size rfl ?_
          intro g2 c2 w4 hown2 hgrow2 hat2 hlt2
          have hk2 : ∀ k, k < wc.heap.size → w4.heap[k]? = wc.heap[k]? := fun k hk => (hgrow2.block k (by omega) (by simp [Value.ownBlock]; omega)).trans (hk1 k hk)
          have hb4 : ∀ q, (Value.slice (some ⟨g2, 0, none⟩) (0 + p.l.length + us.length) c2).ownBlock = some q → wc.heap.size ≤ q := fun q hq => by
            have : g2 = q := Option.some.inj hq
            subst this
            rcases hat2 with e | e
            · have : g1 = g2 := Option.some.inj e
              omega
            · omega
          have hlow4 : Below wc.heap.size wc w4 := ⟨hgrow2.os.trans hgrow1.os, hgrow2.tape.trans hgrow1.tape, hgrow2.output.trans hgrow1.output, by have := hgrow2.size; omega, hk2⟩
          have HN : Hid (SJ B (.slice (some ⟨g2, 0, none⟩) (0 + p.l.length + us.length) c2) u' (p.l ++ us) ss' w4 ∧ Below w.heap.size w w4 ∧ mass1 (p.l ++ us) ≤ 1000 ∧ B ≤ w4.heap.size ∧ ss'.map St.m ++ toGo (p.l ++ us) = sitesM x.tm) := HFIN.out (.slice (some ⟨g2, 0, none⟩) (0 + p.l.length + us.length) c2) w4 (by simpa [cells7_append, Nat.add_comm] using hown2) hb4 hlow4
          refine hK.out _ _ (HSB.out _ hk2) (fun hHeld => ?_)
          clear hK K hown1 hgrow1 hat1 hlt1 hown2 hgrow2 hat2 hlt2 hk1 hk2 hb4 hlow4 hs3 hg1 HNW
          refine takeH (i := 6) (v := ?_) rfl (by kernel_rfl) (by kernel_rfl) (by kernel_rfl) (fun _ _ _ h => h) (Or.inl ⟨by rfl, ?_⟩) hHeld ?_; rotate_left; (focus (intro w' hSw; (try dsimp only at hSw); go_split_ands; first | (go_simp; done) | (go_simp; with_reducible rfl))); simp only [Act.put, List.setIfInBounds_toArray, List.set_cons_zero, List.set_cons_succ]
          refine wpAnyH_done (by kernel_rfl) ?_ _
          go_wp2_with fail
          (try simp only [Nat.zero_add] at HN)
          go_roundg (mass1 (p.l ++ us))
          case measure => exact hmm
          case rel => exact ⟨_, _, p.l ++ us, ss', rfl, rfl, rfl, HN⟩
end Go.Proofs.YtnddkmccagiclaaDoor
