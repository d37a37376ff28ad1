/-
  What the call of term.Nodes answers.
-/
import Derived.Test.YtibjnkpmnimgoaaDoorSameTmB
namespace Go.Proofs.YtibjnkpmnimgoaaDoor
open Go.RowKit

def cells1 (ps : List TT) : List Value := ps.map fun p => .slice p.a p.l.length p.c

/-- Those that have parts. -/
def kids1 : List TT → List TT
  | x :: xs => (if x.l.length = 0 then [] else [x]) ++ kids1 xs
  | [] => []

def mass1 (ps : List TT) : Nat := (ps.map TT.sz).sum
/-- How many terms are still to be counted. -/
def pend (ps : List TT) : Nat := (ps.map fun p => (p.l.map TT.sz).sum).sum

theorem kids1_mass : ∀ xs : List TT, mass1 (kids1 xs) ≤ (xs.map TT.sz).sum
  | [] => by simp [kids1, mass1]
  | x :: xs => by
    have := kids1_mass xs
    simp only [kids1, mass1, List.map_append, List.sum_append_nat, List.map_cons, List.sum_cons] at this ⊢
    split
    · simp; omega
    · simp; omega

theorem kids1_pend : ∀ xs : List TT, pend (kids1 xs) + xs.length = (xs.map TT.sz).sum
  | [] => by simp [kids1, pend]
  | x :: xs => by
    have := kids1_pend xs
    have h := x.sz_eq
    simp only [kids1, pend, List.map_append, List.sum_append_nat, List.map_cons, List.sum_cons, List.length_cons] at this ⊢
    split
    · rename_i h0
      have : x.l = [] := List.length_eq_zero_iff.1 h0
      rw [this] at h
      simp at h ⊢
      omega
    · simp; omega

theorem kids1_snoc : ∀ (l : List TT) (j : Nat) (hj : j < l.length), kids1 (l.take (j + 1)) = kids1 (l.take j) ++ (if l[j].l.length = 0 then [] else [l[j]])
  | x :: l, 0, _ => by simp [kids1]
  | x :: l, j + 1, hj => by
    have := kids1_snoc l j (by simpa using hj)
    simp only [List.take_succ_cons, kids1, List.getElem_cons_succ]
    rw [this, List.append_assoc]
  | [], j, hj => by simp at hj

def Pr1 (B : Nat) (w : World) (p : TT) : Prop := p.In w ∧ p.Bl (· < B)
theorem Pr1.low {B : Nat} {w w' : World} {p : TT} (h : Pr1 B w p) (hb : Below B w w') : Pr1 B w' p :=
  ⟨h.1.congr (P := (· < B)) (fun b hb' o => hb.cell (p := ⟨b, o, none⟩) hb') h.2, h.2⟩

structure Stk1 (B : Nat) (v : Value) (ps : List TT) (w : World) : Prop where
  own : w.ownsRow B 25 1 v ps.length (cells1 ps)
  ins : ∀ p, p ∈ ps → Pr1 B w p

theorem Stk1.len {ps : List TT} : ps.length ≤ mass1 ps := by
  induction ps with
  | nil => simp
  | cons p r ih => have := p.sz_pos; simp only [mass1, List.map_cons, List.sum_cons, List.length_cons] at ih ⊢; omega

theorem Tryd.info25 : (Tryd.prog.info? 25).map (fun i => (i.zero, i.size, i.bytes)) = some (some (.slice none 0 0), 1, 24) := by kernel_rfl

theorem len_sum : ∀ l : List TT, l.length ≤ (l.map TT.sz).sum
  | [] => by simp
  | u :: r => by have := u.sz_pos; have := len_sum r; simp only [List.length_cons, List.map_cons, List.sum_cons]; omega

set_option maxRecDepth 20000 in
set_option maxHeartbeats 8000000 in
/-- term.Nodes. -/
theorem nodes_any (x : TT) (w : World) (hx : x.In w) (hsz : x.sz ≤ 1000000) :
    Calls Tryd.prog 25 #[.agg #[.int .i64 x.k, .int .i64 x.n, .int .i64 x.t.k, .slice x.t.a x.t.l.length x.t.c, .int .i64 x.f.k, .slice x.f.a x.f.l.length x.f.c, .slice x.a x.l.length x.c]] w fun e w' => e = .returned (.int .i64 (x.sz : Int)) ∧ Below w.heap.size w w' := by
  obtain ⟨i0, hi0, hz0, hz1, hz2⟩ := info_parts Tryd.info25
  obtain ⟨OX, hOX⟩ : ∃ O, O = Obj.cells #[.int .i64 x.k, .int .i64 x.n, .int .i64 x.t.k, .slice x.t.a x.t.l.length x.t.c, .int .i64 x.f.k, .slice x.f.a x.f.l.length x.f.c, .slice x.a x.l.length x.c] 27 := ⟨_, rfl⟩
  have HL : Hid (Stk1 (w.heap.size + 1) (.slice (some ⟨w.heap.size + 1, 0, none⟩) 1 1) [x] ((w.alloc OX).alloc (.cells #[.slice x.a x.l.length x.c] 25)) ∧ Below w.heap.size w ((w.alloc OX).alloc (.cells #[.slice x.a x.l.length x.c] 25)) ∧ mass1 [x] ≤ 1000000 ∧ 1 + pend [x] = x.sz) := by
    have hb : Below w.heap.size w ((w.alloc OX).alloc (.cells #[.slice x.a x.l.length x.c] 25)) := ((Below.refl _ _).alloc (Nat.le_refl _) _).alloc (by simp) _
    have hh := heap_alloc_new (w.alloc OX) (.cells #[.slice x.a x.l.length x.c] 25)
    simp only [World.size_alloc] at hh
    refine ⟨⟨⟨rfl, .inr ⟨_, 1, _, rfl, Nat.le_refl _, hh, Nat.le_refl _, by unfold maxLen; omega, rfl, rfl⟩⟩, fun p hp => ?_⟩, hb, by simpa [mass1] using hsz, ?_⟩
    · rcases List.mem_singleton.1 hp with rfl
      exact ⟨hx.below hb, hx.bl.mono fun b h => by omega⟩
    · have := x.sz_eq; simp [pend]; omega
  obtain ⟨B, hB⟩ : ∃ B, w.heap.size + 1 = B := ⟨_, rfl⟩
  have hBw : w.heap.size < B := by omega
  obtain ⟨S, hS⟩ : ∃ S, x.sz = S := ⟨_, rfl⟩
  have hSb : S ≤ 1000000 := by omega
  rw [hS] at HL ⊢
  subst hOX
  clear hx hsz hS
  go_enter Tryd.func25, Tryd.ntmps25
  go_wp2_with fail
  go_loopg [3, 4] (mass1 [x]) (fun k cn v wr => ∃ (u : Value) (ps : List TT) (c : Nat), u = v ∧ cn = .int .i64 (c : Int) ∧ k = mass1 ps ∧ Hid (Stk1 B u ps wr ∧ Below w.heap.size w wr ∧ mass1 ps ≤ 1000000 ∧ c + pend ps = S))
  case atStart => exact ⟨_, _, 1, rfl, rfl, rfl, by rw [← hB]; exact HL⟩
  case round =>
    obtain ⟨v, ps, c, hv, rfl, hk, HR⟩ := hrel
    subst hv
    have HK : Hid (gk = mass1 ps) := hk
    clear hk HL hB
    by_cases hne : ps = []
    · subst hne
      obtain ⟨a, c', rfl⟩ : ∃ a c, v = .slice a 0 c := by
        rcases HR.out.1.own.2 with ⟨rfl, _⟩ | ⟨g, cap, cur, rfl, _⟩
        · exact ⟨_, _, rfl⟩
        · exact ⟨_, _, rfl⟩
      have HF : Hid (Below w.heap.size w wr ∧ c = S) := ⟨HR.out.2.1, by have := HR.out.2.2.2; simpa [pend] using this⟩
      clear HR HK
      go_wp2_with fail
      go_ret
      exact ⟨by rw [← HF.out.2]; rfl, HF.out.1⟩
    · obtain ⟨us, p, rfl⟩ : ∃ us p, ps = us ++ [p] := ⟨ps.dropLast, ps.getLast hne, (List.dropLast_concat_getLast hne).symm⟩
      have ho := HR.out.1.own
      have hlen : (us ++ [p]).length = us.length + 1 := by simp
      have hca : cells1 (us ++ [p]) = cells1 us ++ [.slice p.a p.l.length p.c] := by simp [cells1]
      rw [hlen, hca] at ho
      obtain ⟨g, cap, rfl, hg, hgl⟩ := ho.form (by omega)
      have c0 := ho.cellAt us.length (by omega)
      rw [List.getElem?_append_right (by simp [cells1]), show (cells1 us).length = us.length by simp [cells1], Nat.sub_self] at c0
      simp only [List.getElem?_cons_zero] at c0
      have hcap : us.length + 1 ≤ cap := by
        rcases ho.2 with ⟨h, _⟩ | ⟨g', cap', cur, h, _, _, h1, _⟩
        · cases h
        · cases h; exact h1
      have hop : wr.ownsRow B 25 1 (.slice (some ⟨g, 0, none⟩) us.length cap) us.length (cells1 us) := ownsRow_pop (by simp [cells1]) ho
      have hpr : Pr1 B wr p := HR.out.1.ins p (by simp)
      have hms : mass1 (us ++ [p]) = mass1 us + p.sz := by simp [mass1]
      have hpd : pend (us ++ [p]) = pend us + (p.l.map TT.sz).sum := by simp [pend]
      have hus := Stk1.len (ps := us)
      have hml := HR.out.2.2.1
      have hcs := HR.out.2.2.2
      have i1 : (us.length : Int) < ((us.length : Int) + 1) := by omega
      have n1 : (us.length : Int) ≤ 1000001 := by omega
      have n2 : (us.length : Int) ≤ (cap : Int) := by omega
      have n3 : (0 : Int) ≤ (us.length : Int) := by omega
      have hpl : p.l.length ≤ 1000001 := by have h1 := p.sz_eq; have h2 := len_sum p.l; omega
      have hc1 : (c : Int) ≤ 1000001 := by omega
      have hszB : B ≤ wr.heap.size := by omega
      have HI : Hid (Stk1 B (.slice (some ⟨g, 0, none⟩) us.length cap) us wr ∧ Below w.heap.size w wr ∧ Pr1 B wr p ∧ g < wr.heap.size) := ⟨⟨hop, fun q hq => HR.out.1.ins q (by simp [hq])⟩, HR.out.2.1, hpr, hgl⟩
      have HM : Hid (gk = mass1 us + p.sz ∧ mass1 us + p.sz ≤ 1000000 ∧ c + (pend us + (p.l.map TT.sz).sum) = S) := ⟨HK.out.trans hms, by rw [← hms]; exact hml, by rw [← hpd]; exact hcs⟩
      clear ho hop hpr HR HK hms hml hne hlen hus hca hpd hcs
      go_wp2_with fail
      obtain ⟨W0, hW0⟩ : ∃ W, W = wr := ⟨_, rfl⟩
      subst hW0
      clear c0
      go_loopg [4, 31] p.l.length (fun q v i wx => ∃ (j : Nat) (u : Value), q + j = p.l.length ∧ i = .int .i64 (j : Int) ∧ u = v ∧ Hid (Stk1 B u (us ++ kids1 (p.l.take j)) wx ∧ Below w.heap.size w wx ∧ Pr1 B wx p ∧ B ≤ wx.heap.size))
      case atStart => exact ⟨0, _, by omega, rfl, rfl, by simp [kids1]; exact HI.out.1, HI.out.2.1, HI.out.2.2.1, hszB⟩
      case round =>
        obtain ⟨j, v, hj, rfl, hv, HQ⟩ := hrel
        subst hv
        have HJ : Hid (gk + j = p.l.length) := hj
        clear hj HI
        by_cases hlt : j < p.l.length
        · obtain ⟨hp1, hb1⟩ := HQ.out.2.2.1
          obtain ⟨b, o, ea, hX, hxj⟩ := hp1.part j hlt
          have hblj : p.l[j].Bl (· < B) := hb1.mem (List.getElem_mem hlt)
          obtain ⟨X, hXe⟩ : ∃ X, p.l[j] = X := ⟨_, rfl⟩
          rw [hXe] at hX hxj hblj
          have HXY : Hid (p.l[j] = X) := hXe
          have d0 := hX.c0
          have d1 := hX.c1
          have d2 := hX.c2
          have d3 := hX.c3
          have d4 := hX.c4
          have d5 := hX.c5
          have d6 := hX.c6
          have hszx : B ≤ wr.heap.size := HQ.out.2.2.2
          have i5 : (j : Int) < (p.l.length : Int) := by omega
          have i7 : (0 : Int) ≤ (j : Int) := by omega
          have HEA : Hid (p.a = some ⟨b, o, none⟩) := ea
          rw [ea]
          have hbw : ∀ o, Below wr.heap.size wr (wr.alloc o) := fun o => (Below.refl _ _).alloc (Nat.le_refl _) _
          have HW2 : Hid (∀ o, Stk1 B v (us ++ kids1 (p.l.take j)) (wr.alloc o) ∧ Below w.heap.size w (wr.alloc o) ∧ Pr1 B (wr.alloc o) p ∧ Pr1 B (wr.alloc o) X) := by
            intro o
            have hlow : Below B wr (wr.alloc o) := (hbw o).mono hszx
            exact ⟨⟨ownsRow_low HQ.out.1.own (hbw o), fun q hq => (HQ.out.1.ins q hq).low hlow⟩, HQ.out.2.1.trans ((hbw o).mono HQ.out.2.1.size), HQ.out.2.2.1.low hlow, Pr1.low ⟨hxj, hblj⟩ hlow⟩
          have HSN : Hid (kids1 (p.l.take (j + 1)) = kids1 (p.l.take j) ++ (if X.l.length = 0 then [] else [X])) := by
            have := kids1_snoc p.l j hlt
            rw [HXY.out] at this
            exact this
          clear hp1 hb1 ea hX hxj hblj hXe hbw HQ
          obtain ⟨OX, hOX⟩ : ∃ O, O = Obj.cells #[.int .i64 X.k, .int .i64 X.n, .int .i64 X.t.k, .slice X.t.a X.t.l.length X.t.c, .int .i64 X.f.k, .slice X.f.a X.f.l.length X.f.c, .slice X.a X.l.length X.c] 27 := ⟨_, rfl⟩
          by_cases hz : X.l.length = 0
          · have i8 : ¬ (0 : Int) < (X.l.length : Int) := by omega
            have HN : Hid (Stk1 B v (us ++ kids1 (p.l.take (j + 1))) (wr.alloc OX) ∧ Below w.heap.size w (wr.alloc OX) ∧ Pr1 B (wr.alloc OX) p ∧ B ≤ (wr.alloc OX).heap.size) := by
              show _ ∧ _
              rw [HSN.out, if_pos hz, List.append_nil]
              exact ⟨(HW2.out _).1, (HW2.out _).2.1, (HW2.out _).2.2.1, by simp; omega⟩
            subst hOX
            clear hz HW2
            go_wp2_with fail
            rw [← HEA.out]
            go_roundg (p.l.length - (j + 1))
            case measure => have := HJ.out; omega
            case rel => exact ⟨j + 1, _, by have := HJ.out; omega, by go_num, rfl, HN⟩
          · have i8 : (0 : Int) < (X.l.length : Int) := by omega
            obtain ⟨N, hN⟩ : ∃ N, (us ++ kids1 (p.l.take j)).length = N := ⟨_, rfl⟩
            obtain ⟨xs, hxs⟩ : ∃ xs, cells1 (us ++ kids1 (p.l.take j)) = xs := ⟨_, rfl⟩
            have hNb : N ≤ 1000001 := by
              have h1 := Stk1.len (ps := us ++ kids1 (p.l.take j))
              have h2 := kids1_mass (p.l.take j)
              have h3 := sum_take_le TT.sz p.l j
              have h4 := p.sz_eq
              have h5 := HM.out.2.1
              have h6 : mass1 (us ++ kids1 (p.l.take j)) = mass1 us + mass1 (kids1 (p.l.take j)) := by simp [mass1]
              omega
            have uo : (wr.alloc OX).ownsRow B 25 1 v N xs := by rw [← hN, ← hxs]; exact (HW2.out _).1.own
            have hnew := heap_alloc_new (wr.alloc OX) (.cells #[.slice X.a X.l.length X.c] 25)
            simp only [World.size_alloc] at hnew
            have HNX : Hid ((us ++ kids1 (p.l.take j)).length = N ∧ cells1 (us ++ kids1 (p.l.take j)) = xs) := ⟨hN, hxs⟩
            have HZ : Hid (X.l.length ≠ 0) := hz
            have HWX : Hid (Stk1 B v (us ++ kids1 (p.l.take j)) (wr.alloc OX) ∧ Below w.heap.size w (wr.alloc OX) ∧ Pr1 B (wr.alloc OX) p ∧ Pr1 B (wr.alloc OX) X) := HW2.out _
            subst hOX
            clear hN hxs hz HW2
            go_wp2_with (at_builtin; refine wpList_append_lies _ rfl _ _ _ rfl B 25 i0 _ 1 24 Tryd.underlying78 hi0 hz0 hz1 hz2 rfl (by omega) v N xs rfl (uo.alloc _) ⟨wr.heap.size + 1, 0, none⟩ 1 1 [.slice X.a X.l.length X.c] rfl rfl (World.news_of_block (cs := #[.slice X.a X.l.length X.c]) (t := 25) (fr := (0, 0)) hnew) (by simp [Value.oneCell']) (by omega) (by unfold maxLen; omega) (by omega) (by simp; omega) (wr.heap.size + 1 + 1) (by simp) ?_; intro gg cap1 w3 hown1 hgrow hat hlt3)
            have hov : ∀ q, v.ownBlock = some q → B ≤ q := fun q hq => (uo.lt q hq).1
            obtain ⟨OX, hOX⟩ : ∃ O, O = Obj.cells #[.int .i64 X.k, .int .i64 X.n, .int .i64 X.t.k, .slice X.t.a X.t.l.length X.t.c, .int .i64 X.f.k, .slice X.f.a X.f.l.length X.f.c, .slice X.a X.l.length X.c] 27 := ⟨_, rfl⟩
            rw [← hOX] at hgrow HWX
            have hlow : Below B (wr.alloc OX) w3 := by
              refine ⟨hgrow.os.trans rfl, hgrow.tape.trans rfl, hgrow.output.trans rfl, by have := hgrow.size; simp at this ⊢; omega, fun q hq => ?_⟩
              rw [hgrow.block q (by simp; omega) (fun e => by have := hov q e.symm; omega)]
              exact ((Below.refl _ (wr.alloc OX)).alloc (Nat.le_refl _) _).block q (by simp; omega)
            have HN : Hid (Stk1 B (.slice (some ⟨gg, 0, none⟩) (N + 1) cap1) (us ++ kids1 (p.l.take (j + 1))) w3 ∧ Below w.heap.size w w3 ∧ Pr1 B w3 p ∧ B ≤ w3.heap.size) := by
              show _ ∧ _
              rw [HSN.out, if_neg HZ.out, ← List.append_assoc]
              refine ⟨⟨?_, fun q hq => ?_⟩, HWX.out.2.1.trans (hlow.mono (by omega)), HWX.out.2.2.1.low hlow, by have := hlow.size; simp at this; omega⟩
              · have e : cells1 (us ++ kids1 (p.l.take j) ++ [X]) = cells1 (us ++ kids1 (p.l.take j)) ++ [.slice X.a X.l.length X.c] := by simp [cells1]
                rw [e, List.length_append, List.length_singleton, HNX.out.1, HNX.out.2]
                exact hown1
              · rcases List.mem_append.1 hq with hq | hq
                · exact (HWX.out.1.ins q hq).low hlow
                · rcases List.mem_singleton.1 hq with rfl
                  exact HWX.out.2.2.2.low hlow
            clear hown1 hgrow hat hlt3 hov hlow HWX uo hnew hOX
            go_wp2_with fail
            rw [← HEA.out]
            go_roundg (p.l.length - (j + 1))
            case measure => have := HJ.out; omega
            case rel => exact ⟨j + 1, _, by have := HJ.out; omega, by go_num, rfl, HN⟩
        · have HN : Hid (Stk1 B v (us ++ kids1 p.l) wr ∧ Below w.heap.size w wr ∧ mass1 (us ++ kids1 p.l) ≤ 1000000 ∧ c + p.l.length + pend (us ++ kids1 p.l) = S) := by
            have h1 := HQ.out.1
            rw [List.take_of_length_le (by omega)] at h1
            have h2 := kids1_mass p.l
            have h3 := kids1_pend p.l
            have h4 := p.sz_eq
            have h5 := HM.out.2
            have h6 : mass1 (us ++ kids1 p.l) = mass1 us + mass1 (kids1 p.l) := by simp [mass1]
            have h7 : pend (us ++ kids1 p.l) = pend us + pend (kids1 p.l) := by simp [pend]
            exact ⟨h1, HQ.out.2.1, by omega, by omega⟩
          clear HQ
          go_wp2_with fail
          go_roundg (mass1 (us ++ kids1 p.l))
          case measure =>
            have h2 := kids1_mass p.l
            have h4 := p.sz_eq
            have h5 := HM.out.1
            have h6 : mass1 (us ++ kids1 p.l) = mass1 us + mass1 (kids1 p.l) := by simp [mass1]
            omega
          case rel => exact ⟨_, _, c + p.l.length, rfl, by go_num, rfl, HN⟩
end Go.Proofs.YtibjnkpmnimgoaaDoor
