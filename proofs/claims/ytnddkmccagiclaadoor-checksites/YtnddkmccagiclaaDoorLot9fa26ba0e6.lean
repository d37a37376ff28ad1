/-
  What the call of term.Nodes answers.
-/
import Derived.Test.YtnddkmccagiclaaDoorLotf289ed7d19
import Derived.Test.YtnddkmccagiclaaDoorLot6fac8fe291
import Derived.Deep.DeepCutAuto
import Derived.Deep.RegionHeld3
import Derived.Deep.RegionLaw
namespace Go.Proofs.YtnddkmccagiclaaDoor
open Go.RowKit

def cells1 (ps : List TT) : List Value := ps.map fun p => .slice p.a p.l.length p.c

/-- Those that have parts. -/
def kids1 : List TT → List TT
  | x :: xs => (if x.l.length = 0 then [] else [x]) ++ kids1 xs
  | [] => []

def mass1 (ps : List TT) : Nat := (ps.map TT.sz).sum
/-- How many terms are still to be counted. -/
def pend (ps : List TT) : Nat := (ps.map fun p => (p.l.map TT.sz).sum).sum

theorem kids1_mass : ∀ xs : List TT, mass1 (kids1 xs) ≤ (xs.map TT.sz).sum
  | [] => by simp [kids1, mass1]
  | x :: xs => by
    have := kids1_mass xs
    simp only [kids1, mass1, List.map_append, List.sum_append_nat, List.map_cons, List.sum_cons] at this ⊢
    split
    · simp; omega
    · simp; omega

theorem kids1_pend : ∀ xs : List TT, pend (kids1 xs) + xs.length = (xs.map TT.sz).sum
  | [] => by simp [kids1, pend]
  | x :: xs => by
    have := kids1_pend xs
    have h := x.sz_eq
    simp only [kids1, pend, List.map_append, List.sum_append_nat, List.map_cons, List.sum_cons, List.length_cons] at this ⊢
    split
    · rename_i h0
      have : x.l = [] := List.length_eq_zero_iff.1 h0
      rw [this] at h
      simp at h ⊢
      omega
    · simp; omega

theorem kids1_snoc : ∀ (l : List TT) (j : Nat) (hj : j < l.length), kids1 (l.take (j + 1)) = kids1 (l.take j) ++ (if l[j].l.length = 0 then [] else [l[j]])
  | x :: l, 0, _ => by simp [kids1]
  | x :: l, j + 1, hj => by
    have := kids1_snoc l j (by simpa using hj)
    simp only [List.take_succ_cons, kids1, List.getElem_cons_succ]
    rw [this, List.append_assoc]
  | [], j, hj => by simp at hj

def Pr1 (B : Nat) (w : World) (p : TT) : Prop := p.In w ∧ p.Bl (· < B)
theorem Pr1.low {B : Nat} {w w' : World} {p : TT} (h : Pr1 B w p) (hb : Below B w w') : Pr1 B w' p :=
  ⟨h.1.congr (P := (· < B)) (fun b hb' o => hb.cell (p := ⟨b, o, none⟩) hb') h.2, h.2⟩

structure Stk1 (B : Nat) (v : Value) (ps : List TT) (w : World) : Prop where
  own : w.ownsRow B 25 1 v ps.length (cells1 ps)
  ins : ∀ p, p ∈ ps → Pr1 B w p

theorem Stk1.len {ps : List TT} : ps.length ≤ mass1 ps := by
  induction ps with
  | nil => simp
  | cons p r ih => have := p.sz_pos; simp only [mass1, List.map_cons, List.sum_cons, List.length_cons] at ih ⊢; omega

theorem Tryd.info25 : (Tryd.prog.info? 25).map (fun i => (i.zero, i.size, i.bytes)) = some (some (.slice none 0 0), 1, 24) := by kernel_rfl

theorem len_sum : ∀ l : List TT, l.length ≤ (l.map TT.sz).sum
  | [] => by simp
  | u :: r => by have := u.sz_pos; have := len_sum r; simp only [List.length_cons, List.map_cons, List.sum_cons]; omega

set_option maxRecDepth 20000 in
set_option maxHeartbeats 8000000 in
/-- term.Nodes. -/
theorem nodes_any (x : TT) (w : World) (hx : x.In w) (hsz : x.sz ≤ 1000000) :
    Calls Tryd.prog 25 #[.agg #[.int .i64 x.k, .int .i64 x.n, .int .i64 x.t.k, .slice x.t.a x.t.l.length x.t.c, .int .i64 x.f.k, .slice x.f.a x.f.l.length x.f.c, .slice x.a x.l.length x.c]] w fun e w' => e = .returned (.int .i64 (x.sz : Int)) ∧ Below w.heap.size w w' := by
  obtain ⟨i0, hi0, hz0, hz1, hz2⟩ := info_parts Tryd.info25
  obtain ⟨OX, hOX⟩ : ∃ O, O = Obj.cells #[.int .i64 x.k, .int .i64 x.n, .int .i64 x.t.k, .slice x.t.a x.t.l.length x.t.c, .int .i64 x.f.k, .slice x.f.a x.f.l.length x.f.c, .slice x.a x.l.length x.c] 27 := ⟨_, rfl⟩
  have HL : Hid (Stk1 (w.heap.size + 1) (.slice (some ⟨w.heap.size + 1, 0, none⟩) 1 1) [x] ((w.alloc OX).alloc (.cells #[.slice x.a x.l.length x.c] 25)) ∧ Below w.heap.size w ((w.alloc OX).alloc (.cells #[.slice x.a x.l.length x.c] 25)) ∧ mass1 [x] ≤ 1000000 ∧ 1 + pend [x] = x.sz) := by
    have hb : Below w.heap.size w ((w.alloc OX).alloc (.cells #[.slice x.a x.l.length x.c] 25)) := ((Below.refl _ _).alloc (Nat.le_refl _) _).alloc (by simp) _
    have hh := heap_alloc_new (w.alloc OX) (.cells #[.slice x.a x.l.length x.c] 25)
    simp only [World.size_alloc] at hh
    refine ⟨⟨⟨rfl, .inr ⟨_, 1, _, rfl, Nat.le_refl _, hh, Nat.le_refl _, by unfold maxLen; omega, rfl, rfl⟩⟩, fun p hp => ?_⟩, hb, by simpa [mass1] using hsz, ?_⟩
    · rcases List.mem_singleton.1 hp with rfl
      exact ⟨hx.below hb, hx.bl.mono fun b h => by omega⟩
    · have := x.sz_eq; simp [pend]; omega
  obtain ⟨B, hB⟩ : ∃ B, w.heap.size + 1 = B := ⟨_, rfl⟩
  have hBw : w.heap.size < B := by omega
  obtain ⟨S, hS⟩ : ∃ S, x.sz = S := ⟨_, rfl⟩
  have hSb : S ≤ 1000000 := by omega
  rw [hS] at HL ⊢
  subst hOX
  clear hx hsz hS
  go_enter Tryd.func25, Tryd.ntmps25
  go_wp2_with fail
  go_loopg [3, 4] (mass1 [x]) (fun k cn v wr => ∃ (u : Value) (ps : List TT) (c : Nat), u = v ∧ cn = .int .i64 (c : Int) ∧ k = mass1 ps ∧ Hid (Stk1 B u ps wr ∧ Below w.heap.size w wr ∧ mass1 ps ≤ 1000000 ∧ c + pend ps = S))
  case atStart => exact ⟨_, _, 1, rfl, rfl, rfl, by rw [← hB]; exact HL⟩
  case round =>
    obtain ⟨v, ps, c, hv, rfl, hk, HR⟩ := hrel
    subst hv
    have HK : Hid (gk = mass1 ps) := hk
    clear hk HL hB
    by_cases hne : ps = []
    · subst hne
      obtain ⟨a, c', rfl⟩ : ∃ a c, v = .slice a 0 c := by
        rcases HR.out.1.own.2 with ⟨rfl, _⟩ | ⟨g, cap, cur, rfl, _⟩
        · exact ⟨_, _, rfl⟩
        · exact ⟨_, _, rfl⟩
      have HF : Hid (Below w.heap.size w wr ∧ c = S) := ⟨HR.out.2.1, by have := HR.out.2.2.2; simpa [pend] using this⟩
      clear HR HK
      go_wp2_with fail
      go_ret
      exact ⟨by rw [← HF.out.2]; rfl, HF.out.1⟩
    · obtain ⟨us, p, rfl⟩ : ∃ us p, ps = us ++ [p] := ⟨ps.dropLast, ps.getLast hne, (List.dropLast_concat_getLast hne).symm⟩
      have ho := HR.out.1.own
      have hlen : (us ++ [p]).length = us.length + 1 := by simp
      have hca : cells1 (us ++ [p]) = cells1 us ++ [.slice p.a p.l.length p.c] := by simp [cells1]
      rw [hlen, hca] at ho
      obtain ⟨g, cap, rfl, hg, hgl⟩ := ho.form (by omega)
      have c0 := ho.cellAt us.length (by omega)
      rw [List.getElem?_append_right (by simp [cells1]), show (cells1 us).length = us.length by simp [cells1], Nat.sub_self] at c0
      simp only [List.getElem?_cons_zero] at c0
      have hcap : us.length + 1 ≤ cap := by
        rcases ho.2 with ⟨h, _⟩ | ⟨g', cap', cur, h, _, _, h1, _⟩
        · cases h
        · cases h; exact h1
      have hop : wr.ownsRow B 25 1 (.slice (some ⟨g, 0, none⟩) us.length cap) us.length (cells1 us) := ownsRow_pop (by simp [cells1]) ho
      have hpr : Pr1 B wr p := HR.out.1.ins p (by simp)
      have hms : mass1 (us ++ [p]) = mass1 us + p.sz := by simp [mass1]
      have hpd : pend (us ++ [p]) = pend us + (p.l.map TT.sz).sum := by simp [pend]
      have hus := Stk1.len (ps := us)
      have hml := HR.out.2.2.1
      have hcs := HR.out.2.2.2
      have i1 : (us.length : Int) < ((us.length : Int) + 1) := by omega
      have n1 : (us.length : Int) ≤ 1000001 := by omega
      have n2 : (us.length : Int) ≤ (cap : Int) := by omega
      have n3 : (0 : Int) ≤ (us.length : Int) := by omega
      have hpl : p.l.length ≤ 1000001 := by have h1 := p.sz_eq; have h2 := len_sum p.l; omega
      have hc1 : (c : Int) ≤ 1000001 := by omega
      have hszB : B ≤ wr.heap.size := by omega
      have HI : Hid (Stk1 B (.slice (some ⟨g, 0, none⟩) us.length cap) us wr ∧ Below w.heap.size w wr ∧ Pr1 B wr p ∧ g < wr.heap.size) := ⟨⟨hop, fun q hq => HR.out.1.ins q (by simp [hq])⟩, HR.out.2.1, hpr, hgl⟩
      have HM : Hid (gk = mass1 us + p.sz ∧ mass1 us + p.sz ≤ 1000000 ∧ c + (pend us + (p.l.map TT.sz).sum) = S) := ⟨HK.out.trans hms, by rw [← hms]; exact hml, by rw [← hpd]; exact hcs⟩
      clear ho hop hpr HR HK hms hml hne hlen hus hca hpd hcs
      go_wp2_with fail
      obtain ⟨W0, hW0⟩ : ∃ W, W = wr := ⟨_, rfl⟩
      subst hW0
      clear c0
      go_loopg [4, 31] p.l.length (fun q v i wx => ∃ (j : Nat) (u : Value), q + j = p.l.length ∧ i = .int .i64 (j : Int) ∧ u = v ∧ Hid (Stk1 B u (us ++ kids1 (p.l.take j)) wx ∧ Below w.heap.size w wx ∧ Pr1 B wx p ∧ B ≤ wx.heap.size))
      case atStart => exact ⟨0, _, by omega, rfl, rfl, by simp [kids1]; exact HI.out.1, HI.out.2.1, HI.out.2.2.1, hszB⟩
      case round =>
        obtain ⟨j, v, hj, rfl, hv, HQ⟩ := hrel
        subst hv
        have HJ : Hid (gk + j = p.l.length) := hj
        clear hj HI
        by_cases hlt : j < p.l.length
        · obtain ⟨hp1, hb1⟩ := HQ.out.2.2.1
          obtain ⟨b, o, ea, hX, hxj⟩ := hp1.part j hlt
          have hblj : p.l[j].Bl (· < B) := hb1.mem (List.getElem_mem hlt)
          obtain ⟨X, hXe⟩ : ∃ X, p.l[j] = X := ⟨_, rfl⟩
          rw [hXe] at hX hxj hblj
          have HXY : Hid (p.l[j] = X) := hXe
          have d0 := hX.c0
          have d1 := hX.c1
          have d2 := hX.c2
          have d3 := hX.c3
          have d4 := hX.c4
          have d5 := hX.c5
          have d6 := hX.c6
          have hszx : B ≤ wr.heap.size := HQ.out.2.2.2
          have i5 : (j : Int) < (p.l.length : Int) := by omega
          have i7 : (0 : Int) ≤ (j : Int) := by omega
          have HEA : Hid (p.a = some ⟨b, o, none⟩) := ea
          rw [ea]
          have hbw : ∀ o, Below wr.heap.size wr (wr.alloc o) := fun o => (Below.refl _ _).alloc (Nat.le_refl _) _
          have HW2 : Hid (∀ o, Stk1 B v (us ++ kids1 (p.l.take j)) (wr.alloc o) ∧ Below w.heap.size w (wr.alloc o) ∧ Pr1 B (wr.alloc o) p ∧ Pr1 B (wr.alloc o) X) := by
            intro o
            have hlow : Below B wr (wr.alloc o) := (hbw o).mono hszx
            exact ⟨⟨ownsRow_low HQ.out.1.own (hbw o), fun q hq => (HQ.out.1.ins q hq).low hlow⟩, HQ.out.2.1.trans ((hbw o).mono HQ.out.2.1.size), HQ.out.2.2.1.low hlow, Pr1.low ⟨hxj, hblj⟩ hlow⟩
          have HSN : Hid (kids1 (p.l.take (j + 1)) = kids1 (p.l.take j) ++ (if X.l.length = 0 then [] else [X])) := by
            have := kids1_snoc p.l j hlt
            rw [HXY.out] at this
            exact this
          clear hp1 hb1 ea hX hxj hblj hXe hbw HQ
          obtain ⟨OX, hOX⟩ : ∃ O, O = Obj.cells #[.int .i64 X.k, .int .i64 X.n, .int .i64 X.t.k, .slice X.t.a X.t.l.length X.t.c, .int .i64 X.f.k, .slice X.f.a X.f.l.length X.f.c, .slice X.a X.l.length X.c] 27 := ⟨_, rfl⟩
          by_cases hz : X.l.length = 0
          · have i8 : ¬ (0 : Int) < (X.l.length : Int) := by omega
            have HN : Hid (Stk1 B v (us ++ kids1 (p.l.take (j + 1))) (wr.alloc OX) ∧ Below w.heap.size w (wr.alloc OX) ∧ Pr1 B (wr.alloc OX) p ∧ B ≤ (wr.alloc OX).heap.size) := by
              show _ ∧ _
              rw [HSN.out, if_pos hz, List.append_nil]
              exact ⟨(HW2.out _).1, (HW2.out _).2.1, (HW2.out _).2.2.1, by simp; omega⟩
            subst hOX
            clear hz HW2
            go_wp2_with fail
            rw [← HEA.out]
            go_roundg (p.l.length - (j + 1))
            case measure => have := HJ.out; omega
            case rel => exact ⟨j + 1, _, by have := HJ.out; omega, by go_num, rfl, HN⟩
          · have i8 : (0 : Int) < (X.l.length : Int) := by omega
            obtain ⟨N, hN⟩ : ∃ N, (us ++ kids1 (p.l.take j)).length = N := ⟨_, rfl⟩
            obtain ⟨xs, hxs⟩ : ∃ xs, cells1 (us ++ kids1 (p.l.take j)) = xs := ⟨_, rfl⟩
            have hNb : N ≤ 1000001 := by
              have h1 := Stk1.len (ps := us ++ kids1 (p.l.take j))
              have h2 := kids1_mass (p.l.take j)
              have h3 := sum_take_le TT.sz p.l j
              have h4 := p.sz_eq
              have h5 := HM.out.2.1
              have h6 : mass1 (us ++ kids1 (p.l.take j)) = mass1 us + mass1 (kids1 (p.l.take j)) := by simp [mass1]
              omega
            have uo : (wr.alloc OX).ownsRow B 25 1 v N xs := by rw [← hN, ← hxs]; exact (HW2.out _).1.own
            have hnew := heap_alloc_new (wr.alloc OX) (.cells #[.slice X.a X.l.length X.c] 25)
            simp only [World.size_alloc] at hnew
            have HNX : Hid ((us ++ kids1 (p.l.take j)).length = N ∧ cells1 (us ++ kids1 (p.l.take j)) = xs) := ⟨hN, hxs⟩
            have HZ : Hid (X.l.length ≠ 0) := hz
            have HWX : Hid (Stk1 B v (us ++ kids1 (p.l.take j)) (wr.alloc OX) ∧ Below w.heap.size w (wr.alloc OX) ∧ Pr1 B (wr.alloc OX) p ∧ Pr1 B (wr.alloc OX) X) := HW2.out _
            subst hOX
            clear hN hxs hz HW2
            go_wp2_with (at_builtin; refine wpList_append_lies _ rfl _ _ _ rfl B 25 i0 _ 1 24 Tryd.underlying78 hi0 hz0 hz1 hz2 rfl (by omega) v N xs rfl (uo.alloc _) ⟨wr.heap.size + 1, 0, none⟩ 1 1 [.slice X.a X.l.length X.c] rfl rfl (World.news_of_block (cs := #[.slice X.a X.l.length X.c]) (t := 25) (fr := (0, 0)) hnew) (by simp [Value.oneCell']) (by omega) (by unfold maxLen; omega) (by omega) (by simp; omega) (wr.heap.size + 1 + 1) (by simp) ?_; intro gg cap1 w3 hown1 hgrow hat hlt3)
            have hov : ∀ q, v.ownBlock = some q → B ≤ q := fun q hq => (uo.lt q hq).1
            obtain ⟨OX, hOX⟩ : ∃ O, O = Obj.cells #[.int .i64 X.k, .int .i64 X.n, .int .i64 X.t.k, .slice X.t.a X.t.l.length X.t.c, .int .i64 X.f.k, .slice X.f.a X.f.l.length X.f.c, .slice X.a X.l.length X.c] 27 := ⟨_, rfl⟩
            rw [← hOX] at hgrow HWX
            have hlow : Below B (wr.alloc OX) w3 := by
              refine ⟨hgrow.os.trans rfl, hgrow.tape.trans rfl, hgrow.output.trans rfl, by have := hgrow.size; simp at this ⊢; omega, fun q hq => ?_⟩
              rw [hgrow.block q (by simp; omega) (fun e => by have := hov q e.symm; omega)]
              exact ((Below.refl _ (wr.alloc OX)).alloc (Nat.le_refl _) _).block q (by simp; omega)
            have HN : Hid (Stk1 B (.slice (some ⟨gg, 0, none⟩) (N + 1) cap1) (us ++ kids1 (p.l.take (j + 1))) w3 ∧ Below w.heap.size w w3 ∧ Pr1 B w3 p ∧ B ≤ w3.heap.size) := by
              show _ ∧ _
              rw [HSN.out, if_neg HZ.out, ← List.append_assoc]
              refine ⟨⟨?_, fun q hq => ?_⟩, HWX.out.2.1.trans (hlow.mono (by omega)), HWX.out.2.2.1.low hlow, by have := hlow.size; simp at this; omega⟩
              · have e : cells1 (us ++ kids1 (p.l.take j) ++ [X]) = cells1 (us ++ kids1 (p.l.take j)) ++ [.slice X.a X.l.length X.c] := by simp [cells1]
                rw [e, List.length_append, List.length_singleton, HNX.out.1, HNX.out.2]
                exact hown1
              · rcases List.mem_append.1 hq with hq | hq
                · exact (HWX.out.1.ins q hq).low hlow
                · rcases List.mem_singleton.1 hq with rfl
                  exact HWX.out.2.2.2.low hlow
            clear hown1 hgrow hat hlt3 hov hlow HWX uo hnew hOX
            go_wp2_with fail
            rw [← HEA.out]
            go_roundg (p.l.length - (j + 1))
            case measure => have := HJ.out; omega
            case rel => exact ⟨j + 1, _, by have := HJ.out; omega, by go_num, rfl, HN⟩
        · have HN : Hid (Stk1 B v (us ++ kids1 p.l) wr ∧ Below w.heap.size w wr ∧ mass1 (us ++ kids1 p.l) ≤ 1000000 ∧ c + p.l.length + pend (us ++ kids1 p.l) = S) := by
            have h1 := HQ.out.1
            rw [List.take_of_length_le (by omega)] at h1
            have h2 := kids1_mass p.l
            have h3 := kids1_pend p.l
            have h4 := p.sz_eq
            have h5 := HM.out.2
            have h6 : mass1 (us ++ kids1 p.l) = mass1 us + mass1 (kids1 p.l) := by simp [mass1]
            have h7 : pend (us ++ kids1 p.l) = pend us + pend (kids1 p.l) := by simp [pend]
            exact ⟨h1, HQ.out.2.1, by omega, by omega⟩
          clear HQ
          go_wp2_with fail
          go_roundg (mass1 (us ++ kids1 p.l))
          case measure =>
            have h2 := kids1_mass p.l
            have h4 := p.sz_eq
            have h5 := HM.out.1
            have h6 : mass1 (us ++ kids1 p.l) = mass1 us + mass1 (kids1 p.l) := by simp [mass1]
            omega
          case rel => exact ⟨_, _, c + p.l.length, rfl, by go_num, rfl, HN⟩
end Go.Proofs.YtnddkmccagiclaaDoor

/-
  Casts of a term in a row of their own, and a row of terms that are still to be looked at, side by side; no program's run in it.
-/
namespace Go.Proofs.YtnddkmccagiclaaDoor
open Go.RowKit

structure St where
  n : Int
  f : Tr
  t : Tr

def St.m (s : St) : Int × Ty × Ty := (s.n, s.f.ty, s.t.ty)

def cell5 (s : St) : List Value := [.int .i64 s.n, .int .i64 s.f.k, .slice s.f.a s.f.l.length s.f.c, .int .i64 s.t.k, .slice s.t.a s.t.l.length s.t.c]
def cells5 (ss : List St) : List Value := ss.flatMap cell5
theorem cells5_append (a b : List St) : cells5 (a ++ b) = cells5 a ++ cells5 b := by simp [cells5]
theorem cells5_one (s : St) : cells5 [s] = cell5 s := by simp [cells5]
theorem cells5_at : ∀ (l : List St) (j : Nat) (h : j < l.length) (i : Nat), i < 5 → (cells5 l)[j * 5 + i]? = (cell5 l[j])[i]?
  | [], j, h, _, _ => by simp at h
  | x :: r, 0, _, i, hi => by
    have : cells5 (x :: r) = cell5 x ++ cells5 r := by simp [cells5]
    rw [this, List.getElem?_append_left (by simp [cell5]; omega)]
    simp
  | x :: r, j + 1, h, i, hi => by
    have ih := cells5_at r j (by simpa using h) i hi
    have e : cells5 (x :: r) = cell5 x ++ cells5 r := by simp [cells5]
    rw [e, List.getElem?_append_right (by simp [cell5]; omega)]
    have : (j + 1) * 5 + i - (cell5 x).length = j * 5 + i := by simp [cell5]; omega
    rw [this]
    simpa using ih

/-- The casts' types are not too deep. -/
def TT.cok : TT → Prop
  | ⟨k, _, t, f, _, _, l⟩ => (k = 10 → (t.right ∧ t.hgt ≤ 1000) ∧ f.right ∧ f.hgt ≤ 1000) ∧ ∀ y, y ∈ l → y.cok
theorem TT.cok_mk {k n : Int} {t f : Tr} {a : Option Addr} {c : Nat} {l : List TT} : (TT.mk k n t f a c l).cok ↔ (k = 10 → (t.right ∧ t.hgt ≤ 1000) ∧ f.right ∧ f.hgt ≤ 1000) ∧ ∀ y, y ∈ l → y.cok := by
  rw [TT.cok]
theorem TT.cok.top {x : TT} (h : x.cok) : x.k = 10 → (x.t.right ∧ x.t.hgt ≤ 1000) ∧ x.f.right ∧ x.f.hgt ≤ 1000 := by cases x; exact (TT.cok_mk.1 h).1
theorem TT.cok.mem {x y : TT} (h : x.cok) (hy : y ∈ x.l) : y.cok := by
  obtain ⟨k, n, t, f, a, c, l⟩ := x
  exact (TT.cok_mk.1 h).2 y hy

theorem cok_of (m : Nat) (hm : m ≤ 1000) : ∀ x : TT, (∀ s, s ∈ sitesM x.tm → goodY m s.2.1 = true ∧ goodY m s.2.2 = true) → x.cok := by
  intro x
  induction x using TT.ind with
  | h k n t f a c l ih =>
    intro h
    rw [TT.tm_mk, sitesM_mk] at h
    refine TT.cok_mk.2 ⟨fun hk => ?_, fun y hy => ih y hy fun s hs => h s ?_⟩
    · have := h (n, f.ty, t.ty) (by simp [hk])
      have h1 := good_facts hm (t := f) (by rw [goodT_eq]; exact this.1)
      have h2 := good_facts hm (t := t) (by rw [goodT_eq]; exact this.2)
      exact ⟨⟨h2.1, h2.2.1⟩, h1.1, h1.2.1⟩
    · exact List.mem_append.2 (.inr (List.mem_flatMap.2 ⟨y.tm, List.mem_map.2 ⟨y, hy, rfl⟩, hs⟩))

/-- The two rows. -/
structure SI (B : Nat) (v u : Value) (ps : List TT) (ss : List St) (w : World) : Prop where
  ov : w.ownsRow B 27 7 v ps.length (cells7 ps)
  ou : w.ownsRow B 46 5 u ss.length (cells5 ss)
  ne : ∀ g, v.ownBlock = some g → u.ownBlock ≠ some g
  pi : ∀ p, p ∈ ps → Pr1 B w p ∧ p.cok
  si : ∀ s, s ∈ ss → s.f.In w ∧ s.t.In w ∧ s.f.Bl (fun b => B ≤ b ∧ some b ≠ v.ownBlock ∧ some b ≠ u.ownBlock) ∧ s.t.Bl (fun b => B ≤ b ∧ some b ≠ v.ownBlock ∧ some b ≠ u.ownBlock)

theorem SI.below {B : Nat} {v u : Value} {ps : List TT} {ss : List St} {w w' : World} (h : SI B v u ps ss w) (hb : Below w.heap.size w w') (hB : B ≤ w.heap.size) : SI B v u ps ss w' :=
  ⟨ownsRow_low h.ov hb, ownsRow_low h.ou hb, h.ne, fun p hp => ⟨(h.pi p hp).1.low (hb.mono hB), (h.pi p hp).2⟩, fun s hs => ⟨(h.si s hs).1.below hb, (h.si s hs).2.1.below hb, (h.si s hs).2.2⟩⟩

/-- A row that other blocks' growing leaves alone. -/
theorem ownsRow_far {w2 w3 : World} {B e size n : Nat} {v u : Value} {xs : List Value} (h : w2.ownsRow B e size u n xs) (hblk : ∀ k, k < w2.heap.size → some k ≠ v.ownBlock → w3.heap[k]? = w2.heap[k]?) (hne : ∀ g, v.ownBlock = some g → u.ownBlock ≠ some g) : w3.ownsRow B e size u n xs := by
  refine ⟨h.1, ?_⟩
  rcases h.2 with hn | ⟨g, cap, cur, hv, hb, hg, rest⟩
  · exact .inl hn
  · refine .inr ⟨g, cap, cur, hv, hb, (hblk g (Array.getElem?_eq_some_iff.1 hg).1 fun e => hne g e.symm ?_).trans hg, rest⟩
    rw [hv]; rfl

theorem SI.grow {B : Nat} {v u : Value} {ps : List TT} {ss : List St} {w2 w3 : World} {x : Value} {gg : Nat} (h : SI B v u ps ss w2) (hB : B ≤ w2.heap.size) (hx : x = v ∨ x = u) (hblk : ∀ k, k < w2.heap.size → some k ≠ x.ownBlock → w3.heap[k]? = w2.heap[k]?) (hat : x.ownBlock = some gg ∨ w2.heap.size ≤ gg) :
    (∀ p, p ∈ ps → Pr1 B w3 p ∧ p.cok) ∧ ∀ s, s ∈ ss → s.f.In w3 ∧ s.t.In w3 ∧ s.f.Bl (fun b => (B ≤ b ∧ some b ≠ v.ownBlock ∧ some b ≠ u.ownBlock) ∧ b ≠ gg) ∧ s.t.Bl (fun b => (B ≤ b ∧ some b ≠ v.ownBlock ∧ some b ≠ u.ownBlock) ∧ b ≠ gg) := by
  have hxo : ∀ k, x.ownBlock = some k → B ≤ k := fun k hk => by
    rcases hx with rfl | rfl
    · exact (h.ov.lt k hk).1
    · exact (h.ou.lt k hk).1
  refine ⟨fun p hp => ⟨⟨(h.pi p hp).1.1.congr (P := (· < B)) (fun b hb o => ?_) (h.pi p hp).1.2, (h.pi p hp).1.2⟩, (h.pi p hp).2⟩, fun s hs => ?_⟩
  · exact World.cell?_of_block (a := ⟨b, o, none⟩) (hblk b (by omega) fun e => by have := hxo b e.symm; omega)
  · obtain ⟨h1, h2, h3, h4⟩ := h.si s hs
    have key : ∀ b, b < w2.heap.size ∧ (B ≤ b ∧ some b ≠ v.ownBlock ∧ some b ≠ u.ownBlock) → some b ≠ x.ownBlock := by
      intro b hb
      rcases hx with rfl | rfl
      · exact hb.2.2.1
      · exact hb.2.2.2
    have hc : ∀ b, b < w2.heap.size ∧ (B ≤ b ∧ some b ≠ v.ownBlock ∧ some b ≠ u.ownBlock) → ∀ o, w3.cell? ⟨b, o, none⟩ = w2.cell? ⟨b, o, none⟩ := fun b hb o =>
      World.cell?_of_block (a := ⟨b, o, none⟩) (hblk b hb.1 (key b hb))
    have hg : ∀ b, b < w2.heap.size ∧ (B ≤ b ∧ some b ≠ v.ownBlock ∧ some b ≠ u.ownBlock) → (B ≤ b ∧ some b ≠ v.ownBlock ∧ some b ≠ u.ownBlock) ∧ b ≠ gg := by
      intro b hb
      refine ⟨hb.2, fun e => ?_⟩
      subst e
      rcases hat with e | e
      · exact key b hb e.symm
      · omega
    exact ⟨h1.congr (P := fun b => b < w2.heap.size ∧ (B ≤ b ∧ some b ≠ v.ownBlock ∧ some b ≠ u.ownBlock)) hc (h1.bl.and h3), h2.congr (P := fun b => b < w2.heap.size ∧ (B ≤ b ∧ some b ≠ v.ownBlock ∧ some b ≠ u.ownBlock)) hc (h2.bl.and h4), (h1.bl.and h3).mono hg, (h2.bl.and h4).mono hg⟩

/-- One more term. -/
theorem SI.pushT {B : Nat} {v u : Value} {ps : List TT} {ss : List St} {w2 w3 : World} {c : TT} {gg cap1 : Nat} {X : Obj} (h : SI B v u ps ss w2) (hB : B ≤ w2.heap.size) (hc : Pr1 B w2 c ∧ c.cok)
    (hown : w3.ownsRow B 27 7 (.slice (some ⟨gg, 0, none⟩) (ps.length + 1) cap1) (ps.length + 1) (cells7 ps ++ cells7 [c])) (hgrow : (w2.alloc X).grownBy w3 v.ownBlock) (hat : v.ownBlock = some gg ∨ gg = w2.heap.size + 1) :
    SI B (.slice (some ⟨gg, 0, none⟩) (ps.length + 1) cap1) u (ps ++ [c]) ss w3 ∧ ∀ k, k < w2.heap.size → some k ≠ v.ownBlock → w3.heap[k]? = w2.heap[k]? := by
  have hblk : ∀ k, k < w2.heap.size → some k ≠ v.ownBlock → w3.heap[k]? = w2.heap[k]? := fun k hk hn => by
    rw [hgrow.block k (by simp; omega) hn]
    exact ((Below.refl _ w2).alloc (Nat.le_refl _) X).block k hk
  have hat' : v.ownBlock = some gg ∨ w2.heap.size ≤ gg := by
    rcases hat with e | e
    · exact .inl e
    · exact .inr (by omega)
  obtain ⟨g1, g2⟩ := h.grow hB (.inl rfl) hblk hat'
  have hcw : Pr1 B w3 c := ⟨hc.1.1.congr (P := (· < B)) (fun b hb o => World.cell?_of_block (a := ⟨b, o, none⟩) (hblk b (by omega) fun e => by have := (h.ov.lt b e.symm).1; omega)) hc.1.2, hc.1.2⟩
  refine ⟨⟨by rw [cells7_append, List.length_append, List.length_singleton]; exact hown, ownsRow_far h.ou hblk h.ne, fun g e => ?_, fun p hp => ?_, fun s hs => ?_⟩, hblk⟩
  · have : gg = g := Option.some.inj e
    subst this
    rcases hat with e | e
    · exact h.ne _ e
    · intro e2
      have := (h.ou.lt _ e2).2
      omega
  · rcases List.mem_append.1 hp with hp | hp
    · exact g1 p hp
    · rcases List.mem_singleton.1 hp with rfl
      exact ⟨hcw, hc.2⟩
  · obtain ⟨h1, h2, h3, h4⟩ := g2 s hs
    exact ⟨h1, h2, h3.mono fun b hb => ⟨hb.1.1, fun e => hb.2 (Option.some.inj e), hb.1.2.2⟩, h4.mono fun b hb => ⟨hb.1.1, fun e => hb.2 (Option.some.inj e), hb.1.2.2⟩⟩

/-- One more cast. -/
theorem SI.pushS {B : Nat} {v u : Value} {ps : List TT} {ss : List St} {w2 w3 : World} {s : St} {gg cap1 : Nat} {X : Obj} (h : SI B v u ps ss w2) (hB : B ≤ w2.heap.size) (hf : s.f.In w2) (ht : s.t.In w2) (bf : s.f.Bl (fun b => B ≤ b ∧ some b ≠ v.ownBlock ∧ some b ≠ u.ownBlock)) (bt : s.t.Bl (fun b => B ≤ b ∧ some b ≠ v.ownBlock ∧ some b ≠ u.ownBlock))
    (hown : w3.ownsRow B 46 5 (.slice (some ⟨gg, 0, none⟩) (ss.length + 1) cap1) (ss.length + 1) (cells5 ss ++ cells5 [s])) (hgrow : (w2.alloc X).grownBy w3 u.ownBlock) (hat : u.ownBlock = some gg ∨ gg = w2.heap.size + 1) :
    SI B v (.slice (some ⟨gg, 0, none⟩) (ss.length + 1) cap1) ps (ss ++ [s]) w3 ∧ ∀ k, k < w2.heap.size → some k ≠ u.ownBlock → w3.heap[k]? = w2.heap[k]? := by
  have hblk : ∀ k, k < w2.heap.size → some k ≠ u.ownBlock → w3.heap[k]? = w2.heap[k]? := fun k hk hn => by
    rw [hgrow.block k (by simp; omega) hn]
    exact ((Below.refl _ w2).alloc (Nat.le_refl _) X).block k hk
  have hat' : u.ownBlock = some gg ∨ w2.heap.size ≤ gg := by
    rcases hat with e | e
    · exact .inl e
    · exact .inr (by omega)
  have h' : SI B v u ps (ss ++ [s]) w2 → True := fun _ => trivial
  obtain ⟨g1, g2⟩ := h.grow hB (.inr rfl) hblk hat'
  have hne2 : ∀ g, u.ownBlock = some g → v.ownBlock ≠ some g := fun g e e2 => h.ne g e2 e
  have hs3 : s.f.In w3 ∧ s.t.In w3 ∧ s.f.Bl (fun b => (B ≤ b ∧ some b ≠ v.ownBlock ∧ some b ≠ u.ownBlock) ∧ b ≠ gg) ∧ s.t.Bl (fun b => (B ≤ b ∧ some b ≠ v.ownBlock ∧ some b ≠ u.ownBlock) ∧ b ≠ gg) := by
    have hc : ∀ b, b < w2.heap.size ∧ (B ≤ b ∧ some b ≠ v.ownBlock ∧ some b ≠ u.ownBlock) → ∀ o, w3.cell? ⟨b, o, none⟩ = w2.cell? ⟨b, o, none⟩ := fun b hb o =>
      World.cell?_of_block (a := ⟨b, o, none⟩) (hblk b hb.1 hb.2.2.2)
    have hg : ∀ b, b < w2.heap.size ∧ (B ≤ b ∧ some b ≠ v.ownBlock ∧ some b ≠ u.ownBlock) → (B ≤ b ∧ some b ≠ v.ownBlock ∧ some b ≠ u.ownBlock) ∧ b ≠ gg := by
      intro b hb
      refine ⟨hb.2, fun e => ?_⟩
      subst e
      rcases hat with e | e
      · exact hb.2.2.2 e.symm
      · omega
    exact ⟨hf.congr (P := fun b => b < w2.heap.size ∧ (B ≤ b ∧ some b ≠ v.ownBlock ∧ some b ≠ u.ownBlock)) hc (hf.bl.and bf), ht.congr (P := fun b => b < w2.heap.size ∧ (B ≤ b ∧ some b ≠ v.ownBlock ∧ some b ≠ u.ownBlock)) hc (ht.bl.and bt), (hf.bl.and bf).mono hg, (ht.bl.and bt).mono hg⟩
  refine ⟨⟨ownsRow_far h.ov hblk hne2, by rw [cells5_append, List.length_append, List.length_singleton]; exact hown, fun g e => ?_, g1, fun q hq => ?_⟩, hblk⟩
  · intro e2
    have : gg = g := Option.some.inj e2
    subst this
    rcases hat with e3 | e3
    · exact h.ne _ e e3
    · have := (h.ov.lt _ e).2
      omega
  · have key : q.f.In w3 ∧ q.t.In w3 ∧ q.f.Bl (fun b => (B ≤ b ∧ some b ≠ v.ownBlock ∧ some b ≠ u.ownBlock) ∧ b ≠ gg) ∧ q.t.Bl (fun b => (B ≤ b ∧ some b ≠ v.ownBlock ∧ some b ≠ u.ownBlock) ∧ b ≠ gg) := by
      rcases List.mem_append.1 hq with hq | hq
      · exact g2 q hq
      · rcases List.mem_singleton.1 hq with rfl
        exact hs3
    obtain ⟨h1, h2, h3, h4⟩ := key
    exact ⟨h1, h2, h3.mono fun b hb => ⟨hb.1.1, hb.1.2.1, fun e => hb.2 (Option.some.inj e)⟩, h4.mono fun b hb => ⟨hb.1.1, hb.1.2.1, fun e => hb.2 (Option.some.inj e)⟩⟩

/-- A row of casts lies in the world. -/
def SL (w : World) (a : Option Addr) (ss : List St) : Prop :=
  ∀ j (h : j < ss.length), ∃ b o, a = some ⟨b, o, none⟩ ∧ w.cell? ⟨b, o + j * 5, none⟩ = some (.int .i64 ss[j].n) ∧ w.cell? ⟨b, o + j * 5 + 1, none⟩ = some (.int .i64 ss[j].f.k) ∧ w.cell? ⟨b, o + j * 5 + 2, none⟩ = some (.slice ss[j].f.a ss[j].f.l.length ss[j].f.c) ∧ w.cell? ⟨b, o + j * 5 + 3, none⟩ = some (.int .i64 ss[j].t.k) ∧ w.cell? ⟨b, o + j * 5 + 4, none⟩ = some (.slice ss[j].t.a ss[j].t.l.length ss[j].t.c) ∧ ss[j].f.In w ∧ ss[j].t.In w

theorem SI.list {B : Nat} {v u : Value} {ps : List TT} {ss : List St} {w : World} (h : SI B v u ps ss w) : ∃ a c, u = .slice a ss.length c ∧ (SL w a ss ∧ ss.length ≤ c) := by
  rcases h.ou.2 with ⟨rfl, h0⟩ | ⟨g, cap, cur, rfl, hg, _, hcl, _⟩
  · have : ss = [] := List.length_eq_zero_iff.1 h0
    subst this
    exact ⟨none, 0, rfl, fun j hj => absurd hj (by simp), by simp⟩
  · refine ⟨_, _, rfl, fun j hj => ⟨g, 0, rfl, ?_⟩, hcl⟩
    have hc : ∀ i, i < 5 → w.cell? ⟨g, 0 + j * 5 + i, none⟩ = _ := fun i hi => by rw [Nat.zero_add, h.ou.cellAt (j * 5 + i) (by omega), cells5_at ss j hj i hi]
    exact ⟨hc 0 (by omega), hc 1 (by omega), hc 2 (by omega), hc 3 (by omega), hc 4 (by omega), (h.si _ (List.getElem_mem hj)).1, (h.si _ (List.getElem_mem hj)).2.1⟩

/-- What is still to come. -/
def todo (ps : List TT) : List (Int × Ty × Ty) := ps.reverse.flatMap fun p => sitesM p.tm

theorem todo_snoc (us : List TT) (p : TT) : todo (us ++ [p]) = sitesM p.tm ++ todo us := by simp [todo]

theorem sitesM_tt (p : TT) : sitesM p.tm = (if p.k = 10 then [(p.n, p.f.ty, p.t.ty)] else []) ++ todo (p.l.reverse) := by
  obtain ⟨k, n, t, f, a, c, l⟩ := p
  rw [TT.tm_mk, sitesM_mk]
  simp [todo, List.flatMap_map]

theorem todo_append (us vs : List TT) : todo (us ++ vs) = todo vs ++ todo us := by simp [todo]
end Go.Proofs.YtnddkmccagiclaaDoor

/-
  What the call of check's Sites answers: the casts of a term, as one reads it.
-/
namespace Go.Proofs.YtnddkmccagiclaaDoor
open Go.RowKit

theorem Tryd.info46 : (Tryd.prog.info? 46).map (fun i => (i.zero, i.size, i.bytes)) = some (some (.agg #[.int .i64 0, .int .i64 0, .slice none 0 0, .int .i64 0, .slice none 0 0]), 5, 72) := by kernel_rfl

set_option maxRecDepth 20000 in
set_option maxHeartbeats 8000000 in
/-- Sites. -/
theorem sites_any (x : TT) (w : World) (hx : x.In w) (hsz : x.sz ≤ 1000) (hok : x.cok) :
    Calls Tryd.prog 19 #[.agg #[.int .i64 x.k, .int .i64 x.n, .int .i64 x.t.k, .slice x.t.a x.t.l.length x.t.c, .int .i64 x.f.k, .slice x.f.a x.f.l.length x.f.c, .slice x.a x.l.length x.c]] w fun e w' => ∃ (ss : List St) (a : Option Addr) (c : Nat), e = .returned (.slice a ss.length c) ∧ (SL w' a ss ∧ ss.length ≤ c) ∧ ss.map St.m = sitesM x.tm ∧ Below w.heap.size w w' := by
  obtain ⟨i0, hi0, hz0, hz1, hz2⟩ := info_parts Tryd.info27c
  obtain ⟨j0, hj0, hy0, hy1, hy2⟩ := info_parts Tryd.info46
  have HL : Hid (SI (w.heap.size + 1) (.slice (some ⟨w.heap.size + 1, 0, none⟩) 1 1) (.slice none 0 0) [x] [] ((w.alloc (.cells #[.int .i64 x.k, .int .i64 x.n, .int .i64 x.t.k, .slice x.t.a x.t.l.length x.t.c, .int .i64 x.f.k, .slice x.f.a x.f.l.length x.f.c, .slice x.a x.l.length x.c] 27)).alloc (.cells #[.int .i64 x.k, .int .i64 x.n, .int .i64 x.t.k, .slice x.t.a x.t.l.length x.t.c, .int .i64 x.f.k, .slice x.f.a x.f.l.length x.f.c, .slice x.a x.l.length x.c] 27)) ∧ Below w.heap.size w ((w.alloc (.cells #[.int .i64 x.k, .int .i64 x.n, .int .i64 x.t.k, .slice x.t.a x.t.l.length x.t.c, .int .i64 x.f.k, .slice x.f.a x.f.l.length x.f.c, .slice x.a x.l.length x.c] 27)).alloc (.cells #[.int .i64 x.k, .int .i64 x.n, .int .i64 x.t.k, .slice x.t.a x.t.l.length x.t.c, .int .i64 x.f.k, .slice x.f.a x.f.l.length x.f.c, .slice x.a x.l.length x.c] 27)) ∧ mass1 [x] ≤ 1000 ∧ w.heap.size + 1 ≤ ((w.alloc (.cells #[.int .i64 x.k, .int .i64 x.n, .int .i64 x.t.k, .slice x.t.a x.t.l.length x.t.c, .int .i64 x.f.k, .slice x.f.a x.f.l.length x.f.c, .slice x.a x.l.length x.c] 27)).alloc (.cells #[.int .i64 x.k, .int .i64 x.n, .int .i64 x.t.k, .slice x.t.a x.t.l.length x.t.c, .int .i64 x.f.k, .slice x.f.a x.f.l.length x.f.c, .slice x.a x.l.length x.c] 27)).heap.size ∧ ([] : List St).map St.m ++ todo [x] = sitesM x.tm) := by
    have hb : Below w.heap.size w ((w.alloc (.cells #[.int .i64 x.k, .int .i64 x.n, .int .i64 x.t.k, .slice x.t.a x.t.l.length x.t.c, .int .i64 x.f.k, .slice x.f.a x.f.l.length x.f.c, .slice x.a x.l.length x.c] 27)).alloc (.cells #[.int .i64 x.k, .int .i64 x.n, .int .i64 x.t.k, .slice x.t.a x.t.l.length x.t.c, .int .i64 x.f.k, .slice x.f.a x.f.l.length x.f.c, .slice x.a x.l.length x.c] 27)) := ((Below.refl _ _).alloc (Nat.le_refl _) _).alloc (by simp) _
    have hh := heap_alloc_new (w.alloc (.cells #[.int .i64 x.k, .int .i64 x.n, .int .i64 x.t.k, .slice x.t.a x.t.l.length x.t.c, .int .i64 x.f.k, .slice x.f.a x.f.l.length x.f.c, .slice x.a x.l.length x.c] 27)) (.cells #[.int .i64 x.k, .int .i64 x.n, .int .i64 x.t.k, .slice x.t.a x.t.l.length x.t.c, .int .i64 x.f.k, .slice x.f.a x.f.l.length x.f.c, .slice x.a x.l.length x.c] 27)
    simp only [World.size_alloc] at hh
    refine ⟨⟨⟨rfl, .inr ⟨_, 1, _, rfl, Nat.le_refl _, hh, Nat.le_refl _, by unfold maxLen; omega, rfl, rfl⟩⟩, World.ownsRow_nil _ _ _ _, fun g _ => by simp [Value.ownBlock], fun p hp => ?_, fun s hs => by cases hs⟩, hb, by simpa [mass1] using hsz, by simp, by simp [todo]⟩
    rcases List.mem_singleton.1 hp with rfl
    exact ⟨⟨hx.below hb, hx.bl.mono fun b h => by omega⟩, hok⟩
  obtain ⟨B, hB⟩ : ∃ B, w.heap.size + 1 = B := ⟨_, rfl⟩
  have hBw : w.heap.size < B := by omega
  have HX1 : Hid (x.sz ≤ 1000) := hsz
  clear hx hsz hok
  go_enter Tryd.func19, Tryd.ntmps19
  go_wp2_with fail
  go_loopg [3, 4] (mass1 [x]) (fun k s3 s4 wr => ∃ (u v : Value) (ps : List TT) (ss : List St), u = s3 ∧ v = s4 ∧ k = mass1 ps ∧ Hid (SI B v u ps ss wr ∧ Below w.heap.size w wr ∧ mass1 ps ≤ 1000 ∧ B ≤ wr.heap.size ∧ ss.map St.m ++ todo ps = sitesM x.tm))
  case atStart => exact ⟨_, _, [x], [], rfl, rfl, rfl, by rw [← hB]; exact HL⟩
  case round =>
    obtain ⟨u, v, ps, ss, hu, hv, hk, HR⟩ := hrel
    subst hu hv
    have HK : Hid (gk = mass1 ps) := hk
    clear hk HL hB
    by_cases hne : ps = []
    · subst hne
      obtain ⟨a, c', rfl⟩ : ∃ a c, v = .slice a 0 c := by
        rcases HR.out.1.ov.2 with ⟨rfl, _⟩ | ⟨g, cap, cur, rfl, _⟩
        · exact ⟨_, _, rfl⟩
        · exact ⟨_, _, rfl⟩
      obtain ⟨ua, uc, rfl, hsl⟩ := HR.out.1.list
      have HF : Hid (∃ (ss' : List St) (a : Option Addr) (c : Nat), Ending.returned (.slice ua ss.length uc) = .returned (.slice a ss'.length c) ∧ (SL wr a ss' ∧ ss'.length ≤ c) ∧ ss'.map St.m = sitesM x.tm ∧ Below w.heap.size w wr) := ⟨ss, ua, uc, rfl, hsl, by have := HR.out.2.2.2.2; simpa [todo] using this, HR.out.2.1⟩
      clear HR HK hsl
      go_wp2_with fail
      go_ret
      exact HF.out
    · obtain ⟨us, p, rfl⟩ : ∃ us p, ps = us ++ [p] := ⟨ps.dropLast, ps.getLast hne, (List.dropLast_concat_getLast hne).symm⟩
      have ho := HR.out.1.ov
      have hlen : (us ++ [p]).length = us.length + 1 := by simp
      have h7l : (cells7 us).length = us.length * 7 := by
        have : ∀ l : List TT, (cells7 l).length = l.length * 7 := fun l => by
          induction l with
          | nil => rfl
          | cons a r ih => simp [cells7] at ih ⊢; omega
        exact this us
      rw [hlen] at ho
      obtain ⟨g, cap, rfl, hg, hgl⟩ := ho.form (by omega)
      have hc : ∀ i, i < 7 → wr.cell? ⟨g, us.length * 7 + i, none⟩ = (#[.int .i64 p.k, .int .i64 p.n, .int .i64 p.t.k, .slice p.t.a p.t.l.length p.t.c, .int .i64 p.f.k, .slice p.f.a p.f.l.length p.f.c, .slice p.a p.l.length p.c] : Array Value)[i]? := by
        intro i hi
        rw [ho.cellAt (us.length * 7 + i) (by omega)]
        have := cells7_at (us ++ [p]) us.length (by simp) i hi
        rw [this]
        simp
      have c0 : wr.cell? ⟨g, us.length * 7, none⟩ = some (.int .i64 p.k) := (hc 0 (by omega)).trans rfl
      have c1 : wr.cell? ⟨g, us.length * 7 + 1, none⟩ = some (.int .i64 p.n) := (hc 1 (by omega)).trans rfl
      have c2 : wr.cell? ⟨g, us.length * 7 + 2, none⟩ = some (.int .i64 p.t.k) := (hc 2 (by omega)).trans rfl
      have c3 : wr.cell? ⟨g, us.length * 7 + 3, none⟩ = some (.slice p.t.a p.t.l.length p.t.c) := (hc 3 (by omega)).trans rfl
      have c4 : wr.cell? ⟨g, us.length * 7 + 4, none⟩ = some (.int .i64 p.f.k) := (hc 4 (by omega)).trans rfl
      have c5 : wr.cell? ⟨g, us.length * 7 + 5, none⟩ = some (.slice p.f.a p.f.l.length p.f.c) := (hc 5 (by omega)).trans rfl
      have c6 : wr.cell? ⟨g, us.length * 7 + 6, none⟩ = some (.slice p.a p.l.length p.c) := (hc 6 (by omega)).trans rfl
      have hcap : us.length + 1 ≤ cap := by
        rcases ho.2 with ⟨h, _⟩ | ⟨g', cap', cur, h, _, _, h1, _⟩
        · cases h
        · cases h; exact h1
      have hop : wr.ownsRow B 27 7 (.slice (some ⟨g, 0, none⟩) us.length cap) us.length (cells7 us) := by
        rw [cells7_append] at ho
        exact ownsRow_pop h7l ho
      have hms : mass1 (us ++ [p]) = mass1 us + p.sz := by simp [mass1]
      have hml := HR.out.2.2.1
      have hus := Stk1.len (ps := us)
      have i1 : (us.length : Int) < ((us.length : Int) + 1) := by omega
      have n1 : (us.length : Int) ≤ 1001 := by omega
      have n2 : (us.length : Int) ≤ (cap : Int) := by omega
      have n3 : (0 : Int) ≤ (us.length : Int) := by omega
      have hpl : p.l.length ≤ 1001 := by have h1 := p.sz_eq; have h2 := len_sum p.l; omega
      have hpp := HR.out.1.pi p (by simp)
      obtain ⟨OP, hOP⟩ : ∃ O, O = Obj.cells #[.int .i64 p.k, .int .i64 p.n, .int .i64 p.t.k, .slice p.t.a p.t.l.length p.t.c, .int .i64 p.f.k, .slice p.f.a p.f.l.length p.f.c, .slice p.a p.l.length p.c] 27 := ⟨_, rfl⟩
      have hA : Below wr.heap.size wr (wr.alloc OP) := (Below.refl _ _).alloc (Nat.le_refl _) _
      have hBr := HR.out.2.2.2.1
      have HI : Hid (SI B (.slice (some ⟨g, 0, none⟩) us.length cap) u us ss (wr.alloc OP) ∧ Below w.heap.size w (wr.alloc OP) ∧ (Pr1 B (wr.alloc OP) p ∧ p.cok) ∧ At7 (wr.alloc OP) wr.heap.size 0 p ∧ wr.heap.size < (wr.alloc OP).heap.size ∧ B ≤ (wr.alloc OP).heap.size ∧ u.ownBlock ≠ some wr.heap.size) := by
        refine ⟨(SI.below ⟨hop, HR.out.1.ou, fun q hq => HR.out.1.ne q hq, fun q hq => HR.out.1.pi q (by simp [hq]), HR.out.1.si⟩ hA hBr), HR.out.2.1.trans (hA.mono HR.out.2.1.size), ⟨hpp.1.low (hA.mono hBr), hpp.2⟩, by rw [hOP]; exact At7.new wr p, by simp, by simp; omega, fun e => by have := (HR.out.1.ou.lt _ e).2; omega⟩
      have HM : Hid (gk = mass1 us + p.sz ∧ mass1 us + p.sz ≤ 1000 ∧ ss.map St.m ++ (sitesM p.tm ++ todo us) = sitesM x.tm) := ⟨HK.out.trans hms, by rw [← hms]; exact hml, by rw [← todo_snoc]; exact HR.out.2.2.2.2⟩
      obtain ⟨NB, hNB⟩ : ∃ NB, NB = wr.heap.size := ⟨_, rfl⟩
      have hgn : g ≠ NB := by omega
      clear ho hop HR HK hms hml hne hlen hus hc hA hpp h7l
      subst hOP
      go_upto_if 25 with fail
      go_cut [3] (fun s3 wx => ∃ (u' : Value) (ss' : List St), u' = s3 ∧ Hid (SI B (.slice (some ⟨g, 0, none⟩) us.length cap) u' us ss' wx ∧ Below w.heap.size w wx ∧ (Pr1 B wx p ∧ p.cok) ∧ At7 wx NB 0 p ∧ NB < wx.heap.size ∧ B ≤ wx.heap.size ∧ u'.ownBlock ≠ some NB ∧ ss'.map St.m ++ (todo p.l.reverse ++ todo us) = sitesM x.tm))
      case first =>
        subst hNB
        obtain ⟨WP, hWP⟩ : ∃ WP, WP = wr.alloc (.cells #[.int .i64 p.k, .int .i64 p.n, .int .i64 p.t.k, .slice p.t.a p.t.l.length p.t.c, .int .i64 p.f.k, .slice p.f.a p.f.l.length p.f.c, .slice p.a p.l.length p.c] 27) := ⟨_, rfl⟩
        rw [← hWP] at HI
        by_cases hk0 : p.k = 10
        · have hk : Hid (p.k = 10) := hk0
          have hk' : (p.k == 10) = true := by simpa using hk0
          clear hk0
          rw [hk']
          clear hk'
          rw [← hWP]
          clear hWP
          have hcok := HI.out.2.2.1.2.top hk.out
          have hp7 := HI.out.2.2.2.1
          have HS : Hid (∀ W', Below WP.heap.size WP W' → W'.cell? ⟨wr.heap.size, 1, none⟩ = some (.int .i64 p.n) ∧ W'.cell? ⟨wr.heap.size, 2, none⟩ = some (.int .i64 p.t.k) ∧ W'.cell? ⟨wr.heap.size, 3, none⟩ = some (.slice p.t.a p.t.l.length p.t.c) ∧ W'.cell? ⟨wr.heap.size, 4, none⟩ = some (.int .i64 p.f.k) ∧ W'.cell? ⟨wr.heap.size, 5, none⟩ = some (.slice p.f.a p.f.l.length p.f.c)) := by
            intro W' hb
            obtain ⟨_, h1, h2, h3, h4, h5, _⟩ := hp7.below hb
            simp only [Nat.zero_add] at h1 h2 h3 h4 h5
            exact ⟨h1, h2, h3, h4, h5⟩
          have HS1 : Hid (WP.drew.cell? ⟨wr.heap.size, 1, none⟩ = some (.int .i64 p.n) ∧ WP.drew.cell? ⟨wr.heap.size, 2, none⟩ = some (.int .i64 p.t.k) ∧ WP.drew.cell? ⟨wr.heap.size, 3, none⟩ = some (.slice p.t.a p.t.l.length p.t.c) ∧ WP.drew.cell? ⟨wr.heap.size, 4, none⟩ = some (.int .i64 p.f.k) ∧ WP.drew.cell? ⟨wr.heap.size, 5, none⟩ = some (.slice p.f.a p.f.l.length p.f.c)) := HS.out _ ((Below.refl _ _).drew)
          have HS0 : Hid (WP.cell? ⟨wr.heap.size, 1, none⟩ = some (.int .i64 p.n) ∧ WP.cell? ⟨wr.heap.size, 2, none⟩ = some (.int .i64 p.t.k) ∧ WP.cell? ⟨wr.heap.size, 3, none⟩ = some (.slice p.t.a p.t.l.length p.t.c) ∧ WP.cell? ⟨wr.heap.size, 4, none⟩ = some (.int .i64 p.f.k) ∧ WP.cell? ⟨wr.heap.size, 5, none⟩ = some (.slice p.f.a p.f.l.length p.f.c)) := HS.out _ (Below.refl _ _)
          have hpin := HI.out.2.2.1.1.1
          have H39f : Hid (Calls Tryd.prog 39 #[.agg #[.int .i64 p.f.k, .slice p.f.a p.f.l.length p.f.c]] WP.drew fun e wE => ∃ f : Tr, e = .returned (.agg #[.int .i64 f.k, .slice f.a f.l.length f.c]) ∧ Hid (f.ty = p.f.ty ∧ f.In wE ∧ f.Bl (WP.heap.size ≤ ·)) ∧ Below WP.heap.size WP wE) := by
            refine (fresh_any p.f WP.drew (hpin.f.below ((Below.refl _ _).drew)) hcok.2.1 hcok.2.2).mono ?_
            rintro e wE ⟨f, rfl, h1, h2, h3, h4⟩
            exact ⟨f, rfl, ⟨h1, h2, h3⟩, ((Below.refl _ _).drew).trans (h4.mono (Nat.le_refl _))⟩
          have H39t : Hid (∀ wE, Below WP.heap.size WP wE → Calls Tryd.prog 39 #[.agg #[.int .i64 p.t.k, .slice p.t.a p.t.l.length p.t.c]] wE fun e wK => ∃ t : Tr, e = .returned (.agg #[.int .i64 t.k, .slice t.a t.l.length t.c]) ∧ Hid (t.ty = p.t.ty ∧ t.In wK ∧ t.Bl (wE.heap.size ≤ ·) ∧ Below wE.heap.size wE wK) ∧ Below WP.heap.size WP wK ∧ wK.ownsRow B 46 5 u ss.length (cells5 ss)) := by
            intro wE hb
            refine (fresh_any p.t wE (hpin.t.below hb) hcok.1.1 hcok.1.2).mono ?_
            rintro e wK ⟨t, rfl, h1, h2, h3, h4⟩
            have h5 := hb.trans (h4.mono hb.size)
            exact ⟨t, rfl, ⟨h1, h2, h3, h4⟩, h5, ownsRow_low HI.out.1.ou h5⟩
          have hss : ss.length ≤ 1001 := by
            have h1 := HM.out.2.2
            have h2 : ∀ y : TT, (sitesM y.tm).length ≤ y.sz := by
              intro y
              induction y using TT.ind with
              | h k n t f a c l ih =>
                rw [TT.tm_mk, sitesM_mk, TT.sz_mk]
                have h3 : ∀ l : List TT, (∀ z, z ∈ l → (sitesM z.tm).length ≤ z.sz) → ((l.map TT.tm).flatMap sitesM).length ≤ (l.map TT.sz).sum := by
                  intro l
                  induction l with
                  | nil => intro _; simp
                  | cons z r ihr => intro h; have := h z (by simp); have := ihr fun q hq => h q (by simp [hq]); simp only [List.map_cons, List.flatMap_cons, List.length_append, List.sum_cons]; omega
                have := h3 l ih
                have h1 : (if k = 10 then [(n, f.ty, t.ty)] else []).length ≤ 1 := by split <;> simp
                rw [List.length_append]
                omega
            have h4 := h2 x
            have h5 := congrArg List.length h1
            have h6 := HX1.out
            simp only [List.length_append, List.length_map] at h5
            omega
          have hBP : B ≤ WP.heap.size := HI.out.2.2.2.2.2.1
          have HSG : Hid (∀ (wK w7 : World) (X : Obj), Below WP.heap.size WP wK → (wK.alloc X).grownBy w7 u.ownBlock → w7.cell? ⟨wr.heap.size, 1, none⟩ = some (.int .i64 p.n) ∧ w7.cell? ⟨wr.heap.size, 2, none⟩ = some (.int .i64 p.t.k) ∧ w7.cell? ⟨wr.heap.size, 3, none⟩ = some (.slice p.t.a p.t.l.length p.t.c) ∧ w7.cell? ⟨wr.heap.size, 4, none⟩ = some (.int .i64 p.f.k) ∧ w7.cell? ⟨wr.heap.size, 5, none⟩ = some (.slice p.f.a p.f.l.length p.f.c)) := by
            intro wK w7 X hb hgr
            have hl : wr.heap.size < wK.heap.size := Nat.lt_of_lt_of_le HI.out.2.2.2.2.1 hb.size
            have hc7 : ∀ i, w7.cell? ⟨wr.heap.size, i, none⟩ = wK.cell? ⟨wr.heap.size, i, none⟩ := fun i => by
              rw [World.cell?_of_block (a := ⟨wr.heap.size, i, none⟩) (hgr.block wr.heap.size (by simp; omega) (fun e => HI.out.2.2.2.2.2.2 e.symm))]
              exact ((Below.refl _ wK).alloc (Nat.le_refl _) X).cell (p := ⟨wr.heap.size, i, none⟩) hl
            obtain ⟨h1, h2, h3, h4, h5⟩ := HS.out wK hb
            exact ⟨(hc7 _).trans h1, (hc7 _).trans h2, (hc7 _).trans h3, (hc7 _).trans h4, (hc7 _).trans h5⟩
          have HSA : Hid (∀ (wK : World) (X : Obj), Below WP.heap.size WP wK → (fun W' : World => W'.cell? ⟨wr.heap.size, 1, none⟩ = some (.int .i64 p.n) ∧ W'.cell? ⟨wr.heap.size, 2, none⟩ = some (.int .i64 p.t.k) ∧ W'.cell? ⟨wr.heap.size, 3, none⟩ = some (.slice p.t.a p.t.l.length p.t.c) ∧ W'.cell? ⟨wr.heap.size, 4, none⟩ = some (.int .i64 p.f.k) ∧ W'.cell? ⟨wr.heap.size, 5, none⟩ = some (.slice p.f.a p.f.l.length p.f.c)) (wK.alloc X)) := fun wK X hb => HS.out _ (hb.alloc hb.size _)
          clear hcok hp7 hpin c0 c1 c2 c3 c4 c5 c6
          go_upto_region 8 with fail
          go_region_held3 (fun W' => W'.cell? ⟨wr.heap.size, 1, none⟩ = some (.int .i64 p.n) ∧ W'.cell? ⟨wr.heap.size, 2, none⟩ = some (.int .i64 p.t.k) ∧ W'.cell? ⟨wr.heap.size, 3, none⟩ = some (.slice p.t.a p.t.l.length p.t.c) ∧ W'.cell? ⟨wr.heap.size, 4, none⟩ = some (.int .i64 p.f.k) ∧ W'.cell? ⟨wr.heap.size, 5, none⟩ = some (.slice p.f.a p.f.l.length p.f.c))
            (first
              | (with_reducible exact HS0.out)
              | (with_reducible exact HS1.out)
              | (with_reducible exact HS.out _ hb)
              | (with_reducible exact HSA.out _ _ hb)
              | (with_reducible exact HSG.out _ _ _ hb hgrow)
              | fail)
            (first
              | (go_at_call 39; (with_reducible refine H39f.out.mono ?_); rintro e wE ⟨f, rfl, HFF, hb⟩; have hbE := hb)
              | (go_at_call 39; (with_reducible refine (H39t.out _ hb).mono ?_); rintro e wK ⟨t, rfl, HTT, hb, uo⟩; have hnew := heap_alloc_new wK (.cells #[.int .i64 p.n, .int .i64 f.k, .slice f.a f.l.length f.c, .int .i64 t.k, .slice t.a t.l.length t.c] 46); have hKs : B ≤ wK.heap.size := Nat.le_trans hBP hb.size)
              | (refine step_append_lies _ (by rfl) _ _ _ (by rfl) B 46 j0 _ 5 72 Tryd.underlying41 hj0 hy0 hy1 hy2 rfl (by omega) u ss.length (cells5 ss) (by rfl) (uo.alloc _) ⟨wK.heap.size, 0, none⟩ 1 1 [.int .i64 p.n, .int .i64 f.k, .slice f.a f.l.length f.c, .int .i64 t.k, .slice t.a t.l.length t.c] (by rfl) (by rfl) (World.news_of_block (cs := #[.int .i64 p.n, .int .i64 f.k, .slice f.a f.l.length f.c, .int .i64 t.k, .slice t.a t.l.length t.c]) (t := 46) (fr := (0, 0)) hnew) (by simp [Value.oneCell']) (by omega) (by unfold maxLen; omega) (by omega) (by simp; omega) (wK.heap.size + 1) (by simp) ?_; intro gg cap1 w7 hown1 hgrow hat hlt3)
              | fail)
          have HN : Hid (SI B (.slice (some ⟨g, 0, none⟩) us.length cap) (.slice (some ⟨gg, 0, none⟩) (ss.length + 1) cap1) us (ss ++ [⟨p.n, f, t⟩]) w7 ∧ Below w.heap.size w w7 ∧ (Pr1 B w7 p ∧ p.cok) ∧ At7 w7 wr.heap.size 0 p ∧ wr.heap.size < w7.heap.size ∧ B ≤ w7.heap.size ∧ (Value.slice (some ⟨gg, 0, none⟩) (ss.length + 1) cap1).ownBlock ≠ some wr.heap.size ∧ (ss ++ [St.mk p.n f t]).map St.m ++ (todo p.l.reverse ++ todo us) = sitesM x.tm) := by
            obtain ⟨hsi, hbw, hpc, hp7, hnb, hBl, hne⟩ := HI.out
            obtain ⟨f1, f2, f3⟩ := HFF.out
            obtain ⟨t1, t2, t3, hEK⟩ := HTT.out
            have hPs := hb.size
            have hgv : g < WP.heap.size := (hsi.ov.lt g rfl).2
            have hul : ∀ q, u.ownBlock = some q → q < WP.heap.size := fun q hq => (hsi.ou.lt q hq).2
            have hEs : WP.heap.size ≤ wE.heap.size := hbE.size
            have hst := (hsi.below hb hBl).pushS (gg := gg) (cap1 := cap1) (w3 := w7) (s := ⟨p.n, f, t⟩) (X := .cells #[.int .i64 p.n, .int .i64 f.k, .slice f.a f.l.length f.c, .int .i64 t.k, .slice t.a t.l.length t.c] 46) hKs (f2.below hEK) t2
              (f3.mono fun b hb => ⟨by omega, fun e => by have : b = g := Option.some.inj e; omega, fun e => by have := hul b e.symm; omega⟩)
              (t3.mono fun b hb => ⟨by omega, fun e => by have : b = g := Option.some.inj e; omega, fun e => by have := hul b e.symm; omega⟩)
              (by rw [cells5_one]; exact hown1) hgrow (by simpa using hat)
            have hs7 := hgrow.size
            simp only [World.size_alloc] at hs7
            have hlow : Below B wK w7 := ⟨(hgrow.os.trans rfl), (hgrow.tape.trans rfl), (hgrow.output.trans rfl), by omega, fun q hq => hst.2 q (by omega) fun e => by have := (hsi.ou.lt q e.symm).1; omega⟩
            refine ⟨hst.1, (hbw.trans (hb.mono hbw.size)).trans (hlow.mono (by omega)), ⟨(hpc.1.low (hb.mono hBl)).low hlow, hpc.2⟩, ?_, by omega, by omega, ?_, ?_⟩
            · exact (hp7.below hb).of fun i => World.cell?_of_block (a := ⟨wr.heap.size, i, none⟩) (hst.2 wr.heap.size (by omega) fun e => hne e.symm)
            · intro e
              have e' : gg = wr.heap.size := Option.some.inj e
              rcases hat with h | h
              · rw [e'] at h; exact hne h
              · omega
            · have := HM.out.2.2
              rw [sitesM_tt, if_pos hk.out] at this
              rw [← this]
              simp [St.m, f1, t1]
          clear hown1 hgrow hat hlt3 uo hnew HFF HTT HS HS0 HS1 HSG HSA H39f H39t HI hb hbE
          go_wp2_with fail
          go_meet
          case rel => exact ⟨_, _, rfl, HN⟩
        · have hk : Hid (p.k ≠ 10) := hk0
          have hk' : (p.k == 10) = false := by simpa using hk0
          clear hk0
          rw [hk']
          clear hk'
          rw [← hWP]
          clear hWP
          have HN : Hid (SI B (.slice (some ⟨g, 0, none⟩) us.length cap) u us ss WP ∧ Below w.heap.size w WP ∧ (Pr1 B WP p ∧ p.cok) ∧ At7 WP wr.heap.size 0 p ∧ wr.heap.size < WP.heap.size ∧ B ≤ WP.heap.size ∧ u.ownBlock ≠ some wr.heap.size ∧ ss.map St.m ++ (todo p.l.reverse ++ todo us) = sitesM x.tm) := by
            obtain ⟨h1, h2, h3, h4, h5, h6, h7⟩ := HI.out
            refine ⟨h1, h2, h3, h4, h5, h6, h7, ?_⟩
            have := HM.out.2.2
            rw [sitesM_tt, if_neg hk.out] at this
            simpa using this
          clear HI
          go_wp2_with fail
          go_meet
          case rel => exact ⟨u, ss, rfl, HN⟩
      case rest =>
      obtain ⟨u', ss', hu', HC⟩ := hcut
      subst hu'
      subst hNB
      obtain ⟨W0, hW0⟩ : ∃ W, W = wr := ⟨_, rfl⟩
      subst hW0
      have q6 := HC.out.2.2.2.1.c6
      simp only [Nat.zero_add] at q6
      have HCM : Hid (ss'.map St.m ++ (todo p.l.reverse ++ todo us) = sitesM x.tm ∧ gk = mass1 us + p.sz ∧ mass1 us + p.sz ≤ 1000) := ⟨HC.out.2.2.2.2.2.2.2, HM.out.1, HM.out.2.1⟩
      have HC0 : Hid (SI B (Value.slice (some ⟨g, 0, none⟩) us.length cap) u' (us ++ (p.l.drop p.l.length).reverse) ss' wc ∧ Below w.heap.size w wc ∧ (Pr1 B wc p ∧ p.cok) ∧ At7 wc W0.heap.size 0 p ∧ W0.heap.size < wc.heap.size ∧ B ≤ wc.heap.size ∧ (Value.slice (some ⟨g, 0, none⟩) us.length cap).ownBlock ≠ some W0.heap.size ∧ p.l.length ≤ p.l.length) := by
        obtain ⟨h1, h2, h3, h4, h5, h6, h7, h8⟩ := HC.out
        exact ⟨by simpa using h1, h2, h3, h4, h5, h6, fun e => hgn (Option.some.inj e), Nat.le_refl _⟩
      clear HC HM c0 c1 c2 c3 c4 c5 c6 HI
      go_wp2_with fail
      clear q6
      obtain ⟨K0, hK0⟩ : ∃ K, K = gk := ⟨_, rfl⟩
      subst hK0
      go_loopg [4, 7] p.l.length (fun q s4 s7 wx => ∃ (j : Nat) (v : Value), q = j ∧ s7 = .int .i64 ((j : Int) - 1) ∧ v = s4 ∧ Hid (SI B v u' (us ++ (p.l.drop j).reverse) ss' wx ∧ Below w.heap.size w wx ∧ (Pr1 B wx p ∧ p.cok) ∧ At7 wx W0.heap.size 0 p ∧ W0.heap.size < wx.heap.size ∧ B ≤ wx.heap.size ∧ v.ownBlock ≠ some W0.heap.size ∧ j ≤ p.l.length))
      case atStart => exact ⟨p.l.length, _, rfl, rfl, rfl, HC0⟩
      case round =>
        obtain ⟨j, v, hj, rfl, hv, HQ⟩ := hrel
        subst hv
        clear HC0
        match j, hj, HQ with
        | 0, hj, HQ =>
          have HN : Hid (SI B v u' (us ++ p.l.reverse) ss' wr ∧ Below w.heap.size w wr ∧ mass1 (us ++ p.l.reverse) ≤ 1000 ∧ B ≤ wr.heap.size ∧ ss'.map St.m ++ todo (us ++ p.l.reverse) = sitesM x.tm) := by
            obtain ⟨h1, h2, h3, h4, h5, h6, h7, h8⟩ := HQ.out
            have e : mass1 (us ++ p.l.reverse) = mass1 us + (p.l.map TT.sz).sum := by simp [mass1]
            have hs := p.sz_eq
            have hm := HCM.out.2
            exact ⟨by simpa using h1, h2, by omega, h6, by rw [todo_append]; exact HCM.out.1⟩
          have HMs : Hid (mass1 (us ++ p.l.reverse) < K0) := by
            have e : mass1 (us ++ p.l.reverse) = mass1 us + (p.l.map TT.sz).sum := by simp [mass1]
            have hs := p.sz_eq
            have hm := HCM.out.2
            show _ < _
            omega
          clear HQ hj HCM
          go_wp2_with fail
          go_roundg (mass1 (us ++ p.l.reverse))
          case measure => exact HMs.out
          case rel => exact ⟨_, _, _, _, rfl, rfl, rfl, HN⟩
        | m + 1, hj, HQ =>
          have hmlt : m < p.l.length := HQ.out.2.2.2.2.2.2.2
          obtain ⟨hpi, hpb⟩ := HQ.out.2.2.1.1
          obtain ⟨b, o, ea, hX, hyi⟩ := hpi.part m hmlt
          have hyb : p.l[m].Bl (· < B) := hpb.mem (List.getElem_mem hmlt)
          have hyc : p.l[m].cok := HQ.out.2.2.1.2.mem (List.getElem_mem hmlt)
          obtain ⟨y, hye⟩ : ∃ y, p.l[m] = y := ⟨_, rfl⟩
          rw [hye] at hX hyi hyb hyc
          obtain ⟨d0, d1, d2, d3, d4, d5, d6⟩ := hX
          have q6 := HQ.out.2.2.2.1.c6
          simp only [Nat.zero_add] at q6
          rw [ea] at q6
          have e1 : (((m + 1 : Nat) : Int) - 1) = (m : Int) := by omega
          rw [e1]
          have i5 : (m : Int) < (p.l.length : Int) := by omega
          have i7 : (0 : Int) ≤ (m : Int) := by omega
          obtain ⟨N, hN⟩ : ∃ N, (us ++ (p.l.drop (m + 1)).reverse).length = N := ⟨_, rfl⟩
          obtain ⟨xs, hxs⟩ : ∃ xs, cells7 (us ++ (p.l.drop (m + 1)).reverse) = xs := ⟨_, rfl⟩
          have hNb : N ≤ 2002 := by
            rw [← hN]
            have h1 := Stk1.len (ps := us)
            have h2 := HCM.out.2.2
            simp
            omega
          have uo : wr.ownsRow B 27 7 v N xs := by rw [← hN, ← hxs]; exact HQ.out.1.ov
          have hnew := heap_alloc_new wr (.cells #[.int .i64 y.k, .int .i64 y.n, .int .i64 y.t.k, .slice y.t.a y.t.l.length y.t.c, .int .i64 y.f.k, .slice y.f.a y.f.l.length y.f.c, .slice y.a y.l.length y.c] 27)
          have hBr : B ≤ wr.heap.size := HQ.out.2.2.2.2.2.1
          have HNX : Hid ((us ++ (p.l.drop (m + 1)).reverse).length = N ∧ cells7 (us ++ (p.l.drop (m + 1)).reverse) = xs) := ⟨hN, hxs⟩
          have HY : Hid ((Pr1 B wr y ∧ y.cok) ∧ p.l[m] = y) := ⟨⟨⟨hyi, hyb⟩, hyc⟩, hye⟩
          have HJ : Hid (gk = m + 1) := hj
          clear hN hxs hpi hpb hyi hyb hyc hye ea e1 hj
          go_wp2_with (at_builtin; refine wpList_append_lies _ rfl _ _ _ rfl B 27 i0 _ 7 104 Tryd.underlying25 hi0 hz0 hz1 hz2 rfl (by omega) v N xs rfl (uo.alloc _) ⟨wr.heap.size, 0, none⟩ 1 1 [.int .i64 y.k, .int .i64 y.n, .int .i64 y.t.k, .slice y.t.a y.t.l.length y.t.c, .int .i64 y.f.k, .slice y.f.a y.f.l.length y.f.c, .slice y.a y.l.length y.c] rfl rfl (World.news_of_block (cs := #[.int .i64 y.k, .int .i64 y.n, .int .i64 y.t.k, .slice y.t.a y.t.l.length y.t.c, .int .i64 y.f.k, .slice y.f.a y.f.l.length y.f.c, .slice y.a y.l.length y.c]) (t := 27) (fr := (0, 0)) hnew) (by simp [Value.oneCell']) (by omega) (by unfold maxLen; omega) (by omega) (by simp; omega) (wr.heap.size + 1) (by simp) ?_; intro gg cap1 w3 hown1 hgrow hat hlt3)
          have HN : Hid (SI B (Value.slice (some ⟨gg, 0, none⟩) (N + 1) cap1) u' (us ++ (p.l.drop m).reverse) ss' w3 ∧ Below w.heap.size w w3 ∧ (Pr1 B w3 p ∧ p.cok) ∧ At7 w3 W0.heap.size 0 p ∧ W0.heap.size < w3.heap.size ∧ B ≤ w3.heap.size ∧ (Value.slice (some ⟨gg, 0, none⟩) (N + 1) cap1).ownBlock ≠ some W0.heap.size ∧ m ≤ p.l.length) := by
            obtain ⟨h1, h2, h3, h4, h5, h6, h7, h8⟩ := HQ.out
            obtain ⟨eN, exs⟩ := HNX.out
            have hst := h1.pushT (gg := gg) (cap1 := cap1) (w3 := w3) (c := y) (X := .cells #[.int .i64 y.k, .int .i64 y.n, .int .i64 y.t.k, .slice y.t.a y.t.l.length y.t.c, .int .i64 y.f.k, .slice y.f.a y.f.l.length y.f.c, .slice y.a y.l.length y.c] 27) hBr HY.out.1 (by rw [eN, exs]; exact hown1) hgrow (by simpa using hat)
            have hs3 := hgrow.size
            simp only [World.size_alloc] at hs3
            have hlow : Below B wr w3 := ⟨hgrow.os.trans rfl, hgrow.tape.trans rfl, hgrow.output.trans rfl, by omega, fun q hq => hst.2 q (by omega) fun e => by have := (h1.ov.lt q e.symm).1; omega⟩
            have hst1 := hst.1
            rw [eN] at hst1
            have hdr : us ++ (p.l.drop m).reverse = us ++ (p.l.drop (m + 1)).reverse ++ [y] := by
              rw [List.drop_eq_getElem_cons hmlt, HY.out.2]
              simp
            refine ⟨by rw [hdr]; exact hst1, h2.trans (hlow.mono (by omega)), ⟨h3.1.low hlow, h3.2⟩, ?_, by omega, by omega, ?_, by omega⟩
            · exact h4.of fun i => World.cell?_of_block (a := ⟨W0.heap.size, i, none⟩) (hst.2 W0.heap.size h5 fun e => h7 e.symm)
            · intro e
              have e' : gg = W0.heap.size := Option.some.inj e
              rcases hat with h | h
              · rw [e'] at h; exact h7 h
              · omega
          clear hown1 hgrow hat hlt3 uo hnew HQ HY HNX d0 d1 d2 d3 d4 d5 d6 q6
          go_wp2_with fail
          go_roundg m
          case measure => have := HJ.out; omega
          case rel => exact ⟨m, _, rfl, by go_num, rfl, HN⟩
end Go.Proofs.YtnddkmccagiclaaDoor
