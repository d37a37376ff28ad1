/-
  Whatever can be read as data of the type 'Term' is a term's tree that lies in memory, of no more terms than the data's bulk.
-/
import Derived.Test.YtnddkmccagiclabGreatDoorLot0b4461e132
import Derived.Test.YtnddkmccagiclabGreatDoorLot2c1b367ec8
import Derived.Test.YtnddkmccagiclabGreatDoorCards
import Derived.Test.YtnddkmccagiclabGreatDoorLot2ebbd2cd4c
import Derived.Test.YtnddkmccagiclabGreatDoorLotffd82e37e5
import Derived.Lib.LaidTab
import Derived.Stop.LaidErr
namespace Go.Proofs.YtnddkmccagiclabGreatDoor
open Go.ChangeShapes Go.WideShapes Go.ChangeAt Go.RowKit
theorem ok_more {m m' : Nat} {x : TT} : x.ok m → m ≤ m' → x.ok m' := by
  induction x using TT.ind with
  | h k n t f a c l ih =>
    intro h hm
    obtain ⟨⟨h1, h2, h3, h4, h5⟩, h6⟩ := TT.ok_mk.1 h
    exact TT.ok_mk.2 ⟨⟨h1, h2, by omega, by omega, by omega⟩, fun y hy => ih y hy (h6 y hy) hm⟩
theorem bulk_mem {H : Type} : ∀ (l : List (DataW H)) (d : DataW H), d ∈ l → Rows.uptoBulk d ≤ Rows.uptoBulkAll l
  | [], _, h => by cases h
  | e :: r, d, h => by
    simp only [Rows.uptoBulkAll]
    rcases List.mem_cons.1 h with rfl | h
    · omega
    · have := bulk_mem r d h
      omega
theorem sums_le {H : Type} : ∀ {f : Nat → Nat} (l : List (DataW H)) (n : Nat), l.length = n → (∀ i (h : i < l.length), f i ≤ Rows.uptoBulk l[i]) → ((List.range n).map f).sum ≤ Rows.uptoBulkAll l
  | f, [], n, hn, _ => by
    have : n = 0 := by simpa using hn.symm
    subst this
    simp
  | f, d :: r, n, hn, h => by
    obtain ⟨m, rfl⟩ : ∃ m, n = m + 1 := ⟨r.length, by simpa using hn.symm⟩
    have h0 := h 0 (by simp)
    have h1 := sums_le (f := f ∘ Nat.succ) r m (by simpa using hn) fun i hi => h (i + 1) (by simpa using hi)
    rw [List.range_succ_eq_map, List.map_cons, List.map_map, List.sum_cons]
    simp only [List.getElem_cons_zero] at h0
    simp only [Rows.uptoBulkAll]
    omega
set_option maxRecDepth 100000 in
theorem tr_of_sz {H : Type} {enc : TypeId × Value → H} {W : World} {base : Nat} {spare : Nat → Bool} {held : Bool} : ∀ (fuel : Nat) (cs : List Value) (x : DataW H × List MemPlace),
    DataW.trod enc Tryz.prog W base spare held fuel 24 cs = some x → ∃ t : Tr, cs = [.int .i64 t.k, .slice t.a t.l.length t.c] ∧ t.In W ∧ t.sz ≤ Rows.uptoBulk x.1 := by
  intro fuel
  induction fuel using Nat.strongRecOn with
  | _ fuel ih =>
    intro cs x h
    obtain ⟨xs, n, rfl, rfl, hl, hlen, hf⟩ := DataW.trod_struct Tryz.underlying24 h
    rw [Tryz.cells24] at hl
    match cs, hl with
    | [c0, c1], _ =>
      have h0 := hf 0 { name := "Kind", type := 3, offset := 0, embedded := false, tag := "", pkgPath := "", byteOffset := 0 } rfl
      have h1 := hf 1 { name := "L", type := 22, offset := 1, embedded := false, tag := "", pkgPath := "", byteOffset := 8 } rfl
      simp only [List.drop_zero, List.drop_succ_cons, Tryz.cells3, Tryz.cells22, List.take_succ_cons, List.take_zero] at h0 h1
      match xs, hlen with
      | [y0, y1], _ =>
        simp only [List.getElem?_cons_zero, List.getElem?_cons_succ] at h0 h1
        obtain ⟨k, hc0, _, _⟩ := DataW.trod_int Tryz.underlying3 h0
        simp only [List.cons.injEq, and_true] at hc0
        subst hc0
        rcases DataW.trod_slice Tryz.underlying22 h1 with ⟨hc1, _⟩ | ⟨a, len, cap, elems, rest, m, rfl, hc1, rfl, _, _, _, hel, hat, _⟩
        · simp only [List.cons.injEq, and_true] at hc1
          subst hc1
          refine ⟨.mk k none 0 [], rfl, Tr.In_nil _ _ _ _, ?_⟩
          rw [Tr.sz_mk]
          simp [Rows.uptoBulk]
        · simp only [List.cons.injEq, and_true] at hc1
          subst hc1
          have hex : ∀ i, i < len → ∃ t : Tr, W.cells? base (a.add (i * 2)) 2 = some [.int .i64 t.k, .slice t.a t.l.length t.c] ∧ t.In W ∧ ∀ (hi : i < (elems.map fun y : DataW H × List MemPlace => y.1).length), t.sz ≤ Rows.uptoBulk (elems.map fun y : DataW H × List MemPlace => y.1)[i] := by
            intro i hi
            have hi' := hat i hi
            rw [Tryz.cells24, List.getElem?_eq_getElem (by omega)] at hi'
            obtain ⟨cs', hcs, htr⟩ := Option.bind_eq_some_iff.1 hi'
            obtain ⟨t, rfl, hin, hsz⟩ := ih m (by omega) cs' _ htr
            exact ⟨t, hcs, hin, fun _ => by rw [List.getElem_map]; exact hsz⟩
          haveI : Inhabited Tr := ⟨.mk 0 none 0 []⟩
          obtain ⟨T, hT⟩ := Go.Deep.choose_lt hex
          refine ⟨.mk k (some a) cap ((List.range len).map T), by simp, ?_, ?_⟩
          rotate_left
          · rw [Tr.sz_mk, List.map_map]
            have h := sums_le (H := H) (f := Tr.sz ∘ T) (elems.map fun y : DataW H × List MemPlace => y.1) len (by simpa using hel) (fun i hi => (hT i (by simpa [hel] using hi)).2.2 hi)
            simp only [List.map_cons, List.map_nil, Rows.uptoBulk, Rows.uptoBulkAll]
            omega
          refine Tr.In_mk.2 ⟨fun j hj => ?_, fun t ht => ?_⟩
          rotate_left
          · obtain ⟨i, hi, rfl⟩ := List.mem_map.1 ht
            exact (hT i (by simpa using hi)).2.1
          have hj' : j < len := by simpa using hj
          obtain ⟨hz, _⟩ := cellsTwo (hT 0 (by omega)).1
          simp only [Nat.zero_mul] at hz
          have ha0 : a.add 0 = a := by simp [Addr.add]
          rw [ha0] at hz
          have ha := cell_spot hz
          have hc := (hT j hj').1
          obtain ⟨c0, c1⟩ := cellsTwo hc
          have hadd : ∀ q, a.add q = ⟨a.block, a.off + q, none⟩ := by
            intro q
            rw [ha]
            unfold Addr.add
            by_cases hq : q = 0 <;> simp [hq]
          refine ⟨a.block, a.off, by rw [← ha], ?_, ?_⟩
          · rw [hadd] at c0
            simpa using c0
          · rw [Go.Deep.add_add, hadd] at c1
            simp only [List.getElem_map, List.getElem_range, Tr.sl]
            rw [show a.off + j * 2 + 1 = a.off + (j * 2 + 1) by omega]
            exact c1
theorem sum_two : ∀ l : List Nat, (l.map fun n => n * 2).sum = l.sum * 2
  | [] => rfl
  | n :: l => by
    have := sum_two l
    simp only [List.map_cons, List.sum_cons]
    omega
set_option maxRecDepth 100000 in
theorem tm_of_sz {H : Type} {enc : TypeId × Value → H} {W : World} {base : Nat} {spare : Nat → Bool} {held : Bool} : ∀ (fuel : Nat) (cs : List Value) (x : DataW H × List MemPlace),
    DataW.trod enc Tryz.prog W base spare held fuel 27 cs = some x → ∃ t : TT, cs = [.int .i64 t.k, .int .i64 t.n, .int .i64 t.t.k, .slice t.t.a t.t.l.length t.t.c, .int .i64 t.f.k, .slice t.f.a t.f.l.length t.f.c, .slice t.a t.l.length t.c] ∧ t.In W ∧ t.sz * 2 ≤ Rows.uptoBulk x.1 ∧ t.ok (Rows.uptoBulk x.1) := by
  intro fuel
  induction fuel using Nat.strongRecOn with
  | _ fuel ih =>
    intro cs x h
    obtain ⟨xs, n, rfl, rfl, hl, hlen, hf⟩ := DataW.trod_struct Tryz.underlying27 h
    rw [Tryz.cells27] at hl
    match cs, hl with
    | [c0, c1, c2, c3, c4, c5, c6], _ =>
      have h0 := hf 0 { name := "Kind", type := 3, offset := 0, embedded := false, tag := "", pkgPath := "", byteOffset := 0 } rfl
      have h1 := hf 1 { name := "N", type := 3, offset := 1, embedded := false, tag := "", pkgPath := "", byteOffset := 8 } rfl
      have h2 := hf 2 { name := "T", type := 24, offset := 2, embedded := false, tag := "", pkgPath := "", byteOffset := 16 } rfl
      have h3 := hf 3 { name := "From", type := 24, offset := 4, embedded := false, tag := "", pkgPath := "", byteOffset := 48 } rfl
      have h4 := hf 4 { name := "L", type := 25, offset := 6, embedded := false, tag := "", pkgPath := "", byteOffset := 80 } rfl
      simp only [List.drop_zero, List.drop_succ_cons, Tryz.cells3, Tryz.cells24, Tryz.cells25, List.take_succ_cons, List.take_zero] at h0 h1 h2 h3 h4
      match xs, hlen with
      | [y0, y1, y2, y3, y4], _ =>
        simp only [List.getElem?_cons_zero, List.getElem?_cons_succ] at h0 h1 h2 h3 h4
        obtain ⟨k, hc0, _, hwk⟩ := DataW.trod_int Tryz.underlying3 h0
        obtain ⟨nn, hc1, _, hwf⟩ := DataW.trod_int Tryz.underlying3 h1
        obtain ⟨t, hc2, ht, hts⟩ := tr_of_sz n _ _ h2
        obtain ⟨f, hc4, hfi, hfs⟩ := tr_of_sz n _ _ h3
        simp only [List.cons.injEq, and_true] at hc0 hc1 hc2 hc4
        obtain ⟨rfl, rfl⟩ := hc2
        obtain ⟨rfl, rfl⟩ := hc4
        subst hc0 hc1
        rcases DataW.trod_slice Tryz.underlying25 h4 with ⟨hc6, _⟩ | ⟨a, len, cap, elems, rest, m, rfl, hc6, rfl, _, _, _, hel, hat, _⟩
        · simp only [List.cons.injEq, and_true] at hc6
          subst hc6
          exact ⟨.mk k nn t f none 0 [], rfl, TT.In_mk.2 ⟨ht, hfi, fun j h => absurd h (by simp), fun t h => by cases h⟩, by rw [TT.sz_mk]; have := t.sz_pos; simp only [List.map_nil, List.sum_nil, List.map_cons, Rows.uptoBulk, Rows.uptoBulkAll]; omega, TT.ok_mk.2 ⟨⟨hwk, hwf, by simp only [List.map_cons, List.map_nil, Rows.uptoBulk, Rows.uptoBulkAll]; omega, by simp only [List.map_cons, List.map_nil, Rows.uptoBulk, Rows.uptoBulkAll]; omega, by simp⟩, fun y h => by cases h⟩⟩
        · simp only [List.cons.injEq, and_true] at hc6
          subst hc6
          have hex : ∀ i, i < len → ∃ t : TT, W.cells? base (a.add (i * 7)) 7 = some [.int .i64 t.k, .int .i64 t.n, .int .i64 t.t.k, .slice t.t.a t.t.l.length t.t.c, .int .i64 t.f.k, .slice t.f.a t.f.l.length t.f.c, .slice t.a t.l.length t.c] ∧ t.In W ∧ ∀ (hi : i < (elems.map fun y : DataW H × List MemPlace => y.1).length), t.sz * 2 ≤ Rows.uptoBulk (elems.map fun y : DataW H × List MemPlace => y.1)[i] ∧ t.ok (Rows.uptoBulk (elems.map fun y : DataW H × List MemPlace => y.1)[i]) := by
            intro i hi
            have hi' := hat i hi
            rw [Tryz.cells27, List.getElem?_eq_getElem (by omega)] at hi'
            obtain ⟨cs', hcs, htr⟩ := Option.bind_eq_some_iff.1 hi'
            obtain ⟨t, rfl, hin, hw⟩ := ih m (by omega) cs' _ htr
            exact ⟨t, hcs, hin, fun hi2 => by rw [List.getElem_map]; exact hw⟩
          haveI : Inhabited TT := ⟨tleaf 0 0⟩
          obtain ⟨T, hT⟩ := Go.Deep.choose_lt hex
          refine ⟨.mk k nn t f (some a) cap ((List.range len).map T), by simp, ?_, ?_, ?_⟩
          · refine TT.In_mk.2 ⟨ht, hfi, fun j hj => ?_, fun t ht => ?_⟩
            rotate_left
            · obtain ⟨i, hi, rfl⟩ := List.mem_map.1 ht
              exact (hT i (by simpa using hi)).2.1
            have hj' : j < len := by simpa using hj
            have hz := cells_seven (hT 0 (by omega)).1 0 (by omega)
            simp only [Nat.zero_mul, List.getElem?_cons_zero] at hz
            have ha0 : (a.add 0).add 0 = a := by simp [Addr.add]
            rw [ha0] at hz
            have ha := cell_spot hz
            have hc := cells_seven (hT j hj').1
            have hadd : ∀ q, a.add q = ⟨a.block, a.off + q, none⟩ := by
              intro q
              rw [ha]
              unfold Addr.add
              by_cases hq : q = 0 <;> simp [hq]
            have hat7 : ∀ i, i < 7 → W.cell? ⟨a.block, a.off + j * 7 + i, none⟩ = [Value.int .i64 (T j).k, .int .i64 (T j).n, .int .i64 (T j).t.k, .slice (T j).t.a (T j).t.l.length (T j).t.c, .int .i64 (T j).f.k, .slice (T j).f.a (T j).f.l.length (T j).f.c, .slice (T j).a (T j).l.length (T j).c][i]? := by
              intro i hi
              have := hc i hi
              rw [Go.Deep.add_add, hadd] at this
              rw [show a.off + j * 7 + i = a.off + (j * 7 + i) by omega]
              exact this
            refine ⟨a.block, a.off, by rw [← ha], ?_⟩
            simp only [List.getElem_map, List.getElem_range]
            exact ⟨hat7 0 (by omega), hat7 1 (by omega), hat7 2 (by omega), hat7 3 (by omega), hat7 4 (by omega), hat7 5 (by omega), hat7 6 (by omega)⟩
          · rw [TT.sz_mk, List.map_map]
            have h := sums_le (H := H) (f := fun i => (TT.sz ∘ T) i * 2) (elems.map fun y : DataW H × List MemPlace => y.1) len (by simpa using hel) (fun i hi => ((hT i (by simpa [hel] using hi)).2.2 hi).1)
            have h2 := sum_two ((List.range len).map (TT.sz ∘ T))
            rw [List.map_map] at h2
            have h3 : ((List.range len).map (TT.sz ∘ T)).sum * 2 ≤ Rows.uptoBulkAll (elems.map fun y : DataW H × List MemPlace => y.1) := by rw [← h2]; exact h
            have := t.sz_pos
            clear h h2
            simp only [List.map_cons, List.map_nil, Rows.uptoBulk, Rows.uptoBulkAll]
            omega
          · have h := sums_le (H := H) (f := fun i => (TT.sz ∘ T) i * 2) (elems.map fun y : DataW H × List MemPlace => y.1) len (by simpa using hel) (fun i hi => ((hT i (by simpa [hel] using hi)).2.2 hi).1)
            have h2 := sum_two ((List.range len).map (TT.sz ∘ T))
            rw [List.map_map] at h2
            have h3 : ((List.range len).map (TT.sz ∘ T)).sum * 2 ≤ Rows.uptoBulkAll (elems.map fun y : DataW H × List MemPlace => y.1) := by rw [← h2]; exact h
            have := t.sz_pos
            clear h h2
            have hl := len_sum ((List.range len).map T)
            rw [List.map_map] at hl
            refine TT.ok_mk.2 ⟨⟨hwk, hwf, ?_, ?_, ?_⟩, fun y hy => ?_⟩
            · simp only [List.map_cons, List.map_nil, Rows.uptoBulk, Rows.uptoBulkAll]
              omega
            · simp only [List.map_cons, List.map_nil, Rows.uptoBulk, Rows.uptoBulkAll]
              omega
            · simp only [List.map_cons, List.map_nil, Rows.uptoBulk, Rows.uptoBulkAll]
              omega
            · obtain ⟨i, hi, rfl⟩ := List.mem_map.1 hy
              have hi' : i < len := by simpa using hi
              have hi2 : i < (elems.map fun y : DataW H × List MemPlace => y.1).length := by simpa [hel] using hi'
              refine ok_more ((hT i hi').2.2 hi2).2 ?_
              have := bulk_mem (elems.map fun y : DataW H × List MemPlace => y.1) _ (List.getElem_mem hi2)
              simp only [List.map_cons, List.map_nil, Rows.uptoBulk, Rows.uptoBulkAll]
              omega
set_option maxRecDepth 100000 in
/-- An argument of the type is a term's tree. -/
theorem tm_arg_sz {H : Type} {enc : TypeId × Value → H} {W : World} {base b0 : Nat} {spare : Nat → Bool} {held : Bool} {r : Reach} {v : Value} {d : DataW H} {p : List MemPlace} (hv : Value.okWide Tryz.prog W r b0 27 v) (h : DataW.Trod enc Tryz.prog W base spare held 27 v d p) :
    ∃ t : TT, v = .agg #[.int .i64 t.k, .int .i64 t.n, .int .i64 t.t.k, .slice t.t.a t.t.l.length t.t.c, .int .i64 t.f.k, .slice t.f.a t.f.l.length t.f.c, .slice t.a t.l.length t.c] ∧ t.In W ∧ t.sz * 2 ≤ Rows.uptoBulk d ∧ t.ok (Rows.uptoBulk d) := by
  obtain ⟨cs, rfl, _⟩ := okWide_struct Tryz.underlying27 hv
  obtain ⟨fuel, hf⟩ := h
  obtain ⟨t, ht, hin⟩ := tm_of_sz fuel _ _ hf
  refine ⟨t, ?_, hin⟩
  have : cs.toList = [.int .i64 t.k, .int .i64 t.n, .int .i64 t.t.k, .slice t.t.a t.t.l.length t.t.c, .int .i64 t.f.k, .slice t.f.a t.f.l.length t.f.c, .slice t.a t.l.length t.c] := by simpa [Value.cells] using ht
  rw [← this]
end Go.Proofs.YtnddkmccagiclabGreatDoor

/-
  What the row's list of package-level variables gives: the tables hold what they were laid with.
-/
namespace Go.Proofs.YtnddkmccagiclabGreatDoor
open Go.ChangeShapes Go.RowKit
/-- The head of the list. -/
theorem laid_head {n : String} {d : DataW Unit} {r : List (String × DataW Unit)} {W : World} {g t : Nat} (h : laidMet Tryz.prog ((n, d) :: r) W) (hg : Tryz.prog.globalNamed n = some g) (ht : (Tryz.prog.globals[g]?).map (·.type) = some t) :
    ∃ (cs : Array Value) (fuel : Nat) (p : List MemPlace), Vc W g cs ∧ DataW.trod (fun _ => ()) Tryz.prog W 0 (fun _ => true) false fuel t cs.toList = some (d, p) := by
  obtain ⟨ps, ⟨g', t', cs, fuel, p, q, hg', ht', hvar, hd, _, _⟩, _⟩ := h
  obtain rfl := Option.some.inj (hg.symm.trans hg')
  obtain rfl := Option.some.inj (ht.symm.trans ht')
  refine ⟨cs, fuel, p, ?_, hd⟩
  unfold World.var? at hvar
  rw [hg] at hvar
  simp only [Option.bind_some] at hvar
  split at hvar
  · rename_i cs' t fr hh
    cases hvar
    exact ⟨t, fr, hh⟩
  · cases hvar
/-- An array of texts that reads as these texts holds them. -/
theorem cells_of_strs {W : World} {fuel t n : Nat} {cs : List Value} {ss : List (List UInt8)} {p : List MemPlace}
    (ht : Tryz.prog.underlying t = some (.array n 9)) (hct : Tryz.prog.cellsOf t = n)
    (h : DataW.trod (fun _ => ()) Tryz.prog W 0 (fun _ => true) false fuel t cs = some (.agg (ss.map fun s => .lit (.string s)), p)) : cs = ss.map fun s => Value.string ⟨s.toArray⟩ := by
  have hce : Tryz.prog.cellsOf 9 = 1 := by kernel_rfl
  cases fuel with
  | zero => simp [DataW.trod] at h
  | succ fuel =>
    simp only [DataW.trod, ht, hce, hct, Nat.mul_one] at h
    split at h
    · rename_i hl
      obtain ⟨xs, hm, hx⟩ := Option.map_eq_some_iff.1 h
      have hxs : xs.map (·.1) = ss.map fun s => (DataW.lit (.string s) : DataW Unit) := by
        have := congrArg Prod.fst hx
        simpa using this
      have hxl : xs.length = n := by simpa using Lib.mapM_length hm
      have hzl : ss.length = n := by
        have := congrArg List.length hxs
        simp at this
        omega
      apply List.ext_getElem?
      intro i
      by_cases hi : i < n
      · obtain ⟨b, hb, hf⟩ := Lib.mapM_at hm i i (by simp [hi])
        obtain ⟨s, hc, rfl, _⟩ := DataW.trod_string Tryz.underlying9 hf
        have h1 : cs[i]? = some (.string s) := by
          have := congrArg (·[0]?) hc
          simpa [List.getElem?_take, List.getElem?_drop] using this
        have h2 : (xs.map (·.1))[i]? = some (DataW.lit (.string s.data.toList) : DataW Unit) := by simp [hb]
        rw [hxs] at h2
        simp only [List.getElem?_map, Option.map_eq_some_iff, DataW.lit.injEq, Lit.string.injEq] at h2
        obtain ⟨s', hs', e⟩ := h2
        simp only [List.getElem?_map, hs', Option.map_some, h1, e]
      · rw [List.getElem?_eq_none (by omega), List.getElem?_eq_none (by simp; omega)]
    · cases h
theorem cells84 : Tryz.prog.cellsOf 84 = 2 := by kernel_rfl
theorem cells85 : Tryz.prog.cellsOf 180 = 10 := by kernel_rfl
theorem cells122 : Tryz.prog.cellsOf 145 = 10 := by kernel_rfl
theorem cells123 : Tryz.prog.cellsOf 209 = 3 := by kernel_rfl
theorem cells166 : Tryz.prog.cellsOf 265 = 20 := by kernel_rfl
theorem cells3' : Tryz.prog.cellsOf 3 = 1 := by kernel_rfl
theorem cells152 : Tryz.prog.cellsOf 233 = 1 := by kernel_rfl
theorem vc_list {W : World} {g : Nat} {cs : Array Value} {l : List Value} (h : Vc W g cs) (e : cs.toList = l) : Vc W g l.toArray := by
  rw [← e]; exact h
theorem gl_parts {r : List (String × DataW Unit)} {W : World} (h : laidMet Tryz.prog (("chaperone/term.parts", Rows.laid_chaperone_term_parts) :: r) W) :
    Vc W 0 #[.int .i64 0, .int .i64 0, .int .i64 0, .int .i64 0, .int .i64 2, .int .i64 2, .int .i64 3, .int .i64 1, .int .i64 2, .int .i64 1] := by
  obtain ⟨cs, fuel, p, hv, ht⟩ := laid_head h (g := 0) (t := 145) (by kernel_rfl) (by kernel_rfl)
  exact vc_list hv (Lib.cells_of_tab (zs := [0, 0, 0, 0, 2, 2, 3, 1, 2, 1]) Tryz.underlying145 Tryz.underlying3 cells3' cells122 ht)
theorem gl_truth {r : List (String × DataW Unit)} {W : World} (h : laidMet Tryz.prog (("chaperone/term.truthWords", Rows.laid_chaperone_term_truthWords) :: r) W) :
    Vc W 1 #[.string ⟨#[110, 111]⟩, .string ⟨#[121, 101, 115]⟩] := by
  obtain ⟨cs, fuel, p, hv, ht⟩ := laid_head h (g := 1) (t := 84) (by kernel_rfl) (by kernel_rfl)
  exact vc_list hv (cells_of_strs (ss := [[110, 111], [121, 101, 115]]) Tryz.underlying84 cells84 ht)
theorem gl_words {r : List (String × DataW Unit)} {W : World} (h : laidMet Tryz.prog (("chaperone/term.words", Rows.laid_chaperone_term_words) :: r) W) :
    Vc W 2 #[.string ⟨#[]⟩, .string ⟨#[]⟩, .string ⟨#[]⟩, .string ⟨#[]⟩, .string ⟨#[97, 100, 100]⟩, .string ⟨#[108, 101, 115, 115]⟩, .string ⟨#[105, 102]⟩, .string ⟨#[102, 117, 110]⟩, .string ⟨#[99, 97, 108, 108]⟩, .string ⟨#[97, 115]⟩] := by
  obtain ⟨cs, fuel, p, hv, ht⟩ := laid_head h (g := 2) (t := 180) (by kernel_rfl) (by kernel_rfl)
  exact vc_list hv (cells_of_strs (ss := [[], [], [], [], [97, 100, 100], [108, 101, 115, 115], [105, 102], [102, 117, 110], [99, 97, 108, 108], [97, 115]]) Tryz.underlying180 cells85 ht)
theorem gl_types {r : List (String × DataW Unit)} {W : World} (h : laidMet Tryz.prog (("chaperone/term.typeWords", Rows.laid_chaperone_term_typeWords) :: r) W) :
    Vc W 4 #[.string ⟨#[97, 110, 121]⟩, .string ⟨#[110, 117, 109]⟩, .string ⟨#[116, 114, 117, 116, 104]⟩] := by
  obtain ⟨cs, fuel, p, hv, ht⟩ := laid_head h (g := 4) (t := 209) (by kernel_rfl) (by kernel_rfl)
  exact vc_list hv (cells_of_strs (ss := [[97, 110, 121], [110, 117, 109], [116, 114, 117, 116, 104]]) Tryz.underlying209 cells123 ht)
theorem gl_pow {r : List (String × DataW Unit)} {W : World} (h : laidMet Tryz.prog (("internal/strconv.uint64pow10", Rows.laid_internal_strconv_uint64pow10) :: r) W) :
    Vc W 11 (Lib.pow10Tab.map fun z => Value.int .u64 z).toArray := by
  obtain ⟨cs, fuel, p, hv, ht⟩ := laid_head h (g := 11) (t := 265) (by kernel_rfl) (by kernel_rfl)
  exact vc_list hv (Lib.cells_of_tab (zs := Lib.pow10Tab) Tryz.underlying265 Tryz.underlying233 cells152 cells166 ht)
theorem gl_err {n nm : String} {g : Nat} {d : DataW Unit} {r : List (String × DataW Unit)} {W : World} (h : laidMet Tryz.prog ((n, .iface nm d) :: r) W) (hg : Tryz.prog.globalNamed n = some g) (ht : (Tryz.prog.globals[g]?).map (·.type) = some 153) : ∃ te pe, Vc W g #[.iface te pe] := by
  obtain ⟨cs, fuel, p, hv, hd⟩ := laid_head h hg ht
  obtain ⟨_, u, v, hc, _⟩ := iface_of_trod Tryz.underlying153 hd
  exact ⟨u, v, vc_list hv hc⟩
theorem gl_max {W : World} (h : W.ShapedOpen Tryz.prog) : ∃ m, Vc W 6 #[.int .i64 m] := by
  obtain ⟨m, hm⟩ := Tryz.laysM155.s1_3 W h
  have hm' : W.cell? ⟨6, 0, none⟩ = some (.int .i64 m) := hm
  obtain ⟨cs, hh, hs, _⟩ := h.1 6 #[.int .i64 0] 3 (by show 6 < 15; omega) (by kernel_rfl)
  refine ⟨m, ?_⟩
  have hs1 : cs.size = 1 := hs
  have hc : W.cell? ⟨6, 0, none⟩ = cs[0]? := cell_of_row W 6 0 cs _ _ hh
  rw [hc] at hm'
  have e : cs = #[.int .i64 m] := by
    apply Array.ext
    · simpa using hs1
    · intro i h1 h2
      obtain rfl : i = 0 := by omega
      have := Array.getElem?_eq_some_iff.1 hm'
      simpa using this.2
  rw [← e]
  exact ⟨_, _, hh⟩
/-- The tables, at the rows of the laws of the whole. -/
theorem gl_rows {W : World} (h' : laidMet Tryz.prog [("math/bits.deBruijn32tab", Rows.laid_math_bits_deBruijn32tab), ("math/bits.deBruijn64tab", Rows.laid_math_bits_deBruijn64tab), ("internal/strconv.uint64pow10", Rows.laid_internal_strconv_uint64pow10), ("unicode/utf8.acceptRanges", Rows.laid_unicode_utf8_acceptRanges), ("strconv.ErrRange", Rows.laid_strconv_ErrRange), ("strconv.ErrSyntax", Rows.laid_strconv_ErrSyntax), ("chaperone/term.words", Rows.laid_chaperone_term_words), ("chaperone/term.truthWords", Rows.laid_chaperone_term_truthWords), ("chaperone/term.typeWords", Rows.laid_chaperone_term_typeWords), ("chaperone/term.parts", Rows.laid_chaperone_term_parts), ("unicode/utf8.first", Rows.laid_unicode_utf8_first)] W) (hs : W.ShapedOpen Tryz.prog) : Gl W := by
  have h1 := h'.tail.tail
  have h2 := h1.tail.tail
  have h3 := h2.tail
  have h4 := h3.tail
  have h5 := h4.tail
  have h6 := h5.tail
  have h7 := h6.tail
  exact ⟨gl_truth h5, gl_words h4, gl_parts h7, gl_types h6, gl_pow h1, gl_max hs, gl_err h3 (by kernel_rfl) (by kernel_rfl), gl_err h2 (by kernel_rfl) (by kernel_rfl)⟩
end Go.Proofs.YtnddkmccagiclabGreatDoor
