/-
  Whatever can be read as data of the type 'Term' is a term's tree that lies in memory, of no more terms than the data's bulk.
-/
import Derived.Test.YtnddkmccagiclaaDoorLotdefc9ec547
import Derived.Test.YtnddkmccagiclaaDoorLot27257d5ab6
import Derived.Test.YtnddkmccagiclaaDoorCards
import Derived.Test.YtnddkmccagiclaaDoorLote74bb2c053
import Derived.Lib.LaidTab
import Derived.Stop.LaidErr
namespace Go.Proofs.YtnddkmccagiclaaDoor
open Go.ChangeShapes Go.WideShapes Go.ChangeAt Go.RowKit
theorem ok_more {m m' : Nat} {x : TT} : x.ok m → m ≤ m' → x.ok m' := by
  induction x using TT.ind with
  | h k n t f a c l ih =>
    intro h hm
    obtain ⟨⟨h1, h2, h3, h4, h5⟩, h6⟩ := TT.ok_mk.1 h
    exact TT.ok_mk.2 ⟨⟨h1, h2, by omega, by omega, by omega⟩, fun y hy => ih y hy (h6 y hy) hm⟩
theorem bulk_mem {H : Type} : ∀ (l : List (DataW H)) (d : DataW H), d ∈ l → Rows.uptoBulk d ≤ Rows.uptoBulkAll l
  | [], _, h => by cases h
  | e :: r, d, h => by
    simp only [Rows.uptoBulkAll]
    rcases List.mem_cons.1 h with rfl | h
    · omega
    · have := bulk_mem r d h
      omega
theorem sums_le {H : Type} : ∀ {f : Nat → Nat} (l : List (DataW H)) (n : Nat), l.length = n → (∀ i (h : i < l.length), f i ≤ Rows.uptoBulk l[i]) → ((List.range n).map f).sum ≤ Rows.uptoBulkAll l
  | f, [], n, hn, _ => by
    have : n = 0 := by simpa using hn.symm
    subst this
    simp
  | f, d :: r, n, hn, h => by
    obtain ⟨m, rfl⟩ : ∃ m, n = m + 1 := ⟨r.length, by simpa using hn.symm⟩
    have h0 := h 0 (by simp)
    have h1 := sums_le (f := f ∘ Nat.succ) r m (by simpa using hn) fun i hi => h (i + 1) (by simpa using hi)
    rw [List.range_succ_eq_map, List.map_cons, List.map_map, List.sum_cons]
    simp only [List.getElem_cons_zero] at h0
    simp only [Rows.uptoBulkAll]
    omega
set_option maxRecDepth 100000 in
theorem tr_of_sz {H : Type} {enc : TypeId × Value → H} {W : World} {base : Nat} {spare : Nat → Bool} {held : Bool} : ∀ (fuel : Nat) (cs : List Value) (x : DataW H × List MemPlace),
    DataW.trod enc Tryd.prog W base spare held fuel 24 cs = some x → ∃ t : Tr, cs = [.int .i64 t.k, .slice t.a t.l.length t.c] ∧ t.In W ∧ t.sz ≤ Rows.uptoBulk x.1 := by
  intro fuel
  induction fuel using Nat.strongRecOn with
  | _ fuel ih =>
    intro cs x h
    obtain ⟨xs, n, rfl, rfl, hl, hlen, hf⟩ := DataW.trod_struct Tryd.underlying24 h
    rw [Tryd.cells24] at hl
    match cs, hl with
    | [c0, c1], _ =>
      have h0 := hf 0 { name := "Kind", type := 3, offset := 0, embedded := false, tag := "", pkgPath := "", byteOffset := 0 } rfl
      have h1 := hf 1 { name := "L", type := 22, offset := 1, embedded := false, tag := "", pkgPath := "", byteOffset := 8 } rfl
      simp only [List.drop_zero, List.drop_succ_cons, Tryd.cells3, Tryd.cells22, List.take_succ_cons, List.take_zero] at h0 h1
      match xs, hlen with
      | [y0, y1], _ =>
        simp only [List.getElem?_cons_zero, List.getElem?_cons_succ] at h0 h1
        obtain ⟨k, hc0, _, _⟩ := DataW.trod_int Tryd.underlying3 h0
        simp only [List.cons.injEq, and_true] at hc0
        subst hc0
        rcases DataW.trod_slice Tryd.underlying22 h1 with ⟨hc1, _⟩ | ⟨a, len, cap, elems, rest, m, rfl, hc1, rfl, _, _, _, hel, hat, _⟩
        · simp only [List.cons.injEq, and_true] at hc1
          subst hc1
          refine ⟨.mk k none 0 [], rfl, Tr.In_nil _ _ _ _, ?_⟩
          rw [Tr.sz_mk]
          simp [Rows.uptoBulk]
        · simp only [List.cons.injEq, and_true] at hc1
          subst hc1
          have hex : ∀ i, i < len → ∃ t : Tr, W.cells? base (a.add (i * 2)) 2 = some [.int .i64 t.k, .slice t.a t.l.length t.c] ∧ t.In W ∧ ∀ (hi : i < (elems.map fun y : DataW H × List MemPlace => y.1).length), t.sz ≤ Rows.uptoBulk (elems.map fun y : DataW H × List MemPlace => y.1)[i] := by
            intro i hi
            have hi' := hat i hi
            rw [Tryd.cells24, List.getElem?_eq_getElem (by omega)] at hi'
            obtain ⟨cs', hcs, htr⟩ := Option.bind_eq_some_iff.1 hi'
            obtain ⟨t, rfl, hin, hsz⟩ := ih m (by omega) cs' _ htr
            exact ⟨t, hcs, hin, fun _ => by rw [List.getElem_map]; exact hsz⟩
          haveI : Inhabited Tr := ⟨.mk 0 none 0 []⟩
          obtain ⟨T, hT⟩ := Go.Deep.choose_lt hex
          refine ⟨.mk k (some a) cap ((List.range len).map T), by simp, ?_, ?_⟩
          rotate_left
          · rw [Tr.sz_mk, List.map_map]
            have h := sums_le (H := H) (f := Tr.sz ∘ T) (elems.map fun y : DataW H × List MemPlace => y.1) len (by simpa using hel) (fun i hi => (hT i (by simpa [hel] using hi)).2.2 hi)
            simp only [List.map_cons, List.map_nil, Rows.uptoBulk, Rows.uptoBulkAll]
            omega
          refine Tr.In_mk.2 ⟨fun j hj => ?_, fun t ht => ?_⟩
          rotate_left
          · obtain ⟨i, hi, rfl⟩ := List.mem_map.1 ht
            exact (hT i (by simpa using hi)).2.1
          have hj' : j < len := by simpa using hj
          obtain ⟨hz, _⟩ := cellsTwo (hT 0 (by omega)).1
          simp only [Nat.zero_mul] at hz
          have ha0 : a.add 0 = a := by simp [Addr.add]
          rw [ha0] at hz
          have ha := cell_spot hz
          have hc := (hT j hj').1
          obtain ⟨c0, c1⟩ := cellsTwo hc
          have hadd : ∀ q, a.add q = ⟨a.block, a.off + q, none⟩ := by
            intro q
            rw [ha]
            unfold Addr.add
            by_cases hq : q = 0 <;> simp [hq]
          refine ⟨a.block, a.off, by rw [← ha], ?_, ?_⟩
          · rw [hadd] at c0
            simpa using c0
          · rw [Go.Deep.add_add, hadd] at c1
            simp only [List.getElem_map, List.getElem_range, Tr.sl]
            rw [show a.off + j * 2 + 1 = a.off + (j * 2 + 1) by omega]
            exact c1
set_option maxRecDepth 100000 in
theorem tm_of_sz {H : Type} {enc : TypeId × Value → H} {W : World} {base : Nat} {spare : Nat → Bool} {held : Bool} : ∀ (fuel : Nat) (cs : List Value) (x : DataW H × List MemPlace),
    DataW.trod enc Tryd.prog W base spare held fuel 27 cs = some x → ∃ t : TT, cs = [.int .i64 t.k, .int .i64 t.n, .int .i64 t.t.k, .slice t.t.a t.t.l.length t.t.c, .int .i64 t.f.k, .slice t.f.a t.f.l.length t.f.c, .slice t.a t.l.length t.c] ∧ t.In W ∧ t.sz ≤ Rows.uptoBulk x.1 ∧ t.ok (Rows.uptoBulk x.1) := by
  intro fuel
  induction fuel using Nat.strongRecOn with
  | _ fuel ih =>
    intro cs x h
    obtain ⟨xs, n, rfl, rfl, hl, hlen, hf⟩ := DataW.trod_struct Tryd.underlying27 h
    rw [Tryd.cells27] at hl
    match cs, hl with
    | [c0, c1, c2, c3, c4, c5, c6], _ =>
      have h0 := hf 0 { name := "Kind", type := 3, offset := 0, embedded := false, tag := "", pkgPath := "", byteOffset := 0 } rfl
      have h1 := hf 1 { name := "N", type := 3, offset := 1, embedded := false, tag := "", pkgPath := "", byteOffset := 8 } rfl
      have h2 := hf 2 { name := "T", type := 24, offset := 2, embedded := false, tag := "", pkgPath := "", byteOffset := 16 } rfl
      have h3 := hf 3 { name := "From", type := 24, offset := 4, embedded := false, tag := "", pkgPath := "", byteOffset := 48 } rfl
      have h4 := hf 4 { name := "L", type := 25, offset := 6, embedded := false, tag := "", pkgPath := "", byteOffset := 80 } rfl
      simp only [List.drop_zero, List.drop_succ_cons, Tryd.cells3, Tryd.cells24, Tryd.cells25, List.take_succ_cons, List.take_zero] at h0 h1 h2 h3 h4
      match xs, hlen with
      | [y0, y1, y2, y3, y4], _ =>
        simp only [List.getElem?_cons_zero, List.getElem?_cons_succ] at h0 h1 h2 h3 h4
        obtain ⟨k, hc0, _, hwk⟩ := DataW.trod_int Tryd.underlying3 h0
        obtain ⟨nn, hc1, _, hwf⟩ := DataW.trod_int Tryd.underlying3 h1
        obtain ⟨t, hc2, ht, hts⟩ := tr_of_sz n _ _ h2
        obtain ⟨f, hc4, hfi, hfs⟩ := tr_of_sz n _ _ h3
        simp only [List.cons.injEq, and_true] at hc0 hc1 hc2 hc4
        obtain ⟨rfl, rfl⟩ := hc2
        obtain ⟨rfl, rfl⟩ := hc4
        subst hc0 hc1
        rcases DataW.trod_slice Tryd.underlying25 h4 with ⟨hc6, _⟩ | ⟨a, len, cap, elems, rest, m, rfl, hc6, rfl, _, _, _, hel, hat, _⟩
        · simp only [List.cons.injEq, and_true] at hc6
          subst hc6
          exact ⟨.mk k nn t f none 0 [], rfl, TT.In_mk.2 ⟨ht, hfi, fun j h => absurd h (by simp), fun t h => by cases h⟩, by rw [TT.sz_mk]; simp [Rows.uptoBulk], TT.ok_mk.2 ⟨⟨hwk, hwf, by simp only [List.map_cons, List.map_nil, Rows.uptoBulk, Rows.uptoBulkAll]; omega, by simp only [List.map_cons, List.map_nil, Rows.uptoBulk, Rows.uptoBulkAll]; omega, by simp⟩, fun y h => by cases h⟩⟩
        · simp only [List.cons.injEq, and_true] at hc6
          subst hc6
          have hex : ∀ i, i < len → ∃ t : TT, W.cells? base (a.add (i * 7)) 7 = some [.int .i64 t.k, .int .i64 t.n, .int .i64 t.t.k, .slice t.t.a t.t.l.length t.t.c, .int .i64 t.f.k, .slice t.f.a t.f.l.length t.f.c, .slice t.a t.l.length t.c] ∧ t.In W ∧ ∀ (hi : i < (elems.map fun y : DataW H × List MemPlace => y.1).length), t.sz ≤ Rows.uptoBulk (elems.map fun y : DataW H × List MemPlace => y.1)[i] ∧ t.ok (Rows.uptoBulk (elems.map fun y : DataW H × List MemPlace => y.1)[i]) := by
            intro i hi
            have hi' := hat i hi
            rw [Tryd.cells27, List.getElem?_eq_getElem (by omega)] at hi'
            obtain ⟨cs', hcs, htr⟩ := Option.bind_eq_some_iff.1 hi'
            obtain ⟨t, rfl, hin, hw⟩ := ih m (by omega) cs' _ htr
            exact ⟨t, hcs, hin, fun hi2 => by rw [List.getElem_map]; exact hw⟩
          haveI : Inhabited TT := ⟨tleaf 0 0⟩
          obtain ⟨T, hT⟩ := Go.Deep.choose_lt hex
          refine ⟨.mk k nn t f (some a) cap ((List.range len).map T), by simp, ?_, ?_, ?_⟩
          · refine TT.In_mk.2 ⟨ht, hfi, fun j hj => ?_, fun t ht => ?_⟩
            rotate_left
            · obtain ⟨i, hi, rfl⟩ := List.mem_map.1 ht
              exact (hT i (by simpa using hi)).2.1
            have hj' : j < len := by simpa using hj
            have hz := cells_seven (hT 0 (by omega)).1 0 (by omega)
            simp only [Nat.zero_mul, List.getElem?_cons_zero] at hz
            have ha0 : (a.add 0).add 0 = a := by simp [Addr.add]
            rw [ha0] at hz
            have ha := cell_spot hz
            have hc := cells_seven (hT j hj').1
            have hadd : ∀ q, a.add q = ⟨a.block, a.off + q, none⟩ := by
              intro q
              rw [ha]
              unfold Addr.add
              by_cases hq : q = 0 <;> simp [hq]
            have hat7 : ∀ i, i < 7 → W.cell? ⟨a.block, a.off + j * 7 + i, none⟩ = [Value.int .i64 (T j).k, .int .i64 (T j).n, .int .i64 (T j).t.k, .slice (T j).t.a (T j).t.l.length (T j).t.c, .int .i64 (T j).f.k, .slice (T j).f.a (T j).f.l.length (T j).f.c, .slice (T j).a (T j).l.length (T j).c][i]? := by
              intro i hi
              have := hc i hi
              rw [Go.Deep.add_add, hadd] at this
              rw [show a.off + j * 7 + i = a.off + (j * 7 + i) by omega]
              exact this
            refine ⟨a.block, a.off, by rw [← ha], ?_⟩
            simp only [List.getElem_map, List.getElem_range]
            exact ⟨hat7 0 (by omega), hat7 1 (by omega), hat7 2 (by omega), hat7 3 (by omega), hat7 4 (by omega), hat7 5 (by omega), hat7 6 (by omega)⟩
          · rw [TT.sz_mk, List.map_map]
            have h := sums_le (H := H) (f := TT.sz ∘ T) (elems.map fun y : DataW H × List MemPlace => y.1) len (by simpa using hel) (fun i hi => ((hT i (by simpa [hel] using hi)).2.2 hi).1)
            simp only [List.map_cons, List.map_nil, Rows.uptoBulk, Rows.uptoBulkAll]
            omega
          · have h := sums_le (H := H) (f := TT.sz ∘ T) (elems.map fun y : DataW H × List MemPlace => y.1) len (by simpa using hel) (fun i hi => ((hT i (by simpa [hel] using hi)).2.2 hi).1)
            have hl := len_sum ((List.range len).map T)
            rw [List.map_map] at hl
            refine TT.ok_mk.2 ⟨⟨hwk, hwf, ?_, ?_, ?_⟩, fun y hy => ?_⟩
            · simp only [List.map_cons, List.map_nil, Rows.uptoBulk, Rows.uptoBulkAll]
              omega
            · simp only [List.map_cons, List.map_nil, Rows.uptoBulk, Rows.uptoBulkAll]
              omega
            · simp only [List.map_cons, List.map_nil, Rows.uptoBulk, Rows.uptoBulkAll]
              omega
            · obtain ⟨i, hi, rfl⟩ := List.mem_map.1 hy
              have hi' : i < len := by simpa using hi
              have hi2 : i < (elems.map fun y : DataW H × List MemPlace => y.1).length := by simpa [hel] using hi'
              refine ok_more ((hT i hi').2.2 hi2).2 ?_
              have := bulk_mem (elems.map fun y : DataW H × List MemPlace => y.1) _ (List.getElem_mem hi2)
              simp only [List.map_cons, List.map_nil, Rows.uptoBulk, Rows.uptoBulkAll]
              omega
set_option maxRecDepth 100000 in
/-- An argument of the type is a term's tree. -/
theorem tm_arg_sz {H : Type} {enc : TypeId × Value → H} {W : World} {base b0 : Nat} {spare : Nat → Bool} {held : Bool} {r : Reach} {v : Value} {d : DataW H} {p : List MemPlace} (hv : Value.okWide Tryd.prog W r b0 27 v) (h : DataW.Trod enc Tryd.prog W base spare held 27 v d p) :
    ∃ t : TT, v = .agg #[.int .i64 t.k, .int .i64 t.n, .int .i64 t.t.k, .slice t.t.a t.t.l.length t.t.c, .int .i64 t.f.k, .slice t.f.a t.f.l.length t.f.c, .slice t.a t.l.length t.c] ∧ t.In W ∧ t.sz ≤ Rows.uptoBulk d ∧ t.ok (Rows.uptoBulk d) := by
  obtain ⟨cs, rfl, _⟩ := okWide_struct Tryd.underlying27 hv
  obtain ⟨fuel, hf⟩ := h
  obtain ⟨t, ht, hin⟩ := tm_of_sz fuel _ _ hf
  refine ⟨t, ?_, hin⟩
  have : cs.toList = [.int .i64 t.k, .int .i64 t.n, .int .i64 t.t.k, .slice t.t.a t.t.l.length t.t.c, .int .i64 t.f.k, .slice t.f.a t.f.l.length t.f.c, .slice t.a t.l.length t.c] := by simpa [Value.cells] using ht
  rw [← this]
end Go.Proofs.YtnddkmccagiclaaDoor

/-
  What the row's list of one package-level variable gives: the table of parts holds what it was laid with.
-/
namespace Go.Proofs.YtnddkmccagiclaaDoor
open Go.ChangeShapes Go.RowKit
/-- The head of the list. -/
theorem gp_head {n : String} {d : DataW Unit} {r : List (String × DataW Unit)} {W : World} {g t : Nat} (h : laidMet Tryd.prog ((n, d) :: r) W) (hg : Tryd.prog.globalNamed n = some g) (ht : (Tryd.prog.globals[g]?).map (·.type) = some t) :
    ∃ (cs : Array Value) (fuel : Nat) (p : List MemPlace), Vc W g cs ∧ DataW.trod (fun _ => ()) Tryd.prog W 0 (fun _ => true) false fuel t cs.toList = some (d, p) := by
  obtain ⟨ps, ⟨g', t', cs, fuel, p, q, hg', ht', hvar, hd, _, _⟩, _⟩ := h
  obtain rfl := Option.some.inj (hg.symm.trans hg')
  obtain rfl := Option.some.inj (ht.symm.trans ht')
  refine ⟨cs, fuel, p, ?_, hd⟩
  unfold World.var? at hvar
  rw [hg] at hvar
  simp only [Option.bind_some] at hvar
  split at hvar
  · rename_i cs' t fr hh
    cases hvar
    exact ⟨t, fr, hh⟩
  · cases hvar
theorem gp_cells122 : Tryd.prog.cellsOf 122 = 10 := by kernel_rfl
theorem gp_cells3 : Tryd.prog.cellsOf 3 = 1 := by kernel_rfl
theorem gp_of {r : List (String × DataW Unit)} {W : World} (h : laidMet Tryd.prog (("chaperone/term.parts", Rows.laid_chaperone_term_parts) :: r) W) : Gp W := by
  obtain ⟨cs, fuel, p, hv, ht⟩ := gp_head h (g := 2) (t := 122) (by kernel_rfl) (by kernel_rfl)
  have e := Lib.cells_of_tab (zs := [0, 0, 0, 0, 2, 2, 3, 1, 2, 1]) Tryd.underlying122 Tryd.underlying3 gp_cells3 gp_cells122 ht
  refine ⟨?_⟩
  have e2 : cs = #[.int .i64 0, .int .i64 0, .int .i64 0, .int .i64 0, .int .i64 2, .int .i64 2, .int .i64 3, .int .i64 1, .int .i64 2, .int .i64 1] := by
    cases cs
    simpa using e
  rw [← e2]
  exact hv
end Go.Proofs.YtnddkmccagiclaaDoor
