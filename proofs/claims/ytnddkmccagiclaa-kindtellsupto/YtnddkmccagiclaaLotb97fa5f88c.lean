/-
  Whatever can be read as data of the type 'Type{Kind int, L []Type}' is a tree that lies in memory, of no more nodes than the data's bulk.
-/
import Derived.Test.YtnddkmccagiclaaLote3700f629c
import Derived.Test.YtnddkmccagiclaaLota407ef62cb
namespace Go.Proofs.Ytnddkmccagiclaa
open Go.ChangeShapes Go.WideShapes Go.ChangeAt Go.RowKit

theorem sums_le {H : Type} : ∀ {f : Nat → Nat} (l : List (DataW H)) (n : Nat), l.length = n → (∀ i (h : i < l.length), f i ≤ Rows.uptoBulk l[i]) → ((List.range n).map f).sum ≤ Rows.uptoBulkAll l
  | f, [], n, hn, _ => by
    have : n = 0 := by simpa using hn.symm
    subst this
    simp
  | f, d :: r, n, hn, h => by
    obtain ⟨m, rfl⟩ : ∃ m, n = m + 1 := ⟨r.length, by simpa using hn.symm⟩
    have h0 := h 0 (by simp)
    have h1 := sums_le (f := f ∘ Nat.succ) r m (by simpa using hn) fun i hi => h (i + 1) (by simpa using hi)
    rw [List.range_succ_eq_map, List.map_cons, List.map_map, List.sum_cons]
    simp only [List.getElem_cons_zero] at h0
    simp only [Rows.uptoBulkAll]
    omega

theorem tr_of_sz {H : Type} {enc : TypeId × Value → H} {W : World} {base : Nat} {spare : Nat → Bool} {held : Bool} : ∀ (fuel : Nat) (cs : List Value) (x : DataW H × List MemPlace),
    DataW.trod enc Try.prog W base spare held fuel 24 cs = some x → ∃ t : Tr, cs = [.int .i64 t.k, .slice t.a t.l.length t.c] ∧ t.In W ∧ t.sz ≤ Rows.uptoBulk x.1 := by
  intro fuel
  induction fuel using Nat.strongRecOn with
  | _ fuel ih =>
    intro cs x h
    obtain ⟨xs, n, rfl, rfl, hl, hlen, hf⟩ := DataW.trod_struct Try.underlying24 h
    rw [Try.cells24] at hl
    match cs, hl with
    | [c0, c1], _ =>
      have h0 := hf 0 { name := "Kind", type := 3, offset := 0, embedded := false, tag := "", pkgPath := "", byteOffset := 0 } rfl
      have h1 := hf 1 { name := "L", type := 22, offset := 1, embedded := false, tag := "", pkgPath := "", byteOffset := 8 } rfl
      simp only [List.drop_zero, List.drop_succ_cons, Try.cells3, Try.cells22, List.take_succ_cons, List.take_zero] at h0 h1
      match xs, hlen with
      | [y0, y1], _ =>
        simp only [List.getElem?_cons_zero, List.getElem?_cons_succ] at h0 h1
        obtain ⟨k, hc0, _, _⟩ := DataW.trod_int Try.underlying3 h0
        simp only [List.cons.injEq, and_true] at hc0
        subst hc0
        rcases DataW.trod_slice Try.underlying22 h1 with ⟨hc1, _⟩ | ⟨a, len, cap, elems, rest, m, rfl, hc1, rfl, _, _, _, hel, hat, _⟩
        · simp only [List.cons.injEq, and_true] at hc1
          subst hc1
          refine ⟨.mk k none 0 [], rfl, Tr.In_nil _ _ _ _, ?_⟩
          rw [Tr.sz_mk]
          simp [Rows.uptoBulk]
        · simp only [List.cons.injEq, and_true] at hc1
          subst hc1
          have hex : ∀ i, i < len → ∃ t : Tr, W.cells? base (a.add (i * 2)) 2 = some [.int .i64 t.k, .slice t.a t.l.length t.c] ∧ t.In W ∧ ∀ (hi : i < (elems.map fun y : DataW H × List MemPlace => y.1).length), t.sz ≤ Rows.uptoBulk (elems.map fun y : DataW H × List MemPlace => y.1)[i] := by
            intro i hi
            have hi' := hat i hi
            rw [Try.cells24, List.getElem?_eq_getElem (by omega)] at hi'
            obtain ⟨cs', hcs, htr⟩ := Option.bind_eq_some_iff.1 hi'
            obtain ⟨t, rfl, hin, hsz⟩ := ih m (by omega) cs' _ htr
            exact ⟨t, hcs, hin, fun _ => by rw [List.getElem_map]; exact hsz⟩
          haveI : Inhabited Tr := ⟨.mk 0 none 0 []⟩
          obtain ⟨T, hT⟩ := Go.Deep.choose_lt hex
          refine ⟨.mk k (some a) cap ((List.range len).map T), by simp, ?_, ?_⟩
          rotate_left
          · rw [Tr.sz_mk, List.map_map]
            have h := sums_le (H := H) (f := Tr.sz ∘ T) (elems.map fun y : DataW H × List MemPlace => y.1) len (by simpa using hel) (fun i hi => (hT i (by simpa [hel] using hi)).2.2 hi)
            simp only [List.map_cons, List.map_nil, Rows.uptoBulk, Rows.uptoBulkAll]
            omega
          refine Tr.In_mk.2 ⟨fun j hj => ?_, fun t ht => ?_⟩
          rotate_left
          · obtain ⟨i, hi, rfl⟩ := List.mem_map.1 ht
            exact (hT i (by simpa using hi)).2.1
          have hj' : j < len := by simpa using hj
          obtain ⟨hz, _⟩ := cells2 (hT 0 (by omega)).1
          simp only [Nat.zero_mul] at hz
          have ha0 : a.add 0 = a := by simp [Addr.add]
          rw [ha0] at hz
          have ha := cell_spot hz
          have hc := (hT j hj').1
          obtain ⟨c0, c1⟩ := cells2 hc
          have hadd : ∀ q, a.add q = ⟨a.block, a.off + q, none⟩ := by
            intro q
            rw [ha]
            unfold Addr.add
            by_cases hq : q = 0 <;> simp [hq]
          refine ⟨a.block, a.off, by rw [← ha], ?_, ?_⟩
          · rw [hadd] at c0
            simpa using c0
          · rw [Go.Deep.add_add, hadd] at c1
            simp only [List.getElem_map, List.getElem_range, Tr.sl]
            rw [show a.off + j * 2 + 1 = a.off + (j * 2 + 1) by omega]
            exact c1

/-- An argument of the type is a tree. -/
theorem tr_arg_sz {H : Type} {enc : TypeId × Value → H} {W : World} {base b0 : Nat} {spare : Nat → Bool} {held : Bool} {r : Reach} {v : Value} {d : DataW H} {p : List MemPlace} (hv : Value.okWide Try.prog W r b0 24 v) (h : DataW.Trod enc Try.prog W base spare held 24 v d p) :
    ∃ t : Tr, v = .agg #[.int .i64 t.k, .slice t.a t.l.length t.c] ∧ t.In W ∧ t.sz ≤ Rows.uptoBulk d := by
  obtain ⟨cs, rfl, _⟩ := okWide_struct Try.underlying24 hv
  obtain ⟨fuel, hf⟩ := h
  obtain ⟨t, ht, hin, hsz⟩ := tr_of_sz fuel _ _ hf
  refine ⟨t, ?_, hin, hsz⟩
  have : cs.toList = [.int .i64 t.k, .slice t.a t.l.length t.c] := by simpa [Value.cells] using ht
  rw [← this]
end Go.Proofs.Ytnddkmccagiclaa
