/-
  What the row's list of package-level variables gives: the tables hold what they were laid with.
-/
import Derived.Test.YtnddkmccagiclabGreatDoorLotfe12dc4cba
import Derived.Test.YtnddkmccagiclabGreatDoorLot4391976b8a
import Derived.Lib.LaidTab
import Derived.Stop.LaidErr
namespace Go.Proofs.YtnddkmccagiclabGreatDoor
open Go.ChangeShapes Go.RowKit
/-- The head of the list. -/
theorem laid_head {n : String} {d : DataW Unit} {r : List (String × DataW Unit)} {W : World} {g t : Nat} (h : laidMet Tryz.prog ((n, d) :: r) W) (hg : Tryz.prog.globalNamed n = some g) (ht : (Tryz.prog.globals[g]?).map (·.type) = some t) :
    ∃ (cs : Array Value) (fuel : Nat) (p : List MemPlace), Vc W g cs ∧ DataW.trod (fun _ => ()) Tryz.prog W 0 (fun _ => true) false fuel t cs.toList = some (d, p) := by
  obtain ⟨ps, ⟨g', t', cs, fuel, p, q, hg', ht', hvar, hd, _, _⟩, _⟩ := h
  obtain rfl := Option.some.inj (hg.symm.trans hg')
  obtain rfl := Option.some.inj (ht.symm.trans ht')
  refine ⟨cs, fuel, p, ?_, hd⟩
  unfold World.var? at hvar
  rw [hg] at hvar
  simp only [Option.bind_some] at hvar
  split at hvar
  · rename_i cs' t fr hh
    cases hvar
    exact ⟨t, fr, hh⟩
  · cases hvar
/-- An array of texts that reads as these texts holds them. -/
theorem cells_of_strs {W : World} {fuel t n : Nat} {cs : List Value} {ss : List (List UInt8)} {p : List MemPlace}
    (ht : Tryz.prog.underlying t = some (.array n 9)) (hct : Tryz.prog.cellsOf t = n)
    (h : DataW.trod (fun _ => ()) Tryz.prog W 0 (fun _ => true) false fuel t cs = some (.agg (ss.map fun s => .lit (.string s)), p)) : cs = ss.map fun s => Value.string ⟨s.toArray⟩ := by
  have hce : Tryz.prog.cellsOf 9 = 1 := by kernel_rfl
  cases fuel with
  | zero => simp [DataW.trod] at h
  | succ fuel =>
    simp only [DataW.trod, ht, hce, hct, Nat.mul_one] at h
    split at h
    · rename_i hl
      obtain ⟨xs, hm, hx⟩ := Option.map_eq_some_iff.1 h
      have hxs : xs.map (·.1) = ss.map fun s => (DataW.lit (.string s) : DataW Unit) := by
        have := congrArg Prod.fst hx
        simpa using this
      have hxl : xs.length = n := by simpa using Lib.mapM_length hm
      have hzl : ss.length = n := by
        have := congrArg List.length hxs
        simp at this
        omega
      apply List.ext_getElem?
      intro i
      by_cases hi : i < n
      · obtain ⟨b, hb, hf⟩ := Lib.mapM_at hm i i (by simp [hi])
        obtain ⟨s, hc, rfl, _⟩ := DataW.trod_string Tryz.underlying9 hf
        have h1 : cs[i]? = some (.string s) := by
          have := congrArg (·[0]?) hc
          simpa [List.getElem?_take, List.getElem?_drop] using this
        have h2 : (xs.map (·.1))[i]? = some (DataW.lit (.string s.data.toList) : DataW Unit) := by simp [hb]
        rw [hxs] at h2
        simp only [List.getElem?_map, Option.map_eq_some_iff, DataW.lit.injEq, Lit.string.injEq] at h2
        obtain ⟨s', hs', e⟩ := h2
        simp only [List.getElem?_map, hs', Option.map_some, h1, e]
      · rw [List.getElem?_eq_none (by omega), List.getElem?_eq_none (by simp; omega)]
    · cases h
theorem cells84 : Tryz.prog.cellsOf 84 = 2 := by kernel_rfl
theorem cells85 : Tryz.prog.cellsOf 180 = 10 := by kernel_rfl
theorem cells122 : Tryz.prog.cellsOf 145 = 10 := by kernel_rfl
theorem cells123 : Tryz.prog.cellsOf 209 = 3 := by kernel_rfl
theorem cells166 : Tryz.prog.cellsOf 265 = 20 := by kernel_rfl
theorem cells3' : Tryz.prog.cellsOf 3 = 1 := by kernel_rfl
theorem cells152 : Tryz.prog.cellsOf 233 = 1 := by kernel_rfl
theorem vc_list {W : World} {g : Nat} {cs : Array Value} {l : List Value} (h : Vc W g cs) (e : cs.toList = l) : Vc W g l.toArray := by
  rw [← e]; exact h
theorem gl_parts {r : List (String × DataW Unit)} {W : World} (h : laidMet Tryz.prog (("chaperone/term.parts", Rows.laid_chaperone_term_parts) :: r) W) :
    Vc W 0 #[.int .i64 0, .int .i64 0, .int .i64 0, .int .i64 0, .int .i64 2, .int .i64 2, .int .i64 3, .int .i64 1, .int .i64 2, .int .i64 1] := by
  obtain ⟨cs, fuel, p, hv, ht⟩ := laid_head h (g := 0) (t := 145) (by kernel_rfl) (by kernel_rfl)
  exact vc_list hv (Lib.cells_of_tab (zs := [0, 0, 0, 0, 2, 2, 3, 1, 2, 1]) Tryz.underlying145 Tryz.underlying3 cells3' cells122 ht)
theorem gl_truth {r : List (String × DataW Unit)} {W : World} (h : laidMet Tryz.prog (("chaperone/term.truthWords", Rows.laid_chaperone_term_truthWords) :: r) W) :
    Vc W 1 #[.string ⟨#[110, 111]⟩, .string ⟨#[121, 101, 115]⟩] := by
  obtain ⟨cs, fuel, p, hv, ht⟩ := laid_head h (g := 1) (t := 84) (by kernel_rfl) (by kernel_rfl)
  exact vc_list hv (cells_of_strs (ss := [[110, 111], [121, 101, 115]]) Tryz.underlying84 cells84 ht)
theorem gl_words {r : List (String × DataW Unit)} {W : World} (h : laidMet Tryz.prog (("chaperone/term.words", Rows.laid_chaperone_term_words) :: r) W) :
    Vc W 2 #[.string ⟨#[]⟩, .string ⟨#[]⟩, .string ⟨#[]⟩, .string ⟨#[]⟩, .string ⟨#[97, 100, 100]⟩, .string ⟨#[108, 101, 115, 115]⟩, .string ⟨#[105, 102]⟩, .string ⟨#[102, 117, 110]⟩, .string ⟨#[99, 97, 108, 108]⟩, .string ⟨#[97, 115]⟩] := by
  obtain ⟨cs, fuel, p, hv, ht⟩ := laid_head h (g := 2) (t := 180) (by kernel_rfl) (by kernel_rfl)
  exact vc_list hv (cells_of_strs (ss := [[], [], [], [], [97, 100, 100], [108, 101, 115, 115], [105, 102], [102, 117, 110], [99, 97, 108, 108], [97, 115]]) Tryz.underlying180 cells85 ht)
theorem gl_types {r : List (String × DataW Unit)} {W : World} (h : laidMet Tryz.prog (("chaperone/term.typeWords", Rows.laid_chaperone_term_typeWords) :: r) W) :
    Vc W 4 #[.string ⟨#[97, 110, 121]⟩, .string ⟨#[110, 117, 109]⟩, .string ⟨#[116, 114, 117, 116, 104]⟩] := by
  obtain ⟨cs, fuel, p, hv, ht⟩ := laid_head h (g := 4) (t := 209) (by kernel_rfl) (by kernel_rfl)
  exact vc_list hv (cells_of_strs (ss := [[97, 110, 121], [110, 117, 109], [116, 114, 117, 116, 104]]) Tryz.underlying209 cells123 ht)
theorem gl_pow {r : List (String × DataW Unit)} {W : World} (h : laidMet Tryz.prog (("internal/strconv.uint64pow10", Rows.laid_internal_strconv_uint64pow10) :: r) W) :
    Vc W 11 (Lib.pow10Tab.map fun z => Value.int .u64 z).toArray := by
  obtain ⟨cs, fuel, p, hv, ht⟩ := laid_head h (g := 11) (t := 265) (by kernel_rfl) (by kernel_rfl)
  exact vc_list hv (Lib.cells_of_tab (zs := Lib.pow10Tab) Tryz.underlying265 Tryz.underlying233 cells152 cells166 ht)
theorem gl_err {n nm : String} {g : Nat} {d : DataW Unit} {r : List (String × DataW Unit)} {W : World} (h : laidMet Tryz.prog ((n, .iface nm d) :: r) W) (hg : Tryz.prog.globalNamed n = some g) (ht : (Tryz.prog.globals[g]?).map (·.type) = some 153) : ∃ te pe, Vc W g #[.iface te pe] := by
  obtain ⟨cs, fuel, p, hv, hd⟩ := laid_head h hg ht
  obtain ⟨_, u, v, hc, _⟩ := iface_of_trod Tryz.underlying153 hd
  exact ⟨u, v, vc_list hv hc⟩
theorem gl_max {W : World} (h : W.ShapedOpen Tryz.prog) : ∃ m, Vc W 6 #[.int .i64 m] := by
  obtain ⟨m, hm⟩ := Tryz.laysM155.s1_3 W h
  have hm' : W.cell? ⟨6, 0, none⟩ = some (.int .i64 m) := hm
  obtain ⟨cs, hh, hs, _⟩ := h.1 6 #[.int .i64 0] 3 (by show 6 < 15; omega) (by kernel_rfl)
  refine ⟨m, ?_⟩
  have hs1 : cs.size = 1 := hs
  have hc : W.cell? ⟨6, 0, none⟩ = cs[0]? := cell_of_row W 6 0 cs _ _ hh
  rw [hc] at hm'
  have e : cs = #[.int .i64 m] := by
    apply Array.ext
    · simpa using hs1
    · intro i h1 h2
      obtain rfl : i = 0 := by omega
      have := Array.getElem?_eq_some_iff.1 hm'
      simpa using this.2
  rw [← e]
  exact ⟨_, _, hh⟩
/-- The tables, at the rows of the laws of the whole. -/
theorem gl_rows {W : World} (h' : laidMet Tryz.prog [("math/bits.deBruijn32tab", Rows.laid_math_bits_deBruijn32tab), ("math/bits.deBruijn64tab", Rows.laid_math_bits_deBruijn64tab), ("internal/strconv.uint64pow10", Rows.laid_internal_strconv_uint64pow10), ("unicode/utf8.acceptRanges", Rows.laid_unicode_utf8_acceptRanges), ("strconv.ErrRange", Rows.laid_strconv_ErrRange), ("strconv.ErrSyntax", Rows.laid_strconv_ErrSyntax), ("chaperone/term.words", Rows.laid_chaperone_term_words), ("chaperone/term.truthWords", Rows.laid_chaperone_term_truthWords), ("chaperone/term.typeWords", Rows.laid_chaperone_term_typeWords), ("chaperone/term.parts", Rows.laid_chaperone_term_parts), ("unicode/utf8.first", Rows.laid_unicode_utf8_first)] W) (hs : W.ShapedOpen Tryz.prog) : Gl W := by
  have h1 := h'.tail.tail
  have h2 := h1.tail.tail
  have h3 := h2.tail
  have h4 := h3.tail
  have h5 := h4.tail
  have h6 := h5.tail
  have h7 := h6.tail
  exact ⟨gl_truth h5, gl_words h4, gl_parts h7, gl_types h6, gl_pow h1, gl_max hs, gl_err h3 (by kernel_rfl) (by kernel_rfl), gl_err h2 (by kernel_rfl) (by kernel_rfl)⟩
end Go.Proofs.YtnddkmccagiclabGreatDoor
