/-
  What is called by chaperonelaw.KindTells, told of one world from which on nothing has turned.
-/
import Derived.Test.YtaaplpcpifdnfaaRefCopy
import Derived.Test.YtaaplpcpifdnfaaTypesLaw
import Derived.Test.YtaaplpcpifdnfaaGenHoldsSame
import Derived.Test.YtaaplpcpifdnfaaGenHoldsFits
import Derived.Test.YtaaplpcpifdnfaaGenHoldsFiner
import Derived.Test.YtaaplpcpifdnfaaGenJoinTop
import Derived.Test.YtaaplpcpifdnfaaRefFiner
import Derived.Test.YtaaplpcpifdnfaaRefFits
import Derived.Test.YtaaplpcpifdnfaaLaws
import Derived.Deep.DeepCutAuto
namespace Go.Proofs.Ytaaplpcpifdnfaa
open Go.RowKit

theorem le_sums : ∀ (l : List Nat), l.foldr max 0 ≤ l.sum
  | [] => Nat.le_refl _
  | x :: r => by
    have := le_sums r
    simp only [List.foldr_cons, List.sum_cons]; omega

theorem maxes_mono {f g : Tr → Nat} : ∀ (l : List Tr), (∀ t, t ∈ l → f t ≤ g t) → (l.map f).foldr max 0 ≤ (l.map g).foldr max 0
  | [], _ => Nat.le_refl _
  | x :: r, h => by
    have h1 := maxes_mono r (fun t ht => h t (List.mem_cons_of_mem _ ht))
    have h2 := h x List.mem_cons_self
    simp only [List.map_cons, List.foldr_cons]; omega

theorem Tr.hgt_sz (t : Tr) : t.hgt ≤ t.sz := by
  induction t using Tr.ind with
  | h k a c l ih =>
    rw [Tr.hgt_mk, Tr.sz_mk]
    have h1 := maxes_mono (f := Tr.hgt) (g := Tr.sz) l ih
    have h2 := le_sums (l.map Tr.sz)
    omega

theorem sz_mem : ∀ (l : List Tr) (t : Tr), t ∈ l → t.sz ≤ (l.map Tr.sz).sum
  | [], t, h => by cases h
  | x :: r, t, h => by
    rcases List.mem_cons.1 h with rfl | h
    · simp only [List.map_cons, List.sum_cons]; omega
    · have := sz_mem r t h
      simp only [List.map_cons, List.sum_cons]; omega

theorem Tr.sm_sz (t : Tr) : t.sz ≤ 140737488355328 → t.sm := by
  induction t using Tr.ind with
  | h k a c l ih =>
    intro h
    rw [Tr.sz_mk] at h
    have := len_sz l
    exact Tr.sm_mk.2 ⟨by omega, fun t ht => ih t ht (by have := sz_mem l t ht; omega)⟩

theorem topR_right {k : Int} {m : Nat} (h : topR k m = true) : (m = 0 ∧ (k = 0 ∨ k = 1 ∨ k = 2)) ∨ (m = 2 ∧ k = 3) := by
  simp only [topR, Bool.or_eq_true, Bool.and_eq_true, decide_eq_true_eq, beq_iff_eq] at h
  omega

theorem right_of (t : Tr) : rightY t.ty = true → t.right := by
  induction t using Tr.ind with
  | h k a c l ih =>
    intro h
    rw [right_ty, Bool.and_eq_true] at h
    have h1 := topR_right h.1
    refine Tr.right_mk.2 ⟨?_, fun t ht => ih t ht (List.all_eq_true.1 h.2 t ht)⟩
    dsimp only at h1
    rcases h1 with ⟨e, hk⟩ | ⟨e, hk⟩
    · exact .inl ⟨List.length_eq_zero_iff.1 e, hk⟩
    · exact .inr ⟨e, hk⟩

/-- It answers so, and what lay in W0 lies there still. -/
def Ans (W0 : World) (r : Bool) (e : Ending) (w' : World) : Prop := e = .returned (.bool r) ∧ Below W0.heap.size W0 w'
/-- It answers a tree of that type, and what lay in W0 lies there still. -/
def Tre (W0 : World) (T : Ty) (e : Ending) (w' : World) : Prop := ∃ c : Tr, e = .returned (.agg #[.int .i64 c.k, .slice c.a c.l.length c.c]) ∧ c.ty = T ∧ c.In w' ∧ Below W0.heap.size W0 w'

theorem Ans.of {P : Program} {f : FuncId} {args : Array Value} {W0 W : World} {r : Bool} (h : Calls P f args W fun e w' => e = .returned (.bool r) ∧ Below W.heap.size W w') (hb : Below W0.heap.size W0 W) : Calls P f args W (Ans W0 r) :=
  h.mono fun _ _ ⟨he, hb'⟩ => ⟨he, hb.trans (hb'.mono hb.size)⟩

theorem Tre.of {P : Program} {f : FuncId} {args : Array Value} {W0 W : World} {T : Ty} (h : Calls P f args W (Made T W)) (hb : Below W0.heap.size W0 W) : Calls P f args W (Tre W0 T) :=
  h.mono fun _ _ ⟨c, he, ht, hin, _, hb'⟩ => ⟨c, he, ht, hin, hb.trans (hb'.mono hb.size)⟩
end Go.Proofs.Ytaaplpcpifdnfaa
