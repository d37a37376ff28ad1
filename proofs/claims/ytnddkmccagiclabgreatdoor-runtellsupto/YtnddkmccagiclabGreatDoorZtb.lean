import Derived.WalkKit
import Derived.Deep.RegionHeld3
set_option maxRecDepth 20000
set_option maxHeartbeats 16000000
open Go.RowKit
open Bool renaming and_eq_true→A,true→H
open Go.Region renaming noSelect→B,wanted→C,ready→D,free→G
open Go renaming wpAnyH→E,wpAnyH_take→F
namespace Go.Proofs.YtnddkmccagiclabGreatDoor
variable {P:Program}{md:Region.Mode}{ops:Array Oper}{Q:Exit->Act->World->Prop}{S:World->Prop}{o:Oper}{fuel:Nat}{listed:Array Bool}{a:Act}{w:World}
theorem tk(i:Nat){v:Value}(e:ops.toList[i]?=some o)
  (b:(B ops&&G md ops listed i&&(D md ops listed).contains i)=H)
  (g:∀c a w,Q (.panic c) (a.put o.dst v) w->Q (.panic c) a w) (d:C o (yielded ops a.tmps)=H) (hS:S w) (j:∀w,S w->(execOp a.eval o).run P w=.ok (.value v) w)
  (h:E P md ops Q S fuel (listed.setIfInBounds i H) (a.put o.dst v) w):E P md ops Q S (fuel+1) listed a w:=by
 simp only[A] at b;exact F (i:=i) (oi:=o) (by simpa using e) b.1.1 b.1.2 b.2 g (.inl ⟨d,j⟩) hS h
theorem tu(i:Nat)(e:ops.toList[i]?=some o)
  (b:(B ops&&G md ops listed i&&(D md ops listed).contains i&&!C o (yielded ops a.tmps))=H)
  (d:∀c a w,Q (.panic c) (a.put o.dst undef) w->Q (.panic c) a w) (hS:S w)
  (h:E P md ops Q S fuel (listed.setIfInBounds i H) (a.put o.dst undef) w):E P md ops Q S (fuel+1) listed a w:=by
 simp only[A,Bool.not_eq_true'] at b;exact F (i:=i) (oi:=o) (by simpa using e) b.1.1.1 b.1.1.2 b.1.2 d (.inr ⟨b.2,rfl⟩) hS h
theorem qk(i:Nat){v:Value}(e:ops.toList[i]?=some o)
  (b:(B ops&&G md ops listed i&&(D md ops listed).contains i)=H)
  (g:∀c a w,Q (.panic c) (a.put o.dst v) w->Q (.panic c) a w) (d:C o (yielded ops a.tmps)=H) (hS:S w) (j:∀w,S w->(execOp a.eval o).run P w=.ok (.value v) w)
  (h:E P md ops Q S fuel (listed.setIfInBounds i H) (a.put o.dst v) w):E P md ops Q S (fuel+1) listed a w:=by
 simp only[A] at b;exact F (i:=i) (oi:=o) (by simpa using e) b.1.1 b.1.2 b.2 g (.inl ⟨d,j⟩) hS h
theorem qu(i:Nat)(e:ops.toList[i]?=some o)
  (b:(B ops&&G md ops listed i&&(D md ops listed).contains i&&!C o (yielded ops a.tmps))=H)
  (d:∀c a w,Q (.panic c) (a.put o.dst undef) w->Q (.panic c) a w) (hS:S w)
  (h:E P md ops Q S fuel (listed.setIfInBounds i H) (a.put o.dst undef) w):E P md ops Q S (fuel+1) listed a w:=by
 simp only[A,Bool.not_eq_true'] at b;exact F (i:=i) (oi:=o) (by simpa using e) b.1.1.1 b.1.1.2 b.1.2 d (.inr ⟨b.2,rfl⟩) hS h
end Go.Proofs.YtnddkmccagiclabGreatDoor
