import Derived.WalkKit
import Derived.WalkSpells
import Derived.Test.YtnddkmccagiclabGreatDoorRows
import Derived.Deep.LoopGhost
import Derived.Deep.AppendLies
import Derived.Deep.AppendSrc
import Derived.Deep.RegionLaw
import Derived.WalkSmall
import Derived.Deep.RegionHeld3
import Derived.ProofKit
import Derived.Deep.Slices
import Derived.Lib.SpaceUEq
import Derived.Lib.FieldsP
import Derived.Lib.Replace
import Derived.Lib.MapLaws
import Derived.Lib.AtoiTie
import Derived.Lib.ItoaNum
import Derived.Lib.ItoaLen
import Derived.Shelf.Strings.Builder1
import Derived.Shelf.Strings.Builder2
import Derived.Shelf.Small.Utf8
import Derived.Shelf.Small.Strs
import Derived.Shelf.Small.Wraps
import Derived.Shelf.Utf8.RuneCount
import Derived.Shelf.Strconv.Atoi
import Derived.Shelf.Strconv.Itoa0
import Derived.Shelf.Strconv.Itoa1
import Derived.Shelf.LaysM
import Derived.Shelf.Strconv.Itoa2
import Derived.Shelf.Strconv.Itoa3
import Derived.Shelf.Strconv.AtoiErrFast
import Derived.Shelf.Strconv.ParseIntEmpty
import Derived.Shelf.Strconv.AtoiFail
import Derived.Shelf.Strconv.Clone
import Derived.Shelf.Strconv.SyntaxError
import Derived.Shelf.LaysC
import Derived.Shelf.Strconv.ToError
import Derived.Shelf.Strconv.Lower
import Derived.Shelf.Strconv.ParseUint10
import Derived.Shelf.Strconv.ParseUint10Empty
import Derived.Shelf.Strconv.ParseUint10Any
import Derived.Shelf.Strconv.ParseInt10
import Derived.Shelf.Strconv.AtoiLong
import Derived.Shelf.Strconv.AtoiInnerAll
import Derived.Shelf.Strconv.RangeError
import Derived.Shelf.Strconv.ToErrorRange
import Derived.Shelf.Strconv.AtoiAll
import Derived.Shelf.Strconv.ErrVarAll
import Derived.Shelf.Strings.Search1
import Derived.Shelf.Strings.Search2
import Derived.Shelf.Strings.Search3
import Derived.Shelf.Strings.Count
import Derived.Shelf.Strings.Shaped
import Derived.Shelf.Strings.Prefix
import Derived.Shelf.Strings.Split
import Derived.Shelf.Strings.Fields
import Derived.Shelf.Strings.Replace
import Derived.Shelf.Strings.SplitShaped
import Derived.Shelf.Unicode.Latin
import Derived.Shelf.Unicode.Decode
import Derived.Shelf.Strings.Runes
import Derived.Shelf.Strings.RuneCount
import Derived.Shelf.Strings.IndexAny
import Derived.Shelf.Strings.AsciiSet
import Derived.Shelf.Strings.IndexAnyAll
import Derived.Shelf.Unicode.DecodeSlow
import Derived.Shelf.Unicode.DecodeAny
import Derived.Shelf.Unicode.Is16White
import Derived.Shelf.Unicode.IsSpaceAny
import Derived.Shelf.Unicode.DecodeLast
import Derived.Shelf.Strings.FieldsFuncAny
import Derived.Shelf.Unicode.Is16Any
import Derived.Shelf.Unicode.Is32Any
import Derived.Shelf.Unicode.ExclAny
import Derived.Shelf.Strings.FieldsFuncGrows
import Derived.Test.YtnddkmccagiclabGreatDoorProg
set_option maxRecDepth 20000
set_option maxHeartbeats 16000000
open Go.RowKit Go.Proofs.Tryz
open Go.Value renaming slice→C,int→L,pointer→R,agg→Zf,ownBlock→ZS
open Option renaming none→F,some→G
open Bool renaming false→H,true→U,or_eq_false_iff→Zn,and_eq_true→Zp
open Go.Proofs.Tryz renaming prog→I,underlying3→Zd,underlying4→Zh,underlying9→Zi,zeroValue3→Zk,zeroValue4→Zl,zeroValue9→Zm,underlying0→Zr,underlying5→Zs,ntmps159→Zt,zeroValue0→Zv,zeroValue5→Zw,underlying174→Zx,underlying218→Zy,underlying219→Zz,func159→ZA,sizeOf3→ZB,sizeOf4→ZC,sizeOf9→ZD,underlying20→ZE,zeroValue174→ZF,zeroValue218→ZG,zeroValue219→ZH,underlying21→ZI,isAgg3→ZK,isAgg4→ZL,isAgg9→ZM,zeroValue20→ZN,zeroValue21→ZO,sizeOf0→ZP,sizeOf5→ZQ,sizeOf174→ZT,sizeOf218→ZU,sizeOf219→ZV,underlying153→ZW,underlying154→ZX,underlying208→ZY,isAgg0→ZZ,isAgg5→Z0,sizeOf20→Z1,isAgg174→Z2,isAgg218→Z3,isAgg219→Z4,sizeOf21→Z5,zeroValue153→Z6,zeroValue154→Z7,zeroValue208→Z8,isAgg20→Yb,isAgg21→Yc,sizeOf153→Yf,sizeOf154→Yg,sizeOf208→Yh
open List renaming mem_cons→J,map_cons→Z,sum_cons→Za,getD_eq_getElem?_getD→Zg,cons_append→Zq,nil_append→Zu,getElem?_eq_getElem→Z9,getElem_mem→Ya,getElem_cons_zero→Yd,foldr_cons→Ye
open Go.IntKind renaming i64→M
open Go renaming cell_later→O,World→V,Calls→Zb,Addr→Zo,Value→ZJ
open Go.Ending renaming returned→S
open Nat renaming le_refl→T
open Go.RowKit.Below renaming refl→Y
open Go.World renaming block_lt_of_cell?→Zc
open Go.RowKit renaming Below→Ze
open Go.Obj renaming cells→Zj
open Array renaming length_toList→ZR
namespace Go.Proofs.YtnddkmccagiclabGreatDoor
variable {A0 A1 A2 A3 A4 A5 A6 A7 A8:Prop}{a:Option Zo}{c fuel j:Nat}{w:V}{k:Int}{q:List Bool}
abbrev hz(w:V):Nat:=w.heap.size
abbrev cL(W:V)(b i:Nat)(v:ZJ):Prop:=W.cell? ⟨b,i,F⟩=G v
abbrev bL(w W:V):Prop:=Ze w.heap.size w W
theorem Yx(a0:A0):Hid (A0):=a0
theorem Un(a0:A0)(a1:A1):Hid (A0/\A1):=⟨a0,a1⟩
theorem KS(a0:A0)(a1:A1)(a2:A2):Hid (A0/\A1/\A2):=⟨a0,a1,a2⟩
theorem Nm(a0:A0)(a1:A1)(a2:A2)(a3:A3):Hid (A0/\A1/\A2/\A3):=⟨a0,a1,a2,a3⟩
theorem Sl(a0:A0)(a1:A1)(a2:A2)(a3:A3)(a4:A4):Hid (A0/\A1/\A2/\A3/\A4):=⟨a0,a1,a2,a3,a4⟩
theorem BV(a0:A0)(a1:A1)(a2:A2)(a3:A3)(a4:A4)(a5:A5):Hid (A0/\A1/\A2/\A3/\A4/\A5):=⟨a0,a1,a2,a3,a4,a5⟩
theorem Dv(a0:A0)(a1:A1)(a2:A2)(a3:A3)(a4:A4)(a5:A5)(a6:A6):Hid (A0/\A1/\A2/\A3/\A4/\A5/\A6):=⟨a0,a1,a2,a3,a4,a5,a6⟩
theorem Dy(a0:A0)(a1:A1)(a2:A2)(a3:A3)(a4:A4)(a5:A5)(a6:A6)(a7:A7):Hid (A0/\A1/\A2/\A3/\A4/\A5/\A6/\A7):=⟨a0,a1,a2,a3,a4,a5,a6,a7⟩
theorem Dx(a0:A0)(a1:A1)(a2:A2)(a3:A3)(a4:A4)(a5:A5)(a6:A6)(a7:A7)(a8:A8):Hid (A0/\A1/\A2/\A3/\A4/\A5/\A6/\A7/\A8):=⟨a0,a1,a2,a3,a4,a5,a6,a7,a8⟩
theorem Du{A9:Prop}(a0:A0)(a1:A1)(a2:A2)(a3:A3)(a4:A4)(a5:A5)(a6:A6)(a7:A7)(a8:A8)(a9:A9):Hid (A0/\A1/\A2/\A3/\A4/\A5/\A6/\A7/\A8/\A9):=⟨a0,a1,a2,a3,a4,a5,a6,a7,a8,a9⟩
theorem Dd{A9 A10 A11:Prop}(a0:A0)(a1:A1)(a2:A2)(a3:A3)(a4:A4)(a5:A5)(a6:A6)(a7:A7)(a8:A8)(a9:A9)(a10:A10)(a11:A11):Hid (A0/\A1/\A2/\A3/\A4/\A5/\A6/\A7/\A8/\A9/\A10/\A11):=⟨a0,a1,a2,a3,a4,a5,a6,a7,a8,a9,a10,a11⟩
theorem fk{α:Type}{a:Option α}{b c:α}(h:a=G b)(e:b=c):a=G c:=h.trans (congrArg G e)
structure Tr where
 k:Int
 a:Option Zo
 c:Nat
 l:List Tr
theorem Tr.ind{P:Tr->Prop}(h:∀k a c l,(∀t,t∈l->P t)->P ⟨k,a,c,l⟩):∀t,P t
 |⟨k,a,c,l⟩=>h k a c l fun t _=>Tr.ind h t
def Tr.sl(t:Tr):ZJ:=C t.a t.l.length t.c
def Tr.In(w:V):Tr->Prop
 |⟨_,a,_,l⟩=>(∀j(h:j<l.length),∃b o,a=G ⟨b,o,F⟩/\w.cell? ⟨b,o+j*2,F⟩=G (L M l[j].k)/\w.cell? ⟨b,o+j*2+1,F⟩=G l[j].sl)/\∀t,t∈l->t.In w
theorem Tr.In_mk{l:List Tr}:(Tr.mk k a c l).In w↔(∀j(h:j<l.length),∃b o,a=G ⟨b,o,F⟩/\w.cell? ⟨b,o+j*2,F⟩=G (L M l[j].k)/\w.cell? ⟨b,o+j*2+1,F⟩=G l[j].sl)/\∀t,t∈l->t.In w:=by rw[Tr.In]
theorem Tr.In_nil(w:V)(k:Int)(a:Option Zo)(c:Nat):(Tr.mk k a c []).In w:=Tr.In_mk.2 ⟨fun j h=>absurd h (by simp),fun t h=>absurd h (by simp)⟩
theorem Tr.In_two{b o:Nat}{x y:Tr}(c0:w.cell? ⟨b,o,F⟩=G (L M x.k))(c1:w.cell? ⟨b,o+1,F⟩=G (C x.a x.l.length x.c))(c2:w.cell? ⟨b,o+2,F⟩=G (L M y.k))(c3:w.cell? ⟨b,o+3,F⟩=G (C y.a y.l.length y.c))(hx:x.In w)(hy:y.In w):
  (Tr.mk k (G ⟨b,o,F⟩) c [x,y]).In w:=by
 refine Tr.In_mk.2 ⟨fun j h=>?_,fun t h=>?_⟩
 .match j,h with
  |0,_=>exact⟨b,o,rfl,by simpa using c0,by simpa[Tr.sl] using c1⟩
  |1,_=>exact⟨b,o,rfl,by simpa using c2,by simpa[Tr.sl] using c3⟩
 .rcases J.1 h with rfl|h
  .exact hx
  .rcases J.1 h with rfl|h
   .exact hy
   .cases h
theorem Tr.In.part{t:Tr}(h:t.In w)(j:Nat)(d:j<t.l.length):∃b o,t.a=G ⟨b,o,F⟩/\w.cell? ⟨b,o+j*2,F⟩=G (L M t.l[j].k)/\w.cell? ⟨b,o+j*2+1,F⟩=G (C t.l[j].a t.l[j].l.length t.l[j].c)/\t.l[j].In w:=by obtain⟨k,a,c,l⟩:=t;obtain⟨i,hi⟩:=Tr.In_mk.1 h;obtain⟨b,o,e,g,p⟩:=i j d;exact⟨b,o,e,g,p,hi _ (Ya d)⟩
theorem Tr.In.at{l:List Tr}(h:(Tr.mk k a c l).In w)(j:Nat)(hj:j<l.length):∃b o,a=G ⟨b,o,F⟩/\w.cell? ⟨b,o+j*2,F⟩=G (L M l[j].k)/\w.cell? ⟨b,o+j*2+1,F⟩=G (C l[j].a l[j].l.length l[j].c)/\l[j].In w:=Tr.In.part h j hj
theorem Tr.In.below{w w':V}(hb:Ze w.heap.size w w'){t:Tr}:t.In w->t.In w':=by
 induction t using Tr.ind with
 |h k a c l ih=>intro h;obtain⟨p,hi⟩:=Tr.In_mk.1 h;refine Tr.In_mk.2 ⟨fun j g=>?_,fun t d=>ih t d (hi t d)⟩;obtain⟨b,o,e,i,q⟩:=p j g;exact⟨b,o,e,O hb i,O hb q⟩
def Tr.Bl(P:Nat->Prop):Tr->Prop
 |⟨_,a,_,l⟩=>(l≠[]->∀x,a=G x->P x.block)/\∀t,t∈l->t.Bl P
theorem Tr.Bl_mk{P:Nat->Prop}{l:List Tr}:(Tr.mk k a c l).Bl P↔(l≠[]->∀x,a=G x->P x.block)/\∀t,t∈l->t.Bl P:=by rw[Tr.Bl]
theorem Tr.Bl_nil(P:Nat->Prop)(k:Int)(a:Option Zo)(c:Nat):(Tr.mk k a c []).Bl P:=Tr.Bl_mk.2 ⟨fun h=>absurd rfl h,fun t h=>absurd h (by simp)⟩
theorem Tr.Bl_two{P:Nat->Prop}{b o:Nat}{x y:Tr}(h:P b)(d:x.Bl P)(e:y.Bl P):(Tr.mk k (G ⟨b,o,F⟩) c [x,y]).Bl P:=by
 refine Tr.Bl_mk.2 ⟨fun _ x d=>by cases d;exact h,fun t a=>?_⟩;rcases J.1 a with rfl|a
 .exact d
 .rcases J.1 a with rfl|a
  .exact e
  .cases a
theorem Tr.Bl.mono{P Q:Nat->Prop}(hPQ:∀b,P b->Q b){t:Tr}:t.Bl P->t.Bl Q:=by
 induction t using Tr.ind with
 |h k a c l ih=>intro h;obtain⟨e,i⟩:=Tr.Bl_mk.1 h;exact Tr.Bl_mk.2 ⟨fun g x j=>hPQ _ (e g x j),fun t d=>ih t d (i t d)⟩
theorem Tr.Bl.and{P Q:Nat->Prop}{t:Tr}:t.Bl P->t.Bl Q->t.Bl (fun b=>P b/\Q b):=by
 induction t using Tr.ind with
 |h k a c l ih=>intro h g;obtain⟨q,p⟩:=Tr.Bl_mk.1 h;obtain⟨o,j⟩:=Tr.Bl_mk.1 g;exact Tr.Bl_mk.2 ⟨fun e x i=>⟨q e x i,o e x i⟩,fun t d=>ih t d (p t d) (j t d)⟩
theorem Tr.In.bl{w:V}{t:Tr}:t.In w->t.Bl (·<w.heap.size):=by
 induction t using Tr.ind with
 |h k a c l ih=>intro h;obtain⟨p,hi⟩:=Tr.In_mk.1 h;refine Tr.Bl_mk.2 ⟨fun i x g=>?_,fun t d=>ih t d (hi t d)⟩;obtain⟨b,o,e,j,_⟩:=p 0 (List.length_pos_iff.2 i);rw[e] at g;have:=Option.some.inj g;subst this;exact Zc _ _ j
theorem Tr.In.congr{w w':V}{P:Nat->Prop}(hP:∀b,P b->∀o,w'.cell? ⟨b,o,F⟩=w.cell? ⟨b,o,F⟩){t:Tr}:t.Bl P->t.In w->t.In w':=by
 induction t using Tr.ind with
 |h k a c l ih=>intro u h;obtain⟨x,hi⟩:=Tr.In_mk.1 h;obtain⟨p,r⟩:=Tr.Bl_mk.1 u;refine Tr.In_mk.2 ⟨fun j d=>?_,fun t g=>ih t g (r t g) (hi t g)⟩;obtain⟨b,o,e,q,y⟩:=x j d;have i:P b:=p (fun e=>by rw[e] at d;simp at d) _ e;exact⟨b,o,e,by rw[hP b i];exact q,by rw[hP b i];exact y⟩
def Yz:Nat->Tr->Bool
 |0,_=>H
 |n+1,⟨k,_,_,l⟩=>match l with
  |[]=>k==0 || k==1 || k==2
  |[x,y]=>k==3&&Yz n x&&Yz n y
  |_=>H
abbrev Tr.s(t:Tr):ZJ:=C t.a t.l.length t.c
abbrev Tr.v(t:Tr):Array ZJ:=#[L M t.k,C t.a t.l.length t.c]
structure Ty where
 k:Int
 l:List Ty
theorem Ty.ind{P:Ty->Prop}(h:∀k l,(∀t,t∈l->P t)->P ⟨k,l⟩):∀t,P t
 |⟨k,l⟩=>h k l fun t _=>Ty.ind h t
def Tr.ty:Tr->Ty
 |⟨k,_,_,l⟩=>⟨k,l.map fun t=>t.ty⟩
theorem Tr.ty_mk(k:Int)(a:Option Zo)(c:Nat)(l:List Tr):(Tr.mk k a c l).ty=⟨k,l.map Tr.ty⟩:=by rw[Tr.ty]
theorem Tr.ty_k(t:Tr):t.ty.k=t.k:=by cases t;rw[Tr.ty_mk]
theorem Tr.ty_l(t:Tr):t.ty.l=t.l.map Tr.ty:=by cases t;rw[Tr.ty_mk]
def Ym:Nat->Ty->Bool
 |0,_=>H
 |n+1,⟨k,l⟩=>match l with
  |[]=>k==0 || k==1 || k==2
  |[x,y]=>k==3&&Ym n x&&Ym n y
  |_=>H
theorem YM:∀(n:Nat)(t:Tr),Yz n t=Ym n t.ty
 |0,t=>by simp[Yz,Ym]
 |n+1,⟨k,a,c,l⟩=>by
  match l with
  |[]=>simp[Yz,Ym,Tr.ty_mk]
  |[x]=>simp[Yz,Ym,Tr.ty_mk]
  |[x,y]=>simp[Yz,Ym,Tr.ty_mk,YM n]
  |x::y::z::r=>simp[Yz,Ym,Tr.ty_mk]
def TJ{α β:Type}:(l:List α)->List β->((x:α)->x∈l->β->Bool)->Bool
 |[],[],_=>U
 |x::r,y::s,f=>f x List.mem_cons_self y&&TJ r s (fun z h y=>f z (List.mem_cons_of_mem _ h) y)
 |_,_,_=>H
def YC(esc:Int->Int->Bool):Ty->Ty->Bool
 |⟨k,l⟩,⟨k',l'⟩=>esc k k' || (k==k'&&TJ l l' fun x _ y=>YC esc x y)
def Uf(esc:Int->Int->Bool):List Ty->List Ty->Bool
 |[],[]=>U
 |x::r,y::s=>YC esc x y&&Uf esc r s
 |_,_=>H
theorem Sg(esc:Int->Int->Bool):∀l l':List Ty,(TJ l l' fun x _ y=>YC esc x y)=Uf esc l l'
 |[],[]=>by simp[TJ,Uf]
 |x::r,y::s=>by simp[TJ,Uf,Sg esc r s]
 |[],_::_=>by simp[TJ,Uf]
 |_::_,[]=>by simp[TJ,Uf]
theorem YV(a:Int->Int->Bool)(k b:Int)(l l':List Ty):YC a ⟨k,l⟩ ⟨b,l'⟩=(a k b || (k==b&&Uf a l l')):=by rw[YC,Sg]
def Yv:Int->Int->Bool:=fun _ _=>H
def Yk:Int->Int->Bool:=fun k k'=>k==0 || k'==0
def U3:Int->Int->Bool:=fun _ k'=>k'==0
theorem Q7(esc:Int->Int->Bool):∀(l l':List Ty),Uf esc l l'=U->l.length=l'.length
 |[],[],_=>rfl
 |x::r,y::s,h=>by simp only[Uf,Zp] at h;simp[Q7 esc r s h.2]
 |[],_::_,h=>by simp[Uf] at h
 |_::_,[],h=>by simp[Uf] at h
theorem Od(esc:Int->Int->Bool):∀(l l':List Ty)(_:l.length=l'.length),(∀j(h:j<l.length)(h':j<l'.length),YC esc l[j] l'[j]=U)->Uf esc l l'=U
 |[],[],_,_=>by simp[Uf]
 |x::r,y::s,hl,h=>by simp only[Uf,Zp];refine⟨h 0 (by simp) (by simp),Od esc r s (by simpa using hl) fun j h1 h2=>?_⟩;exact h (j+1) (by simpa using h1) (by simpa using h2)
theorem Q6(esc:Int->Int->Bool):∀(l l':List Ty)(j:Nat)(h:j<l.length)(h':j<l'.length),YC esc l[j] l'[j]=H->Uf esc l l'=H
 |[],_,j,h,_,_=>by simp at h
 |x::r,[],j,_,h',_=>by simp at h'
 |x::r,y::s,0,_,_,e=>by simp only[Yd] at e;simp[Uf,e]
 |x::r,y::s,j+1,h,h',e=>by simp only[Uf,Q6 esc r s j (by simpa using h) (by simpa using h') (by simpa using e),Bool.and_false]
def So{α β γ:Type}:(l:List α)->List β->((x:α)->x∈l->β->γ)->List γ
 |x::r,y::s,f=>f x List.mem_cons_self y::So r s (fun z h y=>f z (List.mem_cons_of_mem _ h) y)
 |_,_,_=>[]
def Xl:Ty->Ty->Ty
 |⟨k,l⟩,⟨k',l'⟩=>if k=k' then ⟨k,So l l' fun x _ y=>Xl x y⟩ else ⟨0,[]⟩
def Jy:List Ty->List Ty->List Ty
 |x::r,y::s=>Xl x y::Jy r s
 |_,_=>[]
theorem Pi:∀l l':List Ty,(So l l' fun x _ y=>Xl x y)=Jy l l'
 |[],[]=>by simp[So,Jy]
 |x::r,y::s=>by simp[So,Jy,Pi r s]
 |[],_::_=>by simp[So,Jy]
 |_::_,[]=>by simp[So,Jy]
theorem Ul(k a:Int)(l l':List Ty):Xl ⟨k,l⟩ ⟨a,l'⟩=if k=a then ⟨k,Jy l l'⟩ else ⟨0,[]⟩:=by rw[Xl,Pi]
def Tr.right:Tr->Prop
 |⟨k,_,_,l⟩=>(l=[]/\(k=0\/k=1\/k=2)\/l.length=2/\k=3)/\∀t,t∈l->t.right
theorem Tr.right_mk{l:List Tr}:(Tr.mk k a c l).right↔(l=[]/\(k=0\/k=1\/k=2)\/l.length=2/\k=3)/\∀t,t∈l->t.right:=by rw[Tr.right]
theorem Tr.right_good:∀(n:Nat)(t:Tr),Yz n t=U->t.right
 |0,t,h=>by simp[Yz] at h
 |n+1,⟨k,a,c,l⟩,h=>by
  refine Tr.right_mk.2 ?_;match l,h with
  |[],h=>exact⟨.inl ⟨rfl,by simpa[Yz,or_assoc] using h⟩,fun t ht=>by cases ht⟩
  |[x],h=>simp[Yz] at h
  |[x,y],h=>
   simp only[Yz,Zp] at h;refine⟨.inr ⟨rfl,by simpa using h.1.1⟩,fun t ht=>?_⟩;rcases J.1 ht with rfl|ht
   .exact Tr.right_good n _ h.1.2
   .rcases J.1 ht with rfl|ht
    .exact Tr.right_good n _ h.2
    .cases ht
  |x::y::z::r,h=>simp[Yz] at h
theorem Tr.right.cases{t:Tr}(h:t.right):(t.l=[]/\(t.k=0\/t.k=1\/t.k=2))\/(∃x y,t.l=[x,y]/\t.k=3/\x.right/\y.right):=by
 obtain⟨k,a,c,l⟩:=t;rcases Tr.right_mk.1 h with⟨⟨rfl,d⟩|⟨e,d⟩,b⟩
 .exact .inl ⟨rfl,d⟩
 .match l,e,b with
  |[x,y],_,b=>exact .inr ⟨x,y,rfl,d,b x (by simp),b y (by simp)⟩
def Tr.hgt:Tr->Nat
 |⟨_,_,_,l⟩=>(l.map fun t=>t.hgt).foldr max 0+1
theorem Tr.hgt_mk(k:Int)(a:Option Zo)(c:Nat)(l:List Tr):(Tr.mk k a c l).hgt=(l.map Tr.hgt).foldr max 0+1:=by rw[Tr.hgt]
theorem Rt:∀(l:List Nat)(j:Nat)(h:j<l.length),l[j]<=l.foldr max 0
 |[],j,h=>by simp at h
 |x::r,0,_=>by simp only[Yd,Ye];omega
 |x::r,j+1,h=>by have:=Rt r j (by simpa using h);simp only[List.getElem_cons_succ,Ye];omega
def Tr.sm:Tr->Prop
 |⟨_,_,_,l⟩=>l.length<=140737488355328/\∀t,t∈l->t.sm
theorem Tr.sm_mk{l:List Tr}:(Tr.mk k a c l).sm↔l.length<=140737488355328/\∀t,t∈l->t.sm:=by rw[Tr.sm]
theorem Tr.sm.len{t:Tr}(h:t.sm):t.l.length<=140737488355328:=by cases t;exact(Tr.sm_mk.1 h).1
theorem Tr.sm.part{t:Tr}(h:t.sm)(j:Nat)(b:j<t.l.length):t.l[j].sm:=by obtain⟨k,a,c,l⟩:=t;exact(Tr.sm_mk.1 h).2 _ (Ya b)
theorem Tr.sm_good:∀(n:Nat)(t:Tr),Yz n t=U->t.sm
 |0,t,h=>by simp[Yz] at h
 |n+1,⟨k,a,c,l⟩,h=>by
  refine Tr.sm_mk.2 ?_;match l,h with
  |[],_=>exact⟨by simp,fun t ht=>by cases ht⟩
  |[x],h=>simp[Yz] at h
  |[x,y],h=>
   simp only[Yz,Zp] at h;refine⟨by simp,fun t ht=>?_⟩;rcases J.1 ht with rfl|ht
   .exact Tr.sm_good n _ h.1.2
   .rcases J.1 ht with rfl|ht
    .exact Tr.sm_good n _ h.2
    .cases ht
  |x::y::z::r,h=>simp[Yz] at h
theorem Tr.hgt_part{t:Tr}{n:Nat}(h:t.hgt<=n+1)(j:Nat)(d:j<t.l.length):t.l[j].hgt<=n:=by obtain⟨k,a,c,l⟩:=t;rw[Tr.hgt_mk] at h;have b:=Rt (l.map Tr.hgt) j (by simpa using d);rw[List.getElem_map] at b;exact Nat.le_trans b (by omega)
theorem Tr.hgt_pos(t:Tr):1<=t.hgt:=by cases t;rw[Tr.hgt_mk];omega
theorem Tr.hgt_good:∀(n:Nat)(t:Tr),Yz n t=U->t.hgt<=n
 |0,t,h=>by simp[Yz] at h
 |n+1,⟨k,a,c,l⟩,h=>by
  rw[Tr.hgt_mk];match l,h with
  |[],_=>simp
  |[x],h=>simp[Yz] at h
  |[x,y],h=>simp only[Yz,Zp] at h;have hx:=Tr.hgt_good n x h.1.2;have hy:=Tr.hgt_good n y h.2;simp only[Z,List.map_nil,Ye,List.foldr_nil];omega
  |x::y::z::r,h=>simp[Yz] at h
theorem JX(esc:Int->Int->Bool)(x y:Tr)(he:esc x.k y.k=H)(ht:(x.k==y.k&&(x.l.length:Int)==(y.l.length:Int))=H):YC esc x.ty y.ty=H:=by
 obtain⟨k,a,c,l⟩:=x;obtain⟨b,a',c',l'⟩:=y;dsimp only at he ht;rw[Tr.ty_mk,Tr.ty_mk,YV,he,Bool.false_or];by_cases hk:(k==b)=U
 .rw[hk,Bool.true_and] at ht;rw[hk,Bool.true_and];cases hr:Uf esc (l.map Tr.ty) (l'.map Tr.ty) with
  |false=>rfl
  |true=>have:=Q7 esc _ _ hr;rw[List.length_map,List.length_map] at this;rw[this] at ht;simp at ht
 .have:(k==b)=H:=by simpa using hk
  rw[this,Bool.false_and]
theorem Oc(b:Int->Int->Bool)(x y:Tr)(d:b x.k y.k=U):YC b x.ty y.ty=U:=by obtain⟨k,a,c,l⟩:=x;obtain⟨e,a',c',l'⟩:=y;dsimp only at d;rw[Tr.ty_mk,Tr.ty_mk,YV,d,Bool.true_or]
theorem Jr(b:Int->Int->Bool)(x y:Tr)(e:b x.k y.k=H)(j:Nat)(h:j<x.l.length)(d:j<y.l.length)(g:YC b x.l[j].ty y.l[j].ty=H):YC b x.ty y.ty=H:=by obtain⟨k,a,c,l⟩:=x;obtain⟨i,a',c',l'⟩:=y;dsimp only at e h d g;rw[Tr.ty_mk,Tr.ty_mk,YV,e,Bool.false_or,Q6 b (l.map Tr.ty) (l'.map Tr.ty) j (by simpa using h) (by simpa using d) (by simpa using g),Bool.and_false]
theorem K3(b:Int->Int->Bool)(x y:Tr)(d:x.k=y.k)(e:x.l.length=y.l.length)(g:∀q(h:q<x.l.length)(h':q<y.l.length),YC b x.l[q].ty y.l[q].ty=U):YC b x.ty y.ty=U:=by obtain⟨k,a,c,l⟩:=x;obtain⟨i,a',c',l'⟩:=y;dsimp only at d e g;subst d;rw[Tr.ty_mk,Tr.ty_mk,YV,Od b (l.map Tr.ty) (l'.map Tr.ty) (by simpa using e) fun j h h'=>by simpa using g j (by simpa using h) (by simpa using h')];simp
theorem TK(k b:Int)(a a':Option Zo)(m d c c':Nat)(w:V):
  Zb I 79 #[Zf #[L M k,C a m c],Zf #[L M b,C a' d c']] w fun e w'=>e=S (.bool (k==b&&(m:Int)==(d:Int)))/\Ze w.heap.size w w':=by
 by_cases h:(k==b)=U
 .go_enter func79,ntmps79;go_wp2_with fail;go_ret;exact⟨by simp[h],((Y _ _).alloc (T _) _).alloc (by simp) _⟩
 .have h':(k==b)=H:=by simpa using h
  clear h;go_enter func79,ntmps79;go_wp2_with fail;go_ret;exact⟨by simp[h'],((Y _ _).alloc (T _) _).alloc (by simp) _⟩
theorem KP(k d:Int)(a a':Option Zo)(m b c c':Nat)(r:Bool)(g:(k==d&&(m:Int)==(b:Int))=r)(w:V):
  Zb I 79 #[Zf #[L M k,C a m c],Zf #[L M d,C a' b c']] w fun e w'=>e=S (.bool r)/\Ze w.heap.size w w':=by
 rw[<-g];exact TK k d a a' m b c c' w
theorem QQ(k b:Int)(a a':Option Zo)(m d c c':Nat)(w:V):
  Zb I 106 #[Zf #[L M k,C a m c],Zf #[L M b,C a' d c']] w fun e w'=>∃g,w.heap.size<=g/\e=S (Zf #[L M 3,C (G ⟨g,0,F⟩) 2 2])/\w'.cell? ⟨g,0,F⟩=G (L M k)/\w'.cell? ⟨g,1,F⟩=G (C a m c)/\w'.cell? ⟨g,2,F⟩=G (L M b)/\w'.cell? ⟨g,3,F⟩=G (C a' d c')/\Ze w.heap.size w w':=by
 go_enter func106,ntmps106;go_wp2_with fail;refine bodyPost_ret (v:=Zf #[L M 3,C (G ⟨w.heap.size+1+1+1,0,F⟩) 2 2]) (by simp[results,results106,go_sem]) rfl ⟨_,?_,rfl,by simp[go_sem],by simp[go_sem],by simp[go_sem],by simp[go_sem],?_⟩
 .omega
 exact((((Y _ _).alloc (T _) _).alloc (by simp) _).alloc (by simp;omega) _).alloc (by simp;omega) _
theorem Sw(x y:Tr)(w:V)(j:x.In w)(d:y.In w):
  Zb I 106 #[Zf #[L M x.k,C x.a x.l.length x.c],Zf #[L M y.k,C y.a y.l.length y.c]] w fun e w'=>∃g,w.heap.size<=g/\e=S (Zf #[L M 3,C (G ⟨g,0,F⟩) 2 2])/\(Tr.mk 3 (G ⟨g,0,F⟩) 2 [x,y]).In w'/\Ze w.heap.size w w':=by
 refine(QQ x.k y.k x.a y.a x.l.length y.l.length x.c y.c w).mono ?_;rintro e w' ⟨g,i,rfl,c,k,b,h,a⟩;refine⟨g,i,rfl,?_,a⟩;exact Tr.In_two c k b h (j.below a) (d.below a)
def Yr(k:Int):Tr:=.mk k F 0 []
theorem YB(k:Int)(w:V):(Yr k).In w:=Tr.In_nil w k F 0
theorem YG(k:Int)(P:Nat->Prop):(Yr k).Bl P:=Tr.Bl_nil P k F 0
def Cw:Ty->Bool
 |⟨k,l⟩=>k != 0&&(l.map fun t=>Cw t).all id
def Tr.sz:Tr->Nat
 |⟨_,_,_,l⟩=>(l.map fun t=>t.sz).sum+1
theorem Tr.sz_mk(k:Int)(a:Option Zo)(c:Nat)(l:List Tr):(Tr.mk k a c l).sz=(l.map Tr.sz).sum+1:=by rw[Tr.sz]
theorem Tr.sz_pos(t:Tr):1<=t.sz:=by cases t;rw[Tr.sz_mk];omega
def cellsOf:List Tr->List ZJ
 |[]=>[]
 |t::r=>L M t.k::C t.a t.l.length t.c::cellsOf r
theorem Ux:∀l:List Tr,(cellsOf l).length=l.length*2
 |[]=>rfl
 |t::r=>by simp only[cellsOf,List.length_cons,Ux r];omega
theorem Uz:∀l r:List Tr,cellsOf (l++r)=cellsOf l++cellsOf r
 |[],r=>rfl
 |t::l,r=>by simp only[Zq,cellsOf,Uz l r]
def Left(B:Nat)(b:Bool)(N k:Nat)(v:ZJ)(wr:V):Prop:=∃ts:List Tr,wr.ownsRow B 24 2 v ts.length (cellsOf ts)/\(∀t,t∈ts->t.In wr/\t.Bl (·<B)/\t.right)/\(ts.map Tr.sz).sum=k/\k<=N/\b=ts.all fun t=>Cw t.ty
theorem Left.split{ts:List Tr}(h:ts≠[]):∃us x,ts=us++[x]:=⟨ts.dropLast,ts.getLast h,(List.dropLast_concat_getLast h).symm⟩
theorem Kw{P:Program}{ops:Array Oper}{o:Oper}{a:Act}{K:Act->V->Prop}{Q:Exit->Act->V->Prop}{E:Prop}
  (hg:o.guard=F) (s x:Operand) (t:TypeId) (hop:o.op=Op.call { callee:=Callee.builtin Builtin.append,args:=#[s,x],argTypes:=#[t,t] })
  (e:TypeId) (i:TypeInfo) (h1:P.underlying t=G (.slice e)) (h2:P.info? e=G i)
  (b n cap:Nat) (hs:a.eval s=C (G ⟨b,0,F⟩) n cap) (xa:Option Zo) (c:Nat) (hx:a.eval x=C xa 0 c) (hroom:n<=cap)
  (hK:K (a.put o.dst (C (G ⟨b,0,F⟩) n cap)) w) :
  if Region.wanted o (yielded ops a.tmps)=U then Oper.wp P o a w K Q else E:=by
 have k:Region.wanted o (yielded ops a.tmps)=U:=by simp[Region.wanted,hg]
 rw[if_pos k];have g:Src P i.size t (C xa 0 c) 0 [] w:=by
  cases xa with
  |none=>exact Src.ofNil w h1 c
  |some ad=>exact Src.ofSlice w h1 ad 0 c [] (by simp) (fun j u h=>by simp at h) (fun u h=>by cases h)
 have d:=run_append_room_src (P:=P) w t t o.type e i h1 h2 b 0 n cap (C xa 0 c) 0 [] g (by omega) (fun j h=>by simp at h) (fun j h=>by simp at h);unfold Oper.wp;simp only[execOp,hop,resolve,invoke,builtin,Sem.run_bind,Sem.run_pure,Result.andThen_ok,List.map_toArray,Z,List.map_nil,hs,hx,d];exact hK
theorem Tryz.info24s:(I.info? 24).map (fun i=>(i.zero,i.size,i.bytes))=G (G (Zf #[L M 0,C F 0 0]),2,32):=by kernel_rfl
theorem Tryz.info141:(I.info? 141).map (fun i=>(i.zero,i.size,i.bytes))=G (G (Zf #[L M 0,C F 0 0,L M 0,C F 0 0,R F]),5,72):=by kernel_rfl
structure Yi(r:Nat)(o:Option Nat)(w w':V):Prop where
 os:w'.os=w.os
 tape:w'.tape=w.tape
 output:w'.output=w.output
 size:w.heap.size<=w'.heap.size
 block:∀k,k<w.heap.size->k≠r->G k≠o->w'.heap[k]?=w.heap[k]?
theorem Yi.below{r:Nat}{o:Option Nat}{w':V}(h:Yi r o w w')(ho:∀g,o=G g->r<=g)(hr:r<=w.heap.size):Ze r w w':=⟨h.os,h.tape,h.output,h.size,fun k hk=>h.block k (by omega) (by omega) (fun e=>by have:=ho k e.symm;omega)⟩
theorem BW{r:Nat}{v:ZJ}{n:Nat}{ys:List ZJ}{w1:V}{X:Obj}{g cap:Nat}(a:(((w.alloc X).alloc X).drew).grownBy w1 v.ownBlock)(b:w1.ownsRow (r+1) 141 5 (C (G ⟨g,0,F⟩) (n+1) cap) (n+1) ys)
  (i:v.ownBlock=G g\/g=w.heap.size+2) (d:w1.cell? ⟨r,0,F⟩=G v) (e:w1.frozen? ⟨r,0,F⟩=H) :
  ∃g' cap',(w1.setCell ⟨r,0,F⟩ (C (G ⟨g,0,F⟩) (n+1) cap)).cell? ⟨r,0,F⟩=G (C (G ⟨g',0,F⟩) (n+1) cap')/\(w1.setCell ⟨r,0,F⟩ (C (G ⟨g,0,F⟩) (n+1) cap)).frozen? ⟨r,0,F⟩=H/\
   (w1.setCell ⟨r,0,F⟩ (C (G ⟨g,0,F⟩) (n+1) cap)).ownsRow (r+1) 141 5 (C (G ⟨g',0,F⟩) (n+1) cap') (n+1) ys/\(v.ownBlock=G g'\/w.heap.size<=g')/\Yi r v.ownBlock w (w1.setCell ⟨r,0,F⟩ (C (G ⟨g,0,F⟩) (n+1) cap)):=by
 have c:bL w ((w.alloc X).alloc X).drew:=(((Y _ _).alloc (T _) _).alloc (by simp) _).drew;refine⟨g,cap,World.cell?_setCell_same _ _ _ d,by simpa using e,ownsRow_setCell_below b (by simp) _,?_,?_⟩
 .rcases i with h|h
  .exact .inl h
  .exact .inr (by omega)
 .have hs:=a.size;have p:((w.alloc X).alloc X).drew.heap.size=w.heap.size+1+1:=by simp
  refine⟨a.os.trans c.os,a.tape.trans c.tape,a.output.trans c.output,?_,fun k j o l=>?_⟩
  .rw[show (w1.setCell ⟨r,0,F⟩ (C (G ⟨g,0,F⟩) (n+1) cap)).heap.size=w1.heap.size from by simp[World.setCell]];omega
  .rw[Below.heap_setCell _ _ _ _ o,a.block k (by omega) l,c.block k j]
theorem JU(r:Nat)(a:Option Zo)(n c:Nat)(w:V)(b:w.cell? ⟨r,0,F⟩=G (C a n c)):
  Zb I 77 #[R (G ⟨r,0,F⟩)] w fun e w'=>e=S (.bool ((n:Int)==0))/\w'=w:=by
 go_enter func77,ntmps77;go_wp2_with fail;go_ret;exact⟨rfl,rfl⟩
theorem N3(r g:Nat)(n c:Nat)(k i:Int)(a a':Option Zo)(m h d b:Nat)(p:Option Zo)(w:V)(l:w.cell? ⟨r,0,F⟩=G (C (G ⟨g,0,F⟩) (n+1) c))(o:w.frozen? ⟨r,0,F⟩=H)(hc:n+1<=c)(x:n<=140737488355328)
  (j:w.cell? ⟨g,n*5,F⟩=G (L M k)) (h1:w.cell? ⟨g,n*5+1,F⟩=G (C a m d)) (q:w.cell? ⟨g,n*5+2,F⟩=G (L M i)) (u:w.cell? ⟨g,n*5+3,F⟩=G (C a' h b)) (z:w.cell? ⟨g,n*5+4,F⟩=G (R p)) :
  Zb I 78 #[R (G ⟨r,0,F⟩)] w fun e w'=>e=S (Zf #[L M k,C a m d,L M i,C a' h b,R p])/\
   w'=((w.setCell ⟨r,0,F⟩ (C (G ⟨g,0,F⟩) n c)).alloc (Zj #[L M k,C a m d,L M i,C a' h b,R p] 141)).alloc (Zj #[L M k,C a m d,L M i,C a' h b,R p] 141):=by
 have lr:r<w.heap.size:=Zc _ _ l;have y:g<w.heap.size:=Zc _ _ j;go_enter func78,ntmps78;go_wp2_with fail;exact bodyPost_ret (v:=Zf #[L M k,C a m d,L M i,C a' h b,R p]) (by simp[results,results78,go_sem]) rfl ⟨rfl,rfl⟩
theorem Qj(r:Nat)(v:ZJ)(n:Nat)(xs:List ZJ)(k b:Int)(a a':Option Zo)(m i d c:Nat)(p:Option Zo)(w:V)(hv:w.cell? ⟨r,0,F⟩=G v)(hf:w.frozen? ⟨r,0,F⟩=H)(l:w.ownsRow (r+1) 141 5 v n xs)(hn:n+1<=1000000000):
  Zb I 76 #[R (G ⟨r,0,F⟩),Zf #[L M k,C a m d,L M b,C a' i c,R p]] w fun e w'=>e=S (.tuple #[])/\
   ∃g cap,w'.cell? ⟨r,0,F⟩=G (C (G ⟨g,0,F⟩) (n+1) cap)/\w'.frozen? ⟨r,0,F⟩=H/\w'.ownsRow (r+1) 141 5 (C (G ⟨g,0,F⟩) (n+1) cap) (n+1) (xs++[L M k,C a m d,L M b,C a' i c,R p])/\(v.ownBlock=G g\/w.heap.size<=g)/\Yi r v.ownBlock w w':=by
 have lr:r<w.heap.size:=Zc _ _ hv;obtain⟨i0,a9,a3,a5,a6⟩:=info_parts Tryz.info141;have y:v.ownBlock≠G r:=by
  rcases l.2 with⟨rfl,_⟩|⟨g,cap,a7,rfl,hg,_⟩
  .simp[ZS]
  .simp only[ZS,ne_eq,Option.some.injEq];omega
 have aa:v.ownBlock≠G w.heap.size:=by
  rcases l.2 with⟨rfl,_⟩|⟨g,cap,a7,rfl,hg,q,_⟩
  .simp[ZS]
  .have:g<w.heap.size:=by
    rcases Nat.lt_or_ge g w.heap.size with u|a1
    .exact u
    .rw[Array.getElem?_eq_none a1] at q;cases q
   simp only[ZS,ne_eq,Option.some.injEq];omega
 have z:((w.alloc (Zj #[L M k,C a m d,L M b,C a' i c,R p] 141)).alloc (Zj #[L M k,C a m d,L M b,C a' i c,R p] 141)).drew.frozen? ⟨r,0,F⟩=H:=by have q:bL w ((w.alloc (Zj #[L M k,C a m d,L M b,C a' i c,R p] 141)).alloc (Zj #[L M k,C a m d,L M b,C a' i c,R p] 141)).drew:=(((Y _ _).alloc (T _) _).alloc (by simp) _).drew;rw[q.frozen (p:=⟨r,0,F⟩) lr];exact hf
 have x:((w.alloc (Zj #[L M k,C a m d,L M b,C a' i c,R p] 141)).alloc (Zj #[L M k,C a m d,L M b,C a' i c,R p] 141)).drew.cell? ⟨r,0,F⟩=G v:=by have q:bL w ((w.alloc (Zj #[L M k,C a m d,L M b,C a' i c,R p] 141)).alloc (Zj #[L M k,C a m d,L M b,C a' i c,R p] 141)).drew:=(((Y _ _).alloc (T _) _).alloc (by simp) _).drew;exact O q hv
 have a0:((w.alloc (Zj #[L M k,C a m d,L M b,C a' i c,R p] 141)).alloc (Zj #[L M k,C a m d,L M b,C a' i c,R p] 141)).drew.heap[w.heap.size+1]?=G (Zj #[L M k,C a m d,L M b,C a' i c,R p] 141):=by have h:=heap_alloc_new (w.alloc (Zj #[L M k,C a m d,L M b,C a' i c,R p] 141)) (Zj #[L M k,C a m d,L M b,C a' i c,R p] 141);rw[World.size_alloc] at h;exact h
 go_enter func76,ntmps76;go_wp2_with fail;go_region_law ((refine step_append_lies _ (by rfl) _ _ _ (by rfl) (r+1) 141 i0 _ 5 72 underlying135 a9 a3 a5 a6 rfl (by omega) v n xs (by rfl) (((l.alloc _).alloc _).drew) ⟨w.heap.size+1,0,F⟩ 1 1 [L M k,C a m d,L M b,C a' i c,R p] (by rfl) (by rfl) (World.news_of_block (cs:=#[L M k,C a m d,L M b,C a' i c,R p]) (t:=141) (fr:=(0,0)) a0) (by simp[Value.oneCell']) (by omega) (by unfold maxLen;omega) (by omega) (by simp;omega) (w.heap.size+2) (by simp) ?_;intro gg cap w1 o j a4 u;have a2:w1.frozen? ⟨r,0,F⟩=H:=(by rw[j.frozen_far _ (by simp;omega) (Ne.symm y)];exact z);have a8:w1.cell? ⟨r,0,F⟩=G v:=(by rw[j.cell_far _ (by simp;omega) (Ne.symm y)];exact x)))
 all_goals
  go_end0
  exact⟨rfl,BW j o a4 a8 a2⟩
theorem NP(n:Nat)(a:n<=1000):IntKind.i64.wrap (n:Int)=(n:Int):=by rw[IntKind.wrap_i64];omega
theorem Vv(n:Nat)(hn:n<=1000)(x y:Tr)(rp:Option Zo)(w:V)(hx:x.In w)(hy:y.In w)(hh:x.hgt<=n+1)(hs:x.sm)
  (ih:Hid (∀(x y:Tr)(w:V),x.In w->y.In w->x.hgt<=n->x.sm->Zb I 182 #[Zf #[L M x.k,C x.a x.l.length x.c],Zf #[L M y.k,C y.a y.l.length y.c],L M (n:Int),R rp] w fun e w'=>e=S (.bool (YC Yv x.ty y.ty))/\Ze w.heap.size w w')) :
  Zb I 182 #[Zf #[L M x.k,C x.a x.l.length x.c],Zf #[L M y.k,C y.a y.l.length y.c],L M ((n:Int)+1),R rp] w fun e w'=>e=S (.bool (YC Yv x.ty y.ty))/\Ze w.heap.size w w':=by
 have hz:(((n:Int)+1)==0)=H:=by simp;omega
 have a2:=hs.len;by_cases ht0:(x.k==y.k&&(x.l.length:Int)==(y.l.length:Int))=H
 .have ht:=Yx ht0;clear ht0;go_enter func182,ntmps182;go_wp2_with fail;refine(KP _ _ _ _ _ _ _ _ H ht.out _).mono ?_;rintro e w1 ⟨rfl,g⟩;go_wp2_with fail;go_ret;refine⟨?_,(((Y _ _).alloc (T _) _).alloc (by simp) _).trans (g.mono (by simp;omega))⟩;rw[JX Yv x y rfl ht.out];rfl
 .have ht':Hid ((x.k==y.k&&(x.l.length:Int)==(y.l.length:Int))=U):=by simpa[Hid] using ht0
  clear ht0;have hk:Hid (x.k=y.k):=by have h:=ht'.out;simp at h;exact h.1
  have hl:Hid (x.l.length=y.l.length):=by have h:=ht'.out;simp at h;exact Int.ofNat.inj h.2
  go_enter func182,ntmps182;go_wp2_with fail;refine(KP _ _ _ _ _ _ _ _ U ht'.out _).mono ?_;rintro e w1 ⟨rfl,g⟩;have l:bL w w1:=(((Y _ _).alloc (T _) _).alloc (by simp) _).trans (g.mono (by simp;omega));have p1:w1.cell? ⟨w.heap.size,1,F⟩=G (C x.a x.l.length x.c):=O g (by simp[go_sem]);have p3:w1.cell? ⟨w.heap.size+1,1,F⟩=G (C y.a y.l.length y.c):=O g (by simp[go_sem]);clear g;go_wp2_with fail;go_loopw [24] (fun i wr=>∃j:Nat,j<=x.l.length/\i=L M (j:Int)/\bL w1 wr/\∀q(h:q<x.l.length)(h':q<y.l.length),q<j->YC Yv x.l[q].ty y.l[q].ty=U) (fun i _=>x.l.length-(intOf i).toNat)
  case atStart=>exact⟨0,Nat.zero_le _,rfl,Y _ _,fun q _ _ h=>absurd h (by omega)⟩
  case round=>
   obtain⟨j,hj,rfl,d,p⟩:=hrel;have HA:=Yx p;clear p;have c:=l.trans (d.mono l.size);by_cases hlt:j<x.l.length
   .have hlt':j<y.l.length:=hl.out▸hlt;obtain⟨b,o,ea,x0,x1,a1⟩:=hx.part j hlt;obtain⟨u,z,eb,y0,y1,a0⟩:=hy.part j hlt';have q1:cL wr w.heap.size 1 (C (G ⟨b,o,F⟩) x.l.length x.c):=by rw[<-ea];exact O d p1
    have q3:cL wr (w.heap.size+1) 1 (C (G ⟨u,z,F⟩) y.l.length y.c):=by rw[<-eb];exact O d p3
    replace x0:=O c x0;replace x1:=O c x1;replace y0:=O c y0;replace y1:=O c y1;have i1:(j:Int)<(x.l.length:Int):=by omega
    have i2:(j:Int)<(y.l.length:Int):=by omega
    have i0:(0:Int)<=(j:Int):=by omega
    clear p1 p3 ea eb hx hy ht';have a3:=NP n hn;obtain⟨r,hr⟩:∃r,YC Yv x.l[j].ty y.l[j].ty=r:=⟨_,rfl⟩
    have HC:Hid (∀(w:V),x.l[j].In w->y.l[j].In w->Zb I 182 #[Zf x.l[j].v,Zf y.l[j].v,L M (n:Int),R rp] w fun e w'=>e=S (.bool r)/\bL w w'):=by intro w h1 h2;have:=ih.out x.l[j] y.l[j] w h1 h2 (Tr.hgt_part hh j hlt) (hs.part j hlt);rw[hr] at this;exact this
    have HR:=Yx hr;clear hr;cases r
    .go_wp2_with fail;go_region_held3 (fun w'=>w'.cell? ⟨w.heap.size,1,F⟩=G (C (G ⟨b,o,F⟩) x.l.length x.c)/\w'.cell? ⟨w.heap.size+1,1,F⟩=G (C (G ⟨u,z,F⟩) y.l.length y.c)/\w'.cell? ⟨b,o+j*2,F⟩=G (L M x.l[j].k)/\w'.cell? ⟨b,o+j*2+1,F⟩=G (C x.l[j].a x.l[j].l.length x.l[j].c)/\w'.cell? ⟨u,z+j*2,F⟩=G (L M y.l[j].k)/\w'.cell? ⟨u,z+j*2+1,F⟩=G (C y.l[j].a y.l[j].l.length y.l[j].c)) (first|exact⟨O a q1,O a q3,O a x0,O a x1,O a y0,O a y1⟩|go_keep) (first|(go_at_call 182;refine(HC.out _ (a1.below c.drew) (a0.below c.drew)).mono ?_;rintro e w2 ⟨rfl,a⟩))
     have k:=d.drew.trans (a.mono d.size);go_wp2_with fail;go_ret;refine⟨?_,l.trans (k.mono l.size)⟩;rw[Jr Yv x y rfl j hlt hlt' HR.out];rfl
    .go_wp2_with fail;go_region_held3 (fun w'=>w'.cell? ⟨w.heap.size,1,F⟩=G (C (G ⟨b,o,F⟩) x.l.length x.c)/\w'.cell? ⟨w.heap.size+1,1,F⟩=G (C (G ⟨u,z,F⟩) y.l.length y.c)/\w'.cell? ⟨b,o+j*2,F⟩=G (L M x.l[j].k)/\w'.cell? ⟨b,o+j*2+1,F⟩=G (C x.l[j].a x.l[j].l.length x.l[j].c)/\w'.cell? ⟨u,z+j*2,F⟩=G (L M y.l[j].k)/\w'.cell? ⟨u,z+j*2+1,F⟩=G (C y.l[j].a y.l[j].l.length y.l[j].c)) (first|exact⟨O a q1,O a q3,O a x0,O a x1,O a y0,O a y1⟩|go_keep) (first|(go_at_call 182;refine(HC.out _ (a1.below c.drew) (a0.below c.drew)).mono ?_;rintro e w2 ⟨rfl,a⟩))
     have k:=d.drew.trans (a.mono d.size);go_wp2_with fail;go_roundw
     case rel=>
      refine⟨j+1,by omega,by go_num,k,fun q h h' hq=>?_⟩;by_cases e:q=j
      .subst e;exact HR.out
      .exact HA.out q h h' (by omega)
     case measure=>simp[intOf];omega
   .go_wp2_with fail;go_ret;refine⟨?_,c⟩;rw[K3 Yv x y hk.out hl.out fun q h h'=>HA.out q h h' (by omega)];rfl
theorem WW(n:Nat):n<=1000->∀(x y:Tr)(rp:Option Zo)(w:V),x.In w->y.In w->x.hgt<=n->x.sm->Zb I 182 #[Zf #[L M x.k,C x.a x.l.length x.c],Zf #[L M y.k,C y.a y.l.length y.c],L M (n:Int),R rp] w fun e w'=>e=S (.bool (YC Yv x.ty y.ty))/\Ze w.heap.size w w':=by
 induction n with
 |zero=>intro _ x y rp w _ _ h;have:=x.hgt_pos;omega
 |succ n ih=>
  intro d x y rp w c a h b;have e:((n+1:Nat):Int)=(n:Int)+1:=by omega
  rw[e];exact Vv n (by omega) x y rp w c a h b (fun x y w c a h b=>ih (by omega) x y rp w c a h b)
theorem QH(k:Int)(a:Option Zo)(c:Nat)(l:List Tr)(w:V):
  Zb I 159 #[Zf #[L M k,C a l.length c],L M 0] w fun e w'=>e=S (.bool H)/\Ze w.heap.size w w':=by
 go_enter ZA,Zt;go_wp2_with fail;go_ret;exact⟨rfl,(Y _ _).alloc (T _) _⟩
theorem QI(n:Nat)(g:n<=1000)(k:Int)(b:k=0\/k=1\/k=2)(a:Option Zo)(c:Nat)(m:Nat)(w:V):
  Zb I 159 #[Zf #[L M k,C a m c],L M ((n:Int)+1)] w fun e w'=>e=S (.bool ((m:Int)==0))/\Ze w.heap.size w w':=by
 have d:(((n:Int)+1)==0)=H:=by simp;omega
 rcases b with rfl|rfl|rfl<;>
 .go_enter ZA,Zt;go_wp2_with fail;go_ret;exact⟨rfl,(Y _ _).alloc (T _) _⟩
theorem PY(n:Nat)(i:n<=1000)(k:Int)(d:(k==0)=H)(b:(k==1)=H)(h:(k==2)=H)(g:(k==3)=H)(a:Option Zo)(c:Nat)(m:Nat)(w:V):
  Zb I 159 #[Zf #[L M k,C a m c],L M ((n:Int)+1)] w fun e w'=>e=S (.bool H)/\Ze w.heap.size w w':=by
 have hz:(((n:Int)+1)==0)=H:=by simp;omega
 go_enter ZA,Zt;go_wp2_with fail;go_ret;exact⟨rfl,(Y _ _).alloc (T _) _⟩
theorem Ki(n:Nat)(d:n<=1000)(a:Option Zo)(c:Nat)(m:Nat)(b:((m:Int)==2)=H)(w:V):
  Zb I 159 #[Zf #[L M 3,C a m c],L M ((n:Int)+1)] w fun e w'=>e=S (.bool H)/\Ze w.heap.size w w':=by
 have hz:(((n:Int)+1)==0)=H:=by simp;omega
 go_enter ZA,Zt;go_wp2_with fail;go_ret;exact⟨rfl,(Y _ _).alloc (T _) _⟩
theorem Sp(n:Nat)(hn:n<=1000)(b o c:Nat)(k u:Int)(l p:Option Zo)(z j x q:Nat)(i y:Bool)(w:V)
  (x0:w.cell? ⟨b,o,F⟩=G (L M k)) (x1:w.cell? ⟨b,o+1,F⟩=G (C l z x))
  (y0:w.cell? ⟨b,o+2,F⟩=G (L M u)) (y1:w.cell? ⟨b,o+3,F⟩=G (C p j q))
  (r:Hid (∀w',Ze w.heap.size w w'->Zb I 159 #[Zf #[L M k,C l z x],L M (n:Int)] w' fun e w''=>e=S (.bool i)/\Ze w'.heap.size w' w''))
  (hy:Hid (∀w',Ze w.heap.size w w'->Zb I 159 #[Zf #[L M u,C p j q],L M (n:Int)] w' fun e w''=>e=S (.bool y)/\Ze w'.heap.size w' w'')) :
  Zb I 159 #[Zf #[L M 3,C (G ⟨b,o,F⟩) 2 c],L M ((n:Int)+1)] w fun e w'=>e=S (.bool (i&&y))/\Ze w.heap.size w w':=by
 have hz:(((n:Int)+1)==0)=H:=by simp;omega
 have lb:b<w.heap.size:=Zc _ _ x0;cases i
 .go_enter ZA,Zt;go_wp2_with fail;refine(r.out _ ((Y _ _).alloc (T _) _)).mono ?_;rintro e g ⟨rfl,d⟩;go_wp2_with fail;go_ret;exact⟨rfl,((Y _ _).alloc (T _) _).trans (d.mono (by simp))⟩
 .go_enter ZA,Zt;go_wp2_with fail;refine(r.out _ ((Y _ _).alloc (T _) _)).mono ?_;rintro e g ⟨rfl,d⟩;have a:bL w g:=((Y _ _).alloc (T _) _).trans (d.mono (by simp));have b1:g.cell? ⟨w.heap.size,1,F⟩=G (C (G ⟨b,o,F⟩) 2 c):=O d (by simp[go_sem]);have a0:=O a y0;have a1:=O a y1;go_wp2_with fail;refine(hy.out _ a).mono ?_;rintro e w2 ⟨rfl,h⟩;go_wp2_with fail;go_ret;exact⟨by simp,a.trans (h.mono a.size)⟩
theorem PX(t:Tr)(w:V):Zb I 159 #[Zf #[L M t.k,C t.a t.l.length t.c],L M 0] w fun e w'=>e=S (.bool (Yz 0 t))/\Ze w.heap.size w w':=by refine(QH t.k t.a t.c t.l w).mono ?_;rintro e w' ⟨rfl,a⟩;exact⟨by simp[Yz],a⟩
theorem Sq(n:Nat):n<=1000->∀(t:Tr)(w:V),t.In w->
  Zb I 159 #[Zf #[L M t.k,C t.a t.l.length t.c],L M (n:Int)] w fun e w'=>e=S (.bool (Yz n t))/\Ze w.heap.size w w':=by
 induction n with
 |zero=>intro _ t w _;have e:((0:Nat):Int)=0:=rfl;rw[e];exact PX t w
 |succ n ih=>
  intro hn ⟨k,a,c,l⟩ w hin;have e:((n+1:Nat):Int)=(n:Int)+1:=by omega
  rw[e];dsimp only;by_cases hk:k=0\/k=1\/k=2
  .refine(QI n (by omega) k hk a c l.length w).mono ?_;rintro e w' ⟨rfl,d⟩;refine⟨?_,d⟩;have g:(k==3)=H:=by simp;omega
   have q:(k==0 || k==1 || k==2)=U:=by simpa[or_assoc] using hk
   match l with
   |[]=>simp[Yz,q]
   |[x]=>simp[Yz]
   |[x,y]=>simp[Yz,g]
   |x::y::z::r=>simp[Yz];omega
  .have h0:(k==0)=H:=by simp;omega
   have p:(k==1)=H:=by simp;omega
   have i:(k==2)=H:=by simp;omega
   by_cases h3:k=3
   .subst h3;match l,hin with
    |[],hin=>exact Ki n (by omega) a c 0 (by decide) w
    |[x],hin=>exact Ki n (by omega) a c 1 (by decide) w
    |x::y::z::r,hin=>refine(Ki n (by omega) a c (x::y::z::r).length (by simp;omega) w).mono ?_;rintro e w' ⟨rfl,d⟩;exact⟨by simp[Yz],d⟩
    |[x,y],hin=>
     obtain⟨b,o,h,x0,x1,hx⟩:=hin.at 0 (by simp);obtain⟨b',o',j,y0,y1,u⟩:=hin.at 1 (by simp);rw[h] at j;obtain⟨rfl,rfl⟩:b=b'/\o=o':=by simpa using j
     subst h;refine(Sp n (by omega) b o c x.k y.k x.a y.a x.l.length y.l.length x.c y.c (Yz n x) (Yz n y) w (by simpa using x0) (by simpa using x1) (by simpa using y0) (by simpa using y1) (fun w' d=>ih (by omega) x w' (hx.below d)) (fun w' d=>ih (by omega) y w' (u.below d))).mono ?_
     rintro e w' ⟨rfl,d⟩;exact⟨by simp[Yz],d⟩
   .refine(PY n (by omega) k h0 p i (by simpa using h3) a c l.length w).mono ?_;rintro e w' ⟨rfl,d⟩;refine⟨?_,d⟩;have g:(k==3)=H:=by simpa using h3
    match l with
    |[]=>simp[Yz,h0,p,i]
    |[x]=>simp[Yz]
    |[x,y]=>simp[Yz,g]
    |x::y::z::r=>simp[Yz]
theorem AQ(t:Tr)(w:V)(a:t.In w):
  Zb I 118 #[Zf #[L M t.k,C t.a t.l.length t.c]] w fun e w'=>e=S (.bool (Yz 4 t))/\Ze w.heap.size w w':=by
 have c:=Sq 4 (by omega) t;have d:=Yx c;clear c;go_enter func118,ntmps118;go_wp2_with fail;refine(d.out _ (a.below ((Y _ _).alloc (T _) _))).mono ?_;rintro e g ⟨rfl,b⟩;go_wp2_with fail;go_ret;exact⟨rfl,((Y _ _).alloc (T _) _).trans (b.mono (by simp))⟩
section
open Go.ChangeShapes Go.WideShapes Go.ChangeAt Go.RowKit
theorem Tryz.cells24:I.cellsOf 24=2:=by kernel_rfl
theorem Tryz.cells22:I.cellsOf 22=1:=by kernel_rfl
theorem Tryz.cells3:I.cellsOf 3=1:=by kernel_rfl
theorem PR{w:V}{a:Zo}{v:ZJ}(h:w.cell? a=G v):a=⟨a.block,a.off,F⟩:=by
 obtain⟨b,o,s⟩:=a;cases s with
 |none=>rfl
 |some s=>unfold World.cell? at h;split at h<;>simp at h
theorem R1{base:Nat}{a:Zo}{u v:ZJ}(h:w.cells? base a 2=G [u,v]):w.cell? a=G u/\w.cell? (a.add 1)=G v:=by
 unfold World.cells? at h;split at h
 .have h0:a.add 0=a:=by simp[Addr.add]
  simp only[List.range_succ,List.range_zero,Zu,Zq,List.mapM_cons,List.mapM_nil,h0] at h;cases hu:w.cell? a with
  |none=>simp[hu] at h
  |some u'=>
   cases hv:w.cell? (a.add 1) with
   |none=>simp[hu,hv] at h
   |some v'=>simp[hu,hv] at h;exact⟨by rw[h.1],by rw[h.2]⟩
 .cases h
end
def SA(c:UInt8):Bool:=c==32 || c==10
def NM(r:Nat):Bool:=r==32 || r==10
def JG(cur:List UInt8):List (List UInt8):=if cur=[] then [] else [cur]
def UZ(cur:List UInt8):List UInt8->List (List UInt8)
 |[]=>JG cur
 |c::r=>if SA c=U then JG cur++UZ [] r else UZ (cur++[c]) r
theorem Nk:∀(k:Nat)(cur l:List UInt8),k<=l.length->(∀j,j<k->SA (l.getD j 0)=H)->UZ cur l=UZ (cur++l.take k) (l.drop k)
 |0,cur,l,_,_=>by simp
 |k+1,cur,[],h,_=>by simp at h
 |k+1,cur,b::t,h,hz=>by have h0:=hz 0 (by omega);simp only[List.getD_cons_zero] at h0;rw[UZ,if_neg (by simp[h0])];rw[Nk k (cur++[b]) t (by simpa using h) (fun j hj=>by have:=hz (j+1) (by omega);simpa using this)];simp
def JH(s:ByteArray)(st:Option Nat)(pos:Nat):List UInt8:=
 match st with
 |none=>[]
 |some a=>(s.data.toList.drop a).take (pos-a)
theorem RV(s:ByteArray)(a b:Nat)(h:a<b)(d:b<=s.size):JH s (G a) b≠[]:=by
 intro e;have:(JH s (G a) b).length=0:=by rw[e];rfl
 have c:s.data.toList.length=s.size:=ZR;simp only[JH,List.length_take,List.length_drop,c] at this;omega
theorem NN(c:UInt8)(h:128<=c.toNat):SA c=H:=by
 simp only[SA,Zn,beq_eq_false_iff_ne];constructor
 .rintro rfl;simp at h
 .rintro rfl;simp at h
theorem TU(c:UInt8):NM c.toNat=SA c:=by
 have e:∀n:UInt8,(c.toNat==n.toNat)=(c==n):=by intro n;rw[Bool.eq_iff_iff,beq_iff_eq,beq_iff_eq];exact UInt8.toNat_inj
 have b:=e 32;have a:=e 10;simp only[NM,SA,<-b,<-a];rfl
theorem Bk(s:ByteArray)(st:Option Nat)(pos k:Nat)(hst:∀a,st=G a->a<pos):
  JH s st pos++(s.data.toList.drop pos).take k=JH s (G (st.getD pos)) (pos+k):=by
 cases st with
 |none=>simp only[JH,Option.getD_none,Zu];rw[show pos+k-pos=k by omega]
 |some a=>have:=hst a rfl;simp only[JH,Option.getD_some];rw[show pos+k-a=(pos-a)+k by omega,List.take_add,List.drop_drop,show a+(pos-a)=pos by omega]
def Jt(s:ByteArray)(x:Nat×Nat):List UInt8:=(s.data.toList.drop x.1).take (x.2-x.1)
theorem Pq(s:ByteArray)(f pos:Nat)(st:Option Nat)(acc:List (Nat×Nat))(hp:pos<=s.size)(hlt:¬pos<s.size)(hst:∀a,st=G a->a<pos):
  (Lib.closeSpans s (Lib.spansFromP NM s f pos st acc)).map (Jt s)=acc.map (Jt s)++UZ (JH s st pos) (s.data.toList.drop pos):=by
 have b:s.data.toList.length=s.size:=ZR;have e:pos=s.size:=by omega
 rw[Lib.spansFromP_end NM s f pos st acc hlt];rw[List.drop_eq_nil_of_le (by rw[b];omega),UZ];cases st with
 |none=>simp[Lib.closeSpans,JH,JG]
 |some a=>rw[JG,if_neg (RV s a pos (hst a rfl) hp)];simp[Lib.closeSpans,JH,Jt,e]
theorem Ka(s:ByteArray):∀(f pos:Nat)(st:Option Nat)(acc:List (Nat×Nat)),pos<=s.size->s.size<=pos+f->(∀a,st=G a->a<pos)->
  (Lib.closeSpans s (Lib.spansFromP NM s f pos st acc)).map (Jt s)=acc.map (Jt s)++UZ (JH s st pos) (s.data.toList.drop pos)
 |0,pos,st,acc,hp,hf,hst=>Pq s 0 pos st acc hp (by omega) hst
 |f+1,pos,st,acc,hp,hf,hst=>by
  have hl:s.data.toList.length=s.size:=ZR;by_cases hlt:pos<s.size
  .have hd:=Lib.decode_N s pos;generalize hR:Utf8.decode s pos=D at hd;have hyes:NM D.1=U->Lib.spansFromP NM s (f+1) pos st acc=Lib.spansFromP NM s f (pos+D.2) F (acc++(st.map fun a=>(a,pos)).toList):=by intro h;cases st<;>simp[Lib.spansFromP,hlt,hR,h]
   have x:NM D.1=H->Lib.spansFromP NM s (f+1) pos st acc=Lib.spansFromP NM s f (pos+D.2) (G (st.getD pos)) acc:=by intro h;cases st<;>simp[Lib.spansFromP,hlt,hR,h]
   have hg:s.data.toList.drop pos=s.data.toList.getD pos 0::s.data.toList.drop (pos+1):=by rw[List.drop_eq_getElem_cons (by rw[hl];exact hlt)];simp[Zg,hl,hlt]
   have w:∀j,(s.data.toList.drop pos).getD j 0=s.data.toList.getD (pos+j) 0:=by intro j;simp[Zg,List.getElem?_drop]
   have e:=Lib.decodeN_conts (s.data.toList.length-pos) (s.data.toList.getD pos 0).toNat (s.data.toList.getD (pos+1) 0).toNat (s.data.toList.getD (pos+2) 0).toNat (s.data.toList.getD (pos+3) 0).toNat;have o:=Lib.decodeN_ge1 (s.data.toList.length-pos) (s.data.toList.getD pos 0).toNat (s.data.toList.getD (pos+1) 0).toNat (s.data.toList.getD (pos+2) 0).toNat (s.data.toList.getD (pos+3) 0).toNat;have p:=Lib.decodeN_shape (s.data.toList.length-pos) (s.data.toList.getD pos 0).toNat (s.data.toList.getD (pos+1) 0).toNat (s.data.toList.getD (pos+2) 0).toNat (s.data.toList.getD (pos+3) 0).toNat;rw[<-hd] at e o p;have q:∀k,D.2=k->NM D.1=H->pos+k<=s.size->(∀j,j<k->SA (s.data.toList.getD (pos+j) 0)=H)->1<=k-> (Lib.closeSpans s (Lib.spansFromP NM s (f+1) pos st acc)).map (Jt s)=acc.map (Jt s)++UZ (JH s st pos) (s.data.toList.drop pos):=by
    intro k hk l y hz h1;rw[x l,hk];have ih:=Ka s f (pos+k) (G (st.getD pos)) acc y (by omega) (by
     intro a u;cases st with
     |none=>simp at u;omega
     |some b=>have:=hst b rfl;simp at u;omega)
    rw[Nk k (JH s st pos) (s.data.toList.drop pos) (by simp[hl];omega) (fun j d=>by rw[w];exact hz j d),Bk s st pos k hst,List.drop_drop,<-ih]
   rcases p with⟨g,c⟩|⟨g,hn,r,i,c⟩|⟨g,hn,r,i,z,_,c⟩|⟨g,hn,r,i,z,a0,_,c⟩|c
   .by_cases l:SA (s.data.toList.getD pos 0)=U
    .have hr:NM D.1=U:=by rw[c];exact(TU _).trans l
     rw[hyes hr,c];rw[hg,UZ,if_pos l];cases st with
     |none=>rw[Ka s f (pos+1) F _ (by omega) (by omega) (by intro a h;cases h)];simp[JH,JG]
     |some a=>have u:=hst a rfl;rw[Ka s f (pos+1) F _ (by omega) (by omega) (by intro a h;cases h)];rw[JG,if_neg (RV s a pos u hp)];simp[JH,Jt]
    .have hs':SA (s.data.toList.getD pos 0)=H:=by simpa using l
     exact q 1 (by rw[c]) (by rw[c];exact(TU _).trans hs') (by omega) (fun j d=>by rw[show j=0 by omega];exact hs') (by omega)
   .refine q 2 (by rw[c]) ?_ (by omega) (fun j d=>?_) (by omega)
    .rw[c];simp only[NM,Zn,beq_eq_false_iff_ne];omega
    .refine NN _ ?_;obtain rfl|rfl:j=0\/j=1:=by omega
     .show 128<=(s.data.toList.getD pos 0).toNat;omega
     .omega
   .refine q 3 (by rw[c]) ?_ (by omega) (fun j d=>?_) (by omega)
    .rw[c];simp only[NM,Zn,beq_eq_false_iff_ne];omega
    .refine NN _ ?_;obtain rfl|rfl|rfl:j=0\/j=1\/j=2:=by omega
     .show 128<=(s.data.toList.getD pos 0).toNat;omega
     .omega
     .omega
   .refine q 4 (by rw[c]) ?_ (by omega) (fun j d=>?_) (by omega)
    .rw[c];simp only[NM,Zn,beq_eq_false_iff_ne];omega
    .refine NN _ ?_;obtain rfl|rfl|rfl|rfl:j=0\/j=1\/j=2\/j=3:=by omega
     .show 128<=(s.data.toList.getD pos 0).toNat;omega
     .omega
     .omega
     .omega
   .by_cases g:(s.data.toList.getD pos 0).toNat<128
    .have e2:=Lib.decodeN_ascii (s.data.toList.length-pos) _ (s.data.toList.getD (pos+1) 0).toNat (s.data.toList.getD (pos+2) 0).toNat (s.data.toList.getD (pos+3) 0).toNat g;rw[<-hd,c] at e2;have:=congrArg Prod.fst e2;simp only at this;omega
    .refine q 1 (by rw[c]) (by rw[c];rfl) (by omega) (fun j d=>?_) (by omega);rw[show j=0 by omega];exact NN _ (by show 128<=(s.data.toList.getD pos 0).toNat;omega)
  .exact Pq s (f+1) pos st acc hp hlt hst
def UI(k:Int):Bool:=k==7 || k==9
def UC(x:ByteArray):List ByteArray->Nat->Option Nat
 |[],_=>F
 |y::r,i=>if y=x then G i else UC x r (i+1)
def KV:List ByteArray:=[⟨#[110,111]⟩,⟨#[121,101,115]⟩]
def MQ:List ByteArray:=[⟨#[97,110,121]⟩,⟨#[110,117,109]⟩,⟨#[116,114,117,116,104]⟩]
def S9:List ByteArray:=[⟨#[97,100,100]⟩,⟨#[108,101,115,115]⟩,⟨#[105,102]⟩,⟨#[102,117,110]⟩,⟨#[99,97,108,108]⟩,⟨#[97,115]⟩]
def Kn(x:ByteArray):Option Nat:=UC x S9 4
def Jc(d:ByteArray):Option Int:=
 match Lib.atoiAll d.data.toList with
 |.ok v=>if (⟨(Lib.itoa v).toArray⟩:ByteArray)=d then G v else F
 |_=>F
def Ok:ByteArray:=⟨#[40]⟩
def Wt:ByteArray:=⟨#[41]⟩
def Da:ByteArray:=⟨#[116,111]⟩
def behind(x:ByteArray):List ByteArray->Option (List ByteArray)
 |y::r=>if y=x then G r else F
 |[]=>F
def YX:Nat->List ByteArray->Option (Ty×List ByteArray)
 |0,_=>F
 |_+1,[]=>F
 |n+1,x::r=>
  if x=Ok then
   (behind Da r).bind fun r1=>(YX n r1).bind fun p=>(YX n p.2).bind fun q=>(behind Wt q.2).map fun r4=>(⟨3,[p.1,q.1]⟩,r4)
  else (UC x MQ 0).map fun (k:Nat)=>(Ty.mk (k:Int) [],r)
structure Tm where
 k:Int
 n:Int
 t:Ty
 f:Ty
 l:List Tm
theorem Tm.ind{P:Tm->Prop}(h:∀k n t f l,(∀x,x∈l->P x)->P ⟨k,n,t,f,l⟩):∀t,P t
 |⟨k,n,t,f,l⟩=>h k n t f l fun x _=>Tm.ind h x
def Yn:Ty:=⟨0,[]⟩
def YA(k:Int):Nat:=if k=4\/k=5\/k=8 then 2 else if k=6 then 3 else if k=7\/k=9 then 1 else 0
def UH(f:List ByteArray->Option (Tm×List ByteArray)):Nat->List ByteArray->Option (List Tm×List ByteArray)
 |0,ws=>G ([],ws)
 |m+1,ws=>(f ws).bind fun p=>(UH f m p.2).map fun q=>(p.1::q.1,q.2)
def Xh(x:ByteArray)(r:List ByteArray):Option (Tm×List ByteArray):=
 match UC x KV 0 with
 |some b=>G (⟨3,(b:Int),Yn,Yn,[]⟩,r)
 |none=>
  match x.data.toList with
  |35::d=>(Jc ⟨d.toArray⟩).map fun n=>(⟨1,n,Yn,Yn,[]⟩,r)
  |_=>(Jc x).map fun n=>(⟨2,n,Yn,Yn,[]⟩,r)
def UT(n:Nat)(k:Nat)(ws:List ByteArray):Option (Ty×List ByteArray):=if UI (k:Int)=U then YX n ws else G (Yn,ws)
def Y0:Nat->List ByteArray->Option (Tm×List ByteArray)
 |0,_=>F
 |_+1,[]=>F
 |n+1,x::r=>
  if x=Ok then
   match r with
   |[]=>F
   |y::r1=>(Kn y).bind fun k=>(UT n k r1).bind fun p=>(UH (Y0 n) (YA (k:Int)) p.2).bind fun q=>(behind Wt q.2).map fun r4=>(⟨(k:Int),0,p.1,Yn,q.1⟩,r4)
  else Xh x r
def XG(t:Ty):Bool:=YC Yv t Yn
def Xt(ar ins k n:Int):Bool:=if k=1 then decide (0<=n)&&decide (n-ins<ar) else if k=2 then decide (-1000000<=n)&&decide (n<=1000000) else if k=3 then n==0 || n==1 else n==0
def X6(k:Int)(t f:Ty):Bool:=XG f&&(if UI k=U then Ym 4 t else XG t)
def Uv(ar ins:Int)(x:Tm):Bool:=(decide (1<=x.k)&&decide (x.k<=9)&&(x.l.length==YA x.k))&&(X6 x.k x.t x.f&&Xt ar ins x.k x.n)
def XK{α:Type}(f:α->Nat->Option Nat):List α->Nat->Option Nat
 |[],r=>G r
 |x::xs,r=>(f x r).bind fun r'=>XK f xs r'
def Xm(k ins:Int):Int:=if k=7 then ins+1 else ins
def Xo(ar:Int):Nat->Int->Tm->Nat->Option Nat
 |0,_,_,_=>F
 |_+1,_,_,0=>F
 |n+1,ins,x,r+1=>if Uv ar ins x=U then XK (fun y r'=>Xo ar n (Xm x.k ins) y r') x.l r else F
def bw(w:List UInt8):ByteArray:=⟨w.toArray⟩
theorem Cn(w:List UInt8):(bw w).data.toList=w:=rfl
def Dl(c:UInt8):Bool:=c==40 || c==41
def Mr(cur:List UInt8):List UInt8->List (List UInt8)
 |[]=>JG cur
 |c::r=>if SA c=U then JG cur++Mr [] r else if Dl c=U then JG cur++[[c]]++Mr [] r else Mr (cur++[c]) r
def YO(c:UInt8)(s:List UInt8):List UInt8:=s.flatMap fun x=>if x=c then [32,c,32] else [x]
theorem JA(c x:UInt8)(s:List UInt8):YO c (x::s)=(if x=c then [32,c,32] else [x])++YO c s:=rfl
theorem L2(c:UInt8)(a b:List UInt8):YO c (a++b)=YO c a++YO c b:=by simp[YO]
theorem KA:∀(s cur:List UInt8),UZ cur (YO 41 (YO 40 s))=Mr cur s
 |[],cur=>rfl
 |c::r,cur=>by
  by_cases h40:c=40
  .subst h40;rw[JA,if_pos rfl,L2];have e:YO 41 [32,40,32]=[32,40,32]:=rfl;have e1:SA 32=U:=rfl;have e2:SA 40=H:=rfl;have e3:Dl 40=U:=rfl;rw[e];simp only[Zq,Zu,UZ,Mr,e1,e2,e3,if_true];simp[JG,KA r []]
  .rw[JA,if_neg h40,L2];by_cases h41:c=41
   .subst h41;have e:YO 41 [41]=[32,41,32]:=rfl;have e1:SA 32=U:=rfl;have e2:SA 41=H:=rfl;have e3:Dl 41=U:=rfl;rw[e];simp only[Zq,Zu,UZ,Mr,e1,e2,e3,if_true];simp[JG,KA r []]
   .have e:YO 41 [c]=[c]:=by simp[YO,h41]
    have a:Dl c=H:=by simp[Dl,h40,h41]
    rw[e];simp only[Zq,Zu,UZ,Mr,a];cases SA c
    .simp[KA r (cur++[c])]
    .simp[KA r []]
section
open Go.Shelf
open Go.RowKit in
def Tryz.lays103_ren:Go.Shelf.Ren:=⟨fun|103=>54|210=>88|206=>127|n=>n,fun|9=>9|4=>4|24=>91|3=>3|n=>n,fun|n=>n⟩
theorem Tryz.lays103:Go.Proofs.Lays.n103 I Tryz.lays103_ren:={
 mixed:=by kernel_rfl
 f103:=fk func54 (by kernel_rfl)
 f206:=fk func127 (by kernel_rfl)
 f210:=fk func88 (by kernel_rfl)
 t3:=Zd
 a3:=ZK
 z3:=ZB
 v3:=Zk
 t4:=Zh
 a4:=ZL
 z4:=ZC
 v4:=Zl
 t9:=Zi
 a9:=ZM
 z9:=ZD
 v9:=Zm
 t24:=underlying91
 a24:=isAgg91
 z24:=sizeOf91
 v24:=zeroValue91 }
open Go.RowKit in
theorem Tryz.strings_CutPrefix(s p:ByteArray)(w:V):
  Zb I 54 #[.string s,.string p] w fun e w'=>e=S (.tuple #[.string ⟨(Lib.trimPrefix s.data.toList p.data.toList).toArray⟩,.bool (Lib.hasPrefix s.data.toList p.data.toList)])/\w'=w:=Any.strings_CutPrefix Tryz.lays103 s p w
open Go.RowKit in
open Go.RowKit in
open Go.RowKit in
open Go.Lib in
open Go.Lib in
open Go.Lib in
open Go.Lib in
open Go.RowKit Go.Sort Go.Lib in
open Go.RowKit Go.Sort Go.Lib in
open Go.RowKit Go.Sort Go.Lib in
open Go.RowKit Go.Sort Go.Lib in
open Go.RowKit Go.Sort Go.Lib in
def Tryz.laysM171_ren:Go.Shelf.Ren:=⟨fun|171=>90|243=>130|246=>171|283=>194|284=>195|285=>196|286=>197|129=>207|317=>206|318=>208|319=>209|320=>210|337=>212|338=>213|n=>n,fun|3=>3|9=>9|2=>2|4=>4|171=>240|0=>0|53=>233|37=>174|5=>5|173=>243|212=>265|51=>219|20=>20|213=>266|46=>218|232=>271|233=>272|n=>n,fun|17=>11|18=>12|19=>13|n=>n⟩
theorem Tryz.laysM171:Go.Proofs.LaysM.n171 I Tryz.laysM171_ren:={
 mixed:=by kernel_rfl
 f129:=fk func207 (by kernel_rfl)
 f171:=fk func90 (by kernel_rfl)
 f243:=fk func130 (by kernel_rfl)
 f246:=fk func171 (by kernel_rfl)
 f283:=fk func194 (by kernel_rfl)
 f284:=fk func195 (by kernel_rfl)
 f285:=fk func196 (by kernel_rfl)
 f286:=fk func197 (by kernel_rfl)
 f317:=fk func206 (by kernel_rfl)
 f318:=fk func208 (by kernel_rfl)
 f319:=fk func209 (by kernel_rfl)
 f320:=fk func210 (by kernel_rfl)
 f337:=fk func212 (by kernel_rfl)
 f338:=fk func213 (by kernel_rfl)
 t0:=Zr
 a0:=ZZ
 z0:=ZP
 v0:=Zv
 t2:=underlying2
 a2:=isAgg2
 z2:=sizeOf2
 v2:=zeroValue2
 t3:=Zd
 a3:=ZK
 z3:=ZB
 v3:=Zk
 t4:=Zh
 a4:=ZL
 z4:=ZC
 v4:=Zl
 t5:=Zs
 a5:=Z0
 z5:=ZQ
 v5:=Zw
 t9:=Zi
 a9:=ZM
 z9:=ZD
 v9:=Zm
 t20:=ZE
 a20:=Yb
 z20:=Z1
 v20:=ZN
 t37:=Zx
 a37:=Z2
 z37:=ZT
 v37:=ZF
 t46:=Zy
 a46:=Z3
 z46:=ZU
 v46:=ZG
 t51:=Zz
 a51:=Z4
 z51:=ZV
 v51:=ZH
 t53:=underlying233
 a53:=isAgg233
 z53:=sizeOf233
 v53:=zeroValue233
 t171:=underlying240
 a171:=isAgg240
 z171:=sizeOf240
 v171:=zeroValue240
 t173:=underlying243
 a173:=isAgg243
 z173:=sizeOf243
 v173:=zeroValue243
 t212:=underlying265
 a212:=isAgg265
 z212:=sizeOf265
 v212:=zeroValue265
 t213:=underlying266
 a213:=isAgg266
 z213:=sizeOf266
 t232:=underlying271
 a232:=isAgg271
 z232:=sizeOf271
 v232:=zeroValue271
 t233:=underlying272
 a233:=isAgg272
 z233:=sizeOf272
 v233:=zeroValue272
 g17:=by kernel_rfl
 g18:=by kernel_rfl
 g19:=by kernel_rfl
 i0:=by kernel_rfl
 i2:=by kernel_rfl
 i3:=by kernel_rfl
 i4:=by kernel_rfl
 i5:=by kernel_rfl
 i9:=by kernel_rfl
 i20:=by kernel_rfl
 i37:=by kernel_rfl
 i46:=by kernel_rfl
 i51:=by kernel_rfl
 i53:=by kernel_rfl
 i171:=by kernel_rfl
 i173:=by kernel_rfl
 i212:=by kernel_rfl
 i232:=by kernel_rfl
 i233:=by kernel_rfl
 m17:=by kernel_rfl
 m18:=by kernel_rfl
 m19:=by kernel_rfl }
open Go.RowKit Go.Sort Go.Lib in
theorem Tryz.strconv_Itoa(n:Int)(h0:-9223372036854775808<=n)(h1:n<=9223372036854775807)(w:V)(htab:Lib.TabIs I w "internal/strconv.uint64pow10" .u64 Lib.pow10Tab):
  Zb I 90 #[L M n] w fun e w'=>e=S (.string ⟨(Lib.itoa n).toArray⟩)/\∃k os,w'=grow (w.drewN k) os:=Any.strconv_Itoa Tryz.laysM171 n h0 h1 w htab
open Go.RowKit Go.Sort Go.Lib in
open Go.RowKit in
open Go.RowKit in
open Go.RowKit in
open Go.RowKit in
open Go.RowKit in
open Go.RowKit in
open Go.RowKit in
open Go.RowKit in
open Go.RowKit in
open Go.RowKit in
open Go.RowKit in
open Go.RowKit in
open Go.RowKit in
open Go.RowKit in
open Go.RowKit in
open Go.RowKit in
def Tryz.laysC172_ren:Go.Shelf.Ren:=⟨fun|172=>89|244=>128|245=>129|247=>166|279=>167|280=>168|281=>169|282=>170|287=>191|316=>192|171=>90|205=>193|321=>204|322=>205|243=>130|246=>171|283=>194|284=>195|285=>196|286=>197|129=>207|317=>206|318=>208|319=>209|320=>210|337=>212|338=>213|n=>n,fun|9=>9|3=>3|75=>153|76=>154|4=>4|5=>5|167=>210|37=>174|0=>0|85=>211|2=>2|168=>213|53=>233|175=>234|46=>218|210=>238|127=>208|145=>263|143=>261|21=>21|171=>240|173=>243|212=>265|51=>219|20=>20|213=>266|232=>271|233=>272|80=>88|n=>n,fun|15=>9|16=>10|17=>11|18=>12|19=>13|n=>n⟩
theorem Tryz.laysC172:Go.Proofs.LaysC.n172 I Tryz.laysC172_ren:={
 mixed:=by kernel_rfl
 f129:=fk func207 (by kernel_rfl)
 f171:=fk func90 (by kernel_rfl)
 f172:=fk func89 (by kernel_rfl)
 f205:=fk func193 (by kernel_rfl)
 f243:=fk func130 (by kernel_rfl)
 f244:=fk func128 (by kernel_rfl)
 f245:=fk func129 (by kernel_rfl)
 f246:=fk func171 (by kernel_rfl)
 f247:=fk func166 (by kernel_rfl)
 f279:=fk func167 (by kernel_rfl)
 f280:=fk func168 (by kernel_rfl)
 f281:=fk func169 (by kernel_rfl)
 f282:=fk func170 (by kernel_rfl)
 f283:=fk func194 (by kernel_rfl)
 f284:=fk func195 (by kernel_rfl)
 f285:=fk func196 (by kernel_rfl)
 f286:=fk func197 (by kernel_rfl)
 f287:=fk func191 (by kernel_rfl)
 f316:=fk func192 (by kernel_rfl)
 f317:=fk func206 (by kernel_rfl)
 f318:=fk func208 (by kernel_rfl)
 f319:=fk func209 (by kernel_rfl)
 f320:=fk func210 (by kernel_rfl)
 f321:=fk func204 (by kernel_rfl)
 f322:=fk func205 (by kernel_rfl)
 f337:=fk func212 (by kernel_rfl)
 f338:=fk func213 (by kernel_rfl)
 t0:=Zr
 a0:=ZZ
 z0:=ZP
 v0:=Zv
 t2:=underlying2
 a2:=isAgg2
 z2:=sizeOf2
 v2:=zeroValue2
 t3:=Zd
 a3:=ZK
 z3:=ZB
 v3:=Zk
 t4:=Zh
 a4:=ZL
 z4:=ZC
 v4:=Zl
 t5:=Zs
 a5:=Z0
 z5:=ZQ
 v5:=Zw
 t9:=Zi
 a9:=ZM
 z9:=ZD
 v9:=Zm
 t20:=ZE
 a20:=Yb
 z20:=Z1
 v20:=ZN
 t21:=ZI
 a21:=Yc
 z21:=Z5
 v21:=ZO
 t37:=Zx
 a37:=Z2
 z37:=ZT
 v37:=ZF
 t46:=Zy
 a46:=Z3
 z46:=ZU
 v46:=ZG
 t51:=Zz
 a51:=Z4
 z51:=ZV
 v51:=ZH
 t53:=underlying233
 a53:=isAgg233
 z53:=sizeOf233
 v53:=zeroValue233
 t75:=ZW
 a75:=isAgg153
 z75:=Yf
 v75:=Z6
 t76:=ZX
 a76:=isAgg154
 z76:=Yg
 v76:=Z7
 t85:=underlying211
 a85:=isAgg211
 z85:=sizeOf211
 v85:=zeroValue211
 t127:=ZY
 a127:=isAgg208
 z127:=Yh
 v127:=Z8
 t143:=underlying261
 a143:=isAgg261
 z143:=sizeOf261
 v143:=zeroValue261
 t145:=underlying263
 a145:=isAgg263
 z145:=sizeOf263
 v145:=zeroValue263
 t167:=underlying210
 a167:=isAgg210
 z167:=sizeOf210
 v167:=zeroValue210
 t168:=underlying213
 a168:=isAgg213
 z168:=sizeOf213
 v168:=zeroValue213
 t171:=underlying240
 a171:=isAgg240
 z171:=sizeOf240
 v171:=zeroValue240
 t173:=underlying243
 a173:=isAgg243
 z173:=sizeOf243
 v173:=zeroValue243
 t175:=underlying234
 a175:=isAgg234
 z175:=sizeOf234
 v175:=zeroValue234
 t210:=underlying238
 a210:=isAgg238
 z210:=sizeOf238
 v210:=zeroValue238
 t212:=underlying265
 a212:=isAgg265
 z212:=sizeOf265
 v212:=zeroValue265
 t213:=underlying266
 a213:=isAgg266
 z213:=sizeOf266
 t232:=underlying271
 a232:=isAgg271
 z232:=sizeOf271
 v232:=zeroValue271
 t233:=underlying272
 a233:=isAgg272
 z233:=sizeOf272
 v233:=zeroValue272
 g15:=by kernel_rfl
 g16:=by kernel_rfl
 g17:=by kernel_rfl
 g18:=by kernel_rfl
 g19:=by kernel_rfl
 t80:=underlying88
 a80:=isAgg88
 z80:=sizeOf88
 v80:=zeroValue88
 i0:=by kernel_rfl
 i2:=by kernel_rfl
 i3:=by kernel_rfl
 i4:=by kernel_rfl
 i5:=by kernel_rfl
 i9:=by kernel_rfl
 i20:=by kernel_rfl
 i21:=by kernel_rfl
 i37:=by kernel_rfl
 i46:=by kernel_rfl
 i51:=by kernel_rfl
 i53:=by kernel_rfl
 i75:=by kernel_rfl
 i76:=by kernel_rfl
 i80:=by kernel_rfl
 i85:=by kernel_rfl
 i127:=by kernel_rfl
 i143:=by kernel_rfl
 i145:=by kernel_rfl
 i167:=by kernel_rfl
 i168:=by kernel_rfl
 i171:=by kernel_rfl
 i173:=by kernel_rfl
 i175:=by kernel_rfl
 i210:=by kernel_rfl
 i212:=by kernel_rfl
 i232:=by kernel_rfl
 i233:=by kernel_rfl
 m15:=by kernel_rfl
 m16:=by kernel_rfl
 m17:=by kernel_rfl
 m18:=by kernel_rfl
 m19:=by kernel_rfl
 c0:=by kernel_rfl
 c2:=by kernel_rfl
 c3:=by kernel_rfl
 c4:=by kernel_rfl
 c5:=by kernel_rfl
 c9:=by kernel_rfl
 c20:=by kernel_rfl
 c21:=by kernel_rfl
 c37:=by kernel_rfl
 c46:=by kernel_rfl
 c51:=by kernel_rfl
 c53:=by kernel_rfl
 c75:=by kernel_rfl
 c76:=by kernel_rfl
 c80:=by kernel_rfl
 c85:=by kernel_rfl
 c127:=by kernel_rfl
 c143:=by kernel_rfl
 c145:=by kernel_rfl
 c167:=by kernel_rfl
 c168:=by kernel_rfl
 c171:=by kernel_rfl
 c173:=by kernel_rfl
 c175:=by kernel_rfl
 c210:=by kernel_rfl
 c212:=by kernel_rfl
 c213:=by kernel_rfl
 c232:=by kernel_rfl
 c233:=by kernel_rfl }
open Go.RowKit in
theorem Tryz.strconv_Atoi_ok(s:ByteArray)(hmax:s.size<=9223372036854775806)(v:Int)(h:Lib.atoiAll s.data.toList=.ok v)(w:V):
  Zb I 89 #[.string s] w fun e w'=>e=S (.tuple #[L M v,.nilIface])/\(w'=w\/∃t,w'=Lib.bytesWorld w 5 t):=Any.strconv_Atoi_ok Tryz.laysC172 s hmax v h w
open Go.RowKit in
theorem Tryz.strconv_Atoi_syntax(s:ByteArray)(hlim:s.size<=281474976710656)(h:Lib.atoiAll s.data.toList=.«syntax»)(ev:ZJ)(w:V)(hv:w.cell? ⟨9,0,F⟩=G ev)(hev:ev=.nilIface\/∃te pe,ev=.iface te pe):
  Zb I 89 #[.string s] w fun e w'=>∃N,e=S (.tuple #[L M (0),.iface 213 (R (G ⟨N,0,F⟩))])/\w.heap.size<=N/\w'.heap[N]?=G (Zj #[.string ⟨#[65,116,111,105]⟩,.string s,ev] 238 (0,0))/\Ze w.heap.size w w':=Any.strconv_Atoi_syntax Tryz.laysC172 s hlim h ev w hv hev
open Go.RowKit in
theorem Tryz.strconv_Atoi_range(s:ByteArray)(hlim:s.size<=281474976710656)(h:Lib.atoiAll s.data.toList=.range)(ev:ZJ)(w:V)(hv:w.cell? ⟨10,0,F⟩=G ev)(hev:ev=.nilIface\/∃te pe,ev=.iface te pe):
  Zb I 89 #[.string s] w fun e w'=>∃N,e=S (.tuple #[L M (Lib.atoiSat s.data.toList),.iface 213 (R (G ⟨N,0,F⟩))])/\w.heap.size<=N/\w'.heap[N]?=G (Zj #[.string ⟨#[65,116,111,105]⟩,.string s,ev] 238 (0,0))/\Ze w.heap.size w w':=Any.strconv_Atoi_range Tryz.laysC172 s hlim h ev w hv hev
open Go.RowKit Go.Lib in
open Go.RowKit Go.Lib in
open Go.RowKit Go.Lib in
open Go.RowKit Go.Lib in
def Tryz.lays155_ren:Go.Shelf.Ren:=⟨fun|155=>48|154=>82|138=>119|165=>120|143=>121|166=>122|197=>123|169=>124|195=>160|218=>161|240=>162|241=>163|219=>164|260=>165|276=>187|277=>188|217=>189|225=>176|224=>175|267=>190|266=>202|314=>203|n=>n,fun|9=>9|3=>3|4=>4|72=>176|0=>0|76=>154|105=>178|21=>21|5=>5|70=>173|20=>20|37=>174|75=>153|127=>208|164=>227|46=>218|119=>194|139=>232|138=>231|146=>257|51=>219|80=>88|n=>n,fun|1=>6|3=>7|4=>8|n=>n⟩
theorem Tryz.lays155:Go.Proofs.Lays.n155 I Tryz.lays155_ren:={
 mixed:=by kernel_rfl
 f138:=fk func119 (by kernel_rfl)
 f143:=fk func121 (by kernel_rfl)
 f154:=fk func82 (by kernel_rfl)
 f155:=fk func48 (by kernel_rfl)
 f165:=fk func120 (by kernel_rfl)
 f166:=fk func122 (by kernel_rfl)
 f169:=fk func124 (by kernel_rfl)
 f195:=fk func160 (by kernel_rfl)
 f197:=fk func123 (by kernel_rfl)
 f217:=fk func189 (by kernel_rfl)
 f218:=fk func161 (by kernel_rfl)
 f219:=fk func164 (by kernel_rfl)
 f224:=fk func175 (by kernel_rfl)
 f225:=fk func176 (by kernel_rfl)
 f240:=fk func162 (by kernel_rfl)
 f241:=fk func163 (by kernel_rfl)
 f260:=fk func165 (by kernel_rfl)
 f266:=fk func202 (by kernel_rfl)
 f267:=fk func190 (by kernel_rfl)
 f276:=fk func187 (by kernel_rfl)
 f277:=fk func188 (by kernel_rfl)
 f314:=fk func203 (by kernel_rfl)
 t0:=Zr
 a0:=ZZ
 z0:=ZP
 v0:=Zv
 t3:=Zd
 a3:=ZK
 z3:=ZB
 v3:=Zk
 t4:=Zh
 a4:=ZL
 z4:=ZC
 v4:=Zl
 t5:=Zs
 a5:=Z0
 z5:=ZQ
 v5:=Zw
 t9:=Zi
 a9:=ZM
 z9:=ZD
 v9:=Zm
 t20:=ZE
 a20:=Yb
 z20:=Z1
 v20:=ZN
 t21:=ZI
 a21:=Yc
 z21:=Z5
 v21:=ZO
 t37:=Zx
 a37:=Z2
 z37:=ZT
 v37:=ZF
 t46:=Zy
 a46:=Z3
 z46:=ZU
 v46:=ZG
 t51:=Zz
 a51:=Z4
 z51:=ZV
 v51:=ZH
 t70:=underlying173
 a70:=isAgg173
 z70:=sizeOf173
 v70:=zeroValue173
 t72:=underlying176
 a72:=isAgg176
 z72:=sizeOf176
 v72:=zeroValue176
 t75:=ZW
 a75:=isAgg153
 z75:=Yf
 v75:=Z6
 t76:=ZX
 a76:=isAgg154
 z76:=Yg
 v76:=Z7
 t105:=underlying178
 a105:=isAgg178
 z105:=sizeOf178
 v105:=zeroValue178
 t119:=underlying194
 a119:=isAgg194
 z119:=sizeOf194
 t127:=ZY
 a127:=isAgg208
 z127:=Yh
 v127:=Z8
 t138:=underlying231
 a138:=isAgg231
 z138:=sizeOf231
 v138:=zeroValue231
 t139:=underlying232
 a139:=isAgg232
 z139:=sizeOf232
 v139:=zeroValue232
 t146:=underlying257
 a146:=isAgg257
 z146:=sizeOf257
 v146:=zeroValue257
 t164:=underlying227
 a164:=isAgg227
 z164:=sizeOf227
 v164:=zeroValue227
 g1:=by kernel_rfl
 g3:=by kernel_rfl
 g4:=by kernel_rfl }
theorem Tryz.Builder_Extra_155:Builder.Extra I Tryz.lays155_ren:={
 sizeBuilder:=by kernel_rfl
 liesBuilder:=by kernel_rfl
 t5:=Zs
 a5:=Z0
 z5:=ZQ
 v5:=Zw
 infoByte:=by kernel_rfl
 cellsByte:=by kernel_rfl
 sizeByte:=by kernel_rfl
 neB5:=by decide }
open Go.RowKit Go.Lib in
theorem Tryz.strings_ReplaceAll(s old new:ByteArray)(m:Int)(w:V)(hs:s.size<4294967281)(hm:w.cell? ⟨6,0,F⟩=G (L M m))(h1:1<=old.size)(hlen:s.size+Lib.countB s old*new.size<=140737488355328):
  Zb I 48 #[.string s,.string old,.string new] w fun e w'=>e=S (.string ⟨(Lib.replaceAll s.data.toList old.data.toList new.data.toList).toArray⟩)/\Ze w.heap.size w w':=Any.strings_ReplaceAll Tryz.lays155 Tryz.Builder_Extra_155 s old new m w hs hm h1 hlen
open Go.RowKit Go.Lib in
open Go.RowKit Go.Lib in
def Tryz.laysM155_ren:Go.Shelf.Ren:=⟨fun|155=>48|154=>82|138=>119|165=>120|143=>121|166=>122|197=>123|169=>124|195=>160|218=>161|240=>162|241=>163|219=>164|260=>165|276=>187|277=>188|217=>189|225=>176|224=>175|267=>190|266=>202|314=>203|n=>n,fun|9=>9|3=>3|4=>4|72=>176|0=>0|76=>154|105=>178|21=>21|5=>5|70=>173|20=>20|37=>174|75=>153|127=>208|164=>227|46=>218|119=>194|139=>232|138=>231|146=>257|51=>219|80=>88|n=>n,fun|1=>6|3=>7|4=>8|n=>n⟩
theorem Tryz.laysM155:Go.Proofs.LaysM.n155 I Tryz.laysM155_ren:={
 mixed:=by kernel_rfl
 f138:=fk func119 (by kernel_rfl)
 f143:=fk func121 (by kernel_rfl)
 f154:=fk func82 (by kernel_rfl)
 f155:=fk func48 (by kernel_rfl)
 f165:=fk func120 (by kernel_rfl)
 f166:=fk func122 (by kernel_rfl)
 f169:=fk func124 (by kernel_rfl)
 f195:=fk func160 (by kernel_rfl)
 f197:=fk func123 (by kernel_rfl)
 f217:=fk func189 (by kernel_rfl)
 f218:=fk func161 (by kernel_rfl)
 f219:=fk func164 (by kernel_rfl)
 f224:=fk func175 (by kernel_rfl)
 f225:=fk func176 (by kernel_rfl)
 f240:=fk func162 (by kernel_rfl)
 f241:=fk func163 (by kernel_rfl)
 f260:=fk func165 (by kernel_rfl)
 f266:=fk func202 (by kernel_rfl)
 f267:=fk func190 (by kernel_rfl)
 f276:=fk func187 (by kernel_rfl)
 f277:=fk func188 (by kernel_rfl)
 f314:=fk func203 (by kernel_rfl)
 t0:=Zr
 a0:=ZZ
 z0:=ZP
 v0:=Zv
 t3:=Zd
 a3:=ZK
 z3:=ZB
 v3:=Zk
 t4:=Zh
 a4:=ZL
 z4:=ZC
 v4:=Zl
 t5:=Zs
 a5:=Z0
 z5:=ZQ
 v5:=Zw
 t9:=Zi
 a9:=ZM
 z9:=ZD
 v9:=Zm
 t20:=ZE
 a20:=Yb
 z20:=Z1
 v20:=ZN
 t21:=ZI
 a21:=Yc
 z21:=Z5
 v21:=ZO
 t37:=Zx
 a37:=Z2
 z37:=ZT
 v37:=ZF
 t46:=Zy
 a46:=Z3
 z46:=ZU
 v46:=ZG
 t51:=Zz
 a51:=Z4
 z51:=ZV
 v51:=ZH
 t70:=underlying173
 a70:=isAgg173
 z70:=sizeOf173
 v70:=zeroValue173
 t72:=underlying176
 a72:=isAgg176
 z72:=sizeOf176
 v72:=zeroValue176
 t75:=ZW
 a75:=isAgg153
 z75:=Yf
 v75:=Z6
 t76:=ZX
 a76:=isAgg154
 z76:=Yg
 v76:=Z7
 t105:=underlying178
 a105:=isAgg178
 z105:=sizeOf178
 v105:=zeroValue178
 t119:=underlying194
 a119:=isAgg194
 z119:=sizeOf194
 t127:=ZY
 a127:=isAgg208
 z127:=Yh
 v127:=Z8
 t138:=underlying231
 a138:=isAgg231
 z138:=sizeOf231
 v138:=zeroValue231
 t139:=underlying232
 a139:=isAgg232
 z139:=sizeOf232
 v139:=zeroValue232
 t146:=underlying257
 a146:=isAgg257
 z146:=sizeOf257
 v146:=zeroValue257
 t164:=underlying227
 a164:=isAgg227
 z164:=sizeOf227
 v164:=zeroValue227
 g1:=by kernel_rfl
 g3:=by kernel_rfl
 g4:=by kernel_rfl
 t80:=underlying88
 a80:=isAgg88
 z80:=sizeOf88
 v80:=zeroValue88
 i0:=by kernel_rfl
 i3:=by kernel_rfl
 i4:=by kernel_rfl
 i5:=by kernel_rfl
 i9:=by kernel_rfl
 i20:=by kernel_rfl
 i21:=by kernel_rfl
 i37:=by kernel_rfl
 i46:=by kernel_rfl
 i51:=by kernel_rfl
 i70:=by kernel_rfl
 i72:=by kernel_rfl
 i75:=by kernel_rfl
 i76:=by kernel_rfl
 i80:=by kernel_rfl
 i105:=by kernel_rfl
 i127:=by kernel_rfl
 i138:=by kernel_rfl
 i139:=by kernel_rfl
 i146:=by kernel_rfl
 i164:=by kernel_rfl
 m1:=by kernel_rfl
 s1_3:=fun w h=>Go.Proofs.cell_of_shapedOpen_int (zero:=#[L M 0]) (t:=3) h (of_decide_eq_true (by kernel_rfl)) (by kernel_rfl) rfl (by kernel_rfl) (by kernel_rfl) Zd
 m3:=by kernel_rfl
 m4:=by kernel_rfl }
open Go.RowKit Go.Lib in
open Go.RowKit Go.Lib in
open Go.RowKit Go.Lib in
open Go.RowKit Go.Lib in
open Go.RowKit Go.Lib in
open Go.RowKit Go.Lib in
open Go.RowKit Go.Lib in
open Go.RowKit Go.Lib in
def Tryz.lays229_ren:Go.Shelf.Ren:=⟨fun|229=>49|n=>n,fun|9=>9|40=>87|31=>56|152=>147|3=>3|0=>0|4=>4|21=>21|154=>149|n=>n,fun|n=>n⟩
theorem Tryz.lays229:Go.Proofs.Lays.n229 I Tryz.lays229_ren:={
 mixed:=by kernel_rfl
 f229:=fk func49 (by kernel_rfl)
 t0:=Zr
 a0:=ZZ
 z0:=ZP
 v0:=Zv
 t3:=Zd
 a3:=ZK
 z3:=ZB
 v3:=Zk
 t4:=Zh
 a4:=ZL
 z4:=ZC
 v4:=Zl
 t9:=Zi
 a9:=ZM
 z9:=ZD
 v9:=Zm
 t21:=ZI
 a21:=Yc
 z21:=Z5
 v21:=ZO
 t31:=underlying56
 a31:=isAgg56
 z31:=sizeOf56
 v31:=zeroValue56
 t40:=underlying87
 a40:=isAgg87
 z40:=sizeOf87
 v40:=zeroValue87
 t152:=underlying147
 a152:=isAgg147
 z152:=sizeOf147
 v152:=zeroValue147
 t154:=underlying149
 a154:=isAgg149
 z154:=sizeOf149
 v154:=zeroValue149 }
open Go.RowKit Go.Lib in
open Go.RowKit Go.Lib in
open Go.RowKit Go.Lib in
open Go.RowKit Go.Lib in
open Go.RowKit Go.Lib in
open Go.RowKit Go.Lib in
theorem Tryz.strings_FieldsFunc_grows(g:Nat)(lb:Array ZJ)(eg:∀args w,(callFunc g args).run I w=.ok (.enter g args) w)(p:Nat->Bool)(s:ByteArray)(w:V)(hs:s.size<=4294967296)(hp:PredGrows I g lb p w):
  Zb I 49 #[.string s,.func (.func g) #[] lb] w fun e w'=>∃A,e=S (C (G ⟨A,0,F⟩) (Lib.goFieldsP p s).length (Lib.goFieldsP p s).length)/\w.heap.size<=A/\
   w'.ownsRow w.heap.size 9 1 (C (G ⟨A,0,F⟩) (Lib.goFieldsP p s).length (Lib.goFieldsP p s).length) (Lib.goFieldsP p s).length ((Lib.goFieldsP p s).map Value.string)/\Ze w.heap.size w w':=Any.strings_FieldsFunc_grows Tryz.lays229 g lb eg p s w hs hp (by kernel_rfl) (by kernel_rfl)
end
structure Xy where
 k:Int
 n:Int
 b:Bool
def Yl:Xy:=⟨0,0,H⟩
def Yu:Xy:=⟨6,0,H⟩
def MF:Xy:=⟨5,0,H⟩
def J9(o:Xy):Xy:=⟨o.k,o.n,!o.b⟩
structure Ca where
 opens:Bool
 wrong:Xy
 kind:Int
 ends:Xy
 given:Option Ca
 answer:Option Ca
 hides:Bool
theorem Ca.ind{P:Ca->Prop}(h:∀o w k e g a d,(∀x,g=G x->P x)->(∀x,a=G x->P x)->P ⟨o,w,k,e,g,a,d⟩):∀c,P c
 |⟨o,w,k,e,g,a,d⟩=>h o w k e g a d (fun x _hx=>Ca.ind h x) (fun x _hx=>Ca.ind h x)
 termination_by c=>SizeOf.sizeOf c
 decreasing_by
  .subst _hx;simp;omega
  .subst _hx;simp;omega
def YI:Option Ca->Option Ca->Option Ca
 |none,d=>d
 |some c,F=>G c
 |some ⟨o,w,k,e,g,a,h⟩,G ⟨_,w',k',e',g',a',h'⟩=>
  if e.k=0 then
   if k'=k then G ⟨o,w,k,e',YI g' g,YI a a',h'⟩
   else G ⟨o,w,k,w',F,F,H⟩
  else G ⟨o,w,k,e,g,a,h⟩
 termination_by c d=>SizeOf.sizeOf c+SizeOf.sizeOf d
 decreasing_by
  .simp;omega
  .simp;omega
theorem Xs(d:Option Ca):YI F d=d:=by rw[YI]
theorem XB(c:Option Ca):YI c F=c:=by cases c<;>rw[YI]
theorem Y6(o:Bool)(w:Xy)(k:Int)(e:Xy)(g a:Option Ca)(h:Bool)(j:Bool)(w':Xy)(i:Int)(c:Xy)(d a':Option Ca)(b:Bool):
  YI (G ⟨o,w,k,e,g,a,h⟩) (G ⟨j,w',i,c,d,a',b⟩)=if e.k=0 then (if i=k then G ⟨o,w,k,c,YI d g,YI a a',b⟩ else G ⟨o,w,k,w',F,F,H⟩) else G ⟨o,w,k,e,g,a,h⟩:=by
 rw[YI]
theorem Jg(c d:Ca):YI (G c) (G d)=if c.ends.k=0 then (if d.kind=c.kind then G ⟨c.opens,c.wrong,c.kind,d.ends,YI d.given c.given,YI c.answer d.answer,d.hides⟩ else G ⟨c.opens,c.wrong,c.kind,d.wrong,F,F,H⟩) else G c:=by cases c;cases d;rw[Y6]
def Ys(t:Ty):Ty:=if t.k=3 then ⟨3,[Yn,Yn]⟩ else ⟨t.k,[]⟩
def YU(c:Option Ca)(k:Int):Ca:=match c with
 |some c=>c
 |none=>⟨H,Yl,k,Yl,F,F,H⟩
def YZ:Nat->Ty->Ty->Xy->Option Ca
 |0,_,_,_=>F
 |m+1,f,t,bl=>
  if YC Yv f t=U then F
  else if f.k=3/\t.k=3 then G ⟨H,Yl,3,Yl,YZ m (t.l.getD 0 Yn) (f.l.getD 0 Yn) (J9 bl),YZ m (f.l.getD 1 Yn) (t.l.getD 1 Yn) bl,H⟩
  else if t.k=0 then
   let c:=YU (YZ m f (Ys f) bl) f.k
   G ⟨c.opens,c.wrong,c.kind,c.ends,c.given,c.answer,U⟩
  else if f.k=0 then
   let c:=YU (YZ m (Ys t) t bl) t.k
   G ⟨U,bl,c.kind,c.ends,c.given,c.answer,c.hides⟩
  else G ⟨H,Yl,f.k,Yu,F,F,H⟩
structure YK where
 k:Int
 n:Int
 body:Tm
 env:List YK
 inn:List YK
 given:Option Ca
 answer:Option Ca
 az:Int
theorem YK.ind{P:YK->Prop}(h:∀k n b e i g a s,(∀x,x∈e->P x)->(∀x,x∈i->P x)->P ⟨k,n,b,e,i,g,a,s⟩):∀v,P v
 |⟨k,n,b,e,i,g,a,s⟩=>h k n b e i g a s (fun x _=>YK.ind h x) (fun x _=>YK.ind h x)
def Cv:Tm:=⟨0,0,Yn,Yn,[]⟩
def XF(n:Int):YK:=⟨1,n,Cv,[],[],F,F,0⟩
def Xk(n:Int):YK:=⟨2,n,Cv,[],[],F,F,0⟩
def ME(x:Tm)(e:List YK):YK:=⟨3,0,x,e,[],F,F,0⟩
def J4(v:YK)(g a:Option Ca):YK:=⟨4,0,Cv,[],[v],g,a,0⟩
def XO(v:YK)(k:Int):YK:=⟨5,0,Cv,[],[v],F,F,k⟩
def YK.core(v:YK):YK:=v.inn.headD (XF 0)
def X7(f:YK)(c:Ca):YK:=if f.k=4 then J4 f.core (YI c.given f.given) (YI f.answer c.answer) else J4 f c.given c.answer
def No(c:Ca)(v:YK):YK:=
 let v1:=if c.opens=U then v.core else v
 let v2:=if c.given.isSome=U\/c.answer.isSome=U then X7 v1 c else v1
 if c.hides=U then XO v2 c.kind else v2
def XM(v:YK):Xy:=
 let v:=if v.k=5 then v.core else v
 if v.k=1 then ⟨1,v.n,H⟩ else if v.k=2 then ⟨2,v.n,H⟩ else ⟨3,0,H⟩
structure Xx where
 d:Int
 x:Tm
 s:List YK
 c:Option Ca
def YY(x:Tm)(s:List YK):Xx:=⟨1,x,s,F⟩
def Pd(d:Int):Xx:=⟨d,Cv,[],F⟩
def U5(x:Tm)(s:List YK):Xx:=⟨4,x,s,F⟩
def Xc(c:Option Ca):Xx:=⟨6,Cv,[],c⟩
structure St where
 ts:List Xx
 vs:List YK
 calls:Nat
 fuel:Nat
 ended:Xy
def St.push(s:St)(v:YK):St:=⟨s.ts,v::s.vs,s.calls,s.fuel,s.ended⟩
def St.plan(s:St)(t:Xx):St:=⟨t::s.ts,s.vs,s.calls,s.fuel,s.ended⟩
def St.stop(s:St)(o:Xy):St:=⟨s.ts,s.vs,s.calls,s.fuel,o⟩
def Tm.at(x:Tm)(j:Nat):Tm:=x.l.getD j Cv
def Je(s:St)(x:Tm)(e:List YK)(d:Int):St:=((s.plan (Pd d)).plan (YY (x.at 1) e)).plan (YY (x.at 0) e)
def Kq(n:Int):Xy:=⟨4,n,H⟩
def YW(s:St)(x:Tm)(e:List YK):St:=
 if x.k=1 then (match e[x.n.toNat]? with
  |some v=>s.push v
  |none=>s.stop Yu)
 else if x.k=2 then s.push (XF x.n)
 else if x.k=3 then s.push (Xk x.n)
 else if x.k=7 then s.push (ME (x.at 0) e)
 else if x.k=9 then s.plan (YY (x.at 0) e)
 else if x.k=10 then (s.plan (Xc (YZ 100 x.f x.t (Kq x.n)))).plan (YY (x.at 0) e)
 else if x.k=6 then (s.plan (U5 x e)).plan (YY (x.at 0) e)
 else if x.k=4 then Je s x e 2
 else if x.k=5 then Je s x e 3
 else Je s x e 5
def U4(n:Int):Int:=max (-1000000) (min n 1000000)
def J2(s:St)(f g:YK):St:=if s.calls=s.fuel then s.stop MF else ⟨YY f.body (g::f.env)::s.ts,s.vs,s.calls+1,s.fuel,s.ended⟩
def MN(s:St)(f g:YK):St:=⟨Xc f.given::Pd 7::Xc f.answer::s.ts,g::f.core::s.vs,s.calls,s.fuel,s.ended⟩
def UB(s:St)(f g:YK):St:=if f.k=3 then J2 s f g else if f.k=4 then MN s f g else s.stop Yu
def Xu(s:St)(c:Option Ca)(v:YK):St:=match c with
 |none=>s.push v
 |some c=>
  if c.opens=U/\v.k≠5 then s.stop Yu
  else if c.opens=U/\v.az≠c.kind then s.stop c.wrong
  else if c.ends.k≠0 then s.stop c.ends
  else s.push (No c v)
def Nu(s:St)(t:Xx):St:=
 if t.d=1 then YW s t.x t.s else
 match s.vs with
 |v::r=>
  if t.d=6 then Xu ⟨s.ts,r,s.calls,s.fuel,s.ended⟩ t.c v
  else if t.d=4 then (if v.k=2 then (St.plan ⟨s.ts,r,s.calls,s.fuel,s.ended⟩ (YY (t.x.at (if v.n=1 then 1 else 2)) t.s)) else St.stop ⟨s.ts,r,s.calls,s.fuel,s.ended⟩ Yu)
  else match r with
  |u::q=>
   if t.d=2 then ⟨s.ts,XF (U4 (u.n+v.n))::q,s.calls,s.fuel,if u.k=1/\v.k=1 then s.ended else Yu⟩
   else if t.d=3 then ⟨s.ts,Xk (if u.n<v.n then 1 else 0)::q,s.calls,s.fuel,if u.k=1/\v.k=1 then s.ended else Yu⟩
   else UB ⟨s.ts,q,s.calls,s.fuel,s.ended⟩ u v
  |[]=>s
 |[]=>s
def UJ(s:St):St:=
 if s.ended.k=0 then (match s.ts with
  |[]=>s
  |t::r=>Nu ⟨r,s.vs,s.calls,s.fuel,s.ended⟩ t)
 else s
def XE:Nat->St->St
 |0,s=>s
 |n+1,s=>XE n (UJ s)
def St.done(s:St):Prop:=s.ended.k≠0\/s.ts=[]
theorem M8{s:St}(h:s.done):UJ s=s:=by
 unfold UJ;rcases h with h|h
 .rw[if_neg h]
 .rw[h];simp
theorem Lw{s:St}(h:s.done):∀n,XE n s=s
 |0=>rfl
 |n+1=>by rw[XE,M8 h,Lw h n]
theorem Jv(s:St):∀a b,XE (a+b) s=XE b (XE a s)
 |0,b=>by simp[XE]
 |a+1,b=>by rw[show a+1+b=(a+b)+1 by omega,XE,XE,Jv (UJ s) a b]
theorem Ps(s:St)(n:Nat):XE (n+1) s=UJ (XE n s):=by rw[Jv s n 1];rfl
def RM(s:St):Xy:=if s.ended.k=0 then XM (s.vs.headD (XF 0)) else s.ended
def MX(x:Tm)(fuel:Nat):St:=⟨[YY x []],[],0,fuel,Yl⟩
def TF:Nat:=200000
def X9(x:Tm)(fuel:Nat):Xy:=RM (XE TF (MX x fuel))
theorem Qb(x:Tm)(a:Nat):X9 x a=RM (XE TF (MX x a)):=by rw[X9]
def Oi(k:Int):Nat:=if k=10 then 1 else YA k
def KX:Tm->Prop
 |⟨k,n,t,f,l⟩=>(1<=k/\k<=10/\l.length=Oi k/\-1000000<=n/\n<=1000000/\(k=1->0<=n)/\(k=10->Ym 46 t=U/\Ym 46 f=U))/\∀x,x∈l->KX x
theorem Ll{n:Int}{t f:Ty}{l:List Tm}:KX ⟨k,n,t,f,l⟩↔(1<=k/\k<=10/\l.length=Oi k/\-1000000<=n/\n<=1000000/\(k=1->0<=n)/\(k=10->Ym 46 t=U/\Ym 46 f=U))/\∀x,x∈l->KX x:=by rw[KX]
theorem KX.top{x:Tm}(h:KX x):1<=x.k/\x.k<=10/\x.l.length=Oi x.k/\-1000000<=x.n/\x.n<=1000000/\(x.k=1->0<=x.n)/\(x.k=10->Ym 46 x.t=U/\Ym 46 x.f=U):=by cases x;exact(Ll.1 h).1
theorem Tm.at_mem{x:Tm}(h:j<x.l.length):x.at j∈x.l:=by unfold Tm.at;rw[Zg,Z9 h];exact Ya h
theorem Tm.at_eq{x:Tm}(h:j<x.l.length):x.at j=x.l[j]:=by unfold Tm.at;rw[Zg,Z9 h];rfl
theorem KX.part{x:Tm}(h:KX x)(a:j<x.l.length):KX (x.at j):=by
 have b:=Tm.at_mem a;cases x
 exact(Ll.1 h).2 _ b
def Tm.tsz:Tm->Nat
 |⟨_,_,_,_,l⟩=>(l.map fun x=>x.tsz).sum+1
theorem Tm.tsz_mk(k n:Int)(t f:Ty)(l:List Tm):(Tm.mk k n t f l).tsz=(l.map Tm.tsz).sum+1:=by rw[Tm.tsz]
theorem Tm.tsz_eq(x:Tm):x.tsz=(x.l.map Tm.tsz).sum+1:=by cases x;rw[Tm.tsz_mk]
def Rm:Ca->Prop
 |⟨o,w,_,_,g,a,_⟩=>(o=U->w.k=4)/\(∀x,(h:g=G x)->Rm x)/\(∀x,(h:a=G x)->Rm x)
 termination_by c=>SizeOf.sizeOf c
 decreasing_by
  .subst h;simp;omega
  .subst h;simp;omega
theorem Km{o:Bool}{w:Xy}{e:Xy}{g a:Option Ca}{d:Bool}:Rm ⟨o,w,k,e,g,a,d⟩↔(o=U->w.k=4)/\(∀x,g=G x->Rm x)/\(∀x,a=G x->Rm x):=by rw[Rm]
def J7(c:Option Ca):Prop:=∀x,c=G x->Rm x
theorem Y7:J7 F:=fun _ h=>by cases h
theorem Jm{c:Ca}(h:Rm c):J7 (G c):=fun _ e=>by cases e;exact h
theorem Rm.opens{c:Ca}(h:Rm c):c.opens=U->c.wrong.k=4:=by cases c;exact(Km.1 h).1
theorem Rm.given{c:Ca}(h:Rm c):J7 c.given:=by cases c;exact(Km.1 h).2.1
theorem Rm.answer{c:Ca}(h:Rm c):J7 c.answer:=by cases c;exact(Km.1 h).2.2
theorem Ol:∀(n:Nat)(c d:Option Ca),SizeOf.sizeOf c+SizeOf.sizeOf d<=n->J7 c->J7 d->J7 (YI c d)
 |0,c,d,h,_,_=>by cases c<;>simp at h
 |n+1,F,d,_,_,h=>by rw[Xs];exact h
 |n+1,G c,F,_,h,_=>by rw[XB];exact h
 |n+1,G ⟨o,w,k,e,g,a,h⟩,G ⟨o',w',k',e',g',a',h'⟩,hn,hc,hd=>by
  have hc:=hc _ rfl;have hd:=hd _ rfl;simp at hn;rw[Y6];split
  .split
   .exact Jm (Km.2 ⟨hc.opens,Ol n g' g (by omega) hd.given hc.given,Ol n a a' (by omega) hc.answer hd.answer⟩)
   .exact Jm (Km.2 ⟨hc.opens,Y7,Y7⟩)
  .exact Jm hc
theorem PA{c d:Option Ca}(hc:J7 c)(hd:J7 d):J7 (YI c d):=Ol _ c d (T _) hc hd
theorem LN:∀(n:Nat)(f t:Ty)(o:Xy),o.k=4->J7 (YZ n f t o)
 |0,_,_,_,_=>Y7
 |n+1,f,t,o,ho=>by
  have hs:∀(c:Option Ca)(k:Int),J7 c->Rm (YU c k):=fun c k h=>by
   cases c with
   |none=>exact Km.2 ⟨fun h=>(by cases h),Y7,Y7⟩
   |some c=>exact h c rfl
  rw[YZ];split
  .exact Y7
  split
  .exact Jm (Km.2 ⟨fun h=>(by cases h),LN n _ _ _ ho,LN n _ _ _ ho⟩)
  split
  .have h:=hs _ f.k (LN n f (Ys f) o ho);exact Jm (Km.2 ⟨h.opens,h.given,h.answer⟩)
  split
  .have h:=hs _ t.k (LN n (Ys t) t o ho);exact Jm (Km.2 ⟨fun _=>ho,h.given,h.answer⟩)
  .exact Jm (Km.2 ⟨fun h=>(by cases h),Y7,Y7⟩)
def Ja:YK->Prop
 |⟨k,n,b,e,i,g,a,_⟩=>(1<=k/\k<=5/\-1000000<=n/\n<=1000000/\(k=3->KX b/\b.tsz<=100)/\(k=4->∃v,i=[v]/\v.k≠4)/\(k=5->∃v,i=[v])/\J7 g/\J7 a)/\(∀x,x∈e->Ja x)/\(∀x,x∈i->Ja x)
theorem JF{n:Int}{b:Tm}{e i:List YK}{g a:Option Ca}{s:Int}:Ja ⟨k,n,b,e,i,g,a,s⟩↔(1<=k/\k<=5/\-1000000<=n/\n<=1000000/\(k=3->KX b/\b.tsz<=100)/\(k=4->∃v,i=[v]/\v.k≠4)/\(k=5->∃v,i=[v])/\J7 g/\J7 a)/\(∀x,x∈e->Ja x)/\(∀x,x∈i->Ja x):=by rw[Ja]
theorem Ja.top{v:YK}(h:Ja v):1<=v.k/\v.k<=5/\-1000000<=v.n/\v.n<=1000000:=by cases v;have:=(JF.1 h).1;exact⟨this.1,this.2.1,this.2.2.1,this.2.2.2.1⟩
theorem Ja.body{v:YK}(h:Ja v)(a:v.k=3):KX v.body/\v.body.tsz<=100:=by cases v;exact(JF.1 h).1.2.2.2.2.1 a
theorem Ja.given{v:YK}(h:Ja v):J7 v.given:=by cases v;exact(JF.1 h).1.2.2.2.2.2.2.2.1
theorem Ja.answer{v:YK}(h:Ja v):J7 v.answer:=by cases v;exact(JF.1 h).1.2.2.2.2.2.2.2.2
theorem Ja.env{v:YK}(h:Ja v):∀x,x∈v.env->Ja x:=by cases v;exact(JF.1 h).2.1
theorem Ja.core4{v:YK}(h:Ja v)(a:v.k=4):v.inn=[v.core]/\v.core.k≠4/\Ja v.core:=by
 cases v
 obtain⟨⟨_,_,_,_,_,b,_,_,_⟩,_,hi⟩:=JF.1 h;obtain⟨u,rfl,hu⟩:=b a;exact⟨rfl,hu,hi u (by simp)⟩
theorem Ja.core5{v:YK}(h:Ja v)(b:v.k=5):v.inn=[v.core]/\Ja v.core:=by
 cases v
 obtain⟨⟨_,_,_,_,_,_,a,_,_⟩,_,hi⟩:=JF.1 h;obtain⟨u,rfl⟩:=a b;exact⟨rfl,hi u (by simp)⟩
theorem TY{n:Int}(h:-1000000<=n)(b:n<=1000000):Ja (XF n):=by refine JF.2 ⟨⟨by omega,by omega,h,b,by omega,by omega,by omega,Y7,Y7⟩,fun x a=>(by cases a),fun x a=>(by cases a)⟩
theorem Pz{n:Int}(h:-1000000<=n)(b:n<=1000000):Ja (Xk n):=by refine JF.2 ⟨⟨by omega,by omega,h,b,by omega,by omega,by omega,Y7,Y7⟩,fun x a=>(by cases a),fun x a=>(by cases a)⟩
theorem BZ{b:Tm}{e:List YK}(h:KX b)(c:b.tsz<=100)(a:∀x,x∈e->Ja x):Ja (ME b e):=by refine JF.2 ⟨⟨by omega,by omega,by omega,by omega,fun _=>⟨h,c⟩,by omega,by omega,Y7,Y7⟩,a,fun x d=>by cases d⟩
theorem Rk{v:YK}{g a:Option Ca}(h:Ja v)(d:v.k≠4)(c:J7 g)(e:J7 a):Ja (J4 v g a):=by refine JF.2 ⟨⟨by omega,by omega,by omega,by omega,by omega,fun _=>⟨v,rfl,d⟩,by omega,c,e⟩,fun x b=>(by cases b),fun x b=>?_⟩;simp at b;subst b;exact h
theorem VK{v:YK}(h:Ja v):Ja (XO v k):=by refine JF.2 ⟨⟨by omega,by omega,by omega,by omega,by omega,by omega,fun _=>⟨v,rfl⟩,Y7,Y7⟩,fun x a=>(by cases a),fun x a=>?_⟩;simp at a;subst a;exact h
theorem SY{f:YK}{c:Ca}(h:Ja f)(a:Rm c):Ja (X7 f c):=by
 unfold X7;split
 .rename_i hk;obtain⟨_,b,d⟩:=h.core4 hk;exact Rk d b (PA a.given h.given) (PA h.answer a.answer)
 .rename_i hk;exact Rk h hk a.given a.answer
theorem CI{c:Ca}{v:YK}(h:Ja v)(d:Rm c)(e:c.opens=U->v.k=5):Ja (No c v):=by
 have a:Ja (if c.opens=U then v.core else v):=by
  split
  .rename_i ho';exact(h.core5 (e ho')).2
  .exact h
 unfold No;generalize (if c.opens=U then v.core else v)=u at a;have b:Ja (if c.given.isSome=U\/c.answer.isSome=U then X7 u c else u):=by
  split
  .exact SY a d
  .exact a
 simp only;generalize (if c.given.isSome=U\/c.answer.isSome=U then X7 u c else u)=u2 at b;split
 .exact VK b
 .exact b
def Ao(t:Xx):Prop:=(t.d=1\/t.d=4->KX t.x/\t.x.tsz<=100/\∀v,v∈t.s->Ja v)/\(t.d=4->t.x.k=6)/\J7 t.c
def fl:List Bool->List YK->Prop
 |[],[]=>True
 |b::q,v::r=>(b=U->v.k≠4)/\fl q r
 |_,_=>False
def P0:List Xx->List Bool->Prop
 |[],q=>∃b,q=[b]
 |t::ts,q=>(t.d=1/\P0 ts (H::q))\/((t.d=4\/t.d=6)/\∃b r,q=b::r/\P0 ts (H::r))\/((t.d=2\/t.d=3\/t.d=5)/\∃a b r,q=a::b::r/\P0 ts (H::r))\/(t.d=7/\∃a r,q=a::U::r/\P0 ts (H::r))
structure Sm(s:St):Prop where
 q:∃q,P0 s.ts q/\fl q s.vs
 vs:∀v,v∈s.vs->Ja v
 ts:∀t,t∈s.ts->Ao t
 le:s.calls<=s.fuel
 max:s.fuel<=100
def tw(t:Xx):Nat:=if t.d=1 then 8*t.x.tsz else if t.d=4 then 8*(t.x.at 1).tsz+8*(t.x.at 2).tsz+1 else if t.d=5 then 5 else 1
def mu(s:St):Nat:=(s.fuel-s.calls)*1000+(s.ts.map tw).sum
theorem T9{v:YK}{r:List YK}(h:fl q r):fl (H::q) (v::r):=⟨fun h=>(by cases h),h⟩
theorem J1{b:Bool}{q:List Bool}{vs:List YK}(h:fl (b::q) vs):∃v r,vs=v::r/\(b=U->v.k≠4)/\fl q r:=by
 match vs,h with
 |v::r,h=>exact⟨v,r,rfl,h.1,h.2⟩
theorem KU{t:Xx}{ts:List Xx}(hd:t.d=1)(h:P0 ts (H::q)):P0 (t::ts) q:=.inl ⟨hd,h⟩
theorem PZ{t:Xx}{ts:List Xx}{b:Bool}(hd:t.d=4\/t.d=6)(h:P0 ts (H::q)):P0 (t::ts) (b::q):=.inr (.inl ⟨hd,b,q,rfl,h⟩)
theorem CA{t:Xx}{ts:List Xx}{a b:Bool}(hd:t.d=2\/t.d=3\/t.d=5)(h:P0 ts (H::q)):P0 (t::ts) (a::b::q):=.inr (.inr (.inl ⟨hd,a,b,q,rfl,h⟩))
theorem Wx{t:Xx}{ts:List Xx}{a:Bool}(hd:t.d=7)(h:P0 ts (H::q)):P0 (t::ts) (a::U::q):=.inr (.inr (.inr ⟨hd,a,q,rfl,h⟩))
theorem Jw{x:Tm}{s:List YK}(h:KX x)(h':x.tsz<=100)(hs:∀v,v∈s->Ja v):Ao (YY x s):=⟨fun _=>⟨h,h',hs⟩,fun h=>(by simp[YY] at h),Y7⟩
theorem An(d:Int)(h:d≠1)(h4:d≠4):Ao (Pd d):=⟨fun h'=>(by rcases h' with h'|h'<;>simp[Pd] at h'<;>omega),fun h=>absurd h h4,Y7⟩
theorem Md{c:Option Ca}(h:J7 c):Ao (Xc c):=⟨fun h'=>(by rcases h' with h'|h'<;>simp[Xc] at h'),fun h=>(by simp[Xc] at h),h⟩
theorem SZ{x:Tm}{s:List YK}(h:KX x)(h':x.tsz<=100)(hs:∀v,v∈s->Ja v)(hk:x.k=6):Ao (U5 x s):=⟨fun _=>⟨h,h',hs⟩,fun _=>hk,Y7⟩
theorem BA:∀(l:List Tm)(x:Tm),x∈l->x.tsz<=(l.map Tm.tsz).sum
 |[],_,h=>by cases h
 |y::r,x,h=>by
  rcases J.1 h with rfl|h
  .simp
  .have:=BA r x h;simp;omega
theorem Uu{x:Tm}(h:j<x.l.length):(x.at j).tsz+1<=x.tsz:=by have:=BA x.l _ (Tm.at_mem h);rw[x.tsz_eq];omega
theorem BM{x:Tm}(h:x.l.length=2):x.tsz=(x.at 0).tsz+(x.at 1).tsz+1:=by
 rw[x.tsz_eq];unfold Tm.at;match hl:x.l,h with
 |[a,b],_=>simp
theorem Vr{x:Tm}(h:x.l.length=3):x.tsz=(x.at 0).tsz+(x.at 1).tsz+(x.at 2).tsz+1:=by
 rw[x.tsz_eq];unfold Tm.at;match hl:x.l,h with
 |[a,b,c],_=>simp;omega
theorem Tm.tsz_pos(x:Tm):1<=x.tsz:=by rw[x.tsz_eq];omega
theorem Sm.push{s:St}{v:YK}(b:∃q,P0 s.ts (H::q)/\fl q s.vs)(c:Ja v)(h:∀v,v∈s.vs->Ja v)(i:∀t,t∈s.ts->Ao t)(d:s.calls<=s.fuel)(a:s.fuel<=100):Sm (s.push v):=by
 obtain⟨q,g,e⟩:=b;refine⟨⟨H::q,g,T9 e⟩,fun u hu=>?_,i,d,a⟩;rcases J.1 hu with rfl|hu
 .exact c
 .exact h u hu
def Si(s0 s:St):Prop:=s.ended.k=0->Sm s/\mu s<mu s0
theorem Nb{s:St}{x:Tm}{e:List YK}{d:Int}(hd:d=2\/d=3\/d=5)(l:x.l.length=2)(g:KX x)(hz:x.tsz<=100)(h:∀v,v∈e->Ja v)(i:P0 s.ts (H::q))(k:fl q s.vs)(r:∀v,v∈s.vs->Ja v)(o:∀t,t∈s.ts->Ao t)(c:s.calls<=s.fuel)(p:s.fuel<=100):
  Si ⟨YY x e::s.ts,s.vs,s.calls,s.fuel,s.ended⟩ (Je s x e d):=by
 intro _;have u:=Uu (x:=x) (j:=0) (by omega);have z:=Uu (x:=x) (j:=1) (by omega);refine⟨⟨⟨q,KU rfl (KU rfl (CA hd i)),k⟩,r,fun t a=>?_,c,p⟩,?_⟩
 .rcases J.1 a with rfl|a
  .exact Jw (g.part (by omega)) (by omega) h
  rcases J.1 a with rfl|a
  .exact Jw (g.part (by omega)) (by omega) h
  rcases J.1 a with rfl|a
  .exact An d (by omega) (by omega)
  .exact o t a
 .have h2:=BM l;have w:tw (Pd d)<=5:=by unfold tw Pd;simp only;split<;>(try split)<;>(try split)<;>simp_all<;>omega
  simp only[mu,Je,St.plan,Z,Za];have b:∀y:Tm,tw (YY y e)=8*y.tsz:=fun y=>by simp[tw,YY]
  rw[b,b,b];omega
theorem VP{s:St}{x:Tm}{e:List YK}(hx:KX x)(hz:x.tsz<=100)(he:∀v,v∈e->Ja v)(hw:P0 s.ts (H::q))(hf:fl q s.vs)(hv:∀v,v∈s.vs->Ja v)(ht:∀t,t∈s.ts->Ao t)(hle:s.calls<=s.fuel)(hm:s.fuel<=100):
  Si ⟨YY x e::s.ts,s.vs,s.calls,s.fuel,s.ended⟩ (YW s x e):=by
 obtain⟨u,r,g,o,p,hn,z⟩:=hx.top;have i:∀y:Tm,tw (YY y e)=8*y.tsz:=fun y=>by simp[tw,YY]
 have w:=x.tsz_pos;have d:∀v,Ja v->Si ⟨YY x e::s.ts,s.vs,s.calls,s.fuel,s.ended⟩ (s.push v):=fun v h _=>by refine⟨Sm.push ⟨q,hw,hf⟩ h hv ht hle hm,?_⟩;simp only[mu,St.push,Z,Za,i];omega
 have b:x.k=1\/x.k=2\/x.k=3\/x.k=4\/x.k=5\/x.k=6\/x.k=7\/x.k=8\/x.k=9\/x.k=10:=by omega
 rcases b with b|b|b|b|b|b|b|b|b|b
 .simp only[YW,b,if_true];cases h:e[x.n.toNat]? with
  |none=>intro h;simp[St.stop,Yu] at h
  |some v=>exact d v (he v (List.mem_of_getElem? h))
 .simp only[YW,b];exact d _ (TY o p)
 .simp only[YW,b];exact d _ (Pz o p)
 .have hl2:x.l.length=2:=by rw[g,b];rfl
  simp only[YW,b];exact Nb (.inl rfl) hl2 hx hz he hw hf hv ht hle hm
 .have hl2:x.l.length=2:=by rw[g,b];rfl
  simp only[YW,b];exact Nb (.inr (.inl rfl)) hl2 hx hz he hw hf hv ht hle hm
 .have hl3:x.l.length=3:=by rw[g,b];rfl
  simp only[YW,b];intro _;have k:=Uu (x:=x) (j:=0) (by omega);refine⟨⟨⟨q,KU rfl (PZ (.inl rfl) hw),hf⟩,hv,fun t a=>?_,hle,hm⟩,?_⟩
  .rcases J.1 a with rfl|a
   .exact Jw (hx.part (by omega)) (by omega) he
   rcases J.1 a with rfl|a
   .exact SZ hx hz he b
   .exact ht t a
  .have h3:=Vr hl3;have l:tw (U5 x e)=8*(x.at 1).tsz+8*(x.at 2).tsz+1:=by simp[tw,U5]
   simp[mu,St.plan,i,l];omega
 .have hl1:x.l.length=1:=by rw[g,b];rfl
  simp only[YW,b];have k:=Uu (x:=x) (j:=0) (by omega);exact d _ (BZ (hx.part (by omega)) (by omega) he)
 .have hl2:x.l.length=2:=by rw[g,b];rfl
  simp only[YW,b];exact Nb (.inr (.inr rfl)) hl2 hx hz he hw hf hv ht hle hm
 .have hl1:x.l.length=1:=by rw[g,b];rfl
  simp only[YW,b];intro _;have k:=Uu (x:=x) (j:=0) (by omega);refine⟨⟨⟨q,KU rfl hw,hf⟩,hv,fun t a=>?_,hle,hm⟩,?_⟩
  .rcases J.1 a with rfl|a
   .exact Jw (hx.part (by omega)) (by omega) he
   .exact ht t a
  .simp[mu,St.plan,i];omega
 .have hl1:x.l.length=1:=by rw[g,b];rfl
  simp only[YW,b];intro _;have k:=Uu (x:=x) (j:=0) (by omega);refine⟨⟨⟨q,KU rfl (PZ (.inr rfl) hw),hf⟩,hv,fun t a=>?_,hle,hm⟩,?_⟩
  .rcases J.1 a with rfl|a
   .exact Jw (hx.part (by omega)) (by omega) he
   rcases J.1 a with rfl|a
   .exact Md (LN _ _ _ _ rfl)
   .exact ht t a
  .have l:∀c,tw (Xc c)=1:=fun c=>by simp[tw,Xc]
   simp[mu,St.plan,i,l];omega
theorem PS{t:Xx}{ts:List Xx}{u v:YK}{vs:List YK}{calls:Nat}{ended:Xy}{r:List Bool}(l:P0 ts (H::r))(o:fl r vs)(q:Ja v)(hu:Ja u)(e:∀u,u∈vs->Ja u)(d:∀t,t∈ts->Ao t)(k:calls<=fuel)(p:fuel<=100)(hp:1<=tw t)(h5:u.k=4->4<=tw t):
  Si ⟨t::ts,v::u::vs,calls,fuel,ended⟩ (UB ⟨ts,vs,calls,fuel,ended⟩ u v):=by
 unfold UB;split
 .rename_i hk;unfold J2;split
  .intro h;simp[St.stop,MF] at h
  .rename_i hc;simp only at hc;intro _;obtain⟨w,i⟩:=hu.body hk;refine⟨⟨⟨r,KU rfl l,o⟩,e,fun x a=>?_,by simp only;omega,p⟩,?_⟩
   .rcases J.1 a with rfl|a
    .refine Jw w i fun y g=>?_;rcases J.1 g with rfl|g
     .exact q
     .exact hu.env y g
    .exact d x a
   .have e1:tw (YY u.body (v::u.env))=8*u.body.tsz:=by simp[tw,YY]
    simp only[mu,Z,Za,e1];have:(fuel-calls)*1000=(fuel-(calls+1))*1000+1000:=by omega
    omega
 .split
  .rename_i hk;unfold MN;intro _;obtain⟨_,j,b⟩:=hu.core4 hk;refine⟨⟨⟨H::U::r,PZ (.inr rfl) (Wx rfl (PZ (.inr rfl) l)),⟨fun h=>(by cases h),fun _=>j,o⟩⟩,fun x a=>?_,fun x a=>?_,k,p⟩,?_⟩
   .rcases J.1 a with rfl|a
    .exact q
    rcases J.1 a with rfl|a
    .exact b
    .exact e x a
   .rcases J.1 a with rfl|a
    .exact Md hu.given
    rcases J.1 a with rfl|a
    .exact An 7 (by omega) (by omega)
    rcases J.1 a with rfl|a
    .exact Md hu.answer
    .exact d x a
   .have j:∀c,tw (Xc c)=1:=fun c=>by simp[tw,Xc]
    have z:tw (Pd 7)=1:=by simp[tw,Pd]
    have:=h5 hk;simp only[mu,Z,Za,j,z];omega
  .intro h;simp[St.stop,Yu] at h
theorem Pp{s:St}(h:Sm s)(h0:s.ended.k=0)(ht:s.ts≠[]):Si s (UJ s):=by
 obtain⟨⟨q,hw,hf⟩,hv,a7,w,hm⟩:=h;obtain⟨ts,vs,d,g,e⟩:=s;match ts,ht with
 |t::ts,_=>
 have e0:UJ ⟨t::ts,vs,d,g,e⟩=Nu ⟨ts,vs,d,g,e⟩ t:=by simp only[UJ];rw[if_pos h0]
 rw[e0];have k:∀t,t∈ts->Ao t:=fun u hu=>a7 u (by simp[hu]);have a1:=a7 t (by simp);simp only at hw hf hv w hm h0;have a6:1<=tw t:=by
  unfold tw;have:=t.x.tsz_pos;split
  .omega
  .split
   .omega
   .split<;>omega
 rcases hw with⟨hd,hw⟩|⟨hd,b,r,rfl,hw⟩|⟨hd,a,b,r,rfl,hw⟩|⟨hd,a,r,rfl,hw⟩
 .obtain⟨hx,hz,he⟩:=a1.1 (.inl hd);have:=VP (s:=⟨ts,vs,d,g,e⟩) hx hz he hw hf hv k w hm;have e1:tw t=tw (YY t.x t.s):=by simp[tw,YY,hd]
  simp only[Nu,hd,if_true];intro h1;refine⟨(this h1).1,?_⟩;have h2:=(this h1).2;simp only[mu,Z,Za,e1] at h2 ⊢;exact h2
 .obtain⟨v,j,rfl,_,l⟩:=J1 hf;have a0:=hv v (by simp);have p:∀u,u∈j->Ja u:=fun u hu=>hv u (by simp[hu]);have n1:t.d≠1:=by omega
  simp only[Nu,n1,if_false];rcases hd with hd|hd
  .obtain⟨hx,hz,he⟩:=a1.1 (.inr hd);have a8:=a1.2.1 hd;have aa:t.x.l.length=3:=by rw[hx.top.2.2.1,a8];rfl
   simp only[hd];by_cases hk:v.k=2
   .simp only[hk];intro _;have a4:(if v.n=1 then 1 else 2)<t.x.l.length:=by split<;>omega
    have h0:=Uu a4;refine⟨⟨⟨r,KU rfl hw,l⟩,p,fun u hu=>?_,w,hm⟩,?_⟩
    .rcases J.1 hu with rfl|hu
     .exact Jw (hx.part a4) (by omega) he
     .exact k u hu
    .have e2:tw t=8*(t.x.at 1).tsz+8*(t.x.at 2).tsz+1:=by simp[tw,hd]
     have e3:tw (YY (t.x.at (if v.n=1 then 1 else 2)) t.s)<=8*(t.x.at 1).tsz+8*(t.x.at 2).tsz:=by simp only[tw,YY,if_true];split<;>omega
     have e4:¬((4:Int)=6):=by decide
     simp only[mu,St.plan,Z,Za,e2,e4,if_false,if_true];omega
   .simp only[hk];intro h;simp[St.stop,Yu] at h
  .simp only[hd];have y:∀u,Ja u->Si ⟨t::ts,v::j,d,g,e⟩ (St.push ⟨ts,j,d,g,e⟩ u):=fun u h _=>by refine⟨Sm.push ⟨r,hw,l⟩ h p k w hm,?_⟩;simp only[mu,St.push,Z,Za];omega
   have i:∀o:Xy,o.k≠0->Si ⟨t::ts,v::j,d,g,e⟩ (St.stop ⟨ts,j,d,g,e⟩ o):=fun o h h'=>absurd h' h;simp only[Xu];cases hc:t.c with
   |none=>exact y v a0
   |some c=>
    have a5:=a1.2.2 c hc;simp only[if_true];split
    .exact i _ (by simp[Yu])
    rename_i h1;split
    .rename_i h2;exact i _ (by rw[a5.opens h2.1];omega)
    split
    .rename_i h3;exact i _ h3
    .exact y _ (CI a0 a5 fun ho=>Classical.byContradiction fun h=>h1 ⟨ho,h⟩)
 .obtain⟨v,vs1,rfl,_,hf1⟩:=J1 hf;obtain⟨u,j,rfl,_,l⟩:=J1 hf1;have a0:=hv v (by simp);have a3:=hv u (by simp);have p:∀u,u∈j->Ja u:=fun u hu=>hv u (by simp[hu]);have n1:t.d≠1:=by omega
  have n6:t.d≠6:=by omega
  have n4:t.d≠4:=by omega
  simp only[Nu,n1,n6,n4,if_false];have a2:∀(z:YK)(o:Xy),Ja z->Si ⟨t::ts,v::u::j,d,g,e⟩ ⟨ts,z::j,d,g,o⟩:=fun z o h _=>by
   refine⟨⟨⟨H::r,hw,T9 l⟩,fun x hx=>?_,k,w,hm⟩,?_⟩
   .rcases J.1 hx with rfl|hx
    .exact h
    .exact p x hx
   .simp only[mu,Z,Za];omega
  rcases hd with hd|hd|hd
  .simp only[hd,if_true];exact a2 _ _ (TY (by unfold U4;omega) (by unfold U4;omega))
  .simp only[hd];exact a2 _ _ (Pz (by split<;>omega) (by split<;>omega))
  .simp only[hd];have a9:tw t=5:=by simp[tw,hd]
   exact PS hw l a0 a3 p k w hm (by omega) (fun _=>by omega)
 .obtain⟨v,vs1,rfl,_,hf1⟩:=J1 hf;obtain⟨u,j,rfl,h4,l⟩:=J1 hf1;have a0:=hv v (by simp);have a3:=hv u (by simp);have p:∀u,u∈j->Ja u:=fun u hu=>hv u (by simp[hu]);simp only[Nu,hd];exact PS hw l a0 a3 p k w hm a6 (fun h=>absurd h (h4 rfl))
theorem SD{s:St}(h:Sm s):∀n,(XE n s).ended.k=0->Sm (XE n s)/\(mu (XE n s)+n<=mu s\/(XE n s).ts=[])
 |0,_=>⟨h,.inl (by simp[XE])⟩
 |n+1,h0=>by
  rw[Ps] at h0 ⊢;by_cases he:(XE n s).ended.k=0
  .obtain⟨h1,h2⟩:=SD h n he;by_cases ht:(XE n s).ts=[]
   .rw[M8 (.inr ht)];exact⟨h1,.inr ht⟩
   .obtain⟨h3,h4⟩:=Pp h1 he ht h0;refine⟨h3,?_⟩;rcases h2 with h2|h2
    .exact .inl (by omega)
    .exact absurd h2 ht
  .rw[M8 (.inl he)] at h0;exact absurd h0 he
theorem As{s:St}(h:Sm s)(ht:s.ts≠[]):1<=mu s:=by
 obtain⟨ts,vs,b,c,a⟩:=s;match ts,ht with
 |t::r,_=>
  have:1<=tw t:=by
   unfold tw;have:=t.x.tsz_pos;split
   .omega
   .split
    .omega
    .split<;>omega
  simp only[mu,Z,Za];omega
theorem QV{s:St}(h:Sm s):(XE (mu s) s).done:=by
 by_cases he:(XE (mu s) s).ended.k=0
 .obtain⟨h1,a⟩:=SD h (mu s) he;rcases a with a|a
  .refine .inr (Classical.byContradiction fun b=>?_);have:=As h1 b;omega
  .exact .inr a
 .exact .inl he
theorem N6{s:St}(h:Sm s){n:Nat}(a:mu s<=n):XE n s=XE (mu s) s:=by
 obtain⟨m,rfl⟩:∃m,n=mu s+m:=⟨n-mu s,by omega⟩
 rw[Jv,Lw (QV h)]
theorem Sz{x:Tm}(h:KX x)(hz:x.tsz<=100)(c:fuel<=100):Sm (MX x fuel)/\mu (MX x fuel)<=100800:=by
 refine⟨⟨⟨[],.inl ⟨rfl,H,rfl⟩,trivial⟩,fun v b=>(by cases b),fun t a=>?_,Nat.zero_le _,c⟩,?_⟩
 .rcases J.1 a with rfl|a
  .exact Jw h hz fun v b=>by cases b
  .cases a
 .simp only[mu,MX,Z,Za,List.map_nil,List.sum_nil];have:tw (YY x [])=8*x.tsz:=by simp[tw,YY]
  omega
theorem TV{x:Tm}(h:KX x)(hz:x.tsz<=100)(c:fuel<=100){n:Nat}(hd:(XE n (MX x fuel)).done):X9 x fuel=RM (XE n (MX x fuel)):=by
 obtain⟨b,d⟩:=Sz h hz c;rw[Qb];rw[N6 b (n:=TF) (by unfold TF;omega)];rcases Nat.le_total n (mu (MX x fuel)) with a|a
 .obtain⟨m,e⟩:∃m,mu (MX x fuel)=n+m:=⟨_,(Nat.add_sub_of_le a).symm⟩
  rw[e,Jv,Lw hd]
 .rw[N6 b a]
theorem Pt{x:Tm}(h:KX x)(hz:x.tsz<=100)(b:fuel<=100):(XE TF (MX x fuel)).done:=by obtain⟨a,c⟩:=Sz h hz b;rw[N6 a (n:=TF) (by unfold TF;omega)];exact QV a
end Go.Proofs.YtnddkmccagiclabGreatDoor
