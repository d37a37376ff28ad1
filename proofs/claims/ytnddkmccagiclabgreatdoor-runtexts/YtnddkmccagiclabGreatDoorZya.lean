import Derived.WalkKit
import Derived.WalkSpells
import Derived.Test.YtnddkmccagiclabGreatDoorRows
import Derived.Deep.LoopGhost
import Derived.Deep.AppendLies
import Derived.Deep.AppendSrc
import Derived.Deep.RegionLaw
import Derived.WalkSmall
import Derived.Deep.RegionHeld3
import Derived.Shelf.Strconv.Itoa3
import Derived.Lib.SlicesS
import Derived.BigQuiet
set_option maxRecDepth 20000
set_option maxHeartbeats 16000000
open Go.RowKit Go.Proofs.Tryz
open Go.Value renaming slice→D,int→H,pointer→L,agg→Zc,ownBlock→Zn,tuple→Zy
open Option renaming none→F,some→I
open Go.IntKind renaming i64→G
open Go renaming cell_later→J,World→M,Calls→Zf,Addr→Zk,Value→Zo,yielded→ZC,bodyPost_ret→ZF,Oper→ZI,wpAnyH→ZK,wpAnyH_take→ZL,Program→ZP,madeCells→ZV
open Go.Proofs.Tryz renaming prog→O,ntmps159→Zs,func159→Zw,ntmps146→ZE,func146→ZG,ntmps110→ZQ,ntmps87→ZS,func110→ZU,func87→ZX
open Go.World renaming block_lt_of_cell?→T,cell?_setCell_other→Z,frozen?_setCell→Zb,cell?_setCell_same→Zd,setCell→Zg,cell?_of_block→Zz,ownsRow_nil→ZD
open Nat renaming le_refl→U,lt_succ_of_lt→Zl,le_of_lt→ZT,le_succ→ZY
open Go.Ending renaming returned→V
open Go.RowKit.Below renaming refl→Y,heap_setCell→Zt
open Bool renaming false→Za,true→Zi,and_eq_true→Zj
open Go.RowKit renaming Below→Ze,Hid→Zr,frozen?_alloc_cells→ZB
open Go.Obj renaming cells→Zh
open Go.Region renaming wanted→Zm,noSelect→ZA,ready→ZH,Mode→ZM,free→ZN
open List renaming mem_cons→Zp,getElem_cons_zero→Zq,getElem?_cons_zero→Zu,getElem?_cons_succ→Zv,getElem_cons_succ→Zx,foldr_cons→ZJ,mem_cons_of_mem→ZO,mem_cons_self→ZR
open Option.some renaming injEq→ZW
open Int.ofNat renaming inj→ZZ
namespace Go.Proofs.YtnddkmccagiclabGreatDoor
abbrev hz(w:M):Nat:=w.heap.size
abbrev cL(W:M)(b i:Nat)(v:Zo):Prop:=W.cell? ⟨b,i,F⟩=I v
abbrev bL(w W:M):Prop:=Ze w.heap.size w W
theorem Yy{A0:Prop}(a0:A0):Zr (A0):=a0
theorem Uy{A0 A1:Prop}(a0:A0)(a1:A1):Zr (A0/\A1):=⟨a0,a1⟩
theorem LL{A0 A1 A2:Prop}(a0:A0)(a1:A1)(a2:A2):Zr (A0/\A1/\A2):=⟨a0,a1,a2⟩
theorem O8{A0 A1 A2 A3:Prop}(a0:A0)(a1:A1)(a2:A2)(a3:A3):Zr (A0/\A1/\A2/\A3):=⟨a0,a1,a2,a3⟩
theorem Aa{A0 A1 A2 A3 A4:Prop}(a0:A0)(a1:A1)(a2:A2)(a3:A3)(a4:A4):Zr (A0/\A1/\A2/\A3/\A4):=⟨a0,a1,a2,a3,a4⟩
theorem E2{A0 A1 A2 A3 A4 A5:Prop}(a0:A0)(a1:A1)(a2:A2)(a3:A3)(a4:A4)(a5:A5):Zr (A0/\A1/\A2/\A3/\A4/\A5):=⟨a0,a1,a2,a3,a4,a5⟩
theorem FZ{A0 A1 A2 A3 A4 A5 A6:Prop}(a0:A0)(a1:A1)(a2:A2)(a3:A3)(a4:A4)(a5:A5)(a6:A6):Zr (A0/\A1/\A2/\A3/\A4/\A5/\A6):=⟨a0,a1,a2,a3,a4,a5,a6⟩
theorem F1{A0 A1 A2 A3 A4 A5 A6 A7 A8:Prop}(a0:A0)(a1:A1)(a2:A2)(a3:A3)(a4:A4)(a5:A5)(a6:A6)(a7:A7)(a8:A8):Zr (A0/\A1/\A2/\A3/\A4/\A5/\A6/\A7/\A8):=⟨a0,a1,a2,a3,a4,a5,a6,a7,a8⟩
theorem FY{A0 A1 A2 A3 A4 A5 A6 A7 A8 A9:Prop}(a0:A0)(a1:A1)(a2:A2)(a3:A3)(a4:A4)(a5:A5)(a6:A6)(a7:A7)(a8:A8)(a9:A9):Zr (A0/\A1/\A2/\A3/\A4/\A5/\A6/\A7/\A8/\A9):=⟨a0,a1,a2,a3,a4,a5,a6,a7,a8,a9⟩
theorem FH{A0 A1 A2 A3 A4 A5 A6 A7 A8 A9 A10 A11:Prop}(a0:A0)(a1:A1)(a2:A2)(a3:A3)(a4:A4)(a5:A5)(a6:A6)(a7:A7)(a8:A8)(a9:A9)(a10:A10)(a11:A11):Zr (A0/\A1/\A2/\A3/\A4/\A5/\A6/\A7/\A8/\A9/\A10/\A11):=⟨a0,a1,a2,a3,a4,a5,a6,a7,a8,a9,a10,a11⟩
theorem fk{α:Type}{a:Option α}{b c:α}(h:a=I b)(e:b=c):a=I c:=h.trans (congrArg I e)
structure Tr where
 k:Int
 a:Option Zk
 c:Nat
 l:List Tr
theorem Tr.ind{P:Tr->Prop}(h:∀k a c l,(∀t,t∈l->P t)->P ⟨k,a,c,l⟩):∀t,P t
 |⟨k,a,c,l⟩=>h k a c l fun t _=>Tr.ind h t
def Tr.sl(t:Tr):Zo:=D t.a t.l.length t.c
def Tr.In(w:M):Tr->Prop
 |⟨_,a,_,l⟩=>(∀j(h:j<l.length),∃b o,a=I ⟨b,o,F⟩/\w.cell? ⟨b,o+j*2,F⟩=I (H G l[j].k)/\w.cell? ⟨b,o+j*2+1,F⟩=I l[j].sl)/\∀t,t∈l->t.In w
theorem Tr.li{w:M}{k:Int}{a:Option Zk}{c:Nat}{l:List Tr}:(Tr.mk k a c l).In w↔(∀j(h:j<l.length),∃b o,a=I ⟨b,o,F⟩/\w.cell? ⟨b,o+j*2,F⟩=I (H G l[j].k)/\w.cell? ⟨b,o+j*2+1,F⟩=I l[j].sl)/\∀t,t∈l->t.In w:=by rw[Tr.In]
theorem Tr.mm(w:M)(k:Int)(a:Option Zk)(c:Nat):(Tr.mk k a c []).In w:=Tr.li.2 ⟨fun j h=>absurd h (by simp),fun t h=>absurd h (by simp)⟩
theorem Tr.mp{w:M}{k:Int}{b o c:Nat}{x y:Tr}(c0:w.cell? ⟨b,o,F⟩=I (H G x.k))(c1:w.cell? ⟨b,o+1,F⟩=I (D x.a x.l.length x.c))(c2:w.cell? ⟨b,o+2,F⟩=I (H G y.k))(c3:w.cell? ⟨b,o+3,F⟩=I (D y.a y.l.length y.c))(hx:x.In w)(hy:y.In w):
  (Tr.mk k (I ⟨b,o,F⟩) c [x,y]).In w:=by
 refine Tr.li.2 ⟨fun j h=>?_,fun t h=>?_⟩
 .match j,h with
  |0,_=>exact⟨b,o,rfl,by simpa using c0,by simpa[Tr.sl] using c1⟩
  |1,_=>exact⟨b,o,rfl,by simpa using c2,by simpa[Tr.sl] using c3⟩
 .rcases Zp.1 h with rfl|h
  .exact hx
  .rcases Zp.1 h with rfl|h
   .exact hy
   .cases h
theorem Tr.In.part{w:M}{t:Tr}(h:t.In w)(j:Nat)(d:j<t.l.length):∃b o,t.a=I ⟨b,o,F⟩/\w.cell? ⟨b,o+j*2,F⟩=I (H G t.l[j].k)/\w.cell? ⟨b,o+j*2+1,F⟩=I (D t.l[j].a t.l[j].l.length t.l[j].c)/\t.l[j].In w:=by obtain⟨k,a,c,l⟩:=t;obtain⟨i,hi⟩:=Tr.li.1 h;obtain⟨b,o,e,g,m⟩:=i j d;exact⟨b,o,e,g,m,hi _ (List.getElem_mem d)⟩
theorem Tr.In.at{w:M}{k:Int}{a:Option Zk}{c:Nat}{l:List Tr}(h:(Tr.mk k a c l).In w)(j:Nat)(hj:j<l.length):∃b o,a=I ⟨b,o,F⟩/\w.cell? ⟨b,o+j*2,F⟩=I (H G l[j].k)/\w.cell? ⟨b,o+j*2+1,F⟩=I (D l[j].a l[j].l.length l[j].c)/\l[j].In w:=Tr.In.part h j hj
theorem Tr.In.below{w w':M}(hb:Ze w.heap.size w w'){t:Tr}:t.In w->t.In w':=by
 induction t using Tr.ind with
 |h k a c l ih=>intro h;obtain⟨m,hi⟩:=Tr.li.1 h;refine Tr.li.2 ⟨fun j g=>?_,fun t d=>ih t d (hi t d)⟩;obtain⟨b,o,e,i,p⟩:=m j g;exact⟨b,o,e,J hb i,J hb p⟩
def Tr.Bl(P:Nat->Prop):Tr->Prop
 |⟨_,a,_,l⟩=>(l≠[]->∀x,a=I x->P x.block)/\∀t,t∈l->t.Bl P
theorem Tr.ld{P:Nat->Prop}{k:Int}{a:Option Zk}{c:Nat}{l:List Tr}:(Tr.mk k a c l).Bl P↔(l≠[]->∀x,a=I x->P x.block)/\∀t,t∈l->t.Bl P:=by rw[Tr.Bl]
theorem Tr.mo(P:Nat->Prop)(k:Int)(a:Option Zk)(c:Nat):(Tr.mk k a c []).Bl P:=Tr.ld.2 ⟨fun h=>absurd rfl h,fun t h=>absurd h (by simp)⟩
theorem Tr.mg{P:Nat->Prop}{k:Int}{b o c:Nat}{x y:Tr}(h:P b)(d:x.Bl P)(e:y.Bl P):(Tr.mk k (I ⟨b,o,F⟩) c [x,y]).Bl P:=by
 refine Tr.ld.2 ⟨fun _ x d=>by cases d;exact h,fun t a=>?_⟩;rcases Zp.1 a with rfl|a
 .exact d
 .rcases Zp.1 a with rfl|a
  .exact e
  .cases a
theorem Tr.Bl.mono{P Q:Nat->Prop}(hPQ:∀b,P b->Q b){t:Tr}:t.Bl P->t.Bl Q:=by
 induction t using Tr.ind with
 |h k a c l ih=>intro h;obtain⟨e,i⟩:=Tr.ld.1 h;exact Tr.ld.2 ⟨fun g x j=>hPQ _ (e g x j),fun t d=>ih t d (i t d)⟩
theorem Tr.Bl.and{P Q:Nat->Prop}{t:Tr}:t.Bl P->t.Bl Q->t.Bl (fun b=>P b/\Q b):=by
 induction t using Tr.ind with
 |h k a c l ih=>intro h g;obtain⟨p,o⟩:=Tr.ld.1 h;obtain⟨m,j⟩:=Tr.ld.1 g;exact Tr.ld.2 ⟨fun e x i=>⟨p e x i,m e x i⟩,fun t d=>ih t d (o t d) (j t d)⟩
theorem Tr.In.bl{w:M}{t:Tr}:t.In w->t.Bl (·<w.heap.size):=by
 induction t using Tr.ind with
 |h k a c l ih=>intro h;obtain⟨m,hi⟩:=Tr.li.1 h;refine Tr.ld.2 ⟨fun i x g=>?_,fun t d=>ih t d (hi t d)⟩;obtain⟨b,o,e,j,_⟩:=m 0 (List.length_pos_iff.2 i);rw[e] at g;have:=Option.some.inj g;subst this;exact T _ _ j
theorem Tr.In.congr{w w':M}{P:Nat->Prop}(hP:∀b,P b->∀o,w'.cell? ⟨b,o,F⟩=w.cell? ⟨b,o,F⟩){t:Tr}:t.Bl P->t.In w->t.In w':=by
 induction t using Tr.ind with
 |h k a c l ih=>intro r h;obtain⟨u,hi⟩:=Tr.li.1 h;obtain⟨m,q⟩:=Tr.ld.1 r;refine Tr.li.2 ⟨fun j d=>?_,fun t g=>ih t g (q t g) (hi t g)⟩;obtain⟨b,o,e,p,x⟩:=u j d;have i:P b:=m (fun e=>by rw[e] at d;simp at d) _ e;exact⟨b,o,e,by rw[hP b i];exact p,by rw[hP b i];exact x⟩
def YB:Nat->Tr->Bool
 |0,_=>Za
 |n+1,⟨k,_,_,l⟩=>match l with
  |[]=>k==0 || k==1 || k==2
  |[x,y]=>k==3&&YB n x&&YB n y
  |_=>Za
abbrev Tr.s(t:Tr):Zo:=D t.a t.l.length t.c
abbrev Tr.v(t:Tr):Array Zo:=#[H G t.k,D t.a t.l.length t.c]
structure Ty where
 k:Int
 l:List Ty
theorem Ty.ind{P:Ty->Prop}(h:∀k l,(∀t,t∈l->P t)->P ⟨k,l⟩):∀t,P t
 |⟨k,l⟩=>h k l fun t _=>Ty.ind h t
def Tr.ty:Tr->Ty
 |⟨k,_,_,l⟩=>⟨k,l.map fun t=>t.ty⟩
theorem Tr.lh(k:Int)(a:Option Zk)(c:Nat)(l:List Tr):(Tr.mk k a c l).ty=⟨k,l.map Tr.ty⟩:=by rw[Tr.ty]
theorem Tr.ln(t:Tr):t.ty.k=t.k:=by cases t;rw[Tr.lh]
theorem Tr.qr(t:Tr):t.ty.l=t.l.map Tr.ty:=by cases t;rw[Tr.lh]
def Ym:Nat->Ty->Bool
 |0,_=>Za
 |n+1,⟨k,l⟩=>match l with
  |[]=>k==0 || k==1 || k==2
  |[x,y]=>k==3&&Ym n x&&Ym n y
  |_=>Za
theorem YL:∀(n:Nat)(t:Tr),YB n t=Ym n t.ty
 |0,t=>by simp[YB,Ym]
 |n+1,⟨k,a,c,l⟩=>by
  match l with
  |[]=>simp[YB,Ym,Tr.lh]
  |[x]=>simp[YB,Ym,Tr.lh]
  |[x,y]=>simp[YB,Ym,Tr.lh,YL n]
  |x::y::z::r=>simp[YB,Ym,Tr.lh]
def WN{α β:Type}:(l:List α)->List β->((x:α)->x∈l->β->Bool)->Bool
 |[],[],_=>Zi
 |x::r,y::s,f=>f x ZR y&&WN r s (fun z h y=>f z (ZO _ h) y)
 |_,_,_=>Za
def YD(esc:Int->Int->Bool):Ty->Ty->Bool
 |⟨k,l⟩,⟨k',l'⟩=>esc k k' || (k==k'&&WN l l' fun x _ y=>YD esc x y)
def Uu(esc:Int->Int->Bool):List Ty->List Ty->Bool
 |[],[]=>Zi
 |x::r,y::s=>YD esc x y&&Uu esc r s
 |_,_=>Za
theorem Vo(esc:Int->Int->Bool):∀l l':List Ty,(WN l l' fun x _ y=>YD esc x y)=Uu esc l l'
 |[],[]=>by simp[WN,Uu]
 |x::r,y::s=>by simp[WN,Uu,Vo esc r s]
 |[],_::_=>by simp[WN,Uu]
 |_::_,[]=>by simp[WN,Uu]
theorem Y0(a:Int->Int->Bool)(k b:Int)(l l':List Ty):YD a ⟨k,l⟩ ⟨b,l'⟩=(a k b || (k==b&&Uu a l l')):=by rw[YD,Vo]
def YA:Int->Int->Bool:=fun _ _=>Za
def Yl:Int->Int->Bool:=fun k k'=>k==0 || k'==0
def Jm:Int->Int->Bool:=fun _ k'=>k'==0
theorem SU(esc:Int->Int->Bool):∀(l l':List Ty),Uu esc l l'=Zi->l.length=l'.length
 |[],[],_=>rfl
 |x::r,y::s,h=>by simp only[Uu,Zj] at h;simp[SU esc r s h.2]
 |[],_::_,h=>by simp[Uu] at h
 |_::_,[],h=>by simp[Uu] at h
theorem SV(esc:Int->Int->Bool):∀(l l':List Ty)(_:l.length=l'.length),(∀j(h:j<l.length)(h':j<l'.length),YD esc l[j] l'[j]=Zi)->Uu esc l l'=Zi
 |[],[],_,_=>by simp[Uu]
 |x::r,y::s,hl,h=>by simp only[Uu,Zj];refine⟨h 0 (by simp) (by simp),SV esc r s (by simpa using hl) fun j h1 h2=>?_⟩;exact h (j+1) (by simpa using h1) (by simpa using h2)
theorem ST(esc:Int->Int->Bool):∀(l l':List Ty)(j:Nat)(h:j<l.length)(h':j<l'.length),YD esc l[j] l'[j]=Za->Uu esc l l'=Za
 |[],_,j,h,_,_=>by simp at h
 |x::r,[],j,_,h',_=>by simp at h'
 |x::r,y::s,0,_,_,e=>by simp only[Zq] at e;simp[Uu,e]
 |x::r,y::s,j+1,h,h',e=>by simp only[Uu,ST esc r s j (by simpa using h) (by simpa using h') (by simpa using e),Bool.and_false]
def Vv{α β γ:Type}:(l:List α)->List β->((x:α)->x∈l->β->γ)->List γ
 |x::r,y::s,f=>f x ZR y::Vv r s (fun z h y=>f z (ZO _ h) y)
 |_,_,_=>[]
def Xq:Ty->Ty->Ty
 |⟨k,l⟩,⟨k',l'⟩=>if k=k' then ⟨k,Vv l l' fun x _ y=>Xq x y⟩ else ⟨0,[]⟩
def JZ:List Ty->List Ty->List Ty
 |x::r,y::s=>Xq x y::JZ r s
 |_,_=>[]
theorem QN:∀l l':List Ty,(Vv l l' fun x _ y=>Xq x y)=JZ l l'
 |[],[]=>by simp[Vv,JZ]
 |x::r,y::s=>by simp[Vv,JZ,QN r s]
 |[],_::_=>by simp[Vv,JZ]
 |_::_,[]=>by simp[Vv,JZ]
theorem UB(k a:Int)(l l':List Ty):Xq ⟨k,l⟩ ⟨a,l'⟩=if k=a then ⟨k,JZ l l'⟩ else ⟨0,[]⟩:=by rw[Xq,QN]
def Tr.right:Tr->Prop
 |⟨k,_,_,l⟩=>(l=[]/\(k=0\/k=1\/k=2)\/l.length=2/\k=3)/\∀t,t∈l->t.right
theorem Tr.nd{k:Int}{a:Option Zk}{c:Nat}{l:List Tr}:(Tr.mk k a c l).right↔(l=[]/\(k=0\/k=1\/k=2)\/l.length=2/\k=3)/\∀t,t∈l->t.right:=by rw[Tr.right]
theorem Tr.lj:∀(n:Nat)(t:Tr),YB n t=Zi->t.right
 |0,t,h=>by simp[YB] at h
 |n+1,⟨k,a,c,l⟩,h=>by
  refine Tr.nd.2 ?_;match l,h with
  |[],h=>exact⟨.inl ⟨rfl,by simpa[YB,or_assoc] using h⟩,fun t ht=>by cases ht⟩
  |[x],h=>simp[YB] at h
  |[x,y],h=>
   simp only[YB,Zj] at h;refine⟨.inr ⟨rfl,by simpa using h.1.1⟩,fun t ht=>?_⟩;rcases Zp.1 ht with rfl|ht
   .exact Tr.lj n _ h.1.2
   .rcases Zp.1 ht with rfl|ht
    .exact Tr.lj n _ h.2
    .cases ht
  |x::y::z::r,h=>simp[YB] at h
theorem Tr.right.cases{t:Tr}(h:t.right):(t.l=[]/\(t.k=0\/t.k=1\/t.k=2))\/(∃x y,t.l=[x,y]/\t.k=3/\x.right/\y.right):=by
 obtain⟨k,a,c,l⟩:=t;rcases Tr.nd.1 h with⟨⟨rfl,d⟩|⟨e,d⟩,b⟩
 .exact .inl ⟨rfl,d⟩
 .match l,e,b with
  |[x,y],_,b=>exact .inr ⟨x,y,rfl,d,b x (by simp),b y (by simp)⟩
def Tr.hgt:Tr->Nat
 |⟨_,_,_,l⟩=>(l.map fun t=>t.hgt).foldr max 0+1
theorem Tr.nk(k:Int)(a:Option Zk)(c:Nat)(l:List Tr):(Tr.mk k a c l).hgt=(l.map Tr.hgt).foldr max 0+1:=by rw[Tr.hgt]
theorem Ts:∀(l:List Nat)(j:Nat)(h:j<l.length),l[j]<=l.foldr max 0
 |[],j,h=>by simp at h
 |x::r,0,_=>by simp only[Zq,ZJ];omega
 |x::r,j+1,h=>by have:=Ts r j (by simpa using h);simp only[Zx,ZJ];omega
def Tr.sm:Tr->Prop
 |⟨_,_,_,l⟩=>l.length<=140737488355328/\∀t,t∈l->t.sm
theorem Tr.ob{k:Int}{a:Option Zk}{c:Nat}{l:List Tr}:(Tr.mk k a c l).sm↔l.length<=140737488355328/\∀t,t∈l->t.sm:=by rw[Tr.sm]
theorem Tr.sm.len{t:Tr}(h:t.sm):t.l.length<=140737488355328:=by cases t;exact(Tr.ob.1 h).1
theorem Tr.sm.part{t:Tr}(h:t.sm)(j:Nat)(b:j<t.l.length):t.l[j].sm:=by obtain⟨k,a,c,l⟩:=t;exact(Tr.ob.1 h).2 _ (List.getElem_mem b)
theorem Tr.nl:∀(n:Nat)(t:Tr),YB n t=Zi->t.sm
 |0,t,h=>by simp[YB] at h
 |n+1,⟨k,a,c,l⟩,h=>by
  refine Tr.ob.2 ?_;match l,h with
  |[],_=>exact⟨by simp,fun t ht=>by cases ht⟩
  |[x],h=>simp[YB] at h
  |[x,y],h=>
   simp only[YB,Zj] at h;refine⟨by simp,fun t ht=>?_⟩;rcases Zp.1 ht with rfl|ht
   .exact Tr.nl n _ h.1.2
   .rcases Zp.1 ht with rfl|ht
    .exact Tr.nl n _ h.2
    .cases ht
  |x::y::z::r,h=>simp[YB] at h
theorem Tr.mf{t:Tr}{n:Nat}(h:t.hgt<=n+1)(j:Nat)(d:j<t.l.length):t.l[j].hgt<=n:=by obtain⟨k,a,c,l⟩:=t;rw[Tr.nk] at h;have b:=Ts (l.map Tr.hgt) j (by simpa using d);rw[List.getElem_map] at b;exact Nat.le_trans b (by omega)
theorem Tr.ml(t:Tr):1<=t.hgt:=by cases t;rw[Tr.nk];omega
theorem Tr.mz:∀(n:Nat)(t:Tr),YB n t=Zi->t.hgt<=n
 |0,t,h=>by simp[YB] at h
 |n+1,⟨k,a,c,l⟩,h=>by
  rw[Tr.nk];match l,h with
  |[],_=>simp
  |[x],h=>simp[YB] at h
  |[x,y],h=>simp only[YB,Zj] at h;have hx:=Tr.mz n x h.1.2;have hy:=Tr.mz n y h.2;simp only[List.map_cons,List.map_nil,ZJ,List.foldr_nil];omega
  |x::y::z::r,h=>simp[YB] at h
theorem Kt(esc:Int->Int->Bool)(x y:Tr)(he:esc x.k y.k=Za)(ht:(x.k==y.k&&(x.l.length:Int)==(y.l.length:Int))=Za):YD esc x.ty y.ty=Za:=by
 obtain⟨k,a,c,l⟩:=x;obtain⟨b,a',c',l'⟩:=y;dsimp only at he ht;rw[Tr.lh,Tr.lh,Y0,he,Bool.false_or];by_cases hk:(k==b)=Zi
 .rw[hk,Bool.true_and] at ht;rw[hk,Bool.true_and];cases hr:Uu esc (l.map Tr.ty) (l'.map Tr.ty) with
  |false=>rfl
  |true=>have:=SU esc _ _ hr;rw[List.length_map,List.length_map] at this;rw[this] at ht;simp at ht
 .have:(k==b)=Za:=by simpa using hk
  rw[this,Bool.false_and]
theorem PD(b:Int->Int->Bool)(x y:Tr)(d:b x.k y.k=Zi):YD b x.ty y.ty=Zi:=by obtain⟨k,a,c,l⟩:=x;obtain⟨e,a',c',l'⟩:=y;dsimp only at d;rw[Tr.lh,Tr.lh,Y0,d,Bool.true_or]
theorem JP(b:Int->Int->Bool)(x y:Tr)(e:b x.k y.k=Za)(j:Nat)(h:j<x.l.length)(d:j<y.l.length)(g:YD b x.l[j].ty y.l[j].ty=Za):YD b x.ty y.ty=Za:=by obtain⟨k,a,c,l⟩:=x;obtain⟨i,a',c',l'⟩:=y;dsimp only at e h d g;rw[Tr.lh,Tr.lh,Y0,e,Bool.false_or,ST b (l.map Tr.ty) (l'.map Tr.ty) j (by simpa using h) (by simpa using d) (by simpa using g),Bool.and_false]
theorem LH(b:Int->Int->Bool)(x y:Tr)(d:x.k=y.k)(e:x.l.length=y.l.length)(g:∀q(h:q<x.l.length)(h':q<y.l.length),YD b x.l[q].ty y.l[q].ty=Zi):YD b x.ty y.ty=Zi:=by obtain⟨k,a,c,l⟩:=x;obtain⟨i,a',c',l'⟩:=y;dsimp only at d e g;subst d;rw[Tr.lh,Tr.lh,Y0,SV b (l.map Tr.ty) (l'.map Tr.ty) (by simpa using e) fun j h h'=>by simpa using g j (by simpa using h) (by simpa using h')];simp
theorem WO(k b:Int)(a a':Option Zk)(m d c c':Nat)(w:M):
  Zf O 79 #[Zc #[H G k,D a m c],Zc #[H G b,D a' d c']] w fun e w'=>e=V (.bool (k==b&&(m:Int)==(d:Int)))/\Ze w.heap.size w w':=by
 by_cases h:(k==b)=Zi
 .go_enter func79,ntmps79;go_wp2_with fail;go_ret;exact⟨by simp[h],((Y _ _).alloc (U _) _).alloc (by simp) _⟩
 .have h':(k==b)=Za:=by simpa using h
  clear h;go_enter func79,ntmps79;go_wp2_with fail;go_ret;exact⟨by simp[h'],((Y _ _).alloc (U _) _).alloc (by simp) _⟩
theorem Lv(k d:Int)(a a':Option Zk)(m b c c':Nat)(r:Bool)(g:(k==d&&(m:Int)==(b:Int))=r)(w:M):
  Zf O 79 #[Zc #[H G k,D a m c],Zc #[H G d,D a' b c']] w fun e w'=>e=V (.bool r)/\Ze w.heap.size w w':=by
 rw[<-g];exact WO k d a a' m b c c' w
theorem SA(k b:Int)(a a':Option Zk)(m d c c':Nat)(w:M):
  Zf O 106 #[Zc #[H G k,D a m c],Zc #[H G b,D a' d c']] w fun e w'=>∃g,w.heap.size<=g/\e=V (Zc #[H G 3,D (I ⟨g,0,F⟩) 2 2])/\w'.cell? ⟨g,0,F⟩=I (H G k)/\w'.cell? ⟨g,1,F⟩=I (D a m c)/\w'.cell? ⟨g,2,F⟩=I (H G b)/\w'.cell? ⟨g,3,F⟩=I (D a' d c')/\Ze w.heap.size w w':=by
 go_enter func106,ntmps106;go_wp2_with fail;refine ZF (v:=Zc #[H G 3,D (I ⟨w.heap.size+1+1+1,0,F⟩) 2 2]) (by simp[results,results106,go_sem]) rfl ⟨_,?_,rfl,by simp[go_sem],by simp[go_sem],by simp[go_sem],by simp[go_sem],?_⟩
 .omega
 exact((((Y _ _).alloc (U _) _).alloc (by simp) _).alloc (by simp;omega) _).alloc (by simp;omega) _
theorem VC(x y:Tr)(w:M)(j:x.In w)(d:y.In w):
  Zf O 106 #[Zc #[H G x.k,D x.a x.l.length x.c],Zc #[H G y.k,D y.a y.l.length y.c]] w fun e w'=>∃g,w.heap.size<=g/\e=V (Zc #[H G 3,D (I ⟨g,0,F⟩) 2 2])/\(Tr.mk 3 (I ⟨g,0,F⟩) 2 [x,y]).In w'/\Ze w.heap.size w w':=by
 refine(SA x.k y.k x.a y.a x.l.length y.l.length x.c y.c w).mono ?_;rintro e w' ⟨g,i,rfl,c,k,b,h,a⟩;refine⟨g,i,rfl,?_,a⟩;exact Tr.mp c k b h (j.below a) (d.below a)
def Ys(k:Int):Tr:=.mk k F 0 []
theorem YC(k:Int)(w:M):(Ys k).In w:=Tr.mm w k F 0
theorem YF(k:Int)(P:Nat->Prop):(Ys k).Bl P:=Tr.mo P k F 0
def E1:Ty->Bool
 |⟨k,l⟩=>k != 0&&(l.map fun t=>E1 t).all id
def Tr.sz:Tr->Nat
 |⟨_,_,_,l⟩=>(l.map fun t=>t.sz).sum+1
theorem Tr.lm(k:Int)(a:Option Zk)(c:Nat)(l:List Tr):(Tr.mk k a c l).sz=(l.map Tr.sz).sum+1:=by rw[Tr.sz]
theorem Tr.mi(t:Tr):1<=t.sz:=by cases t;rw[Tr.lm];omega
def cellsOf:List Tr->List Zo
 |[]=>[]
 |t::r=>H G t.k::D t.a t.l.length t.c::cellsOf r
theorem UQ:∀l:List Tr,(cellsOf l).length=l.length*2
 |[]=>rfl
 |t::r=>by simp only[cellsOf,List.length_cons,UQ r];omega
theorem UR:∀l r:List Tr,cellsOf (l++r)=cellsOf l++cellsOf r
 |[],r=>rfl
 |t::l,r=>by simp only[List.cons_append,cellsOf,UR l r]
def Left(B:Nat)(b:Bool)(N k:Nat)(v:Zo)(wr:M):Prop:=∃ts:List Tr,wr.ownsRow B 24 2 v ts.length (cellsOf ts)/\(∀t,t∈ts->t.In wr/\t.Bl (·<B)/\t.right)/\(ts.map Tr.sz).sum=k/\k<=N/\b=ts.all fun t=>E1 t.ty
theorem Left.split{ts:List Tr}(h:ts≠[]):∃us x,ts=us++[x]:=⟨ts.dropLast,ts.getLast h,(List.dropLast_concat_getLast h).symm⟩
theorem Lh{P:ZP}{ops:Array ZI}{o:ZI}{a:Act}{w:M}{K:Act->M->Prop}{Q:Exit->Act->M->Prop}{E:Prop}
  (hg:o.guard=F) (s x:Operand) (t:TypeId) (hop:o.op=Op.call { callee:=Callee.builtin Builtin.append,args:=#[s,x],argTypes:=#[t,t] })
  (e:TypeId) (i:TypeInfo) (h1:P.underlying t=I (.slice e)) (h2:P.info? e=I i)
  (b n cap:Nat) (hs:a.eval s=D (I ⟨b,0,F⟩) n cap) (xa:Option Zk) (c:Nat) (hx:a.eval x=D xa 0 c) (hroom:n<=cap)
  (hK:K (a.put o.dst (D (I ⟨b,0,F⟩) n cap)) w) :
  if Zm o (ZC ops a.tmps)=Zi then Oper.wp P o a w K Q else E:=by
 have k:Zm o (ZC ops a.tmps)=Zi:=by simp[Zm,hg]
 rw[if_pos k];have g:Src P i.size t (D xa 0 c) 0 [] w:=by
  cases xa with
  |none=>exact Src.ofNil w h1 c
  |some ad=>exact Src.ofSlice w h1 ad 0 c [] (by simp) (fun j u h=>by simp at h) (fun u h=>by cases h)
 have d:=run_append_room_src (P:=P) w t t o.type e i h1 h2 b 0 n cap (D xa 0 c) 0 [] g (by omega) (fun j h=>by simp at h) (fun j h=>by simp at h);unfold Oper.wp;simp only[execOp,hop,resolve,invoke,builtin,Sem.run_bind,Sem.run_pure,Result.andThen_ok,List.map_toArray,List.map_cons,List.map_nil,hs,hx,d];exact hK
theorem Tryz.info24s:(O.info? 24).map (fun i=>(i.zero,i.size,i.bytes))=I (I (Zc #[H G 0,D F 0 0]),2,32):=by kernel_rfl
theorem Tryz.info141:(O.info? 141).map (fun i=>(i.zero,i.size,i.bytes))=I (I (Zc #[H G 0,D F 0 0,H G 0,D F 0 0,L F]),5,72):=by kernel_rfl
structure Yi(r:Nat)(o:Option Nat)(w w':M):Prop where
 os:w'.os=w.os
 tape:w'.tape=w.tape
 output:w'.output=w.output
 size:w.heap.size<=w'.heap.size
 block:∀k,k<w.heap.size->k≠r->I k≠o->w'.heap[k]?=w.heap[k]?
theorem Yi.below{r:Nat}{o:Option Nat}{w w':M}(h:Yi r o w w')(ho:∀g,o=I g->r<=g)(hr:r<=w.heap.size):Ze r w w':=⟨h.os,h.tape,h.output,h.size,fun k hk=>h.block k (by omega) (by omega) (fun e=>by have:=ho k e.symm;omega)⟩
theorem Er{r:Nat}{v:Zo}{n:Nat}{ys:List Zo}{w w1:M}{X:Obj}{g cap:Nat}(a:(((w.alloc X).alloc X).drew).grownBy w1 v.ownBlock)(b:w1.ownsRow (r+1) 141 5 (D (I ⟨g,0,F⟩) (n+1) cap) (n+1) ys)
  (i:v.ownBlock=I g\/g=w.heap.size+2) (d:w1.cell? ⟨r,0,F⟩=I v) (e:w1.frozen? ⟨r,0,F⟩=Za) :
  ∃g' cap',(w1.setCell ⟨r,0,F⟩ (D (I ⟨g,0,F⟩) (n+1) cap)).cell? ⟨r,0,F⟩=I (D (I ⟨g',0,F⟩) (n+1) cap')/\(w1.setCell ⟨r,0,F⟩ (D (I ⟨g,0,F⟩) (n+1) cap)).frozen? ⟨r,0,F⟩=Za/\
   (w1.setCell ⟨r,0,F⟩ (D (I ⟨g,0,F⟩) (n+1) cap)).ownsRow (r+1) 141 5 (D (I ⟨g',0,F⟩) (n+1) cap') (n+1) ys/\(v.ownBlock=I g'\/w.heap.size<=g')/\Yi r v.ownBlock w (w1.setCell ⟨r,0,F⟩ (D (I ⟨g,0,F⟩) (n+1) cap)):=by
 have c:bL w ((w.alloc X).alloc X).drew:=(((Y _ _).alloc (U _) _).alloc (by simp) _).drew;refine⟨g,cap,Zd _ _ _ d,by simpa using e,ownsRow_setCell_below b (by simp) _,?_,?_⟩
 .rcases i with h|h
  .exact .inl h
  .exact .inr (by omega)
 .have hs:=a.size;have o:((w.alloc X).alloc X).drew.heap.size=w.heap.size+1+1:=by simp
  refine⟨a.os.trans c.os,a.tape.trans c.tape,a.output.trans c.output,?_,fun k j m l=>?_⟩
  .rw[show (w1.setCell ⟨r,0,F⟩ (D (I ⟨g,0,F⟩) (n+1) cap)).heap.size=w1.heap.size from by simp[Zg]];omega
  .rw[Zt _ _ _ _ m,a.block k (by omega) l,c.block k j]
theorem Kp(r:Nat)(a:Option Zk)(n c:Nat)(w:M)(b:w.cell? ⟨r,0,F⟩=I (D a n c)):
  Zf O 77 #[L (I ⟨r,0,F⟩)] w fun e w'=>e=V (.bool ((n:Int)==0))/\w'=w:=by
 go_enter func77,ntmps77;go_wp2_with fail;go_ret;exact⟨rfl,rfl⟩
theorem Ps(r g:Nat)(n c:Nat)(k i:Int)(a a':Option Zk)(m h d b:Nat)(p:Option Zk)(w:M)(l:w.cell? ⟨r,0,F⟩=I (D (I ⟨g,0,F⟩) (n+1) c))(o:w.frozen? ⟨r,0,F⟩=Za)(hc:n+1<=c)(x:n<=140737488355328)
  (j:w.cell? ⟨g,n*5,F⟩=I (H G k)) (h1:w.cell? ⟨g,n*5+1,F⟩=I (D a m d)) (q:w.cell? ⟨g,n*5+2,F⟩=I (H G i)) (u:w.cell? ⟨g,n*5+3,F⟩=I (D a' h b)) (z:w.cell? ⟨g,n*5+4,F⟩=I (L p)) :
  Zf O 78 #[L (I ⟨r,0,F⟩)] w fun e w'=>e=V (Zc #[H G k,D a m d,H G i,D a' h b,L p])/\
   w'=((w.setCell ⟨r,0,F⟩ (D (I ⟨g,0,F⟩) n c)).alloc (Zh #[H G k,D a m d,H G i,D a' h b,L p] 141)).alloc (Zh #[H G k,D a m d,H G i,D a' h b,L p] 141):=by
 have lr:r<w.heap.size:=T _ _ l;have y:g<w.heap.size:=T _ _ j;go_enter func78,ntmps78;go_wp2_with fail;exact ZF (v:=Zc #[H G k,D a m d,H G i,D a' h b,L p]) (by simp[results,results78,go_sem]) rfl ⟨rfl,rfl⟩
theorem RW(r:Nat)(v:Zo)(n:Nat)(xs:List Zo)(k b:Int)(a a':Option Zk)(m i d c:Nat)(p:Option Zk)(w:M)(hv:w.cell? ⟨r,0,F⟩=I v)(hf:w.frozen? ⟨r,0,F⟩=Za)(l:w.ownsRow (r+1) 141 5 v n xs)(hn:n+1<=1000000000):
  Zf O 76 #[L (I ⟨r,0,F⟩),Zc #[H G k,D a m d,H G b,D a' i c,L p]] w fun e w'=>e=V (Zy #[])/\
   ∃g cap,w'.cell? ⟨r,0,F⟩=I (D (I ⟨g,0,F⟩) (n+1) cap)/\w'.frozen? ⟨r,0,F⟩=Za/\w'.ownsRow (r+1) 141 5 (D (I ⟨g,0,F⟩) (n+1) cap) (n+1) (xs++[H G k,D a m d,H G b,D a' i c,L p])/\(v.ownBlock=I g\/w.heap.size<=g)/\Yi r v.ownBlock w w':=by
 have lr:r<w.heap.size:=T _ _ hv;obtain⟨i0,a9,a3,a5,a6⟩:=info_parts Tryz.info141;have y:v.ownBlock≠I r:=by
  rcases l.2 with⟨rfl,_⟩|⟨g,cap,a7,rfl,hg,_⟩
  .simp[Zn]
  .simp only[Zn,ne_eq,ZW];omega
 have aa:v.ownBlock≠I w.heap.size:=by
  rcases l.2 with⟨rfl,_⟩|⟨g,cap,a7,rfl,hg,q,_⟩
  .simp[Zn]
  .have:g<w.heap.size:=by
    rcases Nat.lt_or_ge g w.heap.size with u|a1
    .exact u
    .rw[Array.getElem?_eq_none a1] at q;cases q
   simp only[Zn,ne_eq,ZW];omega
 have z:((w.alloc (Zh #[H G k,D a m d,H G b,D a' i c,L p] 141)).alloc (Zh #[H G k,D a m d,H G b,D a' i c,L p] 141)).drew.frozen? ⟨r,0,F⟩=Za:=by have q:bL w ((w.alloc (Zh #[H G k,D a m d,H G b,D a' i c,L p] 141)).alloc (Zh #[H G k,D a m d,H G b,D a' i c,L p] 141)).drew:=(((Y _ _).alloc (U _) _).alloc (by simp) _).drew;rw[q.frozen (p:=⟨r,0,F⟩) lr];exact hf
 have x:((w.alloc (Zh #[H G k,D a m d,H G b,D a' i c,L p] 141)).alloc (Zh #[H G k,D a m d,H G b,D a' i c,L p] 141)).drew.cell? ⟨r,0,F⟩=I v:=by have q:bL w ((w.alloc (Zh #[H G k,D a m d,H G b,D a' i c,L p] 141)).alloc (Zh #[H G k,D a m d,H G b,D a' i c,L p] 141)).drew:=(((Y _ _).alloc (U _) _).alloc (by simp) _).drew;exact J q hv
 have a0:((w.alloc (Zh #[H G k,D a m d,H G b,D a' i c,L p] 141)).alloc (Zh #[H G k,D a m d,H G b,D a' i c,L p] 141)).drew.heap[w.heap.size+1]?=I (Zh #[H G k,D a m d,H G b,D a' i c,L p] 141):=by have h:=heap_alloc_new (w.alloc (Zh #[H G k,D a m d,H G b,D a' i c,L p] 141)) (Zh #[H G k,D a m d,H G b,D a' i c,L p] 141);rw[World.size_alloc] at h;exact h
 go_enter func76,ntmps76;go_wp2_with fail;go_region_law ((refine step_append_lies _ (by rfl) _ _ _ (by rfl) (r+1) 141 i0 _ 5 72 underlying135 a9 a3 a5 a6 rfl (by omega) v n xs (by rfl) (((l.alloc _).alloc _).drew) ⟨w.heap.size+1,0,F⟩ 1 1 [H G k,D a m d,H G b,D a' i c,L p] (by rfl) (by rfl) (World.news_of_block (cs:=#[H G k,D a m d,H G b,D a' i c,L p]) (t:=141) (fr:=(0,0)) a0) (by simp[Value.oneCell']) (by omega) (by unfold maxLen;omega) (by omega) (by simp;omega) (w.heap.size+2) (by simp) ?_;intro gg cap w1 o j a4 u;have a2:w1.frozen? ⟨r,0,F⟩=Za:=(by rw[j.frozen_far _ (by simp;omega) (Ne.symm y)];exact z);have a8:w1.cell? ⟨r,0,F⟩=I v:=(by rw[j.cell_far _ (by simp;omega) (Ne.symm y)];exact x)))
 all_goals
  go_end0
  exact⟨rfl,Er j o a4 a8 a2⟩
theorem Yi.la{R:Nat}{o:Option Nat}{w w':M}(h:Ze w.heap.size w w'):Yi R o w w':=⟨h.os,h.tape,h.output,h.size,fun k hk _ _=>h.block k hk⟩
theorem Yi.trans{R:Nat}{w w1 w2:M}(h:Yi R F w w1)(a:Yi R F w1 w2):Yi R F w w2:=by have e:=h.size;exact⟨a.os.trans h.os,a.tape.trans h.tape,a.output.trans h.output,Nat.le_trans h.size a.size,fun k d b c=>(a.block k (by omega) b c).trans (h.block k d b c)⟩
theorem Yi.cell{R:Nat}{w w':M}(h:Yi R F w w'){b i:Nat}{v:Zo}(hc:w.cell? ⟨b,i,F⟩=I v)(h1:b≠R):w'.cell? ⟨b,i,F⟩=I v:=(Zz (a:=⟨b,i,F⟩) (h.block b (T _ _ hc) h1 (by simp))).trans hc
def Vc(w:M)(g:Nat)(cs:Array Zo):Prop:=∃t fr,w.heap[g]?=I (Zh cs t fr)
theorem Vc.cell{w:M}{g:Nat}{cs:Array Zo}(h:Vc w g cs)(i:Nat):w.cell? ⟨g,i,F⟩=cs[i]?:=by obtain⟨t,fr,h⟩:=h;rw[cell_of_row w g i cs t fr h]
structure Gl(w:M):Prop where
 tw:Vc w 1 #[.string ⟨#[110,111]⟩,.string ⟨#[121,101,115]⟩]
 wd:Vc w 2 #[.string ⟨#[]⟩,.string ⟨#[]⟩,.string ⟨#[]⟩,.string ⟨#[]⟩,.string ⟨#[97,100,100]⟩,.string ⟨#[108,101,115,115]⟩,.string ⟨#[105,102]⟩,.string ⟨#[102,117,110]⟩,.string ⟨#[99,97,108,108]⟩,.string ⟨#[97,115]⟩]
 pt:Vc w 0 #[H G 0,H G 0,H G 0,H G 0,H G 2,H G 2,H G 3,H G 1,H G 2,H G 1]
 ty:Vc w 4 #[.string ⟨#[97,110,121]⟩,.string ⟨#[110,117,109]⟩,.string ⟨#[116,114,117,116,104]⟩]
 pw:Vc w 11 (Lib.pow10Tab.map fun z=>Value.int .u64 z).toArray
 mx:∃m,Vc w 6 #[H G m]
 es:∃te pe,Vc w 9 #[.iface te pe]
 er:∃te pe,Vc w 10 #[.iface te pe]
theorem Vc.of{w w':M}{g:Nat}{cs:Array Zo}(h:Vc w g cs)(e:w'.heap[g]?=w.heap[g]?):Vc w' g cs:=by obtain⟨t,fr,h⟩:=h;exact⟨t,fr,e.trans h⟩
theorem Vc.lt{w:M}{g:Nat}{cs:Array Zo}(h:Vc w g cs):g<w.heap.size:=by obtain⟨t,fr,h⟩:=h;exact(Array.getElem?_eq_some_iff.1 h).1
theorem Gl.of{w w':M}(h:Gl w)(e:∀g,g<12->w'.heap[g]?=w.heap[g]?):Gl w':=by obtain⟨m,c⟩:=h.mx;obtain⟨a,b,i⟩:=h.es;obtain⟨a',d,j⟩:=h.er;exact⟨h.tw.of (e _ (by omega)),h.wd.of (e _ (by omega)),h.pt.of (e _ (by omega)),h.ty.of (e _ (by omega)),h.pw.of (e _ (by omega)),⟨m,c.of (e _ (by omega))⟩,⟨a,b,i.of (e _ (by omega))⟩,⟨a',d,j.of (e _ (by omega))⟩⟩
theorem Gl.size{w:M}(h:Gl w):12<=w.heap.size:=by exact h.pw.lt
theorem Gl.below{w w':M}(h:Gl w)(hb:Ze w.heap.size w w'):Gl w':=h.of fun g hg=>hb.block g (by have:=h.size;omega)
theorem Gl.kept{w w':M}{R:Nat}(h:Gl w)(hR:12<=R)(hb:Yi R F w w'):Gl w':=h.of fun g hg=>hb.block g (by have:=h.size;omega) (by omega) (by simp)
structure Gp(w:M):Prop where
 pt:Vc w 0 #[H G 0,H G 0,H G 0,H G 0,H G 2,H G 2,H G 3,H G 1,H G 2,H G 1]
theorem Gl.gp{w:M}(h:Gl w):Gp w:=⟨h.pt⟩
theorem Gp.size{w:M}(h:Gp w):1<=w.heap.size:=h.pt.lt
theorem Gp.below{w w':M}(h:Gp w)(hb:Ze w.heap.size w w'):Gp w':=⟨h.pt.of (hb.block 0 h.pt.lt)⟩
theorem Gp.kept{w w':M}{R:Nat}(h:Gp w)(hR:1<=R)(hb:Yi R F w w'):Gp w':=⟨h.pt.of (hb.block 0 h.pt.lt (by omega) (by simp))⟩
structure RS(R:Nat)(ws:List ByteArray)(b:Bool)(w:M):Prop where
 l:∃a c,w.cell? ⟨R,0,F⟩=I (D a ws.length c)/\ws.length<=c/\(ws≠[]->∃A o,a=I ⟨A,o,F⟩/\A<R/\∀(i:Nat)x,ws[i]?=I x->w.cell? ⟨A,o+i,F⟩=I (.string x))
 b:w.cell? ⟨R,1,F⟩=I (.bool b)
 f0:w.frozen? ⟨R,0,F⟩=Za
 f1:w.frozen? ⟨R,1,F⟩=Za
 z:ws.length<=1000000
theorem RS.lt{R:Nat}{ws:List ByteArray}{b:Bool}{w:M}(h:RS R ws b w):R<w.heap.size:=T _ _ h.b
theorem RS.below{R:Nat}{ws:List ByteArray}{b:Bool}{w w':M}(h:RS R ws b w)(d:Ze w.heap.size w w'):RS R ws b w':=by have g:=h.lt;obtain⟨⟨a,c,y,q,j⟩,u,k,l,hz⟩:=h;refine⟨⟨a,c,J d y,q,fun e=>?_⟩,J d u,(d.frozen (p:=⟨R,0,F⟩) g).trans k,(d.frozen (p:=⟨R,1,F⟩) g).trans l,hz⟩;obtain⟨A,o,r,z,m⟩:=j e;exact⟨A,o,r,z,fun i x hi=>J d (m i x hi)⟩
theorem RS.nz{R:Nat}{ws:List ByteArray}{b:Bool}{w:M}{k:Nat}{u v:Zo}(h:RS R ws b w)(j:R<k):RS R ws b ((w.setCell ⟨k,0,F⟩ u).setCell ⟨k,1,F⟩ v):=by
 have g:∀q i,q<k->((w.setCell ⟨k,0,F⟩ u).setCell ⟨k,1,F⟩ v).cell? ⟨q,i,F⟩=w.cell? ⟨q,i,F⟩:=by
  intro q i hq;rw[Z,Z]
  .intro e;simp only[Addr.mk.injEq] at e;omega
  .intro e;simp only[Addr.mk.injEq] at e;omega
 obtain⟨⟨a,c,p,z,l⟩,h1,m,r,hz⟩:=h;refine⟨⟨a,c,(g _ _ j).trans p,z,fun d=>?_⟩,(g _ _ j).trans h1,by rw[Zb,Zb];exact m,by rw[Zb,Zb];exact r,hz⟩;obtain⟨A,o,ha,hA,y⟩:=l d;exact⟨A,o,ha,hA,fun i x hi=>(g _ _ (by omega)).trans (y i x hi)⟩
theorem Yj{w:M}{R i:Nat}{v:Zo}:Yi R F w (w.setCell ⟨R,i,F⟩ v):=⟨rfl,rfl,rfl,by simp[Zg],fun _ _ h1 _=>Zt _ _ _ _ h1⟩
theorem J0(R:Nat)(g:List ByteArray)(b:Bool)(w:M)(h:RS R g b w):
  Zf O 83 #[L (I ⟨R,0,F⟩)] w fun e w'=>e=V (Zy #[])/\RS R [] Zi w'/\Yi R F w w':=by
 obtain⟨⟨a,c,l,_,_⟩,j,i,k,_⟩:=h;go_enter func83,ntmps83;go_wp2_with fail;go_end0;have d:(⟨R,0,F⟩:Zk)≠⟨R,1,F⟩:=by simp
 refine⟨rfl,⟨⟨F,0,?_,U _,fun h=>absurd rfl h⟩,?_,?_,?_,by simp⟩,Yj.trans Yj⟩
 .refine Zd _ _ _ (u:=D a g.length c) ?_;rw[Z _ _ _ _ (Ne.symm d)];exact l
 .rw[Z _ _ _ _ d];exact Zd _ _ _ j
 .rw[Zb,Zb];exact i
 .rw[Zb,Zb];exact k
theorem NH(R:Nat)(b:Bool)(w:M)(h:RS R [] b w):
  Zf O 51 #[L (I ⟨R,0,F⟩)] w fun e w'=>e=V (.string ⟨#[]⟩)/\RS R [] Zi w'/\Yi R F w w':=by
 have j:=Yy (J0 R [] b w h);obtain⟨⟨a,c,p,_,_⟩,m,l,o,_⟩:=h;go_enter func51,ntmps51;go_wp2_with fail;refine j.out.mono ?_;rintro e k ⟨rfl,g,d⟩;have i:=Uy g d;clear g d j;go_wp2_with fail;go_ret;exact⟨rfl,i.out.1,i.out.2⟩
theorem JJ(R:Nat)(x:ByteArray)(r:List ByteArray)(b:Bool)(w:M)(h:RS R (x::r) b w):
  Zf O 51 #[L (I ⟨R,0,F⟩)] w fun e w'=>e=V (.string x)/\RS R r b w'/\Yi R F w w':=by
 obtain⟨⟨a,c,k,p,j⟩,q,l,m,hz⟩:=h;obtain⟨A,o,rfl,u,g⟩:=j (by simp);have x0:=g 0 x (by simp);simp only[Nat.add_zero] at x0;simp only[List.length_cons] at k p hz;have e0:(((r.length+1:Nat):Int)==0)=Za:=by simp;omega
 have i1:(0:Int)<((r.length:Int)+1):=by omega
 have i2:(1:Int)<=((r.length:Int)+1):=by omega
 have z:=Yy g;clear g j;go_enter func51,ntmps51;go_wp2_with fail
 all_goals go_ret
 all_goals
  refine⟨rfl,⟨⟨_,_,Zd _ _ _ k,by omega,fun d=>?_⟩,?_,by rw[Zb];exact l,by rw[Zb];exact m,by omega⟩,Yj⟩
  rotate_left
  .rw[Z _ _ _ _ (by simp)];exact q
 .exact absurd (List.length_eq_zero_iff.1 (by omega)) d
 .refine⟨A,o+1,rfl,u,fun i y hi=>?_⟩;rw[Z]
  .rw[show o+1+i=o+(i+1) by omega];exact z.out (i+1) y (by simpa using hi)
  .intro e;simp only[Addr.mk.injEq] at e;omega
theorem AB(R:Nat)(x a:ByteArray)(r:List ByteArray)(b:Bool)(w:M)(h:RS R (x::r) b w):
  Zf O 87 #[L (I ⟨R,0,F⟩),.string a] w fun e w'=>e=V (Zy #[])/\((x=a/\RS R r b w')\/(x≠a/\RS R [] Zi w'))/\Yi R F w w':=by
 have i:=Yy (JJ R x r b w h);clear h;by_cases hx:x=a
 .subst hx;go_enter ZX,ZS;go_wp2_with fail;refine i.out.mono ?_;rintro e j ⟨rfl,d,c⟩;have g:=Uy d c;clear d c i;go_wp2_with fail;go_end0;exact⟨rfl,.inl ⟨trivial,g.out.1⟩,g.out.2⟩
 .have hb:(x.toList==a.toList)=Za:=(Lib.bytes_beq_false_iff _ _).2 hx;have m:(!x.toList==a.toList)=Zi:=by rw[hb];rfl
  have o:=Yy hx;clear hx;go_enter ZX,ZS;go_wp2_with fail;refine i.out.mono ?_;rintro e j ⟨rfl,d,c⟩;have l:=Yy (J0 R r b j d);have k:=Yy c;clear d c i;go_wp2_with fail;refine l.out.mono ?_;rintro e p ⟨rfl,d,c⟩;have g:=Uy d (k.out.trans c);clear d c l k;go_wp2_with fail;go_end0;exact⟨rfl,.inr ⟨o.out,g.out.1⟩,g.out.2⟩
theorem B4(R:Nat)(word:ByteArray)(hw:(⟨#[]⟩:ByteArray)≠word)(b:Bool)(w:M)(h:RS R [] b w):
  Zf O 87 #[L (I ⟨R,0,F⟩),.string word] w fun e w'=>e=V (Zy #[])/\RS R [] Zi w'/\Yi R F w w':=by
 have i:=Yy (NH R b w h);have d:((⟨#[]⟩:ByteArray).toList==word.toList)=Za:=(Lib.bytes_beq_false_iff _ _).2 hw;have g:(⟨#[]⟩:ByteArray).toList=[]:=by rw[Lib.toList_data]
 have o:(!word.toList.isEmpty)=Zi:=by
  rw[g] at d;cases hl:word.toList with
  |nil=>rw[hl] at d;simp at d
  |cons _ _=>rfl
 clear h hw d g;go_enter ZX,ZS;go_wp2_with fail;refine i.out.mono ?_;rintro e m ⟨rfl,c,a⟩;have l:=Yy (J0 R [] Zi m c);have j:=Yy a;clear c a i;go_wp2_with fail;refine l.out.mono ?_;rintro e p ⟨rfl,c,a⟩;have k:=Uy c (j.out.trans a);clear c a l j;go_wp2_with fail;go_end0;exact⟨rfl,k.out.1,k.out.2⟩
theorem wrap_small(n:Nat)(a:n<=1000):IntKind.i64.wrap (n:Int)=(n:Int):=by rw[IntKind.wrap_i64];omega
theorem AR(n:Nat)(hn:n<=1000)(x y:Tr)(rp:Option Zk)(w:M)(hx:x.In w)(hy:y.In w)(hh:x.hgt<=n+1)(hs:x.sm)
  (ih:Zr (∀(x y:Tr)(w:M),x.In w->y.In w->x.hgt<=n->x.sm->Zf O 182 #[Zc #[H G x.k,D x.a x.l.length x.c],Zc #[H G y.k,D y.a y.l.length y.c],H G (n:Int),L rp] w fun e w'=>e=V (.bool (YD YA x.ty y.ty))/\Ze w.heap.size w w')) :
  Zf O 182 #[Zc #[H G x.k,D x.a x.l.length x.c],Zc #[H G y.k,D y.a y.l.length y.c],H G ((n:Int)+1),L rp] w fun e w'=>e=V (.bool (YD YA x.ty y.ty))/\Ze w.heap.size w w':=by
 have hz:(((n:Int)+1)==0)=Za:=by simp;omega
 have a1:=hs.len;by_cases ht0:(x.k==y.k&&(x.l.length:Int)==(y.l.length:Int))=Za
 .have ht:=Yy ht0;clear ht0;go_enter func182,ntmps182;go_wp2_with fail;refine(Lv _ _ _ _ _ _ _ _ Za ht.out _).mono ?_;rintro e w1 ⟨rfl,g⟩;go_wp2_with fail;go_ret;refine⟨?_,(((Y _ _).alloc (U _) _).alloc (by simp) _).trans (g.mono (by simp;omega))⟩;rw[Kt YA x y rfl ht.out];rfl
 .have ht':Zr ((x.k==y.k&&(x.l.length:Int)==(y.l.length:Int))=Zi):=by simpa[Zr] using ht0
  clear ht0;have hk:Zr (x.k=y.k):=by have h:=ht'.out;simp at h;exact h.1
  have hl:Zr (x.l.length=y.l.length):=by have h:=ht'.out;simp at h;exact ZZ h.2
  go_enter func182,ntmps182;go_wp2_with fail;refine(Lv _ _ _ _ _ _ _ _ Zi ht'.out _).mono ?_;rintro e w1 ⟨rfl,g⟩;have l:bL w w1:=(((Y _ _).alloc (U _) _).alloc (by simp) _).trans (g.mono (by simp;omega));have p1:w1.cell? ⟨w.heap.size,1,F⟩=I (D x.a x.l.length x.c):=J g (by simp[go_sem]);have p3:w1.cell? ⟨w.heap.size+1,1,F⟩=I (D y.a y.l.length y.c):=J g (by simp[go_sem]);clear g;go_wp2_with fail;go_loopw [24] (fun i wr=>∃j:Nat,j<=x.l.length/\i=H G (j:Int)/\bL w1 wr/\∀q(h:q<x.l.length)(h':q<y.l.length),q<j->YD YA x.l[q].ty y.l[q].ty=Zi) (fun i _=>x.l.length-(intOf i).toNat)
  case atStart=>exact⟨0,Nat.zero_le _,rfl,Y _ _,fun q _ _ h=>absurd h (by omega)⟩
  case round=>
   obtain⟨j,hj,rfl,d,m⟩:=hrel;have HA:=Yy m;clear m;have c:=l.trans (d.mono l.size);by_cases hlt:j<x.l.length
   .have hlt':j<y.l.length:=hl.out▸hlt;obtain⟨b,o,ea,x0,x1,a0⟩:=hx.part j hlt;obtain⟨p,u,eb,y0,y1,z⟩:=hy.part j hlt';have q1:cL wr w.heap.size 1 (D (I ⟨b,o,F⟩) x.l.length x.c):=by rw[<-ea];exact J d p1
    have q3:cL wr (w.heap.size+1) 1 (D (I ⟨p,u,F⟩) y.l.length y.c):=by rw[<-eb];exact J d p3
    replace x0:=J c x0;replace x1:=J c x1;replace y0:=J c y0;replace y1:=J c y1;have i1:(j:Int)<(x.l.length:Int):=by omega
    have i2:(j:Int)<(y.l.length:Int):=by omega
    have i0:(0:Int)<=(j:Int):=by omega
    clear p1 p3 ea eb hx hy ht';have a2:=wrap_small n hn;obtain⟨r,hr⟩:∃r,YD YA x.l[j].ty y.l[j].ty=r:=⟨_,rfl⟩
    have HC:Zr (∀(w:M),x.l[j].In w->y.l[j].In w->Zf O 182 #[Zc x.l[j].v,Zc y.l[j].v,H G (n:Int),L rp] w fun e w'=>e=V (.bool r)/\bL w w'):=by intro w h1 h2;have:=ih.out x.l[j] y.l[j] w h1 h2 (Tr.mf hh j hlt) (hs.part j hlt);rw[hr] at this;exact this
    have HR:=Yy hr;clear hr;cases r
    .go_wp2_with fail;go_region_held3 (fun w'=>w'.cell? ⟨w.heap.size,1,F⟩=I (D (I ⟨b,o,F⟩) x.l.length x.c)/\w'.cell? ⟨w.heap.size+1,1,F⟩=I (D (I ⟨p,u,F⟩) y.l.length y.c)/\w'.cell? ⟨b,o+j*2,F⟩=I (H G x.l[j].k)/\w'.cell? ⟨b,o+j*2+1,F⟩=I (D x.l[j].a x.l[j].l.length x.l[j].c)/\w'.cell? ⟨p,u+j*2,F⟩=I (H G y.l[j].k)/\w'.cell? ⟨p,u+j*2+1,F⟩=I (D y.l[j].a y.l[j].l.length y.l[j].c)) (first|exact⟨J a q1,J a q3,J a x0,J a x1,J a y0,J a y1⟩|go_keep) (first|(go_at_call 182;refine(HC.out _ (a0.below c.drew) (z.below c.drew)).mono ?_;rintro e w2 ⟨rfl,a⟩))
     have k:=d.drew.trans (a.mono d.size);go_wp2_with fail;go_ret;refine⟨?_,l.trans (k.mono l.size)⟩;rw[JP YA x y rfl j hlt hlt' HR.out];rfl
    .go_wp2_with fail;go_region_held3 (fun w'=>w'.cell? ⟨w.heap.size,1,F⟩=I (D (I ⟨b,o,F⟩) x.l.length x.c)/\w'.cell? ⟨w.heap.size+1,1,F⟩=I (D (I ⟨p,u,F⟩) y.l.length y.c)/\w'.cell? ⟨b,o+j*2,F⟩=I (H G x.l[j].k)/\w'.cell? ⟨b,o+j*2+1,F⟩=I (D x.l[j].a x.l[j].l.length x.l[j].c)/\w'.cell? ⟨p,u+j*2,F⟩=I (H G y.l[j].k)/\w'.cell? ⟨p,u+j*2+1,F⟩=I (D y.l[j].a y.l[j].l.length y.l[j].c)) (first|exact⟨J a q1,J a q3,J a x0,J a x1,J a y0,J a y1⟩|go_keep) (first|(go_at_call 182;refine(HC.out _ (a0.below c.drew) (z.below c.drew)).mono ?_;rintro e w2 ⟨rfl,a⟩))
     have k:=d.drew.trans (a.mono d.size);go_wp2_with fail;go_roundw
     case rel=>
      refine⟨j+1,by omega,by go_num,k,fun q h h' hq=>?_⟩;by_cases e:q=j
      .subst e;exact HR.out
      .exact HA.out q h h' (by omega)
     case measure=>simp[intOf];omega
   .go_wp2_with fail;go_ret;refine⟨?_,c⟩;rw[LH YA x y hk.out hl.out fun q h h'=>HA.out q h h' (by omega)];rfl
theorem Cs(n:Nat):n<=1000->∀(x y:Tr)(rp:Option Zk)(w:M),x.In w->y.In w->x.hgt<=n->x.sm->Zf O 182 #[Zc #[H G x.k,D x.a x.l.length x.c],Zc #[H G y.k,D y.a y.l.length y.c],H G (n:Int),L rp] w fun e w'=>e=V (.bool (YD YA x.ty y.ty))/\Ze w.heap.size w w':=by
 induction n with
 |zero=>intro _ x y rp w _ _ h;have:=x.ml;omega
 |succ n ih=>
  intro d x y rp w c a h b;have e:((n+1:Nat):Int)=(n:Int)+1:=by omega
  rw[e];exact AR n (by omega) x y rp w c a h b (fun x y w c a h b=>ih (by omega) x y rp w c a h b)
def FX(R:Nat)(x y:Tr)(r:Bool)(k:Nat)(wr:M):Prop:=
 wr.frozen? ⟨R,0,F⟩=Za/\
 ((k=1/\∃g cap,wr.cell? ⟨R,0,F⟩=I (D (I ⟨g,0,F⟩) 1 cap)/\wr.ownsRow (R+1) 141 5 (D (I ⟨g,0,F⟩) 1 cap) 1 [H G x.k,D x.a x.l.length x.c,H G y.k,D y.a y.l.length y.c,L F])
  \/(k=0/\r=Zi/\∃a cap,wr.cell? ⟨R,0,F⟩=I (D a 0 cap)))
theorem TE(x y:Tr)(r:Bool)(w:M)(hx:x.In w)(hy:y.In w)
  (HC:Zr (∀(rp:Option Zk)(w:M),x.In w->y.In w->Zf O 182 #[Zc #[H G x.k,D x.a x.l.length x.c],Zc #[H G y.k,D y.a y.l.length y.c],H G 1000,L rp] w fun e w'=>e=V (.bool r)/\Ze w.heap.size w w')) :
  Zf O 44 #[.func (.func 182) #[] #[],Zc #[H G x.k,D x.a x.l.length x.c],Zc #[H G y.k,D y.a y.l.length y.c]] w fun e w'=>e=V (.bool r)/\Ze w.heap.size w w':=by
 go_enter func44,ntmps44;go_wp2_with fail;refine(RW (w.heap.size+1+1) (D F 0 0) 0 [] x.k y.k x.a y.a x.l.length y.l.length x.c y.c F _ (by simp[go_sem]) (by simp[go_sem]) (ZD _ _ _ _) (by omega)).mono ?_;rintro e w1 ⟨rfl,g,cap,l,a0,z,_,m⟩;have a3:bL w w1:=((((Y _ _).alloc (U _) _).alloc (by simp) _).alloc (by simp;omega) _).trans ((m.below (by simp[Zn]) (by simp)).mono (by omega));have a7:w.heap.size+1+1<w1.heap.size:=T _ _ l;have HO:Zr (FX (w.heap.size+1+1) x y r 1 w1):=⟨a0,.inl ⟨rfl,g,cap,by simpa using l,by simpa using z⟩⟩
 clear l a0 z m;go_wp2_with fail;go_loopg [] 1 (fun k wr=>Zr (FX (w.heap.size+1+1) x y r k wr)/\bL w wr)
 case atStart=>exact⟨HO,a3⟩
 case round=>
  obtain⟨HR,u⟩:=hrel;obtain⟨i,⟨rfl,g,cap,j,d⟩|⟨rfl,rfl,a,cap,j⟩⟩:=HR.out
  .have c0:=d.cellAt 0 (by omega);have c1:=d.cellAt 1 (by omega);have c2:=d.cellAt 2 (by omega);have c3:=d.cellAt 3 (by omega);have c4:=d.cellAt 4 (by omega);simp only[Zu,Zv] at c0 c1 c2 c3 c4;have a6:1<=cap:=by
    rcases d.2 with⟨h,_⟩|⟨g',o,a4,h,_,_,h1,_⟩
    .cases h
    .cases h;exact h1
   have a8:w.heap.size+1+1<g:=by
    rcases d.2 with⟨h,_⟩|⟨g',o,a4,h,h1,_⟩
    .cases h
    .cases h;exact h1
   have a9:w.heap.size+1+1<wr.heap.size:=T _ _ j;clear d HR HO;go_wp2_with fail;refine(Kp (w.heap.size+1+1) (I ⟨g,0,F⟩) 1 cap _ j).mono ?_;rintro e w' ⟨rfl,rfl⟩;go_wp2_with fail;refine(Ps (w.heap.size+1+1) g 0 cap x.k y.k x.a y.a x.l.length y.l.length x.c y.c F _ (by simpa using j) i (by omega) (by omega) (by simpa using c0) (by simpa using c1) (by simpa using c2) (by simpa using c3) (by simpa using c4)).mono ?_;rintro e w' ⟨rfl,rfl⟩;go_wp2_with fail;have a1:bL w (((w'.setCell ⟨w.heap.size+1+1,0,F⟩ (D (I ⟨g,0,F⟩) 0 cap)).alloc (Zh #[H G x.k,x.s,H G y.k,y.s,L F] 141)).alloc (Zh #[H G x.k,x.s,H G y.k,y.s,L F] 141)):=((u.setCell (by simp;omega) _).alloc (by simp[Zg];omega) _).alloc (by simp[Zg];omega) _
   have c:=a1.alloc (by simp[Zg];omega) (Zh #[H G x.k,x.s,H G y.k,y.s,L F] 141);refine(HC.out _ _ (hx.below c) (hy.below c)).mono ?_;rintro e w5 ⟨rfl,b⟩;have q:bL w w5:=c.trans (b.mono (by simp[Zg];omega));have a2:cL w5 (w.heap.size+1+1) 0 (D (I ⟨g,0,F⟩) 0 cap):=by refine J b (J ((((Y _ (w'.setCell ⟨w.heap.size+1+1,0,F⟩ (D (I ⟨g,0,F⟩) 0 cap))).alloc (U _) _).alloc (by simp) _).alloc (by simp;omega) _) ?_);exact Zd _ _ _ j
   have a5:w5.frozen? ⟨w.heap.size+1+1,0,F⟩=Za:=by rw[b.frozen (p:=⟨w.heap.size+1+1,0,F⟩) (by simp[Zg];omega)];simp[ZB,i]
   clear b c a1 j i c0 c1 c2 c3 c4;cases r
   .go_wp2_with fail;go_ret;exact⟨rfl,q⟩
   .go_wp2_with fail;go_roundg 0
    case measure=>omega
    case rel=>exact⟨⟨a5,.inr ⟨rfl,rfl,_,_,a2⟩⟩,q⟩
  .go_wp2_with fail;refine(Kp (w.heap.size+1+1) a 0 cap _ j).mono ?_;rintro e w' ⟨rfl,rfl⟩;go_wp2_with fail;go_ret;exact⟨rfl,u⟩
theorem LE(x y:Tr)(w:M)(p:x.In w)(l:y.In w)(m:x.hgt<=1000)(o:x.sm):
  Zf O 147 #[Zc #[H G x.k,D x.a x.l.length x.c],Zc #[H G y.k,D y.a y.l.length y.c]] w fun e w'=>e=V (.bool (YD YA x.ty y.ty))/\Ze w.heap.size w w':=by
 obtain⟨r,g⟩:∃r,YD YA x.ty y.ty=r:=⟨_,rfl⟩
 have k:Zr (∀(c:Option Zk)(w:M),x.In w->y.In w->Zf O 182 #[Zc x.v,Zc y.v,H G 1000,L c] w fun e w'=>e=V (.bool r)/\bL w w'):=by intro c w j d;have h:=Cs 1000 (U _) x y c w j d m o;rw[g] at h;exact h
 rw[g];clear g;have q:Zr (∀(w:M),x.In w->y.In w->Zf O 44 #[.func (.func 182) #[] #[],Zc x.v,Zc y.v] w fun e w'=>e=V (.bool r)/\bL w w'):=fun w j d=>TE x y r w j d k;clear k;go_enter func147,ntmps147;go_wp2_with fail;have a:bL w ((w.alloc (Obj.cells x.v 24)).alloc (Obj.cells y.v 24)):=((Y _ _).alloc (U _) _).alloc (by simp) _;refine(q.out _ (p.below a) (l.below a)).mono ?_;rintro e u ⟨rfl,b⟩;have i:=a.trans (b.mono (by simp;omega));clear a b;go_wp2_with fail;go_ret;exact⟨rfl,i⟩
end Go.Proofs.YtnddkmccagiclabGreatDoor
namespace Go.Proofs.YtnddkmccagiclabGreatDoor
open Go.RowKit
section
variable {P : ZP} {C : M → Prop}
theorem J5{id:Nat}{Q:Exit->Act->M->Prop}{a:Act}{w:M}{l:List ZI}(hm:P.follows .mixedOrders=Zi)(hB:Region.lexB .any l.toArray=Zi)(hC:C { w with drawn:=w.drawn+1 })
  (h:wpQuiet P l.toArray C (fun a'=>∀w',C w'->Q .normal a' w') l a):(Code.region id l.toArray Zi).wp P Q a w:=
 wp_region_quiet (C:=C) hm hB hC (by simpa using h)
variable {ops : Array ZI} {Q : Act → Prop} {a : Act} {o : ZI} {rest : List ZI}
theorem Mc(v:Zo)(hw:Zm o (ZC ops a.tmps)=Zi)(h:∀W,C W->(execOp a.eval o).run P W=.ok (.value v) W)(hk:wpQuiet P ops C Q rest (a.put o.dst v)):wpQuiet P ops C Q (o::rest) a:=wpQuiet_step fun K hK=>by rw[if_pos hw];exact⟨v,fun W hW=>by unfold Oper.quietAt;rw[h W hW];exact⟨rfl,rfl⟩,hK _ hk⟩
theorem UO(v:Zo)(f:FuncId)(args:Array Zo)(hw:Zm o (ZC ops a.tmps)=Zi)(h:∀W,C W->(execOp a.eval o).run P W=.ok (.enter f args) W)(hc:∀W,C W->Zf P f args W fun e w'=>e=V v/\C w')
  (hk:wpQuiet P ops C Q rest (a.put o.dst v)):wpQuiet P ops C Q (o::rest) a:=
 wpQuiet_step fun K hK=>by rw[if_pos hw];exact⟨v,fun W hW=>by unfold Oper.quietAt;rw[h W hW];exact⟨rfl,hc W hW⟩,hK _ hk⟩
end
end Go.Proofs.YtnddkmccagiclabGreatDoor
namespace Go.Proofs.YtnddkmccagiclabGreatDoor
structure J4(ib io:Nat)(w w':M):Prop where
 os:w'.os=w.os
 tape:w'.tape=w.tape
 output:w'.output=w.output
 size:w.heap.size<=w'.heap.size
 block:∀k,k<w.heap.size->k≠ib->w'.heap[k]?=w.heap[k]?
 cell:∀o,o≠io->o≠io+1->w'.cell? ⟨ib,o,F⟩=w.cell? ⟨ib,o,F⟩
 frozen:∀o,w'.frozen? ⟨ib,o,F⟩=w.frozen? ⟨ib,o,F⟩
theorem J4.alloc{ib io:Nat}{w w':M}(h:J4 ib io w w')(hi:ib<w.heap.size)(o:Obj):J4 ib io w (w'.alloc o):=
 have hs:=h.size
 have hb:bL w' (w'.alloc o):=(Y _ _).alloc (U _) o
 ⟨h.os,h.tape,h.output,by rw[World.size_alloc];omega,fun k hk hne=>(hb.block k (by omega)).trans (h.block k hk hne),fun q h0 h1=>(hb.cell (p:=⟨ib,q,F⟩) (by simp;omega)).trans (h.cell q h0 h1),fun q=>(hb.frozen (p:=⟨ib,q,F⟩) (by simp;omega)).trans (h.frozen q)⟩
theorem J4.la{ib io:Nat}{w w':M}(h:Ze w.heap.size w w')(hi:ib<w.heap.size):J4 ib io w w':=⟨h.os,h.tape,h.output,h.size,fun k hk _=>h.block k hk,fun q _ _=>h.cell (p:=⟨ib,q,F⟩) hi,fun q=>h.frozen (p:=⟨ib,q,F⟩) hi⟩
theorem J4.set{ib io:Nat}{w w':M}(h:J4 ib io w w')(u v:Zo):J4 ib io w ((w'.setCell ⟨ib,io,F⟩ u).setCell ⟨ib,io+1,F⟩ v):=by
 refine⟨h.os,h.tape,h.output,?_,fun k c a=>?_,fun q d b=>?_,fun q=>?_⟩
 .have hs:=h.size;simp only[Zg,Array.size_modify];exact hs
 .rw[Zt _ _ _ _ a,Zt _ _ _ _ a];exact h.block k c a
 .rw[Z,Z]
  .exact h.cell q d b
  .intro e;simp only[Addr.mk.injEq] at e;omega
  .intro e;simp only[Addr.mk.injEq] at e;omega
 .rw[Zb,Zb];exact h.frozen q
theorem XJ{ib io:Nat}{w:M}{u v u' v':Zo}(b:w.cell? ⟨ib,io,F⟩=I u')(c:w.cell? ⟨ib,io+1,F⟩=I v'):
  ((w.setCell ⟨ib,io,F⟩ u).setCell ⟨ib,io+1,F⟩ v).cell? ⟨ib,io,F⟩=I u/\((w.setCell ⟨ib,io,F⟩ u).setCell ⟨ib,io+1,F⟩ v).cell? ⟨ib,io+1,F⟩=I v:=by
 have a:(⟨ib,io+1,F⟩:Zk)≠⟨ib,io,F⟩:=by intro e;simp only[Addr.mk.injEq] at e;omega
 constructor
 .rw[Z _ _ _ _ a];exact Zd _ _ _ b
 .refine Zd _ _ _ (u:=v') ?_;rw[Z _ _ _ _ (Ne.symm a)];exact c
def Jt(x y:Tr)(ib io:Nat)(w w':M):Prop:=∃t:Tr,t.ty=Xq x.ty y.ty/\t.In w'/\t.Bl (w.heap.size<=·)/\w'.cell? ⟨ib,io,F⟩=I (H G t.k)/\w'.cell? ⟨ib,io+1,F⟩=I (D t.a t.l.length t.c)/\J4 ib io w w'
def JI(W1:M)(P:Nat)(x0 x1 y0 y1:Tr)(j:Nat)(wr:M):Prop:=
 Ze P W1 wr/\(∀o,wr.frozen? ⟨P,o,F⟩=Za)/\∃s0 s1:Tr,s0.In wr/\s1.In wr/\s0.Bl (P<·)/\s1.Bl (P<·)/\
  wr.cell? ⟨P,0,F⟩=I (H G s0.k)/\wr.cell? ⟨P,1,F⟩=I (D s0.a s0.l.length s0.c)/\wr.cell? ⟨P,2,F⟩=I (H G s1.k)/\wr.cell? ⟨P,3,F⟩=I (D s1.a s1.l.length s1.c)/\
  (0<j->s0.ty=Xq x0.ty y0.ty)/\(1<j->s1.ty=Xq x1.ty y1.ty)/\(j<=0->s0=Ys 0)/\(j<=1->s1=Ys 0)
theorem J4.under{ib io:Nat}{w w':M}(h:J4 ib io w w')(hi:ib<=w.heap.size):Ze ib w w':=⟨h.os,h.tape,h.output,h.size,fun k hk=>h.block k (by omega) (by omega)⟩
theorem Jt.under{x y:Tr}{P io:Nat}{w w':M}(h:Jt x y P io w.drew w')(b:P<=w.heap.size):Ze P w w':=by obtain⟨_,_,_,_,_,_,a⟩:=h;exact((Y _ _).drew).trans (a.under b)
theorem J4.keeps{ib io:Nat}{w w':M}(h:J4 ib io w w'){t:Tr}(c:t.In w)(d:t.Bl (·≠ib)):t.In w':=by refine c.congr (P:=fun b=>b<w.heap.size/\b≠ib) ?_ (c.bl.and d);rintro b ⟨e,g⟩ o;exact Zz (a:=⟨b,o,F⟩) (h.block b e g)
theorem JI.start{W1:M}{x0 x1 y0 y1:Tr}:JI W1 W1.heap.size x0 x1 y0 y1 0 (W1.alloc (Zh #[H G 0,D F 0 0,H G 0,D F 0 0] 24)):=by refine⟨(Y _ _).alloc (U _) _,fun o=>by simp[go_sem],Ys 0,Ys 0,YC _ _,YC _ _,YF _ _,YF _ _,by simp[go_sem,Ys],by simp[go_sem,Ys],by simp[go_sem,Ys],by simp[go_sem,Ys],fun h=>absurd h (by omega),fun h=>absurd h (by omega),fun _=>rfl,fun _=>rfl⟩
theorem JI.qy{W1 wr w2:M}{P:Nat}{x0 x1 y0 y1:Tr}(h:JI W1 P x0 x1 y0 y1 0 wr)(u:Jt x0 y0 P 0 wr.drew w2):JI W1 P x0 x1 y0 y1 1 w2:=by obtain⟨c,k,s0,s1,z,q,b0,g,y,c1,j,m,t0,t1,z0,r⟩:=h;obtain⟨t,p,e,d,l,x,a⟩:=u;have i:P<wr.heap.size:=T _ _ y;refine⟨c.drew.trans (a.under (ZT i)),fun o=>(a.frozen o).trans (k o),t,s1,e,a.keeps (w:=wr.drew) (q.below ((Y _ _).drew)) (g.mono fun b c=>by omega),d.mono (fun b c=>Nat.lt_of_lt_of_le i c),g,l,x,(a.cell 2 (by omega) (by omega)).trans j,(a.cell 3 (by omega) (by omega)).trans m,fun _=>p,fun h=>absurd h (by omega),fun h=>absurd h (by omega),fun _=>r (by omega)⟩
theorem JI.step1{W1 wr w2:M}{P:Nat}{x0 x1 y0 y1:Tr}(h:JI W1 P x0 x1 y0 y1 1 wr)(q:Jt x1 y1 P 2 wr.drew w2):JI W1 P x0 x1 y0 y1 2 w2:=by obtain⟨c,l,s0,s1,k,i1,g,z,j,u,y,c3,x,t1,z0,z1⟩:=h;obtain⟨t,p,e,d,m,r,a⟩:=q;have i:P<wr.heap.size:=T _ _ j;refine⟨c.drew.trans (a.under (ZT i)),fun o=>(a.frozen o).trans (l o),s0,t,a.keeps (w:=wr.drew) (k.below ((Y _ _).drew)) (g.mono fun b c=>by omega),e,g,d.mono (fun b c=>Nat.lt_of_lt_of_le i c),(a.cell 0 (by omega) (by omega)).trans j,(a.cell 1 (by omega) (by omega)).trans u,m,r,fun _=>x (by omega),fun _=>p,fun h=>absurd h (by omega),fun h=>absurd h (by omega)⟩
theorem Tryz.info24:(O.info? 24).map (fun i=>(i.zero,i.size,i.bytes))=I (I (Zc #[H G 0,D F 0 0]),2,32):=by kernel_rfl
theorem FM(w:M):(Instr.makeSlice 22 (H G 0) (H G 0)).run O w=.ok (D (I ⟨w.heap.size,0,F⟩) 0 0) (w.alloc (Zh #[] 24)):=by
 obtain⟨d,c,a,b,g⟩:=info_parts Tryz.info24;have h:=run_make (P:=O) w 22 24 d _ underlying22 c a G G 0 0 (by omega) (by omega) (by omega) (by omega);rw[h,b];have e:ZV (Value.agg #[H G 0,D F 0 0]).cells (Int.toNat 0*2)=#[]:=by apply Array.ext';simp[ZV,Array.range_zero']
 rw[e];rfl
theorem FL(w:M):(Instr.makeSlice 22 (H G 2) (H G 2)).run O w=.ok (D (I ⟨w.heap.size,0,F⟩) 2 2) (w.alloc (Zh #[H G 0,D F 0 0,H G 0,D F 0 0] 24)):=by
 obtain⟨g,d,b,c,a⟩:=info_parts Tryz.info24;have h:=run_make (P:=O) w 22 24 g _ underlying22 d b G G 2 2 (by omega) (by omega) (by rw[a];omega) (by omega);rw[h,c];have e:ZV (Value.agg #[H G 0,D F 0 0]).cells (Int.toNat 2*2)=#[H G 0,D F 0 0,H G 0,D F 0 0]:=by apply Array.ext';simp[ZV,Value.cells,List.range_succ]
 rw[e];rfl
theorem BB(n:Nat)(i:n<=1000)(k b:Int)(h:(k != b)=Zi)(a a' p g:Option Zk)(m d c c':Nat)(w:M):
  Zf O 110 #[Zc #[H G k,D a m c,H G b,D a' d c',L p],H G ((n:Int)+1),L g] w fun e w'=>e=V (Zy #[])/\w'=w.alloc (Zh #[H G k,D a m c,H G b,D a' d c',L p] 141):=by
 have hz:(((n:Int)+1)==0)=Za:=by simp;omega
 go_enter ZU,ZQ;go_wp2_with fail;exact ZF (v:=Zy #[]) (by simp[results,results110,go_sem]) rfl ⟨rfl,rfl⟩
theorem BA(n:Nat)(p:n<=1000)(k:Int)(a a' j:Option Zk)(c c' ib io:Nat)(w:M)(d:w.cell? ⟨ib,io,F⟩=I (H G 0))(h:w.cell? ⟨ib,io+1,F⟩=I (D F 0 0))(o:w.frozen? ⟨ib,io,F⟩=Za)(m:w.frozen? ⟨ib,io+1,F⟩=Za):
  Zf O 110 #[Zc #[H G k,D a 0 c,H G k,D a' 0 c',L (I ⟨ib,io,F⟩)],H G ((n:Int)+1),L j] w fun e w'=>e=V (Zy #[])/\∃g,w'.cell? ⟨ib,io,F⟩=I (H G k)/\w'.cell? ⟨ib,io+1,F⟩=I (D (I ⟨g,0,F⟩) 0 0)/\J4 ib io w w':=by
 have hz:(((n:Int)+1)==0)=Za:=by simp;omega
 have b:ib<w.heap.size:=T _ _ d;have l:=FM;go_enter ZU,ZQ;go_wp2_with fail;go_loopw [32] (fun i wr=>i=H G 0/\wr=(w.alloc (Zh #[H G k,D a 0 c,H G k,D a' 0 c',L (I ⟨ib,io,F⟩)] 141)).alloc (Zh #[] 24)) (fun _ _=>0)
 case atStart=>exact⟨rfl,rfl⟩
 case round=>
  obtain⟨rfl,rfl⟩:=hrel;go_wp2_with fail;go_end0;refine⟨rfl,w.heap.size+1,?_,?_,((J4.la (Y _ _) b).set _ _).alloc b _ |>.alloc b _⟩
  .refine J (((Y _ _).alloc (U _) _).alloc (by simp) _) (XJ d h).1
  .refine J (((Y _ _).alloc (U _) _).alloc (by simp) _) (XJ d h).2
theorem C9(n:Nat)(hn:n<=1000)(rp:Option Zk)(bx ox by' oy c c' ib io:Nat)(x0 x1 y0 y1:Tr)(w:M)(z0:w.cell? ⟨ib,io,F⟩=I (H G 0))(z1:w.cell? ⟨ib,io+1,F⟩=I (D F 0 0))(f0:w.frozen? ⟨ib,io,F⟩=Za)(f1:w.frozen? ⟨ib,io+1,F⟩=Za)
  (cx0:w.cell? ⟨bx,ox,F⟩=I (H G x0.k)) (cx1:w.cell? ⟨bx,ox+1,F⟩=I (D x0.a x0.l.length x0.c)) (cx2:w.cell? ⟨bx,ox+2,F⟩=I (H G x1.k)) (cx3:w.cell? ⟨bx,ox+3,F⟩=I (D x1.a x1.l.length x1.c))
  (cy0:w.cell? ⟨by',oy,F⟩=I (H G y0.k)) (cy1:w.cell? ⟨by',oy+1,F⟩=I (D y0.a y0.l.length y0.c)) (cy2:w.cell? ⟨by',oy+2,F⟩=I (H G y1.k)) (cy3:w.cell? ⟨by',oy+3,F⟩=I (D y1.a y1.l.length y1.c))
  (H0:Zr (∀(P:Nat)(W:M),w.heap.size<=P->Ze w.heap.size w W->W.cell? ⟨P,0,F⟩=I (H G 0)->W.cell? ⟨P,0+1,F⟩=I (D F 0 0)->(∀o,W.frozen? ⟨P,o,F⟩=Za)->Zf O 110 #[Zc #[H G x0.k,D x0.a x0.l.length x0.c,H G y0.k,D y0.a y0.l.length y0.c,L (I ⟨P,0,F⟩)],H G (n:Int),L rp] W fun e w'=>e=V (Zy #[])/\Jt x0 y0 P 0 W w'))
  (H1:Zr (∀(P:Nat)(W:M),w.heap.size<=P->Ze w.heap.size w W->W.cell? ⟨P,2,F⟩=I (H G 0)->W.cell? ⟨P,2+1,F⟩=I (D F 0 0)->(∀o,W.frozen? ⟨P,o,F⟩=Za)->Zf O 110 #[Zc #[H G x1.k,D x1.a x1.l.length x1.c,H G y1.k,D y1.a y1.l.length y1.c,L (I ⟨P,2,F⟩)],H G (n:Int),L rp] W fun e w'=>e=V (Zy #[])/\Jt x1 y1 P 2 W w')) :
  Zf O 110 #[Zc #[H G 3,D (I ⟨bx,ox,F⟩) 2 c,H G 3,D (I ⟨by',oy,F⟩) 2 c',L (I ⟨ib,io,F⟩)],H G ((n:Int)+1),L rp] w fun e w'=>e=V (Zy #[])/\∃W1 wr P,w.heap.size<=P/\Ze w.heap.size w wr/\JI W1 P x0 x1 y0 y1 2 wr/\w'=(wr.setCell ⟨ib,io,F⟩ (H G 3)).setCell ⟨ib,io+1,F⟩ (D (I ⟨P,0,F⟩) 2 2):=by
 have hz:(((n:Int)+1)==0)=Za:=by simp;omega
 have lb:ib<w.heap.size:=T _ _ z0;have d:bx<w.heap.size:=T _ _ cx0;have g:by'<w.heap.size:=T _ _ cy0
 have a1:=FL;have a3:IntKind.i64.wrap (n:Int)=(n:Int):=by rw[IntKind.wrap_i64];omega
 go_enter ZU,ZQ;go_wp2_with fail;go_loopg [32] 2 (fun k i wr=>∃j:Nat,k+j=2/\i=H G (j:Int)/\JI (w.alloc (Zh #[H G 3,D (I ⟨bx,ox,F⟩) 2 c,H G 3,D (I ⟨by',oy,F⟩) 2 c',L (I ⟨ib,io,F⟩)] 141)) (w.heap.size+1) x0 x1 y0 y1 j wr)
 case atStart=>exact⟨0,rfl,rfl,by simpa using JI.start (W1:=w.alloc (Zh #[H G 3,D (I ⟨bx,ox,F⟩) 2 c,H G 3,D (I ⟨by',oy,F⟩) 2 c',L (I ⟨ib,io,F⟩)] 141)) (x0:=x0) (x1:=x1) (y0:=y0) (y1:=y1)⟩
 case round=>
  obtain⟨j,hj,rfl,m⟩:=hrel;have HJ:=Yy m;obtain⟨l,q,s0,s1,i0,i1,b0,b1,r,z,u,y,t0,t1,x,e1⟩:=m;have a:bL w wr:=((Y _ _).alloc (U _) _).trans (l.mono (by omega));have q1:wr.cell? ⟨w.heap.size,1,F⟩=I (D (I ⟨bx,ox,F⟩) 2 c):=by rw[l.cell (p:=⟨w.heap.size,1,F⟩) (by simp)];simp[go_sem]
  have q3:wr.cell? ⟨w.heap.size,3,F⟩=I (D (I ⟨by',oy,F⟩) 2 c'):=by rw[l.cell (p:=⟨w.heap.size,3,F⟩) (by simp)];simp[go_sem]
  have q4:wr.cell? ⟨w.heap.size,4,F⟩=I (L (I ⟨ib,io,F⟩)):=by rw[l.cell (p:=⟨w.heap.size,4,F⟩) (by simp)];simp[go_sem]
  have q0:wr.cell? ⟨w.heap.size,0,F⟩=I (H G 3):=by rw[l.cell (p:=⟨w.heap.size,0,F⟩) (by simp)];simp[go_sem]
  replace cx0:=J a cx0;replace cx1:=J a cx1;replace cx2:=J a cx2;replace cx3:=J a cx3;replace cy0:=J a cy0;replace cy1:=J a cy1;replace cy2:=J a cy2;replace cy3:=J a cy3;have hP:w.heap.size+1<=wr.heap.size:=ZT (T _ _ r);obtain rfl|rfl|rfl:j=0\/j=1\/j=2:=by omega
  .obtain rfl:=x (by omega);have HG:=LL r z q;clear q i0 i1 b0 b1 r z u y t0 t1 x e1 z0 z1 f0 f1 q0 q4;go_wp2_with fail;go_region_held3 (fun w'=>w'.cell? ⟨w.heap.size,1,F⟩=I (D (I ⟨bx,ox,F⟩) 2 c)/\w'.cell? ⟨w.heap.size,3,F⟩=I (D (I ⟨by',oy,F⟩) 2 c')/\w'.cell? ⟨bx,ox,F⟩=I (H G x0.k)/\w'.cell? ⟨bx,ox+1,F⟩=I (D x0.a x0.l.length x0.c)/\w'.cell? ⟨by',oy,F⟩=I (H G y0.k)/\w'.cell? ⟨by',oy+1,F⟩=I (D y0.a y0.l.length y0.c))
    (first
     |exact⟨(hu.cell (p:=⟨w.heap.size,1,F⟩) (by simp)).trans q1,(hu.cell (p:=⟨w.heap.size,3,F⟩) (by simp)).trans q3,(hu.cell (p:=⟨bx,_,F⟩) (Zl d)).trans cx0,(hu.cell (p:=⟨bx,_,F⟩) (Zl d)).trans cx1,(hu.cell (p:=⟨by',_,F⟩) (Zl g)).trans cy0,(hu.cell (p:=⟨by',_,F⟩) (Zl g)).trans cy1⟩
     |go_keep)
    (first
     |(go_at_call 110;refine(H0.out _ _ (ZY _) a.drew HG.out.1 HG.out.2.1 HG.out.2.2).mono ?_;rintro e w2 ⟨rfl,b⟩;have hu:=b.under hP))
   have h:=Yy (JI.qy HJ.out b);clear b;go_wp2_with fail;go_roundg 1
   case measure=>omega
   case rel=>exact⟨1,rfl,rfl,h⟩
  .obtain rfl:=e1 (by omega);have HG:=LL u y q;clear q i0 i1 b0 b1 r z u y t0 t1 x e1 z0 z1 f0 f1 q0 q4;go_wp2_with fail;go_region_held3 (fun w'=>w'.cell? ⟨w.heap.size,1,F⟩=I (D (I ⟨bx,ox,F⟩) 2 c)/\w'.cell? ⟨w.heap.size,3,F⟩=I (D (I ⟨by',oy,F⟩) 2 c')/\w'.cell? ⟨bx,ox+2,F⟩=I (H G x1.k)/\w'.cell? ⟨bx,ox+3,F⟩=I (D x1.a x1.l.length x1.c)/\w'.cell? ⟨by',oy+2,F⟩=I (H G y1.k)/\w'.cell? ⟨by',oy+3,F⟩=I (D y1.a y1.l.length y1.c))
    (first
     |exact⟨(hu.cell (p:=⟨w.heap.size,1,F⟩) (by simp)).trans q1,(hu.cell (p:=⟨w.heap.size,3,F⟩) (by simp)).trans q3,(hu.cell (p:=⟨bx,_,F⟩) (Zl d)).trans cx2,(hu.cell (p:=⟨bx,_,F⟩) (Zl d)).trans cx3,(hu.cell (p:=⟨by',_,F⟩) (Zl g)).trans cy2,(hu.cell (p:=⟨by',_,F⟩) (Zl g)).trans cy3⟩
     |go_keep)
    (first
     |(go_at_call 110;refine(H1.out _ _ (ZY _) a.drew HG.out.1 HG.out.2.1 HG.out.2.2).mono ?_;rintro e w2 ⟨rfl,b⟩;have hu:=b.under hP))
   have h:=Yy (JI.step1 HJ.out b);clear b;go_wp2_with fail;go_roundg 0
   case measure=>omega
   case rel=>exact⟨2,rfl,rfl,h⟩
  .have zz0:=J a z0;have a2:=J a z1;have a0:wr.frozen? ⟨ib,io,F⟩=Za:=(a.frozen (p:=⟨ib,io,F⟩) lb).trans f0;have a4:wr.frozen? ⟨ib,io+1,F⟩=Za:=(a.frozen (p:=⟨ib,io+1,F⟩) lb).trans f1;clear q i0 i1 b0 b1 r z u y t0 t1 x e1 z0 z1 f0 f1;go_wp2_with fail;go_end0;exact⟨rfl,_,_,_,ZY _,a,HJ.out,rfl⟩
theorem X4{ib io:Nat}{w:M}{u v:Zo}{t:Tr}(a:t.In w)(c:t.Bl (·≠ib)):t.In ((w.setCell ⟨ib,io,F⟩ u).setCell ⟨ib,io+1,F⟩ v):=by
 refine a.congr (P:=(·≠ib)) ?_ c;intro b d o;rw[Z,Z]
 .intro e;simp only[Addr.mk.injEq] at e;omega
 .intro e;simp only[Addr.mk.injEq] at e;omega
theorem Jt.py{x y x0 x1 y0 y1:Tr}{ib io P:Nat}{w wr W1:M}(q:x.l=[x0,x1])(m:y.l=[y0,y1])(p:x.k=3)(r:y.k=3)(i:ib<w.heap.size)(hP:w.heap.size<=P)(g:Ze w.heap.size w wr)(h:JI W1 P x0 x1 y0 y1 2 wr)
  (z0:w.cell? ⟨ib,io,F⟩=I (H G 0)) (z1:w.cell? ⟨ib,io+1,F⟩=I (D F 0 0)) :
  Jt x y ib io w ((wr.setCell ⟨ib,io,F⟩ (H G 3)).setCell ⟨ib,io+1,F⟩ (D (I ⟨P,0,F⟩) 2 2)):=by
 obtain⟨_,hf,s0,s1,i0,i1,z,j,d0,d1,d2,d3,t0,t1,_,_⟩:=h;have hc:=XJ (u:=H G 3) (v:=D (I ⟨P,0,F⟩) 2 2) (J g z0) (J g z1);have d:∀o,((wr.setCell ⟨ib,io,F⟩ (H G 3)).setCell ⟨ib,io+1,F⟩ (D (I ⟨P,0,F⟩) 2 2)).cell? ⟨P,o,F⟩=wr.cell? ⟨P,o,F⟩:=by
  intro o;rw[Z,Z]
  .intro e;simp only[Addr.mk.injEq] at e;omega
  .intro e;simp only[Addr.mk.injEq] at e;omega
 refine⟨.mk 3 (I ⟨P,0,F⟩) 2 [s0,s1],?_,?_,?_,hc.1,hc.2,(J4.la g i).set _ _⟩
 .obtain⟨k,a,c,l⟩:=x;obtain⟨k',a',c',l'⟩:=y;dsimp only at q m p r;subst q m p r;simp[Tr.lh,UB,JZ,t0 (by omega),t1 (by omega)]
 .exact Tr.mp (by rw[d];exact d0) (by rw[d];exact d1) (by rw[d];exact d2) (by rw[d];exact d3) (X4 i0 (z.mono fun b g=>by omega)) (X4 i1 (j.mono fun b g=>by omega))
 .exact Tr.mg hP (z.mono fun b g=>by omega) (j.mono fun b g=>by omega)
theorem Jt.qh{x y:Tr}{ib io:Nat}{w w':M}(e:x.k≠y.k)(b:ib<w.heap.size)(d:Ze w.heap.size w w')(h:w.cell? ⟨ib,io,F⟩=I (H G 0))(g:w.cell? ⟨ib,io+1,F⟩=I (D F 0 0)):Jt x y ib io w w':=by refine⟨Ys 0,?_,YC _ _,YF _ _,J d h,J d g,J4.la d b⟩;obtain⟨k,a,c,l⟩:=x;obtain⟨i,a',c',l'⟩:=y;dsimp only at e;simp[Ys,Tr.lh,UB,if_neg e]
theorem Da(n:Nat):n<=1000->∀(x y:Tr)(rp:Option Zk)(ib io:Nat)(w:M),x.In w->y.In w->x.right->y.right->x.hgt<=n->w.cell? ⟨ib,io,F⟩=I (H G 0)->w.cell? ⟨ib,io+1,F⟩=I (D F 0 0)->w.frozen? ⟨ib,io,F⟩=Za->w.frozen? ⟨ib,io+1,F⟩=Za->
  Zf O 110 #[Zc #[H G x.k,D x.a x.l.length x.c,H G y.k,D y.a y.l.length y.c,L (I ⟨ib,io,F⟩)],H G (n:Int),L rp] w fun e w'=>e=V (Zy #[])/\Jt x y ib io w w':=by
 induction n with
 |zero=>intro _ x y rp ib io w _ _ _ _ h;have:=x.ml;omega
 |succ n ih=>
  intro hn x y rp ib io w hx hy rx ry hh z0 z1 f0 f1;have lb:ib<w.heap.size:=T _ _ z0;have e:((n+1:Nat):Int)=(n:Int)+1:=by omega
  rw[e];by_cases hk:x.k=y.k
  .rcases rx.cases with⟨lx,kx⟩|⟨x0,x1,lx,kx,r0,r1⟩
   .rcases ry.cases with⟨ly,ky⟩|⟨y0,y1,ly,ky,_,_⟩
    .rw[lx,ly,<-hk];refine(BA n (by omega) x.k x.a y.a rp x.c y.c ib io w z0 z1 f0 f1).mono ?_;rintro e w' ⟨rfl,g,c0,c1,hw⟩;refine⟨rfl,.mk x.k (I ⟨g,0,F⟩) 0 [],?_,Tr.mm _ _ _ _,Tr.mo _ _ _ _,c0,c1,hw⟩;obtain⟨k,a,c,l⟩:=x;obtain⟨k',a',c',l'⟩:=y;dsimp only at lx ly hk;subst lx ly hk;simp[Tr.lh,UB,JZ]
    .omega
   .rcases ry.cases with⟨ly,ky⟩|⟨y0,y1,ly,ky,q0,q1⟩
    .omega
    .obtain⟨bx,ox,ax,cx0,cx1,hx0⟩:=hx.part 0 (by simp[lx]);obtain⟨a8,a5,a3,a0,a2,r⟩:=hx.part 1 (by simp[lx]);obtain⟨u,oy,ay,o,m,a4⟩:=hy.part 0 (by simp[ly]);obtain⟨z,a7,d,j,p,i⟩:=hy.part 1 (by simp[ly]);have a1:=Tr.mf hh 0 (by simp[lx]);have q:=Tr.mf hh 1 (by simp[lx]);rw[ax] at a3;rw[ay] at d;obtain⟨rfl,rfl⟩:bx=a8/\ox=a5:=by simpa using a3
     obtain⟨rfl,rfl⟩:u=z/\oy=a7:=by simpa using d
     simp only[lx,Zq,Zx] at cx0 cx1 a0 a2 hx0 r a1 q;simp only[ly,Zq,Zx] at o m j p a4 i;rw[ax,ay,lx,ly,kx,ky];refine(C9 n (by omega) rp bx ox u oy x.c y.c ib io x0 x1 y0 y1 w z0 z1 f0 f1 (by simpa using cx0) (by simpa using cx1) (by simpa using a0) (by simpa using a2) (by simpa using o) (by simpa using m) (by simpa using j) (by simpa using p) (fun P W _ b g0 g1 gf=>ih (by omega) x0 y0 rp P 0 W (hx0.below b) (a4.below b) r0 q0 a1 g0 g1 (gf _) (gf _)) (fun P W _ b g0 g1 gf=>ih (by omega) x1 y1 rp P 2 W (r.below b) (i.below b) r1 q1 q g0 g1 (gf _) (gf _))).mono ?_
     rintro e w' ⟨rfl,W1,wr,P,hP,b,a6,rfl⟩;exact⟨rfl,Jt.py lx ly kx ky lb hP b a6 z0 z1⟩
  .refine(BB n (by omega) x.k y.k (by simpa using hk) x.a y.a (I ⟨ib,io,F⟩) rp x.l.length y.l.length x.c y.c w).mono ?_;rintro e w' ⟨rfl,rfl⟩;exact⟨rfl,Jt.qh hk lb ((Y _ _).alloc (U _) _) z0 z1⟩
def FA(R:Nat)(x y:Tr)(k:Nat)(wr:M):Prop:=
 wr.frozen? ⟨R+1,0,F⟩=Za/\wr.frozen? ⟨R,0,F⟩=Za/\wr.frozen? ⟨R,1,F⟩=Za/\
 ((k=1/\wr.cell? ⟨R,0,F⟩=I (H G 0)/\wr.cell? ⟨R,1,F⟩=I (D F 0 0)/\∃g cap,wr.cell? ⟨R+1,0,F⟩=I (D (I ⟨g,0,F⟩) 1 cap)/\wr.ownsRow (R+2) 141 5 (D (I ⟨g,0,F⟩) 1 cap) 1 [H G x.k,D x.a x.l.length x.c,H G y.k,D y.a y.l.length y.c,L (I ⟨R,0,F⟩)])
  \/(k=0/\(∃t:Tr,t.ty=Xq x.ty y.ty/\t.In wr/\t.Bl (R<·)/\wr.cell? ⟨R,0,F⟩=I (H G t.k)/\wr.cell? ⟨R,1,F⟩=I (D t.a t.l.length t.c))/\∃a cap,wr.cell? ⟨R+1,0,F⟩=I (D a 0 cap)))
theorem P0(x y:Tr)(w:M)(hx:x.In w)(hy:y.In w)(rx:x.right)(ry:y.right)(hh:x.hgt<=1000):
  Zf O 71 #[Zc #[H G x.k,D x.a x.l.length x.c],Zc #[H G y.k,D y.a y.l.length y.c]] w fun e w'=>∃t:Tr,e=V (Zc #[H G t.k,D t.a t.l.length t.c])/\t.ty=Xq x.ty y.ty/\t.In w'/\t.Bl (w.heap.size<=·)/\Ze w.heap.size w w':=by
 have HC:Zr (∀(rp:Option Zk)(ib io:Nat)(w:M),x.In w->y.In w->cL w ib io (H G 0)->cL w ib (io+1) (D F 0 0)->w.frozen? ⟨ib,io,F⟩=Za->w.frozen? ⟨ib,io+1,F⟩=Za-> Zf O 110 #[Zc #[H G x.k,x.s,H G y.k,y.s,L (I ⟨ib,io,F⟩)],H G 1000,L rp] w fun e w'=>e=V (Zy #[])/\Jt x y ib io w w'):=fun rp ib io w h1 h2=>Da 1000 (U _) x y rp ib io w h1 h2 rx ry hh
 go_enter func71,ntmps71;go_wp2_with fail;obtain⟨W0,j⟩:∃W0,W0=(((w.alloc (Obj.cells x.v 24)).alloc (Obj.cells y.v 24)).alloc (Obj.cells #[H G 0,D F 0 0] 24)):=⟨_,rfl⟩
 have d:W0.heap.size=w.heap.size+1+1+1:=by rw[j];simp
 have a5:bL w W0:=by rw[j];exact(((Y _ _).alloc (U _) _).alloc (by simp) _).alloc (by simp;omega) _
 have r0:W0.cell? ⟨w.heap.size+1+1,0,F⟩=I (H G 0):=by rw[j];simp[go_sem]
 have r1:W0.cell? ⟨w.heap.size+1+1,1,F⟩=I (D F 0 0):=by rw[j];simp[go_sem]
 have r2:∀o,W0.frozen? ⟨w.heap.size+1+1,o,F⟩=Za:=by intro o;rw[j];simp[go_sem]
 rw[<-j];clear j;have u0:((W0.alloc (Obj.cells #[H G 0,D F 0 0] 24)).alloc (Obj.cells #[D F 0 0] 137)).cell? ⟨w.heap.size+1+1+1,0,F⟩=I (H G 0):=by rw[<-d];simp[go_sem]
 have u1:((W0.alloc (Obj.cells #[H G 0,D F 0 0] 24)).alloc (Obj.cells #[D F 0 0] 137)).cell? ⟨w.heap.size+1+1+1,1,F⟩=I (D F 0 0):=by rw[<-d];simp[go_sem]
 have u2:∀o,((W0.alloc (Obj.cells #[H G 0,D F 0 0] 24)).alloc (Obj.cells #[D F 0 0] 137)).frozen? ⟨w.heap.size+1+1+1,o,F⟩=Za:=by intro o;rw[<-d];simp[go_sem]
 refine(RW (w.heap.size+1+1+1+1) (D F 0 0) 0 [] x.k y.k x.a y.a x.l.length y.l.length x.c y.c (I ⟨w.heap.size+1+1+1,0,F⟩) _ (by rw[<-d];simp[go_sem]) (by rw[<-d];simp[go_sem]) (ZD _ _ _ _) (by omega)).mono ?_;rintro e w1 ⟨rfl,g,cap,aa,a9,a6,_,a3⟩;have ad:Ze (w.heap.size+1+1+1) W0 w1:=by have h:=a3.below (by simp[Zn]) (by simp[d]);have h':Ze W0.heap.size W0 ((W0.alloc (Obj.cells #[H G 0,D F 0 0] 24)).alloc (Obj.cells #[D F 0 0] 137)):=((Y _ _).alloc (U _) _).alloc (by simp) _;rw[d] at h';exact h'.trans (h.mono (by omega))
 have i:=a3.below (by simp[Zn]) (by simp[d]);have HO:Zr (FA (w.heap.size+1+1+1) x y 1 w1):=⟨a9,(i.frozen (p:=⟨w.heap.size+1+1+1,0,F⟩) (by simp)).trans (u2 0),(i.frozen (p:=⟨w.heap.size+1+1+1,1,F⟩) (by simp)).trans (u2 1),.inl ⟨rfl,(i.cell (p:=⟨w.heap.size+1+1+1,0,F⟩) (by simp)).trans u0,(i.cell (p:=⟨w.heap.size+1+1+1,1,F⟩) (by simp)).trans u1,g,cap,by simpa using aa,by simpa using a6⟩⟩
 clear aa a9 a6 a3 u0 u1 u2 i;have z:=LL r0 r1 r2;have ai:=Yy d;clear r0 r1 r2 d;go_wp2_with fail;go_loopg [] 1 (fun k wr=>Zr (FA (w.heap.size+1+1+1) x y k wr)/\Ze (w.heap.size+1+1+1) W0 wr)
 case atStart=>exact⟨HO,ad⟩
 case round=>
  obtain⟨HR,l⟩:=hrel;have a2:=a5.trans (l.mono (by omega));obtain⟨a0,g0,g1,⟨rfl,z0,z1,g,cap,hc,ho⟩|⟨rfl,⟨t,ht,a1,m,t0,t1⟩,a,cap,hc⟩⟩:=HR.out
  .have c0:=ho.cellAt 0 (by omega);have c1:=ho.cellAt 1 (by omega);have c2:=ho.cellAt 2 (by omega);have c3:=ho.cellAt 3 (by omega);have c4:=ho.cellAt 4 (by omega);simp only[Zu,Zv] at c0 c1 c2 c3 c4;have ae:1<=cap:=by
    rcases ho.2 with⟨h,_⟩|⟨g',af,ah,h,_,_,h1,_⟩
    .cases h
    .cases h;exact h1
   have aj:w.heap.size+1+1+1+1<wr.heap.size:=T _ _ hc;clear ho HR HO;go_wp2_with fail;refine(Kp (w.heap.size+1+1+1+1) (I ⟨g,0,F⟩) 1 cap _ hc).mono ?_;rintro e w' ⟨rfl,rfl⟩;go_wp2_with fail;refine(Ps (w.heap.size+1+1+1+1) g 0 cap x.k y.k x.a y.a x.l.length y.l.length x.c y.c (I ⟨w.heap.size+1+1+1,0,F⟩) _ (by simpa using hc) a0 (by omega) (by omega) (by simpa using c0) (by simpa using c1) (by simpa using c2) (by simpa using c3) (by simpa using c4)).mono ?_;rintro e w' ⟨rfl,rfl⟩;go_wp2_with fail;obtain⟨WT,q⟩:∃WT,WT=((w'.setCell ⟨w.heap.size+1+1+1+1,0,F⟩ (D (I ⟨g,0,F⟩) 0 cap)).alloc (Zh #[H G x.k,x.s,H G y.k,y.s,L (I ⟨w.heap.size+1+1+1,0,F⟩)] 141)).alloc (Zh #[H G x.k,x.s,H G y.k,y.s,L (I ⟨w.heap.size+1+1+1,0,F⟩)] 141):=⟨_,rfl⟩
   have c:Ze (w.heap.size+1+1+1+1) w' WT:=by rw[q];exact(((Y _ _).setCell (by simp) _).alloc (by simp[Zg];omega) _).alloc (by simp[Zg];omega) _
   have ak:=c.size;have a8:cL WT (w.heap.size+1+1+1+1) 0 (D (I ⟨g,0,F⟩) 0 cap):=by rw[q];exact J (((Y _ _).alloc (U _) _).alloc (by simp) _) (Zd _ _ _ hc)
   have a7:WT.frozen? ⟨w.heap.size+1+1+1+1,0,F⟩=Za:=by rw[q];simp[ZB,a0]
   rw[<-q];have a4:=a2.trans (c.mono (by omega));refine(HC.out _ (w.heap.size+1+1+1) 0 WT (hx.below a4) (hy.below a4) ((c.cell (p:=⟨w.heap.size+1+1+1,0,F⟩) (by simp)).trans z0) ((c.cell (p:=⟨w.heap.size+1+1+1,1,F⟩) (by simp)).trans z1) ((c.frozen (p:=⟨w.heap.size+1+1+1,0,F⟩) (by simp)).trans g0) ((c.frozen (p:=⟨w.heap.size+1+1+1,1,F⟩) (by simp)).trans g1)).mono ?_;rintro e w5 ⟨rfl,t,ht,a1,m,t0,t1,hw⟩;have r:w5.heap[w.heap.size+1+1+1+1]?=WT.heap[w.heap.size+1+1+1+1]?:=hw.block _ (by omega) (by omega);have ab:Zr (FA (w.heap.size+1+1+1) x y 0 w5):=⟨(World.frozen?_of_block (a:=⟨w.heap.size+1+1+1+1,0,F⟩) r).trans a7,(hw.frozen 0).trans ((c.frozen (p:=⟨w.heap.size+1+1+1,0,F⟩) (by simp)).trans g0),(hw.frozen 1).trans ((c.frozen (p:=⟨w.heap.size+1+1+1,1,F⟩) (by simp)).trans g1), .inr ⟨rfl,⟨t,ht,a1,m.mono fun b hb=>by omega,t0,t1⟩,_,_,(Zz (a:=⟨w.heap.size+1+1+1+1,0,F⟩) r).trans a8⟩⟩
   have ac:=l.trans ((c.mono (by omega)).trans (hw.under (by omega)));clear q c a8 a7 a4 ht a1 m t0 t1 hw r z0 z1 g0 g1 a0 hc c0 c1 c2 c3 c4;go_wp2_with fail;go_roundg 0
   case measure=>omega
   case rel=>exact⟨ab,ac⟩
  .go_wp2_with fail;refine(Kp (w.heap.size+1+1+1+1) a 0 cap _ hc).mono ?_;rintro e w' ⟨rfl,rfl⟩;have v0:=(l.cell (p:=⟨w.heap.size+1+1,0,F⟩) (by simp)).trans z.out.1;have v1:=(l.cell (p:=⟨w.heap.size+1+1,1,F⟩) (by simp)).trans z.out.2.1;have v2:=(l.frozen (p:=⟨w.heap.size+1+1,0,F⟩) (by simp)).trans (z.out.2.2 0);have v3:=(l.frozen (p:=⟨w.heap.size+1+1,1,F⟩) (by simp)).trans (z.out.2.2 1);have HT:=Yy ht;clear ht HR HO hc a0 g0 g1;go_wp2_with fail;refine ZF (v:=Zc t.v) ?_ rfl ⟨t,rfl,HT.out,X4 a1 (m.mono fun b hb=>by omega),m.mono fun b hb=>by omega,(a2.setCell (by simp;omega) _).setCell (by simp;omega) _⟩;have hh:=XJ (u:=H G t.k) (v:=t.s) v0 v1;simp[results,results71,go_sem,hh.1,hh.2]
theorem BI(n:Nat)(h:n<=1000)(b:Int)(a a':Option Zk)(m g c c':Nat)(d:Option Zk)(w:M):
  Zf O 146 #[Zc #[H G 0,D a m c],Zc #[H G b,D a' g c'],H G ((n:Int)+1),L d] w fun e w'=>e=V (.bool Zi)/\Ze w.heap.size w w':=by
 have hz:(((n:Int)+1)==0)=Za:=by simp;omega
 go_enter ZG,ZE;go_wp2_with fail;go_ret;exact⟨rfl,((Y _ _).alloc (U _) _).alloc (by simp) _⟩
theorem Wv(n:Nat)(h:n<=1000)(k:Int)(g:(k==0)=Za)(a a':Option Zk)(m d c c':Nat)(b:Option Zk)(w:M):
  Zf O 146 #[Zc #[H G k,D a m c],Zc #[H G 0,D a' d c'],H G ((n:Int)+1),L b] w fun e w'=>e=V (.bool Zi)/\Ze w.heap.size w w':=by
 have hz:(((n:Int)+1)==0)=Za:=by simp;omega
 go_enter ZG,ZE;go_wp2_with fail;go_ret;exact⟨rfl,((Y _ _).alloc (U _) _).alloc (by simp) _⟩
theorem BH(n:Nat)(hn:n<=1000)(x y:Tr)(rp:Option Zk)(w:M)(hx:x.In w)(hy:y.In w)(hh:x.hgt<=n+1)(hs:x.sm)(e1:(x.k==0)=Za)(e2:(y.k==0)=Za)
  (ih:Zr (∀(x y:Tr)(w:M),x.In w->y.In w->x.hgt<=n->x.sm->Zf O 146 #[Zc #[H G x.k,D x.a x.l.length x.c],Zc #[H G y.k,D y.a y.l.length y.c],H G (n:Int),L rp] w fun e w'=>e=V (.bool (YD Yl x.ty y.ty))/\Ze w.heap.size w w')) :
  Zf O 146 #[Zc #[H G x.k,D x.a x.l.length x.c],Zc #[H G y.k,D y.a y.l.length y.c],H G ((n:Int)+1),L rp] w fun e w'=>e=V (.bool (YD Yl x.ty y.ty))/\Ze w.heap.size w w':=by
 have hz:(((n:Int)+1)==0)=Za:=by simp;omega
 have a1:=hs.len;by_cases ht0:(x.k==y.k&&(x.l.length:Int)==(y.l.length:Int))=Za
 .have ht:=Yy ht0;clear ht0;go_enter ZG,ZE;go_wp2_with fail;refine(Lv _ _ _ _ _ _ _ _ Za ht.out _).mono ?_;rintro e w1 ⟨rfl,g⟩;go_wp2_with fail;go_ret;refine⟨?_,(((Y _ _).alloc (U _) _).alloc (by simp) _).trans (g.mono (by simp;omega))⟩;rw[Kt Yl x y (by simp[Yl,e1,e2]) ht.out];rfl
 .have ht':Zr ((x.k==y.k&&(x.l.length:Int)==(y.l.length:Int))=Zi):=by simpa[Zr] using ht0
  clear ht0;have hk:Zr (x.k=y.k):=by have h:=ht'.out;simp at h;exact h.1
  have hl:Zr (x.l.length=y.l.length):=by have h:=ht'.out;simp at h;exact ZZ h.2
  go_enter ZG,ZE;go_wp2_with fail;refine(Lv _ _ _ _ _ _ _ _ Zi ht'.out _).mono ?_;rintro e w1 ⟨rfl,g⟩;have l:bL w w1:=(((Y _ _).alloc (U _) _).alloc (by simp) _).trans (g.mono (by simp;omega));have p1:w1.cell? ⟨w.heap.size,1,F⟩=I (D x.a x.l.length x.c):=J g (by simp[go_sem]);have p3:w1.cell? ⟨w.heap.size+1,1,F⟩=I (D y.a y.l.length y.c):=J g (by simp[go_sem]);clear g;go_wp2_with fail;go_loopw [32] (fun i wr=>∃j:Nat,j<=x.l.length/\i=H G (j:Int)/\bL w1 wr/\∀q(h:q<x.l.length)(h':q<y.l.length),q<j->YD Yl x.l[q].ty y.l[q].ty=Zi) (fun i _=>x.l.length-(intOf i).toNat)
  case atStart=>exact⟨0,Nat.zero_le _,rfl,Y _ _,fun q _ _ h=>absurd h (by omega)⟩
  case round=>
   obtain⟨j,hj,rfl,d,m⟩:=hrel;have HA:=Yy m;clear m;have c:=l.trans (d.mono l.size);by_cases hlt:j<x.l.length
   .have hlt':j<y.l.length:=hl.out▸hlt;obtain⟨b,o,ea,x0,x1,a0⟩:=hx.part j hlt;obtain⟨p,u,eb,y0,y1,z⟩:=hy.part j hlt';have q1:cL wr w.heap.size 1 (D (I ⟨b,o,F⟩) x.l.length x.c):=by rw[<-ea];exact J d p1
    have q3:cL wr (w.heap.size+1) 1 (D (I ⟨p,u,F⟩) y.l.length y.c):=by rw[<-eb];exact J d p3
    replace x0:=J c x0;replace x1:=J c x1;replace y0:=J c y0;replace y1:=J c y1;have i1:(j:Int)<(x.l.length:Int):=by omega
    have i2:(j:Int)<(y.l.length:Int):=by omega
    have i0:(0:Int)<=(j:Int):=by omega
    clear p1 p3 ea eb hx hy ht';have a2:=wrap_small n hn;obtain⟨r,hr⟩:∃r,YD Yl x.l[j].ty y.l[j].ty=r:=⟨_,rfl⟩
    have HC:Zr (∀(w:M),x.l[j].In w->y.l[j].In w->Zf O 146 #[Zc x.l[j].v,Zc y.l[j].v,H G (n:Int),L rp] w fun e w'=>e=V (.bool r)/\bL w w'):=by intro w h1 h2;have:=ih.out x.l[j] y.l[j] w h1 h2 (Tr.mf hh j hlt) (hs.part j hlt);rw[hr] at this;exact this
    have HR:=Yy hr;clear hr;cases r
    .go_wp2_with fail;go_region_held3 (fun w'=>w'.cell? ⟨w.heap.size,1,F⟩=I (D (I ⟨b,o,F⟩) x.l.length x.c)/\w'.cell? ⟨w.heap.size+1,1,F⟩=I (D (I ⟨p,u,F⟩) y.l.length y.c)/\w'.cell? ⟨b,o+j*2,F⟩=I (H G x.l[j].k)/\w'.cell? ⟨b,o+j*2+1,F⟩=I (D x.l[j].a x.l[j].l.length x.l[j].c)/\w'.cell? ⟨p,u+j*2,F⟩=I (H G y.l[j].k)/\w'.cell? ⟨p,u+j*2+1,F⟩=I (D y.l[j].a y.l[j].l.length y.l[j].c)) (first|exact⟨J a q1,J a q3,J a x0,J a x1,J a y0,J a y1⟩|go_keep) (first|(go_at_call 146;refine(HC.out _ (a0.below c.drew) (z.below c.drew)).mono ?_;rintro e w2 ⟨rfl,a⟩))
     have k:=d.drew.trans (a.mono d.size);go_wp2_with fail;go_ret;refine⟨?_,l.trans (k.mono l.size)⟩;rw[JP Yl x y (by simp[Yl,e1,e2]) j hlt hlt' HR.out];rfl
    .go_wp2_with fail;go_region_held3 (fun w'=>w'.cell? ⟨w.heap.size,1,F⟩=I (D (I ⟨b,o,F⟩) x.l.length x.c)/\w'.cell? ⟨w.heap.size+1,1,F⟩=I (D (I ⟨p,u,F⟩) y.l.length y.c)/\w'.cell? ⟨b,o+j*2,F⟩=I (H G x.l[j].k)/\w'.cell? ⟨b,o+j*2+1,F⟩=I (D x.l[j].a x.l[j].l.length x.l[j].c)/\w'.cell? ⟨p,u+j*2,F⟩=I (H G y.l[j].k)/\w'.cell? ⟨p,u+j*2+1,F⟩=I (D y.l[j].a y.l[j].l.length y.l[j].c)) (first|exact⟨J a q1,J a q3,J a x0,J a x1,J a y0,J a y1⟩|go_keep) (first|(go_at_call 146;refine(HC.out _ (a0.below c.drew) (z.below c.drew)).mono ?_;rintro e w2 ⟨rfl,a⟩))
     have k:=d.drew.trans (a.mono d.size);go_wp2_with fail;go_roundw
     case rel=>
      refine⟨j+1,by omega,by go_num,k,fun q h h' hq=>?_⟩;by_cases e:q=j
      .subst e;exact HR.out
      .exact HA.out q h h' (by omega)
     case measure=>simp[intOf];omega
   .go_wp2_with fail;go_ret;refine⟨?_,c⟩;rw[LH Yl x y hk.out hl.out fun q h h'=>HA.out q h h' (by omega)];rfl
theorem Dz(n:Nat):n<=1000->∀(x y:Tr)(rp:Option Zk)(w:M),x.In w->y.In w->x.hgt<=n->x.sm->Zf O 146 #[Zc #[H G x.k,D x.a x.l.length x.c],Zc #[H G y.k,D y.a y.l.length y.c],H G (n:Int),L rp] w fun e w'=>e=V (.bool (YD Yl x.ty y.ty))/\Ze w.heap.size w w':=by
 induction n with
 |zero=>intro _ x y rp w _ _ h;have:=x.ml;omega
 |succ n ih=>
  intro d x y rp w c a h b;have e:((n+1:Nat):Int)=(n:Int)+1:=by omega
  rw[e];by_cases k1:x.k=0
  .rw[k1,PD Yl x y (by simp[Yl,k1])];exact BI n (by omega) y.k x.a y.a _ _ _ _ rp w
  by_cases k2:y.k=0
  .rw[k2,PD Yl x y (by simp[Yl,k2])];exact Wv n (by omega) x.k (by simpa using k1) x.a y.a _ _ _ _ rp w
  exact BH n (by omega) x y rp w c a h b (by simpa using k1) (by simpa using k2) (fun x y w c a h b=>ih (by omega) x y rp w c a h b)
theorem Do(x y:Tr)(r:Bool)(w:M)(hx:x.In w)(hy:y.In w)
  (HC:Zr (∀(rp:Option Zk)(w:M),x.In w->y.In w->Zf O 146 #[Zc #[H G x.k,D x.a x.l.length x.c],Zc #[H G y.k,D y.a y.l.length y.c],H G 1000,L rp] w fun e w'=>e=V (.bool r)/\Ze w.heap.size w w')) :
  Zf O 44 #[.func (.func 146) #[] #[],Zc #[H G x.k,D x.a x.l.length x.c],Zc #[H G y.k,D y.a y.l.length y.c]] w fun e w'=>e=V (.bool r)/\Ze w.heap.size w w':=by
 go_enter func44,ntmps44;go_wp2_with fail;refine(RW (w.heap.size+1+1) (D F 0 0) 0 [] x.k y.k x.a y.a x.l.length y.l.length x.c y.c F _ (by simp[go_sem]) (by simp[go_sem]) (ZD _ _ _ _) (by omega)).mono ?_;rintro e w1 ⟨rfl,g,cap,l,a0,z,_,m⟩;have a3:bL w w1:=((((Y _ _).alloc (U _) _).alloc (by simp) _).alloc (by simp;omega) _).trans ((m.below (by simp[Zn]) (by simp)).mono (by omega));have a7:w.heap.size+1+1<w1.heap.size:=T _ _ l;have HO:Zr (FX (w.heap.size+1+1) x y r 1 w1):=⟨a0,.inl ⟨rfl,g,cap,by simpa using l,by simpa using z⟩⟩
 clear l a0 z m;go_wp2_with fail;go_loopg [] 1 (fun k wr=>Zr (FX (w.heap.size+1+1) x y r k wr)/\bL w wr)
 case atStart=>exact⟨HO,a3⟩
 case round=>
  obtain⟨HR,u⟩:=hrel;obtain⟨i,⟨rfl,g,cap,j,d⟩|⟨rfl,rfl,a,cap,j⟩⟩:=HR.out
  .have c0:=d.cellAt 0 (by omega);have c1:=d.cellAt 1 (by omega);have c2:=d.cellAt 2 (by omega);have c3:=d.cellAt 3 (by omega);have c4:=d.cellAt 4 (by omega);simp only[Zu,Zv] at c0 c1 c2 c3 c4;have a6:1<=cap:=by
    rcases d.2 with⟨h,_⟩|⟨g',o,a4,h,_,_,h1,_⟩
    .cases h
    .cases h;exact h1
   have a8:w.heap.size+1+1<g:=by
    rcases d.2 with⟨h,_⟩|⟨g',o,a4,h,h1,_⟩
    .cases h
    .cases h;exact h1
   have a9:w.heap.size+1+1<wr.heap.size:=T _ _ j;clear d HR HO;go_wp2_with fail;refine(Kp (w.heap.size+1+1) (I ⟨g,0,F⟩) 1 cap _ j).mono ?_;rintro e w' ⟨rfl,rfl⟩;go_wp2_with fail;refine(Ps (w.heap.size+1+1) g 0 cap x.k y.k x.a y.a x.l.length y.l.length x.c y.c F _ (by simpa using j) i (by omega) (by omega) (by simpa using c0) (by simpa using c1) (by simpa using c2) (by simpa using c3) (by simpa using c4)).mono ?_;rintro e w' ⟨rfl,rfl⟩;go_wp2_with fail;have a1:bL w (((w'.setCell ⟨w.heap.size+1+1,0,F⟩ (D (I ⟨g,0,F⟩) 0 cap)).alloc (Zh #[H G x.k,x.s,H G y.k,y.s,L F] 141)).alloc (Zh #[H G x.k,x.s,H G y.k,y.s,L F] 141)):=((u.setCell (by simp;omega) _).alloc (by simp[Zg];omega) _).alloc (by simp[Zg];omega) _
   have c:=a1.alloc (by simp[Zg];omega) (Zh #[H G x.k,x.s,H G y.k,y.s,L F] 141);refine(HC.out _ _ (hx.below c) (hy.below c)).mono ?_;rintro e w5 ⟨rfl,b⟩;have q:bL w w5:=c.trans (b.mono (by simp[Zg];omega));have a2:cL w5 (w.heap.size+1+1) 0 (D (I ⟨g,0,F⟩) 0 cap):=by refine J b (J ((((Y _ (w'.setCell ⟨w.heap.size+1+1,0,F⟩ (D (I ⟨g,0,F⟩) 0 cap))).alloc (U _) _).alloc (by simp) _).alloc (by simp;omega) _) ?_);exact Zd _ _ _ j
   have a5:w5.frozen? ⟨w.heap.size+1+1,0,F⟩=Za:=by rw[b.frozen (p:=⟨w.heap.size+1+1,0,F⟩) (by simp[Zg];omega)];simp[ZB,i]
   clear b c a1 j i c0 c1 c2 c3 c4;cases r
   .go_wp2_with fail;go_ret;exact⟨rfl,q⟩
   .go_wp2_with fail;go_roundg 0
    case measure=>omega
    case rel=>exact⟨⟨a5,.inr ⟨rfl,rfl,_,_,a2⟩⟩,q⟩
  .go_wp2_with fail;refine(Kp (w.heap.size+1+1) a 0 cap _ j).mono ?_;rintro e w' ⟨rfl,rfl⟩;go_wp2_with fail;go_ret;exact⟨rfl,u⟩
theorem Qd(x y:Tr)(w:M)(p:x.In w)(l:y.In w)(m:x.hgt<=1000)(o:x.sm):
  Zf O 108 #[Zc #[H G x.k,D x.a x.l.length x.c],Zc #[H G y.k,D y.a y.l.length y.c]] w fun e w'=>e=V (.bool (YD Yl x.ty y.ty))/\Ze w.heap.size w w':=by
 obtain⟨r,g⟩:∃r,YD Yl x.ty y.ty=r:=⟨_,rfl⟩
 have k:Zr (∀(c:Option Zk)(w:M),x.In w->y.In w->Zf O 146 #[Zc x.v,Zc y.v,H G 1000,L c] w fun e w'=>e=V (.bool r)/\bL w w'):=by intro c w j d;have h:=Dz 1000 (U _) x y c w j d m o;rw[g] at h;exact h
 rw[g];clear g;have q:Zr (∀(w:M),x.In w->y.In w->Zf O 44 #[.func (.func 146) #[] #[],Zc x.v,Zc y.v] w fun e w'=>e=V (.bool r)/\bL w w'):=fun w j d=>Do x y r w j d k;clear k;go_enter func108,ntmps108;go_wp2_with fail;have a:bL w ((w.alloc (Obj.cells x.v 24)).alloc (Obj.cells y.v 24)):=((Y _ _).alloc (U _) _).alloc (by simp) _;refine(q.out _ (p.below a) (l.below a)).mono ?_;rintro e u ⟨rfl,b⟩;have i:=a.trans (b.mono (by simp;omega));clear a b;go_wp2_with fail;go_ret;exact⟨rfl,i⟩
theorem Sq(k:Int)(a:Option Zk)(c:Nat)(l:List Tr)(w:M):
  Zf O 159 #[Zc #[H G k,D a l.length c],H G 0] w fun e w'=>e=V (.bool Za)/\Ze w.heap.size w w':=by
 go_enter Zw,Zs;go_wp2_with fail;go_ret;exact⟨rfl,(Y _ _).alloc (U _) _⟩
theorem Sr(n:Nat)(g:n<=1000)(k:Int)(b:k=0\/k=1\/k=2)(a:Option Zk)(c:Nat)(m:Nat)(w:M):
  Zf O 159 #[Zc #[H G k,D a m c],H G ((n:Int)+1)] w fun e w'=>e=V (.bool ((m:Int)==0))/\Ze w.heap.size w w':=by
 have d:(((n:Int)+1)==0)=Za:=by simp;omega
 rcases b with rfl|rfl|rfl<;>
 .go_enter Zw,Zs;go_wp2_with fail;go_ret;exact⟨rfl,(Y _ _).alloc (U _) _⟩
theorem Rz(n:Nat)(i:n<=1000)(k:Int)(d:(k==0)=Za)(b:(k==1)=Za)(h:(k==2)=Za)(g:(k==3)=Za)(a:Option Zk)(c:Nat)(m:Nat)(w:M):
  Zf O 159 #[Zc #[H G k,D a m c],H G ((n:Int)+1)] w fun e w'=>e=V (.bool Za)/\Ze w.heap.size w w':=by
 have hz:(((n:Int)+1)==0)=Za:=by simp;omega
 go_enter Zw,Zs;go_wp2_with fail;go_ret;exact⟨rfl,(Y _ _).alloc (U _) _⟩
theorem KT(n:Nat)(d:n<=1000)(a:Option Zk)(c:Nat)(m:Nat)(b:((m:Int)==2)=Za)(w:M):
  Zf O 159 #[Zc #[H G 3,D a m c],H G ((n:Int)+1)] w fun e w'=>e=V (.bool Za)/\Ze w.heap.size w w':=by
 have hz:(((n:Int)+1)==0)=Za:=by simp;omega
 go_enter Zw,Zs;go_wp2_with fail;go_ret;exact⟨rfl,(Y _ _).alloc (U _) _⟩
theorem Vw(n:Nat)(hn:n<=1000)(b o c:Nat)(k r:Int)(l m:Option Zk)(y j u p:Nat)(i x:Bool)(w:M)
  (x0:w.cell? ⟨b,o,F⟩=I (H G k)) (x1:w.cell? ⟨b,o+1,F⟩=I (D l y u))
  (y0:w.cell? ⟨b,o+2,F⟩=I (H G r)) (y1:w.cell? ⟨b,o+3,F⟩=I (D m j p))
  (q:Zr (∀w',Ze w.heap.size w w'->Zf O 159 #[Zc #[H G k,D l y u],H G (n:Int)] w' fun e w''=>e=V (.bool i)/\Ze w'.heap.size w' w''))
  (z:Zr (∀w',Ze w.heap.size w w'->Zf O 159 #[Zc #[H G r,D m j p],H G (n:Int)] w' fun e w''=>e=V (.bool x)/\Ze w'.heap.size w' w'')) :
  Zf O 159 #[Zc #[H G 3,D (I ⟨b,o,F⟩) 2 c],H G ((n:Int)+1)] w fun e w'=>e=V (.bool (i&&x))/\Ze w.heap.size w w':=by
 have hz:(((n:Int)+1)==0)=Za:=by simp;omega
 have lb:b<w.heap.size:=T _ _ x0;cases i
 .go_enter Zw,Zs;go_wp2_with fail;refine(q.out _ ((Y _ _).alloc (U _) _)).mono ?_;rintro e g ⟨rfl,d⟩;go_wp2_with fail;go_ret;exact⟨rfl,((Y _ _).alloc (U _) _).trans (d.mono (by simp))⟩
 .go_enter Zw,Zs;go_wp2_with fail;refine(q.out _ ((Y _ _).alloc (U _) _)).mono ?_;rintro e g ⟨rfl,d⟩;have a:bL w g:=((Y _ _).alloc (U _) _).trans (d.mono (by simp));have b1:g.cell? ⟨w.heap.size,1,F⟩=I (D (I ⟨b,o,F⟩) 2 c):=J d (by simp[go_sem]);have a0:=J a y0;have a1:=J a y1;go_wp2_with fail;refine(z.out _ a).mono ?_;rintro e w2 ⟨rfl,h⟩;go_wp2_with fail;go_ret;exact⟨by simp,a.trans (h.mono a.size)⟩
theorem Ry(t:Tr)(w:M):Zf O 159 #[Zc #[H G t.k,D t.a t.l.length t.c],H G 0] w fun e w'=>e=V (.bool (YB 0 t))/\Ze w.heap.size w w':=by refine(Sq t.k t.a t.c t.l w).mono ?_;rintro e w' ⟨rfl,a⟩;exact⟨by simp[YB],a⟩
theorem Vx(n:Nat):n<=1000->∀(t:Tr)(w:M),t.In w->
  Zf O 159 #[Zc #[H G t.k,D t.a t.l.length t.c],H G (n:Int)] w fun e w'=>e=V (.bool (YB n t))/\Ze w.heap.size w w':=by
 induction n with
 |zero=>intro _ t w _;have e:((0:Nat):Int)=0:=rfl;rw[e];exact Ry t w
 |succ n ih=>
  intro hn ⟨k,a,c,l⟩ w hin;have e:((n+1:Nat):Int)=(n:Int)+1:=by omega
  rw[e];dsimp only;by_cases hk:k=0\/k=1\/k=2
  .refine(Sr n (by omega) k hk a c l.length w).mono ?_;rintro e w' ⟨rfl,d⟩;refine⟨?_,d⟩;have g:(k==3)=Za:=by simp;omega
   have p:(k==0 || k==1 || k==2)=Zi:=by simpa[or_assoc] using hk
   match l with
   |[]=>simp[YB,p]
   |[x]=>simp[YB]
   |[x,y]=>simp[YB,g]
   |x::y::z::r=>simp[YB];omega
  .have h0:(k==0)=Za:=by simp;omega
   have m:(k==1)=Za:=by simp;omega
   have i:(k==2)=Za:=by simp;omega
   by_cases h3:k=3
   .subst h3;match l,hin with
    |[],hin=>exact KT n (by omega) a c 0 (by decide) w
    |[x],hin=>exact KT n (by omega) a c 1 (by decide) w
    |x::y::z::r,hin=>refine(KT n (by omega) a c (x::y::z::r).length (by simp;omega) w).mono ?_;rintro e w' ⟨rfl,d⟩;exact⟨by simp[YB],d⟩
    |[x,y],hin=>
     obtain⟨b,o,h,x0,x1,hx⟩:=hin.at 0 (by simp);obtain⟨u,o',j,y0,y1,q⟩:=hin.at 1 (by simp);rw[h] at j;obtain⟨rfl,rfl⟩:b=u/\o=o':=by simpa using j
     subst h;refine(Vw n (by omega) b o c x.k y.k x.a y.a x.l.length y.l.length x.c y.c (YB n x) (YB n y) w (by simpa using x0) (by simpa using x1) (by simpa using y0) (by simpa using y1) (fun w' d=>ih (by omega) x w' (hx.below d)) (fun w' d=>ih (by omega) y w' (q.below d))).mono ?_
     rintro e w' ⟨rfl,d⟩;exact⟨by simp[YB],d⟩
   .refine(Rz n (by omega) k h0 m i (by simpa using h3) a c l.length w).mono ?_;rintro e w' ⟨rfl,d⟩;refine⟨?_,d⟩;have g:(k==3)=Za:=by simpa using h3
    match l with
    |[]=>simp[YB,h0,m,i]
    |[x]=>simp[YB]
    |[x,y]=>simp[YB,g]
    |x::y::z::r=>simp[YB]
theorem Dr(t:Tr)(w:M)(a:t.In w):
  Zf O 118 #[Zc #[H G t.k,D t.a t.l.length t.c]] w fun e w'=>e=V (.bool (YB 4 t))/\Ze w.heap.size w w':=by
 have c:=Vx 4 (by omega) t;have d:=Yy c;clear c;go_enter func118,ntmps118;go_wp2_with fail;refine(d.out _ (a.below ((Y _ _).alloc (U _) _))).mono ?_;rintro e g ⟨rfl,b⟩;go_wp2_with fail;go_ret;exact⟨rfl,((Y _ _).alloc (U _) _).trans (b.mono (by simp))⟩
theorem tk{P:ZP}{md:ZM}{ops:Array ZI}{Q:Exit->Act->M->Prop}{S:M->Prop}(i:Nat){o:ZI}{v:Zo}{fuel:Nat}{listed:Array Bool}{a:Act}{w:M}(e:ops.toList[i]?=I o)
  (b:(ZA ops&&ZN md ops listed i&&(ZH md ops listed).contains i)=Zi)
  (g:∀c a w,Q (.panic c) (a.put o.dst v) w->Q (.panic c) a w) (d:Zm o (ZC ops a.tmps)=Zi) (hS:S w) (j:∀w,S w->(execOp a.eval o).run P w=.ok (.value v) w)
  (h:ZK P md ops Q S fuel (listed.setIfInBounds i Zi) (a.put o.dst v) w):ZK P md ops Q S (fuel+1) listed a w:=by
 simp only[Zj] at b;exact ZL (i:=i) (oi:=o) (by simpa using e) b.1.1 b.1.2 b.2 g (.inl ⟨d,j⟩) hS h
theorem tu{P:ZP}{md:ZM}{ops:Array ZI}{Q:Exit->Act->M->Prop}{S:M->Prop}(i:Nat){o:ZI}{fuel:Nat}{listed:Array Bool}{a:Act}{w:M}(e:ops.toList[i]?=I o)
  (b:(ZA ops&&ZN md ops listed i&&(ZH md ops listed).contains i&&!Zm o (ZC ops a.tmps))=Zi)
  (d:∀c a w,Q (.panic c) (a.put o.dst undef) w->Q (.panic c) a w) (hS:S w)
  (h:ZK P md ops Q S fuel (listed.setIfInBounds i Zi) (a.put o.dst undef) w):ZK P md ops Q S (fuel+1) listed a w:=by
 simp only[Zj,Bool.not_eq_true'] at b;exact ZL (i:=i) (oi:=o) (by simpa using e) b.1.1.1 b.1.1.2 b.1.2 d (.inr ⟨b.2,rfl⟩) hS h
theorem qk{P:ZP}{md:ZM}{ops:Array ZI}{Q:Exit->Act->M->Prop}{S:M->Prop}(i:Nat){o:ZI}{v:Zo}{fuel:Nat}{listed:Array Bool}{a:Act}{w:M}(e:ops.toList[i]?=I o)
  (b:(ZA ops&&ZN md ops listed i&&(ZH md ops listed).contains i)=Zi)
  (g:∀c a w,Q (.panic c) (a.put o.dst v) w->Q (.panic c) a w) (d:Zm o (ZC ops a.tmps)=Zi) (hS:S w) (j:∀w,S w->(execOp a.eval o).run P w=.ok (.value v) w)
  (h:ZK P md ops Q S fuel (listed.setIfInBounds i Zi) (a.put o.dst v) w):ZK P md ops Q S (fuel+1) listed a w:=by
 simp only[Zj] at b;exact ZL (i:=i) (oi:=o) (by simpa using e) b.1.1 b.1.2 b.2 g (.inl ⟨d,j⟩) hS h
theorem qu{P:ZP}{md:ZM}{ops:Array ZI}{Q:Exit->Act->M->Prop}{S:M->Prop}(i:Nat){o:ZI}{fuel:Nat}{listed:Array Bool}{a:Act}{w:M}(e:ops.toList[i]?=I o)
  (b:(ZA ops&&ZN md ops listed i&&(ZH md ops listed).contains i&&!Zm o (ZC ops a.tmps))=Zi)
  (d:∀c a w,Q (.panic c) (a.put o.dst undef) w->Q (.panic c) a w) (hS:S w)
  (h:ZK P md ops Q S fuel (listed.setIfInBounds i Zi) (a.put o.dst undef) w):ZK P md ops Q S (fuel+1) listed a w:=by
 simp only[Zj,Bool.not_eq_true'] at b;exact ZL (i:=i) (oi:=o) (by simpa using e) b.1.1.1 b.1.1.2 b.1.2 d (.inr ⟨b.2,rfl⟩) hS h
end Go.Proofs.YtnddkmccagiclabGreatDoor
