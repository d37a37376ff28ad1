import Derived.Test.YtnddkmccagiclabGreatDoorZyc
import Derived.Deep.DeepCutAuto
set_option maxRecDepth 20000
set_option maxHeartbeats 16000000
open Go.RowKit Go.Proofs.Tryz
open Option renaming none→A,some→F,bind_some→Zl
open Go.Value renaming slice→C,int→D,agg→Zh,tuple→Zm,pointer→Zy
open Go.IntKind renaming i64→E
open List renaming mem_cons→K,map_cons→Zg,sum_cons→Zi,length_map→Zn,getD_eq_getElem?_getD→Zq,getElem_mem→Zu,mem_map→Zv,getElem_of_mem→Zx,getElem?_eq_getElem→Zz,length_append→ZE,mem_singleton→ZF,not_mem_nil→ZG,length_eq_zero_iff→ZH,map_map→ZI,mem_append→ZJ,map_append→ZK,take_of_length_le→ZL,length_singleton→ZM,mem_of_getElem?→ZO,map_congr_left→ZP,map_nil→ZQ,sum_nil→ZR
open Bool renaming true→L,false→Za
open Go renaming cell_later→M,World→Zc,Calls→Zp,bodyPost_ret→Zr,Value→Zs
open Nat renaming le_refl→S,zero_add→Zo
open Go.Ending renaming returned→Z
open Go.RowKit.Below renaming refl→Zb
open Go.Proofs.Tryz renaming prog→Zd,results41→ZD,results25→ZN
open Go.World renaming cell?_setCell_other→Ze,block_lt_of_cell?→Zk,cell?_of_block→Zt,frozen?_of_block→ZA,size_alloc→ZC,ownsRow_nil→ZS
open Go.Obj renaming cells→Zf
open Go.RowKit renaming Hid→Zj,Below→ZB
open Array renaming getElem?_eq_some_iff→Zw
open Option.some renaming injEq→ZT
namespace Go.Proofs.YtnddkmccagiclabGreatDoor
variable {k:Int}{l:List Tm}{x:TT}{G H R b base c fuel j:Nat}{V W W' w w':Zc}{i:Ty}{q:List Bool}{takes us:List Ty}{P Q:Nat->Prop}{rs:List Rd}{I U:Tr}{cs:List TT}
structure XG where
 k:Int
 n:Int
 b:Bool
def Yn:XG:=⟨0,0,Za⟩
def Yw:XG:=⟨6,0,Za⟩
def NN:XG:=⟨5,0,Za⟩
def KL(o:XG):XG:=⟨o.k,o.n,!o.b⟩
structure Ca where
 opens:Bool
 wrong:XG
 kind:Int
 ends:XG
 given:Option Ca
 answer:Option Ca
 hides:Bool
theorem Ca.ind{P:Ca->Prop}(h:∀o w k e g a d,(∀x,g=F x->P x)->(∀x,a=F x->P x)->P ⟨o,w,k,e,g,a,d⟩):∀c,P c
 |⟨o,w,k,e,g,a,d⟩=>h o w k e g a d (fun x _hx=>Ca.ind h x) (fun x _hx=>Ca.ind h x)
 termination_by c=>SizeOf.sizeOf c
 decreasing_by
  .subst _hx;simp;omega
  .subst _hx;simp;omega
def YH:Option Ca->Option Ca->Option Ca
 |none,d=>d
 |some c,A=>F c
 |some ⟨o,w,k,e,g,a,h⟩,F ⟨_,w',k',e',g',a',h'⟩=>
  if e.k=0 then
   if k'=k then F ⟨o,w,k,e',YH g' g,YH a a',h'⟩
   else F ⟨o,w,k,w',A,A,Za⟩
  else F ⟨o,w,k,e,g,a,h⟩
 termination_by c d=>SizeOf.sizeOf c+SizeOf.sizeOf d
 decreasing_by
  .simp;omega
  .simp;omega
theorem Xw(d:Option Ca):YH A d=d:=by rw[YH]
theorem XI(c:Option Ca):YH c A=c:=by cases c<;>rw[YH]
theorem Xe(o:Bool)(w:XG)(k:Int)(e:XG)(g a:Option Ca)(h:Bool)(j:Bool)(w':XG)(i:Int)(c:XG)(d a':Option Ca)(b:Bool):
  YH (F ⟨o,w,k,e,g,a,h⟩) (F ⟨j,w',i,c,d,a',b⟩)=if e.k=0 then (if i=k then F ⟨o,w,k,c,YH d g,YH a a',b⟩ else F ⟨o,w,k,w',A,A,Za⟩) else F ⟨o,w,k,e,g,a,h⟩:=by
 rw[YH]
theorem JC(c d:Ca):YH (F c) (F d)=if c.ends.k=0 then (if d.kind=c.kind then F ⟨c.opens,c.wrong,c.kind,d.ends,YH d.given c.given,YH c.answer d.answer,d.hides⟩ else F ⟨c.opens,c.wrong,c.kind,d.wrong,A,A,Za⟩) else F c:=by cases c;cases d;rw[Xe]
def Yt(t:Ty):Ty:=if t.k=3 then ⟨3,[Yk,Yk]⟩ else ⟨t.k,[]⟩
def YZ(c:Option Ca)(k:Int):Ca:=match c with
 |some c=>c
 |none=>⟨Za,Yn,k,Yn,A,A,Za⟩
def Y7:Nat->Ty->Ty->XG->Option Ca
 |0,_,_,_=>A
 |m+1,f,t,bl=>
  if YD YA f t=L then A
  else if f.k=3/\t.k=3 then F ⟨Za,Yn,3,Yn,Y7 m (t.l.getD 0 Yk) (f.l.getD 0 Yk) (KL bl),Y7 m (f.l.getD 1 Yk) (t.l.getD 1 Yk) bl,Za⟩
  else if t.k=0 then
   let c:=YZ (Y7 m f (Yt f) bl) f.k
   F ⟨c.opens,c.wrong,c.kind,c.ends,c.given,c.answer,L⟩
  else if f.k=0 then
   let c:=YZ (Y7 m (Yt t) t bl) t.k
   F ⟨L,bl,c.kind,c.ends,c.given,c.answer,c.hides⟩
  else F ⟨Za,Yn,f.k,Yw,A,A,Za⟩
structure YJ where
 k:Int
 n:Int
 body:Tm
 env:List YJ
 inn:List YJ
 given:Option Ca
 answer:Option Ca
 az:Int
theorem YJ.ind{P:YJ->Prop}(h:∀k n b e i g a s,(∀x,x∈e->P x)->(∀x,x∈i->P x)->P ⟨k,n,b,e,i,g,a,s⟩):∀v,P v
 |⟨k,n,b,e,i,g,a,s⟩=>h k n b e i g a s (fun x _=>YJ.ind h x) (fun x _=>YJ.ind h x)
def E0:Tm:=⟨0,0,Yk,Yk,[]⟩
def XP(n:Int):YJ:=⟨1,n,E0,[],[],A,A,0⟩
def Xp(n:Int):YJ:=⟨2,n,E0,[],[],A,A,0⟩
def NM(x:Tm)(e:List YJ):YJ:=⟨3,0,x,e,[],A,A,0⟩
def KF(v:YJ)(g a:Option Ca):YJ:=⟨4,0,E0,[],[v],g,a,0⟩
def XX(v:YJ)(k:Int):YJ:=⟨5,0,E0,[],[v],A,A,k⟩
def YJ.core(v:YJ):YJ:=v.inn.headD (XP 0)
def Un(f:YJ)(c:Ca):YJ:=if f.k=4 then KF f.core (YH c.given f.given) (YH f.answer c.answer) else KF f c.given c.answer
def OE(c:Ca)(v:YJ):YJ:=
 let v1:=if c.opens=L then v.core else v
 let v2:=if c.given.isSome=L\/c.answer.isSome=L then Un v1 c else v1
 if c.hides=L then XX v2 c.kind else v2
def XU(v:YJ):XG:=
 let v:=if v.k=5 then v.core else v
 if v.k=1 then ⟨1,v.n,Za⟩ else if v.k=2 then ⟨2,v.n,Za⟩ else ⟨3,0,Za⟩
structure XB where
 d:Int
 x:Tm
 s:List YJ
 c:Option Ca
def Y3(x:Tm)(s:List YJ):XB:=⟨1,x,s,A⟩
def QJ(d:Int):XB:=⟨d,E0,[],A⟩
def Jo(x:Tm)(s:List YJ):XB:=⟨4,x,s,A⟩
def Xj(c:Option Ca):XB:=⟨6,E0,[],c⟩
structure St where
 ts:List XB
 vs:List YJ
 calls:Nat
 fuel:Nat
 ended:XG
def St.push(s:St)(v:YJ):St:=⟨s.ts,v::s.vs,s.calls,s.fuel,s.ended⟩
def St.ll(s:St)(t:XB):St:=⟨t::s.ts,s.vs,s.calls,s.fuel,s.ended⟩
def St.stop(s:St)(o:XG):St:=⟨s.ts,s.vs,s.calls,s.fuel,o⟩
def Tm.at(x:Tm)(j:Nat):Tm:=x.l.getD j E0
def Jx(s:St)(x:Tm)(e:List YJ)(d:Int):St:=((s.ll (QJ d)).ll (Y3 (x.at 1) e)).ll (Y3 (x.at 0) e)
def K5(n:Int):XG:=⟨4,n,Za⟩
def Y2(s:St)(x:Tm)(e:List YJ):St:=
 if x.k=1 then (match e[x.n.toNat]? with
  |some v=>s.push v
  |none=>s.stop Yw)
 else if x.k=2 then s.push (XP x.n)
 else if x.k=3 then s.push (Xp x.n)
 else if x.k=7 then s.push (NM (x.at 0) e)
 else if x.k=9 then s.ll (Y3 (x.at 0) e)
 else if x.k=10 then (s.ll (Xj (Y7 100 x.f x.t (K5 x.n)))).ll (Y3 (x.at 0) e)
 else if x.k=6 then (s.ll (Jo x e)).ll (Y3 (x.at 0) e)
 else if x.k=4 then Jx s x e 2
 else if x.k=5 then Jx s x e 3
 else Jx s x e 5
def Jn(n:Int):Int:=max (-1000000) (min n 1000000)
def KD(s:St)(f g:YJ):St:=if s.calls=s.fuel then s.stop NN else ⟨Y3 f.body (g::f.env)::s.ts,s.vs,s.calls+1,s.fuel,s.ended⟩
def NX(s:St)(f g:YJ):St:=⟨Xj f.given::QJ 7::Xj f.answer::s.ts,g::f.core::s.vs,s.calls,s.fuel,s.ended⟩
def US(s:St)(f g:YJ):St:=if f.k=3 then KD s f g else if f.k=4 then NX s f g else s.stop Yw
def Xz(s:St)(c:Option Ca)(v:YJ):St:=match c with
 |none=>s.push v
 |some c=>
  if c.opens=L/\v.k≠5 then s.stop Yw
  else if c.opens=L/\v.az≠c.kind then s.stop c.wrong
  else if c.ends.k≠0 then s.stop c.ends
  else s.push (OE c v)
def OK(s:St)(t:XB):St:=
 if t.d=1 then Y2 s t.x t.s else
 match s.vs with
 |v::r=>
  if t.d=6 then Xz ⟨s.ts,r,s.calls,s.fuel,s.ended⟩ t.c v
  else if t.d=4 then (if v.k=2 then (St.ll ⟨s.ts,r,s.calls,s.fuel,s.ended⟩ (Y3 (t.x.at (if v.n=1 then 1 else 2)) t.s)) else St.stop ⟨s.ts,r,s.calls,s.fuel,s.ended⟩ Yw)
  else match r with
  |u::q=>
   if t.d=2 then ⟨s.ts,XP (Jn (u.n+v.n))::q,s.calls,s.fuel,if u.k=1/\v.k=1 then s.ended else Yw⟩
   else if t.d=3 then ⟨s.ts,Xp (if u.n<v.n then 1 else 0)::q,s.calls,s.fuel,if u.k=1/\v.k=1 then s.ended else Yw⟩
   else US ⟨s.ts,q,s.calls,s.fuel,s.ended⟩ u v
  |[]=>s
 |[]=>s
def U1(s:St):St:=
 if s.ended.k=0 then (match s.ts with
  |[]=>s
  |t::r=>OK ⟨r,s.vs,s.calls,s.fuel,s.ended⟩ t)
 else s
def XO:Nat->St->St
 |0,s=>s
 |n+1,s=>XO n (U1 s)
def St.done(s:St):Prop:=s.ended.k≠0\/s.ts=[]
theorem Om{s:St}(h:s.done):U1 s=s:=by
 unfold U1;rcases h with h|h
 .rw[if_neg h]
 .rw[h];simp
theorem Mo{s:St}(h:s.done):∀n,XO n s=s
 |0=>rfl
 |n+1=>by rw[XO,Om h,Mo h n]
theorem JV(s:St):∀a b,XO (a+b) s=XO b (XO a s)
 |0,b=>by simp[XO]
 |a+1,b=>by rw[show a+1+b=(a+b)+1 by omega,XO,XO,JV (U1 s) a b]
theorem Q0(s:St)(n:Nat):XO (n+1) s=U1 (XO n s):=by rw[JV s n 1];rfl
def TU(s:St):XG:=if s.ended.k=0 then XU (s.vs.headD (XP 0)) else s.ended
def N5(x:Tm)(fuel:Nat):St:=⟨[Y3 x []],[],0,fuel,Yn⟩
def WK:Nat:=200000
def UY(x:Tm)(fuel:Nat):XG:=TU (XO WK (N5 x fuel))
theorem RN(x:Tm)(a:Nat):UY x a=TU (XO WK (N5 x a)):=by rw[UY]
def RY(k:Int):Nat:=if k=10 then 1 else Yu k
def L9:Tm->Prop
 |⟨k,n,t,f,l⟩=>(1<=k/\k<=10/\l.length=RY k/\-1000000<=n/\n<=1000000/\(k=1->0<=n)/\(k=10->Ym 46 t=L/\Ym 46 f=L))/\∀x,x∈l->L9 x
theorem RJ{n:Int}{t f:Ty}:L9 ⟨k,n,t,f,l⟩↔(1<=k/\k<=10/\l.length=RY k/\-1000000<=n/\n<=1000000/\(k=1->0<=n)/\(k=10->Ym 46 t=L/\Ym 46 f=L))/\∀x,x∈l->L9 x:=by rw[L9]
theorem L9.top{x:Tm}(h:L9 x):1<=x.k/\x.k<=10/\x.l.length=RY x.k/\-1000000<=x.n/\x.n<=1000000/\(x.k=1->0<=x.n)/\(x.k=10->Ym 46 x.t=L/\Ym 46 x.f=L):=by cases x;exact(RJ.1 h).1
theorem Tm.at_mem{x:Tm}(h:j<x.l.length):x.at j∈x.l:=by unfold Tm.at;rw[Zq,Zz h];exact Zu h
theorem Tm.ql{x:Tm}(h:j<x.l.length):x.at j=x.l[j]:=by unfold Tm.at;rw[Zq,Zz h];rfl
theorem L9.part{x:Tm}(h:L9 x)(a:j<x.l.length):L9 (x.at j):=by
 have b:=Tm.at_mem a;cases x
 exact(RJ.1 h).2 _ b
def Tm.mj:Tm->Nat
 |⟨_,_,_,_,l⟩=>(l.map fun x=>x.mj).sum+1
theorem Tm.qe(k n:Int)(t f:Ty)(l:List Tm):(Tm.mk k n t f l).mj=(l.map Tm.mj).sum+1:=by rw[Tm.mj]
theorem Tm.nx(x:Tm):x.mj=(x.l.map Tm.mj).sum+1:=by cases x;rw[Tm.qe]
def Tg:Ca->Prop
 |⟨o,w,_,_,g,a,_⟩=>(o=L->w.k=4)/\(∀x,(h:g=F x)->Tg x)/\(∀x,(h:a=F x)->Tg x)
 termination_by c=>SizeOf.sizeOf c
 decreasing_by
  .subst h;simp;omega
  .subst h;simp;omega
theorem KZ{o:Bool}{w:XG}{e:XG}{g a:Option Ca}{d:Bool}:Tg ⟨o,w,k,e,g,a,d⟩↔(o=L->w.k=4)/\(∀x,g=F x->Tg x)/\(∀x,a=F x->Tg x):=by rw[Tg]
def KI(c:Option Ca):Prop:=∀x,c=F x->Tg x
theorem Xf:KI A:=fun _ h=>by cases h
theorem JH{c:Ca}(h:Tg c):KI (F c):=fun _ e=>by cases e;exact h
theorem Tg.opens{c:Ca}(h:Tg c):c.opens=L->c.wrong.k=4:=by cases c;exact(KZ.1 h).1
theorem Tg.given{c:Ca}(h:Tg c):KI c.given:=by cases c;exact(KZ.1 h).2.1
theorem Tg.answer{c:Ca}(h:Tg c):KI c.answer:=by cases c;exact(KZ.1 h).2.2
theorem PL:∀(n:Nat)(c d:Option Ca),SizeOf.sizeOf c+SizeOf.sizeOf d<=n->KI c->KI d->KI (YH c d)
 |0,c,d,h,_,_=>by cases c<;>simp at h
 |n+1,A,d,_,_,h=>by rw[Xw];exact h
 |n+1,F c,A,_,h,_=>by rw[XI];exact h
 |n+1,F ⟨o,w,k,e,g,a,h⟩,F ⟨o',w',k',e',g',a',h'⟩,hn,hc,hd=>by
  have hc:=hc _ rfl;have hd:=hd _ rfl;simp at hn;rw[Xe];split
  .split
   .exact JH (KZ.2 ⟨hc.opens,PL n g' g (by omega) hd.given hc.given,PL n a a' (by omega) hc.answer hd.answer⟩)
   .exact JH (KZ.2 ⟨hc.opens,Xf,Xf⟩)
  .exact JH hc
theorem Ra{c d:Option Ca}(hc:KI c)(hd:KI d):KI (YH c d):=PL _ c d (S _) hc hd
theorem MI:∀(n:Nat)(f t:Ty)(o:XG),o.k=4->KI (Y7 n f t o)
 |0,_,_,_,_=>Xf
 |n+1,f,t,o,ho=>by
  have hs:∀(c:Option Ca)(k:Int),KI c->Tg (YZ c k):=fun c k h=>by
   cases c with
   |none=>exact KZ.2 ⟨fun h=>(by cases h),Xf,Xf⟩
   |some c=>exact h c rfl
  rw[Y7];split
  .exact Xf
  split
  .exact JH (KZ.2 ⟨fun h=>(by cases h),MI n _ _ _ ho,MI n _ _ _ ho⟩)
  split
  .have h:=hs _ f.k (MI n f (Yt f) o ho);exact JH (KZ.2 ⟨h.opens,h.given,h.answer⟩)
  split
  .have h:=hs _ t.k (MI n (Yt t) t o ho);exact JH (KZ.2 ⟨fun _=>ho,h.given,h.answer⟩)
  .exact JH (KZ.2 ⟨fun h=>(by cases h),Xf,Xf⟩)
def Ju:YJ->Prop
 |⟨k,n,b,e,i,g,a,_⟩=>(1<=k/\k<=5/\-1000000<=n/\n<=1000000/\(k=3->L9 b/\b.mj<=100)/\(k=4->∃v,i=[v]/\v.k≠4)/\(k=5->∃v,i=[v])/\KI g/\KI a)/\(∀x,x∈e->Ju x)/\(∀x,x∈i->Ju x)
theorem J7{n:Int}{b:Tm}{e i:List YJ}{g a:Option Ca}{s:Int}:Ju ⟨k,n,b,e,i,g,a,s⟩↔(1<=k/\k<=5/\-1000000<=n/\n<=1000000/\(k=3->L9 b/\b.mj<=100)/\(k=4->∃v,i=[v]/\v.k≠4)/\(k=5->∃v,i=[v])/\KI g/\KI a)/\(∀x,x∈e->Ju x)/\(∀x,x∈i->Ju x):=by rw[Ju]
theorem Ju.top{v:YJ}(h:Ju v):1<=v.k/\v.k<=5/\-1000000<=v.n/\v.n<=1000000:=by cases v;have:=(J7.1 h).1;exact⟨this.1,this.2.1,this.2.2.1,this.2.2.2.1⟩
theorem Ju.body{v:YJ}(h:Ju v)(a:v.k=3):L9 v.body/\v.body.mj<=100:=by cases v;exact(J7.1 h).1.2.2.2.2.1 a
theorem Ju.given{v:YJ}(h:Ju v):KI v.given:=by cases v;exact(J7.1 h).1.2.2.2.2.2.2.2.1
theorem Ju.answer{v:YJ}(h:Ju v):KI v.answer:=by cases v;exact(J7.1 h).1.2.2.2.2.2.2.2.2
theorem Ju.env{v:YJ}(h:Ju v):∀x,x∈v.env->Ju x:=by cases v;exact(J7.1 h).2.1
theorem Ju.qm{v:YJ}(h:Ju v)(a:v.k=4):v.inn=[v.core]/\v.core.k≠4/\Ju v.core:=by
 cases v
 obtain⟨⟨_,_,_,_,_,b,_,_,_⟩,_,hi⟩:=J7.1 h;obtain⟨u,rfl,hu⟩:=b a;exact⟨rfl,hu,hi u (by simp)⟩
theorem Ju.qt{v:YJ}(h:Ju v)(b:v.k=5):v.inn=[v.core]/\Ju v.core:=by
 cases v
 obtain⟨⟨_,_,_,_,_,_,a,_,_⟩,_,hi⟩:=J7.1 h;obtain⟨u,rfl⟩:=a b;exact⟨rfl,hi u (by simp)⟩
theorem Ab{n:Int}(h:-1000000<=n)(b:n<=1000000):Ju (XP n):=by refine J7.2 ⟨⟨by omega,by omega,h,b,by omega,by omega,by omega,Xf,Xf⟩,fun x a=>(by cases a),fun x a=>(by cases a)⟩
theorem Q9{n:Int}(h:-1000000<=n)(b:n<=1000000):Ju (Xp n):=by refine J7.2 ⟨⟨by omega,by omega,h,b,by omega,by omega,by omega,Xf,Xf⟩,fun x a=>(by cases a),fun x a=>(by cases a)⟩
theorem Eu{b:Tm}{e:List YJ}(h:L9 b)(c:b.mj<=100)(a:∀x,x∈e->Ju x):Ju (NM b e):=by refine J7.2 ⟨⟨by omega,by omega,by omega,by omega,fun _=>⟨h,c⟩,by omega,by omega,Xf,Xf⟩,a,fun x d=>by cases d⟩
theorem Tf{v:YJ}{g a:Option Ca}(h:Ju v)(d:v.k≠4)(c:KI g)(e:KI a):Ju (KF v g a):=by refine J7.2 ⟨⟨by omega,by omega,by omega,by omega,by omega,fun _=>⟨v,rfl,d⟩,by omega,c,e⟩,fun x b=>(by cases b),fun x b=>?_⟩;simp at b;subst b;exact h
theorem Bk{v:YJ}(h:Ju v):Ju (XX v k):=by refine J7.2 ⟨⟨by omega,by omega,by omega,by omega,by omega,by omega,fun _=>⟨v,rfl⟩,Xf,Xf⟩,fun x a=>(by cases a),fun x a=>?_⟩;simp at a;subst a;exact h
theorem V7{f:YJ}{c:Ca}(h:Ju f)(a:Tg c):Ju (Un f c):=by
 unfold Un;split
 .rename_i hk;obtain⟨_,b,d⟩:=h.qm hk;exact Tf d b (Ra a.given h.given) (Ra h.answer a.answer)
 .rename_i hk;exact Tf h hk a.given a.answer
theorem Fd{c:Ca}{v:YJ}(h:Ju v)(d:Tg c)(e:c.opens=L->v.k=5):Ju (OE c v):=by
 have a:Ju (if c.opens=L then v.core else v):=by
  split
  .rename_i ho';exact(h.qt (e ho')).2
  .exact h
 unfold OE;generalize (if c.opens=L then v.core else v)=u at a;have b:Ju (if c.given.isSome=L\/c.answer.isSome=L then Un u c else u):=by
  split
  .exact V7 a d
  .exact a
 simp only;generalize (if c.given.isSome=L\/c.answer.isSome=L then Un u c else u)=u2 at b;split
 .exact Bk b
 .exact b
def CO(t:XB):Prop:=(t.d=1\/t.d=4->L9 t.x/\t.x.mj<=100/\∀v,v∈t.s->Ju v)/\(t.d=4->t.x.k=6)/\KI t.c
def fl:List Bool->List YJ->Prop
 |[],[]=>True
 |b::q,v::r=>(b=L->v.k≠4)/\fl q r
 |_,_=>False
def RC:List XB->List Bool->Prop
 |[],q=>∃b,q=[b]
 |t::ts,q=>(t.d=1/\RC ts (Za::q))\/((t.d=4\/t.d=6)/\∃b r,q=b::r/\RC ts (Za::r))\/((t.d=2\/t.d=3\/t.d=5)/\∃a b r,q=a::b::r/\RC ts (Za::r))\/(t.d=7/\∃a r,q=a::L::r/\RC ts (Za::r))
structure Vt(s:St):Prop where
 q:∃q,RC s.ts q/\fl q s.vs
 vs:∀v,v∈s.vs->Ju v
 ts:∀t,t∈s.ts->CO t
 le:s.calls<=s.fuel
 max:s.fuel<=100
def tw(t:XB):Nat:=if t.d=1 then 8*t.x.mj else if t.d=4 then 8*(t.x.at 1).mj+8*(t.x.at 2).mj+1 else if t.d=5 then 5 else 1
def mu(s:St):Nat:=(s.fuel-s.calls)*1000+(s.ts.map tw).sum
theorem Al{v:YJ}{r:List YJ}(h:fl q r):fl (Za::q) (v::r):=⟨fun h=>(by cases h),h⟩
theorem KC{b:Bool}{q:List Bool}{vs:List YJ}(h:fl (b::q) vs):∃v r,vs=v::r/\(b=L->v.k≠4)/\fl q r:=by
 match vs,h with
 |v::r,h=>exact⟨v,r,rfl,h.1,h.2⟩
theorem Lz{t:XB}{ts:List XB}(hd:t.d=1)(h:RC ts (Za::q)):RC (t::ts) q:=.inl ⟨hd,h⟩
theorem RB{t:XB}{ts:List XB}{b:Bool}(hd:t.d=4\/t.d=6)(h:RC ts (Za::q)):RC (t::ts) (b::q):=.inr (.inl ⟨hd,b,q,rfl,h⟩)
theorem E8{t:XB}{ts:List XB}{a b:Bool}(hd:t.d=2\/t.d=3\/t.d=5)(h:RC ts (Za::q)):RC (t::ts) (a::b::q):=.inr (.inr (.inl ⟨hd,a,b,q,rfl,h⟩))
theorem B3{t:XB}{ts:List XB}{a:Bool}(hd:t.d=7)(h:RC ts (Za::q)):RC (t::ts) (a::L::q):=.inr (.inr (.inr ⟨hd,a,q,rfl,h⟩))
theorem JX{x:Tm}{s:List YJ}(h:L9 x)(h':x.mj<=100)(hs:∀v,v∈s->Ju v):CO (Y3 x s):=⟨fun _=>⟨h,h',hs⟩,fun h=>(by simp[Y3] at h),Xf⟩
theorem CN(d:Int)(h:d≠1)(h4:d≠4):CO (QJ d):=⟨fun h'=>(by rcases h' with h'|h'<;>simp[QJ] at h'<;>omega),fun h=>absurd h h4,Xf⟩
theorem Nh{c:Option Ca}(h:KI c):CO (Xj c):=⟨fun h'=>(by rcases h' with h'|h'<;>simp[Xj] at h'),fun h=>(by simp[Xj] at h),h⟩
theorem V8{x:Tm}{s:List YJ}(h:L9 x)(h':x.mj<=100)(hs:∀v,v∈s->Ju v)(hk:x.k=6):CO (Jo x s):=⟨fun _=>⟨h,h',hs⟩,fun _=>hk,Xf⟩
theorem D4:∀(l:List Tm)(x:Tm),x∈l->x.mj<=(l.map Tm.mj).sum
 |[],_,h=>by cases h
 |y::r,x,h=>by
  rcases K.1 h with rfl|h
  .simp
  .have:=D4 r x h;simp;omega
theorem U2{x:Tm}(h:j<x.l.length):(x.at j).mj+1<=x.mj:=by have:=D4 x.l _ (Tm.at_mem h);rw[x.nx];omega
theorem Ei{x:Tm}(h:x.l.length=2):x.mj=(x.at 0).mj+(x.at 1).mj+1:=by
 rw[x.nx];unfold Tm.at;match hl:x.l,h with
 |[a,b],_=>simp
theorem AI{x:Tm}(h:x.l.length=3):x.mj=(x.at 0).mj+(x.at 1).mj+(x.at 2).mj+1:=by
 rw[x.nx];unfold Tm.at;match hl:x.l,h with
 |[a,b,c],_=>simp;omega
theorem Tm.nh(x:Tm):1<=x.mj:=by rw[x.nx];omega
theorem Vt.push{s:St}{v:YJ}(b:∃q,RC s.ts (Za::q)/\fl q s.vs)(c:Ju v)(h:∀v,v∈s.vs->Ju v)(i:∀t,t∈s.ts->CO t)(d:s.calls<=s.fuel)(a:s.fuel<=100):Vt (s.push v):=by
 obtain⟨q,g,e⟩:=b;refine⟨⟨Za::q,g,Al e⟩,fun u hu=>?_,i,d,a⟩;rcases K.1 hu with rfl|hu
 .exact c
 .exact h u hu
def Vq(s0 s:St):Prop:=s.ended.k=0->Vt s/\mu s<mu s0
theorem Oq{s:St}{x:Tm}{e:List YJ}{d:Int}(hd:d=2\/d=3\/d=5)(l:x.l.length=2)(g:L9 x)(hz:x.mj<=100)(h:∀v,v∈e->Ju v)(i:RC s.ts (Za::q))(k:fl q s.vs)(p:∀v,v∈s.vs->Ju v)(m:∀t,t∈s.ts->CO t)(c:s.calls<=s.fuel)(o:s.fuel<=100):
  Vq ⟨Y3 x e::s.ts,s.vs,s.calls,s.fuel,s.ended⟩ (Jx s x e d):=by
 intro _;have r:=U2 (x:=x) (j:=0) (by omega);have w:=U2 (x:=x) (j:=1) (by omega);refine⟨⟨⟨q,Lz rfl (Lz rfl (E8 hd i)),k⟩,p,fun t a=>?_,c,o⟩,?_⟩
 .rcases K.1 a with rfl|a
  .exact JX (g.part (by omega)) (by omega) h
  rcases K.1 a with rfl|a
  .exact JX (g.part (by omega)) (by omega) h
  rcases K.1 a with rfl|a
  .exact CN d (by omega) (by omega)
  .exact m t a
 .have h2:=Ei l;have u:tw (QJ d)<=5:=by unfold tw QJ;simp only;split<;>(try split)<;>(try split)<;>simp_all<;>omega
  simp only[mu,Jx,St.ll,Zg,Zi];have b:∀y:Tm,tw (Y3 y e)=8*y.mj:=fun y=>by simp[tw,Y3]
  rw[b,b,b];omega
theorem Bt{s:St}{x:Tm}{e:List YJ}(hx:L9 x)(hz:x.mj<=100)(he:∀v,v∈e->Ju v)(hw:RC s.ts (Za::q))(hf:fl q s.vs)(hv:∀v,v∈s.vs->Ju v)(ht:∀t,t∈s.ts->CO t)(hle:s.calls<=s.fuel)(hm:s.fuel<=100):
  Vq ⟨Y3 x e::s.ts,s.vs,s.calls,s.fuel,s.ended⟩ (Y2 s x e):=by
 obtain⟨r,p,g,m,o,z,w⟩:=hx.top;have i:∀y:Tm,tw (Y3 y e)=8*y.mj:=fun y=>by simp[tw,Y3]
 have u:=x.nh;have d:∀v,Ju v->Vq ⟨Y3 x e::s.ts,s.vs,s.calls,s.fuel,s.ended⟩ (s.push v):=fun v h _=>by refine⟨Vt.push ⟨q,hw,hf⟩ h hv ht hle hm,?_⟩;simp only[mu,St.push,Zg,Zi,i];omega
 have b:x.k=1\/x.k=2\/x.k=3\/x.k=4\/x.k=5\/x.k=6\/x.k=7\/x.k=8\/x.k=9\/x.k=10:=by omega
 rcases b with b|b|b|b|b|b|b|b|b|b
 .simp only[Y2,b,if_true];cases h:e[x.n.toNat]? with
  |none=>intro h;simp[St.stop,Yw] at h
  |some v=>exact d v (he v (ZO h))
 .simp only[Y2,b];exact d _ (Ab m o)
 .simp only[Y2,b];exact d _ (Q9 m o)
 .have hl2:x.l.length=2:=by rw[g,b];rfl
  simp only[Y2,b];exact Oq (.inl rfl) hl2 hx hz he hw hf hv ht hle hm
 .have hl2:x.l.length=2:=by rw[g,b];rfl
  simp only[Y2,b];exact Oq (.inr (.inl rfl)) hl2 hx hz he hw hf hv ht hle hm
 .have hl3:x.l.length=3:=by rw[g,b];rfl
  simp only[Y2,b];intro _;have k:=U2 (x:=x) (j:=0) (by omega);refine⟨⟨⟨q,Lz rfl (RB (.inl rfl) hw),hf⟩,hv,fun t a=>?_,hle,hm⟩,?_⟩
  .rcases K.1 a with rfl|a
   .exact JX (hx.part (by omega)) (by omega) he
   rcases K.1 a with rfl|a
   .exact V8 hx hz he b
   .exact ht t a
  .have h3:=AI hl3;have l:tw (Jo x e)=8*(x.at 1).mj+8*(x.at 2).mj+1:=by simp[tw,Jo]
   simp[mu,St.ll,i,l];omega
 .have hl1:x.l.length=1:=by rw[g,b];rfl
  simp only[Y2,b];have k:=U2 (x:=x) (j:=0) (by omega);exact d _ (Eu (hx.part (by omega)) (by omega) he)
 .have hl2:x.l.length=2:=by rw[g,b];rfl
  simp only[Y2,b];exact Oq (.inr (.inr rfl)) hl2 hx hz he hw hf hv ht hle hm
 .have hl1:x.l.length=1:=by rw[g,b];rfl
  simp only[Y2,b];intro _;have k:=U2 (x:=x) (j:=0) (by omega);refine⟨⟨⟨q,Lz rfl hw,hf⟩,hv,fun t a=>?_,hle,hm⟩,?_⟩
  .rcases K.1 a with rfl|a
   .exact JX (hx.part (by omega)) (by omega) he
   .exact ht t a
  .simp[mu,St.ll,i];omega
 .have hl1:x.l.length=1:=by rw[g,b];rfl
  simp only[Y2,b];intro _;have k:=U2 (x:=x) (j:=0) (by omega);refine⟨⟨⟨q,Lz rfl (RB (.inr rfl) hw),hf⟩,hv,fun t a=>?_,hle,hm⟩,?_⟩
  .rcases K.1 a with rfl|a
   .exact JX (hx.part (by omega)) (by omega) he
   rcases K.1 a with rfl|a
   .exact Nh (MI _ _ _ _ rfl)
   .exact ht t a
  .have l:∀c,tw (Xj c)=1:=fun c=>by simp[tw,Xj]
   simp[mu,St.ll,i,l];omega
theorem Rq{t:XB}{ts:List XB}{u v:YJ}{vs:List YJ}{calls:Nat}{ended:XG}{r:List Bool}(l:RC ts (Za::r))(m:fl r vs)(p:Ju v)(hu:Ju u)(e:∀u,u∈vs->Ju u)(d:∀t,t∈ts->CO t)(k:calls<=fuel)(o:fuel<=100)(hp:1<=tw t)(z:u.k=4->4<=tw t):
  Vq ⟨t::ts,v::u::vs,calls,fuel,ended⟩ (US ⟨ts,vs,calls,fuel,ended⟩ u v):=by
 unfold US;split
 .rename_i hk;unfold KD;split
  .intro h;simp[St.stop,NN] at h
  .rename_i hc;simp only at hc;intro _;obtain⟨q,i⟩:=hu.body hk;refine⟨⟨⟨r,Lz rfl l,m⟩,e,fun x a=>?_,by simp only;omega,o⟩,?_⟩
   .rcases K.1 a with rfl|a
    .refine JX q i fun y g=>?_;rcases K.1 g with rfl|g
     .exact p
     .exact hu.env y g
    .exact d x a
   .have e1:tw (Y3 u.body (v::u.env))=8*u.body.mj:=by simp[tw,Y3]
    simp only[mu,Zg,Zi,e1];have:(fuel-calls)*1000=(fuel-(calls+1))*1000+1000:=by omega
    omega
 .split
  .rename_i hk;unfold NX;intro _;obtain⟨_,j,b⟩:=hu.qm hk;refine⟨⟨⟨Za::L::r,RB (.inr rfl) (B3 rfl (RB (.inr rfl) l)),⟨fun h=>(by cases h),fun _=>j,m⟩⟩,fun x a=>?_,fun x a=>?_,k,o⟩,?_⟩
   .rcases K.1 a with rfl|a
    .exact p
    rcases K.1 a with rfl|a
    .exact b
    .exact e x a
   .rcases K.1 a with rfl|a
    .exact Nh hu.given
    rcases K.1 a with rfl|a
    .exact CN 7 (by omega) (by omega)
    rcases K.1 a with rfl|a
    .exact Nh hu.answer
    .exact d x a
   .have j:∀c,tw (Xj c)=1:=fun c=>by simp[tw,Xj]
    have w:tw (QJ 7)=1:=by simp[tw,QJ]
    have:=z hk;simp only[mu,Zg,Zi,j,w];omega
  .intro h;simp[St.stop,Yw] at h
theorem QY{s:St}(h:Vt s)(h0:s.ended.k=0)(ht:s.ts≠[]):Vq s (U1 s):=by
 obtain⟨⟨q,hw,hf⟩,hv,a6,p,hm⟩:=h;obtain⟨ts,vs,d,g,e⟩:=s;match ts,ht with
 |t::ts,_=>
 have e0:U1 ⟨t::ts,vs,d,g,e⟩=OK ⟨ts,vs,d,g,e⟩ t:=by simp only[U1];rw[if_pos h0]
 rw[e0];have k:∀t,t∈ts->CO t:=fun u hu=>a6 u (by simp[hu]);have a0:=a6 t (by simp);simp only at hw hf hv p hm h0;have a5:1<=tw t:=by
  unfold tw;have:=t.x.nh;split
  .omega
  .split
   .omega
   .split<;>omega
 rcases hw with⟨hd,hw⟩|⟨hd,b,r,rfl,hw⟩|⟨hd,a,b,r,rfl,hw⟩|⟨hd,a,r,rfl,hw⟩
 .obtain⟨hx,hz,he⟩:=a0.1 (.inl hd);have:=Bt (s:=⟨ts,vs,d,g,e⟩) hx hz he hw hf hv k p hm;have e1:tw t=tw (Y3 t.x t.s):=by simp[tw,Y3,hd]
  simp only[OK,hd,if_true];intro h1;refine⟨(this h1).1,?_⟩;have h2:=(this h1).2;simp only[mu,Zg,Zi,e1] at h2 ⊢;exact h2
 .obtain⟨v,j,rfl,_,l⟩:=KC hf;have y:=hv v (by simp);have m:∀u,u∈j->Ju u:=fun u hu=>hv u (by simp[hu]);have n1:t.d≠1:=by omega
  simp only[OK,n1,if_false];rcases hd with hd|hd
  .obtain⟨hx,hz,he⟩:=a0.1 (.inr hd);have a7:=a0.2.1 hd;have a9:t.x.l.length=3:=by rw[hx.top.2.2.1,a7];rfl
   simp only[hd];by_cases hk:v.k=2
   .simp only[hk];intro _;have a3:(if v.n=1 then 1 else 2)<t.x.l.length:=by split<;>omega
    have h0:=U2 a3;refine⟨⟨⟨r,Lz rfl hw,l⟩,m,fun u hu=>?_,p,hm⟩,?_⟩
    .rcases K.1 hu with rfl|hu
     .exact JX (hx.part a3) (by omega) he
     .exact k u hu
    .have e2:tw t=8*(t.x.at 1).mj+8*(t.x.at 2).mj+1:=by simp[tw,hd]
     have e3:tw (Y3 (t.x.at (if v.n=1 then 1 else 2)) t.s)<=8*(t.x.at 1).mj+8*(t.x.at 2).mj:=by simp only[tw,Y3,if_true];split<;>omega
     have e4:¬((4:Int)=6):=by decide
     simp only[mu,St.ll,Zg,Zi,e2,e4,if_false,if_true];omega
   .simp only[hk];intro h;simp[St.stop,Yw] at h
  .simp only[hd];have w:∀u,Ju u->Vq ⟨t::ts,v::j,d,g,e⟩ (St.push ⟨ts,j,d,g,e⟩ u):=fun u h _=>by refine⟨Vt.push ⟨r,hw,l⟩ h m k p hm,?_⟩;simp only[mu,St.push,Zg,Zi];omega
   have i:∀o:XG,o.k≠0->Vq ⟨t::ts,v::j,d,g,e⟩ (St.stop ⟨ts,j,d,g,e⟩ o):=fun o h h'=>absurd h' h;simp only[Xz];cases hc:t.c with
   |none=>exact w v y
   |some c=>
    have a4:=a0.2.2 c hc;simp only[if_true];split
    .exact i _ (by simp[Yw])
    rename_i h1;split
    .rename_i h2;exact i _ (by rw[a4.opens h2.1];omega)
    split
    .rename_i h3;exact i _ h3
    .exact w _ (Fd y a4 fun ho=>Classical.byContradiction fun h=>h1 ⟨ho,h⟩)
 .obtain⟨v,vs1,rfl,_,hf1⟩:=KC hf;obtain⟨u,j,rfl,_,l⟩:=KC hf1;have y:=hv v (by simp);have a2:=hv u (by simp);have m:∀u,u∈j->Ju u:=fun u hu=>hv u (by simp[hu]);have n1:t.d≠1:=by omega
  have n6:t.d≠6:=by omega
  have n4:t.d≠4:=by omega
  simp only[OK,n1,n6,n4,if_false];have a1:∀(z:YJ)(o:XG),Ju z->Vq ⟨t::ts,v::u::j,d,g,e⟩ ⟨ts,z::j,d,g,o⟩:=fun z o h _=>by
   refine⟨⟨⟨Za::r,hw,Al l⟩,fun x hx=>?_,k,p,hm⟩,?_⟩
   .rcases K.1 hx with rfl|hx
    .exact h
    .exact m x hx
   .simp only[mu,Zg,Zi];omega
  rcases hd with hd|hd|hd
  .simp only[hd,if_true];exact a1 _ _ (Ab (by unfold Jn;omega) (by unfold Jn;omega))
  .simp only[hd];exact a1 _ _ (Q9 (by split<;>omega) (by split<;>omega))
  .simp only[hd];have a8:tw t=5:=by simp[tw,hd]
   exact Rq hw l y a2 m k p hm (by omega) (fun _=>by omega)
 .obtain⟨v,vs1,rfl,_,hf1⟩:=KC hf;obtain⟨u,j,rfl,h4,l⟩:=KC hf1;have y:=hv v (by simp);have a2:=hv u (by simp);have m:∀u,u∈j->Ju u:=fun u hu=>hv u (by simp[hu]);simp only[OK,hd];exact Rq hw l y a2 m k p hm a5 (fun h=>absurd h (h4 rfl))
theorem VI{s:St}(h:Vt s):∀n,(XO n s).ended.k=0->Vt (XO n s)/\(mu (XO n s)+n<=mu s\/(XO n s).ts=[])
 |0,_=>⟨h,.inl (by simp[XO])⟩
 |n+1,h0=>by
  rw[Q0] at h0 ⊢;by_cases he:(XO n s).ended.k=0
  .obtain⟨h1,h2⟩:=VI h n he;by_cases ht:(XO n s).ts=[]
   .rw[Om (.inr ht)];exact⟨h1,.inr ht⟩
   .obtain⟨h3,h4⟩:=QY h1 he ht h0;refine⟨h3,?_⟩;rcases h2 with h2|h2
    .exact .inl (by omega)
    .exact absurd h2 ht
  .rw[Om (.inl he)] at h0;exact absurd h0 he
theorem C3{s:St}(h:Vt s)(ht:s.ts≠[]):1<=mu s:=by
 obtain⟨ts,vs,b,c,a⟩:=s;match ts,ht with
 |t::r,_=>
  have:1<=tw t:=by
   unfold tw;have:=t.x.nh;split
   .omega
   .split
    .omega
    .split<;>omega
  simp only[mu,Zg,Zi];omega
theorem SI{s:St}(h:Vt s):(XO (mu s) s).done:=by
 by_cases he:(XO (mu s) s).ended.k=0
 .obtain⟨h1,a⟩:=VI h (mu s) he;rcases a with a|a
  .refine .inr (Classical.byContradiction fun b=>?_);have:=C3 h1 b;omega
  .exact .inr a
 .exact .inl he
theorem Pw{s:St}(h:Vt s){n:Nat}(a:mu s<=n):XO n s=XO (mu s) s:=by
 obtain⟨m,rfl⟩:∃m,n=mu s+m:=⟨n-mu s,by omega⟩
 rw[JV,Mo (SI h)]
theorem VG{x:Tm}(h:L9 x)(hz:x.mj<=100)(c:fuel<=100):Vt (N5 x fuel)/\mu (N5 x fuel)<=100800:=by
 refine⟨⟨⟨[],.inl ⟨rfl,Za,rfl⟩,trivial⟩,fun v b=>(by cases b),fun t a=>?_,Nat.zero_le _,c⟩,?_⟩
 .rcases K.1 a with rfl|a
  .exact JX h hz fun v b=>by cases b
  .cases a
 .simp only[mu,N5,Zg,Zi,ZQ,ZR];have:tw (Y3 x [])=8*x.mj:=by simp[tw,Y3]
  omega
theorem W8{x:Tm}(h:L9 x)(hz:x.mj<=100)(c:fuel<=100){n:Nat}(hd:(XO n (N5 x fuel)).done):UY x fuel=TU (XO n (N5 x fuel)):=by
 obtain⟨b,d⟩:=VG h hz c;rw[RN];rw[Pw b (n:=WK) (by unfold WK;omega)];rcases Nat.le_total n (mu (N5 x fuel)) with a|a
 .obtain⟨m,e⟩:∃m,mu (N5 x fuel)=n+m:=⟨_,(Nat.add_sub_of_le a).symm⟩
  rw[e,JV,Mo hd]
 .rw[Pw b a]
theorem Q2{x:Tm}(h:L9 x)(hz:x.mj<=100)(b:fuel<=100):(XO WK (N5 x fuel)).done:=by obtain⟨a,c⟩:=VG h hz b;rw[Pw a (n:=WK) (by unfold WK;omega)];exact SI a
theorem Yz{n:Nat}{t:Ty}(h:Ym (n+1) t=L):(∃k,t=⟨k,[]⟩/\(k=0\/k=1\/k=2))\/∃x y,t=⟨3,[x,y]⟩/\Ym n x=L/\Ym n y=L:=by
 match t,h with
 |⟨k,[]⟩,h=>exact .inl ⟨k,rfl,by simpa[Ym,or_assoc] using h⟩
 |⟨k,[x]⟩,h=>simp[Ym] at h
 |⟨k,[x,y]⟩,h=>simp[Ym] at h;obtain⟨⟨rfl,b⟩,a⟩:=h;exact .inr ⟨x,y,rfl,b,a⟩
 |⟨k,x::y::z::r⟩,h=>simp[Ym] at h
theorem NW(t:Ty)(l:List Ty):YD Yl ⟨0,l⟩ t=L:=by cases t;simp[Y0,Yl]
theorem Lu(t:Ty)(l:List Ty):YD Yl t ⟨0,l⟩=L:=by cases t;simp[Y0,Yl]
theorem Sl(a:Int->Int->Bool)(x y b c:Ty)(h:a 3 3=Za):YD a ⟨3,[x,y]⟩ ⟨3,[b,c]⟩=(YD a x b&&YD a y c):=by simp[Y0,Uu,h]
theorem Lp(x y a b:Ty):Xq ⟨3,[x,y]⟩ ⟨3,[a,b]⟩=⟨3,[Xq x a,Xq y b]⟩:=by simp[UB,JZ]
theorem JK:∀(n:Nat)(a b:Ty),Ym n a=L->Ym n b=L->
  Ym n (Xq a b)=L/\YD Jm a (Xq a b)=L/\YD Jm b (Xq a b)=L/\Xq b a=Xq a b/\Xq a a=a
 |0,a,b,h,_=>by simp[Ym] at h
 |n+1,a,b,ha,hb=>by
  rcases Yz ha with⟨k,rfl,hk⟩|⟨x,y,rfl,hx,hy⟩
  .rcases Yz hb with⟨k',rfl,hk'⟩|⟨x',y',rfl,hx',hy'⟩
   .by_cases e:k=k'
    .subst e;rcases hk with rfl|rfl|rfl<;>simp[UB,JZ,Ym,Y0,Uu]
    .have e':k'≠k:=fun h=>e h.symm;simp[UB,JZ,e,e',Ym,Y0,Jm]
   .have e:k≠3:=by omega
    have e':(3:Int)≠k:=by omega
    simp[UB,JZ,e,e',Ym,Y0,Jm]
  .rcases Yz hb with⟨k',rfl,hk'⟩|⟨x',y',rfl,hx',hy'⟩
   .have e:k'≠3:=by omega
    have e':(3:Int)≠k':=by omega
    obtain⟨_,_,_,_,l⟩:=JK n x x hx hx;obtain⟨_,_,_,_,j⟩:=JK n y y hy hy;simp[UB,JZ,e,e',Ym,Y0,Jm,l,j]
   .obtain⟨g1,f1,f2,c1,i1⟩:=JK n x x' hx hx';obtain⟨d,i,g,c,m⟩:=JK n y y' hy hy';refine⟨?_,?_,?_,?_,?_⟩
    .rw[Lp];simp[Ym,g1,d]
    .rw[Lp,Sl _ _ _ _ _ rfl,f1,i];rfl
    .rw[Lp,Sl _ _ _ _ _ rfl,f2,g];rfl
    .rw[Lp,Lp,c1,c]
    .rw[Lp,i1,m]
theorem Lr:∀(n:Nat)(a b:Ty),Ym n a=L->Ym n b=L->YD Yl a b=YD Yl b a
 |0,a,b,h,_=>by simp[Ym] at h
 |n+1,a,b,ha,hb=>by
  rcases Yz ha with⟨ka,rfl,_⟩|⟨x,y,rfl,hx,hy⟩
  .rcases Yz hb with⟨kb,rfl,_⟩|⟨x',y',rfl,hx',hy'⟩
   .simp[Y0,Uu,Yl,Bool.or_comm,Bool.beq_comm]
   .simp[Y0,Uu,Yl]
  .rcases Yz hb with⟨kb,rfl,_⟩|⟨x',y',rfl,hx',hy'⟩
   .simp[Y0,Uu,Yl]
   .rw[Sl _ _ _ _ _ rfl,Sl _ _ _ _ _ rfl,Lr n x x' hx hx',Lr n y y' hy hy']
theorem Kn:∀(n:Nat)(a:Ty),Ym n a=L->YD Yl a a=L
 |0,a,h=>by simp[Ym] at h
 |n+1,a,ha=>by
  rcases Yz ha with⟨ka,rfl,_⟩|⟨x,y,rfl,hx,hy⟩
  .simp[Y0,Uu]
  .rw[Sl _ _ _ _ _ rfl,Kn n x hx,Kn n y hy];rfl
theorem LO:∀(n:Nat)(a b:Ty),Ym n a=L->Ym n b=L->YD Jm a b=L->YD Yl a b=L
 |0,a,b,h,_=>by simp[Ym] at h
 |n+1,a,b,ha,hb=>by
  intro h;rcases Yz hb with⟨kb,rfl,_⟩|⟨x',y',rfl,hx',hy'⟩
  .rcases Yz ha with⟨ka,rfl,_⟩|⟨x,y,rfl,hx,hy⟩
   .simp[Y0,Uu,Jm] at h;simp[Y0,Uu,Yl];omega
   .simp[Y0,Uu,Jm] at h;subst h;exact Lu _ _
  .rcases Yz ha with⟨ka,rfl,_⟩|⟨x,y,rfl,hx,hy⟩
   .simp[Y0,Uu,Jm] at h
   .rw[Sl _ _ _ _ _ rfl,Bool.and_eq_true] at h;rw[Sl _ _ _ _ _ rfl,LO n x x' hx hx' h.1,LO n y y' hy hy' h.2];rfl
def XZ:List (Nat×Tm×Ty)->List Ty->List Tm
 |p::r,u::s=>Jw (p.1:Int) p.2.1 p.2.2 u::XZ r s
 |_,_=>[]
theorem NT:∀(ps:List (Nat×Tm×Ty))(us:List Ty),ps.length=us.length->(XZ ps us).length=ps.length
 |[],[],_=>rfl
 |p::r,u::s,h=>by simp[XZ,NT r s (by simpa using h)]
 |[],_::_,h=>by simp at h
 |_::_,[],h=>by simp at h
def Yv(k:Int)(t:Ty)(takes:List Ty):List Ty:=if k=7 then t::takes else takes
def EA:(l:List Tm)->((x:Tm)->x∈l->Nat->Option (Tm×Ty))->Nat->Option (List (Nat×Tm×Ty))
 |[],_,_=>F []
 |x::r,f,c=>(f x List.mem_cons_self c).bind fun p=>(EA r (fun z h c=>f z (List.mem_cons_of_mem _ h) c) (c+x.sz)).bind fun q=>F ((c,p.1,p.2)::q)
def Xt:Tm->List Ty->Nat->Option (Tm×Ty)
 |⟨k,n,t,_,l⟩,takes,c=>(EA l (fun x _ c=>Xt x (Yv k t takes) c) (c+1)).bind fun ps=>(YK k n t (ps.map fun p=>p.2.2) (Yv k t takes)).bind fun r=>if U6 (ps.map fun p=>p.2.2) r.2=L then F (⟨k,n,t,Yk,XZ ps r.2⟩,r.1) else A
def Xc:List Tm->List Ty->Nat->Option (List (Nat×Tm×Ty))
 |[],_,_=>F []
 |x::r,takes,c=>(Xt x takes c).bind fun p=>(Xc r takes (c+x.sz)).bind fun q=>F ((c,p.1,p.2)::q)
theorem Re(takes:List Ty):∀(l:List Tm)(c:Nat),EA l (fun x _ c=>Xt x takes c) c=Xc l takes c
 |[],_=>rfl
 |x::r,c=>by simp only[EA,Xc,Re takes r]
theorem Kv(k n:Int)(t f:Ty)(l:List Tm)(takes:List Ty)(c:Nat):Xt ⟨k,n,t,f,l⟩ takes c =
  (Xc l (Yv k t takes) (c+1)).bind fun ps=>(YK k n t (ps.map fun p=>p.2.2) (Yv k t takes)).bind fun r=>if U6 (ps.map fun p=>p.2.2) r.2=L then F (⟨k,n,t,Yk,XZ ps r.2⟩,r.1) else A:=by
 rw[Xt,Re]
theorem Ng{k n:Int}{t f:Ty}{l:List Tm}{takes:List Ty}{c:Nat}{y:Tm}{i:Ty}(h:Xt ⟨k,n,t,f,l⟩ takes c=F (y,i)):
  ∃ps us,Xc l (Yv k t takes) (c+1)=F ps/\YK k n t (ps.map fun p=>p.2.2) (Yv k t takes)=F (i,us)/\U6 (ps.map fun p=>p.2.2) us=L/\y=⟨k,n,t,Yk,XZ ps us⟩:=by
 rw[Kv] at h;cases h1:Xc l (Yv k t takes) (c+1) with
 |none=>rw[h1] at h;cases h
 |some ps=>
  rw[h1] at h;simp only[Zl] at h;cases h2:YK k n t (ps.map fun p=>p.2.2) (Yv k t takes) with
  |none=>rw[h2] at h;cases h
  |some r=>
   rw[h2] at h;simp only[Zl] at h;split at h
   .rename_i h3;cases h
    exact⟨ps,r.2,rfl,h2,h3,rfl⟩
   .cases h
theorem LJ{x:Tm}{r:List Tm}{takes:List Ty}{c:Nat}{ps:List (Nat×Tm×Ty)}(h:Xc (x::r) takes c=F ps):∃y i q,Xt x takes c=F (y,i)/\Xc r takes (c+x.sz)=F q/\ps=(c,y,i)::q:=by
 rw[Xc] at h;cases h1:Xt x takes c with
 |none=>rw[h1] at h;cases h
 |some p=>
  rw[h1] at h;simp only[Zl] at h;cases h2:Xc r takes (c+x.sz) with
  |none=>rw[h2] at h;cases h
  |some q=>
   rw[h2] at h;simp only[Zl] at h;cases h
   exact⟨p.1,p.2,q,rfl,rfl,rfl⟩
theorem Jk:∀(l:List Tm)(takes:List Ty)(c:Nat)(ps:List (Nat×Tm×Ty)),Xc l takes c=F ps->ps.length=l.length
 |[],_,_,ps,h=>by rw[Xc] at h;cases h;rfl
 |x::r,takes,c,ps,h=>by obtain⟨y,i,q,_,h2,rfl⟩:=LJ h;simp[Jk r takes _ q h2]
theorem MF{takes:List Ty}{Q:Tm->Nat->Tm->Ty->Prop}:∀(l:List Tm)(c:Nat)(ps:List (Nat×Tm×Ty)),Xc l takes c=F ps->(∀x,x∈l->∀c y i,Xt x takes c=F (y,i)->Q x c y i)->
  ∀j(h:j<ps.length)(h':j<l.length),Q l[j] ps[j].1 ps[j].2.1 ps[j].2.2
 |[],c,ps,h,_,j,hj,h'=>by simp at h'
 |x::r,c,ps,h,hQ,j,hj,h'=>by
  obtain⟨y,i,q,h1,h2,rfl⟩:=LJ h;match j with
  |0=>exact hQ x (by simp) c y i h1
  |j+1=>exact MF r _ q h2 (fun z hz=>hQ z (by simp[hz])) j (by simpa using hj) (by simpa using h')
def J8:Tm->Nat->Prop
 |⟨k,n,t,f,l⟩,ins=>U3 0 (ins:Int) ⟨k,n,t,f,l⟩=L/\∀x,x∈l->J8 x (if k=7 then ins+1 else ins)
theorem Kf{n:Int}{t f:Ty}{ins:Nat}:J8 ⟨k,n,t,f,l⟩ ins↔U3 0 (ins:Int) ⟨k,n,t,f,l⟩=L/\∀x,x∈l->J8 x (if k=7 then ins+1 else ins):=by rw[J8]
theorem Vj{f:Tm->Nat->Option Nat}{Q:Tm->Prop}(hf:∀y q q',f y q=F q'->Q y/\y.sz+q'=q):∀(l:List Tm)(r r':Nat),Ul f l r=F r'->(∀y,y∈l->Q y)/\(l.map Tm.sz).sum+r'=r
 |[],r,r',h=>by simp[Ul] at h;exact⟨(fun y hy=>by cases hy),by simpa using h.symm⟩
 |x::l,r,r',h=>by
  simp only[Ul] at h;cases hq:f x r with
  |none=>rw[hq] at h;cases h
  |some q=>
   rw[hq] at h;have h1:=hf x r q hq;have h2:=Vj hf l q r' h;refine⟨fun y hy=>?_,by simp;omega⟩;rcases K.1 hy with rfl|hy
   .exact h1.1
   .exact h2.1 y hy
theorem TH:∀(n:Nat)(ins:Nat)(x:Tm)(r r':Nat),XM 0 n (ins:Int) x r=F r'->J8 x ins/\x.sz+r'=r
 |0,_,_,_,_,h=>by simp[XM] at h
 |_+1,_,_,0,_,h=>by simp[XM] at h
 |n+1,ins,⟨k,m,t,f,l⟩,r+1,r',h=>by
  simp only[XM] at h;split at h
  .rename_i ht;have hi:Xu k (ins:Int)=((if k=7 then ins+1 else ins:Nat):Int):=by unfold Xu;split<;>simp
   rw[hi] at h;have a:=Vj (fun y q b=>TH n (if k=7 then ins+1 else ins) y q b) l r r' h;exact⟨Kf.2 ⟨ht,a.1⟩,by rw[Tm.lm];omega⟩
  .cases h
theorem Mn{x:Tm}(h:UC 0 x=L):J8 x 0/\x.sz<=40:=by obtain⟨b,a⟩:=Option.isSome_iff_exists.1 h;have:=TH 40 0 x 40 b a;exact⟨this.1,by omega⟩
theorem YG:∀(n m:Nat)(t:Ty),n<=m->Ym n t=L->Ym m t=L
 |0,_,_,_,h=>by simp[Ym] at h
 |n+1,0,_,hm,_=>by omega
 |n+1,m+1,t,hm,h=>by
  rcases Yz h with⟨k,rfl,hk⟩|⟨x,y,rfl,hx,hy⟩
  .rcases hk with rfl|rfl|rfl<;>simp[Ym]
  .simp[Ym,YG n m x (by omega) hx,YG n m y (by omega) hy]
theorem MM(n:Nat):Ym (n+1) ⟨0,[]⟩=L:=by simp[Ym]
theorem ML(n:Nat):Ym (n+1) ⟨1,[]⟩=L:=by simp[Ym]
theorem Ml(n:Nat):Ym (n+1) ⟨2,[]⟩=L:=by simp[Ym]
theorem JF{n:Int}{t f:Ty}{ins:Nat}(h:U3 0 (ins:Int) ⟨k,n,t,f,l⟩=L):
  1<=k/\k<=9/\l.length=Yu k/\XQ f=L/\Ym 4 t=L/\(XV k=Za->XQ t=L)/\(k=1->0<=n/\n<(ins:Int)):=by
 simp only[U3,UL,Bool.and_eq_true,decide_eq_true_eq,beq_iff_eq] at h;obtain⟨⟨⟨c,g⟩,e⟩,⟨i,a⟩,d⟩:=h;refine⟨c,g,e,i,?_,fun b=>?_,fun b=>?_⟩
 .split at a
  .exact a
  .rw[P5 a];exact MM 3
 .rw[if_neg (by rw[b];simp)] at a;exact a
 .subst b;simp[Xx] at d;omega
theorem Xl(k:Int)(t:Ty)(takes:List Ty):(Yv k t takes).length=if k=7 then takes.length+1 else takes.length:=by unfold Yv;split<;>simp
theorem Uw{t:Ty}(a:Ym 4 t=L)(h:∀u,u∈takes->Ym 4 u=L):∀u,u∈Yv k t takes->Ym 4 u=L:=by
 intro u hu;unfold Yv at hu;split at hu
 .rcases K.1 hu with rfl|hu
  .exact a
  .exact h u hu
 .exact h u hu
theorem Lq{m:Nat}{l:List Ty}(h:∀u,u∈l->Ym m u=L)(hm:1<=m)(j:Nat):Ym m (l.getD j ⟨0,[]⟩)=L:=by
 rw[Zq];cases hj:l[j]? with
 |none=>obtain⟨m,rfl⟩:∃q,m=q+1:=⟨m-1,by omega⟩;exact MM m
 |some u=>exact h u (ZO hj)
theorem ME{n:Int}{t:Ty}{ps:List Ty}(m:Nat)(hm:4<=m)(h1:1<=k)(h9:k<=9)(a:ps.length=Yu k)(g:Ym 4 t=L)(z:∀u,u∈takes->Ym 4 u=L)(d:∀u,u∈ps->Ym m u=L)
  (h:YK k n t ps takes=F (i,us)):us.length=ps.length/\Ym (m+1) i=L/\∀u,u∈us->Ym (m+1) u=L:=by
 have j:k=1\/k=2\/k=3\/k=4\/k=5\/k=6\/k=7\/k=8\/k=9:=by omega
 have e:∀u,Ym m u=L->Ym (m+1) u=L:=fun u=>YG m (m+1) u (by omega);have c:∀u,Ym 4 u=L->Ym (m+1) u=L:=fun u=>YG 4 (m+1) u (by omega);rcases j with rfl|rfl|rfl|rfl|rfl|rfl|rfl|rfl|rfl
 .simp[YK] at h;obtain⟨rfl,rfl⟩:=h;refine⟨by rw[a];rfl,c _ ?_,fun u hu=>by cases hu⟩;have:=Lq z (by omega) n.toNat;simpa[Zq] using this
 .simp[YK] at h;obtain⟨rfl,rfl⟩:=h;exact⟨by rw[a];rfl,ML _,fun u hu=>by cases hu⟩
 .simp[YK] at h;obtain⟨rfl,rfl⟩:=h;exact⟨by rw[a];rfl,Ml _,fun u hu=>by cases hu⟩
 .simp[YK] at h;obtain⟨rfl,rfl⟩:=h;exact⟨by rw[a];rfl,ML _,fun u hu=>by simp at hu;subst hu;exact ML _⟩
 .simp[YK] at h;obtain⟨rfl,rfl⟩:=h;exact⟨by rw[a];rfl,Ml _,fun u hu=>by simp at hu;subst hu;exact ML _⟩
 .have h':Ah ⟨2,[]⟩ (ps.getD 1 ⟨0,[]⟩) (ps.getD 2 ⟨0,[]⟩)=F (i,us):=by simpa[YK] using h
  have b:=Lq d (by omega) 1;have w:=Lq d (by omega) 2;have l:=(JK m _ _ b w).1;unfold Ah at h';split at h'
  .cases h'
   refine⟨by rw[a];rfl,e _ l,fun u hu=>?_⟩;simp only[K,ZG,or_false] at hu;rcases hu with rfl|rfl|rfl
   .exact Ml _
   .exact e _ l
   .exact e _ l
  .cases h'
 .have h':i=⟨3,[t,ps.getD 0 ⟨0,[]⟩]⟩/\us=ps:=by
   have:F (Ty.mk 3 [t,ps.getD 0 ⟨0,[]⟩],ps)=F (i,us):=by simpa[YK] using h
   cases this;exact⟨rfl,rfl⟩
  obtain⟨rfl,rfl⟩:=h';have b:=Lq d (by omega) 0;refine⟨rfl,?_,fun u hu=>e _ (d u hu)⟩;rw[Ym,b,YG 4 m t (by omega) g];rfl
 .have h':Uk (ps.getD 0 ⟨0,[]⟩)=F (i,us):=by simpa[YK] using h
  have b:=Lq d (by omega) 0;generalize ps.getD 0 ⟨0,[]⟩=q at h' b;obtain⟨m,rfl⟩:∃r,m=r+1:=⟨m-1,by omega⟩
  rcases Yz b with⟨k,rfl,j⟩|⟨x,y,rfl,p,o⟩
  .rcases j with rfl|rfl|rfl
   .simp[Uk] at h';obtain⟨rfl,rfl⟩:=h';refine⟨by rw[a];rfl,MM _,fun u hu=>?_⟩;simp only[K,ZG,or_false] at hu;rcases hu with rfl|rfl
    .simp[Ym]
    .exact MM _
   .simp[Uk] at h'
   .simp[Uk] at h'
  .simp[Uk] at h';obtain⟨rfl,rfl⟩:=h';refine⟨by rw[a];rfl,YG m _ _ (by omega) o,fun u hu=>?_⟩;simp only[K,ZG,or_false] at hu;rcases hu with rfl|rfl
   .exact e _ b
   .exact YG m _ _ (by omega) p
 .have h':i=t/\us=[t]:=by
   have:F (t,[t])=F (i,us):=by simpa[YK] using h
   cases this;exact⟨rfl,rfl⟩
  obtain⟨rfl,rfl⟩:=h';exact⟨by rw[a];rfl,c _ g,fun u hu=>by simp at hu;subst hu;exact c _ g⟩
theorem JE:∀(l:List Tm)(x:Tm),x∈l->x.sz<=(l.map Tm.sz).sum
 |[],_,h=>by cases h
 |y::r,x,h=>by
  rcases K.1 h with rfl|h
  .simp
  .have:=JE r x h;simp;omega
theorem Tm.mi(x:Tm):1<=x.sz:=by cases x;rw[Tm.lm];omega
theorem Kl:∀(x:Tm)(takes:List Ty)(c:Nat)(y:Tm)(i:Ty),J8 x takes.length->(∀u,u∈takes->Ym 4 u=L)->Xt x takes c=F (y,i)->Ym (x.sz+4) i=L:=by
 intro x;induction x using Tm.ind with
 |h k n t f l ih=>
  intro takes c y i e o h;obtain⟨h0,h1⟩:=Kf.1 e;obtain⟨q,k9,w,_,d,_,_⟩:=JF h0;obtain⟨ps,us,m,e2,_,_⟩:=Ng h;have a:=Jk _ _ _ _ m;have r:∀u,u∈ps.map (fun p=>p.2.2)->Ym ((l.map Tm.sz).sum+4) u=L:=by
   intro u hu;obtain⟨j,hj,rfl⟩:=Zx hu;have b:j<ps.length:=by simpa using hj
   have:=MF (Q:=fun x _ _ i=>Ym (x.sz+4) i=L) l _ ps m (fun x g c y i z=>ih x g _ c y i (by rw[Xl];exact h1 x g) (Uw d o) z) j b (by omega);have hs:=JE l l[j] (Zu _);simpa using YG _ ((l.map Tm.sz).sum+4) _ (by omega) this
  have:=ME ((l.map Tm.sz).sum+4) (by omega) q k9 (by simpa using a.trans w) d (Uw d o) r e2;rw[Tm.lm];exact YG _ _ _ (by omega) this.2.1
structure CS(R c:Nat)(w:Zc):Prop where
 c:w.cell? ⟨R,0,A⟩=F (D E (c:Int))
 f:w.frozen? ⟨R,0,A⟩=Za
theorem CS.lt(h:CS R c w):R<w.heap.size:=Zk _ _ h.c
theorem CS.below(h:CS R c w)(hb:ZB w.heap.size w w'):CS R c w':=⟨M hb h.c,(hb.frozen (p:=⟨R,0,A⟩) h.lt).trans h.f⟩
def K6(Q:Nat->Prop)(R:Nat)(x:TT)(c:Nat)(takes:List Ty)(w:Zc)(e:Ending)(w':Zc):Prop:=
 Yi R A w w'/\((Xt x.tm takes c=A/\e=Z (Zm #[Zh #[D E 0,D E 0,D E 0,D E 0,C A 0 0,D E 0,C A 0 0,C A 0 0,D E 0,C A 0 0],.bool Za]))\/
  ∃r:Rd,Xt x.tm takes c=F (r.y.tm,r.i.ty)/\e=Z (Zm #[Zh #[D E r.n,D E r.y.k,D E r.y.n,D E r.y.t.k,C r.y.t.a r.y.t.l.length r.y.t.c,D E r.y.f.k,C r.y.f.a r.y.f.l.length r.y.f.c,C r.y.a r.y.l.length r.y.c,D E r.i.k,C r.i.a r.i.l.length r.i.c],.bool L])/\ r.n=(c:Int)/\r.y.In w'/\r.i.In w'/\r.y.Bl Q/\r.i.Bl Q/\CS R (c+x.sz) w')
structure Aw(Q:Nat->Prop)(R:Nat)(x:TT)(c:Nat)(T:Tr)(w:Zc):Prop where
 ok:J8 x.tm T.l.length
 tk:∀t,t∈T.l->YB 4 t=L
 rm:c+x.sz<=900/\T.l.length+x.sz<=900
 xi:x.In w
 ti:T.In w
 cs:CS R c w
 xb:x.Bl Q
 tb:T.Bl Q
 nw:∀b,w.heap.size<=b->Q b
 ne:∀b,Q b->b≠R
def Qv(r:Rd):Nat×Tm×Ty:=(r.n.toNat,r.y.tm,r.i.ty)
theorem LK(takes:List Ty):∀(l m:List Tm)(c:Nat),Xc (l++m) takes c=(Xc l takes c).bind fun ps=>(Xc m takes (c+(l.map Tm.sz).sum)).bind fun qs=>F (ps++qs)
 |[],m,c=>by simp only[List.nil_append,Xc,Zl,ZQ,ZR,Nat.add_zero];cases Xc m takes c<;>rfl
 |x::r,m,c=>by
  simp only[List.cons_append,Xc,LK takes r m,Zg,Zi,Nat.add_assoc];cases Xt x takes c with
  |none=>rfl
  |some p=>
   simp only[Zl];cases Xc r takes (c+x.sz) with
   |none=>rfl
   |some q=>simp only[Zl];cases Xc m takes (c+(x.sz+(r.map Tm.sz).sum))<;>rfl
theorem VY{ps:List (Nat×Tm×Ty)}{x y:Tm}(h:Xc l takes c=F ps)(a:Xt x takes (c+(l.map Tm.sz).sum)=F (y,i)):Xc (l++[x]) takes c=F (ps++[(c+(l.map Tm.sz).sum,y,i)]):=by rw[LK,h];simp[Xc,a]
theorem VX{takes:List Ty}{l:List Tm}{c:Nat}{x:Tm}{m:List Tm}(hx:Xt x takes (c+(l.map Tm.sz).sum)=A):Xc (l++x::m) takes c=A:=by
 rw[LK];cases Xc l takes c with
 |none=>rfl
 |some ps=>simp[Xc,hx]
def LU(r:Rd):List Zs:=[D E r.n,D E r.y.k,D E r.y.n,D E r.y.t.k,C r.y.t.a r.y.t.l.length r.y.t.c,D E r.y.f.k,C r.y.f.a r.y.f.l.length r.y.f.c,C r.y.a r.y.l.length r.y.c,D E r.i.k,C r.i.a r.i.l.length r.i.c]
def Ud(rs:List Rd):List Zs:=rs.flatMap LU
theorem Qm(a b:List Rd):Ud (a++b)=Ud a++Ud b:=by simp[Ud]
theorem T8(r:Rd):Ud [r]=LU r:=by simp[Ud]
theorem Ql:∀(l:List Rd)(j:Nat)(h:j<l.length)(i:Nat),i<10->(Ud l)[j*10+i]?=(LU l[j])[i]?
 |[],j,h,_,_=>by simp at h
 |x::r,0,_,i,hi=>by
  have:Ud (x::r)=LU x++Ud r:=by simp[Ud]
  rw[this,List.getElem?_append_left (by simp[LU];omega)];simp
 |x::r,j+1,h,i,hi=>by
  have a:=Ql r j (by simpa using h) i hi;have e:Ud (x::r)=LU x++Ud r:=by simp[Ud]
  rw[e,List.getElem?_append_right (by simp[LU];omega)];have:(j+1)*10+i-(LU x).length=j*10+i:=by simp[LU];omega
  rw[this];simpa using a
structure Mx(Q:Nat->Prop)(base:Nat)(v:Zs)(rs:List Rd)(w:Zc):Prop where
 own:w.ownsRow base 64 10 v rs.length (Ud rs)
 ins:∀r,r∈rs->r.y.In w/\r.i.In w/\r.y.Bl (fun b=>Q b/\F b≠v.ownBlock)/\r.i.Bl (fun b=>Q b/\F b≠v.ownBlock)
theorem Mx.nil(Q:Nat->Prop)(base:Nat)(w:Zc):Mx Q base (C A 0 0) [] w:=⟨ZS _ _ _ _,fun c h=>by cases h⟩
theorem Mx.kept{v:Zs}(h:Mx Q base v rs w)(d:Yi R A w w')(j:R<base)(e:∀b,Q b->b≠R):Mx Q base v rs w':=by
 refine⟨⟨h.own.1,?_⟩,fun c i=>?_⟩
 .rcases h.own.2 with hn|⟨g,cap,cur,hv,a,hg,rest⟩
  .exact .inl hn
  .exact .inr ⟨g,cap,cur,hv,a,(d.block g (Zw.1 hg).1 (by omega) (by simp)).trans hg,rest⟩
 .obtain⟨h1,h2,h3,h4⟩:=h.ins c i;exact⟨h1.lc d (h3.mono fun b a=>e b a.1),h2.lc d (h4.mono fun b a=>e b a.1),h3,h4⟩
theorem Mx.below{v:Zs}(h:Mx Q base v rs w)(d:ZB w.heap.size w w'):Mx Q base v rs w':=by
 refine⟨⟨h.own.1,?_⟩,fun c e=>⟨(h.ins c e).1.below d,(h.ins c e).2.1.below d,(h.ins c e).2.2⟩⟩;rcases h.own.2 with k|⟨g,cap,a,j,b,i,rest⟩
 .exact .inl k
 .exact .inr ⟨g,cap,a,j,b,(d.block g (Zw.1 i).1).trans i,rest⟩
theorem Mx.lt{v:Zs}(h:Mx Q base v rs w)(k:Nat)(hk:v.ownBlock=F k):base<=k/\k<w.heap.size:=h.own.lt k hk
theorem Mx.step{v:Zs}{w2 w3:Zc}{r:Rd}{gg cap1:Nat}{X:Obj}(h:Mx Q base v rs w2)(yi:r.y.In w2)(ii:r.i.In w2)(z:r.y.Bl (fun b=>Q b/\F b≠v.ownBlock))(ib:r.i.Bl (fun b=>Q b/\F b≠v.ownBlock))
  (m:w3.ownsRow base 64 10 (C (F ⟨gg,0,A⟩) (rs.length+1) cap1) (rs.length+1) (Ud rs++Ud [r])) (l:(w2.alloc X).grownBy w3 v.ownBlock) (q:v.ownBlock=F gg\/gg=w2.heap.size+1) :
  Mx Q base (C (F ⟨gg,0,A⟩) (rs.length+1) cap1) (rs++[r]) w3/\∀k,k<w2.heap.size->F k≠v.ownBlock->w3.heap[k]?=w2.heap[k]?:=by
 have j:∀k,k<w2.heap.size->F k≠v.ownBlock->w3.heap[k]?=w2.heap[k]?:=fun k y x=>by rw[l.block k (by simp;omega) x];exact((Zb _ w2).alloc (S _) X).block k y
 refine⟨⟨by rw[Qm,ZE,ZM];exact m,fun d hd=>?_⟩,j⟩;have c:d.y.In w2/\d.i.In w2/\d.y.Bl (fun b=>Q b/\F b≠v.ownBlock)/\d.i.Bl (fun b=>Q b/\F b≠v.ownBlock):=by
  rcases ZJ.1 hd with hd|hd
  .exact h.ins d hd
  .rcases ZF.1 hd with rfl;exact⟨yi,ii,z,ib⟩
 have o:∀b,b<w2.heap.size/\(Q b/\F b≠v.ownBlock)->Q b/\F b≠(Value.slice (F ⟨gg,0,A⟩) (rs.length+1) cap1).ownBlock:=by
  intro b p;refine⟨p.2.1,?_⟩;show F b≠F gg
  rcases q with e|e
  .rw[<-e];exact p.2.2
  .simp only[ne_eq,ZT];omega
 have g:∀b,b<w2.heap.size/\(Q b/\F b≠v.ownBlock)->∀i,w3.cell? ⟨b,i,A⟩=w2.cell? ⟨b,i,A⟩:=fun b p i=>Zt (a:=⟨b,i,A⟩) (j b p.1 p.2.2)
 have w:=c.1.bl.and c.2.2.1;have u:=c.2.1.bl.and c.2.2.2;exact⟨c.1.congr (P:=fun b=>b<w2.heap.size/\(Q b/\F b≠v.ownBlock)) g w,c.2.1.congr (P:=fun b=>b<w2.heap.size/\(Q b/\F b≠v.ownBlock)) g u,w.mono o,u.mono o⟩
theorem Mx.list{v:Zs}(h:Mx Q base v rs w):∃a c,v=C a rs.length c/\RL w a rs:=by
 rcases h.own.2 with⟨rfl,k⟩|⟨g,cap,e,rfl,l,_⟩
 .have:rs=[]:=ZH.1 k;subst this;exact⟨A,0,rfl,fun j d=>absurd d (by simp)⟩
 .refine⟨_,_,rfl,fun j d=>⟨g,0,rfl,?_,(h.ins _ (Zu d)).1,(h.ins _ (Zu d)).2.1⟩⟩;have b:∀i,i<10->w.cell? ⟨g,0+j*10+i,A⟩=_:=fun i hi=>by rw[Zo,h.own.cellAt (j*10+i) (by omega),Ql rs j d i hi]
  exact⟨b 0 (by omega),⟨b 1 (by omega),b 2 (by omega),b 3 (by omega),b 4 (by omega),b 5 (by omega),b 6 (by omega),b 7 (by omega)⟩,b 8 (by omega),b 9 (by omega)⟩
def Sh(Q:Nat->Prop)(R:Nat)(l:List TT)(c:Nat)(takes:List Ty)(w:Zc)(e:Ending)(w':Zc):Prop:=
 Yi R A w w'/\((Xc (l.map TT.tm) takes c=A/\e=Z (Zm #[C A 0 0,.bool Za]))\/
  ∃(rs:List Rd)(a:Option Addr)(cap:Nat),Xc (l.map TT.tm) takes c=F (rs.map Qv)/\e=Z (Zm #[C a rs.length cap,.bool L])/\(∀r,r∈rs->0<=r.n)/\RL w' a rs/\(∀r,r∈rs->r.y.Bl Q/\r.i.Bl Q)/\CS R (c+(l.map TT.sz).sum) w')
theorem Tryz.info64:(Zd.info? 64).map (fun i=>(i.zero,i.size,i.bytes))=F (F (Zh #[D E 0,D E 0,D E 0,D E 0,C A 0 0,D E 0,C A 0 0,C A 0 0,D E 0,C A 0 0]),10,144):=by kernel_rfl
structure Ee(Q:Nat->Prop)(R:Nat)(x:TT)(c:Nat)(T:Tr)(w:Zc)(j:Nat)(v:Zs)(rs:List Rd)(wr:Zc):Prop where
 kp:Yi R A w wr
 row:Mx Q w.heap.size v rs wr
 len:rs.length=j
 nn:∀r,r∈rs->0<=r.n
 rd:Xc ((x.l.take j).map TT.tm) (T.l.map Tr.ty) c=F (rs.map Qv)
 cs:CS R (c+((x.l.take j).map TT.sz).sum) wr
theorem Pt(l:List TT):(l.map TT.tm).map Tm.sz=l.map TT.sz:=by rw[ZI];exact ZP fun x _=>x.me.symm
theorem QW{α:Type}(l:List α)(j:Nat)(h:j<l.length):l.take (j+1)=l.take j++[l[j]]:=by rw[List.take_add_one,Zz h];rfl
theorem S6(Q:Nat->Prop)(R:Nat)(x:TT)(c:Nat)(T:Tr)(w:Zc)
  (HRD:∀y,y∈x.l->∀(Q':Nat->Prop)(c':Nat)(W:Zc),Aw Q' R y c' T W->Zp Zd 41 #[Zy (F ⟨R,0,A⟩),Zh #[D E y.k,D E y.n,D E y.t.k,C y.t.a y.t.l.length y.t.c,D E y.f.k,C y.f.a y.f.l.length y.f.c,C y.a y.l.length y.c],C T.a T.l.length T.c] W (K6 Q' R y c' (T.l.map Tr.ty) W))
  (hok:∀y,y∈x.l->J8 y.tm T.l.length) (htk:∀t,t∈T.l->YB 4 t=L) (hrm:c+(x.l.map TT.sz).sum<=900/\T.l.length+(x.l.map TT.sz).sum<=900) (xi:x.In w) (ti:T.In w) (hcs:CS R c w) (xb:x.Bl Q) (tb:T.Bl Q) (nw:∀b,w.heap.size<=b->Q b) (ne:∀b,Q b->b≠R) :
  Zp Zd 66 #[Zy (F ⟨R,0,A⟩),C x.a x.l.length x.c,C T.a T.l.length T.c] w (Sh Q R x.l c (T.l.map Tr.ty) w):=by
 obtain⟨i0,b8,b9,bb,b5⟩:=info_parts Tryz.info64;have bn:x.l.length<=1000:=by
  have:x.l.length<=(x.l.map TT.sz).sum:=by
   have:∀l:List TT,l.length<=(l.map TT.sz).sum:=fun l=>by
    induction l with
    |nil=>simp
    |cons u r ih=>have:=u.mi;simp only[List.length_cons,Zg,Zi];omega
   exact this _
  omega
 have b2:=hcs.lt;have HP:=FZ hok htk hrm xb tb nw ne;have HX:=Uy xi ti;have ap:=Yy HRD;have an:Zj (Ee Q R x c T w 0 (C A 0 0) [] w):=⟨Yi.refl,Mx.nil _ _ _,rfl,fun r h=>(by cases h),by simp[Xc],by simpa using hcs⟩
 clear hok htk hrm xi ti hcs xb tb nw ne HRD;go_enter func66,ntmps66;go_wp2_with fail;go_loopg [8,15] x.l.length (fun g v i wr=>∃(j:Nat)(u:Zs)(rs:List Rd),g+j=x.l.length/\i=D E (j:Int)/\u=v/\Zj (Ee Q R x c T w j u rs wr))
 case atStart=>exact⟨0,_,[],by omega,rfl,rfl,an⟩
 case round=>
  obtain⟨j,v,rs,hj,rfl,hv,z⟩:=hrel;subst hv;clear an;by_cases hlt:j<x.l.length
  .obtain⟨b,o,ea,h7,hyi0⟩:=HX.out.1.part j hlt;have hk:=z.out.kp;have k:b≠R:=HP.out.2.2.2.2.2.2 b (HP.out.2.2.2.1.own (fun e=>by rw[e] at hlt;simp at hlt) _ ea);have ay:=h7.lc hk k;have a6:=Zu hlt;obtain⟨y,a2⟩:∃y,x.l[j]=y:=⟨_,rfl⟩
   have a1:=HP.out.2.2.2.1.mem a6;have a5:y.In wr:=by rw[<-a2];exact hyi0.lc hk (a1.mono HP.out.2.2.2.2.2.2)
   have az:=HX.out.2.lc hk (HP.out.2.2.2.2.1.mono HP.out.2.2.2.2.2.2);have ax:y.Bl (·<w.heap.size):=by rw[<-a2];exact hyi0.bl
   have al:=HX.out.2.bl;rw[a2] at ay a6 a1;obtain⟨d0,d1,d2,d3,d4,d5,d6⟩:=ay;have i1:(j:Int)<(x.l.length:Int):=by omega
   have bm:(0:Int)<=(j:Int):=by omega
   have b7:=Yy ea;rw[ea];obtain⟨OX,bf⟩:∃O,O=Obj.cells y.v 27:=⟨_,rfl⟩
   have a4:bL wr (wr.alloc OX):=(Zb _ _).alloc (S _) _;have ao:((x.l.take (j+1)).map TT.sz).sum=((x.l.take j).map TT.sz).sum+y.sz:=by rw[QW _ _ hlt,a2];simp
   have au:=L6 TT.sz x.l (j+1);have b1:=hk.size;have p:=z.out.row;have HC:Zj (Zp Zd 41 #[Zy (F ⟨R,0,A⟩),Zh y.v,T.s] (wr.alloc OX) (K6 (fun b=>Q b/\F b≠v.ownBlock) R y (c+((x.l.take j).map TT.sz).sum) (T.l.map Tr.ty) (wr.alloc OX))):=by
    refine ap.out y a6 _ _ _ ⟨HP.out.1 y a6,HP.out.2.1,⟨by have:=HP.out.2.2.1;omega,by have:=HP.out.2.2.1;omega⟩,a5.below a4,az.below a4,z.out.cs.below a4,?_,?_,?_,fun b hb=>HP.out.2.2.2.2.2.2 b hb.1⟩
    .exact(a1.and ax).mono fun b hb=>⟨hb.1,fun e=>by have:=(p.lt b e.symm).1;omega⟩
    .exact(HP.out.2.2.2.2.1.and al).mono fun b hb=>⟨hb.1,fun e=>by have:=(p.lt b e.symm).1;omega⟩
    .intro b hb;simp only[ZC] at hb;exact⟨HP.out.2.2.2.2.2.1 b (by omega),fun e=>by have:=(p.lt b e.symm).2;omega⟩
   have m:=Aa (hk.trans (Yi.la a4)) (p.below a4) z.out.len z.out.nn z.out.rd;have HY:=Uy a2 ao;have bk:rs.length<=1000:=by have:=z.out.len;omega
   clear h7 hyi0 hk k a6 a1 a5 az ax al a4 ao au b1 p z ea a2;subst bf;go_wp2_with fail;clear d0 d1 d2 d3 d4 d5 d6;refine HC.out.mono ?_;rintro e w2 ⟨a3,⟨ar,rfl⟩|⟨r,ae,rfl,hn,a5,b0,a1,am,hcs⟩⟩
   .have HN:Zj (Sh Q R x.l c (T.l.map Tr.ty) w (Z (Zm #[C A 0 0,.bool Za])) (w2.alloc (Zf #[D E 0,D E 0,D E 0,D E 0,C A 0 0,D E 0,C A 0 0,C A 0 0,D E 0,C A 0 0] 64))):=by
     refine⟨(m.out.1.trans a3).trans (Yi.la ((Zb _ _).alloc (S _) _)),.inl ⟨?_,rfl⟩⟩;have ad:x.l.map TT.tm=(x.l.take j).map TT.tm++y.tm::(x.l.drop (j+1)).map TT.tm:=by
      conv=>lhs;rw[<-List.take_append_drop j x.l]
      rw[ZK,List.drop_eq_getElem_cons hlt,Zg,HY.out.1]
     rw[ad];refine VX ?_;rw[Pt];exact ar
    clear ar a3 HC m;go_wp2_with fail;exact Zr (v:=Zm #[C A 0 0,.bool Za]) (by simp[results,results66,go_sem]) rfl HN.out
   .obtain⟨OR,aa⟩:∃O,O=Obj.cells #[D E r.n,D E r.y.k,D E r.y.n,D E r.y.t.k,r.y.t.s,D E r.y.f.k,r.y.f.s,r.y.s,D E r.i.k,r.i.s] 64:=⟨_,rfl⟩
    have k:bL w2 (w2.alloc OR):=(Zb _ _).alloc (S _) _;have a0:=(m.out.2.1.kept a3 b2 HP.out.2.2.2.2.2.2).below k;obtain⟨N,hN⟩:∃N,rs.length=N:=⟨_,rfl⟩
    obtain⟨xs,aj⟩:∃xs,Ud rs=xs:=⟨_,rfl⟩
    have uo:(w2.alloc OR).ownsRow w.heap.size 64 10 v N xs:=by rw[<-hN,<-aj];exact a0.own
    have a7:=heap_alloc_new (w2.alloc OR) OR;simp only[ZC] at a7;have HW:=Aa ((m.out.1.trans a3).trans (Yi.la k)) a0 (a5.below k) (b0.below k) (hcs.below k);have HB:=O8 a1 am hn ae;have ak:=Uy hN aj;have bo:N<=1000:=by omega
    have bj:w.heap.size<=w2.heap.size:=by have h1:=m.out.1.size;have h2:=a3.size;omega
    clear ae hn a5 b0 a1 am hcs a3 HC k a0 hN aj;subst aa;go_wp2_with (at_builtin;refine wpList_append_lies _ rfl _ _ _ rfl w.heap.size 64 i0 _ 10 144 underlying115 b8 b9 bb b5 rfl (by omega) v N xs rfl (uo.alloc _) ⟨w2.heap.size+1,0,A⟩ 1 1 [D E r.n,D E r.y.k,D E r.y.n,D E r.y.t.k,r.y.t.s,D E r.y.f.k,r.y.f.s,r.y.s,D E r.i.k,r.i.s] rfl rfl (World.news_of_block (cs:=#[D E r.n,D E r.y.k,D E r.y.n,D E r.y.t.k,r.y.t.s,D E r.y.f.k,r.y.f.s,r.y.s,D E r.i.k,r.i.s]) (t:=64) (fr:=(0,0)) a7) (by simp[Value.oneCell']) (by omega) (by unfold maxLen;omega) (by omega) (by simp;omega) (w2.heap.size+1+1) (by simp) ?_;intro gg cap1 w3 a8 d aw aq)
    have ai:∀q,v.ownBlock=F q->w.heap.size<=q:=fun q hq=>(uo.lt q hq).1;obtain⟨OR,aa⟩:∃O,O=Obj.cells #[D E r.n,D E r.y.k,D E r.y.n,D E r.y.t.k,r.y.t.s,D E r.y.f.k,r.y.f.s,r.y.s,D E r.i.k,r.i.s] 64:=⟨_,rfl⟩
    rw[<-aa] at d HW;have HN:Zj (Ee Q R x c T w (j+1) (C (F ⟨gg,0,A⟩) (N+1) cap1) (rs++[r]) w3):=by
     obtain⟨ab,b3,ba,b4,ah⟩:=HW.out;obtain⟨eN,be⟩:=ak.out;have ac:=b3.step (gg:=gg) (cap1:=cap1) (w3:=w3) (X:=OR) ba b4 HB.out.1 HB.out.2.1 (by rw[eN,be,T8];exact a8) d (by simpa using aw);have bg:=ah.lt;have av:F R≠v.ownBlock:=fun e=>by have:=ai R e.symm;omega
     have hs:=d.size;simp only[ZC] at hs bg;have b6:Yi R A w w3:=by refine⟨(d.os.trans rfl).trans ab.os,(d.tape.trans rfl).trans ab.tape,(d.output.trans rfl).trans ab.output,by omega,fun q hq bd bi=>?_⟩;exact(ac.2 q (by simp;omega) (fun e=>by have:=ai q e.symm;omega)).trans (ab.block q hq bd bi)
     have bh:CS R (c+((x.l.take j).map TT.sz).sum+y.sz) w3:=⟨(Zt (a:=⟨R,0,A⟩) (ac.2 R (by simp;omega) av)).trans ah.c,(ZA (a:=⟨R,0,A⟩) (ac.2 R (by simp;omega) av)).trans ah.f⟩
     have af:=ac.1;rw[eN] at af;refine⟨b6,af,by rw[ZE,m.out.2.2.1];rfl,fun q hq=>?_,?_,?_⟩
     .rcases ZJ.1 hq with hq|hq
      .exact m.out.2.2.2.1 q hq
      .rcases ZF.1 hq with rfl;rw[HB.out.2.2.1];omega
     .rw[QW _ _ hlt,HY.out.1,ZK,ZK];have:=VY m.out.2.2.2.2 (by rw[Pt];exact HB.out.2.2.2);rw[Pt] at this;have e:Qv r=(c+((x.l.take j).map TT.sz).sum,r.y.tm,r.i.ty):=by unfold Qv;rw[HB.out.2.2.1];rfl
      simpa[e] using this
     .rw[HY.out.2,<-Nat.add_assoc];exact bh
    clear a8 d aw aq ai HW uo a7 aa HB m ak;go_wp2_with fail;rw[<-b7.out];go_roundg (x.l.length-(j+1))
    case measure=>omega
    case rel=>exact⟨j+1,_,rs++[r],by omega,by go_num,rfl,HN⟩
  .have hje:j=x.l.length:=by omega
   have HN:Zj (∃a cap,v=C a rs.length cap/\Sh Q R x.l c (T.l.map Tr.ty) w (Z (Zm #[v,.bool L])) wr):=by
    obtain⟨a,cap,hv,bc⟩:=z.out.row.list;refine⟨a,cap,hv,z.out.kp,.inr ⟨rs,a,cap,?_,by rw[hv],z.out.nn,bc,fun r hr=>⟨(z.out.row.ins r hr).2.2.1.mono fun b hb=>hb.1,(z.out.row.ins r hr).2.2.2.mono fun b hb=>hb.1⟩,?_⟩⟩
    .have:=z.out.rd;rwa [ZL (by omega)] at this
    .have:=z.out.cs;rwa [ZL (by omega)] at this
   obtain⟨a,cap,rfl,a9⟩:=HN.out;have HF:=Yy a9;clear z HN a9;go_wp2_with fail;exact Zr (v:=Zm #[C a rs.length cap,.bool L]) (by simp[results,results66,go_sem]) rfl HF.out
structure RF(H:Nat)(x:TT)(W:Zc):Prop where
 at7:Uz W H 0 x
 z0:W.cell? ⟨H+1,0,A⟩=F (D E 0)
 z1:W.cell? ⟨H+1,1,A⟩=F (D E 0)
 z2:W.cell? ⟨H+1,2,A⟩=F (D E 0)
 z3:W.cell? ⟨H+1,3,A⟩=F (D E 0)
 z4:W.cell? ⟨H+1,4,A⟩=F (C A 0 0)
 z5:W.cell? ⟨H+1,5,A⟩=F (D E 0)
 z6:W.cell? ⟨H+1,6,A⟩=F (C A 0 0)
 z7:W.cell? ⟨H+1,7,A⟩=F (C A 0 0)
 z8:W.cell? ⟨H+1,8,A⟩=F (D E 0)
 z9:W.cell? ⟨H+1,9,A⟩=F (C A 0 0)
 fz:∀i,W.frozen? ⟨H+1,i,A⟩=Za
theorem RF.lt(h:RF H x W):H+1<W.heap.size:=Zk _ _ h.z0
theorem RF.kept(h:RF H x W)(hk:Yi R A W W')(h1:H≠R)(h2:H+1≠R):RF H x W':=⟨h.at7.lc hk h1,hk.cell h.z0 h2,hk.cell h.z1 h2,hk.cell h.z2 h2,hk.cell h.z3 h2,hk.cell h.z4 h2,hk.cell h.z5 h2,hk.cell h.z6 h2,hk.cell h.z7 h2,hk.cell h.z8 h2,hk.cell h.z9 h2,fun i=>hk.fz (h.fz i) h.lt h2⟩
theorem RF.below(h:RF H x W)(hb:ZB W.heap.size W W'):RF H x W':=⟨h.at7.below hb,M hb h.z0,M hb h.z1,M hb h.z2,M hb h.z3,M hb h.z4,M hb h.z5,M hb h.z6,M hb h.z7,M hb h.z8,M hb h.z9,fun i=>(hb.frozen (p:=⟨H+1,i,A⟩) h.lt).trans (h.fz i)⟩
theorem RF.start(x:TT)(w:Zc):RF w.heap.size x ((w.alloc (Zf #[D E x.k,D E x.n,D E x.t.k,C x.t.a x.t.l.length x.t.c,D E x.f.k,C x.f.a x.f.l.length x.f.c,C x.a x.l.length x.c] 27)).alloc (Zf #[D E 0,D E 0,D E 0,D E 0,C A 0 0,D E 0,C A 0 0,C A 0 0,D E 0,C A 0 0] 64)):=by
 refine⟨⟨?_,?_,?_,?_,?_,?_,?_⟩,?_,?_,?_,?_,?_,?_,?_,?_,?_,?_,fun i=>?_⟩
 all_goals simp[go_sem]
def Jc(w:Zc)(J:Nat)(v0 v1 v2 v3 v4 v5 v6 v7 v8 v9:Zs):Zc:=(((((((((w.setCell ⟨J,0,A⟩ v0).setCell ⟨J,1,A⟩ v1).setCell ⟨J,2,A⟩ v2).setCell ⟨J,3,A⟩ v3).setCell ⟨J,4,A⟩ v4).setCell ⟨J,5,A⟩ v5).setCell ⟨J,6,A⟩ v6).setCell ⟨J,7,A⟩ v7).setCell ⟨J,8,A⟩ v8).setCell ⟨J,9,A⟩ v9
theorem UG{J i:Nat}{u v0 v1 v2 v3 v4 v5 v6 v7 v8 v9:Zs}(hu:w.cell? ⟨J,i,A⟩=F u):(Jc w J v0 v1 v2 v3 v4 v5 v6 v7 v8 v9).cell? ⟨J,i,A⟩=F (if i=9 then v9 else if i=8 then v8 else if i=7 then v7 else if i=6 then v6 else if i=5 then v5 else if i=4 then v4 else if i=3 then v3 else if i=2 then v2 else if i=1 then v1 else if i=0 then v0 else u):=Yp (Yp (Yp (Yp (Yp (Yp (Yp (Yp (Yp (Yp hu)))))))))
theorem LM{J:Nat}{v0 v1 v2 v3 v4 v5 v6 v7 v8 v9:Zs}:Yi J A w (Jc w J v0 v1 v2 v3 v4 v5 v6 v7 v8 v9):=Yj.trans (Yj.trans (Yj.trans (Yj.trans (Yj.trans (Yj.trans (Yj.trans (Yj.trans (Yj.trans Yj))))))))
theorem RF.put(h:RF H x W)(v0 v1 v2 v3 v4 v5 v6 v7 v8 v9:Zs):
  (Jc W (H+1) v0 v1 v2 v3 v4 v5 v6 v7 v8 v9).cell? ⟨H+1,0,A⟩=F v0/\(Jc W (H+1) v0 v1 v2 v3 v4 v5 v6 v7 v8 v9).cell? ⟨H+1,1,A⟩=F v1/\(Jc W (H+1) v0 v1 v2 v3 v4 v5 v6 v7 v8 v9).cell? ⟨H+1,2,A⟩=F v2/\(Jc W (H+1) v0 v1 v2 v3 v4 v5 v6 v7 v8 v9).cell? ⟨H+1,3,A⟩=F v3/\(Jc W (H+1) v0 v1 v2 v3 v4 v5 v6 v7 v8 v9).cell? ⟨H+1,4,A⟩=F v4/\(Jc W (H+1) v0 v1 v2 v3 v4 v5 v6 v7 v8 v9).cell? ⟨H+1,5,A⟩=F v5/\(Jc W (H+1) v0 v1 v2 v3 v4 v5 v6 v7 v8 v9).cell? ⟨H+1,6,A⟩=F v6/\(Jc W (H+1) v0 v1 v2 v3 v4 v5 v6 v7 v8 v9).cell? ⟨H+1,7,A⟩=F v7/\(Jc W (H+1) v0 v1 v2 v3 v4 v5 v6 v7 v8 v9).cell? ⟨H+1,8,A⟩=F v8/\(Jc W (H+1) v0 v1 v2 v3 v4 v5 v6 v7 v8 v9).cell? ⟨H+1,9,A⟩=F v9:=by
 refine⟨?_,?_,?_,?_,?_,?_,?_,?_,?_,?_⟩
 .simpa using UG (v0:=v0) (v1:=v1) (v2:=v2) (v3:=v3) (v4:=v4) (v5:=v5) (v6:=v6) (v7:=v7) (v8:=v8) (v9:=v9) h.z0
 .simpa using UG (v0:=v0) (v1:=v1) (v2:=v2) (v3:=v3) (v4:=v4) (v5:=v5) (v6:=v6) (v7:=v7) (v8:=v8) (v9:=v9) h.z1
 .simpa using UG (v0:=v0) (v1:=v1) (v2:=v2) (v3:=v3) (v4:=v4) (v5:=v5) (v6:=v6) (v7:=v7) (v8:=v8) (v9:=v9) h.z2
 .simpa using UG (v0:=v0) (v1:=v1) (v2:=v2) (v3:=v3) (v4:=v4) (v5:=v5) (v6:=v6) (v7:=v7) (v8:=v8) (v9:=v9) h.z3
 .simpa using UG (v0:=v0) (v1:=v1) (v2:=v2) (v3:=v3) (v4:=v4) (v5:=v5) (v6:=v6) (v7:=v7) (v8:=v8) (v9:=v9) h.z4
 .simpa using UG (v0:=v0) (v1:=v1) (v2:=v2) (v3:=v3) (v4:=v4) (v5:=v5) (v6:=v6) (v7:=v7) (v8:=v8) (v9:=v9) h.z5
 .simpa using UG (v0:=v0) (v1:=v1) (v2:=v2) (v3:=v3) (v4:=v4) (v5:=v5) (v6:=v6) (v7:=v7) (v8:=v8) (v9:=v9) h.z6
 .simpa using UG (v0:=v0) (v1:=v1) (v2:=v2) (v3:=v3) (v4:=v4) (v5:=v5) (v6:=v6) (v7:=v7) (v8:=v8) (v9:=v9) h.z7
 .simpa using UG (v0:=v0) (v1:=v1) (v2:=v2) (v3:=v3) (v4:=v4) (v5:=v5) (v6:=v6) (v7:=v7) (v8:=v8) (v9:=v9) h.z8
 .simpa using UG (v0:=v0) (v1:=v1) (v2:=v2) (v3:=v3) (v4:=v4) (v5:=v5) (v6:=v6) (v7:=v7) (v8:=v8) (v9:=v9) h.z9
def Vu(V:Zc)(b:Nat):Prop:=V.cell? ⟨b,0,A⟩=F (D E 0)/\V.cell? ⟨b,1,A⟩=F (C A 0 0)/\V.cell? ⟨b,2,A⟩=F (C A 0 0)/\V.frozen? ⟨b,0,A⟩=Za/\V.frozen? ⟨b,1,A⟩=Za/\V.frozen? ⟨b,2,A⟩=Za
theorem Vu.new(U:Zc):Vu (U.alloc (Zf #[D E 0,C A 0 0,C A 0 0] 119)) U.heap.size:=by refine⟨?_,?_,?_,?_,?_,?_⟩<;>simp[go_sem]
theorem Vu.later(a:ZB V.heap.size V w)(h:Vu V b):Vu w b:=by obtain⟨d,g,j,k,i,e⟩:=h;have c:b<V.heap.size:=Zk _ _ d;exact⟨M a d,M a g,M a j,(a.frozen (p:=⟨b,0,A⟩) c).trans k,(a.frozen (p:=⟨b,1,A⟩) c).trans i,(a.frozen (p:=⟨b,2,A⟩) c).trans e⟩
structure BW(W:Zc)(G:Nat)(I U:Tr):Prop where
 k:W.cell? ⟨G,0,A⟩=F (D E I.k)
 l:W.cell? ⟨G,1,A⟩=F (C I.a I.l.length I.c)
 u:W.cell? ⟨G,2,A⟩=F (C U.a U.l.length U.c)
theorem Vu.put(h:Vu W G)(I U:Tr):BW (((W.setCell ⟨G,0,A⟩ (D E I.k)).setCell ⟨G,1,A⟩ (C I.a I.l.length I.c)).setCell ⟨G,2,A⟩ (C U.a U.l.length U.c)) G I U:=by obtain⟨b,a,c,_⟩:=h;exact⟨by simpa using Yp (j:=2) (v:=U.s) (Yp (j:=1) (v:=I.s) (Yp (j:=0) (v:=D E I.k) b)),by simpa using Yp (j:=2) (v:=U.s) (Yp (j:=1) (v:=I.s) (Yp (j:=0) (v:=D E I.k) a)),by simpa using Yp (j:=2) (v:=U.s) (Yp (j:=1) (v:=I.s) (Yp (j:=0) (v:=D E I.k) c))⟩
theorem BW.new(W:Zc)(I U:Tr):BW (W.alloc (Zf #[D E I.k,C I.a I.l.length I.c,C U.a U.l.length U.c] 119)) W.heap.size I U:=by refine⟨?_,?_,?_⟩<;>simp[go_sem]
theorem BW.below(h:BW W G I U)(hb:ZB W.heap.size W W'):BW W' G I U:=⟨M hb h.k,M hb h.l,M hb h.u⟩
theorem BW.lt(h:BW W G I U):G<W.heap.size:=Zk _ _ h.k
def MY(V:Zc)(b:Nat):Prop:=
 (V.cell? ⟨b,0,A⟩=F (D E 0)/\V.cell? ⟨b,1,A⟩=F (D E 0)/\V.cell? ⟨b,2,A⟩=F (D E 0)/\V.cell? ⟨b,3,A⟩=F (C A 0 0)/\V.cell? ⟨b,4,A⟩=F (D E 0)/\V.cell? ⟨b,5,A⟩=F (C A 0 0)/\V.cell? ⟨b,6,A⟩=F (C A 0 0))/\
  V.frozen? ⟨b,0,A⟩=Za/\V.frozen? ⟨b,1,A⟩=Za/\V.frozen? ⟨b,2,A⟩=Za/\V.frozen? ⟨b,3,A⟩=Za/\V.frozen? ⟨b,4,A⟩=Za/\V.frozen? ⟨b,5,A⟩=Za/\V.frozen? ⟨b,6,A⟩=Za
theorem MY.box(h:MY V b):XC V b (Yr 0 0):=by
 obtain⟨⟨p,m,g,q,j,o,c⟩,u,e,a,k,d,l,r⟩:=h;refine⟨⟨p,m,g,q,j,o,c⟩,fun i hi=>?_⟩;obtain rfl|rfl|rfl|rfl|rfl|rfl|rfl:i=0\/i=1\/i=2\/i=3\/i=4\/i=5\/i=6:=by omega
 .exact u
 .exact e
 .exact a
 .exact k
 .exact d
 .exact l
 .exact r
theorem MY.lt(h:MY V b):b<V.heap.size:=Zk _ _ h.1.1
theorem MY.new(U:Zc):MY (U.alloc (Zf #[D E 0,D E 0,D E 0,C A 0 0,D E 0,C A 0 0,C A 0 0] 27)) U.heap.size:=by refine⟨⟨?_,?_,?_,?_,?_,?_,?_⟩,?_,?_,?_,?_,?_,?_,?_⟩<;>simp[go_sem]
theorem MY.later(a:ZB V.heap.size V w)(h:MY V b):MY w b:=by have c:=h.lt;obtain⟨⟨r,o,j,u,k,q,e⟩,y,i,d,l,g,m,x⟩:=h;exact⟨⟨M a r,M a o,M a j,M a u,M a k,M a q,M a e⟩,(a.frozen (p:=⟨b,0,A⟩) c).trans y,(a.frozen (p:=⟨b,1,A⟩) c).trans i,(a.frozen (p:=⟨b,2,A⟩) c).trans d,(a.frozen (p:=⟨b,3,A⟩) c).trans l,(a.frozen (p:=⟨b,4,A⟩) c).trans g,(a.frozen (p:=⟨b,5,A⟩) c).trans m,(a.frozen (p:=⟨b,6,A⟩) c).trans x⟩
theorem Uz.new(W:Zc)(x:TT):Uz (W.alloc (Zf #[D E x.k,D E x.n,D E x.t.k,C x.t.a x.t.l.length x.t.c,D E x.f.k,C x.f.a x.f.l.length x.f.c,C x.a x.l.length x.c] 27)) W.heap.size 0 x:=by refine⟨?_,?_,?_,?_,?_,?_,?_⟩<;>simp[go_sem]
theorem Vd:∀(rs:List Rd)(us:List Tr)(zs:List TT),zs.length=rs.length->rs.length=us.length->(∀r,r∈rs->0<=r.n)->
  (∀q(h:q<zs.length)(h1:q<rs.length)(h2:q<us.length),zs[q].tm=Jw rs[q].n rs[q].y.tm rs[q].i.ty us[q].ty)->zs.map TT.tm=XZ (rs.map Qv) (us.map Tr.ty)
 |[],[],[],_,_,_,_=>rfl
 |r::rs,u::us,z::zs,h1,h2,hn,h=>by have h0:=h 0 (by simp) (by simp) (by simp);have ih:=Vd rs us zs (by simpa using h1) (by simpa using h2) (fun q hq=>hn q (by simp[hq])) fun q a b d=>h (q+1) (by simpa using a) (by simpa using b) (by simpa using d);have e:=Int.toNat_of_nonneg (hn r (by simp));simp only[List.getElem_cons_zero] at h0;simp[XZ,Qv,e,h0,ih]
 |[],_::_,_,_,h,_,_=>by simp at h
 |_::_,[],_,_,h,_,_=>by simp at h
 |[],[],_::_,h,_,_,_=>by simp at h
 |_::_,_::_,[],h,_,_,_=>by simp at h
theorem N3(a:List Rd):(a.map Qv).map (fun p=>p.2.2)=a.map fun r=>r.i.ty:=by rw[ZI];rfl
theorem VZ(d:J8 x.tm takes.length)(z:∀u,u∈takes->Ym 4 u=L)(a0:x.sz<=900)(h:Xc (x.l.map TT.tm) (Yv x.k x.t.ty takes) (c+1)=F (rs.map Qv)):
  rs.length=x.l.length/\∀r,r∈rs->YB ((x.l.map TT.sz).sum+4) r.i=L:=by
 obtain⟨k,n,t,f,a,cc,l⟩:=x;rw[TT.ma] at d;obtain⟨m,h1⟩:=Kf.1 d;obtain⟨k1,k9,hl,_,o,_,_⟩:=JF m;have b:=Jk _ _ _ _ h;simp only[Zn] at b;refine⟨b,fun r e=>?_⟩;obtain⟨j,w,rfl⟩:=Zx e;have:=MF (Q:=fun x _ _ i=>Ym (x.sz+4) i=L) (l.map TT.tm) _ _ h (fun x q c y i e=>Kl x _ c y i (by rw[Xl];exact h1 x q) (Uw o z) e) j (by simpa using w) (by simp;omega);have p:=JE (l.map TT.tm) ((l.map TT.tm)[j]'(by simp;omega)) (Zu _);rw[Pt] at p;rw[YL];have g:=YG _ ((l.map TT.sz).sum+4) _ (by omega) this;simpa[Qv] using g
theorem YS{n:Nat}(hn:n<=1000){t:Tr}(h:YB n t=L):t.right/\t.hgt<=1000/\t.sm:=⟨Tr.lj n t h,Nat.le_trans (Tr.mz n t h) hn,Tr.nl n t h⟩
theorem S0(h:Xc (x.l.map TT.tm) (Yv x.k x.t.ty takes) (c+1)=A):Xt x.tm takes c=A:=by obtain⟨k,n,t,f,a,b,l⟩:=x;rw[TT.ma,Kv];simp only at h;rw[h];rfl
theorem SY(h:Xc (x.l.map TT.tm) (Yv x.k x.t.ty takes) (c+1)=F (rs.map Qv))(b:YK x.k x.n x.t.ty (rs.map fun r=>r.i.ty) (Yv x.k x.t.ty takes)=A):Xt x.tm takes c=A:=by obtain⟨k,n,t,f,a,d,l⟩:=x;rw[TT.ma,Kv];simp only at h b;rw[h];simp only[Zl,N3,b];rfl
theorem SX(h:Xc (x.l.map TT.tm) (Yv x.k x.t.ty takes) (c+1)=F (rs.map Qv))(b:YK x.k x.n x.t.ty (rs.map fun r=>r.i.ty) (Yv x.k x.t.ty takes)=F (i,us))(d:U6 (rs.map fun r=>r.i.ty) us=Za):Xt x.tm takes c=A:=by obtain⟨k,n,t,f,a,e,l⟩:=x;rw[TT.ma,Kv];simp only at h b;rw[h];simp only[Zl,N3,b,d];rfl
theorem Bf(h:Xc (x.l.map TT.tm) (Yv x.k x.t.ty takes) (c+1)=F (rs.map Qv))(b:YK x.k x.n x.t.ty (rs.map fun r=>r.i.ty) (Yv x.k x.t.ty takes)=F (i,us))(d:U6 (rs.map fun r=>r.i.ty) us=L):Xt x.tm takes c=F (⟨x.k,x.n,x.t.ty,Yk,XZ (rs.map Qv) us⟩,i):=by obtain⟨k,n,t,f,a,e,l⟩:=x;rw[TT.ma,Kv];simp only at h b;rw[h];simp only[Zl,N3,b,d];rfl
structure RA(Q:Nat->Prop)(R c:Nat)(x:TT)(T T':Tr)(w W:Zc):Prop where
 kp:Yi R A w W
 rf:RF w.heap.size x W
 cs:CS R (c+1) W
 xi:x.In W
 ti:T'.In W
 tb:T'.Bl Q
 tl:T'.l.map Tr.ty=Yv x.k x.t.ty (T.l.map Tr.ty)
 tk:∀t,t∈T'.l->YB 4 t=L
def KR(P:Nat->Prop)(rule:Option (Ty×List Ty))(fl:Bool)(I U:Tr)(wU:Zc):Prop:=(fl=Za/\rule=A)\/(fl=L/\rule=F (I.ty,U.l.map Tr.ty)/\I.In wU/\U.In wU/\I.Bl P/\U.Bl P)
theorem KR.below{rule:Option (Ty×List Ty)}{fl:Bool}(h:KR P rule fl I U W)(a:ZB W.heap.size W W'):KR P rule fl I U W':=by
 rcases h with h|⟨b,e,d,g,c⟩
 .exact .inl h
 .exact .inr ⟨b,e,d.below a,g.below a,c⟩
theorem KR.set{rule:Option (Ty×List Ty)}{fl:Bool}(h:KR (fun b=>P b/\b≠G) rule fl I U W)(d:Yi G A W W'):KR P rule fl I U W':=by
 rcases h with h|⟨j,g,k,i,e,c⟩
 .exact .inl h
 .exact .inr ⟨j,g,k.lc d (e.mono fun b a=>a.2),i.lc d (c.mono fun b a=>a.2),e.mono fun b a=>a.1,c.mono fun b a=>a.1⟩
def Rx(P:Nat->Prop)(rs:List Rd)(U:Tr)(g:Nat)(zs:List TT)(wK:Zc):Prop:=(∀q(h:q<zs.length),Uz wK g (q*7) zs[q])/\(∀z,z∈zs->z.In wK/\z.Bl P)/\P g/\zs.map TT.tm=XZ (rs.map Qv) (U.l.map Tr.ty)
theorem Rx.tree{g:Nat}{zs:List TT}{wK:Zc}(h:Rx P rs U g zs wK)(k n:Int)(t:Tr)(d:t.In wK)(e:t.Bl P):
  (TT.mk k n t (Ys 0) (F ⟨g,0,A⟩) zs.length zs).In wK/\(TT.mk k n t (Ys 0) (F ⟨g,0,A⟩) zs.length zs).Bl P/\(TT.mk k n t (Ys 0) (F ⟨g,0,A⟩) zs.length zs).tm=⟨k,n,t.ty,Yk,XZ (rs.map Qv) (U.l.map Tr.ty)⟩:=by
 refine⟨TT.li.2 ⟨d,YC _ _,fun j b=>⟨g,0,rfl,by simpa using h.1 j b⟩,fun x a=>(h.2.1 x a).1⟩,TT.ld.2 ⟨e,YF _ _,fun _ y c=>by cases c;exact h.2.2.1,fun x a=>(h.2.1 x a).2⟩,?_⟩;rw[TT.ma,h.2.2.2];simp[Ys,Tr.lh,Yk]
theorem Bc(Q:Nat->Prop)(R:Nat)(x:TT)(c:Nat)(T:Tr)(w:Zc)(hpre:Aw Q R x c T w)
  (HRD:∀y,y∈x.l->∀(Q':Nat->Prop)(c':Nat)(T':Tr)(W:Zc),Aw Q' R y c' T' W->Zp Zd 41 #[Zy (F ⟨R,0,A⟩),Zh #[D E y.k,D E y.n,D E y.t.k,C y.t.a y.t.l.length y.t.c,D E y.f.k,C y.f.a y.f.l.length y.f.c,C y.a y.l.length y.c],C T'.a T'.l.length T'.c] W (K6 Q' R y c' (T'.l.map Tr.ty) W)) :
  Zp Zd 41 #[Zy (F ⟨R,0,A⟩),Zh #[D E x.k,D E x.n,D E x.t.k,C x.t.a x.t.l.length x.t.c,D E x.f.k,C x.f.a x.f.l.length x.f.c,C x.a x.l.length x.c],C T.a T.l.length T.c] w (K6 Q R x c (T.l.map Tr.ty) w):=by
 obtain⟨b7,c9,cm,xi,ti,bx,xb,tb,nw,ne⟩:=hpre;have db:=bx.lt;have ci:=x.mr;have a1:=RF.start x w;obtain⟨W1,az⟩:∃W1,W1=((w.alloc (Zf x.v 27)).alloc (Zf #[D E 0,D E 0,D E 0,D E 0,C A 0 0,D E 0,C A 0 0,C A 0 0,D E 0,C A 0 0] 64)):=⟨_,rfl⟩
 have cf:bL w W1:=by rw[az];exact((Zb _ _).alloc (S _) _).alloc (by simp) _
 have d4:W1.heap.size=w.heap.size+1+1:=by rw[az];simp
 rw[<-az] at a1;have a7:=bx.below cf;have aj:=Yy (BN R c (by omega) W1 a7.c a7.f);obtain⟨WA,bd⟩:∃WA,WA=W1.setCell ⟨R,0,A⟩ (D E ((c+1:Nat):Int)):=⟨_,rfl⟩
 have bb:Yi R A W1 WA:=by rw[bd];exact Yj
 have bc:=(Yi.la cf).trans bb;have bg:x.Bl (fun b=>Q b/\b≠w.heap.size+1):=(xb.and xi.bl).mono fun b d=>⟨d.1,by omega⟩
 have bi:T.Bl (fun b=>Q b/\b≠w.heap.size+1):=(tb.and ti.bl).mono fun b d=>⟨d.1,by omega⟩
 have bf:∀b,(Q b/\b≠w.heap.size+1)->b≠R:=fun b d=>ne b d.1;have bh:CS R (c+1) WA:=by rw[bd];exact⟨World.cell?_setCell_same _ _ _ a7.c,by rw[World.frozen?_setCell];exact a7.f⟩
 have a8:=a1.kept bb (by omega) (by omega);have c7:=xi.lc bc (xb.mono ne);have bz:=ti.lc bc (tb.mono ne);have ck:1<=x.k/\x.k<=9/\x.l.length=Yu x.k/\YB 4 x.t=L/\(x.k=1->0<=x.n/\x.n<(T.l.length:Int))/\(∀y,y∈x.l->J8 y.tm (Yv x.k x.t.ty (T.l.map Tr.ty)).length):=by obtain⟨k,n,t,f,a,cc,l⟩:=x;rw[TT.ma] at b7;obtain⟨h0,h1⟩:=Kf.1 b7;obtain⟨k1,k9,hl,_,ht,_,hn⟩:=JF h0;refine⟨k1,k9,by simpa using hl,by rw[YL];exact ht,hn,fun y hy=>?_⟩;rw[Xl,Zn];exact h1 y.tm (Zv.2 ⟨y,hy,rfl⟩)
 have ce:Zj (∀(T':Tr)(W:Zc),bL WA W->T'.In W->T'.Bl (fun b=>Q b/\b≠w.heap.size+1)->T'.l.map Tr.ty=Yv x.k x.t.ty (T.l.map Tr.ty)->(∀t,t∈T'.l->YB 4 t=L)->RA (fun b=>Q b/\b≠w.heap.size+1) R c x T T' w W):=fun T' W d h1 h2 h3 h4=>⟨bc.trans (Yi.la d),a8.below d,bh.below d,c7.below d,h1,h2,h3,h4⟩
 have cq:=Yy (BT x.t T WA c7.t bz (by omega));have HK:=Yy ck;have HQ:Zj (x.Bl (fun b=>Q b/\b≠w.heap.size+1)/\T.Bl (fun b=>Q b/\b≠w.heap.size+1)/\(∀b,(Q b/\b≠w.heap.size+1)->b≠R)/\(∀b,WA.heap.size<=b->Q b/\b≠w.heap.size+1)/\(∀b,Q b->b≠R)/\(∀b,w.heap.size<=b->Q b)):=⟨bg,bi,bf,fun b d=>by have:=bb.size;exact⟨nw b (by omega),by omega⟩,ne,nw⟩
 have HM:Zj (J8 x.tm (T.l.map Tr.ty).length/\(∀u,u∈T.l.map Tr.ty->Ym 4 u=L)/\(c+x.sz<=900/\T.l.length+x.sz<=900)/\x.sz=(x.l.map TT.sz).sum+1):=⟨by rw[Zn];exact b7,fun u hu=>by obtain⟨t,ht,rfl⟩:=Zv.1 hu;rw[<-YL];exact c9 t ht,cm,ci⟩
 have bu:=Yy c9;have cj:=Yy bz;have bq:=Yy HRD;have p0:=a8.at7.c0;have p2:=a8.at7.c2;have p3:=a8.at7.c3;simp only[Zo] at p0 p2 p3;clear b7 c9 cm xi ti bx xb tb nw ne HRD a1 cf d4 a7 bb bc bg bi bf bh a8 c7 bz ck ci;go_enter func41,ntmps41;go_wp2_with fail;rw[<-az];refine aj.out.mono ?_;rintro e w1 ⟨rfl,rfl⟩;rw[<-bd];clear aj bd az;go_upto_if 18 with fail;go_cut [2] (fun s2 wx=>∃T':Tr,s2=T'.s/\Zj (RA (fun b=>Q b/\b≠w.heap.size+1) R c x T T' w wx))
 case first=>
  by_cases hk0:x.k=7
  .have hk:=Yy hk0;have au:(x.k==7)=L:=by simpa using hk0
   clear hk0;rw[au];clear au;go_wp2_with fail;refine cq.out.mono ?_;rintro e w2 ⟨N,rfl,hN,cw,bv,cr⟩;have HN:Zj (RA (fun b=>Q b/\b≠w.heap.size+1) R c x T N w w2):=by
    refine ce.out N w2 cr cw ?_ (by rw[hN,Yv,if_pos hk.out];rfl) (fun t ht=>?_)
    .obtain⟨k,a,cc,l⟩:=N;simp only at hN bv;subst hN;refine Tr.ld.2 ⟨fun _ y hy=>HQ.out.2.2.2.1 _ (bv y hy),fun t ht=>?_⟩;rcases K.1 ht with rfl|ht
     .exact HQ.out.1.t
     .exact(by have h:=HQ.out.2.1;obtain⟨k,a,cc,l⟩:=T;exact(Tr.ld.1 h).2 t ht)
    .rw[hN] at ht;rcases K.1 ht with rfl|ht
     .exact HK.out.2.2.2.1
     .exact bu.out t ht
   clear hN cw bv cr;go_wp2_with fail;go_meet
   case rel=>exact⟨N,rfl,HN⟩
  .have hk:=Yy hk0;have au:(x.k==7)=Za:=by simpa using hk0
   clear hk0;rw[au];clear au;have HN:Zj (RA (fun b=>Q b/\b≠w.heap.size+1) R c x T T w WA):=ce.out T WA (Zb _ _) cj.out HQ.out.2.1 (by rw[Yv,if_neg hk.out]) bu.out;go_wp2_with fail;go_meet
   case rel=>exact⟨T,rfl,HN⟩
 case rest=>
 obtain⟨T',rfl,HT⟩:=hcut;have cb:T'.l.length=(Yv x.k x.t.ty (T.l.map Tr.ty)).length:=by rw[<-HT.out.tl,Zn]
 have cl:T'.l.length<=T.l.length+1:=by rw[cb,Xl,Zn];split<;>omega
 have HC:Zj (Zp Zd 66 #[Zy (F ⟨R,0,A⟩),x.s,T'.s] wc (Sh (fun b=>Q b/\b≠w.heap.size+1) R x.l (c+1) (T'.l.map Tr.ty) wc)):=by obtain⟨kp,rf,cs,xi,ti,tb,tl,tk⟩:=HT.out;have da:=rf.lt;have hm:=HM.out.2.2;exact S6 _ R x (c+1) T' wc (fun y hy Q' c' W hp=>bq.out y hy Q' c' T' W hp) (fun y hy=>by rw[cb];exact HK.out.2.2.2.2.2 y hy) tk ⟨by omega,by omega⟩ xi ti cs HQ.out.1 tb (fun b d=>⟨HQ.out.2.2.2.2.2 b (by omega),by omega⟩) HQ.out.2.2.1
 have q6:=HT.out.rf.at7.c6;simp only[Zo] at q6;clear bq cq ce cb cl cj p0 p2 p3;go_wp2_with fail;refine HC.out.mono ?_;rintro e m ⟨aa,⟨co,rfl⟩|⟨o,a,cap,bn,rfl,cz,ay,ct,bj⟩⟩
 .have a1:=HT.out.rf.kept aa (by omega) (by omega);have HN:Zj (K6 Q R x c (T.l.map Tr.ty) w (Z (Zm #[Zh #[D E 0,D E 0,D E 0,D E 0,C A 0 0,D E 0,C A 0 0,C A 0 0,D E 0,C A 0 0],.bool Za])) (Jc m (w.heap.size+1) (D E 0) (D E 0) (D E 0) (D E 0) (C A 0 0) (D E 0) (C A 0 0) (C A 0 0) (D E 0) (C A 0 0))):=by refine⟨(HT.out.kp.trans aa).new LM (by omega),.inl ⟨S0 ?_,rfl⟩⟩;rw[<-HT.out.tl];exact co
  obtain⟨e0,e1,e2,e3,e4,e5,e6,e7,e8,e9⟩:=a1.put (D E 0) (D E 0) (D E 0) (D E 0) (C A 0 0) (D E 0) (C A 0 0) (C A 0 0) (D E 0) (C A 0 0);obtain⟨_,z0,z1,z2,z3,z4,z5,z6,z7,z8,z9,fz⟩:=a1;have f0:=fz 0;have f1:=fz 1;have f2:=fz 2;have f3:=fz 3;have f4:=fz 4;have f5:=fz 5;have f6:=fz 6;have f7:=fz 7;have f8:=fz 8;have f9:=fz 9;clear co aa HC HT fz q6;go_wp2_with fail;refine Zr (v:=Zm #[Zh #[D E 0,D E 0,D E 0,D E 0,C A 0 0,D E 0,C A 0 0,C A 0 0,D E 0,C A 0 0],.bool Za]) ?_ rfl HN.out;unfold Jc at e0 e1 e2 e3 e4 e5 e6 e7 e8 e9;simp[results,ZD,go_sem,e0,e1,e2,e3,e4,e5,e6,e7,e8,e9]
 .have hneR:=HQ.out.2.2.1;have HF:=E2 (HT.out.rf.kept aa (by omega) (by omega)) (HT.out.kp.trans aa) (HT.out.xi.lc aa (HQ.out.1.mono hneR)) (HT.out.ti.lc aa (HT.out.tb.mono hneR)) ay bj;have ah:Xc (x.l.map TT.tm) (Yv x.k x.t.ty (T.l.map Tr.ty)) (c+1)=F (o.map Qv):=by rw[<-HT.out.tl];exact bn
  have HG:Zj (o.length=x.l.length/\(∀r,r∈o->YB ((x.l.map TT.sz).sum+4) r.i=L)/\Xc (x.l.map TT.tm) (Yv x.k x.t.ty (T.l.map Tr.ty)) (c+1)=F (o.map Qv)/\(∀r,r∈o->0<=r.n)/\(∀r,r∈o->r.y.Bl (fun b=>Q b/\b≠w.heap.size+1)/\r.i.Bl (fun b=>Q b/\b≠w.heap.size+1))):=by have hp:=VZ HM.out.1 HM.out.2.1 (by have:=HM.out.2.2.1;omega) ah;exact⟨hp.1,hp.2,ah,cz,ct⟩
  have b8:=Uy HT.out.tb HT.out.tl;clear aa bn cz ay ct bj HC HT q6 ah hneR;have d9:=HF.out.1.lt;have b2:Zj (∀i,bL m i->cL i w.heap.size 0 (D E x.k)/\cL i w.heap.size 1 (D E x.n)/\cL i w.heap.size 2 (D E x.t.k)/\cL i w.heap.size 3 (x.t.s)/\cL i w.heap.size 4 (D E x.f.k)/\cL i w.heap.size 5 (x.f.s)/\cL i w.heap.size 6 (x.s)):=by intro i d;obtain⟨c0,c1,c2,c3,c4,c5,c6⟩:=(HF.out.1.below d).at7;simp only[Zo] at c0 c1 c2 c3 c4 c5 c6;exact⟨c0,c1,c2,c3,c4,c5,c6⟩
  have HT:Zj (∀(i:Zc)(P:Nat->Prop),bL m i->(∀b,Q b/\b≠w.heap.size+1->b<m.heap.size->P b)->(∀b,Q b/\b≠w.heap.size+1->i.heap.size<=b->P b)->Zp Zd 68 #[C a o.length cap] i fun e j=>∃p:Tr,e=Z (p.s)/\Zj (p.l=o.map (fun r=>r.i))/\p.In j/\p.Bl P/\bL m j/\bL i j):=by
   intro i P d am ap;refine(Ss o a cap i (HF.out.2.2.2.2.1.below d) (by rw[HG.out.1,HK.out.2.2.1];have:=NE x.k;omega)).mono ?_;rintro e j ⟨p,rfl,a0,a2,cy,b6⟩;refine⟨p,rfl,a0,a2,?_,d.trans (b6.mono d.size),b6⟩;obtain⟨k,pa,pc,pl⟩:=p;simp only at a0 cy;refine Tr.ld.2 ⟨fun d8 y hy=>?_,fun t ht=>?_⟩
   .have h1:=cy y hy;have h3:=d.size;exact ap _ ⟨HQ.out.2.2.2.2.2 _ (by omega),by omega⟩ h1
   .rw[a0] at ht;obtain⟨r,hr,rfl⟩:=Zv.1 ht;obtain⟨q,hq,rfl⟩:=Zx hr;obtain⟨_,_,_,_,_,d6⟩:=HF.out.2.2.2.2.1 q hq;exact((HG.out.2.2.2.2 _ hr).2.and d6.bl).mono fun b d=>am b d.1 d.2
  have HU:Zj (∀(i:Zc)(p:Tr)(P:Nat->Prop),bL m i->p.In i->Zj (p.l=o.map (fun r=>r.i))->p.Bl P->(∀b,Q b/\b≠w.heap.size+1->b<m.heap.size->P b)->(∀b,Q b/\b≠w.heap.size+1->i.heap.size<=b->P b)->Zp Zd 67 #[Zh x.v,p.s,T'.s] i fun e wU=>∃(I U:Tr)(fl:Bool),e=Z (Zm #[Zh #[D E I.k,I.s,U.s],.bool fl])/\Zj (KR P (YK x.k x.n x.t.ty (o.map fun r=>r.i.ty) (Yv x.k x.t.ty (T.l.map Tr.ty))) fl I U wU)/\bL m wU/\bL i wU):=by
   intro i p P d a2 a0 a5 am ap;replace a0:=a0.out;have d7:p.l.length=o.length:=by rw[a0,Zn]
   have e1:p.l.map Tr.ty=o.map fun r=>r.i.ty:=by rw[a0,ZI];rfl
   have a4:=HF.out.2.2.1.t;have hs:=d.size;have:=VO P x p T' i HK.out.1 HK.out.2.1 (by rw[d7,HG.out.1];exact HK.out.2.2.1) (fun hk=>by
     have h1:=HK.out.2.2.2.2.1 hk;have h2:T'.l.length=T.l.length:=by have:=congrArg List.length b8.out.2;rw[Yv,if_neg (by omega),Zn,Zn] at this;exact this
     omega) (a4.below d) ((HQ.out.1.t.and a4.bl).mono fun b d=>am b d.1 d.2) a2 a5 (HF.out.2.2.2.1.below d) ((b8.out.1.and HF.out.2.2.2.1.bl).mono fun b d=>am b d.1 d.2) (fun t ht=>by
     rw[a0] at ht;obtain⟨r,hr,rfl⟩:=Zv.1 ht;exact YS (by have:=HM.out.2.2;omega) (HG.out.2.1 r hr)) (fun b d2=>ap b ⟨HQ.out.2.2.2.2.2 b (by omega),by omega⟩ d2)
   rw[e1,b8.out.2] at this;refine this.mono ?_;rintro e wU ⟨ao,⟨hn,rfl⟩|⟨I,U,hs,rfl,hI,hU,bI,bU⟩⟩
   .exact⟨Ys 0,Ys 0,Za,rfl,.inl ⟨rfl,hn⟩,d.trans (ao.mono d.size),ao⟩
   .exact⟨I,U,L,rfl,.inr ⟨rfl,hs,hI,hU,bI,bU⟩,d.trans (ao.mono d.size),ao⟩
  have af:bL m (m.alloc (Zf #[D E 0,C A 0 0,C A 0 0] 119)).drew:=((Zb _ _).alloc (S _) _).drew;have aw:Zj (Zp Zd 68 #[C a o.length cap] m.drew fun e j=>∃p:Tr,e=Z (p.s)/\Zj (p.l=o.map (fun r=>r.i))/\p.In j/\p.Bl (fun b=>Q b/\b≠w.heap.size+1)/\bL m j/\bL m.drew j):=HT.out m.drew _ ((Zb _ _).drew) (fun b h _=>h) (fun b h _=>h);have ax:Zj (Zp Zd 68 #[C a o.length cap] (m.alloc (Zf #[D E 0,C A 0 0,C A 0 0] 119)).drew fun e j=>∃p:Tr,e=Z (p.s)/\Zj (p.l=o.map (fun r=>r.i))/\p.In j/\p.Bl (fun b=>(Q b/\b≠w.heap.size+1)/\b≠m.heap.size)/\bL m j/\Vu j m.heap.size):=by refine(HT.out _ (fun b=>(Q b/\b≠w.heap.size+1)/\b≠m.heap.size) af (fun b h hl=>⟨h,by omega⟩) (fun b h hl=>⟨h,by simp at hl;omega⟩)).mono ?_;rintro e j ⟨p,rfl,h1,h2,h3,h4,h5⟩;exact⟨p,rfl,h1,h2,h3,h4,Vu.later h5 (Vu.new m)⟩
  have b5:Zj (∀(j:Zc)(p:Tr),bL m j->p.In j->Zj (p.l=o.map (fun r=>r.i))->p.Bl (fun b=>Q b/\b≠w.heap.size+1)->Zp Zd 67 #[Zh x.v,p.s,T'.s] j fun e wU=>∃(I U:Tr)(fl:Bool),e=Z (Zm #[Zh #[D E I.k,I.s,U.s],.bool fl])/\Zj (KR (fun b=>Q b/\b≠w.heap.size+1) (YK x.k x.n x.t.ty (o.map fun r=>r.i.ty) (Yv x.k x.t.ty (T.l.map Tr.ty))) fl I U wU)/\bL m wU/\bL j wU):=fun j p h1 h2 h3 h4=>HU.out j p _ h1 h2 h3 h4 (fun b h _=>h) (fun b h _=>h)
  have b1:Zj (∀(j:Zc)(p:Tr),bL m j->p.In j->Zj (p.l=o.map (fun r=>r.i))->p.Bl (fun b=>Q b/\b≠w.heap.size+1)->Zp Zd 67 #[Zh x.v,p.s,T'.s] (j.alloc (Zf #[D E 0,C A 0 0,C A 0 0] 119)) fun e wU=>∃(I U:Tr)(fl:Bool),e=Z (Zm #[Zh #[D E I.k,I.s,U.s],.bool fl])/\Zj (KR (fun b=>(Q b/\b≠w.heap.size+1)/\b≠j.heap.size) (YK x.k x.n x.t.ty (o.map fun r=>r.i.ty) (Yv x.k x.t.ty (T.l.map Tr.ty))) fl I U wU)/\bL m wU/\Vu wU j.heap.size):=by intro j p h1 h2 h3 h4;have hA:bL j (j.alloc (Zf #[D E 0,C A 0 0,C A 0 0] 119)):=(Zb _ _).alloc (S _) _;refine(HU.out (j.alloc (Zf #[D E 0,C A 0 0,C A 0 0] 119)) p (fun b=>(Q b/\b≠w.heap.size+1)/\b≠j.heap.size) (h1.trans (hA.mono h1.size)) (h2.below hA) h3 ((h4.and h2.bl).mono fun b d=>⟨d.1,by omega⟩) (fun b h hl=>⟨h,by have:=h1.size;omega⟩) (fun b h hl=>⟨h,by simp at hl;omega⟩)).mono ?_;rintro e wU ⟨I,U,fl,rfl,h5,h6,h7⟩;exact⟨I,U,fl,rfl,h5,h6,Vu.later h7 (Vu.new j)⟩
  have b4:Zj (∀(j:Zc)(p:Tr),bL m j->p.In j->Zj (p.l=o.map (fun r=>r.i))->p.Bl (fun b=>(Q b/\b≠w.heap.size+1)/\b≠m.heap.size)->Vu j m.heap.size->Zp Zd 67 #[Zh x.v,p.s,T'.s] j fun e wU=>∃(I U:Tr)(fl:Bool),e=Z (Zm #[Zh #[D E I.k,I.s,U.s],.bool fl])/\Zj (KR (fun b=>(Q b/\b≠w.heap.size+1)/\b≠m.heap.size) (YK x.k x.n x.t.ty (o.map fun r=>r.i.ty) (Yv x.k x.t.ty (T.l.map Tr.ty))) fl I U wU)/\bL m wU/\Vu wU m.heap.size):=by intro j p h1 h2 h3 h4 hz;have d0:m.heap.size<j.heap.size:=Zk _ _ hz.1;refine(HU.out j p _ h1 h2 h3 h4 (fun b h hl=>⟨h,by omega⟩) (fun b h hl=>⟨h,by omega⟩)).mono ?_;rintro e wU ⟨I,U,fl,rfl,h5,h6,h7⟩;exact⟨I,U,fl,rfl,h5,h6,Vu.later h7 hz⟩
  clear HT HU;go_upto_region 7 with fail;go_cut [11,12] (fun s11 s12 wx=>∃(G:Nat)(I U:Tr)(fl:Bool),s11=Zy (F ⟨G,0,A⟩)/\s12=.bool fl/\Zj (bL m wx/\BW wx G I U/\KR (fun b=>Q b/\b≠w.heap.size+1) (YK x.k x.n x.t.ty (o.map fun r=>r.i.ty) (Yv x.k x.t.ty (T.l.map Tr.ty))) fl I U wx))
  case first=>
   have d:bL m m.drew:=(Zb _ _).drew;have av:Zj (∀(W0:Zc)(G:Nat)(v0 v1 v2:Zs),bL m W0->m.heap.size<=G->(fun i:Zc=>cL i w.heap.size 0 (D E x.k)/\cL i w.heap.size 1 (D E x.n)/\cL i w.heap.size 2 (D E x.t.k)/\cL i w.heap.size 3 (x.t.s)/\cL i w.heap.size 4 (D E x.f.k)/\cL i w.heap.size 5 (x.f.s)/\cL i w.heap.size 6 (x.s)) (((W0.setCell ⟨G,0,A⟩ v0).setCell ⟨G,1,A⟩ v1).setCell ⟨G,2,A⟩ v2)):=fun W0 G v0 v1 v2 h1 h2=>b2.out _ (((h1.setCell h2 _).setCell h2 _).setCell h2 _)
   go_region_held3 (fun i=>cL i w.heap.size 0 (D E x.k)/\cL i w.heap.size 1 (D E x.n)/\cL i w.heap.size 2 (D E x.t.k)/\cL i w.heap.size 3 (x.t.s)/\cL i w.heap.size 4 (D E x.f.k)/\cL i w.heap.size 5 (x.f.s)/\cL i w.heap.size 6 (x.s))
    (first
     |(with_reducible exact b2.out _ d)
     |(with_reducible exact b2.out _ af)
     |(with_reducible exact b2.out _ (d.alloc d.size _))
     |(with_reducible exact av.out _ _ _ _ _ d hG)
     |(with_reducible exact av.out _ _ _ _ _ d (S _))
     |fail)
    (first
     |(go_at_call 68;(with_reducible refine aw.out.mono ?_);rintro e j ⟨p,rfl,a0,a2,a5,d,b6⟩)
     |(go_at_call 68;(with_reducible refine ax.out.mono ?_);rintro e j ⟨p,rfl,a0,a2,a5,d,hz⟩)
     |(go_at_call 67;(with_reducible refine(b5.out _ p d a2 a0 a5).mono ?_);rintro e wU ⟨I,U,fl,rfl,ab,d,ao⟩)
     |(go_at_call 67;(with_reducible refine(b1.out _ p d a2 a0 a5).mono ?_);have hG:=d.size;rintro e wU ⟨I,U,fl,rfl,ab,d,hz⟩;obtain⟨y0,y1,y2,g0,g1,g2⟩:=id hz)
     |(go_at_call 67;(with_reducible refine(b4.out _ p d a2 a0 a5 hz).mono ?_);clear hz;rintro e wU ⟨I,U,fl,rfl,ab,d,hz⟩;obtain⟨y0,y1,y2,g0,g1,g2⟩:=id hz)
     |fail)
   .have HFi:Zj (bL m (wU.alloc (Zf #[D E I.k,I.s,U.s] 119))/\BW (wU.alloc (Zf #[D E I.k,I.s,U.s] 119)) wU.heap.size I U/\KR (fun b=>Q b/\b≠w.heap.size+1) (YK x.k x.n x.t.ty (o.map fun r=>r.i.ty) (Yv x.k x.t.ty (T.l.map Tr.ty))) fl I U (wU.alloc (Zf #[D E I.k,I.s,U.s] 119))):=by have hA:bL wU (wU.alloc (Zf #[D E I.k,I.s,U.s] 119)):=(Zb _ _).alloc (S _) _;exact⟨d.trans (hA.mono d.size),BW.new wU I U,ab.out.below hA⟩
    clear ab d ao b6 a0 a2 a5;go_wp2_with fail;go_meet
    case rel=>exact⟨_,I,U,fl,rfl,rfl,HFi⟩
   .have HFi:Zj (bL m (((wU.setCell ⟨j.heap.size,0,A⟩ (D E I.k)).setCell ⟨j.heap.size,1,A⟩ (I.s)).setCell ⟨j.heap.size,2,A⟩ (U.s))/\BW (((wU.setCell ⟨j.heap.size,0,A⟩ (D E I.k)).setCell ⟨j.heap.size,1,A⟩ (I.s)).setCell ⟨j.heap.size,2,A⟩ (U.s)) j.heap.size I U/\KR (fun b=>Q b/\b≠w.heap.size+1) (YK x.k x.n x.t.ty (o.map fun r=>r.i.ty) (Yv x.k x.t.ty (T.l.map Tr.ty))) fl I U (((wU.setCell ⟨j.heap.size,0,A⟩ (D E I.k)).setCell ⟨j.heap.size,1,A⟩ (I.s)).setCell ⟨j.heap.size,2,A⟩ (U.s))):=⟨((d.setCell hG _).setCell hG _).setCell hG _,hz.put I U,ab.out.set (Yj.trans (Yj.trans Yj))⟩
    clear ab d b6 a0 a2 a5 hz y0 y1 y2 g0 g1 g2;go_wp2_with fail;go_meet
    case rel=>exact⟨_,I,U,fl,rfl,rfl,HFi⟩
   .have HFi:Zj (bL m (((wU.setCell ⟨m.heap.size,0,A⟩ (D E I.k)).setCell ⟨m.heap.size,1,A⟩ (I.s)).setCell ⟨m.heap.size,2,A⟩ (U.s))/\BW (((wU.setCell ⟨m.heap.size,0,A⟩ (D E I.k)).setCell ⟨m.heap.size,1,A⟩ (I.s)).setCell ⟨m.heap.size,2,A⟩ (U.s)) m.heap.size I U/\KR (fun b=>Q b/\b≠w.heap.size+1) (YK x.k x.n x.t.ty (o.map fun r=>r.i.ty) (Yv x.k x.t.ty (T.l.map Tr.ty))) fl I U (((wU.setCell ⟨m.heap.size,0,A⟩ (D E I.k)).setCell ⟨m.heap.size,1,A⟩ (I.s)).setCell ⟨m.heap.size,2,A⟩ (U.s))):=⟨((d.setCell (S _) _).setCell (S _) _).setCell (S _) _,hz.put I U,ab.out.set (Yj.trans (Yj.trans Yj))⟩
    clear ab d a0 a2 a5 hz y0 y1 y2 g0 g1 g2;go_wp2_with fail;go_meet
    case rel=>exact⟨_,I,U,fl,rfl,rfl,HFi⟩
  case rest=>
  obtain⟨G,I,U,fl,rfl,rfl,HC⟩:=hcut;clear aw ax b5 b1 b4 af b2;have an:=HC.out.1;rcases HC.out.2.2 with⟨rfl,ar⟩|⟨rfl,ai,hI,hU,bI,bU⟩
  .have HN:Zj (K6 Q R x c (T.l.map Tr.ty) w (Z (Zm #[Zh #[D E 0,D E 0,D E 0,D E 0,C A 0 0,D E 0,C A 0 0,C A 0 0,D E 0,C A 0 0],.bool Za])) (Jc wc (w.heap.size+1) (D E 0) (D E 0) (D E 0) (D E 0) (C A 0 0) (D E 0) (C A 0 0) (C A 0 0) (D E 0) (C A 0 0))):=⟨(HF.out.2.1.trans (Yi.la an)).new LM (by omega),.inl ⟨SY HG.out.2.2.1 ar,rfl⟩⟩
   have a1:=HF.out.1.below an;obtain⟨e0,e1,e2,e3,e4,e5,e6,e7,e8,e9⟩:=a1.put (D E 0) (D E 0) (D E 0) (D E 0) (C A 0 0) (D E 0) (C A 0 0) (C A 0 0) (D E 0) (C A 0 0);obtain⟨_,z0,z1,z2,z3,z4,z5,z6,z7,z8,z9,fz⟩:=a1;have f0:=fz 0;have f1:=fz 1;have f2:=fz 2;have f3:=fz 3;have f4:=fz 4;have f5:=fz 5;have f6:=fz 6;have f7:=fz 7;have f8:=fz 8;have f9:=fz 9;clear fz ar an;go_wp2_with fail;refine Zr (v:=Zm #[Zh #[D E 0,D E 0,D E 0,D E 0,C A 0 0,D E 0,C A 0 0,C A 0 0,D E 0,C A 0 0],.bool Za]) ?_ rfl HN.out;unfold Jc at e0 e1 e2 e3 e4 e5 e6 e7 e8 e9;simp[results,ZD,go_sem,e0,e1,e2,e3,e4,e5,e6,e7,e8,e9]
  .have hgr:=ME (ps:=o.map fun r=>r.i.ty) ((x.l.map TT.sz).sum+4) (by omega) HK.out.1 HK.out.2.1 (by rw[Zn,HG.out.1];exact HK.out.2.2.1) (by rw[<-YL];exact HK.out.2.2.2.1) (Uw (by rw[<-YL];exact HK.out.2.2.2.1) HM.out.2.1) (fun u hu=>by obtain⟨r,hr,rfl⟩:=Zv.1 hu;rw[<-YL];exact HG.out.2.1 r hr) ai;have bt:o.length=U.l.length:=by have:=hgr.1;simpa using this.symm
   have bo:o.length<=3:=by rw[HG.out.1,HK.out.2.2.1];exact NE x.k
   have aq:∀r,r∈o->r.i.right/\r.i.hgt<=1000/\r.i.sm:=fun r hr=>YS (by have:=HM.out.2.2;omega) (HG.out.2.1 r hr);have bp:∀u,u∈U.l->u.right/\u.hgt<=1000/\u.sm:=fun u hu=>YS (n:=(x.l.map TT.sz).sum+4+1) (by have:=HM.out.2.2;omega) (by rw[YL];exact hgr.2.2 _ (Zv.2 ⟨u,hu,rfl⟩));obtain⟨ft,cg⟩:∃ft,U6 (o.map fun r=>r.i.ty) (U.l.map Tr.ty)=ft:=⟨_,rfl⟩
   have cu:Zj (Zp Zd 69 #[C a o.length cap,U.s] wc fun e w'=>e=Z (.bool ft)/\bL wc w'):=by have:=WM o a cap U wc (HF.out.2.2.2.2.1.below an) hU bt (by omega) (fun r hr=>(aq r hr).2);rw[cg] at this;exact this
   have r2:=HC.out.2.1.u;have HI:=E2 an HC.out.2.1 hI hU bI bU;have HR:=E2 ai bt bo aq bp cg;clear ai bt bo aq bp cg an hI hU bI bU HC hgr;go_wp2_with fail;refine cu.out.mono ?_;rintro e wD ⟨rfl,a3⟩;have a6:=O8 (HI.out.1.trans (a3.mono HI.out.1.size)) (HI.out.2.1.below a3) (HI.out.2.2.1.below a3) (HI.out.2.2.2.1.below a3);clear cu r2 a3;cases ft
   .have HN:Zj (K6 Q R x c (T.l.map Tr.ty) w (Z (Zm #[Zh #[D E 0,D E 0,D E 0,D E 0,C A 0 0,D E 0,C A 0 0,C A 0 0,D E 0,C A 0 0],.bool Za])) (Jc wD (w.heap.size+1) (D E 0) (D E 0) (D E 0) (D E 0) (C A 0 0) (D E 0) (C A 0 0) (C A 0 0) (D E 0) (C A 0 0))):=⟨(HF.out.2.1.trans (Yi.la a6.out.1)).new LM (by omega),.inl ⟨SX HG.out.2.2.1 HR.out.1 HR.out.2.2.2.2.2,rfl⟩⟩
    have a1:=HF.out.1.below a6.out.1;obtain⟨e0,e1,e2,e3,e4,e5,e6,e7,e8,e9⟩:=a1.put (D E 0) (D E 0) (D E 0) (D E 0) (C A 0 0) (D E 0) (C A 0 0) (C A 0 0) (D E 0) (C A 0 0);obtain⟨_,z0,z1,z2,z3,z4,z5,z6,z7,z8,z9,fz⟩:=a1;have f0:=fz 0;have f1:=fz 1;have f2:=fz 2;have f3:=fz 3;have f4:=fz 4;have f5:=fz 5;have f6:=fz 6;have f7:=fz 7;have f8:=fz 8;have f9:=fz 9;clear fz HI;go_wp2_with fail;refine Zr (v:=Zm #[Zh #[D E 0,D E 0,D E 0,D E 0,C A 0 0,D E 0,C A 0 0,C A 0 0,D E 0,C A 0 0],.bool Za]) ?_ rfl HN.out;unfold Jc at e0 e1 e2 e3 e4 e5 e6 e7 e8 e9;simp[results,ZD,go_sem,e0,e1,e2,e3,e4,e5,e6,e7,e8,e9]
   .have a3:=a6.out.1;have d1:=a3.size;have b3:Zj (∀i,bL wD i->cL i w.heap.size 0 (D E x.k)/\cL i w.heap.size 1 (D E x.n)/\cL i w.heap.size 2 (D E x.t.k)/\cL i w.heap.size 3 (x.t.s)/\cL i G 2 (U.s)):=by intro i d;obtain⟨c0,c1,c2,c3,_,_,_⟩:=((HF.out.1.below a3).below d).at7;simp only[Zo] at c0 c1 c2 c3;exact⟨c0,c1,c2,c3,(a6.out.2.1.below d).u⟩
    have al:∀b,wD.heap.size<=b->Q b/\b≠w.heap.size+1:=fun b d=>⟨HQ.out.2.2.2.2.2 b (by omega),by omega⟩
    have cd:Zj (∀i,bL wD i->Zp Zd 42 #[Zh x.t.v] i fun e wE=>∃t:Tr,e=Z (Zh t.v)/\Zj (t.ty=x.t.ty)/\t.In wE/\t.Bl (i.heap.size<=·)/\bL wD wE/\bL i wE):=by intro i d;have hg:=YS (n:=4) (by omega) HK.out.2.2.2.1;refine(Oh x.t i ((HF.out.2.2.1.t.below a3).below d) hg.1 hg.2.1).mono ?_;rintro e wE ⟨t,rfl,h1,h2,h3,h4⟩;exact⟨t,rfl,h1,h2,h3,d.trans (h4.mono d.size),h4⟩
    have ba:Zj (∀(i:Zc)(P:Nat->Prop),bL wD i->(∀b,Q b/\b≠w.heap.size+1->b<wD.heap.size->P b)->(∀b,i.heap.size<=b->P b)->Zp Zd 70 #[C a o.length cap,U.s] i fun e wK=>∃(g:Nat)(zs:List TT),e=Z (C (F ⟨g,0,A⟩) zs.length zs.length)/\Zj (Rx P o U g zs wK)/\bL wD wK/\bL i wK):=by
     intro i P d am ap;have ay:=(HF.out.2.2.2.2.1.below a3)
     refine(Vf P o a cap U i (ay.below d) (a6.out.2.2.2.below d) HR.out.2.1 (by have:=HR.out.2.2.1;omega) HR.out.2.2.2.1 (fun u hu=>⟨(HR.out.2.2.2.2.1 u hu).1,(HR.out.2.2.2.2.1 u hu).2.1⟩) ap (fun r hr=>?_)).mono ?_
     .obtain⟨q,hq,rfl⟩:=Zx hr;obtain⟨_,_,_,_,d5,_⟩:=ay q hq;exact((HG.out.2.2.2.2 _ hr).1.and d5.bl).mono fun b d=>am b d.1 d.2
     .rintro e wK ⟨zs,rfl,hrow,hlen,htm⟩;refine⟨i.heap.size,zs,by rw[hlen],⟨hrow.is,fun z hz=>⟨(hrow.ins z hz).1,(hrow.ins z hz).2.mono fun b d=>d.2⟩,ap _ (S _),Vd o U.l zs hlen HR.out.2.1 HG.out.2.2.2.1 htm⟩,d.trans (hrow.bel.mono d.size),hrow.bel⟩
    have af:bL wD (wD.alloc (Zf #[D E 0,D E 0,D E 0,C A 0 0,D E 0,C A 0 0,C A 0 0] 27)).drew:=((Zb _ _).alloc (S _) _).drew;have br:Zj (Zp Zd 42 #[Zh x.t.v] wD.drew fun e wE=>∃t:Tr,e=Z (Zh t.v)/\Zj (t.ty=x.t.ty)/\t.In wE/\t.Bl (fun b=>Q b/\b≠w.heap.size+1)/\bL wD wE/\bL wD.drew wE):=by refine(cd.out wD.drew ((Zb _ _).drew)).mono ?_;rintro e wE ⟨t,rfl,h1,h2,h3,h4,h5⟩;exact⟨t,rfl,h1,h2,h3.mono fun b d=>al b d,h4,h5⟩
    have bm:Zj (Zp Zd 42 #[Zh x.t.v] (wD.alloc (Zf #[D E 0,D E 0,D E 0,C A 0 0,D E 0,C A 0 0,C A 0 0] 27)).drew fun e wE=>∃t:Tr,e=Z (Zh t.v)/\Zj (t.ty=x.t.ty)/\t.In wE/\t.Bl (fun b=>(Q b/\b≠w.heap.size+1)/\b≠wD.heap.size)/\bL wD wE/\MY wE wD.heap.size):=by refine(cd.out _ af).mono ?_;rintro e wE ⟨t,rfl,h1,h2,h3,h4,h5⟩;refine⟨t,rfl,h1,h2,h3.mono fun b d=>?_,h4,MY.later h5 (MY.later ((Zb _ _).drew) (MY.new wD))⟩;simp at d;exact⟨al b (by omega),by omega⟩
    have bk:Zj (∀wE,bL wD wE->Zp Zd 70 #[C a o.length cap,U.s] wE fun e wK=>∃(g:Nat)(zs:List TT),e=Z (C (F ⟨g,0,A⟩) zs.length zs.length)/\Zj (Rx (fun b=>Q b/\b≠w.heap.size+1) o U g zs wK)/\bL wD wK/\bL wE wK):=fun wE h1=>ba.out wE _ h1 (fun b h _=>h) (fun b h=>al b (by have:=h1.size;omega))
    have bs:Zj (∀wE,bL wD wE->Zp Zd 70 #[C a o.length cap,U.s] (wE.alloc (Zf #[D E 0,D E 0,D E 0,C A 0 0,D E 0,C A 0 0,C A 0 0] 27)) fun e wK=>∃(g:Nat)(zs:List TT),e=Z (C (F ⟨g,0,A⟩) zs.length zs.length)/\Zj (Rx (fun b=>(Q b/\b≠w.heap.size+1)/\b≠wE.heap.size) o U g zs wK)/\bL wD wK/\bL wE wK/\MY wK wE.heap.size):=by intro wE h1;have hA:bL wE (wE.alloc (Zf #[D E 0,D E 0,D E 0,C A 0 0,D E 0,C A 0 0,C A 0 0] 27)):=(Zb _ _).alloc (S _) _;refine(ba.out (wE.alloc (Zf #[D E 0,D E 0,D E 0,C A 0 0,D E 0,C A 0 0,C A 0 0] 27)) (fun b=>(Q b/\b≠w.heap.size+1)/\b≠wE.heap.size) (h1.trans (hA.mono h1.size)) (fun b h hl=>⟨h,by have:=h1.size;omega⟩) (fun b d=>⟨al b (by have:=h1.size;simp at d;omega),by simp at d;omega⟩)).mono ?_;rintro e wK ⟨g,zs,rfl,h2,h3,h4⟩;exact⟨g,zs,rfl,h2,h3,hA.trans (h4.mono hA.size),MY.later h4 (MY.new wE)⟩
    have be:Zj (∀wE,bL wD wE->MY wE wD.heap.size->Zp Zd 70 #[C a o.length cap,U.s] wE fun e wK=>∃(g:Nat)(zs:List TT),e=Z (C (F ⟨g,0,A⟩) zs.length zs.length)/\Zj (Rx (fun b=>(Q b/\b≠w.heap.size+1)/\b≠wD.heap.size) o U g zs wK)/\bL wD wK/\bL wE wK/\MY wK wD.heap.size):=by intro wE h1 hz;have d0:=hz.lt;refine(ba.out wE (fun b=>(Q b/\b≠w.heap.size+1)/\b≠wD.heap.size) h1 (fun b h hl=>⟨h,by omega⟩) (fun b h=>⟨al b (by omega),by omega⟩)).mono ?_;rintro e wK ⟨g,zs,rfl,h2,h3,h4⟩;exact⟨g,zs,rfl,h2,h3,h4,MY.later h4 hz⟩
    clear cd ba a3 al;go_upto_region 10 with fail;go_cut [13] (fun s13 wx=>∃(G':Nat)(Y:TT),s13=Zy (F ⟨G',0,A⟩)/\Zj (bL wD wx/\Uz wx G' 0 Y/\Y.In wx/\Y.Bl (fun b=>Q b/\b≠w.heap.size+1)/\Y.tm=⟨x.k,x.n,x.t.ty,Yk,XZ (o.map Qv) (U.l.map Tr.ty)⟩))
    case first=>
     have d:bL wD wD.drew:=(Zb _ _).drew;have av:Zj (∀(W0:Zc)(G':Nat)(v0 v1 v2 v3 v4 v5 v6:Zs),bL wD W0->wD.heap.size<=G'->(fun i:Zc=>cL i w.heap.size 0 (D E x.k)/\cL i w.heap.size 1 (D E x.n)/\cL i w.heap.size 2 (D E x.t.k)/\cL i w.heap.size 3 (x.t.s)/\cL i G 2 (U.s)) (((((((W0.setCell ⟨G',0,A⟩ v0).setCell ⟨G',1,A⟩ v1).setCell ⟨G',2,A⟩ v2).setCell ⟨G',3,A⟩ v3).setCell ⟨G',4,A⟩ v4).setCell ⟨G',5,A⟩ v5).setCell ⟨G',6,A⟩ v6)):=fun W0 G' v0 v1 v2 v3 v4 v5 v6 h1 h2=>b3.out _ (((((((h1.setCell h2 _).setCell h2 _).setCell h2 _).setCell h2 _).setCell h2 _).setCell h2 _).setCell h2 _)
     go_region_held3 (fun i=>cL i w.heap.size 0 (D E x.k)/\cL i w.heap.size 1 (D E x.n)/\cL i w.heap.size 2 (D E x.t.k)/\cL i w.heap.size 3 (x.t.s)/\cL i G 2 (U.s))
      (first
       |(with_reducible exact b3.out _ d)
       |(with_reducible exact b3.out _ af)
       |(with_reducible exact b3.out _ (d.alloc d.size _))
       |(with_reducible exact av.out _ _ _ _ _ _ _ _ _ d hG)
       |(with_reducible exact av.out _ _ _ _ _ _ _ _ _ d (S _))
       |fail)
      (first
       |(go_at_call 42;(with_reducible refine br.out.mono ?_);rintro e wE ⟨t,rfl,ae,ac,a4,d,cx⟩)
       |(go_at_call 42;(with_reducible refine bm.out.mono ?_);rintro e wE ⟨t,rfl,ae,ac,a4,d,hz⟩)
       |(go_at_call 70;(with_reducible refine(be.out _ d hz).mono ?_);clear hz;rintro e wK ⟨g,zs,rfl,a9,d,ad,hz⟩;obtain⟨⟨y0,y1,y2,y3,y4,y5,y6⟩,g0,g1,g2,g3,g4,g5,g6⟩:=id hz)
       |(go_at_call 70;(with_reducible refine(bk.out _ d).mono ?_);rintro e wK ⟨g,zs,rfl,a9,d,ad⟩)
       |(go_at_call 70;(with_reducible refine(bs.out _ d).mono ?_);have hG:=d.size;rintro e wK ⟨g,zs,rfl,a9,d,ad,hz⟩;obtain⟨⟨y0,y1,y2,y3,y4,y5,y6⟩,g0,g1,g2,g3,g4,g5,g6⟩:=id hz)
       |fail)
     .have HFi:Zj (bL wD (wK.alloc (Zf #[D E x.k,D E x.n,D E t.k,t.s,D E 0,C A 0 0,C (F ⟨g,0,A⟩) zs.length zs.length] 27))/\Uz (wK.alloc (Zf #[D E x.k,D E x.n,D E t.k,t.s,D E 0,C A 0 0,C (F ⟨g,0,A⟩) zs.length zs.length] 27)) wK.heap.size 0 (TT.mk x.k x.n t (Ys 0) (F ⟨g,0,A⟩) zs.length zs)/\(TT.mk x.k x.n t (Ys 0) (F ⟨g,0,A⟩) zs.length zs).In (wK.alloc (Zf #[D E x.k,D E x.n,D E t.k,t.s,D E 0,C A 0 0,C (F ⟨g,0,A⟩) zs.length zs.length] 27))/\(TT.mk x.k x.n t (Ys 0) (F ⟨g,0,A⟩) zs.length zs).Bl (fun b=>Q b/\b≠w.heap.size+1)/\(TT.mk x.k x.n t (Ys 0) (F ⟨g,0,A⟩) zs.length zs).tm=⟨x.k,x.n,x.t.ty,Yk,XZ (o.map Qv) (U.l.map Tr.ty)⟩):=by obtain⟨h1,h2,h3⟩:=a9.out.tree x.k x.n t (ac.below ad) a4;have hA:bL wK (wK.alloc (Zf #[D E x.k,D E x.n,D E t.k,t.s,D E 0,C A 0 0,C (F ⟨g,0,A⟩) zs.length zs.length] 27)):=(Zb _ _).alloc (S _) _;refine⟨d.trans (hA.mono d.size),Uz.new wK (TT.mk x.k x.n t (Ys 0) (F ⟨g,0,A⟩) zs.length zs),h1.below hA,h2,?_⟩;rw[h3,ae.out]
      clear a9 d ac a4 ae ad cx;go_wp2_with fail;go_meet
      case rel=>exact⟨_,(TT.mk x.k x.n t (Ys 0) (F ⟨g,0,A⟩) zs.length zs),rfl,HFi⟩
     .have HFi:Zj (bL wD (Xd wK wE.heap.size (TT.mk x.k x.n t (Ys 0) (F ⟨g,0,A⟩) zs.length zs))/\Uz (Xd wK wE.heap.size (TT.mk x.k x.n t (Ys 0) (F ⟨g,0,A⟩) zs.length zs)) wE.heap.size 0 (TT.mk x.k x.n t (Ys 0) (F ⟨g,0,A⟩) zs.length zs)/\(TT.mk x.k x.n t (Ys 0) (F ⟨g,0,A⟩) zs.length zs).In (Xd wK wE.heap.size (TT.mk x.k x.n t (Ys 0) (F ⟨g,0,A⟩) zs.length zs))/\(TT.mk x.k x.n t (Ys 0) (F ⟨g,0,A⟩) zs.length zs).Bl (fun b=>Q b/\b≠w.heap.size+1)/\(TT.mk x.k x.n t (Ys 0) (F ⟨g,0,A⟩) zs.length zs).tm=⟨x.k,x.n,x.t.ty,Yk,XZ (o.map Qv) (U.l.map Tr.ty)⟩):=by obtain⟨h1,h2,h3⟩:=a9.out.tree x.k x.n t (ac.below ad) ((a4.and ac.bl).mono fun b d=>⟨d.1,by omega⟩);refine⟨d.trans ((YI.below (by simp) (Nat.le_of_lt hz.lt)).mono hG),(JW hz.box).at7,h1.lc YI (h2.mono fun b d=>d.2),h2.mono fun b d=>d.1,?_⟩;rw[h3,ae.out]
      clear a9 d ac a4 ae ad cx hz y0 y1 y2 y3 y4 y5 y6 g0 g1 g2 g3 g4 g5 g6;go_wp2_with fail;go_meet
      case rel=>exact⟨_,(TT.mk x.k x.n t (Ys 0) (F ⟨g,0,A⟩) zs.length zs),rfl,HFi⟩
     .have HFi:Zj (bL wD (Xd wK wD.heap.size (TT.mk x.k x.n t (Ys 0) (F ⟨g,0,A⟩) zs.length zs))/\Uz (Xd wK wD.heap.size (TT.mk x.k x.n t (Ys 0) (F ⟨g,0,A⟩) zs.length zs)) wD.heap.size 0 (TT.mk x.k x.n t (Ys 0) (F ⟨g,0,A⟩) zs.length zs)/\(TT.mk x.k x.n t (Ys 0) (F ⟨g,0,A⟩) zs.length zs).In (Xd wK wD.heap.size (TT.mk x.k x.n t (Ys 0) (F ⟨g,0,A⟩) zs.length zs))/\(TT.mk x.k x.n t (Ys 0) (F ⟨g,0,A⟩) zs.length zs).Bl (fun b=>Q b/\b≠w.heap.size+1)/\(TT.mk x.k x.n t (Ys 0) (F ⟨g,0,A⟩) zs.length zs).tm=⟨x.k,x.n,x.t.ty,Yk,XZ (o.map Qv) (U.l.map Tr.ty)⟩):=by obtain⟨h1,h2,h3⟩:=a9.out.tree x.k x.n t (ac.below ad) a4;refine⟨d.trans ((YI.below (by simp) (Nat.le_of_lt hz.lt)).mono (S _)),(JW hz.box).at7,h1.lc YI (h2.mono fun b d=>d.2),h2.mono fun b d=>d.1,?_⟩;rw[h3,ae.out]
      clear a9 d ac a4 ae ad hz y0 y1 y2 y3 y4 y5 y6 g0 g1 g2 g3 g4 g5 g6;go_wp2_with fail;go_meet
      case rel=>exact⟨_,(TT.mk x.k x.n t (Ys 0) (F ⟨g,0,A⟩) zs.length zs),rfl,HFi⟩
    case rest=>
    obtain⟨G',Y,rfl,HY⟩:=hcut;clear br bm bk bs be af b3;obtain⟨b9,d3,ch,ca,cn⟩:=HY.out;have ak:=a6.out.1.trans (b9.mono d1);have HN:Zj (K6 Q R x c (T.l.map Tr.ty) w (Z (Zm #[Zh #[D E (c:Int),D E Y.k,D E Y.n,D E Y.t.k,Y.t.s,D E Y.f.k,Y.f.s,Y.s,D E I.k,I.s],.bool L])) (Jc wc (w.heap.size+1) (D E (c:Int)) (D E Y.k) (D E Y.n) (D E Y.t.k) (Y.t.s) (D E Y.f.k) (Y.f.s) (Y.s) (D E I.k) (I.s))):=by
     have hk:=LM (w:=wc) (J:=w.heap.size+1) (v0:=D E (c:Int)) (v1:=D E Y.k) (v2:=D E Y.n) (v3:=D E Y.t.k) (v4:=Y.t.s) (v5:=D E Y.f.k) (v6:=Y.f.s) (v7:=Y.s) (v8:=D E I.k) (v9:=I.s);have b0:=HF.out.2.2.2.2.2.below ak;refine⟨(HF.out.2.1.trans (Yi.la ak)).new hk (by omega),.inr ⟨⟨(c:Int),Y,I⟩,?_,rfl,rfl,ch.lc hk (ca.mono fun b d=>d.2),(a6.out.2.2.1.below b9).lc hk (HI.out.2.2.2.2.1.mono fun b d=>d.2),ca.mono fun b d=>d.1,HI.out.2.2.2.2.1.mono fun b d=>d.1,?_⟩⟩
     .rw[cn];exact Bf HG.out.2.2.1 HR.out.1 HR.out.2.2.2.2.2
     .have e:c+x.sz=c+1+(x.l.map TT.sz).sum:=by have:=HM.out.2.2.2;omega
      rw[e];exact⟨hk.cell b0.c (by omega),hk.fz b0.f b0.lt (by omega)⟩
    have a1:=HF.out.1.below ak;obtain⟨e0,e1,e2,e3,e4,e5,e6,e7,e8,e9⟩:=a1.put (D E (c:Int)) (D E Y.k) (D E Y.n) (D E Y.t.k) (Y.t.s) (D E Y.f.k) (Y.f.s) (Y.s) (D E I.k) (I.s);obtain⟨_,z0,z1,z2,z3,z4,z5,z6,z7,z8,z9,fz⟩:=a1;have f0:=fz 0;have f1:=fz 1;have f2:=fz 2;have f3:=fz 3;have f4:=fz 4;have f5:=fz 5;have f6:=fz 6;have f7:=fz 7;have f8:=fz 8;have f9:=fz 9;obtain⟨y0,y1,y2,y3,y4,y5,y6⟩:=d3;simp only[Zo] at y1 y2 y3 y4 y5 y6;have c8:=a6.out.2.1.below b9;have r0:=c8.k;have r1:=c8.l;clear fz b9 ch ca cn HY ak c8 HI a6 HF HG HR HQ HM HK b8 bu;go_wp2_with fail;refine Zr (v:=Zm #[Zh #[D E (c:Int),D E Y.k,D E Y.n,D E Y.t.k,Y.t.s,D E Y.f.k,Y.f.s,Y.s,D E I.k,I.s],.bool L]) ?_ rfl HN.out;unfold Jc at e0 e1 e2 e3 e4 e5 e6 e7 e8 e9;simp[results,ZD,go_sem,e0,e1,e2,e3,e4,e5,e6,e7,e8,e9]
theorem CG(R:Nat):∀(m:Nat)(Q:Nat->Prop)(x:TT)(c:Nat)(T:Tr)(w:Zc),x.sz<=m->Aw Q R x c T w->
  Zp Zd 41 #[Zy (F ⟨R,0,A⟩),Zh #[D E x.k,D E x.n,D E x.t.k,C x.t.a x.t.l.length x.t.c,D E x.f.k,C x.f.a x.f.l.length x.f.c,C x.a x.l.length x.c],C T.a T.l.length T.c] w (K6 Q R x c (T.l.map Tr.ty) w):=by
 intro m;induction m with
 |zero=>intro Q x c T w h _;have:=x.mi;omega
 |succ m ih=>
  intro Q x c T w h b;refine Bc Q R x c T w b fun y e Q' c' d W a=>ih Q' y c' d W ?_ a;have i:=x.mr;have g:y.sz<=(x.l.map TT.sz).sum:=by have:=JE (x.l.map TT.tm) y.tm (Zv.2 ⟨y,e,rfl⟩);rw[Pt,<-y.me] at this;exact this
  omega
def B6:Zs:=Zh #[D E 0,C A 0 0]
def My(x:TT)(w:Zc)(e:Ending)(w':Zc):Prop:=ZB w.heap.size w w'/\((UC 0 x.tm=Za/\e=Z (Zm #[Zh #[D E 0,D E 0,D E 0,C A 0 0,D E 0,C A 0 0,C A 0 0],Zh #[D E 0,C A 0 0],D E 1]))\/ (UC 0 x.tm=L/\Xt x.tm [] 0=A/\e=Z (Zm #[Zh #[D E 0,D E 0,D E 0,C A 0 0,D E 0,C A 0 0,C A 0 0],Zh #[D E 0,C A 0 0],D E 2]))\/ (UC 0 x.tm=L/\∃(y:TT)(i:Tr),Xt x.tm [] 0=F (y.tm,i.ty)/\e=Z (Zm #[Zh #[D E y.k,D E y.n,D E y.t.k,C y.t.a y.t.l.length y.t.c,D E y.f.k,C y.f.a y.f.l.length y.f.c,C y.a y.l.length y.c],Zh #[D E i.k,C i.a i.l.length i.c],D E 0])/\y.In w'/\i.In w'/\YB 44 i=L))
structure CF(H:Nat)(x:TT)(W:Zc):Prop where
 at7:Uz W H 0 x
 z:MY W (H+1)
 u0:W.cell? ⟨H+1+1,0,A⟩=F (D E 0)
 u1:W.cell? ⟨H+1+1,1,A⟩=F (C A 0 0)
 g0:W.frozen? ⟨H+1+1,0,A⟩=Za
 g1:W.frozen? ⟨H+1+1,1,A⟩=Za
theorem CF.lt(h:CF H x W):H+1+1<W.heap.size:=Zk _ _ h.u0
theorem CF.below(h:CF H x W)(hb:ZB W.heap.size W W'):CF H x W':=⟨h.at7.below hb,h.z.later hb,M hb h.u0,M hb h.u1,(hb.frozen (p:=⟨H+1+1,0,A⟩) h.lt).trans h.g0,(hb.frozen (p:=⟨H+1+1,1,A⟩) h.lt).trans h.g1⟩
theorem MY.low{B:Nat}(a:ZB B V w)(d:b<B)(h:MY V b):MY w b:=by obtain⟨⟨j,z,e,k,y,h5,q⟩,m,u,o,x,r,g,l⟩:=h;have c:∀i,w.cell? ⟨b,i,A⟩=V.cell? ⟨b,i,A⟩:=fun i=>a.cell (p:=⟨b,i,A⟩) d;have f:∀i,w.frozen? ⟨b,i,A⟩=V.frozen? ⟨b,i,A⟩:=fun i=>a.frozen (p:=⟨b,i,A⟩) d;exact⟨⟨(c 0).trans j,(c 1).trans z,(c 2).trans e,(c 3).trans k,(c 4).trans y,(c 5).trans h5,(c 6).trans q⟩,(f 0).trans m,(f 1).trans u,(f 2).trans o,(f 3).trans x,(f 4).trans r,(f 5).trans g,(f 6).trans l⟩
theorem CF.low{B:Nat}(h:CF H x W)(hb:ZB B W W')(hB:H+1+1<B):CF H x W':=⟨h.at7.of fun i=>hb.cell (p:=⟨H,i,A⟩) (show H<B by omega),h.z.low hb (by omega),(hb.cell (p:=⟨H+1+1,0,A⟩) hB).trans h.u0,(hb.cell (p:=⟨H+1+1,1,A⟩) hB).trans h.u1,(hb.frozen (p:=⟨H+1+1,0,A⟩) hB).trans h.g0,(hb.frozen (p:=⟨H+1+1,1,A⟩) hB).trans h.g1⟩
theorem CF.start(x:TT)(w:Zc):CF w.heap.size x (((w.alloc (Zf #[D E x.k,D E x.n,D E x.t.k,C x.t.a x.t.l.length x.t.c,D E x.f.k,C x.f.a x.f.l.length x.f.c,C x.a x.l.length x.c] 27)).alloc (Zf #[D E 0,D E 0,D E 0,C A 0 0,D E 0,C A 0 0,C A 0 0] 27)).alloc (Zf #[D E 0,C A 0 0] 24)):=by refine⟨⟨?_,?_,?_,?_,?_,?_,?_⟩,⟨⟨?_,?_,?_,?_,?_,?_,?_⟩,?_,?_,?_,?_,?_,?_,?_⟩,?_,?_,?_,?_⟩<;>simp[go_sem]
def X1(W:Zc)(H:Nat)(y:TT)(i:Tr):Zc:=((Xd W (H+1) y).setCell ⟨H+1+1,0,A⟩ (D E i.k)).setCell ⟨H+1+1,1,A⟩ (C i.a i.l.length i.c)
theorem Je(W:Zc)(H:Nat)(y:TT)(i:Tr)(h:H+1+1<W.heap.size):ZB H W (X1 W H y i):=(((YI (w:=W) (J:=H+1) (x:=y)).below (by simp) (by omega)).mono (by omega)).trans (((Zb _ _).setCell (by show H<=H+1+1;omega) _).setCell (by show H<=H+1+1;omega) _)
theorem CF.ends(h:CF H x W)(y:TT)(i:Tr):
  (X1 W H y i).cell? ⟨H+1,0,A⟩=F (D E y.k)/\(X1 W H y i).cell? ⟨H+1,1,A⟩=F (D E y.n)/\(X1 W H y i).cell? ⟨H+1,2,A⟩=F (D E y.t.k)/\(X1 W H y i).cell? ⟨H+1,3,A⟩=F (C y.t.a y.t.l.length y.t.c)/\(X1 W H y i).cell? ⟨H+1,4,A⟩=F (D E y.f.k)/\(X1 W H y i).cell? ⟨H+1,5,A⟩=F (C y.f.a y.f.l.length y.f.c)/\(X1 W H y i).cell? ⟨H+1,6,A⟩=F (C y.a y.l.length y.c)/\(X1 W H y i).cell? ⟨H+1+1,0,A⟩=F (D E i.k)/\(X1 W H y i).cell? ⟨H+1+1,1,A⟩=F (C i.a i.l.length i.c):=by
 have q:=(JW (x:=y) h.z.box).at7;have l:Yi (H+1+1) A (Xd W (H+1) y) (X1 W H y i):=Yj.trans Yj;have p:=q.lc l (by omega);obtain⟨g,k,a,b,e,c,d⟩:=p;simp only[Zo] at g k a b e c d;have o:=(YI (w:=W) (J:=H+1) (x:=y)).cell h.u0 (by omega);have m:=(YI (w:=W) (J:=H+1) (x:=y)).cell h.u1 (by omega);refine⟨g,k,a,b,e,c,d,?_,?_⟩
 .simpa[X1] using Yp (j:=1) (v:=i.s) (Yp (j:=0) (v:=D E i.k) o)
 .simpa[X1] using Yp (j:=1) (v:=i.s) (Yp (j:=0) (v:=D E i.k) m)
theorem BO(x:TT)(w:Zc)(hg:Gp w)(hx:x.In w)(hnb:x.nb):Zp Zd 25 #[Zh #[D E x.k,D E x.n,D E x.t.k,C x.t.a x.t.l.length x.t.c,D E x.f.k,C x.f.a x.f.l.length x.f.c,C x.a x.l.length x.c]] w (My x w):=by
 have ah:=CF.start x w;obtain⟨W1,ad⟩:∃W1,W1=(((w.alloc (Zf x.v 27)).alloc (Zf #[D E 0,D E 0,D E 0,C A 0 0,D E 0,C A 0 0,C A 0 0] 27)).alloc (Zf #[D E 0,C A 0 0] 24)):=⟨_,rfl⟩
 have aj:bL w W1:=by rw[ad];exact(((Zb _ _).alloc (S _) _).alloc (by simp) _).alloc (by simp;omega) _
 rw[<-ad] at ah;obtain⟨gd,am⟩:∃gd,UC 0 x.tm=gd:=⟨_,rfl⟩
 have HG:Zj (Zp Zd 29 #[Zh x.v,D E 0] W1 fun e w'=>e=Z (.bool gd)/\bL W1 w'):=by have:=Qa x 0 W1 (hg.below aj) (hx.below aj) hnb;rw[am] at this;exact this
 have HX:=O8 hx am aj ah;obtain⟨p0,p1,p2,p3,p4,p5,p6⟩:=ah.at7;simp only[Zo] at p0 p1 p2 p3 p4 p5 p6;clear hg hx hnb ah am aj;go_enter func25,ntmps25;go_wp2_with fail;rw[<-ad];refine HG.out.mono ?_;rintro e w2 ⟨rfl,ar⟩;have c:=HX.out.2.2.2.below ar;have aa:=HX.out.2.2.1.trans (ar.mono HX.out.2.2.1.size);have a8:=Uy HX.out.1 HX.out.2.1;clear p0 p1 p2 p3 p4 p5 p6 HG HX ar ad;cases gd
 .have HN:Zj (My x w (Z (Zm #[Zh #[D E 0,D E 0,D E 0,C A 0 0,D E 0,C A 0 0,C A 0 0],Zh #[D E 0,C A 0 0],D E 1])) (X1 w2 w.heap.size (Yr 0 0) (Ys 0))):=⟨aa.trans ((Je w2 w.heap.size (Yr 0 0) (Ys 0) c.lt).mono (S _)),.inl ⟨a8.out.2,rfl⟩⟩
  obtain⟨e0,e1,e2,e3,e4,e5,e6,e7,e8⟩:=c.ends (Yr 0 0) (Ys 0);obtain⟨_,⟨⟨y0,y1,y2,y3,y4,y5,y6⟩,f0,f1,f2,f3,f4,f5,f6⟩,u0,u1,g0,g1⟩:=c;clear aa;go_wp2_with fail;refine Zr (v:=Zm #[Zh #[D E 0,D E 0,D E 0,C A 0 0,D E 0,C A 0 0,C A 0 0],Zh #[D E 0,C A 0 0],D E 1]) ?_ rfl HN.out;unfold X1 Xd at e0 e1 e2 e3 e4 e5 e6 e7 e8;simp only[Yr,Ys,List.length_nil] at e0 e1 e2 e3 e4 e5 e6 e7 e8;simp[results,ZN,go_sem,e0,e1,e2,e3,e4,e5,e6,e7,e8]
 .obtain⟨hok,hsz⟩:=Mn a8.out.2;have af:=c.lt;have ai:bL w2 (w2.alloc (Zf #[D E 0] 68)):=(Zb _ _).alloc (S _) _;have ac:=aa.trans (ai.mono aa.size);have al:x.sz<=40:=by rw[x.me];exact hsz
  have HC:Zj (Zp Zd 41 #[Zy (F ⟨w2.heap.size,0,A⟩),Zh x.v,C A 0 0] (w2.alloc (Zf #[D E 0] 68)) (K6 (fun b=>b≠w2.heap.size/\b≠w.heap.size+1/\b≠w.heap.size+1+1) w2.heap.size x 0 [] (w2.alloc (Zf #[D E 0] 68)))):=by refine CG w2.heap.size 900 _ x 0 (Ys 0) _ (by omega) ⟨hok,fun t h=>(by cases h),⟨by omega,by simp[Ys];omega⟩,a8.out.1.below ac,YC _ _,⟨by simp[go_sem],by simp[go_sem]⟩,a8.out.1.bl.mono fun b i=>⟨by omega,by omega,by omega⟩,YF _ _,fun b i=>?_,fun b i=>i.1⟩;simp only[ZC] at i;exact⟨by omega,by omega,by omega⟩
  have HB:=O8 ac (c.below ai) al hok;obtain⟨p0,p1,p2,p3,p4,p5,p6⟩:=c.at7;simp only[Zo] at p0 p1 p2 p3 p4 p5 p6;obtain⟨q0,q1,q2,q3,q4,q5,q6⟩:=(c.below ai).at7;simp only[Zo] at q0 q1 q2 q3 q4 q5 q6;clear hok hsz ac al aa ai c;go_wp2_with fail;refine HC.out.mono ?_;rintro e w3 ⟨ae,⟨az,rfl⟩|⟨r,m,rfl,hn,aw,b3,ab,b5,b8⟩⟩
  .have o:=ae.below (by simp) (by simp);have y:=HB.out.1.trans (o.mono (by omega));have hA:bL w3 (w3.alloc (Zf #[D E 0,D E 0,D E 0,D E 0,C A 0 0,D E 0,C A 0 0,C A 0 0,D E 0,C A 0 0] 64)):=(Zb _ _).alloc (S _) _;have q:=y.trans (hA.mono y.size);have c:=(HB.out.2.1.low o af).below hA;obtain⟨W4,b1⟩:∃W4,W4=(w3.alloc (Zf #[D E 0,D E 0,D E 0,D E 0,C A 0 0,D E 0,C A 0 0,C A 0 0,D E 0,C A 0 0] 64)):=⟨_,rfl⟩
   rw[<-b1] at q c;have HN:Zj (My x w (Z (Zm #[Zh #[D E 0,D E 0,D E 0,C A 0 0,D E 0,C A 0 0,C A 0 0],Zh #[D E 0,C A 0 0],D E 2])) (X1 W4 w.heap.size (Yr 0 0) (Ys 0))):=⟨q.trans ((Je W4 w.heap.size (Yr 0 0) (Ys 0) c.lt).mono (S _)),.inr (.inl ⟨a8.out.2,az,rfl⟩)⟩
   obtain⟨e0,e1,e2,e3,e4,e5,e6,e7,e8⟩:=c.ends (Yr 0 0) (Ys 0);obtain⟨_,⟨⟨y0,y1,y2,y3,y4,y5,y6⟩,f0,f1,f2,f3,f4,f5,f6⟩,u0,u1,g0,g1⟩:=c;clear q y o ae az hA HC HB p0 p1 p2 p3 p4 p5 p6 q0 q1 q2 q3 q4 q5 q6;subst b1;go_wp2_with fail;refine Zr (v:=Zm #[Zh #[D E 0,D E 0,D E 0,C A 0 0,D E 0,C A 0 0,C A 0 0],Zh #[D E 0,C A 0 0],D E 2]) ?_ rfl HN.out;unfold X1 Xd at e0 e1 e2 e3 e4 e5 e6 e7 e8;simp only[Yr,Ys,List.length_nil] at e0 e1 e2 e3 e4 e5 e6 e7 e8;simp[results,ZN,go_sem,e0,e1,e2,e3,e4,e5,e6,e7,e8]
  .obtain⟨OR,hOR⟩:∃O,O=Obj.cells #[D E r.n,D E r.y.k,D E r.y.n,D E r.y.t.k,r.y.t.s,D E r.y.f.k,r.y.f.s,r.y.s,D E r.i.k,r.i.s] 64:=⟨_,rfl⟩
   have o:=ae.below (by simp) (by simp);have y:=HB.out.1.trans (o.mono (by omega));have hA:bL w3 (w3.alloc OR):=(Zb _ _).alloc (S _) _;have q:=y.trans (hA.mono y.size);have c:CF w.heap.size x (w3.alloc OR):=(HB.out.2.1.low o af).below hA;have p:YB 44 r.i=L:=by rw[YL];have:=Kl x.tm [] 0 r.y.tm r.i.ty HB.out.2.2.2 (fun u h=>by cases h) m;have b7:=HB.out.2.2.1;rw[x.me] at b7;exact YG _ 44 _ (by omega) this
   have ao:=YS (n:=44) (by omega) p;have aq:(w3.alloc OR).cell? ⟨w3.heap.size,1,A⟩=F (D E r.y.k)/\(w3.alloc OR).cell? ⟨w3.heap.size,2,A⟩=F (D E r.y.n)/\(w3.alloc OR).cell? ⟨w3.heap.size,3,A⟩=F (D E r.y.t.k)/\(w3.alloc OR).cell? ⟨w3.heap.size,4,A⟩=F (C r.y.t.a r.y.t.l.length r.y.t.c)/\(w3.alloc OR).cell? ⟨w3.heap.size,5,A⟩=F (D E r.y.f.k)/\(w3.alloc OR).cell? ⟨w3.heap.size,6,A⟩=F (C r.y.f.a r.y.f.l.length r.y.f.c)/\(w3.alloc OR).cell? ⟨w3.heap.size,7,A⟩=F (C r.y.a r.y.l.length r.y.c)/\(w3.alloc OR).cell? ⟨w3.heap.size,8,A⟩=F (D E r.i.k)/\(w3.alloc OR).cell? ⟨w3.heap.size,9,A⟩=F (C r.i.a r.i.l.length r.i.c):=by subst hOR;refine⟨?_,?_,?_,?_,?_,?_,?_,?_,?_⟩<;>simp[go_sem]
   have b9:w.heap.size+1+1<w3.heap.size:=Nat.lt_of_lt_of_le af (by have:=o.size;simp at this;omega);obtain⟨WB,an⟩:∃WB,WB=w3.alloc OR:=⟨_,rfl⟩
   rw[<-an] at hA q c aq;have HS:Zj (∀a,bL WB a->cL a w3.heap.size 1 (D E r.y.k)/\cL a w3.heap.size 2 (D E r.y.n)/\cL a w3.heap.size 3 (D E r.y.t.k)/\cL a w3.heap.size 4 (r.y.t.s)/\cL a w3.heap.size 5 (D E r.y.f.k)/\cL a w3.heap.size 6 (r.y.f.s)/\cL a w3.heap.size 7 (r.y.s)/\cL a w3.heap.size 8 (D E r.i.k)/\cL a w3.heap.size 9 (r.i.s)):=by intro a i;obtain⟨h1,h2,h3,h4,h5,h6,h7,h8,h9⟩:=aq;exact⟨M i h1,M i h2,M i h3,M i h4,M i h5,M i h6,M i h7,M i h8,M i h9⟩
   have b4:Zj (Zp Zd 42 #[Zh r.i.v] WB.drew fun e wE=>∃t:Tr,e=Z (Zh t.v)/\Zj (t.ty=r.i.ty/\t.In wE/\t.Bl (WB.heap.size<=·))/\bL WB wE/\CF w.heap.size x wE):=by refine(Oh r.i WB.drew ((b3.below hA).below ((Zb _ _).drew)) ao.1 ao.2.1).mono ?_;rintro e wE ⟨t,rfl,h1,h2,h3,h4⟩;have h5:bL WB wE:=((Zb _ _).drew).trans (h4.mono (S _));exact⟨t,rfl,⟨h1,h2,h3⟩,h5,c.below h5⟩
   have HD:=E2 q (aw.below hA) ab p m c.lt;have b2:WB.drew.cell? ⟨w3.heap.size,1,A⟩=F (D E r.y.k)/\WB.drew.cell? ⟨w3.heap.size,2,A⟩=F (D E r.y.n)/\WB.drew.cell? ⟨w3.heap.size,3,A⟩=F (D E r.y.t.k)/\WB.drew.cell? ⟨w3.heap.size,4,A⟩=F (C r.y.t.a r.y.t.l.length r.y.t.c)/\WB.drew.cell? ⟨w3.heap.size,5,A⟩=F (D E r.y.f.k)/\WB.drew.cell? ⟨w3.heap.size,6,A⟩=F (C r.y.f.a r.y.f.l.length r.y.f.c)/\WB.drew.cell? ⟨w3.heap.size,7,A⟩=F (C r.y.a r.y.l.length r.y.c)/\WB.drew.cell? ⟨w3.heap.size,8,A⟩=F (D E r.i.k)/\WB.drew.cell? ⟨w3.heap.size,9,A⟩=F (C r.i.a r.i.l.length r.i.c):=HS.out _ ((Zb _ _).drew);have av:Zj (WB.drew.cell? ⟨w3.heap.size,1,A⟩=F (D E r.y.k)/\WB.drew.cell? ⟨w3.heap.size,2,A⟩=F (D E r.y.n)/\WB.drew.cell? ⟨w3.heap.size,3,A⟩=F (D E r.y.t.k)/\WB.drew.cell? ⟨w3.heap.size,4,A⟩=F (C r.y.t.a r.y.t.l.length r.y.t.c)/\WB.drew.cell? ⟨w3.heap.size,5,A⟩=F (D E r.y.f.k)/\WB.drew.cell? ⟨w3.heap.size,6,A⟩=F (C r.y.f.a r.y.f.l.length r.y.f.c)/\WB.drew.cell? ⟨w3.heap.size,7,A⟩=F (C r.y.a r.y.l.length r.y.c)/\WB.drew.cell? ⟨w3.heap.size,8,A⟩=F (D E r.i.k)/\WB.drew.cell? ⟨w3.heap.size,9,A⟩=F (C r.i.a r.i.l.length r.i.c)):=b2;clear o y hA q c p ao b2 hn aw b3 ab b5 b8 m ae HC HB p0 p1 p2 p3 p4 p5 p6 q0 q1 q2 q3 q4 q5 q6 af;subst hOR;go_upto_region 6 with fail;rw[<-an];have ax:Zj (WB.cell? ⟨w3.heap.size,1,A⟩=F (D E r.y.k)/\WB.cell? ⟨w3.heap.size,2,A⟩=F (D E r.y.n)/\WB.cell? ⟨w3.heap.size,3,A⟩=F (D E r.y.t.k)/\WB.cell? ⟨w3.heap.size,4,A⟩=F (C r.y.t.a r.y.t.l.length r.y.t.c)/\WB.cell? ⟨w3.heap.size,5,A⟩=F (D E r.y.f.k)/\WB.cell? ⟨w3.heap.size,6,A⟩=F (C r.y.f.a r.y.f.l.length r.y.f.c)/\WB.cell? ⟨w3.heap.size,7,A⟩=F (C r.y.a r.y.l.length r.y.c)/\WB.cell? ⟨w3.heap.size,8,A⟩=F (D E r.i.k)/\WB.cell? ⟨w3.heap.size,9,A⟩=F (C r.i.a r.i.l.length r.i.c)):=aq;have z:Zj (∀(a:Zc)(d g a2 a3 a4 a5 a6:Zs),(a.cell? ⟨w3.heap.size,1,A⟩=F (D E r.y.k)/\a.cell? ⟨w3.heap.size,2,A⟩=F (D E r.y.n)/\a.cell? ⟨w3.heap.size,3,A⟩=F (D E r.y.t.k)/\a.cell? ⟨w3.heap.size,4,A⟩=F (C r.y.t.a r.y.t.l.length r.y.t.c)/\a.cell? ⟨w3.heap.size,5,A⟩=F (D E r.y.f.k)/\a.cell? ⟨w3.heap.size,6,A⟩=F (C r.y.f.a r.y.f.l.length r.y.f.c)/\a.cell? ⟨w3.heap.size,7,A⟩=F (C r.y.a r.y.l.length r.y.c)/\a.cell? ⟨w3.heap.size,8,A⟩=F (D E r.i.k)/\a.cell? ⟨w3.heap.size,9,A⟩=F (C r.i.a r.i.l.length r.i.c))->(((((((a.setCell ⟨w.heap.size+1,0,A⟩ d).setCell ⟨w.heap.size+1,1,A⟩ g).setCell ⟨w.heap.size+1,2,A⟩ a2).setCell ⟨w.heap.size+1,3,A⟩ a3).setCell ⟨w.heap.size+1,4,A⟩ a4).setCell ⟨w.heap.size+1,5,A⟩ a5).setCell ⟨w.heap.size+1,6,A⟩ a6).cell? ⟨w3.heap.size,1,A⟩=F (D E r.y.k)/\(((((((a.setCell ⟨w.heap.size+1,0,A⟩ d).setCell ⟨w.heap.size+1,1,A⟩ g).setCell ⟨w.heap.size+1,2,A⟩ a2).setCell ⟨w.heap.size+1,3,A⟩ a3).setCell ⟨w.heap.size+1,4,A⟩ a4).setCell ⟨w.heap.size+1,5,A⟩ a5).setCell ⟨w.heap.size+1,6,A⟩ a6).cell? ⟨w3.heap.size,2,A⟩=F (D E r.y.n)/\(((((((a.setCell ⟨w.heap.size+1,0,A⟩ d).setCell ⟨w.heap.size+1,1,A⟩ g).setCell ⟨w.heap.size+1,2,A⟩ a2).setCell ⟨w.heap.size+1,3,A⟩ a3).setCell ⟨w.heap.size+1,4,A⟩ a4).setCell ⟨w.heap.size+1,5,A⟩ a5).setCell ⟨w.heap.size+1,6,A⟩ a6).cell? ⟨w3.heap.size,3,A⟩=F (D E r.y.t.k)/\(((((((a.setCell ⟨w.heap.size+1,0,A⟩ d).setCell ⟨w.heap.size+1,1,A⟩ g).setCell ⟨w.heap.size+1,2,A⟩ a2).setCell ⟨w.heap.size+1,3,A⟩ a3).setCell ⟨w.heap.size+1,4,A⟩ a4).setCell ⟨w.heap.size+1,5,A⟩ a5).setCell ⟨w.heap.size+1,6,A⟩ a6).cell? ⟨w3.heap.size,4,A⟩=F (C r.y.t.a r.y.t.l.length r.y.t.c)/\(((((((a.setCell ⟨w.heap.size+1,0,A⟩ d).setCell ⟨w.heap.size+1,1,A⟩ g).setCell ⟨w.heap.size+1,2,A⟩ a2).setCell ⟨w.heap.size+1,3,A⟩ a3).setCell ⟨w.heap.size+1,4,A⟩ a4).setCell ⟨w.heap.size+1,5,A⟩ a5).setCell ⟨w.heap.size+1,6,A⟩ a6).cell? ⟨w3.heap.size,5,A⟩=F (D E r.y.f.k)/\(((((((a.setCell ⟨w.heap.size+1,0,A⟩ d).setCell ⟨w.heap.size+1,1,A⟩ g).setCell ⟨w.heap.size+1,2,A⟩ a2).setCell ⟨w.heap.size+1,3,A⟩ a3).setCell ⟨w.heap.size+1,4,A⟩ a4).setCell ⟨w.heap.size+1,5,A⟩ a5).setCell ⟨w.heap.size+1,6,A⟩ a6).cell? ⟨w3.heap.size,6,A⟩=F (C r.y.f.a r.y.f.l.length r.y.f.c)/\(((((((a.setCell ⟨w.heap.size+1,0,A⟩ d).setCell ⟨w.heap.size+1,1,A⟩ g).setCell ⟨w.heap.size+1,2,A⟩ a2).setCell ⟨w.heap.size+1,3,A⟩ a3).setCell ⟨w.heap.size+1,4,A⟩ a4).setCell ⟨w.heap.size+1,5,A⟩ a5).setCell ⟨w.heap.size+1,6,A⟩ a6).cell? ⟨w3.heap.size,7,A⟩=F (C r.y.a r.y.l.length r.y.c)/\(((((((a.setCell ⟨w.heap.size+1,0,A⟩ d).setCell ⟨w.heap.size+1,1,A⟩ g).setCell ⟨w.heap.size+1,2,A⟩ a2).setCell ⟨w.heap.size+1,3,A⟩ a3).setCell ⟨w.heap.size+1,4,A⟩ a4).setCell ⟨w.heap.size+1,5,A⟩ a5).setCell ⟨w.heap.size+1,6,A⟩ a6).cell? ⟨w3.heap.size,8,A⟩=F (D E r.i.k)/\(((((((a.setCell ⟨w.heap.size+1,0,A⟩ d).setCell ⟨w.heap.size+1,1,A⟩ g).setCell ⟨w.heap.size+1,2,A⟩ a2).setCell ⟨w.heap.size+1,3,A⟩ a3).setCell ⟨w.heap.size+1,4,A⟩ a4).setCell ⟨w.heap.size+1,5,A⟩ a5).setCell ⟨w.heap.size+1,6,A⟩ a6).cell? ⟨w3.heap.size,9,A⟩=F (C r.i.a r.i.l.length r.i.c)):=by
    intro a d g a2 a3 a4 a5 a6 h;have j:∀k,(((((((a.setCell ⟨w.heap.size+1,0,A⟩ d).setCell ⟨w.heap.size+1,1,A⟩ g).setCell ⟨w.heap.size+1,2,A⟩ a2).setCell ⟨w.heap.size+1,3,A⟩ a3).setCell ⟨w.heap.size+1,4,A⟩ a4).setCell ⟨w.heap.size+1,5,A⟩ a5).setCell ⟨w.heap.size+1,6,A⟩ a6).cell? ⟨w3.heap.size,k,A⟩=a.cell? ⟨w3.heap.size,k,A⟩:=by
     intro k;have hk:w.heap.size+1≠w3.heap.size:=by omega
     rw[Ze _ _ _ _ (fun e=>hk (congrArg Addr.block e)),Ze _ _ _ _ (fun e=>hk (congrArg Addr.block e)),Ze _ _ _ _ (fun e=>hk (congrArg Addr.block e)),Ze _ _ _ _ (fun e=>hk (congrArg Addr.block e)),Ze _ _ _ _ (fun e=>hk (congrArg Addr.block e)),Ze _ _ _ _ (fun e=>hk (congrArg Addr.block e)),Ze _ _ _ _ (fun e=>hk (congrArg Addr.block e))]
    obtain⟨h1,h2,h3,h4,h5,h6,h7,h8,h9⟩:=h;exact⟨(j _).trans h1,(j _).trans h2,(j _).trans h3,(j _).trans h4,(j _).trans h5,(j _).trans h6,(j _).trans h7,(j _).trans h8,(j _).trans h9⟩
   have a7:Zj (∀(a:Zc)(d g:Zs),(a.cell? ⟨w3.heap.size,1,A⟩=F (D E r.y.k)/\a.cell? ⟨w3.heap.size,2,A⟩=F (D E r.y.n)/\a.cell? ⟨w3.heap.size,3,A⟩=F (D E r.y.t.k)/\a.cell? ⟨w3.heap.size,4,A⟩=F (C r.y.t.a r.y.t.l.length r.y.t.c)/\a.cell? ⟨w3.heap.size,5,A⟩=F (D E r.y.f.k)/\a.cell? ⟨w3.heap.size,6,A⟩=F (C r.y.f.a r.y.f.l.length r.y.f.c)/\a.cell? ⟨w3.heap.size,7,A⟩=F (C r.y.a r.y.l.length r.y.c)/\a.cell? ⟨w3.heap.size,8,A⟩=F (D E r.i.k)/\a.cell? ⟨w3.heap.size,9,A⟩=F (C r.i.a r.i.l.length r.i.c))->((a.setCell ⟨w.heap.size+1+1,0,A⟩ d).setCell ⟨w.heap.size+1+1,1,A⟩ g).cell? ⟨w3.heap.size,1,A⟩=F (D E r.y.k)/\((a.setCell ⟨w.heap.size+1+1,0,A⟩ d).setCell ⟨w.heap.size+1+1,1,A⟩ g).cell? ⟨w3.heap.size,2,A⟩=F (D E r.y.n)/\((a.setCell ⟨w.heap.size+1+1,0,A⟩ d).setCell ⟨w.heap.size+1+1,1,A⟩ g).cell? ⟨w3.heap.size,3,A⟩=F (D E r.y.t.k)/\((a.setCell ⟨w.heap.size+1+1,0,A⟩ d).setCell ⟨w.heap.size+1+1,1,A⟩ g).cell? ⟨w3.heap.size,4,A⟩=F (C r.y.t.a r.y.t.l.length r.y.t.c)/\((a.setCell ⟨w.heap.size+1+1,0,A⟩ d).setCell ⟨w.heap.size+1+1,1,A⟩ g).cell? ⟨w3.heap.size,5,A⟩=F (D E r.y.f.k)/\((a.setCell ⟨w.heap.size+1+1,0,A⟩ d).setCell ⟨w.heap.size+1+1,1,A⟩ g).cell? ⟨w3.heap.size,6,A⟩=F (C r.y.f.a r.y.f.l.length r.y.f.c)/\((a.setCell ⟨w.heap.size+1+1,0,A⟩ d).setCell ⟨w.heap.size+1+1,1,A⟩ g).cell? ⟨w3.heap.size,7,A⟩=F (C r.y.a r.y.l.length r.y.c)/\((a.setCell ⟨w.heap.size+1+1,0,A⟩ d).setCell ⟨w.heap.size+1+1,1,A⟩ g).cell? ⟨w3.heap.size,8,A⟩=F (D E r.i.k)/\((a.setCell ⟨w.heap.size+1+1,0,A⟩ d).setCell ⟨w.heap.size+1+1,1,A⟩ g).cell? ⟨w3.heap.size,9,A⟩=F (C r.i.a r.i.l.length r.i.c)):=by
    intro a d g h;have j:∀k,((a.setCell ⟨w.heap.size+1+1,0,A⟩ d).setCell ⟨w.heap.size+1+1,1,A⟩ g).cell? ⟨w3.heap.size,k,A⟩=a.cell? ⟨w3.heap.size,k,A⟩:=by
     intro k;have hk:w.heap.size+1+1≠w3.heap.size:=by omega
     rw[Ze _ _ _ _ (fun e=>hk (congrArg Addr.block e)),Ze _ _ _ _ (fun e=>hk (congrArg Addr.block e))]
    obtain⟨h1,h2,h3,h4,h5,h6,h7,h8,h9⟩:=h;exact⟨(j _).trans h1,(j _).trans h2,(j _).trans h3,(j _).trans h4,(j _).trans h5,(j _).trans h6,(j _).trans h7,(j _).trans h8,(j _).trans h9⟩
   have a9:Zj (∀a,ZB WB.heap.size WB a->a.cell? ⟨w3.heap.size,1,A⟩=F (D E r.y.k)/\a.cell? ⟨w3.heap.size,2,A⟩=F (D E r.y.n)/\a.cell? ⟨w3.heap.size,3,A⟩=F (D E r.y.t.k)/\a.cell? ⟨w3.heap.size,4,A⟩=F (C r.y.t.a r.y.t.l.length r.y.t.c)/\a.cell? ⟨w3.heap.size,5,A⟩=F (D E r.y.f.k)/\a.cell? ⟨w3.heap.size,6,A⟩=F (C r.y.f.a r.y.f.l.length r.y.f.c)/\a.cell? ⟨w3.heap.size,7,A⟩=F (C r.y.a r.y.l.length r.y.c)/\a.cell? ⟨w3.heap.size,8,A⟩=F (D E r.i.k)/\a.cell? ⟨w3.heap.size,9,A⟩=F (C r.i.a r.i.l.length r.i.c)):=HS;clear an;go_region_held3 (fun a=>a.cell? ⟨w3.heap.size,1,A⟩=F (D E r.y.k)/\a.cell? ⟨w3.heap.size,2,A⟩=F (D E r.y.n)/\a.cell? ⟨w3.heap.size,3,A⟩=F (D E r.y.t.k)/\a.cell? ⟨w3.heap.size,4,A⟩=F (C r.y.t.a r.y.t.l.length r.y.t.c)/\a.cell? ⟨w3.heap.size,5,A⟩=F (D E r.y.f.k)/\a.cell? ⟨w3.heap.size,6,A⟩=F (C r.y.f.a r.y.f.l.length r.y.f.c)/\a.cell? ⟨w3.heap.size,7,A⟩=F (C r.y.a r.y.l.length r.y.c)/\a.cell? ⟨w3.heap.size,8,A⟩=F (D E r.i.k)/\a.cell? ⟨w3.heap.size,9,A⟩=F (C r.i.a r.i.l.length r.i.c))
    (first
     |(with_reducible exact ax.out)
     |(with_reducible exact av.out)
     |(with_reducible exact a9.out _ l)
     |(with_reducible exact z.out _ _ _ _ _ _ _ _ (a9.out _ l))
     |(with_reducible exact a7.out _ _ _ (a9.out _ l))
     |(with_reducible exact a7.out _ _ _ (z.out _ _ _ _ _ _ _ _ (a9.out _ l)))
     |(with_reducible exact z.out _ _ _ _ _ _ _ _ (a7.out _ _ _ (a9.out _ l)))
     |fail)
    (first
     |(go_at_call 42;(with_reducible refine b4.out.mono ?_);rintro e wE ⟨t,rfl,HT,l,ak⟩;have ap:Zj (CF w.heap.size x wE):=ak;obtain⟨_,⟨⟨y0,y1,y2,y3,y4,y5,y6⟩,f0,f1,f2,f3,f4,f5,f6⟩,u0,u1,g0,g1⟩:=ak)
     |fail)
   have HN:Zj (My x w (Z (Zm #[Zh r.y.v,Zh t.v,D E 0])) (X1 wE w.heap.size r.y t)):=by
    obtain⟨ay,b6,ab,p,m,ba⟩:=HD.out;have au:=YI (w:=wE) (J:=w.heap.size+1) (x:=r.y);have b0:Yi (w.heap.size+1+1) A (Xd wE (w.heap.size+1) r.y) (X1 wE w.heap.size r.y t):=Yj.trans Yj;refine⟨(ay.trans (l.mono ay.size)).trans (Je wE w.heap.size r.y t ap.out.lt),.inr (.inr ⟨a8.out.2,r.y,t,?_,rfl,?_,?_,?_⟩)⟩
    .rw[HT.out.1];exact m
    .exact((b6.below l).lc au (ab.mono fun b i=>i.2.1)).lc b0 (ab.mono fun b i=>i.2.2)
    .exact(HT.out.2.1.lc au (HT.out.2.2.mono fun b i=>by omega)).lc b0 (HT.out.2.2.mono fun b i=>by omega)
    .rw[YL,HT.out.1,<-YL];exact p
   obtain⟨e0,e1,e2,e3,e4,e5,e6,e7,e8⟩:=ap.out.ends r.y t;clear y0 y1 y2 y3 y4 y5 y6 f0 f1 f2 f3 f4 f5 f6 u0 u1 g0 g1 ax av a9 z a7 HS b4 HD ap HT l;go_wp2_with fail;refine Zr (v:=Zm #[Zh r.y.v,Zh t.v,D E 0]) ?_ rfl HN.out;unfold X1 Xd at e0 e1 e2 e3 e4 e5 e6 e7 e8;simp[results,ZN,go_sem,e0,e1,e2,e3,e4,e5,e6,e7,e8]
structure LX(Q:Nat->Prop)(base:Nat)(v:Zs)(cs:List TT)(w:Zc):Prop where
 own:w.ownsRow base 27 7 v cs.length (YW cs)
 ins:∀c,c∈cs->c.In w/\c.Bl (fun b=>Q b/\F b≠v.ownBlock)
theorem LX.nil(Q:Nat->Prop)(base:Nat)(w:Zc):LX Q base (C A 0 0) [] w:=⟨ZS _ _ _ _,fun c h=>by cases h⟩
theorem LX.below{v:Zs}(h:LX Q base v cs w)(d:ZB w.heap.size w w'):LX Q base v cs w':=by
 refine⟨⟨h.own.1,?_⟩,fun c i=>⟨(h.ins c i).1.below d,(h.ins c i).2⟩⟩;rcases h.own.2 with k|⟨g,cap,a,j,b,e,rest⟩
 .exact .inl k
 .exact .inr ⟨g,cap,a,j,b,(d.block g (Zw.1 e).1).trans e,rest⟩
theorem LX.lt{v:Zs}(h:LX Q base v cs w)(k:Nat)(hk:v.ownBlock=F k):base<=k/\k<w.heap.size:=h.own.lt k hk
theorem LX.step{v:Zs}{w2 w3:Zc}{c:TT}{gg cap1:Nat}{X:Obj}(h:LX Q base v cs w2)(hi:c.In w2)(l:c.Bl (fun b=>Q b/\F b≠v.ownBlock))
  (p:w3.ownsRow base 27 7 (C (F ⟨gg,0,A⟩) (cs.length+1) cap1) (cs.length+1) (YW cs++YW [c])) (o:(w2.alloc X).grownBy w3 v.ownBlock) (r:v.ownBlock=F gg\/gg=w2.heap.size+1) :
  LX Q base (C (F ⟨gg,0,A⟩) (cs.length+1) cap1) (cs++[c]) w3/\∀k,k<w2.heap.size->F k≠v.ownBlock->w3.heap[k]?=w2.heap[k]?:=by
 have g:∀k,k<w2.heap.size->F k≠v.ownBlock->w3.heap[k]?=w2.heap[k]?:=fun k x w=>by rw[o.block k (by simp;omega) w];exact((Zb _ w2).alloc (S _) X).block k x
 refine⟨⟨by rw[JQ,ZE,ZM];exact p,fun d hd=>?_⟩,g⟩;have j:d.In w2/\d.Bl (fun b=>Q b/\F b≠v.ownBlock):=by
  rcases ZJ.1 hd with hd|hd
  .exact h.ins d hd
  .rcases ZF.1 hd with rfl;exact⟨hi,l⟩
 have q:∀b,b<w2.heap.size/\(Q b/\F b≠v.ownBlock)->Q b/\F b≠(Value.slice (F ⟨gg,0,A⟩) (cs.length+1) cap1).ownBlock:=by
  intro b l;refine⟨l.2.1,?_⟩;show F b≠F gg
  rcases r with e|e
  .rw[<-e];exact l.2.2
  .simp only[ne_eq,ZT];omega
 have m:∀b,b<w2.heap.size/\(Q b/\F b≠v.ownBlock)->∀i,w3.cell? ⟨b,i,A⟩=w2.cell? ⟨b,i,A⟩:=fun b l i=>Zt (a:=⟨b,i,A⟩) (g b l.1 l.2.2)
 have u:=j.1.bl.and j.2;exact⟨j.1.congr (P:=fun b=>b<w2.heap.size/\(Q b/\F b≠v.ownBlock)) m u,u.mono q⟩
theorem LX.list{v:Zs}(h:LX Q base v cs w):∃a c,v=C a cs.length c/\(∀j(hj:j<cs.length),∃b o,a=F ⟨b,o,A⟩/\Uz w b (o+j*7) cs[j])/\(∀y,cs≠[]->a=F y->base<=y.block):=by
 rcases h.own.2 with⟨rfl,m⟩|⟨g,cap,e,rfl,l,_⟩
 .have:cs=[]:=ZH.1 m;subst this;exact⟨A,0,rfl,fun j hj=>absurd hj (by simp),fun y h=>absurd rfl h⟩
 .refine⟨_,_,rfl,fun j hj=>⟨g,0,rfl,?_⟩,fun y _ k=>by cases k;exact l⟩;have d:∀i,i<7->w.cell? ⟨g,0+j*7+i,A⟩=_:=fun i hi=>by rw[Zo,h.own.cellAt (j*7+i) (by omega),Ls cs j hj i hi]
  exact⟨d 0 (by omega),d 1 (by omega),d 2 (by omega),d 3 (by omega),d 4 (by omega),d 5 (by omega),d 6 (by omega)⟩
structure LF(H:Nat)(x:TT)(W:Zc):Prop where
 b:XC W H x
 z:MY W (H+1)
theorem LF.lt(h:LF H x W):H+1<W.heap.size:=h.z.lt
theorem LF.below(h:LF H x W)(hb:ZB W.heap.size W W'):LF H x W':=⟨h.b.below hb,h.z.later hb⟩
theorem LF.far(h:LF H x W)(e:W'.heap[H]?=W.heap[H]?)(d:W'.heap[H+1]?=W.heap[H+1]?):LF H x W':=by have z:∀i,W'.cell? ⟨H,i,A⟩=W.cell? ⟨H,i,A⟩:=fun i=>Zt (a:=⟨H,i,A⟩) e;have b:∀i,W'.cell? ⟨H+1,i,A⟩=W.cell? ⟨H+1,i,A⟩:=fun i=>Zt (a:=⟨H+1,i,A⟩) d;have r:∀i,W'.frozen? ⟨H,i,A⟩=W.frozen? ⟨H,i,A⟩:=fun i=>ZA (a:=⟨H,i,A⟩) e;have c:∀i,W'.frozen? ⟨H+1,i,A⟩=W.frozen? ⟨H+1,i,A⟩:=fun i=>ZA (a:=⟨H+1,i,A⟩) d;obtain⟨⟨y0,y1,y,u,o,m,j⟩,w,l,p,g3,g,q,k⟩:=h.z;exact⟨⟨h.b.at7.of z,fun i hi=>(r i).trans (h.b.fz i hi)⟩,⟨(b 0).trans y0,(b 1).trans y1,(b 2).trans y,(b 3).trans u,(b 4).trans o,(b 5).trans m,(b 6).trans j⟩,(c 0).trans w,(c 1).trans l,(c 2).trans p,(c 3).trans g3,(c 4).trans g,(c 5).trans q,(c 6).trans k⟩
theorem LF.start(x:TT)(w:Zc):LF w.heap.size x ((w.alloc (Zf #[D E x.k,D E x.n,D E x.t.k,C x.t.a x.t.l.length x.t.c,D E x.f.k,C x.f.a x.f.l.length x.f.c,C x.a x.l.length x.c] 27)).alloc (Zf #[D E 0,D E 0,D E 0,C A 0 0,D E 0,C A 0 0,C A 0 0] 27)):=by refine⟨⟨⟨?_,?_,?_,?_,?_,?_,?_⟩,fun i _=>?_⟩,⟨?_,?_,?_,?_,?_,?_,?_⟩,?_,?_,?_,?_,?_,?_,?_⟩<;>simp[go_sem]
def TT.lw:TT->Prop
 |⟨_,_,_,_,_,_,l⟩=>l.length<=1353245080300/\∀y,y∈l->y.lw
theorem TT.px{n:Int}{t f:Tr}{a:Option Addr}{l:List TT}:(TT.mk k n t f a c l).lw↔l.length<=1353245080300/\∀y,y∈l->y.lw:=by rw[TT.lw]
theorem TT.lw.len(h:x.lw):x.l.length<=1353245080300:=by cases x;exact(TT.px.1 h).1
theorem TT.lw.mem{y:TT}(h:x.lw)(b:y∈x.l):y.lw:=by obtain⟨k,n,t,f,a,c,l⟩:=x;exact(TT.px.1 h).2 y b
theorem MY.kept(h:MY w b)(a:Yi R A w w')(c:b≠R):MY w' b:=by have d:=h.lt;obtain⟨⟨r,p,k,u,l,q,g⟩,y,j,e,m,i,o,x⟩:=h;exact⟨⟨a.cell r c,a.cell p c,a.cell k c,a.cell u c,a.cell l c,a.cell q c,a.cell g c⟩,a.fz y d c,a.fz j d c,a.fz e d c,a.fz m d c,a.fz i d c,a.fz o d c,a.fz x d c⟩
def Ty.sz:Ty->Nat
 |⟨_,l⟩=>(l.map fun t=>t.sz).sum+1
theorem Ty.lm(k:Int)(l:List Ty):(Ty.mk k l).sz=(l.map Ty.sz).sum+1:=by rw[Ty.sz]
theorem Tr.qo(t:Tr):t.sz=t.ty.sz:=by
 induction t using Tr.ind with
 |h k a c l ih=>rw[Tr.lh,Tr.lm,Ty.lm,ZI];have:l.map Tr.sz=l.map (Ty.sz∘Tr.ty):=ZP fun x b=>ih x b;rw[this]
theorem P8:∀(n:Nat)(t:Ty),Ym n t=L->t.sz+1<=2 ^ n
 |0,t,h=>by simp[Ym] at h
 |n+1,t,h=>by
  have hp:1<=2 ^ n:=Nat.one_le_two_pow;rw[Nat.pow_succ];rcases Yz h with⟨k,rfl,_⟩|⟨x,y,rfl,hx,hy⟩
  .rw[Ty.lm];simp;omega
  .have h1:=P8 n x hx;have h2:=P8 n y hy;rw[Ty.lm];simp only[Zg,ZQ,Zi,ZR];omega
end Go.Proofs.YtnddkmccagiclabGreatDoor
