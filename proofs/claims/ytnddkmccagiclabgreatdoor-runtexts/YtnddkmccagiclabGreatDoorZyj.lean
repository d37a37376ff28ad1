import Derived.Test.YtnddkmccagiclabGreatDoorZye
import Derived.Test.YtnddkmccagiclabGreatDoorZyg
import Derived.Laws.EntriesVeiled
set_option maxRecDepth 20000
set_option maxHeartbeats 16000000
open Go.RowKit Go.Proofs.Tryz
open List renaming setIfInBounds_toArray→C,set_cons_zero→D,set_cons_succ→H,getElem_mem→ZF,map_cons→ZL,getElem?_eq_getElem→ZM,mem_cons→ZP
open Go.Value renaming int→I,pointer→O,slice→Zd,agg→Zk,oneCell'→ZN
open Go.IntKind renaming i64→J
open Option renaming none→L,some→Za
open Go.Proofs.Tryz renaming prog→N,results59→Zs,results97→Zx,results131→ZA,ntmps59→ZD,results95→ZE,func59→ZG,ntmps97→ZI,func97→ZJ,underlying157→ZR
open Go.Act renaming put→Zb
open Bool renaming true→Zc,false→Zo
open Go.RowKit.Below renaming refl→Ze
open Go renaming World→Zf,bodyPost_ret→Zj,Calls→Zn,wpAnyH_done→Zq,Addr→Zr,stored→Zt,wp_region_held_drew→Zu,store→Zv,Value→Zy,cell_later→Zz,Mode→ZB
open Nat renaming le_refl→Zg,zero_add→Zh,le_trans→ZC,add_assoc→ZQ,zero_mul→ZS,add_zero→ZT
open Go.World renaming block_lt_of_cell?→Zi,cell?_of_block→ZH
open Go.Obj renaming cells→Zl
open Go.RowKit renaming Hid→Zm,Below→ZK
open Go.Ending renaming returned→Zp
open Option.some renaming inj→Zw
open Go.Region renaming wanted→ZO
namespace Go.Proofs.YtnddkmccagiclabGreatDoor
variable {V W W1 w w':Zf}{M R b b0 i:Nat}{o:XG}{Q Q':Nat->Prop}{back m:Bool}{ea:Option Zr}{no:Int}{P:Program}
structure Th where
 k:Int
 n:Int
 fn:Zy
 tag:Int
 wy:Nat
 b1:Nat
 b2:Nat
 b3:Nat
 b4:Nat
 b5:Nat
 b6:Nat
 x:TT
 ea:Option Zr
 ec:Nat
 env:List Th
 f:Tr
 t:Tr
 no:Int
 back:Bool
 inn:List Th
theorem Th.ind{P:Th->Prop}(h:∀h:Th,(∀y,y∈h.env->P y)->(∀y,y∈h.inn->P y)->P h):∀h,P h
 |⟨k,n,fn,tag,wy,b1,b2,b3,b4,b5,b6,x,ea,ec,env,f,t,no,back,inn⟩=>h ⟨k,n,fn,tag,wy,b1,b2,b3,b4,b5,b6,x,ea,ec,env,f,t,no,back,inn⟩ (fun y _=>Th.ind h y) (fun y _=>Th.ind h y)
def Th.ag(h:Th):Zy:=Zk #[I J h.k,I J h.n,h.fn,I J h.tag]
def Th.bl(h:Th):XG:=⟨4,h.no,h.back⟩
def Th.cv:Th->YJ
 |⟨k,n,_,_,wy,_,_,_,_,_,_,x,_,_,env,f,t,no,back,inn⟩=>
  if wy=1 then NM (x.tm.at 0) (env.map fun e=>if e.tag=0 then e.cv else XX e.cv e.tag)
  else if wy=2 then Y9 ((inn.map fun e=>e.cv).headD (XP 0)) (Yq (t.ty.l.getD 0 Yk) (f.ty.l.getD 0 Yk) (KL ⟨4,no,back⟩)) (Yq (f.ty.l.getD 1 Yk) (t.ty.l.getD 1 Yk) ⟨4,no,back⟩)
  else if k=1 then XP n else Xp n
def Th.val(h:Th):YJ:=if h.tag=0 then h.cv else XX h.cv h.tag
theorem Th.mh(h:Th):h.cv=if h.wy=1 then NM (h.x.tm.at 0) (h.env.map Th.val)
  else if h.wy=2 then Y9 ((h.inn.map Th.cv).headD (XP 0)) (Yq (h.t.ty.l.getD 0 Yk) (h.f.ty.l.getD 0 Yk) (KL h.bl)) (Yq (h.f.ty.l.getD 1 Yk) (h.t.ty.l.getD 1 Yk) h.bl)
  else if h.k=1 then XP h.n else Xp h.n:=by
 cases h
 rw[Th.cv];rfl
structure QM(w:Zf)(b o:Nat)(h:Th):Prop where
 c0:w.cell? ⟨b,o,L⟩=Za (I J h.k)
 c1:w.cell? ⟨b,o+1,L⟩=Za (I J h.n)
 c2:w.cell? ⟨b,o+2,L⟩=Za h.fn
 c3:w.cell? ⟨b,o+3,L⟩=Za (I J h.tag)
theorem QM.of{o:Nat}{x:Th}(h:QM w b o x)(e:∀i,w'.cell? ⟨b,i,L⟩=w.cell? ⟨b,i,L⟩):QM w' b o x:=⟨(e _).trans h.c0,(e _).trans h.c1,(e _).trans h.c2,(e _).trans h.c3⟩
theorem QM.lt{o:Nat}{x:Th}(h:QM w b o x):b<w.heap.size:=Zi _ _ h.c0
def XR(Q:Nat->Prop)(w w':Zf):Prop:=∀b,b<w.heap.size->Q b->w'.heap[b]?=w.heap[b]?
theorem XR.cell(h:XR Q w w'){v:Zy}(hc:w.cell? ⟨b,i,L⟩=Za v)(hb:Q b):w'.cell? ⟨b,i,L⟩=Za v:=(ZH (a:=⟨b,i,L⟩) (h b (Zi _ _ hc) hb)).trans hc
theorem XR.la(h:ZK w.heap.size w w'):XR Q w w':=fun b hb _=>h.block b hb
theorem XR.mb(h:Yi R L w w')(hQ:¬Q R):XR Q w w':=fun b hb hq=>h.block b hb (fun e=>hQ (e▸hq)) (by simp)
theorem QM.same{o:Nat}{x:Th}(h:QM w b o x)(hk:XR Q w w')(hb:Q b):QM w' b o x:=⟨hk.cell h.c0 hb,hk.cell h.c1 hb,hk.cell h.c2 hb,hk.cell h.c3 hb⟩
theorem Uz.same{o:Nat}{x:TT}(h:Uz w b o x)(hk:XR Q w w')(hb:Q b):Uz w' b o x:=⟨hk.cell h.c0 hb,hk.cell h.c1 hb,hk.cell h.c2 hb,hk.cell h.c3 hb,hk.cell h.c4 hb,hk.cell h.c5 hb,hk.cell h.c6 hb⟩
theorem TT.In.same{x:TT}(h:x.In w)(hk:XR Q w w')(hb:x.Bl Q):x.In w':=h.congr (P:=fun b=>b<w.heap.size/\Q b) (fun b hb o=>ZH (a:=⟨b,o,L⟩) (hk b hb.1 hb.2)) (h.bl.and hb)
theorem Tr.In.same{x:Tr}(h:x.In w)(hk:XR Q w w')(hb:x.Bl Q):x.In w':=h.congr (P:=fun b=>b<w.heap.size/\Q b) (fun b hb o=>ZH (a:=⟨b,o,L⟩) (hk b hb.1 hb.2)) (h.bl.and hb)
structure Ef(h:Th):Prop where
 fn:h.fn=.nilFunc
 k:h.k=1\/h.k=2
 nb:-1000000<=h.n/\h.n<=1000000
def Bo:Tm->Prop
 |⟨k,_,_,_,l⟩=>k≠10/\∀x,x∈l->Bo x
theorem CV{k n:Int}{t f:Ty}{l:List Tm}:Bo ⟨k,n,t,f,l⟩↔k≠10/\∀x,x∈l->Bo x:=by rw[Bo]
theorem Bo.top{x:Tm}(h:Bo x):x.k≠10:=by cases x;exact(CV.1 h).1
theorem Bo.part{x:Tm}(h:Bo x){j:Nat}(a:j<x.l.length):Bo (x.at j):=by
 have b:=Tm.at_mem (x:=x) a;cases x
 exact(CV.1 h).2 _ b
structure Eg(m:Bool)(M R:Nat)(Q:Nat->Prop)(w:Zf)(h:Th):Prop where
 k:h.k=3
 fn:h.fn=.func (.func 95) #[] #[O (Za ⟨h.b1,0,L⟩),O (Za ⟨h.b2,0,L⟩),O (Za ⟨h.b3,0,L⟩)]
 b1:Q h.b1
 b2:Q h.b2
 b3:Q h.b3
 w1:w.cell? ⟨h.b1,0,L⟩=Za (O (Za ⟨R,0,L⟩))
 x7:Uz w h.b2 0 h.x
 xi:h.x.In w
 xb:h.x.Bl Q
 xk:h.x.k=7
 xs:L9 h.x.tm/\(m=Zo->Bo h.x.tm)
 sz:h.x.tm.mj+h.env.length<=M
 e3:w.cell? ⟨h.b3,0,L⟩=Za (Zd h.ea h.env.length h.ec)
 env:∀j(l:j<h.env.length),∃b o,h.ea=Za ⟨b,o,L⟩/\Q b/\QM w b (o+j*4) h.env[j]
structure BZ(R:Nat)(Q:Nat->Prop)(w:Zf)(h:Th)(v:Th):Prop where
 inn:h.inn=[v]
 k:h.k=3
 fn:h.fn=.func (.func 131) #[] #[O (Za ⟨h.b1,0,L⟩),O (Za ⟨h.b2,0,L⟩),O (Za ⟨h.b3,0,L⟩),O (Za ⟨h.b4,0,L⟩),O (Za ⟨h.b5,0,L⟩),O (Za ⟨h.b6,0,L⟩)]
 b1:Q h.b1
 b2:Q h.b2
 b3:Q h.b3
 b4:Q h.b4
 b5:Q h.b5
 b6:Q h.b6
 w1:w.cell? ⟨h.b1,0,L⟩=Za (O (Za ⟨R,0,L⟩))
 t0:w.cell? ⟨h.b2,0,L⟩=Za (I J h.t.k)
 t1:w.cell? ⟨h.b2,1,L⟩=Za (Zd h.t.a h.t.l.length h.t.c)
 f0:w.cell? ⟨h.b3,0,L⟩=Za (I J h.f.k)
 f1:w.cell? ⟨h.b3,1,L⟩=Za (Zd h.f.a h.f.l.length h.f.c)
 n4:w.cell? ⟨h.b4,0,L⟩=Za (I J h.no)
 k5:w.cell? ⟨h.b5,0,L⟩=Za (.bool h.back)
 v6:QM w h.b6 0 v
 ti:h.t.In w
 fi:h.f.In w
 tb:h.t.Bl Q
 fb:h.f.Bl Q
 tg:Ym 46 h.t.ty=Zc
 fg:Ym 46 h.f.ty=Zc
 tk:h.t.k=3
 fk:h.f.k=3
 fits:YD Yl h.f.ty h.t.ty=Zc
 ty:UJ v.cv h.f.ty
 vt:v.tag=0
def Th.In(m:Bool)(M R:Nat)(Q:Nat->Prop)(w:Zf):Th->Prop
 |⟨k,n,fn,tag,wy,b1,b2,b3,b4,b5,b6,x,ea,ec,env,f,t,no,back,inn⟩=>
  (wy=0/\Ef ⟨k,n,fn,tag,wy,b1,b2,b3,b4,b5,b6,x,ea,ec,env,f,t,no,back,inn⟩)\/
  (wy=1/\Eg m M R Q w ⟨k,n,fn,tag,wy,b1,b2,b3,b4,b5,b6,x,ea,ec,env,f,t,no,back,inn⟩/\∀e,e∈env->e.In m M R Q w)\/
  (wy=2/\m=Zc/\(∃v,BZ R Q w ⟨k,n,fn,tag,wy,b1,b2,b3,b4,b5,b6,x,ea,ec,env,f,t,no,back,inn⟩ v)/\∀e,e∈inn->e.In m M R Q w)
theorem Th.lk{h:Th}:h.In m M R Q w↔(h.wy=0/\Ef h)\/(h.wy=1/\Eg m M R Q w h/\∀e,e∈h.env->e.In m M R Q w)\/(h.wy=2/\m=Zc/\(∃v,BZ R Q w h v)/\∀e,e∈h.inn->e.In m M R Q w):=by
 cases h
 rw[Th.In]
theorem Eg.same{h:Th}(c:Eg m M R Q w h)(hk:XR Q w w'):Eg m M R Q w' h:=⟨c.k,c.fn,c.b1,c.b2,c.b3,hk.cell c.w1 c.b1,c.x7.same hk c.b2,c.xi.same hk c.xb,c.xb,c.xk,c.xs,c.sz,hk.cell c.e3 c.b3,fun j l=>by obtain⟨b,o,e,hb,h4⟩:=c.env j l;exact⟨b,o,e,hb,h4.same hk hb⟩⟩
theorem BZ.same{h v:Th}(c:BZ R Q w h v)(hk:XR Q w w'):BZ R Q w' h v:=⟨c.inn,c.k,c.fn,c.b1,c.b2,c.b3,c.b4,c.b5,c.b6,hk.cell c.w1 c.b1,hk.cell c.t0 c.b2,hk.cell c.t1 c.b2,hk.cell c.f0 c.b3,hk.cell c.f1 c.b3,hk.cell c.n4 c.b4,hk.cell c.k5 c.b5,c.v6.same hk c.b6,c.ti.same hk c.tb,c.fi.same hk c.fb,c.tb,c.fb,c.tg,c.fg,c.tk,c.fk,c.fits,c.ty,c.vt⟩
theorem Eg.mono{h:Th}(c:Eg m M R Q w h)(hq:∀b,b<w.heap.size->Q b->Q' b):Eg m M R Q' w h:=⟨c.k,c.fn,hq _ (Zi _ _ c.w1) c.b1,hq _ c.x7.lt c.b2,hq _ (Zi _ _ c.e3) c.b3,c.w1,c.x7,c.xi,(c.xi.bl.and c.xb).mono fun b hb=>hq b hb.1 hb.2,c.xk,c.xs,c.sz,c.e3,fun j l=>by obtain⟨b,o,e,hb,h4⟩:=c.env j l;exact⟨b,o,e,hq _ h4.lt hb,h4⟩⟩
theorem BZ.mono{h v:Th}(c:BZ R Q w h v)(hq:∀b,b<w.heap.size->Q b->Q' b):BZ R Q' w h v:=⟨c.inn,c.k,c.fn,hq _ (Zi _ _ c.w1) c.b1,hq _ (Zi _ _ c.t0) c.b2,hq _ (Zi _ _ c.f0) c.b3,hq _ (Zi _ _ c.n4) c.b4,hq _ (Zi _ _ c.k5) c.b5,hq _ c.v6.lt c.b6,c.w1,c.t0,c.t1,c.f0,c.f1,c.n4,c.k5,c.v6,c.ti,c.fi,(c.ti.bl.and c.tb).mono fun b hb=>hq b hb.1 hb.2,(c.fi.bl.and c.fb).mono fun b hb=>hq b hb.1 hb.2,c.tg,c.fg,c.tk,c.fk,c.fits,c.ty,c.vt⟩
theorem Th.In.same{m:Bool}{M R:Nat}{Q:Nat->Prop}{w w':Zf}(hk:XR Q w w'){h:Th}:h.In m M R Q w->h.In m M R Q w':=by
 induction h using Th.ind with
 |h h ie ii=>
  intro hi;rcases Th.lk.1 hi with i|⟨g,j,b⟩|⟨d,a,⟨v,c⟩,b⟩
  .exact Th.lk.2 (.inl i)
  .exact Th.lk.2 (.inr (.inl ⟨g,j.same hk,fun e a=>ie e a (b e a)⟩))
  .exact Th.lk.2 (.inr (.inr ⟨d,a,⟨v,c.same hk⟩,fun e a=>ii e a (b e a)⟩))
theorem Th.In.mono{m:Bool}{M R:Nat}{Q Q':Nat->Prop}{w:Zf}(hq:∀b,b<w.heap.size->Q b->Q' b){h:Th}:h.In m M R Q w->h.In m M R Q' w:=by
 induction h using Th.ind with
 |h h ie ii=>
  intro hi;rcases Th.lk.1 hi with j|⟨i,k,c⟩|⟨g,a,⟨v,d⟩,c⟩
  .exact Th.lk.2 (.inl j)
  .exact Th.lk.2 (.inr (.inl ⟨i,k.mono hq,fun e a=>ie e a (c e a)⟩))
  .exact Th.lk.2 (.inr (.inr ⟨g,a,⟨v,d.mono hq⟩,fun e a=>ii e a (c e a)⟩))
theorem Th.In.tag{h:Th}(s:Int)(hi:h.In m M R Q w):({h with tag:=s}:Th).In m M R Q w:=by
 rcases Th.lk.1 hi with⟨g,p⟩|⟨e,c,a⟩|⟨d,b,⟨v,p⟩,a⟩
 .exact Th.lk.2 (.inl ⟨g,⟨p.fn,p.k,p.nb⟩⟩)
 .exact Th.lk.2 (.inr (.inl ⟨e,⟨c.k,c.fn,c.b1,c.b2,c.b3,c.w1,c.x7,c.xi,c.xb,c.xk,c.xs,c.sz,c.e3,c.env⟩,a⟩))
 .exact Th.lk.2 (.inr (.inr ⟨d,b,⟨v,⟨p.inn,p.k,p.fn,p.b1,p.b2,p.b3,p.b4,p.b5,p.b6,p.w1,p.t0,p.t1,p.f0,p.f1,p.n4,p.k5,p.v6,p.ti,p.fi,p.tb,p.fb,p.tg,p.fg,p.tk,p.fk,p.fits,p.ty,p.vt⟩⟩,a⟩))
theorem Th.ns(h:Th)(s:Int):({h with tag:=s}:Th).cv=h.cv:=by rw[Th.mh,Th.mh];rfl
theorem Th.In.one{h:Th}(hi:h.In m M R Q w):h.fn.oneCell'=Zc:=by
 rcases Th.lk.1 hi with⟨_,p⟩|⟨_,c,_⟩|⟨_,_,⟨v,p⟩,_⟩
 .rw[p.fn];rfl
 .rw[c.fn];rfl
 .rw[p.fn];rfl
structure Qt(m:Bool)(M R:Nat)(Q:Nat->Prop)(w:Zf)(ea:Option Zr)(E:List Th):Prop where
 at4:∀j(l:j<E.length),∃b o,ea=Za ⟨b,o,L⟩/\Q b/\QM w b (o+j*4) E[j]
 ins:∀e,e∈E->e.In m M R Q w
theorem Qt.same{E:List Th}(h:Qt m M R Q w ea E)(hk:XR Q w w'):Qt m M R Q w' ea E:=⟨fun j l=>by obtain⟨b,o,e,hb,h4⟩:=h.at4 j l;exact⟨b,o,e,hb,h4.same hk hb⟩,fun e he=>(h.ins e he).same hk⟩
theorem Qt.mono{E:List Th}(h:Qt m M R Q w ea E)(hq:∀b,b<w.heap.size->Q b->Q' b):Qt m M R Q' w ea E:=⟨fun j l=>by obtain⟨b,o,e,hb,h4⟩:=h.at4 j l;exact⟨b,o,e,hq b h4.lt hb,h4⟩,fun e he=>(h.ins e he).mono hq⟩
structure Wl(R:Nat)(n:Nat)(o:XG)(w:Zf):Prop where
 c0:w.cell? ⟨R,0,L⟩=Za (I J (n:Int))
 c1:w.cell? ⟨R,1,L⟩=Za (I J o.k)
 c2:w.cell? ⟨R,2,L⟩=Za (I J o.n)
 c3:w.cell? ⟨R,3,L⟩=Za (.bool o.b)
 z0:w.frozen? ⟨R,0,L⟩=Zo
 z1:w.frozen? ⟨R,1,L⟩=Zo
 z2:w.frozen? ⟨R,2,L⟩=Zo
 z3:w.frozen? ⟨R,3,L⟩=Zo
theorem Wl.lt{n:Nat}(h:Wl R n o w):R<w.heap.size:=Zi _ _ h.c0
theorem Wl.below{n:Nat}(h:Wl R n o w)(a:ZK w.heap.size w w'):Wl R n o w':=by have c:∀i,w'.cell? ⟨R,i,L⟩=w.cell? ⟨R,i,L⟩:=fun i=>a.cell (p:=⟨R,i,L⟩) h.lt;have f:∀i,w'.frozen? ⟨R,i,L⟩=w.frozen? ⟨R,i,L⟩:=fun i=>a.frozen (p:=⟨R,i,L⟩) h.lt;exact⟨(c _).trans h.c0,(c _).trans h.c1,(c _).trans h.c2,(c _).trans h.c3,(f _).trans h.z0,(f _).trans h.z1,(f _).trans h.z2,(f _).trans h.z3⟩
theorem Wl.same{n:Nat}(h:Wl R n o w)(a:Yi b L w w')(d:b≠R):Wl R n o w':=by have c:R≠b:=fun e=>d e.symm;exact⟨a.cell h.c0 c,a.cell h.c1 c,a.cell h.c2 c,a.cell h.c3 c,a.fz h.z0 h.lt c,a.fz h.z1 h.lt c,a.fz h.z2 h.lt c,a.fz h.z3 h.lt c⟩
def Uf:Zy:=Zk #[I J 0,I J 0,.nilFunc,I J 0]
def Th.my(h:Th):Ty:=if h.tag=0 then h.t.ty else Yk
def Sz:Ty->Tr
 |⟨k,l⟩=>⟨k,L,0,l.map fun t=>Sz t⟩
theorem RI:∀t:Ty,(Sz t).ty=t:=by
 intro t;induction t using Ty.ind with
 |h k l ih=>
  rw[Sz,Tr.lh,List.map_map];congr 1;have:∀l:List Ty,(∀t,t∈l->(Sz t).ty=t)->l.map (Tr.ty∘Sz)=l:=by
   intro l;induction l with
   |nil=>intro _;rfl
   |cons x r ihr=>
    intro h;rw[ZL,ihr fun t a=>h t (by simp[a])];show (Sz x).ty::r=_
    rw[h x (by simp)]
  exact this l ih
def Th.ok:Th->Prop
 |⟨k,_,_,tag,wy,_,_,_,_,_,_,x,_,_,env,f,t,_,_,inn⟩=>
  (tag=0\/((tag=1\/tag=2\/tag=3)/\t.ty=gr tag))/\
  ((wy=0/\((k=1/\t.ty=Jg)\/(k=2/\t.ty=Xs)))\/ (wy=1/\(∃A B,t.ty=YM A B/\M7 (x.tm.at 0) (A::env.map Th.my) B)/\∀e,e∈env->e.ok)\/ (wy=2/\∀e,e∈inn->e.ok/\e.t.ty=f.ty))
theorem Th.mn{h:Th}:h.ok↔(h.tag=0\/((h.tag=1\/h.tag=2\/h.tag=3)/\h.t.ty=gr h.tag))/\
  ((h.wy=0/\((h.k=1/\h.t.ty=Jg)\/(h.k=2/\h.t.ty=Xs)))\/
   (h.wy=1/\(∃A B,h.t.ty=YM A B/\M7 (h.x.tm.at 0) (A::h.env.map Th.my) B)/\∀e,e∈h.env->e.ok)\/
   (h.wy=2/\∀e,e∈h.inn->e.ok/\e.t.ty=h.f.ty)):=by
 cases h
 rw[Th.ok]
theorem Th.ok.mark{h:Th}(ho:h.ok){s:Int}(hs:s=0\/((s=1\/s=2\/s=3)/\h.t.ty=gr s)):({h with tag:=s}:Th).ok:=Th.mn.2 ⟨hs,(Th.mn.1 ho).2⟩
def JG(m:Bool)(T:Ty)(h:Th):Prop:=m=Zc->h.ok/\h.my=T
def Xn(m:Bool)(M R F c:Nat)(Q:Nat->Prop)(w:Zf)(T:Ty)(S:XG->YJ->Nat->Prop)(e:Ending)(w':Zf):Prop:=Yi R L w w'/\∃(r:XG)(V:YJ)(c':Nat),S r V c'/\c<=c'/\c'<=F/\Wl R (F-c') r w'/\ ((r.k≠0/\e=Zp Uf)\/(r=Yn/\∃h:Th,e=Zp h.ag/\h.In m M R Q w'/\h.val=V/\JG m T h))
abbrev Th.v(z:Th):Array Zy:=#[I J z.k,I J z.n,z.fn,I J z.tag]
theorem Wl.set{n:Nat}{o':XG}(h:Wl R n o w):Wl R n o' (((w.setCell ⟨R,1,L⟩ (I J o'.k)).setCell ⟨R,2,L⟩ (I J o'.n)).setCell ⟨R,3,L⟩ (.bool o'.b)):=by
 obtain⟨g,i,a,d,j,c,b,e⟩:=h;constructor
 all_goals simp[go_sem, *]
theorem Wl.qx{n:Nat}(h:Wl R (n+1) o w):Wl R n o (w.setCell ⟨R,0,L⟩ (I J (n:Int))):=by
 obtain⟨g,i,a,d,j,c,b,e⟩:=h;constructor
 all_goals simp[go_sem, *]
structure Rb(w:Zf)(b:Nat):Prop where
 c0:w.cell? ⟨b,0,L⟩=Za (I J 0)
 c1:w.cell? ⟨b,1,L⟩=Za (I J 0)
 c2:w.cell? ⟨b,2,L⟩=Za .nilFunc
 c3:w.cell? ⟨b,3,L⟩=Za (I J 0)
 z0:w.frozen? ⟨b,0,L⟩=Zo
 z1:w.frozen? ⟨b,1,L⟩=Zo
 z2:w.frozen? ⟨b,2,L⟩=Zo
 z3:w.frozen? ⟨b,3,L⟩=Zo
theorem Rb.lt(h:Rb w b):b<w.heap.size:=Zi _ _ h.c0
theorem Rb.new(w:Zf):Rb (w.alloc (Zl #[I J 0,I J 0,.nilFunc,I J 0] 103)) w.heap.size:=by
 constructor
 all_goals simp[go_sem]
theorem Rb.kept(h:Rb w b)(hk:Yi R L w w')(hb:b≠R):Rb w' b:=⟨hk.cell h.c0 hb,hk.cell h.c1 hb,hk.cell h.c2 hb,hk.cell h.c3 hb,hk.fz h.z0 h.lt hb,hk.fz h.z1 h.lt hb,hk.fz h.z2 h.lt hb,hk.fz h.z3 h.lt hb⟩
theorem Rb.below(h:Rb w b)(hk:ZK w.heap.size w w'):Rb w' b:=h.kept (R:=b+1) (Yi.la hk) (by omega)
theorem Rb.set(h:Rb w b)(v0 v1 v2 v3:Zy):(((((w.setCell ⟨b,0,L⟩ v0).setCell ⟨b,1,L⟩ v1).setCell ⟨b,2,L⟩ v2).setCell ⟨b,3,L⟩ v3).cell? ⟨b,0,L⟩=Za v0/\((((w.setCell ⟨b,0,L⟩ v0).setCell ⟨b,1,L⟩ v1).setCell ⟨b,2,L⟩ v2).setCell ⟨b,3,L⟩ v3).cell? ⟨b,1,L⟩=Za v1/\((((w.setCell ⟨b,0,L⟩ v0).setCell ⟨b,1,L⟩ v1).setCell ⟨b,2,L⟩ v2).setCell ⟨b,3,L⟩ v3).cell? ⟨b,2,L⟩=Za v2/\((((w.setCell ⟨b,0,L⟩ v0).setCell ⟨b,1,L⟩ v1).setCell ⟨b,2,L⟩ v2).setCell ⟨b,3,L⟩ v3).cell? ⟨b,3,L⟩=Za v3)/\Yi b L w ((((w.setCell ⟨b,0,L⟩ v0).setCell ⟨b,1,L⟩ v1).setCell ⟨b,2,L⟩ v2).setCell ⟨b,3,L⟩ v3):=by
 obtain⟨i,j,a,e,k,d,c,g⟩:=h;refine⟨⟨?_,?_,?_,?_⟩,((Yj.trans Yj).trans Yj).trans Yj⟩
 all_goals simp[go_sem, *]
theorem PK(R n:Nat)(a:XG)(w:Zf)(h:Wl R n Yn w):Zn N 96 #[O (Za ⟨R,0,L⟩),Zk #[I J a.k,I J a.n,.bool a.b]] w fun e w'=>e=Zp Uf/\Wl R n a w'/\Yi R L w w':=by
 have r:=h.lt;obtain⟨l,d,b,c,q,m,k,p⟩:=h;have o:Zm (Wl R n Yn w):=⟨l,d,b,c,q,m,k,p⟩
 replace d:w.cell? ⟨R,1,L⟩=Za (I J 0):=d;replace b:w.cell? ⟨R,2,L⟩=Za (I J 0):=b;replace c:w.cell? ⟨R,3,L⟩=Za (.bool Zo):=c;go_enter func96,ntmps96;go_wp2_with fail;have i:Wl R n a (((w.setCell ⟨R,1,L⟩ (I J a.k)).setCell ⟨R,2,L⟩ (I J a.n)).setCell ⟨R,3,L⟩ (.bool a.b)):=o.out.set;have j:Yi R L w (((w.setCell ⟨R,1,L⟩ (I J a.k)).setCell ⟨R,2,L⟩ (I J a.n)).setCell ⟨R,3,L⟩ (.bool a.b)):=(Yj.trans Yj).trans Yj;have g:∀(W:Zf)(A B:Obj),bL W ((W.alloc A).alloc B):=fun W A B=>((Ze _ _).alloc (Zg _) _).alloc (by simp) _;refine Zj (v:=Uf) ?_ rfl ⟨rfl,i.below (g _ _ _),j.trans (Yi.la (g _ _ _))⟩;simp[results,results96,go_sem,Uf]
theorem UV(R n:Nat)(w:Zf)(h:Wl R n Yn w):Zn N 94 #[O (Za ⟨R,0,L⟩)] w fun e w'=>e=Zp Uf/\Wl R n Yw w'/\Yi R L w w':=by
 have lr:=h.lt;have c:bL w (w.alloc (Zl #[I J 0,I J 0,.nilFunc,I J 0] 103)):=(Ze _ _).alloc (Zg _) _;have g:=Uy (h.below c) c;clear h c;go_enter func94,ntmps94;go_wp2_with (go_at_call 96;refine(PK R n Yw _ g.out.1).mono ?_;rintro e d ⟨rfl,b,a⟩;simp only[Uf];obtain⟨l,y,q2,z,p,x,q,o⟩:=(Rb.new w).kept a (by omega);have i:Zm (Wl R n Yw d/\Yi R L (w.alloc (Zl #[I J 0,I J 0,.nilFunc,I J 0] 103)) d):=⟨b,a⟩;clear b a)
 have m:Rb d w.heap.size:=⟨l,y,q2,z,p,x,q,o⟩
 obtain⟨⟨k,r,e2,u⟩,j⟩:=m.set (I J 0) (I J 0) .nilFunc (I J 0);refine Zj (v:=Uf) ?_ rfl ⟨rfl,i.out.1.same j (by omega),((Yi.la g.out.2).trans i.out.2).new j (Zg _)⟩;simp[results,results94,go_sem,Uf,k,r,e2,u]
theorem SR(a:Option Zr)(n c:Nat)(w:Zf):Zn N 132 #[Zk #[I J 3,Zd a n c]] w fun e w'=>∃g,w.heap.size<=g/\e=Zp (Zk #[I J 3,Zd (Za ⟨g,0,L⟩) 2 2])/\(Tr.mk 3 (Za ⟨g,0,L⟩) 2 [Ys 0,Ys 0]).In w'/\ZK w.heap.size w w':=by
 go_enter func132,ntmps132;go_wp2_with (go_at_call 56;refine(Ue _).mono ?_;rintro e _ ⟨rfl,rfl⟩)
 obtain⟨W1,b⟩:∃W,W=(((w.alloc (Zl #[I J 3,Zd a n c] 24)).alloc (Zl #[I J 0,Zd L 0 0] 24)).alloc (Zl #[I J 0,Zd L 0 0] 24)).alloc (Zl #[I J 0,Zd L 0 0] 24):=⟨_,rfl⟩
 have h:bL w W1:=by rw[b];exact((((Ze _ _).alloc (Zg _) _).alloc (by simp) _).alloc (by simp;omega) _).alloc (by simp;omega) _
 have d:W1.heap.size=w.heap.size+1+1+1+1:=by rw[b];simp
 have q:W1.cell? ⟨w.heap.size+1,0,L⟩=Za (I J 0):=by rw[b];simp[go_sem]
 have r:W1.cell? ⟨w.heap.size+1,1,L⟩=Za (Zd L 0 0):=by rw[b];simp[go_sem]
 have l:∀o,W1.frozen? ⟨w.heap.size+1,o,L⟩=Zo:=by intro o;rw[b];simp[go_sem]
 rw[<-b];clear b;refine(O9 (Ys 0) (Ys 0) W1 (YC _ _) (YC _ _)).mono ?_;rintro e x ⟨g,y,rfl,j,i⟩;have x0:=Zz i q;have x1:=Zz i r;have z:=(i.frozen (p:=⟨w.heap.size+1,0,L⟩) (by rw[d];show w.heap.size+1<_;omega)).trans (l 0);have f1:=(i.frozen (p:=⟨w.heap.size+1,1,L⟩) (by rw[d];show w.heap.size+1<_;omega)).trans (l 1);have k:Zm (w.heap.size+1<g/\(Tr.mk 3 (Za ⟨g,0,L⟩) 2 [Ys 0,Ys 0]).In x/\bL w x):=⟨by omega,j,h.trans (i.mono h.size)⟩
 clear i y j h d q r l;go_wp2_with fail;have m:=XJ (io:=0) (u:=I J 3) (v:=Zd (Za ⟨g,0,L⟩) 2 2) x0 x1;refine Zj (v:=Zk #[I J 3,Zd (Za ⟨g,0,L⟩) 2 2]) (by simp[results,results132,go_sem,m.1,m.2]) rfl ⟨g,by have:=k.out.1;omega,rfl,?_,?_⟩
 .exact X4 (io:=0) k.out.2.1 (Tr.mg (by have:=k.out.1;omega) (YF _ _) (YF _ _))
 .exact(k.out.2.2.setCell (by simp) _).setCell (by simp) _
theorem RQ(k:Int)(b:(k==3)=Zo)(a:Option Zr)(n c:Nat)(w:Zf):Zn N 132 #[Zk #[I J k,Zd a n c]] w fun e w'=>e=Zp (Zk #[I J k,Zd L 0 0])/\ZK w.heap.size w w':=by go_enter func132,ntmps132;go_wp2_with fail;refine Zj (v:=Zk #[I J k,Zd L 0 0]) (by simp[results,results132,go_sem]) rfl ⟨rfl,?_⟩;exact((Ze _ _).alloc (Zg _) _).alloc (by simp) _
theorem Ma(t:Tr)(w:Zf):Zn N 132 #[Zk #[I J t.k,Zd t.a t.l.length t.c]] w fun e w'=>∃u:Tr,e=Zp (Zk #[I J u.k,Zd u.a u.l.length u.c])/\u.ty=Yt t.ty/\u.In w'/\u.Bl (w.heap.size<=·)/\ZK w.heap.size w w':=by
 by_cases hk:t.k=3
 .rw[hk];refine(SR t.a t.l.length t.c w).mono ?_;rintro e w' ⟨g,c,rfl,a,b⟩;refine⟨_,rfl,?_,a,Tr.mg c (YF _ _) (YF _ _),b⟩;unfold Yt;rw[if_pos (by rw[t.ln];exact hk),Tr.lh];simp[Ys,Tr.lh,Yk]
 .refine(RQ t.k (by simpa using hk) t.a t.l.length t.c w).mono ?_;rintro e w' ⟨rfl,b⟩;refine⟨Ys t.k,rfl,?_,YC _ _,YF _ _,b⟩;unfold Yt;rw[if_neg (by rw[t.ln];exact hk),t.ln];simp[Ys,Tr.lh]
theorem Qo{f t:Ty}(hf:Ym 46 f=Zc)(ht:Ym 46 t=Zc)(h:YD Yl f t=Zc)(ho:o.k=4):UU (Yq f t o) f t:=MB 100 46 f t o hf ht h ho (by split<;>omega)
theorem Eh{U:YJ}{g a:Option Ca}{s1 s2 t1 t2:Ty}(h:UJ U (YM s1 s2))(b:UU g t1 s1)(d:UU a s2 t2):UJ (Y9 U g a) (YM t1 t2):=by
 rcases Nt U g a with⟨rfl,rfl,e⟩|e
 .rw[e];rw[XS] at b d;rw[b,<-d];exact h
 .rw[e];exact Pi (c:=⟨Zo,Yn,3,Yn,g,a,Zo⟩) h b d
theorem R8{t:Ty}(g:Ym 46 t=Zc)(c:t.k=3):∃a b,t=YM a b/\Ym 45 a=Zc/\Ym 45 b=Zc:=by
 rcases Yz g with⟨k,rfl,h⟩|⟨a,b,rfl,d,e⟩
 .simp only at c;omega
 .exact⟨a,b,rfl,d,e⟩
theorem CH{h v:Th}(o:h.wy=2)(p:BZ R Q w h v):UJ h.cv h.t.ty:=by
 obtain⟨m,u,j,g,r⟩:=R8 p.tg (by rw[Tr.ln];exact p.tk);obtain⟨i,x,e,l,q⟩:=R8 p.fg (by rw[Tr.ln];exact p.fk);have b:=p.fits;rw[e,j,YM,YM,Sl _ _ _ _ _ rfl] at b;obtain⟨d,c⟩:YD Yl i m=Zc/\YD Yl x u=Zc:=by simpa using b
 have a:YD Yl m i=Zc:=by rw[Lr 45 _ _ g l];exact d
 have k:=p.ty;rw[Th.mh,o,if_neg (by decide),if_pos rfl,p.inn,j,e];rw[e] at k;exact Eh k (Qo (YG 45 46 _ (by omega) g) (YG 45 46 _ (by omega) l) a rfl) (Qo (YG 45 46 _ (by omega) q) (YG 45 46 _ (by omega) r) c rfl)
theorem Th.In.qz{m:Bool}{M R:Nat}{Q:Nat->Prop}{w:Zf}{h:Th}:h.In m M R Q w->h.ok->UJ h.cv h.t.ty/\UJ h.val h.my:=by
 induction h using Th.ind with
 |h h ie ii=>
  intro hi q;obtain⟨x,o⟩:=Th.mn.1 q;have a:UJ h.cv h.t.ty:=by
   rcases Th.lk.1 hi with⟨b,p⟩|⟨h1,c,he⟩|⟨r,_,⟨v,p⟩,_⟩
   .rw[Th.mh,b,if_neg (by decide),if_neg (by decide)];rcases o with⟨_,⟨g,e⟩|⟨g,e⟩⟩|⟨k,_⟩|⟨k,_⟩
    .rw[g,if_pos rfl,e];exact N1 _
    .rw[g,if_neg (by decide),e];exact L2 _
    .omega
    .omega
   .rw[Th.mh,h1,if_pos rfl];rcases o with⟨k,_⟩|⟨_,⟨A,B,e,u⟩,i⟩|⟨k,_⟩
    .omega
    .rw[e];refine QR u ⟨by simp,fun j l l'=>?_⟩;simp only[List.getElem_map];have d:h.env[j]'(by simpa using l)∈h.env:=ZF _;exact(ie _ d (he _ d) (i _ d)).2
    .omega
   .exact CH r p
  refine⟨a,?_⟩;unfold Th.val Th.my;rcases x with b|⟨y,z⟩
  .rw[if_pos b,if_pos b];exact a
  .rw[if_neg (by omega),if_neg (by omega)];exact Oy y (z▸a)
theorem Qt.rg{E:List Th}(h:Qt m M R Q w ea E)(b:∀e,e∈E->e.ok):FE (E.map Th.val) (E.map Th.my):=by refine⟨by simp,fun j l l'=>?_⟩;simp only[List.getElem_map];have a:E[j]'(by simpa using l)∈E:=ZF _;exact((h.ins _ a).qz (b _ a)).2
def BY(v:Th)(f t:Tr)(h:Th):Prop:=v.ok->v.my=f.ty->h.ok/\h.my=t.ty
theorem Th.In.kinds{h:Th}(hi:h.In m M R Q w):(h.tag≠0/\h.val.k=5)\/(h.tag=0/\h.val=h.cv/\((h.k=1/\h.val=XP h.n)\/(h.k=2/\h.val=Xp h.n)\/(h.k=3/\(h.val.k=3\/h.val.k=4)/\(h.wy=1\/h.wy=2)))):=by
 by_cases h0:h.tag=0
 .refine .inr ⟨h0,by unfold Th.val;rw[if_pos h0],?_⟩;have e:h.val=h.cv:=by unfold Th.val;rw[if_pos h0]
  rw[e];rcases Th.lk.1 hi with⟨b,p⟩|⟨g,c,k⟩|⟨d,_,⟨v,p⟩,_⟩
  .rw[Th.mh,b,if_neg (by decide),if_neg (by decide)];rcases p.k with a|a
   .rw[a,if_pos rfl];exact .inl ⟨rfl,rfl⟩
   .rw[a,if_neg (by decide)];exact .inr (.inl ⟨rfl,rfl⟩)
  .refine .inr (.inr ⟨c.k,.inl ?_,.inl g⟩);rw[Th.mh,g,if_pos rfl];rfl
  .have:=CH d p;obtain⟨l,j,i,_,_⟩:=R8 p.tg (by rw[Tr.ln];exact p.tk);rw[i] at this;refine .inr (.inr ⟨p.k,?_,.inr d⟩);rcases KK this with⟨h,_⟩|⟨h,_⟩
   .exact .inl h
   .exact .inr h
 .refine .inl ⟨h0,?_⟩;unfold Th.val;rw[if_neg h0];rfl
def LY(M R n:Nat)(Q:Nat->Prop)(w:Zf)(o:XG×YJ)(P:Th->Prop)(e:Ending)(w':Zf):Prop:=Yi R L w w'/\((o.1.k≠0/\e=Zp Uf/\Wl R n o.1 w')\/(o.1=Yn/\Wl R n Yn w'/\∃h:Th,e=Zp h.ag/\h.In Zc M R Q w'/\h.val=o.2/\P h))
structure F0(w:Zf)(b o:Nat)(t:Tr):Prop where
 c0:w.cell? ⟨b,o,L⟩=Za (I J t.k)
 c1:w.cell? ⟨b,o+1,L⟩=Za (Zd t.a t.l.length t.c)
structure LB(R:Nat)(v:Th)(f t:Tr)(no:Int)(back:Bool)(w W:Zf):Prop where
 sz:w.heap.size+6<W.heap.size
 w0:W.cell? ⟨w.heap.size,0,L⟩=Za (O (Za ⟨R,0,L⟩))
 v4:QM W (w.heap.size+1) 0 v
 f2:F0 W (w.heap.size+1+1) 0 f
 t2:F0 W (w.heap.size+1+1+1) 0 t
 n0:W.cell? ⟨w.heap.size+1+1+1+1,0,L⟩=Za (I J no)
 b0:W.cell? ⟨w.heap.size+1+1+1+1+1,0,L⟩=Za (.bool back)
 r:Rb W (w.heap.size+1+1+1+1+1+1)
 z:∀i,W.frozen? ⟨w.heap.size+1,i,L⟩=Zo
def Af(R:Nat)(v:Th)(f t:Tr)(no:Int)(back:Bool)(w:Zf):Zf:=((((((w.alloc (Zl #[O (Za ⟨R,0,L⟩)] 98)).alloc (Zl #[I J v.k,I J v.n,v.fn,I J v.tag] 103)).alloc (Zl #[I J f.k,Zd f.a f.l.length f.c] 24)).alloc (Zl #[I J t.k,Zd t.a t.l.length t.c] 24)).alloc (Zl #[I J no] 3)).alloc (Zl #[.bool back] 4)).alloc (Zl #[I J 0,I J 0,.nilFunc,I J 0] 103)
theorem R3(R:Nat)(v:Th)(f t:Tr)(b:Int)(a:Bool)(w:Zf):ZK w.heap.size w (Af R v f t b a w):=by unfold Af;exact(((((((Ze _ _).alloc (Zg _) _).alloc (by simp) _).alloc (by simp;omega) _).alloc (by simp;omega) _).alloc (by simp;omega) _).alloc (by simp;omega) _).alloc (by simp;omega) _
theorem NJ(R:Nat)(v:Th)(f t:Tr)(b:Int)(a:Bool)(w:Zf):LB R v f t b a w (Af R v f t b a w):=by
 refine⟨?_,?_,⟨?_,?_,?_,?_⟩,⟨?_,?_⟩,⟨?_,?_⟩,?_,?_,⟨?_,?_,?_,?_,?_,?_,?_,?_⟩,?_⟩
 .unfold Af;simp
 all_goals (try intro i)
 all_goals (unfold Af;simp[go_sem])
theorem LB.below{v:Th}{f t:Tr}(h:LB R v f t no back w W)(a:ZK W.heap.size W V):LB R v f t no back w V:=by have d:=h.sz;have c:∀b i,b<=w.heap.size+6->V.cell? ⟨b,i,L⟩=W.cell? ⟨b,i,L⟩:=fun b i h=>a.cell (p:=⟨b,i,L⟩) (show b<_ by omega);have fz:∀b i,b<=w.heap.size+6->V.frozen? ⟨b,i,L⟩=W.frozen? ⟨b,i,L⟩:=fun b i h=>a.frozen (p:=⟨b,i,L⟩) (show b<_ by omega);exact⟨by have:=a.size;omega,(c _ _ (by omega)).trans h.w0,h.v4.of fun i=>c _ i (by omega),⟨(c _ _ (by omega)).trans h.f2.c0,(c _ _ (by omega)).trans h.f2.c1⟩,⟨(c _ _ (by omega)).trans h.t2.c0,(c _ _ (by omega)).trans h.t2.c1⟩,(c _ _ (by omega)).trans h.n0,(c _ _ (by omega)).trans h.b0,h.r.below a,fun i=>(fz _ _ (by omega)).trans (h.z i)⟩
theorem LB.kept{v:Th}{f t:Tr}(h:LB R v f t no back w W)(a:Yi R L W V)(d:R<w.heap.size):LB R v f t no back w V:=by have g:=h.sz;have c:∀b i u,cL W b i u->w.heap.size<=b->cL V b i u:=fun b i u h e=>a.cell h (by omega);exact⟨by have:=a.size;omega,c _ _ _ h.w0 (by omega),⟨c _ _ _ h.v4.c0 (by omega),c _ _ _ h.v4.c1 (by omega),c _ _ _ h.v4.c2 (by omega),c _ _ _ h.v4.c3 (by omega)⟩,⟨c _ _ _ h.f2.c0 (by omega),c _ _ _ h.f2.c1 (by omega)⟩,⟨c _ _ _ h.t2.c0 (by omega),c _ _ _ h.t2.c1 (by omega)⟩,c _ _ _ h.n0 (by omega),c _ _ _ h.b0 (by omega),h.r.kept a (by omega),fun i=>a.fz (h.z i) (by omega) (by omega)⟩
theorem LB.put{v:Th}{f t:Tr}(h:LB R v f t no back w W)(x:Th):LB R x f t no back w ((((W.setCell ⟨w.heap.size+1,0,L⟩ (I J x.k)).setCell ⟨w.heap.size+1,1,L⟩ (I J x.n)).setCell ⟨w.heap.size+1,2,L⟩ x.fn).setCell ⟨w.heap.size+1,3,L⟩ (I J x.tag))/\Yi (w.heap.size+1) L W ((((W.setCell ⟨w.heap.size+1,0,L⟩ (I J x.k)).setCell ⟨w.heap.size+1,1,L⟩ (I J x.n)).setCell ⟨w.heap.size+1,2,L⟩ x.fn).setCell ⟨w.heap.size+1,3,L⟩ (I J x.tag)):=by
 have a:Yi (w.heap.size+1) L W ((((W.setCell ⟨w.heap.size+1,0,L⟩ (I J x.k)).setCell ⟨w.heap.size+1,1,L⟩ (I J x.n)).setCell ⟨w.heap.size+1,2,L⟩ x.fn).setCell ⟨w.heap.size+1,3,L⟩ (I J x.tag)):=((Yj.trans Yj).trans Yj).trans Yj;obtain⟨v0,v1,v2,v3⟩:=h.v4;simp only[Zh] at v1 v2 v3;have hz:=h.z;refine⟨⟨?_,a.cell h.w0 (by omega),⟨?_,?_,?_,?_⟩,⟨a.cell h.f2.c0 (by omega),a.cell h.f2.c1 (by omega)⟩,⟨a.cell h.t2.c0 (by omega),a.cell h.t2.c1 (by omega)⟩,a.cell h.n0 (by omega),a.cell h.b0 (by omega),h.r.kept a (by omega),fun i=>?_⟩,a⟩
 .have:=h.sz;have:=a.size;omega
 all_goals simp[go_sem,v0,v1,v2,v3,hz]
theorem LB.mark{v:Th}{f t:Tr}(h:LB R v f t no back w W)(s:Int):LB R {v with tag:=s} f t no back w (W.setCell ⟨w.heap.size+1,3,L⟩ (I J s))/\Yi (w.heap.size+1) L W (W.setCell ⟨w.heap.size+1,3,L⟩ (I J s)):=by
 have a:Yi (w.heap.size+1) L W (W.setCell ⟨w.heap.size+1,3,L⟩ (I J s)):=Yj;obtain⟨v0,v1,v2,v3⟩:=h.v4;simp only[Zh] at v1 v2 v3;have hz:=h.z;refine⟨⟨?_,a.cell h.w0 (by omega),⟨?_,?_,?_,?_⟩,⟨a.cell h.f2.c0 (by omega),a.cell h.f2.c1 (by omega)⟩,⟨a.cell h.t2.c0 (by omega),a.cell h.t2.c1 (by omega)⟩,a.cell h.n0 (by omega),a.cell h.b0 (by omega),h.r.kept a (by omega),fun i=>?_⟩,a⟩
 .have:=h.sz;have:=a.size;omega
 all_goals simp[go_sem,v0,v1,v2,v3,hz]
def SK(R b0:Nat)(W1 W:Zf):Prop:=∀b i u,W1.cell? ⟨b,i,L⟩=Za u->b≠R->b≠b0->W.cell? ⟨b,i,L⟩=Za u
theorem SK.refl(R b0:Nat)(W:Zf):SK R b0 W W:=fun _ _ _ h _ _=>h
theorem SK.drew(h:SK R b0 W1 W):SK R b0 W1 W.drew:=h
theorem SK.kept(h:SK R b0 W1 W)(hk:Yi R L W V):SK R b0 W1 V:=fun b i u e h1 h2=>hk.cell (h b i u e h1 h2) h1
theorem SK.set(h:SK R b0 W1 W)(i:Nat)(v:Zy):SK R b0 W1 (W.setCell ⟨b0,i,L⟩ v):=fun b j u e h1 h2=>by rw[World.cell?_setCell_far _ _ _ _ (by intro e;exact h2 e.symm)];exact h b j u e h1 h2
theorem Uv{n:Nat}{Q1:Nat->Prop}{w2:Zf}{h:Th}(j:Rb w2 b)(k:w.heap.size<=b)(q:R<w.heap.size)(d:Yi R L w w2)(g:Wl R n o w2)(i:h.In m M R Q1 w2)(c:∀x,Q1 x->Q x/\x≠b):
  (((((w2.setCell ⟨b,0,L⟩ (I J h.k)).setCell ⟨b,1,L⟩ (I J h.n)).setCell ⟨b,2,L⟩ h.fn).setCell ⟨b,3,L⟩ (I J h.tag)).cell? ⟨b,0,L⟩=Za (I J h.k)/\((((w2.setCell ⟨b,0,L⟩ (I J h.k)).setCell ⟨b,1,L⟩ (I J h.n)).setCell ⟨b,2,L⟩ h.fn).setCell ⟨b,3,L⟩ (I J h.tag)).cell? ⟨b,1,L⟩=Za (I J h.n)/\((((w2.setCell ⟨b,0,L⟩ (I J h.k)).setCell ⟨b,1,L⟩ (I J h.n)).setCell ⟨b,2,L⟩ h.fn).setCell ⟨b,3,L⟩ (I J h.tag)).cell? ⟨b,2,L⟩=Za h.fn/\((((w2.setCell ⟨b,0,L⟩ (I J h.k)).setCell ⟨b,1,L⟩ (I J h.n)).setCell ⟨b,2,L⟩ h.fn).setCell ⟨b,3,L⟩ (I J h.tag)).cell? ⟨b,3,L⟩=Za (I J h.tag))/\
  Yi R L w ((((w2.setCell ⟨b,0,L⟩ (I J h.k)).setCell ⟨b,1,L⟩ (I J h.n)).setCell ⟨b,2,L⟩ h.fn).setCell ⟨b,3,L⟩ (I J h.tag))/\Wl R n o ((((w2.setCell ⟨b,0,L⟩ (I J h.k)).setCell ⟨b,1,L⟩ (I J h.n)).setCell ⟨b,2,L⟩ h.fn).setCell ⟨b,3,L⟩ (I J h.tag))/\h.In m M R Q ((((w2.setCell ⟨b,0,L⟩ (I J h.k)).setCell ⟨b,1,L⟩ (I J h.n)).setCell ⟨b,2,L⟩ h.fn).setCell ⟨b,3,L⟩ (I J h.tag)):=by
 obtain⟨l,a⟩:=j.set (I J h.k) (I J h.n) h.fn (I J h.tag);exact⟨l,d.new a k,g.same a (by omega),(i.same (XR.mb a fun e=>(c b e).2 rfl)).mono fun x _ p=>(c x p).1⟩
def OZ(s:Nat)(v:Th)(f t:Tr)(no:Int)(back:Bool):Th:=⟨3,0,.func (.func 131) #[] #[O (Za ⟨s,0,L⟩),O (Za ⟨s+1+1+1,0,L⟩),O (Za ⟨s+1+1,0,L⟩),O (Za ⟨s+1+1+1+1,0,L⟩),O (Za ⟨s+1+1+1+1+1,0,L⟩),O (Za ⟨s+1,0,L⟩)],0,2,s,s+1+1+1,s+1+1,s+1+1+1+1,s+1+1+1+1+1,s+1,v.x,L,0,[],f,t,no,back,[v]⟩
theorem CI(s:Nat)(v:Th)(f t:Tr)(b:Int)(a:Bool):(OZ s v f t b a).val=Y9 v.cv (Yq (t.ty.l.getD 0 Yk) (f.ty.l.getD 0 Yk) (KL ⟨4,b,a⟩)) (Yq (f.ty.l.getD 1 Yk) (t.ty.l.getD 1 Yk) ⟨4,b,a⟩):=by unfold Th.val;rw[if_pos (show (OZ s v f t b a).tag=0 from rfl),Th.mh];rfl
theorem Et{v:Th}{f t:Tr}(a:LB R v f t no back w W)(k:ZK w.heap.size w W)(hv:v.In Zc M R Q w)(p:f.In w)(q:t.In w)(y:f.Bl Q)(r:t.Bl Q)(m:f.k=3)(l:t.k=3)(g:Ym 46 f.ty=Zc)(o:Ym 46 t.ty=Zc)(d:YD Yl f.ty t.ty=Zc)(i:UJ v.cv f.ty)(j:v.tag=0)(c:∀b,w.heap.size<=b->Q b):
  (OZ w.heap.size v f t no back).In Zc M R (fun x=>Q x/\x≠w.heap.size+1+1+1+1+1+1) W:=by
 refine Th.lk.2 (.inr (.inr ⟨rfl,rfl,⟨v,?_⟩,fun e z=>?_⟩))
 .refine⟨rfl,rfl,rfl,⟨c _ ?_,?_⟩,⟨c _ ?_,?_⟩,⟨c _ ?_,?_⟩,⟨c _ ?_,?_⟩,⟨c _ ?_,?_⟩,⟨c _ ?_,?_⟩,a.w0,a.t2.c0,a.t2.c1,a.f2.c0,a.f2.c1,a.n0,a.b0,a.v4,q.below k,p.below k,(r.and q.bl).mono fun b h=>⟨h.1,by omega⟩,(y.and p.bl).mono fun b h=>⟨h.1,by omega⟩,o,g,l,m,d,i,j⟩
  all_goals (simp only[OZ];omega)
 .have:e=v:=by simpa[OZ] using z
  subst this;exact(hv.mono (Q':=fun x=>Q x/\x≠w.heap.size+1+1+1+1+1+1) fun x h1 u=>⟨u,by omega⟩).same (XR.la k)
theorem Pk{md:Region.Mode}{ops:Array Oper}{Q:Exit->Act->Zf->Prop}{S:Zf->Prop}{j:Nat}{o o':Oper}{fuel:Nat}{listed:Array Bool}{a:Act}(ho:ops.toList[i]?=Za o)(ho':ops.toList[j]?=Za o')(hr:Region.ready md ops listed=[i,j])
  (h:∀K':Act->Zf->Prop,Shut (∀a w,S w->(S w->wpAnyH P md ops Q S fuel (listed.setIfInBounds i Zc) a w)->K' a w)->if ZO o (yielded ops a.tmps)=Zc then Oper.wp P o a w K' Q else K' (a.put o.dst undef) w)
  (h':∀K':Act->Zf->Prop,Shut (∀a w,S w->(S w->wpAnyH P md ops Q S fuel (listed.setIfInBounds j Zc) a w)->K' a w)->if ZO o' (yielded ops a.tmps)=Zc then Oper.wp P o' a w K' Q else K' (a.put o'.dst undef) w):wpAnyH P md ops Q S (fuel+1) listed a w:=
 wpAnyH_ready hr (by simp) (AllReadyH.cons (o:=o) (by simpa using ho) h (AllReadyH.cons (o:=o') (by simpa using ho') h' AllReadyH.nil))
theorem YT{md:Region.Mode}{ops:Array Oper}{Q:Exit->Act->Zf->Prop}{S:Zf->Prop}{o:Oper}{fuel:Nat}{listed:Array Bool}{a:Act}(ho:ops.toList[i]?=Za o)(hr:Region.ready md ops listed=[i])
  (h:∀K':Act->Zf->Prop,Shut (∀a w,S w->(S w->wpAnyH P md ops Q S fuel (listed.setIfInBounds i Zc) a w)->K' a w)->if ZO o (yielded ops a.tmps)=Zc then Oper.wp P o a w K' Q else K' (a.put o.dst undef) w):wpAnyH P md ops Q S (fuel+1) listed a w:=
 wpAnyH_ready hr (by simp) (AllReadyH.cons (o:=o) (by simpa using ho) h AllReadyH.nil)
theorem Yx{a:Zr}{v:Zy}{m:ZB}(h:v.oneCell'=Zc):(Zv a v m).run P w=Zt P w a v m:=run_store P w a v m h
theorem BG(M R n:Nat)(Q:Nat->Prop)(v:Th)(f t:Tr)(k:Int)(c:Bool)(w:Zf)(y:v.In Zc M R Q w)(hf:f.In w)(ht:t.In w)(r:YD YA f.ty t.ty=Zc)(hh:f.hgt<=1000)(hm:f.sm)(q:Wl R n Yn w)(hQ:¬Q R)(nw:∀b,w.heap.size<=b->Q b):
  Zn N 97 #[O (Za ⟨R,0,L⟩),Zk #[I J v.k,I J v.n,v.fn,I J v.tag],Zk #[I J f.k,Zd f.a f.l.length f.c],Zk #[I J t.k,Zd t.a t.l.length t.c],I J k,.bool c] w (LY M R n Q w (Xk (Yq f.ty t.ty ⟨4,k,c⟩) v.val) (BY v f t)):=by
 obtain⟨W1,d⟩:∃W,W=Af R v f t k c w:=⟨_,rfl⟩
 have hB:LB R v f t k c w W1:=by rw[d];exact NJ R v f t k c w
 have i:bL w W1:=by rw[d];exact R3 R v f t k c w
 have HB:=Uy hB i;have j:=y.one;have a1:∀(a:Zr)(m:ZB)(W:Zf),(Zv a v.fn m).run N W=Zt N W a v.fn m:=fun a m W=>Yx j;have HS:Zm (∀W,bL W1 W->Zn N 39 #[Zk f.v,Zk t.v] W fun e w'=>e=Zp (.bool Zc)/\bL W w'):=fun W hb=>by have p:=i.trans (hb.mono i.size);have:=X9 1000 f t W (hf.below p) (ht.below p) hh hm;rw[r] at this;exact this
 have HV:=O8 y q hQ nw;have HC:Zm (Xk (Yq f.ty t.ty ⟨4,k,c⟩) v.val=(Yn,v.val)):=DS r;have z:Zm (BY v f t v):=fun ho he=>⟨ho,he.trans (LG _ _ r)⟩
 have lr:=q.lt;have u:=q.below i;obtain⟨c0,c1,c2,c3,z0,z1,z2,z3⟩:=u;replace c1:cL W1 R 1 (I J 0):=c1;clear y q hQ nw r hf ht hm hh j;obtain⟨ls,q0,⟨v0,v1,v2,v3⟩,⟨f0,f1⟩,⟨t0,t1⟩,n0,b0,⟨r0,r1,r2,r3,y0,y1,y2,y3⟩,_⟩:=hB;simp only[Zh] at v1 v2 v3 f1 t1;go_enter ZJ,ZI;go_upto_region 1 with fail;unfold Af at d;rw[<-d];clear d;go_wp2_with (go_at_call 39;refine(HS.out _ (Ze _ _)).mono ?_;rintro e w2 ⟨rfl,o⟩;have g:Zm (LB R v f t k c w w2/\bL w w2):=⟨HB.out.1.below o,HB.out.2.trans (o.mono HB.out.2.size)⟩;clear o v0 v1 v2 v3 f0 f1 t0 t1 n0 b0 r0 r1 r2 r3 y0 y1 y2 y3 q0 c0 c1 c2 c3 z0 z1 z2 z3;obtain⟨a0,q0,⟨v0,v1,v2,v3⟩,_,_,_,_,⟨r0,r1,r2,r3,y0,y1,y2,y3⟩,_⟩:=g.out.1;simp only[Zh] at v1 v2 v3)
 have l:=Uv (m:=Zc) (M:=M) (Q:=Q) (Q1:=fun x=>Q x/\x<w.heap.size) (h:=v) g.out.1.r (by omega) lr (Yi.la g.out.2) (HV.out.2.1.below g.out.2) ((HV.out.1.mono (Q':=fun x=>Q x/\x<w.heap.size) fun x h1 o=>⟨o,h1⟩).same (XR.la g.out.2)) (fun x hx=>⟨hx.1,by omega⟩);obtain⟨⟨e0,e1,e2,e3⟩,hk,hW,hi⟩:=l;refine Zj (v:=v.ag) ?_ rfl ⟨hk,.inr ⟨by rw[HC.out],hW,v,rfl,hi,by rw[HC.out],z.out⟩⟩;simp[results,Zx,go_sem,Th.ag,e0,e1,e2,e3]
theorem Dy(M R n:Nat)(Q:Nat->Prop)(v:Th)(f t:Tr)(d:Int)(c:Bool)(w:Zf)(hv:v.In Zc M R Q w)(hf:f.In w)(ht:t.In w)(hs:YD YA f.ty t.ty=Zo)(r:f.k=3)(y:t.k=3)(a3:Ym 46 f.ty=Zc)(a2:Ym 46 t.ty=Zc)(a0:YD Yl f.ty t.ty=Zc)(i:UJ v.val f.ty)(fb:f.Bl Q)(tb:t.Bl Q)(hh:f.hgt<=1000)(hm:f.sm)(hw:Wl R n Yn w)(hQ:¬Q R)(nw:∀b,w.heap.size<=b->Q b):
  Zn N 97 #[O (Za ⟨R,0,L⟩),Zk #[I J v.k,I J v.n,v.fn,I J v.tag],Zk #[I J f.k,Zd f.a f.l.length f.c],Zk #[I J t.k,Zd t.a t.l.length t.c],I J d,.bool c] w (LY M R n Q w (Xk (Yq f.ty t.ty ⟨4,d,c⟩) v.val) (BY v f t)):=by
 obtain⟨W1,l⟩:∃W,W=Af R v f t d c w:=⟨_,rfl⟩
 have hB:LB R v f t d c w W1:=by rw[l];exact NJ R v f t d c w
 have u:bL w W1:=by rw[l];exact R3 R v f t d c w
 have HB:=Uy hB u;have a1:=hv.one;have ae:∀(a:Zr)(m:ZB)(W:Zf),(Zv a v.fn m).run N W=Zt N W a v.fn m:=fun a m W=>Yx a1;have HS:Zm (∀W,bL W1 W->Zn N 39 #[Zk f.v,Zk t.v] W fun e w'=>e=Zp (.bool Zo)/\bL W w'):=fun W hb=>by have a6:=u.trans (hb.mono u.size);have:=X9 1000 f t W (hf.below a6) (ht.below a6) hh hm;rw[hs] at this;exact this
 obtain⟨f0,p,g⟩:∃f0 p,f.ty=YM f0 p/\Ym 45 f0=Zc/\Ym 45 p=Zc:=by
  rcases Yz a3 with⟨k,e,hk⟩|⟨a,b,e,ha,hb⟩
  .have:=f.ln;rw[e,r] at this;simp only at this;omega
  .exact⟨a,b,e,ha,hb⟩
 obtain⟨t0,q,o⟩:∃t0 q,t.ty=YM t0 q/\Ym 45 t0=Zc/\Ym 45 q=Zc:=by
  rcases Yz a2 with⟨k,e,hk⟩|⟨a,b,e,ha,hb⟩
  .have:=t.ln;rw[e,y] at this;simp only at this;omega
  .exact⟨a,b,e,ha,hb⟩
 have z:v.tag=0:=by
  by_cases h0:v.tag=0
  .exact h0
  .rw[g.1] at i;unfold Th.val at i;rw[if_neg h0] at i;rcases KK i with⟨h,_⟩|⟨h,_⟩<;>cases h
 have a4:v.val=v.cv:=by unfold Th.val;rw[if_pos z]
 have HC:Zm (Xk (Yq f.ty t.ty ⟨4,d,c⟩) v.val=(Yn,Y9 v.cv (Yq (t.ty.l.getD 0 Yk) (f.ty.l.getD 0 Yk) (KL ⟨4,d,c⟩)) (Yq (f.ty.l.getD 1 Yk) (t.ty.l.getD 1 Yk) ⟨4,d,c⟩))):=by
  show _=_
  rw[g.1,o.1,Qp g.2.1 g.2.2 o.2.1 o.2.2 (by omega) (by rw[<-g.1,<-o.1,hs];decide),T6,a4];rfl
 have HV:=O8 hv hw hQ nw;have HP:Zm (f.In w/\t.In w/\f.Bl Q/\t.Bl Q/\Ym 46 f.ty=Zc/\Ym 46 t.ty=Zc/\f.k=3/\t.k=3/\YD Yl f.ty t.ty=Zc/\UJ v.cv f.ty/\v.tag=0):=⟨hf,ht,fb,tb,a3,a2,r,y,a0,a4▸i,z⟩
 have aa:Zm (BY v f t (OZ w.heap.size v f t d c)):=fun ho he=>by
  refine⟨Th.mn.2 ⟨.inl rfl,.inr (.inr ⟨rfl,fun e hm=>?_⟩)⟩,rfl⟩;have:e=v:=by simpa[OZ] using hm
  subst this;unfold Th.my at he;rw[if_pos z] at he;exact⟨ho,he⟩
 have k3:(f.k==3)=Zc:=by simpa using r
 have k4:(t.k==3)=Zc:=by simpa using y
 have ad:∀(fn:Fn)(first cap:Array Zy)(w:Zf),(Instr.makeFunc fn first cap).run N w=.ok (.func fn first cap) w:=fun _ _ _ _=>rfl;clear g o z a4 r y a3 a2 a0 i fb tb f0 p t0 q;have lr:=hw.lt;have a9:=hw.below u;obtain⟨c0,c1,c2,c3,z0,z1,z2,z3⟩:=a9;replace c1:cL W1 R 1 (I J 0):=c1;clear hv hw hQ nw hs hf ht hm hh a1;obtain⟨ls,q0,⟨v0,v1,v2,v3⟩,⟨f0,p⟩,⟨t0,q⟩,n0,b0,⟨r0,r1,r2,r3,y0,y1,y2,y3⟩,_⟩:=hB;simp only[Zh] at v1 v2 v3 p q;go_enter ZJ,ZI;go_upto_region 1 with fail;unfold Af at l;rw[<-l];clear l;go_wp2_with (go_at_call 39;refine(HS.out _ (Ze _ _)).mono ?_;rintro e w2 ⟨rfl,h2⟩;have j:Zm (LB R v f t d c w w2/\bL w w2):=⟨HB.out.1.below h2,HB.out.2.trans (h2.mono HB.out.2.size)⟩;clear h2 v0 v1 v2 v3 f0 p t0 q n0 b0 r0 r1 r2 r3 y0 y1 y2 y3 q0 c0 c1 c2 c3 z0 z1 z2 z3;obtain⟨ac,q0,⟨v0,v1,v2,v3⟩,⟨f0,p⟩,⟨t0,q⟩,_,_,⟨r0,r1,r2,r3,y0,y1,y2,y3⟩,_⟩:=j.out.1;simp only[Zh] at v1 v2 v3 p q)
 obtain⟨p1,p2,p3,p4,p5,p6,p7,p8,p9,a8,ab⟩:=HP.out;have a7:=Et j.out.1 j.out.2 HV.out.1 p1 p2 p3 p4 p7 p8 p5 p6 p9 a8 ab HV.out.2.2.2;have a5:=Uv (m:=Zc) (M:=M) (Q:=Q) (h:=OZ w.heap.size v f t d c) j.out.1.r (by omega) lr (Yi.la j.out.2) (HV.out.2.1.below j.out.2) a7 (fun x hx=>hx);obtain⟨⟨e0,e1,e2,e3⟩,hk,hW,hi⟩:=a5;refine Zj (v:=(OZ w.heap.size v f t d c).ag) ?_ rfl ⟨hk,.inr ⟨by rw[HC.out],hW,OZ w.heap.size v f t d c,rfl,hi,by rw[HC.out,CI],aa.out⟩⟩;simp only[OZ] at e0 e1 e2 e3;simp[results,Zx,go_sem,Th.ag,OZ,e0,e1,e2,e3]
theorem Qc(M R n:Nat)(Q:Nat->Prop)(v:Th)(f t:Tr)(j:Int)(c:Bool)(w:Zf)(hv:v.In Zc M R Q w)(q:f.In w)(x:t.In w)(m:f.k=t.k)(d:Ym 46 f.ty=Zc)(i:Ym 46 t.ty=Zc)(g:YD Yl f.ty t.ty=Zc)(l:UJ v.val f.ty)(fb:f.Bl Q)(tb:t.Bl Q)(u:f.hgt<=1000)(z:f.sm)(p:Wl R n Yn w)(y:¬Q R)(r:∀b,w.heap.size<=b->Q b):
  Zn N 97 #[O (Za ⟨R,0,L⟩),Zk #[I J v.k,I J v.n,v.fn,I J v.tag],Zk #[I J f.k,Zd f.a f.l.length f.c],Zk #[I J t.k,Zd t.a t.l.length t.c],I J j,.bool c] w (LY M R n Q w (Xk (Yq f.ty t.ty ⟨4,j,c⟩) v.val) (BY v f t)):=by
 by_cases hs:YD YA f.ty t.ty=Zc
 .exact BG M R n Q v f t j c w hv q x hs u z p y r
 have h:f.k=3:=by
  rcases Yz d with⟨k,e,h1⟩|⟨a,b,e,_⟩
  .rcases Yz i with⟨k',e',h2⟩|⟨a,b,e',_⟩
   .have h3:=f.ln;have o:=t.ln;rw[e] at h3;rw[e'] at o;simp only at h3 o;exfalso;apply hs;rw[e,e',h3,o,m];exact Kk _
   .rw[m,<-t.ln,e']
  .rw[<-f.ln,e]
 exact Dy M R n Q v f t j c w hv q x (by simpa using hs) h (m▸h) d i g l fb tb u z p y r
theorem Og{t:Ty}(h:Ym 46 t=Zc):gr t.k=Yt t:=by
 rcases Yz h with⟨k,rfl,c⟩|⟨a,b,rfl,_⟩
 .unfold gr Yt;rfl
 .rfl
theorem Mk{n:Nat}{t:Ty}(h:Ym (n+1) t=Zc):YD Yl t (Yt t)=Zc/\YD Yl (Yt t) t=Zc:=by
 rcases Yz h with⟨k,rfl,c⟩|⟨a,b,rfl,_⟩
 .have:Yt ⟨k,[]⟩=⟨k,[]⟩:=by unfold Yt;rw[if_neg (by simp only;omega)]
  rw[this];exact⟨Kn _ _ h,Kn _ _ h⟩
 .have:Yt ⟨3,[a,b]⟩=⟨3,[Yk,Yk]⟩:=rfl;rw[this,Sl _ _ _ _ _ rfl,Sl _ _ _ _ _ rfl];exact⟨by rw[show Yk=⟨0,[]⟩ from rfl,Lu,Lu];rfl,by rw[show Yk=⟨0,[]⟩ from rfl,NW,NW];rfl⟩
theorem Cl{v:Th}{T:Ty}(a:T.k≠0)(h:UJ v.val T):v.tag=0/\v.val=v.cv:=by
 by_cases h0:v.tag=0
 .exact⟨h0,by unfold Th.val;rw[if_pos h0]⟩
 .exfalso;unfold Th.val at h;rw[if_neg h0] at h;rcases L3.1 h with⟨h,_⟩|⟨h,_⟩|⟨h,_⟩|⟨h,_⟩|⟨_,h,_⟩
  .cases h
  .cases h
  .cases h
  .cases h
  .rw[h] at a;exact a rfl
theorem Kq{f t:Ty}(hf:Ym 46 f=Zc)(ht:Ym 46 t=Zc)(h:YD Yl f t=Zc)(ho:o.k=4):UU (Yq f t o) f t:=MB 100 46 f t o hf ht h ho (by split<;>omega)
theorem Dp(M R n:Nat)(Q:Nat->Prop)(v:Th)(f t:Tr)(no:Int)(back:Bool)(w:Zf)(hv:v.In Zc M R Q w)(hf:f.In w)(ht:t.In w)(hfk:f.k≠0)(htk:t.k=0)(hfg:Ym 46 f.ty=Zc)(htg:Ym 46 t.ty=Zc)(hvt:UJ v.val f.ty)(fb:f.Bl Q)(hh:f.hgt<=1000)(hm:f.sm)(hw:Wl R n Yn w)(hQ:¬Q R)(nw:∀b,w.heap.size<=b->Q b):
  Zn N 97 #[O (Za ⟨R,0,L⟩),Zk #[I J v.k,I J v.n,v.fn,I J v.tag],Zk #[I J f.k,Zd f.a f.l.length f.c],Zk #[I J t.k,Zd t.a t.l.length t.c],I J no,.bool back] w (LY M R n Q w (Xk (Yq f.ty t.ty ⟨4,no,back⟩) v.val) (BY v f t)):=by
 obtain⟨W1,a7⟩:∃W,W=Af R v f t no back w:=⟨_,rfl⟩
 have hB:LB R v f t no back w W1:=by rw[a7];exact NJ R v f t no back w
 have ab:bL w W1:=by rw[a7];exact R3 R v f t no back w
 have HB:=Uy hB ab;have ad:=hv.one;have al:∀(a:Zr)(m:ZB)(W:Zf),(Zv a v.fn m).run N W=Zt N W a v.fn m:=fun a m W=>Yx ad;have ac:t.ty=Yk:=by
  rcases Yz htg with⟨k,e,hk⟩|⟨a,b,e,ha,hb⟩
  .have:=t.ln;rw[e,htk] at this;simp only at this;rw[e,this];rfl
  .have:=t.ln;rw[e,htk] at this;cases this
 have aa:f.ty.k≠0:=by rw[f.ln];exact hfk
 have HS:Zm (∀W,bL W1 W->Zn N 39 #[Zk f.v,Zk t.v] W fun e w'=>e=Zp (.bool Zo)/\bL W w'):=fun W hb=>by
  have an:=ab.trans (hb.mono ab.size);have:=X9 1000 f t W (hf.below an) (ht.below an) hh hm;rw[show YD YA f.ty t.ty=Zo from by
   cases h:YD YA f.ty t.ty with
   |false=>rfl
   |true=>have:=LG _ _ h;rw[this,ac] at aa;exact absurd rfl aa] at this
  exact this
 have HC:Zm (Xk (Yq f.ty t.ty ⟨4,no,back⟩) v.val=(Yn,XX (Xk (Yq f.ty (Yt f.ty) ⟨4,no,back⟩) v.val).2 f.k)):=by
  show _=_
  rw[ac,DU hfg (by omega) aa,f.ln]
 have HI:Zm (∀(W:Zf)(u:Tr),Yi R L W1 W->Wl R n Yn W->u.ty=Yt f.ty->u.In W->u.Bl (W1.heap.size<=·)->Zn N 97 #[O (Za ⟨R,0,L⟩),Zk v.v,Zk f.v,Zk u.v,I J no,.bool back] W fun e w'=>Yi R L W w'/\Wl R n Yn w'/\∃h:Th,e=Zp (Zk h.v)/\h.In Zc M R (fun x=>Q x/\x≠w.heap.size+1/\x≠w.heap.size+1+1+1+1+1+1) w'/\(h.val=(Xk (Yq f.ty (Yt f.ty) ⟨4,no,back⟩) v.val).2/\(v.ok->v.my=f.ty->h.ok/\h.my=Yt f.ty))):=by
  intro W u hk ap hu a3 a2;have au:f.k=u.k:=by rw[<-f.ln,<-u.ln,hu,Ub]
  have aw:=hB.sz;have ai:YD Yl f.ty u.ty=Zc:=by rw[hu];exact(Mk hfg).1
  have aj:XR Q w W:=fun b hb hq=>by rw[hk.block b (by omega) (fun e=>hQ (e▸hq)) (by simp)];exact ab.block b hb
  have av:=hk.size;have:=Qc M R n (fun x=>Q x/\x≠w.heap.size+1/\x≠w.heap.size+1+1+1+1+1+1) v f u no back W ((hv.mono (Q':=fun x=>(Q x/\x≠w.heap.size+1/\x≠w.heap.size+1+1+1+1+1+1)) fun x h1 h2=>⟨h2,by omega,by omega⟩).same fun b h1 h2=>aj b h1 h2.1) (hf.same aj fb) a3 au hfg (by rw[hu];exact Xr hfg) ai hvt ((fb.and hf.bl).mono fun b h=>⟨h.1,by omega,by omega⟩) (a2.mono fun b h=>⟨nw b (by omega),by omega,by omega⟩) hh hm ap (fun h=>hQ h.1) (fun b hb=>⟨nw b (by omega),by omega,by omega⟩);rw[hu] at this;refine this.mono ?_;rintro e w' ⟨h1,h2|⟨h2,h3,h,h4,h5,h6⟩⟩
  .exact absurd (by rw[(Mr hfg (Xr hfg) (by omega) (Ub _).symm).1];rfl) h2.1
  .exact⟨h1,h3,h,h4,h5,h6.1,fun ho he=>⟨(h6.2 ho he).1,(h6.2 ho he).2.trans hu⟩⟩
 have HT:Zm (∀h:Th,h.val=(Xk (Yq f.ty (Yt f.ty) ⟨4,no,back⟩) v.val).2->h.tag=0/\h.val=h.cv):=fun h e=>by have h1:=(WG (Kq (o:=⟨4,no,back⟩) hfg (Xr hfg) (Mk hfg).1 rfl) hvt).1 (by rw[(Mr hfg (Xr hfg) (by omega) (Ub _).symm).1];rfl);rw[<-e] at h1;exact Cl (by rw[Ub];exact aa) h1
 have HV:=O8 hw hQ nw hfk;have ak:Zm (∀h:Th,h.tag=0->(v.ok->v.my=f.ty->h.ok/\h.my=Yt f.ty)->BY v f t {h with tag:=f.k}):=fun h h0 hp ho he=>by
  obtain⟨a,b⟩:=hp ho he;unfold Th.my at b;rw[if_pos h0] at b;have ar:f.k=1\/f.k=2\/f.k=3:=by
   rcases Yz hfg with⟨k,e,hk⟩|⟨x,y,e,_⟩
   .have:=f.ln;rw[e] at this;simp only at this;omega
   .have:=f.ln;rw[e] at this;simp only at this;omega
  refine⟨a.mark (.inr ⟨ar,?_⟩),?_⟩
  .rw[b,<-Og hfg,f.ln]
  .unfold Th.my;rw[if_neg hfk,ac]
 have HK:Zm (∀W,SK R (w.heap.size+1) W1 W->cL W w.heap.size 0 (O (Za ⟨R,0,L⟩))/\cL W (w.heap.size+1+1) 0 (I J f.k)/\cL W (w.heap.size+1+1) 1 (f.s)/\cL W (w.heap.size+1+1+1+1) 0 (I J no)/\cL W (w.heap.size+1+1+1+1+1) 0 (.bool back)):=fun W h=>by have lr:=hw.lt;exact⟨h _ _ _ hB.w0 (by omega) (by omega),h _ _ _ hB.f2.c0 (by omega) (by omega),h _ _ _ hB.f2.c1 (by omega) (by omega),h _ _ _ hB.n0 (by omega) (by omega),h _ _ _ hB.b0 (by omega) (by omega)⟩
 have lr:=hw.lt;have aq:=hw.below ab;obtain⟨c0,c1,c2,c3,z0,z1,z2,z3⟩:=aq;replace c1:cL W1 R 1 (I J 0):=c1;have k4:(t.k==3)=Zo:=by rw[htk];decide
 have k0:(t.k==0)=Zc:=by rw[htk];decide
 clear hv hw hQ nw hf ht hm hh ad aa ac hfg htg hvt fb hfk htk;obtain⟨ls,l,⟨v0,v1,v2,v3⟩,⟨f0,q⟩,⟨t0,t1⟩,n0,b0,⟨r0,r1,r2,r3,y0,y1,y2,y3⟩,_⟩:=hB;simp only[Zh] at v1 v2 v3 q t1;obtain⟨b3,ao⟩:∃b3,(f.k==3)=b3:=⟨_,rfl⟩
 cases b3
 all_goals
  go_enter ZJ,ZI
  go_upto_region 1 with fail
  unfold Af at a7
  rw[<-a7]
  clear a7
  go_upto_region 6 with(go_at_call 39;refine(HS.out _ (Ze _ _)).mono ?_;rintro e w2 ⟨rfl,h2⟩;have a0:Zm (LB R v f t no back w w2/\bL w w2/\Yi R L W1 w2/\SK R (w.heap.size+1) W1 w2):=⟨HB.out.1.below h2,HB.out.2.trans (h2.mono HB.out.2.size),Yi.la h2,(SK.refl _ _ _).kept (Yi.la h2)⟩;clear h2 v0 v1 v2 v3 f0 q t0 t1 n0 b0 r0 r1 r2 r3 y0 y1 y2 y3 l c0 c1 c2 c3 z0 z1 z2 z3;obtain⟨ax,l,⟨v0,v1,v2,v3⟩,⟨f0,q⟩,⟨t0,t1⟩,n0,b0,⟨r0,r1,r2,r3,y0,y1,y2,y3⟩,_⟩:=a0.out.1;simp only[Zh] at v1 v2 v3 q t1)
  have HD:Zm (LB R v f t no back w w2.drew/\bL w w2.drew/\Yi R L W1 w2.drew/\SK R (w.heap.size+1) W1 w2.drew/\Wl R n Yn w2.drew):=by have hd:bL w2 w2.drew:=(Ze _ _).drew;exact⟨a0.out.1.below hd,a0.out.2.1.trans (hd.mono a0.out.2.1.size),a0.out.2.2.1.trans (Yi.la hd),a0.out.2.2.2.kept (Yi.la hd),HV.out.1.below (a0.out.2.1.trans (hd.mono a0.out.2.1.size))⟩
  have d:=HD.out.2.2.2.1
  clear v0 v1 v2 v3 f0 q t0 t1 n0 b0 r0 r1 r2 r3 y0 y1 y2 y3 l
  obtain⟨ay,l,⟨v0,v1,v2,v3⟩,_,_,_,_,_,_⟩:=HD.out.1
  simp only[Zh] at v1 v2 v3
  refine Zu (S:=(fun W=>cL W w.heap.size 0 (O (Za ⟨R,0,L⟩))/\cL W (w.heap.size+1+1) 0 (I J f.k)/\cL W (w.heap.size+1+1) 1 (f.s)/\cL W (w.heap.size+1+1+1+1) 0 (I J no)/\cL W (w.heap.size+1+1+1+1+1) 0 (.bool back))) (by kernel_rfl) (HK.out _ d) (fun c=>?_)
  refine qk 0 (v:=?_) rfl (by kernel_rfl) (fun _ _ _ h=>h) (by rfl) c ?_ ?_;rotate_left;(focus (intro w' h;go_split_ands;go_simp;try with_reducible rfl));simp only[Zb,C,D,H]
  refine qk 2 (v:=?_) rfl (by kernel_rfl) (fun _ _ _ h=>h) (by rfl) c ?_ ?_;rotate_left;(focus (intro w' h;go_split_ands;go_simp;try with_reducible rfl));simp only[Zb,C,D,H]
  refine qk 3 (v:=?_) rfl (by kernel_rfl) (fun _ _ _ h=>h) (by rfl) c ?_ ?_;rotate_left;(focus (intro w' h;go_split_ands;go_simp;try with_reducible rfl));simp only[Zb,C,D,H]
  refine qk 5 (v:=?_) rfl (by kernel_rfl) (fun _ _ _ h=>h) (by rfl) c ?_ ?_;rotate_left;(focus (intro w' h;go_split_ands;go_simp;try with_reducible rfl));simp only[Zb,C,D,H]
  refine qk 6 (v:=?_) rfl (by kernel_rfl) (fun _ _ _ h=>h) (by rfl) c ?_ ?_;rotate_left;(focus (intro w' h;go_split_ands;go_simp;try with_reducible rfl));simp only[Zb,C,D,H]
  refine Pk (i:=1) (j:=4) rfl rfl (by kernel_rfl) (fun K g=>?_) (fun K g=>?_)
  .go_simp;refine g.out _ _ (HK.out _ d) (fun c=>?_);clear g K;(try simp only[Zb,C,D,H])
   refine YT (i:=4) rfl (by kernel_rfl) (fun K g=>?_);go_simp;refine(Ma f _).mono ?_;rintro e w3 ⟨u,rfl,hu,a3,a2,h3⟩;have HE:=E2 (HD.out.1.below h3) (HD.out.2.2.1.trans (Yi.la h3)) (HD.out.2.2.2.2.below h3) hu a3 (a2.mono fun b hb=>ZC HD.out.2.2.1.size hb);replace d:=d.kept (Yi.la h3);clear h3 hu a3 a2 v0 v1 v2 v3 l;obtain⟨_,l,⟨v0,v1,v2,v3⟩,_,_,_,_,_,_⟩:=HE.out.1;simp only[Zh] at v1 v2 v3;dsimp only;refine g.out _ _ (HK.out _ d) (fun c=>?_);clear g K;(try simp only[Zb,C,D,H])
   refine YT (i:=7) rfl (by kernel_rfl) (fun K g=>?_);go_simp;refine(HI.out _ u HE.out.2.1 HE.out.2.2.1 HE.out.2.2.2.1 HE.out.2.2.2.2.1 HE.out.2.2.2.2.2).mono ?_;rintro e w4 ⟨h4,a8,h,rfl,a4,z⟩;have HG:=Aa (HE.out.1.kept h4 lr) (HE.out.2.1.trans h4) a8 a4 z;have am:∀(a:Zr)(m:ZB)(W:Zf),(Zv a h.fn m).run N W=Zt N W a h.fn m:=fun a m W=>Yx a4.one;replace d:=d.kept h4;clear h4 a8 a4 z v0 v1 v2 v3 l;obtain⟨_,l,⟨v0,v1,v2,v3⟩,⟨f0,q⟩,_,_,_,⟨r0,r1,r2,r3,y0,y1,y2,y3⟩,r⟩:=HG.out.1;have z0:=r 0;have z1:=r 1;have z2:=r 2;have z3:=r 3;clear r;simp only[Zh] at v1 v2 v3 q;dsimp only;refine g.out _ _ (HK.out _ d) (fun c=>?_);clear g K;(try simp only[Zb,C,D,H])
   refine YT (i:=8) rfl (by kernel_rfl) (fun K g=>?_);go_simp;refine g.out _ _ (HK.out _ ((((d.set _ _).set _ _).set _ _).set _ _)) (fun c=>?_);clear g K;(try simp only[Zb,C,D,H])
   refine Zq (by kernel_rfl) ?_ _;have HM:Zm _:=HG.out.1.put h;clear c d ao k4 k0 al v0 v1 v2 v3 l f0 q r0 r1 r2 r3 y0 y1 y2 y3 z0 z1 z2 z3;obtain⟨w5,a5⟩:∃W,W=((((w4.setCell ⟨w.heap.size+1,0,L⟩ (I J h.k)).setCell ⟨w.heap.size+1,1,L⟩ (I J h.n)).setCell ⟨w.heap.size+1,2,L⟩ h.fn).setCell ⟨w.heap.size+1,3,L⟩ (I J h.tag)):=⟨_,rfl⟩
   rw[<-a5] at HM;rw[<-a5];clear a5;obtain⟨_,l,⟨v0,v1,v2,v3⟩,⟨f0,q⟩,_,_,_,⟨r0,r1,r2,r3,y0,y1,y2,y3⟩,r⟩:=HM.out.1;have z3:=r 3;clear r;simp only[Zh] at v1 v2 v3 q;go_upto_region 8 with fail;have p:Zm _:=HM.out.1.mark f.k;clear v0 v1 v2 v3 l f0 q r0 r1 r2 r3 y0 y1 y2 y3 z3;obtain⟨w6,a1⟩:∃W,W=w5.setCell ⟨w.heap.size+1,3,L⟩ (I J f.k):=⟨_,rfl⟩
   rw[<-a1] at p;rw[<-a1];clear a1;obtain⟨_,l,⟨v0,v1,v2,v3⟩,_,_,_,_,⟨r0,r1,r2,r3,y0,y1,y2,y3⟩,_⟩:=p.out.1;simp only[Zh] at v1 v2 v3;go_wp2_with fail;obtain⟨g1,g2,g3,g4,g5⟩:=HG.out;have m1:=HM.out.2;have m2:=p.out.2;have a9:¬(fun x=>Q x/\x≠w.heap.size+1/\x≠w.heap.size+1+1+1+1+1+1) (w.heap.size+1):=fun hx=>hx.2.1 rfl;have af:=(((g4.same (XR.mb m1 a9)).same (XR.mb m2 a9)).tag f.k)
   obtain⟨ae,ah⟩:=HT.out h g5.1;have a6:=Uv (m:=Zc) (M:=M) (Q:=Q) (h:={h with tag:=f.k}) p.out.1.r (by omega) lr ((((Yi.la HB.out.2).trans g2).new m1 (by omega)).new m2 (by omega)) ((g3.same m1 (by omega)).same m2 (by omega)) af (fun x hx=>⟨hx.1,hx.2.2⟩);obtain⟨⟨e0,e1,e2,e3⟩,hk,hW,hi⟩:=a6;refine Zj (v:=({h with tag:=f.k}:Th).ag) ?_ rfl ⟨hk,.inr ⟨by rw[HC.out],hW,{h with tag:=f.k},rfl,hi,?_,ak.out h ae g5.2⟩⟩
   .simp only at e0 e1 e2 e3;simp[results,Zx,go_sem,Th.ag,e0,e1,e2,e3]
   .rw[HC.out,<-g5.1,ah];unfold Th.val;rw[if_neg HV.out.2.2.2,Th.ns]
  .go_simp;refine(Ma f _).mono ?_;rintro e w3 ⟨u,rfl,hu,a3,a2,h3⟩;have HE:=E2 (HD.out.1.below h3) (HD.out.2.2.1.trans (Yi.la h3)) (HD.out.2.2.2.2.below h3) hu a3 (a2.mono fun b hb=>ZC HD.out.2.2.1.size hb);replace d:=d.kept (Yi.la h3);clear h3 hu a3 a2 v0 v1 v2 v3 l;obtain⟨_,l,⟨v0,v1,v2,v3⟩,_,_,_,_,_,_⟩:=HE.out.1;simp only[Zh] at v1 v2 v3;dsimp only;refine g.out _ _ (HK.out _ d) (fun c=>?_);clear g K;(try simp only[Zb,C,D,H])
   refine YT (i:=1) rfl (by kernel_rfl) (fun K g=>?_);go_simp;refine g.out _ _ (HK.out _ d) (fun c=>?_);clear g K;(try simp only[Zb,C,D,H])
   refine YT (i:=7) rfl (by kernel_rfl) (fun K g=>?_);go_simp;refine(HI.out _ u HE.out.2.1 HE.out.2.2.1 HE.out.2.2.2.1 HE.out.2.2.2.2.1 HE.out.2.2.2.2.2).mono ?_;rintro e w4 ⟨h4,a8,h,rfl,a4,z⟩;have HG:=Aa (HE.out.1.kept h4 lr) (HE.out.2.1.trans h4) a8 a4 z;have am:∀(a:Zr)(m:ZB)(W:Zf),(Zv a h.fn m).run N W=Zt N W a h.fn m:=fun a m W=>Yx a4.one;replace d:=d.kept h4;clear h4 a8 a4 z v0 v1 v2 v3 l;obtain⟨_,l,⟨v0,v1,v2,v3⟩,⟨f0,q⟩,_,_,_,⟨r0,r1,r2,r3,y0,y1,y2,y3⟩,r⟩:=HG.out.1;have z0:=r 0;have z1:=r 1;have z2:=r 2;have z3:=r 3;clear r;simp only[Zh] at v1 v2 v3 q;dsimp only;refine g.out _ _ (HK.out _ d) (fun c=>?_);clear g K;(try simp only[Zb,C,D,H])
   refine YT (i:=8) rfl (by kernel_rfl) (fun K g=>?_);go_simp;refine g.out _ _ (HK.out _ ((((d.set _ _).set _ _).set _ _).set _ _)) (fun c=>?_);clear g K;(try simp only[Zb,C,D,H])
   refine Zq (by kernel_rfl) ?_ _;have HM:Zm _:=HG.out.1.put h;clear c d ao k4 k0 al v0 v1 v2 v3 l f0 q r0 r1 r2 r3 y0 y1 y2 y3 z0 z1 z2 z3;obtain⟨w5,a5⟩:∃W,W=((((w4.setCell ⟨w.heap.size+1,0,L⟩ (I J h.k)).setCell ⟨w.heap.size+1,1,L⟩ (I J h.n)).setCell ⟨w.heap.size+1,2,L⟩ h.fn).setCell ⟨w.heap.size+1,3,L⟩ (I J h.tag)):=⟨_,rfl⟩
   rw[<-a5] at HM;rw[<-a5];clear a5;obtain⟨_,l,⟨v0,v1,v2,v3⟩,⟨f0,q⟩,_,_,_,⟨r0,r1,r2,r3,y0,y1,y2,y3⟩,r⟩:=HM.out.1;have z3:=r 3;clear r;simp only[Zh] at v1 v2 v3 q;go_upto_region 8 with fail;have p:Zm _:=HM.out.1.mark f.k;clear v0 v1 v2 v3 l f0 q r0 r1 r2 r3 y0 y1 y2 y3 z3;obtain⟨w6,a1⟩:∃W,W=w5.setCell ⟨w.heap.size+1,3,L⟩ (I J f.k):=⟨_,rfl⟩
   rw[<-a1] at p;rw[<-a1];clear a1;obtain⟨_,l,⟨v0,v1,v2,v3⟩,_,_,_,_,⟨r0,r1,r2,r3,y0,y1,y2,y3⟩,_⟩:=p.out.1;simp only[Zh] at v1 v2 v3;go_wp2_with fail;obtain⟨g1,g2,g3,g4,g5⟩:=HG.out;have m1:=HM.out.2;have m2:=p.out.2;have a9:¬(fun x=>Q x/\x≠w.heap.size+1/\x≠w.heap.size+1+1+1+1+1+1) (w.heap.size+1):=fun hx=>hx.2.1 rfl;have af:=(((g4.same (XR.mb m1 a9)).same (XR.mb m2 a9)).tag f.k)
   obtain⟨ae,ah⟩:=HT.out h g5.1;have a6:=Uv (m:=Zc) (M:=M) (Q:=Q) (h:={h with tag:=f.k}) p.out.1.r (by omega) lr ((((Yi.la HB.out.2).trans g2).new m1 (by omega)).new m2 (by omega)) ((g3.same m1 (by omega)).same m2 (by omega)) af (fun x hx=>⟨hx.1,hx.2.2⟩);obtain⟨⟨e0,e1,e2,e3⟩,hk,hW,hi⟩:=a6;refine Zj (v:=({h with tag:=f.k}:Th).ag) ?_ rfl ⟨hk,.inr ⟨by rw[HC.out],hW,{h with tag:=f.k},rfl,hi,?_,ak.out h ae g5.2⟩⟩
   .simp only at e0 e1 e2 e3;simp[results,Zx,go_sem,Th.ag,e0,e1,e2,e3]
   .rw[HC.out,<-g5.1,ah];unfold Th.val;rw[if_neg HV.out.2.2.2,Th.ns]
theorem CL(M R n:Nat)(Q:Nat->Prop)(v:Th)(f t:Tr)(no:Int)(back:Bool)(w:Zf)(hv:v.In Zc M R Q w)(hf:f.In w)(ht:t.In w)(hfk:f.k=0)(htk:t.k≠0)(hfg:Ym 46 f.ty=Zc)(htg:Ym 46 t.ty=Zc)(hvt:UJ v.val f.ty)(tb:t.Bl Q)(hh:f.hgt<=1000)(hm:f.sm)(hw:Wl R n Yn w)(hQ:¬Q R)(nw:∀b,w.heap.size<=b->Q b):
  Zn N 97 #[O (Za ⟨R,0,L⟩),Zk #[I J v.k,I J v.n,v.fn,I J v.tag],Zk #[I J f.k,Zd f.a f.l.length f.c],Zk #[I J t.k,Zd t.a t.l.length t.c],I J no,.bool back] w (LY M R n Q w (Xk (Yq f.ty t.ty ⟨4,no,back⟩) v.val) (BY v f t)):=by
 obtain⟨W1,i⟩:∃W,W=Af R v f t no back w:=⟨_,rfl⟩
 have hB:LB R v f t no back w W1:=by rw[i];exact NJ R v f t no back w
 have a2:bL w W1:=by rw[i];exact R3 R v f t no back w
 have HB:=Uy hB a2;have a4:=hv.one;have an:∀(a:Zr)(m:ZB)(W:Zf),(Zv a v.fn m).run N W=Zt N W a v.fn m:=fun a m W=>Yx a4;have a1:f.ty=Yk:=by
  rcases Yz hfg with⟨k,e,hk⟩|⟨a,b,e,ha,hb⟩
  .have:=f.ln;rw[e,hfk] at this;simp only at this;rw[e,this];rfl
  .have:=f.ln;rw[e,hfk] at this;cases this
 have o:t.ty.k≠0:=by rw[t.ln];exact htk
 have HS:Zm (∀W,bL W1 W->Zn N 39 #[Zk f.v,Zk t.v] W fun e w'=>e=Zp (.bool Zo)/\bL W w'):=fun W hb=>by
  have ai:=a2.trans (hb.mono a2.size);have:=X9 1000 f t W (hf.below ai) (ht.below ai) hh hm;rw[show YD YA f.ty t.ty=Zo from by
   cases h:YD YA f.ty t.ty with
   |false=>rfl
   |true=>have:=LG _ _ h;rw[<-this,a1] at o;exact absurd rfl o] at this
  exact this
 obtain⟨ab,a7,ae⟩:v.tag≠0/\v.val=XX v.cv v.tag/\UJ v.cv (gr v.tag):=by
  rw[a1] at hvt;obtain⟨l,_,_,h4⟩:=RD hvt;have h0:v.tag≠0:=fun h0=>by
   have e:v.val=v.cv:=by unfold Th.val;rw[if_pos h0]
   rw[e] at l;rcases Th.lk.1 hv with⟨al,p⟩|⟨a9,c,_⟩|⟨a8,_,⟨u,p⟩,_⟩
   .rw[Th.mh,al] at l;rw[if_neg (by decide),if_neg (by decide)] at l;split at l<;>cases l
   .rw[Th.mh,a9,if_pos rfl] at l;cases l
   .rw[e] at hvt;rw[Th.mh,a8,if_neg (by decide),if_pos rfl] at l;unfold Y9 at l;rw[p.inn] at l;simp only[ZL,List.headD_cons] at l;split at l
    .split at l<;>cases l
    .have o:=p.ty;have hfg:=p.fg;rcases Yz hfg with⟨k,e2,hk⟩|⟨a,b,e2,ha,hb⟩
     .have h7:=v.f.ln;rw[e2] at h7;simp only at h7;have:=p.fk;omega
     .rw[e2] at o;rcases KK o with⟨h8,_⟩|⟨h8,_⟩<;>omega
  have e:v.val=XX v.cv v.tag:=by unfold Th.val;rw[if_neg h0]
  rw[e] at h4;exact⟨h0,e,h4⟩
 have HV:=LL hw hQ nw;have HC:Zm (Xk (Yq f.ty t.ty ⟨4,no,back⟩) v.val=if v.tag≠t.k then (⟨4,no,back⟩,XX v.cv v.tag) else (Yn,(Xk (Yq (Yt t.ty) t.ty ⟨4,no,back⟩) v.cv).2)):=by
  show _=_
  rw[a1,a7,DT htg (by omega) o,t.ln]
 have ac:({v with tag:=0}:Th).val=v.cv:=by unfold Th.val;rw[if_pos rfl,Th.ns]
 have HI:Zm (v.tag=t.k->∀(W:Zf)(u:Tr),Yi R L w W->W1.heap.size<=W.heap.size->Wl R n Yn W->u.ty=Yt t.ty->u.In W->u.Bl (W1.heap.size<=·)->Zn N 97 #[O (Za ⟨R,0,L⟩),Zk #[I J v.k,I J v.n,v.fn,I J 0],Zk u.v,Zk t.v,I J no,.bool back] W fun e w'=>Yi R L W w'/\Wl R n Yn w'/\∃h:Th,e=Zp (Zk h.v)/\h.In Zc M R (fun x=>Q x/\x≠w.heap.size+1+1+1+1+1+1) w'/\(h.val=(Xk (Yq (Yt t.ty) t.ty ⟨4,no,back⟩) v.cv).2/\(v.ok->h.ok/\h.my=t.ty))):=by
  intro d W u hk av a8 hu a3 a0;have ap:u.k=t.k:=by rw[<-t.ln,<-u.ln,hu,Ub]
  have aw:=hB.sz;have af:YD Yl u.ty t.ty=Zc:=by rw[hu];exact(Mk htg).2
  have ah:=XR.mb hk hQ;obtain⟨_,aq,ao⟩:=YS (n:=46) (t:=u) (by omega) (by rw[YL,hu];exact Xr htg);have ar:UJ ({v with tag:=0}:Th).val u.ty:=by rw[ac,hu,<-Og htg,t.ln,<-d];exact ae
  have:=Qc M R n (fun x=>Q x/\x≠w.heap.size+1+1+1+1+1+1) {v with tag:=0} u t no back W (((hv.mono (Q':=fun x=>(Q x/\x≠w.heap.size+1+1+1+1+1+1)) fun x h1 j=>⟨j,by omega⟩).same fun b h1 j=>ah b h1 j.1).tag 0) a3 (ht.same ah tb) ap (by rw[hu];exact Xr htg) htg af ar (a0.mono fun b h=>⟨nw b (by omega),by omega⟩) ((tb.and ht.bl).mono fun b h=>⟨h.1,by omega⟩) aq ao a8 (fun h=>hQ h.1) (fun b hb=>⟨nw b (by omega),by omega⟩);rw[hu,ac] at this;refine this.mono ?_;rintro e w' ⟨h1,j|⟨j,h3,h,h4,h5,h6⟩⟩
  .exact absurd (by rw[(Mr (Xr htg) htg (by omega) (Ub _)).1];rfl) j.1
  .refine⟨h1,h3,h,h4,h5,h6.1,fun ho=>h6.2 (ho.mark (.inl rfl)) ?_⟩;show (if (0:Int)=0 then v.t.ty else Yk)=_
   rw[if_pos rfl];rcases (Th.mn.1 ho).1 with h0|⟨_,hg⟩
   .exact absurd h0 ab
   .rw[hg,hu,<-Og htg,t.ln,d]
 have lr:=hw.lt;have a9:=hw.below a2;obtain⟨c0,c1,c2,c3,z0,z1,z2,z3⟩:=a9;replace c1:cL W1 R 1 (I J 0):=c1;have k3:(f.k==3)=Zo:=by rw[hfk];decide
 have k0:(t.k==0)=Zo:=by simpa using htk
 have l:(f.k==0)=Zc:=by rw[hfk];decide
 have k6:(v.tag != 0)=Zc:=by simpa using ab
 clear hv hw hQ nw hf ht hm hh a4 a1 o hfg htg hvt tb hfk htk ab a7 ae ac;obtain⟨ls,q0,⟨v0,v1,v2,v3⟩,⟨f0,f1⟩,⟨t0,t1⟩,n0,b0,⟨r0,r1,r2,r3,y0,y1,y2,y3⟩,_⟩:=hB;simp only[Zh] at v1 v2 v3 f1 t1;by_cases d:v.tag=t.k
 .have k7:(v.tag != t.k)=Zo:=by simpa using d
  have z:=Yy d;clear d;go_enter ZJ,ZI;go_upto_region 1 with fail;unfold Af at i;rw[<-i];clear i;go_upto_region 13 with(go_at_call 39;refine(HS.out _ (Ze _ _)).mono ?_;rintro e w2 ⟨rfl,j⟩;have g:Zm (LB R v f t no back w w2/\bL w w2/\Yi R L W1 w2):=⟨HB.out.1.below j,HB.out.2.trans (j.mono HB.out.2.size),Yi.la j⟩;clear j v0 v1 v2 v3 f0 f1 t0 t1 n0 b0 r0 r1 r2 r3 y0 y1 y2 y3 q0 c0 c1 c2 c3 z0 z1 z2 z3;obtain⟨am,q0,⟨v0,v1,v2,v3⟩,⟨f0,f1⟩,⟨t0,t1⟩,n0,b0,⟨r0,r1,r2,r3,y0,y1,y2,y3⟩,zz⟩:=g.out.1;have z3:=zz 3;clear zz;simp only[Zh] at v1 v2 v3 f1 t1)
  have HM:Zm _:=g.out.1.mark 0;clear v0 v1 v2 v3 q0 f0 f1 t0 t1 n0 b0 r0 r1 r2 r3 y0 y1 y2 y3 z3 k7 k6 l k0 k3 an;obtain⟨w3,y⟩:∃W,W=w2.setCell ⟨w.heap.size+1,3,L⟩ (I J 0):=⟨_,rfl⟩
  rw[<-y] at HM;rw[<-y];clear y;have HK:Zm (∀V W,LB R {v with tag:=0} f t no back w V->Yi (w.heap.size+1+1+1+1+1+1) L V W->cL W w.heap.size 0 (O (Za ⟨R,0,L⟩))/\cL W (w.heap.size+1) 0 (I J v.k)/\cL W (w.heap.size+1) 1 (I J v.n)/\cL W (w.heap.size+1) 2 v.fn/\cL W (w.heap.size+1) 3 (I J 0)/\cL W (w.heap.size+1+1+1) 0 (I J t.k)/\cL W (w.heap.size+1+1+1) 1 (t.s)/\cL W (w.heap.size+1+1+1+1) 0 (I J no)/\cL W (w.heap.size+1+1+1+1+1) 0 (.bool back)):=fun V W h k=>by obtain⟨_,q0,⟨v0,v1,v2,v3⟩,_,⟨t0,t1⟩,n0,b0,_,_⟩:=h;simp only[Zh] at v1 v2 v3 t1;exact⟨k.cell q0 (by omega),k.cell v0 (by omega),k.cell v1 (by omega),k.cell v2 (by omega),k.cell v3 (by omega),k.cell t0 (by omega),k.cell t1 (by omega),k.cell n0 (by omega),k.cell b0 (by omega)⟩
  have HD:Zm (LB R {v with tag:=0} f t no back w w3.drew/\Yi R L w w3.drew/\W1.heap.size<=w3.drew.heap.size/\Wl R n Yn w3.drew):=by have hd:bL w3 w3.drew:=(Ze _ _).drew;have ak:Yi R L w w3:=(Yi.la g.out.2.1).new HM.out.2 (by omega);exact⟨HM.out.1.below hd,ak.trans (Yi.la hd),ZC g.out.2.2.size (ZC HM.out.2.size hd.size),((HV.out.1.below g.out.2.1).same HM.out.2 (by omega)).below hd⟩
  have q:=HD.out.1;go_region_held3 (fun W=>cL W w.heap.size 0 (O (Za ⟨R,0,L⟩))/\cL W (w.heap.size+1) 0 (I J v.k)/\cL W (w.heap.size+1) 1 (I J v.n)/\cL W (w.heap.size+1) 2 v.fn/\cL W (w.heap.size+1) 3 (I J 0)/\cL W (w.heap.size+1+1+1) 0 (I J t.k)/\cL W (w.heap.size+1+1+1) 1 (t.s)/\cL W (w.heap.size+1+1+1+1) 0 (I J no)/\cL W (w.heap.size+1+1+1+1+1) 0 (.bool back))
   (first|exact HK.out _ _ q Yi.refl|exact HK.out _ _ q (((Yj.trans Yj).trans Yj).trans Yj)|fail)
   (first
    |(go_at_call 132;refine(Ma t _).mono ?_;rintro e w4 ⟨u,rfl,hu,a3,a0,h4⟩;have r:Zm (LB R {v with tag:=0} f t no back w w4/\Yi R L w w4/\W1.heap.size<=w4.heap.size/\Wl R n Yn w4/\u.ty=Yt t.ty/\u.In w4/\u.Bl (W1.heap.size<=·)):=⟨HD.out.1.below h4,HD.out.2.1.trans (Yi.la h4),ZC HD.out.2.2.1 h4.size,HD.out.2.2.2.below h4,hu,a3,a0.mono fun b hb=>ZC HD.out.2.2.1 hb⟩;clear q h4 hu a3 a0;have q:=r.out.1)
    |(go_at_call 97;refine(HI.out z.out _ u r.out.2.1 r.out.2.2.1 r.out.2.2.2.1 r.out.2.2.2.2.1 r.out.2.2.2.2.2.1 r.out.2.2.2.2.2.2).mono ?_;rintro e w5 ⟨h5,aj,h,rfl,aa,a5⟩;have HG:Zm (LB R {v with tag:=0} f t no back w w5/\Yi R L w w5/\Wl R n Yn w5/\h.In Zc M R (fun x=>Q x/\x≠w.heap.size+1+1+1+1+1+1) w5/\(h.val=(Xk (Yq (Yt t.ty) t.ty ⟨4,no,back⟩) v.cv).2/\(v.ok->h.ok/\h.my=t.ty))):=⟨r.out.1.kept h5 lr,r.out.2.1.trans h5,aj,aa,a5⟩;have au:∀(a:Zr)(m:ZB)(W:Zf),(Zv a h.fn m).run N W=Zt N W a h.fn m:=(fun a m W=>Yx aa.one);clear q h5 aj aa a5;have q:=HG.out.1;obtain⟨_,q0,_,_,_,_,_,⟨r0,r1,r2,r3,y0,y1,y2,y3⟩,_⟩:=HG.out.1)
    |fail)
  clear q;go_wp2_with fail;obtain⟨g1,g2,g3,g4,g5⟩:=HG.out;have ad:=Uv (m:=Zc) (M:=M) (Q:=Q) (h:=h) g1.r (by omega) lr g2 g3 g4 (fun x hx=>hx);obtain⟨⟨e0,e1,e2,e3⟩,hk,hW,hi⟩:=ad;refine Zj (v:=h.ag) ?_ rfl ⟨hk,.inr ⟨by rw[HC.out,if_neg (fun e=>e z.out)],hW,h,rfl,hi,by rw[HC.out,if_neg (fun e=>e z.out),g5.1],fun ho _=>g5.2 ho⟩⟩;simp[results,Zx,go_sem,Th.ag,e0,e1,e2,e3]
 .have k7:(v.tag != t.k)=Zc:=by simpa using d
  have z:=Yy d;clear d;go_enter ZJ,ZI;go_upto_region 1 with fail;unfold Af at i;rw[<-i];clear i;go_upto_region 11 with(go_at_call 39;refine(HS.out _ (Ze _ _)).mono ?_;rintro e w2 ⟨rfl,j⟩;have g:Zm (LB R v f t no back w w2/\bL w w2/\Yi R L W1 w2):=⟨HB.out.1.below j,HB.out.2.trans (j.mono HB.out.2.size),Yi.la j⟩;clear j v0 v1 v2 v3 f0 f1 t0 t1 n0 b0 r0 r1 r2 r3 y0 y1 y2 y3 q0 c0 c1 c2 c3 z0 z1 z2 z3;obtain⟨am,q0,⟨v0,v1,v2,v3⟩,⟨f0,f1⟩,⟨t0,t1⟩,n0,b0,⟨r0,r1,r2,r3,y0,y1,y2,y3⟩,zz⟩:=g.out.1;have z3:=zz 3;clear zz;simp only[Zh] at v1 v2 v3 f1 t1)
  have a6:=HV.out.1.below g.out.2.1;go_wp2_with (go_at_call 96;refine(PK R n ⟨4,no,back⟩ _ a6).mono ?_;rintro e w3 ⟨rfl,y,h3⟩;simp only[Uf];have r:Zm (LB R v f t no back w w3/\Wl R n ⟨4,no,back⟩ w3/\Yi R L w w3):=⟨g.out.1.kept h3 lr,y,(Yi.la g.out.2.1).trans h3⟩;clear y h3 v0 v1 v2 v3 f0 f1 t0 t1 n0 b0 r0 r1 r2 r3 y0 y1 y2 y3 q0 z3 a6;obtain⟨_,q0,_,_,_,_,_,⟨r0,r1,r2,r3,y0,y1,y2,y3⟩,_⟩:=r.out.1)
  obtain⟨⟨e0,e1,e2,e3⟩,hk⟩:=r.out.1.r.set (I J 0) (I J 0) .nilFunc (I J 0);refine Zj (v:=Uf) ?_ rfl ⟨r.out.2.2.new hk (by omega),.inl ⟨?_,rfl,?_⟩⟩
  .simp[results,Zx,go_sem,Uf,e0,e1,e2,e3]
  .rw[HC.out,if_pos z.out];show (4:Int)≠0;decide
  .rw[HC.out,if_pos z.out];exact r.out.2.1.same hk (by omega)
theorem MG(M R n:Nat)(Q:Nat->Prop)(v:Th)(f t:Tr)(h:Int)(a:Bool)(w:Zf)(q:v.In Zc M R Q w)(j:f.In w)(m:t.In w)(c:Ym 46 f.ty=Zc)(g:Ym 46 t.ty=Zc)(d:YD Yl f.ty t.ty=Zc)(e:UJ v.val f.ty)(u:f.Bl Q)(r:t.Bl Q)(i:Wl R n Yn w)(o:¬Q R)(k:∀b,w.heap.size<=b->Q b):
  Zn N 97 #[O (Za ⟨R,0,L⟩),Zk #[I J v.k,I J v.n,v.fn,I J v.tag],Zk #[I J f.k,Zd f.a f.l.length f.c],Zk #[I J t.k,Zd t.a t.l.length t.c],I J h,.bool a] w (LY M R n Q w (Xk (Yq f.ty t.ty ⟨4,h,a⟩) v.val) (BY v f t)):=by
 obtain⟨_,l,p⟩:=YS (n:=46) (t:=f) (by omega) (by rw[YL];exact c);by_cases hk:f.k=t.k
 .exact Qc M R n Q v f t h a w q j m hk c g d e u r l p i o k
 by_cases h0:t.k=0
 .exact Dp M R n Q v f t h a w q j m (by omega) h0 c g e u l p i o k
 by_cases h1:f.k=0
 .exact CL M R n Q v f t h a w q j m h1 h0 c g e r l p i o k
 have:=MO d (by rw[f.ln];exact h1) (by rw[t.ln];exact h0);rw[f.ln,t.ln] at this;exact absurd this hk
theorem MN{t:Tr}{w:Zf}(ht:t.In w)(hg:Ym 46 t.ty=Zc)(hk:t.k=3):∃(t0 t1:Tr)(b o:Nat),t.l=[t0,t1]/\t.a=Za ⟨b,o,L⟩/\t.l.length=2/\w.cell? ⟨b,o,L⟩=Za (I J t0.k)/\w.cell? ⟨b,o+1,L⟩=Za (Zd t0.a t0.l.length t0.c)/\w.cell? ⟨b,o+2,L⟩=Za (I J t1.k)/\w.cell? ⟨b,o+3,L⟩=Za (Zd t1.a t1.l.length t1.c)/\t0.In w/\t1.In w/\t.ty=YM t0.ty t1.ty/\Ym 45 t0.ty=Zc/\Ym 45 t1.ty=Zc/\(∀Q:Nat->Prop,t.Bl Q->Q b/\t0.Bl Q/\t1.Bl Q):=by
 obtain⟨k,a,c,l⟩:=t;simp only at hk;subst hk;rw[Tr.lh] at hg;obtain⟨x,y,e,m,j⟩:∃x y,(Ty.mk 3 (l.map Tr.ty))=⟨3,[x,y]⟩/\Ym 45 x=Zc/\Ym 45 y=Zc:=by
  rcases Yz hg with⟨k,e,hk⟩|⟨x,y,e,m,j⟩
  .have:=congrArg Ty.k e;simp only at this;omega
  .exact⟨x,y,e,m,j⟩
 match l,e,ht with
 |[],e,_=>simp at e
 |[_],e,_=>simp at e
 |_::_::_::_,e,_=>simp at e
 |[t0,t1],e,ht=>
  simp only[ZL,List.map_nil,Ty.mk.injEq,List.cons.injEq,and_true,true_and] at e;obtain⟨rfl,rfl⟩:=e;obtain⟨b,o,i,u,z,h⟩:=ht.part 0 (by simp);obtain⟨b',o',d,p,r,g⟩:=ht.part 1 (by simp);simp only[List.getElem_cons_zero,List.getElem_cons_succ,ZS,ZT,Nat.one_mul] at u z p r h g i d;rw[i] at d;obtain⟨rfl,rfl⟩:b=b'/\o=o':=by simpa using d
  refine⟨t0,t1,b,o,rfl,i,rfl,u,z,p,r,h,g,by rw[Tr.lh];rfl,m,j,fun Q hQ=>?_⟩;obtain⟨h1,q⟩:=Tr.ld.1 hQ;exact⟨h1 (by simp) _ i,q t0 (by simp),q t1 (by simp)⟩
structure PB(X:Th)(w W:Zf):Prop where
 x4:QM W w.heap.size 0 X
 r:Rb W (w.heap.size+1)
theorem ND(X:Th)(w:Zf):PB X w ((w.alloc (Zl #[I J X.k,I J X.n,X.fn,I J X.tag] 103)).alloc (Zl #[I J 0,I J 0,.nilFunc,I J 0] 103)):=by
 refine⟨⟨?_,?_,?_,?_⟩,⟨?_,?_,?_,?_,?_,?_,?_,?_⟩⟩
 all_goals simp[go_sem]
theorem RX(X:Th)(w:Zf):ZK w.heap.size w ((w.alloc (Zl #[I J X.k,I J X.n,X.fn,I J X.tag] 103)).alloc (Zl #[I J 0,I J 0,.nilFunc,I J 0] 103)):=((Ze _ _).alloc (Zg _) _).alloc (by simp) _
theorem PB.kept{X:Th}(h:PB X w W)(hk:Yi R L W V)(lr:R<w.heap.size):PB X w V:=⟨h.x4.same (Q:=fun b=>b≠R) (fun b hb hq=>hk.block b hb hq (by simp)) (by omega),h.r.kept hk (by omega)⟩
theorem PB.below{X:Th}(h:PB X w W)(hb:ZK W.heap.size W V):PB X w V:=⟨h.x4.same (Q:=fun _=>True) (XR.la hb) trivial,h.r.below hb⟩
def Sn(m:Bool)(F:Nat)(f g:YJ)(B:Ty)(c:Nat)(r:XG)(V:YJ)(c':Nat):Prop:=(m=Zc/\Ax F f g B c r V c'/\(r.k=0->UJ V B))\/(m=Zo/\So F f g c r V c')
theorem Nm{h:Th}(a:h.wy=1):h.cv=NM (h.x.tm.at 0) (h.env.map Th.val):=by rw[Th.mh,if_pos a]
theorem WD{m:Bool}{F:Nat}{f g:YJ}{B:Ty}{c:Nat}{r:XG}{V:YJ}{c':Nat}(h3:f.k=3)(h:So F f g c r V c')(ht:m=Zc->r.k=0->UJ V B):Sn m F f g B c r V c':=by
 cases m with
 |true=>exact .inl ⟨rfl,.inl ⟨h3,h,ht rfl⟩,ht rfl⟩
 |false=>exact .inr ⟨rfl,h⟩
theorem DP(m:Bool)(M R F c:Nat)(Q:Nat->Prop)(h X:Th)(B:Ty)(w:Zf)(x:Eg m M R Q w h)(hX:X.In m M R Q w)(u:Wl R (F-c) Yn w)(hc:c=F)(hQ:¬Q R)(j:h.wy=1):
  Zn N 95 #[Zk #[I J X.k,I J X.n,X.fn,I J X.tag],O (Za ⟨h.b1,0,L⟩),O (Za ⟨h.b2,0,L⟩),O (Za ⟨h.b3,0,L⟩)] w (Xn m M R F c Q w B (fun r V c'=>Sn m F h.cv X.val B c r V c')):=by
 have y:=u.lt;obtain⟨W1,b⟩:∃W,W=(w.alloc (Zl X.v 103)).alloc (Zl #[I J 0,I J 0,.nilFunc,I J 0] 103):=⟨_,rfl⟩
 have hB:PB X w W1:=by rw[b];exact ND X w
 have g:bL w W1:=by rw[b];exact RX X w
 have d:=hX.one;have a1:∀(a:Zr)(m:ZB)(W:Zf),(Zv a X.fn m).run N W=Zt N W a X.fn m:=fun a m W=>Yx d;have a0:h.b1≠R:=fun e=>hQ (e▸x.b1);have k:Wl R 0 Yn W1:=by have:=u.below g;rwa [show F-c=0 by omega] at this
 have p:=LL hB g k;have q1:=Zz g x.w1;have HD:Zm (Sn m F h.cv X.val B c NN (XP 0) c/\c<=F/\F-c=0):=by refine⟨WD ?_ (EQ ?_ hc) (fun _ h0=>by cases h0),by omega,by omega⟩<;>rw[Nm j]<;>rfl
 obtain⟨q,_,_,_,_,_,_,_⟩:=k;replace q:cL W1 R 0 (I J 0):=q;clear x hX u hc hQ j d hB;go_enter func95,ntmps95;go_upto_region 1 with fail;rw[<-b];clear b;go_wp2_with (go_at_call 96;refine(PK R 0 NN _ p.out.2.2).mono ?_;rintro e z ⟨rfl,i,o⟩;simp only[Uf];have l:Zm (Wl R 0 NN z/\Yi R L W1 z/\Rb z (w.heap.size+1)):=⟨i,o,(p.out.1.kept o y).r⟩;clear i o q1 q;obtain⟨r0,r1,r2,r3,y0,y1,y2,y3⟩:=l.out.2.2)
 obtain⟨⟨e0,e1,e2,e3⟩,hk⟩:=l.out.2.2.set (I J 0) (I J 0) .nilFunc (I J 0);refine Zj (v:=Uf) ?_ rfl ⟨((Yi.la p.out.2.1).trans l.out.2.1).new hk (by omega),NN,XP 0,c,HD.out.1,Zg _,HD.out.2.1,?_,.inl ⟨by decide,rfl⟩⟩
 .simp[results,ZE,go_sem,Uf,e0,e1,e2,e3]
 .rw[HD.out.2.2];exact l.out.1.same hk (by omega)
theorem Tryz.info103s:(N.info? 103).map (fun i=>(i.zero,i.size,i.bytes))=Za (Za (Zk #[I J 0,I J 0,.nilFunc,I J 0]),4,32):=by kernel_rfl
def Us:List Th->List Zy
 |[]=>[]
 |h::r=>I J h.k::I J h.n::h.fn::I J h.tag::Us r
theorem K4:∀l:List Th,(Us l).length=l.length*4
 |[]=>rfl
 |h::r=>by simp only[Us,List.length_cons,K4 r];omega
theorem Qk:∀(l:List Th)(u:Zy),(∀h,h∈l->h.fn.oneCell'=Zc)->u∈Us l->u.oneCell'=Zc
 |[],u,_,h=>by simp[Us] at h
 |x::r,u,ho,h=>by
  simp only[Us,ZP] at h;rcases h with rfl|rfl|rfl|rfl|h
  .simp[ZN]
  .simp[ZN]
  .exact ho x (by simp)
  .simp[ZN]
  .exact Qk r u (fun y hy=>ho y (by simp[hy])) h
theorem Oo:∀(l:List Th)(j:Nat)(h:j<l.length),(Us l)[j*4]?=Za (I J l[j].k)/\(Us l)[j*4+1]?=Za (I J l[j].n)/\(Us l)[j*4+2]?=Za l[j].fn/\(Us l)[j*4+3]?=Za (I J l[j].tag)
 |[],j,h=>by simp at h
 |t::r,0,_=>by simp[Us]
 |t::r,j+1,h=>by
  have ih:=Oo r j (by simpa using h);have e:(j+1)*4=j*4+1+1+1+1:=by omega
  rw[e];simpa[Us] using ih
theorem Qt.news{o:Nat}{E:List Th}(h:Qt m M R Q w (Za ⟨b,o,L⟩) E)(j:Nat)(u:Zy)(d:(Us E)[j]?=Za u):w.cell? ((⟨b,o,L⟩:Zr).add j)=Za u:=by
 have y:j<E.length*4:=by have:=(List.getElem?_eq_some_iff.1 d).1;rwa [K4] at this
 obtain⟨z,o',e,_,x,r,g,p⟩:=h.at4 (j / 4) (by omega);cases e
 obtain⟨i,q,k,l⟩:=Oo E (j / 4) (by omega);have c:(⟨b,o,L⟩:Zr).add j=⟨b,o+j,L⟩:=by
  unfold Addr.add;split
  .rename_i h;simp_all
  .rfl
 rw[c];have a:j=j / 4*4\/j=j / 4*4+1\/j=j / 4*4+2\/j=j / 4*4+3:=by omega
 rcases a with a|a|a|a
 .rw[<-a] at i x;rw[d] at i;rw[Zw i];exact x
 .rw[ZQ] at r;rw[<-a] at q r;rw[d] at q;rw[Zw q];exact r
 .rw[ZQ] at g;rw[<-a] at k g;rw[d] at k;rw[Zw k];exact g
 .rw[ZQ] at p;rw[<-a] at l p;rw[d] at l;rw[Zw l];exact p
theorem Qg{base g cap n:Nat}{E:List Th}(h:w.ownsRow base 103 4 (Zd (Za ⟨g,0,L⟩) n cap) n (Us E))(o:n=E.length)(l:Q g)(a:∀e,e∈E->e.In m M R Q w):Qt m M R Q w (Za ⟨g,0,L⟩) E:=by
 refine⟨fun j i=>⟨g,0,rfl,l,?_⟩,a⟩;obtain⟨b,k,c,d⟩:=Oo E j i;refine⟨?_,?_,?_,?_⟩
 .rw[Zh,h.cellAt (j*4) (by omega)];exact b
 .rw[Zh,h.cellAt (j*4+1) (by omega)];exact k
 .rw[Zh,h.cellAt (j*4+2) (by omega)];exact c
 .rw[Zh,h.cellAt (j*4+3) (by omega)];exact d
theorem Fq(m:Bool)(M R F c k:Nat)(Q:Nat->Prop)(h X:Th)(y:TT)(B:Ty)(w:Zf)(hp:Eg m M R Q w h)(he:∀e,e∈h.env->e.In m M R Q w)(hX:X.In m M R Q w)(hw:Wl R (F-c) Yn w)(hk:F-c=k+1)(hF:F<=1000)(hM:M<=10000)(hQ:¬Q R)(nw:∀b,w.heap.size<=b->Q b)(b6:h.wy=1)(hy:h.x.l=[y])
  (ih:Zm (∀(Q':Nat->Prop)(ea:Option Zr)(ec:Nat)(W:Zf),y.In W->y.Bl Q'->Qt m M R Q' W ea (X::h.env)->Wl R (F-(c+1)) Yn W->¬Q' R->(∀b,W.heap.size<=b->Q' b)->Zn N 59 #[O (Za ⟨R,0,L⟩),Zk #[I J y.k,I J y.n,I J y.t.k,Zd y.t.a y.t.l.length y.t.c,I J y.f.k,Zd y.f.a y.f.l.length y.f.c,Zd y.a y.l.length y.c],Zd ea (h.env.length+1) ec] W (Xn m M R F (c+1) Q' W B (fun r V c'=>KS F y.tm (X.val::h.env.map Th.val) (c+1) r V c'/\(m=Zc->r.k=0->UJ V B))))) :
  Zn N 95 #[Zk #[I J X.k,I J X.n,X.fn,I J X.tag],O (Za ⟨h.b1,0,L⟩),O (Za ⟨h.b2,0,L⟩),O (Za ⟨h.b3,0,L⟩)] w (Xn m M R F c Q w B (fun r V c'=>Sn m F h.cv X.val B c r V c')):=by
 have ai:=hw.lt;obtain⟨W1,am⟩:∃W,W=(w.alloc (Zl X.v 103)).alloc (Zl #[I J 0,I J 0,.nilFunc,I J 0] 103):=⟨_,rfl⟩
 have hB:PB X w W1:=by rw[am];exact ND X w
 have b1:bL w W1:=by rw[am];exact RX X w
 have c2:W1.heap.size=w.heap.size+1+1:=by rw[am];simp
 have a2:=hX.one;have bz:∀(a:Zr)(m:ZB)(W:Zf),(Zv a X.fn m).run N W=Zt N W a X.fn m:=fun a m W=>Yx a2;have ax:h.b1≠R:=fun e=>hQ (e▸hp.b1);have ba:Wl R (k+1) Yn W1:=hk▸hw.below b1;have HB:=LL hB b1 ba;have q1:=Zz b1 hp.w1;obtain⟨c0,_,_,_,z0,_,_,_⟩:=ba;have k0:((k+1:Nat):Int)≠0:=by omega
 have k1:(((k+1:Nat):Int)==0)=Zo:=by simpa using k0
 obtain⟨kk,az⟩:∃kk:Int,kk=((k+1:Nat):Int):=⟨_,rfl⟩
 rw[<-az] at c0 k1;have bi:=Yy az;have bh:0<=kk:=by omega
 have bp:kk<=1000:=by omega
 have g:=FY hp he hX hQ nw hy hk hF hM b6;clear hp he hX hw hQ nw b6 a2 hB hy hk hF hM k0 az;go_enter func95,ntmps95;go_upto_region 1 with fail;rw[<-am];clear am;go_upto_region 4 with fail;have ay:Wl R k Yn (W1.setCell ⟨R,0,L⟩ (I J (kk-1))):=by have:=HB.out.2.2.qx;rw[bi.out];rw[show (((k+1:Nat):Int)-1)=(k:Int) by omega];exact this
 have a3:Yi R L W1 (W1.setCell ⟨R,0,L⟩ (I J (kk-1))):=Yj;obtain⟨p,b3⟩:∃V,V=W1.setCell ⟨R,0,L⟩ (I J (kk-1)):=⟨_,rfl⟩
 rw[<-b3] at ay a3;rw[<-b3];clear b3 c0 z0 q1 k1 bh bp;have c1:p.heap.size=w.heap.size+1+1\/w.heap.size+1+1<=p.heap.size:=by have:=a3.size;omega
 obtain⟨bx,ox,b7,a5,af⟩:=g.out.1.xi.part 0 (by rw[g.out.2.2.2.2.2.1];simp);have bk:h.x.l[0]'(by rw[g.out.2.2.2.2.2.1];simp)=y:=by simp[g.out.2.2.2.2.2.1]
 rw[bk] at a5 af;simp only[ZS,ZT] at a5;have bm:h.x.l.length=1:=by rw[g.out.2.2.2.2.2.1];rfl
 have a8:Q bx:=g.out.1.xb.own (by rw[g.out.2.2.2.2.2.1];simp) _ b7;have ac:∀W,Yi R L p W->XR Q w W:=fun W hk b hb hq=>by have bh:=HB.out.2.1.size;have ax:b≠R:=fun e=>g.out.2.2.2.1 (e▸hq);have hs:=a3.size;rw[hk.block b (by omega) ax (by simp),a3.block b (by omega) ax (by simp)];exact HB.out.2.1.block b hb
 have HK:Zm (∀W,SK R (w.heap.size+1) p W->cL W h.b1 0 (O (Za ⟨R,0,L⟩))/\cL W h.b2 6 (Zd (Za ⟨bx,ox,L⟩) 1 h.x.c)/\cL W bx ox (I J y.k)/\cL W bx (ox+1) (I J y.n)/\cL W bx (ox+2) (I J y.t.k)/\cL W bx (ox+3) (y.t.s)/\cL W bx (ox+4) (I J y.f.k)/\cL W bx (ox+5) (y.f.s)/\cL W bx (ox+6) (y.s)/\cL W w.heap.size 0 (I J X.k)/\cL W w.heap.size 1 (I J X.n)/\cL W w.heap.size 2 X.fn/\cL W w.heap.size 3 (I J X.tag)/\cL W h.b3 0 (Zd h.ea h.env.length h.ec)):=fun W hk=>by have hp:=g.out.1;have a4:∀b i u,cL w b i u->Q b->cL W b i u:=fun b i u e hb=>hk b i u ((ac p Yi.refl).cell e hb) (fun e=>g.out.2.2.2.1 (e▸hb)) (by have:b<w.heap.size:=Zi _ _ e;omega);have b8:=hp.x7.c6;rw[b7,bm] at b8;have au:=(HB.out.1.kept a3 ai).x4;exact⟨a4 _ _ _ hp.w1 hp.b1,a4 _ _ _ b8 hp.b2,a4 _ _ _ a5.c0 a8,a4 _ _ _ a5.c1 a8,a4 _ _ _ a5.c2 a8,a4 _ _ _ a5.c3 a8,a4 _ _ _ a5.c4 a8,a4 _ _ _ a5.c5 a8,a4 _ _ _ a5.c6 a8,hk _ _ _ au.c0 (by omega) (by omega),hk _ _ _ au.c1 (by omega) (by omega),hk _ _ _ au.c2 (by omega) (by omega),hk _ _ _ au.c3 (by omega) (by omega),a4 _ _ _ hp.e3 hp.b3⟩
 have i0:(0:Int)<((1:Nat):Int):=by omega
 have bo:Yi R L p p.drew:=Yi.la ((Ze _ _).drew);refine Zu (S:=fun W=>cL W h.b1 0 (O (Za ⟨R,0,L⟩))/\cL W h.b2 6 (Zd (Za ⟨bx,ox,L⟩) 1 h.x.c)/\cL W bx ox (I J y.k)/\cL W bx (ox+1) (I J y.n)/\cL W bx (ox+2) (I J y.t.k)/\cL W bx (ox+3) (y.t.s)/\cL W bx (ox+4) (I J y.f.k)/\cL W bx (ox+5) (y.f.s)/\cL W bx (ox+6) (y.s)/\cL W w.heap.size 0 (I J X.k)/\cL W w.heap.size 1 (I J X.n)/\cL W w.heap.size 2 X.fn/\cL W w.heap.size 3 (I J X.tag)/\cL W h.b3 0 (Zd h.ea h.env.length h.ec)) (by kernel_rfl) (HK.out _ ((SK.refl _ _ _).kept bo)) (fun d=>?_);refine qk 0 (v:=?_) rfl (by kernel_rfl) (fun _ _ _ h=>h) (by rfl) d ?_ ?_;rotate_left;(focus (intro w' h;go_split_ands;go_simp;try with_reducible rfl));simp only[Zb,C,D,H];refine qk 1 (v:=?_) rfl (by kernel_rfl) (fun _ _ _ h=>h) (by rfl) d ?_ ?_;rotate_left;(focus (intro w' h;go_split_ands;go_simp;try with_reducible rfl));simp only[Zb,C,D,H];refine qk 2 (v:=?_) rfl (by kernel_rfl) (fun _ _ _ h=>h) (by rfl) d ?_ ?_;rotate_left;(focus (intro w' h;go_split_ands;go_simp;try with_reducible rfl));simp only[Zb,C,D,H];refine qk 3 (v:=?_) rfl (by kernel_rfl) (fun _ _ _ h=>h) (by rfl) d ?_ ?_;rotate_left;(focus (intro w' h;go_split_ands;go_simp;try with_reducible rfl));simp only[Zb,C,D,H];refine qk 4 (v:=?_) rfl (by kernel_rfl) (fun _ _ _ h=>h) (by rfl) d ?_ ?_;rotate_left;(focus (intro w' h;go_split_ands;go_simp;try with_reducible rfl));simp only[Zb,C,D,H];refine qk 5 (v:=?_) rfl (by kernel_rfl) (fun _ _ _ h=>h) (by rfl) d ?_ ?_;rotate_left;(focus (intro w' h;go_split_ands;go_simp;try with_reducible rfl));simp only[Zb,C,D,H];refine qk 7 (v:=?_) rfl (by kernel_rfl) (fun _ _ _ h=>h) (by rfl) d ?_ ?_;rotate_left;(focus (intro w' h;go_split_ands;go_simp;try with_reducible rfl));simp only[Zb,C,D,H];refine YT (i:=6) rfl (by kernel_rfl) (fun K hK=>?_);go_simp;have av:bL p (p.alloc (Zl X.v 103)).drew:=((Ze _ _).alloc (Zg _) _).drew;have ap:(p.alloc (Zl X.v 103)).drew.ownsRow p.heap.size 103 4 (Zd (Za ⟨p.heap.size,0,L⟩) 1 1) 1 (Us [X]):=by have:=World.ownsRow_lit (base:=p.heap.size) (e:=103) (size:=4) p X.v 1 (by simp) (by unfold maxLen;omega) (by simp);exact YX (by simpa[Us] using this) ((Ze _ _).drew)
 have b5:(p.alloc (Zl X.v 103)).drew.heap.size=p.heap.size+1:=by simp
 obtain⟨V1,b4⟩:∃V,V=(p.alloc (Zl X.v 103)).drew:=⟨_,rfl⟩
 rw[<-b4] at av ap b5;rw[<-b4];clear b4;have ad:Yi R L p V1:=Yi.la av;have bt:=ay.below av;refine hK.out _ _ (HK.out _ ((SK.refl _ _ _).kept ad)) (fun d=>?_);clear hK K;(try simp only[Zb,C,D,H])
 have ar:y.Bl Q:=g.out.1.xb.mem (by rw[g.out.2.2.2.2.2.1];simp);have bu:w.heap.size+1+1<=p.heap.size:=by have:=a3.size;omega
 have aw:∀W,Yi R L p W->∀e,e∈X::h.env->e.In m M R (fun x=>Q x/\x≠w.heap.size+1) W:=fun W hk e he=>by
  have h1:e.In m M R Q w:=by
   rcases ZP.1 he with rfl|he
   .exact g.out.2.2.1
   .exact g.out.2.1 e he
  exact(h1.mono (Q':=(fun x=>Q x/\x≠w.heap.size+1)) fun x h1 h2=>⟨h2,by omega⟩).same fun b h1 h2=>ac W hk b h1 h2.1
 obtain⟨j0,bc,bn,br,bq⟩:=info_parts Tryz.info103s;have bj:(fun x=>Q x/\x≠w.heap.size+1) p.heap.size:=⟨g.out.2.2.2.2.1 _ (by omega),by omega⟩
 by_cases h0:h.env.length=0
 .have he0:=List.eq_nil_of_length_eq_zero h0;have ae:Zm (Qt m M R (fun x=>Q x/\x≠w.heap.size+1) V1 (Za ⟨p.heap.size,0,L⟩) (X::h.env)):=Qg (n:=1) (by rw[he0];exact ap) (by rw[he0];rfl) bj (aw V1 ad);refine YT (i:=8) rfl (by kernel_rfl) (fun K hK=>?_);refine Lh (by rfl) _ _ _ (by rfl) 103 j0 ZR bc p.heap.size 1 1 (by rfl) h.ea h.ec (by show Value.slice h.ea h.env.length h.ec=_;rw[h0]) (by omega) ?_;refine hK.out _ _ (HK.out _ ((SK.refl _ _ _).kept ad)) (fun d=>?_);clear hK K;(try simp only[Zb,C,D,H])
  have ab:=ad;have b2:=bt;have HI:Zm (Zn N 59 #[O (Za ⟨R,0,L⟩),Zk y.v,Zd (Za ⟨p.heap.size,0,L⟩) 1 1] V1 (Xn m M R F (c+1) (fun x=>Q x/\x≠w.heap.size+1) V1 B (fun r V c'=>KS F y.tm (X.val::h.env.map Th.val) (c+1) r V c'/\(m=Zc->r.k=0->UJ V B)))):=by have h1:=ih.out (fun x=>Q x/\x≠w.heap.size+1) (Za ⟨p.heap.size,0,L⟩) 1 V1 (af.same (ac V1 ab) ar) ((ar.and af.bl).mono fun b hb=>⟨hb.1,by omega⟩) ae.out ((show F-(c+1)=k by have:=g.out.2.2.2.2.2.2.1;omega)▸b2) (fun hx=>g.out.2.2.2.1 hx.1) (fun b hb=>⟨g.out.2.2.2.2.1 b (by omega),by omega⟩);rw[h0] at h1;exact h1
  refine YT (i:=9) rfl (by kernel_rfl) (fun K hK=>?_);go_simp;refine HI.out.mono ?_;rintro e w5 ⟨an,r,V,c',⟨hS,aq⟩,bs,ak,al,aa⟩;have HD:Zm (Sn m F h.cv X.val B c r V c'):=by
   refine WD (by rw[Nm g.out.2.2.2.2.2.2.2.2.2];rfl) (Vm (by rw[Nm g.out.2.2.2.2.2.2.2.2.2];rfl) (by have:=g.out.2.2.2.2.2.2.1;omega) ?_) aq;rw[Nm g.out.2.2.2.2.2.2.2.2.2];have e:h.x.tm.at 0=y.tm:=by rw[Tm.at,TT.mq,g.out.2.2.2.2.2.1];rfl
   show KS F (h.x.tm.at 0) (X.val::h.env.map Th.val) (c+1) r V c'
   rw[e];exact hS
  have a7:=ab.trans an;have HF:=LL a7 al ((HB.out.1.kept (a3.trans a7) ai).r);have a1:SK R (w.heap.size+1) p w5:=(SK.refl _ _ _).kept a7;obtain⟨r0,r1,r2,r3,y0,y1,y2,y3⟩:=HF.out.2.2;clear hS aq al an HI;rcases aa with⟨hr,rfl⟩|⟨rfl,z,rfl,a9,b0⟩
  .simp only[Uf];refine hK.out _ _ (HK.out _ a1) (fun d=>?_);clear hK K;(try simp only[Zb,C,D,H])
   refine YT (i:=10) rfl (by kernel_rfl) (fun K hK=>?_);go_simp;refine hK.out _ _ (HK.out _ ((((a1.set _ _).set _ _).set _ _).set _ _)) (fun d=>?_);clear hK K;(try simp only[Zb,C,D,H])
   refine Zq (by kernel_rfl) ?_ _;clear d;go_wp2_with fail;obtain⟨⟨e0,e1,e2,e3⟩,hk⟩:=HF.out.2.2.set (I J 0) (I J 0) .nilFunc (I J 0);refine Zj (v:=Uf) ?_ rfl ⟨(((Yi.la HB.out.2.1).trans a3).trans HF.out.1).new hk (by omega),r,V,c',HD.out,by omega,ak,HF.out.2.1.same hk (by omega),.inl ⟨hr,rfl⟩⟩;simp[results,ZE,go_sem,Uf,e0,e1,e2,e3]
  .have a2:=a9.one;have be:∀(a:Zr)(m:ZB)(W:Zf),(Zv a z.fn m).run N W=Zt N W a z.fn m:=fun a m W=>Yx a2;have a6:=Uv (Q:=Q) (h:=z) HF.out.2.2 (by omega) ai (((Yi.la HB.out.2.1).trans a3).trans HF.out.1) HF.out.2.1 a9 (fun x hx=>hx);have HE:Zm _:=a6;clear a6 a9 a2;simp only[Th.ag];refine hK.out _ _ (HK.out _ a1) (fun d=>?_);clear hK K;(try simp only[Zb,C,D,H])
   refine YT (i:=10) rfl (by kernel_rfl) (fun K hK=>?_);go_simp;refine hK.out _ _ (HK.out _ ((((a1.set _ _).set _ _).set _ _).set _ _)) (fun d=>?_);clear hK K;(try simp only[Zb,C,D,H])
   refine Zq (by kernel_rfl) ?_ _;clear d;go_wp2_with fail;obtain⟨⟨e0,e1,e2,e3⟩,hk,hW,hi⟩:=HE.out;refine Zj (v:=z.ag) ?_ rfl ⟨hk,Yn,V,c',HD.out,by omega,ak,hW,.inr ⟨rfl,z,rfl,hi,b0⟩⟩;simp[results,ZE,go_sem,Th.ag,e0,e1,e2,e3]
 .have hEV:Qt m M R Q V1 h.ea h.env:=⟨fun j l=>by obtain⟨b,o,e,hb,h4⟩:=g.out.1.env j l;exact⟨b,o,e,hb,h4.same (ac V1 ad) hb⟩,fun e he=>(g.out.2.1 e he).same (ac V1 ad)⟩
  obtain⟨bb,oo,b9,_,_⟩:=hEV.at4 0 (by omega);have ah:=fun j u hj=>(b9▸hEV).news j u hj;have c4:h.env.length<=10000:=by have:=g.out.1.sz;have:=g.out.2.2.2.2.2.2.2.2.1;omega
  have ao:∀u,u∈Us h.env->u.oneCell'=Zc:=fun u hu=>Qk _ u (fun e he=>(g.out.2.1 e he).one) hu;refine YT (i:=8) rfl (by kernel_rfl) (fun K hK=>?_);refine step_append_lies _ (by rfl) _ _ _ (by rfl) p.heap.size 103 j0 _ 4 32 ZR bc bn br bq rfl (by omega) (Zd (Za ⟨p.heap.size,0,L⟩) 1 1) 1 (Us [X]) (by rfl) ap ⟨bb,oo,L⟩ h.env.length h.ec (Us h.env) (by show Value.slice h.ea h.env.length h.ec=_;rw[b9]) (K4 _) ah ao (by omega) (by unfold maxLen;omega) (by omega) (by omega) (p.heap.size+1) b5 ?_;intro gg cap1 w3 aj a0 bf bd;have c3:p.heap.size<=gg:=by
   rcases bf with h|h
   .simp[Value.ownBlock] at h;omega
   .omega
  have bv:=a0.size;have bg:bL p w3:=av.trans ⟨a0.os,a0.tape,a0.output,a0.size,fun q hq=>a0.block q (by omega) (by simp[Value.ownBlock];omega)⟩;have ab:Yi R L p w3:=Yi.la bg;have b2:=ay.below bg;have ae:Zm (Qt m M R (fun x=>Q x/\x≠w.heap.size+1) w3 (Za ⟨gg,0,L⟩) (X::h.env)):=Qg (n:=1+h.env.length) (by simpa[Us] using aj) (by simp;omega) ⟨g.out.2.2.2.2.1 _ (by omega),by omega⟩ (aw w3 ab);refine hK.out _ _ (HK.out _ ((SK.refl _ _ _).kept ab)) (fun d=>?_);clear hK K aj a0 bf bd ah ao hEV;(try simp only[Zb,C,D,H])
  have HI:Zm (Zn N 59 #[O (Za ⟨R,0,L⟩),Zk y.v,Zd (Za ⟨gg,0,L⟩) (1+h.env.length) cap1] w3 (Xn m M R F (c+1) (fun x=>Q x/\x≠w.heap.size+1) w3 B (fun r V c'=>KS F y.tm (X.val::h.env.map Th.val) (c+1) r V c'/\(m=Zc->r.k=0->UJ V B)))):=by have h1:=ih.out (fun x=>Q x/\x≠w.heap.size+1) (Za ⟨gg,0,L⟩) cap1 w3 (af.same (ac w3 ab) ar) ((ar.and af.bl).mono fun b hb=>⟨hb.1,by omega⟩) ae.out ((show F-(c+1)=k by have:=g.out.2.2.2.2.2.2.1;omega)▸b2) (fun hx=>g.out.2.2.2.1 hx.1) (fun b hb=>⟨g.out.2.2.2.2.1 b (by omega),by omega⟩);rw[Nat.add_comm] at h1;exact h1
  refine YT (i:=9) rfl (by kernel_rfl) (fun K hK=>?_);go_simp;refine HI.out.mono ?_;rintro e w5 ⟨an,r,V,c',⟨hS,aq⟩,bs,ak,al,aa⟩;have HD:Zm (Sn m F h.cv X.val B c r V c'):=by
   refine WD (by rw[Nm g.out.2.2.2.2.2.2.2.2.2];rfl) (Vm (by rw[Nm g.out.2.2.2.2.2.2.2.2.2];rfl) (by have:=g.out.2.2.2.2.2.2.1;omega) ?_) aq;rw[Nm g.out.2.2.2.2.2.2.2.2.2];have e:h.x.tm.at 0=y.tm:=by rw[Tm.at,TT.mq,g.out.2.2.2.2.2.1];rfl
   show KS F (h.x.tm.at 0) (X.val::h.env.map Th.val) (c+1) r V c'
   rw[e];exact hS
  have a7:=ab.trans an;have HF:=LL a7 al ((HB.out.1.kept (a3.trans a7) ai).r);have a1:SK R (w.heap.size+1) p w5:=(SK.refl _ _ _).kept a7;obtain⟨r0,r1,r2,r3,y0,y1,y2,y3⟩:=HF.out.2.2;clear hS aq al an HI;rcases aa with⟨hr,rfl⟩|⟨rfl,z,rfl,a9,b0⟩
  .simp only[Uf];refine hK.out _ _ (HK.out _ a1) (fun d=>?_);clear hK K;(try simp only[Zb,C,D,H])
   refine YT (i:=10) rfl (by kernel_rfl) (fun K hK=>?_);go_simp;refine hK.out _ _ (HK.out _ ((((a1.set _ _).set _ _).set _ _).set _ _)) (fun d=>?_);clear hK K;(try simp only[Zb,C,D,H])
   refine Zq (by kernel_rfl) ?_ _;clear d;go_wp2_with fail;obtain⟨⟨e0,e1,e2,e3⟩,hk⟩:=HF.out.2.2.set (I J 0) (I J 0) .nilFunc (I J 0);refine Zj (v:=Uf) ?_ rfl ⟨(((Yi.la HB.out.2.1).trans a3).trans HF.out.1).new hk (by omega),r,V,c',HD.out,by omega,ak,HF.out.2.1.same hk (by omega),.inl ⟨hr,rfl⟩⟩;simp[results,ZE,go_sem,Uf,e0,e1,e2,e3]
  .have a2:=a9.one;have be:∀(a:Zr)(m:ZB)(W:Zf),(Zv a z.fn m).run N W=Zt N W a z.fn m:=fun a m W=>Yx a2;have a6:=Uv (Q:=Q) (h:=z) HF.out.2.2 (by omega) ai (((Yi.la HB.out.2.1).trans a3).trans HF.out.1) HF.out.2.1 a9 (fun x hx=>hx);have HE:Zm _:=a6;clear a6 a9 a2;simp only[Th.ag];refine hK.out _ _ (HK.out _ a1) (fun d=>?_);clear hK K;(try simp only[Zb,C,D,H])
   refine YT (i:=10) rfl (by kernel_rfl) (fun K hK=>?_);go_simp;refine hK.out _ _ (HK.out _ ((((a1.set _ _).set _ _).set _ _).set _ _)) (fun d=>?_);clear hK K;(try simp only[Zb,C,D,H])
   refine Zq (by kernel_rfl) ?_ _;clear d;go_wp2_with fail;obtain⟨⟨e0,e1,e2,e3⟩,hk,hW,hi⟩:=HE.out;refine Zj (v:=z.ag) ?_ rfl ⟨hk,Yn,V,c',HD.out,by omega,ak,hW,.inr ⟨rfl,z,rfl,hi,b0⟩⟩;simp[results,ZE,go_sem,Th.ag,e0,e1,e2,e3]
def X3(m:Bool)(F:Nat)(x:Tm)(E:List YJ)(i:Ty)(c:Nat)(r:XG)(V:YJ)(c':Nat):Prop:=KS F x E c r V c'/\(m=Zc->r.k=0->UJ V i)
structure EB(R:Nat)(x:TT)(ea:Option Zr)(n ec:Nat)(w W:Zf):Prop where
 w0:W.cell? ⟨w.heap.size,0,L⟩=Za (O (Za ⟨R,0,L⟩))
 x7:Uz W (w.heap.size+1) 0 x
 e0:W.cell? ⟨w.heap.size+1+1,0,L⟩=Za (Zd ea n ec)
 r:Rb W (w.heap.size+1+1+1)
def QI(R:Nat)(x:TT)(ea:Option Zr)(n ec:Nat)(w:Zf):Zf:=(((w.alloc (Zl #[O (Za ⟨R,0,L⟩)] 98)).alloc (Zl #[I J x.k,I J x.n,I J x.t.k,Zd x.t.a x.t.l.length x.t.c,I J x.f.k,Zd x.f.a x.f.l.length x.f.c,Zd x.a x.l.length x.c] 27)).alloc (Zl #[Zd ea n ec] 157)).alloc (Zl #[I J 0,I J 0,.nilFunc,I J 0] 103)
theorem KE(R:Nat)(x:TT)(b:Option Zr)(n a:Nat)(w:Zf):EB R x b n a w (QI R x b n a w)/\ZK w.heap.size w (QI R x b n a w)/\(QI R x b n a w).heap.size=w.heap.size+1+1+1+1:=by
 have c:bL w (QI R x b n a w):=by unfold QI;exact((((Ze _ _).alloc (Zg _) _).alloc (by simp) _).alloc (by simp;omega) _).alloc (by simp;omega) _
 refine⟨⟨?_,⟨?_,?_,?_,?_,?_,?_,?_⟩,?_,⟨?_,?_,?_,?_,?_,?_,?_,?_⟩⟩,c,?_⟩
 all_goals (unfold QI;simp[go_sem])
theorem EB.kept{x:TT}{n ec:Nat}(h:EB R x ea n ec w W)(hk:Yi R L W V)(lr:R<w.heap.size):EB R x ea n ec w V:=⟨hk.cell h.w0 (by omega),h.x7.lc hk (by omega),hk.cell h.e0 (by omega),h.r.kept hk (by omega)⟩
def Uq(k n:Int)(x:TT)(i:Ty):Th:=⟨k,n,.nilFunc,0,0,0,0,0,0,0,0,x,L,0,[],x.t,Sz i,0,Zo,[]⟩
theorem TV(m:Bool)(M R F c:Nat)(Q:Nat->Prop)(x:TT)(E:List Th)(i:Ty)(ea:Option Zr)(y:Nat)(w:Zf)(g:x.k=2\/x.k=3)(hn:-1000000<=x.n/\x.n<=1000000)(k:m=Zc->∃G,M7 x.tm G i)(hc:c<=F)(hw:Wl R (F-c) Yn w):
  Zn N 59 #[O (Za ⟨R,0,L⟩),Zk #[I J x.k,I J x.n,I J x.t.k,Zd x.t.a x.t.l.length x.t.c,I J x.f.k,Zd x.f.a x.f.l.length x.f.c,Zd x.a x.l.length x.c],Zd ea E.length y] w (Xn m M R F c Q w i (X3 m F x.tm (E.map Th.val) i c)):=by
 have a0:=hw.lt;obtain⟨W1,b⟩:∃W,W=QI R x ea E.length y w:=⟨_,rfl⟩
 obtain⟨hB,d,o⟩:=KE R x ea E.length y w;rw[<-b] at hB d o;have p:=hw.below d;have z:=LL hB d p;have HE:Zm (X3 m F x.tm (E.map Th.val) i c Yn (Uq (x.k-1) x.n x i).val c/\Ef (Uq (x.k-1) x.n x i)/\JG m i (Uq (x.k-1) x.n x i)):=by
  have hv:(Uq (x.k-1) x.n x i).val=if x.k=2 then XP x.n else Xp x.n:=by
   unfold Th.val;rw[if_pos (show (Uq (x.k-1) x.n x i).tag=0 from rfl),Th.mh];rw[if_neg (show ¬(Uq (x.k-1) x.n x i).wy=1 by simp[Uq]),if_neg (show ¬(Uq (x.k-1) x.n x i).wy=2 by simp[Uq])];show (if x.k-1=1 then XP x.n else Xp x.n)=_
   rcases g with h|h<;>rw[h]<;>rfl
  refine⟨⟨?_,fun hm _=>?_⟩,⟨rfl,?_,hn⟩,fun hm=>?_⟩
  .rw[hv];rcases g with h|h
   .rw[if_pos h];have:=Fl (F:=F) (x:=x.tm) (E:=E.map Th.val) (c:=c) (by rw[TT.mc];exact h);rwa [TT.nu] at this
   .rw[if_neg (by omega)];have:=DE (F:=F) (x:=x.tm) (E:=E.map Th.val) (c:=c) (by rw[TT.mc];exact h);rwa [TT.nu] at this
  .obtain⟨G,hG⟩:=k hm;obtain⟨ps,_,_,j⟩:=Jz hG;rw[TT.mc] at j;rw[hv];rcases g with h|h
   .rw[if_pos h];rcases j with⟨a,_⟩|⟨_,_,rfl⟩|⟨a,_⟩|⟨a,_⟩|⟨a,_⟩|⟨a,_⟩|⟨a,_⟩|⟨a,_⟩|⟨a,_⟩|⟨a,_⟩<;>first|omega|exact N1 _
   .rw[if_neg (by omega)];rcases j with⟨a,_⟩|⟨a,_⟩|⟨_,_,rfl⟩|⟨a,_⟩|⟨a,_⟩|⟨a,_⟩|⟨a,_⟩|⟨a,_⟩|⟨a,_⟩|⟨a,_⟩<;>first|omega|exact L2 _
  .show x.k-1=1\/x.k-1=2
   omega
  .obtain⟨G,hG⟩:=k hm;obtain⟨ps,_,_,j⟩:=Jz hG;rw[TT.mc] at j;have e:(Uq (x.k-1) x.n x i).t.ty=i:=RI i;refine⟨Th.mn.2 ⟨.inl rfl,.inl ⟨rfl,?_⟩⟩,e⟩;rw[e];show (x.k-1=1/\i=Jg)\/(x.k-1=2/\i=Xs)
   rcases g with h|h
   .rcases j with⟨a,_⟩|⟨_,_,rfl⟩|⟨a,_⟩|⟨a,_⟩|⟨a,_⟩|⟨a,_⟩|⟨a,_⟩|⟨a,_⟩|⟨a,_⟩|⟨a,_⟩<;>first|omega|exact .inl ⟨by omega,rfl⟩
   .rcases j with⟨a,_⟩|⟨a,_⟩|⟨_,_,rfl⟩|⟨a,_⟩|⟨a,_⟩|⟨a,_⟩|⟨a,_⟩|⟨a,_⟩|⟨a,_⟩|⟨a,_⟩<;>first|omega|exact .inr ⟨by omega,rfl⟩
 obtain⟨c0,c1,_,_,_,_,_,_⟩:=p;replace c1:cL W1 R 1 (I J 0):=c1;obtain⟨w0,⟨x0,x1,x2,x3,x4,x5,x6⟩,u,⟨r0,r1,r2,r3,y0,y1,y2,y3⟩⟩:=hB;simp only[Zh] at x1 x2 x3 x4 x5 x6;have k1:(x.k==1)=Zo:=by rcases g with h|h<;>rw[h]<;>decide
 have b1:0<=x.k:=by omega
 have b2:x.k<=10:=by omega
 obtain⟨r,q⟩:∃r,(x.k==2)=r:=⟨_,rfl⟩
 have k3:r=Zo->(x.k==3)=Zc:=fun h=>by
  rw[h] at q;have:x.k≠2:=by simpa using q
  have:x.k=3:=by omega
  rw[this];decide
 clear g hn k hw d o;cases r
 all_goals
  (try have k4:=k3 rfl)
  clear k3
  go_enter ZG,ZD
  go_upto_region 1 with fail
  unfold QI at b
  rw[<-b]
  clear b
  go_wp2_with fail
  have l:=Uv (m:=m) (M:=M) (Q:=Q) (Q1:=fun _=>False) (h:=Uq (x.k-1) x.n x i) z.out.1.r (by omega) a0 (Yi.la z.out.2.1) z.out.2.2 (Th.lk.2 (.inl ⟨rfl,HE.out.2.1⟩)) (fun x hx=>hx.elim)
  obtain⟨⟨u,e1,e2,e3⟩,g,hW,hi⟩:=l
  refine Zj (v:=(Uq (x.k-1) x.n x i).ag) ?_ rfl ⟨g,Yn,_,c,HE.out.1,Zg _,hc,hW,.inr ⟨rfl,_,rfl,hi,rfl,HE.out.2.2⟩⟩
  simp only[Uq] at u e1 e2 e3
  simp[results,Zs,go_sem,Th.ag,Uq,u,e1,e2,e3]
def EW(m:Bool)(M R F c:Nat)(x:TT)(E:List Th)(i:Ty)(ea:Option Zr)(ec:Nat):Prop:=∀(Q:Nat->Prop)(W:Zf),x.In W->x.Bl Q->Qt m M R Q W ea E->Wl R (F-c) Yn W->¬Q R->(∀b,W.heap.size<=b->Q b)->Zn N 59 #[O (Za ⟨R,0,L⟩),Zk #[I J x.k,I J x.n,I J x.t.k,Zd x.t.a x.t.l.length x.t.c,I J x.f.k,Zd x.f.a x.f.l.length x.f.c,Zd x.a x.l.length x.c],Zd ea E.length ec] W (Xn m M R F c Q W i (X3 m F x.tm (E.map Th.val) i c))
def F3(m:Bool)(M R F c:Nat)(h:Th)(A B:Ty)(j:Nat)(caps:Array Zy):Prop:=∀(Q:Nat->Prop)(X:Th)(W:Zf),h.In m M R Q W->X.In m M R Q W->JG m A X->Wl R (F-c) Yn W->¬Q R->(∀b,W.heap.size<=b->Q b)->Zn N j (#[Zk #[I J X.k,I J X.n,X.fn,I J X.tag]]++caps) W (Xn m M R F c Q W B (fun r V c'=>Sn m F h.cv X.val B c r V c'))
def FD(m:Bool)(M R F c:Nat):Prop:=∀(h:Th)(A B:Ty)(j:Nat)(caps:Array Zy),(h.wy=1\/h.wy=2)->h.fn=.func (.func j) #[] caps->(m=Zc->h.ok/\h.t.ty=YM A B)->F3 m M R F c h A B j caps
def Jf(m:Bool)(M R F c:Nat)(Q:Nat->Prop)(w W:Zf)(y:TT)(E:List Th)(p:Ty)(b:Nat)(wx:Zf):Prop:=w.heap.size+1+1+1<b/\Yi R L W wx/\∃(r:XG)(V:YJ)(c':Nat),X3 m F y.tm (E.map Th.val) p c r V c'/\c<=c'/\c'<=F/\Wl R (F-c') r wx/\ (r.k≠0\/(r=Yn/\∃z:Th,QM wx b 0 z/\z.In m M R (fun x=>Q x/\x≠w.heap.size+1+1+1) wx/\z.val=V/\JG m p z))
structure FV(m:Bool)(M:Nat)(x:Tm)(E:List Th)(i:Ty):Prop where
 sh:L9 x/\(m=Zo->Bo x)
 sz:x.mj+E.length<=M
 ty:m=Zc->M7 x (E.map Th.my) i/\∀e,e∈E->e.ok
def EX(m:Bool)(M R F c:Nat):Prop:=∀(x:TT)(E:List Th)(i:Ty)(ea:Option Zr)(ec:Nat),FV m M x.tm E i->EW m M R F c x E i ea ec
theorem Bg(M R F c:Nat)(Q:Nat->Prop)(h v X:Th)(w:Zf)(q:BZ R Q w h v)(hX:X.In Zc M R Q w)(ah:UJ X.val (h.t.ty.l.getD 0 Yk))(hw:Wl R (F-c) Yn w)(hc:c<=F)(hQ:¬Q R)(nw:∀b,w.heap.size<=b->Q b)(b8:h.wy=2)(hg:(Xk (Yq (h.t.ty.l.getD 0 Yk) (h.f.ty.l.getD 0 Yk) ⟨4,h.no,!h.back⟩) X.val).1.k≠0)
  :
  Zn N 131 #[Zk #[I J X.k,I J X.n,X.fn,I J X.tag],O (Za ⟨h.b1,0,L⟩),O (Za ⟨h.b2,0,L⟩),O (Za ⟨h.b3,0,L⟩),O (Za ⟨h.b4,0,L⟩),O (Za ⟨h.b5,0,L⟩),O (Za ⟨h.b6,0,L⟩)] w (Xn Zc M R F c Q w (h.t.ty.l.getD 1 Yk) (fun r V c'=>Sn Zc F h.cv X.val (h.t.ty.l.getD 1 Yk) c r V c')):=by
 obtain⟨t0,t1,bt,ot,bh,bb,b5,a0,a1,a2,a3,az,bg,ak,a7,aj,b7⟩:=MN q.ti q.tg q.tk;obtain⟨z,f1,bf,of,bi,b2,an,d0,d1,d2,d3,b0,be,ae,a6,al,b4⟩:=MN q.fi q.fg q.fk;obtain⟨ar,av,bj⟩:=b7 Q q.tb;obtain⟨ao,ay,bk⟩:=b4 Q q.fb;have b6:=hw.lt;have e0:h.t.ty.l.getD 0 Yk=t0.ty:=by rw[ak];rfl
 have e1:h.t.ty.l.getD 1 Yk=t1.ty:=by rw[ak];rfl
 have e2:h.f.ty.l.getD 0 Yk=z.ty:=by rw[ae];rfl
 have e3:h.f.ty.l.getD 1 Yk=f1.ty:=by rw[ae];rfl
 rw[e0] at ah;have ab:=q.fits;rw[ae,ak,YM,YM,Sl _ _ _ _ _ rfl] at ab;obtain⟨a9,ad⟩:YD Yl z.ty t0.ty=Zc/\YD Yl f1.ty t1.ty=Zc:=by simpa using ab
 have a4:YD Yl t0.ty z.ty=Zc:=by rw[Lr 45 _ _ a7 a6];exact a9
 replace a7:=YG 45 46 _ (by omega) a7;replace aj:=YG 45 46 _ (by omega) aj;replace a6:=YG 45 46 _ (by omega) a6;replace al:=YG 45 46 _ (by omega) al;have bc:h.cv=Y9 v.cv (Yq t0.ty z.ty ⟨4,h.no,!h.back⟩) (Yq f1.ty t1.ty ⟨4,h.no,h.back⟩):=by rw[Th.mh,b8,if_neg (by decide),if_pos rfl,q.inn,e0,e1,e2,e3];rfl
 have hG:UU (Yq t0.ty z.ty ⟨4,h.no,!h.back⟩) t0.ty z.ty:=Kq a7 a6 a4 rfl;have hA:UU (Yq f1.ty t1.ty ⟨4,h.no,h.back⟩) f1.ty t1.ty:=Kq al aj ad rfl;have hU:UJ v.cv (YM z.ty f1.ty):=ae▸q.ty;rw[e1,bc];obtain⟨W1,a8⟩:∃W,W=(w.alloc (Zl X.v 103)).alloc (Zl #[I J 0,I J 0,.nilFunc,I J 0] 103):=⟨_,rfl⟩
 have hB:PB X w W1:=by rw[a8];exact ND X w
 have ac:bL w W1:=by rw[a8];exact RX X w
 have bd:W1.heap.size=w.heap.size+1+1:=by rw[a8];simp
 have HB:=LL hB ac (hw.below ac);have am:=hX.one;have bm:∀(a:Zr)(m:ZB)(W:Zf),(Zv a X.fn m).run N W=Zt N W a X.fn m:=fun a m W=>Yx am;have af:∀b,Q b->b≠R:=fun b hb e=>hQ (e▸hb);have g:∀W,Yi R L W1 W->∀b i u,cL w b i u->Q b->cL W b i u:=fun W k b i u e hb=>k.cell ((ac.cell (p:=⟨b,i,L⟩) (Zi _ _ e)).trans e) (af b hb);have ap:=q.t1;rw[bb,b5] at ap;have b1:=q.f1;rw[b2,an] at b1;have HK:Zm (∀W,Yi R L W1 W->cL W h.b1 0 (O (Za ⟨R,0,L⟩))/\cL W w.heap.size 0 (I J X.k)/\cL W w.heap.size 1 (I J X.n)/\cL W w.heap.size 2 X.fn/\cL W w.heap.size 3 (I J X.tag)/\cL W h.b2 1 (Zd (Za ⟨bt,ot,L⟩) 2 h.t.c)/\cL W bt ot (I J t0.k)/\cL W bt (ot+1) (t0.s)/\cL W h.b3 1 (Zd (Za ⟨bf,of,L⟩) 2 h.f.c)/\cL W bf of (I J z.k)/\cL W bf (of+1) (z.s)/\cL W h.b4 0 (I J h.no)/\cL W h.b5 0 (.bool h.back)):=fun W k=>⟨g W k _ _ _ q.w1 q.b1,k.cell hB.x4.c0 (by omega),k.cell hB.x4.c1 (by omega),k.cell hB.x4.c2 (by omega),k.cell hB.x4.c3 (by omega),g W k _ _ _ ap q.b2,g W k _ _ _ a0 ar,g W k _ _ _ a1 ar,g W k _ _ _ b1 q.b3,g W k _ _ _ d0 ao,g W k _ _ _ d1 ao,g W k _ _ _ q.n4 q.b4,g W k _ _ _ q.k5 q.b5⟩
 have ai:∀W,Yi R L W1 W->XR Q w W:=fun W k b hb hq=>by rw[k.block b (by have:=ac.size;omega) (af b hq) (by simp)];exact ac.block b hb
 have b3:∀W,Yi R L W1 W->∀Z:Th,Z.In Zc M R Q w->Z.In Zc M R (fun x=>Q x/\x≠w.heap.size+1) W:=fun W k Z hZ=>(hZ.mono (Q':=fun x=>Q x/\x≠w.heap.size+1) fun x h1 h2=>⟨h2,by omega⟩).same fun b h1 h2=>ai W k b h1 h2.1;have b9:Zm (∀W,Yi R L W1 W->Wl R (F-c) Yn W->Zn N 97 #[O (Za ⟨R,0,L⟩),Zk X.v,Zk t0.v,Zk z.v,I J h.no,.bool (!h.back)] W (LY M R (F-c) (fun x=>Q x/\x≠w.heap.size+1) W (Xk (Yq t0.ty z.ty ⟨4,h.no,!h.back⟩) X.val) (BY X t0 z))):=fun W k au=>MG M R (F-c) (fun x=>Q x/\x≠w.heap.size+1) X t0 z h.no (!h.back) W (b3 W k X hX) (az.same (ai W k) av) (b0.same (ai W k) ay) a7 a6 a4 ah ((av.and az.bl).mono fun b hb=>⟨hb.1,by omega⟩) ((ay.and b0.bl).mono fun b hb=>⟨hb.1,by omega⟩) au (fun hx=>hQ hx.1) (fun b hb=>⟨nw b (by have:=k.size;omega),by have:=k.size;omega⟩)
 have i0:(0:Int)<((2:Nat):Int):=by omega
 have nR:∀b,w.heap.size<=b->b≠R:=fun b hb=>by omega
 rw[e0,e2] at hg
 .have HC2:Zm (∀W,Yi R L W1 W->Wl R (F-c) Yn W->Zn N 97 #[O (Za ⟨R,0,L⟩),Zk X.v,Zk t0.v,Zk z.v,I J h.no,.bool (!h.back)] W fun e w'=>e=Zp (Zk #[I J 0,I J 0,.nilFunc,I J 0])/\Yi R L W w'/\Wl R (F-c) (Xk (Yq t0.ty z.ty ⟨4,h.no,!h.back⟩) X.val).1 w'):=fun W k au=>(b9.out W k au).mono (by
   rintro e w' ⟨h1,⟨h2,h3,h4⟩|⟨h2,_⟩⟩
   .exact⟨h3,h1,h4⟩
   .exact absurd (by rw[h2];rfl) hg)
  obtain⟨o,ho⟩:∃o,o=(Xk (Yq t0.ty z.ty ⟨4,h.no,!h.back⟩) X.val).1:=⟨_,rfl⟩
  rw[<-ho] at HC2 hg;have bo:(o.k != 0)=Zc:=by simpa using hg
  have HD:Zm (Ax F (Y9 v.cv (Yq t0.ty z.ty ⟨4,h.no,!h.back⟩) (Yq f1.ty t1.ty ⟨4,h.no,h.back⟩)) X.val t1.ty c o (XP 0) c/\o.k≠0):=⟨by rw[ho];exact D7 hU hG hA ah (by rw[<-ho];exact hg),hg⟩
  have aw:Yi R L W1 W1.drew:=Yi.la ((Ze _ _).drew);have ba:Wl R (F-c) Yn W1.drew:=HB.out.2.2.below ((Ze _ _).drew);have bn:=Yy af;clear ho hg g ai b3 b9 q hX ah hw hQ nw az bg b0 be av bj ay bk a7 aj a6 al ab a9 a4 ad bc hG hA hU ak ae b7 b4 e0 e1 e2 e3 bh bi bb b2 b5 an a0 a1 a2 a3 d0 d1 d2 d3 ap b1 am ar ao b8 hB af;go_enter func131,ntmps131;go_upto_region 1 with fail;rw[<-a8];clear a8;refine Zu (S:=fun W=>cL W h.b1 0 (O (Za ⟨R,0,L⟩))/\cL W w.heap.size 0 (I J X.k)/\cL W w.heap.size 1 (I J X.n)/\cL W w.heap.size 2 X.fn/\cL W w.heap.size 3 (I J X.tag)/\cL W h.b2 1 (Zd (Za ⟨bt,ot,L⟩) 2 h.t.c)/\cL W bt ot (I J t0.k)/\cL W bt (ot+1) (t0.s)/\cL W h.b3 1 (Zd (Za ⟨bf,of,L⟩) 2 h.f.c)/\cL W bf of (I J z.k)/\cL W bf (of+1) (z.s)/\cL W h.b4 0 (I J h.no)/\cL W h.b5 0 (.bool h.back)) (by kernel_rfl) (HK.out _ aw) (fun d=>?_);refine qk 0 (v:=?_) rfl (by kernel_rfl) (fun _ _ _ h=>h) (by rfl) d ?_ ?_;rotate_left;(focus (intro w' h;go_split_ands;go_simp;try with_reducible rfl));simp only[Zb,C,D,H];refine qk 1 (v:=?_) rfl (by kernel_rfl) (fun _ _ _ h=>h) (by rfl) d ?_ ?_;rotate_left;(focus (intro w' h;go_split_ands;go_simp;try with_reducible rfl));simp only[Zb,C,D,H];refine qk 2 (v:=?_) rfl (by kernel_rfl) (fun _ _ _ h=>h) (by rfl) d ?_ ?_;rotate_left;(focus (intro w' h;go_split_ands;go_simp;try with_reducible rfl));simp only[Zb,C,D,H];refine qk 3 (v:=?_) rfl (by kernel_rfl) (fun _ _ _ h=>h) (by rfl) d ?_ ?_;rotate_left;(focus (intro w' h;go_split_ands;go_simp;try with_reducible rfl));simp only[Zb,C,D,H];refine qk 4 (v:=?_) rfl (by kernel_rfl) (fun _ _ _ h=>h) (by rfl) d ?_ ?_;rotate_left;(focus (intro w' h;go_split_ands;go_simp;try with_reducible rfl));simp only[Zb,C,D,H];refine qk 5 (v:=?_) rfl (by kernel_rfl) (fun _ _ _ h=>h) (by rfl) d ?_ ?_;rotate_left;(focus (intro w' h;go_split_ands;go_simp;try with_reducible rfl));simp only[Zb,C,D,H];refine qk 6 (v:=?_) rfl (by kernel_rfl) (fun _ _ _ h=>h) (by rfl) d ?_ ?_;rotate_left;(focus (intro w' h;go_split_ands;go_simp;try with_reducible rfl));simp only[Zb,C,D,H];refine qk 7 (v:=?_) rfl (by kernel_rfl) (fun _ _ _ h=>h) (by rfl) d ?_ ?_;rotate_left;(focus (intro w' h;go_split_ands;go_simp;try with_reducible rfl));simp only[Zb,C,D,H];refine qk 8 (v:=?_) rfl (by kernel_rfl) (fun _ _ _ h=>h) (by rfl) d ?_ ?_;rotate_left;(focus (intro w' h;go_split_ands;go_simp;try with_reducible rfl));simp only[Zb,C,D,H];refine qk 9 (v:=?_) rfl (by kernel_rfl) (fun _ _ _ h=>h) (by rfl) d ?_ ?_;rotate_left;(focus (intro w' h;go_split_ands;go_simp;try with_reducible rfl));simp only[Zb,C,D,H];refine qk 10 (v:=?_) rfl (by kernel_rfl) (fun _ _ _ h=>h) (by rfl) d ?_ ?_;rotate_left;(focus (intro w' h;go_split_ands;go_simp;try with_reducible rfl));simp only[Zb,C,D,H];refine qk 11 (v:=?_) rfl (by kernel_rfl) (fun _ _ _ h=>h) (by rfl) d ?_ ?_;rotate_left;(focus (intro w' h;go_split_ands;go_simp;try with_reducible rfl));simp only[Zb,C,D,H];refine qk 12 (v:=?_) rfl (by kernel_rfl) (fun _ _ _ h=>h) (by rfl) d ?_ ?_;rotate_left;(focus (intro w' h;go_split_ands;go_simp;try with_reducible rfl));simp only[Zb,C,D,H];refine Pk (i:=13) (j:=14) rfl rfl (by kernel_rfl) (fun K hK=>?_) (fun K hK=>?_)
  .go_simp;refine(HC2.out _ aw ba).mono ?_;rintro e w2 ⟨rfl,h2,aa⟩;have y:=aw.trans h2;dsimp only;refine hK.out _ _ (HK.out _ y) (fun d=>?_);clear hK K;(try simp only[Zb,C,D,H])
   refine YT (i:=14) rfl (by kernel_rfl) (fun K hK=>?_);go_simp;refine hK.out _ _ (HK.out _ (y.trans (Yi.la ((Ze _ _).alloc (Zg _) _)))) (fun d=>?_);clear hK K;(try simp only[Zb,C,D,H])
   refine YT (i:=15) rfl (by kernel_rfl) (fun K hK=>?_);go_simp;refine hK.out _ _ (HK.out _ (y.trans (Yi.la ((Ze _ _).alloc (Zg _) _)))) (fun d=>?_);clear hK K;(try simp only[Zb,C,D,H])
   refine Zq (by kernel_rfl) ?_ _;have l:Yi R L W1 (w2.alloc (Zl #[I J 0,I J 0,.nilFunc,I J 0] 103)):=y.trans (Yi.la ((Ze _ _).alloc (Zg _) _));have a5:Wl R (F-c) o (w2.alloc (Zl #[I J 0,I J 0,.nilFunc,I J 0] 103)):=aa.below ((Ze _ _).alloc (Zg _) _);obtain⟨V,hV⟩:∃V,V=w2.alloc (Zl #[I J 0,I J 0,.nilFunc,I J 0] 103):=⟨_,rfl⟩
   rw[<-hV] at l a5;rw[<-hV];clear hV d aa y h2;obtain⟨q1,_⟩:=HK.out _ l;have HF:=LL l a5 ((HB.out.1.kept l b6).r);obtain⟨c0,c1,_,_,_,_,_,_⟩:=a5;obtain⟨r0,r1,r2,r3,y0,y1,y2,y3⟩:=HF.out.2.2;clear l;go_wp2_with fail;obtain⟨⟨e0,e1,e2,e3⟩,k⟩:=HF.out.2.2.set (I J 0) (I J 0) .nilFunc (I J 0);refine Zj (v:=Uf) ?_ rfl ⟨((Yi.la HB.out.2.1).trans HF.out.1).new k (by omega),o,XP 0,c,.inl ⟨rfl,HD.out.1,fun h0=>absurd h0 HD.out.2⟩,Zg _,hc,HF.out.2.1.same k (by omega),.inl ⟨HD.out.2,rfl⟩⟩;simp[results,ZA,go_sem,Uf,e0,e1,e2,e3]
  .go_simp;have aq:Yi R L W1 (W1.alloc (Zl #[I J 0,I J 0,.nilFunc,I J 0] 103)).drew:=Yi.la (((Ze _ _).alloc (Zg _) _).drew);refine hK.out _ _ (HK.out _ aq) (fun d=>?_);clear hK K;(try simp only[Zb,C,D,H])
   refine YT (i:=13) rfl (by kernel_rfl) (fun K hK=>?_);go_simp;refine(HC2.out _ aq (HB.out.2.2.below (((Ze _ _).alloc (Zg _) _).drew))).mono ?_;rintro e w2 ⟨rfl,h2,aa⟩;have y:=aq.trans h2;have q9:Rb w2 (w.heap.size+1+1):=by have q8:Rb (W1.alloc (Zl #[I J 0,I J 0,.nilFunc,I J 0] 103)).drew W1.heap.size:=(Rb.new W1).below ((Ze _ _).drew);rw[bd] at q8;exact q8.kept h2 (by omega)
   obtain⟨⟨_,_,_,_⟩,ax⟩:=q9.set (I J 0) (I J 0) .nilFunc (I J 0);obtain⟨p0,p1,p2,p3,x0,x1,x2,x3⟩:=q9;dsimp only;refine hK.out _ _ (HK.out _ y) (fun d=>?_);clear hK K;(try simp only[Zb,C,D,H])
   refine YT (i:=15) rfl (by kernel_rfl) (fun K hK=>?_);go_simp;have l:=y.new ax (by omega);have a5:=aa.same ax (by omega);refine hK.out _ _ (HK.out _ l) (fun d=>?_);clear hK K;(try simp only[Zb,C,D,H])
   refine Zq (by kernel_rfl) ?_ _;obtain⟨V,hV⟩:∃V,V=(((w2.setCell ⟨w.heap.size+1+1,0,L⟩ (I J 0)).setCell ⟨w.heap.size+1+1,1,L⟩ (I J 0)).setCell ⟨w.heap.size+1+1,2,L⟩ .nilFunc).setCell ⟨w.heap.size+1+1,3,L⟩ (I J 0):=⟨_,rfl⟩
   clear p0 p1 p2 p3 x0 x1 x2 x3 ax;rw[<-hV] at l a5;rw[<-hV];clear hV d aa y h2;obtain⟨q1,_⟩:=HK.out _ l;have HF:=LL l a5 ((HB.out.1.kept l b6).r);obtain⟨c0,c1,_,_,_,_,_,_⟩:=a5;obtain⟨r0,r1,r2,r3,y0,y1,y2,y3⟩:=HF.out.2.2;clear l;go_wp2_with fail;obtain⟨⟨e0,e1,e2,e3⟩,k⟩:=HF.out.2.2.set (I J 0) (I J 0) .nilFunc (I J 0);refine Zj (v:=Uf) ?_ rfl ⟨((Yi.la HB.out.2.1).trans HF.out.1).new k (by omega),o,XP 0,c,.inl ⟨rfl,HD.out.1,fun h0=>absurd h0 HD.out.2⟩,Zg _,hc,HF.out.2.1.same k (by omega),.inl ⟨HD.out.2,rfl⟩⟩;simp[results,ZA,go_sem,Uf,e0,e1,e2,e3]
theorem Fc(M R F c:Nat)(Q:Nat->Prop)(h v X:Th)(w:Zf)(hp:BZ R Q w h v)(hvi:v.In Zc M R Q w)(hX:X.In Zc M R Q w)(hXo:JG Zc (h.t.ty.l.getD 0 Yk) X)(hw:Wl R (F-c) Yn w)(hQ:¬Q R)(nw:∀b,w.heap.size<=b->Q b)(hwy:h.wy=2)(hg:(Xk (Yq (h.t.ty.l.getD 0 Yk) (h.f.ty.l.getD 0 Yk) ⟨4,h.no,!h.back⟩) X.val).1.k=0)
  (j:Nat) (hj:j=95\/j=131) (caps:Array Zy) (hfn:v.fn=.func (.func j) #[] caps)
  (ih:Zm (∀(Q':Nat->Prop)(Y:Th)(W:Zf),v.In Zc M R Q' W->Y.In Zc M R Q' W->JG Zc (h.f.ty.l.getD 0 Yk) Y->Wl R (F-c) Yn W->¬Q' R->(∀b,W.heap.size<=b->Q' b)->Zn N j (#[Zk #[I J Y.k,I J Y.n,Y.fn,I J Y.tag]]++caps) W (Xn Zc M R F c Q' W (h.f.ty.l.getD 1 Yk) (fun r V c'=>Sn Zc F v.cv Y.val (h.f.ty.l.getD 1 Yk) c r V c')))) :
  Zn N 131 #[Zk #[I J X.k,I J X.n,X.fn,I J X.tag],O (Za ⟨h.b1,0,L⟩),O (Za ⟨h.b2,0,L⟩),O (Za ⟨h.b3,0,L⟩),O (Za ⟨h.b4,0,L⟩),O (Za ⟨h.b5,0,L⟩),O (Za ⟨h.b6,0,L⟩)] w (Xn Zc M R F c Q w (h.t.ty.l.getD 1 Yk) (fun r V c'=>Sn Zc F h.cv X.val (h.t.ty.l.getD 1 Yk) c r V c')):=by
 have a9:UJ X.val (h.t.ty.l.getD 0 Yk):=(hXo rfl).2▸(hX.qz (hXo rfl).1).2;obtain⟨t0,q,bt,ot,cn,c7,c2,a0,a1,a2,a3,bv,c6,b5,ao,ax,c4⟩:=MN hp.ti hp.tg hp.tk;obtain⟨f0,d,bf,of,cl,bx,bk,d0,d1,d2,d3,bq,ce,b1,an,ay,bz⟩:=MN hp.fi hp.fg hp.fk;obtain⟨b7,bp,ch⟩:=c4 Q hp.tb;obtain⟨bb,bu,c8⟩:=bz Q hp.fb;have c3:=hw.lt;have e0:h.t.ty.l.getD 0 Yk=t0.ty:=by rw[b5];rfl
 have e1:h.t.ty.l.getD 1 Yk=q.ty:=by rw[b5];rfl
 have e2:h.f.ty.l.getD 0 Yk=f0.ty:=by rw[b1];rfl
 have e3:h.f.ty.l.getD 1 Yk=d.ty:=by rw[b1];rfl
 rw[e0] at a9 hXo;have aw:=hp.fits;rw[b1,b5,YM,YM,Sl _ _ _ _ _ rfl] at aw;obtain⟨ar,am⟩:YD Yl f0.ty t0.ty=Zc/\YD Yl d.ty q.ty=Zc:=by simpa using aw
 have ad:YD Yl t0.ty f0.ty=Zc:=by rw[Lr 45 _ _ ao an];exact ar
 replace ao:=YG 45 46 _ (by omega) ao;replace ax:=YG 45 46 _ (by omega) ax;replace an:=YG 45 46 _ (by omega) an;replace ay:=YG 45 46 _ (by omega) ay;have c9:h.cv=Y9 v.cv (Yq t0.ty f0.ty ⟨4,h.no,!h.back⟩) (Yq d.ty q.ty ⟨4,h.no,h.back⟩):=by rw[Th.mh,hwy,if_neg (by decide),if_pos rfl,hp.inn,e0,e1,e2,e3];rfl
 have hG:UU (Yq t0.ty f0.ty ⟨4,h.no,!h.back⟩) t0.ty f0.ty:=Kq ao an ad rfl;have hA:UU (Yq d.ty q.ty ⟨4,h.no,h.back⟩) d.ty q.ty:=Kq ay ax am rfl;have hU:UJ v.cv (YM f0.ty d.ty):=b1▸hp.ty;rw[e2,e3] at ih;rw[e1,c9];obtain⟨W1,av⟩:∃W,W=(w.alloc (Zl X.v 103)).alloc (Zl #[I J 0,I J 0,.nilFunc,I J 0] 103):=⟨_,rfl⟩
 have hB:PB X w W1:=by rw[av];exact ND X w
 have au:bL w W1:=by rw[av];exact RX X w
 have cd:W1.heap.size=w.heap.size+1+1:=by rw[av];simp
 have HB:=LL hB au (hw.below au);have a4:=hX.one;have ct:∀(a:Zr)(m:ZB)(W:Zf),(Zv a X.fn m).run N W=Zt N W a X.fn m:=fun a m W=>Yx a4;have b2:∀b,Q b->b≠R:=fun b hb e=>hQ (e▸hb);have o:∀W,Yi R L W1 W->∀b i u,cL w b i u->Q b->cL W b i u:=fun W l b i u e hb=>l.cell ((au.cell (p:=⟨b,i,L⟩) (Zi _ _ e)).trans e) (b2 b hb);have be:=hp.t1;rw[c7,c2] at be;have bg:=hp.f1;rw[bx,bk] at bg;have HK:Zm (∀W,Yi R L W1 W->cL W h.b1 0 (O (Za ⟨R,0,L⟩))/\cL W w.heap.size 0 (I J X.k)/\cL W w.heap.size 1 (I J X.n)/\cL W w.heap.size 2 X.fn/\cL W w.heap.size 3 (I J X.tag)/\cL W h.b2 1 (Zd (Za ⟨bt,ot,L⟩) 2 h.t.c)/\cL W bt ot (I J t0.k)/\cL W bt (ot+1) (t0.s)/\cL W h.b3 1 (Zd (Za ⟨bf,of,L⟩) 2 h.f.c)/\cL W bf of (I J f0.k)/\cL W bf (of+1) (f0.s)/\cL W h.b4 0 (I J h.no)/\cL W h.b5 0 (.bool h.back)):=fun W l=>⟨o W l _ _ _ hp.w1 hp.b1,l.cell hB.x4.c0 (by omega),l.cell hB.x4.c1 (by omega),l.cell hB.x4.c2 (by omega),l.cell hB.x4.c3 (by omega),o W l _ _ _ be hp.b2,o W l _ _ _ a0 b7,o W l _ _ _ a1 b7,o W l _ _ _ bg hp.b3,o W l _ _ _ d0 bb,o W l _ _ _ d1 bb,o W l _ _ _ hp.n4 hp.b4,o W l _ _ _ hp.k5 hp.b5⟩
 have a6:∀W,Yi R L W1 W->XR Q w W:=fun W l b hb hq=>by rw[l.block b (by have:=au.size;omega) (b2 b hq) (by simp)];exact au.block b hb
 have ci:∀W,Yi R L W1 W->∀Z:Th,Z.In Zc M R Q w->Z.In Zc M R (fun x=>Q x/\x≠w.heap.size+1) W:=fun W l Z hZ=>(hZ.mono (Q':=fun x=>Q x/\x≠w.heap.size+1) fun x h1 h2=>⟨h2,by omega⟩).same fun b h1 h2=>a6 W l b h1 h2.1;rw[e0,e2] at hg;have bo:Zm (∀(z:Nat)(W:Zf),Yi R L W1 W->Wl R (F-c) Yn W->w.heap.size<=z->z<W.heap.size->Zn N 97 #[O (Za ⟨R,0,L⟩),Zk X.v,Zk t0.v,Zk f0.v,I J h.no,.bool (!h.back)] W fun e w'=>Yi R L W w'/\Wl R (F-c) Yn w'/\∃y:Th,e=Zp (Zk y.v)/\y.In Zc M R (fun x=>Q x/\x≠w.heap.size+1/\x≠z) w'/\(y.val=(Xk (Yq t0.ty f0.ty ⟨4,h.no,!h.back⟩) X.val).2/\JG Zc f0.ty y)):=fun z W l bs cw cu=>
  (MG M R (F-c) (fun x=>Q x/\x≠w.heap.size+1/\x≠z) X t0 f0 h.no (!h.back) W ((hX.mono (Q':=(fun x=>Q x/\x≠w.heap.size+1/\x≠z)) fun x h1 h2=>⟨h2,by omega,by omega⟩).same fun b h1 h2=>a6 W l b h1 h2.1) (bv.same (a6 W l) bp) (bq.same (a6 W l) bu) ao an ad a9 ((bp.and bv.bl).mono fun b hb=>⟨hb.1,by omega,by omega⟩) ((bu.and bq.bl).mono fun b hb=>⟨hb.1,by omega,by omega⟩) bs (fun hx=>hQ hx.1) (fun b hb=>⟨nw b (by have:=l.size;omega),by have:=l.size;omega,by have:=l.size;omega⟩)).mono (by
   rintro e w' ⟨h1,⟨h2,_⟩|⟨_,h3,y,h4,h5,h6⟩⟩
   .exact absurd hg h2
   .exact⟨h1,h3,y,h4,h5,h6.1,fun _=>h6.2 (hXo rfl).1 (hXo rfl).2⟩)
 have i0:(0:Int)<((2:Nat):Int):=by omega
 have nR:∀b,w.heap.size<=b->b≠R:=fun b hb=>by omega
 have HP:=Aa hp hvi b2 nw hQ;have b3:=Yy a6;have HT:=FH c6 ce ch c8 ax ay am hU hG hA a9 hg;have HL:=F1 hfn a2 a3 d2 d3 b7 bb be bg;have ba:Yi R L W1 W1.drew:=Yi.la ((Ze _ _).drew);have bi:Wl R (F-c) Yn W1.drew:=HB.out.2.2.below ((Ze _ _).drew);clear hg o a6 ci hp hvi hX a9 hXo hw hQ nw hfn bv c6 bq ce bp ch bu c8 ao ax an ay aw ar ad am c9 hG hA hU b5 b1 c4 bz e0 e1 e2 e3 cn cl c7 bx c2 bk a0 a1 a2 a3 d0 d1 d2 d3 be bg a4 b7 bb hwy hB b2;go_enter func131,ntmps131;go_upto_region 1 with fail;rw[<-av];clear av;go_cut [9] (fun t9 wx=>∃b9:Nat,t9=O (Za ⟨b9,0,L⟩)/\Zm (w.heap.size+1<b9/\Yi R L W1 wx/\Wl R (F-c) Yn wx/\∃y:Th,QM wx b9 0 y/\y.In Zc M R (fun x=>Q x/\x≠w.heap.size+1) wx/\(y.val=(Xk (Yq t0.ty f0.ty ⟨4,h.no,!h.back⟩) X.val).2/\JG Zc f0.ty y)))
 case first=>
  refine Zu (S:=fun W=>cL W h.b1 0 (O (Za ⟨R,0,L⟩))/\cL W w.heap.size 0 (I J X.k)/\cL W w.heap.size 1 (I J X.n)/\cL W w.heap.size 2 X.fn/\cL W w.heap.size 3 (I J X.tag)/\cL W h.b2 1 (Zd (Za ⟨bt,ot,L⟩) 2 h.t.c)/\cL W bt ot (I J t0.k)/\cL W bt (ot+1) (t0.s)/\cL W h.b3 1 (Zd (Za ⟨bf,of,L⟩) 2 h.f.c)/\cL W bf of (I J f0.k)/\cL W bf (of+1) (f0.s)/\cL W h.b4 0 (I J h.no)/\cL W h.b5 0 (.bool h.back)) (by kernel_rfl) (HK.out _ ba) (fun hHeld=>?_);refine qk 0 (v:=?_) rfl (by kernel_rfl) (fun _ _ _ h=>h) (by rfl) hHeld ?_ ?_;rotate_left;(focus (intro w' h;go_split_ands;go_simp;try with_reducible rfl));simp only[Zb,C,D,H];refine qk 1 (v:=?_) rfl (by kernel_rfl) (fun _ _ _ h=>h) (by rfl) hHeld ?_ ?_;rotate_left;(focus (intro w' h;go_split_ands;go_simp;try with_reducible rfl));simp only[Zb,C,D,H];refine qk 2 (v:=?_) rfl (by kernel_rfl) (fun _ _ _ h=>h) (by rfl) hHeld ?_ ?_;rotate_left;(focus (intro w' h;go_split_ands;go_simp;try with_reducible rfl));simp only[Zb,C,D,H];refine qk 3 (v:=?_) rfl (by kernel_rfl) (fun _ _ _ h=>h) (by rfl) hHeld ?_ ?_;rotate_left;(focus (intro w' h;go_split_ands;go_simp;try with_reducible rfl));simp only[Zb,C,D,H];refine qk 4 (v:=?_) rfl (by kernel_rfl) (fun _ _ _ h=>h) (by rfl) hHeld ?_ ?_;rotate_left;(focus (intro w' h;go_split_ands;go_simp;try with_reducible rfl));simp only[Zb,C,D,H];refine qk 5 (v:=?_) rfl (by kernel_rfl) (fun _ _ _ h=>h) (by rfl) hHeld ?_ ?_;rotate_left;(focus (intro w' h;go_split_ands;go_simp;try with_reducible rfl));simp only[Zb,C,D,H];refine qk 6 (v:=?_) rfl (by kernel_rfl) (fun _ _ _ h=>h) (by rfl) hHeld ?_ ?_;rotate_left;(focus (intro w' h;go_split_ands;go_simp;try with_reducible rfl));simp only[Zb,C,D,H];refine qk 7 (v:=?_) rfl (by kernel_rfl) (fun _ _ _ h=>h) (by rfl) hHeld ?_ ?_;rotate_left;(focus (intro w' h;go_split_ands;go_simp;try with_reducible rfl));simp only[Zb,C,D,H];refine qk 8 (v:=?_) rfl (by kernel_rfl) (fun _ _ _ h=>h) (by rfl) hHeld ?_ ?_;rotate_left;(focus (intro w' h;go_split_ands;go_simp;try with_reducible rfl));simp only[Zb,C,D,H];refine qk 9 (v:=?_) rfl (by kernel_rfl) (fun _ _ _ h=>h) (by rfl) hHeld ?_ ?_;rotate_left;(focus (intro w' h;go_split_ands;go_simp;try with_reducible rfl));simp only[Zb,C,D,H];refine qk 10 (v:=?_) rfl (by kernel_rfl) (fun _ _ _ h=>h) (by rfl) hHeld ?_ ?_;rotate_left;(focus (intro w' h;go_split_ands;go_simp;try with_reducible rfl));simp only[Zb,C,D,H];refine qk 11 (v:=?_) rfl (by kernel_rfl) (fun _ _ _ h=>h) (by rfl) hHeld ?_ ?_;rotate_left;(focus (intro w' h;go_split_ands;go_simp;try with_reducible rfl));simp only[Zb,C,D,H];refine qk 12 (v:=?_) rfl (by kernel_rfl) (fun _ _ _ h=>h) (by rfl) hHeld ?_ ?_;rotate_left;(focus (intro w' h;go_split_ands;go_simp;try with_reducible rfl));simp only[Zb,C,D,H];refine Pk (i:=13) (j:=14) rfl rfl (by kernel_rfl) (fun K hK=>?_) (fun K hK=>?_)
  .go_simp;refine(bo.out w.heap.size _ ba bi (Zg _) (by show _<W1.heap.size;omega)).mono ?_;rintro e w2 ⟨h2,b4,y,rfl,a7,aj⟩;have a4:=a7.one;have c5:∀(a:Zr)(m:ZB)(W:Zf),(Zv a y.fn m).run N W=Zt N W a y.fn m:=fun a m W=>Yx a4;have a8:=ba.trans h2;have HY:=Uy a7 aj;clear a7 aj a4;dsimp only;refine hK.out _ _ (HK.out _ a8) (fun hHeld=>?_);clear hK K;(try simp only[Zb,C,D,H])
   refine YT (i:=14) rfl (by kernel_rfl) (fun K hK=>?_);go_simp;refine hK.out _ _ (HK.out _ (a8.trans (Yi.la ((Ze _ _).alloc (Zg _) _)))) (fun hHeld=>?_);clear hK K;(try simp only[Zb,C,D,H])
   refine YT (i:=15) rfl (by kernel_rfl) (fun K hK=>?_);go_simp;have b6:bL w2 (w2.alloc (Zl y.v 103)):=(Ze _ _).alloc (Zg _) _;refine hK.out _ _ (HK.out _ (a8.trans (Yi.la b6))) (fun hHeld=>?_);clear hK K;(try simp only[Zb,C,D,H])
   refine Zq (by kernel_rfl) ?_ _;have HN:Zm _:=(⟨by have:=a8.size;omega,a8.trans (Yi.la b6),b4.below b6,y,⟨by simp[go_sem],by simp[go_sem],by simp[go_sem],by simp[go_sem]⟩,(HY.out.1.same (XR.la b6)).mono (fun x _ hx=>⟨hx.1,hx.2.1⟩),HY.out.2⟩:(fun (b9:Nat)(wx:Zf)=>w.heap.size+1<b9/\Yi R L W1 wx/\Wl R (F-c) Yn wx/\∃y:Th,QM wx b9 0 y/\y.In Zc M R (fun x=>Q x/\x≠w.heap.size+1) wx/\(y.val=(Xk (Yq t0.ty f0.ty ⟨4,h.no,!h.back⟩) X.val).2/\JG Zc f0.ty y)) w2.heap.size (w2.alloc (Zl y.v 103)))
   clear hHeld;go_wp2_with fail;go_meet
   case rel=>exact⟨_,rfl,HN⟩
  .go_simp;have aa:Yi R L W1 (W1.alloc (Zl #[I J 0,I J 0,.nilFunc,I J 0] 103)).drew:=Yi.la (((Ze _ _).alloc (Zg _) _).drew);refine hK.out _ _ (HK.out _ aa) (fun hHeld=>?_);clear hK K;(try simp only[Zb,C,D,H])
   refine YT (i:=13) rfl (by kernel_rfl) (fun K hK=>?_);go_simp;refine(bo.out (w.heap.size+1+1) _ aa (HB.out.2.2.below (((Ze _ _).alloc (Zg _) _).drew)) (by omega) (by show _<(W1.alloc (Zl #[I J 0,I J 0,.nilFunc,I J 0] 103)).heap.size;simp[cd])).mono ?_;rintro e w2 ⟨h2,b4,y,rfl,a7,aj⟩;have a4:=a7.one;have c5:∀(a:Zr)(m:ZB)(W:Zf),(Zv a y.fn m).run N W=Zt N W a y.fn m:=fun a m W=>Yx a4;have a8:=aa.trans h2;have q9:Rb w2 (w.heap.size+1+1):=by have q8:Rb (W1.alloc (Zl #[I J 0,I J 0,.nilFunc,I J 0] 103)).drew W1.heap.size:=(Rb.new W1).below ((Ze _ _).drew);rw[cd] at q8;exact q8.kept h2 (by omega)
   obtain⟨⟨g0,g1,g2,g3⟩,az⟩:=q9.set (I J y.k) (I J y.n) y.fn (I J y.tag);have HN:Zm _:=(⟨by omega,a8.new az (by omega),b4.same az (by omega),y,⟨g0,g1,g2,g3⟩,(a7.same (XR.mb az fun hx=>hx.2.2 rfl)).mono (fun x _ hx=>⟨hx.1,hx.2.1⟩),aj⟩:(fun (b9:Nat)(wx:Zf)=>w.heap.size+1<b9/\Yi R L W1 wx/\Wl R (F-c) Yn wx/\∃y:Th,QM wx b9 0 y/\y.In Zc M R (fun x=>Q x/\x≠w.heap.size+1) wx/\(y.val=(Xk (Yq t0.ty f0.ty ⟨4,h.no,!h.back⟩) X.val).2/\JG Zc f0.ty y)) (w.heap.size+1+1) ((((w2.setCell ⟨w.heap.size+1+1,0,L⟩ (I J y.k)).setCell ⟨w.heap.size+1+1,1,L⟩ (I J y.n)).setCell ⟨w.heap.size+1+1,2,L⟩ y.fn).setCell ⟨w.heap.size+1+1,3,L⟩ (I J y.tag)))
   have cb:=a8.new az (by omega);obtain⟨p0,p1,p2,p3,x0,x1,x2,x3⟩:=q9;clear a7 aj a4 g0 g1 g2 g3 az;dsimp only;refine hK.out _ _ (HK.out _ a8) (fun hHeld=>?_);clear hK K;(try simp only[Zb,C,D,H])
   refine YT (i:=15) rfl (by kernel_rfl) (fun K hK=>?_);go_simp;refine hK.out _ _ (HK.out _ cb) (fun hHeld=>?_);clear hK K;(try simp only[Zb,C,D,H])
   refine Zq (by kernel_rfl) ?_ _;obtain⟨V,hV⟩:∃V,V=(((w2.setCell ⟨w.heap.size+1+1,0,L⟩ (I J y.k)).setCell ⟨w.heap.size+1+1,1,L⟩ (I J y.n)).setCell ⟨w.heap.size+1+1,2,L⟩ y.fn).setCell ⟨w.heap.size+1+1,3,L⟩ (I J y.tag):=⟨_,rfl⟩
   rw[<-hV] at HN;rw[<-hV];clear hV hHeld cb p0 p1 p2 p3 x0 x1 x2 x3 b4 a8 h2;go_wp2_with fail;go_meet
   case rel=>exact⟨_,rfl,HN⟩
 case rest=>
 obtain⟨b9,rfl,bj⟩:=hcut;obtain⟨cs,a5,al,y,cj,a7,aj⟩:=bj.out;have HY:=O8 a5 al a7 aj;obtain⟨q1,_⟩:=HK.out _ a5;have q2:cL wc h.b6 2 (.func (.func j) #[] caps):=by have:=(HP.out.1.v6.same (b3.out _ a5) HP.out.1.b6).c2;rw[HL.out.1] at this;exact this
 obtain⟨c0,c1,_,_,_,_,_,_⟩:=al;replace c1:cL wc R 1 (I J 0):=c1;obtain⟨y0,y1,y2,y3⟩:=cj;simp only[Zh] at y1 y2 y3;clear a5 a7 aj bj ba bi bo;have HI:Zm (Zn N j (#[Zk y.v]++caps) wc (Xn Zc M R F c (fun x=>Q x/\x≠w.heap.size+1) wc d.ty (fun r V c'=>Sn Zc F v.cv y.val d.ty c r V c'))):=by obtain⟨k1,k2,k3,k4⟩:=HY.out;exact ih.out (fun x=>Q x/\x≠w.heap.size+1) y wc ((HP.out.2.1.mono (Q':=(fun x=>Q x/\x≠w.heap.size+1)) fun x h1 h2=>⟨h2,by omega⟩).same fun b h1 h2=>b3.out _ k1 b h1 h2.1) k3 k4.2 k2 (fun hx=>HP.out.2.2.2.2 hx.1) (fun b hb=>⟨HP.out.2.2.2.1 b (by have:=k1.size;omega),by have:=k1.size;omega⟩)
 apply_assumption;go_upto_region 4 with fail;go_cut [10] (fun ck wx=>∃k:Nat,ck=O (Za ⟨k,0,L⟩)/\Zm (w.heap.size+1<k/\Yi R L W1 wx/\∃(r:XG)(V:YJ)(c':Nat),Sn Zc F v.cv (Xk (Yq t0.ty f0.ty ⟨4,h.no,!h.back⟩) X.val).2 d.ty c r V c'/\c<=c'/\c'<=F/\Wl R (F-c') r wx/\(r.k≠0\/(r=Yn/\∃z:Th,QM wx k 0 z/\z.In Zc M R (fun x=>Q x/\x≠w.heap.size+1) wx/\(z.val=V/\JG Zc d.ty z)))))
 case first=>
  rcases hj with rfl|rfl
  all_goals
   go_wp2_with fail
   refine HI.out.mono ?_
   rintro e w3 ⟨aa,r,V,c',hS,ah,ai,bc,⟨hr,rfl⟩|⟨rfl,z,rfl,ak,ac⟩⟩
   .have hb3:bL w3 (w3.alloc (Zl #[I J 0,I J 0,.nilFunc,I J 0] 103)):=(Ze _ _).alloc (Zg _) _;have HN:Zm _:=(⟨by have:=HY.out.1.size;have:=aa.size;omega,(HY.out.1.trans aa).trans (Yi.la hb3),r,V,c',HY.out.2.2.2.1▸hS,ah,ai,bc.below hb3,.inl hr⟩:(fun (k:Nat)(wx:Zf)=>w.heap.size+1<k/\Yi R L W1 wx/\∃(r:XG)(V:YJ)(c':Nat),Sn Zc F v.cv (Xk (Yq t0.ty f0.ty ⟨4,h.no,!h.back⟩) X.val).2 d.ty c r V c'/\c<=c'/\c'<=F/\Wl R (F-c') r wx/\(r.k≠0\/(r=Yn/\∃z:Th,QM wx k 0 z/\z.In Zc M R (fun x=>Q x/\x≠w.heap.size+1) wx/\(z.val=V/\JG Zc d.ty z)))) w3.heap.size (w3.alloc (Zl #[I J 0,I J 0,.nilFunc,I J 0] 103)))
    clear aa hS ah ai bc hr hb3 y0 y1 y2 y3 c0 c1 q1 q2;simp only[Uf];go_wp2_with fail;go_meet
    case rel=>exact⟨_,rfl,HN⟩
   .have hb3:bL w3 (w3.alloc (Zl z.v 103)):=(Ze _ _).alloc (Zg _) _;have a4:=ak.one;have cg:∀(a:Zr)(m:ZB)(W:Zf),(Zv a z.fn m).run N W=Zt N W a z.fn m:=fun a m W=>Yx a4;have HN:Zm _:=(⟨by have:=HY.out.1.size;have:=aa.size;omega,(HY.out.1.trans aa).trans (Yi.la hb3),Yn,V,c',HY.out.2.2.2.1▸hS,ah,ai,bc.below hb3,.inr ⟨rfl,z,⟨by simp[go_sem],by simp[go_sem],by simp[go_sem],by simp[go_sem]⟩,ak.same (XR.la hb3),ac⟩⟩:(fun (k:Nat)(wx:Zf)=>w.heap.size+1<k/\Yi R L W1 wx/\∃(r:XG)(V:YJ)(c':Nat),Sn Zc F v.cv (Xk (Yq t0.ty f0.ty ⟨4,h.no,!h.back⟩) X.val).2 d.ty c r V c'/\c<=c'/\c'<=F/\Wl R (F-c') r wx/\(r.k≠0\/(r=Yn/\∃z:Th,QM wx k 0 z/\z.In Zc M R (fun x=>Q x/\x≠w.heap.size+1) wx/\(z.val=V/\JG Zc d.ty z)))) w3.heap.size (w3.alloc (Zl z.v 103)))
    clear aa hS ah ai bc hb3 ak ac a4 y0 y1 y2 y3 c0 c1 q1 q2;simp only[Th.ag];go_wp2_with fail;go_meet
    case rel=>exact⟨_,rfl,HN⟩
 case rest=>
 obtain⟨k,rfl,ca⟩:=hcut;obtain⟨cq,a5,r,V,c',hS,ah,ai,al,br⟩:=ca.out;obtain⟨hS,bh⟩:Ax F v.cv (Xk (Yq t0.ty f0.ty ⟨4,h.no,!h.back⟩) X.val).2 d.ty c r V c'/\(r.k=0->UJ V d.ty):=by
  rcases hS with⟨_,h1,h2⟩|⟨h1,_⟩
  .exact⟨h1,h2⟩
  .cases h1
 clear ca HI HY y0 y1 y2 y3 c0 c1 q1 q2 ih hj;obtain⟨q1,_⟩:=HK.out _ a5;have b0:=(HB.out.1.kept a5 c3).r;obtain⟨p1,p2,p3,p4,p5,p6,p7,hU,hG,hA,a9,hg⟩:=HT.out;rcases br with hr|⟨rfl,z,ap,ak,ac⟩
 .have hgk:(r.k != 0)=Zc:=by simpa using hr
  have HF:Zm (Yi R L W1 wc/\Wl R (F-c') r wc/\Rb wc (w.heap.size+1)/\Ax F (Y9 v.cv (Yq t0.ty f0.ty ⟨4,h.no,!h.back⟩) (Yq d.ty q.ty ⟨4,h.no,h.back⟩)) X.val q.ty c r (XP 0) c'/\r.k≠0):=⟨a5,al,b0,D6 hU hG hA a9 hg hS hr,hr⟩
  obtain⟨c0,c1,_,_,_,_,_,_⟩:=al;obtain⟨r0,r1,r2,r3,y0,y1,y2,y3⟩:=b0;clear a5 hS bh hr hU hG hA a9 hg p1 p2 p3 p4 p5 p6 p7;apply_assumption;go_wp2_with fail;obtain⟨⟨e0,e1,e2,e3⟩,l⟩:=HF.out.2.2.1.set (I J 0) (I J 0) .nilFunc (I J 0);refine Zj (v:=Uf) ?_ rfl ⟨((Yi.la HB.out.2.1).trans HF.out.1).new l (by omega),r,XP 0,c',.inl ⟨rfl,HF.out.2.2.2.1,fun h0=>absurd h0 HF.out.2.2.2.2⟩,ah,ai,HF.out.2.1.same l (by omega),.inl ⟨HF.out.2.2.2.2,rfl⟩⟩;simp[results,ZA,go_sem,Uf,e0,e1,e2,e3]
 .have hzt:UJ z.val d.ty:=ac.1▸bh rfl;have HR:Zm (Ax F (Y9 v.cv (Yq t0.ty f0.ty ⟨4,h.no,!h.back⟩) (Yq d.ty q.ty ⟨4,h.no,h.back⟩)) X.val q.ty c (Xk (Yq d.ty q.ty ⟨4,h.no,h.back⟩) z.val).1 (Xk (Yq d.ty q.ty ⟨4,h.no,h.back⟩) z.val).2 c'/\((Xk (Yq d.ty q.ty ⟨4,h.no,h.back⟩) z.val).1.k=0->UJ (Xk (Yq d.ty q.ty ⟨4,h.no,h.back⟩) z.val).2 q.ty)):=⟨D5 hU hG hA a9 hg (ac.1▸hS),(WG hA hzt).1⟩
  have bm:Zm (∀W,Yi R L wc W->Wl R (F-c') Yn W->Zn N 97 #[O (Za ⟨R,0,L⟩),Zk z.v,Zk d.v,Zk q.v,I J h.no,.bool h.back] W (LY M R (F-c') (fun x=>Q x/\x≠w.heap.size+1) W (Xk (Yq d.ty q.ty ⟨4,h.no,h.back⟩) z.val) (BY z d q))):=fun W l bs=>by have a6:XR Q w W:=b3.out _ (a5.trans l);have cr:=a5.size;have co:=l.size;exact MG M R (F-c') (fun x=>Q x/\x≠w.heap.size+1) z d q h.no h.back W (ak.same (XR.mb l fun hx=>HP.out.2.2.2.2 hx.1)) (p2.same a6 p4) (p1.same a6 p3) p6 p5 p7 hzt ((p4.and p2.bl).mono fun b hb=>⟨hb.1,by omega⟩) ((p3.and p1.bl).mono fun b hb=>⟨hb.1,by omega⟩) bs (fun hx=>HP.out.2.2.2.2 hx.1) (fun b hb=>⟨HP.out.2.2.2.1 b (by omega),by omega⟩)
  have bd:Zm (∀W,SK R (w.heap.size+1) wc W->cL W h.b1 0 (O (Za ⟨R,0,L⟩))/\cL W k 0 (I J z.k)/\cL W k 1 (I J z.n)/\cL W k 2 z.fn/\cL W k 3 (I J z.tag)/\cL W h.b3 1 (Zd (Za ⟨bf,of,L⟩) 2 h.f.c)/\cL W bf (of+2) (I J d.k)/\cL W bf (of+3) (d.s)/\cL W h.b2 1 (Zd (Za ⟨bt,ot,L⟩) 2 h.t.c)/\cL W bt (ot+2) (I J q.k)/\cL W bt (ot+3) (q.s)/\cL W h.b4 0 (I J h.no)/\cL W h.b5 0 (.bool h.back)):=fun W l=>by obtain⟨_,l2,l3,l4,l5,l6,l7,l8,l9⟩:=HL.out;have a6:XR Q w wc:=b3.out _ a5;have hp:=HP.out.1;have ae:∀b i u,cL w b i u->Q b->cL W b i u:=fun b i u e hb=>l b i u (a6.cell e hb) (HP.out.2.2.1 b hb) (by have:b<w.heap.size:=Zi _ _ e;omega);exact⟨ae _ _ _ hp.w1 hp.b1,l _ _ _ ap.c0 (by omega) (by omega),l _ _ _ ap.c1 (by omega) (by omega),l _ _ _ ap.c2 (by omega) (by omega),l _ _ _ ap.c3 (by omega) (by omega),ae _ _ _ l9 hp.b3,ae _ _ _ l4 l7,ae _ _ _ l5 l7,ae _ _ _ l8 hp.b2,ae _ _ _ l2 l6,ae _ _ _ l3 l6,ae _ _ _ hp.n4 hp.b4,ae _ _ _ hp.k5 hp.b5⟩
  have HF:=LL a5 al b0;have i1:(1:Int)<((2:Nat):Int):=by omega
  obtain⟨c0,c1,_,_,_,_,_,_⟩:=al;replace c1:cL wc R 1 (I J 0):=c1;have ab:Yi R L wc wc.drew:=Yi.la ((Ze _ _).drew);have af:SK R (w.heap.size+1) wc wc.drew:=(SK.refl _ _ _).kept ab;have b8:Wl R (F-c') Yn wc.drew:=HF.out.2.1.below ((Ze _ _).drew);by_cases hg2:(Xk (Yq d.ty q.ty ⟨4,h.no,h.back⟩) z.val).1.k=0
  .have HC3:Zm (Zn N 97 #[O (Za ⟨R,0,L⟩),Zk z.v,Zk d.v,Zk q.v,I J h.no,.bool h.back] wc.drew fun e w'=>Yi R L wc.drew w'/\(Xk (Yq d.ty q.ty ⟨4,h.no,h.back⟩) z.val).1=Yn/\Wl R (F-c') Yn w'/\∃g:Th,e=Zp (Zk g.v)/\g.In Zc M R (fun x=>Q x/\x≠w.heap.size+1) w'/\(g.val=(Xk (Yq d.ty q.ty ⟨4,h.no,h.back⟩) z.val).2/\JG Zc q.ty g)):=(bm.out _ ab b8).mono (by
    rintro e w' ⟨h1,⟨h2,_⟩|⟨h2,h3,g,h4,h5,h6⟩⟩
    .exact absurd hg2 h2
    .exact⟨h1,h2,h3,g,h4,h5,h6.1,fun _=>h6.2 (ac.2 rfl).1 (ac.2 rfl).2⟩)
   clear a5 hS bh hU hG hA a9 hg p1 p2 p3 p4 p5 p6 p7 b0 ap ak ac hzt b8 hg2;apply_assumption;go_upto_region 7 with fail;go_region_held3 (fun W=>cL W h.b1 0 (O (Za ⟨R,0,L⟩))/\cL W k 0 (I J z.k)/\cL W k 1 (I J z.n)/\cL W k 2 z.fn/\cL W k 3 (I J z.tag)/\cL W h.b3 1 (Zd (Za ⟨bf,of,L⟩) 2 h.f.c)/\cL W bf (of+2) (I J d.k)/\cL W bf (of+3) (d.s)/\cL W h.b2 1 (Zd (Za ⟨bt,ot,L⟩) 2 h.t.c)/\cL W bt (ot+2) (I J q.k)/\cL W bt (ot+3) (q.s)/\cL W h.b4 0 (I J h.no)/\cL W h.b5 0 (.bool h.back))
    (first|exact bd.out _ af|exact bd.out _ ((((af.set _ _).set _ _).set _ _).set _ _)|fail)
    (first
     |(go_at_call 97;refine HC3.out.mono ?_;rintro e w4 ⟨h4,ho,aq,g,rfl,bn,cf⟩;have HZ:Zm (Yi R L wc w4/\(Xk (Yq d.ty q.ty ⟨4,h.no,h.back⟩) z.val).1=Yn/\Wl R (F-c') Yn w4/\g.In Zc M R (fun x=>Q x/\x≠w.heap.size+1) w4/\(g.val=(Xk (Yq d.ty q.ty ⟨4,h.no,h.back⟩) z.val).2/\JG Zc q.ty g)/\Rb w4 (w.heap.size+1)):=⟨ab.trans h4,ho,aq,bn,cf,HF.out.2.2.kept (ab.trans h4) (by omega)⟩;have cg:∀(a:Zr)(m:ZB)(W:Zf),(Zv a g.fn m).run N W=Zt N W a g.fn m:=(fun a m W=>Yx bn.one);replace af:=af.kept h4;clear h4 ho aq bn cf ab;obtain⟨r0,r1,r2,r3,y0,y1,y2,y3⟩:=HZ.out.2.2.2.2.2)
     |fail)
   go_wp2_with fail;obtain⟨z1,z2,z3,z4,z5,z6⟩:=HZ.out;have cc:=Uv (m:=Zc) (M:=M) (Q:=Q) (h:=g) z6 (by omega) c3 (((Yi.la HB.out.2.1).trans HF.out.1).trans z1) z3 z4 (fun x hx=>hx);obtain⟨⟨e0,e1,e2,e3⟩,l,hW,hi⟩:=cc;refine Zj (v:=g.ag) ?_ rfl ⟨l,(Xk (Yq d.ty q.ty ⟨4,h.no,h.back⟩) z.val).1,(Xk (Yq d.ty q.ty ⟨4,h.no,h.back⟩) z.val).2,c',.inl ⟨rfl,HR.out⟩,ah,ai,by rw[z2];exact hW,.inr ⟨z2,g,rfl,hi,z5⟩⟩;simp[results,ZA,go_sem,Th.ag,e0,e1,e2,e3]
  .have HC3:Zm (Zn N 97 #[O (Za ⟨R,0,L⟩),Zk z.v,Zk d.v,Zk q.v,I J h.no,.bool h.back] wc.drew fun e w'=>Yi R L wc.drew w'/\Wl R (F-c') (Xk (Yq d.ty q.ty ⟨4,h.no,h.back⟩) z.val).1 w'/\e=Zp (Zk #[I J 0,I J 0,.nilFunc,I J 0])):=(bm.out _ ab b8).mono (by
    rintro e w' ⟨h1,⟨_,h3,h4⟩|⟨h2,_⟩⟩
    .exact⟨h1,h4,h3⟩
    .exact absurd (by rw[h2];rfl) hg2)
   have cm:=Yy hg2;clear a5 hS bh hU hG hA a9 hg p1 p2 p3 p4 p5 p6 p7 b0 ap ak ac hzt b8 hg2;apply_assumption;go_upto_region 7 with fail;go_region_held3 (fun W=>cL W h.b1 0 (O (Za ⟨R,0,L⟩))/\cL W k 0 (I J z.k)/\cL W k 1 (I J z.n)/\cL W k 2 z.fn/\cL W k 3 (I J z.tag)/\cL W h.b3 1 (Zd (Za ⟨bf,of,L⟩) 2 h.f.c)/\cL W bf (of+2) (I J d.k)/\cL W bf (of+3) (d.s)/\cL W h.b2 1 (Zd (Za ⟨bt,ot,L⟩) 2 h.t.c)/\cL W bt (ot+2) (I J q.k)/\cL W bt (ot+3) (q.s)/\cL W h.b4 0 (I J h.no)/\cL W h.b5 0 (.bool h.back))
    (first|exact bd.out _ af|exact bd.out _ ((((af.set _ _).set _ _).set _ _).set _ _)|fail)
    (first
     |(go_at_call 97;refine HC3.out.mono ?_;rintro e w4 ⟨h4,aq,rfl⟩;have HZ:Zm (Yi R L wc w4/\Wl R (F-c') (Xk (Yq d.ty q.ty ⟨4,h.no,h.back⟩) z.val).1 w4/\Rb w4 (w.heap.size+1)):=⟨ab.trans h4,aq,HF.out.2.2.kept (ab.trans h4) (by omega)⟩;replace af:=af.kept h4;clear h4 aq ab;obtain⟨r0,r1,r2,r3,y0,y1,y2,y3⟩:=HZ.out.2.2)
     |fail)
   go_wp2_with fail;obtain⟨z1,z2,z3⟩:=HZ.out;obtain⟨⟨e0,e1,e2,e3⟩,l⟩:=z3.set (I J 0) (I J 0) .nilFunc (I J 0);refine Zj (v:=Uf) ?_ rfl ⟨(((Yi.la HB.out.2.1).trans HF.out.1).trans z1).new l (by omega),(Xk (Yq d.ty q.ty ⟨4,h.no,h.back⟩) z.val).1,(Xk (Yq d.ty q.ty ⟨4,h.no,h.back⟩) z.val).2,c',.inl ⟨rfl,HR.out⟩,ah,ai,z2.same l (by omega),.inl ⟨cm.out,rfl⟩⟩;simp[results,ZA,go_sem,Uf,e0,e1,e2,e3]
theorem Es(M R F c:Nat)(Q:Nat->Prop)(h v X:Th)(w:Zf)(m:BZ R Q w h v)(i:v.In Zc M R Q w)(k:X.In Zc M R Q w)(d:JG Zc (h.t.ty.l.getD 0 Yk) X)(l:Wl R (F-c) Yn w)(x:c<=F)(p:¬Q R)(o:∀b,w.heap.size<=b->Q b)(e:h.wy=2)
  (j:Nat) (q:j=95\/j=131) (a:Array Zy) (g:v.fn=.func (.func j) #[] a)
  (u:Zm (∀(Q':Nat->Prop)(Y:Th)(W:Zf),v.In Zc M R Q' W->Y.In Zc M R Q' W->JG Zc (h.f.ty.l.getD 0 Yk) Y->Wl R (F-c) Yn W->¬Q' R->(∀b,W.heap.size<=b->Q' b)->Zn N j (#[Zk #[I J Y.k,I J Y.n,Y.fn,I J Y.tag]]++a) W (Xn Zc M R F c Q' W (h.f.ty.l.getD 1 Yk) (fun r V c'=>Sn Zc F v.cv Y.val (h.f.ty.l.getD 1 Yk) c r V c')))) :
  Zn N 131 #[Zk #[I J X.k,I J X.n,X.fn,I J X.tag],O (Za ⟨h.b1,0,L⟩),O (Za ⟨h.b2,0,L⟩),O (Za ⟨h.b3,0,L⟩),O (Za ⟨h.b4,0,L⟩),O (Za ⟨h.b5,0,L⟩),O (Za ⟨h.b6,0,L⟩)] w (Xn Zc M R F c Q w (h.t.ty.l.getD 1 Yk) (fun r V c'=>Sn Zc F h.cv X.val (h.t.ty.l.getD 1 Yk) c r V c')):=by
 by_cases hg:(Xk (Yq (h.t.ty.l.getD 0 Yk) (h.f.ty.l.getD 0 Yk) ⟨4,h.no,!h.back⟩) X.val).1.k=0
 .exact Fc M R F c Q h v X w m i k d l p o e hg j q a g u
 .exact Bg M R F c Q h v X w m k ((d rfl).2▸(k.qz (d rfl).1).2) l x p o e hg
theorem Dx{a:Nat}{x y:Array Zy}(h:Value.func (.func a) #[] x=.func (.func b) #[] y):a=b/\x=y:=by simpa using h
theorem FQ{m:Bool}{M R F c:Nat}(hF:F<=1000)(hM:M<=10000)(hc:c<=F)(ev:c<F->EX m M R F (c+1)):FD m M R F c:=by
 intro h;induction h using Th.ind with
 |h h ie ii=>
  intro A B j am an a9 a7 Q X W hi hX ac hw hQ nw;rcases Th.lk.1 hi with⟨h0,_⟩|⟨h1,b,a8⟩|⟨h2,r,⟨v,hp⟩,a0⟩
  .omega
  .obtain⟨rfl,rfl⟩:=Dx (a9.symm.trans b.fn);have hl:h.x.l.length=1:=by have:=b.xs.1.top.2.2.1;rw[TT.mq,List.length_map,TT.mc,b.xk] at this;exact this
   obtain⟨y,hy⟩:∃y,h.x.l=[y]:=List.length_eq_one_iff.1 hl;have e:h.x.tm.at 0=y.tm:=by rw[Tm.at,TT.mq,hy];rfl
   have o:0<h.x.tm.l.length:=by rw[TT.mq,List.length_map];omega
   by_cases hcF:c=F
   .exact DP m M R F c Q h X B W b hX hw hcF hQ h1
   .obtain⟨k,hk⟩:∃k,F-c=k+1:=⟨F-c-1,by omega⟩
    refine Fq m M R F c k Q h X y B W b a8 hX hw hk hF hM hQ nw h1 hy (fun Q' ea ec W' ae af hE ah ai al=>?_);refine ev (by omega) y (X::h.env) B ea ec ⟨⟨e▸b.xs.1.part o,fun r=>e▸(b.xs.2 r).part o⟩,?_,fun r=>?_⟩ Q' W' ae af hE ah ai al
    .have h1:=b.sz;have h2:=U2 o;rw[e] at h2;simp only[List.length_cons];omega
    .obtain⟨ho,d⟩:=a7 r;rcases (Th.mn.1 ho).2 with⟨w,_⟩|⟨_,⟨A',B',e1,z⟩,aj⟩|⟨w,_⟩
     .omega
     .rw[d] at e1;obtain⟨rfl,rfl⟩:=U5 e1;rw[e] at z;obtain⟨a1,a2⟩:=ac r;refine⟨?_,fun u hu=>?_⟩
      .rw[ZL,a2];exact z
      .rcases ZP.1 hu with rfl|hu
       .exact a1
       .exact aj u hu
     .omega
  .subst r;obtain⟨rfl,rfl⟩:=Dx (a9.symm.trans hp.fn);obtain⟨ho,d⟩:=a7 rfl;have e0:h.t.ty.l.getD 0 Yk=A:=by rw[d];rfl
   have e1:h.t.ty.l.getD 1 Yk=B:=by rw[d];rfl
   have l:v∈h.inn:=by rw[hp.inn];simp
   have aa:=a0 v l;obtain⟨x,i⟩:v.ok/\v.t.ty=h.f.ty:=by
    rcases (Th.mn.1 ho).2 with⟨w,_⟩|⟨w,_⟩|⟨_,hh⟩
    .omega
    .omega
    .exact hh v l
   obtain⟨f0,f1,hf,_,_⟩:=R8 hp.fg (by rw[Tr.ln];exact hp.fk);obtain⟨q,a,ak,g,ad⟩:∃q a,(q=95\/q=131)/\v.fn=.func (.func q) #[] a/\(v.wy=1\/v.wy=2):=by
    rcases Th.lk.1 aa with⟨w0,_⟩|⟨w1,c1,_⟩|⟨w2,_,⟨u,p⟩,_⟩
    .exfalso;rcases (Th.mn.1 x).2 with⟨_,⟨_,e⟩|⟨_,e⟩⟩|⟨w,_⟩|⟨w,_⟩
     .rw[i,hf] at e;simp[YM,Jg] at e
     .rw[i,hf] at e;simp[YM,Xs] at e
     .omega
     .omega
    .exact⟨95,_,.inl rfl,c1.fn,.inl w1⟩
    .exact⟨131,_,.inr rfl,p.fn,.inr w2⟩
   have ab:=Es M R F c Q h v X W hp aa hX (by rw[e0];exact ac) hw hc hQ nw h2 q ak a g (fun Q' Y W' a1 a2 a3 a4 a5 a6=>ii v l (h.f.ty.l.getD 0 Yk) (h.f.ty.l.getD 1 Yk) q a ad g (fun _=>⟨x,by rw[i,hf];rfl⟩) Q' Y W' a1 a2 a3 a4 a5 a6);rw[e1] at ab;exact ab
def NR(s:Nat)(x:TT)(ea:Option Zr)(ec:Nat)(E:List Th)(i:Ty):Th:=⟨3,0,.func (.func 95) #[] #[O (Za ⟨s,0,L⟩),O (Za ⟨s+1,0,L⟩),O (Za ⟨s+1+1,0,L⟩)],0,1,s,s+1,s+1+1,0,0,0,x,ea,ec,E,x.t,Sz i,0,Zo,[]⟩
theorem DQ(s:Nat)(x:TT)(b:Option Zr)(a:Nat)(E:List Th)(i:Ty):(NR s x b a E i).val=NM (x.tm.at 0) (E.map Th.val):=by unfold Th.val;rw[if_pos (show (NR s x b a E i).tag=0 from rfl),Th.mh];rfl
theorem DD(m:Bool)(M R F c:Nat)(Q:Nat->Prop)(x:TT)(E:List Th)(i:Ty)(q:Option Zr)(r:Nat)(w:Zf)(g:x.k=7)(hx:x.In w)(a3:x.Bl Q)(a6:L9 x.tm/\(m=Zo->Bo x.tm))(a1:x.tm.mj+E.length<=M)(hE:Qt m M R Q w q E)(p:m=Zc->M7 x.tm (E.map Th.my) i/\∀e,e∈E->e.ok)(hc:c<=F)(hw:Wl R (F-c) Yn w)(nw:∀b,w.heap.size<=b->Q b):
  Zn N 59 #[O (Za ⟨R,0,L⟩),Zk #[I J x.k,I J x.n,I J x.t.k,Zd x.t.a x.t.l.length x.t.c,I J x.f.k,Zd x.f.a x.f.l.length x.f.c,Zd x.a x.l.length x.c],Zd q E.length r] w (Xn m M R F c Q w i (X3 m F x.tm (E.map Th.val) i c)):=by
 have a5:m=Zc->∃G,M7 x.tm G i/\FE (E.map Th.val) G:=fun y=>⟨_,(p y).1,hE.rg (p y).2⟩
 have a8:=hw.lt;obtain⟨W1,k⟩:∃W,W=QI R x q E.length r w:=⟨_,rfl⟩
 obtain⟨z,d,a2⟩:=KE R x q E.length r w;rw[<-k] at z d a2;have a4:=hw.below d;have HB:=LL z d a4;have HE:Zm (X3 m F x.tm (E.map Th.val) i c Yn (NR w.heap.size x q r E i).val c):=by
  rw[DQ];refine⟨Fm (by rw[TT.mc];exact g),fun y _=>?_⟩;obtain⟨G,hG,a9⟩:=a5 y;obtain⟨ps,hl,u,hr⟩:=Jz hG;rw[TT.mc,g] at hr;rcases hr with⟨a,_⟩|⟨a,_⟩|⟨a,_⟩|⟨a,_⟩|⟨a,_⟩|⟨a,_⟩|⟨_,b,hb,rfl⟩|⟨a,_⟩|⟨a,_⟩|⟨a,_⟩<;>first|omega|skip
  subst hb;have:=u 0 (by simp);rw[TT.mc,g,if_pos rfl] at this;exact QR this a9
 have HO:Zm (JG m i (NR w.heap.size x q r E i)):=fun y=>by
  obtain⟨hG,a7⟩:=p y;obtain⟨ps,hl,u,hr⟩:=Jz hG;rw[TT.mc,g] at hr;have e:=RI i;rcases hr with⟨a,_⟩|⟨a,_⟩|⟨a,_⟩|⟨a,_⟩|⟨a,_⟩|⟨a,_⟩|⟨_,b,hb,hi⟩|⟨a,_⟩|⟨a,_⟩|⟨a,_⟩<;>first|omega|skip
  subst hb;have:=u 0 (by simp);rw[TT.mc,g,if_pos rfl] at this;exact⟨Th.mn.2 ⟨.inl rfl,.inr (.inl ⟨rfl,⟨_,_,e.trans hi,this⟩,a7⟩)⟩,e⟩
 have HI:Zm ((NR w.heap.size x q r E i).In m M R (fun b=>Q b/\b≠w.heap.size+1+1+1) W1):=by
  refine Th.lk.2 (.inr (.inl ⟨rfl,⟨rfl,rfl,⟨nw _ ?_,?_⟩,⟨nw _ ?_,?_⟩,⟨nw _ ?_,?_⟩,z.w0,z.x7,hx.below d,(a3.and hx.bl).mono fun b h=>⟨h.1,by omega⟩,g,a6,a1,z.e0,fun j l=>?_⟩,fun e he=>?_⟩))
  .simp only[NR];omega
  .simp only[NR];omega
  .simp only[NR];omega
  .simp only[NR];omega
  .simp only[NR];omega
  .simp only[NR];omega
  .obtain⟨b,o,e,hb,h4⟩:=hE.at4 j l;exact⟨b,o,e,⟨hb,by have:=h4.lt;omega⟩,h4.same (Q:=fun _=>True) (XR.la d) trivial⟩
  .exact((hE.ins e he).mono (Q':=fun b=>Q b/\b≠w.heap.size+1+1+1) fun x h1 h2=>⟨h2,by omega⟩).same (XR.la d)
 obtain⟨c0,c1,_,_,_,_,_,_⟩:=a4;replace c1:cL W1 R 1 (I J 0):=c1;obtain⟨w0,⟨x0,x1,x2,x3,x4,x5,x6⟩,e0,⟨r0,r1,r2,r3,y0,y1,y2,y3⟩⟩:=z;simp only[Zh] at x1 x2 x3 x4 x5 x6;have aa:∀(fn:Fn)(first cap:Array Zy)(w:Zf),(Instr.makeFunc fn first cap).run N w=.ok (.func fn first cap) w:=fun _ _ _ _=>rfl;rw[g] at x0;clear g hx a3 a6 a1 hE a5 p hw nw d a2;go_enter ZG,ZD;go_upto_region 1 with fail;unfold QI at k;rw[<-k];clear k;go_wp2_with fail;have a0:=Uv (Q:=Q) HB.out.1.r (by omega) a8 (Yi.la HB.out.2.1) HB.out.2.2 HI.out (fun x hx=>hx);obtain⟨⟨e0,e1,e2,e3⟩,g,hW,hi⟩:=a0;refine Zj (v:=(NR w.heap.size x q r E i).ag) ?_ rfl ⟨g,Yn,_,c,HE.out,Zg _,hc,hW,.inr ⟨rfl,_,rfl,hi,rfl,HO.out⟩⟩;simp only[NR] at e0 e1 e2 e3;simp[results,Zs,go_sem,Th.ag,NR,e0,e1,e2,e3]
theorem DB(m:Bool)(M R F c:Nat)(Q:Nat->Prop)(x:TT)(E:List Th)(i:Ty)(ea:Option Zr)(ec:Nat)(w:Zf)(k:x.k=1)(a4:0<=x.n)(a1:x.n<=1000000)(hE:Qt m M R Q w ea E)(l:m=Zc->M7 x.tm (E.map Th.my) i/\∀e,e∈E->e.ok)(hc:c<=F)(hw:Wl R (F-c) Yn w):
  Zn N 59 #[O (Za ⟨R,0,L⟩),Zk #[I J x.k,I J x.n,I J x.t.k,Zd x.t.a x.t.l.length x.t.c,I J x.f.k,Zd x.f.a x.f.l.length x.f.c,Zd x.a x.l.length x.c],Zd ea E.length ec] w (Xn m M R F c Q w i (X3 m F x.tm (E.map Th.val) i c)):=by
 have y:m=Zc->∃G,M7 x.tm G i/\FE (E.map Th.val) G:=fun hm=>⟨_,(l hm).1,hE.rg (l hm).2⟩
 have a3:=hw.lt;obtain⟨W1,h⟩:∃W,W=QI R x ea E.length ec w:=⟨_,rfl⟩
 obtain⟨hB,d,r⟩:=KE R x ea E.length ec w;rw[<-h] at hB d r;have u:=hw.below d;have HB:=LL hB d u;obtain⟨j,hj⟩:∃j:Nat,x.n=(j:Int):=⟨x.n.toNat,by omega⟩
 have o:x.tm.n.toNat=j:=by rw[TT.nu,hj];simp
 have n1:¬((j:Int)<0):=by omega
 by_cases hlt:j<E.length
 .obtain⟨bb,oo,hea,hqb,h4⟩:=hE.at4 j hlt;obtain⟨e,he⟩:∃e,e=E[j]:=⟨_,rfl⟩
  rw[<-he] at h4;have z:e.In m M R Q w:=by rw[he];exact hE.ins _ (ZF hlt)
  have HE:Zm (X3 m F x.tm (E.map Th.val) i c Yn e.val c/\e.In m M R (fun b=>Q b/\b≠w.heap.size+1+1+1) W1):=by
   have hs:(E.map Th.val)[x.tm.n.toNat]?=Za e.val:=by rw[o,List.getElem?_map,ZM hlt,he];rfl
   refine⟨⟨Fk (by rw[TT.mc];exact k) hs,fun hm _=>?_⟩,(z.mono (Q':=fun b=>Q b/\b≠w.heap.size+1+1+1) fun x h1 h2=>⟨h2,by omega⟩).same (XR.la d)⟩;obtain⟨G,hG,a6⟩:=y hm;obtain⟨ps,_,_,hr⟩:=Jz hG;rw[TT.mc,k] at hr;rcases hr with⟨_,_,hg⟩|⟨g,_⟩|⟨g,_⟩|⟨g,_⟩|⟨g,_⟩|⟨g,_⟩|⟨g,_⟩|⟨g,_⟩|⟨g,_⟩|⟨g,_⟩<;>first|omega|skip
   obtain⟨v,hv,a7⟩:=E9 a6 hg;rw[hs] at hv;rw[Zw hv];exact a7
  have HO:Zm (JG m i e):=fun hm=>by
   obtain⟨hG,a5⟩:=l hm;obtain⟨ps,_,_,hr⟩:=Jz hG;rw[TT.mc,k] at hr;rcases hr with⟨_,_,hg⟩|⟨g,_⟩|⟨g,_⟩|⟨g,_⟩|⟨g,_⟩|⟨g,_⟩|⟨g,_⟩|⟨g,_⟩|⟨g,_⟩|⟨g,_⟩<;>first|omega|skip
   rw[o,List.getElem?_map,ZM hlt,<-he] at hg;exact⟨a5 e (by rw[he];exact ZF hlt),Zw hg⟩
  obtain⟨d0,d1,d2,d3⟩:=h4;replace d0:=Zz d d0;replace d1:=Zz d d1;replace d2:=Zz d d2;replace d3:=Zz d d3;have p:=z.one;have a8:∀(a:Zr)(m:ZB)(W:Zf),(Zv a e.fn m).run N W=Zt N W a e.fn m:=fun a m W=>Yx p;have i1:(j:Int)<(E.length:Int):=by omega
  have i2:(0:Int)<=(j:Int):=by omega
  obtain⟨c0,c1,_,_,_,_,_,_⟩:=u;replace c1:cL W1 R 1 (I J 0):=c1;obtain⟨w0,⟨x0,x1,x2,x3,x4,x5,x6⟩,q,⟨r0,r1,r2,r3,y0,y1,y2,y3⟩⟩:=hB;simp only[Zh] at x1 x2 x3 x4 x5 x6;rw[k] at x0;rw[hj] at x1;rw[hea] at q;clear k hE y l hw d r z he p a4 a1 o hj hea;go_enter ZG,ZD;go_upto_region 1 with fail;unfold QI at h;rw[<-h];clear h;go_wp2_with fail;have a0:=Uv (Q:=Q) HB.out.1.r (by omega) a3 (Yi.la HB.out.2.1) HB.out.2.2 HE.out.2 (fun x hx=>hx);obtain⟨⟨q,e1,e2,e3⟩,k,hW,hi⟩:=a0;refine Zj (v:=e.ag) ?_ rfl ⟨k,Yn,_,c,HE.out.1,Zg _,hc,hW,.inr ⟨rfl,_,rfl,hi,rfl,HO.out⟩⟩;simp[results,Zs,go_sem,Th.ag,q,e1,e2,e3]
 .have HE:Zm (X3 m F x.tm (E.map Th.val) i c Yw (XP 0) c):=⟨Wy (by rw[TT.mc];exact k) (by rw[o];simp;omega),fun _ h0=>by cases h0⟩
  have i1:¬((j:Int)<(E.length:Int)):=by omega
  have i3:(E.length:Int)<=(j:Int):=by omega
  obtain⟨c0,c1,_,_,_,_,_,_⟩:=u;replace c1:cL W1 R 1 (I J 0):=c1;obtain⟨w0,⟨x0,x1,x2,x3,x4,x5,x6⟩,q,⟨r0,r1,r2,r3,y0,y1,y2,y3⟩⟩:=hB;simp only[Zh] at x1 x2 x3 x4 x5 x6;rw[k] at x0;rw[hj] at x1;clear k hE y l hw d r a4 a1 o hj;go_enter ZG,ZD;go_upto_region 1 with fail;unfold QI at h;rw[<-h];clear h;go_wp2_with (go_at_call 94;refine(UV R (F-c) _ HB.out.2.2).mono ?_;rintro e w2 ⟨rfl,a2,h2⟩;simp only[Uf];have HF:Zm (Wl R (F-c) Yw w2/\Yi R L W1 w2/\Rb w2 (w.heap.size+1+1+1)):=⟨a2,h2,(HB.out.1.kept h2 a3).r⟩;clear a2 h2 c0 c1 w0 x0 x1 x2 x3 x4 x5 x6 q r0 r1 r2 r3 y0 y1 y2 y3;obtain⟨r0,r1,r2,r3,y0,y1,y2,y3⟩:=HF.out.2.2)
  obtain⟨⟨q,e1,e2,e3⟩,k⟩:=HF.out.2.2.set (I J 0) (I J 0) .nilFunc (I J 0);refine Zj (v:=Uf) ?_ rfl ⟨((Yi.la HB.out.2.1).trans HF.out.2.1).new k (by omega),Yw,_,c,HE.out,Zg _,hc,HF.out.1.same k (by omega),.inl ⟨by decide,rfl⟩⟩;simp[results,Zs,go_sem,Uf,q,e1,e2,e3]
theorem EH(m:Bool)(M R F c:Nat)(Q:Nat->Prop)(x y:TT)(E:List Th)(i:Ty)(ea:Option Zr)(ec:Nat)(w:Zf)(j:x.k=9)(hy:x.l=[y])(hx:x.In w)(a6:x.Bl Q)(hE:Qt m M R Q w ea E)(hw:Wl R (F-c) Yn w)(hQ:¬Q R)(nw:∀b,w.heap.size<=b->Q b)
  (ih:Zm (∀(Q':Nat->Prop)(W:Zf),y.In W->y.Bl Q'->Qt m M R Q' W ea E->Wl R (F-c) Yn W->¬Q' R->(∀b,W.heap.size<=b->Q' b)->Zn N 59 #[O (Za ⟨R,0,L⟩),Zk #[I J y.k,I J y.n,I J y.t.k,Zd y.t.a y.t.l.length y.t.c,I J y.f.k,Zd y.f.a y.f.l.length y.f.c,Zd y.a y.l.length y.c],Zd ea E.length ec] W (Xn m M R F c Q' W i (X3 m F y.tm (E.map Th.val) i c)))) :
  Zn N 59 #[O (Za ⟨R,0,L⟩),Zk #[I J x.k,I J x.n,I J x.t.k,Zd x.t.a x.t.l.length x.t.c,I J x.f.k,Zd x.f.a x.f.l.length x.f.c,Zd x.a x.l.length x.c],Zd ea E.length ec] w (Xn m M R F c Q w i (X3 m F x.tm (E.map Th.val) i c)):=by
 have ae:=hw.lt;obtain⟨W1,a1⟩:∃W,W=QI R x ea E.length ec w:=⟨_,rfl⟩
 obtain⟨hB,a0,ac⟩:=KE R x ea E.length ec w;rw[<-a1] at hB a0 ac;have ad:=hw.below a0;have HB:=LL hB a0 ad;obtain⟨k,o,aa,g,a2⟩:=hx.part 0 (by rw[hy];simp);have af:x.l[0]'(by rw[hy];simp)=y:=by simp[hy]
 rw[af] at g a2;simp only[ZS,ZT] at g;have ah:x.l.length=1:=by rw[hy];rfl
 have l:Q k:=a6.own (by rw[hy];simp) _ aa;have a4:y.Bl Q:=a6.mem (by rw[hy];simp);have a3:∀W,Yi R L W1 W->XR Q w W:=fun W j b hb hq=>by have hs:=a0.size;rw[j.block b (by omega) (fun e=>hQ (e▸hq)) (by simp)];exact a0.block b hb
 have HK:Zm (∀W,SK R (w.heap.size+1+1+1) W1 W->cL W w.heap.size 0 (O (Za ⟨R,0,L⟩))/\cL W (w.heap.size+1) 6 (Zd (Za ⟨k,o,L⟩) 1 x.c)/\cL W k o (I J y.k)/\cL W k (o+1) (I J y.n)/\cL W k (o+2) (I J y.t.k)/\cL W k (o+3) (y.t.s)/\cL W k (o+4) (I J y.f.k)/\cL W k (o+5) (y.f.s)/\cL W k (o+6) (y.s)/\cL W (w.heap.size+1+1) 0 (Zd ea E.length ec)):=fun W j=>by have p:∀b i u,cL w b i u->Q b->cL W b i u:=fun b i u e hb=>j b i u ((a3 W1 Yi.refl).cell e hb) (fun e=>hQ (e▸hb)) (by have:b<w.heap.size:=Zi _ _ e;omega);have ak:=hB.x7.c6;rw[aa,ah] at ak;exact⟨j _ _ _ hB.w0 (by omega) (by omega),j _ _ _ ak (by omega) (by omega),p _ _ _ g.c0 l,p _ _ _ g.c1 l,p _ _ _ g.c2 l,p _ _ _ g.c3 l,p _ _ _ g.c4 l,p _ _ _ g.c5 l,p _ _ _ g.c6 l,j _ _ _ hB.e0 (by omega) (by omega)⟩
 have HI:Zm (∀W,Yi R L W1 W->Wl R (F-c) Yn W->Zn N 59 #[O (Za ⟨R,0,L⟩),Zk y.v,Zd ea E.length ec] W (Xn m M R F c (fun b=>Q b/\b≠w.heap.size+1+1+1) W i (X3 m F y.tm (E.map Th.val) i c))):=fun W j ao=>by have ar:=j.size;exact ih.out (fun b=>Q b/\b≠w.heap.size+1+1+1) W (a2.same (a3 W j) a4) ((a4.and a2.bl).mono fun b hb=>⟨hb.1,by omega⟩) ((hE.mono (Q':=(fun b=>Q b/\b≠w.heap.size+1+1+1)) fun x h1 h2=>⟨h2,by omega⟩).same fun b h1 h2=>a3 W j b h1 h2.1) ao (fun hx=>hQ hx.1) (fun b hb=>⟨nw b (by omega),by omega⟩)
 have HE:Zm (∀r V c',X3 m F y.tm (E.map Th.val) i c r V c'->X3 m F x.tm (E.map Th.val) i c r V c'):=fun r V c' h=>by
  have e:x.tm.at 0=y.tm:=by rw[Tm.at,TT.mq,hy];rfl
  exact⟨FP (by rw[TT.mc];exact j) (by rw[e];exact h.1),h.2⟩
 have i0:(0:Int)<((1:Nat):Int):=by omega
 obtain⟨c0,c1,_,_,_,_,_,_⟩:=ad;replace c1:cL W1 R 1 (I J 0):=c1;obtain⟨w0,⟨x0,x1,x2,x3,x4,x5,x6⟩,e0,⟨r0,r1,r2,r3,y0,y1,y2,y3⟩⟩:=hB;simp only[Zh] at x1 x2 x3 x4 x5 x6;rw[j] at x0;have a9:Yi R L W1 W1.drew:=Yi.la ((Ze _ _).drew);have ai:Wl R (F-c) Yn W1.drew:=HB.out.2.2.below ((Ze _ _).drew);clear j hx a6 hE hw nw a0 ac a3 a2 a4 ah g aa l af hy hQ ih;go_enter ZG,ZD;go_upto_region 1 with fail;unfold QI at a1;rw[<-a1];clear a1;go_upto_region 14 with fail;clear x0 x1 x2 x3 x4 x5 x6 e0 r0 r1 r2 r3 y0 y1 y2 y3 c0 c1 w0;refine Zu (S:=fun W=>cL W w.heap.size 0 (O (Za ⟨R,0,L⟩))/\cL W (w.heap.size+1) 6 (Zd (Za ⟨k,o,L⟩) 1 x.c)/\cL W k o (I J y.k)/\cL W k (o+1) (I J y.n)/\cL W k (o+2) (I J y.t.k)/\cL W k (o+3) (y.t.s)/\cL W k (o+4) (I J y.f.k)/\cL W k (o+5) (y.f.s)/\cL W k (o+6) (y.s)/\cL W (w.heap.size+1+1) 0 (Zd ea E.length ec)) (by kernel_rfl) (HK.out _ ((SK.refl _ _ _).kept a9)) (fun d=>?_);refine qk 0 (v:=?_) rfl (by kernel_rfl) (fun _ _ _ h=>h) (by rfl) d ?_ ?_;rotate_left;(focus (intro w' h;go_split_ands;go_simp;try with_reducible rfl));simp only[Zb,C,D,H];refine qk 1 (v:=?_) rfl (by kernel_rfl) (fun _ _ _ h=>h) (by rfl) d ?_ ?_;rotate_left;(focus (intro w' h;go_split_ands;go_simp;try with_reducible rfl));simp only[Zb,C,D,H];refine qk 2 (v:=?_) rfl (by kernel_rfl) (fun _ _ _ h=>h) (by rfl) d ?_ ?_;rotate_left;(focus (intro w' h;go_split_ands;go_simp;try with_reducible rfl));simp only[Zb,C,D,H];refine qk 3 (v:=?_) rfl (by kernel_rfl) (fun _ _ _ h=>h) (by rfl) d ?_ ?_;rotate_left;(focus (intro w' h;go_split_ands;go_simp;try with_reducible rfl));simp only[Zb,C,D,H];refine qk 4 (v:=?_) rfl (by kernel_rfl) (fun _ _ _ h=>h) (by rfl) d ?_ ?_;rotate_left;(focus (intro w' h;go_split_ands;go_simp;try with_reducible rfl));simp only[Zb,C,D,H];refine qk 5 (v:=?_) rfl (by kernel_rfl) (fun _ _ _ h=>h) (by rfl) d ?_ ?_;rotate_left;(focus (intro w' h;go_split_ands;go_simp;try with_reducible rfl));simp only[Zb,C,D,H];refine YT (i:=6) rfl (by kernel_rfl) (fun K hK=>?_);go_simp;refine(HI.out _ a9 ai).mono ?_;rintro e w5 ⟨ab,r,V,c',hS,am,aj,al,a7⟩;have a8:=a9.trans ab;have HF:Zm (Yi R L W1 w5/\Wl R (F-c') r w5/\Rb w5 (w.heap.size+1+1+1)/\X3 m F x.tm (E.map Th.val) i c r V c'):=⟨a8,al,(HB.out.1.kept a8 ae).r,HE.out _ _ _ hS⟩
 have q:SK R (w.heap.size+1+1+1) W1 w5:=(SK.refl _ _ _).kept a8;obtain⟨r0,r1,r2,r3,y0,y1,y2,y3⟩:=HF.out.2.2.1;clear hS al ab HI;rcases a7 with⟨hr,rfl⟩|⟨rfl,z,rfl,a5,an⟩
 .simp only[Uf];refine hK.out _ _ (HK.out _ q) (fun d=>?_);clear hK K;(try simp only[Zb,C,D,H])
  refine YT (i:=7) rfl (by kernel_rfl) (fun K hK=>?_);go_simp;refine hK.out _ _ (HK.out _ ((((q.set _ _).set _ _).set _ _).set _ _)) (fun d=>?_);clear hK K;(try simp only[Zb,C,D,H])
  refine Zq (by kernel_rfl) ?_ _;clear d;go_wp2_with fail;obtain⟨⟨e0,e1,e2,e3⟩,j⟩:=HF.out.2.2.1.set (I J 0) (I J 0) .nilFunc (I J 0);refine Zj (v:=Uf) ?_ rfl ⟨((Yi.la HB.out.2.1).trans HF.out.1).new j (by omega),r,V,c',HF.out.2.2.2,am,aj,HF.out.2.1.same j (by omega),.inl ⟨hr,rfl⟩⟩;simp[results,Zs,go_sem,Uf,e0,e1,e2,e3]
 .have hone:=a5.one;have aq:∀(a:Zr)(m:ZB)(W:Zf),(Zv a z.fn m).run N W=Zt N W a z.fn m:=fun a m W=>Yx hone;have ap:Zm _:=Uv (Q:=Q) (h:=z) HF.out.2.2.1 (by omega) ae ((Yi.la HB.out.2.1).trans HF.out.1) HF.out.2.1 a5 (fun x hx=>hx);clear a5 hone;simp only[Th.ag];refine hK.out _ _ (HK.out _ q) (fun d=>?_);clear hK K;(try simp only[Zb,C,D,H])
  refine YT (i:=7) rfl (by kernel_rfl) (fun K hK=>?_);go_simp;refine hK.out _ _ (HK.out _ ((((q.set _ _).set _ _).set _ _).set _ _)) (fun d=>?_);clear hK K;(try simp only[Zb,C,D,H])
  refine Zq (by kernel_rfl) ?_ _;clear d;go_wp2_with fail;obtain⟨⟨e0,e1,e2,e3⟩,j,hW,hi⟩:=ap.out;refine Zj (v:=z.ag) ?_ rfl ⟨j,Yn,V,c',HF.out.2.2.2,am,aj,hW,.inr ⟨rfl,z,rfl,hi,an⟩⟩;simp[results,Zs,go_sem,Th.ag,e0,e1,e2,e3]
theorem BJ(M R F c:Nat)(Q:Nat->Prop)(x y:TT)(E:List Th)(ea:Option Zr)(ec:Nat)(w:Zf)(hk:x.k=10)(hy:x.l=[y])(hx:x.In w)(ac:x.Bl Q)(hE:Qt Zc M R Q w ea E)(az:Ym 46 x.f.ty=Zc)(b2:Ym 46 x.t.ty=Zc)(ak:YD Yl x.f.ty x.t.ty=Zc)(hw:Wl R (F-c) Yn w)(hQ:¬Q R)(nw:∀b,w.heap.size<=b->Q b)(ih:EW Zc M R F c y E x.f.ty ea ec):
  Zn N 59 #[O (Za ⟨R,0,L⟩),Zk #[I J x.k,I J x.n,I J x.t.k,Zd x.t.a x.t.l.length x.t.c,I J x.f.k,Zd x.f.a x.f.l.length x.f.c,Zd x.a x.l.length x.c],Zd ea E.length ec] w (Xn Zc M R F c Q w x.t.ty (X3 Zc F x.tm (E.map Th.val) x.t.ty c)):=by
 have af:=hw.lt;obtain⟨W1,ap⟩:∃W,W=QI R x ea E.length ec w:=⟨_,rfl⟩
 obtain⟨hB,ah,b9⟩:=KE R x ea E.length ec w;rw[<-ap] at hB ah b9;have b4:=hw.below ah;have HB:=LL hB ah b4;have b5:x.l.length=1:=by rw[hy];rfl
 obtain⟨bx,ox,ao⟩:∃bx ox,x.a=Za ⟨bx,ox,L⟩:=by obtain⟨b,o,e,_⟩:=hx.part 0 (by omega);exact⟨b,o,e⟩
 have a9:Q bx:=ac.own (by rw[hy];simp) _ ao;have ae:∀W,Yi R L W1 W->XR Q w W:=fun W hk b hb hq=>by have hs:=ah.size;rw[hk.block b (by omega) (fun e=>hQ (e▸hq)) (by simp)];exact ah.block b hb
 have bg:w.heap.size+1+1+1+1<=W1.heap.size:=by omega
 obtain⟨a8,b0⟩:Uz w bx (ox) y/\y.In w:=by
  obtain⟨b',o',e',h7,hi⟩:=hx.part 0 (by omega);rw[ao] at e';obtain⟨rfl,rfl⟩:bx=b'/\ox=o':=by simpa using e'
  exact⟨by simpa[hy] using h7,by simpa[hy] using hi⟩
 have b1:y.Bl Q:=ac.mem (by rw[hy];simp);have HK:Zm (∀W,Yi R L W1 W->cL W w.heap.size 0 (O (Za ⟨R,0,L⟩))/\cL W (w.heap.size+1) 6 (Zd (Za ⟨bx,ox,L⟩) 1 x.c)/\cL W bx ox (I J y.k)/\cL W bx (ox+1) (I J y.n)/\cL W bx (ox+2) (I J y.t.k)/\cL W bx (ox+3) (y.t.s)/\cL W bx (ox+4) (I J y.f.k)/\cL W bx (ox+5) (y.f.s)/\cL W bx (ox+6) (y.s)/\cL W (w.heap.size+1+1) 0 (Zd ea E.length ec)):=fun W hk=>by have ad:∀b i u,cL w b i u->Q b->cL W b i u:=fun b i u e hb=>(ae W hk).cell e hb;have b6:=hB.x7.c6;rw[ao,b5] at b6;exact⟨hk.cell hB.w0 (by omega),hk.cell b6 (by omega),ad _ _ _ a8.c0 a9,ad _ _ _ a8.c1 a9,ad _ _ _ a8.c2 a9,ad _ _ _ a8.c3 a9,ad _ _ _ a8.c4 a9,ad _ _ _ a8.c5 a9,ad _ _ _ a8.c6 a9,hk.cell hB.e0 (by omega)⟩
 have HI:Zm (∀(z:Nat)(W:Zf),Yi R L W1 W->Wl R (F-c) Yn W->w.heap.size<=z->z<W.heap.size->Zn N 59 #[O (Za ⟨R,0,L⟩),Zk y.v,Zd ea E.length ec] W (Xn Zc M R F c (fun b=>Q b/\b≠w.heap.size+1+1+1/\b≠z) W x.f.ty (X3 Zc F y.tm (E.map Th.val) x.f.ty c))):=fun z W hk bc bm bk=>by have bi:=hk.size;exact ih (fun b=>Q b/\b≠w.heap.size+1+1+1/\b≠z) W (b0.same (ae W hk) b1) ((b1.and b0.bl).mono fun b hb=>⟨hb.1,by omega,by omega⟩) ((hE.mono (Q':=(fun b=>Q b/\b≠w.heap.size+1+1+1/\b≠z)) fun x h1 h2=>⟨h2,by omega,by omega⟩).same fun b h1 h2=>ae W hk b h1 h2.1) bc (fun hx=>hQ hx.1) (fun b hb=>⟨nw b (by omega),by omega,by omega⟩)
 have ay:x.tm.at 0=y.tm:=by rw[Tm.at,TT.mq,hy];rfl
 have HX:Zm (∀W,Yi R L W1 W->x.f.In W/\x.t.In W):=fun W hk=>⟨hx.f.same (ae W hk) ac.f,hx.t.same (ae W hk) ac.t⟩
 have au:Zm (x.f.Bl (fun x=>Q x/\x≠w.heap.size+1+1+1)/\x.t.Bl (fun x=>Q x/\x≠w.heap.size+1+1+1)/\¬Q R/\(∀b,w.heap.size<=b->Q b)):=⟨(ac.f.and hx.f.bl).mono fun b hb=>⟨hb.1,by omega⟩,(ac.t.and hx.t.bl).mono fun b hb=>⟨hb.1,by omega⟩,hQ,nw⟩
 have HG:=LL az b2 ak;have bb:Zm (∀r V c',X3 Zc F y.tm (E.map Th.val) x.f.ty c r V c'->r.k≠0->X3 Zc F x.tm (E.map Th.val) x.t.ty c r V c'):=fun r V c' h hr=>⟨TY (by rw[TT.mc];exact hk) (by rw[ay];exact h.1) hr,fun _ h0=>absurd h0 hr⟩
 have bf:Zm (∀V c',X3 Zc F y.tm (E.map Th.val) x.f.ty c Yn V c'->X3 Zc F x.tm (E.map Th.val) x.t.ty c (Xk (Yq x.f.ty x.t.ty ⟨4,x.n,Zo⟩) V).1 (Xk (Yq x.f.ty x.t.ty ⟨4,x.n,Zo⟩) V).2 c'):=fun V c' h=>by have h1:=EI (x:=x.tm) (by rw[TT.mc];exact hk) (by rw[ay];exact h.1) rfl;rw[TT.pj,TT.qd,TT.nu] at h1;exact⟨h1,fun hm h0=>(WG (Kq az b2 ak rfl) (h.2 hm rfl)).1 h0⟩
 have i0:(0:Int)<((1:Nat):Int):=by omega
 obtain⟨c0,c1,_,_,_,_,_,_⟩:=b4;replace c1:cL W1 R 1 (I J 0):=c1;obtain⟨w0,⟨x0,x1,x2,x3,x4,x5,x6⟩,e0,⟨r0,r1,r2,r3,y0,y1,y2,y3⟩⟩:=hB;simp only[Zh] at x1 x2 x3 x4 x5 x6;rw[hk] at x0;have an:Yi R L W1 W1.drew:=Yi.la ((Ze _ _).drew);have av:Wl R (F-c) Yn W1.drew:=HB.out.2.2.below ((Ze _ _).drew);clear hk hx ac hE hw nw ah b9 ae a8 b0 b1 b5 ao a9 hy hQ ih az b2 ak ay;go_enter ZG,ZD;go_upto_region 1 with fail;unfold QI at ap;rw[<-ap];clear ap;go_upto_region 16 with fail;clear x0 x1 x2 x3 x4 x5 x6 e0 r0 r1 r2 r3 y0 y1 y2 y3 c0 c1 w0;go_cut [7] (fun ts wx=>∃bs:Nat,ts=O (Za ⟨bs,0,L⟩)/\Zm (Jf Zc M R F c Q w W1 y E x.f.ty bs wx))
 case first=>
  refine Zu (S:=fun W=>cL W w.heap.size 0 (O (Za ⟨R,0,L⟩))/\cL W (w.heap.size+1) 6 (Zd (Za ⟨bx,ox,L⟩) 1 x.c)/\cL W bx ox (I J y.k)/\cL W bx (ox+1) (I J y.n)/\cL W bx (ox+2) (I J y.t.k)/\cL W bx (ox+3) (y.t.s)/\cL W bx (ox+4) (I J y.f.k)/\cL W bx (ox+5) (y.f.s)/\cL W bx (ox+6) (y.s)/\cL W (w.heap.size+1+1) 0 (Zd ea E.length ec)) (by kernel_rfl) (HK.out _ an) (fun d=>?_);refine qk 0 (v:=?_) rfl (by kernel_rfl) (fun _ _ _ h=>h) (by rfl) d ?_ ?_;rotate_left;(focus (intro w' h;go_split_ands;go_simp;try with_reducible rfl));simp only[Zb,C,D,H];refine qk 1 (v:=?_) rfl (by kernel_rfl) (fun _ _ _ h=>h) (by rfl) d ?_ ?_;rotate_left;(focus (intro w' h;go_split_ands;go_simp;try with_reducible rfl));simp only[Zb,C,D,H];refine qk 2 (v:=?_) rfl (by kernel_rfl) (fun _ _ _ h=>h) (by rfl) d ?_ ?_;rotate_left;(focus (intro w' h;go_split_ands;go_simp;try with_reducible rfl));simp only[Zb,C,D,H];refine qk 3 (v:=?_) rfl (by kernel_rfl) (fun _ _ _ h=>h) (by rfl) d ?_ ?_;rotate_left;(focus (intro w' h;go_split_ands;go_simp;try with_reducible rfl));simp only[Zb,C,D,H];refine qk 4 (v:=?_) rfl (by kernel_rfl) (fun _ _ _ h=>h) (by rfl) d ?_ ?_;rotate_left;(focus (intro w' h;go_split_ands;go_simp;try with_reducible rfl));simp only[Zb,C,D,H];refine qk 5 (v:=?_) rfl (by kernel_rfl) (fun _ _ _ h=>h) (by rfl) d ?_ ?_;rotate_left;(focus (intro w' h;go_split_ands;go_simp;try with_reducible rfl));simp only[Zb,C,D,H];refine Pk (i:=6) (j:=7) rfl rfl (by kernel_rfl) (fun K l=>?_) (fun K l=>?_)
  .go_simp;refine(HI.out w.heap.size _ an av (Zg _) (by show _<W1.heap.size;omega)).mono ?_;rintro e w2 ⟨h2,rr,VV,cc,a6,q,p,a3,a1⟩;have k:=an.trans h2;have bh:=k.size;rcases a1 with⟨hr,rfl⟩|⟨rfl,z,rfl,a0,a4⟩
   .have a7:bL w2 (w2.alloc (Zl #[I J 0,I J 0,.nilFunc,I J 0] 103)):=(Ze _ _).alloc (Zg _) _;have HN:Zm (Jf Zc M R F c Q w W1 y E x.f.ty w2.heap.size (w2.alloc (Zl #[I J 0,I J 0,.nilFunc,I J 0] 103))):=⟨by omega,k.trans (Yi.la a7),rr,VV,cc,a6,q,p,a3.below a7,.inl hr⟩
    clear hr a6;simp only[Uf];refine l.out _ _ (HK.out _ k) (fun d=>?_);clear l K;(try simp only[Zb,C,D,H])
    refine YT (i:=7) rfl (by kernel_rfl) (fun K l=>?_);go_simp;refine l.out _ _ (HK.out _ (k.trans (Yi.la ((Ze _ _).alloc (Zg _) _)))) (fun d=>?_);clear l K;(try simp only[Zb,C,D,H])
    refine YT (i:=8) rfl (by kernel_rfl) (fun K l=>?_);go_simp;refine l.out _ _ (HK.out _ (k.trans (Yi.la a7))) (fun d=>?_);clear l K;(try simp only[Zb,C,D,H])
    refine Zq (by kernel_rfl) ?_ _;clear d q p a3;go_wp2_with fail;go_meet
    case rel=>exact⟨_,rfl,HN⟩
   .have hone:=a0.one;have ax:∀(a:Zr)(m:ZB)(W:Zf),(Zv a z.fn m).run N W=Zt N W a z.fn m:=fun a m W=>Yx hone;have a7:bL w2 (w2.alloc (Zl z.v 103)):=(Ze _ _).alloc (Zg _) _;have HN:Zm (Jf Zc M R F c Q w W1 y E x.f.ty w2.heap.size (w2.alloc (Zl z.v 103))):=⟨by omega,k.trans (Yi.la a7),Yn,VV,cc,a6,q,p,a3.below a7,.inr ⟨rfl,z,⟨by simp[go_sem],by simp[go_sem],by simp[go_sem],by simp[go_sem]⟩,(a0.same (XR.la a7)).mono (fun x _ hx=>⟨hx.1,hx.2.1⟩),a4⟩⟩
    clear a6 a0 a4 hone;simp only[Th.ag];refine l.out _ _ (HK.out _ k) (fun d=>?_);clear l K;(try simp only[Zb,C,D,H])
    refine YT (i:=7) rfl (by kernel_rfl) (fun K l=>?_);go_simp;refine l.out _ _ (HK.out _ (k.trans (Yi.la ((Ze _ _).alloc (Zg _) _)))) (fun d=>?_);clear l K;(try simp only[Zb,C,D,H])
    refine YT (i:=8) rfl (by kernel_rfl) (fun K l=>?_);go_simp;refine l.out _ _ (HK.out _ (k.trans (Yi.la a7))) (fun d=>?_);clear l K;(try simp only[Zb,C,D,H])
    refine Zq (by kernel_rfl) ?_ _;clear d q p a3;go_wp2_with fail;go_meet
    case rel=>exact⟨_,rfl,HN⟩
  .go_simp;have b3:Yi R L W1 (W1.alloc (Zl #[I J 0,I J 0,.nilFunc,I J 0] 103)).drew:=Yi.la (((Ze _ _).alloc (Zg _) _).drew);refine l.out _ _ (HK.out _ b3) (fun d=>?_);clear l K;(try simp only[Zb,C,D,H])
   refine YT (i:=6) rfl (by kernel_rfl) (fun K l=>?_);go_simp;refine(HI.out W1.heap.size _ b3 (HB.out.2.2.below (((Ze _ _).alloc (Zg _) _).drew)) (by omega) (by show _<(W1.alloc (Zl #[I J 0,I J 0,.nilFunc,I J 0] 103)).heap.size;simp)).mono ?_;rintro e w2 ⟨h2,rr,VV,cc,a6,q,p,a3,a1⟩;have k:=b3.trans h2;have q9:Rb w2 W1.heap.size:=((Rb.new W1).below ((Ze _ _).drew)).kept h2 (by omega);rcases a1 with⟨hr,rfl⟩|⟨rfl,z,rfl,a0,a4⟩
   .obtain⟨⟨g0,g1,g2,g3⟩,a2⟩:=q9.set (I J 0) (I J 0) .nilFunc (I J 0);have HN:Zm (Jf Zc M R F c Q w W1 y E x.f.ty W1.heap.size ((((w2.setCell ⟨W1.heap.size,0,L⟩ (I J 0)).setCell ⟨W1.heap.size,1,L⟩ (I J 0)).setCell ⟨W1.heap.size,2,L⟩ .nilFunc).setCell ⟨W1.heap.size,3,L⟩ (I J 0))):=⟨by omega,k.new a2 (Zg _),rr,VV,cc,a6,q,p,a3.same a2 (by omega),.inl hr⟩
    have aj:=k.new a2 (Zg _);clear hr a6;simp only[Uf];obtain⟨p0,p1,p2,p3,x0,x1,x2,x3⟩:=q9;clear g0 g1 g2 g3 a2;refine l.out _ _ (HK.out _ k) (fun d=>?_);clear l K;(try simp only[Zb,C,D,H])
    refine YT (i:=8) rfl (by kernel_rfl) (fun K l=>?_);go_simp;refine l.out _ _ (HK.out _ aj) (fun d=>?_);clear l K;(try simp only[Zb,C,D,H])
    refine Zq (by kernel_rfl) ?_ _;obtain⟨V9,ab⟩:∃V9,V9=(((w2.setCell ⟨W1.heap.size,0,L⟩ (I J 0)).setCell ⟨W1.heap.size,1,L⟩ (I J 0)).setCell ⟨W1.heap.size,2,L⟩ .nilFunc).setCell ⟨W1.heap.size,3,L⟩ (I J 0):=⟨_,rfl⟩
    rw[<-ab] at HN;rw[<-ab];clear ab d aj p0 p1 p2 p3 x0 x1 x2 x3 a3 k h2 q p;go_wp2_with fail;go_meet
    case rel=>exact⟨_,rfl,HN⟩
   .have hone:=a0.one;have ax:∀(a:Zr)(m:ZB)(W:Zf),(Zv a z.fn m).run N W=Zt N W a z.fn m:=fun a m W=>Yx hone;obtain⟨⟨g0,g1,g2,g3⟩,a2⟩:=q9.set (I J z.k) (I J z.n) z.fn (I J z.tag);have HN:Zm (Jf Zc M R F c Q w W1 y E x.f.ty W1.heap.size ((((w2.setCell ⟨W1.heap.size,0,L⟩ (I J z.k)).setCell ⟨W1.heap.size,1,L⟩ (I J z.n)).setCell ⟨W1.heap.size,2,L⟩ z.fn).setCell ⟨W1.heap.size,3,L⟩ (I J z.tag))):=⟨by omega,k.new a2 (Zg _),Yn,VV,cc,a6,q,p,a3.same a2 (by omega),.inr ⟨rfl,z,⟨g0,g1,g2,g3⟩,(a0.same (XR.mb a2 fun hx=>hx.2.2 rfl)).mono (fun x _ hx=>⟨hx.1,hx.2.1⟩),a4⟩⟩
    have aj:=k.new a2 (Zg _);clear a6 a0 a4 hone;simp only[Th.ag];obtain⟨p0,p1,p2,p3,x0,x1,x2,x3⟩:=q9;clear g0 g1 g2 g3 a2;refine l.out _ _ (HK.out _ k) (fun d=>?_);clear l K;(try simp only[Zb,C,D,H])
    refine YT (i:=8) rfl (by kernel_rfl) (fun K l=>?_);go_simp;refine l.out _ _ (HK.out _ aj) (fun d=>?_);clear l K;(try simp only[Zb,C,D,H])
    refine Zq (by kernel_rfl) ?_ _;obtain⟨V9,ab⟩:∃V9,V9=(((w2.setCell ⟨W1.heap.size,0,L⟩ (I J z.k)).setCell ⟨W1.heap.size,1,L⟩ (I J z.n)).setCell ⟨W1.heap.size,2,L⟩ z.fn).setCell ⟨W1.heap.size,3,L⟩ (I J z.tag):=⟨_,rfl⟩
    rw[<-ab] at HN;rw[<-ab];clear ab d aj p0 p1 p2 p3 x0 x1 x2 x3 a3 k h2 q p;go_wp2_with fail;go_meet
    case rel=>exact⟨_,rfl,HN⟩
 case rest=>
 obtain⟨b7,rfl,HP⟩:=hcut;obtain⟨ba,a5,r,V,c',hS,al,ai,aq,a1⟩:=HP.out;clear HP HI an av;have bd:=HB.out.1.kept a5 af;obtain⟨w0,⟨x0,x1,x2,x3,x4,x5,x6⟩,e0,ar⟩:=bd;simp only[Zh] at x1 x2 x3 x4 x5 x6;have bj:b7≠R:=by omega
 rcases a1 with hr|⟨rfl,z,be,a0,a4,am⟩
 .have hgk:(r.k != 0)=Zc:=by simpa using hr
  have HF:Zm (Yi R L W1 wc/\Wl R (F-c') r wc/\Rb wc (w.heap.size+1+1+1)/\X3 Zc F x.tm (E.map Th.val) x.t.ty c r V c'/\c<=c'/\c'<=F/\r.k≠0):=⟨a5,aq,ar,bb.out _ _ _ hS hr,al,ai,hr⟩
  obtain⟨c0,c1,_,_,_,_,_,_⟩:=aq;obtain⟨r0,r1,r2,r3,y0,y1,y2,y3⟩:=ar;clear a5 hS hr al ai;apply_assumption;go_wp2_with fail;obtain⟨⟨e0,e1,e2,e3⟩,hk⟩:=HF.out.2.2.1.set (I J 0) (I J 0) .nilFunc (I J 0);refine Zj (v:=Uf) ?_ rfl ⟨((Yi.la HB.out.2.1).trans HF.out.1).new hk (by omega),r,V,c',HF.out.2.2.2.1,HF.out.2.2.2.2.1,HF.out.2.2.2.2.2.1,HF.out.2.1.same hk (by omega),.inl ⟨HF.out.2.2.2.2.2.2,rfl⟩⟩;simp[results,Zs,go_sem,Uf,e0,e1,e2,e3]
 .have hzt:UJ z.val x.f.ty:=(am rfl).2▸(a0.qz (am rfl).1).2;have aw:=a5.size;have aa:Zm (Zn N 97 #[O (Za ⟨R,0,L⟩),Zk z.v,Zk x.f.v,Zk x.t.v,I J x.n,.bool Zo] wc (LY M R (F-c') (fun x=>Q x/\x≠w.heap.size+1+1+1) wc (Xk (Yq x.f.ty x.t.ty ⟨4,x.n,Zo⟩) z.val) (BY z x.f x.t))):=MG M R (F-c') (fun x=>Q x/\x≠w.heap.size+1+1+1) z x.f x.t x.n Zo wc a0 (HX.out _ a5).1 (HX.out _ a5).2 HG.out.1 HG.out.2.1 HG.out.2.2 hzt au.out.1 au.out.2.1 aq (fun hx=>au.out.2.2.1 hx.1) (fun b hb=>⟨au.out.2.2.2 b (by omega),by omega⟩)
  have HF:Zm (Yi R L W1 wc/\X3 Zc F x.tm (E.map Th.val) x.t.ty c (Xk (Yq x.f.ty x.t.ty ⟨4,x.n,Zo⟩) z.val).1 (Xk (Yq x.f.ty x.t.ty ⟨4,x.n,Zo⟩) z.val).2 c'/\c<=c'/\c'<=F/\JG Zc x.f.ty z):=⟨a5,a4▸bf.out V c' hS,al,ai,am⟩
  obtain⟨z0,z1,z2,z3⟩:=be;simp only[Zh] at z1 z2 z3;obtain⟨c0,c1,_,_,_,_,_,_⟩:=aq;replace c1:cL wc R 1 (I J 0):=c1;obtain⟨P,hP⟩:∃P,P=Xk (Yq x.f.ty x.t.ty ⟨4,x.n,Zo⟩) z.val:=⟨_,rfl⟩
  rw[<-hP] at aa HF;by_cases hg:P.1.k=0
  .have HC:Zm (Zn N 97 #[O (Za ⟨R,0,L⟩),Zk z.v,Zk x.f.v,Zk x.t.v,I J x.n,.bool Zo] wc fun e w'=>∃g:Th,e=Zp (Zk g.v)/\Zm (Yi R L wc w'/\P.1=Yn/\Wl R (F-c') Yn w'/\g.In Zc M R (fun x=>Q x/\x≠w.heap.size+1+1+1) w'/\g.val=P.2/\JG Zc x.t.ty g)):=aa.out.mono (by
    rintro e w' ⟨h1,⟨h2,_⟩|⟨h2,h3,g,h4,h5,h6,h7⟩⟩
    .exact absurd hg h2
    .exact⟨g,h4,h1,h2,h3,h5,h6,fun _=>h7 (HF.out.2.2.2.2 rfl).1 (HF.out.2.2.2.2 rfl).2⟩)
   clear a5 hS al ai a0 a4 am hzt aa hP hg ar aw ba;apply_assumption;go_wp2_with (go_at_call 97;refine HC.out.mono ?_;rintro e w4 ⟨g,rfl,HZ⟩;have ax:∀(a:Zr)(m:ZB)(W:Zf),(Zv a g.fn m).run N W=Zt N W a g.fn m:=(fun a m W=>Yx HZ.out.2.2.2.1.one);obtain⟨r0,r1,r2,r3,y0,y1,y2,y3⟩:=(HB.out.1.kept (HF.out.1.trans HZ.out.1) af).r;clear w0 x0 x1 x2 x3 x4 x5 x6 e0 z0 z1 z2 z3 c0 c1)
   obtain⟨k1,k2,k3,k4,k5,k6⟩:=HZ.out;have b8:=Uv (m:=Zc) (M:=M) (Q:=Q) (h:=g) (HB.out.1.kept (HF.out.1.trans k1) af).r (by omega) af (((Yi.la HB.out.2.1).trans HF.out.1).trans k1) k3 k4 (fun x hx=>hx);obtain⟨⟨e0,e1,e2,e3⟩,hk,hW,hi⟩:=b8;refine Zj (v:=g.ag) ?_ rfl ⟨hk,P.1,P.2,c',HF.out.2.1,HF.out.2.2.1,HF.out.2.2.2.1,by rw[k2];exact hW,.inr ⟨k2,g,rfl,hi,k5,k6⟩⟩;simp[results,Zs,go_sem,Th.ag,e0,e1,e2,e3]
  .have HC:Zm (Zn N 97 #[O (Za ⟨R,0,L⟩),Zk z.v,Zk x.f.v,Zk x.t.v,I J x.n,.bool Zo] wc fun e w'=>e=Zp (Zk #[I J 0,I J 0,.nilFunc,I J 0])/\Zm (Yi R L wc w'/\Wl R (F-c') P.1 w'/\P.1.k≠0)):=aa.out.mono (by
    rintro e w' ⟨h1,⟨h2,h3,h4⟩|⟨h2,_⟩⟩
    .exact⟨h3,h1,h4,h2⟩
    .exact absurd (by rw[h2];rfl) hg)
   clear a5 hS al ai a0 a4 am hzt aa hP hg ar aw ba;apply_assumption;go_wp2_with (go_at_call 97;refine HC.out.mono ?_;rintro e w4 ⟨rfl,HZ⟩;obtain⟨r0,r1,r2,r3,y0,y1,y2,y3⟩:=(HB.out.1.kept (HF.out.1.trans HZ.out.1) af).r;clear w0 x0 x1 x2 x3 x4 x5 x6 e0 z0 z1 z2 z3 c0 c1)
   obtain⟨k1,k2,k3⟩:=HZ.out;obtain⟨⟨e0,e1,e2,e3⟩,hk⟩:=(HB.out.1.kept (HF.out.1.trans k1) af).r.set (I J 0) (I J 0) .nilFunc (I J 0);refine Zj (v:=Uf) ?_ rfl ⟨(((Yi.la HB.out.2.1).trans HF.out.1).trans k1).new hk (by omega),P.1,P.2,c',HF.out.2.1,HF.out.2.2.1,HF.out.2.2.2.1,k2.same hk (by omega),.inl ⟨k3,rfl⟩⟩;simp[results,Zs,go_sem,Uf,e0,e1,e2,e3]
end Go.Proofs.YtnddkmccagiclabGreatDoor
