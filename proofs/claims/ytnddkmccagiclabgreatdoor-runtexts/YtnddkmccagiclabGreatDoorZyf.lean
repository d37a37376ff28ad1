import Derived.Test.YtnddkmccagiclabGreatDoorZye
import Derived.Outline
set_option maxRecDepth 20000
set_option maxHeartbeats 16000000
open Go.RowKit Go.Proofs.Tryz
open Option renaming none→A,some→I,ne_none_iff_exists'→Zu
open Go.Value renaming pointer→C,int→F,slice→P,tuple→V,agg→Y,ownBlock→Zq
open Go.World renaming block_lt_of_cell?→D,cell?_setCell_far→Zg,cell?_setCell_other→Zh,cell?_setCell_same→Zi,setCell→Zs,frozen?_of_block→ZI,cell?_of_block→ZP,news_of_block→ZQ,ownsRow_nil→ZT
open Go.IntKind renaming i64→E
open Go.Ending renaming returned→J
open Go.Proofs.Tryz renaming prog→L,ntmps111→Zm,func111→Zo,ntmps158→Zv,ntmps151→Zw,func158→Zx,func151→Zy,ntmps73→Zz,ntmps201→ZA,func73→ZB,func201→ZC,results74→ZD,ntmps74→ZH,results153→ZJ,func74→ZM,results26→ZN,results11→ZO,ntmps26→ZS,func26→ZU
open Bool renaming false→N,true→Ze,and_eq_true→ZG
open Go renaming cell_later→Q,Calls→T,World→Za,bodyPost_ret→Zd,Value→Zn,Addr→Zp,Ending→ZR
open Go.RowKit.Below renaming refl→S,heap_setCell→Zl
open Nat renaming le_refl→U,lt_of_lt_of_le→Zk,le_trans→Zt
open Go.RowKit renaming Hid→Zb,Below→Zc,ownsRow_setCell_below→Zr
open List renaming length_cons→Zf,getElem?_append_right→ZF,getElem_cons_zero→ZK,getElem_cons_succ→ZL
open Go.Obj renaming cells→Zj
open Array renaming getElem?_eq_some_iff→ZE
namespace Go.Proofs.YtnddkmccagiclabGreatDoor
variable {p pa pc pg ps pt q:Option Zp}{c:Ca}{e r:List YJ}{W w w' w0 w1:Za}{M b ca fu j k lb lo o:Nat}{x y:Tm}{d:Int}{ys:List Zn}{u:YJ}{ts:List XB}{en en':XG}
structure Gh where
 v:Nat->Option YJ
 c:Nat->Option Ca
 s:Nat->Option (List YJ)
def Gh.ms(G:Gh)(b:Nat):Prop:=G.v b≠A\/G.c b≠A\/G.s b≠A
def Gh.vp(G:Gh)(p:Option Zp)(v:YJ):Prop:=∃b,p=I ⟨b,0,A⟩/\G.v b=I v
def Gh.cp(G:Gh)(p:Option Zp)(c:Option Ca):Prop:=(p=A/\c=A)\/∃b x,p=I ⟨b,0,A⟩/\c=I x/\G.c b=I x
def Gh.sp(G:Gh)(p:Option Zp)(e:List YJ):Prop:=(p=A/\e=[])\/∃b,p=I ⟨b,0,A⟩/\G.s b=I e
structure Gh.le(G H:Gh):Prop where
 v:∀b x,G.v b=I x->H.v b=I x
 c:∀b x,G.c b=I x->H.c b=I x
 s:∀b x,G.s b=I x->H.s b=I x
theorem Gh.le.refl(G:Gh):G.le G:=⟨fun _ _ h=>h,fun _ _ h=>h,fun _ _ h=>h⟩
theorem Gh.le.trans{G H K:Gh}(h:G.le H)(h':H.le K):G.le K:=⟨fun b x e=>h'.v b x (h.v b x e),fun b x e=>h'.c b x (h.c b x e),fun b x e=>h'.s b x (h.s b x e)⟩
theorem Gh.vp.le{G H:Gh}{v:YJ}(h:G.vp p v)(a:G.le H):H.vp p v:=by obtain⟨b,e,c⟩:=h;exact⟨b,e,a.v b v c⟩
theorem Gh.cp.le{G H:Gh}{c:Option Ca}(h:G.cp p c)(g:G.le H):H.cp p c:=by
 rcases h with h|⟨b,x,e,a,d⟩
 .exact .inl h
 .exact .inr ⟨b,x,e,a,g.c b x d⟩
theorem Gh.sp.le{G H:Gh}(h:G.sp p e)(d:G.le H):H.sp p e:=by
 rcases h with h|⟨b,a,c⟩
 .exact .inl h
 .exact .inr ⟨b,a,d.s b e c⟩
theorem Gh.lp(G:Gh):G.cp A A:=.inl ⟨rfl,rfl⟩
theorem Gh.qq(G:Gh):G.sp A []:=.inl ⟨rfl,rfl⟩
def O2(w0:Za)(p:Option Zp)(x:Tm):Prop:=∃(b o:Nat)(y:TT),p=I ⟨b,o,A⟩/\Uz w0 b o y/\y.In w0/\y.tm=x
def BU(w0 w:Za)(G:Gh)(b:Nat)(v:YJ):Prop:=∃pb ps pi pg pa:Option Zp,
 w.cell? ⟨b,0,A⟩=I (F E v.k)/\w.cell? ⟨b,1,A⟩=I (F E v.n)/\w.cell? ⟨b,2,A⟩=I (C pb)/\w.cell? ⟨b,3,A⟩=I (C ps)/\w.cell? ⟨b,4,A⟩=I (C pi)/\w.cell? ⟨b,5,A⟩=I (C pg)/\w.cell? ⟨b,6,A⟩=I (C pa)/\w.cell? ⟨b,7,A⟩=I (F E v.az)/\
 (v.k=3->O2 w0 pb v.body/\G.sp ps v.env)/\(v.k=4\/v.k=5->∃u,v.inn=[u]/\G.vp pi u)/\G.cp pg v.given/\G.cp pa v.answer
structure K8(w:Za)(b:Nat)(c:Ca)(pg pa:Option Zp):Prop where
 c0:w.cell? ⟨b,0,A⟩=I (.bool c.opens)
 c1:w.cell? ⟨b,1,A⟩=I (F E c.wrong.k)
 c2:w.cell? ⟨b,2,A⟩=I (F E c.wrong.n)
 c3:w.cell? ⟨b,3,A⟩=I (.bool c.wrong.b)
 c4:w.cell? ⟨b,4,A⟩=I (F E c.kind)
 c5:w.cell? ⟨b,5,A⟩=I (F E c.ends.k)
 c6:w.cell? ⟨b,6,A⟩=I (F E c.ends.n)
 c7:w.cell? ⟨b,7,A⟩=I (.bool c.ends.b)
 c8:w.cell? ⟨b,8,A⟩=I (C pg)
 c9:w.cell? ⟨b,9,A⟩=I (C pa)
 c10:w.cell? ⟨b,10,A⟩=I (.bool c.hides)
def FF(w:Za)(G:Gh)(b:Nat)(e:List YJ):Prop:=∃v r pv ps,e=v::r/\w.cell? ⟨b,0,A⟩=I (C pv)/\w.cell? ⟨b,1,A⟩=I (C ps)/\G.vp pv v/\G.sp ps r
structure HG(w0 w:Za)(G:Gh):Prop where
 v:∀b x,G.v b=I x->BU w0 w G b x
 c:∀b x,G.c b=I x->∃pg pa,K8 w b x pg pa/\G.cp pg x.given/\G.cp pa x.answer
 s:∀b x,G.s b=I x->FF w G b x
theorem K8.of(h:K8 w b c pg pa)(e:∀i,w'.cell? ⟨b,i,A⟩=w.cell? ⟨b,i,A⟩):K8 w' b c pg pa:=⟨(e _).trans h.c0,(e _).trans h.c1,(e _).trans h.c2,(e _).trans h.c3,(e _).trans h.c4,(e _).trans h.c5,(e _).trans h.c6,(e _).trans h.c7,(e _).trans h.c8,(e _).trans h.c9,(e _).trans h.c10⟩
theorem BU.of{G H:Gh}{v:YJ}(h:BU w0 w G b v)(a:G.le H)(e:∀i,w'.cell? ⟨b,i,A⟩=w.cell? ⟨b,i,A⟩):BU w0 w' H b v:=by obtain⟨pb,ps,l,j,pa,o,z,k,p,y,h5,q,h7,d,x,a3,g⟩:=h;refine⟨pb,ps,l,j,pa,(e _).trans o,(e _).trans z,(e _).trans k,(e _).trans p,(e _).trans y,(e _).trans h5,(e _).trans q,(e _).trans h7,fun c=>⟨(d c).1,(d c).2.le a⟩,fun c=>?_,a3.le a,g.le a⟩;obtain⟨u,r,m⟩:=x c;exact⟨u,r,m.le a⟩
theorem FF.of{G H:Gh}{x:List YJ}(h:FF w G b x)(a:G.le H)(e:∀i,w'.cell? ⟨b,i,A⟩=w.cell? ⟨b,i,A⟩):FF w' H b x:=by obtain⟨v,r,l,ps,c,j,g,d,k⟩:=h;exact⟨v,r,l,ps,c,(e _).trans j,(e _).trans g,d.le a,k.le a⟩
theorem HG.of{G:Gh}(h:HG w0 w G)(e:∀b,G.ms b->∀i,w'.cell? ⟨b,i,A⟩=w.cell? ⟨b,i,A⟩):HG w0 w' G:=by refine⟨fun b x a=>(h.v b x a).of (Gh.le.refl G) (e b (.inl (by rw[a];simp))),fun b x a=>?_,fun b x a=>(h.s b x a).of (Gh.le.refl G) (e b (.inr (.inr (by rw[a];simp))))⟩;obtain⟨c,j,g,d,k⟩:=h.c b x a;exact⟨c,j,g.of (e b (.inr (.inl (by rw[a];simp)))),d,k⟩
theorem HG.lt{G:Gh}(h:HG w0 w G)(a:G.ms b):b<w.heap.size:=by
 rcases a with a|a|a
 .obtain⟨x,hx⟩:=Zu.1 a;obtain⟨i,ps,g,d,e,c,_⟩:=h.v b x hx;exact D _ _ c
 .obtain⟨x,hx⟩:=Zu.1 a;obtain⟨d,e,c,_⟩:=h.c b x hx;exact D _ _ c.c0
 .obtain⟨x,hx⟩:=Zu.1 a;obtain⟨v,r,j,ps,_,c,_⟩:=h.s b x hx;exact D _ _ c
def Gh.nj(G:Gh)(b:Nat)(x:YJ):Gh:=⟨fun k=>if k=b then I x else G.v k,G.c,G.s⟩
def Gh.mw(G:Gh)(b:Nat)(x:Ca):Gh:=⟨G.v,fun k=>if k=b then I x else G.c k,G.s⟩
def Gh.ni(G:Gh)(b:Nat)(x:List YJ):Gh:=⟨G.v,G.c,fun k=>if k=b then I x else G.s k⟩
theorem Gh.oq{G:Gh}{x:YJ}(h:¬G.ms b):G.le (G.nj b x):=by refine⟨fun k y a=>?_,fun _ _ h=>h,fun _ _ h=>h⟩;have:k≠b:=fun e=>h (.inl (by rw[<-e,a];simp));simp[Gh.nj,this,a]
theorem Gh.nt{G:Gh}{x:Ca}(h:¬G.ms b):G.le (G.mw b x):=by refine⟨fun _ _ h=>h,fun k y a=>?_,fun _ _ h=>h⟩;have:k≠b:=fun e=>h (.inr (.inl (by rw[<-e,a];simp)));simp[Gh.mw,this,a]
theorem Gh.on{G:Gh}{x:List YJ}(h:¬G.ms b):G.le (G.ni b x):=by refine⟨fun _ _ h=>h,fun _ _ h=>h,fun k y a=>?_⟩;have:k≠b:=fun e=>h (.inr (.inr (by rw[<-e,a];simp)));simp[Gh.ni,this,a]
theorem Gh.pu{G:Gh}{x:YJ}(h:(G.nj b x).ms k):k=b\/G.ms k:=by
 by_cases e:k=b
 .exact .inl e
 .right;rcases h with h|h|h
  .left;simpa[Gh.nj,e] using h
  .exact .inr (.inl h)
  .exact .inr (.inr h)
theorem Gh.ny{G:Gh}{x:Ca}(h:(G.mw b x).ms k):k=b\/G.ms k:=by
 by_cases e:k=b
 .exact .inl e
 .right;rcases h with h|h|h
  .exact .inl h
  .right;left;simpa[Gh.mw,e] using h
  .exact .inr (.inr h)
theorem Gh.pq{G:Gh}{x:List YJ}(h:(G.ni b x).ms k):k=b\/G.ms k:=by
 by_cases e:k=b
 .exact .inl e
 .right;rcases h with h|h|h
  .exact .inl h
  .exact .inr (.inl h)
  .right;right;simpa[Gh.ni,e] using h
theorem Gh.qj(G:Gh)(b:Nat)(x:YJ):(G.nj b x).vp (I ⟨b,0,A⟩) x:=⟨b,rfl,by simp[Gh.nj]⟩
theorem Gh.ol(G:Gh)(b:Nat)(x:Ca):(G.mw b x).cp (I ⟨b,0,A⟩) (I x):=.inr ⟨b,x,rfl,rfl,by simp[Gh.mw]⟩
theorem Gh.qi(G:Gh)(b:Nat)(x:List YJ):(G.ni b x).sp (I ⟨b,0,A⟩) x:=.inr ⟨b,rfl,by simp[Gh.ni]⟩
theorem HG.nj{G:Gh}(h:HG w0 w G){x:YJ}(d:¬G.ms b)(g:BU w0 w G b x):HG w0 w (G.nj b x):=by
 have c:=Gh.oq (x:=x) d;refine⟨fun k y a=>?_,fun k y a=>?_,fun k y a=>(h.s k y a).of c fun _=>rfl⟩
 .by_cases e:k=b
  .subst e;have:y=x:=by simpa[Gh.nj] using a.symm
   rw[this];exact g.of c fun _=>rfl
  .exact(h.v k y (by simpa[Gh.nj,e] using a)).of c fun _=>rfl
 .obtain⟨pg,pa,h1,h2,h3⟩:=h.c k y a;exact⟨pg,pa,h1,h2.le c,h3.le c⟩
theorem HG.mw{G:Gh}(h:HG w0 w G){x:Ca}(j:¬G.ms b)(i:K8 w b x pg pa)(g:G.cp pg x.given)(d:G.cp pa x.answer):HG w0 w (G.mw b x):=by
 have a:=Gh.nt (x:=x) j;refine⟨fun k y c=>(h.v k y c).of a fun _=>rfl,fun k y c=>?_,fun k y c=>(h.s k y c).of a fun _=>rfl⟩;by_cases e:k=b
 .subst e;have:y=x:=by simpa[Gh.mw] using c.symm
  rw[this];exact⟨pg,pa,i,g.le a,d.le a⟩
 .obtain⟨pg,pa,h1,h2,h3⟩:=h.c k y (by simpa[Gh.mw,e] using c);exact⟨pg,pa,h1,h2.le a,h3.le a⟩
theorem HG.ni{G:Gh}(h:HG w0 w G){x:List YJ}(d:¬G.ms b)(g:FF w G b x):HG w0 w (G.ni b x):=by
 have c:=Gh.on (x:=x) d;refine⟨fun k y a=>(h.v k y a).of c fun _=>rfl,fun k y a=>?_,fun k y a=>?_⟩
 .obtain⟨pg,pa,h1,h2,h3⟩:=h.c k y a;exact⟨pg,pa,h1,h2.le c,h3.le c⟩
 .by_cases e:k=b
  .subst e;have:y=x:=by simpa[Gh.ni] using a.symm
   rw[this];exact g.of c fun _=>rfl
  .exact(h.s k y (by simpa[Gh.ni,e] using a)).of c fun _=>rfl
def FW(d:Int):Int:=if d=7 then 5 else d
def Ns(w0:Za)(G:Gh)(t:XB)(d:Int)(pt ps pc:Option Zp):Prop:=d=FW t.d/\(t.d=1\/t.d=4->O2 w0 pt t.x/\G.sp ps t.s)/\G.cp pc t.c
def Eb(w0:Za)(G:Gh):List XB->List Zn->Prop
 |[],xs=>xs=[]
 |t::ts,xs=>∃ys d pt ps pc,xs=ys++[F E d,C pt,C ps,C pc]/\Eb w0 G ts ys/\Ns w0 G t d pt ps pc
def Ea(G:Gh):List YJ->List Zn->Prop
 |[],xs=>xs=[]
 |v::vs,xs=>∃ys p,xs=ys++[C p]/\Ea G vs ys/\G.vp p v
theorem Ns.le{G H:Gh}(hl:G.le H){t:XB}(h:Ns w0 G t d pt ps pc):Ns w0 H t d pt ps pc:=⟨h.1,fun hd=>⟨(h.2.1 hd).1,(h.2.1 hd).2.le hl⟩,h.2.2.le hl⟩
theorem Eb.le{w0:Za}{G H:Gh}(hl:G.le H):∀{ts:List XB}{xs:List Zn},Eb w0 G ts xs->Eb w0 H ts xs
 |[],_,h=>h
 |_::_,_,⟨ys,d,pt,ps,pc,e,h1,h2⟩=>⟨ys,d,pt,ps,pc,e,h1.le hl,h2.le hl⟩
theorem Ea.le{G H:Gh}(hl:G.le H):∀{vs:List YJ}{xs:List Zn},Ea G vs xs->Ea H vs xs
 |[],_,h=>h
 |_::_,_,⟨ys,p,e,h1,h2⟩=>⟨ys,p,e,h1.le hl,h2.le hl⟩
def MW(w:Za)(M k:Nat):Prop:=∃v:Zn,v.ownBlock=I k/\(w.cell? ⟨M,0,A⟩=I v\/w.cell? ⟨M,1,A⟩=I v)
structure Fr(M:Nat)(w w':Za):Prop where
 os:w'.os=w.os
 tape:w'.tape=w.tape
 output:w'.output=w.output
 size:w.heap.size<=w'.heap.size
 block:∀k,k<w.heap.size->k≠M->¬MW w M k->w'.heap[k]?=w.heap[k]?/\¬MW w' M k
theorem Fr.refl(M:Nat)(w:Za):Fr M w w:=⟨rfl,rfl,rfl,U _,fun _ _ _ h=>⟨rfl,h⟩⟩
theorem Fr.trans{a b c:Za}(h:Fr M a b)(d:Fr M b c):Fr M a c:=by refine⟨d.os.trans h.os,d.tape.trans h.tape,d.output.trans h.output,Zt h.size d.size,fun k e g l=>?_⟩;obtain⟨i,o⟩:=h.block k e g l;obtain⟨j,m⟩:=d.block k (Zk e h.size) g o;exact⟨j.trans i,m⟩
theorem Fr.cell(h:Fr M w w')(hk:k<w.heap.size)(h1:k≠M)(h2:¬MW w M k)(i:Nat):w'.cell? ⟨k,i,A⟩=w.cell? ⟨k,i,A⟩:=ZP (a:=⟨k,i,A⟩) (h.block k hk h1 h2).1
theorem Fr.frozen(h:Fr M w w')(hk:k<w.heap.size)(h1:k≠M)(h2:¬MW w M k)(i:Nat):w'.frozen? ⟨k,i,A⟩=w.frozen? ⟨k,i,A⟩:=ZI (a:=⟨k,i,A⟩) (h.block k hk h1 h2).1
theorem MW.congr(b:w'.cell? ⟨M,0,A⟩=w.cell? ⟨M,0,A⟩)(a:w'.cell? ⟨M,1,A⟩=w.cell? ⟨M,1,A⟩)(h:MW w' M k):MW w M k:=by obtain⟨v,e,h⟩:=h;rw[b,a] at h;exact⟨v,e,h⟩
theorem Fr.below(h:Zc w.heap.size w w')(hM:M<w.heap.size):Fr M w w':=⟨h.os,h.tape,h.output,h.size,fun k hk _ h2=>⟨h.block k hk,fun hr=>h2 (hr.congr (h.cell (p:=⟨M,0,A⟩) hM) (h.cell (p:=⟨M,1,A⟩) hM))⟩⟩
structure MS(w0 w:Za)(M:Nat)(G:Gh)(s:St):Prop where
 ex:∃tv mv txs mxs,w.cell? ⟨M,0,A⟩=I tv/\w.cell? ⟨M,1,A⟩=I mv/\w.ownsRow (M+1) 130 4 tv s.ts.length txs/\w.ownsRow (M+1) 132 1 mv s.vs.length mxs/\(∀g,tv.ownBlock=I g->mv.ownBlock=I g->False)/\Eb w0 G s.ts txs/\Ea G s.vs mxs
 c2:w.cell? ⟨M,2,A⟩=I (F E s.calls)
 c3:w.cell? ⟨M,3,A⟩=I (F E s.fuel)
 c4:w.cell? ⟨M,4,A⟩=I (F E s.ended.k)
 c5:w.cell? ⟨M,5,A⟩=I (F E s.ended.n)
 c6:w.cell? ⟨M,6,A⟩=I (.bool s.ended.b)
 fz:∀o,w.frozen? ⟨M,o,A⟩=N
 hg:HG w0 w G
 far:∀b,G.ms b->b≠M/\¬MW w M b
 bel:Zc w0.heap.size w0 w
 lo:w0.heap.size<=M
theorem MS.lt{G:Gh}{s:St}(h:MS w0 w M G s):M<w.heap.size:=D _ _ h.c2
theorem MS.below{G:Gh}{s:St}(h:MS w0 w M G s)(d:Zc w.heap.size w w'):MS w0 w' M G s:=by
 have y:=h.lt;have a:∀i,w'.cell? ⟨M,i,A⟩=w.cell? ⟨M,i,A⟩:=fun i=>d.cell (p:=⟨M,i,A⟩) y;obtain⟨tv,mv,q,r,h0,h1,o0,o1,u,ht,hv⟩:=h.ex;have j:∀{e sz:Nat}{v:Zn}{n:Nat}{m:List Zn},w.ownsRow (M+1) e sz v n m->w'.ownsRow (M+1) e sz v n m:=by
  intro e sz v n m x;refine⟨x.1,?_⟩;rcases x.2 with u|⟨g,cap,k,rfl,l,c,rest⟩
  .exact .inl u
  .exact .inr ⟨g,cap,k,rfl,l,by rw[d.block g (ZE.1 c).1];exact c,rest⟩
 refine⟨⟨tv,mv,q,r,(a 0).trans h0,(a 1).trans h1,j o0,j o1,u,ht,hv⟩,(a 2).trans h.c2,(a 3).trans h.c3,(a 4).trans h.c4,(a 5).trans h.c5,(a 6).trans h.c6,fun o=>(d.frozen (p:=⟨M,o,A⟩) y).trans (h.fz o),?_,fun b hd=>⟨(h.far b hd).1,fun z=>(h.far b hd).2 (z.congr (a 0) (a 1))⟩,h.bel.trans (d.mono h.bel.size),h.lo⟩;exact h.hg.of fun b hd i=>d.cell (p:=⟨b,i,A⟩) (h.hg.lt hd)
theorem MS.grow{G H:Gh}{s:St}(h:MS w0 w M G s)(d:G.le H)(l:HG w0 w H)(i:∀b,H.ms b->b≠M/\¬MW w M b):MS w0 w M H s:=by obtain⟨e,g,a,c,o,m,j,o1,q,p,k⟩:=h.ex;exact⟨⟨e,g,a,c,o,m,j,o1,q,p.le d,k.le d⟩,h.c2,h.c3,h.c4,h.c5,h.c6,h.fz,l,i,h.bel,h.lo⟩
theorem Tryz.info130:(L.info? 130).map (fun i=>(i.zero,i.size,i.bytes))=I (I (Y #[F E 0,C A,C A,C A]),4,32):=by kernel_rfl
theorem Tryz.info132:(L.info? 132).map (fun i=>(i.zero,i.size,i.bytes))=I (I (C A),1,8):=by kernel_rfl
def MU(M j e sz:Nat)(v:Zn)(n:Nat)(ys:List Zn)(w w':Za):Prop:=∃g cap,w'.cell? ⟨M,j,A⟩=I (P (I ⟨g,0,A⟩) (n+1) cap)/\(∀i,i≠j->w'.cell? ⟨M,i,A⟩=w.cell? ⟨M,i,A⟩)/\(∀o,w'.frozen? ⟨M,o,A⟩=N)/\w'.ownsRow (M+1) e sz (P (I ⟨g,0,A⟩) (n+1) cap) (n+1) ys/\(v.ownBlock=I g\/w.heap.size<=g)/\Yi M v.ownBlock w w'
theorem WZ{e sz:Nat}{v:Zn}{n:Nat}{g cap:Nat}(d:Zc w.heap.size w W)(b:W.grownBy w1 v.ownBlock)(l:w1.ownsRow (M+1) e sz (P (I ⟨g,0,A⟩) (n+1) cap) (n+1) ys)(q:v.ownBlock=I g\/w.heap.size<=g)(r:v.ownBlock≠I M)(z:w.cell? ⟨M,j,A⟩=I v)(u:∀o,w.frozen? ⟨M,o,A⟩=N):
  MU M j e sz v n ys w (w1.setCell ⟨M,j,A⟩ (P (I ⟨g,0,A⟩) (n+1) cap)):=by
 have x:M<w.heap.size:=D _ _ z;have p:=Zk x d.size;have h:=(b.block M p (fun e=>r e.symm)).trans (d.block M x);have c:∀i,w1.cell? ⟨M,i,A⟩=w.cell? ⟨M,i,A⟩:=fun i=>ZP (a:=⟨M,i,A⟩) h;have m:∀i,w1.frozen? ⟨M,i,A⟩=w.frozen? ⟨M,i,A⟩:=fun i=>ZI (a:=⟨M,i,A⟩) h;refine⟨g,cap,Zi _ _ _ ((c j).trans z),fun i hi=>?_,fun o=>?_,Zr l (by simp) _,q,?_⟩
 .rw[Zh _ _ _ _ (by intro e;cases e;exact hi rfl)];exact c i
 .have:=(m o).trans (u o);simpa using this
 .refine⟨b.os.trans d.os,b.tape.trans d.tape,b.output.trans d.output,?_,fun k y h1 h2=>?_⟩
  .rw[show (w1.setCell ⟨M,j,A⟩ (P (I ⟨g,0,A⟩) (n+1) cap)).heap.size=w1.heap.size from by simp[Zs]];exact Zt d.size b.size
  .rw[Zl _ _ _ _ h1,b.block k (Zk y d.size) h2,d.block k y]
theorem C7(M:Nat)(v:Zn)(n:Nat)(l:List Zn)(p:Option Zp)(w:Za)(u:w.cell? ⟨M,1,A⟩=I v)(g:∀o,w.frozen? ⟨M,o,A⟩=N)(d:w.ownsRow (M+1) 132 1 v n l)(c:v.ownBlock≠I M)(hn:n+1<=1000000000):
  T L 150 #[C (I ⟨M,0,A⟩),C p] w fun e w'=>e=J (V #[])/\MU M 1 132 1 v n (l++[C p]) w w':=by
 have z:M<w.heap.size:=D _ _ u;obtain⟨i0,y,k,x,j⟩:=info_parts Tryz.info132;have m:Zc w.heap.size w (w.alloc (Zj #[C p] 132)):=(S _ _).alloc (U _) _;have i:(w.alloc (Zj #[C p] 132)).heap[w.heap.size]?=I (Zj #[C p] 132):=heap_alloc_new _ _;have r:=g 1;go_enter func150,ntmps150;go_wp2_with (at_builtin;refine wpList_append_lies _ rfl _ _ _ rfl (M+1) 132 i0 _ 1 8 underlying72 y k x j rfl (by omega) v n l rfl (d.alloc _) ⟨w.heap.size,0,A⟩ 1 1 [C p] rfl rfl (ZQ (cs:=#[C p]) (t:=132) (fr:=(0,0)) i) (by simp[Value.oneCell']) (by omega) (by unfold maxLen;omega) (by omega) (by simp;omega) (w.heap.size+1) (by simp) ?_;intro gg cap1 w3 b a q a0;have a1:w3.frozen? ⟨M,1,A⟩=N:=(by rw[a.frozen_far _ (by simp;omega) (Ne.symm c),m.frozen (p:=⟨M,1,A⟩) z];exact r);have a2:w3.cell? ⟨M,1,A⟩=I v:=(by rw[a.cell_far _ (by simp;omega) (Ne.symm c),m.cell (p:=⟨M,1,A⟩) z];exact u))
 go_end0;refine⟨rfl,WZ m a b ?_ c u g⟩;rcases q with h|h
 .exact .inl h
 .exact .inr (by omega)
theorem CJ(M:Nat)(v:Zn)(n:Nat)(r:List Zn)(d:Int)(j ps i:Option Zp)(w:Za)(z:w.cell? ⟨M,0,A⟩=I v)(k:∀o,w.frozen? ⟨M,o,A⟩=N)(g:w.ownsRow (M+1) 130 4 v n r)(c:v.ownBlock≠I M)(hn:n+1<=1000000000):
  T L 72 #[C (I ⟨M,0,A⟩),Y #[F E d,C j,C ps,C i]] w fun e w'=>e=J (V #[])/\MU M 0 130 4 v n (r++[F E d,C j,C ps,C i]) w w':=by
 have lr:M<w.heap.size:=D _ _ z;obtain⟨i0,a1,q,a0,m⟩:=info_parts Tryz.info130;obtain⟨X,hX⟩:∃X,X=Obj.cells #[F E d,C j,C ps,C i] 130:=⟨_,rfl⟩
 have u:bL w ((w.alloc X).alloc X).drew:=(((S _ _).alloc (U _) _).alloc (by simp) _).drew;have l:((w.alloc X).alloc X).drew.heap[w.heap.size+1]?=I X:=by have h:=heap_alloc_new (w.alloc X) X;rw[World.size_alloc] at h;exact h
 have y:=k 0;subst hX;go_enter func72,ntmps72;go_wp2_with fail;go_region_law ((refine step_append_lies _ (by rfl) _ _ _ (by rfl) (M+1) 130 i0 _ 4 32 underlying71 a1 q a0 m rfl (by omega) v n r (by rfl) (((g.alloc _).alloc _).drew) ⟨w.heap.size+1,0,A⟩ 1 1 [F E d,C j,C ps,C i] (by rfl) (by rfl) (ZQ (cs:=#[F E d,C j,C ps,C i]) (t:=130) (fr:=(0,0)) l) (by simp[Value.oneCell']) (by omega) (by unfold maxLen;omega) (by omega) (by simp;omega) (w.heap.size+2) (by simp) ?_;intro gg cap w1 b a x a2;have a3:w1.frozen? ⟨M,0,A⟩=N:=(by rw[a.frozen_far _ (by simp;omega) (Ne.symm c),u.frozen (p:=⟨M,0,A⟩) lr];exact y);have a4:w1.cell? ⟨M,0,A⟩=I v:=(by rw[a.cell_far _ (by simp;omega) (Ne.symm c),u.cell (p:=⟨M,0,A⟩) lr];exact z)))
 all_goals
  go_end0
  refine⟨rfl,WZ u a b ?_ c z k⟩
  rcases x with h|h
  .exact .inl h
  .exact .inr (by omega)
theorem Cj(M g:Nat)(n c:Nat)(p:Option Zp)(w:Za)(d:w.cell? ⟨M,1,A⟩=I (P (I ⟨g,0,A⟩) (n+1) c))(b:w.frozen? ⟨M,1,A⟩=N)(i:n+1<=c)(h:n<=1000000000)(a:w.cell? ⟨g,n,A⟩=I (C p)):
  T L 75 #[C (I ⟨M,0,A⟩)] w fun e w'=>e=J (C p)/\w'=w.setCell ⟨M,1,A⟩ (P (I ⟨g,0,A⟩) n c):=by
 have j:M<w.heap.size:=D _ _ d;have k:g<w.heap.size:=D _ _ a;go_enter func75,ntmps75;go_wp2_with fail;go_ret;exact⟨rfl,rfl⟩
theorem EJ(M:Nat)(k n d a:Int)(b c:Bool)(w:Za)(g:w.cell? ⟨M,4,A⟩=I (F E k))(m:w.cell? ⟨M,5,A⟩=I (F E n))(h:w.cell? ⟨M,6,A⟩=I (.bool b))(i:w.frozen? ⟨M,4,A⟩=N)(l:w.frozen? ⟨M,5,A⟩=N)(o:w.frozen? ⟨M,6,A⟩=N):
  T L 157 #[C (I ⟨M,0,A⟩),Y #[F E d,F E a,.bool c]] w fun e w'=>e=J (V #[])/\∃X,w'=(((w.setCell ⟨M,4,A⟩ (F E d)).setCell ⟨M,5,A⟩ (F E a)).setCell ⟨M,6,A⟩ (.bool c)).alloc X:=by
 have j:M<w.heap.size:=D _ _ g;go_enter func157,ntmps157;go_wp2_with fail;go_end0;exact⟨rfl,_,rfl⟩
theorem MU.fr{e sz:Nat}{v:Zn}{n:Nat}(h:MU M j e sz v n ys w w')(y:j=0\/j=1)(p:w.cell? ⟨M,j,A⟩=I v):Fr M w w':=by
 obtain⟨g,cap,z,q,h3,h4,d,b⟩:=h;have o:∀k,v.ownBlock=I k->MW w M k:=fun k b=>⟨v,b,y.elim (fun e=>.inl (e▸p)) (fun e=>.inr (e▸p))⟩
 refine⟨b.os,b.tape,b.output,b.size,fun k l r m=>⟨b.block k l r fun e=>m (o k e.symm),?_⟩⟩;rintro ⟨u,hu,a⟩;have c:∀i,(i=0\/i=1)->w'.cell? ⟨M,i,A⟩=I u->False:=fun i hi a=>by
  by_cases hij:i=j
  .subst hij;rw[z] at a;cases a
   have x:g=k:=by simpa[Zq] using hu
   subst x;rcases d with d|d
   .exact m (o _ d)
   .omega
  .rw[q i hij] at a;exact m ⟨u,hu,hi.elim (fun e=>.inl (e▸a)) (fun e=>.inr (e▸a))⟩
 rcases a with a|a
 .exact c 0 (.inl rfl) a
 .exact c 1 (.inr rfl) a
theorem Ny{o:Option Nat}(c:Yi M o w w'){base e sz:Nat}{v:Zn}{n:Nat}{xs:List Zn}(h:w.ownsRow base e sz v n xs)(k:M<base)(d:∀g,v.ownBlock=I g->o=I g->False):w'.ownsRow base e sz v n xs:=by
 refine⟨h.1,?_⟩;rcases h.2 with j|⟨g,cap,b,rfl,i,a,rest⟩
 .exact .inl j
 .refine .inr ⟨g,cap,b,rfl,i,?_,rest⟩;rw[c.block g (ZE.1 a).1 (by omega) (fun e=>d g rfl e.symm)];exact a
theorem W9{e sz:Nat}{v:Zn}{n:Nat}{xs:List Zn}(h:w.ownsRow (M+1) e sz v n xs):v.ownBlock≠I M:=fun e=>by have:=(h.lt M e).1;omega
theorem MS.rest{G:Gh}{s:St}(h:MS w0 w M G s){e sz:Nat}{v:Zn}{n:Nat}(d:MU M j e sz v n ys w w')(o:j=0\/j=1)(m:w.cell? ⟨M,j,A⟩=I v)(c:∀g,v.ownBlock=I g->M<=g):
  HG w0 w' G/\(∀b,G.ms b->b≠M/\¬MW w' M b)/\Zc w0.heap.size w0 w':=by
 have k:=d.fr o m;refine⟨h.hg.of fun b a i=>k.cell (h.hg.lt a) (h.far b a).1 (h.far b a).2 i,fun b a=>⟨(h.far b a).1,(k.block b (h.hg.lt a) (h.far b a).1 (h.far b a).2).2⟩,?_⟩;obtain⟨g,cap,r,p,x,q,u,l⟩:=d;exact h.bel.trans ((l.below c (Nat.le_of_lt h.lt)).mono h.lo)
theorem Lo{G:Gh}{s:St}(h:MS w0 w M G s){v:YJ}(hv:G.vp p v)(hn:s.vs.length+1<=1000000000):
  T L 150 #[C (I ⟨M,0,A⟩),C p] w fun e w'=>e=J (V #[])/\MS w0 w' M G (s.push v)/\Fr M w w':=by
 obtain⟨tv,mv,o,d,h0,q,u,o1,b,ht,r⟩:=h.ex;refine(C7 M mv s.vs.length d p w q h.fz o1 (W9 o1) hn).mono ?_;rintro e w' ⟨rfl,j⟩;refine⟨rfl,?_,j.fr (.inr rfl) q⟩;obtain⟨a1,a2,a3⟩:=h.rest j (.inr rfl) q fun g m=>by have:=(o1.lt g m).1;omega
 obtain⟨g,cap,z,a,x,y,i,hk⟩:=j;refine⟨⟨tv,_,o,_,(a 0 (by omega)).trans h0,z,Ny hk u (by omega) fun g m hm=>b g m hm,y,fun k c l=>?_,ht,d,p,rfl,r,hv⟩,(a 2 (by omega)).trans h.c2,(a 3 (by omega)).trans h.c3,(a 4 (by omega)).trans h.c4,(a 5 (by omega)).trans h.c5,(a 6 (by omega)).trans h.c6,x,a1,a2,a3,h.lo⟩;have:g=k:=by simpa[Zq] using l
 subst this;rcases i with i|i
 .exact b g c i
 .have:=(u.lt g c).2;omega
theorem XW{G:Gh}{s:St}(h:MS w0 w M G s){t:XB}(hv:Ns w0 G t d pt ps pc)(hn:s.ts.length+1<=1000000000):
  T L 72 #[C (I ⟨M,0,A⟩),Y #[F E d,C pt,C ps,C pc]] w fun e w'=>e=J (V #[])/\MS w0 w' M G (s.ll t)/\Fr M w w':=by
 obtain⟨tv,mv,i,q,o,h1,r,o1,c,ht,u⟩:=h.ex;refine(CJ M tv s.ts.length i d pt ps pc w o h.fz r (W9 r) hn).mono ?_;rintro e w' ⟨rfl,l⟩;refine⟨rfl,?_,l.fr (.inl rfl) o⟩;obtain⟨a1,a2,a3⟩:=h.rest l (.inl rfl) o fun g p=>by have:=(r.lt g p).1;omega
 obtain⟨g,cap,z,a,x,y,j,hk⟩:=l;refine⟨⟨_,mv,_,q,z,(a 1 (by omega)).trans h1,y,Ny hk o1 (by omega) fun g p hm=>c g hm p,fun k m b=>?_,⟨i,d,pt,ps,pc,rfl,ht,hv⟩,u⟩,(a 2 (by omega)).trans h.c2,(a 3 (by omega)).trans h.c3,(a 4 (by omega)).trans h.c4,(a 5 (by omega)).trans h.c5,(a 6 (by omega)).trans h.c6,x,a1,a2,a3,h.lo⟩;have:g=k:=by simpa[Zq] using m
 subst this;rcases j with j|j
 .exact c g j b
 .have:=(o1.lt g b).2;omega
theorem Fr.set{v:Zn}(d:j≠0/\j≠1):Fr M w (w.setCell ⟨M,j,A⟩ v):=by
 refine⟨rfl,rfl,rfl,by simp[Zs],fun k _ a b=>⟨Zl _ _ _ _ a,fun c=>b (c.congr ?_ ?_)⟩⟩
 .exact Zh _ _ _ _ (by intro e;cases e;omega)
 .exact Zh _ _ _ _ (by intro e;cases e;omega)
theorem JD{G:Gh}{s:St}(h:MS w0 w M G s){v:YJ}(hs:s.vs=v::r)(hn:r.length<=1000000000):
  T L 75 #[C (I ⟨M,0,A⟩)] w fun e w'=>∃p,e=J (C p)/\G.vp p v/\MS w0 w' M G ⟨s.ts,r,s.calls,s.fuel,s.ended⟩/\Fr M w w':=by
 obtain⟨tv,mv,a2,a9,h0,l,o0,o1,z,ht,c⟩:=h.ex;rw[hs] at c o1;obtain⟨ys,p,rfl,c,a4⟩:=c;obtain⟨g,cap,rfl,j,a6⟩:=o1.form (by simp);have a3:ys.length=r.length*1:=by have:=o1.1;simp at this;omega
 have a0:cL w g r.length (C p):=by
  have hl:r.length=ys.length:=by omega
  have:=o1.cellAt r.length (by simp);rw[hl,ZF (U _)] at this;rw[hl];simpa using this
 have m:r.length+1<=cap:=by
  rcases o1.2 with⟨h,_⟩|⟨g',a5,a8,h,_,_,l,_⟩
  .cases h
  .cases h;simpa using l
 refine(Cj M g r.length cap p w (by simpa using l) (h.fz 1) m hn a0).mono ?_;rintro e w' ⟨rfl,rfl⟩;have a7:g≠M:=by omega
 have d:∀i,i≠1->(w.setCell ⟨M,1,A⟩ (P (I ⟨g,0,A⟩) r.length cap)).cell? ⟨M,i,A⟩=w.cell? ⟨M,i,A⟩:=fun i hi=>Zh _ _ _ _ (by intro e;cases e;exact hi rfl);have q:cL (w.setCell ⟨M,1,A⟩ (P (I ⟨g,0,A⟩) r.length cap)) M 1 (P (I ⟨g,0,A⟩) r.length cap):=Zi _ _ _ l;have a:∀k,MW (w.setCell ⟨M,1,A⟩ (P (I ⟨g,0,A⟩) r.length cap)) M k->MW w M k:=by
  rintro k ⟨u,hu,x|x⟩
  .rw[d 0 (by omega)] at x;exact⟨u,hu,.inl x⟩
  .rw[q] at x;cases x
   exact⟨_,(by simpa[Zq] using hu),.inr l⟩
 have hf:Fr M w (w.setCell ⟨M,1,A⟩ (P (I ⟨g,0,A⟩) r.length cap)):=⟨rfl,rfl,rfl,by simp[Zs],fun k _ l h2=>⟨Zl _ _ _ _ l,fun hr=>h2 (a k hr)⟩⟩
 refine⟨p,rfl,a4,⟨⟨tv,_,a2,ys,(d 0 (by omega)).trans h0,q,Zr o0 (by simp) _,Zr (ownsRow_pop a3 (by simpa using o1)) (by simp) _,fun k a1 y=>z k a1 (by simpa[Zq] using y),ht,c⟩,(d 2 (by omega)).trans h.c2,(d 3 (by omega)).trans h.c3,(d 4 (by omega)).trans h.c4,(d 5 (by omega)).trans h.c5,(d 6 (by omega)).trans h.c6,fun o=>by simpa using h.fz o,?_,fun b j=>⟨(h.far b j).1,fun hr=>(h.far b j).2 (a b hr)⟩,h.bel.trans ((S _ _).setCell h.lo _),h.lo⟩,hf⟩;exact h.hg.of fun b j i=>hf.cell (h.hg.lt j) (h.far b j).1 (h.far b j).2 i
theorem MS.set{G:Gh}{s s':St}(h:MS w0 w M G s)(w':Za)(u:w'.cell? ⟨M,0,A⟩=w.cell? ⟨M,0,A⟩)(x:w'.cell? ⟨M,1,A⟩=w.cell? ⟨M,1,A⟩)(d:s'.ts=s.ts)(e:s'.vs=s.vs)(c:Yi M A w w')(y:w'.cell? ⟨M,2,A⟩=I (F E s'.calls))(c3:w'.cell? ⟨M,3,A⟩=I (F E s'.fuel))(c4:w'.cell? ⟨M,4,A⟩=I (F E s'.ended.k))(c5:w'.cell? ⟨M,5,A⟩=I (F E s'.ended.n))(c6:w'.cell? ⟨M,6,A⟩=I (.bool s'.ended.b))(r:∀o,w'.frozen? ⟨M,o,A⟩=N):
  MS w0 w' M G s'/\Fr M w w':=by
 have g:Fr M w w':=⟨c.os,c.tape,c.output,c.size,fun k j h2 h3=>⟨c.block k j h2 (by simp),fun hr=>h3 (hr.congr u x)⟩⟩
 obtain⟨tv,mv,m,p,z,e1,o0,o1,l,ht,q⟩:=h.ex;refine⟨⟨⟨tv,mv,m,p,u.trans z,x.trans e1,by rw[d];exact Ny c o0 (by omega) (by simp),by rw[e];exact Ny c o1 (by omega) (by simp),l,by rw[d];exact ht,by rw[e];exact q⟩,y,c3,c4,c5,c6,r,?_,fun b a=>⟨(h.far b a).1,(g.block b (h.hg.lt a) (h.far b a).1 (h.far b a).2).2⟩,h.bel.trans ((c.below (by simp) (Nat.le_of_lt h.lt)).mono h.lo),h.lo⟩,g⟩;exact h.hg.of fun b a i=>g.cell (h.hg.lt a) (h.far b a).1 (h.far b a).2 i
theorem Sb{G:Gh}{s:St}(h:MS w0 w M G s)(o:XG):
  T L 157 #[C (I ⟨M,0,A⟩),Y #[F E o.k,F E o.n,.bool o.b]] w fun e w'=>e=J (V #[])/\MS w0 w' M G (s.stop o)/\Fr M w w':=by
 refine(EJ M _ _ o.k o.n _ o.b w h.c4 h.c5 h.c6 (h.fz 4) (h.fz 5) (h.fz 6)).mono ?_;rintro e w' ⟨rfl,X,rfl⟩;have m:=h.lt;have g:Zc (((w.setCell ⟨M,4,A⟩ (F E o.k)).setCell ⟨M,5,A⟩ (F E o.n)).setCell ⟨M,6,A⟩ (.bool o.b)).heap.size (((w.setCell ⟨M,4,A⟩ (F E o.k)).setCell ⟨M,5,A⟩ (F E o.n)).setCell ⟨M,6,A⟩ (.bool o.b)) ((((w.setCell ⟨M,4,A⟩ (F E o.k)).setCell ⟨M,5,A⟩ (F E o.n)).setCell ⟨M,6,A⟩ (.bool o.b)).alloc X):=(S _ _).alloc (U _) _;have c:(((w.setCell ⟨M,4,A⟩ (F E o.k)).setCell ⟨M,5,A⟩ (F E o.n)).setCell ⟨M,6,A⟩ (.bool o.b)).heap.size=w.heap.size:=by simp[Zs]
 have b:∀i,((((w.setCell ⟨M,4,A⟩ (F E o.k)).setCell ⟨M,5,A⟩ (F E o.n)).setCell ⟨M,6,A⟩ (.bool o.b)).alloc X).cell? ⟨M,i,A⟩=(((w.setCell ⟨M,4,A⟩ (F E o.k)).setCell ⟨M,5,A⟩ (F E o.n)).setCell ⟨M,6,A⟩ (.bool o.b)).cell? ⟨M,i,A⟩:=fun i=>g.cell (p:=⟨M,i,A⟩) (by rw[c];exact m);have a:∀{u:Za}{i j:Nat}{v:Zn},i≠j->(u.setCell ⟨M,j,A⟩ v).cell? ⟨M,i,A⟩=u.cell? ⟨M,i,A⟩:=fun l=>Zh _ _ _ _ (by intro e;cases e;exact l rfl);refine⟨rfl,h.set (s':=s.stop o) _ ?_ ?_ rfl rfl ?_ ?_ ?_ ?_ ?_ ?_ ?_⟩
 .rw[b,a (by omega),a (by omega),a (by omega)]
 .rw[b,a (by omega),a (by omega),a (by omega)]
 .refine⟨rfl,rfl,rfl,by simp[Zs],fun k q d _=>?_⟩;rw[g.block k (by rw[c];exact q),Zl _ _ _ _ d,Zl _ _ _ _ d,Zl _ _ _ _ d]
 .rw[b,a (by omega),a (by omega),a (by omega)];exact h.c2
 .rw[b,a (by omega),a (by omega),a (by omega)];exact h.c3
 .rw[b,a (by omega),a (by omega)];exact Zi _ _ _ h.c4
 .rw[b,a (by omega)];exact Zi _ _ _ ((a (by omega)).trans h.c5)
 .rw[b];exact Zi _ _ _ ((a (by omega)).trans ((a (by omega)).trans h.c6))
 .intro i;rw[g.frozen (p:=⟨M,i,A⟩) (by rw[c];exact m)];simpa using h.fz i
theorem Lg{G:Gh}{s:St}(h:MS w0 w M G s):
  T L 154 #[C (I ⟨M,0,A⟩)] w fun e w'=>e=J (V #[])/\MS w0 w' M G (s.stop Yw)/\Fr M w w':=by
 have c:=h.lt;have H:=Yy h;clear h;go_enter func154,ntmps154;go_wp2_with fail;refine(Sb H.out Yw).mono ?_;rintro e w' ⟨rfl,a,b⟩;go_wp2_with fail;go_end0;exact⟨rfl,a,b⟩
structure Xv(w0 w:Za)(G:Gh)(w':Za)(H:Gh):Prop where
 le:G.le H
 hg:HG w0 w' H
 bel:Zc w.heap.size w w'
 new:∀b,H.ms b->G.ms b\/w.heap.size<=b
theorem Xv.refl{G:Gh}(h:HG w0 w G):Xv w0 w G w G:=⟨Gh.le.refl G,h,S _ _,fun _ h=>.inl h⟩
theorem Xv.trans{w2:Za}{G H K:Gh}(h:Xv w0 w G w1 H)(c:Xv w0 w1 H w2 K):Xv w0 w G w2 K:=by
 refine⟨h.le.trans c.le,c.hg,h.bel.trans (c.bel.mono h.bel.size),fun b a=>?_⟩;rcases c.new b a with a|a
 .exact h.new b a
 .exact .inr (Zt h.bel.size a)
theorem HG.below{G:Gh}(h:HG w0 w G)(hb:Zc w.heap.size w w'):HG w0 w' G:=h.of fun b hd i=>hb.cell (p:=⟨b,i,A⟩) (h.lt hd)
theorem Xv.below{G:Gh}(h:HG w0 w G)(hb:Zc w.heap.size w w'):Xv w0 w G w' G:=⟨Gh.le.refl G,h.below hb,hb,fun _ h=>.inl h⟩
theorem MS.post{G H:Gh}{s:St}(h:MS w0 w M G s)(a:Xv w0 w G w' H):MS w0 w' M H s/\Fr M w w':=by
 have e:=h.below a.bel;refine⟨e.grow a.le a.hg fun b d=>?_,Fr.below a.bel h.lt⟩;rcases a.new b d with d|d
 .exact e.far b d
 .have hM:=h.lt;refine⟨by omega,fun l=>?_⟩;obtain⟨u,hu,c⟩:=l.congr (a.bel.cell (p:=⟨M,0,A⟩) hM) (a.bel.cell (p:=⟨M,1,A⟩) hM);obtain⟨o,q,k,m,g,j,i,o1,_⟩:=h.ex;rcases c with c|c
  .rw[g] at c;cases c;have:=(i.lt b hu).2;omega
  .rw[j] at c;cases c;have:=(o1.lt b hu).2;omega
theorem VA(k n:Int)(b:Bool)(w:Za):
  T L 183 #[Y #[F E k,F E n,.bool b]] w fun e w'=>e=J (Y #[F E k,F E n,.bool (!b)])/\Zc w.heap.size w w':=by
 go_enter func183,ntmps183;go_wp2_with fail;refine Zd (v:=Y #[F E k,F E n,.bool (!b)]) (by simp[results,results183,go_sem]) rfl ⟨rfl,?_⟩;exact((S _ _).alloc (U _) _).alloc (by simp) _
theorem Tk(b:Nat)(k:Int)(w:Za):
  T L 184 #[C (I ⟨b,0,A⟩),F E k] w fun e w'=>e=J (C (I ⟨b,0,A⟩))/\w'=w:=by
 go_enter func184,ntmps184;go_wp2_with fail;go_ret;exact⟨rfl,rfl⟩
def Vg(k:Int):Obj:=Zj #[.bool N,F E 0,F E 0,.bool N,F E k,F E 0,F E 0,.bool N,C A,C A,.bool N] 203
theorem Tl(k:Int)(w:Za):
  T L 184 #[C A,F E k] w fun e w'=>e=J (C (I ⟨w.heap.size,0,A⟩))/\w'=w.alloc (Vg k):=by
 go_enter func184,ntmps184;go_wp2_with fail;go_ret;exact⟨rfl,rfl⟩
theorem TG(k:Int)(b:(k==3)=N)(a:Option Zp)(m c:Nat)(w:Za):
  T L 185 #[Y #[F E k,P a m c]] w fun e w'=>e=J (Y #[F E k,P A 0 0])/\Zc w.heap.size w w':=by
 go_enter func185,ntmps185;go_wp2_with fail;refine Zd (v:=Y #[F E k,P A 0 0]) (by simp[results,results185,go_sem]) rfl ⟨rfl,?_⟩;exact((S _ _).alloc (U _) _).alloc (by simp) _
theorem Cb(b:Nat)(k n:Int)(a:k=1\/k=2)(w:Za)(c:w.cell? ⟨b,0,A⟩=I (F E k))(d:w.cell? ⟨b,1,A⟩=I (F E n)):
  T L 74 #[C (I ⟨b,0,A⟩)] w fun e w'=>e=J (Y #[F E k,F E n,.bool N])/\Zc w.heap.size w w':=by
 have g:b<w.heap.size:=D _ _ c;rcases a with rfl|rfl
 all_goals
  go_enter ZM,ZH
  go_wp2_with fail
  refine Zd (v:=Y #[F E _,F E n,.bool N]) (by simp[results,ZD,go_sem]) rfl ⟨rfl,?_⟩
  exact(S _ _).alloc (U _) _
theorem Cc(b:Nat)(k:Int)(d:(k==5)=N)(c:(k==1)=N)(h:(k==2)=N)(w:Za)(a:w.cell? ⟨b,0,A⟩=I (F E k)):
  T L 74 #[C (I ⟨b,0,A⟩)] w fun e w'=>e=J (Y #[F E 3,F E 0,.bool N])/\Zc w.heap.size w w':=by
 have g:b<w.heap.size:=D _ _ a;go_enter ZM,ZH;go_wp2_with fail;refine Zd (v:=Y #[F E 3,F E 0,.bool N]) (by simp[results,ZD,go_sem]) rfl ⟨rfl,?_⟩;exact(S _ _).alloc (U _) _
theorem AD(b c:Nat)(k n:Int)(a:k=1\/k=2)(w:Za)(d:w.cell? ⟨b,0,A⟩=I (F E 5))(j:w.cell? ⟨b,4,A⟩=I (C (I ⟨c,0,A⟩)))(g:w.cell? ⟨c,0,A⟩=I (F E k))(i:w.cell? ⟨c,1,A⟩=I (F E n)):
  T L 74 #[C (I ⟨b,0,A⟩)] w fun e w'=>e=J (Y #[F E k,F E n,.bool N])/\Zc w.heap.size w w':=by
 have l:b<w.heap.size:=D _ _ d;have h:c<w.heap.size:=D _ _ g;rcases a with rfl|rfl
 all_goals
  go_enter ZM,ZH
  go_wp2_with fail
  refine Zd (v:=Y #[F E _,F E n,.bool N]) (by simp[results,ZD,go_sem]) rfl ⟨rfl,?_⟩
  exact(S _ _).alloc (U _) _
theorem AE(b c:Nat)(k:Int)(h:(k==1)=N)(l:(k==2)=N)(w:Za)(d:w.cell? ⟨b,0,A⟩=I (F E 5))(i:w.cell? ⟨b,4,A⟩=I (C (I ⟨c,0,A⟩)))(a:w.cell? ⟨c,0,A⟩=I (F E k)):
  T L 74 #[C (I ⟨b,0,A⟩)] w fun e w'=>e=J (Y #[F E 3,F E 0,.bool N])/\Zc w.heap.size w w':=by
 have j:b<w.heap.size:=D _ _ d;have g:c<w.heap.size:=D _ _ a;go_enter ZM,ZH;go_wp2_with fail;refine Zd (v:=Y #[F E 3,F E 0,.bool N]) (by simp[results,ZD,go_sem]) rfl ⟨rfl,?_⟩;exact(S _ _).alloc (U _) _
theorem Cd{G:Gh}(h:HG w0 w G){v:YJ}(i:G.vp p v):
  T L 74 #[C p] w fun e w'=>e=J (Y #[F E (XU v).k,F E (XU v).n,.bool (XU v).b])/\Zc w.heap.size w w':=by
 obtain⟨b,rfl,j⟩:=i;obtain⟨pb,ps,r,o,pa,d,l,q,x,g,h5,y,h7,z,k,a3,m⟩:=h.v b v j;have one:∀(u:YJ),(u.k=1\/u.k=2)->(if u.k=1 then (⟨1,u.n,N⟩:XG) else if u.k=2 then ⟨2,u.n,N⟩ else ⟨3,0,N⟩)=⟨u.k,u.n,N⟩:=fun u hu=>by rcases hu with hu|hu<;>simp[hu]
 have Sl:∀(u:YJ),¬(u.k=1\/u.k=2)->(if u.k=1 then (⟨1,u.n,N⟩:XG) else if u.k=2 then ⟨2,u.n,N⟩ else ⟨3,0,N⟩)=⟨3,0,N⟩:=fun u hu=>by rw[if_neg (fun h=>hu (.inl h)),if_neg (fun h=>hu (.inr h))]
 by_cases hk5:v.k=5
 .obtain⟨u,hi,c,rfl,hc⟩:=k (.inr hk5);obtain⟨_,_,_,_,_,u0,u1,_⟩:=h.v c u hc;have a:v.core=u:=by unfold YJ.core;rw[hi];rfl
  rw[hk5] at d;have e:XU v=if u.k=1 then (⟨1,u.n,N⟩:XG) else if u.k=2 then ⟨2,u.n,N⟩ else ⟨3,0,N⟩:=by unfold XU;simp only[hk5,a,if_true]
  rw[e];by_cases hu:u.k=1\/u.k=2
  .rw[one u hu];exact AD b c u.k u.n hu w d g u0 u1
  .rw[Sl u hu];exact AE b c u.k (by simpa using fun h=>hu (.inl h)) (by simpa using fun h=>hu (.inr h)) w d g u0
 .have e:XU v=if v.k=1 then (⟨1,v.n,N⟩:XG) else if v.k=2 then ⟨2,v.n,N⟩ else ⟨3,0,N⟩:=by unfold XU;simp only[hk5,if_false]
  rw[e];by_cases hu:v.k=1\/v.k=2
  .rw[one v hu];exact Cb b v.k v.n hu w d l
  .rw[Sl v hu];exact Cc b v.k (by simpa using hk5) (by simpa using fun h=>hu (.inl h)) (by simpa using fun h=>hu (.inr h)) w d
theorem DA{G:Gh}(h:HG w0 w G)(p:Option Zp)(e:List YJ)(hp:G.sp p e)(n:Nat)(hn:n<=1000000):
  T L 149 #[C p,F E n] w fun r w'=>w'=w/\∃q,r=J (C q)/\((q=A/\e[n]?=A)\/∃v,e[n]?=I v/\G.vp q v):=by
 have H:=Uy h hp;clear h hp;go_enter func149,ntmps149;go_wp2_with fail;go_loopg [0,1] n (fun k l u wr=>∃i,l=C i/\u=F E (k:Int)/\wr=w/\Zb (∃c,G.sp i c/\e[n]?=c[k]?/\k<=1000000))
 case atStart=>exact⟨p,rfl,rfl,rfl,e,H.out.2,rfl,hn⟩
 case round=>
  obtain⟨i,rfl,rfl,rfl,g⟩:=hrel;obtain⟨c,m,a,x⟩:=g.out;rcases m with⟨rfl,rfl⟩|⟨b,rfl,o⟩
  .have d:Zb (e[n]?=A):=by rw[a];rfl
   clear a g;go_wp2_with fail;go_ret;exact⟨rfl,A,rfl,.inl ⟨rfl,d.out⟩⟩
  .obtain⟨v,r,pv,ps,rfl,c0,c1,hv,hps⟩:=H.out.1.s b c o;have y:b<wr.heap.size:=D _ _ c0;match gk,a with
   |0,a=>
    have d:Zb (e[n]?=I v/\G.vp pv v):=⟨by rw[a];rfl,hv⟩
    clear a g hps hv;go_wp2_with fail;go_ret;exact⟨rfl,pv,rfl,.inr ⟨v,d.out⟩⟩
   |k+1,a=>
    have d:Zb (∃c,G.sp ps c/\e[n]?=c[k]?/\k<=1000000):=⟨r,hps,by rw[a];rfl,by omega⟩
    have j:(decide ((0:Int)<((k+1:Nat):Int)))=Ze:=by simp
    clear a g hps hv;go_wp2_with fail;go_roundg k
    case measure=>omega
    case rel=>exact⟨ps,rfl,by simp,rfl,d⟩
def Lw(w0 w:Za)(G:Gh)(c d:Option Ca)(e:ZR)(w':Za):Prop:=∃p H,e=J (C p)/\H.cp p (YH c d)/\Xv w0 w G w' H
theorem Cg(a:Option Zp)(w:Za):T L 201 #[C A,C a] w fun e w'=>e=J (C a)/\w'=w:=by go_enter ZC,ZA;go_wp2_with fail;go_ret;exact⟨rfl,rfl⟩
theorem Cf(b:Nat)(w:Za):T L 201 #[C (I ⟨b,0,A⟩),C A] w fun e w'=>e=J (C (I ⟨b,0,A⟩))/\w'=w:=by go_enter ZC,ZA;go_wp2_with fail;go_ret;exact⟨rfl,rfl⟩
theorem AJ(b c:Nat)(k:Int)(g:(k != 0)=Ze)(w:Za)(a:w.cell? ⟨b,5,A⟩=I (F E k)):T L 201 #[C (I ⟨b,0,A⟩),C (I ⟨c,0,A⟩)] w fun e w'=>e=J (C (I ⟨b,0,A⟩))/\w'=w:=by have d:b<w.heap.size:=D _ _ a;go_enter ZC,ZA;go_wp2_with fail;go_ret;exact⟨rfl,rfl⟩
def Lt(c:Ca)(pg pa:Option Zp):Obj:=Zj #[.bool c.opens,F E c.wrong.k,F E c.wrong.n,.bool c.wrong.b,F E c.kind,F E c.ends.k,F E c.ends.n,.bool c.ends.b,C pg,C pa,.bool c.hides] 203
theorem NS(w:Za)(c:Ca)(b a:Option Zp):K8 (w.alloc (Lt c b a)) w.heap.size c b a:=by constructor<;>simp[Lt,go_sem]
theorem Jp{B:Nat}{a:Za}(h:Zc B a w)(n:Nat):Zc B a (w.drewN n):=h.trans ⟨rfl,rfl,rfl,U _,fun _ _=>rfl⟩
theorem X8{u:Za}{v x:Zn}(h:u.cell? ⟨b,j,A⟩=I x):(u.setCell ⟨b,j,A⟩ v).cell? ⟨b,j,A⟩=I v:=Zi _ _ _ h
theorem Yo{u:Za}{i:Nat}{v:Zn}(h:i≠j):(u.setCell ⟨b,j,A⟩ v).cell? ⟨b,i,A⟩=u.cell? ⟨b,i,A⟩:=Zh _ _ _ _ (by intro e;cases e;exact h rfl)
theorem K8.ou(h:K8 W b c pg pa)(o:XG):K8 (((W.setCell ⟨b,5,A⟩ (F E o.k)).setCell ⟨b,6,A⟩ (F E o.n)).setCell ⟨b,7,A⟩ (.bool o.b)) b ⟨c.opens,c.wrong,c.kind,o,c.given,c.answer,c.hides⟩ pg pa:=by
 obtain⟨u,p,k,w,l,r,d,q,g,e,a⟩:=h;have far:∀i,i≠5->i≠6->i≠7->(((W.setCell ⟨b,5,A⟩ (F E o.k)).setCell ⟨b,6,A⟩ (F E o.n)).setCell ⟨b,7,A⟩ (.bool o.b)).cell? ⟨b,i,A⟩=W.cell? ⟨b,i,A⟩:=fun i j m x=>by rw[Yo x,Yo m,Yo j]
 refine⟨(far 0 (by omega) (by omega) (by omega)).trans u,(far 1 (by omega) (by omega) (by omega)).trans p,(far 2 (by omega) (by omega) (by omega)).trans k,(far 3 (by omega) (by omega) (by omega)).trans w,(far 4 (by omega) (by omega) (by omega)).trans l,?_,?_,?_,(far 8 (by omega) (by omega) (by omega)).trans g,(far 9 (by omega) (by omega) (by omega)).trans e,(far 10 (by omega) (by omega) (by omega)).trans a⟩
 .rw[Yo (by omega),Yo (by omega)];exact X8 r
 .rw[Yo (by omega)];exact X8 ((Yo (by omega)).trans d)
 .exact X8 ((Yo (by omega)).trans ((Yo (by omega)).trans q))
theorem K8.oa(h:K8 W b c pg pa)(o:Bool):K8 (W.setCell ⟨b,10,A⟩ (.bool o)) b ⟨c.opens,c.wrong,c.kind,c.ends,c.given,c.answer,o⟩ pg pa:=by obtain⟨p,k,i,q,j,m,d,l,g,e,a⟩:=h;exact⟨(Yo (by omega)).trans p,(Yo (by omega)).trans k,(Yo (by omega)).trans i,(Yo (by omega)).trans q,(Yo (by omega)).trans j,(Yo (by omega)).trans m,(Yo (by omega)).trans d,(Yo (by omega)).trans l,(Yo (by omega)).trans g,(Yo (by omega)).trans e,X8 a⟩
theorem K8.qb(h:K8 W b c pg pa)(p:Option Zp)(g:Option Ca):K8 (W.setCell ⟨b,8,A⟩ (C p)) b ⟨c.opens,c.wrong,c.kind,c.ends,g,c.answer,c.hides⟩ p pa:=by obtain⟨q,l,j,r,k,o,d,m,i,e,a⟩:=h;exact⟨(Yo (by omega)).trans q,(Yo (by omega)).trans l,(Yo (by omega)).trans j,(Yo (by omega)).trans r,(Yo (by omega)).trans k,(Yo (by omega)).trans o,(Yo (by omega)).trans d,(Yo (by omega)).trans m,X8 i,(Yo (by omega)).trans e,(Yo (by omega)).trans a⟩
theorem K8.oz(h:K8 W b c pg pa)(p:Option Zp)(g:Option Ca):K8 (W.setCell ⟨b,9,A⟩ (C p)) b ⟨c.opens,c.wrong,c.kind,c.ends,c.given,g,c.hides⟩ pg p:=by obtain⟨q,l,j,r,k,o,d,m,i,e,a⟩:=h;exact⟨(Yo (by omega)).trans q,(Yo (by omega)).trans l,(Yo (by omega)).trans j,(Yo (by omega)).trans r,(Yo (by omega)).trans k,(Yo (by omega)).trans o,(Yo (by omega)).trans d,(Yo (by omega)).trans m,(Yo (by omega)).trans i,X8 e,(Yo (by omega)).trans a⟩
theorem Ch(b q:Nat)(c d:Ca)(i l a g:Option Zp)(h0:(c.ends.k != 0)=N)(hk:(d.kind != c.kind)=Ze)(w:Za)(h:K8 w b c i l)(hd:K8 w q d a g):
  T L 201 #[C (I ⟨b,0,A⟩),C (I ⟨q,0,A⟩)] w fun e w'=>e=J (C (I ⟨w.heap.size,0,A⟩))/\K8 w' w.heap.size ⟨c.opens,c.wrong,c.kind,d.wrong,A,A,N⟩ A A/\Zc w.heap.size w w':=by
 have lb:b<w.heap.size:=D _ _ h.c0;have lq:q<w.heap.size:=D _ _ hd.c0;obtain⟨c0,c1,o,x,c4,z,c6,c7,y,c9,j⟩:=h;obtain⟨p,d1,r,u,d4,d5,d6,d7,d8,d9,m⟩:=hd;have k:Zb (∀n,K8 ((w.alloc (Lt ⟨c.opens,c.wrong,c.kind,Yn,A,A,N⟩ A A)).drewN n) w.heap.size ⟨c.opens,c.wrong,c.kind,Yn,A,A,N⟩ A A):=fun n=>(NS w ⟨c.opens,c.wrong,c.kind,Yn,A,A,N⟩ A A).of fun _=>rfl;go_enter ZC,ZA;go_wp2_with fail;go_region
 all_goals
  go_wp2_with fail
  go_quiet (fail)
  go_wp2_with fail
  go_ret
  refine⟨rfl,(k.out _).ou d.wrong,?_⟩
  exact(((Jp ((S _ _).alloc (U _) _) _).setCell (by simp) _).setCell (by simp) _).setCell (by simp) _
theorem SC{G H:Gh}{x:Ca}(a:G.le H)(d:HG w0 W H)(e:Zc w.heap.size w W)(j:∀b,H.ms b->G.ms b\/w.heap.size<=b)(hd:¬H.ms w.heap.size)(i:K8 W w.heap.size x pg pa)(g:H.cp pg x.given)(c:H.cp pa x.answer):Xv w0 w G W (H.mw w.heap.size x)/\(H.mw w.heap.size x).cp (I ⟨w.heap.size,0,A⟩) (I x):=by
 refine⟨⟨a.trans (Gh.nt hd),d.mw hd i g c,e,fun b h=>?_⟩,Gh.ol _ _ _⟩;rcases Gh.ny h with rfl|h
 .exact .inr (U _)
 .exact j b h
theorem AK(b q:Nat)(c d:Ca)(pg pa a7 aa:Option Zp)(h0:(c.ends.k != 0)=N)(m:(d.kind != c.kind)=N)(w0 w:Za)(G:Gh)(hG:HG w0 w G)(hc:K8 w b c pg pa)(hd:K8 w q d a7 aa)
  (aj:∀W,HG w0 W G->T L 201 #[C a7,C pg] W (Lw w0 W G d.given c.given))
  (ac:∀W H,G.le H->HG w0 W H->T L 201 #[C pa,C aa] W (Lw w0 W H c.answer d.answer)) :
  T L 201 #[C (I ⟨b,0,A⟩),C (I ⟨q,0,A⟩)] w fun e w'=>∃H,e=J (C (I ⟨w.heap.size,0,A⟩))/\H.cp (I ⟨w.heap.size,0,A⟩) (I ⟨c.opens,c.wrong,c.kind,d.ends,YH d.given c.given,YH c.answer d.answer,d.hides⟩)/\Xv w0 w G w' H:=by
 have lb:b<w.heap.size:=D _ _ hc.c0;have lq:q<w.heap.size:=D _ _ hd.c0;have H1:=LL hG hc hd;have au:=Yy aj;have am:=Yy ac;obtain⟨c0,c1,c2,c3,c4,c5,c6,c7,c8,c9,ar⟩:=hc;obtain⟨d0,d1,d2,d3,d4,d5,d6,d7,d8,d9,aw⟩:=hd;have HN:Zb (∀n,K8 ((w.alloc (Lt ⟨c.opens,c.wrong,c.kind,Yn,A,A,N⟩ A A)).drewN n) w.heap.size ⟨c.opens,c.wrong,c.kind,Yn,A,A,N⟩ A A):=fun n=>(NS w ⟨c.opens,c.wrong,c.kind,Yn,A,A,N⟩ A A).of fun _=>rfl;clear hG aj ac;go_enter ZC,ZA;go_wp2_with fail;go_region
 all_goals
  go_wp2_with fail
  go_quiet (fail)
  go_wp2_with fail
  go_region
  all_goals
   obtain⟨j,u⟩:∃W,W=((((((w.alloc (Lt ⟨c.opens,c.wrong,c.kind,Yn,A,A,N⟩ A A)).drewN (1+nq+1)).setCell ⟨w.heap.size,5,A⟩ (F E d.ends.k)).setCell ⟨w.heap.size,6,A⟩ (F E d.ends.n)).setCell ⟨w.heap.size,7,A⟩ (.bool d.ends.b)).setCell ⟨w.heap.size,10,A⟩ (.bool d.hides)):=⟨_,rfl⟩
   have a0:bL w j:=by rw[u];exact((((Jp ((S _ _).alloc (U _) _) _).setCell (by simp) _).setCell (by simp) _).setCell (by simp) _).setCell (by simp) _
   have a8:K8 j w.heap.size ⟨c.opens,c.wrong,c.kind,d.ends,A,A,d.hides⟩ A A:=by rw[u];exact((HN.out _).ou d.ends).oa d.hides
   have ah:∀o,j.frozen? ⟨w.heap.size,o,A⟩=N:=by intro o;rw[u];simp[Lt,go_sem]
   have y:w.heap.size<j.heap.size:=D _ _ a8.c0
   unfold Lt Yn at u
   rw[<-u]
   have g:Zb (HG w0 j.drew G/\K8 j.drew w.heap.size ⟨c.opens,c.wrong,c.kind,d.ends,A,A,d.hides⟩ A A/\(∀o,j.drew.frozen? ⟨w.heap.size,o,A⟩=N)/\bL w j.drew/\K8 j b c pg pa/\K8 j q d a7 aa):=⟨H1.out.1.below a0.drew,a8.of (fun _=>rfl),ah,a0.drew,H1.out.2.1.of fun i=>a0.cell (p:=⟨b,i,A⟩) lb,H1.out.2.2.of fun i=>a0.cell (p:=⟨q,i,A⟩) lq⟩
   have x8:=g.out.2.2.2.2.1.c8
   have y8:=g.out.2.2.2.2.2.c8
   have an:b<j.heap.size:=by omega
   have aq:q<j.heap.size:=by omega
   clear u a0 a8 ah c0 c1 c2 c3 c4 c5 c6 c7 c8 c9 ar d0 d1 d2 d3 d4 d5 d6 d7 d8 d9 aw HN
   go_wp2_with fail
   go_region_with (go_at_call 201;refine(au.out _ g.out.1).mono ?_;rintro e w4 ⟨p1,H4,rfl,a2,a⟩;have z8:cL w4 w.heap.size 8 (C A):=(a.bel.cell (p:=⟨w.heap.size,8,A⟩) y).trans g.out.2.1.c8;have zf:w4.frozen? ⟨w.heap.size,8,A⟩=N:=(a.bel.frozen (p:=⟨w.heap.size,8,A⟩) y).trans (g.out.2.2.1 8))
   all_goals
    have a4:¬H4.ms w.heap.size:=fun hd=>by
     rcases a.new _ hd with hd|hd
     .have:=H1.out.1.lt hd;omega
     .have:j.drew.heap.size=j.heap.size:=rfl;omega
    have ap:w.heap.size<w4.heap.size:=D _ _ z8
    obtain⟨l,r⟩:∃W,W=w4.setCell ⟨w.heap.size,8,A⟩ (C p1):=⟨_,rfl⟩
    have ak:=g.out.2.2.2.1.trans (a.bel.mono g.out.2.2.2.1.size)
    have a1:bL w l:=by rw[r];exact ak.setCell (U _) _
    have ad:K8 w4 w.heap.size ⟨c.opens,c.wrong,c.kind,d.ends,A,A,d.hides⟩ A A:=g.out.2.1.of fun i=>a.bel.cell (p:=⟨w.heap.size,i,A⟩) y
    have a3:K8 l w.heap.size ⟨c.opens,c.wrong,c.kind,d.ends,YH d.given c.given,A,d.hides⟩ p1 A:=by rw[r];exact ad.qb p1 _
    have ai:∀o,l.frozen? ⟨w.heap.size,o,A⟩=N:=by intro o;rw[r];have:=(a.bel.frozen (p:=⟨w.heap.size,o,A⟩) y).trans (g.out.2.2.1 o);simpa using this
    have al:HG w0 l H4:=by rw[r];exact a.hg.of fun k m i=>Zg _ _ _ _ (by intro e;simp only at e;exact a4 (e▸m))
    have a9:w.heap.size<l.heap.size:=D _ _ a3.c0
    rw[<-r]
    have af:∀k,H4.ms k->G.ms k\/w.heap.size<=k:=fun k m=>by
     rcases a.new k m with m|m
     .exact .inl m
     .have:j.drew.heap.size=j.heap.size:=rfl;exact .inr (by omega)
    have z:Zb (HG w0 l.drew H4/\K8 l.drew w.heap.size ⟨c.opens,c.wrong,c.kind,d.ends,YH d.given c.given,A,d.hides⟩ p1 A/\(∀o,l.drew.frozen? ⟨w.heap.size,o,A⟩=N)/\bL w l.drew/\H4.cp p1 (YH d.given c.given)/\G.le H4/\(∀k,H4.ms k->G.ms k\/w.heap.size<=k)/\¬H4.ms w.heap.size):=⟨al.below ((S _ _).drew),a3.of (fun _=>rfl),ai,a1.drew,a2,a.le,af,a4⟩
    have x9:=(H1.out.2.1.of fun i=>a1.cell (p:=⟨b,i,A⟩) lb).c9
    have y9:=(H1.out.2.2.of fun i=>a1.cell (p:=⟨q,i,A⟩) lq).c9
    have ay:b<l.heap.size:=by omega
    have ax:q<l.heap.size:=by omega
    clear r a1 a3 ai al a4 ap ak ad a a2 z8 zf x8 y8 an aq g y af
    go_wp2_with fail
    go_region_with (go_at_call 201;refine(am.out _ _ z.out.2.2.2.2.2.1 z.out.1).mono ?_;rintro e w6 ⟨p2,H6,rfl,ab,h⟩;have z9:cL w6 w.heap.size 9 (C A):=(h.bel.cell (p:=⟨w.heap.size,9,A⟩) a9).trans z.out.2.1.c9;have zf:w6.frozen? ⟨w.heap.size,9,A⟩=N:=(h.bel.frozen (p:=⟨w.heap.size,9,A⟩) a9).trans (z.out.2.2.1 9))
    all_goals
     go_wp2_with fail
     go_ret
     obtain⟨g5,a5,f5,b5,av,ao,n4,d4⟩:=z.out
     have ae:¬H6.ms w.heap.size:=fun hd=>by
      rcases h.new _ hd with hd|hd
      .exact d4 hd
      .have:l.drew.heap.size=l.heap.size:=rfl;omega
     have a6:K8 w6 w.heap.size ⟨c.opens,c.wrong,c.kind,d.ends,YH d.given c.given,A,d.hides⟩ p1 A:=a5.of fun i=>h.bel.cell (p:=⟨w.heap.size,i,A⟩) a9
     have b6:=b5.trans (h.bel.mono b5.size)
     have g7:HG w0 (w6.setCell ⟨w.heap.size,9,A⟩ (C p2)) H6:=h.hg.of fun k m i=>Zg _ _ _ _ (by intro e;simp only at e;exact ae (e▸m))
     obtain⟨r1,r2⟩:=SC (x:=⟨c.opens,c.wrong,c.kind,d.ends,YH d.given c.given,YH c.answer d.answer,d.hides⟩) (ao.trans h.le) g7 (b6.setCell (U _) _) (fun k m=>by
      rcases h.new k m with m|m
      .exact n4 k m
      .have:l.drew.heap.size=l.heap.size:=rfl;exact .inr (by omega)) ae (a6.oz p2 _) (av.le h.le) ab
     exact⟨_,rfl,r2,r1⟩
theorem Po(w0:Za):∀(n:Nat)(c d:Option Ca)(pc pd:Option Zp)(w:Za)(G:Gh),SizeOf.sizeOf c+SizeOf.sizeOf d<=n->HG w0 w G->G.cp pc c->G.cp pd d->T L 201 #[C pc,C pd] w (Lw w0 w G c d)
 |0,c,d,_,_,_,_,h,_,_,_=>by cases c<;>simp at h
 |n+1,c,d,pc,pd,w,G,hn,hG,hc,hd=>by
  rcases hc with⟨rfl,rfl⟩|⟨b,x,rfl,rfl,hb⟩
  .refine(Cg pd w).mono ?_;rintro e w' ⟨rfl,rfl⟩;exact⟨pd,G,rfl,by rw[Xw];exact hd,Xv.refl hG⟩
  rcases hd with⟨rfl,rfl⟩|⟨q,y,rfl,rfl,hq⟩
  .refine(Cf b w).mono ?_;rintro e w' ⟨rfl,rfl⟩;exact⟨_,G,rfl,by rw[XI];exact .inr ⟨b,x,rfl,rfl,hb⟩,Xv.refl hG⟩
  obtain⟨pg,pa,hx,xg,xa⟩:=hG.c b x hb;obtain⟨pg',pa',hy,yg,ya⟩:=hG.c q y hq;by_cases h0:x.ends.k=0
  .have h0':(x.ends.k != 0)=N:=by simpa using h0
   have a:¬G.ms w.heap.size:=fun h=>by have:=hG.lt h;omega
   by_cases g:y.kind=x.kind
   .have hsz:SizeOf.sizeOf y.given+SizeOf.sizeOf x.given<=n/\SizeOf.sizeOf x.answer+SizeOf.sizeOf y.answer<=n:=by
     cases x;cases y
     simp at hn ⊢;omega
    refine(AK b q x y pg pa pg' pa' h0' (by simpa using g) w0 w G hG hx hy (fun W j=>Po w0 n _ _ _ _ W G hsz.1 j yg xg) (fun W H m j=>Po w0 n _ _ _ _ W H hsz.2 j (xa.le m) (ya.le m))).mono ?_;rintro e w' ⟨H,rfl,l,i⟩;exact⟨_,H,rfl,by rw[JC,if_pos h0,if_pos g];exact l,i⟩
   .refine(Ch b q x y pg pa pg' pa' h0' (by simpa using g) w hx hy).mono ?_;rintro e w' ⟨rfl,l,i⟩;obtain⟨p,o⟩:=SC (w0:=w0) (Gh.le.refl G) (hG.below i) i (fun k g=>.inl g) a l (Gh.lp _) (Gh.lp _);exact⟨_,_,rfl,by rw[JC,if_pos h0,if_neg g];exact o,p⟩
  .refine(AJ b q x.ends.k (by simpa using h0) w hx.c5).mono ?_;rintro e w' ⟨rfl,rfl⟩;exact⟨_,G,rfl,by rw[JC,if_neg h0];exact .inr ⟨b,x,rfl,rfl,hb⟩,Xv.refl hG⟩
theorem SD{G:Gh}(hG:HG w0 w G){c d:Option Ca}{pd:Option Zp}(hc:G.cp pc c)(hd:G.cp pd d):T L 201 #[C pc,C pd] w (Lw w0 w G c d):=Po w0 _ c d pc pd w G (U _) hG hc hd
def Nv(k n:Int)(pb ps pi pg pa:Option Zp)(z:Int):Obj:=Zj #[F E k,F E n,C pb,C ps,C pi,C pg,C pa,F E z] 172
theorem MA{k n:Int}{pb pi:Option Zp}{z:Int}{G:Gh}(a:∀i,W.cell? ⟨w.heap.size,i,A⟩=(w.alloc (Nv k n pb ps pi pg pa z)).cell? ⟨w.heap.size,i,A⟩){v:YJ}(b:v.k=k)(g:v.n=n)(e:v.az=z)(h:v.k=3->O2 w0 pb v.body/\G.sp ps v.env)(d:v.k=4\/v.k=5->∃u,v.inn=[u]/\G.vp pi u)(j:G.cp pg v.given)(c:G.cp pa v.answer):BU w0 W G w.heap.size v:=by refine⟨pb,ps,pi,pg,pa,?_,?_,?_,?_,?_,?_,?_,?_,h,d,j,c⟩<;>rw[a]<;>simp[Nv,go_sem,b,g,e]
theorem O5{G:Gh}(c:HG w0 w G)(a:Zc w.heap.size w W){v:YJ}(d:BU w0 W G w.heap.size v):Xv w0 w G W (G.nj w.heap.size v)/\(G.nj w.heap.size v).vp (I ⟨w.heap.size,0,A⟩) v:=by
 have hd:¬G.ms w.heap.size:=fun h=>by have:=c.lt h;omega
 refine⟨⟨Gh.oq hd,(c.below a).nj hd d,a,fun b h=>?_⟩,Gh.qj _ _ _⟩;rcases Gh.pu h with rfl|h
 .exact .inr (U _)
 .exact .inl h
def As(w0 w:Za)(G:Gh)(v:YJ)(e:ZR)(w':Za):Prop:=∃p H,e=J (C p)/\H.vp p v/\Xv w0 w G w' H
theorem Se(f c:Nat)(k:Int)(l:(k != 4)=Ze)(a b:Option Zp)(w:Za)(g:w.cell? ⟨f,0,A⟩=I (F E k))(d:w.cell? ⟨c,8,A⟩=I (C a))(j:w.cell? ⟨c,9,A⟩=I (C b)):
  T L 186 #[C (I ⟨f,0,A⟩),C (I ⟨c,0,A⟩)] w fun e w'=>e=J (C (I ⟨w.heap.size,0,A⟩))/\(∀i,w'.cell? ⟨w.heap.size,i,A⟩=(w.alloc (Nv 4 0 A A (I ⟨f,0,A⟩) a b 0)).cell? ⟨w.heap.size,i,A⟩)/\Zc w.heap.size w w':=by
 have m:f<w.heap.size:=D _ _ g;have h:c<w.heap.size:=D _ _ d;go_enter func186,ntmps186;go_wp2_with fail;go_region
 all_goals
  go_wp2_with fail
  go_ret
  exact⟨rfl,fun _=>rfl,((S _ _).alloc (U _) _).drew⟩
theorem Vp(f c:Nat)(w0 w:Za)(G:Gh)(pi pfg pfa pg pa:Option Zp)(xg xa yg ya:Option Ca)(hG:HG w0 w G)(f0:w.cell? ⟨f,0,A⟩=I (F E 4))(f4:w.cell? ⟨f,4,A⟩=I (C pi))(f5:w.cell? ⟨f,5,A⟩=I (C pfg))(f6:w.cell? ⟨f,6,A⟩=I (C pfa))(c8:w.cell? ⟨c,8,A⟩=I (C pg))(c9:w.cell? ⟨c,9,A⟩=I (C pa))
  (hxg:G.cp pg xg) (hyg:G.cp pfg yg) (hya:G.cp pfa ya) (hxa:G.cp pa xa) :
  T L 186 #[C (I ⟨f,0,A⟩),C (I ⟨c,0,A⟩)] w fun e w'=>∃(w3:Za)(H:Gh)(p1 p2:Option Zp),e=J (C (I ⟨w3.heap.size,0,A⟩))/\Xv w0 w G w3 H/\H.cp p1 (YH xg yg)/\H.cp p2 (YH ya xa)/\(∀i,w'.cell? ⟨w3.heap.size,i,A⟩=(w3.alloc (Nv 4 0 A A pi p1 p2 0)).cell? ⟨w3.heap.size,i,A⟩)/\Zc w3.heap.size w3 w':=by
 have y:f<w.heap.size:=D _ _ f0;have x:c<w.heap.size:=D _ _ c8;have o:Zb (∀w':Za,bL w w'->(cL w' f 4 (C pi)/\cL w' f 5 (C pfg)/\cL w' f 6 (C pfa)/\cL w' c 8 (C pg)/\cL w' c 9 (C pa))):=fun w' h=>⟨Q h f4,Q h f5,Q h f6,Q h c8,Q h c9⟩
 have l:Zb (T L 201 #[C pg,C pfg] w.drew (Lw w0 w.drew G xg yg)):=SD (hG.below ((S _ _).drew)) hxg hyg;have k:Zb (∀W H,G.le H->HG w0 W H->T L 201 #[C pfa,C pa] W (Lw w0 W H ya xa)):=fun W H m u=>SD u (hya.le m) (hxa.le m);have a:bL w w.drew:=(S _ _).drew;clear hxg hyg hya hxa;go_enter func186,ntmps186;go_wp2_with fail;clear f4 f5 f6 c8 c9;go_region_held3 (fun w'=>cL w' f 4 (C pi)/\cL w' f 5 (C pfg)/\cL w' f 6 (C pfa)/\cL w' c 8 (C pg)/\cL w' c 9 (C pa))
  (first
   |exact o.out _ a
   |exact o.out _ (a.alloc (by have:=a.size;omega) _)
   |go_keep)
  (first
   |(go_at_call 201;refine l.out.mono ?_;rintro e z ⟨p1,r,rfl,j,b⟩;replace a:=a.trans (b.bel.mono a.size);clear l)
   |(go_at_call 201;refine(k.out _ r b.le b.hg).mono ?_;rintro e w3 ⟨p2,p,rfl,g,d⟩;replace a:=a.trans (d.bel.mono a.size);clear k))
 go_wp2_with fail;go_ret;have q:Xv w0 w G w3 p:=(Xv.below hG ((S _ _).drew)).trans (b.trans d);exact⟨w3,p,p1,p2,rfl,q,j.le d.le,g,fun _=>rfl,(S _ _).alloc (U _) _⟩
theorem WQ{G:Gh}(i:HG w0 w G){f:YJ}(hf:G.vp p f)(hc:G.cp q (I c)):T L 186 #[C p,C q] w (As w0 w G (Un f c)):=by
 obtain⟨b,rfl,hb⟩:=hf;rcases hc with⟨_,h⟩|⟨x,y,rfl,e,hx⟩
 .cases h
 cases e
 obtain⟨pb,ps,pi,pg,pa,k,h1,h2,h3,h4,h5,h6,h7,a1,a2,a3,a4⟩:=i.v b f hb;obtain⟨qg,qa,g,cg,ca⟩:=i.c x c hx;by_cases hk:f.k=4
 .rw[hk] at k;obtain⟨u,hi,hu⟩:=a2 (.inl hk);have d:f.core=u:=by unfold YJ.core;rw[hi];rfl
  refine(Vp b x w0 w G pi pg pa qg qa c.given c.answer f.given f.answer i k h4 h5 h6 g.c8 g.c9 cg a3 a4 ca).mono ?_;rintro e w' ⟨w3,H,p1,p2,rfl,l,c1,c2,a,a0⟩;have r:Un f c=KF u (YH c.given f.given) (YH f.answer c.answer):=by unfold Un;rw[if_pos hk,d]
  have z:BU w0 w' H w3.heap.size (Un f c):=by rw[r];exact MA a rfl rfl rfl (fun h=>by simp[KF] at h) (fun _=>⟨u,rfl,hu.le l.le⟩) c1 c2
  obtain⟨j,o⟩:=O5 l.hg a0 z;exact⟨_,_,rfl,o,l.trans j⟩
 .refine(Se b x f.k (by simpa using hk) qg qa w k g.c8 g.c9).mono ?_;rintro e w' ⟨rfl,a,m⟩;have r:Un f c=KF f c.given c.answer:=by unfold Un;rw[if_neg hk]
  have z:BU w0 w' G w.heap.size (Un f c):=by rw[r];exact MA a rfl rfl rfl (fun h=>by simp[KF] at h) (fun _=>⟨f,rfl,b,rfl,hb⟩) cg ca
  obtain⟨j,o⟩:=O5 i m z;exact⟨_,_,rfl,o,j⟩
theorem Ev(c:Nat)(op hi:Bool)(kind:Int)(pg pa p p1:Option Zp)(w:Za)(c0:w.cell? ⟨c,0,A⟩=I (.bool op))(c4:w.cell? ⟨c,4,A⟩=I (F E kind))(c8:w.cell? ⟨c,8,A⟩=I (C pg))(c9:w.cell? ⟨c,9,A⟩=I (C pa))(c10:w.cell? ⟨c,10,A⟩=I (.bool hi))
  (hop:op=Ze->∃b,p=I ⟨b,0,A⟩/\w.cell? ⟨b,4,A⟩=I (C p1)) (hnop:op=N->p1=p) (Z:Option Zp->Za->Prop) (hz:pg.isSome=N->pa.isSome=N->Z p1 w) (hc:pg.isSome=Ze\/pa.isSome=Ze->T L 186 #[C p1,C (I ⟨c,0,A⟩)] w fun e w'=>∃q,e=J (C q)/\Z q w'/\Zc w.heap.size w w') :
  T L 158 #[C (I ⟨c,0,A⟩),C p] w fun e w'=>∃q W,Z q W/\((hi=N/\e=J (C q)/\w'=W)\/(hi=Ze/\e=J (C (I ⟨W.heap.size,0,A⟩))/\w'=W.alloc (Nv 5 0 A A q A A kind))):=by
 have m:c<w.heap.size:=D _ _ c0;have o:=Yy hz;have r:=Yy hc;clear hz hc;cases op
 .have e:=hnop rfl;subst e;clear hop hnop;cases pg with
  |none=>
   cases pa with
   |none=>
    cases hi<;>(go_enter Zx,Zv;go_wp2_with fail;go_ret)
    .exact⟨p1,w,o.out rfl rfl,.inl ⟨by trivial,rfl,rfl⟩⟩
    .exact⟨p1,w,o.out rfl rfl,.inr ⟨by trivial,rfl,rfl⟩⟩
   |some a=>
    cases hi
    all_goals
     go_enter Zx,Zv
     go_wp2_with fail
     refine(r.out (.inr rfl)).mono ?_
     rintro e j ⟨q,rfl,i,h⟩
     have u:=Q h c4
     have l:=Q h c10
     have k:=Zk m h.size
     have d:=Yy i
     clear i
     go_wp2_with fail
     go_ret
    .exact⟨q,j,d.out,.inl ⟨by trivial,rfl,rfl⟩⟩
    .exact⟨q,j,d.out,.inr ⟨by trivial,rfl,rfl⟩⟩
  |some g=>
   cases hi
   all_goals
    go_enter Zx,Zv
    go_wp2_with fail
    refine(r.out (.inl rfl)).mono ?_
    rintro e j ⟨q,rfl,i,h⟩
    have u:=Q h c4
    have l:=Q h c10
    have k:=Zk m h.size
    have d:=Yy i
    clear i
    go_wp2_with fail
    go_ret
   .exact⟨q,j,d.out,.inl ⟨by trivial,rfl,rfl⟩⟩
   .exact⟨q,j,d.out,.inr ⟨by trivial,rfl,rfl⟩⟩
 .obtain⟨b,rfl,b4⟩:=hop rfl;have x:b<w.heap.size:=D _ _ b4;clear hop hnop;cases pg with
  |none=>
   cases pa with
   |none=>
    cases hi<;>(go_enter Zx,Zv;go_wp2_with fail;go_ret)
    .exact⟨p1,w,o.out rfl rfl,.inl ⟨by trivial,rfl,rfl⟩⟩
    .exact⟨p1,w,o.out rfl rfl,.inr ⟨by trivial,rfl,rfl⟩⟩
   |some a=>
    cases hi
    all_goals
     go_enter Zx,Zv
     go_wp2_with fail
     refine(r.out (.inr rfl)).mono ?_
     rintro e j ⟨q,rfl,i,h⟩
     have u:=Q h c4
     have l:=Q h c10
     have k:=Zk m h.size
     have d:=Yy i
     clear i
     go_wp2_with fail
     go_ret
    .exact⟨q,j,d.out,.inl ⟨by trivial,rfl,rfl⟩⟩
    .exact⟨q,j,d.out,.inr ⟨by trivial,rfl,rfl⟩⟩
  |some g=>
   cases hi
   all_goals
    go_enter Zx,Zv
    go_wp2_with fail
    refine(r.out (.inl rfl)).mono ?_
    rintro e j ⟨q,rfl,i,h⟩
    have u:=Q h c4
    have l:=Q h c10
    have k:=Zk m h.size
    have d:=Yy i
    clear i
    go_wp2_with fail
    go_ret
   .exact⟨q,j,d.out,.inl ⟨by trivial,rfl,rfl⟩⟩
   .exact⟨q,j,d.out,.inr ⟨by trivial,rfl,rfl⟩⟩
theorem Aq{G:Gh}{c:Option Ca}(h:G.cp p c):p.isSome=c.isSome:=by rcases h with⟨rfl,rfl⟩|⟨b,x,rfl,rfl,_⟩<;>rfl
theorem Ff{G:Gh}(r:HG w0 w G){v:YJ}(hv:G.vp p v)(hc:G.cp q (I c))(ho:c.opens=Ze->v.k=5):T L 158 #[C q,C p] w (As w0 w G (OE c v)):=by
 rcases hc with⟨_,h⟩|⟨x,y,rfl,e,hx⟩
 .cases h
 cases e
 obtain⟨qg,qa,j,cg,ca⟩:=r.c x c hx;obtain⟨b,rfl,m⟩:=hv;obtain⟨pb,ps,pi,pg,pa,h0,h1,h2,h3,h4,h5,h6,h7,a1,a2,a3,a4⟩:=r.v b v m;obtain⟨k,d,a,l⟩:∃k,G.vp k (if c.opens=Ze then v.core else v)/\(c.opens=Ze->∃b',(I ⟨b,0,A⟩:Option Zp)=I ⟨b',0,A⟩/\cL w b' 4 (C k))/\(c.opens=N->k=I ⟨b,0,A⟩):=by
  by_cases a:c.opens=Ze
  .obtain⟨u,hi,hu⟩:=a2 (.inr (ho a));have g:v.core=u:=by unfold YJ.core;rw[hi];rfl
   exact⟨pi,by rw[if_pos a,g];exact hu,fun _=>⟨b,rfl,h4⟩,fun h=>by rw[a] at h;cases h⟩
  .exact⟨I ⟨b,0,A⟩,by rw[if_neg a];exact⟨b,rfl,m⟩,fun h=>absurd h a,fun _=>rfl⟩
 obtain⟨u,hu⟩:∃u,u=if c.opens=Ze then v.core else v:=⟨_,rfl⟩
 rw[<-hu] at d;obtain⟨z,hz⟩:∃z,z=if c.given.isSome=Ze\/c.answer.isSome=Ze then Un u c else u:=⟨_,rfl⟩
 have e1:OE c v=if c.hides=Ze then XX z c.kind else z:=by unfold OE;simp only;rw[<-hu,<-hz]
 rw[e1];have gg:=Aq cg;have ga:=Aq ca;refine(Ev x c.opens c.hides c.kind qg qa (I ⟨b,0,A⟩) k w j.c0 j.c4 j.c8 j.c9 j.c10 a l (fun q W=>∃H,H.vp q z/\Xv w0 w G W H) (fun n1 n2=>⟨G,?_,Xv.refl r⟩) (fun hs=>?_)).mono ?_
 .rw[hz,if_neg (by rw[<-gg,<-ga,n1,n2];simp)];exact d
 .refine(WQ r d (.inr ⟨x,c,rfl,rfl,hx⟩)).mono ?_;rintro e w' ⟨q,H,rfl,o,i⟩;exact⟨q,rfl,⟨H,by rw[hz,if_pos (by rw[<-gg,<-ga];exact hs)];exact o,i⟩,i.bel⟩
 .rintro e w' ⟨q,W,⟨H,o,i⟩,⟨hh,rfl,rfl⟩|⟨hh,rfl,rfl⟩⟩
  .exact⟨q,H,rfl,by rw[hh];exact o,i⟩
  .have m:bL W (W.alloc (Nv 5 0 A A q A A c.kind)):=(S _ _).alloc (U _) _;have a0:BU w0 (W.alloc (Nv 5 0 A A q A A c.kind)) H W.heap.size (XX z c.kind):=MA (fun _=>rfl) rfl rfl rfl (fun h=>by simp[XX] at h) (fun _=>⟨z,rfl,o⟩) (Gh.lp _) (Gh.lp _);obtain⟨r1,r2⟩:=O5 i.hg m a0;exact⟨_,_,rfl,by rw[if_pos hh];exact r2,i.trans r1⟩
def YE(w0 w:Za)(M:Nat)(G:Gh)(s:St)(e:ZR)(w':Za):Prop:=e=J (V #[])/\∃H,G.le H/\MS w0 w' M H s/\Fr M w w'
theorem YE.of{G:Gh}{s:St}{e:ZR}(he:e=J (V #[]))(h:MS w0 w' M G s)(hf:Fr M w w'):YE w0 w M G s e w':=⟨he,G,Gh.le.refl G,h,hf⟩
theorem VU{G:Gh}{s:St}(h:MS w0 w M G s):T L 148 #[C (I ⟨M,0,A⟩),C A] w (YE w0 w M G (s.stop Yw)):=by have H:=Yy h;clear h;go_enter func148,ntmps148;go_wp2_with fail;refine(Lg H.out).mono ?_;rintro e w' ⟨rfl,a,b⟩;have c:=Yy (YE.of rfl a b);clear a b;go_wp2_with fail;go_end0;exact c.out
theorem VT{G:Gh}{s:St}(h:MS w0 w M G s){v:YJ}(a:G.vp (I ⟨b,0,A⟩) v)(g:s.vs.length+1<=1000000000):T L 148 #[C (I ⟨M,0,A⟩),C (I ⟨b,0,A⟩)] w (YE w0 w M G (s.push v)):=by have H:=LL h a g;clear h a g;go_enter func148,ntmps148;go_wp2_with fail;refine(Lo H.out.1 H.out.2.1 H.out.2.2).mono ?_;rintro e w' ⟨rfl,d,c⟩;have i:=Yy (YE.of rfl d c);clear d c;go_wp2_with fail;go_end0;exact i.out
theorem O2.part(h:O2 w0 p x)(k:j<x.l.length):∃b o lb lo c,p=I ⟨b,o,A⟩/\w0.cell? ⟨b,o+6,A⟩=I (P (I ⟨lb,lo,A⟩) x.l.length c)/\∀i,i<x.l.length->O2 w0 (I ⟨lb,lo+i*7,A⟩) (x.at i):=by
 obtain⟨b,o,y,rfl,e,hi,rfl⟩:=h;have d:y.tm.l.length=y.l.length:=by rw[y.mq];simp
 obtain⟨lb,lo,a,_,_⟩:=hi.part j (by omega);refine⟨b,o,lb,lo,y.c,rfl,?_,fun i g=>?_⟩
 .rw[d,<-a];exact e.c6
 .obtain⟨lb',lo',ea',h7,hin⟩:=hi.part i (by omega);rw[a] at ea';obtain⟨rfl,rfl⟩:lb=lb'/\lo=lo':=by simpa using ea'
  refine⟨lb,lo+i*7,y.l[i],rfl,h7,hin,?_⟩;rw[Tm.ql (by omega)];simp[y.mq]
theorem O2.top(h:O2 w0 p x):∃b o,p=I ⟨b,o,A⟩/\w0.cell? ⟨b,o,A⟩=I (F E x.k)/\w0.cell? ⟨b,o+1,A⟩=I (F E x.n):=by obtain⟨b,o,y,rfl,a,hi,rfl⟩:=h;exact⟨b,o,rfl,by rw[y.mc];exact a.c0,by rw[y.nu];exact a.c1⟩
theorem Ns.look{G:Gh}(h:O2 w0 p x)(hs:G.sp q e):Ns w0 G (Y3 x e) 1 p q A:=⟨rfl,fun _=>⟨h,hs⟩,Gh.lp _⟩
theorem Ns.re{G:Gh}(d:Int)(h1:d≠1)(h4:d≠4):Ns w0 G (QJ d) (FW d) A A A:=⟨rfl,fun h=>by rcases h with h|h;exact absurd h h1;exact absurd h h4,Gh.lp _⟩
theorem Ns.choose{G:Gh}(h:O2 w0 p x)(hs:G.sp q e):Ns w0 G (Jo x e) 4 p q A:=⟨rfl,fun _=>⟨h,hs⟩,Gh.lp _⟩
theorem Ns.change{G:Gh}{c:Option Ca}(h:G.cp p c):Ns w0 G (Xj c) 6 A A p:=⟨rfl,fun h=>by rcases h with h|h<;>simp[Xj] at h,h⟩
theorem D3{G:Gh}{s:St}(h:MS w0 w M G s)(hx:O2 w0 p x)(hs:G.sp q e)(z:x.l.length=2)(d:Int)(hd:d=2\/d=3\/d=5)(hn:s.ts.length+3<=1000000000):T L 152 #[C (I ⟨M,0,A⟩),C p,C q,F E d] w (YE w0 w M G (Jx s x e d)):=by
 obtain⟨b,o,l,r,c,rfl,g,i⟩:=hx.part (j:=0) (by omega);rw[z] at g;have a0:b<w0.heap.size:=D _ _ g;have a:FW d=d:=by unfold FW;rw[if_neg (by omega)]
 have H:Zb (MS w0 w M G s/\G.sp q e/\O2 w0 (I ⟨l,r+7,A⟩) (x.at 1)/\O2 w0 (I ⟨l,r,A⟩) (x.at 0)/\Ns w0 G (QJ d) d A A A/\s.ts.length+3<=1000000000/\cL w0 b (o+6) (P (I ⟨l,r,A⟩) 2 c)):=⟨h,hs,by simpa using i 1 (by omega),by simpa using i 0 (by omega),by have:=Ns.re (w0:=w0) (G:=G) d (by omega) (by omega);rwa [a] at this,hn,g⟩
 clear hs i hn hd a z hx g h;go_enter func152,ntmps152;go_wp2_with fail;refine(XW H.out.1 H.out.2.2.2.2.1 (by have:=H.out.2.2.2.2.2.1;omega)).mono ?_;rintro e' w1 ⟨rfl,m,f1⟩;have u:=Q m.bel H.out.2.2.2.2.2.2;have l1:b<w1.heap.size:=D _ _ u;have y:=Uy m f1;clear m f1;go_wp2_with fail;refine(XW y.out.1 (Ns.look H.out.2.2.1 H.out.2.1) (by have:=H.out.2.2.2.2.2.1;simp only[St.ll,Zf];omega)).mono ?_;rintro e' w2 ⟨rfl,k,f2⟩;have k2:=Q k.bel H.out.2.2.2.2.2.2;have l2:b<w2.heap.size:=D _ _ k2;have H2:=Uy k (y.out.2.trans f2);clear k f2 u l1;go_wp2_with fail;refine(XW H2.out.1 (Ns.look H.out.2.2.2.1 H.out.2.1) (by have:=H.out.2.2.2.2.2.1;simp only[St.ll,Zf];omega)).mono ?_;rintro e' w3 ⟨rfl,h3,f3⟩;have HE:=Yy (YE.of rfl h3 (H2.out.2.trans f3));clear h3 f3 k2 l2;go_wp2_with fail;go_end0;exact HE.out
theorem L0{G:Gh}(h:HG w0 w G){v:YJ}(c:G.vp p v):∃b,p=I ⟨b,0,A⟩/\w.cell? ⟨b,0,A⟩=I (F E v.k)/\w.cell? ⟨b,1,A⟩=I (F E v.n)/\b<w.heap.size:=by obtain⟨b,rfl,e⟩:=c;obtain⟨k,ps,i,g,j,a,d,_⟩:=h.v b v e;exact⟨b,rfl,a,d,D _ _ a⟩
theorem OF{G:Gh}{v:YJ}(h:MS w0 w M G ⟨ts,v::u::r,ca,fu,en⟩)(y:r.length+1<=1000000000)(he:en'=if u.k=1/\v.k=1 then en else Yw):
  T L 153 #[C (I ⟨M,0,A⟩)] w fun e w'=>e=J (V #[F E u.n,F E v.n])/\MS w0 w' M G ⟨ts,r,ca,fu,en'⟩/\Fr M w w':=by
 have H:=Uy h y;have HI:=Yy he;clear h y he;go_enter func153,ntmps153;go_wp2_with fail;refine(JD H.out.1 rfl (by have:=H.out.2;simp only[Zf];omega)).mono ?_;rintro e w1 ⟨p1,rfl,k,x,q⟩;have l:=LL x k q;clear k x q;go_wp2_with fail;refine(JD l.out.1 rfl (by have:=H.out.2;omega)).mono ?_;rintro e o ⟨p2,rfl,j,p,f2⟩;obtain⟨b2,rfl,u0,u1,lu⟩:=L0 p.hg j;obtain⟨b1,rfl,v0,v1,lv⟩:=L0 p.hg l.out.2.1;have b:=O8 p (l.out.2.2.trans f2) j l.out.2.1;clear p f2 j H l;have c:∀n,u.k=1->v.k=1->MS w0 (o.drewN n) M G ⟨ts,r,ca,fu,en'⟩/\Fr M w (o.drewN n):=fun n hu g=>by rw[HI.out,if_pos ⟨hu,g⟩];have d:=Jp (S o.heap.size o) n;exact⟨b.out.1.below d,b.out.2.1.trans (Fr.below d b.out.1.lt)⟩
 have HB:Zb (¬(u.k=1/\v.k=1)->T L 154 #[C (I ⟨M,0,A⟩)] o fun e w'=>e=J (V #[])/\MS w0 w' M G ⟨ts,r,ca,fu,en'⟩/\Fr M w w'):=fun y=>by refine(Lg b.out.1).mono ?_;rintro e w' ⟨rfl,x,q⟩;rw[HI.out,if_neg y];exact⟨rfl,x,b.out.2.1.trans q⟩
 have z:=Yy c;clear c;by_cases hu:u.k=1
 .by_cases g:v.k=1
  .have HV:=Uy hu g;rw[hu] at u0;rw[g] at v0;clear hu g;go_wp2_with fail;go_quiet (fail)
   go_wp2_with fail;refine Zd (v:=V #[F E u.n,F E v.n]) (by simp[results,ZJ,go_sem]) rfl ⟨rfl,z.out _ HV.out.1 HV.out.2⟩
  .have HV:Zb (¬(u.k=1/\v.k=1)):=fun h=>g h.2;have a4:(v.k != 1)=Ze:=by simpa using g
   rw[hu] at u0;clear hu g;go_wp2_with fail;refine(HB.out HV.out).mono ?_;rintro e w3 ⟨rfl,a,m⟩;have y1:=(L0 a.hg b.out.2.2.1)
   have y2:=(L0 a.hg b.out.2.2.2)
   obtain⟨_,e1,_,a3,a1⟩:=y1;obtain⟨_,e2,_,a2,a0⟩:=y2;cases e1
   cases e2
   have i:=Uy a m;clear a m;go_wp2_with fail;go_quiet (fail)
   go_wp2_with fail;have d:=Jp (S w3.heap.size w3) nq;refine Zd (v:=V #[F E u.n,F E v.n]) (by simp[results,ZJ,go_sem]) rfl ⟨rfl,i.out.1.below d,i.out.2.trans (Fr.below d i.out.1.lt)⟩
 .have HV:Zb (¬(u.k=1/\v.k=1)):=fun h=>hu h.1;have a5:(u.k != 1)=Ze:=by simpa using hu
  clear hu;go_wp2_with fail;refine(HB.out HV.out).mono ?_;rintro e w3 ⟨rfl,a,m⟩;have y1:=(L0 a.hg b.out.2.2.1)
  have y2:=(L0 a.hg b.out.2.2.2)
  obtain⟨_,e1,_,a3,a1⟩:=y1;obtain⟨_,e2,_,a2,a0⟩:=y2;cases e1
  cases e2
  have i:=Uy a m;clear a m;go_wp2_with fail;go_quiet (fail)
  go_wp2_with fail;have d:=Jp (S w3.heap.size w3) nq;refine Zd (v:=V #[F E u.n,F E v.n]) (by simp[results,ZJ,go_sem]) rfl ⟨rfl,i.out.1.below d,i.out.2.trans (Fr.below d i.out.1.lt)⟩
theorem L1{G:Gh}{s:St}(h:MS w0 w M G s){v:YJ}(k:Zc w.heap.size w W)(g:BU w0 W G w.heap.size v)(l:s.vs.length+1<=1000000000):
  T L 150 #[C (I ⟨M,0,A⟩),C (I ⟨w.heap.size,0,A⟩)] W (fun e w'=>e=J (V #[])/\∃H,G.le H/\MS w0 w' M H (s.push v)/\Fr M w w'):=by
 obtain⟨a,b⟩:=O5 h.hg k g;obtain⟨j,c⟩:=h.post a;refine(Lo j b l).mono ?_;rintro e w' ⟨rfl,i,d⟩;exact⟨rfl,_,a.le,i,c.trans d⟩
theorem WV{G:Gh}(n:Int):BU w0 (w.alloc (Nv 1 n A A A A A 0)) G w.heap.size (XP n):=MA (fun _=>rfl) rfl rfl rfl (fun h=>by simp[XP] at h) (fun h=>by simp[XP] at h) (Gh.lp _) (Gh.lp _)
theorem QO{G:Gh}(n:Int):BU w0 (w.alloc (Nv 2 n A A A A A 0)) G w.heap.size (Xp n):=MA (fun _=>rfl) rfl rfl rfl (fun h=>by simp[Xp] at h) (fun h=>by simp[Xp] at h) (Gh.lp _) (Gh.lp _)
theorem El{G:Gh}{v:YJ}(h:MS w0 w M G ⟨ts,v::u::r,ca,fu,en⟩)(c:r.length+1<=1000000000)(l:en'=if u.k=1/\v.k=1 then en else Yw)(hu:-1000000<=u.n/\u.n<=1000000)(j:-1000000<=v.n/\v.n<=1000000):
  T L 112 #[C (I ⟨M,0,A⟩)] w (YE w0 w M G ⟨ts,XP (Jn (u.n+v.n))::r,ca,fu,en'⟩):=by
 have H:=Yy (OF h c l);clear h l;obtain⟨a,k⟩:∃a,a=u.n:=⟨_,rfl⟩
 obtain⟨b,g⟩:∃b,b=v.n:=⟨_,rfl⟩
 rw[<-k] at hu H ⊢;rw[<-g] at j H ⊢;clear k g;obtain⟨a1,a2⟩:=hu;obtain⟨b1,b2⟩:=j;go_enter func112,ntmps112;go_wp2_with fail;refine H.out.mono ?_;rintro e d ⟨rfl,m,i⟩;have x:Zb (∀X,X=Jn (a+b)->T L 150 #[C (I ⟨M,0,A⟩),C (I ⟨d.heap.size,0,A⟩)] (d.alloc (Nv 1 X A A A A A 0)) (fun e w'=>e=J (V #[])/\Zb (YE w0 w M G ⟨ts,XP (Jn (a+b))::r,ca,fu,en'⟩ (J (V #[])) w'))):=by intro X q;subst q;refine(L1 m ((S _ _).alloc (U _) _) (WV _) c).mono ?_;rintro e w' ⟨rfl,z,o,p,y⟩;exact⟨rfl,rfl,z,o,p,i.trans y⟩
 clear m i c H;go_wp2_with fail
 all_goals
  refine(x.out _ (by unfold Jn;omega)).mono ?_
  rintro e w2 ⟨rfl,HE⟩
  go_wp2_with fail
  go_end0
  exact HE.out
theorem T5{G:Gh}{v:YJ}(h:MS w0 w M G ⟨ts,v::u::r,ca,fu,en⟩)(j:r.length+1<=1000000000)(o:en'=if u.k=1/\v.k=1 then en else Yw):
  T L 113 #[C (I ⟨M,0,A⟩)] w (YE w0 w M G ⟨ts,Xp (if u.n<v.n then 1 else 0)::r,ca,fu,en'⟩):=by
 have H:=Yy (OF h j o);clear h o;obtain⟨a,p⟩:∃a,a=u.n:=⟨_,rfl⟩
 obtain⟨b,l⟩:∃b,b=v.n:=⟨_,rfl⟩
 rw[<-p] at H ⊢;rw[<-l] at H ⊢;clear p l;obtain⟨z,hz⟩:∃z:Int,z=if a<b then 1 else 0:=⟨_,rfl⟩
 rw[<-hz];have m:Zb (∀c X,MS w0 c M G ⟨ts,r,ca,fu,en'⟩->Fr M w c->X=z->T L 150 #[C (I ⟨M,0,A⟩),C (I ⟨c.heap.size,0,A⟩)] (c.alloc (Nv 2 X A A A A A 0)) (fun e w'=>e=J (V #[])/\Zb (YE w0 w M G ⟨ts,Xp z::r,ca,fu,en'⟩ (J (V #[])) w'))):=by intro c X g d y;subst y;refine(L1 g ((S _ _).alloc (U _) _) (QO _) j).mono ?_;rintro e w' ⟨rfl,H',q,x,f2⟩;exact⟨rfl,rfl,H',q,x,d.trans f2⟩
 by_cases hlt:a<b
 .have HZ:Zb (1=z):=by rw[hz,if_pos hlt];rfl
  have hd:decide (a<b)=Ze:=by simpa using hlt
  clear hz j;go_enter func113,ntmps113;go_wp2_with fail;refine H.out.mono ?_;rintro e c ⟨rfl,g,d⟩;have i:=Uy g d;clear g d;go_wp2_with fail;refine(m.out c _ i.out.1 i.out.2 HZ.out).mono ?_;rintro e w2 ⟨rfl,k⟩;go_wp2_with fail;go_end0;exact k.out
 .have HZ:Zb (0=z):=by rw[hz,if_neg hlt];rfl
  have hd:decide (a<b)=N:=by simpa using hlt
  clear hz j;go_enter func113,ntmps113;go_wp2_with fail;refine H.out.mono ?_;rintro e c ⟨rfl,g,d⟩;have i:=Uy g d;clear g d;go_wp2_with fail;refine(m.out c _ i.out.1 i.out.2 HZ.out).mono ?_;rintro e w2 ⟨rfl,k⟩;go_wp2_with fail;go_end0;exact k.out
theorem WF{G:Gh}{v:YJ}(h:MS w0 w M G ⟨ts,v::r,ca,fu,en⟩)(hr:r.length<=1000000000)(d:ts.length+1<=1000000000)(hx:O2 w0 p x)(hs:G.sp q e)(hl:x.l.length=3):
  T L 114 #[C (I ⟨M,0,A⟩),C p,C q] w (YE w0 w M G (if v.k=2 then (St.ll ⟨ts,r,ca,fu,en⟩ (Y3 (x.at (if v.n=1 then 1 else 2)) e)) else St.stop ⟨ts,r,ca,fu,en⟩ Yw)):=by
 obtain⟨b,o,lb,lo,c,rfl,c6,hp⟩:=hx.part (j:=0) (by omega);rw[hl] at c6;have H:=Yy (JD h rfl hr);have l:Zb (G.sp q e/\O2 w0 (I ⟨lb,lo+7,A⟩) (x.at 1)/\O2 w0 (I ⟨lb,lo+14,A⟩) (x.at 2)/\ts.length+1<=1000000000/\cL w0 b (o+6) (P (I ⟨lb,lo,A⟩) 3 c)):=⟨hs,by simpa using hp 1 (by omega),by simpa using hp 2 (by omega),d,c6⟩
 clear h hx hs hp c6 d hr;obtain⟨k,hS⟩:∃k,k=(if v.k=2 then (St.ll ⟨ts,r,ca,fu,en⟩ (Y3 (x.at (if v.n=1 then 1 else 2)) e)) else St.stop ⟨ts,r,ca,fu,en⟩ Yw):=⟨_,rfl⟩
 rw[<-hS];have u:=Yy hS;clear hS hl;go_enter func114,ntmps114;go_wp2_with fail;refine H.out.mono ?_;rintro e' w1 ⟨p1,rfl,y,h1,f1⟩;obtain⟨b1,rfl,v0,v1,lv⟩:=L0 h1.hg y;have k6:=Q h1.bel l.out.2.2.2.2;have a0:b<w1.heap.size:=D _ _ k6;have m:=Uy h1 f1;clear h1 f1 y H;by_cases hk:v.k=2
 .rw[hk] at v0;by_cases d:v.n=1
  .rw[d] at v1;have a:Zb (k=St.ll ⟨ts,r,ca,fu,en⟩ (Y3 (x.at 1) e)):=by rw[u.out,if_pos hk,if_pos d];rfl
   clear hk d u;go_wp2_with fail;refine(XW m.out.1 (Ns.look l.out.2.1 l.out.1) l.out.2.2.2.1).mono ?_;rintro e' w2 ⟨rfl,g,i⟩;have z:Zb (YE w0 w M G k (J (V #[])) w2):=by rw[a.out];exact YE.of rfl g (m.out.2.trans i)
   clear g i;go_wp2_with fail;go_end0;exact z.out
  .have hn':(v.n==1)=N:=by simpa using d
   have a:Zb (k=St.ll ⟨ts,r,ca,fu,en⟩ (Y3 (x.at 2) e)):=by rw[u.out,if_pos hk,if_neg d];rfl
   clear hk d u;go_wp2_with fail;refine(XW m.out.1 (Ns.look l.out.2.2.1 l.out.1) l.out.2.2.2.1).mono ?_;rintro e' w2 ⟨rfl,g,i⟩;have z:Zb (YE w0 w M G k (J (V #[])) w2):=by rw[a.out];exact YE.of rfl g (m.out.2.trans i)
   clear g i;go_wp2_with fail;go_end0;exact z.out
 .have hk':(v.k != 2)=Ze:=by simpa using hk
  have a:Zb (k=St.stop ⟨ts,r,ca,fu,en⟩ Yw):=by rw[u.out,if_neg hk];rfl
  clear hk u;go_wp2_with fail;refine(Lg m.out.1).mono ?_;rintro e' w2 ⟨rfl,g,i⟩;have z:Zb (YE w0 w M G k (J (V #[])) w2):=by rw[a.out];exact YE.of rfl g (m.out.2.trans i)
  clear g i;go_wp2_with fail;go_end0;exact z.out
theorem AQ{G:Gh}(c:HG w0 w G)(a:Zc w.heap.size w W)(d:FF W G w.heap.size e):Xv w0 w G W (G.ni w.heap.size e)/\(G.ni w.heap.size e).sp (I ⟨w.heap.size,0,A⟩) e:=by
 have hd:¬G.ms w.heap.size:=fun h=>by have:=c.lt h;omega
 refine⟨⟨Gh.on hd,(c.below a).ni hd d,a,fun b h=>?_⟩,Gh.qi _ _ _⟩;rcases Gh.pq h with rfl|h
 .exact .inr (U _)
 .exact .inl h
theorem BM{G:Gh}{s:St}(h:MS w0 w M G s)(hn:s.ts.length+1<=1000000000)(hc:s.calls<=1000){pf:Option Zp}{f g:YJ}(hf:G.vp pf f)(hg:G.vp pg g)(hk:f.k=3):
  T L 155 #[C (I ⟨M,0,A⟩),C pf,C pg] w (YE w0 w M G (KD s f g)):=by
 obtain⟨b,rfl,hb⟩:=hf;obtain⟨pb,ps,pi,a5,pa,z,q,y,h3,h4,h5,h6,h7,a1,a2,a3,a4⟩:=h.hg.v b f hb;obtain⟨a,l⟩:=a1 hk;have lb:b<w.heap.size:=D _ _ z;have lM:=h.lt;have x:=h.c2;have m3:=h.c3;have g2:=h.fz 2;have p:=(h.far b (.inl (by rw[hb];simp))).1;obtain⟨o,hS⟩:∃o,o=KD s f g:=⟨_,rfl⟩
 rw[<-hS];by_cases hcf:s.calls=s.fuel
 .have HS:Zb (o=s.stop NN):=by rw[hS];unfold KD;rw[if_pos hcf];rfl
  have e1:((s.calls:Int)==(s.fuel:Int))=Ze:=by rw[hcf];simp
  have H:=Yy h;clear hS hcf h hn hc hg a1 a2 a3 a4 a l z q y h3 h4 h5 h6 h7;go_enter func155,ntmps155;go_wp2_with fail;go_quiet (fail)
  go_wp2_with fail;refine(Sb (H.out.below (Jp (S _ _) _)) NN).mono ?_;rintro e w1 ⟨rfl,x1,r⟩;have HE:Zb (YE w0 w M G o (J (V #[])) w1):=by rw[HS.out];exact YE.of rfl x1 ((Fr.below (Jp (S _ _) _) lM).trans r)
  clear x1 r;go_wp2_with fail;go_end0;exact HE.out
 .have HS:Zb (o=⟨Y3 f.body (g::f.env)::s.ts,s.vs,s.calls+1,s.fuel,s.ended⟩):=by rw[hS];unfold KD;rw[if_neg hcf];rfl
  have e1:((s.calls:Int)==(s.fuel:Int))=N:=by simp;omega
  have H:=Aa h hn hg a l;clear hS hcf h hn hg a1 a2 a3 a4 a l z q h4 h5 h6 h7;go_enter func155,ntmps155;go_wp2_with fail;go_quiet (fail)
  go_wp2_with fail;obtain⟨m,c⟩:∃W,W=(w.drewN nq).setCell ⟨M,2,A⟩ (F E ((s.calls:Int)+1)):=⟨_,rfl⟩
  have d:MS w0 m M G ⟨s.ts,s.vs,s.calls+1,s.fuel,s.ended⟩/\Fr M w m:=by
   rw[c];refine H.out.1.set (s':=⟨s.ts,s.vs,s.calls+1,s.fuel,s.ended⟩) _ ?_ ?_ rfl rfl ⟨rfl,rfl,rfl,by simp[Zs],fun k hk q _=>Zl _ _ _ _ q⟩ ?_ ?_ ?_ ?_ ?_ ?_
   .rw[Yo (by omega)];rfl
   .rw[Yo (by omega)];rfl
   .have:=X8 (u:=w.drewN nq) (v:=F E ((s.calls:Int)+1)) (j:=2) (b:=M) H.out.1.c2;simpa using this
   .rw[Yo (by omega)];exact H.out.1.c3
   .rw[Yo (by omega)];exact H.out.1.c4
   .rw[Yo (by omega)];exact H.out.1.c5
   .rw[Yo (by omega)];exact H.out.1.c6
   .intro i;simpa using H.out.1.fz i
  have k2:m.cell? ⟨b,2,A⟩=I (C pb):=by rw[c,Zg _ _ _ _ (by intro e;exact p e.symm)];exact y
  have k3:m.cell? ⟨b,3,A⟩=I (C ps):=by rw[c,Zg _ _ _ _ (by intro e;exact p e.symm)];exact h3
  have a7:b<m.heap.size:=D _ _ k2;have a6:=d.1.lt;have HP:Zb (T L 72 #[C (I ⟨M,0,A⟩),Y #[F E 1,C pb,C (I ⟨m.heap.size,0,A⟩),C A]] (m.alloc (Zj #[C pg,C ps] 223)).drew fun e w'=>e=J (V #[])/\Zb (YE w0 w M G o (J (V #[])) w')):=by have a0:bL m (m.alloc (Zj #[C pg,C ps] 223)).drew:=((S _ _).alloc (U _) _).drew;obtain⟨r1,r2⟩:=AQ (e:=g::f.env) d.1.hg a0 ⟨g,f.env,pg,ps,rfl,by simp[go_sem],by simp[go_sem],H.out.2.2.1,H.out.2.2.2.2⟩;obtain⟨m1,x⟩:=d.1.post r1;refine(XW m1 (Ns.look H.out.2.2.2.1 r2) H.out.2.1).mono ?_;rintro e w' ⟨rfl,x1,r⟩;refine⟨rfl,?_⟩;rw[HS.out];exact⟨rfl,_,r1.le,x1,d.2.trans (x.trans r)⟩
  rw[<-c];clear c d y h3 x m3 g2;go_region_with (go_at_call 72;refine HP.out.mono ?_;rintro e w3 ⟨rfl,HE⟩)
  all_goals
   go_wp2_with fail
   go_end0
   exact HE.out
theorem WP{G:Gh}{s:St}(h:MS w0 w M G s)(hn:s.ts.length+3<=1000000000)(hv:s.vs.length+2<=1000000000){pf:Option Zp}{f g:YJ}(hf:G.vp pf f)(z:G.vp pg g)(hk:f.k=4):
  T L 156 #[C (I ⟨M,0,A⟩),C pf,C pg] w (YE w0 w M G (NX s f g)):=by
 obtain⟨b,rfl,y⟩:=hf;have a:∀W,HG w0 W G->∃i c k,cL W b 4 (C i)/\cL W b 5 (C c)/\cL W b 6 (C k)/\G.vp i f.core/\G.cp c f.given/\G.cp k f.answer/\b<W.heap.size:=fun W hW=>by
  obtain⟨pb,ps,i,c,k,h0,q,l,r,j,m,h6,h7,a1,a2,a3,a4⟩:=hW.v b f y;obtain⟨u,hi,hu⟩:=a2 (.inl hk);have d:f.core=u:=by unfold YJ.core;rw[hi];rfl
  exact⟨i,c,k,j,m,h6,by rw[d];exact hu,a3,a4,D _ _ h0⟩
 have HC:=Yy a;obtain⟨i,c,k,c4,_,_,i1,_,_,o⟩:=a w h.hg;have H:=Aa h i1 z hn hv;clear h i1 z hn hv a hk y;go_enter func156,ntmps156;go_wp2_with fail;refine(Lo H.out.1 H.out.2.1 (by have:=H.out.2.2.2.2;omega)).mono ?_;rintro e w1 ⟨rfl,q,f1⟩;have H1:=Uy q f1;clear q f1 c4 o;go_wp2_with fail;refine(Lo H1.out.1 H.out.2.2.1 (by have:=H.out.2.2.2.2;simp only[St.push,Zf];omega)).mono ?_;rintro e w2 ⟨rfl,l,f2⟩;obtain⟨_,_,a0,_,_,c6,_,_,i6,o⟩:=HC.out w2 l.hg;have x:=LL l (H1.out.2.trans f2) i6;clear l f2 i6;go_wp2_with fail;refine(XW x.out.1 (Ns.change x.out.2.2) (by have:=H.out.2.2.2.1;simp only[St.push];omega)).mono ?_;rintro e w3 ⟨rfl,r,f3⟩;have H3:=Uy r (x.out.2.1.trans f3);clear r f3 c6 o;go_wp2_with fail;refine(XW (t:=QJ 7) H3.out.1 (Ns.re (w0:=w0) (G:=G) 7 (by omega) (by omega)) (by have:=H.out.2.2.2.1;simp only[St.push,St.ll,Zf];omega)).mono ?_;rintro e w4 ⟨rfl,j,f4⟩;obtain⟨_,a5,_,_,c5,_,_,i5,_,o⟩:=HC.out w4 j.hg;have p:=LL j (H3.out.2.trans f4) i5;clear j f4 i5;go_wp2_with fail;refine(XW p.out.1 (Ns.change p.out.2.2) (by have:=H.out.2.2.2.1;simp only[St.push,St.ll,Zf];omega)).mono ?_;rintro e w5 ⟨rfl,m,f5⟩;have HE:=Yy (YE.of rfl m (p.out.2.1.trans f5));clear m f5;go_wp2_with fail;go_end0;exact HE.out
theorem Vh{G:Gh}{v:YJ}(h:MS w0 w M G ⟨ts,v::u::r,ca,fu,en⟩)(z:r.length+2<=1000000000)(hn:ts.length+3<=1000000000)(hc:ca<=1000):
  T L 115 #[C (I ⟨M,0,A⟩)] w (YE w0 w M G (US ⟨ts,r,ca,fu,en⟩ u v)):=by
 have H:=O8 h z hn hc;clear h hn z hc;obtain⟨d,hS⟩:∃d,d=US ⟨ts,r,ca,fu,en⟩ u v:=⟨_,rfl⟩
 rw[<-hS];have p:=Yy hS;clear hS;go_enter func115,ntmps115;go_wp2_with fail;refine(JD H.out.1 rfl (by have:=H.out.2.1;simp only[Zf];omega)).mono ?_;rintro e w1 ⟨y,rfl,g,x,q⟩;have k:=LL x g q;clear g x q;go_wp2_with fail;refine(JD k.out.1 rfl (by have:=H.out.2.1;omega)).mono ?_;rintro e l ⟨p2,rfl,b,m,f2⟩;obtain⟨b2,rfl,u0,u1,lu⟩:=L0 m.hg b;have a:=O8 m (k.out.2.2.trans f2) b k.out.2.1;clear m f2 b k u1;have fin:∀e w',YE w0 l M G d e w'->e=J (V #[])/\Zb (YE w0 w M G d (J (V #[])) w'):=fun e w' h=>by obtain⟨rfl,K,hl,hm,hf⟩:=h;exact⟨rfl,rfl,K,hl,hm,a.out.2.1.trans hf⟩
 have o:=Yy fin;clear fin;by_cases h3:u.k=3
 .have HC:Zb (T L 155 #[C (I ⟨M,0,A⟩),C (I ⟨b2,0,A⟩),C y] l fun e w'=>e=J (V #[])/\Zb (YE w0 w M G d (J (V #[])) w')):=by
   refine(BM a.out.1 (by have:=H.out.2.2.1;show ts.length+1<=_;omega) H.out.2.2.2 a.out.2.2.1 a.out.2.2.2 h3).mono fun e w' c=>o.out e w' ?_;have i:US ⟨ts,r,ca,fu,en⟩ u v=KD ⟨ts,r,ca,fu,en⟩ u v:=by unfold US;rw[if_pos h3]
   rw[p.out,i];exact c
  rw[h3] at u0;clear h3;go_wp2_with fail;refine HC.out.mono ?_;rintro e w3 ⟨rfl,j⟩;go_wp2_with fail;go_end0;exact j.out
 .by_cases h4:u.k=4
  .have HC:Zb (T L 156 #[C (I ⟨M,0,A⟩),C (I ⟨b2,0,A⟩),C y] l fun e w'=>e=J (V #[])/\Zb (YE w0 w M G d (J (V #[])) w')):=by
    refine(WP a.out.1 H.out.2.2.1 H.out.2.1 a.out.2.2.1 a.out.2.2.2 h4).mono fun e w' c=>o.out e w' ?_;have i:US ⟨ts,r,ca,fu,en⟩ u v=NX ⟨ts,r,ca,fu,en⟩ u v:=by unfold US;rw[if_neg h3,if_pos h4]
    rw[p.out,i];exact c
   rw[h4] at u0;clear h3 h4;go_wp2_with fail;refine HC.out.mono ?_;rintro e w3 ⟨rfl,j⟩;go_wp2_with fail;go_end0;exact j.out
  .have HC:Zb (T L 154 #[C (I ⟨M,0,A⟩)] l fun e w'=>e=J (V #[])/\Zb (YE w0 w M G d (J (V #[])) w')):=by
    refine(Lg a.out.1).mono fun e w' c=>o.out e w' ?_;have i:US ⟨ts,r,ca,fu,en⟩ u v=St.stop ⟨ts,r,ca,fu,en⟩ Yw:=by unfold US;rw[if_neg h3,if_neg h4]
    rw[p.out,i];exact YE.of c.1 c.2.1 c.2.2
   have q3:(u.k==3)=N:=by simpa using h3
   have q4:(u.k==4)=N:=by simpa using h4
   clear h3 h4;go_wp2_with fail;refine HC.out.mono ?_;rintro e w3 ⟨rfl,j⟩;go_wp2_with fail;go_end0;exact j.out
theorem WH{G:Gh}{v:YJ}(h:MS w0 w M G ⟨ts,v::r,ca,fu,en⟩)(hr:r.length+1<=1000000000){c:Option Ca}(hc:G.cp pc c):
  T L 116 #[C (I ⟨M,0,A⟩),C pc] w (YE w0 w M G (Xz ⟨ts,r,ca,fu,en⟩ c v)):=by
 have H:=Yy (JD h rfl (by omega));have HR:=Yy hr;clear h hr;obtain⟨i,hS⟩:∃i,i=Xz ⟨ts,r,ca,fu,en⟩ c v:=⟨_,rfl⟩
 rw[<-hS];rcases hc with⟨rfl,rfl⟩|⟨q,x,rfl,rfl,hq⟩
 .have j:=Yy hS;clear hS;go_enter func116,ntmps116;go_wp2_with fail;refine H.out.mono ?_;rintro e d ⟨u,rfl,k,g,f1⟩;have H1:=LL g k f1;clear k g f1;go_wp2_with fail;refine(Lo H1.out.1 H1.out.2.1 HR.out).mono ?_;rintro e w2 ⟨rfl,h2,f2⟩;have y:Zb (YE w0 w M G i (J (V #[])) w2):=by rw[j.out];exact YE.of rfl h2 (H1.out.2.2.trans f2)
  clear h2 f2;go_wp2_with fail;go_end0;exact y.out
 .have HX:=Yy hq;have j:=Yy hS;clear hS hq;obtain⟨op,l⟩:∃b,x.opens=b:=⟨_,rfl⟩
  have e1:op=Ze->v.k≠5->i=St.stop ⟨ts,r,ca,fu,en⟩ Yw:=fun g h2=>by rw[j.out];simp only[Xz];rw[if_pos ⟨by rw[l];exact g,h2⟩]
  have e2:op=Ze->v.k=5->v.az≠x.kind->i=St.stop ⟨ts,r,ca,fu,en⟩ x.wrong:=fun g h2 h3=>by rw[j.out];simp only[Xz];rw[if_neg (fun h=>h.2 h2),if_pos ⟨by rw[l];exact g,h3⟩]
  have e3:(op=Ze->v.k=5/\v.az=x.kind)->x.ends.k≠0->i=St.stop ⟨ts,r,ca,fu,en⟩ x.ends:=fun g h2=>by rw[j.out];simp only[Xz];rw[if_neg (fun h=>h.2 (g (by rw[<-l];exact h.1)).1),if_neg (fun h=>h.2 (g (by rw[<-l];exact h.1)).2),if_pos h2]
  have e4:(op=Ze->v.k=5/\v.az=x.kind)->x.ends.k=0->i=St.push ⟨ts,r,ca,fu,en⟩ (OE x v):=fun g h2=>by rw[j.out];simp only[Xz];rw[if_neg (fun h=>h.2 (g (by rw[<-l];exact h.1)).1),if_neg (fun h=>h.2 (g (by rw[<-l];exact h.1)).2),if_neg (fun h=>h h2)]
  have p:=Aa e1 e2 e3 e4 l;clear e1 e2 e3 e4;have HM:∀(d:Za)(u:Option Zp),MS w0 d M G ⟨ts,r,ca,fu,en⟩->G.vp u v->Fr M w d->Zb ((∀n,i=St.stop ⟨ts,r,ca,fu,en⟩ Yw->T L 154 #[C (I ⟨M,0,A⟩)] (d.drewN n) fun e w'=>e=J (V #[])/\Zb (YE w0 w M G i (J (V #[])) w'))/\ (∀n(o:XG),i=St.stop ⟨ts,r,ca,fu,en⟩ o->T L 157 #[C (I ⟨M,0,A⟩),Y #[F E o.k,F E o.n,.bool o.b]] (d.drewN n) fun e w'=>e=J (V #[])/\Zb (YE w0 w M G i (J (V #[])) w'))/\ (∀n,i=St.push ⟨ts,r,ca,fu,en⟩ (OE x v)->(op=Ze->v.k=5)->T L 158 #[C (I ⟨q,0,A⟩),C u] (d.drewN n) fun e w'=>∃p2,e=J (C p2)/\Zb (T L 150 #[C (I ⟨M,0,A⟩),C p2] w' fun e a1=>e=J (V #[])/\Zb (YE w0 w M G i (J (V #[])) a1)))):=by
   intro d u g k f1;have hb:=fun n=>Jp (S d.heap.size d) n;refine⟨fun n hs=>?_,fun n o hs=>?_,fun n hs ho=>?_⟩
   .refine(Lg (g.below (hb n))).mono ?_;rintro e w' ⟨rfl,a,b⟩;refine⟨rfl,?_⟩;rw[hs];exact YE.of rfl a (f1.trans ((Fr.below (hb n) g.lt).trans b))
   .refine(Sb (g.below (hb n)) o).mono ?_;rintro e w' ⟨rfl,a,b⟩;refine⟨rfl,?_⟩;rw[hs];exact YE.of rfl a (f1.trans ((Fr.below (hb n) g.lt).trans b))
   .have h1':=g.below (hb n);refine(Ff h1'.hg k (.inr ⟨q,x,rfl,rfl,HX.out⟩) (fun h=>ho (by rw[<-p.out.2.2.2.2];exact h))).mono ?_;rintro e w' ⟨p2,H2,rfl,a5,a0⟩;obtain⟨m1,m2⟩:=h1'.post a0;refine⟨p2,rfl,(Lo m1 a5 HR.out).mono ?_⟩;rintro e a1 ⟨rfl,a,b⟩;refine⟨rfl,?_⟩;rw[hs];exact⟨rfl,H2,a0.le,a,f1.trans ((Fr.below (hb n) g.lt).trans (m2.trans b))⟩
  have a4:Zb (∀(d:Za)(u:Option Zp),MS w0 d M G ⟨ts,r,ca,fu,en⟩->G.vp u v->Fr M w d->Zb ((∀n,i=St.stop ⟨ts,r,ca,fu,en⟩ Yw->T L 154 #[C (I ⟨M,0,A⟩)] (d.drewN n) fun e w'=>e=J (V #[])/\Zb (YE w0 w M G i (J (V #[])) w'))/\ (∀n(o:XG),i=St.stop ⟨ts,r,ca,fu,en⟩ o->T L 157 #[C (I ⟨M,0,A⟩),Y #[F E o.k,F E o.n,.bool o.b]] (d.drewN n) fun e w'=>e=J (V #[])/\Zb (YE w0 w M G i (J (V #[])) w'))/\ (∀n,i=St.push ⟨ts,r,ca,fu,en⟩ (OE x v)->(op=Ze->v.k=5)->T L 158 #[C (I ⟨q,0,A⟩),C u] (d.drewN n) fun e w'=>∃p2,e=J (C p2)/\Zb (T L 150 #[C (I ⟨M,0,A⟩),C p2] w' fun e a1=>e=J (V #[])/\Zb (YE w0 w M G i (J (V #[])) a1))))):=HM
  clear HM l;have a3:Zb (∀(d:Za)(u:Option Zp),HG w0 d G->G.vp u v->∃b pg pa,u=I ⟨b,0,A⟩/\b<d.heap.size/\q<d.heap.size/\cL d b 0 (F E v.k)/\cL d b 7 (F E v.az)/\K8 d q x pg pa):=by intro d u hg hv;obtain⟨b,rfl,hb⟩:=hv;obtain⟨pb,ps,pi,pg,pa,m,g,h2,h3,h4,z,h6,h7,_⟩:=hg.v b v hb;obtain⟨a7,a8,hC,_,_⟩:=hg.c q x HX.out;exact⟨b,a7,a8,rfl,D _ _ m,D _ _ hC.c0,m,h7,hC⟩
  go_enter func116,ntmps116;go_wp2_with fail;refine H.out.mono ?_;rintro e d ⟨u,rfl,k,g,f1⟩;obtain⟨b,pg,pa,rfl,lb,lq,v0,v7,hC⟩:=a3.out d u g.hg k;have HA:=a4.out d _ g k f1;obtain⟨c0,c1,c2,c3,c4,c5,c6,c7,c8,c9,a6⟩:=hC;rw[p.out.2.2.2.2] at c0;clear g f1 k H a4 a3 j c8 c9 a6;cases op
  .by_cases m:x.ends.k=0
   .have j:=Yy (p.out.2.2.2.1 (fun h=>by cases h) m);have z0:(x.ends.k != 0)=N:=by simpa using m
    clear m p;go_wp2_with fail;go_quiet (fail)
    go_wp2_with fail;refine(HA.out.2.2 _ j.out (fun h=>by cases h)).mono ?_;rintro e w2 ⟨p2,rfl,a2⟩;go_wp2_with fail;refine a2.out.mono ?_;rintro e w3 ⟨rfl,y⟩;go_wp2_with fail;go_end0;exact y.out
   .have j:=Yy (p.out.2.2.1 (fun h=>by cases h) m);have z0:(x.ends.k != 0)=Ze:=by simpa using m
    clear m p;go_wp2_with fail;go_quiet (fail)
    go_wp2_with fail;refine(HA.out.2.1 _ x.ends j.out).mono ?_;rintro e w2 ⟨rfl,y⟩;go_wp2_with fail;go_end0;exact y.out
  .by_cases z:v.k=5
   .by_cases ha:v.az=x.kind
    .have hok:(Ze=Ze->v.k=5/\v.az=x.kind):=fun _=>⟨z,ha⟩
     have z7:(v.az != x.kind)=N:=by simpa using ha
     have H5:=Yy z;rw[z] at v0;by_cases m:x.ends.k=0
     .have j:=Yy (p.out.2.2.2.1 hok m);have z0:(x.ends.k != 0)=N:=by simpa using m
      clear m p z ha hok;go_wp2_with fail;go_quiet (fail)
      go_wp2_with fail;refine(HA.out.2.2 _ j.out (fun _=>H5.out)).mono ?_;rintro e w2 ⟨p2,rfl,a2⟩;go_wp2_with fail;refine a2.out.mono ?_;rintro e w3 ⟨rfl,y⟩;go_wp2_with fail;go_end0;exact y.out
     .have j:=Yy (p.out.2.2.1 hok m);have z0:(x.ends.k != 0)=Ze:=by simpa using m
      clear m p z ha hok;go_wp2_with fail;go_quiet (fail)
      go_wp2_with fail;refine(HA.out.2.1 _ x.ends j.out).mono ?_;rintro e w2 ⟨rfl,y⟩;go_wp2_with fail;go_end0;exact y.out
    .have j:=Yy (p.out.2.1 rfl z ha);have z7:(v.az != x.kind)=Ze:=by simpa using ha
     rw[z] at v0;clear z ha p;go_wp2_with fail;go_quiet (fail)
     go_wp2_with fail;refine(HA.out.2.1 _ x.wrong j.out).mono ?_;rintro e w2 ⟨rfl,y⟩;go_wp2_with fail;go_end0;exact y.out
   .have j:=Yy (p.out.1 rfl z);have z5:(v.k != 5)=Ze:=by simpa using z
    clear z p;go_wp2_with fail;refine(HA.out.1 0 j.out).mono ?_;rintro e w2 ⟨rfl,y⟩;go_wp2_with fail;go_end0;exact y.out
def Kb(w0 w:Za)(G:Gh)(oc:Option Ca)(e:ZR)(w':Za):Prop:=∃p H,e=J (C p)/\Xv w0 w G w' H/\ ((p=A/\oc=A)\/∃b c pg pa,p=I ⟨b,0,A⟩/\oc=I c/\K8 w' b c pg pa/\H.cp pg c.given/\H.cp pa c.answer/\¬H.ms b/\w.heap.size<=b/\∀o,w'.frozen? ⟨b,o,A⟩=N)
theorem Kb.known{G:Gh}{oc:Option Ca}{e:ZR}(h:Kb w0 w G oc e w'):∃p H,e=J (C p)/\H.cp p oc/\Xv w0 w G w' H:=by
 obtain⟨p,H,rfl,a,⟨rfl,rfl⟩|⟨b,c,m,o,rfl,rfl,l,j,g,hd,i,_⟩⟩:=h
 .exact⟨A,H,rfl,Gh.lp _,a⟩
 .refine⟨_,H.mw b c,rfl,Gh.ol _ _ _,a.le.trans (Gh.nt hd),a.hg.mw hd l j g,a.bel,fun k d=>?_⟩;rcases Gh.ny d with rfl|d
  .exact .inr i
  .exact a.new k d
def nW(f t:Tr)(o:XG)(w:Za):Za:=((w.alloc (Zj #[F E f.k,P f.a f.l.length f.c] 24)).alloc (Zj #[F E t.k,P t.a t.l.length t.c] 24)).alloc (Zj #[F E o.k,F E o.n,.bool o.b] 29)
structure NB(f t:Tr)(o:XG)(H:Nat)(W:Za):Prop where
 f0:W.cell? ⟨H,0,A⟩=I (F E f.k)
 f1:W.cell? ⟨H,1,A⟩=I (P f.a f.l.length f.c)
 t0:W.cell? ⟨H+1,0,A⟩=I (F E t.k)
 t1:W.cell? ⟨H+1,1,A⟩=I (P t.a t.l.length t.c)
 o0:W.cell? ⟨H+1+1,0,A⟩=I (F E o.k)
 o1:W.cell? ⟨H+1+1,1,A⟩=I (F E o.n)
 o2:W.cell? ⟨H+1+1,2,A⟩=I (.bool o.b)
theorem NB.below{f t:Tr}{o:XG}{H:Nat}{W':Za}(h:NB f t o H W)(hb:Zc W.heap.size W W'):NB f t o H W':=⟨Q hb h.f0,Q hb h.f1,Q hb h.t0,Q hb h.t1,Q hb h.o0,Q hb h.o1,Q hb h.o2⟩
theorem NB.lt{f t:Tr}{o:XG}{H:Nat}(h:NB f t o H W):H+1+1<W.heap.size:=D _ _ h.o0
theorem Ac(f t:Tr)(o:XG)(w:Za):NB f t o w.heap.size (nW f t o w):=by constructor<;>simp[nW,go_sem]
theorem Ua(f t:Tr)(o:XG)(w:Za):Zc w.heap.size w (nW f t o w):=(((S _ _).alloc (U _) _).alloc (by simp) _).alloc (by simp;omega) _
theorem C0(f t:Tr)(o:XG)(w0 w:Za)(G:Gh)(d:HG w0 w G)(c:∀W,Zc w.heap.size w W->T L 147 #[Y #[F E f.k,P f.a f.l.length f.c],Y #[F E t.k,P t.a t.l.length t.c]] W fun e w'=>e=J (.bool Ze)/\Zc W.heap.size W w'):
  T L 151 #[Y #[F E f.k,P f.a f.l.length f.c],Y #[F E t.k,P t.a t.l.length t.c],Y #[F E o.k,F E o.n,.bool o.b]] w (Kb w0 w G A):=by
 have a:Zb (HG w0 w G/\T L 147 #[Y f.v,Y t.v] (nW f t o w) fun e w'=>e=J (.bool Ze)/\Zc (nW f t o w).heap.size (nW f t o w) w'):=⟨d,c _ (Ua f t o w)⟩
 clear c d;go_enter Zy,Zw;go_wp2_with fail;refine a.out.2.mono ?_;rintro e h ⟨rfl,b⟩;have g:=Yy ((Ua f t o w).trans (b.mono (Ua f t o w).size));clear b;go_wp2_with fail;go_ret;exact⟨A,G,rfl,Xv.below a.out.1 g.out,.inl ⟨rfl,rfl⟩⟩
theorem Bq(f t:Tr)(o:XG)(w0 w:Za)(G:Gh)(l:HG w0 w G)(c:(f.k==3)=N\/(t.k==3)=N)(a0:(f.k==0)=N)(a1:(t.k==0)=N)(k:∀W,Zc w.heap.size w W->T L 147 #[Y #[F E f.k,P f.a f.l.length f.c],Y #[F E t.k,P t.a t.l.length t.c]] W fun e w'=>e=J (.bool N)/\Zc W.heap.size W w'):
  T L 151 #[Y #[F E f.k,P f.a f.l.length f.c],Y #[F E t.k,P t.a t.l.length t.c],Y #[F E o.k,F E o.n,.bool o.b]] w (Kb w0 w G (I ⟨N,Yn,f.k,Yw,A,A,N⟩)):=by
 have g:Zb (HG w0 w G/\T L 147 #[Y f.v,Y t.v] (nW f t o w) fun e w'=>e=J (.bool N)/\Zc (nW f t o w).heap.size (nW f t o w) w'):=⟨l,k _ (Ua f t o w)⟩
 clear k l;have fin:∀a,Zc (nW f t o w).heap.size (nW f t o w) a->Kb w0 w G (I ⟨N,Yn,f.k,Yw,A,A,N⟩) (J (C (I ⟨a.heap.size,0,A⟩))) (a.alloc (Lt ⟨N,Yn,f.k,Yw,A,A,N⟩ A A)):=fun a b=>by
  have h:=(Ua f t o w).trans (b.mono (Ua f t o w).size);have r:bL w (a.alloc (Lt ⟨N,Yn,f.k,Yw,A,A,N⟩ A A)):=h.alloc h.size _;refine⟨_,G,rfl,Xv.below g.out.1 r,.inr ⟨a.heap.size,_,A,A,rfl,rfl,NS _ _ _ _,Gh.lp _,Gh.lp _,fun hd=>?_,h.size,fun i=>?_⟩⟩
  .have:=g.out.1.lt hd;have:=h.size;omega
  .simp[Lt,go_sem]
 have m:=Yy fin;have d:=Ac f t o w;clear fin;by_cases hf3:(f.k==3)=Ze
 .have ht3:(t.k==3)=N:=by
   rcases c with c|c
   .rw[hf3] at c;cases c
   .exact c
  clear c;go_enter Zy,Zw;go_wp2_with fail;refine g.out.2.mono ?_;rintro e a ⟨rfl,b⟩;obtain⟨b0,p,y,z,x,q,u⟩:=d.below b;have j:=Yy b;clear b d;go_wp2_with fail;go_ret;exact m.out a j.out
 .have hf3':(f.k==3)=N:=by simpa using hf3
  clear c hf3;go_enter Zy,Zw;go_wp2_with fail;refine g.out.2.mono ?_;rintro e a ⟨rfl,b⟩;obtain⟨b0,p,y,z,x,q,u⟩:=d.below b;have j:=Yy b;clear b d;go_wp2_with fail;go_ret;exact m.out a j.out
theorem Wr(a:Option Zp)(m c:Nat)(w:Za):
  T L 185 #[Y #[F E 3,P a m c]] w fun e w'=>∃g,e=J (Y #[F E 3,P (I ⟨g,0,A⟩) 2 2])/\(Tr.mk 3 (I ⟨g,0,A⟩) 2 [Ys 0,Ys 0]).In w'/\Zc w.heap.size w w':=by
 obtain⟨W1,b⟩:∃W,W=(w.alloc (Zj #[F E 3,P a m c] 24)).alloc (Zj #[F E 0,P A 0 0] 24):=⟨_,rfl⟩
 have j:bL w W1:=by rw[b];exact((S _ _).alloc (U _) _).alloc (by simp) _
 have h:W1.heap.size=w.heap.size+1+1:=by rw[b];simp
 have z:W1.cell? ⟨w.heap.size+1,0,A⟩=I (F E 0):=by rw[b];simp[go_sem]
 have z1:W1.cell? ⟨w.heap.size+1,1,A⟩=I (P A 0 0):=by rw[b];simp[go_sem]
 have x:∀o,W1.frozen? ⟨w.heap.size+1,o,A⟩=N:=by intro o;rw[b];simp[go_sem]
 have HT:Zb (T L 106 #[Y #[F E 0,P A 0 0],Y #[F E 0,P A 0 0]] W1 fun e w'=>∃g,W1.heap.size<=g/\e=J (Y #[F E 3,P (I ⟨g,0,A⟩) 2 2])/\(Tr.mk 3 (I ⟨g,0,A⟩) 2 [Ys 0,Ys 0]).In w'/\bL W1 w'):=VC (Ys 0) (Ys 0) W1 (YC _ _) (YC _ _);have HZ:=Aa j h z z1 x;clear j h z z1 x;go_enter func185,ntmps185;go_wp2_with fail;rw[<-b];clear b;refine HT.out.mono ?_;rintro e w2 ⟨g,hg,rfl,i,d⟩;obtain⟨y1,l,y3,y,q⟩:=HZ.out;have x0:=Q d y3;have x1:=Q d y;have f0:=(d.frozen (p:=⟨w.heap.size+1,0,A⟩) (by rw[l];show w.heap.size+1<_;omega)).trans (q 0);have f1:=(d.frozen (p:=⟨w.heap.size+1,1,A⟩) (by rw[l];show w.heap.size+1<_;omega)).trans (q 1);have k:Zb (g≠w.heap.size+1/\(Tr.mk 3 (I ⟨g,0,A⟩) 2 [Ys 0,Ys 0]).In w2/\bL w w2):=⟨by omega,i,y1.trans (d.mono y1.size)⟩
 clear d hg i y1 l y3 y q;go_wp2_with fail;have r:=XJ (io:=0) (u:=F E 3) (v:=P (I ⟨g,0,A⟩) 2 2) x0 x1;refine Zd (v:=Y #[F E 3,P (I ⟨g,0,A⟩) 2 2]) (by simp[results,results185,go_sem,r.1,r.2]) rfl ⟨g,rfl,?_,?_⟩
 .exact X4 (io:=0) k.out.2.1 (Tr.mg k.out.1 (YF _ _) (YF _ _))
 .exact(k.out.2.2.setCell (by simp) _).setCell (by simp) _
theorem P7(t:Tr)(w:Za):T L 185 #[Y #[F E t.k,P t.a t.l.length t.c]] w fun e w'=>∃u:Tr,e=J (Y #[F E u.k,P u.a u.l.length u.c])/\u.ty=Yt t.ty/\u.In w'/\Zc w.heap.size w w':=by
 by_cases hk:t.k=3
 .rw[hk];refine(Wr t.a t.l.length t.c w).mono ?_;rintro e w' ⟨g,rfl,a,b⟩;refine⟨_,rfl,?_,a,b⟩;unfold Yt;rw[if_pos (by rw[t.ln];exact hk),Tr.lh];simp[Ys,Tr.lh,Yk]
 .refine(TG t.k (by simpa using hk) t.a t.l.length t.c w).mono ?_;rintro e w' ⟨rfl,b⟩;refine⟨Ys t.k,rfl,?_,YC _ _,b⟩;unfold Yt;rw[if_neg (by rw[t.ln];exact hk),t.ln];simp[Ys,Tr.lh]
theorem D2(w:Za)(k:Int):K8 (w.alloc (Vg k)) w.heap.size ⟨N,Yn,k,Yn,A,A,N⟩ A A:=by constructor<;>simp[Vg,Yn,go_sem]
theorem PQ{G H:Gh}{oc:Option Ca}(k:Int)(a:Xv w0 w1 G w H)(h:(p=A/\oc=A)\/∃b c pg pa,p=I ⟨b,0,A⟩/\oc=I c/\K8 w b c pg pa/\H.cp pg c.given/\H.cp pa c.answer/\¬H.ms b/\w1.heap.size<=b/\∀o,w.frozen? ⟨b,o,A⟩=N):
  T L 184 #[C p,F E k] w fun e w'=>∃b pg pa,e=J (C (I ⟨b,0,A⟩))/\K8 w' b (YZ oc k) pg pa/\H.cp pg (YZ oc k).given/\H.cp pa (YZ oc k).answer/\¬H.ms b/\w1.heap.size<=b/\(∀o,w'.frozen? ⟨b,o,A⟩=N)/\Xv w0 w1 G w' H/\Zc w.heap.size w w':=by
 rcases h with⟨rfl,rfl⟩|⟨b,c,pg,pa,rfl,rfl,m,j,i,hd,l,g⟩
 .refine(Tl k w).mono ?_;rintro e w' ⟨rfl,rfl⟩;have d:bL w (w.alloc (Vg k)):=(S _ _).alloc (U _) _;refine⟨w.heap.size,A,A,rfl,D2 w k,Gh.lp _,Gh.lp _,fun hd=>?_,a.bel.size,fun o=>by simp[Vg,go_sem],⟨a.le,a.hg.below d,a.bel.trans (d.mono a.bel.size),a.new⟩,d⟩;have:=a.hg.lt hd;omega
 .refine(Tk b k w).mono ?_;rintro e w' ⟨rfl,rfl⟩;exact⟨b,pg,pa,rfl,m,j,i,hd,l,g,a,S _ _⟩
theorem Xv.set{G H:Gh}(h:Xv w0 w G W H)(hd:¬H.ms b)(hb:w.heap.size<=b)(j:Nat)(v:Zn):Xv w0 w G (W.setCell ⟨b,j,A⟩ v) H:=⟨h.le,h.hg.of fun k hk i=>Zg _ _ _ _ (by intro e;simp only at e;exact hd (e▸hk)),h.bel.setCell hb _,h.new⟩
theorem K8.qc(h:K8 W b c pg pa)(o:XG):K8 ((((W.setCell ⟨b,0,A⟩ (.bool Ze)).setCell ⟨b,1,A⟩ (F E o.k)).setCell ⟨b,2,A⟩ (F E o.n)).setCell ⟨b,3,A⟩ (.bool o.b)) b ⟨Ze,o,c.kind,c.ends,c.given,c.answer,c.hides⟩ pg pa:=by
 obtain⟨q,l,j,r,k,p,d,m,g,e,a⟩:=h;have far:∀i,4<=i->((((W.setCell ⟨b,0,A⟩ (.bool Ze)).setCell ⟨b,1,A⟩ (F E o.k)).setCell ⟨b,2,A⟩ (F E o.n)).setCell ⟨b,3,A⟩ (.bool o.b)).cell? ⟨b,i,A⟩=W.cell? ⟨b,i,A⟩:=fun i hi=>by rw[Yo (by omega),Yo (by omega),Yo (by omega),Yo (by omega)]
 refine⟨?_,?_,?_,?_,(far 4 (by omega)).trans k,(far 5 (by omega)).trans p,(far 6 (by omega)).trans d,(far 7 (by omega)).trans m,(far 8 (by omega)).trans g,(far 9 (by omega)).trans e,(far 10 (by omega)).trans a⟩
 .rw[Yo (by omega),Yo (by omega),Yo (by omega)];exact X8 q
 .rw[Yo (by omega),Yo (by omega)];exact X8 ((Yo (by omega)).trans l)
 .rw[Yo (by omega)];exact X8 ((Yo (by omega)).trans ((Yo (by omega)).trans j))
 .exact X8 ((Yo (by omega)).trans ((Yo (by omega)).trans ((Yo (by omega)).trans r)))
theorem Bp(m:Nat)(f t:Tr)(o:XG)(w0 w:Za)(G:Gh)(hG:HG w0 w G)(ht0:t.k=0)(hs:∀W,Zc w.heap.size w W->T L 147 #[Y #[F E f.k,P f.a f.l.length f.c],Y #[F E t.k,P t.a t.l.length t.c]] W fun e w'=>e=J (.bool N)/\Zc W.heap.size W w')
  (IH:∀W(u:Tr),Zc w.heap.size w W->u.In W->u.ty=Yt f.ty->HG w0 W G->T L 151 #[Y #[F E f.k,P f.a f.l.length f.c],Y #[F E u.k,P u.a u.l.length u.c],Y #[F E o.k,F E o.n,.bool o.b]] W (Kb w0 W G (Y7 m f.ty (Yt f.ty) o))) :
  T L 151 #[Y #[F E f.k,P f.a f.l.length f.c],Y #[F E t.k,P t.a t.l.length t.c],Y #[F E o.k,F E o.n,.bool o.b]] w (Kb w0 w G (I ⟨(YZ (Y7 m f.ty (Yt f.ty) o) f.k).opens,(YZ (Y7 m f.ty (Yt f.ty) o) f.k).wrong,(YZ (Y7 m f.ty (Yt f.ty) o) f.k).kind,(YZ (Y7 m f.ty (Yt f.ty) o) f.k).ends,(YZ (Y7 m f.ty (Yt f.ty) o) f.k).given,(YZ (Y7 m f.ty (Yt f.ty) o) f.k).answer,Ze⟩)):=by
 obtain⟨d,p⟩:∃d,d=Y7 m f.ty (Yt f.ty) o:=⟨_,rfl⟩
 rw[<-p] at IH ⊢;have t3:(t.k==3)=N:=by rw[ht0];rfl
 have HS:Zb (HG w0 w G/\T L 147 #[Y f.v,Y t.v] (nW f t o w) fun e w'=>e=J (.bool N)/\Zc (nW f t o w).heap.size (nW f t o w) w'):=⟨hG,hs _ (Ua f t o w)⟩
 have HI:=Yy IH;have HN:=Ac f t o w;have e0:(t.k==0)=Ze:=by rw[ht0];rfl
 clear hs hG IH p ht0;obtain⟨x3,a1⟩:∃x3,(f.k==3)=x3:=⟨_,rfl⟩
 cases x3
 all_goals
  go_enter Zy,Zw
  go_wp2_with fail
  refine HS.out.2.mono ?_
  rintro e w2 ⟨rfl,hb⟩
  have r:=Uy ((Ua f t o w).trans (hb.mono (Ua f t o w).size)) (HN.below hb)
  obtain⟨b0,b1,b2,b3,b4,b5,b6⟩:=HN.below hb
  clear hb HN
  go_wp2_with fail
  have a:bL w2 w2.drew:=(S _ _).drew
  have HK:Zb (∀w',bL w2 w'->cL w' w.heap.size 0 (F E f.k)/\cL w' w.heap.size 1 (f.s)/\cL w' (w.heap.size+1+1) 0 (F E o.k)/\cL w' (w.heap.size+1+1) 1 (F E o.n)/\cL w' (w.heap.size+1+1) 2 (.bool o.b)):=fun w' h=>by obtain⟨q0,q1,q2,q3,q4,q5,q6⟩:=r.out.2.below h;exact⟨q0,q1,q4,q5,q6⟩
  have y:Zb (∀W,T L 185 #[Y f.v] W fun e w'=>∃u:Tr,e=J (Y u.v)/\u.ty=Yt f.ty/\u.In w'/\bL W w'):=fun W=>P7 f W
  have HL:Zb (∀W,bL w2 W->bL w W/\HG w0 W G):=fun W h=>⟨r.out.1.trans (h.mono r.out.1.size),HS.out.1.below (r.out.1.trans (h.mono r.out.1.size))⟩
  clear b0 b1 b2 b3 b4 b5 b6
  go_region_held3 (fun w'=>cL w' w.heap.size 0 (F E f.k)/\cL w' w.heap.size 1 (f.s)/\cL w' (w.heap.size+1+1) 0 (F E o.k)/\cL w' (w.heap.size+1+1) 1 (F E o.n)/\cL w' (w.heap.size+1+1) 2 (.bool o.b))
   (first
    |exact HK.out _ a
    |go_keep)
   (first
    |(go_at_call 185;refine(y.out _).mono ?_;rintro e w3 ⟨u,rfl,hu,a0,l⟩;replace a:=a.trans (l.mono a.size);clear y)
    |(go_at_call 151;refine(HI.out _ u (HL.out _ a).1 a0 hu (HL.out _ a).2).mono ?_;rintro e w4 ⟨p4,H4,rfl,k,z⟩;replace a:=a.trans (k.bel.mono a.size);clear HI)
    |(go_at_call 184;refine(PQ f.k k z).mono ?_;rintro e w5 ⟨b,pg,pa,rfl,hC,hg,ha,hd,j,g,q,x⟩;replace a:=a.trans (x.mono a.size)))
  have a4:b<w5.heap.size:=D _ _ hC.c0
  have a3:=hC.c10
  have a2:=g 10
  have c:bL w w3:=(HL.out w3 ((S _ _).drew.trans l)).1
  have HE:Zb (Kb w0 w G (I ⟨(YZ d f.k).opens,(YZ d f.k).wrong,(YZ d f.k).kind,(YZ d f.k).ends,(YZ d f.k).given,(YZ d f.k).answer,Ze⟩) (J (C (I ⟨b,0,A⟩))) (w5.setCell ⟨b,10,A⟩ (.bool Ze))):=by have h1:=(Xv.below HS.out.1 c).trans q;exact⟨_,H4,rfl,h1.set hd (Zt c.size j) 10 _,.inr ⟨b,_,pg,pa,rfl,rfl,hC.oa Ze,hg,ha,hd,Zt c.size j,fun i=>by simpa using g i⟩⟩
  clear hC g q x hg ha hd j k z hu a0 l a c
  go_wp2_with fail
  go_ret
  exact HE.out
theorem To(m:Nat)(f t:Tr)(o:XG)(w0 w:Za)(G:Gh)(hG:HG w0 w G)(hf0:f.k=0)(ht0:(t.k==0)=N)(hs:∀W,Zc w.heap.size w W->T L 147 #[Y #[F E f.k,P f.a f.l.length f.c],Y #[F E t.k,P t.a t.l.length t.c]] W fun e w'=>e=J (.bool N)/\Zc W.heap.size W w')
  (IH:∀W(u:Tr),Zc w.heap.size w W->u.In W->u.ty=Yt t.ty->HG w0 W G->T L 151 #[Y #[F E u.k,P u.a u.l.length u.c],Y #[F E t.k,P t.a t.l.length t.c],Y #[F E o.k,F E o.n,.bool o.b]] W (Kb w0 W G (Y7 m (Yt t.ty) t.ty o))) :
  T L 151 #[Y #[F E f.k,P f.a f.l.length f.c],Y #[F E t.k,P t.a t.l.length t.c],Y #[F E o.k,F E o.n,.bool o.b]] w (Kb w0 w G (I ⟨Ze,o,(YZ (Y7 m (Yt t.ty) t.ty o) t.k).kind,(YZ (Y7 m (Yt t.ty) t.ty o) t.k).ends,(YZ (Y7 m (Yt t.ty) t.ty o) t.k).given,(YZ (Y7 m (Yt t.ty) t.ty o) t.k).answer,(YZ (Y7 m (Yt t.ty) t.ty o) t.k).hides⟩)):=by
 obtain⟨j,a2⟩:∃j,j=Y7 m (Yt t.ty) t.ty o:=⟨_,rfl⟩
 rw[<-a2] at IH ⊢;have f3:(f.k==3)=N:=by rw[hf0];rfl
 have HS:Zb (HG w0 w G/\T L 147 #[Y f.v,Y t.v] (nW f t o w) fun e w'=>e=J (.bool N)/\Zc (nW f t o w).heap.size (nW f t o w) w'):=⟨hG,hs _ (Ua f t o w)⟩
 have HI:=Yy IH;have HN:=Ac f t o w;have e0:(f.k==0)=Ze:=by rw[hf0];rfl
 clear hs hG IH a2 hf0;go_enter Zy,Zw;go_wp2_with fail;refine HS.out.2.mono ?_;rintro e y ⟨rfl,hb⟩;have r:=Uy ((Ua f t o w).trans (hb.mono (Ua f t o w).size)) (HN.below hb);obtain⟨b0,b1,b2,b3,b4,b5,b6⟩:=HN.below hb;clear hb HN;go_wp2_with fail;have a:bL y y.drew:=(S _ _).drew;have HK:Zb (∀w',bL y w'->cL w' (w.heap.size+1) 0 (F E t.k)/\cL w' (w.heap.size+1) 1 (t.s)/\cL w' (w.heap.size+1+1) 0 (F E o.k)/\cL w' (w.heap.size+1+1) 1 (F E o.n)/\cL w' (w.heap.size+1+1) 2 (.bool o.b)):=fun w' h=>by obtain⟨q0,q1,q2,q3,q4,q5,q6⟩:=r.out.2.below h;exact⟨q2,q3,q4,q5,q6⟩
 have a4:Zb (∀W,T L 185 #[Y t.v] W fun e w'=>∃u:Tr,e=J (Y u.v)/\u.ty=Yt t.ty/\u.In w'/\bL W w'):=fun W=>P7 t W;have HL:Zb (∀W,bL y W->bL w W/\HG w0 W G):=fun W h=>⟨r.out.1.trans (h.mono r.out.1.size),HS.out.1.below (r.out.1.trans (h.mono r.out.1.size))⟩
 clear b0 b1 b2 b3 b4 b5 b6;go_region_held3 (fun w'=>cL w' (w.heap.size+1) 0 (F E t.k)/\cL w' (w.heap.size+1) 1 (t.s)/\cL w' (w.heap.size+1+1) 0 (F E o.k)/\cL w' (w.heap.size+1+1) 1 (F E o.n)/\cL w' (w.heap.size+1+1) 2 (.bool o.b))
  (first
   |exact HK.out _ a
   |go_keep)
  (first
   |(go_at_call 185;refine(a4.out _).mono ?_;rintro e w3 ⟨u,rfl,hu,a1,g⟩;replace a:=a.trans (g.mono a.size);clear a4)
   |(go_at_call 151;refine(HI.out _ u (HL.out _ a).1 a1 hu (HL.out _ a).2).mono ?_;rintro e w4 ⟨p4,H4,rfl,l,a0⟩;replace a:=a.trans (l.bel.mono a.size);clear HI)
   |(go_at_call 184;refine(PQ t.k l a0).mono ?_;rintro e x ⟨b,pg,pa,rfl,p,hg,ha,hd,z,d,q,a3⟩;replace a:=a.trans (a3.mono a.size)))
 have a7:b<x.heap.size:=D _ _ p.c0;have d0:=p.c0;have d1:=p.c1;have d2:=p.c2;have d3:=p.c3;have g0:=d 0;have g1:=d 1;have g2:=d 2;have g3:=d 3;obtain⟨_,_,k4,k5,k6⟩:=HK.out _ a;have k:bL w w3:=(HL.out w3 ((S _ _).drew.trans g)).1;have a6:w.heap.size+1+1<x.heap.size:=D _ _ k4;have a5:b≠w.heap.size+1+1:=by have h1:=r.out.2.lt;have h2:=((S y.heap.size y).drew.trans g).size;omega
 have HE:Zb (∀n,Kb w0 w G (I ⟨Ze,o,(YZ j t.k).kind,(YZ j t.k).ends,(YZ j t.k).given,(YZ j t.k).answer,(YZ j t.k).hides⟩) (J (C (I ⟨b,0,A⟩))) (((((x.drewN n).setCell ⟨b,0,A⟩ (.bool Ze)).setCell ⟨b,1,A⟩ (F E o.k)).setCell ⟨b,2,A⟩ (F E o.n)).setCell ⟨b,3,A⟩ (.bool o.b))):=by intro n;have h0:Xv w0 x H4 (x.drewN n) H4:=Xv.below q.hg (Jp (S _ _) n);have h1:=((Xv.below HS.out.1 k).trans q).trans h0;have c:=Zt k.size z;refine⟨_,H4,rfl,(((h1.set hd c 0 _).set hd c 1 _).set hd c 2 _).set hd c 3 _,.inr ⟨b,_,pg,pa,rfl,rfl,(p.of (w':=x.drewN n) fun _=>rfl).qc o,hg,ha,hd,c,fun i=>by simpa using d i⟩⟩
 clear p d q a3 hg ha hd z l a0 hu a1 g a k;go_wp2_with fail;go_region
 all_goals
  go_wp2_with fail
  go_ret
  exact HE.out 1
theorem Ew(m:Nat)(f t x0 x1 y0 y1:Tr)(fb fo tb tq:Nat)(o:XG)(w0 w:Za)(G:Gh)(hG:HG w0 w G)(ef:f.a=I ⟨fb,fo,A⟩)(et:t.a=I ⟨tb,tq,A⟩)(lf:f.l.length=2)(lt:t.l.length=2)(kf:f.k=3)(kt:t.k=3)
  (p0:w.cell? ⟨fb,fo,A⟩=I (F E x0.k)) (p1:w.cell? ⟨fb,fo+1,A⟩=I (P x0.a x0.l.length x0.c)) (p2:w.cell? ⟨fb,fo+2,A⟩=I (F E x1.k)) (p3:w.cell? ⟨fb,fo+3,A⟩=I (P x1.a x1.l.length x1.c))
  (q0:w.cell? ⟨tb,tq,A⟩=I (F E y0.k)) (q1:w.cell? ⟨tb,tq+1,A⟩=I (P y0.a y0.l.length y0.c)) (q2:w.cell? ⟨tb,tq+2,A⟩=I (F E y1.k)) (q3:w.cell? ⟨tb,tq+3,A⟩=I (P y1.a y1.l.length y1.c))
  (hs:∀W,Zc w.heap.size w W->T L 147 #[Y #[F E f.k,P f.a f.l.length f.c],Y #[F E t.k,P t.a t.l.length t.c]] W fun e w'=>e=J (.bool N)/\Zc W.heap.size W w')
  (I0:∀W,Zc w.heap.size w W->HG w0 W G->T L 151 #[Y #[F E y0.k,P y0.a y0.l.length y0.c],Y #[F E x0.k,P x0.a x0.l.length x0.c],Y #[F E o.k,F E o.n,.bool (!o.b)]] W (Kb w0 W G (Y7 m y0.ty x0.ty (KL o))))
  (I1:∀W H,Zc w.heap.size w W->HG w0 W H->T L 151 #[Y #[F E x1.k,P x1.a x1.l.length x1.c],Y #[F E y1.k,P y1.a y1.l.length y1.c],Y #[F E o.k,F E o.n,.bool o.b]] W (Kb w0 W H (Y7 m x1.ty y1.ty o))) :
  T L 151 #[Y #[F E f.k,P f.a f.l.length f.c],Y #[F E t.k,P t.a t.l.length t.c],Y #[F E o.k,F E o.n,.bool o.b]] w (Kb w0 w G (I ⟨N,Yn,3,Yn,Y7 m y0.ty x0.ty (KL o),Y7 m x1.ty y1.ty o,N⟩)):=by
 have a8:fb<w.heap.size:=D _ _ p0;have a7:tb<w.heap.size:=D _ _ q0;obtain⟨n0,a2⟩:∃n,n=Y7 m y0.ty x0.ty (KL o):=⟨_,rfl⟩
 obtain⟨n1,u⟩:∃n,n=Y7 m x1.ty y1.ty o:=⟨_,rfl⟩
 rw[<-a2] at I0 ⊢;rw[<-u] at I1 ⊢;have g:=Ac f t o w;have q:=hs _ (Ua f t o w);obtain⟨W1,b⟩:∃W,W=nW f t o w:=⟨_,rfl⟩
 have a3:bL w W1:=by rw[b];exact Ua f t o w
 rw[<-b] at g q;have HS:=Uy hG q;have a1:Zb (∀W,bL w W->HG w0 W G->T L 151 #[Y y0.v,Y x0.v,Y #[F E o.k,F E o.n,.bool (!o.b)]] W fun e w'=>∃p H,e=J (C p)/\H.cp p n0/\Xv w0 W G w' H):=fun W k h2=>(I0 W k h2).mono fun e w' h=>h.known;have a0:Zb (∀W H,bL w W->HG w0 W H->T L 151 #[Y x1.v,Y y1.v,Y #[F E o.k,F E o.n,.bool o.b]] W fun e w'=>∃p H',e=J (C p)/\H'.cp p n1/\Xv w0 W H w' H'):=fun W H k h2=>(I1 W H k h2).mono fun e w' h=>h.known;have HT:Zb (∀W,T L 183 #[Y #[F E o.k,F E o.n,.bool o.b]] W fun e w'=>e=J (Y #[F E o.k,F E o.n,.bool (!o.b)])/\bL W w'):=fun W=>VA o.k o.n o.b W;have HP:Zb (∀c,bL w c->cL c fb fo (F E x0.k)/\cL c fb (fo+1) (x0.s)/\cL c fb (fo+2) (F E x1.k)/\cL c fb (fo+3) (x1.s)/\cL c tb tq (F E y0.k)/\cL c tb (tq+1) (y0.s)/\cL c tb (tq+2) (F E y1.k)/\cL c tb (tq+3) (y1.s)):=fun c h=>⟨Q h p0,Q h p1,Q h p2,Q h p3,Q h q0,Q h q1,Q h q2,Q h q3⟩
 have HN:=Uy g a3;rw[ef,lf,kf,et,lt,kt] at HS ⊢;have a6:=g;clear hs hG I0 I1 p0 p1 p2 p3 q0 q1 q2 q3 a2 u q g a3;unfold nW at b;rw[ef,lf,kf,et,lt,kt] at b;go_enter Zy,Zw;go_wp2_with fail;rw[<-b];clear b;refine HS.out.2.mono ?_;rintro e w2 ⟨rfl,hb⟩;have l:=Uy (HN.out.2.trans (hb.mono HN.out.2.size)) (HN.out.1.below hb);obtain⟨b0,b1,b2,b3,b4,b5,b6⟩:=l.out.2;rw[kf] at b0;rw[kt] at b2;rw[ef,lf] at b1;rw[et,lt] at b3;clear hb HN a6;go_wp2_with fail;have a:bL w2 w2.drew:=(S _ _).drew;have HK:Zb (∀w',bL w2 w'->cL w' w.heap.size 1 (P (I ⟨fb,fo,A⟩) 2 f.c)/\cL w' (w.heap.size+1) 1 (P (I ⟨tb,tq,A⟩) 2 t.c)/\cL w' (w.heap.size+1+1) 0 (F E o.k)/\cL w' (w.heap.size+1+1) 1 (F E o.n)/\cL w' (w.heap.size+1+1) 2 (.bool o.b)/\cL w' fb fo (F E x0.k)/\cL w' fb (fo+1) (x0.s)/\cL w' fb (fo+2) (F E x1.k)/\cL w' fb (fo+3) (x1.s)/\cL w' tb tq (F E y0.k)/\cL w' tb (tq+1) (y0.s)/\cL w' tb (tq+2) (F E y1.k)/\cL w' tb (tq+3) (y1.s)):=fun w' h=>⟨Q h b1,Q h b3,Q h b4,Q h b5,Q h b6,HP.out w' (l.out.1.trans (h.mono l.out.1.size))⟩
 have HL:Zb (∀W,bL w2 W->bL w W/\HG w0 W G):=fun W h=>⟨l.out.1.trans (h.mono l.out.1.size),HS.out.1.below (l.out.1.trans (h.mono l.out.1.size))⟩
 clear b0 b1 b2 b3 b4 b5 b6;go_region_held3 (fun w'=>cL w' w.heap.size 1 (P (I ⟨fb,fo,A⟩) 2 f.c)/\cL w' (w.heap.size+1) 1 (P (I ⟨tb,tq,A⟩) 2 t.c)/\cL w' (w.heap.size+1+1) 0 (F E o.k)/\cL w' (w.heap.size+1+1) 1 (F E o.n)/\cL w' (w.heap.size+1+1) 2 (.bool o.b)/\cL w' fb fo (F E x0.k)/\cL w' fb (fo+1) (x0.s)/\cL w' fb (fo+2) (F E x1.k)/\cL w' fb (fo+3) (x1.s)/\cL w' tb tq (F E y0.k)/\cL w' tb (tq+1) (y0.s)/\cL w' tb (tq+2) (F E y1.k)/\cL w' tb (tq+3) (y1.s))
  (first
   |exact HK.out _ a
   |exact HK.out _ (a.alloc a.size _)
   |go_keep)
  (first
   |(go_at_call 183;refine(HT.out _).mono ?_;rintro e w3 ⟨rfl,r⟩;replace a:=a.trans (r.mono a.size);clear HT)
   |(go_at_call 151;refine(a1.out _ (HL.out _ a).1 (HL.out _ a).2).mono ?_;rintro e w4 ⟨p4,H4,rfl,z,j⟩;replace a:=a.trans (j.bel.mono a.size);clear a1)
   |(go_at_call 151;refine(a0.out _ H4 (HL.out _ a).1 j.hg).mono ?_;rintro e y ⟨p5,H5,rfl,x,d⟩;replace a:=a.trans (d.bel.mono a.size);clear a0))
 have HE:Zb (Kb w0 w G (I ⟨N,Yn,3,Yn,n0,n1,N⟩) (J (C (I ⟨y.heap.size,0,A⟩))) (y.alloc (Lt ⟨N,Yn,3,Yn,n0,n1,N⟩ p4 p5))):=by have a4:bL w w3:=(HL.out w3 ((S _ _).drew.trans r)).1;have k:=((Xv.below HS.out.1 a4).trans j).trans d;have a5:bL y (y.alloc (Lt ⟨N,Yn,3,Yn,n0,n1,N⟩ p4 p5)):=(S _ _).alloc (U _) _;refine⟨_,H5,rfl,k.trans (Xv.below k.hg a5),.inr ⟨y.heap.size,_,p4,p5,rfl,rfl,NS _ _ _ _,z.le d.le,x,fun hd=>?_,k.bel.size,fun i=>by simp[Lt,go_sem]⟩⟩;have:=k.hg.lt hd;omega
 clear z j x d r a;go_wp2_with fail;go_ret;exact HE.out
theorem NI(w0:Za):∀(m n:Nat)(f t:Tr)(o:XG)(w:Za)(G:Gh),n<=500->YB n f=Ze->YB n t=Ze->2*n+(if f.k=0\/t.k=0 then 1 else 0)<=m->f.In w->t.In w->HG w0 w G->
  T L 151 #[Y #[F E f.k,P f.a f.l.length f.c],Y #[F E t.k,P t.a t.l.length t.c],Y #[F E o.k,F E o.n,.bool o.b]] w (Kb w0 w G (Y7 m f.ty t.ty o))
 |0,0,f,t,o,w,G,_,hf,_,_,_,_,_=>by simp[YB] at hf
 |0,n+1,f,t,o,w,G,_,_,_,hm,_,_,_=>by omega
 |m+1,0,f,t,o,w,G,_,hf,_,_,_,_,_=>by simp[YB] at hf
 |m+1,n+1,f,t,o,w,G,hn,hf,ht,hm,hfi,hti,hG=>by
  have hh:f.hgt<=1000:=Zt (Tr.mz _ f hf) (by omega);have hsm:=Tr.nl _ f hf;have HS:∀W,bL w W->T L 147 #[Y f.v,Y t.v] W fun e w'=>e=J (.bool (YD YA f.ty t.ty))/\bL W w':=fun W hb=>LE f t W (hfi.below hb) (hti.below hb) hh hsm;rw[Y7];by_cases hs:YD YA f.ty t.ty=Ze
  .rw[if_pos hs];rw[hs] at HS;exact C0 f t o w0 w G hG HS
  rw[if_neg hs];have hs':YD YA f.ty t.ty=N:=by simpa using hs
  rw[hs'] at HS;have q:=f.ln;have kt:=t.ln;have gf:Ym (n+1) f.ty=Ze:=by rw[<-YL];exact hf
  have gt:Ym (n+1) t.ty=Ze:=by rw[<-YL];exact ht
  have gg:∀u:Ty,Ym (n+1) u=Ze->Ym (n+1) (Yt u)=Ze:=fun u hu=>by
   unfold Yt;split
   .rename_i h3;cases n with
    |zero=>
     exfalso;obtain⟨k,l⟩:=u;simp only at h3;subst h3;match l,hu with
     |[],hu=>simp[Ym] at hu
     |[x],hu=>simp[Ym] at hu
     |[x,y],hu=>simp[Ym] at hu
     |x::y::z::r,hu=>simp[Ym] at hu
    |succ n=>simp[Ym,Yk]
   .rename_i h3;obtain⟨k,l⟩:=u;match l,hu with
    |[],hu=>exact hu
    |[x],hu=>simp[Ym] at hu
    |[x,y],hu=>simp only[Ym,ZG,beq_iff_eq] at hu;exact absurd hu.1.1 h3
    |x::y::z::r,hu=>simp[Ym] at hu
  have g0:∀u:Ty,u.k≠0->(Yt u).k≠0:=fun u hu=>by
   unfold Yt;split
   .simp
   .exact hu
  by_cases h3:f.k=3/\t.k=3
  .rw[if_pos (by rw[q,kt];exact h3)];rcases (Tr.lj _ f hf).cases with⟨_,h⟩|⟨x0,x1,g,_,_,_⟩
   .omega
   rcases (Tr.lj _ t ht).cases with⟨_,h⟩|⟨y0,y1,lt,_,_,_⟩
   .omega
   obtain⟨fb,fo,af,p0,p1,a5⟩:=hfi.part 0 (by simp[g]);obtain⟨aa,a9,a1,p2,p3,a2⟩:=hfi.part 1 (by simp[g]);obtain⟨tb,tq,a3,q0,q1,a6⟩:=hti.part 0 (by simp[lt]);obtain⟨ab,a8,i,q2,q3,a0⟩:=hti.part 1 (by simp[lt]);rw[af] at a1;rw[a3] at i;obtain⟨rfl,rfl⟩:fb=aa/\fo=a9:=by simpa using a1
   obtain⟨rfl,rfl⟩:tb=ab/\tq=a8:=by simpa using i
   simp only[g,ZK,ZL] at p0 p1 p2 p3 a5 a2;simp only[lt,ZK,ZL] at q0 q1 q2 q3 a6 a0;have a4:YB n x0=Ze/\YB n x1=Ze:=by obtain⟨k,a,c,l⟩:=f;simp only at g;subst g;simp only[YB,ZG] at hf;exact⟨hf.1.2,hf.2⟩
   have a7:YB n y0=Ze/\YB n y1=Ze:=by obtain⟨k,a,c,l⟩:=t;simp only at lt;subst lt;simp only[YB,ZG] at ht;exact⟨ht.1.2,ht.2⟩
   have ef:f.ty.l.getD 0 Yk=x0.ty/\f.ty.l.getD 1 Yk=x1.ty:=by rw[f.qr,g];exact⟨rfl,rfl⟩
   have et:t.ty.l.getD 0 Yk=y0.ty/\t.ty.l.getD 1 Yk=y1.ty:=by rw[t.qr,lt];exact⟨rfl,rfl⟩
   rw[ef.1,ef.2,et.1,et.2];have ac:2*(n+1)<=m+1:=by omega
   have i1:∀p:Prop,∀[Decidable p],(if p then 1 else 0)<=1:=fun p _=>by split<;>omega
   have i2:=i1 (y0.k=0\/x0.k=0);have i3:=i1 (x1.k=0\/y1.k=0);exact Ew m f t x0 x1 y0 y1 fb fo tb tq o w0 w G hG af a3 (by rw[g];rfl) (by rw[lt];rfl) h3.1 h3.2 (by simpa using p0) (by simpa using p1) (by simpa using p2) (by simpa using p3) (by simpa using q0) (by simpa using q1) (by simpa using q2) (by simpa using q3) HS (fun W hb j=>NI w0 m n y0 x0 (KL o) W G (by omega) a7.1 a4.1 (by omega) (a6.below hb) (a5.below hb) j)
    (fun W H hb j=>NI w0 m n x1 y1 o W H (by omega) a4.2 a7.2 (by omega) (a2.below hb) (a0.below hb) j)
  rw[if_neg (by rw[q,kt];exact h3)];by_cases ht0:t.k=0
  .rw[if_pos (by rw[kt];exact ht0)];have d:f.k≠0:=fun e=>hs (by
    rcases (Tr.lj _ f hf).cases with⟨g,_⟩|⟨x0,x1,_,h,_,_⟩
    .rcases (Tr.lj _ t ht).cases with⟨lt,_⟩|⟨y0,y1,_,h,_,_⟩
     .have e1:f.ty=⟨0,[]⟩:=by cases f;simp only at e g;subst e g;simp[Tr.lh]
      have e2:t.ty=⟨0,[]⟩:=by cases t;simp only at ht0 lt;subst ht0 lt;simp[Tr.lh]
      rw[e1,e2,Y0];rfl
     .omega
    .omega)
   simp only[q];rw[if_pos (.inr ht0)] at hm;refine Bp m f t o w0 w G hG ht0 HS fun W u hb hu b j=>?_;have gu:YB (n+1) u=Ze:=by rw[YL,b];exact gg _ gf
   have ku:u.k≠0:=by rw[<-u.ln,b];exact g0 _ (by rw[q];exact d)
   rw[<-b];exact NI w0 m (n+1) f u o W G hn hf gu (by rw[if_neg (by omega)];omega) (hfi.below hb) hu j
  rw[if_neg (by rw[kt];exact ht0)];by_cases d:f.k=0
  .rw[if_pos (by rw[q];exact d)];simp only[kt];rw[if_pos (.inl d)] at hm;refine To m f t o w0 w G hG d (by simpa using ht0) HS fun W u hb hu b j=>?_;have gu:YB (n+1) u=Ze:=by rw[YL,b];exact gg _ gt
   have ku:u.k≠0:=by rw[<-u.ln,b];exact g0 _ (by rw[kt];exact ht0)
   rw[<-b];exact NI w0 m (n+1) u t o W G hn gu ht (by rw[if_neg (by omega)];omega) hu (hti.below hb) j
  rw[if_neg (by rw[q];exact d),q];refine Bq f t o w0 w G hG ?_ (by simpa using d) (by simpa using ht0) HS;by_cases hf3:f.k=3
  .exact .inr (by simpa using fun h=>h3 ⟨hf3,h⟩)
  .exact .inl (by simpa using hf3)
theorem C5{G:Gh}{s:St}(h:MS w0 w M G s)(m:s.vs.length+1<=1000000000)(k:G.sp q e)(n:Nat)(a:n<=1000000)(l:w0.cell? ⟨b,o,A⟩=I (F E 1))(p:w0.cell? ⟨b,o+1,A⟩=I (F E n)):
  T L 111 #[C (I ⟨M,0,A⟩),C (I ⟨b,o,A⟩),C q] w (YE w0 w M G (match e[n]? with|some v=>s.push v|none=>s.stop Yw)):=by
 have u:=Q h.bel l;have k1:=Q h.bel p;have lb:b<w.heap.size:=D _ _ u;have H:=O8 h m k a;obtain⟨i,hS⟩:∃i,i=(match e[n]? with|some v=>s.push v|none=>s.stop Yw):=⟨_,rfl⟩
 rw[<-hS];have g:=Yy hS;clear hS h m k a l p;go_enter Zo,Zm;go_wp2_with fail;refine(DA H.out.1.hg q e H.out.2.2.1 n H.out.2.2.2).mono ?_;rintro r j ⟨rfl,x,rfl,c⟩;have z:Zb (T L 148 #[C (I ⟨M,0,A⟩),C x] j fun e w'=>e=J (V #[])/\Zb (YE w0 j M G i (J (V #[])) w')):=by
  rcases c with⟨rfl,a⟩|⟨v,a,c⟩
  .refine(VU H.out.1).mono ?_;rintro e w' ⟨rfl,d⟩;refine⟨rfl,rfl,?_⟩;rw[g.out,a];exact d
  .obtain⟨b',rfl,hb'⟩:=c;refine(VT H.out.1 ⟨b',rfl,hb'⟩ H.out.2.1).mono ?_;rintro e w' ⟨rfl,d⟩;refine⟨rfl,rfl,?_⟩;rw[g.out,a];exact d
 clear c g H;go_wp2_with fail;refine z.out.mono ?_;rintro e w2 ⟨rfl,y⟩;go_wp2_with fail;go_end0;exact y.out
theorem Tq{G:Gh}{s:St}(h:MS w0 w M G s)(a:s.vs.length+1<=1000000000)(k n:Int)(p:k=2\/k=3)(i:w0.cell? ⟨b,o,A⟩=I (F E k))(m:w0.cell? ⟨b,o+1,A⟩=I (F E n)):
  T L 111 #[C (I ⟨M,0,A⟩),C (I ⟨b,o,A⟩),C q] w (YE w0 w M G (s.push (if k=2 then XP n else Xp n))):=by
 have r:=Q h.bel i;have x:=Q h.bel m;have y:b<w.heap.size:=D _ _ r;rcases p with rfl|rfl
 .have HK:Zb (T L 150 #[C (I ⟨M,0,A⟩),C (I ⟨w.heap.size,0,A⟩)] (w.alloc (Nv 1 n A A A A A 0)) (fun e w'=>e=J (V #[])/\Zb (YE w0 w M G (s.push (XP n)) (J (V #[])) w'))):=by refine(L1 h ((S _ _).alloc (U _) _) (WV _) a).mono ?_;rintro e w' ⟨rfl,j,c,d,g⟩;exact⟨rfl,rfl,j,c,d,g⟩
  show T L 111 _ w (YE w0 w M G (s.push (XP n)))
  clear h a i m;go_enter Zo,Zm;go_wp2_with fail;refine HK.out.mono ?_;rintro e u ⟨rfl,l⟩;go_wp2_with fail;go_end0;exact l.out
 .have HK:Zb (T L 150 #[C (I ⟨M,0,A⟩),C (I ⟨w.heap.size,0,A⟩)] (w.alloc (Nv 2 n A A A A A 0)) (fun e w'=>e=J (V #[])/\Zb (YE w0 w M G (s.push (Xp n)) (J (V #[])) w'))):=by refine(L1 h ((S _ _).alloc (U _) _) (QO _) a).mono ?_;rintro e w' ⟨rfl,j,c,d,g⟩;exact⟨rfl,rfl,j,c,d,g⟩
  show T L 111 _ w (YE w0 w M G (s.push (Xp n)))
  clear h a i m;go_enter Zo,Zm;go_wp2_with fail;refine HK.out.mono ?_;rintro e u ⟨rfl,l⟩;go_wp2_with fail;go_end0;exact l.out
theorem ED{G:Gh}{s:St}(h:MS w0 w M G s)(i:s.vs.length+1<=1000000000){c:Nat}(d:G.sp q e)(a:O2 w0 (I ⟨lb,lo,A⟩) y)(g:w0.cell? ⟨b,o,A⟩=I (F E 7))(j:w0.cell? ⟨b,o+6,A⟩=I (P (I ⟨lb,lo,A⟩) 1 c)):
  T L 111 #[C (I ⟨M,0,A⟩),C (I ⟨b,o,A⟩),C q] w (YE w0 w M G (s.push (NM y e))):=by
 have r:=Q h.bel g;have k6:=Q h.bel j;have u:b<w.heap.size:=D _ _ r;have m:Zb (T L 150 #[C (I ⟨M,0,A⟩),C (I ⟨w.heap.size,0,A⟩)] (w.alloc (Nv 3 0 (I ⟨lb,lo,A⟩) q A A A 0)) (fun e' w'=>e'=J (V #[])/\Zb (YE w0 w M G (s.push (NM y e)) (J (V #[])) w'))):=by refine(L1 h ((S _ _).alloc (U _) _) (v:=NM y e) (MA (fun _=>rfl) rfl rfl rfl (fun _=>⟨a,d⟩) (fun h=>by simp[NM] at h) (Gh.lp _) (Gh.lp _)) i).mono ?_;rintro e w' ⟨rfl,x,k,l,p⟩;exact⟨rfl,rfl,x,k,l,p⟩
 clear h i g j d a;go_enter Zo,Zm;go_wp2_with fail;refine m.out.mono ?_;rintro e w2 ⟨rfl,z⟩;go_wp2_with fail;go_end0;exact z.out
theorem EE{G:Gh}{s:St}(h:MS w0 w M G s)(l:s.ts.length+1<=1000000000){c:Nat}(j:G.sp q e)(g:O2 w0 (I ⟨lb,lo,A⟩) y)(k:w0.cell? ⟨b,o,A⟩=I (F E 9))(i:w0.cell? ⟨b,o+6,A⟩=I (P (I ⟨lb,lo,A⟩) 1 c)):
  T L 111 #[C (I ⟨M,0,A⟩),C (I ⟨b,o,A⟩),C q] w (YE w0 w M G (s.ll (Y3 y e))):=by
 have m:=Q h.bel k;have u:=Q h.bel i;have p:b<w.heap.size:=D _ _ m;have H:=O8 h l j g;clear h l k i j g;go_enter Zo,Zm;go_wp2_with fail;refine(XW H.out.1 (Ns.look H.out.2.2.2 H.out.2.2.1) H.out.2.1).mono ?_;rintro z x ⟨rfl,d,a⟩;have r:=Yy (YE.of rfl d a);clear d a;go_wp2_with fail;go_end0;exact r.out
theorem EC{G:Gh}{s:St}(h:MS w0 w M G s)(l:s.ts.length+2<=1000000000){c:Nat}(j:G.sp q e)(k:O2 w0 (I ⟨b,o,A⟩) x)(i:O2 w0 (I ⟨lb,lo,A⟩) y)(z:w0.cell? ⟨b,o,A⟩=I (F E 6))(u:w0.cell? ⟨b,o+6,A⟩=I (P (I ⟨lb,lo,A⟩) 3 c)):
  T L 111 #[C (I ⟨M,0,A⟩),C (I ⟨b,o,A⟩),C q] w (YE w0 w M G ((s.ll (Jo x e)).ll (Y3 y e))):=by
 have r:=Q h.bel z;have a1:b<w.heap.size:=D _ _ r;have H:=E2 h l j i k u;clear h l z u j i k;go_enter Zo,Zm;go_wp2_with fail;refine(XW H.out.1 (Ns.choose H.out.2.2.2.2.1 H.out.2.2.1) (by have:=H.out.2.1;omega)).mono ?_;rintro e' w1 ⟨rfl,a,p⟩;have k6:=Q a.bel H.out.2.2.2.2.2;have a0:b<w1.heap.size:=D _ _ k6;have d:=Uy a p;clear a p r;go_wp2_with fail;refine(XW d.out.1 (Ns.look H.out.2.2.2.1 H.out.2.2.1) (by have:=H.out.2.1;simp only[St.ll,Zf];omega)).mono ?_;rintro e' w2 ⟨rfl,g,m⟩;have HE:=Yy (YE.of rfl g (d.out.2.trans m));clear g m;go_wp2_with fail;go_end0;exact HE.out
theorem PT{G:Gh}{s:St}(h:MS w0 w M G s)(p:s.ts.length+3<=1000000000)(l:G.sp q e)(m:O2 w0 (I ⟨b,o,A⟩) x)(i:x.l.length=2)(k:Int)(u:k=4\/k=5\/k=8)(g:w0.cell? ⟨b,o,A⟩=I (F E k)):
  T L 111 #[C (I ⟨M,0,A⟩),C (I ⟨b,o,A⟩),C q] w (YE w0 w M G (Jx s x e (if k=4 then 2 else if k=5 then 3 else 5))):=by
 have y:=Q h.bel g;have z:b<w.heap.size:=D _ _ y;have H:Zb (∀d,(d=2\/d=3\/d=5)->T L 152 #[C (I ⟨M,0,A⟩),C (I ⟨b,o,A⟩),C q,F E d] w fun c w'=>c=J (V #[])/\Zb (YE w0 w M G (Jx s x e d) (J (V #[])) w')):=fun d hd=>by refine(D3 h m l i d hd p).mono ?_;rintro e w' ⟨rfl,r⟩;exact⟨rfl,rfl,r⟩
 clear h p g l m i;rcases u with rfl|rfl|rfl
 .show T L 111 _ w (YE w0 w M G (Jx s x e 2))
  go_enter Zo,Zm;go_wp2_with fail;refine(H.out 2 (.inl rfl)).mono ?_;rintro c j ⟨rfl,a⟩;go_wp2_with fail;go_end0;exact a.out
 .show T L 111 _ w (YE w0 w M G (Jx s x e 3))
  go_enter Zo,Zm;go_wp2_with fail;refine(H.out 3 (.inr (.inl rfl))).mono ?_;rintro c j ⟨rfl,a⟩;go_wp2_with fail;go_end0;exact a.out
 .show T L 111 _ w (YE w0 w M G (Jx s x e 5))
  go_enter Zo,Zm;go_wp2_with fail;refine(H.out 5 (.inr (.inr rfl))).mono ?_;rintro c j ⟨rfl,a⟩;go_wp2_with fail;go_end0;exact a.out
theorem Bu{G:Gh}{s:St}(h:MS w0 w M G s)(hn:s.ts.length+2<=1000000000){c:Nat}{x:TT}(hs:G.sp q e)(hx:Uz w0 b o x)(hxi:x.In w0)(hy:O2 w0 (I ⟨lb,lo,A⟩) y)(hk:x.k=10)(c6:w0.cell? ⟨b,o+6,A⟩=I (P (I ⟨lb,lo,A⟩) 1 c))(gt:YB 46 x.t=Ze)(gf:YB 46 x.f=Ze):
  T L 111 #[C (I ⟨M,0,A⟩),C (I ⟨b,o,A⟩),C q] w (YE w0 w M G ((s.ll (Xj (Y7 100 x.f.ty x.t.ty (K5 x.n)))).ll (Y3 y e))):=by
 have k0:=Q h.bel hx.c0;rw[hk] at k0;have a4:b<w.heap.size:=D _ _ k0;have lM:=h.lt;obtain⟨m,k⟩:∃m,m=Y7 100 x.f.ty x.t.ty (K5 x.n):=⟨_,rfl⟩
 have HN:Zb (∀W,bL w W->T L 151 #[Y x.f.v,Y x.t.v,Y #[F E 4,F E x.n,.bool N]] W fun r w'=>∃p H,r=J (C p)/\H.cp p m/\MS w0 w' M H s/\G.le H/\bL W w'):=fun W j=>by have hm:=h.below j;have u:=h.bel.trans (j.mono h.bel.size);rw[k];refine(NI w0 100 46 x.f x.t (K5 x.n) W G (by omega) gf gt (by split<;>omega) (hxi.f.below u) (hxi.t.below u) hm.hg).mono ?_;intro r w' hp;obtain⟨p,H,he,a3,a⟩:=hp.known;exact⟨p,H,he,a3,(hm.post a).1,a.le,a.bel⟩
 rw[<-k];have HC:Zb (∀W,bL w0 W->cL W b (o+1) (F E x.n)/\cL W b (o+2) (F E x.t.k)/\cL W b (o+3) (x.t.s)/\cL W b (o+4) (F E x.f.k)/\cL W b (o+5) (x.f.s)):=fun W j=>by exact⟨Q j hx.c1,Q j hx.c2,Q j hx.c3,Q j hx.c4,Q j hx.c5⟩
 have H:=O8 hn hs hy c6;have d:=h.bel.drew;clear h hn c6 hs hy hx hxi hk k gt gf;go_enter Zo,Zm;go_wp2_with fail;have a1:bL w w.drew:=(S _ _).drew;clear k0;go_region_held3 (fun W=>cL W b (o+1) (F E x.n)/\cL W b (o+2) (F E x.t.k)/\cL W b (o+3) (x.t.s)/\cL W b (o+4) (F E x.f.k)/\cL W b (o+5) (x.f.s))
  (first
   |exact HC.out _ d
   |go_keep)
  (first
   |(go_at_call 151;refine(HN.out _ a1).mono ?_;rintro r w1 ⟨p1,H1,rfl,i,l,a0,a2⟩;replace d:=l.bel;clear HN)
   |(go_at_call 72;refine(XW l (Ns.change i) (by have:=H.out.1;omega)).mono ?_;rintro r w2 ⟨rfl,g,z⟩;replace d:=g.bel))
 have k6:=Q g.bel H.out.2.2.2;have a5:b<w2.heap.size:=D _ _ k6;have H2:Zb (MS w0 w2 M H1 (s.ll (Xj m))/\Fr M w w2/\G.le H1):=⟨g,((Fr.below ((S _ _).drew.trans a2) lM)).trans z,a0⟩
 clear l g z a2 i a0 d a1;go_wp2_with fail;refine(XW H2.out.1 (Ns.look H.out.2.2.1 (H.out.2.1.le H2.out.2.2)) (by have:=H.out.1;simp only[St.ll,Zf];omega)).mono ?_;rintro r w3 ⟨rfl,h3,f3⟩;have HE:Zb (YE w0 w M G ((s.ll (Xj m)).ll (Y3 y e)) (J (V #[])) w3):=⟨rfl,H1,H2.out.2.2,h3,H2.out.2.1.trans f3⟩
 clear h3 f3;go_wp2_with fail;go_end0;exact HE.out
theorem C6{G:Gh}{s:St}(h:MS w0 w M G s)(hn:s.ts.length+3<=1000000000)(z:s.vs.length+1<=1000000000)(u:O2 w0 p x)(j:G.sp q e)(sx:L9 x):
  T L 111 #[C (I ⟨M,0,A⟩),C p,C q] w (YE w0 w M G (Y2 s x e)):=by
 obtain⟨k1,a1,m,n1,n2,a0,hg⟩:=sx.top;have a:x.k=1\/x.k=2\/x.k=3\/x.k=4\/x.k=5\/x.k=6\/x.k=7\/x.k=8\/x.k=9\/x.k=10:=by omega
 obtain⟨b,o,rfl,i,c1⟩:=u.top;have part:0<x.l.length->∃k l c,cL w0 b (o+6) (P (I ⟨k,l,A⟩) x.l.length c)/\O2 w0 (I ⟨k,l,A⟩) (x.at 0):=fun hp=>by
  obtain⟨b',o',k,l,c,e,g,hi⟩:=u.part hp;cases e
  exact⟨k,l,c,g,by simpa using hi 0 hp⟩
 rcases a with a|a|a|a|a|a|a|a|a|a
 .have d:Y2 s x e=(match e[x.n.toNat]? with|some v=>s.push v|none=>s.stop Yw):=by simp only[Y2,a,if_true];cases e[x.n.toNat]?<;>rfl
  rw[d];have hz:=a0 a;have e2:=(Int.toNat_of_nonneg hz).symm;rw[a] at i;rw[e2] at c1;exact C5 h z j x.n.toNat (by omega) i c1
 .have d:Y2 s x e=s.push (if x.k=2 then XP x.n else Xp x.n):=by simp only[Y2,a];rfl
  rw[d];exact Tq h z x.k x.n (.inl a) i c1
 .have d:Y2 s x e=s.push (if x.k=2 then XP x.n else Xp x.n):=by simp only[Y2,a];rfl
  rw[d];exact Tq h z x.k x.n (.inr a) i c1
 .have d:Y2 s x e=Jx s x e (if x.k=4 then 2 else if x.k=5 then 3 else 5):=by simp only[Y2,a];rfl
  rw[d];exact PT h hn j u (by rw[m,a];rfl) x.k (.inl a) i
 .have d:Y2 s x e=Jx s x e (if x.k=4 then 2 else if x.k=5 then 3 else 5):=by simp only[Y2,a];rfl
  rw[d];exact PT h hn j u (by rw[m,a];rfl) x.k (.inr (.inl a)) i
 .have hl3:x.l.length=3:=by rw[m,a];rfl
  obtain⟨k,l,c,g,r⟩:=part (by omega);rw[hl3] at g;have d:Y2 s x e=(s.ll (Jo x e)).ll (Y3 (x.at 0) e):=by simp only[Y2,a];rfl
  rw[d];rw[a] at i;exact EC h (by omega) j u r i g
 .have hl1:x.l.length=1:=by rw[m,a];rfl
  obtain⟨k,l,c,g,r⟩:=part (by omega);rw[hl1] at g;have d:Y2 s x e=s.push (NM (x.at 0) e):=by simp only[Y2,a];rfl
  rw[d];rw[a] at i;exact ED h z j r i g
 .have d:Y2 s x e=Jx s x e (if x.k=4 then 2 else if x.k=5 then 3 else 5):=by simp only[Y2,a];rfl
  rw[d];exact PT h hn j u (by rw[m,a];rfl) x.k (.inr (.inr a)) i
 .have hl1:x.l.length=1:=by rw[m,a];rfl
  obtain⟨k,l,c,g,r⟩:=part (by omega);rw[hl1] at g;have d:Y2 s x e=s.ll (Y3 (x.at 0) e):=by simp only[Y2,a];rfl
  rw[d];rw[a] at i;exact EE h (by omega) j r i g
 .have hl1:x.l.length=1:=by rw[m,a];rfl
  obtain⟨k,l,c,g,r⟩:=part (by omega);rw[hl1] at g;have d:Y2 s x e=(s.ll (Xj (Y7 100 x.f x.t (K5 x.n)))).ll (Y3 (x.at 0) e):=by simp only[Y2,a];rfl
  rw[d];obtain⟨b',o',y,e2,ha,hi,rfl⟩:=u;cases e2
  obtain⟨g1,g2⟩:=hg a;rw[y.qd] at g1;rw[y.pj] at g2;rw[y.qd,y.pj,y.nu];exact Bu h (by omega) j ha hi r (by rw[<-y.mc];exact a) g (by rw[YL];exact g1) (by rw[YL];exact g2)
theorem Cn{G:Gh}{s:St}(h:MS w0 w M G s)(hn:s.ts.length+3<=1000000000)(hv:s.vs.length+2<=1000000000)(hc:s.calls<=1000)(a0:∀v,v∈s.vs->Ju v){t:XB}(ht:CO t)(hw:∃q,RC (t::s.ts) q/\fl q s.vs)(hp:Ns w0 G t d pt ps pc):
  T L 73 #[C (I ⟨M,0,A⟩),Y #[F E d,C pt,C ps,C pc]] w (YE w0 w M G (OK s t)):=by
 obtain⟨W,hW⟩:∃W,W=w.alloc (Zj #[F E d,C pt,C ps,C pc] 130):=⟨_,rfl⟩
 have hb:bL w W:=by rw[hW];exact(S _ _).alloc (U _) _
 have hm:=h.below hb;obtain⟨hd,a4,a7⟩:=hp;have y:∀e w',YE w0 W M G (OK s t) e w'->e=J (V #[])/\Zb (YE w0 w M G (OK s t) (J (V #[])) w'):=fun e w' hp=>by obtain⟨rfl,K,hl,a8,hf⟩:=hp;exact⟨rfl,rfl,K,hl,a8,(Fr.below hb h.lt).trans hf⟩
 obtain⟨q,a3,l⟩:=hw;obtain⟨ts,vs,p,o,x⟩:=s;simp only at hn hv hc a0 a3 l;obtain⟨i,hS⟩:∃i,i=OK ⟨ts,vs,p,o,x⟩ t:=⟨_,rfl⟩
 rw[<-hS] at y ⊢;have z:(t.d=1/\Zb (T L 111 #[C (I ⟨M,0,A⟩),C pt,C ps] W fun e w'=>e=J (V #[])/\Zb (YE w0 w M G i (J (V #[])) w')))\/(t.d=2/\Zb (T L 112 #[C (I ⟨M,0,A⟩)] W fun e w'=>e=J (V #[])/\Zb (YE w0 w M G i (J (V #[])) w')))\/(t.d=3/\Zb (T L 113 #[C (I ⟨M,0,A⟩)] W fun e w'=>e=J (V #[])/\Zb (YE w0 w M G i (J (V #[])) w')))\/(t.d=4/\Zb (T L 114 #[C (I ⟨M,0,A⟩),C pt,C ps] W fun e w'=>e=J (V #[])/\Zb (YE w0 w M G i (J (V #[])) w')))\/((t.d=5\/t.d=7)/\Zb (T L 115 #[C (I ⟨M,0,A⟩)] W fun e w'=>e=J (V #[])/\Zb (YE w0 w M G i (J (V #[])) w')))\/(t.d=6/\Zb (T L 116 #[C (I ⟨M,0,A⟩),C pc] W fun e w'=>e=J (V #[])/\Zb (YE w0 w M G i (J (V #[])) w'))):=by
  rcases a3 with⟨c,_⟩|⟨c,b,r,rfl,_⟩|⟨c,a,b,r,rfl,_⟩|⟨c,a,r,rfl,_⟩
  .obtain⟨hx,hz,he⟩:=ht.1 (.inl c);obtain⟨a1,a2⟩:=a4 (.inl c);refine .inl ⟨c,(C6 hm hn (show vs.length+1<=_ by omega) a1 a2 hx).mono fun e w' j=>y e w' ?_⟩;have:i=Y2 ⟨ts,vs,p,o,x⟩ t.x t.s:=by rw[hS];simp only[OK,c,if_true]
   rw[this];exact j
  .obtain⟨v,g,rfl,_,a5⟩:=KC l;simp only[Zf] at hv;rcases c with c|c
   .obtain⟨hx,hz,he⟩:=ht.1 (.inr c);obtain⟨a1,a2⟩:=a4 (.inr c);have a9:t.x.l.length=3:=by rw[hx.top.2.2.1,ht.2.1 c];rfl
    refine .inr (.inr (.inr (.inl ⟨c,(WF hm (by omega) (by omega) a1 a2 a9).mono fun e w' j=>y e w' ?_⟩)));have:i=(if v.k=2 then (St.ll ⟨ts,g,p,o,x⟩ (Y3 (t.x.at (if v.n=1 then 1 else 2)) t.s)) else St.stop ⟨ts,g,p,o,x⟩ Yw):=by rw[hS];simp only[OK,c];rfl
    rw[this];exact j
   .refine .inr (.inr (.inr (.inr (.inr ⟨c,(WH hm (by omega) a7).mono fun e w' j=>y e w' ?_⟩))));have:i=Xz ⟨ts,g,p,o,x⟩ t.c v:=by rw[hS];simp only[OK,c];rfl
    rw[this];exact j
  .obtain⟨v,vs1,rfl,_,hf1⟩:=KC l;obtain⟨u,g,rfl,_,a5⟩:=KC hf1;simp only[Zf] at hv;have hu:=(a0 u (by simp)).top;have a6:=(a0 v (by simp)).top;rcases c with c|c|c
   .refine .inr (.inl ⟨c,(El hm (by omega) rfl ⟨hu.2.2.1,hu.2.2.2⟩ ⟨a6.2.2.1,a6.2.2.2⟩).mono fun e w' j=>y e w' ?_⟩);have:i=⟨ts,XP (Jn (u.n+v.n))::g,p,o,if u.k=1/\v.k=1 then x else Yw⟩:=by rw[hS];simp only[OK,c];rfl
    rw[this];exact j
   .refine .inr (.inr (.inl ⟨c,(T5 hm (by omega) rfl).mono fun e w' j=>y e w' ?_⟩));have:i=⟨ts,Xp (if u.n<v.n then 1 else 0)::g,p,o,if u.k=1/\v.k=1 then x else Yw⟩:=by rw[hS];simp only[OK,c];rfl
    rw[this];exact j
   .refine .inr (.inr (.inr (.inr (.inl ⟨.inl c,(Vh hm (by omega) hn hc).mono fun e w' j=>y e w' ?_⟩))));have:i=US ⟨ts,g,p,o,x⟩ u v:=by rw[hS];simp only[OK,c];rfl
    rw[this];exact j
  .obtain⟨v,vs1,rfl,_,hf1⟩:=KC l;obtain⟨u,g,rfl,_,a5⟩:=KC hf1;simp only[Zf] at hv;refine .inr (.inr (.inr (.inr (.inl ⟨.inr c,(Vh hm (by omega) hn hc).mono fun e w' j=>y e w' ?_⟩))));have:i=US ⟨ts,g,p,o,x⟩ u v:=by rw[hS];simp only[OK,c];rfl
   rw[this];exact j
 clear hS y l a3 hm hb h ht a4 a7 a0 hn hv hc;rcases z with⟨c,k⟩|⟨c,k⟩|⟨c,k⟩|⟨c,k⟩|⟨c,k⟩|⟨c,k⟩
 .have hd1:d=1:=by rw[hd,c];rfl
  subst hd1;clear c hd;go_enter ZB,Zz;go_wp2_with fail;rw[<-hW];refine k.out.mono ?_;rintro e' w2 ⟨rfl,m⟩;go_wp2_with fail;go_end0;exact m.out
 .have hd1:d=2:=by rw[hd,c];rfl
  subst hd1;clear c hd;go_enter ZB,Zz;go_wp2_with fail;rw[<-hW];refine k.out.mono ?_;rintro e' w2 ⟨rfl,m⟩;go_wp2_with fail;go_end0;exact m.out
 .have hd1:d=3:=by rw[hd,c];rfl
  subst hd1;clear c hd;go_enter ZB,Zz;go_wp2_with fail;rw[<-hW];refine k.out.mono ?_;rintro e' w2 ⟨rfl,m⟩;go_wp2_with fail;go_end0;exact m.out
 .have hd1:d=4:=by rw[hd,c];rfl
  subst hd1;clear c hd;go_enter ZB,Zz;go_wp2_with fail;rw[<-hW];refine k.out.mono ?_;rintro e' w2 ⟨rfl,m⟩;go_wp2_with fail;go_end0;exact m.out
 .have hd1:d=5:=by rw[hd];rcases c with c|c<;>rw[c]<;>rfl
  subst hd1;clear c hd;go_enter ZB,Zz;go_wp2_with fail;rw[<-hW];refine k.out.mono ?_;rintro e' w2 ⟨rfl,m⟩;go_wp2_with fail;go_end0;exact m.out
 .have hd1:d=6:=by rw[hd,c];rfl
  subst hd1;clear c hd;go_enter ZB,Zz;go_wp2_with fail;rw[<-hW];refine k.out.mono ?_;rintro e' w2 ⟨rfl,m⟩;go_wp2_with fail;go_end0;exact m.out
theorem Nu:∀(ts:List XB)(q:List Bool),RC ts q->q.length<=ts.length+1
 |[],q,h=>by obtain⟨b,rfl⟩:=h;simp
 |t::ts,q,h=>by
  rcases h with⟨_,h⟩|⟨_,b,r,rfl,h⟩|⟨_,a,b,r,rfl,h⟩|⟨_,a,r,rfl,h⟩
  .have:=Nu ts _ h;simp at this ⊢;omega
  .have:=Nu ts _ h;simp at this ⊢;omega
  .have:=Nu ts _ h;simp at this ⊢;omega
  .have:=Nu ts _ h;simp at this ⊢;omega
theorem Wu:∀(q:List Bool)(vs:List YJ),fl q vs->vs.length=q.length
 |[],[],_=>rfl
 |_::q,_::vs,h=>by simp[Wu q vs h.2]
 |[],_::_,h=>by cases h
 |_::_,[],h=>by cases h
theorem B7:∀ts:List XB,ts.length<=(ts.map tw).sum
 |[]=>by simp
 |t::ts=>by
  have h1:1<=tw t:=by
   unfold tw;have:=t.x.nh;split
   .omega
   .split
    .omega
    .split<;>omega
  have a:=B7 ts;simp only[Zf,List.map_cons,List.sum_cons];omega
theorem Vt.small{s:St}(h:Vt s)(j:mu s<=200000):s.ts.length<=200000/\s.vs.length<=200001/\s.calls<=100:=by
 obtain⟨q,i,g⟩:=h.q;have a:=B7 s.ts;have b:=Nu _ _ i;have c:=Wu _ _ g;have d:(s.ts.map tw).sum<=mu s:=by unfold mu;omega
 have e:=h.le;have f:=h.max;omega
theorem MS.pop{G:Gh}{t:XB}{r:List XB}{vs:List YJ}(h:MS w0 w M G ⟨t::r,vs,ca,fu,en⟩):∃g cap d pt ps pc,w.cell? ⟨M,0,A⟩=I (P (I ⟨g,0,A⟩) (r.length+1) cap)/\r.length+1<=cap/\g<w.heap.size/\g≠M/\
  w.cell? ⟨g,r.length*4,A⟩=I (F E d)/\w.cell? ⟨g,r.length*4+1,A⟩=I (C pt)/\w.cell? ⟨g,r.length*4+2,A⟩=I (C ps)/\w.cell? ⟨g,r.length*4+3,A⟩=I (C pc)/\Ns w0 G t d pt ps pc/\
  MS w0 (w.setCell ⟨M,0,A⟩ (P (I ⟨g,0,A⟩) r.length cap)) M G ⟨r,vs,ca,fu,en⟩/\Fr M w (w.setCell ⟨M,0,A⟩ (P (I ⟨g,0,A⟩) r.length cap)):=by
 obtain⟨tv,mv,a9,a7,h0,l,q,o1,a0,ht,a4⟩:=h.ex;obtain⟨ys,d,pt,ps,pc,rfl,a6,a2⟩:=ht;obtain⟨g,cap,rfl,j,y⟩:=q.form (by simp);have a5:ys.length=r.length*4:=by have:=q.1;simp at this;omega
 have cell:∀i(v:Zn),i<4->[Value.int E d,C pt,C ps,C pc][i]?=I v->w.cell? ⟨g,r.length*4+i,A⟩=I v:=fun i v hi hv=>by have:=q.cellAt (r.length*4+i) (by simp;omega);rw[this,ZF (by omega)];rw[show r.length*4+i-ys.length=i by omega];exact hv
 have m:r.length+1<=cap:=by
  rcases q.2 with⟨h,_⟩|⟨g',a8,aa,h,_,_,l,_⟩
  .cases h
  .cases h;simpa using l
 have a3:g≠M:=by omega
 have c:∀i,i≠0->(w.setCell ⟨M,0,A⟩ (P (I ⟨g,0,A⟩) r.length cap)).cell? ⟨M,i,A⟩=w.cell? ⟨M,i,A⟩:=fun i hi=>Zh _ _ _ _ (by intro e;cases e;exact hi rfl);have p:cL (w.setCell ⟨M,0,A⟩ (P (I ⟨g,0,A⟩) r.length cap)) M 0 (P (I ⟨g,0,A⟩) r.length cap):=Zi _ _ _ h0;have a:∀k,MW (w.setCell ⟨M,0,A⟩ (P (I ⟨g,0,A⟩) r.length cap)) M k->MW w M k:=by
  rintro k ⟨u,hu,x|x⟩
  .rw[p] at x;cases x
   exact⟨_,(by simpa[Zq] using hu),.inl h0⟩
  .rw[c 1 (by omega)] at x;exact⟨u,hu,.inr x⟩
 have hf:Fr M w (w.setCell ⟨M,0,A⟩ (P (I ⟨g,0,A⟩) r.length cap)):=⟨rfl,rfl,rfl,by simp[Zs],fun k _ l h2=>⟨Zl _ _ _ _ l,fun hr=>h2 (a k hr)⟩⟩
 refine⟨g,cap,d,pt,ps,pc,by simpa using h0,m,y,a3,by simpa using cell 0 _ (by omega) rfl,cell 1 _ (by omega) rfl,cell 2 _ (by omega) rfl,cell 3 _ (by omega) rfl,a2,⟨⟨_,mv,ys,a7,p,(c 1 (by omega)).trans l,Zr (ownsRow_pop a5 (by simpa using q)) (by simp) _,Zr o1 (by simp) _,fun k a1 z=>a0 k (by simpa[Zq] using a1) z,a6,a4⟩,(c 2 (by omega)).trans h.c2,(c 3 (by omega)).trans h.c3,(c 4 (by omega)).trans h.c4,(c 5 (by omega)).trans h.c5,(c 6 (by omega)).trans h.c6,fun o=>by simpa using h.fz o,?_,fun b j=>⟨(h.far b j).1,fun hr=>(h.far b j).2 (a b hr)⟩,h.bel.trans ((S _ _).setCell h.lo _),h.lo⟩,hf⟩;exact h.hg.of fun b j i=>hf.cell (h.hg.lt j) (h.far b j).1 (h.far b j).2 i
theorem MS.tasks{G:Gh}{s:St}(h:MS w0 w M G s):∃a c,w.cell? ⟨M,0,A⟩=I (P a s.ts.length c):=by
 obtain⟨o,p,l,m,b,q,i,o1,j,r,k⟩:=h.ex;rcases i.2 with⟨rfl,e⟩|⟨g,cap,d,rfl,_⟩
 .exact⟨A,0,by rw[e];exact b⟩
 .exact⟨_,_,b⟩
theorem Y6{x0 x1 x2 u v z:Zn}(d:W.cell? ⟨b,0,A⟩=I x0)(a:W.cell? ⟨b,1,A⟩=I x1)(c:W.cell? ⟨b,2,A⟩=I x2):
  (((W.setCell ⟨b,0,A⟩ u).setCell ⟨b,1,A⟩ v).setCell ⟨b,2,A⟩ z).cell? ⟨b,0,A⟩=I u/\(((W.setCell ⟨b,0,A⟩ u).setCell ⟨b,1,A⟩ v).setCell ⟨b,2,A⟩ z).cell? ⟨b,1,A⟩=I v/\(((W.setCell ⟨b,0,A⟩ u).setCell ⟨b,1,A⟩ v).setCell ⟨b,2,A⟩ z).cell? ⟨b,2,A⟩=I z:=by
 refine⟨?_,?_,?_⟩
 .rw[Yo (by omega),Yo (by omega)];exact X8 d
 .rw[Yo (by omega)];exact X8 ((Yo (by omega)).trans a)
 .exact X8 ((Yo (by omega)).trans ((Yo (by omega)).trans c))
def mk(s:St):Nat:=if s.ended.k=0 then mu s else 0
def Fz(w0 W1:Za)(M:Nat)(x:Tm)(fuel:Nat)(k:Nat)(wr:Za):Prop:=∃n G s,s=XO n (N5 x fuel)/\(s.ended.k=0->Vt s/\mu s<=200000)/\MS w0 wr M G s/\Fr M W1 wr/\k=mk s
theorem Eo{G:Gh}{fuel:Nat}(h:MS w0 w M G ⟨[],[],0,fuel,Yn⟩)(hx:O2 w0 p x)(sx:L9 x)(hz:x.mj<=100)(hf:fuel<=100):
  T L 43 #[C (I ⟨M,0,A⟩),C p] w fun e w'=>e=J (Y #[F E (UY x fuel).k,F E (UY x fuel).n,.bool (UY x fuel).b])/\Zc w0.heap.size w0 w':=by
 obtain⟨a7,ar⟩:=VG sx hz hf;obtain⟨O,hO⟩:∃O,O=UY x fuel:=⟨_,rfl⟩
 rw[<-hO];have HO:Zb (∀n,(XO n (N5 x fuel)).done->O=TU (XO n (N5 x fuel))):=fun n hd=>by rw[hO];exact W8 sx hz hf hd
 have be:=h.lt;have HN:Zb (∀n,(XO n (N5 x fuel)).ended.k=0->Vt (XO n (N5 x fuel))/\mu (XO n (N5 x fuel))<=200000):=fun n hn=>by
  obtain⟨a,b⟩:=VI a7 n hn;refine⟨a,?_⟩;rcases b with b|b
  .omega
  .have:=a.max;simp only[mu,b,List.map_nil,List.sum_nil];omega
 obtain⟨W1,a0⟩:∃W,W=w.alloc (Zj #[F E 0,F E 0,.bool N] 29):=⟨_,rfl⟩
 have a6:bL w W1:=by rw[a0];exact(S _ _).alloc (U _) _
 have az:=h.below a6;have z0:W1.cell? ⟨w.heap.size,0,A⟩=I (F E 0):=by rw[a0];simp[go_sem]
 have z1:W1.cell? ⟨w.heap.size,1,A⟩=I (F E 0):=by rw[a0];simp[go_sem]
 have z2:W1.cell? ⟨w.heap.size,2,A⟩=I (.bool N):=by rw[a0];simp[go_sem]
 have zf:∀i,W1.frozen? ⟨w.heap.size,i,A⟩=N:=by intro i;rw[a0];simp[go_sem]
 have y:¬MW W1 M w.heap.size:=fun hr=>by
  obtain⟨u,hu,hc⟩:=hr;obtain⟨tv,mv,bc,bg,e0,e1,o0,o1,_⟩:=h.ex;have b3:=Q a6 e0;have ba:=Q a6 e1;rcases hc with hc|hc
  .rw[b3] at hc;cases hc;have:=(o0.lt _ hu).2;omega
  .rw[ba] at hc;cases hc;have:=(o1.lt _ hu).2;omega
 have m:w.heap.size<W1.heap.size:=D _ _ z0;have HR:Zb (∀wr,Fr M W1 wr->cL wr w.heap.size 0 (F E 0)/\cL wr w.heap.size 1 (F E 0)/\cL wr w.heap.size 2 (.bool N)/\(∀i,wr.frozen? ⟨w.heap.size,i,A⟩=N)/\w.heap.size<wr.heap.size):=fun wr l=>⟨(l.cell m (by omega) y 0).trans z0,(l.cell m (by omega) y 1).trans z1,(l.cell m (by omega) y 2).trans z2,fun i=>(l.frozen m (by omega) y i).trans (zf i),Zk m l.size⟩
 have HP:=Yy (XW az (Ns.look hx (Gh.qq G)) (by simp));have HM:Zb (w0.heap.size<=w.heap.size/\w.heap.size≠M):=⟨h.bel.size,by omega⟩
 clear h hx hz hf a7 ar hO a6 az z0 z1 z2 zf y m sx;go_enter func43,ntmps43;go_wp2_with fail;rw[<-a0];clear a0;refine HP.out.mono ?_;rintro e w2 ⟨rfl,am,ap⟩;have a5:Zb (Fz w0 W1 M x fuel (mk (N5 x fuel)) w2):=⟨0,G,N5 x fuel,rfl,HN.out 0,am,ap,rfl⟩
 clear am ap HP;go_wp2_with fail;go_loopg [] (mk (N5 x fuel)) (fun k wr=>Zb (Fz w0 W1 M x fuel k wr))
 case atStart=>exact a5
 case round=>
  obtain⟨n,G',s,hs,a3,hm,l,hk⟩:=hrel.out;have lM:=hm.lt;have m4:=hm.c4;obtain⟨r0,r1,r2,rf,rl⟩:=HR.out wr l;have aa:=rf 0;have a8:=rf 1;have a9:=rf 2;have HE:Zb (∀(o:XG)(W:Za),bL w0 W->bL w0 (((W.setCell ⟨w.heap.size,0,A⟩ (F E o.k)).setCell ⟨w.heap.size,1,A⟩ (F E o.n)).setCell ⟨w.heap.size,2,A⟩ (.bool o.b))):=fun o W hW=>((hW.setCell HM.out.1 _).setCell HM.out.1 _).setCell HM.out.1 _;by_cases h0:s.ended.k=0
  .obtain⟨okk,hmu⟩:=a3 h0;have e0:(s.ended.k==0)=Ze:=by simpa using h0
   obtain⟨ts,vs,ca,fu,en⟩:=s;simp only at h0 e0 m4;rw[h0] at m4;match ts,hs,okk,hmu,hm,hk with
   |[],hs,okk,hmu,hm,hk=>
    obtain⟨q,b6,aq⟩:=okk.q;obtain⟨b,rfl⟩:=b6;obtain⟨v,r,aj,_,hr⟩:=KC aq;simp only at aj;have b4:r=[]:=by have:=Wu _ _ hr;exact List.length_eq_zero_iff.1 (by simpa using this)
    subst b4;subst aj;obtain⟨a,c,m0⟩:=hm.tasks;simp only[List.length_nil] at m0;have a4:Zb (O=XU v):=by have:=HO.out n (by rw[<-hs];exact .inr rfl);rw[this,<-hs];unfold TU;rw[if_pos h0];rfl
    have HT:=Yy (JD hm rfl (by simp));have HF:=Yy l;clear hs a3 hm l hk h0 rf hrel HN HO a5 okk hmu aq hr e0;go_wp2_with fail;refine HT.out.mono ?_;rintro e w3 ⟨p3,rfl,av,ay,ak⟩;have H3:=LL ay (HF.out.trans ak) av;clear ay ak av r0 r1 r2 aa a8 a9 rl;go_wp2_with fail;refine(Cd H3.out.1.hg H3.out.2.2).mono ?_;rintro e w4 ⟨rfl,ai⟩;have j:=H3.out.1.below ai;have ao:=H3.out.2.1.trans (Fr.below ai H3.out.1.lt);obtain⟨r0,r1,r2,rf,rl⟩:=HR.out w4 ao;have y4:=j.c4;have y5:=j.c5;have y6:=j.c6;have g4:=j.fz 4;have g5:=j.fz 5;have g6:=j.fz 6;have bf:=j.lt;have aa:=rf 0;have a8:=rf 1;have a9:=rf 2;have a2:=HM.out.2;have b5:Zb (bL w0 (((w4.setCell ⟨M,4,A⟩ (F E (XU v).k)).setCell ⟨M,5,A⟩ (F E (XU v).n)).setCell ⟨M,6,A⟩ (.bool (XU v).b))):=((j.bel.setCell j.lo _).setCell j.lo _).setCell j.lo _;have a1:∀i,(((w4.setCell ⟨M,4,A⟩ (F E (XU v).k)).setCell ⟨M,5,A⟩ (F E (XU v).n)).setCell ⟨M,6,A⟩ (.bool (XU v).b)).cell? ⟨w.heap.size,i,A⟩=w4.cell? ⟨w.heap.size,i,A⟩:=fun i=>by rw[Zg _ _ _ _ (Ne.symm a2),Zg _ _ _ _ (Ne.symm a2),Zg _ _ _ _ (Ne.symm a2)]
    have x0:=(a1 0).trans r0;have x1:=(a1 1).trans r1;have x2:=(a1 2).trans r2;have HX:Zb _:=Y6 (u:=F E (XU v).k) (v:=F E (XU v).n) (z:=.bool (XU v).b) x0 x1 x2;clear j ao ai rf a1 HR;go_wp2_with fail;obtain⟨q0,q1,q2⟩:=HX.out;refine Zd (v:=Y #[F E O.k,F E O.n,.bool O.b]) ?_ rfl ⟨rfl,HE.out (XU v) _ b5.out⟩;rw[a4.out];simp[results,results43,go_sem,q0,q1,q2]
   |t::r,hs,okk,hmu,hm,hk=>
    obtain⟨g,cap,d,pt,ps,pc,m0,bb,lg,bd,c0,c1,c2,c3,ax,ab,an⟩:=hm.pop;have f0:=hm.fz 0;obtain⟨b7,b9,b2⟩:=okk.small hmu;simp only[Zf] at b7;simp only at b9 b2;obtain⟨X,hX⟩:∃X,X=Obj.cells #[F E d,C pt,C ps,C pc] 130:=⟨_,rfl⟩
    obtain⟨W5,ae⟩:∃W,W=(wr.setCell ⟨M,0,A⟩ (P (I ⟨g,0,A⟩) r.length cap)).alloc X:=⟨_,rfl⟩
    have ah:Zc (wr.setCell ⟨M,0,A⟩ (P (I ⟨g,0,A⟩) r.length cap)).heap.size (wr.setCell ⟨M,0,A⟩ (P (I ⟨g,0,A⟩) r.length cap)) W5:=by rw[ae];exact(S _ _).alloc (U _) _
    have au:=ab.below ah;have aw:=l.trans (an.trans (Fr.below ah ab.lt));have ac:U1 ⟨t::r,vs,ca,fu,en⟩=OK ⟨r,vs,ca,fu,en⟩ t:=by simp only[U1];rw[if_pos h0]
    have af:OK ⟨r,vs,ca,fu,en⟩ t=XO (n+1) (N5 x fuel):=by rw[Q0,<-hs,ac]
    have ad:=QY okk h0 (by simp);rw[ac] at ad;have HS:Zb (T L 73 #[C (I ⟨M,0,A⟩),Y #[F E d,C pt,C ps,C pc]] W5 fun e w'=>e=J (V #[])/\Zb (Fz w0 W1 M x fuel (mk (OK ⟨r,vs,ca,fu,en⟩ t)) w')):=by refine(Cn au (by simp only;omega) (by simp only;omega) (by simp only;omega) okk.vs (okk.ts t (by simp)) okk.q ax).mono ?_;rintro e w' ⟨rfl,H',_,b1,b0⟩;refine⟨rfl,n+1,H',_,af,fun h=>?_,b1,aw.trans b0,rfl⟩;have h':=h;rw[af] at h' ⊢;exact HN.out (n+1) h'
    have HK:Zb (mk (OK ⟨r,vs,ca,fu,en⟩ t)<gk):=by
     rw[hk];have al:=C3 okk (by simp);unfold mk;simp only[h0,if_true];split
     .rename_i h1;exact(ad h1).2
     .exact al
    clear hs a3 hm l hk h0 rf hrel HR HN HO a5 okk hmu ab an ah au aw ac af ad ax e0 r0 r1 r2 aa a8 a9 rl;subst hX;go_wp2_with fail;rw[<-ae];refine HS.out.mono ?_;rintro e w6 ⟨rfl,b8⟩;clear ae;go_wp2_with fail;go_roundg (mk (OK ⟨r,vs,ca,fu,en⟩ t))
    case measure=>exact HK.out
    case rel=>exact b8
  .have a4:Zb (O=s.ended/\bL w0 wr):=⟨by have:=HO.out n (by rw[<-hs];exact .inl h0);rw[this,<-hs];unfold TU;rw[if_neg h0],hm.bel⟩
   have e0:(s.ended.k==0)=N:=by simpa using h0
   have m5:=hm.c5;have m6:=hm.c6;clear hs a3 hm l hk h0 rf hrel HR HN HO a5;go_wp2_with fail;obtain⟨q0,q1,q2⟩:=Y6 (u:=F E s.ended.k) (v:=F E s.ended.n) (z:=.bool s.ended.b) r0 r1 r2;refine Zd (v:=Y #[F E O.k,F E O.n,.bool O.b]) ?_ rfl ⟨rfl,HE.out s.ended _ a4.out.2⟩;rw[a4.out.1];simp[results,results43,go_sem,q0,q1,q2]
theorem QF(x:TT)(f:Int)(a:f<0\/100<f)(w:Za):
  T L 26 #[Y #[F E x.k,F E x.n,F E x.t.k,P x.t.a x.t.l.length x.t.c,F E x.f.k,P x.f.a x.f.l.length x.f.c,P x.a x.l.length x.c],F E f] w fun e w'=>e=J (V #[Y #[F E 0,F E 0,.bool N],F E 3])/\Zc w.heap.size w w':=by
 by_cases h0:f<0
 .have e0:decide (f<0)=Ze:=by simpa using h0
  clear a h0;go_enter ZU,ZS;go_wp2_with fail;refine Zd (v:=V #[Y #[F E 0,F E 0,.bool N],F E 3]) (by simp[results,ZN,go_sem]) rfl ⟨rfl,?_⟩;exact((S _ _).alloc (U _) _).alloc (by simp) _
 .have e0:decide (f<0)=N:=by simpa using h0
  have b:decide ((100:Int)<f)=Ze:=by simp;omega
  clear a h0;go_enter ZU,ZS;go_wp2_with fail;refine Zd (v:=V #[Y #[F E 0,F E 0,.bool N],F E 3]) (by simp[results,ZN,go_sem]) rfl ⟨rfl,?_⟩;exact((S _ _).alloc (U _) _).alloc (by simp) _
theorem HG.none(w0 w:Za):HG w0 w ⟨fun _=>A,fun _=>A,fun _=>A⟩:=⟨fun b x h=>(by cases h),fun b x h=>(by cases h),fun b x h=>(by cases h)⟩
theorem Td(x:TT)(a:Nat)(hf:a<=100)(w:Za)(hx:x.In w)(sx:L9 x.tm)(hz:x.tm.mj<=100):
  T L 26 #[Y #[F E x.k,F E x.n,F E x.t.k,P x.t.a x.t.l.length x.t.c,F E x.f.k,P x.f.a x.f.l.length x.f.c,P x.a x.l.length x.c],F E a] w fun e w'=>e=J (V #[Y #[F E (UY x.tm a).k,F E (UY x.tm a).n,.bool (UY x.tm a).b],F E 0])/\Zc w.heap.size w w':=by
 have e0:decide ((a:Int)<0)=N:=by simp
 have e1:decide ((100:Int)<(a:Int))=N:=by simp;omega
 obtain⟨W1,d⟩:∃W,W=(w.alloc (Zj #[F E x.k,F E x.n,F E x.t.k,P x.t.a x.t.l.length x.t.c,F E x.f.k,P x.f.a x.f.l.length x.f.c,P x.a x.l.length x.c] 27)).alloc (Zj #[F E 0,F E 0,.bool N] 29):=⟨_,rfl⟩
 have l:Zc w.heap.size w W1:=by rw[d];exact((S _ _).alloc (U _) _).alloc (by simp) _
 have k:W1.heap.size=w.heap.size+1+1:=by rw[d];simp
 have q:Uz W1 w.heap.size 0 x:=by constructor<;>(rw[d];simp[go_sem])
 have z0:W1.cell? ⟨w.heap.size+1,0,A⟩=I (F E 0):=by rw[d];simp[go_sem]
 have z1:W1.cell? ⟨w.heap.size+1,1,A⟩=I (F E 0):=by rw[d];simp[go_sem]
 have z2:W1.cell? ⟨w.heap.size+1,2,A⟩=I (.bool N):=by rw[d];simp[go_sem]
 have zf:∀i,W1.frozen? ⟨w.heap.size+1,i,A⟩=N:=by intro i;rw[d];simp[go_sem]
 obtain⟨W2,c⟩:∃W,W=W1.alloc (Zj #[P A 0 0,P A 0 0,F E 0,F E (a:Int),F E 0,F E 0,.bool N] 74):=⟨_,rfl⟩
 have r:Zc W1.heap.size W1 W2:=by rw[c];exact(S _ _).alloc (U _) _
 have m:MS W1 W2 W1.heap.size ⟨fun _=>A,fun _=>A,fun _=>A⟩ ⟨[],[],0,a,Yn⟩:=by refine⟨⟨P A 0 0,P A 0 0,[],[],by rw[c];simp[go_sem],by rw[c];simp[go_sem],ZT _ _ _ _,ZT _ _ _ _,fun g h=>by simp[Zq] at h,rfl,rfl⟩,by rw[c];simp[go_sem],by rw[c];simp[go_sem],by rw[c];simp[go_sem,Yn],by rw[c];simp[go_sem,Yn],by rw[c];simp[go_sem,Yn],fun o=>by rw[c];simp[go_sem],HG.none _ _,fun b h=>?_,r,U _⟩;rcases h with h|h|h<;>exact absurd rfl h
 have HC:Zb (T L 43 #[C (I ⟨W1.heap.size,0,A⟩),C (I ⟨w.heap.size,0,A⟩)] W2 fun e w'=>e=J (Y #[F E (UY x.tm a).k,F E (UY x.tm a).n,.bool (UY x.tm a).b])/\Zc W1.heap.size W1 w'):=Eo m ⟨w.heap.size,0,x,rfl,q,hx.below l,rfl⟩ sx hz hf;rw[k] at HC;have HZ:Zb (Zc w.heap.size w W1/\W1.heap.size=w.heap.size+1+1/\W1.cell? ⟨w.heap.size+1,0,A⟩=I (F E 0)/\W1.cell? ⟨w.heap.size+1,1,A⟩=I (F E 0)/\W1.cell? ⟨w.heap.size+1,2,A⟩=I (.bool N)/\∀i,W1.frozen? ⟨w.heap.size+1,i,A⟩=N):=⟨l,k,z0,z1,z2,zf⟩
 obtain⟨O,hO⟩:∃O,O=UY x.tm a:=⟨_,rfl⟩
 rw[<-hO] at HC ⊢;rw[d] at c;clear hO m q l k z0 z1 z2 zf r hx sx hz hf;go_enter ZU,ZS;go_wp2_with fail;rw[<-c];refine HC.out.mono ?_;rintro e w3 ⟨rfl,j⟩;obtain⟨y1,y2,y3,y4,y5,y⟩:=HZ.out;have r0:=(j.cell (p:=⟨w.heap.size+1,0,A⟩) (by simp)).trans y3;have r1:=(j.cell (p:=⟨w.heap.size+1,1,A⟩) (by simp)).trans y4;have r2:=(j.cell (p:=⟨w.heap.size+1,2,A⟩) (by simp)).trans y5;have f0:=(j.frozen (p:=⟨w.heap.size+1,0,A⟩) (by simp)).trans (y 0);have f1:=(j.frozen (p:=⟨w.heap.size+1,1,A⟩) (by simp)).trans (y 1);have f2:=(j.frozen (p:=⟨w.heap.size+1,2,A⟩) (by simp)).trans (y 2);have HB:=Yy (y1.trans (j.mono (by omega)));clear y1 y2 y3 y4 y5 y j d c;go_wp2_with fail;obtain⟨q0,q1,q2⟩:=Y6 (u:=F E O.k) (v:=F E O.n) (z:=.bool O.b) r0 r1 r2;refine Zd (v:=V #[Y #[F E O.k,F E O.n,.bool O.b],F E 0]) (by simp[results,ZN,go_sem,q0,q1,q2]) rfl ⟨rfl,?_⟩;exact((HB.out.setCell (by simp) _).setCell (by simp) _).setCell (by simp) _
def Kc(x:Tm)(f:Int):XG×Int:=if UC 0 x=Ze then (match Xt x [] 0 with
 |none=>(Yn,2)
 |some p=>if f<0\/100<f then (Yn,3) else (UY p.1 f.toNat,0)) else (Yn,1)
def Js(r:XG×Int)(w:Za)(e:ZR)(w':Za):Prop:=e=J (V #[Y #[F E r.1.k,F E r.1.n,.bool r.1.b],F E r.2])/\Zc w.heap.size w w'
theorem Te(y:TT)(f:Int)(w:Za)(b:y.In w)(a:L9 y.tm)(hz:y.tm.mj<=100):
  T L 26 #[Y #[F E y.k,F E y.n,F E y.t.k,P y.t.a y.t.l.length y.t.c,F E y.f.k,P y.f.a y.f.l.length y.f.c,P y.a y.l.length y.c],F E f] w (Js (if f<0\/100<f then (Yn,3) else (UY y.tm f.toNat,0)) w):=by
 by_cases hf:f<0\/100<f
 .rw[if_pos hf];exact QF y f hf w
 .rw[if_neg hf];have e:f=((f.toNat:Nat):Int):=by omega
  have:=Td y f.toNat (by omega) w b a hz;rw[<-e] at this;exact this
theorem AV(x:TT)(f:Int)(w:Za)(hg:Gp w)(hx:x.In w)(a4:x.nb):
  T L 11 #[Y #[F E x.k,F E x.n,F E x.t.k,P x.t.a x.t.l.length x.t.c,F E x.f.k,P x.f.a x.f.l.length x.f.c,P x.a x.l.length x.c],F E f] w (Js (Kc x.tm f) w):=by
 obtain⟨W1,g⟩:∃W,W=(w.alloc (Zj x.v 27)).alloc (Zj #[F E 0,F E 0,.bool N] 29):=⟨_,rfl⟩
 have l:bL w W1:=by rw[g];exact((S _ _).alloc (U _) _).alloc (by simp) _
 have q:W1.heap.size=w.heap.size+1+1:=by rw[g];simp
 have z0:W1.cell? ⟨w.heap.size+1,0,A⟩=I (F E 0):=by rw[g];simp[go_sem]
 have z1:W1.cell? ⟨w.heap.size+1,1,A⟩=I (F E 0):=by rw[g];simp[go_sem]
 have z2:W1.cell? ⟨w.heap.size+1,2,A⟩=I (.bool N):=by rw[g];simp[go_sem]
 have zf:∀i,W1.frozen? ⟨w.heap.size+1,i,A⟩=N:=by intro i;rw[g];simp[go_sem]
 have HC:=Yy (BO x W1 (hg.below l) (hx.below l) a4);have HZ:Zb (∀W,bL W1 W->cL W (w.heap.size+1) 0 (F E 0)/\cL W (w.heap.size+1) 1 (F E 0)/\cL W (w.heap.size+1) 2 (.bool N)/\W.frozen? ⟨w.heap.size+1,0,A⟩=N/\W.frozen? ⟨w.heap.size+1,1,A⟩=N/\W.frozen? ⟨w.heap.size+1,2,A⟩=N/\w.heap.size+1<W.heap.size/\bL w W):=fun W hW=>⟨Q hW z0,Q hW z1,Q hW z2,(hW.frozen (p:=⟨w.heap.size+1,0,A⟩) (by rw[q];show w.heap.size+1<_;omega)).trans (zf 0),(hW.frozen (p:=⟨w.heap.size+1,1,A⟩) (by rw[q];show w.heap.size+1<_;omega)).trans (zf 1),(hW.frozen (p:=⟨w.heap.size+1,2,A⟩) (by rw[q];show w.heap.size+1<_;omega)).trans (zf 2),by have:=hW.size;omega,l.trans (hW.mono l.size)⟩
 obtain⟨R,hR⟩:∃R,R=Kc x.tm f:=⟨_,rfl⟩
 rw[<-hR];have HR:=Yy hR;have HE:Zb (∀(o:XG)(er:Int)(W:Za),R=(o,er)->bL w W->Js R w (J (V #[Y #[F E o.k,F E o.n,.bool o.b],F E er])) (((W.setCell ⟨w.heap.size+1,0,A⟩ (F E o.k)).setCell ⟨w.heap.size+1,1,A⟩ (F E o.n)).setCell ⟨w.heap.size+1,2,A⟩ (.bool o.b))):=fun o er W h1 h2=>by rw[h1];exact⟨rfl,((h2.setCell (by simp) _).setCell (by simp) _).setCell (by simp) _⟩
 clear hR l q z0 z1 z2 zf hg hx a4;go_enter func11,ntmps11;go_wp2_with fail;rw[<-g];clear g;refine HC.out.mono ?_;rintro e h ⟨d,⟨c,rfl⟩|⟨c,j,rfl⟩|⟨c,y,i,j,rfl,a2,a5,a1⟩⟩
 .have k:Zb (R=(Yn,1)):=by rw[HR.out];unfold Kc;rw[if_neg (by rw[c];simp)];rfl
  obtain⟨b,a⟩:∃b,b=(h.alloc (Zj #[F E 0,F E 0,F E 0,P A 0 0,F E 0,P A 0 0,P A 0 0] 27)).alloc (Zj #[F E 0,P A 0 0] 24):=⟨_,rfl⟩
  have m:bL W1 b:=d.trans ((show bL h b by rw[a];exact((S _ _).alloc (U _) _).alloc (by simp) _).mono d.size);obtain⟨r0,r1,r2,f0,f1,f2,rl,hB⟩:=HZ.out b m;have HB:=Yy hB;clear m hB c d HC HZ;go_upto_region 2 with fail;rw[<-a];clear a;go_wp2_with fail;obtain⟨q0,q1,q2⟩:=Y6 (u:=F E 0) (v:=F E 0) (z:=.bool N) r0 r1 r2;exact Zd (v:=V #[Y #[F E 0,F E 0,.bool N],F E 1]) (by simp[results,ZO,go_sem,q0,q1,q2]) rfl (HE.out Yn 1 b k.out HB.out)
 .have k:Zb (R=(Yn,2)):=by rw[HR.out];unfold Kc;rw[if_pos c,j];rfl
  obtain⟨b,a⟩:∃b,b=(h.alloc (Zj #[F E 0,F E 0,F E 0,P A 0 0,F E 0,P A 0 0,P A 0 0] 27)).alloc (Zj #[F E 0,P A 0 0] 24):=⟨_,rfl⟩
  have m:bL W1 b:=d.trans ((show bL h b by rw[a];exact((S _ _).alloc (U _) _).alloc (by simp) _).mono d.size);obtain⟨r0,r1,r2,f0,f1,f2,rl,hB⟩:=HZ.out b m;have HB:=Yy hB;clear m hB c j d HC HZ;go_upto_region 2 with fail;rw[<-a];clear a;go_wp2_with fail;obtain⟨q0,q1,q2⟩:=Y6 (u:=F E 0) (v:=F E 0) (z:=.bool N) r0 r1 r2;exact Zd (v:=V #[Y #[F E 0,F E 0,.bool N],F E 2]) (by simp[results,ZO,go_sem,q0,q1,q2]) rfl (HE.out Yn 2 b k.out HB.out)
 .obtain⟨sy,zy,_⟩:=On c j;obtain⟨r,hr⟩:∃r:XG×Int,r=(if f<0\/100<f then (Yn,3) else (UY y.tm f.toNat,0)):=⟨_,rfl⟩
  have k:Zb (R=r):=by rw[HR.out,hr];unfold Kc;rw[if_pos c,j];exact rfl
  obtain⟨b,a⟩:∃b,b=(h.alloc (Zj y.v 27)).alloc (Zj i.v 24):=⟨_,rfl⟩
  have a0:bL h b:=by rw[a];exact((S _ _).alloc (U _) _).alloc (by simp) _
  have m:=d.trans (a0.mono d.size);have p0:b.cell? ⟨h.heap.size,0,A⟩=I (F E y.k):=by rw[a];simp[go_sem]
  have p1:b.cell? ⟨h.heap.size,1,A⟩=I (F E y.n):=by rw[a];simp[go_sem]
  have p2:b.cell? ⟨h.heap.size,2,A⟩=I (F E y.t.k):=by rw[a];simp[go_sem]
  have p3:b.cell? ⟨h.heap.size,3,A⟩=I (P y.t.a y.t.l.length y.t.c):=by rw[a];simp[go_sem]
  have p4:b.cell? ⟨h.heap.size,4,A⟩=I (F E y.f.k):=by rw[a];simp[go_sem]
  have p5:b.cell? ⟨h.heap.size,5,A⟩=I (P y.f.a y.f.l.length y.f.c):=by rw[a];simp[go_sem]
  have p6:b.cell? ⟨h.heap.size,6,A⟩=I (P y.a y.l.length y.c):=by rw[a];simp[go_sem]
  have HO:Zb (T L 26 #[Y y.v,F E f] b fun e w'=>e=J (V #[Y #[F E r.1.k,F E r.1.n,.bool r.1.b],F E r.2])/\bL W1 w'):=by refine(Te y f b (a2.below a0) sy zy).mono ?_;rintro e w' ⟨he,hb⟩;rw[hr];exact⟨he,m.trans (hb.mono m.size)⟩
  have a6:h.heap.size<b.heap.size:=D _ _ p0;clear m a0 c j d HC a2 a5 a1 sy zy hr;go_upto_region 2 with fail;rw[<-a];clear a;go_wp2_with fail;refine HO.out.mono ?_;rintro e w4 ⟨rfl,a3⟩;obtain⟨r0,r1,r2,f0,f1,f2,rl,hB⟩:=HZ.out w4 a3;have HB:=Yy hB;clear a3 hB HZ p0 p1 p2 p3 p4 p5 p6;go_wp2_with fail;obtain⟨q0,q1,q2⟩:=Y6 (u:=F E r.1.k) (v:=F E r.1.n) (z:=.bool r.1.b) r0 r1 r2;exact Zd (v:=V #[Y #[F E r.1.k,F E r.1.n,.bool r.1.b],F E r.2]) (by simp[results,ZO,go_sem,q0,q1,q2]) rfl (HE.out r.1 r.2 w4 k.out HB.out)
def Lf(s:ByteArray)(f:Int):XG×Int:=if 1000<s.size then (Yn,4) else (match XE s.data.toList with
 |none=>(Yn,1)
 |some x=>Kc x f)
theorem Pp(s:ByteArray)(hm:s.size<=9223372036854775807)(f:Int)(w:Za)(hg:Gl w):T L 17 #[.string s,F E f] w (Js (Lf s f) w):=by
 obtain⟨W1,b⟩:∃W,W=w.alloc (Zj #[F E 0,F E 0,.bool N] 29):=⟨_,rfl⟩
 have d:bL w W1:=by rw[b];exact(S _ _).alloc (U _) _
 have m:W1.heap.size=w.heap.size+1:=by rw[b];simp
 have z0:W1.cell? ⟨w.heap.size,0,A⟩=I (F E 0):=by rw[b];simp[go_sem]
 have z1:W1.cell? ⟨w.heap.size,1,A⟩=I (F E 0):=by rw[b];simp[go_sem]
 have z2:W1.cell? ⟨w.heap.size,2,A⟩=I (.bool N):=by rw[b];simp[go_sem]
 have zf:∀i,W1.frozen? ⟨w.heap.size,i,A⟩=N:=by intro i;rw[b];simp[go_sem]
 have HC:=Yy (Bi s hm W1 (hg.below d));have HZ:Zb (∀W,bL W1 W->cL W w.heap.size 0 (F E 0)/\cL W w.heap.size 1 (F E 0)/\cL W w.heap.size 2 (.bool N)/\W.frozen? ⟨w.heap.size,0,A⟩=N/\W.frozen? ⟨w.heap.size,1,A⟩=N/\W.frozen? ⟨w.heap.size,2,A⟩=N/\w.heap.size<W.heap.size/\bL w W/\Gl W):=fun W k=>⟨Q k z0,Q k z1,Q k z2,(k.frozen (p:=⟨w.heap.size,0,A⟩) (by rw[m];show w.heap.size<_;omega)).trans (zf 0),(k.frozen (p:=⟨w.heap.size,1,A⟩) (by rw[m];show w.heap.size<_;omega)).trans (zf 1),(k.frozen (p:=⟨w.heap.size,2,A⟩) (by rw[m];show w.heap.size<_;omega)).trans (zf 2),by have:=k.size;omega,d.trans (k.mono d.size),hg.below (d.trans (k.mono d.size))⟩
 obtain⟨R,hR⟩:∃R,R=Lf s f:=⟨_,rfl⟩
 rw[<-hR];have HR:=Yy hR;have HE:Zb (∀(o:XG)(j:Int)(W:Za),R=(o,j)->bL w W->Js R w (J (V #[Y #[F E o.k,F E o.n,.bool o.b],F E j])) (((W.setCell ⟨w.heap.size,0,A⟩ (F E o.k)).setCell ⟨w.heap.size,1,A⟩ (F E o.n)).setCell ⟨w.heap.size,2,A⟩ (.bool o.b))):=fun o j W h1 h2=>by rw[h1];exact⟨rfl,((h2.setCell (by simp) _).setCell (by simp) _).setCell (by simp) _⟩
 clear hR d m z0 z1 z2 zf hg hm;go_enter func17,ntmps17;go_wp2_with fail;rw[<-b];clear b;refine HC.out.mono ?_;rintro e h ⟨x,j,rfl,a1,a3,y,g⟩;have a4:(j=0/\Zb (R=Kc x.tm f))\/((j != 0)=Ze/\Zb (R=(Yn,j))):=by
  rcases g with⟨h1,rfl,_⟩|⟨h1,h2,rfl,_⟩|⟨h1,h2,rfl⟩
  .refine .inr ⟨rfl,?_⟩;rw[HR.out];unfold Lf;rw[if_pos h1];exact rfl
  .refine .inr ⟨rfl,?_⟩;rw[HR.out];unfold Lf;rw[if_neg (by omega),h2];exact rfl
  .refine .inl ⟨rfl,?_⟩;rw[HR.out];unfold Lf;rw[if_neg (by omega),h2];exact rfl
 obtain⟨c,a⟩:∃c,c=h.alloc (Zj x.v 27):=⟨_,rfl⟩
 have q:bL h c:=by rw[a];exact(S _ _).alloc (U _) _
 have hA:=y.trans (q.mono y.size);have p0:c.cell? ⟨h.heap.size,0,A⟩=I (F E x.k):=by rw[a];simp[go_sem]
 have p1:c.cell? ⟨h.heap.size,1,A⟩=I (F E x.n):=by rw[a];simp[go_sem]
 have p2:c.cell? ⟨h.heap.size,2,A⟩=I (F E x.t.k):=by rw[a];simp[go_sem]
 have p3:c.cell? ⟨h.heap.size,3,A⟩=I (P x.t.a x.t.l.length x.t.c):=by rw[a];simp[go_sem]
 have p4:c.cell? ⟨h.heap.size,4,A⟩=I (F E x.f.k):=by rw[a];simp[go_sem]
 have p5:c.cell? ⟨h.heap.size,5,A⟩=I (P x.f.a x.f.l.length x.f.c):=by rw[a];simp[go_sem]
 have p6:c.cell? ⟨h.heap.size,6,A⟩=I (P x.a x.l.length x.c):=by rw[a];simp[go_sem]
 have a6:h.heap.size<c.heap.size:=D _ _ p0;obtain⟨r0,r1,r2,f0,f1,f2,rl,hB,a0⟩:=HZ.out c hA;have HO:Zb (T L 11 #[Y x.v,F E f] c fun e w'=>e=J (V #[Y #[F E (Kc x.tm f).1.k,F E (Kc x.tm f).1.n,.bool (Kc x.tm f).1.b],F E (Kc x.tm f).2])/\bL W1 w'):=by refine(AV x f c a0.gp (a1.below q) a3).mono ?_;rintro e w' ⟨he,hb⟩;exact⟨he,hA.trans (hb.mono hA.size)⟩
 have HB:=Yy hB;clear hA q y HC a1 a3 hB a0 g HR;rcases a4 with⟨rfl,l⟩|⟨he,l⟩
 .obtain⟨r,hr⟩:∃r,r=Kc x.tm f:=⟨_,rfl⟩
  rw[<-hr] at HO l;clear hr r0 r1 r2 f0 f1 f2 rl;go_upto_region 2 with fail;rw[<-a];clear a;go_wp2_with fail;refine HO.out.mono ?_;rintro e w4 ⟨rfl,a2⟩;obtain⟨r0,r1,r2,f0,f1,f2,rl,hB,_⟩:=HZ.out w4 a2;have a5:=Yy hB;clear a2 hB HZ p0 p1 p2 p3 p4 p5 p6;go_wp2_with fail;obtain⟨q0,q1,q2⟩:=Y6 (u:=F E r.1.k) (v:=F E r.1.n) (z:=.bool r.1.b) r0 r1 r2;exact Zd (v:=V #[Y #[F E r.1.k,F E r.1.n,.bool r.1.b],F E r.2]) (by simp[results,results17,go_sem,q0,q1,q2]) rfl (HE.out r.1 r.2 w4 l.out a5.out)
 .clear HO HZ p0 p1 p2 p3 p4 p5 p6;go_upto_region 2 with fail;rw[<-a];clear a;go_wp2_with fail;obtain⟨q0,q1,q2⟩:=Y6 (u:=F E 0) (v:=F E 0) (z:=.bool N) r0 r1 r2;exact Zd (v:=V #[Y #[F E 0,F E 0,.bool N],F E j]) (by simp[results,results17,go_sem,q0,q1,q2]) rfl (HE.out Yn j c l.out HB.out)
def aX:Tm:=⟨8,0,Yk,Yk,[⟨7,0,Yk,Yk,[⟨4,0,Yk,Yk,[⟨1,0,Yk,Yk,[]⟩,⟨2,1,Yk,Yk,[]⟩]⟩]⟩,⟨9,0,Yk,Yk,[⟨2,6,Yk,Yk,[]⟩]⟩]⟩
def aY:Tm:=⟨8,0,Yk,Yk,[⟨7,0,Yk,Yk,[⟨4,0,Yk,Yk,[⟨10,3,⟨1,[]⟩,Yk,[⟨1,0,Yk,Yk,[]⟩]⟩,⟨2,1,Yk,Yk,[]⟩]⟩]⟩,⟨9,0,Yk,Yk,[⟨10,6,Yk,⟨1,[]⟩,[⟨2,6,Yk,Yk,[]⟩]⟩]⟩]⟩
def aS:ByteArray:=⟨#[40,99,97,108,108,32,40,102,117,110,32,97,110,121,32,40,97,100,100,32,35,48,32,49,41,41,32,40,97,115,32,97,110,121,32,54,41,41]⟩
theorem SZ:XQ Yk=Ze:=by simp[XQ,Yk,Y0,Uu]
theorem ER:Ym 4 Yk=Ze:=by simp[Ym,Yk]
theorem Sf:UC 0 aX=Ze:=by
 have:XM 0 40 0 aX 40=I 33:=by simp[aX,XM,U3,UL,Xx,XV,Yu,Ul,SZ,ER,Xu]
 exact congrArg Option.isSome this
theorem Ar:Xt aX [] 0=I (aY,⟨1,[]⟩):=by simp[aX,aY,Kv,Xc,Yv,YK,U6,XZ,Jw,Y0,Uu,Yl,YA,Yk,Uk,Tm.lm]
set_option maxRecDepth 100000 in
theorem D8:YO ((Y8 aS.data.toList).length+1) (Y8 aS.data.toList)=I (aX,[]):=by kernel_rfl
theorem D9:XE aS.data.toList=I aX:=by unfold XE;rw[D8];simp only;rw[if_pos Sf]
theorem Fw(o:XG):Y7 100 ⟨1,[]⟩ Yk o=I ⟨N,Yn,1,Yn,A,A,Ze⟩:=by
 have e:Y7 99 ⟨1,[]⟩ ⟨1,[]⟩ o=A:=by rw[Y7,if_pos (by simp[Y0,Uu])]
 rw[Y7,if_neg (by simp[Yk,Y0,Uu,YA]),if_neg (by simp),if_pos (by rfl)];have g:Yt ⟨1,[]⟩=⟨1,[]⟩:=rfl;simp only[g,e,YZ]
theorem Fv(o:XG):Y7 100 Yk ⟨1,[]⟩ o=I ⟨Ze,o,1,Yn,A,A,N⟩:=by
 have e:Y7 99 ⟨1,[]⟩ ⟨1,[]⟩ o=A:=by rw[Y7,if_pos (by simp[Y0,Uu])]
 rw[Y7,if_neg (by simp[Yk,Y0,Uu,YA]),if_neg (by simp),if_neg (by simp),if_pos (by rfl)];have g:Yt ⟨1,[]⟩=⟨1,[]⟩:=rfl;simp only[g,e,YZ]
theorem Fx:UY aY 5=⟨1,7,N⟩:=by
 obtain⟨a,b,_⟩:=On Sf Ar;have e:XO 13 (N5 aY 5)=⟨[],[XP 7],1,5,Yn⟩:=by simp[XO,N5,U1,OK,Y2,Jx,St.ll,St.push,Y3,QJ,Xj,aY,Tm.at,Xz,US,KD,NM,XP,Fw,Fv,OE,XX,Jn,YJ.core,Yn,E0];omega
 rw[W8 a b (by omega) (n:=13) (by rw[e];exact .inr rfl),e];rfl
theorem ES:Lf aS 5=(⟨1,7,N⟩,0):=by
 unfold Lf;rw[if_neg (by show ¬(1000<38);omega),D9];simp only;unfold Kc;rw[if_pos Sf,Ar];simp only;rw[if_neg (by omega)];show (UY aY 5,(0:Int))=_
 rw[Fx]
end Go.Proofs.YtnddkmccagiclabGreatDoor
