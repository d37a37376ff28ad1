import Derived.Test.YtnddkmccagiclabGreatDoorZtz
import Derived.Test.YtnddkmccagiclabGreatDoorZtA
import Derived.Test.YtnddkmccagiclabGreatDoorZtB
set_option maxRecDepth 20000
set_option maxHeartbeats 16000000
open Go.RowKit Go.Proofs.Tryz
open Go.Value renaming int→A,agg→O,slice→T
open Go.IntKind renaming i64→B
open Nat renaming le_refl→C
open Bool renaming false→D,true→Y
open Go.World renaming block_lt_of_cell?→G
open Go renaming cell_later→H,bodyPost_ret→J
open Go.RowKit.Below renaming refl→I
open Option renaming none→K
open Go.Proofs.Tryz renaming prog→L,results21→N,results36→U
open List renaming length_eq_one_iff→S
open Go.Ending renaming returned→X
open Go.RowKit renaming Hid→Z
namespace Go.Proofs.YtnddkmccagiclabGreatDoor
theorem Dq.part{m:Bool}{M:Nat}{x:Tm}{E:List Th}{i p:Ty}(h:Dq m M x E i){j:Nat}(hj:j<x.l.length)(hp:m=Y->L6 (x.at j) (E.map Th.tyo) p):Dq m M (x.at j) E p:=⟨⟨h.sh.1.part hj,fun hm=>(h.sh.2 hm).part hj⟩,by have:=h.sz;have:=Uu hj;omega,fun hm=>⟨hp hm,(h.ty hm).2⟩⟩
theorem Va{m:Bool}{M R F c:Nat}(hF:F<=1000)(hM:M<=10000)(hc:c<=F)(up:∀c',c<c'->c'<=F->Ct m M R F c'):Ct m M R F c:=by
 have a5:∀c2,c<=c2->c2<=F->C8 m M R F c2:=fun c2 h1 o=>Dk hF hM o fun h3=>up (c2+1) (by omega) (by omega);suffices hs:∀(s:Nat)(x:TT),x.tm.tsz<=s->∀(E:List Th)(i:Ty)(z:Option Addr)(w:Nat),Dq m M x.tm E i->Cs m M R F c x E i z w from fun x=>hs _ x (C _)
 intro s;induction s with
 |zero=>intro x hx;have:=x.tm.tsz_pos;omega
 |succ s ih=>
  intro x hx E i z w q;obtain⟨k1,a7,hl,n1,n2,hn,hg⟩:=q.sh.1.top;rw[TT.tm_k] at k1 a7 hl hn hg;rw[TT.tm_n] at n1 n2 hn;have a3:x.tm.l.length=x.l.length:=by rw[TT.tm_l,List.length_map]
  have k:∀(j:Nat)(y:TT)(p:Ty),x.l[j]?=some y->(m=Y->L6 (x.tm.at j) (E.map Th.tyo) p)->∀c',c<=c'->c'<=F->Cs m M R F c' y E p z w:=by
   intro j y p r hp c' h1 o;have hj:j<x.tm.l.length:=by
    rw[a3];by_cases h:j<x.l.length
    .exact h
    .rw[List.getElem?_eq_none (by omega)] at r;cases r
   have e:x.tm.at j=y.tm:=by rw[Tm.at,TT.tm_l,List.getD_eq_getElem?_getD,List.getElem?_map,r];rfl
   have hf:=q.part hj hp;rw[e] at hf;by_cases hcc:c'=c
   .subst hcc;refine ih y ?_ E p z w hf;have:=Uu hj;rw[e] at this;omega
   .exact up c' (by omega) o y E p z w hf
  have a2:m=Y->∃ps:List Ty,x.tm.l.length=ps.length/\(∀j(g:j<ps.length),L6 (x.tm.at j) (if x.k=7 then x.t.ty::E.map Th.tyo else E.map Th.tyo) ps[j])/\Q0 x.k x.n x.t.ty x.f.ty ps (E.map Th.tyo) i:=fun u=>by have:=Jf (q.ty u).1;rwa [TT.tm_k,TT.tm_n,TT.tm_t,TT.tm_f] at this
  intro Q W a1 a0 hE hw hQ nw;have hk:x.k=1\/x.k=2\/x.k=3\/x.k=4\/x.k=5\/x.k=6\/x.k=7\/x.k=8\/x.k=9\/x.k=10:=by omega
  rw[a3] at hl;have l:(x.k=4\/x.k=5\/x.k=8)->Calls L 59 #[.pointer (some ⟨R,0,K⟩),O x.v,T z E.length w] W (Xi m M R F c Q W i (XU m F x.tm (E.map Th.val) i c)):=fun hk=>by
   have a6:x.l.length=2:=by rcases hk with h|h|h<;>(rw[h] at hl;exact hl)
   obtain⟨y0,y1,r⟩:∃y0 y1,x.l=[y0,y1]:=by
    match hx:x.l,a6 with
    |[a,b],_=>exact⟨a,b,rfl⟩
   obtain⟨p0,p1,a8,a4,hr⟩:∃p0 p1,(m=Y->L6 (x.tm.at 0) (E.map Th.tyo) p0)/\(m=Y->L6 (x.tm.at 1) (E.map Th.tyo) p1)/\(m=Y->(x.k=8/\p0=YN p1 i)\/(x.k=4/\p0=UY/\p1=UY/\i=UY)\/(x.k=5/\p0=UY/\p1=UY/\i=Xp)):=by
    cases m with
    |false=>exact⟨Yn,Yn,fun h=>(by cases h),fun h=>(by cases h),fun h=>(by cases h)⟩
    |true=>
     obtain⟨ps,h1,o,h3⟩:=a2 rfl;rw[if_neg (by omega)] at o;rcases h3 with⟨g,_⟩|⟨g,_⟩|⟨g,_⟩|⟨h4,rfl,hi⟩|⟨h4,rfl,hi⟩|⟨g,_⟩|⟨g,_⟩|⟨h4,a,rfl⟩|⟨g,_⟩|⟨g,_⟩<;>first|omega|skip
     .exact⟨UY,UY,fun _=>o 0 (by simp),fun _=>o 1 (by simp),fun _=>.inr (.inl ⟨h4,rfl,rfl,hi⟩)⟩
     .exact⟨UY,UY,fun _=>o 0 (by simp),fun _=>o 1 (by simp),fun _=>.inr (.inr ⟨h4,rfl,rfl,hi⟩)⟩
     .exact⟨YN a i,a,fun _=>o 0 (by simp),fun _=>o 1 (by simp),fun _=>.inl ⟨h4,rfl⟩⟩
   exact Bb m M R F c Q x y0 y1 E i p0 p1 z w W hk r a1 a0 hE hr hw hQ nw (k 0 y0 p0 (by rw[r];rfl) a8 c (C _) hc) (k 1 y1 p1 (by rw[r];rfl) a4) a5
  rcases hk with h|h|h|h|h|h|h|h|h|h
  .exact Ba m M R F c Q x E i z w W h (hn h) n2 hE q.ty hc hw
  .exact RN m M R F c Q x E i z w W (.inl h) ⟨n1,n2⟩ (fun u=>⟨_,(q.ty u).1⟩) hc hw
  .exact RN m M R F c Q x E i z w W (.inr h) ⟨n1,n2⟩ (fun u=>⟨_,(q.ty u).1⟩) hc hw
  .exact l (.inl h)
  .exact l (.inr (.inl h))
  .have hl3:x.l.length=3:=by rw[h] at hl;exact hl
   obtain⟨y0,y1,y2,r⟩:∃y0 y1 y2,x.l=[y0,y1,y2]:=by
    match hx:x.l,hl3 with
    |[a,b,d],_=>exact⟨a,b,d,rfl⟩
   have hp:m=Y->L6 (x.tm.at 0) (E.map Th.tyo) Xp/\L6 (x.tm.at 1) (E.map Th.tyo) i/\L6 (x.tm.at 2) (E.map Th.tyo) i:=fun u=>by
    obtain⟨ps,h1,o,h3⟩:=a2 u;rw[if_neg (by omega)] at o;rcases h3 with⟨g,_⟩|⟨g,_⟩|⟨g,_⟩|⟨g,_⟩|⟨g,_⟩|⟨_,rfl⟩|⟨g,_⟩|⟨g,_⟩|⟨g,_⟩|⟨g,_⟩<;>first|omega|skip
    exact⟨o 0 (by simp),o 1 (by simp),o 2 (by simp)⟩
   exact Ce m M R F c Q x y0 y1 y2 E i z w W h r a1 a0 hE hw hQ nw (k 0 y0 Xp (by rw[r];rfl) (fun u=>(hp u).1) c (C _) hc) (k 1 y1 i (by rw[r];rfl) fun u=>(hp u).2.1) (k 2 y2 i (by rw[r];rfl) fun u=>(hp u).2.2)
  .exact Bc m M R F c Q x E i z w W h a1 a0 q.sh q.sz hE q.ty hc hw nw
  .exact l (.inr (.inr h))
  .obtain⟨y,r⟩:∃y,x.l=[y]:=S.1 (by rw[h] at hl;exact hl);refine Cf m M R F c Q x y E i z w W h r a1 a0 hE hw hQ nw (k 0 y i (by rw[r];rfl) (fun u=>?_) c (C _) hc);obtain⟨ps,h1,o,h3⟩:=a2 u;rw[if_neg (by omega)] at o;rcases h3 with⟨g,_⟩|⟨g,_⟩|⟨g,_⟩|⟨g,_⟩|⟨g,_⟩|⟨g,_⟩|⟨g,_⟩|⟨g,_⟩|⟨_,rfl,rfl⟩|⟨g,_⟩<;>first|omega|skip
   exact o 0 (by simp)
  .obtain⟨y,r⟩:∃y,x.l=[y]:=S.1 (by rw[h] at hl;exact hl);cases m with
   |false=>exact absurd h (by have:=(q.sh.2 rfl).top;rwa [TT.tm_k] at this)
   |true=>
    obtain⟨ps,h1,o,h3⟩:=a2 rfl;rw[if_neg (by omega)] at o;rcases h3 with⟨g,_⟩|⟨g,_⟩|⟨g,_⟩|⟨g,_⟩|⟨g,_⟩|⟨g,_⟩|⟨g,_⟩|⟨g,_⟩|⟨g,_⟩|⟨_,rfl,rfl,hf,g1,g2⟩<;>first|omega|skip
    exact V8 M R F c Q x y E z w W h r a1 a0 hE g1 g2 hf hw hQ nw (k 0 y x.f.ty (by rw[r];rfl) (fun _=>o 0 (by simp)) c (C _) hc)
theorem Bg{m:Bool}{M R F:Nat}(hF:F<=1000)(hM:M<=10000):∀(d c:Nat),F-c<=d->c<=F->Ct m M R F c
 |0,c,h,hc=>Va hF hM hc fun c' h1 h2=>by omega
 |d+1,c,h,hc=>Va hF hM hc fun c' h1 h2=>Bg hF hM d c' (by omega) h2
theorem BO{m:Bool}{M R:Nat}{Q:Nat->Prop}{w:World}{h:Th}(hi:h.In m M R Q w):(h.k=3/\XM h.val=⟨3,0,D⟩)\/(h.k≠3/\XM h.val=⟨h.k,h.n,D⟩):=by
 have e:∀v:YK,v.k≠5->XM v=if v.k=1 then ⟨1,v.n,D⟩ else if v.k=2 then ⟨2,v.n,D⟩ else ⟨3,0,D⟩:=fun v i=>by unfold XM;rw[if_neg i]
 have g:=(hi.tag 0).kinds;have c:({h with tag:=0}:Th).val=h.cv:=by unfold Th.val;rw[if_pos rfl,Th.cv_tag]
 rw[c] at g;have j:XM h.val=XM h.cv:=by
  unfold Th.val;split
  .rfl
  .have hne:h.cv.k≠5:=by
    rcases g with⟨d,_⟩|⟨_,_,⟨_,b⟩|⟨_,b⟩|⟨_,b,_⟩⟩
    .exact absurd rfl d
    .rw[b];simp[XF]
    .rw[b];simp[Xk]
    .omega
   rw[e _ hne];rfl
 rw[j];rcases g with⟨d,_⟩|⟨_,_,⟨a,b⟩|⟨a,b⟩|⟨a,b,_⟩⟩
 .exact absurd rfl d
 .replace a:h.k=1:=a;refine .inr ⟨by omega,?_⟩;rw[b,a];rfl
 .replace a:h.k=2:=a;refine .inr ⟨by omega,?_⟩;rw[b,a];rfl
 .replace a:h.k=3:=a;refine .inl ⟨a,?_⟩;rw[e _ (by omega),if_neg (by omega),if_neg (by omega)]
theorem Ou(m:Bool)(x:TT)(i:Ty)(f:Nat)(w:World)(hf:f<=100)(hx:x.In w)(hs:KX x.tm/\(m=D->TZ x.tm))(hz:x.tm.tsz<=100)(a4:m=Y->L6 x.tm [] i):
  Calls L 36 #[O #[A B x.k,A B x.n,A B x.t.k,T x.t.a x.t.l.length x.t.c,A B x.f.k,T x.f.a x.f.l.length x.f.c,T x.a x.l.length x.c],A B (f:Int)] w fun e w'=>e=X (O #[A B (X9 x.tm f).k,A B (X9 x.tm f).n,.bool (X9 x.tm f).b])/\Below w.heap.size w w':=by
 obtain⟨W1,c⟩:∃W,W=((w.alloc (.cells x.v 27)).alloc (.cells #[A B 0,A B 0,.bool D] 29)).alloc (.cells #[A B (f:Int),A B 0,A B 0,.bool D] 100):=⟨_,rfl⟩
 have a1:bL w W1:=by rw[c];exact(((I _ _).alloc (C _) _).alloc (by simp) _).alloc (by simp;omega) _
 have aa:W1.heap.size=w.heap.size+1+1+1:=by rw[c];simp
 have a5:Wl (w.heap.size+1+1) (f-0) Yl W1:=by constructor<;>(rw[c];simp[go_sem,Yl])
 have h7:X4 W1 w.heap.size 0 x:=by constructor<;>(rw[c];simp[go_sem])
 have z0:W1.cell? ⟨w.heap.size+1,0,K⟩=some (A B 0):=by rw[c];simp[go_sem]
 have z1:W1.cell? ⟨w.heap.size+1,1,K⟩=some (A B 0):=by rw[c];simp[go_sem]
 have z2:W1.cell? ⟨w.heap.size+1,2,K⟩=some (.bool D):=by rw[c];simp[go_sem]
 have zf:∀i,W1.frozen? ⟨w.heap.size+1,i,K⟩=D:=by intro i;rw[c];simp[go_sem]
 have HC:Z (Calls L 59 #[.pointer (some ⟨w.heap.size+1+1,0,K⟩),O x.v,T K 0 0] W1 (Xi m 100 (w.heap.size+1+1) f 0 (fun b=>b≠w.heap.size+1+1) W1 i (XU m f x.tm [] i 0))):=Bg (m:=m) (M:=100) (R:=w.heap.size+1+1) (F:=f) (by omega) (by omega) f 0 (by omega) (by omega) x [] i K 0 ⟨hs,by simp;omega,fun hm=>⟨a4 hm,fun e he=>by cases he⟩⟩ (fun b=>b≠w.heap.size+1+1) W1 (hx.below a1) (hx.bl.mono fun b hb=>by omega) ⟨fun j l=>absurd l (by simp),fun e he=>by cases he⟩ a5 (fun h=>h rfl) (fun b hb=>by omega)
 have HE:Z (∀r V c',XU m f x.tm [] i 0 r V c'->(r.k≠0->X9 x.tm f=r)/\(r=Yl->X9 x.tm f=XM V)):=fun r V c' h=>by have hg:=h.1 [] [];refine⟨fun hr=>Vx hs.1 hz hf (hg.bad hr),fun hr=>?_⟩;subst hr;exact SE hs.1 hz hf (hg.ok rfl)
 have HZ:Z (∀W,Yi (w.heap.size+1+1) K W1 W->cL W (w.heap.size+1) 0 (A B 0)/\cL W (w.heap.size+1) 1 (A B 0)/\cL W (w.heap.size+1) 2 (.bool D)/\W.frozen? ⟨w.heap.size+1,0,K⟩=D/\W.frozen? ⟨w.heap.size+1,1,K⟩=D/\W.frozen? ⟨w.heap.size+1,2,K⟩=D/\bL w W):=fun W hk=>⟨hk.cell z0 (by omega),hk.cell z1 (by omega),hk.cell z2 (by omega),hk.fz (zf 0) (by omega) (by omega),hk.fz (zf 1) (by omega) (by omega),hk.fz (zf 2) (by omega) (by omega),a1.trans ((hk.below (by simp) (by omega)).mono (by omega))⟩
 obtain⟨P,hP⟩:∃P,P=X9 x.tm f:=⟨_,rfl⟩
 rw[<-hP] at HE ⊢;obtain⟨p0,p1,p2,p3,p4,p5,p6⟩:=h7;simp only[Nat.zero_add] at p0 p1 p2 p3 p4 p5 p6;have ad:w.heap.size+1+1<W1.heap.size:=by omega
 clear hP hx hs hz a4 a1 a5 z0 z1 z2 zf aa hf;go_enter func36,ntmps36;go_upto_region 2 with fail;rw[<-c];clear c;go_wp2_with fail;refine HC.out.mono ?_;rintro e p ⟨q,r,V,c',hS,a7,a6,a2,⟨hr,rfl⟩|⟨rfl,z,rfl,a0,a3,_⟩⟩
 .have HPr:Z (P=r):=(HE.out _ _ _ hS).1 hr;have ae:(r.k != 0)=Y:=by simpa using hr
  obtain⟨r0,r1,r2,f0,f1,f2,hB⟩:=HZ.out p q;have HB:=Yx hB;obtain⟨c0,c1,c2,c3,_,_,_,_⟩:=a2;have ab:w.heap.size+1<p.heap.size:=G _ _ r0;have a8:w.heap.size+1+1<p.heap.size:=G _ _ c0;clear hS hr q hB HC HE HZ p0 p1 p2 p3 p4 p5 p6 a7 a6;simp only[X0];go_wp2_with fail;obtain⟨q0,q1,q2⟩:=YQ (W:=p) (u:=A B r.k) (v:=A B r.n) (z:=.bool r.b) r0 r1 r2;have d:=fun (o:Obj)=>H ((I _ _).alloc (C _) o) q0;have g:=fun (o:Obj)=>H ((I _ _).alloc (C _) o) q1;have k:=fun (o:Obj)=>H ((I _ _).alloc (C _) o) q2;refine J (v:=O #[A B r.k,A B r.n,.bool r.b]) ?_ rfl ⟨by rw[HPr.out],(((HB.out.setCell (by simp) _).setCell (by simp) _).setCell (by simp) _).alloc (by simpa using HB.out.size) _⟩;simp[results,U,go_sem,d,g,k]
 .have HPr:Z (P=XM z.val):=a3▸(HE.out _ _ _ hS).2 rfl;obtain⟨r0,r1,r2,f0,f1,f2,hB⟩:=HZ.out p q;have HB:=Yx hB;obtain⟨c0,c1,c2,c3,_,_,_,_⟩:=a2;replace c1:cL p (w.heap.size+1+1) 1 (A B 0):=c1;have ab:w.heap.size+1<p.heap.size:=G _ _ r0;have a8:w.heap.size+1+1<p.heap.size:=G _ _ c0;have a9:=BO a0;have y:=a0.one;have ac:∀(a:Addr)(m:Mode)(W:World),(store a z.fn m).run L W=stored L W a z.fn m:=fun a m W=>Yw y;clear hS q hB HC HE HZ p0 p1 p2 p3 p4 p5 p6 a7 a6 a0 a3 y;simp only[Th.ag];rcases a9 with⟨h3,ht⟩|⟨h3,ht⟩
  .have HT:=Yx (HPr.out.trans ht);rw[h3];clear h3 ht HPr;go_wp2_with fail;obtain⟨q0,q1,q2⟩:=YQ (W:=p) (u:=A B 3) (v:=A B 0) (z:=.bool D) r0 r1 r2;have d:=fun (o:Obj)=>H ((I _ _).alloc (C _) o) q0;have g:=fun (o:Obj)=>H ((I _ _).alloc (C _) o) q1;have k:=fun (o:Obj)=>H ((I _ _).alloc (C _) o) q2;refine J (v:=O #[A B 3,A B 0,.bool D]) ?_ rfl ⟨by rw[HT.out],(((HB.out.setCell (by simp) _).setCell (by simp) _).setCell (by simp) _).alloc (by simpa using HB.out.size) _⟩;simp[results,U,go_sem,d,g,k]
  .have HT:=Yx (HPr.out.trans ht);have k3:(z.k==3)=D:=by simpa using h3
   clear h3 ht HPr;go_wp2_with fail;obtain⟨q0,q1,q2⟩:=YQ (W:=p) (u:=A B z.k) (v:=A B z.n) (z:=.bool D) r0 r1 r2;have d:=fun (o:Obj)=>H ((I _ _).alloc (C _) o) q0;have g:=fun (o:Obj)=>H ((I _ _).alloc (C _) o) q1;have k:=fun (o:Obj)=>H ((I _ _).alloc (C _) o) q2;refine J (v:=O #[A B z.k,A B z.n,.bool D]) ?_ rfl ⟨by rw[HT.out],(((HB.out.setCell (by simp) _).setCell (by simp) _).setCell (by simp) _).alloc (by simpa using HB.out.size) _⟩;simp[results,U,go_sem,d,g,k]
theorem Wd:∀x:Tm,KX x->TZ (YE x):=by
 intro x;induction x using Tm.ind with
 |h k n t f l ih=>
  intro h;obtain⟨⟨i,g,c,o,p,q,_⟩,a⟩:=Ll.1 h;by_cases hk:k=9\/k=10
  .have hl1:l.length=1:=by rw[c];rcases hk with rfl|rfl<;>rfl
   rw[PL (x:=⟨k,n,t,f,l⟩) hk hl1];have b:=Tm.at_mem (x:=⟨k,n,t,f,l⟩) (j:=0) (by simp only;omega);exact ih _ b (a _ b)
  .rw[OH (x:=⟨k,n,t,f,l⟩) hk];refine S0.2 ⟨fun e=>hk (.inr e),fun y d=>?_⟩;obtain⟨z,hz,rfl⟩:=List.mem_map.1 d;exact ih z hz (a z hz)
theorem Ru(x:TT)(f:Int)(w:World)(hx:x.In w)(k:x.sz<=2000000)(d:x.ok 100000000):
  Calls L 21 #[O #[A B x.k,A B x.n,A B x.t.k,T x.t.a x.t.l.length x.t.c,A B x.f.k,T x.f.a x.f.l.length x.f.c,T x.a x.l.length x.c],A B f] w (Uk (ML x.tm f) w):=by
 obtain⟨W1,b⟩:∃W,W=(w.alloc (.cells x.v 27)).alloc (.cells #[A B 0,A B 0,.bool D] 29):=⟨_,rfl⟩
 have a8:bL w W1:=by rw[b];exact((I _ _).alloc (C _) _).alloc (by simp) _
 have a9:W1.heap.size=w.heap.size+1+1:=by rw[b];simp
 have z0:W1.cell? ⟨w.heap.size+1,0,K⟩=some (A B 0):=by rw[b];simp[go_sem]
 have z1:W1.cell? ⟨w.heap.size+1,1,K⟩=some (A B 0):=by rw[b];simp[go_sem]
 have z2:W1.cell? ⟨w.heap.size+1,2,K⟩=some (.bool D):=by rw[b];simp[go_sem]
 have zf:∀i,W1.frozen? ⟨w.heap.size+1,i,K⟩=D:=by intro i;rw[b];simp[go_sem]
 have h7:X4 W1 w.heap.size 0 x:=by constructor<;>(rw[b];simp[go_sem])
 have HC:=Yx (Oy x 0 W1 (hx.below a8) k d);have HZ:Z (∀W,bL W1 W->cL W (w.heap.size+1) 0 (A B 0)/\cL W (w.heap.size+1) 1 (A B 0)/\cL W (w.heap.size+1) 2 (.bool D)/\W.frozen? ⟨w.heap.size+1,0,K⟩=D/\W.frozen? ⟨w.heap.size+1,1,K⟩=D/\W.frozen? ⟨w.heap.size+1,2,K⟩=D/\w.heap.size+1<W.heap.size/\bL w W):=fun W g=>⟨H g z0,H g z1,H g z2,(g.frozen (p:=⟨w.heap.size+1,0,K⟩) (by rw[a9];show w.heap.size+1<_;omega)).trans (zf 0),(g.frozen (p:=⟨w.heap.size+1,1,K⟩) (by rw[a9];show w.heap.size+1<_;omega)).trans (zf 1),(g.frozen (p:=⟨w.heap.size+1,2,K⟩) (by rw[a9];show w.heap.size+1<_;omega)).trans (zf 2),by have:=g.size;omega,a8.trans (g.mono a8.size)⟩
 have HX:Z (∀W,bL W1 W->x.In W/\X4 W w.heap.size 0 x):=fun W g=>⟨(hx.below a8).below g,h7.below g⟩
 obtain⟨R,hR⟩:∃R,R=ML x.tm f:=⟨_,rfl⟩
 rw[<-hR];have HR:=Yx hR;have HE:Z (∀(o:Xy)(er:Int)(W:World),R=(o,er)->bL w W->Uk R w (X (.tuple #[O #[A B o.k,A B o.n,.bool o.b],A B er])) (((W.setCell ⟨w.heap.size+1,0,K⟩ (A B o.k)).setCell ⟨w.heap.size+1,1,K⟩ (A B o.n)).setCell ⟨w.heap.size+1,2,K⟩ (.bool o.b))):=fun o er W h1 h2=>by rw[h1];exact⟨rfl,((h2.setCell (by simp) _).setCell (by simp) _).setCell (by simp) _⟩
 clear hR a8 a9 z0 z1 z2 zf hx k d h7;go_enter func21,ntmps21;go_wp2_with fail;rw[<-b];clear b;refine HC.out.mono ?_;rintro e w2 ⟨rfl,a⟩;by_cases hgd:Uh 0 x.tm=Y
 .obtain⟨d,k⟩:=Lv hgd;have a7:=RD x.tm 0 d (by omega);have q:=OG x.tm a7;have aa:=Wd x.tm a7;have ab:(YE x.tm).tsz<=100:=by have:=q.2;rw[WD x.tm] at this;omega
  have l:x.sz<=1000:=by have:=(PJ hgd).2;omega
  have c:Z (R=(if f<0\/100<f then (Yl,3) else (X9 (YE x.tm) f.toNat,0))):=by rw[HR.out];unfold ML;rw[if_pos hgd];exact rfl
  by_cases j:f<0\/100<f
  .have HR2:Z (R=(Yl,3)):=by rw[c.out,if_pos j];rfl
   obtain⟨r0,r1,r2,f0,f1,f2,rl,hB⟩:=HZ.out w2 a;have HB:=Yx hB;rw[hgd];rcases j with j|j
   .clear hgd d k a7 q aa ab l a HC HR HX hB c;go_wp2_with fail;obtain⟨q0,q1,q2⟩:=YQ (u:=A B 0) (v:=A B 0) (z:=.bool D) r0 r1 r2;exact J (v:=.tuple #[O #[A B 0,A B 0,.bool D],A B 3]) (by simp[results,N,go_sem,q0,q1,q2]) rfl (HE.out Yl 3 w2 HR2.out HB.out)
   .have hf9:¬f<0:=by omega
    clear hgd d k a7 q aa ab l a HC HR HX hB c;go_wp2_with fail;obtain⟨q0,q1,q2⟩:=YQ (u:=A B 0) (v:=A B 0) (z:=.bool D) r0 r1 r2;exact J (v:=.tuple #[O #[A B 0,A B 0,.bool D],A B 3]) (by simp[results,N,go_sem,q0,q1,q2]) rfl (HE.out Yl 3 w2 HR2.out HB.out)
  .have HR2:Z (R=(X9 (YE x.tm) f.toNat,0)):=by rw[c.out,if_neg j];rfl
   have ai:¬f<0:=by omega
   have ah:¬100<f:=by omega
   have af:Z (Calls L 38 #[O x.v] w2 fun e w'=>∃y:TT,e=X (O y.v)/\y.In w'/\y.tm=YE x.tm/\bL w2 w'):=by refine(RR 1000 x w2 l (HX.out w2 a).1 l).mono ?_;rintro e w' ⟨y,rfl,h1,h2,_,h4⟩;exact⟨y,rfl,h2,h1,h4⟩
   have HO:Z (∀(W:World)(y:TT),bL w2 W->y.In W->y.tm=YE x.tm->Calls L 36 #[O y.v,A B f] W fun e w'=>e=X (O #[A B (X9 (YE x.tm) f.toNat).k,A B (X9 (YE x.tm) f.toNat).n,.bool (X9 (YE x.tm) f.toNat).b])/\bL W1 w'):=fun W y g hy he=>by
    have e:((f.toNat:Nat):Int)=f:=by omega
    have h1:=Ou D y Yn f.toNat W (by omega) hy ⟨by rw[he];exact q.1,fun _=>by rw[he];exact aa⟩ (by rw[he];exact ab) (fun h=>by cases h);rw[e,he] at h1;refine h1.mono ?_;rintro e w' ⟨h1,hb⟩;exact⟨h1,a.trans ((g.trans (hb.mono g.size)).mono a.size)⟩
   obtain⟨r,hr⟩:∃r,r=X9 (YE x.tm) f.toNat:=⟨_,rfl⟩
   rw[<-hr] at HO HR2;obtain⟨a0,a1,a2,a3,a4,a5,a6⟩:=(HX.out w2 a).2;simp only[Nat.zero_add] at a0 a1 a2 a3 a4 a5 a6;have lx:w.heap.size<w2.heap.size:=G _ _ a0;rw[hgd];clear hgd d k a7 q aa ab l hr a HC HR HX c j;go_wp2_with fail;refine af.out.mono ?_;rintro e w4 ⟨y,rfl,hy,ac,ae⟩;go_wp2_with fail;refine(HO.out w4 y ae hy ac).mono ?_;rintro e w5 ⟨rfl,ad⟩;obtain⟨r0,r1,r2,f0,f1,f2,rl,hB⟩:=HZ.out w5 ad;have HB:=Yx hB;clear ae ad hB HZ HO af hy ac a0 a1 a2 a3 a4 a5 a6;go_wp2_with fail;obtain⟨q0,q1,q2⟩:=YQ (u:=A B r.k) (v:=A B r.n) (z:=.bool r.b) r0 r1 r2;exact J (v:=.tuple #[O #[A B r.k,A B r.n,.bool r.b],A B 0]) (by simp[results,N,go_sem,q0,q1,q2]) rfl (HE.out r 0 w5 HR2.out HB.out)
 .have hgd':Uh 0 x.tm=D:=by simpa using hgd
  have c:Z (R=(Yl,1)):=by rw[HR.out];unfold ML;rw[if_neg hgd];rfl
  obtain⟨r0,r1,r2,f0,f1,f2,rl,hB⟩:=HZ.out w2 a;have HB:=Yx hB;rw[hgd'];clear hB hgd hgd' a HC HZ HX;go_wp2_with fail;obtain⟨q0,q1,q2⟩:=YQ (u:=A B 0) (v:=A B 0) (z:=.bool D) r0 r1 r2;exact J (v:=.tuple #[O #[A B 0,A B 0,.bool D],A B 1]) (by simp[results,N,go_sem,q0,q1,q2]) rfl (HE.out Yl 1 w2 c.out HB.out)
end Go.Proofs.YtnddkmccagiclabGreatDoor
