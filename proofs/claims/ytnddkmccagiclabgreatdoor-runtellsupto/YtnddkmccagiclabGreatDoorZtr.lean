import Derived.Test.YtnddkmccagiclabGreatDoorZtb
import Derived.Test.YtnddkmccagiclabGreatDoorZti
import Derived.Test.YtnddkmccagiclabGreatDoorZto
set_option maxRecDepth 20000
set_option maxHeartbeats 16000000
open Go.RowKit Go.Proofs.Tryz
open Go.IntKind renaming i64→D
open Go.Value renaming int→F,slice→L,agg→Zo,pointer→Zs,tuple→ZV,oneCell'→ZX
open Option renaming none→I,some→Za,bind_some→Zl
open Go.RowKit.Below renaming refl→Y
open Nat renaming le_refl→Z,zero_add→Zh
open List renaming setIfInBounds_toArray→Zb,set_cons_zero→Zf,set_cons_succ→Zg,getElem_mem→Zk,map_cons→Zt,mem_cons→Zx,getD_eq_getElem?_getD→ZA,getElem_of_mem→ZB,sum_cons→ZC,map_congr_left→ZD,getElem_cons_zero→ZE,length_cons→ZG,eq_nil_of_length_eq_zero→ZI,mem_singleton→ZK,getElem?_eq_getElem→ZO,not_mem_nil→ZP,length_nil→ZS,map_append→ZT,take_of_length_le→ZU,mem_cons_of_mem→ZY,mem_cons_self→Z1,length_append→Z2,map_nil→Z3
open Bool renaming true→Zc,false→Zq,and_eq_true→Zy
open Go renaming cell_later→Zd,World→Zi,Calls→Zv,bodyPost_ret→Zw,Value→ZF,Addr→ZM,madeCells→Z5
open Go.Proofs.Tryz renaming prog→Ze,results109→ZH,results97→ZJ,underlying22→ZN,ntmps61→ZR,func61→ZW,ntmps97→Z4,func97→Z7
open Go.Ending renaming returned→Zj
open Go.World renaming block_lt_of_cell?→Zm,cell?_setCell_other→Zp,size_alloc→ZQ,cell?_of_block→ZZ
open Go.Obj renaming cells→Zn
open Go.RowKit renaming Hid→Zr,Below→Zz
open Go.Act renaming put→Zu
open Array renaming getElem?_eq_some_iff→ZL
open Go.Region renaming wanted→Z0
open Option.some renaming injEq→Z6,inj→Z8
namespace Go.Proofs.YtnddkmccagiclabGreatDoor
variable {Q:Nat->Prop}{M R b b0 base c g:Nat}{x y:Tm}{V W W1 w w':Zi}{o:Oper}{a:Act}{P:Program}{ops:Array Oper}{l:List Tm}{k no:Int}{takes:List Ty}{i:Ty}{h:Th}{back:Bool}
def YL(k n:Int)(t:Ty)(ps takes:List Ty):Option (Ty×List Ty):=
 if k=1 then Za (takes.getD n.toNat ⟨0,[]⟩,[])
 else if k=2 then Za (⟨1,[]⟩,[])
 else if k=3 then Za (⟨2,[]⟩,[])
 else if k=4 then Za (⟨1,[]⟩,[⟨1,[]⟩,⟨1,[]⟩])
 else if k=5 then Za (⟨2,[]⟩,[⟨1,[]⟩,⟨1,[]⟩])
 else if k=6 then T6 ⟨2,[]⟩ (ps.getD 1 ⟨0,[]⟩) (ps.getD 2 ⟨0,[]⟩)
 else if k=7 then Za (⟨3,[t,ps.getD 0 ⟨0,[]⟩]⟩,ps)
 else if k=8 then X2 (ps.getD 0 ⟨0,[]⟩)
 else if k=9 then Za (t,[t])
 else I
theorem TE{x:Tr}(h:Q g)(d:x.Bl Q):(Tr.mk 0 (Za ⟨g,0,I⟩) c [x]).Bl Q:=by
 refine Tr.Bl_mk.2 ⟨fun _ y b=>by cases b;exact h,fun t a=>?_⟩;have:t=x:=by simpa using a
 subst this;exact d
theorem C7{x:Tr}(e:w.cell? ⟨g,0,I⟩=Za (F D x.k))(d:w.cell? ⟨g,1,I⟩=Za (L x.a x.l.length x.c))(a:x.In w):(Tr.mk 0 (Za ⟨g,0,I⟩) c [x]).In w:=by
 refine Tr.In_mk.2 ⟨fun j h=>?_,fun t b=>?_⟩
 .have hj:j=0:=by simpa using h
  subst hj;exact⟨g,0,rfl,by simpa using e,by simpa[Tr.sl] using d⟩
 .have:t=x:=by simpa using b
  subst this;exact a
theorem SM(Q:Nat->Prop)(x:TT)(p T:Tr)(w:Zi)(h1:1<=x.k)(h9:x.k<=9)(hp:p.l.length=YA x.k)(hn:x.k=1->0<=x.n/\x.n<(T.l.length:Int))
  (ht:x.t.In w) (bt:x.t.Bl Q) (ip:p.In w) (bp:p.Bl Q) (iT:T.In w) (bT:T.Bl Q) (y:∀t,t∈p.l->t.right/\t.hgt<=1000/\t.sm) (z:∀b,w.heap.size<=b->Q b) :
  Zv Ze 67 #[Zo #[F D x.k,F D x.n,F D x.t.k,L x.t.a x.t.l.length x.t.c,F D x.f.k,L x.f.a x.f.l.length x.f.c,L x.a x.l.length x.c],L p.a p.l.length p.c,L T.a T.l.length T.c] w (U8 Q w (YL x.k x.n x.t.ty (p.l.map Tr.ty) (T.l.map Tr.ty))):=by
 have hk:x.k=1\/x.k=2\/x.k=3\/x.k=4\/x.k=5\/x.k=6\/x.k=7\/x.k=8\/x.k=9:=by omega
 rcases hk with e|e|e|e|e|e|e|e|e
 .obtain⟨m,hm⟩:∃m:Nat,x.n=(m:Int):=⟨x.n.toNat,by have:=hn e;omega⟩
  have r:m<T.l.length:=by have:=hn e;omega
  obtain⟨b,o,j,h,i,hi⟩:=iT.part m r;have a2:T.l[m].Bl Q:=by obtain⟨k,a,c,l⟩:=T;exact(Tr.Bl_mk.1 bT).2 _ (Zk r)
  rw[e,hm,j];refine(Af x m hm p.a p.l.length p.c b o T.l.length T.c r T.l[m] w h i).mono ?_;rintro e w' ⟨rfl,d⟩;exact⟨d,.inr ⟨T.l[m],Yr 0,by simp[YL,Yr,r],rfl,hi.below d,YB _ _,a2,YG _ _⟩⟩
 .rw[e];refine(Ae x p.a T.a p.l.length p.c T.l.length T.c w).mono ?_;rintro e w' ⟨rfl,d⟩;exact⟨d,.inr ⟨Yr 1,Yr 0,by simp[YL,Yr,Tr.ty_mk],rfl,YB _ _,YB _ _,YG _ _,YG _ _⟩⟩
 .rw[e];refine(Ad x p.a T.a p.l.length p.c T.l.length T.c w).mono ?_;rintro e w' ⟨rfl,d⟩;exact⟨d,.inr ⟨Yr 2,Yr 0,by simp[YL,Yr,Tr.ty_mk],rfl,YB _ _,YB _ _,YG _ _,YG _ _⟩⟩
 .rw[e];refine(Ac x p.a T.a p.l.length p.c T.l.length T.c w).mono ?_;rintro e w' ⟨g,hg,rfl,h,i,c2,c3,d⟩;exact⟨d,.inr ⟨Yr 1,⟨0,Za ⟨g,0,I⟩,2,[Yr 1,Yr 1]⟩,by simp[YL,Yr,Tr.ty_mk],rfl,YB _ _,Tr.In_two h i c2 c3 (YB _ _) (YB _ _),YG _ _,Tr.Bl_two (z g hg) (YG _ _) (YG _ _)⟩⟩
 .rw[e];refine(Ab x p.a T.a p.l.length p.c T.l.length T.c w).mono ?_;rintro e w' ⟨g,hg,rfl,h,i,c2,c3,d⟩;exact⟨d,.inr ⟨Yr 2,⟨0,Za ⟨g,0,I⟩,2,[Yr 1,Yr 1]⟩,by simp[YL,Yr,Tr.ty_mk],rfl,YB _ _,Tr.In_two h i c2 c3 (YB _ _) (YB _ _),YG _ _,Tr.Bl_two (z g hg) (YG _ _) (YG _ _)⟩⟩
 .have hl:p.l.length=3:=by rw[hp,e];rfl
  obtain⟨b,o,j,h,i,a0⟩:=ip.part 1 (by omega);obtain⟨b',o',eb,d0,d1,a1⟩:=ip.part 2 (by omega);rw[j] at eb;cases eb
  have o1:=y _ (Zk (show 1<p.l.length by omega));have o2:=y _ (Zk (show 2<p.l.length by omega));have he:YL 6 x.n x.t.ty (p.l.map Tr.ty) (T.l.map Tr.ty)=T6 ⟨2,[]⟩ (p.l[1]'(by omega)).ty (p.l[2]'(by omega)).ty:=by simp[YL,hl]
  rw[e,j,he];exact Aa Q x _ _ b o p.l.length p.c T.a T.l.length T.c w (by omega) h i d0 d1 a0 a1 o1.1 o2.1 o1.2.1 o1.2.2 z
 .have hl:p.l.length=1:=by rw[hp,e];rfl
  obtain⟨q,hq⟩:∃q,p.l=[q]:=List.length_eq_one_iff.1 hl;obtain⟨b,o,j,h,i,hi⟩:=ip.part 0 (by omega);have a3:p.l[0]'(by omega)=q:=by simp[hq]
  rw[a3] at h i hi;have u:q.Bl Q/\Q b:=by obtain⟨k,a,c,l⟩:=p;dsimp only at hq j;subst hq j;exact⟨(Tr.Bl_mk.1 bp).2 _ (by simp),(Tr.Bl_mk.1 bp).1 (by simp) _ rfl⟩
  have he:YL 7 x.n x.t.ty (p.l.map Tr.ty) (T.l.map Tr.ty)=Za (⟨3,[x.t.ty,q.ty]⟩,[q.ty]):=by simp[YL,hq]
  rw[e,j,he,hl];exact W8 Q x q b o p.c T.a T.l.length T.c w (by simpa using h) (by simpa using i) hi ht u.1 bt u.2 z
 .have hl:p.l.length=2:=by rw[hp,e];rfl
  obtain⟨b,o,j,h,i,hi⟩:=ip.part 0 (by omega);have o1:=y _ (Zk (show 0<p.l.length by omega));have u:(p.l[0]'(by omega)).Bl Q:=by obtain⟨k,a,c,l⟩:=p;exact(Tr.Bl_mk.1 bp).2 _ (Zk (by dsimp only at hl;omega))
  have he:YL 8 x.n x.t.ty (p.l.map Tr.ty) (T.l.map Tr.ty)=X2 (p.l[0]'(by omega)).ty:=by simp[YL,hl]
  rw[e,j,he];exact W6 Q x _ b o p.l.length p.c T.a T.l.length T.c w (by omega) (by simpa using h) (by simpa using i) hi o1.1 z u
 .rw[e];refine(WZ x p.a T.a p.l.length p.c T.l.length T.c w).mono ?_;rintro e w' ⟨g,hg,rfl,h,i,d⟩;exact⟨d,.inr ⟨x.t,⟨0,Za ⟨g,0,I⟩,1,[x.t]⟩,by simp[YL],rfl,ht.below d,C7 h i (ht.below d),bt,TE (z g hg) bt⟩⟩
structure Rd where
 n:Int
 y:TT
 i:Tr
structure Cu(w:Zi)(b o:Nat)(r:Rd):Prop where
 n:w.cell? ⟨b,o,I⟩=Za (F D r.n)
 y:X4 w b (o+1) r.y
 k:w.cell? ⟨b,o+8,I⟩=Za (F D r.i.k)
 l:w.cell? ⟨b,o+9,I⟩=Za (L r.i.a r.i.l.length r.i.c)
theorem Cu.below{o:Nat}{r:Rd}(hb:Zz w.heap.size w w')(h:Cu w b o r):Cu w' b o r:=⟨Zd hb h.n,h.y.below hb,Zd hb h.k,Zd hb h.l⟩
def RL(w:Zi)(a:Option ZM)(rs:List Rd):Prop:=∀j(h:j<rs.length),∃b o,a=Za ⟨b,o,I⟩/\Cu w b (o+j*10) rs[j]/\rs[j].y.In w/\rs[j].i.In w
theorem RL.below{a:Option ZM}{rs:List Rd}(c:Zz w.heap.size w w')(h:RL w a rs):RL w' a rs:=by intro j d;obtain⟨b,o,e,i,g,k⟩:=h j d;exact⟨b,o,e,i.below c,g.below c,k.below c⟩
def UM:List Ty->List Ty->Bool
 |x::r,y::s=>YC Yk x y&&UM r s
 |_,_=>Zc
theorem RK:∀(l m:List Ty),(∀j(h:j<l.length)(h':j<m.length),YC Yk l[j] m[j]=Zc)->UM l m=Zc
 |[],_,_=>by simp[UM]
 |_::_,[],_=>by simp[UM]
 |x::r,y::s,h=>by simp only[UM,Zy];exact⟨h 0 (by simp) (by simp),RK r s fun j h1 h2=>h (j+1) (by simpa using h1) (by simpa using h2)⟩
theorem RJ:∀(l m:List Ty)(j:Nat)(h:j<l.length)(h':j<m.length),YC Yk l[j] m[j]=Zq->UM l m=Zq
 |[],_,_,h,_,_=>by simp at h
 |_::_,[],_,_,h',_=>by simp at h'
 |x::r,y::s,0,_,_,e=>by simp only[ZE] at e;simp[UM,e]
 |x::r,y::s,j+1,h,h',e=>by simp only[UM,RJ r s j (by simpa using h) (by simpa using h') (by simpa using e),Bool.and_false]
theorem TI(d:List Rd)(a:Option ZM)(c:Nat)(U:Tr)(w:Zi)(hr:RL w a d)(hU:U.In w)(hl:d.length=U.l.length)(h3:d.length<=1000)(a2:∀r,r∈d->r.i.hgt<=1000/\r.i.sm):
  Zv Ze 69 #[L a d.length c,L U.a U.l.length U.c] w fun e w'=>e=Zj (.bool (UM (d.map fun r=>r.i.ty) (U.l.map Tr.ty)))/\Zz w.heap.size w w':=by
 have HF:Zr (∀j(h:j<d.length)(z:j<U.l.length)(W:Zi),d[j].i.In W->U.l[j].In W->Zv Ze 108 #[Zo d[j].i.v,Zo U.l[j].v] W fun e w'=>e=Zj (.bool (YC Yk d[j].i.ty U.l[j].ty))/\bL W w'):=fun j h z W h1 h2=>OF _ _ W h1 h2 (a2 _ (Zk h)).1 (a2 _ (Zk h)).2
 have HR:=Yx hr;have HU:=Yx hU;have HL:=Yx hl;clear hr hU hl a2;go_enter func69,ntmps69;go_wp2_with fail;go_loopg [9] d.length (fun g i wr=>∃(j:Nat),g+j=d.length/\i=F D (j:Int)/\Zr (bL w wr/\∀q(h:q<d.length)(z:q<U.l.length),q<j->YC Yk d[q].i.ty U.l[q].ty=Zc))
 case atStart=>exact⟨0,by omega,rfl,Y _ _,fun q _ _ h=>absurd h (by omega)⟩
 case round=>
  obtain⟨j,hj,rfl,y⟩:=hrel;by_cases hlt:j<d.length
  .have hlt':j<U.l.length:=HL.out▸hlt;obtain⟨b,o,ea,a6,hy,hi⟩:=HR.out j hlt;obtain⟨b',o',eb,u0,u1,hu⟩:=HU.out.part j hlt';have hb:=y.out.1;have a8:=a6.below hb;obtain⟨d0,⟨d1,d2,d3,d4,d5,d6,d7⟩,d8,d9⟩:=a8;replace u0:=Zd hb u0;replace u1:=Zd hb u1;have i1:(j:Int)<(d.length:Int):=by omega
   have i2:(j:Int)<(U.l.length:Int):=by omega
   have i0:(0:Int)<=(j:Int):=by omega
   have aa:=Yx ea;have a9:=Yx eb;rw[ea,eb];clear ea eb;have a1:(wr.alloc (Zn #[F D d[j].n,F D d[j].y.k,F D d[j].y.n,F D d[j].y.t.k,L d[j].y.t.a d[j].y.t.l.length d[j].y.t.c,F D d[j].y.f.k,L d[j].y.f.a d[j].y.f.l.length d[j].y.f.c,L d[j].y.a d[j].y.l.length d[j].y.c,F D d[j].i.k,L d[j].i.a d[j].i.l.length d[j].i.c] 64)).cell? ⟨wr.heap.size,8,I⟩=Za (F D d[j].i.k):=by simp[go_sem]
   have x:(wr.alloc (Zn #[F D d[j].n,F D d[j].y.k,F D d[j].y.n,F D d[j].y.t.k,L d[j].y.t.a d[j].y.t.l.length d[j].y.t.c,F D d[j].y.f.k,L d[j].y.f.a d[j].y.f.l.length d[j].y.f.c,L d[j].y.a d[j].y.l.length d[j].y.c,F D d[j].i.k,L d[j].i.a d[j].i.l.length d[j].i.c] 64)).cell? ⟨wr.heap.size,9,I⟩=Za (L d[j].i.a d[j].i.l.length d[j].i.c):=by simp[go_sem]
   have p:bL wr (wr.alloc (Zn #[F D d[j].n,F D d[j].y.k,F D d[j].y.n,F D d[j].y.t.k,d[j].y.t.s,F D d[j].y.f.k,d[j].y.f.s,d[j].y.s,F D d[j].i.k,d[j].i.s] 64)):=(Y _ _).alloc (Z _) _;have v0:=Zd p u0;have v1:=Zd p u1;have u:=hb.trans (p.mono hb.size);have a4:=hi.below u;have a5:=hu.below u;have a3:=HF.out j hlt hlt';clear p u0 u1 hi hu a6 hy;obtain⟨r,a0⟩:∃r,YC Yk d[j].i.ty U.l[j].ty=r:=⟨_,rfl⟩
   rw[a0] at a3;have HC:=Yx a3;have a7:=Yx a0;have HI:=KS a4 a5 u;clear a3 a0 a4 a5 u;go_wp2_with fail;clear d0 d1 d2 d3 d4 d5 d6 d7 d8 d9;generalize (wr.alloc (Zn #[F D d[j].n,F D d[j].y.k,F D d[j].y.n,F D d[j].y.t.k,d[j].y.t.s,F D d[j].y.f.k,d[j].y.f.s,d[j].y.s,F D d[j].i.k,d[j].i.s] 64))=WA at *;go_region_held3 (fun w'=>w'.cell? ⟨wr.heap.size,8,I⟩=Za (F D d[j].i.k)/\w'.cell? ⟨wr.heap.size,9,I⟩=Za (L d[j].i.a d[j].i.l.length d[j].i.c)/\w'.cell? ⟨b',o'+j*2,I⟩=Za (F D U.l[j].k)/\w'.cell? ⟨b',o'+j*2+1,I⟩=Za (L U.l[j].a U.l[j].l.length U.l[j].c)) (first|exact⟨Zd k a1,Zd k x,Zd k v0,Zd k v1⟩|go_keep) (first|(go_at_call 108;refine(HC.out _ (HI.out.1.below ((Y _ _).drew)) (HI.out.2.1.below ((Y _ _).drew))).mono ?_;rintro e w2 ⟨rfl,k⟩))
   have l:=HI.out.2.2.drew.trans (k.mono HI.out.2.2.size);cases r
   .have HE:Zr (UM (d.map fun r=>r.i.ty) (U.l.map Tr.ty)=Zq/\bL w w2):=⟨RJ _ _ j (by simpa using hlt) (by simpa using hlt') (by simpa using a7.out),l⟩
    clear k l HI y a1 x v0 v1;go_wp2_with fail;go_ret;exact⟨U0 HE.out.1.symm,HE.out.2⟩
   .have HN:Zr (bL w w2/\∀q(h:q<d.length)(z:q<U.l.length),q<j+1->YC Yk d[q].i.ty U.l[q].ty=Zc):=by
     refine⟨l,fun q h z hq=>?_⟩;by_cases e:q=j
     .subst e;exact a7.out
     .exact y.out.2 q h z (by omega)
    clear k l HI y a1 x v0 v1;go_wp2_with fail;rw[<-aa.out,<-a9.out];go_roundg (d.length-(j+1))
    case measure=>omega
    case rel=>exact⟨j+1,by omega,by go_num,HN⟩
  .have HE:Zr (UM (d.map fun r=>r.i.ty) (U.l.map Tr.ty)=Zc/\bL w wr):=⟨RK _ _ fun q h z=>by simpa using y.out.2 q (by simpa using h) (by simpa using z) (by have:q<d.length:=(by simpa using h);omega),y.out.1⟩
   clear y;go_wp2_with fail;go_ret;exact⟨U0 HE.out.1.symm,HE.out.2⟩
def Jd(n:Int)(x:Tm)(i u:Ty):Tm:=if YC Yv i u then x else ⟨10,n,u,i,[x]⟩
structure CB(H:Nat)(r:Rd)(u:Tr)(W:Zi):Prop where
 p0:W.cell? ⟨H,0,I⟩=Za (F D r.n)
 p1:W.cell? ⟨H,1,I⟩=Za (F D r.y.k)
 p2:W.cell? ⟨H,2,I⟩=Za (F D r.y.n)
 p3:W.cell? ⟨H,3,I⟩=Za (F D r.y.t.k)
 p4:W.cell? ⟨H,4,I⟩=Za (L r.y.t.a r.y.t.l.length r.y.t.c)
 p5:W.cell? ⟨H,5,I⟩=Za (F D r.y.f.k)
 p6:W.cell? ⟨H,6,I⟩=Za (L r.y.f.a r.y.f.l.length r.y.f.c)
 p7:W.cell? ⟨H,7,I⟩=Za (L r.y.a r.y.l.length r.y.c)
 p8:W.cell? ⟨H,8,I⟩=Za (F D r.i.k)
 p9:W.cell? ⟨H,9,I⟩=Za (L r.i.a r.i.l.length r.i.c)
 u0:W.cell? ⟨H+1,0,I⟩=Za (F D u.k)
 u1:W.cell? ⟨H+1,1,I⟩=Za (L u.a u.l.length u.c)
 z0:W.cell? ⟨H+1+1,0,I⟩=Za (F D 0)
 z1:W.cell? ⟨H+1+1,1,I⟩=Za (F D 0)
 z2:W.cell? ⟨H+1+1,2,I⟩=Za (F D 0)
 z3:W.cell? ⟨H+1+1,3,I⟩=Za (L I 0 0)
 z4:W.cell? ⟨H+1+1,4,I⟩=Za (F D 0)
 z5:W.cell? ⟨H+1+1,5,I⟩=Za (L I 0 0)
 z6:W.cell? ⟨H+1+1,6,I⟩=Za (L I 0 0)
 fz:∀i,W.frozen? ⟨H+1+1,i,I⟩=Zq
 iu:u.In W
 ii:r.i.In W
 iy:r.y.In W
theorem CB.below{H:Nat}{r:Rd}{u:Tr}{W':Zi}(h:CB H r u W)(hb:Zz W.heap.size W W'):CB H r u W':=⟨Zd hb h.p0,Zd hb h.p1,Zd hb h.p2,Zd hb h.p3,Zd hb h.p4,Zd hb h.p5,Zd hb h.p6,Zd hb h.p7,Zd hb h.p8,Zd hb h.p9,Zd hb h.u0,Zd hb h.u1,Zd hb h.z0,Zd hb h.z1,Zd hb h.z2,Zd hb h.z3,Zd hb h.z4,Zd hb h.z5,Zd hb h.z6,fun i=>(hb.frozen (p:=⟨H+1+1,i,I⟩) (show (⟨H+1+1,0,I⟩:ZM).block<W.heap.size from Zm _ _ h.z0)).trans (h.fz i),h.iu.below hb,h.ii.below hb,h.iy.below hb⟩
def Sk(r:Rd)(u:Tr)(w:Zi)(e:Ending)(w':Zi):Prop:=∃z:TT,e=Zj (Zo #[F D z.k,F D z.n,F D z.t.k,L z.t.a z.t.l.length z.t.c,F D z.f.k,L z.f.a z.f.l.length z.f.c,L z.a z.l.length z.c])/\z.tm=Jd r.n r.y.tm r.i.ty u.ty/\z.In w'/\(∀Q:Nat->Prop,(∀b,w.heap.size<=b->Q b)->r.y.Bl Q->z.Bl Q)/\Zz w.heap.size w w'
theorem R3(r:Rd)(u:Tr)(w:Zi)(hu:u.In w)(hi:r.i.In w)(b:r.y.In w):CB w.heap.size r u (((w.alloc (Obj.cells #[F D r.n,F D r.y.k,F D r.y.n,F D r.y.t.k,L r.y.t.a r.y.t.l.length r.y.t.c,F D r.y.f.k,L r.y.f.a r.y.f.l.length r.y.f.c,L r.y.a r.y.l.length r.y.c,F D r.i.k,L r.i.a r.i.l.length r.i.c] 64)).alloc (Obj.cells #[F D u.k,L u.a u.l.length u.c] 24)).alloc (Obj.cells #[F D 0,F D 0,F D 0,L I 0 0,F D 0,L I 0 0,L I 0 0] 27))/\Zz w.heap.size w (((w.alloc (Obj.cells #[F D r.n,F D r.y.k,F D r.y.n,F D r.y.t.k,L r.y.t.a r.y.t.l.length r.y.t.c,F D r.y.f.k,L r.y.f.a r.y.f.l.length r.y.f.c,L r.y.a r.y.l.length r.y.c,F D r.i.k,L r.i.a r.i.l.length r.i.c] 64)).alloc (Obj.cells #[F D u.k,L u.a u.l.length u.c] 24)).alloc (Obj.cells #[F D 0,F D 0,F D 0,L I 0 0,F D 0,L I 0 0,L I 0 0] 27)):=by
 have a:bL w (((w.alloc (Obj.cells #[F D r.n,F D r.y.k,F D r.y.n,F D r.y.t.k,r.y.t.s,F D r.y.f.k,r.y.f.s,r.y.s,F D r.i.k,r.i.s] 64)).alloc (Obj.cells u.v 24)).alloc (Obj.cells #[F D 0,F D 0,F D 0,L I 0 0,F D 0,L I 0 0,L I 0 0] 27)):=(((Y _ _).alloc (Z _) _).alloc (by simp) _).alloc (by simp;omega) _;refine⟨⟨?_,?_,?_,?_,?_,?_,?_,?_,?_,?_,?_,?_,?_,?_,?_,?_,?_,?_,?_,?_,hu.below a,hi.below a,b.below a⟩,a⟩
 all_goals simp[go_sem]
theorem Wn(r:Rd)(u:Tr)(w:Zi)(hu:u.In w)(hi:r.i.In w)(hy:r.y.In w)(hh:r.i.hgt<=1000)(hs:r.i.sm)(hr:YC Yv r.i.ty u.ty=Zc):
  Zv Ze 109 #[Zo #[F D r.n,F D r.y.k,F D r.y.n,F D r.y.t.k,L r.y.t.a r.y.t.l.length r.y.t.c,F D r.y.f.k,L r.y.f.a r.y.f.l.length r.y.f.c,L r.y.a r.y.l.length r.y.c,F D r.i.k,L r.i.a r.i.l.length r.i.c],Zo #[F D u.k,L u.a u.l.length u.c]] w (Sk r u w):=by
 obtain⟨j,l⟩:=R3 r u w hu hi hy;obtain⟨W0,c⟩:∃W0,W0=((w.alloc (Obj.cells #[F D r.n,F D r.y.k,F D r.y.n,F D r.y.t.k,r.y.t.s,F D r.y.f.k,r.y.f.s,r.y.s,F D r.i.k,r.i.s] 64)).alloc (Obj.cells u.v 24)).alloc (Obj.cells #[F D 0,F D 0,F D 0,L I 0 0,F D 0,L I 0 0,L I 0 0] 27):=⟨_,rfl⟩
 rw[<-c] at j l;have HS:Zr (Zv Ze 147 #[Zo r.i.v,Zo u.v] W0 fun e w'=>e=Zj (.bool Zc)/\bL W0 w'):=by have:=KY r.i u W0 j.ii j.iu hh hs;rw[hr] at this;exact this
 have o:=Un j l;have HT:Zr (Jd r.n r.y.tm r.i.ty u.ty=r.y.tm):=by simp[Zr,Jd,hr]
 have HY:=Yx hy.bl;clear j l hu hi hy hh hs hr;go_enter func109,ntmps109;go_wp2_with fail;rw[<-c];clear c;refine HS.out.mono ?_;rintro e k ⟨rfl,z⟩;have a:=o.out.1.below z;have lz:w.heap.size+1+1<k.heap.size:=Zm _ _ a.z0;have d:=o.out.2.trans (z.mono o.out.2.size);have g:Xw k (w.heap.size+1+1) (YJ 0 0):=⟨⟨a.z0,a.z1,a.z2,a.z3,a.z4,a.z5,a.z6⟩,fun i _=>a.fz i⟩
 have h7:=(XH (x:=r.y) g).at7;obtain⟨p,e1,e2,e3,e4,q,y⟩:=h7;have HE:Zr (r.y.In (Y5 k (w.heap.size+1+1) r.y)/\bL w (Y5 k (w.heap.size+1+1) r.y)):=by refine⟨?_,d.trans ((YF (x:=r.y)).below (by simp) (by omega) |>.mono (by omega))⟩;exact a.iy.keptR YF (HY.out.mono fun b l=>by omega)
 simp only[Zh] at p e1 e2 e3 e4 q y;obtain⟨p0,p1,p2,p3,p4,p5,p6,p7,p8,p9,u0,u1,z0,z1,z2,z3,z4,z5,z6,fz,_,_,_⟩:=a;have f0:=fz 0;have f1:=fz 1;have f2:=fz 2;have f3:=fz 3;have f4:=fz 4;have f5:=fz 5;have f6:=fz 6;clear z HS o g d fz;go_wp2_with fail;refine Zw (v:=Zo r.y.v) ?_ rfl ⟨r.y,rfl,HT.out.symm,HE.out.1,fun Q _ h=>h,HE.out.2⟩;unfold Y5 at p e1 e2 e3 e4 q y;simp[results,ZH,go_sem,p,e1,e2,e3,e4,q,y]
theorem OS(r:Rd)(u:Tr)(w W:Zi)(G:Nat)(t f:Tr)(c:Zz w.heap.size w W)(a:CB w.heap.size r u W)(hG:w.heap.size+1+1<G)(h7:X4 W G 0 r.y)(ht:t.In W)(q:f.In W)(p:t.Bl (w.heap.size+1+1<·))(o:f.Bl (w.heap.size+1+1<·))(e:r.y.Bl (·<w.heap.size))(et:t.ty=u.ty)(z:f.ty=r.i.ty)(hr:YC Yv r.i.ty u.ty=Zq):
  Sk r u w (Zj (Zo #[F D 10,F D r.n,F D t.k,L t.a t.l.length t.c,F D f.k,L f.a f.l.length f.c,L (Za ⟨G,0,I⟩) 1 1])) (Y5 W (w.heap.size+1+1) ⟨10,r.n,t,f,Za ⟨G,0,I⟩,1,[r.y]⟩)/\
   X4 (Y5 W (w.heap.size+1+1) ⟨10,r.n,t,f,Za ⟨G,0,I⟩,1,[r.y]⟩) (w.heap.size+1+1) 0 ⟨10,r.n,t,f,Za ⟨G,0,I⟩,1,[r.y]⟩:=by
 have d:=YF (w:=W) (J:=w.heap.size+1+1) (x:=⟨10,r.n,t,f,Za ⟨G,0,I⟩,1,[r.y]⟩);have k:Xw W (w.heap.size+1+1) (YJ 0 0):=⟨⟨a.z0,a.z1,a.z2,a.z3,a.z4,a.z5,a.z6⟩,fun i _=>a.fz i⟩
 refine⟨⟨⟨10,r.n,t,f,Za ⟨G,0,I⟩,1,[r.y]⟩,rfl,?_,?_,fun Q g l=>?_,?_⟩,(XH k).at7⟩
 .rw[TT.tm_mk,et,z];simp[Jd,hr]
 .refine TT.In_mk.2 ⟨ht.keptR d (p.mono fun b c=>by omega),q.keptR d (o.mono fun b c=>by omega),fun j hj=>?_,fun x h=>?_⟩
  .have hj0:j=0:=by simpa using hj
   subst hj0;exact⟨G,0,rfl,by simpa using h7.keptR d (by omega)⟩
  .have:x=r.y:=by simpa using h
   subst this;exact a.iy.keptR d (e.mono fun b c=>by omega)
 .refine TT.Bl_mk.2 ⟨p.mono fun b c=>g b (by omega),o.mono fun b c=>g b (by omega),fun _ y e=>by cases e;exact g G (by omega),fun x h=>?_⟩;have:x=r.y:=by simpa using h
  subst this;exact l
 .have lz:w.heap.size+1+1<W.heap.size:=Zm _ _ a.z0;exact c.trans ((d.below (by simp) (by omega)).mono (by omega))
theorem Qn(W:Zi)(r:Rd):X4 (W.alloc (Zn #[F D r.y.k,F D r.y.n,F D r.y.t.k,L r.y.t.a r.y.t.l.length r.y.t.c,F D r.y.f.k,L r.y.f.a r.y.f.l.length r.y.f.c,L r.y.a r.y.l.length r.y.c] 27)) W.heap.size 0 r.y:=by
 refine⟨?_,?_,?_,?_,?_,?_,?_⟩
 all_goals simp[go_sem]
theorem Wo(r:Rd)(u:Tr)(w:Zi)(hu:u.In w)(hi:r.i.In w)(hy:r.y.In w)(hh:r.i.hgt<=1000)(hs:r.i.sm)(ri:r.i.right)(ru:u.right)(hhu:u.hgt<=1000)(hr:YC Yv r.i.ty u.ty=Zq):
  Zv Ze 109 #[Zo #[F D r.n,F D r.y.k,F D r.y.n,F D r.y.t.k,L r.y.t.a r.y.t.l.length r.y.t.c,F D r.y.f.k,L r.y.f.a r.y.f.l.length r.y.f.c,L r.y.a r.y.l.length r.y.c,F D r.i.k,L r.i.a r.i.l.length r.i.c],Zo #[F D u.k,L u.a u.l.length u.c]] w (Sk r u w):=by
 obtain⟨i,hb⟩:=R3 r u w hu hi hy;obtain⟨W0,aw⟩:∃W0,W0=((w.alloc (Obj.cells #[F D r.n,F D r.y.k,F D r.y.n,F D r.y.t.k,r.y.t.s,F D r.y.f.k,r.y.f.s,r.y.s,F D r.i.k,r.i.s] 64)).alloc (Obj.cells u.v 24)).alloc (Obj.cells #[F D 0,F D 0,F D 0,L I 0 0,F D 0,L I 0 0,L I 0 0] 27):=⟨_,rfl⟩
 rw[<-aw] at i hb;have HS:Zr (Zv Ze 147 #[Zo r.i.v,Zo u.v] W0 fun e w'=>e=Zj (.bool Zq)/\bL W0 w'):=by have:=KY r.i u W0 i.ii i.iu hh hs;rw[hr] at this;exact this
 have HB:=Un i hb;have HR:=Yx hr;have HY:=Yx hy.bl;have HC:Zr (∀(Wc W':Zi)(q:Tr),CB w.heap.size r u Wc->bL w Wc->(W'=Wc\/∃X,W'=Wc.alloc X)->(q=u\/q=r.i)->Zv Ze 42 #[Zo q.v] W' fun e l=>∃t:Tr,e=Zj (Zo t.v)/\t.ty=q.ty/\t.In l/\t.Bl (w.heap.size+1+1<·)/\CB w.heap.size r u l/\bL w l/\bL W' l/\bL Wc l):=by
  intro Wc W' q h1 h2 h3 h4;have h5:bL Wc W':=by
   rcases h3 with rfl|⟨X,rfl⟩
   .exact Y _ _
   .exact(Y _ _).alloc (Z _) _
  have h6:=h1.below h5;have lz:w.heap.size+1+1<W'.heap.size:=Zm _ _ h6.z0;have hq:q.In W'/\q.right/\q.hgt<=1000:=by
   rcases h4 with rfl|rfl
   .exact⟨h6.iu,ru,hhu⟩
   .exact⟨h6.ii,ri,hh⟩
  refine(M3 q W' hq.1 hq.2.1 hq.2.2).mono ?_;rintro e l ⟨t,rfl,ht,b4,b2,ao⟩;exact⟨t,rfl,ht,b4,b2.mono fun b hb=>by omega,h6.below ao,(h2.trans (h5.mono h2.size)).trans (ao.mono (by omega)),ao,h5.trans (ao.mono h5.size)⟩
 clear i hb hu hi hy hh hs hr ri ru hhu;go_enter func109,ntmps109;go_wp2_with fail;rw[<-aw];clear aw;refine HS.out.mono ?_;rintro e l ⟨rfl,h1⟩;have d:=HB.out.1.below h1.drew;have g:=Un d ((HB.out.2.trans (h1.mono HB.out.2.size)).drew);have HK:Zr (∀w',CB w.heap.size r u w'->cL w' w.heap.size 0 (F D r.n)/\cL w' w.heap.size 1 (F D r.y.k)/\cL w' w.heap.size 2 (F D r.y.n)/\cL w' w.heap.size 3 (F D r.y.t.k)/\cL w' w.heap.size 4 (r.y.t.s)/\cL w' w.heap.size 5 (F D r.y.f.k)/\cL w' w.heap.size 6 (r.y.f.s)/\cL w' w.heap.size 7 (r.y.s)/\cL w' w.heap.size 8 (F D r.i.k)/\cL w' w.heap.size 9 (r.i.s)/\cL w' (w.heap.size+1) 0 (F D u.k)/\cL w' (w.heap.size+1) 1 (u.s)):=fun w' h=>⟨h.p0,h.p1,h.p2,h.p3,h.p4,h.p5,h.p6,h.p7,h.p8,h.p9,h.u0,h.u1⟩
 have az:Zr (∀w' X,CB w.heap.size r u w'->CB w.heap.size r u (w'.alloc X)):=fun w' X h=>h.below ((Y _ _).alloc (Z _) X);have HL:Zr (w.heap.size+1+1<l.heap.size/\w.heap.size+1+1<l.drew.heap.size):=by have h:w.heap.size+1+1<l.drew.heap.size:=Zm _ _ g.out.1.z0;exact⟨h,h⟩
 have b1:Zr (∀X,CB w.heap.size r u (l.alloc X).drew):=fun X=>g.out.1.below ((Y _ _).alloc (Z _) X);have ax:Zr (∀w' a0 a1 a2 a3 a4 y a6,CB w.heap.size r u w'->cL (((((((w'.setCell ⟨w.heap.size+1+1,0,I⟩ a0).setCell ⟨w.heap.size+1+1,1,I⟩ a1).setCell ⟨w.heap.size+1+1,2,I⟩ a2).setCell ⟨w.heap.size+1+1,3,I⟩ a3).setCell ⟨w.heap.size+1+1,4,I⟩ a4).setCell ⟨w.heap.size+1+1,5,I⟩ y).setCell ⟨w.heap.size+1+1,6,I⟩ a6) w.heap.size 0 (F D r.n)/\cL (((((((w'.setCell ⟨w.heap.size+1+1,0,I⟩ a0).setCell ⟨w.heap.size+1+1,1,I⟩ a1).setCell ⟨w.heap.size+1+1,2,I⟩ a2).setCell ⟨w.heap.size+1+1,3,I⟩ a3).setCell ⟨w.heap.size+1+1,4,I⟩ a4).setCell ⟨w.heap.size+1+1,5,I⟩ y).setCell ⟨w.heap.size+1+1,6,I⟩ a6) w.heap.size 1 (F D r.y.k)/\cL (((((((w'.setCell ⟨w.heap.size+1+1,0,I⟩ a0).setCell ⟨w.heap.size+1+1,1,I⟩ a1).setCell ⟨w.heap.size+1+1,2,I⟩ a2).setCell ⟨w.heap.size+1+1,3,I⟩ a3).setCell ⟨w.heap.size+1+1,4,I⟩ a4).setCell ⟨w.heap.size+1+1,5,I⟩ y).setCell ⟨w.heap.size+1+1,6,I⟩ a6) w.heap.size 2 (F D r.y.n)/\cL (((((((w'.setCell ⟨w.heap.size+1+1,0,I⟩ a0).setCell ⟨w.heap.size+1+1,1,I⟩ a1).setCell ⟨w.heap.size+1+1,2,I⟩ a2).setCell ⟨w.heap.size+1+1,3,I⟩ a3).setCell ⟨w.heap.size+1+1,4,I⟩ a4).setCell ⟨w.heap.size+1+1,5,I⟩ y).setCell ⟨w.heap.size+1+1,6,I⟩ a6) w.heap.size 3 (F D r.y.t.k)/\cL (((((((w'.setCell ⟨w.heap.size+1+1,0,I⟩ a0).setCell ⟨w.heap.size+1+1,1,I⟩ a1).setCell ⟨w.heap.size+1+1,2,I⟩ a2).setCell ⟨w.heap.size+1+1,3,I⟩ a3).setCell ⟨w.heap.size+1+1,4,I⟩ a4).setCell ⟨w.heap.size+1+1,5,I⟩ y).setCell ⟨w.heap.size+1+1,6,I⟩ a6) w.heap.size 4 (r.y.t.s)/\cL (((((((w'.setCell ⟨w.heap.size+1+1,0,I⟩ a0).setCell ⟨w.heap.size+1+1,1,I⟩ a1).setCell ⟨w.heap.size+1+1,2,I⟩ a2).setCell ⟨w.heap.size+1+1,3,I⟩ a3).setCell ⟨w.heap.size+1+1,4,I⟩ a4).setCell ⟨w.heap.size+1+1,5,I⟩ y).setCell ⟨w.heap.size+1+1,6,I⟩ a6) w.heap.size 5 (F D r.y.f.k)/\cL (((((((w'.setCell ⟨w.heap.size+1+1,0,I⟩ a0).setCell ⟨w.heap.size+1+1,1,I⟩ a1).setCell ⟨w.heap.size+1+1,2,I⟩ a2).setCell ⟨w.heap.size+1+1,3,I⟩ a3).setCell ⟨w.heap.size+1+1,4,I⟩ a4).setCell ⟨w.heap.size+1+1,5,I⟩ y).setCell ⟨w.heap.size+1+1,6,I⟩ a6) w.heap.size 6 (r.y.f.s)/\cL (((((((w'.setCell ⟨w.heap.size+1+1,0,I⟩ a0).setCell ⟨w.heap.size+1+1,1,I⟩ a1).setCell ⟨w.heap.size+1+1,2,I⟩ a2).setCell ⟨w.heap.size+1+1,3,I⟩ a3).setCell ⟨w.heap.size+1+1,4,I⟩ a4).setCell ⟨w.heap.size+1+1,5,I⟩ y).setCell ⟨w.heap.size+1+1,6,I⟩ a6) w.heap.size 7 (r.y.s)/\cL (((((((w'.setCell ⟨w.heap.size+1+1,0,I⟩ a0).setCell ⟨w.heap.size+1+1,1,I⟩ a1).setCell ⟨w.heap.size+1+1,2,I⟩ a2).setCell ⟨w.heap.size+1+1,3,I⟩ a3).setCell ⟨w.heap.size+1+1,4,I⟩ a4).setCell ⟨w.heap.size+1+1,5,I⟩ y).setCell ⟨w.heap.size+1+1,6,I⟩ a6) w.heap.size 8 (F D r.i.k)/\cL (((((((w'.setCell ⟨w.heap.size+1+1,0,I⟩ a0).setCell ⟨w.heap.size+1+1,1,I⟩ a1).setCell ⟨w.heap.size+1+1,2,I⟩ a2).setCell ⟨w.heap.size+1+1,3,I⟩ a3).setCell ⟨w.heap.size+1+1,4,I⟩ a4).setCell ⟨w.heap.size+1+1,5,I⟩ y).setCell ⟨w.heap.size+1+1,6,I⟩ a6) w.heap.size 9 (r.i.s)/\cL (((((((w'.setCell ⟨w.heap.size+1+1,0,I⟩ a0).setCell ⟨w.heap.size+1+1,1,I⟩ a1).setCell ⟨w.heap.size+1+1,2,I⟩ a2).setCell ⟨w.heap.size+1+1,3,I⟩ a3).setCell ⟨w.heap.size+1+1,4,I⟩ a4).setCell ⟨w.heap.size+1+1,5,I⟩ y).setCell ⟨w.heap.size+1+1,6,I⟩ a6) (w.heap.size+1) 0 (F D u.k)/\cL (((((((w'.setCell ⟨w.heap.size+1+1,0,I⟩ a0).setCell ⟨w.heap.size+1+1,1,I⟩ a1).setCell ⟨w.heap.size+1+1,2,I⟩ a2).setCell ⟨w.heap.size+1+1,3,I⟩ a3).setCell ⟨w.heap.size+1+1,4,I⟩ a4).setCell ⟨w.heap.size+1+1,5,I⟩ y).setCell ⟨w.heap.size+1+1,6,I⟩ a6) (w.heap.size+1) 1 (u.s)):=by
  intro w' a0 a1 a2 a3 a4 y a6 h;have n0:w.heap.size≠w.heap.size+1+1:=by omega
  have i:∀b o,b≠w.heap.size+1+1->(((((((w'.setCell ⟨w.heap.size+1+1,0,I⟩ a0).setCell ⟨w.heap.size+1+1,1,I⟩ a1).setCell ⟨w.heap.size+1+1,2,I⟩ a2).setCell ⟨w.heap.size+1+1,3,I⟩ a3).setCell ⟨w.heap.size+1+1,4,I⟩ a4).setCell ⟨w.heap.size+1+1,5,I⟩ y).setCell ⟨w.heap.size+1+1,6,I⟩ a6).cell? ⟨b,o,I⟩=w'.cell? ⟨b,o,I⟩:=by intro b o hb;rw[Zp _ _ _ _ (by simp),Zp _ _ _ _ (by simp),Zp _ _ _ _ (by simp),Zp _ _ _ _ (by simp),Zp _ _ _ _ (by simp),Zp _ _ _ _ (by simp),Zp _ _ _ _ (by simp)]
  have n1:w.heap.size+1≠w.heap.size+1+1:=by omega
  exact⟨(i _ _ n0).trans h.p0,(i _ _ n0).trans h.p1,(i _ _ n0).trans h.p2,(i _ _ n0).trans h.p3,(i _ _ n0).trans h.p4,(i _ _ n0).trans h.p5,(i _ _ n0).trans h.p6,(i _ _ n0).trans h.p7,(i _ _ n0).trans h.p8,(i _ _ n0).trans h.p9,(i _ _ n1).trans h.u0,(i _ _ n1).trans h.u1⟩
 have z0:=d.z0;have z1:=d.z1;have z2:=d.z2;have z3:=d.z3;have z4:=d.z4;have z5:=d.z5;have z6:=d.z6;have ab:=fun X=>(CB.below d ((Y _ _).alloc (Z _) X)).z0;have an:=fun X=>(CB.below d ((Y _ _).alloc (Z _) X)).z1;have ac:=fun X=>(CB.below d ((Y _ _).alloc (Z _) X)).z2;have a7:=fun X=>(CB.below d ((Y _ _).alloc (Z _) X)).z3;have ae:=fun X=>(CB.below d ((Y _ _).alloc (Z _) X)).z4;have ak:=fun X=>(CB.below d ((Y _ _).alloc (Z _) X)).z5;have ai:=fun X=>(CB.below d ((Y _ _).alloc (Z _) X)).z6;have f0:=d.fz 0;have f1:=d.fz 1;have f2:=d.fz 2;have f3:=d.fz 3;have f4:=d.fz 4;have f5:=d.fz 5;have f6:=d.fz 6;have af:=fun X=>(CB.below d ((Y _ _).alloc (Z _) X)).fz 0;have ad:=fun X=>(CB.below d ((Y _ _).alloc (Z _) X)).fz 1;have aa:=fun X=>(CB.below d ((Y _ _).alloc (Z _) X)).fz 2;have am:=fun X=>(CB.below d ((Y _ _).alloc (Z _) X)).fz 3;have a8:=fun X=>(CB.below d ((Y _ _).alloc (Z _) X)).fz 4;have aj:=fun X=>(CB.below d ((Y _ _).alloc (Z _) X)).fz 5;have ah:=fun X=>(CB.below d ((Y _ _).alloc (Z _) X)).fz 6;obtain⟨p0,p1,p2,p3,p4,p5,p6,p7,p8,p9,u0,u1,_,_,_,_,_,_,_,fz,_,_,_⟩:=id d;clear h1 HS HB d fz;go_wp2_with fail;clear p0 p1 p2 p3 p4 p5 p6 p7 p8 p9 u0 u1;go_region_held3 (fun w'=>cL w' w.heap.size 0 (F D r.n)/\cL w' w.heap.size 1 (F D r.y.k)/\cL w' w.heap.size 2 (F D r.y.n)/\cL w' w.heap.size 3 (F D r.y.t.k)/\cL w' w.heap.size 4 (r.y.t.s)/\cL w' w.heap.size 5 (F D r.y.f.k)/\cL w' w.heap.size 6 (r.y.f.s)/\cL w' w.heap.size 7 (r.y.s)/\cL w' w.heap.size 8 (F D r.i.k)/\cL w' w.heap.size 9 (r.i.s)/\cL w' (w.heap.size+1) 0 (F D u.k)/\cL w' (w.heap.size+1) 1 (u.s))
  (first|(with_reducible exact HK.out _ g.out.1)|(with_reducible exact HK.out _ (az.out _ _ g.out.1))|(with_reducible exact HK.out _ (b1.out _))|(with_reducible exact ax.out _ _ _ _ _ _ _ _ g.out.1)|(with_reducible exact ax.out _ _ _ _ _ _ _ _ (az.out _ _ g.out.1)))
  (first
   |(go_at_call 42;refine(HC.out _ _ u g.out.1 g.out.2 (by first|(with_reducible exact .inl rfl)|(with_reducible exact .inr ⟨_,rfl⟩)|exact .inr ⟨_,rfl⟩) (by first|(with_reducible exact .inl rfl)|(with_reducible exact .inr rfl))).mono ?_;rintro e wU ⟨tU,rfl,ay,j,al,a,ar,b3,ap⟩;(try (replace k:=k.below ap));replace g:Zr (CB w.heap.size r u wU/\bL w wU):=⟨a,ar⟩;replace z0:=a.z0;replace z1:=a.z1;replace z2:=a.z2;replace z3:=a.z3;replace z4:=a.z4;replace z5:=a.z5;replace z6:=a.z6;replace ab:=fun X=>(CB.below a ((Y _ _).alloc (Z _) X)).z0;replace an:=fun X=>(CB.below a ((Y _ _).alloc (Z _) X)).z1;replace ac:=fun X=>(CB.below a ((Y _ _).alloc (Z _) X)).z2;replace a7:=fun X=>(CB.below a ((Y _ _).alloc (Z _) X)).z3;replace ae:=fun X=>(CB.below a ((Y _ _).alloc (Z _) X)).z4;replace ak:=fun X=>(CB.below a ((Y _ _).alloc (Z _) X)).z5;replace ai:=fun X=>(CB.below a ((Y _ _).alloc (Z _) X)).z6;replace f0:=a.fz 0;replace f1:=a.fz 1;replace f2:=a.fz 2;replace f3:=a.fz 3;replace f4:=a.fz 4;replace f5:=a.fz 5;replace f6:=a.fz 6;replace af:=fun X=>(CB.below a ((Y _ _).alloc (Z _) X)).fz 0;replace ad:=fun X=>(CB.below a ((Y _ _).alloc (Z _) X)).fz 1;replace aa:=fun X=>(CB.below a ((Y _ _).alloc (Z _) X)).fz 2;replace am:=fun X=>(CB.below a ((Y _ _).alloc (Z _) X)).fz 3;replace a8:=fun X=>(CB.below a ((Y _ _).alloc (Z _) X)).fz 4;replace aj:=fun X=>(CB.below a ((Y _ _).alloc (Z _) X)).fz 5;replace ah:=fun X=>(CB.below a ((Y _ _).alloc (Z _) X)).fz 6;clear a ar)
   |(go_at_call 42;refine(HC.out _ _ r.i g.out.1 g.out.2 (by first|(with_reducible exact .inl rfl)|(with_reducible exact .inr ⟨_,rfl⟩)|exact .inr ⟨_,rfl⟩) (by first|(with_reducible exact .inl rfl)|(with_reducible exact .inr rfl))).mono ?_;rintro e wI ⟨tI,rfl,av,k,a9,c,au,b0,aq⟩;(try (replace j:=j.below aq));replace g:Zr (CB w.heap.size r u wI/\bL w wI):=⟨c,au⟩;replace z0:=c.z0;replace z1:=c.z1;replace z2:=c.z2;replace z3:=c.z3;replace z4:=c.z4;replace z5:=c.z5;replace z6:=c.z6;replace ab:=fun X=>(CB.below c ((Y _ _).alloc (Z _) X)).z0;replace an:=fun X=>(CB.below c ((Y _ _).alloc (Z _) X)).z1;replace ac:=fun X=>(CB.below c ((Y _ _).alloc (Z _) X)).z2;replace a7:=fun X=>(CB.below c ((Y _ _).alloc (Z _) X)).z3;replace ae:=fun X=>(CB.below c ((Y _ _).alloc (Z _) X)).z4;replace ak:=fun X=>(CB.below c ((Y _ _).alloc (Z _) X)).z5;replace ai:=fun X=>(CB.below c ((Y _ _).alloc (Z _) X)).z6;replace f0:=c.fz 0;replace f1:=c.fz 1;replace f2:=c.fz 2;replace f3:=c.fz 3;replace f4:=c.fz 4;replace f5:=c.fz 5;replace f6:=c.fz 6;replace af:=fun X=>(CB.below c ((Y _ _).alloc (Z _) X)).fz 0;replace ad:=fun X=>(CB.below c ((Y _ _).alloc (Z _) X)).fz 1;replace aa:=fun X=>(CB.below c ((Y _ _).alloc (Z _) X)).fz 2;replace am:=fun X=>(CB.below c ((Y _ _).alloc (Z _) X)).fz 3;replace a8:=fun X=>(CB.below c ((Y _ _).alloc (Z _) X)).fz 4;replace aj:=fun X=>(CB.below c ((Y _ _).alloc (Z _) X)).fz 5;replace ah:=fun X=>(CB.below c ((Y _ _).alloc (Z _) X)).fz 6;clear c au))
 all_goals
  have hE:=g.out
  have s0:=HL.out
  have s1:=ap.size
  have s2:=aq.size
  clear HK az ax b1 HC
 .have hA:bL wI (wI.alloc (Zn r.y.v 27)):=(Y _ _).alloc (Z _) _;have HX:Zr _:=OS r u w _ wI.heap.size tU tI (hE.2.trans (hA.mono hE.2.size)) (hE.1.below hA) (by omega) (Qn wI r) (j.below hA) (k.below hA) al a9 HY.out ay av HR.out;clear z0 z1 z2 z3 z4 z5 z6 f0 f1 f2 f3 f4 f5 f6 ab an ac a7 ae ak ai af ad aa am a8 aj ah;go_wp2_with fail;refine Zw (v:=Zo #[F D 10,F D r.n,F D tU.k,tU.s,F D tI.k,tI.s,L (Za ⟨wI.heap.size,0,I⟩) 1 1]) ?_ rfl HX.out.1;obtain⟨p,e1,z,e3,e4,x,e6⟩:=HX.out.2;simp only[Zh] at p e1 z e3 e4 x e6;unfold Y5 at p e1 z e3 e4 x e6;simp only[ZG,ZS,Zh] at p e1 z e3 e4 x e6;simp[results,ZH,go_sem,p,e1,z,e3,e4,x,e6]
 .have HX:Zr _:=OS r u w wI wU.heap.size tU tI hE.2 hE.1 (by omega) ((Qn wU r).below b0) j k al a9 HY.out ay av HR.out;clear z0 z1 z2 z3 z4 z5 z6 f0 f1 f2 f3 f4 f5 f6 ab an ac a7 ae ak ai af ad aa am a8 aj ah;go_wp2_with fail;refine Zw (v:=Zo #[F D 10,F D r.n,F D tU.k,tU.s,F D tI.k,tI.s,L (Za ⟨wU.heap.size,0,I⟩) 1 1]) ?_ rfl HX.out.1;obtain⟨p,e1,z,e3,e4,x,e6⟩:=HX.out.2;simp only[Zh] at p e1 z e3 e4 x e6;unfold Y5 at p e1 z e3 e4 x e6;simp only[ZG,ZS,Zh] at p e1 z e3 e4 x e6;simp[results,ZH,go_sem,p,e1,z,e3,e4,x,e6]
 .have HX:Zr _:=OS r u w wI l.heap.size tU tI hE.2 hE.1 (by omega) (((show X4 (l.alloc (Zn r.y.v 27)).drew l.heap.size 0 r.y from (Qn l r).below ((Y _ _).drew)).below b3).below b0) j k al a9 HY.out ay av HR.out;clear z0 z1 z2 z3 z4 z5 z6 f0 f1 f2 f3 f4 f5 f6 ab an ac a7 ae ak ai af ad aa am a8 aj ah;go_wp2_with fail;refine Zw (v:=Zo #[F D 10,F D r.n,F D tU.k,tU.s,F D tI.k,tI.s,L (Za ⟨l.heap.size,0,I⟩) 1 1]) ?_ rfl HX.out.1;obtain⟨p,e1,z,e3,e4,x,e6⟩:=HX.out.2;simp only[Zh] at p e1 z e3 e4 x e6;unfold Y5 at p e1 z e3 e4 x e6;simp only[ZG,ZS,Zh] at p e1 z e3 e4 x e6;simp[results,ZH,go_sem,p,e1,z,e3,e4,x,e6]
theorem Df(n:Nat)(g:n<=1000)(w:Zi):(Instr.makeSlice 22 (F D (n:Int)) (F D (n:Int))).run Ze w=.ok (L (Za ⟨w.heap.size,0,I⟩) n n) (w.alloc (Zn (Z5 #[F D 0,L I 0 0] (n*2)) 24)):=by obtain⟨e,d,b,c,a⟩:=info_parts Tryz.info24;have h:=run_make (P:=Ze) w 22 24 e _ ZN d b D D (n:Int) (n:Int) (by omega) (by omega) (by rw[a];omega) (by omega);rw[h,c];rfl
structure Nz(w:Zi)(g:Nat)(rs:List Rd)(j:Nat)(wr:Zi):Prop where
 bel:Zz w.heap.size w wr
 is:∀q(h:q<rs.length),q<j->wr.cell? ⟨g,q*2,I⟩=Za (F D rs[q].i.k)/\wr.cell? ⟨g,q*2+1,I⟩=Za (L rs[q].i.a rs[q].i.l.length rs[q].i.c)
 any:∀i,i<rs.length*2->∃v,wr.cell? ⟨g,i,I⟩=Za v
 fz:∀i,wr.frozen? ⟨g,i,I⟩=Zq
theorem Nz.start(w:Zi)(a:List Rd):Nz w w.heap.size a 0 (w.alloc (Zn (Z5 #[F D 0,L I 0 0] (a.length*2)) 24)):=by
 refine⟨(Y _ _).alloc (Z _) _,fun q _ h=>absurd h (by omega),fun i hi=>?_,fun i=>by simp[go_sem]⟩;have b:i<(Z5 #[F D 0,L I 0 0] (a.length*2)).size:=by rw[size_madeCells];exact hi
 refine⟨(Z5 #[F D 0,L I 0 0] (a.length*2))[i],?_⟩;simp[go_sem,b]
theorem Nz.step{wr:Zi}{j:Nat}{rs:List Rd}(h:Nz w g rs j wr)(k:w.heap.size<=g)(b:g<wr.heap.size)(z:j<rs.length)(X:Obj):
  Nz w g rs (j+1) (((wr.alloc X).setCell ⟨g,j*2,I⟩ (F D rs[j].i.k)).setCell ⟨g,j*2+1,I⟩ (L rs[j].i.a rs[j].i.l.length rs[j].i.c)):=by
 have a:bL wr (wr.alloc X):=(Y _ _).alloc (Z _) _;refine⟨((h.bel.trans (a.mono h.bel.size)).setCell k _).setCell k _,fun q o l=>?_,fun i hi=>?_,fun i=>?_⟩
 .by_cases e:q=j
  .subst e;obtain⟨v0,c⟩:=h.any (q*2) (by omega);obtain⟨v1,d⟩:=h.any (q*2+1) (by omega);constructor
   .simpa using Yp (j:=q*2+1) (v:=rs[q].i.s) (Yp (j:=q*2) (v:=F D rs[q].i.k) (Zd a c))
   .simpa using Yp (j:=q*2+1) (v:=rs[q].i.s) (Yp (j:=q*2) (v:=F D rs[q].i.k) (Zd a d))
  .obtain⟨c0,c1⟩:=h.is q o (by omega);have u:q*2≠j*2:=by omega
   have r:q*2≠j*2+1:=by omega
   have x:q*2+1≠j*2:=by omega
   have y:q*2+1≠j*2+1:=by omega
   constructor
   .have:=Yp (j:=j*2+1) (v:=rs[j].i.s) (Yp (j:=j*2) (v:=F D rs[j].i.k) (Zd a c0));rw[if_neg r,if_neg u] at this;exact this
   .have:=Yp (j:=j*2+1) (v:=rs[j].i.s) (Yp (j:=j*2) (v:=F D rs[j].i.k) (Zd a c1));rw[if_neg y,if_neg x] at this;exact this
 .obtain⟨v,hv⟩:=h.any i hi;exact⟨_,Yp (j:=j*2+1) (v:=rs[j].i.s) (Yp (j:=j*2) (v:=F D rs[j].i.k) (Zd a hv))⟩
 .have:=(a.frozen (p:=⟨g,i,I⟩) b).trans (h.fz i);simpa using this
theorem QJ(d:List Rd)(a:Option ZM)(c:Nat)(w:Zi)(l:RL w a d)(h3:d.length<=1000):
  Zv Ze 68 #[L a d.length c] w fun e w'=>∃T:Tr,e=Zj (L T.a T.l.length T.c)/\T.l=d.map (fun r=>r.i)/\T.In w'/\(∀y,T.a=Za y->w.heap.size<=y.block)/\Zz w.heap.size w w':=by
 have a2:=Df d.length h3;have HR:=Yx l;have HT:=Yx (Nz.start w d);clear l;go_enter func68,ntmps68;go_wp2_with fail;go_loopg [11] d.length (fun g i wr=>∃(j:Nat),g+j=d.length/\i=F D (j:Int)/\Zr (Nz w w.heap.size d j wr/\w.heap.size<wr.heap.size))
 case atStart=>exact⟨0,by omega,rfl,HT.out,by simp⟩
 case round=>
  obtain⟨j,hj,rfl,h⟩:=hrel;by_cases hlt:j<d.length
  .obtain⟨b,o,ea,h10,hy,hi⟩:=HR.out j hlt;have hb:=h.out.1.bel;have x:=h10.below hb;obtain⟨d0,⟨d1,d2,d3,d4,d5,d6,d7⟩,d8,d9⟩:=x;have i1:(j:Int)<(d.length:Int):=by omega
   have i0:(0:Int)<=(j:Int):=by omega
   have a0:=Yx ea;rw[ea];have k:∀X,bL wr (wr.alloc X):=fun X=>(Y _ _).alloc (Z _) _;obtain⟨x0,a1⟩:=h.out.1.any (j*2) (by omega);obtain⟨x1,z⟩:=h.out.1.any (j*2+1) (by omega);have v0:=fun X=>Zd (k X) a1;have v1:=fun X=>Zd (k X) z;have vf:∀X i,(wr.alloc X).frozen? ⟨w.heap.size,i,I⟩=Zq:=fun X i=>((k X).frozen (p:=⟨w.heap.size,i,I⟩) h.out.2).trans (h.out.1.fz i);have nw:wr.heap.size≠w.heap.size:=by have:=h.out.2;omega
   have HN:Zr (Nz w w.heap.size d (j+1) (((wr.alloc (Zn #[F D d[j].n,F D d[j].y.k,F D d[j].y.n,F D d[j].y.t.k,d[j].y.t.s,F D d[j].y.f.k,d[j].y.f.s,d[j].y.s,F D d[j].i.k,d[j].i.s] 64)).setCell ⟨w.heap.size,j*2,I⟩ (F D d[j].i.k)).setCell ⟨w.heap.size,j*2+1,I⟩ (d[j].i.s))/\w.heap.size<(((wr.alloc (Zn #[F D d[j].n,F D d[j].y.k,F D d[j].y.n,F D d[j].y.t.k,d[j].y.t.s,F D d[j].y.f.k,d[j].y.f.s,d[j].y.s,F D d[j].i.k,d[j].i.s] 64)).setCell ⟨w.heap.size,j*2,I⟩ (F D d[j].i.k)).setCell ⟨w.heap.size,j*2+1,I⟩ (d[j].i.s)).heap.size):=⟨h.out.1.step (Z _) h.out.2 hlt _,by have:=h.out.2;simp[World.setCell];omega⟩
   clear ea k hb h10 hy hi h HT;go_wp2_with fail;rw[<-a0.out];go_roundg (d.length-(j+1))
   case measure=>omega
   case rel=>exact⟨j+1,by omega,by go_num,HN⟩
  .have HE:=Yx h.out.1;have HJ:Zr (d.length<=j):=by exact Nat.le_of_not_lt hlt
   clear h;go_wp2_with fail;go_ret;refine⟨⟨0,Za ⟨w.heap.size,0,I⟩,d.length,d.map fun r=>r.i⟩,by simp,rfl,?_,fun y hy=>by cases hy;exact Z _,HE.out.bel⟩;refine Tr.In_mk.2 ⟨fun q u=>?_,fun t ht=>?_⟩
   .have hq':q<d.length:=by simpa using u
    obtain⟨c0,c1⟩:=HE.out.is q hq' (by have:=HJ.out;omega);exact⟨w.heap.size,0,rfl,by simpa using c0,by simpa[Tr.sl] using c1⟩
   .obtain⟨r,l,rfl⟩:=List.mem_map.1 ht;obtain⟨q,u,rfl⟩:=ZB l;obtain⟨_,_,_,_,_,hi⟩:=HR.out q u;exact hi.below HE.out.bel
theorem UR{rest:List Oper}{Q:Exit->Act->Zi->Prop}
  (hg:o.guard=I) (s x:Operand) (t:TypeId) (hop:o.op=Op.call { callee:=Callee.builtin Builtin.append,args:=#[s,x],argTypes:=#[t,t] })
  (e:TypeId) (i:TypeInfo) (h1:P.underlying t=Za (.slice e)) (h2:P.info? e=Za i)
  (b n cap:Nat) (hs:a.eval s=L (Za ⟨b,0,I⟩) n cap) (xa:Option ZM) (c:Nat) (hx:a.eval x=L xa 0 c) (hroom:n<=cap)
  (h:wpList P ops Q rest (a.put o.dst (L (Za ⟨b,0,I⟩) n cap)) w):wpList P ops Q (o::rest) a w:=by
 refine wpList_plain hg fun K k=>?_;have g:Src P i.size t (L xa 0 c) 0 [] w:=by
  cases xa with
  |none=>exact Src.ofNil w h1 c
  |some ad=>exact Src.ofSlice w h1 ad 0 c [] (by simp) (fun j u h=>by simp at h) (fun u h=>by cases h)
 have d:=run_append_room_src (P:=P) w t t o.type e i h1 h2 b 0 n cap (L xa 0 c) 0 [] g (by omega) (fun j h=>by simp at h) (fun j h=>by simp at h);unfold Oper.wp;simp only[execOp,hop,resolve,invoke,builtin,Sem.run_bind,Sem.run_pure,Result.andThen_ok,List.map_toArray,Zt,Z3,hs,hx,d];exact k _ _ h
theorem Lb:∀(l:List Tr)(q:Nat)(h:q<l.length),(cellsOf l)[q*2]?=Za (F D l[q].k)/\(cellsOf l)[q*2+1]?=Za (L l[q].a l[q].l.length l[q].c)
 |[],q,h=>by simp at h
 |x::r,0,_=>by simp[cellsOf]
 |x::r,q+1,h=>by
  have:=Lb r q (by simpa using h);have e:(q+1)*2=q*2+1+1:=by omega
  rw[e];simpa[cellsOf] using this
theorem Kf:∀(l:List Tr)(u:ZF),u∈cellsOf l->u.oneCell'=Zc
 |[],u,h=>by simp[cellsOf] at h
 |x::r,u,h=>by
  simp only[cellsOf,Zx] at h;rcases h with rfl|rfl|h
  .simp[ZX]
  .simp[ZX]
  .exact Kf r u h
theorem La{T:Tr}{o:Nat}(h:T.In w)(q:T.a=Za ⟨b,o,I⟩)(j:Nat)(u:ZF)(d:(cellsOf T.l)[j]?=Za u):w.cell? ((⟨b,o,I⟩:ZM).add j)=Za u:=by
 have p:j<T.l.length*2:=by have:=(List.getElem?_eq_some_iff.1 d).1;rwa [Ux] at this
 obtain⟨x,y,e,i,k,_⟩:=h.part (j / 2) (by omega);rw[q] at e;cases e
 obtain⟨c,g⟩:=Lb T.l (j / 2) (by omega);have a:(⟨b,o,I⟩:ZM).add j=⟨b,o+j,I⟩:=by
  unfold Addr.add;split
  .rename_i h;simp_all
  .rfl
 rcases Nat.mod_two_eq_zero_or_one j with l|l
 .have e:j / 2*2=j:=by omega
  rw[e] at c i;rw[d] at c;rw[Z8 c];rw[a];exact i
 .have e:j / 2*2+1=j:=by omega
  have r:o+j / 2*2+1=o+j:=by omega
  rw[e] at g;rw[r] at k;rw[d] at g;rw[Z8 g];rw[a];exact k
theorem JO{cap n:Nat}{l:List Tr}(h:w.ownsRow base 24 2 (L (Za ⟨g,0,I⟩) n cap) n (cellsOf l))(c:n=l.length)(a:∀t,t∈l->t.In w)(k:Int):(Tr.mk k (Za ⟨g,0,I⟩) cap l).In w:=by
 refine Tr.In_mk.2 ⟨fun j b=>⟨g,0,rfl,?_,?_⟩,a⟩
 .rw[h.cellAt _ (by omega)];simpa using(Lb l j b).1
 .rw[h.cellAt _ (by omega)];simpa[Tr.sl] using(Lb l j b).2
theorem Wp(x T:Tr)(w:Zi)(hx:x.In w)(hT:T.In w)(hl:T.l.length<=1000):
  Zv Ze 65 #[Zo #[F D x.k,L x.a x.l.length x.c],L T.a T.l.length T.c] w fun e w'=>∃N:Tr,e=Zj (L N.a N.l.length N.c)/\N.l=x::T.l/\N.In w'/\(∀y,N.a=Za y->w.heap.size<=y.block)/\Zz w.heap.size w w':=by
 obtain⟨i0,a2,a4,a5,a6⟩:=info_parts Tryz.info24;have c:bL w ((w.alloc (Zn x.v 24)).alloc (Zn x.v 24)):=((Y _ _).alloc (Z _) _).alloc (by simp) _;have d:((w.alloc (Zn x.v 24)).alloc (Zn x.v 24)).ownsRow (w.heap.size+1) 24 2 (L (Za ⟨w.heap.size+1,0,I⟩) 1 1) 1 (cellsOf [x]):=by have:=World.ownsRow_lit (base:=w.heap.size+1) (e:=24) (size:=2) (w.alloc (Zn x.v 24)) x.v 1 (by simp) (by unfold maxLen;omega) (by simp);simpa[cellsOf] using this
 by_cases h0:T.l.length=0
 .have hT0:=ZI h0;have HE:Zr ((Tr.mk 0 (Za ⟨w.heap.size+1,0,I⟩) 1 [x]).In ((w.alloc (Zn x.v 24)).alloc (Zn x.v 24))/\bL w ((w.alloc (Zn x.v 24)).alloc (Zn x.v 24))):=⟨JO d rfl (fun t r=>by have:t=x:=(by simpa using r);subst this;exact hx.below c) 0,c⟩
  rw[h0];clear d c hx hT hl;go_enter func65,ntmps65;go_wp2_with (at_builtin;refine UR rfl _ _ _ rfl 24 i0 ZN a2 (w.heap.size+1) 1 1 rfl T.a T.c rfl (by omega) ?_)
  go_ret;exact⟨_,rfl,by rw[hT0],HE.out.1,fun y hy=>by cases hy;show w.heap.size<=w.heap.size+1;omega,HE.out.2⟩
 .obtain⟨b,o,ea,_⟩:=hT.part 0 (by omega);have a0:=hT.below c;have i:=fun j u h=>La a0 ea j u h;have a1:Zr (∀t,t∈x::T.l->t.In ((w.alloc (Zn x.v 24)).alloc (Zn x.v 24))/\t.Bl (·<w.heap.size)):=by
   intro t r;rcases Zx.1 r with rfl|r
   .exact⟨hx.below c,hx.bl⟩
   .obtain⟨q,hq,rfl⟩:=ZB r;obtain⟨_,_,_,_,_,hi⟩:=hT.part q hq;exact⟨hi.below c,hi.bl⟩
  have hm:0<T.l.length:=by omega
  have HB:=Yx c;rw[ea];clear hx hT a0 ea c;go_enter func65,ntmps65;go_wp2_with (at_builtin;refine wpList_append_lies _ rfl _ _ _ rfl (w.heap.size+1) 24 i0 _ 2 32 ZN a2 a4 a5 a6 rfl (by omega) (L (Za ⟨w.heap.size+1,0,I⟩) 1 1) 1 (cellsOf [x]) rfl d ⟨b,o,I⟩ T.l.length T.c (cellsOf T.l) rfl (Ux _) i (Kf _) hm (by unfold maxLen;omega) (by omega) (by simp) (w.heap.size+1+1) (by simp) ?_;intro gg cap1 w3 k a z a3)
  have hg:w.heap.size+1<=gg:=by
   rcases z with h|h
   .simp[Value.ownBlock] at h;omega
   .omega
  have a7:=a.size;have g:Zz (w.heap.size+1) ((w.alloc (Zn x.v 24)).alloc (Zn x.v 24)) w3:=⟨a.os,a.tape,a.output,a.size,fun q hq=>a.block q (by simp;omega) (by simp[Value.ownBlock];omega)⟩
  have HE:Zr ((Tr.mk 0 (Za ⟨gg,0,I⟩) cap1 (x::T.l)).In w3/\bL w w3):=by refine⟨JO (n:=1+T.l.length) (l:=x::T.l) (by simpa[cellsOf] using k) (by simp;omega) (fun t r=>?_) 0,HB.out.trans (g.mono (by omega))⟩;obtain⟨h1,h2⟩:=a1.out t r;exact Tr.In.congr (P:=fun q=>q<w.heap.size) (fun q hq o=>g.cell (p:=⟨q,o,I⟩) (by show q<_;omega)) h2 h1
  clear k a z a3 g d i a1 HB;go_wp2_with fail;go_ret;exact⟨⟨0,Za ⟨gg,0,I⟩,cap1,x::T.l⟩,by simp[Nat.add_comm],rfl,HE.out.1,fun y hy=>by cases hy;show w.heap.size<=gg;omega,HE.out.2⟩
def XR:List (Nat×Tm×Ty)->List Ty->List Tm
 |p::r,u::s=>Jd (p.1:Int) p.2.1 p.2.2 u::XR r s
 |_,_=>[]
theorem MK:∀(ps:List (Nat×Tm×Ty))(us:List Ty),ps.length=us.length->(XR ps us).length=ps.length
 |[],[],_=>rfl
 |p::r,u::s,h=>by simp[XR,MK r s (by simpa using h)]
 |[],_::_,h=>by simp at h
 |_::_,[],h=>by simp at h
def Yt(k:Int)(t:Ty)(takes:List Ty):List Ty:=if k=7 then t::takes else takes
def B7:(l:List Tm)->((x:Tm)->x∈l->Nat->Option (Tm×Ty))->Nat->Option (List (Nat×Tm×Ty))
 |[],_,_=>Za []
 |x::r,f,c=>(f x Z1 c).bind fun p=>(B7 r (fun z h c=>f z (ZY _ h) c) (c+x.sz)).bind fun q=>Za ((c,p.1,p.2)::q)
def Xq:Tm->List Ty->Nat->Option (Tm×Ty)
 |⟨k,n,t,_,l⟩,takes,c=>(B7 l (fun x _ c=>Xq x (Yt k t takes) c) (c+1)).bind fun ps=>(YL k n t (ps.map fun p=>p.2.2) (Yt k t takes)).bind fun r=>if UM (ps.map fun p=>p.2.2) r.2=Zc then Za (⟨k,n,t,Yn,XR ps r.2⟩,r.1) else I
def Y4:List Tm->List Ty->Nat->Option (List (Nat×Tm×Ty))
 |[],_,_=>Za []
 |x::r,takes,c=>(Xq x takes c).bind fun p=>(Y4 r takes (c+x.sz)).bind fun q=>Za ((c,p.1,p.2)::q)
theorem PE(takes:List Ty):∀(l:List Tm)(c:Nat),B7 l (fun x _ c=>Xq x takes c) c=Y4 l takes c
 |[],_=>rfl
 |x::r,c=>by simp only[B7,Y4,PE takes r]
theorem JZ(k n:Int)(t f:Ty)(l:List Tm)(takes:List Ty)(c:Nat):Xq ⟨k,n,t,f,l⟩ takes c =
  (Y4 l (Yt k t takes) (c+1)).bind fun ps=>(YL k n t (ps.map fun p=>p.2.2) (Yt k t takes)).bind fun r=>if UM (ps.map fun p=>p.2.2) r.2=Zc then Za (⟨k,n,t,Yn,XR ps r.2⟩,r.1) else I:=by
 rw[Xq,PE]
theorem Mc{k n:Int}{t f:Ty}{l:List Tm}{takes:List Ty}{c:Nat}{y:Tm}{i:Ty}(h:Xq ⟨k,n,t,f,l⟩ takes c=Za (y,i)):
  ∃ps us,Y4 l (Yt k t takes) (c+1)=Za ps/\YL k n t (ps.map fun p=>p.2.2) (Yt k t takes)=Za (i,us)/\UM (ps.map fun p=>p.2.2) us=Zc/\y=⟨k,n,t,Yn,XR ps us⟩:=by
 rw[JZ] at h;cases h1:Y4 l (Yt k t takes) (c+1) with
 |none=>rw[h1] at h;cases h
 |some ps=>
  rw[h1] at h;simp only[Zl] at h;cases h2:YL k n t (ps.map fun p=>p.2.2) (Yt k t takes) with
  |none=>rw[h2] at h;cases h
  |some r=>
   rw[h2] at h;simp only[Zl] at h;split at h
   .rename_i h3;cases h
    exact⟨ps,r.2,rfl,h2,h3,rfl⟩
   .cases h
theorem K5{x:Tm}{r:List Tm}{takes:List Ty}{c:Nat}{ps:List (Nat×Tm×Ty)}(h:Y4 (x::r) takes c=Za ps):∃y i q,Xq x takes c=Za (y,i)/\Y4 r takes (c+x.sz)=Za q/\ps=(c,y,i)::q:=by
 rw[Y4] at h;cases h1:Xq x takes c with
 |none=>rw[h1] at h;cases h
 |some p=>
  rw[h1] at h;simp only[Zl] at h;cases h2:Y4 r takes (c+x.sz) with
  |none=>rw[h2] at h;cases h
  |some q=>
   rw[h2] at h;simp only[Zl] at h;cases h
   exact⟨p.1,p.2,q,rfl,rfl,rfl⟩
theorem U1:∀(l:List Tm)(takes:List Ty)(c:Nat)(ps:List (Nat×Tm×Ty)),Y4 l takes c=Za ps->ps.length=l.length
 |[],_,_,ps,h=>by rw[Y4] at h;cases h;rfl
 |x::r,takes,c,ps,h=>by obtain⟨y,i,q,_,h2,rfl⟩:=K5 h;simp[U1 r takes _ q h2]
theorem LL{takes:List Ty}{Q:Tm->Nat->Tm->Ty->Prop}:∀(l:List Tm)(c:Nat)(ps:List (Nat×Tm×Ty)),Y4 l takes c=Za ps->(∀x,x∈l->∀c y i,Xq x takes c=Za (y,i)->Q x c y i)->
  ∀j(h:j<ps.length)(h':j<l.length),Q l[j] ps[j].1 ps[j].2.1 ps[j].2.2
 |[],c,ps,h,_,j,hj,h'=>by simp at h'
 |x::r,c,ps,h,hQ,j,hj,h'=>by
  obtain⟨y,i,q,h1,h2,rfl⟩:=K5 h;match j with
  |0=>exact hQ x (by simp) c y i h1
  |j+1=>exact LL r _ q h2 (fun z hz=>hQ z (by simp[hz])) j (by simpa using hj) (by simpa using h')
def JM:Tm->Nat->Prop
 |⟨k,n,t,f,l⟩,ins=>Uv 0 (ins:Int) ⟨k,n,t,f,l⟩=Zc/\∀x,x∈l->JM x (if k=7 then ins+1 else ins)
theorem Ke{n:Int}{t f:Ty}{ins:Nat}:JM ⟨k,n,t,f,l⟩ ins↔Uv 0 (ins:Int) ⟨k,n,t,f,l⟩=Zc/\∀x,x∈l->JM x (if k=7 then ins+1 else ins):=by rw[JM]
theorem Sc{f:Tm->Nat->Option Nat}{Q:Tm->Prop}(hf:∀y q q',f y q=Za q'->Q y/\y.sz+q'=q):∀(l:List Tm)(r r':Nat),XK f l r=Za r'->(∀y,y∈l->Q y)/\(l.map Tm.sz).sum+r'=r
 |[],r,r',h=>by simp[XK] at h;exact⟨(fun y hy=>by cases hy),by simpa using h.symm⟩
 |x::l,r,r',h=>by
  simp only[XK] at h;cases hq:f x r with
  |none=>rw[hq] at h;cases h
  |some q=>
   rw[hq] at h;have h1:=hf x r q hq;have h2:=Sc hf l q r' h;refine⟨fun y hy=>?_,by simp;omega⟩;rcases Zx.1 hy with rfl|hy
   .exact h1.1
   .exact h2.1 y hy
theorem RE:∀(n:Nat)(ins:Nat)(x:Tm)(r r':Nat),Xo 0 n (ins:Int) x r=Za r'->JM x ins/\x.sz+r'=r
 |0,_,_,_,_,h=>by simp[Xo] at h
 |_+1,_,_,0,_,h=>by simp[Xo] at h
 |n+1,ins,⟨k,m,t,f,l⟩,r+1,r',h=>by
  simp only[Xo] at h;split at h
  .rename_i ht;have hi:Xm k (ins:Int)=((if k=7 then ins+1 else ins:Nat):Int):=by unfold Xm;split<;>simp
   rw[hi] at h;have a:=Sc (fun y q b=>RE n (if k=7 then ins+1 else ins) y q b) l r r' h;exact⟨Ke.2 ⟨ht,a.1⟩,by rw[Tm.sz_mk];omega⟩
  .cases h
theorem Lv(h:Uh 0 x=Zc):JM x 0/\x.sz<=40:=by obtain⟨b,a⟩:=Option.isSome_iff_exists.1 h;have:=RE 40 0 x 40 b a;exact⟨this.1,by omega⟩
theorem YH:∀(n m:Nat)(t:Ty),n<=m->Ym n t=Zc->Ym m t=Zc
 |0,_,_,_,h=>by simp[Ym] at h
 |n+1,0,_,hm,_=>by omega
 |n+1,m+1,t,hm,h=>by
  rcases Yy h with⟨k,rfl,hk⟩|⟨x,y,rfl,hx,hy⟩
  .rcases hk with rfl|rfl|rfl<;>simp[Ym]
  .simp[Ym,YH n m x (by omega) hx,YH n m y (by omega) hy]
theorem LR(n:Nat):Ym (n+1) ⟨0,[]⟩=Zc:=by simp[Ym]
theorem LQ(n:Nat):Ym (n+1) ⟨1,[]⟩=Zc:=by simp[Ym]
theorem Lt(n:Nat):Ym (n+1) ⟨2,[]⟩=Zc:=by simp[Ym]
theorem Jk{n:Int}{t f:Ty}{ins:Nat}(h:Uv 0 (ins:Int) ⟨k,n,t,f,l⟩=Zc):
  1<=k/\k<=9/\l.length=YA k/\XG f=Zc/\Ym 4 t=Zc/\(UI k=Zq->XG t=Zc)/\(k=1->0<=n/\n<(ins:Int)):=by
 simp only[Uv,X6,Zy,decide_eq_true_eq,beq_iff_eq] at h;obtain⟨⟨⟨c,g⟩,e⟩,⟨i,a⟩,d⟩:=h;refine⟨c,g,e,i,?_,fun b=>?_,fun b=>?_⟩
 .split at a
  .exact a
  .rw[Oz a];exact LR 3
 .rw[if_neg (by rw[b];simp)] at a;exact a
 .subst b;simp[Xt] at d;omega
theorem Xe(k:Int)(t:Ty)(takes:List Ty):(Yt k t takes).length=if k=7 then takes.length+1 else takes.length:=by unfold Yt;split<;>simp
theorem Uj{t:Ty}(a:Ym 4 t=Zc)(h:∀u,u∈takes->Ym 4 u=Zc):∀u,u∈Yt k t takes->Ym 4 u=Zc:=by
 intro u hu;unfold Yt at hu;split at hu
 .rcases Zx.1 hu with rfl|hu
  .exact a
  .exact h u hu
 .exact h u hu
theorem KI{m:Nat}{l:List Ty}(h:∀u,u∈l->Ym m u=Zc)(hm:1<=m)(j:Nat):Ym m (l.getD j ⟨0,[]⟩)=Zc:=by
 rw[ZA];cases hj:l[j]? with
 |none=>obtain⟨m,rfl⟩:∃q,m=q+1:=⟨m-1,by omega⟩;exact LR m
 |some u=>exact h u (List.mem_of_getElem? hj)
theorem LK{n:Int}{t:Ty}{ps:List Ty}{us:List Ty}(m:Nat)(hm:4<=m)(h1:1<=k)(h9:k<=9)(a:ps.length=YA k)(g:Ym 4 t=Zc)(z:∀u,u∈takes->Ym 4 u=Zc)(d:∀u,u∈ps->Ym m u=Zc)
  (h:YL k n t ps takes=Za (i,us)):us.length=ps.length/\Ym (m+1) i=Zc/\∀u,u∈us->Ym (m+1) u=Zc:=by
 have j:k=1\/k=2\/k=3\/k=4\/k=5\/k=6\/k=7\/k=8\/k=9:=by omega
 have e:∀u,Ym m u=Zc->Ym (m+1) u=Zc:=fun u=>YH m (m+1) u (by omega);have c:∀u,Ym 4 u=Zc->Ym (m+1) u=Zc:=fun u=>YH 4 (m+1) u (by omega);rcases j with rfl|rfl|rfl|rfl|rfl|rfl|rfl|rfl|rfl
 .simp[YL] at h;obtain⟨rfl,rfl⟩:=h;refine⟨by rw[a];rfl,c _ ?_,fun u hu=>by cases hu⟩;have:=KI z (by omega) n.toNat;simpa[ZA] using this
 .simp[YL] at h;obtain⟨rfl,rfl⟩:=h;exact⟨by rw[a];rfl,LQ _,fun u hu=>by cases hu⟩
 .simp[YL] at h;obtain⟨rfl,rfl⟩:=h;exact⟨by rw[a];rfl,Lt _,fun u hu=>by cases hu⟩
 .simp[YL] at h;obtain⟨rfl,rfl⟩:=h;exact⟨by rw[a];rfl,LQ _,fun u hu=>by simp at hu;subst hu;exact LQ _⟩
 .simp[YL] at h;obtain⟨rfl,rfl⟩:=h;exact⟨by rw[a];rfl,Lt _,fun u hu=>by simp at hu;subst hu;exact LQ _⟩
 .have h':T6 ⟨2,[]⟩ (ps.getD 1 ⟨0,[]⟩) (ps.getD 2 ⟨0,[]⟩)=Za (i,us):=by simpa[YL] using h
  have b:=KI d (by omega) 1;have w:=KI d (by omega) 2;have l:=(Jo m _ _ b w).1;unfold T6 at h';split at h'
  .cases h'
   refine⟨by rw[a];rfl,e _ l,fun u hu=>?_⟩;simp only[Zx,ZP,or_false] at hu;rcases hu with rfl|rfl|rfl
   .exact Lt _
   .exact e _ l
   .exact e _ l
  .cases h'
 .have h':i=⟨3,[t,ps.getD 0 ⟨0,[]⟩]⟩/\us=ps:=by
   have:Za (Ty.mk 3 [t,ps.getD 0 ⟨0,[]⟩],ps)=Za (i,us):=by simpa[YL] using h
   cases this;exact⟨rfl,rfl⟩
  obtain⟨rfl,rfl⟩:=h';have b:=KI d (by omega) 0;refine⟨rfl,?_,fun u hu=>e _ (d u hu)⟩;rw[Ym,b,YH 4 m t (by omega) g];rfl
 .have h':X2 (ps.getD 0 ⟨0,[]⟩)=Za (i,us):=by simpa[YL] using h
  have b:=KI d (by omega) 0;generalize ps.getD 0 ⟨0,[]⟩=q at h' b;obtain⟨m,rfl⟩:∃r,m=r+1:=⟨m-1,by omega⟩
  rcases Yy b with⟨k,rfl,j⟩|⟨x,y,rfl,p,o⟩
  .rcases j with rfl|rfl|rfl
   .simp[X2] at h';obtain⟨rfl,rfl⟩:=h';refine⟨by rw[a];rfl,LR _,fun u hu=>?_⟩;simp only[Zx,ZP,or_false] at hu;rcases hu with rfl|rfl
    .simp[Ym]
    .exact LR _
   .simp[X2] at h'
   .simp[X2] at h'
  .simp[X2] at h';obtain⟨rfl,rfl⟩:=h';refine⟨by rw[a];rfl,YH m _ _ (by omega) o,fun u hu=>?_⟩;simp only[Zx,ZP,or_false] at hu;rcases hu with rfl|rfl
   .exact e _ b
   .exact YH m _ _ (by omega) p
 .have h':i=t/\us=[t]:=by
   have:Za (t,[t])=Za (i,us):=by simpa[YL] using h
   cases this;exact⟨rfl,rfl⟩
  obtain⟨rfl,rfl⟩:=h';exact⟨by rw[a];rfl,c _ g,fun u hu=>by simp at hu;subst hu;exact c _ g⟩
theorem Ji:∀(l:List Tm)(x:Tm),x∈l->x.sz<=(l.map Tm.sz).sum
 |[],_,h=>by cases h
 |y::r,x,h=>by
  rcases Zx.1 h with rfl|h
  .simp
  .have:=Ji r x h;simp;omega
theorem Tm.sz_pos(x:Tm):1<=x.sz:=by cases x;rw[Tm.sz_mk];omega
theorem JQ:∀(x:Tm)(takes:List Ty)(c:Nat)(y:Tm)(i:Ty),JM x takes.length->(∀u,u∈takes->Ym 4 u=Zc)->Xq x takes c=Za (y,i)->Ym (x.sz+4) i=Zc:=by
 intro x;induction x using Tm.ind with
 |h k n t f l ih=>
  intro takes c y i e q h;obtain⟨h0,h1⟩:=Ke.1 e;obtain⟨r,k9,z,_,d,_,_⟩:=Jk h0;obtain⟨ps,us,o,e2,_,_⟩:=Mc h;have a:=U1 _ _ _ _ o;have w:∀u,u∈ps.map (fun p=>p.2.2)->Ym ((l.map Tm.sz).sum+4) u=Zc:=by
   intro u hu;obtain⟨j,hj,rfl⟩:=ZB hu;have b:j<ps.length:=by simpa using hj
   have:=LL (Q:=fun x _ _ i=>Ym (x.sz+4) i=Zc) l _ ps o (fun x g c y i hr=>ih x g _ c y i (by rw[Xe];exact h1 x g) (Uj d q) hr) j b (by omega);have hs:=Ji l l[j] (Zk _);simpa using YH _ ((l.map Tm.sz).sum+4) _ (by omega) this
  have:=LK ((l.map Tm.sz).sum+4) (by omega) r k9 (by simpa using a.trans z) d (Uj d q) w e2;rw[Tm.sz_mk];exact YH _ _ _ (by omega) this.2.1
structure CS(R c:Nat)(w:Zi):Prop where
 c:w.cell? ⟨R,0,I⟩=Za (F D (c:Int))
 f:w.frozen? ⟨R,0,I⟩=Zq
theorem CS.lt(h:CS R c w):R<w.heap.size:=Zm _ _ h.c
theorem CS.below(h:CS R c w)(hb:Zz w.heap.size w w'):CS R c w':=⟨Zd hb h.c,(hb.frozen (p:=⟨R,0,I⟩) h.lt).trans h.f⟩
def Kr(Q:Nat->Prop)(R:Nat)(x:TT)(c:Nat)(takes:List Ty)(w:Zi)(e:Ending)(w':Zi):Prop:=
 Yi R I w w'/\((Xq x.tm takes c=I/\e=Zj (ZV #[Zo #[F D 0,F D 0,F D 0,F D 0,L I 0 0,F D 0,L I 0 0,L I 0 0,F D 0,L I 0 0],.bool Zq]))\/
  ∃r:Rd,Xq x.tm takes c=Za (r.y.tm,r.i.ty)/\e=Zj (ZV #[Zo #[F D r.n,F D r.y.k,F D r.y.n,F D r.y.t.k,L r.y.t.a r.y.t.l.length r.y.t.c,F D r.y.f.k,L r.y.f.a r.y.f.l.length r.y.f.c,L r.y.a r.y.l.length r.y.c,F D r.i.k,L r.i.a r.i.l.length r.i.c],.bool Zc])/\ r.n=(c:Int)/\r.y.In w'/\r.i.In w'/\r.y.Bl Q/\r.i.Bl Q/\CS R (c+x.sz) w')
structure Vi(Q:Nat->Prop)(R:Nat)(x:TT)(c:Nat)(T:Tr)(w:Zi):Prop where
 ok:JM x.tm T.l.length
 tk:∀t,t∈T.l->Yz 4 t=Zc
 rm:c+x.sz<=900/\T.l.length+x.sz<=900
 xi:x.In w
 ti:T.In w
 cs:CS R c w
 xb:x.Bl Q
 tb:T.Bl Q
 nw:∀b,w.heap.size<=b->Q b
 ne:∀b,Q b->b≠R
def O1(r:Rd):Nat×Tm×Ty:=(r.n.toNat,r.y.tm,r.i.ty)
theorem K6(takes:List Ty):∀(l m:List Tm)(c:Nat),Y4 (l++m) takes c=(Y4 l takes c).bind fun ps=>(Y4 m takes (c+(l.map Tm.sz).sum)).bind fun qs=>Za (ps++qs)
 |[],m,c=>by simp only[List.nil_append,Y4,Zl,Z3,List.sum_nil,Nat.add_zero];cases Y4 m takes c<;>rfl
 |x::r,m,c=>by
  simp only[List.cons_append,Y4,K6 takes r m,Zt,ZC,Nat.add_assoc];cases Xq x takes c with
  |none=>rfl
  |some p=>
   simp only[Zl];cases Y4 r takes (c+x.sz) with
   |none=>rfl
   |some q=>simp only[Zl];cases Y4 m takes (c+(x.sz+(r.map Tm.sz).sum))<;>rfl
theorem SU{ps:List (Nat×Tm×Ty)}(h:Y4 l takes c=Za ps)(a:Xq x takes (c+(l.map Tm.sz).sum)=Za (y,i)):Y4 (l++[x]) takes c=Za (ps++[(c+(l.map Tm.sz).sum,y,i)]):=by rw[K6,h];simp[Y4,a]
theorem ST{takes:List Ty}{l:List Tm}{c:Nat}{x:Tm}{m:List Tm}(hx:Xq x takes (c+(l.map Tm.sz).sum)=I):Y4 (l++x::m) takes c=I:=by
 rw[K6];cases Y4 l takes c with
 |none=>rfl
 |some ps=>simp[Y4,hx]
def Lc(r:Rd):List ZF:=[F D r.n,F D r.y.k,F D r.y.n,F D r.y.t.k,L r.y.t.a r.y.t.l.length r.y.t.c,F D r.y.f.k,L r.y.f.a r.y.f.l.length r.y.f.c,L r.y.a r.y.l.length r.y.c,F D r.i.k,L r.i.a r.i.l.length r.i.c]
def XZ(rs:List Rd):List ZF:=rs.flatMap Lc
theorem OQ(a b:List Rd):XZ (a++b)=XZ a++XZ b:=by simp[XZ]
theorem R2(r:Rd):XZ [r]=Lc r:=by simp[XZ]
theorem OO:∀(l:List Rd)(j:Nat)(h:j<l.length)(i:Nat),i<10->(XZ l)[j*10+i]?=(Lc l[j])[i]?
 |[],j,h,_,_=>by simp at h
 |x::r,0,_,i,hi=>by
  have:XZ (x::r)=Lc x++XZ r:=by simp[XZ]
  rw[this,List.getElem?_append_left (by simp[Lc];omega)];simp
 |x::r,j+1,h,i,hi=>by
  have a:=OO r j (by simpa using h) i hi;have e:XZ (x::r)=Lc x++XZ r:=by simp[XZ]
  rw[e,List.getElem?_append_right (by simp[Lc];omega)];have:(j+1)*10+i-(Lc x).length=j*10+i:=by simp[Lc];omega
  rw[this];simpa using a
structure LD(Q:Nat->Prop)(base:Nat)(v:ZF)(rs:List Rd)(w:Zi):Prop where
 own:w.ownsRow base 64 10 v rs.length (XZ rs)
 ins:∀r,r∈rs->r.y.In w/\r.i.In w/\r.y.Bl (fun b=>Q b/\Za b≠v.ownBlock)/\r.i.Bl (fun b=>Q b/\Za b≠v.ownBlock)
theorem LD.nil(Q:Nat->Prop)(base:Nat)(w:Zi):LD Q base (L I 0 0) [] w:=⟨World.ownsRow_nil _ _ _ _,fun c h=>by cases h⟩
theorem LD.kept{v:ZF}{rs:List Rd}(h:LD Q base v rs w)(d:Yi R I w w')(j:R<base)(e:∀b,Q b->b≠R):LD Q base v rs w':=by
 refine⟨⟨h.own.1,?_⟩,fun c i=>?_⟩
 .rcases h.own.2 with hn|⟨g,cap,cur,hv,a,hg,rest⟩
  .exact .inl hn
  .exact .inr ⟨g,cap,cur,hv,a,(d.block g (ZL.1 hg).1 (by omega) (by simp)).trans hg,rest⟩
 .obtain⟨h1,h2,h3,h4⟩:=h.ins c i;exact⟨h1.keptR d (h3.mono fun b a=>e b a.1),h2.keptR d (h4.mono fun b a=>e b a.1),h3,h4⟩
theorem LD.below{v:ZF}{rs:List Rd}(h:LD Q base v rs w)(e:Zz w.heap.size w w'):LD Q base v rs w':=by
 refine⟨⟨h.own.1,?_⟩,fun c i=>⟨(h.ins c i).1.below e,(h.ins c i).2.1.below e,(h.ins c i).2.2⟩⟩;rcases h.own.2 with l|⟨g,d,a,k,b,j,rest⟩
 .exact .inl l
 .exact .inr ⟨g,d,a,k,b,(e.block g (ZL.1 j).1).trans j,rest⟩
theorem LD.lt{v:ZF}{rs:List Rd}(h:LD Q base v rs w)(k:Nat)(hk:v.ownBlock=Za k):base<=k/\k<w.heap.size:=h.own.lt k hk
theorem LD.step{v:ZF}{rs:List Rd}{w2 w3:Zi}{r:Rd}{gg cap1:Nat}{X:Obj}(h:LD Q base v rs w2)(yi:r.y.In w2)(ii:r.i.In w2)(yb:r.y.Bl (fun b=>Q b/\Za b≠v.ownBlock))(ib:r.i.Bl (fun b=>Q b/\Za b≠v.ownBlock))
  (o:w3.ownsRow base 64 10 (L (Za ⟨gg,0,I⟩) (rs.length+1) cap1) (rs.length+1) (XZ rs++XZ [r])) (l:(w2.alloc X).grownBy w3 v.ownBlock) (u:v.ownBlock=Za gg\/gg=w2.heap.size+1) :
  LD Q base (L (Za ⟨gg,0,I⟩) (rs.length+1) cap1) (rs++[r]) w3/\∀k,k<w2.heap.size->Za k≠v.ownBlock->w3.heap[k]?=w2.heap[k]?:=by
 have j:∀k,k<w2.heap.size->Za k≠v.ownBlock->w3.heap[k]?=w2.heap[k]?:=fun k z y=>by rw[l.block k (by simp;omega) y];exact((Y _ w2).alloc (Z _) X).block k z
 refine⟨⟨by rw[OQ,Z2,List.length_singleton];exact o,fun d hd=>?_⟩,j⟩;have c:d.y.In w2/\d.i.In w2/\d.y.Bl (fun b=>Q b/\Za b≠v.ownBlock)/\d.i.Bl (fun b=>Q b/\Za b≠v.ownBlock):=by
  rcases List.mem_append.1 hd with hd|hd
  .exact h.ins d hd
  .rcases ZK.1 hd with rfl;exact⟨yi,ii,yb,ib⟩
 have p:∀b,b<w2.heap.size/\(Q b/\Za b≠v.ownBlock)->Q b/\Za b≠(Value.slice (Za ⟨gg,0,I⟩) (rs.length+1) cap1).ownBlock:=by
  intro b q;refine⟨q.2.1,?_⟩;show Za b≠Za gg
  rcases u with e|e
  .rw[<-e];exact q.2.2
  .simp only[ne_eq,Z6];omega
 have g:∀b,b<w2.heap.size/\(Q b/\Za b≠v.ownBlock)->∀i,w3.cell? ⟨b,i,I⟩=w2.cell? ⟨b,i,I⟩:=fun b q i=>ZZ (a:=⟨b,i,I⟩) (j b q.1 q.2.2)
 have x:=c.1.bl.and c.2.2.1;have w:=c.2.1.bl.and c.2.2.2;exact⟨c.1.congr (P:=fun b=>b<w2.heap.size/\(Q b/\Za b≠v.ownBlock)) g x,c.2.1.congr (P:=fun b=>b<w2.heap.size/\(Q b/\Za b≠v.ownBlock)) g w,x.mono p,w.mono p⟩
theorem LD.list{v:ZF}{rs:List Rd}(h:LD Q base v rs w):∃a c,v=L a rs.length c/\RL w a rs:=by
 rcases h.own.2 with⟨rfl,l⟩|⟨g,k,e,rfl,o,_⟩
 .have:rs=[]:=List.length_eq_zero_iff.1 l;subst this;exact⟨I,0,rfl,fun j d=>absurd d (by simp)⟩
 .refine⟨_,_,rfl,fun j d=>⟨g,0,rfl,?_,(h.ins _ (Zk d)).1,(h.ins _ (Zk d)).2.1⟩⟩;have b:∀i,i<10->w.cell? ⟨g,0+j*10+i,I⟩=_:=fun i hi=>by rw[Zh,h.own.cellAt (j*10+i) (by omega),OO rs j d i hi]
  exact⟨b 0 (by omega),⟨b 1 (by omega),b 2 (by omega),b 3 (by omega),b 4 (by omega),b 5 (by omega),b 6 (by omega),b 7 (by omega)⟩,b 8 (by omega),b 9 (by omega)⟩
def QA(Q:Nat->Prop)(R:Nat)(l:List TT)(c:Nat)(takes:List Ty)(w:Zi)(e:Ending)(w':Zi):Prop:=
 Yi R I w w'/\((Y4 (l.map TT.tm) takes c=I/\e=Zj (ZV #[L I 0 0,.bool Zq]))\/
  ∃(rs:List Rd)(a:Option ZM)(cap:Nat),Y4 (l.map TT.tm) takes c=Za (rs.map O1)/\e=Zj (ZV #[L a rs.length cap,.bool Zc])/\(∀r,r∈rs->0<=r.n)/\RL w' a rs/\(∀r,r∈rs->r.y.Bl Q/\r.i.Bl Q)/\CS R (c+(l.map TT.sz).sum) w')
theorem Tryz.info64:(Ze.info? 64).map (fun i=>(i.zero,i.size,i.bytes))=Za (Za (Zo #[F D 0,F D 0,F D 0,F D 0,L I 0 0,F D 0,L I 0 0,L I 0 0,F D 0,L I 0 0]),10,144):=by kernel_rfl
structure BI(Q:Nat->Prop)(R:Nat)(x:TT)(c:Nat)(T:Tr)(w:Zi)(j:Nat)(v:ZF)(rs:List Rd)(wr:Zi):Prop where
 kp:Yi R I w wr
 row:LD Q w.heap.size v rs wr
 len:rs.length=j
 nn:∀r,r∈rs->0<=r.n
 rd:Y4 ((x.l.take j).map TT.tm) (T.l.map Tr.ty) c=Za (rs.map O1)
 cs:CS R (c+((x.l.take j).map TT.sz).sum) wr
theorem N5(l:List TT):(l.map TT.tm).map Tm.sz=l.map TT.sz:=by rw[List.map_map];exact ZD fun x _=>x.sz_tm.symm
theorem MW{α:Type}(l:List α)(j:Nat)(h:j<l.length):l.take (j+1)=l.take j++[l[j]]:=by rw[List.take_add_one,ZO h];rfl
theorem Rg(Q:Nat->Prop)(R:Nat)(x:TT)(c:Nat)(T:Tr)(w:Zi)
  (HRD:∀y,y∈x.l->∀(Q':Nat->Prop)(c':Nat)(W:Zi),Vi Q' R y c' T W->Zv Ze 41 #[Zs (Za ⟨R,0,I⟩),Zo #[F D y.k,F D y.n,F D y.t.k,L y.t.a y.t.l.length y.t.c,F D y.f.k,L y.f.a y.f.l.length y.f.c,L y.a y.l.length y.c],L T.a T.l.length T.c] W (Kr Q' R y c' (T.l.map Tr.ty) W))
  (hok:∀y,y∈x.l->JM y.tm T.l.length) (htk:∀t,t∈T.l->Yz 4 t=Zc) (hrm:c+(x.l.map TT.sz).sum<=900/\T.l.length+(x.l.map TT.sz).sum<=900) (xi:x.In w) (ti:T.In w) (hcs:CS R c w) (xb:x.Bl Q) (tb:T.Bl Q) (nw:∀b,w.heap.size<=b->Q b) (ne:∀b,Q b->b≠R) :
  Zv Ze 66 #[Zs (Za ⟨R,0,I⟩),L x.a x.l.length x.c,L T.a T.l.length T.c] w (QA Q R x.l c (T.l.map Tr.ty) w):=by
 obtain⟨i0,b9,ba,bc,b6⟩:=info_parts Tryz.info64;have bo:x.l.length<=1000:=by
  have:x.l.length<=(x.l.map TT.sz).sum:=by
   have:∀l:List TT,l.length<=(l.map TT.sz).sum:=fun l=>by
    induction l with
    |nil=>simp
    |cons u r ih=>have:=u.sz_pos;simp only[ZG,Zt,ZC];omega
   exact this _
  omega
 have b3:=hcs.lt;have HP:=Dv hok htk hrm xb tb nw ne;have HX:=Un xi ti;have aq:=Yx HRD;have ao:Zr (BI Q R x c T w 0 (L I 0 0) [] w):=⟨Yi.refl,LD.nil _ _ _,rfl,fun r h=>(by cases h),by simp[Y4],by simpa using hcs⟩
 clear hok htk hrm xi ti hcs xb tb nw ne HRD;go_enter func66,ntmps66;go_wp2_with fail;go_loopg [8,15] x.l.length (fun g v i wr=>∃(j:Nat)(u:ZF)(rs:List Rd),g+j=x.l.length/\i=F D (j:Int)/\u=v/\Zr (BI Q R x c T w j u rs wr))
 case atStart=>exact⟨0,_,[],by omega,rfl,rfl,ao⟩
 case round=>
  obtain⟨j,v,rs,hj,rfl,hv,HQ⟩:=hrel;subst hv;clear ao;by_cases hlt:j<x.l.length
  .obtain⟨b,o,ea,h7,hyi0⟩:=HX.out.1.part j hlt;have hk:=HQ.out.kp;have k:b≠R:=HP.out.2.2.2.2.2.2 b (HP.out.2.2.2.1.own (fun e=>by rw[e] at hlt;simp at hlt) _ ea);have az:=h7.keptR hk k;have a7:=Zk hlt;obtain⟨y,a2⟩:∃y,x.l[j]=y:=⟨_,rfl⟩
   have a1:=HP.out.2.2.2.1.mem a7;have a6:y.In wr:=by rw[<-a2];exact hyi0.keptR hk (a1.mono HP.out.2.2.2.2.2.2)
   have b0:=HX.out.2.keptR hk (HP.out.2.2.2.2.1.mono HP.out.2.2.2.2.2.2);have ay:y.Bl (·<w.heap.size):=by rw[<-a2];exact hyi0.bl
   have am:=HX.out.2.bl;rw[a2] at az a7 a1;obtain⟨d0,d1,d2,d3,d4,d5,d6⟩:=az;have i1:(j:Int)<(x.l.length:Int):=by omega
   have bn:(0:Int)<=(j:Int):=by omega
   have b8:=Yx ea;rw[ea];obtain⟨OX,bg⟩:∃O,O=Obj.cells y.v 27:=⟨_,rfl⟩
   have a4:bL wr (wr.alloc OX):=(Y _ _).alloc (Z _) _;have ap:((x.l.take (j+1)).map TT.sz).sum=((x.l.take j).map TT.sz).sum+y.sz:=by rw[MW _ _ hlt,a2];simp
   have av:=Lk TT.sz x.l (j+1);have b2:=hk.size;have z:=HQ.out.row;have HC:Zr (Zv Ze 41 #[Zs (Za ⟨R,0,I⟩),Zo y.v,T.s] (wr.alloc OX) (Kr (fun b=>Q b/\Za b≠v.ownBlock) R y (c+((x.l.take j).map TT.sz).sum) (T.l.map Tr.ty) (wr.alloc OX))):=by
    refine aq.out y a7 _ _ _ ⟨HP.out.1 y a7,HP.out.2.1,⟨by have:=HP.out.2.2.1;omega,by have:=HP.out.2.2.1;omega⟩,a6.below a4,b0.below a4,HQ.out.cs.below a4,?_,?_,?_,fun b hb=>HP.out.2.2.2.2.2.2 b hb.1⟩
    .exact(a1.and ay).mono fun b hb=>⟨hb.1,fun e=>by have:=(z.lt b e.symm).1;omega⟩
    .exact(HP.out.2.2.2.2.1.and am).mono fun b hb=>⟨hb.1,fun e=>by have:=(z.lt b e.symm).1;omega⟩
    .intro b hb;simp only[ZQ] at hb;exact⟨HP.out.2.2.2.2.2.1 b (by omega),fun e=>by have:=(z.lt b e.symm).2;omega⟩
   have p:=Sl (hk.trans (Yi.of_below a4)) (z.below a4) HQ.out.len HQ.out.nn HQ.out.rd;have HY:=Un a2 ap;have bm:rs.length<=1000:=by have:=HQ.out.len;omega
   clear h7 hyi0 hk k a7 a1 a6 b0 ay am a4 ap av b2 z HQ ea a2;subst bg;go_wp2_with fail;clear d0 d1 d2 d3 d4 d5 d6;refine HC.out.mono ?_;rintro e w2 ⟨a3,⟨au,rfl⟩|⟨r,af,rfl,hn,a6,b1,a1,an,hcs⟩⟩
   .have HN:Zr (QA Q R x.l c (T.l.map Tr.ty) w (Zj (ZV #[L I 0 0,.bool Zq])) (w2.alloc (Zn #[F D 0,F D 0,F D 0,F D 0,L I 0 0,F D 0,L I 0 0,L I 0 0,F D 0,L I 0 0] 64))):=by
     refine⟨(p.out.1.trans a3).trans (Yi.of_below ((Y _ _).alloc (Z _) _)),.inl ⟨?_,rfl⟩⟩;have ae:x.l.map TT.tm=(x.l.take j).map TT.tm++y.tm::(x.l.drop (j+1)).map TT.tm:=by
      conv=>lhs;rw[<-List.take_append_drop j x.l]
      rw[ZT,List.drop_eq_getElem_cons hlt,Zt,HY.out.1]
     rw[ae];refine ST ?_;rw[N5];exact au
    clear au a3 HC p;go_wp2_with fail;exact Zw (v:=ZV #[L I 0 0,.bool Zq]) (by simp[results,results66,go_sem]) rfl HN.out
   .obtain⟨OR,ab⟩:∃O,O=Obj.cells #[F D r.n,F D r.y.k,F D r.y.n,F D r.y.t.k,r.y.t.s,F D r.y.f.k,r.y.f.s,r.y.s,F D r.i.k,r.i.s] 64:=⟨_,rfl⟩
    have k:bL w2 (w2.alloc OR):=(Y _ _).alloc (Z _) _;have a0:=(p.out.2.1.kept a3 b3 HP.out.2.2.2.2.2.2).below k;obtain⟨N,hN⟩:∃N,rs.length=N:=⟨_,rfl⟩
    obtain⟨xs,ak⟩:∃xs,XZ rs=xs:=⟨_,rfl⟩
    have uo:(w2.alloc OR).ownsRow w.heap.size 64 10 v N xs:=by rw[<-hN,<-ak];exact a0.own
    have a8:=heap_alloc_new (w2.alloc OR) OR;simp only[ZQ] at a8;have HW:=Sl ((p.out.1.trans a3).trans (Yi.of_below k)) a0 (a6.below k) (b1.below k) (hcs.below k);have HB:=Nm a1 an hn af;have al:=Un hN ak;have bp:N<=1000:=by omega
    have bk:w.heap.size<=w2.heap.size:=by have h1:=p.out.1.size;have h2:=a3.size;omega
    clear af hn a6 b1 a1 an hcs a3 HC k a0 hN ak;subst ab;go_wp2_with (at_builtin;refine wpList_append_lies _ rfl _ _ _ rfl w.heap.size 64 i0 _ 10 144 underlying115 b9 ba bc b6 rfl (by omega) v N xs rfl (uo.alloc _) ⟨w2.heap.size+1,0,I⟩ 1 1 [F D r.n,F D r.y.k,F D r.y.n,F D r.y.t.k,r.y.t.s,F D r.y.f.k,r.y.f.s,r.y.s,F D r.i.k,r.i.s] rfl rfl (World.news_of_block (cs:=#[F D r.n,F D r.y.k,F D r.y.n,F D r.y.t.k,r.y.t.s,F D r.y.f.k,r.y.f.s,r.y.s,F D r.i.k,r.i.s]) (t:=64) (fr:=(0,0)) a8) (by simp[ZX]) (by omega) (by unfold maxLen;omega) (by omega) (by simp;omega) (w2.heap.size+1+1) (by simp) ?_;intro gg cap1 w3 a9 d ax ar)
    have aj:∀q,v.ownBlock=Za q->w.heap.size<=q:=fun q hq=>(uo.lt q hq).1;obtain⟨OR,ab⟩:∃O,O=Obj.cells #[F D r.n,F D r.y.k,F D r.y.n,F D r.y.t.k,r.y.t.s,F D r.y.f.k,r.y.f.s,r.y.s,F D r.i.k,r.i.s] 64:=⟨_,rfl⟩
    rw[<-ab] at d HW;have HN:Zr (BI Q R x c T w (j+1) (L (Za ⟨gg,0,I⟩) (N+1) cap1) (rs++[r]) w3):=by
     obtain⟨ac,b4,bb,b5,ai⟩:=HW.out;obtain⟨eN,bf⟩:=al.out;have ad:=b4.step (gg:=gg) (cap1:=cap1) (w3:=w3) (X:=OR) bb b5 HB.out.1 HB.out.2.1 (by rw[eN,bf,R2];exact a9) d (by simpa using ax);have bh:=ai.lt;have aw:Za R≠v.ownBlock:=fun e=>by have:=aj R e.symm;omega
     have hs:=d.size;simp only[ZQ] at hs bh;have b7:Yi R I w w3:=by refine⟨(d.os.trans rfl).trans ac.os,(d.tape.trans rfl).trans ac.tape,(d.output.trans rfl).trans ac.output,by omega,fun q hq be bj=>?_⟩;exact(ad.2 q (by simp;omega) (fun e=>by have:=aj q e.symm;omega)).trans (ac.block q hq be bj)
     have bi:CS R (c+((x.l.take j).map TT.sz).sum+y.sz) w3:=⟨(ZZ (a:=⟨R,0,I⟩) (ad.2 R (by simp;omega) aw)).trans ai.c,(World.frozen?_of_block (a:=⟨R,0,I⟩) (ad.2 R (by simp;omega) aw)).trans ai.f⟩
     have ah:=ad.1;rw[eN] at ah;refine⟨b7,ah,by rw[Z2,p.out.2.2.1];rfl,fun q hq=>?_,?_,?_⟩
     .rcases List.mem_append.1 hq with hq|hq
      .exact p.out.2.2.2.1 q hq
      .rcases ZK.1 hq with rfl;rw[HB.out.2.2.1];omega
     .rw[MW _ _ hlt,HY.out.1,ZT,ZT];have:=SU p.out.2.2.2.2 (by rw[N5];exact HB.out.2.2.2);rw[N5] at this;have e:O1 r=(c+((x.l.take j).map TT.sz).sum,r.y.tm,r.i.ty):=by unfold O1;rw[HB.out.2.2.1];rfl
      simpa[e] using this
     .rw[HY.out.2,<-Nat.add_assoc];exact bi
    clear a9 d ax ar aj HW uo a8 ab HB p al;go_wp2_with fail;rw[<-b8.out];go_roundg (x.l.length-(j+1))
    case measure=>omega
    case rel=>exact⟨j+1,_,rs++[r],by omega,by go_num,rfl,HN⟩
  .have hje:j=x.l.length:=by omega
   have HN:Zr (∃a a5,v=L a rs.length a5/\QA Q R x.l c (T.l.map Tr.ty) w (Zj (ZV #[v,.bool Zc])) wr):=by
    obtain⟨a,a5,hv,bd⟩:=HQ.out.row.list;refine⟨a,a5,hv,HQ.out.kp,.inr ⟨rs,a,a5,?_,by rw[hv],HQ.out.nn,bd,fun r hr=>⟨(HQ.out.row.ins r hr).2.2.1.mono fun b hb=>hb.1,(HQ.out.row.ins r hr).2.2.2.mono fun b hb=>hb.1⟩,?_⟩⟩
    .have:=HQ.out.rd;rwa [ZU (by omega)] at this
    .have:=HQ.out.cs;rwa [ZU (by omega)] at this
   obtain⟨a,a5,rfl,aa⟩:=HN.out;have HF:=Yx aa;clear HQ HN aa;go_wp2_with fail;exact Zw (v:=ZV #[L a rs.length a5,.bool Zc]) (by simp[results,results66,go_sem]) rfl HF.out
def P7:Tm->List (Int×Ty×Ty)
 |⟨k,n,t,f,l⟩=>(if k=10 then [(n,f,t)] else [])++(l.map fun x=>P7 x).flatten
def YE:Tm->Tm
 |⟨k,n,_,_,l⟩=>match l.map fun x=>YE x with
  |[x]=>if k=9\/k=10 then x else ⟨k,n,Yn,Yn,[x]⟩
  |m=>⟨k,n,Yn,Yn,m⟩
def M5(k n:Int):List Tm->Tm
 |[x]=>if k=9\/k=10 then x else ⟨k,n,Yn,Yn,[x]⟩
 |m=>⟨k,n,Yn,Yn,m⟩
theorem KK(k n:Int)(t f:Ty)(l:List Tm):YE ⟨k,n,t,f,l⟩=M5 k n (l.map YE):=by rw[YE];rfl
def CE(m:Nat)(s:Int×Ty×Ty):Prop:=Ym m s.2.1=Zc/\Ym m s.2.2=Zc/\YC Yk s.2.1 s.2.2=Zc/\YC Yv s.2.1 s.2.2=Zq
structure Ds(m:Nat)(x y:Tm)(lo hi:Nat):Prop where
 inn:∀s,s∈P7 y->(lo:Int)<=s.1/\s.1<(hi:Int)/\CE m s
 grow:((P7 y).map fun s=>s.1).Pairwise (·<·)
 sz:y.sz=x.sz+(P7 y).length
 er:YE y=YE x
def Ty.sz:Ty->Nat
 |⟨_,l⟩=>(l.map fun t=>t.sz).sum+1
theorem Ty.sz_mk(k:Int)(l:List Ty):(Ty.mk k l).sz=(l.map Ty.sz).sum+1:=by rw[Ty.sz]
theorem Tr.sz_ty(t:Tr):t.sz=t.ty.sz:=by
 induction t using Tr.ind with
 |h k a c l ih=>rw[Tr.ty_mk,Tr.sz_mk,Ty.sz_mk,List.map_map];have:l.map Tr.sz=l.map (Ty.sz∘Tr.ty):=ZD fun x b=>ih x b;rw[this]
theorem BN:∀x:Tm,x.tsz=x.sz:=by
 intro x;induction x using Tm.ind with
 |h k n t f l ih=>rw[Tm.tsz_mk,Tm.sz_mk];congr 2;exact ZD ih
theorem Mz{ar ins n:Int}(h:Xt ar ins k n=Zc)(hi:ins+ar<=1000):-1000000<=n/\n<=1000000/\(k=1->0<=n):=by
 unfold Xt at h;split at h
 .simp at h;omega
 .split at h
  .simp at h;rename_i h1 _;exact⟨by omega,by omega,fun e=>absurd e h1⟩
  .split at h
   .simp at h;rename_i h1 _ _;exact⟨by omega,by omega,fun e=>absurd e h1⟩
   .simp at h;rename_i h1 _ _;exact⟨by omega,by omega,fun e=>absurd e h1⟩
structure QB(takes:List Ty)(y:Tm)(i:Ty)(z:Nat):Prop where
 sh:KX y
 ty:L6 y takes i
 sz:y.sz+1<=2*z
 gi:Ym 45 i=Zc
theorem Bw{u:Ty}{z n:Nat}(h:QB takes y i z)(hu:Ym 46 u=Zc)(hf:YC Yk i u=Zc)(hn:n<=1000):KX (Jd (n:Int) y i u)/\L6 (Jd (n:Int) y i u) takes u/\(Jd (n:Int) y i u).sz<=2*z:=by
 unfold Jd;split
 .rename_i hs;have e:=KZ i u hs;subst e;exact⟨h.sh,h.ty,by have:=h.sz;omega⟩
 .refine⟨Ll.2 ⟨⟨by omega,by omega,rfl,by omega,by omega,fun e=>by omega,fun _=>⟨hu,YH 45 46 i (by omega) h.gi⟩⟩,fun x b=>?_⟩,?_,?_⟩
  .rcases ZK.1 b with rfl;exact h.sh
  .refine Ss.2 ⟨[i],rfl,fun j a _=>?_,.inr (.inr (.inr (.inr (.inr (.inr (.inr (.inr (.inr ⟨rfl,rfl,rfl,hf,YH 45 46 i (by omega) h.gi,hu⟩))))))))⟩;match j,a with
   |0,_=>exact h.ty
  .rw[Tm.sz_mk];have:=h.sz;simp;omega
theorem R5{takes:List Ty}:∀(l:List Tm)(c:Nat)(ps:List (Nat×Tm×Ty))(us:List Ty),Y4 l takes c=Za ps->us.length=ps.length->UM (ps.map fun p=>p.2.2) us=Zc->(∀u,u∈us->Ym 46 u=Zc)->c+(l.map Tm.sz).sum<=1000->
  (∀x,x∈l->∀c y i,Xq x takes c=Za (y,i)->c+x.sz<=1000->QB takes y i x.sz)->
  (XR ps us).length=l.length/\(∀x,x∈XR ps us->KX x)/\((XR ps us).map Tm.sz).sum<=2*(l.map Tm.sz).sum/\∀j(h:j<(XR ps us).length)(h':j<us.length),L6 (XR ps us)[j] takes us[j]
 |[],c,ps,us,h,_,_,_,_,_=>by rw[Y4] at h;cases h;simp[XR]
 |x::r,c,ps,us,h,hl,hf,hu,hc,hQ=>by
  obtain⟨y,i,q,h1,h2,rfl⟩:=K5 h;match us,hl,hf,hu with
  |[],hl,_,_=>simp at hl
  |u::vs,hl,hf,hu=>
   simp only[Zt,UM,Zy] at hf;simp only[Zt,ZC] at hc;have hp:=hQ x (by simp) c y i h1 (by omega);obtain⟨a1,a2,a3⟩:=Bw (n:=c) hp (hu u (by simp)) hf.1 (by omega);obtain⟨b0,b1,b2,b3⟩:=R5 r (c+x.sz) q vs h2 (by simpa using hl) hf.2 (fun v hv=>hu v (by simp[hv])) (by omega) fun z hz=>hQ z (by simp[hz]);have e:XR ((c,y,i)::q) (u::vs)=Jd (c:Int) y i u::XR q vs:=rfl;rw[e];refine⟨by simp[b0],fun z hz=>?_,?_,fun j hj hj'=>?_⟩
   .rcases Zx.1 hz with rfl|hz
    .exact a1
    .exact b1 z hz
   .simp only[Zt,ZC];omega
   .match j with
    |0=>exact a2
    |j+1=>exact b3 j (by simpa using hj) (by simpa using hj')
theorem BU{n:Int}{t:Ty}{ps:List Ty}{us:List Ty}{m:Nat}(h1:1<=k)(h9:k<=9)(hl:ps.length=YA k)(hn:k=1->n.toNat<takes.length)(hp:∀u,u∈ps->Ym (m+1) u=Zc)(h:YL k n t ps takes=Za (i,us))(G:List Ty)(hG:k≠7->G=takes):Q0 k n t Yn us G i:=by
 have c:k=1\/k=2\/k=3\/k=4\/k=5\/k=6\/k=7\/k=8\/k=9:=by omega
 rcases c with rfl|rfl|rfl|rfl|rfl|rfl|rfl|rfl|rfl
 .have h':takes.getD n.toNat ⟨0,[]⟩=i/\[]=us:=by simpa[YL] using h
  obtain⟨rfl,rfl⟩:=h';refine .inl ⟨rfl,rfl,?_⟩;rw[hG (by omega),ZA,ZO (hn rfl)];rfl
 .simp[YL] at h;obtain⟨rfl,rfl⟩:=h;exact .inr (.inl ⟨rfl,rfl,rfl⟩)
 .simp[YL] at h;obtain⟨rfl,rfl⟩:=h;exact .inr (.inr (.inl ⟨rfl,rfl,rfl⟩))
 .simp[YL] at h;obtain⟨rfl,rfl⟩:=h;exact .inr (.inr (.inr (.inl ⟨rfl,rfl,rfl⟩)))
 .simp[YL] at h;obtain⟨rfl,rfl⟩:=h;exact .inr (.inr (.inr (.inr (.inl ⟨rfl,rfl,rfl⟩))))
 .have h':T6 ⟨2,[]⟩ (ps.getD 1 ⟨0,[]⟩) (ps.getD 2 ⟨0,[]⟩)=Za (i,us):=by simpa[YL] using h
  unfold T6 at h';split at h'
  .cases h'
   exact .inr (.inr (.inr (.inr (.inr (.inl ⟨rfl,rfl⟩)))))
  .cases h'
 .have h':i=⟨3,[t,ps.getD 0 ⟨0,[]⟩]⟩/\us=ps:=by
   have:Za (Ty.mk 3 [t,ps.getD 0 ⟨0,[]⟩],ps)=Za (i,us):=by simpa[YL] using h
   cases this;exact⟨rfl,rfl⟩
  obtain⟨rfl,rfl⟩:=h';match us,hl with
  |[b],_=>exact .inr (.inr (.inr (.inr (.inr (.inr (.inl ⟨rfl,b,rfl,rfl⟩))))))
 .have h':X2 (ps.getD 0 ⟨0,[]⟩)=Za (i,us):=by simpa[YL] using h
  match ps,hl,hp,h' with
  |[p,q],_,hp,h'=>
   have a:X2 p=Za (i,us):=h';refine .inr (.inr (.inr (.inr (.inr (.inr (.inr (.inl ⟨rfl,?_⟩)))))));rcases Yy (hp p (by simp)) with⟨k,rfl,c⟩|⟨x,y,rfl,_,_⟩
   .rcases c with rfl|rfl|rfl
    .simp[X2] at a;obtain⟨rfl,rfl⟩:=a;exact⟨Yn,rfl⟩
    .simp[X2] at a
    .simp[X2] at a
   .simp[X2] at a;obtain⟨rfl,rfl⟩:=a;exact⟨x,rfl⟩
 .have h':i=t/\us=[t]:=by
   have:Za (t,[t])=Za (i,us):=by simpa[YL] using h
   cases this;exact⟨rfl,rfl⟩
  obtain⟨rfl,rfl⟩:=h';exact .inr (.inr (.inr (.inr (.inr (.inr (.inr (.inr (.inl ⟨rfl,rfl,rfl⟩))))))))
theorem Ag:∀(x:Tm)(takes:List Ty)(c:Nat)(y:Tm)(i:Ty),JM x takes.length->(∀u,u∈takes->Ym 4 u=Zc)->Xq x takes c=Za (y,i)->x.sz<=40->takes.length+x.sz<=900->c+x.sz<=1000->QB takes y i x.sz:=by
 intro x;induction x using Tm.ind with
 |h k n t f l ih=>
  intro takes c y i o w h hz a1 hc;have d:=JQ _ _ c y i o w h;obtain⟨h0,h1⟩:=Ke.1 o;obtain⟨z,k9,hl,_,r,a2,a0⟩:=Jk h0;obtain⟨ps,us,e1,e2,e3,rfl⟩:=Mc h;have a:=U1 _ _ _ _ e1;rw[Tm.sz_mk] at hz hc a1 d;have hp:∀x,x∈l->∀c y i,Xq x (Yt k t takes) c=Za (y,i)->c+x.sz<=1000->QB (Yt k t takes) y i x.sz:=by
   intro x g c y i hr hc;have hs:=Ji l x g;have ho:JM x (Yt k t takes).length:=by rw[Xe];exact h1 x g
   have a3:(Yt k t takes).length<=takes.length+1:=by rw[Xe];split<;>omega
   exact ih x g _ c y i ho (Uj r w) hr (by omega) (by omega) hc
  have hg:∀u,u∈ps.map (fun p=>p.2.2)->Ym ((l.map Tm.sz).sum+4) u=Zc:=by
   intro u hu;obtain⟨j,hj,rfl⟩:=ZB hu;have b:j<ps.length:=by simpa using hj
   have:=LL (Q:=fun x _ _ i=>Ym (x.sz+4) i=Zc) l _ ps e1 (fun x g c y i hr=>JQ x _ c y i (by rw[Xe];exact h1 x g) (Uj r w) hr) j b (by omega);have hs:=Ji l l[j] (Zk _);simpa using YH _ ((l.map Tm.sz).sum+4) _ (by omega) this
  obtain⟨r1,_,r3⟩:=LK ((l.map Tm.sz).sum+4) (by omega) z k9 (by simpa using a.trans hl) r (Uj r w) hg e2;obtain⟨c0,c1,c2,c3⟩:=R5 l (c+1) ps us e1 (by simpa using r1) e3 (fun u hu=>YH _ 46 u (by omega) (r3 u hu)) (by omega) hp;have q:Xt 0 (takes.length:Int) k n=Zc:=by simp only[Uv,Zy] at h0;exact h0.2.2
  obtain⟨n1,n2,n3⟩:=Mz q (by omega);refine⟨Ll.2 ⟨⟨z,by omega,?_,n1,n2,n3,fun e=>by omega⟩,c1⟩,?_,?_,YH _ 45 i (by omega) d⟩
  .rw[c0,hl];unfold Oi;rw[if_neg (by omega)]
  .have hTk:(if k=7 then t::takes else takes)=Yt k t takes:=rfl;refine Ss.2 ⟨us,?_,fun j hj b=>?_,?_⟩
   .rw[c0,r1];simpa using a.symm
   .rw[hTk];exact c3 j hj b
   .refine BU (m:=(l.map Tm.sz).sum+3) z k9 (by simpa using a.trans hl) (fun e=>?_) hg e2 takes fun hk=>?_
    .have:=a0 e;rw[Xe,if_neg (by omega)];omega
    .unfold Yt;rw[if_neg hk]
  .rw[Tm.sz_mk,Tm.sz_mk];omega
theorem M9(c:Uh 0 x=Zc)(h:Xq x [] 0=Za (y,i)):KX y/\y.tsz<=100/\L6 y [] i:=by obtain⟨a,b⟩:=Lv c;have:=Ag x [] 0 y i a (fun u hu=>by cases hu) h b (by simp;omega) (by omega);refine⟨this.sh,?_,this.ty⟩;rw[BN];have:=this.sz;omega
theorem RD:∀(x:Tm)(ins:Nat),JM x ins->ins+x.sz<=900->KX x:=by
 intro x;induction x using Tm.ind with
 |h k n t f l ih=>
  intro ins d hz;obtain⟨b,r⟩:=Ke.1 d;obtain⟨g,y,i,_,w,p,j⟩:=Jk b;have a:Xt 0 (ins:Int) k n=Zc:=by simp only[Uv,Zy] at b;exact b.2.2
  rw[Tm.sz_mk] at hz;obtain⟨q,u,o⟩:=Mz a (by omega);refine Ll.2 ⟨⟨g,by omega,?_,q,u,o,fun e=>by omega⟩,fun x c=>?_⟩
  .rw[i];unfold Oi;rw[if_neg (by omega)]
  .have hs:=Ji l x c;refine ih x c _ (r x c) ?_;split<;>omega
theorem WD:∀x:Tm,x.tsz=x.sz:=by
 intro x;induction x using Tm.ind with
 |h k n t f l ih=>rw[Tm.tsz_mk,Tm.sz_mk];congr 2;exact ZD ih
theorem OH(h:¬(x.k=9\/x.k=10)):YE x=⟨x.k,x.n,Yn,Yn,x.l.map YE⟩:=by
 obtain⟨k,n,t,f,l⟩:=x;rw[KK];simp only at h ⊢;unfold M5;split
 .rename_i e;rw[if_neg h,e]
 .rfl
theorem PL{x:Tm}(h:x.k=9\/x.k=10)(hl:x.l.length=1):YE x=YE (x.at 0):=by
 obtain⟨k,n,t,f,l⟩:=x;match l,hl with
 |[y],_=>rw[KK];simp only[Zt,Z3,M5];rw[if_pos h];rfl
theorem OG:∀x:Tm,KX x->KX (YE x)/\(YE x).tsz<=x.tsz:=by
 intro x;induction x using Tm.ind with
 |h k n t f l ih=>
  intro h;obtain⟨⟨q,g,i,n1,n2,w,_⟩,d⟩:=Ll.1 h;by_cases hk:k=9\/k=10
  .have hl1:l.length=1:=by rw[i];rcases hk with rfl|rfl<;>rfl
   have e:=PL (x:=⟨k,n,t,f,l⟩) hk hl1;rw[e];have p:=Tm.at_mem (x:=⟨k,n,t,f,l⟩) (j:=0) (by simp only;omega);obtain⟨h1,h2⟩:=ih _ p (d _ p);have:=Uu (x:=⟨k,n,t,f,l⟩) (j:=0) (by simp only;omega);exact⟨h1,by omega⟩
  .rw[OH (x:=⟨k,n,t,f,l⟩) hk];refine⟨Ll.2 ⟨⟨q,g,by simpa using i,n1,n2,w,fun h=>absurd (.inr h) hk⟩,fun y u=>?_⟩,?_⟩
   .obtain⟨z,hz,rfl⟩:=List.mem_map.1 u;exact(ih z hz (d z hz)).1
   .rw[Tm.tsz_mk,Tm.tsz_mk];have:∀l:List Tm,(∀x,x∈l->(YE x).tsz<=x.tsz)->((l.map YE).map Tm.tsz).sum<=(l.map Tm.tsz).sum:=by
     intro l;induction l with
     |nil=>intro _;simp
     |cons y r ihr=>intro o;have a:=o y (by simp);have b:=ihr fun x c=>o x (by simp[c]);simp only[Zt,ZC];omega
    have:=this l fun x c=>(ih x c (d x c)).2;simp only;omega
def B6:(l:List Tm)->((x:Tm)->x∈l->Option Ty)->Option (List Ty)
 |[],_=>Za []
 |x::r,f=>(f x Z1).bind fun i=>(B6 r (fun z h=>f z (ZY _ h))).bind fun q=>Za (i::q)
def Y3:Tm->List Ty->Option Ty
 |⟨k,n,t,_,l⟩,takes=>(B6 l (fun x _=>Y3 x (Yt k t takes))).bind fun ts=>(YL k n t ts (Yt k t takes)).bind fun r=>if UM ts r.2=Zc then Za r.1 else I
def Jb:List Tm->List Ty->Option (List Ty)
 |[],_=>Za []
 |x::r,takes=>(Y3 x takes).bind fun i=>(Jb r takes).bind fun q=>Za (i::q)
theorem PD(takes:List Ty):∀(l:List Tm),B6 l (fun x _=>Y3 x takes)=Jb l takes
 |[]=>rfl
 |x::r=>by simp only[B6,Jb,PD takes r]
def XA(k n:Int)(t:Ty)(ts takes:List Ty):Option Ty:=(YL k n t ts takes).bind fun r=>if UM ts r.2=Zc then Za r.1 else I
theorem QM(k n:Int)(t f:Ty)(l:List Tm)(takes:List Ty):Y3 ⟨k,n,t,f,l⟩ takes =
  (Jb l (Yt k t takes)).bind fun ts=>XA k n t ts (Yt k t takes):=by
 rw[Y3,PD];rfl
theorem Og{takes:List Ty}:∀(l:List Tm)(c:Nat),(∀x,x∈l->∀c,(Xq x takes c).map Prod.snd=Y3 x takes)->(Y4 l takes c).map (fun ps=>ps.map fun p=>p.2.2)=Jb l takes
 |[],_,_=>rfl
 |x::r,c,h=>by
  simp only[Y4,Jb];rw[<-h x (by simp) c];have ih:=Og r (c+x.sz) fun z hz=>h z (by simp[hz]);rw[<-ih];cases Xq x takes c with
  |none=>rfl
  |some p=>
   cases Y4 r takes (c+x.sz) with
   |none=>rfl
   |some q=>rfl
theorem KC:∀(x:Tm)(takes:List Ty)(c:Nat),(Xq x takes c).map Prod.snd=Y3 x takes:=by
 intro x;induction x using Tm.ind with
 |h k n t f l ih=>
  intro takes c;rw[JZ,QM,<-Og l (c+1) fun z hz c=>ih z hz _ c];cases Y4 l (Yt k t takes) (c+1) with
  |none=>rfl
  |some ps=>
   simp only[Zl,Option.map_some,XA];cases YL k n t (ps.map fun p=>p.2.2) (Yt k t takes) with
   |none=>rfl
   |some r=>simp only[Zl];split<;>rfl
theorem NT:∀{l:List Tm}{takes ts:List Ty},Jb l takes=Za ts->ts.length=l.length/\∀j(h:j<l.length)(h':j<ts.length),Y3 l[j] takes=Za ts[j]
 |[],_,ts,h=>by
  rw[Jb] at h;cases h
  exact⟨rfl,fun j h=>by simp at h⟩
 |x::r,takes,ts,h=>by
  rw[Jb] at h;cases hx:Y3 x takes with
  |none=>rw[hx] at h;cases h
  |some i=>
   rw[hx] at h;simp only[Zl] at h;cases hr:Jb r takes with
   |none=>rw[hr] at h;cases h
   |some q=>
    rw[hr] at h;simp only[Zl] at h;cases h
    have ih:=NT hr;refine⟨by simp[ih.1],fun j h h'=>?_⟩;match j with
    |0=>exact hx
    |j+1=>exact ih.2 j (by simpa using h) (by simpa using h')
theorem Pl:∀(l:List Tm)(takes ts:List Ty),ts.length=l.length->(∀j(h:j<l.length)(h':j<ts.length),Y3 l[j] takes=Za ts[j])->Jb l takes=Za ts
 |[],_,ts,hl,_=>by have:ts=[]:=ZI hl;subst this;rfl
 |x::r,takes,[],hl,_=>by simp at hl
 |x::r,takes,i::q,hl,h=>by have h0:=h 0 (by simp) (by simp);simp only[ZE] at h0;rw[Jb,h0,Pl r takes q (by simpa using hl) fun j h1 h2=>h (j+1) (by simpa using h1) (by simpa using h2)];rfl
theorem NU:∀(l:List Tm)(takes:List Ty)(j:Nat)(h:j<l.length),Y3 l[j] takes=I->Jb l takes=I
 |[],_,j,h,_=>by simp at h
 |x::r,takes,0,_,e=>by simp only[ZE] at e;rw[Jb,e];rfl
 |x::r,takes,j+1,h,e=>by rw[Jb,NU r takes j (by simpa using h) (by simpa using e)];cases Y3 x takes<;>rfl
theorem Pk{x:Tm}{takes:List Ty}{i:Ty}(hok:JM x takes.length)(hT:∀u,u∈takes->Ym 4 u=Zc)(h:Y3 x takes=Za i):Ym (x.sz+4) i=Zc:=by
 rw[<-KC x takes 0] at h;cases hr:Xq x takes 0 with
 |none=>rw[hr] at h;cases h
 |some p=>rw[hr] at h;simp only[Option.map_some,Z6] at h;subst h;exact JQ x takes 0 p.1 p.2 hok hT hr
theorem SF(n:Int)(t:Ty)(takes:List Ty):XA 1 n t [] takes=Za (takes.getD n.toNat ⟨0,[]⟩):=by simp[XA,YL,UM]
theorem SH(n:Int)(t:Ty)(takes:List Ty):XA 2 n t [] takes=Za ⟨1,[]⟩:=by simp[XA,YL,UM]
theorem QX(n:Int)(t:Ty)(takes:List Ty):XA 3 n t [] takes=Za ⟨2,[]⟩:=by simp[XA,YL,UM]
theorem SG(n:Int)(t x y:Ty)(takes:List Ty):XA 4 n t [x,y] takes=if (YC Yk x ⟨1,[]⟩&&YC Yk y ⟨1,[]⟩)=Zc then Za ⟨1,[]⟩ else I:=by simp[XA,YL,UM]
theorem QY(n:Int)(t x y:Ty)(takes:List Ty):XA 5 n t [x,y] takes=if (YC Yk x ⟨1,[]⟩&&YC Yk y ⟨1,[]⟩)=Zc then Za ⟨2,[]⟩ else I:=by simp[XA,YL,UM]
theorem Vz(n:Int)(t x:Ty)(takes:List Ty)(a:YC Yk x x=Zc):XA 7 n t [x] takes=Za ⟨3,[t,x]⟩:=by simp[XA,YL,UM,a]
theorem VA(n:Int)(t x:Ty)(takes:List Ty):XA 9 n t [x] takes=if YC Yk x t=Zc then Za t else I:=by simp[XA,YL,UM]
theorem SJ(n:Int)(t y:Ty)(l:List Ty)(takes:List Ty):XA 8 n t [⟨0,l⟩,y] takes=Za ⟨0,[]⟩:=by
 have a:YC Yk ⟨0,l⟩ ⟨3,[⟨0,[]⟩,⟨0,[]⟩]⟩=Zc:=by rw[YV];rfl
 have b:YC Yk y ⟨0,[]⟩=Zc:=by obtain⟨k,m⟩:=y;rw[YV];simp[Yk]
 simp[XA,YL,X2,UM,a,b]
theorem QZ(n:Int)(t a b y:Ty)(takes:List Ty)(c:YC Yk ⟨3,[a,b]⟩ ⟨3,[a,b]⟩=Zc):XA 8 n t [⟨3,[a,b]⟩,y] takes=if YC Yk y a=Zc then Za b else I:=by simp[XA,YL,X2,UM,c]
theorem Qc(n:Int)(t y:Ty)(k:Int)(l:List Ty)(takes:List Ty)(a:k≠0)(b:k≠3):XA 8 n t [⟨k,l⟩,y] takes=I:=by simp[XA,YL,X2,a,b]
theorem Vy(n:Int)(t x y z:Ty)(takes:List Ty)(hj:YC Yk y z=Zc->YC Yk y (Xl y z)=Zc/\YC Yk z (Xl y z)=Zc):XA 6 n t [x,y,z] takes=if (YC Yk x ⟨2,[]⟩&&YC Yk y z)=Zc then Za (Xl y z) else I:=by
 simp only[XA,YL,T6];cases hf:YC Yk y z with
 |false=>simp[hf]
 |true=>have:=hj hf;cases hx:YC Yk x ⟨2,[]⟩<;>simp[hf,UM,hx,this.1,this.2]
def Y9(ar:Int):Tm->Int->Bool
 |⟨k,n,t,f,l⟩,own=>Uv ar own ⟨k,n,t,f,l⟩&&(l.map fun y=>Y9 ar y (Xm k own)).all id
theorem MZ(a k n:Int)(t f:Ty)(l:List Tm)(own:Int):Y9 a ⟨k,n,t,f,l⟩ own=(Uv a own ⟨k,n,t,f,l⟩&&l.all fun y=>Y9 a y (Xm k own)):=by rw[Y9,List.all_map];rfl
theorem Se{f:Tm->Nat->Option Nat}{Q:Tm->Bool}(n:Nat)(hf:∀y q,q<=n->f y q=if Q y=Zc/\y.sz<=q then Za (q-y.sz) else I):∀(l:List Tm)(r:Nat),r<=n->XK f l r=if l.all Q=Zc/\(l.map Tm.sz).sum<=r then Za (r-(l.map Tm.sz).sum) else I
 |[],r,_=>by simp[XK]
 |x::l,r,hr=>by
  simp only[XK,List.all_cons,Zt,ZC,Zy];rw[hf x r hr];by_cases h1:Q x=Zc/\x.sz<=r
  .rw[if_pos h1];simp only[Zl];rw[Se n hf l (r-x.sz) (by omega)];by_cases h2:l.all Q=Zc/\(l.map Tm.sz).sum<=r-x.sz
   .rw[if_pos h2,if_pos ⟨⟨h1.1,h2.1⟩,by omega⟩];congr 1;omega
   .rw[if_neg h2,if_neg (fun h=>h2 ⟨h.1.2,by omega⟩)]
  .rw[if_neg h1,if_neg (fun h=>h1 ⟨h.1.1,by omega⟩)];rfl
theorem RG(ar:Int):∀(n:Nat)(ins:Int)(x:Tm)(r:Nat),r<=n->Xo ar n ins x r=if Y9 ar x ins=Zc/\x.sz<=r then Za (r-x.sz) else I
 |0,ins,x,r,hr=>by have:=x.sz_pos;rw[if_neg (by omega)];simp[Xo]
 |n+1,ins,x,0,_=>by have:=x.sz_pos;rw[if_neg (by omega)];simp[Xo]
 |n+1,ins,⟨k,m,t,f,l⟩,r+1,hr=>by
  simp only[Xo];rw[MZ,Tm.sz_mk];by_cases h0:Uv ar ins ⟨k,m,t,f,l⟩=Zc
  .rw[if_pos h0,Se n (fun y q hq=>RG ar n (Xm k ins) y q hq) l r (by omega),h0];simp only[Bool.true_and];by_cases h2:(l.all fun y=>Y9 ar y (Xm k ins))=Zc/\(l.map Tm.sz).sum<=r
   .rw[if_pos h2,if_pos ⟨h2.1,by omega⟩];congr 1;omega
   .rw[if_neg h2,if_neg (fun h=>h2 ⟨h.1,by omega⟩)]
  .have h0':Uv ar ins ⟨k,m,t,f,l⟩=Zq:=by simpa using h0
   rw[if_neg h0,if_neg (by rw[h0'];simp)]
theorem RH(ar:Int)(x:Tm):Uh ar x=(decide (x.sz<41)&&Y9 ar x 0):=by
 unfold Uh;rw[RG ar 40 0 x 40 (Z _)];by_cases h:Y9 ar x 0=Zc/\x.sz<=40
 .rw[if_pos h,h.1];have:decide (x.sz<41)=Zc:=by simp;omega
  rw[this];rfl
 .rw[if_neg h];by_cases h1:x.sz<41
  .have:Y9 ar x 0=Zq:=by
    cases hr:Y9 ar x 0 with
    |false=>rfl
    |true=>exact absurd ⟨hr,by omega⟩ h
   rw[this];simp
  .have:decide (x.sz<41)=Zq:=by simp;omega
   rw[this];rfl
theorem SO(x:TT)(g own:Int)(w:Zi)(c:x.k<1\/9<x.k):
  Zv Ze 61 #[Zo #[F D x.k,F D x.n,F D x.t.k,L x.t.a x.t.l.length x.t.c,F D x.f.k,L x.f.a x.f.l.length x.f.c,L x.a x.l.length x.c],F D g,F D own] w fun e w'=>e=Zj (.bool Zq)/\Zz w.heap.size w w':=by
 obtain⟨W1,a⟩:∃W,W=w.alloc (Zn x.v 27):=⟨_,rfl⟩
 have b:bL w W1:=by rw[a];exact(Y _ _).alloc (Z _) _
 have d:=Yx b.drew;clear b;by_cases h1:x.k<1
 .have e1:decide (x.k<1)=Zc:=by simpa using h1
  clear c h1;go_enter ZW,ZR;go_upto_region 1 with fail;go_region
  rw[<-a];go_wp2_with fail;go_ret;exact⟨rfl,d.out⟩
 .have e1:decide (x.k<1)=Zq:=by simpa using h1
  have h:decide (9<x.k)=Zc:=by simp;omega
  clear c h1;go_enter ZW,ZR;go_upto_region 1 with fail;go_region
  rw[<-a];go_wp2_with fail;go_ret;exact⟨rfl,d.out⟩
theorem Q3(x:TT)(ar own:Int)(w:Zi)(hw:(Lit.int D x.k).wf=Zc)(h1:1<=x.k)(h9:x.k<=9)(hne:x.l.length≠YA x.k):
  Zv Ze 61 #[Zo #[F D x.k,F D x.n,F D x.t.k,L x.t.a x.t.l.length x.t.c,F D x.f.k,L x.f.a x.f.l.length x.f.c,L x.a x.l.length x.c],F D ar,F D own] w fun e w'=>e=Zj (.bool Zq)/\Zz w.heap.size w w':=by
 obtain⟨W1,a⟩:∃W,W=w.alloc (Zn x.v 27):=⟨_,rfl⟩
 have d:bL w W1:=by rw[a];exact(Y _ _).alloc (Z _) _
 have e1:decide (x.k<1)=Zq:=by simp;omega
 have e2:decide (9<x.k)=Zq:=by simp;omega
 obtain⟨k,c⟩:∃P:Int,P=(YA x.k:Int):=⟨_,rfl⟩
 have e3:((x.l.length:Int) != k)=Zc:=by simp;omega
 have HP:Zr (∀W,bL W1 W->Zv Ze 98 #[F D x.k] W fun e w'=>e=Zj (F D k)/\bL W1 w'):=fun W b=>by refine(M0 x.k hw W).mono ?_;rintro e w' ⟨rfl,g⟩;rw[c];exact⟨rfl,b.trans (g.mono b.size)⟩
 have p:X4 W1 w.heap.size 0 x:=by constructor<;>(rw[a];simp[go_sem])
 have j:Zr (∀W,bL W1 W->cL W w.heap.size 0 (F D x.k)/\cL W w.heap.size 4 (F D x.f.k)/\cL W w.heap.size 5 (x.f.s)/\cL W w.heap.size 6 (x.s)):=fun W b=>by obtain⟨y,a1,a2,a3,r,q,u⟩:=p.below b;simp only[Zh] at y a1 a2 a3 r q u;exact⟨y,r,q,u⟩
 have a7:Zr (cL W1 w.heap.size 0 (F D x.k)/\cL W1 w.heap.size 4 (F D x.f.k)/\cL W1 w.heap.size 5 (x.f.s)/\cL W1 w.heap.size 6 (x.s)):=j.out _ (Y _ _);have z:Zr (cL W1.drew w.heap.size 0 (F D x.k)/\cL W1.drew w.heap.size 4 (F D x.f.k)/\cL W1.drew w.heap.size 5 (x.f.s)/\cL W1.drew w.heap.size 6 (x.s)):=j.out _ ((Y _ _).drew);have o:=Yx d;have g:bL W1 W1.drew:=(Y _ _).drew;clear d h1 h9 hne hw p c;go_enter ZW,ZR;go_upto_region 1 with fail;rw[<-a];clear a;clear g;go_cut [33] (fun s33 wx=>s33=.bool Zc/\Zr (bL W1 wx))
 case first=>
  refine JD (C:=fun W=>bL W1 W) (by kernel_rfl) (by kernel_rfl) ((Y _ _).drew) ?_;iterate 24 (first
   |go_big_quiet_skip
   |(refine Ln (v:=?_) (by rfl) ?_ ?_;rotate_left;(focus (intro W b;obtain⟨d0,d4,d5,d6⟩:=j.out W b;have lw:w.heap.size<W.heap.size:=Zm _ _ d0;first|(go_simp;done)|(go_simp;with_reducible rfl)));simp only[Zu,Zb,Zf,Zg])
   |(refine Us (F D k) 98 #[F D x.k] (by rfl) ?_ (fun W b=>HP.out W b) ?_;(focus (intro W _;go_simp;done));simp only[Zu,Zb,Zf,Zg]))
  refine wpQuiet_nil ?_;intro wq l;have h:=Yx l;clear l;go_wp2_with fail;go_meet
  case rel=>exact⟨rfl,h⟩
 case rest=>obtain⟨i,h⟩:=hcut;subst i;have HN:=Yx (o.out.trans (h.out.mono o.out.size));go_wp2_with fail;go_ret;exact⟨rfl,HN.out⟩
theorem SP(x:TT)(ar own:Int)(w:Zi)(hx:x.In w)(hw:(Lit.int D x.k).wf=Zc)(h1:1<=x.k)(h9:x.k<=9)(hpp:x.l.length=YA x.k)(n:Nat)(hf:x.f.hgt<=n)(hs:x.f.sm)(hne:YC Yv x.f.ty ⟨0,[]⟩=Zq):
  Zv Ze 61 #[Zo #[F D x.k,F D x.n,F D x.t.k,L x.t.a x.t.l.length x.t.c,F D x.f.k,L x.f.a x.f.l.length x.f.c,L x.a x.l.length x.c],F D ar,F D own] w fun e w'=>e=Zj (.bool Zq)/\Zz w.heap.size w w':=by
 obtain⟨W1,b⟩:∃W,W=w.alloc (Zn x.v 27):=⟨_,rfl⟩
 have c:bL w W1:=by rw[b];exact(Y _ _).alloc (Z _) _
 have e1:decide (x.k<1)=Zq:=by simp;omega
 have e2:decide (9<x.k)=Zq:=by simp;omega
 obtain⟨j,d⟩:∃P:Int,P=(YA x.k:Int):=⟨_,rfl⟩
 have e3:((x.l.length:Int) != j)=Zq:=by simp;omega
 have HP:Zr (∀W,bL W1 W->Zv Ze 98 #[F D x.k] W fun e w'=>e=Zj (F D j)/\bL W1 w'):=fun W a=>by refine(M0 x.k hw W).mono ?_;rintro e w' ⟨rfl,g⟩;rw[d];exact⟨rfl,a.trans (g.mono a.size)⟩
 have y:Zr (∀W,bL W1 W->Zv Ze 56 #[] W fun e w'=>e=Zj (Zo #[F D 0,L I 0 0])/\bL W1 w'):=fun W a=>by refine(UO W).mono ?_;rintro e w' ⟨rfl,rfl⟩;exact⟨rfl,a.alloc a.size _⟩
 have HS:Zr (∀W,bL W1 W->Zv Ze 39 #[Zo x.f.v,Zo #[F D 0,L I 0 0]] W fun e w'=>e=Zj (.bool Zq)/\bL W1 w'):=fun W a=>by have:=Xz n x.f (Yr 0) W ((hx.below (c.trans (a.mono c.size))).f) (YB 0 W) hf hs;rw[XS,hne] at this;refine this.mono ?_;rintro e w' ⟨rfl,g⟩;exact⟨rfl,a.trans (g.mono a.size)⟩
 have o:X4 W1 w.heap.size 0 x:=by constructor<;>(rw[b];simp[go_sem])
 have HK:Zr (∀W,bL W1 W->cL W w.heap.size 0 (F D x.k)/\cL W w.heap.size 4 (F D x.f.k)/\cL W w.heap.size 5 (x.f.s)/\cL W w.heap.size 6 (x.s)):=fun W a=>by obtain⟨u,a1,a2,z,q,p,r⟩:=o.below a;simp only[Zh] at u a1 a2 z q p r;exact⟨u,q,p,r⟩
 have l:=Yx c;clear c h1 h9 hne hw o d hx hf hs hpp;go_enter ZW,ZR;go_upto_region 1 with fail;rw[<-b];clear b;go_cut [33] (fun s33 wx=>s33=.bool Zc/\Zr (bL W1 wx))
 case first=>
  refine JD (C:=fun W=>bL W1 W) (by kernel_rfl) (by kernel_rfl) ((Y _ _).drew) ?_;iterate 24 (first
   |go_big_quiet_skip
   |(refine Ln (v:=?_) (by rfl) ?_ ?_;rotate_left;(focus (intro W a;obtain⟨d0,d4,d5,d6⟩:=HK.out W a;have lw:w.heap.size<W.heap.size:=Zm _ _ d0;first|(go_simp;done)|(go_simp;with_reducible rfl)));simp only[Zu,Zb,Zf,Zg])
   |(refine Us (F D j) 98 #[F D x.k] (by rfl) ?_ (fun W a=>HP.out W a) ?_;(focus (intro W _;go_simp;done));simp only[Zu,Zb,Zf,Zg])
   |(refine Us (Zo #[F D 0,L I 0 0]) 56 #[] (by rfl) ?_ (fun W a=>y.out W a) ?_;(focus (intro W _;go_simp;done));simp only[Zu,Zb,Zf,Zg])
   |(refine Us (.bool Zq) 39 #[Zo #[F D x.f.k,L x.f.a x.f.l.length x.f.c],Zo #[F D 0,L I 0 0]] (by rfl) ?_ (fun W a=>HS.out W a) ?_;(focus (intro W _;go_simp;done));simp only[Zu,Zb,Zf,Zg]))
  refine wpQuiet_nil ?_;intro wq k;have h:=Yx k;clear k;go_wp2_with fail;go_meet
  case rel=>exact⟨rfl,h⟩
 case rest=>obtain⟨i,h⟩:=hcut;subst i;have HN:=Yx (l.out.trans (h.out.mono l.out.size));go_wp2_with fail;go_ret;exact⟨rfl,HN.out⟩
theorem OU{f t:Ty}{o:Xy}(hf:Ym 46 f=Zc)(ht:Ym 46 t=Zc)(h:YC Yk f t=Zc)(ho:o.k=4):UE (Yq f t o) f t:=LI 100 46 f t o hf ht h ho (by split<;>omega)
theorem BL{U:YK}{g a:Option Ca}{s1 s2 t1 t2:Ty}(h:Ur U (YN s1 s2))(b:UE g t1 s1)(d:UE a s2 t2):Ur (Y2 U g a) (YN t1 t2):=by
 rcases Mo U g a with⟨rfl,rfl,e⟩|e
 .rw[e];rw[XL] at b d;rw[b,<-d];exact h
 .rw[e];exact NW (c:=⟨Zq,Yl,3,Yl,g,a,Zq⟩) h b d
theorem Qr{t:Ty}(g:Ym 46 t=Zc)(c:t.k=3):∃a b,t=YN a b/\Ym 45 a=Zc/\Ym 45 b=Zc:=by
 rcases Yy g with⟨k,rfl,h⟩|⟨a,b,rfl,d,e⟩
 .simp only at c;omega
 .exact⟨a,b,rfl,d,e⟩
theorem Ai{v:Th}(q:h.wy=2)(p:Wv R Q w h v):Ur h.cv h.t.ty:=by
 obtain⟨o,x,j,g,u⟩:=Qr p.tg (by rw[Tr.ty_k];exact p.tk);obtain⟨i,y,e,l,r⟩:=Qr p.fg (by rw[Tr.ty_k];exact p.fk);have b:=p.fits;rw[e,j,YN,YN,QD _ _ _ _ _ rfl] at b;obtain⟨d,c⟩:YC Yk i o=Zc/\YC Yk y x=Zc:=by simpa using b
 have a:YC Yk o i=Zc:=by rw[KJ 45 _ _ g l];exact d
 have k:=p.ty;rw[Th.cv_eq,q,if_neg (by decide),if_pos rfl,p.inn,j,e];rw[e] at k;exact BL k (OU (YH 45 46 _ (by omega) g) (YH 45 46 _ (by omega) l) a rfl) (OU (YH 45 46 _ (by omega) r) (YH 45 46 _ (by omega) u) c rfl)
theorem Th.In.cty{m:Bool}{M R:Nat}{Q:Nat->Prop}{w:Zi}{h:Th}:h.In m M R Q w->h.ok->Ur h.cv h.t.ty/\Ur h.val h.tyo:=by
 induction h using Th.ind with
 |h h ie ii=>
  intro hi q;obtain⟨x,o⟩:=Th.ok_iff.1 q;have a:Ur h.cv h.t.ty:=by
   rcases Th.In_iff.1 hi with⟨b,p⟩|⟨h1,c,he⟩|⟨r,_,⟨v,p⟩,_⟩
   .rw[Th.cv_eq,b,if_neg (by decide),if_neg (by decide)];rcases o with⟨_,⟨g,e⟩|⟨g,e⟩⟩|⟨k,_⟩|⟨k,_⟩
    .rw[g,if_pos rfl,e];exact MR _
    .rw[g,if_neg (by decide),e];exact Li _
    .omega
    .omega
   .rw[Th.cv_eq,h1,if_pos rfl];rcases o with⟨k,_⟩|⟨_,⟨A,B,e,u⟩,i⟩|⟨k,_⟩
    .omega
    .rw[e];refine Pm u ⟨by simp,fun j l l'=>?_⟩;simp only[List.getElem_map];have d:h.env[j]'(by simpa using l)∈h.env:=Zk _;exact(ie _ d (he _ d) (i _ d)).2
    .omega
   .exact Ai r p
  refine⟨a,?_⟩;unfold Th.val Th.tyo;rcases x with b|⟨y,z⟩
  .rw[if_pos b,if_pos b];exact a
  .rw[if_neg (by omega),if_neg (by omega)];exact Nh y (z▸a)
theorem OY.tys{m:Bool}{ea:Option ZM}{E:List Th}(h:OY m M R Q w ea E)(b:∀e,e∈E->e.ok):C9 (E.map Th.val) (E.map Th.tyo):=by refine⟨by simp,fun j l l'=>?_⟩;simp only[List.getElem_map];have a:E[j]'(by simpa using l)∈E:=Zk _;exact((h.ins _ a).cty (b _ a)).2
def Wu(v:Th)(f t:Tr)(h:Th):Prop:=v.ok->v.tyo=f.ty->h.ok/\h.tyo=t.ty
theorem Th.In.kinds{m:Bool}(hi:h.In m M R Q w):(h.tag≠0/\h.val.k=5)\/(h.tag=0/\h.val=h.cv/\((h.k=1/\h.val=XF h.n)\/(h.k=2/\h.val=Xk h.n)\/(h.k=3/\(h.val.k=3\/h.val.k=4)/\(h.wy=1\/h.wy=2)))):=by
 by_cases h0:h.tag=0
 .refine .inr ⟨h0,by unfold Th.val;rw[if_pos h0],?_⟩;have e:h.val=h.cv:=by unfold Th.val;rw[if_pos h0]
  rw[e];rcases Th.In_iff.1 hi with⟨b,p⟩|⟨g,c,k⟩|⟨d,_,⟨v,p⟩,_⟩
  .rw[Th.cv_eq,b,if_neg (by decide),if_neg (by decide)];rcases p.k with a|a
   .rw[a,if_pos rfl];exact .inl ⟨rfl,rfl⟩
   .rw[a,if_neg (by decide)];exact .inr (.inl ⟨rfl,rfl⟩)
  .refine .inr (.inr ⟨c.k,.inl ?_,.inl g⟩);rw[Th.cv_eq,g,if_pos rfl];rfl
  .have:=Ai d p;obtain⟨l,j,i,_,_⟩:=Qr p.tg (by rw[Tr.ty_k];exact p.tk);rw[i] at this;refine .inr (.inr ⟨p.k,?_,.inr d⟩);rcases J8 this with⟨h,_⟩|⟨h,_⟩
   .exact .inl h
   .exact .inr h
 .refine .inl ⟨h0,?_⟩;unfold Th.val;rw[if_neg h0];rfl
def Lf(M R n:Nat)(Q:Nat->Prop)(w:Zi)(o:Xy×YK)(P:Th->Prop)(e:Ending)(w':Zi):Prop:=Yi R I w w'/\((o.1.k≠0/\e=Zj X0/\Wl R n o.1 w')\/(o.1=Yl/\Wl R n Yl w'/\∃h:Th,e=Zj h.ag/\h.In Zc M R Q w'/\h.val=o.2/\P h))
structure Dw(w:Zi)(b o:Nat)(t:Tr):Prop where
 c0:w.cell? ⟨b,o,I⟩=Za (F D t.k)
 c1:w.cell? ⟨b,o+1,I⟩=Za (L t.a t.l.length t.c)
structure LB(R:Nat)(v:Th)(f t:Tr)(no:Int)(back:Bool)(w W:Zi):Prop where
 sz:w.heap.size+6<W.heap.size
 w0:W.cell? ⟨w.heap.size,0,I⟩=Za (Zs (Za ⟨R,0,I⟩))
 v4:Ph W (w.heap.size+1) 0 v
 f2:Dw W (w.heap.size+1+1) 0 f
 t2:Dw W (w.heap.size+1+1+1) 0 t
 n0:W.cell? ⟨w.heap.size+1+1+1+1,0,I⟩=Za (F D no)
 b0:W.cell? ⟨w.heap.size+1+1+1+1+1,0,I⟩=Za (.bool back)
 r:Rb W (w.heap.size+1+1+1+1+1+1)
 z:∀i,W.frozen? ⟨w.heap.size+1,i,I⟩=Zq
def T4(R:Nat)(v:Th)(f t:Tr)(no:Int)(back:Bool)(w:Zi):Zi:=((((((w.alloc (Zn #[Zs (Za ⟨R,0,I⟩)] 98)).alloc (Zn #[F D v.k,F D v.n,v.fn,F D v.tag] 103)).alloc (Zn #[F D f.k,L f.a f.l.length f.c] 24)).alloc (Zn #[F D t.k,L t.a t.l.length t.c] 24)).alloc (Zn #[F D no] 3)).alloc (Zn #[.bool back] 4)).alloc (Zn #[F D 0,F D 0,.nilFunc,F D 0] 103)
theorem Qo(R:Nat)(v:Th)(f t:Tr)(b:Int)(a:Bool)(w:Zi):Zz w.heap.size w (T4 R v f t b a w):=by unfold T4;exact(((((((Y _ _).alloc (Z _) _).alloc (by simp) _).alloc (by simp;omega) _).alloc (by simp;omega) _).alloc (by simp;omega) _).alloc (by simp;omega) _).alloc (by simp;omega) _
theorem MD(R:Nat)(v:Th)(f t:Tr)(b:Int)(a:Bool)(w:Zi):LB R v f t b a w (T4 R v f t b a w):=by
 refine⟨?_,?_,⟨?_,?_,?_,?_⟩,⟨?_,?_⟩,⟨?_,?_⟩,?_,?_,⟨?_,?_,?_,?_,?_,?_,?_,?_⟩,?_⟩
 .unfold T4;simp
 all_goals (try intro i)
 all_goals (unfold T4;simp[go_sem])
theorem LB.below{v:Th}{f t:Tr}(h:LB R v f t no back w W)(a:Zz W.heap.size W V):LB R v f t no back w V:=by have d:=h.sz;have c:∀b i,b<=w.heap.size+6->V.cell? ⟨b,i,I⟩=W.cell? ⟨b,i,I⟩:=fun b i h=>a.cell (p:=⟨b,i,I⟩) (show b<_ by omega);have fz:∀b i,b<=w.heap.size+6->V.frozen? ⟨b,i,I⟩=W.frozen? ⟨b,i,I⟩:=fun b i h=>a.frozen (p:=⟨b,i,I⟩) (show b<_ by omega);exact⟨by have:=a.size;omega,(c _ _ (by omega)).trans h.w0,h.v4.of fun i=>c _ i (by omega),⟨(c _ _ (by omega)).trans h.f2.c0,(c _ _ (by omega)).trans h.f2.c1⟩,⟨(c _ _ (by omega)).trans h.t2.c0,(c _ _ (by omega)).trans h.t2.c1⟩,(c _ _ (by omega)).trans h.n0,(c _ _ (by omega)).trans h.b0,h.r.below a,fun i=>(fz _ _ (by omega)).trans (h.z i)⟩
theorem LB.kept{v:Th}{f t:Tr}(h:LB R v f t no back w W)(a:Yi R I W V)(d:R<w.heap.size):LB R v f t no back w V:=by have g:=h.sz;have c:∀b i u,cL W b i u->w.heap.size<=b->cL V b i u:=fun b i u h e=>a.cell h (by omega);exact⟨by have:=a.size;omega,c _ _ _ h.w0 (by omega),⟨c _ _ _ h.v4.c0 (by omega),c _ _ _ h.v4.c1 (by omega),c _ _ _ h.v4.c2 (by omega),c _ _ _ h.v4.c3 (by omega)⟩,⟨c _ _ _ h.f2.c0 (by omega),c _ _ _ h.f2.c1 (by omega)⟩,⟨c _ _ _ h.t2.c0 (by omega),c _ _ _ h.t2.c1 (by omega)⟩,c _ _ _ h.n0 (by omega),c _ _ _ h.b0 (by omega),h.r.kept a (by omega),fun i=>a.fz (h.z i) (by omega) (by omega)⟩
theorem LB.put{v:Th}{f t:Tr}(h:LB R v f t no back w W)(x:Th):LB R x f t no back w ((((W.setCell ⟨w.heap.size+1,0,I⟩ (F D x.k)).setCell ⟨w.heap.size+1,1,I⟩ (F D x.n)).setCell ⟨w.heap.size+1,2,I⟩ x.fn).setCell ⟨w.heap.size+1,3,I⟩ (F D x.tag))/\Yi (w.heap.size+1) I W ((((W.setCell ⟨w.heap.size+1,0,I⟩ (F D x.k)).setCell ⟨w.heap.size+1,1,I⟩ (F D x.n)).setCell ⟨w.heap.size+1,2,I⟩ x.fn).setCell ⟨w.heap.size+1,3,I⟩ (F D x.tag)):=by
 have a:Yi (w.heap.size+1) I W ((((W.setCell ⟨w.heap.size+1,0,I⟩ (F D x.k)).setCell ⟨w.heap.size+1,1,I⟩ (F D x.n)).setCell ⟨w.heap.size+1,2,I⟩ x.fn).setCell ⟨w.heap.size+1,3,I⟩ (F D x.tag)):=((Yj.trans Yj).trans Yj).trans Yj;obtain⟨v0,v1,v2,v3⟩:=h.v4;simp only[Zh] at v1 v2 v3;have hz:=h.z;refine⟨⟨?_,a.cell h.w0 (by omega),⟨?_,?_,?_,?_⟩,⟨a.cell h.f2.c0 (by omega),a.cell h.f2.c1 (by omega)⟩,⟨a.cell h.t2.c0 (by omega),a.cell h.t2.c1 (by omega)⟩,a.cell h.n0 (by omega),a.cell h.b0 (by omega),h.r.kept a (by omega),fun i=>?_⟩,a⟩
 .have:=h.sz;have:=a.size;omega
 all_goals simp[go_sem,v0,v1,v2,v3,hz]
theorem LB.mark{v:Th}{f t:Tr}(h:LB R v f t no back w W)(s:Int):LB R {v with tag:=s} f t no back w (W.setCell ⟨w.heap.size+1,3,I⟩ (F D s))/\Yi (w.heap.size+1) I W (W.setCell ⟨w.heap.size+1,3,I⟩ (F D s)):=by
 have a:Yi (w.heap.size+1) I W (W.setCell ⟨w.heap.size+1,3,I⟩ (F D s)):=Yj;obtain⟨v0,v1,v2,v3⟩:=h.v4;simp only[Zh] at v1 v2 v3;have hz:=h.z;refine⟨⟨?_,a.cell h.w0 (by omega),⟨?_,?_,?_,?_⟩,⟨a.cell h.f2.c0 (by omega),a.cell h.f2.c1 (by omega)⟩,⟨a.cell h.t2.c0 (by omega),a.cell h.t2.c1 (by omega)⟩,a.cell h.n0 (by omega),a.cell h.b0 (by omega),h.r.kept a (by omega),fun i=>?_⟩,a⟩
 .have:=h.sz;have:=a.size;omega
 all_goals simp[go_sem,v0,v1,v2,v3,hz]
def SK(R b0:Nat)(W1 W:Zi):Prop:=∀b i u,W1.cell? ⟨b,i,I⟩=Za u->b≠R->b≠b0->W.cell? ⟨b,i,I⟩=Za u
theorem SK.refl(R b0:Nat)(W:Zi):SK R b0 W W:=fun _ _ _ h _ _=>h
theorem SK.drew(h:SK R b0 W1 W):SK R b0 W1 W.drew:=h
theorem SK.kept(h:SK R b0 W1 W)(hk:Yi R I W V):SK R b0 W1 V:=fun b i u e h1 h2=>hk.cell (h b i u e h1 h2) h1
theorem SK.set(h:SK R b0 W1 W)(i:Nat)(v:ZF):SK R b0 W1 (W.setCell ⟨b0,i,I⟩ v):=fun b j u e h1 h2=>by rw[World.cell?_setCell_far _ _ _ _ (by intro e;exact h2 e.symm)];exact h b j u e h1 h2
theorem Ui{m:Bool}{n:Nat}{Q1:Nat->Prop}{w2:Zi}{o:Xy}(j:Rb w2 b)(k:w.heap.size<=b)(q:R<w.heap.size)(d:Yi R I w w2)(g:Wl R n o w2)(i:h.In m M R Q1 w2)(c:∀x,Q1 x->Q x/\x≠b):
  (((((w2.setCell ⟨b,0,I⟩ (F D h.k)).setCell ⟨b,1,I⟩ (F D h.n)).setCell ⟨b,2,I⟩ h.fn).setCell ⟨b,3,I⟩ (F D h.tag)).cell? ⟨b,0,I⟩=Za (F D h.k)/\((((w2.setCell ⟨b,0,I⟩ (F D h.k)).setCell ⟨b,1,I⟩ (F D h.n)).setCell ⟨b,2,I⟩ h.fn).setCell ⟨b,3,I⟩ (F D h.tag)).cell? ⟨b,1,I⟩=Za (F D h.n)/\((((w2.setCell ⟨b,0,I⟩ (F D h.k)).setCell ⟨b,1,I⟩ (F D h.n)).setCell ⟨b,2,I⟩ h.fn).setCell ⟨b,3,I⟩ (F D h.tag)).cell? ⟨b,2,I⟩=Za h.fn/\((((w2.setCell ⟨b,0,I⟩ (F D h.k)).setCell ⟨b,1,I⟩ (F D h.n)).setCell ⟨b,2,I⟩ h.fn).setCell ⟨b,3,I⟩ (F D h.tag)).cell? ⟨b,3,I⟩=Za (F D h.tag))/\
  Yi R I w ((((w2.setCell ⟨b,0,I⟩ (F D h.k)).setCell ⟨b,1,I⟩ (F D h.n)).setCell ⟨b,2,I⟩ h.fn).setCell ⟨b,3,I⟩ (F D h.tag))/\Wl R n o ((((w2.setCell ⟨b,0,I⟩ (F D h.k)).setCell ⟨b,1,I⟩ (F D h.n)).setCell ⟨b,2,I⟩ h.fn).setCell ⟨b,3,I⟩ (F D h.tag))/\h.In m M R Q ((((w2.setCell ⟨b,0,I⟩ (F D h.k)).setCell ⟨b,1,I⟩ (F D h.n)).setCell ⟨b,2,I⟩ h.fn).setCell ⟨b,3,I⟩ (F D h.tag)):=by
 obtain⟨l,a⟩:=j.set (F D h.k) (F D h.n) h.fn (F D h.tag);exact⟨l,d.new a k,g.same a (by omega),(i.same (XJ.of_kept a fun e=>(c b e).2 rfl)).mono fun x _ p=>(c x p).1⟩
def NG(s:Nat)(v:Th)(f t:Tr)(no:Int)(back:Bool):Th:=⟨3,0,.func (.func 131) #[] #[Zs (Za ⟨s,0,I⟩),Zs (Za ⟨s+1+1+1,0,I⟩),Zs (Za ⟨s+1+1,0,I⟩),Zs (Za ⟨s+1+1+1+1,0,I⟩),Zs (Za ⟨s+1+1+1+1+1,0,I⟩),Zs (Za ⟨s+1,0,I⟩)],0,2,s,s+1+1+1,s+1+1,s+1+1+1+1,s+1+1+1+1+1,s+1,v.x,I,0,[],f,t,no,back,[v]⟩
theorem Aj(s:Nat)(v:Th)(f t:Tr)(b:Int)(a:Bool):(NG s v f t b a).val=Y2 v.cv (Yq (t.ty.l.getD 0 Yn) (f.ty.l.getD 0 Yn) (J9 ⟨4,b,a⟩)) (Yq (f.ty.l.getD 1 Yn) (t.ty.l.getD 1 Yn) ⟨4,b,a⟩):=by unfold Th.val;rw[if_pos (show (NG s v f t b a).tag=0 from rfl),Th.cv_eq];rfl
theorem BY{v:Th}{f t:Tr}(a:LB R v f t no back w W)(k:Zz w.heap.size w W)(hv:v.In Zc M R Q w)(q:f.In w)(r:t.In w)(z:f.Bl Q)(u:t.Bl Q)(o:f.k=3)(l:t.k=3)(g:Ym 46 f.ty=Zc)(p:Ym 46 t.ty=Zc)(d:YC Yk f.ty t.ty=Zc)(i:Ur v.cv f.ty)(j:v.tag=0)(c:∀b,w.heap.size<=b->Q b):
  (NG w.heap.size v f t no back).In Zc M R (fun x=>Q x/\x≠w.heap.size+1+1+1+1+1+1) W:=by
 refine Th.In_iff.2 (.inr (.inr ⟨rfl,rfl,⟨v,?_⟩,fun e he=>?_⟩))
 .refine⟨rfl,rfl,rfl,⟨c _ ?_,?_⟩,⟨c _ ?_,?_⟩,⟨c _ ?_,?_⟩,⟨c _ ?_,?_⟩,⟨c _ ?_,?_⟩,⟨c _ ?_,?_⟩,a.w0,a.t2.c0,a.t2.c1,a.f2.c0,a.f2.c1,a.n0,a.b0,a.v4,r.below k,q.below k,(u.and r.bl).mono fun b h=>⟨h.1,by omega⟩,(z.and q.bl).mono fun b h=>⟨h.1,by omega⟩,p,g,l,o,d,i,j⟩
  all_goals (simp only[NG];omega)
 .have:e=v:=by simpa[NG] using he
  subst this;exact(hv.mono (Q':=fun x=>Q x/\x≠w.heap.size+1+1+1+1+1+1) fun x h1 y=>⟨y,by omega⟩).same (XJ.of_below k)
theorem NY{md:Region.Mode}{Q:Exit->Act->Zi->Prop}{S:Zi->Prop}{i j:Nat}{o':Oper}{fuel:Nat}{listed:Array Bool}(ho:ops.toList[i]?=Za o)(ho':ops.toList[j]?=Za o')(hr:Region.ready md ops listed=[i,j])
  (h:∀K':Act->Zi->Prop,Shut (∀a w,S w->(S w->wpAnyH P md ops Q S fuel (listed.setIfInBounds i Zc) a w)->K' a w)->if Z0 o (yielded ops a.tmps)=Zc then Oper.wp P o a w K' Q else K' (a.put o.dst undef) w)
  (h':∀K':Act->Zi->Prop,Shut (∀a w,S w->(S w->wpAnyH P md ops Q S fuel (listed.setIfInBounds j Zc) a w)->K' a w)->if Z0 o' (yielded ops a.tmps)=Zc then Oper.wp P o' a w K' Q else K' (a.put o'.dst undef) w):wpAnyH P md ops Q S (fuel+1) listed a w:=
 wpAnyH_ready hr (by simp) (AllReadyH.cons (o:=o) (by simpa using ho) h (AllReadyH.cons (o:=o') (by simpa using ho') h' AllReadyH.nil))
theorem YS{md:Region.Mode}{Q:Exit->Act->Zi->Prop}{S:Zi->Prop}{i:Nat}{fuel:Nat}{listed:Array Bool}(ho:ops.toList[i]?=Za o)(hr:Region.ready md ops listed=[i])
  (h:∀K':Act->Zi->Prop,Shut (∀a w,S w->(S w->wpAnyH P md ops Q S fuel (listed.setIfInBounds i Zc) a w)->K' a w)->if Z0 o (yielded ops a.tmps)=Zc then Oper.wp P o a w K' Q else K' (a.put o.dst undef) w):wpAnyH P md ops Q S (fuel+1) listed a w:=
 wpAnyH_ready hr (by simp) (AllReadyH.cons (o:=o) (by simpa using ho) h AllReadyH.nil)
theorem Yw{a:ZM}{v:ZF}{m:Mode}(h:v.oneCell'=Zc):(store a v m).run P w=stored P w a v m:=run_store P w a v m h
theorem VZ(M R n:Nat)(Q:Nat->Prop)(v:Th)(f t:Tr)(k:Int)(c:Bool)(w:Zi)(y:v.In Zc M R Q w)(hf:f.In w)(ht:t.In w)(r:YC Yv f.ty t.ty=Zc)(hh:f.hgt<=1000)(hm:f.sm)(q:Wl R n Yl w)(hQ:¬Q R)(nw:∀b,w.heap.size<=b->Q b):
  Zv Ze 97 #[Zs (Za ⟨R,0,I⟩),Zo #[F D v.k,F D v.n,v.fn,F D v.tag],Zo #[F D f.k,L f.a f.l.length f.c],Zo #[F D t.k,L t.a t.l.length t.c],F D k,.bool c] w (Lf M R n Q w (Xd (Yq f.ty t.ty ⟨4,k,c⟩) v.val) (Wu v f t)):=by
 obtain⟨W1,d⟩:∃W,W=T4 R v f t k c w:=⟨_,rfl⟩
 have hB:LB R v f t k c w W1:=by rw[d];exact MD R v f t k c w
 have i:bL w W1:=by rw[d];exact Qo R v f t k c w
 have HB:=Un hB i;have j:=y.one;have a1:∀(a:ZM)(m:Mode)(W:Zi),(store a v.fn m).run Ze W=stored Ze W a v.fn m:=fun a m W=>Yw j;have HS:Zr (∀W,bL W1 W->Zv Ze 39 #[Zo f.v,Zo t.v] W fun e w'=>e=Zj (.bool Zc)/\bL W w'):=fun W hb=>by have p:=i.trans (hb.mono i.size);have:=Xz 1000 f t W (hf.below p) (ht.below p) hh hm;rw[r] at this;exact this
 have HV:=Nm y q hQ nw;have HC:Zr (Xd (Yq f.ty t.ty ⟨4,k,c⟩) v.val=(Yl,v.val)):=Bo r;have z:Zr (Wu v f t v):=fun ho he=>⟨ho,he.trans (KZ _ _ r)⟩
 have lr:=q.lt;have u:=q.below i;obtain⟨c0,c1,c2,c3,z0,z1,z2,z3⟩:=u;replace c1:cL W1 R 1 (F D 0):=c1;clear y q hQ nw r hf ht hm hh j;obtain⟨ls,q0,⟨v0,v1,v2,v3⟩,⟨f0,f1⟩,⟨t0,t1⟩,n0,b0,⟨r0,r1,r2,r3,y0,y1,y2,y3⟩,_⟩:=hB;simp only[Zh] at v1 v2 v3 f1 t1;go_enter Z7,Z4;go_upto_region 1 with fail;unfold T4 at d;rw[<-d];clear d;go_wp2_with (go_at_call 39;refine(HS.out _ (Y _ _)).mono ?_;rintro e w2 ⟨rfl,o⟩;have g:Zr (LB R v f t k c w w2/\bL w w2):=⟨HB.out.1.below o,HB.out.2.trans (o.mono HB.out.2.size)⟩;clear o v0 v1 v2 v3 f0 f1 t0 t1 n0 b0 r0 r1 r2 r3 y0 y1 y2 y3 q0 c0 c1 c2 c3 z0 z1 z2 z3;obtain⟨a0,q0,⟨v0,v1,v2,v3⟩,_,_,_,_,⟨r0,r1,r2,r3,y0,y1,y2,y3⟩,_⟩:=g.out.1;simp only[Zh] at v1 v2 v3)
 have l:=Ui (m:=Zc) (M:=M) (Q:=Q) (Q1:=fun x=>Q x/\x<w.heap.size) (h:=v) g.out.1.r (by omega) lr (Yi.of_below g.out.2) (HV.out.2.1.below g.out.2) ((HV.out.1.mono (Q':=fun x=>Q x/\x<w.heap.size) fun x h1 o=>⟨o,h1⟩).same (XJ.of_below g.out.2)) (fun x hx=>⟨hx.1,by omega⟩);obtain⟨⟨e0,e1,e2,e3⟩,hk,hW,hi⟩:=l;refine Zw (v:=v.ag) ?_ rfl ⟨hk,.inr ⟨by rw[HC.out],hW,v,rfl,hi,by rw[HC.out],z.out⟩⟩;simp[results,ZJ,go_sem,Th.ag,e0,e1,e2,e3]
theorem AX(M R n:Nat)(Q:Nat->Prop)(v:Th)(f t:Tr)(d:Int)(c:Bool)(w:Zi)(hv:v.In Zc M R Q w)(hf:f.In w)(ht:t.In w)(hs:YC Yv f.ty t.ty=Zq)(r:f.k=3)(y:t.k=3)(a3:Ym 46 f.ty=Zc)(a2:Ym 46 t.ty=Zc)(a0:YC Yk f.ty t.ty=Zc)(i:Ur v.val f.ty)(fb:f.Bl Q)(tb:t.Bl Q)(hh:f.hgt<=1000)(hm:f.sm)(hw:Wl R n Yl w)(hQ:¬Q R)(nw:∀b,w.heap.size<=b->Q b):
  Zv Ze 97 #[Zs (Za ⟨R,0,I⟩),Zo #[F D v.k,F D v.n,v.fn,F D v.tag],Zo #[F D f.k,L f.a f.l.length f.c],Zo #[F D t.k,L t.a t.l.length t.c],F D d,.bool c] w (Lf M R n Q w (Xd (Yq f.ty t.ty ⟨4,d,c⟩) v.val) (Wu v f t)):=by
 obtain⟨W1,l⟩:∃W,W=T4 R v f t d c w:=⟨_,rfl⟩
 have hB:LB R v f t d c w W1:=by rw[l];exact MD R v f t d c w
 have u:bL w W1:=by rw[l];exact Qo R v f t d c w
 have HB:=Un hB u;have a1:=hv.one;have ae:∀(a:ZM)(m:Mode)(W:Zi),(store a v.fn m).run Ze W=stored Ze W a v.fn m:=fun a m W=>Yw a1;have HS:Zr (∀W,bL W1 W->Zv Ze 39 #[Zo f.v,Zo t.v] W fun e w'=>e=Zj (.bool Zq)/\bL W w'):=fun W hb=>by have a6:=u.trans (hb.mono u.size);have:=Xz 1000 f t W (hf.below a6) (ht.below a6) hh hm;rw[hs] at this;exact this
 obtain⟨f0,p,g⟩:∃f0 p,f.ty=YN f0 p/\Ym 45 f0=Zc/\Ym 45 p=Zc:=by
  rcases Yy a3 with⟨k,e,hk⟩|⟨a,b,e,ha,hb⟩
  .have:=f.ty_k;rw[e,r] at this;simp only at this;omega
  .exact⟨a,b,e,ha,hb⟩
 obtain⟨t0,q,o⟩:∃t0 q,t.ty=YN t0 q/\Ym 45 t0=Zc/\Ym 45 q=Zc:=by
  rcases Yy a2 with⟨k,e,hk⟩|⟨a,b,e,ha,hb⟩
  .have:=t.ty_k;rw[e,y] at this;simp only at this;omega
  .exact⟨a,b,e,ha,hb⟩
 have z:v.tag=0:=by
  by_cases h0:v.tag=0
  .exact h0
  .rw[g.1] at i;unfold Th.val at i;rw[if_neg h0] at i;rcases J8 i with⟨h,_⟩|⟨h,_⟩<;>cases h
 have a4:v.val=v.cv:=by unfold Th.val;rw[if_pos z]
 have HC:Zr (Xd (Yq f.ty t.ty ⟨4,d,c⟩) v.val=(Yl,Y2 v.cv (Yq (t.ty.l.getD 0 Yn) (f.ty.l.getD 0 Yn) (J9 ⟨4,d,c⟩)) (Yq (f.ty.l.getD 1 Yn) (t.ty.l.getD 1 Yn) ⟨4,d,c⟩))):=by
  show _=_
  rw[g.1,o.1,OV g.2.1 g.2.2 o.2.1 o.2.2 (by omega) (by rw[<-g.1,<-o.1,hs];decide),RZ,a4];rfl
 have HV:=Nm hv hw hQ nw;have HP:Zr (f.In w/\t.In w/\f.Bl Q/\t.Bl Q/\Ym 46 f.ty=Zc/\Ym 46 t.ty=Zc/\f.k=3/\t.k=3/\YC Yk f.ty t.ty=Zc/\Ur v.cv f.ty/\v.tag=0):=⟨hf,ht,fb,tb,a3,a2,r,y,a0,a4▸i,z⟩
 have aa:Zr (Wu v f t (NG w.heap.size v f t d c)):=fun ho he=>by
  refine⟨Th.ok_iff.2 ⟨.inl rfl,.inr (.inr ⟨rfl,fun e hm=>?_⟩)⟩,rfl⟩;have:e=v:=by simpa[NG] using hm
  subst this;unfold Th.tyo at he;rw[if_pos z] at he;exact⟨ho,he⟩
 have k3:(f.k==3)=Zc:=by simpa using r
 have k4:(t.k==3)=Zc:=by simpa using y
 have ad:∀(fn:Fn)(first cap:Array ZF)(w:Zi),(Instr.makeFunc fn first cap).run Ze w=.ok (.func fn first cap) w:=fun _ _ _ _=>rfl;clear g o z a4 r y a3 a2 a0 i fb tb f0 p t0 q;have lr:=hw.lt;have a9:=hw.below u;obtain⟨c0,c1,c2,c3,z0,z1,z2,z3⟩:=a9;replace c1:cL W1 R 1 (F D 0):=c1;clear hv hw hQ nw hs hf ht hm hh a1;obtain⟨ls,q0,⟨v0,v1,v2,v3⟩,⟨f0,p⟩,⟨t0,q⟩,n0,b0,⟨r0,r1,r2,r3,y0,y1,y2,y3⟩,_⟩:=hB;simp only[Zh] at v1 v2 v3 p q;go_enter Z7,Z4;go_upto_region 1 with fail;unfold T4 at l;rw[<-l];clear l;go_wp2_with (go_at_call 39;refine(HS.out _ (Y _ _)).mono ?_;rintro e w2 ⟨rfl,h2⟩;have j:Zr (LB R v f t d c w w2/\bL w w2):=⟨HB.out.1.below h2,HB.out.2.trans (h2.mono HB.out.2.size)⟩;clear h2 v0 v1 v2 v3 f0 p t0 q n0 b0 r0 r1 r2 r3 y0 y1 y2 y3 q0 c0 c1 c2 c3 z0 z1 z2 z3;obtain⟨ac,q0,⟨v0,v1,v2,v3⟩,⟨f0,p⟩,⟨t0,q⟩,_,_,⟨r0,r1,r2,r3,y0,y1,y2,y3⟩,_⟩:=j.out.1;simp only[Zh] at v1 v2 v3 p q)
 obtain⟨p1,p2,p3,p4,p5,p6,p7,p8,p9,a8,ab⟩:=HP.out;have a7:=BY j.out.1 j.out.2 HV.out.1 p1 p2 p3 p4 p7 p8 p5 p6 p9 a8 ab HV.out.2.2.2;have a5:=Ui (m:=Zc) (M:=M) (Q:=Q) (h:=NG w.heap.size v f t d c) j.out.1.r (by omega) lr (Yi.of_below j.out.2) (HV.out.2.1.below j.out.2) a7 (fun x hx=>hx);obtain⟨⟨e0,e1,e2,e3⟩,hk,hW,hi⟩:=a5;refine Zw (v:=(NG w.heap.size v f t d c).ag) ?_ rfl ⟨hk,.inr ⟨by rw[HC.out],hW,NG w.heap.size v f t d c,rfl,hi,by rw[HC.out,Aj],aa.out⟩⟩;simp only[NG] at e0 e1 e2 e3;simp[results,ZJ,go_sem,Th.ag,NG,e0,e1,e2,e3]
theorem OE(M R n:Nat)(Q:Nat->Prop)(v:Th)(f t:Tr)(j:Int)(c:Bool)(w:Zi)(hv:v.In Zc M R Q w)(r:f.In w)(y:t.In w)(o:f.k=t.k)(d:Ym 46 f.ty=Zc)(i:Ym 46 t.ty=Zc)(g:YC Yk f.ty t.ty=Zc)(l:Ur v.val f.ty)(fb:f.Bl Q)(tb:t.Bl Q)(x:f.hgt<=1000)(hm:f.sm)(q:Wl R n Yl w)(z:¬Q R)(u:∀b,w.heap.size<=b->Q b):
  Zv Ze 97 #[Zs (Za ⟨R,0,I⟩),Zo #[F D v.k,F D v.n,v.fn,F D v.tag],Zo #[F D f.k,L f.a f.l.length f.c],Zo #[F D t.k,L t.a t.l.length t.c],F D j,.bool c] w (Lf M R n Q w (Xd (Yq f.ty t.ty ⟨4,j,c⟩) v.val) (Wu v f t)):=by
 by_cases hs:YC Yv f.ty t.ty=Zc
 .exact VZ M R n Q v f t j c w hv r y hs x hm q z u
 have h:f.k=3:=by
  rcases Yy d with⟨k,e,h1⟩|⟨a,b,e,_⟩
  .rcases Yy i with⟨k',e',h2⟩|⟨a,b,e',_⟩
   .have h3:=f.ty_k;have p:=t.ty_k;rw[e] at h3;rw[e'] at p;simp only at h3 p;exfalso;apply hs;rw[e,e',h3,p,o];exact JP _
   .rw[o,<-t.ty_k,e']
  .rw[<-f.ty_k,e]
 exact AX M R n Q v f t j c w hv r y (by simpa using hs) h (o▸h) d i g l fb tb x hm q z u
theorem M2{t:Ty}(h:Ym 46 t=Zc):gr t.k=Ys t:=by
 rcases Yy h with⟨k,rfl,c⟩|⟨a,b,rfl,_⟩
 .unfold gr Ys;rfl
 .rfl
theorem Ls{n:Nat}{t:Ty}(h:Ym (n+1) t=Zc):YC Yk t (Ys t)=Zc/\YC Yk (Ys t) t=Zc:=by
 rcases Yy h with⟨k,rfl,c⟩|⟨a,b,rfl,_⟩
 .have:Ys ⟨k,[]⟩=⟨k,[]⟩:=by unfold Ys;rw[if_neg (by simp only;omega)]
  rw[this];exact⟨JS _ _ h,JS _ _ h⟩
 .have:Ys ⟨3,[a,b]⟩=⟨3,[Yn,Yn]⟩:=rfl;rw[this,QD _ _ _ _ _ rfl,QD _ _ _ _ _ rfl];exact⟨by rw[show Yn=⟨0,[]⟩ from rfl,KO,KO];rfl,by rw[show Yn=⟨0,[]⟩ from rfl,MM,MM];rfl⟩
theorem WP{v:Th}{T:Ty}(a:T.k≠0)(h:Ur v.val T):v.tag=0/\v.val=v.cv:=by
 by_cases h0:v.tag=0
 .exact⟨h0,by unfold Th.val;rw[if_pos h0]⟩
 .exfalso;unfold Th.val at h;rw[if_neg h0] at h;rcases Lj.1 h with⟨h,_⟩|⟨h,_⟩|⟨h,_⟩|⟨h,_⟩|⟨_,h,_⟩
  .cases h
  .cases h
  .cases h
  .cases h
  .rw[h] at a;exact a rfl
theorem JV{f t:Ty}{o:Xy}(hf:Ym 46 f=Zc)(ht:Ym 46 t=Zc)(h:YC Yk f t=Zc)(ho:o.k=4):UE (Yq f t o) f t:=LI 100 46 f t o hf ht h ho (by split<;>omega)
theorem AP(M R n:Nat)(Q:Nat->Prop)(v:Th)(f t:Tr)(no:Int)(back:Bool)(w:Zi)(hv:v.In Zc M R Q w)(hf:f.In w)(ht:t.In w)(hfk:f.k≠0)(htk:t.k=0)(hfg:Ym 46 f.ty=Zc)(htg:Ym 46 t.ty=Zc)(hvt:Ur v.val f.ty)(fb:f.Bl Q)(hh:f.hgt<=1000)(hm:f.sm)(hw:Wl R n Yl w)(hQ:¬Q R)(nw:∀b,w.heap.size<=b->Q b):
  Zv Ze 97 #[Zs (Za ⟨R,0,I⟩),Zo #[F D v.k,F D v.n,v.fn,F D v.tag],Zo #[F D f.k,L f.a f.l.length f.c],Zo #[F D t.k,L t.a t.l.length t.c],F D no,.bool back] w (Lf M R n Q w (Xd (Yq f.ty t.ty ⟨4,no,back⟩) v.val) (Wu v f t)):=by
 obtain⟨W1,a7⟩:∃W,W=T4 R v f t no back w:=⟨_,rfl⟩
 have hB:LB R v f t no back w W1:=by rw[a7];exact MD R v f t no back w
 have ab:bL w W1:=by rw[a7];exact Qo R v f t no back w
 have HB:=Un hB ab;have ad:=hv.one;have al:∀(a:ZM)(m:Mode)(W:Zi),(store a v.fn m).run Ze W=stored Ze W a v.fn m:=fun a m W=>Yw ad;have ac:t.ty=Yn:=by
  rcases Yy htg with⟨k,e,hk⟩|⟨a,b,e,ha,hb⟩
  .have:=t.ty_k;rw[e,htk] at this;simp only at this;rw[e,this];rfl
  .have:=t.ty_k;rw[e,htk] at this;cases this
 have aa:f.ty.k≠0:=by rw[f.ty_k];exact hfk
 have HS:Zr (∀W,bL W1 W->Zv Ze 39 #[Zo f.v,Zo t.v] W fun e w'=>e=Zj (.bool Zq)/\bL W w'):=fun W hb=>by
  have an:=ab.trans (hb.mono ab.size);have:=Xz 1000 f t W (hf.below an) (ht.below an) hh hm;rw[show YC Yv f.ty t.ty=Zq from by
   cases h:YC Yv f.ty t.ty with
   |false=>rfl
   |true=>have:=KZ _ _ h;rw[this,ac] at aa;exact absurd rfl aa] at this
  exact this
 have HC:Zr (Xd (Yq f.ty t.ty ⟨4,no,back⟩) v.val=(Yl,XO (Xd (Yq f.ty (Ys f.ty) ⟨4,no,back⟩) v.val).2 f.k)):=by
  show _=_
  rw[ac,Bq hfg (by omega) aa,f.ty_k]
 have HI:Zr (∀(W:Zi)(u:Tr),Yi R I W1 W->Wl R n Yl W->u.ty=Ys f.ty->u.In W->u.Bl (W1.heap.size<=·)->Zv Ze 97 #[Zs (Za ⟨R,0,I⟩),Zo v.v,Zo f.v,Zo u.v,F D no,.bool back] W fun e w'=>Yi R I W w'/\Wl R n Yl w'/\∃h:Th,e=Zj (Zo h.v)/\h.In Zc M R (fun x=>Q x/\x≠w.heap.size+1/\x≠w.heap.size+1+1+1+1+1+1) w'/\(h.val=(Xd (Yq f.ty (Ys f.ty) ⟨4,no,back⟩) v.val).2/\(v.ok->v.tyo=f.ty->h.ok/\h.tyo=Ys f.ty))):=by
  intro W u hk ap hu a3 a2;have au:f.k=u.k:=by rw[<-f.ty_k,<-u.ty_k,hu,XY]
  have aw:=hB.sz;have ai:YC Yk f.ty u.ty=Zc:=by rw[hu];exact(Ls hfg).1
  have aj:XJ Q w W:=fun b hb hq=>by rw[hk.block b (by omega) (fun e=>hQ (e▸hq)) (by simp)];exact ab.block b hb
  have av:=hk.size;have:=OE M R n (fun x=>Q x/\x≠w.heap.size+1/\x≠w.heap.size+1+1+1+1+1+1) v f u no back W ((hv.mono (Q':=fun x=>(Q x/\x≠w.heap.size+1/\x≠w.heap.size+1+1+1+1+1+1)) fun x h1 h2=>⟨h2,by omega,by omega⟩).same fun b h1 h2=>aj b h1 h2.1) (hf.same aj fb) a3 au hfg (by rw[hu];exact Xn hfg) ai hvt ((fb.and hf.bl).mono fun b h=>⟨h.1,by omega,by omega⟩) (a2.mono fun b h=>⟨nw b (by omega),by omega,by omega⟩) hh hm ap (fun h=>hQ h.1) (fun b hb=>⟨nw b (by omega),by omega,by omega⟩);rw[hu] at this;refine this.mono ?_;rintro e w' ⟨h1,h2|⟨h2,h3,h,h4,h5,h6⟩⟩
  .exact absurd (by rw[(Ly hfg (Xn hfg) (by omega) (XY _).symm).1];rfl) h2.1
  .exact⟨h1,h3,h,h4,h5,h6.1,fun ho he=>⟨(h6.2 ho he).1,(h6.2 ho he).2.trans hu⟩⟩
 have HT:Zr (∀h:Th,h.val=(Xd (Yq f.ty (Ys f.ty) ⟨4,no,back⟩) v.val).2->h.tag=0/\h.val=h.cv):=fun h e=>by have h1:=(Tz (JV (o:=⟨4,no,back⟩) hfg (Xn hfg) (Ls hfg).1 rfl) hvt).1 (by rw[(Ly hfg (Xn hfg) (by omega) (XY _).symm).1];rfl);rw[<-e] at h1;exact WP (by rw[XY];exact aa) h1
 have HV:=Nm hw hQ nw hfk;have ak:Zr (∀h:Th,h.tag=0->(v.ok->v.tyo=f.ty->h.ok/\h.tyo=Ys f.ty)->Wu v f t {h with tag:=f.k}):=fun h h0 hp ho he=>by
  obtain⟨a,b⟩:=hp ho he;unfold Th.tyo at b;rw[if_pos h0] at b;have ar:f.k=1\/f.k=2\/f.k=3:=by
   rcases Yy hfg with⟨k,e,hk⟩|⟨x,y,e,_⟩
   .have:=f.ty_k;rw[e] at this;simp only at this;omega
   .have:=f.ty_k;rw[e] at this;simp only at this;omega
  refine⟨a.mark (.inr ⟨ar,?_⟩),?_⟩
  .rw[b,<-M2 hfg,f.ty_k]
  .unfold Th.tyo;rw[if_neg hfk,ac]
 have HK:Zr (∀W,SK R (w.heap.size+1) W1 W->cL W w.heap.size 0 (Zs (Za ⟨R,0,I⟩))/\cL W (w.heap.size+1+1) 0 (F D f.k)/\cL W (w.heap.size+1+1) 1 (f.s)/\cL W (w.heap.size+1+1+1+1) 0 (F D no)/\cL W (w.heap.size+1+1+1+1+1) 0 (.bool back)):=fun W h=>by have lr:=hw.lt;exact⟨h _ _ _ hB.w0 (by omega) (by omega),h _ _ _ hB.f2.c0 (by omega) (by omega),h _ _ _ hB.f2.c1 (by omega) (by omega),h _ _ _ hB.n0 (by omega) (by omega),h _ _ _ hB.b0 (by omega) (by omega)⟩
 have lr:=hw.lt;have aq:=hw.below ab;obtain⟨c0,c1,c2,c3,z0,z1,z2,z3⟩:=aq;replace c1:cL W1 R 1 (F D 0):=c1;have k4:(t.k==3)=Zq:=by rw[htk];decide
 have k0:(t.k==0)=Zc:=by rw[htk];decide
 clear hv hw hQ nw hf ht hm hh ad aa ac hfg htg hvt fb hfk htk;obtain⟨ls,l,⟨v0,v1,v2,v3⟩,⟨f0,q⟩,⟨t0,t1⟩,n0,b0,⟨r0,r1,r2,r3,y0,y1,y2,y3⟩,_⟩:=hB;simp only[Zh] at v1 v2 v3 q t1;obtain⟨b3,ao⟩:∃b3,(f.k==3)=b3:=⟨_,rfl⟩
 cases b3
 all_goals
  go_enter Z7,Z4
  go_upto_region 1 with fail
  unfold T4 at a7
  rw[<-a7]
  clear a7
  go_upto_region 6 with(go_at_call 39;refine(HS.out _ (Y _ _)).mono ?_;rintro e w2 ⟨rfl,h2⟩;have a0:Zr (LB R v f t no back w w2/\bL w w2/\Yi R I W1 w2/\SK R (w.heap.size+1) W1 w2):=⟨HB.out.1.below h2,HB.out.2.trans (h2.mono HB.out.2.size),Yi.of_below h2,(SK.refl _ _ _).kept (Yi.of_below h2)⟩;clear h2 v0 v1 v2 v3 f0 q t0 t1 n0 b0 r0 r1 r2 r3 y0 y1 y2 y3 l c0 c1 c2 c3 z0 z1 z2 z3;obtain⟨ax,l,⟨v0,v1,v2,v3⟩,⟨f0,q⟩,⟨t0,t1⟩,n0,b0,⟨r0,r1,r2,r3,y0,y1,y2,y3⟩,_⟩:=a0.out.1;simp only[Zh] at v1 v2 v3 q t1)
  have HD:Zr (LB R v f t no back w w2.drew/\bL w w2.drew/\Yi R I W1 w2.drew/\SK R (w.heap.size+1) W1 w2.drew/\Wl R n Yl w2.drew):=by have hd:bL w2 w2.drew:=(Y _ _).drew;exact⟨a0.out.1.below hd,a0.out.2.1.trans (hd.mono a0.out.2.1.size),a0.out.2.2.1.trans (Yi.of_below hd),a0.out.2.2.2.kept (Yi.of_below hd),HV.out.1.below (a0.out.2.1.trans (hd.mono a0.out.2.1.size))⟩
  have d:=HD.out.2.2.2.1
  clear v0 v1 v2 v3 f0 q t0 t1 n0 b0 r0 r1 r2 r3 y0 y1 y2 y3 l
  obtain⟨ay,l,⟨v0,v1,v2,v3⟩,_,_,_,_,_,_⟩:=HD.out.1
  simp only[Zh] at v1 v2 v3
  refine wp_region_held_drew (S:=(fun W=>cL W w.heap.size 0 (Zs (Za ⟨R,0,I⟩))/\cL W (w.heap.size+1+1) 0 (F D f.k)/\cL W (w.heap.size+1+1) 1 (f.s)/\cL W (w.heap.size+1+1+1+1) 0 (F D no)/\cL W (w.heap.size+1+1+1+1+1) 0 (.bool back))) (by kernel_rfl) (HK.out _ d) (fun c=>?_)
  refine qk 0 (v:=?_) rfl (by kernel_rfl) (fun _ _ _ h=>h) (by rfl) c ?_ ?_;rotate_left;(focus (intro w' h;go_split_ands;go_simp;try with_reducible rfl));simp only[Zu,Zb,Zf,Zg]
  refine qk 2 (v:=?_) rfl (by kernel_rfl) (fun _ _ _ h=>h) (by rfl) c ?_ ?_;rotate_left;(focus (intro w' h;go_split_ands;go_simp;try with_reducible rfl));simp only[Zu,Zb,Zf,Zg]
  refine qk 3 (v:=?_) rfl (by kernel_rfl) (fun _ _ _ h=>h) (by rfl) c ?_ ?_;rotate_left;(focus (intro w' h;go_split_ands;go_simp;try with_reducible rfl));simp only[Zu,Zb,Zf,Zg]
  refine qk 5 (v:=?_) rfl (by kernel_rfl) (fun _ _ _ h=>h) (by rfl) c ?_ ?_;rotate_left;(focus (intro w' h;go_split_ands;go_simp;try with_reducible rfl));simp only[Zu,Zb,Zf,Zg]
  refine qk 6 (v:=?_) rfl (by kernel_rfl) (fun _ _ _ h=>h) (by rfl) c ?_ ?_;rotate_left;(focus (intro w' h;go_split_ands;go_simp;try with_reducible rfl));simp only[Zu,Zb,Zf,Zg]
  refine NY (i:=1) (j:=4) rfl rfl (by kernel_rfl) (fun K g=>?_) (fun K g=>?_)
  .go_simp;refine g.out _ _ (HK.out _ d) (fun c=>?_);clear g K;(try simp only[Zu,Zb,Zf,Zg])
   refine YS (i:=4) rfl (by kernel_rfl) (fun K g=>?_);go_simp;refine(Lm f _).mono ?_;rintro e w3 ⟨u,rfl,hu,a3,a2,h3⟩;have HE:=BV (HD.out.1.below h3) (HD.out.2.2.1.trans (Yi.of_below h3)) (HD.out.2.2.2.2.below h3) hu a3 (a2.mono fun b hb=>Nat.le_trans HD.out.2.2.1.size hb);replace d:=d.kept (Yi.of_below h3);clear h3 hu a3 a2 v0 v1 v2 v3 l;obtain⟨_,l,⟨v0,v1,v2,v3⟩,_,_,_,_,_,_⟩:=HE.out.1;simp only[Zh] at v1 v2 v3;dsimp only;refine g.out _ _ (HK.out _ d) (fun c=>?_);clear g K;(try simp only[Zu,Zb,Zf,Zg])
   refine YS (i:=7) rfl (by kernel_rfl) (fun K g=>?_);go_simp;refine(HI.out _ u HE.out.2.1 HE.out.2.2.1 HE.out.2.2.2.1 HE.out.2.2.2.2.1 HE.out.2.2.2.2.2).mono ?_;rintro e w4 ⟨h4,a8,h,rfl,a4,z⟩;have HG:=Sl (HE.out.1.kept h4 lr) (HE.out.2.1.trans h4) a8 a4 z;have am:∀(a:ZM)(m:Mode)(W:Zi),(store a h.fn m).run Ze W=stored Ze W a h.fn m:=fun a m W=>Yw a4.one;replace d:=d.kept h4;clear h4 a8 a4 z v0 v1 v2 v3 l;obtain⟨_,l,⟨v0,v1,v2,v3⟩,⟨f0,q⟩,_,_,_,⟨r0,r1,r2,r3,y0,y1,y2,y3⟩,r⟩:=HG.out.1;have z0:=r 0;have z1:=r 1;have z2:=r 2;have z3:=r 3;clear r;simp only[Zh] at v1 v2 v3 q;dsimp only;refine g.out _ _ (HK.out _ d) (fun c=>?_);clear g K;(try simp only[Zu,Zb,Zf,Zg])
   refine YS (i:=8) rfl (by kernel_rfl) (fun K g=>?_);go_simp;refine g.out _ _ (HK.out _ ((((d.set _ _).set _ _).set _ _).set _ _)) (fun c=>?_);clear g K;(try simp only[Zu,Zb,Zf,Zg])
   refine wpAnyH_done (by kernel_rfl) ?_ _;have HM:Zr _:=HG.out.1.put h;clear c d ao k4 k0 al v0 v1 v2 v3 l f0 q r0 r1 r2 r3 y0 y1 y2 y3 z0 z1 z2 z3;obtain⟨w5,a5⟩:∃W,W=((((w4.setCell ⟨w.heap.size+1,0,I⟩ (F D h.k)).setCell ⟨w.heap.size+1,1,I⟩ (F D h.n)).setCell ⟨w.heap.size+1,2,I⟩ h.fn).setCell ⟨w.heap.size+1,3,I⟩ (F D h.tag)):=⟨_,rfl⟩
   rw[<-a5] at HM;rw[<-a5];clear a5;obtain⟨_,l,⟨v0,v1,v2,v3⟩,⟨f0,q⟩,_,_,_,⟨r0,r1,r2,r3,y0,y1,y2,y3⟩,r⟩:=HM.out.1;have z3:=r 3;clear r;simp only[Zh] at v1 v2 v3 q;go_upto_region 8 with fail;have p:Zr _:=HM.out.1.mark f.k;clear v0 v1 v2 v3 l f0 q r0 r1 r2 r3 y0 y1 y2 y3 z3;obtain⟨w6,a1⟩:∃W,W=w5.setCell ⟨w.heap.size+1,3,I⟩ (F D f.k):=⟨_,rfl⟩
   rw[<-a1] at p;rw[<-a1];clear a1;obtain⟨_,l,⟨v0,v1,v2,v3⟩,_,_,_,_,⟨r0,r1,r2,r3,y0,y1,y2,y3⟩,_⟩:=p.out.1;simp only[Zh] at v1 v2 v3;go_wp2_with fail;obtain⟨g1,g2,g3,g4,g5⟩:=HG.out;have m1:=HM.out.2;have m2:=p.out.2;have a9:¬(fun x=>Q x/\x≠w.heap.size+1/\x≠w.heap.size+1+1+1+1+1+1) (w.heap.size+1):=fun hx=>hx.2.1 rfl;have af:=(((g4.same (XJ.of_kept m1 a9)).same (XJ.of_kept m2 a9)).tag f.k)
   obtain⟨ae,ah⟩:=HT.out h g5.1;have a6:=Ui (m:=Zc) (M:=M) (Q:=Q) (h:={h with tag:=f.k}) p.out.1.r (by omega) lr ((((Yi.of_below HB.out.2).trans g2).new m1 (by omega)).new m2 (by omega)) ((g3.same m1 (by omega)).same m2 (by omega)) af (fun x hx=>⟨hx.1,hx.2.2⟩);obtain⟨⟨e0,e1,e2,e3⟩,hk,hW,hi⟩:=a6;refine Zw (v:=({h with tag:=f.k}:Th).ag) ?_ rfl ⟨hk,.inr ⟨by rw[HC.out],hW,{h with tag:=f.k},rfl,hi,?_,ak.out h ae g5.2⟩⟩
   .simp only at e0 e1 e2 e3;simp[results,ZJ,go_sem,Th.ag,e0,e1,e2,e3]
   .rw[HC.out,<-g5.1,ah];unfold Th.val;rw[if_neg HV.out.2.2.2,Th.cv_tag]
  .go_simp;refine(Lm f _).mono ?_;rintro e w3 ⟨u,rfl,hu,a3,a2,h3⟩;have HE:=BV (HD.out.1.below h3) (HD.out.2.2.1.trans (Yi.of_below h3)) (HD.out.2.2.2.2.below h3) hu a3 (a2.mono fun b hb=>Nat.le_trans HD.out.2.2.1.size hb);replace d:=d.kept (Yi.of_below h3);clear h3 hu a3 a2 v0 v1 v2 v3 l;obtain⟨_,l,⟨v0,v1,v2,v3⟩,_,_,_,_,_,_⟩:=HE.out.1;simp only[Zh] at v1 v2 v3;dsimp only;refine g.out _ _ (HK.out _ d) (fun c=>?_);clear g K;(try simp only[Zu,Zb,Zf,Zg])
   refine YS (i:=1) rfl (by kernel_rfl) (fun K g=>?_);go_simp;refine g.out _ _ (HK.out _ d) (fun c=>?_);clear g K;(try simp only[Zu,Zb,Zf,Zg])
   refine YS (i:=7) rfl (by kernel_rfl) (fun K g=>?_);go_simp;refine(HI.out _ u HE.out.2.1 HE.out.2.2.1 HE.out.2.2.2.1 HE.out.2.2.2.2.1 HE.out.2.2.2.2.2).mono ?_;rintro e w4 ⟨h4,a8,h,rfl,a4,z⟩;have HG:=Sl (HE.out.1.kept h4 lr) (HE.out.2.1.trans h4) a8 a4 z;have am:∀(a:ZM)(m:Mode)(W:Zi),(store a h.fn m).run Ze W=stored Ze W a h.fn m:=fun a m W=>Yw a4.one;replace d:=d.kept h4;clear h4 a8 a4 z v0 v1 v2 v3 l;obtain⟨_,l,⟨v0,v1,v2,v3⟩,⟨f0,q⟩,_,_,_,⟨r0,r1,r2,r3,y0,y1,y2,y3⟩,r⟩:=HG.out.1;have z0:=r 0;have z1:=r 1;have z2:=r 2;have z3:=r 3;clear r;simp only[Zh] at v1 v2 v3 q;dsimp only;refine g.out _ _ (HK.out _ d) (fun c=>?_);clear g K;(try simp only[Zu,Zb,Zf,Zg])
   refine YS (i:=8) rfl (by kernel_rfl) (fun K g=>?_);go_simp;refine g.out _ _ (HK.out _ ((((d.set _ _).set _ _).set _ _).set _ _)) (fun c=>?_);clear g K;(try simp only[Zu,Zb,Zf,Zg])
   refine wpAnyH_done (by kernel_rfl) ?_ _;have HM:Zr _:=HG.out.1.put h;clear c d ao k4 k0 al v0 v1 v2 v3 l f0 q r0 r1 r2 r3 y0 y1 y2 y3 z0 z1 z2 z3;obtain⟨w5,a5⟩:∃W,W=((((w4.setCell ⟨w.heap.size+1,0,I⟩ (F D h.k)).setCell ⟨w.heap.size+1,1,I⟩ (F D h.n)).setCell ⟨w.heap.size+1,2,I⟩ h.fn).setCell ⟨w.heap.size+1,3,I⟩ (F D h.tag)):=⟨_,rfl⟩
   rw[<-a5] at HM;rw[<-a5];clear a5;obtain⟨_,l,⟨v0,v1,v2,v3⟩,⟨f0,q⟩,_,_,_,⟨r0,r1,r2,r3,y0,y1,y2,y3⟩,r⟩:=HM.out.1;have z3:=r 3;clear r;simp only[Zh] at v1 v2 v3 q;go_upto_region 8 with fail;have p:Zr _:=HM.out.1.mark f.k;clear v0 v1 v2 v3 l f0 q r0 r1 r2 r3 y0 y1 y2 y3 z3;obtain⟨w6,a1⟩:∃W,W=w5.setCell ⟨w.heap.size+1,3,I⟩ (F D f.k):=⟨_,rfl⟩
   rw[<-a1] at p;rw[<-a1];clear a1;obtain⟨_,l,⟨v0,v1,v2,v3⟩,_,_,_,_,⟨r0,r1,r2,r3,y0,y1,y2,y3⟩,_⟩:=p.out.1;simp only[Zh] at v1 v2 v3;go_wp2_with fail;obtain⟨g1,g2,g3,g4,g5⟩:=HG.out;have m1:=HM.out.2;have m2:=p.out.2;have a9:¬(fun x=>Q x/\x≠w.heap.size+1/\x≠w.heap.size+1+1+1+1+1+1) (w.heap.size+1):=fun hx=>hx.2.1 rfl;have af:=(((g4.same (XJ.of_kept m1 a9)).same (XJ.of_kept m2 a9)).tag f.k)
   obtain⟨ae,ah⟩:=HT.out h g5.1;have a6:=Ui (m:=Zc) (M:=M) (Q:=Q) (h:={h with tag:=f.k}) p.out.1.r (by omega) lr ((((Yi.of_below HB.out.2).trans g2).new m1 (by omega)).new m2 (by omega)) ((g3.same m1 (by omega)).same m2 (by omega)) af (fun x hx=>⟨hx.1,hx.2.2⟩);obtain⟨⟨e0,e1,e2,e3⟩,hk,hW,hi⟩:=a6;refine Zw (v:=({h with tag:=f.k}:Th).ag) ?_ rfl ⟨hk,.inr ⟨by rw[HC.out],hW,{h with tag:=f.k},rfl,hi,?_,ak.out h ae g5.2⟩⟩
   .simp only at e0 e1 e2 e3;simp[results,ZJ,go_sem,Th.ag,e0,e1,e2,e3]
   .rw[HC.out,<-g5.1,ah];unfold Th.val;rw[if_neg HV.out.2.2.2,Th.cv_tag]
end Go.Proofs.YtnddkmccagiclabGreatDoor
