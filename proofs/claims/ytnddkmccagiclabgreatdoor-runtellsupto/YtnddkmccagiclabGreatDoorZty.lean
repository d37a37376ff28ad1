import Derived.Test.YtnddkmccagiclabGreatDoorZtm
import Derived.Test.YtnddkmccagiclabGreatDoorZtu
import Derived.Test.YtnddkmccagiclabGreatDoorZtv
set_option maxRecDepth 20000
set_option maxHeartbeats 16000000
open Go.RowKit Go.Proofs.Tryz
open Option renaming none→A,some→F
open Go.Value renaming int→C,slice→E,pointer→L,tuple→Zd,agg→Zi
open Go.IntKind renaming i64→D
open Go.Ending renaming returned→S
open Go.Proofs.Tryz renaming prog→X,ntmps111→Zk,func111→Zm,ntmps73→Zr,func73→Zs,results41→Zu,results25→Zw
open Go renaming cell_later→Z,Calls→Zf,World→Zj,bodyPost_ret→Zo
open Nat renaming le_refl→Za,zero_add→Zn
open Go.RowKit.Below renaming refl→Zb
open Go.World renaming block_lt_of_cell?→Zc,cell?_setCell_other→Ze
open Go.RowKit renaming Hid→Zg
open Go.Obj renaming cells→Zh
open List renaming length_map→Zl,mem_map→Zp,length_cons→Zq,getElem_of_mem→Zx
open Bool renaming false→Zt,true→Zv
namespace Go.Proofs.YtnddkmccagiclabGreatDoor
variable {P:Nat->Prop}{U:Tr}{W W' w w0:Zj}{G:Gh}{H M b c lb lo o:Nat}{x:TT}{q:Option Addr}{e:List YK}{y:Tm}
structure RA(Q:Nat->Prop)(R c:Nat)(x:TT)(T T':Tr)(w W:Zj):Prop where
 kp:Yi R A w W
 rf:RF w.heap.size x W
 cs:CS R (c+1) W
 xi:x.In W
 ti:T'.In W
 tb:T'.Bl Q
 tl:T'.l.map Tr.ty=Yt x.k x.t.ty (T.l.map Tr.ty)
 tk:∀t,t∈T'.l->Yz 4 t=Zv
def Kg(P:Nat->Prop)(rule:Option (Ty×List Ty))(fl:Bool)(I U:Tr)(wU:Zj):Prop:=(fl=Zt/\rule=A)\/(fl=Zv/\rule=F (I.ty,U.l.map Tr.ty)/\I.In wU/\U.In wU/\I.Bl P/\U.Bl P)
theorem Kg.below{rule:Option (Ty×List Ty)}{fl:Bool}{I:Tr}(h:Kg P rule fl I U W)(a:Below W.heap.size W W'):Kg P rule fl I U W':=by
 rcases h with h|⟨b,e,d,g,c⟩
 .exact .inl h
 .exact .inr ⟨b,e,d.below a,g.below a,c⟩
theorem Kg.set{G:Nat}{rule:Option (Ty×List Ty)}{fl:Bool}{I:Tr}(h:Kg (fun b=>P b/\b≠G) rule fl I U W)(d:Yi G A W W'):Kg P rule fl I U W':=by
 rcases h with h|⟨j,g,k,i,e,c⟩
 .exact .inl h
 .exact .inr ⟨j,g,k.keptR d (e.mono fun b a=>a.2),i.keptR d (c.mono fun b a=>a.2),e.mono fun b a=>a.1,c.mono fun b a=>a.1⟩
def PW(P:Nat->Prop)(rs:List Rd)(U:Tr)(g:Nat)(zs:List TT)(wK:Zj):Prop:=(∀q(h:q<zs.length),X4 wK g (q*7) zs[q])/\(∀z,z∈zs->z.In wK/\z.Bl P)/\P g/\zs.map TT.tm=XR (rs.map O1) (U.l.map Tr.ty)
theorem PW.tree{rs:List Rd}{g:Nat}{zs:List TT}{wK:Zj}(h:PW P rs U g zs wK)(k n:Int)(t:Tr)(d:t.In wK)(e:t.Bl P):
  (TT.mk k n t (Yr 0) (F ⟨g,0,A⟩) zs.length zs).In wK/\(TT.mk k n t (Yr 0) (F ⟨g,0,A⟩) zs.length zs).Bl P/\(TT.mk k n t (Yr 0) (F ⟨g,0,A⟩) zs.length zs).tm=⟨k,n,t.ty,Yn,XR (rs.map O1) (U.l.map Tr.ty)⟩:=by
 refine⟨TT.In_mk.2 ⟨d,YB _ _,fun j b=>⟨g,0,rfl,by simpa using h.1 j b⟩,fun x a=>(h.2.1 x a).1⟩,TT.Bl_mk.2 ⟨e,YG _ _,fun _ y c=>by cases c;exact h.2.2.1,fun x a=>(h.2.1 x a).2⟩,?_⟩;rw[TT.tm_mk,h.2.2.2];simp[Yr,Tr.ty_mk,Yn]
theorem VD(Q:Nat->Prop)(R:Nat)(x:TT)(c:Nat)(T:Tr)(w:Zj)(hpre:Vi Q R x c T w)
  (HRD:∀y,y∈x.l->∀(Q':Nat->Prop)(c':Nat)(T':Tr)(W:Zj),Vi Q' R y c' T' W->Zf X 41 #[L (F ⟨R,0,A⟩),Zi #[C D y.k,C D y.n,C D y.t.k,E y.t.a y.t.l.length y.t.c,C D y.f.k,E y.f.a y.f.l.length y.f.c,E y.a y.l.length y.c],E T'.a T'.l.length T'.c] W (Kr Q' R y c' (T'.l.map Tr.ty) W)) :
  Zf X 41 #[L (F ⟨R,0,A⟩),Zi #[C D x.k,C D x.n,C D x.t.k,E x.t.a x.t.l.length x.t.c,C D x.f.k,E x.f.a x.f.l.length x.f.c,E x.a x.l.length x.c],E T.a T.l.length T.c] w (Kr Q R x c (T.l.map Tr.ty) w):=by
 obtain⟨b8,ca,cn,xi,ti,bz,xb,tb,nw,ne⟩:=hpre;have dc:=bz.lt;have cj:=x.sz_eq;have a1:=RF.start x w;obtain⟨W1,b0⟩:∃W1,W1=((w.alloc (Zh x.v 27)).alloc (Zh #[C D 0,C D 0,C D 0,C D 0,E A 0 0,C D 0,E A 0 0,E A 0 0,C D 0,E A 0 0] 64)):=⟨_,rfl⟩
 have cg:bL w W1:=by rw[b0];exact((Zb _ _).alloc (Za _) _).alloc (by simp) _
 have d5:W1.heap.size=w.heap.size+1+1:=by rw[b0];simp
 rw[<-b0] at a1;have a8:=bz.below cg;have ak:=Yx (Wh R c (by omega) W1 a8.c a8.f);obtain⟨WA,be⟩:∃WA,WA=W1.setCell ⟨R,0,A⟩ (C D ((c+1:Nat):Int)):=⟨_,rfl⟩
 have bc:Yi R A W1 WA:=by rw[be];exact Yj
 have bd:=(Yi.of_below cg).trans bc;have bh:x.Bl (fun b=>Q b/\b≠w.heap.size+1):=(xb.and xi.bl).mono fun b d=>⟨d.1,by omega⟩
 have bj:T.Bl (fun b=>Q b/\b≠w.heap.size+1):=(tb.and ti.bl).mono fun b d=>⟨d.1,by omega⟩
 have bg:∀b,(Q b/\b≠w.heap.size+1)->b≠R:=fun b d=>ne b d.1;have bi:CS R (c+1) WA:=by rw[be];exact⟨World.cell?_setCell_same _ _ _ a8.c,by rw[World.frozen?_setCell];exact a8.f⟩
 have a9:=a1.kept bc (by omega) (by omega);have c8:=xi.keptR bd (xb.mono ne);have c7:=ti.keptR bd (tb.mono ne);have cl:1<=x.k/\x.k<=9/\x.l.length=YA x.k/\Yz 4 x.t=Zv/\(x.k=1->0<=x.n/\x.n<(T.l.length:Int))/\(∀y,y∈x.l->JM y.tm (Yt x.k x.t.ty (T.l.map Tr.ty)).length):=by obtain⟨k,n,t,f,a,cc,l⟩:=x;rw[TT.tm_mk] at b8;obtain⟨h0,h1⟩:=Ke.1 b8;obtain⟨k1,k9,hl,_,ht,_,hn⟩:=Jk h0;refine⟨k1,k9,by simpa using hl,by rw[YM];exact ht,hn,fun y hy=>?_⟩;rw[Xe,Zl];exact h1 y.tm (Zp.2 ⟨y,hy,rfl⟩)
 have cf:Zg (∀(T':Tr)(W:Zj),bL WA W->T'.In W->T'.Bl (fun b=>Q b/\b≠w.heap.size+1)->T'.l.map Tr.ty=Yt x.k x.t.ty (T.l.map Tr.ty)->(∀t,t∈T'.l->Yz 4 t=Zv)->RA (fun b=>Q b/\b≠w.heap.size+1) R c x T T' w W):=fun T' W d h1 h2 h3 h4=>⟨bd.trans (Yi.of_below d),a9.below d,bi.below d,c8.below d,h1,h2,h3,h4⟩
 have cr:=Yx (Wp x.t T WA c8.t c7 (by omega));have HK:=Yx cl;have HQ:Zg (x.Bl (fun b=>Q b/\b≠w.heap.size+1)/\T.Bl (fun b=>Q b/\b≠w.heap.size+1)/\(∀b,(Q b/\b≠w.heap.size+1)->b≠R)/\(∀b,WA.heap.size<=b->Q b/\b≠w.heap.size+1)/\(∀b,Q b->b≠R)/\(∀b,w.heap.size<=b->Q b)):=⟨bh,bj,bg,fun b d=>by have:=bc.size;exact⟨nw b (by omega),by omega⟩,ne,nw⟩
 have HM:Zg (JM x.tm (T.l.map Tr.ty).length/\(∀u,u∈T.l.map Tr.ty->Ym 4 u=Zv)/\(c+x.sz<=900/\T.l.length+x.sz<=900)/\x.sz=(x.l.map TT.sz).sum+1):=⟨by rw[Zl];exact b8,fun u hu=>by obtain⟨t,ht,rfl⟩:=Zp.1 hu;rw[<-YM];exact ca t ht,cn,cj⟩
 have bv:=Yx ca;have ck:=Yx c7;have br:=Yx HRD;have p0:=a9.at7.c0;have p2:=a9.at7.c2;have p3:=a9.at7.c3;simp only[Zn] at p0 p2 p3;clear b8 ca cn xi ti bz xb tb nw ne HRD a1 cg d5 a8 bc bd bh bj bg bi a9 c8 c7 cl cj;go_enter func41,ntmps41;go_wp2_with fail;rw[<-b0];refine ak.out.mono ?_;rintro e w1 ⟨rfl,rfl⟩;rw[<-be];clear ak be b0;go_upto_if 18 with fail;go_cut [2] (fun s2 wx=>∃T':Tr,s2=T'.s/\Zg (RA (fun b=>Q b/\b≠w.heap.size+1) R c x T T' w wx))
 case first=>
  by_cases hk0:x.k=7
  .have hk:=Yx hk0;have av:(x.k==7)=Zv:=by simpa using hk0
   clear hk0;rw[av];clear av;go_wp2_with fail;refine cr.out.mono ?_;rintro e w2 ⟨N,rfl,hN,cx,bx,ct⟩;have HN:Zg (RA (fun b=>Q b/\b≠w.heap.size+1) R c x T N w w2):=by
    refine cf.out N w2 ct cx ?_ (by rw[hN,Yt,if_pos hk.out];rfl) (fun t ht=>?_)
    .obtain⟨k,a,cc,l⟩:=N;simp only at hN bx;subst hN;refine Tr.Bl_mk.2 ⟨fun _ y hy=>HQ.out.2.2.2.1 _ (bx y hy),fun t ht=>?_⟩;rcases List.mem_cons.1 ht with rfl|ht
     .exact HQ.out.1.t
     .exact(by have h:=HQ.out.2.1;obtain⟨k,a,cc,l⟩:=T;exact(Tr.Bl_mk.1 h).2 t ht)
    .rw[hN] at ht;rcases List.mem_cons.1 ht with rfl|ht
     .exact HK.out.2.2.2.1
     .exact bv.out t ht
   clear hN cx bx ct;go_wp2_with fail;go_meet
   case rel=>exact⟨N,rfl,HN⟩
  .have hk:=Yx hk0;have av:(x.k==7)=Zt:=by simpa using hk0
   clear hk0;rw[av];clear av;have HN:Zg (RA (fun b=>Q b/\b≠w.heap.size+1) R c x T T w WA):=cf.out T WA (Zb _ _) ck.out HQ.out.2.1 (by rw[Yt,if_neg hk.out]) bv.out;go_wp2_with fail;go_meet
   case rel=>exact⟨T,rfl,HN⟩
 case rest=>
 obtain⟨T',rfl,HT⟩:=hcut;have cd:T'.l.length=(Yt x.k x.t.ty (T.l.map Tr.ty)).length:=by rw[<-HT.out.tl,Zl]
 have cm:T'.l.length<=T.l.length+1:=by rw[cd,Xe,Zl];split<;>omega
 have HC:Zg (Zf X 66 #[L (F ⟨R,0,A⟩),x.s,T'.s] wc (QA (fun b=>Q b/\b≠w.heap.size+1) R x.l (c+1) (T'.l.map Tr.ty) wc)):=by obtain⟨kp,rf,cs,xi,ti,tb,tl,tk⟩:=HT.out;have db:=rf.lt;have hm:=HM.out.2.2;exact Rg _ R x (c+1) T' wc (fun y hy Q' c' W hp=>br.out y hy Q' c' T' W hp) (fun y hy=>by rw[cd];exact HK.out.2.2.2.2.2 y hy) tk ⟨by omega,by omega⟩ xi ti cs HQ.out.1 tb (fun b d=>⟨HQ.out.2.2.2.2.2 b (by omega),by omega⟩) HQ.out.2.2.1
 have q6:=HT.out.rf.at7.c6;simp only[Zn] at q6;clear br cr cf cd cm ck p0 p2 p3;go_wp2_with fail;refine HC.out.mono ?_;rintro e o ⟨ab,⟨cq,rfl⟩|⟨rs,a,a4,bo,rfl,d0,az,cu,bk⟩⟩
 .have a1:=HT.out.rf.kept ab (by omega) (by omega);have HN:Zg (Kr Q R x c (T.l.map Tr.ty) w (S (Zd #[Zi #[C D 0,C D 0,C D 0,C D 0,E A 0 0,C D 0,E A 0 0,E A 0 0,C D 0,E A 0 0],.bool Zt])) (UU o (w.heap.size+1) (C D 0) (C D 0) (C D 0) (C D 0) (E A 0 0) (C D 0) (E A 0 0) (E A 0 0) (C D 0) (E A 0 0))):=by refine⟨(HT.out.kp.trans ab).new K7 (by omega),.inl ⟨Rc ?_,rfl⟩⟩;rw[<-HT.out.tl];exact cq
  obtain⟨e0,e1,e2,e3,e4,e5,e6,e7,e8,e9⟩:=a1.put (C D 0) (C D 0) (C D 0) (C D 0) (E A 0 0) (C D 0) (E A 0 0) (E A 0 0) (C D 0) (E A 0 0);obtain⟨_,z0,z1,z2,z3,z4,z5,z6,z7,z8,z9,fz⟩:=a1;have f0:=fz 0;have f1:=fz 1;have f2:=fz 2;have f3:=fz 3;have f4:=fz 4;have f5:=fz 5;have f6:=fz 6;have f7:=fz 7;have f8:=fz 8;have f9:=fz 9;clear cq ab HC HT fz q6;go_wp2_with fail;refine Zo (v:=Zd #[Zi #[C D 0,C D 0,C D 0,C D 0,E A 0 0,C D 0,E A 0 0,E A 0 0,C D 0,E A 0 0],.bool Zt]) ?_ rfl HN.out;unfold UU at e0 e1 e2 e3 e4 e5 e6 e7 e8 e9;simp[results,Zu,go_sem,e0,e1,e2,e3,e4,e5,e6,e7,e8,e9]
 .have hneR:=HQ.out.2.2.1;have HF:=BV (HT.out.rf.kept ab (by omega) (by omega)) (HT.out.kp.trans ab) (HT.out.xi.keptR ab (HQ.out.1.mono hneR)) (HT.out.ti.keptR ab (HT.out.tb.mono hneR)) az bk;have ai:Y4 (x.l.map TT.tm) (Yt x.k x.t.ty (T.l.map Tr.ty)) (c+1)=F (rs.map O1):=by rw[<-HT.out.tl];exact bo
  have HG:Zg (rs.length=x.l.length/\(∀r,r∈rs->Yz ((x.l.map TT.sz).sum+4) r.i=Zv)/\Y4 (x.l.map TT.tm) (Yt x.k x.t.ty (T.l.map Tr.ty)) (c+1)=F (rs.map O1)/\(∀r,r∈rs->0<=r.n)/\(∀r,r∈rs->r.y.Bl (fun b=>Q b/\b≠w.heap.size+1)/\r.i.Bl (fun b=>Q b/\b≠w.heap.size+1))):=by have hp:=SW HM.out.1 HM.out.2.1 (by have:=HM.out.2.2.1;omega) ai;exact⟨hp.1,hp.2,ai,d0,cu⟩
  have b9:=Un HT.out.tb HT.out.tl;clear ab bo d0 az cu bk HC HT q6 ai hneR;have da:=HF.out.1.lt;have b3:Zg (∀i,bL o i->cL i w.heap.size 0 (C D x.k)/\cL i w.heap.size 1 (C D x.n)/\cL i w.heap.size 2 (C D x.t.k)/\cL i w.heap.size 3 (x.t.s)/\cL i w.heap.size 4 (C D x.f.k)/\cL i w.heap.size 5 (x.f.s)/\cL i w.heap.size 6 (x.s)):=by intro i d;obtain⟨c0,c1,c2,c3,c4,c5,c6⟩:=(HF.out.1.below d).at7;simp only[Zn] at c0 c1 c2 c3 c4 c5 c6;exact⟨c0,c1,c2,c3,c4,c5,c6⟩
  have HT:Zg (∀(i:Zj)(P:Nat->Prop),bL o i->(∀b,Q b/\b≠w.heap.size+1->b<o.heap.size->P b)->(∀b,Q b/\b≠w.heap.size+1->i.heap.size<=b->P b)->Zf X 68 #[E a rs.length a4] i fun e j=>∃p:Tr,e=S (p.s)/\Zg (p.l=rs.map (fun r=>r.i))/\p.In j/\p.Bl P/\bL o j/\bL i j):=by
   intro i P d an aq;refine(QJ rs a a4 i (HF.out.2.2.2.2.1.below d) (by rw[HG.out.1,HK.out.2.2.1];have:=My x.k;omega)).mono ?_;rintro e j ⟨p,rfl,a0,a2,cz,b7⟩;refine⟨p,rfl,a0,a2,?_,d.trans (b7.mono d.size),b7⟩;obtain⟨k,pa,pc,pl⟩:=p;simp only at a0 cz;refine Tr.Bl_mk.2 ⟨fun d9 y hy=>?_,fun t ht=>?_⟩
   .have h1:=cz y hy;have h3:=d.size;exact aq _ ⟨HQ.out.2.2.2.2.2 _ (by omega),by omega⟩ h1
   .rw[a0] at ht;obtain⟨r,hr,rfl⟩:=Zp.1 ht;obtain⟨q,hq,rfl⟩:=Zx hr;obtain⟨_,_,_,_,_,d7⟩:=HF.out.2.2.2.2.1 q hq;exact((HG.out.2.2.2.2 _ hr).2.and d7.bl).mono fun b d=>an b d.1 d.2
  have HU:Zg (∀(i:Zj)(p:Tr)(P:Nat->Prop),bL o i->p.In i->Zg (p.l=rs.map (fun r=>r.i))->p.Bl P->(∀b,Q b/\b≠w.heap.size+1->b<o.heap.size->P b)->(∀b,Q b/\b≠w.heap.size+1->i.heap.size<=b->P b)->Zf X 67 #[Zi x.v,p.s,T'.s] i fun e wU=>∃(I U:Tr)(fl:Bool),e=S (Zd #[Zi #[C D I.k,I.s,U.s],.bool fl])/\Zg (Kg P (YL x.k x.n x.t.ty (rs.map fun r=>r.i.ty) (Yt x.k x.t.ty (T.l.map Tr.ty))) fl I U wU)/\bL o wU/\bL i wU):=by
   intro i p P d a2 a0 a6 an aq;replace a0:=a0.out;have d8:p.l.length=rs.length:=by rw[a0,Zl]
   have e1:p.l.map Tr.ty=rs.map fun r=>r.i.ty:=by rw[a0,List.map_map];rfl
   have a5:=HF.out.2.2.1.t;have hs:=d.size;have:=SM P x p T' i HK.out.1 HK.out.2.1 (by rw[d8,HG.out.1];exact HK.out.2.2.1) (fun hk=>by
     have h1:=HK.out.2.2.2.2.1 hk;have h2:T'.l.length=T.l.length:=by have:=congrArg List.length b9.out.2;rw[Yt,if_neg (by omega),Zl,Zl] at this;exact this
     omega) (a5.below d) ((HQ.out.1.t.and a5.bl).mono fun b d=>an b d.1 d.2) a2 a6 (HF.out.2.2.2.1.below d) ((b9.out.1.and HF.out.2.2.2.1.bl).mono fun b d=>an b d.1 d.2) (fun t ht=>by
     rw[a0] at ht;obtain⟨r,hr,rfl⟩:=Zp.1 ht;exact YR (by have:=HM.out.2.2;omega) (HG.out.2.1 r hr)) (fun b d3=>aq b ⟨HQ.out.2.2.2.2.2 b (by omega),by omega⟩ d3)
   rw[e1,b9.out.2] at this;refine this.mono ?_;rintro e wU ⟨ap,⟨hn,rfl⟩|⟨I,U,hs,rfl,hI,hU,bI,bU⟩⟩
   .exact⟨Yr 0,Yr 0,Zt,rfl,.inl ⟨rfl,hn⟩,d.trans (ap.mono d.size),ap⟩
   .exact⟨I,U,Zv,rfl,.inr ⟨rfl,hs,hI,hU,bI,bU⟩,d.trans (ap.mono d.size),ap⟩
  have ah:bL o (o.alloc (Zh #[C D 0,E A 0 0,E A 0 0] 119)).drew:=((Zb _ _).alloc (Za _) _).drew;have ax:Zg (Zf X 68 #[E a rs.length a4] o.drew fun e j=>∃p:Tr,e=S (p.s)/\Zg (p.l=rs.map (fun r=>r.i))/\p.In j/\p.Bl (fun b=>Q b/\b≠w.heap.size+1)/\bL o j/\bL o.drew j):=HT.out o.drew _ ((Zb _ _).drew) (fun b h _=>h) (fun b h _=>h);have ay:Zg (Zf X 68 #[E a rs.length a4] (o.alloc (Zh #[C D 0,E A 0 0,E A 0 0] 119)).drew fun e j=>∃p:Tr,e=S (p.s)/\Zg (p.l=rs.map (fun r=>r.i))/\p.In j/\p.Bl (fun b=>(Q b/\b≠w.heap.size+1)/\b≠o.heap.size)/\bL o j/\Sn j o.heap.size):=by refine(HT.out _ (fun b=>(Q b/\b≠w.heap.size+1)/\b≠o.heap.size) ah (fun b h hl=>⟨h,by omega⟩) (fun b h hl=>⟨h,by simp at hl;omega⟩)).mono ?_;rintro e j ⟨p,rfl,h1,h2,h3,h4,h5⟩;exact⟨p,rfl,h1,h2,h3,h4,Sn.later h5 (Sn.new o)⟩
  have b6:Zg (∀(j:Zj)(p:Tr),bL o j->p.In j->Zg (p.l=rs.map (fun r=>r.i))->p.Bl (fun b=>Q b/\b≠w.heap.size+1)->Zf X 67 #[Zi x.v,p.s,T'.s] j fun e wU=>∃(I U:Tr)(fl:Bool),e=S (Zd #[Zi #[C D I.k,I.s,U.s],.bool fl])/\Zg (Kg (fun b=>Q b/\b≠w.heap.size+1) (YL x.k x.n x.t.ty (rs.map fun r=>r.i.ty) (Yt x.k x.t.ty (T.l.map Tr.ty))) fl I U wU)/\bL o wU/\bL j wU):=fun j p h1 h2 h3 h4=>HU.out j p _ h1 h2 h3 h4 (fun b h _=>h) (fun b h _=>h)
  have b2:Zg (∀(j:Zj)(p:Tr),bL o j->p.In j->Zg (p.l=rs.map (fun r=>r.i))->p.Bl (fun b=>Q b/\b≠w.heap.size+1)->Zf X 67 #[Zi x.v,p.s,T'.s] (j.alloc (Zh #[C D 0,E A 0 0,E A 0 0] 119)) fun e wU=>∃(I U:Tr)(fl:Bool),e=S (Zd #[Zi #[C D I.k,I.s,U.s],.bool fl])/\Zg (Kg (fun b=>(Q b/\b≠w.heap.size+1)/\b≠j.heap.size) (YL x.k x.n x.t.ty (rs.map fun r=>r.i.ty) (Yt x.k x.t.ty (T.l.map Tr.ty))) fl I U wU)/\bL o wU/\Sn wU j.heap.size):=by intro j p h1 h2 h3 h4;have hA:bL j (j.alloc (Zh #[C D 0,E A 0 0,E A 0 0] 119)):=(Zb _ _).alloc (Za _) _;refine(HU.out (j.alloc (Zh #[C D 0,E A 0 0,E A 0 0] 119)) p (fun b=>(Q b/\b≠w.heap.size+1)/\b≠j.heap.size) (h1.trans (hA.mono h1.size)) (h2.below hA) h3 ((h4.and h2.bl).mono fun b d=>⟨d.1,by omega⟩) (fun b h hl=>⟨h,by have:=h1.size;omega⟩) (fun b h hl=>⟨h,by simp at hl;omega⟩)).mono ?_;rintro e wU ⟨I,U,fl,rfl,h5,h6,h7⟩;exact⟨I,U,fl,rfl,h5,h6,Sn.later h7 (Sn.new j)⟩
  have b5:Zg (∀(j:Zj)(p:Tr),bL o j->p.In j->Zg (p.l=rs.map (fun r=>r.i))->p.Bl (fun b=>(Q b/\b≠w.heap.size+1)/\b≠o.heap.size)->Sn j o.heap.size->Zf X 67 #[Zi x.v,p.s,T'.s] j fun e wU=>∃(I U:Tr)(fl:Bool),e=S (Zd #[Zi #[C D I.k,I.s,U.s],.bool fl])/\Zg (Kg (fun b=>(Q b/\b≠w.heap.size+1)/\b≠o.heap.size) (YL x.k x.n x.t.ty (rs.map fun r=>r.i.ty) (Yt x.k x.t.ty (T.l.map Tr.ty))) fl I U wU)/\bL o wU/\Sn wU o.heap.size):=by intro j p h1 h2 h3 h4 hz;have d1:o.heap.size<j.heap.size:=Zc _ _ hz.1;refine(HU.out j p _ h1 h2 h3 h4 (fun b h hl=>⟨h,by omega⟩) (fun b h hl=>⟨h,by omega⟩)).mono ?_;rintro e wU ⟨I,U,fl,rfl,h5,h6,h7⟩;exact⟨I,U,fl,rfl,h5,h6,Sn.later h7 hz⟩
  clear HT HU;go_upto_region 7 with fail;go_cut [11,12] (fun s11 s12 wx=>∃(G:Nat)(I U:Tr)(fl:Bool),s11=L (F ⟨G,0,A⟩)/\s12=.bool fl/\Zg (bL o wx/\Ws wx G I U/\Kg (fun b=>Q b/\b≠w.heap.size+1) (YL x.k x.n x.t.ty (rs.map fun r=>r.i.ty) (Yt x.k x.t.ty (T.l.map Tr.ty))) fl I U wx))
  case first=>
   have d:bL o o.drew:=(Zb _ _).drew;have aw:Zg (∀(W0:Zj)(G:Nat)(v0 v1 v2:Value),bL o W0->o.heap.size<=G->(fun i:Zj=>cL i w.heap.size 0 (C D x.k)/\cL i w.heap.size 1 (C D x.n)/\cL i w.heap.size 2 (C D x.t.k)/\cL i w.heap.size 3 (x.t.s)/\cL i w.heap.size 4 (C D x.f.k)/\cL i w.heap.size 5 (x.f.s)/\cL i w.heap.size 6 (x.s)) (((W0.setCell ⟨G,0,A⟩ v0).setCell ⟨G,1,A⟩ v1).setCell ⟨G,2,A⟩ v2)):=fun W0 G v0 v1 v2 h1 h2=>b3.out _ (((h1.setCell h2 _).setCell h2 _).setCell h2 _)
   go_region_held3 (fun i=>cL i w.heap.size 0 (C D x.k)/\cL i w.heap.size 1 (C D x.n)/\cL i w.heap.size 2 (C D x.t.k)/\cL i w.heap.size 3 (x.t.s)/\cL i w.heap.size 4 (C D x.f.k)/\cL i w.heap.size 5 (x.f.s)/\cL i w.heap.size 6 (x.s))
    (first
     |(with_reducible exact b3.out _ d)
     |(with_reducible exact b3.out _ ah)
     |(with_reducible exact b3.out _ (d.alloc d.size _))
     |(with_reducible exact aw.out _ _ _ _ _ d hG)
     |(with_reducible exact aw.out _ _ _ _ _ d (Za _))
     |fail)
    (first
     |(go_at_call 68;(with_reducible refine ax.out.mono ?_);rintro e j ⟨p,rfl,a0,a2,a6,d,b7⟩)
     |(go_at_call 68;(with_reducible refine ay.out.mono ?_);rintro e j ⟨p,rfl,a0,a2,a6,d,hz⟩)
     |(go_at_call 67;(with_reducible refine(b6.out _ p d a2 a0 a6).mono ?_);rintro e wU ⟨I,U,fl,rfl,ac,d,ap⟩)
     |(go_at_call 67;(with_reducible refine(b2.out _ p d a2 a0 a6).mono ?_);have hG:=d.size;rintro e wU ⟨I,U,fl,rfl,ac,d,hz⟩;obtain⟨y0,y1,y2,g0,g1,g2⟩:=id hz)
     |(go_at_call 67;(with_reducible refine(b5.out _ p d a2 a0 a6 hz).mono ?_);clear hz;rintro e wU ⟨I,U,fl,rfl,ac,d,hz⟩;obtain⟨y0,y1,y2,g0,g1,g2⟩:=id hz)
     |fail)
   .have HFi:Zg (bL o (wU.alloc (Zh #[C D I.k,I.s,U.s] 119))/\Ws (wU.alloc (Zh #[C D I.k,I.s,U.s] 119)) wU.heap.size I U/\Kg (fun b=>Q b/\b≠w.heap.size+1) (YL x.k x.n x.t.ty (rs.map fun r=>r.i.ty) (Yt x.k x.t.ty (T.l.map Tr.ty))) fl I U (wU.alloc (Zh #[C D I.k,I.s,U.s] 119))):=by have hA:bL wU (wU.alloc (Zh #[C D I.k,I.s,U.s] 119)):=(Zb _ _).alloc (Za _) _;exact⟨d.trans (hA.mono d.size),Ws.new wU I U,ac.out.below hA⟩
    clear ac d ap b7 a0 a2 a6;go_wp2_with fail;go_meet
    case rel=>exact⟨_,I,U,fl,rfl,rfl,HFi⟩
   .have HFi:Zg (bL o (((wU.setCell ⟨j.heap.size,0,A⟩ (C D I.k)).setCell ⟨j.heap.size,1,A⟩ (I.s)).setCell ⟨j.heap.size,2,A⟩ (U.s))/\Ws (((wU.setCell ⟨j.heap.size,0,A⟩ (C D I.k)).setCell ⟨j.heap.size,1,A⟩ (I.s)).setCell ⟨j.heap.size,2,A⟩ (U.s)) j.heap.size I U/\Kg (fun b=>Q b/\b≠w.heap.size+1) (YL x.k x.n x.t.ty (rs.map fun r=>r.i.ty) (Yt x.k x.t.ty (T.l.map Tr.ty))) fl I U (((wU.setCell ⟨j.heap.size,0,A⟩ (C D I.k)).setCell ⟨j.heap.size,1,A⟩ (I.s)).setCell ⟨j.heap.size,2,A⟩ (U.s))):=⟨((d.setCell hG _).setCell hG _).setCell hG _,hz.put I U,ac.out.set (Yj.trans (Yj.trans Yj))⟩
    clear ac d b7 a0 a2 a6 hz y0 y1 y2 g0 g1 g2;go_wp2_with fail;go_meet
    case rel=>exact⟨_,I,U,fl,rfl,rfl,HFi⟩
   .have HFi:Zg (bL o (((wU.setCell ⟨o.heap.size,0,A⟩ (C D I.k)).setCell ⟨o.heap.size,1,A⟩ (I.s)).setCell ⟨o.heap.size,2,A⟩ (U.s))/\Ws (((wU.setCell ⟨o.heap.size,0,A⟩ (C D I.k)).setCell ⟨o.heap.size,1,A⟩ (I.s)).setCell ⟨o.heap.size,2,A⟩ (U.s)) o.heap.size I U/\Kg (fun b=>Q b/\b≠w.heap.size+1) (YL x.k x.n x.t.ty (rs.map fun r=>r.i.ty) (Yt x.k x.t.ty (T.l.map Tr.ty))) fl I U (((wU.setCell ⟨o.heap.size,0,A⟩ (C D I.k)).setCell ⟨o.heap.size,1,A⟩ (I.s)).setCell ⟨o.heap.size,2,A⟩ (U.s))):=⟨((d.setCell (Za _) _).setCell (Za _) _).setCell (Za _) _,hz.put I U,ac.out.set (Yj.trans (Yj.trans Yj))⟩
    clear ac d a0 a2 a6 hz y0 y1 y2 g0 g1 g2;go_wp2_with fail;go_meet
    case rel=>exact⟨_,I,U,fl,rfl,rfl,HFi⟩
  case rest=>
  obtain⟨G,I,U,fl,rfl,rfl,HC⟩:=hcut;clear ax ay b6 b2 b5 ah b3;have ao:=HC.out.1;rcases HC.out.2.2 with⟨rfl,au⟩|⟨rfl,aj,hI,hU,bI,bU⟩
  .have HN:Zg (Kr Q R x c (T.l.map Tr.ty) w (S (Zd #[Zi #[C D 0,C D 0,C D 0,C D 0,E A 0 0,C D 0,E A 0 0,E A 0 0,C D 0,E A 0 0],.bool Zt])) (UU wc (w.heap.size+1) (C D 0) (C D 0) (C D 0) (C D 0) (E A 0 0) (C D 0) (E A 0 0) (E A 0 0) (C D 0) (E A 0 0))):=⟨(HF.out.2.1.trans (Yi.of_below ao)).new K7 (by omega),.inl ⟨Ra HG.out.2.2.1 au,rfl⟩⟩
   have a1:=HF.out.1.below ao;obtain⟨e0,e1,e2,e3,e4,e5,e6,e7,e8,e9⟩:=a1.put (C D 0) (C D 0) (C D 0) (C D 0) (E A 0 0) (C D 0) (E A 0 0) (E A 0 0) (C D 0) (E A 0 0);obtain⟨_,z0,z1,z2,z3,z4,z5,z6,z7,z8,z9,fz⟩:=a1;have f0:=fz 0;have f1:=fz 1;have f2:=fz 2;have f3:=fz 3;have f4:=fz 4;have f5:=fz 5;have f6:=fz 6;have f7:=fz 7;have f8:=fz 8;have f9:=fz 9;clear fz au ao;go_wp2_with fail;refine Zo (v:=Zd #[Zi #[C D 0,C D 0,C D 0,C D 0,E A 0 0,C D 0,E A 0 0,E A 0 0,C D 0,E A 0 0],.bool Zt]) ?_ rfl HN.out;unfold UU at e0 e1 e2 e3 e4 e5 e6 e7 e8 e9;simp[results,Zu,go_sem,e0,e1,e2,e3,e4,e5,e6,e7,e8,e9]
  .have hgr:=LK (ps:=rs.map fun r=>r.i.ty) ((x.l.map TT.sz).sum+4) (by omega) HK.out.1 HK.out.2.1 (by rw[Zl,HG.out.1];exact HK.out.2.2.1) (by rw[<-YM];exact HK.out.2.2.2.1) (Uj (by rw[<-YM];exact HK.out.2.2.2.1) HM.out.2.1) (fun u hu=>by obtain⟨r,hr,rfl⟩:=Zp.1 hu;rw[<-YM];exact HG.out.2.1 r hr) aj;have bu:rs.length=U.l.length:=by have:=hgr.1;simpa using this.symm
   have bp:rs.length<=3:=by rw[HG.out.1,HK.out.2.2.1];exact My x.k
   have ar:∀r,r∈rs->r.i.right/\r.i.hgt<=1000/\r.i.sm:=fun r hr=>YR (by have:=HM.out.2.2;omega) (HG.out.2.1 r hr);have bq:∀u,u∈U.l->u.right/\u.hgt<=1000/\u.sm:=fun u hu=>YR (n:=(x.l.map TT.sz).sum+4+1) (by have:=HM.out.2.2;omega) (by rw[YM];exact hgr.2.2 _ (Zp.2 ⟨u,hu,rfl⟩));obtain⟨ft,ch⟩:∃ft,UM (rs.map fun r=>r.i.ty) (U.l.map Tr.ty)=ft:=⟨_,rfl⟩
   have cw:Zg (Zf X 69 #[E a rs.length a4,U.s] wc fun e w'=>e=S (.bool ft)/\bL wc w'):=by have:=TI rs a a4 U wc (HF.out.2.2.2.2.1.below ao) hU bu (by omega) (fun r hr=>(ar r hr).2);rw[ch] at this;exact this
   have r2:=HC.out.2.1.u;have HI:=BV ao HC.out.2.1 hI hU bI bU;have HR:=BV aj bu bp ar bq ch;clear aj bu bp ar bq ch ao hI hU bI bU HC hgr;go_wp2_with fail;refine cw.out.mono ?_;rintro e wD ⟨rfl,a3⟩;have a7:=Nm (HI.out.1.trans (a3.mono HI.out.1.size)) (HI.out.2.1.below a3) (HI.out.2.2.1.below a3) (HI.out.2.2.2.1.below a3);clear cw r2 a3;cases ft
   .have HN:Zg (Kr Q R x c (T.l.map Tr.ty) w (S (Zd #[Zi #[C D 0,C D 0,C D 0,C D 0,E A 0 0,C D 0,E A 0 0,E A 0 0,C D 0,E A 0 0],.bool Zt])) (UU wD (w.heap.size+1) (C D 0) (C D 0) (C D 0) (C D 0) (E A 0 0) (C D 0) (E A 0 0) (E A 0 0) (C D 0) (E A 0 0))):=⟨(HF.out.2.1.trans (Yi.of_below a7.out.1)).new K7 (by omega),.inl ⟨Q9 HG.out.2.2.1 HR.out.1 HR.out.2.2.2.2.2,rfl⟩⟩
    have a1:=HF.out.1.below a7.out.1;obtain⟨e0,e1,e2,e3,e4,e5,e6,e7,e8,e9⟩:=a1.put (C D 0) (C D 0) (C D 0) (C D 0) (E A 0 0) (C D 0) (E A 0 0) (E A 0 0) (C D 0) (E A 0 0);obtain⟨_,z0,z1,z2,z3,z4,z5,z6,z7,z8,z9,fz⟩:=a1;have f0:=fz 0;have f1:=fz 1;have f2:=fz 2;have f3:=fz 3;have f4:=fz 4;have f5:=fz 5;have f6:=fz 6;have f7:=fz 7;have f8:=fz 8;have f9:=fz 9;clear fz HI;go_wp2_with fail;refine Zo (v:=Zd #[Zi #[C D 0,C D 0,C D 0,C D 0,E A 0 0,C D 0,E A 0 0,E A 0 0,C D 0,E A 0 0],.bool Zt]) ?_ rfl HN.out;unfold UU at e0 e1 e2 e3 e4 e5 e6 e7 e8 e9;simp[results,Zu,go_sem,e0,e1,e2,e3,e4,e5,e6,e7,e8,e9]
   .have a3:=a7.out.1;have d2:=a3.size;have b4:Zg (∀i,bL wD i->cL i w.heap.size 0 (C D x.k)/\cL i w.heap.size 1 (C D x.n)/\cL i w.heap.size 2 (C D x.t.k)/\cL i w.heap.size 3 (x.t.s)/\cL i G 2 (U.s)):=by intro i d;obtain⟨c0,c1,c2,c3,_,_,_⟩:=((HF.out.1.below a3).below d).at7;simp only[Zn] at c0 c1 c2 c3;exact⟨c0,c1,c2,c3,(a7.out.2.1.below d).u⟩
    have am:∀b,wD.heap.size<=b->Q b/\b≠w.heap.size+1:=fun b d=>⟨HQ.out.2.2.2.2.2 b (by omega),by omega⟩
    have ce:Zg (∀i,bL wD i->Zf X 42 #[Zi x.t.v] i fun e wE=>∃t:Tr,e=S (Zi t.v)/\Zg (t.ty=x.t.ty)/\t.In wE/\t.Bl (i.heap.size<=·)/\bL wD wE/\bL i wE):=by intro i d;have hg:=YR (n:=4) (by omega) HK.out.2.2.2.1;refine(M3 x.t i ((HF.out.2.2.1.t.below a3).below d) hg.1 hg.2.1).mono ?_;rintro e wE ⟨t,rfl,h1,h2,h3,h4⟩;exact⟨t,rfl,h1,h2,h3,d.trans (h4.mono d.size),h4⟩
    have bb:Zg (∀(i:Zj)(P:Nat->Prop),bL wD i->(∀b,Q b/\b≠w.heap.size+1->b<wD.heap.size->P b)->(∀b,i.heap.size<=b->P b)->Zf X 70 #[E a rs.length a4,U.s] i fun e wK=>∃(g:Nat)(zs:List TT),e=S (E (F ⟨g,0,A⟩) zs.length zs.length)/\Zg (PW P rs U g zs wK)/\bL wD wK/\bL i wK):=by
     intro i P d an aq;have az:=(HF.out.2.2.2.2.1.below a3)
     refine(R8 P rs a a4 U i (az.below d) (a7.out.2.2.2.below d) HR.out.2.1 (by have:=HR.out.2.2.1;omega) HR.out.2.2.2.1 (fun u hu=>⟨(HR.out.2.2.2.2.1 u hu).1,(HR.out.2.2.2.2.1 u hu).2.1⟩) aq (fun r hr=>?_)).mono ?_
     .obtain⟨q,hq,rfl⟩:=Zx hr;obtain⟨_,_,_,_,d6,_⟩:=az q hq;exact((HG.out.2.2.2.2 _ hr).1.and d6.bl).mono fun b d=>an b d.1 d.2
     .rintro e wK ⟨zs,rfl,hrow,hlen,htm⟩;refine⟨i.heap.size,zs,by rw[hlen],⟨hrow.is,fun z hz=>⟨(hrow.ins z hz).1,(hrow.ins z hz).2.mono fun b d=>d.2⟩,aq _ (Za _),R6 rs U.l zs hlen HR.out.2.1 HG.out.2.2.2.1 htm⟩,d.trans (hrow.bel.mono d.size),hrow.bel⟩
    have ah:bL wD (wD.alloc (Zh #[C D 0,C D 0,C D 0,E A 0 0,C D 0,E A 0 0,E A 0 0] 27)).drew:=((Zb _ _).alloc (Za _) _).drew;have bs:Zg (Zf X 42 #[Zi x.t.v] wD.drew fun e wE=>∃t:Tr,e=S (Zi t.v)/\Zg (t.ty=x.t.ty)/\t.In wE/\t.Bl (fun b=>Q b/\b≠w.heap.size+1)/\bL wD wE/\bL wD.drew wE):=by refine(ce.out wD.drew ((Zb _ _).drew)).mono ?_;rintro e wE ⟨t,rfl,h1,h2,h3,h4,h5⟩;exact⟨t,rfl,h1,h2,h3.mono fun b d=>am b d,h4,h5⟩
    have bn:Zg (Zf X 42 #[Zi x.t.v] (wD.alloc (Zh #[C D 0,C D 0,C D 0,E A 0 0,C D 0,E A 0 0,E A 0 0] 27)).drew fun e wE=>∃t:Tr,e=S (Zi t.v)/\Zg (t.ty=x.t.ty)/\t.In wE/\t.Bl (fun b=>(Q b/\b≠w.heap.size+1)/\b≠wD.heap.size)/\bL wD wE/\KT wE wD.heap.size):=by refine(ce.out _ ah).mono ?_;rintro e wE ⟨t,rfl,h1,h2,h3,h4,h5⟩;refine⟨t,rfl,h1,h2,h3.mono fun b d=>?_,h4,KT.later h5 (KT.later ((Zb _ _).drew) (KT.new wD))⟩;simp at d;exact⟨am b (by omega),by omega⟩
    have bm:Zg (∀wE,bL wD wE->Zf X 70 #[E a rs.length a4,U.s] wE fun e wK=>∃(g:Nat)(zs:List TT),e=S (E (F ⟨g,0,A⟩) zs.length zs.length)/\Zg (PW (fun b=>Q b/\b≠w.heap.size+1) rs U g zs wK)/\bL wD wK/\bL wE wK):=fun wE h1=>bb.out wE _ h1 (fun b h _=>h) (fun b h=>am b (by have:=h1.size;omega))
    have bt:Zg (∀wE,bL wD wE->Zf X 70 #[E a rs.length a4,U.s] (wE.alloc (Zh #[C D 0,C D 0,C D 0,E A 0 0,C D 0,E A 0 0,E A 0 0] 27)) fun e wK=>∃(g:Nat)(zs:List TT),e=S (E (F ⟨g,0,A⟩) zs.length zs.length)/\Zg (PW (fun b=>(Q b/\b≠w.heap.size+1)/\b≠wE.heap.size) rs U g zs wK)/\bL wD wK/\bL wE wK/\KT wK wE.heap.size):=by intro wE h1;have hA:bL wE (wE.alloc (Zh #[C D 0,C D 0,C D 0,E A 0 0,C D 0,E A 0 0,E A 0 0] 27)):=(Zb _ _).alloc (Za _) _;refine(bb.out (wE.alloc (Zh #[C D 0,C D 0,C D 0,E A 0 0,C D 0,E A 0 0,E A 0 0] 27)) (fun b=>(Q b/\b≠w.heap.size+1)/\b≠wE.heap.size) (h1.trans (hA.mono h1.size)) (fun b h hl=>⟨h,by have:=h1.size;omega⟩) (fun b d=>⟨am b (by have:=h1.size;simp at d;omega),by simp at d;omega⟩)).mono ?_;rintro e wK ⟨g,zs,rfl,h2,h3,h4⟩;exact⟨g,zs,rfl,h2,h3,hA.trans (h4.mono hA.size),KT.later h4 (KT.new wE)⟩
    have bf:Zg (∀wE,bL wD wE->KT wE wD.heap.size->Zf X 70 #[E a rs.length a4,U.s] wE fun e wK=>∃(g:Nat)(zs:List TT),e=S (E (F ⟨g,0,A⟩) zs.length zs.length)/\Zg (PW (fun b=>(Q b/\b≠w.heap.size+1)/\b≠wD.heap.size) rs U g zs wK)/\bL wD wK/\bL wE wK/\KT wK wD.heap.size):=by intro wE h1 hz;have d1:=hz.lt;refine(bb.out wE (fun b=>(Q b/\b≠w.heap.size+1)/\b≠wD.heap.size) h1 (fun b h hl=>⟨h,by omega⟩) (fun b h=>⟨am b (by omega),by omega⟩)).mono ?_;rintro e wK ⟨g,zs,rfl,h2,h3,h4⟩;exact⟨g,zs,rfl,h2,h3,h4,KT.later h4 hz⟩
    clear ce bb a3 am;go_upto_region 10 with fail;go_cut [13] (fun s13 wx=>∃(G':Nat)(Y:TT),s13=L (F ⟨G',0,A⟩)/\Zg (bL wD wx/\X4 wx G' 0 Y/\Y.In wx/\Y.Bl (fun b=>Q b/\b≠w.heap.size+1)/\Y.tm=⟨x.k,x.n,x.t.ty,Yn,XR (rs.map O1) (U.l.map Tr.ty)⟩))
    case first=>
     have d:bL wD wD.drew:=(Zb _ _).drew;have aw:Zg (∀(W0:Zj)(G':Nat)(v0 v1 v2 v3 v4 v5 v6:Value),bL wD W0->wD.heap.size<=G'->(fun i:Zj=>cL i w.heap.size 0 (C D x.k)/\cL i w.heap.size 1 (C D x.n)/\cL i w.heap.size 2 (C D x.t.k)/\cL i w.heap.size 3 (x.t.s)/\cL i G 2 (U.s)) (((((((W0.setCell ⟨G',0,A⟩ v0).setCell ⟨G',1,A⟩ v1).setCell ⟨G',2,A⟩ v2).setCell ⟨G',3,A⟩ v3).setCell ⟨G',4,A⟩ v4).setCell ⟨G',5,A⟩ v5).setCell ⟨G',6,A⟩ v6)):=fun W0 G' v0 v1 v2 v3 v4 v5 v6 h1 h2=>b4.out _ (((((((h1.setCell h2 _).setCell h2 _).setCell h2 _).setCell h2 _).setCell h2 _).setCell h2 _).setCell h2 _)
     go_region_held3 (fun i=>cL i w.heap.size 0 (C D x.k)/\cL i w.heap.size 1 (C D x.n)/\cL i w.heap.size 2 (C D x.t.k)/\cL i w.heap.size 3 (x.t.s)/\cL i G 2 (U.s))
      (first
       |(with_reducible exact b4.out _ d)
       |(with_reducible exact b4.out _ ah)
       |(with_reducible exact b4.out _ (d.alloc d.size _))
       |(with_reducible exact aw.out _ _ _ _ _ _ _ _ _ d hG)
       |(with_reducible exact aw.out _ _ _ _ _ _ _ _ _ d (Za _))
       |fail)
      (first
       |(go_at_call 42;(with_reducible refine bs.out.mono ?_);rintro e wE ⟨t,rfl,af,ad,a5,d,cy⟩)
       |(go_at_call 42;(with_reducible refine bn.out.mono ?_);rintro e wE ⟨t,rfl,af,ad,a5,d,hz⟩)
       |(go_at_call 70;(with_reducible refine(bf.out _ d hz).mono ?_);clear hz;rintro e wK ⟨g,zs,rfl,aa,d,ae,hz⟩;obtain⟨⟨y0,y1,y2,y3,y4,y5,y6⟩,g0,g1,g2,g3,g4,g5,g6⟩:=id hz)
       |(go_at_call 70;(with_reducible refine(bm.out _ d).mono ?_);rintro e wK ⟨g,zs,rfl,aa,d,ae⟩)
       |(go_at_call 70;(with_reducible refine(bt.out _ d).mono ?_);have hG:=d.size;rintro e wK ⟨g,zs,rfl,aa,d,ae,hz⟩;obtain⟨⟨y0,y1,y2,y3,y4,y5,y6⟩,g0,g1,g2,g3,g4,g5,g6⟩:=id hz)
       |fail)
     .have HFi:Zg (bL wD (wK.alloc (Zh #[C D x.k,C D x.n,C D t.k,t.s,C D 0,E A 0 0,E (F ⟨g,0,A⟩) zs.length zs.length] 27))/\X4 (wK.alloc (Zh #[C D x.k,C D x.n,C D t.k,t.s,C D 0,E A 0 0,E (F ⟨g,0,A⟩) zs.length zs.length] 27)) wK.heap.size 0 (TT.mk x.k x.n t (Yr 0) (F ⟨g,0,A⟩) zs.length zs)/\(TT.mk x.k x.n t (Yr 0) (F ⟨g,0,A⟩) zs.length zs).In (wK.alloc (Zh #[C D x.k,C D x.n,C D t.k,t.s,C D 0,E A 0 0,E (F ⟨g,0,A⟩) zs.length zs.length] 27))/\(TT.mk x.k x.n t (Yr 0) (F ⟨g,0,A⟩) zs.length zs).Bl (fun b=>Q b/\b≠w.heap.size+1)/\(TT.mk x.k x.n t (Yr 0) (F ⟨g,0,A⟩) zs.length zs).tm=⟨x.k,x.n,x.t.ty,Yn,XR (rs.map O1) (U.l.map Tr.ty)⟩):=by obtain⟨h1,h2,h3⟩:=aa.out.tree x.k x.n t (ad.below ae) a5;have hA:bL wK (wK.alloc (Zh #[C D x.k,C D x.n,C D t.k,t.s,C D 0,E A 0 0,E (F ⟨g,0,A⟩) zs.length zs.length] 27)):=(Zb _ _).alloc (Za _) _;refine⟨d.trans (hA.mono d.size),X4.new wK (TT.mk x.k x.n t (Yr 0) (F ⟨g,0,A⟩) zs.length zs),h1.below hA,h2,?_⟩;rw[h3,af.out]
      clear aa d ad a5 af ae cy;go_wp2_with fail;go_meet
      case rel=>exact⟨_,(TT.mk x.k x.n t (Yr 0) (F ⟨g,0,A⟩) zs.length zs),rfl,HFi⟩
     .have HFi:Zg (bL wD (Y5 wK wE.heap.size (TT.mk x.k x.n t (Yr 0) (F ⟨g,0,A⟩) zs.length zs))/\X4 (Y5 wK wE.heap.size (TT.mk x.k x.n t (Yr 0) (F ⟨g,0,A⟩) zs.length zs)) wE.heap.size 0 (TT.mk x.k x.n t (Yr 0) (F ⟨g,0,A⟩) zs.length zs)/\(TT.mk x.k x.n t (Yr 0) (F ⟨g,0,A⟩) zs.length zs).In (Y5 wK wE.heap.size (TT.mk x.k x.n t (Yr 0) (F ⟨g,0,A⟩) zs.length zs))/\(TT.mk x.k x.n t (Yr 0) (F ⟨g,0,A⟩) zs.length zs).Bl (fun b=>Q b/\b≠w.heap.size+1)/\(TT.mk x.k x.n t (Yr 0) (F ⟨g,0,A⟩) zs.length zs).tm=⟨x.k,x.n,x.t.ty,Yn,XR (rs.map O1) (U.l.map Tr.ty)⟩):=by obtain⟨h1,h2,h3⟩:=aa.out.tree x.k x.n t (ad.below ae) ((a5.and ad.bl).mono fun b d=>⟨d.1,by omega⟩);refine⟨d.trans ((YF.below (by simp) (Nat.le_of_lt hz.lt)).mono hG),(XH hz.box).at7,h1.keptR YF (h2.mono fun b d=>d.2),h2.mono fun b d=>d.1,?_⟩;rw[h3,af.out]
      clear aa d ad a5 af ae cy hz y0 y1 y2 y3 y4 y5 y6 g0 g1 g2 g3 g4 g5 g6;go_wp2_with fail;go_meet
      case rel=>exact⟨_,(TT.mk x.k x.n t (Yr 0) (F ⟨g,0,A⟩) zs.length zs),rfl,HFi⟩
     .have HFi:Zg (bL wD (Y5 wK wD.heap.size (TT.mk x.k x.n t (Yr 0) (F ⟨g,0,A⟩) zs.length zs))/\X4 (Y5 wK wD.heap.size (TT.mk x.k x.n t (Yr 0) (F ⟨g,0,A⟩) zs.length zs)) wD.heap.size 0 (TT.mk x.k x.n t (Yr 0) (F ⟨g,0,A⟩) zs.length zs)/\(TT.mk x.k x.n t (Yr 0) (F ⟨g,0,A⟩) zs.length zs).In (Y5 wK wD.heap.size (TT.mk x.k x.n t (Yr 0) (F ⟨g,0,A⟩) zs.length zs))/\(TT.mk x.k x.n t (Yr 0) (F ⟨g,0,A⟩) zs.length zs).Bl (fun b=>Q b/\b≠w.heap.size+1)/\(TT.mk x.k x.n t (Yr 0) (F ⟨g,0,A⟩) zs.length zs).tm=⟨x.k,x.n,x.t.ty,Yn,XR (rs.map O1) (U.l.map Tr.ty)⟩):=by obtain⟨h1,h2,h3⟩:=aa.out.tree x.k x.n t (ad.below ae) a5;refine⟨d.trans ((YF.below (by simp) (Nat.le_of_lt hz.lt)).mono (Za _)),(XH hz.box).at7,h1.keptR YF (h2.mono fun b d=>d.2),h2.mono fun b d=>d.1,?_⟩;rw[h3,af.out]
      clear aa d ad a5 af ae hz y0 y1 y2 y3 y4 y5 y6 g0 g1 g2 g3 g4 g5 g6;go_wp2_with fail;go_meet
      case rel=>exact⟨_,(TT.mk x.k x.n t (Yr 0) (F ⟨g,0,A⟩) zs.length zs),rfl,HFi⟩
    case rest=>
    obtain⟨G',Y,rfl,HY⟩:=hcut;clear bs bn bm bt bf ah b4;obtain⟨ba,d4,ci,cb,co⟩:=HY.out;have al:=a7.out.1.trans (ba.mono d2);have HN:Zg (Kr Q R x c (T.l.map Tr.ty) w (S (Zd #[Zi #[C D (c:Int),C D Y.k,C D Y.n,C D Y.t.k,Y.t.s,C D Y.f.k,Y.f.s,Y.s,C D I.k,I.s],.bool Zv])) (UU wc (w.heap.size+1) (C D (c:Int)) (C D Y.k) (C D Y.n) (C D Y.t.k) (Y.t.s) (C D Y.f.k) (Y.f.s) (Y.s) (C D I.k) (I.s))):=by
     have hk:=K7 (w:=wc) (J:=w.heap.size+1) (v0:=C D (c:Int)) (v1:=C D Y.k) (v2:=C D Y.n) (v3:=C D Y.t.k) (v4:=Y.t.s) (v5:=C D Y.f.k) (v6:=Y.f.s) (v7:=Y.s) (v8:=C D I.k) (v9:=I.s);have b1:=HF.out.2.2.2.2.2.below al;refine⟨(HF.out.2.1.trans (Yi.of_below al)).new hk (by omega),.inr ⟨⟨(c:Int),Y,I⟩,?_,rfl,rfl,ci.keptR hk (cb.mono fun b d=>d.2),(a7.out.2.2.1.below ba).keptR hk (HI.out.2.2.2.2.1.mono fun b d=>d.2),cb.mono fun b d=>d.1,HI.out.2.2.2.2.1.mono fun b d=>d.1,?_⟩⟩
     .rw[co];exact VG HG.out.2.2.1 HR.out.1 HR.out.2.2.2.2.2
     .have e:c+x.sz=c+1+(x.l.map TT.sz).sum:=by have:=HM.out.2.2.2;omega
      rw[e];exact⟨hk.cell b1.c (by omega),hk.fz b1.f b1.lt (by omega)⟩
    have a1:=HF.out.1.below al;obtain⟨e0,e1,e2,e3,e4,e5,e6,e7,e8,e9⟩:=a1.put (C D (c:Int)) (C D Y.k) (C D Y.n) (C D Y.t.k) (Y.t.s) (C D Y.f.k) (Y.f.s) (Y.s) (C D I.k) (I.s);obtain⟨_,z0,z1,z2,z3,z4,z5,z6,z7,z8,z9,fz⟩:=a1;have f0:=fz 0;have f1:=fz 1;have f2:=fz 2;have f3:=fz 3;have f4:=fz 4;have f5:=fz 5;have f6:=fz 6;have f7:=fz 7;have f8:=fz 8;have f9:=fz 9;obtain⟨y0,y1,y2,y3,y4,y5,y6⟩:=d4;simp only[Zn] at y1 y2 y3 y4 y5 y6;have c9:=a7.out.2.1.below ba;have r0:=c9.k;have r1:=c9.l;clear fz ba ci cb co HY al c9 HI a7 HF HG HR HQ HM HK b9 bv;go_wp2_with fail;refine Zo (v:=Zd #[Zi #[C D (c:Int),C D Y.k,C D Y.n,C D Y.t.k,Y.t.s,C D Y.f.k,Y.f.s,Y.s,C D I.k,I.s],.bool Zv]) ?_ rfl HN.out;unfold UU at e0 e1 e2 e3 e4 e5 e6 e7 e8 e9;simp[results,Zu,go_sem,e0,e1,e2,e3,e4,e5,e6,e7,e8,e9]
theorem Ah(R:Nat):∀(m:Nat)(Q:Nat->Prop)(x:TT)(c:Nat)(T:Tr)(w:Zj),x.sz<=m->Vi Q R x c T w->
  Zf X 41 #[L (F ⟨R,0,A⟩),Zi #[C D x.k,C D x.n,C D x.t.k,E x.t.a x.t.l.length x.t.c,C D x.f.k,E x.f.a x.f.l.length x.f.c,E x.a x.l.length x.c],E T.a T.l.length T.c] w (Kr Q R x c (T.l.map Tr.ty) w):=by
 intro m;induction m with
 |zero=>intro Q x c T w h _;have:=x.sz_pos;omega
 |succ m ih=>
  intro Q x c T w h b;refine VD Q R x c T w b fun y e Q' c' d W a=>ih Q' y c' d W ?_ a;have i:=x.sz_eq;have g:y.sz<=(x.l.map TT.sz).sum:=by have:=Ji (x.l.map TT.tm) y.tm (Zp.2 ⟨y,e,rfl⟩);rw[N5,<-y.sz_tm] at this;exact this
  omega
def WC:Value:=Zi #[C D 0,E A 0 0]
def LE(x:TT)(w:Zj)(e:Ending)(w':Zj):Prop:=Below w.heap.size w w'/\((Uh 0 x.tm=Zt/\e=S (Zd #[Zi #[C D 0,C D 0,C D 0,E A 0 0,C D 0,E A 0 0,E A 0 0],Zi #[C D 0,E A 0 0],C D 1]))\/ (Uh 0 x.tm=Zv/\Xq x.tm [] 0=A/\e=S (Zd #[Zi #[C D 0,C D 0,C D 0,E A 0 0,C D 0,E A 0 0,E A 0 0],Zi #[C D 0,E A 0 0],C D 2]))\/ (Uh 0 x.tm=Zv/\∃(y:TT)(i:Tr),Xq x.tm [] 0=F (y.tm,i.ty)/\e=S (Zd #[Zi #[C D y.k,C D y.n,C D y.t.k,E y.t.a y.t.l.length y.t.c,C D y.f.k,E y.f.a y.f.l.length y.f.c,E y.a y.l.length y.c],Zi #[C D i.k,E i.a i.l.length i.c],C D 0])/\y.In w'/\i.In w'/\Yz 44 i=Zv))
structure CF(H:Nat)(x:TT)(W:Zj):Prop where
 at7:X4 W H 0 x
 z:KT W (H+1)
 u0:W.cell? ⟨H+1+1,0,A⟩=F (C D 0)
 u1:W.cell? ⟨H+1+1,1,A⟩=F (E A 0 0)
 g0:W.frozen? ⟨H+1+1,0,A⟩=Zt
 g1:W.frozen? ⟨H+1+1,1,A⟩=Zt
theorem CF.lt(h:CF H x W):H+1+1<W.heap.size:=Zc _ _ h.u0
theorem CF.below(h:CF H x W)(hb:Below W.heap.size W W'):CF H x W':=⟨h.at7.below hb,h.z.later hb,Z hb h.u0,Z hb h.u1,(hb.frozen (p:=⟨H+1+1,0,A⟩) h.lt).trans h.g0,(hb.frozen (p:=⟨H+1+1,1,A⟩) h.lt).trans h.g1⟩
theorem KT.low{V:Zj}{B:Nat}(a:Below B V w)(d:b<B)(h:KT V b):KT w b:=by obtain⟨⟨j,h1,e,k,z,h5,r⟩,o,x,q,y,u,g,l⟩:=h;have c:∀i,w.cell? ⟨b,i,A⟩=V.cell? ⟨b,i,A⟩:=fun i=>a.cell (p:=⟨b,i,A⟩) d;have f:∀i,w.frozen? ⟨b,i,A⟩=V.frozen? ⟨b,i,A⟩:=fun i=>a.frozen (p:=⟨b,i,A⟩) d;exact⟨⟨(c 0).trans j,(c 1).trans h1,(c 2).trans e,(c 3).trans k,(c 4).trans z,(c 5).trans h5,(c 6).trans r⟩,(f 0).trans o,(f 1).trans x,(f 2).trans q,(f 3).trans y,(f 4).trans u,(f 5).trans g,(f 6).trans l⟩
theorem CF.low{B:Nat}(h:CF H x W)(hb:Below B W W')(hB:H+1+1<B):CF H x W':=⟨h.at7.of fun i=>hb.cell (p:=⟨H,i,A⟩) (show H<B by omega),h.z.low hb (by omega),(hb.cell (p:=⟨H+1+1,0,A⟩) hB).trans h.u0,(hb.cell (p:=⟨H+1+1,1,A⟩) hB).trans h.u1,(hb.frozen (p:=⟨H+1+1,0,A⟩) hB).trans h.g0,(hb.frozen (p:=⟨H+1+1,1,A⟩) hB).trans h.g1⟩
theorem CF.start(x:TT)(w:Zj):CF w.heap.size x (((w.alloc (Zh #[C D x.k,C D x.n,C D x.t.k,E x.t.a x.t.l.length x.t.c,C D x.f.k,E x.f.a x.f.l.length x.f.c,E x.a x.l.length x.c] 27)).alloc (Zh #[C D 0,C D 0,C D 0,E A 0 0,C D 0,E A 0 0,E A 0 0] 27)).alloc (Zh #[C D 0,E A 0 0] 24)):=by refine⟨⟨?_,?_,?_,?_,?_,?_,?_⟩,⟨⟨?_,?_,?_,?_,?_,?_,?_⟩,?_,?_,?_,?_,?_,?_,?_⟩,?_,?_,?_,?_⟩<;>simp[go_sem]
def XT(W:Zj)(H:Nat)(y:TT)(i:Tr):Zj:=((Y5 W (H+1) y).setCell ⟨H+1+1,0,A⟩ (C D i.k)).setCell ⟨H+1+1,1,A⟩ (E i.a i.l.length i.c)
theorem UW(W:Zj)(H:Nat)(y:TT)(i:Tr)(h:H+1+1<W.heap.size):Below H W (XT W H y i):=(((YF (w:=W) (J:=H+1) (x:=y)).below (by simp) (by omega)).mono (by omega)).trans (((Zb _ _).setCell (by show H<=H+1+1;omega) _).setCell (by show H<=H+1+1;omega) _)
theorem CF.ends(h:CF H x W)(y:TT)(i:Tr):
  (XT W H y i).cell? ⟨H+1,0,A⟩=F (C D y.k)/\(XT W H y i).cell? ⟨H+1,1,A⟩=F (C D y.n)/\(XT W H y i).cell? ⟨H+1,2,A⟩=F (C D y.t.k)/\(XT W H y i).cell? ⟨H+1,3,A⟩=F (E y.t.a y.t.l.length y.t.c)/\(XT W H y i).cell? ⟨H+1,4,A⟩=F (C D y.f.k)/\(XT W H y i).cell? ⟨H+1,5,A⟩=F (E y.f.a y.f.l.length y.f.c)/\(XT W H y i).cell? ⟨H+1,6,A⟩=F (E y.a y.l.length y.c)/\(XT W H y i).cell? ⟨H+1+1,0,A⟩=F (C D i.k)/\(XT W H y i).cell? ⟨H+1+1,1,A⟩=F (E i.a i.l.length i.c):=by
 have r:=(XH (x:=y) h.z.box).at7;have l:Yi (H+1+1) A (Y5 W (H+1) y) (XT W H y i):=Yj.trans Yj;have q:=r.keptR l (by omega);obtain⟨g,k,a,b,e,c,d⟩:=q;simp only[Zn] at g k a b e c d;have p:=(YF (w:=W) (J:=H+1) (x:=y)).cell h.u0 (by omega);have o:=(YF (w:=W) (J:=H+1) (x:=y)).cell h.u1 (by omega);refine⟨g,k,a,b,e,c,d,?_,?_⟩
 .simpa[XT] using Yp (j:=1) (v:=i.s) (Yp (j:=0) (v:=C D i.k) p)
 .simpa[XT] using Yp (j:=1) (v:=i.s) (Yp (j:=0) (v:=C D i.k) o)
theorem Wj(x:TT)(w:Zj)(hg:Gp w)(hx:x.In w)(hnb:x.nb):Zf X 25 #[Zi #[C D x.k,C D x.n,C D x.t.k,E x.t.a x.t.l.length x.t.c,C D x.f.k,E x.f.a x.f.l.length x.f.c,E x.a x.l.length x.c]] w (LE x w):=by
 have ai:=CF.start x w;obtain⟨W1,ae⟩:∃W1,W1=(((w.alloc (Zh x.v 27)).alloc (Zh #[C D 0,C D 0,C D 0,E A 0 0,C D 0,E A 0 0,E A 0 0] 27)).alloc (Zh #[C D 0,E A 0 0] 24)):=⟨_,rfl⟩
 have ak:bL w W1:=by rw[ae];exact(((Zb _ _).alloc (Za _) _).alloc (by simp) _).alloc (by simp;omega) _
 rw[<-ae] at ai;obtain⟨gd,an⟩:∃gd,Uh 0 x.tm=gd:=⟨_,rfl⟩
 have HG:Zg (Zf X 29 #[Zi x.v,C D 0] W1 fun e w'=>e=S (.bool gd)/\bL W1 w'):=by have:=Mh x 0 W1 (hg.below ak) (hx.below ak) hnb;rw[an] at this;exact this
 have HX:=Nm hx an ak ai;obtain⟨p0,p1,p2,p3,p4,p5,p6⟩:=ai.at7;simp only[Zn] at p0 p1 p2 p3 p4 p5 p6;clear hg hx hnb ai an ak;go_enter func25,ntmps25;go_wp2_with fail;rw[<-ae];refine HG.out.mono ?_;rintro e w2 ⟨rfl,au⟩;have c:=HX.out.2.2.2.below au;have ab:=HX.out.2.2.1.trans (au.mono HX.out.2.2.1.size);have a9:=Un HX.out.1 HX.out.2.1;clear p0 p1 p2 p3 p4 p5 p6 HG HX au ae;cases gd
 .have HN:Zg (LE x w (S (Zd #[Zi #[C D 0,C D 0,C D 0,E A 0 0,C D 0,E A 0 0,E A 0 0],Zi #[C D 0,E A 0 0],C D 1])) (XT w2 w.heap.size (YJ 0 0) (Yr 0))):=⟨ab.trans ((UW w2 w.heap.size (YJ 0 0) (Yr 0) c.lt).mono (Za _)),.inl ⟨a9.out.2,rfl⟩⟩
  obtain⟨e0,e1,e2,e3,e4,e5,e6,e7,e8⟩:=c.ends (YJ 0 0) (Yr 0);obtain⟨_,⟨⟨y0,y1,y2,y3,y4,y5,y6⟩,f0,f1,f2,f3,f4,f5,f6⟩,u0,u1,g0,g1⟩:=c;clear ab;go_wp2_with fail;refine Zo (v:=Zd #[Zi #[C D 0,C D 0,C D 0,E A 0 0,C D 0,E A 0 0,E A 0 0],Zi #[C D 0,E A 0 0],C D 1]) ?_ rfl HN.out;unfold XT Y5 at e0 e1 e2 e3 e4 e5 e6 e7 e8;simp only[YJ,Yr,List.length_nil] at e0 e1 e2 e3 e4 e5 e6 e7 e8;simp[results,Zw,go_sem,e0,e1,e2,e3,e4,e5,e6,e7,e8]
 .obtain⟨hok,hsz⟩:=Lv a9.out.2;have ah:=c.lt;have aj:bL w2 (w2.alloc (Zh #[C D 0] 68)):=(Zb _ _).alloc (Za _) _;have ad:=ab.trans (aj.mono ab.size);have am:x.sz<=40:=by rw[x.sz_tm];exact hsz
  have HC:Zg (Zf X 41 #[L (F ⟨w2.heap.size,0,A⟩),Zi x.v,E A 0 0] (w2.alloc (Zh #[C D 0] 68)) (Kr (fun b=>b≠w2.heap.size/\b≠w.heap.size+1/\b≠w.heap.size+1+1) w2.heap.size x 0 [] (w2.alloc (Zh #[C D 0] 68)))):=by refine Ah w2.heap.size 900 _ x 0 (Yr 0) _ (by omega) ⟨hok,fun t h=>(by cases h),⟨by omega,by simp[Yr];omega⟩,a9.out.1.below ad,YB _ _,⟨by simp[go_sem],by simp[go_sem]⟩,a9.out.1.bl.mono fun b i=>⟨by omega,by omega,by omega⟩,YG _ _,fun b i=>?_,fun b i=>i.1⟩;simp only[World.size_alloc] at i;exact⟨by omega,by omega,by omega⟩
  have HB:=Nm ad (c.below aj) am hok;obtain⟨p0,p1,p2,p3,p4,p5,p6⟩:=c.at7;simp only[Zn] at p0 p1 p2 p3 p4 p5 p6;obtain⟨q0,q1,q2,q3,q4,q5,q6⟩:=(c.below aj).at7;simp only[Zn] at q0 q1 q2 q3 q4 q5 q6;clear hok hsz ad am ab aj c;go_wp2_with fail;refine HC.out.mono ?_;rintro e w3 ⟨af,⟨b0,rfl⟩|⟨r,o,rfl,hn,ax,b4,ac,b6,b9⟩⟩
  .have p:=af.below (by simp) (by simp);have z:=HB.out.1.trans (p.mono (by omega));have hA:bL w3 (w3.alloc (Zh #[C D 0,C D 0,C D 0,C D 0,E A 0 0,C D 0,E A 0 0,E A 0 0,C D 0,E A 0 0] 64)):=(Zb _ _).alloc (Za _) _;have y:=z.trans (hA.mono z.size);have c:=(HB.out.2.1.low p ah).below hA;obtain⟨W4,b2⟩:∃W4,W4=(w3.alloc (Zh #[C D 0,C D 0,C D 0,C D 0,E A 0 0,C D 0,E A 0 0,E A 0 0,C D 0,E A 0 0] 64)):=⟨_,rfl⟩
   rw[<-b2] at y c;have HN:Zg (LE x w (S (Zd #[Zi #[C D 0,C D 0,C D 0,E A 0 0,C D 0,E A 0 0,E A 0 0],Zi #[C D 0,E A 0 0],C D 2])) (XT W4 w.heap.size (YJ 0 0) (Yr 0))):=⟨y.trans ((UW W4 w.heap.size (YJ 0 0) (Yr 0) c.lt).mono (Za _)),.inr (.inl ⟨a9.out.2,b0,rfl⟩)⟩
   obtain⟨e0,e1,e2,e3,e4,e5,e6,e7,e8⟩:=c.ends (YJ 0 0) (Yr 0);obtain⟨_,⟨⟨y0,y1,y2,y3,y4,y5,y6⟩,f0,f1,f2,f3,f4,f5,f6⟩,u0,u1,g0,g1⟩:=c;clear y z p af b0 hA HC HB p0 p1 p2 p3 p4 p5 p6 q0 q1 q2 q3 q4 q5 q6;subst b2;go_wp2_with fail;refine Zo (v:=Zd #[Zi #[C D 0,C D 0,C D 0,E A 0 0,C D 0,E A 0 0,E A 0 0],Zi #[C D 0,E A 0 0],C D 2]) ?_ rfl HN.out;unfold XT Y5 at e0 e1 e2 e3 e4 e5 e6 e7 e8;simp only[YJ,Yr,List.length_nil] at e0 e1 e2 e3 e4 e5 e6 e7 e8;simp[results,Zw,go_sem,e0,e1,e2,e3,e4,e5,e6,e7,e8]
  .obtain⟨OR,hOR⟩:∃O,O=Obj.cells #[C D r.n,C D r.y.k,C D r.y.n,C D r.y.t.k,r.y.t.s,C D r.y.f.k,r.y.f.s,r.y.s,C D r.i.k,r.i.s] 64:=⟨_,rfl⟩
   have p:=af.below (by simp) (by simp);have z:=HB.out.1.trans (p.mono (by omega));have hA:bL w3 (w3.alloc OR):=(Zb _ _).alloc (Za _) _;have y:=z.trans (hA.mono z.size);have c:CF w.heap.size x (w3.alloc OR):=(HB.out.2.1.low p ah).below hA;have q:Yz 44 r.i=Zv:=by rw[YM];have:=JQ x.tm [] 0 r.y.tm r.i.ty HB.out.2.2.2 (fun u h=>by cases h) o;have b8:=HB.out.2.2.1;rw[x.sz_tm] at b8;exact YH _ 44 _ (by omega) this
   have ap:=YR (n:=44) (by omega) q;have ar:(w3.alloc OR).cell? ⟨w3.heap.size,1,A⟩=F (C D r.y.k)/\(w3.alloc OR).cell? ⟨w3.heap.size,2,A⟩=F (C D r.y.n)/\(w3.alloc OR).cell? ⟨w3.heap.size,3,A⟩=F (C D r.y.t.k)/\(w3.alloc OR).cell? ⟨w3.heap.size,4,A⟩=F (E r.y.t.a r.y.t.l.length r.y.t.c)/\(w3.alloc OR).cell? ⟨w3.heap.size,5,A⟩=F (C D r.y.f.k)/\(w3.alloc OR).cell? ⟨w3.heap.size,6,A⟩=F (E r.y.f.a r.y.f.l.length r.y.f.c)/\(w3.alloc OR).cell? ⟨w3.heap.size,7,A⟩=F (E r.y.a r.y.l.length r.y.c)/\(w3.alloc OR).cell? ⟨w3.heap.size,8,A⟩=F (C D r.i.k)/\(w3.alloc OR).cell? ⟨w3.heap.size,9,A⟩=F (E r.i.a r.i.l.length r.i.c):=by subst hOR;refine⟨?_,?_,?_,?_,?_,?_,?_,?_,?_⟩<;>simp[go_sem]
   have ba:w.heap.size+1+1<w3.heap.size:=Nat.lt_of_lt_of_le ah (by have:=p.size;simp at this;omega);obtain⟨WB,ao⟩:∃WB,WB=w3.alloc OR:=⟨_,rfl⟩
   rw[<-ao] at hA y c ar;have HS:Zg (∀a,bL WB a->cL a w3.heap.size 1 (C D r.y.k)/\cL a w3.heap.size 2 (C D r.y.n)/\cL a w3.heap.size 3 (C D r.y.t.k)/\cL a w3.heap.size 4 (r.y.t.s)/\cL a w3.heap.size 5 (C D r.y.f.k)/\cL a w3.heap.size 6 (r.y.f.s)/\cL a w3.heap.size 7 (r.y.s)/\cL a w3.heap.size 8 (C D r.i.k)/\cL a w3.heap.size 9 (r.i.s)):=by intro a i;obtain⟨h1,h2,h3,h4,h5,h6,h7,h8,h9⟩:=ar;exact⟨Z i h1,Z i h2,Z i h3,Z i h4,Z i h5,Z i h6,Z i h7,Z i h8,Z i h9⟩
   have b5:Zg (Zf X 42 #[Zi r.i.v] WB.drew fun e wE=>∃t:Tr,e=S (Zi t.v)/\Zg (t.ty=r.i.ty/\t.In wE/\t.Bl (WB.heap.size<=·))/\bL WB wE/\CF w.heap.size x wE):=by refine(M3 r.i WB.drew ((b4.below hA).below ((Zb _ _).drew)) ap.1 ap.2.1).mono ?_;rintro e wE ⟨t,rfl,h1,h2,h3,h4⟩;have h5:bL WB wE:=((Zb _ _).drew).trans (h4.mono (Za _));exact⟨t,rfl,⟨h1,h2,h3⟩,h5,c.below h5⟩
   have HD:=BV y (ax.below hA) ac q o c.lt;have b3:WB.drew.cell? ⟨w3.heap.size,1,A⟩=F (C D r.y.k)/\WB.drew.cell? ⟨w3.heap.size,2,A⟩=F (C D r.y.n)/\WB.drew.cell? ⟨w3.heap.size,3,A⟩=F (C D r.y.t.k)/\WB.drew.cell? ⟨w3.heap.size,4,A⟩=F (E r.y.t.a r.y.t.l.length r.y.t.c)/\WB.drew.cell? ⟨w3.heap.size,5,A⟩=F (C D r.y.f.k)/\WB.drew.cell? ⟨w3.heap.size,6,A⟩=F (E r.y.f.a r.y.f.l.length r.y.f.c)/\WB.drew.cell? ⟨w3.heap.size,7,A⟩=F (E r.y.a r.y.l.length r.y.c)/\WB.drew.cell? ⟨w3.heap.size,8,A⟩=F (C D r.i.k)/\WB.drew.cell? ⟨w3.heap.size,9,A⟩=F (E r.i.a r.i.l.length r.i.c):=HS.out _ ((Zb _ _).drew);have aw:Zg (WB.drew.cell? ⟨w3.heap.size,1,A⟩=F (C D r.y.k)/\WB.drew.cell? ⟨w3.heap.size,2,A⟩=F (C D r.y.n)/\WB.drew.cell? ⟨w3.heap.size,3,A⟩=F (C D r.y.t.k)/\WB.drew.cell? ⟨w3.heap.size,4,A⟩=F (E r.y.t.a r.y.t.l.length r.y.t.c)/\WB.drew.cell? ⟨w3.heap.size,5,A⟩=F (C D r.y.f.k)/\WB.drew.cell? ⟨w3.heap.size,6,A⟩=F (E r.y.f.a r.y.f.l.length r.y.f.c)/\WB.drew.cell? ⟨w3.heap.size,7,A⟩=F (E r.y.a r.y.l.length r.y.c)/\WB.drew.cell? ⟨w3.heap.size,8,A⟩=F (C D r.i.k)/\WB.drew.cell? ⟨w3.heap.size,9,A⟩=F (E r.i.a r.i.l.length r.i.c)):=b3;clear p z hA y c q ap b3 hn ax b4 ac b6 b9 o af HC HB p0 p1 p2 p3 p4 p5 p6 q0 q1 q2 q3 q4 q5 q6 ah;subst hOR;go_upto_region 6 with fail;rw[<-ao];have ay:Zg (WB.cell? ⟨w3.heap.size,1,A⟩=F (C D r.y.k)/\WB.cell? ⟨w3.heap.size,2,A⟩=F (C D r.y.n)/\WB.cell? ⟨w3.heap.size,3,A⟩=F (C D r.y.t.k)/\WB.cell? ⟨w3.heap.size,4,A⟩=F (E r.y.t.a r.y.t.l.length r.y.t.c)/\WB.cell? ⟨w3.heap.size,5,A⟩=F (C D r.y.f.k)/\WB.cell? ⟨w3.heap.size,6,A⟩=F (E r.y.f.a r.y.f.l.length r.y.f.c)/\WB.cell? ⟨w3.heap.size,7,A⟩=F (E r.y.a r.y.l.length r.y.c)/\WB.cell? ⟨w3.heap.size,8,A⟩=F (C D r.i.k)/\WB.cell? ⟨w3.heap.size,9,A⟩=F (E r.i.a r.i.l.length r.i.c)):=ar;have a7:Zg (∀(a:Zj)(d g a2 a3 a4 a5 a6:Value),(a.cell? ⟨w3.heap.size,1,A⟩=F (C D r.y.k)/\a.cell? ⟨w3.heap.size,2,A⟩=F (C D r.y.n)/\a.cell? ⟨w3.heap.size,3,A⟩=F (C D r.y.t.k)/\a.cell? ⟨w3.heap.size,4,A⟩=F (E r.y.t.a r.y.t.l.length r.y.t.c)/\a.cell? ⟨w3.heap.size,5,A⟩=F (C D r.y.f.k)/\a.cell? ⟨w3.heap.size,6,A⟩=F (E r.y.f.a r.y.f.l.length r.y.f.c)/\a.cell? ⟨w3.heap.size,7,A⟩=F (E r.y.a r.y.l.length r.y.c)/\a.cell? ⟨w3.heap.size,8,A⟩=F (C D r.i.k)/\a.cell? ⟨w3.heap.size,9,A⟩=F (E r.i.a r.i.l.length r.i.c))->(((((((a.setCell ⟨w.heap.size+1,0,A⟩ d).setCell ⟨w.heap.size+1,1,A⟩ g).setCell ⟨w.heap.size+1,2,A⟩ a2).setCell ⟨w.heap.size+1,3,A⟩ a3).setCell ⟨w.heap.size+1,4,A⟩ a4).setCell ⟨w.heap.size+1,5,A⟩ a5).setCell ⟨w.heap.size+1,6,A⟩ a6).cell? ⟨w3.heap.size,1,A⟩=F (C D r.y.k)/\(((((((a.setCell ⟨w.heap.size+1,0,A⟩ d).setCell ⟨w.heap.size+1,1,A⟩ g).setCell ⟨w.heap.size+1,2,A⟩ a2).setCell ⟨w.heap.size+1,3,A⟩ a3).setCell ⟨w.heap.size+1,4,A⟩ a4).setCell ⟨w.heap.size+1,5,A⟩ a5).setCell ⟨w.heap.size+1,6,A⟩ a6).cell? ⟨w3.heap.size,2,A⟩=F (C D r.y.n)/\(((((((a.setCell ⟨w.heap.size+1,0,A⟩ d).setCell ⟨w.heap.size+1,1,A⟩ g).setCell ⟨w.heap.size+1,2,A⟩ a2).setCell ⟨w.heap.size+1,3,A⟩ a3).setCell ⟨w.heap.size+1,4,A⟩ a4).setCell ⟨w.heap.size+1,5,A⟩ a5).setCell ⟨w.heap.size+1,6,A⟩ a6).cell? ⟨w3.heap.size,3,A⟩=F (C D r.y.t.k)/\(((((((a.setCell ⟨w.heap.size+1,0,A⟩ d).setCell ⟨w.heap.size+1,1,A⟩ g).setCell ⟨w.heap.size+1,2,A⟩ a2).setCell ⟨w.heap.size+1,3,A⟩ a3).setCell ⟨w.heap.size+1,4,A⟩ a4).setCell ⟨w.heap.size+1,5,A⟩ a5).setCell ⟨w.heap.size+1,6,A⟩ a6).cell? ⟨w3.heap.size,4,A⟩=F (E r.y.t.a r.y.t.l.length r.y.t.c)/\(((((((a.setCell ⟨w.heap.size+1,0,A⟩ d).setCell ⟨w.heap.size+1,1,A⟩ g).setCell ⟨w.heap.size+1,2,A⟩ a2).setCell ⟨w.heap.size+1,3,A⟩ a3).setCell ⟨w.heap.size+1,4,A⟩ a4).setCell ⟨w.heap.size+1,5,A⟩ a5).setCell ⟨w.heap.size+1,6,A⟩ a6).cell? ⟨w3.heap.size,5,A⟩=F (C D r.y.f.k)/\(((((((a.setCell ⟨w.heap.size+1,0,A⟩ d).setCell ⟨w.heap.size+1,1,A⟩ g).setCell ⟨w.heap.size+1,2,A⟩ a2).setCell ⟨w.heap.size+1,3,A⟩ a3).setCell ⟨w.heap.size+1,4,A⟩ a4).setCell ⟨w.heap.size+1,5,A⟩ a5).setCell ⟨w.heap.size+1,6,A⟩ a6).cell? ⟨w3.heap.size,6,A⟩=F (E r.y.f.a r.y.f.l.length r.y.f.c)/\(((((((a.setCell ⟨w.heap.size+1,0,A⟩ d).setCell ⟨w.heap.size+1,1,A⟩ g).setCell ⟨w.heap.size+1,2,A⟩ a2).setCell ⟨w.heap.size+1,3,A⟩ a3).setCell ⟨w.heap.size+1,4,A⟩ a4).setCell ⟨w.heap.size+1,5,A⟩ a5).setCell ⟨w.heap.size+1,6,A⟩ a6).cell? ⟨w3.heap.size,7,A⟩=F (E r.y.a r.y.l.length r.y.c)/\(((((((a.setCell ⟨w.heap.size+1,0,A⟩ d).setCell ⟨w.heap.size+1,1,A⟩ g).setCell ⟨w.heap.size+1,2,A⟩ a2).setCell ⟨w.heap.size+1,3,A⟩ a3).setCell ⟨w.heap.size+1,4,A⟩ a4).setCell ⟨w.heap.size+1,5,A⟩ a5).setCell ⟨w.heap.size+1,6,A⟩ a6).cell? ⟨w3.heap.size,8,A⟩=F (C D r.i.k)/\(((((((a.setCell ⟨w.heap.size+1,0,A⟩ d).setCell ⟨w.heap.size+1,1,A⟩ g).setCell ⟨w.heap.size+1,2,A⟩ a2).setCell ⟨w.heap.size+1,3,A⟩ a3).setCell ⟨w.heap.size+1,4,A⟩ a4).setCell ⟨w.heap.size+1,5,A⟩ a5).setCell ⟨w.heap.size+1,6,A⟩ a6).cell? ⟨w3.heap.size,9,A⟩=F (E r.i.a r.i.l.length r.i.c)):=by
    intro a d g a2 a3 a4 a5 a6 h;have j:∀k,(((((((a.setCell ⟨w.heap.size+1,0,A⟩ d).setCell ⟨w.heap.size+1,1,A⟩ g).setCell ⟨w.heap.size+1,2,A⟩ a2).setCell ⟨w.heap.size+1,3,A⟩ a3).setCell ⟨w.heap.size+1,4,A⟩ a4).setCell ⟨w.heap.size+1,5,A⟩ a5).setCell ⟨w.heap.size+1,6,A⟩ a6).cell? ⟨w3.heap.size,k,A⟩=a.cell? ⟨w3.heap.size,k,A⟩:=by
     intro k;have hk:w.heap.size+1≠w3.heap.size:=by omega
     rw[Ze _ _ _ _ (fun e=>hk (congrArg Addr.block e)),Ze _ _ _ _ (fun e=>hk (congrArg Addr.block e)),Ze _ _ _ _ (fun e=>hk (congrArg Addr.block e)),Ze _ _ _ _ (fun e=>hk (congrArg Addr.block e)),Ze _ _ _ _ (fun e=>hk (congrArg Addr.block e)),Ze _ _ _ _ (fun e=>hk (congrArg Addr.block e)),Ze _ _ _ _ (fun e=>hk (congrArg Addr.block e))]
    obtain⟨h1,h2,h3,h4,h5,h6,h7,h8,h9⟩:=h;exact⟨(j _).trans h1,(j _).trans h2,(j _).trans h3,(j _).trans h4,(j _).trans h5,(j _).trans h6,(j _).trans h7,(j _).trans h8,(j _).trans h9⟩
   have a8:Zg (∀(a:Zj)(d g:Value),(a.cell? ⟨w3.heap.size,1,A⟩=F (C D r.y.k)/\a.cell? ⟨w3.heap.size,2,A⟩=F (C D r.y.n)/\a.cell? ⟨w3.heap.size,3,A⟩=F (C D r.y.t.k)/\a.cell? ⟨w3.heap.size,4,A⟩=F (E r.y.t.a r.y.t.l.length r.y.t.c)/\a.cell? ⟨w3.heap.size,5,A⟩=F (C D r.y.f.k)/\a.cell? ⟨w3.heap.size,6,A⟩=F (E r.y.f.a r.y.f.l.length r.y.f.c)/\a.cell? ⟨w3.heap.size,7,A⟩=F (E r.y.a r.y.l.length r.y.c)/\a.cell? ⟨w3.heap.size,8,A⟩=F (C D r.i.k)/\a.cell? ⟨w3.heap.size,9,A⟩=F (E r.i.a r.i.l.length r.i.c))->((a.setCell ⟨w.heap.size+1+1,0,A⟩ d).setCell ⟨w.heap.size+1+1,1,A⟩ g).cell? ⟨w3.heap.size,1,A⟩=F (C D r.y.k)/\((a.setCell ⟨w.heap.size+1+1,0,A⟩ d).setCell ⟨w.heap.size+1+1,1,A⟩ g).cell? ⟨w3.heap.size,2,A⟩=F (C D r.y.n)/\((a.setCell ⟨w.heap.size+1+1,0,A⟩ d).setCell ⟨w.heap.size+1+1,1,A⟩ g).cell? ⟨w3.heap.size,3,A⟩=F (C D r.y.t.k)/\((a.setCell ⟨w.heap.size+1+1,0,A⟩ d).setCell ⟨w.heap.size+1+1,1,A⟩ g).cell? ⟨w3.heap.size,4,A⟩=F (E r.y.t.a r.y.t.l.length r.y.t.c)/\((a.setCell ⟨w.heap.size+1+1,0,A⟩ d).setCell ⟨w.heap.size+1+1,1,A⟩ g).cell? ⟨w3.heap.size,5,A⟩=F (C D r.y.f.k)/\((a.setCell ⟨w.heap.size+1+1,0,A⟩ d).setCell ⟨w.heap.size+1+1,1,A⟩ g).cell? ⟨w3.heap.size,6,A⟩=F (E r.y.f.a r.y.f.l.length r.y.f.c)/\((a.setCell ⟨w.heap.size+1+1,0,A⟩ d).setCell ⟨w.heap.size+1+1,1,A⟩ g).cell? ⟨w3.heap.size,7,A⟩=F (E r.y.a r.y.l.length r.y.c)/\((a.setCell ⟨w.heap.size+1+1,0,A⟩ d).setCell ⟨w.heap.size+1+1,1,A⟩ g).cell? ⟨w3.heap.size,8,A⟩=F (C D r.i.k)/\((a.setCell ⟨w.heap.size+1+1,0,A⟩ d).setCell ⟨w.heap.size+1+1,1,A⟩ g).cell? ⟨w3.heap.size,9,A⟩=F (E r.i.a r.i.l.length r.i.c)):=by
    intro a d g h;have j:∀k,((a.setCell ⟨w.heap.size+1+1,0,A⟩ d).setCell ⟨w.heap.size+1+1,1,A⟩ g).cell? ⟨w3.heap.size,k,A⟩=a.cell? ⟨w3.heap.size,k,A⟩:=by
     intro k;have hk:w.heap.size+1+1≠w3.heap.size:=by omega
     rw[Ze _ _ _ _ (fun e=>hk (congrArg Addr.block e)),Ze _ _ _ _ (fun e=>hk (congrArg Addr.block e))]
    obtain⟨h1,h2,h3,h4,h5,h6,h7,h8,h9⟩:=h;exact⟨(j _).trans h1,(j _).trans h2,(j _).trans h3,(j _).trans h4,(j _).trans h5,(j _).trans h6,(j _).trans h7,(j _).trans h8,(j _).trans h9⟩
   have aa:Zg (∀a,Below WB.heap.size WB a->a.cell? ⟨w3.heap.size,1,A⟩=F (C D r.y.k)/\a.cell? ⟨w3.heap.size,2,A⟩=F (C D r.y.n)/\a.cell? ⟨w3.heap.size,3,A⟩=F (C D r.y.t.k)/\a.cell? ⟨w3.heap.size,4,A⟩=F (E r.y.t.a r.y.t.l.length r.y.t.c)/\a.cell? ⟨w3.heap.size,5,A⟩=F (C D r.y.f.k)/\a.cell? ⟨w3.heap.size,6,A⟩=F (E r.y.f.a r.y.f.l.length r.y.f.c)/\a.cell? ⟨w3.heap.size,7,A⟩=F (E r.y.a r.y.l.length r.y.c)/\a.cell? ⟨w3.heap.size,8,A⟩=F (C D r.i.k)/\a.cell? ⟨w3.heap.size,9,A⟩=F (E r.i.a r.i.l.length r.i.c)):=HS;clear ao;go_region_held3 (fun a=>a.cell? ⟨w3.heap.size,1,A⟩=F (C D r.y.k)/\a.cell? ⟨w3.heap.size,2,A⟩=F (C D r.y.n)/\a.cell? ⟨w3.heap.size,3,A⟩=F (C D r.y.t.k)/\a.cell? ⟨w3.heap.size,4,A⟩=F (E r.y.t.a r.y.t.l.length r.y.t.c)/\a.cell? ⟨w3.heap.size,5,A⟩=F (C D r.y.f.k)/\a.cell? ⟨w3.heap.size,6,A⟩=F (E r.y.f.a r.y.f.l.length r.y.f.c)/\a.cell? ⟨w3.heap.size,7,A⟩=F (E r.y.a r.y.l.length r.y.c)/\a.cell? ⟨w3.heap.size,8,A⟩=F (C D r.i.k)/\a.cell? ⟨w3.heap.size,9,A⟩=F (E r.i.a r.i.l.length r.i.c))
    (first
     |(with_reducible exact ay.out)
     |(with_reducible exact aw.out)
     |(with_reducible exact aa.out _ l)
     |(with_reducible exact a7.out _ _ _ _ _ _ _ _ (aa.out _ l))
     |(with_reducible exact a8.out _ _ _ (aa.out _ l))
     |(with_reducible exact a8.out _ _ _ (a7.out _ _ _ _ _ _ _ _ (aa.out _ l)))
     |(with_reducible exact a7.out _ _ _ _ _ _ _ _ (a8.out _ _ _ (aa.out _ l)))
     |fail)
    (first
     |(go_at_call 42;(with_reducible refine b5.out.mono ?_);rintro e wE ⟨t,rfl,HT,l,al⟩;have aq:Zg (CF w.heap.size x wE):=al;obtain⟨_,⟨⟨y0,y1,y2,y3,y4,y5,y6⟩,f0,f1,f2,f3,f4,f5,f6⟩,u0,u1,g0,g1⟩:=al)
     |fail)
   have HN:Zg (LE x w (S (Zd #[Zi r.y.v,Zi t.v,C D 0])) (XT wE w.heap.size r.y t)):=by
    obtain⟨az,b7,ac,q,o,bb⟩:=HD.out;have av:=YF (w:=wE) (J:=w.heap.size+1) (x:=r.y);have b1:Yi (w.heap.size+1+1) A (Y5 wE (w.heap.size+1) r.y) (XT wE w.heap.size r.y t):=Yj.trans Yj;refine⟨(az.trans (l.mono az.size)).trans (UW wE w.heap.size r.y t aq.out.lt),.inr (.inr ⟨a9.out.2,r.y,t,?_,rfl,?_,?_,?_⟩)⟩
    .rw[HT.out.1];exact o
    .exact((b7.below l).keptR av (ac.mono fun b i=>i.2.1)).keptR b1 (ac.mono fun b i=>i.2.2)
    .exact(HT.out.2.1.keptR av (HT.out.2.2.mono fun b i=>by omega)).keptR b1 (HT.out.2.2.mono fun b i=>by omega)
    .rw[YM,HT.out.1,<-YM];exact q
   obtain⟨e0,e1,e2,e3,e4,e5,e6,e7,e8⟩:=aq.out.ends r.y t;clear y0 y1 y2 y3 y4 y5 y6 f0 f1 f2 f3 f4 f5 f6 u0 u1 g0 g1 ay aw aa a7 a8 HS b5 HD aq HT l;go_wp2_with fail;refine Zo (v:=Zd #[Zi r.y.v,Zi t.v,C D 0]) ?_ rfl HN.out;unfold XT Y5 at e0 e1 e2 e3 e4 e5 e6 e7 e8;simp[results,Zw,go_sem,e0,e1,e2,e3,e4,e5,e6,e7,e8]
theorem Au{s:St}(h:MS w0 w M G s)(p:s.vs.length+1<=1000000000)(k:G.sp q e)(n:Nat)(a:n<=1000000)(l:w0.cell? ⟨b,o,A⟩=F (C D 1))(u:w0.cell? ⟨b,o+1,A⟩=F (C D n)):
  Zf X 111 #[L (F ⟨M,0,A⟩),L (F ⟨b,o,A⟩),L q] w (YD w0 w M G (match e[n]? with|some v=>s.push v|none=>s.stop Yu)):=by
 have x:=Z h.bel l;have k1:=Z h.bel u;have lb:b<w.heap.size:=Zc _ _ x;have H:=Nm h p k a;obtain⟨i,hS⟩:∃i,i=(match e[n]? with|some v=>s.push v|none=>s.stop Yu):=⟨_,rfl⟩
 rw[<-hS];have g:=Yx hS;clear hS h p k a l u;go_enter Zm,Zk;go_wp2_with fail;refine(AZ H.out.1.hg q e H.out.2.2.1 n H.out.2.2.2).mono ?_;rintro r j ⟨rfl,y,rfl,c⟩;have HR:Zg (Zf X 148 #[L (F ⟨M,0,A⟩),L y] j fun e w'=>e=S (Zd #[])/\Zg (YD w0 j M G i (S (Zd #[])) w')):=by
  rcases c with⟨rfl,a⟩|⟨v,a,c⟩
  .refine(SS H.out.1).mono ?_;rintro e w' ⟨rfl,d⟩;refine⟨rfl,rfl,?_⟩;rw[g.out,a];exact d
  .obtain⟨b',rfl,hb'⟩:=c;refine(SR H.out.1 ⟨b',rfl,hb'⟩ H.out.2.1).mono ?_;rintro e w' ⟨rfl,d⟩;refine⟨rfl,rfl,?_⟩;rw[g.out,a];exact d
 clear c g H;go_wp2_with fail;refine HR.out.mono ?_;rintro e w2 ⟨rfl,z⟩;go_wp2_with fail;go_end0;exact z.out
theorem Rs{s:St}(h:MS w0 w M G s)(a:s.vs.length+1<=1000000000)(k n:Int)(r:k=2\/k=3)(i:w0.cell? ⟨b,o,A⟩=F (C D k))(p:w0.cell? ⟨b,o+1,A⟩=F (C D n)):
  Zf X 111 #[L (F ⟨M,0,A⟩),L (F ⟨b,o,A⟩),L q] w (YD w0 w M G (s.push (if k=2 then XF n else Xk n))):=by
 have u:=Z h.bel i;have x:=Z h.bel p;have y:b<w.heap.size:=Zc _ _ u;rcases r with rfl|rfl
 .have HK:Zg (Zf X 150 #[L (F ⟨M,0,A⟩),L (F ⟨w.heap.size,0,A⟩)] (w.alloc (Mq 1 n A A A A A 0)) (fun e w'=>e=S (Zd #[])/\Zg (YD w0 w M G (s.push (XF n)) (S (Zd #[])) w'))):=by refine(Lh h ((Zb _ _).alloc (Za _) _) (TQ _) a).mono ?_;rintro e w' ⟨rfl,j,c,d,g⟩;exact⟨rfl,rfl,j,c,d,g⟩
  show Zf X 111 _ w (YD w0 w M G (s.push (XF n)))
  clear h a i p;go_enter Zm,Zk;go_wp2_with fail;refine HK.out.mono ?_;rintro e w2 ⟨rfl,l⟩;go_wp2_with fail;go_end0;exact l.out
 .have HK:Zg (Zf X 150 #[L (F ⟨M,0,A⟩),L (F ⟨w.heap.size,0,A⟩)] (w.alloc (Mq 2 n A A A A A 0)) (fun e w'=>e=S (Zd #[])/\Zg (YD w0 w M G (s.push (Xk n)) (S (Zd #[])) w'))):=by refine(Lh h ((Zb _ _).alloc (Za _) _) (Pj _) a).mono ?_;rintro e w' ⟨rfl,j,c,d,g⟩;exact⟨rfl,rfl,j,c,d,g⟩
  show Zf X 111 _ w (YD w0 w M G (s.push (Xk n)))
  clear h a i p;go_enter Zm,Zk;go_wp2_with fail;refine HK.out.mono ?_;rintro e w2 ⟨rfl,l⟩;go_wp2_with fail;go_end0;exact l.out
theorem B9{s:St}(h:MS w0 w M G s)(i:s.vs.length+1<=1000000000)(d:G.sp q e)(a:NH w0 (F ⟨lb,lo,A⟩) y)(g:w0.cell? ⟨b,o,A⟩=F (C D 7))(j:w0.cell? ⟨b,o+6,A⟩=F (E (F ⟨lb,lo,A⟩) 1 c)):
  Zf X 111 #[L (F ⟨M,0,A⟩),L (F ⟨b,o,A⟩),L q] w (YD w0 w M G (s.push (ME y e))):=by
 have u:=Z h.bel g;have k6:=Z h.bel j;have x:b<w.heap.size:=Zc _ _ u;have p:Zg (Zf X 150 #[L (F ⟨M,0,A⟩),L (F ⟨w.heap.size,0,A⟩)] (w.alloc (Mq 3 0 (F ⟨lb,lo,A⟩) q A A A 0)) (fun e' w'=>e'=S (Zd #[])/\Zg (YD w0 w M G (s.push (ME y e)) (S (Zd #[])) w'))):=by refine(Lh h ((Zb _ _).alloc (Za _) _) (v:=ME y e) (LH (fun _=>rfl) rfl rfl rfl (fun _=>⟨a,d⟩) (fun h=>by simp[ME] at h) (Gh.cp_none _) (Gh.cp_none _)) i).mono ?_;rintro e w' ⟨rfl,z,k,l,r⟩;exact⟨rfl,rfl,z,k,l,r⟩
 clear h i g j d a;go_enter Zm,Zk;go_wp2_with fail;refine p.out.mono ?_;rintro e w2 ⟨rfl,HE⟩;go_wp2_with fail;go_end0;exact HE.out
theorem Cb{s:St}(h:MS w0 w M G s)(l:s.ts.length+1<=1000000000)(j:G.sp q e)(g:NH w0 (F ⟨lb,lo,A⟩) y)(k:w0.cell? ⟨b,o,A⟩=F (C D 9))(i:w0.cell? ⟨b,o+6,A⟩=F (E (F ⟨lb,lo,A⟩) 1 c)):
  Zf X 111 #[L (F ⟨M,0,A⟩),L (F ⟨b,o,A⟩),L q] w (YD w0 w M G (s.plan (YY y e))):=by
 have p:=Z h.bel k;have x:=Z h.bel i;have r:b<w.heap.size:=Zc _ _ p;have H:=Nm h l j g;clear h l k i j g;go_enter Zm,Zk;go_wp2_with fail;refine(XN H.out.1 (Mn.look H.out.2.2.2 H.out.2.2.1) H.out.2.1).mono ?_;rintro z w2 ⟨rfl,d,a⟩;have u:=Yx (YD.of rfl d a);clear d a;go_wp2_with fail;go_end0;exact u.out
theorem B8{s:St}(h:MS w0 w M G s)(l:s.ts.length+2<=1000000000){x:Tm}(j:G.sp q e)(k:NH w0 (F ⟨b,o,A⟩) x)(i:NH w0 (F ⟨lb,lo,A⟩) y)(c0:w0.cell? ⟨b,o,A⟩=F (C D 6))(z:w0.cell? ⟨b,o+6,A⟩=F (E (F ⟨lb,lo,A⟩) 3 c)):
  Zf X 111 #[L (F ⟨M,0,A⟩),L (F ⟨b,o,A⟩),L q] w (YD w0 w M G ((s.plan (U5 x e)).plan (YY y e))):=by
 have u:=Z h.bel c0;have a1:b<w.heap.size:=Zc _ _ u;have H:=BV h l j i k z;clear h l c0 z j i k;go_enter Zm,Zk;go_wp2_with fail;refine(XN H.out.1 (Mn.choose H.out.2.2.2.2.1 H.out.2.2.1) (by have:=H.out.2.1;omega)).mono ?_;rintro e' w1 ⟨rfl,a,r⟩;have k6:=Z a.bel H.out.2.2.2.2.2;have a0:b<w1.heap.size:=Zc _ _ k6;have d:=Un a r;clear a r u;go_wp2_with fail;refine(XN d.out.1 (Mn.look H.out.2.2.2.1 H.out.2.2.1) (by have:=H.out.2.1;simp only[St.plan,Zq];omega)).mono ?_;rintro e' w2 ⟨rfl,g,p⟩;have HE:=Yx (YD.of rfl g (d.out.2.trans p));clear g p;go_wp2_with fail;go_end0;exact HE.out
theorem Ot{s:St}(h:MS w0 w M G s)(p:s.ts.length+3<=1000000000){x:Tm}(j:G.sp q e)(l:NH w0 (F ⟨b,o,A⟩) x)(i:x.l.length=2)(k:Int)(u:k=4\/k=5\/k=8)(g:w0.cell? ⟨b,o,A⟩=F (C D k)):
  Zf X 111 #[L (F ⟨M,0,A⟩),L (F ⟨b,o,A⟩),L q] w (YD w0 w M G (Je s x e (if k=4 then 2 else if k=5 then 3 else 5))):=by
 have y:=Z h.bel g;have z:b<w.heap.size:=Zc _ _ y;have H:Zg (∀d,(d=2\/d=3\/d=5)->Zf X 152 #[L (F ⟨M,0,A⟩),L (F ⟨b,o,A⟩),L q,C D d] w fun c w'=>c=S (Zd #[])/\Zg (YD w0 w M G (Je s x e d) (S (Zd #[])) w')):=fun d hd=>by refine(Bz h l j i d hd p).mono ?_;rintro e w' ⟨rfl,r⟩;exact⟨rfl,rfl,r⟩
 clear h p g j l i;rcases u with rfl|rfl|rfl
 .show Zf X 111 _ w (YD w0 w M G (Je s x e 2))
  go_enter Zm,Zk;go_wp2_with fail;refine(H.out 2 (.inl rfl)).mono ?_;rintro c w2 ⟨rfl,a⟩;go_wp2_with fail;go_end0;exact a.out
 .show Zf X 111 _ w (YD w0 w M G (Je s x e 3))
  go_enter Zm,Zk;go_wp2_with fail;refine(H.out 3 (.inr (.inl rfl))).mono ?_;rintro c w2 ⟨rfl,a⟩;go_wp2_with fail;go_end0;exact a.out
 .show Zf X 111 _ w (YD w0 w M G (Je s x e 5))
  go_enter Zm,Zk;go_wp2_with fail;refine(H.out 5 (.inr (.inr rfl))).mono ?_;rintro c w2 ⟨rfl,a⟩;go_wp2_with fail;go_end0;exact a.out
theorem VQ{s:St}(h:MS w0 w M G s)(hn:s.ts.length+2<=1000000000)(hs:G.sp q e)(hx:X4 w0 b o x)(hxi:x.In w0)(hy:NH w0 (F ⟨lb,lo,A⟩) y)(hk:x.k=10)(c6:w0.cell? ⟨b,o+6,A⟩=F (E (F ⟨lb,lo,A⟩) 1 c))(gt:Yz 46 x.t=Zv)(gf:Yz 46 x.f=Zv):
  Zf X 111 #[L (F ⟨M,0,A⟩),L (F ⟨b,o,A⟩),L q] w (YD w0 w M G ((s.plan (Xc (YZ 100 x.f.ty x.t.ty (Kq x.n)))).plan (YY y e))):=by
 have k0:=Z h.bel hx.c0;rw[hk] at k0;have a5:b<w.heap.size:=Zc _ _ k0;have lM:=h.lt;obtain⟨r,k⟩:∃r,r=YZ 100 x.f.ty x.t.ty (Kq x.n):=⟨_,rfl⟩
 have HN:Zg (∀W,bL w W->Zf X 151 #[Zi x.f.v,Zi x.t.v,Zi #[C D 4,C D x.n,.bool Zt]] W fun u w'=>∃p H,u=S (L p)/\H.cp p r/\MS w0 w' M H s/\G.le H/\bL W w'):=fun W j=>by have hm:=h.below j;have z:=h.bel.trans (j.mono h.bel.size);rw[k];refine(MB w0 100 46 x.f x.t (Kq x.n) W G (by omega) gf gt (by split<;>omega) (hxi.f.below z) (hxi.t.below z) hm.hg).mono ?_;intro u w' hp;obtain⟨p,H,he,a4,a⟩:=hp.known;exact⟨p,H,he,a4,(hm.post a).1,a.le,a.bel⟩
 rw[<-k];have HC:Zg (∀W,bL w0 W->cL W b (o+1) (C D x.n)/\cL W b (o+2) (C D x.t.k)/\cL W b (o+3) (x.t.s)/\cL W b (o+4) (C D x.f.k)/\cL W b (o+5) (x.f.s)):=fun W j=>by exact⟨Z j hx.c1,Z j hx.c2,Z j hx.c3,Z j hx.c4,Z j hx.c5⟩
 have H:=Nm hn hs hy c6;have d:=h.bel.drew;clear h hn c6 hs hy hx hxi hk k gt gf;go_enter Zm,Zk;go_wp2_with fail;have a2:bL w w.drew:=(Zb _ _).drew;clear k0;go_region_held3 (fun W=>cL W b (o+1) (C D x.n)/\cL W b (o+2) (C D x.t.k)/\cL W b (o+3) (x.t.s)/\cL W b (o+4) (C D x.f.k)/\cL W b (o+5) (x.f.s))
  (first
   |exact HC.out _ d
   |go_keep)
  (first
   |(go_at_call 151;refine(HN.out _ a2).mono ?_;rintro u w1 ⟨p1,H1,rfl,i,l,a1,a3⟩;replace d:=l.bel;clear HN)
   |(go_at_call 72;refine(XN l (Mn.change i) (by have:=H.out.1;omega)).mono ?_;rintro u w2 ⟨rfl,g,a0⟩;replace d:=g.bel))
 have k6:=Z g.bel H.out.2.2.2;have a6:b<w2.heap.size:=Zc _ _ k6;have H2:Zg (MS w0 w2 M H1 (s.plan (Xc r))/\Fr M w w2/\G.le H1):=⟨g,((Fr.below ((Zb _ _).drew.trans a3) lM)).trans a0,a1⟩
 clear l g a0 a3 i a1 d a2;go_wp2_with fail;refine(XN H2.out.1 (Mn.look H.out.2.2.1 (H.out.2.1.le H2.out.2.2)) (by have:=H.out.1;simp only[St.plan,Zq];omega)).mono ?_;rintro u w3 ⟨rfl,h3,f3⟩;have HE:Zg (YD w0 w M G ((s.plan (Xc r)).plan (YY y e)) (S (Zd #[])) w3):=⟨rfl,H1,H2.out.2.2,h3,H2.out.2.1.trans f3⟩
 clear h3 f3;go_wp2_with fail;go_end0;exact HE.out
theorem Av{s:St}(h:MS w0 w M G s)(hn:s.ts.length+3<=1000000000)(hv:s.vs.length+1<=1000000000){p:Option Addr}{x:Tm}(z:NH w0 p x)(j:G.sp q e)(sx:KX x):
  Zf X 111 #[L (F ⟨M,0,A⟩),L p,L q] w (YD w0 w M G (YW s x e)):=by
 obtain⟨k1,a1,r,n1,n2,a0,hg⟩:=sx.top;have a:x.k=1\/x.k=2\/x.k=3\/x.k=4\/x.k=5\/x.k=6\/x.k=7\/x.k=8\/x.k=9\/x.k=10:=by omega
 obtain⟨b,o,rfl,i,c1⟩:=z.top;have part:0<x.l.length->∃k l c,cL w0 b (o+6) (E (F ⟨k,l,A⟩) x.l.length c)/\NH w0 (F ⟨k,l,A⟩) (x.at 0):=fun hp=>by
  obtain⟨b',o',k,l,c,e,g,hi⟩:=z.part hp;cases e
  exact⟨k,l,c,g,by simpa using hi 0 hp⟩
 rcases a with a|a|a|a|a|a|a|a|a|a
 .have d:YW s x e=(match e[x.n.toNat]? with|some v=>s.push v|none=>s.stop Yu):=by simp only[YW,a,if_true];cases e[x.n.toNat]?<;>rfl
  rw[d];have hz:=a0 a;have e2:=(Int.toNat_of_nonneg hz).symm;rw[a] at i;rw[e2] at c1;exact Au h hv j x.n.toNat (by omega) i c1
 .have d:YW s x e=s.push (if x.k=2 then XF x.n else Xk x.n):=by simp only[YW,a];rfl
  rw[d];exact Rs h hv x.k x.n (.inl a) i c1
 .have d:YW s x e=s.push (if x.k=2 then XF x.n else Xk x.n):=by simp only[YW,a];rfl
  rw[d];exact Rs h hv x.k x.n (.inr a) i c1
 .have d:YW s x e=Je s x e (if x.k=4 then 2 else if x.k=5 then 3 else 5):=by simp only[YW,a];rfl
  rw[d];exact Ot h hn j z (by rw[r,a];rfl) x.k (.inl a) i
 .have d:YW s x e=Je s x e (if x.k=4 then 2 else if x.k=5 then 3 else 5):=by simp only[YW,a];rfl
  rw[d];exact Ot h hn j z (by rw[r,a];rfl) x.k (.inr (.inl a)) i
 .have hl3:x.l.length=3:=by rw[r,a];rfl
  obtain⟨k,l,c,g,u⟩:=part (by omega);rw[hl3] at g;have d:YW s x e=(s.plan (U5 x e)).plan (YY (x.at 0) e):=by simp only[YW,a];rfl
  rw[d];rw[a] at i;exact B8 h (by omega) j z u i g
 .have hl1:x.l.length=1:=by rw[r,a];rfl
  obtain⟨k,l,c,g,u⟩:=part (by omega);rw[hl1] at g;have d:YW s x e=s.push (ME (x.at 0) e):=by simp only[YW,a];rfl
  rw[d];rw[a] at i;exact B9 h hv j u i g
 .have d:YW s x e=Je s x e (if x.k=4 then 2 else if x.k=5 then 3 else 5):=by simp only[YW,a];rfl
  rw[d];exact Ot h hn j z (by rw[r,a];rfl) x.k (.inr (.inr a)) i
 .have hl1:x.l.length=1:=by rw[r,a];rfl
  obtain⟨k,l,c,g,u⟩:=part (by omega);rw[hl1] at g;have d:YW s x e=s.plan (YY (x.at 0) e):=by simp only[YW,a];rfl
  rw[d];rw[a] at i;exact Cb h (by omega) j u i g
 .have hl1:x.l.length=1:=by rw[r,a];rfl
  obtain⟨k,l,c,g,u⟩:=part (by omega);rw[hl1] at g;have d:YW s x e=(s.plan (Xc (YZ 100 x.f x.t (Kq x.n)))).plan (YY (x.at 0) e):=by simp only[YW,a];rfl
  rw[d];obtain⟨b',o',y,e2,ha,hi,rfl⟩:=z;cases e2
  obtain⟨g1,g2⟩:=hg a;rw[y.tm_t] at g1;rw[y.tm_f] at g2;rw[y.tm_t,y.tm_f,y.tm_n];exact VQ h (by omega) j ha hi u (by rw[<-y.tm_k];exact a) g (by rw[YM];exact g1) (by rw[YM];exact g2)
theorem WQ{s:St}(h:MS w0 w M G s)(hn:s.ts.length+3<=1000000000)(hv:s.vs.length+2<=1000000000)(hc:s.calls<=1000)(a1:∀v,v∈s.vs->Ja v){t:Xx}(ht:Ao t)(hw:∃q,P0 (t::s.ts) q/\fl q s.vs){d:Int}{pt ps pc:Option Addr}(hp:Mn w0 G t d pt ps pc):
  Zf X 73 #[L (F ⟨M,0,A⟩),Zi #[C D d,L pt,L ps,L pc]] w (YD w0 w M G (Nu s t)):=by
 obtain⟨W,hW⟩:∃W,W=w.alloc (Zh #[C D d,L pt,L ps,L pc] 130):=⟨_,rfl⟩
 have hb:bL w W:=by rw[hW];exact(Zb _ _).alloc (Za _) _
 have hm:=h.below hb;obtain⟨hd,a5,a8⟩:=hp;have z:∀e w',YD w0 W M G (Nu s t) e w'->e=S (Zd #[])/\Zg (YD w0 w M G (Nu s t) (S (Zd #[])) w'):=fun e w' hp=>by obtain⟨rfl,K,hl,a9,hf⟩:=hp;exact⟨rfl,rfl,K,hl,a9,(Fr.below hb h.lt).trans hf⟩
 obtain⟨q,a4,l⟩:=hw;obtain⟨ts,vs,x,p,y⟩:=s;simp only at hn hv hc a1 a4 l;obtain⟨i,hS⟩:∃i,i=Nu ⟨ts,vs,x,p,y⟩ t:=⟨_,rfl⟩
 rw[<-hS] at z ⊢;have a0:(t.d=1/\Zg (Zf X 111 #[L (F ⟨M,0,A⟩),L pt,L ps] W fun e w'=>e=S (Zd #[])/\Zg (YD w0 w M G i (S (Zd #[])) w')))\/(t.d=2/\Zg (Zf X 112 #[L (F ⟨M,0,A⟩)] W fun e w'=>e=S (Zd #[])/\Zg (YD w0 w M G i (S (Zd #[])) w')))\/(t.d=3/\Zg (Zf X 113 #[L (F ⟨M,0,A⟩)] W fun e w'=>e=S (Zd #[])/\Zg (YD w0 w M G i (S (Zd #[])) w')))\/(t.d=4/\Zg (Zf X 114 #[L (F ⟨M,0,A⟩),L pt,L ps] W fun e w'=>e=S (Zd #[])/\Zg (YD w0 w M G i (S (Zd #[])) w')))\/((t.d=5\/t.d=7)/\Zg (Zf X 115 #[L (F ⟨M,0,A⟩)] W fun e w'=>e=S (Zd #[])/\Zg (YD w0 w M G i (S (Zd #[])) w')))\/(t.d=6/\Zg (Zf X 116 #[L (F ⟨M,0,A⟩),L pc] W fun e w'=>e=S (Zd #[])/\Zg (YD w0 w M G i (S (Zd #[])) w'))):=by
  rcases a4 with⟨c,_⟩|⟨c,b,r,rfl,_⟩|⟨c,a,b,r,rfl,_⟩|⟨c,a,r,rfl,_⟩
  .obtain⟨hx,hz,he⟩:=ht.1 (.inl c);obtain⟨a2,a3⟩:=a5 (.inl c);refine .inl ⟨c,(Av hm hn (show vs.length+1<=_ by omega) a2 a3 hx).mono fun e w' j=>z e w' ?_⟩;have:i=YW ⟨ts,vs,x,p,y⟩ t.x t.s:=by rw[hS];simp only[Nu,c,if_true]
   rw[this];exact j
  .obtain⟨v,g,rfl,_,a6⟩:=J1 l;simp only[Zq] at hv;rcases c with c|c
   .obtain⟨hx,hz,he⟩:=ht.1 (.inr c);obtain⟨a2,a3⟩:=a5 (.inr c);have aa:t.x.l.length=3:=by rw[hx.top.2.2.1,ht.2.1 c];rfl
    refine .inr (.inr (.inr (.inl ⟨c,(Tx hm (by omega) (by omega) a2 a3 aa).mono fun e w' j=>z e w' ?_⟩)));have:i=(if v.k=2 then (St.plan ⟨ts,g,x,p,y⟩ (YY (t.x.at (if v.n=1 then 1 else 2)) t.s)) else St.stop ⟨ts,g,x,p,y⟩ Yu):=by rw[hS];simp only[Nu,c];rfl
    rw[this];exact j
   .refine .inr (.inr (.inr (.inr (.inr ⟨c,(TA hm (by omega) a8).mono fun e w' j=>z e w' ?_⟩))));have:i=Xu ⟨ts,g,x,p,y⟩ t.c v:=by rw[hS];simp only[Nu,c];rfl
    rw[this];exact j
  .obtain⟨v,vs1,rfl,_,hf1⟩:=J1 l;obtain⟨u,g,rfl,_,a6⟩:=J1 hf1;simp only[Zq] at hv;have hu:=(a1 u (by simp)).top;have a7:=(a1 v (by simp)).top;rcases c with c|c|c
   .refine .inr (.inl ⟨c,(BQ hm (by omega) rfl ⟨hu.2.2.1,hu.2.2.2⟩ ⟨a7.2.2.1,a7.2.2.2⟩).mono fun e w' j=>z e w' ?_⟩);have:i=⟨ts,XF (U4 (u.n+v.n))::g,x,p,if u.k=1/\v.k=1 then y else Yu⟩:=by rw[hS];simp only[Nu,c];rfl
    rw[this];exact j
   .refine .inr (.inr (.inl ⟨c,(RY hm (by omega) rfl).mono fun e w' j=>z e w' ?_⟩));have:i=⟨ts,Xk (if u.n<v.n then 1 else 0)::g,x,p,if u.k=1/\v.k=1 then y else Yu⟩:=by rw[hS];simp only[Nu,c];rfl
    rw[this];exact j
   .refine .inr (.inr (.inr (.inr (.inl ⟨.inl c,(Sa hm (by omega) hn hc).mono fun e w' j=>z e w' ?_⟩))));have:i=UB ⟨ts,g,x,p,y⟩ u v:=by rw[hS];simp only[Nu,c];rfl
    rw[this];exact j
  .obtain⟨v,vs1,rfl,_,hf1⟩:=J1 l;obtain⟨u,g,rfl,_,a6⟩:=J1 hf1;simp only[Zq] at hv;refine .inr (.inr (.inr (.inr (.inl ⟨.inr c,(Sa hm (by omega) hn hc).mono fun e w' j=>z e w' ?_⟩))));have:i=UB ⟨ts,g,x,p,y⟩ u v:=by rw[hS];simp only[Nu,c];rfl
   rw[this];exact j
 clear hS z l a4 hm hb h ht a5 a8 a1 hn hv hc;rcases a0 with⟨c,k⟩|⟨c,k⟩|⟨c,k⟩|⟨c,k⟩|⟨c,k⟩|⟨c,k⟩
 .have hd1:d=1:=by rw[hd,c];rfl
  subst hd1;clear c hd;go_enter Zs,Zr;go_wp2_with fail;rw[<-hW];refine k.out.mono ?_;rintro e' w2 ⟨rfl,o⟩;go_wp2_with fail;go_end0;exact o.out
 .have hd1:d=2:=by rw[hd,c];rfl
  subst hd1;clear c hd;go_enter Zs,Zr;go_wp2_with fail;rw[<-hW];refine k.out.mono ?_;rintro e' w2 ⟨rfl,o⟩;go_wp2_with fail;go_end0;exact o.out
 .have hd1:d=3:=by rw[hd,c];rfl
  subst hd1;clear c hd;go_enter Zs,Zr;go_wp2_with fail;rw[<-hW];refine k.out.mono ?_;rintro e' w2 ⟨rfl,o⟩;go_wp2_with fail;go_end0;exact o.out
 .have hd1:d=4:=by rw[hd,c];rfl
  subst hd1;clear c hd;go_enter Zs,Zr;go_wp2_with fail;rw[<-hW];refine k.out.mono ?_;rintro e' w2 ⟨rfl,o⟩;go_wp2_with fail;go_end0;exact o.out
 .have hd1:d=5:=by rw[hd];rcases c with c|c<;>rw[c]<;>rfl
  subst hd1;clear c hd;go_enter Zs,Zr;go_wp2_with fail;rw[<-hW];refine k.out.mono ?_;rintro e' w2 ⟨rfl,o⟩;go_wp2_with fail;go_end0;exact o.out
 .have hd1:d=6:=by rw[hd,c];rfl
  subst hd1;clear c hd;go_enter Zs,Zr;go_wp2_with fail;rw[<-hW];refine k.out.mono ?_;rintro e' w2 ⟨rfl,o⟩;go_wp2_with fail;go_end0;exact o.out
end Go.Proofs.YtnddkmccagiclabGreatDoor
