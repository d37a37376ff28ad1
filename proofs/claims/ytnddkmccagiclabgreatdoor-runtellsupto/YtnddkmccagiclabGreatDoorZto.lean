import Derived.Test.YtnddkmccagiclabGreatDoorZth
import Derived.Test.YtnddkmccagiclabGreatDoorZtn
set_option maxRecDepth 20000
set_option maxHeartbeats 16000000
open Go.RowKit Go.Proofs.Tryz
open Go.Value renaming slice→A,int→D,agg→G
open Option renaming none→B,some→C
open Go.IntKind renaming i64→E
open Go renaming cell_later→F
open Go.Proofs.Tryz renaming prog→H
namespace Go.Proofs.YtnddkmccagiclabGreatDoor
theorem U8.letters{Q:Nat->Prop}{w w':World}{r:Option (Ty×List Ty)}{e:Ending}(h:U8 Q w r e w'):
  ∃(I U:Tr)(b:Bool),e=.returned (.tuple #[G #[D E I.k,A I.a I.l.length I.c,A U.a U.l.length U.c],.bool b])/\Below w.heap.size w w'/\I.In w'/\U.In w'/\I.Bl Q/\U.Bl Q/\((b=false/\r=B/\I=Yr 0/\U=Yr 0)\/(b=true/\r=C (I.ty,U.l.map Tr.ty))):=by
 obtain⟨c,⟨a,rfl⟩|⟨I,U,a,rfl,i,d,g,j⟩⟩:=h
 .exact⟨Yr 0,Yr 0,false,rfl,c,YB _ _,YB _ _,YG _ _,YG _ _,.inl ⟨rfl,a,rfl,rfl⟩⟩
 .exact⟨I,U,true,rfl,c,i,d,g,j,.inr ⟨rfl,a⟩⟩
theorem U8.of{Q:Nat->Prop}{w w':World}{r:Option (Ty×List Ty)}{I U:Tr}{b:Bool}(a:Below w.heap.size w w')(c:I.In w')(e:U.In w')(g:I.Bl Q)(d:U.Bl Q)(h:(b=false/\r=B/\I=Yr 0/\U=Yr 0)\/(b=true/\r=C (I.ty,U.l.map Tr.ty))):
  U8 Q w r (.returned (.tuple #[G #[D E I.k,A I.a I.l.length I.c,A U.a U.l.length U.c],.bool b])) w':=by
 rcases h with⟨rfl,rfl,rfl,rfl⟩|⟨rfl,i⟩
 .exact⟨a,.inl ⟨rfl,rfl⟩⟩
 .exact⟨a,.inr ⟨I,U,i,rfl,c,e,g,d⟩⟩
theorem Aa(Q:Nat->Prop)(x:TT)(p q:Tr)(pb po pm pc:Nat)(ta:Option Addr)(tm tc:Nat)(w:World)(hm:2<pm)(c0:w.cell? ⟨pb,po+2,B⟩=C (D E p.k))(c1:w.cell? ⟨pb,po+3,B⟩=C (A p.a p.l.length p.c))(c2:w.cell? ⟨pb,po+4,B⟩=C (D E q.k))(c3:w.cell? ⟨pb,po+5,B⟩=C (A q.a q.l.length q.c))(hp:p.In w)(hq:q.In w)(rp:p.right)(rq:q.right)(hh:p.hgt<=1000)(hs:p.sm)(hQ:∀b,w.heap.size<=b->Q b):
  Calls H 67 #[G #[D E 6,D E x.n,D E x.t.k,A x.t.a x.t.l.length x.t.c,D E x.f.k,A x.f.a x.f.l.length x.f.c,A x.a x.l.length x.c],A (C ⟨pb,po,B⟩) pm pc,A ta tm tc] w (U8 Q w (T6 ⟨2,[]⟩ p.ty q.ty)):=by
 have a:=(Ju 6 x w).drew;have d:WR 6 x w.heap.size (X8 6 x w).drew:=(NS 6 x w).below ((Below.refl _ _).drew);have hz:(X8 6 x w).drew.heap.size=w.heap.size+1+1+1+1:=L5 6 x w;have k:Hid (Calls H 105 #[G #[D E 2,A B 0 0],G #[D E p.k,A p.a p.l.length p.c],G #[D E q.k,A q.a q.l.length q.c]] (X8 6 x w).drew (U8 (fun b=>Q b/\b≠w.heap.size+1) (X8 6 x w).drew (T6 ⟨2,[]⟩ p.ty q.ty))):=by have:=Qd (fun b=>Q b/\b≠w.heap.size+1) (Yr 2) p q (X8 6 x w).drew (YB _ _) (hp.below a) (hq.below a) rp rq hh hs (fun b hb=>⟨hQ b (by omega),by omega⟩) (YG _ _);rw[XS] at this;exact this
 have d0:=F a c0;have d1:=F a c1;have d2:=F a c2;have d3:=F a c3;have i1:(1:Int)<(pm:Int):=by omega
 have i2:(2:Int)<(pm:Int):=by omega
 have j1:1<pm:=by omega
 obtain⟨W0,c⟩:∃W0,W0=X8 6 x w:=⟨_,rfl⟩
 rw[<-c] at a d hz k d0 d1 d2 d3;unfold X8 at c;clear c0 c1 c2 c3 hp hq rp rq hh hs;obtain⟨_,r0,r1,r2,g,_,_,b0,b1⟩:=id d;have f0:=g 0;have f1:=g 1;have f2:=g 2;have i:Hid (Below w.heap.size w W0.drew/\WR 6 x w.heap.size W0.drew/\W0.drew.heap.size=w.heap.size+1+1+1+1):=⟨a,d,hz⟩
 clear a d hz;go_enter func67,ntmps67;go_wp2_with fail;rw[<-c];clear c;go_region_law
  (first
   |(go_simp;go_at_call 105;refine k.out.mono ?_;rintro e w1 hR;obtain⟨I,U,b,rfl,j,y,l,o,z,u⟩:=hR.letters;have h:=i.out.2.1.below j;obtain⟨_,r0,r1,r2,g,_,_,_,_⟩:=id h;have f0:=g 0;have f1:=g 1;have f2:=g 2;go_wp2_with fail))
 all_goals
  have HS:Hid _:=U8.store (Q:=Q) (i.out.1.trans (j.mono (by have:=i.out.2.2;omega))) h y l o z
  have HR:Hid _:=u
  clear j k i h y l o z hR u
  go_wp2_with fail
  obtain⟨W,r,e1,e2,e3,e4,e5,e6,e7,e8⟩:=HS.out
  rw[<-r]
  clear r
  refine bodyPost_ret (v:=.tuple #[G #[D E I.k,I.s,U.s],.bool b]) ?_ rfl (U8.of e1 e2 e3 e4 e5 HR.out)
  simp[results,results67,go_sem,e6,e7,e8]
theorem W8(Q:Nat->Prop)(x:TT)(p:Tr)(pb po pc:Nat)(ta:Option Addr)(tm tc:Nat)(w:World)(c0:w.cell? ⟨pb,po,B⟩=C (D E p.k))(c1:w.cell? ⟨pb,po+1,B⟩=C (A p.a p.l.length p.c))(hp:p.In w)(ht:x.t.In w)(bp:p.Bl Q)(bt:x.t.Bl Q)(hpb:Q pb)(hQ:∀b,w.heap.size<=b->Q b):
  Calls H 67 #[G #[D E 7,D E x.n,D E x.t.k,A x.t.a x.t.l.length x.t.c,D E x.f.k,A x.f.a x.f.l.length x.f.c,A x.a x.l.length x.c],A (C ⟨pb,po,B⟩) 1 pc,A ta tm tc] w (U8 Q w (C (⟨3,[x.t.ty,p.ty]⟩,[p.ty]))):=by
 have a:=(Ju 7 x w).drew;have d:WR 7 x w.heap.size (X8 7 x w).drew:=(NS 7 x w).below ((Below.refl _ _).drew);have hz:(X8 7 x w).drew.heap.size=w.heap.size+1+1+1+1:=L5 7 x w;have hU:(Tr.mk 0 (C ⟨pb,po,B⟩) pc [p]).In w:=by
  refine Tr.In_mk.2 ⟨fun j h=>?_,fun t h=>?_⟩
  .have hj:j=0:=by simpa using h
   subst hj;exact⟨pb,po,rfl,by simpa using c0,by simpa[Tr.sl] using c1⟩
  .have:t=p:=by simpa using h
   subst this;exact hp
 have a2:pb<w.heap.size:=World.block_lt_of_cell? _ _ c0;have l:(Tr.mk 0 (C ⟨pb,po,B⟩) pc [p]).Bl fun b=>Q b/\b≠w.heap.size+1:=by
  refine Tr.Bl_mk.2 ⟨fun _ y hy=>?_,fun t h=>?_⟩
  .cases hy;exact⟨hpb,by show pb≠_;omega⟩
  .have:t=p:=by simpa using h
   subst this;exact bp.and (hp.bl.mono fun b r=>by omega)
 have HC:Hid (Calls H 106 #[G #[D E x.t.k,A x.t.a x.t.l.length x.t.c],G #[D E p.k,A p.a p.l.length p.c]] (X8 7 x w).drew fun e w'=>∃I:Tr,e=.returned (G #[D E I.k,A I.a I.l.length I.c])/\I.ty=⟨3,[x.t.ty,p.ty]⟩/\I.In w'/\(I.Bl fun b=>Q b/\b≠w.heap.size+1)/\Below (X8 7 x w).drew.heap.size (X8 7 x w).drew w'):=by refine(Sw x.t p (X8 7 x w).drew (ht.below a) (hp.below a)).mono ?_;rintro e w' ⟨g,hg,rfl,a1,r⟩;refine⟨⟨3,C ⟨g,0,B⟩,2,[x.t,p]⟩,rfl,by simp[Tr.ty_mk],a1,Tr.Bl_two ⟨hQ g (by omega),by omega⟩ (bt.and (ht.bl.mono fun b r=>by omega)) (bp.and (hp.bl.mono fun b r=>by omega)),r⟩
 have HU:Hid ((Tr.mk 0 (C ⟨pb,po,B⟩) pc [p]).In (X8 7 x w).drew/\(Tr.mk 0 (C ⟨pb,po,B⟩) pc [p]).Bl fun b=>Q b/\b≠w.heap.size+1):=⟨hU.below a,l⟩
 have d0:=F a c0;have d1:=F a c1;obtain⟨W0,c⟩:∃W0,W0=X8 7 x w:=⟨_,rfl⟩
 rw[<-c] at a d hz HC HU d0 d1;unfold X8 at c;clear c0 c1 hp ht bp bt hU l hQ;obtain⟨⟨_,_,t2,t3,_,_,_⟩,r0,r1,r2,i,_,_,_,_⟩:=id d;have f0:=i 0;have f1:=i 1;have f2:=i 2;have u:Hid (Below w.heap.size w W0.drew/\WR 7 x w.heap.size W0.drew/\W0.drew.heap.size=w.heap.size+1+1+1+1):=⟨a,d,hz⟩
 clear a d hz;go_enter func67,ntmps67;go_wp2_with fail;rw[<-c];clear c;go_region_law
  (first
   |(go_simp;go_at_call 106;refine HC.out.mono ?_;rintro e w1 ⟨I,rfl,q,iI,bI,z⟩;have k:=u.out.2.1.below z;obtain⟨_,r0,r1,r2,i,_,_,_,_⟩:=id k;have f0:=i 0;have f1:=i 1;have f2:=i 2;go_wp2_with fail))
 all_goals
  have HS:Hid _:=U8.store (Q:=Q) (u.out.1.trans (z.mono (by have:=u.out.2.2;omega))) k iI (HU.out.1.below z) bI HU.out.2
  have HR:Hid (C ((⟨3,[x.t.ty,p.ty]⟩:Ty),[p.ty])=C (I.ty,(Tr.mk 0 (C ⟨pb,po,B⟩) pc [p]).l.map Tr.ty)):=by rw[q];exact rfl
  clear z HC u HU k iI bI q
  go_wp2_with fail
  obtain⟨W,hW,e1,e2,e3,e4,e5,e6,e7,e8⟩:=HS.out
  have o:W=(((w1.setCell ⟨w.heap.size+1,0,B⟩ (D E I.k)).setCell ⟨w.heap.size+1,1,B⟩ (I.s)).setCell ⟨w.heap.size+1,2,B⟩ (A (C ⟨pb,po,B⟩) 1 pc)):=hW
  rw[<-o]
  clear hW o
  refine bodyPost_ret (v:=.tuple #[G #[D E I.k,I.s,A (C ⟨pb,po,B⟩) 1 pc],.bool true]) ?_ rfl (U8.of (U:=⟨0,C ⟨pb,po,B⟩,pc,[p]⟩) e1 e2 e3 e4 e5 (.inr ⟨rfl,HR.out⟩))
  have a0:cL W (w.heap.size+1) 2 (A (C ⟨pb,po,B⟩) 1 pc):=e8
  simp[results,results67,go_sem,e6,e7,a0]
end Go.Proofs.YtnddkmccagiclabGreatDoor
