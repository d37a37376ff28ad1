import Derived.Test.YtnddkmccagiclabGreatDoorZtf
set_option maxRecDepth 20000
set_option maxHeartbeats 16000000
open Go.RowKit Go.Proofs.Tryz
open Option renaming none→A,some→I
open Go renaming cell_later→B
open Go.Value renaming slice→C,int→F,agg→J
open Go.IntKind renaming i64→D
open Go.World renaming cell?_setCell_other→H
open Nat renaming le_refl→K
open Go.RowKit.Below renaming refl→L
open Go.Proofs.Tryz renaming prog→M,results105→R
open List renaming not_mem_nil→N
open Bool renaming false→O
namespace Go.Proofs.YtnddkmccagiclabGreatDoor
def T6(c x y:Ty):Option (Ty×List Ty):=if YC Yk x y then I (Xl x y,[c,Xl x y,Xl x y]) else A
theorem Sj{w:World}{k:Int}{g c:Nat}{x y z:Tr}(a0:w.cell? ⟨g,0,A⟩=I (F D x.k))(a1:w.cell? ⟨g,1,A⟩=I (C x.a x.l.length x.c))(b0:w.cell? ⟨g,2,A⟩=I (F D y.k))(b1:w.cell? ⟨g,3,A⟩=I (C y.a y.l.length y.c))(c0:w.cell? ⟨g,4,A⟩=I (F D z.k))(c1:w.cell? ⟨g,5,A⟩=I (C z.a z.l.length z.c))
  (hx:x.In w) (hy:y.In w) (hz:z.In w):(Tr.mk k (I ⟨g,0,A⟩) c [x,y,z]).In w:=by
 refine Tr.In_mk.2 ⟨fun j h=>?_,fun t h=>?_⟩
 .match j,h with
  |0,_=>exact⟨g,0,rfl,by simpa using a0,by simpa[Tr.sl] using a1⟩
  |1,_=>exact⟨g,0,rfl,by simpa using b0,by simpa[Tr.sl] using b1⟩
  |2,_=>exact⟨g,0,rfl,by simpa using c0,by simpa[Tr.sl] using c1⟩
 .simp only[List.mem_cons,N,or_false] at h;rcases h with rfl|rfl|rfl
  .exact hx
  .exact hy
  .exact hz
theorem N9(c x y:Tr)(w:World)(hx:x.In w)(hy:y.In w)(rx:x.right)(ry:y.right)(hh:x.hgt<=1000)(hs:x.sm):
  Calls M 105 #[J #[F D c.k,C c.a c.l.length c.c],J #[F D x.k,C x.a x.l.length x.c],J #[F D y.k,C y.a y.l.length y.c]] w fun e w'=>Below w.heap.size w w'/\
   ((YC Yk x.ty y.ty=O/\e=.returned (.tuple #[J #[F D 0,C A 0 0,C A 0 0],.bool O]))\/
    (YC Yk x.ty y.ty=true/\∃(t:Tr)(g:Nat),w.heap.size<=g/\t.ty=Xl x.ty y.ty/\t.In w'/\t.Bl (w.heap.size<=·)/\e=.returned (.tuple #[J #[F D t.k,C t.a t.l.length t.c,C (I ⟨g,0,A⟩) 3 3],.bool true])/\
    w'.cell? ⟨g,0,A⟩=I (F D c.k)/\w'.cell? ⟨g,1,A⟩=I (C c.a c.l.length c.c)/\w'.cell? ⟨g,2,A⟩=I (F D t.k)/\w'.cell? ⟨g,3,A⟩=I (C t.a t.l.length t.c)/\w'.cell? ⟨g,4,A⟩=I (F D t.k)/\w'.cell? ⟨g,5,A⟩=I (C t.a t.l.length t.c))):=by
 obtain⟨W0,a⟩:∃W0,W0=((((w.alloc (Obj.cells c.v 24)).alloc (Obj.cells x.v 24)).alloc (Obj.cells y.v 24)).alloc (Obj.cells #[F D 0,C A 0 0,C A 0 0] 119)):=⟨_,rfl⟩
 have a4:W0.heap.size=w.heap.size+1+1+1+1:=by rw[a];simp
 have j:bL w W0:=by rw[a];exact((((L _ _).alloc (K _) _).alloc (by simp) _).alloc (by simp;omega) _).alloc (by simp;omega) _
 have c0:W0.cell? ⟨w.heap.size,0,A⟩=I (F D c.k):=by rw[a];simp[go_sem]
 have c1:W0.cell? ⟨w.heap.size,1,A⟩=I (C c.a c.l.length c.c):=by rw[a];simp[go_sem]
 have x0:W0.cell? ⟨w.heap.size+1,0,A⟩=I (F D x.k):=by rw[a];simp[go_sem]
 have x1:W0.cell? ⟨w.heap.size+1,1,A⟩=I (C x.a x.l.length x.c):=by rw[a];simp[go_sem]
 have y0:W0.cell? ⟨w.heap.size+1+1,0,A⟩=I (F D y.k):=by rw[a];simp[go_sem]
 have y1:W0.cell? ⟨w.heap.size+1+1,1,A⟩=I (C y.a y.l.length y.c):=by rw[a];simp[go_sem]
 have z0:W0.cell? ⟨w.heap.size+1+1+1,0,A⟩=I (F D 0):=by rw[a];simp[go_sem]
 have z1:W0.cell? ⟨w.heap.size+1+1+1,1,A⟩=I (C A 0 0):=by rw[a];simp[go_sem]
 have z2:W0.cell? ⟨w.heap.size+1+1+1,2,A⟩=I (C A 0 0):=by rw[a];simp[go_sem]
 have l:∀i,W0.frozen? ⟨w.heap.size+1+1+1,i,A⟩=O:=by intro i;rw[a];simp[go_sem]
 have HF:=Yx (OF x y W0 (hx.below j) (hy.below j) hh hs);have HJ:Hid (∀k,bL W0 k->Calls M 71 #[J x.v,J y.v] k fun e w'=>∃t:Tr,e=.returned (J t.v)/\t.ty=Xl x.ty y.ty/\t.In w'/\t.Bl (k.heap.size<=·)/\bL k w'):=fun k h=>Ow x y k ((hx.below j).below h) ((hy.below j).below h) rx ry hh
 clear hx hy rx ry hh hs;go_enter func105,ntmps105;go_wp2_with fail;rw[<-a];clear a;refine HF.out.mono ?_;rintro e k ⟨rfl,h⟩;clear HF;replace HJ:=HJ.out k h;have a5:=h.size;replace c0:=B h c0;replace c1:=B h c1;replace x0:=B h x0;replace x1:=B h x1;replace y0:=B h y0;replace y1:=B h y1;replace z0:=B h z0;replace z1:=B h z1;replace z2:=B h z2;replace l:∀i,k.frozen? ⟨w.heap.size+1+1+1,i,A⟩=O:=fun i=>(h.frozen (p:=⟨w.heap.size+1+1+1,i,A⟩) (by simp;omega)).trans (l i);have f0:=l 0;have f1:=l 1;have f2:=l 2;have d:=j.trans (h.mono (by omega));cases hr:YC Yk x.ty y.ty with
 |false=>have HE:Hid (bL w (((k.setCell ⟨w.heap.size+1+1+1,0,A⟩ (F D 0)).setCell ⟨w.heap.size+1+1+1,1,A⟩ (C A 0 0)).setCell ⟨w.heap.size+1+1+1,2,A⟩ (C A 0 0))):=((d.setCell (by simp;omega) _).setCell (by simp;omega) _).setCell (by simp;omega) _;have HR:=Yx hr;clear d j h hr HJ;go_wp2_with fail;refine bodyPost_ret (v:=.tuple #[J #[F D 0,C A 0 0,C A 0 0],.bool O]) ?_ rfl ⟨HE.out,.inl ⟨HR.out,rfl⟩⟩;simp[results,R,go_sem,z0,z1,z2]
 |true=>
  have HB:=KS d a5 a4;have HR:=Yx hr;clear d j h hr;go_wp2_with fail;refine HJ.mono ?_;rintro e w2 ⟨t,rfl,ht,u,q,z⟩;have a1:=z.size;replace c0:=B z c0;replace c1:=B z c1;replace z0:=B z z0;replace z1:=B z z1;replace z2:=B z z2;replace l:∀i,w2.frozen? ⟨w.heap.size+1+1+1,i,A⟩=O:=fun i=>(z.frozen (p:=⟨w.heap.size+1+1+1,i,A⟩) (by simp;omega)).trans (l i);replace f0:=l 0;replace f1:=l 1;replace f2:=l 2;have d:=HB.out.1.trans (z.mono (HB.out.1.size));have l3:w.heap.size+1+1+1<w2.heap.size:=World.block_lt_of_cell? _ _ z0;have a0:∀X,bL w2 (w2.alloc X):=fun X=>(L _ _).alloc (K _) _;have v0:=fun X=>B (a0 X) c0;have v1:=fun X=>B (a0 X) c1;have r:∀X Y,bL w2 ((w2.alloc X).alloc Y):=fun X Y=>(a0 X).alloc (by simp) _;have v2:=fun X Y=>B (r X Y) z0;have v3:=fun X Y=>B (r X Y) z1;have v4:=fun X Y=>B (r X Y) z2;have v5:∀X Y i,((w2.alloc X).alloc Y).frozen? ⟨w.heap.size+1+1+1,i,A⟩=O:=fun X Y i=>((r X Y).frozen (p:=⟨w.heap.size+1+1+1,i,A⟩) l3).trans (l i);clear r;clear a0;have a3:=u.below ((L w2.heap.size w2).alloc (K _) (.cells t.v 24));have HT:=Sl ht u q d a1;clear x0 x1 y0 y1 l HJ ht u q d a1 z a3;go_wp2_with fail;obtain⟨X,hX⟩:∃X,X=Obj.cells t.v 24:=⟨_,rfl⟩
  have g0:∀i,((w2.alloc X).alloc (Obj.cells #[F D c.k,c.s,F D t.k,t.s,F D t.k,t.s] 24)).cell? ⟨w2.heap.size+1,i,A⟩=#[Value.int D c.k,c.s,F D t.k,t.s,F D t.k,t.s][i]?:=by intro i;simp[go_sem]
  have a2:bL w2 ((w2.alloc X).alloc (Obj.cells #[F D c.k,c.s,F D t.k,t.s,F D t.k,t.s] 24)):=((L _ _).alloc (K _) _).alloc (by simp) _;have e0:=v2 X (Obj.cells #[F D c.k,c.s,F D t.k,t.s,F D t.k,t.s] 24);have e1:=v3 X (Obj.cells #[F D c.k,c.s,F D t.k,t.s,F D t.k,t.s] 24);have e2:=v4 X (Obj.cells #[F D c.k,c.s,F D t.k,t.s,F D t.k,t.s] 24);rw[<-hX];clear v0 v1 v2 v3 v4 v5 hX;generalize (w2.alloc X).alloc (Obj.cells #[F D c.k,c.s,F D t.k,t.s,F D t.k,t.s] 24)=W3 at *;obtain⟨ht,u,q,d,a1⟩:=HT.out;have a6:=HB.out;have nP:w2.heap.size+1≠w.heap.size+1+1+1:=by omega
  have G:∀i,(((W3.setCell ⟨w.heap.size+1+1+1,0,A⟩ (F D t.k)).setCell ⟨w.heap.size+1+1+1,1,A⟩ (t.s)).setCell ⟨w.heap.size+1+1+1,2,A⟩ (C (I ⟨w2.heap.size+1,0,A⟩) 3 3)).cell? ⟨w2.heap.size+1,i,A⟩=#[Value.int D c.k,c.s,F D t.k,t.s,F D t.k,t.s][i]?:=by intro i;rw[H _ _ _ _ (by simp),H _ _ _ _ (by simp),H _ _ _ _ (by simp)];exact g0 i
  have T:t.In (((W3.setCell ⟨w.heap.size+1+1+1,0,A⟩ (F D t.k)).setCell ⟨w.heap.size+1+1+1,1,A⟩ (t.s)).setCell ⟨w.heap.size+1+1+1,2,A⟩ (C (I ⟨w2.heap.size+1,0,A⟩) 3 3)):=by
   refine Tr.In.congr (P:=fun b=>k.heap.size<=b) (fun b hb o=>?_) q (u.below a2);have a7:k.heap.size<=b:=hb;have nb:b≠w.heap.size+1+1+1:=by omega
   rw[H _ _ _ _ (by simp),H _ _ _ _ (by simp),H _ _ _ _ (by simp)]
  have E:bL w (((W3.setCell ⟨w.heap.size+1+1+1,0,A⟩ (F D t.k)).setCell ⟨w.heap.size+1+1+1,1,A⟩ (t.s)).setCell ⟨w.heap.size+1+1+1,2,A⟩ (C (I ⟨w2.heap.size+1,0,A⟩) 3 3)):=(((d.trans (a2.mono d.size)).setCell (by simp;omega) _).setCell (by simp;omega) _).setCell (by simp;omega) _
  refine bodyPost_ret (v:=.tuple #[J #[F D t.k,t.s,C (I ⟨w2.heap.size+1,0,A⟩) 3 3],.bool true]) ?_ rfl ⟨E,.inr ⟨HR.out,t,w2.heap.size+1,by have:=d.size;omega,ht,T,q.mono fun b hb=>by omega,rfl,G 0,G 1,G 2,G 3,G 4,G 5⟩⟩;simp[results,R,go_sem,e0,e1,e2]
theorem Qd(Q:Nat->Prop)(c x y:Tr)(w:World)(hc:c.In w)(k:x.In w)(r:y.In w)(rx:x.right)(ry:y.right)(u:x.hgt<=1000)(hs:x.sm)(l:∀b,w.heap.size<=b->Q b)(bc:c.Bl Q):
  Calls M 105 #[J #[F D c.k,C c.a c.l.length c.c],J #[F D x.k,C x.a x.l.length x.c],J #[F D y.k,C y.a y.l.length y.c]] w (U8 Q w (T6 c.ty x.ty y.ty)):=by
 refine(N9 c x y w k r rx ry u hs).mono ?_;rintro e w' ⟨j,⟨i,rfl⟩|⟨i,t,g,hg,ht,a,d,rfl,c0,c1,p,z,c4,c5⟩⟩
 .exact⟨j,.inl ⟨by simp[T6,i],rfl⟩⟩
 .have hbt:=d.mono fun b h=>l b h;refine⟨j,.inr ⟨t,⟨0,I ⟨g,0,A⟩,3,[c,t,t]⟩,?_,rfl,a,Sj c0 c1 p z c4 c5 (hc.below j) a a,hbt,?_⟩⟩
  .simp[T6,i,ht]
  .refine Tr.Bl_mk.2 ⟨fun _ x k=>?_,fun q o=>?_⟩
   .cases k;exact l g hg
   .simp only[List.mem_cons,N,or_false] at o;rcases o with rfl|rfl|rfl
    .exact bc
    .exact hbt
    .exact hbt
theorem Ob(Q:Nat->Prop)(x:Tr)(w:World)(r:x.In w)(rx:x.right)(h:∀b,w.heap.size<=b->Q b)(bx:x.Bl Q):
  Calls M 107 #[J #[F D x.k,C x.a x.l.length x.c]] w (U8 Q w (X2 x.ty)):=by
 obtain⟨k,a,c,l⟩:=x;by_cases h0:k=0
 .subst h0;refine(NE a l.length c w).mono ?_;rintro e w' ⟨b,g,u,p,rfl,d0,d1,d2,d3,j,q,i,g3,d⟩;have iF:(Tr.mk 3 (I ⟨b,0,A⟩) 2 [Yr 0,Yr 0]).In w':=Tr.In_two d0 d1 d2 d3 (YB _ _) (YB _ _);refine⟨d,.inr ⟨Yr 0,⟨0,I ⟨g,0,A⟩,2,[⟨3,I ⟨b,0,A⟩,2,[Yr 0,Yr 0]⟩,Yr 0]⟩,?_,rfl,YB _ _,Tr.In_two j q i g3 iF (YB _ _),YG _ _,?_⟩⟩
  .simp[X2,Tr.ty_mk,Yr]
  .exact Tr.Bl_two (h g p) (Tr.Bl_two (h b u) (YG _ _) (YG _ _)) (YG _ _)
 .by_cases h3:k=3
  .subst h3;rcases Tr.right.cases rx with⟨_,hk⟩|⟨x,y,hl,_,_,_⟩
   .simp at hk
   .dsimp only at hl;subst hl;obtain⟨b,o,ha,p0,p1,ix⟩:=r.at 0 (by simp);obtain⟨b',o',z,q0,q1,iy⟩:=r.at 1 (by simp);subst ha;cases z
    refine(Oa b o c x y w (by simpa using p0) (by simpa using p1) (by simpa using q0) (by simpa using q1)).mono ?_;rintro e w' ⟨g,hg,rfl,j,q,i,g3,d⟩;obtain⟨bo,bl⟩:=Tr.Bl_mk.1 bx;refine⟨d,.inr ⟨y,⟨0,I ⟨g,0,A⟩,2,[⟨3,I ⟨b,o,A⟩,c,[x,y]⟩,x]⟩,?_,rfl,iy.below d,Tr.In_two j q i g3 (r.below d) (ix.below d),bl y (by simp),?_⟩⟩
    .simp[X2,Tr.ty_mk]
    .exact Tr.Bl_two (h g hg) bx (bl x (by simp))
  .refine(NF k (by simpa using h0) (by simpa using h3) a l.length c w).mono ?_;rintro e w' ⟨rfl,d⟩;exact⟨d,.inl ⟨by simp[X2,Tr.ty_mk,h0,h3],rfl⟩⟩
end Go.Proofs.YtnddkmccagiclabGreatDoor
