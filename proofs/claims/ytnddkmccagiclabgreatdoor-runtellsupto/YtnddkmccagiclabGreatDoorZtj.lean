import Derived.Test.YtnddkmccagiclabGreatDoorZtf
set_option maxRecDepth 20000
set_option maxHeartbeats 16000000
open Go.RowKit Go.Proofs.Tryz
open Option renaming none→B,some→H
open Go.Value renaming slice→C,int→F,agg→V
open Go renaming cell_later→D,World→K,Calls→Zh,Value→Zi
open Go.World renaming block_lt_of_cell?→E,frozen?_setCell→O,cell?_setCell_other→S,cell?_of_block→Zd
open Go.IntKind renaming i64→G
open Go.RowKit.Below renaming refl→I
open Nat renaming le_refl→J,zero_add→Z,le_trans→Zg
open Go.Proofs.Tryz renaming prog→L
open List renaming take_succ_eq_append_getElem→M,getElem_cons_zero→Za,getElem_cons_succ→Zb,map_append→Zc,map_cons→Ze,sum_cons→Zf
open Go.RowKit renaming Below→Q
open Go.Obj renaming cells→R
open Option.some renaming injEq→U
namespace Go.Proofs.YtnddkmccagiclabGreatDoor
variable {x:Tr}{w:K}{cs:List Tr}
theorem Tb{y x0 x1 y0 y1:Tr}(g:x.l=[x0,x1])(b:y.l=[y0,y1])(d:x.k=3)(e:y.k=3):Xl x.ty y.ty=⟨3,[Xl x0.ty y0.ty,Xl x1.ty y1.ty]⟩:=by obtain⟨k,a,c,l⟩:=x;obtain⟨h,a',c',l'⟩:=y;dsimp only at g b d e;subst g b d e;simp[Tr.ty_mk,Ul,Jy]
def Pg(T:Ty)(w:K)(e:Ending)(w':K):Prop:=∃t:Tr,e=.returned (V #[F G t.k,C t.a t.l.length t.c])/\t.ty=T/\t.In w'/\t.Bl (w.heap.size<=·)/\Q w.heap.size w w'
theorem At{W0 w3:K}{t0 t1:Tr}{N:Nat}(z:w.heap.size+1+1<N)(a:Q w.heap.size w W0)(i:Q N W0 w3)(y:N<=W0.heap.size)(l:t0.In w3)(p:t1.In w3)(j:t0.Bl (N<=·))(g:t1.Bl (N<=·))(u v:Zi){W:K}(r:W=((w3.setCell ⟨w.heap.size+1+1,0,B⟩ u).setCell ⟨w.heap.size+1+1,1,B⟩ v).alloc (R #[F G t0.k,C t0.a t0.l.length t0.c,F G t1.k,C t1.a t1.l.length t1.c] 24)):
  (Tr.mk 3 (H ⟨w3.heap.size,0,B⟩) 2 [t0,t1]).In W/\(Tr.mk 3 (H ⟨w3.heap.size,0,B⟩) 2 [t0,t1]).Bl (w.heap.size<=·)/\Q w.heap.size w W:=by
 have o:=i.size;have q:=a.size;have e:((w3.setCell ⟨w.heap.size+1+1,0,B⟩ u).setCell ⟨w.heap.size+1+1,1,B⟩ v).heap.size=w3.heap.size:=by simp[World.setCell]
 have x:t0.In ((w3.setCell ⟨w.heap.size+1+1,0,B⟩ u).setCell ⟨w.heap.size+1+1,0+1,B⟩ v):=XV l (j.mono fun b h=>by omega);have k:t1.In ((w3.setCell ⟨w.heap.size+1+1,0,B⟩ u).setCell ⟨w.heap.size+1+1,0+1,B⟩ v):=XV p (g.mono fun b h=>by omega);have d:bL w ((w3.setCell ⟨w.heap.size+1+1,0,B⟩ u).setCell ⟨w.heap.size+1+1,1,B⟩ v):=((a.trans (i.mono (by omega))).setCell (by simp;omega) _).setCell (by simp;omega) _;subst r;refine⟨?_,Tr.Bl_two (by omega) (j.mono fun b h=>by omega) (g.mono fun b h=>by omega),d.alloc (by omega) _⟩;generalize ((w3.setCell ⟨w.heap.size+1+1,0,B⟩ u).setCell ⟨w.heap.size+1+1,1,B⟩ v)=X at *;have c:∀Y,bL X (X.alloc Y):=fun Y=>(I _ _).alloc (J _) _;rw[<-e];exact Tr.In_two (by simp[go_sem]) (by simp[go_sem]) (by simp[go_sem]) (by simp[go_sem]) (x.below (c _)) (k.below (c _))
theorem Tc(bx ox by' oy c c':Nat)(x0 x1 y0 y1:Tr)(w:K)
  (cx0:w.cell? ⟨bx,ox,B⟩=H (F G x0.k)) (cx1:w.cell? ⟨bx,ox+1,B⟩=H (C x0.a x0.l.length x0.c)) (cx2:w.cell? ⟨bx,ox+2,B⟩=H (F G x1.k)) (cx3:w.cell? ⟨bx,ox+3,B⟩=H (C x1.a x1.l.length x1.c))
  (cy0:w.cell? ⟨by',oy,B⟩=H (F G y0.k)) (cy1:w.cell? ⟨by',oy+1,B⟩=H (C y0.a y0.l.length y0.c)) (cy2:w.cell? ⟨by',oy+2,B⟩=H (F G y1.k)) (cy3:w.cell? ⟨by',oy+3,B⟩=H (C y1.a y1.l.length y1.c))
  (H0:Hid (∀W:K,Q w.heap.size w W->Zh L 92 #[V #[F G x0.k,C x0.a x0.l.length x0.c],V #[F G y0.k,C y0.a y0.l.length y0.c]] W (Pg (Xl x0.ty y0.ty) W)))
  (H1:Hid (∀W:K,Q w.heap.size w W->Zh L 92 #[V #[F G x1.k,C x1.a x1.l.length x1.c],V #[F G y1.k,C y1.a y1.l.length y1.c]] W (Pg (Xl x1.ty y1.ty) W))) :
  Zh L 92 #[V #[F G 3,C (H ⟨bx,ox,B⟩) 2 c],V #[F G 3,C (H ⟨by',oy,B⟩) 2 c']] w (Pg ⟨3,[Xl x0.ty y0.ty,Xl x1.ty y1.ty]⟩ w):=by
 obtain⟨W0,g⟩:∃W0,W0=(((w.alloc (Obj.cells #[F G 3,C (H ⟨bx,ox,B⟩) 2 c] 24)).alloc (Obj.cells #[F G 3,C (H ⟨by',oy,B⟩) 2 c'] 24)).alloc (Obj.cells #[F G 0,C B 0 0] 24)):=⟨_,rfl⟩
 have a5:W0.heap.size=w.heap.size+1+1+1:=by rw[g];simp
 have a:bL w W0:=by rw[g];exact(((I _ _).alloc (J _) _).alloc (by simp) _).alloc (by simp;omega) _
 have y:W0.drew.cell? ⟨w.heap.size+1+1,0,B⟩=H (F G 0):=by rw[g];simp[go_sem]
 have r1:W0.drew.cell? ⟨w.heap.size+1+1,1,B⟩=H (C B 0 0):=by rw[g];simp[go_sem]
 have r2:W0.drew.frozen? ⟨w.heap.size+1+1,0,B⟩=false:=by rw[g];simp[go_sem]
 have r3:W0.drew.frozen? ⟨w.heap.size+1+1,1,B⟩=false:=by rw[g];simp[go_sem]
 have q0:W0.cell? ⟨w.heap.size,0,B⟩=H (F G 3):=by rw[g];simp[go_sem]
 have q1:W0.cell? ⟨w.heap.size,1,B⟩=H (C (H ⟨bx,ox,B⟩) 2 c):=by rw[g];simp[go_sem]
 have q2:W0.cell? ⟨w.heap.size+1,0,B⟩=H (F G 3):=by rw[g];simp[go_sem]
 have q3:W0.cell? ⟨w.heap.size+1,1,B⟩=H (C (H ⟨by',oy,B⟩) 2 c'):=by rw[g];simp[go_sem]
 have lx:bx<w.heap.size:=E _ _ cx0;have ly:by'<w.heap.size:=E _ _ cy0
 replace cx0:=D a cx0;replace cx1:=D a cx1;replace cx2:=D a cx2;replace cx3:=D a cx3;replace cy0:=D a cy0;replace cy1:=D a cy1;replace cy2:=D a cy2;replace cy3:=D a cy3;have HK:Hid (∀w':K,Q (w.heap.size+1+1) W0 w'->(cL w' w.heap.size 0 (F G 3)/\cL w' w.heap.size 1 (C (H ⟨bx,ox,B⟩) 2 c)/\cL w' (w.heap.size+1) 1 (C (H ⟨by',oy,B⟩) 2 c')/\cL w' bx ox (F G x0.k)/\cL w' bx (ox+1) (x0.s)/\cL w' bx (ox+2) (F G x1.k)/\cL w' bx (ox+3) (x1.s)/\cL w' by' oy (F G y0.k)/\cL w' by' (oy+1) (y0.s)/\cL w' by' (oy+2) (F G y1.k)/\cL w' by' (oy+3) (y1.s))):=by intro w' h;have t:∀b i,b<w.heap.size+1+1->w'.cell? ⟨b,i,B⟩=W0.cell? ⟨b,i,B⟩:=fun b i hb=>h.cell (p:=⟨b,i,B⟩) hb;exact⟨(t _ _ (by omega)).trans q0,(t _ _ (by omega)).trans q1,(t _ _ (by omega)).trans q3,(t _ _ (by omega)).trans cx0,(t _ _ (by omega)).trans cx1,(t _ _ (by omega)).trans cx2,(t _ _ (by omega)).trans cx3,(t _ _ (by omega)).trans cy0,(t _ _ (by omega)).trans cy1,(t _ _ (by omega)).trans cy2,(t _ _ (by omega)).trans cy3⟩
 have d:Q (w.heap.size+1+1) W0 W0.drew:=(I _ _).drew;have j:Q (w.heap.size+1+1+1) W0 W0.drew:=(I _ _).drew;go_enter func92,ntmps92;go_wp2_with fail;rw[<-g];clear g q0 q1 q2 q3 cx0 cx1 cx2 cx3 cy0 cy1 cy2 cy3;go_region_held3 (fun w'=>cL w' w.heap.size 0 (F G 3)/\cL w' w.heap.size 1 (C (H ⟨bx,ox,B⟩) 2 c)/\cL w' (w.heap.size+1) 1 (C (H ⟨by',oy,B⟩) 2 c')/\cL w' bx ox (F G x0.k)/\cL w' bx (ox+1) (x0.s)/\cL w' bx (ox+2) (F G x1.k)/\cL w' bx (ox+3) (x1.s)/\cL w' by' oy (F G y0.k)/\cL w' by' (oy+1) (y0.s)/\cL w' by' (oy+2) (F G y1.k)/\cL w' by' (oy+3) (y1.s))
  (first
   |exact HK.out _ d
   |exact HK.out _ (d.alloc (by have:=d.size;omega) _)
   |exact HK.out _ (((d.setCell (by simp) _).setCell (by simp) _).alloc (by have:=d.size;simp[World.setCell];omega) _)
   |go_keep)
  (first
   |(go_at_call 92;refine(H0.out _ (a.trans (d.mono (by omega)))).mono ?_;rintro e w2 ⟨t0,rfl,a2,q,o,k⟩;replace y:=D k y;replace r1:=D k r1;replace r2:=(k.frozen (p:=⟨w.heap.size+1+1,0,B⟩) (by have:=j.size;show w.heap.size+1+1<_;omega)).trans r2;replace r3:=(k.frozen (p:=⟨w.heap.size+1+1,1,B⟩) (by have:=j.size;show w.heap.size+1+1<_;omega)).trans r3;replace d:=d.trans (k.mono (by have:=d.size;omega));replace j:=j.trans (k.mono (by have:=j.size;omega));clear H0)
   |(go_at_call 92;refine(H1.out _ (a.trans (d.mono (by omega)))).mono ?_;rintro e w3 ⟨t1,rfl,a1,x,r,l⟩;replace y:=D l y;replace r1:=D l r1;replace r2:=(l.frozen (p:=⟨w.heap.size+1+1,0,B⟩) (by have:=j.size;show w.heap.size+1+1<_;omega)).trans r2;replace r3:=(l.frozen (p:=⟨w.heap.size+1+1,1,B⟩) (by have:=j.size;show w.heap.size+1+1<_;omega)).trans r3;replace d:=d.trans (l.mono (by have:=d.size;omega));replace j:=j.trans (l.mono (by have:=j.size;omega));clear H1;have a4:w.heap.size+1+1<w3.heap.size:=E _ _ y;have a7:w.heap.size+1+1≠w3.heap.size:=Nat.ne_of_lt a4;have a8:∀Y,cL (w3.alloc Y) (w.heap.size+1+1) 0 (F G 0):=fun Y=>D ((I _ _).alloc (J _) Y) y;have a6:∀Y,cL (w3.alloc Y) (w.heap.size+1+1) 1 (C B 0 0):=fun Y=>D ((I _ _).alloc (J _) Y) r1))
 have HF:=Un a2 a1;have HM:=At (w:=w) (W0:=W0) (w3:=w3) (N:=w.heap.size+1+1+1) (by omega) a j (by omega) (q.below l) x (o.mono fun b hb=>Zg (show _<=W0.heap.size by omega) hb) (r.mono fun b hb=>Zg (show _<=W0.heap.size by omega) (Zg (show W0.drew.heap.size<=_ from k.size) hb)) (F G 3) (C (H ⟨w3.heap.size,0,B⟩) 2 2) rfl;have z:Hid _:=HM;clear HM a2 a1 q x o r;go_wp2_with fail;refine bodyPost_ret (v:=V #[F G 3,C (H ⟨w3.heap.size,0,B⟩) 2 2]) ?_ rfl ⟨_,rfl,?_,z.out.1,z.out.2.1,z.out.2.2⟩
 .have hc:=XC (io:=0) (u:=F G 3) (v:=C (H ⟨w3.heap.size,0,B⟩) 2 2) y r1;have a0:=D ((I _ _).alloc (J _) (R #[F G t0.k,t0.s,F G t1.k,t1.s] 24)) hc.1;have a3:=D ((I _ _).alloc (J _) (R #[F G t0.k,t0.s,F G t1.k,t1.s] 24)) hc.2;simp only[Z] at a0 a3;simp[results,results92,go_sem,a0,a3]
 .rw[Tr.ty_mk,<-HF.out.1,<-HF.out.2];rfl
theorem Ox(n:Nat):∀(x y:Tr)(w:K),x.In w->y.In w->x.right->y.right->x.hgt<=n->Zh L 92 #[V #[F G x.k,C x.a x.l.length x.c],V #[F G y.k,C y.a y.l.length y.c]] w (Pg (Xl x.ty y.ty) w):=by
 induction n with
 |zero=>intro x y w _ _ _ _ h;have:=x.hgt_pos;omega
 |succ n ih=>
  intro x y w hx hy rx ry hh;by_cases hk:x.k=y.k
  .rcases rx.cases with⟨lx,kx⟩|⟨x0,x1,lx,kx,r0,r1⟩
   .rcases ry.cases with⟨ly,ky⟩|⟨y0,y1,ly,ky,_,_⟩
    .have g:x.l.length=0:=by simp[lx]
     have d:y.l.length=0:=by simp[ly]
     rw[g,d,<-hk];refine(Rv x.k x.a y.a x.c y.c w).mono ?_;rintro e w' ⟨rfl,b⟩;refine⟨Yr x.k,rfl,?_,YB _ _,YG _ _,b⟩;obtain⟨k,a,c,l⟩:=x;obtain⟨k',a',c',l'⟩:=y;dsimp only at lx ly hk;subst lx ly hk;simp[Yr,Tr.ty_mk,Ul,Jy]
    .omega
   .rcases ry.cases with⟨ly,ky⟩|⟨y0,y1,ly,ky,q0,q1⟩
    .omega
    .obtain⟨bx,ox,ax,cx0,cx1,hx0⟩:=hx.part 0 (by simp[lx]);obtain⟨a9,a7,a5,a2,a4,z⟩:=hx.part 1 (by simp[lx]);obtain⟨a0,oy,ay,q,p,a6⟩:=hy.part 0 (by simp[ly]);obtain⟨a1,a8,i,o,r,j⟩:=hy.part 1 (by simp[ly]);have a3:=Tr.hgt_part hh 0 (by simp[lx]);have u:=Tr.hgt_part hh 1 (by simp[lx]);rw[ax] at a5;rw[ay] at i;obtain⟨rfl,rfl⟩:bx=a9/\ox=a7:=by simpa using a5
     obtain⟨rfl,rfl⟩:a0=a1/\oy=a8:=by simpa using i
     simp only[lx,Za,Zb] at cx0 cx1 a2 a4 hx0 z a3 u;simp only[ly,Za,Zb] at q p o r a6 j;have g:x.l.length=2:=by simp[lx]
     have d:y.l.length=2:=by simp[ly]
     rw[Tb lx ly kx ky,ax,ay,g,d,kx,ky];exact Tc bx ox a0 oy x.c y.c x0 x1 y0 y1 w (by simpa using cx0) (by simpa using cx1) (by simpa using a2) (by simpa using a4) (by simpa using q) (by simpa using p) (by simpa using o) (by simpa using r) (fun W b=>ih x0 y0 W (hx0.below b) (a6.below b) r0 q0 a3) (fun W b=>ih x1 y1 W (z.below b) (j.below b) r1 q1 u)
  .refine(Rw x y (by simpa using hk) w).mono ?_;rintro e w' ⟨rfl,b⟩;refine⟨Yr 0,rfl,?_,YB _ _,YG _ _,b⟩;obtain⟨k,a,c,l⟩:=x;obtain⟨k',a',c',l'⟩:=y;dsimp only at hk;simp[Yr,Tr.ty_mk,Ul,if_neg hk]
theorem Tr.sz_eq(t:Tr):t.sz=(t.l.map Tr.sz).sum+1:=by cases t;rw[Tr.sz_mk]
theorem BP(l:List Tr)(j:Nat)(h:j<l.length):((l.take (j+1)).map Tr.sz).sum=((l.take j).map Tr.sz).sum+l[j].sz:=by rw[M h,Zc,List.sum_append];simp only[Ze,List.map_nil,Zf,List.sum_nil,Nat.add_zero]
theorem N4:∀(l:List Tr)(j:Nat),((l.take j).map Tr.sz).sum<=(l.map Tr.sz).sum
 |[],j=>by simp
 |t::r,0=>by simp
 |t::r,j+1=>by have:=N4 r j;simp only[List.take_succ_cons,Ze,Zf];omega
theorem Aw:∀(l:List Tr),l.length<=(l.map Tr.sz).sum
 |[]=>Nat.zero_le _
 |t::r=>by have h1:=Aw r;have h2:=t.sz_pos;simp only[Ze,Zf,List.length_cons];omega
theorem YP{w':K}{base:Nat}{e:TypeId}{size:Nat}{v:Zi}{n:Nat}{xs:List Zi}(h:w.ownsRow base e size v n xs)(i:Q w.heap.size w w'):w'.ownsRow base e size v n xs:=by
 refine⟨h.1,?_⟩;rcases h.2 with j|⟨g,c,b,rfl,d,a,rest⟩
 .exact .inl j
 .exact .inr ⟨g,c,b,rfl,d,by rw[i.block g (Array.getElem?_eq_some_iff.1 a).1];exact a,rest⟩
theorem Uy:∀(l:List Tr)(j:Nat)(h:j<l.length),(cellsOf l)[j*2]?=H (F G l[j].k)/\(cellsOf l)[j*2+1]?=H l[j].sl
 |[],j,h=>by simp at h
 |t::r,0,_=>by simp[cellsOf,Tr.sl]
 |t::r,j+1,h=>by
  have ih:=Uy r j (by simpa using h);have e:(j+1)*2=j*2+1+1:=by omega
  rw[e];simpa[cellsOf] using ih
theorem CG{base:Nat}{v:Zi}(h:w.ownsRow base 24 2 v cs.length (cellsOf cs))(e:∀c,c∈cs->c.In w/\c.Bl (base<=·)):∃a c,v=C a cs.length c/\∀k,(Tr.mk k a c cs).In w/\(Tr.mk k a c cs).Bl (base<=·):=by
 rcases h.2 with⟨rfl,o⟩|⟨g,l,i,rfl,p,_⟩
 .have:cs=[]:=List.length_eq_zero_iff.1 o;subst this;exact⟨B,0,rfl,fun k=>⟨Tr.In_nil _ _ _ _,Tr.Bl_nil _ _ _ _⟩⟩
 .refine⟨_,_,rfl,fun k=>⟨Tr.In_mk.2 ⟨fun j d=>⟨g,0,rfl,?_,?_⟩,fun t b=>(e t b).1⟩,Tr.Bl_mk.2 ⟨fun _ x q=>by cases q;exact p,fun t b=>(e t b).2⟩⟩⟩
  .rw[Z,h.cellAt (j*2) (by omega),(Uy cs j d).1]
  .rw[Z,h.cellAt (j*2+1) (by omega),(Uy cs j d).2]
structure CP(x:Tr)(j:Nat)(v:Zi)(cs:List Tr)(w wr:K):Prop where
 own:wr.ownsRow (w.heap.size+1+1) 24 2 v cs.length (cellsOf cs)
 ins:∀c,c∈cs->c.In wr/\c.Bl (fun b=>w.heap.size+1+1<=b/\H b≠v.ownBlock)
 ty:cs.map Tr.ty=(x.l.take j).map Tr.ty
 low:Q w.heap.size w wr
 b0:wr.cell? ⟨w.heap.size,0,B⟩=H (F G x.k)
 b1:wr.cell? ⟨w.heap.size,1,B⟩=H v
 bf:wr.frozen? ⟨w.heap.size,1,B⟩=false
 r0:wr.cell? ⟨w.heap.size+1,0,B⟩=H (F G 0)
 r1:wr.cell? ⟨w.heap.size+1,1,B⟩=H (C B 0 0)
 f0:wr.frozen? ⟨w.heap.size+1,0,B⟩=false
 f1:wr.frozen? ⟨w.heap.size+1,1,B⟩=false
theorem CP.len{j:Nat}{v:Zi}{wr:K}(h:CP x j v cs w wr)(a:j<=x.l.length):cs.length=j:=by have:=congrArg List.length h.ty;simpa[Nat.min_eq_left a] using this
theorem CP.step{j:Nat}{v:Zi}{wr w1 w2 w3:K}{c:Tr}{gg cap1:Nat}{X:Obj}(h:CP x j v cs w wr)(hj:j<x.l.length)(a5:Q wr.heap.size wr w1)(ht:c.ty=x.l[j].ty)(a2:c.In w2)(a6:c.Bl (w1.heap.size<=·))(a3:Q w1.heap.size w1 w2)
  (a1:w3.ownsRow (w.heap.size+1+1) 24 2 (C (H ⟨gg,0,B⟩) (cs.length+1) cap1) (cs.length+1) (cellsOf cs++[F G c.k,C c.a c.l.length c.c])) (g:(w2.alloc X).grownBy w3 v.ownBlock) (a0:v.ownBlock=H gg\/gg=w2.heap.size+1) :
  CP x (j+1) (C (H ⟨gg,0,B⟩) (cs.length+1) cap1) (cs++[c]) w (w3.setCell ⟨w.heap.size,1,B⟩ (C (H ⟨gg,0,B⟩) (cs.length+1) cap1)):=by
 have s0:=h.low.size;have s1:=a5.size;have s2:=a3.size;have s3:w2.heap.size+1<=w3.heap.size:=by have:=g.size;simpa using this
 have a8:w.heap.size+1<wr.heap.size:=E _ _ h.r0;have a4:bL w2 (w2.alloc X):=(I _ _).alloc (J _) _;have z:=(a5.trans (a3.mono s1)).trans (a4.mono (by omega));have u:=h.own.lt;have o:∀k,k<=w.heap.size+1->H k≠v.ownBlock:=fun k hk e=>by have:=(u k e.symm).1;omega
 have a7:w.heap.size+1+1<=gg:=by
  rcases a0 with e|e
  .exact(u gg e).1
  .omega
 have r:∀k,k<w2.heap.size+1->H k≠v.ownBlock->w3.heap[k]?=(w2.alloc X).heap[k]?:=fun k hk hn=>g.block k (by simpa using hk) hn;have q:∀k i,k≠w.heap.size->(w3.setCell ⟨w.heap.size,1,B⟩ (C (H ⟨gg,0,B⟩) (cs.length+1) cap1)).cell? ⟨k,i,B⟩=w3.cell? ⟨k,i,B⟩:=by intro k i hk;rw[S];intro e;simp only[Addr.mk.injEq] at e;omega
 have l:∀k i,k<wr.heap.size->H k≠v.ownBlock->w3.cell? ⟨k,i,B⟩=wr.cell? ⟨k,i,B⟩/\w3.frozen? ⟨k,i,B⟩=wr.frozen? ⟨k,i,B⟩:=by intro k i hk hn;have e:=(r k (by omega) hn).trans (z.block k hk);exact⟨Zd (a:=⟨k,i,B⟩) e,World.frozen?_of_block (a:=⟨k,i,B⟩) e⟩
 refine⟨?_,?_,?_,?_,?_,?_,?_,?_,?_,?_,?_⟩
 .rw[Uz,List.length_append,List.length_singleton];exact ownsRow_setCell_below a1 (show w.heap.size<_ by omega) _
 .intro d hd;rcases List.mem_append.1 hd with hd|hd
  .obtain⟨i1,i2⟩:=h.ins d hd;have i3:=i1.bl.and i2;refine⟨i1.congr (P:=fun b=>b<wr.heap.size/\w.heap.size+1+1<=b/\H b≠v.ownBlock) (fun b y i=>?_) i3,i3.mono fun b y=>⟨y.2.1,?_⟩⟩
   .rw[q b i (by omega)];exact(l b i y.1 y.2.2).1
   .show H b≠H gg
    rcases a0 with e|e
    .rw[<-e];exact y.2.2
    .simp only[ne_eq,U];omega
  .rcases List.mem_singleton.1 hd with rfl;have i3:=a2.bl.and a6;refine⟨a2.congr (P:=fun b=>b<w2.heap.size/\w1.heap.size<=b) (fun b y i=>?_) i3,i3.mono fun b y=>⟨by omega,?_⟩⟩
   .rw[q b i (by omega),Zd (a:=⟨b,i,B⟩) (r b (by omega) (fun e=>by have:=(u b e.symm).2;omega))];exact a4.cell (p:=⟨b,i,B⟩) y.1
   .show H b≠H gg
    rcases a0 with e|e
    .have:=(u gg e).2;simp only[ne_eq,U];omega
    .simp only[ne_eq,U];omega
 .rw[M hj,Zc,Zc,h.ty];simp[ht]
 .have hb3:Q w.heap.size (w2.alloc X) w3:=⟨g.os,g.tape,g.output,g.size,fun k hk=>r k (by omega) (o k (by omega))⟩
  exact((h.low.trans (z.mono s0)).trans hb3).setCell (by simp) _
 .rw[S]
  .exact(l _ 0 (by omega) (o _ (by omega))).1.trans h.b0
  .intro e;simp only[Addr.mk.injEq] at e;omega
 .exact World.cell?_setCell_same _ _ _ ((l _ 1 (by omega) (o _ (by omega))).1.trans h.b1)
 .rw[O];exact(l _ 1 (by omega) (o _ (by omega))).2.trans h.bf
 .rw[q _ _ (by omega)];exact(l _ 0 (by omega) (o _ (by omega))).1.trans h.r0
 .rw[q _ _ (by omega)];exact(l _ 1 (by omega) (o _ (by omega))).1.trans h.r1
 .rw[O];exact(l _ 0 (by omega) (o _ (by omega))).2.trans h.f0
 .rw[O];exact(l _ 1 (by omega) (o _ (by omega))).2.trans h.f1
theorem CP.start:CP x 0 (C B 0 0) [] w ((w.alloc (R #[F G x.k,C B 0 0] 24)).alloc (R #[F G 0,C B 0 0] 24)):=by refine⟨World.ownsRow_nil _ _ _ _,fun c h=>(by cases h),by simp,?_,by simp[go_sem],by simp[go_sem],by simp[go_sem],by simp[go_sem],by simp[go_sem],by simp[go_sem],by simp[go_sem]⟩;exact((I _ _).alloc (J _) _).alloc (by simp) _
theorem Wi(n:Nat)(x:Tr)(A:Option Addr)(HA:Hid (A=x.a))(w:K)(hx:x.In w)(hh:x.hgt<=n+1)(hs:x.sz<=100000000)
  (ih:Hid (∀(x:Tr)(w:K),x.In w->x.hgt<=n->x.sz<=100000000->Zh L 34 #[V #[F G x.k,C x.a x.l.length x.c]] w (Pg x.ty w))) :
  Zh L 34 #[V #[F G x.k,C A x.l.length x.c]] w (Pg x.ty w):=by
 have af:x.l.length<=100000000:=by have:=Aw x.l;have:=x.sz_eq;omega
 obtain⟨i0,aa,ac,ad,a9⟩:=info_parts Tryz.info24s;go_enter func34,ntmps34;go_wp2_with fail;go_loopg [11] x.l.length (fun g i wr=>∃(j:Nat)(v:Zi)(cs:List Tr),j<=x.l.length/\g=x.l.length-j/\i=F G (j:Int)/\Hid (CP x j v cs w wr))
 case atStart=>exact⟨0,_,_,Nat.zero_le _,rfl,rfl,CP.start⟩
 case round=>
  obtain⟨j,v,cs,hj,hg,rfl,d⟩:=hrel;have HG:=Yx hg;clear hg;have ai:w.heap.size+1<wr.heap.size:=E _ _ d.out.r0;by_cases hlt:j<x.l.length
  .obtain⟨b,o,ea,x0,x1,hxj⟩:=hx.part j hlt;have eA:=HA.out.trans ea;subst eA;clear ea HA;have y:=d.out.low;replace x0:=D y x0;replace x1:=D y x1;have i1:(j:Int)<(x.l.length:Int):=by omega
   have i2:(0:Int)<=(j:Int):=by omega
   have lb:b<wr.heap.size:=E _ _ x0;have aj:cs.length<=100000000:=by have:=d.out.len hj;omega
   have a0:bL wr (wr.alloc (R x.l[j].v 24)).drew:=((I _ _).alloc (J _) _).drew;have HI:Hid (Zh L 34 #[V x.l[j].v] (wr.alloc (R x.l[j].v 24)).drew (Pg x.l[j].ty (wr.alloc (R x.l[j].v 24)).drew)):=by refine ih.out x.l[j] _ ((hxj.below y).below a0) (Tr.hgt_part hh j hlt) ?_;have h2:=BP x.l j hlt;have h3:=N4 x.l (j+1);have h4:=x.sz_eq;omega
   have q1:=d.out.b1;have qf:=d.out.bf;have a5:v.ownBlock≠H w.heap.size:=fun e=>by have:=(d.out.own.lt _ e).1;omega
   have a2:=d.out.own;clear ih hx;go_wp2_with fail;have u1:=D a0 q1;have uf:(wr.alloc (R x.l[j].v 24)).drew.frozen? ⟨w.heap.size,1,B⟩=false:=(a0.frozen (p:=⟨w.heap.size,1,B⟩) (show w.heap.size<wr.heap.size by omega)).trans qf;have uo:=YP a2 a0;have us:w.heap.size<(wr.alloc (R x.l[j].v 24)).drew.heap.size:=E _ _ u1;clear q1 qf a2;go_region_law
    (first
     |(go_simp;go_at_call 34;refine HI.out.mono ?_;rintro e w2 ⟨c,rfl,ht,a8,a4,r⟩;replace u1:=D r u1;replace uf:=(r.frozen (p:=⟨w.heap.size,1,B⟩) us).trans uf;replace uo:=YP uo r;replace us:w.heap.size<w2.heap.size:=E _ _ u1;have a7:=heap_alloc_new w2 (R c.v 24);have un:w.heap.size≠w2.heap.size:=Nat.ne_of_lt us;go_wp2_with fail)
     |(refine step_append_lies _ (by rfl) _ _ _ (by rfl) (w.heap.size+1+1) 24 i0 _ 2 32 underlying22 aa ac ad a9 rfl (by omega) v cs.length (cellsOf cs) (by rfl) (uo.alloc _) ⟨w2.heap.size,0,B⟩ 1 1 [F G c.k,c.s] (by rfl) (by rfl) (World.news_of_block (cs:=c.v) (t:=24) (fr:=(0,0)) a7) (by simp[Value.oneCell']) (by omega) (by unfold maxLen;omega) (by omega) (by have:=r.size;simp at this ⊢;omega) (w2.heap.size+1) (by simp) ?_;intro gg cap1 w3 z q a6 ah;have ae:w3.cell? ⟨w.heap.size,1,B⟩=H v:=(by rw[q.cell_far _ (by simp;omega) (Ne.symm a5)];exact D ((I _ _).alloc (J _) _) u1);have ab:w3.frozen? ⟨w.heap.size,1,B⟩=false:=(by rw[q.frozen_far _ (by simp;omega) (Ne.symm a5)];exact(((I _ _).alloc (J _) _).frozen (p:=⟨w.heap.size,1,B⟩) us).trans uf)))
   all_goals
    have HN:=Yx (d.out.step hlt a0 ht a8 a4 r z q a6)
    clear z q a6 ae ab ht a8 a4 r uo uf u1 HI d
    go_wp2_with fail
    go_roundg (x.l.length-(j+1))
    case measure=>rw[HG.out];omega
    case rel=>exact⟨j+1,_,_,by omega,rfl,by go_num,HN⟩
  .have hcl:=d.out.len hj;have a3:j=x.l.length:=by omega
   obtain⟨a,c,rfl,a1⟩:=CG d.out.own (fun c hc=>⟨(d.out.ins c hc).1,(d.out.ins c hc).2.mono fun b hb=>hb.1⟩);have HT:Hid ((Tr.mk x.k a c cs).ty=x.ty):=by
    show _=_
    obtain⟨k,a',c',l⟩:=x;have h:=d.out.ty;dsimp only at h a3 ⊢;rw[a3,List.take_length] at h;rw[Tr.ty_mk,Tr.ty_mk,h]
   have HB:=Yx d.out.low;have b0:=d.out.b0;have b1:=d.out.b1;have r0:=d.out.r0;have r1:=d.out.r1;have f0:=d.out.f0;have f1:=d.out.f1;have HR:=a1 x.k;clear d a1 hcl a3;go_wp2_with fail;refine bodyPost_ret (v:=V #[F G x.k,C a cs.length c]) ?_ rfl ⟨.mk x.k a c cs,rfl,HT.out,XV HR.1 (HR.2.mono fun b hb=>by omega),HR.2.mono fun b hb=>by omega,(HB.out.setCell (by simp) _).setCell (by simp) _⟩;have hc:=XC (u:=F G x.k) (v:=C a cs.length c) r0 r1;simp only[Z] at hc;simp[results,results34,go_sem,hc.1,hc.2]
theorem RW(n:Nat):∀(x:Tr)(w:K),x.In w->x.hgt<=n->x.sz<=100000000->Zh L 34 #[V #[F G x.k,C x.a x.l.length x.c]] w (Pg x.ty w):=by
 induction n with
 |zero=>intro x w _ h;have:=x.hgt_pos;omega
 |succ n ih=>intro x w b h a;exact Wi n x x.a rfl w b h a (fun x w b h a=>ih x w b h a)
end Go.Proofs.YtnddkmccagiclabGreatDoor
