import Derived.Test.YtnddkmccagiclabGreatDoorZtc
import Derived.Test.YtnddkmccagiclabGreatDoorZtd
import Derived.Test.YtnddkmccagiclabGreatDoorZte
import Derived.Laws.EntriesVeiled
set_option maxRecDepth 20000
set_option maxHeartbeats 16000000
open Go.RowKit Go.Proofs.Tryz
open Option renaming none→C,some→J
open Go.Value renaming slice→D,int→G,pointer→Zc,agg→Zd,tuple→Zn,ownBlock→Zv
open Go.IntKind renaming i64→H
open Go.World renaming block_lt_of_cell?→K,cell?_setCell_other→Zf,setCell→Zj,cell?_of_block→Zm,cell?_setCell_same→Zo,ownsRow_nil→Zz
open Go renaming cell_later→L,World→Ze,bodyPost_ret→Zg,Calls→Zl,Addr→Zr,Value→Zw
open Nat renaming le_refl→N
open Go.Ending renaming returned→O
open Go.RowKit.Below renaming refl→Y
open Bool renaming false→Za,true→Zh
open Go.Proofs.Tryz renaming prog→Zb,results107→Zu,ntmps107→Zx,func107→Zy
open Go.RowKit renaming Below→Zi
open Go.Obj renaming cells→Zk
open List renaming getElem?_cons_zero→Zp,getElem?_cons_succ→Zq,getElem_cons_zero→Zs,getElem_cons_succ→Zt
namespace Go.Proofs.YtnddkmccagiclabGreatDoor
variable {F M R b c c' c2 ib io:Nat}{w w':Ze}{x:Tm}{ts:List Xx}{E vs:List YK}{o r r2:Xy}{U V V' V2 X g:YK}{f0 f1 t0 t1:Ty}{a:Option Ca}{Q Q':Nat->Prop}
theorem XV{u v:Zw}{t:Tr}(a:t.In w)(c:t.Bl (·≠ib)):t.In ((w.setCell ⟨ib,io,C⟩ u).setCell ⟨ib,io+1,C⟩ v):=by
 refine a.congr (P:=(·≠ib)) ?_ c;intro b d o;rw[Zf,Zf]
 .intro e;simp only[Addr.mk.injEq] at e;omega
 .intro e;simp only[Addr.mk.injEq] at e;omega
theorem U9.of_parts{x y x0 x1 y0 y1:Tr}{P:Nat}{wr W1:Ze}(r:x.l=[x0,x1])(p:y.l=[y0,y1])(q:x.k=3)(z:y.k=3)(i:ib<w.heap.size)(hP:w.heap.size<=P)(g:Zi w.heap.size w wr)(h:JI W1 P x0 x1 y0 y1 2 wr)
  (z0:w.cell? ⟨ib,io,C⟩=J (G H 0)) (z1:w.cell? ⟨ib,io+1,C⟩=J (D C 0 0)) :
  U9 x y ib io w ((wr.setCell ⟨ib,io,C⟩ (G H 3)).setCell ⟨ib,io+1,C⟩ (D (J ⟨P,0,C⟩) 2 2)):=by
 obtain⟨_,hf,s0,s1,i0,i1,b0,j,d0,d1,d2,d3,t0,t1,_,_⟩:=h;have hc:=XC (u:=G H 3) (v:=D (J ⟨P,0,C⟩) 2 2) (L g z0) (L g z1);have d:∀o,((wr.setCell ⟨ib,io,C⟩ (G H 3)).setCell ⟨ib,io+1,C⟩ (D (J ⟨P,0,C⟩) 2 2)).cell? ⟨P,o,C⟩=wr.cell? ⟨P,o,C⟩:=by
  intro o;rw[Zf,Zf]
  .intro e;simp only[Addr.mk.injEq] at e;omega
  .intro e;simp only[Addr.mk.injEq] at e;omega
 refine⟨.mk 3 (J ⟨P,0,C⟩) 2 [s0,s1],?_,?_,?_,hc.1,hc.2,(JC.of_below g i).set _ _⟩
 .obtain⟨k,a,c,l⟩:=x;obtain⟨k',a',c',l'⟩:=y;dsimp only at r p q z;subst r p q z;simp[Tr.ty_mk,Ul,Jy,t0 (by omega),t1 (by omega)]
 .exact Tr.In_two (by rw[d];exact d0) (by rw[d];exact d1) (by rw[d];exact d2) (by rw[d];exact d3) (XV i0 (b0.mono fun b g=>by omega)) (XV i1 (j.mono fun b g=>by omega))
 .exact Tr.Bl_two hP (b0.mono fun b g=>by omega) (j.mono fun b g=>by omega)
theorem U9.of_diff{x y:Tr}(e:x.k≠y.k)(b:ib<w.heap.size)(d:Zi w.heap.size w w')(h:w.cell? ⟨ib,io,C⟩=J (G H 0))(g:w.cell? ⟨ib,io+1,C⟩=J (D C 0 0)):U9 x y ib io w w':=by refine⟨Yr 0,?_,YB _ _,YG _ _,L d h,L d g,JC.of_below d b⟩;obtain⟨k,a,c,l⟩:=x;obtain⟨i,a',c',l'⟩:=y;dsimp only at e;simp[Yr,Tr.ty_mk,Ul,if_neg e]
theorem Az(n:Nat):n<=1000->∀(x y:Tr)(rp:Option Zr)(ib io:Nat)(w:Ze),x.In w->y.In w->x.right->y.right->x.hgt<=n->w.cell? ⟨ib,io,C⟩=J (G H 0)->w.cell? ⟨ib,io+1,C⟩=J (D C 0 0)->w.frozen? ⟨ib,io,C⟩=Za->w.frozen? ⟨ib,io+1,C⟩=Za->
  Zl Zb 110 #[Zd #[G H x.k,D x.a x.l.length x.c,G H y.k,D y.a y.l.length y.c,Zc (J ⟨ib,io,C⟩)],G H (n:Int),Zc rp] w fun e w'=>e=O (Zn #[])/\U9 x y ib io w w':=by
 induction n with
 |zero=>intro _ x y rp ib io w _ _ _ _ h;have:=x.hgt_pos;omega
 |succ n ih=>
  intro hn x y rp ib io w hx hy rx ry hh z0 z1 f0 f1;have lb:ib<w.heap.size:=K _ _ z0;have e:((n+1:Nat):Int)=(n:Int)+1:=by omega
  rw[e];by_cases hk:x.k=y.k
  .rcases rx.cases with⟨lx,kx⟩|⟨x0,x1,lx,kx,r0,r1⟩
   .rcases ry.cases with⟨ly,ky⟩|⟨y0,y1,ly,ky,_,_⟩
    .rw[lx,ly,<-hk];refine(VS n (by omega) x.k x.a y.a rp x.c y.c ib io w z0 z1 f0 f1).mono ?_;rintro e w' ⟨rfl,g,c0,c1,hw⟩;refine⟨rfl,.mk x.k (J ⟨g,0,C⟩) 0 [],?_,Tr.In_nil _ _ _ _,Tr.Bl_nil _ _ _ _,c0,c1,hw⟩;obtain⟨k,a,c,l⟩:=x;obtain⟨k',a',c',l'⟩:=y;dsimp only at lx ly hk;subst lx ly hk;simp[Tr.ty_mk,Ul,Jy]
    .omega
   .rcases ry.cases with⟨ly,ky⟩|⟨y0,y1,ly,ky,q0,q1⟩
    .omega
    .obtain⟨bx,ox,ax,cx0,cx1,hx0⟩:=hx.part 0 (by simp[lx]);obtain⟨a9,a6,a4,a1,a3,u⟩:=hx.part 1 (by simp[lx]);obtain⟨z,oy,ay,p,o,a5⟩:=hy.part 0 (by simp[ly]);obtain⟨a0,a8,d,j,q,i⟩:=hy.part 1 (by simp[ly]);have a2:=Tr.hgt_part hh 0 (by simp[lx]);have r:=Tr.hgt_part hh 1 (by simp[lx]);rw[ax] at a4;rw[ay] at d;obtain⟨rfl,rfl⟩:bx=a9/\ox=a6:=by simpa using a4
     obtain⟨rfl,rfl⟩:z=a0/\oy=a8:=by simpa using d
     simp only[lx,Zs,Zt] at cx0 cx1 a1 a3 hx0 u a2 r;simp only[ly,Zs,Zt] at p o j q a5 i;rw[ax,ay,lx,ly,kx,ky];refine(Ay n (by omega) rp bx ox z oy x.c y.c ib io x0 x1 y0 y1 w z0 z1 f0 f1 (by simpa using cx0) (by simpa using cx1) (by simpa using a1) (by simpa using a3) (by simpa using p) (by simpa using o) (by simpa using j) (by simpa using q) (fun P W _ b g0 g1 gf=>ih (by omega) x0 y0 rp P 0 W (hx0.below b) (a5.below b) r0 q0 a2 g0 g1 (gf _) (gf _)) (fun P W _ b g0 g1 gf=>ih (by omega) x1 y1 rp P 2 W (u.below b) (i.below b) r1 q1 r g0 g1 (gf _) (gf _))).mono ?_
     rintro e w' ⟨rfl,W1,wr,P,hP,b,a7,rfl⟩;exact⟨rfl,U9.of_parts lx ly kx ky lb hP b a7 z0 z1⟩
  .refine(VT n (by omega) x.k y.k (by simpa using hk) x.a y.a (J ⟨ib,io,C⟩) rp x.l.length y.l.length x.c y.c w).mono ?_;rintro e w' ⟨rfl,rfl⟩;exact⟨rfl,U9.of_diff hk lb ((Y _ _).alloc (N _) _) z0 z1⟩
def C4(R:Nat)(x y:Tr)(k:Nat)(wr:Ze):Prop:=
 wr.frozen? ⟨R+1,0,C⟩=Za/\wr.frozen? ⟨R,0,C⟩=Za/\wr.frozen? ⟨R,1,C⟩=Za/\
 ((k=1/\wr.cell? ⟨R,0,C⟩=J (G H 0)/\wr.cell? ⟨R,1,C⟩=J (D C 0 0)/\∃g cap,wr.cell? ⟨R+1,0,C⟩=J (D (J ⟨g,0,C⟩) 1 cap)/\wr.ownsRow (R+2) 141 5 (D (J ⟨g,0,C⟩) 1 cap) 1 [G H x.k,D x.a x.l.length x.c,G H y.k,D y.a y.l.length y.c,Zc (J ⟨R,0,C⟩)])
  \/(k=0/\(∃t:Tr,t.ty=Xl x.ty y.ty/\t.In wr/\t.Bl (R<·)/\wr.cell? ⟨R,0,C⟩=J (G H t.k)/\wr.cell? ⟨R,1,C⟩=J (D t.a t.l.length t.c))/\∃a cap,wr.cell? ⟨R+1,0,C⟩=J (D a 0 cap)))
theorem Ow(x y:Tr)(w:Ze)(hx:x.In w)(hy:y.In w)(rx:x.right)(ry:y.right)(hh:x.hgt<=1000):
  Zl Zb 71 #[Zd #[G H x.k,D x.a x.l.length x.c],Zd #[G H y.k,D y.a y.l.length y.c]] w fun e w'=>∃t:Tr,e=O (Zd #[G H t.k,D t.a t.l.length t.c])/\t.ty=Xl x.ty y.ty/\t.In w'/\t.Bl (w.heap.size<=·)/\Zi w.heap.size w w':=by
 have HC:Hid (∀(rp:Option Zr)(ib io:Nat)(w:Ze),x.In w->y.In w->cL w ib io (G H 0)->cL w ib (io+1) (D C 0 0)->w.frozen? ⟨ib,io,C⟩=Za->w.frozen? ⟨ib,io+1,C⟩=Za-> Zl Zb 110 #[Zd #[G H x.k,x.s,G H y.k,y.s,Zc (J ⟨ib,io,C⟩)],G H 1000,Zc rp] w fun e w'=>e=O (Zn #[])/\U9 x y ib io w w'):=fun rp ib io w h1 h2=>Az 1000 (N _) x y rp ib io w h1 h2 rx ry hh
 go_enter func71,ntmps71;go_wp2_with fail;obtain⟨W0,l⟩:∃W0,W0=(((w.alloc (Obj.cells x.v 24)).alloc (Obj.cells y.v 24)).alloc (Obj.cells #[G H 0,D C 0 0] 24)):=⟨_,rfl⟩
 have d:W0.heap.size=w.heap.size+1+1+1:=by rw[l];simp
 have a7:bL w W0:=by rw[l];exact(((Y _ _).alloc (N _) _).alloc (by simp) _).alloc (by simp;omega) _
 have r0:W0.cell? ⟨w.heap.size+1+1,0,C⟩=J (G H 0):=by rw[l];simp[go_sem]
 have r1:W0.cell? ⟨w.heap.size+1+1,1,C⟩=J (D C 0 0):=by rw[l];simp[go_sem]
 have r2:∀o,W0.frozen? ⟨w.heap.size+1+1,o,C⟩=Za:=by intro o;rw[l];simp[go_sem]
 rw[<-l];clear l;have u0:((W0.alloc (Obj.cells #[G H 0,D C 0 0] 24)).alloc (Obj.cells #[D C 0 0] 137)).cell? ⟨w.heap.size+1+1+1,0,C⟩=J (G H 0):=by rw[<-d];simp[go_sem]
 have u1:((W0.alloc (Obj.cells #[G H 0,D C 0 0] 24)).alloc (Obj.cells #[D C 0 0] 137)).cell? ⟨w.heap.size+1+1+1,1,C⟩=J (D C 0 0):=by rw[<-d];simp[go_sem]
 have u2:∀o,((W0.alloc (Obj.cells #[G H 0,D C 0 0] 24)).alloc (Obj.cells #[D C 0 0] 137)).frozen? ⟨w.heap.size+1+1+1,o,C⟩=Za:=by intro o;rw[<-d];simp[go_sem]
 refine(Qj (w.heap.size+1+1+1+1) (D C 0 0) 0 [] x.k y.k x.a y.a x.l.length y.l.length x.c y.c (J ⟨w.heap.size+1+1+1,0,C⟩) _ (by rw[<-d];simp[go_sem]) (by rw[<-d];simp[go_sem]) (Zz _ _ _ _) (by omega)).mono ?_;rintro e w1 ⟨rfl,g,i,ac,ab,a8,_,a5⟩;have af:Zi (w.heap.size+1+1+1) W0 w1:=by have h:=a5.below (by simp[Zv]) (by simp[d]);have h':Zi W0.heap.size W0 ((W0.alloc (Obj.cells #[G H 0,D C 0 0] 24)).alloc (Obj.cells #[D C 0 0] 137)):=((Y _ _).alloc (N _) _).alloc (by simp) _;rw[d] at h';exact h'.trans (h.mono (by omega))
 have j:=a5.below (by simp[Zv]) (by simp[d]);have HO:Hid (C4 (w.heap.size+1+1+1) x y 1 w1):=⟨ab,(j.frozen (p:=⟨w.heap.size+1+1+1,0,C⟩) (by simp)).trans (u2 0),(j.frozen (p:=⟨w.heap.size+1+1+1,1,C⟩) (by simp)).trans (u2 1),.inl ⟨rfl,(j.cell (p:=⟨w.heap.size+1+1+1,0,C⟩) (by simp)).trans u0,(j.cell (p:=⟨w.heap.size+1+1+1,1,C⟩) (by simp)).trans u1,g,i,by simpa using ac,by simpa using a8⟩⟩
 clear ac ab a8 a5 u0 u1 u2 j;have a1:=KS r0 r1 r2;have ak:=Yx d;clear r0 r1 r2 d;go_wp2_with fail;go_loopg [] 1 (fun k wr=>Hid (C4 (w.heap.size+1+1+1) x y k wr)/\Zi (w.heap.size+1+1+1) W0 wr)
 case atStart=>exact⟨HO,af⟩
 case round=>
  obtain⟨HR,q⟩:=hrel;have a4:=a7.trans (q.mono (by omega));obtain⟨a2,g0,g1,⟨rfl,z0,z1,g,i,hc,ho⟩|⟨rfl,⟨t,ht,a3,r,t0,t1⟩,a,i,hc⟩⟩:=HR.out
  .have c0:=ho.cellAt 0 (by omega);have c1:=ho.cellAt 1 (by omega);have c2:=ho.cellAt 2 (by omega);have c3:=ho.cellAt 3 (by omega);have c4:=ho.cellAt 4 (by omega);simp only[Zp,Zq] at c0 c1 c2 c3 c4;have ah:1<=i:=by
    rcases ho.2 with⟨h,_⟩|⟨g',ai,aj,h,_,_,h1,_⟩
    .cases h
    .cases h;exact h1
   have al:w.heap.size+1+1+1+1<wr.heap.size:=K _ _ hc;clear ho HR HO;go_wp2_with fail;refine(JU (w.heap.size+1+1+1+1) (J ⟨g,0,C⟩) 1 i _ hc).mono ?_;rintro e w' ⟨rfl,rfl⟩;go_wp2_with fail;refine(N3 (w.heap.size+1+1+1+1) g 0 i x.k y.k x.a y.a x.l.length y.l.length x.c y.c (J ⟨w.heap.size+1+1+1,0,C⟩) _ (by simpa using hc) a2 (by omega) (by omega) (by simpa using c0) (by simpa using c1) (by simpa using c2) (by simpa using c3) (by simpa using c4)).mono ?_;rintro e w' ⟨rfl,rfl⟩;go_wp2_with fail;obtain⟨WT,z⟩:∃WT,WT=((w'.setCell ⟨w.heap.size+1+1+1+1,0,C⟩ (D (J ⟨g,0,C⟩) 0 i)).alloc (Zk #[G H x.k,x.s,G H y.k,y.s,Zc (J ⟨w.heap.size+1+1+1,0,C⟩)] 141)).alloc (Zk #[G H x.k,x.s,G H y.k,y.s,Zc (J ⟨w.heap.size+1+1+1,0,C⟩)] 141):=⟨_,rfl⟩
   have c:Zi (w.heap.size+1+1+1+1) w' WT:=by rw[z];exact(((Y _ _).setCell (by simp) _).alloc (by simp[Zj];omega) _).alloc (by simp[Zj];omega) _
   have am:=c.size;have aa:cL WT (w.heap.size+1+1+1+1) 0 (D (J ⟨g,0,C⟩) 0 i):=by rw[z];exact L (((Y _ _).alloc (N _) _).alloc (by simp) _) (Zo _ _ _ hc)
   have a9:WT.frozen? ⟨w.heap.size+1+1+1+1,0,C⟩=Za:=by rw[z];simp[frozen?_alloc_cells,a2]
   rw[<-z];have a6:=a4.trans (c.mono (by omega));refine(HC.out _ (w.heap.size+1+1+1) 0 WT (hx.below a6) (hy.below a6) ((c.cell (p:=⟨w.heap.size+1+1+1,0,C⟩) (by simp)).trans z0) ((c.cell (p:=⟨w.heap.size+1+1+1,1,C⟩) (by simp)).trans z1) ((c.frozen (p:=⟨w.heap.size+1+1+1,0,C⟩) (by simp)).trans g0) ((c.frozen (p:=⟨w.heap.size+1+1+1,1,C⟩) (by simp)).trans g1)).mono ?_;rintro e w5 ⟨rfl,t,ht,a3,r,t0,t1,hw⟩;have a0:w5.heap[w.heap.size+1+1+1+1]?=WT.heap[w.heap.size+1+1+1+1]?:=hw.block _ (by omega) (by omega);have ad:Hid (C4 (w.heap.size+1+1+1) x y 0 w5):=⟨(World.frozen?_of_block (a:=⟨w.heap.size+1+1+1+1,0,C⟩) a0).trans a9,(hw.frozen 0).trans ((c.frozen (p:=⟨w.heap.size+1+1+1,0,C⟩) (by simp)).trans g0),(hw.frozen 1).trans ((c.frozen (p:=⟨w.heap.size+1+1+1,1,C⟩) (by simp)).trans g1), .inr ⟨rfl,⟨t,ht,a3,r.mono fun b hb=>by omega,t0,t1⟩,_,_,(Zm (a:=⟨w.heap.size+1+1+1+1,0,C⟩) a0).trans aa⟩⟩
   have ae:=q.trans ((c.mono (by omega)).trans (hw.under (by omega)));clear z c aa a9 a6 ht a3 r t0 t1 hw a0 z0 z1 g0 g1 a2 hc c0 c1 c2 c3 c4;go_wp2_with fail;go_roundg 0
   case measure=>omega
   case rel=>exact⟨ad,ae⟩
  .go_wp2_with fail;refine(JU (w.heap.size+1+1+1+1) a 0 i _ hc).mono ?_;rintro e w' ⟨rfl,rfl⟩;have v0:=(q.cell (p:=⟨w.heap.size+1+1,0,C⟩) (by simp)).trans a1.out.1;have v1:=(q.cell (p:=⟨w.heap.size+1+1,1,C⟩) (by simp)).trans a1.out.2.1;have v2:=(q.frozen (p:=⟨w.heap.size+1+1,0,C⟩) (by simp)).trans (a1.out.2.2 0);have v3:=(q.frozen (p:=⟨w.heap.size+1+1,1,C⟩) (by simp)).trans (a1.out.2.2 1);have HT:=Yx ht;clear ht HR HO hc a2 g0 g1;go_wp2_with fail;refine Zg (v:=Zd t.v) ?_ rfl ⟨t,rfl,HT.out,XV a3 (r.mono fun b hb=>by omega),r.mono fun b hb=>by omega,(a4.setCell (by simp;omega) _).setCell (by simp;omega) _⟩;have hh:=XC (u:=G H t.k) (v:=t.s) v0 v1;simp[results,results71,go_sem,hh.1,hh.2]
theorem AO(x y:Tr)(r:Bool)(w:Ze)(hx:x.In w)(hy:y.In w)
  (HC:Hid (∀(rp:Option Zr)(w:Ze),x.In w->y.In w->Zl Zb 146 #[Zd #[G H x.k,D x.a x.l.length x.c],Zd #[G H y.k,D y.a y.l.length y.c],G H 1000,Zc rp] w fun e w'=>e=O (.bool r)/\Zi w.heap.size w w')) :
  Zl Zb 44 #[.func (.func 146) #[] #[],Zd #[G H x.k,D x.a x.l.length x.c],Zd #[G H y.k,D y.a y.l.length y.c]] w fun e w'=>e=O (.bool r)/\Zi w.heap.size w w':=by
 go_enter func44,ntmps44;go_wp2_with fail;refine(Qj (w.heap.size+1+1) (D C 0 0) 0 [] x.k y.k x.a y.a x.l.length y.l.length x.c y.c C _ (by simp[go_sem]) (by simp[go_sem]) (Zz _ _ _ _) (by omega)).mono ?_;rintro e w1 ⟨rfl,g,b,o,a2,a1,_,q⟩;have a5:bL w w1:=((((Y _ _).alloc (N _) _).alloc (by simp) _).alloc (by simp;omega) _).trans ((q.below (by simp[Zv]) (by simp)).mono (by omega));have a9:w.heap.size+1+1<w1.heap.size:=K _ _ o;have HO:Hid (Dt (w.heap.size+1+1) x y r 1 w1):=⟨a2,.inl ⟨rfl,g,b,by simpa using o,by simpa using a1⟩⟩
 clear o a2 a1 q;go_wp2_with fail;go_loopg [] 1 (fun k wr=>Hid (Dt (w.heap.size+1+1) x y r k wr)/\bL w wr)
 case atStart=>exact⟨HO,a5⟩
 case round=>
  obtain⟨HR,a0⟩:=hrel;obtain⟨j,⟨rfl,g,b,l,i⟩|⟨rfl,rfl,a,b,l⟩⟩:=HR.out
  .have c0:=i.cellAt 0 (by omega);have c1:=i.cellAt 1 (by omega);have c2:=i.cellAt 2 (by omega);have c3:=i.cellAt 3 (by omega);have c4:=i.cellAt 4 (by omega);simp only[Zp,Zq] at c0 c1 c2 c3 c4;have a8:1<=b:=by
    rcases i.2 with⟨h,_⟩|⟨g',u,a6,h,_,_,h1,_⟩
    .cases h
    .cases h;exact h1
   have aa:w.heap.size+1+1<g:=by
    rcases i.2 with⟨h,_⟩|⟨g',u,a6,h,h1,_⟩
    .cases h
    .cases h;exact h1
   have ab:w.heap.size+1+1<wr.heap.size:=K _ _ l;clear i HR HO;go_wp2_with fail;refine(JU (w.heap.size+1+1) (J ⟨g,0,C⟩) 1 b _ l).mono ?_;rintro e w' ⟨rfl,rfl⟩;go_wp2_with fail;refine(N3 (w.heap.size+1+1) g 0 b x.k y.k x.a y.a x.l.length y.l.length x.c y.c C _ (by simpa using l) j (by omega) (by omega) (by simpa using c0) (by simpa using c1) (by simpa using c2) (by simpa using c3) (by simpa using c4)).mono ?_;rintro e w' ⟨rfl,rfl⟩;go_wp2_with fail;have a3:bL w (((w'.setCell ⟨w.heap.size+1+1,0,C⟩ (D (J ⟨g,0,C⟩) 0 b)).alloc (Zk #[G H x.k,x.s,G H y.k,y.s,Zc C] 141)).alloc (Zk #[G H x.k,x.s,G H y.k,y.s,Zc C] 141)):=((a0.setCell (by simp;omega) _).alloc (by simp[Zj];omega) _).alloc (by simp[Zj];omega) _
   have d:=a3.alloc (by simp[Zj];omega) (Zk #[G H x.k,x.s,G H y.k,y.s,Zc C] 141);refine(HC.out _ _ (hx.below d) (hy.below d)).mono ?_;rintro e w5 ⟨rfl,c⟩;have z:bL w w5:=d.trans (c.mono (by simp[Zj];omega));have a4:cL w5 (w.heap.size+1+1) 0 (D (J ⟨g,0,C⟩) 0 b):=by refine L c (L ((((Y _ (w'.setCell ⟨w.heap.size+1+1,0,C⟩ (D (J ⟨g,0,C⟩) 0 b))).alloc (N _) _).alloc (by simp) _).alloc (by simp;omega) _) ?_);exact Zo _ _ _ l
   have a7:w5.frozen? ⟨w.heap.size+1+1,0,C⟩=Za:=by rw[c.frozen (p:=⟨w.heap.size+1+1,0,C⟩) (by simp[Zj];omega)];simp[frozen?_alloc_cells,j]
   clear c d a3 l j c0 c1 c2 c3 c4;cases r
   .go_wp2_with fail;go_ret;exact⟨rfl,z⟩
   .go_wp2_with fail;go_roundg 0
    case measure=>omega
    case rel=>exact⟨⟨a7,.inr ⟨rfl,rfl,_,_,a4⟩⟩,z⟩
  .go_wp2_with fail;refine(JU (w.heap.size+1+1) a 0 b _ l).mono ?_;rintro e w' ⟨rfl,rfl⟩;go_wp2_with fail;go_ret;exact⟨rfl,a0⟩
theorem OF(x y:Tr)(w:Ze)(q:x.In w)(l:y.In w)(o:x.hgt<=1000)(p:x.sm):
  Zl Zb 108 #[Zd #[G H x.k,D x.a x.l.length x.c],Zd #[G H y.k,D y.a y.l.length y.c]] w fun e w'=>e=O (.bool (YC Yk x.ty y.ty))/\Zi w.heap.size w w':=by
 obtain⟨r,g⟩:∃r,YC Yk x.ty y.ty=r:=⟨_,rfl⟩
 have k:Hid (∀(c:Option Zr)(w:Ze),x.In w->y.In w->Zl Zb 146 #[Zd x.v,Zd y.v,G H 1000,Zc c] w fun e w'=>e=O (.bool r)/\bL w w'):=by intro c w j d;have h:=AY 1000 (N _) x y c w j d o p;rw[g] at h;exact h
 rw[g];clear g;have u:Hid (∀(w:Ze),x.In w->y.In w->Zl Zb 44 #[.func (.func 146) #[] #[],Zd x.v,Zd y.v] w fun e w'=>e=O (.bool r)/\bL w w'):=fun w j d=>AO x y r w j d k;clear k;go_enter func108,ntmps108;go_wp2_with fail;have a:bL w ((w.alloc (Obj.cells x.v 24)).alloc (Obj.cells y.v 24)):=((Y _ _).alloc (N _) _).alloc (by simp) _;refine(u.out _ (q.below a) (l.below a)).mono ?_;rintro e z ⟨rfl,b⟩;have i:=a.trans (b.mono (by simp;omega));clear a b;go_wp2_with fail;go_ret;exact⟨rfl,i⟩
theorem Wh(R c:Nat)(b:c<=1000000)(w:Ze)(h:w.cell? ⟨R,0,C⟩=J (G H (c:Int)))(d:w.frozen? ⟨R,0,C⟩=Za):
  Zl Zb 64 #[Zc (J ⟨R,0,C⟩)] w fun e w'=>e=O (G H (c:Int))/\w'=w.setCell ⟨R,0,C⟩ (G H ((c+1:Nat):Int)):=by
 have a:IntKind.i64.wrap ((c:Int)+1)=((c+1:Nat):Int):=by
  have:((c+1:Nat):Int)=(c:Int)+1:=by omega
  rw[this];rw[IntKind.wrap_i64];omega
 go_enter func64,ntmps64;go_wp2_with fail;go_ret;exact⟨rfl,by first|rfl|rw[a]|(simp[a])⟩
theorem VR(t:Tr):t.right->Xl t.ty t.ty=t.ty:=by
 induction t using Tr.ind with
 |h k a c l ih=>
  intro h;rw[Tr.ty_mk,Ul,if_pos rfl];congr 1;rcases Tr.right_mk.1 h with⟨⟨rfl,_⟩|⟨d,_⟩,b⟩
  .rfl
  .match l,d,b,ih with
   |[x,y],_,b,ih=>simp[Jy,ih x (by simp) (b x (by simp)),ih y (by simp) (b y (by simp))]
theorem M3(x:Tr)(w:Ze)(k:x.In w)(j:x.right)(l:x.hgt<=1000):
  Zl Zb 42 #[Zd #[G H x.k,D x.a x.l.length x.c]] w fun e w'=>∃t:Tr,e=O (Zd #[G H t.k,D t.a t.l.length t.c])/\t.ty=x.ty/\t.In w'/\t.Bl (w.heap.size<=·)/\Zi w.heap.size w w':=by
 have c:bL w ((w.alloc (Obj.cells x.v 24)).alloc (Obj.cells #[G H 0,D C 0 0] 24)):=((Y _ _).alloc (N _) _).alloc (by simp) _;have hz:((w.alloc (Obj.cells x.v 24)).alloc (Obj.cells #[G H 0,D C 0 0] 24)).heap.size=w.heap.size+1+1:=by simp
 go_enter func42,ntmps42;go_wp2_with fail;refine(Ow x x _ (k.below c) (k.below c) j j l).mono ?_;rintro e g ⟨t,rfl,o,h,d,a⟩;rw[hz] at d a;have q:cL g (w.heap.size+1) 0 (G H 0):=(a.cell (p:=⟨w.heap.size+1,0,C⟩) (by simp)).trans (by simp[go_sem]);have u:cL g (w.heap.size+1) 1 (D C 0 0):=(a.cell (p:=⟨w.heap.size+1,1,C⟩) (by simp)).trans (by simp[go_sem]);have z:g.frozen? ⟨w.heap.size+1,0,C⟩=Za:=(a.frozen (p:=⟨w.heap.size+1,0,C⟩) (by simp)).trans (by simp[go_sem]);have f1:g.frozen? ⟨w.heap.size+1,1,C⟩=Za:=(a.frozen (p:=⟨w.heap.size+1,1,C⟩) (by simp)).trans (by simp[go_sem]);have i:=c.trans (a.mono (by omega));have y:Hid (∃t':Tr,Ending.returned (Zd t.v)=O (Zd t'.v)/\t'.ty=x.ty/\t'.In ((g.setCell ⟨w.heap.size+1,0,C⟩ (G H t.k)).setCell ⟨w.heap.size+1,1,C⟩ (t.s))/\t'.Bl (w.heap.size<=·)/\bL w ((g.setCell ⟨w.heap.size+1,0,C⟩ (G H t.k)).setCell ⟨w.heap.size+1,1,C⟩ (t.s))):=⟨t,rfl,o.trans (VR x j),XV (io:=0) h (d.mono fun b r=>by omega),d.mono fun b r=>by omega,(i.setCell (by simp) _).setCell (by simp) _⟩
 clear c a i o h d hz k j l;go_wp2_with fail;refine Zg (v:=Zd t.v) ?_ rfl y.out;simp[results,results42,go_sem,q,u]
def U8(Q:Nat->Prop)(w:Ze)(r:Option (Ty×List Ty))(e:Ending)(w':Ze):Prop:=
 Zi w.heap.size w w'/\((r=C/\e=O (Zn #[Zd #[G H 0,D C 0 0,D C 0 0],.bool Za]))\/
  ∃I U:Tr,r=J (I.ty,U.l.map Tr.ty)/\e=O (Zn #[Zd #[G H I.k,D I.a I.l.length I.c,D U.a U.l.length U.c],.bool Zh])/\I.In w'/\U.In w'/\I.Bl Q/\U.Bl Q)
def X2(t:Ty):Option (Ty×List Ty):=
 if t.k=0 then J (⟨0,[]⟩,[⟨3,[⟨0,[]⟩,⟨0,[]⟩]⟩,⟨0,[]⟩])
 else if t.k=3 then J (t.l.getD 1 ⟨0,[]⟩,[t,t.l.getD 0 ⟨0,[]⟩])
 else C
theorem NF(k:Int)(b:(k==0)=Za)(d:(k != 3)=Zh)(a:Option Zr)(m c:Nat)(w:Ze):
  Zl Zb 107 #[Zd #[G H k,D a m c]] w fun e w'=>e=O (Zn #[Zd #[G H 0,D C 0 0,D C 0 0],.bool Za])/\Zi w.heap.size w w':=by
 go_enter Zy,Zx;go_wp2_with fail;refine Zg (v:=Zn #[Zd #[G H 0,D C 0 0,D C 0 0],.bool Za]) (by simp[results,Zu,go_sem]) rfl ⟨rfl,?_⟩;repeat (first|exact Y _ _|refine Below.drew ?_|refine Below.setCell ?_ (by first|(simp;done)|(simp;omega)|omega) _|refine Below.alloc ?_ (by first|(simp;done)|(simp;omega)|omega) _)
theorem QW{B P:Nat}{W:Ze}{u v z u' v' z':Zw}{cs:Array Zw}(h:Zi B w W)(k:W.cell? ⟨P,0,C⟩=J u')(l:W.cell? ⟨P,1,C⟩=J v')(g:W.cell? ⟨P,2,C⟩=J z')(a:B<=P/\B<=W.heap.size):
  Hid (((((W.setCell ⟨P,0,C⟩ u).setCell ⟨P,1,C⟩ v).setCell ⟨P,2,C⟩ z).alloc (Zk cs 24)).cell? ⟨P,0,C⟩=J u/\((((W.setCell ⟨P,0,C⟩ u).setCell ⟨P,1,C⟩ v).setCell ⟨P,2,C⟩ z).alloc (Zk cs 24)).cell? ⟨P,1,C⟩=J v/\((((W.setCell ⟨P,0,C⟩ u).setCell ⟨P,1,C⟩ v).setCell ⟨P,2,C⟩ z).alloc (Zk cs 24)).cell? ⟨P,2,C⟩=J z/\
   (∀i,((((W.setCell ⟨P,0,C⟩ u).setCell ⟨P,1,C⟩ v).setCell ⟨P,2,C⟩ z).alloc (Zk cs 24)).cell? ⟨W.heap.size,i,C⟩=cs[i]?)/\Zi B w ((((W.setCell ⟨P,0,C⟩ u).setCell ⟨P,1,C⟩ v).setCell ⟨P,2,C⟩ z).alloc (Zk cs 24))):=by
 have hz:(((W.setCell ⟨P,0,C⟩ u).setCell ⟨P,1,C⟩ v).setCell ⟨P,2,C⟩ z).heap.size=W.heap.size:=by simp[Zj]
 have c:=Yp (j:=2) (v:=z) (Yp (j:=1) (v:=v) (Yp (j:=0) (v:=u) k));have d:=Yp (j:=2) (v:=z) (Yp (j:=1) (v:=v) (Yp (j:=0) (v:=u) l));have e:=Yp (j:=2) (v:=z) (Yp (j:=1) (v:=v) (Yp (j:=0) (v:=u) g));simp only[if_pos,if_false,Nat.reduceEqDiff,reduceCtorEq] at c d e;have b:Zi (((W.setCell ⟨P,0,C⟩ u).setCell ⟨P,1,C⟩ v).setCell ⟨P,2,C⟩ z).heap.size (((W.setCell ⟨P,0,C⟩ u).setCell ⟨P,1,C⟩ v).setCell ⟨P,2,C⟩ z) ((((W.setCell ⟨P,0,C⟩ u).setCell ⟨P,1,C⟩ v).setCell ⟨P,2,C⟩ z).alloc (Zk cs 24)):=(Y _ _).alloc (N _) _;refine⟨L b (by simpa using c),L b (by simpa using d),L b (by simpa using e),?_,(((h.setCell a.1 _).setCell a.1 _).setCell a.1 _).alloc (by rw[hz];exact a.2) _⟩;intro i;rw[<-hz];simp[go_sem]
theorem Oa(b o c:Nat)(x y:Tr)(w:Ze)(x0:w.cell? ⟨b,o,C⟩=J (G H x.k))(x1:w.cell? ⟨b,o+1,C⟩=J (D x.a x.l.length x.c))(y0:w.cell? ⟨b,o+2,C⟩=J (G H y.k))(y1:w.cell? ⟨b,o+3,C⟩=J (D y.a y.l.length y.c)):
  Zl Zb 107 #[Zd #[G H 3,D (J ⟨b,o,C⟩) 2 c]] w fun e w'=>∃g,w.heap.size<=g/\e=O (Zn #[Zd #[G H y.k,D y.a y.l.length y.c,D (J ⟨g,0,C⟩) 2 2],.bool Zh])/\
   w'.cell? ⟨g,0,C⟩=J (G H 3)/\w'.cell? ⟨g,1,C⟩=J (D (J ⟨b,o,C⟩) 2 c)/\w'.cell? ⟨g,2,C⟩=J (G H x.k)/\w'.cell? ⟨g,3,C⟩=J (D x.a x.l.length x.c)/\Zi w.heap.size w w':=by
 have lb:b<w.heap.size:=K _ _ x0;go_enter Zy,Zx;go_wp2_with fail;obtain⟨W0,a⟩:∃W0,W0=((w.alloc (Obj.cells #[G H 3,D (J ⟨b,o,C⟩) 2 c] 24)).alloc (Obj.cells #[G H 0,D C 0 0,D C 0 0] 119)):=⟨_,rfl⟩
 have j:W0.heap.size=w.heap.size+1+1:=by rw[a];simp
 have h:bL w W0:=by rw[a];exact((Y _ _).alloc (N _) _).alloc (by simp) _
 have r0:W0.cell? ⟨w.heap.size,0,C⟩=J (G H 3):=by rw[a];simp[go_sem]
 have r1:W0.cell? ⟨w.heap.size,1,C⟩=J (D (J ⟨b,o,C⟩) 2 c):=by rw[a];simp[go_sem]
 have r:W0.cell? ⟨w.heap.size+1,0,C⟩=J (G H 0):=by rw[a];simp[go_sem]
 have l:W0.cell? ⟨w.heap.size+1,1,C⟩=J (D C 0 0):=by rw[a];simp[go_sem]
 have q:W0.cell? ⟨w.heap.size+1,2,C⟩=J (D C 0 0):=by rw[a];simp[go_sem]
 have r5:∀i,W0.frozen? ⟨w.heap.size+1,i,C⟩=Za:=by intro i;rw[a];simp[go_sem]
 replace x0:=L h x0;replace x1:=L h x1;replace y0:=L h y0;replace y1:=L h y1;rw[<-a];clear a;have lW:b<W0.heap.size:=by omega
 have l0:w.heap.size<W0.heap.size:=by omega
 have l1:w.heap.size+1<W0.heap.size:=by omega
 have d:∀X,bL W0 (W0.alloc X):=fun X=>(Y _ _).alloc (N _) _;have v0:=fun X=>L (d X) y0;have v1:=fun X=>L (d X) y1;have v2:=fun X=>L (d X) r0;have v3:=fun X=>L (d X) r1;have v4:=fun X=>L (d X) r;have v5:=fun X=>L (d X) l;have v6:=fun X=>L (d X) q;have v7:∀X i,(W0.alloc X).frozen? ⟨w.heap.size+1,i,C⟩=Za:=fun X i=>((d X).frozen (p:=⟨w.heap.size+1,i,C⟩) (by omega)).trans (r5 i);clear d;have k:=QW (u:=G H y.k) (v:=y.s) (z:=D (J ⟨w.heap.size+1+1,0,C⟩) 2 2) (cs:=#[G H 3,D (J ⟨b,o,C⟩) 2 c,G H x.k,x.s]) h r l q (by omega);clear h;go_region
 all_goals
  clear v0 v1 v2 v3 v4 v5 v6 v7
  go_wp2_with fail
  refine Zg (v:=Zn #[Zd #[G H y.k,y.s,D (J ⟨w.heap.size+1+1,0,C⟩) 2 2],.bool Zh]) (by simp[results,Zu,go_sem,k.out.1,k.out.2.1,k.out.2.2.1]) rfl ⟨w.heap.size+1+1,by omega,rfl,?_,?_,?_,?_,?_⟩
  .have:=k.out.2.2.2.1 0;rw[j] at this;exact this
  .have:=k.out.2.2.2.1 1;rw[j] at this;exact this
  .have:=k.out.2.2.2.1 2;rw[j] at this;exact this
  .have:=k.out.2.2.2.1 3;rw[j] at this;exact this
  .exact k.out.2.2.2.2.drew
theorem NE(a:Option Zr)(m c:Nat)(w:Ze):
  Zl Zb 107 #[Zd #[G H 0,D a m c]] w fun e w'=>∃b g,w.heap.size<=b/\w.heap.size<=g/\e=O (Zn #[Zd #[G H 0,D C 0 0,D (J ⟨g,0,C⟩) 2 2],.bool Zh])/\
   w'.cell? ⟨b,0,C⟩=J (G H 0)/\w'.cell? ⟨b,1,C⟩=J (D C 0 0)/\w'.cell? ⟨b,2,C⟩=J (G H 0)/\w'.cell? ⟨b,3,C⟩=J (D C 0 0)/\
   w'.cell? ⟨g,0,C⟩=J (G H 3)/\w'.cell? ⟨g,1,C⟩=J (D (J ⟨b,0,C⟩) 2 2)/\w'.cell? ⟨g,2,C⟩=J (G H 0)/\w'.cell? ⟨g,3,C⟩=J (D C 0 0)/\Zi w.heap.size w w':=by
 have l:bL w ((w.alloc (Obj.cells #[G H 0,D a m c] 24)).alloc (Obj.cells #[G H 0,D C 0 0,D C 0 0] 119)):=((Y _ _).alloc (N _) _).alloc (by simp) _;have hz:((w.alloc (Obj.cells #[G H 0,D a m c] 24)).alloc (Obj.cells #[G H 0,D C 0 0,D C 0 0] 119)).heap.size=w.heap.size+1+1:=by simp
 go_enter Zy,Zx;go_wp2_with fail;refine(QQ 0 0 C C 0 0 0 0 _).mono ?_;rintro e k ⟨b,hg,rfl,y,d1,r,x,h⟩;rw[hz] at hg h;have q0:cL k w.heap.size 0 (G H 0):=(h.cell (p:=⟨w.heap.size,0,C⟩) (by simp;omega)).trans (by simp[go_sem]);have q1:cL k w.heap.size 1 (D a m c):=(h.cell (p:=⟨w.heap.size,1,C⟩) (by simp;omega)).trans (by simp[go_sem]);have qf:∀i,k.frozen? ⟨w.heap.size,i,C⟩=Za:=fun i=>(h.frozen (p:=⟨w.heap.size,i,C⟩) (by simp;omega)).trans (by simp[go_sem]);have a3:=qf 0;have a4:=qf 1;have p0:cL k (w.heap.size+1) 0 (G H 0):=(h.cell (p:=⟨w.heap.size+1,0,C⟩) (by simp)).trans (by simp[go_sem]);have p1:cL k (w.heap.size+1) 1 (D C 0 0):=(h.cell (p:=⟨w.heap.size+1,1,C⟩) (by simp)).trans (by simp[go_sem]);have p2:cL k (w.heap.size+1) 2 (D C 0 0):=(h.cell (p:=⟨w.heap.size+1,2,C⟩) (by simp)).trans (by simp[go_sem]);have p3:∀i,k.frozen? ⟨w.heap.size+1,i,C⟩=Za:=fun i=>(h.frozen (p:=⟨w.heap.size+1,i,C⟩) (by simp)).trans (by simp[go_sem]);have q:=l.trans (h.mono (by omega));have a2:b<k.heap.size:=K _ _ y;have a1:w.heap.size+1<k.heap.size:=K _ _ p0;clear l h hz;have nb:b≠w.heap.size:=by omega
 have n1:w.heap.size+1≠w.heap.size:=by omega
 obtain⟨W0,d⟩:∃W0,W0=((k.setCell ⟨w.heap.size,0,C⟩ (G H 3)).setCell ⟨w.heap.size,1,C⟩ (D (J ⟨b,0,C⟩) 2 2)):=⟨_,rfl⟩
 have a0:W0.heap.size=k.heap.size:=by rw[d];simp[Zj]
 have l:bL w W0:=by rw[d];exact(q.setCell (by simp) _).setCell (by simp) _
 have r0:cL W0 w.heap.size 0 (G H 3):=by rw[d];exact(XC q0 q1).1
 have r1:cL W0 w.heap.size 1 (D (J ⟨b,0,C⟩) 2 2):=by rw[d];exact(XC q0 q1).2
 have r2:W0.cell? ⟨w.heap.size+1,0,C⟩=J (G H 0):=by rw[d];simp[go_sem,p0]
 have r3:W0.cell? ⟨w.heap.size+1,1,C⟩=J (D C 0 0):=by rw[d];simp[go_sem,p1]
 have r4:W0.cell? ⟨w.heap.size+1,2,C⟩=J (D C 0 0):=by rw[d];simp[go_sem,p2]
 have r5:∀i,W0.frozen? ⟨w.heap.size+1,i,C⟩=Za:=by intro i;rw[d];simp[go_sem,p3 i]
 replace y:W0.cell? ⟨b,0,C⟩=J (G H 0):=by rw[d];simp[go_sem,y]
 replace d1:W0.cell? ⟨b,1,C⟩=J (D C 0 0):=by rw[d];simp[go_sem,d1]
 replace r:W0.cell? ⟨b,2,C⟩=J (G H 0):=by rw[d];simp[go_sem,r]
 replace x:W0.cell? ⟨b,3,C⟩=J (D C 0 0):=by rw[d];simp[go_sem,x]
 clear p0 p1 p2 p3;go_wp2_with fail;rw[<-d];clear d q0 q1 qf a3 a4 q;have lW:b<W0.heap.size:=by omega
 have l0:w.heap.size<W0.heap.size:=by omega
 have l1:w.heap.size+1<W0.heap.size:=by omega
 have j:∀X,bL W0 (W0.alloc X):=fun X=>(Y _ _).alloc (N _) _;have v0:=fun X=>L (j X) r;have v1:=fun X=>L (j X) x;have v2:=fun X=>L (j X) r0;have v3:=fun X=>L (j X) r1;have v4:=fun X=>L (j X) r2;have v5:=fun X=>L (j X) r3;have v6:=fun X=>L (j X) r4;have v7:∀X i,(W0.alloc X).frozen? ⟨w.heap.size+1,i,C⟩=Za:=fun X i=>((j X).frozen (p:=⟨w.heap.size+1,i,C⟩) (by omega)).trans (r5 i);clear j;have o:=QW (u:=G H 0) (v:=D C 0 0) (z:=D (J ⟨W0.heap.size,0,C⟩) 2 2) (cs:=#[G H 3,D (J ⟨b,0,C⟩) 2 2,G H 0,D C 0 0]) l r2 r3 r4 (by omega);have HD:Hid (∀i v,cL W0 b i v->cL ((((W0.setCell ⟨w.heap.size+1,0,C⟩ (G H 0)).setCell ⟨w.heap.size+1,1,C⟩ (D C 0 0)).setCell ⟨w.heap.size+1,2,C⟩ (D (J ⟨W0.heap.size,0,C⟩) 2 2)).alloc (Zk #[G H 3,D (J ⟨b,0,C⟩) 2 2,G H 0,D C 0 0] 24)) b i v):=by intro i v hv;refine L ((Y _ _).alloc (N _) _) ?_;rw[Zf _ _ _ _ (by simp),Zf _ _ _ _ (by simp),Zf _ _ _ _ (by simp)];exact hv
 have HN:Hid (w.heap.size<=b/\w.heap.size<=W0.heap.size):=⟨by omega,by omega⟩
 clear l nb n1 a0 a1 a2 hg;go_region
 all_goals
  clear v0 v1 v2 v3 v4 v5 v6 v7
  go_wp2_with fail
  refine Zg (v:=Zn #[Zd #[G H 0,D C 0 0,D (J ⟨W0.heap.size,0,C⟩) 2 2],.bool Zh]) (by simp[results,Zu,go_sem,o.out.1,o.out.2.1,o.out.2.2.1]) rfl ⟨b,W0.heap.size,HN.out.1,HN.out.2,rfl,HD.out 0 _ y,HD.out 1 _ d1,HD.out 2 _ r,HD.out 3 _ x,o.out.2.2.2.1 0,o.out.2.2.2.1 1,o.out.2.2.2.1 2,o.out.2.2.2.1 3,o.out.2.2.2.2.drew⟩
structure Xj(s:St)(ts:List Xx)(vs:List YK)(F:Nat)(r:Xy)(V:YK)(c':Nat):Prop where
 ok:r.k=0->NO s ⟨ts,V::vs,c',F,Yl⟩
 bad:r.k≠0->NI s r
theorem Xj.of{s t:St}(h:NO s t)(g:Xj t ts vs F r V c'):Xj s ts vs F r V c':=⟨fun h0=>h.trans (g.ok h0),fun h0=>NI.of h (g.bad h0)⟩
theorem Xj.step{s:St}(g:Xj (UJ s) ts vs F r V c'):Xj s ts vs F r V c':=⟨fun h0=>(g.ok h0).step,fun h0=>(g.bad h0).step⟩
theorem Xj.eqs{s t:St}(h:K9 s t)(g:Xj t ts vs F r V c'):Xj s ts vs F r V c':=Xj.of ⟨0,h⟩ g
theorem Xj.to{s:St}(g:Xj s ts vs F r V c')(h:US V V'):Xj s ts vs F r V' c':=⟨fun h0=>(g.ok h0).to ⟨rfl,Uc h rfl,rfl,rfl,rfl⟩,g.bad⟩
theorem Xj.stop{s:St}(h:s.ended=r)(hr:r.k≠0):Xj s ts vs F r V c':=⟨fun h0=>absurd h0 hr,fun _=>NI.now h hr⟩
theorem Xj.done:Xj ⟨ts,V::vs,c',F,Yl⟩ ts vs F Yl V c':=⟨fun _=>NO.refl _,fun h=>absurd rfl h⟩
def Kh(F:Nat)(x:Tm)(E:List YK)(c:Nat)(r:Xy)(V:YK)(c':Nat):Prop:=∀ts vs,Xj ⟨YY x E::ts,vs,c,F,Yl⟩ ts vs F r V c'
def QF(F:Nat)(f g:YK)(c:Nat)(r:Xy)(V:YK)(c':Nat):Prop:=∀ts vs,Xj (UB ⟨ts,vs,c,F,Yl⟩ f g) ts vs F r V c'
theorem Kh.congr{E':List YK}(h:Kh F x E c r V c')(he:LV E' E)(hv:US V V'):Kh F x E' c r V' c':=fun ts vs=>by
 have hS:K9 ⟨YY x E'::ts,vs,c,F,Yl⟩ ⟨YY x E::ts,vs,c,F,Yl⟩:=⟨JT (Mi he (UQ.refl _)) rfl,rfl,rfl,rfl,rfl⟩
 exact((h ts vs).eqs hS).to hv
theorem QF.congr{f f' g':YK}(h:QF F f g c r V c')(hf:US f' f)(hg:US g' g)(hv:US V V'):QF F f' g' c r V' c':=fun ts vs=>((h ts vs).eqs (OW (K9.refl _) hf hg)).to hv
theorem XD(x:Tm)(E:List YK)(ts:List Xx)(vs:List YK)(c F:Nat):UJ ⟨YY x E::ts,vs,c,F,Yl⟩=YW ⟨ts,vs,c,F,Yl⟩ x E:=rfl
theorem CN{v:YK}(hk:x.k=1)(h:E[x.n.toNat]?=J v):Kh F x E c Yl v c:=fun ts vs=>by refine Xj.step ?_;rw[XD,YW,if_pos hk,h];exact Xj.done
theorem Tp(hk:x.k=1)(h:E[x.n.toNat]?=C):Kh F x E c Yu V c:=fun ts vs=>by refine Xj.step ?_;rw[XD,YW,if_pos hk,h];exact Xj.stop rfl (by decide)
theorem CO(hk:x.k=2):Kh F x E c Yl (XF x.n) c:=fun ts vs=>by refine Xj.step ?_;rw[XD,YW,if_neg (by omega),if_pos hk];exact Xj.done
theorem Bd(hk:x.k=3):Kh F x E c Yl (Xk x.n) c:=fun ts vs=>by refine Xj.step ?_;rw[XD,YW,if_neg (by omega),if_neg (by omega),if_pos hk];exact Xj.done
theorem CQ(hk:x.k=7):Kh F x E c Yl (ME (x.at 0) E) c:=fun ts vs=>by refine Xj.step ?_;rw[XD,YW,if_neg (by omega),if_neg (by omega),if_neg (by omega),if_pos hk];exact Xj.done
theorem Dj(hk:x.k=9)(h:Kh F (x.at 0) E c r V c'):Kh F x E c r V c':=fun ts vs=>by refine Xj.step ?_;rw[XD,YW,if_neg (by omega),if_neg (by omega),if_neg (by omega),if_neg (by omega),if_pos hk];exact h ts vs
theorem RP(hk:x.k=10)(h:Kh F (x.at 0) E c r V c')(hr:r.k≠0):Kh F x E c r V' c':=fun ts vs=>by refine Xj.step ?_;rw[XD,YW,if_neg (by omega),if_neg (by omega),if_neg (by omega),if_neg (by omega),if_neg (by omega),if_pos hk];exact⟨fun h0=>absurd h0 hr,fun _=>(h (Xc (YZ 100 x.f x.t (Kq x.n))::ts) vs).bad hr⟩
theorem R0(co:Option Ca)(ts:List Xx)(v:YK)(vs:List YK)(c F:Nat):UJ ⟨Xc co::ts,v::vs,c,F,Yl⟩=Xu ⟨ts,vs,c,F,Yl⟩ co v:=rfl
theorem Lz{co:Option Ca}{v:YK}(a:∀d,co=J d->d.opens=Zh->d.wrong.k≠0):Xj ⟨Xc co::ts,v::vs,c,F,Yl⟩ ts vs F (Xd co v).1 (Xd co v).2 c:=by
 refine Xj.step ?_;rw[R0,Nv a];by_cases h:(Xd co v).1.k=0
 .rw[if_pos h];exact⟨fun _=>NO.refl _,fun b=>absurd h b⟩
 .rw[if_neg h];exact Xj.stop rfl h
theorem Cg(hk:x.k=10)(h:Kh F (x.at 0) E c r V c')(hr:r.k=0):Kh F x E c (Xd (YZ 100 x.f x.t (Kq x.n)) V).1 (Xd (YZ 100 x.f x.t (Kq x.n)) V).2 c':=fun ts vs=>by refine Xj.step ?_;rw[XD,YW,if_neg (by omega),if_neg (by omega),if_neg (by omega),if_neg (by omega),if_neg (by omega),if_pos hk];refine Xj.of ((h (Xc (YZ 100 x.f x.t (Kq x.n))::ts) vs).ok hr) (Lz fun d hd ho=>?_);have:=LN 100 x.f x.t (Kq x.n) rfl d hd;rw[this.opens ho];omega
theorem T5(x:Tm)(E:List YK)(ts:List Xx)(v:YK)(vs:List YK)(c F:Nat):UJ ⟨U5 x E::ts,v::vs,c,F,Yl⟩=if v.k=2 then (St.plan ⟨ts,vs,c,F,Yl⟩ (YY (x.at (if v.n=1 then 1 else 2)) E)) else St.stop ⟨ts,vs,c,F,Yl⟩ Yu:=rfl
theorem Wa(hk:x.k=6)(h:Kh F (x.at 0) E c r V c')(hr:r.k≠0):Kh F x E c r V' c':=fun ts vs=>by refine Xj.step ?_;rw[XD,YW,if_neg (by omega),if_neg (by omega),if_neg (by omega),if_neg (by omega),if_neg (by omega),if_neg (by omega),if_pos hk];exact⟨fun h0=>absurd h0 hr,fun _=>(h (U5 x E::ts) vs).bad hr⟩
theorem RO(hk:x.k=6)(h:Kh F (x.at 0) E c r V c')(hr:r.k=0)(hv:V.k≠2):Kh F x E c Yu V' c':=fun ts vs=>by refine Xj.step ?_;rw[XD,YW,if_neg (by omega),if_neg (by omega),if_neg (by omega),if_neg (by omega),if_neg (by omega),if_neg (by omega),if_pos hk];refine Xj.of ((h (U5 x E::ts) vs).ok hr) (Xj.step ?_);rw[T5,if_neg hv];exact Xj.stop rfl (by decide)
theorem Cz(hk:x.k=6)(h:Kh F (x.at 0) E c r V c')(hr:r.k=0)(hv:V.k=2)(h2:Kh F (x.at (if V.n=1 then 1 else 2)) E c' r2 V2 c2):Kh F x E c r2 V2 c2:=fun ts vs=>by refine Xj.step ?_;rw[XD,YW,if_neg (by omega),if_neg (by omega),if_neg (by omega),if_neg (by omega),if_neg (by omega),if_neg (by omega),if_pos hk];refine Xj.of ((h (U5 x E::ts) vs).ok hr) (Xj.step ?_);rw[T5,if_pos hv];exact h2 ts vs
def NZ(k:Int):Int:=if k=4 then 2 else if k=5 then 3 else 5
theorem M1{s:St}(a:x.k=4\/x.k=5\/x.k=8):YW s x E=Je s x E (NZ x.k):=by unfold YW NZ;rcases a with h|h|h<;>rw[h]<;>rfl
theorem Bf(hk:x.k=4\/x.k=5\/x.k=8)(h:Kh F (x.at 0) E c r V c')(hr:r.k≠0):Kh F x E c r V' c':=fun ts vs=>by refine Xj.step ?_;rw[XD,M1 hk];exact⟨fun h0=>absurd h0 hr,fun _=>(h (YY (x.at 1) E::Pd (NZ x.k)::ts) vs).bad hr⟩
theorem Be(hk:x.k=4\/x.k=5\/x.k=8)(h:Kh F (x.at 0) E c r V c')(hr:r.k=0)(h2:Kh F (x.at 1) E c' r2 V2 c2)(hr2:r2.k≠0):Kh F x E c r2 V' c2:=fun ts vs=>by refine Xj.step ?_;rw[XD,M1 hk];refine Xj.of ((h (YY (x.at 1) E::Pd (NZ x.k)::ts) vs).ok hr) ?_;exact⟨fun h0=>absurd h0 hr2,fun _=>(h2 (Pd (NZ x.k)::ts) (V::vs)).bad hr2⟩
theorem Ml(e:x.k=4\/x.k=5\/x.k=8)(h:Kh F (x.at 0) E c r V c')(d:r.k=0)(b:Kh F (x.at 1) E c' r2 V2 c2)(a:r2.k=0)(ts:List Xx)(vs:List YK):NO ⟨YY x E::ts,vs,c,F,Yl⟩ ⟨Pd (NZ x.k)::ts,V2::V::vs,c2,F,Yl⟩:=by refine NO.step ?_;rw[XD,M1 e];exact((h (YY (x.at 1) E::Pd (NZ x.k)::ts) vs).ok d).trans ((b (Pd (NZ x.k)::ts) (V::vs)).ok a)
theorem Bh(b:x.k=4)(h:Kh F (x.at 0) E c r V c')(g:r.k=0)(d:Kh F (x.at 1) E c' r2 V2 c2)(a:r2.k=0):Kh F x E c (if V.k=1/\V2.k=1 then Yl else Yu) (XF (U4 (V.n+V2.n))) c2:=fun ts vs=>by
 refine Xj.of (Ml (.inl b) h g d a ts vs) (Xj.step ?_);have e:NZ x.k=2:=by rw[b];rfl
 rw[e];show Xj ⟨ts,XF (U4 (V.n+V2.n))::vs,c2,F,if V.k=1/\V2.k=1 then Yl else Yu⟩ ts vs F _ _ c2
 split
 .exact Xj.done
 .exact Xj.stop rfl (by decide)
theorem Vb(b:x.k=5)(h:Kh F (x.at 0) E c r V c')(g:r.k=0)(d:Kh F (x.at 1) E c' r2 V2 c2)(a:r2.k=0):Kh F x E c (if V.k=1/\V2.k=1 then Yl else Yu) (Xk (if V.n<V2.n then 1 else 0)) c2:=fun ts vs=>by
 refine Xj.of (Ml (.inr (.inl b)) h g d a ts vs) (Xj.step ?_);have e:NZ x.k=3:=by rw[b];rfl
 rw[e];show Xj ⟨ts,Xk (if V.n<V2.n then 1 else 0)::vs,c2,F,if V.k=1/\V2.k=1 then Yl else Yu⟩ ts vs F _ _ c2
 by_cases hh:V.k=1/\V2.k=1
 .rw[if_pos hh];exact Xj.done
 .rw[if_neg hh];exact Xj.stop rfl (by decide)
theorem Vd{r3:Xy}{V3:YK}{c3:Nat}(b:x.k=8)(h:Kh F (x.at 0) E c r V c')(i:r.k=0)(g:Kh F (x.at 1) E c' r2 V2 c2)(a:r2.k=0)(d:QF F V V2 c2 r3 V3 c3):Kh F x E c r3 V3 c3:=fun ts vs=>by
 refine Xj.of (Ml (.inr (.inr b)) h i g a ts vs) (Xj.step ?_);have e:NZ x.k=5:=by rw[b];rfl
 rw[e];exact d ts vs
theorem CZ{f:YK}(h3:f.k≠3)(h4:f.k≠4):QF F f g c Yu V c:=fun ts vs=>by unfold UB;rw[if_neg h3,if_neg h4];exact Xj.stop rfl (by decide)
theorem Co{f:YK}(h3:f.k=3)(hc:c=F):QF F f g c MF V c:=fun ts vs=>by unfold UB J2;rw[if_pos h3,if_pos hc];exact Xj.stop rfl (by decide)
theorem Sf{f:YK}(h3:f.k=3)(hc:c≠F)(h:Kh F f.body (g::f.env) (c+1) r V c'):QF F f g c r V c':=fun ts vs=>by unfold UB J2;rw[if_pos h3,if_neg hc];exact h ts vs
theorem MT{d:Ca}{S T:Ty}(h:UE (J d) S T)(b:d.opens=Zh):d.wrong.k=4:=by
 obtain⟨o,w,k,e,g,a,l⟩:=d;obtain⟨_,_,_,j,_⟩:=Y8.1 h;rcases j with⟨_,_,_,i⟩|⟨c,_⟩
 .exact i
 .simp only at b;rw[c] at b;cases b
def Vj(F:Nat)(f g:YK)(B:Ty)(c:Nat)(r:Xy)(V:YK)(c':Nat):Prop:=
 (f.k=3/\QF F f g c r V c'/\(r.k=0->Ur V B))\/
 (f.k=4/\f.core.k=3/\(∃A A0,UE f.given A A0)/\(∃B1,UE f.answer B1 B)/\(((Xd f.given g).1.k≠0/\r=(Xd f.given g).1/\c'=c)\/((Xd f.given g).1.k=0/\∃(B0:Ty)(r1:Xy)(U:YK),UE f.answer B0 B/\QF F f.core (Xd f.given g).2 c r1 U c'/\(r1.k=0->Ur U B0)/\((r1.k≠0/\r=r1)\/(r1.k=0/\r=(Xd f.answer U).1/\(r.k=0->US V (Xd f.answer U).2))))))
theorem SB(ts:List Xx)(vs:List YK)(f g:YK)(c:Nat):UJ ⟨Pd 7::ts,g::f::vs,c,F,Yl⟩=UB ⟨ts,vs,c,F,Yl⟩ f g:=rfl
theorem Dm{f:YK}{B:Ty}(h:Vj F f g B c r V c'):QF F f g c r V c':=by
 rcases h with⟨_,h,_⟩|⟨w,_,⟨_,_,j⟩,⟨_,l⟩,h⟩
 .exact h
 .intro ts vs;have u:∀d,f.given=J d->d.opens=Zh->d.wrong.k≠0:=fun d hd i=>by rw[hd] at j;rw[MT j i];omega
  have y:∀d,f.answer=J d->d.opens=Zh->d.wrong.k≠0:=fun d hd i=>by rw[hd] at l;rw[MT l i];omega
  unfold UB;rw[if_neg (by omega),if_pos w];show Xj ⟨Xc f.given::Pd 7::Xc f.answer::ts,g::f.core::vs,c,F,Yl⟩ ts vs F r V c'
  have k:=Lz (co:=f.given) (v:=g) (ts:=Pd 7::Xc f.answer::ts) (vs:=f.core::vs) (c:=c) (F:=F) u;rcases h with⟨e,rfl,rfl⟩|⟨e,z,r1,U,_,p,_,q⟩
  .exact⟨fun a=>absurd a e,fun _=>k.bad e⟩
  .refine Xj.of (k.ok e) (Xj.step ?_);rw[SB];rcases q with⟨b,rfl⟩|⟨b,rfl,x⟩
   .exact⟨fun a=>absurd a b,fun _=>(p (Xc f.answer::ts) vs).bad b⟩
   .refine Xj.of ((p (Xc f.answer::ts) vs).ok b) ?_;have o:=Lz (co:=f.answer) (v:=U) (ts:=ts) (vs:=vs) (c:=c') (F:=F) y;exact⟨fun a=>(o.ok a).to ⟨rfl,Uc (x a).symm rfl,rfl,rfl,rfl⟩,o.bad⟩
theorem Xn{n:Nat}{f:Ty}(h:Ym (n+1) f=Zh):Ym (n+1) (Ys f)=Zh:=by
 rcases Yy h with⟨k,rfl,b⟩|⟨x,y,rfl,a,c⟩
 .unfold Ys;rw[if_neg (by simp only;omega)];exact h
 .unfold Ys;rw[if_pos rfl];cases n with
  |zero=>simp[Ym] at a
  |succ n=>simp[Ym,Yn]
theorem XY(f:Ty):(Ys f).k=f.k:=by
 unfold Ys;split
 .rename_i h;exact h.symm
 .rfl
theorem KD:∀(m m' n:Nat)(f t:Ty)(o:Xy),Ym n f=Zh->Ym n t=Zh->2*n+(if f.k=0\/t.k=0 then 1 else 0)<=m->2*n+(if f.k=0\/t.k=0 then 1 else 0)<=m'->YZ m f t o=YZ m' f t o
 |_,_,0,f,t,o,hf,_,_,_=>by simp[Ym] at hf
 |0,_,n+1,f,t,o,_,_,h,_=>by omega
 |_+1,0,n+1,f,t,o,_,_,_,h=>by omega
 |m+1,m'+1,n+1,f,t,o,hf,ht,h,h'=>by
  rw[YZ,YZ];by_cases hs:YC Yv f t=Zh
  .rw[if_pos hs,if_pos hs]
  rw[if_neg hs,if_neg hs];have hne:f≠t:=fun e=>hs (by rw[e];exact JP t);by_cases h3:f.k=3/\t.k=3
  .rw[if_pos h3,if_pos h3];rcases Yy hf with⟨k,rfl,hk⟩|⟨f1,f2,rfl,gf1,gf2⟩
   .have:=h3.1;simp only at this;omega
   rcases Yy ht with⟨k,rfl,hk⟩|⟨t1,t2,rfl,gt1,gt2⟩
   .have:=h3.2;simp only at this;omega
   have b:2*n+1<=m:=by omega
   have g:2*n+1<=m':=by omega
   have a:YZ m t1 f1 (J9 o)=YZ m' t1 f1 (J9 o):=KD m m' n t1 f1 _ gt1 gf1 (by split<;>omega) (by split<;>omega);have d:YZ m f2 t2 o=YZ m' f2 t2 o:=KD m m' n f2 t2 _ gf2 gt2 (by split<;>omega) (by split<;>omega);show J (Ca.mk Za Yl 3 Yl (YZ m t1 f1 (J9 o)) (YZ m f2 t2 o) Za)=J (Ca.mk Za Yl 3 Yl (YZ m' t1 f1 (J9 o)) (YZ m' f2 t2 o) Za)
   rw[a,d]
  rw[if_neg h3,if_neg h3];by_cases h0:t.k=0
  .rw[if_pos h0,if_pos h0];have c:f.k≠0:=fun e=>by
    rcases Yy hf with⟨k,rfl,hk⟩|⟨f1,f2,rfl,gf1,gf2⟩
    .rcases Yy ht with⟨k',rfl,hk'⟩|⟨t1,t2,rfl,gt1,gt2⟩
     .simp only at e h0;subst e h0;exact hne rfl
     .cases h0
    .cases e
   rw[if_pos (.inr h0)] at h h';have e:YZ m f (Ys f) o=YZ m' f (Ys f) o:=KD m m' (n+1) f (Ys f) o hf (Xn hf) (by rw[XY,if_neg (by omega)];omega) (by rw[XY,if_neg (by omega)];omega);simp only;rw[e]
  rw[if_neg h0,if_neg h0];by_cases h1:f.k=0
  .rw[if_pos h1,if_pos h1];rw[if_pos (.inl h1)] at h h';have e:YZ m (Ys t) t o=YZ m' (Ys t) t o:=KD m m' (n+1) (Ys t) t o (Xn ht) ht (by rw[XY,if_neg (by omega)];omega) (by rw[XY,if_neg (by omega)];omega);simp only;rw[e]
  rw[if_neg h1,if_neg h1]
def Yq(f t:Ty)(o:Xy):Option Ca:=YZ 100 f t o
theorem LW{n:Nat}{f t:Ty}(hf:Ym n f=Zh)(ht:Ym n t=Zh)(hn:n<=49):YZ 99 f t o=Yq f t o:=KD 99 100 n f t o hf ht (by split<;>omega) (by split<;>omega)
theorem Ny{f t:Ty}(h:YC Yv f t=Zh):Yq f t o=C:=by unfold Yq;rw[YZ,if_pos h]
theorem OV{n:Nat}(d:Ym n f0=Zh)(c:Ym n f1=Zh)(a:Ym n t0=Zh)(b:Ym n t1=Zh)(e:n<=49)(h:YC Yv (YN f0 f1) (YN t0 t1)≠Zh):Yq (YN f0 f1) (YN t0 t1) o=J ⟨Za,Yl,3,Yl,Yq t0 f0 (J9 o),Yq f1 t1 o,Za⟩:=by rw[<-LW a d e,<-LW c b e];unfold Yq;rw[YZ,if_neg h,if_pos ⟨rfl,rfl⟩];rfl
theorem R4{n:Nat}{f t:Ty}(j:Ym (n+1) f=Zh)(q:Ym (n+1) t=Zh)(r:n<=49)(b:f.k=t.k):Yq f t o=C\/(f.k=3/\∃g a,Yq f t o=J ⟨Za,Yl,3,Yl,g,a,Za⟩):=by
 by_cases h:YC Yv f t=Zh
 .exact .inl (Ny h)
 rcases Yy j with⟨k,rfl,l⟩|⟨y,u,rfl,e,d⟩<;>rcases Yy q with⟨x,rfl,p⟩|⟨z,w,rfl,c,i⟩
 .simp only at b;subst b;exact absurd (JP _) h
 .simp only at b;omega
 .simp only at b;omega
 .exact .inr ⟨rfl,_,_,OV e d c i r h⟩
theorem Bo{f t:Ty}(h:YC Yv f t=Zh):Xd (Yq f t o) V=(Yl,V):=by rw[Ny h];rfl
theorem RZ{g:Option Ca}:Xd (J ⟨Za,Yl,3,Yl,g,a,Za⟩) V=(Yl,Y2 V g a):=by rw[XP];simp only;rw[if_neg (fun h=>by cases h.1),if_neg (fun h=>by cases h.1),if_neg (fun h=>h rfl),Jx];simp
theorem Ly{n:Nat}{f t:Ty}(b:Ym (n+1) f=Zh)(d:Ym (n+1) t=Zh)(i:n<=49)(c:f.k=t.k):(Xd (Yq f t o) V).1=Yl/\(Xd (Yq f t o) V).2=Y2 V (YU (Yq f t o) f.k).given (YU (Yq f t o) f.k).answer/\(YU (Yq f t o) f.k).opens=Za/\(YU (Yq f t o) f.k).kind=f.k/\(YU (Yq f t o) f.k).ends=Yl/\(YU (Yq f t o) f.k).hides=Za/\(YU (Yq f t o) f.k).wrong=Yl:=by
 rcases R4 (o:=o) b d i c with h|⟨e,g,a,h⟩
 .rw[h];refine⟨rfl,?_,rfl,rfl,rfl,rfl,rfl⟩;show V=Y2 V C C
  unfold Y2;rw[if_neg (by simp)]
 .rw[h,RZ];exact⟨rfl,rfl,rfl,e.symm,rfl,rfl,rfl⟩
theorem Bq{n:Nat}{f:Ty}(a:Ym (n+1) f=Zh)(l:n<=48)(b:f.k≠0):Xd (Yq f Yn o) V=(Yl,XO (Xd (Yq f (Ys f) o) V).2 f.k):=by
 obtain⟨_,c,j,d,i,k,g⟩:=Ly (o:=o) (V:=V) a (Xn a) (by omega) (XY f).symm;rw[c];have e:Yq f Yn o=J ⟨(YU (Yq f (Ys f) o) f.k).opens,(YU (Yq f (Ys f) o) f.k).wrong,(YU (Yq f (Ys f) o) f.k).kind,(YU (Yq f (Ys f) o) f.k).ends,(YU (Yq f (Ys f) o) f.k).given,(YU (Yq f (Ys f) o) f.k).answer,Zh⟩:=by rw[<-LW a (Xn a) (by omega)];unfold Yq;rw[YZ,if_neg,if_neg (fun h=>by cases h.2),if_pos (show Yn.k=0 from rfl)];intro h;have:=KZ _ _ h;rw[this] at b;exact b rfl
 rw[e,j,d,i,g,XP];simp only;rw[if_neg (fun h=>by cases h.1),if_neg (fun h=>by cases h.1),if_neg (fun h=>h rfl),Jx];simp
theorem Bp{n:Nat}{t:Ty}{s:Int}(a:Ym (n+1) t=Zh)(l:n<=48)(b:t.k≠0):Xd (Yq Yn t o) (XO U s)=if s≠t.k then (o,XO U s) else (Yl,(Xd (Yq (Ys t) t o) U).2):=by
 obtain⟨_,i,k,d,g,c,j⟩:=Ly (o:=o) (V:=U) (Xn a) a (by omega) (XY t);rw[i];rw[XY] at k d g c j;rw[XY];have e:Yq Yn t o=J ⟨Zh,o,(YU (Yq (Ys t) t o) t.k).kind,(YU (Yq (Ys t) t o) t.k).ends,(YU (Yq (Ys t) t o) t.k).given,(YU (Yq (Ys t) t o) t.k).answer,(YU (Yq (Ys t) t o) t.k).hides⟩:=by rw[<-LW (Xn a) a (by omega)];unfold Yq;rw[YZ,if_neg,if_neg (fun h=>by cases h.1),if_neg b,if_pos (show Yn.k=0 from rfl)];intro h;have:=KZ _ _ h;rw[<-this] at b;exact b rfl
 rw[e,d,g,c,XP];simp only;rw[if_neg (fun h=>h.2 rfl)];by_cases hs:s≠t.k
 .rw[if_pos hs,if_pos ⟨by trivial,hs⟩]
 .rw[if_neg hs,if_neg (fun h=>hs h.2),if_neg (fun h=>h rfl),Jx];simp[YK.core,XO]
theorem Tz{c:Option Ca}{v:YK}{S T:Ty}(g:UE c S T)(j:Ur v S):((Xd c v).1.k=0->Ur (Xd c v).2 T)/\((Xd c v).1.k=0\/(Xd c v).1.k=4):=by
 have i:∀d,c=J d->d.opens=Zh->d.wrong.k≠0:=fun d hd b=>by rw[hd] at g;rw[MT g b];omega
 have a:=Nv (s:=⟨[],[],0,0,Yl⟩) (v:=v) i;rcases Wk (s:=⟨[],[],0,0,Yl⟩) g j with⟨u,hu,tu⟩|⟨o,b,e⟩
 .rw[hu] at a;by_cases h0:(Xd c v).1.k=0
  .rw[if_pos h0] at a;have:u=(Xd c v).2:=by have:=congrArg St.vs a;simpa[St.push] using this
   exact⟨fun _=>this▸tu,.inl h0⟩
  .rw[if_neg h0] at a;have:=congrArg St.ended a;exact absurd (show (Xd c v).1.k=0 by rw[<-show Yl=(Xd c v).1 from this];rfl) h0
 .rw[b] at a;by_cases h0:(Xd c v).1.k=0
  .rw[if_pos h0] at a;have:=congrArg St.ended a;have k:o=Yl:=this;rw[k] at e;cases e
  .rw[if_neg h0] at a;have:o=(Xd c v).1:=congrArg St.ended a;exact⟨fun h=>absurd h h0,.inr (this▸e)⟩
theorem QF.any{f:YK}(h:QF F f g c r V c')(hr:r.k≠0):QF F f g c r V' c':=fun ts vs=>⟨fun h0=>absurd h0 hr,(h ts vs).bad⟩
theorem Vj.any{f:YK}{B:Ty}(h:Vj F f g B c r V c')(d:r.k≠0):Vj F f g B c r V' c':=by
 rcases h with⟨e,b,_⟩|⟨e,b,y,q,i⟩
 .exact .inl ⟨e,b.any d,fun h=>absurd h d⟩
 .refine .inr ⟨e,b,y,q,?_⟩;rcases i with i|⟨k,j,u,U,w,p,o,a⟩
  .exact .inl i
  .refine .inr ⟨k,j,u,U,w,p,o,?_⟩;rcases a with h|⟨h,l,_⟩
   .exact .inl h
   .exact .inr ⟨h,l,fun x=>absurd x d⟩
theorem Sr(U:YK):Y2 U C C=U:=by unfold Y2;rw[if_neg (by simp)]
theorem Mo(U:YK)(g a:Option Ca):(g=C/\a=C/\Y2 U g a=U)\/Y2 U g a=(if U.k=4 then J4 U.core (YI g U.given) (YI U.answer a) else J4 U g a):=by
 by_cases h:g.isSome=Zh\/a.isSome=Zh
 .right;unfold Y2;rw[if_pos h]
 .left;have c:g=C:=by cases g with
   |none=>rfl
   |some _=>exact absurd (.inl rfl) h
  have b:a=C:=by cases a with
   |none=>rfl
   |some _=>exact absurd (.inr rfl) h
  subst c b;exact⟨rfl,rfl,Sr U⟩
theorem BD{g:Option Ca}(p:Ur U (YN f0 f1))(i:UE g t0 f0)(k:UE a f1 t1)(o:Ur X t0)(d:(Xd g X).1.k≠0):Vj F (Y2 U g a) X t1 c (Xd g X).1 V c:=by
 rcases Mo U g a with⟨rfl,_,_⟩|e
 .exact absurd rfl d
 rw[e];rcases J8 p with⟨q,_⟩|⟨r,_,j,w,u,_,b,h⟩
 .rw[if_neg (by omega)];exact .inr ⟨rfl,q,⟨_,_,i⟩,⟨_,k⟩,.inl ⟨d,rfl,rfl⟩⟩
 .rw[if_pos r];have l:=(Lx i b o).1 d;refine .inr ⟨rfl,j,⟨_,_,Um i b⟩,⟨_,Um h k⟩,.inl ⟨?_,?_,rfl⟩⟩
  .show (Xd (YI g U.given) X).1.k≠0
   rw[l];exact d
  .show (Xd g X).1=(Xd (YI g U.given) X).1
   rw[l]
theorem BC{Z:YK}{g:Option Ca}(hU:Ur U (YN f0 f1))(w:UE g t0 f0)(d:UE a f1 t1)(hX:Ur X t0)(h1:(Xd g X).1.k=0)(z:Vj F U (Xd g X).2 f1 c r2 Z c2)(k:r2.k≠0):Vj F (Y2 U g a) X t1 c r2 V c2:=by
 rcases Mo U g a with⟨rfl,rfl,e⟩|e
 .rw[e,<-XL.1 d];exact z.any k
 rw[e];rcases z with⟨k3,h3,h4⟩|⟨k4,y,⟨A,A0,_⟩,_,h5⟩
 .rw[if_neg (by omega)];exact .inr ⟨rfl,k3,⟨_,_,w⟩,⟨_,d⟩,.inr ⟨h1,f1,r2,Z,d,h3,h4,.inl ⟨k,rfl⟩⟩⟩
 .rw[if_pos k4];rcases J8 hU with⟨k3,_⟩|⟨_,_,_,A0,p,_,i,q⟩
  .omega
  obtain⟨j,u⟩:=(Lx w i hX).2 h1;refine .inr ⟨rfl,y,⟨_,_,Um w i⟩,⟨_,Um q d⟩,?_⟩;show ((Xd (YI g U.given) X).1.k≠0/\r2=(Xd (YI g U.given) X).1/\c2=c)\/((Xd (YI g U.given) X).1.k=0/\∃(p:Ty)(b:Xy)(W:YK),UE (YI U.answer a) p t1/\QF F U.core (Xd (YI g U.given) X).2 c b W c2/\(b.k=0->Ur W p)/\((b.k≠0/\r2=b)\/(b.k=0/\r2=(Xd (YI U.answer a) W).1/\(r2.k=0->US V (Xd (YI U.answer a) W).2))))
  rw[j];rcases h5 with⟨l,o,r⟩|⟨l,B1,b,W,o,r,h9,x⟩
  .exact .inl ⟨l,o,r⟩
  .refine .inr ⟨l,B1,b,W,Um o d,r.congr (US.refl _) (u (by rw[j];exact l)) (US.refl _),h9,?_⟩;rcases x with h|⟨h,h',_⟩
   .exact .inl h
   .refine .inr ⟨h,?_,fun h0=>absurd h0 k⟩;rw[(Lx o d (h9 h)).1 (by rw[<-h'];exact k)];exact h'
theorem BB{Z:YK}{g:Option Ca}(hU:Ur U (YN f0 f1))(w:UE g t0 f0)(d:UE a f1 t1)(hX:Ur X t0)(h1:(Xd g X).1.k=0)(h2:Vj F U (Xd g X).2 f1 c Yl Z c2):Vj F (Y2 U g a) X t1 c (Xd a Z).1 (Xd a Z).2 c2:=by
 rcases Mo U g a with⟨rfl,rfl,e⟩|e
 .rw[e,<-XL.1 d];exact h2
 rw[e];rcases h2 with⟨k3,h3,h4⟩|⟨k4,a0,⟨A,A0,_⟩,_,h5⟩
 .rw[if_neg (by omega)];exact .inr ⟨rfl,k3,⟨_,_,w⟩,⟨_,d⟩,.inr ⟨h1,f1,Yl,Z,d,h3,h4,.inr ⟨rfl,rfl,fun _=>US.refl _⟩⟩⟩
 .rw[if_pos k4];rcases J8 hU with⟨k3,_⟩|⟨_,_,_,A0,p,_,i,q⟩
  .omega
  obtain⟨k,u⟩:=(Lx w i hX).2 h1;refine .inr ⟨rfl,a0,⟨_,_,Um w i⟩,⟨_,Um q d⟩,.inr ?_⟩;show (Xd (YI g U.given) X).1.k=0/\∃(p:Ty)(b:Xy)(W:YK),UE (YI U.answer a) p t1/\QF F U.core (Xd (YI g U.given) X).2 c b W c2/\(b.k=0->Ur W p)/\((b.k≠0/\(Xd a Z).1=b)\/(b.k=0/\(Xd a Z).1=(Xd (YI U.answer a) W).1/\((Xd a Z).1.k=0->US (Xd a Z).2 (Xd (YI U.answer a) W).2)))
  rw[k];rcases h5 with⟨l,o,_⟩|⟨l,B1,b,W,o,h8,h9,z⟩
  .exact absurd (by rw[<-o];rfl) l
  .refine⟨l,B1,b,W,Um o d,h8.congr (US.refl _) (u (by rw[k];exact l)) (US.refl _),h9,?_⟩;rcases z with⟨h,y⟩|⟨h,y,x⟩
   .exact absurd (by rw[<-y];rfl) h
   .obtain⟨h11,h12⟩:=(Lx o d (h9 h)).2 (by rw[<-y];rfl);obtain⟨j,r⟩:=PN (UQ.refl a) (x rfl);refine .inr ⟨h,by rw[h11,j],fun h0=>?_⟩;exact(r h0).trans (h12 (by rw[h11,<-j];exact h0)).symm
theorem VY(k b:Int)(a a':Option Zr)(m d c c':Nat)(w:Ze):
  Zl Zb 93 #[Zd #[G H k,D a m c],Zd #[G H b,D a' d c']] w fun e w'=>∃g,w.heap.size<=g/\e=O (Zd #[G H 3,D (J ⟨g,0,C⟩) 2 2])/\w'.cell? ⟨g,0,C⟩=J (G H k)/\w'.cell? ⟨g,1,C⟩=J (D a m c)/\w'.cell? ⟨g,2,C⟩=J (G H b)/\w'.cell? ⟨g,3,C⟩=J (D a' d c')/\Zi w.heap.size w w':=by
 go_enter func93,ntmps93;go_wp2_with fail;refine Zg (v:=Zd #[G H 3,D (J ⟨w.heap.size+1+1+1,0,C⟩) 2 2]) (by simp[results,results93,go_sem]) rfl ⟨_,?_,rfl,by simp[go_sem],by simp[go_sem],by simp[go_sem],by simp[go_sem],?_⟩
 .omega
 exact((((Y _ _).alloc (N _) _).alloc (by simp) _).alloc (by simp;omega) _).alloc (by simp;omega) _
theorem Qs(x y:Tr)(w:Ze)(j:x.In w)(d:y.In w):
  Zl Zb 93 #[Zd #[G H x.k,D x.a x.l.length x.c],Zd #[G H y.k,D y.a y.l.length y.c]] w fun e w'=>∃g,w.heap.size<=g/\e=O (Zd #[G H 3,D (J ⟨g,0,C⟩) 2 2])/\(Tr.mk 3 (J ⟨g,0,C⟩) 2 [x,y]).In w'/\Zi w.heap.size w w':=by
 refine(VY x.k y.k x.a y.a x.l.length y.l.length x.c y.c w).mono ?_;rintro e w' ⟨g,i,rfl,c,k,b,h,a⟩;refine⟨g,i,rfl,?_,a⟩;exact Tr.In_two c k b h (j.below a) (d.below a)
theorem UO(w:Ze):Zl Zb 56 #[] w fun e w'=>e=O (Zd #[G H 0,D C 0 0])/\w'=w.alloc (Zk #[G H 0,D C 0 0] 24):=by go_enter func56,ntmps56;go_wp2_with fail;exact Zg (v:=Zd #[G H 0,D C 0 0]) (by simp[results,results56,go_sem]) rfl ⟨rfl,rfl⟩
theorem Rw(x y:Tr)(b:(x.k != y.k)=Zh)(w:Ze):
  Zl Zb 92 #[Zd #[G H x.k,D x.a x.l.length x.c],Zd #[G H y.k,D y.a y.l.length y.c]] w fun e w'=>e=O (Zd #[G H 0,D C 0 0])/\Zi w.heap.size w w':=by
 go_enter func92,ntmps92;go_wp2_with fail;refine(UO _).mono ?_;rintro e a ⟨rfl,rfl⟩;go_wp2_with fail;refine Zg (v:=Zd #[G H 0,D C 0 0]) (by simp[results,results92,go_sem]) rfl ⟨rfl,?_⟩;exact((((Y _ _).alloc (N _) _).alloc (by simp) _).alloc (by simp;omega) _).alloc (by simp;omega) _
theorem Rv(k:Int)(a a':Option Zr)(c c':Nat)(w:Ze):
  Zl Zb 92 #[Zd #[G H k,D a 0 c],Zd #[G H k,D a' 0 c']] w fun e w'=>e=O (Zd #[G H k,D C 0 0])/\Zi w.heap.size w w':=by
 go_enter func92,ntmps92;go_wp2_with fail;refine Zg (v:=Zd #[G H k,D C 0 0]) (by simp[results,results92,go_sem]) rfl ⟨rfl,?_⟩;exact(((Y _ _).alloc (N _) _).alloc (by simp) _).alloc (by simp;omega) _
structure Th where
 k:Int
 n:Int
 fn:Zw
 tag:Int
 wy:Nat
 b1:Nat
 b2:Nat
 b3:Nat
 b4:Nat
 b5:Nat
 b6:Nat
 x:TT
 ea:Option Zr
 ec:Nat
 env:List Th
 f:Tr
 t:Tr
 no:Int
 back:Bool
 inn:List Th
theorem Th.ind{P:Th->Prop}(h:∀h:Th,(∀y,y∈h.env->P y)->(∀y,y∈h.inn->P y)->P h):∀h,P h
 |⟨k,n,fn,tag,wy,b1,b2,b3,b4,b5,b6,x,ea,ec,env,f,t,no,back,inn⟩=>h ⟨k,n,fn,tag,wy,b1,b2,b3,b4,b5,b6,x,ea,ec,env,f,t,no,back,inn⟩ (fun y _=>Th.ind h y) (fun y _=>Th.ind h y)
def Th.ag(h:Th):Zw:=Zd #[G H h.k,G H h.n,h.fn,G H h.tag]
def Th.bl(h:Th):Xy:=⟨4,h.no,h.back⟩
def Th.cv:Th->YK
 |⟨k,n,_,_,wy,_,_,_,_,_,_,x,_,_,env,f,t,no,back,inn⟩=>
  if wy=1 then ME (x.tm.at 0) (env.map fun e=>if e.tag=0 then e.cv else XO e.cv e.tag)
  else if wy=2 then Y2 ((inn.map fun e=>e.cv).headD (XF 0)) (Yq (t.ty.l.getD 0 Yn) (f.ty.l.getD 0 Yn) (J9 ⟨4,no,back⟩)) (Yq (f.ty.l.getD 1 Yn) (t.ty.l.getD 1 Yn) ⟨4,no,back⟩)
  else if k=1 then XF n else Xk n
def Th.val(h:Th):YK:=if h.tag=0 then h.cv else XO h.cv h.tag
theorem Th.cv_eq(h:Th):h.cv=if h.wy=1 then ME (h.x.tm.at 0) (h.env.map Th.val)
  else if h.wy=2 then Y2 ((h.inn.map Th.cv).headD (XF 0)) (Yq (h.t.ty.l.getD 0 Yn) (h.f.ty.l.getD 0 Yn) (J9 h.bl)) (Yq (h.f.ty.l.getD 1 Yn) (h.t.ty.l.getD 1 Yn) h.bl)
  else if h.k=1 then XF h.n else Xk h.n:=by
 cases h
 rw[Th.cv];rfl
structure Ph(w:Ze)(b o:Nat)(h:Th):Prop where
 c0:w.cell? ⟨b,o,C⟩=J (G H h.k)
 c1:w.cell? ⟨b,o+1,C⟩=J (G H h.n)
 c2:w.cell? ⟨b,o+2,C⟩=J h.fn
 c3:w.cell? ⟨b,o+3,C⟩=J (G H h.tag)
theorem Ph.of{o:Nat}{x:Th}(h:Ph w b o x)(e:∀i,w'.cell? ⟨b,i,C⟩=w.cell? ⟨b,i,C⟩):Ph w' b o x:=⟨(e _).trans h.c0,(e _).trans h.c1,(e _).trans h.c2,(e _).trans h.c3⟩
theorem Ph.lt{o:Nat}{x:Th}(h:Ph w b o x):b<w.heap.size:=K _ _ h.c0
def XJ(Q:Nat->Prop)(w w':Ze):Prop:=∀b,b<w.heap.size->Q b->w'.heap[b]?=w.heap[b]?
theorem XJ.cell(h:XJ Q w w'){i:Nat}{v:Zw}(hc:w.cell? ⟨b,i,C⟩=J v)(hb:Q b):w'.cell? ⟨b,i,C⟩=J v:=(Zm (a:=⟨b,i,C⟩) (h b (K _ _ hc) hb)).trans hc
theorem XJ.of_below(h:Zi w.heap.size w w'):XJ Q w w':=fun b hb _=>h.block b hb
theorem XJ.of_kept(h:Yi R C w w')(hQ:¬Q R):XJ Q w w':=fun b hb hq=>h.block b hb (fun e=>hQ (e▸hq)) (by simp)
theorem Ph.same{o:Nat}{x:Th}(h:Ph w b o x)(hk:XJ Q w w')(hb:Q b):Ph w' b o x:=⟨hk.cell h.c0 hb,hk.cell h.c1 hb,hk.cell h.c2 hb,hk.cell h.c3 hb⟩
theorem X4.same{o:Nat}{x:TT}(h:X4 w b o x)(hk:XJ Q w w')(hb:Q b):X4 w' b o x:=⟨hk.cell h.c0 hb,hk.cell h.c1 hb,hk.cell h.c2 hb,hk.cell h.c3 hb,hk.cell h.c4 hb,hk.cell h.c5 hb,hk.cell h.c6 hb⟩
theorem TT.In.same{x:TT}(h:x.In w)(hk:XJ Q w w')(hb:x.Bl Q):x.In w':=h.congr (P:=fun b=>b<w.heap.size/\Q b) (fun b hb o=>Zm (a:=⟨b,o,C⟩) (hk b hb.1 hb.2)) (h.bl.and hb)
theorem Tr.In.same{x:Tr}(h:x.In w)(hk:XJ Q w w')(hb:x.Bl Q):x.In w':=h.congr (P:=fun b=>b<w.heap.size/\Q b) (fun b hb o=>Zm (a:=⟨b,o,C⟩) (hk b hb.1 hb.2)) (h.bl.and hb)
structure BJ(h:Th):Prop where
 fn:h.fn=.nilFunc
 k:h.k=1\/h.k=2
 nb:-1000000<=h.n/\h.n<=1000000
def TZ:Tm->Prop
 |⟨k,_,_,_,l⟩=>k≠10/\∀x,x∈l->TZ x
theorem S0{k n:Int}{t f:Ty}{l:List Tm}:TZ ⟨k,n,t,f,l⟩↔k≠10/\∀x,x∈l->TZ x:=by rw[TZ]
theorem TZ.top(h:TZ x):x.k≠10:=by cases x;exact(S0.1 h).1
theorem TZ.part(h:TZ x){j:Nat}(a:j<x.l.length):TZ (x.at j):=by
 have b:=Tm.at_mem (x:=x) a;cases x
 exact(S0.1 h).2 _ b
structure BK(m:Bool)(M R:Nat)(Q:Nat->Prop)(w:Ze)(h:Th):Prop where
 k:h.k=3
 fn:h.fn=.func (.func 95) #[] #[Zc (J ⟨h.b1,0,C⟩),Zc (J ⟨h.b2,0,C⟩),Zc (J ⟨h.b3,0,C⟩)]
 b1:Q h.b1
 b2:Q h.b2
 b3:Q h.b3
 w1:w.cell? ⟨h.b1,0,C⟩=J (Zc (J ⟨R,0,C⟩))
 x7:X4 w h.b2 0 h.x
 xi:h.x.In w
 xb:h.x.Bl Q
 xk:h.x.k=7
 xs:KX h.x.tm/\(m=Za->TZ h.x.tm)
 sz:h.x.tm.tsz+h.env.length<=M
 e3:w.cell? ⟨h.b3,0,C⟩=J (D h.ea h.env.length h.ec)
 env:∀j(l:j<h.env.length),∃b o,h.ea=J ⟨b,o,C⟩/\Q b/\Ph w b (o+j*4) h.env[j]
structure Wv(R:Nat)(Q:Nat->Prop)(w:Ze)(h:Th)(v:Th):Prop where
 inn:h.inn=[v]
 k:h.k=3
 fn:h.fn=.func (.func 131) #[] #[Zc (J ⟨h.b1,0,C⟩),Zc (J ⟨h.b2,0,C⟩),Zc (J ⟨h.b3,0,C⟩),Zc (J ⟨h.b4,0,C⟩),Zc (J ⟨h.b5,0,C⟩),Zc (J ⟨h.b6,0,C⟩)]
 b1:Q h.b1
 b2:Q h.b2
 b3:Q h.b3
 b4:Q h.b4
 b5:Q h.b5
 b6:Q h.b6
 w1:w.cell? ⟨h.b1,0,C⟩=J (Zc (J ⟨R,0,C⟩))
 t0:w.cell? ⟨h.b2,0,C⟩=J (G H h.t.k)
 t1:w.cell? ⟨h.b2,1,C⟩=J (D h.t.a h.t.l.length h.t.c)
 f0:w.cell? ⟨h.b3,0,C⟩=J (G H h.f.k)
 f1:w.cell? ⟨h.b3,1,C⟩=J (D h.f.a h.f.l.length h.f.c)
 n4:w.cell? ⟨h.b4,0,C⟩=J (G H h.no)
 k5:w.cell? ⟨h.b5,0,C⟩=J (.bool h.back)
 v6:Ph w h.b6 0 v
 ti:h.t.In w
 fi:h.f.In w
 tb:h.t.Bl Q
 fb:h.f.Bl Q
 tg:Ym 46 h.t.ty=Zh
 fg:Ym 46 h.f.ty=Zh
 tk:h.t.k=3
 fk:h.f.k=3
 fits:YC Yk h.f.ty h.t.ty=Zh
 ty:Ur v.cv h.f.ty
 vt:v.tag=0
def Th.In(m:Bool)(M R:Nat)(Q:Nat->Prop)(w:Ze):Th->Prop
 |⟨k,n,fn,tag,wy,b1,b2,b3,b4,b5,b6,x,ea,ec,env,f,t,no,back,inn⟩=>
  (wy=0/\BJ ⟨k,n,fn,tag,wy,b1,b2,b3,b4,b5,b6,x,ea,ec,env,f,t,no,back,inn⟩)\/
  (wy=1/\BK m M R Q w ⟨k,n,fn,tag,wy,b1,b2,b3,b4,b5,b6,x,ea,ec,env,f,t,no,back,inn⟩/\∀e,e∈env->e.In m M R Q w)\/
  (wy=2/\m=Zh/\(∃v,Wv R Q w ⟨k,n,fn,tag,wy,b1,b2,b3,b4,b5,b6,x,ea,ec,env,f,t,no,back,inn⟩ v)/\∀e,e∈inn->e.In m M R Q w)
theorem Th.In_iff{m:Bool}{h:Th}:h.In m M R Q w↔(h.wy=0/\BJ h)\/(h.wy=1/\BK m M R Q w h/\∀e,e∈h.env->e.In m M R Q w)\/(h.wy=2/\m=Zh/\(∃v,Wv R Q w h v)/\∀e,e∈h.inn->e.In m M R Q w):=by
 cases h
 rw[Th.In]
theorem BK.same{m:Bool}{h:Th}(c:BK m M R Q w h)(hk:XJ Q w w'):BK m M R Q w' h:=⟨c.k,c.fn,c.b1,c.b2,c.b3,hk.cell c.w1 c.b1,c.x7.same hk c.b2,c.xi.same hk c.xb,c.xb,c.xk,c.xs,c.sz,hk.cell c.e3 c.b3,fun j l=>by obtain⟨b,o,e,hb,h4⟩:=c.env j l;exact⟨b,o,e,hb,h4.same hk hb⟩⟩
theorem Wv.same{h v:Th}(c:Wv R Q w h v)(hk:XJ Q w w'):Wv R Q w' h v:=⟨c.inn,c.k,c.fn,c.b1,c.b2,c.b3,c.b4,c.b5,c.b6,hk.cell c.w1 c.b1,hk.cell c.t0 c.b2,hk.cell c.t1 c.b2,hk.cell c.f0 c.b3,hk.cell c.f1 c.b3,hk.cell c.n4 c.b4,hk.cell c.k5 c.b5,c.v6.same hk c.b6,c.ti.same hk c.tb,c.fi.same hk c.fb,c.tb,c.fb,c.tg,c.fg,c.tk,c.fk,c.fits,c.ty,c.vt⟩
theorem BK.mono{m:Bool}{h:Th}(c:BK m M R Q w h)(hq:∀b,b<w.heap.size->Q b->Q' b):BK m M R Q' w h:=⟨c.k,c.fn,hq _ (K _ _ c.w1) c.b1,hq _ c.x7.lt c.b2,hq _ (K _ _ c.e3) c.b3,c.w1,c.x7,c.xi,(c.xi.bl.and c.xb).mono fun b hb=>hq b hb.1 hb.2,c.xk,c.xs,c.sz,c.e3,fun j l=>by obtain⟨b,o,e,hb,h4⟩:=c.env j l;exact⟨b,o,e,hq _ h4.lt hb,h4⟩⟩
theorem Wv.mono{h v:Th}(c:Wv R Q w h v)(hq:∀b,b<w.heap.size->Q b->Q' b):Wv R Q' w h v:=⟨c.inn,c.k,c.fn,hq _ (K _ _ c.w1) c.b1,hq _ (K _ _ c.t0) c.b2,hq _ (K _ _ c.f0) c.b3,hq _ (K _ _ c.n4) c.b4,hq _ (K _ _ c.k5) c.b5,hq _ c.v6.lt c.b6,c.w1,c.t0,c.t1,c.f0,c.f1,c.n4,c.k5,c.v6,c.ti,c.fi,(c.ti.bl.and c.tb).mono fun b hb=>hq b hb.1 hb.2,(c.fi.bl.and c.fb).mono fun b hb=>hq b hb.1 hb.2,c.tg,c.fg,c.tk,c.fk,c.fits,c.ty,c.vt⟩
theorem Th.In.same{m:Bool}{M R:Nat}{Q:Nat->Prop}{w w':Ze}(hk:XJ Q w w'){h:Th}:h.In m M R Q w->h.In m M R Q w':=by
 induction h using Th.ind with
 |h h ie ii=>
  intro hi;rcases Th.In_iff.1 hi with i|⟨g,j,b⟩|⟨d,a,⟨v,c⟩,b⟩
  .exact Th.In_iff.2 (.inl i)
  .exact Th.In_iff.2 (.inr (.inl ⟨g,j.same hk,fun e a=>ie e a (b e a)⟩))
  .exact Th.In_iff.2 (.inr (.inr ⟨d,a,⟨v,c.same hk⟩,fun e a=>ii e a (b e a)⟩))
theorem Th.In.mono{m:Bool}{M R:Nat}{Q Q':Nat->Prop}{w:Ze}(hq:∀b,b<w.heap.size->Q b->Q' b){h:Th}:h.In m M R Q w->h.In m M R Q' w:=by
 induction h using Th.ind with
 |h h ie ii=>
  intro hi;rcases Th.In_iff.1 hi with j|⟨i,k,c⟩|⟨g,a,⟨v,d⟩,c⟩
  .exact Th.In_iff.2 (.inl j)
  .exact Th.In_iff.2 (.inr (.inl ⟨i,k.mono hq,fun e a=>ie e a (c e a)⟩))
  .exact Th.In_iff.2 (.inr (.inr ⟨g,a,⟨v,d.mono hq⟩,fun e a=>ii e a (c e a)⟩))
theorem Th.In.tag{m:Bool}{h:Th}(s:Int)(hi:h.In m M R Q w):({h with tag:=s}:Th).In m M R Q w:=by
 rcases Th.In_iff.1 hi with⟨g,p⟩|⟨e,c,a⟩|⟨d,b,⟨v,p⟩,a⟩
 .exact Th.In_iff.2 (.inl ⟨g,⟨p.fn,p.k,p.nb⟩⟩)
 .exact Th.In_iff.2 (.inr (.inl ⟨e,⟨c.k,c.fn,c.b1,c.b2,c.b3,c.w1,c.x7,c.xi,c.xb,c.xk,c.xs,c.sz,c.e3,c.env⟩,a⟩))
 .exact Th.In_iff.2 (.inr (.inr ⟨d,b,⟨v,⟨p.inn,p.k,p.fn,p.b1,p.b2,p.b3,p.b4,p.b5,p.b6,p.w1,p.t0,p.t1,p.f0,p.f1,p.n4,p.k5,p.v6,p.ti,p.fi,p.tb,p.fb,p.tg,p.fg,p.tk,p.fk,p.fits,p.ty,p.vt⟩⟩,a⟩))
theorem Th.cv_tag(h:Th)(s:Int):({h with tag:=s}:Th).cv=h.cv:=by rw[Th.cv_eq,Th.cv_eq];rfl
theorem Th.In.one{m:Bool}{h:Th}(hi:h.In m M R Q w):h.fn.oneCell'=Zh:=by
 rcases Th.In_iff.1 hi with⟨_,p⟩|⟨_,c,_⟩|⟨_,_,⟨v,p⟩,_⟩
 .rw[p.fn];rfl
 .rw[c.fn];rfl
 .rw[p.fn];rfl
structure OY(m:Bool)(M R:Nat)(Q:Nat->Prop)(w:Ze)(ea:Option Zr)(E:List Th):Prop where
 at4:∀j(l:j<E.length),∃b o,ea=J ⟨b,o,C⟩/\Q b/\Ph w b (o+j*4) E[j]
 ins:∀e,e∈E->e.In m M R Q w
theorem OY.same{m:Bool}{ea:Option Zr}{E:List Th}(h:OY m M R Q w ea E)(hk:XJ Q w w'):OY m M R Q w' ea E:=⟨fun j l=>by obtain⟨b,o,e,hb,h4⟩:=h.at4 j l;exact⟨b,o,e,hb,h4.same hk hb⟩,fun e he=>(h.ins e he).same hk⟩
theorem OY.mono{m:Bool}{ea:Option Zr}{E:List Th}(h:OY m M R Q w ea E)(hq:∀b,b<w.heap.size->Q b->Q' b):OY m M R Q' w ea E:=⟨fun j l=>by obtain⟨b,o,e,hb,h4⟩:=h.at4 j l;exact⟨b,o,e,hq b h4.lt hb,h4⟩,fun e he=>(h.ins e he).mono hq⟩
structure Wl(R:Nat)(n:Nat)(o:Xy)(w:Ze):Prop where
 c0:w.cell? ⟨R,0,C⟩=J (G H (n:Int))
 c1:w.cell? ⟨R,1,C⟩=J (G H o.k)
 c2:w.cell? ⟨R,2,C⟩=J (G H o.n)
 c3:w.cell? ⟨R,3,C⟩=J (.bool o.b)
 z0:w.frozen? ⟨R,0,C⟩=Za
 z1:w.frozen? ⟨R,1,C⟩=Za
 z2:w.frozen? ⟨R,2,C⟩=Za
 z3:w.frozen? ⟨R,3,C⟩=Za
theorem Wl.lt{n:Nat}(h:Wl R n o w):R<w.heap.size:=K _ _ h.c0
theorem Wl.below{n:Nat}(h:Wl R n o w)(a:Zi w.heap.size w w'):Wl R n o w':=by have c:∀i,w'.cell? ⟨R,i,C⟩=w.cell? ⟨R,i,C⟩:=fun i=>a.cell (p:=⟨R,i,C⟩) h.lt;have f:∀i,w'.frozen? ⟨R,i,C⟩=w.frozen? ⟨R,i,C⟩:=fun i=>a.frozen (p:=⟨R,i,C⟩) h.lt;exact⟨(c _).trans h.c0,(c _).trans h.c1,(c _).trans h.c2,(c _).trans h.c3,(f _).trans h.z0,(f _).trans h.z1,(f _).trans h.z2,(f _).trans h.z3⟩
theorem Wl.same{n:Nat}(h:Wl R n o w)(a:Yi b C w w')(d:b≠R):Wl R n o w':=by have c:R≠b:=fun e=>d e.symm;exact⟨a.cell h.c0 c,a.cell h.c1 c,a.cell h.c2 c,a.cell h.c3 c,a.fz h.z0 h.lt c,a.fz h.z1 h.lt c,a.fz h.z2 h.lt c,a.fz h.z3 h.lt c⟩
def X0:Zw:=Zd #[G H 0,G H 0,.nilFunc,G H 0]
def Th.tyo(h:Th):Ty:=if h.tag=0 then h.t.ty else Yn
def QP:Ty->Tr
 |⟨k,l⟩=>⟨k,C,0,l.map fun t=>QP t⟩
theorem P5:∀t:Ty,(QP t).ty=t:=by
 intro t;induction t using Ty.ind with
 |h k l ih=>
  rw[QP,Tr.ty_mk,List.map_map];congr 1;have:∀l:List Ty,(∀t,t∈l->(QP t).ty=t)->l.map (Tr.ty∘QP)=l:=by
   intro l;induction l with
   |nil=>intro _;rfl
   |cons x r ihr=>
    intro h;rw[List.map_cons,ihr fun t a=>h t (by simp[a])];show (QP x).ty::r=_
    rw[h x (by simp)]
  exact this l ih
def Th.ok:Th->Prop
 |⟨k,_,_,tag,wy,_,_,_,_,_,_,x,_,_,env,f,t,_,_,inn⟩=>
  (tag=0\/((tag=1\/tag=2\/tag=3)/\t.ty=gr tag))/\
  ((wy=0/\((k=1/\t.ty=UY)\/(k=2/\t.ty=Xp)))\/ (wy=1/\(∃A B,t.ty=YN A B/\L6 (x.tm.at 0) (A::env.map Th.tyo) B)/\∀e,e∈env->e.ok)\/ (wy=2/\∀e,e∈inn->e.ok/\e.t.ty=f.ty))
theorem Th.ok_iff{h:Th}:h.ok↔(h.tag=0\/((h.tag=1\/h.tag=2\/h.tag=3)/\h.t.ty=gr h.tag))/\
  ((h.wy=0/\((h.k=1/\h.t.ty=UY)\/(h.k=2/\h.t.ty=Xp)))\/
   (h.wy=1/\(∃A B,h.t.ty=YN A B/\L6 (h.x.tm.at 0) (A::h.env.map Th.tyo) B)/\∀e,e∈h.env->e.ok)\/
   (h.wy=2/\∀e,e∈h.inn->e.ok/\e.t.ty=h.f.ty)):=by
 cases h
 rw[Th.ok]
theorem Th.ok.mark{h:Th}(ho:h.ok){s:Int}(hs:s=0\/((s=1\/s=2\/s=3)/\h.t.ty=gr s)):({h with tag:=s}:Th).ok:=Th.ok_iff.2 ⟨hs,(Th.ok_iff.1 ho).2⟩
def Jl(m:Bool)(T:Ty)(h:Th):Prop:=m=Zh->h.ok/\h.tyo=T
def Xi(m:Bool)(M R F c:Nat)(Q:Nat->Prop)(w:Ze)(T:Ty)(S:Xy->YK->Nat->Prop)(e:Ending)(w':Ze):Prop:=Yi R C w w'/\∃(r:Xy)(V:YK)(c':Nat),S r V c'/\c<=c'/\c'<=F/\Wl R (F-c') r w'/\ ((r.k≠0/\e=O X0)\/(r=Yl/\∃h:Th,e=O h.ag/\h.In m M R Q w'/\h.val=V/\Jl m T h))
abbrev Th.v(z:Th):Array Zw:=#[G H z.k,G H z.n,z.fn,G H z.tag]
theorem Wl.set{n:Nat}{o':Xy}(h:Wl R n o w):Wl R n o' (((w.setCell ⟨R,1,C⟩ (G H o'.k)).setCell ⟨R,2,C⟩ (G H o'.n)).setCell ⟨R,3,C⟩ (.bool o'.b)):=by
 obtain⟨g,i,a,d,j,c,b,e⟩:=h;constructor
 all_goals simp[go_sem, *]
theorem Wl.spend{n:Nat}(h:Wl R (n+1) o w):Wl R n o (w.setCell ⟨R,0,C⟩ (G H (n:Int))):=by
 obtain⟨g,i,a,d,j,c,b,e⟩:=h;constructor
 all_goals simp[go_sem, *]
structure Rb(w:Ze)(b:Nat):Prop where
 c0:w.cell? ⟨b,0,C⟩=J (G H 0)
 c1:w.cell? ⟨b,1,C⟩=J (G H 0)
 c2:w.cell? ⟨b,2,C⟩=J .nilFunc
 c3:w.cell? ⟨b,3,C⟩=J (G H 0)
 z0:w.frozen? ⟨b,0,C⟩=Za
 z1:w.frozen? ⟨b,1,C⟩=Za
 z2:w.frozen? ⟨b,2,C⟩=Za
 z3:w.frozen? ⟨b,3,C⟩=Za
theorem Rb.lt(h:Rb w b):b<w.heap.size:=K _ _ h.c0
theorem Rb.new(w:Ze):Rb (w.alloc (Zk #[G H 0,G H 0,.nilFunc,G H 0] 103)) w.heap.size:=by
 constructor
 all_goals simp[go_sem]
theorem Rb.kept(h:Rb w b)(hk:Yi R C w w')(hb:b≠R):Rb w' b:=⟨hk.cell h.c0 hb,hk.cell h.c1 hb,hk.cell h.c2 hb,hk.cell h.c3 hb,hk.fz h.z0 h.lt hb,hk.fz h.z1 h.lt hb,hk.fz h.z2 h.lt hb,hk.fz h.z3 h.lt hb⟩
theorem Rb.below(h:Rb w b)(hk:Zi w.heap.size w w'):Rb w' b:=h.kept (R:=b+1) (Yi.of_below hk) (by omega)
theorem Rb.set(h:Rb w b)(v0 v1 v2 v3:Zw):(((((w.setCell ⟨b,0,C⟩ v0).setCell ⟨b,1,C⟩ v1).setCell ⟨b,2,C⟩ v2).setCell ⟨b,3,C⟩ v3).cell? ⟨b,0,C⟩=J v0/\((((w.setCell ⟨b,0,C⟩ v0).setCell ⟨b,1,C⟩ v1).setCell ⟨b,2,C⟩ v2).setCell ⟨b,3,C⟩ v3).cell? ⟨b,1,C⟩=J v1/\((((w.setCell ⟨b,0,C⟩ v0).setCell ⟨b,1,C⟩ v1).setCell ⟨b,2,C⟩ v2).setCell ⟨b,3,C⟩ v3).cell? ⟨b,2,C⟩=J v2/\((((w.setCell ⟨b,0,C⟩ v0).setCell ⟨b,1,C⟩ v1).setCell ⟨b,2,C⟩ v2).setCell ⟨b,3,C⟩ v3).cell? ⟨b,3,C⟩=J v3)/\Yi b C w ((((w.setCell ⟨b,0,C⟩ v0).setCell ⟨b,1,C⟩ v1).setCell ⟨b,2,C⟩ v2).setCell ⟨b,3,C⟩ v3):=by
 obtain⟨i,j,a,e,k,d,c,g⟩:=h;refine⟨⟨?_,?_,?_,?_⟩,((Yj.trans Yj).trans Yj).trans Yj⟩
 all_goals simp[go_sem, *]
theorem Oj(R n:Nat)(a:Xy)(w:Ze)(h:Wl R n Yl w):Zl Zb 96 #[Zc (J ⟨R,0,C⟩),Zd #[G H a.k,G H a.n,.bool a.b]] w fun e w'=>e=O X0/\Wl R n a w'/\Yi R C w w':=by
 have u:=h.lt;obtain⟨l,d,b,c,r,o,k,q⟩:=h;have p:Hid (Wl R n Yl w):=⟨l,d,b,c,r,o,k,q⟩
 replace d:w.cell? ⟨R,1,C⟩=J (G H 0):=d;replace b:w.cell? ⟨R,2,C⟩=J (G H 0):=b;replace c:w.cell? ⟨R,3,C⟩=J (.bool Za):=c;go_enter func96,ntmps96;go_wp2_with fail;have i:Wl R n a (((w.setCell ⟨R,1,C⟩ (G H a.k)).setCell ⟨R,2,C⟩ (G H a.n)).setCell ⟨R,3,C⟩ (.bool a.b)):=p.out.set;have j:Yi R C w (((w.setCell ⟨R,1,C⟩ (G H a.k)).setCell ⟨R,2,C⟩ (G H a.n)).setCell ⟨R,3,C⟩ (.bool a.b)):=(Yj.trans Yj).trans Yj;have g:∀(W:Ze)(A B:Obj),bL W ((W.alloc A).alloc B):=fun W A B=>((Y _ _).alloc (N _) _).alloc (by simp) _;refine Zg (v:=X0) ?_ rfl ⟨rfl,i.below (g _ _ _),j.trans (Yi.of_below (g _ _ _))⟩;simp[results,results96,go_sem,X0]
theorem UF(R n:Nat)(w:Ze)(h:Wl R n Yl w):Zl Zb 94 #[Zc (J ⟨R,0,C⟩)] w fun e w'=>e=O X0/\Wl R n Yu w'/\Yi R C w w':=by
 have lr:=h.lt;have c:bL w (w.alloc (Zk #[G H 0,G H 0,.nilFunc,G H 0] 103)):=(Y _ _).alloc (N _) _;have d:=Un (h.below c) c;clear h c;go_enter func94,ntmps94;go_wp2_with (go_at_call 96;refine(Oj R n Yu _ d.out.1).mono ?_;rintro e w2 ⟨rfl,b,a⟩;simp only[X0];obtain⟨k,y,q2,z,p,x,q,o⟩:=(Rb.new w).kept a (by omega);have g:Hid (Wl R n Yu w2/\Yi R C (w.alloc (Zk #[G H 0,G H 0,.nilFunc,G H 0] 103)) w2):=⟨b,a⟩;clear b a)
 have l:Rb w2 w.heap.size:=⟨k,y,q2,z,p,x,q,o⟩
 obtain⟨⟨j,r,e2,u⟩,i⟩:=l.set (G H 0) (G H 0) .nilFunc (G H 0);refine Zg (v:=X0) ?_ rfl ⟨rfl,g.out.1.same i (by omega),((Yi.of_below d.out.2).trans g.out.2).new i (N _)⟩;simp[results,results94,go_sem,X0,j,r,e2,u]
theorem Q4(a:Option Zr)(n c:Nat)(w:Ze):Zl Zb 132 #[Zd #[G H 3,D a n c]] w fun e w'=>∃g,w.heap.size<=g/\e=O (Zd #[G H 3,D (J ⟨g,0,C⟩) 2 2])/\(Tr.mk 3 (J ⟨g,0,C⟩) 2 [Yr 0,Yr 0]).In w'/\Zi w.heap.size w w':=by
 go_enter func132,ntmps132;go_wp2_with (go_at_call 56;refine(UO _).mono ?_;rintro e _ ⟨rfl,rfl⟩)
 obtain⟨W1,b⟩:∃W,W=(((w.alloc (Zk #[G H 3,D a n c] 24)).alloc (Zk #[G H 0,D C 0 0] 24)).alloc (Zk #[G H 0,D C 0 0] 24)).alloc (Zk #[G H 0,D C 0 0] 24):=⟨_,rfl⟩
 have h:bL w W1:=by rw[b];exact((((Y _ _).alloc (N _) _).alloc (by simp) _).alloc (by simp;omega) _).alloc (by simp;omega) _
 have d:W1.heap.size=w.heap.size+1+1+1+1:=by rw[b];simp
 have r:W1.cell? ⟨w.heap.size+1,0,C⟩=J (G H 0):=by rw[b];simp[go_sem]
 have x:W1.cell? ⟨w.heap.size+1,1,C⟩=J (D C 0 0):=by rw[b];simp[go_sem]
 have l:∀o,W1.frozen? ⟨w.heap.size+1,o,C⟩=Za:=by intro o;rw[b];simp[go_sem]
 rw[<-b];clear b;refine(Qs (Yr 0) (Yr 0) W1 (YB _ _) (YB _ _)).mono ?_;rintro e w2 ⟨g,y,rfl,j,i⟩;have x0:=L i r;have x1:=L i x;have z:=(i.frozen (p:=⟨w.heap.size+1,0,C⟩) (by rw[d];show w.heap.size+1<_;omega)).trans (l 0);have f1:=(i.frozen (p:=⟨w.heap.size+1,1,C⟩) (by rw[d];show w.heap.size+1<_;omega)).trans (l 1);have k:Hid (w.heap.size+1<g/\(Tr.mk 3 (J ⟨g,0,C⟩) 2 [Yr 0,Yr 0]).In w2/\bL w w2):=⟨by omega,j,h.trans (i.mono h.size)⟩
 clear i y j h d r x l;go_wp2_with fail;have q:=XC (io:=0) (u:=G H 3) (v:=D (J ⟨g,0,C⟩) 2 2) x0 x1;refine Zg (v:=Zd #[G H 3,D (J ⟨g,0,C⟩) 2 2]) (by simp[results,results132,go_sem,q.1,q.2]) rfl ⟨g,by have:=k.out.1;omega,rfl,?_,?_⟩
 .exact XV (io:=0) k.out.2.1 (Tr.Bl_two (by have:=k.out.1;omega) (YG _ _) (YG _ _))
 .exact(k.out.2.2.setCell (by simp) _).setCell (by simp) _
theorem Qe(k:Int)(b:(k==3)=Za)(a:Option Zr)(n c:Nat)(w:Ze):Zl Zb 132 #[Zd #[G H k,D a n c]] w fun e w'=>e=O (Zd #[G H k,D C 0 0])/\Zi w.heap.size w w':=by go_enter func132,ntmps132;go_wp2_with fail;refine Zg (v:=Zd #[G H k,D C 0 0]) (by simp[results,results132,go_sem]) rfl ⟨rfl,?_⟩;exact((Y _ _).alloc (N _) _).alloc (by simp) _
theorem Lm(t:Tr)(w:Ze):Zl Zb 132 #[Zd #[G H t.k,D t.a t.l.length t.c]] w fun e w'=>∃u:Tr,e=O (Zd #[G H u.k,D u.a u.l.length u.c])/\u.ty=Ys t.ty/\u.In w'/\u.Bl (w.heap.size<=·)/\Zi w.heap.size w w':=by
 by_cases hk:t.k=3
 .rw[hk];refine(Q4 t.a t.l.length t.c w).mono ?_;rintro e w' ⟨g,c,rfl,a,b⟩;refine⟨_,rfl,?_,a,Tr.Bl_two c (YG _ _) (YG _ _),b⟩;unfold Ys;rw[if_pos (by rw[t.ty_k];exact hk),Tr.ty_mk];simp[Yr,Tr.ty_mk,Yn]
 .refine(Qe t.k (by simpa using hk) t.a t.l.length t.c w).mono ?_;rintro e w' ⟨rfl,b⟩;refine⟨Yr t.k,rfl,?_,YB _ _,YG _ _,b⟩;unfold Ys;rw[if_neg (by rw[t.ty_k];exact hk),t.ty_k];simp[Yr,Tr.ty_mk]
end Go.Proofs.YtnddkmccagiclabGreatDoor
