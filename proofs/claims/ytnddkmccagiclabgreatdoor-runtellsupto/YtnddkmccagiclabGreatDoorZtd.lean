import Derived.Test.YtnddkmccagiclabGreatDoorZta
import Derived.Deep.DeepCutAuto
import Derived.Maps.OwnOps
set_option maxRecDepth 20000
set_option maxHeartbeats 16000000
open Go.RowKit Go.Proofs.Tryz
open Option renaming none→B,some→I
open Go.Value renaming slice→C,int→G,pointer→O,agg→Za,tuple→Zm
open Go.Proofs.Tryz renaming prog→E,underlying3→U,ntmps110→Zg,underlying183→Zi,func110→Zk
open Go.IntKind renaming i64→F
open Go.World renaming block_lt_of_cell?→J,cell?_setCell_other→S,cell?_setCell_same→Zc,frozen?_setCell→Zf
open Go renaming cell_later→K,World→Q,Calls→X,madeCells→Zl
open Go.Ending renaming returned→L
open Nat renaming lt_succ_of_lt→M,le_refl→R,le_of_lt→Zj,le_succ→Zn
open Go.RowKit.Below renaming refl→N,heap_setCell→Zh
open Bool renaming false→T,eq_iff_iff→Ze
open Go.Obj renaming cells→V
open List renaming take_succ_eq_append_getElem→Y,take_of_length_le→Zd
open Go.RowKit renaming Below→Z,Hid→Zb
namespace Go.Proofs.YtnddkmccagiclabGreatDoor
variable {P ib io:Nat}{W1 w w':Q}{x0 x1 y0 y1:Tr}
structure JC(ib io:Nat)(w w':Q):Prop where
 os:w'.os=w.os
 tape:w'.tape=w.tape
 output:w'.output=w.output
 size:w.heap.size<=w'.heap.size
 block:∀k,k<w.heap.size->k≠ib->w'.heap[k]?=w.heap[k]?
 cell:∀o,o≠io->o≠io+1->w'.cell? ⟨ib,o,B⟩=w.cell? ⟨ib,o,B⟩
 frozen:∀o,w'.frozen? ⟨ib,o,B⟩=w.frozen? ⟨ib,o,B⟩
theorem JC.alloc(h:JC ib io w w')(hi:ib<w.heap.size)(o:Obj):JC ib io w (w'.alloc o):=
 have hs:=h.size
 have hb:bL w' (w'.alloc o):=(N _ _).alloc (R _) o
 ⟨h.os,h.tape,h.output,by rw[World.size_alloc];omega,fun k hk hne=>(hb.block k (by omega)).trans (h.block k hk hne),fun q h0 h1=>(hb.cell (p:=⟨ib,q,B⟩) (by simp;omega)).trans (h.cell q h0 h1),fun q=>(hb.frozen (p:=⟨ib,q,B⟩) (by simp;omega)).trans (h.frozen q)⟩
theorem JC.of_below(h:Z w.heap.size w w')(hi:ib<w.heap.size):JC ib io w w':=⟨h.os,h.tape,h.output,h.size,fun k hk _=>h.block k hk,fun q _ _=>h.cell (p:=⟨ib,q,B⟩) hi,fun q=>h.frozen (p:=⟨ib,q,B⟩) hi⟩
theorem JC.set(h:JC ib io w w')(u v:Value):JC ib io w ((w'.setCell ⟨ib,io,B⟩ u).setCell ⟨ib,io+1,B⟩ v):=by
 refine⟨h.os,h.tape,h.output,?_,fun k c a=>?_,fun q d b=>?_,fun q=>?_⟩
 .have hs:=h.size;simp only[World.setCell,Array.size_modify];exact hs
 .rw[Zh _ _ _ _ a,Zh _ _ _ _ a];exact h.block k c a
 .rw[S,S]
  .exact h.cell q d b
  .intro e;simp only[Addr.mk.injEq] at e;omega
  .intro e;simp only[Addr.mk.injEq] at e;omega
 .rw[Zf,Zf];exact h.frozen q
theorem XC{u v u' v':Value}(b:w.cell? ⟨ib,io,B⟩=I u')(c:w.cell? ⟨ib,io+1,B⟩=I v'):
  ((w.setCell ⟨ib,io,B⟩ u).setCell ⟨ib,io+1,B⟩ v).cell? ⟨ib,io,B⟩=I u/\((w.setCell ⟨ib,io,B⟩ u).setCell ⟨ib,io+1,B⟩ v).cell? ⟨ib,io+1,B⟩=I v:=by
 have a:(⟨ib,io+1,B⟩:Addr)≠⟨ib,io,B⟩:=by intro e;simp only[Addr.mk.injEq] at e;omega
 constructor
 .rw[S _ _ _ _ a];exact Zc _ _ _ b
 .refine Zc _ _ _ (u:=v') ?_;rw[S _ _ _ _ (Ne.symm a)];exact c
def U9(x y:Tr)(ib io:Nat)(w w':Q):Prop:=∃t:Tr,t.ty=Xl x.ty y.ty/\t.In w'/\t.Bl (w.heap.size<=·)/\w'.cell? ⟨ib,io,B⟩=I (G F t.k)/\w'.cell? ⟨ib,io+1,B⟩=I (C t.a t.l.length t.c)/\JC ib io w w'
def JI(W1:Q)(P:Nat)(x0 x1 y0 y1:Tr)(j:Nat)(wr:Q):Prop:=
 Z P W1 wr/\(∀o,wr.frozen? ⟨P,o,B⟩=T)/\∃s0 s1:Tr,s0.In wr/\s1.In wr/\s0.Bl (P<·)/\s1.Bl (P<·)/\
  wr.cell? ⟨P,0,B⟩=I (G F s0.k)/\wr.cell? ⟨P,1,B⟩=I (C s0.a s0.l.length s0.c)/\wr.cell? ⟨P,2,B⟩=I (G F s1.k)/\wr.cell? ⟨P,3,B⟩=I (C s1.a s1.l.length s1.c)/\
  (0<j->s0.ty=Xl x0.ty y0.ty)/\(1<j->s1.ty=Xl x1.ty y1.ty)/\(j<=0->s0=Yr 0)/\(j<=1->s1=Yr 0)
theorem JC.under(h:JC ib io w w')(hi:ib<=w.heap.size):Z ib w w':=⟨h.os,h.tape,h.output,h.size,fun k hk=>h.block k (by omega) (by omega)⟩
theorem U9.under{x y:Tr}(h:U9 x y P io w.drew w')(b:P<=w.heap.size):Z P w w':=by obtain⟨_,_,_,_,_,_,a⟩:=h;exact((N _ _).drew).trans (a.under b)
theorem JC.keeps(h:JC ib io w w'){t:Tr}(c:t.In w)(d:t.Bl (·≠ib)):t.In w':=by refine c.congr (P:=fun b=>b<w.heap.size/\b≠ib) ?_ (c.bl.and d);rintro b ⟨e,g⟩ o;exact World.cell?_of_block (a:=⟨b,o,B⟩) (h.block b e g)
theorem JI.start:JI W1 W1.heap.size x0 x1 y0 y1 0 (W1.alloc (V #[G F 0,C B 0 0,G F 0,C B 0 0] 24)):=by refine⟨(N _ _).alloc (R _) _,fun o=>by simp[go_sem],Yr 0,Yr 0,YB _ _,YB _ _,YG _ _,YG _ _,by simp[go_sem,Yr],by simp[go_sem,Yr],by simp[go_sem,Yr],by simp[go_sem,Yr],fun h=>absurd h (by omega),fun h=>absurd h (by omega),fun _=>rfl,fun _=>rfl⟩
theorem JI.step0{wr w2:Q}(h:JI W1 P x0 x1 y0 y1 0 wr)(x:U9 x0 y0 P 0 wr.drew w2):JI W1 P x0 x1 y0 y1 1 w2:=by obtain⟨c,k,s0,s1,i0,r,b0,g,z,c1,j,p,t0,t1,z0,u⟩:=h;obtain⟨t,q,e,d,l,y,a⟩:=x;have i:P<wr.heap.size:=J _ _ z;refine⟨c.drew.trans (a.under (Zj i)),fun o=>(a.frozen o).trans (k o),t,s1,e,a.keeps (w:=wr.drew) (r.below ((N _ _).drew)) (g.mono fun b c=>by omega),d.mono (fun b c=>Nat.lt_of_lt_of_le i c),g,l,y,(a.cell 2 (by omega) (by omega)).trans j,(a.cell 3 (by omega) (by omega)).trans p,fun _=>q,fun h=>absurd h (by omega),fun h=>absurd h (by omega),fun _=>u (by omega)⟩
theorem JI.step1{wr w2:Q}(h:JI W1 P x0 x1 y0 y1 1 wr)(r:U9 x1 y1 P 2 wr.drew w2):JI W1 P x0 x1 y0 y1 2 w2:=by obtain⟨c,l,s0,s1,k,i1,g,b1,j,x,z,c3,y,t1,z0,z1⟩:=h;obtain⟨t,q,e,d,p,u,a⟩:=r;have i:P<wr.heap.size:=J _ _ j;refine⟨c.drew.trans (a.under (Zj i)),fun o=>(a.frozen o).trans (l o),s0,t,a.keeps (w:=wr.drew) (k.below ((N _ _).drew)) (g.mono fun b c=>by omega),e,g,d.mono (fun b c=>Nat.lt_of_lt_of_le i c),(a.cell 0 (by omega) (by omega)).trans j,(a.cell 1 (by omega) (by omega)).trans x,p,u,fun _=>y (by omega),fun _=>q,fun h=>absurd h (by omega),fun h=>absurd h (by omega)⟩
theorem Tryz.info24:(E.info? 24).map (fun i=>(i.zero,i.size,i.bytes))=I (I (Za #[G F 0,C B 0 0]),2,32):=by kernel_rfl
theorem Dh(w:Q):(Instr.makeSlice 22 (G F 0) (G F 0)).run E w=.ok (C (I ⟨w.heap.size,0,B⟩) 0 0) (w.alloc (V #[] 24)):=by
 obtain⟨d,c,a,b,g⟩:=info_parts Tryz.info24;have h:=run_make (P:=E) w 22 24 d _ underlying22 c a F F 0 0 (by omega) (by omega) (by omega) (by omega);rw[h,b];have e:Zl (Value.agg #[G F 0,C B 0 0]).cells (Int.toNat 0*2)=#[]:=by apply Array.ext';simp[Zl,Array.range_zero']
 rw[e];rfl
theorem Dg(w:Q):(Instr.makeSlice 22 (G F 2) (G F 2)).run E w=.ok (C (I ⟨w.heap.size,0,B⟩) 2 2) (w.alloc (V #[G F 0,C B 0 0,G F 0,C B 0 0] 24)):=by
 obtain⟨g,d,b,c,a⟩:=info_parts Tryz.info24;have h:=run_make (P:=E) w 22 24 g _ underlying22 d b F F 2 2 (by omega) (by omega) (by rw[a];omega) (by omega);rw[h,c];have e:Zl (Value.agg #[G F 0,C B 0 0]).cells (Int.toNat 2*2)=#[G F 0,C B 0 0,G F 0,C B 0 0]:=by apply Array.ext';simp[Zl,Value.cells,List.range_succ]
 rw[e];rfl
theorem VT(n:Nat)(i:n<=1000)(k b:Int)(h:(k != b)=true)(a a' p g:Option Addr)(m d c c':Nat)(w:Q):
  X E 110 #[Za #[G F k,C a m c,G F b,C a' d c',O p],G F ((n:Int)+1),O g] w fun e w'=>e=L (Zm #[])/\w'=w.alloc (V #[G F k,C a m c,G F b,C a' d c',O p] 141):=by
 have hz:(((n:Int)+1)==0)=T:=by simp;omega
 go_enter Zk,Zg;go_wp2_with fail;exact bodyPost_ret (v:=Zm #[]) (by simp[results,results110,go_sem]) rfl ⟨rfl,rfl⟩
theorem VS(n:Nat)(q:n<=1000)(k:Int)(a a' j:Option Addr)(c c' ib io:Nat)(w:Q)(d:w.cell? ⟨ib,io,B⟩=I (G F 0))(h:w.cell? ⟨ib,io+1,B⟩=I (C B 0 0))(p:w.frozen? ⟨ib,io,B⟩=T)(o:w.frozen? ⟨ib,io+1,B⟩=T):
  X E 110 #[Za #[G F k,C a 0 c,G F k,C a' 0 c',O (I ⟨ib,io,B⟩)],G F ((n:Int)+1),O j] w fun e w'=>e=L (Zm #[])/\∃g,w'.cell? ⟨ib,io,B⟩=I (G F k)/\w'.cell? ⟨ib,io+1,B⟩=I (C (I ⟨g,0,B⟩) 0 0)/\JC ib io w w':=by
 have hz:(((n:Int)+1)==0)=T:=by simp;omega
 have b:ib<w.heap.size:=J _ _ d;have l:=Dh;go_enter Zk,Zg;go_wp2_with fail;go_loopw [32] (fun i wr=>i=G F 0/\wr=(w.alloc (V #[G F k,C a 0 c,G F k,C a' 0 c',O (I ⟨ib,io,B⟩)] 141)).alloc (V #[] 24)) (fun _ _=>0)
 case atStart=>exact⟨rfl,rfl⟩
 case round=>
  obtain⟨rfl,rfl⟩:=hrel;go_wp2_with fail;go_end0;refine⟨rfl,w.heap.size+1,?_,?_,((JC.of_below (N _ _) b).set _ _).alloc b _ |>.alloc b _⟩
  .refine K (((N _ _).alloc (R _) _).alloc (by simp) _) (XC d h).1
  .refine K (((N _ _).alloc (R _) _).alloc (by simp) _) (XC d h).2
theorem Ay(n:Nat)(hn:n<=1000)(rp:Option Addr)(bx ox by' oy c c' ib io:Nat)(x0 x1 y0 y1:Tr)(w:Q)(z0:w.cell? ⟨ib,io,B⟩=I (G F 0))(z1:w.cell? ⟨ib,io+1,B⟩=I (C B 0 0))(f0:w.frozen? ⟨ib,io,B⟩=T)(f1:w.frozen? ⟨ib,io+1,B⟩=T)
  (cx0:w.cell? ⟨bx,ox,B⟩=I (G F x0.k)) (cx1:w.cell? ⟨bx,ox+1,B⟩=I (C x0.a x0.l.length x0.c)) (cx2:w.cell? ⟨bx,ox+2,B⟩=I (G F x1.k)) (cx3:w.cell? ⟨bx,ox+3,B⟩=I (C x1.a x1.l.length x1.c))
  (cy0:w.cell? ⟨by',oy,B⟩=I (G F y0.k)) (cy1:w.cell? ⟨by',oy+1,B⟩=I (C y0.a y0.l.length y0.c)) (cy2:w.cell? ⟨by',oy+2,B⟩=I (G F y1.k)) (cy3:w.cell? ⟨by',oy+3,B⟩=I (C y1.a y1.l.length y1.c))
  (H0:Zb (∀(P:Nat)(W:Q),w.heap.size<=P->Z w.heap.size w W->W.cell? ⟨P,0,B⟩=I (G F 0)->W.cell? ⟨P,0+1,B⟩=I (C B 0 0)->(∀o,W.frozen? ⟨P,o,B⟩=T)->X E 110 #[Za #[G F x0.k,C x0.a x0.l.length x0.c,G F y0.k,C y0.a y0.l.length y0.c,O (I ⟨P,0,B⟩)],G F (n:Int),O rp] W fun e w'=>e=L (Zm #[])/\U9 x0 y0 P 0 W w'))
  (H1:Zb (∀(P:Nat)(W:Q),w.heap.size<=P->Z w.heap.size w W->W.cell? ⟨P,2,B⟩=I (G F 0)->W.cell? ⟨P,2+1,B⟩=I (C B 0 0)->(∀o,W.frozen? ⟨P,o,B⟩=T)->X E 110 #[Za #[G F x1.k,C x1.a x1.l.length x1.c,G F y1.k,C y1.a y1.l.length y1.c,O (I ⟨P,2,B⟩)],G F (n:Int),O rp] W fun e w'=>e=L (Zm #[])/\U9 x1 y1 P 2 W w')) :
  X E 110 #[Za #[G F 3,C (I ⟨bx,ox,B⟩) 2 c,G F 3,C (I ⟨by',oy,B⟩) 2 c',O (I ⟨ib,io,B⟩)],G F ((n:Int)+1),O rp] w fun e w'=>e=L (Zm #[])/\∃W1 wr P,w.heap.size<=P/\Z w.heap.size w wr/\JI W1 P x0 x1 y0 y1 2 wr/\w'=(wr.setCell ⟨ib,io,B⟩ (G F 3)).setCell ⟨ib,io+1,B⟩ (C (I ⟨P,0,B⟩) 2 2):=by
 have hz:(((n:Int)+1)==0)=T:=by simp;omega
 have lb:ib<w.heap.size:=J _ _ z0;have d:bx<w.heap.size:=J _ _ cx0;have g:by'<w.heap.size:=J _ _ cy0
 have a1:=Dg;have a3:IntKind.i64.wrap (n:Int)=(n:Int):=by rw[IntKind.wrap_i64];omega
 go_enter Zk,Zg;go_wp2_with fail;go_loopg [32] 2 (fun k i wr=>∃j:Nat,k+j=2/\i=G F (j:Int)/\JI (w.alloc (V #[G F 3,C (I ⟨bx,ox,B⟩) 2 c,G F 3,C (I ⟨by',oy,B⟩) 2 c',O (I ⟨ib,io,B⟩)] 141)) (w.heap.size+1) x0 x1 y0 y1 j wr)
 case atStart=>exact⟨0,rfl,rfl,by simpa using JI.start (W1:=w.alloc (V #[G F 3,C (I ⟨bx,ox,B⟩) 2 c,G F 3,C (I ⟨by',oy,B⟩) 2 c',O (I ⟨ib,io,B⟩)] 141)) (x0:=x0) (x1:=x1) (y0:=y0) (y1:=y1)⟩
 case round=>
  obtain⟨j,hj,rfl,q⟩:=hrel;have HJ:=Yx q;obtain⟨l,r,s0,s1,i0,i1,b0,b1,u,d1,x,z,t0,t1,y,e1⟩:=q;have a:bL w wr:=((N _ _).alloc (R _) _).trans (l.mono (by omega));have q1:wr.cell? ⟨w.heap.size,1,B⟩=I (C (I ⟨bx,ox,B⟩) 2 c):=by rw[l.cell (p:=⟨w.heap.size,1,B⟩) (by simp)];simp[go_sem]
  have q3:wr.cell? ⟨w.heap.size,3,B⟩=I (C (I ⟨by',oy,B⟩) 2 c'):=by rw[l.cell (p:=⟨w.heap.size,3,B⟩) (by simp)];simp[go_sem]
  have q4:wr.cell? ⟨w.heap.size,4,B⟩=I (O (I ⟨ib,io,B⟩)):=by rw[l.cell (p:=⟨w.heap.size,4,B⟩) (by simp)];simp[go_sem]
  have q0:wr.cell? ⟨w.heap.size,0,B⟩=I (G F 3):=by rw[l.cell (p:=⟨w.heap.size,0,B⟩) (by simp)];simp[go_sem]
  replace cx0:=K a cx0;replace cx1:=K a cx1;replace cx2:=K a cx2;replace cx3:=K a cx3;replace cy0:=K a cy0;replace cy1:=K a cy1;replace cy2:=K a cy2;replace cy3:=K a cy3;have hP:w.heap.size+1<=wr.heap.size:=Zj (J _ _ u);obtain rfl|rfl|rfl:j=0\/j=1\/j=2:=by omega
  .obtain rfl:=y (by omega);have HG:=KS u d1 r;clear r i0 i1 b0 b1 u d1 x z t0 t1 y e1 z0 z1 f0 f1 q0 q4;go_wp2_with fail;go_region_held3 (fun w'=>w'.cell? ⟨w.heap.size,1,B⟩=I (C (I ⟨bx,ox,B⟩) 2 c)/\w'.cell? ⟨w.heap.size,3,B⟩=I (C (I ⟨by',oy,B⟩) 2 c')/\w'.cell? ⟨bx,ox,B⟩=I (G F x0.k)/\w'.cell? ⟨bx,ox+1,B⟩=I (C x0.a x0.l.length x0.c)/\w'.cell? ⟨by',oy,B⟩=I (G F y0.k)/\w'.cell? ⟨by',oy+1,B⟩=I (C y0.a y0.l.length y0.c))
    (first
     |exact⟨(hu.cell (p:=⟨w.heap.size,1,B⟩) (by simp)).trans q1,(hu.cell (p:=⟨w.heap.size,3,B⟩) (by simp)).trans q3,(hu.cell (p:=⟨bx,_,B⟩) (M d)).trans cx0,(hu.cell (p:=⟨bx,_,B⟩) (M d)).trans cx1,(hu.cell (p:=⟨by',_,B⟩) (M g)).trans cy0,(hu.cell (p:=⟨by',_,B⟩) (M g)).trans cy1⟩
     |go_keep)
    (first
     |(go_at_call 110;refine(H0.out _ _ (Zn _) a.drew HG.out.1 HG.out.2.1 HG.out.2.2).mono ?_;rintro e w2 ⟨rfl,b⟩;have hu:=b.under hP))
   have h:=Yx (JI.step0 HJ.out b);clear b;go_wp2_with fail;go_roundg 1
   case measure=>omega
   case rel=>exact⟨1,rfl,rfl,h⟩
  .obtain rfl:=e1 (by omega);have HG:=KS x z r;clear r i0 i1 b0 b1 u d1 x z t0 t1 y e1 z0 z1 f0 f1 q0 q4;go_wp2_with fail;go_region_held3 (fun w'=>w'.cell? ⟨w.heap.size,1,B⟩=I (C (I ⟨bx,ox,B⟩) 2 c)/\w'.cell? ⟨w.heap.size,3,B⟩=I (C (I ⟨by',oy,B⟩) 2 c')/\w'.cell? ⟨bx,ox+2,B⟩=I (G F x1.k)/\w'.cell? ⟨bx,ox+3,B⟩=I (C x1.a x1.l.length x1.c)/\w'.cell? ⟨by',oy+2,B⟩=I (G F y1.k)/\w'.cell? ⟨by',oy+3,B⟩=I (C y1.a y1.l.length y1.c))
    (first
     |exact⟨(hu.cell (p:=⟨w.heap.size,1,B⟩) (by simp)).trans q1,(hu.cell (p:=⟨w.heap.size,3,B⟩) (by simp)).trans q3,(hu.cell (p:=⟨bx,_,B⟩) (M d)).trans cx2,(hu.cell (p:=⟨bx,_,B⟩) (M d)).trans cx3,(hu.cell (p:=⟨by',_,B⟩) (M g)).trans cy2,(hu.cell (p:=⟨by',_,B⟩) (M g)).trans cy3⟩
     |go_keep)
    (first
     |(go_at_call 110;refine(H1.out _ _ (Zn _) a.drew HG.out.1 HG.out.2.1 HG.out.2.2).mono ?_;rintro e w2 ⟨rfl,b⟩;have hu:=b.under hP))
   have h:=Yx (JI.step1 HJ.out b);clear b;go_wp2_with fail;go_roundg 0
   case measure=>omega
   case rel=>exact⟨2,rfl,rfl,h⟩
  .have zz0:=K a z0;have a2:=K a z1;have a0:wr.frozen? ⟨ib,io,B⟩=T:=(a.frozen (p:=⟨ib,io,B⟩) lb).trans f0;have a4:wr.frozen? ⟨ib,io+1,B⟩=T:=(a.frozen (p:=⟨ib,io+1,B⟩) lb).trans f1;clear r i0 i1 b0 b1 u d1 x z t0 t1 y e1 z0 z1 f0 f1;go_wp2_with fail;go_end0;exact⟨rfl,_,_,_,Zn _,a,HJ.out,rfl⟩
def KW(k:Int)(m:Nat):Bool:=decide (0<=k)&&decide (k<=2)&&((m:Int)==0) || (k==3&&(m:Int)==2)
def X1:Ty->Bool
 |⟨k,l⟩=>KW k l.length&&(l.map fun t=>X1 t).all id
theorem VC(k:Int)(l:List Ty):X1 ⟨k,l⟩=(KW k l.length&&l.all X1):=by rw[X1,List.all_map];rfl
theorem WO(f:Ty->Bool)(l:List Tr)(j:Nat)(h:j<l.length):((l.take (j+1)).all fun t=>f t.ty)=(((l.take j).all fun t=>f t.ty)&&f l[j].ty):=by rw[Y h,List.all_append];simp
theorem Q2(t:Tr):X1 t.ty=(KW t.k t.l.length&&t.l.all fun t=>X1 t.ty):=by obtain⟨k,a,c,l⟩:=t;rw[Tr.ty_mk,VC,List.length_map,List.all_map];rfl
theorem Qq(n:Nat)(x:Tr)(A:Option Addr)(HA:Zb (A=x.a))(w:Q)(hx:x.In w)(hh:x.hgt<=n+1)(hs:x.sm)
  (ih:Zb (∀(x:Tr)(w:Q),x.In w->x.hgt<=n->x.sm->X E 133 #[Za #[G F x.k,C x.a x.l.length x.c]] w fun e w'=>e=L (.bool (X1 x.ty))/\Z w.heap.size w w')) :
  X E 133 #[Za #[G F x.k,C A x.l.length x.c]] w fun e w'=>e=L (.bool (X1 x.ty))/\Z w.heap.size w w':=by
 have a1:=hs.len;have y:bL w (w.alloc (V #[G F x.k,C A x.l.length x.c] 24)):=(N _ _).alloc (R _) _;go_enter func133,ntmps133;go_upto_region 1 with fail;go_cut [3] (fun s3 wx=>s3=.bool (KW x.k x.l.length)/\wx=w.alloc (V #[G F x.k,C A x.l.length x.c] 24))
 case first=>
  by_cases k0:0<=x.k
  .by_cases k2:x.k<=2
   .have k:(x.k==3)=T:=by simp;omega
    cases m0:((x.l.length:Int)==0) with
    |true=>
     go_wp2_with fail;go_meet
     case rel=>exact⟨by simp[KW,k0,k2,m0],rfl⟩
    |false=>
     go_wp2_with fail;go_meet
     case rel=>exact⟨by simp[KW,m0,k],rfl⟩
   .have d2:decide (x.k<=2)=T:=by simpa using k2
    cases k:(x.k==3) with
    |true=>
     go_wp2_with fail;go_meet
     case rel=>exact⟨by simp[KW,d2,k],rfl⟩
    |false=>
     go_wp2_with fail;go_meet
     case rel=>exact⟨by simp[KW,d2,k],rfl⟩
  .have d0:decide (0<=x.k)=T:=by simpa using k0
   have k:(x.k==3)=T:=by simp;omega
   go_wp2_with fail;go_meet
   case rel=>exact⟨by simp[KW,d0,k],rfl⟩
 case rest=>
 obtain⟨h3,z⟩:=hcut;subst h3 z;go_wp2_with fail;go_loopg [3,34] x.l.length (fun g b i wr=>∃(j:Nat)(c:Bool),j<=x.l.length/\g=x.l.length-j/\b=.bool c/\i=G F (j:Int)/\bL w wr/\Zb (c=(KW x.k x.l.length&&(x.l.take j).all fun t=>X1 t.ty)))
 case atStart=>exact⟨0,_,Nat.zero_le _,rfl,rfl,rfl,y,by show _=_;simp⟩
 case round=>
  obtain⟨j,c,hj,hg,rfl,rfl,a,h⟩:=hrel;have HG:=Yx hg;clear hg;by_cases hlt:j<x.l.length
  .obtain⟨b,o,ea,x0,x1,hxj⟩:=hx.part j hlt;have eA:=HA.out.trans ea;subst eA;clear ea HA;replace x0:=K a x0;replace x1:=K a x1;have i1:(j:Int)<(x.l.length:Int):=by omega
   have i0:(0:Int)<=(j:Int):=by omega
   have lb:b<wr.heap.size:=J _ _ x0;obtain⟨r,hr⟩:∃r,X1 x.l[j].ty=r:=⟨_,rfl⟩
   have q:Zb (∀(w:Q),x.l[j].In w->X E 133 #[Za x.l[j].v] w fun e w'=>e=L (.bool r)/\bL w w'):=by intro w h1;have:=ih.out x.l[j] w h1 (Tr.hgt_part hh j hlt) (hs.part j hlt);rw[hr] at this;exact this
   have u:=Yx hr;clear hr;have p:Zb ((KW x.k x.l.length&&(x.l.take (j+1)).all fun t=>X1 t.ty)=((KW x.k x.l.length&&(x.l.take j).all fun t=>X1 t.ty)&&r)):=by
    show _=_
    rw[WO X1 x.l j hlt,u.out,Bool.and_assoc]
   have d:bL w (wr.alloc (V x.l[j].v 24)):=a.alloc a.size _;cases c
   .have HN:Zb (T=(KW x.k x.l.length&&(x.l.take (j+1)).all fun t=>X1 t.ty)):=by show _=_;rw[p.out,<-h.out];rfl
    clear p h q u ih;go_wp2_with fail;go_roundg (x.l.length-(j+1))
    case measure=>rw[HG.out];omega
    case rel=>exact⟨j+1,T,by omega,rfl,rfl,by go_num,d,HN⟩
   .have HN:Zb (r=(KW x.k x.l.length&&(x.l.take (j+1)).all fun t=>X1 t.ty)):=by show _=_;rw[p.out,<-h.out];rfl
    clear p h u ih;go_wp2_with fail;refine(q.out _ (hxj.below d)).mono ?_;rintro e w2 ⟨rfl,l⟩;have a0:=d.trans (l.mono d.size);clear l d q x0 x1;go_wp2_with fail;go_roundg (x.l.length-(j+1))
    case measure=>rw[HG.out];omega
    case rel=>exact⟨j+1,r,by omega,rfl,rfl,by go_num,a0,HN⟩
  .have HN:Zb (c=X1 x.ty):=by
    show _=_
    rw[h.out,Q2,Zd (by omega)]
   clear h;go_wp2_with fail;go_ret;exact⟨by rw[<-HN.out];rfl,a⟩
theorem Ry(n:Nat):∀(x:Tr)(w:Q),x.In w->x.hgt<=n->x.sm->X E 133 #[Za #[G F x.k,C x.a x.l.length x.c]] w fun e w'=>e=L (.bool (X1 x.ty))/\Z w.heap.size w w':=by
 induction n with
 |zero=>intro x w _ h;have:=x.hgt_pos;omega
 |succ n ih=>intro x w b h a;exact Qq n x x.a rfl w b h a (fun x w b h a=>ih x w b h a)
def most(l:List Tr):Nat:=(l.map Tr.hgt).foldr max 0
theorem Lr:∀(l r:List Tr),most (l++r)=max (most l) (most r)
 |[],r=>by simp[most]
 |t::l,r=>by have:=Lr l r;simp only[most,List.cons_append,List.map_cons,List.foldr_cons] at this ⊢;rw[this];omega
theorem VO(l:List Tr)(j:Nat)(h:j<l.length):most (l.take (j+1))=max (most (l.take j)) l[j].hgt:=by rw[Y h,Lr];simp[most]
theorem B5(l:List Tr)(j:Nat):most (l.take j)<=most l:=by have h:=Lr (l.take j) (l.drop j);rw[List.take_append_drop] at h;omega
theorem RB(t:Tr):t.hgt=most t.l+1:=by obtain⟨k,a,c,l⟩:=t;rw[Tr.hgt_mk];rfl
theorem RU(n:Nat)(hn:n<=1000000000)(x:Tr)(A:Option Addr)(HA:Zb (A=x.a))(w:Q)(hx:x.In w)(hh:x.hgt<=n+1)(hs:x.sm)
  (ih:Zb (∀(x:Tr)(w:Q),x.In w->x.hgt<=n->x.sm->X E 134 #[Za #[G F x.k,C x.a x.l.length x.c]] w fun e w'=>e=L (G F (x.hgt:Int))/\Z w.heap.size w w')) :
  X E 134 #[Za #[G F x.k,C A x.l.length x.c]] w fun e w'=>e=L (G F (x.hgt:Int))/\Z w.heap.size w w':=by
 have a0:=hs.len;have hm:=RB x;have y:=Yx hm;have a2:most x.l<=n:=by omega
 clear hm;have l:bL w (w.alloc (V #[G F x.k,C A x.l.length x.c] 24)):=(N _ _).alloc (R _) _;go_enter func134,ntmps134;go_wp2_with fail;go_loopg [3,9] x.l.length (fun g b i wr=>∃(j m:Nat),j<=x.l.length/\g=x.l.length-j/\b=G F (m:Int)/\i=G F (j:Int)/\bL w wr/\Zb (m=most (x.l.take j)))
 case atStart=>exact⟨0,0,Nat.zero_le _,rfl,rfl,rfl,l,rfl⟩
 case round=>
  obtain⟨j,m,hj,z,rfl,rfl,a,d⟩:=hrel;have HG:=Yx z;clear z;have a1:m<=n:=by have:=B5 x.l j;rw[d.out];omega
  by_cases hlt:j<x.l.length
  .obtain⟨b,o,ea,x0,x1,hxj⟩:=hx.part j hlt;have eA:=HA.out.trans ea;subst eA;clear ea HA;replace x0:=K a x0;replace x1:=K a x1;have i1:(j:Int)<(x.l.length:Int):=by omega
   have i0:(0:Int)<=(j:Int):=by omega
   have lb:b<wr.heap.size:=J _ _ x0;obtain⟨r,p⟩:∃r,x.l[j].hgt=r:=⟨_,rfl⟩
   have HI:Zb (∀(w:Q),x.l[j].In w->X E 134 #[Za x.l[j].v] w fun e w'=>e=L (G F (r:Int))/\bL w w'):=by intro w h1;have:=ih.out x.l[j] w h1 (Tr.hgt_part hh j hlt) (hs.part j hlt);rw[p] at this;exact this
   have HT:Zb (most (x.l.take (j+1))=max m r):=by
    show _=_
    rw[VO x.l j hlt,p,<-d.out]
   clear p;have c:bL w (wr.alloc (V x.l[j].v 24)):=a.alloc a.size _;clear d ih;go_wp2_with fail;refine(HI.out _ (hxj.below c)).mono ?_;rintro e w2 ⟨rfl,h⟩;have k:=c.trans (h.mono c.size);clear h c HI x0 x1;rcases Nat.lt_or_ge m r with q|q
   .have hmi:(m:Int)<(r:Int):=by omega
    have u:Zb (r=most (x.l.take (j+1))):=by show _=_;rw[HT.out];omega
    go_wp2_with fail;go_roundg (x.l.length-(j+1))
    case measure=>rw[HG.out];omega
    case rel=>exact⟨j+1,r,by omega,rfl,(by first|rfl|(congr 1;omega)),by go_num,k,u⟩
   .have hmi:(r:Int)<=(m:Int):=by omega
    have u:Zb (m=most (x.l.take (j+1))):=by show _=_;rw[HT.out];omega
    go_wp2_with fail;go_roundg (x.l.length-(j+1))
    case measure=>rw[HG.out];omega
    case rel=>exact⟨j+1,m,by omega,rfl,(by first|rfl|(congr 1;omega)),by go_num,k,u⟩
  .have HN:Zb (m+1=x.hgt):=by
    show _=_
    rw[d.out,y.out,Zd (by omega)]
   clear d y;go_wp2_with fail;go_ret;exact⟨by rw[<-HN.out];rfl,a⟩
theorem Tv(n:Nat):n<=1000000000->∀(x:Tr)(w:Q),x.In w->x.hgt<=n->x.sm->X E 134 #[Za #[G F x.k,C x.a x.l.length x.c]] w fun e w'=>e=L (G F (x.hgt:Int))/\Z w.heap.size w w':=by
 induction n with
 |zero=>intro _ x w _ h;have:=x.hgt_pos;omega
 |succ n ih=>intro c x w b h a;exact RU n (by omega) x x.a rfl w b h a (fun x w b h a=>ih (by omega) x w b h a)
theorem Mg:∀(n:Nat)(t:Tr),Yz n t=(X1 t.ty&&decide (t.hgt<=n))
 |0,t=>by
  have:=t.hgt_pos;have e:decide (t.hgt<=0)=T:=by simp;omega
  rw[e];simp[Yz]
 |n+1,⟨k,a,c,l⟩=>by
  rw[Q2,RB];match l with
  |[]=>
   have e:(k==0 || k==1 || k==2)=(decide (0<=k)&&decide (k<=2)):=by rw[Ze];simp;omega
   simp[Yz,KW,most,e]
  |[x]=>simp[Yz,KW]
  |[x,y]=>
   have h:=Mg n x;have g:=Mg n y;have e:decide (most [x,y]+1<=n+1)=(decide (x.hgt<=n)&&decide (y.hgt<=n)):=by rw[Ze];simp[most];omega
   simp only[Yz,h,g,e,KW,List.all_cons,List.all_nil,List.length_cons,List.length_nil];cases k==3<;>cases X1 x.ty<;>cases X1 y.ty<;>cases decide (x.hgt<=n)<;>simp
  |x::y::z::r=>
   have b:(((x::y::z::r).length:Int)==0)=T:=by simp;omega
   have i:(((x::y::z::r).length:Int)==2)=T:=by simp;omega
   have d:KW k (x::y::z::r).length=T:=by unfold KW;rw[b,i];simp
   simp only[Yz,d,Bool.false_and]
theorem Td(n:Nat)(y:n<=1000000000)(x:Tr)(w:Q)(l:x.In w)(g:x.hgt<=n)(j:x.sm):
  X E 99 #[Za #[G F x.k,C x.a x.l.length x.c]] w fun e w'=>e=L (.bool (Yz 4 x))/\Z w.heap.size w w':=by
 have p:=Mg 4 x;have a:bL w (w.alloc (V x.v 24)):=(N _ _).alloc (R _) _;obtain⟨r,i⟩:∃r,X1 x.ty=r:=⟨_,rfl⟩
 have q:Zb (∀W,x.In W->X E 133 #[Za x.v] W fun e w'=>e=L (.bool r)/\bL W w'):=fun W h=>i▸Ry n x W h g j;have u:Zb (∀W,x.In W->X E 134 #[Za x.v] W fun e w'=>e=L (G F (x.hgt:Int))/\bL W w'):=fun W h=>Tv n y x W h g j;have HG:Zb (Yz 4 x=(r&&decide (x.hgt<=4))):=by show _=_;rw[p,i]
 clear p i g j;cases r
 .go_enter func99,ntmps99;go_wp2_with fail;refine(q.out _ (l.below a)).mono ?_;rintro e d ⟨rfl,c⟩;have b:=a.trans (c.mono a.size);clear c a;go_wp2_with fail;go_ret;exact⟨by rw[HG.out];rfl,b⟩
 .go_enter func99,ntmps99;go_wp2_with fail;refine(q.out _ (l.below a)).mono ?_;rintro e d ⟨rfl,c⟩;have b:=a.trans (c.mono a.size);have p0:d.cell? ⟨w.heap.size,0,B⟩=I (G F x.k):=K c (by simp[go_sem]);have p1:d.cell? ⟨w.heap.size,1,B⟩=I (C x.a x.l.length x.c):=K c (by simp[go_sem]);clear c a;go_wp2_with fail;refine(u.out _ (l.below b)).mono ?_;rintro e w2 ⟨rfl,o⟩;have k:=b.trans (o.mono b.size);have z:Zb (Yz 4 x=decide ((x.hgt:Int)<5)):=by
   show _=_
   rw[HG.out,Bool.true_and,Ze];simp;omega
  clear o b HG;go_wp2_with fail;go_ret;exact⟨by rw[z.out];rfl,k⟩
section
open Go.RowKit Go.Maps
theorem Di:Keyed E 3:=int_keyed U
theorem Dc(w:Q):(zeroValue 3).run E w=.ok (G F 0) w:=by kernel_rfl
theorem JK{b n:Nat}{D:DataW Unit}(hown:w.ownsMap E 3 (plainElem E 3) b n D)(hn:n<100)(k v:Int)(hk:(Lit.int .i64 k).wf=true)(hv:(Lit.int .i64 v).wf=true):
  ∃w',(Instr.mapUpdate 183 (.map (I b)) (.int .i64 k) (.int .i64 v)).run E w=.ok () w'/\w'.ownsMap E 3 (plainElem (H:=Unit) E 3) b (n+1) (D.put (.int .i64 k) (.lit (.int .i64 v)))/\w.grownBy w' (I b):=
 hown.update Di Zi (by unfold maxLen;omega) (keyOf_int_mk U hk) (plainElem_int U hv)
theorem Al(k:Int):DataW.atKey ((((((((((DataW.map (H:=Unit) []).put (.int .i64 1) (.lit (.int .i64 0))).put (.int .i64 2) (.lit (.int .i64 0))).put (.int .i64 3) (.lit (.int .i64 0))).put (.int .i64 4) (.lit (.int .i64 2))).put (.int .i64 5) (.lit (.int .i64 2))).put (.int .i64 6) (.lit (.int .i64 3))).put (.int .i64 7) (.lit (.int .i64 1))).put (.int .i64 8) (.lit (.int .i64 2))).put (.int .i64 9) (.lit (.int .i64 1))) (.int .i64 k) (.lit (.int .i64 0))=.lit (.int .i64 (YA k:Int)):=by
 have e:((((((((((DataW.map (H:=Unit) []).put (.int .i64 1) (.lit (.int .i64 0))).put (.int .i64 2) (.lit (.int .i64 0))).put (.int .i64 3) (.lit (.int .i64 0))).put (.int .i64 4) (.lit (.int .i64 2))).put (.int .i64 5) (.lit (.int .i64 2))).put (.int .i64 6) (.lit (.int .i64 3))).put (.int .i64 7) (.lit (.int .i64 1))).put (.int .i64 8) (.lit (.int .i64 2))).put (.int .i64 9) (.lit (.int .i64 1)))=DataW.map (H:=Unit) [(.int .i64 1,.lit (.int .i64 0)),(.int .i64 2,.lit (.int .i64 0)),(.int .i64 3,.lit (.int .i64 0)),(.int .i64 4,.lit (.int .i64 2)),(.int .i64 5,.lit (.int .i64 2)),(.int .i64 6,.lit (.int .i64 3)),(.int .i64 7,.lit (.int .i64 1)),(.int .i64 8,.lit (.int .i64 2)),(.int .i64 9,.lit (.int .i64 1))]:=by rfl
 rw[e];by_cases hk:1<=k/\k<=9
 .have:k=1\/k=2\/k=3\/k=4\/k=5\/k=6\/k=7\/k=8\/k=9:=by omega
  rcases this with rfl|rfl|rfl|rfl|rfl|rfl|rfl|rfl|rfl<;>rfl
 .have hp:YA k=0:=by unfold YA;rw[if_neg (by omega),if_neg (by omega),if_neg (by omega)]
  have a:∀j:Int,1<=j->j<=9->(Lit.int .i64 j).sameKey (.int .i64 k)=T:=fun j b c=>by simp only[Lit.sameKey,decide_eq_false_iff_not];intro h;omega
  rw[hp];simp[DataW.atKey,List.find?,a]
theorem M0(k:Int)(hk:(Lit.int .i64 k).wf=true)(w:Q):X E 98 #[.int .i64 k] w fun e w'=>e=.returned (.int .i64 (YA k:Int))/\Z w.heap.size w w':=by
 have a0:=@run_makeMap E;go_enter func98,ntmps98;go_wp2_with fail;obtain⟨w1,p,o1,g1⟩:=JK (World.ownsMap_made w E 3 (plainElem (H:=Unit) E 3)) (by omega) 1 0 (by decide) (by decide);rw[p];clear p;go_wp2_with fail;obtain⟨w2,r2,o2,y⟩:=JK o1 (by omega) 2 0 (by decide) (by decide);rw[r2];clear r2;go_wp2_with fail;obtain⟨w3,l,o3,g3⟩:=JK o2 (by omega) 3 0 (by decide) (by decide);rw[l];clear l;go_wp2_with fail;obtain⟨w4,x,o4,g4⟩:=JK o3 (by omega) 4 2 (by decide) (by decide);rw[x];clear x;go_wp2_with fail;obtain⟨w5,r5,z,g5⟩:=JK o4 (by omega) 5 2 (by decide) (by decide);rw[r5];clear r5;go_wp2_with fail;obtain⟨w6,r,o,i⟩:=JK z (by omega) 6 3 (by decide) (by decide);rw[r];clear r;go_wp2_with fail;obtain⟨w7,r7,o7,g7⟩:=JK o (by omega) 7 1 (by decide) (by decide);rw[r7];clear r7;go_wp2_with fail;obtain⟨w8,r8,o8,g8⟩:=JK o7 (by omega) 8 2 (by decide) (by decide);rw[r8];clear r8;go_wp2_with fail;obtain⟨w9,r9,o9,q⟩:=JK o8 (by omega) 9 1 (by decide) (by decide);rw[r9];clear r9;go_wp2_with fail;obtain⟨c,b,d,_⟩:=o9.lookup_int Di Zi U (Dc _) (keyOf_int_mk U hk);rw[Al] at d;have hB:bL w w9:=by have h0:bL w (w.alloc (.map #[] 0)):=(N _ _).alloc (R _) _;have a:∀{u u':Q},bL w u->u.grownBy u' (I w.heap.size)->bL w u':=fun h g=>h.grown g h.size (fun j hj=>by cases hj;exact R _);exact a (a (a (a (a (a (a (a (a h0 g1) y) g3) g4) g5) i) g7) g8) q
 have HB:=Yx hB;have HC:Zb (c=(YA k:Int)):=by
  have:DataW.lit (H:=Unit) (.int .i64 (YA k:Int))=.lit (.int .i64 c):=d;cases this
  exact rfl
 clear d hB o1 o2 o3 o4 z o o7 o8 o9 g1 y g3 g4 g5 i g7 g8 q;rw[b];clear b;go_wp2_with fail;go_ret;exact⟨by rw[HC.out];rfl,HB.out⟩
end
end Go.Proofs.YtnddkmccagiclabGreatDoor
