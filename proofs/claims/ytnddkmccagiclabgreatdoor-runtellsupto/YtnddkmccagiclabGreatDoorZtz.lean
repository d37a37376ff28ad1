import Derived.Test.YtnddkmccagiclabGreatDoorZtp
import Derived.Test.YtnddkmccagiclabGreatDoorZtt
import Derived.Test.YtnddkmccagiclabGreatDoorZtw
import Derived.Test.YtnddkmccagiclabGreatDoorZty
import Derived.Test.YtnddkmccagiclabGreatDoorCards
set_option maxRecDepth 20000
set_option maxHeartbeats 16000000
open Go.RowKit Go.Proofs.Tryz
open Go.IntKind renaming i64→C
open Go.Value renaming int→E,slice→F,agg→Zn,pointer→Zo,tuple→ZC,slice→ZM,ownBlock→ZP
open Option renaming none→I,some→Z,bind_eq_some_iff→Yf
open Go renaming cell_later→Za,World→Zj,bodyPost_ret→Zr,Value→Zs,Calls→Zu,MemPlace→ZD,DataW→ZS,heap_alloc_new→Z1,step_append_lies→Z9
open Nat renaming le_refl→Zb,zero_add→Zk,zero_mul→ZU,le_trans→ZW,lt_of_lt_of_le→Z3,le_of_lt→Yc,add_zero→Yd
open Go.World renaming block_lt_of_cell?→Zc,cell?_setCell_other→Ze,cell?_of_block→Zh,frozen?_of_block→ZE,ownsRow_nil→ZL,frozen?_setCell→ZO,cell?_setCell_far→ZV,news_of_block→Z0
open Go.RowKit.Below renaming refl→Zd
open Go.Obj renaming cells→Zf
open Go.Proofs.Tryz renaming prog→Zg,underlying25→Z8,underlying3→Yb
open Bool renaming false→Zi,true→Zx
open Go.Ending renaming returned→Zl
open Go.RowKit renaming Below→Zm,Hid→Zq
open List renaming getElem_mem→Zp,length_singleton→Zt,map_cons→Zv,length_append→Zw,mem_append→Zy,mem_map→Zz,map_nil→ZA,range→ZB,getElem?_eq_getElem→ZF,getElem_map→ZG,length_eq_zero_iff→ZH,mem_singleton→ZI,map_map→ZQ,getElem?_append_right→ZR,map_append→ZT,getElem?_cons_zero→ZX,getElem_cons_zero→ZY,take_succ_eq_append_getElem→ZZ,getElem_range→Z2,getElem?_append_left→Z5,sum_cons→Z6,mem_or_eq_of_mem_set→Z7,length_cons→Ya,getElem?_cons_succ→Ye,length_map→Yg,length_eq_one_iff→Yh
open Option.some renaming inj→ZJ,injEq→ZN
open List.cons renaming injEq→ZK
open Array renaming getElem?_eq_some_iff→Z4
namespace Go.Proofs.YtnddkmccagiclabGreatDoor
variable {Q:Nat->Prop}{B H J M S b base c cap1 ch cw g gg j:Nat}{cs l ps:List TT}{V V0 W w w' w0 w2 w3 wr:Zj}{X:Obj}{x y:TT}{k:Int}{a ah:Option Addr}{u vh vw:Zs}{ts us uu:List Tr}{G:Gh}
structure KR(Q:Nat->Prop)(base:Nat)(v:Zs)(cs:List TT)(w:Zj):Prop where
 own:w.ownsRow base 27 7 v cs.length (YT cs)
 ins:∀c,c∈cs->c.In w/\c.Bl (fun b=>Q b/\Z b≠v.ownBlock)
theorem KR.nil(Q:Nat->Prop)(base:Nat)(w:Zj):KR Q base (F I 0 0) [] w:=⟨ZL _ _ _ _,fun c h=>by cases h⟩
theorem KR.below{v:Zs}(h:KR Q base v cs w)(e:Zm w.heap.size w w'):KR Q base v cs w':=by
 refine⟨⟨h.own.1,?_⟩,fun c j=>⟨(h.ins c j).1.below e,(h.ins c j).2⟩⟩;rcases h.own.2 with l|⟨g,d,a,k,b,i,rest⟩
 .exact .inl l
 .exact .inr ⟨g,d,a,k,b,(e.block g (Z4.1 i).1).trans i,rest⟩
theorem KR.lt{v:Zs}(h:KR Q base v cs w)(k:Nat)(hk:v.ownBlock=Z k):base<=k/\k<w.heap.size:=h.own.lt k hk
theorem KR.step{v:Zs}{c:TT}(h:KR Q base v cs w2)(hi:c.In w2)(l:c.Bl (fun b=>Q b/\Z b≠v.ownBlock))
  (q:w3.ownsRow base 27 7 (F (Z ⟨gg,0,I⟩) (cs.length+1) cap1) (cs.length+1) (YT cs++YT [c])) (p:(w2.alloc X).grownBy w3 v.ownBlock) (u:v.ownBlock=Z gg\/gg=w2.heap.size+1) :
  KR Q base (F (Z ⟨gg,0,I⟩) (cs.length+1) cap1) (cs++[c]) w3/\∀k,k<w2.heap.size->Z k≠v.ownBlock->w3.heap[k]?=w2.heap[k]?:=by
 have g:∀k,k<w2.heap.size->Z k≠v.ownBlock->w3.heap[k]?=w2.heap[k]?:=fun k y x=>by rw[p.block k (by simp;omega) x];exact((Zd _ w2).alloc (Zb _) X).block k y
 refine⟨⟨by rw[Js,Zw,Zt];exact q,fun d hd=>?_⟩,g⟩;have j:d.In w2/\d.Bl (fun b=>Q b/\Z b≠v.ownBlock):=by
  rcases Zy.1 hd with hd|hd
  .exact h.ins d hd
  .rcases ZI.1 hd with rfl;exact⟨hi,l⟩
 have r:∀b,b<w2.heap.size/\(Q b/\Z b≠v.ownBlock)->Q b/\Z b≠(ZM (Z ⟨gg,0,I⟩) (cs.length+1) cap1).ownBlock:=by
  intro b l;refine⟨l.2.1,?_⟩;show Z b≠Z gg
  rcases u with e|e
  .rw[<-e];exact l.2.2
  .simp only[ne_eq,ZN];omega
 have o:∀b,b<w2.heap.size/\(Q b/\Z b≠v.ownBlock)->∀i,w3.cell? ⟨b,i,I⟩=w2.cell? ⟨b,i,I⟩:=fun b l i=>Zh (a:=⟨b,i,I⟩) (g b l.1 l.2.2)
 have w:=j.1.bl.and j.2;exact⟨j.1.congr (P:=fun b=>b<w2.heap.size/\(Q b/\Z b≠v.ownBlock)) o w,w.mono r⟩
theorem KR.list{v:Zs}(h:KR Q base v cs w):∃a c,v=F a cs.length c/\(∀j(hj:j<cs.length),∃b o,a=Z ⟨b,o,I⟩/\X4 w b (o+j*7) cs[j])/\(∀y,cs≠[]->a=Z y->base<=y.block):=by
 rcases h.own.2 with⟨rfl,q⟩|⟨g,l,e,rfl,p,_⟩
 .have:cs=[]:=ZH.1 q;subst this;exact⟨I,0,rfl,fun j hj=>absurd hj (by simp),fun y h=>absurd rfl h⟩
 .refine⟨_,_,rfl,fun j hj=>⟨g,0,rfl,?_⟩,fun y _ k=>by cases k;exact p⟩;have d:∀i,i<7->w.cell? ⟨g,0+j*7+i,I⟩=_:=fun i hi=>by rw[Zk,h.own.cellAt (j*7+i) (by omega),KL cs j hj i hi]
  exact⟨d 0 (by omega),d 1 (by omega),d 2 (by omega),d 3 (by omega),d 4 (by omega),d 5 (by omega),d 6 (by omega)⟩
structure LF(H:Nat)(x:TT)(W:Zj):Prop where
 b:Xw W H x
 z:KT W (H+1)
theorem LF.lt(h:LF H x W):H+1<W.heap.size:=h.z.lt
theorem LF.below{W':Zj}(h:LF H x W)(hb:Zm W.heap.size W W'):LF H x W':=⟨h.b.below hb,h.z.later hb⟩
theorem LF.far{W':Zj}(h:LF H x W)(e:W'.heap[H]?=W.heap[H]?)(d:W'.heap[H+1]?=W.heap[H+1]?):LF H x W':=by have c1:∀i,W'.cell? ⟨H,i,I⟩=W.cell? ⟨H,i,I⟩:=fun i=>Zh (a:=⟨H,i,I⟩) e;have b:∀i,W'.cell? ⟨H+1,i,I⟩=W.cell? ⟨H+1,i,I⟩:=fun i=>Zh (a:=⟨H+1,i,I⟩) d;have u:∀i,W'.frozen? ⟨H,i,I⟩=W.frozen? ⟨H,i,I⟩:=fun i=>ZE (a:=⟨H,i,I⟩) e;have c:∀i,W'.frozen? ⟨H+1,i,I⟩=W.frozen? ⟨H+1,i,I⟩:=fun i=>ZE (a:=⟨H+1,i,I⟩) d;obtain⟨⟨y0,y1,z,w,p,o,j⟩,y,l,q,g3,g,r,k⟩:=h.z;exact⟨⟨h.b.at7.of c1,fun i hi=>(u i).trans (h.b.fz i hi)⟩,⟨(b 0).trans y0,(b 1).trans y1,(b 2).trans z,(b 3).trans w,(b 4).trans p,(b 5).trans o,(b 6).trans j⟩,(c 0).trans y,(c 1).trans l,(c 2).trans q,(c 3).trans g3,(c 4).trans g,(c 5).trans r,(c 6).trans k⟩
theorem LF.start(x:TT)(w:Zj):LF w.heap.size x ((w.alloc (Zf #[E C x.k,E C x.n,E C x.t.k,F x.t.a x.t.l.length x.t.c,E C x.f.k,F x.f.a x.f.l.length x.f.c,F x.a x.l.length x.c] 27)).alloc (Zf #[E C 0,E C 0,E C 0,F I 0 0,E C 0,F I 0 0,F I 0 0] 27)):=by refine⟨⟨⟨?_,?_,?_,?_,?_,?_,?_⟩,fun i _=>?_⟩,⟨?_,?_,?_,?_,?_,?_,?_⟩,?_,?_,?_,?_,?_,?_,?_⟩<;>simp[go_sem]
def TT.lw:TT->Prop
 |⟨_,_,_,_,_,_,l⟩=>l.length<=1353245080300/\∀y,y∈l->y.lw
theorem TT.lw_mk{n:Int}{t f:Tr}:(TT.mk k n t f a c l).lw↔l.length<=1353245080300/\∀y,y∈l->y.lw:=by rw[TT.lw]
theorem TT.lw.len(h:x.lw):x.l.length<=1353245080300:=by cases x;exact(TT.lw_mk.1 h).1
theorem TT.lw.mem(h:x.lw)(b:y∈x.l):y.lw:=by obtain⟨k,n,t,f,a,c,l⟩:=x;exact(TT.lw_mk.1 h).2 y b
theorem KT.kept{R:Nat}(h:KT w b)(a:Yi R I w w')(c:b≠R):KT w' b:=by have d:=h.lt;obtain⟨⟨u,q,k,x,l,r,g⟩,z,j,e,o,i,p,y⟩:=h;exact⟨⟨a.cell u c,a.cell q c,a.cell k c,a.cell x c,a.cell l c,a.cell r c,a.cell g c⟩,a.fz z d c,a.fz j d c,a.fz e d c,a.fz o d c,a.fz i d c,a.fz p d c,a.fz y d c⟩
def Dp(x p:TT)(w W:Zj):Prop:=p.In W/\p.Bl (·<w.heap.size)/\p.sz<=x.sz/\YE p.tm=YE x.tm/\∀Q:Nat->Prop,x.Bl Q->p.Bl Q
def TO(x:TT)(w:Zj)(e:Ending)(w':Zj):Prop:=∃q:TT,e=Zl (Zn #[E C q.k,E C q.n,E C q.t.k,F q.t.a q.t.l.length q.t.c,E C q.f.k,F q.f.a q.f.l.length q.f.c,F q.a q.l.length q.c])/\q.In w'/\(∀Q:Nat->Prop,x.Bl Q->q.Bl Q)/\q.sz<=x.sz/\YE x.tm=⟨q.k,q.n,Yn,Yn,(q.l.map TT.tm).map YE⟩/\Zm w.heap.size w w'
theorem RT{k n:Int}{l:List Tm}(hs:¬((k=9\/k=10)/\l.length=1)):M5 k n l=⟨k,n,Yn,Yn,l⟩:=by
 match l,hs with
 |[],_=>rfl
 |[y],hs=>have a:¬(k=9\/k=10):=fun h=>hs ⟨h,rfl⟩;exact if_neg a
 |y::z::r,_=>rfl
theorem Me{p:TT}(c:Zm w.heap.size w wr)(g:LF w.heap.size p wr)(d:Dp x p w wr)(o:¬((p.k=9\/p.k=10)/\p.l.length=1)):TO x w (Zl (Zn #[E C p.k,E C p.n,E C p.t.k,F p.t.a p.t.l.length p.t.c,E C p.f.k,F p.f.a p.f.l.length p.f.c,F p.a p.l.length p.c])) (Y5 wr (w.heap.size+1) p):=by
 obtain⟨j,h,l,i,k⟩:=d;have a:=YF (w:=wr) (J:=w.heap.size+1) (x:=p);refine⟨p,rfl,j.keptR a (h.mono fun b c=>by omega),k,l,?_,c.trans ((a.below (by simp) (Yc g.lt)).mono (by omega))⟩;rw[<-i];have e:p.tm=⟨p.k,p.n,p.t.ty,p.f.ty,p.l.map TT.tm⟩:=by cases p;rw[TT.tm_mk]
 rw[e,KK,RT (by rw[Yg,Yg];exact o)]
theorem Nt{p:TT}(j:Zm w.heap.size w wr)(h:LF w.heap.size p wr)(o:Dp x p w wr)(d:p.l=[y])(g:p.k=9\/p.k=10)(u:y.In wr):Zm w.heap.size w (Y5 wr w.heap.size y)/\LF w.heap.size y (Y5 wr w.heap.size y)/\Dp x y w (Y5 wr w.heap.size y):=by
 obtain⟨h1,r,h3,h4,h5⟩:=o;have i:=YF (w:=wr) (J:=w.heap.size) (x:=y);have e:y.Bl (·<w.heap.size):=r.mem (by rw[d];simp);have q:=h.lt;refine⟨j.trans ((i.below (by simp) (by omega)).mono (Zb _)),⟨XH h.b,h.z.kept i (by omega)⟩,u.keptR i (e.mono fun b j=>by omega),e,?_,?_,fun Q z=>(h5 Q z).mem (by rw[d];simp)⟩
 .have:=p.sz_eq;rw[d] at this;simp at this;omega
 .rw[<-h4];obtain⟨k,n,t,f,a,c,l⟩:=p;simp only at d g;subst d;rw[TT.tm_mk,KK];simp[M5,g]
theorem Te(x:TT)(w:Zj)(hx:x.In w):Zu Zg 47 #[Zn #[E C x.k,E C x.n,E C x.t.k,F x.t.a x.t.l.length x.t.c,E C x.f.k,F x.f.a x.f.l.length x.f.c,F x.a x.l.length x.c]] w (TO x w):=by
 obtain⟨W1,a1⟩:∃W1,W1=((w.alloc (Zf x.v 27)).alloc (Zf #[E C 0,E C 0,E C 0,F I 0 0,E C 0,F I 0 0,F I 0 0] 27)):=⟨_,rfl⟩
 have a3:bL w W1:=by rw[a1];exact((Zd _ _).alloc (Zb _) _).alloc (by simp) _
 have a4:Zq (bL w W1/\LF w.heap.size x W1/\Dp x x w W1):=⟨a3,by rw[a1];exact LF.start x w,hx.below a3,hx.bl,Zb _,rfl,fun _ h=>h⟩
 clear hx a3;go_enter func47,ntmps47;go_wp2_with fail;rw[<-a1];clear a1;go_loopg [] x.sz (fun g wr=>∃p:TT,g=p.sz/\Zq (bL w wr/\LF w.heap.size p wr/\Dp x p w wr))
 case atStart=>exact⟨x,rfl,a4⟩
 case round=>
  obtain⟨p,hg,d⟩:=hrel;subst hg;clear a4;by_cases k10:p.k=10
  .have e10:(p.k==10)=Zx:=by simpa using k10
   have i:Zq (p.k=9\/p.k=10):=.inr k10;by_cases hl1:p.l.length=1
   .have c:=Yx hl1;clear k10 hl1;obtain⟨b,o,ea,h7,k⟩:=d.out.2.2.1.part 0 (by rw[c.out];omega);obtain⟨y,e⟩:∃y,p.l=[y]:=Yh.1 c.out;have a0:p.l[0]'(by rw[c.out];omega)=y:=by simp[e]
    rw[a0] at h7 k;obtain⟨d0,d1,d2,d3,d4,d5,d6⟩:=h7;simp only[ZU,Yd] at d0 d1 d2 d3 d4 d5 d6;have j:=d.out.2.1.b;obtain⟨⟨q0,q1,q2,q3,q4,q5,l⟩,a⟩:=j;simp only[Zk] at q0 q1 q2 q3 q4 q5 l;have g0:=a 0 (by omega);have g1:=a 1 (by omega);have g2:=a 2 (by omega);have g3:=a 3 (by omega);have g4:=a 4 (by omega);have g5:=a 5 (by omega);have g6:=a 6 (by omega);clear a;rw[ea] at l;rw[c.out] at l;have a2:b<w.heap.size:=d.out.2.2.2.1.own (by rw[e];simp) _ ea;have a5:b≠w.heap.size:=by omega
    have HN:=Yx (Nt d.out.1 d.out.2.1 d.out.2.2 e i.out k);have HM:Zq (y.sz<p.sz):=by
     have h1:=p.sz_eq;rw[e] at h1;simp at h1;show _<_
     omega
    clear d i c ea k e a0 a2;go_wp2_with fail;go_roundg y.sz
    case measure=>exact HM.out
    case rel=>exact⟨y,rfl,HN⟩
   .have c:=Yx hl1;have el:((p.l.length:Int)==1)=Zi:=by simp;omega
    clear k10 hl1;have HN:=Yx (Me d.out.1 d.out.2.1 d.out.2.2 (by exact fun h=>c.out h.2));have j:=d.out.2.1.b;obtain⟨q,z,u,e3,e4,r,e6⟩:=(XH (x:=p) d.out.2.1.z.box).at7;simp only[Zk] at q z u e3 e4 r e6;obtain⟨⟨y0,y1,y2,y3,y4,y5,y6⟩,f0,f1,f2,f3,f4,f5,f6⟩:=d.out.2.1.z;obtain⟨⟨q0,q1,q2,q3,q4,q5,l⟩,a⟩:=j;simp only[Zk] at q0 q1 q2 q3 q4 q5 l;have g0:=a 0 (by omega);have g1:=a 1 (by omega);have g2:=a 2 (by omega);have g3:=a 3 (by omega);have g4:=a 4 (by omega);have g5:=a 5 (by omega);have g6:=a 6 (by omega);clear a;clear d i c;go_wp2_with fail;refine Zr (v:=Zn p.v) ?_ rfl HN.out;unfold Y5 at q z u e3 e4 r e6;simp[results,results47,go_sem,q,z,u,e3,e4,r,e6]
  .have e10:(p.k==10)=Zi:=by simpa using k10
   by_cases k9:p.k=9
   .have e9:(p.k==9)=Zx:=by simpa using k9
    have i:Zq (p.k=9\/p.k=10):=.inl k9;by_cases hl1:p.l.length=1
    .have c:=Yx hl1;clear k10 k9 hl1;obtain⟨b,o,ea,h7,k⟩:=d.out.2.2.1.part 0 (by rw[c.out];omega);obtain⟨y,e⟩:∃y,p.l=[y]:=Yh.1 c.out;have a0:p.l[0]'(by rw[c.out];omega)=y:=by simp[e]
     rw[a0] at h7 k;obtain⟨d0,d1,d2,d3,d4,d5,d6⟩:=h7;simp only[ZU,Yd] at d0 d1 d2 d3 d4 d5 d6;have j:=d.out.2.1.b;obtain⟨⟨q0,q1,q2,q3,q4,q5,l⟩,a⟩:=j;simp only[Zk] at q0 q1 q2 q3 q4 q5 l;have g0:=a 0 (by omega);have g1:=a 1 (by omega);have g2:=a 2 (by omega);have g3:=a 3 (by omega);have g4:=a 4 (by omega);have g5:=a 5 (by omega);have g6:=a 6 (by omega);clear a;rw[ea] at l;rw[c.out] at l;have a2:b<w.heap.size:=d.out.2.2.2.1.own (by rw[e];simp) _ ea;have a5:b≠w.heap.size:=by omega
     have HN:=Yx (Nt d.out.1 d.out.2.1 d.out.2.2 e i.out k);have HM:Zq (y.sz<p.sz):=by
      have h1:=p.sz_eq;rw[e] at h1;simp at h1;show _<_
      omega
     clear d i c ea k e a0 a2;go_wp2_with fail;go_roundg y.sz
     case measure=>exact HM.out
     case rel=>exact⟨y,rfl,HN⟩
    .have c:=Yx hl1;have el:((p.l.length:Int)==1)=Zi:=by simp;omega
     clear k10 k9 hl1;have HN:=Yx (Me d.out.1 d.out.2.1 d.out.2.2 (by exact fun h=>c.out h.2));have j:=d.out.2.1.b;obtain⟨q,z,u,e3,e4,r,e6⟩:=(XH (x:=p) d.out.2.1.z.box).at7;simp only[Zk] at q z u e3 e4 r e6;obtain⟨⟨y0,y1,y2,y3,y4,y5,y6⟩,f0,f1,f2,f3,f4,f5,f6⟩:=d.out.2.1.z;obtain⟨⟨q0,q1,q2,q3,q4,q5,l⟩,a⟩:=j;simp only[Zk] at q0 q1 q2 q3 q4 q5 l;have g0:=a 0 (by omega);have g1:=a 1 (by omega);have g2:=a 2 (by omega);have g3:=a 3 (by omega);have g4:=a 4 (by omega);have g5:=a 5 (by omega);have g6:=a 6 (by omega);clear a;clear d i c;go_wp2_with fail;refine Zr (v:=Zn p.v) ?_ rfl HN.out;unfold Y5 at q z u e3 e4 r e6;simp[results,results47,go_sem,q,z,u,e3,e4,r,e6]
   .have e9:(p.k==9)=Zi:=by simpa using k9
    have i:Zq (¬(p.k=9\/p.k=10)):=by show ¬_;omega
    have c:Zq True:=trivial;clear k10 k9;have HN:=Yx (Me d.out.1 d.out.2.1 d.out.2.2 (by exact fun h=>i.out h.1));have j:=d.out.2.1.b;obtain⟨q,z,u,e3,e4,r,e6⟩:=(XH (x:=p) d.out.2.1.z.box).at7;simp only[Zk] at q z u e3 e4 r e6;obtain⟨⟨y0,y1,y2,y3,y4,y5,y6⟩,f0,f1,f2,f3,f4,f5,f6⟩:=d.out.2.1.z;obtain⟨⟨q0,q1,q2,q3,q4,q5,l⟩,a⟩:=j;simp only[Zk] at q0 q1 q2 q3 q4 q5 l;have g0:=a 0 (by omega);have g1:=a 1 (by omega);have g2:=a 2 (by omega);have g3:=a 3 (by omega);have g4:=a 4 (by omega);have g5:=a 5 (by omega);have g6:=a 6 (by omega);clear a;clear d i c;go_wp2_with fail;refine Zr (v:=Zn p.v) ?_ rfl HN.out;unfold Y5 at q z u e3 e4 r e6;simp[results,results47,go_sem,q,z,u,e3,e4,r,e6]
structure L3 where
 n:Int
 f:Tr
 t:Tr
def L3.m(s:L3):Int×Ty×Ty:=(s.n,s.f.ty,s.t.ty)
def Nx(s:L3):List Zs:=[E C s.n,E C s.f.k,F s.f.a s.f.l.length s.f.c,E C s.t.k,F s.t.a s.t.l.length s.t.c]
def LA(ss:List L3):List Zs:=ss.flatMap Nx
theorem PQ:∀(l:List L3)(j:Nat)(h:j<l.length)(i:Nat),i<5->(LA l)[j*5+i]?=(Nx l[j])[i]?
 |[],j,h,_,_=>by simp at h
 |x::r,0,_,i,hi=>by
  have:LA (x::r)=Nx x++LA r:=by simp[LA]
  rw[this,Z5 (by simp[Nx];omega)];simp
 |x::r,j+1,h,i,hi=>by
  have a:=PQ r j (by simpa using h) i hi;have e:LA (x::r)=Nx x++LA r:=by simp[LA]
  rw[e,ZR (by simp[Nx];omega)];have:(j+1)*5+i-(Nx x).length=j*5+i:=by simp[Nx];omega
  rw[this];simpa using a
def TT.cok:TT->Prop
 |⟨k,_,t,f,_,_,l⟩=>(k=10->(t.right/\t.hgt<=1000)/\f.right/\f.hgt<=1000)/\∀y,y∈l->y.cok
theorem TT.cok_mk{n:Int}{t f:Tr}:(TT.mk k n t f a c l).cok↔(k=10->(t.right/\t.hgt<=1000)/\f.right/\f.hgt<=1000)/\∀y,y∈l->y.cok:=by rw[TT.cok]
theorem TT.cok.top(h:x.cok):x.k=10->(x.t.right/\x.t.hgt<=1000)/\x.f.right/\x.f.hgt<=1000:=by cases x;exact(TT.cok_mk.1 h).1
theorem TT.cok.mem(h:x.cok)(b:y∈x.l):y.cok:=by obtain⟨k,n,t,f,a,c,l⟩:=x;exact(TT.cok_mk.1 h).2 y b
structure SI(B:Nat)(v u:Zs)(ps:List TT)(ss:List L3)(w:Zj):Prop where
 ov:w.ownsRow B 27 7 v ps.length (YT ps)
 ou:w.ownsRow B 52 5 u ss.length (LA ss)
 ne:∀g,v.ownBlock=Z g->u.ownBlock≠Z g
 pi:∀p,p∈ps->Ww B w p/\p.cok
 si:∀s,s∈ss->s.f.In w/\s.t.In w/\s.f.Bl (fun b=>B<=b/\Z b≠v.ownBlock/\Z b≠u.ownBlock)/\s.t.Bl (fun b=>B<=b/\Z b≠v.ownBlock/\Z b≠u.ownBlock)
theorem SI.below{v:Zs}{ss:List L3}(h:SI B v u ps ss w)(hb:Zm w.heap.size w w')(hB:B<=w.heap.size):SI B v u ps ss w':=⟨Kd h.ov hb,Kd h.ou hb,h.ne,fun p hp=>⟨(h.pi p hp).1.low (hb.mono hB),(h.pi p hp).2⟩,fun s hs=>⟨(h.si s hs).1.below hb,(h.si s hs).2.1.below hb,(h.si s hs).2.2⟩⟩
theorem SI.grow{v:Zs}{ss:List L3}{x:Zs}(h:SI B v u ps ss w2)(hB:B<=w2.heap.size)(r:x=v\/x=u)(d:∀k,k<w2.heap.size->Z k≠x.ownBlock->w3.heap[k]?=w2.heap[k]?)(j:x.ownBlock=Z gg\/w2.heap.size<=gg):
  (∀p,p∈ps->Ww B w3 p/\p.cok)/\∀s,s∈ss->s.f.In w3/\s.t.In w3/\s.f.Bl (fun b=>(B<=b/\Z b≠v.ownBlock/\Z b≠u.ownBlock)/\b≠gg)/\s.t.Bl (fun b=>(B<=b/\Z b≠v.ownBlock/\Z b≠u.ownBlock)/\b≠gg):=by
 have l:∀k,x.ownBlock=Z k->B<=k:=fun k w=>by
  rcases r with rfl|rfl
  .exact(h.ov.lt k w).1
  .exact(h.ou.lt k w).1
 refine⟨fun p i=>⟨⟨(h.pi p i).1.1.congr (P:=(·<B)) (fun b c o=>?_) (h.pi p i).1.2,(h.pi p i).1.2⟩,(h.pi p i).2⟩,fun s z=>?_⟩
 .exact Zh (a:=⟨b,o,I⟩) (d b (by omega) fun e=>by have:=l b e.symm;omega)
 .obtain⟨h1,h2,h3,h4⟩:=h.si s z;have g:∀b,b<w2.heap.size/\(B<=b/\Z b≠v.ownBlock/\Z b≠u.ownBlock)->Z b≠x.ownBlock:=by
   intro b c;rcases r with rfl|rfl
   .exact c.2.2.1
   .exact c.2.2.2
  have y:∀b,b<w2.heap.size/\(B<=b/\Z b≠v.ownBlock/\Z b≠u.ownBlock)->∀o,w3.cell? ⟨b,o,I⟩=w2.cell? ⟨b,o,I⟩:=fun b c o=>Zh (a:=⟨b,o,I⟩) (d b c.1 (g b c))
  have q:∀b,b<w2.heap.size/\(B<=b/\Z b≠v.ownBlock/\Z b≠u.ownBlock)->(B<=b/\Z b≠v.ownBlock/\Z b≠u.ownBlock)/\b≠gg:=by
   intro b c;refine⟨c.2,fun e=>?_⟩;subst e;rcases j with e|e
   .exact g b c e.symm
   .omega
  exact⟨h1.congr (P:=fun b=>b<w2.heap.size/\(B<=b/\Z b≠v.ownBlock/\Z b≠u.ownBlock)) y (h1.bl.and h3),h2.congr (P:=fun b=>b<w2.heap.size/\(B<=b/\Z b≠v.ownBlock/\Z b≠u.ownBlock)) y (h2.bl.and h4),(h1.bl.and h3).mono q,(h2.bl.and h4).mono q⟩
def SL(w:Zj)(a:Option Addr)(ss:List L3):Prop:=∀j(h:j<ss.length),∃b o,a=Z ⟨b,o,I⟩/\w.cell? ⟨b,o+j*5,I⟩=Z (E C ss[j].n)/\w.cell? ⟨b,o+j*5+1,I⟩=Z (E C ss[j].f.k)/\w.cell? ⟨b,o+j*5+2,I⟩=Z (F ss[j].f.a ss[j].f.l.length ss[j].f.c)/\w.cell? ⟨b,o+j*5+3,I⟩=Z (E C ss[j].t.k)/\w.cell? ⟨b,o+j*5+4,I⟩=Z (F ss[j].t.a ss[j].t.l.length ss[j].t.c)/\ss[j].f.In w/\ss[j].t.In w
theorem SI.list{v:Zs}{ss:List L3}(h:SI B v u ps ss w):∃a c,u=F a ss.length c/\(SL w a ss/\ss.length<=c):=by
 rcases h.ou.2 with⟨rfl,o⟩|⟨g,l,k,rfl,p,_,e,_⟩
 .have:ss=[]:=ZH.1 o;subst this;exact⟨I,0,rfl,fun j b=>absurd b (by simp),by simp⟩
 .refine⟨_,_,rfl,fun j b=>⟨g,0,rfl,?_⟩,e⟩;have d:∀i,i<5->w.cell? ⟨g,0+j*5+i,I⟩=_:=fun i hi=>by rw[Zk,h.ou.cellAt (j*5+i) (by omega),PQ ss j b i hi]
  exact⟨d 0 (by omega),d 1 (by omega),d 2 (by omega),d 3 (by omega),d 4 (by omega),(h.si _ (Zp b)).1,(h.si _ (Zp b)).2.1⟩
structure Ho where
 p:TT
 b:Nat
 j:Nat
def KM(h:Ho):List Zs:=[E C h.p.k,E C h.p.n,E C h.p.t.k,F h.p.t.a h.p.t.l.length h.p.t.c,E C h.p.f.k,F h.p.f.a h.p.f.l.length h.p.f.c,F h.p.a h.p.l.length h.p.c,Zo (Z ⟨h.b,h.j*7,I⟩)]
def XQ(hs:List Ho):List Zs:=hs.flatMap KM
theorem L1(a b:List Ho):XQ (a++b)=XQ a++XQ b:=by simp[XQ]
theorem TC(h:Ho):XQ [h]=KM h:=by simp[XQ]
theorem Pf(l:List Ho):(XQ l).length=l.length*8:=by
 induction l with
 |nil=>rfl
 |cons a r ih=>simp[XQ,KM] at ih ⊢;omega
theorem PO:∀(l:List Ho)(j:Nat)(h:j<l.length)(i:Nat),i<8->(XQ l)[j*8+i]?=(KM l[j])[i]?
 |[],j,h,_,_=>by simp at h
 |x::r,0,_,i,hi=>by
  have:XQ (x::r)=KM x++XQ r:=by simp[XQ]
  rw[this,Z5 (by simp[KM];omega)];simp
 |x::r,j+1,h,i,hi=>by
  have a:=PO r j (by simpa using h) i hi;have e:XQ (x::r)=KM x++XQ r:=by simp[XQ]
  rw[e,ZR (by simp[KM];omega)];have:(j+1)*8+i-(KM x).length=j*8+i:=by simp[KM];omega
  rw[this];simpa using a
def C5(B:Nat)(w:Zj)(b j:Nat)(m:Tm):Prop:=∃y:TT,X4 w b (j*7) y/\y.In w/\y.tm=m/\y.Bl (B<=·)
def AA(hs:List Ho)(b i:Nat):Prop:=∃h,h∈hs/\h.b=b/\h.j*7<=i/\i<h.j*7+7
def UP(w:Zj)(b j:Nat):Prop:=∀i,i<7->(∃u,w.cell? ⟨b,j*7+i,I⟩=Z u)/\w.frozen? ⟨b,j*7+i,I⟩=Zi
theorem UP.of(h:UP w b j)(e:w'.heap[b]?=w.heap[b]?):UP w' b j:=fun i hi=>by obtain⟨⟨u,hu⟩,hf⟩:=h i hi;exact⟨⟨u,(Zh (a:=⟨b,j*7+i,I⟩) e).trans hu⟩,(ZE (a:=⟨b,j*7+i,I⟩) e).trans hf⟩
theorem UP.set{b' o':Nat}{v:Zs}(h:UP w b j):UP (w.setCell ⟨b',o',I⟩ v) b j:=fun i hi=>by
 obtain⟨⟨u,hu⟩,hf⟩:=h i hi;refine⟨?_,by rw[ZO];exact hf⟩;by_cases e:b'=b
 .subst e;exact⟨_,Yp hu⟩
 .exact⟨u,by rw[Ze _ _ _ _ (fun e2=>e (congrArg Addr.block e2))];exact hu⟩
theorem UP.put{b' o':Nat}(h:UP w b j):UP (Ut w b' o' x) b j:=h.set.set.set.set.set.set.set
structure EI(B:Nat)(m:Tm)(WB:Nat)(v:Zs)(hs:List Ho)(D:Nat->Prop)(w:Zj):Prop where
 own:w.ownsRow B 82 8 v hs.length (XQ hs)
 d:∀b,D b->B<=b/\b<w.heap.size/\Z b≠v.ownBlock
 ho:∀h,h∈hs->Ww B w h.p/\D h.b/\UP w h.b h.j
 nd:(hs.map fun h=>(h.b,h.j)).Nodup
 k:∀w',(∀b i,D b->¬AA hs b i->w'.cell? ⟨b,i,I⟩=w.cell? ⟨b,i,I⟩)->(∀h,h∈hs->C5 B w' h.b h.j (YE h.p.tm))->C5 B w' WB 0 m
theorem EI.ends{WB:Nat}{m:Tm}{v:Zs}{D:Nat->Prop}(h:EI B m WB v [] D w):C5 B w WB 0 m:=h.k w (fun _ _ _ _=>rfl) fun q hq=>by cases hq
def Ug(g:Nat)(l:List TT):List Ho:=(ZB l.length).pmap (fun j hj=>⟨l[j]'(by simpa using hj),g,j⟩) (fun j hj=>hj)
theorem XI(g:Nat)(l:List TT):(Ug g l).length=l.length:=by simp[Ug]
theorem KE(g:Nat)(l:List TT)(j:Nat)(h:j<(Ug g l).length)(a:j<l.length):(Ug g l)[j]=⟨l[j],g,j⟩:=by simp[Ug]
theorem Qk{o i:Nat}(h:i<o\/o+7<=i):(Ut w J o x).cell? ⟨J,i,I⟩=w.cell? ⟨J,i,I⟩:=by
 have n:∀k,k<7->(⟨J,o+k,I⟩:Addr)≠⟨J,i,I⟩:=fun k a e=>by have:=congrArg Addr.off e;simp only at this;omega
 unfold Ut;rw[Ze _ _ _ _ (n 6 (by omega)),Ze _ _ _ _ (n 5 (by omega)),Ze _ _ _ _ (n 4 (by omega)),Ze _ _ _ _ (n 3 (by omega)),Ze _ _ _ _ (n 2 (by omega)),Ze _ _ _ _ (n 1 (by omega))];exact Ze _ _ _ _ (n 0 (by omega))
theorem SV(h:UP w J j):X4 (Ut w J (j*7) x) J (j*7) x:=by
 obtain⟨u0,g⟩:=(h 0 (by omega)).1;obtain⟨u1,d⟩:=(h 1 (by omega)).1;obtain⟨u2,b⟩:=(h 2 (by omega)).1;obtain⟨u3,i⟩:=(h 3 (by omega)).1;obtain⟨u4,c⟩:=(h 4 (by omega)).1;obtain⟨u5,e⟩:=(h 5 (by omega)).1;obtain⟨u6,a⟩:=(h 6 (by omega)).1;refine⟨?_,?_,?_,?_,?_,?_,?_⟩
 .simpa using Xa (o:=j*7) x g
 .simpa using Xa (o:=j*7) x d
 .simpa using Xa (o:=j*7) x b
 .simpa using Xa (o:=j*7) x i
 .simpa using Xa (o:=j*7) x c
 .simpa using Xa (o:=j*7) x e
 .simpa using Xa (o:=j*7) x a
theorem LO{h:Ho}(b:h∈Ug g l):∃(j:Nat)(hj:j<l.length),h=⟨l[j],g,j⟩:=by
 obtain⟨j,hj,rfl⟩:=List.getElem_of_mem b;have a:j<l.length:=by rwa [XI] at hj
 exact⟨j,a,KE g l j hj a⟩
theorem EI.step{WB:Nat}{m:Tm}{v v2:Zs}{us:List Ho}{h:Ho}{q:TT}{D:Nat->Prop}(e:EI B m WB v (us++[h]) D w)(hq:YE h.p.tm=⟨q.k,q.n,Yn,Yn,(q.l.map TT.tm).map YE⟩)
  (an:∀y,y∈q.l->Ww B w2 y) (hg:B<=g) (av:w.heap.size<=g) (aw:g<w2.heap.size) (ak:∀j,j<q.l.length->UP w2 g j) (a3:w2.ownsRow B 82 8 v2 (us++Ug g q.l).length (XQ (us++Ug g q.l)))
  (a8:∀b,v2.ownBlock=Z b->v.ownBlock=Z b\/w.heap.size<=b) (ab:v2.ownBlock≠Z g)
  (a5:Zm B w w2) (hD:∀b,D b->w2.heap[b]?=w.heap[b]?) :
  EI B m WB v2 (us++Ug g q.l) (fun b=>D b\/b=g) (Ut w2 h.b (h.j*7) ⟨q.k,q.n,Yr 0,Yr 0,Z ⟨g,0,I⟩,q.l.length,q.l⟩):=by
 have hk:=Lp (w:=w2) (J:=h.b) (o:=h.j*7) (x:=⟨q.k,q.n,Yr 0,Yr 0,Z ⟨g,0,I⟩,q.l.length,q.l⟩);obtain⟨W,hW⟩:∃W,W=Ut w2 h.b (h.j*7) ⟨q.k,q.n,Yr 0,Yr 0,Z ⟨g,0,I⟩,q.l.length,q.l⟩:=⟨_,rfl⟩
 have ar:W.heap.size=w2.heap.size:=by rw[hW,Lo]
 obtain⟨ay,a4,aj⟩:=e.ho h (by simp);obtain⟨ae,ax,ap⟩:=e.d h.b a4;have am:UP w2 h.b h.j:=aj.of (hD _ a4);have h7:X4 W h.b (h.j*7) ⟨q.k,q.n,Yr 0,Yr 0,Z ⟨g,0,I⟩,q.l.length,q.l⟩:=by rw[hW];exact SV am
 have a6:∀i,i<h.j*7\/h.j*7+7<=i->W.cell? ⟨h.b,i,I⟩=w2.cell? ⟨h.b,i,I⟩:=fun i hi=>by rw[hW];exact Qk hi
 have a1:∀b j,UP w2 b j->UP W b j:=fun b j ho=>by rw[hW];exact ho.put
 rw[<-hW] at hk ⊢;clear hW;have a0:Zm B w2 W:=(hk.below (by simp) (by omega)).mono ae;have a2:=e.nd;rw[ZT,List.nodup_append] at a2;have ad:∀u,u∈us->¬(u.b=h.b/\u.j=h.j):=fun u hu hh=>a2.2.2 (u.b,u.j) (Zz.2 ⟨u,hu,rfl⟩) (h.b,h.j) (by simp) (by rw[hh.1,hh.2]);refine⟨?_,?_,?_,?_,?_⟩
 .refine⟨a3.1,?_⟩;rcases a3.2 with hn|⟨gg,ah,ai,hv,ao,a7,rest⟩
  .exact .inl hn
  .refine .inr ⟨gg,ah,ai,hv,ao,(hk.block gg (Z4.1 a7).1 (fun e2=>?_) (by simp)).trans a7,rest⟩;have ho:v2.ownBlock=Z gg:=by rw[hv];rfl
   rcases a8 gg ho with l|l
   .exact ap (by rw[<-e2];exact l.symm)
   .omega
 .intro b hb;rcases hb with hb|rfl
  .obtain⟨l,p,h3⟩:=e.d b hb;refine⟨l,by omega,fun e2=>?_⟩;rcases a8 b e2.symm with h4|h4
   .exact h3 h4.symm
   .omega
  .exact⟨hg,by omega,fun e2=>ab e2.symm⟩
 .intro u hu;rcases Zy.1 hu with hu|hu
  .obtain⟨l,p,h3⟩:=e.ho u (by simp[hu]);exact⟨(l.low a5).low a0,.inl p,a1 _ _ (h3.of (hD _ p))⟩
  .obtain⟨j,d,rfl⟩:=LO hu;exact⟨(an _ (Zp d)).low a0,.inr rfl,a1 _ _ (ak j d)⟩
 .rw[ZT,List.nodup_append];refine⟨a2.1,?_,fun a ha b hb e2=>?_⟩
  .rw[List.nodup_iff_pairwise_ne,List.pairwise_map,List.pairwise_iff_getElem];intro i j hi d au;have af:i<q.l.length:=by rwa [XI] at hi
   have r:j<q.l.length:=by rwa [XI] at d
   rw[KE g q.l i hi af,KE g q.l j d r];intro e2;have:i=j:=congrArg Prod.snd e2;omega
  .obtain⟨u,hu,rfl⟩:=Zz.1 ha;obtain⟨k,ac,rfl⟩:=Zz.1 hb;obtain⟨j,d,rfl⟩:=LO ac;have l:=(e.d u.b (e.ho u (by simp[hu])).2.1).2.1;have p:u.b=g:=congrArg Prod.fst e2;omega
 .intro w' hE hL;refine e.k w' (fun b i hb aa=>?_) (fun u hu=>?_)
  .have hbs:=(e.d b hb).2.1;have a9:¬AA (us++Ug g q.l) b i:=by
    rintro ⟨u,hu,l,p,h3⟩;rcases Zy.1 hu with hu|hu
    .exact aa ⟨u,by simp[hu],l,p,h3⟩
    .obtain⟨j,d,rfl⟩:=LO hu;simp only at l;omega
   rw[hE b i (.inl hb) a9];have p:w2.cell? ⟨b,i,I⟩=w.cell? ⟨b,i,I⟩:=Zh (a:=⟨b,i,I⟩) (hD b hb);by_cases eb:b=h.b
   .subst eb;have hr:i<h.j*7\/h.j*7+7<=i:=by
     by_cases h3:i<h.j*7
     .exact .inl h3
     .refine .inr (Nat.le_of_not_lt fun h4=>aa ⟨h,by simp,rfl,by omega,by omega⟩)
    rw[a6 i hr,p]
   .rw[Zh (a:=⟨b,i,I⟩) (hk.block b (by omega) eb (by simp)),p]
  .rcases Zy.1 hu with hu|hu
   .exact hL u (by simp[hu])
   .rcases ZI.1 hu with rfl;have al:∀j,j<q.l.length->∃y:TT,X4 w' g (j*7) y/\y.In w'/\(∀d:j<q.l.length,y.tm=YE q.l[j].tm)/\y.Bl (B<=·):=by intro j d;obtain⟨y,l,p,h3,h4⟩:=hL ⟨q.l[j],g,j⟩ (Zy.2 (.inr (by rw[<-KE g q.l j (by rw[XI];exact d) d];exact Zp _)));exact⟨y,l,p,fun _=>h3,h4⟩
    haveI:Inhabited TT:=⟨YJ 0 0⟩
    obtain⟨T,hT⟩:=Go.Deep.choose_lt al;have aq:((ZB q.l.length).map T).length=q.l.length:=by simp
    have c:∀i,i<7->w'.cell? ⟨u.b,u.j*7+i,I⟩=W.cell? ⟨u.b,u.j*7+i,I⟩:=by
     intro i hi;refine hE u.b _ (.inl a4) ?_;rintro ⟨z,hz,l,p,h3⟩;rcases Zy.1 hz with hz|hz
     .exact ad z hz ⟨l,by omega⟩
     .obtain⟨j,d,rfl⟩:=LO hz;simp only at l;omega
    refine⟨⟨q.k,q.n,Yr 0,Yr 0,Z ⟨g,0,I⟩,q.l.length,(ZB q.l.length).map T⟩,?_,?_,?_,?_⟩
    .obtain⟨c0,c1,c2,c3,c4,c5,c6⟩:=h7;refine⟨(c 0 (by omega)).trans c0,(c 1 (by omega)).trans c1,(c 2 (by omega)).trans c2,(c 3 (by omega)).trans c3,(c 4 (by omega)).trans c4,(c 5 (by omega)).trans c5,?_⟩;rw[c 6 (by omega),c6];simp
    .refine TT.In_mk.2 ⟨YB _ _,YB _ _,fun j d=>⟨g,0,rfl,?_⟩,fun y hy=>?_⟩
     .have r:j<q.l.length:=by simpa using d
      simpa using(hT j r).1
     .obtain⟨j,d,rfl⟩:=Zz.1 hy;exact(hT j (by simpa using d)).2.1
    .rw[hq,TT.tm_mk,XS];have:((ZB q.l.length).map T).map TT.tm=(q.l.map TT.tm).map YE:=by
      apply List.ext_getElem
      .simp
      .intro j l p;have r:j<q.l.length:=by simpa using l
       simp only[ZG,Z2];exact(hT j r).2.2.1 r
     rw[this];rfl
    .refine TT.Bl_mk.2 ⟨YG _ _,YG _ _,fun _ z hz=>by cases hz;exact hg,fun y hy=>?_⟩;obtain⟨j,d,rfl⟩:=Zz.1 hy;exact(hT j (by simpa using d)).2.2.2
theorem Tryz.info82:(Zg.info? 82).map (fun i=>(i.zero,i.size,i.bytes))=Z (Z (Zn #[E C 0,E C 0,E C 0,F I 0 0,E C 0,F I 0 0,F I 0 0,Zo I]),8,112):=by kernel_rfl
def UK(hs:List Ho):Nat:=(hs.map fun h=>h.p.sz).sum
theorem PC(hs:List Ho):hs.length<=UK hs:=by
 induction hs with
 |nil=>simp
 |cons p r ih=>have:=p.p.sz_pos;simp only[UK,Zv,Z6,Ya] at ih ⊢;omega
theorem S5(g:Nat)(l:List TT):UK (Ug g l)=(l.map TT.sz).sum:=by
 have:(Ug g l).map (fun h=>h.p.sz)=l.map TT.sz:=by
  apply List.ext_getElem
  .simp[XI]
  .intro j h1 h2;have a:j<l.length:=by simpa using h2
   simp only[ZG];rw[KE g l j (by rw[XI];exact a) a]
 rw[UK,this]
theorem Ta(g:Nat)(l:List TT)(j:Nat)(h:j<l.length):(Ug g l).take (j+1)=(Ug g l).take j++[⟨l[j],g,j⟩]:=by rw[MW _ _ (by rw[XI];exact h),KE g l j (by rw[XI];exact h) h]
theorem UP.new(w:Zj)(n j:Nat)(h:j<n):UP (w.alloc (Zf (madeCells #[E C 0,E C 0,E C 0,F I 0 0,E C 0,F I 0 0,F I 0 0] (n*7)) 27)) w.heap.size j:=fun i hi=>by
 have hs:j*7+i<(madeCells #[E C 0,E C 0,E C 0,F I 0 0,E C 0,F I 0 0,F I 0 0] (n*7)).size:=by rw[size_madeCells];omega
 exact⟨⟨(madeCells #[E C 0,E C 0,E C 0,F I 0 0,E C 0,F I 0 0,F I 0 0] (n*7))[j*7+i],by simp[go_sem,hs]⟩,by simp[go_sem]⟩
structure EN(B g0:Nat)(us ks:List Ho)(W4:Zj)(v:Zs)(j:Nat)(W:Zj):Prop where
 own:W.ownsRow B 82 8 v (us++ks.take j).length (XQ (us++ks.take j))
 low:Zm B W4 W
 fr:∀b,b<W4.heap.size->b≠g0->W.heap[b]?=W4.heap[b]?
 ob:∀b,v.ownBlock=Z b->b=g0\/W4.heap.size<=b
 sz:W4.heap.size<=W.heap.size
theorem EN.push{g0 N:Nat}{us ks:List Ho}{W4 W3:Zj}{v:Zs}{k:Ho}{Y:Obj}{xs:List Zs}(e:EN B g0 us ks W4 v j W)(y:B<=W4.heap.size)(l:ks.take (j+1)=ks.take j++[k])(w:(us++ks.take j).length=N)(q:XQ (us++ks.take j)=xs)
  (g:W3.ownsRow B 82 8 (F (Z ⟨gg,0,I⟩) (N+1) cap1) (N+1) (xs++KM k)) (a:(((W.alloc X).alloc Y).drew).grownBy W3 v.ownBlock) (o:v.ownBlock=Z gg\/gg=W.heap.size+1+1):EN B g0 us ks W4 (F (Z ⟨gg,0,I⟩) (N+1) cap1) (j+1) W3:=by
 have z:=a.size;have r:(((W.alloc X).alloc Y).drew).heap.size=W.heap.size+1+1:=by simp
 have c:∀b,b<W.heap.size->Z b≠v.ownBlock->W3.heap[b]?=W.heap[b]?:=fun b d i=>by rw[a.block b (by omega) i];have u:Zm W.heap.size W (((W.alloc X).alloc Y).drew):=(((Zd _ W).alloc (Zb _) X).alloc (by simp) Y).drew;exact u.block b d
 have x:=e.sz;refine⟨?_,?_,fun b d i=>?_,fun b d=>?_,by omega⟩
 .rw[l,<-List.append_assoc,Zw,Zt,L1,TC,w,q];exact g
 .refine⟨(a.os.trans rfl).trans e.low.os,(a.tape.trans rfl).trans e.low.tape,(a.output.trans rfl).trans e.low.output,by omega,fun b d=>?_⟩;refine(c b (by omega) fun p=>?_).trans (e.low.block b d);have:=(e.own.lt b p.symm).1;omega
 .refine(c b (by omega) fun p=>?_).trans (e.fr b d i);rcases e.ob b p.symm with h|h
  .exact i h
  .omega
 .have hb':gg=b:=ZJ d;rcases o with h|h
  .exact e.ob b (by rw[<-hb'];exact h)
  .omega
theorem We(x:TT)(w:Zj)(hx:x.In w)(hsz:x.sz<=1000):
  Zu Zg 30 #[Zn #[E C x.k,E C x.n,E C x.t.k,F x.t.a x.t.l.length x.t.c,E C x.f.k,F x.f.a x.f.l.length x.f.c,F x.a x.l.length x.c]] w fun e w'=>∃y:TT,e=Zl (Zn #[E C y.k,E C y.n,E C y.t.k,F y.t.a y.t.l.length y.t.c,E C y.f.k,F y.f.a y.f.l.length y.f.c,F y.a y.l.length y.c])/\y.In w'/\y.tm=YE x.tm/\Zm w.heap.size w w':=by
 obtain⟨i0,dj,dd,dk,di⟩:=info_parts Tryz.info27c;obtain⟨j0,cj,cw,cd,cl⟩:=info_parts Tryz.info82;obtain⟨W1,a3⟩:∃W1,W1=((((w.alloc (Zf #[E C x.k,E C x.n,E C x.t.k,F x.t.a x.t.l.length x.t.c,E C x.f.k,F x.f.a x.f.l.length x.f.c,F x.a x.l.length x.c] 27)).alloc (Zf #[E C 0,E C 0,E C 0,F I 0 0,E C 0,F I 0 0,F I 0 0] 27)).alloc (Zf #[E C 0,E C 0,E C 0,F I 0 0,E C 0,F I 0 0,F I 0 0] 27)).alloc (Zf #[E C x.k,E C x.n,E C x.t.k,F x.t.a x.t.l.length x.t.c,E C x.f.k,F x.f.a x.f.l.length x.f.c,F x.a x.l.length x.c,Zo (Z ⟨(w.heap.size+1+1),0,I⟩)] 82)):=⟨_,rfl⟩
 have af:Zm w.heap.size w W1:=by rw[a3];exact((((Zd _ _).alloc (Zb _) _).alloc (by simp) _).alloc (by simp;omega) _).alloc (by simp;omega) _
 have ax:W1.heap.size=w.heap.size+1+1+1+1:=by rw[a3];simp
 have a4:KT W1 (w.heap.size+1):=by rw[a3];refine⟨⟨?_,?_,?_,?_,?_,?_,?_⟩,?_,?_,?_,?_,?_,?_,?_⟩<;>simp[go_sem]
 obtain⟨B,hB⟩:∃B,(w.heap.size+1+1)=B:=⟨_,rfl⟩
 have HL:Zq (EI B (YE x.tm) (w.heap.size+1+1) (F (Z ⟨w.heap.size+1+1+1,0,I⟩) 1 1) [⟨x,B,0⟩] (fun b=>b=B) W1/\Zm B W1 W1/\UK [⟨x,B,0⟩]<=1000/\B<=W1.heap.size):=by
  have hh:=Z1 (((w.alloc (Zf #[E C x.k,E C x.n,E C x.t.k,F x.t.a x.t.l.length x.t.c,E C x.f.k,F x.f.a x.f.l.length x.f.c,F x.a x.l.length x.c] 27)).alloc (Zf #[E C 0,E C 0,E C 0,F I 0 0,E C 0,F I 0 0,F I 0 0] 27)).alloc (Zf #[E C 0,E C 0,E C 0,F I 0 0,E C 0,F I 0 0,F I 0 0] 27)) (Zf #[E C x.k,E C x.n,E C x.t.k,F x.t.a x.t.l.length x.t.c,E C x.f.k,F x.f.a x.f.l.length x.f.c,F x.a x.l.length x.c,Zo (Z ⟨(w.heap.size+1+1),0,I⟩)] 82);rw[<-a3] at hh;simp only[World.size_alloc] at hh;have bj:UP W1 B 0:=by
   intro i hi;obtain rfl|rfl|rfl|rfl|rfl|rfl|rfl:i=0\/i=1\/i=2\/i=3\/i=4\/i=5\/i=6:=by omega
   all_goals exact⟨⟨_,by rw[a3,<-hB];simp[go_sem];rfl⟩,by rw[a3,<-hB];simp[go_sem]⟩
  refine⟨⟨⟨rfl,.inr ⟨_,1,_,rfl,by omega,hh,Zb _,by unfold maxLen;omega,rfl,?_⟩⟩,?_,?_,by simp,?_⟩,Zd _ _,by simpa[UK] using hsz,by omega⟩
  .simp[XQ,KM,hB]
  .rintro b rfl;exact⟨Zb _,by omega,fun e=>by have:=ZJ e;simp at this;omega⟩
  .intro h hh;rcases ZI.1 hh with rfl;exact⟨⟨hx.below af,hx.bl.mono fun b h=>by omega⟩,rfl,bj⟩
  .intro w' _ hL;have:=hL ⟨x,B,0⟩ (by simp);rw[hB];exact this
 have HX:Zq (Zm w.heap.size w W1/\W1.heap.size=w.heap.size+1+1+1+1/\KT W1 (w.heap.size+1)/\(w.heap.size+1+1)=B):=⟨af,ax,a4,hB⟩
 have r0:(((w.alloc (Zf #[E C x.k,E C x.n,E C x.t.k,F x.t.a x.t.l.length x.t.c,E C x.f.k,F x.f.a x.f.l.length x.f.c,F x.a x.l.length x.c] 27)).alloc (Zf #[E C 0,E C 0,E C 0,F I 0 0,E C 0,F I 0 0,F I 0 0] 27)).alloc (Zf #[E C 0,E C 0,E C 0,F I 0 0,E C 0,F I 0 0,F I 0 0] 27)).cell? ⟨w.heap.size,0,I⟩=Z (E C x.k):=by simp[go_sem]
 have r1:(((w.alloc (Zf #[E C x.k,E C x.n,E C x.t.k,F x.t.a x.t.l.length x.t.c,E C x.f.k,F x.f.a x.f.l.length x.f.c,F x.a x.l.length x.c] 27)).alloc (Zf #[E C 0,E C 0,E C 0,F I 0 0,E C 0,F I 0 0,F I 0 0] 27)).alloc (Zf #[E C 0,E C 0,E C 0,F I 0 0,E C 0,F I 0 0,F I 0 0] 27)).cell? ⟨w.heap.size,1,I⟩=Z (E C x.n):=by simp[go_sem]
 have r2:(((w.alloc (Zf #[E C x.k,E C x.n,E C x.t.k,F x.t.a x.t.l.length x.t.c,E C x.f.k,F x.f.a x.f.l.length x.f.c,F x.a x.l.length x.c] 27)).alloc (Zf #[E C 0,E C 0,E C 0,F I 0 0,E C 0,F I 0 0,F I 0 0] 27)).alloc (Zf #[E C 0,E C 0,E C 0,F I 0 0,E C 0,F I 0 0,F I 0 0] 27)).cell? ⟨w.heap.size,2,I⟩=Z (E C x.t.k):=by simp[go_sem]
 have r3:(((w.alloc (Zf #[E C x.k,E C x.n,E C x.t.k,F x.t.a x.t.l.length x.t.c,E C x.f.k,F x.f.a x.f.l.length x.f.c,F x.a x.l.length x.c] 27)).alloc (Zf #[E C 0,E C 0,E C 0,F I 0 0,E C 0,F I 0 0,F I 0 0] 27)).alloc (Zf #[E C 0,E C 0,E C 0,F I 0 0,E C 0,F I 0 0,F I 0 0] 27)).cell? ⟨w.heap.size,3,I⟩=Z (F x.t.a x.t.l.length x.t.c):=by simp[go_sem]
 have r4:(((w.alloc (Zf #[E C x.k,E C x.n,E C x.t.k,F x.t.a x.t.l.length x.t.c,E C x.f.k,F x.f.a x.f.l.length x.f.c,F x.a x.l.length x.c] 27)).alloc (Zf #[E C 0,E C 0,E C 0,F I 0 0,E C 0,F I 0 0,F I 0 0] 27)).alloc (Zf #[E C 0,E C 0,E C 0,F I 0 0,E C 0,F I 0 0,F I 0 0] 27)).cell? ⟨w.heap.size,4,I⟩=Z (E C x.f.k):=by simp[go_sem]
 have r5:(((w.alloc (Zf #[E C x.k,E C x.n,E C x.t.k,F x.t.a x.t.l.length x.t.c,E C x.f.k,F x.f.a x.f.l.length x.f.c,F x.a x.l.length x.c] 27)).alloc (Zf #[E C 0,E C 0,E C 0,F I 0 0,E C 0,F I 0 0,F I 0 0] 27)).alloc (Zf #[E C 0,E C 0,E C 0,F I 0 0,E C 0,F I 0 0,F I 0 0] 27)).cell? ⟨w.heap.size,5,I⟩=Z (F x.f.a x.f.l.length x.f.c):=by simp[go_sem]
 have r6:(((w.alloc (Zf #[E C x.k,E C x.n,E C x.t.k,F x.t.a x.t.l.length x.t.c,E C x.f.k,F x.f.a x.f.l.length x.f.c,F x.a x.l.length x.c] 27)).alloc (Zf #[E C 0,E C 0,E C 0,F I 0 0,E C 0,F I 0 0,F I 0 0] 27)).alloc (Zf #[E C 0,E C 0,E C 0,F I 0 0,E C 0,F I 0 0,F I 0 0] 27)).cell? ⟨w.heap.size,6,I⟩=Z (F x.a x.l.length x.c):=by simp[go_sem]
 clear hx hsz af ax a4 hB;go_enter func30,ntmps30;go_wp2_with fail;rw[<-a3];clear a3 r0 r1 r2 r3 r4 r5 r6;go_loopg [4] (UK [⟨x,B,0⟩]) (fun k s4 wr=>∃(v:Zs)(hs:List Ho)(D:Nat->Prop),v=s4/\k=UK hs/\Zq (EI B (YE x.tm) (w.heap.size+1+1) v hs D wr/\Zm B W1 wr/\UK hs<=1000/\B<=wr.heap.size))
 case atStart=>exact⟨_,[⟨x,B,0⟩],_,rfl,rfl,HL⟩
 case round=>
  obtain⟨v,hs,D,hv,hk,HR⟩:=hrel;subst hv;have HK:Zq (gk=UK hs):=hk;clear hk HL;by_cases hne:hs=[]
  .subst hne;obtain⟨a,c',rfl⟩:∃a c,v=F a 0 c:=by
    rcases HR.out.1.own.2 with⟨rfl,_⟩|⟨g,a8,ce,rfl,_⟩
    .exact⟨_,_,rfl⟩
    .exact⟨_,_,rfl⟩
   obtain⟨y,h7,ai,bi,be⟩:=HR.out.1.ends;obtain⟨ae,ax,a4,cg⟩:=HX.out;have b9:KT wr (w.heap.size+1):=a4.low HR.out.2.1 (by omega);have HN:Zq (∃z:TT,Ending.returned (Zn #[E C y.k,E C y.n,E C y.t.k,F y.t.a y.t.l.length y.t.c,E C y.f.k,F y.f.a y.f.l.length y.f.c,F y.a y.l.length y.c])=Zl (Zn #[E C z.k,E C z.n,E C z.t.k,F z.t.a z.t.l.length z.t.c,E C z.f.k,F z.f.a z.f.l.length z.f.c,F z.a z.l.length z.c])/\z.In (Y5 wr (w.heap.size+1) y)/\z.tm=YE x.tm/\Zm w.heap.size w (Y5 wr (w.heap.size+1) y)):=by have hk:=YF (w:=wr) (J:=w.heap.size+1) (x:=y);refine⟨y,rfl,ai.keptR hk (be.mono fun b hb=>by omega),bi,?_⟩;exact(ae.trans (HR.out.2.1.mono (by omega))).trans ((hk.below (by simp) (Yc b9.lt)).mono (by omega))
   obtain⟨e0,e1,e2,e3,e4,e5,e6⟩:=(XH (x:=y) b9.box).at7;simp only[Zk] at e0 e1 e2 e3 e4 e5 e6;obtain⟨q0,q1,q2,q3,q4,q5,q6⟩:=h7;simp only[ZU,Zk] at q0 q1 q2 q3 q4 q5 q6;obtain⟨⟨y0,y1,y2,y3,y4,y5,y6⟩,f0,f1,f2,f3,f4,f5,f6⟩:=b9;clear HR HK ai bi be ae ax a4 cg HX;go_wp2_with fail;refine Zr (v:=Zn #[E C y.k,E C y.n,E C y.t.k,F y.t.a y.t.l.length y.t.c,E C y.f.k,F y.f.a y.f.l.length y.f.c,F y.a y.l.length y.c]) ?_ rfl HN.out;unfold Y5 at e0 e1 e2 e3 e4 e5 e6;simp[results,results30,go_sem,e0,e1,e2,e3,e4,e5,e6]
  .obtain⟨us,h,rfl⟩:∃us p,hs=us++[p]:=⟨hs.dropLast,hs.getLast hne,(List.dropLast_concat_getLast hne).symm⟩
   have ho:=HR.out.1.own;have b1:(us++[h]).length=us.length+1:=by simp
   rw[b1] at ho;obtain⟨u,a8,rfl,hg,av⟩:=ho.form (by omega);have hc:∀i,i<8->wr.cell? ⟨u,us.length*8+i,I⟩=([E C h.p.k,E C h.p.n,E C h.p.t.k,F h.p.t.a h.p.t.l.length h.p.t.c,E C h.p.f.k,F h.p.f.a h.p.f.l.length h.p.f.c,F h.p.a h.p.l.length h.p.c,Zo (Z ⟨h.b,h.j*7,I⟩)]:List Zs)[i]?:=by intro i hi;rw[ho.cellAt (us.length*8+i) (by omega)];have:=PO (us++[h]) us.length (by simp) i hi;rw[this];simp[KM]
   have c0:wr.cell? ⟨u,us.length*8,I⟩=Z (E C h.p.k):=(hc 0 (by omega)).trans rfl;have c1:wr.cell? ⟨u,us.length*8+1,I⟩=Z (E C h.p.n):=(hc 1 (by omega)).trans rfl;have c2:wr.cell? ⟨u,us.length*8+2,I⟩=Z (E C h.p.t.k):=(hc 2 (by omega)).trans rfl;have c3:wr.cell? ⟨u,us.length*8+3,I⟩=Z (F h.p.t.a h.p.t.l.length h.p.t.c):=(hc 3 (by omega)).trans rfl;have c4:wr.cell? ⟨u,us.length*8+4,I⟩=Z (E C h.p.f.k):=(hc 4 (by omega)).trans rfl;have c5:wr.cell? ⟨u,us.length*8+5,I⟩=Z (F h.p.f.a h.p.f.l.length h.p.f.c):=(hc 5 (by omega)).trans rfl;have c6:wr.cell? ⟨u,us.length*8+6,I⟩=Z (F h.p.a h.p.l.length h.p.c):=(hc 6 (by omega)).trans rfl;have c7:wr.cell? ⟨u,us.length*8+7,I⟩=Z (Zo (Z ⟨h.b,h.j*7,I⟩)):=(hc 7 (by omega)).trans rfl;have d9:us.length+1<=a8:=by
    rcases ho.2 with⟨h,_⟩|⟨g',da,ce,h,_,_,h1,_⟩
    .cases h
    .cases h;exact h1
   have ad:wr.ownsRow B 82 8 (F (Z ⟨u,0,I⟩) us.length a8) us.length (XQ us):=by rw[L1] at ho;exact ownsRow_pop (Pf us) ho
   have bb:UK (us++[h])=UK us+h.p.sz:=by simp[UK]
   have bq:=HR.out.2.2.1;have cz:=PC us;have i1:(us.length:Int)<((us.length:Int)+1):=by omega
   have n1:(us.length:Int)<=1001:=by omega
   have n2:(us.length:Int)<=(a8:Int):=by omega
   have n3:(0:Int)<=(us.length:Int):=by omega
   obtain⟨⟨bt,bc⟩,dh,db⟩:=HR.out.1.ho h (by simp);obtain⟨OP,cf⟩:∃O,O=Obj.cells #[E C h.p.k,E C h.p.n,E C h.p.t.k,F h.p.t.a h.p.t.l.length h.p.t.c,E C h.p.f.k,F h.p.f.a h.p.f.l.length h.p.f.c,F h.p.a h.p.l.length h.p.c,Zo (Z ⟨h.b,h.j*7,I⟩)] 82:=⟨_,rfl⟩
   have hA:Zm wr.heap.size wr (wr.alloc OP):=(Zd _ _).alloc (Zb _) _;have bu:Zq (Zu Zg 47 #[Zn #[E C h.p.k,E C h.p.n,E C h.p.t.k,F h.p.t.a h.p.t.l.length h.p.t.c,E C h.p.f.k,F h.p.f.a h.p.f.l.length h.p.f.c,F h.p.a h.p.l.length h.p.c]] (wr.alloc OP) (TO h.p (wr.alloc OP))):=Te h.p (wr.alloc OP) (bt.below hA);have an:=HR.out.2.2.2;have HM:Zq (gk=UK us+h.p.sz/\UK us+h.p.sz<=1000):=⟨HK.out.trans bb,by rw[<-bb];exact bq⟩
   have HE:Zq (EI B (YE x.tm) (w.heap.size+1+1) (F (Z ⟨u,0,I⟩) (us.length+1) a8) (us++[h]) D wr/\Zm B W1 wr/\B<=wr.heap.size/\wr.ownsRow B 82 8 (F (Z ⟨u,0,I⟩) us.length a8) us.length (XQ us)/\u<wr.heap.size/\h.p.Bl (·<B)):=⟨HR.out.1,HR.out.2.1,an,ad,av,bc⟩
   clear ho ad HR HK bb bq hne b1 cz hc hA bt bc;subst cf;go_wp2_with fail;refine bu.out.mono ?_;rintro e w2 ⟨q,rfl,aq,bv,ay,ak,a9⟩;clear bu c0 c1 c2 c3 c4 c5 c6 c7;have ab:q.Bl (·<B):=bv _ HE.out.2.2.2.2.2;have cx:q.l.length<=1000:=by have h1:=q.sz_eq;have h2:=MC q.l;have h3:=HM.out.2;omega
   have cn:=Cy q.l.length cx;obtain⟨W4,a2⟩:∃W4,W4=(w2.alloc (Zf q.v 27)).alloc (Zf (madeCells #[E C 0,E C 0,E C 0,F I 0 0,E C 0,F I 0 0,F I 0 0] (q.l.length*7)) 27):=⟨_,rfl⟩
   have ba:bL w2 W4:=by rw[a2];exact((Zd _ _).alloc (Zb _) _).alloc (by simp) _
   have aw:W4.heap.size=w2.heap.size+1+1:=by rw[a2];simp
   have b0:wr.heap.size+1<=w2.heap.size:=by have:=a9.size;simpa using this
   have ar:=a9.trans (ba.mono a9.size);have a7:bL wr W4:=((Zd _ _).alloc (Zb _) _).trans (ar.mono (by simp));have b2:cL W4 wr.heap.size 7 (Zo (Z ⟨h.b,h.j*7,I⟩)):=(ar.cell (p:=⟨wr.heap.size,7,I⟩) (by simp)).trans (by simp[go_sem]);have bp:W4.cell? ⟨w2.heap.size,0,I⟩=Z (E C q.k):=by rw[a2];simp[go_sem]
   have bz:W4.cell? ⟨w2.heap.size,1,I⟩=Z (E C q.n):=by rw[a2];simp[go_sem]
   have cc:W4.cell? ⟨w2.heap.size,6,I⟩=Z (F q.a q.l.length q.c):=by rw[a2];simp[go_sem]
   have aj:∀j,j<q.l.length->UP W4 (w2.heap.size+1) j:=fun j hj=>by have:=UP.new (w2.alloc (Zf q.v 27)) q.l.length j hj;rw[<-a2] at this;simpa using this
   have aa:=Dy (aq.below ba) ab ay ak a7 aj aw b0;have az:=Nm b2 bp bz cc;have bf:Zq (EN B u us (Ug (w2.heap.size+1) q.l) W4 (ZM (Z ⟨u,0,I⟩) us.length a8) 0 W4):=by obtain⟨he,ae,an,ad,av,_⟩:=HE.out;refine⟨?_,Zd _ _,fun _ _ _=>rfl,fun b hb=>.inl (ZJ hb).symm,Zb _⟩;have:=Kd ad a7;simpa using this
   clear aq bv ay ak a9 ab ba ar a7 aj aw b0 b2 bp bz;go_wp2_with fail;rw[<-a2];clear a2 cn cc;obtain⟨W0,cr⟩:∃W,W=wr:=⟨_,rfl⟩
   subst cr;obtain⟨K0,ct⟩:∃K,K=gk:=⟨_,rfl⟩
   subst ct;go_loopg [4,37] q.l.length (fun c s4 s37 d=>∃(j:Nat)(v':Zs),c+j=q.l.length/\v'=s4/\s37=E C (j:Int)/\Zq (EN B u us (Ug (w2.heap.size+1) q.l) W4 v' j d))
   case atStart=>exact⟨0,_,by omega,rfl,rfl,bf⟩
   case round=>
    obtain⟨j,v',hj,cy,rfl,HQ⟩:=hrel;subst cy;clear bf;obtain⟨d,cq⟩:∃W,W=wr:=⟨_,rfl⟩
    subst cq;by_cases hlt:j<q.l.length
    .obtain⟨yb,yo,ea,h7,ai⟩:=aa.out.1.part j hlt;have b4:yb<B:=aa.out.2.1.own (fun e=>by rw[e] at hlt;simp at hlt) _ ea;obtain⟨y,al⟩:∃y,q.l[j]=y:=⟨_,rfl⟩
     rw[al] at h7 ai;obtain⟨d0,d1,d2,d3,d4,d5,d6⟩:=h7.of fun i=>HQ.out.low.cell (p:=⟨yb,i,I⟩) b4;have dg:(j:Int)<(q.l.length:Int):=by omega
     have dc:(0:Int)<=(j:Int):=by omega
     have ch:=Yx ea;rw[ea];obtain⟨l,a1⟩:∃W,W=d.alloc (Zf y.v 27):=⟨_,rfl⟩
     have b6:l.heap.size=d.heap.size+1:=by rw[a1];simp
     have bg:bL d l:=by rw[a1];exact(Zd _ _).alloc (Zb _) _
     have HS:Zq (∀W',bL l W'->cL W' d.heap.size 0 (E C y.k)/\cL W' d.heap.size 1 (E C y.n)/\cL W' d.heap.size 2 (E C y.t.k)/\cL W' d.heap.size 3 (y.t.s)/\cL W' d.heap.size 4 (E C y.f.k)/\cL W' d.heap.size 5 (y.f.s)/\cL W' d.heap.size 6 (y.s)):=by
      intro W' hb;have cm:X4 l d.heap.size 0 y:=by rw[a1];exact X4.new d y
      obtain⟨c0,c1,c2,c3,c4,c5,c6⟩:=cm.below hb;simp only[Zk] at c0 c1 c2 c3 c4 c5 c6;exact⟨c0,c1,c2,c3,c4,c5,c6⟩
     have bh:Zq (cL l d.heap.size 0 (E C y.k)/\cL l d.heap.size 1 (E C y.n)/\cL l d.heap.size 2 (E C y.t.k)/\cL l d.heap.size 3 (y.t.s)/\cL l d.heap.size 4 (E C y.f.k)/\cL l d.heap.size 5 (y.f.s)/\cL l d.heap.size 6 (y.s)):=HS.out _ (Zd _ _);have bd:Zq (cL l.drew d.heap.size 0 (E C y.k)/\cL l.drew d.heap.size 1 (E C y.n)/\cL l.drew d.heap.size 2 (E C y.t.k)/\cL l.drew d.heap.size 3 (y.t.s)/\cL l.drew d.heap.size 4 (E C y.f.k)/\cL l.drew d.heap.size 5 (y.f.s)/\cL l.drew d.heap.size 6 (y.s)):=HS.out _ ((Zd _ _).drew);have br:Zq (∀X,cL (l.drew.alloc X) d.heap.size 0 (E C y.k)/\cL (l.drew.alloc X) d.heap.size 1 (E C y.n)/\cL (l.drew.alloc X) d.heap.size 2 (E C y.t.k)/\cL (l.drew.alloc X) d.heap.size 3 (y.t.s)/\cL (l.drew.alloc X) d.heap.size 4 (E C y.f.k)/\cL (l.drew.alloc X) d.heap.size 5 (y.f.s)/\cL (l.drew.alloc X) d.heap.size 6 (y.s)):=fun X=>HS.out _ (((Zd _ _).drew).alloc (Zb _) X);have b8:Zq (∀X,(l.alloc X).drew.cell? ⟨d.heap.size,0,I⟩=Z (E C y.k)/\(l.alloc X).drew.cell? ⟨d.heap.size,1,I⟩=Z (E C y.n)/\(l.alloc X).drew.cell? ⟨d.heap.size,2,I⟩=Z (E C y.t.k)/\(l.alloc X).drew.cell? ⟨d.heap.size,3,I⟩=Z (F y.t.a y.t.l.length y.t.c)/\(l.alloc X).drew.cell? ⟨d.heap.size,4,I⟩=Z (E C y.f.k)/\(l.alloc X).drew.cell? ⟨d.heap.size,5,I⟩=Z (F y.f.a y.f.l.length y.f.c)/\(l.alloc X).drew.cell? ⟨d.heap.size,6,I⟩=Z (F y.a y.l.length y.c)):=fun X=>HS.out _ (((Zd _ _).alloc (Zb _) X).drew);obtain⟨N,hN⟩:∃N,(us++(Ug (w2.heap.size+1) q.l).take j).length=N:=⟨_,rfl⟩
     obtain⟨xs,ap⟩:∃xs,XQ (us++(Ug (w2.heap.size+1) q.l).take j)=xs:=⟨_,rfl⟩
     have de:N<=2002:=by rw[<-hN,Zw,List.length_take];have h1:=PC us;have h2:=HM.out.2;omega
     have bs:v'.ownBlock≠Z d.heap.size:=fun e=>by have:=(HQ.out.own.lt _ e).2;omega
     have uo:l.ownsRow B 82 8 v' N xs:=by rw[<-hN,<-ap];exact Kd HQ.out.own bg
     have b5:((l.alloc (Zf #[E C y.k,E C y.n,E C y.t.k,y.t.s,E C y.f.k,y.f.s,y.s,Zo (Z ⟨w2.heap.size+1,j*7,I⟩)] 82)).drew).heap[l.heap.size]?=Z (Zf #[E C y.k,E C y.n,E C y.t.k,y.t.s,E C y.f.k,y.f.s,y.s,Zo (Z ⟨w2.heap.size+1,j*7,I⟩)] 82):=Z1 l (Zf #[E C y.k,E C y.n,E C y.t.k,y.t.s,E C y.f.k,y.f.s,y.s,Zo (Z ⟨w2.heap.size+1,j*7,I⟩)] 82);have df:B<=l.heap.size:=by
      have h1:=HE.out.2.2.1;have h2:=HQ.out.sz;have h3:=aa.out.2.2.2.2.1.size;show B<=l.heap.size
      omega
     have bm:Zq (∀(w7:Zj)(X:Obj),((l.alloc X).drew).grownBy w7 v'.ownBlock->cL w7 d.heap.size 0 (E C y.k)/\cL w7 d.heap.size 1 (E C y.n)/\cL w7 d.heap.size 2 (E C y.t.k)/\cL w7 d.heap.size 3 (y.t.s)/\cL w7 d.heap.size 4 (E C y.f.k)/\cL w7 d.heap.size 5 (y.f.s)/\cL w7 d.heap.size 6 (y.s)):=by
      intro w7 X d8;have a5:∀i,w7.cell? ⟨d.heap.size,i,I⟩=((l.alloc X).drew).cell? ⟨d.heap.size,i,I⟩:=fun i=>Zh (a:=⟨d.heap.size,i,I⟩) (d8.block d.heap.size (by simp;omega) (fun e=>bs e.symm))
      obtain⟨c0,c1,c2,c3,c4,c5,c6⟩:=b8.out X;exact⟨(a5 _).trans c0,(a5 _).trans c1,(a5 _).trans c2,(a5 _).trans c3,(a5 _).trans c4,(a5 _).trans c5,(a5 _).trans c6⟩
     have HY:=Sl al a1 hN ap b6;have HJ:=Yx hj;clear h7 ai al ea hN ap b4 bg bs hj b6;go_upto_region 12 with fail;rw[<-a1];clear a1 d0 d1 d2 d3 d4 d5 d6;go_region_held3 (fun W'=>cL W' d.heap.size 0 (E C y.k)/\cL W' d.heap.size 1 (E C y.n)/\cL W' d.heap.size 2 (E C y.t.k)/\cL W' d.heap.size 3 (y.t.s)/\cL W' d.heap.size 4 (E C y.f.k)/\cL W' d.heap.size 5 (y.f.s)/\cL W' d.heap.size 6 (y.s))
      (first
       |(with_reducible exact bh.out)
       |(with_reducible exact bd.out)
       |(with_reducible exact br.out _)
       |(with_reducible exact b8.out _)
       |(with_reducible exact bm.out _ _ r)
       |fail)
      (first
       |(refine Z9 _ (by rfl) _ _ _ (by rfl) B 82 j0 _ 8 112 underlying83 cj cw cd cl rfl (by omega) v' N xs (by rfl) ((uo.alloc _).drew) ⟨l.heap.size,0,I⟩ 1 1 [E C y.k,E C y.n,E C y.t.k,y.t.s,E C y.f.k,y.f.s,y.s,Zo (Z ⟨w2.heap.size+1,j*7,I⟩)] (by rfl) (by rfl) (Z0 (cs:=#[E C y.k,E C y.n,E C y.t.k,y.t.s,E C y.f.k,y.f.s,y.s,Zo (Z ⟨w2.heap.size+1,j*7,I⟩)]) (t:=82) (fr:=(0,0)) b5) (by simp[Value.oneCell']) (by omega) (by unfold maxLen;omega) (by omega) (by simp;omega) (l.heap.size+1) (by simp) ?_;intro gg cap1 w7 am r c9 bx)
       |fail)
     have HN:Zq (EN B u us (Ug (w2.heap.size+1) q.l) W4 (ZM (Z ⟨gg,0,I⟩) (N+1) cap1) (j+1) w7):=by
      obtain⟨al,a1,hN,ap,b6⟩:=HY.out;have ca:=Ta (w2.heap.size+1) q.l j hlt;rw[al] at ca;rw[a1] at r;exact HQ.out.push (X:=Zf y.v 27) (Y:=Zf #[E C y.k,E C y.n,E C y.t.k,y.t.s,E C y.f.k,y.f.s,y.s,Zo (Z ⟨w2.heap.size+1,j*7,I⟩)] 82) (by have h1:=HE.out.2.2.1;have h3:=aa.out.2.2.2.2.1.size;omega) ca hN ap am r (by
       rcases c9 with e|e
       .exact .inl e
       .exact .inr (by rw[e];show l.heap.size+1=_;omega))
     clear am r c9 bx uo b5 HS bh bd br b8 bm HQ HY;go_wp2_with fail;rw[<-ch.out];go_roundg (q.l.length-(j+1))
     case measure=>have:=HJ.out;omega
     case rel=>exact⟨j+1,_,by have:=HJ.out;omega,rfl,by go_num,HN⟩
    .have hje:j=q.l.length:=by omega
     obtain⟨he,ae,an,ad,av,ci⟩:=HE.out;obtain⟨aq,ab,ay,ak,a7,aj,aw,b0⟩:=aa.out;obtain⟨ao,a6,ac,b7,bk⟩:=HQ.out;have c8:(Ug (w2.heap.size+1) q.l).take j=Ug (w2.heap.size+1) q.l:=List.take_of_length_le (by rw[XI];omega);rw[c8] at ao;have ah:=(a7.mono an).trans a6;have hD:∀b,D b->d.heap[b]?=W0.heap[b]?:=fun b hb=>by obtain⟨h1,h2,h3⟩:=he.d b hb;have cu:b≠u:=fun e=>h3 (by rw[e];rfl);exact(ac b (by omega) cu).trans (a7.block b h2)
     obtain⟨_,au,b3⟩:=he.ho h (by simp);obtain⟨af,a9,co⟩:=he.d h.b au;have bo:=he.step (q:=q) (g:=w2.heap.size+1) (v2:=v') (w2:=d) ak (fun y hy=>⟨(aq.mem hy).congr (P:=(·<B)) (fun b hb o=>a6.cell (p:=⟨b,o,I⟩) hb) (ab.mem hy),ab.mem hy⟩) (by omega) (by omega) (by omega)
      (fun j' d7=>(aj j' d7).of (ac _ (by omega) (by omega))) ao
      (fun b hb=>by
       rcases b7 b hb with h1|h1
       .exact .inl (by rw[h1];rfl)
       .exact .inr (by omega))
      (fun e=>by
       rcases b7 _ e with h1|h1
       .omega
       .omega) ah hD
     have a0:UP d h.b h.j:=b3.of (hD _ au);have bn:UK (us++Ug (w2.heap.size+1) q.l)=UK us+(q.l.map TT.sz).sum:=by rw[<-S5 (w2.heap.size+1) q.l];simp[UK]
     have cb:=q.sz_eq;have HN:Zq (EI B (YE x.tm) (w.heap.size+1+1) v' (us++Ug (w2.heap.size+1) q.l) (fun b=>D b\/b=w2.heap.size+1) (Ut d h.b (h.j*7) (TT.mk q.k q.n (Yr 0) (Yr 0) (Z ⟨w2.heap.size+1,0,I⟩) q.l.length q.l))/\Zm B W1 (Ut d h.b (h.j*7) (TT.mk q.k q.n (Yr 0) (Yr 0) (Z ⟨w2.heap.size+1,0,I⟩) q.l.length q.l))/\UK (us++Ug (w2.heap.size+1) q.l)<=1000/\B<=(Ut d h.b (h.j*7) (TT.mk q.k q.n (Yr 0) (Yr 0) (Z ⟨w2.heap.size+1,0,I⟩) q.l.length q.l)).heap.size):=by refine⟨bo,(ae.trans ah).trans ((Lp.below (by simp) (by omega)).mono af),by have:=HM.out;omega,by rw[Lo];omega⟩
     have ck:Zq (UK (us++Ug (w2.heap.size+1) q.l)<K0):=by
      have:=HM.out;show _<_
      omega
     have u7:cL d W0.heap.size 7 (Zo (Z ⟨h.b,h.j*7,I⟩)):=(Zh (a:=⟨W0.heap.size,7,I⟩) (ac W0.heap.size (by omega) (by omega))).trans az.out.1;have u0:cL d w2.heap.size 0 (E C q.k):=(Zh (a:=⟨w2.heap.size,0,I⟩) (ac w2.heap.size (by omega) (by omega))).trans az.out.2.1;have u1:cL d w2.heap.size 1 (E C q.n):=(Zh (a:=⟨w2.heap.size,1,I⟩) (ac w2.heap.size (by omega) (by omega))).trans az.out.2.2.1;obtain⟨⟨o0,t0⟩,f0⟩:=a0 0 (by omega);obtain⟨⟨o1,t1⟩,f1⟩:=a0 1 (by omega);obtain⟨⟨o2,t2⟩,f2⟩:=a0 2 (by omega);obtain⟨⟨o3,t3⟩,f3⟩:=a0 3 (by omega);obtain⟨⟨o4,t4⟩,f4⟩:=a0 4 (by omega);obtain⟨⟨o5,t5⟩,f5⟩:=a0 5 (by omega);obtain⟨⟨o6,t6⟩,f6⟩:=a0 6 (by omega);simp only[Yd] at t0 f0;clear HE aa HQ he ae an ad av ci aq ab ay ak a7 aj aw b0 ao a6 ac b7 bk c8 ah hD au b3 af a9 co bo a0 bn cb az hje hj;go_wp2_with fail;go_roundg (UK (us++Ug (w2.heap.size+1) q.l))
     case measure=>exact ck.out
     case rel=>exact⟨_,_,_,rfl,rfl,HN⟩
theorem Mp:∀(ts:List Xx)(q:List Bool),P0 ts q->q.length<=ts.length+1
 |[],q,h=>by obtain⟨b,rfl⟩:=h;simp
 |t::ts,q,h=>by
  rcases h with⟨_,h⟩|⟨_,b,r,rfl,h⟩|⟨_,a,b,r,rfl,h⟩|⟨_,a,r,rfl,h⟩
  .have:=Mp ts _ h;simp at this ⊢;omega
  .have:=Mp ts _ h;simp at this ⊢;omega
  .have:=Mp ts _ h;simp at this ⊢;omega
  .have:=Mp ts _ h;simp at this ⊢;omega
theorem Tl:∀(q:List Bool)(vs:List YK),fl q vs->vs.length=q.length
 |[],[],_=>rfl
 |_::q,_::vs,h=>by simp[Tl q vs h.2]
 |[],_::_,h=>by cases h
 |_::_,[],h=>by cases h
theorem WE:∀ts:List Xx,ts.length<=(ts.map tw).sum
 |[]=>by simp
 |t::ts=>by
  have h1:1<=tw t:=by
   unfold tw;have:=t.x.tsz_pos;split
   .omega
   .split
    .omega
    .split<;>omega
  have a:=WE ts;simp only[Ya,Zv,Z6];omega
theorem Sm.small{s:St}(h:Sm s)(j:mu s<=200000):s.ts.length<=200000/\s.vs.length<=200001/\s.calls<=100:=by
 obtain⟨q,i,g⟩:=h.q;have a:=WE s.ts;have b:=Mp _ _ i;have c:=Tl _ _ g;have d:(s.ts.map tw).sum<=mu s:=by unfold mu;omega
 have e:=h.le;have f:=h.max;omega
theorem MS.pop{t:Xx}{r:List Xx}{vs:List YK}{ca fu:Nat}{en:Xy}(h:MS w0 w M G ⟨t::r,vs,ca,fu,en⟩):∃g cap d pt ps pc,w.cell? ⟨M,0,I⟩=Z (F (Z ⟨g,0,I⟩) (r.length+1) cap)/\r.length+1<=cap/\g<w.heap.size/\g≠M/\
  w.cell? ⟨g,r.length*4,I⟩=Z (E C d)/\w.cell? ⟨g,r.length*4+1,I⟩=Z (Zo pt)/\w.cell? ⟨g,r.length*4+2,I⟩=Z (Zo ps)/\w.cell? ⟨g,r.length*4+3,I⟩=Z (Zo pc)/\Mn w0 G t d pt ps pc/\
  MS w0 (w.setCell ⟨M,0,I⟩ (F (Z ⟨g,0,I⟩) r.length cap)) M G ⟨r,vs,ca,fu,en⟩/\Fr M w (w.setCell ⟨M,0,I⟩ (F (Z ⟨g,0,I⟩) r.length cap)):=by
 obtain⟨tv,mv,aa,a8,h0,l,x,o1,a1,ht,a5⟩:=h.ex;obtain⟨ys,d,pt,ps,pc,rfl,a7,a3⟩:=ht;obtain⟨g,cap,rfl,j,z⟩:=x.form (by simp);have a6:ys.length=r.length*4:=by have:=x.1;simp at this;omega
 have cell:∀i(v:Zs),i<4->[Value.int C d,Zo pt,Zo ps,Zo pc][i]?=Z v->w.cell? ⟨g,r.length*4+i,I⟩=Z v:=fun i v hi hv=>by have:=x.cellAt (r.length*4+i) (by simp;omega);rw[this,ZR (by omega)];rw[show r.length*4+i-ys.length=i by omega];exact hv
 have p:r.length+1<=cap:=by
  rcases x.2 with⟨h,_⟩|⟨g',a9,ab,h,_,_,l,_⟩
  .cases h
  .cases h;simpa using l
 have a4:g≠M:=by omega
 have c:∀i,i≠0->(w.setCell ⟨M,0,I⟩ (F (Z ⟨g,0,I⟩) r.length cap)).cell? ⟨M,i,I⟩=w.cell? ⟨M,i,I⟩:=fun i hi=>Ze _ _ _ _ (by intro e;cases e;exact hi rfl);have q:cL (w.setCell ⟨M,0,I⟩ (F (Z ⟨g,0,I⟩) r.length cap)) M 0 (F (Z ⟨g,0,I⟩) r.length cap):=World.cell?_setCell_same _ _ _ h0;have a:∀k,LY (w.setCell ⟨M,0,I⟩ (F (Z ⟨g,0,I⟩) r.length cap)) M k->LY w M k:=by
  rintro k ⟨u,hu,y|y⟩
  .rw[q] at y;cases y
   exact⟨_,(by simpa[ZP] using hu),.inl h0⟩
  .rw[c 1 (by omega)] at y;exact⟨u,hu,.inr y⟩
 have hf:Fr M w (w.setCell ⟨M,0,I⟩ (F (Z ⟨g,0,I⟩) r.length cap)):=⟨rfl,rfl,rfl,by simp[World.setCell],fun k _ l h2=>⟨Below.heap_setCell _ _ _ _ l,fun hr=>h2 (a k hr)⟩⟩
 refine⟨g,cap,d,pt,ps,pc,by simpa using h0,p,z,a4,by simpa using cell 0 _ (by omega) rfl,cell 1 _ (by omega) rfl,cell 2 _ (by omega) rfl,cell 3 _ (by omega) rfl,a3,⟨⟨_,mv,ys,a8,q,(c 1 (by omega)).trans l,ownsRow_setCell_below (ownsRow_pop a6 (by simpa using x)) (by simp) _,ownsRow_setCell_below o1 (by simp) _,fun k a2 a0=>a1 k (by simpa[ZP] using a2) a0,a7,a5⟩,(c 2 (by omega)).trans h.c2,(c 3 (by omega)).trans h.c3,(c 4 (by omega)).trans h.c4,(c 5 (by omega)).trans h.c5,(c 6 (by omega)).trans h.c6,fun o=>by simpa using h.fz o,?_,fun b j=>⟨(h.far b j).1,fun hr=>(h.far b j).2 (a b hr)⟩,h.bel.trans ((Zd _ _).setCell h.lo _),h.lo⟩,hf⟩;exact h.hg.of fun b j i=>hf.cell (h.hg.lt j) (h.far b j).1 (h.far b j).2 i
theorem MS.tasks{s:St}(h:MS w0 w M G s):∃a c,w.cell? ⟨M,0,I⟩=Z (F a s.ts.length c):=by
 obtain⟨q,r,o,p,b,u,i,o1,j,x,l⟩:=h.ex;rcases i.2 with⟨rfl,e⟩|⟨g,k,d,rfl,_⟩
 .exact⟨I,0,by rw[e];exact b⟩
 .exact⟨_,_,b⟩
theorem YQ{x0 x1 x2 v z:Zs}(d:W.cell? ⟨b,0,I⟩=Z x0)(a:W.cell? ⟨b,1,I⟩=Z x1)(c:W.cell? ⟨b,2,I⟩=Z x2):
  (((W.setCell ⟨b,0,I⟩ u).setCell ⟨b,1,I⟩ v).setCell ⟨b,2,I⟩ z).cell? ⟨b,0,I⟩=Z u/\(((W.setCell ⟨b,0,I⟩ u).setCell ⟨b,1,I⟩ v).setCell ⟨b,2,I⟩ z).cell? ⟨b,1,I⟩=Z v/\(((W.setCell ⟨b,0,I⟩ u).setCell ⟨b,1,I⟩ v).setCell ⟨b,2,I⟩ z).cell? ⟨b,2,I⟩=Z z:=by
 refine⟨?_,?_,?_⟩
 .rw[Yo (by omega),Yo (by omega)];exact XW d
 .rw[Yo (by omega)];exact XW ((Yo (by omega)).trans a)
 .exact XW ((Yo (by omega)).trans ((Yo (by omega)).trans c))
def mk(s:St):Nat:=if s.ended.k=0 then mu s else 0
def C3(w0 W1:Zj)(M:Nat)(x:Tm)(fuel:Nat)(k:Nat)(wr:Zj):Prop:=∃n G s,s=XE n (MX x fuel)/\(s.ended.k=0->Sm s/\mu s<=200000)/\MS w0 wr M G s/\Fr M W1 wr/\k=mk s
theorem BT{x:Tm}{fuel:Nat}{p:Option Addr}(h:MS w0 w M G ⟨[],[],0,fuel,Yl⟩)(hx:NH w0 p x)(sx:KX x)(hz:x.tsz<=100)(hf:fuel<=100):
  Zu Zg 43 #[Zo (Z ⟨M,0,I⟩),Zo p] w fun e w'=>e=Zl (Zn #[E C (X9 x fuel).k,E C (X9 x fuel).n,.bool (X9 x fuel).b])/\Zm w0.heap.size w0 w':=by
 obtain⟨a8,av⟩:=Sz sx hz hf;obtain⟨O,hO⟩:∃O,O=X9 x fuel:=⟨_,rfl⟩
 rw[<-hO];have HO:Zq (∀n,(XE n (MX x fuel)).done->O=RM (XE n (MX x fuel))):=fun n hd=>by rw[hO];exact TV sx hz hf hd
 have bg:=h.lt;have HN:Zq (∀n,(XE n (MX x fuel)).ended.k=0->Sm (XE n (MX x fuel))/\mu (XE n (MX x fuel))<=200000):=fun n hn=>by
  obtain⟨a,b⟩:=SD a8 n hn;refine⟨a,?_⟩;rcases b with b|b
  .omega
  .have:=a.max;simp only[mu,b,ZA,List.sum_nil];omega
 obtain⟨W1,a1⟩:∃W,W=w.alloc (Zf #[E C 0,E C 0,.bool Zi] 29):=⟨_,rfl⟩
 have a7:bL w W1:=by rw[a1];exact(Zd _ _).alloc (Zb _) _
 have b1:=h.below a7;have z0:W1.cell? ⟨w.heap.size,0,I⟩=Z (E C 0):=by rw[a1];simp[go_sem]
 have z1:W1.cell? ⟨w.heap.size,1,I⟩=Z (E C 0):=by rw[a1];simp[go_sem]
 have z2:W1.cell? ⟨w.heap.size,2,I⟩=Z (.bool Zi):=by rw[a1];simp[go_sem]
 have zf:∀i,W1.frozen? ⟨w.heap.size,i,I⟩=Zi:=by intro i;rw[a1];simp[go_sem]
 have a0:¬LY W1 M w.heap.size:=fun hr=>by
  obtain⟨u,hu,hc⟩:=hr;obtain⟨tv,mv,be,bi,e0,e1,o0,o1,_⟩:=h.ex;have b5:=Za a7 e0;have bc:=Za a7 e1;rcases hc with hc|hc
  .rw[b5] at hc;cases hc;have:=(o0.lt _ hu).2;omega
  .rw[bc] at hc;cases hc;have:=(o1.lt _ hu).2;omega
 have y:w.heap.size<W1.heap.size:=Zc _ _ z0;have HR:Zq (∀wr,Fr M W1 wr->cL wr w.heap.size 0 (E C 0)/\cL wr w.heap.size 1 (E C 0)/\cL wr w.heap.size 2 (.bool Zi)/\(∀i,wr.frozen? ⟨w.heap.size,i,I⟩=Zi)/\w.heap.size<wr.heap.size):=fun wr l=>⟨(l.cell y (by omega) a0 0).trans z0,(l.cell y (by omega) a0 1).trans z1,(l.cell y (by omega) a0 2).trans z2,fun i=>(l.frozen y (by omega) a0 i).trans (zf i),Z3 y l.size⟩
 have HP:=Yx (XN b1 (Mn.look hx (Gh.sp_nil G)) (by simp));have HM:Zq (w0.heap.size<=w.heap.size/\w.heap.size≠M):=⟨h.bel.size,by omega⟩
 clear h hx hz hf a8 av hO a7 b1 z0 z1 z2 zf a0 y sx;go_enter func43,ntmps43;go_wp2_with fail;rw[<-a1];clear a1;refine HP.out.mono ?_;rintro e w2 ⟨rfl,ao,ar⟩;have a6:Zq (C3 w0 W1 M x fuel (mk (MX x fuel)) w2):=⟨0,G,MX x fuel,rfl,HN.out 0,ao,ar,rfl⟩
 clear ao ar HP;go_wp2_with fail;go_loopg [] (mk (MX x fuel)) (fun k wr=>Zq (C3 w0 W1 M x fuel k wr))
 case atStart=>exact a6
 case round=>
  obtain⟨n,G',s,hs,a4,hm,l,hk⟩:=hrel.out;have lM:=hm.lt;have m4:=hm.c4;obtain⟨r0,r1,r2,rf,rl⟩:=HR.out wr l;have ab:=rf 0;have a9:=rf 1;have aa:=rf 2;have HE:Zq (∀(o:Xy)(W:Zj),bL w0 W->bL w0 (((W.setCell ⟨w.heap.size,0,I⟩ (E C o.k)).setCell ⟨w.heap.size,1,I⟩ (E C o.n)).setCell ⟨w.heap.size,2,I⟩ (.bool o.b))):=fun o W hW=>((hW.setCell HM.out.1 _).setCell HM.out.1 _).setCell HM.out.1 _;by_cases h0:s.ended.k=0
  .obtain⟨okk,hmu⟩:=a4 h0;have e0:(s.ended.k==0)=Zx:=by simpa using h0
   obtain⟨ts,vs,ca,fu,en⟩:=s;simp only at h0 e0 m4;rw[h0] at m4;match ts,hs,okk,hmu,hm,hk with
   |[],hs,okk,hmu,hm,hk=>
    obtain⟨q,b8,au⟩:=okk.q;obtain⟨b,rfl⟩:=b8;obtain⟨v,r,al,_,hr⟩:=J1 au;simp only at al;have b6:r=[]:=by have:=Tl _ _ hr;exact ZH.1 (by simpa using this)
    subst b6;subst al;obtain⟨a,c,m0⟩:=hm.tasks;simp only[List.length_nil] at m0;have a5:Zq (O=XM v):=by have:=HO.out n (by rw[<-hs];exact .inr rfl);rw[this,<-hs];unfold RM;rw[if_pos h0];rfl
    have HT:=Yx (Jh hm rfl (by simp));have HF:=Yx l;clear hs a4 hm l hk h0 rf hrel HN HO a6 okk hmu au hr e0;go_wp2_with fail;refine HT.out.mono ?_;rintro e w3 ⟨p3,rfl,ax,b0,am⟩;have H3:=KS b0 (HF.out.trans am) ax;clear b0 am ax r0 r1 r2 ab a9 aa rl;go_wp2_with fail;refine(WH H3.out.1.hg H3.out.2.2).mono ?_;rintro e w4 ⟨rfl,ak⟩;have j:=H3.out.1.below ak;have aq:=H3.out.2.1.trans (Fr.below ak H3.out.1.lt);obtain⟨r0,r1,r2,rf,rl⟩:=HR.out w4 aq;have y4:=j.c4;have y5:=j.c5;have y6:=j.c6;have g4:=j.fz 4;have g5:=j.fz 5;have g6:=j.fz 6;have bh:=j.lt;have ab:=rf 0;have a9:=rf 1;have aa:=rf 2;have a3:=HM.out.2;have b7:Zq (bL w0 (((w4.setCell ⟨M,4,I⟩ (E C (XM v).k)).setCell ⟨M,5,I⟩ (E C (XM v).n)).setCell ⟨M,6,I⟩ (.bool (XM v).b))):=((j.bel.setCell j.lo _).setCell j.lo _).setCell j.lo _;have a2:∀i,(((w4.setCell ⟨M,4,I⟩ (E C (XM v).k)).setCell ⟨M,5,I⟩ (E C (XM v).n)).setCell ⟨M,6,I⟩ (.bool (XM v).b)).cell? ⟨w.heap.size,i,I⟩=w4.cell? ⟨w.heap.size,i,I⟩:=fun i=>by rw[ZV _ _ _ _ (Ne.symm a3),ZV _ _ _ _ (Ne.symm a3),ZV _ _ _ _ (Ne.symm a3)]
    have x0:=(a2 0).trans r0;have x1:=(a2 1).trans r1;have x2:=(a2 2).trans r2;have HX:Zq _:=YQ (u:=E C (XM v).k) (v:=E C (XM v).n) (z:=.bool (XM v).b) x0 x1 x2;clear j aq ak rf a2 HR;go_wp2_with fail;obtain⟨q0,q1,q2⟩:=HX.out;refine Zr (v:=Zn #[E C O.k,E C O.n,.bool O.b]) ?_ rfl ⟨rfl,HE.out (XM v) _ b7.out⟩;rw[a5.out];simp[results,results43,go_sem,q0,q1,q2]
   |t::r,hs,okk,hmu,hm,hk=>
    obtain⟨g,ai,d,pt,ps,pc,m0,bd,lg,bf,c0,c1,c2,c3,az,ac,ap⟩:=hm.pop;have f0:=hm.fz 0;obtain⟨b9,bb,b4⟩:=okk.small hmu;simp only[Ya] at b9;simp only at bb b4;obtain⟨X,hX⟩:∃X,X=Obj.cells #[E C d,Zo pt,Zo ps,Zo pc] 130:=⟨_,rfl⟩
    obtain⟨W5,af⟩:∃W,W=(wr.setCell ⟨M,0,I⟩ (F (Z ⟨g,0,I⟩) r.length ai)).alloc X:=⟨_,rfl⟩
    have aj:Zm (wr.setCell ⟨M,0,I⟩ (F (Z ⟨g,0,I⟩) r.length ai)).heap.size (wr.setCell ⟨M,0,I⟩ (F (Z ⟨g,0,I⟩) r.length ai)) W5:=by rw[af];exact(Zd _ _).alloc (Zb _) _
    have aw:=ac.below aj;have ay:=l.trans (ap.trans (Fr.below aj ac.lt));have ad:UJ ⟨t::r,vs,ca,fu,en⟩=Nu ⟨r,vs,ca,fu,en⟩ t:=by simp only[UJ];rw[if_pos h0]
    have ah:Nu ⟨r,vs,ca,fu,en⟩ t=XE (n+1) (MX x fuel):=by rw[Ps,<-hs,ad]
    have ae:=Pp okk h0 (by simp);rw[ad] at ae;have HS:Zq (Zu Zg 73 #[Zo (Z ⟨M,0,I⟩),Zn #[E C d,Zo pt,Zo ps,Zo pc]] W5 fun e w'=>e=Zl (ZC #[])/\Zq (C3 w0 W1 M x fuel (mk (Nu ⟨r,vs,ca,fu,en⟩ t)) w')):=by refine(WQ aw (by simp only;omega) (by simp only;omega) (by simp only;omega) okk.vs (okk.ts t (by simp)) okk.q az).mono ?_;rintro e w' ⟨rfl,H',_,b3,b2⟩;refine⟨rfl,n+1,H',_,ah,fun h=>?_,b3,ay.trans b2,rfl⟩;have h':=h;rw[ah] at h' ⊢;exact HN.out (n+1) h'
    have HK:Zq (mk (Nu ⟨r,vs,ca,fu,en⟩ t)<gk):=by
     rw[hk];have an:=As okk (by simp);unfold mk;simp only[h0,if_true];split
     .rename_i h1;exact(ae h1).2
     .exact an
    clear hs a4 hm l hk h0 rf hrel HR HN HO a6 okk hmu ac ap aj aw ay ad ah ae az e0 r0 r1 r2 ab a9 aa rl;subst hX;go_wp2_with fail;rw[<-af];refine HS.out.mono ?_;rintro e w6 ⟨rfl,ba⟩;clear af;go_wp2_with fail;go_roundg (mk (Nu ⟨r,vs,ca,fu,en⟩ t))
    case measure=>exact HK.out
    case rel=>exact ba
  .have a5:Zq (O=s.ended/\bL w0 wr):=⟨by have:=HO.out n (by rw[<-hs];exact .inl h0);rw[this,<-hs];unfold RM;rw[if_neg h0],hm.bel⟩
   have e0:(s.ended.k==0)=Zi:=by simpa using h0
   have m5:=hm.c5;have m6:=hm.c6;clear hs a4 hm l hk h0 rf hrel HR HN HO a6;go_wp2_with fail;obtain⟨q0,q1,q2⟩:=YQ (u:=E C s.ended.k) (v:=E C s.ended.n) (z:=.bool s.ended.b) r0 r1 r2;refine Zr (v:=Zn #[E C O.k,E C O.n,.bool O.b]) ?_ rfl ⟨rfl,HE.out s.ended _ a5.out.2⟩;rw[a5.out.1];simp[results,results43,go_sem,q0,q1,q2]
theorem Pb(x:TT)(f:Int)(a:f<0\/100<f)(w:Zj):
  Zu Zg 26 #[Zn #[E C x.k,E C x.n,E C x.t.k,F x.t.a x.t.l.length x.t.c,E C x.f.k,F x.f.a x.f.l.length x.f.c,F x.a x.l.length x.c],E C f] w fun e w'=>e=Zl (ZC #[Zn #[E C 0,E C 0,.bool Zi],E C 3])/\Zm w.heap.size w w':=by
 by_cases h0:f<0
 .have e0:decide (f<0)=Zx:=by simpa using h0
  clear a h0;go_enter func26,ntmps26;go_wp2_with fail;refine Zr (v:=ZC #[Zn #[E C 0,E C 0,.bool Zi],E C 3]) (by simp[results,results26,go_sem]) rfl ⟨rfl,?_⟩;exact((Zd _ _).alloc (Zb _) _).alloc (by simp) _
 .have e0:decide (f<0)=Zi:=by simpa using h0
  have b:decide ((100:Int)<f)=Zx:=by simp;omega
  clear a h0;go_enter func26,ntmps26;go_wp2_with fail;refine Zr (v:=ZC #[Zn #[E C 0,E C 0,.bool Zi],E C 3]) (by simp[results,results26,go_sem]) rfl ⟨rfl,?_⟩;exact((Zd _ _).alloc (Zb _) _).alloc (by simp) _
theorem HG.none(w0 w:Zj):HG w0 w ⟨fun _=>I,fun _=>I,fun _=>I⟩:=⟨fun b x h=>(by cases h),fun b x h=>(by cases h),fun b x h=>(by cases h)⟩
theorem Rj(x:TT)(a:Nat)(hf:a<=100)(w:Zj)(hx:x.In w)(sx:KX x.tm)(hz:x.tm.tsz<=100):
  Zu Zg 26 #[Zn #[E C x.k,E C x.n,E C x.t.k,F x.t.a x.t.l.length x.t.c,E C x.f.k,F x.f.a x.f.l.length x.f.c,F x.a x.l.length x.c],E C a] w fun e w'=>e=Zl (ZC #[Zn #[E C (X9 x.tm a).k,E C (X9 x.tm a).n,.bool (X9 x.tm a).b],E C 0])/\Zm w.heap.size w w':=by
 have e0:decide ((a:Int)<0)=Zi:=by simp
 have e1:decide ((100:Int)<(a:Int))=Zi:=by simp;omega
 obtain⟨W1,d⟩:∃W,W=(w.alloc (Zf #[E C x.k,E C x.n,E C x.t.k,F x.t.a x.t.l.length x.t.c,E C x.f.k,F x.f.a x.f.l.length x.f.c,F x.a x.l.length x.c] 27)).alloc (Zf #[E C 0,E C 0,.bool Zi] 29):=⟨_,rfl⟩
 have l:Zm w.heap.size w W1:=by rw[d];exact((Zd _ _).alloc (Zb _) _).alloc (by simp) _
 have k:W1.heap.size=w.heap.size+1+1:=by rw[d];simp
 have r:X4 W1 w.heap.size 0 x:=by constructor<;>(rw[d];simp[go_sem])
 have z0:W1.cell? ⟨w.heap.size+1,0,I⟩=Z (E C 0):=by rw[d];simp[go_sem]
 have z1:W1.cell? ⟨w.heap.size+1,1,I⟩=Z (E C 0):=by rw[d];simp[go_sem]
 have z2:W1.cell? ⟨w.heap.size+1,2,I⟩=Z (.bool Zi):=by rw[d];simp[go_sem]
 have zf:∀i,W1.frozen? ⟨w.heap.size+1,i,I⟩=Zi:=by intro i;rw[d];simp[go_sem]
 obtain⟨W2,c⟩:∃W,W=W1.alloc (Zf #[F I 0 0,F I 0 0,E C 0,E C (a:Int),E C 0,E C 0,.bool Zi] 74):=⟨_,rfl⟩
 have y:Zm W1.heap.size W1 W2:=by rw[c];exact(Zd _ _).alloc (Zb _) _
 have q:MS W1 W2 W1.heap.size ⟨fun _=>I,fun _=>I,fun _=>I⟩ ⟨[],[],0,a,Yl⟩:=by refine⟨⟨F I 0 0,F I 0 0,[],[],by rw[c];simp[go_sem],by rw[c];simp[go_sem],ZL _ _ _ _,ZL _ _ _ _,fun g h=>by simp[ZP] at h,rfl,rfl⟩,by rw[c];simp[go_sem],by rw[c];simp[go_sem],by rw[c];simp[go_sem,Yl],by rw[c];simp[go_sem,Yl],by rw[c];simp[go_sem,Yl],fun o=>by rw[c];simp[go_sem],HG.none _ _,fun b h=>?_,y,Zb _⟩;rcases h with h|h|h<;>exact absurd rfl h
 have HC:Zq (Zu Zg 43 #[Zo (Z ⟨W1.heap.size,0,I⟩),Zo (Z ⟨w.heap.size,0,I⟩)] W2 fun e w'=>e=Zl (Zn #[E C (X9 x.tm a).k,E C (X9 x.tm a).n,.bool (X9 x.tm a).b])/\Zm W1.heap.size W1 w'):=BT q ⟨w.heap.size,0,x,rfl,r,hx.below l,rfl⟩ sx hz hf;rw[k] at HC;have HZ:Zq (Zm w.heap.size w W1/\W1.heap.size=w.heap.size+1+1/\W1.cell? ⟨w.heap.size+1,0,I⟩=Z (E C 0)/\W1.cell? ⟨w.heap.size+1,1,I⟩=Z (E C 0)/\W1.cell? ⟨w.heap.size+1,2,I⟩=Z (.bool Zi)/\∀i,W1.frozen? ⟨w.heap.size+1,i,I⟩=Zi):=⟨l,k,z0,z1,z2,zf⟩
 obtain⟨O,hO⟩:∃O,O=X9 x.tm a:=⟨_,rfl⟩
 rw[<-hO] at HC ⊢;rw[d] at c;clear hO q r l k z0 z1 z2 zf y hx sx hz hf;go_enter func26,ntmps26;go_wp2_with fail;rw[<-c];refine HC.out.mono ?_;rintro e w3 ⟨rfl,j⟩;obtain⟨y1,y2,y3,y4,y5,y6⟩:=HZ.out;have r0:=(j.cell (p:=⟨w.heap.size+1,0,I⟩) (by simp)).trans y3;have r1:=(j.cell (p:=⟨w.heap.size+1,1,I⟩) (by simp)).trans y4;have r2:=(j.cell (p:=⟨w.heap.size+1,2,I⟩) (by simp)).trans y5;have f0:=(j.frozen (p:=⟨w.heap.size+1,0,I⟩) (by simp)).trans (y6 0);have f1:=(j.frozen (p:=⟨w.heap.size+1,1,I⟩) (by simp)).trans (y6 1);have f2:=(j.frozen (p:=⟨w.heap.size+1,2,I⟩) (by simp)).trans (y6 2);have HB:=Yx (y1.trans (j.mono (by omega)));clear y1 y2 y3 y4 y5 y6 j d c;go_wp2_with fail;obtain⟨q0,q1,q2⟩:=YQ (u:=E C O.k) (v:=E C O.n) (z:=.bool O.b) r0 r1 r2;refine Zr (v:=ZC #[Zn #[E C O.k,E C O.n,.bool O.b],E C 0]) (by simp[results,results26,go_sem,q0,q1,q2]) rfl ⟨rfl,?_⟩;exact((HB.out.setCell (by simp) _).setCell (by simp) _).setCell (by simp) _
def K2(x:Tm)(f:Int):Xy×Int:=if Uh 0 x=Zx then (match Xq x [] 0 with
 |none=>(Yl,2)
 |some p=>if f<0\/100<f then (Yl,3) else (X9 p.1 f.toNat,0)) else (Yl,1)
def Uk(r:Xy×Int)(w:Zj)(e:Ending)(w':Zj):Prop:=e=Zl (ZC #[Zn #[E C r.1.k,E C r.1.n,.bool r.1.b],E C r.2])/\Zm w.heap.size w w'
theorem Nn(y:TT)(f:Int)(w:Zj)(b:y.In w)(a:KX y.tm)(hz:y.tm.tsz<=100):
  Zu Zg 26 #[Zn #[E C y.k,E C y.n,E C y.t.k,F y.t.a y.t.l.length y.t.c,E C y.f.k,F y.f.a y.f.l.length y.f.c,F y.a y.l.length y.c],E C f] w (Uk (if f<0\/100<f then (Yl,3) else (X9 y.tm f.toNat,0)) w):=by
 by_cases hf:f<0\/100<f
 .rw[if_pos hf];exact Pb y f hf w
 .rw[if_neg hf];have e:f=((f.toNat:Nat):Int):=by omega
  have:=Rj y f.toNat (by omega) w b a hz;rw[<-e] at this;exact this
theorem Pu(x:TT)(f:Int)(w:Zj)(hg:Gp w)(hx:x.In w)(a4:x.nb):
  Zu Zg 11 #[Zn #[E C x.k,E C x.n,E C x.t.k,F x.t.a x.t.l.length x.t.c,E C x.f.k,F x.f.a x.f.l.length x.f.c,F x.a x.l.length x.c],E C f] w (Uk (K2 x.tm f) w):=by
 obtain⟨W1,g⟩:∃W,W=(w.alloc (Zf x.v 27)).alloc (Zf #[E C 0,E C 0,.bool Zi] 29):=⟨_,rfl⟩
 have k:bL w W1:=by rw[g];exact((Zd _ _).alloc (Zb _) _).alloc (by simp) _
 have q:W1.heap.size=w.heap.size+1+1:=by rw[g];simp
 have z0:W1.cell? ⟨w.heap.size+1,0,I⟩=Z (E C 0):=by rw[g];simp[go_sem]
 have z1:W1.cell? ⟨w.heap.size+1,1,I⟩=Z (E C 0):=by rw[g];simp[go_sem]
 have z2:W1.cell? ⟨w.heap.size+1,2,I⟩=Z (.bool Zi):=by rw[g];simp[go_sem]
 have zf:∀i,W1.frozen? ⟨w.heap.size+1,i,I⟩=Zi:=by intro i;rw[g];simp[go_sem]
 have HC:=Yx (Wj x W1 (hg.below k) (hx.below k) a4);have HZ:Zq (∀W,bL W1 W->cL W (w.heap.size+1) 0 (E C 0)/\cL W (w.heap.size+1) 1 (E C 0)/\cL W (w.heap.size+1) 2 (.bool Zi)/\W.frozen? ⟨w.heap.size+1,0,I⟩=Zi/\W.frozen? ⟨w.heap.size+1,1,I⟩=Zi/\W.frozen? ⟨w.heap.size+1,2,I⟩=Zi/\w.heap.size+1<W.heap.size/\bL w W):=fun W hW=>⟨Za hW z0,Za hW z1,Za hW z2,(hW.frozen (p:=⟨w.heap.size+1,0,I⟩) (by rw[q];show w.heap.size+1<_;omega)).trans (zf 0),(hW.frozen (p:=⟨w.heap.size+1,1,I⟩) (by rw[q];show w.heap.size+1<_;omega)).trans (zf 1),(hW.frozen (p:=⟨w.heap.size+1,2,I⟩) (by rw[q];show w.heap.size+1<_;omega)).trans (zf 2),by have:=hW.size;omega,k.trans (hW.mono k.size)⟩
 obtain⟨R,hR⟩:∃R,R=K2 x.tm f:=⟨_,rfl⟩
 rw[<-hR];have HR:=Yx hR;have HE:Zq (∀(o:Xy)(er:Int)(W:Zj),R=(o,er)->bL w W->Uk R w (Zl (ZC #[Zn #[E C o.k,E C o.n,.bool o.b],E C er])) (((W.setCell ⟨w.heap.size+1,0,I⟩ (E C o.k)).setCell ⟨w.heap.size+1,1,I⟩ (E C o.n)).setCell ⟨w.heap.size+1,2,I⟩ (.bool o.b))):=fun o er W h1 h2=>by rw[h1];exact⟨rfl,((h2.setCell (by simp) _).setCell (by simp) _).setCell (by simp) _⟩
 clear hR k q z0 z1 z2 zf hg hx a4;go_enter func11,ntmps11;go_wp2_with fail;rw[<-g];clear g;refine HC.out.mono ?_;rintro e w2 ⟨d,⟨c,rfl⟩|⟨c,h,rfl⟩|⟨c,y,i,h,rfl,a2,a5,a1⟩⟩
 .have j:Zq (R=(Yl,1)):=by rw[HR.out];unfold K2;rw[if_neg (by rw[c];simp)];rfl
  obtain⟨b,a⟩:∃b,b=(w2.alloc (Zf #[E C 0,E C 0,E C 0,F I 0 0,E C 0,F I 0 0,F I 0 0] 27)).alloc (Zf #[E C 0,F I 0 0] 24):=⟨_,rfl⟩
  have l:bL W1 b:=d.trans ((show bL w2 b by rw[a];exact((Zd _ _).alloc (Zb _) _).alloc (by simp) _).mono d.size);obtain⟨r0,r1,r2,f0,f1,f2,rl,hB⟩:=HZ.out b l;have HB:=Yx hB;clear l hB c d HC HZ;go_upto_region 2 with fail;rw[<-a];clear a;go_wp2_with fail;obtain⟨q0,q1,q2⟩:=YQ (u:=E C 0) (v:=E C 0) (z:=.bool Zi) r0 r1 r2;exact Zr (v:=ZC #[Zn #[E C 0,E C 0,.bool Zi],E C 1]) (by simp[results,results11,go_sem,q0,q1,q2]) rfl (HE.out Yl 1 b j.out HB.out)
 .have j:Zq (R=(Yl,2)):=by rw[HR.out];unfold K2;rw[if_pos c,h];rfl
  obtain⟨b,a⟩:∃b,b=(w2.alloc (Zf #[E C 0,E C 0,E C 0,F I 0 0,E C 0,F I 0 0,F I 0 0] 27)).alloc (Zf #[E C 0,F I 0 0] 24):=⟨_,rfl⟩
  have l:bL W1 b:=d.trans ((show bL w2 b by rw[a];exact((Zd _ _).alloc (Zb _) _).alloc (by simp) _).mono d.size);obtain⟨r0,r1,r2,f0,f1,f2,rl,hB⟩:=HZ.out b l;have HB:=Yx hB;clear l hB c h d HC HZ;go_upto_region 2 with fail;rw[<-a];clear a;go_wp2_with fail;obtain⟨q0,q1,q2⟩:=YQ (u:=E C 0) (v:=E C 0) (z:=.bool Zi) r0 r1 r2;exact Zr (v:=ZC #[Zn #[E C 0,E C 0,.bool Zi],E C 2]) (by simp[results,results11,go_sem,q0,q1,q2]) rfl (HE.out Yl 2 b j.out HB.out)
 .obtain⟨sy,zy,_⟩:=M9 c h;obtain⟨r,hr⟩:∃r:Xy×Int,r=(if f<0\/100<f then (Yl,3) else (X9 y.tm f.toNat,0)):=⟨_,rfl⟩
  have j:Zq (R=r):=by rw[HR.out,hr];unfold K2;rw[if_pos c,h];exact rfl
  obtain⟨b,a⟩:∃b,b=(w2.alloc (Zf y.v 27)).alloc (Zf i.v 24):=⟨_,rfl⟩
  have a0:bL w2 b:=by rw[a];exact((Zd _ _).alloc (Zb _) _).alloc (by simp) _
  have l:=d.trans (a0.mono d.size);have p0:b.cell? ⟨w2.heap.size,0,I⟩=Z (E C y.k):=by rw[a];simp[go_sem]
  have p1:b.cell? ⟨w2.heap.size,1,I⟩=Z (E C y.n):=by rw[a];simp[go_sem]
  have p2:b.cell? ⟨w2.heap.size,2,I⟩=Z (E C y.t.k):=by rw[a];simp[go_sem]
  have p3:b.cell? ⟨w2.heap.size,3,I⟩=Z (F y.t.a y.t.l.length y.t.c):=by rw[a];simp[go_sem]
  have p4:b.cell? ⟨w2.heap.size,4,I⟩=Z (E C y.f.k):=by rw[a];simp[go_sem]
  have p5:b.cell? ⟨w2.heap.size,5,I⟩=Z (F y.f.a y.f.l.length y.f.c):=by rw[a];simp[go_sem]
  have p6:b.cell? ⟨w2.heap.size,6,I⟩=Z (F y.a y.l.length y.c):=by rw[a];simp[go_sem]
  have HO:Zq (Zu Zg 26 #[Zn y.v,E C f] b fun e w'=>e=Zl (ZC #[Zn #[E C r.1.k,E C r.1.n,.bool r.1.b],E C r.2])/\bL W1 w'):=by refine(Nn y f b (a2.below a0) sy zy).mono ?_;rintro e w' ⟨he,hb⟩;rw[hr];exact⟨he,l.trans (hb.mono l.size)⟩
  have a6:w2.heap.size<b.heap.size:=Zc _ _ p0;clear l a0 c h d HC a2 a5 a1 sy zy hr;go_upto_region 2 with fail;rw[<-a];clear a;go_wp2_with fail;refine HO.out.mono ?_;rintro e w4 ⟨rfl,a3⟩;obtain⟨r0,r1,r2,f0,f1,f2,rl,hB⟩:=HZ.out w4 a3;have HB:=Yx hB;clear a3 hB HZ p0 p1 p2 p3 p4 p5 p6;go_wp2_with fail;obtain⟨q0,q1,q2⟩:=YQ (u:=E C r.1.k) (v:=E C r.1.n) (z:=.bool r.1.b) r0 r1 r2;exact Zr (v:=ZC #[Zn #[E C r.1.k,E C r.1.n,.bool r.1.b],E C r.2]) (by simp[results,results11,go_sem,q0,q1,q2]) rfl (HE.out r.1 r.2 w4 j.out HB.out)
def N2(s:ByteArray)(f:Int):Xy×Int:=if 1000<s.size then (Yl,4) else (match Jj s.data.toList with
 |none=>(Yl,1)
 |some x=>K2 x f)
theorem Sx(s:ByteArray)(hm:s.size<=9223372036854775807)(f:Int)(w:Zj)(hg:Gl w):Zu Zg 17 #[.string s,E C f] w (Uk (N2 s f) w):=by
 obtain⟨W1,b⟩:∃W,W=w.alloc (Zf #[E C 0,E C 0,.bool Zi] 29):=⟨_,rfl⟩
 have d:bL w W1:=by rw[b];exact(Zd _ _).alloc (Zb _) _
 have l:W1.heap.size=w.heap.size+1:=by rw[b];simp
 have z0:W1.cell? ⟨w.heap.size,0,I⟩=Z (E C 0):=by rw[b];simp[go_sem]
 have z1:W1.cell? ⟨w.heap.size,1,I⟩=Z (E C 0):=by rw[b];simp[go_sem]
 have z2:W1.cell? ⟨w.heap.size,2,I⟩=Z (.bool Zi):=by rw[b];simp[go_sem]
 have zf:∀i,W1.frozen? ⟨w.heap.size,i,I⟩=Zi:=by intro i;rw[b];simp[go_sem]
 have HC:=Yx (VI s hm W1 (hg.below d));have HZ:Zq (∀W,bL W1 W->cL W w.heap.size 0 (E C 0)/\cL W w.heap.size 1 (E C 0)/\cL W w.heap.size 2 (.bool Zi)/\W.frozen? ⟨w.heap.size,0,I⟩=Zi/\W.frozen? ⟨w.heap.size,1,I⟩=Zi/\W.frozen? ⟨w.heap.size,2,I⟩=Zi/\w.heap.size<W.heap.size/\bL w W/\Gl W):=fun W j=>⟨Za j z0,Za j z1,Za j z2,(j.frozen (p:=⟨w.heap.size,0,I⟩) (by rw[l];show w.heap.size<_;omega)).trans (zf 0),(j.frozen (p:=⟨w.heap.size,1,I⟩) (by rw[l];show w.heap.size<_;omega)).trans (zf 1),(j.frozen (p:=⟨w.heap.size,2,I⟩) (by rw[l];show w.heap.size<_;omega)).trans (zf 2),by have:=j.size;omega,d.trans (j.mono d.size),hg.below (d.trans (j.mono d.size))⟩
 obtain⟨R,hR⟩:∃R,R=N2 s f:=⟨_,rfl⟩
 rw[<-hR];have HR:=Yx hR;have HE:Zq (∀(o:Xy)(h:Int)(W:Zj),R=(o,h)->bL w W->Uk R w (Zl (ZC #[Zn #[E C o.k,E C o.n,.bool o.b],E C h])) (((W.setCell ⟨w.heap.size,0,I⟩ (E C o.k)).setCell ⟨w.heap.size,1,I⟩ (E C o.n)).setCell ⟨w.heap.size,2,I⟩ (.bool o.b))):=fun o h W h1 h2=>by rw[h1];exact⟨rfl,((h2.setCell (by simp) _).setCell (by simp) _).setCell (by simp) _⟩
 clear hR d l z0 z1 z2 zf hg hm;go_enter func17,ntmps17;go_wp2_with fail;rw[<-b];clear b;refine HC.out.mono ?_;rintro e w2 ⟨x,h,rfl,a1,a3,y,g⟩;have a4:(h=0/\Zq (R=K2 x.tm f))\/((h != 0)=Zx/\Zq (R=(Yl,h))):=by
  rcases g with⟨h1,rfl,_⟩|⟨h1,h2,rfl,_⟩|⟨h1,h2,rfl⟩
  .refine .inr ⟨rfl,?_⟩;rw[HR.out];unfold N2;rw[if_pos h1];exact rfl
  .refine .inr ⟨rfl,?_⟩;rw[HR.out];unfold N2;rw[if_neg (by omega),h2];exact rfl
  .refine .inl ⟨rfl,?_⟩;rw[HR.out];unfold N2;rw[if_neg (by omega),h2];exact rfl
 obtain⟨c,a⟩:∃c,c=w2.alloc (Zf x.v 27):=⟨_,rfl⟩
 have q:bL w2 c:=by rw[a];exact(Zd _ _).alloc (Zb _) _
 have hA:=y.trans (q.mono y.size);have p0:c.cell? ⟨w2.heap.size,0,I⟩=Z (E C x.k):=by rw[a];simp[go_sem]
 have p1:c.cell? ⟨w2.heap.size,1,I⟩=Z (E C x.n):=by rw[a];simp[go_sem]
 have p2:c.cell? ⟨w2.heap.size,2,I⟩=Z (E C x.t.k):=by rw[a];simp[go_sem]
 have p3:c.cell? ⟨w2.heap.size,3,I⟩=Z (F x.t.a x.t.l.length x.t.c):=by rw[a];simp[go_sem]
 have p4:c.cell? ⟨w2.heap.size,4,I⟩=Z (E C x.f.k):=by rw[a];simp[go_sem]
 have p5:c.cell? ⟨w2.heap.size,5,I⟩=Z (F x.f.a x.f.l.length x.f.c):=by rw[a];simp[go_sem]
 have p6:c.cell? ⟨w2.heap.size,6,I⟩=Z (F x.a x.l.length x.c):=by rw[a];simp[go_sem]
 have a6:w2.heap.size<c.heap.size:=Zc _ _ p0;obtain⟨r0,r1,r2,f0,f1,f2,rl,hB,a0⟩:=HZ.out c hA;have HO:Zq (Zu Zg 11 #[Zn x.v,E C f] c fun e w'=>e=Zl (ZC #[Zn #[E C (K2 x.tm f).1.k,E C (K2 x.tm f).1.n,.bool (K2 x.tm f).1.b],E C (K2 x.tm f).2])/\bL W1 w'):=by refine(Pu x f c a0.gp (a1.below q) a3).mono ?_;rintro e w' ⟨he,hb⟩;exact⟨he,hA.trans (hb.mono hA.size)⟩
 have HB:=Yx hB;clear hA q y HC a1 a3 hB a0 g HR;rcases a4 with⟨rfl,k⟩|⟨he,k⟩
 .obtain⟨r,hr⟩:∃r,r=K2 x.tm f:=⟨_,rfl⟩
  rw[<-hr] at HO k;clear hr r0 r1 r2 f0 f1 f2 rl;go_upto_region 2 with fail;rw[<-a];clear a;go_wp2_with fail;refine HO.out.mono ?_;rintro e w4 ⟨rfl,a2⟩;obtain⟨r0,r1,r2,f0,f1,f2,rl,hB,_⟩:=HZ.out w4 a2;have a5:=Yx hB;clear a2 hB HZ p0 p1 p2 p3 p4 p5 p6;go_wp2_with fail;obtain⟨q0,q1,q2⟩:=YQ (u:=E C r.1.k) (v:=E C r.1.n) (z:=.bool r.1.b) r0 r1 r2;exact Zr (v:=ZC #[Zn #[E C r.1.k,E C r.1.n,.bool r.1.b],E C r.2]) (by simp[results,results17,go_sem,q0,q1,q2]) rfl (HE.out r.1 r.2 w4 k.out a5.out)
 .clear HO HZ p0 p1 p2 p3 p4 p5 p6;go_upto_region 2 with fail;rw[<-a];clear a;go_wp2_with fail;obtain⟨q0,q1,q2⟩:=YQ (u:=E C 0) (v:=E C 0) (z:=.bool Zi) r0 r1 r2;exact Zr (v:=ZC #[Zn #[E C 0,E C 0,.bool Zi],E C h]) (by simp[results,results17,go_sem,q0,q1,q2]) rfl (HE.out Yl h c k.out HB.out)
def aX:Tm:=⟨8,0,Yn,Yn,[⟨7,0,Yn,Yn,[⟨4,0,Yn,Yn,[⟨1,0,Yn,Yn,[]⟩,⟨2,1,Yn,Yn,[]⟩]⟩]⟩,⟨9,0,Yn,Yn,[⟨2,6,Yn,Yn,[]⟩]⟩]⟩
def aY:Tm:=⟨8,0,Yn,Yn,[⟨7,0,Yn,Yn,[⟨4,0,Yn,Yn,[⟨10,3,⟨1,[]⟩,Yn,[⟨1,0,Yn,Yn,[]⟩]⟩,⟨2,1,Yn,Yn,[]⟩]⟩]⟩,⟨9,0,Yn,Yn,[⟨10,6,Yn,⟨1,[]⟩,[⟨2,6,Yn,Yn,[]⟩]⟩]⟩]⟩
def aS:ByteArray:=⟨#[40,99,97,108,108,32,40,102,117,110,32,97,110,121,32,40,97,100,100,32,35,48,32,49,41,41,32,40,97,115,32,97,110,121,32,54,41,41]⟩
theorem Dn:XG Yn=Zx:=by simp[XG,Yn,YV,Uf]
theorem Cp:Ym 4 Yn=Zx:=by simp[Ym,Yn]
theorem Qz:Uh 0 aX=Zx:=by
 have:Xo 0 40 0 aX 40=Z 33:=by simp[aX,Xo,Uv,X6,Xt,UI,YA,XK,Dn,Cp,Xm]
 exact congrArg Option.isSome this
theorem Vg:Xq aX [] 0=Z (aY,⟨1,[]⟩):=by simp[aX,aY,JZ,Y4,Yt,YL,UM,XR,Jd,YV,Uf,Yk,Yv,Yn,X2,Tm.sz_mk]
set_option maxRecDepth 100000 in
theorem BE:Y0 ((Xb aS.data.toList).length+1) (Xb aS.data.toList)=Z (aX,[]):=by kernel_rfl
theorem BF:Jj aS.data.toList=Z aX:=by unfold Jj;rw[BE];simp only;rw[if_pos Qz]
theorem C1(o:Xy):YZ 100 ⟨1,[]⟩ Yn o=Z ⟨Zi,Yl,1,Yl,I,I,Zx⟩:=by
 have e:YZ 99 ⟨1,[]⟩ ⟨1,[]⟩ o=I:=by rw[YZ,if_pos (by simp[YV,Uf])]
 rw[YZ,if_neg (by simp[Yn,YV,Uf,Yv]),if_neg (by simp),if_pos (by rfl)];have g:Ys ⟨1,[]⟩=⟨1,[]⟩:=rfl;simp only[g,e,YU]
theorem C0(o:Xy):YZ 100 Yn ⟨1,[]⟩ o=Z ⟨Zx,o,1,Yl,I,I,Zi⟩:=by
 have e:YZ 99 ⟨1,[]⟩ ⟨1,[]⟩ o=I:=by rw[YZ,if_pos (by simp[YV,Uf])]
 rw[YZ,if_neg (by simp[Yn,YV,Uf,Yv]),if_neg (by simp),if_neg (by simp),if_pos (by rfl)];have g:Ys ⟨1,[]⟩=⟨1,[]⟩:=rfl;simp only[g,e,YU]
theorem C2:X9 aY 5=⟨1,7,Zi⟩:=by
 obtain⟨a,b,_⟩:=M9 Qz Vg;have e:XE 13 (MX aY 5)=⟨[],[XF 7],1,5,Yl⟩:=by simp[XE,MX,UJ,Nu,YW,Je,St.plan,St.push,YY,Pd,Xc,aY,Tm.at,Xu,UB,J2,ME,XF,C1,C0,No,XO,U4,YK.core,Yl,Cv];omega
 rw[TV a b (by omega) (n:=13) (by rw[e];exact .inr rfl),e];rfl
theorem Cq:N2 aS 5=(⟨1,7,Zi⟩,0):=by
 unfold N2;rw[if_neg (by show ¬(1000<38);omega),BF];simp only;unfold K2;rw[if_pos Qz,Vg];simp only;rw[if_neg (by omega)];show (X9 aY 5,(0:Int))=_
 rw[C2]
def ML(x:Tm)(f:Int):Xy×Int:=if Uh 0 x=Zx then (if f<0\/100<f then (Yl,3) else (X9 (YE x) f.toNat,0)) else (Yl,1)
theorem TH(x:TT)(f:Int)(w:Zj)(hg:Gp w)(hx:x.In w)(a9:x.nb):
  Zu Zg 14 #[Zn #[E C x.k,E C x.n,E C x.t.k,F x.t.a x.t.l.length x.t.c,E C x.f.k,F x.f.a x.f.l.length x.f.c,F x.a x.l.length x.c],E C f] w (Uk (ML x.tm f) w):=by
 obtain⟨W1,a⟩:∃W,W=(w.alloc (Zf x.v 27)).alloc (Zf #[E C 0,E C 0,.bool Zi] 29):=⟨_,rfl⟩
 have d:bL w W1:=by rw[a];exact((Zd _ _).alloc (Zb _) _).alloc (by simp) _
 have g:W1.heap.size=w.heap.size+1+1:=by rw[a];simp
 have z0:W1.cell? ⟨w.heap.size+1,0,I⟩=Z (E C 0):=by rw[a];simp[go_sem]
 have z1:W1.cell? ⟨w.heap.size+1,1,I⟩=Z (E C 0):=by rw[a];simp[go_sem]
 have z2:W1.cell? ⟨w.heap.size+1,2,I⟩=Z (.bool Zi):=by rw[a];simp[go_sem]
 have zf:∀i,W1.frozen? ⟨w.heap.size+1,i,I⟩=Zi:=by intro i;rw[a];simp[go_sem]
 have h7:X4 W1 w.heap.size 0 x:=by constructor<;>(rw[a];simp[go_sem])
 have HC:=Yx (Mh x 0 W1 (hg.below d) (hx.below d) a9);have HZ:Zq (∀W,bL W1 W->cL W (w.heap.size+1) 0 (E C 0)/\cL W (w.heap.size+1) 1 (E C 0)/\cL W (w.heap.size+1) 2 (.bool Zi)/\W.frozen? ⟨w.heap.size+1,0,I⟩=Zi/\W.frozen? ⟨w.heap.size+1,1,I⟩=Zi/\W.frozen? ⟨w.heap.size+1,2,I⟩=Zi/\w.heap.size+1<W.heap.size/\bL w W):=fun W c=>⟨Za c z0,Za c z1,Za c z2,(c.frozen (p:=⟨w.heap.size+1,0,I⟩) (by rw[g];show w.heap.size+1<_;omega)).trans (zf 0),(c.frozen (p:=⟨w.heap.size+1,1,I⟩) (by rw[g];show w.heap.size+1<_;omega)).trans (zf 1),(c.frozen (p:=⟨w.heap.size+1,2,I⟩) (by rw[g];show w.heap.size+1<_;omega)).trans (zf 2),by have:=c.size;omega,d.trans (c.mono d.size)⟩
 have HX:Zq (∀W,bL W1 W->x.In W/\X4 W w.heap.size 0 x):=fun W c=>⟨(hx.below d).below c,h7.below c⟩
 obtain⟨R,hR⟩:∃R,R=ML x.tm f:=⟨_,rfl⟩
 rw[<-hR];have HR:=Yx hR;have HE:Zq (∀(o:Xy)(er:Int)(W:Zj),R=(o,er)->bL w W->Uk R w (Zl (ZC #[Zn #[E C o.k,E C o.n,.bool o.b],E C er])) (((W.setCell ⟨w.heap.size+1,0,I⟩ (E C o.k)).setCell ⟨w.heap.size+1,1,I⟩ (E C o.n)).setCell ⟨w.heap.size+1,2,I⟩ (.bool o.b))):=fun o er W h1 h2=>by rw[h1];exact⟨rfl,((h2.setCell (by simp) _).setCell (by simp) _).setCell (by simp) _⟩
 clear hR d g z0 z1 z2 zf hg hx a9 h7;go_enter func14,ntmps14;go_wp2_with fail;rw[<-a];clear a;refine HC.out.mono ?_;rintro e w2 ⟨rfl,b⟩;by_cases hgd:Uh 0 x.tm=Zx
 .obtain⟨hok,hsz⟩:=Lv hgd;have j:=OG x.tm (RD x.tm 0 hok (by omega));have a7:(YE x.tm).tsz<=100:=by have:=j.2;rw[WD x.tm] at this;omega
  have k:x.sz<=1000:=by have:=(PJ hgd).2;omega
  obtain⟨r,hr⟩:∃r:Xy×Int,r=(if f<0\/100<f then (Yl,3) else (X9 (YE x.tm) f.toNat,0)):=⟨_,rfl⟩
  have h:Zq (R=r):=by rw[HR.out,hr];unfold ML;rw[if_pos hgd];exact rfl
  have aa:=Yx (We x w2 (HX.out w2 b).1 k);have HO:Zq (∀(W:Zj)(y:TT),bL w2 W->y.In W->y.tm=YE x.tm->Zu Zg 26 #[Zn y.v,E C f] W fun e w'=>e=Zl (ZC #[Zn #[E C r.1.k,E C r.1.n,.bool r.1.b],E C r.2])/\bL W1 w'):=fun W y c hy he=>by refine(Nn y f W hy (by rw[he];exact j.1) (by rw[he];exact a7)).mono ?_;rintro e w' ⟨h1,hb⟩;rw[he] at h1;rw[hr];exact⟨h1,b.trans ((c.trans (hb.mono c.size)).mono b.size)⟩
  obtain⟨a0,a1,a2,a3,a4,a5,a6⟩:=(HX.out w2 b).2;simp only[Zk] at a0 a1 a2 a3 a4 a5 a6;have lx:w.heap.size<w2.heap.size:=Zc _ _ a0;rw[hgd];clear hgd hok hsz j a7 k hr b HC HR HX;go_wp2_with fail;refine aa.out.mono ?_;rintro e w4 ⟨y,rfl,hy,l,a8⟩;go_wp2_with fail;refine(HO.out w4 y a8 hy l).mono ?_;rintro e w5 ⟨rfl,q⟩;obtain⟨r0,r1,r2,f0,f1,f2,rl,hB⟩:=HZ.out w5 q;have HB:=Yx hB;clear a8 q hB HZ HO aa hy l a0 a1 a2 a3 a4 a5 a6;go_wp2_with fail;obtain⟨q0,q1,q2⟩:=YQ (u:=E C r.1.k) (v:=E C r.1.n) (z:=.bool r.1.b) r0 r1 r2;exact Zr (v:=ZC #[Zn #[E C r.1.k,E C r.1.n,.bool r.1.b],E C r.2]) (by simp[results,results14,go_sem,q0,q1,q2]) rfl (HE.out r.1 r.2 w5 h.out HB.out)
 .have hgd':Uh 0 x.tm=Zi:=by simpa using hgd
  have h:Zq (R=(Yl,1)):=by rw[HR.out];unfold ML;rw[if_neg hgd];rfl
  obtain⟨r0,r1,r2,f0,f1,f2,rl,hB⟩:=HZ.out w2 b;have HB:=Yx hB;rw[hgd'];clear hB hgd hgd' b HC HZ HX;go_wp2_with fail;obtain⟨q0,q1,q2⟩:=YQ (u:=E C 0) (v:=E C 0) (z:=.bool Zi) r0 r1 r2;exact Zr (v:=ZC #[Zn #[E C 0,E C 0,.bool Zi],E C 1]) (by simp[results,results14,go_sem,q0,q1,q2]) rfl (HE.out Yl 1 w2 h.out HB.out)
def TT.tsm:TT->Prop
 |⟨_,_,t,f,_,_,l⟩=>t.sm/\f.sm/\∀y,y∈l->y.tsm
theorem TT.tsm_mk{n:Int}{t f:Tr}:(TT.mk k n t f a c l).tsm↔t.sm/\f.sm/\∀y,y∈l->y.tsm:=by rw[TT.tsm]
theorem TT.tsm.t(h:x.tsm):x.t.sm:=by cases x;exact(TT.tsm_mk.1 h).1
theorem TT.tsm.f(h:x.tsm):x.f.sm:=by cases x;exact(TT.tsm_mk.1 h).2.1
theorem TT.tsm.mem(h:x.tsm)(b:y∈x.l):y.tsm:=by obtain⟨k,n,t,f,a,c,l⟩:=x;exact(TT.tsm_mk.1 h).2.2 y b
theorem O3(x y:TT)(w:Zj)(hx:x.In w)(hy:y.In w)(hm:x.tm=y.tm)(a1:x.lw)(r:x.tsm)
  (ih:Zq (∀(j:Nat)(hj:j<x.l.length)(z:TT)(w:Zj),x.l[j].In w->z.In w->x.l[j].tm=z.tm->Zu Zg 22 #[Zn #[E C x.l[j].k,E C x.l[j].n,E C x.l[j].t.k,F x.l[j].t.a x.l[j].t.l.length x.l[j].t.c,E C x.l[j].f.k,F x.l[j].f.a x.l[j].f.l.length x.l[j].f.c,F x.l[j].a x.l[j].l.length x.l[j].c],Zn #[E C z.k,E C z.n,E C z.t.k,F z.t.a z.t.l.length z.t.c,E C z.f.k,F z.f.a z.f.l.length z.f.c,F z.a z.l.length z.c]] w fun e w'=>e=Zl (.bool Zx)/\Zm w.heap.size w w')) :
  Zu Zg 22 #[Zn #[E C x.k,E C x.n,E C x.t.k,F x.t.a x.t.l.length x.t.c,E C x.f.k,F x.f.a x.f.l.length x.f.c,F x.a x.l.length x.c],Zn #[E C y.k,E C y.n,E C y.t.k,F y.t.a y.t.l.length y.t.c,E C y.f.k,F y.f.a y.f.l.length y.f.c,F y.a y.l.length y.c]] w fun e w'=>e=Zl (.bool Zx)/\Zm w.heap.size w w':=by
 have a5:=a1.len;obtain⟨hk,hn,hl,ht,hf,hp⟩:=WI hm;have HT:Zq (∀W,x.t.In W->y.t.In W->Zu Zg 39 #[Zn #[E C x.t.k,F x.t.a x.t.l.length x.t.c],Zn #[E C y.t.k,F y.t.a y.t.l.length y.t.c]] W fun e w'=>e=Zl (.bool Zx)/\Zm W.heap.size W w'):=by intro W h1 h2;have:=Xz _ x.t y.t W h1 h2 (Zb _) r.t;rw[ht,Pv] at this;exact this
 have HF:Zq (∀W,x.f.In W->y.f.In W->Zu Zg 39 #[Zn #[E C x.f.k,F x.f.a x.f.l.length x.f.c],Zn #[E C y.f.k,F y.f.a y.f.l.length y.f.c]] W fun e w'=>e=Zl (.bool Zx)/\Zm W.heap.size W w'):=by intro W h1 h2;have:=Xz _ x.f y.f W h1 h2 (Zb _) r.f;rw[hf,Pv] at this;exact this
 have e1:(x.k==y.k)=Zx:=by simp[hk]
 have e2:(x.n==y.n)=Zx:=by simp[hn]
 have e3:((x.l.length:Int)==(y.l.length:Int))=Zx:=by simp[hl]
 have HB:Zq (∀o k,Zm w.heap.size w ((w.alloc o).alloc k)):=fun o k=>((Zd _ _).alloc (Zb _) _).alloc (by simp) _;have HX:Zq (x.In w/\y.In w):=⟨hx,hy⟩
 have HP:Zq (x.l.length=y.l.length/\x.l.map TT.tm=y.l.map TT.tm):=⟨hl,hp⟩
 clear hk hn hl ht hf hp hm r a1;go_enter func22,ntmps22;go_wp2_with fail;refine(HT.out _ (HX.out.1.below (HB.out _ _)).t (HX.out.2.below (HB.out _ _)).t).mono ?_;rintro e w1 ⟨rfl,d⟩;have p:Zm w.heap.size w w1:=(HB.out _ _).trans (d.mono (by simp;omega));have q4:w1.cell? ⟨w.heap.size,4,I⟩=Z (E C x.f.k):=Za d (by simp[go_sem]);have q5:w1.cell? ⟨w.heap.size,5,I⟩=Z (F x.f.a x.f.l.length x.f.c):=Za d (by simp[go_sem]);have q6:w1.cell? ⟨w.heap.size,6,I⟩=Z (F x.a x.l.length x.c):=Za d (by simp[go_sem]);have p4:w1.cell? ⟨w.heap.size+1,4,I⟩=Z (E C y.f.k):=Za d (by simp[go_sem]);have p5:w1.cell? ⟨w.heap.size+1,5,I⟩=Z (F y.f.a y.f.l.length y.f.c):=Za d (by simp[go_sem]);have p6:w1.cell? ⟨w.heap.size+1,6,I⟩=Z (F y.a y.l.length y.c):=Za d (by simp[go_sem]);clear d;go_wp2_with fail;refine(HF.out _ (HX.out.1.below p).f (HX.out.2.below p).f).mono ?_;rintro e w2 ⟨rfl,c⟩;have a3:=p.trans (c.mono p.size);replace q6:=Za c q6;replace p6:=Za c p6;clear c p q4 q5 p4 p5 HT HF;go_wp2_with fail;go_loopg [5,6] (x.l.length) (fun g b i wr=>∃(j:Nat),j<=x.l.length/\g=x.l.length-j/\b=.bool Zx/\i=E C (j:Int)/\Zm w.heap.size w wr/\wr.cell? ⟨w.heap.size,6,I⟩=Z (F x.a x.l.length x.c)/\wr.cell? ⟨w.heap.size+1,6,I⟩=Z (F y.a y.l.length y.c))
 case atStart=>exact⟨0,Nat.zero_le _,rfl,rfl,rfl,a3,q6,p6⟩
 case round=>
  obtain⟨j,hj,hg,rfl,rfl,a,p1,p3⟩:=hrel;have HG:Zq (gk=x.l.length-j):=hg;clear hg;by_cases hlt:j<x.l.length
  .have hlt':j<y.l.length:=HP.out.1▸hlt;have HM:Zq (x.l[j].tm=y.l[j].tm):=by have h:=congrArg (fun l=>l[j]?) HP.out.2;simp only[List.getElem?_map,ZF hlt,ZF hlt',Option.map_some,ZN] at h;exact h
   obtain⟨b,o,ea,⟨x0,x1,x2,x3,x4,x5,x6⟩,a4⟩:=hx.part j hlt;obtain⟨q,k,eb,⟨y0,y1,y2,y3,y4,y5,y6⟩,a2⟩:=hy.part j hlt';have q1:wr.cell? ⟨w.heap.size,6,I⟩=Z (F (Z ⟨b,o,I⟩) x.l.length x.c):=by rw[<-ea];exact p1
   have q3:wr.cell? ⟨w.heap.size+1,6,I⟩=Z (F (Z ⟨q,k,I⟩) y.l.length y.c):=by rw[<-eb];exact p3
   have u:Zq (wr.cell? ⟨w.heap.size,6,I⟩=Z (F x.a x.l.length x.c)/\wr.cell? ⟨w.heap.size+1,6,I⟩=Z (F y.a y.l.length y.c)):=⟨p1,p3⟩
   replace x0:=Za a x0;replace x1:=Za a x1;replace x2:=Za a x2;replace x3:=Za a x3;replace x4:=Za a x4;replace x5:=Za a x5;replace x6:=Za a x6;replace y0:=Za a y0;replace y1:=Za a y1;replace y2:=Za a y2;replace y3:=Za a y3;replace y4:=Za a y4;replace y5:=Za a y5;replace y6:=Za a y6;have i1:(j:Int)<(x.l.length:Int):=by omega
   have i2:(j:Int)<(y.l.length:Int):=by omega
   have i0:(0:Int)<=(j:Int):=by omega
   have HC:Zq (∀(w:Zj),x.l[j].In w->y.l[j].In w->Zu Zg 22 #[Zn #[E C x.l[j].k,E C x.l[j].n,E C x.l[j].t.k,F x.l[j].t.a x.l[j].t.l.length x.l[j].t.c,E C x.l[j].f.k,F x.l[j].f.a x.l[j].f.l.length x.l[j].f.c,F x.l[j].a x.l[j].l.length x.l[j].c],Zn #[E C y.l[j].k,E C y.l[j].n,E C y.l[j].t.k,F y.l[j].t.a y.l[j].t.l.length y.l[j].t.c,E C y.l[j].f.k,F y.l[j].f.a y.l[j].f.l.length y.l[j].f.c,F y.l[j].a y.l[j].l.length y.l[j].c]] w fun e w'=>e=Zl (.bool Zx)/\Zm w.heap.size w w'):=fun w h1 h2=>ih.out j hlt y.l[j] w h1 h2 HM.out;clear p1 p3 ea eb hx hy HM HX HB;go_wp2_with fail;go_region_held3 (fun w'=>w'.cell? ⟨w.heap.size,6,I⟩=Z (F (Z ⟨b,o,I⟩) x.l.length x.c)/\w'.cell? ⟨w.heap.size+1,6,I⟩=Z (F (Z ⟨q,k,I⟩) y.l.length y.c)/\w'.cell? ⟨b,o+j*7,I⟩=Z (E C x.l[j].k)/\w'.cell? ⟨b,o+j*7+1,I⟩=Z (E C x.l[j].n)/\w'.cell? ⟨b,o+j*7+2,I⟩=Z (E C x.l[j].t.k)/\w'.cell? ⟨b,o+j*7+3,I⟩=Z (F x.l[j].t.a x.l[j].t.l.length x.l[j].t.c)/\w'.cell? ⟨b,o+j*7+4,I⟩=Z (E C x.l[j].f.k)/\w'.cell? ⟨b,o+j*7+5,I⟩=Z (F x.l[j].f.a x.l[j].f.l.length x.l[j].f.c)/\w'.cell? ⟨b,o+j*7+6,I⟩=Z (F x.l[j].a x.l[j].l.length x.l[j].c)/\w'.cell? ⟨q,k+j*7,I⟩=Z (E C y.l[j].k)/\w'.cell? ⟨q,k+j*7+1,I⟩=Z (E C y.l[j].n)/\w'.cell? ⟨q,k+j*7+2,I⟩=Z (E C y.l[j].t.k)/\w'.cell? ⟨q,k+j*7+3,I⟩=Z (F y.l[j].t.a y.l[j].t.l.length y.l[j].t.c)/\w'.cell? ⟨q,k+j*7+4,I⟩=Z (E C y.l[j].f.k)/\w'.cell? ⟨q,k+j*7+5,I⟩=Z (F y.l[j].f.a y.l[j].f.l.length y.l[j].f.c)/\w'.cell? ⟨q,k+j*7+6,I⟩=Z (F y.l[j].a y.l[j].l.length y.l[j].c))
    (first|exact⟨Za c q1,Za c q3,Za c x0,Za c x1,Za c x2,Za c x3,Za c x4,Za c x5,Za c x6,Za c y0,Za c y1,Za c y2,Za c y3,Za c y4,Za c y5,Za c y6⟩|go_keep)
    (first|(go_at_call 22;refine(HC.out _ (a4.below a.drew) (a2.below a.drew)).mono ?_;rintro e w2 ⟨rfl,c⟩))
   have a0:Zm w.heap.size w w2:=a.drew.trans (c.mono a.size);have s1:=Za c u.out.1;have s3:=Za c u.out.2;clear c q1 q3 x0 x1 x2 x3 x4 x5 x6 y0 y1 y2 y3 y4 y5 y6 HC u;go_wp2_with fail;go_roundg (x.l.length-(j+1))
   case measure=>rw[HG.out];omega
   case rel=>exact⟨j+1,by omega,rfl,rfl,by go_num,a0,s1,s3⟩
  .go_wp2_with fail;go_ret;exact⟨rfl,a⟩
theorem P8:∀(x y:TT)(w:Zj),x.In w->y.In w->x.tm=y.tm->x.lw->x.tsm->Zu Zg 22 #[Zn #[E C x.k,E C x.n,E C x.t.k,F x.t.a x.t.l.length x.t.c,E C x.f.k,F x.f.a x.f.l.length x.f.c,F x.a x.l.length x.c],Zn #[E C y.k,E C y.n,E C y.t.k,F y.t.a y.t.l.length y.t.c,E C y.f.k,F y.f.a y.f.l.length y.f.c,F y.a y.l.length y.c]] w fun e w'=>e=Zl (.bool Zx)/\Zm w.heap.size w w':=by
 intro x;induction x using TT.ind with
 |h k n t f a c l ih=>intro y w u o i d g;exact O3 ⟨k,n,t,f,a,c,l⟩ y w u o i d g (fun j b z w q p r=>ih _ (Zp b) z w q p r (d.mem (Zp b)) (g.mem (Zp b)))
theorem Xw.blk(h:Xw w J x)(e:w'.heap[J]?=w.heap[J]?):Xw w' J x:=⟨h.at7.of fun i=>Zh (a:=⟨J,i,I⟩) e,fun i hi=>(ZE (a:=⟨J,i,I⟩) e).trans (h.fz i hi)⟩
theorem KT.blk(h:KT w J)(e:w'.heap[J]?=w.heap[J]?):KT w' J:=by have c:∀i,w'.cell? ⟨J,i,I⟩=w.cell? ⟨J,i,I⟩:=fun i=>Zh (a:=⟨J,i,I⟩) e;have b:∀i,w'.frozen? ⟨J,i,I⟩=w.frozen? ⟨J,i,I⟩:=fun i=>ZE (a:=⟨J,i,I⟩) e;obtain⟨⟨j,z,d,k,y,h5,q⟩,o,u,p,x,r,g,l⟩:=h;exact⟨⟨(c _).trans j,(c _).trans z,(c _).trans d,(c _).trans k,(c _).trans y,(c _).trans h5,(c _).trans q⟩,(b _).trans o,(b _).trans u,(b _).trans p,(b _).trans x,(b _).trans r,(b _).trans g,(b _).trans l⟩
def TT.csz:TT->Prop
 |⟨_,_,t,f,_,_,l⟩=>t.sz<=100000000/\f.sz<=100000000/\∀y,y∈l->y.csz
theorem TT.csz_mk{n:Int}{t f:Tr}:(TT.mk k n t f a c l).csz↔t.sz<=100000000/\f.sz<=100000000/\∀y,y∈l->y.csz:=by rw[TT.csz]
theorem TT.csz.t(h:x.csz):x.t.sz<=100000000:=by cases x;exact(TT.csz_mk.1 h).1
theorem TT.csz.f(h:x.csz):x.f.sz<=100000000:=by cases x;exact(TT.csz_mk.1 h).2.1
theorem TT.csz.mem(h:x.csz)(b:y∈x.l):y.csz:=by obtain⟨k,n,t,f,a,c,l⟩:=x;exact(TT.csz_mk.1 h).2.2 y b
structure CT(S:Nat)(x:TT)(t f:Tr)(j:Nat)(v:Zs)(cs:List TT)(w wr:Zj):Prop where
 row:OZ (S+1+1) v cs wr
 tm:cs.map TT.tm=(x.l.take j).map TT.tm
 low:Zm S w wr
 box:∃a c,v=F a cs.length c/\Xw wr S ⟨x.k,x.n,t,f,a,c,cs⟩
 z:KT wr (S+1)
 tin:t.In wr/\t.Bl (fun b=>S+1+1<=b/\Z b≠v.ownBlock)
 fin:f.In wr/\f.Bl (fun b=>S+1+1<=b/\Z b≠v.ownBlock)
theorem CT.len{t f:Tr}{v:Zs}(h:CT S x t f j v cs w wr)(a:j<=x.l.length):cs.length=j:=by have:=congrArg List.length h.tm;simpa[Nat.min_eq_left a] using this
theorem CT.step{c:TT}{t f:Tr}{v:Zs}{w1:Zj}(h:CT S x t f j v cs w wr)(hj:j<x.l.length)(a2:Zm wr.heap.size wr w1)(ht:c.tm=x.l[j].tm)(a5:c.In w2)(a4:c.Bl (w1.heap.size<=·))(y:Zm w1.heap.size w1 w2)
  (r:w3.ownsRow (S+1+1) 27 7 (F (Z ⟨gg,0,I⟩) (cs.length+1) cap1) (cs.length+1) (YT cs++[E C c.k,E C c.n,E C c.t.k,F c.t.a c.t.l.length c.t.c,E C c.f.k,F c.f.a c.f.l.length c.f.c,F c.a c.l.length c.c])) (d:(w2.alloc X).grownBy w3 v.ownBlock) (a0:v.ownBlock=Z gg\/gg=w2.heap.size+1) :
  CT S x t f (j+1) (F (Z ⟨gg,0,I⟩) (cs.length+1) cap1) (cs++[c]) w (w3.setCell ⟨S,6,I⟩ (F (Z ⟨gg,0,I⟩) (cs.length+1) cap1)):=by
 have s1:=a2.size;have s2:=y.size;have a8:=h.z.lt;have o:=a2.trans (y.mono s1);have a1:=h.row.lt;obtain⟨a6,a3⟩:=(h.row.below o).step a5 (a4.mono fun b p=>⟨by omega,fun e=>by have:=(a1 b e.symm).2;omega⟩) (by simpa[YT] using r) d a0;have l:∀k,k<=S+1->Z k≠v.ownBlock:=fun k hk e=>by have:=(a1 k e.symm).1;omega
 have g:∀k,k<wr.heap.size->Z k≠v.ownBlock->w3.heap[k]?=wr.heap[k]?:=fun k hk hn=>(a3 k (by omega) hn).trans (o.block k hk);have z:∀k i,k≠S->(w3.setCell ⟨S,6,I⟩ (F (Z ⟨gg,0,I⟩) (cs.length+1) cap1)).cell? ⟨k,i,I⟩=w3.cell? ⟨k,i,I⟩:=by intro k i hk;rw[Ze];intro e;simp only[Addr.mk.injEq] at e;omega
 have u:∀q:Tr,(q.In wr/\q.Bl (fun b=>S+1+1<=b/\Z b≠v.ownBlock))->(q.In (w3.setCell ⟨S,6,I⟩ (F (Z ⟨gg,0,I⟩) (cs.length+1) cap1))/\q.Bl (fun b=>S+1+1<=b/\Z b≠(ZM (Z ⟨gg,0,I⟩) (cs.length+1) cap1).ownBlock)):=by
  rintro q ⟨i1,i2⟩;have i3:=i1.bl.and i2;refine⟨i1.congr (P:=fun b=>b<wr.heap.size/\S+1+1<=b/\Z b≠v.ownBlock) (fun b p i=>?_) i3,i3.mono fun b p=>⟨p.2.1,?_⟩⟩
  .rw[z b i (by omega)];exact Zh (a:=⟨b,i,I⟩) (g b p.1 p.2.2)
  .show Z b≠Z gg
   rcases a0 with e|e
   .rw[<-e];exact p.2.2
   .simp only[ne_eq,ZN];omega
 refine⟨a6.kept (R:=S) Yj (by omega),?_,?_,?_,?_,u t h.tin,u f h.fin⟩
 .rw[ZZ hj,ZT,ZT,h.tm];simp[ht]
 .have hb3:Zm S (w2.alloc X) w3:=⟨d.os,d.tape,d.output,d.size,fun k hk=>d.block k (by simp;omega) (l k (by omega))⟩
  have a7:Zm S w2 (w2.alloc X):=((Zd _ _).alloc (Zb _) _).mono (by omega);exact(((h.low.trans (o.mono (by omega))).trans a7).trans hb3).setCell (by simp) _
 .obtain⟨a,c0,hv,hbx⟩:=h.box;refine⟨Z ⟨gg,0,I⟩,cap1,?_,?_⟩
  .rw[Zw,Zt]
  .have:=(hbx.blk (g S (by omega) (l S (by omega)))).set6 (a':=Z ⟨gg,0,I⟩) (c':=cap1) (l':=cs++[c]);rw[Zw,Zt] at this;exact this
 .refine(h.z.blk (g (S+1) (by omega) (l _ (by omega)))).kept (R:=S) Yj (by omega)
theorem Xw.copied{t f:Tr}(h:Xw w J x):Xw (((((w.setCell ⟨J,2,I⟩ (E C t.k)).setCell ⟨J,3,I⟩ (F t.a t.l.length t.c)).setCell ⟨J,4,I⟩ (E C f.k)).setCell ⟨J,5,I⟩ (F f.a f.l.length f.c)).setCell ⟨J,6,I⟩ (F I 0 0)) J ⟨x.k,x.n,t,f,I,0,[]⟩:=by
 have a:∀i u,cL w J i u->cL (((((w.setCell ⟨J,2,I⟩ (E C t.k)).setCell ⟨J,3,I⟩ (t.s)).setCell ⟨J,4,I⟩ (E C f.k)).setCell ⟨J,5,I⟩ (f.s)).setCell ⟨J,6,I⟩ (F I 0 0)) J i (if i=6 then F I 0 0 else if i=5 then f.s else if i=4 then E C f.k else if i=3 then t.s else if i=2 then E C t.k else u):=fun i u hu=>Yp (Yp (Yp (Yp (Yp hu))));obtain⟨j,k,b,c,g,d,e⟩:=h.at7;simp only[Zk] at j k b c g d e;refine⟨⟨?_,?_,?_,?_,?_,?_,?_⟩,fun i hi=>?_⟩
 .simpa using a 0 _ j
 .simpa using a 1 _ k
 .simpa using a 2 _ b
 .simpa using a 3 _ c
 .simpa using a 4 _ g
 .simpa using a 5 _ d
 .simpa using a 6 _ e
 .simp only[ZO];exact h.fz i hi
theorem CT.start{t f:Tr}{w1:Zj}(j:Zm w.heap.size w w1)(c:Xw w1 w.heap.size x)(hz:KT w1 (w.heap.size+1))(i:t.In w1)(g:f.In w1)(e:t.Bl (w.heap.size+1+1<=·))(d:f.Bl (w.heap.size+1+1<=·)):
  CT w.heap.size x t f 0 (F I 0 0) [] w (((((w1.setCell ⟨w.heap.size,2,I⟩ (E C t.k)).setCell ⟨w.heap.size,3,I⟩ (F t.a t.l.length t.c)).setCell ⟨w.heap.size,4,I⟩ (E C f.k)).setCell ⟨w.heap.size,5,I⟩ (F f.a f.l.length f.c)).setCell ⟨w.heap.size,6,I⟩ (F I 0 0)):=by
 have a:Yi w.heap.size I w1 (((((w1.setCell ⟨w.heap.size,2,I⟩ (E C t.k)).setCell ⟨w.heap.size,3,I⟩ (t.s)).setCell ⟨w.heap.size,4,I⟩ (E C f.k)).setCell ⟨w.heap.size,5,I⟩ (f.s)).setCell ⟨w.heap.size,6,I⟩ (F I 0 0)):=Yj.trans (Yj.trans (Yj.trans (Yj.trans Yj)))
 refine⟨OZ.nil _ _,by simp,?_,⟨I,0,rfl,c.copied⟩,hz.kept a (by omega),⟨i.keptR a (e.mono fun b h=>by omega),e.mono fun b h=>⟨h,by simp[ZP]⟩⟩,⟨g.keptR a (d.mono fun b h=>by omega),d.mono fun b h=>⟨h,by simp[ZP]⟩⟩⟩;exact((((j.setCell (by simp) _).setCell (by simp) _).setCell (by simp) _).setCell (by simp) _).setCell (by simp) _
theorem CD{P:Program}{md:Region.Mode}{ops:Array Oper}{Q:Exit->Act->Zj->Prop}{S:Zj->Prop}{i:Nat}{o o':Oper}{fuel:Nat}{listed:Array Bool}{a:Act}(ho:ops.toList[i]?=Z o)(ho':ops.toList[j]?=Z o')(hr:Region.ready md ops listed=[i,j])
  (h:∀K':Act->Zj->Prop,Shut (∀a w,S w->(S w->wpAnyH P md ops Q S fuel (listed.setIfInBounds i Zx) a w)->K' a w)->if Region.wanted o (yielded ops a.tmps)=Zx then Oper.wp P o a w K' Q else K' (a.put o.dst undef) w)
  (h':∀K':Act->Zj->Prop,Shut (∀a w,S w->(S w->wpAnyH P md ops Q S fuel (listed.setIfInBounds j Zx) a w)->K' a w)->if Region.wanted o' (yielded ops a.tmps)=Zx then Oper.wp P o' a w K' Q else K' (a.put o'.dst undef) w):wpAnyH P md ops Q S (fuel+1) listed a w:=
 wpAnyH_ready hr (by simp) (AllReadyH.cons (o:=o) (by simpa using ho) h (AllReadyH.cons (o:=o') (by simpa using ho') h' AllReadyH.nil))
structure T2(Q:Nat->Prop)(W:Zj)(vh vw:Zs)(ts us:List Tr)(wr:Zj):Prop where
 oh:wr.ownsRow W.heap.size 24 2 vh ts.length (cellsOf ts)
 ow:wr.ownsRow W.heap.size 24 2 vw us.length (cellsOf us)
 ne:∀k,vh.ownBlock=Z k->vw.ownBlock≠Z k
 ih:∀t,t∈ts->t.In wr/\t.Bl (fun b=>Q b/\Z b≠vh.ownBlock/\Z b≠vw.ownBlock)
 iw:∀t,t∈us->t.In wr/\t.Bl (fun b=>Q b/\Z b≠vh.ownBlock/\Z b≠vw.ownBlock)
 low:Zm W.heap.size W wr
theorem T2.start(Q:Nat->Prop)(W:Zj):T2 Q W (F I 0 0) (F I 0 0) [] [] W:=⟨ZL _ _ _ _,ZL _ _ _ _,fun k h=>(by simp[ZP] at h),fun t h=>(by cases h),fun t h=>(by cases h),Zd _ _⟩
theorem T2.below(h:T2 Q W vh vw ts us wr)(hb:Zm wr.heap.size wr w2):T2 Q W vh vw ts us w2:=⟨YP h.oh hb,YP h.ow hb,h.ne,fun t ht=>⟨(h.ih t ht).1.below hb,(h.ih t ht).2⟩,fun t ht=>⟨(h.iw t ht).1.below hb,(h.iw t ht).2⟩,h.low.trans (hb.mono h.low.size)⟩
theorem Lq{e:TypeId}{size:Nat}{v:Zs}{n:Nat}{xs:List Zs}(h:w.ownsRow base e size v n xs)(i:∀k,v.ownBlock=Z k->w'.heap[k]?=w.heap[k]?):w'.ownsRow base e size v n xs:=by
 refine⟨h.1,?_⟩;rcases h.2 with j|⟨g,b,a,rfl,d,c,rest⟩
 .exact .inl j
 .exact .inr ⟨g,b,a,rfl,d,by rw[i g rfl];exact c,rest⟩
theorem T2.step{V1 V2 w4:Zj}{t:Tr}{g1 c1 g2 c2:Nat}(h:T2 Q W vh vw ts us wr)(j:Zm wr.heap.size wr V1)(a2:t.In V1)(a1:t.Bl (fun b=>Q b/\Z b≠vh.ownBlock/\Z b≠vw.ownBlock))
  (z:w3.ownsRow W.heap.size 24 2 (F (Z ⟨g1,0,I⟩) (ts.length+1) c1) (ts.length+1) (cellsOf ts++[E C t.k,F t.a t.l.length t.c])) (g:V1.grownBy w3 vh.ownBlock) (x:vh.ownBlock=Z g1\/V1.heap.size<=g1) (a7:g1<w3.heap.size) (o:Zm w3.heap.size w3 V2)
  (a0:w4.ownsRow W.heap.size 24 2 (F (Z ⟨g2,0,I⟩) (us.length+1) c2) (us.length+1) (cellsOf us++[E C t.k,F t.a t.l.length t.c])) (c:V2.grownBy w4 vw.ownBlock) (w:vw.ownBlock=Z g2\/V2.heap.size<=g2) :
  T2 Q W (F (Z ⟨g1,0,I⟩) (ts.length+1) c1) (F (Z ⟨g2,0,I⟩) (us.length+1) c2) (ts++[t]) (us++[t]) w4/\∀k,k<wr.heap.size->Z k≠vh.ownBlock->Z k≠vw.ownBlock->w4.heap[k]?=wr.heap[k]?:=by
 have s1:=j.size;have s2:=g.size;have s3:=o.size;have s4:=c.size;have a8:=h.oh.lt;have a5:=h.ow.lt;have a3:Z g1≠vw.ownBlock:=fun e=>by
  rcases x with q|q
  .exact h.ne g1 q e.symm
  .have:=(a5 g1 e.symm).2;omega
 have a9:g1≠g2:=fun e=>by
  subst e;rcases w with r|r
  .exact a3 r.symm
  .omega
 have a4:∀k,k<V1.heap.size->Z k≠vh.ownBlock->Z k≠vw.ownBlock->w4.heap[k]?=V1.heap[k]?:=fun k u q r=>by rw[c.block k (by omega) r,o.block k (by omega),g.block k u q]
 have y:∀k,k<wr.heap.size->Z k≠vh.ownBlock->Z k≠vw.ownBlock->w4.heap[k]?=wr.heap[k]?:=fun k u q r=>by rw[a4 k (by omega) q r,j.block k u]
 have a6:∀b,b<V1.heap.size->Z b≠vh.ownBlock->Z b≠vw.ownBlock->Z b≠(ZM (Z ⟨g1,0,I⟩) (ts.length+1) c1).ownBlock/\Z b≠(ZM (Z ⟨g2,0,I⟩) (us.length+1) c2).ownBlock:=fun b p q r=>by
  constructor
  .show Z b≠Z g1
   rcases x with e|e
   .rw[<-e];exact q
   .simp only[ne_eq,ZN];omega
  .show Z b≠Z g2
   rcases w with e|e
   .rw[<-e];exact r
   .simp only[ne_eq,ZN];omega
 have l:∀d:Tr,d.In V1->d.Bl (fun b=>Q b/\Z b≠vh.ownBlock/\Z b≠vw.ownBlock)->d.In w4/\d.Bl (fun b=>Q b/\Z b≠(ZM (Z ⟨g1,0,I⟩) (ts.length+1) c1).ownBlock/\Z b≠(ZM (Z ⟨g2,0,I⟩) (us.length+1) c2).ownBlock):=fun d h1 h2=>by have i3:=h1.bl.and h2;refine⟨h1.congr (P:=fun b=>b<V1.heap.size/\Q b/\Z b≠vh.ownBlock/\Z b≠vw.ownBlock) (fun b p i=>Zh (a:=⟨b,i,I⟩) (a4 b p.1 p.2.2.1 p.2.2.2)) i3,i3.mono fun b p=>⟨p.2.1,a6 b p.1 p.2.2.1 p.2.2.2⟩⟩
 refine⟨⟨?_,?_,?_,?_,?_,?_⟩,y⟩
 .rw[Uz,Zw,Zt];refine Lq z fun k u=>?_;have:g1=k:=ZJ u;subst this;rw[c.block g1 (by omega) a3,o.block g1 a7]
 .rw[Uz,Zw,Zt];exact a0
 .intro k u e;have q:g1=k:=ZJ u;have r:g2=k:=ZJ e;omega
 .intro d hd;rcases Zy.1 hd with hd|hd
  .exact l d ((h.ih d hd).1.below j) (h.ih d hd).2
  .rcases ZI.1 hd with rfl;exact l d a2 a1
 .intro d hd;rcases Zy.1 hd with hd|hd
  .exact l d ((h.iw d hd).1.below j) (h.iw d hd).2
  .rcases ZI.1 hd with rfl;exact l d a2 a1
 .refine h.low.trans ⟨?_,?_,?_,by omega,fun k u=>y k (by have:=h.low.size;omega) (fun e=>by have:=(a8 k e.symm).1;omega) (fun e=>by have:=(a5 k e.symm).1;omega)⟩
  .rw[c.os,o.os,g.os,j.os]
  .rw[c.tape,o.tape,g.tape,j.tape]
  .rw[c.output,o.output,g.output,j.output]
theorem T2.other{V1:Zj}(h:T2 Q W vh vw ts us wr)(b:Zm wr.heap.size wr V1)(a:V1.grownBy w3 vh.ownBlock):w3.ownsRow W.heap.size 24 2 vw us.length (cellsOf us):=by refine Lq h.ow fun k c=>?_;have d:=h.ow.lt k c;rw[a.block k (by have:=b.size;omega) (fun e=>h.ne k e.symm c),b.block k d.2]
theorem JL{v:Zs}(h:wr.ownsRow base 24 2 v ts.length (cellsOf ts))(b:∀t,t∈ts->t.In wr):∃a c,v=F a ts.length c/\(Tr.mk 0 a c ts).In wr/\(∀y,a=Z y->base<=y.block/\v.ownBlock=Z y.block/\y.off=0):=by
 rcases h.2 with⟨rfl,l⟩|⟨g,k,i,rfl,o,_⟩
 .have:ts=[]:=ZH.1 l;subst this;exact⟨I,0,rfl,Tr.In_nil _ _ _ _,fun y d=>(by cases d)⟩
 .refine⟨_,_,rfl,Tr.In_mk.2 ⟨fun j e=>⟨g,0,rfl,?_,?_⟩,b⟩,fun y d=>(by cases d;exact⟨o,rfl,rfl⟩)⟩
  .rw[Zk,h.cellAt (j*2) (by omega),(Uy ts j e).1]
  .rw[Zk,h.cellAt (j*2+1) (by omega),(Uy ts j e).2]
def Nd(Q:Nat->Prop)(T:Tm)(w:Zj)(e:Ending)(w':Zj):Prop:=∃y:TT,e=Zl (Zn #[E C y.k,E C y.n,E C y.t.k,F y.t.a y.t.l.length y.t.c,E C y.f.k,F y.f.a y.f.l.length y.f.c,F y.a y.l.length y.c])/\y.tm=T/\y.In w'/\y.Bl Q/\Zm w.heap.size w w'
structure WB(x:TT)(w:Zj)(W:Zj):Prop where
 low:Zm w.heap.size w W
 box:Xw W w.heap.size x
 z:KT W (w.heap.size+1)
 n0:W.cell? ⟨w.heap.size+1+1,0,I⟩=Z (E C 1)
 n1:W.cell? ⟨w.heap.size+1+1,1,I⟩=Z (F I 0 0)
theorem WB.lt(h:WB x w W):w.heap.size+1+1<W.heap.size:=Zc _ _ h.n0
theorem WB.blk(h:WB x w W)(hb:Zm w.heap.size w V)(e:∀k,k<=w.heap.size+1+1->V.heap[k]?=W.heap[k]?):WB x w V:=⟨hb,h.box.blk (e _ (by omega)),h.z.blk (e _ (by omega)),(Zh (a:=⟨w.heap.size+1+1,0,I⟩) (e _ (Zb _))).trans h.n0,(Zh (a:=⟨w.heap.size+1+1,1,I⟩) (e _ (Zb _))).trans h.n1⟩
theorem WB.below(h:WB x w W)(hb:Zm W.heap.size W V):WB x w V:=h.blk (h.low.trans (hb.mono h.low.size)) fun k hk=>hb.block k (by have:=h.lt;omega)
structure P2(x:TT)(w V0:Zj)(Q:Nat->Prop)(ah:Option Addr)(ch:Nat)(ts:List Tr)(g cw:Nat)(uu:List Tr)(W:Zj):Prop where
 hv:(Tr.mk 0 ah ch ts).In W
 hb:(Tr.mk 0 ah ch ts).Bl (fun b=>Q b/\b≠g)
 wv:(Tr.mk 0 (Z ⟨g,0,I⟩) cw uu).In W
 wb:∀u,u∈uu->u.Bl (fun b=>Q b/\b≠g)
 wf:∀i,W.frozen? ⟨g,i,I⟩=Zi
 bx:WB x w W
 gl:V0.heap.size<=g/\w.heap.size+1+1<V0.heap.size/\g<W.heap.size
 low:Zm V0.heap.size V0 W
structure P3(x:TT)(w V0:Zj)(Q:Nat->Prop)(ah:Option Addr)(ch:Nat)(ts:List Tr)(a:Option Addr)(c:Nat)(uu:List Tr)(W:Zj):Prop where
 hv:(Tr.mk 0 ah ch ts).In W
 hb:(Tr.mk 0 ah ch ts).Bl Q
 wv:(Tr.mk 0 a c uu).In W
 wb:(Tr.mk 0 a c uu).Bl Q
 bx:WB x w W
 low:Zm V0.heap.size V0 W
theorem P2.fin(h:P2 x w V0 Q ah ch ts g cw uu W)(hQ:∀b,w.heap.size+1+1<=b->Q b):P3 x w V0 Q ah ch ts (Z ⟨g,0,I⟩) cw uu W:=⟨h.hv,h.hb.mono fun b hb=>hb.1,h.wv,Tr.Bl_mk.2 ⟨fun _ y hy=>by cases hy;exact hQ g (by have:=h.gl;omega),fun u hu=>(h.wb u hu).mono fun b hb=>hb.1⟩,h.bx,h.low⟩
theorem P2.below(h:P2 x w V0 Q ah ch ts g cw uu W)(hb:Zm W.heap.size W V):P2 x w V0 Q ah ch ts g cw uu V:=⟨h.hv.below hb,h.hb,h.wv.below hb,h.wb,fun i=>(hb.frozen (p:=⟨g,i,I⟩) h.gl.2.2).trans (h.wf i),h.bx.below hb,⟨h.gl.1,h.gl.2.1,Z3 h.gl.2.2 hb.size⟩,h.low.trans (hb.mono h.low.size)⟩
theorem P2.set{o o1:Nat}{u:Tr}(h:P2 x w V0 Q ah ch ts g cw uu W)(hj:j<uu.length)(ho:o=j*2)(p:o1=j*2+1)(hu:u.In W)(d:u.Bl (fun b=>Q b/\b≠g)):
  P2 x w V0 Q ah ch ts g cw (uu.set j u) ((W.setCell ⟨g,o,I⟩ (E C u.k)).setCell ⟨g,o1,I⟩ (F u.a u.l.length u.c)):=by
 subst ho p;have c:Yi g I W ((W.setCell ⟨g,j*2,I⟩ (E C u.k)).setCell ⟨g,j*2+1,I⟩ (F u.a u.l.length u.c)):=Yj.trans Yj;have r:=h.gl;obtain⟨b,y,e,z,c1,_⟩:=h.wv.part j hj;obtain⟨rfl,rfl⟩:g=b/\0=y:=by simpa using e
 simp only[Zk] at z c1;have hc:=XC (io:=j*2) (u:=E C u.k) (v:=u.s) z c1;refine⟨h.hv.keptR c (h.hb.mono fun b l=>l.2),h.hb,?_,?_,fun i=>?_,?_,⟨r.1,r.2.1,by have:=c.size;omega⟩,?_⟩
 .refine Tr.In_mk.2 ⟨fun q hq=>⟨g,0,rfl,?_⟩,fun t a=>?_⟩
  .have hq':q<uu.length:=by simpa using hq
   by_cases hqj:q=j
   .subst hqj;simp only[List.getElem_set_self,Tr.sl,Zk];exact hc
   .obtain⟨b,y,e,d0,d1,_⟩:=h.wv.part q hq';obtain⟨rfl,rfl⟩:g=b/\0=y:=by simpa using e
    simp only[Zk] at d0 d1;rw[List.getElem_set_ne (fun e=>hqj e.symm)];simp only[Tr.sl,Zk];constructor
    .rw[Ze,Ze]
     .exact d0
     .intro e;simp only[Addr.mk.injEq] at e;omega
     .intro e;simp only[Addr.mk.injEq] at e;omega
    .rw[Ze,Ze]
     .exact d1
     .intro e;simp only[Addr.mk.injEq] at e;omega
     .intro e;simp only[Addr.mk.injEq] at e;omega
  .rcases Z7 a with a|rfl
   .exact((Tr.In_mk.1 h.wv).2 t a).keptR c ((h.wb t a).mono fun b l=>l.2)
   .exact hu.keptR c (d.mono fun b l=>l.2)
 .intro t a;rcases Z7 a with a|rfl
  .exact h.wb t a
  .exact d
 .simp only[ZO];exact h.wf i
 .have hl:=h.bx.lt;exact h.bx.blk (h.bx.low.trans ((c.below (by simp) (by omega)).mono (by omega))) fun k a0=>c.block k (by omega) (by omega) (by simp)
 .exact h.low.trans ((c.below (by simp) (by omega)).mono r.1)
theorem P2.of(h:T2 Q V0 vh vw ts ts W)(k:WB x w V0)(hQ:∀b,w.heap.size+1+1<=b->Q b)(hn:0<ts.length):∃ah ch g cw,vh=F ah ts.length ch/\vw=F (Z ⟨g,0,I⟩) ts.length cw/\P2 x w V0 Q ah ch ts g cw ts W:=by
 obtain⟨ah,ch,e1,i1,a1⟩:=JL h.oh fun t d=>(h.ih t d).1;obtain⟨aw,cw,r,p,a2⟩:=JL h.ow fun t d=>(h.iw t d).1;obtain⟨g,o,e,_⟩:=p.part 0 hn;simp only at e;subst e;obtain⟨q,a,c⟩:=a2 _ rfl;simp only at q a c;subst c;have l:=h.ow.lt g a;refine⟨ah,ch,g,cw,e1,r,⟨i1,?_,p,fun u hu=>(h.iw u hu).2.mono fun b j=>⟨j.1,fun e=>j.2.2 (by rw[a,e])⟩,fun i=>?_,k.below h.low,⟨q,k.lt,l.2⟩,h.low⟩⟩
 .refine Tr.Bl_mk.2 ⟨fun _ y hy=>?_,fun t d=>(h.ih t d).2.mono fun b j=>⟨j.1,fun e=>j.2.2 (by rw[a,e])⟩⟩;obtain⟨h1,z,_⟩:=a1 y hy;exact⟨hQ _ (by have:=k.lt;omega),fun e=>h.ne y.block z (by rw[a,e])⟩
 .have:=h.ow;rw[r] at this;exact this.frozenAt i
theorem P3.of(h:T2 Q V0 vh vw ts ts W)(c:WB x w V0)(g:∀b,w.heap.size+1+1<=b->Q b):∃ah ch aw cw,vh=F ah ts.length ch/\vw=F aw ts.length cw/\P3 x w V0 Q ah ch ts aw cw ts W:=by
 obtain⟨ah,ch,k,j,l⟩:=JL h.oh fun t a=>(h.ih t a).1;obtain⟨aw,cw,p,i,o⟩:=JL h.ow fun t a=>(h.iw t a).1;refine⟨ah,ch,aw,cw,k,p,⟨j,Tr.Bl_mk.2 ⟨fun _ y d=>?_,fun t a=>(h.ih t a).2.mono fun b e=>e.1⟩,i,Tr.Bl_mk.2 ⟨fun _ y d=>?_,fun t a=>(h.iw t a).2.mono fun b e=>e.1⟩,c.below h.low,h.low⟩⟩
 .exact g _ (by have:=(l y d).1;have:=c.lt;omega)
 .exact g _ (by have:=(o y d).1;have:=c.lt;omega)
theorem P3.below(h:P3 x w V0 Q ah ch ts a c uu W)(hb:Zm W.heap.size W V):P3 x w V0 Q ah ch ts a c uu V:=⟨h.hv.below hb,h.hb,h.wv.below hb,h.wb,h.bx.below hb,h.low.trans (hb.mono h.low.size)⟩
theorem KR.blk{v:Zs}(h:KR Q base v cs w)(R:Nat)(j:R<base)(g:∀b,Q b->b≠R)(d:Yi R I w w'):KR Q base v cs w':=by refine⟨Lq h.own fun k e=>?_,fun c a=>⟨(h.ins c a).1.keptR d ((h.ins c a).2.mono fun b i=>g b i.1),(h.ins c a).2⟩⟩;have:=h.own.lt k e;exact d.block k this.2 (by omega) (by simp)
structure CW(Q:Nat->Prop)(S:Nat)(x:TT)(V:Zj)(T:List Tm)(j:Nat)(v:Zs)(cs:List TT)(wr:Zj):Prop where
 row:KR Q V.heap.size v cs wr
 tm:cs.map TT.tm=T.take j
 box:∃a c,v=F a cs.length c/\Xw wr S ⟨x.k,x.n,x.t,x.f,a,c,cs⟩
 kp:Yi S I V wr
theorem CW.below{T:List Tm}{v:Zs}(h:CW Q S x V T j v cs wr)(b:Zm wr.heap.size wr w2):CW Q S x V T j v cs w2:=by refine⟨h.row.below b,h.tm,?_,h.kp.trans (Yi.of_below b)⟩;obtain⟨a,c,e,d⟩:=h.box;exact⟨a,c,e,d.below b⟩
theorem CW.step{q:TT}{T:List Tm}{v:Zs}(h:CW Q S x V T j v cs wr)(hS:S<V.heap.size)(hQ:∀b,Q b->b≠S)(hj:j<T.length)(g:Zm wr.heap.size wr w2)(ht:q.tm=T[j])(r:q.In w2)(p:q.Bl (fun b=>Q b/\Z b≠v.ownBlock))
  (i:w3.ownsRow V.heap.size 27 7 (F (Z ⟨gg,0,I⟩) (cs.length+1) cap1) (cs.length+1) (YT cs++YT [q])) (c:(w2.alloc X).grownBy w3 v.ownBlock) (w:v.ownBlock=Z gg\/gg=w2.heap.size+1) :
  CW Q S x V T (j+1) (F (Z ⟨gg,0,I⟩) (cs.length+1) cap1) (cs++[q]) (w3.setCell ⟨S,6,I⟩ (F (Z ⟨gg,0,I⟩) (cs.length+1) cap1)):=by
 have l:=h.row.lt;have z:=Z3 hS h.kp.size;have s2:=g.size;have o:Z S≠v.ownBlock:=fun e=>by have:=(l S e.symm).1;omega
 obtain⟨y,d⟩:=(h.row.below g).step r p i c w;refine⟨y.blk S hS hQ Yj,?_,?_,?_⟩
 .rw[ZZ hj,ZT,h.tm];simp[ht]
 .obtain⟨a,c0,hv,hbx⟩:=h.box;refine⟨Z ⟨gg,0,I⟩,cap1,?_,?_⟩
  .rw[Zw,Zt]
  .have:=(hbx.blk ((d S (by omega) o).trans (g.block S z))).set6 (a':=Z ⟨gg,0,I⟩) (c':=cap1) (l':=cs++[q]);rw[Zw,Zt] at this;exact this
 .refine Yi.trans ?_ Yj;have s3:=c.size;simp at s3;have sv:=h.kp.size;refine⟨?_,?_,?_,by omega,fun k hk u _=>?_⟩
  .rw[c.os];exact g.os.trans h.kp.os
  .rw[c.tape];exact g.tape.trans h.kp.tape
  .rw[c.output];exact g.output.trans h.kp.output
  .have hne:Z k≠v.ownBlock:=fun e=>by have:=(l k e.symm).1;omega
   exact(d k (by omega) hne).trans ((g.block k (by omega)).trans (h.kp.block k hk u (by simp)))
theorem KR.tree{v:Zs}(h:KR Q base v cs w)(r:∀b,base<=b->Q b){n:Int}{t f:Tr}(p:t.In w)(g:f.In w)(u:t.Bl Q)(i:f.Bl Q):∃a c,v=F a cs.length c/\(TT.mk k n t f a c cs).In w/\(TT.mk k n t f a c cs).Bl Q:=by obtain⟨a,c,j,o,l⟩:=h.list;refine⟨a,c,j,TT.In_mk.2 ⟨p,g,o,fun y d=>(h.ins y d).1⟩,TT.Bl_mk.2 ⟨u,i,fun e y d=>r _ (l y e d),fun y d=>(h.ins y d).2.mono fun b q=>q.1⟩⟩
theorem Bx{U:Zj}{JB:Nat}{m:Int}{z:TT}{uw th:Tr}(e:Xw U JB z)(hz:z.In U)(j:z.Bl (fun b=>Q b/\b≠JB))(hu:uw.In U)(p:th.In U)(g:uw.Bl (fun b=>Q b/\b≠JB))(k:th.Bl (fun b=>Q b/\b≠JB))(r:Q U.heap.size):
  Xw (Y5 (U.alloc (Zf #[E C z.k,E C z.n,E C z.t.k,F z.t.a z.t.l.length z.t.c,E C z.f.k,F z.f.a z.f.l.length z.f.c,F z.a z.l.length z.c] 27)) JB ⟨10,m,uw,th,Z ⟨U.heap.size,0,I⟩,1,[z]⟩) JB (TT.mk 10 m uw th (Z ⟨U.heap.size,0,I⟩) 1 [z])/\(TT.mk 10 m uw th (Z ⟨U.heap.size,0,I⟩) 1 [z]).In (Y5 (U.alloc (Zf #[E C z.k,E C z.n,E C z.t.k,F z.t.a z.t.l.length z.t.c,E C z.f.k,F z.f.a z.f.l.length z.f.c,F z.a z.l.length z.c] 27)) JB ⟨10,m,uw,th,Z ⟨U.heap.size,0,I⟩,1,[z]⟩)/\(TT.mk 10 m uw th (Z ⟨U.heap.size,0,I⟩) 1 [z]).Bl (fun b=>Q b/\b≠JB)/\∀N,N<=JB->N<=U.heap.size->Zm N U (Y5 (U.alloc (Zf #[E C z.k,E C z.n,E C z.t.k,F z.t.a z.t.l.length z.t.c,E C z.f.k,F z.f.a z.f.l.length z.f.c,F z.a z.l.length z.c] 27)) JB ⟨10,m,uw,th,Z ⟨U.heap.size,0,I⟩,1,[z]⟩):=by
 have a:bL U (U.alloc (Zf z.v 27)):=(Zd _ _).alloc (Zb _) _;have hJ:=e.lt;have l:=YF (w:=U.alloc (Zf z.v 27)) (J:=JB) (x:=⟨10,m,uw,th,Z ⟨U.heap.size,0,I⟩,1,[z]⟩);have c:(TT.mk 10 m uw th (Z ⟨U.heap.size,0,I⟩) 1 [z]).Bl (fun b=>Q b/\b≠JB):=by
  refine TT.Bl_mk.2 ⟨g,k,fun _ y d=>?_,fun y d=>?_⟩
  .cases d
   exact⟨r,by show U.heap.size≠JB;omega⟩
  .have:y=z:=by simpa using d
   subst this;exact j
 have h:(TT.mk 10 m uw th (Z ⟨U.heap.size,0,I⟩) 1 [z]).In (U.alloc (Zf z.v 27)):=by
  refine TT.In_mk.2 ⟨hu.below a,p.below a,fun i hi=>?_,fun y d=>?_⟩
  .have:i=0:=by simpa using hi
   subst this;refine⟨U.heap.size,0,rfl,?_⟩;simp only[ZY];constructor<;>simp[go_sem]
  .have:y=z:=by simpa using d
   subst this;exact hz.below a
 refine⟨XH (e.below a),h.keptR l (c.mono fun b q=>q.2),c,fun N u o=>?_⟩;exact(a.mono o).trans ((l.below (by simp) (by simp;omega)).mono u)
def TT.ok(m:Nat):TT->Prop
 |⟨k,n,t,f,_,_,l⟩=>((Lit.int C k).wf=Zx/\(Lit.int C n).wf=Zx/\t.sz<=m/\f.sz<=m/\l.length<=m)/\∀y,y∈l->y.ok m
theorem TT.ok_mk{m:Nat}{n:Int}{t f:Tr}:(TT.mk k n t f a c l).ok m↔((Lit.int C k).wf=Zx/\(Lit.int C n).wf=Zx/\t.sz<=m/\f.sz<=m/\l.length<=m)/\∀y,y∈l->y.ok m:=by rw[TT.ok]
theorem TT.ok.top{m:Nat}(h:x.ok m):(Lit.int C x.k).wf=Zx/\(Lit.int C x.n).wf=Zx/\x.t.sz<=m/\x.f.sz<=m/\x.l.length<=m:=by cases x;exact(TT.ok_mk.1 h).1
theorem TT.ok.mem{m:Nat}(h:x.ok m)(b:y∈x.l):y.ok m:=by obtain⟨k,n,t,f,a,c,l⟩:=x;exact(TT.ok_mk.1 h).2 y b
theorem P4:∀(l:List Tr)(t:Tr),t∈l->t.sz<=(l.map Tr.sz).sum
 |[],_,h=>by cases h
 |y::r,t,h=>by
  rcases List.mem_cons.1 h with rfl|h
  .simp
  .have:=P4 r t h;simp;omega
theorem Rr:∀(l:List Nat)(m:Nat),(∀x,x∈l->x<=m)->l.foldr max 0<=m
 |[],m,_=>by simp
 |x::r,m,h=>by have h1:=Rr r m fun y hy=>h y (by simp[hy]);have h2:=h x (by simp);simp only[List.foldr_cons];omega
theorem Tr.hgt_sz(t:Tr):t.hgt<=t.sz:=by
 induction t using Tr.ind with
 |h k a c l ih=>
  rw[Tr.hgt_mk,Tr.sz_mk];have:(l.map Tr.hgt).foldr max 0<=(l.map Tr.sz).sum:=by refine Rr _ _ fun x d=>?_;obtain⟨t,b,rfl⟩:=Zz.1 d;exact ZW (ih t b) (P4 l t b)
  omega
theorem TR:∀(l:List Tr),l.length<=(l.map Tr.sz).sum
 |[]=>by simp
 |t::r=>by have:=TR r;have:=t.sz_pos;simp;omega
theorem Tr.sm_sz(t:Tr)(h:t.sz<=100000000):t.sm:=by
 induction t using Tr.ind with
 |h k a c l ih=>
  rw[Tr.sz_mk] at h;refine Tr.sm_mk.2 ⟨?_,fun t b=>ih t b ?_⟩
  .have:=TR l;omega
  .have:=P4 l t b;omega
theorem TT.ok.tsm{m:Nat}(hm:m<=100000000){x:TT}:x.ok m->x.tsm:=by
 induction x using TT.ind with
 |h k n t f a c l ih=>intro h;obtain⟨⟨_,_,g,e,_⟩,d⟩:=TT.ok_mk.1 h;exact TT.tsm_mk.2 ⟨t.sm_sz (by omega),f.sm_sz (by omega),fun y b=>ih y b (d y b)⟩
theorem TT.ok.csz{m:Nat}(hm:m<=100000000){x:TT}:x.ok m->x.csz:=by
 induction x using TT.ind with
 |h k n t f a c l ih=>intro h;obtain⟨⟨_,_,g,e,_⟩,d⟩:=TT.ok_mk.1 h;exact TT.csz_mk.2 ⟨by omega,by omega,fun y b=>ih y b (d y b)⟩
theorem TT.ok.lw{m:Nat}(hm:m<=100000000){x:TT}:x.ok m->x.lw:=by
 induction x using TT.ind with
 |h k n t f a c l ih=>intro h;obtain⟨⟨_,_,_,_,e⟩,d⟩:=TT.ok_mk.1 h;exact TT.lw_mk.2 ⟨by omega,fun y b=>ih y b (d y b)⟩
theorem TT.ok.nb{m:Nat}{x:TT}:x.ok m->x.nb:=by
 induction x using TT.ind with
 |h k n t f a c l ih=>intro h;obtain⟨⟨_,e,_,_,_⟩,d⟩:=TT.ok_mk.1 h;exact TT.nb_mk.2 ⟨(bounds_i64 e).2,fun y b=>ih y b (d y b)⟩
theorem SQ(b:Int)(x:TT)(own:Int)(q:1<=x.k)(j:x.k<=9)(d:x.l.length=YA x.k)(e:YC Yv x.f.ty ⟨0,[]⟩=Zx):
  (Xt b own x.k x.n&&(if UI x.k=Zx then Ym 4 x.t.ty else XG x.t.ty)&&x.l.all fun y=>Y9 b y.tm (Xm x.k own))=Y9 b x.tm own:=by
 obtain⟨k,n,t,f,a,c,l⟩:=x;rw[TT.tm_mk,MZ];have o:decide (1<=k)=Zx:=by simpa using q
 have h:decide (k<=9)=Zx:=by simpa using j
 have i:((l.map TT.tm).length==YA k)=Zx:=by simpa using d
 have g:XG f.ty=Zx:=e;have p:((l.map TT.tm).all fun y=>Y9 b y (Xm k own))=(l.all fun y=>Y9 b y.tm (Xm k own)):=by rw[List.all_map];rfl
 simp only[Uv,X6,o,h,i,g,Bool.true_and,p];cases Xt b own k n<;>cases (if UI k=Zx then Ym 4 t.ty else XG t.ty)<;>rfl
theorem L9(b:Int)(x:TT)(own:Int)(h:Uv b own x.tm=Zi):Y9 b x.tm own=Zi:=by obtain⟨k,n,t,f,a,c,l⟩:=x;rw[TT.tm_mk] at h;rw[TT.tm_mk,MZ,h];rfl
theorem VB(ar:Int):∀(m:Nat)(x:TT)(own:Int)(w:Zj),x.In w->x.sz<=m->x.ok 100000000->0<=own->own+(m:Int)<=1000000000->
  Zu Zg 61 #[Zn #[E C x.k,E C x.n,E C x.t.k,F x.t.a x.t.l.length x.t.c,E C x.f.k,F x.f.a x.f.l.length x.f.c,F x.a x.l.length x.c],E C ar,E C own] w fun e w'=>e=Zl (.bool (Y9 ar x.tm own))/\Zm w.heap.size w w':=by
 intro m;induction m with
 |zero=>intro x own w _ h;have:=x.sz_pos;omega
 |succ m ih=>
  intro x own w o hm c u h1;obtain⟨b,i,k,d,_⟩:=c.top;by_cases hk:x.k<1\/9<x.k
  .rw[L9 ar x own (by simp only[Uv,TT.tm_k];rcases hk with h|h<;>simp<;>omega)];exact SO x ar own w hk
  by_cases hl:x.l.length=YA x.k
  .by_cases hfe:YC Yv x.f.ty ⟨0,[]⟩=Zx
   .rw[<-SQ ar x own (by omega) (by omega) hl hfe];have q:x.l.length<=3:=by rw[hl];unfold YA;split<;>(try split)<;>(try split)<;>omega
    refine SN x ar own w o b (by omega) (by omega) hl 100000000 (ZW x.f.hgt_sz d) (x.f.sm_sz d) hfe (by omega) (ZW x.t.hgt_sz k) (x.t.sm_sz k) (bounds_i64 i).2 u (by omega) q ?_;intro j p W g;have z:x.l[j].sz<=m:=by
     have h1:=x.sz_eq;have h2:x.l[j].sz<=(x.l.map TT.sz).sum:=by
      have:∀(l:List TT)(y:TT),y∈l->y.sz<=(l.map TT.sz).sum:=by
       intro l;induction l with
       |nil=>intro y h;cases h
       |cons a r ih=>
        intro y h;rcases List.mem_cons.1 h with rfl|h
        .simp
        .have:=ih y h;simp;omega
      exact this x.l _ (Zp p)
     omega
    have hi:0<=Xm x.k own/\Xm x.k own<=own+1:=by unfold Xm;split<;>omega
    exact ih x.l[j] (Xm x.k own) W g z (c.mem (Zp p)) hi.1 (by omega)
   .have hfe':YC Yv x.f.ty ⟨0,[]⟩=Zi:=by simpa using hfe
    rw[L9 ar x own (by simp only[Uv,X6,TT.tm_f,XG,Yn,hfe'];simp)];exact SP x ar own w o b (by omega) (by omega) hl 100000000 (ZW x.f.hgt_sz d) (x.f.sm_sz d) hfe'
  .rw[L9 ar x own (by simp only[Uv,TT.tm_k,TT.tm_l];simp[hl])];exact Q3 x ar own w b (by omega) (by omega) hl
theorem Oy(x:TT)(ar:Int)(w:Zj)(hx:x.In w)(hsz:x.sz<=2000000)(hok:x.ok 100000000):
  Zu Zg 37 #[Zn #[E C x.k,E C x.n,E C x.t.k,F x.t.a x.t.l.length x.t.c,E C x.f.k,F x.f.a x.f.l.length x.f.c,F x.a x.l.length x.c],E C ar] w fun e w'=>e=Zl (.bool (Uh ar x.tm))/\Zm w.heap.size w w':=by
 have z:Zq (∀W,x.In W->Zu Zg 60 #[Zn x.v] W fun e w'=>e=Zl (E C (x.sz:Int))/\bL W w'):=fun W h=>Nr x W h hsz;have y:Zq (∀W,x.In W->Zu Zg 61 #[Zn x.v,E C ar,E C 0] W fun e w'=>e=Zl (.bool (Y9 ar x.tm 0))/\bL W w'):=fun W h=>VB ar x.sz x 0 W h (Zb _) hok (by omega) (by omega);have HG:Zq (Uh ar x.tm=(decide (x.sz<41)&&Y9 ar x.tm 0)):=by rw[x.sz_tm];exact RH ar x.tm
 obtain⟨g,hg⟩:∃g,g=Uh ar x.tm:=⟨_,rfl⟩
 rw[<-hg] at HG ⊢;clear hg;obtain⟨W1,c⟩:∃W,W=w.alloc (Zf x.v 27):=⟨_,rfl⟩
 have b:bL w W1:=by rw[c];exact(Zd _ _).alloc (Zb _) _
 obtain⟨u,i⟩:∃S:Int,S=(x.sz:Int):=⟨_,rfl⟩
 obtain⟨r,o⟩:∃r,r=Y9 ar x.tm 0:=⟨_,rfl⟩
 rw[<-o] at HG;have HP:Zq (∀W,bL W1 W->Zu Zg 60 #[Zn x.v] W fun e w'=>e=Zl (E C u)/\bL W1 w'):=fun W d=>by refine(z.out W (hx.below (b.trans (d.mono b.size)))).mono ?_;rintro e w' ⟨rfl,p⟩;rw[i];exact⟨rfl,d.trans (p.mono d.size)⟩
 have HQ:Zq (∀W,bL W1 W->Zu Zg 61 #[Zn x.v,E C ar,E C 0] W fun e w'=>e=Zl (.bool r)/\bL W1 w'):=fun W d=>by refine(y.out W (hx.below (b.trans (d.mono b.size)))).mono ?_;rintro e w' ⟨rfl,p⟩;rw[o];exact⟨rfl,d.trans (p.mono d.size)⟩
 have q:X4 W1 w.heap.size 0 x:=by constructor<;>(rw[c];simp[go_sem])
 have HK:Zq (∀W,bL W1 W->cL W w.heap.size 0 (E C x.k)/\cL W w.heap.size 1 (E C x.n)/\cL W w.heap.size 2 (E C x.t.k)/\cL W w.heap.size 3 (x.t.s)/\cL W w.heap.size 4 (E C x.f.k)/\cL W w.heap.size 5 (x.f.s)/\cL W w.heap.size 6 (x.s)):=fun W d=>by obtain⟨a0,a1,a2,a3,a4,a5,a6⟩:=q.below d;simp only[Zk] at a0 a1 a2 a3 a4 a5 a6;exact⟨a0,a1,a2,a3,a4,a5,a6⟩
 have l:=Yx b;obtain⟨j,d1,d2,d3,d4,d5,d6⟩:=HK.out W1 (Zd _ _);have a8:w.heap.size<W1.heap.size:=Zc _ _ j;by_cases h41:x.sz<41
 .have e1:decide (u<41)=Zx:=by simp;omega
  have HE:Zq (g=r):=by have:=HG.out;rw[show decide (x.sz<41)=Zx by simpa using h41,Bool.true_and] at this;exact this
  clear b q hx hsz hok z y i o h41 HG;go_enter func37,ntmps37;go_upto_region 1 with fail;rw[<-c];clear c;go_wp2_with (first
   |(go_at_call 60;refine(HP.out _ (Zd _ _)).mono ?_;rintro e w2 ⟨rfl,a⟩;obtain⟨j,d1,d2,d3,d4,d5,d6⟩:=HK.out _ a;have a7:w.heap.size<w2.heap.size:=Zc _ _ j)
   |(go_at_call 61;refine(HQ.out _ a).mono ?_;rintro e w3 ⟨rfl,k⟩))
  have HZ:=Yx (l.out.trans (k.mono l.out.size));clear k a;go_ret;exact⟨by rw[HE.out];cases r<;>rfl,HZ.out⟩
 .have e1:decide (u<41)=Zi:=by simp;omega
  have HE:Zq (g=Zi):=by have:=HG.out;rw[show decide (x.sz<41)=Zi by simpa using h41,Bool.false_and] at this;exact this
  clear b q hx hsz hok z y i o h41 HG HQ;go_enter func37,ntmps37;go_upto_region 1 with fail;rw[<-c];clear c;go_wp2_with (first
   |(go_at_call 60;refine(HP.out _ (Zd _ _)).mono ?_;rintro e w2 ⟨rfl,a⟩;obtain⟨j,d1,d2,d3,d4,d5,d6⟩:=HK.out _ a;have a7:w.heap.size<w2.heap.size:=Zc _ _ j))
  have HZ:=Yx (l.out.trans (a.mono l.out.size));clear a;go_ret;exact⟨by rw[HE.out];cases r<;>rfl,HZ.out⟩
theorem TT.eta(x:TT):TT.mk x.k x.n x.t x.f x.a x.c x.l=x:=by cases x;rfl
def L4(T:Tm)(w:Zj)(e:Ending)(w':Zj):Prop:=∃y:TT,e=Zl (Zn #[E C y.k,E C y.n,E C y.t.k,F y.t.a y.t.l.length y.t.c,E C y.f.k,F y.f.a y.f.l.length y.f.c,F y.a y.l.length y.c])/\y.tm=T/\y.In w'/\y.Bl (w.heap.size<=·)/\Zm w.heap.size w w'
theorem RX(x:TT)(A:Option Addr)(HA:Zq (A=x.a))(w:Zj)(hx:x.In w)(hlw:x.lw)(hcs:x.csz)
  (ih:Zq (∀(j:Nat)(hj:j<x.l.length)(w:Zj),x.l[j].In w->Zu Zg 19 #[Zn #[E C x.l[j].k,E C x.l[j].n,E C x.l[j].t.k,F x.l[j].t.a x.l[j].t.l.length x.l[j].t.c,E C x.l[j].f.k,F x.l[j].f.a x.l[j].f.l.length x.l[j].f.c,F x.l[j].a x.l[j].l.length x.l[j].c]] w (L4 x.l[j].tm w))) :
  Zu Zg 19 #[Zn #[E C x.k,E C x.n,E C x.t.k,F x.t.a x.t.l.length x.t.c,E C x.f.k,F x.f.a x.f.l.length x.f.c,F A x.l.length x.c]] w (L4 x.tm w):=by
 have ba:=hlw.len;obtain⟨i0,b6,b4,b8,b5⟩:=info_parts Tryz.info27c;have HT:Zq (∀W,x.t.In W->Zu Zg 34 #[Zn x.t.v] W (Pg x.t.ty W)):=fun W h=>RW _ x.t W h (Zb _) hcs.t;have HF:Zq (∀W,x.f.In W->Zu Zg 34 #[Zn x.f.v] W (Pg x.f.ty W)):=fun W h=>RW _ x.f W h (Zb _) hcs.f;obtain⟨W0,a5⟩:∃W0,W0=(w.alloc (Zf #[E C x.k,E C x.n,E C x.t.k,x.t.s,E C x.f.k,x.f.s,F A x.l.length x.c] 27)).alloc (Zf #[E C 0,E C 0,E C 0,F I 0 0,E C 0,F I 0 0,F I 0 0] 27):=⟨_,rfl⟩
 have ao:W0.heap.size=w.heap.size+1+1:=by rw[a5];simp
 have ap:bL w W0:=by rw[a5];exact((Zd _ _).alloc (Zb _) _).alloc (by simp) _
 have d:Xw W0 w.heap.size ⟨x.k,x.n,x.t,x.f,A,x.c,x.l⟩:=by
  rw[a5];refine⟨⟨?_,?_,?_,?_,?_,?_,?_⟩,fun i hi=>?_⟩
  all_goals simp[go_sem]
 have ab:KT W0 (w.heap.size+1):=by have:=KT.new (w.alloc (Zf #[E C x.k,E C x.n,E C x.t.k,x.t.s,E C x.f.k,x.f.s,F A x.l.length x.c] 27));rw[a5];simpa using this
 have r2:=d.at7.c2;have r3:=d.at7.c3;have r4:=d.at7.c4;have r5:=d.at7.c5;have r6:=d.at7.c6;have f2:=d.fz 2 (by omega);have f3:=d.fz 3 (by omega);have f4:=d.fz 4 (by omega);have f5:=d.fz 5 (by omega);have f6:=d.fz 6 (by omega);have z:=d.lt;have r:bL W0 W0.drew:=(Zd _ _).drew;have HK:Zq (∀w':Zj,bL W0 w'->cL w' w.heap.size 2 (E C x.t.k)/\cL w' w.heap.size 3 (x.t.s)/\cL w' w.heap.size 4 (E C x.f.k)/\cL w' w.heap.size 5 (x.f.s)):=fun w' h=>⟨Za h r2,Za h r3,Za h r4,Za h r5⟩
 have HW:=Sl ao ap d ab hx;clear ao ap d ab hcs hlw;go_enter func19,ntmps19;go_upto_region 1 with fail;rw[<-a5];clear a5;go_cut [] (fun wx=>Zq (∃(t f:Tr)(w3:Zj),wx=(((w3.setCell ⟨w.heap.size,2,I⟩ (E C t.k)).setCell ⟨w.heap.size,3,I⟩ (t.s)).setCell ⟨w.heap.size,4,I⟩ (E C f.k)).setCell ⟨w.heap.size,5,I⟩ (f.s)/\t.ty=x.t.ty/\f.ty=x.f.ty/\bL W0 w3/\t.In w3/\f.In w3/\t.Bl (W0.heap.size<=·)/\f.Bl (W0.heap.size<=·)))
 case first=>
  go_region_law
    (first
     |(go_simp;go_at_call 34;refine(HT.out _ ((HW.out.2.2.2.2.below HW.out.2.1).below r).t).mono ?_;rintro e w2 ⟨t,rfl,ht,a9,a1,k⟩;have a2:=r.trans (k.mono r.size);replace r2:=Za k r2;replace r3:=Za k r3;replace r4:=Za k r4;replace r5:=Za k r5;replace r6:=Za k r6;replace f2:=(k.frozen (p:=⟨w.heap.size,2,I⟩) z).trans f2;replace f3:=(k.frozen (p:=⟨w.heap.size,3,I⟩) z).trans f3;replace f4:=(k.frozen (p:=⟨w.heap.size,4,I⟩) z).trans f4;replace f5:=(k.frozen (p:=⟨w.heap.size,5,I⟩) z).trans f5;replace f6:=(k.frozen (p:=⟨w.heap.size,6,I⟩) z).trans f6;replace z:w.heap.size<w2.heap.size:=Zc _ _ r2;clear HT;go_wp2_with fail)
     |(go_simp;go_at_call 34;refine(HF.out _ ((HW.out.2.2.2.2.below HW.out.2.1).below a2).f).mono ?_;rintro e w3 ⟨f,rfl,aa,av,ai,l⟩;have b3:=a2.trans (l.mono a2.size);replace r2:=Za l r2;replace r3:=Za l r3;replace r4:=Za l r4;replace r5:=Za l r5;replace r6:=Za l r6;replace f2:=(l.frozen (p:=⟨w.heap.size,2,I⟩) z).trans f2;replace f3:=(l.frozen (p:=⟨w.heap.size,3,I⟩) z).trans f3;replace f4:=(l.frozen (p:=⟨w.heap.size,4,I⟩) z).trans f4;replace f5:=(l.frozen (p:=⟨w.heap.size,5,I⟩) z).trans f5;replace f6:=(l.frozen (p:=⟨w.heap.size,6,I⟩) z).trans f6;replace z:w.heap.size<w3.heap.size:=Zc _ _ r2;clear HF;go_wp2_with fail))
  all_goals
   go_wp2_with fail
   go_meet
   case rel=>exact⟨t,f,w3,rfl,ht,aa,b3,a9.below l,av,a1.mono fun b h=>ZW r.size h,ai.mono fun b h=>ZW a2.size h⟩
 case rest=>
 obtain⟨t,f,w3,ar,al,aa,l,a6,az,aj,an⟩:=hcut.out;have au:Zq (TT.mk x.k x.n x.t x.f A x.c x.l=x):=by
  have h:=HA.out;show _=_
  rw[h];exact TT.eta x
 have a3:Xw w3 w.heap.size x:=by have:=HW.out.2.2.1;rw[au.out] at this;exact this.below l
 have HL:Zq (CT w.heap.size x t f 0 (F I 0 0) [] w (((((w3.setCell ⟨w.heap.size,2,I⟩ (E C t.k)).setCell ⟨w.heap.size,3,I⟩ (t.s)).setCell ⟨w.heap.size,4,I⟩ (E C f.k)).setCell ⟨w.heap.size,5,I⟩ (f.s)).setCell ⟨w.heap.size,6,I⟩ (F I 0 0))):=CT.start (HW.out.2.1.trans (l.mono HW.out.2.1.size)) a3 (HW.out.2.2.2.1.later l) a6 az (aj.mono fun b h=>by have:=HW.out.1;omega) (an.mono fun b h=>by have:=HW.out.1;omega)
 have aw:=Un al aa;have am:cL w3 w.heap.size 6 (F A x.l.length x.c):=by rw[HA.out];exact a3.at7.c6
 have aq:w3.frozen? ⟨w.heap.size,6,I⟩=Zi:=a3.fz 6 (by omega);have g6:((((w3.setCell ⟨w.heap.size,2,I⟩ (E C t.k)).setCell ⟨w.heap.size,3,I⟩ (F t.a t.l.length t.c)).setCell ⟨w.heap.size,4,I⟩ (E C f.k)).setCell ⟨w.heap.size,5,I⟩ (F f.a f.l.length f.c)).cell? ⟨w.heap.size,6,I⟩=Z (F A x.l.length x.c):=by rw[Ze _ _ _ _ (by simp),Ze _ _ _ _ (by simp),Ze _ _ _ _ (by simp),Ze _ _ _ _ (by simp)];exact am
 have ax:((((w3.setCell ⟨w.heap.size,2,I⟩ (E C t.k)).setCell ⟨w.heap.size,3,I⟩ (t.s)).setCell ⟨w.heap.size,4,I⟩ (E C f.k)).setCell ⟨w.heap.size,5,I⟩ (f.s)).frozen? ⟨w.heap.size,6,I⟩=Zi:=by simp only[ZO];exact aq
 rw[<-ar] at g6 ax HL;clear hcut ar al aa l a6 az aj an a3 am aq au HK HT HF r2 r3 r4 r5 r6 f2 f3 f4 f5 f6 z r;go_wp2_with fail;go_loopg [19] x.l.length (fun g i wr=>∃(j:Nat)(v:Zs)(cs:List TT),j<=x.l.length/\g=x.l.length-j/\i=E C (j:Int)/\Zq (CT w.heap.size x t f j v cs w wr))
 case atStart=>exact⟨0,_,_,Nat.zero_le _,rfl,rfl,HL⟩
 case round=>
  obtain⟨j,v,cs,hj,hg,rfl,HC⟩:=hrel;have HG:=Yx hg;clear hg HL g6 ax;have bc:=HC.out.z.lt;by_cases hlt:j<x.l.length
  .obtain⟨b,o,ea,⟨x0,x1,x2,x3,x4,x5,x6⟩,hxj⟩:=hx.part j hlt;have eA:=HA.out.trans ea;subst eA;clear ea HA;have q:=HC.out.low;replace x0:=Za q x0;replace x1:=Za q x1;replace x2:=Za q x2;replace x3:=Za q x3;replace x4:=Za q x4;replace x5:=Za q x5;replace x6:=Za q x6;have i1:(j:Int)<(x.l.length:Int):=by omega
   have i2:(0:Int)<=(j:Int):=by omega
   have lb:b<wr.heap.size:=Zc _ _ x0;have bd:cs.length<=1353245080299:=by have:=HC.out.len hj;omega
   have r:bL wr (wr.alloc (Zf x.l[j].v 27)).drew:=((Zd _ _).alloc (Zb _) _).drew;have HI:Zq (Zu Zg 19 #[Zn x.l[j].v] (wr.alloc (Zf x.l[j].v 27)).drew (L4 x.l[j].tm (wr.alloc (Zf x.l[j].v 27)).drew)):=ih.out j hlt _ ((hxj.below q).below r);obtain⟨a0,c0,b2,a4⟩:=HC.out.box;have q1:cL wr w.heap.size 6 v:=by rw[b2];exact a4.at7.c6
   have qf:=a4.fz 6 (by omega);have ah:v.ownBlock≠Z w.heap.size:=fun e=>by have:=(HC.out.row.lt _ e).1;omega
   have ac:=HC.out.row.own;clear ih hx a4 b2 HW;go_wp2_with fail;have u1:=Za r q1;have uf:(wr.alloc (Zf x.l[j].v 27)).drew.frozen? ⟨w.heap.size,6,I⟩=Zi:=(r.frozen (p:=⟨w.heap.size,6,I⟩) (show w.heap.size<wr.heap.size by omega)).trans qf;have uo:=YP ac r;have z:w.heap.size<(wr.alloc (Zf x.l[j].v 27)).drew.heap.size:=Zc _ _ u1;clear q1 qf ac;go_region_law
    (first
     |(go_simp;go_at_call 19;refine HI.out.mono ?_;rintro e w2 ⟨y,rfl,ak,a9,a1,k⟩;replace u1:=Za k u1;replace uf:=(k.frozen (p:=⟨w.heap.size,6,I⟩) z).trans uf;replace uo:=YP uo k;replace z:w.heap.size<w2.heap.size:=Zc _ _ u1;have b1:=Z1 w2 (Zf y.v 27);have un:w.heap.size≠w2.heap.size:=Nat.ne_of_lt z;go_wp2_with fail)
     |(refine Z9 _ (by rfl) _ _ _ (by rfl) (w.heap.size+1+1) 27 i0 _ 7 104 Z8 b6 b4 b8 b5 rfl (by omega) v cs.length (YT cs) (by rfl) (uo.alloc _) ⟨w2.heap.size,0,I⟩ 1 1 [E C y.k,E C y.n,E C y.t.k,y.t.s,E C y.f.k,y.f.s,y.s] (by rfl) (by rfl) (Z0 (cs:=y.v) (t:=27) (fr:=(0,0)) b1) (by simp[Value.oneCell']) (by omega) (by unfold maxLen;omega) (by omega) (by have:=k.size;simp at this ⊢;omega) (w2.heap.size+1) (by simp) ?_;intro gg cap1 af a7 u b0 bb;have b9:af.cell? ⟨w.heap.size,6,I⟩=Z v:=(by rw[u.cell_far _ (by simp;omega) (Ne.symm ah)];exact Za ((Zd _ _).alloc (Zb _) _) u1);have b7:af.frozen? ⟨w.heap.size,6,I⟩=Zi:=(by rw[u.frozen_far _ (by simp;omega) (Ne.symm ah)];exact(((Zd _ _).alloc (Zb _) _).frozen (p:=⟨w.heap.size,6,I⟩) z).trans uf)))
   all_goals
    have HN:=Yx (HC.out.step hlt r ak a9 a1 k a7 u b0)
    clear a7 u b0 b9 b7 ak a9 a1 k uo uf u1 HI HC
    go_wp2_with fail
    go_roundg (x.l.length-(j+1))
    case measure=>rw[HG.out];omega
    case rel=>exact⟨j+1,_,_,by omega,rfl,by go_num,HN⟩
  .have hjl:j=x.l.length:=by omega
   obtain⟨a,c,hv,a4⟩:=HC.out.box;obtain⟨a',c',ae,a8⟩:=HC.out.row.tree;rw[hv] at ae;obtain⟨rfl,rfl⟩:a=a'/\c=c':=by cases ae;exact⟨rfl,rfl⟩
   have a6:=a8 x.k x.n t f HC.out.tin.1 HC.out.fin.1;have a1:=a6.2 (fun b=>w.heap.size+1+1<=b) (fun b hb=>hb) (HC.out.tin.2.mono fun b hb=>hb.1) (HC.out.fin.2.mono fun b hb=>hb.1);have ay:(TT.mk x.k x.n t f a c cs).tm=x.tm:=by have h:=HC.out.tm;rw[hjl,List.take_length] at h;have h2:=aw.out;obtain⟨xk,xn,xt,xf,xa,xc,xl⟩:=x;dsimp only at h h2 ⊢;rw[TT.tm_mk,TT.tm_mk,h,h2.1,h2.2]
   have ad:=HC.out.z;have HN:Zq (L4 x.tm w (Zl (Zn #[E C x.k,E C x.n,E C t.k,t.s,E C f.k,f.s,F a cs.length c])) (Y5 wr (w.heap.size+1) (TT.mk x.k x.n t f a c cs))):=by have hk:=YF (w:=wr) (J:=w.heap.size+1) (x:=TT.mk x.k x.n t f a c cs);refine⟨TT.mk x.k x.n t f a c cs,rfl,ay,a6.1.keptR hk (a1.mono fun b hb=>by omega),a1.mono fun b hb=>by omega,?_⟩;exact HC.out.low.trans ((hk.below (by simp) (Yc ad.lt)).mono (by omega))
   obtain⟨e0,e1,e2,e3,e4,e5,e6⟩:=(XH (x:=TT.mk x.k x.n t f a c cs) ad.box).at7;simp only[Zk] at e0 e1 e2 e3 e4 e5 e6;obtain⟨q0,q1,q2,q3,q4,q5,q6⟩:=a4.at7;simp only[Zk] at q0 q1 q2 q3 q4 q5 q6;obtain⟨⟨y0,y1,y2,y3,y4,y5,y6⟩,f0,f1,f2,f3,f4,f5,f6⟩:=ad;clear HC a4 a6 a1 ay a8 ae hv ih HW aw HG;go_wp2_with fail;refine Zr (v:=Zn #[E C x.k,E C x.n,E C t.k,t.s,E C f.k,f.s,F a cs.length c]) ?_ rfl HN.out;unfold Y5 at e0 e1 e2 e3 e4 e5 e6;simp[results,results19,go_sem,e0,e1,e2,e3,e4,e5,e6]
theorem Tw:∀(x:TT)(w:Zj),x.In w->x.lw->x.csz->Zu Zg 19 #[Zn #[E C x.k,E C x.n,E C x.t.k,F x.t.a x.t.l.length x.t.c,E C x.f.k,F x.f.a x.f.l.length x.f.c,F x.a x.l.length x.c]] w (L4 x.tm w):=by
 intro x;induction x using TT.ind with
 |h k n t f a c l ih=>intro w i d e;exact RX ⟨k,n,t,f,a,c,l⟩ a rfl w i d e (fun j b w g=>ih _ (Zp b) w g (d.mem (Zp b)) (e.mem (Zp b)))
theorem RQ(x:TT):YE x.tm=M5 x.k x.n ((x.l.map TT.tm).map YE):=by obtain⟨k,n,t,f,a,c,l⟩:=x;rw[TT.tm_mk,KK]
theorem Wb(x y:TT)(a:x.l=[y])(b:x.k=9\/x.k=10):YE x.tm=YE y.tm:=by rw[RQ,a];exact if_pos b
theorem Tq(x:TT)(h:¬((x.k=9\/x.k=10)/\x.l.length=1)):YE x.tm=⟨x.k,x.n,Yn,Yn,(x.l.map TT.tm).map YE⟩:=by
 rw[RQ];have a:((x.l.map TT.tm).map YE).length=x.l.length:=by simp
 generalize (x.l.map TT.tm).map YE=m at a;match m,a with
 |[],_=>rfl
 |[y],hl=>exact if_neg fun b=>h ⟨b,by simpa using hl.symm⟩
 |y::z::r,_=>rfl
theorem Qu(x:TT)(w:Zj)(hx:x.In w)(hsz:x.sz<=1000)
  (ih:Zq (∀y:TT,y.sz<x.sz->∀W:Zj,y.In W->Zu Zg 38 #[Zn #[E C y.k,E C y.n,E C y.t.k,F y.t.a y.t.l.length y.t.c,E C y.f.k,F y.f.a y.f.l.length y.f.c,F y.a y.l.length y.c]] W (L4 (YE y.tm) W))) :
  Zu Zg 38 #[Zn #[E C x.k,E C x.n,E C x.t.k,F x.t.a x.t.l.length x.t.c,E C x.f.k,F x.f.a x.f.l.length x.f.c,F x.a x.l.length x.c]] w (L4 (YE x.tm) w):=by
 obtain⟨W1,a5⟩:∃W,W=(w.alloc (Zf x.v 27)).alloc (Zf #[E C 0,E C 0,E C 0,F I 0 0,E C 0,F I 0 0,F I 0 0] 27):=⟨_,rfl⟩
 have l:bL w W1:=by rw[a5];exact((Zd _ _).alloc (Zb _) _).alloc (by simp) _
 have aw:W1.heap.size=w.heap.size+1+1:=by rw[a5];simp
 have ac:Xw W1 w.heap.size x:=by rw[a5];refine⟨⟨?_,?_,?_,?_,?_,?_,?_⟩,fun i hi=>?_⟩<;>simp[go_sem]
 have a9:KT W1 (w.heap.size+1):=by rw[a5];refine⟨⟨?_,?_,?_,?_,?_,?_,?_⟩,?_,?_,?_,?_,?_,?_,?_⟩<;>simp[go_sem]
 have HW:=KS l aw a9;have HX:=KS ac (hx.below l) hx.bl;clear hx l aw ac a9;go_enter func38,ntmps38;refine wp_seq_k fun K0 bs=>?_;go_cut [1,2] (fun s1 s2 wx=>s1=Zo (Z ⟨w.heap.size,0,I⟩)/\s2=Zo (Z ⟨w.heap.size+1,0,I⟩)/\wx=W1)
 case first=>
  go_wp2_with fail;go_meet
  case rel=>exact⟨rfl,rfl,a5.symm⟩
 obtain⟨h1,h2,h3⟩:=hcut;subst h1 h2;rw[h3];clear h3 a5;apply_assumption;refine wp_seq_k fun K1 bn=>?_;go_cut [] (fun wx=>Zq (∃p:TT,¬((p.k=9\/p.k=10)/\p.l.length=1)/\Xw wx w.heap.size p/\p.In wx/\p.Bl (·<w.heap.size)/\YE p.tm=YE x.tm/\p.sz<=x.sz/\Yi w.heap.size I W1 wx/\wx.heap.size=W1.heap.size))
 case first=>
  go_wp2_with fail;go_loopg [] x.sz (fun g wr=>∃p:TT,g=p.sz/\Zq (Xw wr w.heap.size p/\p.In wr/\p.Bl (·<w.heap.size)/\YE p.tm=YE x.tm/\p.sz<=x.sz/\Yi w.heap.size I W1 wr/\wr.heap.size=W1.heap.size))
  case atStart=>exact⟨x,rfl,HX.out.1,HX.out.2.1,HX.out.2.2,rfl,Zb _,Yi.of_below (Zd _ _),rfl⟩
  case round=>
   obtain⟨p,hg,HR⟩:=hrel;have HG:=Yx hg;clear hg HX;obtain⟨q0,q1,q2,q3,q4,q5,q6⟩:=HR.out.1.at7;simp only[Zk] at q0 q1 q2 q3 q4 q5 q6;have lw:w.heap.size<wr.heap.size:=Zc _ _ q0;by_cases hC:(p.k=9\/p.k=10)/\p.l.length=1
   .have e1:decide (9<=p.k)=Zx:=by simp;omega
    have e2:decide (p.k<=10)=Zx:=by simp;omega
    obtain⟨y,hl⟩:∃y,p.l=[y]:=by
     match h:p.l,hC.2 with
     |[y],_=>exact⟨y,rfl⟩
    obtain⟨b,o,ea,⟨c0,c1,c2,c3,c4,c5,c6⟩,ah⟩:=HR.out.2.1.part 0 (by rw[hl];simp);simp only[hl,ZY,ZU,Yd] at c0 c1 c2 c3 c4 c5 c6 ah;have a2:y.Bl (·<w.heap.size):=HR.out.2.2.1.mem (by rw[hl];simp);have b4:b<w.heap.size:=HR.out.2.2.1.own (by rw[hl];simp) _ ea;have d:b≠w.heap.size:=by omega
    have lb:b<wr.heap.size:=by omega
    have ad:=hC.2;have b5:y.sz<p.sz:=by have:=p.sz_eq;rw[hl] at this;simp at this;omega
    have u:=HR.out.1.fz;have f0:=u 0 (by omega);have f1:=u 1 (by omega);have f2:=u 2 (by omega);have f3:=u 3 (by omega);have f4:=u 4 (by omega);have f5:=u 5 (by omega);have f6:=u 6 (by omega);have HN:Zq (Xw (Y5 wr w.heap.size y) w.heap.size y/\y.In (Y5 wr w.heap.size y)/\y.Bl (·<w.heap.size)/\YE y.tm=YE x.tm/\y.sz<=x.sz/\Yi w.heap.size I W1 (Y5 wr w.heap.size y)/\(Y5 wr w.heap.size y).heap.size=W1.heap.size):=by
     refine⟨XH HR.out.1,ah.keptR YF (a2.mono fun b hb=>by omega),a2,?_,?_,HR.out.2.2.2.2.2.1.trans YF,?_⟩
     .rw[<-Wb p y hl hC.1];exact HR.out.2.2.2.1
     .have:=HR.out.2.2.2.2.1;omega
     .rw[<-HR.out.2.2.2.2.2.2];simp[Y5,World.setCell]
    rw[ad,ea] at q6;unfold Y5 at HN;clear HR hC hl ea ah a2 ad u;go_wp2_with fail;go_roundg y.sz
    case measure=>rw[HG.out];exact b5
    case rel=>exact⟨y,rfl,HN⟩
   .have HN:Zq (∃p:TT,¬((p.k=9\/p.k=10)/\p.l.length=1)/\Xw wr w.heap.size p/\p.In wr/\p.Bl (·<w.heap.size)/\YE p.tm=YE x.tm/\p.sz<=x.sz/\Yi w.heap.size I W1 wr/\wr.heap.size=W1.heap.size):=⟨p,hC,HR.out⟩
    by_cases h9:9<=p.k
    .have e1:decide (9<=p.k)=Zx:=by simpa using h9
     by_cases h10:p.k<=10
     .have e2:decide (p.k<=10)=Zx:=by simpa using h10
      have e3:((p.l.length:Int)==1)=Zi:=by have:p.l.length≠1:=fun h=>hC ⟨by omega,h⟩;simp;omega
      clear HR hC h9 h10;go_wp2_with fail;go_meet
      case rel=>exact HN
     .have e2:decide (p.k<=10)=Zi:=by simpa using h10
      clear HR hC h9 h10;go_wp2_with fail;go_meet
      case rel=>exact HN
    .have e1:decide (9<=p.k)=Zi:=by simpa using h9
     clear HR hC h9;go_wp2_with fail;go_meet
     case rel=>exact HN
 case rest=>
 obtain⟨p,hC,q,au,al,az,aq,c,bb⟩:=hcut.out;clear hcut HX;obtain⟨S,hS⟩:∃S,S=wc.heap.size:=⟨_,rfl⟩
 have bk:w.heap.size+1+1<=S:=by have:=HW.out.2.1;omega
 obtain⟨V5,a6⟩:∃V,V=wc.alloc (Zf #[E C p.k,E C p.n,E C 0,F I 0 0,E C 0,F I 0 0,F I 0 0] 27):=⟨_,rfl⟩
 have a8:bL wc V5:=by rw[a6];exact(Zd _ _).alloc (Zb _) _
 have b8:S+1<=V5.heap.size/\V5.heap.size<=S+1:=by rw[a6,hS];simp
 obtain⟨bm,bi⟩:=b8;obtain⟨q0,q1,q2,q3,q4,q5,q6⟩:=q.at7;simp only[Zk] at q0 q1 q2 q3 q4 q5 q6;have lw:w.heap.size<wc.heap.size:=Zc _ _ q0;obtain⟨a1,ab⟩:∃T,T=(p.l.map TT.tm).map YE:=⟨_,rfl⟩
 have a3:Zq (a1.length=p.l.length/\YE x.tm=⟨p.k,p.n,Yn,Yn,a1⟩/\∀j(h:j<p.l.length)(h':j<a1.length),a1[j]=YE p.l[j].tm):=by subst ab;refine⟨by simp,by rw[<-az,Tq p hC],fun j h h'=>by simp⟩
 clear ab;have ao:Zq (CW (S+1<=·) S (YJ p.k p.n) V5 a1 0 (F I 0 0) [] V5):=by refine⟨KR.nil _ _ _,by simp,⟨I,0,rfl,?_⟩,Yi.of_below (Zd _ _)⟩;rw[a6,hS];refine⟨⟨?_,?_,?_,?_,?_,?_,?_⟩,fun i hi=>?_⟩<;>simp[go_sem,YJ]
 have bo:=Za a8 q6;have HP:Zq (p.In V5/\p.Bl (·<w.heap.size)/\p.sz<=x.sz/\bL w V5/\KT V5 (w.heap.size+1)):=by
  refine⟨au.below a8,al,aq,?_,?_⟩
  .exact(HW.out.1.trans (c.below (by simp) (by have:=HW.out.2.1;omega))).trans (a8.mono (by omega))
  .exact(HW.out.2.2.kept c (by omega)).later a8
 have bq:p.l.length<=1000:=by have h1:=MC p.l;have h2:=p.sz_eq;omega
 have HS:=Yx hS;clear q au al az aq c hC a8 bb hS;apply_assumption;go_wp2_with fail;rw[<-a6,<-HS.out];clear a6 HS q0 q1 q2 q3 q4 q5 q6;go_loopg [32] p.l.length (fun g i wr=>∃(j:Nat)(v:Zs)(cs:List TT),j<=p.l.length/\g=p.l.length-j/\i=E C (j:Int)/\Zq (CW (S+1<=·) S (YJ p.k p.n) V5 a1 j v cs wr))
 case atStart=>exact⟨0,_,_,Nat.zero_le _,rfl,rfl,ao⟩
 case round=>
  obtain⟨j,v,cs,hj,hg,rfl,HC⟩:=hrel;have HG:=Yx hg;clear hg ao;have c:=HC.out.kp;have bp:=c.size;by_cases hlt:j<p.l.length
  .obtain⟨b,o,ea,⟨x0,x1,x2,x3,x4,x5,x6⟩,hxj⟩:=HP.out.1.part j hlt;have b4:b<w.heap.size:=HP.out.2.1.own (fun e=>by rw[e] at hlt;simp at hlt) _ ea;have d:b≠S:=by omega
   replace x0:=c.cell x0 d;replace x1:=c.cell x1 d;replace x2:=c.cell x2 d;replace x3:=c.cell x3 d;replace x4:=c.cell x4 d;replace x5:=c.cell x5 d;replace x6:=c.cell x6 d;obtain⟨y,hy⟩:∃y,y=p.l[j]:=⟨_,rfl⟩
   have a2:y.Bl (·<w.heap.size):=HP.out.2.1.mem (by rw[hy];exact Zp hlt);rw[<-hy] at x0 x1 x2 x3 x4 x5 x6 hxj;have an:=hxj.keptR c (a2.mono fun b hb=>by omega);have i1:(j:Int)<(p.l.length:Int):=by omega
   have i2:(0:Int)<=(j:Int):=by omega
   have lb:b<wr.heap.size:=Zc _ _ x0;have bg:cs.length=j:=by have:=congrArg List.length HC.out.tm;have e:=a3.out.1;simp only[Yg,List.length_take] at this;omega
   have bh:cs.length<=1000:=by omega
   clear bg;have ap:=HC.out.row.lt;have l:bL wr (wr.alloc (Zf y.v 27)).drew:=((Zd _ _).alloc (Zb _) _).drew;have HI:Zq (Zu Zg 38 #[Zn y.v] (wr.alloc (Zf y.v 27)).drew (L4 (YE y.tm) (wr.alloc (Zf y.v 27)).drew)):=by
    refine ih.out y ?_ _ (an.below l);have h1:=p.sz_eq;have h2:=HP.out.2.2.1;have e:p.l[j].tm.sz<=((p.l.map TT.tm).map Tm.sz).sum:=Ji _ _ (Zz.2 ⟨_,Zp hlt,rfl⟩);have e2:(p.l.map TT.tm).map Tm.sz=p.l.map TT.sz:=by rw[ZQ];exact List.map_congr_left fun z _=>z.sz_tm.symm
    rw[e2,<-hy,<-TT.sz_tm] at e;omega
   have q1:cL wr S 6 v:=by obtain⟨a0,c0,b2,q⟩:=HC.out.box;have:=q.at7.c6;simp only[Zk] at this;rw[b2];exact this
   have qf:wr.frozen? ⟨S,6,I⟩=Zi:=by obtain⟨a0,c0,b2,q⟩:=HC.out.box;exact q.fz 6 (by omega)
   have am:v.ownBlock≠Z S:=fun e=>by have:=(ap _ e).1;omega
   have ae:=HC.out.row.own;have lS:S<wr.heap.size:=Zc _ _ q1;have b9:Zq (a1[j]'(by rw[a3.out.1];exact hlt)=YE y.tm):=by rw[hy];exact a3.out.2.2 j hlt _
   have b6:=Yx ea;obtain⟨i0,bd,b7,a9,ba⟩:=info_parts Tryz.info27c;rw[ea];clear ea ih hy a2 an hxj c;go_wp2_with fail;have u1:=Za l q1;have uf:(wr.alloc (Zf y.v 27)).drew.frozen? ⟨S,6,I⟩=Zi:=(l.frozen (p:=⟨S,6,I⟩) (show S<wr.heap.size by omega)).trans qf;have uo:=YP ae l;have us:S<(wr.alloc (Zf y.v 27)).drew.heap.size:=Zc _ _ u1;clear q1 qf ae;go_region_law
    (first
     |(go_simp;go_at_call 38;refine HI.out.mono ?_;rintro e w2 ⟨z,rfl,ax,b3,ar,a4⟩;replace u1:=Za a4 u1;replace uf:=(a4.frozen (p:=⟨S,6,I⟩) us).trans uf;replace uo:=YP uo a4;replace us:S<w2.heap.size:=Zc _ _ u1;have b1:=Z1 w2 (Zf z.v 27);have un:S≠w2.heap.size:=Nat.ne_of_lt us;go_wp2_with fail)
     |(refine Z9 _ (by rfl) _ _ _ (by rfl) V5.heap.size 27 i0 _ 7 104 Z8 bd b7 a9 ba rfl (by omega) v cs.length (YT cs) (by rfl) (uo.alloc _) ⟨w2.heap.size,0,I⟩ 1 1 [E C z.k,E C z.n,E C z.t.k,z.t.s,E C z.f.k,z.f.s,z.s] (by rfl) (by rfl) (Z0 (cs:=z.v) (t:=27) (fr:=(0,0)) b1) (by simp[Value.oneCell']) (by omega) (by unfold maxLen;omega) (by omega) (by have:=a4.size;simp at this ⊢;omega) (w2.heap.size+1) (by simp) ?_;intro gg cap1 af a7 r b0 bj;have bf:af.cell? ⟨S,6,I⟩=Z v:=(by rw[r.cell_far _ (by simp;omega) (Ne.symm am)];exact Za ((Zd _ _).alloc (Zb _) _) u1);have be:af.frozen? ⟨S,6,I⟩=Zi:=(by rw[r.frozen_far _ (by simp;omega) (Ne.symm am)];exact(((Zd _ _).alloc (Zb _) _).frozen (p:=⟨S,6,I⟩) us).trans uf)))
   all_goals
    have HN:Zq (CW (S+1<=·) S (YJ p.k p.n) V5 a1 (j+1) (F (Z ⟨gg,0,I⟩) (cs.length+1) cap1) (cs++[z]) (af.setCell ⟨S,6,I⟩ (F (Z ⟨gg,0,I⟩) (cs.length+1) cap1))):=HC.out.step (by omega) (fun b hb=>by omega) (by rw[a3.out.1];exact hlt) (l.trans (a4.mono l.size)) (ax.trans b9.out.symm) b3 (ar.mono fun b hb=>by simp at hb;exact⟨by omega,fun e=>by have:=(ap b e.symm).2;omega⟩) (by simpa[YT] using a7) r b0
    clear a7 r b0 bf be ax b3 ar a4 uo uf u1 HI HC
    go_wp2_with fail
    rw[<-b6.out]
    go_roundg (p.l.length-(j+1))
    case measure=>rw[HG.out];omega
    case rel=>exact⟨j+1,_,_,by omega,rfl,by go_num,HN⟩
  .have hjl:j=p.l.length:=by omega
   obtain⟨a,cc,hv,q⟩:=HC.out.box;obtain⟨a',bc,ak,av,ai⟩:=HC.out.row.tree (k:=p.k) (n:=p.n) (t:=⟨0,I,0,[]⟩) (f:=⟨0,I,0,[]⟩) (fun b hb=>by omega) (Tr.In_nil _ _ _ _) (Tr.In_nil _ _ _ _) (Tr.Bl_nil _ _ _ _) (Tr.Bl_nil _ _ _ _);rw[hv] at ak;obtain⟨rfl,rfl⟩:a=a'/\cc=bc:=by cases ak;exact⟨rfl,rfl⟩
   have ay:(TT.mk p.k p.n ⟨0,I,0,[]⟩ ⟨0,I,0,[]⟩ a cc cs).tm=YE x.tm:=by rw[a3.out.2.1,TT.tm_mk];have h1:=HC.out.tm;rw[hjl,<-a3.out.1,List.take_length] at h1;rw[h1];simp[Tr.ty_mk,Yn]
   have aj:=HP.out.2.2.2.2.kept c (by omega);have aa:=HP.out.2.2.2.1.trans ((c.below (by simp) (by omega)).mono (by omega));have HN:Zq (L4 (YE x.tm) w (Zl (Zn #[E C p.k,E C p.n,E C 0,F I 0 0,E C 0,F I 0 0,F a cs.length cc])) (Y5 wr (w.heap.size+1) (TT.mk p.k p.n ⟨0,I,0,[]⟩ ⟨0,I,0,[]⟩ a cc cs))):=by have hk:=YF (w:=wr) (J:=w.heap.size+1) (x:=(TT.mk p.k p.n ⟨0,I,0,[]⟩ ⟨0,I,0,[]⟩ a cc cs));refine⟨(TT.mk p.k p.n ⟨0,I,0,[]⟩ ⟨0,I,0,[]⟩ a cc cs),rfl,ay,av.keptR hk (ai.mono fun b hb=>by omega),ai.mono fun b hb=>by omega,?_⟩;exact aa.trans ((hk.below (by simp) (Yc aj.lt)).mono (by omega))
   obtain⟨e0,e1,e2,e3,e4,e5,e6⟩:=(XH (x:=(TT.mk p.k p.n ⟨0,I,0,[]⟩ ⟨0,I,0,[]⟩ a cc cs)) aj.box).at7;simp only[Zk] at e0 e1 e2 e3 e4 e5 e6;obtain⟨q0,q1,q2,q3,q4,q5,q6⟩:=q.at7;simp only[Zk,YJ,List.length_nil] at q0 q1 q2 q3 q4 q5 q6;obtain⟨⟨br,y1,y2,y3,y4,y5,y6⟩,f0,f1,f2,f3,f4,f5,f6⟩:=aj;have lS:S<wr.heap.size:=Zc _ _ q0;clear HC q av ai ay ak hv ih HP aa c HG;go_wp2_with fail;refine Zr (v:=Zn #[E C p.k,E C p.n,E C 0,F I 0 0,E C 0,F I 0 0,F a cs.length cc]) ?_ rfl HN.out;unfold Y5 at e0 e1 e2 e3 e4 e5 e6;simp only[List.length_nil] at e0 e1 e2 e3 e4 e5 e6;simp[results,results38,go_sem,e0,e1,e2,e3,e4,e5,e6]
theorem RR(m:Nat):∀(x:TT)(w:Zj),x.sz<=m->x.In w->x.sz<=1000->Zu Zg 38 #[Zn #[E C x.k,E C x.n,E C x.t.k,F x.t.a x.t.l.length x.t.c,E C x.f.k,F x.f.a x.f.l.length x.f.c,F x.a x.l.length x.c]] w (L4 (YE x.tm) w):=by
 induction m with
 |zero=>intro x w h;have:=x.sz_pos;omega
 |succ m ih=>intro x w d c b;exact Qu x w c b fun y e W a=>ih y W (by omega) a (by omega)
theorem WY(w:Zj)(b:Gl w):Zu Zg 23 #[] w fun e w'=>e=Zl (.bool Zx)/\Zm w.heap.size w w':=by
 have a:Zq (Zu Zg 17 #[.string aS,E C 5] w fun e w'=>e=Zl (ZC #[Zn #[E C 1,E C 7,.bool Zi],E C 0])/\bL w w'):=by have:=Sx aS (by show 38<=9223372036854775807;omega) 5 w b;rw[Cq] at this;exact this
 unfold aS at a;clear b;go_enter func23,ntmps23;go_wp2_with fail;refine a.out.mono ?_;rintro e w2 ⟨rfl,c⟩;have d:=Yx c;clear c a;go_wp2_with fail;go_ret;exact⟨rfl,d.out.alloc d.out.size _⟩
section
open Go.ChangeShapes Go.WideShapes Go.ChangeAt Go.RowKit
theorem TX{m m':Nat}{x:TT}:x.ok m->m<=m'->x.ok m':=by
 induction x using TT.ind with
 |h k n t f a c l ih=>intro h d;obtain⟨⟨i,g,p,j,o⟩,e⟩:=TT.ok_mk.1 h;exact TT.ok_mk.2 ⟨⟨i,g,by omega,by omega,by omega⟩,fun y b=>ih y b (e y b) d⟩
theorem Sb{H:Type}:∀(l:List (ZS H))(d:ZS H),d∈l->Rows.uptoBulk d<=Rows.uptoBulkAll l
 |[],_,h=>by cases h
 |e::r,d,h=>by
  simp only[Rows.uptoBulkAll];rcases List.mem_cons.1 h with rfl|h
  .omega
  .have:=Sb r d h;omega
theorem NL{H:Type}:∀{f:Nat->Nat}(l:List (ZS H))(n:Nat),l.length=n->(∀i(h:i<l.length),f i<=Rows.uptoBulk l[i])->((ZB n).map f).sum<=Rows.uptoBulkAll l
 |f,[],n,hn,_=>by
  have:n=0:=by simpa using hn.symm
  subst this;simp
 |f,d::r,n,hn,h=>by
  obtain⟨m,rfl⟩:∃m,n=m+1:=⟨r.length,by simpa using hn.symm⟩
  have a:=h 0 (by simp);have b:=NL (f:=f∘Nat.succ) r m (by simpa using hn) fun i hi=>h (i+1) (by simpa using hi);rw[List.range_succ_eq_map,Zv,ZQ,Z6];simp only[ZY] at a;simp only[Rows.uptoBulkAll];omega
set_option maxRecDepth 100000 in
theorem QO{H:Type}{enc:TypeId×Zs->H}{W:Zj}{base:Nat}{spare:Nat->Bool}{held:Bool}:∀(fuel:Nat)(cs:List Zs)(x:ZS H×List ZD),
  DataW.trod enc Zg W base spare held fuel 24 cs=Z x->∃t:Tr,cs=[.int .i64 t.k,.slice t.a t.l.length t.c]/\t.In W/\t.sz<=Rows.uptoBulk x.1:=by
 intro fuel;induction fuel using Nat.strongRecOn with
 |_ fuel ih=>
  intro cs x h;obtain⟨xs,n,rfl,rfl,hl,o,hf⟩:=DataW.trod_struct underlying24 h;rw[Tryz.cells24] at hl;match cs,hl with
  |[c0,c1],_=>
   have r:=hf 0 { name:= "Kind",type:=3,offset:=0,embedded:=Zi,tag:= "",pkgPath:= "",byteOffset:=0 } rfl;have w:=hf 1 { name:= "L",type:=22,offset:=1,embedded:=Zi,tag:= "",pkgPath:= "",byteOffset:=8 } rfl;simp only[List.drop_zero,List.drop_succ_cons,Tryz.cells3,Tryz.cells22,List.take_succ_cons,List.take_zero] at r w;match xs,o with
   |[y0,y1],_=>
    simp only[ZX,Ye] at r w;obtain⟨k,e,_,_⟩:=DataW.trod_int Yb r;simp only[ZK,and_true] at e;subst e;rcases DataW.trod_slice underlying22 w with⟨c,_⟩|⟨a,len,z,b,rest,m,rfl,c,rfl,_,_,_,l,u,_⟩
    .simp only[ZK,and_true] at c;subst c;refine⟨.mk k I 0 [],rfl,Tr.In_nil _ _ _ _,?_⟩;rw[Tr.sz_mk];simp[Rows.uptoBulk]
    .simp only[ZK,and_true] at c;subst c;have a7:∀i,i<len->∃t:Tr,W.cells? base (a.add (i*2)) 2=Z [.int .i64 t.k,.slice t.a t.l.length t.c]/\t.In W/\∀(hi:i<(b.map fun y:ZS H×List ZD=>y.1).length),t.sz<=Rows.uptoBulk (b.map fun y:ZS H×List ZD=>y.1)[i]:=by intro i hi;have g:=u i hi;rw[Tryz.cells24,ZF (by omega)] at g;obtain⟨a3,a6,a5⟩:=Yf.1 g;obtain⟨t,rfl,a1,a0⟩:=ih m (by omega) a3 _ a5;exact⟨t,a6,a1,fun _=>by rw[ZG];exact a0⟩
     haveI:Inhabited Tr:=⟨.mk 0 I 0 []⟩
     obtain⟨T,p⟩:=Go.Deep.choose_lt a7;refine⟨.mk k (Z a) z ((ZB len).map T),by simp,?_,?_⟩;rotate_left
     .rw[Tr.sz_mk,ZQ];have h:=NL (H:=H) (f:=Tr.sz∘T) (b.map fun y:ZS H×List ZD=>y.1) len (by simpa using l) (fun i hi=>(p i (by simpa[l] using hi)).2.2 hi);simp only[Zv,ZA,Rows.uptoBulk,Rows.uptoBulkAll];omega
     refine Tr.In_mk.2 ⟨fun j hj=>?_,fun t ht=>?_⟩;rotate_left
     .obtain⟨i,hi,rfl⟩:=Zz.1 ht;exact(p i (by simpa using hi)).2.1
     have a2:j<len:=by simpa using hj
     obtain⟨hz,_⟩:=R1 (p 0 (by omega)).1;simp only[ZU] at hz;have a4:a.add 0=a:=by simp[Addr.add]
     rw[a4] at hz;have ha:=PR hz;have hc:=(p j a2).1;obtain⟨c0,c1⟩:=R1 hc;have d:∀q,a.add q=⟨a.block,a.off+q,I⟩:=by intro q;rw[ha];unfold Addr.add;by_cases hq:q=0<;>simp[hq]
     refine⟨a.block,a.off,by rw[<-ha],?_,?_⟩
     .rw[d] at c0;simpa using c0
     .rw[Go.Deep.add_add,d] at c1;simp only[ZG,Z2,Tr.sl];rw[show a.off+j*2+1=a.off+(j*2+1) by omega];exact c1
theorem P6:∀l:List Nat,(l.map fun n=>n*2).sum=l.sum*2
 |[]=>rfl
 |n::l=>by have:=P6 l;simp only[Zv,Z6];omega
set_option maxRecDepth 100000 in
theorem WJ{H:Type}{enc:TypeId×Zs->H}{W:Zj}{base:Nat}{spare:Nat->Bool}{held:Bool}:∀(fuel:Nat)(cs:List Zs)(x:ZS H×List ZD),
  DataW.trod enc Zg W base spare held fuel 27 cs=Z x->∃t:TT,cs=[.int .i64 t.k,.int .i64 t.n,.int .i64 t.t.k,.slice t.t.a t.t.l.length t.t.c,.int .i64 t.f.k,.slice t.f.a t.f.l.length t.f.c,.slice t.a t.l.length t.c]/\t.In W/\t.sz*2<=Rows.uptoBulk x.1/\t.ok (Rows.uptoBulk x.1):=by
 intro fuel;induction fuel using Nat.strongRecOn with
 |_ fuel ih=>
  intro cs x h;obtain⟨xs,n,rfl,rfl,hl,w,z⟩:=DataW.trod_struct underlying27 h;rw[Tryz.cells27] at hl;match cs,hl with
  |[c0,c1,c2,c3,c4,c5,c6],_=>
   have h0:=z 0 { name:= "Kind",type:=3,offset:=0,embedded:=Zi,tag:= "",pkgPath:= "",byteOffset:=0 } rfl;have h1:=z 1 { name:= "N",type:=3,offset:=1,embedded:=Zi,tag:= "",pkgPath:= "",byteOffset:=8 } rfl;have d:=z 2 { name:= "T",type:=24,offset:=2,embedded:=Zi,tag:= "",pkgPath:= "",byteOffset:=16 } rfl;have h3:=z 3 { name:= "From",type:=24,offset:=4,embedded:=Zi,tag:= "",pkgPath:= "",byteOffset:=48 } rfl;have h4:=z 4 { name:= "L",type:=25,offset:=6,embedded:=Zi,tag:= "",pkgPath:= "",byteOffset:=80 } rfl;simp only[List.drop_zero,List.drop_succ_cons,Tryz.cells3,Tryz.cells24,Tryz.cells25,List.take_succ_cons,List.take_zero] at h0 h1 d h3 h4;match xs,w with
   |[y0,y1,y2,y3,y4],_=>
    simp only[ZX,Ye] at h0 h1 d h3 h4;obtain⟨k,r,_,a0⟩:=DataW.trod_int Yb h0;obtain⟨nn,a4,_,u⟩:=DataW.trod_int Yb h1;obtain⟨t,a3,ht,ah⟩:=QO n _ _ d;obtain⟨f,a2,a5,af⟩:=QO n _ _ h3;simp only[ZK,and_true] at r a4 a3 a2;obtain⟨rfl,rfl⟩:=a3;obtain⟨rfl,rfl⟩:=a2;subst r a4;rcases DataW.trod_slice Z8 h4 with⟨l,_⟩|⟨a,len,a7,b,rest,m,rfl,l,rfl,_,_,_,g,a6,_⟩
    .simp only[ZK,and_true] at l;subst l;exact⟨.mk k nn t f I 0 [],rfl,TT.In_mk.2 ⟨ht,a5,fun j h=>absurd h (by simp),fun t h=>by cases h⟩,by rw[TT.sz_mk];have:=t.sz_pos;simp only[ZA,List.sum_nil,Zv,Rows.uptoBulk,Rows.uptoBulkAll];omega,TT.ok_mk.2 ⟨⟨a0,u,by simp only[Zv,ZA,Rows.uptoBulk,Rows.uptoBulkAll];omega,by simp only[Zv,ZA,Rows.uptoBulk,Rows.uptoBulkAll];omega,by simp⟩,fun y h=>by cases h⟩⟩
    .simp only[ZK,and_true] at l;subst l;have ae:∀i,i<len->∃t:TT,W.cells? base (a.add (i*7)) 7=Z [.int .i64 t.k,.int .i64 t.n,.int .i64 t.t.k,.slice t.t.a t.t.l.length t.t.c,.int .i64 t.f.k,.slice t.f.a t.f.l.length t.f.c,.slice t.a t.l.length t.c]/\t.In W/\∀(hi:i<(b.map fun y:ZS H×List ZD=>y.1).length),t.sz*2<=Rows.uptoBulk (b.map fun y:ZS H×List ZD=>y.1)[i]/\t.ok (Rows.uptoBulk (b.map fun y:ZS H×List ZD=>y.1)[i]):=by intro i hi;have e:=a6 i hi;rw[Tryz.cells27,ZF (by omega)] at e;obtain⟨aa,ad,ac⟩:=Yf.1 e;obtain⟨t,rfl,a9,hw⟩:=ih m (by omega) aa _ ac;exact⟨t,ad,a9,fun o=>by rw[ZG];exact hw⟩
     haveI:Inhabited TT:=⟨YJ 0 0⟩
     obtain⟨T,p⟩:=Go.Deep.choose_lt ae;refine⟨.mk k nn t f (Z a) a7 ((ZB len).map T),by simp,?_,?_,?_⟩
     .refine TT.In_mk.2 ⟨ht,a5,fun j hj=>?_,fun t ht=>?_⟩;rotate_left
      .obtain⟨i,hi,rfl⟩:=Zz.1 ht;exact(p i (by simpa using hi)).2.1
      have a8:j<len:=by simpa using hj
      have hz:=Nw (p 0 (by omega)).1 0 (by omega);simp only[ZU,ZX] at hz;have ab:(a.add 0).add 0=a:=by simp[Addr.add]
      rw[ab] at hz;have ha:=PR hz;have hc:=Nw (p j a8).1;have a1:∀q,a.add q=⟨a.block,a.off+q,I⟩:=by intro q;rw[ha];unfold Addr.add;by_cases hq:q=0<;>simp[hq]
      have c:∀i,i<7->W.cell? ⟨a.block,a.off+j*7+i,I⟩=[Value.int .i64 (T j).k,.int .i64 (T j).n,.int .i64 (T j).t.k,.slice (T j).t.a (T j).t.l.length (T j).t.c,.int .i64 (T j).f.k,.slice (T j).f.a (T j).f.l.length (T j).f.c,.slice (T j).a (T j).l.length (T j).c][i]?:=by intro i hi;have:=hc i hi;rw[Go.Deep.add_add,a1] at this;rw[show a.off+j*7+i=a.off+(j*7+i) by omega];exact this
      refine⟨a.block,a.off,by rw[<-ha],?_⟩;simp only[ZG,Z2];exact⟨c 0 (by omega),c 1 (by omega),c 2 (by omega),c 3 (by omega),c 4 (by omega),c 5 (by omega),c 6 (by omega)⟩
     .rw[TT.sz_mk,ZQ];have h:=NL (H:=H) (f:=fun i=>(TT.sz∘T) i*2) (b.map fun y:ZS H×List ZD=>y.1) len (by simpa using g) (fun i hi=>((p i (by simpa[g] using hi)).2.2 hi).1);have d:=P6 ((ZB len).map (TT.sz∘T));rw[ZQ] at d;have h3:((ZB len).map (TT.sz∘T)).sum*2<=Rows.uptoBulkAll (b.map fun y:ZS H×List ZD=>y.1):=by rw[<-d];exact h
      have:=t.sz_pos;clear h d;simp only[Zv,ZA,Rows.uptoBulk,Rows.uptoBulkAll];omega
     .have h:=NL (H:=H) (f:=fun i=>(TT.sz∘T) i*2) (b.map fun y:ZS H×List ZD=>y.1) len (by simpa using g) (fun i hi=>((p i (by simpa[g] using hi)).2.2 hi).1);have d:=P6 ((ZB len).map (TT.sz∘T));rw[ZQ] at d;have h3:((ZB len).map (TT.sz∘T)).sum*2<=Rows.uptoBulkAll (b.map fun y:ZS H×List ZD=>y.1):=by rw[<-d];exact h
      have:=t.sz_pos;clear h d;have hl:=MC ((ZB len).map T);rw[ZQ] at hl;refine TT.ok_mk.2 ⟨⟨a0,u,?_,?_,?_⟩,fun y hy=>?_⟩
      .simp only[Zv,ZA,Rows.uptoBulk,Rows.uptoBulkAll];omega
      .simp only[Zv,ZA,Rows.uptoBulk,Rows.uptoBulkAll];omega
      .simp only[Zv,ZA,Rows.uptoBulk,Rows.uptoBulkAll];omega
      .obtain⟨i,hi,rfl⟩:=Zz.1 hy;have e:i<len:=by simpa using hi
       have o:i<(b.map fun y:ZS H×List ZD=>y.1).length:=by simpa[g] using e
       refine TX ((p i e).2.2 o).2 ?_;have:=Sb (b.map fun y:ZS H×List ZD=>y.1) _ (Zp o);simp only[Zv,ZA,Rows.uptoBulk,Rows.uptoBulkAll];omega
set_option maxRecDepth 100000 in
theorem Vq{H:Type}{enc:TypeId×Zs->H}{b0:Nat}{spare:Nat->Bool}{held:Bool}{r:Reach}{v:Zs}{d:ZS H}{p:List ZD}(e:Value.okWide Zg W r b0 27 v)(h:DataW.Trod enc Zg W base spare held 27 v d p):
  ∃t:TT,v=.agg #[.int .i64 t.k,.int .i64 t.n,.int .i64 t.t.k,.slice t.t.a t.t.l.length t.t.c,.int .i64 t.f.k,.slice t.f.a t.f.l.length t.f.c,.slice t.a t.l.length t.c]/\t.In W/\t.sz*2<=Rows.uptoBulk d/\t.ok (Rows.uptoBulk d):=by
 obtain⟨cs,rfl,_⟩:=okWide_struct underlying27 e;obtain⟨a,c⟩:=h;obtain⟨t,g,b⟩:=WJ a _ _ c;refine⟨t,?_,b⟩;have:cs.toList=[.int .i64 t.k,.int .i64 t.n,.int .i64 t.t.k,.slice t.t.a t.t.l.length t.t.c,.int .i64 t.f.k,.slice t.f.a t.f.l.length t.f.c,.slice t.a t.l.length t.c]:=by simpa[Value.cells] using g
 rw[<-this]
end
end Go.Proofs.YtnddkmccagiclabGreatDoor
