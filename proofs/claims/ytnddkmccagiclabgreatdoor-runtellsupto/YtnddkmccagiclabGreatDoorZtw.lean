import Derived.Test.YtnddkmccagiclabGreatDoorZtj
import Derived.Test.YtnddkmccagiclabGreatDoorZtu
set_option maxRecDepth 20000
set_option maxHeartbeats 16000000
open Go.RowKit Go.Proofs.Tryz
open List renaming setIfInBounds_toArray→A,set_cons_zero→B,set_cons_succ→C,getElem_cons_zero→U,map_nil→Zg,eq_nil_of_length_eq_zero→Zh,getElem_cons_succ→Zj,length_map→Zm,map_cons→Zn,getElem_mem→Zy,mem_map→Zz,mem_cons→ZC,getElem_of_mem→ZD,map_congr_left→ZE
open Option renaming none→D,some→M
open Go.World renaming block_lt_of_cell?→F
open Go.Value renaming slice→G,int→H,agg→Zd,tuple→Zi,slice→ZB
open Go.IntKind renaming i64→I
open Go renaming cell_later→J,bodyPost_ret→Z,World→Zp,wp_region_held_drew→Zu,Calls→Zv
open Go.Act renaming put→L
open Go.Proofs.Tryz renaming results57→R,prog→Zl,underlying22→Zx
open Go.RowKit.Below renaming refl→Za
open Go.RowKit renaming Hid→Zb,Below→ZA
open Option.some renaming inj→Zc
open Go.Ending renaming returned→Ze
open Bool renaming true→Zf,false→Zk
open Nat renaming zero_add→Zo,zero_mul→Zq,add_zero→Zr,le_refl→Zt,one_mul→Zw
open Go.Obj renaming cells→Zs
namespace Go.Proofs.YtnddkmccagiclabGreatDoor
variable {Q:Nat->Prop}{W w wr:Zp}{ts:List Tr}
theorem Po{P:Program}{md:Region.Mode}{ops:Array Oper}{Q:Exit->Act->Zp->Prop}{S:Zp->Prop}{i:Nat}{o:Oper}{v:Value}{fuel:Nat}{listed:Array Bool}{a:Act}(ho:ops.toList[i]?=M o)
  (hs:Region.noSelect ops=Zf) (hf:Region.free md ops listed i=Zf) (hr:(Region.ready md ops listed).contains i=Zf)
  (hQ:∀c a w,Q (.panic c) (a.put o.dst v) w->Q (.panic c) a w) (hy:YieldsIf P ops S o v a) (hS:S w)
  (h:wpAnyH P md ops Q S fuel (listed.setIfInBounds i Zf) (a.put o.dst v) w):wpAnyH P md ops Q S (fuel+1) listed a w:=
 wpAnyH_take (i:=i) (oi:=o) (by simpa using ho) hs hf hr hQ hy hS h
theorem U2{P:Program}{md:Region.Mode}{ops:Array Oper}{Q:Exit->Act->Zp->Prop}{S:Zp->Prop}{i:Nat}{o:Oper}{fuel:Nat}{listed:Array Bool}{a:Act}(ho:ops.toList[i]?=M o)(hr:Region.ready md ops listed=[i])
  (h:∀K':Act->Zp->Prop,Shut (∀a w,S w->(S w->wpAnyH P md ops Q S fuel (listed.setIfInBounds i Zf) a w)->K' a w)->if Region.wanted o (yielded ops a.tmps)=Zf then Oper.wp P o a w K' Q else K' (a.put o.dst undef) w):wpAnyH P md ops Q S (fuel+1) listed a w:=
 wpAnyH_ready hr (by simp) (AllReadyH.cons (o:=o) (by simpa using ho) h AllReadyH.nil)
structure TL(Q:Nat->Prop)(W:Zp)(v:Value)(ts:List Tr)(wr:Zp):Prop where
 own:wr.ownsRow W.heap.size 24 2 v ts.length (cellsOf ts)
 ins:∀t,t∈ts->t.In wr/\t.Bl (fun b=>Q b/\M b≠v.ownBlock)
 low:ZA W.heap.size W wr
theorem TL.start(Q:Nat->Prop)(W:Zp):TL Q W (G D 0 0) [] W:=⟨World.ownsRow_nil _ _ _ _,fun t h=>(by cases h),Za _ _⟩
theorem TL.below{w2:Zp}{v:Value}(h:TL Q W v ts wr)(hb:ZA wr.heap.size wr w2):TL Q W v ts w2:=⟨YP h.own hb,fun t ht=>⟨(h.ins t ht).1.below hb,(h.ins t ht).2⟩,h.low.trans (hb.mono h.low.size)⟩
theorem TL.step{w2 w3:Zp}{v:Value}{t:Tr}{gg cap1:Nat}(h:TL Q W v ts wr)(g:ZA wr.heap.size wr w2)(q:t.In w2)(p:t.Bl (fun b=>Q b/\M b≠v.ownBlock))
  (l:w3.ownsRow W.heap.size 24 2 (G (M ⟨gg,0,D⟩) (ts.length+1) cap1) (ts.length+1) (cellsOf ts++[H I t.k,G t.a t.l.length t.c])) (c:w2.grownBy w3 v.ownBlock) (u:v.ownBlock=M gg\/w2.heap.size<=gg) :
  TL Q W (G (M ⟨gg,0,D⟩) (ts.length+1) cap1) (ts++[t]) w3:=by
 have s2:=g.size;have s3:=c.size;have x:=h.own.lt;have o:∀k i,k<w2.heap.size->M k≠v.ownBlock->w3.cell? ⟨k,i,D⟩=w2.cell? ⟨k,i,D⟩:=fun k i z w=>World.cell?_of_block (a:=⟨k,i,D⟩) (c.block k z w)
 have r:∀b,b<w2.heap.size->M b≠v.ownBlock->M b≠(ZB (M ⟨gg,0,D⟩) (ts.length+1) cap1).ownBlock:=fun b g w=>by
  show M b≠M gg
  rcases u with e|e
  .rw[<-e];exact w
  .simp only[ne_eq,Option.some.injEq];omega
 have j:∀d:Tr,d.In w2->d.Bl (fun b=>Q b/\M b≠v.ownBlock)->d.In w3/\d.Bl (fun b=>Q b/\M b≠(ZB (M ⟨gg,0,D⟩) (ts.length+1) cap1).ownBlock):=fun d h1 h2=>by have y:=h1.bl.and h2;exact⟨h1.congr (P:=fun b=>b<w2.heap.size/\Q b/\M b≠v.ownBlock) (fun b g i=>o b i g.1 g.2.2) y,y.mono fun b g=>⟨g.2.1,r b g.1 g.2.2⟩⟩
 refine⟨?_,?_,?_⟩
 .rw[Uz,List.length_append,List.length_singleton];exact l
 .intro d hd;rcases List.mem_append.1 hd with hd|hd
  .exact j d ((h.ins d hd).1.below g) (h.ins d hd).2
  .rcases List.mem_singleton.1 hd with rfl;exact j d q p
 .have hb3:ZA W.heap.size w2 w3:=⟨c.os,c.tape,c.output,c.size,fun k z=>c.block k (by have:=h.low.size;omega) (fun e=>by have:=(x k e.symm).1;omega)⟩
  exact(h.low.trans (g.mono h.low.size)).trans hb3
theorem TL.tree{v:Value}(h:TL Q W v ts wr):∃a c,v=G a ts.length c/\(Tr.mk 0 a c ts).In wr/\(∀y,a=M y->W.heap.size<=y.block)/\∀t,t∈ts->t.In wr/\t.Bl Q:=by
 have k:∀t,t∈ts->t.In wr/\t.Bl Q:=fun t d=>⟨(h.ins t d).1,(h.ins t d).2.mono fun b r=>r.1⟩
 rcases h.own.2 with⟨rfl,q⟩|⟨g,o,l,rfl,p,_⟩
 .have:ts=[]:=List.length_eq_zero_iff.1 q;subst this;exact⟨D,0,rfl,Tr.In_nil _ _ _ _,fun y e=>(by cases e),k⟩
 .refine⟨_,_,rfl,Tr.In_mk.2 ⟨fun j i=>⟨g,0,rfl,?_,?_⟩,fun t d=>(h.ins t d).1⟩,fun y e=>(by cases e;exact p),k⟩
  .rw[Zo,h.own.cellAt (j*2) (by omega),(Uy ts j i).1]
  .rw[Zo,h.own.cellAt (j*2+1) (by omega),(Uy ts j i).2]
theorem Ty.eta(t:Ty):t=⟨t.k,t.l⟩:=by cases t;rfl
theorem QL(x:TT)(T:List Ty):Y3 x.tm T=(Jb (x.l.map TT.tm) (Yt x.k x.t.ty T)).bind fun ts=>XA x.k x.n x.t.ty ts (Yt x.k x.t.ty T):=by obtain⟨k,n,t,f,a,c,l⟩:=x;rw[TT.tm_mk,QM]
def J5(Q:Nat->Prop)(T:Option Ty)(w:Zp)(e:Ending)(w':Zp):Prop:=∃(t:Tr)(b:Bool),e=Ze (Zi #[Zd #[H I t.k,G t.a t.l.length t.c],.bool b])/\b=T.isSome/\(∀i,T=M i->t.ty=i)/\t.In w'/\t.Bl Q/\ZA w.heap.size w w'
structure TB(x:TT)(w:Zp)(W:Zp):Prop where
 low:ZA w.heap.size w W
 at7:X4 W w.heap.size 0 x
 r0:W.cell? ⟨w.heap.size+1,0,D⟩=M (H I 0)
 r1:W.cell? ⟨w.heap.size+1,1,D⟩=M (G D 0 0)
 f0:W.frozen? ⟨w.heap.size+1,0,D⟩=Zk
 f1:W.frozen? ⟨w.heap.size+1,1,D⟩=Zk
 n0:W.cell? ⟨w.heap.size+1+1,0,D⟩=M (H I 1)
 n1:W.cell? ⟨w.heap.size+1+1,1,D⟩=M (G D 0 0)
 t0:W.cell? ⟨w.heap.size+1+1+1,0,D⟩=M (H I 2)
 t1:W.cell? ⟨w.heap.size+1+1+1,1,D⟩=M (G D 0 0)
theorem TB.lt{x:TT}(h:TB x w W):w.heap.size+1+1+1<W.heap.size:=F _ _ h.t0
theorem TB.below{x:TT}{V:Zp}(h:TB x w W)(a:ZA W.heap.size W V):TB x w V:=by have d:=h.lt;have c:∀b i,b<=w.heap.size+1+1+1->V.cell? ⟨b,i,D⟩=W.cell? ⟨b,i,D⟩:=fun b i h=>a.cell (p:=⟨b,i,D⟩) (show b<_ by omega);have f:∀b i,b<=w.heap.size+1+1+1->V.frozen? ⟨b,i,D⟩=W.frozen? ⟨b,i,D⟩:=fun b i h=>a.frozen (p:=⟨b,i,D⟩) (show b<_ by omega);exact⟨h.low.trans (a.mono h.low.size),h.at7.below a,(c _ _ (by omega)).trans h.r0,(c _ _ (by omega)).trans h.r1,(f _ _ (by omega)).trans h.f0,(f _ _ (by omega)).trans h.f1,(c _ _ (by omega)).trans h.n0,(c _ _ (by omega)).trans h.n1,(c _ _ (by omega)).trans h.t0,(c _ _ (by omega)).trans h.t1⟩
theorem Wz{T:Option Ty}{t:Tr}{z:TT}{b:Bool}(h:TB z w wr)(d:b=T.isSome)(j:∀i,T=M i->t.ty=i)(c:t.In wr)(a:t.Bl Q)(k:t.Bl (·≠w.heap.size+1)):
  J5 Q T w (Ze (Zi #[Zd #[H I t.k,G t.a t.l.length t.c],.bool b])) ((wr.setCell ⟨w.heap.size+1,0,D⟩ (H I t.k)).setCell ⟨w.heap.size+1,1,D⟩ (G t.a t.l.length t.c))/\
  ((wr.setCell ⟨w.heap.size+1,0,D⟩ (H I t.k)).setCell ⟨w.heap.size+1,1,D⟩ (G t.a t.l.length t.c)).cell? ⟨w.heap.size+1,0,D⟩=M (H I t.k)/\
  ((wr.setCell ⟨w.heap.size+1,0,D⟩ (H I t.k)).setCell ⟨w.heap.size+1,1,D⟩ (G t.a t.l.length t.c)).cell? ⟨w.heap.size+1,1,D⟩=M (G t.a t.l.length t.c):=by
 have e:=XC (u:=H I t.k) (v:=t.s) h.r0 h.r1;have g:=XV (ib:=w.heap.size+1) (io:=0) (u:=H I t.k) (v:=t.s) c (k.mono fun b d=>d);simp only[Zo] at e g;exact⟨⟨t,b,rfl,d,j,g,a,(h.low.setCell (by simp) _).setCell (by simp) _⟩,e.1,e.2⟩
theorem Vn(Q:Nat->Prop)(x:TT)(E:Tr)(w:Zp)(hx:x.In w)(hE:E.In w)(hok:JM x.tm E.l.length)(hEg:∀u,u∈E.l->Yz 4 u=Zf)(hsz:x.sz+E.l.length<=900)(xb:x.Bl Q)(eb:E.Bl Q)(nw:∀b,w.heap.size<=b->Q b)
  (ih:Zb (∀y,y∈x.l->∀(Q':Nat->Prop)(E':Tr)(W:Zp),y.In W->E'.In W->JM y.tm E'.l.length->(∀u,u∈E'.l->Yz 4 u=Zf)->y.sz+E'.l.length<=900->y.Bl Q'->E'.Bl Q'->(∀b,W.heap.size<=b->Q' b)->
   Zv Zl 57 #[Zd #[H I y.k,H I y.n,H I y.t.k,G y.t.a y.t.l.length y.t.c,H I y.f.k,G y.f.a y.f.l.length y.f.c,G y.a y.l.length y.c],G E'.a E'.l.length E'.c] W (J5 Q' (Y3 y.tm (E'.l.map Tr.ty)) W))) :
  Zv Zl 57 #[Zd #[H I x.k,H I x.n,H I x.t.k,G x.t.a x.t.l.length x.t.c,H I x.f.k,G x.f.a x.f.l.length x.f.c,G x.a x.l.length x.c],G E.a E.l.length E.c] w (J5 Q (Y3 x.tm (E.l.map Tr.ty)) w):=by
 obtain⟨i0,bo,bv,c8,c6⟩:=info_parts Tryz.info24s;obtain⟨dr,dt,cm,d5,cu,d7,cn,cq⟩:1<=x.k/\x.k<=9/\x.l.length=YA x.k/\XG x.f.ty=Zf/\Yz 4 x.t=Zf/\(UI x.k=Zk->XG x.t.ty=Zf)/\(x.k=1->0<=x.n/\x.n<(E.l.length:Int))/\∀y,y∈x.l->JM y.tm (if x.k=7 then E.l.length+1 else E.l.length):=by obtain⟨k,n,t,f,a,c,l⟩:=x;rw[TT.tm_mk] at hok;obtain⟨h0,h1⟩:=Ke.1 hok;obtain⟨a1,a2,a3,a4,a5,a6,a7⟩:=Jk h0;exact⟨a1,a2,by simpa using a3,a4,by rw[YM];exact a5,a6,a7,fun y hy=>h1 _ (Zz.2 ⟨y,hy,rfl⟩)⟩
 have dq:x.l.length<=3:=by rw[cm];unfold YA;split<;>(try split)<;>(try split)<;>omega
 obtain⟨W1,bz⟩:∃W,W=((((w.alloc (Zs #[H I x.k,H I x.n,H I x.t.k,G x.t.a x.t.l.length x.t.c,H I x.f.k,G x.f.a x.f.l.length x.f.c,G x.a x.l.length x.c] 27)).alloc (Zs #[H I 0,G D 0 0] 24)).alloc (Zs #[H I 1,G D 0 0] 24)).alloc (Zs #[H I 2,G D 0 0] 24)):=⟨_,rfl⟩
 have bt:TB x w W1:=by
  refine⟨?_,⟨?_,?_,?_,?_,?_,?_,?_⟩,?_,?_,?_,?_,?_,?_,?_,?_⟩
  .rw[bz];exact((((Za _ _).alloc (Zt _) _).alloc (by simp) _).alloc (by simp;omega) _).alloc (by simp;omega) _
  all_goals (rw[bz];simp[go_sem])
 have c7:=Yx bt;have HX:=Sl hx hE xb eb nw;have HF:=BV cu hEg hsz cq cm cn;obtain⟨Q1,d4⟩:∃Q1:Nat->Prop,Q1=fun b=>Q b/\b≠w.heap.size+1:=⟨_,rfl⟩
 have ap:Zb (x.Bl Q1/\E.Bl Q1/\(∀b,w.heap.size+1+1<=b->Q1 b)/\∀b,Q1 b->Q b/\b≠w.heap.size+1):=by subst d4;exact⟨(xb.and hx.bl).mono fun b h=>⟨h.1,by omega⟩,(eb.and hE.bl).mono fun b h=>⟨h.1,by omega⟩,fun b h=>⟨nw b (by omega),by omega⟩,fun b h=>h⟩
 obtain⟨q0,q1,q2,q3,q4,q5,q6⟩:=bt.at7;simp only[Zo] at q0 q1 q2 q3 q4 q5 q6;have ls:w.heap.size<W1.heap.size:=F _ _ q0;have b4:=hE.below bt.low;have dl:E.l.length<=900:=by omega
 clear hok hEg hsz cq d5 cu d7 cn xb eb nw hx hE bt d4 cm;go_enter func57,ntmps57;go_upto_region 4 with fail;rw[<-bz];clear bz;go_upto_if 19 with fail;go_cut [9] (fun s9 wx=>∃N:Tr,s9=N.s/\Zb (N.l.map Tr.ty=Yt x.k x.t.ty (E.l.map Tr.ty)/\N.In wx/\N.Bl Q1/\bL W1 wx/\(∀u,u∈N.l->Yz 4 u=Zf)))
 case first=>
  by_cases hk0:x.k=7
  .have HK:=Yx hk0;have bc:(x.k==7)=Zf:=by simpa using hk0
   clear hk0;rw[bc];clear bc;have af:bL W1 (W1.alloc (Zs x.t.v 24)):=(Za _ _).alloc (Zt _) _;have ax:(W1.alloc (Zs x.t.v 24)).ownsRow W1.heap.size 24 2 (G (M ⟨W1.heap.size,0,D⟩) 1 1) 1 (cellsOf [x.t]):=by have:=World.ownsRow_lit (base:=W1.heap.size) (e:=24) (size:=2) W1 x.t.v 1 (by simp) (by unfold maxLen;omega) (by simp);simpa[cellsOf] using this
   have bm:=(HX.out.1.below c7.out.low).t;by_cases h0:E.l.length=0
   .have hE0:E.l=[]:=Zh h0;have HN:Zb ([x.t].map Tr.ty=Yt x.k x.t.ty (E.l.map Tr.ty)/\(Tr.mk 0 (M ⟨W1.heap.size,0,D⟩) 1 [x.t]).In (W1.alloc (Zs #[H I x.t.k,G x.t.a x.t.l.length x.t.c] 24))/\(Tr.mk 0 (M ⟨W1.heap.size,0,D⟩) 1 [x.t]).Bl Q1/\ZA W1.heap.size W1 (W1.alloc (Zs #[H I x.t.k,G x.t.a x.t.l.length x.t.c] 24))/\(∀u,u∈[x.t]->Yz 4 u=Zf)):=by refine⟨by rw[Yt,if_pos HK.out,hE0];rfl,JO ax rfl (fun t ht=>by have:t=x.t:=(by simpa using ht);subst this;exact bm.below af) 0,?_,af,fun u hu=>by have:u=x.t:=(by simpa using hu);subst this;exact HF.out.1⟩;exact TE (ap.out.2.2.1 _ (by have:=c7.out.lt;omega)) ap.out.1.t
    clear ax af bm b4 hE0;have H0:Zb (E.l.length=0):=h0;clear h0;go_wp2_with (at_builtin;refine UR rfl _ _ _ rfl 24 i0 Zx bo W1.heap.size 1 1 rfl E.a E.c (by show ZB E.a E.l.length E.c=_;rw[H0.out]) (by omega) ?_)
    go_meet
    case rel=>exact⟨⟨0,M ⟨W1.heap.size,0,D⟩,1,[x.t]⟩,rfl,HN⟩
   .obtain⟨b,o,ea,_⟩:=b4.part 0 (by omega);have cr:=b4.below af;have be:=fun j u h=>La cr ea j u h;have cw:Zb (∀t,t∈x.t::E.l->t.In (W1.alloc (Zs #[H I x.t.k,G x.t.a x.t.l.length x.t.c] 24))/\t.Bl (·<W1.heap.size)):=by
     intro t ht;rcases ZC.1 ht with rfl|ht
     .exact⟨bm.below af,bm.bl⟩
     .obtain⟨q,hq,rfl⟩:=ZD ht;obtain⟨_,_,_,_,_,hi⟩:=b4.part q hq;exact⟨hi.below af,hi.bl⟩
    have hm:0<E.l.length:=by omega
    have HB:Zb (ZA W1.heap.size W1 (W1.alloc (Zs #[H I x.t.k,G x.t.a x.t.l.length x.t.c] 24))):=af;have d8:Zb (E.a=M ⟨b,o,D⟩):=ea;clear b4 cr ea af bm;go_wp2_with (at_builtin;refine wpList_append_lies _ rfl _ _ _ rfl W1.heap.size 24 i0 _ 2 32 Zx bo bv c8 c6 rfl (by omega) (G (M ⟨W1.heap.size,0,D⟩) 1 1) 1 (cellsOf [x.t]) rfl ax ⟨b,o,D⟩ E.l.length E.c (cellsOf E.l) (by show ZB E.a E.l.length E.c=_;rw[d8.out]) (Ux _) be (Kf _) hm (by unfold maxLen;omega) (by omega) (by simp) (W1.heap.size+1) (by simp) ?_;intro gg cap1 w3 au ak br bp)
    have hg:W1.heap.size<=gg:=by
     rcases br with h|h
     .simp[Value.ownBlock] at h;omega
     .omega
    have hsz:=ak.size;have ba:ZA W1.heap.size (W1.alloc (Zs x.t.v 24)) w3:=⟨ak.os,ak.tape,ak.output,ak.size,fun q hq=>ak.block q (by simp;omega) (by simp[Value.ownBlock];omega)⟩
    have HN:Zb ((x.t::E.l).map Tr.ty=Yt x.k x.t.ty (E.l.map Tr.ty)/\(Tr.mk 0 (M ⟨gg,0,D⟩) cap1 (x.t::E.l)).In w3/\(Tr.mk 0 (M ⟨gg,0,D⟩) cap1 (x.t::E.l)).Bl Q1/\bL W1 w3/\(∀u,u∈x.t::E.l->Yz 4 u=Zf)):=by
     refine⟨by rw[Yt,if_pos HK.out];rfl,JO (n:=1+E.l.length) (l:=x.t::E.l) (by simpa[cellsOf] using au) (by simp;omega) (fun t ht=>?_) 0,?_,HB.out.trans ba,fun u hu=>?_⟩
     .obtain⟨h1,h2⟩:=cw.out t ht;exact Tr.In.congr (P:=fun q=>q<W1.heap.size) (fun q hq o=>ba.cell (p:=⟨q,o,D⟩) hq) h2 h1
     .refine Tr.Bl_mk.2 ⟨fun _ y hy=>by cases hy;exact ap.out.2.2.1 _ (by have:=c7.out.lt;show _<=gg;omega),fun t ht=>?_⟩;rcases ZC.1 ht with rfl|ht
      .exact ap.out.1.t
      .have h:=ap.out.2.1;obtain⟨k,a,cc,l⟩:=E;exact(Tr.Bl_mk.1 h).2 t ht
     .rcases ZC.1 hu with rfl|hu
      .exact HF.out.1
      .exact HF.out.2.1 u hu
    clear au ak br bp ba ax be cw HB;go_wp2_with fail;go_meet
    case rel=>exact⟨⟨0,M ⟨gg,0,D⟩,cap1,x.t::E.l⟩,by simp[Nat.add_comm],HN⟩
  .have HK:=Yx hk0;have bc:(x.k==7)=Zk:=by simpa using hk0
   clear hk0;rw[bc];clear bc;have HN:Zb (E.l.map Tr.ty=Yt x.k x.t.ty (E.l.map Tr.ty)/\E.In W1/\E.Bl Q1/\bL W1 W1/\(∀u,u∈E.l->Yz 4 u=Zf)):=⟨by rw[Yt,if_neg HK.out],b4,ap.out.2.1,Za _ _,HF.out.2.1⟩
   go_wp2_with fail;go_meet
   case rel=>exact⟨E,rfl,HN⟩
 case rest=>
 obtain⟨N,rfl,HN⟩:=hcut;clear q0 q1 q2 q3 q4 q5 q6 ls b4 bo bv c8 c6;have b6:=Yx (c7.out.below HN.out.2.2.2.1);obtain⟨tk,ck⟩:∃tk,tk=Yt x.k x.t.ty (E.l.map Tr.ty):=⟨_,rfl⟩
 have cb:=Yx ck;have cj:Zb (N.l.map Tr.ty=tk/\N.In wc/\N.Bl Q1/\(∀u,u∈N.l->Yz 4 u=Zf)/\N.l.length=(if x.k=7 then E.l.length+1 else E.l.length)):=by refine⟨ck▸HN.out.1,HN.out.2.1,HN.out.2.2.1,HN.out.2.2.2.2,?_⟩;have:=congrArg List.length HN.out.1;rw[Zm,Xe,Zm] at this;exact this
 clear ck HN;apply_assumption;refine wp_seq_k fun Kx dk=>?_;go_cut [8] (fun s8 wx=>∃(a:Option Addr)(c:Nat)(ts:List Tr),s8=G a ts.length c/\Zb (Jb (x.l.map TT.tm) tk=M (ts.map Tr.ty)/\(Tr.mk 0 a c ts).In wx/\(∀t,t∈ts->t.In wx/\t.Bl Q1/\Yz 904 t=Zf)/\TB x w wx/\∀y,a=M y->w.heap.size+1<y.block))
 case first=>
  obtain⟨i0,bo,bv,c8,c6⟩:=info_parts Tryz.info24s;have q6:=b6.out.at7.c6;simp only[Zo] at q6;have ls:=b6.out.lt;have dj:=HX.out.1.below b6.out.low;go_wp2_with fail;go_loopg [8,28] x.l.length (fun g s8 i wr=>∃(v:Value)(j:Nat)(ts:List Tr),v=s8/\j<=x.l.length/\g=x.l.length-j/\i=H I (j:Int)/\Zb (TL Q1 wc v ts wr/\ts.length=j/\∀q(h:q<x.l.length)(h':q<ts.length),Y3 x.l[q].tm tk=M ts[q].ty/\Yz 904 ts[q]=Zf))
  case atStart=>exact⟨_,0,[],rfl,Nat.zero_le _,rfl,rfl,TL.start _ _,rfl,fun q _ h=>by simp at h⟩
  case round=>
   obtain⟨v,j,ts,hv,hj,hg,rfl,HR⟩:=hrel;subst hv;have HG:=Yx hg;clear hg;by_cases hlt:j<x.l.length
   .obtain⟨b,o,ea,⟨x0,x1,x2,x3,x4,x5,x6⟩,hxj⟩:=dj.part j hlt;have ai:=HR.out.1.low;replace x0:=J ai x0;replace x1:=J ai x1;replace x2:=J ai x2;replace x3:=J ai x3;replace x4:=J ai x4;replace x5:=J ai x5;replace x6:=J ai x6;obtain⟨y,hy⟩:∃y,y=x.l[j]:=⟨_,rfl⟩
    rw[<-hy] at x0 x1 x2 x3 x4 x5 x6 hxj;have bn:y∈x.l:=by rw[hy];exact Zy hlt
    have HY:=Un hy bn;have i1:(j:Int)<(x.l.length:Int):=by omega
    have i2:(0:Int)<=(j:Int):=by omega
    have lb:b<wr.heap.size:=F _ _ x0;have bg:=HR.out.1.own.lt;have ao:bL wr (wr.alloc (Zs y.v 27)):=(Za _ _).alloc (Zt _) _;have bx:=ai.trans (ao.mono ai.size);have HI:Zb (Zv Zl 57 #[Zd y.v,N.s] (wr.alloc (Zs y.v 27)) (J5 (fun b=>Q1 b/\M b≠v.ownBlock) (Y3 y.tm tk) (wr.alloc (Zs y.v 27)))):=by
     have aq:=cj.out;rw[<-aq.1];have dm:y.sz+1<=x.sz:=by
      have h1:=x.sz_eq;have h2:y.sz<=(x.l.map TT.sz).sum:=by
       have e:x.l[j].tm.sz<=((x.l.map TT.tm).map Tm.sz).sum:=Ji _ _ (Zz.2 ⟨_,Zy hlt,rfl⟩);rw[<-hy,<-TT.sz_tm] at e;have e2:(x.l.map TT.tm).map Tm.sz=x.l.map TT.sz:=by rw[List.map_map];exact ZE fun z _=>z.sz_tm.symm
       rwa [e2] at e
      omega
     refine ih.out y bn _ N _ (hxj.below bx) (aq.2.1.below bx) (by rw[aq.2.2.2.2];exact HF.out.2.2.2.1 y bn) aq.2.2.2.1 ?_ ?_ ?_ ?_
     .have:=HF.out.2.2.1;rw[aq.2.2.2.2];split<;>omega
     .have h1:=ap.out.1.mem bn;exact(h1.and hxj.bl).mono fun b hb=>⟨hb.1,fun e=>by have:=(bg b e.symm).1;omega⟩
     .exact(aq.2.2.1.and aq.2.1.bl).mono fun b hb=>⟨hb.1,fun e=>by have:=(bg b e.symm).1;omega⟩
     .intro b hb;simp at hb;exact⟨ap.out.2.2.1 b (by have:=ai.size;omega),fun e=>by have:=(bg b e.symm).2;omega⟩
    have da:=Yx ea;rw[ea];clear ea hxj hy bn ih;go_wp2_with fail;refine HI.out.mono ?_;rintro e w2 ⟨t,bb,rfl,bd,b3,b9,bj,dg⟩;have aw:=ao.trans (dg.mono ao.size);have b5:=(b6.out.below ai).below aw;have r0:=b5.r0;have r1:=b5.r1;have f0:=b5.f0;have f1:=b5.f1;have us:w.heap.size+1<w2.heap.size:=F _ _ r0;have un:=Nat.ne_of_lt us;have dd:w.heap.size+1≠w2.heap.size+1:=by omega
    have az:∀X Y,bL w2 ((w2.alloc X).alloc Y):=fun X Y=>((Za _ _).alloc (Zt _) _).alloc (by simp) _;have bf:∀X Y,cL ((w2.alloc X).alloc Y) (w.heap.size+1) 0 (H I 0):=fun X Y=>J (az X Y) r0;have ch:∀X Y,cL ((w2.alloc X).alloc Y) (w.heap.size+1) 1 (G D 0 0):=fun X Y=>J (az X Y) r1;have cf:∀X Y,((w2.alloc X).alloc Y).frozen? ⟨w.heap.size+1,0,D⟩=Zk:=fun X Y=>((az X Y).frozen (p:=⟨w.heap.size+1,0,D⟩) us).trans f0;have cd:∀X Y,((w2.alloc X).alloc Y).frozen? ⟨w.heap.size+1,1,D⟩=Zk:=fun X Y=>((az X Y).frozen (p:=⟨w.heap.size+1,1,D⟩) us).trans f1;cases bb with
    |false=>
     have HT:Zb (Y3 x.tm (E.l.map Tr.ty)=D):=by
      have h0:Y3 y.tm tk=D:=by
       cases h:Y3 y.tm tk with
       |none=>rfl
       |some i=>rw[h] at bd;cases bd
      rw[HY.out.1] at h0;have h1:=NU (x.l.map TT.tm) tk j (by simpa using hlt) (by simpa using h0);show _=_
      rw[QL,<-cb.out,h1];rfl
     have ae:Zb (∀V,bL w2 V->J5 Q (Y3 x.tm (E.l.map Tr.ty)) w (Ze (Zi #[Zd #[H I 0,G D 0 0],.bool Zk])) ((V.setCell ⟨w.heap.size+1,0,D⟩ (H I 0)).setCell ⟨w.heap.size+1,1,D⟩ (G D 0 0))/\ cL ((V.setCell ⟨w.heap.size+1,0,D⟩ (H I 0)).setCell ⟨w.heap.size+1,1,D⟩ (G D 0 0)) (w.heap.size+1) 0 (H I 0)/\ cL ((V.setCell ⟨w.heap.size+1,0,D⟩ (H I 0)).setCell ⟨w.heap.size+1,1,D⟩ (G D 0 0)) (w.heap.size+1) 1 (G D 0 0)):=fun V hV=>Wz (t:=Yr 0) (b5.below hV) (by rw[HT.out];rfl) (fun i hi=>by rw[HT.out] at hi;cases hi) (YB 0 V) (YG 0 _) (YG 0 _)
     clear HI bd b3 b9 bj aw b5 bx ao ai bg HR x0 x1 x2 x3 x4 x5 x6 lb;go_wp2_with (go_at_call 56;refine(UO _).mono ?_;rintro e w3 ⟨rfl,rfl⟩)
     obtain⟨h1,h2,h3⟩:=ae.out _ (az _ _);refine Z (v:=Zi #[Zd #[H I 0,G D 0 0],.bool Zk]) ?_ rfl h1;simp[results,R,go_sem,h2,h3]
    |true=>
     have bq:=Option.isSome_iff_exists.1 bd.symm;have c9:Zb (Y3 y.tm tk=M t.ty/\Yz 904 t=Zf):=by
      obtain⟨i,hi⟩:=bq;have ht:=b3 i hi;subst ht;refine⟨hi,?_⟩;rw[YM];have aq:=cj.out;have di:=HF.out.2.2.2.1 y HY.out.2;have:=Pk (by rw[<-aq.1,Zm,aq.2.2.2.2];exact di) (by intro u hu;rw[<-aq.1] at hu;obtain⟨z,hz,rfl⟩:=Zz.1 hu;rw[<-YM];exact aq.2.2.2.1 z hz) hi;refine YH _ _ _ ?_ this;have h1:=HF.out.2.2.1;have h2:y.sz<=x.sz:=by
       have h1:=x.sz_eq;have e:y.tm.sz<=((x.l.map TT.tm).map Tm.sz).sum:=Ji _ _ (Zz.2 ⟨_,HY.out.2,rfl⟩);have e2:(x.l.map TT.tm).map Tm.sz=x.l.map TT.sz:=by rw[List.map_map];exact ZE fun z _=>z.sz_tm.symm
       rw[e2,<-TT.sz_tm] at e;omega
      rw[<-TT.sz_tm];omega
     obtain⟨OT,dc⟩:∃O,O=Obj.cells t.v 24:=⟨_,rfl⟩
     have ax:=YP (YP HR.out.1.own aw) (az OT OT);have ca:=heap_alloc_new (w2.alloc OT) OT;have ac:ts.length<=3:=by have:=HR.out.2.1;omega
     have cy:Zb (∀gg cap1 w3,w3.ownsRow wc.heap.size 24 2 (G (M ⟨gg,0,D⟩) (ts.length+1) cap1) (ts.length+1) (cellsOf ts++[H I t.k,t.s])->((w2.alloc OT).alloc OT).grownBy w3 v.ownBlock->(v.ownBlock=M gg\/w2.heap.size+1+1<=gg)->TL Q1 wc (G (M ⟨gg,0,D⟩) (ts.length+1) cap1) (ts++[t]) w3):=fun gg cap1 w3 h1 h2 h3=>HR.out.1.step (aw.trans ((az OT OT).mono aw.size)) (b9.below (az OT OT)) bj h1 h2 (h3.imp id fun h=>by simpa using h)
     have ds:wc.heap.size<=w2.heap.size:=by have:=ai.size;have:=aw.size;omega
     subst dc;clear HI bd b3 b9 bj b5 bx ao ai x0 x1 x2 x3 x4 x5 x6 lb bq;go_wp2_with (at_builtin;refine wpList_append_lies _ rfl _ _ _ rfl wc.heap.size 24 i0 _ 2 32 Zx bo bv c8 c6 rfl (by omega) v ts.length (cellsOf ts) rfl ax ⟨w2.heap.size+1,0,D⟩ 1 1 [H I t.k,t.s] rfl rfl (World.news_of_block (cs:=t.v) (t:=24) (fr:=(0,0)) (by simpa using ca)) (by simp[Value.oneCell']) (by omega) (by unfold maxLen;omega) (by omega) (by simp;omega) (w2.heap.size+1+1) (by simp) ?_;intro gg cap1 w3 au ak br bp)
     have db:Zb (TL Q1 wc (G (M ⟨gg,0,D⟩) (ts.length+1) cap1) (ts++[t]) w3/\(ts++[t]).length=j+1/\∀q(h:q<x.l.length)(h':q<(ts++[t]).length),Y3 x.l[q].tm tk=M (ts++[t])[q].ty/\Yz 904 (ts++[t])[q]=Zf):=by
      refine⟨cy.out gg cap1 w3 au ak (br.imp id fun h=>by omega),by have:=HR.out.2.1;simp;omega,fun q h h'=>?_⟩;have hl:=HR.out.2.1;by_cases hq:q<ts.length
      .rw[List.getElem_append_left hq];exact HR.out.2.2 q h hq
      .have hqj:q=j:=by simp at h';omega
       subst hqj;rw[List.getElem_append_right (by omega)];simp only[show q-ts.length=0 by omega,U];have:=c9.out;rw[HY.out.1] at this;exact this
     clear au ak br bp ax ca cy HR c9 bg aw az bf ch cf cd r0 r1 f0 f1 us un dd;go_wp2_with fail;rw[<-da.out];go_roundg (x.l.length-(j+1))
     case measure=>rw[HG.out];omega
     case rel=>exact⟨_,j+1,ts++[t],rfl,by omega,rfl,by go_num,db⟩
   .have hjl:j=x.l.length:=by omega
    obtain⟨a,c,hv,b9,d9,bh⟩:=HR.out.1.tree;subst hv;have df:Zb (Jb (x.l.map TT.tm) tk=M (ts.map Tr.ty)/\(Tr.mk 0 a c ts).In wr/\(∀t,t∈ts->t.In wr/\t.Bl Q1/\Yz 904 t=Zf)/\TB x w wr/\∀y,a=M y->w.heap.size+1<y.block):=by
     refine⟨Pl _ _ _ (by rw[Zm,Zm,HR.out.2.1,hjl]) (fun q h h'=>?_),b9,fun t ht=>?_,b6.out.below HR.out.1.low,fun y hy=>by have:=d9 y hy;have:=b6.out.lt;omega⟩
     .simp only[List.getElem_map];exact(HR.out.2.2 q (by simpa using h) (by simpa using h')).1
     .obtain⟨q,hq,rfl⟩:=ZD ht;exact⟨(bh _ ht).1,(bh _ ht).2,(HR.out.2.2 q (by have:=HR.out.2.1;omega) hq).2⟩
    clear HR b9 bh;go_wp2_with fail;go_meet
    case rel=>exact⟨a,c,ts,rfl,df⟩
 case rest=>
 obtain⟨a,c,ts,rfl,HT⟩:=hcut;clear cj b6 ih;have hB:=HT.out.2.2.2.1;have d0:=hB.at7.c0;have r0:=hB.r0;have r1:=hB.r1;have f0:=hB.f0;have f1:=hB.f1;have us:=hB.lt;have ay:w.heap.size+1<wc.heap.size:=F _ _ r0;have ac:ts.length=YA x.k:=by have:=(NT HT.out.1).1;rw[Zm,Zm,HF.out.2.2.2.2.1] at this;exact this
 have HR:Zb (Y3 x.tm (E.l.map Tr.ty)=XA x.k x.n x.t.ty (ts.map Tr.ty) tk):=by
  show _=_
  rw[QL,<-cb.out,HT.out.1];rfl
 have ae:Zb (∀(V:Zp)(t:Tr)(bb:Bool),bL wc V->bb=(Y3 x.tm (E.l.map Tr.ty)).isSome->(∀i,Y3 x.tm (E.l.map Tr.ty)=M i->t.ty=i)->t.In V->t.Bl Q1->J5 Q (Y3 x.tm (E.l.map Tr.ty)) w (Ze (Zi #[Zd t.v,.bool bb])) ((V.setCell ⟨w.heap.size+1,0,D⟩ (H I t.k)).setCell ⟨w.heap.size+1,1,D⟩ (t.s))/\ cL ((V.setCell ⟨w.heap.size+1,0,D⟩ (H I t.k)).setCell ⟨w.heap.size+1,1,D⟩ (t.s)) (w.heap.size+1) 0 (H I t.k)/\ cL ((V.setCell ⟨w.heap.size+1,0,D⟩ (H I t.k)).setCell ⟨w.heap.size+1,1,D⟩ (t.s)) (w.heap.size+1) 1 (t.s)):=fun V t bb hV h1 h2 h3 h4=>Wz (t:=t) (hB.below hV) h1 h2 h3 (h4.mono fun b hb=>(ap.out.2.2.2 b hb).1) (h4.mono fun b hb=>(ap.out.2.2.2 b hb).2)
 have an:Zb (∀(V:Zp)(z:Int)(bb:Bool),bL wc V->bb=(Y3 x.tm (E.l.map Tr.ty)).isSome->(∀i,Y3 x.tm (E.l.map Tr.ty)=M i->Ty.mk z []=i)->J5 Q (Y3 x.tm (E.l.map Tr.ty)) w (Ze (Zi #[Zd #[H I z,G D 0 0],.bool bb])) ((V.setCell ⟨w.heap.size+1,0,D⟩ (H I z)).setCell ⟨w.heap.size+1,1,D⟩ (G D 0 0))/\ cL ((V.setCell ⟨w.heap.size+1,0,D⟩ (H I z)).setCell ⟨w.heap.size+1,1,D⟩ (G D 0 0)) (w.heap.size+1) 0 (H I z)/\ cL ((V.setCell ⟨w.heap.size+1,0,D⟩ (H I z)).setCell ⟨w.heap.size+1,1,D⟩ (G D 0 0)) (w.heap.size+1) 1 (G D 0 0)):=fun V z bb hV h1 h2=>ae.out V (Yr z) bb hV h1 (fun i hi=>(XS z).trans (h2 i hi)) (YB z V) (YG z _)
 have de:x.k=1\/x.k=2\/x.k=3\/x.k=4\/x.k=5\/x.k=6\/x.k=7\/x.k=8\/x.k=9:=by omega
 rcases de with hk|hk|hk|hk|hk|hk|hk|hk|hk
 ·
  obtain⟨m,hm⟩:∃m:Nat,x.n=(m:Int):=⟨x.n.toNat,by have:=HF.out.2.2.2.2.2 hk;omega⟩
  have co:m<E.l.length:=by have:=HF.out.2.2.2.2.2 hk;omega
  obtain⟨b,o,ea,e0,e1,ci⟩:=(HX.out.2.1.below hB.low).part m co
  have d1:=hB.at7.c1
  simp only[Zo] at d1
  rw[hm] at d1
  obtain⟨u,hu⟩:∃u,u=E.l[m]:=⟨_,rfl⟩
  rw[<-hu] at e0 e1 ci
  have i1:(m:Int)<(E.l.length:Int):=by omega
  have i2:(0:Int)<=(m:Int):=by omega
  have lb:b<wc.heap.size:=F _ _ e0
  have HV:Zb (Y3 x.tm (E.l.map Tr.ty)=M u.ty):=by
   have h0:ts=[]:=Zh (by rw[ac,hk];rfl);show _=_
   rw[HR.out,hk,h0,Zg,SF,cb.out,Yt,if_neg (by omega),hm,hu];simp[List.getD_eq_getElem?_getD,co]
  have ct:u.Bl Q1:=by have h:=ap.out.2.1;rw[hu];obtain⟨k,a,cc,l⟩:=E;exact(Tr.Bl_mk.1 h).2 _ (Zy _)
  have HE:Zb _:=ae.out wc u Zf (Za _ _) (by rw[HV.out];rfl) (fun i hi=>by rw[HV.out] at hi;exact Zc hi) ci ct
  rw[hk] at d0
  rw[ea]
  clear hk hm hu ac hB ae an HT HR ct ci HF
  go_wp2_with fail
  obtain⟨h1,h2,h3⟩:=HE.out
  refine Z (v:=Zi #[Zd u.v,.bool Zf]) ?_ rfl h1
  simp[results,R,go_sem,h2,h3]
 .have HV:Zb (Y3 x.tm (E.l.map Tr.ty)=M ⟨1,[]⟩):=by
   have h0:ts=[]:=Zh (by rw[ac,hk];rfl);show _=_
   rw[HR.out,hk,h0,Zg,SH]
  have n0:=hB.n0;have n1:=hB.n1;have HE:Zb _:=an.out wc 1 Zf (Za _ _) (by rw[HV.out];rfl) (fun i hi=>by rw[HV.out] at hi;exact Zc hi);rw[hk] at d0;clear hk ac hB ae an HT HR HF;go_wp2_with fail;obtain⟨h1,h2,h3⟩:=HE.out;refine Z (v:=Zi #[Zd #[H I 1,G D 0 0],.bool Zf]) ?_ rfl h1;simp[results,R,go_sem,h2,h3]
 .have HV:Zb (Y3 x.tm (E.l.map Tr.ty)=M ⟨2,[]⟩):=by
   have h0:ts=[]:=Zh (by rw[ac,hk];rfl);show _=_
   rw[HR.out,hk,h0,Zg,QX]
  have n0:=hB.t0;have n1:=hB.t1;have HE:Zb _:=an.out wc 2 Zf (Za _ _) (by rw[HV.out];rfl) (fun i hi=>by rw[HV.out] at hi;exact Zc hi);rw[hk] at d0;clear hk ac hB ae an HT HR HF;go_wp2_with fail;obtain⟨h1,h2,h3⟩:=HE.out;refine Z (v:=Zi #[Zd #[H I 2,G D 0 0],.bool Zf]) ?_ rfl h1;simp[results,R,go_sem,h2,h3]
 ·
  obtain⟨r,t1,rfl⟩:∃r t1,ts=[r,t1]:=by
   match ts,(show ts.length=2 by rw[ac,hk];rfl) with
   |[r,t1],_=>exact⟨r,t1,rfl⟩
  obtain⟨g,o,ea,c0,c1,_⟩:=HT.out.2.1.part 0 (by simp)
  obtain⟨g1,o1,aj,c2,c3,_⟩:=HT.out.2.1.part 1 (by simp)
  simp only[U,Zj,Zq,Zr,Zw] at c0 c1 c2 c3 ea aj
  rw[ea] at aj
  obtain⟨rfl,rfl⟩:g=g1/\o=o1:=by simpa using aj
  have ad:=HT.out.2.2.1 r (by simp)
  obtain⟨p0,h0,s0⟩:=YR (by omega) ad.2.2
  have am:=HT.out.2.2.1 t1 (by simp)
  obtain⟨p1,h1,s1⟩:=YR (by omega) am.2.2
  have ah:g≠w.heap.size+1:=by have:=HT.out.2.2.2.2 _ ea;simp only at this;omega
  have lb:g<wc.heap.size:=F _ _ c0
  have n0:=hB.n0
  have n1:=hB.n1
  have m0:=hB.t0
  have m1:=hB.t1
  obtain⟨b0,af⟩:∃b,b=YC Yk r.ty ⟨1,[]⟩:=⟨_,rfl⟩
  obtain⟨b1,ao⟩:∃b,b=YC Yk t1.ty ⟨1,[]⟩:=⟨_,rfl⟩
  have HV:Zb (Y3 x.tm (E.l.map Tr.ty)=if (b0&&b1)=Zf then M ⟨1,[]⟩ else D):=by
   show _=_
   rw[HR.out,hk,af,ao];simp only[Zn,Zg];rw[SG]
  have HK:Zb (∀W,Yi (w.heap.size+1) D wc W->cL W (w.heap.size+1+1) 0 (H I 1)/\cL W (w.heap.size+1+1) 1 (G D 0 0)/\cL W (w.heap.size+1+1+1) 0 (H I 2)/\cL W (w.heap.size+1+1+1) 1 (G D 0 0)/\cL W g o (H I r.k)/\cL W g (o+1) (r.s)/\cL W g (o+2) (H I t1.k)/\cL W g (o+3) (t1.s)):=fun W h=>⟨h.cell n0 (by omega),h.cell n1 (by omega),h.cell m0 (by omega),h.cell m1 (by omega),h.cell c0 ah,h.cell c1 ah,h.cell c2 ah,h.cell c3 ah⟩
  have al:Zb (∀W,bL wc W->Zv Zl 91 #[Zd r.v,Zd #[H I 1,G D 0 0]] W fun e w'=>e=Ze (.bool b0)/\bL W w'):=fun W h=>by have:=Uw 1000 r (Yr 1) W (ad.1.below h) (YB 1 W) h0 s0 p0 (Tr.right_good 1 _ rfl);rw[XS,<-af] at this;exact this
  have b2:Zb (∀W,bL wc W->Zv Zl 91 #[Zd t1.v,Zd #[H I 1,G D 0 0]] W fun e w'=>e=Ze (.bool b1)/\bL W w'):=fun W h=>by have:=Uw 1000 t1 (Yr 1) W (am.1.below h) (YB 1 W) h1 s1 p1 (Tr.right_good 1 _ rfl);rw[XS,<-ao] at this;exact this
  have HE:Zb _:=fun V hV=>an.out V 1 (b0&&b1) hV (by rw[HV.out];cases b0<;>cases b1<;>rfl) (fun i hi=>by rw[HV.out] at hi;revert hi;cases b0<;>cases b1<;>(intro hi;first|exact Zc hi|cases hi))
  have d:bL wc wc.drew:=(Za _ _).drew
  have a8:cL wc.drew (w.heap.size+1) 0 (H I 0):=r0
  have ab:cL wc.drew (w.heap.size+1) 1 (G D 0 0):=r1
  have aa:wc.drew.frozen? ⟨w.heap.size+1,0,D⟩=Zk:=f0
  have a9:wc.drew.frozen? ⟨w.heap.size+1,1,D⟩=Zk:=f1
  have a0:w.heap.size+1<wc.drew.heap.size:=ay
  rw[hk] at d0
  rw[ea]
  clear hk ac hB ae an HT HR HF ea aj p0 h0 s0 p1 h1 s1 ad am af ao HV
  cases b0 with
  |true=>
   go_upto_region 22 with fail;go_region_held3 (fun W=>cL W (w.heap.size+1+1) 0 (H I 1)/\cL W (w.heap.size+1+1) 1 (G D 0 0)/\cL W (w.heap.size+1+1+1) 0 (H I 2)/\cL W (w.heap.size+1+1+1) 1 (G D 0 0)/\cL W g o (H I r.k)/\cL W g (o+1) (r.s)/\cL W g (o+2) (H I t1.k)/\cL W g (o+3) (t1.s))
    (first|exact HK.out _ (Yi.of_below d)|exact HK.out _ (((Yi.of_below d).trans Yj).trans Yj)|fail)
    (first
     |(go_at_call 91;refine(al.out _ d).mono ?_;rintro e w2 ⟨rfl,h2⟩;replace a8:=J h2 a8;replace ab:=J h2 ab;replace aa:=(h2.frozen (p:=⟨w.heap.size+1,0,D⟩) a0).trans aa;replace a9:=(h2.frozen (p:=⟨w.heap.size+1,1,D⟩) a0).trans a9;replace a0:w.heap.size+1<w2.heap.size:=F _ _ a8;replace d:=d.trans (h2.mono d.size);clear al)
     |(go_at_call 91;refine(b2.out _ d).mono ?_;rintro e w3 ⟨rfl,h3⟩;replace a8:=J h3 a8;replace ab:=J h3 ab;replace aa:=(h3.frozen (p:=⟨w.heap.size+1,0,D⟩) a0).trans aa;replace a9:=(h3.frozen (p:=⟨w.heap.size+1,1,D⟩) a0).trans a9;replace a0:w.heap.size+1<w3.heap.size:=F _ _ a8;replace d:=d.trans (h3.mono d.size);clear b2)
     |fail)
   have HN:Zb _:=HE.out _ d;clear HE;go_wp2_with fail;obtain⟨e1,e2,e3⟩:=HN.out;refine Z (v:=Zi #[Zd #[H I 1,G D 0 0],.bool b1]) ?_ rfl e1;simp[results,R,go_sem,e2,e3]
  |false=>go_upto_region 22 with fail;refine Zu (S:=fun W=>cL W (w.heap.size+1+1) 0 (H I 1)/\cL W (w.heap.size+1+1) 1 (G D 0 0)/\cL W (w.heap.size+1+1+1) 0 (H I 2)/\cL W (w.heap.size+1+1+1) 1 (G D 0 0)/\cL W g o (H I r.k)/\cL W g (o+1) (r.s)/\cL W g (o+2) (H I t1.k)/\cL W g (o+3) (t1.s)) (by kernel_rfl) (HK.out _ (Yi.of_below d)) (fun hHeld=>?_);refine qk 0 (v:=?_) rfl (by kernel_rfl) (fun _ _ _ h=>h) (by rfl) hHeld ?_ ?_;rotate_left;(focus (intro w' h;go_split_ands;go_simp;try with_reducible rfl));simp only[L,A,B,C];refine qk 1 (v:=?_) rfl (by kernel_rfl) (fun _ _ _ h=>h) (by rfl) hHeld ?_ ?_;rotate_left;(focus (intro w' h;go_split_ands;go_simp;try with_reducible rfl));simp only[L,A,B,C];refine qk 2 (v:=?_) rfl (by kernel_rfl) (fun _ _ _ h=>h) (by rfl) hHeld ?_ ?_;rotate_left;(focus (intro w' h;go_split_ands;go_simp;try with_reducible rfl));simp only[L,A,B,C];refine qk 3 (v:=?_) rfl (by kernel_rfl) (fun _ _ _ h=>h) (by rfl) hHeld ?_ ?_;rotate_left;(focus (intro w' h;go_split_ands;go_simp;try with_reducible rfl));simp only[L,A,B,C];refine qk 4 (v:=?_) rfl (by kernel_rfl) (fun _ _ _ h=>h) (by rfl) hHeld ?_ ?_;rotate_left;(focus (intro w' h;go_split_ands;go_simp;try with_reducible rfl));simp only[L,A,B,C];refine U2 (i:=5) rfl (by kernel_rfl) (fun K hK=>?_);go_simp;go_at_call 91;refine(al.out _ d).mono ?_;rintro e w2 ⟨rfl,h2⟩;replace a8:=J h2 a8;replace ab:=J h2 ab;replace aa:=(h2.frozen (p:=⟨w.heap.size+1,0,D⟩) a0).trans aa;replace a9:=(h2.frozen (p:=⟨w.heap.size+1,1,D⟩) a0).trans a9;replace a0:w.heap.size+1<w2.heap.size:=F _ _ a8;replace d:=d.trans (h2.mono d.size);clear al h2;refine hK.out _ _ (HK.out _ (Yi.of_below d)) (fun hHeld=>?_);clear hK K;refine qk 6 (v:=?_) rfl (by kernel_rfl) (fun _ _ _ h=>h) (by rfl) hHeld ?_ ?_;rotate_left;(focus (intro w' h;go_split_ands;go_simp;try with_reducible rfl));simp only[L,A,B,C];refine qu 7 rfl (by kernel_rfl) (fun _ _ _ h=>h) hHeld ?_;simp only[L,A,B,C];refine qu 8 rfl (by kernel_rfl) (fun _ _ _ h=>h) hHeld ?_;simp only[L,A,B,C];refine qu 9 rfl (by kernel_rfl) (fun _ _ _ h=>h) hHeld ?_;simp only[L,A,B,C];refine qu 10 rfl (by kernel_rfl) (fun _ _ _ h=>h) hHeld ?_;simp only[L,A,B,C];refine qu 11 rfl (by kernel_rfl) (fun _ _ _ h=>h) hHeld ?_;simp only[L,A,B,C];refine qk 12 (v:=?_) rfl (by kernel_rfl) (fun _ _ _ h=>h) (by rfl) hHeld ?_ ?_;rotate_left;(focus (intro w' h;go_split_ands;go_simp;try with_reducible rfl));simp only[L,A,B,C];refine U2 (i:=13) rfl (by kernel_rfl) (fun K hK=>?_);go_simp;refine hK.out _ _ (HK.out _ (((Yi.of_below d).trans Yj).trans Yj)) (fun hHeld=>?_);clear hK K;refine qk 14 (v:=?_) rfl (by kernel_rfl) (fun _ _ _ h=>h) (by rfl) hHeld ?_ ?_;rotate_left;(focus (intro w' h;go_split_ands;go_simp;try with_reducible rfl));simp only[L,A,B,C];refine wpAnyH_done (by kernel_rfl) ?_ _;have HN:Zb _:=HE.out _ d;clear HE;go_wp2_with fail;obtain⟨e1,e2,e3⟩:=HN.out;refine Z (v:=Zi #[Zd #[H I 1,G D 0 0],.bool Zk]) ?_ rfl e1;simp[results,R,go_sem,e2,e3]
 ·
  obtain⟨r,t1,rfl⟩:∃r t1,ts=[r,t1]:=by
   match ts,(show ts.length=2 by rw[ac,hk];rfl) with
   |[r,t1],_=>exact⟨r,t1,rfl⟩
  obtain⟨g,o,ea,c0,c1,_⟩:=HT.out.2.1.part 0 (by simp)
  obtain⟨g1,o1,aj,c2,c3,_⟩:=HT.out.2.1.part 1 (by simp)
  simp only[U,Zj,Zq,Zr,Zw] at c0 c1 c2 c3 ea aj
  rw[ea] at aj
  obtain⟨rfl,rfl⟩:g=g1/\o=o1:=by simpa using aj
  have ad:=HT.out.2.2.1 r (by simp)
  obtain⟨p0,h0,s0⟩:=YR (by omega) ad.2.2
  have am:=HT.out.2.2.1 t1 (by simp)
  obtain⟨p1,h1,s1⟩:=YR (by omega) am.2.2
  have ah:g≠w.heap.size+1:=by have:=HT.out.2.2.2.2 _ ea;simp only at this;omega
  have lb:g<wc.heap.size:=F _ _ c0
  have n0:=hB.n0
  have n1:=hB.n1
  have m0:=hB.t0
  have m1:=hB.t1
  obtain⟨b0,af⟩:∃b,b=YC Yk r.ty ⟨1,[]⟩:=⟨_,rfl⟩
  obtain⟨b1,ao⟩:∃b,b=YC Yk t1.ty ⟨1,[]⟩:=⟨_,rfl⟩
  have HV:Zb (Y3 x.tm (E.l.map Tr.ty)=if (b0&&b1)=Zf then M ⟨2,[]⟩ else D):=by
   show _=_
   rw[HR.out,hk,af,ao];simp only[Zn,Zg];rw[QY]
  have HK:Zb (∀W,Yi (w.heap.size+1) D wc W->cL W (w.heap.size+1+1) 0 (H I 1)/\cL W (w.heap.size+1+1) 1 (G D 0 0)/\cL W (w.heap.size+1+1+1) 0 (H I 2)/\cL W (w.heap.size+1+1+1) 1 (G D 0 0)/\cL W g o (H I r.k)/\cL W g (o+1) (r.s)/\cL W g (o+2) (H I t1.k)/\cL W g (o+3) (t1.s)):=fun W h=>⟨h.cell n0 (by omega),h.cell n1 (by omega),h.cell m0 (by omega),h.cell m1 (by omega),h.cell c0 ah,h.cell c1 ah,h.cell c2 ah,h.cell c3 ah⟩
  have al:Zb (∀W,bL wc W->Zv Zl 91 #[Zd r.v,Zd #[H I 1,G D 0 0]] W fun e w'=>e=Ze (.bool b0)/\bL W w'):=fun W h=>by have:=Uw 1000 r (Yr 1) W (ad.1.below h) (YB 1 W) h0 s0 p0 (Tr.right_good 1 _ rfl);rw[XS,<-af] at this;exact this
  have b2:Zb (∀W,bL wc W->Zv Zl 91 #[Zd t1.v,Zd #[H I 1,G D 0 0]] W fun e w'=>e=Ze (.bool b1)/\bL W w'):=fun W h=>by have:=Uw 1000 t1 (Yr 1) W (am.1.below h) (YB 1 W) h1 s1 p1 (Tr.right_good 1 _ rfl);rw[XS,<-ao] at this;exact this
  have HE:Zb _:=fun V hV=>an.out V 2 (b0&&b1) hV (by rw[HV.out];cases b0<;>cases b1<;>rfl) (fun i hi=>by rw[HV.out] at hi;revert hi;cases b0<;>cases b1<;>(intro hi;first|exact Zc hi|cases hi))
  have d:bL wc wc.drew:=(Za _ _).drew
  have a8:cL wc.drew (w.heap.size+1) 0 (H I 0):=r0
  have ab:cL wc.drew (w.heap.size+1) 1 (G D 0 0):=r1
  have aa:wc.drew.frozen? ⟨w.heap.size+1,0,D⟩=Zk:=f0
  have a9:wc.drew.frozen? ⟨w.heap.size+1,1,D⟩=Zk:=f1
  have a0:w.heap.size+1<wc.drew.heap.size:=ay
  rw[hk] at d0
  rw[ea]
  clear hk ac hB ae an HT HR HF ea aj p0 h0 s0 p1 h1 s1 ad am af ao HV
  cases b0 with
  |true=>
   go_upto_region 24 with fail;go_region_held3 (fun W=>cL W (w.heap.size+1+1) 0 (H I 1)/\cL W (w.heap.size+1+1) 1 (G D 0 0)/\cL W (w.heap.size+1+1+1) 0 (H I 2)/\cL W (w.heap.size+1+1+1) 1 (G D 0 0)/\cL W g o (H I r.k)/\cL W g (o+1) (r.s)/\cL W g (o+2) (H I t1.k)/\cL W g (o+3) (t1.s))
    (first|exact HK.out _ (Yi.of_below d)|exact HK.out _ (((Yi.of_below d).trans Yj).trans Yj)|fail)
    (first
     |(go_at_call 91;refine(al.out _ d).mono ?_;rintro e w2 ⟨rfl,h2⟩;replace a8:=J h2 a8;replace ab:=J h2 ab;replace aa:=(h2.frozen (p:=⟨w.heap.size+1,0,D⟩) a0).trans aa;replace a9:=(h2.frozen (p:=⟨w.heap.size+1,1,D⟩) a0).trans a9;replace a0:w.heap.size+1<w2.heap.size:=F _ _ a8;replace d:=d.trans (h2.mono d.size);clear al)
     |(go_at_call 91;refine(b2.out _ d).mono ?_;rintro e w3 ⟨rfl,h3⟩;replace a8:=J h3 a8;replace ab:=J h3 ab;replace aa:=(h3.frozen (p:=⟨w.heap.size+1,0,D⟩) a0).trans aa;replace a9:=(h3.frozen (p:=⟨w.heap.size+1,1,D⟩) a0).trans a9;replace a0:w.heap.size+1<w3.heap.size:=F _ _ a8;replace d:=d.trans (h3.mono d.size);clear b2)
     |fail)
   have HN:Zb _:=HE.out _ d;clear HE;go_wp2_with fail;obtain⟨e1,e2,e3⟩:=HN.out;refine Z (v:=Zi #[Zd #[H I 2,G D 0 0],.bool b1]) ?_ rfl e1;simp[results,R,go_sem,e2,e3]
  |false=>go_upto_region 24 with fail;refine Zu (S:=fun W=>cL W (w.heap.size+1+1) 0 (H I 1)/\cL W (w.heap.size+1+1) 1 (G D 0 0)/\cL W (w.heap.size+1+1+1) 0 (H I 2)/\cL W (w.heap.size+1+1+1) 1 (G D 0 0)/\cL W g o (H I r.k)/\cL W g (o+1) (r.s)/\cL W g (o+2) (H I t1.k)/\cL W g (o+3) (t1.s)) (by kernel_rfl) (HK.out _ (Yi.of_below d)) (fun hHeld=>?_);refine qk 0 (v:=?_) rfl (by kernel_rfl) (fun _ _ _ h=>h) (by rfl) hHeld ?_ ?_;rotate_left;(focus (intro w' h;go_split_ands;go_simp;try with_reducible rfl));simp only[L,A,B,C];refine qk 1 (v:=?_) rfl (by kernel_rfl) (fun _ _ _ h=>h) (by rfl) hHeld ?_ ?_;rotate_left;(focus (intro w' h;go_split_ands;go_simp;try with_reducible rfl));simp only[L,A,B,C];refine qk 2 (v:=?_) rfl (by kernel_rfl) (fun _ _ _ h=>h) (by rfl) hHeld ?_ ?_;rotate_left;(focus (intro w' h;go_split_ands;go_simp;try with_reducible rfl));simp only[L,A,B,C];refine qk 3 (v:=?_) rfl (by kernel_rfl) (fun _ _ _ h=>h) (by rfl) hHeld ?_ ?_;rotate_left;(focus (intro w' h;go_split_ands;go_simp;try with_reducible rfl));simp only[L,A,B,C];refine qk 4 (v:=?_) rfl (by kernel_rfl) (fun _ _ _ h=>h) (by rfl) hHeld ?_ ?_;rotate_left;(focus (intro w' h;go_split_ands;go_simp;try with_reducible rfl));simp only[L,A,B,C];refine U2 (i:=5) rfl (by kernel_rfl) (fun K hK=>?_);go_simp;go_at_call 91;refine(al.out _ d).mono ?_;rintro e w2 ⟨rfl,h2⟩;replace a8:=J h2 a8;replace ab:=J h2 ab;replace aa:=(h2.frozen (p:=⟨w.heap.size+1,0,D⟩) a0).trans aa;replace a9:=(h2.frozen (p:=⟨w.heap.size+1,1,D⟩) a0).trans a9;replace a0:w.heap.size+1<w2.heap.size:=F _ _ a8;replace d:=d.trans (h2.mono d.size);clear al h2;refine hK.out _ _ (HK.out _ (Yi.of_below d)) (fun hHeld=>?_);clear hK K;refine qk 6 (v:=?_) rfl (by kernel_rfl) (fun _ _ _ h=>h) (by rfl) hHeld ?_ ?_;rotate_left;(focus (intro w' h;go_split_ands;go_simp;try with_reducible rfl));simp only[L,A,B,C];refine qu 7 rfl (by kernel_rfl) (fun _ _ _ h=>h) hHeld ?_;simp only[L,A,B,C];refine qu 8 rfl (by kernel_rfl) (fun _ _ _ h=>h) hHeld ?_;simp only[L,A,B,C];refine qu 9 rfl (by kernel_rfl) (fun _ _ _ h=>h) hHeld ?_;simp only[L,A,B,C];refine qu 10 rfl (by kernel_rfl) (fun _ _ _ h=>h) hHeld ?_;simp only[L,A,B,C];refine qu 11 rfl (by kernel_rfl) (fun _ _ _ h=>h) hHeld ?_;simp only[L,A,B,C];refine qk 12 (v:=?_) rfl (by kernel_rfl) (fun _ _ _ h=>h) (by rfl) hHeld ?_ ?_;rotate_left;(focus (intro w' h;go_split_ands;go_simp;try with_reducible rfl));simp only[L,A,B,C];refine U2 (i:=13) rfl (by kernel_rfl) (fun K hK=>?_);go_simp;refine hK.out _ _ (HK.out _ (((Yi.of_below d).trans Yj).trans Yj)) (fun hHeld=>?_);clear hK K;refine qk 14 (v:=?_) rfl (by kernel_rfl) (fun _ _ _ h=>h) (by rfl) hHeld ?_ ?_;rotate_left;(focus (intro w' h;go_split_ands;go_simp;try with_reducible rfl));simp only[L,A,B,C];refine wpAnyH_done (by kernel_rfl) ?_ _;have HN:Zb _:=HE.out _ d;clear HE;go_wp2_with fail;obtain⟨e1,e2,e3⟩:=HN.out;refine Z (v:=Zi #[Zd #[H I 2,G D 0 0],.bool Zk]) ?_ rfl e1;simp[results,R,go_sem,e2,e3]
 ·
  obtain⟨r,t1,t2,rfl⟩:∃r t1 t2,ts=[r,t1,t2]:=by
   match ts,(show ts.length=3 by rw[ac,hk];rfl) with
   |[r,t1,t2],_=>exact⟨r,t1,t2,rfl⟩
  obtain⟨g,o,ea,c0,c1,_⟩:=HT.out.2.1.part 0 (by simp)
  obtain⟨g1,o1,aj,c2,c3,_⟩:=HT.out.2.1.part 1 (by simp)
  obtain⟨g2,o2,bu,c4,c5,_⟩:=HT.out.2.1.part 2 (by simp)
  simp only[U,Zj,Zq,Zr,Zw] at c0 c1 c2 c3 c4 c5 ea aj bu
  rw[ea] at aj
  obtain⟨rfl,rfl⟩:g=g1/\o=o1:=by simpa using aj
  rw[ea] at bu
  obtain⟨rfl,rfl⟩:g=g2/\o=o2:=by simpa using bu
  simp only[show 2*2=4 from rfl] at c4 c5
  have ad:=HT.out.2.2.1 r (by simp)
  obtain⟨p0,h0,s0⟩:=YR (by omega) ad.2.2
  have am:=HT.out.2.2.1 t1 (by simp)
  obtain⟨p1,h1,s1⟩:=YR (by omega) am.2.2
  have bs:=HT.out.2.2.1 t2 (by simp)
  obtain⟨p2,h2,s2⟩:=YR (by omega) bs.2.2
  have ah:g≠w.heap.size+1:=by have:=HT.out.2.2.2.2 _ ea;simp only at this;omega
  have lb:g<wc.heap.size:=F _ _ c0
  have n0:=hB.n0
  have n1:=hB.n1
  have m0:=hB.t0
  have m1:=hB.t1
  obtain⟨b0,af⟩:∃b,b=YC Yk r.ty ⟨2,[]⟩:=⟨_,rfl⟩
  obtain⟨b1,ao⟩:∃b,b=YC Yk t1.ty t2.ty:=⟨_,rfl⟩
  have HV:Zb (Y3 x.tm (E.l.map Tr.ty)=if (b0&&b1)=Zf then M (Xl t1.ty t2.ty) else D):=by
   show _=_
   rw[HR.out,hk,af,ao];simp only[Zn,Zg];have y1:Ym 904 t1.ty=Zf:=by rw[<-YM];exact am.2.2
   have y2:Ym 904 t2.ty=Zf:=by rw[<-YM];exact bs.2.2
   obtain⟨j0,j1,j2,_⟩:=Jo 904 _ _ y1 y2;rw[Vy _ _ _ _ _ _ (fun _=>⟨K8 904 _ _ y1 j0 j1,K8 904 _ _ y2 j0 j2⟩)]
  have HK:Zb (∀W,Yi (w.heap.size+1) D wc W->cL W (w.heap.size+1+1) 0 (H I 1)/\cL W (w.heap.size+1+1) 1 (G D 0 0)/\cL W (w.heap.size+1+1+1) 0 (H I 2)/\cL W (w.heap.size+1+1+1) 1 (G D 0 0)/\cL W g o (H I r.k)/\cL W g (o+1) (r.s)/\cL W g (o+2) (H I t1.k)/\cL W g (o+3) (t1.s)/\cL W g (o+4) (H I t2.k)/\cL W g (o+5) (t2.s)):=fun W h=>⟨h.cell n0 (by omega),h.cell n1 (by omega),h.cell m0 (by omega),h.cell m1 (by omega),h.cell c0 ah,h.cell c1 ah,h.cell c2 ah,h.cell c3 ah,h.cell c4 ah,h.cell c5 ah⟩
  have al:Zb (∀W,bL wc W->Zv Zl 91 #[Zd r.v,Zd #[H I 2,G D 0 0]] W fun e w'=>e=Ze (.bool b0)/\bL W w'):=fun W h=>by have:=Uw 1000 r (Yr 2) W (ad.1.below h) (YB 2 W) h0 s0 p0 (Tr.right_good 1 _ rfl);rw[XS,<-af] at this;exact this
  have b2:Zb (∀W,bL wc W->Zv Zl 91 #[Zd t1.v,Zd t2.v] W fun e w'=>e=Ze (.bool b1)/\bL W w'):=fun W h=>by have:=Uw 1000 t1 t2 W (am.1.below h) (bs.1.below h) h1 s1 p1 p2;rw[<-ao] at this;exact this
  have HJ:Zb (∀W,bL wc W->Zv Zl 92 #[Zd t1.v,Zd t2.v] W fun e w'=>∃u:Tr,e=Ze (Zd u.v)/\Zb (u.ty=Xl t1.ty t2.ty/\u.Bl Q1)/\u.In w'/\bL W w'):=fun W h=>by refine(Ox 1000 t1 t2 W (am.1.below h) (bs.1.below h) p1 p2 h1).mono ?_;rintro e w' ⟨u,rfl,ht,hi,bj,hb⟩;exact⟨u,rfl,⟨ht,bj.mono fun b hb=>ap.out.2.2.1 b (by have:=h.size;omega)⟩,hi,hb⟩
  have HE:Zb (∀V(u:Tr),bL wc V->Zb (u.ty=Xl t1.ty t2.ty/\u.Bl Q1)->u.In V->_):=fun V u hV hu hi=>ae.out V u (b0&&b1) hV (by rw[HV.out];cases b0<;>cases b1<;>rfl) (fun i h=>by rw[HV.out] at h;revert h;cases b0<;>cases b1<;>(intro h;first|exact hu.out.1.trans (Zc h)|cases h)) hi hu.out.2
  have d:bL wc wc.drew:=(Za _ _).drew
  have a8:cL wc.drew (w.heap.size+1) 0 (H I 0):=r0
  have ab:cL wc.drew (w.heap.size+1) 1 (G D 0 0):=r1
  have aa:wc.drew.frozen? ⟨w.heap.size+1,0,D⟩=Zk:=f0
  have a9:wc.drew.frozen? ⟨w.heap.size+1,1,D⟩=Zk:=f1
  have a0:w.heap.size+1<wc.drew.heap.size:=ay
  rw[hk] at d0
  rw[ea]
  clear hk ac hB ae an HT HR HF ea aj bu p0 h0 s0 p1 h1 s1 p2 h2 s2 ad am bs af ao HV
  cases b0 with
  |true=>
   go_upto_region 26 with fail;go_region_held3 (fun W=>cL W (w.heap.size+1+1) 0 (H I 1)/\cL W (w.heap.size+1+1) 1 (G D 0 0)/\cL W (w.heap.size+1+1+1) 0 (H I 2)/\cL W (w.heap.size+1+1+1) 1 (G D 0 0)/\cL W g o (H I r.k)/\cL W g (o+1) (r.s)/\cL W g (o+2) (H I t1.k)/\cL W g (o+3) (t1.s)/\cL W g (o+4) (H I t2.k)/\cL W g (o+5) (t2.s))
    (first|exact HK.out _ (Yi.of_below d)|exact HK.out _ (((Yi.of_below d).trans Yj).trans Yj)|fail)
    (first
     |(go_at_call 92;refine(HJ.out _ d).mono ?_;rintro e w4 ⟨u,rfl,hu,ar,h4⟩;replace a8:=J h4 a8;replace ab:=J h4 ab;replace aa:=(h4.frozen (p:=⟨w.heap.size+1,0,D⟩) a0).trans aa;replace a9:=(h4.frozen (p:=⟨w.heap.size+1,1,D⟩) a0).trans a9;replace a0:w.heap.size+1<w4.heap.size:=F _ _ a8;replace d:=d.trans (h4.mono d.size);clear HJ)
     |(go_at_call 91;refine(al.out _ d).mono ?_;rintro e w2 ⟨rfl,h2⟩;(try (replace ar:=Tr.In.below h2 ar));replace a8:=J h2 a8;replace ab:=J h2 ab;replace aa:=(h2.frozen (p:=⟨w.heap.size+1,0,D⟩) a0).trans aa;replace a9:=(h2.frozen (p:=⟨w.heap.size+1,1,D⟩) a0).trans a9;replace a0:w.heap.size+1<w2.heap.size:=F _ _ a8;replace d:=d.trans (h2.mono d.size);clear al)
     |(go_at_call 91;refine(b2.out _ d).mono ?_;rintro e w3 ⟨rfl,h3⟩;(try (replace ar:=Tr.In.below h3 ar));replace a8:=J h3 a8;replace ab:=J h3 ab;replace aa:=(h3.frozen (p:=⟨w.heap.size+1,0,D⟩) a0).trans aa;replace a9:=(h3.frozen (p:=⟨w.heap.size+1,1,D⟩) a0).trans a9;replace a0:w.heap.size+1<w3.heap.size:=F _ _ a8;replace d:=d.trans (h3.mono d.size);clear b2)
     |fail)
   all_goals
    have HN:Zb _:=HE.out _ u d hu ar
    clear HE ar
    go_wp2_with fail
    obtain⟨e1,e2,e3⟩:=HN.out
    refine Z (v:=Zi #[Zd u.v,.bool b1]) ?_ rfl e1
    simp[results,R,go_sem,e2,e3]
  |false=>
   go_upto_region 26 with fail;refine Zu (S:=fun W=>cL W (w.heap.size+1+1) 0 (H I 1)/\cL W (w.heap.size+1+1) 1 (G D 0 0)/\cL W (w.heap.size+1+1+1) 0 (H I 2)/\cL W (w.heap.size+1+1+1) 1 (G D 0 0)/\cL W g o (H I r.k)/\cL W g (o+1) (r.s)/\cL W g (o+2) (H I t1.k)/\cL W g (o+3) (t1.s)/\cL W g (o+4) (H I t2.k)/\cL W g (o+5) (t2.s)) (by kernel_rfl) (HK.out _ (Yi.of_below d)) (fun hHeld=>?_);refine qk 0 (v:=?_) rfl (by kernel_rfl) (fun _ _ _ h=>h) (by rfl) hHeld ?_ ?_;rotate_left;(focus (intro w' h;go_split_ands;go_simp;try with_reducible rfl));simp only[L,A,B,C];refine qk 1 (v:=?_) rfl (by kernel_rfl) (fun _ _ _ h=>h) (by rfl) hHeld ?_ ?_;rotate_left;(focus (intro w' h;go_split_ands;go_simp;try with_reducible rfl));simp only[L,A,B,C];refine qk 2 (v:=?_) rfl (by kernel_rfl) (fun _ _ _ h=>h) (by rfl) hHeld ?_ ?_;rotate_left;(focus (intro w' h;go_split_ands;go_simp;try with_reducible rfl));simp only[L,A,B,C];refine qk 3 (v:=?_) rfl (by kernel_rfl) (fun _ _ _ h=>h) (by rfl) hHeld ?_ ?_;rotate_left;(focus (intro w' h;go_split_ands;go_simp;try with_reducible rfl));simp only[L,A,B,C];refine qk 4 (v:=?_) rfl (by kernel_rfl) (fun _ _ _ h=>h) (by rfl) hHeld ?_ ?_;rotate_left;(focus (intro w' h;go_split_ands;go_simp;try with_reducible rfl));simp only[L,A,B,C];refine qk 5 (v:=?_) rfl (by kernel_rfl) (fun _ _ _ h=>h) (by rfl) hHeld ?_ ?_;rotate_left;(focus (intro w' h;go_split_ands;go_simp;try with_reducible rfl));simp only[L,A,B,C];refine qk 7 (v:=?_) rfl (by kernel_rfl) (fun _ _ _ h=>h) (by rfl) hHeld ?_ ?_;rotate_left;(focus (intro w' h;go_split_ands;go_simp;try with_reducible rfl));simp only[L,A,B,C];refine qk 8 (v:=?_) rfl (by kernel_rfl) (fun _ _ _ h=>h) (by rfl) hHeld ?_ ?_;rotate_left;(focus (intro w' h;go_split_ands;go_simp;try with_reducible rfl));simp only[L,A,B,C];refine qk 9 (v:=?_) rfl (by kernel_rfl) (fun _ _ _ h=>h) (by rfl) hHeld ?_ ?_;rotate_left;(focus (intro w' h;go_split_ands;go_simp;try with_reducible rfl));simp only[L,A,B,C];refine qk 10 (v:=?_) rfl (by kernel_rfl) (fun _ _ _ h=>h) (by rfl) hHeld ?_ ?_;rotate_left;(focus (intro w' h;go_split_ands;go_simp;try with_reducible rfl));simp only[L,A,B,C];refine U2 (i:=6) rfl (by kernel_rfl) (fun K hK=>?_);go_simp;go_at_call 92;refine(HJ.out _ d).mono ?_;rintro e w4 ⟨u,rfl,hu,ar,h4⟩;replace a8:=J h4 a8;replace ab:=J h4 ab;replace aa:=(h4.frozen (p:=⟨w.heap.size+1,0,D⟩) a0).trans aa;replace a9:=(h4.frozen (p:=⟨w.heap.size+1,1,D⟩) a0).trans a9;replace a0:w.heap.size+1<w4.heap.size:=F _ _ a8;replace d:=d.trans (h4.mono d.size);clear HJ h4;refine hK.out _ _ (HK.out _ (Yi.of_below d)) (fun hHeld=>?_);clear hK K;refine U2 (i:=11) rfl (by kernel_rfl) (fun K hK=>?_);go_simp;go_at_call 91;refine(al.out _ d).mono ?_;rintro e w2 ⟨rfl,h2⟩;(try (replace ar:=Tr.In.below h2 ar))
   replace a8:=J h2 a8;replace ab:=J h2 ab;replace aa:=(h2.frozen (p:=⟨w.heap.size+1,0,D⟩) a0).trans aa;replace a9:=(h2.frozen (p:=⟨w.heap.size+1,1,D⟩) a0).trans a9;replace a0:w.heap.size+1<w2.heap.size:=F _ _ a8;replace d:=d.trans (h2.mono d.size);clear al h2;refine hK.out _ _ (HK.out _ (Yi.of_below d)) (fun hHeld=>?_);clear hK K;refine qk 12 (v:=?_) rfl (by kernel_rfl) (fun _ _ _ h=>h) (by rfl) hHeld ?_ ?_;rotate_left;(focus (intro w' h;go_split_ands;go_simp;try with_reducible rfl));simp only[L,A,B,C];refine qu 13 rfl (by kernel_rfl) (fun _ _ _ h=>h) hHeld ?_;simp only[L,A,B,C];refine qu 14 rfl (by kernel_rfl) (fun _ _ _ h=>h) hHeld ?_;simp only[L,A,B,C];refine qu 15 rfl (by kernel_rfl) (fun _ _ _ h=>h) hHeld ?_;simp only[L,A,B,C];refine qu 16 rfl (by kernel_rfl) (fun _ _ _ h=>h) hHeld ?_;simp only[L,A,B,C];refine qu 17 rfl (by kernel_rfl) (fun _ _ _ h=>h) hHeld ?_;simp only[L,A,B,C];refine qu 18 rfl (by kernel_rfl) (fun _ _ _ h=>h) hHeld ?_;simp only[L,A,B,C];refine qu 19 rfl (by kernel_rfl) (fun _ _ _ h=>h) hHeld ?_;simp only[L,A,B,C];refine qk 20 (v:=?_) rfl (by kernel_rfl) (fun _ _ _ h=>h) (by rfl) hHeld ?_ ?_;rotate_left;(focus (intro w' h;go_split_ands;go_simp;try with_reducible rfl));simp only[L,A,B,C];refine U2 (i:=21) rfl (by kernel_rfl) (fun K hK=>?_);go_simp;refine hK.out _ _ (HK.out _ (((Yi.of_below d).trans Yj).trans Yj)) (fun hHeld=>?_);clear hK K;refine qk 22 (v:=?_) rfl (by kernel_rfl) (fun _ _ _ h=>h) (by rfl) hHeld ?_ ?_;rotate_left;(focus (intro w' h;go_split_ands;go_simp;try with_reducible rfl));simp only[L,A,B,C];refine wpAnyH_done (by kernel_rfl) ?_ _;have HN:Zb _:=HE.out _ u d hu ar;clear HE ar;go_wp2_with fail;obtain⟨e1,e2,e3⟩:=HN.out;refine Z (v:=Zi #[Zd u.v,.bool Zk]) ?_ rfl e1;simp[results,R,go_sem,e2,e3]
 ·
  obtain⟨r,rfl⟩:∃r,ts=[r]:=by
   match ts,(show ts.length=1 by rw[ac,hk];rfl) with
   |[r],_=>exact⟨r,rfl⟩
  obtain⟨g,o,ea,c0,c1,_⟩:=HT.out.2.1.part 0 (by simp)
  simp only[U,Zq,Zr] at c0 c1 ea
  have ad:=HT.out.2.2.1 r (by simp)
  obtain⟨p0,h0,s0⟩:=YR (by omega) ad.2.2
  have ah:g≠w.heap.size+1:=by have:=HT.out.2.2.2.2 _ ea;simp only at this;omega
  have lb:g<wc.heap.size:=F _ _ c0
  have n0:=hB.n0
  have n1:=hB.n1
  have m0:=hB.t0
  have m1:=hB.t1
  have d2:=hB.at7.c2
  have d3:=hB.at7.c3
  simp only[Zo] at d2 d3
  have b8:=(HX.out.1.below hB.low).t
  have HV:Zb (Y3 x.tm (E.l.map Tr.ty)=M ⟨3,[x.t.ty,r.ty]⟩):=by
   show _=_
   rw[HR.out,hk];simp only[Zn,Zg];rw[Vz _ _ _ _ (JS 904 _ (by rw[<-YM];exact ad.2.2))]
  have HJ:Zb (∀W,bL wc W->Zv Zl 93 #[Zd x.t.v,Zd r.v] W fun e w'=>∃gg,e=Ze (Zd #[H I 3,G (M ⟨gg,0,D⟩) 2 2])/\Zb ((Tr.mk 3 (M ⟨gg,0,D⟩) 2 [x.t,r]).In w'/\(Tr.mk 3 (M ⟨gg,0,D⟩) 2 [x.t,r]).Bl Q1)/\bL W w'):=fun W h=>by refine(Qs x.t r W (b8.below h) (ad.1.below h)).mono ?_;rintro e w' ⟨gg,dn,rfl,hi,hb⟩;exact⟨gg,rfl,⟨hi,Tr.Bl_two (ap.out.2.2.1 gg (by have:=h.size;omega)) ap.out.1.t ad.2.1⟩,hb⟩
  have HE:Zb (∀V(gg:Nat),bL wc V->Zb ((Tr.mk 3 (M ⟨gg,0,D⟩) 2 [x.t,r]).In V/\(Tr.mk 3 (M ⟨gg,0,D⟩) 2 [x.t,r]).Bl Q1)->J5 Q (Y3 x.tm (E.l.map Tr.ty)) w (Ze (Zi #[Zd #[H I 3,G (M ⟨gg,0,D⟩) 2 2],.bool Zf])) ((V.setCell ⟨w.heap.size+1,0,D⟩ (H I 3)).setCell ⟨w.heap.size+1,1,D⟩ (G (M ⟨gg,0,D⟩) 2 2))/\ cL ((V.setCell ⟨w.heap.size+1,0,D⟩ (H I 3)).setCell ⟨w.heap.size+1,1,D⟩ (G (M ⟨gg,0,D⟩) 2 2)) (w.heap.size+1) 0 (H I 3)/\ cL ((V.setCell ⟨w.heap.size+1,0,D⟩ (H I 3)).setCell ⟨w.heap.size+1,1,D⟩ (G (M ⟨gg,0,D⟩) 2 2)) (w.heap.size+1) 1 (G (M ⟨gg,0,D⟩) 2 2)):=fun V gg hV hu=>ae.out V (Tr.mk 3 (M ⟨gg,0,D⟩) 2 [x.t,r]) Zf hV (by rw[HV.out];rfl) (fun i h=>by rw[HV.out] at h;rw[<-Zc h,Tr.ty_mk];rfl) hu.out.1 hu.out.2
  have HK:Zb (∀W,Yi (w.heap.size+1) D wc W->cL W (w.heap.size+1+1) 0 (H I 1)/\cL W (w.heap.size+1+1) 1 (G D 0 0)/\cL W (w.heap.size+1+1+1) 0 (H I 2)/\cL W (w.heap.size+1+1+1) 1 (G D 0 0)/\cL W g o (H I r.k)/\cL W g (o+1) (r.s)/\cL W w.heap.size 2 (H I x.t.k)/\cL W w.heap.size 3 (x.t.s)):=fun W h=>⟨h.cell n0 (by omega),h.cell n1 (by omega),h.cell m0 (by omega),h.cell m1 (by omega),h.cell c0 ah,h.cell c1 ah,h.cell d2 (by omega),h.cell d3 (by omega)⟩
  have d:bL wc wc.drew:=(Za _ _).drew
  have a8:cL wc.drew (w.heap.size+1) 0 (H I 0):=r0
  have ab:cL wc.drew (w.heap.size+1) 1 (G D 0 0):=r1
  have aa:wc.drew.frozen? ⟨w.heap.size+1,0,D⟩=Zk:=f0
  have a9:wc.drew.frozen? ⟨w.heap.size+1,1,D⟩=Zk:=f1
  have a0:w.heap.size+1<wc.drew.heap.size:=ay
  rw[hk] at d0
  rw[ea]
  clear hk ac hB ae an HT HR HF ea p0 h0 s0 ad HV b8
  go_upto_region 28 with fail
  go_region_held3 (fun W=>cL W (w.heap.size+1+1) 0 (H I 1)/\cL W (w.heap.size+1+1) 1 (G D 0 0)/\cL W (w.heap.size+1+1+1) 0 (H I 2)/\cL W (w.heap.size+1+1+1) 1 (G D 0 0)/\cL W g o (H I r.k)/\cL W g (o+1) (r.s)/\cL W w.heap.size 2 (H I x.t.k)/\cL W w.heap.size 3 (x.t.s))
   (first|exact HK.out _ (Yi.of_below d)|exact HK.out _ (((Yi.of_below d).trans Yj).trans Yj)|fail)
   (first
    |(go_at_call 93;refine(HJ.out _ d).mono ?_;rintro e w4 ⟨gg,rfl,hu,h4⟩;replace a8:=J h4 a8;replace ab:=J h4 ab;replace aa:=(h4.frozen (p:=⟨w.heap.size+1,0,D⟩) a0).trans aa;replace a9:=(h4.frozen (p:=⟨w.heap.size+1,1,D⟩) a0).trans a9;replace a0:w.heap.size+1<w4.heap.size:=F _ _ a8;replace d:=d.trans (h4.mono d.size);clear HJ)
    |fail)
  have HN:Zb _:=HE.out _ gg d hu
  clear HE
  go_wp2_with fail
  obtain⟨e1,e2,e3⟩:=HN.out
  refine Z (v:=Zi #[Zd #[H I 3,G (M ⟨gg,0,D⟩) 2 2],.bool Zf]) ?_ rfl e1
  simp[results,R,go_sem,e2,e3]
 ·
  obtain⟨r,t1,rfl⟩:∃r t1,ts=[r,t1]:=by
   match ts,(show ts.length=2 by rw[ac,hk];rfl) with
   |[r,t1],_=>exact⟨r,t1,rfl⟩
  obtain⟨g,o,ea,c0,c1,_⟩:=HT.out.2.1.part 0 (by simp)
  obtain⟨g1,o1,aj,c2,c3,_⟩:=HT.out.2.1.part 1 (by simp)
  simp only[U,Zj,Zq,Zr,Zw] at c0 c1 c2 c3 ea aj
  rw[ea] at aj
  obtain⟨rfl,rfl⟩:g=g1/\o=o1:=by simpa using aj
  have ad:=HT.out.2.2.1 r (by simp)
  obtain⟨p0,h0,s0⟩:=YR (by omega) ad.2.2
  have am:=HT.out.2.2.1 t1 (by simp)
  obtain⟨p1,h1,s1⟩:=YR (by omega) am.2.2
  have ah:g≠w.heap.size+1:=by have:=HT.out.2.2.2.2 _ ea;simp only at this;omega
  have lb:g<wc.heap.size:=F _ _ c0
  have n0:=hB.n0
  have n1:=hB.n1
  have m0:=hB.t0
  have m1:=hB.t1
  by_cases hz:r.k=0
  .have HV:Zb (Y3 x.tm (E.l.map Tr.ty)=M ⟨0,[]⟩):=by
    show _=_
    rw[HR.out,hk];simp only[Zn,Zg];have e:r.ty=⟨0,r.ty.l⟩:=by have:=Ty.eta r.ty;rw[Tr.ty_k,hz] at this;exact this
    rw[e,SJ]
   have HE:Zb _:=fun V hV=>an.out V 0 Zf hV (by rw[HV.out];rfl) (fun i hi=>by rw[HV.out] at hi;exact Zc hi);rw[hz] at c0;rw[hk] at d0;rw[ea];clear hk ac hB ae an HT HR HF ea aj p0 h0 s0 p1 h1 s1 ad am HV hz;go_wp2_with (go_at_call 56;refine(UO _).mono ?_;rintro e w3 ⟨rfl,bk⟩;have av:bL wc w3:=(by rw[bk];exact(Za _ _).alloc (Zt _) _);clear bk;have bf:=J av r0;have ch:=J av r1;have cf:=(av.frozen (p:=⟨w.heap.size+1,0,D⟩) ay).trans f0;have cd:=(av.frozen (p:=⟨w.heap.size+1,1,D⟩) ay).trans f1;have dh:w.heap.size+1<w3.heap.size:=F _ _ bf)
   have HN:Zb _:=HE.out _ av;clear HE;obtain⟨e1,e2,e3⟩:=HN.out;refine Z (v:=Zi #[Zd #[H I 0,G D 0 0],.bool Zf]) ?_ rfl e1;simp[results,R,go_sem,e2,e3]
  .have hz':(r.k==0)=Zk:=by simpa using hz
   by_cases h3:r.k=3
   .obtain⟨u,v,hl⟩:∃u v,r.l=[u,v]:=by
     rcases p0.cases with⟨_,hk⟩|⟨u,v,hl,_⟩
     .omega
     .exact⟨u,v,hl⟩
    obtain⟨g2,o2,eb,y0,y1,ce⟩:=ad.1.part 0 (by simp[hl]);obtain⟨g3,o3,cg,y2,y3,cl⟩:=ad.1.part 1 (by simp[hl]);rw[eb] at cg;obtain⟨rfl,rfl⟩:g2=g3/\o2=o3:=by simpa using cg
    simp only[hl,U,Zj,Zq,Zr,Zw] at y0 y1 y2 y3 ce cl;have cx:u.right:=by have:=p0.part 0 (by simp[hl]);simpa[hl] using this
    have d6:v.right:=by have:=p0.part 1 (by simp[hl]);simpa[hl] using this
    have cz:∀z,z∈r.l->z.Bl Q1:=by have h:=ad.2.1;obtain⟨k,a,c,l⟩:=r;exact(Tr.Bl_mk.1 h).2
    have b7:g2≠w.heap.size+1:=by have h:=ad.2.1;obtain⟨k,a,c,l⟩:=r;simp only at eb hl;have:=(Tr.Bl_mk.1 h).1 (by rw[hl];simp) _ eb;exact(ap.out.2.2.2 _ this).2
    have b3:r.ty=⟨3,[u.ty,v.ty]⟩:=by obtain⟨k,a,c,l⟩:=r;simp only at h3 hl;subst h3 hl;rw[Tr.ty_mk];rfl
    have bi:r.l.length=2:=by rw[hl];rfl
    obtain⟨b0,af⟩:∃b,b=YC Yk t1.ty u.ty:=⟨_,rfl⟩
    have HV:Zb (Y3 x.tm (E.l.map Tr.ty)=if b0=Zf then M v.ty else D):=by
     show _=_
     rw[HR.out,hk,af];simp only[Zn,Zg];rw[b3,QZ _ _ _ _ _ _ (by rw[<-b3];exact JS 904 _ (by rw[<-YM];exact ad.2.2))]
    have al:Zb (∀W,bL wc W->Zv Zl 91 #[Zd t1.v,Zd u.v] W fun e w'=>e=Ze (.bool b0)/\bL W w'):=fun W h=>by have:=Uw 1000 t1 u W (am.1.below h) (ce.below h) h1 s1 p1 cx;rw[<-af] at this;exact this
    have HE:Zb (∀V,bL wc V->_):=fun V hV=>ae.out V v b0 hV (by rw[HV.out];cases b0<;>rfl) (fun i h=>by rw[HV.out] at h;revert h;cases b0<;>(intro h;first|exact Zc h|cases h)) (cl.below hV) (cz v (by rw[hl];simp));have dp:g2<wc.heap.size:=F _ _ y0;rw[h3] at c0;rw[eb,bi] at c1;have HK:Zb (∀W,Yi (w.heap.size+1) D wc W->cL W (w.heap.size+1+1) 0 (H I 1)/\cL W (w.heap.size+1+1) 1 (G D 0 0)/\cL W (w.heap.size+1+1+1) 0 (H I 2)/\cL W (w.heap.size+1+1+1) 1 (G D 0 0)/\cL W g o (H I 3)/\cL W g (o+1) (G (M ⟨g2,o2,D⟩) 2 r.c)/\cL W g (o+2) (H I t1.k)/\cL W g (o+3) (t1.s)/\cL W g2 o2 (H I u.k)/\cL W g2 (o2+1) (u.s)/\cL W g2 (o2+2) (H I v.k)/\cL W g2 (o2+3) (v.s)):=fun W h=>⟨h.cell n0 (by omega),h.cell n1 (by omega),h.cell m0 (by omega),h.cell m1 (by omega),h.cell c0 ah,h.cell c1 ah,h.cell c2 ah,h.cell c3 ah,h.cell y0 b7,h.cell y1 b7,h.cell y2 b7,h.cell y3 b7⟩
    have d:bL wc wc.drew:=(Za _ _).drew;have a8:cL wc.drew (w.heap.size+1) 0 (H I 0):=r0;have ab:cL wc.drew (w.heap.size+1) 1 (G D 0 0):=r1;have aa:wc.drew.frozen? ⟨w.heap.size+1,0,D⟩=Zk:=f0;have a9:wc.drew.frozen? ⟨w.heap.size+1,1,D⟩=Zk:=f1;have a0:w.heap.size+1<wc.drew.heap.size:=ay;rw[hk] at d0;rw[ea];clear hk ac hB ae an HT HR HF ea aj p0 h0 s0 p1 h1 s1 ad am HV hz hz' h3 hl ce cl cx d6 cz b3 af eb cg bi;go_upto_region 34 with fail;go_region_held3 (fun W=>cL W (w.heap.size+1+1) 0 (H I 1)/\cL W (w.heap.size+1+1) 1 (G D 0 0)/\cL W (w.heap.size+1+1+1) 0 (H I 2)/\cL W (w.heap.size+1+1+1) 1 (G D 0 0)/\cL W g o (H I 3)/\cL W g (o+1) (G (M ⟨g2,o2,D⟩) 2 r.c)/\cL W g (o+2) (H I t1.k)/\cL W g (o+3) (t1.s)/\cL W g2 o2 (H I u.k)/\cL W g2 (o2+1) (u.s)/\cL W g2 (o2+2) (H I v.k)/\cL W g2 (o2+3) (v.s))
     (first|exact HK.out _ (Yi.of_below d)|exact HK.out _ (((Yi.of_below d).trans Yj).trans Yj)|fail)
     (first
      |(go_at_call 91;refine(al.out _ d).mono ?_;rintro e w2 ⟨rfl,h2⟩;replace a8:=J h2 a8;replace ab:=J h2 ab;replace aa:=(h2.frozen (p:=⟨w.heap.size+1,0,D⟩) a0).trans aa;replace a9:=(h2.frozen (p:=⟨w.heap.size+1,1,D⟩) a0).trans a9;replace a0:w.heap.size+1<w2.heap.size:=F _ _ a8;replace d:=d.trans (h2.mono d.size);clear al)
      |fail)
    have HN:Zb _:=HE.out _ d;clear HE;go_wp2_with fail;obtain⟨e1,e2,e3⟩:=HN.out;refine Z (v:=Zi #[Zd v.v,.bool b0]) ?_ rfl e1;simp[results,R,go_sem,e2,e3]
   .have h3':(r.k != 3)=Zf:=by simpa using h3
    have HV:Zb (Y3 x.tm (E.l.map Tr.ty)=D):=by
     show _=_
     rw[HR.out,hk];simp only[Zn,Zg];have e:r.ty=⟨r.k,r.ty.l⟩:=by have:=Ty.eta r.ty;rw[Tr.ty_k] at this;exact this
     rw[e,Qc _ _ _ _ _ _ hz h3]
    have HE:Zb _:=fun V hV=>an.out V 0 Zk hV (by rw[HV.out];rfl) (fun i hi=>by rw[HV.out] at hi;cases hi);rw[hk] at d0;rw[ea];clear hk ac hB ae an HT HR HF ea aj p0 h0 s0 p1 h1 s1 ad am HV hz h3;go_wp2_with (go_at_call 56;refine(UO _).mono ?_;rintro e w3 ⟨rfl,bk⟩;have av:bL wc w3:=(by rw[bk];exact(Za _ _).alloc (Zt _) _);clear bk;have bf:=J av r0;have ch:=J av r1;have cf:=(av.frozen (p:=⟨w.heap.size+1,0,D⟩) ay).trans f0;have cd:=(av.frozen (p:=⟨w.heap.size+1,1,D⟩) ay).trans f1;have dh:w.heap.size+1<w3.heap.size:=F _ _ bf)
    have HN:Zb _:=HE.out _ av;clear HE;obtain⟨e1,e2,e3⟩:=HN.out;refine Z (v:=Zi #[Zd #[H I 0,G D 0 0],.bool Zk]) ?_ rfl e1;simp[results,R,go_sem,e2,e3]
 ·
  obtain⟨r,rfl⟩:∃r,ts=[r]:=by
   match ts,(show ts.length=1 by rw[ac,hk];rfl) with
   |[r],_=>exact⟨r,rfl⟩
  obtain⟨g,o,ea,c0,c1,_⟩:=HT.out.2.1.part 0 (by simp)
  simp only[U,Zq,Zr] at c0 c1 ea
  have ad:=HT.out.2.2.1 r (by simp)
  obtain⟨p0,h0,s0⟩:=YR (by omega) ad.2.2
  have ah:g≠w.heap.size+1:=by have:=HT.out.2.2.2.2 _ ea;simp only at this;omega
  have lb:g<wc.heap.size:=F _ _ c0
  have n0:=hB.n0
  have n1:=hB.n1
  have m0:=hB.t0
  have m1:=hB.t1
  have d2:=hB.at7.c2
  have d3:=hB.at7.c3
  simp only[Zo] at d2 d3
  have b8:=(HX.out.1.below hB.low).t
  obtain⟨b0,af⟩:∃b,b=YC Yk r.ty x.t.ty:=⟨_,rfl⟩
  have HV:Zb (Y3 x.tm (E.l.map Tr.ty)=if b0=Zf then M x.t.ty else D):=by
   show _=_
   rw[HR.out,hk,af];simp only[Zn,Zg];rw[VA]
  have al:Zb (∀W,bL wc W->Zv Zl 91 #[Zd r.v,Zd x.t.v] W fun e w'=>e=Ze (.bool b0)/\bL W w'):=fun W h=>by have:=Uw 1000 r x.t W (ad.1.below h) (b8.below h) h0 s0 p0 (Tr.right_good 4 _ HF.out.1);rw[<-af] at this;exact this
  have HE:Zb (∀V,bL wc V->_):=fun V hV=>ae.out V x.t b0 hV (by rw[HV.out];cases b0<;>rfl) (fun i h=>by rw[HV.out] at h;revert h;cases b0<;>(intro h;first|exact Zc h|cases h)) (b8.below hV) ap.out.1.t
  have HK:Zb (∀W,Yi (w.heap.size+1) D wc W->cL W (w.heap.size+1+1) 0 (H I 1)/\cL W (w.heap.size+1+1) 1 (G D 0 0)/\cL W (w.heap.size+1+1+1) 0 (H I 2)/\cL W (w.heap.size+1+1+1) 1 (G D 0 0)/\cL W g o (H I r.k)/\cL W g (o+1) (r.s)/\cL W w.heap.size 2 (H I x.t.k)/\cL W w.heap.size 3 (x.t.s)):=fun W h=>⟨h.cell n0 (by omega),h.cell n1 (by omega),h.cell m0 (by omega),h.cell m1 (by omega),h.cell c0 ah,h.cell c1 ah,h.cell d2 (by omega),h.cell d3 (by omega)⟩
  have d:bL wc wc.drew:=(Za _ _).drew
  have a8:cL wc.drew (w.heap.size+1) 0 (H I 0):=r0
  have ab:cL wc.drew (w.heap.size+1) 1 (G D 0 0):=r1
  have aa:wc.drew.frozen? ⟨w.heap.size+1,0,D⟩=Zk:=f0
  have a9:wc.drew.frozen? ⟨w.heap.size+1,1,D⟩=Zk:=f1
  have a0:w.heap.size+1<wc.drew.heap.size:=ay
  rw[hk] at d0
  rw[ea]
  clear hk ac hB ae an HT HR HF ea p0 h0 s0 ad HV b8 af
  go_upto_region 35 with fail
  go_region_held3 (fun W=>cL W (w.heap.size+1+1) 0 (H I 1)/\cL W (w.heap.size+1+1) 1 (G D 0 0)/\cL W (w.heap.size+1+1+1) 0 (H I 2)/\cL W (w.heap.size+1+1+1) 1 (G D 0 0)/\cL W g o (H I r.k)/\cL W g (o+1) (r.s)/\cL W w.heap.size 2 (H I x.t.k)/\cL W w.heap.size 3 (x.t.s))
   (first|exact HK.out _ (Yi.of_below d)|exact HK.out _ (((Yi.of_below d).trans Yj).trans Yj)|fail)
   (first
    |(go_at_call 91;refine(al.out _ d).mono ?_;rintro e w2 ⟨rfl,h2⟩;replace a8:=J h2 a8;replace ab:=J h2 ab;replace aa:=(h2.frozen (p:=⟨w.heap.size+1,0,D⟩) a0).trans aa;replace a9:=(h2.frozen (p:=⟨w.heap.size+1,1,D⟩) a0).trans a9;replace a0:w.heap.size+1<w2.heap.size:=F _ _ a8;replace d:=d.trans (h2.mono d.size);clear al)
    |fail)
  have HN:Zb _:=HE.out _ d
  clear HE
  go_wp2_with fail
  obtain⟨e1,e2,e3⟩:=HN.out
  refine Z (v:=Zi #[Zd x.t.v,.bool b0]) ?_ rfl e1
  simp[results,R,go_sem,e2,e3]
end Go.Proofs.YtnddkmccagiclabGreatDoor
