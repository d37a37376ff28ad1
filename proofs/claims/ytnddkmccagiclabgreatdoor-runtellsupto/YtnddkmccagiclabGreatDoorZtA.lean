import Derived.Test.YtnddkmccagiclabGreatDoorZtx
set_option maxRecDepth 20000
set_option maxHeartbeats 16000000
open Go.RowKit Go.Proofs.Tryz
open List renaming setIfInBounds_toArray→A,set_cons_zero→B,set_cons_succ→C
open Go.Value renaming int→D,slice→U,pointer→Y
open Go.IntKind renaming i64→G
open Nat renaming le_refl→H,zero_add→Za
open Option renaming none→I,some→Zb
open Go.Act renaming put→J
open Go.Proofs.Tryz renaming results59→L,prog→P
open Go.RowKit.Below renaming refl→N
open Go renaming bodyPost_ret→O,wpAnyH_done→X,World→Zc
open Go.RowKit renaming Hid→T
open Go.Obj renaming cells→Z
open Bool renaming false→Zd,true→Ze
namespace Go.Proofs.YtnddkmccagiclabGreatDoor
theorem Th.In.nums{m:Bool}{M R:Nat}{Q:Nat->Prop}{w:Zc}{h:Th}(hi:h.In m M R Q w)(a:h.k=1):-1000000<=h.n/\h.n<=1000000:=by
 rcases Th.In_iff.1 hi with⟨_,p⟩|⟨_,c,_⟩|⟨_,_,⟨v,p⟩,_⟩
 .exact p.nb
 .have:=c.k;omega
 .have:=p.k;omega
theorem Th.In.fns{m:Bool}{M R:Nat}{Q:Nat->Prop}{w:Zc}{h:Th}(hi:h.In m M R Q w)(d:h.k=3):∃j caps,(j=95\/j=131)/\h.fn=.func (.func j) #[] caps/\(h.wy=1\/h.wy=2):=by
 rcases Th.In_iff.1 hi with⟨_,p⟩|⟨a,c,_⟩|⟨b,_,⟨v,p⟩,_⟩
 .have:=p.k;omega
 .exact⟨95,_,.inl rfl,c.fn,.inl a⟩
 .exact⟨131,_,.inr rfl,p.fn,.inr b⟩
theorem Cc(n:Int)(x:TT)(i:Ty):(Ub 1 n x i).val=XF n:=by unfold Th.val;rw[if_pos (show (Ub 1 n x i).tag=0 from rfl),Th.cv_eq];rfl
theorem PF(n:Int)(x:TT)(i:Ty):(Ub 2 n x i).val=Xk n:=by unfold Th.val;rw[if_pos (show (Ub 2 n x i).tag=0 from rfl),Th.cv_eq];rfl
theorem S7{m:Bool}{k n:Int}{x:TT}{i:Ty}(h:m=Ze->(k=1/\i=UY)\/(k=2/\i=Xp)):Jl m i (Ub k n x i):=fun hm=>by have e:(Ub k n x i).t.ty=i:=P5 i;refine⟨Th.ok_iff.2 ⟨.inl rfl,.inl ⟨rfl,?_⟩⟩,e⟩;rw[e];exact h hm
theorem Bb(m:Bool)(M R F c:Nat)(Q:Nat->Prop)(x u0 u1:TT)(E:List Th)(i p0 p1:Ty)(ea:Option Addr)(ec:Nat)(w:Zc)(q:x.k=4\/x.k=5\/x.k=8)(hy:x.l=[u0,u1])(hx:x.In w)(br:x.Bl Q)(hE:OY m M R Q w ea E)(hr:m=Ze->(x.k=8/\p0=YN p1 i)\/(x.k=4/\p0=UY/\p1=UY/\i=UY)\/(x.k=5/\p0=UY/\p1=UY/\i=Xp))(hw:Wl R (F-c) Yl w)(hQ:¬Q R)(nw:∀b,w.heap.size<=b->Q b)(cx:Cs m M R F c u0 E p0 ea ec)(cw:∀c',c<=c'->c'<=F->Cs m M R F c' u1 E p1 ea ec)(cd:∀c2,c<=c2->c2<=F->C8 m M R F c2):
  Calls P 59 #[Y (Zb ⟨R,0,I⟩),.agg #[D G x.k,D G x.n,D G x.t.k,U x.t.a x.t.l.length x.t.c,D G x.f.k,U x.f.a x.f.l.length x.f.c,U x.a x.l.length x.c],U ea E.length ec] w (Xi m M R F c Q w i (XU m F x.tm (E.map Th.val) i c)):=by
 have ae:=hw.lt;obtain⟨W1,bo⟩:∃W,W=Pc R x ea E.length ec w:=⟨_,rfl⟩
 obtain⟨hB,b3,cs⟩:=J3 R x ea E.length ec w;rw[<-bo] at hB b3 cs;have ch:=hw.below b3;have HB:=KS hB b3 ch;have bz:x.l.length=2:=by rw[hy];rfl
 obtain⟨bx,ox,b4⟩:∃bx ox,x.a=Zb ⟨bx,ox,I⟩:=by obtain⟨b,o,e,_⟩:=hx.part 0 (by omega);exact⟨b,o,e⟩
 have ai:Q bx:=br.own (by rw[hy];simp) _ b4;have az:∀W,Yi R I W1 W->XJ Q w W:=fun W q b hb hq=>by have hs:=b3.size;rw[q.block b (by omega) (fun e=>hQ (e▸hq)) (by simp)];exact b3.block b hb
 have dh:w.heap.size+1+1+1+1<=W1.heap.size:=by omega
 obtain⟨an,b6⟩:X4 w bx (ox) u0/\u0.In w:=by
  obtain⟨b',o',e',h7,hi⟩:=hx.part 0 (by omega);rw[b4] at e';obtain⟨rfl,rfl⟩:bx=b'/\ox=o':=by simpa using e'
  exact⟨by simpa[hy] using h7,by simpa[hy] using hi⟩
 have b7:u0.Bl Q:=br.mem (by rw[hy];simp);obtain⟨ao,ba⟩:X4 w bx (ox+7) u1/\u1.In w:=by
  obtain⟨b',o',e',h7,hi⟩:=hx.part 1 (by omega);rw[b4] at e';obtain⟨rfl,rfl⟩:bx=b'/\ox=o':=by simpa using e'
  exact⟨by simpa[hy] using h7,by simpa[hy] using hi⟩
 have bc:u1.Bl Q:=br.mem (by rw[hy];simp);have HK:T (∀W,Yi R I W1 W->cL W w.heap.size 0 (Y (Zb ⟨R,0,I⟩))/\cL W (w.heap.size+1) 6 (U (Zb ⟨bx,ox,I⟩) 2 x.c)/\cL W bx ox (D G u0.k)/\cL W bx (ox+1) (D G u0.n)/\cL W bx (ox+2) (D G u0.t.k)/\cL W bx (ox+3) (u0.t.s)/\cL W bx (ox+4) (D G u0.f.k)/\cL W bx (ox+5) (u0.f.s)/\cL W bx (ox+6) (u0.s)/\cL W (w.heap.size+1+1) 0 (U ea E.length ec)):=fun W q=>by have aj:∀b i u,cL w b i u->Q b->cL W b i u:=fun b i u e hb=>(az W q).cell e hb;have bb:=hB.x7.c6;rw[b4,bz] at bb;exact⟨q.cell hB.w0 (by omega),q.cell bb (by omega),aj _ _ _ an.c0 ai,aj _ _ _ an.c1 ai,aj _ _ _ an.c2 ai,aj _ _ _ an.c3 ai,aj _ _ _ an.c4 ai,aj _ _ _ an.c5 ai,aj _ _ _ an.c6 ai,q.cell hB.e0 (by omega)⟩
 have cf:T (∀W,Yi R I W1 W->cL W w.heap.size 0 (Y (Zb ⟨R,0,I⟩))/\cL W (w.heap.size+1) 6 (U (Zb ⟨bx,ox,I⟩) 2 x.c)/\cL W bx (ox+7) (D G u1.k)/\cL W bx (ox+8) (D G u1.n)/\cL W bx (ox+9) (D G u1.t.k)/\cL W bx (ox+10) (u1.t.s)/\cL W bx (ox+11) (D G u1.f.k)/\cL W bx (ox+12) (u1.f.s)/\cL W bx (ox+13) (u1.s)/\cL W (w.heap.size+1+1) 0 (U ea E.length ec)):=fun W q=>by have aj:∀b i u,cL w b i u->Q b->cL W b i u:=fun b i u e hb=>(az W q).cell e hb;have bb:=hB.x7.c6;rw[b4,bz] at bb;exact⟨q.cell hB.w0 (by omega),q.cell bb (by omega),aj _ _ _ ao.c0 ai,aj _ _ _ ao.c1 ai,aj _ _ _ ao.c2 ai,aj _ _ _ ao.c3 ai,aj _ _ _ ao.c4 ai,aj _ _ _ ao.c5 ai,aj _ _ _ ao.c6 ai,q.cell hB.e0 (by omega)⟩
 have HI:T (∀(z:Nat)(W:Zc),Yi R I W1 W->Wl R (F-c) Yl W->w.heap.size<=z->z<W.heap.size->Calls P 59 #[Y (Zb ⟨R,0,I⟩),.agg u0.v,U ea E.length ec] W (Xi m M R F c (fun b=>Q b/\b≠w.heap.size+1+1+1/\b≠z) W p0 (XU m F u0.tm (E.map Th.val) p0 c))):=fun z W q ca dc d8=>by have d1:=q.size;exact cx (fun b=>Q b/\b≠w.heap.size+1+1+1/\b≠z) W (b6.same (az W q) b7) ((b7.and b6.bl).mono fun b hb=>⟨hb.1,by omega,by omega⟩) ((hE.mono (Q':=(fun b=>Q b/\b≠w.heap.size+1+1+1/\b≠z)) fun x h1 k=>⟨k,by omega,by omega⟩).same fun b h1 k=>az W q b h1 k.1) ca (fun hx=>hQ hx.1) (fun b hb=>⟨nw b (by omega),by omega,by omega⟩)
 have ci:T (∀(c':Nat)(h1:c<=c')(k:c'<=F)(z:Nat)(W:Zc),Yi R I W1 W->Wl R (F-c') Yl W->w.heap.size<=z->z<W.heap.size->Calls P 59 #[Y (Zb ⟨R,0,I⟩),.agg u1.v,U ea E.length ec] W (Xi m M R F c' (fun b=>Q b/\b≠w.heap.size+1+1+1/\b≠z) W p1 (XU m F u1.tm (E.map Th.val) p1 c'))):=fun c' h1 k z W q ca dc d8=>by have d1:=q.size;exact cw c' h1 k (fun b=>Q b/\b≠w.heap.size+1+1+1/\b≠z) W (ba.same (az W q) bc) ((bc.and ba.bl).mono fun b hb=>⟨hb.1,by omega,by omega⟩) ((hE.mono (Q':=(fun b=>Q b/\b≠w.heap.size+1+1+1/\b≠z)) fun x h1 k=>⟨k,by omega,by omega⟩).same fun b h1 k=>az W q b h1 k.1) ca (fun hx=>hQ hx.1) (fun b hb=>⟨nw b (by omega),by omega,by omega⟩)
 have ar:x.tm.at 0=u0.tm:=by rw[Tm.at,TT.tm_l,hy];rfl
 have ax:x.tm.at 1=u1.tm:=by rw[Tm.at,TT.tm_l,hy];rfl
 have c6:x.tm.k=4\/x.tm.k=5\/x.tm.k=8:=by rw[TT.tm_k];exact q
 have da:T (∀r V c',XU m F u0.tm (E.map Th.val) p0 c r V c'->r.k≠0->XU m F x.tm (E.map Th.val) i c r V c'):=fun r V c' h hr=>⟨Bf c6 (by rw[ar];exact h.1) hr,fun _ h0=>absurd h0 hr⟩
 have de:T (∀V c' r2 V2 c2,XU m F u0.tm (E.map Th.val) p0 c Yl V c'->XU m F u1.tm (E.map Th.val) p1 c' r2 V2 c2->r2.k≠0->XU m F x.tm (E.map Th.val) i c r2 V2 c2):=fun V c' r2 V2 c2 h k hr=>⟨Be c6 (by rw[ar];exact h.1) rfl (by rw[ax];exact k.1) hr,fun _ h0=>absurd h0 hr⟩
 have bp:T (∀V c' V2 c2 V3,XU m F u0.tm (E.map Th.val) p0 c Yl V c'->XU m F u1.tm (E.map Th.val) p1 c' Yl V2 c2->(x.k=4\/x.k=5)->¬(V.k=1/\V2.k=1)->XU m F x.tm (E.map Th.val) i c Yu V3 c2):=fun V c' V2 c2 V3 h k db hv=>by
  refine⟨?_,fun _ h0=>by cases h0⟩;rcases db with h4|h5
  .have:=Bh (x:=x.tm) (by rw[TT.tm_k];exact h4) (by rw[ar];exact h.1) rfl (by rw[ax];exact k.1) rfl;rw[if_neg hv] at this;exact fun ts vs=>⟨fun h0=>(by cases h0),(this ts vs).bad⟩
  .have:=Vb (x:=x.tm) (by rw[TT.tm_k];exact h5) (by rw[ar];exact h.1) rfl (by rw[ax];exact k.1) rfl;rw[if_neg hv] at this;exact fun ts vs=>⟨fun h0=>(by cases h0),(this ts vs).bad⟩
 have d9:T (∀a b c' c2,XU m F u0.tm (E.map Th.val) p0 c Yl (XF a) c'->XU m F u1.tm (E.map Th.val) p1 c' Yl (XF b) c2->x.k=4->XU m F x.tm (E.map Th.val) i c Yl (XF (U4 (a+b))) c2):=fun a b c' c2 h k h4=>by
  have h3:=Bh (x:=x.tm) (by rw[TT.tm_k];exact h4) (by rw[ar];exact h.1) rfl (by rw[ax];exact k.1) rfl;rw[if_pos ⟨rfl,rfl⟩] at h3;refine⟨h3,fun hm _=>?_⟩;rcases hr hm with⟨h',_⟩|⟨_,_,_,e⟩|⟨h',_⟩
  .omega
  .rw[e];exact MR _
  .omega
 have co:T (∀a b c' c2,XU m F u0.tm (E.map Th.val) p0 c Yl (XF a) c'->XU m F u1.tm (E.map Th.val) p1 c' Yl (XF b) c2->x.k=5->XU m F x.tm (E.map Th.val) i c Yl (Xk (if a<b then 1 else 0)) c2):=fun a b c' c2 h k h5=>by
  have h3:=Vb (x:=x.tm) (by rw[TT.tm_k];exact h5) (by rw[ar];exact h.1) rfl (by rw[ax];exact k.1) rfl;rw[if_pos ⟨rfl,rfl⟩] at h3;refine⟨h3,fun hm _=>?_⟩;rcases hr hm with⟨h',_⟩|⟨h',_⟩|⟨_,_,_,e⟩
  .omega
  .omega
  .rw[e];exact Li _
 have cr:T (∀V c' V2 c2 V3,XU m F u0.tm (E.map Th.val) p0 c Yl V c'->XU m F u1.tm (E.map Th.val) p1 c' Yl V2 c2->x.k=8->V.k≠3->V.k≠4->XU m F x.tm (E.map Th.val) i c Yu V3 c2):=fun V c' V2 c2 V3 h k h8 h3 h4=>⟨Vd (x:=x.tm) (by rw[TT.tm_k];exact h8) (by rw[ar];exact h.1) rfl (by rw[ax];exact k.1) rfl (CZ h3 h4),fun _ h0=>by cases h0⟩
 have cq:T (∀V c' V2 c2 r3 V3 c3,XU m F u0.tm (E.map Th.val) p0 c Yl V c'->XU m F u1.tm (E.map Th.val) p1 c' Yl V2 c2->x.k=8->QE m F V V2 i c2 r3 V3 c3->XU m F x.tm (E.map Th.val) i c r3 V3 c3):=fun V c' V2 c2 r3 V3 c3 h k h8 hd=>by
  have h3:QF F V V2 c2 r3 V3 c3/\(m=Ze->r3.k=0->Ur V3 i):=by
   rcases hd with⟨_,ha,ht⟩|⟨hm,ha⟩
   .exact⟨Dm ha,fun _=>ht⟩
   .exact⟨ha,fun h=>by rw[hm] at h;cases h⟩
  exact⟨Vd (x:=x.tm) (by rw[TT.tm_k];exact h8) (by rw[ar];exact h.1) rfl (by rw[ax];exact k.1) rfl h3.1,h3.2⟩
 have HR:=Yx hr;have d5:=Yx cd;have HQ:=Un hQ nw;have i0:(0:Int)<((2:Nat):Int):=by omega
 have i1:(1:Int)<((2:Nat):Int):=by omega
 have k1:(x.k==1)=Zd:=by simp;omega
 have k2:(x.k==2)=Zd:=by simp;omega
 have k3:(x.k==3)=Zd:=by simp;omega
 have k6:(x.k==6)=Zd:=by simp;omega
 have k7:(x.k==7)=Zd:=by simp;omega
 have k9:(x.k==9)=Zd:=by simp;omega
 have dk:(x.k==10)=Zd:=by simp;omega
 obtain⟨c0,c1,_,_,_,_,_,_⟩:=ch;replace c1:cL W1 R 1 (D G 0):=c1;obtain⟨w0,⟨x0,x1,x2,x3,x4,x5,x6⟩,e0,⟨r0,r1,r2,r3,y0,y1,y2,y3⟩⟩:=hB;simp only[Za] at x1 x2 x3 x4 x5 x6;have av:Yi R I W1 W1.drew:=Yi.of_below ((N _ _).drew);have ay:Wl R (F-c) Yl W1.drew:=HB.out.2.2.below ((N _ _).drew);have d6:=Yx q;clear q hx br hE hw nw b3 cs az an b6 b7 ao ba bc bz b4 ai hy hQ cx cw ar ax c6 hr cd;go_enter func59,ntmps59;go_upto_region 1 with fail;unfold Pc at bo;rw[<-bo];clear bo;go_upto_region 20 with fail;clear x0 x1 x2 x3 x4 x5 x6 e0 r0 r1 r2 r3 y0 y1 y2 y3 c0 c1 w0;go_cut [8] (fun ts wx=>∃bs:Nat,ts=Y (Zb ⟨bs,0,I⟩)/\T (UX m M R F c Q w W1 u0 E p0 bs wx))
 case first=>
  refine wp_region_held_drew (S:=fun W=>cL W w.heap.size 0 (Y (Zb ⟨R,0,I⟩))/\cL W (w.heap.size+1) 6 (U (Zb ⟨bx,ox,I⟩) 2 x.c)/\cL W bx ox (D G u0.k)/\cL W bx (ox+1) (D G u0.n)/\cL W bx (ox+2) (D G u0.t.k)/\cL W bx (ox+3) (u0.t.s)/\cL W bx (ox+4) (D G u0.f.k)/\cL W bx (ox+5) (u0.f.s)/\cL W bx (ox+6) (u0.s)/\cL W (w.heap.size+1+1) 0 (U ea E.length ec)) (by kernel_rfl) (HK.out _ av) (fun d=>?_);refine qk 0 (v:=?_) rfl (by kernel_rfl) (fun _ _ _ h=>h) (by rfl) d ?_ ?_;rotate_left;(focus (intro w' h;go_split_ands;go_simp;try with_reducible rfl));simp only[J,A,B,C];refine qk 1 (v:=?_) rfl (by kernel_rfl) (fun _ _ _ h=>h) (by rfl) d ?_ ?_;rotate_left;(focus (intro w' h;go_split_ands;go_simp;try with_reducible rfl));simp only[J,A,B,C];refine qk 2 (v:=?_) rfl (by kernel_rfl) (fun _ _ _ h=>h) (by rfl) d ?_ ?_;rotate_left;(focus (intro w' h;go_split_ands;go_simp;try with_reducible rfl));simp only[J,A,B,C];refine qk 3 (v:=?_) rfl (by kernel_rfl) (fun _ _ _ h=>h) (by rfl) d ?_ ?_;rotate_left;(focus (intro w' h;go_split_ands;go_simp;try with_reducible rfl));simp only[J,A,B,C];refine qk 4 (v:=?_) rfl (by kernel_rfl) (fun _ _ _ h=>h) (by rfl) d ?_ ?_;rotate_left;(focus (intro w' h;go_split_ands;go_simp;try with_reducible rfl));simp only[J,A,B,C];refine qk 5 (v:=?_) rfl (by kernel_rfl) (fun _ _ _ h=>h) (by rfl) d ?_ ?_;rotate_left;(focus (intro w' h;go_split_ands;go_simp;try with_reducible rfl));simp only[J,A,B,C];refine NY (i:=6) (j:=7) rfl rfl (by kernel_rfl) (fun K y=>?_) (fun K y=>?_)
  .go_simp;refine(HI.out w.heap.size _ av ay (H _) (by show _<W1.heap.size;omega)).mono ?_;rintro e w2 ⟨k,rr,VV,cc,ac,a5,a4,l,a7⟩;have p:=av.trans k;have ck:=p.size;rcases a7 with⟨hr,rfl⟩|⟨rfl,z,rfl,ad,ak⟩
   .have af:bL w2 (w2.alloc (Z #[D G 0,D G 0,.nilFunc,D G 0] 103)):=(N _ _).alloc (H _) _;have HN:T (UX m M R F c Q w W1 u0 E p0 w2.heap.size (w2.alloc (Z #[D G 0,D G 0,.nilFunc,D G 0] 103))):=⟨by omega,p.trans (Yi.of_below af),rr,VV,cc,ac,a5,a4,l.below af,.inl hr⟩
    clear hr ac;simp only[X0];refine y.out _ _ (HK.out _ p) (fun d=>?_);clear y K;(try simp only[J,A,B,C])
    refine YS (i:=7) rfl (by kernel_rfl) (fun K y=>?_);go_simp;refine y.out _ _ (HK.out _ (p.trans (Yi.of_below ((N _ _).alloc (H _) _)))) (fun d=>?_);clear y K;(try simp only[J,A,B,C])
    refine YS (i:=8) rfl (by kernel_rfl) (fun K y=>?_);go_simp;refine y.out _ _ (HK.out _ (p.trans (Yi.of_below af))) (fun d=>?_);clear y K;(try simp only[J,A,B,C])
    refine X (by kernel_rfl) ?_ _;clear d a5 a4 l;go_wp2_with fail;go_meet
    case rel=>exact⟨_,rfl,HN⟩
   .have aa:=ad.one;have b2:∀(a:Addr)(m:Mode)(W:Zc),(store a z.fn m).run P W=stored P W a z.fn m:=fun a m W=>Yw aa;have af:bL w2 (w2.alloc (Z z.v 103)):=(N _ _).alloc (H _) _;have HN:T (UX m M R F c Q w W1 u0 E p0 w2.heap.size (w2.alloc (Z z.v 103))):=⟨by omega,p.trans (Yi.of_below af),Yl,VV,cc,ac,a5,a4,l.below af,.inr ⟨rfl,z,⟨by simp[go_sem],by simp[go_sem],by simp[go_sem],by simp[go_sem]⟩,(ad.same (XJ.of_below af)).mono (fun x _ hx=>⟨hx.1,hx.2.1⟩),ak⟩⟩
    clear ac ad ak aa;simp only[Th.ag];refine y.out _ _ (HK.out _ p) (fun d=>?_);clear y K;(try simp only[J,A,B,C])
    refine YS (i:=7) rfl (by kernel_rfl) (fun K y=>?_);go_simp;refine y.out _ _ (HK.out _ (p.trans (Yi.of_below ((N _ _).alloc (H _) _)))) (fun d=>?_);clear y K;(try simp only[J,A,B,C])
    refine YS (i:=8) rfl (by kernel_rfl) (fun K y=>?_);go_simp;refine y.out _ _ (HK.out _ (p.trans (Yi.of_below af))) (fun d=>?_);clear y K;(try simp only[J,A,B,C])
    refine X (by kernel_rfl) ?_ _;clear d a5 a4 l;go_wp2_with fail;go_meet
    case rel=>exact⟨_,rfl,HN⟩
  .go_simp;have b0:Yi R I W1 (W1.alloc (Z #[D G 0,D G 0,.nilFunc,D G 0] 103)).drew:=Yi.of_below (((N _ _).alloc (H _) _).drew);refine y.out _ _ (HK.out _ b0) (fun d=>?_);clear y K;(try simp only[J,A,B,C])
   refine YS (i:=6) rfl (by kernel_rfl) (fun K y=>?_);go_simp;refine(HI.out W1.heap.size _ b0 (HB.out.2.2.below (((N _ _).alloc (H _) _).drew)) (by omega) (by show _<(W1.alloc (Z #[D G 0,D G 0,.nilFunc,D G 0] 103)).heap.size;simp)).mono ?_;rintro e w2 ⟨k,rr,VV,cc,ac,a5,a4,l,a7⟩;have p:=b0.trans k;have q9:Rb w2 W1.heap.size:=((Rb.new W1).below ((N _ _).drew)).kept k (by omega);rcases a7 with⟨hr,rfl⟩|⟨rfl,z,rfl,ad,ak⟩
   .obtain⟨⟨g0,g1,g2,g3⟩,ab⟩:=q9.set (D G 0) (D G 0) .nilFunc (D G 0);have HN:T (UX m M R F c Q w W1 u0 E p0 W1.heap.size ((((w2.setCell ⟨W1.heap.size,0,I⟩ (D G 0)).setCell ⟨W1.heap.size,1,I⟩ (D G 0)).setCell ⟨W1.heap.size,2,I⟩ .nilFunc).setCell ⟨W1.heap.size,3,I⟩ (D G 0))):=⟨by omega,p.new ab (H _),rr,VV,cc,ac,a5,a4,l.same ab (by omega),.inl hr⟩
    have ap:=p.new ab (H _);clear hr ac;simp only[X0];obtain⟨p0,p1,p2,p3,x0,x1,x2,x3⟩:=q9;clear g0 g1 g2 g3 ab;refine y.out _ _ (HK.out _ p) (fun d=>?_);clear y K;(try simp only[J,A,B,C])
    refine YS (i:=8) rfl (by kernel_rfl) (fun K y=>?_);go_simp;refine y.out _ _ (HK.out _ ap) (fun d=>?_);clear y K;(try simp only[J,A,B,C])
    refine X (by kernel_rfl) ?_ _;obtain⟨V9,ah⟩:∃V9,V9=(((w2.setCell ⟨W1.heap.size,0,I⟩ (D G 0)).setCell ⟨W1.heap.size,1,I⟩ (D G 0)).setCell ⟨W1.heap.size,2,I⟩ .nilFunc).setCell ⟨W1.heap.size,3,I⟩ (D G 0):=⟨_,rfl⟩
    rw[<-ah] at HN;rw[<-ah];clear ah d ap p0 p1 p2 p3 x0 x1 x2 x3 l p k a5 a4;go_wp2_with fail;go_meet
    case rel=>exact⟨_,rfl,HN⟩
   .have aa:=ad.one;have b2:∀(a:Addr)(m:Mode)(W:Zc),(store a z.fn m).run P W=stored P W a z.fn m:=fun a m W=>Yw aa;obtain⟨⟨g0,g1,g2,g3⟩,ab⟩:=q9.set (D G z.k) (D G z.n) z.fn (D G z.tag);have HN:T (UX m M R F c Q w W1 u0 E p0 W1.heap.size ((((w2.setCell ⟨W1.heap.size,0,I⟩ (D G z.k)).setCell ⟨W1.heap.size,1,I⟩ (D G z.n)).setCell ⟨W1.heap.size,2,I⟩ z.fn).setCell ⟨W1.heap.size,3,I⟩ (D G z.tag))):=⟨by omega,p.new ab (H _),Yl,VV,cc,ac,a5,a4,l.same ab (by omega),.inr ⟨rfl,z,⟨g0,g1,g2,g3⟩,(ad.same (XJ.of_kept ab fun hx=>hx.2.2 rfl)).mono (fun x _ hx=>⟨hx.1,hx.2.1⟩),ak⟩⟩
    have ap:=p.new ab (H _);clear ac ad ak aa;simp only[Th.ag];obtain⟨p0,p1,p2,p3,x0,x1,x2,x3⟩:=q9;clear g0 g1 g2 g3 ab;refine y.out _ _ (HK.out _ p) (fun d=>?_);clear y K;(try simp only[J,A,B,C])
    refine YS (i:=8) rfl (by kernel_rfl) (fun K y=>?_);go_simp;refine y.out _ _ (HK.out _ ap) (fun d=>?_);clear y K;(try simp only[J,A,B,C])
    refine X (by kernel_rfl) ?_ _;obtain⟨V9,ah⟩:∃V9,V9=(((w2.setCell ⟨W1.heap.size,0,I⟩ (D G z.k)).setCell ⟨W1.heap.size,1,I⟩ (D G z.n)).setCell ⟨W1.heap.size,2,I⟩ z.fn).setCell ⟨W1.heap.size,3,I⟩ (D G z.tag):=⟨_,rfl⟩
    rw[<-ah] at HN;rw[<-ah];clear ah d ap p0 p1 p2 p3 x0 x1 x2 x3 l p k a5 a4;go_wp2_with fail;go_meet
    case rel=>exact⟨_,rfl,HN⟩
 case rest=>
 obtain⟨b8,rfl,HP⟩:=hcut;obtain⟨W2,d7⟩:∃W2,W2=wc:=⟨_,rfl⟩
 subst d7;obtain⟨df,al,r,V,c',hS,bk,bm,bt,a7⟩:=HP.out;clear HP HI av ay HK;have cb:=HB.out.1.kept al ae;obtain⟨w0,⟨x0,x1,x2,x3,x4,x5,x6⟩,e0,b1⟩:=cb;simp only[Za] at x1 x2 x3 x4 x5 x6;have d3:b8≠R:=by omega
 rcases a7 with hr|⟨rfl,a,ce,cj,cu,cz⟩
 .have hgk:(r.k != 0)=Ze:=by simpa using hr
  have HF:T (Yi R I W1 W2/\Wl R (F-c') r W2/\Rb W2 (w.heap.size+1+1+1)/\XU m F x.tm (E.map Th.val) i c r V c'/\c<=c'/\c'<=F/\r.k≠0):=⟨al,bt,b1,da.out _ _ _ hS hr,bk,bm,hr⟩
  obtain⟨c0,c1,_,_,_,_,_,_⟩:=bt;obtain⟨r0,r1,r2,r3,y0,y1,y2,y3⟩:=b1;clear al hS hr bk bm;apply_assumption;go_wp2_with fail;obtain⟨⟨e0,e1,e2,e3⟩,q⟩:=HF.out.2.2.1.set (D G 0) (D G 0) .nilFunc (D G 0);refine O (v:=X0) ?_ rfl ⟨((Yi.of_below HB.out.2.1).trans HF.out.1).new q (by omega),r,V,c',HF.out.2.2.2.1,HF.out.2.2.2.2.1,HF.out.2.2.2.2.2.1,HF.out.2.1.same q (by omega),.inl ⟨HF.out.2.2.2.2.2.2,rfl⟩⟩;simp[results,L,go_sem,X0,e0,e1,e2,e3]
 .have HWL:=Yx bt;have c8:=Un bk bm;have bg:=Yx al;have HA:T (Ph W2 b8 0 a/\a.In m M R (fun x=>Q x/\x≠w.heap.size+1+1+1) W2/\XU m F u0.tm (E.map Th.val) p0 c Yl a.val c'/\Jl m p0 a):=⟨ce,cj,cu▸hS,cz⟩
  have am:T (∀W,Yi R I W2 W->cL W w.heap.size 0 (Y (Zb ⟨R,0,I⟩))/\cL W (w.heap.size+1) 6 (U (Zb ⟨bx,ox,I⟩) 2 x.c)/\cL W bx (ox+7) (D G u1.k)/\cL W bx (ox+8) (D G u1.n)/\cL W bx (ox+9) (D G u1.t.k)/\cL W bx (ox+10) (u1.t.s)/\cL W bx (ox+11) (D G u1.f.k)/\cL W bx (ox+12) (u1.f.s)/\cL W bx (ox+13) (u1.s)/\cL W (w.heap.size+1+1) 0 (U ea E.length ec)):=fun W q=>cf.out W (bg.out.trans q);have c9:T (∀(z:Nat)(W:Zc),Yi R I W2 W->Wl R (F-c') Yl W->w.heap.size<=z->z<W.heap.size->Calls P 59 #[Y (Zb ⟨R,0,I⟩),.agg u1.v,U ea E.length ec] W (Xi m M R F c' (fun b=>Q b/\b≠w.heap.size+1+1+1/\b≠z) W p1 (XU m F u1.tm (E.map Th.val) p1 c'))):=fun z W q=>ci.out c' c8.out.1 c8.out.2 z W (bg.out.trans q);have av:Yi R I W2 W2.drew:=Yi.of_below ((N _ _).drew);have ay:Wl R (F-c') Yl W2.drew:=HWL.out.below ((N _ _).drew);have cm:=al.size;have d4:w.heap.size+1+1+1+1<=W2.heap.size:=by omega
  obtain⟨c0,c1,_,_,_,_,_,_⟩:=bt;replace c1:cL W2 R 1 (D G 0):=c1;clear al hS bk bm cj cu cz b1 ce cf ci;apply_assumption;go_upto_region 29 with fail;clear w0 x0 x1 x2 x3 x4 x5 x6 e0 c0 c1;go_cut [9] (fun ts wx=>∃bs:Nat,ts=Y (Zb ⟨bs,0,I⟩)/\T (UX m M R F c' Q w W2 u1 E p1 bs wx))
  case first=>
   refine wp_region_held_drew (S:=fun W=>cL W w.heap.size 0 (Y (Zb ⟨R,0,I⟩))/\cL W (w.heap.size+1) 6 (U (Zb ⟨bx,ox,I⟩) 2 x.c)/\cL W bx (ox+7) (D G u1.k)/\cL W bx (ox+8) (D G u1.n)/\cL W bx (ox+9) (D G u1.t.k)/\cL W bx (ox+10) (u1.t.s)/\cL W bx (ox+11) (D G u1.f.k)/\cL W bx (ox+12) (u1.f.s)/\cL W bx (ox+13) (u1.s)/\cL W (w.heap.size+1+1) 0 (U ea E.length ec)) (by kernel_rfl) (am.out _ av) (fun d=>?_);refine qk 0 (v:=?_) rfl (by kernel_rfl) (fun _ _ _ h=>h) (by rfl) d ?_ ?_;rotate_left;(focus (intro w' h;go_split_ands;go_simp;try with_reducible rfl));simp only[J,A,B,C];refine qk 1 (v:=?_) rfl (by kernel_rfl) (fun _ _ _ h=>h) (by rfl) d ?_ ?_;rotate_left;(focus (intro w' h;go_split_ands;go_simp;try with_reducible rfl));simp only[J,A,B,C];refine qk 2 (v:=?_) rfl (by kernel_rfl) (fun _ _ _ h=>h) (by rfl) d ?_ ?_;rotate_left;(focus (intro w' h;go_split_ands;go_simp;try with_reducible rfl));simp only[J,A,B,C];refine qk 3 (v:=?_) rfl (by kernel_rfl) (fun _ _ _ h=>h) (by rfl) d ?_ ?_;rotate_left;(focus (intro w' h;go_split_ands;go_simp;try with_reducible rfl));simp only[J,A,B,C];refine qk 4 (v:=?_) rfl (by kernel_rfl) (fun _ _ _ h=>h) (by rfl) d ?_ ?_;rotate_left;(focus (intro w' h;go_split_ands;go_simp;try with_reducible rfl));simp only[J,A,B,C];refine qk 5 (v:=?_) rfl (by kernel_rfl) (fun _ _ _ h=>h) (by rfl) d ?_ ?_;rotate_left;(focus (intro w' h;go_split_ands;go_simp;try with_reducible rfl));simp only[J,A,B,C];refine NY (i:=6) (j:=7) rfl rfl (by kernel_rfl) (fun K y=>?_) (fun K y=>?_)
   .go_simp;refine(c9.out w.heap.size _ av ay (H _) (by show _<W2.heap.size;omega)).mono ?_;rintro e w2 ⟨k,rr,VV,cc,ac,a5,a4,l,a7⟩;have p:=av.trans k;have ck:=p.size;rcases a7 with⟨hr,rfl⟩|⟨rfl,z,rfl,ad,ak⟩
    .have af:bL w2 (w2.alloc (Z #[D G 0,D G 0,.nilFunc,D G 0] 103)):=(N _ _).alloc (H _) _;have HN:T (UX m M R F c' Q w W2 u1 E p1 w2.heap.size (w2.alloc (Z #[D G 0,D G 0,.nilFunc,D G 0] 103))):=⟨by omega,p.trans (Yi.of_below af),rr,VV,cc,ac,a5,a4,l.below af,.inl hr⟩
     clear hr ac;simp only[X0];refine y.out _ _ (am.out _ p) (fun d=>?_);clear y K;(try simp only[J,A,B,C])
     refine YS (i:=7) rfl (by kernel_rfl) (fun K y=>?_);go_simp;refine y.out _ _ (am.out _ (p.trans (Yi.of_below ((N _ _).alloc (H _) _)))) (fun d=>?_);clear y K;(try simp only[J,A,B,C])
     refine YS (i:=8) rfl (by kernel_rfl) (fun K y=>?_);go_simp;refine y.out _ _ (am.out _ (p.trans (Yi.of_below af))) (fun d=>?_);clear y K;(try simp only[J,A,B,C])
     refine X (by kernel_rfl) ?_ _;clear d a5 a4 l;go_wp2_with fail;go_meet
     case rel=>exact⟨_,rfl,HN⟩
    .have aa:=ad.one;have b2:∀(a:Addr)(m:Mode)(W:Zc),(store a z.fn m).run P W=stored P W a z.fn m:=fun a m W=>Yw aa;have af:bL w2 (w2.alloc (Z z.v 103)):=(N _ _).alloc (H _) _;have HN:T (UX m M R F c' Q w W2 u1 E p1 w2.heap.size (w2.alloc (Z z.v 103))):=⟨by omega,p.trans (Yi.of_below af),Yl,VV,cc,ac,a5,a4,l.below af,.inr ⟨rfl,z,⟨by simp[go_sem],by simp[go_sem],by simp[go_sem],by simp[go_sem]⟩,(ad.same (XJ.of_below af)).mono (fun x _ hx=>⟨hx.1,hx.2.1⟩),ak⟩⟩
     clear ac ad ak aa;simp only[Th.ag];refine y.out _ _ (am.out _ p) (fun d=>?_);clear y K;(try simp only[J,A,B,C])
     refine YS (i:=7) rfl (by kernel_rfl) (fun K y=>?_);go_simp;refine y.out _ _ (am.out _ (p.trans (Yi.of_below ((N _ _).alloc (H _) _)))) (fun d=>?_);clear y K;(try simp only[J,A,B,C])
     refine YS (i:=8) rfl (by kernel_rfl) (fun K y=>?_);go_simp;refine y.out _ _ (am.out _ (p.trans (Yi.of_below af))) (fun d=>?_);clear y K;(try simp only[J,A,B,C])
     refine X (by kernel_rfl) ?_ _;clear d a5 a4 l;go_wp2_with fail;go_meet
     case rel=>exact⟨_,rfl,HN⟩
   .go_simp;have b0:Yi R I W2 (W2.alloc (Z #[D G 0,D G 0,.nilFunc,D G 0] 103)).drew:=Yi.of_below (((N _ _).alloc (H _) _).drew);refine y.out _ _ (am.out _ b0) (fun d=>?_);clear y K;(try simp only[J,A,B,C])
    refine YS (i:=6) rfl (by kernel_rfl) (fun K y=>?_);go_simp;refine(c9.out W2.heap.size _ b0 (HWL.out.below (((N _ _).alloc (H _) _).drew)) (by omega) (by show _<(W2.alloc (Z #[D G 0,D G 0,.nilFunc,D G 0] 103)).heap.size;simp)).mono ?_;rintro e w2 ⟨k,rr,VV,cc,ac,a5,a4,l,a7⟩;have p:=b0.trans k;have q9:Rb w2 W2.heap.size:=((Rb.new W2).below ((N _ _).drew)).kept k (by omega);rcases a7 with⟨hr,rfl⟩|⟨rfl,z,rfl,ad,ak⟩
    .obtain⟨⟨g0,g1,g2,g3⟩,ab⟩:=q9.set (D G 0) (D G 0) .nilFunc (D G 0);have HN:T (UX m M R F c' Q w W2 u1 E p1 W2.heap.size ((((w2.setCell ⟨W2.heap.size,0,I⟩ (D G 0)).setCell ⟨W2.heap.size,1,I⟩ (D G 0)).setCell ⟨W2.heap.size,2,I⟩ .nilFunc).setCell ⟨W2.heap.size,3,I⟩ (D G 0))):=⟨by omega,p.new ab (H _),rr,VV,cc,ac,a5,a4,l.same ab (by omega),.inl hr⟩
     have ap:=p.new ab (H _);clear hr ac;simp only[X0];obtain⟨p0,p1,p2,p3,x0,x1,x2,x3⟩:=q9;clear g0 g1 g2 g3 ab;refine y.out _ _ (am.out _ p) (fun d=>?_);clear y K;(try simp only[J,A,B,C])
     refine YS (i:=8) rfl (by kernel_rfl) (fun K y=>?_);go_simp;refine y.out _ _ (am.out _ ap) (fun d=>?_);clear y K;(try simp only[J,A,B,C])
     refine X (by kernel_rfl) ?_ _;obtain⟨V9,ah⟩:∃V9,V9=(((w2.setCell ⟨W2.heap.size,0,I⟩ (D G 0)).setCell ⟨W2.heap.size,1,I⟩ (D G 0)).setCell ⟨W2.heap.size,2,I⟩ .nilFunc).setCell ⟨W2.heap.size,3,I⟩ (D G 0):=⟨_,rfl⟩
     rw[<-ah] at HN;rw[<-ah];clear ah d ap p0 p1 p2 p3 x0 x1 x2 x3 l p k a5 a4;go_wp2_with fail;go_meet
     case rel=>exact⟨_,rfl,HN⟩
    .have aa:=ad.one;have b2:∀(a:Addr)(m:Mode)(W:Zc),(store a z.fn m).run P W=stored P W a z.fn m:=fun a m W=>Yw aa;obtain⟨⟨g0,g1,g2,g3⟩,ab⟩:=q9.set (D G z.k) (D G z.n) z.fn (D G z.tag);have HN:T (UX m M R F c' Q w W2 u1 E p1 W2.heap.size ((((w2.setCell ⟨W2.heap.size,0,I⟩ (D G z.k)).setCell ⟨W2.heap.size,1,I⟩ (D G z.n)).setCell ⟨W2.heap.size,2,I⟩ z.fn).setCell ⟨W2.heap.size,3,I⟩ (D G z.tag))):=⟨by omega,p.new ab (H _),Yl,VV,cc,ac,a5,a4,l.same ab (by omega),.inr ⟨rfl,z,⟨g0,g1,g2,g3⟩,(ad.same (XJ.of_kept ab fun hx=>hx.2.2 rfl)).mono (fun x _ hx=>⟨hx.1,hx.2.1⟩),ak⟩⟩
     have ap:=p.new ab (H _);clear ac ad ak aa;simp only[Th.ag];obtain⟨p0,p1,p2,p3,x0,x1,x2,x3⟩:=q9;clear g0 g1 g2 g3 ab;refine y.out _ _ (am.out _ p) (fun d=>?_);clear y K;(try simp only[J,A,B,C])
     refine YS (i:=8) rfl (by kernel_rfl) (fun K y=>?_);go_simp;refine y.out _ _ (am.out _ ap) (fun d=>?_);clear y K;(try simp only[J,A,B,C])
     refine X (by kernel_rfl) ?_ _;obtain⟨V9,ah⟩:∃V9,V9=(((w2.setCell ⟨W2.heap.size,0,I⟩ (D G z.k)).setCell ⟨W2.heap.size,1,I⟩ (D G z.n)).setCell ⟨W2.heap.size,2,I⟩ z.fn).setCell ⟨W2.heap.size,3,I⟩ (D G z.tag):=⟨_,rfl⟩
     rw[<-ah] at HN;rw[<-ah];clear ah d ap p0 p1 p2 p3 x0 x1 x2 x3 l p k a5 a4;go_wp2_with fail;go_meet
     case rel=>exact⟨_,rfl,HN⟩
  case rest=>
  obtain⟨b9,rfl,HP⟩:=hcut;obtain⟨d2,bd,r2,V2,c2,bq,bf,aw,bn,a7⟩:=HP.out;clear HP c9 av ay am;have al:=bg.out.trans bd;have cb:=HB.out.1.kept al ae;obtain⟨w0,⟨x0,x1,x2,x3,x4,x5,x6⟩,e0,b1⟩:=cb;simp only[Za] at x1 x2 x3 x4 x5 x6;have dg:b9≠R:=by omega
  have be:c<=c2:=by have:=c8.out.1;omega
  rcases a7 with hr|⟨rfl,z,dd,ad,ak,d0⟩
  .have hgk:(r2.k != 0)=Ze:=by simpa using hr
   have HF:T (Yi R I W1 wc/\Wl R (F-c2) r2 wc/\Rb wc (w.heap.size+1+1+1)/\XU m F x.tm (E.map Th.val) i c r2 V2 c2/\c<=c2/\c2<=F/\r2.k≠0):=⟨al,bn,b1,de.out _ _ _ _ _ HA.out.2.2.1 bq hr,be,aw,hr⟩
   obtain⟨c0,c1,_,_,_,_,_,_⟩:=bn;obtain⟨r0,r1,r2,r3,y0,y1,y2,y3⟩:=b1;clear al bq hr bf aw bd;apply_assumption;go_wp2_with fail;obtain⟨⟨e0,e1,e2,e3⟩,q⟩:=HF.out.2.2.1.set (D G 0) (D G 0) .nilFunc (D G 0);refine O (v:=X0) ?_ rfl ⟨((Yi.of_below HB.out.2.1).trans HF.out.1).new q (by omega),_,V2,c2,HF.out.2.2.2.1,HF.out.2.2.2.2.1,HF.out.2.2.2.2.2.1,HF.out.2.1.same q (by omega),.inl ⟨HF.out.2.2.2.2.2.2,rfl⟩⟩;simp[results,L,go_sem,X0,e0,e1,e2,e3]
  .have HW:=Yx bn;have a8:=Un be aw;have a9:=Yx al;have cy:¬(fun x=>Q x/\x≠w.heap.size+1+1+1) R:=fun hx=>HQ.out.1 hx.1;have bu:=Yx (HA.out.2.1.same (XJ.of_kept bd cy));have au:T (XU m F u1.tm (E.map Th.val) p1 c' Yl z.val c2):=ak▸bq;have HZ:=Un ad d0;obtain⟨a0,a1,a2,a3⟩:=HA.out.1.same (w':=wc) (Q:=fun b=>b≠R) (fun b hb hq=>bd.block b hb hq (by simp)) d3;simp only[Za] at a1 a2 a3;obtain⟨z0,z1,z2,z3⟩:=dd;simp only[Za] at z1 z2 z3;obtain⟨c0,c1,_,_,_,_,_,_⟩:=bn;replace c1:cL wc R 1 (D G 0):=c1;have cm:=al.size;clear al bq bf aw ad ak d0 bd df d2 be;have bj:=bu.out.kinds;have bv:=HZ.out.1.kinds;by_cases h8:x.k=8
   .have H8:=Yx h8;rw[h8] at x0;clear h8 bv;have fin:(a.tag≠0/\a.val.k=5)\/(a.tag=0/\a.k≠3/\a.val.k≠3/\a.val.k≠4)\/(a.tag=0/\a.k=3/\a.val=a.cv):=by
     rcases bj with h|⟨h0,he,⟨h1,k⟩|⟨h1,k⟩|⟨h1,k,_⟩⟩
     .exact .inl h
     .exact .inr (.inl ⟨h0,by omega,by rw[k];simp[XF],by rw[k];simp[XF]⟩)
     .exact .inr (.inl ⟨h0,by omega,by rw[k];simp[Xk],by rw[k];simp[Xk]⟩)
     .exact .inr (.inr ⟨h0,h1,he⟩)
    clear bj;rcases fin with⟨h1,k⟩|⟨h0,h1,k,h3⟩|⟨h0,h1,k⟩
    .have ht1:(a.tag != 0)=Ze:=by simpa using h1
     have HV:T (a.val.k≠3/\a.val.k≠4):=⟨by omega,by omega⟩
     clear h1 k;have a6:T (XU m F x.tm (E.map Th.val) i c Yu z.val c2/\c<=c2/\c2<=F/\Yu.k≠0):=⟨cr.out _ _ _ _ _ HA.out.2.2.1 au.out H8.out HV.out.1 HV.out.2,a8.out.1,a8.out.2,by decide⟩
     apply_assumption;go_wp2_with (go_at_call 94;refine(UF R _ _ HW.out).mono ?_;rintro e w2 ⟨rfl,l,k⟩;simp only[X0];have HF:T (Yi R I W1 w2/\Wl R (F-c2) Yu w2/\Rb w2 (w.heap.size+1+1+1)):=⟨a9.out.trans k,l,(HB.out.1.kept (a9.out.trans k) ae).r⟩;clear l k w0 x0 x1 x2 x3 x4 x5 x6 e0 a0 a1 a2 a3 z0 z1 z2 z3 c0 c1;obtain⟨r0,r1,r2,r3,y0,y1,y2,y3⟩:=HF.out.2.2)
     obtain⟨⟨e0,e1,e2,e3⟩,q⟩:=HF.out.2.2.set (D G 0) (D G 0) .nilFunc (D G 0);refine O (v:=X0) ?_ rfl ⟨((Yi.of_below HB.out.2.1).trans HF.out.1).new q (by omega),Yu,z.val,c2,a6.out.1,a6.out.2.1,a6.out.2.2.1,HF.out.2.1.same q (by omega),.inl ⟨a6.out.2.2.2,rfl⟩⟩;simp[results,L,go_sem,X0,e0,e1,e2,e3]
    .have ht1:(a.k != 3)=Ze:=by simpa using h1
     rw[h0] at a3;have HV:=Un k h3;clear h0 h1 k h3;have a6:T (XU m F x.tm (E.map Th.val) i c Yu z.val c2/\c<=c2/\c2<=F/\Yu.k≠0):=⟨cr.out _ _ _ _ _ HA.out.2.2.1 au.out H8.out HV.out.1 HV.out.2,a8.out.1,a8.out.2,by decide⟩
     apply_assumption;go_wp2_with (go_at_call 94;refine(UF R _ _ HW.out).mono ?_;rintro e w2 ⟨rfl,l,k⟩;simp only[X0];have HF:T (Yi R I W1 w2/\Wl R (F-c2) Yu w2/\Rb w2 (w.heap.size+1+1+1)):=⟨a9.out.trans k,l,(HB.out.1.kept (a9.out.trans k) ae).r⟩;clear l k w0 x0 x1 x2 x3 x4 x5 x6 e0 a0 a1 a2 a3 z0 z1 z2 z3 c0 c1;obtain⟨r0,r1,r2,r3,y0,y1,y2,y3⟩:=HF.out.2.2)
     obtain⟨⟨e0,e1,e2,e3⟩,q⟩:=HF.out.2.2.set (D G 0) (D G 0) .nilFunc (D G 0);refine O (v:=X0) ?_ rfl ⟨((Yi.of_below HB.out.2.1).trans HF.out.1).new q (by omega),Yu,z.val,c2,a6.out.1,a6.out.2.1,a6.out.2.2.1,HF.out.2.1.same q (by omega),.inl ⟨a6.out.2.2.2,rfl⟩⟩;simp[results,L,go_sem,X0,e0,e1,e2,e3]
    .obtain⟨j,caps,hj,hfn,hwy⟩:=bu.out.fns h1;have HD:T (Calls P j (#[.agg z.v]++caps) wc (Xi m M R F c2 (fun x=>Q x/\x≠w.heap.size+1+1+1) wc i (fun r V c'=>QE m F a.cv z.val i c2 r V c'))):=by
      refine d5.out c2 a8.out.1 a8.out.2 a p1 i j caps hwy hfn (fun hm=>?_) (fun x=>Q x/\x≠w.heap.size+1+1+1) z wc bu.out HZ.out.1 HZ.out.2 HW.out cy (fun b hb=>⟨HQ.out.2 b (by omega),by omega⟩);obtain⟨o1,o2⟩:=HA.out.2.2.2 hm;unfold Th.tyo at o2;rw[if_pos h0] at o2;refine⟨o1,o2.trans ?_⟩;rcases HR.out hm with⟨_,e⟩|⟨h',_⟩|⟨h',_⟩
      .exact e
      .have:=H8.out;omega
      .have:=H8.out;omega
     have cg:T (XU m F u0.tm (E.map Th.val) p0 c Yl a.cv c'):=k▸HA.out.2.2.1;rw[h0] at a3;rw[h1] at a0;rw[hfn] at a2;clear h0 h1 k hfn hwy;rcases hj with rfl|rfl
     all_goals
      apply_assumption
      go_wp2_with fail
      refine HD.out.mono ?_
      rintro e w4 ⟨b5,r3,V3,c3,bi,bf,aw,bh,⟨hr,rfl⟩|⟨rfl,g,rfl,c4,ct⟩⟩
      .have HF:T (Yi R I W1 w4/\Wl R (F-c3) r3 w4/\Rb w4 (w.heap.size+1+1+1)/\XU m F x.tm (E.map Th.val) i c r3 V3 c3/\c<=c3/\c3<=F/\r3.k≠0):=⟨a9.out.trans b5,bh,(HB.out.1.kept (a9.out.trans b5) ae).r,cq.out _ _ _ _ _ _ _ cg.out au.out H8.out bi,by have:=a8.out.1;omega,aw,hr⟩
       simp only[X0];obtain⟨r0,r1,r2,r4,y0,y1,y2,y3⟩:=HF.out.2.2.1;clear b5 bi bf aw bh hr w0 x0 x1 x2 x3 x4 x5 x6 e0 a0 a1 a2 a3 z0 z1 z2 z3 c0 c1;go_wp2_with fail;obtain⟨⟨e0,e1,e2,e3⟩,q⟩:=HF.out.2.2.1.set (D G 0) (D G 0) .nilFunc (D G 0);refine O (v:=X0) ?_ rfl ⟨((Yi.of_below HB.out.2.1).trans HF.out.1).new q (by omega),r3,V3,c3,HF.out.2.2.2.1,HF.out.2.2.2.2.1,HF.out.2.2.2.2.2.1,HF.out.2.1.same q (by omega),.inl ⟨HF.out.2.2.2.2.2.2,rfl⟩⟩;simp[results,L,go_sem,X0,e0,e1,e2,e3]
      .have HF:T (Yi R I W1 w4/\Wl R (F-c3) Yl w4/\Rb w4 (w.heap.size+1+1+1)/\XU m F x.tm (E.map Th.val) i c Yl V3 c3/\c<=c3/\c3<=F/\g.In m M R (fun x=>Q x/\x≠w.heap.size+1+1+1) w4/\g.val=V3/\Jl m i g):=⟨a9.out.trans b5,bh,(HB.out.1.kept (a9.out.trans b5) ae).r,cq.out _ _ _ _ _ _ _ cg.out au.out H8.out bi,by have:=a8.out.1;omega,aw,c4,ct⟩
       have aa:=c4.one;have b2:∀(a:Addr)(m:Mode)(W:Zc),(store a g.fn m).run P W=stored P W a g.fn m:=fun a m W=>Yw aa;simp only[Th.ag];obtain⟨r0,r1,r2,r4,y0,y1,y2,y3⟩:=HF.out.2.2.1;clear b5 bi bf aw bh c4 ct aa w0 x0 x1 x2 x3 x4 x5 x6 e0 a0 a1 a2 a3 z0 z1 z2 z3 c0 c1;go_wp2_with fail;obtain⟨g1,g2,g3,g4,g5,g6,g7,g8⟩:=HF.out;have aq:=Ui (m:=m) (M:=M) (Q:=Q) (h:=g) g3 (by omega) ae ((Yi.of_below HB.out.2.1).trans g1) g2 g7 (fun x hx=>hx);obtain⟨⟨e0,e1,e2,e3⟩,q,hW,hi⟩:=aq;refine O (v:=g.ag) ?_ rfl ⟨q,Yl,V3,c3,g4,g5,g6,hW,.inr ⟨rfl,g,rfl,hi,g8⟩⟩;simp[results,L,go_sem,Th.ag,e0,e1,e2,e3]
   .have H45:T (x.k=4\/x.k=5):=by
     rcases d6.out with h|h|h
     .exact .inl h
     .exact .inr h
     .exact absurd h h8
    have k8:(x.k==8)=Zd:=by simpa using h8
    clear h8;have fin:∀h:Th,((h.tag≠0/\h.val.k=5)\/(h.tag=0/\h.val=h.cv/\((h.k=1/\h.val=XF h.n)\/(h.k=2/\h.val=Xk h.n)\/(h.k=3/\(h.val.k=3\/h.val.k=4)/\(h.wy=1\/h.wy=2)))))->(h.tag≠0/\h.val.k≠1)\/(h.tag=0/\h.k≠1/\h.val.k≠1)\/(h.tag=0/\h.k=1/\h.val=XF h.n):=by
     intro h kd;rcases kd with⟨h1,k⟩|⟨h0,he,⟨h1,k⟩|⟨h1,k⟩|⟨h1,k,_⟩⟩
     .exact .inl ⟨h1,by omega⟩
     .exact .inr (.inr ⟨h0,h1,k⟩)
     .exact .inr (.inl ⟨h0,by omega,by rw[k];simp[Xk]⟩)
     .exact .inr (.inl ⟨h0,by omega,by omega⟩)
    have fa:=fin a bj;have fz:=fin z bv;clear fin bj bv;rcases fa with⟨h1,k⟩|⟨h0,h1,k⟩|⟨h0,h1,k⟩
    .have ht1:(a.tag != 0)=Ze:=by simpa using h1
     have HV:T (¬(a.val.k=1/\z.val.k=1)):=fun h=>k h.1;clear h1 k fz;have a6:T (XU m F x.tm (E.map Th.val) i c Yu z.val c2/\c<=c2/\c2<=F/\Yu.k≠0):=⟨bp.out _ _ _ _ _ HA.out.2.2.1 au.out H45.out HV.out,a8.out.1,a8.out.2,by decide⟩
     apply_assumption;go_wp2_with (go_at_call 94;refine(UF R _ _ HW.out).mono ?_;rintro e w2 ⟨rfl,l,k⟩;simp only[X0];have HF:T (Yi R I W1 w2/\Wl R (F-c2) Yu w2/\Rb w2 (w.heap.size+1+1+1)):=⟨a9.out.trans k,l,(HB.out.1.kept (a9.out.trans k) ae).r⟩;clear l k w0 x0 x1 x2 x3 x4 x5 x6 e0 a0 a1 a2 a3 z0 z1 z2 z3 c0 c1;obtain⟨r0,r1,r2,r3,y0,y1,y2,y3⟩:=HF.out.2.2)
     obtain⟨⟨e0,e1,e2,e3⟩,q⟩:=HF.out.2.2.set (D G 0) (D G 0) .nilFunc (D G 0);refine O (v:=X0) ?_ rfl ⟨((Yi.of_below HB.out.2.1).trans HF.out.1).new q (by omega),Yu,z.val,c2,a6.out.1,a6.out.2.1,a6.out.2.2.1,HF.out.2.1.same q (by omega),.inl ⟨a6.out.2.2.2,rfl⟩⟩;simp[results,L,go_sem,X0,e0,e1,e2,e3]
    .have ht1:(a.k != 1)=Ze:=by simpa using h1
     rw[h0] at a3;have HV:T (¬(a.val.k=1/\z.val.k=1)):=fun h=>k h.1;clear h0 h1 k fz;have a6:T (XU m F x.tm (E.map Th.val) i c Yu z.val c2/\c<=c2/\c2<=F/\Yu.k≠0):=⟨bp.out _ _ _ _ _ HA.out.2.2.1 au.out H45.out HV.out,a8.out.1,a8.out.2,by decide⟩
     apply_assumption;go_wp2_with (go_at_call 94;refine(UF R _ _ HW.out).mono ?_;rintro e w2 ⟨rfl,l,k⟩;simp only[X0];have HF:T (Yi R I W1 w2/\Wl R (F-c2) Yu w2/\Rb w2 (w.heap.size+1+1+1)):=⟨a9.out.trans k,l,(HB.out.1.kept (a9.out.trans k) ae).r⟩;clear l k w0 x0 x1 x2 x3 x4 x5 x6 e0 a0 a1 a2 a3 z0 z1 z2 z3 c0 c1;obtain⟨r0,r1,r2,r3,y0,y1,y2,y3⟩:=HF.out.2.2)
     obtain⟨⟨e0,e1,e2,e3⟩,q⟩:=HF.out.2.2.set (D G 0) (D G 0) .nilFunc (D G 0);refine O (v:=X0) ?_ rfl ⟨((Yi.of_below HB.out.2.1).trans HF.out.1).new q (by omega),Yu,z.val,c2,a6.out.1,a6.out.2.1,a6.out.2.2.1,HF.out.2.1.same q (by omega),.inl ⟨a6.out.2.2.2,rfl⟩⟩;simp[results,L,go_sem,X0,e0,e1,e2,e3]
    .rw[h0] at a3;rw[h1] at a0;have cl:=Un k (bu.out.nums h1);clear h0 h1 k;rcases fz with⟨h1,k⟩|⟨h0,h1,k⟩|⟨h0,h1,k⟩
     .have ht1:(z.tag != 0)=Ze:=by simpa using h1
      have HV:T (¬(a.val.k=1/\z.val.k=1)):=fun h=>k h.2;clear h1 k;have a6:T (XU m F x.tm (E.map Th.val) i c Yu z.val c2/\c<=c2/\c2<=F/\Yu.k≠0):=⟨bp.out _ _ _ _ _ HA.out.2.2.1 au.out H45.out HV.out,a8.out.1,a8.out.2,by decide⟩
      apply_assumption;go_wp2_with (go_at_call 94;refine(UF R _ _ HW.out).mono ?_;rintro e w2 ⟨rfl,l,k⟩;simp only[X0];have HF:T (Yi R I W1 w2/\Wl R (F-c2) Yu w2/\Rb w2 (w.heap.size+1+1+1)):=⟨a9.out.trans k,l,(HB.out.1.kept (a9.out.trans k) ae).r⟩;clear l k w0 x0 x1 x2 x3 x4 x5 x6 e0 a0 a1 a2 a3 z0 z1 z2 z3 c0 c1;obtain⟨r0,r1,r2,r3,y0,y1,y2,y3⟩:=HF.out.2.2)
      obtain⟨⟨e0,e1,e2,e3⟩,q⟩:=HF.out.2.2.set (D G 0) (D G 0) .nilFunc (D G 0);refine O (v:=X0) ?_ rfl ⟨((Yi.of_below HB.out.2.1).trans HF.out.1).new q (by omega),Yu,z.val,c2,a6.out.1,a6.out.2.1,a6.out.2.2.1,HF.out.2.1.same q (by omega),.inl ⟨a6.out.2.2.2,rfl⟩⟩;simp[results,L,go_sem,X0,e0,e1,e2,e3]
     .have ht1:(z.k != 1)=Ze:=by simpa using h1
      rw[h0] at z3;have HV:T (¬(a.val.k=1/\z.val.k=1)):=fun h=>k h.2;clear h0 h1 k;have a6:T (XU m F x.tm (E.map Th.val) i c Yu z.val c2/\c<=c2/\c2<=F/\Yu.k≠0):=⟨bp.out _ _ _ _ _ HA.out.2.2.1 au.out H45.out HV.out,a8.out.1,a8.out.2,by decide⟩
      apply_assumption;go_wp2_with (go_at_call 94;refine(UF R _ _ HW.out).mono ?_;rintro e w2 ⟨rfl,l,k⟩;simp only[X0];have HF:T (Yi R I W1 w2/\Wl R (F-c2) Yu w2/\Rb w2 (w.heap.size+1+1+1)):=⟨a9.out.trans k,l,(HB.out.1.kept (a9.out.trans k) ae).r⟩;clear l k w0 x0 x1 x2 x3 x4 x5 x6 e0 a0 a1 a2 a3 z0 z1 z2 z3 c0 c1;obtain⟨r0,r1,r2,r3,y0,y1,y2,y3⟩:=HF.out.2.2)
      obtain⟨⟨e0,e1,e2,e3⟩,q⟩:=HF.out.2.2.set (D G 0) (D G 0) .nilFunc (D G 0);refine O (v:=X0) ?_ rfl ⟨((Yi.of_below HB.out.2.1).trans HF.out.1).new q (by omega),Yu,z.val,c2,a6.out.1,a6.out.2.1,a6.out.2.2.1,HF.out.2.1.same q (by omega),.inl ⟨a6.out.2.2.2,rfl⟩⟩;simp[results,L,go_sem,X0,e0,e1,e2,e3]
     .rw[h0] at z3;rw[h1] at z0;have cn:=Un k (HZ.out.1.nums h1);clear h0 h1 k;have c7:T (XU m F u0.tm (E.map Th.val) p0 c Yl (XF a.n) c'):=cl.out.1▸HA.out.2.2.1;have c5:T (XU m F u1.tm (E.map Th.val) p1 c' Yl (XF z.n) c2):=cn.out.1▸au.out;obtain⟨di,dj⟩:=cl.out.2;obtain⟨dm,dl⟩:=cn.out.2;obtain⟨r0,r1,r2,r3,y0,y1,y2,y3⟩:=b1;by_cases h4:x.k=4
      .have HX4:T (XU m F x.tm (E.map Th.val) i c Yl (Ub 1 (min (max (a.n+z.n) (-1000000)) 1000000) x i).val c2):=by
        show XU _ _ _ _ _ _ _ _ _
        rw[Cc];have e:U4 (a.n+z.n)=(min (max (a.n+z.n) (-1000000)) 1000000):=by unfold U4;omega
        rw[<-e];exact d9.out _ _ _ _ c7.out c5.out h4
       have HL:T ((Ub 1 (min (max (a.n+z.n) (-1000000)) 1000000) x i).In m M R (fun _=>False) wc/\Jl m i (Ub 1 (min (max (a.n+z.n) (-1000000)) 1000000) x i)):=by
        refine⟨Th.In_iff.2 (.inl ⟨rfl,⟨rfl,.inl rfl,?_⟩⟩),S7 fun hm=>?_⟩
        .show -1000000<=(min (max (a.n+z.n) (-1000000)) 1000000)/\(min (max (a.n+z.n) (-1000000)) 1000000)<=1000000
         omega
        .rcases HR.out hm with⟨h',_⟩|⟨_,_,_,e⟩|⟨h',_⟩
         .omega
         .exact .inl ⟨rfl,e⟩
         .omega
       have k4:(x.k==4)=Ze:=by simpa using h4
       clear h4;apply_assumption;go_wp2_with fail;obtain⟨g1,g2⟩:=HL.out;have aq:=Ui (m:=m) (M:=M) (Q:=Q) (Q1:=fun _=>False) (h:=Ub 1 (min (max (a.n+z.n) (-1000000)) 1000000) x i) (HB.out.1.kept a9.out ae).r (by omega) ae ((Yi.of_below HB.out.2.1).trans a9.out) HW.out g1 (fun x hx=>hx.elim);obtain⟨⟨e0,e1,e2,e3⟩,q,hW,hi⟩:=aq;refine O (v:=(Ub 1 (min (max (a.n+z.n) (-1000000)) 1000000) x i).ag) ?_ rfl ⟨q,Yl,_,c2,HX4.out,a8.out.1,a8.out.2,hW,.inr ⟨rfl,_,rfl,hi,rfl,g2⟩⟩;simp only[Ub] at e0 e1 e2 e3;simp[results,L,go_sem,Th.ag,Ub,e0,e1,e2,e3]
      .have h5:x.k=5:=by have:=H45.out;omega
       have k4:(x.k==4)=Zd:=by simpa using h4
       have H5:=Yx h5;clear h4 h5;by_cases hlt:a.n<z.n
       .have HX4:T (XU m F x.tm (E.map Th.val) i c Yl (Ub 2 1 x i).val c2):=by
         show XU _ _ _ _ _ _ _ _ _
         rw[PF];have:=co.out _ _ _ _ c7.out c5.out H5.out;rwa [if_pos hlt] at this
        have HL:T ((Ub 2 1 x i).In m M R (fun _=>False) wc/\Jl m i (Ub 2 1 x i)):=by
         refine⟨Th.In_iff.2 (.inl ⟨rfl,⟨rfl,.inr rfl,by show -1000000<=(1:Int)/\(1:Int)<=1000000;omega⟩⟩),S7 fun hm=>?_⟩;have:=H5.out;rcases HR.out hm with⟨h',_⟩|⟨h',_⟩|⟨_,_,_,e⟩
         .omega
         .omega
         .exact .inr ⟨rfl,e⟩
        apply_assumption;go_wp2_with fail;obtain⟨g1,g2⟩:=HL.out;have aq:=Ui (m:=m) (M:=M) (Q:=Q) (Q1:=fun _=>False) (h:=Ub 2 1 x i) (HB.out.1.kept a9.out ae).r (by omega) ae ((Yi.of_below HB.out.2.1).trans a9.out) HW.out g1 (fun x hx=>hx.elim);obtain⟨⟨e0,e1,e2,e3⟩,q,hW,hi⟩:=aq;refine O (v:=(Ub 2 1 x i).ag) ?_ rfl ⟨q,Yl,_,c2,HX4.out,a8.out.1,a8.out.2,hW,.inr ⟨rfl,_,rfl,hi,rfl,g2⟩⟩;simp only[Ub] at e0 e1 e2 e3;simp[results,L,go_sem,Th.ag,Ub,e0,e1,e2,e3]
       .have HX4:T (XU m F x.tm (E.map Th.val) i c Yl (Ub 2 0 x i).val c2):=by
         show XU _ _ _ _ _ _ _ _ _
         rw[PF];have:=co.out _ _ _ _ c7.out c5.out H5.out;rwa [if_neg hlt] at this
        have HL:T ((Ub 2 0 x i).In m M R (fun _=>False) wc/\Jl m i (Ub 2 0 x i)):=by
         refine⟨Th.In_iff.2 (.inl ⟨rfl,⟨rfl,.inr rfl,by show -1000000<=(0:Int)/\(0:Int)<=1000000;omega⟩⟩),S7 fun hm=>?_⟩;have:=H5.out;rcases HR.out hm with⟨h',_⟩|⟨h',_⟩|⟨_,_,_,e⟩
         .omega
         .omega
         .exact .inr ⟨rfl,e⟩
        apply_assumption;go_wp2_with fail;obtain⟨g1,g2⟩:=HL.out;have aq:=Ui (m:=m) (M:=M) (Q:=Q) (Q1:=fun _=>False) (h:=Ub 2 0 x i) (HB.out.1.kept a9.out ae).r (by omega) ae ((Yi.of_below HB.out.2.1).trans a9.out) HW.out g1 (fun x hx=>hx.elim);obtain⟨⟨e0,e1,e2,e3⟩,q,hW,hi⟩:=aq;refine O (v:=(Ub 2 0 x i).ag) ?_ rfl ⟨q,Yl,_,c2,HX4.out,a8.out.1,a8.out.2,hW,.inr ⟨rfl,_,rfl,hi,rfl,g2⟩⟩;simp only[Ub] at e0 e1 e2 e3;simp[results,L,go_sem,Th.ag,Ub,e0,e1,e2,e3]
end Go.Proofs.YtnddkmccagiclabGreatDoor
