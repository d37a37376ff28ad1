import Derived.Test.YtnddkmccagiclabGreatDoorZtx
set_option maxRecDepth 20000
set_option maxHeartbeats 16000000
open Go.RowKit Go.Proofs.Tryz
open List renaming setIfInBounds_toArray→C,set_cons_zero→D,set_cons_succ→G
open Go.Value renaming int→H,slice→U,pointer→Z,agg→Zk
open Go.IntKind renaming i64→I
open Go.Act renaming put→J
open Option renaming none→L,some→Zd
open Nat renaming le_refl→N,zero_add→Zh
open Go.Proofs.Tryz renaming prog→O,results59→Za,ntmps59→Zp,func59→Zr
open Go.RowKit.Below renaming refl→T
open Go renaming wpAnyH_done→Zb,bodyPost_ret→Zc,wp_region_held_drew→Zf,World→Zj,Calls→Zm,stored→Zo,store→Zq
open Go.RowKit renaming Hid→Ze
open Bool renaming true→Zg,false→Zn
open Go.World renaming block_lt_of_cell?→Zi
open Go.Obj renaming cells→Zl
namespace Go.Proofs.YtnddkmccagiclabGreatDoor
theorem AW{a b:Nat}{x y:Array Value}(h:Value.func (.func a) #[] x=.func (.func b) #[] y):a=b/\x=y:=by simpa using h
theorem Dk{m:Bool}{M R F c:Nat}(hF:F<=1000)(hM:M<=10000)(hc:c<=F)(ev:c<F->Ct m M R F (c+1)):C8 m M R F c:=by
 intro h;induction h using Th.ind with
 |h h ie ii=>
  intro A B j am an a9 a7 Q X W hi hX ac hw hQ nw;rcases Th.In_iff.1 hi with⟨h0,_⟩|⟨h1,b,a8⟩|⟨h2,r,⟨v,hp⟩,a0⟩
  .omega
  .obtain⟨rfl,rfl⟩:=AW (a9.symm.trans b.fn);have hl:h.x.l.length=1:=by have:=b.xs.1.top.2.2.1;rw[TT.tm_l,List.length_map,TT.tm_k,b.xk] at this;exact this
   obtain⟨y,hy⟩:∃y,h.x.l=[y]:=List.length_eq_one_iff.1 hl;have e:h.x.tm.at 0=y.tm:=by rw[Tm.at,TT.tm_l,hy];rfl
   have o:0<h.x.tm.l.length:=by rw[TT.tm_l,List.length_map];omega
   by_cases hcF:c=F
   .exact Bm m M R F c Q h X B W b hX hw hcF hQ h1
   .obtain⟨k,hk⟩:∃k,F-c=k+1:=⟨F-c-1,by omega⟩
    refine CV m M R F c k Q h X y B W b a8 hX hw hk hF hM hQ nw h1 hy (fun Q' ea ec W' ae af hE ah ai al=>?_);refine ev (by omega) y (X::h.env) B ea ec ⟨⟨e▸b.xs.1.part o,fun r=>e▸(b.xs.2 r).part o⟩,?_,fun r=>?_⟩ Q' W' ae af hE ah ai al
    .have h1:=b.sz;have h2:=Uu o;rw[e] at h2;simp only[List.length_cons];omega
    .obtain⟨ho,d⟩:=a7 r;rcases (Th.ok_iff.1 ho).2 with⟨w,_⟩|⟨_,⟨A',B',e1,z⟩,aj⟩|⟨w,_⟩
     .omega
     .rw[d] at e1;obtain⟨rfl,rfl⟩:=UL e1;rw[e] at z;obtain⟨a1,a2⟩:=ac r;refine⟨?_,fun u hu=>?_⟩
      .rw[List.map_cons,a2];exact z
      .rcases List.mem_cons.1 hu with rfl|hu
       .exact a1
       .exact aj u hu
     .omega
  .subst r;obtain⟨rfl,rfl⟩:=AW (a9.symm.trans hp.fn);obtain⟨ho,d⟩:=a7 rfl;have e0:h.t.ty.l.getD 0 Yn=A:=by rw[d];rfl
   have e1:h.t.ty.l.getD 1 Yn=B:=by rw[d];rfl
   have l:v∈h.inn:=by rw[hp.inn];simp
   have aa:=a0 v l;obtain⟨x,i⟩:v.ok/\v.t.ty=h.f.ty:=by
    rcases (Th.ok_iff.1 ho).2 with⟨w,_⟩|⟨w,_⟩|⟨_,hh⟩
    .omega
    .omega
    .exact hh v l
   obtain⟨f0,f1,hf,_,_⟩:=Qr hp.fg (by rw[Tr.ty_k];exact hp.fk);obtain⟨q,a,ak,g,ad⟩:∃q a,(q=95\/q=131)/\v.fn=.func (.func q) #[] a/\(v.wy=1\/v.wy=2):=by
    rcases Th.In_iff.1 aa with⟨w0,_⟩|⟨w1,c1,_⟩|⟨w2,_,⟨u,p⟩,_⟩
    .exfalso;rcases (Th.ok_iff.1 x).2 with⟨_,⟨_,e⟩|⟨_,e⟩⟩|⟨w,_⟩|⟨w,_⟩
     .rw[i,hf] at e;simp[YN,UY] at e
     .rw[i,hf] at e;simp[YN,Xp] at e
     .omega
     .omega
    .exact⟨95,_,.inl rfl,c1.fn,.inl w1⟩
    .exact⟨131,_,.inr rfl,p.fn,.inr w2⟩
   have ab:=BX M R F c Q h v X W hp aa hX (by rw[e0];exact ac) hw hc hQ nw h2 q ak a g (fun Q' Y W' a1 a2 a3 a4 a5 a6=>ii v l (h.f.ty.l.getD 0 Yn) (h.f.ty.l.getD 1 Yn) q a ad g (fun _=>⟨x,by rw[i,hf];rfl⟩) Q' Y W' a1 a2 a3 a4 a5 a6);rw[e1] at ab;exact ab
theorem Cf(m:Bool)(M R F c:Nat)(Q:Nat->Prop)(x y:TT)(E:List Th)(i:Ty)(ea:Option Addr)(ec:Nat)(w:Zj)(j:x.k=9)(hy:x.l=[y])(hx:x.In w)(a6:x.Bl Q)(hE:OY m M R Q w ea E)(hw:Wl R (F-c) Yl w)(hQ:¬Q R)(nw:∀b,w.heap.size<=b->Q b)
  (ih:Ze (∀(Q':Nat->Prop)(W:Zj),y.In W->y.Bl Q'->OY m M R Q' W ea E->Wl R (F-c) Yl W->¬Q' R->(∀b,W.heap.size<=b->Q' b)->Zm O 59 #[Z (Zd ⟨R,0,L⟩),Zk #[H I y.k,H I y.n,H I y.t.k,U y.t.a y.t.l.length y.t.c,H I y.f.k,U y.f.a y.f.l.length y.f.c,U y.a y.l.length y.c],U ea E.length ec] W (Xi m M R F c Q' W i (XU m F y.tm (E.map Th.val) i c)))) :
  Zm O 59 #[Z (Zd ⟨R,0,L⟩),Zk #[H I x.k,H I x.n,H I x.t.k,U x.t.a x.t.l.length x.t.c,H I x.f.k,U x.f.a x.f.l.length x.f.c,U x.a x.l.length x.c],U ea E.length ec] w (Xi m M R F c Q w i (XU m F x.tm (E.map Th.val) i c)):=by
 have ae:=hw.lt;obtain⟨W1,a1⟩:∃W,W=Pc R x ea E.length ec w:=⟨_,rfl⟩
 obtain⟨hB,a0,ac⟩:=J3 R x ea E.length ec w;rw[<-a1] at hB a0 ac;have ad:=hw.below a0;have HB:=KS hB a0 ad;obtain⟨k,o,aa,g,a2⟩:=hx.part 0 (by rw[hy];simp);have af:x.l[0]'(by rw[hy];simp)=y:=by simp[hy]
 rw[af] at g a2;simp only[Nat.zero_mul,Nat.add_zero] at g;have ah:x.l.length=1:=by rw[hy];rfl
 have l:Q k:=a6.own (by rw[hy];simp) _ aa;have a4:y.Bl Q:=a6.mem (by rw[hy];simp);have a3:∀W,Yi R L W1 W->XJ Q w W:=fun W j b hb hq=>by have hs:=a0.size;rw[j.block b (by omega) (fun e=>hQ (e▸hq)) (by simp)];exact a0.block b hb
 have HK:Ze (∀W,SK R (w.heap.size+1+1+1) W1 W->cL W w.heap.size 0 (Z (Zd ⟨R,0,L⟩))/\cL W (w.heap.size+1) 6 (U (Zd ⟨k,o,L⟩) 1 x.c)/\cL W k o (H I y.k)/\cL W k (o+1) (H I y.n)/\cL W k (o+2) (H I y.t.k)/\cL W k (o+3) (y.t.s)/\cL W k (o+4) (H I y.f.k)/\cL W k (o+5) (y.f.s)/\cL W k (o+6) (y.s)/\cL W (w.heap.size+1+1) 0 (U ea E.length ec)):=fun W j=>by have p:∀b i u,cL w b i u->Q b->cL W b i u:=fun b i u e hb=>j b i u ((a3 W1 Yi.refl).cell e hb) (fun e=>hQ (e▸hb)) (by have:b<w.heap.size:=Zi _ _ e;omega);have ak:=hB.x7.c6;rw[aa,ah] at ak;exact⟨j _ _ _ hB.w0 (by omega) (by omega),j _ _ _ ak (by omega) (by omega),p _ _ _ g.c0 l,p _ _ _ g.c1 l,p _ _ _ g.c2 l,p _ _ _ g.c3 l,p _ _ _ g.c4 l,p _ _ _ g.c5 l,p _ _ _ g.c6 l,j _ _ _ hB.e0 (by omega) (by omega)⟩
 have HI:Ze (∀W,Yi R L W1 W->Wl R (F-c) Yl W->Zm O 59 #[Z (Zd ⟨R,0,L⟩),Zk y.v,U ea E.length ec] W (Xi m M R F c (fun b=>Q b/\b≠w.heap.size+1+1+1) W i (XU m F y.tm (E.map Th.val) i c))):=fun W j ao=>by have ar:=j.size;exact ih.out (fun b=>Q b/\b≠w.heap.size+1+1+1) W (a2.same (a3 W j) a4) ((a4.and a2.bl).mono fun b hb=>⟨hb.1,by omega⟩) ((hE.mono (Q':=(fun b=>Q b/\b≠w.heap.size+1+1+1)) fun x h1 h2=>⟨h2,by omega⟩).same fun b h1 h2=>a3 W j b h1 h2.1) ao (fun hx=>hQ hx.1) (fun b hb=>⟨nw b (by omega),by omega⟩)
 have HE:Ze (∀r V c',XU m F y.tm (E.map Th.val) i c r V c'->XU m F x.tm (E.map Th.val) i c r V c'):=fun r V c' h=>by
  have e:x.tm.at 0=y.tm:=by rw[Tm.at,TT.tm_l,hy];rfl
  exact⟨Dj (by rw[TT.tm_k];exact j) (by rw[e];exact h.1),h.2⟩
 have i0:(0:Int)<((1:Nat):Int):=by omega
 obtain⟨c0,c1,_,_,_,_,_,_⟩:=ad;replace c1:cL W1 R 1 (H I 0):=c1;obtain⟨w0,⟨x0,x1,x2,x3,x4,x5,x6⟩,e0,⟨r0,r1,r2,r3,y0,y1,y2,y3⟩⟩:=hB;simp only[Zh] at x1 x2 x3 x4 x5 x6;rw[j] at x0;have a9:Yi R L W1 W1.drew:=Yi.of_below ((T _ _).drew);have ai:Wl R (F-c) Yl W1.drew:=HB.out.2.2.below ((T _ _).drew);clear j hx a6 hE hw nw a0 ac a3 a2 a4 ah g aa l af hy hQ ih;go_enter Zr,Zp;go_upto_region 1 with fail;unfold Pc at a1;rw[<-a1];clear a1;go_upto_region 14 with fail;clear x0 x1 x2 x3 x4 x5 x6 e0 r0 r1 r2 r3 y0 y1 y2 y3 c0 c1 w0;refine Zf (S:=fun W=>cL W w.heap.size 0 (Z (Zd ⟨R,0,L⟩))/\cL W (w.heap.size+1) 6 (U (Zd ⟨k,o,L⟩) 1 x.c)/\cL W k o (H I y.k)/\cL W k (o+1) (H I y.n)/\cL W k (o+2) (H I y.t.k)/\cL W k (o+3) (y.t.s)/\cL W k (o+4) (H I y.f.k)/\cL W k (o+5) (y.f.s)/\cL W k (o+6) (y.s)/\cL W (w.heap.size+1+1) 0 (U ea E.length ec)) (by kernel_rfl) (HK.out _ ((SK.refl _ _ _).kept a9)) (fun d=>?_);refine qk 0 (v:=?_) rfl (by kernel_rfl) (fun _ _ _ h=>h) (by rfl) d ?_ ?_;rotate_left;(focus (intro w' h;go_split_ands;go_simp;try with_reducible rfl));simp only[J,C,D,G];refine qk 1 (v:=?_) rfl (by kernel_rfl) (fun _ _ _ h=>h) (by rfl) d ?_ ?_;rotate_left;(focus (intro w' h;go_split_ands;go_simp;try with_reducible rfl));simp only[J,C,D,G];refine qk 2 (v:=?_) rfl (by kernel_rfl) (fun _ _ _ h=>h) (by rfl) d ?_ ?_;rotate_left;(focus (intro w' h;go_split_ands;go_simp;try with_reducible rfl));simp only[J,C,D,G];refine qk 3 (v:=?_) rfl (by kernel_rfl) (fun _ _ _ h=>h) (by rfl) d ?_ ?_;rotate_left;(focus (intro w' h;go_split_ands;go_simp;try with_reducible rfl));simp only[J,C,D,G];refine qk 4 (v:=?_) rfl (by kernel_rfl) (fun _ _ _ h=>h) (by rfl) d ?_ ?_;rotate_left;(focus (intro w' h;go_split_ands;go_simp;try with_reducible rfl));simp only[J,C,D,G];refine qk 5 (v:=?_) rfl (by kernel_rfl) (fun _ _ _ h=>h) (by rfl) d ?_ ?_;rotate_left;(focus (intro w' h;go_split_ands;go_simp;try with_reducible rfl));simp only[J,C,D,G];refine YS (i:=6) rfl (by kernel_rfl) (fun K hK=>?_);go_simp;refine(HI.out _ a9 ai).mono ?_;rintro e w5 ⟨ab,r,V,c',hS,am,aj,al,a7⟩;have a8:=a9.trans ab;have HF:Ze (Yi R L W1 w5/\Wl R (F-c') r w5/\Rb w5 (w.heap.size+1+1+1)/\XU m F x.tm (E.map Th.val) i c r V c'):=⟨a8,al,(HB.out.1.kept a8 ae).r,HE.out _ _ _ hS⟩
 have q:SK R (w.heap.size+1+1+1) W1 w5:=(SK.refl _ _ _).kept a8;obtain⟨r0,r1,r2,r3,y0,y1,y2,y3⟩:=HF.out.2.2.1;clear hS al ab HI;rcases a7 with⟨hr,rfl⟩|⟨rfl,z,rfl,a5,an⟩
 .simp only[X0];refine hK.out _ _ (HK.out _ q) (fun d=>?_);clear hK K;(try simp only[J,C,D,G])
  refine YS (i:=7) rfl (by kernel_rfl) (fun K hK=>?_);go_simp;refine hK.out _ _ (HK.out _ ((((q.set _ _).set _ _).set _ _).set _ _)) (fun d=>?_);clear hK K;(try simp only[J,C,D,G])
  refine Zb (by kernel_rfl) ?_ _;clear d;go_wp2_with fail;obtain⟨⟨e0,e1,e2,e3⟩,j⟩:=HF.out.2.2.1.set (H I 0) (H I 0) .nilFunc (H I 0);refine Zc (v:=X0) ?_ rfl ⟨((Yi.of_below HB.out.2.1).trans HF.out.1).new j (by omega),r,V,c',HF.out.2.2.2,am,aj,HF.out.2.1.same j (by omega),.inl ⟨hr,rfl⟩⟩;simp[results,Za,go_sem,X0,e0,e1,e2,e3]
 .have hone:=a5.one;have aq:∀(a:Addr)(m:Mode)(W:Zj),(Zq a z.fn m).run O W=Zo O W a z.fn m:=fun a m W=>Yw hone;have ap:Ze _:=Ui (Q:=Q) (h:=z) HF.out.2.2.1 (by omega) ae ((Yi.of_below HB.out.2.1).trans HF.out.1) HF.out.2.1 a5 (fun x hx=>hx);clear a5 hone;simp only[Th.ag];refine hK.out _ _ (HK.out _ q) (fun d=>?_);clear hK K;(try simp only[J,C,D,G])
  refine YS (i:=7) rfl (by kernel_rfl) (fun K hK=>?_);go_simp;refine hK.out _ _ (HK.out _ ((((q.set _ _).set _ _).set _ _).set _ _)) (fun d=>?_);clear hK K;(try simp only[J,C,D,G])
  refine Zb (by kernel_rfl) ?_ _;clear d;go_wp2_with fail;obtain⟨⟨e0,e1,e2,e3⟩,j,hW,hi⟩:=ap.out;refine Zc (v:=z.ag) ?_ rfl ⟨j,Yl,V,c',HF.out.2.2.2,am,aj,hW,.inr ⟨rfl,z,rfl,hi,an⟩⟩;simp[results,Za,go_sem,Th.ag,e0,e1,e2,e3]
theorem V8(M R F c:Nat)(Q:Nat->Prop)(x y:TT)(E:List Th)(ea:Option Addr)(ec:Nat)(w:Zj)(hk:x.k=10)(hy:x.l=[y])(hx:x.In w)(ac:x.Bl Q)(hE:OY Zg M R Q w ea E)(az:Ym 46 x.f.ty=Zg)(b2:Ym 46 x.t.ty=Zg)(ak:YC Yk x.f.ty x.t.ty=Zg)(hw:Wl R (F-c) Yl w)(hQ:¬Q R)(nw:∀b,w.heap.size<=b->Q b)(ih:Cs Zg M R F c y E x.f.ty ea ec):
  Zm O 59 #[Z (Zd ⟨R,0,L⟩),Zk #[H I x.k,H I x.n,H I x.t.k,U x.t.a x.t.l.length x.t.c,H I x.f.k,U x.f.a x.f.l.length x.f.c,U x.a x.l.length x.c],U ea E.length ec] w (Xi Zg M R F c Q w x.t.ty (XU Zg F x.tm (E.map Th.val) x.t.ty c)):=by
 have af:=hw.lt;obtain⟨W1,ap⟩:∃W,W=Pc R x ea E.length ec w:=⟨_,rfl⟩
 obtain⟨hB,ah,b9⟩:=J3 R x ea E.length ec w;rw[<-ap] at hB ah b9;have b4:=hw.below ah;have HB:=KS hB ah b4;have b5:x.l.length=1:=by rw[hy];rfl
 obtain⟨bx,ox,ao⟩:∃bx ox,x.a=Zd ⟨bx,ox,L⟩:=by obtain⟨b,o,e,_⟩:=hx.part 0 (by omega);exact⟨b,o,e⟩
 have a9:Q bx:=ac.own (by rw[hy];simp) _ ao;have ae:∀W,Yi R L W1 W->XJ Q w W:=fun W hk b hb hq=>by have hs:=ah.size;rw[hk.block b (by omega) (fun e=>hQ (e▸hq)) (by simp)];exact ah.block b hb
 have bg:w.heap.size+1+1+1+1<=W1.heap.size:=by omega
 obtain⟨a8,b0⟩:X4 w bx (ox) y/\y.In w:=by
  obtain⟨b',o',e',h7,hi⟩:=hx.part 0 (by omega);rw[ao] at e';obtain⟨rfl,rfl⟩:bx=b'/\ox=o':=by simpa using e'
  exact⟨by simpa[hy] using h7,by simpa[hy] using hi⟩
 have b1:y.Bl Q:=ac.mem (by rw[hy];simp);have HK:Ze (∀W,Yi R L W1 W->cL W w.heap.size 0 (Z (Zd ⟨R,0,L⟩))/\cL W (w.heap.size+1) 6 (U (Zd ⟨bx,ox,L⟩) 1 x.c)/\cL W bx ox (H I y.k)/\cL W bx (ox+1) (H I y.n)/\cL W bx (ox+2) (H I y.t.k)/\cL W bx (ox+3) (y.t.s)/\cL W bx (ox+4) (H I y.f.k)/\cL W bx (ox+5) (y.f.s)/\cL W bx (ox+6) (y.s)/\cL W (w.heap.size+1+1) 0 (U ea E.length ec)):=fun W hk=>by have ad:∀b i u,cL w b i u->Q b->cL W b i u:=fun b i u e hb=>(ae W hk).cell e hb;have b6:=hB.x7.c6;rw[ao,b5] at b6;exact⟨hk.cell hB.w0 (by omega),hk.cell b6 (by omega),ad _ _ _ a8.c0 a9,ad _ _ _ a8.c1 a9,ad _ _ _ a8.c2 a9,ad _ _ _ a8.c3 a9,ad _ _ _ a8.c4 a9,ad _ _ _ a8.c5 a9,ad _ _ _ a8.c6 a9,hk.cell hB.e0 (by omega)⟩
 have HI:Ze (∀(z:Nat)(W:Zj),Yi R L W1 W->Wl R (F-c) Yl W->w.heap.size<=z->z<W.heap.size->Zm O 59 #[Z (Zd ⟨R,0,L⟩),Zk y.v,U ea E.length ec] W (Xi Zg M R F c (fun b=>Q b/\b≠w.heap.size+1+1+1/\b≠z) W x.f.ty (XU Zg F y.tm (E.map Th.val) x.f.ty c))):=fun z W hk bc bm bk=>by have bi:=hk.size;exact ih (fun b=>Q b/\b≠w.heap.size+1+1+1/\b≠z) W (b0.same (ae W hk) b1) ((b1.and b0.bl).mono fun b hb=>⟨hb.1,by omega,by omega⟩) ((hE.mono (Q':=(fun b=>Q b/\b≠w.heap.size+1+1+1/\b≠z)) fun x h1 h2=>⟨h2,by omega,by omega⟩).same fun b h1 h2=>ae W hk b h1 h2.1) bc (fun hx=>hQ hx.1) (fun b hb=>⟨nw b (by omega),by omega,by omega⟩)
 have ay:x.tm.at 0=y.tm:=by rw[Tm.at,TT.tm_l,hy];rfl
 have HX:Ze (∀W,Yi R L W1 W->x.f.In W/\x.t.In W):=fun W hk=>⟨hx.f.same (ae W hk) ac.f,hx.t.same (ae W hk) ac.t⟩
 have au:Ze (x.f.Bl (fun x=>Q x/\x≠w.heap.size+1+1+1)/\x.t.Bl (fun x=>Q x/\x≠w.heap.size+1+1+1)/\¬Q R/\(∀b,w.heap.size<=b->Q b)):=⟨(ac.f.and hx.f.bl).mono fun b hb=>⟨hb.1,by omega⟩,(ac.t.and hx.t.bl).mono fun b hb=>⟨hb.1,by omega⟩,hQ,nw⟩
 have HG:=KS az b2 ak;have bb:Ze (∀r V c',XU Zg F y.tm (E.map Th.val) x.f.ty c r V c'->r.k≠0->XU Zg F x.tm (E.map Th.val) x.t.ty c r V c'):=fun r V c' h hr=>⟨RP (by rw[TT.tm_k];exact hk) (by rw[ay];exact h.1) hr,fun _ h0=>absurd h0 hr⟩
 have bf:Ze (∀V c',XU Zg F y.tm (E.map Th.val) x.f.ty c Yl V c'->XU Zg F x.tm (E.map Th.val) x.t.ty c (Xd (Yq x.f.ty x.t.ty ⟨4,x.n,Zn⟩) V).1 (Xd (Yq x.f.ty x.t.ty ⟨4,x.n,Zn⟩) V).2 c'):=fun V c' h=>by have h1:=Cg (x:=x.tm) (by rw[TT.tm_k];exact hk) (by rw[ay];exact h.1) rfl;rw[TT.tm_f,TT.tm_t,TT.tm_n] at h1;exact⟨h1,fun hm h0=>(Tz (JV az b2 ak rfl) (h.2 hm rfl)).1 h0⟩
 have i0:(0:Int)<((1:Nat):Int):=by omega
 obtain⟨c0,c1,_,_,_,_,_,_⟩:=b4;replace c1:cL W1 R 1 (H I 0):=c1;obtain⟨w0,⟨x0,x1,x2,x3,x4,x5,x6⟩,e0,⟨r0,r1,r2,r3,y0,y1,y2,y3⟩⟩:=hB;simp only[Zh] at x1 x2 x3 x4 x5 x6;rw[hk] at x0;have an:Yi R L W1 W1.drew:=Yi.of_below ((T _ _).drew);have av:Wl R (F-c) Yl W1.drew:=HB.out.2.2.below ((T _ _).drew);clear hk hx ac hE hw nw ah b9 ae a8 b0 b1 b5 ao a9 hy hQ ih az b2 ak ay;go_enter Zr,Zp;go_upto_region 1 with fail;unfold Pc at ap;rw[<-ap];clear ap;go_upto_region 16 with fail;clear x0 x1 x2 x3 x4 x5 x6 e0 r0 r1 r2 r3 y0 y1 y2 y3 c0 c1 w0;go_cut [7] (fun ts wx=>∃bs:Nat,ts=Z (Zd ⟨bs,0,L⟩)/\Ze (UX Zg M R F c Q w W1 y E x.f.ty bs wx))
 case first=>
  refine Zf (S:=fun W=>cL W w.heap.size 0 (Z (Zd ⟨R,0,L⟩))/\cL W (w.heap.size+1) 6 (U (Zd ⟨bx,ox,L⟩) 1 x.c)/\cL W bx ox (H I y.k)/\cL W bx (ox+1) (H I y.n)/\cL W bx (ox+2) (H I y.t.k)/\cL W bx (ox+3) (y.t.s)/\cL W bx (ox+4) (H I y.f.k)/\cL W bx (ox+5) (y.f.s)/\cL W bx (ox+6) (y.s)/\cL W (w.heap.size+1+1) 0 (U ea E.length ec)) (by kernel_rfl) (HK.out _ an) (fun d=>?_);refine qk 0 (v:=?_) rfl (by kernel_rfl) (fun _ _ _ h=>h) (by rfl) d ?_ ?_;rotate_left;(focus (intro w' h;go_split_ands;go_simp;try with_reducible rfl));simp only[J,C,D,G];refine qk 1 (v:=?_) rfl (by kernel_rfl) (fun _ _ _ h=>h) (by rfl) d ?_ ?_;rotate_left;(focus (intro w' h;go_split_ands;go_simp;try with_reducible rfl));simp only[J,C,D,G];refine qk 2 (v:=?_) rfl (by kernel_rfl) (fun _ _ _ h=>h) (by rfl) d ?_ ?_;rotate_left;(focus (intro w' h;go_split_ands;go_simp;try with_reducible rfl));simp only[J,C,D,G];refine qk 3 (v:=?_) rfl (by kernel_rfl) (fun _ _ _ h=>h) (by rfl) d ?_ ?_;rotate_left;(focus (intro w' h;go_split_ands;go_simp;try with_reducible rfl));simp only[J,C,D,G];refine qk 4 (v:=?_) rfl (by kernel_rfl) (fun _ _ _ h=>h) (by rfl) d ?_ ?_;rotate_left;(focus (intro w' h;go_split_ands;go_simp;try with_reducible rfl));simp only[J,C,D,G];refine qk 5 (v:=?_) rfl (by kernel_rfl) (fun _ _ _ h=>h) (by rfl) d ?_ ?_;rotate_left;(focus (intro w' h;go_split_ands;go_simp;try with_reducible rfl));simp only[J,C,D,G];refine NY (i:=6) (j:=7) rfl rfl (by kernel_rfl) (fun K l=>?_) (fun K l=>?_)
  .go_simp;refine(HI.out w.heap.size _ an av (N _) (by show _<W1.heap.size;omega)).mono ?_;rintro e w2 ⟨h2,rr,VV,cc,a6,q,p,a3,a1⟩;have k:=an.trans h2;have bh:=k.size;rcases a1 with⟨hr,rfl⟩|⟨rfl,z,rfl,a0,a4⟩
   .have a7:bL w2 (w2.alloc (Zl #[H I 0,H I 0,.nilFunc,H I 0] 103)):=(T _ _).alloc (N _) _;have HN:Ze (UX Zg M R F c Q w W1 y E x.f.ty w2.heap.size (w2.alloc (Zl #[H I 0,H I 0,.nilFunc,H I 0] 103))):=⟨by omega,k.trans (Yi.of_below a7),rr,VV,cc,a6,q,p,a3.below a7,.inl hr⟩
    clear hr a6;simp only[X0];refine l.out _ _ (HK.out _ k) (fun d=>?_);clear l K;(try simp only[J,C,D,G])
    refine YS (i:=7) rfl (by kernel_rfl) (fun K l=>?_);go_simp;refine l.out _ _ (HK.out _ (k.trans (Yi.of_below ((T _ _).alloc (N _) _)))) (fun d=>?_);clear l K;(try simp only[J,C,D,G])
    refine YS (i:=8) rfl (by kernel_rfl) (fun K l=>?_);go_simp;refine l.out _ _ (HK.out _ (k.trans (Yi.of_below a7))) (fun d=>?_);clear l K;(try simp only[J,C,D,G])
    refine Zb (by kernel_rfl) ?_ _;clear d q p a3;go_wp2_with fail;go_meet
    case rel=>exact⟨_,rfl,HN⟩
   .have hone:=a0.one;have ax:∀(a:Addr)(m:Mode)(W:Zj),(Zq a z.fn m).run O W=Zo O W a z.fn m:=fun a m W=>Yw hone;have a7:bL w2 (w2.alloc (Zl z.v 103)):=(T _ _).alloc (N _) _;have HN:Ze (UX Zg M R F c Q w W1 y E x.f.ty w2.heap.size (w2.alloc (Zl z.v 103))):=⟨by omega,k.trans (Yi.of_below a7),Yl,VV,cc,a6,q,p,a3.below a7,.inr ⟨rfl,z,⟨by simp[go_sem],by simp[go_sem],by simp[go_sem],by simp[go_sem]⟩,(a0.same (XJ.of_below a7)).mono (fun x _ hx=>⟨hx.1,hx.2.1⟩),a4⟩⟩
    clear a6 a0 a4 hone;simp only[Th.ag];refine l.out _ _ (HK.out _ k) (fun d=>?_);clear l K;(try simp only[J,C,D,G])
    refine YS (i:=7) rfl (by kernel_rfl) (fun K l=>?_);go_simp;refine l.out _ _ (HK.out _ (k.trans (Yi.of_below ((T _ _).alloc (N _) _)))) (fun d=>?_);clear l K;(try simp only[J,C,D,G])
    refine YS (i:=8) rfl (by kernel_rfl) (fun K l=>?_);go_simp;refine l.out _ _ (HK.out _ (k.trans (Yi.of_below a7))) (fun d=>?_);clear l K;(try simp only[J,C,D,G])
    refine Zb (by kernel_rfl) ?_ _;clear d q p a3;go_wp2_with fail;go_meet
    case rel=>exact⟨_,rfl,HN⟩
  .go_simp;have b3:Yi R L W1 (W1.alloc (Zl #[H I 0,H I 0,.nilFunc,H I 0] 103)).drew:=Yi.of_below (((T _ _).alloc (N _) _).drew);refine l.out _ _ (HK.out _ b3) (fun d=>?_);clear l K;(try simp only[J,C,D,G])
   refine YS (i:=6) rfl (by kernel_rfl) (fun K l=>?_);go_simp;refine(HI.out W1.heap.size _ b3 (HB.out.2.2.below (((T _ _).alloc (N _) _).drew)) (by omega) (by show _<(W1.alloc (Zl #[H I 0,H I 0,.nilFunc,H I 0] 103)).heap.size;simp)).mono ?_;rintro e w2 ⟨h2,rr,VV,cc,a6,q,p,a3,a1⟩;have k:=b3.trans h2;have q9:Rb w2 W1.heap.size:=((Rb.new W1).below ((T _ _).drew)).kept h2 (by omega);rcases a1 with⟨hr,rfl⟩|⟨rfl,z,rfl,a0,a4⟩
   .obtain⟨⟨g0,g1,g2,g3⟩,a2⟩:=q9.set (H I 0) (H I 0) .nilFunc (H I 0);have HN:Ze (UX Zg M R F c Q w W1 y E x.f.ty W1.heap.size ((((w2.setCell ⟨W1.heap.size,0,L⟩ (H I 0)).setCell ⟨W1.heap.size,1,L⟩ (H I 0)).setCell ⟨W1.heap.size,2,L⟩ .nilFunc).setCell ⟨W1.heap.size,3,L⟩ (H I 0))):=⟨by omega,k.new a2 (N _),rr,VV,cc,a6,q,p,a3.same a2 (by omega),.inl hr⟩
    have aj:=k.new a2 (N _);clear hr a6;simp only[X0];obtain⟨p0,p1,p2,p3,x0,x1,x2,x3⟩:=q9;clear g0 g1 g2 g3 a2;refine l.out _ _ (HK.out _ k) (fun d=>?_);clear l K;(try simp only[J,C,D,G])
    refine YS (i:=8) rfl (by kernel_rfl) (fun K l=>?_);go_simp;refine l.out _ _ (HK.out _ aj) (fun d=>?_);clear l K;(try simp only[J,C,D,G])
    refine Zb (by kernel_rfl) ?_ _;obtain⟨V9,ab⟩:∃V9,V9=(((w2.setCell ⟨W1.heap.size,0,L⟩ (H I 0)).setCell ⟨W1.heap.size,1,L⟩ (H I 0)).setCell ⟨W1.heap.size,2,L⟩ .nilFunc).setCell ⟨W1.heap.size,3,L⟩ (H I 0):=⟨_,rfl⟩
    rw[<-ab] at HN;rw[<-ab];clear ab d aj p0 p1 p2 p3 x0 x1 x2 x3 a3 k h2 q p;go_wp2_with fail;go_meet
    case rel=>exact⟨_,rfl,HN⟩
   .have hone:=a0.one;have ax:∀(a:Addr)(m:Mode)(W:Zj),(Zq a z.fn m).run O W=Zo O W a z.fn m:=fun a m W=>Yw hone;obtain⟨⟨g0,g1,g2,g3⟩,a2⟩:=q9.set (H I z.k) (H I z.n) z.fn (H I z.tag);have HN:Ze (UX Zg M R F c Q w W1 y E x.f.ty W1.heap.size ((((w2.setCell ⟨W1.heap.size,0,L⟩ (H I z.k)).setCell ⟨W1.heap.size,1,L⟩ (H I z.n)).setCell ⟨W1.heap.size,2,L⟩ z.fn).setCell ⟨W1.heap.size,3,L⟩ (H I z.tag))):=⟨by omega,k.new a2 (N _),Yl,VV,cc,a6,q,p,a3.same a2 (by omega),.inr ⟨rfl,z,⟨g0,g1,g2,g3⟩,(a0.same (XJ.of_kept a2 fun hx=>hx.2.2 rfl)).mono (fun x _ hx=>⟨hx.1,hx.2.1⟩),a4⟩⟩
    have aj:=k.new a2 (N _);clear a6 a0 a4 hone;simp only[Th.ag];obtain⟨p0,p1,p2,p3,x0,x1,x2,x3⟩:=q9;clear g0 g1 g2 g3 a2;refine l.out _ _ (HK.out _ k) (fun d=>?_);clear l K;(try simp only[J,C,D,G])
    refine YS (i:=8) rfl (by kernel_rfl) (fun K l=>?_);go_simp;refine l.out _ _ (HK.out _ aj) (fun d=>?_);clear l K;(try simp only[J,C,D,G])
    refine Zb (by kernel_rfl) ?_ _;obtain⟨V9,ab⟩:∃V9,V9=(((w2.setCell ⟨W1.heap.size,0,L⟩ (H I z.k)).setCell ⟨W1.heap.size,1,L⟩ (H I z.n)).setCell ⟨W1.heap.size,2,L⟩ z.fn).setCell ⟨W1.heap.size,3,L⟩ (H I z.tag):=⟨_,rfl⟩
    rw[<-ab] at HN;rw[<-ab];clear ab d aj p0 p1 p2 p3 x0 x1 x2 x3 a3 k h2 q p;go_wp2_with fail;go_meet
    case rel=>exact⟨_,rfl,HN⟩
 case rest=>
 obtain⟨b7,rfl,HP⟩:=hcut;obtain⟨ba,a5,r,V,c',hS,al,ai,aq,a1⟩:=HP.out;clear HP HI an av;have bd:=HB.out.1.kept a5 af;obtain⟨w0,⟨x0,x1,x2,x3,x4,x5,x6⟩,e0,ar⟩:=bd;simp only[Zh] at x1 x2 x3 x4 x5 x6;have bj:b7≠R:=by omega
 rcases a1 with hr|⟨rfl,z,be,a0,a4,am⟩
 .have hgk:(r.k != 0)=Zg:=by simpa using hr
  have HF:Ze (Yi R L W1 wc/\Wl R (F-c') r wc/\Rb wc (w.heap.size+1+1+1)/\XU Zg F x.tm (E.map Th.val) x.t.ty c r V c'/\c<=c'/\c'<=F/\r.k≠0):=⟨a5,aq,ar,bb.out _ _ _ hS hr,al,ai,hr⟩
  obtain⟨c0,c1,_,_,_,_,_,_⟩:=aq;obtain⟨r0,r1,r2,r3,y0,y1,y2,y3⟩:=ar;clear a5 hS hr al ai;apply_assumption;go_wp2_with fail;obtain⟨⟨e0,e1,e2,e3⟩,hk⟩:=HF.out.2.2.1.set (H I 0) (H I 0) .nilFunc (H I 0);refine Zc (v:=X0) ?_ rfl ⟨((Yi.of_below HB.out.2.1).trans HF.out.1).new hk (by omega),r,V,c',HF.out.2.2.2.1,HF.out.2.2.2.2.1,HF.out.2.2.2.2.2.1,HF.out.2.1.same hk (by omega),.inl ⟨HF.out.2.2.2.2.2.2,rfl⟩⟩;simp[results,Za,go_sem,X0,e0,e1,e2,e3]
 .have hzt:Ur z.val x.f.ty:=(am rfl).2▸(a0.cty (am rfl).1).2;have aw:=a5.size;have aa:Ze (Zm O 97 #[Z (Zd ⟨R,0,L⟩),Zk z.v,Zk x.f.v,Zk x.t.v,H I x.n,.bool Zn] wc (Lf M R (F-c') (fun x=>Q x/\x≠w.heap.size+1+1+1) wc (Xd (Yq x.f.ty x.t.ty ⟨4,x.n,Zn⟩) z.val) (Wu z x.f x.t))):=LM M R (F-c') (fun x=>Q x/\x≠w.heap.size+1+1+1) z x.f x.t x.n Zn wc a0 (HX.out _ a5).1 (HX.out _ a5).2 HG.out.1 HG.out.2.1 HG.out.2.2 hzt au.out.1 au.out.2.1 aq (fun hx=>au.out.2.2.1 hx.1) (fun b hb=>⟨au.out.2.2.2 b (by omega),by omega⟩)
  have HF:Ze (Yi R L W1 wc/\XU Zg F x.tm (E.map Th.val) x.t.ty c (Xd (Yq x.f.ty x.t.ty ⟨4,x.n,Zn⟩) z.val).1 (Xd (Yq x.f.ty x.t.ty ⟨4,x.n,Zn⟩) z.val).2 c'/\c<=c'/\c'<=F/\Jl Zg x.f.ty z):=⟨a5,a4▸bf.out V c' hS,al,ai,am⟩
  obtain⟨z0,z1,z2,z3⟩:=be;simp only[Zh] at z1 z2 z3;obtain⟨c0,c1,_,_,_,_,_,_⟩:=aq;replace c1:cL wc R 1 (H I 0):=c1;obtain⟨P,hP⟩:∃P,P=Xd (Yq x.f.ty x.t.ty ⟨4,x.n,Zn⟩) z.val:=⟨_,rfl⟩
  rw[<-hP] at aa HF;by_cases hg:P.1.k=0
  .have HC:Ze (Zm O 97 #[Z (Zd ⟨R,0,L⟩),Zk z.v,Zk x.f.v,Zk x.t.v,H I x.n,.bool Zn] wc fun e w'=>∃g:Th,e=.returned (Zk g.v)/\Ze (Yi R L wc w'/\P.1=Yl/\Wl R (F-c') Yl w'/\g.In Zg M R (fun x=>Q x/\x≠w.heap.size+1+1+1) w'/\g.val=P.2/\Jl Zg x.t.ty g)):=aa.out.mono (by
    rintro e w' ⟨h1,⟨h2,_⟩|⟨h2,h3,g,h4,h5,h6,h7⟩⟩
    .exact absurd hg h2
    .exact⟨g,h4,h1,h2,h3,h5,h6,fun _=>h7 (HF.out.2.2.2.2 rfl).1 (HF.out.2.2.2.2 rfl).2⟩)
   clear a5 hS al ai a0 a4 am hzt aa hP hg ar aw ba;apply_assumption;go_wp2_with (go_at_call 97;refine HC.out.mono ?_;rintro e w4 ⟨g,rfl,HZ⟩;have ax:∀(a:Addr)(m:Mode)(W:Zj),(Zq a g.fn m).run O W=Zo O W a g.fn m:=(fun a m W=>Yw HZ.out.2.2.2.1.one);obtain⟨r0,r1,r2,r3,y0,y1,y2,y3⟩:=(HB.out.1.kept (HF.out.1.trans HZ.out.1) af).r;clear w0 x0 x1 x2 x3 x4 x5 x6 e0 z0 z1 z2 z3 c0 c1)
   obtain⟨k1,k2,k3,k4,k5,k6⟩:=HZ.out;have b8:=Ui (m:=Zg) (M:=M) (Q:=Q) (h:=g) (HB.out.1.kept (HF.out.1.trans k1) af).r (by omega) af (((Yi.of_below HB.out.2.1).trans HF.out.1).trans k1) k3 k4 (fun x hx=>hx);obtain⟨⟨e0,e1,e2,e3⟩,hk,hW,hi⟩:=b8;refine Zc (v:=g.ag) ?_ rfl ⟨hk,P.1,P.2,c',HF.out.2.1,HF.out.2.2.1,HF.out.2.2.2.1,by rw[k2];exact hW,.inr ⟨k2,g,rfl,hi,k5,k6⟩⟩;simp[results,Za,go_sem,Th.ag,e0,e1,e2,e3]
  .have HC:Ze (Zm O 97 #[Z (Zd ⟨R,0,L⟩),Zk z.v,Zk x.f.v,Zk x.t.v,H I x.n,.bool Zn] wc fun e w'=>e=.returned (Zk #[H I 0,H I 0,.nilFunc,H I 0])/\Ze (Yi R L wc w'/\Wl R (F-c') P.1 w'/\P.1.k≠0)):=aa.out.mono (by
    rintro e w' ⟨h1,⟨h2,h3,h4⟩|⟨h2,_⟩⟩
    .exact⟨h3,h1,h4,h2⟩
    .exact absurd (by rw[h2];rfl) hg)
   clear a5 hS al ai a0 a4 am hzt aa hP hg ar aw ba;apply_assumption;go_wp2_with (go_at_call 97;refine HC.out.mono ?_;rintro e w4 ⟨rfl,HZ⟩;obtain⟨r0,r1,r2,r3,y0,y1,y2,y3⟩:=(HB.out.1.kept (HF.out.1.trans HZ.out.1) af).r;clear w0 x0 x1 x2 x3 x4 x5 x6 e0 z0 z1 z2 z3 c0 c1)
   obtain⟨k1,k2,k3⟩:=HZ.out;obtain⟨⟨e0,e1,e2,e3⟩,hk⟩:=(HB.out.1.kept (HF.out.1.trans k1) af).r.set (H I 0) (H I 0) .nilFunc (H I 0);refine Zc (v:=X0) ?_ rfl ⟨(((Yi.of_below HB.out.2.1).trans HF.out.1).trans k1).new hk (by omega),P.1,P.2,c',HF.out.2.1,HF.out.2.2.1,HF.out.2.2.2.1,k2.same hk (by omega),.inl ⟨k3,rfl⟩⟩;simp[results,Za,go_sem,X0,e0,e1,e2,e3]
theorem Ce(m:Bool)(M R F c:Nat)(Q:Nat->Prop)(x u0 u1 u2:TT)(E:List Th)(i:Ty)(ea:Option Addr)(ec:Nat)(w:Zj)(l:x.k=6)(hy:x.l=[u0,u1,u2])(hx:x.In w)(b7:x.Bl Q)(hE:OY m M R Q w ea E)(hw:Wl R (F-c) Yl w)(hQ:¬Q R)(nw:∀b,w.heap.size<=b->Q b)(c4:Cs m M R F c u0 E Xp ea ec)(c3:∀c',c<=c'->c'<=F->Cs m M R F c' u1 E i ea ec)(bp:∀c',c<=c'->c'<=F->Cs m M R F c' u2 E i ea ec):
  Zm O 59 #[Z (Zd ⟨R,0,L⟩),Zk #[H I x.k,H I x.n,H I x.t.k,U x.t.a x.t.l.length x.t.c,H I x.f.k,U x.f.a x.f.l.length x.f.c,U x.a x.l.length x.c],U ea E.length ec] w (Xi m M R F c Q w i (XU m F x.tm (E.map Th.val) i c)):=by
 have ap:=hw.lt;obtain⟨W1,be⟩:∃W,W=Pc R x ea E.length ec w:=⟨_,rfl⟩
 obtain⟨hB,au,bv⟩:=J3 R x ea E.length ec w;rw[<-be] at hB au bv;have bm:=hw.below au;have HB:=KS hB au bm;have bc:x.l.length=3:=by rw[hy];rfl
 obtain⟨g,k,an⟩:∃g k,x.a=Zd ⟨g,k,L⟩:=by obtain⟨b,o,e,_⟩:=hx.part 0 (by omega);exact⟨b,o,e⟩
 have a0:Q g:=b7.own (by rw[hy];simp) _ an;have ah:∀W,Yi R L W1 W->XJ Q w W:=fun W l b hb hq=>by have hs:=au.size;rw[l.block b (by omega) (fun e=>hQ (e▸hq)) (by simp)];exact au.block b hb
 have ci:w.heap.size+1+1+1+1<=W1.heap.size:=by omega
 obtain⟨ad,b0⟩:X4 w g (k) u0/\u0.In w:=by
  obtain⟨b',o',e',h7,hi⟩:=hx.part 0 (by omega);rw[an] at e';obtain⟨rfl,rfl⟩:g=b'/\k=o':=by simpa using e'
  exact⟨by simpa[hy] using h7,by simpa[hy] using hi⟩
 have b2:u0.Bl Q:=b7.mem (by rw[hy];simp);obtain⟨ae,b3⟩:X4 w g (k+7) u1/\u1.In w:=by
  obtain⟨b',o',e',h7,hi⟩:=hx.part 1 (by omega);rw[an] at e';obtain⟨rfl,rfl⟩:g=b'/\k=o':=by simpa using e'
  exact⟨by simpa[hy] using h7,by simpa[hy] using hi⟩
 have b5:u1.Bl Q:=b7.mem (by rw[hy];simp);obtain⟨ac,ax⟩:X4 w g (k+14) u2/\u2.In w:=by
  obtain⟨b',o',e',h7,hi⟩:=hx.part 2 (by omega);rw[an] at e';obtain⟨rfl,rfl⟩:g=b'/\k=o':=by simpa using e'
  exact⟨by simpa[hy] using h7,by simpa[hy] using hi⟩
 have b9:u2.Bl Q:=b7.mem (by rw[hy];simp);have HK:Ze (∀W,Yi R L W1 W->cL W w.heap.size 0 (Z (Zd ⟨R,0,L⟩))/\cL W (w.heap.size+1) 6 (U (Zd ⟨g,k,L⟩) 3 x.c)/\cL W g k (H I u0.k)/\cL W g (k+1) (H I u0.n)/\cL W g (k+2) (H I u0.t.k)/\cL W g (k+3) (u0.t.s)/\cL W g (k+4) (H I u0.f.k)/\cL W g (k+5) (u0.f.s)/\cL W g (k+6) (u0.s)/\cL W (w.heap.size+1+1) 0 (U ea E.length ec)):=fun W l=>by have y:∀b i u,cL w b i u->Q b->cL W b i u:=fun b i u e hb=>(ah W l).cell e hb;have ao:=hB.x7.c6;rw[an,bc] at ao;exact⟨l.cell hB.w0 (by omega),l.cell ao (by omega),y _ _ _ ad.c0 a0,y _ _ _ ad.c1 a0,y _ _ _ ad.c2 a0,y _ _ _ ad.c3 a0,y _ _ _ ad.c4 a0,y _ _ _ ad.c5 a0,y _ _ _ ad.c6 a0,l.cell hB.e0 (by omega)⟩
 have aw:Ze (∀V W,Yi R L W1 V->SK R (w.heap.size+1+1+1) V W->cL W w.heap.size 0 (Z (Zd ⟨R,0,L⟩))/\cL W (w.heap.size+1) 6 (U (Zd ⟨g,k,L⟩) 3 x.c)/\cL W g (k+7) (H I u1.k)/\cL W g (k+8) (H I u1.n)/\cL W g (k+9) (H I u1.t.k)/\cL W g (k+10) (u1.t.s)/\cL W g (k+11) (H I u1.f.k)/\cL W g (k+12) (u1.f.s)/\cL W g (k+13) (u1.s)/\cL W (w.heap.size+1+1) 0 (U ea E.length ec)):=fun V W a8 l=>by have y:∀b i u,cL w b i u->Q b->cL W b i u:=fun b i u e hb=>l b i u ((ah V a8).cell e hb) (fun e=>hQ (e▸hb)) (by have:b<w.heap.size:=Zi _ _ e;omega);have ao:=hB.x7.c6;rw[an,bc] at ao;exact⟨l _ _ _ (a8.cell hB.w0 (by omega)) (by omega) (by omega),l _ _ _ (a8.cell ao (by omega)) (by omega) (by omega),y _ _ _ ae.c0 a0,y _ _ _ ae.c1 a0,y _ _ _ ae.c2 a0,y _ _ _ ae.c3 a0,y _ _ _ ae.c4 a0,y _ _ _ ae.c5 a0,y _ _ _ ae.c6 a0,l _ _ _ (a8.cell hB.e0 (by omega)) (by omega) (by omega)⟩
 have b6:Ze (∀V W,Yi R L W1 V->SK R (w.heap.size+1+1+1) V W->cL W w.heap.size 0 (Z (Zd ⟨R,0,L⟩))/\cL W (w.heap.size+1) 6 (U (Zd ⟨g,k,L⟩) 3 x.c)/\cL W g (k+14) (H I u2.k)/\cL W g (k+15) (H I u2.n)/\cL W g (k+16) (H I u2.t.k)/\cL W g (k+17) (u2.t.s)/\cL W g (k+18) (H I u2.f.k)/\cL W g (k+19) (u2.f.s)/\cL W g (k+20) (u2.s)/\cL W (w.heap.size+1+1) 0 (U ea E.length ec)):=fun V W a8 l=>by have y:∀b i u,cL w b i u->Q b->cL W b i u:=fun b i u e hb=>l b i u ((ah V a8).cell e hb) (fun e=>hQ (e▸hb)) (by have:b<w.heap.size:=Zi _ _ e;omega);have ao:=hB.x7.c6;rw[an,bc] at ao;exact⟨l _ _ _ (a8.cell hB.w0 (by omega)) (by omega) (by omega),l _ _ _ (a8.cell ao (by omega)) (by omega) (by omega),y _ _ _ ac.c0 a0,y _ _ _ ac.c1 a0,y _ _ _ ac.c2 a0,y _ _ _ ac.c3 a0,y _ _ _ ac.c4 a0,y _ _ _ ac.c5 a0,y _ _ _ ac.c6 a0,l _ _ _ (a8.cell hB.e0 (by omega)) (by omega) (by omega)⟩
 have HI:Ze (∀(z:Nat)(W:Zj),Yi R L W1 W->Wl R (F-c) Yl W->w.heap.size<=z->z<W.heap.size->Zm O 59 #[Z (Zd ⟨R,0,L⟩),Zk u0.v,U ea E.length ec] W (Xi m M R F c (fun b=>Q b/\b≠w.heap.size+1+1+1/\b≠z) W Xp (XU m F u0.tm (E.map Th.val) Xp c))):=fun z W l ba c5 bu=>by have bk:=l.size;exact c4 (fun b=>Q b/\b≠w.heap.size+1+1+1/\b≠z) W (b0.same (ah W l) b2) ((b2.and b0.bl).mono fun b hb=>⟨hb.1,by omega,by omega⟩) ((hE.mono (Q':=(fun b=>Q b/\b≠w.heap.size+1+1+1/\b≠z)) fun x h1 q=>⟨q,by omega,by omega⟩).same fun b h1 q=>ah W l b h1 q.1) ba (fun hx=>hQ hx.1) (fun b hb=>⟨nw b (by omega),by omega,by omega⟩)
 have bn:Ze (∀(c':Nat)(h1:c<=c')(q:c'<=F)(z:Nat)(W:Zj),Yi R L W1 W->Wl R (F-c') Yl W->w.heap.size<=z->z<W.heap.size->Zm O 59 #[Z (Zd ⟨R,0,L⟩),Zk u1.v,U ea E.length ec] W (Xi m M R F c' (fun b=>Q b/\b≠w.heap.size+1+1+1/\b≠z) W i (XU m F u1.tm (E.map Th.val) i c'))):=fun c' h1 q z W l ba c5 bu=>by have bk:=l.size;exact c3 c' h1 q (fun b=>Q b/\b≠w.heap.size+1+1+1/\b≠z) W (b3.same (ah W l) b5) ((b5.and b3.bl).mono fun b hb=>⟨hb.1,by omega,by omega⟩) ((hE.mono (Q':=(fun b=>Q b/\b≠w.heap.size+1+1+1/\b≠z)) fun x h1 q=>⟨q,by omega,by omega⟩).same fun b h1 q=>ah W l b h1 q.1) ba (fun hx=>hQ hx.1) (fun b hb=>⟨nw b (by omega),by omega,by omega⟩)
 have br:Ze (∀(c':Nat)(h1:c<=c')(q:c'<=F)(z:Nat)(W:Zj),Yi R L W1 W->Wl R (F-c') Yl W->w.heap.size<=z->z<W.heap.size->Zm O 59 #[Z (Zd ⟨R,0,L⟩),Zk u2.v,U ea E.length ec] W (Xi m M R F c' (fun b=>Q b/\b≠w.heap.size+1+1+1/\b≠z) W i (XU m F u2.tm (E.map Th.val) i c'))):=fun c' h1 q z W l ba c5 bu=>by have bk:=l.size;exact bp c' h1 q (fun b=>Q b/\b≠w.heap.size+1+1+1/\b≠z) W (ax.same (ah W l) b9) ((b9.and ax.bl).mono fun b hb=>⟨hb.1,by omega,by omega⟩) ((hE.mono (Q':=(fun b=>Q b/\b≠w.heap.size+1+1+1/\b≠z)) fun x h1 q=>⟨q,by omega,by omega⟩).same fun b h1 q=>ah W l b h1 q.1) ba (fun hx=>hQ hx.1) (fun b hb=>⟨nw b (by omega),by omega,by omega⟩)
 have av:x.tm.at 0=u0.tm:=by rw[Tm.at,TT.tm_l,hy];rfl
 have bo:x.tm.at 1=u1.tm:=by rw[Tm.at,TT.tm_l,hy];rfl
 have c7:x.tm.at 2=u2.tm:=by rw[Tm.at,TT.tm_l,hy];rfl
 have b1:x.tm.k=6:=by rw[TT.tm_k];exact l
 have cd:Ze (∀r V c',XU m F u0.tm (E.map Th.val) Xp c r V c'->r.k≠0->XU m F x.tm (E.map Th.val) i c r V c'):=fun r V c' h hr=>⟨Wa b1 (by rw[av];exact h.1) hr,fun _ h0=>absurd h0 hr⟩
 have c6:Ze (∀V c',XU m F u0.tm (E.map Th.val) Xp c Yl V c'->V.k≠2->XU m F x.tm (E.map Th.val) i c Yu V c'):=fun V c' h hv=>⟨RO b1 (by rw[av];exact h.1) rfl hv,fun _ h0=>by cases h0⟩
 have ca:Ze (∀V c' r2 V2 c2,XU m F u0.tm (E.map Th.val) Xp c Yl V c'->V.k=2->V.n=1->XU m F u1.tm (E.map Th.val) i c' r2 V2 c2->XU m F x.tm (E.map Th.val) i c r2 V2 c2):=fun V c' r2 V2 c2 h hv hn q=>⟨Cz b1 (by rw[av];exact h.1) rfl hv (by rw[if_pos hn,bo];exact q.1),q.2⟩
 have cb:Ze (∀V c' r2 V2 c2,XU m F u0.tm (E.map Th.val) Xp c Yl V c'->V.k=2->V.n≠1->XU m F u2.tm (E.map Th.val) i c' r2 V2 c2->XU m F x.tm (E.map Th.val) i c r2 V2 c2):=fun V c' r2 V2 c2 h hv hn q=>⟨Cz b1 (by rw[av];exact h.1) rfl hv (by rw[if_neg hn,c7];exact q.1),q.2⟩
 have i0:(0:Int)<((3:Nat):Int):=by omega
 have i1:(1:Int)<((3:Nat):Int):=by omega
 have i2:(2:Int)<((3:Nat):Int):=by omega
 obtain⟨c0,c1,_,_,_,_,_,_⟩:=bm;replace c1:cL W1 R 1 (H I 0):=c1;obtain⟨w0,⟨x0,x1,x2,x3,x4,x5,x6⟩,e0,⟨r0,r1,r2,r3,y0,y1,y2,y3⟩⟩:=hB;simp only[Zh] at x1 x2 x3 x4 x5 x6;rw[l] at x0;have aa:Yi R L W1 W1.drew:=Yi.of_below ((T _ _).drew);have ak:Wl R (F-c) Yl W1.drew:=HB.out.2.2.below ((T _ _).drew);have c8:=Yx l;clear l hx b7 hE hw nw au bv ah ad b0 b2 ae b3 b5 ac ax b9 bc an a0 hy hQ c4 c3 bp av bo c7 b1;go_enter Zr,Zp;go_upto_region 1 with fail;unfold Pc at be;rw[<-be];clear be;go_upto_region 20 with fail;clear x0 x1 x2 x3 x4 x5 x6 e0 r0 r1 r2 r3 y0 y1 y2 y3 c0 c1 w0;go_cut [8] (fun ts wx=>∃bs:Nat,ts=Z (Zd ⟨bs,0,L⟩)/\Ze (UX m M R F c Q w W1 u0 E Xp bs wx))
 case first=>
  refine Zf (S:=fun W=>cL W w.heap.size 0 (Z (Zd ⟨R,0,L⟩))/\cL W (w.heap.size+1) 6 (U (Zd ⟨g,k,L⟩) 3 x.c)/\cL W g k (H I u0.k)/\cL W g (k+1) (H I u0.n)/\cL W g (k+2) (H I u0.t.k)/\cL W g (k+3) (u0.t.s)/\cL W g (k+4) (H I u0.f.k)/\cL W g (k+5) (u0.f.s)/\cL W g (k+6) (u0.s)/\cL W (w.heap.size+1+1) 0 (U ea E.length ec)) (by kernel_rfl) (HK.out _ aa) (fun d=>?_);refine qk 0 (v:=?_) rfl (by kernel_rfl) (fun _ _ _ h=>h) (by rfl) d ?_ ?_;rotate_left;(focus (intro w' h;go_split_ands;go_simp;try with_reducible rfl));simp only[J,C,D,G];refine qk 1 (v:=?_) rfl (by kernel_rfl) (fun _ _ _ h=>h) (by rfl) d ?_ ?_;rotate_left;(focus (intro w' h;go_split_ands;go_simp;try with_reducible rfl));simp only[J,C,D,G];refine qk 2 (v:=?_) rfl (by kernel_rfl) (fun _ _ _ h=>h) (by rfl) d ?_ ?_;rotate_left;(focus (intro w' h;go_split_ands;go_simp;try with_reducible rfl));simp only[J,C,D,G];refine qk 3 (v:=?_) rfl (by kernel_rfl) (fun _ _ _ h=>h) (by rfl) d ?_ ?_;rotate_left;(focus (intro w' h;go_split_ands;go_simp;try with_reducible rfl));simp only[J,C,D,G];refine qk 4 (v:=?_) rfl (by kernel_rfl) (fun _ _ _ h=>h) (by rfl) d ?_ ?_;rotate_left;(focus (intro w' h;go_split_ands;go_simp;try with_reducible rfl));simp only[J,C,D,G];refine qk 5 (v:=?_) rfl (by kernel_rfl) (fun _ _ _ h=>h) (by rfl) d ?_ ?_;rotate_left;(focus (intro w' h;go_split_ands;go_simp;try with_reducible rfl));simp only[J,C,D,G];refine NY (i:=6) (j:=7) rfl rfl (by kernel_rfl) (fun K p=>?_) (fun K p=>?_)
  .go_simp;refine(HI.out w.heap.size _ aa ak (N _) (by show _<W1.heap.size;omega)).mono ?_;rintro e w2 ⟨q,rr,VV,cc,a9,a6,a1,a7,a3⟩;have a4:=aa.trans q;have cj:=a4.size;rcases a3 with⟨hr,rfl⟩|⟨rfl,z,rfl,a5,af⟩
   .have am:bL w2 (w2.alloc (Zl #[H I 0,H I 0,.nilFunc,H I 0] 103)):=(T _ _).alloc (N _) _;have HN:Ze (UX m M R F c Q w W1 u0 E Xp w2.heap.size (w2.alloc (Zl #[H I 0,H I 0,.nilFunc,H I 0] 103))):=⟨by omega,a4.trans (Yi.of_below am),rr,VV,cc,a9,a6,a1,a7.below am,.inl hr⟩
    clear hr a9;simp only[X0];refine p.out _ _ (HK.out _ a4) (fun d=>?_);clear p K;(try simp only[J,C,D,G])
    refine YS (i:=7) rfl (by kernel_rfl) (fun K p=>?_);go_simp;refine p.out _ _ (HK.out _ (a4.trans (Yi.of_below ((T _ _).alloc (N _) _)))) (fun d=>?_);clear p K;(try simp only[J,C,D,G])
    refine YS (i:=8) rfl (by kernel_rfl) (fun K p=>?_);go_simp;refine p.out _ _ (HK.out _ (a4.trans (Yi.of_below am))) (fun d=>?_);clear p K;(try simp only[J,C,D,G])
    refine Zb (by kernel_rfl) ?_ _;clear d a6 a1 a7;go_wp2_with fail;go_meet
    case rel=>exact⟨_,rfl,HN⟩
   .have hone:=a5.one;have bb:∀(a:Addr)(m:Mode)(W:Zj),(Zq a z.fn m).run O W=Zo O W a z.fn m:=fun a m W=>Yw hone;have am:bL w2 (w2.alloc (Zl z.v 103)):=(T _ _).alloc (N _) _;have HN:Ze (UX m M R F c Q w W1 u0 E Xp w2.heap.size (w2.alloc (Zl z.v 103))):=⟨by omega,a4.trans (Yi.of_below am),Yl,VV,cc,a9,a6,a1,a7.below am,.inr ⟨rfl,z,⟨by simp[go_sem],by simp[go_sem],by simp[go_sem],by simp[go_sem]⟩,(a5.same (XJ.of_below am)).mono (fun x _ hx=>⟨hx.1,hx.2.1⟩),af⟩⟩
    clear a9 a5 af hone;simp only[Th.ag];refine p.out _ _ (HK.out _ a4) (fun d=>?_);clear p K;(try simp only[J,C,D,G])
    refine YS (i:=7) rfl (by kernel_rfl) (fun K p=>?_);go_simp;refine p.out _ _ (HK.out _ (a4.trans (Yi.of_below ((T _ _).alloc (N _) _)))) (fun d=>?_);clear p K;(try simp only[J,C,D,G])
    refine YS (i:=8) rfl (by kernel_rfl) (fun K p=>?_);go_simp;refine p.out _ _ (HK.out _ (a4.trans (Yi.of_below am))) (fun d=>?_);clear p K;(try simp only[J,C,D,G])
    refine Zb (by kernel_rfl) ?_ _;clear d a6 a1 a7;go_wp2_with fail;go_meet
    case rel=>exact⟨_,rfl,HN⟩
  .go_simp;have bi:Yi R L W1 (W1.alloc (Zl #[H I 0,H I 0,.nilFunc,H I 0] 103)).drew:=Yi.of_below (((T _ _).alloc (N _) _).drew);refine p.out _ _ (HK.out _ bi) (fun d=>?_);clear p K;(try simp only[J,C,D,G])
   refine YS (i:=6) rfl (by kernel_rfl) (fun K p=>?_);go_simp;refine(HI.out W1.heap.size _ bi (HB.out.2.2.below (((T _ _).alloc (N _) _).drew)) (by omega) (by show _<(W1.alloc (Zl #[H I 0,H I 0,.nilFunc,H I 0] 103)).heap.size;simp)).mono ?_;rintro e w2 ⟨q,rr,VV,cc,a9,a6,a1,a7,a3⟩;have a4:=bi.trans q;have q9:Rb w2 W1.heap.size:=((Rb.new W1).below ((T _ _).drew)).kept q (by omega);rcases a3 with⟨hr,rfl⟩|⟨rfl,z,rfl,a5,af⟩
   .obtain⟨⟨g0,g1,g2,g3⟩,aj⟩:=q9.set (H I 0) (H I 0) .nilFunc (H I 0);have HN:Ze (UX m M R F c Q w W1 u0 E Xp W1.heap.size ((((w2.setCell ⟨W1.heap.size,0,L⟩ (H I 0)).setCell ⟨W1.heap.size,1,L⟩ (H I 0)).setCell ⟨W1.heap.size,2,L⟩ .nilFunc).setCell ⟨W1.heap.size,3,L⟩ (H I 0))):=⟨by omega,a4.new aj (N _),rr,VV,cc,a9,a6,a1,a7.same aj (by omega),.inl hr⟩
    have a8:=a4.new aj (N _);clear hr a9;simp only[X0];obtain⟨p0,p1,p2,p3,x0,x1,x2,x3⟩:=q9;clear g0 g1 g2 g3 aj;refine p.out _ _ (HK.out _ a4) (fun d=>?_);clear p K;(try simp only[J,C,D,G])
    refine YS (i:=8) rfl (by kernel_rfl) (fun K p=>?_);go_simp;refine p.out _ _ (HK.out _ a8) (fun d=>?_);clear p K;(try simp only[J,C,D,G])
    refine Zb (by kernel_rfl) ?_ _;obtain⟨V9,aq⟩:∃V9,V9=(((w2.setCell ⟨W1.heap.size,0,L⟩ (H I 0)).setCell ⟨W1.heap.size,1,L⟩ (H I 0)).setCell ⟨W1.heap.size,2,L⟩ .nilFunc).setCell ⟨W1.heap.size,3,L⟩ (H I 0):=⟨_,rfl⟩
    rw[<-aq] at HN;rw[<-aq];clear aq d a8 p0 p1 p2 p3 x0 x1 x2 x3 a7 a4 q a6 a1;go_wp2_with fail;go_meet
    case rel=>exact⟨_,rfl,HN⟩
   .have hone:=a5.one;have bb:∀(a:Addr)(m:Mode)(W:Zj),(Zq a z.fn m).run O W=Zo O W a z.fn m:=fun a m W=>Yw hone;obtain⟨⟨g0,g1,g2,g3⟩,aj⟩:=q9.set (H I z.k) (H I z.n) z.fn (H I z.tag);have HN:Ze (UX m M R F c Q w W1 u0 E Xp W1.heap.size ((((w2.setCell ⟨W1.heap.size,0,L⟩ (H I z.k)).setCell ⟨W1.heap.size,1,L⟩ (H I z.n)).setCell ⟨W1.heap.size,2,L⟩ z.fn).setCell ⟨W1.heap.size,3,L⟩ (H I z.tag))):=⟨by omega,a4.new aj (N _),Yl,VV,cc,a9,a6,a1,a7.same aj (by omega),.inr ⟨rfl,z,⟨g0,g1,g2,g3⟩,(a5.same (XJ.of_kept aj fun hx=>hx.2.2 rfl)).mono (fun x _ hx=>⟨hx.1,hx.2.1⟩),af⟩⟩
    have a8:=a4.new aj (N _);clear a9 a5 af hone;simp only[Th.ag];obtain⟨p0,p1,p2,p3,x0,x1,x2,x3⟩:=q9;clear g0 g1 g2 g3 aj;refine p.out _ _ (HK.out _ a4) (fun d=>?_);clear p K;(try simp only[J,C,D,G])
    refine YS (i:=8) rfl (by kernel_rfl) (fun K p=>?_);go_simp;refine p.out _ _ (HK.out _ a8) (fun d=>?_);clear p K;(try simp only[J,C,D,G])
    refine Zb (by kernel_rfl) ?_ _;obtain⟨V9,aq⟩:∃V9,V9=(((w2.setCell ⟨W1.heap.size,0,L⟩ (H I z.k)).setCell ⟨W1.heap.size,1,L⟩ (H I z.n)).setCell ⟨W1.heap.size,2,L⟩ z.fn).setCell ⟨W1.heap.size,3,L⟩ (H I z.tag):=⟨_,rfl⟩
    rw[<-aq] at HN;rw[<-aq];clear aq d a8 p0 p1 p2 p3 x0 x1 x2 x3 a7 a4 q a6 a1;go_wp2_with fail;go_meet
    case rel=>exact⟨_,rfl,HN⟩
 case rest=>
 obtain⟨b8,rfl,HP⟩:=hcut;obtain⟨cg,az,r,V,c',hS,bg,bd,bf,a3⟩:=HP.out;clear HP HI aa ak HK;have ce:=HB.out.1.kept az ap;obtain⟨w0,⟨x0,x1,x2,x3,x4,x5,x6⟩,e0,bj⟩:=ce;simp only[Zh] at x1 x2 x3 x4 x5 x6;rw[c8.out] at x0;have ck:b8≠R:=by omega
 have a2:=Yx az;rcases a3 with hr|⟨rfl,z,cf,a5,af,ch⟩
 .have hgk:(r.k != 0)=Zg:=by simpa using hr
  have HF:Ze (Yi R L W1 wc/\Wl R (F-c') r wc/\Rb wc (w.heap.size+1+1+1)/\XU m F x.tm (E.map Th.val) i c r V c'/\c<=c'/\c'<=F/\r.k≠0):=⟨az,bf,bj,cd.out _ _ _ hS hr,bg,bd,hr⟩
  obtain⟨c0,c1,_,_,_,_,_,_⟩:=bf;obtain⟨r0,r1,r2,r3,y0,y1,y2,y3⟩:=bj;clear az hS hr bg bd;apply_assumption;go_wp2_with fail;obtain⟨⟨e0,e1,e2,e3⟩,l⟩:=HF.out.2.2.1.set (H I 0) (H I 0) .nilFunc (H I 0);refine Zc (v:=X0) ?_ rfl ⟨((Yi.of_below HB.out.2.1).trans HF.out.1).new l (by omega),r,V,c',HF.out.2.2.2.1,HF.out.2.2.2.2.1,HF.out.2.2.2.2.2.1,HF.out.2.1.same l (by omega),.inl ⟨HF.out.2.2.2.2.2.2,rfl⟩⟩;simp[results,Za,go_sem,X0,e0,e1,e2,e3]
 .have HW:=Yx bf;have ai:=Un bg bd;have HS:Ze (XU m F u0.tm (E.map Th.val) Xp c Yl z.val c'):=af▸hS;have bt:=a5.kinds;obtain⟨z0,z1,z2,z3⟩:=cf;simp only[Zh] at z1 z2 z3;obtain⟨c0,c1,_,_,_,_,_,_⟩:=bf;replace c1:cL wc R 1 (H I 0):=c1;clear az hS bg bd a5 af ch bj cg;have fin:(z.tag≠0/\z.val.k=5)\/(z.tag=0/\z.k≠2/\z.val.k≠2)\/(z.tag=0/\z.k=2/\z.val=Xk z.n):=by
   rcases bt with h|⟨h0,_,⟨h1,q⟩|⟨h1,q⟩|⟨h1,q,_⟩⟩
   .exact .inl h
   .exact .inr (.inl ⟨h0,by omega,by rw[q];simp[XF]⟩)
   .exact .inr (.inr ⟨h0,h1,q⟩)
   .exact .inr (.inl ⟨h0,by omega,by omega⟩)
  clear bt;rcases fin with⟨h1,q⟩|⟨h0,h1,q⟩|⟨h0,h1,q⟩
  .have bz:(z.tag != 0)=Zg:=by simpa using h1
   have c9:z.val.k≠2:=by omega
   clear h1 q;have al:Ze (XU m F x.tm (E.map Th.val) i c Yu z.val c'/\c<=c'/\c'<=F/\Yu.k≠0):=⟨c6.out _ _ HS.out c9,ai.out.1,ai.out.2,by decide⟩
   apply_assumption;go_wp2_with (go_at_call 94;refine(UF R _ _ HW.out).mono ?_;rintro e w2 ⟨rfl,a7,q⟩;simp only[X0];have HF:Ze (Yi R L W1 w2/\Wl R (F-c') Yu w2/\Rb w2 (w.heap.size+1+1+1)):=⟨a2.out.trans q,a7,(HB.out.1.kept (a2.out.trans q) ap).r⟩;clear a7 q w0 x0 x1 x2 x3 x4 x5 x6 e0 z0 z1 z2 z3 c0 c1;obtain⟨r0,r1,r2,r3,y0,y1,y2,y3⟩:=HF.out.2.2)
   obtain⟨⟨e0,e1,e2,e3⟩,l⟩:=HF.out.2.2.set (H I 0) (H I 0) .nilFunc (H I 0);refine Zc (v:=X0) ?_ rfl ⟨((Yi.of_below HB.out.2.1).trans HF.out.1).new l (by omega),Yu,z.val,c',al.out.1,al.out.2.1,al.out.2.2.1,HF.out.2.1.same l (by omega),.inl ⟨al.out.2.2.2,rfl⟩⟩;simp[results,Za,go_sem,X0,e0,e1,e2,e3]
  .have bz:(z.k != 2)=Zg:=by simpa using h1
   rw[h0] at z3;have HV:=Yx q;clear h0 h1 q;have al:Ze (XU m F x.tm (E.map Th.val) i c Yu z.val c'/\c<=c'/\c'<=F/\Yu.k≠0):=⟨c6.out _ _ HS.out HV.out,ai.out.1,ai.out.2,by decide⟩
   apply_assumption;go_wp2_with (go_at_call 94;refine(UF R _ _ HW.out).mono ?_;rintro e w2 ⟨rfl,a7,q⟩;simp only[X0];have HF:Ze (Yi R L W1 w2/\Wl R (F-c') Yu w2/\Rb w2 (w.heap.size+1+1+1)):=⟨a2.out.trans q,a7,(HB.out.1.kept (a2.out.trans q) ap).r⟩;clear a7 q w0 x0 x1 x2 x3 x4 x5 x6 e0 z0 z1 z2 z3 c0 c1;obtain⟨r0,r1,r2,r3,y0,y1,y2,y3⟩:=HF.out.2.2)
   obtain⟨⟨e0,e1,e2,e3⟩,l⟩:=HF.out.2.2.set (H I 0) (H I 0) .nilFunc (H I 0);refine Zc (v:=X0) ?_ rfl ⟨((Yi.of_below HB.out.2.1).trans HF.out.1).new l (by omega),Yu,z.val,c',al.out.1,al.out.2.1,al.out.2.2.1,HF.out.2.1.same l (by omega),.inl ⟨al.out.2.2.2,rfl⟩⟩;simp[results,Za,go_sem,X0,e0,e1,e2,e3]
  .rw[h0] at z3;rw[h1] at z0;have HV:Ze (z.val.k=2/\z.val.n=z.n):=by
    show _/\_
    rw[q];exact⟨rfl,rfl⟩
   clear h0 h1 q;by_cases hn:z.n=1
   .have HN1:Ze (z.val.n=1):=by
     show _=_
     rw[HV.out.2];exact hn
    rw[hn] at z1;clear hn;apply_assumption;go_upto_region 27 with fail;clear w0 x0 x1 x2 x3 x4 x5 x6 e0 z0 z1 z2 z3 c0 c1;have aa:Yi R L wc wc.drew:=Yi.of_below ((T _ _).drew);have ak:Wl R (F-c') Yl wc.drew:=HW.out.below ((T _ _).drew);have bq:=a2.out.size;refine Zf (S:=fun W=>cL W w.heap.size 0 (Z (Zd ⟨R,0,L⟩))/\cL W (w.heap.size+1) 6 (U (Zd ⟨g,k,L⟩) 3 x.c)/\cL W g (k+7) (H I u1.k)/\cL W g (k+8) (H I u1.n)/\cL W g (k+9) (H I u1.t.k)/\cL W g (k+10) (u1.t.s)/\cL W g (k+11) (H I u1.f.k)/\cL W g (k+12) (u1.f.s)/\cL W g (k+13) (u1.s)/\cL W (w.heap.size+1+1) 0 (U ea E.length ec)) (by kernel_rfl) (aw.out wc _ a2.out ((SK.refl _ _ _).kept aa)) (fun d=>?_);refine qk 0 (v:=?_) rfl (by kernel_rfl) (fun _ _ _ h=>h) (by rfl) d ?_ ?_;rotate_left;(focus (intro w' h;go_split_ands;go_simp;try with_reducible rfl));simp only[J,C,D,G];refine qk 1 (v:=?_) rfl (by kernel_rfl) (fun _ _ _ h=>h) (by rfl) d ?_ ?_;rotate_left;(focus (intro w' h;go_split_ands;go_simp;try with_reducible rfl));simp only[J,C,D,G];refine qk 2 (v:=?_) rfl (by kernel_rfl) (fun _ _ _ h=>h) (by rfl) d ?_ ?_;rotate_left;(focus (intro w' h;go_split_ands;go_simp;try with_reducible rfl));simp only[J,C,D,G];refine qk 3 (v:=?_) rfl (by kernel_rfl) (fun _ _ _ h=>h) (by rfl) d ?_ ?_;rotate_left;(focus (intro w' h;go_split_ands;go_simp;try with_reducible rfl));simp only[J,C,D,G];refine qk 4 (v:=?_) rfl (by kernel_rfl) (fun _ _ _ h=>h) (by rfl) d ?_ ?_;rotate_left;(focus (intro w' h;go_split_ands;go_simp;try with_reducible rfl));simp only[J,C,D,G];refine qk 5 (v:=?_) rfl (by kernel_rfl) (fun _ _ _ h=>h) (by rfl) d ?_ ?_;rotate_left;(focus (intro w' h;go_split_ands;go_simp;try with_reducible rfl));simp only[J,C,D,G];refine YS (i:=6) rfl (by kernel_rfl) (fun K p=>?_);go_simp;refine(bn.out c' ai.out.1 ai.out.2 w.heap.size _ (a2.out.trans aa) ak (N _) (by show _<wc.heap.size;omega)).mono ?_;rintro e w5 ⟨ar,rr,VV,cc,a9,a6,a1,b4,a3⟩;have ay:=(a2.out.trans aa).trans ar;have HF:Ze (Yi R L W1 w5/\Wl R (F-cc) rr w5/\Rb w5 (w.heap.size+1+1+1)/\XU m F x.tm (E.map Th.val) i c rr VV cc/\c<=cc/\cc<=F):=⟨ay,b4,(HB.out.1.kept ay ap).r,ca.out _ _ _ _ _ HS.out HV.out.1 HN1.out a9,by have:=ai.out.1;omega,a1⟩
    have ab:SK R (w.heap.size+1+1+1) wc w5:=(SK.refl _ _ _).kept (aa.trans ar);obtain⟨r0,r1,r2,r3,y0,y1,y2,y3⟩:=HF.out.2.2.1;clear a9 b4 ar bn;rcases a3 with⟨hr,rfl⟩|⟨rfl,z,rfl,a5,af⟩
    .simp only[X0];refine p.out _ _ (aw.out wc _ a2.out ab) (fun d=>?_);clear p K;(try simp only[J,C,D,G])
     refine YS (i:=7) rfl (by kernel_rfl) (fun K p=>?_);go_simp;refine p.out _ _ (aw.out wc _ a2.out ((((ab.set _ _).set _ _).set _ _).set _ _)) (fun d=>?_);clear p K;(try simp only[J,C,D,G])
     refine Zb (by kernel_rfl) ?_ _;clear d;go_wp2_with fail;obtain⟨⟨e0,e1,e2,e3⟩,l⟩:=HF.out.2.2.1.set (H I 0) (H I 0) .nilFunc (H I 0);refine Zc (v:=X0) ?_ rfl ⟨((Yi.of_below HB.out.2.1).trans HF.out.1).new l (by omega),rr,VV,cc,HF.out.2.2.2.1,HF.out.2.2.2.2.1,HF.out.2.2.2.2.2,HF.out.2.1.same l (by omega),.inl ⟨hr,rfl⟩⟩;simp[results,Za,go_sem,X0,e0,e1,e2,e3]
    .have hone:=a5.one;have bb:∀(a:Addr)(m:Mode)(W:Zj),(Zq a z.fn m).run O W=Zo O W a z.fn m:=fun a m W=>Yw hone;have bh:Ze _:=Ui (Q:=Q) (h:=z) HF.out.2.2.1 (by omega) ap ((Yi.of_below HB.out.2.1).trans HF.out.1) HF.out.2.1 a5 (fun x hx=>⟨hx.1,hx.2.1⟩);clear a5 hone;simp only[Th.ag];refine p.out _ _ (aw.out wc _ a2.out ab) (fun d=>?_);clear p K;(try simp only[J,C,D,G])
     refine YS (i:=7) rfl (by kernel_rfl) (fun K p=>?_);go_simp;refine p.out _ _ (aw.out wc _ a2.out ((((ab.set _ _).set _ _).set _ _).set _ _)) (fun d=>?_);clear p K;(try simp only[J,C,D,G])
     refine Zb (by kernel_rfl) ?_ _;clear d;go_wp2_with fail;obtain⟨⟨e0,e1,e2,e3⟩,l,hW,hi⟩:=bh.out;refine Zc (v:=z.ag) ?_ rfl ⟨l,Yl,VV,cc,HF.out.2.2.2.1,HF.out.2.2.2.2.1,HF.out.2.2.2.2.2,hW,.inr ⟨rfl,z,rfl,hi,af⟩⟩;simp[results,Za,go_sem,Th.ag,e0,e1,e2,e3]
   .have HN1:Ze (z.val.n≠1):=by
     show _≠_
     rw[HV.out.2];exact hn
    have bz:(z.n==1)=Zn:=by simpa using hn
    clear hn;apply_assumption;go_upto_region 28 with fail;clear w0 x0 x1 x2 x3 x4 x5 x6 e0 z0 z1 z2 z3 c0 c1;have aa:Yi R L wc wc.drew:=Yi.of_below ((T _ _).drew);have ak:Wl R (F-c') Yl wc.drew:=HW.out.below ((T _ _).drew);have bq:=a2.out.size;refine Zf (S:=fun W=>cL W w.heap.size 0 (Z (Zd ⟨R,0,L⟩))/\cL W (w.heap.size+1) 6 (U (Zd ⟨g,k,L⟩) 3 x.c)/\cL W g (k+14) (H I u2.k)/\cL W g (k+15) (H I u2.n)/\cL W g (k+16) (H I u2.t.k)/\cL W g (k+17) (u2.t.s)/\cL W g (k+18) (H I u2.f.k)/\cL W g (k+19) (u2.f.s)/\cL W g (k+20) (u2.s)/\cL W (w.heap.size+1+1) 0 (U ea E.length ec)) (by kernel_rfl) (b6.out wc _ a2.out ((SK.refl _ _ _).kept aa)) (fun d=>?_);refine qk 0 (v:=?_) rfl (by kernel_rfl) (fun _ _ _ h=>h) (by rfl) d ?_ ?_;rotate_left;(focus (intro w' h;go_split_ands;go_simp;try with_reducible rfl));simp only[J,C,D,G];refine qk 1 (v:=?_) rfl (by kernel_rfl) (fun _ _ _ h=>h) (by rfl) d ?_ ?_;rotate_left;(focus (intro w' h;go_split_ands;go_simp;try with_reducible rfl));simp only[J,C,D,G];refine qk 2 (v:=?_) rfl (by kernel_rfl) (fun _ _ _ h=>h) (by rfl) d ?_ ?_;rotate_left;(focus (intro w' h;go_split_ands;go_simp;try with_reducible rfl));simp only[J,C,D,G];refine qk 3 (v:=?_) rfl (by kernel_rfl) (fun _ _ _ h=>h) (by rfl) d ?_ ?_;rotate_left;(focus (intro w' h;go_split_ands;go_simp;try with_reducible rfl));simp only[J,C,D,G];refine qk 4 (v:=?_) rfl (by kernel_rfl) (fun _ _ _ h=>h) (by rfl) d ?_ ?_;rotate_left;(focus (intro w' h;go_split_ands;go_simp;try with_reducible rfl));simp only[J,C,D,G];refine qk 5 (v:=?_) rfl (by kernel_rfl) (fun _ _ _ h=>h) (by rfl) d ?_ ?_;rotate_left;(focus (intro w' h;go_split_ands;go_simp;try with_reducible rfl));simp only[J,C,D,G];refine YS (i:=6) rfl (by kernel_rfl) (fun K p=>?_);go_simp;refine(br.out c' ai.out.1 ai.out.2 w.heap.size _ (a2.out.trans aa) ak (N _) (by show _<wc.heap.size;omega)).mono ?_;rintro e w5 ⟨ar,rr,VV,cc,a9,a6,a1,b4,a3⟩;have ay:=(a2.out.trans aa).trans ar;have HF:Ze (Yi R L W1 w5/\Wl R (F-cc) rr w5/\Rb w5 (w.heap.size+1+1+1)/\XU m F x.tm (E.map Th.val) i c rr VV cc/\c<=cc/\cc<=F):=⟨ay,b4,(HB.out.1.kept ay ap).r,cb.out _ _ _ _ _ HS.out HV.out.1 HN1.out a9,by have:=ai.out.1;omega,a1⟩
    have ab:SK R (w.heap.size+1+1+1) wc w5:=(SK.refl _ _ _).kept (aa.trans ar);obtain⟨r0,r1,r2,r3,y0,y1,y2,y3⟩:=HF.out.2.2.1;clear a9 b4 ar br;rcases a3 with⟨hr,rfl⟩|⟨rfl,z,rfl,a5,af⟩
    .simp only[X0];refine p.out _ _ (b6.out wc _ a2.out ab) (fun d=>?_);clear p K;(try simp only[J,C,D,G])
     refine YS (i:=7) rfl (by kernel_rfl) (fun K p=>?_);go_simp;refine p.out _ _ (b6.out wc _ a2.out ((((ab.set _ _).set _ _).set _ _).set _ _)) (fun d=>?_);clear p K;(try simp only[J,C,D,G])
     refine Zb (by kernel_rfl) ?_ _;clear d;go_wp2_with fail;obtain⟨⟨e0,e1,e2,e3⟩,l⟩:=HF.out.2.2.1.set (H I 0) (H I 0) .nilFunc (H I 0);refine Zc (v:=X0) ?_ rfl ⟨((Yi.of_below HB.out.2.1).trans HF.out.1).new l (by omega),rr,VV,cc,HF.out.2.2.2.1,HF.out.2.2.2.2.1,HF.out.2.2.2.2.2,HF.out.2.1.same l (by omega),.inl ⟨hr,rfl⟩⟩;simp[results,Za,go_sem,X0,e0,e1,e2,e3]
    .have hone:=a5.one;have bb:∀(a:Addr)(m:Mode)(W:Zj),(Zq a z.fn m).run O W=Zo O W a z.fn m:=fun a m W=>Yw hone;have bh:Ze _:=Ui (Q:=Q) (h:=z) HF.out.2.2.1 (by omega) ap ((Yi.of_below HB.out.2.1).trans HF.out.1) HF.out.2.1 a5 (fun x hx=>⟨hx.1,hx.2.1⟩);clear a5 hone;simp only[Th.ag];refine p.out _ _ (b6.out wc _ a2.out ab) (fun d=>?_);clear p K;(try simp only[J,C,D,G])
     refine YS (i:=7) rfl (by kernel_rfl) (fun K p=>?_);go_simp;refine p.out _ _ (b6.out wc _ a2.out ((((ab.set _ _).set _ _).set _ _).set _ _)) (fun d=>?_);clear p K;(try simp only[J,C,D,G])
     refine Zb (by kernel_rfl) ?_ _;clear d;go_wp2_with fail;obtain⟨⟨e0,e1,e2,e3⟩,l,hW,hi⟩:=bh.out;refine Zc (v:=z.ag) ?_ rfl ⟨l,Yl,VV,cc,HF.out.2.2.2.1,HF.out.2.2.2.2.1,HF.out.2.2.2.2.2,hW,.inr ⟨rfl,z,rfl,hi,af⟩⟩;simp[results,Za,go_sem,Th.ag,e0,e1,e2,e3]
end Go.Proofs.YtnddkmccagiclabGreatDoor
