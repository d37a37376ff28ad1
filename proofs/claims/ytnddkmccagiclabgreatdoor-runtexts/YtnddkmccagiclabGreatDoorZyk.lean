import Derived.Test.YtnddkmccagiclabGreatDoorZyf
import Derived.Test.YtnddkmccagiclabGreatDoorZyj
set_option maxRecDepth 20000
set_option maxHeartbeats 16000000
open Go.RowKit Go.Proofs.Tryz
open List renaming setIfInBounds_toArray→A,set_cons_zero→B,set_cons_succ→C,length_eq_one_iff→Zm
open Go.Value renaming int→D,slice→U,pointer→Y,agg→Zk
open Go.IntKind renaming i64→G
open Nat renaming le_refl→H,zero_add→Ze
open Go.Act renaming put→I
open Option renaming none→J,some→Zb
open Go.RowKit.Below renaming refl→L
open Go.Proofs.Tryz renaming results59→N,prog→O,results36→Zp
open Go renaming bodyPost_ret→T,wpAnyH_done→Z,wp_region_held_drew→Zf,cell_later→Zg,World→Zh,stored→Zj,Calls→Zl,store→Zn,Addr→Zo
open Go.RowKit renaming Hid→X
open Go.World renaming block_lt_of_cell?→Za
open Bool renaming false→Zc,true→Zi
open Go.Obj renaming cells→Zd
namespace Go.Proofs.YtnddkmccagiclabGreatDoor
variable {m:Bool}{M R:Nat}{Q:Nat->Prop}{w:Zh}{h:Th}
theorem EG(m:Bool)(M R F c:Nat)(Q:Nat->Prop)(x u0 u1 u2:TT)(E:List Th)(i:Ty)(ea:Option Zo)(ec:Nat)(w:Zh)(l:x.k=6)(hy:x.l=[u0,u1,u2])(hx:x.In w)(b7:x.Bl Q)(hE:Qt m M R Q w ea E)(hw:Wl R (F-c) Yn w)(hQ:¬Q R)(nw:∀b,w.heap.size<=b->Q b)(c4:EW m M R F c u0 E Xs ea ec)(c3:∀c',c<=c'->c'<=F->EW m M R F c' u1 E i ea ec)(bp:∀c',c<=c'->c'<=F->EW m M R F c' u2 E i ea ec):
  Zl O 59 #[Y (Zb ⟨R,0,J⟩),Zk #[D G x.k,D G x.n,D G x.t.k,U x.t.a x.t.l.length x.t.c,D G x.f.k,U x.f.a x.f.l.length x.f.c,U x.a x.l.length x.c],U ea E.length ec] w (Xn m M R F c Q w i (X3 m F x.tm (E.map Th.val) i c)):=by
 have ap:=hw.lt;obtain⟨W1,be⟩:∃W,W=QI R x ea E.length ec w:=⟨_,rfl⟩
 obtain⟨hB,au,bv⟩:=KE R x ea E.length ec w;rw[<-be] at hB au bv;have bm:=hw.below au;have HB:=LL hB au bm;have bc:x.l.length=3:=by rw[hy];rfl
 obtain⟨g,k,an⟩:∃g k,x.a=Zb ⟨g,k,J⟩:=by obtain⟨b,o,e,_⟩:=hx.part 0 (by omega);exact⟨b,o,e⟩
 have a0:Q g:=b7.own (by rw[hy];simp) _ an;have ah:∀W,Yi R J W1 W->XR Q w W:=fun W l b hb hq=>by have hs:=au.size;rw[l.block b (by omega) (fun e=>hQ (e▸hq)) (by simp)];exact au.block b hb
 have ci:w.heap.size+1+1+1+1<=W1.heap.size:=by omega
 obtain⟨ad,b0⟩:Uz w g (k) u0/\u0.In w:=by
  obtain⟨b',o',e',h7,hi⟩:=hx.part 0 (by omega);rw[an] at e';obtain⟨rfl,rfl⟩:g=b'/\k=o':=by simpa using e'
  exact⟨by simpa[hy] using h7,by simpa[hy] using hi⟩
 have b2:u0.Bl Q:=b7.mem (by rw[hy];simp);obtain⟨ae,b3⟩:Uz w g (k+7) u1/\u1.In w:=by
  obtain⟨b',o',e',h7,hi⟩:=hx.part 1 (by omega);rw[an] at e';obtain⟨rfl,rfl⟩:g=b'/\k=o':=by simpa using e'
  exact⟨by simpa[hy] using h7,by simpa[hy] using hi⟩
 have b5:u1.Bl Q:=b7.mem (by rw[hy];simp);obtain⟨ac,ax⟩:Uz w g (k+14) u2/\u2.In w:=by
  obtain⟨b',o',e',h7,hi⟩:=hx.part 2 (by omega);rw[an] at e';obtain⟨rfl,rfl⟩:g=b'/\k=o':=by simpa using e'
  exact⟨by simpa[hy] using h7,by simpa[hy] using hi⟩
 have b9:u2.Bl Q:=b7.mem (by rw[hy];simp);have HK:X (∀W,Yi R J W1 W->cL W w.heap.size 0 (Y (Zb ⟨R,0,J⟩))/\cL W (w.heap.size+1) 6 (U (Zb ⟨g,k,J⟩) 3 x.c)/\cL W g k (D G u0.k)/\cL W g (k+1) (D G u0.n)/\cL W g (k+2) (D G u0.t.k)/\cL W g (k+3) (u0.t.s)/\cL W g (k+4) (D G u0.f.k)/\cL W g (k+5) (u0.f.s)/\cL W g (k+6) (u0.s)/\cL W (w.heap.size+1+1) 0 (U ea E.length ec)):=fun W l=>by have y:∀b i u,cL w b i u->Q b->cL W b i u:=fun b i u e hb=>(ah W l).cell e hb;have ao:=hB.x7.c6;rw[an,bc] at ao;exact⟨l.cell hB.w0 (by omega),l.cell ao (by omega),y _ _ _ ad.c0 a0,y _ _ _ ad.c1 a0,y _ _ _ ad.c2 a0,y _ _ _ ad.c3 a0,y _ _ _ ad.c4 a0,y _ _ _ ad.c5 a0,y _ _ _ ad.c6 a0,l.cell hB.e0 (by omega)⟩
 have aw:X (∀V W,Yi R J W1 V->SK R (w.heap.size+1+1+1) V W->cL W w.heap.size 0 (Y (Zb ⟨R,0,J⟩))/\cL W (w.heap.size+1) 6 (U (Zb ⟨g,k,J⟩) 3 x.c)/\cL W g (k+7) (D G u1.k)/\cL W g (k+8) (D G u1.n)/\cL W g (k+9) (D G u1.t.k)/\cL W g (k+10) (u1.t.s)/\cL W g (k+11) (D G u1.f.k)/\cL W g (k+12) (u1.f.s)/\cL W g (k+13) (u1.s)/\cL W (w.heap.size+1+1) 0 (U ea E.length ec)):=fun V W a8 l=>by have y:∀b i u,cL w b i u->Q b->cL W b i u:=fun b i u e hb=>l b i u ((ah V a8).cell e hb) (fun e=>hQ (e▸hb)) (by have:b<w.heap.size:=Za _ _ e;omega);have ao:=hB.x7.c6;rw[an,bc] at ao;exact⟨l _ _ _ (a8.cell hB.w0 (by omega)) (by omega) (by omega),l _ _ _ (a8.cell ao (by omega)) (by omega) (by omega),y _ _ _ ae.c0 a0,y _ _ _ ae.c1 a0,y _ _ _ ae.c2 a0,y _ _ _ ae.c3 a0,y _ _ _ ae.c4 a0,y _ _ _ ae.c5 a0,y _ _ _ ae.c6 a0,l _ _ _ (a8.cell hB.e0 (by omega)) (by omega) (by omega)⟩
 have b6:X (∀V W,Yi R J W1 V->SK R (w.heap.size+1+1+1) V W->cL W w.heap.size 0 (Y (Zb ⟨R,0,J⟩))/\cL W (w.heap.size+1) 6 (U (Zb ⟨g,k,J⟩) 3 x.c)/\cL W g (k+14) (D G u2.k)/\cL W g (k+15) (D G u2.n)/\cL W g (k+16) (D G u2.t.k)/\cL W g (k+17) (u2.t.s)/\cL W g (k+18) (D G u2.f.k)/\cL W g (k+19) (u2.f.s)/\cL W g (k+20) (u2.s)/\cL W (w.heap.size+1+1) 0 (U ea E.length ec)):=fun V W a8 l=>by have y:∀b i u,cL w b i u->Q b->cL W b i u:=fun b i u e hb=>l b i u ((ah V a8).cell e hb) (fun e=>hQ (e▸hb)) (by have:b<w.heap.size:=Za _ _ e;omega);have ao:=hB.x7.c6;rw[an,bc] at ao;exact⟨l _ _ _ (a8.cell hB.w0 (by omega)) (by omega) (by omega),l _ _ _ (a8.cell ao (by omega)) (by omega) (by omega),y _ _ _ ac.c0 a0,y _ _ _ ac.c1 a0,y _ _ _ ac.c2 a0,y _ _ _ ac.c3 a0,y _ _ _ ac.c4 a0,y _ _ _ ac.c5 a0,y _ _ _ ac.c6 a0,l _ _ _ (a8.cell hB.e0 (by omega)) (by omega) (by omega)⟩
 have HI:X (∀(z:Nat)(W:Zh),Yi R J W1 W->Wl R (F-c) Yn W->w.heap.size<=z->z<W.heap.size->Zl O 59 #[Y (Zb ⟨R,0,J⟩),Zk u0.v,U ea E.length ec] W (Xn m M R F c (fun b=>Q b/\b≠w.heap.size+1+1+1/\b≠z) W Xs (X3 m F u0.tm (E.map Th.val) Xs c))):=fun z W l ba c5 bu=>by have bk:=l.size;exact c4 (fun b=>Q b/\b≠w.heap.size+1+1+1/\b≠z) W (b0.same (ah W l) b2) ((b2.and b0.bl).mono fun b hb=>⟨hb.1,by omega,by omega⟩) ((hE.mono (Q':=(fun b=>Q b/\b≠w.heap.size+1+1+1/\b≠z)) fun x h1 q=>⟨q,by omega,by omega⟩).same fun b h1 q=>ah W l b h1 q.1) ba (fun hx=>hQ hx.1) (fun b hb=>⟨nw b (by omega),by omega,by omega⟩)
 have bn:X (∀(c':Nat)(h1:c<=c')(q:c'<=F)(z:Nat)(W:Zh),Yi R J W1 W->Wl R (F-c') Yn W->w.heap.size<=z->z<W.heap.size->Zl O 59 #[Y (Zb ⟨R,0,J⟩),Zk u1.v,U ea E.length ec] W (Xn m M R F c' (fun b=>Q b/\b≠w.heap.size+1+1+1/\b≠z) W i (X3 m F u1.tm (E.map Th.val) i c'))):=fun c' h1 q z W l ba c5 bu=>by have bk:=l.size;exact c3 c' h1 q (fun b=>Q b/\b≠w.heap.size+1+1+1/\b≠z) W (b3.same (ah W l) b5) ((b5.and b3.bl).mono fun b hb=>⟨hb.1,by omega,by omega⟩) ((hE.mono (Q':=(fun b=>Q b/\b≠w.heap.size+1+1+1/\b≠z)) fun x h1 q=>⟨q,by omega,by omega⟩).same fun b h1 q=>ah W l b h1 q.1) ba (fun hx=>hQ hx.1) (fun b hb=>⟨nw b (by omega),by omega,by omega⟩)
 have br:X (∀(c':Nat)(h1:c<=c')(q:c'<=F)(z:Nat)(W:Zh),Yi R J W1 W->Wl R (F-c') Yn W->w.heap.size<=z->z<W.heap.size->Zl O 59 #[Y (Zb ⟨R,0,J⟩),Zk u2.v,U ea E.length ec] W (Xn m M R F c' (fun b=>Q b/\b≠w.heap.size+1+1+1/\b≠z) W i (X3 m F u2.tm (E.map Th.val) i c'))):=fun c' h1 q z W l ba c5 bu=>by have bk:=l.size;exact bp c' h1 q (fun b=>Q b/\b≠w.heap.size+1+1+1/\b≠z) W (ax.same (ah W l) b9) ((b9.and ax.bl).mono fun b hb=>⟨hb.1,by omega,by omega⟩) ((hE.mono (Q':=(fun b=>Q b/\b≠w.heap.size+1+1+1/\b≠z)) fun x h1 q=>⟨q,by omega,by omega⟩).same fun b h1 q=>ah W l b h1 q.1) ba (fun hx=>hQ hx.1) (fun b hb=>⟨nw b (by omega),by omega,by omega⟩)
 have av:x.tm.at 0=u0.tm:=by rw[Tm.at,TT.mq,hy];rfl
 have bo:x.tm.at 1=u1.tm:=by rw[Tm.at,TT.mq,hy];rfl
 have c7:x.tm.at 2=u2.tm:=by rw[Tm.at,TT.mq,hy];rfl
 have b1:x.tm.k=6:=by rw[TT.mc];exact l
 have cd:X (∀r V c',X3 m F u0.tm (E.map Th.val) Xs c r V c'->r.k≠0->X3 m F x.tm (E.map Th.val) i c r V c'):=fun r V c' h hr=>⟨BK b1 (by rw[av];exact h.1) hr,fun _ h0=>absurd h0 hr⟩
 have c6:X (∀V c',X3 m F u0.tm (E.map Th.val) Xs c Yn V c'->V.k≠2->X3 m F x.tm (E.map Th.val) i c Yw V c'):=fun V c' h hv=>⟨TW b1 (by rw[av];exact h.1) rfl hv,fun _ h0=>by cases h0⟩
 have ca:X (∀V c' r2 V2 c2,X3 m F u0.tm (E.map Th.val) Xs c Yn V c'->V.k=2->V.n=1->X3 m F u1.tm (E.map Th.val) i c' r2 V2 c2->X3 m F x.tm (E.map Th.val) i c r2 V2 c2):=fun V c' r2 V2 c2 h hv hn q=>⟨E5 b1 (by rw[av];exact h.1) rfl hv (by rw[if_pos hn,bo];exact q.1),q.2⟩
 have cb:X (∀V c' r2 V2 c2,X3 m F u0.tm (E.map Th.val) Xs c Yn V c'->V.k=2->V.n≠1->X3 m F u2.tm (E.map Th.val) i c' r2 V2 c2->X3 m F x.tm (E.map Th.val) i c r2 V2 c2):=fun V c' r2 V2 c2 h hv hn q=>⟨E5 b1 (by rw[av];exact h.1) rfl hv (by rw[if_neg hn,c7];exact q.1),q.2⟩
 have i0:(0:Int)<((3:Nat):Int):=by omega
 have i1:(1:Int)<((3:Nat):Int):=by omega
 have i2:(2:Int)<((3:Nat):Int):=by omega
 obtain⟨c0,c1,_,_,_,_,_,_⟩:=bm;replace c1:cL W1 R 1 (D G 0):=c1;obtain⟨w0,⟨x0,x1,x2,x3,x4,x5,x6⟩,e0,⟨r0,r1,r2,r3,y0,y1,y2,y3⟩⟩:=hB;simp only[Ze] at x1 x2 x3 x4 x5 x6;rw[l] at x0;have aa:Yi R J W1 W1.drew:=Yi.la ((L _ _).drew);have ak:Wl R (F-c) Yn W1.drew:=HB.out.2.2.below ((L _ _).drew);have c8:=Yy l;clear l hx b7 hE hw nw au bv ah ad b0 b2 ae b3 b5 ac ax b9 bc an a0 hy hQ c4 c3 bp av bo c7 b1;go_enter func59,ntmps59;go_upto_region 1 with fail;unfold QI at be;rw[<-be];clear be;go_upto_region 20 with fail;clear x0 x1 x2 x3 x4 x5 x6 e0 r0 r1 r2 r3 y0 y1 y2 y3 c0 c1 w0;go_cut [8] (fun ts wx=>∃bs:Nat,ts=Y (Zb ⟨bs,0,J⟩)/\X (Jf m M R F c Q w W1 u0 E Xs bs wx))
 case first=>
  refine Zf (S:=fun W=>cL W w.heap.size 0 (Y (Zb ⟨R,0,J⟩))/\cL W (w.heap.size+1) 6 (U (Zb ⟨g,k,J⟩) 3 x.c)/\cL W g k (D G u0.k)/\cL W g (k+1) (D G u0.n)/\cL W g (k+2) (D G u0.t.k)/\cL W g (k+3) (u0.t.s)/\cL W g (k+4) (D G u0.f.k)/\cL W g (k+5) (u0.f.s)/\cL W g (k+6) (u0.s)/\cL W (w.heap.size+1+1) 0 (U ea E.length ec)) (by kernel_rfl) (HK.out _ aa) (fun d=>?_);refine qk 0 (v:=?_) rfl (by kernel_rfl) (fun _ _ _ h=>h) (by rfl) d ?_ ?_;rotate_left;(focus (intro w' h;go_split_ands;go_simp;try with_reducible rfl));simp only[I,A,B,C];refine qk 1 (v:=?_) rfl (by kernel_rfl) (fun _ _ _ h=>h) (by rfl) d ?_ ?_;rotate_left;(focus (intro w' h;go_split_ands;go_simp;try with_reducible rfl));simp only[I,A,B,C];refine qk 2 (v:=?_) rfl (by kernel_rfl) (fun _ _ _ h=>h) (by rfl) d ?_ ?_;rotate_left;(focus (intro w' h;go_split_ands;go_simp;try with_reducible rfl));simp only[I,A,B,C];refine qk 3 (v:=?_) rfl (by kernel_rfl) (fun _ _ _ h=>h) (by rfl) d ?_ ?_;rotate_left;(focus (intro w' h;go_split_ands;go_simp;try with_reducible rfl));simp only[I,A,B,C];refine qk 4 (v:=?_) rfl (by kernel_rfl) (fun _ _ _ h=>h) (by rfl) d ?_ ?_;rotate_left;(focus (intro w' h;go_split_ands;go_simp;try with_reducible rfl));simp only[I,A,B,C];refine qk 5 (v:=?_) rfl (by kernel_rfl) (fun _ _ _ h=>h) (by rfl) d ?_ ?_;rotate_left;(focus (intro w' h;go_split_ands;go_simp;try with_reducible rfl));simp only[I,A,B,C];refine Pk (i:=6) (j:=7) rfl rfl (by kernel_rfl) (fun K p=>?_) (fun K p=>?_)
  .go_simp;refine(HI.out w.heap.size _ aa ak (H _) (by show _<W1.heap.size;omega)).mono ?_;rintro e w2 ⟨q,rr,VV,cc,a9,a6,a1,a7,a3⟩;have a4:=aa.trans q;have cj:=a4.size;rcases a3 with⟨hr,rfl⟩|⟨rfl,z,rfl,a5,af⟩
   .have am:bL w2 (w2.alloc (Zd #[D G 0,D G 0,.nilFunc,D G 0] 103)):=(L _ _).alloc (H _) _;have HN:X (Jf m M R F c Q w W1 u0 E Xs w2.heap.size (w2.alloc (Zd #[D G 0,D G 0,.nilFunc,D G 0] 103))):=⟨by omega,a4.trans (Yi.la am),rr,VV,cc,a9,a6,a1,a7.below am,.inl hr⟩
    clear hr a9;simp only[Uf];refine p.out _ _ (HK.out _ a4) (fun d=>?_);clear p K;(try simp only[I,A,B,C])
    refine YT (i:=7) rfl (by kernel_rfl) (fun K p=>?_);go_simp;refine p.out _ _ (HK.out _ (a4.trans (Yi.la ((L _ _).alloc (H _) _)))) (fun d=>?_);clear p K;(try simp only[I,A,B,C])
    refine YT (i:=8) rfl (by kernel_rfl) (fun K p=>?_);go_simp;refine p.out _ _ (HK.out _ (a4.trans (Yi.la am))) (fun d=>?_);clear p K;(try simp only[I,A,B,C])
    refine Z (by kernel_rfl) ?_ _;clear d a6 a1 a7;go_wp2_with fail;go_meet
    case rel=>exact⟨_,rfl,HN⟩
   .have hone:=a5.one;have bb:∀(a:Zo)(m:Mode)(W:Zh),(Zn a z.fn m).run O W=Zj O W a z.fn m:=fun a m W=>Yx hone;have am:bL w2 (w2.alloc (Zd z.v 103)):=(L _ _).alloc (H _) _;have HN:X (Jf m M R F c Q w W1 u0 E Xs w2.heap.size (w2.alloc (Zd z.v 103))):=⟨by omega,a4.trans (Yi.la am),Yn,VV,cc,a9,a6,a1,a7.below am,.inr ⟨rfl,z,⟨by simp[go_sem],by simp[go_sem],by simp[go_sem],by simp[go_sem]⟩,(a5.same (XR.la am)).mono (fun x _ hx=>⟨hx.1,hx.2.1⟩),af⟩⟩
    clear a9 a5 af hone;simp only[Th.ag];refine p.out _ _ (HK.out _ a4) (fun d=>?_);clear p K;(try simp only[I,A,B,C])
    refine YT (i:=7) rfl (by kernel_rfl) (fun K p=>?_);go_simp;refine p.out _ _ (HK.out _ (a4.trans (Yi.la ((L _ _).alloc (H _) _)))) (fun d=>?_);clear p K;(try simp only[I,A,B,C])
    refine YT (i:=8) rfl (by kernel_rfl) (fun K p=>?_);go_simp;refine p.out _ _ (HK.out _ (a4.trans (Yi.la am))) (fun d=>?_);clear p K;(try simp only[I,A,B,C])
    refine Z (by kernel_rfl) ?_ _;clear d a6 a1 a7;go_wp2_with fail;go_meet
    case rel=>exact⟨_,rfl,HN⟩
  .go_simp;have bi:Yi R J W1 (W1.alloc (Zd #[D G 0,D G 0,.nilFunc,D G 0] 103)).drew:=Yi.la (((L _ _).alloc (H _) _).drew);refine p.out _ _ (HK.out _ bi) (fun d=>?_);clear p K;(try simp only[I,A,B,C])
   refine YT (i:=6) rfl (by kernel_rfl) (fun K p=>?_);go_simp;refine(HI.out W1.heap.size _ bi (HB.out.2.2.below (((L _ _).alloc (H _) _).drew)) (by omega) (by show _<(W1.alloc (Zd #[D G 0,D G 0,.nilFunc,D G 0] 103)).heap.size;simp)).mono ?_;rintro e w2 ⟨q,rr,VV,cc,a9,a6,a1,a7,a3⟩;have a4:=bi.trans q;have q9:Rb w2 W1.heap.size:=((Rb.new W1).below ((L _ _).drew)).kept q (by omega);rcases a3 with⟨hr,rfl⟩|⟨rfl,z,rfl,a5,af⟩
   .obtain⟨⟨g0,g1,g2,g3⟩,aj⟩:=q9.set (D G 0) (D G 0) .nilFunc (D G 0);have HN:X (Jf m M R F c Q w W1 u0 E Xs W1.heap.size ((((w2.setCell ⟨W1.heap.size,0,J⟩ (D G 0)).setCell ⟨W1.heap.size,1,J⟩ (D G 0)).setCell ⟨W1.heap.size,2,J⟩ .nilFunc).setCell ⟨W1.heap.size,3,J⟩ (D G 0))):=⟨by omega,a4.new aj (H _),rr,VV,cc,a9,a6,a1,a7.same aj (by omega),.inl hr⟩
    have a8:=a4.new aj (H _);clear hr a9;simp only[Uf];obtain⟨p0,p1,p2,p3,x0,x1,x2,x3⟩:=q9;clear g0 g1 g2 g3 aj;refine p.out _ _ (HK.out _ a4) (fun d=>?_);clear p K;(try simp only[I,A,B,C])
    refine YT (i:=8) rfl (by kernel_rfl) (fun K p=>?_);go_simp;refine p.out _ _ (HK.out _ a8) (fun d=>?_);clear p K;(try simp only[I,A,B,C])
    refine Z (by kernel_rfl) ?_ _;obtain⟨V9,aq⟩:∃V9,V9=(((w2.setCell ⟨W1.heap.size,0,J⟩ (D G 0)).setCell ⟨W1.heap.size,1,J⟩ (D G 0)).setCell ⟨W1.heap.size,2,J⟩ .nilFunc).setCell ⟨W1.heap.size,3,J⟩ (D G 0):=⟨_,rfl⟩
    rw[<-aq] at HN;rw[<-aq];clear aq d a8 p0 p1 p2 p3 x0 x1 x2 x3 a7 a4 q a6 a1;go_wp2_with fail;go_meet
    case rel=>exact⟨_,rfl,HN⟩
   .have hone:=a5.one;have bb:∀(a:Zo)(m:Mode)(W:Zh),(Zn a z.fn m).run O W=Zj O W a z.fn m:=fun a m W=>Yx hone;obtain⟨⟨g0,g1,g2,g3⟩,aj⟩:=q9.set (D G z.k) (D G z.n) z.fn (D G z.tag);have HN:X (Jf m M R F c Q w W1 u0 E Xs W1.heap.size ((((w2.setCell ⟨W1.heap.size,0,J⟩ (D G z.k)).setCell ⟨W1.heap.size,1,J⟩ (D G z.n)).setCell ⟨W1.heap.size,2,J⟩ z.fn).setCell ⟨W1.heap.size,3,J⟩ (D G z.tag))):=⟨by omega,a4.new aj (H _),Yn,VV,cc,a9,a6,a1,a7.same aj (by omega),.inr ⟨rfl,z,⟨g0,g1,g2,g3⟩,(a5.same (XR.mb aj fun hx=>hx.2.2 rfl)).mono (fun x _ hx=>⟨hx.1,hx.2.1⟩),af⟩⟩
    have a8:=a4.new aj (H _);clear a9 a5 af hone;simp only[Th.ag];obtain⟨p0,p1,p2,p3,x0,x1,x2,x3⟩:=q9;clear g0 g1 g2 g3 aj;refine p.out _ _ (HK.out _ a4) (fun d=>?_);clear p K;(try simp only[I,A,B,C])
    refine YT (i:=8) rfl (by kernel_rfl) (fun K p=>?_);go_simp;refine p.out _ _ (HK.out _ a8) (fun d=>?_);clear p K;(try simp only[I,A,B,C])
    refine Z (by kernel_rfl) ?_ _;obtain⟨V9,aq⟩:∃V9,V9=(((w2.setCell ⟨W1.heap.size,0,J⟩ (D G z.k)).setCell ⟨W1.heap.size,1,J⟩ (D G z.n)).setCell ⟨W1.heap.size,2,J⟩ z.fn).setCell ⟨W1.heap.size,3,J⟩ (D G z.tag):=⟨_,rfl⟩
    rw[<-aq] at HN;rw[<-aq];clear aq d a8 p0 p1 p2 p3 x0 x1 x2 x3 a7 a4 q a6 a1;go_wp2_with fail;go_meet
    case rel=>exact⟨_,rfl,HN⟩
 case rest=>
 obtain⟨b8,rfl,HP⟩:=hcut;obtain⟨cg,az,r,V,c',hS,bg,bd,bf,a3⟩:=HP.out;clear HP HI aa ak HK;have ce:=HB.out.1.kept az ap;obtain⟨w0,⟨x0,x1,x2,x3,x4,x5,x6⟩,e0,bj⟩:=ce;simp only[Ze] at x1 x2 x3 x4 x5 x6;rw[c8.out] at x0;have ck:b8≠R:=by omega
 have a2:=Yy az;rcases a3 with hr|⟨rfl,z,cf,a5,af,ch⟩
 .have hgk:(r.k != 0)=Zi:=by simpa using hr
  have HF:X (Yi R J W1 wc/\Wl R (F-c') r wc/\Rb wc (w.heap.size+1+1+1)/\X3 m F x.tm (E.map Th.val) i c r V c'/\c<=c'/\c'<=F/\r.k≠0):=⟨az,bf,bj,cd.out _ _ _ hS hr,bg,bd,hr⟩
  obtain⟨c0,c1,_,_,_,_,_,_⟩:=bf;obtain⟨r0,r1,r2,r3,y0,y1,y2,y3⟩:=bj;clear az hS hr bg bd;apply_assumption;go_wp2_with fail;obtain⟨⟨e0,e1,e2,e3⟩,l⟩:=HF.out.2.2.1.set (D G 0) (D G 0) .nilFunc (D G 0);refine T (v:=Uf) ?_ rfl ⟨((Yi.la HB.out.2.1).trans HF.out.1).new l (by omega),r,V,c',HF.out.2.2.2.1,HF.out.2.2.2.2.1,HF.out.2.2.2.2.2.1,HF.out.2.1.same l (by omega),.inl ⟨HF.out.2.2.2.2.2.2,rfl⟩⟩;simp[results,N,go_sem,Uf,e0,e1,e2,e3]
 .have HW:=Yy bf;have ai:=Uy bg bd;have HS:X (X3 m F u0.tm (E.map Th.val) Xs c Yn z.val c'):=af▸hS;have bt:=a5.kinds;obtain⟨z0,z1,z2,z3⟩:=cf;simp only[Ze] at z1 z2 z3;obtain⟨c0,c1,_,_,_,_,_,_⟩:=bf;replace c1:cL wc R 1 (D G 0):=c1;clear az hS bg bd a5 af ch bj cg;have fin:(z.tag≠0/\z.val.k=5)\/(z.tag=0/\z.k≠2/\z.val.k≠2)\/(z.tag=0/\z.k=2/\z.val=Xp z.n):=by
   rcases bt with h|⟨h0,_,⟨h1,q⟩|⟨h1,q⟩|⟨h1,q,_⟩⟩
   .exact .inl h
   .exact .inr (.inl ⟨h0,by omega,by rw[q];simp[XP]⟩)
   .exact .inr (.inr ⟨h0,h1,q⟩)
   .exact .inr (.inl ⟨h0,by omega,by omega⟩)
  clear bt;rcases fin with⟨h1,q⟩|⟨h0,h1,q⟩|⟨h0,h1,q⟩
  .have bz:(z.tag != 0)=Zi:=by simpa using h1
   have c9:z.val.k≠2:=by omega
   clear h1 q;have al:X (X3 m F x.tm (E.map Th.val) i c Yw z.val c'/\c<=c'/\c'<=F/\Yw.k≠0):=⟨c6.out _ _ HS.out c9,ai.out.1,ai.out.2,by decide⟩
   apply_assumption;go_wp2_with (go_at_call 94;refine(UV R _ _ HW.out).mono ?_;rintro e w2 ⟨rfl,a7,q⟩;simp only[Uf];have HF:X (Yi R J W1 w2/\Wl R (F-c') Yw w2/\Rb w2 (w.heap.size+1+1+1)):=⟨a2.out.trans q,a7,(HB.out.1.kept (a2.out.trans q) ap).r⟩;clear a7 q w0 x0 x1 x2 x3 x4 x5 x6 e0 z0 z1 z2 z3 c0 c1;obtain⟨r0,r1,r2,r3,y0,y1,y2,y3⟩:=HF.out.2.2)
   obtain⟨⟨e0,e1,e2,e3⟩,l⟩:=HF.out.2.2.set (D G 0) (D G 0) .nilFunc (D G 0);refine T (v:=Uf) ?_ rfl ⟨((Yi.la HB.out.2.1).trans HF.out.1).new l (by omega),Yw,z.val,c',al.out.1,al.out.2.1,al.out.2.2.1,HF.out.2.1.same l (by omega),.inl ⟨al.out.2.2.2,rfl⟩⟩;simp[results,N,go_sem,Uf,e0,e1,e2,e3]
  .have bz:(z.k != 2)=Zi:=by simpa using h1
   rw[h0] at z3;have HV:=Yy q;clear h0 h1 q;have al:X (X3 m F x.tm (E.map Th.val) i c Yw z.val c'/\c<=c'/\c'<=F/\Yw.k≠0):=⟨c6.out _ _ HS.out HV.out,ai.out.1,ai.out.2,by decide⟩
   apply_assumption;go_wp2_with (go_at_call 94;refine(UV R _ _ HW.out).mono ?_;rintro e w2 ⟨rfl,a7,q⟩;simp only[Uf];have HF:X (Yi R J W1 w2/\Wl R (F-c') Yw w2/\Rb w2 (w.heap.size+1+1+1)):=⟨a2.out.trans q,a7,(HB.out.1.kept (a2.out.trans q) ap).r⟩;clear a7 q w0 x0 x1 x2 x3 x4 x5 x6 e0 z0 z1 z2 z3 c0 c1;obtain⟨r0,r1,r2,r3,y0,y1,y2,y3⟩:=HF.out.2.2)
   obtain⟨⟨e0,e1,e2,e3⟩,l⟩:=HF.out.2.2.set (D G 0) (D G 0) .nilFunc (D G 0);refine T (v:=Uf) ?_ rfl ⟨((Yi.la HB.out.2.1).trans HF.out.1).new l (by omega),Yw,z.val,c',al.out.1,al.out.2.1,al.out.2.2.1,HF.out.2.1.same l (by omega),.inl ⟨al.out.2.2.2,rfl⟩⟩;simp[results,N,go_sem,Uf,e0,e1,e2,e3]
  .rw[h0] at z3;rw[h1] at z0;have HV:X (z.val.k=2/\z.val.n=z.n):=by
    show _/\_
    rw[q];exact⟨rfl,rfl⟩
   clear h0 h1 q;by_cases hn:z.n=1
   .have HN1:X (z.val.n=1):=by
     show _=_
     rw[HV.out.2];exact hn
    rw[hn] at z1;clear hn;apply_assumption;go_upto_region 27 with fail;clear w0 x0 x1 x2 x3 x4 x5 x6 e0 z0 z1 z2 z3 c0 c1;have aa:Yi R J wc wc.drew:=Yi.la ((L _ _).drew);have ak:Wl R (F-c') Yn wc.drew:=HW.out.below ((L _ _).drew);have bq:=a2.out.size;refine Zf (S:=fun W=>cL W w.heap.size 0 (Y (Zb ⟨R,0,J⟩))/\cL W (w.heap.size+1) 6 (U (Zb ⟨g,k,J⟩) 3 x.c)/\cL W g (k+7) (D G u1.k)/\cL W g (k+8) (D G u1.n)/\cL W g (k+9) (D G u1.t.k)/\cL W g (k+10) (u1.t.s)/\cL W g (k+11) (D G u1.f.k)/\cL W g (k+12) (u1.f.s)/\cL W g (k+13) (u1.s)/\cL W (w.heap.size+1+1) 0 (U ea E.length ec)) (by kernel_rfl) (aw.out wc _ a2.out ((SK.refl _ _ _).kept aa)) (fun d=>?_);refine qk 0 (v:=?_) rfl (by kernel_rfl) (fun _ _ _ h=>h) (by rfl) d ?_ ?_;rotate_left;(focus (intro w' h;go_split_ands;go_simp;try with_reducible rfl));simp only[I,A,B,C];refine qk 1 (v:=?_) rfl (by kernel_rfl) (fun _ _ _ h=>h) (by rfl) d ?_ ?_;rotate_left;(focus (intro w' h;go_split_ands;go_simp;try with_reducible rfl));simp only[I,A,B,C];refine qk 2 (v:=?_) rfl (by kernel_rfl) (fun _ _ _ h=>h) (by rfl) d ?_ ?_;rotate_left;(focus (intro w' h;go_split_ands;go_simp;try with_reducible rfl));simp only[I,A,B,C];refine qk 3 (v:=?_) rfl (by kernel_rfl) (fun _ _ _ h=>h) (by rfl) d ?_ ?_;rotate_left;(focus (intro w' h;go_split_ands;go_simp;try with_reducible rfl));simp only[I,A,B,C];refine qk 4 (v:=?_) rfl (by kernel_rfl) (fun _ _ _ h=>h) (by rfl) d ?_ ?_;rotate_left;(focus (intro w' h;go_split_ands;go_simp;try with_reducible rfl));simp only[I,A,B,C];refine qk 5 (v:=?_) rfl (by kernel_rfl) (fun _ _ _ h=>h) (by rfl) d ?_ ?_;rotate_left;(focus (intro w' h;go_split_ands;go_simp;try with_reducible rfl));simp only[I,A,B,C];refine YT (i:=6) rfl (by kernel_rfl) (fun K p=>?_);go_simp;refine(bn.out c' ai.out.1 ai.out.2 w.heap.size _ (a2.out.trans aa) ak (H _) (by show _<wc.heap.size;omega)).mono ?_;rintro e w5 ⟨ar,rr,VV,cc,a9,a6,a1,b4,a3⟩;have ay:=(a2.out.trans aa).trans ar;have HF:X (Yi R J W1 w5/\Wl R (F-cc) rr w5/\Rb w5 (w.heap.size+1+1+1)/\X3 m F x.tm (E.map Th.val) i c rr VV cc/\c<=cc/\cc<=F):=⟨ay,b4,(HB.out.1.kept ay ap).r,ca.out _ _ _ _ _ HS.out HV.out.1 HN1.out a9,by have:=ai.out.1;omega,a1⟩
    have ab:SK R (w.heap.size+1+1+1) wc w5:=(SK.refl _ _ _).kept (aa.trans ar);obtain⟨r0,r1,r2,r3,y0,y1,y2,y3⟩:=HF.out.2.2.1;clear a9 b4 ar bn;rcases a3 with⟨hr,rfl⟩|⟨rfl,z,rfl,a5,af⟩
    .simp only[Uf];refine p.out _ _ (aw.out wc _ a2.out ab) (fun d=>?_);clear p K;(try simp only[I,A,B,C])
     refine YT (i:=7) rfl (by kernel_rfl) (fun K p=>?_);go_simp;refine p.out _ _ (aw.out wc _ a2.out ((((ab.set _ _).set _ _).set _ _).set _ _)) (fun d=>?_);clear p K;(try simp only[I,A,B,C])
     refine Z (by kernel_rfl) ?_ _;clear d;go_wp2_with fail;obtain⟨⟨e0,e1,e2,e3⟩,l⟩:=HF.out.2.2.1.set (D G 0) (D G 0) .nilFunc (D G 0);refine T (v:=Uf) ?_ rfl ⟨((Yi.la HB.out.2.1).trans HF.out.1).new l (by omega),rr,VV,cc,HF.out.2.2.2.1,HF.out.2.2.2.2.1,HF.out.2.2.2.2.2,HF.out.2.1.same l (by omega),.inl ⟨hr,rfl⟩⟩;simp[results,N,go_sem,Uf,e0,e1,e2,e3]
    .have hone:=a5.one;have bb:∀(a:Zo)(m:Mode)(W:Zh),(Zn a z.fn m).run O W=Zj O W a z.fn m:=fun a m W=>Yx hone;have bh:X _:=Uv (Q:=Q) (h:=z) HF.out.2.2.1 (by omega) ap ((Yi.la HB.out.2.1).trans HF.out.1) HF.out.2.1 a5 (fun x hx=>⟨hx.1,hx.2.1⟩);clear a5 hone;simp only[Th.ag];refine p.out _ _ (aw.out wc _ a2.out ab) (fun d=>?_);clear p K;(try simp only[I,A,B,C])
     refine YT (i:=7) rfl (by kernel_rfl) (fun K p=>?_);go_simp;refine p.out _ _ (aw.out wc _ a2.out ((((ab.set _ _).set _ _).set _ _).set _ _)) (fun d=>?_);clear p K;(try simp only[I,A,B,C])
     refine Z (by kernel_rfl) ?_ _;clear d;go_wp2_with fail;obtain⟨⟨e0,e1,e2,e3⟩,l,hW,hi⟩:=bh.out;refine T (v:=z.ag) ?_ rfl ⟨l,Yn,VV,cc,HF.out.2.2.2.1,HF.out.2.2.2.2.1,HF.out.2.2.2.2.2,hW,.inr ⟨rfl,z,rfl,hi,af⟩⟩;simp[results,N,go_sem,Th.ag,e0,e1,e2,e3]
   .have HN1:X (z.val.n≠1):=by
     show _≠_
     rw[HV.out.2];exact hn
    have bz:(z.n==1)=Zc:=by simpa using hn
    clear hn;apply_assumption;go_upto_region 28 with fail;clear w0 x0 x1 x2 x3 x4 x5 x6 e0 z0 z1 z2 z3 c0 c1;have aa:Yi R J wc wc.drew:=Yi.la ((L _ _).drew);have ak:Wl R (F-c') Yn wc.drew:=HW.out.below ((L _ _).drew);have bq:=a2.out.size;refine Zf (S:=fun W=>cL W w.heap.size 0 (Y (Zb ⟨R,0,J⟩))/\cL W (w.heap.size+1) 6 (U (Zb ⟨g,k,J⟩) 3 x.c)/\cL W g (k+14) (D G u2.k)/\cL W g (k+15) (D G u2.n)/\cL W g (k+16) (D G u2.t.k)/\cL W g (k+17) (u2.t.s)/\cL W g (k+18) (D G u2.f.k)/\cL W g (k+19) (u2.f.s)/\cL W g (k+20) (u2.s)/\cL W (w.heap.size+1+1) 0 (U ea E.length ec)) (by kernel_rfl) (b6.out wc _ a2.out ((SK.refl _ _ _).kept aa)) (fun d=>?_);refine qk 0 (v:=?_) rfl (by kernel_rfl) (fun _ _ _ h=>h) (by rfl) d ?_ ?_;rotate_left;(focus (intro w' h;go_split_ands;go_simp;try with_reducible rfl));simp only[I,A,B,C];refine qk 1 (v:=?_) rfl (by kernel_rfl) (fun _ _ _ h=>h) (by rfl) d ?_ ?_;rotate_left;(focus (intro w' h;go_split_ands;go_simp;try with_reducible rfl));simp only[I,A,B,C];refine qk 2 (v:=?_) rfl (by kernel_rfl) (fun _ _ _ h=>h) (by rfl) d ?_ ?_;rotate_left;(focus (intro w' h;go_split_ands;go_simp;try with_reducible rfl));simp only[I,A,B,C];refine qk 3 (v:=?_) rfl (by kernel_rfl) (fun _ _ _ h=>h) (by rfl) d ?_ ?_;rotate_left;(focus (intro w' h;go_split_ands;go_simp;try with_reducible rfl));simp only[I,A,B,C];refine qk 4 (v:=?_) rfl (by kernel_rfl) (fun _ _ _ h=>h) (by rfl) d ?_ ?_;rotate_left;(focus (intro w' h;go_split_ands;go_simp;try with_reducible rfl));simp only[I,A,B,C];refine qk 5 (v:=?_) rfl (by kernel_rfl) (fun _ _ _ h=>h) (by rfl) d ?_ ?_;rotate_left;(focus (intro w' h;go_split_ands;go_simp;try with_reducible rfl));simp only[I,A,B,C];refine YT (i:=6) rfl (by kernel_rfl) (fun K p=>?_);go_simp;refine(br.out c' ai.out.1 ai.out.2 w.heap.size _ (a2.out.trans aa) ak (H _) (by show _<wc.heap.size;omega)).mono ?_;rintro e w5 ⟨ar,rr,VV,cc,a9,a6,a1,b4,a3⟩;have ay:=(a2.out.trans aa).trans ar;have HF:X (Yi R J W1 w5/\Wl R (F-cc) rr w5/\Rb w5 (w.heap.size+1+1+1)/\X3 m F x.tm (E.map Th.val) i c rr VV cc/\c<=cc/\cc<=F):=⟨ay,b4,(HB.out.1.kept ay ap).r,cb.out _ _ _ _ _ HS.out HV.out.1 HN1.out a9,by have:=ai.out.1;omega,a1⟩
    have ab:SK R (w.heap.size+1+1+1) wc w5:=(SK.refl _ _ _).kept (aa.trans ar);obtain⟨r0,r1,r2,r3,y0,y1,y2,y3⟩:=HF.out.2.2.1;clear a9 b4 ar br;rcases a3 with⟨hr,rfl⟩|⟨rfl,z,rfl,a5,af⟩
    .simp only[Uf];refine p.out _ _ (b6.out wc _ a2.out ab) (fun d=>?_);clear p K;(try simp only[I,A,B,C])
     refine YT (i:=7) rfl (by kernel_rfl) (fun K p=>?_);go_simp;refine p.out _ _ (b6.out wc _ a2.out ((((ab.set _ _).set _ _).set _ _).set _ _)) (fun d=>?_);clear p K;(try simp only[I,A,B,C])
     refine Z (by kernel_rfl) ?_ _;clear d;go_wp2_with fail;obtain⟨⟨e0,e1,e2,e3⟩,l⟩:=HF.out.2.2.1.set (D G 0) (D G 0) .nilFunc (D G 0);refine T (v:=Uf) ?_ rfl ⟨((Yi.la HB.out.2.1).trans HF.out.1).new l (by omega),rr,VV,cc,HF.out.2.2.2.1,HF.out.2.2.2.2.1,HF.out.2.2.2.2.2,HF.out.2.1.same l (by omega),.inl ⟨hr,rfl⟩⟩;simp[results,N,go_sem,Uf,e0,e1,e2,e3]
    .have hone:=a5.one;have bb:∀(a:Zo)(m:Mode)(W:Zh),(Zn a z.fn m).run O W=Zj O W a z.fn m:=fun a m W=>Yx hone;have bh:X _:=Uv (Q:=Q) (h:=z) HF.out.2.2.1 (by omega) ap ((Yi.la HB.out.2.1).trans HF.out.1) HF.out.2.1 a5 (fun x hx=>⟨hx.1,hx.2.1⟩);clear a5 hone;simp only[Th.ag];refine p.out _ _ (b6.out wc _ a2.out ab) (fun d=>?_);clear p K;(try simp only[I,A,B,C])
     refine YT (i:=7) rfl (by kernel_rfl) (fun K p=>?_);go_simp;refine p.out _ _ (b6.out wc _ a2.out ((((ab.set _ _).set _ _).set _ _).set _ _)) (fun d=>?_);clear p K;(try simp only[I,A,B,C])
     refine Z (by kernel_rfl) ?_ _;clear d;go_wp2_with fail;obtain⟨⟨e0,e1,e2,e3⟩,l,hW,hi⟩:=bh.out;refine T (v:=z.ag) ?_ rfl ⟨l,Yn,VV,cc,HF.out.2.2.2.1,HF.out.2.2.2.2.1,HF.out.2.2.2.2.2,hW,.inr ⟨rfl,z,rfl,hi,af⟩⟩;simp[results,N,go_sem,Th.ag,e0,e1,e2,e3]
theorem Th.In.qw(hi:h.In m M R Q w)(a:h.k=1):-1000000<=h.n/\h.n<=1000000:=by
 rcases Th.lk.1 hi with⟨_,p⟩|⟨_,c,_⟩|⟨_,_,⟨v,p⟩,_⟩
 .exact p.nb
 .have:=c.k;omega
 .have:=p.k;omega
theorem Th.In.fns(hi:h.In m M R Q w)(d:h.k=3):∃j caps,(j=95\/j=131)/\h.fn=.func (.func j) #[] caps/\(h.wy=1\/h.wy=2):=by
 rcases Th.lk.1 hi with⟨_,p⟩|⟨a,c,_⟩|⟨b,_,⟨v,p⟩,_⟩
 .have:=p.k;omega
 .exact⟨95,_,.inl rfl,c.fn,.inl a⟩
 .exact⟨131,_,.inr rfl,p.fn,.inr b⟩
theorem EF(n:Int)(x:TT)(i:Ty):(Uq 1 n x i).val=XP n:=by unfold Th.val;rw[if_pos (show (Uq 1 n x i).tag=0 from rfl),Th.mh];rfl
theorem Rf(n:Int)(x:TT)(i:Ty):(Uq 2 n x i).val=Xp n:=by unfold Th.val;rw[if_pos (show (Uq 2 n x i).tag=0 from rfl),Th.mh];rfl
theorem Wf{k n:Int}{x:TT}{i:Ty}(h:m=Zi->(k=1/\i=Jg)\/(k=2/\i=Xs)):JG m i (Uq k n x i):=fun hm=>by have e:(Uq k n x i).t.ty=i:=RI i;refine⟨Th.mn.2 ⟨.inl rfl,.inl ⟨rfl,?_⟩⟩,e⟩;rw[e];exact h hm
theorem DC(m:Bool)(M R F c:Nat)(Q:Nat->Prop)(x u0 u1:TT)(E:List Th)(i p0 p1:Ty)(ea:Option Zo)(ec:Nat)(w:Zh)(q:x.k=4\/x.k=5\/x.k=8)(hy:x.l=[u0,u1])(hx:x.In w)(br:x.Bl Q)(hE:Qt m M R Q w ea E)(hr:m=Zi->(x.k=8/\p0=YM p1 i)\/(x.k=4/\p0=Jg/\p1=Jg/\i=Jg)\/(x.k=5/\p0=Jg/\p1=Jg/\i=Xs))(hw:Wl R (F-c) Yn w)(hQ:¬Q R)(nw:∀b,w.heap.size<=b->Q b)(cx:EW m M R F c u0 E p0 ea ec)(cw:∀c',c<=c'->c'<=F->EW m M R F c' u1 E p1 ea ec)(cd:∀c2,c<=c2->c2<=F->FD m M R F c2):
  Zl O 59 #[Y (Zb ⟨R,0,J⟩),Zk #[D G x.k,D G x.n,D G x.t.k,U x.t.a x.t.l.length x.t.c,D G x.f.k,U x.f.a x.f.l.length x.f.c,U x.a x.l.length x.c],U ea E.length ec] w (Xn m M R F c Q w i (X3 m F x.tm (E.map Th.val) i c)):=by
 have ae:=hw.lt;obtain⟨W1,bo⟩:∃W,W=QI R x ea E.length ec w:=⟨_,rfl⟩
 obtain⟨hB,b3,cs⟩:=KE R x ea E.length ec w;rw[<-bo] at hB b3 cs;have ch:=hw.below b3;have HB:=LL hB b3 ch;have bz:x.l.length=2:=by rw[hy];rfl
 obtain⟨bx,ox,b4⟩:∃bx ox,x.a=Zb ⟨bx,ox,J⟩:=by obtain⟨b,o,e,_⟩:=hx.part 0 (by omega);exact⟨b,o,e⟩
 have ai:Q bx:=br.own (by rw[hy];simp) _ b4;have az:∀W,Yi R J W1 W->XR Q w W:=fun W q b hb hq=>by have hs:=b3.size;rw[q.block b (by omega) (fun e=>hQ (e▸hq)) (by simp)];exact b3.block b hb
 have dh:w.heap.size+1+1+1+1<=W1.heap.size:=by omega
 obtain⟨an,b6⟩:Uz w bx (ox) u0/\u0.In w:=by
  obtain⟨b',o',e',h7,hi⟩:=hx.part 0 (by omega);rw[b4] at e';obtain⟨rfl,rfl⟩:bx=b'/\ox=o':=by simpa using e'
  exact⟨by simpa[hy] using h7,by simpa[hy] using hi⟩
 have b7:u0.Bl Q:=br.mem (by rw[hy];simp);obtain⟨ao,ba⟩:Uz w bx (ox+7) u1/\u1.In w:=by
  obtain⟨b',o',e',h7,hi⟩:=hx.part 1 (by omega);rw[b4] at e';obtain⟨rfl,rfl⟩:bx=b'/\ox=o':=by simpa using e'
  exact⟨by simpa[hy] using h7,by simpa[hy] using hi⟩
 have bc:u1.Bl Q:=br.mem (by rw[hy];simp);have HK:X (∀W,Yi R J W1 W->cL W w.heap.size 0 (Y (Zb ⟨R,0,J⟩))/\cL W (w.heap.size+1) 6 (U (Zb ⟨bx,ox,J⟩) 2 x.c)/\cL W bx ox (D G u0.k)/\cL W bx (ox+1) (D G u0.n)/\cL W bx (ox+2) (D G u0.t.k)/\cL W bx (ox+3) (u0.t.s)/\cL W bx (ox+4) (D G u0.f.k)/\cL W bx (ox+5) (u0.f.s)/\cL W bx (ox+6) (u0.s)/\cL W (w.heap.size+1+1) 0 (U ea E.length ec)):=fun W q=>by have aj:∀b i u,cL w b i u->Q b->cL W b i u:=fun b i u e hb=>(az W q).cell e hb;have bb:=hB.x7.c6;rw[b4,bz] at bb;exact⟨q.cell hB.w0 (by omega),q.cell bb (by omega),aj _ _ _ an.c0 ai,aj _ _ _ an.c1 ai,aj _ _ _ an.c2 ai,aj _ _ _ an.c3 ai,aj _ _ _ an.c4 ai,aj _ _ _ an.c5 ai,aj _ _ _ an.c6 ai,q.cell hB.e0 (by omega)⟩
 have cf:X (∀W,Yi R J W1 W->cL W w.heap.size 0 (Y (Zb ⟨R,0,J⟩))/\cL W (w.heap.size+1) 6 (U (Zb ⟨bx,ox,J⟩) 2 x.c)/\cL W bx (ox+7) (D G u1.k)/\cL W bx (ox+8) (D G u1.n)/\cL W bx (ox+9) (D G u1.t.k)/\cL W bx (ox+10) (u1.t.s)/\cL W bx (ox+11) (D G u1.f.k)/\cL W bx (ox+12) (u1.f.s)/\cL W bx (ox+13) (u1.s)/\cL W (w.heap.size+1+1) 0 (U ea E.length ec)):=fun W q=>by have aj:∀b i u,cL w b i u->Q b->cL W b i u:=fun b i u e hb=>(az W q).cell e hb;have bb:=hB.x7.c6;rw[b4,bz] at bb;exact⟨q.cell hB.w0 (by omega),q.cell bb (by omega),aj _ _ _ ao.c0 ai,aj _ _ _ ao.c1 ai,aj _ _ _ ao.c2 ai,aj _ _ _ ao.c3 ai,aj _ _ _ ao.c4 ai,aj _ _ _ ao.c5 ai,aj _ _ _ ao.c6 ai,q.cell hB.e0 (by omega)⟩
 have HI:X (∀(z:Nat)(W:Zh),Yi R J W1 W->Wl R (F-c) Yn W->w.heap.size<=z->z<W.heap.size->Zl O 59 #[Y (Zb ⟨R,0,J⟩),Zk u0.v,U ea E.length ec] W (Xn m M R F c (fun b=>Q b/\b≠w.heap.size+1+1+1/\b≠z) W p0 (X3 m F u0.tm (E.map Th.val) p0 c))):=fun z W q ca dc d8=>by have d1:=q.size;exact cx (fun b=>Q b/\b≠w.heap.size+1+1+1/\b≠z) W (b6.same (az W q) b7) ((b7.and b6.bl).mono fun b hb=>⟨hb.1,by omega,by omega⟩) ((hE.mono (Q':=(fun b=>Q b/\b≠w.heap.size+1+1+1/\b≠z)) fun x h1 k=>⟨k,by omega,by omega⟩).same fun b h1 k=>az W q b h1 k.1) ca (fun hx=>hQ hx.1) (fun b hb=>⟨nw b (by omega),by omega,by omega⟩)
 have ci:X (∀(c':Nat)(h1:c<=c')(k:c'<=F)(z:Nat)(W:Zh),Yi R J W1 W->Wl R (F-c') Yn W->w.heap.size<=z->z<W.heap.size->Zl O 59 #[Y (Zb ⟨R,0,J⟩),Zk u1.v,U ea E.length ec] W (Xn m M R F c' (fun b=>Q b/\b≠w.heap.size+1+1+1/\b≠z) W p1 (X3 m F u1.tm (E.map Th.val) p1 c'))):=fun c' h1 k z W q ca dc d8=>by have d1:=q.size;exact cw c' h1 k (fun b=>Q b/\b≠w.heap.size+1+1+1/\b≠z) W (ba.same (az W q) bc) ((bc.and ba.bl).mono fun b hb=>⟨hb.1,by omega,by omega⟩) ((hE.mono (Q':=(fun b=>Q b/\b≠w.heap.size+1+1+1/\b≠z)) fun x h1 k=>⟨k,by omega,by omega⟩).same fun b h1 k=>az W q b h1 k.1) ca (fun hx=>hQ hx.1) (fun b hb=>⟨nw b (by omega),by omega,by omega⟩)
 have ar:x.tm.at 0=u0.tm:=by rw[Tm.at,TT.mq,hy];rfl
 have ax:x.tm.at 1=u1.tm:=by rw[Tm.at,TT.mq,hy];rfl
 have c6:x.tm.k=4\/x.tm.k=5\/x.tm.k=8:=by rw[TT.mc];exact q
 have da:X (∀r V c',X3 m F u0.tm (E.map Th.val) p0 c r V c'->r.k≠0->X3 m F x.tm (E.map Th.val) i c r V c'):=fun r V c' h hr=>⟨DG c6 (by rw[ar];exact h.1) hr,fun _ h0=>absurd h0 hr⟩
 have de:X (∀V c' r2 V2 c2,X3 m F u0.tm (E.map Th.val) p0 c Yn V c'->X3 m F u1.tm (E.map Th.val) p1 c' r2 V2 c2->r2.k≠0->X3 m F x.tm (E.map Th.val) i c r2 V2 c2):=fun V c' r2 V2 c2 h k hr=>⟨DF c6 (by rw[ar];exact h.1) rfl (by rw[ax];exact k.1) hr,fun _ h0=>absurd h0 hr⟩
 have bp:X (∀V c' V2 c2 V3,X3 m F u0.tm (E.map Th.val) p0 c Yn V c'->X3 m F u1.tm (E.map Th.val) p1 c' Yn V2 c2->(x.k=4\/x.k=5)->¬(V.k=1/\V2.k=1)->X3 m F x.tm (E.map Th.val) i c Yw V3 c2):=fun V c' V2 c2 V3 h k db hv=>by
  refine⟨?_,fun _ h0=>by cases h0⟩;rcases db with h4|h5
  .have:=DI (x:=x.tm) (by rw[TT.mc];exact h4) (by rw[ar];exact h.1) rfl (by rw[ax];exact k.1) rfl;rw[if_neg hv] at this;exact fun ts vs=>⟨fun h0=>(by cases h0),(this ts vs).bad⟩
  .have:=An (x:=x.tm) (by rw[TT.mc];exact h5) (by rw[ar];exact h.1) rfl (by rw[ax];exact k.1) rfl;rw[if_neg hv] at this;exact fun ts vs=>⟨fun h0=>(by cases h0),(this ts vs).bad⟩
 have d9:X (∀a b c' c2,X3 m F u0.tm (E.map Th.val) p0 c Yn (XP a) c'->X3 m F u1.tm (E.map Th.val) p1 c' Yn (XP b) c2->x.k=4->X3 m F x.tm (E.map Th.val) i c Yn (XP (Jn (a+b))) c2):=fun a b c' c2 h k h4=>by
  have h3:=DI (x:=x.tm) (by rw[TT.mc];exact h4) (by rw[ar];exact h.1) rfl (by rw[ax];exact k.1) rfl;rw[if_pos ⟨rfl,rfl⟩] at h3;refine⟨h3,fun hm _=>?_⟩;rcases hr hm with⟨h',_⟩|⟨_,_,_,e⟩|⟨h',_⟩
  .omega
  .rw[e];exact N1 _
  .omega
 have co:X (∀a b c' c2,X3 m F u0.tm (E.map Th.val) p0 c Yn (XP a) c'->X3 m F u1.tm (E.map Th.val) p1 c' Yn (XP b) c2->x.k=5->X3 m F x.tm (E.map Th.val) i c Yn (Xp (if a<b then 1 else 0)) c2):=fun a b c' c2 h k h5=>by
  have h3:=An (x:=x.tm) (by rw[TT.mc];exact h5) (by rw[ar];exact h.1) rfl (by rw[ax];exact k.1) rfl;rw[if_pos ⟨rfl,rfl⟩] at h3;refine⟨h3,fun hm _=>?_⟩;rcases hr hm with⟨h',_⟩|⟨h',_⟩|⟨_,_,_,e⟩
  .omega
  .omega
  .rw[e];exact L2 _
 have cr:X (∀V c' V2 c2 V3,X3 m F u0.tm (E.map Th.val) p0 c Yn V c'->X3 m F u1.tm (E.map Th.val) p1 c' Yn V2 c2->x.k=8->V.k≠3->V.k≠4->X3 m F x.tm (E.map Th.val) i c Yw V3 c2):=fun V c' V2 c2 V3 h k h8 h3 h4=>⟨Ao (x:=x.tm) (by rw[TT.mc];exact h8) (by rw[ar];exact h.1) rfl (by rw[ax];exact k.1) rfl (Fu h3 h4),fun _ h0=>by cases h0⟩
 have cq:X (∀V c' V2 c2 r3 V3 c3,X3 m F u0.tm (E.map Th.val) p0 c Yn V c'->X3 m F u1.tm (E.map Th.val) p1 c' Yn V2 c2->x.k=8->Sn m F V V2 i c2 r3 V3 c3->X3 m F x.tm (E.map Th.val) i c r3 V3 c3):=fun V c' V2 c2 r3 V3 c3 h k h8 hd=>by
  have h3:So F V V2 c2 r3 V3 c3/\(m=Zi->r3.k=0->UJ V3 i):=by
   rcases hd with⟨_,ha,ht⟩|⟨hm,ha⟩
   .exact⟨FR ha,fun _=>ht⟩
   .exact⟨ha,fun h=>by rw[hm] at h;cases h⟩
  exact⟨Ao (x:=x.tm) (by rw[TT.mc];exact h8) (by rw[ar];exact h.1) rfl (by rw[ax];exact k.1) rfl h3.1,h3.2⟩
 have HR:=Yy hr;have d5:=Yy cd;have HQ:=Uy hQ nw;have i0:(0:Int)<((2:Nat):Int):=by omega
 have i1:(1:Int)<((2:Nat):Int):=by omega
 have k1:(x.k==1)=Zc:=by simp;omega
 have k2:(x.k==2)=Zc:=by simp;omega
 have k3:(x.k==3)=Zc:=by simp;omega
 have k6:(x.k==6)=Zc:=by simp;omega
 have k7:(x.k==7)=Zc:=by simp;omega
 have k9:(x.k==9)=Zc:=by simp;omega
 have dk:(x.k==10)=Zc:=by simp;omega
 obtain⟨c0,c1,_,_,_,_,_,_⟩:=ch;replace c1:cL W1 R 1 (D G 0):=c1;obtain⟨w0,⟨x0,x1,x2,x3,x4,x5,x6⟩,e0,⟨r0,r1,r2,r3,y0,y1,y2,y3⟩⟩:=hB;simp only[Ze] at x1 x2 x3 x4 x5 x6;have av:Yi R J W1 W1.drew:=Yi.la ((L _ _).drew);have ay:Wl R (F-c) Yn W1.drew:=HB.out.2.2.below ((L _ _).drew);have d6:=Yy q;clear q hx br hE hw nw b3 cs az an b6 b7 ao ba bc bz b4 ai hy hQ cx cw ar ax c6 hr cd;go_enter func59,ntmps59;go_upto_region 1 with fail;unfold QI at bo;rw[<-bo];clear bo;go_upto_region 20 with fail;clear x0 x1 x2 x3 x4 x5 x6 e0 r0 r1 r2 r3 y0 y1 y2 y3 c0 c1 w0;go_cut [8] (fun ts wx=>∃bs:Nat,ts=Y (Zb ⟨bs,0,J⟩)/\X (Jf m M R F c Q w W1 u0 E p0 bs wx))
 case first=>
  refine Zf (S:=fun W=>cL W w.heap.size 0 (Y (Zb ⟨R,0,J⟩))/\cL W (w.heap.size+1) 6 (U (Zb ⟨bx,ox,J⟩) 2 x.c)/\cL W bx ox (D G u0.k)/\cL W bx (ox+1) (D G u0.n)/\cL W bx (ox+2) (D G u0.t.k)/\cL W bx (ox+3) (u0.t.s)/\cL W bx (ox+4) (D G u0.f.k)/\cL W bx (ox+5) (u0.f.s)/\cL W bx (ox+6) (u0.s)/\cL W (w.heap.size+1+1) 0 (U ea E.length ec)) (by kernel_rfl) (HK.out _ av) (fun d=>?_);refine qk 0 (v:=?_) rfl (by kernel_rfl) (fun _ _ _ h=>h) (by rfl) d ?_ ?_;rotate_left;(focus (intro w' h;go_split_ands;go_simp;try with_reducible rfl));simp only[I,A,B,C];refine qk 1 (v:=?_) rfl (by kernel_rfl) (fun _ _ _ h=>h) (by rfl) d ?_ ?_;rotate_left;(focus (intro w' h;go_split_ands;go_simp;try with_reducible rfl));simp only[I,A,B,C];refine qk 2 (v:=?_) rfl (by kernel_rfl) (fun _ _ _ h=>h) (by rfl) d ?_ ?_;rotate_left;(focus (intro w' h;go_split_ands;go_simp;try with_reducible rfl));simp only[I,A,B,C];refine qk 3 (v:=?_) rfl (by kernel_rfl) (fun _ _ _ h=>h) (by rfl) d ?_ ?_;rotate_left;(focus (intro w' h;go_split_ands;go_simp;try with_reducible rfl));simp only[I,A,B,C];refine qk 4 (v:=?_) rfl (by kernel_rfl) (fun _ _ _ h=>h) (by rfl) d ?_ ?_;rotate_left;(focus (intro w' h;go_split_ands;go_simp;try with_reducible rfl));simp only[I,A,B,C];refine qk 5 (v:=?_) rfl (by kernel_rfl) (fun _ _ _ h=>h) (by rfl) d ?_ ?_;rotate_left;(focus (intro w' h;go_split_ands;go_simp;try with_reducible rfl));simp only[I,A,B,C];refine Pk (i:=6) (j:=7) rfl rfl (by kernel_rfl) (fun K y=>?_) (fun K y=>?_)
  .go_simp;refine(HI.out w.heap.size _ av ay (H _) (by show _<W1.heap.size;omega)).mono ?_;rintro e w2 ⟨k,rr,VV,cc,ac,a5,a4,l,a7⟩;have p:=av.trans k;have ck:=p.size;rcases a7 with⟨hr,rfl⟩|⟨rfl,z,rfl,ad,ak⟩
   .have af:bL w2 (w2.alloc (Zd #[D G 0,D G 0,.nilFunc,D G 0] 103)):=(L _ _).alloc (H _) _;have HN:X (Jf m M R F c Q w W1 u0 E p0 w2.heap.size (w2.alloc (Zd #[D G 0,D G 0,.nilFunc,D G 0] 103))):=⟨by omega,p.trans (Yi.la af),rr,VV,cc,ac,a5,a4,l.below af,.inl hr⟩
    clear hr ac;simp only[Uf];refine y.out _ _ (HK.out _ p) (fun d=>?_);clear y K;(try simp only[I,A,B,C])
    refine YT (i:=7) rfl (by kernel_rfl) (fun K y=>?_);go_simp;refine y.out _ _ (HK.out _ (p.trans (Yi.la ((L _ _).alloc (H _) _)))) (fun d=>?_);clear y K;(try simp only[I,A,B,C])
    refine YT (i:=8) rfl (by kernel_rfl) (fun K y=>?_);go_simp;refine y.out _ _ (HK.out _ (p.trans (Yi.la af))) (fun d=>?_);clear y K;(try simp only[I,A,B,C])
    refine Z (by kernel_rfl) ?_ _;clear d a5 a4 l;go_wp2_with fail;go_meet
    case rel=>exact⟨_,rfl,HN⟩
   .have aa:=ad.one;have b2:∀(a:Zo)(m:Mode)(W:Zh),(Zn a z.fn m).run O W=Zj O W a z.fn m:=fun a m W=>Yx aa;have af:bL w2 (w2.alloc (Zd z.v 103)):=(L _ _).alloc (H _) _;have HN:X (Jf m M R F c Q w W1 u0 E p0 w2.heap.size (w2.alloc (Zd z.v 103))):=⟨by omega,p.trans (Yi.la af),Yn,VV,cc,ac,a5,a4,l.below af,.inr ⟨rfl,z,⟨by simp[go_sem],by simp[go_sem],by simp[go_sem],by simp[go_sem]⟩,(ad.same (XR.la af)).mono (fun x _ hx=>⟨hx.1,hx.2.1⟩),ak⟩⟩
    clear ac ad ak aa;simp only[Th.ag];refine y.out _ _ (HK.out _ p) (fun d=>?_);clear y K;(try simp only[I,A,B,C])
    refine YT (i:=7) rfl (by kernel_rfl) (fun K y=>?_);go_simp;refine y.out _ _ (HK.out _ (p.trans (Yi.la ((L _ _).alloc (H _) _)))) (fun d=>?_);clear y K;(try simp only[I,A,B,C])
    refine YT (i:=8) rfl (by kernel_rfl) (fun K y=>?_);go_simp;refine y.out _ _ (HK.out _ (p.trans (Yi.la af))) (fun d=>?_);clear y K;(try simp only[I,A,B,C])
    refine Z (by kernel_rfl) ?_ _;clear d a5 a4 l;go_wp2_with fail;go_meet
    case rel=>exact⟨_,rfl,HN⟩
  .go_simp;have b0:Yi R J W1 (W1.alloc (Zd #[D G 0,D G 0,.nilFunc,D G 0] 103)).drew:=Yi.la (((L _ _).alloc (H _) _).drew);refine y.out _ _ (HK.out _ b0) (fun d=>?_);clear y K;(try simp only[I,A,B,C])
   refine YT (i:=6) rfl (by kernel_rfl) (fun K y=>?_);go_simp;refine(HI.out W1.heap.size _ b0 (HB.out.2.2.below (((L _ _).alloc (H _) _).drew)) (by omega) (by show _<(W1.alloc (Zd #[D G 0,D G 0,.nilFunc,D G 0] 103)).heap.size;simp)).mono ?_;rintro e w2 ⟨k,rr,VV,cc,ac,a5,a4,l,a7⟩;have p:=b0.trans k;have q9:Rb w2 W1.heap.size:=((Rb.new W1).below ((L _ _).drew)).kept k (by omega);rcases a7 with⟨hr,rfl⟩|⟨rfl,z,rfl,ad,ak⟩
   .obtain⟨⟨g0,g1,g2,g3⟩,ab⟩:=q9.set (D G 0) (D G 0) .nilFunc (D G 0);have HN:X (Jf m M R F c Q w W1 u0 E p0 W1.heap.size ((((w2.setCell ⟨W1.heap.size,0,J⟩ (D G 0)).setCell ⟨W1.heap.size,1,J⟩ (D G 0)).setCell ⟨W1.heap.size,2,J⟩ .nilFunc).setCell ⟨W1.heap.size,3,J⟩ (D G 0))):=⟨by omega,p.new ab (H _),rr,VV,cc,ac,a5,a4,l.same ab (by omega),.inl hr⟩
    have ap:=p.new ab (H _);clear hr ac;simp only[Uf];obtain⟨p0,p1,p2,p3,x0,x1,x2,x3⟩:=q9;clear g0 g1 g2 g3 ab;refine y.out _ _ (HK.out _ p) (fun d=>?_);clear y K;(try simp only[I,A,B,C])
    refine YT (i:=8) rfl (by kernel_rfl) (fun K y=>?_);go_simp;refine y.out _ _ (HK.out _ ap) (fun d=>?_);clear y K;(try simp only[I,A,B,C])
    refine Z (by kernel_rfl) ?_ _;obtain⟨V9,ah⟩:∃V9,V9=(((w2.setCell ⟨W1.heap.size,0,J⟩ (D G 0)).setCell ⟨W1.heap.size,1,J⟩ (D G 0)).setCell ⟨W1.heap.size,2,J⟩ .nilFunc).setCell ⟨W1.heap.size,3,J⟩ (D G 0):=⟨_,rfl⟩
    rw[<-ah] at HN;rw[<-ah];clear ah d ap p0 p1 p2 p3 x0 x1 x2 x3 l p k a5 a4;go_wp2_with fail;go_meet
    case rel=>exact⟨_,rfl,HN⟩
   .have aa:=ad.one;have b2:∀(a:Zo)(m:Mode)(W:Zh),(Zn a z.fn m).run O W=Zj O W a z.fn m:=fun a m W=>Yx aa;obtain⟨⟨g0,g1,g2,g3⟩,ab⟩:=q9.set (D G z.k) (D G z.n) z.fn (D G z.tag);have HN:X (Jf m M R F c Q w W1 u0 E p0 W1.heap.size ((((w2.setCell ⟨W1.heap.size,0,J⟩ (D G z.k)).setCell ⟨W1.heap.size,1,J⟩ (D G z.n)).setCell ⟨W1.heap.size,2,J⟩ z.fn).setCell ⟨W1.heap.size,3,J⟩ (D G z.tag))):=⟨by omega,p.new ab (H _),Yn,VV,cc,ac,a5,a4,l.same ab (by omega),.inr ⟨rfl,z,⟨g0,g1,g2,g3⟩,(ad.same (XR.mb ab fun hx=>hx.2.2 rfl)).mono (fun x _ hx=>⟨hx.1,hx.2.1⟩),ak⟩⟩
    have ap:=p.new ab (H _);clear ac ad ak aa;simp only[Th.ag];obtain⟨p0,p1,p2,p3,x0,x1,x2,x3⟩:=q9;clear g0 g1 g2 g3 ab;refine y.out _ _ (HK.out _ p) (fun d=>?_);clear y K;(try simp only[I,A,B,C])
    refine YT (i:=8) rfl (by kernel_rfl) (fun K y=>?_);go_simp;refine y.out _ _ (HK.out _ ap) (fun d=>?_);clear y K;(try simp only[I,A,B,C])
    refine Z (by kernel_rfl) ?_ _;obtain⟨V9,ah⟩:∃V9,V9=(((w2.setCell ⟨W1.heap.size,0,J⟩ (D G z.k)).setCell ⟨W1.heap.size,1,J⟩ (D G z.n)).setCell ⟨W1.heap.size,2,J⟩ z.fn).setCell ⟨W1.heap.size,3,J⟩ (D G z.tag):=⟨_,rfl⟩
    rw[<-ah] at HN;rw[<-ah];clear ah d ap p0 p1 p2 p3 x0 x1 x2 x3 l p k a5 a4;go_wp2_with fail;go_meet
    case rel=>exact⟨_,rfl,HN⟩
 case rest=>
 obtain⟨b8,rfl,HP⟩:=hcut;obtain⟨W2,d7⟩:∃W2,W2=wc:=⟨_,rfl⟩
 subst d7;obtain⟨df,al,r,V,c',hS,bk,bm,bt,a7⟩:=HP.out;clear HP HI av ay HK;have cb:=HB.out.1.kept al ae;obtain⟨w0,⟨x0,x1,x2,x3,x4,x5,x6⟩,e0,b1⟩:=cb;simp only[Ze] at x1 x2 x3 x4 x5 x6;have d3:b8≠R:=by omega
 rcases a7 with hr|⟨rfl,a,ce,cj,cu,cz⟩
 .have hgk:(r.k != 0)=Zi:=by simpa using hr
  have HF:X (Yi R J W1 W2/\Wl R (F-c') r W2/\Rb W2 (w.heap.size+1+1+1)/\X3 m F x.tm (E.map Th.val) i c r V c'/\c<=c'/\c'<=F/\r.k≠0):=⟨al,bt,b1,da.out _ _ _ hS hr,bk,bm,hr⟩
  obtain⟨c0,c1,_,_,_,_,_,_⟩:=bt;obtain⟨r0,r1,r2,r3,y0,y1,y2,y3⟩:=b1;clear al hS hr bk bm;apply_assumption;go_wp2_with fail;obtain⟨⟨e0,e1,e2,e3⟩,q⟩:=HF.out.2.2.1.set (D G 0) (D G 0) .nilFunc (D G 0);refine T (v:=Uf) ?_ rfl ⟨((Yi.la HB.out.2.1).trans HF.out.1).new q (by omega),r,V,c',HF.out.2.2.2.1,HF.out.2.2.2.2.1,HF.out.2.2.2.2.2.1,HF.out.2.1.same q (by omega),.inl ⟨HF.out.2.2.2.2.2.2,rfl⟩⟩;simp[results,N,go_sem,Uf,e0,e1,e2,e3]
 .have HWL:=Yy bt;have c8:=Uy bk bm;have bg:=Yy al;have HA:X (QM W2 b8 0 a/\a.In m M R (fun x=>Q x/\x≠w.heap.size+1+1+1) W2/\X3 m F u0.tm (E.map Th.val) p0 c Yn a.val c'/\JG m p0 a):=⟨ce,cj,cu▸hS,cz⟩
  have am:X (∀W,Yi R J W2 W->cL W w.heap.size 0 (Y (Zb ⟨R,0,J⟩))/\cL W (w.heap.size+1) 6 (U (Zb ⟨bx,ox,J⟩) 2 x.c)/\cL W bx (ox+7) (D G u1.k)/\cL W bx (ox+8) (D G u1.n)/\cL W bx (ox+9) (D G u1.t.k)/\cL W bx (ox+10) (u1.t.s)/\cL W bx (ox+11) (D G u1.f.k)/\cL W bx (ox+12) (u1.f.s)/\cL W bx (ox+13) (u1.s)/\cL W (w.heap.size+1+1) 0 (U ea E.length ec)):=fun W q=>cf.out W (bg.out.trans q);have c9:X (∀(z:Nat)(W:Zh),Yi R J W2 W->Wl R (F-c') Yn W->w.heap.size<=z->z<W.heap.size->Zl O 59 #[Y (Zb ⟨R,0,J⟩),Zk u1.v,U ea E.length ec] W (Xn m M R F c' (fun b=>Q b/\b≠w.heap.size+1+1+1/\b≠z) W p1 (X3 m F u1.tm (E.map Th.val) p1 c'))):=fun z W q=>ci.out c' c8.out.1 c8.out.2 z W (bg.out.trans q);have av:Yi R J W2 W2.drew:=Yi.la ((L _ _).drew);have ay:Wl R (F-c') Yn W2.drew:=HWL.out.below ((L _ _).drew);have cm:=al.size;have d4:w.heap.size+1+1+1+1<=W2.heap.size:=by omega
  obtain⟨c0,c1,_,_,_,_,_,_⟩:=bt;replace c1:cL W2 R 1 (D G 0):=c1;clear al hS bk bm cj cu cz b1 ce cf ci;apply_assumption;go_upto_region 29 with fail;clear w0 x0 x1 x2 x3 x4 x5 x6 e0 c0 c1;go_cut [9] (fun ts wx=>∃bs:Nat,ts=Y (Zb ⟨bs,0,J⟩)/\X (Jf m M R F c' Q w W2 u1 E p1 bs wx))
  case first=>
   refine Zf (S:=fun W=>cL W w.heap.size 0 (Y (Zb ⟨R,0,J⟩))/\cL W (w.heap.size+1) 6 (U (Zb ⟨bx,ox,J⟩) 2 x.c)/\cL W bx (ox+7) (D G u1.k)/\cL W bx (ox+8) (D G u1.n)/\cL W bx (ox+9) (D G u1.t.k)/\cL W bx (ox+10) (u1.t.s)/\cL W bx (ox+11) (D G u1.f.k)/\cL W bx (ox+12) (u1.f.s)/\cL W bx (ox+13) (u1.s)/\cL W (w.heap.size+1+1) 0 (U ea E.length ec)) (by kernel_rfl) (am.out _ av) (fun d=>?_);refine qk 0 (v:=?_) rfl (by kernel_rfl) (fun _ _ _ h=>h) (by rfl) d ?_ ?_;rotate_left;(focus (intro w' h;go_split_ands;go_simp;try with_reducible rfl));simp only[I,A,B,C];refine qk 1 (v:=?_) rfl (by kernel_rfl) (fun _ _ _ h=>h) (by rfl) d ?_ ?_;rotate_left;(focus (intro w' h;go_split_ands;go_simp;try with_reducible rfl));simp only[I,A,B,C];refine qk 2 (v:=?_) rfl (by kernel_rfl) (fun _ _ _ h=>h) (by rfl) d ?_ ?_;rotate_left;(focus (intro w' h;go_split_ands;go_simp;try with_reducible rfl));simp only[I,A,B,C];refine qk 3 (v:=?_) rfl (by kernel_rfl) (fun _ _ _ h=>h) (by rfl) d ?_ ?_;rotate_left;(focus (intro w' h;go_split_ands;go_simp;try with_reducible rfl));simp only[I,A,B,C];refine qk 4 (v:=?_) rfl (by kernel_rfl) (fun _ _ _ h=>h) (by rfl) d ?_ ?_;rotate_left;(focus (intro w' h;go_split_ands;go_simp;try with_reducible rfl));simp only[I,A,B,C];refine qk 5 (v:=?_) rfl (by kernel_rfl) (fun _ _ _ h=>h) (by rfl) d ?_ ?_;rotate_left;(focus (intro w' h;go_split_ands;go_simp;try with_reducible rfl));simp only[I,A,B,C];refine Pk (i:=6) (j:=7) rfl rfl (by kernel_rfl) (fun K y=>?_) (fun K y=>?_)
   .go_simp;refine(c9.out w.heap.size _ av ay (H _) (by show _<W2.heap.size;omega)).mono ?_;rintro e w2 ⟨k,rr,VV,cc,ac,a5,a4,l,a7⟩;have p:=av.trans k;have ck:=p.size;rcases a7 with⟨hr,rfl⟩|⟨rfl,z,rfl,ad,ak⟩
    .have af:bL w2 (w2.alloc (Zd #[D G 0,D G 0,.nilFunc,D G 0] 103)):=(L _ _).alloc (H _) _;have HN:X (Jf m M R F c' Q w W2 u1 E p1 w2.heap.size (w2.alloc (Zd #[D G 0,D G 0,.nilFunc,D G 0] 103))):=⟨by omega,p.trans (Yi.la af),rr,VV,cc,ac,a5,a4,l.below af,.inl hr⟩
     clear hr ac;simp only[Uf];refine y.out _ _ (am.out _ p) (fun d=>?_);clear y K;(try simp only[I,A,B,C])
     refine YT (i:=7) rfl (by kernel_rfl) (fun K y=>?_);go_simp;refine y.out _ _ (am.out _ (p.trans (Yi.la ((L _ _).alloc (H _) _)))) (fun d=>?_);clear y K;(try simp only[I,A,B,C])
     refine YT (i:=8) rfl (by kernel_rfl) (fun K y=>?_);go_simp;refine y.out _ _ (am.out _ (p.trans (Yi.la af))) (fun d=>?_);clear y K;(try simp only[I,A,B,C])
     refine Z (by kernel_rfl) ?_ _;clear d a5 a4 l;go_wp2_with fail;go_meet
     case rel=>exact⟨_,rfl,HN⟩
    .have aa:=ad.one;have b2:∀(a:Zo)(m:Mode)(W:Zh),(Zn a z.fn m).run O W=Zj O W a z.fn m:=fun a m W=>Yx aa;have af:bL w2 (w2.alloc (Zd z.v 103)):=(L _ _).alloc (H _) _;have HN:X (Jf m M R F c' Q w W2 u1 E p1 w2.heap.size (w2.alloc (Zd z.v 103))):=⟨by omega,p.trans (Yi.la af),Yn,VV,cc,ac,a5,a4,l.below af,.inr ⟨rfl,z,⟨by simp[go_sem],by simp[go_sem],by simp[go_sem],by simp[go_sem]⟩,(ad.same (XR.la af)).mono (fun x _ hx=>⟨hx.1,hx.2.1⟩),ak⟩⟩
     clear ac ad ak aa;simp only[Th.ag];refine y.out _ _ (am.out _ p) (fun d=>?_);clear y K;(try simp only[I,A,B,C])
     refine YT (i:=7) rfl (by kernel_rfl) (fun K y=>?_);go_simp;refine y.out _ _ (am.out _ (p.trans (Yi.la ((L _ _).alloc (H _) _)))) (fun d=>?_);clear y K;(try simp only[I,A,B,C])
     refine YT (i:=8) rfl (by kernel_rfl) (fun K y=>?_);go_simp;refine y.out _ _ (am.out _ (p.trans (Yi.la af))) (fun d=>?_);clear y K;(try simp only[I,A,B,C])
     refine Z (by kernel_rfl) ?_ _;clear d a5 a4 l;go_wp2_with fail;go_meet
     case rel=>exact⟨_,rfl,HN⟩
   .go_simp;have b0:Yi R J W2 (W2.alloc (Zd #[D G 0,D G 0,.nilFunc,D G 0] 103)).drew:=Yi.la (((L _ _).alloc (H _) _).drew);refine y.out _ _ (am.out _ b0) (fun d=>?_);clear y K;(try simp only[I,A,B,C])
    refine YT (i:=6) rfl (by kernel_rfl) (fun K y=>?_);go_simp;refine(c9.out W2.heap.size _ b0 (HWL.out.below (((L _ _).alloc (H _) _).drew)) (by omega) (by show _<(W2.alloc (Zd #[D G 0,D G 0,.nilFunc,D G 0] 103)).heap.size;simp)).mono ?_;rintro e w2 ⟨k,rr,VV,cc,ac,a5,a4,l,a7⟩;have p:=b0.trans k;have q9:Rb w2 W2.heap.size:=((Rb.new W2).below ((L _ _).drew)).kept k (by omega);rcases a7 with⟨hr,rfl⟩|⟨rfl,z,rfl,ad,ak⟩
    .obtain⟨⟨g0,g1,g2,g3⟩,ab⟩:=q9.set (D G 0) (D G 0) .nilFunc (D G 0);have HN:X (Jf m M R F c' Q w W2 u1 E p1 W2.heap.size ((((w2.setCell ⟨W2.heap.size,0,J⟩ (D G 0)).setCell ⟨W2.heap.size,1,J⟩ (D G 0)).setCell ⟨W2.heap.size,2,J⟩ .nilFunc).setCell ⟨W2.heap.size,3,J⟩ (D G 0))):=⟨by omega,p.new ab (H _),rr,VV,cc,ac,a5,a4,l.same ab (by omega),.inl hr⟩
     have ap:=p.new ab (H _);clear hr ac;simp only[Uf];obtain⟨p0,p1,p2,p3,x0,x1,x2,x3⟩:=q9;clear g0 g1 g2 g3 ab;refine y.out _ _ (am.out _ p) (fun d=>?_);clear y K;(try simp only[I,A,B,C])
     refine YT (i:=8) rfl (by kernel_rfl) (fun K y=>?_);go_simp;refine y.out _ _ (am.out _ ap) (fun d=>?_);clear y K;(try simp only[I,A,B,C])
     refine Z (by kernel_rfl) ?_ _;obtain⟨V9,ah⟩:∃V9,V9=(((w2.setCell ⟨W2.heap.size,0,J⟩ (D G 0)).setCell ⟨W2.heap.size,1,J⟩ (D G 0)).setCell ⟨W2.heap.size,2,J⟩ .nilFunc).setCell ⟨W2.heap.size,3,J⟩ (D G 0):=⟨_,rfl⟩
     rw[<-ah] at HN;rw[<-ah];clear ah d ap p0 p1 p2 p3 x0 x1 x2 x3 l p k a5 a4;go_wp2_with fail;go_meet
     case rel=>exact⟨_,rfl,HN⟩
    .have aa:=ad.one;have b2:∀(a:Zo)(m:Mode)(W:Zh),(Zn a z.fn m).run O W=Zj O W a z.fn m:=fun a m W=>Yx aa;obtain⟨⟨g0,g1,g2,g3⟩,ab⟩:=q9.set (D G z.k) (D G z.n) z.fn (D G z.tag);have HN:X (Jf m M R F c' Q w W2 u1 E p1 W2.heap.size ((((w2.setCell ⟨W2.heap.size,0,J⟩ (D G z.k)).setCell ⟨W2.heap.size,1,J⟩ (D G z.n)).setCell ⟨W2.heap.size,2,J⟩ z.fn).setCell ⟨W2.heap.size,3,J⟩ (D G z.tag))):=⟨by omega,p.new ab (H _),Yn,VV,cc,ac,a5,a4,l.same ab (by omega),.inr ⟨rfl,z,⟨g0,g1,g2,g3⟩,(ad.same (XR.mb ab fun hx=>hx.2.2 rfl)).mono (fun x _ hx=>⟨hx.1,hx.2.1⟩),ak⟩⟩
     have ap:=p.new ab (H _);clear ac ad ak aa;simp only[Th.ag];obtain⟨p0,p1,p2,p3,x0,x1,x2,x3⟩:=q9;clear g0 g1 g2 g3 ab;refine y.out _ _ (am.out _ p) (fun d=>?_);clear y K;(try simp only[I,A,B,C])
     refine YT (i:=8) rfl (by kernel_rfl) (fun K y=>?_);go_simp;refine y.out _ _ (am.out _ ap) (fun d=>?_);clear y K;(try simp only[I,A,B,C])
     refine Z (by kernel_rfl) ?_ _;obtain⟨V9,ah⟩:∃V9,V9=(((w2.setCell ⟨W2.heap.size,0,J⟩ (D G z.k)).setCell ⟨W2.heap.size,1,J⟩ (D G z.n)).setCell ⟨W2.heap.size,2,J⟩ z.fn).setCell ⟨W2.heap.size,3,J⟩ (D G z.tag):=⟨_,rfl⟩
     rw[<-ah] at HN;rw[<-ah];clear ah d ap p0 p1 p2 p3 x0 x1 x2 x3 l p k a5 a4;go_wp2_with fail;go_meet
     case rel=>exact⟨_,rfl,HN⟩
  case rest=>
  obtain⟨b9,rfl,HP⟩:=hcut;obtain⟨d2,bd,r2,V2,c2,bq,bf,aw,bn,a7⟩:=HP.out;clear HP c9 av ay am;have al:=bg.out.trans bd;have cb:=HB.out.1.kept al ae;obtain⟨w0,⟨x0,x1,x2,x3,x4,x5,x6⟩,e0,b1⟩:=cb;simp only[Ze] at x1 x2 x3 x4 x5 x6;have dg:b9≠R:=by omega
  have be:c<=c2:=by have:=c8.out.1;omega
  rcases a7 with hr|⟨rfl,z,dd,ad,ak,d0⟩
  .have hgk:(r2.k != 0)=Zi:=by simpa using hr
   have HF:X (Yi R J W1 wc/\Wl R (F-c2) r2 wc/\Rb wc (w.heap.size+1+1+1)/\X3 m F x.tm (E.map Th.val) i c r2 V2 c2/\c<=c2/\c2<=F/\r2.k≠0):=⟨al,bn,b1,de.out _ _ _ _ _ HA.out.2.2.1 bq hr,be,aw,hr⟩
   obtain⟨c0,c1,_,_,_,_,_,_⟩:=bn;obtain⟨r0,r1,r2,r3,y0,y1,y2,y3⟩:=b1;clear al bq hr bf aw bd;apply_assumption;go_wp2_with fail;obtain⟨⟨e0,e1,e2,e3⟩,q⟩:=HF.out.2.2.1.set (D G 0) (D G 0) .nilFunc (D G 0);refine T (v:=Uf) ?_ rfl ⟨((Yi.la HB.out.2.1).trans HF.out.1).new q (by omega),_,V2,c2,HF.out.2.2.2.1,HF.out.2.2.2.2.1,HF.out.2.2.2.2.2.1,HF.out.2.1.same q (by omega),.inl ⟨HF.out.2.2.2.2.2.2,rfl⟩⟩;simp[results,N,go_sem,Uf,e0,e1,e2,e3]
  .have HW:=Yy bn;have a8:=Uy be aw;have a9:=Yy al;have cy:¬(fun x=>Q x/\x≠w.heap.size+1+1+1) R:=fun hx=>HQ.out.1 hx.1;have bu:=Yy (HA.out.2.1.same (XR.mb bd cy));have au:X (X3 m F u1.tm (E.map Th.val) p1 c' Yn z.val c2):=ak▸bq;have HZ:=Uy ad d0;obtain⟨a0,a1,a2,a3⟩:=HA.out.1.same (w':=wc) (Q:=fun b=>b≠R) (fun b hb hq=>bd.block b hb hq (by simp)) d3;simp only[Ze] at a1 a2 a3;obtain⟨z0,z1,z2,z3⟩:=dd;simp only[Ze] at z1 z2 z3;obtain⟨c0,c1,_,_,_,_,_,_⟩:=bn;replace c1:cL wc R 1 (D G 0):=c1;have cm:=al.size;clear al bq bf aw ad ak d0 bd df d2 be;have bj:=bu.out.kinds;have bv:=HZ.out.1.kinds;by_cases h8:x.k=8
   .have H8:=Yy h8;rw[h8] at x0;clear h8 bv;have fin:(a.tag≠0/\a.val.k=5)\/(a.tag=0/\a.k≠3/\a.val.k≠3/\a.val.k≠4)\/(a.tag=0/\a.k=3/\a.val=a.cv):=by
     rcases bj with h|⟨h0,he,⟨h1,k⟩|⟨h1,k⟩|⟨h1,k,_⟩⟩
     .exact .inl h
     .exact .inr (.inl ⟨h0,by omega,by rw[k];simp[XP],by rw[k];simp[XP]⟩)
     .exact .inr (.inl ⟨h0,by omega,by rw[k];simp[Xp],by rw[k];simp[Xp]⟩)
     .exact .inr (.inr ⟨h0,h1,he⟩)
    clear bj;rcases fin with⟨h1,k⟩|⟨h0,h1,k,h3⟩|⟨h0,h1,k⟩
    .have ht1:(a.tag != 0)=Zi:=by simpa using h1
     have HV:X (a.val.k≠3/\a.val.k≠4):=⟨by omega,by omega⟩
     clear h1 k;have a6:X (X3 m F x.tm (E.map Th.val) i c Yw z.val c2/\c<=c2/\c2<=F/\Yw.k≠0):=⟨cr.out _ _ _ _ _ HA.out.2.2.1 au.out H8.out HV.out.1 HV.out.2,a8.out.1,a8.out.2,by decide⟩
     apply_assumption;go_wp2_with (go_at_call 94;refine(UV R _ _ HW.out).mono ?_;rintro e w2 ⟨rfl,l,k⟩;simp only[Uf];have HF:X (Yi R J W1 w2/\Wl R (F-c2) Yw w2/\Rb w2 (w.heap.size+1+1+1)):=⟨a9.out.trans k,l,(HB.out.1.kept (a9.out.trans k) ae).r⟩;clear l k w0 x0 x1 x2 x3 x4 x5 x6 e0 a0 a1 a2 a3 z0 z1 z2 z3 c0 c1;obtain⟨r0,r1,r2,r3,y0,y1,y2,y3⟩:=HF.out.2.2)
     obtain⟨⟨e0,e1,e2,e3⟩,q⟩:=HF.out.2.2.set (D G 0) (D G 0) .nilFunc (D G 0);refine T (v:=Uf) ?_ rfl ⟨((Yi.la HB.out.2.1).trans HF.out.1).new q (by omega),Yw,z.val,c2,a6.out.1,a6.out.2.1,a6.out.2.2.1,HF.out.2.1.same q (by omega),.inl ⟨a6.out.2.2.2,rfl⟩⟩;simp[results,N,go_sem,Uf,e0,e1,e2,e3]
    .have ht1:(a.k != 3)=Zi:=by simpa using h1
     rw[h0] at a3;have HV:=Uy k h3;clear h0 h1 k h3;have a6:X (X3 m F x.tm (E.map Th.val) i c Yw z.val c2/\c<=c2/\c2<=F/\Yw.k≠0):=⟨cr.out _ _ _ _ _ HA.out.2.2.1 au.out H8.out HV.out.1 HV.out.2,a8.out.1,a8.out.2,by decide⟩
     apply_assumption;go_wp2_with (go_at_call 94;refine(UV R _ _ HW.out).mono ?_;rintro e w2 ⟨rfl,l,k⟩;simp only[Uf];have HF:X (Yi R J W1 w2/\Wl R (F-c2) Yw w2/\Rb w2 (w.heap.size+1+1+1)):=⟨a9.out.trans k,l,(HB.out.1.kept (a9.out.trans k) ae).r⟩;clear l k w0 x0 x1 x2 x3 x4 x5 x6 e0 a0 a1 a2 a3 z0 z1 z2 z3 c0 c1;obtain⟨r0,r1,r2,r3,y0,y1,y2,y3⟩:=HF.out.2.2)
     obtain⟨⟨e0,e1,e2,e3⟩,q⟩:=HF.out.2.2.set (D G 0) (D G 0) .nilFunc (D G 0);refine T (v:=Uf) ?_ rfl ⟨((Yi.la HB.out.2.1).trans HF.out.1).new q (by omega),Yw,z.val,c2,a6.out.1,a6.out.2.1,a6.out.2.2.1,HF.out.2.1.same q (by omega),.inl ⟨a6.out.2.2.2,rfl⟩⟩;simp[results,N,go_sem,Uf,e0,e1,e2,e3]
    .obtain⟨j,caps,hj,hfn,hwy⟩:=bu.out.fns h1;have HD:X (Zl O j (#[Zk z.v]++caps) wc (Xn m M R F c2 (fun x=>Q x/\x≠w.heap.size+1+1+1) wc i (fun r V c'=>Sn m F a.cv z.val i c2 r V c'))):=by
      refine d5.out c2 a8.out.1 a8.out.2 a p1 i j caps hwy hfn (fun hm=>?_) (fun x=>Q x/\x≠w.heap.size+1+1+1) z wc bu.out HZ.out.1 HZ.out.2 HW.out cy (fun b hb=>⟨HQ.out.2 b (by omega),by omega⟩);obtain⟨o1,o2⟩:=HA.out.2.2.2 hm;unfold Th.my at o2;rw[if_pos h0] at o2;refine⟨o1,o2.trans ?_⟩;rcases HR.out hm with⟨_,e⟩|⟨h',_⟩|⟨h',_⟩
      .exact e
      .have:=H8.out;omega
      .have:=H8.out;omega
     have cg:X (X3 m F u0.tm (E.map Th.val) p0 c Yn a.cv c'):=k▸HA.out.2.2.1;rw[h0] at a3;rw[h1] at a0;rw[hfn] at a2;clear h0 h1 k hfn hwy;rcases hj with rfl|rfl
     all_goals
      apply_assumption
      go_wp2_with fail
      refine HD.out.mono ?_
      rintro e w4 ⟨b5,r3,V3,c3,bi,bf,aw,bh,⟨hr,rfl⟩|⟨rfl,g,rfl,c4,ct⟩⟩
      .have HF:X (Yi R J W1 w4/\Wl R (F-c3) r3 w4/\Rb w4 (w.heap.size+1+1+1)/\X3 m F x.tm (E.map Th.val) i c r3 V3 c3/\c<=c3/\c3<=F/\r3.k≠0):=⟨a9.out.trans b5,bh,(HB.out.1.kept (a9.out.trans b5) ae).r,cq.out _ _ _ _ _ _ _ cg.out au.out H8.out bi,by have:=a8.out.1;omega,aw,hr⟩
       simp only[Uf];obtain⟨r0,r1,r2,r4,y0,y1,y2,y3⟩:=HF.out.2.2.1;clear b5 bi bf aw bh hr w0 x0 x1 x2 x3 x4 x5 x6 e0 a0 a1 a2 a3 z0 z1 z2 z3 c0 c1;go_wp2_with fail;obtain⟨⟨e0,e1,e2,e3⟩,q⟩:=HF.out.2.2.1.set (D G 0) (D G 0) .nilFunc (D G 0);refine T (v:=Uf) ?_ rfl ⟨((Yi.la HB.out.2.1).trans HF.out.1).new q (by omega),r3,V3,c3,HF.out.2.2.2.1,HF.out.2.2.2.2.1,HF.out.2.2.2.2.2.1,HF.out.2.1.same q (by omega),.inl ⟨HF.out.2.2.2.2.2.2,rfl⟩⟩;simp[results,N,go_sem,Uf,e0,e1,e2,e3]
      .have HF:X (Yi R J W1 w4/\Wl R (F-c3) Yn w4/\Rb w4 (w.heap.size+1+1+1)/\X3 m F x.tm (E.map Th.val) i c Yn V3 c3/\c<=c3/\c3<=F/\g.In m M R (fun x=>Q x/\x≠w.heap.size+1+1+1) w4/\g.val=V3/\JG m i g):=⟨a9.out.trans b5,bh,(HB.out.1.kept (a9.out.trans b5) ae).r,cq.out _ _ _ _ _ _ _ cg.out au.out H8.out bi,by have:=a8.out.1;omega,aw,c4,ct⟩
       have aa:=c4.one;have b2:∀(a:Zo)(m:Mode)(W:Zh),(Zn a g.fn m).run O W=Zj O W a g.fn m:=fun a m W=>Yx aa;simp only[Th.ag];obtain⟨r0,r1,r2,r4,y0,y1,y2,y3⟩:=HF.out.2.2.1;clear b5 bi bf aw bh c4 ct aa w0 x0 x1 x2 x3 x4 x5 x6 e0 a0 a1 a2 a3 z0 z1 z2 z3 c0 c1;go_wp2_with fail;obtain⟨g1,g2,g3,g4,g5,g6,g7,g8⟩:=HF.out;have aq:=Uv (m:=m) (M:=M) (Q:=Q) (h:=g) g3 (by omega) ae ((Yi.la HB.out.2.1).trans g1) g2 g7 (fun x hx=>hx);obtain⟨⟨e0,e1,e2,e3⟩,q,hW,hi⟩:=aq;refine T (v:=g.ag) ?_ rfl ⟨q,Yn,V3,c3,g4,g5,g6,hW,.inr ⟨rfl,g,rfl,hi,g8⟩⟩;simp[results,N,go_sem,Th.ag,e0,e1,e2,e3]
   .have H45:X (x.k=4\/x.k=5):=by
     rcases d6.out with h|h|h
     .exact .inl h
     .exact .inr h
     .exact absurd h h8
    have k8:(x.k==8)=Zc:=by simpa using h8
    clear h8;have fin:∀h:Th,((h.tag≠0/\h.val.k=5)\/(h.tag=0/\h.val=h.cv/\((h.k=1/\h.val=XP h.n)\/(h.k=2/\h.val=Xp h.n)\/(h.k=3/\(h.val.k=3\/h.val.k=4)/\(h.wy=1\/h.wy=2)))))->(h.tag≠0/\h.val.k≠1)\/(h.tag=0/\h.k≠1/\h.val.k≠1)\/(h.tag=0/\h.k=1/\h.val=XP h.n):=by
     intro h kd;rcases kd with⟨h1,k⟩|⟨h0,he,⟨h1,k⟩|⟨h1,k⟩|⟨h1,k,_⟩⟩
     .exact .inl ⟨h1,by omega⟩
     .exact .inr (.inr ⟨h0,h1,k⟩)
     .exact .inr (.inl ⟨h0,by omega,by rw[k];simp[Xp]⟩)
     .exact .inr (.inl ⟨h0,by omega,by omega⟩)
    have fa:=fin a bj;have fz:=fin z bv;clear fin bj bv;rcases fa with⟨h1,k⟩|⟨h0,h1,k⟩|⟨h0,h1,k⟩
    .have ht1:(a.tag != 0)=Zi:=by simpa using h1
     have HV:X (¬(a.val.k=1/\z.val.k=1)):=fun h=>k h.1;clear h1 k fz;have a6:X (X3 m F x.tm (E.map Th.val) i c Yw z.val c2/\c<=c2/\c2<=F/\Yw.k≠0):=⟨bp.out _ _ _ _ _ HA.out.2.2.1 au.out H45.out HV.out,a8.out.1,a8.out.2,by decide⟩
     apply_assumption;go_wp2_with (go_at_call 94;refine(UV R _ _ HW.out).mono ?_;rintro e w2 ⟨rfl,l,k⟩;simp only[Uf];have HF:X (Yi R J W1 w2/\Wl R (F-c2) Yw w2/\Rb w2 (w.heap.size+1+1+1)):=⟨a9.out.trans k,l,(HB.out.1.kept (a9.out.trans k) ae).r⟩;clear l k w0 x0 x1 x2 x3 x4 x5 x6 e0 a0 a1 a2 a3 z0 z1 z2 z3 c0 c1;obtain⟨r0,r1,r2,r3,y0,y1,y2,y3⟩:=HF.out.2.2)
     obtain⟨⟨e0,e1,e2,e3⟩,q⟩:=HF.out.2.2.set (D G 0) (D G 0) .nilFunc (D G 0);refine T (v:=Uf) ?_ rfl ⟨((Yi.la HB.out.2.1).trans HF.out.1).new q (by omega),Yw,z.val,c2,a6.out.1,a6.out.2.1,a6.out.2.2.1,HF.out.2.1.same q (by omega),.inl ⟨a6.out.2.2.2,rfl⟩⟩;simp[results,N,go_sem,Uf,e0,e1,e2,e3]
    .have ht1:(a.k != 1)=Zi:=by simpa using h1
     rw[h0] at a3;have HV:X (¬(a.val.k=1/\z.val.k=1)):=fun h=>k h.1;clear h0 h1 k fz;have a6:X (X3 m F x.tm (E.map Th.val) i c Yw z.val c2/\c<=c2/\c2<=F/\Yw.k≠0):=⟨bp.out _ _ _ _ _ HA.out.2.2.1 au.out H45.out HV.out,a8.out.1,a8.out.2,by decide⟩
     apply_assumption;go_wp2_with (go_at_call 94;refine(UV R _ _ HW.out).mono ?_;rintro e w2 ⟨rfl,l,k⟩;simp only[Uf];have HF:X (Yi R J W1 w2/\Wl R (F-c2) Yw w2/\Rb w2 (w.heap.size+1+1+1)):=⟨a9.out.trans k,l,(HB.out.1.kept (a9.out.trans k) ae).r⟩;clear l k w0 x0 x1 x2 x3 x4 x5 x6 e0 a0 a1 a2 a3 z0 z1 z2 z3 c0 c1;obtain⟨r0,r1,r2,r3,y0,y1,y2,y3⟩:=HF.out.2.2)
     obtain⟨⟨e0,e1,e2,e3⟩,q⟩:=HF.out.2.2.set (D G 0) (D G 0) .nilFunc (D G 0);refine T (v:=Uf) ?_ rfl ⟨((Yi.la HB.out.2.1).trans HF.out.1).new q (by omega),Yw,z.val,c2,a6.out.1,a6.out.2.1,a6.out.2.2.1,HF.out.2.1.same q (by omega),.inl ⟨a6.out.2.2.2,rfl⟩⟩;simp[results,N,go_sem,Uf,e0,e1,e2,e3]
    .rw[h0] at a3;rw[h1] at a0;have cl:=Uy k (bu.out.qw h1);clear h0 h1 k;rcases fz with⟨h1,k⟩|⟨h0,h1,k⟩|⟨h0,h1,k⟩
     .have ht1:(z.tag != 0)=Zi:=by simpa using h1
      have HV:X (¬(a.val.k=1/\z.val.k=1)):=fun h=>k h.2;clear h1 k;have a6:X (X3 m F x.tm (E.map Th.val) i c Yw z.val c2/\c<=c2/\c2<=F/\Yw.k≠0):=⟨bp.out _ _ _ _ _ HA.out.2.2.1 au.out H45.out HV.out,a8.out.1,a8.out.2,by decide⟩
      apply_assumption;go_wp2_with (go_at_call 94;refine(UV R _ _ HW.out).mono ?_;rintro e w2 ⟨rfl,l,k⟩;simp only[Uf];have HF:X (Yi R J W1 w2/\Wl R (F-c2) Yw w2/\Rb w2 (w.heap.size+1+1+1)):=⟨a9.out.trans k,l,(HB.out.1.kept (a9.out.trans k) ae).r⟩;clear l k w0 x0 x1 x2 x3 x4 x5 x6 e0 a0 a1 a2 a3 z0 z1 z2 z3 c0 c1;obtain⟨r0,r1,r2,r3,y0,y1,y2,y3⟩:=HF.out.2.2)
      obtain⟨⟨e0,e1,e2,e3⟩,q⟩:=HF.out.2.2.set (D G 0) (D G 0) .nilFunc (D G 0);refine T (v:=Uf) ?_ rfl ⟨((Yi.la HB.out.2.1).trans HF.out.1).new q (by omega),Yw,z.val,c2,a6.out.1,a6.out.2.1,a6.out.2.2.1,HF.out.2.1.same q (by omega),.inl ⟨a6.out.2.2.2,rfl⟩⟩;simp[results,N,go_sem,Uf,e0,e1,e2,e3]
     .have ht1:(z.k != 1)=Zi:=by simpa using h1
      rw[h0] at z3;have HV:X (¬(a.val.k=1/\z.val.k=1)):=fun h=>k h.2;clear h0 h1 k;have a6:X (X3 m F x.tm (E.map Th.val) i c Yw z.val c2/\c<=c2/\c2<=F/\Yw.k≠0):=⟨bp.out _ _ _ _ _ HA.out.2.2.1 au.out H45.out HV.out,a8.out.1,a8.out.2,by decide⟩
      apply_assumption;go_wp2_with (go_at_call 94;refine(UV R _ _ HW.out).mono ?_;rintro e w2 ⟨rfl,l,k⟩;simp only[Uf];have HF:X (Yi R J W1 w2/\Wl R (F-c2) Yw w2/\Rb w2 (w.heap.size+1+1+1)):=⟨a9.out.trans k,l,(HB.out.1.kept (a9.out.trans k) ae).r⟩;clear l k w0 x0 x1 x2 x3 x4 x5 x6 e0 a0 a1 a2 a3 z0 z1 z2 z3 c0 c1;obtain⟨r0,r1,r2,r3,y0,y1,y2,y3⟩:=HF.out.2.2)
      obtain⟨⟨e0,e1,e2,e3⟩,q⟩:=HF.out.2.2.set (D G 0) (D G 0) .nilFunc (D G 0);refine T (v:=Uf) ?_ rfl ⟨((Yi.la HB.out.2.1).trans HF.out.1).new q (by omega),Yw,z.val,c2,a6.out.1,a6.out.2.1,a6.out.2.2.1,HF.out.2.1.same q (by omega),.inl ⟨a6.out.2.2.2,rfl⟩⟩;simp[results,N,go_sem,Uf,e0,e1,e2,e3]
     .rw[h0] at z3;rw[h1] at z0;have cn:=Uy k (HZ.out.1.qw h1);clear h0 h1 k;have c7:X (X3 m F u0.tm (E.map Th.val) p0 c Yn (XP a.n) c'):=cl.out.1▸HA.out.2.2.1;have c5:X (X3 m F u1.tm (E.map Th.val) p1 c' Yn (XP z.n) c2):=cn.out.1▸au.out;obtain⟨di,dj⟩:=cl.out.2;obtain⟨dm,dl⟩:=cn.out.2;obtain⟨r0,r1,r2,r3,y0,y1,y2,y3⟩:=b1;by_cases h4:x.k=4
      .have HX4:X (X3 m F x.tm (E.map Th.val) i c Yn (Uq 1 (min (max (a.n+z.n) (-1000000)) 1000000) x i).val c2):=by
        show X3 _ _ _ _ _ _ _ _ _
        rw[EF];have e:Jn (a.n+z.n)=(min (max (a.n+z.n) (-1000000)) 1000000):=by unfold Jn;omega
        rw[<-e];exact d9.out _ _ _ _ c7.out c5.out h4
       have HL:X ((Uq 1 (min (max (a.n+z.n) (-1000000)) 1000000) x i).In m M R (fun _=>False) wc/\JG m i (Uq 1 (min (max (a.n+z.n) (-1000000)) 1000000) x i)):=by
        refine⟨Th.lk.2 (.inl ⟨rfl,⟨rfl,.inl rfl,?_⟩⟩),Wf fun hm=>?_⟩
        .show -1000000<=(min (max (a.n+z.n) (-1000000)) 1000000)/\(min (max (a.n+z.n) (-1000000)) 1000000)<=1000000
         omega
        .rcases HR.out hm with⟨h',_⟩|⟨_,_,_,e⟩|⟨h',_⟩
         .omega
         .exact .inl ⟨rfl,e⟩
         .omega
       have k4:(x.k==4)=Zi:=by simpa using h4
       clear h4;apply_assumption;go_wp2_with fail;obtain⟨g1,g2⟩:=HL.out;have aq:=Uv (m:=m) (M:=M) (Q:=Q) (Q1:=fun _=>False) (h:=Uq 1 (min (max (a.n+z.n) (-1000000)) 1000000) x i) (HB.out.1.kept a9.out ae).r (by omega) ae ((Yi.la HB.out.2.1).trans a9.out) HW.out g1 (fun x hx=>hx.elim);obtain⟨⟨e0,e1,e2,e3⟩,q,hW,hi⟩:=aq;refine T (v:=(Uq 1 (min (max (a.n+z.n) (-1000000)) 1000000) x i).ag) ?_ rfl ⟨q,Yn,_,c2,HX4.out,a8.out.1,a8.out.2,hW,.inr ⟨rfl,_,rfl,hi,rfl,g2⟩⟩;simp only[Uq] at e0 e1 e2 e3;simp[results,N,go_sem,Th.ag,Uq,e0,e1,e2,e3]
      .have h5:x.k=5:=by have:=H45.out;omega
       have k4:(x.k==4)=Zc:=by simpa using h4
       have H5:=Yy h5;clear h4 h5;by_cases hlt:a.n<z.n
       .have HX4:X (X3 m F x.tm (E.map Th.val) i c Yn (Uq 2 1 x i).val c2):=by
         show X3 _ _ _ _ _ _ _ _ _
         rw[Rf];have:=co.out _ _ _ _ c7.out c5.out H5.out;rwa [if_pos hlt] at this
        have HL:X ((Uq 2 1 x i).In m M R (fun _=>False) wc/\JG m i (Uq 2 1 x i)):=by
         refine⟨Th.lk.2 (.inl ⟨rfl,⟨rfl,.inr rfl,by show -1000000<=(1:Int)/\(1:Int)<=1000000;omega⟩⟩),Wf fun hm=>?_⟩;have:=H5.out;rcases HR.out hm with⟨h',_⟩|⟨h',_⟩|⟨_,_,_,e⟩
         .omega
         .omega
         .exact .inr ⟨rfl,e⟩
        apply_assumption;go_wp2_with fail;obtain⟨g1,g2⟩:=HL.out;have aq:=Uv (m:=m) (M:=M) (Q:=Q) (Q1:=fun _=>False) (h:=Uq 2 1 x i) (HB.out.1.kept a9.out ae).r (by omega) ae ((Yi.la HB.out.2.1).trans a9.out) HW.out g1 (fun x hx=>hx.elim);obtain⟨⟨e0,e1,e2,e3⟩,q,hW,hi⟩:=aq;refine T (v:=(Uq 2 1 x i).ag) ?_ rfl ⟨q,Yn,_,c2,HX4.out,a8.out.1,a8.out.2,hW,.inr ⟨rfl,_,rfl,hi,rfl,g2⟩⟩;simp only[Uq] at e0 e1 e2 e3;simp[results,N,go_sem,Th.ag,Uq,e0,e1,e2,e3]
       .have HX4:X (X3 m F x.tm (E.map Th.val) i c Yn (Uq 2 0 x i).val c2):=by
         show X3 _ _ _ _ _ _ _ _ _
         rw[Rf];have:=co.out _ _ _ _ c7.out c5.out H5.out;rwa [if_neg hlt] at this
        have HL:X ((Uq 2 0 x i).In m M R (fun _=>False) wc/\JG m i (Uq 2 0 x i)):=by
         refine⟨Th.lk.2 (.inl ⟨rfl,⟨rfl,.inr rfl,by show -1000000<=(0:Int)/\(0:Int)<=1000000;omega⟩⟩),Wf fun hm=>?_⟩;have:=H5.out;rcases HR.out hm with⟨h',_⟩|⟨h',_⟩|⟨_,_,_,e⟩
         .omega
         .omega
         .exact .inr ⟨rfl,e⟩
        apply_assumption;go_wp2_with fail;obtain⟨g1,g2⟩:=HL.out;have aq:=Uv (m:=m) (M:=M) (Q:=Q) (Q1:=fun _=>False) (h:=Uq 2 0 x i) (HB.out.1.kept a9.out ae).r (by omega) ae ((Yi.la HB.out.2.1).trans a9.out) HW.out g1 (fun x hx=>hx.elim);obtain⟨⟨e0,e1,e2,e3⟩,q,hW,hi⟩:=aq;refine T (v:=(Uq 2 0 x i).ag) ?_ rfl ⟨q,Yn,_,c2,HX4.out,a8.out.1,a8.out.2,hW,.inr ⟨rfl,_,rfl,hi,rfl,g2⟩⟩;simp only[Uq] at e0 e1 e2 e3;simp[results,N,go_sem,Th.ag,Uq,e0,e1,e2,e3]
theorem FV.part{x:Tm}{E:List Th}{i p:Ty}(h:FV m M x E i){j:Nat}(hj:j<x.l.length)(hp:m=Zi->M7 (x.at j) (E.map Th.my) p):FV m M (x.at j) E p:=⟨⟨h.sh.1.part hj,fun hm=>(h.sh.2 hm).part hj⟩,by have:=h.sz;have:=U2 hj;omega,fun hm=>⟨hp hm,(h.ty hm).2⟩⟩
theorem Am{m:Bool}{M R F c:Nat}(hF:F<=1000)(hM:M<=10000)(hc:c<=F)(up:∀c',c<c'->c'<=F->EX m M R F c'):EX m M R F c:=by
 have a5:∀c2,c<=c2->c2<=F->FD m M R F c2:=fun c2 h1 o=>FQ hF hM o fun h3=>up (c2+1) (by omega) (by omega);suffices hs:∀(s:Nat)(x:TT),x.tm.mj<=s->∀(E:List Th)(i:Ty)(z:Option Zo)(w:Nat),FV m M x.tm E i->EW m M R F c x E i z w from fun x=>hs _ x (H _)
 intro s;induction s with
 |zero=>intro x hx;have:=x.tm.nh;omega
 |succ s ih=>
  intro x hx E i z w q;obtain⟨k1,a7,hl,n1,n2,hn,hg⟩:=q.sh.1.top;rw[TT.mc] at k1 a7 hl hn hg;rw[TT.nu] at n1 n2 hn;have a3:x.tm.l.length=x.l.length:=by rw[TT.mq,List.length_map]
  have k:∀(j:Nat)(y:TT)(p:Ty),x.l[j]?=Zb y->(m=Zi->M7 (x.tm.at j) (E.map Th.my) p)->∀c',c<=c'->c'<=F->EW m M R F c' y E p z w:=by
   intro j y p r hp c' h1 o;have hj:j<x.tm.l.length:=by
    rw[a3];by_cases h:j<x.l.length
    .exact h
    .rw[List.getElem?_eq_none (by omega)] at r;cases r
   have e:x.tm.at j=y.tm:=by rw[Tm.at,TT.mq,List.getD_eq_getElem?_getD,List.getElem?_map,r];rfl
   have hf:=q.part hj hp;rw[e] at hf;by_cases hcc:c'=c
   .subst hcc;refine ih y ?_ E p z w hf;have:=U2 hj;rw[e] at this;omega
   .exact up c' (by omega) o y E p z w hf
  have a2:m=Zi->∃ps:List Ty,x.tm.l.length=ps.length/\(∀j(g:j<ps.length),M7 (x.tm.at j) (if x.k=7 then x.t.ty::E.map Th.my else E.map Th.my) ps[j])/\SO x.k x.n x.t.ty x.f.ty ps (E.map Th.my) i:=fun u=>by have:=Jz (q.ty u).1;rwa [TT.mc,TT.nu,TT.qd,TT.pj] at this
  intro Q W a1 a0 hE hw hQ nw;have hk:x.k=1\/x.k=2\/x.k=3\/x.k=4\/x.k=5\/x.k=6\/x.k=7\/x.k=8\/x.k=9\/x.k=10:=by omega
  rw[a3] at hl;have l:(x.k=4\/x.k=5\/x.k=8)->Zl O 59 #[Y (Zb ⟨R,0,J⟩),Zk x.v,U z E.length w] W (Xn m M R F c Q W i (X3 m F x.tm (E.map Th.val) i c)):=fun hk=>by
   have a6:x.l.length=2:=by rcases hk with h|h|h<;>(rw[h] at hl;exact hl)
   obtain⟨y0,y1,r⟩:∃y0 y1,x.l=[y0,y1]:=by
    match hx:x.l,a6 with
    |[a,b],_=>exact⟨a,b,rfl⟩
   obtain⟨p0,p1,a8,a4,hr⟩:∃p0 p1,(m=Zi->M7 (x.tm.at 0) (E.map Th.my) p0)/\(m=Zi->M7 (x.tm.at 1) (E.map Th.my) p1)/\(m=Zi->(x.k=8/\p0=YM p1 i)\/(x.k=4/\p0=Jg/\p1=Jg/\i=Jg)\/(x.k=5/\p0=Jg/\p1=Jg/\i=Xs)):=by
    cases m with
    |false=>exact⟨Yk,Yk,fun h=>(by cases h),fun h=>(by cases h),fun h=>(by cases h)⟩
    |true=>
     obtain⟨ps,h1,o,h3⟩:=a2 rfl;rw[if_neg (by omega)] at o;rcases h3 with⟨g,_⟩|⟨g,_⟩|⟨g,_⟩|⟨h4,rfl,hi⟩|⟨h4,rfl,hi⟩|⟨g,_⟩|⟨g,_⟩|⟨h4,a,rfl⟩|⟨g,_⟩|⟨g,_⟩<;>first|omega|skip
     .exact⟨Jg,Jg,fun _=>o 0 (by simp),fun _=>o 1 (by simp),fun _=>.inr (.inl ⟨h4,rfl,rfl,hi⟩)⟩
     .exact⟨Jg,Jg,fun _=>o 0 (by simp),fun _=>o 1 (by simp),fun _=>.inr (.inr ⟨h4,rfl,rfl,hi⟩)⟩
     .exact⟨YM a i,a,fun _=>o 0 (by simp),fun _=>o 1 (by simp),fun _=>.inl ⟨h4,rfl⟩⟩
   exact DC m M R F c Q x y0 y1 E i p0 p1 z w W hk r a1 a0 hE hr hw hQ nw (k 0 y0 p0 (by rw[r];rfl) a8 c (H _) hc) (k 1 y1 p1 (by rw[r];rfl) a4) a5
  rcases hk with h|h|h|h|h|h|h|h|h|h
  .exact DB m M R F c Q x E i z w W h (hn h) n2 hE q.ty hc hw
  .exact TV m M R F c Q x E i z w W (.inl h) ⟨n1,n2⟩ (fun u=>⟨_,(q.ty u).1⟩) hc hw
  .exact TV m M R F c Q x E i z w W (.inr h) ⟨n1,n2⟩ (fun u=>⟨_,(q.ty u).1⟩) hc hw
  .exact l (.inl h)
  .exact l (.inr (.inl h))
  .have hl3:x.l.length=3:=by rw[h] at hl;exact hl
   obtain⟨y0,y1,y2,r⟩:∃y0 y1 y2,x.l=[y0,y1,y2]:=by
    match hx:x.l,hl3 with
    |[a,b,d],_=>exact⟨a,b,d,rfl⟩
   have hp:m=Zi->M7 (x.tm.at 0) (E.map Th.my) Xs/\M7 (x.tm.at 1) (E.map Th.my) i/\M7 (x.tm.at 2) (E.map Th.my) i:=fun u=>by
    obtain⟨ps,h1,o,h3⟩:=a2 u;rw[if_neg (by omega)] at o;rcases h3 with⟨g,_⟩|⟨g,_⟩|⟨g,_⟩|⟨g,_⟩|⟨g,_⟩|⟨_,rfl⟩|⟨g,_⟩|⟨g,_⟩|⟨g,_⟩|⟨g,_⟩<;>first|omega|skip
    exact⟨o 0 (by simp),o 1 (by simp),o 2 (by simp)⟩
   exact EG m M R F c Q x y0 y1 y2 E i z w W h r a1 a0 hE hw hQ nw (k 0 y0 Xs (by rw[r];rfl) (fun u=>(hp u).1) c (H _) hc) (k 1 y1 i (by rw[r];rfl) fun u=>(hp u).2.1) (k 2 y2 i (by rw[r];rfl) fun u=>(hp u).2.2)
  .exact DD m M R F c Q x E i z w W h a1 a0 q.sh q.sz hE q.ty hc hw nw
  .exact l (.inr (.inr h))
  .obtain⟨y,r⟩:∃y,x.l=[y]:=Zm.1 (by rw[h] at hl;exact hl);refine EH m M R F c Q x y E i z w W h r a1 a0 hE hw hQ nw (k 0 y i (by rw[r];rfl) (fun u=>?_) c (H _) hc);obtain⟨ps,h1,o,h3⟩:=a2 u;rw[if_neg (by omega)] at o;rcases h3 with⟨g,_⟩|⟨g,_⟩|⟨g,_⟩|⟨g,_⟩|⟨g,_⟩|⟨g,_⟩|⟨g,_⟩|⟨g,_⟩|⟨_,rfl,rfl⟩|⟨g,_⟩<;>first|omega|skip
   exact o 0 (by simp)
  .obtain⟨y,r⟩:∃y,x.l=[y]:=Zm.1 (by rw[h] at hl;exact hl);cases m with
   |false=>exact absurd h (by have:=(q.sh.2 rfl).top;rwa [TT.mc] at this)
   |true=>
    obtain⟨ps,h1,o,h3⟩:=a2 rfl;rw[if_neg (by omega)] at o;rcases h3 with⟨g,_⟩|⟨g,_⟩|⟨g,_⟩|⟨g,_⟩|⟨g,_⟩|⟨g,_⟩|⟨g,_⟩|⟨g,_⟩|⟨g,_⟩|⟨_,rfl,rfl,hf,g1,g2⟩<;>first|omega|skip
    exact BJ M R F c Q x y E z w W h r a1 a0 hE g1 g2 hf hw hQ nw (k 0 y x.f.ty (by rw[r];rfl) (fun _=>o 0 (by simp)) c (H _) hc)
theorem DH{m:Bool}{M R F:Nat}(hF:F<=1000)(hM:M<=10000):∀(d c:Nat),F-c<=d->c<=F->EX m M R F c
 |0,c,h,hc=>Am hF hM hc fun c' h1 h2=>by omega
 |d+1,c,h,hc=>Am hF hM hc fun c' h1 h2=>DH hF hM d c' (by omega) h2
theorem Ek(hi:h.In m M R Q w):(h.k=3/\XU h.val=⟨3,0,Zc⟩)\/(h.k≠3/\XU h.val=⟨h.k,h.n,Zc⟩):=by
 have e:∀v:YJ,v.k≠5->XU v=if v.k=1 then ⟨1,v.n,Zc⟩ else if v.k=2 then ⟨2,v.n,Zc⟩ else ⟨3,0,Zc⟩:=fun v i=>by unfold XU;rw[if_neg i]
 have g:=(hi.tag 0).kinds;have c:({h with tag:=0}:Th).val=h.cv:=by unfold Th.val;rw[if_pos rfl,Th.ns]
 rw[c] at g;have j:XU h.val=XU h.cv:=by
  unfold Th.val;split
  .rfl
  .have hne:h.cv.k≠5:=by
    rcases g with⟨d,_⟩|⟨_,_,⟨_,b⟩|⟨_,b⟩|⟨_,b,_⟩⟩
    .exact absurd rfl d
    .rw[b];simp[XP]
    .rw[b];simp[Xp]
    .omega
   rw[e _ hne];rfl
 rw[j];rcases g with⟨d,_⟩|⟨_,_,⟨a,b⟩|⟨a,b⟩|⟨a,b,_⟩⟩
 .exact absurd rfl d
 .replace a:h.k=1:=a;refine .inr ⟨by omega,?_⟩;rw[b,a];rfl
 .replace a:h.k=2:=a;refine .inr ⟨by omega,?_⟩;rw[b,a];rfl
 .replace a:h.k=3:=a;refine .inl ⟨a,?_⟩;rw[e _ (by omega),if_neg (by omega),if_neg (by omega)]
theorem Wh(m:Bool)(x:TT)(i:Ty)(f:Nat)(w:Zh)(hf:f<=100)(hx:x.In w)(hs:L9 x.tm/\(m=Zc->Bo x.tm))(hz:x.tm.mj<=100)(a4:m=Zi->M7 x.tm [] i):
  Zl O 36 #[Zk #[D G x.k,D G x.n,D G x.t.k,U x.t.a x.t.l.length x.t.c,D G x.f.k,U x.f.a x.f.l.length x.f.c,U x.a x.l.length x.c],D G (f:Int)] w fun e w'=>e=.returned (Zk #[D G (UY x.tm f).k,D G (UY x.tm f).n,.bool (UY x.tm f).b])/\Below w.heap.size w w':=by
 obtain⟨W1,c⟩:∃W,W=((w.alloc (Zd x.v 27)).alloc (Zd #[D G 0,D G 0,.bool Zc] 29)).alloc (Zd #[D G (f:Int),D G 0,D G 0,.bool Zc] 100):=⟨_,rfl⟩
 have a1:bL w W1:=by rw[c];exact(((L _ _).alloc (H _) _).alloc (by simp) _).alloc (by simp;omega) _
 have aa:W1.heap.size=w.heap.size+1+1+1:=by rw[c];simp
 have a5:Wl (w.heap.size+1+1) (f-0) Yn W1:=by constructor<;>(rw[c];simp[go_sem,Yn])
 have h7:Uz W1 w.heap.size 0 x:=by constructor<;>(rw[c];simp[go_sem])
 have z0:W1.cell? ⟨w.heap.size+1,0,J⟩=Zb (D G 0):=by rw[c];simp[go_sem]
 have z1:W1.cell? ⟨w.heap.size+1,1,J⟩=Zb (D G 0):=by rw[c];simp[go_sem]
 have z2:W1.cell? ⟨w.heap.size+1,2,J⟩=Zb (.bool Zc):=by rw[c];simp[go_sem]
 have zf:∀i,W1.frozen? ⟨w.heap.size+1,i,J⟩=Zc:=by intro i;rw[c];simp[go_sem]
 have HC:X (Zl O 59 #[Y (Zb ⟨w.heap.size+1+1,0,J⟩),Zk x.v,U J 0 0] W1 (Xn m 100 (w.heap.size+1+1) f 0 (fun b=>b≠w.heap.size+1+1) W1 i (X3 m f x.tm [] i 0))):=DH (m:=m) (M:=100) (R:=w.heap.size+1+1) (F:=f) (by omega) (by omega) f 0 (by omega) (by omega) x [] i J 0 ⟨hs,by simp;omega,fun hm=>⟨a4 hm,fun e he=>by cases he⟩⟩ (fun b=>b≠w.heap.size+1+1) W1 (hx.below a1) (hx.bl.mono fun b hb=>by omega) ⟨fun j l=>absurd l (by simp),fun e he=>by cases he⟩ a5 (fun h=>h rfl) (fun b hb=>by omega)
 have HE:X (∀r V c',X3 m f x.tm [] i 0 r V c'->(r.k≠0->UY x.tm f=r)/\(r=Yn->UY x.tm f=XU V)):=fun r V c' h=>by have hg:=h.1 [] [];refine⟨fun hr=>AU hs.1 hz hf (hg.bad hr),fun hr=>?_⟩;subst hr;exact VJ hs.1 hz hf (hg.ok rfl)
 have HZ:X (∀W,Yi (w.heap.size+1+1) J W1 W->cL W (w.heap.size+1) 0 (D G 0)/\cL W (w.heap.size+1) 1 (D G 0)/\cL W (w.heap.size+1) 2 (.bool Zc)/\W.frozen? ⟨w.heap.size+1,0,J⟩=Zc/\W.frozen? ⟨w.heap.size+1,1,J⟩=Zc/\W.frozen? ⟨w.heap.size+1,2,J⟩=Zc/\bL w W):=fun W hk=>⟨hk.cell z0 (by omega),hk.cell z1 (by omega),hk.cell z2 (by omega),hk.fz (zf 0) (by omega) (by omega),hk.fz (zf 1) (by omega) (by omega),hk.fz (zf 2) (by omega) (by omega),a1.trans ((hk.below (by simp) (by omega)).mono (by omega))⟩
 obtain⟨P,hP⟩:∃P,P=UY x.tm f:=⟨_,rfl⟩
 rw[<-hP] at HE ⊢;obtain⟨p0,p1,p2,p3,p4,p5,p6⟩:=h7;simp only[Ze] at p0 p1 p2 p3 p4 p5 p6;have ad:w.heap.size+1+1<W1.heap.size:=by omega
 clear hP hx hs hz a4 a1 a5 z0 z1 z2 zf aa hf;go_enter func36,ntmps36;go_upto_region 2 with fail;rw[<-c];clear c;go_wp2_with fail;refine HC.out.mono ?_;rintro e p ⟨q,r,V,c',hS,a7,a6,a2,⟨hr,rfl⟩|⟨rfl,z,rfl,a0,a3,_⟩⟩
 .have HPr:X (P=r):=(HE.out _ _ _ hS).1 hr;have ae:(r.k != 0)=Zi:=by simpa using hr
  obtain⟨r0,r1,r2,f0,f1,f2,hB⟩:=HZ.out p q;have HB:=Yy hB;obtain⟨c0,c1,c2,c3,_,_,_,_⟩:=a2;have ab:w.heap.size+1<p.heap.size:=Za _ _ r0;have a8:w.heap.size+1+1<p.heap.size:=Za _ _ c0;clear hS hr q hB HC HE HZ p0 p1 p2 p3 p4 p5 p6 a7 a6;simp only[Uf];go_wp2_with fail;obtain⟨q0,q1,q2⟩:=Y6 (W:=p) (u:=D G r.k) (v:=D G r.n) (z:=.bool r.b) r0 r1 r2;have d:=fun (o:Obj)=>Zg ((L _ _).alloc (H _) o) q0;have g:=fun (o:Obj)=>Zg ((L _ _).alloc (H _) o) q1;have k:=fun (o:Obj)=>Zg ((L _ _).alloc (H _) o) q2;refine T (v:=Zk #[D G r.k,D G r.n,.bool r.b]) ?_ rfl ⟨by rw[HPr.out],(((HB.out.setCell (by simp) _).setCell (by simp) _).setCell (by simp) _).alloc (by simpa using HB.out.size) _⟩;simp[results,Zp,go_sem,d,g,k]
 .have HPr:X (P=XU z.val):=a3▸(HE.out _ _ _ hS).2 rfl;obtain⟨r0,r1,r2,f0,f1,f2,hB⟩:=HZ.out p q;have HB:=Yy hB;obtain⟨c0,c1,c2,c3,_,_,_,_⟩:=a2;replace c1:cL p (w.heap.size+1+1) 1 (D G 0):=c1;have ab:w.heap.size+1<p.heap.size:=Za _ _ r0;have a8:w.heap.size+1+1<p.heap.size:=Za _ _ c0;have a9:=Ek a0;have y:=a0.one;have ac:∀(a:Zo)(m:Mode)(W:Zh),(Zn a z.fn m).run O W=Zj O W a z.fn m:=fun a m W=>Yx y;clear hS q hB HC HE HZ p0 p1 p2 p3 p4 p5 p6 a7 a6 a0 a3 y;simp only[Th.ag];rcases a9 with⟨h3,ht⟩|⟨h3,ht⟩
  .have HT:=Yy (HPr.out.trans ht);rw[h3];clear h3 ht HPr;go_wp2_with fail;obtain⟨q0,q1,q2⟩:=Y6 (W:=p) (u:=D G 3) (v:=D G 0) (z:=.bool Zc) r0 r1 r2;have d:=fun (o:Obj)=>Zg ((L _ _).alloc (H _) o) q0;have g:=fun (o:Obj)=>Zg ((L _ _).alloc (H _) o) q1;have k:=fun (o:Obj)=>Zg ((L _ _).alloc (H _) o) q2;refine T (v:=Zk #[D G 3,D G 0,.bool Zc]) ?_ rfl ⟨by rw[HT.out],(((HB.out.setCell (by simp) _).setCell (by simp) _).setCell (by simp) _).alloc (by simpa using HB.out.size) _⟩;simp[results,Zp,go_sem,d,g,k]
  .have HT:=Yy (HPr.out.trans ht);have k3:(z.k==3)=Zc:=by simpa using h3
   clear h3 ht HPr;go_wp2_with fail;obtain⟨q0,q1,q2⟩:=Y6 (W:=p) (u:=D G z.k) (v:=D G z.n) (z:=.bool Zc) r0 r1 r2;have d:=fun (o:Obj)=>Zg ((L _ _).alloc (H _) o) q0;have g:=fun (o:Obj)=>Zg ((L _ _).alloc (H _) o) q1;have k:=fun (o:Obj)=>Zg ((L _ _).alloc (H _) o) q2;refine T (v:=Zk #[D G z.k,D G z.n,.bool Zc]) ?_ rfl ⟨by rw[HT.out],(((HB.out.setCell (by simp) _).setCell (by simp) _).setCell (by simp) _).alloc (by simpa using HB.out.size) _⟩;simp[results,Zp,go_sem,d,g,k]
end Go.Proofs.YtnddkmccagiclabGreatDoor
