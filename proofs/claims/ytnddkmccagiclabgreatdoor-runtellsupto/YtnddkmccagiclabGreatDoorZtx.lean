import Derived.Test.YtnddkmccagiclabGreatDoorZtj
import Derived.Test.YtnddkmccagiclabGreatDoorZtu
set_option maxRecDepth 20000
set_option maxHeartbeats 16000000
open Go.RowKit Go.Proofs.Tryz
open List renaming setIfInBounds_toArray→C,set_cons_zero→D,set_cons_succ→H,getElem?_eq_getElem→Zx
open Go.Value renaming int→I,pointer→O,slice→Za,agg→Zg,oneCell'→ZC
open Go.IntKind renaming i64→J
open Option renaming none→L,some→T
open Go.Proofs.Tryz renaming prog→N,results131→Zo,results95→Zq,results59→Zv,ntmps59→Zz,func59→ZA,underlying157→ZE
open Go.Act renaming put→P
open Bool renaming true→U,false→Zt
open Go.RowKit.Below renaming refl→Zb
open Nat renaming le_refl→Zc,zero_add→Zh,le_trans→Zy,add_assoc→ZD
open Go renaming World→Zd,bodyPost_ret→Ze,Calls→Zj,Addr→Zm,wpAnyH_done→Zn,stored→Zp,cell_later→Zr,wp_region_held_drew→Zs,store→Zu,Mode→ZB,Value→ZF
open Go.Obj renaming cells→Zf
open Go.RowKit renaming Hid→Zi
open Go.World renaming block_lt_of_cell?→Zk
open Option.some renaming inj→Zl
open Go.Ending renaming returned→Zw
namespace Go.Proofs.YtnddkmccagiclabGreatDoor
variable {V W w:Zd}{R:Nat}
theorem Am(M R n:Nat)(Q:Nat->Prop)(v:Th)(f t:Tr)(no:Int)(back:Bool)(w:Zd)(hv:v.In U M R Q w)(hf:f.In w)(ht:t.In w)(hfk:f.k=0)(htk:t.k≠0)(hfg:Ym 46 f.ty=U)(htg:Ym 46 t.ty=U)(hvt:Ur v.val f.ty)(tb:t.Bl Q)(hh:f.hgt<=1000)(hm:f.sm)(hw:Wl R n Yl w)(hQ:¬Q R)(nw:∀b,w.heap.size<=b->Q b):
  Zj N 97 #[O (T ⟨R,0,L⟩),Zg #[I J v.k,I J v.n,v.fn,I J v.tag],Zg #[I J f.k,Za f.a f.l.length f.c],Zg #[I J t.k,Za t.a t.l.length t.c],I J no,.bool back] w (Lf M R n Q w (Xd (Yq f.ty t.ty ⟨4,no,back⟩) v.val) (Wu v f t)):=by
 obtain⟨W1,i⟩:∃W,W=T4 R v f t no back w:=⟨_,rfl⟩
 have hB:LB R v f t no back w W1:=by rw[i];exact MD R v f t no back w
 have a2:bL w W1:=by rw[i];exact Qo R v f t no back w
 have HB:=Un hB a2;have a4:=hv.one;have an:∀(a:Zm)(m:ZB)(W:Zd),(Zu a v.fn m).run N W=Zp N W a v.fn m:=fun a m W=>Yw a4;have a1:f.ty=Yn:=by
  rcases Yy hfg with⟨k,e,hk⟩|⟨a,b,e,ha,hb⟩
  .have:=f.ty_k;rw[e,hfk] at this;simp only at this;rw[e,this];rfl
  .have:=f.ty_k;rw[e,hfk] at this;cases this
 have o:t.ty.k≠0:=by rw[t.ty_k];exact htk
 have HS:Zi (∀W,bL W1 W->Zj N 39 #[Zg f.v,Zg t.v] W fun e w'=>e=Zw (.bool Zt)/\bL W w'):=fun W hb=>by
  have ai:=a2.trans (hb.mono a2.size);have:=Xz 1000 f t W (hf.below ai) (ht.below ai) hh hm;rw[show YC Yv f.ty t.ty=Zt from by
   cases h:YC Yv f.ty t.ty with
   |false=>rfl
   |true=>have:=KZ _ _ h;rw[<-this,a1] at o;exact absurd rfl o] at this
  exact this
 obtain⟨ab,a7,ae⟩:v.tag≠0/\v.val=XO v.cv v.tag/\Ur v.cv (gr v.tag):=by
  rw[a1] at hvt;obtain⟨l,_,_,h4⟩:=P1 hvt;have h0:v.tag≠0:=fun h0=>by
   have e:v.val=v.cv:=by unfold Th.val;rw[if_pos h0]
   rw[e] at l;rcases Th.In_iff.1 hv with⟨al,p⟩|⟨a9,c,_⟩|⟨a8,_,⟨u,p⟩,_⟩
   .rw[Th.cv_eq,al] at l;rw[if_neg (by decide),if_neg (by decide)] at l;split at l<;>cases l
   .rw[Th.cv_eq,a9,if_pos rfl] at l;cases l
   .rw[e] at hvt;rw[Th.cv_eq,a8,if_neg (by decide),if_pos rfl] at l;unfold Y2 at l;rw[p.inn] at l;simp only[List.map_cons,List.headD_cons] at l;split at l
    .split at l<;>cases l
    .have o:=p.ty;have hfg:=p.fg;rcases Yy hfg with⟨k,e2,hk⟩|⟨a,b,e2,ha,hb⟩
     .have h7:=v.f.ty_k;rw[e2] at h7;simp only at h7;have:=p.fk;omega
     .rw[e2] at o;rcases J8 o with⟨h8,_⟩|⟨h8,_⟩<;>omega
  have e:v.val=XO v.cv v.tag:=by unfold Th.val;rw[if_neg h0]
  rw[e] at h4;exact⟨h0,e,h4⟩
 have HV:=KS hw hQ nw;have HC:Zi (Xd (Yq f.ty t.ty ⟨4,no,back⟩) v.val=if v.tag≠t.k then (⟨4,no,back⟩,XO v.cv v.tag) else (Yl,(Xd (Yq (Ys t.ty) t.ty ⟨4,no,back⟩) v.cv).2)):=by
  show _=_
  rw[a1,a7,Bp htg (by omega) o,t.ty_k]
 have ac:({v with tag:=0}:Th).val=v.cv:=by unfold Th.val;rw[if_pos rfl,Th.cv_tag]
 have HI:Zi (v.tag=t.k->∀(W:Zd)(u:Tr),Yi R L w W->W1.heap.size<=W.heap.size->Wl R n Yl W->u.ty=Ys t.ty->u.In W->u.Bl (W1.heap.size<=·)->Zj N 97 #[O (T ⟨R,0,L⟩),Zg #[I J v.k,I J v.n,v.fn,I J 0],Zg u.v,Zg t.v,I J no,.bool back] W fun e w'=>Yi R L W w'/\Wl R n Yl w'/\∃h:Th,e=Zw (Zg h.v)/\h.In U M R (fun x=>Q x/\x≠w.heap.size+1+1+1+1+1+1) w'/\(h.val=(Xd (Yq (Ys t.ty) t.ty ⟨4,no,back⟩) v.cv).2/\(v.ok->h.ok/\h.tyo=t.ty))):=by
  intro d W u hk av a8 hu a3 a0;have ap:u.k=t.k:=by rw[<-t.ty_k,<-u.ty_k,hu,XY]
  have aw:=hB.sz;have af:YC Yk u.ty t.ty=U:=by rw[hu];exact(Ls htg).2
  have ah:=XJ.of_kept hk hQ;obtain⟨_,aq,ao⟩:=YR (n:=46) (t:=u) (by omega) (by rw[YM,hu];exact Xn htg);have ar:Ur ({v with tag:=0}:Th).val u.ty:=by rw[ac,hu,<-M2 htg,t.ty_k,<-d];exact ae
  have:=OE M R n (fun x=>Q x/\x≠w.heap.size+1+1+1+1+1+1) {v with tag:=0} u t no back W (((hv.mono (Q':=fun x=>(Q x/\x≠w.heap.size+1+1+1+1+1+1)) fun x h1 j=>⟨j,by omega⟩).same fun b h1 j=>ah b h1 j.1).tag 0) a3 (ht.same ah tb) ap (by rw[hu];exact Xn htg) htg af ar (a0.mono fun b h=>⟨nw b (by omega),by omega⟩) ((tb.and ht.bl).mono fun b h=>⟨h.1,by omega⟩) aq ao a8 (fun h=>hQ h.1) (fun b hb=>⟨nw b (by omega),by omega⟩);rw[hu,ac] at this;refine this.mono ?_;rintro e w' ⟨h1,j|⟨j,h3,h,h4,h5,h6⟩⟩
  .exact absurd (by rw[(Ly (Xn htg) htg (by omega) (XY _)).1];rfl) j.1
  .refine⟨h1,h3,h,h4,h5,h6.1,fun ho=>h6.2 (ho.mark (.inl rfl)) ?_⟩;show (if (0:Int)=0 then v.t.ty else Yn)=_
   rw[if_pos rfl];rcases (Th.ok_iff.1 ho).1 with h0|⟨_,hg⟩
   .exact absurd h0 ab
   .rw[hg,hu,<-M2 htg,t.ty_k,d]
 have lr:=hw.lt;have a9:=hw.below a2;obtain⟨c0,c1,c2,c3,z0,z1,z2,z3⟩:=a9;replace c1:cL W1 R 1 (I J 0):=c1;have k3:(f.k==3)=Zt:=by rw[hfk];decide
 have k0:(t.k==0)=Zt:=by simpa using htk
 have l:(f.k==0)=U:=by rw[hfk];decide
 have k6:(v.tag != 0)=U:=by simpa using ab
 clear hv hw hQ nw hf ht hm hh a4 a1 o hfg htg hvt tb hfk htk ab a7 ae ac;obtain⟨ls,q0,⟨v0,v1,v2,v3⟩,⟨f0,f1⟩,⟨t0,t1⟩,n0,b0,⟨r0,r1,r2,r3,y0,y1,y2,y3⟩,_⟩:=hB;simp only[Zh] at v1 v2 v3 f1 t1;by_cases d:v.tag=t.k
 .have k7:(v.tag != t.k)=Zt:=by simpa using d
  have z:=Yx d;clear d;go_enter func97,ntmps97;go_upto_region 1 with fail;unfold T4 at i;rw[<-i];clear i;go_upto_region 13 with(go_at_call 39;refine(HS.out _ (Zb _ _)).mono ?_;rintro e w2 ⟨rfl,j⟩;have g:Zi (LB R v f t no back w w2/\bL w w2/\Yi R L W1 w2):=⟨HB.out.1.below j,HB.out.2.trans (j.mono HB.out.2.size),Yi.of_below j⟩;clear j v0 v1 v2 v3 f0 f1 t0 t1 n0 b0 r0 r1 r2 r3 y0 y1 y2 y3 q0 c0 c1 c2 c3 z0 z1 z2 z3;obtain⟨am,q0,⟨v0,v1,v2,v3⟩,⟨f0,f1⟩,⟨t0,t1⟩,n0,b0,⟨r0,r1,r2,r3,y0,y1,y2,y3⟩,zz⟩:=g.out.1;have z3:=zz 3;clear zz;simp only[Zh] at v1 v2 v3 f1 t1)
  have HM:Zi _:=g.out.1.mark 0;clear v0 v1 v2 v3 q0 f0 f1 t0 t1 n0 b0 r0 r1 r2 r3 y0 y1 y2 y3 z3 k7 k6 l k0 k3 an;obtain⟨w3,y⟩:∃W,W=w2.setCell ⟨w.heap.size+1,3,L⟩ (I J 0):=⟨_,rfl⟩
  rw[<-y] at HM;rw[<-y];clear y;have HK:Zi (∀V W,LB R {v with tag:=0} f t no back w V->Yi (w.heap.size+1+1+1+1+1+1) L V W->cL W w.heap.size 0 (O (T ⟨R,0,L⟩))/\cL W (w.heap.size+1) 0 (I J v.k)/\cL W (w.heap.size+1) 1 (I J v.n)/\cL W (w.heap.size+1) 2 v.fn/\cL W (w.heap.size+1) 3 (I J 0)/\cL W (w.heap.size+1+1+1) 0 (I J t.k)/\cL W (w.heap.size+1+1+1) 1 (t.s)/\cL W (w.heap.size+1+1+1+1) 0 (I J no)/\cL W (w.heap.size+1+1+1+1+1) 0 (.bool back)):=fun V W h k=>by obtain⟨_,q0,⟨v0,v1,v2,v3⟩,_,⟨t0,t1⟩,n0,b0,_,_⟩:=h;simp only[Zh] at v1 v2 v3 t1;exact⟨k.cell q0 (by omega),k.cell v0 (by omega),k.cell v1 (by omega),k.cell v2 (by omega),k.cell v3 (by omega),k.cell t0 (by omega),k.cell t1 (by omega),k.cell n0 (by omega),k.cell b0 (by omega)⟩
  have HD:Zi (LB R {v with tag:=0} f t no back w w3.drew/\Yi R L w w3.drew/\W1.heap.size<=w3.drew.heap.size/\Wl R n Yl w3.drew):=by have hd:bL w3 w3.drew:=(Zb _ _).drew;have ak:Yi R L w w3:=(Yi.of_below g.out.2.1).new HM.out.2 (by omega);exact⟨HM.out.1.below hd,ak.trans (Yi.of_below hd),Zy g.out.2.2.size (Zy HM.out.2.size hd.size),((HV.out.1.below g.out.2.1).same HM.out.2 (by omega)).below hd⟩
  have q:=HD.out.1;go_region_held3 (fun W=>cL W w.heap.size 0 (O (T ⟨R,0,L⟩))/\cL W (w.heap.size+1) 0 (I J v.k)/\cL W (w.heap.size+1) 1 (I J v.n)/\cL W (w.heap.size+1) 2 v.fn/\cL W (w.heap.size+1) 3 (I J 0)/\cL W (w.heap.size+1+1+1) 0 (I J t.k)/\cL W (w.heap.size+1+1+1) 1 (t.s)/\cL W (w.heap.size+1+1+1+1) 0 (I J no)/\cL W (w.heap.size+1+1+1+1+1) 0 (.bool back))
   (first|exact HK.out _ _ q Yi.refl|exact HK.out _ _ q (((Yj.trans Yj).trans Yj).trans Yj)|fail)
   (first
    |(go_at_call 132;refine(Lm t _).mono ?_;rintro e w4 ⟨u,rfl,hu,a3,a0,h4⟩;have r:Zi (LB R {v with tag:=0} f t no back w w4/\Yi R L w w4/\W1.heap.size<=w4.heap.size/\Wl R n Yl w4/\u.ty=Ys t.ty/\u.In w4/\u.Bl (W1.heap.size<=·)):=⟨HD.out.1.below h4,HD.out.2.1.trans (Yi.of_below h4),Zy HD.out.2.2.1 h4.size,HD.out.2.2.2.below h4,hu,a3,a0.mono fun b hb=>Zy HD.out.2.2.1 hb⟩;clear q h4 hu a3 a0;have q:=r.out.1)
    |(go_at_call 97;refine(HI.out z.out _ u r.out.2.1 r.out.2.2.1 r.out.2.2.2.1 r.out.2.2.2.2.1 r.out.2.2.2.2.2.1 r.out.2.2.2.2.2.2).mono ?_;rintro e w5 ⟨h5,aj,h,rfl,aa,a5⟩;have HG:Zi (LB R {v with tag:=0} f t no back w w5/\Yi R L w w5/\Wl R n Yl w5/\h.In U M R (fun x=>Q x/\x≠w.heap.size+1+1+1+1+1+1) w5/\(h.val=(Xd (Yq (Ys t.ty) t.ty ⟨4,no,back⟩) v.cv).2/\(v.ok->h.ok/\h.tyo=t.ty))):=⟨r.out.1.kept h5 lr,r.out.2.1.trans h5,aj,aa,a5⟩;have au:∀(a:Zm)(m:ZB)(W:Zd),(Zu a h.fn m).run N W=Zp N W a h.fn m:=(fun a m W=>Yw aa.one);clear q h5 aj aa a5;have q:=HG.out.1;obtain⟨_,q0,_,_,_,_,_,⟨r0,r1,r2,r3,y0,y1,y2,y3⟩,_⟩:=HG.out.1)
    |fail)
  clear q;go_wp2_with fail;obtain⟨g1,g2,g3,g4,g5⟩:=HG.out;have ad:=Ui (m:=U) (M:=M) (Q:=Q) (h:=h) g1.r (by omega) lr g2 g3 g4 (fun x hx=>hx);obtain⟨⟨e0,e1,e2,e3⟩,hk,hW,hi⟩:=ad;refine Ze (v:=h.ag) ?_ rfl ⟨hk,.inr ⟨by rw[HC.out,if_neg (fun e=>e z.out)],hW,h,rfl,hi,by rw[HC.out,if_neg (fun e=>e z.out),g5.1],fun ho _=>g5.2 ho⟩⟩;simp[results,results97,go_sem,Th.ag,e0,e1,e2,e3]
 .have k7:(v.tag != t.k)=U:=by simpa using d
  have z:=Yx d;clear d;go_enter func97,ntmps97;go_upto_region 1 with fail;unfold T4 at i;rw[<-i];clear i;go_upto_region 11 with(go_at_call 39;refine(HS.out _ (Zb _ _)).mono ?_;rintro e w2 ⟨rfl,j⟩;have g:Zi (LB R v f t no back w w2/\bL w w2/\Yi R L W1 w2):=⟨HB.out.1.below j,HB.out.2.trans (j.mono HB.out.2.size),Yi.of_below j⟩;clear j v0 v1 v2 v3 f0 f1 t0 t1 n0 b0 r0 r1 r2 r3 y0 y1 y2 y3 q0 c0 c1 c2 c3 z0 z1 z2 z3;obtain⟨am,q0,⟨v0,v1,v2,v3⟩,⟨f0,f1⟩,⟨t0,t1⟩,n0,b0,⟨r0,r1,r2,r3,y0,y1,y2,y3⟩,zz⟩:=g.out.1;have z3:=zz 3;clear zz;simp only[Zh] at v1 v2 v3 f1 t1)
  have a6:=HV.out.1.below g.out.2.1;go_wp2_with (go_at_call 96;refine(Oj R n ⟨4,no,back⟩ _ a6).mono ?_;rintro e w3 ⟨rfl,y,h3⟩;simp only[X0];have r:Zi (LB R v f t no back w w3/\Wl R n ⟨4,no,back⟩ w3/\Yi R L w w3):=⟨g.out.1.kept h3 lr,y,(Yi.of_below g.out.2.1).trans h3⟩;clear y h3 v0 v1 v2 v3 f0 f1 t0 t1 n0 b0 r0 r1 r2 r3 y0 y1 y2 y3 q0 z3 a6;obtain⟨_,q0,_,_,_,_,_,⟨r0,r1,r2,r3,y0,y1,y2,y3⟩,_⟩:=r.out.1)
  obtain⟨⟨e0,e1,e2,e3⟩,hk⟩:=r.out.1.r.set (I J 0) (I J 0) .nilFunc (I J 0);refine Ze (v:=X0) ?_ rfl ⟨r.out.2.2.new hk (by omega),.inl ⟨?_,rfl,?_⟩⟩
  .simp[results,results97,go_sem,X0,e0,e1,e2,e3]
  .rw[HC.out,if_pos z.out];show (4:Int)≠0;decide
  .rw[HC.out,if_pos z.out];exact r.out.2.1.same hk (by omega)
theorem LM(M R n:Nat)(Q:Nat->Prop)(v:Th)(f t:Tr)(h:Int)(a:Bool)(w:Zd)(r:v.In U M R Q w)(j:f.In w)(o:t.In w)(c:Ym 46 f.ty=U)(g:Ym 46 t.ty=U)(d:YC Yk f.ty t.ty=U)(e:Ur v.val f.ty)(x:f.Bl Q)(u:t.Bl Q)(i:Wl R n Yl w)(p:¬Q R)(k:∀b,w.heap.size<=b->Q b):
  Zj N 97 #[O (T ⟨R,0,L⟩),Zg #[I J v.k,I J v.n,v.fn,I J v.tag],Zg #[I J f.k,Za f.a f.l.length f.c],Zg #[I J t.k,Za t.a t.l.length t.c],I J h,.bool a] w (Lf M R n Q w (Xd (Yq f.ty t.ty ⟨4,h,a⟩) v.val) (Wu v f t)):=by
 obtain⟨_,l,q⟩:=YR (n:=46) (t:=f) (by omega) (by rw[YM];exact c);by_cases hk:f.k=t.k
 .exact OE M R n Q v f t h a w r j o hk c g d e x u l q i p k
 by_cases h0:t.k=0
 .exact AP M R n Q v f t h a w r j o (by omega) h0 c g e x l q i p k
 by_cases h1:f.k=0
 .exact Am M R n Q v f t h a w r j o h1 h0 c g e u l q i p k
 have:=LT d (by rw[f.ty_k];exact h1) (by rw[t.ty_k];exact h0);rw[f.ty_k,t.ty_k] at this;exact absurd this hk
theorem LS{t:Tr}{w:Zd}(ht:t.In w)(hg:Ym 46 t.ty=U)(hk:t.k=3):∃(t0 t1:Tr)(b o:Nat),t.l=[t0,t1]/\t.a=T ⟨b,o,L⟩/\t.l.length=2/\w.cell? ⟨b,o,L⟩=T (I J t0.k)/\w.cell? ⟨b,o+1,L⟩=T (Za t0.a t0.l.length t0.c)/\w.cell? ⟨b,o+2,L⟩=T (I J t1.k)/\w.cell? ⟨b,o+3,L⟩=T (Za t1.a t1.l.length t1.c)/\t0.In w/\t1.In w/\t.ty=YN t0.ty t1.ty/\Ym 45 t0.ty=U/\Ym 45 t1.ty=U/\(∀Q:Nat->Prop,t.Bl Q->Q b/\t0.Bl Q/\t1.Bl Q):=by
 obtain⟨k,a,c,l⟩:=t;simp only at hk;subst hk;rw[Tr.ty_mk] at hg;obtain⟨x,y,e,p,j⟩:∃x y,(Ty.mk 3 (l.map Tr.ty))=⟨3,[x,y]⟩/\Ym 45 x=U/\Ym 45 y=U:=by
  rcases Yy hg with⟨k,e,hk⟩|⟨x,y,e,p,j⟩
  .have:=congrArg Ty.k e;simp only at this;omega
  .exact⟨x,y,e,p,j⟩
 match l,e,ht with
 |[],e,_=>simp at e
 |[_],e,_=>simp at e
 |_::_::_::_,e,_=>simp at e
 |[t0,t1],e,ht=>
  simp only[List.map_cons,List.map_nil,Ty.mk.injEq,List.cons.injEq,and_true,true_and] at e;obtain⟨rfl,rfl⟩:=e;obtain⟨b,o,i,z,c1,h⟩:=ht.part 0 (by simp);obtain⟨b',o',d,q,u,g⟩:=ht.part 1 (by simp);simp only[List.getElem_cons_zero,List.getElem_cons_succ,Nat.zero_mul,Nat.add_zero,Nat.one_mul] at z c1 q u h g i d;rw[i] at d;obtain⟨rfl,rfl⟩:b=b'/\o=o':=by simpa using d
  refine⟨t0,t1,b,o,rfl,i,rfl,z,c1,q,u,h,g,by rw[Tr.ty_mk];rfl,p,j,fun Q hQ=>?_⟩;obtain⟨h1,r⟩:=Tr.Bl_mk.1 hQ;exact⟨h1 (by simp) _ i,r t0 (by simp),r t1 (by simp)⟩
structure PB(X:Th)(w W:Zd):Prop where
 x4:Ph W w.heap.size 0 X
 r:Rb W (w.heap.size+1)
theorem Mx(X:Th)(w:Zd):PB X w ((w.alloc (Zf #[I J X.k,I J X.n,X.fn,I J X.tag] 103)).alloc (Zf #[I J 0,I J 0,.nilFunc,I J 0] 103)):=by
 refine⟨⟨?_,?_,?_,?_⟩,⟨?_,?_,?_,?_,?_,?_,?_,?_⟩⟩
 all_goals simp[go_sem]
theorem Ql(X:Th)(w:Zd):Below w.heap.size w ((w.alloc (Zf #[I J X.k,I J X.n,X.fn,I J X.tag] 103)).alloc (Zf #[I J 0,I J 0,.nilFunc,I J 0] 103)):=((Zb _ _).alloc (Zc _) _).alloc (by simp) _
theorem PB.kept{X:Th}(h:PB X w W)(hk:Yi R L W V)(lr:R<w.heap.size):PB X w V:=⟨h.x4.same (Q:=fun b=>b≠R) (fun b hb hq=>hk.block b hb hq (by simp)) (by omega),h.r.kept hk (by omega)⟩
theorem PB.below{X:Th}(h:PB X w W)(hb:Below W.heap.size W V):PB X w V:=⟨h.x4.same (Q:=fun _=>True) (XJ.of_below hb) trivial,h.r.below hb⟩
def QE(m:Bool)(F:Nat)(f g:YK)(B:Ty)(c:Nat)(r:Xy)(V:YK)(c':Nat):Prop:=(m=U/\Vj F f g B c r V c'/\(r.k=0->Ur V B))\/(m=Zt/\QF F f g c r V c')
theorem Mj{h:Th}(a:h.wy=1):h.cv=ME (h.x.tm.at 0) (h.env.map Th.val):=by rw[Th.cv_eq,if_pos a]
theorem Tu{m:Bool}{F:Nat}{f g:YK}{B:Ty}{c:Nat}{r:Xy}{V:YK}{c':Nat}(h3:f.k=3)(h:QF F f g c r V c')(ht:m=U->r.k=0->Ur V B):QE m F f g B c r V c':=by
 cases m with
 |true=>exact .inl ⟨rfl,.inl ⟨h3,h,ht rfl⟩,ht rfl⟩
 |false=>exact .inr ⟨rfl,h⟩
theorem Bm(m:Bool)(M R F c:Nat)(Q:Nat->Prop)(h X:Th)(B:Ty)(w:Zd)(x:BK m M R Q w h)(hX:X.In m M R Q w)(u:Wl R (F-c) Yl w)(hc:c=F)(hQ:¬Q R)(j:h.wy=1):
  Zj N 95 #[Zg #[I J X.k,I J X.n,X.fn,I J X.tag],O (T ⟨h.b1,0,L⟩),O (T ⟨h.b2,0,L⟩),O (T ⟨h.b3,0,L⟩)] w (Xi m M R F c Q w B (fun r V c'=>QE m F h.cv X.val B c r V c')):=by
 have y:=u.lt;obtain⟨W1,b⟩:∃W,W=(w.alloc (Zf X.v 103)).alloc (Zf #[I J 0,I J 0,.nilFunc,I J 0] 103):=⟨_,rfl⟩
 have hB:PB X w W1:=by rw[b];exact Mx X w
 have g:bL w W1:=by rw[b];exact Ql X w
 have d:=hX.one;have a1:∀(a:Zm)(m:ZB)(W:Zd),(Zu a X.fn m).run N W=Zp N W a X.fn m:=fun a m W=>Yw d;have a0:h.b1≠R:=fun e=>hQ (e▸x.b1);have k:Wl R 0 Yl W1:=by have:=u.below g;rwa [show F-c=0 by omega] at this
 have p:=KS hB g k;have q1:=Zr g x.w1;have z:Zi (QE m F h.cv X.val B c MF (XF 0) c/\c<=F/\F-c=0):=by refine⟨Tu ?_ (Co ?_ hc) (fun _ h0=>by cases h0),by omega,by omega⟩<;>rw[Mj j]<;>rfl
 obtain⟨q,_,_,_,_,_,_,_⟩:=k;replace q:cL W1 R 0 (I J 0):=q;clear x hX u hc hQ j d hB;go_enter func95,ntmps95;go_upto_region 1 with fail;rw[<-b];clear b;go_wp2_with (go_at_call 96;refine(Oj R 0 MF _ p.out.2.2).mono ?_;rintro e w2 ⟨rfl,i,o⟩;simp only[X0];have l:Zi (Wl R 0 MF w2/\Yi R L W1 w2/\Rb w2 (w.heap.size+1)):=⟨i,o,(p.out.1.kept o y).r⟩;clear i o q1 q;obtain⟨r0,r1,r2,r3,y0,y1,y2,y3⟩:=l.out.2.2)
 obtain⟨⟨e0,e1,e2,e3⟩,hk⟩:=l.out.2.2.set (I J 0) (I J 0) .nilFunc (I J 0);refine Ze (v:=X0) ?_ rfl ⟨((Yi.of_below p.out.2.1).trans l.out.2.1).new hk (by omega),MF,XF 0,c,z.out.1,Zc _,z.out.2.1,?_,.inl ⟨by decide,rfl⟩⟩
 .simp[results,Zq,go_sem,X0,e0,e1,e2,e3]
 .rw[z.out.2.2];exact l.out.1.same hk (by omega)
theorem Tryz.info103s:(N.info? 103).map (fun i=>(i.zero,i.size,i.bytes))=T (T (Zg #[I J 0,I J 0,.nilFunc,I J 0]),4,32):=by kernel_rfl
def Ud:List Th->List ZF
 |[]=>[]
 |h::r=>I J h.k::I J h.n::h.fn::I J h.tag::Ud r
theorem Kp:∀l:List Th,(Ud l).length=l.length*4
 |[]=>rfl
 |h::r=>by simp only[Ud,List.length_cons,Kp r];omega
theorem ON:∀(l:List Th)(u:ZF),(∀h,h∈l->h.fn.oneCell'=U)->u∈Ud l->u.oneCell'=U
 |[],u,_,h=>by simp[Ud] at h
 |x::r,u,ho,h=>by
  simp only[Ud,List.mem_cons] at h;rcases h with rfl|rfl|rfl|rfl|h
  .simp[ZC]
  .simp[ZC]
  .exact ho x (by simp)
  .simp[ZC]
  .exact ON r u (fun y hy=>ho y (by simp[hy])) h
theorem Na:∀(l:List Th)(j:Nat)(h:j<l.length),(Ud l)[j*4]?=T (I J l[j].k)/\(Ud l)[j*4+1]?=T (I J l[j].n)/\(Ud l)[j*4+2]?=T l[j].fn/\(Ud l)[j*4+3]?=T (I J l[j].tag)
 |[],j,h=>by simp at h
 |t::r,0,_=>by simp[Ud]
 |t::r,j+1,h=>by
  have ih:=Na r j (by simpa using h);have e:(j+1)*4=j*4+1+1+1+1:=by omega
  rw[e];simpa[Ud] using ih
theorem OY.news{m:Bool}{M:Nat}{Q:Nat->Prop}{b o:Nat}{E:List Th}(h:OY m M R Q w (T ⟨b,o,L⟩) E)(j:Nat)(u:ZF)(d:(Ud E)[j]?=T u):w.cell? ((⟨b,o,L⟩:Zm).add j)=T u:=by
 have y:j<E.length*4:=by have:=(List.getElem?_eq_some_iff.1 d).1;rwa [Kp] at this
 obtain⟨z,o',e,_,x,r,g,p⟩:=h.at4 (j / 4) (by omega);cases e
 obtain⟨i,q,k,l⟩:=Na E (j / 4) (by omega);have c:(⟨b,o,L⟩:Zm).add j=⟨b,o+j,L⟩:=by
  unfold Addr.add;split
  .rename_i h;simp_all
  .rfl
 rw[c];have a:j=j / 4*4\/j=j / 4*4+1\/j=j / 4*4+2\/j=j / 4*4+3:=by omega
 rcases a with a|a|a|a
 .rw[<-a] at i x;rw[d] at i;rw[Zl i];exact x
 .rw[ZD] at r;rw[<-a] at q r;rw[d] at q;rw[Zl q];exact r
 .rw[ZD] at g;rw[<-a] at k g;rw[d] at k;rw[Zl k];exact g
 .rw[ZD] at p;rw[<-a] at l p;rw[d] at l;rw[Zl l];exact p
theorem OK{m:Bool}{M:Nat}{Q:Nat->Prop}{base g cap n:Nat}{E:List Th}(h:w.ownsRow base 103 4 (Za (T ⟨g,0,L⟩) n cap) n (Ud E))(o:n=E.length)(l:Q g)(a:∀e,e∈E->e.In m M R Q w):OY m M R Q w (T ⟨g,0,L⟩) E:=by
 refine⟨fun j i=>⟨g,0,rfl,l,?_⟩,a⟩;obtain⟨b,k,c,d⟩:=Na E j i;refine⟨?_,?_,?_,?_⟩
 .rw[Zh,h.cellAt (j*4) (by omega)];exact b
 .rw[Zh,h.cellAt (j*4+1) (by omega)];exact k
 .rw[Zh,h.cellAt (j*4+2) (by omega)];exact c
 .rw[Zh,h.cellAt (j*4+3) (by omega)];exact d
theorem CV(m:Bool)(M R F c k:Nat)(Q:Nat->Prop)(h X:Th)(y:TT)(B:Ty)(w:Zd)(hp:BK m M R Q w h)(he:∀e,e∈h.env->e.In m M R Q w)(hX:X.In m M R Q w)(hw:Wl R (F-c) Yl w)(hk:F-c=k+1)(hF:F<=1000)(hM:M<=10000)(hQ:¬Q R)(nw:∀b,w.heap.size<=b->Q b)(b6:h.wy=1)(hy:h.x.l=[y])
  (ih:Zi (∀(Q':Nat->Prop)(ea:Option Zm)(ec:Nat)(W:Zd),y.In W->y.Bl Q'->OY m M R Q' W ea (X::h.env)->Wl R (F-(c+1)) Yl W->¬Q' R->(∀b,W.heap.size<=b->Q' b)->Zj N 59 #[O (T ⟨R,0,L⟩),Zg #[I J y.k,I J y.n,I J y.t.k,Za y.t.a y.t.l.length y.t.c,I J y.f.k,Za y.f.a y.f.l.length y.f.c,Za y.a y.l.length y.c],Za ea (h.env.length+1) ec] W (Xi m M R F (c+1) Q' W B (fun r V c'=>Kh F y.tm (X.val::h.env.map Th.val) (c+1) r V c'/\(m=U->r.k=0->Ur V B))))) :
  Zj N 95 #[Zg #[I J X.k,I J X.n,X.fn,I J X.tag],O (T ⟨h.b1,0,L⟩),O (T ⟨h.b2,0,L⟩),O (T ⟨h.b3,0,L⟩)] w (Xi m M R F c Q w B (fun r V c'=>QE m F h.cv X.val B c r V c')):=by
 have ai:=hw.lt;obtain⟨W1,am⟩:∃W,W=(w.alloc (Zf X.v 103)).alloc (Zf #[I J 0,I J 0,.nilFunc,I J 0] 103):=⟨_,rfl⟩
 have hB:PB X w W1:=by rw[am];exact Mx X w
 have b1:bL w W1:=by rw[am];exact Ql X w
 have c2:W1.heap.size=w.heap.size+1+1:=by rw[am];simp
 have a2:=hX.one;have bz:∀(a:Zm)(m:ZB)(W:Zd),(Zu a X.fn m).run N W=Zp N W a X.fn m:=fun a m W=>Yw a2;have ax:h.b1≠R:=fun e=>hQ (e▸hp.b1);have ba:Wl R (k+1) Yl W1:=hk▸hw.below b1;have HB:=KS hB b1 ba;have q1:=Zr b1 hp.w1;obtain⟨c0,_,_,_,z0,_,_,_⟩:=ba;have k0:((k+1:Nat):Int)≠0:=by omega
 have k1:(((k+1:Nat):Int)==0)=Zt:=by simpa using k0
 obtain⟨kk,az⟩:∃kk:Int,kk=((k+1:Nat):Int):=⟨_,rfl⟩
 rw[<-az] at c0 k1;have bi:=Yx az;have bh:0<=kk:=by omega
 have bp:kk<=1000:=by omega
 have g:=Du hp he hX hQ nw hy hk hF hM b6;clear hp he hX hw hQ nw b6 a2 hB hy hk hF hM k0 az;go_enter func95,ntmps95;go_upto_region 1 with fail;rw[<-am];clear am;go_upto_region 4 with fail;have ay:Wl R k Yl (W1.setCell ⟨R,0,L⟩ (I J (kk-1))):=by have:=HB.out.2.2.spend;rw[bi.out];rw[show (((k+1:Nat):Int)-1)=(k:Int) by omega];exact this
 have a3:Yi R L W1 (W1.setCell ⟨R,0,L⟩ (I J (kk-1))):=Yj;obtain⟨p,b3⟩:∃V,V=W1.setCell ⟨R,0,L⟩ (I J (kk-1)):=⟨_,rfl⟩
 rw[<-b3] at ay a3;rw[<-b3];clear b3 c0 z0 q1 k1 bh bp;have c1:p.heap.size=w.heap.size+1+1\/w.heap.size+1+1<=p.heap.size:=by have:=a3.size;omega
 obtain⟨bx,ox,b7,a5,af⟩:=g.out.1.xi.part 0 (by rw[g.out.2.2.2.2.2.1];simp);have bk:h.x.l[0]'(by rw[g.out.2.2.2.2.2.1];simp)=y:=by simp[g.out.2.2.2.2.2.1]
 rw[bk] at a5 af;simp only[Nat.zero_mul,Nat.add_zero] at a5;have bm:h.x.l.length=1:=by rw[g.out.2.2.2.2.2.1];rfl
 have a8:Q bx:=g.out.1.xb.own (by rw[g.out.2.2.2.2.2.1];simp) _ b7;have ac:∀W,Yi R L p W->XJ Q w W:=fun W hk b hb hq=>by have bh:=HB.out.2.1.size;have ax:b≠R:=fun e=>g.out.2.2.2.1 (e▸hq);have hs:=a3.size;rw[hk.block b (by omega) ax (by simp),a3.block b (by omega) ax (by simp)];exact HB.out.2.1.block b hb
 have HK:Zi (∀W,SK R (w.heap.size+1) p W->cL W h.b1 0 (O (T ⟨R,0,L⟩))/\cL W h.b2 6 (Za (T ⟨bx,ox,L⟩) 1 h.x.c)/\cL W bx ox (I J y.k)/\cL W bx (ox+1) (I J y.n)/\cL W bx (ox+2) (I J y.t.k)/\cL W bx (ox+3) (y.t.s)/\cL W bx (ox+4) (I J y.f.k)/\cL W bx (ox+5) (y.f.s)/\cL W bx (ox+6) (y.s)/\cL W w.heap.size 0 (I J X.k)/\cL W w.heap.size 1 (I J X.n)/\cL W w.heap.size 2 X.fn/\cL W w.heap.size 3 (I J X.tag)/\cL W h.b3 0 (Za h.ea h.env.length h.ec)):=fun W hk=>by have hp:=g.out.1;have a4:∀b i u,cL w b i u->Q b->cL W b i u:=fun b i u e hb=>hk b i u ((ac p Yi.refl).cell e hb) (fun e=>g.out.2.2.2.1 (e▸hb)) (by have:b<w.heap.size:=Zk _ _ e;omega);have b8:=hp.x7.c6;rw[b7,bm] at b8;have au:=(HB.out.1.kept a3 ai).x4;exact⟨a4 _ _ _ hp.w1 hp.b1,a4 _ _ _ b8 hp.b2,a4 _ _ _ a5.c0 a8,a4 _ _ _ a5.c1 a8,a4 _ _ _ a5.c2 a8,a4 _ _ _ a5.c3 a8,a4 _ _ _ a5.c4 a8,a4 _ _ _ a5.c5 a8,a4 _ _ _ a5.c6 a8,hk _ _ _ au.c0 (by omega) (by omega),hk _ _ _ au.c1 (by omega) (by omega),hk _ _ _ au.c2 (by omega) (by omega),hk _ _ _ au.c3 (by omega) (by omega),a4 _ _ _ hp.e3 hp.b3⟩
 have i0:(0:Int)<((1:Nat):Int):=by omega
 have bo:Yi R L p p.drew:=Yi.of_below ((Zb _ _).drew);refine Zs (S:=fun W=>cL W h.b1 0 (O (T ⟨R,0,L⟩))/\cL W h.b2 6 (Za (T ⟨bx,ox,L⟩) 1 h.x.c)/\cL W bx ox (I J y.k)/\cL W bx (ox+1) (I J y.n)/\cL W bx (ox+2) (I J y.t.k)/\cL W bx (ox+3) (y.t.s)/\cL W bx (ox+4) (I J y.f.k)/\cL W bx (ox+5) (y.f.s)/\cL W bx (ox+6) (y.s)/\cL W w.heap.size 0 (I J X.k)/\cL W w.heap.size 1 (I J X.n)/\cL W w.heap.size 2 X.fn/\cL W w.heap.size 3 (I J X.tag)/\cL W h.b3 0 (Za h.ea h.env.length h.ec)) (by kernel_rfl) (HK.out _ ((SK.refl _ _ _).kept bo)) (fun d=>?_);refine qk 0 (v:=?_) rfl (by kernel_rfl) (fun _ _ _ h=>h) (by rfl) d ?_ ?_;rotate_left;(focus (intro w' h;go_split_ands;go_simp;try with_reducible rfl));simp only[P,C,D,H];refine qk 1 (v:=?_) rfl (by kernel_rfl) (fun _ _ _ h=>h) (by rfl) d ?_ ?_;rotate_left;(focus (intro w' h;go_split_ands;go_simp;try with_reducible rfl));simp only[P,C,D,H];refine qk 2 (v:=?_) rfl (by kernel_rfl) (fun _ _ _ h=>h) (by rfl) d ?_ ?_;rotate_left;(focus (intro w' h;go_split_ands;go_simp;try with_reducible rfl));simp only[P,C,D,H];refine qk 3 (v:=?_) rfl (by kernel_rfl) (fun _ _ _ h=>h) (by rfl) d ?_ ?_;rotate_left;(focus (intro w' h;go_split_ands;go_simp;try with_reducible rfl));simp only[P,C,D,H];refine qk 4 (v:=?_) rfl (by kernel_rfl) (fun _ _ _ h=>h) (by rfl) d ?_ ?_;rotate_left;(focus (intro w' h;go_split_ands;go_simp;try with_reducible rfl));simp only[P,C,D,H];refine qk 5 (v:=?_) rfl (by kernel_rfl) (fun _ _ _ h=>h) (by rfl) d ?_ ?_;rotate_left;(focus (intro w' h;go_split_ands;go_simp;try with_reducible rfl));simp only[P,C,D,H];refine qk 7 (v:=?_) rfl (by kernel_rfl) (fun _ _ _ h=>h) (by rfl) d ?_ ?_;rotate_left;(focus (intro w' h;go_split_ands;go_simp;try with_reducible rfl));simp only[P,C,D,H];refine YS (i:=6) rfl (by kernel_rfl) (fun K hK=>?_);go_simp;have av:bL p (p.alloc (Zf X.v 103)).drew:=((Zb _ _).alloc (Zc _) _).drew;have ap:(p.alloc (Zf X.v 103)).drew.ownsRow p.heap.size 103 4 (Za (T ⟨p.heap.size,0,L⟩) 1 1) 1 (Ud [X]):=by have:=World.ownsRow_lit (base:=p.heap.size) (e:=103) (size:=4) p X.v 1 (by simp) (by unfold maxLen;omega) (by simp);exact YP (by simpa[Ud] using this) ((Zb _ _).drew)
 have b5:(p.alloc (Zf X.v 103)).drew.heap.size=p.heap.size+1:=by simp
 obtain⟨V1,b4⟩:∃V,V=(p.alloc (Zf X.v 103)).drew:=⟨_,rfl⟩
 rw[<-b4] at av ap b5;rw[<-b4];clear b4;have ad:Yi R L p V1:=Yi.of_below av;have bt:=ay.below av;refine hK.out _ _ (HK.out _ ((SK.refl _ _ _).kept ad)) (fun d=>?_);clear hK K;(try simp only[P,C,D,H])
 have ar:y.Bl Q:=g.out.1.xb.mem (by rw[g.out.2.2.2.2.2.1];simp);have bu:w.heap.size+1+1<=p.heap.size:=by have:=a3.size;omega
 have aw:∀W,Yi R L p W->∀e,e∈X::h.env->e.In m M R (fun x=>Q x/\x≠w.heap.size+1) W:=fun W hk e he=>by
  have h1:e.In m M R Q w:=by
   rcases List.mem_cons.1 he with rfl|he
   .exact g.out.2.2.1
   .exact g.out.2.1 e he
  exact(h1.mono (Q':=(fun x=>Q x/\x≠w.heap.size+1)) fun x h1 h2=>⟨h2,by omega⟩).same fun b h1 h2=>ac W hk b h1 h2.1
 obtain⟨j0,bc,bn,br,bq⟩:=info_parts Tryz.info103s;have bj:(fun x=>Q x/\x≠w.heap.size+1) p.heap.size:=⟨g.out.2.2.2.2.1 _ (by omega),by omega⟩
 by_cases h0:h.env.length=0
 .have he0:=List.eq_nil_of_length_eq_zero h0;have ae:Zi (OY m M R (fun x=>Q x/\x≠w.heap.size+1) V1 (T ⟨p.heap.size,0,L⟩) (X::h.env)):=OK (n:=1) (by rw[he0];exact ap) (by rw[he0];rfl) bj (aw V1 ad);refine YS (i:=8) rfl (by kernel_rfl) (fun K hK=>?_);refine Kw (by rfl) _ _ _ (by rfl) 103 j0 ZE bc p.heap.size 1 1 (by rfl) h.ea h.ec (by show Value.slice h.ea h.env.length h.ec=_;rw[h0]) (by omega) ?_;refine hK.out _ _ (HK.out _ ((SK.refl _ _ _).kept ad)) (fun d=>?_);clear hK K;(try simp only[P,C,D,H])
  have ab:=ad;have b2:=bt;have HI:Zi (Zj N 59 #[O (T ⟨R,0,L⟩),Zg y.v,Za (T ⟨p.heap.size,0,L⟩) 1 1] V1 (Xi m M R F (c+1) (fun x=>Q x/\x≠w.heap.size+1) V1 B (fun r V c'=>Kh F y.tm (X.val::h.env.map Th.val) (c+1) r V c'/\(m=U->r.k=0->Ur V B)))):=by have h1:=ih.out (fun x=>Q x/\x≠w.heap.size+1) (T ⟨p.heap.size,0,L⟩) 1 V1 (af.same (ac V1 ab) ar) ((ar.and af.bl).mono fun b hb=>⟨hb.1,by omega⟩) ae.out ((show F-(c+1)=k by have:=g.out.2.2.2.2.2.2.1;omega)▸b2) (fun hx=>g.out.2.2.2.1 hx.1) (fun b hb=>⟨g.out.2.2.2.2.1 b (by omega),by omega⟩);rw[h0] at h1;exact h1
  refine YS (i:=9) rfl (by kernel_rfl) (fun K hK=>?_);go_simp;refine HI.out.mono ?_;rintro e w5 ⟨an,r,V,c',⟨hS,aq⟩,bs,ak,al,aa⟩;have HD:Zi (QE m F h.cv X.val B c r V c'):=by
   refine Tu (by rw[Mj g.out.2.2.2.2.2.2.2.2.2];rfl) (Sf (by rw[Mj g.out.2.2.2.2.2.2.2.2.2];rfl) (by have:=g.out.2.2.2.2.2.2.1;omega) ?_) aq;rw[Mj g.out.2.2.2.2.2.2.2.2.2];have e:h.x.tm.at 0=y.tm:=by rw[Tm.at,TT.tm_l,g.out.2.2.2.2.2.1];rfl
   show Kh F (h.x.tm.at 0) (X.val::h.env.map Th.val) (c+1) r V c'
   rw[e];exact hS
  have a7:=ab.trans an;have HF:=KS a7 al ((HB.out.1.kept (a3.trans a7) ai).r);have a1:SK R (w.heap.size+1) p w5:=(SK.refl _ _ _).kept a7;obtain⟨r0,r1,r2,r3,y0,y1,y2,y3⟩:=HF.out.2.2;clear hS aq al an HI;rcases aa with⟨hr,rfl⟩|⟨rfl,z,rfl,a9,b0⟩
  .simp only[X0];refine hK.out _ _ (HK.out _ a1) (fun d=>?_);clear hK K;(try simp only[P,C,D,H])
   refine YS (i:=10) rfl (by kernel_rfl) (fun K hK=>?_);go_simp;refine hK.out _ _ (HK.out _ ((((a1.set _ _).set _ _).set _ _).set _ _)) (fun d=>?_);clear hK K;(try simp only[P,C,D,H])
   refine Zn (by kernel_rfl) ?_ _;clear d;go_wp2_with fail;obtain⟨⟨e0,e1,e2,e3⟩,hk⟩:=HF.out.2.2.set (I J 0) (I J 0) .nilFunc (I J 0);refine Ze (v:=X0) ?_ rfl ⟨(((Yi.of_below HB.out.2.1).trans a3).trans HF.out.1).new hk (by omega),r,V,c',HD.out,by omega,ak,HF.out.2.1.same hk (by omega),.inl ⟨hr,rfl⟩⟩;simp[results,Zq,go_sem,X0,e0,e1,e2,e3]
  .have a2:=a9.one;have be:∀(a:Zm)(m:ZB)(W:Zd),(Zu a z.fn m).run N W=Zp N W a z.fn m:=fun a m W=>Yw a2;have a6:=Ui (Q:=Q) (h:=z) HF.out.2.2 (by omega) ai (((Yi.of_below HB.out.2.1).trans a3).trans HF.out.1) HF.out.2.1 a9 (fun x hx=>hx);have HE:Zi _:=a6;clear a6 a9 a2;simp only[Th.ag];refine hK.out _ _ (HK.out _ a1) (fun d=>?_);clear hK K;(try simp only[P,C,D,H])
   refine YS (i:=10) rfl (by kernel_rfl) (fun K hK=>?_);go_simp;refine hK.out _ _ (HK.out _ ((((a1.set _ _).set _ _).set _ _).set _ _)) (fun d=>?_);clear hK K;(try simp only[P,C,D,H])
   refine Zn (by kernel_rfl) ?_ _;clear d;go_wp2_with fail;obtain⟨⟨e0,e1,e2,e3⟩,hk,hW,hi⟩:=HE.out;refine Ze (v:=z.ag) ?_ rfl ⟨hk,Yl,V,c',HD.out,by omega,ak,hW,.inr ⟨rfl,z,rfl,hi,b0⟩⟩;simp[results,Zq,go_sem,Th.ag,e0,e1,e2,e3]
 .have hEV:OY m M R Q V1 h.ea h.env:=⟨fun j l=>by obtain⟨b,o,e,hb,h4⟩:=g.out.1.env j l;exact⟨b,o,e,hb,h4.same (ac V1 ad) hb⟩,fun e he=>(g.out.2.1 e he).same (ac V1 ad)⟩
  obtain⟨bb,oo,b9,_,_⟩:=hEV.at4 0 (by omega);have ah:=fun j u hj=>(b9▸hEV).news j u hj;have c4:h.env.length<=10000:=by have:=g.out.1.sz;have:=g.out.2.2.2.2.2.2.2.2.1;omega
  have ao:∀u,u∈Ud h.env->u.oneCell'=U:=fun u hu=>ON _ u (fun e he=>(g.out.2.1 e he).one) hu;refine YS (i:=8) rfl (by kernel_rfl) (fun K hK=>?_);refine step_append_lies _ (by rfl) _ _ _ (by rfl) p.heap.size 103 j0 _ 4 32 ZE bc bn br bq rfl (by omega) (Za (T ⟨p.heap.size,0,L⟩) 1 1) 1 (Ud [X]) (by rfl) ap ⟨bb,oo,L⟩ h.env.length h.ec (Ud h.env) (by show Value.slice h.ea h.env.length h.ec=_;rw[b9]) (Kp _) ah ao (by omega) (by unfold maxLen;omega) (by omega) (by omega) (p.heap.size+1) b5 ?_;intro gg cap1 w3 aj a0 bf bd;have c3:p.heap.size<=gg:=by
   rcases bf with h|h
   .simp[Value.ownBlock] at h;omega
   .omega
  have bv:=a0.size;have bg:bL p w3:=av.trans ⟨a0.os,a0.tape,a0.output,a0.size,fun q hq=>a0.block q (by omega) (by simp[Value.ownBlock];omega)⟩;have ab:Yi R L p w3:=Yi.of_below bg;have b2:=ay.below bg;have ae:Zi (OY m M R (fun x=>Q x/\x≠w.heap.size+1) w3 (T ⟨gg,0,L⟩) (X::h.env)):=OK (n:=1+h.env.length) (by simpa[Ud] using aj) (by simp;omega) ⟨g.out.2.2.2.2.1 _ (by omega),by omega⟩ (aw w3 ab);refine hK.out _ _ (HK.out _ ((SK.refl _ _ _).kept ab)) (fun d=>?_);clear hK K aj a0 bf bd ah ao hEV;(try simp only[P,C,D,H])
  have HI:Zi (Zj N 59 #[O (T ⟨R,0,L⟩),Zg y.v,Za (T ⟨gg,0,L⟩) (1+h.env.length) cap1] w3 (Xi m M R F (c+1) (fun x=>Q x/\x≠w.heap.size+1) w3 B (fun r V c'=>Kh F y.tm (X.val::h.env.map Th.val) (c+1) r V c'/\(m=U->r.k=0->Ur V B)))):=by have h1:=ih.out (fun x=>Q x/\x≠w.heap.size+1) (T ⟨gg,0,L⟩) cap1 w3 (af.same (ac w3 ab) ar) ((ar.and af.bl).mono fun b hb=>⟨hb.1,by omega⟩) ae.out ((show F-(c+1)=k by have:=g.out.2.2.2.2.2.2.1;omega)▸b2) (fun hx=>g.out.2.2.2.1 hx.1) (fun b hb=>⟨g.out.2.2.2.2.1 b (by omega),by omega⟩);rw[Nat.add_comm] at h1;exact h1
  refine YS (i:=9) rfl (by kernel_rfl) (fun K hK=>?_);go_simp;refine HI.out.mono ?_;rintro e w5 ⟨an,r,V,c',⟨hS,aq⟩,bs,ak,al,aa⟩;have HD:Zi (QE m F h.cv X.val B c r V c'):=by
   refine Tu (by rw[Mj g.out.2.2.2.2.2.2.2.2.2];rfl) (Sf (by rw[Mj g.out.2.2.2.2.2.2.2.2.2];rfl) (by have:=g.out.2.2.2.2.2.2.1;omega) ?_) aq;rw[Mj g.out.2.2.2.2.2.2.2.2.2];have e:h.x.tm.at 0=y.tm:=by rw[Tm.at,TT.tm_l,g.out.2.2.2.2.2.1];rfl
   show Kh F (h.x.tm.at 0) (X.val::h.env.map Th.val) (c+1) r V c'
   rw[e];exact hS
  have a7:=ab.trans an;have HF:=KS a7 al ((HB.out.1.kept (a3.trans a7) ai).r);have a1:SK R (w.heap.size+1) p w5:=(SK.refl _ _ _).kept a7;obtain⟨r0,r1,r2,r3,y0,y1,y2,y3⟩:=HF.out.2.2;clear hS aq al an HI;rcases aa with⟨hr,rfl⟩|⟨rfl,z,rfl,a9,b0⟩
  .simp only[X0];refine hK.out _ _ (HK.out _ a1) (fun d=>?_);clear hK K;(try simp only[P,C,D,H])
   refine YS (i:=10) rfl (by kernel_rfl) (fun K hK=>?_);go_simp;refine hK.out _ _ (HK.out _ ((((a1.set _ _).set _ _).set _ _).set _ _)) (fun d=>?_);clear hK K;(try simp only[P,C,D,H])
   refine Zn (by kernel_rfl) ?_ _;clear d;go_wp2_with fail;obtain⟨⟨e0,e1,e2,e3⟩,hk⟩:=HF.out.2.2.set (I J 0) (I J 0) .nilFunc (I J 0);refine Ze (v:=X0) ?_ rfl ⟨(((Yi.of_below HB.out.2.1).trans a3).trans HF.out.1).new hk (by omega),r,V,c',HD.out,by omega,ak,HF.out.2.1.same hk (by omega),.inl ⟨hr,rfl⟩⟩;simp[results,Zq,go_sem,X0,e0,e1,e2,e3]
  .have a2:=a9.one;have be:∀(a:Zm)(m:ZB)(W:Zd),(Zu a z.fn m).run N W=Zp N W a z.fn m:=fun a m W=>Yw a2;have a6:=Ui (Q:=Q) (h:=z) HF.out.2.2 (by omega) ai (((Yi.of_below HB.out.2.1).trans a3).trans HF.out.1) HF.out.2.1 a9 (fun x hx=>hx);have HE:Zi _:=a6;clear a6 a9 a2;simp only[Th.ag];refine hK.out _ _ (HK.out _ a1) (fun d=>?_);clear hK K;(try simp only[P,C,D,H])
   refine YS (i:=10) rfl (by kernel_rfl) (fun K hK=>?_);go_simp;refine hK.out _ _ (HK.out _ ((((a1.set _ _).set _ _).set _ _).set _ _)) (fun d=>?_);clear hK K;(try simp only[P,C,D,H])
   refine Zn (by kernel_rfl) ?_ _;clear d;go_wp2_with fail;obtain⟨⟨e0,e1,e2,e3⟩,hk,hW,hi⟩:=HE.out;refine Ze (v:=z.ag) ?_ rfl ⟨hk,Yl,V,c',HD.out,by omega,ak,hW,.inr ⟨rfl,z,rfl,hi,b0⟩⟩;simp[results,Zq,go_sem,Th.ag,e0,e1,e2,e3]
def XU(m:Bool)(F:Nat)(x:Tm)(E:List YK)(i:Ty)(c:Nat)(r:Xy)(V:YK)(c':Nat):Prop:=Kh F x E c r V c'/\(m=U->r.k=0->Ur V i)
structure EB(R:Nat)(x:TT)(ea:Option Zm)(n ec:Nat)(w W:Zd):Prop where
 w0:W.cell? ⟨w.heap.size,0,L⟩=T (O (T ⟨R,0,L⟩))
 x7:X4 W (w.heap.size+1) 0 x
 e0:W.cell? ⟨w.heap.size+1+1,0,L⟩=T (Za ea n ec)
 r:Rb W (w.heap.size+1+1+1)
def Pc(R:Nat)(x:TT)(ea:Option Zm)(n ec:Nat)(w:Zd):Zd:=(((w.alloc (Zf #[O (T ⟨R,0,L⟩)] 98)).alloc (Zf #[I J x.k,I J x.n,I J x.t.k,Za x.t.a x.t.l.length x.t.c,I J x.f.k,Za x.f.a x.f.l.length x.f.c,Za x.a x.l.length x.c] 27)).alloc (Zf #[Za ea n ec] 157)).alloc (Zf #[I J 0,I J 0,.nilFunc,I J 0] 103)
theorem J3(R:Nat)(x:TT)(b:Option Zm)(n a:Nat)(w:Zd):EB R x b n a w (Pc R x b n a w)/\Below w.heap.size w (Pc R x b n a w)/\(Pc R x b n a w).heap.size=w.heap.size+1+1+1+1:=by
 have c:bL w (Pc R x b n a w):=by unfold Pc;exact((((Zb _ _).alloc (Zc _) _).alloc (by simp) _).alloc (by simp;omega) _).alloc (by simp;omega) _
 refine⟨⟨?_,⟨?_,?_,?_,?_,?_,?_,?_⟩,?_,⟨?_,?_,?_,?_,?_,?_,?_,?_⟩⟩,c,?_⟩
 all_goals (unfold Pc;simp[go_sem])
theorem EB.kept{x:TT}{ea:Option Zm}{n ec:Nat}(h:EB R x ea n ec w W)(hk:Yi R L W V)(lr:R<w.heap.size):EB R x ea n ec w V:=⟨hk.cell h.w0 (by omega),h.x7.keptR hk (by omega),hk.cell h.e0 (by omega),h.r.kept hk (by omega)⟩
def Ub(k n:Int)(x:TT)(i:Ty):Th:=⟨k,n,.nilFunc,0,0,0,0,0,0,0,0,x,L,0,[],x.t,QP i,0,Zt,[]⟩
theorem RN(m:Bool)(M R F c:Nat)(Q:Nat->Prop)(x:TT)(E:List Th)(i:Ty)(ea:Option Zm)(y:Nat)(w:Zd)(g:x.k=2\/x.k=3)(hn:-1000000<=x.n/\x.n<=1000000)(k:m=U->∃G,L6 x.tm G i)(hc:c<=F)(hw:Wl R (F-c) Yl w):
  Zj N 59 #[O (T ⟨R,0,L⟩),Zg #[I J x.k,I J x.n,I J x.t.k,Za x.t.a x.t.l.length x.t.c,I J x.f.k,Za x.f.a x.f.l.length x.f.c,Za x.a x.l.length x.c],Za ea E.length y] w (Xi m M R F c Q w i (XU m F x.tm (E.map Th.val) i c)):=by
 have a0:=hw.lt;obtain⟨W1,b⟩:∃W,W=Pc R x ea E.length y w:=⟨_,rfl⟩
 obtain⟨hB,d,o⟩:=J3 R x ea E.length y w;rw[<-b] at hB d o;have p:=hw.below d;have z:=KS hB d p;have HE:Zi (XU m F x.tm (E.map Th.val) i c Yl (Ub (x.k-1) x.n x i).val c/\BJ (Ub (x.k-1) x.n x i)/\Jl m i (Ub (x.k-1) x.n x i)):=by
  have hv:(Ub (x.k-1) x.n x i).val=if x.k=2 then XF x.n else Xk x.n:=by
   unfold Th.val;rw[if_pos (show (Ub (x.k-1) x.n x i).tag=0 from rfl),Th.cv_eq];rw[if_neg (show ¬(Ub (x.k-1) x.n x i).wy=1 by simp[Ub]),if_neg (show ¬(Ub (x.k-1) x.n x i).wy=2 by simp[Ub])];show (if x.k-1=1 then XF x.n else Xk x.n)=_
   rcases g with h|h<;>rw[h]<;>rfl
  refine⟨⟨?_,fun hm _=>?_⟩,⟨rfl,?_,hn⟩,fun hm=>?_⟩
  .rw[hv];rcases g with h|h
   .rw[if_pos h];have:=CO (F:=F) (x:=x.tm) (E:=E.map Th.val) (c:=c) (by rw[TT.tm_k];exact h);rwa [TT.tm_n] at this
   .rw[if_neg (by omega)];have:=Bd (F:=F) (x:=x.tm) (E:=E.map Th.val) (c:=c) (by rw[TT.tm_k];exact h);rwa [TT.tm_n] at this
  .obtain⟨G,hG⟩:=k hm;obtain⟨ps,_,_,j⟩:=Jf hG;rw[TT.tm_k] at j;rw[hv];rcases g with h|h
   .rw[if_pos h];rcases j with⟨a,_⟩|⟨_,_,rfl⟩|⟨a,_⟩|⟨a,_⟩|⟨a,_⟩|⟨a,_⟩|⟨a,_⟩|⟨a,_⟩|⟨a,_⟩|⟨a,_⟩<;>first|omega|exact MR _
   .rw[if_neg (by omega)];rcases j with⟨a,_⟩|⟨a,_⟩|⟨_,_,rfl⟩|⟨a,_⟩|⟨a,_⟩|⟨a,_⟩|⟨a,_⟩|⟨a,_⟩|⟨a,_⟩|⟨a,_⟩<;>first|omega|exact Li _
  .show x.k-1=1\/x.k-1=2
   omega
  .obtain⟨G,hG⟩:=k hm;obtain⟨ps,_,_,j⟩:=Jf hG;rw[TT.tm_k] at j;have e:(Ub (x.k-1) x.n x i).t.ty=i:=P5 i;refine⟨Th.ok_iff.2 ⟨.inl rfl,.inl ⟨rfl,?_⟩⟩,e⟩;rw[e];show (x.k-1=1/\i=UY)\/(x.k-1=2/\i=Xp)
   rcases g with h|h
   .rcases j with⟨a,_⟩|⟨_,_,rfl⟩|⟨a,_⟩|⟨a,_⟩|⟨a,_⟩|⟨a,_⟩|⟨a,_⟩|⟨a,_⟩|⟨a,_⟩|⟨a,_⟩<;>first|omega|exact .inl ⟨by omega,rfl⟩
   .rcases j with⟨a,_⟩|⟨a,_⟩|⟨_,_,rfl⟩|⟨a,_⟩|⟨a,_⟩|⟨a,_⟩|⟨a,_⟩|⟨a,_⟩|⟨a,_⟩|⟨a,_⟩<;>first|omega|exact .inr ⟨by omega,rfl⟩
 obtain⟨c0,c1,_,_,_,_,_,_⟩:=p;replace c1:cL W1 R 1 (I J 0):=c1;obtain⟨w0,⟨x0,x1,x2,x3,x4,x5,x6⟩,u,⟨r0,r1,r2,r3,y0,y1,y2,y3⟩⟩:=hB;simp only[Zh] at x1 x2 x3 x4 x5 x6;have k1:(x.k==1)=Zt:=by rcases g with h|h<;>rw[h]<;>decide
 have b1:0<=x.k:=by omega
 have b2:x.k<=10:=by omega
 obtain⟨r,q⟩:∃r,(x.k==2)=r:=⟨_,rfl⟩
 have k3:r=Zt->(x.k==3)=U:=fun h=>by
  rw[h] at q;have:x.k≠2:=by simpa using q
  have:x.k=3:=by omega
  rw[this];decide
 clear g hn k hw d o;cases r
 all_goals
  (try have k4:=k3 rfl)
  clear k3
  go_enter ZA,Zz
  go_upto_region 1 with fail
  unfold Pc at b
  rw[<-b]
  clear b
  go_wp2_with fail
  have l:=Ui (m:=m) (M:=M) (Q:=Q) (Q1:=fun _=>False) (h:=Ub (x.k-1) x.n x i) z.out.1.r (by omega) a0 (Yi.of_below z.out.2.1) z.out.2.2 (Th.In_iff.2 (.inl ⟨rfl,HE.out.2.1⟩)) (fun x hx=>hx.elim)
  obtain⟨⟨u,e1,e2,e3⟩,g,hW,hi⟩:=l
  refine Ze (v:=(Ub (x.k-1) x.n x i).ag) ?_ rfl ⟨g,Yl,_,c,HE.out.1,Zc _,hc,hW,.inr ⟨rfl,_,rfl,hi,rfl,HE.out.2.2⟩⟩
  simp only[Ub] at u e1 e2 e3
  simp[results,Zv,go_sem,Th.ag,Ub,u,e1,e2,e3]
def Cs(m:Bool)(M R F c:Nat)(x:TT)(E:List Th)(i:Ty)(ea:Option Zm)(ec:Nat):Prop:=∀(Q:Nat->Prop)(W:Zd),x.In W->x.Bl Q->OY m M R Q W ea E->Wl R (F-c) Yl W->¬Q R->(∀b,W.heap.size<=b->Q b)->Zj N 59 #[O (T ⟨R,0,L⟩),Zg #[I J x.k,I J x.n,I J x.t.k,Za x.t.a x.t.l.length x.t.c,I J x.f.k,Za x.f.a x.f.l.length x.f.c,Za x.a x.l.length x.c],Za ea E.length ec] W (Xi m M R F c Q W i (XU m F x.tm (E.map Th.val) i c))
def DA(m:Bool)(M R F c:Nat)(h:Th)(A B:Ty)(j:Nat)(caps:Array ZF):Prop:=∀(Q:Nat->Prop)(X:Th)(W:Zd),h.In m M R Q W->X.In m M R Q W->Jl m A X->Wl R (F-c) Yl W->¬Q R->(∀b,W.heap.size<=b->Q b)->Zj N j (#[Zg #[I J X.k,I J X.n,X.fn,I J X.tag]]++caps) W (Xi m M R F c Q W B (fun r V c'=>QE m F h.cv X.val B c r V c'))
def C8(m:Bool)(M R F c:Nat):Prop:=∀(h:Th)(A B:Ty)(j:Nat)(caps:Array ZF),(h.wy=1\/h.wy=2)->h.fn=.func (.func j) #[] caps->(m=U->h.ok/\h.t.ty=YN A B)->DA m M R F c h A B j caps
def UX(m:Bool)(M R F c:Nat)(Q:Nat->Prop)(w W:Zd)(y:TT)(E:List Th)(p:Ty)(b:Nat)(wx:Zd):Prop:=w.heap.size+1+1+1<b/\Yi R L W wx/\∃(r:Xy)(V:YK)(c':Nat),XU m F y.tm (E.map Th.val) p c r V c'/\c<=c'/\c'<=F/\Wl R (F-c') r wx/\ (r.k≠0\/(r=Yl/\∃z:Th,Ph wx b 0 z/\z.In m M R (fun x=>Q x/\x≠w.heap.size+1+1+1) wx/\z.val=V/\Jl m p z))
structure Dq(m:Bool)(M:Nat)(x:Tm)(E:List Th)(i:Ty):Prop where
 sh:KX x/\(m=Zt->TZ x)
 sz:x.tsz+E.length<=M
 ty:m=U->L6 x (E.map Th.tyo) i/\∀e,e∈E->e.ok
def Ct(m:Bool)(M R F c:Nat):Prop:=∀(x:TT)(E:List Th)(i:Ty)(ea:Option Zm)(ec:Nat),Dq m M x.tm E i->Cs m M R F c x E i ea ec
theorem VH(M R F c:Nat)(Q:Nat->Prop)(h v X:Th)(w:Zd)(q:Wv R Q w h v)(hX:X.In U M R Q w)(ah:Ur X.val (h.t.ty.l.getD 0 Yn))(hw:Wl R (F-c) Yl w)(hc:c<=F)(hQ:¬Q R)(nw:∀b,w.heap.size<=b->Q b)(b8:h.wy=2)(hg:(Xd (Yq (h.t.ty.l.getD 0 Yn) (h.f.ty.l.getD 0 Yn) ⟨4,h.no,!h.back⟩) X.val).1.k≠0)
  :
  Zj N 131 #[Zg #[I J X.k,I J X.n,X.fn,I J X.tag],O (T ⟨h.b1,0,L⟩),O (T ⟨h.b2,0,L⟩),O (T ⟨h.b3,0,L⟩),O (T ⟨h.b4,0,L⟩),O (T ⟨h.b5,0,L⟩),O (T ⟨h.b6,0,L⟩)] w (Xi U M R F c Q w (h.t.ty.l.getD 1 Yn) (fun r V c'=>QE U F h.cv X.val (h.t.ty.l.getD 1 Yn) c r V c')):=by
 obtain⟨t0,t1,bt,ot,bh,bb,b5,a0,a1,a2,a3,az,bg,ak,a7,aj,b7⟩:=LS q.ti q.tg q.tk;obtain⟨z,f1,bf,of,bi,b2,an,d0,d1,d2,d3,b0,be,ae,a6,al,b4⟩:=LS q.fi q.fg q.fk;obtain⟨ar,av,bj⟩:=b7 Q q.tb;obtain⟨ao,ay,bk⟩:=b4 Q q.fb;have b6:=hw.lt;have e0:h.t.ty.l.getD 0 Yn=t0.ty:=by rw[ak];rfl
 have e1:h.t.ty.l.getD 1 Yn=t1.ty:=by rw[ak];rfl
 have e2:h.f.ty.l.getD 0 Yn=z.ty:=by rw[ae];rfl
 have e3:h.f.ty.l.getD 1 Yn=f1.ty:=by rw[ae];rfl
 rw[e0] at ah;have ab:=q.fits;rw[ae,ak,YN,YN,QD _ _ _ _ _ rfl] at ab;obtain⟨a9,ad⟩:YC Yk z.ty t0.ty=U/\YC Yk f1.ty t1.ty=U:=by simpa using ab
 have a4:YC Yk t0.ty z.ty=U:=by rw[KJ 45 _ _ a7 a6];exact a9
 replace a7:=YH 45 46 _ (by omega) a7;replace aj:=YH 45 46 _ (by omega) aj;replace a6:=YH 45 46 _ (by omega) a6;replace al:=YH 45 46 _ (by omega) al;have bc:h.cv=Y2 v.cv (Yq t0.ty z.ty ⟨4,h.no,!h.back⟩) (Yq f1.ty t1.ty ⟨4,h.no,h.back⟩):=by rw[Th.cv_eq,b8,if_neg (by decide),if_pos rfl,q.inn,e0,e1,e2,e3];rfl
 have hG:UE (Yq t0.ty z.ty ⟨4,h.no,!h.back⟩) t0.ty z.ty:=JV a7 a6 a4 rfl;have hA:UE (Yq f1.ty t1.ty ⟨4,h.no,h.back⟩) f1.ty t1.ty:=JV al aj ad rfl;have hU:Ur v.cv (YN z.ty f1.ty):=ae▸q.ty;rw[e1,bc];obtain⟨W1,a8⟩:∃W,W=(w.alloc (Zf X.v 103)).alloc (Zf #[I J 0,I J 0,.nilFunc,I J 0] 103):=⟨_,rfl⟩
 have hB:PB X w W1:=by rw[a8];exact Mx X w
 have ac:bL w W1:=by rw[a8];exact Ql X w
 have bd:W1.heap.size=w.heap.size+1+1:=by rw[a8];simp
 have HB:=KS hB ac (hw.below ac);have am:=hX.one;have bm:∀(a:Zm)(m:ZB)(W:Zd),(Zu a X.fn m).run N W=Zp N W a X.fn m:=fun a m W=>Yw am;have af:∀b,Q b->b≠R:=fun b hb e=>hQ (e▸hb);have g:∀W,Yi R L W1 W->∀b i u,cL w b i u->Q b->cL W b i u:=fun W k b i u e hb=>k.cell ((ac.cell (p:=⟨b,i,L⟩) (Zk _ _ e)).trans e) (af b hb);have ap:=q.t1;rw[bb,b5] at ap;have b1:=q.f1;rw[b2,an] at b1;have HK:Zi (∀W,Yi R L W1 W->cL W h.b1 0 (O (T ⟨R,0,L⟩))/\cL W w.heap.size 0 (I J X.k)/\cL W w.heap.size 1 (I J X.n)/\cL W w.heap.size 2 X.fn/\cL W w.heap.size 3 (I J X.tag)/\cL W h.b2 1 (Za (T ⟨bt,ot,L⟩) 2 h.t.c)/\cL W bt ot (I J t0.k)/\cL W bt (ot+1) (t0.s)/\cL W h.b3 1 (Za (T ⟨bf,of,L⟩) 2 h.f.c)/\cL W bf of (I J z.k)/\cL W bf (of+1) (z.s)/\cL W h.b4 0 (I J h.no)/\cL W h.b5 0 (.bool h.back)):=fun W k=>⟨g W k _ _ _ q.w1 q.b1,k.cell hB.x4.c0 (by omega),k.cell hB.x4.c1 (by omega),k.cell hB.x4.c2 (by omega),k.cell hB.x4.c3 (by omega),g W k _ _ _ ap q.b2,g W k _ _ _ a0 ar,g W k _ _ _ a1 ar,g W k _ _ _ b1 q.b3,g W k _ _ _ d0 ao,g W k _ _ _ d1 ao,g W k _ _ _ q.n4 q.b4,g W k _ _ _ q.k5 q.b5⟩
 have ai:∀W,Yi R L W1 W->XJ Q w W:=fun W k b hb hq=>by rw[k.block b (by have:=ac.size;omega) (af b hq) (by simp)];exact ac.block b hb
 have b3:∀W,Yi R L W1 W->∀Z:Th,Z.In U M R Q w->Z.In U M R (fun x=>Q x/\x≠w.heap.size+1) W:=fun W k Z hZ=>(hZ.mono (Q':=fun x=>Q x/\x≠w.heap.size+1) fun x h1 h2=>⟨h2,by omega⟩).same fun b h1 h2=>ai W k b h1 h2.1;have b9:Zi (∀W,Yi R L W1 W->Wl R (F-c) Yl W->Zj N 97 #[O (T ⟨R,0,L⟩),Zg X.v,Zg t0.v,Zg z.v,I J h.no,.bool (!h.back)] W (Lf M R (F-c) (fun x=>Q x/\x≠w.heap.size+1) W (Xd (Yq t0.ty z.ty ⟨4,h.no,!h.back⟩) X.val) (Wu X t0 z))):=fun W k au=>LM M R (F-c) (fun x=>Q x/\x≠w.heap.size+1) X t0 z h.no (!h.back) W (b3 W k X hX) (az.same (ai W k) av) (b0.same (ai W k) ay) a7 a6 a4 ah ((av.and az.bl).mono fun b hb=>⟨hb.1,by omega⟩) ((ay.and b0.bl).mono fun b hb=>⟨hb.1,by omega⟩) au (fun hx=>hQ hx.1) (fun b hb=>⟨nw b (by have:=k.size;omega),by have:=k.size;omega⟩)
 have i0:(0:Int)<((2:Nat):Int):=by omega
 have nR:∀b,w.heap.size<=b->b≠R:=fun b hb=>by omega
 rw[e0,e2] at hg
 .have HC2:Zi (∀W,Yi R L W1 W->Wl R (F-c) Yl W->Zj N 97 #[O (T ⟨R,0,L⟩),Zg X.v,Zg t0.v,Zg z.v,I J h.no,.bool (!h.back)] W fun e w'=>e=Zw (Zg #[I J 0,I J 0,.nilFunc,I J 0])/\Yi R L W w'/\Wl R (F-c) (Xd (Yq t0.ty z.ty ⟨4,h.no,!h.back⟩) X.val).1 w'):=fun W k au=>(b9.out W k au).mono (by
   rintro e w' ⟨h1,⟨h2,h3,h4⟩|⟨h2,_⟩⟩
   .exact⟨h3,h1,h4⟩
   .exact absurd (by rw[h2];rfl) hg)
  obtain⟨o,ho⟩:∃o,o=(Xd (Yq t0.ty z.ty ⟨4,h.no,!h.back⟩) X.val).1:=⟨_,rfl⟩
  rw[<-ho] at HC2 hg;have bo:(o.k != 0)=U:=by simpa using hg
  have HD:Zi (Vj F (Y2 v.cv (Yq t0.ty z.ty ⟨4,h.no,!h.back⟩) (Yq f1.ty t1.ty ⟨4,h.no,h.back⟩)) X.val t1.ty c o (XF 0) c/\o.k≠0):=⟨by rw[ho];exact BD hU hG hA ah (by rw[<-ho];exact hg),hg⟩
  have aw:Yi R L W1 W1.drew:=Yi.of_below ((Zb _ _).drew);have ba:Wl R (F-c) Yl W1.drew:=HB.out.2.2.below ((Zb _ _).drew);have bn:=Yx af;clear ho hg g ai b3 b9 q hX ah hw hQ nw az bg b0 be av bj ay bk a7 aj a6 al ab a9 a4 ad bc hG hA hU ak ae b7 b4 e0 e1 e2 e3 bh bi bb b2 b5 an a0 a1 a2 a3 d0 d1 d2 d3 ap b1 am ar ao b8 hB af;go_enter func131,ntmps131;go_upto_region 1 with fail;rw[<-a8];clear a8;refine Zs (S:=fun W=>cL W h.b1 0 (O (T ⟨R,0,L⟩))/\cL W w.heap.size 0 (I J X.k)/\cL W w.heap.size 1 (I J X.n)/\cL W w.heap.size 2 X.fn/\cL W w.heap.size 3 (I J X.tag)/\cL W h.b2 1 (Za (T ⟨bt,ot,L⟩) 2 h.t.c)/\cL W bt ot (I J t0.k)/\cL W bt (ot+1) (t0.s)/\cL W h.b3 1 (Za (T ⟨bf,of,L⟩) 2 h.f.c)/\cL W bf of (I J z.k)/\cL W bf (of+1) (z.s)/\cL W h.b4 0 (I J h.no)/\cL W h.b5 0 (.bool h.back)) (by kernel_rfl) (HK.out _ aw) (fun d=>?_);refine qk 0 (v:=?_) rfl (by kernel_rfl) (fun _ _ _ h=>h) (by rfl) d ?_ ?_;rotate_left;(focus (intro w' h;go_split_ands;go_simp;try with_reducible rfl));simp only[P,C,D,H];refine qk 1 (v:=?_) rfl (by kernel_rfl) (fun _ _ _ h=>h) (by rfl) d ?_ ?_;rotate_left;(focus (intro w' h;go_split_ands;go_simp;try with_reducible rfl));simp only[P,C,D,H];refine qk 2 (v:=?_) rfl (by kernel_rfl) (fun _ _ _ h=>h) (by rfl) d ?_ ?_;rotate_left;(focus (intro w' h;go_split_ands;go_simp;try with_reducible rfl));simp only[P,C,D,H];refine qk 3 (v:=?_) rfl (by kernel_rfl) (fun _ _ _ h=>h) (by rfl) d ?_ ?_;rotate_left;(focus (intro w' h;go_split_ands;go_simp;try with_reducible rfl));simp only[P,C,D,H];refine qk 4 (v:=?_) rfl (by kernel_rfl) (fun _ _ _ h=>h) (by rfl) d ?_ ?_;rotate_left;(focus (intro w' h;go_split_ands;go_simp;try with_reducible rfl));simp only[P,C,D,H];refine qk 5 (v:=?_) rfl (by kernel_rfl) (fun _ _ _ h=>h) (by rfl) d ?_ ?_;rotate_left;(focus (intro w' h;go_split_ands;go_simp;try with_reducible rfl));simp only[P,C,D,H];refine qk 6 (v:=?_) rfl (by kernel_rfl) (fun _ _ _ h=>h) (by rfl) d ?_ ?_;rotate_left;(focus (intro w' h;go_split_ands;go_simp;try with_reducible rfl));simp only[P,C,D,H];refine qk 7 (v:=?_) rfl (by kernel_rfl) (fun _ _ _ h=>h) (by rfl) d ?_ ?_;rotate_left;(focus (intro w' h;go_split_ands;go_simp;try with_reducible rfl));simp only[P,C,D,H];refine qk 8 (v:=?_) rfl (by kernel_rfl) (fun _ _ _ h=>h) (by rfl) d ?_ ?_;rotate_left;(focus (intro w' h;go_split_ands;go_simp;try with_reducible rfl));simp only[P,C,D,H];refine qk 9 (v:=?_) rfl (by kernel_rfl) (fun _ _ _ h=>h) (by rfl) d ?_ ?_;rotate_left;(focus (intro w' h;go_split_ands;go_simp;try with_reducible rfl));simp only[P,C,D,H];refine qk 10 (v:=?_) rfl (by kernel_rfl) (fun _ _ _ h=>h) (by rfl) d ?_ ?_;rotate_left;(focus (intro w' h;go_split_ands;go_simp;try with_reducible rfl));simp only[P,C,D,H];refine qk 11 (v:=?_) rfl (by kernel_rfl) (fun _ _ _ h=>h) (by rfl) d ?_ ?_;rotate_left;(focus (intro w' h;go_split_ands;go_simp;try with_reducible rfl));simp only[P,C,D,H];refine qk 12 (v:=?_) rfl (by kernel_rfl) (fun _ _ _ h=>h) (by rfl) d ?_ ?_;rotate_left;(focus (intro w' h;go_split_ands;go_simp;try with_reducible rfl));simp only[P,C,D,H];refine NY (i:=13) (j:=14) rfl rfl (by kernel_rfl) (fun K hK=>?_) (fun K hK=>?_)
  .go_simp;refine(HC2.out _ aw ba).mono ?_;rintro e w2 ⟨rfl,h2,aa⟩;have y:=aw.trans h2;dsimp only;refine hK.out _ _ (HK.out _ y) (fun d=>?_);clear hK K;(try simp only[P,C,D,H])
   refine YS (i:=14) rfl (by kernel_rfl) (fun K hK=>?_);go_simp;refine hK.out _ _ (HK.out _ (y.trans (Yi.of_below ((Zb _ _).alloc (Zc _) _)))) (fun d=>?_);clear hK K;(try simp only[P,C,D,H])
   refine YS (i:=15) rfl (by kernel_rfl) (fun K hK=>?_);go_simp;refine hK.out _ _ (HK.out _ (y.trans (Yi.of_below ((Zb _ _).alloc (Zc _) _)))) (fun d=>?_);clear hK K;(try simp only[P,C,D,H])
   refine Zn (by kernel_rfl) ?_ _;have l:Yi R L W1 (w2.alloc (Zf #[I J 0,I J 0,.nilFunc,I J 0] 103)):=y.trans (Yi.of_below ((Zb _ _).alloc (Zc _) _));have a5:Wl R (F-c) o (w2.alloc (Zf #[I J 0,I J 0,.nilFunc,I J 0] 103)):=aa.below ((Zb _ _).alloc (Zc _) _);obtain⟨V,hV⟩:∃V,V=w2.alloc (Zf #[I J 0,I J 0,.nilFunc,I J 0] 103):=⟨_,rfl⟩
   rw[<-hV] at l a5;rw[<-hV];clear hV d aa y h2;obtain⟨q1,_⟩:=HK.out _ l;have HF:=KS l a5 ((HB.out.1.kept l b6).r);obtain⟨c0,c1,_,_,_,_,_,_⟩:=a5;obtain⟨r0,r1,r2,r3,y0,y1,y2,y3⟩:=HF.out.2.2;clear l;go_wp2_with fail;obtain⟨⟨e0,e1,e2,e3⟩,k⟩:=HF.out.2.2.set (I J 0) (I J 0) .nilFunc (I J 0);refine Ze (v:=X0) ?_ rfl ⟨((Yi.of_below HB.out.2.1).trans HF.out.1).new k (by omega),o,XF 0,c,.inl ⟨rfl,HD.out.1,fun h0=>absurd h0 HD.out.2⟩,Zc _,hc,HF.out.2.1.same k (by omega),.inl ⟨HD.out.2,rfl⟩⟩;simp[results,Zo,go_sem,X0,e0,e1,e2,e3]
  .go_simp;have aq:Yi R L W1 (W1.alloc (Zf #[I J 0,I J 0,.nilFunc,I J 0] 103)).drew:=Yi.of_below (((Zb _ _).alloc (Zc _) _).drew);refine hK.out _ _ (HK.out _ aq) (fun d=>?_);clear hK K;(try simp only[P,C,D,H])
   refine YS (i:=13) rfl (by kernel_rfl) (fun K hK=>?_);go_simp;refine(HC2.out _ aq (HB.out.2.2.below (((Zb _ _).alloc (Zc _) _).drew))).mono ?_;rintro e w2 ⟨rfl,h2,aa⟩;have y:=aq.trans h2;have q9:Rb w2 (w.heap.size+1+1):=by have q8:Rb (W1.alloc (Zf #[I J 0,I J 0,.nilFunc,I J 0] 103)).drew W1.heap.size:=(Rb.new W1).below ((Zb _ _).drew);rw[bd] at q8;exact q8.kept h2 (by omega)
   obtain⟨⟨_,_,_,_⟩,ax⟩:=q9.set (I J 0) (I J 0) .nilFunc (I J 0);obtain⟨p0,p1,p2,p3,x0,x1,x2,x3⟩:=q9;dsimp only;refine hK.out _ _ (HK.out _ y) (fun d=>?_);clear hK K;(try simp only[P,C,D,H])
   refine YS (i:=15) rfl (by kernel_rfl) (fun K hK=>?_);go_simp;have l:=y.new ax (by omega);have a5:=aa.same ax (by omega);refine hK.out _ _ (HK.out _ l) (fun d=>?_);clear hK K;(try simp only[P,C,D,H])
   refine Zn (by kernel_rfl) ?_ _;obtain⟨V,hV⟩:∃V,V=(((w2.setCell ⟨w.heap.size+1+1,0,L⟩ (I J 0)).setCell ⟨w.heap.size+1+1,1,L⟩ (I J 0)).setCell ⟨w.heap.size+1+1,2,L⟩ .nilFunc).setCell ⟨w.heap.size+1+1,3,L⟩ (I J 0):=⟨_,rfl⟩
   clear p0 p1 p2 p3 x0 x1 x2 x3 ax;rw[<-hV] at l a5;rw[<-hV];clear hV d aa y h2;obtain⟨q1,_⟩:=HK.out _ l;have HF:=KS l a5 ((HB.out.1.kept l b6).r);obtain⟨c0,c1,_,_,_,_,_,_⟩:=a5;obtain⟨r0,r1,r2,r3,y0,y1,y2,y3⟩:=HF.out.2.2;clear l;go_wp2_with fail;obtain⟨⟨e0,e1,e2,e3⟩,k⟩:=HF.out.2.2.set (I J 0) (I J 0) .nilFunc (I J 0);refine Ze (v:=X0) ?_ rfl ⟨((Yi.of_below HB.out.2.1).trans HF.out.1).new k (by omega),o,XF 0,c,.inl ⟨rfl,HD.out.1,fun h0=>absurd h0 HD.out.2⟩,Zc _,hc,HF.out.2.1.same k (by omega),.inl ⟨HD.out.2,rfl⟩⟩;simp[results,Zo,go_sem,X0,e0,e1,e2,e3]
theorem CH(M R F c:Nat)(Q:Nat->Prop)(h v X:Th)(w:Zd)(hp:Wv R Q w h v)(hvi:v.In U M R Q w)(hX:X.In U M R Q w)(hXo:Jl U (h.t.ty.l.getD 0 Yn) X)(hw:Wl R (F-c) Yl w)(hQ:¬Q R)(nw:∀b,w.heap.size<=b->Q b)(hwy:h.wy=2)(hg:(Xd (Yq (h.t.ty.l.getD 0 Yn) (h.f.ty.l.getD 0 Yn) ⟨4,h.no,!h.back⟩) X.val).1.k=0)
  (j:Nat) (hj:j=95\/j=131) (caps:Array ZF) (hfn:v.fn=.func (.func j) #[] caps)
  (ih:Zi (∀(Q':Nat->Prop)(Y:Th)(W:Zd),v.In U M R Q' W->Y.In U M R Q' W->Jl U (h.f.ty.l.getD 0 Yn) Y->Wl R (F-c) Yl W->¬Q' R->(∀b,W.heap.size<=b->Q' b)->Zj N j (#[Zg #[I J Y.k,I J Y.n,Y.fn,I J Y.tag]]++caps) W (Xi U M R F c Q' W (h.f.ty.l.getD 1 Yn) (fun r V c'=>QE U F v.cv Y.val (h.f.ty.l.getD 1 Yn) c r V c')))) :
  Zj N 131 #[Zg #[I J X.k,I J X.n,X.fn,I J X.tag],O (T ⟨h.b1,0,L⟩),O (T ⟨h.b2,0,L⟩),O (T ⟨h.b3,0,L⟩),O (T ⟨h.b4,0,L⟩),O (T ⟨h.b5,0,L⟩),O (T ⟨h.b6,0,L⟩)] w (Xi U M R F c Q w (h.t.ty.l.getD 1 Yn) (fun r V c'=>QE U F h.cv X.val (h.t.ty.l.getD 1 Yn) c r V c')):=by
 have a9:Ur X.val (h.t.ty.l.getD 0 Yn):=(hXo rfl).2▸(hX.cty (hXo rfl).1).2;obtain⟨t0,q,bt,ot,cn,c7,c2,a0,a1,a2,a3,bv,c6,b5,ao,ax,c4⟩:=LS hp.ti hp.tg hp.tk;obtain⟨f0,d,bf,of,cl,bx,bk,d0,d1,d2,d3,bq,ce,b1,an,ay,bz⟩:=LS hp.fi hp.fg hp.fk;obtain⟨b7,bp,ch⟩:=c4 Q hp.tb;obtain⟨bb,bu,c8⟩:=bz Q hp.fb;have c3:=hw.lt;have e0:h.t.ty.l.getD 0 Yn=t0.ty:=by rw[b5];rfl
 have e1:h.t.ty.l.getD 1 Yn=q.ty:=by rw[b5];rfl
 have e2:h.f.ty.l.getD 0 Yn=f0.ty:=by rw[b1];rfl
 have e3:h.f.ty.l.getD 1 Yn=d.ty:=by rw[b1];rfl
 rw[e0] at a9 hXo;have aw:=hp.fits;rw[b1,b5,YN,YN,QD _ _ _ _ _ rfl] at aw;obtain⟨ar,am⟩:YC Yk f0.ty t0.ty=U/\YC Yk d.ty q.ty=U:=by simpa using aw
 have ad:YC Yk t0.ty f0.ty=U:=by rw[KJ 45 _ _ ao an];exact ar
 replace ao:=YH 45 46 _ (by omega) ao;replace ax:=YH 45 46 _ (by omega) ax;replace an:=YH 45 46 _ (by omega) an;replace ay:=YH 45 46 _ (by omega) ay;have c9:h.cv=Y2 v.cv (Yq t0.ty f0.ty ⟨4,h.no,!h.back⟩) (Yq d.ty q.ty ⟨4,h.no,h.back⟩):=by rw[Th.cv_eq,hwy,if_neg (by decide),if_pos rfl,hp.inn,e0,e1,e2,e3];rfl
 have hG:UE (Yq t0.ty f0.ty ⟨4,h.no,!h.back⟩) t0.ty f0.ty:=JV ao an ad rfl;have hA:UE (Yq d.ty q.ty ⟨4,h.no,h.back⟩) d.ty q.ty:=JV ay ax am rfl;have hU:Ur v.cv (YN f0.ty d.ty):=b1▸hp.ty;rw[e2,e3] at ih;rw[e1,c9];obtain⟨W1,av⟩:∃W,W=(w.alloc (Zf X.v 103)).alloc (Zf #[I J 0,I J 0,.nilFunc,I J 0] 103):=⟨_,rfl⟩
 have hB:PB X w W1:=by rw[av];exact Mx X w
 have au:bL w W1:=by rw[av];exact Ql X w
 have cd:W1.heap.size=w.heap.size+1+1:=by rw[av];simp
 have HB:=KS hB au (hw.below au);have a4:=hX.one;have ct:∀(a:Zm)(m:ZB)(W:Zd),(Zu a X.fn m).run N W=Zp N W a X.fn m:=fun a m W=>Yw a4;have b2:∀b,Q b->b≠R:=fun b hb e=>hQ (e▸hb);have o:∀W,Yi R L W1 W->∀b i u,cL w b i u->Q b->cL W b i u:=fun W l b i u e hb=>l.cell ((au.cell (p:=⟨b,i,L⟩) (Zk _ _ e)).trans e) (b2 b hb);have be:=hp.t1;rw[c7,c2] at be;have bg:=hp.f1;rw[bx,bk] at bg;have HK:Zi (∀W,Yi R L W1 W->cL W h.b1 0 (O (T ⟨R,0,L⟩))/\cL W w.heap.size 0 (I J X.k)/\cL W w.heap.size 1 (I J X.n)/\cL W w.heap.size 2 X.fn/\cL W w.heap.size 3 (I J X.tag)/\cL W h.b2 1 (Za (T ⟨bt,ot,L⟩) 2 h.t.c)/\cL W bt ot (I J t0.k)/\cL W bt (ot+1) (t0.s)/\cL W h.b3 1 (Za (T ⟨bf,of,L⟩) 2 h.f.c)/\cL W bf of (I J f0.k)/\cL W bf (of+1) (f0.s)/\cL W h.b4 0 (I J h.no)/\cL W h.b5 0 (.bool h.back)):=fun W l=>⟨o W l _ _ _ hp.w1 hp.b1,l.cell hB.x4.c0 (by omega),l.cell hB.x4.c1 (by omega),l.cell hB.x4.c2 (by omega),l.cell hB.x4.c3 (by omega),o W l _ _ _ be hp.b2,o W l _ _ _ a0 b7,o W l _ _ _ a1 b7,o W l _ _ _ bg hp.b3,o W l _ _ _ d0 bb,o W l _ _ _ d1 bb,o W l _ _ _ hp.n4 hp.b4,o W l _ _ _ hp.k5 hp.b5⟩
 have a6:∀W,Yi R L W1 W->XJ Q w W:=fun W l b hb hq=>by rw[l.block b (by have:=au.size;omega) (b2 b hq) (by simp)];exact au.block b hb
 have ci:∀W,Yi R L W1 W->∀Z:Th,Z.In U M R Q w->Z.In U M R (fun x=>Q x/\x≠w.heap.size+1) W:=fun W l Z hZ=>(hZ.mono (Q':=fun x=>Q x/\x≠w.heap.size+1) fun x h1 h2=>⟨h2,by omega⟩).same fun b h1 h2=>a6 W l b h1 h2.1;rw[e0,e2] at hg;have bo:Zi (∀(z:Nat)(W:Zd),Yi R L W1 W->Wl R (F-c) Yl W->w.heap.size<=z->z<W.heap.size->Zj N 97 #[O (T ⟨R,0,L⟩),Zg X.v,Zg t0.v,Zg f0.v,I J h.no,.bool (!h.back)] W fun e w'=>Yi R L W w'/\Wl R (F-c) Yl w'/\∃y:Th,e=Zw (Zg y.v)/\y.In U M R (fun x=>Q x/\x≠w.heap.size+1/\x≠z) w'/\(y.val=(Xd (Yq t0.ty f0.ty ⟨4,h.no,!h.back⟩) X.val).2/\Jl U f0.ty y)):=fun z W l bs cw cu=>
  (LM M R (F-c) (fun x=>Q x/\x≠w.heap.size+1/\x≠z) X t0 f0 h.no (!h.back) W ((hX.mono (Q':=(fun x=>Q x/\x≠w.heap.size+1/\x≠z)) fun x h1 h2=>⟨h2,by omega,by omega⟩).same fun b h1 h2=>a6 W l b h1 h2.1) (bv.same (a6 W l) bp) (bq.same (a6 W l) bu) ao an ad a9 ((bp.and bv.bl).mono fun b hb=>⟨hb.1,by omega,by omega⟩) ((bu.and bq.bl).mono fun b hb=>⟨hb.1,by omega,by omega⟩) bs (fun hx=>hQ hx.1) (fun b hb=>⟨nw b (by have:=l.size;omega),by have:=l.size;omega,by have:=l.size;omega⟩)).mono (by
   rintro e w' ⟨h1,⟨h2,_⟩|⟨_,h3,y,h4,h5,h6⟩⟩
   .exact absurd hg h2
   .exact⟨h1,h3,y,h4,h5,h6.1,fun _=>h6.2 (hXo rfl).1 (hXo rfl).2⟩)
 have i0:(0:Int)<((2:Nat):Int):=by omega
 have nR:∀b,w.heap.size<=b->b≠R:=fun b hb=>by omega
 have HP:=Sl hp hvi b2 nw hQ;have b3:=Yx a6;have HT:=Dd c6 ce ch c8 ax ay am hU hG hA a9 hg;have HL:=Dx hfn a2 a3 d2 d3 b7 bb be bg;have ba:Yi R L W1 W1.drew:=Yi.of_below ((Zb _ _).drew);have bi:Wl R (F-c) Yl W1.drew:=HB.out.2.2.below ((Zb _ _).drew);clear hg o a6 ci hp hvi hX a9 hXo hw hQ nw hfn bv c6 bq ce bp ch bu c8 ao ax an ay aw ar ad am c9 hG hA hU b5 b1 c4 bz e0 e1 e2 e3 cn cl c7 bx c2 bk a0 a1 a2 a3 d0 d1 d2 d3 be bg a4 b7 bb hwy hB b2;go_enter func131,ntmps131;go_upto_region 1 with fail;rw[<-av];clear av;go_cut [9] (fun t9 wx=>∃b9:Nat,t9=O (T ⟨b9,0,L⟩)/\Zi (w.heap.size+1<b9/\Yi R L W1 wx/\Wl R (F-c) Yl wx/\∃y:Th,Ph wx b9 0 y/\y.In U M R (fun x=>Q x/\x≠w.heap.size+1) wx/\(y.val=(Xd (Yq t0.ty f0.ty ⟨4,h.no,!h.back⟩) X.val).2/\Jl U f0.ty y)))
 case first=>
  refine Zs (S:=fun W=>cL W h.b1 0 (O (T ⟨R,0,L⟩))/\cL W w.heap.size 0 (I J X.k)/\cL W w.heap.size 1 (I J X.n)/\cL W w.heap.size 2 X.fn/\cL W w.heap.size 3 (I J X.tag)/\cL W h.b2 1 (Za (T ⟨bt,ot,L⟩) 2 h.t.c)/\cL W bt ot (I J t0.k)/\cL W bt (ot+1) (t0.s)/\cL W h.b3 1 (Za (T ⟨bf,of,L⟩) 2 h.f.c)/\cL W bf of (I J f0.k)/\cL W bf (of+1) (f0.s)/\cL W h.b4 0 (I J h.no)/\cL W h.b5 0 (.bool h.back)) (by kernel_rfl) (HK.out _ ba) (fun hHeld=>?_);refine qk 0 (v:=?_) rfl (by kernel_rfl) (fun _ _ _ h=>h) (by rfl) hHeld ?_ ?_;rotate_left;(focus (intro w' h;go_split_ands;go_simp;try with_reducible rfl));simp only[P,C,D,H];refine qk 1 (v:=?_) rfl (by kernel_rfl) (fun _ _ _ h=>h) (by rfl) hHeld ?_ ?_;rotate_left;(focus (intro w' h;go_split_ands;go_simp;try with_reducible rfl));simp only[P,C,D,H];refine qk 2 (v:=?_) rfl (by kernel_rfl) (fun _ _ _ h=>h) (by rfl) hHeld ?_ ?_;rotate_left;(focus (intro w' h;go_split_ands;go_simp;try with_reducible rfl));simp only[P,C,D,H];refine qk 3 (v:=?_) rfl (by kernel_rfl) (fun _ _ _ h=>h) (by rfl) hHeld ?_ ?_;rotate_left;(focus (intro w' h;go_split_ands;go_simp;try with_reducible rfl));simp only[P,C,D,H];refine qk 4 (v:=?_) rfl (by kernel_rfl) (fun _ _ _ h=>h) (by rfl) hHeld ?_ ?_;rotate_left;(focus (intro w' h;go_split_ands;go_simp;try with_reducible rfl));simp only[P,C,D,H];refine qk 5 (v:=?_) rfl (by kernel_rfl) (fun _ _ _ h=>h) (by rfl) hHeld ?_ ?_;rotate_left;(focus (intro w' h;go_split_ands;go_simp;try with_reducible rfl));simp only[P,C,D,H];refine qk 6 (v:=?_) rfl (by kernel_rfl) (fun _ _ _ h=>h) (by rfl) hHeld ?_ ?_;rotate_left;(focus (intro w' h;go_split_ands;go_simp;try with_reducible rfl));simp only[P,C,D,H];refine qk 7 (v:=?_) rfl (by kernel_rfl) (fun _ _ _ h=>h) (by rfl) hHeld ?_ ?_;rotate_left;(focus (intro w' h;go_split_ands;go_simp;try with_reducible rfl));simp only[P,C,D,H];refine qk 8 (v:=?_) rfl (by kernel_rfl) (fun _ _ _ h=>h) (by rfl) hHeld ?_ ?_;rotate_left;(focus (intro w' h;go_split_ands;go_simp;try with_reducible rfl));simp only[P,C,D,H];refine qk 9 (v:=?_) rfl (by kernel_rfl) (fun _ _ _ h=>h) (by rfl) hHeld ?_ ?_;rotate_left;(focus (intro w' h;go_split_ands;go_simp;try with_reducible rfl));simp only[P,C,D,H];refine qk 10 (v:=?_) rfl (by kernel_rfl) (fun _ _ _ h=>h) (by rfl) hHeld ?_ ?_;rotate_left;(focus (intro w' h;go_split_ands;go_simp;try with_reducible rfl));simp only[P,C,D,H];refine qk 11 (v:=?_) rfl (by kernel_rfl) (fun _ _ _ h=>h) (by rfl) hHeld ?_ ?_;rotate_left;(focus (intro w' h;go_split_ands;go_simp;try with_reducible rfl));simp only[P,C,D,H];refine qk 12 (v:=?_) rfl (by kernel_rfl) (fun _ _ _ h=>h) (by rfl) hHeld ?_ ?_;rotate_left;(focus (intro w' h;go_split_ands;go_simp;try with_reducible rfl));simp only[P,C,D,H];refine NY (i:=13) (j:=14) rfl rfl (by kernel_rfl) (fun K hK=>?_) (fun K hK=>?_)
  .go_simp;refine(bo.out w.heap.size _ ba bi (Zc _) (by show _<W1.heap.size;omega)).mono ?_;rintro e w2 ⟨h2,b4,y,rfl,a7,aj⟩;have a4:=a7.one;have c5:∀(a:Zm)(m:ZB)(W:Zd),(Zu a y.fn m).run N W=Zp N W a y.fn m:=fun a m W=>Yw a4;have a8:=ba.trans h2;have HY:=Un a7 aj;clear a7 aj a4;dsimp only;refine hK.out _ _ (HK.out _ a8) (fun hHeld=>?_);clear hK K;(try simp only[P,C,D,H])
   refine YS (i:=14) rfl (by kernel_rfl) (fun K hK=>?_);go_simp;refine hK.out _ _ (HK.out _ (a8.trans (Yi.of_below ((Zb _ _).alloc (Zc _) _)))) (fun hHeld=>?_);clear hK K;(try simp only[P,C,D,H])
   refine YS (i:=15) rfl (by kernel_rfl) (fun K hK=>?_);go_simp;have b6:bL w2 (w2.alloc (Zf y.v 103)):=(Zb _ _).alloc (Zc _) _;refine hK.out _ _ (HK.out _ (a8.trans (Yi.of_below b6))) (fun hHeld=>?_);clear hK K;(try simp only[P,C,D,H])
   refine Zn (by kernel_rfl) ?_ _;have HN:Zi _:=(⟨by have:=a8.size;omega,a8.trans (Yi.of_below b6),b4.below b6,y,⟨by simp[go_sem],by simp[go_sem],by simp[go_sem],by simp[go_sem]⟩,(HY.out.1.same (XJ.of_below b6)).mono (fun x _ hx=>⟨hx.1,hx.2.1⟩),HY.out.2⟩:(fun (b9:Nat)(wx:Zd)=>w.heap.size+1<b9/\Yi R L W1 wx/\Wl R (F-c) Yl wx/\∃y:Th,Ph wx b9 0 y/\y.In U M R (fun x=>Q x/\x≠w.heap.size+1) wx/\(y.val=(Xd (Yq t0.ty f0.ty ⟨4,h.no,!h.back⟩) X.val).2/\Jl U f0.ty y)) w2.heap.size (w2.alloc (Zf y.v 103)))
   clear hHeld;go_wp2_with fail;go_meet
   case rel=>exact⟨_,rfl,HN⟩
  .go_simp;have aa:Yi R L W1 (W1.alloc (Zf #[I J 0,I J 0,.nilFunc,I J 0] 103)).drew:=Yi.of_below (((Zb _ _).alloc (Zc _) _).drew);refine hK.out _ _ (HK.out _ aa) (fun hHeld=>?_);clear hK K;(try simp only[P,C,D,H])
   refine YS (i:=13) rfl (by kernel_rfl) (fun K hK=>?_);go_simp;refine(bo.out (w.heap.size+1+1) _ aa (HB.out.2.2.below (((Zb _ _).alloc (Zc _) _).drew)) (by omega) (by show _<(W1.alloc (Zf #[I J 0,I J 0,.nilFunc,I J 0] 103)).heap.size;simp[cd])).mono ?_;rintro e w2 ⟨h2,b4,y,rfl,a7,aj⟩;have a4:=a7.one;have c5:∀(a:Zm)(m:ZB)(W:Zd),(Zu a y.fn m).run N W=Zp N W a y.fn m:=fun a m W=>Yw a4;have a8:=aa.trans h2;have q9:Rb w2 (w.heap.size+1+1):=by have q8:Rb (W1.alloc (Zf #[I J 0,I J 0,.nilFunc,I J 0] 103)).drew W1.heap.size:=(Rb.new W1).below ((Zb _ _).drew);rw[cd] at q8;exact q8.kept h2 (by omega)
   obtain⟨⟨g0,g1,g2,g3⟩,az⟩:=q9.set (I J y.k) (I J y.n) y.fn (I J y.tag);have HN:Zi _:=(⟨by omega,a8.new az (by omega),b4.same az (by omega),y,⟨g0,g1,g2,g3⟩,(a7.same (XJ.of_kept az fun hx=>hx.2.2 rfl)).mono (fun x _ hx=>⟨hx.1,hx.2.1⟩),aj⟩:(fun (b9:Nat)(wx:Zd)=>w.heap.size+1<b9/\Yi R L W1 wx/\Wl R (F-c) Yl wx/\∃y:Th,Ph wx b9 0 y/\y.In U M R (fun x=>Q x/\x≠w.heap.size+1) wx/\(y.val=(Xd (Yq t0.ty f0.ty ⟨4,h.no,!h.back⟩) X.val).2/\Jl U f0.ty y)) (w.heap.size+1+1) ((((w2.setCell ⟨w.heap.size+1+1,0,L⟩ (I J y.k)).setCell ⟨w.heap.size+1+1,1,L⟩ (I J y.n)).setCell ⟨w.heap.size+1+1,2,L⟩ y.fn).setCell ⟨w.heap.size+1+1,3,L⟩ (I J y.tag)))
   have cb:=a8.new az (by omega);obtain⟨p0,p1,p2,p3,x0,x1,x2,x3⟩:=q9;clear a7 aj a4 g0 g1 g2 g3 az;dsimp only;refine hK.out _ _ (HK.out _ a8) (fun hHeld=>?_);clear hK K;(try simp only[P,C,D,H])
   refine YS (i:=15) rfl (by kernel_rfl) (fun K hK=>?_);go_simp;refine hK.out _ _ (HK.out _ cb) (fun hHeld=>?_);clear hK K;(try simp only[P,C,D,H])
   refine Zn (by kernel_rfl) ?_ _;obtain⟨V,hV⟩:∃V,V=(((w2.setCell ⟨w.heap.size+1+1,0,L⟩ (I J y.k)).setCell ⟨w.heap.size+1+1,1,L⟩ (I J y.n)).setCell ⟨w.heap.size+1+1,2,L⟩ y.fn).setCell ⟨w.heap.size+1+1,3,L⟩ (I J y.tag):=⟨_,rfl⟩
   rw[<-hV] at HN;rw[<-hV];clear hV hHeld cb p0 p1 p2 p3 x0 x1 x2 x3 b4 a8 h2;go_wp2_with fail;go_meet
   case rel=>exact⟨_,rfl,HN⟩
 case rest=>
 obtain⟨b9,rfl,bj⟩:=hcut;obtain⟨cs,a5,al,y,cj,a7,aj⟩:=bj.out;have HY:=Nm a5 al a7 aj;obtain⟨q1,_⟩:=HK.out _ a5;have q2:cL wc h.b6 2 (.func (.func j) #[] caps):=by have:=(HP.out.1.v6.same (b3.out _ a5) HP.out.1.b6).c2;rw[HL.out.1] at this;exact this
 obtain⟨c0,c1,_,_,_,_,_,_⟩:=al;replace c1:cL wc R 1 (I J 0):=c1;obtain⟨y0,y1,y2,y3⟩:=cj;simp only[Zh] at y1 y2 y3;clear a5 a7 aj bj ba bi bo;have HI:Zi (Zj N j (#[Zg y.v]++caps) wc (Xi U M R F c (fun x=>Q x/\x≠w.heap.size+1) wc d.ty (fun r V c'=>QE U F v.cv y.val d.ty c r V c'))):=by obtain⟨k1,k2,k3,k4⟩:=HY.out;exact ih.out (fun x=>Q x/\x≠w.heap.size+1) y wc ((HP.out.2.1.mono (Q':=(fun x=>Q x/\x≠w.heap.size+1)) fun x h1 h2=>⟨h2,by omega⟩).same fun b h1 h2=>b3.out _ k1 b h1 h2.1) k3 k4.2 k2 (fun hx=>HP.out.2.2.2.2 hx.1) (fun b hb=>⟨HP.out.2.2.2.1 b (by have:=k1.size;omega),by have:=k1.size;omega⟩)
 apply_assumption;go_upto_region 4 with fail;go_cut [10] (fun ck wx=>∃k:Nat,ck=O (T ⟨k,0,L⟩)/\Zi (w.heap.size+1<k/\Yi R L W1 wx/\∃(r:Xy)(V:YK)(c':Nat),QE U F v.cv (Xd (Yq t0.ty f0.ty ⟨4,h.no,!h.back⟩) X.val).2 d.ty c r V c'/\c<=c'/\c'<=F/\Wl R (F-c') r wx/\(r.k≠0\/(r=Yl/\∃z:Th,Ph wx k 0 z/\z.In U M R (fun x=>Q x/\x≠w.heap.size+1) wx/\(z.val=V/\Jl U d.ty z)))))
 case first=>
  rcases hj with rfl|rfl
  all_goals
   go_wp2_with fail
   refine HI.out.mono ?_
   rintro e w3 ⟨aa,r,V,c',hS,ah,ai,bc,⟨hr,rfl⟩|⟨rfl,z,rfl,ak,ac⟩⟩
   .have hb3:bL w3 (w3.alloc (Zf #[I J 0,I J 0,.nilFunc,I J 0] 103)):=(Zb _ _).alloc (Zc _) _;have HN:Zi _:=(⟨by have:=HY.out.1.size;have:=aa.size;omega,(HY.out.1.trans aa).trans (Yi.of_below hb3),r,V,c',HY.out.2.2.2.1▸hS,ah,ai,bc.below hb3,.inl hr⟩:(fun (k:Nat)(wx:Zd)=>w.heap.size+1<k/\Yi R L W1 wx/\∃(r:Xy)(V:YK)(c':Nat),QE U F v.cv (Xd (Yq t0.ty f0.ty ⟨4,h.no,!h.back⟩) X.val).2 d.ty c r V c'/\c<=c'/\c'<=F/\Wl R (F-c') r wx/\(r.k≠0\/(r=Yl/\∃z:Th,Ph wx k 0 z/\z.In U M R (fun x=>Q x/\x≠w.heap.size+1) wx/\(z.val=V/\Jl U d.ty z)))) w3.heap.size (w3.alloc (Zf #[I J 0,I J 0,.nilFunc,I J 0] 103)))
    clear aa hS ah ai bc hr hb3 y0 y1 y2 y3 c0 c1 q1 q2;simp only[X0];go_wp2_with fail;go_meet
    case rel=>exact⟨_,rfl,HN⟩
   .have hb3:bL w3 (w3.alloc (Zf z.v 103)):=(Zb _ _).alloc (Zc _) _;have a4:=ak.one;have cg:∀(a:Zm)(m:ZB)(W:Zd),(Zu a z.fn m).run N W=Zp N W a z.fn m:=fun a m W=>Yw a4;have HN:Zi _:=(⟨by have:=HY.out.1.size;have:=aa.size;omega,(HY.out.1.trans aa).trans (Yi.of_below hb3),Yl,V,c',HY.out.2.2.2.1▸hS,ah,ai,bc.below hb3,.inr ⟨rfl,z,⟨by simp[go_sem],by simp[go_sem],by simp[go_sem],by simp[go_sem]⟩,ak.same (XJ.of_below hb3),ac⟩⟩:(fun (k:Nat)(wx:Zd)=>w.heap.size+1<k/\Yi R L W1 wx/\∃(r:Xy)(V:YK)(c':Nat),QE U F v.cv (Xd (Yq t0.ty f0.ty ⟨4,h.no,!h.back⟩) X.val).2 d.ty c r V c'/\c<=c'/\c'<=F/\Wl R (F-c') r wx/\(r.k≠0\/(r=Yl/\∃z:Th,Ph wx k 0 z/\z.In U M R (fun x=>Q x/\x≠w.heap.size+1) wx/\(z.val=V/\Jl U d.ty z)))) w3.heap.size (w3.alloc (Zf z.v 103)))
    clear aa hS ah ai bc hb3 ak ac a4 y0 y1 y2 y3 c0 c1 q1 q2;simp only[Th.ag];go_wp2_with fail;go_meet
    case rel=>exact⟨_,rfl,HN⟩
 case rest=>
 obtain⟨k,rfl,ca⟩:=hcut;obtain⟨cq,a5,r,V,c',hS,ah,ai,al,br⟩:=ca.out;obtain⟨hS,bh⟩:Vj F v.cv (Xd (Yq t0.ty f0.ty ⟨4,h.no,!h.back⟩) X.val).2 d.ty c r V c'/\(r.k=0->Ur V d.ty):=by
  rcases hS with⟨_,h1,h2⟩|⟨h1,_⟩
  .exact⟨h1,h2⟩
  .cases h1
 clear ca HI HY y0 y1 y2 y3 c0 c1 q1 q2 ih hj;obtain⟨q1,_⟩:=HK.out _ a5;have b0:=(HB.out.1.kept a5 c3).r;obtain⟨p1,p2,p3,p4,p5,p6,p7,hU,hG,hA,a9,hg⟩:=HT.out;rcases br with hr|⟨rfl,z,ap,ak,ac⟩
 .have hgk:(r.k != 0)=U:=by simpa using hr
  have HF:Zi (Yi R L W1 wc/\Wl R (F-c') r wc/\Rb wc (w.heap.size+1)/\Vj F (Y2 v.cv (Yq t0.ty f0.ty ⟨4,h.no,!h.back⟩) (Yq d.ty q.ty ⟨4,h.no,h.back⟩)) X.val q.ty c r (XF 0) c'/\r.k≠0):=⟨a5,al,b0,BC hU hG hA a9 hg hS hr,hr⟩
  obtain⟨c0,c1,_,_,_,_,_,_⟩:=al;obtain⟨r0,r1,r2,r3,y0,y1,y2,y3⟩:=b0;clear a5 hS bh hr hU hG hA a9 hg p1 p2 p3 p4 p5 p6 p7;apply_assumption;go_wp2_with fail;obtain⟨⟨e0,e1,e2,e3⟩,l⟩:=HF.out.2.2.1.set (I J 0) (I J 0) .nilFunc (I J 0);refine Ze (v:=X0) ?_ rfl ⟨((Yi.of_below HB.out.2.1).trans HF.out.1).new l (by omega),r,XF 0,c',.inl ⟨rfl,HF.out.2.2.2.1,fun h0=>absurd h0 HF.out.2.2.2.2⟩,ah,ai,HF.out.2.1.same l (by omega),.inl ⟨HF.out.2.2.2.2,rfl⟩⟩;simp[results,Zo,go_sem,X0,e0,e1,e2,e3]
 .have hzt:Ur z.val d.ty:=ac.1▸bh rfl;have HR:Zi (Vj F (Y2 v.cv (Yq t0.ty f0.ty ⟨4,h.no,!h.back⟩) (Yq d.ty q.ty ⟨4,h.no,h.back⟩)) X.val q.ty c (Xd (Yq d.ty q.ty ⟨4,h.no,h.back⟩) z.val).1 (Xd (Yq d.ty q.ty ⟨4,h.no,h.back⟩) z.val).2 c'/\((Xd (Yq d.ty q.ty ⟨4,h.no,h.back⟩) z.val).1.k=0->Ur (Xd (Yq d.ty q.ty ⟨4,h.no,h.back⟩) z.val).2 q.ty)):=⟨BB hU hG hA a9 hg (ac.1▸hS),(Tz hA hzt).1⟩
  have bm:Zi (∀W,Yi R L wc W->Wl R (F-c') Yl W->Zj N 97 #[O (T ⟨R,0,L⟩),Zg z.v,Zg d.v,Zg q.v,I J h.no,.bool h.back] W (Lf M R (F-c') (fun x=>Q x/\x≠w.heap.size+1) W (Xd (Yq d.ty q.ty ⟨4,h.no,h.back⟩) z.val) (Wu z d q))):=fun W l bs=>by have a6:XJ Q w W:=b3.out _ (a5.trans l);have cr:=a5.size;have co:=l.size;exact LM M R (F-c') (fun x=>Q x/\x≠w.heap.size+1) z d q h.no h.back W (ak.same (XJ.of_kept l fun hx=>HP.out.2.2.2.2 hx.1)) (p2.same a6 p4) (p1.same a6 p3) p6 p5 p7 hzt ((p4.and p2.bl).mono fun b hb=>⟨hb.1,by omega⟩) ((p3.and p1.bl).mono fun b hb=>⟨hb.1,by omega⟩) bs (fun hx=>HP.out.2.2.2.2 hx.1) (fun b hb=>⟨HP.out.2.2.2.1 b (by omega),by omega⟩)
  have bd:Zi (∀W,SK R (w.heap.size+1) wc W->cL W h.b1 0 (O (T ⟨R,0,L⟩))/\cL W k 0 (I J z.k)/\cL W k 1 (I J z.n)/\cL W k 2 z.fn/\cL W k 3 (I J z.tag)/\cL W h.b3 1 (Za (T ⟨bf,of,L⟩) 2 h.f.c)/\cL W bf (of+2) (I J d.k)/\cL W bf (of+3) (d.s)/\cL W h.b2 1 (Za (T ⟨bt,ot,L⟩) 2 h.t.c)/\cL W bt (ot+2) (I J q.k)/\cL W bt (ot+3) (q.s)/\cL W h.b4 0 (I J h.no)/\cL W h.b5 0 (.bool h.back)):=fun W l=>by obtain⟨_,l2,l3,l4,l5,l6,l7,l8,l9⟩:=HL.out;have a6:XJ Q w wc:=b3.out _ a5;have hp:=HP.out.1;have ae:∀b i u,cL w b i u->Q b->cL W b i u:=fun b i u e hb=>l b i u (a6.cell e hb) (HP.out.2.2.1 b hb) (by have:b<w.heap.size:=Zk _ _ e;omega);exact⟨ae _ _ _ hp.w1 hp.b1,l _ _ _ ap.c0 (by omega) (by omega),l _ _ _ ap.c1 (by omega) (by omega),l _ _ _ ap.c2 (by omega) (by omega),l _ _ _ ap.c3 (by omega) (by omega),ae _ _ _ l9 hp.b3,ae _ _ _ l4 l7,ae _ _ _ l5 l7,ae _ _ _ l8 hp.b2,ae _ _ _ l2 l6,ae _ _ _ l3 l6,ae _ _ _ hp.n4 hp.b4,ae _ _ _ hp.k5 hp.b5⟩
  have HF:=KS a5 al b0;have i1:(1:Int)<((2:Nat):Int):=by omega
  obtain⟨c0,c1,_,_,_,_,_,_⟩:=al;replace c1:cL wc R 1 (I J 0):=c1;have ab:Yi R L wc wc.drew:=Yi.of_below ((Zb _ _).drew);have af:SK R (w.heap.size+1) wc wc.drew:=(SK.refl _ _ _).kept ab;have b8:Wl R (F-c') Yl wc.drew:=HF.out.2.1.below ((Zb _ _).drew);by_cases hg2:(Xd (Yq d.ty q.ty ⟨4,h.no,h.back⟩) z.val).1.k=0
  .have HC3:Zi (Zj N 97 #[O (T ⟨R,0,L⟩),Zg z.v,Zg d.v,Zg q.v,I J h.no,.bool h.back] wc.drew fun e w'=>Yi R L wc.drew w'/\(Xd (Yq d.ty q.ty ⟨4,h.no,h.back⟩) z.val).1=Yl/\Wl R (F-c') Yl w'/\∃g:Th,e=Zw (Zg g.v)/\g.In U M R (fun x=>Q x/\x≠w.heap.size+1) w'/\(g.val=(Xd (Yq d.ty q.ty ⟨4,h.no,h.back⟩) z.val).2/\Jl U q.ty g)):=(bm.out _ ab b8).mono (by
    rintro e w' ⟨h1,⟨h2,_⟩|⟨h2,h3,g,h4,h5,h6⟩⟩
    .exact absurd hg2 h2
    .exact⟨h1,h2,h3,g,h4,h5,h6.1,fun _=>h6.2 (ac.2 rfl).1 (ac.2 rfl).2⟩)
   clear a5 hS bh hU hG hA a9 hg p1 p2 p3 p4 p5 p6 p7 b0 ap ak ac hzt b8 hg2;apply_assumption;go_upto_region 7 with fail;go_region_held3 (fun W=>cL W h.b1 0 (O (T ⟨R,0,L⟩))/\cL W k 0 (I J z.k)/\cL W k 1 (I J z.n)/\cL W k 2 z.fn/\cL W k 3 (I J z.tag)/\cL W h.b3 1 (Za (T ⟨bf,of,L⟩) 2 h.f.c)/\cL W bf (of+2) (I J d.k)/\cL W bf (of+3) (d.s)/\cL W h.b2 1 (Za (T ⟨bt,ot,L⟩) 2 h.t.c)/\cL W bt (ot+2) (I J q.k)/\cL W bt (ot+3) (q.s)/\cL W h.b4 0 (I J h.no)/\cL W h.b5 0 (.bool h.back))
    (first|exact bd.out _ af|exact bd.out _ ((((af.set _ _).set _ _).set _ _).set _ _)|fail)
    (first
     |(go_at_call 97;refine HC3.out.mono ?_;rintro e w4 ⟨h4,ho,aq,g,rfl,bn,cf⟩;have HZ:Zi (Yi R L wc w4/\(Xd (Yq d.ty q.ty ⟨4,h.no,h.back⟩) z.val).1=Yl/\Wl R (F-c') Yl w4/\g.In U M R (fun x=>Q x/\x≠w.heap.size+1) w4/\(g.val=(Xd (Yq d.ty q.ty ⟨4,h.no,h.back⟩) z.val).2/\Jl U q.ty g)/\Rb w4 (w.heap.size+1)):=⟨ab.trans h4,ho,aq,bn,cf,HF.out.2.2.kept (ab.trans h4) (by omega)⟩;have cg:∀(a:Zm)(m:ZB)(W:Zd),(Zu a g.fn m).run N W=Zp N W a g.fn m:=(fun a m W=>Yw bn.one);replace af:=af.kept h4;clear h4 ho aq bn cf ab;obtain⟨r0,r1,r2,r3,y0,y1,y2,y3⟩:=HZ.out.2.2.2.2.2)
     |fail)
   go_wp2_with fail;obtain⟨z1,z2,z3,z4,z5,z6⟩:=HZ.out;have cc:=Ui (m:=U) (M:=M) (Q:=Q) (h:=g) z6 (by omega) c3 (((Yi.of_below HB.out.2.1).trans HF.out.1).trans z1) z3 z4 (fun x hx=>hx);obtain⟨⟨e0,e1,e2,e3⟩,l,hW,hi⟩:=cc;refine Ze (v:=g.ag) ?_ rfl ⟨l,(Xd (Yq d.ty q.ty ⟨4,h.no,h.back⟩) z.val).1,(Xd (Yq d.ty q.ty ⟨4,h.no,h.back⟩) z.val).2,c',.inl ⟨rfl,HR.out⟩,ah,ai,by rw[z2];exact hW,.inr ⟨z2,g,rfl,hi,z5⟩⟩;simp[results,Zo,go_sem,Th.ag,e0,e1,e2,e3]
  .have HC3:Zi (Zj N 97 #[O (T ⟨R,0,L⟩),Zg z.v,Zg d.v,Zg q.v,I J h.no,.bool h.back] wc.drew fun e w'=>Yi R L wc.drew w'/\Wl R (F-c') (Xd (Yq d.ty q.ty ⟨4,h.no,h.back⟩) z.val).1 w'/\e=Zw (Zg #[I J 0,I J 0,.nilFunc,I J 0])):=(bm.out _ ab b8).mono (by
    rintro e w' ⟨h1,⟨_,h3,h4⟩|⟨h2,_⟩⟩
    .exact⟨h1,h4,h3⟩
    .exact absurd (by rw[h2];rfl) hg2)
   have cm:=Yx hg2;clear a5 hS bh hU hG hA a9 hg p1 p2 p3 p4 p5 p6 p7 b0 ap ak ac hzt b8 hg2;apply_assumption;go_upto_region 7 with fail;go_region_held3 (fun W=>cL W h.b1 0 (O (T ⟨R,0,L⟩))/\cL W k 0 (I J z.k)/\cL W k 1 (I J z.n)/\cL W k 2 z.fn/\cL W k 3 (I J z.tag)/\cL W h.b3 1 (Za (T ⟨bf,of,L⟩) 2 h.f.c)/\cL W bf (of+2) (I J d.k)/\cL W bf (of+3) (d.s)/\cL W h.b2 1 (Za (T ⟨bt,ot,L⟩) 2 h.t.c)/\cL W bt (ot+2) (I J q.k)/\cL W bt (ot+3) (q.s)/\cL W h.b4 0 (I J h.no)/\cL W h.b5 0 (.bool h.back))
    (first|exact bd.out _ af|exact bd.out _ ((((af.set _ _).set _ _).set _ _).set _ _)|fail)
    (first
     |(go_at_call 97;refine HC3.out.mono ?_;rintro e w4 ⟨h4,aq,rfl⟩;have HZ:Zi (Yi R L wc w4/\Wl R (F-c') (Xd (Yq d.ty q.ty ⟨4,h.no,h.back⟩) z.val).1 w4/\Rb w4 (w.heap.size+1)):=⟨ab.trans h4,aq,HF.out.2.2.kept (ab.trans h4) (by omega)⟩;replace af:=af.kept h4;clear h4 aq ab;obtain⟨r0,r1,r2,r3,y0,y1,y2,y3⟩:=HZ.out.2.2)
     |fail)
   go_wp2_with fail;obtain⟨z1,z2,z3⟩:=HZ.out;obtain⟨⟨e0,e1,e2,e3⟩,l⟩:=z3.set (I J 0) (I J 0) .nilFunc (I J 0);refine Ze (v:=X0) ?_ rfl ⟨(((Yi.of_below HB.out.2.1).trans HF.out.1).trans z1).new l (by omega),(Xd (Yq d.ty q.ty ⟨4,h.no,h.back⟩) z.val).1,(Xd (Yq d.ty q.ty ⟨4,h.no,h.back⟩) z.val).2,c',.inl ⟨rfl,HR.out⟩,ah,ai,z2.same l (by omega),.inl ⟨cm.out,rfl⟩⟩;simp[results,Zo,go_sem,X0,e0,e1,e2,e3]
theorem BX(M R F c:Nat)(Q:Nat->Prop)(h v X:Th)(w:Zd)(o:Wv R Q w h v)(i:v.In U M R Q w)(k:X.In U M R Q w)(d:Jl U (h.t.ty.l.getD 0 Yn) X)(l:Wl R (F-c) Yl w)(y:c<=F)(q:¬Q R)(p:∀b,w.heap.size<=b->Q b)(e:h.wy=2)
  (j:Nat) (u:j=95\/j=131) (a:Array ZF) (g:v.fn=.func (.func j) #[] a)
  (x:Zi (∀(Q':Nat->Prop)(Y:Th)(W:Zd),v.In U M R Q' W->Y.In U M R Q' W->Jl U (h.f.ty.l.getD 0 Yn) Y->Wl R (F-c) Yl W->¬Q' R->(∀b,W.heap.size<=b->Q' b)->Zj N j (#[Zg #[I J Y.k,I J Y.n,Y.fn,I J Y.tag]]++a) W (Xi U M R F c Q' W (h.f.ty.l.getD 1 Yn) (fun r V c'=>QE U F v.cv Y.val (h.f.ty.l.getD 1 Yn) c r V c')))) :
  Zj N 131 #[Zg #[I J X.k,I J X.n,X.fn,I J X.tag],O (T ⟨h.b1,0,L⟩),O (T ⟨h.b2,0,L⟩),O (T ⟨h.b3,0,L⟩),O (T ⟨h.b4,0,L⟩),O (T ⟨h.b5,0,L⟩),O (T ⟨h.b6,0,L⟩)] w (Xi U M R F c Q w (h.t.ty.l.getD 1 Yn) (fun r V c'=>QE U F h.cv X.val (h.t.ty.l.getD 1 Yn) c r V c')):=by
 by_cases hg:(Xd (Yq (h.t.ty.l.getD 0 Yn) (h.f.ty.l.getD 0 Yn) ⟨4,h.no,!h.back⟩) X.val).1.k=0
 .exact CH M R F c Q h v X w o i k d l q p e hg j u a g x
 .exact VH M R F c Q h v X w o k ((d rfl).2▸(k.cty (d rfl).1).2) l y q p e hg
def MI(s:Nat)(x:TT)(ea:Option Zm)(ec:Nat)(E:List Th)(i:Ty):Th:=⟨3,0,.func (.func 95) #[] #[O (T ⟨s,0,L⟩),O (T ⟨s+1,0,L⟩),O (T ⟨s+1+1,0,L⟩)],0,1,s,s+1,s+1+1,0,0,0,x,ea,ec,E,x.t,QP i,0,Zt,[]⟩
theorem Bn(s:Nat)(x:TT)(b:Option Zm)(a:Nat)(E:List Th)(i:Ty):(MI s x b a E i).val=ME (x.tm.at 0) (E.map Th.val):=by unfold Th.val;rw[if_pos (show (MI s x b a E i).tag=0 from rfl),Th.cv_eq];rfl
theorem Bc(m:Bool)(M R F c:Nat)(Q:Nat->Prop)(x:TT)(E:List Th)(i:Ty)(q:Option Zm)(r:Nat)(w:Zd)(g:x.k=7)(hx:x.In w)(a3:x.Bl Q)(a6:KX x.tm/\(m=Zt->TZ x.tm))(a1:x.tm.tsz+E.length<=M)(hE:OY m M R Q w q E)(p:m=U->L6 x.tm (E.map Th.tyo) i/\∀e,e∈E->e.ok)(hc:c<=F)(hw:Wl R (F-c) Yl w)(nw:∀b,w.heap.size<=b->Q b):
  Zj N 59 #[O (T ⟨R,0,L⟩),Zg #[I J x.k,I J x.n,I J x.t.k,Za x.t.a x.t.l.length x.t.c,I J x.f.k,Za x.f.a x.f.l.length x.f.c,Za x.a x.l.length x.c],Za q E.length r] w (Xi m M R F c Q w i (XU m F x.tm (E.map Th.val) i c)):=by
 have a5:m=U->∃G,L6 x.tm G i/\C9 (E.map Th.val) G:=fun y=>⟨_,(p y).1,hE.tys (p y).2⟩
 have a8:=hw.lt;obtain⟨W1,k⟩:∃W,W=Pc R x q E.length r w:=⟨_,rfl⟩
 obtain⟨z,d,a2⟩:=J3 R x q E.length r w;rw[<-k] at z d a2;have a4:=hw.below d;have HB:=KS z d a4;have HE:Zi (XU m F x.tm (E.map Th.val) i c Yl (MI w.heap.size x q r E i).val c):=by
  rw[Bn];refine⟨CQ (by rw[TT.tm_k];exact g),fun y _=>?_⟩;obtain⟨G,hG,a9⟩:=a5 y;obtain⟨ps,hl,u,hr⟩:=Jf hG;rw[TT.tm_k,g] at hr;rcases hr with⟨a,_⟩|⟨a,_⟩|⟨a,_⟩|⟨a,_⟩|⟨a,_⟩|⟨a,_⟩|⟨_,b,hb,rfl⟩|⟨a,_⟩|⟨a,_⟩|⟨a,_⟩<;>first|omega|skip
  subst hb;have:=u 0 (by simp);rw[TT.tm_k,g,if_pos rfl] at this;exact Pm this a9
 have HO:Zi (Jl m i (MI w.heap.size x q r E i)):=fun y=>by
  obtain⟨hG,a7⟩:=p y;obtain⟨ps,hl,u,hr⟩:=Jf hG;rw[TT.tm_k,g] at hr;have e:=P5 i;rcases hr with⟨a,_⟩|⟨a,_⟩|⟨a,_⟩|⟨a,_⟩|⟨a,_⟩|⟨a,_⟩|⟨_,b,hb,hi⟩|⟨a,_⟩|⟨a,_⟩|⟨a,_⟩<;>first|omega|skip
  subst hb;have:=u 0 (by simp);rw[TT.tm_k,g,if_pos rfl] at this;exact⟨Th.ok_iff.2 ⟨.inl rfl,.inr (.inl ⟨rfl,⟨_,_,e.trans hi,this⟩,a7⟩)⟩,e⟩
 have HI:Zi ((MI w.heap.size x q r E i).In m M R (fun b=>Q b/\b≠w.heap.size+1+1+1) W1):=by
  refine Th.In_iff.2 (.inr (.inl ⟨rfl,⟨rfl,rfl,⟨nw _ ?_,?_⟩,⟨nw _ ?_,?_⟩,⟨nw _ ?_,?_⟩,z.w0,z.x7,hx.below d,(a3.and hx.bl).mono fun b h=>⟨h.1,by omega⟩,g,a6,a1,z.e0,fun j l=>?_⟩,fun e he=>?_⟩))
  .simp only[MI];omega
  .simp only[MI];omega
  .simp only[MI];omega
  .simp only[MI];omega
  .simp only[MI];omega
  .simp only[MI];omega
  .obtain⟨b,o,e,hb,h4⟩:=hE.at4 j l;exact⟨b,o,e,⟨hb,by have:=h4.lt;omega⟩,h4.same (Q:=fun _=>True) (XJ.of_below d) trivial⟩
  .exact((hE.ins e he).mono (Q':=fun b=>Q b/\b≠w.heap.size+1+1+1) fun x h1 h2=>⟨h2,by omega⟩).same (XJ.of_below d)
 obtain⟨c0,c1,_,_,_,_,_,_⟩:=a4;replace c1:cL W1 R 1 (I J 0):=c1;obtain⟨w0,⟨x0,x1,x2,x3,x4,x5,x6⟩,e0,⟨r0,r1,r2,r3,y0,y1,y2,y3⟩⟩:=z;simp only[Zh] at x1 x2 x3 x4 x5 x6;have aa:∀(fn:Fn)(first cap:Array ZF)(w:Zd),(Instr.makeFunc fn first cap).run N w=.ok (.func fn first cap) w:=fun _ _ _ _=>rfl;rw[g] at x0;clear g hx a3 a6 a1 hE a5 p hw nw d a2;go_enter ZA,Zz;go_upto_region 1 with fail;unfold Pc at k;rw[<-k];clear k;go_wp2_with fail;have a0:=Ui (Q:=Q) HB.out.1.r (by omega) a8 (Yi.of_below HB.out.2.1) HB.out.2.2 HI.out (fun x hx=>hx);obtain⟨⟨e0,e1,e2,e3⟩,g,hW,hi⟩:=a0;refine Ze (v:=(MI w.heap.size x q r E i).ag) ?_ rfl ⟨g,Yl,_,c,HE.out,Zc _,hc,hW,.inr ⟨rfl,_,rfl,hi,rfl,HO.out⟩⟩;simp only[MI] at e0 e1 e2 e3;simp[results,Zv,go_sem,Th.ag,MI,e0,e1,e2,e3]
theorem Ba(m:Bool)(M R F c:Nat)(Q:Nat->Prop)(x:TT)(E:List Th)(i:Ty)(ea:Option Zm)(ec:Nat)(w:Zd)(k:x.k=1)(a4:0<=x.n)(a1:x.n<=1000000)(hE:OY m M R Q w ea E)(l:m=U->L6 x.tm (E.map Th.tyo) i/\∀e,e∈E->e.ok)(hc:c<=F)(hw:Wl R (F-c) Yl w):
  Zj N 59 #[O (T ⟨R,0,L⟩),Zg #[I J x.k,I J x.n,I J x.t.k,Za x.t.a x.t.l.length x.t.c,I J x.f.k,Za x.f.a x.f.l.length x.f.c,Za x.a x.l.length x.c],Za ea E.length ec] w (Xi m M R F c Q w i (XU m F x.tm (E.map Th.val) i c)):=by
 have y:m=U->∃G,L6 x.tm G i/\C9 (E.map Th.val) G:=fun hm=>⟨_,(l hm).1,hE.tys (l hm).2⟩
 have a3:=hw.lt;obtain⟨W1,h⟩:∃W,W=Pc R x ea E.length ec w:=⟨_,rfl⟩
 obtain⟨hB,d,r⟩:=J3 R x ea E.length ec w;rw[<-h] at hB d r;have u:=hw.below d;have HB:=KS hB d u;obtain⟨j,hj⟩:∃j:Nat,x.n=(j:Int):=⟨x.n.toNat,by omega⟩
 have o:x.tm.n.toNat=j:=by rw[TT.tm_n,hj];simp
 have n1:¬((j:Int)<0):=by omega
 by_cases hlt:j<E.length
 .obtain⟨bb,oo,hea,hqb,h4⟩:=hE.at4 j hlt;obtain⟨e,he⟩:∃e,e=E[j]:=⟨_,rfl⟩
  rw[<-he] at h4;have z:e.In m M R Q w:=by rw[he];exact hE.ins _ (List.getElem_mem hlt)
  have HE:Zi (XU m F x.tm (E.map Th.val) i c Yl e.val c/\e.In m M R (fun b=>Q b/\b≠w.heap.size+1+1+1) W1):=by
   have hs:(E.map Th.val)[x.tm.n.toNat]?=T e.val:=by rw[o,List.getElem?_map,Zx hlt,he];rfl
   refine⟨⟨CN (by rw[TT.tm_k];exact k) hs,fun hm _=>?_⟩,(z.mono (Q':=fun b=>Q b/\b≠w.heap.size+1+1+1) fun x h1 h2=>⟨h2,by omega⟩).same (XJ.of_below d)⟩;obtain⟨G,hG,a6⟩:=y hm;obtain⟨ps,_,_,hr⟩:=Jf hG;rw[TT.tm_k,k] at hr;rcases hr with⟨_,_,hg⟩|⟨g,_⟩|⟨g,_⟩|⟨g,_⟩|⟨g,_⟩|⟨g,_⟩|⟨g,_⟩|⟨g,_⟩|⟨g,_⟩|⟨g,_⟩<;>first|omega|skip
   obtain⟨v,hv,a7⟩:=CC a6 hg;rw[hs] at hv;rw[Zl hv];exact a7
  have HO:Zi (Jl m i e):=fun hm=>by
   obtain⟨hG,a5⟩:=l hm;obtain⟨ps,_,_,hr⟩:=Jf hG;rw[TT.tm_k,k] at hr;rcases hr with⟨_,_,hg⟩|⟨g,_⟩|⟨g,_⟩|⟨g,_⟩|⟨g,_⟩|⟨g,_⟩|⟨g,_⟩|⟨g,_⟩|⟨g,_⟩|⟨g,_⟩<;>first|omega|skip
   rw[o,List.getElem?_map,Zx hlt,<-he] at hg;exact⟨a5 e (by rw[he];exact List.getElem_mem hlt),Zl hg⟩
  obtain⟨d0,d1,d2,d3⟩:=h4;replace d0:=Zr d d0;replace d1:=Zr d d1;replace d2:=Zr d d2;replace d3:=Zr d d3;have p:=z.one;have a8:∀(a:Zm)(m:ZB)(W:Zd),(Zu a e.fn m).run N W=Zp N W a e.fn m:=fun a m W=>Yw p;have i1:(j:Int)<(E.length:Int):=by omega
  have i2:(0:Int)<=(j:Int):=by omega
  obtain⟨c0,c1,_,_,_,_,_,_⟩:=u;replace c1:cL W1 R 1 (I J 0):=c1;obtain⟨w0,⟨x0,x1,x2,x3,x4,x5,x6⟩,q,⟨r0,r1,r2,r3,y0,y1,y2,y3⟩⟩:=hB;simp only[Zh] at x1 x2 x3 x4 x5 x6;rw[k] at x0;rw[hj] at x1;rw[hea] at q;clear k hE y l hw d r z he p a4 a1 o hj hea;go_enter ZA,Zz;go_upto_region 1 with fail;unfold Pc at h;rw[<-h];clear h;go_wp2_with fail;have a0:=Ui (Q:=Q) HB.out.1.r (by omega) a3 (Yi.of_below HB.out.2.1) HB.out.2.2 HE.out.2 (fun x hx=>hx);obtain⟨⟨q,e1,e2,e3⟩,k,hW,hi⟩:=a0;refine Ze (v:=e.ag) ?_ rfl ⟨k,Yl,_,c,HE.out.1,Zc _,hc,hW,.inr ⟨rfl,_,rfl,hi,rfl,HO.out⟩⟩;simp[results,Zv,go_sem,Th.ag,q,e1,e2,e3]
 .have HE:Zi (XU m F x.tm (E.map Th.val) i c Yu (XF 0) c):=⟨Tp (by rw[TT.tm_k];exact k) (by rw[o];simp;omega),fun _ h0=>by cases h0⟩
  have i1:¬((j:Int)<(E.length:Int)):=by omega
  have i3:(E.length:Int)<=(j:Int):=by omega
  obtain⟨c0,c1,_,_,_,_,_,_⟩:=u;replace c1:cL W1 R 1 (I J 0):=c1;obtain⟨w0,⟨x0,x1,x2,x3,x4,x5,x6⟩,q,⟨r0,r1,r2,r3,y0,y1,y2,y3⟩⟩:=hB;simp only[Zh] at x1 x2 x3 x4 x5 x6;rw[k] at x0;rw[hj] at x1;clear k hE y l hw d r a4 a1 o hj;go_enter ZA,Zz;go_upto_region 1 with fail;unfold Pc at h;rw[<-h];clear h;go_wp2_with (go_at_call 94;refine(UF R (F-c) _ HB.out.2.2).mono ?_;rintro e w2 ⟨rfl,a2,h2⟩;simp only[X0];have HF:Zi (Wl R (F-c) Yu w2/\Yi R L W1 w2/\Rb w2 (w.heap.size+1+1+1)):=⟨a2,h2,(HB.out.1.kept h2 a3).r⟩;clear a2 h2 c0 c1 w0 x0 x1 x2 x3 x4 x5 x6 q r0 r1 r2 r3 y0 y1 y2 y3;obtain⟨r0,r1,r2,r3,y0,y1,y2,y3⟩:=HF.out.2.2)
  obtain⟨⟨q,e1,e2,e3⟩,k⟩:=HF.out.2.2.set (I J 0) (I J 0) .nilFunc (I J 0);refine Ze (v:=X0) ?_ rfl ⟨((Yi.of_below HB.out.2.1).trans HF.out.2.1).new k (by omega),Yu,_,c,HE.out,Zc _,hc,HF.out.1.same k (by omega),.inl ⟨by decide,rfl⟩⟩;simp[results,Zv,go_sem,X0,q,e1,e2,e3]
end Go.Proofs.YtnddkmccagiclabGreatDoor
