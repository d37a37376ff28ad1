import Derived.Test.YtnddkmccagiclabGreatDoorZtz
set_option maxRecDepth 20000
set_option maxHeartbeats 16000000
open Go.RowKit Go.Proofs.Tryz
open List renaming setIfInBounds_toArray→A,set_cons_zero→B,set_cons_succ→C,getElem_cons_zero→Ze,getElem_cons_succ→Zh,length_map→Zi,eq_nil_of_length_eq_zero→Zk,getElem?_eq_getElem→Zl,getElem_mem→Zt,mem_map→Zu,take_succ_eq_append_getElem→Zv,map_congr_left→Zy,mem_cons→ZD,map_cons→ZI,getElem_of_mem→ZJ,map_map→ZK
open Go.Obj renaming cells→D
open Go.World renaming block_lt_of_cell?→F,news_of_block→Zj,cell?_of_block→Zx
open Option renaming none→G,some→R
open Go.Value renaming slice→H,int→I,oneCell'→Zm,agg→ZB
open Go.IntKind renaming i64→L
open Go.RowKit.Below renaming refl→M
open Nat renaming le_refl→Za,zero_add→Zd,zero_mul→Zr,add_zero→Zs,one_mul→ZH
open Go.Act renaming put→Zb
open Go renaming cell_later→Zc,step_append_lies→Zn,wp_region_held_drew→Zo,wpAnyH_done→Zp,heap_alloc_new→ZA,maxLen→ZE,Calls→ZG,World→ZL
open Go.RowKit renaming Hid→Zf,Below→ZF
open Go.Proofs.Tryz renaming underlying22→Zg,prog→Zq
open Bool renaming true→Zw,false→Zz
open Go.Ending renaming returned→ZC
open Option.some renaming injEq→ZM
namespace Go.Proofs.YtnddkmccagiclabGreatDoor
theorem QK(m:Nat):∀(x:TT),x.sz<=m->∀(Q:Nat->Prop)(E:Tr)(w:ZL),x.In w->E.In w->JM x.tm E.l.length->(∀u,u∈E.l->Yz 4 u=Zw)->x.sz+E.l.length<=900->x.Bl Q->E.Bl Q->(∀b,w.heap.size<=b->Q b)->
  ZG Zq 57 #[ZB #[I L x.k,I L x.n,I L x.t.k,H x.t.a x.t.l.length x.t.c,I L x.f.k,H x.f.a x.f.l.length x.f.c,H x.a x.l.length x.c],H E.a E.l.length E.c] w (J5 Q (Y3 x.tm (E.l.map Tr.ty)) w):=by
 induction m with
 |zero=>intro x h;have:=x.sz_pos;omega
 |succ m ih=>
  intro x q Q E w o g c a d j i k;refine Vn Q x E w o g c a d j i k fun y l=>ih y ?_;have r:=x.sz_eq;have e:y.tm.sz<=((x.l.map TT.tm).map Tm.sz).sum:=Ji _ _ (Zu.2 ⟨_,l,rfl⟩);have p:(x.l.map TT.tm).map Tm.sz=x.l.map TT.sz:=by rw[ZK];exact Zy fun z _=>z.sz_tm.symm
  rw[p,<-TT.sz_tm] at e;omega
theorem Rf{takes:List Ty}:∀(l:List Tm)(c:Nat)(ps:List (Nat×Tm×Ty)),Y4 l takes c=R ps->∀j(h:j<l.length)(h':j<ps.length),ps[j].1=c+((l.take j).map Tm.sz).sum/\Xq l[j] takes ps[j].1=R (ps[j].2.1,ps[j].2.2)
 |[],c,ps,_,j,h,_=>by simp at h
 |x::r,c,ps,hr,j,h,h'=>by
  obtain⟨y,i,q,h1,h2,rfl⟩:=K5 hr;match j with
  |0=>exact⟨by simp,h1⟩
  |j+1=>have:=Rf r _ q h2 j (by simpa using h) (by simpa using h');refine⟨?_,by simpa using this.2⟩;simp only[Zh,List.take_succ_cons,ZI,List.sum_cons];rw[this.1];omega
theorem R7:∀(ps:List (Nat×Tm×Ty))(us:List Ty)(j:Nat)(h:j<ps.length)(h':j<us.length)(h2:j<(XR ps us).length),(XR ps us)[j]=Jd (ps[j].1:Int) ps[j].2.1 ps[j].2.2 us[j]
 |[],_,j,h,_,_=>by simp at h
 |p::r,[],j,_,h',_=>by simp at h'
 |p::r,u::s,0,_,_,_=>rfl
 |p::r,u::s,j+1,h,h',h2=>by simp only[XR,Zh];exact R7 r s j (by simpa using h) (by simpa using h') (by simpa[XR] using h2)
theorem Wm(Q:Nat->Prop)(x:TT)(E:Tr)(c:Nat)(w:ZL)(hx:x.In w)(hE:E.In w)(hok:JM x.tm E.l.length)(hEg:∀u,u∈E.l->Yz 4 u=Zw)(hsz:x.sz+E.l.length<=900)(hcs:c+x.sz<=900)(xb:x.Bl Q)(eb:E.Bl Q)(nw:∀b,w.heap.size<=b->Q b)
  (y0:Tm) (WC:Ty) (hrd:Xq x.tm (E.l.map Tr.ty) c=R (y0,WC))
  (ih:Zf (∀y,y∈x.l->∀(Q':Nat->Prop)(E':Tr)(c':Nat)(W:ZL),y.In W->E'.In W->JM y.tm E'.l.length->(∀u,u∈E'.l->Yz 4 u=Zw)->y.sz+E'.l.length<=900->c'+y.sz<=900->y.Bl Q'->E'.Bl Q'->(∀b,W.heap.size<=b->Q' b)->∀(y1:Tm)(ty1:Ty),Xq y.tm (E'.l.map Tr.ty) c'=R (y1,ty1)->
   ZG Zq 58 #[ZB #[I L y.k,I L y.n,I L y.t.k,H y.t.a y.t.l.length y.t.c,I L y.f.k,H y.f.a y.f.l.length y.f.c,H y.a y.l.length y.c],H E'.a E'.l.length E'.c,I L (c':Int)] W (Nd Q' y1 W))) :
  ZG Zq 58 #[ZB #[I L x.k,I L x.n,I L x.t.k,H x.t.a x.t.l.length x.t.c,I L x.f.k,H x.f.a x.f.l.length x.f.c,H x.a x.l.length x.c],H E.a E.l.length E.c,I L (c:Int)] w (Nd Q y0 w):=by
 obtain⟨i0,br,cb,cd,c9⟩:=info_parts Tryz.info24s;obtain⟨ja,jb,g7,hp,ee,iv,iq,gz⟩:1<=x.k/\x.k<=9/\x.l.length=YA x.k/\XG x.f.ty=Zw/\Yz 4 x.t=Zw/\(UI x.k=Zz->XG x.t.ty=Zw)/\(x.k=1->0<=x.n/\x.n<(E.l.length:Int))/\∀y,y∈x.l->JM y.tm (if x.k=7 then E.l.length+1 else E.l.length):=by obtain⟨k,n,t,f,a,c,l⟩:=x;rw[TT.tm_mk] at hok;obtain⟨h0,h1⟩:=Ke.1 hok;obtain⟨a1,a2,a3,a4,a5,a6,a7⟩:=Jk h0;exact⟨a1,a2,by simpa using a3,a4,by rw[YM];exact a5,a6,a7,fun y hy=>h1 _ (Zu.2 ⟨y,hy,rfl⟩)⟩
 have ko:x.l.length<=3:=by rw[g7];unfold YA;split<;>(try split)<;>(try split)<;>omega
 obtain⟨ps,us,az⟩:∃(ps:List (Nat×Tm×Ty))(us:List Ty),Zf (Y4 (x.l.map TT.tm) (Yt x.k x.t.ty (E.l.map Tr.ty)) (c+1)=R ps/\YL x.k x.n x.t.ty (ps.map fun p=>p.2.2) (Yt x.k x.t.ty (E.l.map Tr.ty))=R (WC,us)/\y0=⟨x.k,x.n,x.t.ty,Yn,XR ps us⟩):=by obtain⟨k,n,t,f,a,cc,l⟩:=x;rw[TT.tm_mk] at hrd;obtain⟨ps,us,h1,h2,_,h4⟩:=Mc hrd;exact⟨ps,us,h1,h2,h4⟩
 obtain⟨W1,f9⟩:∃W,W=((w.alloc (D #[I L x.k,I L x.n,I L x.t.k,H x.t.a x.t.l.length x.t.c,I L x.f.k,H x.f.a x.f.l.length x.f.c,H x.a x.l.length x.c] 27)).alloc (D #[I L 0,I L 0,I L 0,H G 0 0,I L 0,H G 0 0,H G 0 0] 27)).alloc (D #[I L 1,H G 0 0] 24):=⟨_,rfl⟩
 have ey:WB x w W1:=by
  refine⟨?_,⟨⟨?_,?_,?_,?_,?_,?_,?_⟩,fun i hi=>?_⟩,⟨⟨?_,?_,?_,?_,?_,?_,?_⟩,?_,?_,?_,?_,?_,?_,?_⟩,?_,?_⟩
  .rw[f9];exact(((M _ _).alloc (Za _) _).alloc (by simp) _).alloc (by simp;omega) _
  all_goals (rw[f9];simp[go_sem])
 have fa:=Yx ey;have HX:=Sl hx hE xb eb nw;have HF:=Dv ee hEg hsz gz g7 hcs hp;obtain⟨Q1,ig⟩:∃Q1:Nat->Prop,Q1=fun b=>Q b/\b≠w.heap.size+1/\b≠w.heap.size:=⟨_,rfl⟩
 have aa:Zf (x.Bl Q1/\E.Bl Q1/\(∀b,w.heap.size+1+1<=b->Q1 b)/\∀b,Q1 b->Q b/\b≠w.heap.size+1/\b≠w.heap.size):=by subst ig;exact⟨(xb.and hx.bl).mono fun b h=>⟨h.1,by omega,by omega⟩,(eb.and hE.bl).mono fun b h=>⟨h.1,by omega,by omega⟩,fun b h=>⟨nw b (by omega),by omega,by omega⟩,fun b h=>h⟩
 obtain⟨q0,q1,q2,q3,q4,q5,q6⟩:=ey.box.at7;simp only[Zd] at q0 q1 q2 q3 q4 q5 q6;have ls:w.heap.size<W1.heap.size:=F _ _ q0;have cy:=hE.below ey.low;have km:E.l.length<=900:=by omega
 clear hok hEg hsz gz hp ee iv iq xb eb nw hx hE ey ig g7 hcs hrd;go_enter func58,ntmps58;go_upto_region 3 with fail;rw[<-f9];clear f9;go_upto_if 25 with fail;go_cut [8] (fun s8 wx=>∃N:Tr,s8=N.s/\Zf (N.l.map Tr.ty=Yt x.k x.t.ty (E.l.map Tr.ty)/\N.In wx/\N.Bl Q1/\bL W1 wx/\(∀u,u∈N.l->Yz 4 u=Zw)))
 case first=>
  by_cases hk0:x.k=7
  .have HK:=Yx hk0;have dg:(x.k==7)=Zw:=by simpa using hk0
   clear hk0;rw[dg];clear dg;have cl:bL W1 (W1.alloc (D x.t.v 24)):=(M _ _).alloc (Za _) _;have d4:(W1.alloc (D x.t.v 24)).ownsRow W1.heap.size 24 2 (H (R ⟨W1.heap.size,0,G⟩) 1 1) 1 (cellsOf [x.t]):=by have:=World.ownsRow_lit (base:=W1.heap.size) (e:=24) (size:=2) W1 x.t.v 1 (by simp) (by unfold ZE;omega) (by simp);simpa[cellsOf] using this
   have eg:=(HX.out.1.below fa.out.low).t;by_cases h0:E.l.length=0
   .have hE0:E.l=[]:=Zk h0;have HN:Zf ([x.t].map Tr.ty=Yt x.k x.t.ty (E.l.map Tr.ty)/\(Tr.mk 0 (R ⟨W1.heap.size,0,G⟩) 1 [x.t]).In (W1.alloc (D #[I L x.t.k,H x.t.a x.t.l.length x.t.c] 24))/\(Tr.mk 0 (R ⟨W1.heap.size,0,G⟩) 1 [x.t]).Bl Q1/\ZF W1.heap.size W1 (W1.alloc (D #[I L x.t.k,H x.t.a x.t.l.length x.t.c] 24))/\(∀u,u∈[x.t]->Yz 4 u=Zw)):=by refine⟨by rw[Yt,if_pos HK.out,hE0];rfl,JO d4 rfl (fun t ht=>by have:t=x.t:=(by simpa using ht);subst this;exact eg.below cl) 0,?_,cl,fun u hu=>by have:u=x.t:=(by simpa using hu);subst this;exact HF.out.1⟩;exact TE (aa.out.2.2.1 _ (by have:=fa.out.lt;omega)) aa.out.1.t
    clear d4 cl eg cy hE0;have H0:Zf (E.l.length=0):=h0;clear h0;go_wp2_with (at_builtin;refine UR rfl _ _ _ rfl 24 i0 Zg br W1.heap.size 1 1 rfl E.a E.c (by show Value.slice E.a E.l.length E.c=_;rw[H0.out]) (by omega) ?_)
    go_meet
    case rel=>exact⟨⟨0,R ⟨W1.heap.size,0,G⟩,1,[x.t]⟩,rfl,HN⟩
   .obtain⟨b,o,ea,_⟩:=cy.part 0 (by omega);have hw:=cy.below cl;have dj:=fun j u h=>La hw ea j u h;have h6:Zf (∀t,t∈x.t::E.l->t.In (W1.alloc (D #[I L x.t.k,H x.t.a x.t.l.length x.t.c] 24))/\t.Bl (·<W1.heap.size)):=by
     intro t ht;rcases ZD.1 ht with rfl|ht
     .exact⟨eg.below cl,eg.bl⟩
     .obtain⟨q,hq,rfl⟩:=ZJ ht;obtain⟨_,_,_,_,_,hi⟩:=cy.part q hq;exact⟨hi.below cl,hi.bl⟩
    have hm:0<E.l.length:=by omega
    have HB:Zf (ZF W1.heap.size W1 (W1.alloc (D #[I L x.t.k,H x.t.a x.t.l.length x.t.c] 24))):=cl;have gs:Zf (E.a=R ⟨b,o,G⟩):=ea;clear cy hw ea cl eg;go_wp2_with (at_builtin;refine wpList_append_lies _ rfl _ _ _ rfl W1.heap.size 24 i0 _ 2 32 Zg br cb cd c9 rfl (by omega) (H (R ⟨W1.heap.size,0,G⟩) 1 1) 1 (cellsOf [x.t]) rfl d4 ⟨b,o,G⟩ E.l.length E.c (cellsOf E.l) (by show Value.slice E.a E.l.length E.c=_;rw[gs.out]) (Ux _) dj (Kf _) hm (by unfold ZE;omega) (by omega) (by simp) (W1.heap.size+1) (by simp) ?_;intro gg cap1 w3 ac ad el hf)
    have hg:W1.heap.size<=gg:=by
     rcases el with h|h
     .simp[Value.ownBlock] at h;omega
     .omega
    have hsz:=ad.size;have bu:ZF W1.heap.size (W1.alloc (D x.t.v 24)) w3:=⟨ad.os,ad.tape,ad.output,ad.size,fun q hq=>ad.block q (by simp;omega) (by simp[Value.ownBlock];omega)⟩
    have HN:Zf ((x.t::E.l).map Tr.ty=Yt x.k x.t.ty (E.l.map Tr.ty)/\(Tr.mk 0 (R ⟨gg,0,G⟩) cap1 (x.t::E.l)).In w3/\(Tr.mk 0 (R ⟨gg,0,G⟩) cap1 (x.t::E.l)).Bl Q1/\bL W1 w3/\(∀u,u∈x.t::E.l->Yz 4 u=Zw)):=by
     refine⟨by rw[Yt,if_pos HK.out];rfl,JO (n:=1+E.l.length) (l:=x.t::E.l) (by simpa[cellsOf] using ac) (by simp;omega) (fun t ht=>?_) 0,?_,HB.out.trans bu,fun u hu=>?_⟩
     .obtain⟨h1,h2⟩:=h6.out t ht;exact Tr.In.congr (P:=fun q=>q<W1.heap.size) (fun q hq o=>bu.cell (p:=⟨q,o,G⟩) hq) h2 h1
     .refine Tr.Bl_mk.2 ⟨fun _ y hy=>by cases hy;exact aa.out.2.2.1 _ (by have:=fa.out.lt;show _<=gg;omega),fun t ht=>?_⟩;rcases ZD.1 ht with rfl|ht
      .exact aa.out.1.t
      .have h:=aa.out.2.1;obtain⟨k,a,cc,l⟩:=E;exact(Tr.Bl_mk.1 h).2 t ht
     .rcases ZD.1 hu with rfl|hu
      .exact HF.out.1
      .exact HF.out.2.1 u hu
    clear ac ad el hf bu d4 dj h6 HB;go_wp2_with fail;go_meet
    case rel=>exact⟨⟨0,R ⟨gg,0,G⟩,cap1,x.t::E.l⟩,by simp[Nat.add_comm],HN⟩
  .have HK:=Yx hk0;have dg:(x.k==7)=Zz:=by simpa using hk0
   clear hk0;rw[dg];clear dg;have HN:Zf (E.l.map Tr.ty=Yt x.k x.t.ty (E.l.map Tr.ty)/\E.In W1/\E.Bl Q1/\bL W1 W1/\(∀u,u∈E.l->Yz 4 u=Zw)):=⟨by rw[Yt,if_neg HK.out],cy,aa.out.2.1,M _ _,HF.out.2.1⟩
   go_wp2_with fail;go_meet
   case rel=>exact⟨E,rfl,HN⟩
 case rest=>
 obtain⟨N,rfl,HN⟩:=hcut;clear q0 q1 q2 q3 q4 q5 q6 ls cy br cb cd c9;have b8:=Yx (fa.out.below HN.out.2.2.2.1);obtain⟨tk,ev⟩:∃tk,tk=Yt x.k x.t.ty (E.l.map Tr.ty):=⟨_,rfl⟩
 have kf:=Yx ev;have dc:Zf (N.l.map Tr.ty=tk/\N.In wc/\N.Bl Q1/\(∀u,u∈N.l->Yz 4 u=Zw)/\N.l.length=(if x.k=7 then E.l.length+1 else E.l.length)):=by refine⟨ev▸HN.out.1,HN.out.2.1,HN.out.2.2.1,HN.out.2.2.2.2,?_⟩;have:=congrArg List.length HN.out.1;rw[Zi,Xe,Zi] at this;exact this
 rw[<-ev] at az;have bp:Zf (ps.length=x.l.length/\∀j(h:j<x.l.length)(h':j<ps.length),ps[j].1=c+1+((x.l.take j).map TT.sz).sum/\Xq x.l[j].tm tk ps[j].1=R (ps[j].2.1,ps[j].2.2)/\Y3 x.l[j].tm tk=R ps[j].2.2):=by
  refine⟨by have:=U1 _ _ _ _ az.out.1;simpa using this,fun j h h'=>?_⟩;obtain⟨h1,h2⟩:=Rf _ _ _ az.out.1 j (by simpa using h) h';simp only[List.getElem_map] at h2;refine⟨?_,h2,?_⟩
  .rw[h1,<-List.map_take,ZK];congr 2;exact Zy fun z _=>z.sz_tm.symm
  .rw[<-KC _ _ ps[j].1,h2];rfl
 have eu:Zf (∀y,y∈x.l->y.sz+1<=x.sz):=by
  intro y hy;have h1:=x.sz_eq;have e:y.tm.sz<=((x.l.map TT.tm).map Tm.sz).sum:=Ji _ _ (Zu.2 ⟨_,hy,rfl⟩);have e2:(x.l.map TT.tm).map Tm.sz=x.l.map TT.sz:=by rw[ZK];exact Zy fun z _=>z.sz_tm.symm
  rw[e2,<-TT.sz_tm] at e;omega
 clear ev HN;obtain⟨V0,j2⟩:∃V,V=wc:=⟨_,rfl⟩
 subst j2;apply_assumption;refine wp_seq_k fun Kx kh=>?_;go_cut [9,10] (fun s9 s10 wx=>s9=H G 0 0/\s10=H G 0 0/\wx=V0)
 case first=>
  go_wp2_with fail;go_meet
  case rel=>exact⟨rfl,rfl,rfl⟩
 obtain⟨h9,j1,ha⟩:=hcut;subst h9 j1;rw[ha];clear ha;apply_assumption;refine wp_seq_k fun Ky ks=>?_;go_cut [9,10] (fun s9 s10 wx=>∃(vh vw:Value)(ts:List Tr),vh=s9/\vw=s10/\Zf (T2 Q1 V0 vh vw ts ts wx/\ts.length=x.l.length/\(∀q(h:q<ts.length)(h':q<ps.length),ts[q].ty=ps[q].2.2/\Yz 904 ts[q]=Zw)))
 case first=>
  obtain⟨i0,br,cb,cd,c9⟩:=info_parts Tryz.info24s;have q6:=b8.out.box.at7.c6;simp only[Zd] at q6;have ls:=b8.out.lt;have jf:=HX.out.1.below b8.out.low;go_wp2_with fail;go_loopg [9,10,34] x.l.length (fun g s9 s10 i wr=>∃(vh vw:Value)(j:Nat)(ts:List Tr),vh=s9/\vw=s10/\j<=x.l.length/\g=x.l.length-j/\i=I L (j:Int)/\Zf (T2 Q1 V0 vh vw ts ts wr/\ts.length=j/\∀q(h:q<ts.length)(h':q<ps.length),ts[q].ty=ps[q].2.2/\Yz 904 ts[q]=Zw))
  case atStart=>exact⟨_,_,0,[],rfl,rfl,Nat.zero_le _,rfl,rfl,T2.start _ _,rfl,fun q h=>by simp at h⟩
  case round=>
   obtain⟨vh,vw,j,ts,ai,ak,hj,hg,rfl,HR⟩:=hrel;subst ai ak;have HG:=Yx hg;clear hg;by_cases hlt:j<x.l.length
   .obtain⟨b,o,ea,⟨x0,x1,x2,x3,x4,x5,x6⟩,hxj⟩:=jf.part j hlt;have an:=HR.out.1.low;replace x0:=Zc an x0;replace x1:=Zc an x1;replace x2:=Zc an x2;replace x3:=Zc an x3;replace x4:=Zc an x4;replace x5:=Zc an x5;replace x6:=Zc an x6;obtain⟨y,hy⟩:∃y,y=x.l[j]:=⟨_,rfl⟩
    rw[<-hy] at x0 x1 x2 x3 x4 x5 x6 hxj;have b6:y∈x.l:=by rw[hy];exact Zt hlt
    have HY:=Un hy b6;have i1:(j:Int)<(x.l.length:Int):=by omega
    have i2:(0:Int)<=(j:Int):=by omega
    have lb:b<wr.heap.size:=F _ _ x0;have bn:=HR.out.1.oh.lt;have cg:=HR.out.1.ow.lt;have ax:bL wr (wr.alloc (D y.v 27)):=(M _ _).alloc (Za _) _;have bj:=an.trans (ax.mono an.size);have HI:Zf (ZG Zq 57 #[ZB y.v,N.s] (wr.alloc (D y.v 27)) (J5 (fun b=>Q1 b/\R b≠vh.ownBlock/\R b≠vw.ownBlock) (Y3 y.tm tk) (wr.alloc (D y.v 27)))):=by
     have al:=dc.out;rw[<-al.1];have ju:=eu.out y b6;refine QK y.sz y (Za _) _ N _ (hxj.below bj) (al.2.1.below bj) (by rw[al.2.2.2.2];exact HF.out.2.2.2.1 y b6) al.2.2.2.1 ?_ ?_ ?_ ?_
     .have:=HF.out.2.2.1;rw[al.2.2.2.2];split<;>omega
     .have h1:y.Bl Q1:=aa.out.1.mem b6;exact(h1.and hxj.bl).mono fun b hb=>⟨hb.1,fun e=>by have:=(bn b e.symm).1;omega,fun e=>by have:=(cg b e.symm).1;omega⟩
     .exact(al.2.2.1.and al.2.1.bl).mono fun b hb=>⟨hb.1,fun e=>by have:=(bn b e.symm).1;omega,fun e=>by have:=(cg b e.symm).1;omega⟩
     .intro b hb;simp at hb;exact⟨aa.out.2.2.1 b (by have:=an.size;omega),fun e=>by have:=(bn b e.symm).2;omega,fun e=>by have:=(cg b e.symm).2;omega⟩
    have e9:=Yx ea;rw[ea];clear ea hxj hy b6;go_wp2_with fail;refine HI.out.mono ?_;rintro e w2 ⟨t,bb,rfl,jk,d7,hn,h5,ay⟩;have bg:=ax.trans (ay.mono ax.size);have cj:j<ps.length:=by have:=bp.out.1;omega
    have fe:Zf (t.ty=ps[j].2.2/\Yz 904 t=Zw):=by have h0:=(bp.out.2 j hlt cj).2.2;rw[<-HY.out.1] at h0;have ht:=d7 _ h0;refine⟨ht,?_⟩;rw[YM,ht];have al:=dc.out;have je:=HF.out.2.2.2.1 y HY.out.2;have:=Pk (by rw[<-al.1,Zi,al.2.2.2.2];exact je) (by intro u hu;rw[<-al.1] at hu;obtain⟨z,hz,rfl⟩:=Zu.1 hu;rw[<-YM];exact al.2.2.2.1 z hz) h0;refine YH _ _ _ ?_ this;have h1:=HF.out.2.2.1;have h2:=eu.out y HY.out.2;rw[<-TT.sz_tm];omega
    have d8:Zf (T2 Q1 V0 vh vw ts ts (w2.alloc (D t.v 24))):=HR.out.1.below (bg.trans (((M _ _).alloc (Za _) _).mono bg.size));have kr:=bg.size;have ku:=an.size;have cz:R w2.heap.size≠vh.ownBlock:=fun e=>by have:=(bn _ e.symm).2;omega
    have fx:R w2.heap.size≠vw.ownBlock:=fun e=>by have:=(cg _ e.symm).2;omega
    have dz:R (w2.heap.size+1)≠vh.ownBlock:=fun e=>by have:=(bn _ e.symm).2;omega
    have dy:R (w2.heap.size+1+1)≠vh.ownBlock:=fun e=>by have:=(bn _ e.symm).2;omega
    have kb:ts.length<=3:=by have:=HR.out.2.1;omega
    have HS:Zf (∀W:ZL,W.heap[w2.heap.size]?=(w2.alloc (D t.v 24)).heap[w2.heap.size]?->(fun W=>cL W w2.heap.size 0 (I L t.k)/\cL W w2.heap.size 1 (t.s)) W):=fun W h=>by
     have h0:(w2.alloc (D #[I L t.k,H t.a t.l.length t.c] 24)).cell? ⟨w2.heap.size,0,G⟩=R (I L t.k):=by simp[go_sem]
     have h1:(w2.alloc (D #[I L t.k,H t.a t.l.length t.c] 24)).cell? ⟨w2.heap.size,1,G⟩=R (H t.a t.l.length t.c):=by simp[go_sem]
     exact⟨(Zx (a:=⟨w2.heap.size,0,G⟩) h).trans h0,(Zx (a:=⟨w2.heap.size,1,G⟩) h).trans h1⟩
    have b7:Zf (∀(V1 w3 V2 w4:ZL)(g1 c8 g2 bz:Nat),ZF (w2.alloc (D t.v 24)).heap.size (w2.alloc (D t.v 24)) V1->w3.ownsRow V0.heap.size 24 2 (H (R ⟨g1,0,G⟩) (ts.length+1) c8) (ts.length+1) (cellsOf ts++[I L t.k,t.s])->V1.grownBy w3 vh.ownBlock->(vh.ownBlock=R g1\/V1.heap.size<=g1)->g1<w3.heap.size->bL w3 V2->w4.ownsRow V0.heap.size 24 2 (H (R ⟨g2,0,G⟩) (ts.length+1) bz) (ts.length+1) (cellsOf ts++[I L t.k,t.s])->V2.grownBy w4 vw.ownBlock->(vw.ownBlock=R g2\/V2.heap.size<=g2)-> (T2 Q1 V0 (H (R ⟨g1,0,G⟩) (ts.length+1) c8) (H (R ⟨g2,0,G⟩) (ts.length+1) bz) (ts++[t]) (ts++[t]) w4/\(ts++[t]).length=j+1/\∀q(h:q<(ts++[t]).length)(h':q<ps.length),(ts++[t])[q].ty=ps[q].2.2/\Yz 904 (ts++[t])[q]=Zw)):=by
     intro V1 w3 V2 w4 g1 c8 g2 bz a1 a2 a3 a4 a5 a6 a7 a8 a9;have cx:bL w2 (w2.alloc (D t.v 24)):=(M _ _).alloc (Za _) _;refine⟨(d8.out.step a1 ((hn.below cx).below a1) h5 a2 a3 a4 a5 a6 a7 a8 a9).1,by have:=HR.out.2.1;simp;omega,fun q h h'=>?_⟩;have hl:=HR.out.2.1;by_cases hq:q<ts.length
     .rw[List.getElem_append_left hq];exact HR.out.2.2 q hq h'
     .have hqj:q=j:=by simp at h;omega
      subst hqj;rw[List.getElem_append_right (by omega)];simp only[show q-ts.length=0 by omega,Ze];exact fe.out
    clear HI jk d7 hn h5 ax bj an x0 x1 x2 x3 x4 x5 x6 lb bn cg ay bg HR fe cj;have ax:ZF (w2.alloc (D t.v 24)).heap.size (w2.alloc (D t.v 24)) ((w2.alloc (D t.v 24)).drew.alloc (D t.v 24)):=((M (w2.alloc (D t.v 24)).heap.size (w2.alloc (D t.v 24))).drew).alloc (Za _) _;have ay:ZF (w2.alloc (D t.v 24)).heap.size (w2.alloc (D t.v 24)) (((w2.alloc (D t.v 24)).drew.alloc (D t.v 24)).alloc (D t.v 24)):=(((M (w2.alloc (D t.v 24)).heap.size (w2.alloc (D t.v 24))).drew).alloc (Za _) _).alloc (by simp) _;have ge:=YP d8.out.oh ax;have gd:=YP d8.out.oh ay;have e1:((w2.alloc (D t.v 24)).drew.alloc (D t.v 24)).heap[w2.heap.size]?=(w2.alloc (D t.v 24)).heap[w2.heap.size]?:=ax.block _ (by simp);have e2:(((w2.alloc (D t.v 24)).drew.alloc (D t.v 24)).alloc (D t.v 24)).heap[w2.heap.size]?=(w2.alloc (D t.v 24)).heap[w2.heap.size]?:=ay.block _ (by simp);have n1:((w2.alloc (D t.v 24)).drew.alloc (D t.v 24)).heap[w2.heap.size+1]?=R (D t.v 24):=by have:=ZA (w2.alloc (D t.v 24)).drew (D t.v 24);simpa using this
    have g8:(((w2.alloc (D t.v 24)).drew.alloc (D t.v 24)).alloc (D t.v 24)).heap[w2.heap.size+1]?=R (D t.v 24):=by have:=((M ((w2.alloc (D t.v 24)).drew.alloc (D t.v 24)).heap.size ((w2.alloc (D t.v 24)).drew.alloc (D t.v 24))).alloc (Za _) (D t.v 24)).block (w2.heap.size+1) (by simp);exact this.trans n1
    have fw:(((w2.alloc (D t.v 24)).drew.alloc (D t.v 24)).alloc (D t.v 24)).heap[w2.heap.size+1+1]?=R (D t.v 24):=by have:=ZA ((w2.alloc (D t.v 24)).drew.alloc (D t.v 24)) (D t.v 24);simpa using this
    go_upto_region 10 with fail;refine Zo (S:=fun W=>cL W w2.heap.size 0 (I L t.k)/\cL W w2.heap.size 1 (t.s)) (by kernel_rfl) (HS.out _ rfl) (fun hHeld=>?_);refine qk 0 (v:=?_) rfl (by kernel_rfl) (fun _ _ _ h=>h) (by rfl) hHeld ?_ ?_;rotate_left;(focus (intro w' h;go_split_ands;go_simp;try with_reducible rfl));simp only[Zb,A,B,C];refine qk 1 (v:=?_) rfl (by kernel_rfl) (fun _ _ _ h=>h) (by rfl) hHeld ?_ ?_;rotate_left;(focus (intro w' h;go_split_ands;go_simp;try with_reducible rfl));simp only[Zb,A,B,C];refine qk 4 (v:=?_) rfl (by kernel_rfl) (fun _ _ _ h=>h) (by rfl) hHeld ?_ ?_;rotate_left;(focus (intro w' h;go_split_ands;go_simp;try with_reducible rfl));simp only[Zb,A,B,C];refine qk 5 (v:=?_) rfl (by kernel_rfl) (fun _ _ _ h=>h) (by rfl) hHeld ?_ ?_;rotate_left;(focus (intro w' h;go_split_ands;go_simp;try with_reducible rfl));simp only[Zb,A,B,C];refine CD (i:=2) (j:=6) rfl rfl (by kernel_rfl) (fun K hK=>?_) (fun K hK=>?_)
    .go_simp;refine hK.out _ _ (HS.out _ e1) (fun hHeld=>?_);clear hK K;refine CD (i:=3) (j:=6) rfl rfl (by kernel_rfl) (fun K hK=>?_) (fun K hK=>?_)
     .clear e2 g8 fw gd ay dz dy;refine Zn _ (by rfl) _ _ _ (by rfl) V0.heap.size 24 i0 _ 2 32 Zg br cb cd c9 rfl (by omega) vh ts.length (cellsOf ts) (by rfl) ge ⟨w2.heap.size+1,0,G⟩ 1 1 [I L t.k,t.s] (by rfl) (by rfl) (Zj (cs:=t.v) (t:=24) (fr:=(0,0)) n1) (by simp[Zm]) (by omega) (by unfold ZE;omega) (by omega) (by first|omega|(simp;omega)) (w2.heap.size+1+1) (by simp) ?_;intro g1 c8 w3 ac d ba bf;have bd:=d.size;(try simp at bd)
      refine hK.out _ _ (HS.out _ ((d.block _ (by first|omega|(simp;done)|(simp;omega)) cz).trans e1)) (fun hHeld=>?_);clear hK K;refine U2 (i:=6) rfl (by kernel_rfl) (fun K hK=>?_);go_simp;refine hK.out _ _ (HS.out _ (((M w3.heap.size w3).alloc (Za _) _).block _ (by first|omega|(simp;done)|(simp;omega)) |>.trans ((d.block _ (by first|omega|(simp;done)|(simp;omega)) cz).trans e1))) (fun hHeld=>?_);clear hK K;refine U2 (i:=7) rfl (by kernel_rfl) (fun K hK=>?_);refine Zn _ (by rfl) _ _ _ (by rfl) V0.heap.size 24 i0 _ 2 32 Zg br cb cd c9 rfl (by omega) vw ts.length (cellsOf ts) (by rfl) (YP (d8.out.other ax d) ((M _ _).alloc (Za _) (D t.v 24))) ⟨w3.heap.size,0,G⟩ 1 1 [I L t.k,t.s] (by rfl) (by rfl) (Zj (cs:=t.v) (t:=24) (fr:=(0,0)) (ZA w3 (D t.v 24))) (by simp[Zm]) (by omega) (by unfold ZE;omega) (by omega) (by first|omega|(simp;omega)) (w3.heap.size+1) (by simp) ?_;intro g2 bz w4 ap ab bc co;have b9:=ab.size;(try simp at b9)
      refine hK.out _ _ (HS.out _ ((ab.block _ (by first|omega|(simp;done)|(simp;omega)) fx).trans (((M w3.heap.size w3).alloc (Za _) _).block _ (by first|omega|(simp;done)|(simp;omega)) |>.trans ((d.block _ (by first|omega|(simp;done)|(simp;omega)) cz).trans e1)))) (fun hHeld=>?_);clear hK K;refine qk 8 (v:=?_) rfl (by kernel_rfl) (fun _ _ _ h=>h) (by rfl) hHeld ?_ ?_;rotate_left;(focus (intro w' h;go_split_ands;go_simp;try with_reducible rfl));simp only[Zb,A,B,C];refine qk 9 (v:=?_) rfl (by kernel_rfl) (fun _ _ _ h=>h) (by rfl) hHeld ?_ ?_;rotate_left;(focus (intro w' h;go_split_ands;go_simp;try with_reducible rfl));simp only[Zb,A,B,C];refine Zp (by kernel_rfl) ?_ _;have cu:Zf _:=b7.out ((w2.alloc (D t.v 24)).drew.alloc (D t.v 24)) w3 (w3.alloc (D t.v 24)) w4 g1 c8 g2 bz ax ac d (ba.imp id fun h=>by first|omega|(simp;done)|(simp;omega)) bf ((M _ _).alloc (Za _) _) ap ab (bc.imp id fun h=>by first|omega|(simp;done)|(simp;omega));clear ac d ba bf ap ab bc co b7 bd b9;go_wp2_with fail;rw[<-e9.out];go_roundg (x.l.length-(j+1))
      case measure=>rw[HG.out];omega
      case rel=>exact⟨_,_,j+1,ts++[t],rfl,rfl,by omega,rfl,by go_num,cu⟩
     .clear e1 n1 ge ax dz;go_simp;refine hK.out _ _ (HS.out _ e2) (fun hHeld=>?_);clear hK K;refine U2 (i:=3) rfl (by kernel_rfl) (fun K hK=>?_);refine Zn _ (by rfl) _ _ _ (by rfl) V0.heap.size 24 i0 _ 2 32 Zg br cb cd c9 rfl (by omega) vh ts.length (cellsOf ts) (by rfl) gd ⟨w2.heap.size+1,0,G⟩ 1 1 [I L t.k,t.s] (by rfl) (by rfl) (Zj (cs:=t.v) (t:=24) (fr:=(0,0)) g8) (by simp[Zm]) (by omega) (by unfold ZE;omega) (by omega) (by first|omega|(simp;omega)) (w2.heap.size+1+1+1) (by simp) ?_;intro g1 c8 w3 ac d ba bf;have bd:=d.size;(try simp at bd)
      refine hK.out _ _ (HS.out _ ((d.block _ (by first|omega|(simp;done)|(simp;omega)) cz).trans e2)) (fun hHeld=>?_);clear hK K;refine U2 (i:=7) rfl (by kernel_rfl) (fun K hK=>?_);refine Zn _ (by rfl) _ _ _ (by rfl) V0.heap.size 24 i0 _ 2 32 Zg br cb cd c9 rfl (by omega) vw ts.length (cellsOf ts) (by rfl) (d8.out.other ay d) ⟨w2.heap.size+1+1,0,G⟩ 1 1 [I L t.k,t.s] (by rfl) (by rfl) (Zj (cs:=t.v) (t:=24) (fr:=(0,0)) ((d.block _ (by first|omega|(simp;done)|(simp;omega)) dy).trans fw)) (by simp[Zm]) (by omega) (by unfold ZE;omega) (by omega) (by first|omega|(simp;omega)) (w3.heap.size) (by simp) ?_;intro g2 bz w4 ap ab bc co;have b9:=ab.size;(try simp at b9)
      refine hK.out _ _ (HS.out _ ((ab.block _ (by first|omega|(simp;done)|(simp;omega)) fx).trans ((d.block _ (by first|omega|(simp;done)|(simp;omega)) cz).trans e2))) (fun hHeld=>?_);clear hK K;refine qk 8 (v:=?_) rfl (by kernel_rfl) (fun _ _ _ h=>h) (by rfl) hHeld ?_ ?_;rotate_left;(focus (intro w' h;go_split_ands;go_simp;try with_reducible rfl));simp only[Zb,A,B,C];refine qk 9 (v:=?_) rfl (by kernel_rfl) (fun _ _ _ h=>h) (by rfl) hHeld ?_ ?_;rotate_left;(focus (intro w' h;go_split_ands;go_simp;try with_reducible rfl));simp only[Zb,A,B,C];refine Zp (by kernel_rfl) ?_ _;have cu:Zf _:=b7.out (((w2.alloc (D t.v 24)).drew.alloc (D t.v 24)).alloc (D t.v 24)) w3 w3 w4 g1 c8 g2 bz ay ac d (ba.imp id fun h=>by first|omega|(simp;done)|(simp;omega)) bf (M _ _) ap ab (bc.imp id fun h=>by first|omega|(simp;done)|(simp;omega));clear ac d ba bf ap ab bc co b7 bd b9;go_wp2_with fail;rw[<-e9.out];go_roundg (x.l.length-(j+1))
      case measure=>rw[HG.out];omega
      case rel=>exact⟨_,_,j+1,ts++[t],rfl,rfl,by omega,rfl,by go_num,cu⟩
    .go_simp;refine hK.out _ _ (HS.out _ e1) (fun hHeld=>?_);clear hK K;refine U2 (i:=2) rfl (by kernel_rfl) (fun K hK=>?_);clear e1 n1 ge ax dy;go_simp;refine hK.out _ _ (HS.out _ e2) (fun hHeld=>?_);clear hK K;refine U2 (i:=3) rfl (by kernel_rfl) (fun K hK=>?_);refine Zn _ (by rfl) _ _ _ (by rfl) V0.heap.size 24 i0 _ 2 32 Zg br cb cd c9 rfl (by omega) vh ts.length (cellsOf ts) (by rfl) gd ⟨w2.heap.size+1+1,0,G⟩ 1 1 [I L t.k,t.s] (by rfl) (by rfl) (Zj (cs:=t.v) (t:=24) (fr:=(0,0)) fw) (by simp[Zm]) (by omega) (by unfold ZE;omega) (by omega) (by first|omega|(simp;omega)) (w2.heap.size+1+1+1) (by simp) ?_;intro g1 c8 w3 ac d ba bf;have bd:=d.size;(try simp at bd)
     refine hK.out _ _ (HS.out _ ((d.block _ (by first|omega|(simp;done)|(simp;omega)) cz).trans e2)) (fun hHeld=>?_);clear hK K;refine U2 (i:=7) rfl (by kernel_rfl) (fun K hK=>?_);refine Zn _ (by rfl) _ _ _ (by rfl) V0.heap.size 24 i0 _ 2 32 Zg br cb cd c9 rfl (by omega) vw ts.length (cellsOf ts) (by rfl) (d8.out.other ay d) ⟨w2.heap.size+1,0,G⟩ 1 1 [I L t.k,t.s] (by rfl) (by rfl) (Zj (cs:=t.v) (t:=24) (fr:=(0,0)) ((d.block _ (by first|omega|(simp;done)|(simp;omega)) dz).trans g8)) (by simp[Zm]) (by omega) (by unfold ZE;omega) (by omega) (by first|omega|(simp;omega)) (w3.heap.size) (by simp) ?_;intro g2 bz w4 ap ab bc co;have b9:=ab.size;(try simp at b9)
     refine hK.out _ _ (HS.out _ ((ab.block _ (by first|omega|(simp;done)|(simp;omega)) fx).trans ((d.block _ (by first|omega|(simp;done)|(simp;omega)) cz).trans e2))) (fun hHeld=>?_);clear hK K;refine qk 8 (v:=?_) rfl (by kernel_rfl) (fun _ _ _ h=>h) (by rfl) hHeld ?_ ?_;rotate_left;(focus (intro w' h;go_split_ands;go_simp;try with_reducible rfl));simp only[Zb,A,B,C];refine qk 9 (v:=?_) rfl (by kernel_rfl) (fun _ _ _ h=>h) (by rfl) hHeld ?_ ?_;rotate_left;(focus (intro w' h;go_split_ands;go_simp;try with_reducible rfl));simp only[Zb,A,B,C];refine Zp (by kernel_rfl) ?_ _;have cu:Zf _:=b7.out (((w2.alloc (D t.v 24)).drew.alloc (D t.v 24)).alloc (D t.v 24)) w3 w3 w4 g1 c8 g2 bz ay ac d (ba.imp id fun h=>by first|omega|(simp;done)|(simp;omega)) bf (M _ _) ap ab (bc.imp id fun h=>by first|omega|(simp;done)|(simp;omega));clear ac d ba bf ap ab bc co b7 bd b9;go_wp2_with fail;rw[<-e9.out];go_roundg (x.l.length-(j+1))
     case measure=>rw[HG.out];omega
     case rel=>exact⟨_,_,j+1,ts++[t],rfl,rfl,by omega,rfl,by go_num,cu⟩
   .have hjl:j=x.l.length:=by omega
    have cu:Zf (T2 Q1 V0 vh vw ts ts wr/\ts.length=x.l.length/\(∀q(h:q<ts.length)(h':q<ps.length),ts[q].ty=ps[q].2.2/\Yz 904 ts[q]=Zw)):=⟨HR.out.1,by rw[HR.out.2.1,hjl],HR.out.2.2⟩
    clear HR;go_wp2_with fail;go_meet
    case rel=>exact⟨vh,vw,ts,rfl,rfl,cu⟩
 case rest=>
 obtain⟨vh,vw,ts,ai,ak,HT⟩:=hcut;subst ai ak;have ao:Zf (ts.map Tr.ty=ps.map fun p=>p.2.2):=by
  refine List.ext_getElem ?_ fun q h h'=>?_
  .rw[Zi,Zi,HT.out.2.1,bp.out.1]
  .simp only[List.getElem_map];exact(HT.out.2.2 q (by simpa using h) (by simpa using h')).1
 have de:Zf (ts.length=x.l.length/\∀t,t∈ts->Yz 904 t=Zw):=by refine⟨HT.out.2.1,fun t ht=>?_⟩;obtain⟨q,hq,rfl⟩:=ZJ ht;exact(HT.out.2.2 q hq (by rw[bp.out.1,<-HT.out.2.1];exact hq)).2
 have ff:=Yx ao.out;apply_assumption;refine wp_seq_k fun Kz kn=>?_;go_cut [10] (fun s10 wx=>∃(ah:Option Addr)(ch:Nat)(a:Option Addr)(cc:Nat)(uu:List Tr),vh=H ah ts.length ch/\s10=H a uu.length cc/\Zf (uu.map Tr.ty=us/\P3 x w V0 Q1 ah ch ts a cc uu wx))
 case first=>
  have hB:=b8.out.below HT.out.1.low;have d0:=hB.box.at7.c0;have ia:=hB.lt;clear hB;have jp:x.k=1\/x.k=2\/x.k=3\/x.k=4\/x.k=5\/x.k=6\/x.k=7\/x.k=8\/x.k=9:=by omega
  rcases jp with hk|hk|hk|hk|hk|hk|hk|hk|hk
  ·
   obtain⟨ah,ch,aw,cw,ai,ak,hP⟩:=P3.of HT.out.1 b8.out aa.out.2.2.1
   subst ai ak
   have HN:Zf (ts.map Tr.ty=us/\P3 x w V0 Q1 ah ch ts aw cw ts wc):=by refine⟨?_,hP⟩;have hu:=az.out.2.1;rw[hk,<-ao.out] at hu;have h0:ts=[]:=Zk (by rw[HT.out.2.1,HF.out.2.2.2.2.1,hk];rfl);subst h0;simp[YL] at hu;exact hu.2.symm
   rw[hk] at d0
   clear hk hP HT ao
   go_wp2_with fail
   go_meet
   case rel=>exact⟨ah,ch,aw,cw,ts,rfl,rfl,HN⟩
  ·
   obtain⟨ah,ch,aw,cw,ai,ak,hP⟩:=P3.of HT.out.1 b8.out aa.out.2.2.1
   subst ai ak
   have HN:Zf (ts.map Tr.ty=us/\P3 x w V0 Q1 ah ch ts aw cw ts wc):=by refine⟨?_,hP⟩;have hu:=az.out.2.1;rw[hk,<-ao.out] at hu;have h0:ts=[]:=Zk (by rw[HT.out.2.1,HF.out.2.2.2.2.1,hk];rfl);subst h0;simp[YL] at hu;exact hu.2.symm
   rw[hk] at d0
   clear hk hP HT ao
   go_wp2_with fail
   go_meet
   case rel=>exact⟨ah,ch,aw,cw,ts,rfl,rfl,HN⟩
  ·
   obtain⟨ah,ch,aw,cw,ai,ak,hP⟩:=P3.of HT.out.1 b8.out aa.out.2.2.1
   subst ai ak
   have HN:Zf (ts.map Tr.ty=us/\P3 x w V0 Q1 ah ch ts aw cw ts wc):=by refine⟨?_,hP⟩;have hu:=az.out.2.1;rw[hk,<-ao.out] at hu;have h0:ts=[]:=Zk (by rw[HT.out.2.1,HF.out.2.2.2.2.1,hk];rfl);subst h0;simp[YL] at hu;exact hu.2.symm
   rw[hk] at d0
   clear hk hP HT ao
   go_wp2_with fail
   go_meet
   case rel=>exact⟨ah,ch,aw,cw,ts,rfl,rfl,HN⟩
  ·
   obtain⟨t0,t1,rfl⟩:∃t0 t1,ts=[t0,t1]:=by
    match ts,(show ts.length=2 by rw[HT.out.2.1,HF.out.2.2.2.2.1,hk];rfl) with
    |[t0,t1],_=>exact⟨t0,t1,rfl⟩
   obtain⟨ah,ch,g,cw,ai,ak,hP⟩:=P2.of HT.out.1 b8.out aa.out.2.2.1 (by simp)
   subst ai ak
   obtain⟨b0,o0,bk,c0,c1,_⟩:=hP.wv.part 0 (by simp)
   obtain⟨rfl,rfl⟩:g=b0/\0=o0:=by simpa using bk
   obtain⟨b1,o1,c7,c2,c3,_⟩:=hP.wv.part 1 (by simp)
   obtain⟨rfl,rfl⟩:g=b1/\0=o1:=by simpa using c7
   simp only[Ze,Zh,Zr,Zs,Zd,ZH] at c0 c1 c2 c3
   have n0:=hP.bx.n0
   have n1:=hP.bx.n1
   have am:=hP.wf
   have bi:=hP.gl
   have lg:=bi.2.2
   have HS:Zf (∀W,Yi g G wc W->(fun W=>cL W (w.heap.size+1+1) 0 (I L 1)/\cL W (w.heap.size+1+1) 1 (H G 0 0)) W):=fun W h=>⟨h.cell n0 (by omega),h.cell n1 (by omega)⟩
   have HN:Zf ([Yr 1,Yr 1].map Tr.ty=us/\P3 x w V0 Q1 ah ch [t0,t1] (R ⟨g,0,G⟩) cw [Yr 1,Yr 1] ((((wc.drew.setCell ⟨g,0,G⟩ (I L 1)).setCell ⟨g,1,G⟩ (H G 0 0)).setCell ⟨g,2,G⟩ (I L 1)).setCell ⟨g,3,G⟩ (H G 0 0))):=by
    refine⟨?_,?_⟩
    .have hu:=az.out.2.1;rw[hk] at hu;simp[YL] at hu;rw[<-hu.2];simp[XS]
    .have h1:=(hP.below ((M _ _).drew)).set (j:=0) (o:=0) (o1:=1) (u:=Yr 1) (by simp) rfl rfl (YB 1 _) (YG 1 _);have h2:=h1.set (j:=1) (o:=2) (o1:=3) (u:=Yr 1) (by simp) rfl rfl (YB 1 _) (YG 1 _);exact h2.fin aa.out.2.2.1
   have i9:=am 0
   have gn:=am 1
   have jh:=am 2
   have j5:=am 3
   have js:cL wc.drew g 0 (I L t0.k):=c0
   have j3:cL wc.drew g 1 (t0.s):=c1
   have k5:cL wc.drew g 2 (I L t1.k):=c2
   have j7:cL wc.drew g 3 (t1.s):=c3
   rw[hk] at d0
   clear hk hP HT ao bk c7 bi
   go_upto_region 15 with fail
   refine Zo (S:=fun W=>cL W (w.heap.size+1+1) 0 (I L 1)/\cL W (w.heap.size+1+1) 1 (H G 0 0)) (by kernel_rfl) (HS.out _ (Yi.of_below ((M _ _).drew))) (fun hHeld=>?_)
   refine qk 0 (v:=?_) rfl (by kernel_rfl) (fun _ _ _ h=>h) (by rfl) hHeld ?_ ?_;rotate_left;(focus (intro w' h;go_split_ands;go_simp;try with_reducible rfl));simp only[Zb,A,B,C]
   refine qk 1 (v:=?_) rfl (by kernel_rfl) (fun _ _ _ h=>h) (by rfl) hHeld ?_ ?_;rotate_left;(focus (intro w' h;go_split_ands;go_simp;try with_reducible rfl));simp only[Zb,A,B,C]
   refine qk 2 (v:=?_) rfl (by kernel_rfl) (fun _ _ _ h=>h) (by rfl) hHeld ?_ ?_;rotate_left;(focus (intro w' h;go_split_ands;go_simp;try with_reducible rfl));simp only[Zb,A,B,C]
   refine qk 3 (v:=?_) rfl (by kernel_rfl) (fun _ _ _ h=>h) (by rfl) hHeld ?_ ?_;rotate_left;(focus (intro w' h;go_split_ands;go_simp;try with_reducible rfl));simp only[Zb,A,B,C]
   refine qk 4 (v:=?_) rfl (by kernel_rfl) (fun _ _ _ h=>h) (by rfl) hHeld ?_ ?_;rotate_left;(focus (intro w' h;go_split_ands;go_simp;try with_reducible rfl));simp only[Zb,A,B,C]
   refine U2 (i:=5) rfl (by kernel_rfl) (fun K hK=>?_)
   go_simp
   refine hK.out _ _ (HS.out _ ((Yi.of_below ((M _ _).drew)).trans (Yj.trans Yj))) (fun hHeld=>?_)
   clear hK K
   refine qk 6 (v:=?_) rfl (by kernel_rfl) (fun _ _ _ h=>h) (by rfl) hHeld ?_ ?_;rotate_left;(focus (intro w' h;go_split_ands;go_simp;try with_reducible rfl));simp only[Zb,A,B,C]
   refine U2 (i:=7) rfl (by kernel_rfl) (fun K hK=>?_)
   go_simp
   refine hK.out _ _ (HS.out _ ((Yi.of_below ((M _ _).drew)).trans (Yj.trans (Yj.trans (Yj.trans Yj))))) (fun hHeld=>?_)
   clear hK K
   refine Zp (by kernel_rfl) ?_ _
   go_wp2_with fail
   go_meet
   case rel=>exact⟨ah,ch,R ⟨g,0,G⟩,cw,[Yr 1,Yr 1],rfl,rfl,HN⟩
  ·
   obtain⟨t0,t1,rfl⟩:∃t0 t1,ts=[t0,t1]:=by
    match ts,(show ts.length=2 by rw[HT.out.2.1,HF.out.2.2.2.2.1,hk];rfl) with
    |[t0,t1],_=>exact⟨t0,t1,rfl⟩
   obtain⟨ah,ch,g,cw,ai,ak,hP⟩:=P2.of HT.out.1 b8.out aa.out.2.2.1 (by simp)
   subst ai ak
   obtain⟨b0,o0,bk,c0,c1,_⟩:=hP.wv.part 0 (by simp)
   obtain⟨rfl,rfl⟩:g=b0/\0=o0:=by simpa using bk
   obtain⟨b1,o1,c7,c2,c3,_⟩:=hP.wv.part 1 (by simp)
   obtain⟨rfl,rfl⟩:g=b1/\0=o1:=by simpa using c7
   simp only[Ze,Zh,Zr,Zs,Zd,ZH] at c0 c1 c2 c3
   have n0:=hP.bx.n0
   have n1:=hP.bx.n1
   have am:=hP.wf
   have bi:=hP.gl
   have lg:=bi.2.2
   have HS:Zf (∀W,Yi g G wc W->(fun W=>cL W (w.heap.size+1+1) 0 (I L 1)/\cL W (w.heap.size+1+1) 1 (H G 0 0)) W):=fun W h=>⟨h.cell n0 (by omega),h.cell n1 (by omega)⟩
   have HN:Zf ([Yr 1,Yr 1].map Tr.ty=us/\P3 x w V0 Q1 ah ch [t0,t1] (R ⟨g,0,G⟩) cw [Yr 1,Yr 1] ((((wc.drew.setCell ⟨g,0,G⟩ (I L 1)).setCell ⟨g,1,G⟩ (H G 0 0)).setCell ⟨g,2,G⟩ (I L 1)).setCell ⟨g,3,G⟩ (H G 0 0))):=by
    refine⟨?_,?_⟩
    .have hu:=az.out.2.1;rw[hk] at hu;simp[YL] at hu;rw[<-hu.2];simp[XS]
    .have h1:=(hP.below ((M _ _).drew)).set (j:=0) (o:=0) (o1:=1) (u:=Yr 1) (by simp) rfl rfl (YB 1 _) (YG 1 _);have h2:=h1.set (j:=1) (o:=2) (o1:=3) (u:=Yr 1) (by simp) rfl rfl (YB 1 _) (YG 1 _);exact h2.fin aa.out.2.2.1
   have i9:=am 0
   have gn:=am 1
   have jh:=am 2
   have j5:=am 3
   have js:cL wc.drew g 0 (I L t0.k):=c0
   have j3:cL wc.drew g 1 (t0.s):=c1
   have k5:cL wc.drew g 2 (I L t1.k):=c2
   have j7:cL wc.drew g 3 (t1.s):=c3
   rw[hk] at d0
   clear hk hP HT ao bk c7 bi
   go_upto_region 15 with fail
   refine Zo (S:=fun W=>cL W (w.heap.size+1+1) 0 (I L 1)/\cL W (w.heap.size+1+1) 1 (H G 0 0)) (by kernel_rfl) (HS.out _ (Yi.of_below ((M _ _).drew))) (fun hHeld=>?_)
   refine qk 0 (v:=?_) rfl (by kernel_rfl) (fun _ _ _ h=>h) (by rfl) hHeld ?_ ?_;rotate_left;(focus (intro w' h;go_split_ands;go_simp;try with_reducible rfl));simp only[Zb,A,B,C]
   refine qk 1 (v:=?_) rfl (by kernel_rfl) (fun _ _ _ h=>h) (by rfl) hHeld ?_ ?_;rotate_left;(focus (intro w' h;go_split_ands;go_simp;try with_reducible rfl));simp only[Zb,A,B,C]
   refine qk 2 (v:=?_) rfl (by kernel_rfl) (fun _ _ _ h=>h) (by rfl) hHeld ?_ ?_;rotate_left;(focus (intro w' h;go_split_ands;go_simp;try with_reducible rfl));simp only[Zb,A,B,C]
   refine qk 3 (v:=?_) rfl (by kernel_rfl) (fun _ _ _ h=>h) (by rfl) hHeld ?_ ?_;rotate_left;(focus (intro w' h;go_split_ands;go_simp;try with_reducible rfl));simp only[Zb,A,B,C]
   refine qk 4 (v:=?_) rfl (by kernel_rfl) (fun _ _ _ h=>h) (by rfl) hHeld ?_ ?_;rotate_left;(focus (intro w' h;go_split_ands;go_simp;try with_reducible rfl));simp only[Zb,A,B,C]
   refine U2 (i:=5) rfl (by kernel_rfl) (fun K hK=>?_)
   go_simp
   refine hK.out _ _ (HS.out _ ((Yi.of_below ((M _ _).drew)).trans (Yj.trans Yj))) (fun hHeld=>?_)
   clear hK K
   refine qk 6 (v:=?_) rfl (by kernel_rfl) (fun _ _ _ h=>h) (by rfl) hHeld ?_ ?_;rotate_left;(focus (intro w' h;go_split_ands;go_simp;try with_reducible rfl));simp only[Zb,A,B,C]
   refine U2 (i:=7) rfl (by kernel_rfl) (fun K hK=>?_)
   go_simp
   refine hK.out _ _ (HS.out _ ((Yi.of_below ((M _ _).drew)).trans (Yj.trans (Yj.trans (Yj.trans Yj))))) (fun hHeld=>?_)
   clear hK K
   refine Zp (by kernel_rfl) ?_ _
   go_wp2_with fail
   go_meet
   case rel=>exact⟨ah,ch,R ⟨g,0,G⟩,cw,[Yr 1,Yr 1],rfl,rfl,HN⟩
  ·
   obtain⟨t0,t1,t2,rfl⟩:∃t0 t1 t2,ts=[t0,t1,t2]:=by
    match ts,(show ts.length=3 by rw[HT.out.2.1,HF.out.2.2.2.2.1,hk];rfl) with
    |[t0,t1,t2],_=>exact⟨t0,t1,t2,rfl⟩
   obtain⟨ah,ch,g,cw,ai,ak,hP⟩:=P2.of HT.out.1 b8.out aa.out.2.2.1 (by simp)
   subst ai ak
   obtain⟨b1,o1,ez,c2,c3,ft⟩:=hP.hv.part 1 (by simp)
   obtain⟨b2,o2,ep,c4,c5,gb⟩:=hP.hv.part 2 (by simp)
   simp only at ez ep
   rw[ez] at ep
   obtain⟨rfl,rfl⟩:b1=b2/\o1=o2:=by simpa using ep
   simp only[Ze,Zh,ZH,show 2*2=4 from rfl] at c2 c3 c4 c5 ft gb
   have gw:=de.out.2 t1 (by simp)
   have ij:=de.out.2 t2 (by simp)
   obtain⟨p1,h1,s1⟩:=YR (by omega) gw
   obtain⟨p2,h2,s2⟩:=YR (by omega) ij
   have lb:b1<wc.heap.size:=F _ _ c2
   have HS:Zf (∀W,bL wc W->(fun W=>cL W b1 (o1+2) (I L t1.k)/\cL W b1 (o1+3) (t1.s)/\cL W b1 (o1+4) (I L t2.k)/\cL W b1 (o1+5) (t2.s)) W):=fun W h=>⟨Zc h c2,Zc h c3,Zc h c4,Zc h c5⟩
   have HJ:Zf (∀W,bL wc W->ZG Zq 92 #[ZB t1.v,ZB t2.v] W fun e w'=>∃u:Tr,e=ZC (ZB u.v)/\Zf (u.ty=Xl t1.ty t2.ty)/\u.In w'/\u.Bl (W.heap.size<=·)/\bL W w'):=fun W h=>Ox 1000 t1 t2 W (ft.below h) (gb.below h) p1 p2 h1
   have cm:Zf (∀(X:ZL)(u:Tr),ZF wc.heap.size wc X->Zf (u.ty=Xl t1.ty t2.ty)->u.In X->u.Bl (wc.heap.size<=·)->Zf ([Yr 2,u,u].map Tr.ty=us/\P3 x w V0 Q1 ah ch [t0,t1,t2] (R ⟨X.heap.size,0,G⟩) 3 [Yr 2,u,u] (X.alloc (D #[I L 2,H G 0 0,I L u.k,H u.a u.l.length u.c,I L u.k,H u.a u.l.length u.c] 24)))):=by
    intro X u hX hu da ci;have dk:=hP.below hX;have cx:∀O,bL X (X.alloc O):=fun O=>(M _ _).alloc (Za _) _;have fh:=ci.mono fun b hb=>aa.out.2.2.1 b (by omega);refine⟨?_,?_⟩
    .have hr:=az.out.2.1;rw[hk,<-ao.out] at hr;have en:T6 ⟨2,[]⟩ t1.ty t2.ty=R (WC,us):=by simpa[YL] using hr
     unfold T6 at en;split at en
     .cases en
      simp only[ZI,List.map_nil,XS];rw[hu.out]
     .cases en
    .refine⟨(dk.hv).below (cx _),dk.hb.mono fun b hb=>hb.1,?_,?_,dk.bx.below (cx _),dk.low.trans ((cx _).mono dk.low.size)⟩
     .exact Sj (by simp[go_sem,Yr]) (by simp[go_sem,Yr]) (by simp[go_sem]) (by simp[go_sem]) (by simp[go_sem]) (by simp[go_sem]) (YB 2 _) (da.below (cx _)) (da.below (cx _))
     .refine Tr.Bl_mk.2 ⟨fun _ y hy=>by cases hy;exact aa.out.2.2.1 _ (by have:=hX.size;show _<=X.heap.size;omega),fun t ht=>?_⟩;simp only[ZD,List.not_mem_nil,or_false] at ht;rcases ht with rfl|rfl|rfl
      .exact YG 2 _
      .exact fh
      .exact fh
   have gs:=Yx ez
   subst ez
   rw[hk] at d0
   clear hk hP HT ao ep gw ij p1 h1 s1 p2 h2 s2 ft gb
   have bs:bL wc wc.drew:=(M _ _).drew
   have be:bL wc (wc.drew.alloc (D #[I L 0,H G 0 0] 24)):=bs.alloc (Za _) _
   go_upto_region 17 with fail
   refine Zo (S:=fun W=>cL W b1 (o1+2) (I L t1.k)/\cL W b1 (o1+3) (t1.s)/\cL W b1 (o1+4) (I L t2.k)/\cL W b1 (o1+5) (t2.s)) (by kernel_rfl) (HS.out _ bs) (fun hHeld=>?_)
   refine qk 0 (v:=?_) rfl (by kernel_rfl) (fun _ _ _ h=>h) (by rfl) hHeld ?_ ?_;rotate_left;(focus (intro w' h;go_split_ands;go_simp;try with_reducible rfl));simp only[Zb,A,B,C]
   refine qk 1 (v:=?_) rfl (by kernel_rfl) (fun _ _ _ h=>h) (by rfl) hHeld ?_ ?_;rotate_left;(focus (intro w' h;go_split_ands;go_simp;try with_reducible rfl));simp only[Zb,A,B,C]
   refine Po (i:=2) (v:=?_) rfl (by kernel_rfl) (by kernel_rfl) (by kernel_rfl) (fun _ _ _ h=>h) (Or.inl ⟨by rfl,?_⟩) hHeld ?_;rotate_left;(focus (intro w' cr;(try dsimp only at cr);go_split_ands;first|(go_simp;done)|(go_simp;with_reducible rfl)));simp only[Zb,A,B,C]
   refine Po (i:=3) (v:=?_) rfl (by kernel_rfl) (by kernel_rfl) (by kernel_rfl) (fun _ _ _ h=>h) (Or.inl ⟨by rfl,?_⟩) hHeld ?_;rotate_left;(focus (intro w' cr;(try dsimp only at cr);go_split_ands;first|(go_simp;done)|(go_simp;with_reducible rfl)));simp only[Zb,A,B,C]
   refine Po (i:=4) (v:=?_) rfl (by kernel_rfl) (by kernel_rfl) (by kernel_rfl) (fun _ _ _ h=>h) (Or.inl ⟨by rfl,?_⟩) hHeld ?_;rotate_left;(focus (intro w' cr;(try dsimp only at cr);go_split_ands;first|(go_simp;done)|(go_simp;with_reducible rfl)));simp only[Zb,A,B,C]
   refine Po (i:=5) (v:=?_) rfl (by kernel_rfl) (by kernel_rfl) (by kernel_rfl) (fun _ _ _ h=>h) (Or.inl ⟨by rfl,?_⟩) hHeld ?_;rotate_left;(focus (intro w' cr;(try dsimp only at cr);go_split_ands;first|(go_simp;done)|(go_simp;with_reducible rfl)));simp only[Zb,A,B,C]
   refine CD (i:=6) (j:=7) rfl rfl (by kernel_rfl) (fun K hK=>?_) (fun K hK=>?_)
   .go_simp;go_at_call 92;refine(HJ.out _ bs).mono ?_;rintro e w4 ⟨u,rfl,hu,da,ci,ca⟩;have aq:ZF wc.heap.size wc w4:=bs.trans (ca.mono bs.size);have g9:ZF w4.heap.size w4 (w4.alloc (D #[I L 0,H G 0 0] 24)):=(M _ _).alloc (Za _) _;have dm:=aq.trans (g9.mono aq.size);refine hK.out _ _ (HS.out _ aq) (fun hHeld=>?_);clear hK K;refine U2 (i:=7) rfl (by kernel_rfl) (fun K hK=>?_);go_simp;refine hK.out _ _ (HS.out _ dm) (fun hHeld=>?_);clear hK K;obtain⟨Z,hZ⟩:∃Z,Z=w4.alloc (D #[I L 0,H G 0 0] 24):=⟨_,rfl⟩
    have z0:Z.cell? ⟨w4.heap.size,0,G⟩=R (I L 0):=by rw[hZ];simp[go_sem]
    have z1:Z.cell? ⟨w4.heap.size,1,G⟩=R (H G 0 0):=by rw[hZ];simp[go_sem]
    have fb:Z.frozen? ⟨w4.heap.size,0,G⟩=Zz:=by rw[hZ];simp[go_sem]
    have er:Z.frozen? ⟨w4.heap.size,1,G⟩=Zz:=by rw[hZ];simp[go_sem]
    have dt:u.In Z:=by rw[hZ];exact da.below g9
    have db:u.Bl (·≠w4.heap.size):=da.bl.mono fun b hb=>by omega
    have ce:ZF wc.heap.size wc Z:=by rw[hZ];exact dm
    have cn:u.Bl (wc.heap.size<=·):=ci.mono fun b hb=>hb;have au:wc.heap.size<=w4.heap.size:=aq.size;have lJ:w4.heap.size<Z.heap.size:=F _ _ z0;rw[<-hZ];rw[<-hZ] at hHeld;clear hZ dm g9 da ci ca;generalize w4.heap.size=JB at *;have dw:Zf _:=cm.out ((Z.setCell ⟨JB,0,G⟩ (I L u.k)).setCell ⟨JB,1,G⟩ (H u.a u.l.length u.c)) u ((ce.setCell au _).setCell au _) hu (XV (io:=0) dt db) cn;have cq:=XC (io:=0) (u:=I L u.k) (v:=u.s) z0 z1;have dv:bL wc ((Z.setCell ⟨JB,0,G⟩ (I L u.k)).setCell ⟨JB,1,G⟩ (u.s)):=(ce.setCell au _).setCell au _;have dl:Zf _:=HS.out _ dv;clear dv;simp only[Zd] at cq;refine U2 (i:=8) rfl (by kernel_rfl) (fun K hK=>?_);go_simp;refine hK.out _ _ dl.out (fun hHeld=>?_);clear hK K;refine Zp (by kernel_rfl) ?_ _;obtain⟨X,hX⟩:∃X,X=((Z.setCell ⟨JB,0,G⟩ (I L u.k)).setCell ⟨JB,1,G⟩ (H u.a u.l.length u.c)):=⟨_,rfl⟩
    rw[<-hX] at dw cq;rw[<-hX];obtain⟨k0,k1⟩:=cq;have lX:JB<X.heap.size:=F _ _ k0;clear hX dl hHeld z0 z1 fb er dt db ce cn au lJ hu;go_wp2_with fail;go_meet
    case rel=>exact⟨R ⟨b1,o1,G⟩,ch,R ⟨X.heap.size,0,G⟩,3,[Yr 2,u,u],rfl,rfl,dw.out⟩
   .go_simp;refine hK.out _ _ (HS.out _ be) (fun hHeld=>?_);clear hK K;refine U2 (i:=6) rfl (by kernel_rfl) (fun K hK=>?_);go_simp;go_at_call 92;refine(HJ.out _ be).mono ?_;rintro e Z ⟨u,rfl,hu,dt,ci,ca⟩;have ce:=be.trans (ca.mono be.size);refine hK.out _ _ (HS.out _ ce) (fun hHeld=>?_);clear hK K;have z0:Z.cell? ⟨wc.heap.size,0,G⟩=R (I L 0):=Zc ca (by simp[go_sem]);have z1:Z.cell? ⟨wc.heap.size,1,G⟩=R (H G 0 0):=Zc ca (by simp[go_sem]);have fb:Z.frozen? ⟨wc.heap.size,0,G⟩=Zz:=(ca.frozen (p:=⟨wc.heap.size,0,G⟩) (by simp)).trans (by simp[go_sem]);have er:Z.frozen? ⟨wc.heap.size,1,G⟩=Zz:=(ca.frozen (p:=⟨wc.heap.size,1,G⟩) (by simp)).trans (by simp[go_sem]);have db:u.Bl (·≠wc.heap.size):=ci.mono fun b hb=>by simp at hb;omega
    have cn:u.Bl (wc.heap.size<=·):=ci.mono fun b hb=>by simp at hb;omega
    have lJ:wc.heap.size<Z.heap.size:=F _ _ z0;have au:wc.heap.size<=wc.heap.size:=Za _;obtain⟨JB,hJ⟩:∃J,J=wc.heap.size:=⟨_,rfl⟩
    rw[<-hJ] at z0 z1 fb er db lJ;have au:wc.heap.size<=JB:=by omega
    rw[show (R ⟨wc.heap.size,0,G⟩:Option Addr)=R ⟨JB,0,G⟩ by rw[hJ]];clear hJ ci ca;have dw:Zf _:=cm.out ((Z.setCell ⟨JB,0,G⟩ (I L u.k)).setCell ⟨JB,1,G⟩ (u.s)) u ((ce.setCell au _).setCell au _) hu (XV (io:=0) dt db) cn;have cq:=XC (io:=0) (u:=I L u.k) (v:=u.s) z0 z1;have dv:bL wc ((Z.setCell ⟨JB,0,G⟩ (I L u.k)).setCell ⟨JB,1,G⟩ (u.s)):=(ce.setCell au _).setCell au _;have dl:Zf _:=HS.out _ dv;clear dv;simp only[Zd] at cq;refine U2 (i:=8) rfl (by kernel_rfl) (fun K hK=>?_);go_simp;refine hK.out _ _ dl.out (fun hHeld=>?_);clear hK K;refine Zp (by kernel_rfl) ?_ _;obtain⟨X,hX⟩:∃X,X=((Z.setCell ⟨JB,0,G⟩ (I L u.k)).setCell ⟨JB,1,G⟩ (H u.a u.l.length u.c)):=⟨_,rfl⟩
    rw[<-hX] at dw cq;rw[<-hX];obtain⟨k0,k1⟩:=cq;have lX:JB<X.heap.size:=F _ _ k0;clear hX dl hHeld z0 z1 fb er dt db ce cn au lJ hu;go_wp2_with fail;go_meet
    case rel=>exact⟨R ⟨b1,o1,G⟩,ch,R ⟨X.heap.size,0,G⟩,3,[Yr 2,u,u],rfl,rfl,dw.out⟩
  ·
   obtain⟨ah,ch,aw,cw,ai,ak,hP⟩:=P3.of HT.out.1 b8.out aa.out.2.2.1
   subst ai ak
   have HN:Zf (ts.map Tr.ty=us/\P3 x w V0 Q1 ah ch ts aw cw ts wc):=by
    refine⟨?_,hP⟩;have hu:=az.out.2.1;rw[hk,<-ao.out] at hu;have:R (Ty.mk 3 [x.t.ty,(ts.map Tr.ty).getD 0 ⟨0,[]⟩],ts.map Tr.ty)=R (WC,us):=by simpa[YL] using hu
    cases this
    rfl
   rw[hk] at d0
   clear hk hP HT ao
   go_wp2_with fail
   go_meet
   case rel=>exact⟨ah,ch,aw,cw,ts,rfl,rfl,HN⟩
  ·
   obtain⟨t0,t1,rfl⟩:∃t0 t1,ts=[t0,t1]:=by
    match ts,(show ts.length=2 by rw[HT.out.2.1,HF.out.2.2.2.2.1,hk];rfl) with
    |[t0,t1],_=>exact⟨t0,t1,rfl⟩
   obtain⟨ah,ch,g,cw,ai,ak,hP⟩:=P2.of HT.out.1 b8.out aa.out.2.2.1 (by simp)
   subst ai ak
   obtain⟨b0,o0,bk,c0,c1,_⟩:=hP.wv.part 0 (by simp)
   obtain⟨rfl,rfl⟩:g=b0/\0=o0:=by simpa using bk
   obtain⟨b1,o1,c7,c2,c3,_⟩:=hP.wv.part 1 (by simp)
   obtain⟨rfl,rfl⟩:g=b1/\0=o1:=by simpa using c7
   simp only[Ze,Zh,Zr,Zs,Zd,ZH] at c0 c1 c2 c3
   obtain⟨bh,oh,ea,e0,e1,d1⟩:=hP.hv.part 0 (by simp)
   simp only[Ze,Zr,Zs] at e0 e1 ea d1
   subst ea
   have am:=hP.wf
   have bi:=hP.gl
   have lg:=bi.2.2
   have fu:bh<wc.heap.size:=F _ _ e0
   have ae:X2 t0.ty=R (WC,us):=by have hr:=az.out.2.1;rw[hk,<-ao.out] at hr;simpa[YL] using hr
   obtain⟨p0,_,_⟩:=YR (by omega) (de.out.2 t0 (by simp))
   by_cases hz:t0.k=0
   .have gf:Zf (us=[⟨3,[⟨0,[]⟩,⟨0,[]⟩]⟩,⟨0,[]⟩]):=by
     unfold X2 at ae;rw[Tr.ty_k,if_pos hz] at ae;cases ae
     rfl
    have il:Zf (∀W,bL wc W->ZG Zq 93 #[ZB #[I L 0,H G 0 0],ZB #[I L 0,H G 0 0]] W fun e w'=>∃gg,e=ZC (ZB #[I L 3,H (R ⟨gg,0,G⟩) 2 2])/\Zf ((Tr.mk 3 (R ⟨gg,0,G⟩) 2 [Yr 0,Yr 0]).In w'/\wc.heap.size<=gg)/\bL wc w'):=fun W h=>by refine(Qs (Yr 0) (Yr 0) W (YB 0 _) (YB 0 _)).mono ?_;rintro e w' ⟨gg,kx,rfl,hi,hb⟩;exact⟨gg,rfl,⟨hi,by have:=h.size;omega⟩,h.trans (hb.mono h.size)⟩
    have j8:Zf (∀W,bL wc W->ZG Zq 56 #[] W fun e w'=>e=ZC (ZB #[I L 0,H G 0 0])/\bL wc w'):=fun W h=>by refine(UO W).mono ?_;rintro e w' ⟨rfl,rfl⟩;exact⟨rfl,h.alloc h.size _⟩
    have cm:Zf (∀(W:ZL)(gg:Nat),bL wc W->Zf ((Tr.mk 3 (R ⟨gg,0,G⟩) 2 [Yr 0,Yr 0]).In W/\wc.heap.size<=gg)->Zf ([Tr.mk 3 (R ⟨gg,0,G⟩) 2 [Yr 0,Yr 0],Yr 0].map Tr.ty=us/\P3 x w V0 Q1 (R ⟨bh,oh,G⟩) ch [t0,t1] (R ⟨g,0,G⟩) cw [Tr.mk 3 (R ⟨gg,0,G⟩) 2 [Yr 0,Yr 0],Yr 0] ((((W.setCell ⟨g,0,G⟩ (I L 3)).setCell ⟨g,1,G⟩ (H (R ⟨gg,0,G⟩) 2 2)).setCell ⟨g,2,G⟩ (I L 0)).setCell ⟨g,3,G⟩ (H G 0 0)))):=by intro W gg hW hF;refine⟨by rw[gf.out];simp[Tr.ty_mk,XS],?_⟩;have k4:(Tr.mk 3 (R ⟨gg,0,G⟩) 2 [Yr 0,Yr 0]).Bl (fun b=>Q1 b/\b≠g):=Tr.Bl_two ⟨aa.out.2.2.1 gg (by have:=hF.out.2;omega),by have:=hF.out.2;omega⟩ (YG 0 _) (YG 0 _);have h1:=(hP.below hW).set (j:=0) (o:=0) (o1:=1) (u:=Tr.mk 3 (R ⟨gg,0,G⟩) 2 [Yr 0,Yr 0]) (by simp) rfl rfl hF.out.1 k4;have h2:=h1.set (j:=1) (o:=2) (o1:=3) (u:=Yr 0) (by simp) rfl rfl (YB 0 _) (YG 0 _);exact h2.fin aa.out.2.2.1
    have jt:Zf (∀W,bL wc W->cL W g 0 (I L t0.k)/\cL W g 1 (t0.s)/\cL W g 2 (I L t1.k)/\cL W g 3 (t1.s)/\W.frozen? ⟨g,0,G⟩=Zz/\W.frozen? ⟨g,1,G⟩=Zz/\W.frozen? ⟨g,2,G⟩=Zz/\W.frozen? ⟨g,3,G⟩=Zz):=fun W h=>⟨Zc h c0,Zc h c1,Zc h c2,Zc h c3,(h.frozen (p:=⟨g,0,G⟩) lg).trans (am 0),(h.frozen (p:=⟨g,1,G⟩) lg).trans (am 1),(h.frozen (p:=⟨g,2,G⟩) lg).trans (am 2),(h.frozen (p:=⟨g,3,G⟩) lg).trans (am 3)⟩
    rw[hz] at e0;rw[hk] at d0;have aq:bL wc wc:=M _ _;clear hk hP HT ao bk c7 bi ae p0 d1 c0 c1 c2 c3 am hz;go_wp2_with (first
     |(go_at_call 56;refine(j8.out _ aq).mono ?_;rintro e wA ⟨rfl,iz⟩;replace aq:=iz)
     |(go_at_call 93;refine(il.out _ aq).mono ?_;rintro e w5 ⟨gg,rfl,hF,g4⟩;obtain⟨c0,c1,c2,c3,f0,f1,f2,f3⟩:=jt.out _ g4;obtain⟨b5,o5,e5,y0,y1,_⟩:=hF.out.1.part 0 (by simp);obtain⟨rfl,rfl⟩:gg=b5/\0=o5:=(by simpa using e5);simp only[Ze,Zr,Zs,Zd,Yr,List.length_nil] at y0 y1;have ke:g<w5.heap.size:=F _ _ c0;have kt:gg<w5.heap.size:=F _ _ y0;have ir:gg≠g:=(by have:=hF.out.2;omega);have kc:g≠gg:=(fun e=>ir e.symm)))
    have HN:Zf _:=cm.out _ gg g4 hF;clear cm hF g4 aq;go_meet
    case rel=>exact⟨R ⟨bh,oh,G⟩,ch,R ⟨g,0,G⟩,cw,[Tr.mk 3 (R ⟨gg,0,G⟩) 2 [Yr 0,Yr 0],Yr 0],rfl,rfl,HN.out⟩
   .have h3:t0.k=3:=by
     unfold X2 at ae;rw[Tr.ty_k,if_neg hz] at ae;split at ae
     .assumption
     .cases ae
    obtain⟨u,v,hl⟩:∃u v,t0.l=[u,v]:=by
     rcases p0.cases with⟨_,hk⟩|⟨u,v,hl,_⟩
     .omega
     .exact⟨u,v,hl⟩
    have gf:Zf (us=[t0.ty,u.ty]):=by
     unfold X2 at ae;rw[Tr.ty_k,if_neg hz,if_pos h3,Tr.ty_l,hl] at ae;cases ae
     rfl
    obtain⟨g2,o2,eb,y0,y1,fn⟩:=d1.part 0 (by simp[hl]);simp only[hl,Ze,Zr,Zs] at y0 y1 fn;have dr:t0.l.length=2:=by rw[hl];rfl
    have gc:=hP.wb t0 (by simp);have ic:u.Bl (fun b=>Q1 b/\b≠g):=by obtain⟨k,a,c,l⟩:=t0;simp only at hl;exact(Tr.Bl_mk.1 gc).2 u (by rw[hl];simp)
    have hh:g2≠g:=by obtain⟨k,a,c,l⟩:=t0;simp only at eb hl;exact((Tr.Bl_mk.1 gc).1 (by rw[hl];simp) _ eb).2
    have jq:g≠g2:=fun e=>hh e.symm;have kz:g2<wc.heap.size:=F _ _ y0;have HN:Zf ([t0,u].map Tr.ty=us/\P3 x w V0 Q1 (R ⟨bh,oh,G⟩) ch [t0,t1] (R ⟨g,0,G⟩) cw [t0,u] ((wc.setCell ⟨g,2,G⟩ (I L u.k)).setCell ⟨g,3,G⟩ (u.s))):=by refine⟨by rw[gf.out];rfl,?_⟩;have h1:=hP.set (j:=1) (o:=2) (o1:=3) (u:=u) (by simp) rfl rfl fn ic;exact h1.fin aa.out.2.2.1
    have kk:(t0.k==0)=Zz:=by simpa using hz
    have f2:=am 2;have f3:=am 3;rw[eb,dr] at c1;rw[hk] at d0;clear hk hP HT ao bk c7 bi ae p0 d1 am hz h3 hl gc ic fn eb dr;go_wp2_with fail;go_meet
    case rel=>exact⟨R ⟨bh,oh,G⟩,ch,R ⟨g,0,G⟩,cw,[t0,u],rfl,rfl,HN⟩
  ·
   obtain⟨t0,rfl⟩:∃t0,ts=[t0]:=by
    match ts,(show ts.length=1 by rw[HT.out.2.1,HF.out.2.2.2.2.1,hk];rfl) with
    |[t0],_=>exact⟨t0,rfl⟩
   obtain⟨ah,ch,g,cw,ai,ak,hP⟩:=P2.of HT.out.1 b8.out aa.out.2.2.1 (by simp)
   subst ai ak
   obtain⟨b0,o0,bk,c0,c1,_⟩:=hP.wv.part 0 (by simp)
   obtain⟨rfl,rfl⟩:g=b0/\0=o0:=by simpa using bk
   simp only[Ze,Zr,Zs,Zd] at c0 c1
   have d2:=hP.bx.box.at7.c2
   have d3:=hP.bx.box.at7.c3
   simp only[Zd] at d2 d3
   have am:=hP.wf
   have bi:=hP.gl
   have lg:=bi.2.2
   have i8:=(HX.out.1.below hP.bx.low).t
   have HN:Zf ([x.t].map Tr.ty=us/\P3 x w V0 Q1 ah ch [t0] (R ⟨g,0,G⟩) cw [x.t] ((wc.setCell ⟨g,0,G⟩ (I L x.t.k)).setCell ⟨g,1,G⟩ (x.t.s))):=by
    refine⟨?_,?_⟩
    .have hu:=az.out.2.1;rw[hk] at hu;have:R (x.t.ty,[x.t.ty])=R (WC,us):=by simpa[YL] using hu
     cases this
     rfl
    .have h1:=hP.set (j:=0) (o:=0) (o1:=1) (u:=x.t) (by simp) rfl rfl i8 ((aa.out.1.t.and HX.out.1.t.bl).mono fun b hb=>⟨hb.1,by omega⟩);exact h1.fin aa.out.2.2.1
   have i9:=am 0
   have gn:=am 1
   rw[hk] at d0
   clear hk hP HT ao bk bi i8
   go_wp2_with fail
   go_meet
   case rel=>exact⟨ah,ch,R ⟨g,0,G⟩,cw,[x.t],rfl,rfl,HN⟩
 case rest=>
 obtain⟨ah,ch,aw,cw,uu,ai,rfl,HP⟩:=hcut;obtain⟨V3,j6⟩:∃V,V=wc:=⟨_,rfl⟩
 subst j6;subst ai;clear HT ao;have b4:Zf (uu.length=us.length/\us.length=x.l.length/\ts.length=x.l.length):=by
  have hr:=LK 904 (by omega) ja jb (by rw[Zi,bp.out.1];exact HF.out.2.2.2.2.1) (by rw[<-YM];exact HF.out.1) (takes:=tk) (fun u hu=>by
   have al:=dc.out;rw[<-al.1] at hu;obtain⟨z,hz,rfl⟩:=Zu.1 hu;rw[<-YM];exact al.2.2.2.1 z hz) (fun u hu=>by
   rw[<-ff.out] at hu;obtain⟨z,hz,rfl⟩:=Zu.1 hu;rw[<-YM];exact de.out.2 z hz) az.out.2.1
  refine⟨by rw[<-HP.out.1,Zi],?_,de.out.1⟩;rw[hr.1,Zi,bp.out.1]
 have hB:=HP.out.2.bx;obtain⟨q0,q1,q2,q3,q4,q5,q6⟩:=hB.box.at7;simp only[Zd] at q0 q1 q2 q3 q4 q5 q6;have jc:=hB.box.fz 6 (by omega);have ia:=hB.lt;obtain⟨bm,fc⟩:∃T,T=XR ps us:=⟨_,rfl⟩
 have bo:Zf (bm=XR ps us/\bm.length=x.l.length/\∀j(h:j<bm.length)(h1:j<ps.length)(h2:j<us.length),bm[j]=Jd (ps[j].1:Int) ps[j].2.1 ps[j].2.2 us[j]):=by subst fc;have e:=b4.out.2.1;refine⟨rfl,by rw[MK _ _ (by rw[bp.out.1,e]),bp.out.1],fun j h h1 h2=>R7 ps us j h1 h2 h⟩
 clear fc;obtain⟨V4,gh⟩:∃V,V=V3.setCell ⟨w.heap.size,6,G⟩ (H G 0 0):=⟨_,rfl⟩
 have gt:Zf (CW Q1 w.heap.size x V3 bm 0 (H G 0 0) [] V4):=by rw[gh];refine⟨KR.nil _ _ _,by simp,⟨G,0,rfl,?_⟩,Yj⟩;exact hB.box.set6 (a':=G) (c':=0) (l':=[])
 have ef:=Un (HX.out.1.below hB.low) (dc.out.2.1.below HP.out.2.low);have ky:(c:Int)<=900:=by have:=HF.out.2.2.2.2.2.1;omega
 clear hB;apply_assumption;go_wp2_with fail;rw[<-gh];clear gh q0 q1 q2 q3 q4 q5 q6 jc;go_loopg [17,110] x.l.length (fun g s17 i wr=>∃(v:Value)(j:Nat)(cs:List TT)(m:Nat),j<=x.l.length/\g=x.l.length-j/\i=I L (j:Int)/\s17=I L (m:Int)/\Zf (CW Q1 w.heap.size x V3 bm j v cs wr/\m=c+1+((x.l.take j).map TT.sz).sum))
 case atStart=>exact⟨_,0,[],c+1,Nat.zero_le _,rfl,rfl,by go_num,gt,by simp⟩
 case round=>
  obtain⟨v,j,cs,m,hj,hg,rfl,rfl,HC⟩:=hrel;have HG:=Yx hg;clear hg gt;by_cases hlt:j<x.l.length
  .obtain⟨b,o,ea,⟨x0,x1,x2,x3,x4,x5,x6⟩,hxj⟩:=ef.out.1.part j hlt;obtain⟨b',o',gj,gu,ek⟩:=HX.out.1.part j hlt;rw[ea] at gj;obtain⟨rfl,rfl⟩:b=b'/\o=o':=by simpa using gj
   have ka:=gu.lt;have aj:=HC.out.1.kp;have hsz:=aj.size;have bq:b≠w.heap.size:=by omega
   replace x0:=aj.cell x0 bq;replace x1:=aj.cell x1 bq;replace x2:=aj.cell x2 bq;replace x3:=aj.cell x3 bq;replace x4:=aj.cell x4 bq;replace x5:=aj.cell x5 bq;replace x6:=aj.cell x6 bq;obtain⟨y,hy⟩:∃y,y=x.l[j]:=⟨_,rfl⟩
   rw[<-hy] at x0 x1 x2 x3 x4 x5 x6 hxj ek;have b6:y∈x.l:=by rw[hy];exact Zt hlt
   have HY:=Un hy b6;have i1:(j:Int)<(x.l.length:Int):=by omega
   have i2:(0:Int)<=(j:Int):=by omega
   have lb:b<wr.heap.size:=F _ _ x0;have cf:=HC.out.1.row.lt;have cj:j<ps.length:=by have:=bp.out.1;omega
   have ga:j<us.length:=by have:=b4.out;omega
   have gm:=hxj.keptR aj (ek.bl.mono fun b hb=>by omega);have ip:=ef.out.2.keptR aj (dc.out.2.2.1.mono fun b hb=>(aa.out.2.2.2 b hb).2.2);have ax:bL wr (wr.alloc (D y.v 27)):=(M _ _).alloc (Za _) _;have d5:m+y.sz<=c+x.sz/\m=ps[j].1:=by
    have h1:=HC.out.2;have h2:=x.sz_eq;have h3:((x.l.take (j+1)).map TT.sz).sum=((x.l.take j).map TT.sz).sum+y.sz:=by rw[Zv hlt,List.map_append,List.sum_append,hy];simp
    have h4:=Lk TT.sz x.l (j+1);exact⟨by omega,by rw[(bp.out.2 j hlt cj).1];omega⟩
   have HI:Zf (ZG Zq 58 #[ZB y.v,N.s,I L (m:Int)] (wr.alloc (D y.v 27)) (Nd (fun b=>Q1 b/\R b≠v.ownBlock) ps[j].2.1 (wr.alloc (D y.v 27)))):=by
    have al:=dc.out;have ju:=eu.out y b6;refine ih.out y b6 _ N m _ (gm.below ax) (ip.below ax) (by rw[al.2.2.2.2];exact HF.out.2.2.2.1 y b6) al.2.2.2.1 ?_ ?_ ?_ ?_ ?_ ps[j].2.1 ps[j].2.2 ?_
    .have:=HF.out.2.2.1;rw[al.2.2.2.2];split<;>omega
    .have:=HF.out.2.2.2.2.2.1;omega
    .have h1:y.Bl Q1:=aa.out.1.mem b6;exact(h1.and ek.bl).mono fun b hb=>⟨hb.1,fun e=>by have:=(cf b e.symm).1;omega⟩
    .exact(al.2.2.1.and ef.out.2.bl).mono fun b hb=>⟨hb.1,fun e=>by have:=(cf b e.symm).1;omega⟩
    .intro b hb;simp at hb;exact⟨aa.out.2.2.1 b (by omega),fun e=>by have:=(cf b e.symm).2;omega⟩
    .rw[al.1,d5.2,hy];exact(bp.out.2 j hlt cj).2.1
   obtain⟨th,ej⟩:∃t,t=ts[j]'(by have:=b4.out;omega):=⟨_,rfl⟩
   obtain⟨uw,eo⟩:∃t,t=uu[j]'(by have:=b4.out;omega):=⟨_,rfl⟩
   obtain⟨bh,oh,eh,h0,h1,em⟩:=HP.out.2.hv.part j (by show j<ts.length;have:=b4.out;omega);obtain⟨bw,ow,ew,w0,w1,df⟩:=HP.out.2.wv.part j (by show j<uu.length;have:=b4.out;omega);simp only at eh ew h0 h1 w0 w1 em df;rw[<-ej] at h0 h1 em;rw[<-eo] at w0 w1 df;have dn:Q1 bh:=by have:=(Tr.Bl_mk.1 HP.out.2.hb).1 (fun e=>by have:=b4.out;rw[e] at this;simp at this;omega) _ eh;exact this
   have ei:Q1 bw:=by have:=(Tr.Bl_mk.1 HP.out.2.wb).1 (fun e=>by have:=b4.out;rw[e] at this;simp at this;omega) _ ew;exact this
   have ds:th.Bl Q1:=(Tr.Bl_mk.1 HP.out.2.hb).2 th (by rw[ej];exact Zt _);have e8:uw.Bl Q1:=(Tr.Bl_mk.1 HP.out.2.wb).2 uw (by rw[eo];exact Zt _);have ar:∀b,Q1 b->b≠w.heap.size:=fun b hb=>(aa.out.2.2.2 b hb).2.2;replace h0:=aj.cell h0 (ar bh dn);replace h1:=aj.cell h1 (ar bh dn);replace w0:=aj.cell w0 (ar bw ei);replace w1:=aj.cell w1 (ar bw ei);have ec:=em.keptR aj (ds.mono ar);have dp:=df.keptR aj (e8.mono ar);have dq:=em.bl;have dh:=df.bl;have ee:=de.out.2 th (by rw[ej];exact Zt _);obtain⟨pr,ph,hc⟩:=YR (by omega) ee;obtain⟨r,hr⟩:∃r,r=YC Yv th.ty uw.ty:=⟨_,rfl⟩
   have et:Zf (bm[j]'(by rw[bo.out.2.1];exact hlt)=if r=Zw then ps[j].2.1 else ⟨10,(m:Int),uw.ty,th.ty,[ps[j].2.1]⟩):=by
    have e1:ps[j].2.2=th.ty:=by have:=congrArg (fun l=>l[j]?) ff.out;simp only[List.getElem?_map,Zl cj,Zl (show j<ts.length by have:=b4.out;omega),Option.map_some,ZM] at this;rw[<-this,ej]
    have e2:us[j]=uw.ty:=by have:=congrArg (fun l=>l[j]?) HP.out.1;simp only[List.getElem?_map,Zl ga,Zl (show j<uu.length by have:=b4.out;omega),Option.map_some,ZM] at this;rw[<-this,eo]
    show _=_
    rw[bo.out.2.2 j (by rw[bo.out.2.1];exact hlt) cj ga,Jd,e1,e2,<-hr,<-d5.2]
   have e9:=Yx ea;have ck:=Nm ec dp (ds.and dq) (e8.and dh);have fu:bh<wr.heap.size:=F _ _ h0;have ho:bw<wr.heap.size:=F _ _ w0;have kj:(j:Int)<(ts.length:Int):=by have:=b4.out;omega
   have l2:(j:Int)<(uu.length:Int):=by have:=b4.out;omega
   have l1:(m:Int)<=900:=by have:=HF.out.2.2.2.2.2.1;omega
   have fg:Zf (∀W,bL wr W->ZG Zq 39 #[ZB th.v,ZB uw.v] W fun e w'=>e=ZC (.bool r)/\bL W w'):=fun W h=>by have:=Xz 1000 th uw W (ec.below h) (dp.below h) ph hc;rw[<-hr] at this;exact this
   have jv:y.sz<=900:=by have:=eu.out y b6;have:=HF.out.2.2.1;omega
   have ix:Zf (∀W,y.In W->ZG Zq 60 #[ZB y.v] W fun e w'=>e=ZC (I L (y.sz:Int))/\bL W w'):=fun W h=>Nr y W h (by omega);have h7:=Un hxj ek.bl;have jy:Zf (m+y.sz=c+1+((x.l.take (j+1)).map TT.sz).sum):=by
    have h3:((x.l.take (j+1)).map TT.sz).sum=((x.l.take j).map TT.sz).sum+y.sz:=by rw[Zv hlt,List.map_append,List.sum_append,hy];simp
    have:=HC.out.2;show _=_
    omega
   have e7:X4 (wr.alloc (D y.v 27)) wr.heap.size 0 y:=by constructor<;>simp[go_sem]
   have ki:=Yx d5.1;obtain⟨Y1,gx⟩:∃Y,Y=ps[j].2.1:=⟨_,rfl⟩
   rw[<-gx] at HI et;clear gx;rw[ea];subst eh ew;clear ea hxj ek hy b6 ih gu gm ip d5 ej eo em df dn ei ds e8 ar ec dp dq dh ee pr ph hc hr aj gj cj ga;go_wp2_with fail;refine HI.out.mono ?_;rintro e w2 ⟨z,rfl,h8,dd,d9,ay⟩;have bg:=ax.trans (ay.mono ax.size);replace e7:=e7.below ay;have hs:=e7.lt;obtain⟨W2,es⟩:∃W,W=w2.alloc (D z.v 27):=⟨_,rfl⟩
   have ex:bL w2 W2:=by rw[es];exact(M _ _).alloc (Za _) _
   have di:=bg.trans (ex.mono bg.size);have ed:Xw W2 w2.heap.size z:=by rw[es];refine⟨⟨?_,?_,?_,?_,?_,?_,?_⟩,fun i hi=>?_⟩<;>simp[go_sem]
   obtain⟨JB,au⟩:∃J,J=w2.heap.size:=⟨_,rfl⟩
   rw[<-au] at ed;have HZ:Zf (z.tm=Y1/\z.In W2/\z.Bl (fun b=>Q1 b/\R b≠v.ownBlock/\b≠JB)):=⟨h8,dd.below ex,(d9.and dd.bl).mono fun b hb=>⟨hb.1.1,hb.1.2,by omega⟩⟩
   have l0:wr.heap.size<JB:=by omega
   have ie:=Yx (e7.below ex);have d6:Zf (∀W,bL wr W->(fun W=>cL W bh (oh+j*2) (I L th.k)/\cL W bh (oh+j*2+1) (th.s)/\cL W bw (ow+j*2) (I L uw.k)/\cL W bw (ow+j*2+1) (uw.s)) W):=fun W h=>⟨Zc h h0,Zc h h1,Zc h w0,Zc h w1⟩
   have aq:=di.drew;have gi:=Un ed di;have dx:bL W2 W2.drew:=(M _ _).drew;clear HI h8 dd d9 ay bg ex di ed e7 hs x0 x1 x2 x3 x4 x5 x6 lb;go_upto_region 32 with fail;rw[<-es,<-au];clear es au;go_region_held3 (fun W=>cL W bh (oh+j*2) (I L th.k)/\cL W bh (oh+j*2+1) (th.s)/\cL W bw (ow+j*2) (I L uw.k)/\cL W bw (ow+j*2+1) (uw.s))
    (first|exact d6.out _ aq|fail)
    (first
     |(go_at_call 39;refine(fg.out _ aq).mono ?_;rintro e w3 ⟨rfl,h3⟩;replace aq:=aq.trans (h3.mono aq.size);replace dx:=dx.trans (h3.mono dx.size);clear fg)
     |fail)
   have bt:=Un aq dx;clear aq dx h3;go_upto_if 128 with fail;go_cut [] (fun wx=>Zf (∃q:TT,Xw wx JB q/\q.tm=(bm[j]'(by rw[bo.out.2.1];exact hlt))/\q.In wx/\q.Bl (fun b=>Q1 b/\R b≠v.ownBlock/\b≠JB)/\bL wr wx/\X4 wx wr.heap.size 0 y))
   case first=>
    cases r with
    |true=>
     have HN:Zf (∃q:TT,Xw w3 JB q/\q.tm=(bm[j]'(by rw[bo.out.2.1];exact hlt))/\q.In w3/\q.Bl (fun b=>Q1 b/\R b≠v.ownBlock/\b≠JB)/\bL wr w3/\X4 w3 wr.heap.size 0 y):=by refine⟨z,gi.out.1.below bt.out.2,?_,HZ.out.2.1.below bt.out.2,HZ.out.2.2,bt.out.1,ie.out.below bt.out.2⟩;rw[et.out,HZ.out.1];rfl
     go_wp2_with fail;go_meet
     case rel=>exact HN
    |false=>
     have bs:bL w3 w3.drew:=(M _ _).drew;have it:=bt.out.1.size;have bx:=(gi.out.1.below bt.out.2).below bs;have bv:=bt.out.1.drew;obtain⟨UD,ct⟩:∃U,U=w3.drew:=⟨_,rfl⟩
     have jj:UD.heap.size=w3.heap.size:=by rw[ct];rfl
     rw[<-ct] at bx bv;have d7:∀t:Tr,t.In wr->t.Bl (fun b=>Q1 b/\b<V3.heap.size)->t.In UD/\t.Bl (fun b=>(Q1 b/\R b≠v.ownBlock)/\b≠JB):=fun t h1 h2=>⟨h1.below bv,h2.mono fun b hb=>⟨⟨hb.1,fun e=>by have:=(cf b e.symm).1;omega⟩,by omega⟩⟩
     obtain⟨u1,u2⟩:=d7 uw ck.out.2.1 ck.out.2.2.2;obtain⟨t1,t2⟩:=d7 th ck.out.1 ck.out.2.2.1;have gl:z.In UD:=by rw[ct];exact(HZ.out.2.1.below bt.out.2).below bs
     obtain⟨m1,m2,m3,m4⟩:=Bx (Q:=fun b=>Q1 b/\R b≠v.ownBlock) (m:=(m:Int)) bx gl (HZ.out.2.2.mono fun b hb=>⟨⟨hb.1,hb.2.1⟩,hb.2.2⟩) u1 t1 u2 t2 ⟨aa.out.2.2.1 _ (by omega),fun e=>by have:=(cf _ e.symm).2;omega⟩;have HN:Zf (∃q:TT,Xw (Y5 (UD.alloc (D z.v 27)) JB ⟨10,(m:Int),uw,th,R ⟨UD.heap.size,0,G⟩,1,[z]⟩) JB q/\q.tm=(bm[j]'(by rw[bo.out.2.1];exact hlt))/\q.In (Y5 (UD.alloc (D z.v 27)) JB ⟨10,(m:Int),uw,th,R ⟨UD.heap.size,0,G⟩,1,[z]⟩)/\q.Bl (fun b=>Q1 b/\R b≠v.ownBlock/\b≠JB)/\bL wr (Y5 (UD.alloc (D z.v 27)) JB ⟨10,(m:Int),uw,th,R ⟨UD.heap.size,0,G⟩,1,[z]⟩)/\X4 (Y5 (UD.alloc (D z.v 27)) JB ⟨10,(m:Int),uw,th,R ⟨UD.heap.size,0,G⟩,1,[z]⟩) wr.heap.size 0 y):=by
      have jz:X4 UD wr.heap.size 0 y:=by rw[ct];exact(ie.out.below bt.out.2).below bs
      refine⟨_,m1,?_,m2,m3.mono fun b hb=>⟨hb.1.1,hb.1.2,hb.2⟩,bv.trans (m4 _ (by omega) (by omega)),(jz.below ((M _ _).alloc (Za _) _)).keptR YF (by omega)⟩;rw[et.out,if_neg (by simp),TT.tm_mk,ZI,List.map_nil,HZ.out.1]
     have be:bL UD (UD.alloc (D z.v 27)):=(M _ _).alloc (Za _) _;obtain⟨⟨z0,z1,z2,z3,z4,z5,z6⟩,zf⟩:=bx;simp only[Zd] at z0 z1 z2 z3 z4 z5 z6;have bx:Xw UD JB z:=⟨⟨z0,by simpa using z1,by simpa using z2,by simpa using z3,by simpa using z4,by simpa using z5,by simpa using z6⟩,zf⟩
     have lJ:JB<UD.heap.size:=F _ _ z0;obtain⟨k0,k1,k2,k3⟩:=d6.out _ bv;have kd:bh<UD.heap.size:=F _ _ k0;have kg:bw<UD.heap.size:=F _ _ k2;have gy:=Nm k0 k1 k2 k3;obtain⟨⟨a0,a1,a2,a3,a4,a5,a6⟩,af⟩:=bx.below be;simp only[Zd] at a0 a1 a2 a3 a4 a5 a6;have jr:=af 0 (by omega);have k7:=af 1 (by omega);have k6:=af 2 (by omega);have jm:=af 3 (by omega);have iu:=af 4 (by omega);have j4:=af 5 (by omega);have jn:=af 6 (by omega);obtain⟨fv,fq,fm,g6⟩:=d6.out (UD.alloc (D z.v 27)) (bv.trans (be.mono (by omega)));have fd:bh≠JB:=by omega
     have fi:bw≠JB:=by omega
     have fo:Zf ((fun W=>cL W bh (oh+j*2) (I L th.k)/\cL W bh (oh+j*2+1) (th.s)/\cL W bw (ow+j*2) (I L uw.k)/\cL W bw (ow+j*2+1) (uw.s)) (Y5 (UD.alloc (D z.v 27)) JB ⟨10,(m:Int),uw,th,R ⟨UD.heap.size,0,G⟩,1,[z]⟩)):=⟨YF.cell fv fd,YF.cell fq fd,YF.cell fm fi,YF.cell g6 fi⟩
     have f7:=Nm fv fq fm g6;unfold Y5 at HN fo;clear be zf af bs m1 m2 m3 m4 gl u1 u2 t1 t2 d7 bv bx h0 h1 w0 w1 fu ho it jj;go_upto_region 33 with fail;refine Zo (S:=fun W=>cL W bh (oh+j*2) (I L th.k)/\cL W bh (oh+j*2+1) (th.s)/\cL W bw (ow+j*2) (I L uw.k)/\cL W bw (ow+j*2+1) (uw.s)) (by kernel_rfl) ?_ ?_
     .rw[<-ct];exact gy.out
     rw[<-ct];clear ct;intro hHeld;refine qk 0 (v:=?_) rfl (by kernel_rfl) (fun _ _ _ h=>h) (by rfl) hHeld ?_ ?_;rotate_left;(focus (intro w' h;go_split_ands;go_simp;try with_reducible rfl));simp only[Zb,A,B,C];refine qk 1 (v:=?_) rfl (by kernel_rfl) (fun _ _ _ h=>h) (by rfl) hHeld ?_ ?_;rotate_left;(focus (intro w' h;go_split_ands;go_simp;try with_reducible rfl));simp only[Zb,A,B,C];refine qk 2 (v:=?_) rfl (by kernel_rfl) (fun _ _ _ h=>h) (by rfl) hHeld ?_ ?_;rotate_left;(focus (intro w' h;go_split_ands;go_simp;try with_reducible rfl));simp only[Zb,A,B,C];refine qk 3 (v:=?_) rfl (by kernel_rfl) (fun _ _ _ h=>h) (by rfl) hHeld ?_ ?_;rotate_left;(focus (intro w' h;go_split_ands;go_simp;try with_reducible rfl));simp only[Zb,A,B,C];refine qk 4 (v:=?_) rfl (by kernel_rfl) (fun _ _ _ h=>h) (by rfl) hHeld ?_ ?_;rotate_left;(focus (intro w' h;go_split_ands;go_simp;try with_reducible rfl));simp only[Zb,A,B,C];refine qk 5 (v:=?_) rfl (by kernel_rfl) (fun _ _ _ h=>h) (by rfl) hHeld ?_ ?_;rotate_left;(focus (intro w' h;go_split_ands;go_simp;try with_reducible rfl));simp only[Zb,A,B,C];refine qk 6 (v:=?_) rfl (by kernel_rfl) (fun _ _ _ h=>h) (by rfl) hHeld ?_ ?_;rotate_left;(focus (intro w' h;go_split_ands;go_simp;try with_reducible rfl));simp only[Zb,A,B,C];refine qk 7 (v:=?_) rfl (by kernel_rfl) (fun _ _ _ h=>h) (by rfl) hHeld ?_ ?_;rotate_left;(focus (intro w' h;go_split_ands;go_simp;try with_reducible rfl));simp only[Zb,A,B,C];refine qk 8 (v:=?_) rfl (by kernel_rfl) (fun _ _ _ h=>h) (by rfl) hHeld ?_ ?_;rotate_left;(focus (intro w' h;go_split_ands;go_simp;try with_reducible rfl));simp only[Zb,A,B,C];clear k0 k1 k2 k3 fv fq fm g6;refine U2 (i:=9) rfl (by kernel_rfl) (fun K hK=>?_);go_simp;refine hK.out _ _ hHeld (fun hHeld=>?_);clear hK K;clear gy;refine U2 (i:=10) rfl (by kernel_rfl) (fun K hK=>?_);go_simp;refine hK.out _ _ f7.out (fun hHeld=>?_);clear hK K;obtain⟨UA,eq⟩:∃U,U=UD.alloc (D z.v 27):=⟨_,rfl⟩
     rw[<-eq] at a0 a1 a2 a3 a4 a5 a6 jr k7 k6 jm iu j4 jn HN fo;rw[<-eq] at f7 hHeld;rw[<-eq];clear eq z0 z1 z2 z3 z4 z5 z6;have kv:JB<UA.heap.size:=F _ _ a0;refine U2 (i:=11) rfl (by kernel_rfl) (fun K hK=>?_);go_simp;refine hK.out _ _ f7.out (fun hHeld=>?_);clear hK K f7;refine U2 (i:=12) rfl (by kernel_rfl) (fun K hK=>?_);go_simp;refine hK.out _ _ fo.out (fun hHeld=>?_);clear hK K;refine Zp (by kernel_rfl) ?_ _;go_wp2_with fail;go_meet
     case rel=>exact HN
   case rest=>
   obtain⟨q,ii,i3,ik,i5,fp,g0⟩:=hcut.out;clear hcut d6 bt gi HZ et ck h0 h1 w0 w1 fu ho;obtain⟨i7,iy,jx,jg,jo⟩:=info_parts Tryz.info27c;obtain⟨av,cv,hv,bj⟩:=HC.out.1.box;have jl:w.heap.size<V3.heap.size:=by omega
   have du:=HC.out.1.below fp;obtain⟨a0,a1,a2,a3,a4,a5,a6⟩:=ii.at7;simp only[Zd] at a0 a1 a2 a3 a4 a5 a6;have lJ:JB<wc.heap.size:=F _ _ a0;have c6:cL wc w.heap.size 6 v:=by obtain⟨av,cv,hv,bj⟩:=du.box;have:=bj.at7.c6;simp only[Zd] at this;rw[hv];exact this
   have he:wc.frozen? ⟨w.heap.size,6,G⟩=Zz:=by obtain⟨av,cv,hv,bj⟩:=du.box;exact bj.fz 6 (by omega)
   have ji:w.heap.size<wc.heap.size:=F _ _ c6;have k8:cs.length=j:=by have:=congrArg List.length HC.out.1.tm;have e:=bo.out.2.1;simp only[Zi,List.length_take] at this;omega
   have k9:cs.length<=3:=by omega
   clear k8;have i6:(wc.alloc (D q.v 27)).ownsRow V3.heap.size 27 7 v cs.length (YT cs):=YP du.row.own ((M _ _).alloc (Za _) _);have fj:=ZA wc (D q.v 27);have kw:=fp.size;have gk:R w.heap.size≠v.ownBlock:=fun e=>by have:=(cf _ e.symm).1;omega
   have im:Zf (∀(gg cap1:Nat)(w5:ZL),w5.ownsRow V3.heap.size 27 7 (H (R ⟨gg,0,G⟩) (cs.length+1) cap1) (cs.length+1) (YT cs++[I L q.k,I L q.n,I L q.t.k,H q.t.a q.t.l.length q.t.c,I L q.f.k,H q.f.a q.f.l.length q.f.c,H q.a q.l.length q.c])->(wc.alloc (D #[I L q.k,I L q.n,I L q.t.k,H q.t.a q.t.l.length q.t.c,I L q.f.k,H q.f.a q.f.l.length q.f.c,H q.a q.l.length q.c] 27)).grownBy w5 v.ownBlock->(v.ownBlock=R gg\/gg=wc.heap.size+1)->CW Q1 w.heap.size x V3 bm (j+1) (H (R ⟨gg,0,G⟩) (cs.length+1) cap1) (cs++[q]) (w5.setCell ⟨w.heap.size,6,G⟩ (H (R ⟨gg,0,G⟩) (cs.length+1) cap1))):=fun gg cap1 w5 b1 b2 b3=>du.step jl (fun b hb=>(aa.out.2.2.2 b hb).2.2) (by rw[bo.out.2.1];exact hlt) (M _ _) i3 ik (i5.mono fun b hb=>⟨hb.1,hb.2.1⟩) (by simpa[YT] using b1) b2 b3
   have kp:JB≠wc.heap.size:=by omega
   have lY:=g0.lt;have j0:R wr.heap.size≠v.ownBlock:=fun e=>by have:=(cf _ e.symm).2;omega
   have gv:Zf (X4 wc wr.heap.size 0 y):=g0;clear ii i3 ik i5 fp g0 du bj hv HC cf ia;go_upto_region 35 with(at_builtin;refine wpList_append_lies _ rfl _ _ _ rfl V3.heap.size 27 i7 _ 7 104 underlying25 iy jx jg jo rfl (by omega) v cs.length (YT cs) rfl i6 ⟨wc.heap.size,0,G⟩ 1 1 [I L q.k,I L q.n,I L q.t.k,H q.t.a q.t.l.length q.t.c,I L q.f.k,H q.f.a q.f.l.length q.f.c,H q.a q.l.length q.c] rfl rfl (Zj (cs:=#[I L q.k,I L q.n,I L q.t.k,H q.t.a q.t.l.length q.t.c,I L q.f.k,H q.f.a q.f.l.length q.f.c,H q.a q.l.length q.c]) (t:=27) (fr:=(0,0)) fj) (by simp[Zm]) (by omega) (by unfold ZE;omega) (by omega) (by simp;omega) (wc.heap.size+1) (by simp) ?_;intro gg cap1 w5 ac ad el hd;have jd:w5.cell? ⟨w.heap.size,6,G⟩=R v:=(by rw[ad.cell_far _ (by simp;omega) gk];exact Zc ((M _ _).alloc (Za _) _) c6);have j9:w5.frozen? ⟨w.heap.size,6,G⟩=Zz:=(by rw[ad.frozen_far _ (by simp;omega) gk];exact(((M _ _).alloc (Za _) _).frozen (p:=⟨w.heap.size,6,G⟩) ji).trans he))
   obtain⟨X5,f8⟩:∃X,X=w5.setCell ⟨w.heap.size,6,G⟩ (H (R ⟨gg,0,G⟩) (cs.length+1) cap1):=⟨_,rfl⟩
   have g5:Zf (CW Q1 w.heap.size x V3 bm (j+1) (H (R ⟨gg,0,G⟩) (cs.length+1) cap1) (cs++[q]) X5):=by rw[f8];exact im.out gg cap1 w5 ac ad el
   have iw:X4 X5 wr.heap.size 0 y:=by have h1:X4 w5 wr.heap.size 0 y:=(gv.out.below ((M _ _).alloc (Za _) (D #[I L q.k,I L q.n,I L q.t.k,H q.t.a q.t.l.length q.t.c,I L q.f.k,H q.f.a q.f.l.length q.f.c,H q.a q.l.length q.c] 27))).of fun i=>Zx (a:=⟨wr.heap.size,i,G⟩) (ad.block _ (by simp;omega) j0);rw[f8];exact h1.keptR Yj (by omega)
   have gq:=h7.out.1.keptR g5.out.kp (h7.out.2.mono fun b hb=>by omega);rw[<-f8];clear f8 ac ad el hd jd j9 im gv i6 fj c6 he a0 a1 a2 a3 a4 a5 a6;obtain⟨x0,x1,x2,x3,x4,x5,x6⟩:=iw;simp only[Zd] at x0 x1 x2 x3 x4 x5 x6;have lX:wr.heap.size<X5.heap.size:=F _ _ x0;have kq:(y.sz:Int)<=900:=by omega
   go_wp2_with (go_at_call 60;refine(ix.out _ gq).mono ?_;rintro e w6 ⟨rfl,i4⟩)
   have HN:=Un (g5.out.below i4) jy.out;clear g5 i4 gq x0 x1 x2 x3 x4 x5 x6;rw[<-e9.out];go_roundg (x.l.length-(j+1))
   case measure=>rw[HG.out];omega
   case rel=>exact⟨_,j+1,cs++[q],m+y.sz,by omega,rfl,by go_num,by go_num,HN⟩
  .have hjl:j=x.l.length:=by omega
   have aj:=HC.out.1.kp;have ar:∀b,Q1 b->b≠w.heap.size:=fun b hb=>(aa.out.2.2.2 b hb).2.2;obtain⟨a,cc,hv,bj⟩:=HC.out.1.box;obtain⟨a',jw,g3,dd,d9⟩:=HC.out.1.row.tree (k:=x.k) (n:=x.n) (t:=x.t) (f:=x.f) (fun b hb=>aa.out.2.2.1 b (by omega)) (ef.out.1.t.keptR aj (aa.out.1.t.mono ar)) (ef.out.1.f.keptR aj (aa.out.1.f.mono ar)) aa.out.1.t aa.out.1.f;rw[hv] at g3;obtain⟨rfl,rfl⟩:a=a'/\cc=jw:=by cases g3;exact⟨rfl,rfl⟩
   have ib:(TT.mk x.k x.n x.t x.f a cc cs).tm=y0:=by rw[az.out.2.2,TT.tm_mk];have h1:=HC.out.1.tm;rw[hjl,<-bo.out.2.1,List.take_length] at h1;rw[h1,<-bo.out.1,Oz HF.out.2.2.2.2.2.2];try rfl
   have fy:=HP.out.2.bx.z.kept aj (by omega);have bu:=HP.out.2.bx.low.trans (aj.below (by simp) (by omega));have HN:Zf (Nd Q y0 w (ZC (ZB #[I L x.k,I L x.n,I L x.t.k,x.t.s,I L x.f.k,x.f.s,H a cs.length cc])) (Y5 wr (w.heap.size+1) (TT.mk x.k x.n x.t x.f a cc cs))):=by have hk:=YF (w:=wr) (J:=w.heap.size+1) (x:=(TT.mk x.k x.n x.t x.f a cc cs));refine⟨(TT.mk x.k x.n x.t x.f a cc cs),rfl,ib,dd.keptR hk (d9.mono fun b hb=>(aa.out.2.2.2 b hb).2.1),d9.mono fun b hb=>(aa.out.2.2.2 b hb).1,?_⟩;exact bu.trans ((hk.below (by simp) (Nat.le_of_lt fy.lt)).mono (by omega))
   obtain⟨e0,e1,e2,e3,e4,e5,e6⟩:=(XH (x:=(TT.mk x.k x.n x.t x.f a cc cs)) fy.box).at7;simp only[Zd] at e0 e1 e2 e3 e4 e5 e6;obtain⟨q0,q1,q2,q3,q4,q5,q6⟩:=bj.at7;simp only[Zd] at q0 q1 q2 q3 q4 q5 q6;obtain⟨⟨kl,y1,y2,y3,y4,y5,y6⟩,f0,f1,f2,f3,f4,f5,f6⟩:=fy;clear HC bj dd d9 ib g3 hv ih HP bo b4 bu aj ar HG;go_wp2_with fail;refine bodyPost_ret (v:=ZB #[I L x.k,I L x.n,I L x.t.k,x.t.s,I L x.f.k,x.f.s,H a cs.length cc]) ?_ rfl HN.out;unfold Y5 at e0 e1 e2 e3 e4 e5 e6;simp[results,results58,go_sem,e0,e1,e2,e3,e4,e5,e6]
end Go.Proofs.YtnddkmccagiclabGreatDoor
