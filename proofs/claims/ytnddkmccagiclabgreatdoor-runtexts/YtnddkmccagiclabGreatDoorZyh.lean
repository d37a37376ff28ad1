import Derived.Test.YtnddkmccagiclabGreatDoorZyg
import Derived.OpenShut
set_option maxRecDepth 20000
set_option maxHeartbeats 16000000
open Go.RowKit Go.Proofs.Tryz
open List renaming setIfInBounds_toArray→A,set_cons_zero→G,set_cons_succ→H,getElem_cons_zero→Zm,getElem_cons_succ→Zp,length_map→Zq,eq_nil_of_length_eq_zero→Zt,getElem_mem→Zv,take_succ_eq_append_getElem→Zw,getElem?_eq_getElem→Zx,mem_map→ZC,mem_cons→ZF,map_congr_left→ZI,map_cons→ZL,length_nil→ZQ,getElem_of_mem→ZU,map_map→ZV
open Go.Value renaming slice→B,int→F,agg→Zk,oneCell'→Zy,tuple→ZX
open Go.IntKind renaming i64→D
open Go.World renaming block_lt_of_cell?→I,news_of_block→Zr,cell?_of_block→Zs
open Option renaming none→L,some→Za
open Go.Obj renaming cells→M
open Go.RowKit.Below renaming refl→R
open Nat renaming le_refl→Zb,zero_add→Zf,zero_mul→ZD,add_zero→ZE,le_trans→ZO,one_mul→ZR
open Go.Proofs.Tryz renaming prog→Zc,underlying22→Zo,ntmps61→ZH,func61→ZK,results35→ZT
open Go.RowKit renaming Hid→Zd,Below→Zh
open Go.Act renaming put→Ze
open Go.Ending renaming returned→Zg
open Bool renaming false→Zi,true→Zj,true_and→ZG,and_assoc→ZS
open Go renaming cell_later→Zl,Calls→Zn,wp_region_held_drew→Zu,step_append_lies→Zz,wpAnyH_done→ZA,World→ZB,heap_alloc_new→ZJ,maxLen→ZM,bodyPost_ret→ZN,wp_seq_k→ZP
open Option.some renaming injEq→ZW
open Or renaming inl→ZY
namespace Go.Proofs.YtnddkmccagiclabGreatDoor
variable {m:Nat}
theorem S5{takes:List Ty}:∀(l:List Tm)(c:Nat)(ps:List (Nat×Tm×Ty)),Xc l takes c=Za ps->∀j(h:j<l.length)(h':j<ps.length),ps[j].1=c+((l.take j).map Tm.sz).sum/\Xt l[j] takes ps[j].1=Za (ps[j].2.1,ps[j].2.2)
 |[],c,ps,_,j,h,_=>by simp at h
 |x::r,c,ps,hr,j,h,h'=>by
  obtain⟨y,i,q,h1,h2,rfl⟩:=LJ hr;match j with
  |0=>exact⟨by simp,h1⟩
  |j+1=>have:=S5 r _ q h2 j (by simpa using h) (by simpa using h');refine⟨?_,by simpa using this.2⟩;simp only[Zp,List.take_succ_cons,ZL,List.sum_cons];rw[this.1];omega
theorem Ve:∀(ps:List (Nat×Tm×Ty))(us:List Ty)(j:Nat)(h:j<ps.length)(h':j<us.length)(h2:j<(XZ ps us).length),(XZ ps us)[j]=Jw (ps[j].1:Int) ps[j].2.1 ps[j].2.2 us[j]
 |[],_,j,h,_,_=>by simp at h
 |p::r,[],j,_,h',_=>by simp at h'
 |p::r,u::s,0,_,_,_=>rfl
 |p::r,u::s,j+1,h,h',h2=>by simp only[XZ,Zp];exact Ve r s j (by simpa using h) (by simpa using h') (by simpa[XZ] using h2)
theorem BQ(Q:Nat->Prop)(x:TT)(E:Tr)(c:Nat)(w:ZB)(hx:x.In w)(hE:E.In w)(hok:J8 x.tm E.l.length)(hEg:∀u,u∈E.l->YB 4 u=Zj)(hsz:x.sz+E.l.length<=900)(hcs:c+x.sz<=900)(xb:x.Bl Q)(eb:E.Bl Q)(nw:∀b,w.heap.size<=b->Q b)
  (y0:Tm) (B6:Ty) (hrd:Xt x.tm (E.l.map Tr.ty) c=Za (y0,B6))
  (ih:Zd (∀y,y∈x.l->∀(Q':Nat->Prop)(E':Tr)(c':Nat)(W:ZB),y.In W->E'.In W->J8 y.tm E'.l.length->(∀u,u∈E'.l->YB 4 u=Zj)->y.sz+E'.l.length<=900->c'+y.sz<=900->y.Bl Q'->E'.Bl Q'->(∀b,W.heap.size<=b->Q' b)->∀(y1:Tm)(ty1:Ty),Xt y.tm (E'.l.map Tr.ty) c'=Za (y1,ty1)->
   Zn Zc 58 #[Zk #[F D y.k,F D y.n,F D y.t.k,B y.t.a y.t.l.length y.t.c,F D y.f.k,B y.f.a y.f.l.length y.f.c,B y.a y.l.length y.c],B E'.a E'.l.length E'.c,F D (c':Int)] W (Ot Q' y1 W))) :
  Zn Zc 58 #[Zk #[F D x.k,F D x.n,F D x.t.k,B x.t.a x.t.l.length x.t.c,F D x.f.k,B x.f.a x.f.l.length x.f.c,B x.a x.l.length x.c],B E.a E.l.length E.c,F D (c:Int)] w (Ot Q y0 w):=by
 obtain⟨i0,br,cb,cd,c9⟩:=info_parts Tryz.info24s;obtain⟨ja,jb,g7,hp,ee,iv,iq,gz⟩:1<=x.k/\x.k<=9/\x.l.length=Yu x.k/\XQ x.f.ty=Zj/\YB 4 x.t=Zj/\(XV x.k=Zi->XQ x.t.ty=Zj)/\(x.k=1->0<=x.n/\x.n<(E.l.length:Int))/\∀y,y∈x.l->J8 y.tm (if x.k=7 then E.l.length+1 else E.l.length):=by obtain⟨k,n,t,f,a,c,l⟩:=x;rw[TT.ma] at hok;obtain⟨h0,h1⟩:=Kf.1 hok;obtain⟨a1,a2,a3,a4,a5,a6,a7⟩:=JF h0;exact⟨a1,a2,by simpa using a3,a4,by rw[YL];exact a5,a6,a7,fun y hy=>h1 _ (ZC.2 ⟨y,hy,rfl⟩)⟩
 have ko:x.l.length<=3:=by rw[g7];unfold Yu;split<;>(try split)<;>(try split)<;>omega
 obtain⟨ps,us,az⟩:∃(ps:List (Nat×Tm×Ty))(us:List Ty),Zd (Xc (x.l.map TT.tm) (Yv x.k x.t.ty (E.l.map Tr.ty)) (c+1)=Za ps/\YK x.k x.n x.t.ty (ps.map fun p=>p.2.2) (Yv x.k x.t.ty (E.l.map Tr.ty))=Za (B6,us)/\y0=⟨x.k,x.n,x.t.ty,Yk,XZ ps us⟩):=by obtain⟨k,n,t,f,a,cc,l⟩:=x;rw[TT.ma] at hrd;obtain⟨ps,us,h1,h2,_,h4⟩:=Ng hrd;exact⟨ps,us,h1,h2,h4⟩
 obtain⟨W1,f9⟩:∃W,W=((w.alloc (M #[F D x.k,F D x.n,F D x.t.k,B x.t.a x.t.l.length x.t.c,F D x.f.k,B x.f.a x.f.l.length x.f.c,B x.a x.l.length x.c] 27)).alloc (M #[F D 0,F D 0,F D 0,B L 0 0,F D 0,B L 0 0,B L 0 0] 27)).alloc (M #[F D 1,B L 0 0] 24):=⟨_,rfl⟩
 have ey:WB x w W1:=by
  refine⟨?_,⟨⟨?_,?_,?_,?_,?_,?_,?_⟩,fun i hi=>?_⟩,⟨⟨?_,?_,?_,?_,?_,?_,?_⟩,?_,?_,?_,?_,?_,?_,?_⟩,?_,?_⟩
  .rw[f9];exact(((R _ _).alloc (Zb _) _).alloc (by simp) _).alloc (by simp;omega) _
  all_goals (rw[f9];simp[go_sem])
 have fa:=Yy ey;have HX:=Aa hx hE xb eb nw;have HF:=FZ ee hEg hsz gz g7 hcs hp;obtain⟨Q1,ig⟩:∃Q1:Nat->Prop,Q1=fun b=>Q b/\b≠w.heap.size+1/\b≠w.heap.size:=⟨_,rfl⟩
 have aa:Zd (x.Bl Q1/\E.Bl Q1/\(∀b,w.heap.size+1+1<=b->Q1 b)/\∀b,Q1 b->Q b/\b≠w.heap.size+1/\b≠w.heap.size):=by subst ig;exact⟨(xb.and hx.bl).mono fun b h=>⟨h.1,by omega,by omega⟩,(eb.and hE.bl).mono fun b h=>⟨h.1,by omega,by omega⟩,fun b h=>⟨nw b (by omega),by omega,by omega⟩,fun b h=>h⟩
 obtain⟨q0,q1,q2,q3,q4,q5,q6⟩:=ey.box.at7;simp only[Zf] at q0 q1 q2 q3 q4 q5 q6;have ls:w.heap.size<W1.heap.size:=I _ _ q0;have cy:=hE.below ey.low;have km:E.l.length<=900:=by omega
 clear hok hEg hsz gz hp ee iv iq xb eb nw hx hE ey ig g7 hcs hrd;go_enter func58,ntmps58;go_upto_region 3 with fail;rw[<-f9];clear f9;go_upto_if 25 with fail;go_cut [8] (fun s8 wx=>∃N:Tr,s8=N.s/\Zd (N.l.map Tr.ty=Yv x.k x.t.ty (E.l.map Tr.ty)/\N.In wx/\N.Bl Q1/\bL W1 wx/\(∀u,u∈N.l->YB 4 u=Zj)))
 case first=>
  by_cases hk0:x.k=7
  .have HK:=Yy hk0;have dg:(x.k==7)=Zj:=by simpa using hk0
   clear hk0;rw[dg];clear dg;have cl:bL W1 (W1.alloc (M x.t.v 24)):=(R _ _).alloc (Zb _) _;have d4:(W1.alloc (M x.t.v 24)).ownsRow W1.heap.size 24 2 (B (Za ⟨W1.heap.size,0,L⟩) 1 1) 1 (cellsOf [x.t]):=by have:=World.ownsRow_lit (base:=W1.heap.size) (e:=24) (size:=2) W1 x.t.v 1 (by simp) (by unfold ZM;omega) (by simp);simpa[cellsOf] using this
   have eg:=(HX.out.1.below fa.out.low).t;by_cases h0:E.l.length=0
   .have hE0:E.l=[]:=Zt h0;have HN:Zd ([x.t].map Tr.ty=Yv x.k x.t.ty (E.l.map Tr.ty)/\(Tr.mk 0 (Za ⟨W1.heap.size,0,L⟩) 1 [x.t]).In (W1.alloc (M #[F D x.t.k,B x.t.a x.t.l.length x.t.c] 24))/\(Tr.mk 0 (Za ⟨W1.heap.size,0,L⟩) 1 [x.t]).Bl Q1/\Zh W1.heap.size W1 (W1.alloc (M #[F D x.t.k,B x.t.a x.t.l.length x.t.c] 24))/\(∀u,u∈[x.t]->YB 4 u=Zj)):=by refine⟨by rw[Yv,if_pos HK.out,hE0];rfl,Kj d4 rfl (fun t ht=>by have:t=x.t:=(by simpa using ht);subst this;exact eg.below cl) 0,?_,cl,fun u hu=>by have:u=x.t:=(by simpa using hu);subst this;exact HF.out.1⟩;exact WJ (aa.out.2.2.1 _ (by have:=fa.out.lt;omega)) aa.out.1.t
    clear d4 cl eg cy hE0;have H0:Zd (E.l.length=0):=h0;clear h0;go_wp2_with (at_builtin;refine U9 rfl _ _ _ rfl 24 i0 Zo br W1.heap.size 1 1 rfl E.a E.c (by show Value.slice E.a E.l.length E.c=_;rw[H0.out]) (by omega) ?_)
    go_meet
    case rel=>exact⟨⟨0,Za ⟨W1.heap.size,0,L⟩,1,[x.t]⟩,rfl,HN⟩
   .obtain⟨b,o,ea,_⟩:=cy.part 0 (by omega);have hw:=cy.below cl;have dj:=fun j u h=>LR hw ea j u h;have h6:Zd (∀t,t∈x.t::E.l->t.In (W1.alloc (M #[F D x.t.k,B x.t.a x.t.l.length x.t.c] 24))/\t.Bl (·<W1.heap.size)):=by
     intro t ht;rcases ZF.1 ht with rfl|ht
     .exact⟨eg.below cl,eg.bl⟩
     .obtain⟨q,hq,rfl⟩:=ZU ht;obtain⟨_,_,_,_,_,hi⟩:=cy.part q hq;exact⟨hi.below cl,hi.bl⟩
    have hm:0<E.l.length:=by omega
    have HB:Zd (Zh W1.heap.size W1 (W1.alloc (M #[F D x.t.k,B x.t.a x.t.l.length x.t.c] 24))):=cl;have gs:Zd (E.a=Za ⟨b,o,L⟩):=ea;clear cy hw ea cl eg;go_wp2_with (at_builtin;refine wpList_append_lies _ rfl _ _ _ rfl W1.heap.size 24 i0 _ 2 32 Zo br cb cd c9 rfl (by omega) (B (Za ⟨W1.heap.size,0,L⟩) 1 1) 1 (cellsOf [x.t]) rfl d4 ⟨b,o,L⟩ E.l.length E.c (cellsOf E.l) (by show Value.slice E.a E.l.length E.c=_;rw[gs.out]) (UQ _) dj (KQ _) hm (by unfold ZM;omega) (by omega) (by simp) (W1.heap.size+1) (by simp) ?_;intro gg cap1 w3 ac ad el hf)
    have hg:W1.heap.size<=gg:=by
     rcases el with h|h
     .simp[Value.ownBlock] at h;omega
     .omega
    have hsz:=ad.size;have bu:Zh W1.heap.size (W1.alloc (M x.t.v 24)) w3:=⟨ad.os,ad.tape,ad.output,ad.size,fun q hq=>ad.block q (by simp;omega) (by simp[Value.ownBlock];omega)⟩
    have HN:Zd ((x.t::E.l).map Tr.ty=Yv x.k x.t.ty (E.l.map Tr.ty)/\(Tr.mk 0 (Za ⟨gg,0,L⟩) cap1 (x.t::E.l)).In w3/\(Tr.mk 0 (Za ⟨gg,0,L⟩) cap1 (x.t::E.l)).Bl Q1/\bL W1 w3/\(∀u,u∈x.t::E.l->YB 4 u=Zj)):=by
     refine⟨by rw[Yv,if_pos HK.out];rfl,Kj (n:=1+E.l.length) (l:=x.t::E.l) (by simpa[cellsOf] using ac) (by simp;omega) (fun t ht=>?_) 0,?_,HB.out.trans bu,fun u hu=>?_⟩
     .obtain⟨h1,h2⟩:=h6.out t ht;exact Tr.In.congr (P:=fun q=>q<W1.heap.size) (fun q hq o=>bu.cell (p:=⟨q,o,L⟩) hq) h2 h1
     .refine Tr.ld.2 ⟨fun _ y hy=>by cases hy;exact aa.out.2.2.1 _ (by have:=fa.out.lt;show _<=gg;omega),fun t ht=>?_⟩;rcases ZF.1 ht with rfl|ht
      .exact aa.out.1.t
      .have h:=aa.out.2.1;obtain⟨k,a,cc,l⟩:=E;exact(Tr.ld.1 h).2 t ht
     .rcases ZF.1 hu with rfl|hu
      .exact HF.out.1
      .exact HF.out.2.1 u hu
    clear ac ad el hf bu d4 dj h6 HB;go_wp2_with fail;go_meet
    case rel=>exact⟨⟨0,Za ⟨gg,0,L⟩,cap1,x.t::E.l⟩,by simp[Nat.add_comm],HN⟩
  .have HK:=Yy hk0;have dg:(x.k==7)=Zi:=by simpa using hk0
   clear hk0;rw[dg];clear dg;have HN:Zd (E.l.map Tr.ty=Yv x.k x.t.ty (E.l.map Tr.ty)/\E.In W1/\E.Bl Q1/\bL W1 W1/\(∀u,u∈E.l->YB 4 u=Zj)):=⟨by rw[Yv,if_neg HK.out],cy,aa.out.2.1,R _ _,HF.out.2.1⟩
   go_wp2_with fail;go_meet
   case rel=>exact⟨E,rfl,HN⟩
 case rest=>
 obtain⟨N,rfl,HN⟩:=hcut;clear q0 q1 q2 q3 q4 q5 q6 ls cy br cb cd c9;have b8:=Yy (fa.out.below HN.out.2.2.2.1);obtain⟨tk,ev⟩:∃tk,tk=Yv x.k x.t.ty (E.l.map Tr.ty):=⟨_,rfl⟩
 have kf:=Yy ev;have dc:Zd (N.l.map Tr.ty=tk/\N.In wc/\N.Bl Q1/\(∀u,u∈N.l->YB 4 u=Zj)/\N.l.length=(if x.k=7 then E.l.length+1 else E.l.length)):=by refine⟨ev▸HN.out.1,HN.out.2.1,HN.out.2.2.1,HN.out.2.2.2.2,?_⟩;have:=congrArg List.length HN.out.1;rw[Zq,Xl,Zq] at this;exact this
 rw[<-ev] at az;have bp:Zd (ps.length=x.l.length/\∀j(h:j<x.l.length)(h':j<ps.length),ps[j].1=c+1+((x.l.take j).map TT.sz).sum/\Xt x.l[j].tm tk ps[j].1=Za (ps[j].2.1,ps[j].2.2)/\Xa x.l[j].tm tk=Za ps[j].2.2):=by
  refine⟨by have:=Jk _ _ _ _ az.out.1;simpa using this,fun j h h'=>?_⟩;obtain⟨h1,h2⟩:=S5 _ _ _ az.out.1 j (by simpa using h) h';simp only[List.getElem_map] at h2;refine⟨?_,h2,?_⟩
  .rw[h1,<-List.map_take,ZV];congr 2;exact ZI fun z _=>z.me.symm
  .rw[<-Lk _ _ ps[j].1,h2];rfl
 have eu:Zd (∀y,y∈x.l->y.sz+1<=x.sz):=by
  intro y hy;have h1:=x.mr;have e:y.tm.sz<=((x.l.map TT.tm).map Tm.sz).sum:=JE _ _ (ZC.2 ⟨_,hy,rfl⟩);have e2:(x.l.map TT.tm).map Tm.sz=x.l.map TT.sz:=by rw[ZV];exact ZI fun z _=>z.me.symm
  rw[e2,<-TT.me] at e;omega
 clear ev HN;obtain⟨V0,j2⟩:∃V,V=wc:=⟨_,rfl⟩
 subst j2;apply_assumption;refine ZP fun Kx kh=>?_;go_cut [9,10] (fun s9 s10 wx=>s9=B L 0 0/\s10=B L 0 0/\wx=V0)
 case first=>
  go_wp2_with fail;go_meet
  case rel=>exact⟨rfl,rfl,rfl⟩
 obtain⟨h9,j1,ha⟩:=hcut;subst h9 j1;rw[ha];clear ha;apply_assumption;refine ZP fun Ky ks=>?_;go_cut [9,10] (fun s9 s10 wx=>∃(vh vw:Value)(ts:List Tr),vh=s9/\vw=s10/\Zd (T2 Q1 V0 vh vw ts ts wx/\ts.length=x.l.length/\(∀q(h:q<ts.length)(h':q<ps.length),ts[q].ty=ps[q].2.2/\YB 904 ts[q]=Zj)))
 case first=>
  obtain⟨i0,br,cb,cd,c9⟩:=info_parts Tryz.info24s;have q6:=b8.out.box.at7.c6;simp only[Zf] at q6;have ls:=b8.out.lt;have jf:=HX.out.1.below b8.out.low;go_wp2_with fail;go_loopg [9,10,34] x.l.length (fun g s9 s10 i wr=>∃(vh vw:Value)(j:Nat)(ts:List Tr),vh=s9/\vw=s10/\j<=x.l.length/\g=x.l.length-j/\i=F D (j:Int)/\Zd (T2 Q1 V0 vh vw ts ts wr/\ts.length=j/\∀q(h:q<ts.length)(h':q<ps.length),ts[q].ty=ps[q].2.2/\YB 904 ts[q]=Zj))
  case atStart=>exact⟨_,_,0,[],rfl,rfl,Nat.zero_le _,rfl,rfl,T2.start _ _,rfl,fun q h=>by simp at h⟩
  case round=>
   obtain⟨vh,vw,j,ts,ai,ak,hj,hg,rfl,HR⟩:=hrel;subst ai ak;have HG:=Yy hg;clear hg;by_cases hlt:j<x.l.length
   .obtain⟨b,o,ea,⟨x0,x1,x2,x3,x4,x5,x6⟩,hxj⟩:=jf.part j hlt;have an:=HR.out.1.low;replace x0:=Zl an x0;replace x1:=Zl an x1;replace x2:=Zl an x2;replace x3:=Zl an x3;replace x4:=Zl an x4;replace x5:=Zl an x5;replace x6:=Zl an x6;obtain⟨y,hy⟩:∃y,y=x.l[j]:=⟨_,rfl⟩
    rw[<-hy] at x0 x1 x2 x3 x4 x5 x6 hxj;have b6:y∈x.l:=by rw[hy];exact Zv hlt
    have HY:=Uy hy b6;have i1:(j:Int)<(x.l.length:Int):=by omega
    have i2:(0:Int)<=(j:Int):=by omega
    have lb:b<wr.heap.size:=I _ _ x0;have bn:=HR.out.1.oh.lt;have cg:=HR.out.1.ow.lt;have ax:bL wr (wr.alloc (M y.v 27)):=(R _ _).alloc (Zb _) _;have bj:=an.trans (ax.mono an.size);have HI:Zd (Zn Zc 57 #[Zk y.v,N.s] (wr.alloc (M y.v 27)) (KG (fun b=>Q1 b/\Za b≠vh.ownBlock/\Za b≠vw.ownBlock) (Xa y.tm tk) (wr.alloc (M y.v 27)))):=by
     have al:=dc.out;rw[<-al.1];have ju:=eu.out y b6;refine Su y.sz y (Zb _) _ N _ (hxj.below bj) (al.2.1.below bj) (by rw[al.2.2.2.2];exact HF.out.2.2.2.1 y b6) al.2.2.2.1 ?_ ?_ ?_ ?_
     .have:=HF.out.2.2.1;rw[al.2.2.2.2];split<;>omega
     .have h1:y.Bl Q1:=aa.out.1.mem b6;exact(h1.and hxj.bl).mono fun b hb=>⟨hb.1,fun e=>by have:=(bn b e.symm).1;omega,fun e=>by have:=(cg b e.symm).1;omega⟩
     .exact(al.2.2.1.and al.2.1.bl).mono fun b hb=>⟨hb.1,fun e=>by have:=(bn b e.symm).1;omega,fun e=>by have:=(cg b e.symm).1;omega⟩
     .intro b hb;simp at hb;exact⟨aa.out.2.2.1 b (by have:=an.size;omega),fun e=>by have:=(bn b e.symm).2;omega,fun e=>by have:=(cg b e.symm).2;omega⟩
    have e9:=Yy ea;rw[ea];clear ea hxj hy b6;go_wp2_with fail;refine HI.out.mono ?_;rintro e w2 ⟨t,bb,rfl,jk,d7,hn,h5,ay⟩;have bg:=ax.trans (ay.mono ax.size);have cj:j<ps.length:=by have:=bp.out.1;omega
    have fe:Zd (t.ty=ps[j].2.2/\YB 904 t=Zj):=by have h0:=(bp.out.2 j hlt cj).2.2;rw[<-HY.out.1] at h0;have ht:=d7 _ h0;refine⟨ht,?_⟩;rw[YL,ht];have al:=dc.out;have je:=HF.out.2.2.2.1 y HY.out.2;have:=QP (by rw[<-al.1,Zq,al.2.2.2.2];exact je) (by intro u hu;rw[<-al.1] at hu;obtain⟨z,hz,rfl⟩:=ZC.1 hu;rw[<-YL];exact al.2.2.2.1 z hz) h0;refine YG _ _ _ ?_ this;have h1:=HF.out.2.2.1;have h2:=eu.out y HY.out.2;rw[<-TT.me];omega
    have d8:Zd (T2 Q1 V0 vh vw ts ts (w2.alloc (M t.v 24))):=HR.out.1.below (bg.trans (((R _ _).alloc (Zb _) _).mono bg.size));have kr:=bg.size;have ku:=an.size;have cz:Za w2.heap.size≠vh.ownBlock:=fun e=>by have:=(bn _ e.symm).2;omega
    have fx:Za w2.heap.size≠vw.ownBlock:=fun e=>by have:=(cg _ e.symm).2;omega
    have dz:Za (w2.heap.size+1)≠vh.ownBlock:=fun e=>by have:=(bn _ e.symm).2;omega
    have dy:Za (w2.heap.size+1+1)≠vh.ownBlock:=fun e=>by have:=(bn _ e.symm).2;omega
    have kb:ts.length<=3:=by have:=HR.out.2.1;omega
    have HS:Zd (∀W:ZB,W.heap[w2.heap.size]?=(w2.alloc (M t.v 24)).heap[w2.heap.size]?->(fun W=>cL W w2.heap.size 0 (F D t.k)/\cL W w2.heap.size 1 (t.s)) W):=fun W h=>by
     have h0:(w2.alloc (M #[F D t.k,B t.a t.l.length t.c] 24)).cell? ⟨w2.heap.size,0,L⟩=Za (F D t.k):=by simp[go_sem]
     have h1:(w2.alloc (M #[F D t.k,B t.a t.l.length t.c] 24)).cell? ⟨w2.heap.size,1,L⟩=Za (B t.a t.l.length t.c):=by simp[go_sem]
     exact⟨(Zs (a:=⟨w2.heap.size,0,L⟩) h).trans h0,(Zs (a:=⟨w2.heap.size,1,L⟩) h).trans h1⟩
    have b7:Zd (∀(V1 w3 V2 w4:ZB)(g1 c8 g2 bz:Nat),Zh (w2.alloc (M t.v 24)).heap.size (w2.alloc (M t.v 24)) V1->w3.ownsRow V0.heap.size 24 2 (B (Za ⟨g1,0,L⟩) (ts.length+1) c8) (ts.length+1) (cellsOf ts++[F D t.k,t.s])->V1.grownBy w3 vh.ownBlock->(vh.ownBlock=Za g1\/V1.heap.size<=g1)->g1<w3.heap.size->bL w3 V2->w4.ownsRow V0.heap.size 24 2 (B (Za ⟨g2,0,L⟩) (ts.length+1) bz) (ts.length+1) (cellsOf ts++[F D t.k,t.s])->V2.grownBy w4 vw.ownBlock->(vw.ownBlock=Za g2\/V2.heap.size<=g2)-> (T2 Q1 V0 (B (Za ⟨g1,0,L⟩) (ts.length+1) c8) (B (Za ⟨g2,0,L⟩) (ts.length+1) bz) (ts++[t]) (ts++[t]) w4/\(ts++[t]).length=j+1/\∀q(h:q<(ts++[t]).length)(h':q<ps.length),(ts++[t])[q].ty=ps[q].2.2/\YB 904 (ts++[t])[q]=Zj)):=by
     intro V1 w3 V2 w4 g1 c8 g2 bz a1 a2 a3 a4 a5 a6 a7 a8 a9;have cx:bL w2 (w2.alloc (M t.v 24)):=(R _ _).alloc (Zb _) _;refine⟨(d8.out.step a1 ((hn.below cx).below a1) h5 a2 a3 a4 a5 a6 a7 a8 a9).1,by have:=HR.out.2.1;simp;omega,fun q h h'=>?_⟩;have hl:=HR.out.2.1;by_cases hq:q<ts.length
     .rw[List.getElem_append_left hq];exact HR.out.2.2 q hq h'
     .have hqj:q=j:=by simp at h;omega
      subst hqj;rw[List.getElem_append_right (by omega)];simp only[show q-ts.length=0 by omega,Zm];exact fe.out
    clear HI jk d7 hn h5 ax bj an x0 x1 x2 x3 x4 x5 x6 lb bn cg ay bg HR fe cj;have ax:Zh (w2.alloc (M t.v 24)).heap.size (w2.alloc (M t.v 24)) ((w2.alloc (M t.v 24)).drew.alloc (M t.v 24)):=((R (w2.alloc (M t.v 24)).heap.size (w2.alloc (M t.v 24))).drew).alloc (Zb _) _;have ay:Zh (w2.alloc (M t.v 24)).heap.size (w2.alloc (M t.v 24)) (((w2.alloc (M t.v 24)).drew.alloc (M t.v 24)).alloc (M t.v 24)):=(((R (w2.alloc (M t.v 24)).heap.size (w2.alloc (M t.v 24))).drew).alloc (Zb _) _).alloc (by simp) _;have ge:=YX d8.out.oh ax;have gd:=YX d8.out.oh ay;have e1:((w2.alloc (M t.v 24)).drew.alloc (M t.v 24)).heap[w2.heap.size]?=(w2.alloc (M t.v 24)).heap[w2.heap.size]?:=ax.block _ (by simp);have e2:(((w2.alloc (M t.v 24)).drew.alloc (M t.v 24)).alloc (M t.v 24)).heap[w2.heap.size]?=(w2.alloc (M t.v 24)).heap[w2.heap.size]?:=ay.block _ (by simp);have n1:((w2.alloc (M t.v 24)).drew.alloc (M t.v 24)).heap[w2.heap.size+1]?=Za (M t.v 24):=by have:=ZJ (w2.alloc (M t.v 24)).drew (M t.v 24);simpa using this
    have g8:(((w2.alloc (M t.v 24)).drew.alloc (M t.v 24)).alloc (M t.v 24)).heap[w2.heap.size+1]?=Za (M t.v 24):=by have:=((R ((w2.alloc (M t.v 24)).drew.alloc (M t.v 24)).heap.size ((w2.alloc (M t.v 24)).drew.alloc (M t.v 24))).alloc (Zb _) (M t.v 24)).block (w2.heap.size+1) (by simp);exact this.trans n1
    have fw:(((w2.alloc (M t.v 24)).drew.alloc (M t.v 24)).alloc (M t.v 24)).heap[w2.heap.size+1+1]?=Za (M t.v 24):=by have:=ZJ ((w2.alloc (M t.v 24)).drew.alloc (M t.v 24)) (M t.v 24);simpa using this
    go_upto_region 10 with fail;refine Zu (S:=fun W=>cL W w2.heap.size 0 (F D t.k)/\cL W w2.heap.size 1 (t.s)) (by kernel_rfl) (HS.out _ rfl) (fun hHeld=>?_);refine qk 0 (v:=?_) rfl (by kernel_rfl) (fun _ _ _ h=>h) (by rfl) hHeld ?_ ?_;rotate_left;(focus (intro w' h;go_split_ands;go_simp;try with_reducible rfl));simp only[Ze,A,G,H];refine qk 1 (v:=?_) rfl (by kernel_rfl) (fun _ _ _ h=>h) (by rfl) hHeld ?_ ?_;rotate_left;(focus (intro w' h;go_split_ands;go_simp;try with_reducible rfl));simp only[Ze,A,G,H];refine qk 4 (v:=?_) rfl (by kernel_rfl) (fun _ _ _ h=>h) (by rfl) hHeld ?_ ?_;rotate_left;(focus (intro w' h;go_split_ands;go_simp;try with_reducible rfl));simp only[Ze,A,G,H];refine qk 5 (v:=?_) rfl (by kernel_rfl) (fun _ _ _ h=>h) (by rfl) hHeld ?_ ?_;rotate_left;(focus (intro w' h;go_split_ands;go_simp;try with_reducible rfl));simp only[Ze,A,G,H];refine Fa (i:=2) (j:=6) rfl rfl (by kernel_rfl) (fun K hK=>?_) (fun K hK=>?_)
    .go_simp;refine hK.out _ _ (HS.out _ e1) (fun hHeld=>?_);clear hK K;refine Fa (i:=3) (j:=6) rfl rfl (by kernel_rfl) (fun K hK=>?_) (fun K hK=>?_)
     .clear e2 g8 fw gd ay dz dy;refine Zz _ (by rfl) _ _ _ (by rfl) V0.heap.size 24 i0 _ 2 32 Zo br cb cd c9 rfl (by omega) vh ts.length (cellsOf ts) (by rfl) ge ⟨w2.heap.size+1,0,L⟩ 1 1 [F D t.k,t.s] (by rfl) (by rfl) (Zr (cs:=t.v) (t:=24) (fr:=(0,0)) n1) (by simp[Zy]) (by omega) (by unfold ZM;omega) (by omega) (by first|omega|(simp;omega)) (w2.heap.size+1+1) (by simp) ?_;intro g1 c8 w3 ac d ba bf;have bd:=d.size;(try simp at bd)
      refine hK.out _ _ (HS.out _ ((d.block _ (by first|omega|(simp;done)|(simp;omega)) cz).trans e1)) (fun hHeld=>?_);clear hK K;refine Jl (i:=6) rfl (by kernel_rfl) (fun K hK=>?_);go_simp;refine hK.out _ _ (HS.out _ (((R w3.heap.size w3).alloc (Zb _) _).block _ (by first|omega|(simp;done)|(simp;omega)) |>.trans ((d.block _ (by first|omega|(simp;done)|(simp;omega)) cz).trans e1))) (fun hHeld=>?_);clear hK K;refine Jl (i:=7) rfl (by kernel_rfl) (fun K hK=>?_);refine Zz _ (by rfl) _ _ _ (by rfl) V0.heap.size 24 i0 _ 2 32 Zo br cb cd c9 rfl (by omega) vw ts.length (cellsOf ts) (by rfl) (YX (d8.out.other ax d) ((R _ _).alloc (Zb _) (M t.v 24))) ⟨w3.heap.size,0,L⟩ 1 1 [F D t.k,t.s] (by rfl) (by rfl) (Zr (cs:=t.v) (t:=24) (fr:=(0,0)) (ZJ w3 (M t.v 24))) (by simp[Zy]) (by omega) (by unfold ZM;omega) (by omega) (by first|omega|(simp;omega)) (w3.heap.size+1) (by simp) ?_;intro g2 bz w4 ap ab bc co;have b9:=ab.size;(try simp at b9)
      refine hK.out _ _ (HS.out _ ((ab.block _ (by first|omega|(simp;done)|(simp;omega)) fx).trans (((R w3.heap.size w3).alloc (Zb _) _).block _ (by first|omega|(simp;done)|(simp;omega)) |>.trans ((d.block _ (by first|omega|(simp;done)|(simp;omega)) cz).trans e1)))) (fun hHeld=>?_);clear hK K;refine qk 8 (v:=?_) rfl (by kernel_rfl) (fun _ _ _ h=>h) (by rfl) hHeld ?_ ?_;rotate_left;(focus (intro w' h;go_split_ands;go_simp;try with_reducible rfl));simp only[Ze,A,G,H];refine qk 9 (v:=?_) rfl (by kernel_rfl) (fun _ _ _ h=>h) (by rfl) hHeld ?_ ?_;rotate_left;(focus (intro w' h;go_split_ands;go_simp;try with_reducible rfl));simp only[Ze,A,G,H];refine ZA (by kernel_rfl) ?_ _;have cu:Zd _:=b7.out ((w2.alloc (M t.v 24)).drew.alloc (M t.v 24)) w3 (w3.alloc (M t.v 24)) w4 g1 c8 g2 bz ax ac d (ba.imp id fun h=>by first|omega|(simp;done)|(simp;omega)) bf ((R _ _).alloc (Zb _) _) ap ab (bc.imp id fun h=>by first|omega|(simp;done)|(simp;omega));clear ac d ba bf ap ab bc co b7 bd b9;go_wp2_with fail;rw[<-e9.out];go_roundg (x.l.length-(j+1))
      case measure=>rw[HG.out];omega
      case rel=>exact⟨_,_,j+1,ts++[t],rfl,rfl,by omega,rfl,by go_num,cu⟩
     .clear e1 n1 ge ax dz;go_simp;refine hK.out _ _ (HS.out _ e2) (fun hHeld=>?_);clear hK K;refine Jl (i:=3) rfl (by kernel_rfl) (fun K hK=>?_);refine Zz _ (by rfl) _ _ _ (by rfl) V0.heap.size 24 i0 _ 2 32 Zo br cb cd c9 rfl (by omega) vh ts.length (cellsOf ts) (by rfl) gd ⟨w2.heap.size+1,0,L⟩ 1 1 [F D t.k,t.s] (by rfl) (by rfl) (Zr (cs:=t.v) (t:=24) (fr:=(0,0)) g8) (by simp[Zy]) (by omega) (by unfold ZM;omega) (by omega) (by first|omega|(simp;omega)) (w2.heap.size+1+1+1) (by simp) ?_;intro g1 c8 w3 ac d ba bf;have bd:=d.size;(try simp at bd)
      refine hK.out _ _ (HS.out _ ((d.block _ (by first|omega|(simp;done)|(simp;omega)) cz).trans e2)) (fun hHeld=>?_);clear hK K;refine Jl (i:=7) rfl (by kernel_rfl) (fun K hK=>?_);refine Zz _ (by rfl) _ _ _ (by rfl) V0.heap.size 24 i0 _ 2 32 Zo br cb cd c9 rfl (by omega) vw ts.length (cellsOf ts) (by rfl) (d8.out.other ay d) ⟨w2.heap.size+1+1,0,L⟩ 1 1 [F D t.k,t.s] (by rfl) (by rfl) (Zr (cs:=t.v) (t:=24) (fr:=(0,0)) ((d.block _ (by first|omega|(simp;done)|(simp;omega)) dy).trans fw)) (by simp[Zy]) (by omega) (by unfold ZM;omega) (by omega) (by first|omega|(simp;omega)) (w3.heap.size) (by simp) ?_;intro g2 bz w4 ap ab bc co;have b9:=ab.size;(try simp at b9)
      refine hK.out _ _ (HS.out _ ((ab.block _ (by first|omega|(simp;done)|(simp;omega)) fx).trans ((d.block _ (by first|omega|(simp;done)|(simp;omega)) cz).trans e2))) (fun hHeld=>?_);clear hK K;refine qk 8 (v:=?_) rfl (by kernel_rfl) (fun _ _ _ h=>h) (by rfl) hHeld ?_ ?_;rotate_left;(focus (intro w' h;go_split_ands;go_simp;try with_reducible rfl));simp only[Ze,A,G,H];refine qk 9 (v:=?_) rfl (by kernel_rfl) (fun _ _ _ h=>h) (by rfl) hHeld ?_ ?_;rotate_left;(focus (intro w' h;go_split_ands;go_simp;try with_reducible rfl));simp only[Ze,A,G,H];refine ZA (by kernel_rfl) ?_ _;have cu:Zd _:=b7.out (((w2.alloc (M t.v 24)).drew.alloc (M t.v 24)).alloc (M t.v 24)) w3 w3 w4 g1 c8 g2 bz ay ac d (ba.imp id fun h=>by first|omega|(simp;done)|(simp;omega)) bf (R _ _) ap ab (bc.imp id fun h=>by first|omega|(simp;done)|(simp;omega));clear ac d ba bf ap ab bc co b7 bd b9;go_wp2_with fail;rw[<-e9.out];go_roundg (x.l.length-(j+1))
      case measure=>rw[HG.out];omega
      case rel=>exact⟨_,_,j+1,ts++[t],rfl,rfl,by omega,rfl,by go_num,cu⟩
    .go_simp;refine hK.out _ _ (HS.out _ e1) (fun hHeld=>?_);clear hK K;refine Jl (i:=2) rfl (by kernel_rfl) (fun K hK=>?_);clear e1 n1 ge ax dy;go_simp;refine hK.out _ _ (HS.out _ e2) (fun hHeld=>?_);clear hK K;refine Jl (i:=3) rfl (by kernel_rfl) (fun K hK=>?_);refine Zz _ (by rfl) _ _ _ (by rfl) V0.heap.size 24 i0 _ 2 32 Zo br cb cd c9 rfl (by omega) vh ts.length (cellsOf ts) (by rfl) gd ⟨w2.heap.size+1+1,0,L⟩ 1 1 [F D t.k,t.s] (by rfl) (by rfl) (Zr (cs:=t.v) (t:=24) (fr:=(0,0)) fw) (by simp[Zy]) (by omega) (by unfold ZM;omega) (by omega) (by first|omega|(simp;omega)) (w2.heap.size+1+1+1) (by simp) ?_;intro g1 c8 w3 ac d ba bf;have bd:=d.size;(try simp at bd)
     refine hK.out _ _ (HS.out _ ((d.block _ (by first|omega|(simp;done)|(simp;omega)) cz).trans e2)) (fun hHeld=>?_);clear hK K;refine Jl (i:=7) rfl (by kernel_rfl) (fun K hK=>?_);refine Zz _ (by rfl) _ _ _ (by rfl) V0.heap.size 24 i0 _ 2 32 Zo br cb cd c9 rfl (by omega) vw ts.length (cellsOf ts) (by rfl) (d8.out.other ay d) ⟨w2.heap.size+1,0,L⟩ 1 1 [F D t.k,t.s] (by rfl) (by rfl) (Zr (cs:=t.v) (t:=24) (fr:=(0,0)) ((d.block _ (by first|omega|(simp;done)|(simp;omega)) dz).trans g8)) (by simp[Zy]) (by omega) (by unfold ZM;omega) (by omega) (by first|omega|(simp;omega)) (w3.heap.size) (by simp) ?_;intro g2 bz w4 ap ab bc co;have b9:=ab.size;(try simp at b9)
     refine hK.out _ _ (HS.out _ ((ab.block _ (by first|omega|(simp;done)|(simp;omega)) fx).trans ((d.block _ (by first|omega|(simp;done)|(simp;omega)) cz).trans e2))) (fun hHeld=>?_);clear hK K;refine qk 8 (v:=?_) rfl (by kernel_rfl) (fun _ _ _ h=>h) (by rfl) hHeld ?_ ?_;rotate_left;(focus (intro w' h;go_split_ands;go_simp;try with_reducible rfl));simp only[Ze,A,G,H];refine qk 9 (v:=?_) rfl (by kernel_rfl) (fun _ _ _ h=>h) (by rfl) hHeld ?_ ?_;rotate_left;(focus (intro w' h;go_split_ands;go_simp;try with_reducible rfl));simp only[Ze,A,G,H];refine ZA (by kernel_rfl) ?_ _;have cu:Zd _:=b7.out (((w2.alloc (M t.v 24)).drew.alloc (M t.v 24)).alloc (M t.v 24)) w3 w3 w4 g1 c8 g2 bz ay ac d (ba.imp id fun h=>by first|omega|(simp;done)|(simp;omega)) bf (R _ _) ap ab (bc.imp id fun h=>by first|omega|(simp;done)|(simp;omega));clear ac d ba bf ap ab bc co b7 bd b9;go_wp2_with fail;rw[<-e9.out];go_roundg (x.l.length-(j+1))
     case measure=>rw[HG.out];omega
     case rel=>exact⟨_,_,j+1,ts++[t],rfl,rfl,by omega,rfl,by go_num,cu⟩
   .have hjl:j=x.l.length:=by omega
    have cu:Zd (T2 Q1 V0 vh vw ts ts wr/\ts.length=x.l.length/\(∀q(h:q<ts.length)(h':q<ps.length),ts[q].ty=ps[q].2.2/\YB 904 ts[q]=Zj)):=⟨HR.out.1,by rw[HR.out.2.1,hjl],HR.out.2.2⟩
    clear HR;go_wp2_with fail;go_meet
    case rel=>exact⟨vh,vw,ts,rfl,rfl,cu⟩
 case rest=>
 obtain⟨vh,vw,ts,ai,ak,HT⟩:=hcut;subst ai ak;have ao:Zd (ts.map Tr.ty=ps.map fun p=>p.2.2):=by
  refine List.ext_getElem ?_ fun q h h'=>?_
  .rw[Zq,Zq,HT.out.2.1,bp.out.1]
  .simp only[List.getElem_map];exact(HT.out.2.2 q (by simpa using h) (by simpa using h')).1
 have de:Zd (ts.length=x.l.length/\∀t,t∈ts->YB 904 t=Zj):=by refine⟨HT.out.2.1,fun t ht=>?_⟩;obtain⟨q,hq,rfl⟩:=ZU ht;exact(HT.out.2.2 q hq (by rw[bp.out.1,<-HT.out.2.1];exact hq)).2
 have ff:=Yy ao.out;apply_assumption;refine ZP fun Kz kn=>?_;go_cut [10] (fun s10 wx=>∃(ah:Option Addr)(ch:Nat)(a:Option Addr)(cc:Nat)(uu:List Tr),vh=B ah ts.length ch/\s10=B a uu.length cc/\Zd (uu.map Tr.ty=us/\P3 x w V0 Q1 ah ch ts a cc uu wx))
 case first=>
  have hB:=b8.out.below HT.out.1.low;have d0:=hB.box.at7.c0;have ia:=hB.lt;clear hB;have jp:x.k=1\/x.k=2\/x.k=3\/x.k=4\/x.k=5\/x.k=6\/x.k=7\/x.k=8\/x.k=9:=by omega
  rcases jp with hk|hk|hk|hk|hk|hk|hk|hk|hk
  ·
   obtain⟨ah,ch,aw,cw,ai,ak,hP⟩:=P3.of HT.out.1 b8.out aa.out.2.2.1
   subst ai ak
   have HN:Zd (ts.map Tr.ty=us/\P3 x w V0 Q1 ah ch ts aw cw ts wc):=by refine⟨?_,hP⟩;have hu:=az.out.2.1;rw[hk,<-ao.out] at hu;have h0:ts=[]:=Zt (by rw[HT.out.2.1,HF.out.2.2.2.2.1,hk];rfl);subst h0;simp[YK] at hu;exact hu.2.symm
   rw[hk] at d0
   clear hk hP HT ao
   go_wp2_with fail
   go_meet
   case rel=>exact⟨ah,ch,aw,cw,ts,rfl,rfl,HN⟩
  ·
   obtain⟨ah,ch,aw,cw,ai,ak,hP⟩:=P3.of HT.out.1 b8.out aa.out.2.2.1
   subst ai ak
   have HN:Zd (ts.map Tr.ty=us/\P3 x w V0 Q1 ah ch ts aw cw ts wc):=by refine⟨?_,hP⟩;have hu:=az.out.2.1;rw[hk,<-ao.out] at hu;have h0:ts=[]:=Zt (by rw[HT.out.2.1,HF.out.2.2.2.2.1,hk];rfl);subst h0;simp[YK] at hu;exact hu.2.symm
   rw[hk] at d0
   clear hk hP HT ao
   go_wp2_with fail
   go_meet
   case rel=>exact⟨ah,ch,aw,cw,ts,rfl,rfl,HN⟩
  ·
   obtain⟨ah,ch,aw,cw,ai,ak,hP⟩:=P3.of HT.out.1 b8.out aa.out.2.2.1
   subst ai ak
   have HN:Zd (ts.map Tr.ty=us/\P3 x w V0 Q1 ah ch ts aw cw ts wc):=by refine⟨?_,hP⟩;have hu:=az.out.2.1;rw[hk,<-ao.out] at hu;have h0:ts=[]:=Zt (by rw[HT.out.2.1,HF.out.2.2.2.2.1,hk];rfl);subst h0;simp[YK] at hu;exact hu.2.symm
   rw[hk] at d0
   clear hk hP HT ao
   go_wp2_with fail
   go_meet
   case rel=>exact⟨ah,ch,aw,cw,ts,rfl,rfl,HN⟩
  ·
   obtain⟨t0,t1,rfl⟩:∃t0 t1,ts=[t0,t1]:=by
    match ts,(show ts.length=2 by rw[HT.out.2.1,HF.out.2.2.2.2.1,hk];rfl) with
    |[t0,t1],_=>exact⟨t0,t1,rfl⟩
   obtain⟨ah,ch,g,cw,ai,ak,hP⟩:=P2.of HT.out.1 b8.out aa.out.2.2.1 (by simp)
   subst ai ak
   obtain⟨b0,o0,bk,c0,c1,_⟩:=hP.wv.part 0 (by simp)
   obtain⟨rfl,rfl⟩:g=b0/\0=o0:=by simpa using bk
   obtain⟨b1,o1,c7,c2,c3,_⟩:=hP.wv.part 1 (by simp)
   obtain⟨rfl,rfl⟩:g=b1/\0=o1:=by simpa using c7
   simp only[Zm,Zp,ZD,ZE,Zf,ZR] at c0 c1 c2 c3
   have n0:=hP.bx.n0
   have n1:=hP.bx.n1
   have am:=hP.wf
   have bi:=hP.gl
   have lg:=bi.2.2
   have HS:Zd (∀W,Yi g L wc W->(fun W=>cL W (w.heap.size+1+1) 0 (F D 1)/\cL W (w.heap.size+1+1) 1 (B L 0 0)) W):=fun W h=>⟨h.cell n0 (by omega),h.cell n1 (by omega)⟩
   have HN:Zd ([Ys 1,Ys 1].map Tr.ty=us/\P3 x w V0 Q1 ah ch [t0,t1] (Za ⟨g,0,L⟩) cw [Ys 1,Ys 1] ((((wc.drew.setCell ⟨g,0,L⟩ (F D 1)).setCell ⟨g,1,L⟩ (B L 0 0)).setCell ⟨g,2,L⟩ (F D 1)).setCell ⟨g,3,L⟩ (B L 0 0))):=by
    refine⟨?_,?_⟩
    .have hu:=az.out.2.1;rw[hk] at hu;simp[YK] at hu;rw[<-hu.2];simp[XL]
    .have h1:=(hP.below ((R _ _).drew)).set (j:=0) (o:=0) (o1:=1) (u:=Ys 1) (by simp) rfl rfl (YC 1 _) (YF 1 _);have h2:=h1.set (j:=1) (o:=2) (o1:=3) (u:=Ys 1) (by simp) rfl rfl (YC 1 _) (YF 1 _);exact h2.fin aa.out.2.2.1
   have i9:=am 0
   have gn:=am 1
   have jh:=am 2
   have j5:=am 3
   have js:cL wc.drew g 0 (F D t0.k):=c0
   have j3:cL wc.drew g 1 (t0.s):=c1
   have k5:cL wc.drew g 2 (F D t1.k):=c2
   have j7:cL wc.drew g 3 (t1.s):=c3
   rw[hk] at d0
   clear hk hP HT ao bk c7 bi
   go_upto_region 15 with fail
   refine Zu (S:=fun W=>cL W (w.heap.size+1+1) 0 (F D 1)/\cL W (w.heap.size+1+1) 1 (B L 0 0)) (by kernel_rfl) (HS.out _ (Yi.la ((R _ _).drew))) (fun hHeld=>?_)
   refine qk 0 (v:=?_) rfl (by kernel_rfl) (fun _ _ _ h=>h) (by rfl) hHeld ?_ ?_;rotate_left;(focus (intro w' h;go_split_ands;go_simp;try with_reducible rfl));simp only[Ze,A,G,H]
   refine qk 1 (v:=?_) rfl (by kernel_rfl) (fun _ _ _ h=>h) (by rfl) hHeld ?_ ?_;rotate_left;(focus (intro w' h;go_split_ands;go_simp;try with_reducible rfl));simp only[Ze,A,G,H]
   refine qk 2 (v:=?_) rfl (by kernel_rfl) (fun _ _ _ h=>h) (by rfl) hHeld ?_ ?_;rotate_left;(focus (intro w' h;go_split_ands;go_simp;try with_reducible rfl));simp only[Ze,A,G,H]
   refine qk 3 (v:=?_) rfl (by kernel_rfl) (fun _ _ _ h=>h) (by rfl) hHeld ?_ ?_;rotate_left;(focus (intro w' h;go_split_ands;go_simp;try with_reducible rfl));simp only[Ze,A,G,H]
   refine qk 4 (v:=?_) rfl (by kernel_rfl) (fun _ _ _ h=>h) (by rfl) hHeld ?_ ?_;rotate_left;(focus (intro w' h;go_split_ands;go_simp;try with_reducible rfl));simp only[Ze,A,G,H]
   refine Jl (i:=5) rfl (by kernel_rfl) (fun K hK=>?_)
   go_simp
   refine hK.out _ _ (HS.out _ ((Yi.la ((R _ _).drew)).trans (Yj.trans Yj))) (fun hHeld=>?_)
   clear hK K
   refine qk 6 (v:=?_) rfl (by kernel_rfl) (fun _ _ _ h=>h) (by rfl) hHeld ?_ ?_;rotate_left;(focus (intro w' h;go_split_ands;go_simp;try with_reducible rfl));simp only[Ze,A,G,H]
   refine Jl (i:=7) rfl (by kernel_rfl) (fun K hK=>?_)
   go_simp
   refine hK.out _ _ (HS.out _ ((Yi.la ((R _ _).drew)).trans (Yj.trans (Yj.trans (Yj.trans Yj))))) (fun hHeld=>?_)
   clear hK K
   refine ZA (by kernel_rfl) ?_ _
   go_wp2_with fail
   go_meet
   case rel=>exact⟨ah,ch,Za ⟨g,0,L⟩,cw,[Ys 1,Ys 1],rfl,rfl,HN⟩
  ·
   obtain⟨t0,t1,rfl⟩:∃t0 t1,ts=[t0,t1]:=by
    match ts,(show ts.length=2 by rw[HT.out.2.1,HF.out.2.2.2.2.1,hk];rfl) with
    |[t0,t1],_=>exact⟨t0,t1,rfl⟩
   obtain⟨ah,ch,g,cw,ai,ak,hP⟩:=P2.of HT.out.1 b8.out aa.out.2.2.1 (by simp)
   subst ai ak
   obtain⟨b0,o0,bk,c0,c1,_⟩:=hP.wv.part 0 (by simp)
   obtain⟨rfl,rfl⟩:g=b0/\0=o0:=by simpa using bk
   obtain⟨b1,o1,c7,c2,c3,_⟩:=hP.wv.part 1 (by simp)
   obtain⟨rfl,rfl⟩:g=b1/\0=o1:=by simpa using c7
   simp only[Zm,Zp,ZD,ZE,Zf,ZR] at c0 c1 c2 c3
   have n0:=hP.bx.n0
   have n1:=hP.bx.n1
   have am:=hP.wf
   have bi:=hP.gl
   have lg:=bi.2.2
   have HS:Zd (∀W,Yi g L wc W->(fun W=>cL W (w.heap.size+1+1) 0 (F D 1)/\cL W (w.heap.size+1+1) 1 (B L 0 0)) W):=fun W h=>⟨h.cell n0 (by omega),h.cell n1 (by omega)⟩
   have HN:Zd ([Ys 1,Ys 1].map Tr.ty=us/\P3 x w V0 Q1 ah ch [t0,t1] (Za ⟨g,0,L⟩) cw [Ys 1,Ys 1] ((((wc.drew.setCell ⟨g,0,L⟩ (F D 1)).setCell ⟨g,1,L⟩ (B L 0 0)).setCell ⟨g,2,L⟩ (F D 1)).setCell ⟨g,3,L⟩ (B L 0 0))):=by
    refine⟨?_,?_⟩
    .have hu:=az.out.2.1;rw[hk] at hu;simp[YK] at hu;rw[<-hu.2];simp[XL]
    .have h1:=(hP.below ((R _ _).drew)).set (j:=0) (o:=0) (o1:=1) (u:=Ys 1) (by simp) rfl rfl (YC 1 _) (YF 1 _);have h2:=h1.set (j:=1) (o:=2) (o1:=3) (u:=Ys 1) (by simp) rfl rfl (YC 1 _) (YF 1 _);exact h2.fin aa.out.2.2.1
   have i9:=am 0
   have gn:=am 1
   have jh:=am 2
   have j5:=am 3
   have js:cL wc.drew g 0 (F D t0.k):=c0
   have j3:cL wc.drew g 1 (t0.s):=c1
   have k5:cL wc.drew g 2 (F D t1.k):=c2
   have j7:cL wc.drew g 3 (t1.s):=c3
   rw[hk] at d0
   clear hk hP HT ao bk c7 bi
   go_upto_region 15 with fail
   refine Zu (S:=fun W=>cL W (w.heap.size+1+1) 0 (F D 1)/\cL W (w.heap.size+1+1) 1 (B L 0 0)) (by kernel_rfl) (HS.out _ (Yi.la ((R _ _).drew))) (fun hHeld=>?_)
   refine qk 0 (v:=?_) rfl (by kernel_rfl) (fun _ _ _ h=>h) (by rfl) hHeld ?_ ?_;rotate_left;(focus (intro w' h;go_split_ands;go_simp;try with_reducible rfl));simp only[Ze,A,G,H]
   refine qk 1 (v:=?_) rfl (by kernel_rfl) (fun _ _ _ h=>h) (by rfl) hHeld ?_ ?_;rotate_left;(focus (intro w' h;go_split_ands;go_simp;try with_reducible rfl));simp only[Ze,A,G,H]
   refine qk 2 (v:=?_) rfl (by kernel_rfl) (fun _ _ _ h=>h) (by rfl) hHeld ?_ ?_;rotate_left;(focus (intro w' h;go_split_ands;go_simp;try with_reducible rfl));simp only[Ze,A,G,H]
   refine qk 3 (v:=?_) rfl (by kernel_rfl) (fun _ _ _ h=>h) (by rfl) hHeld ?_ ?_;rotate_left;(focus (intro w' h;go_split_ands;go_simp;try with_reducible rfl));simp only[Ze,A,G,H]
   refine qk 4 (v:=?_) rfl (by kernel_rfl) (fun _ _ _ h=>h) (by rfl) hHeld ?_ ?_;rotate_left;(focus (intro w' h;go_split_ands;go_simp;try with_reducible rfl));simp only[Ze,A,G,H]
   refine Jl (i:=5) rfl (by kernel_rfl) (fun K hK=>?_)
   go_simp
   refine hK.out _ _ (HS.out _ ((Yi.la ((R _ _).drew)).trans (Yj.trans Yj))) (fun hHeld=>?_)
   clear hK K
   refine qk 6 (v:=?_) rfl (by kernel_rfl) (fun _ _ _ h=>h) (by rfl) hHeld ?_ ?_;rotate_left;(focus (intro w' h;go_split_ands;go_simp;try with_reducible rfl));simp only[Ze,A,G,H]
   refine Jl (i:=7) rfl (by kernel_rfl) (fun K hK=>?_)
   go_simp
   refine hK.out _ _ (HS.out _ ((Yi.la ((R _ _).drew)).trans (Yj.trans (Yj.trans (Yj.trans Yj))))) (fun hHeld=>?_)
   clear hK K
   refine ZA (by kernel_rfl) ?_ _
   go_wp2_with fail
   go_meet
   case rel=>exact⟨ah,ch,Za ⟨g,0,L⟩,cw,[Ys 1,Ys 1],rfl,rfl,HN⟩
  ·
   obtain⟨t0,t1,t2,rfl⟩:∃t0 t1 t2,ts=[t0,t1,t2]:=by
    match ts,(show ts.length=3 by rw[HT.out.2.1,HF.out.2.2.2.2.1,hk];rfl) with
    |[t0,t1,t2],_=>exact⟨t0,t1,t2,rfl⟩
   obtain⟨ah,ch,g,cw,ai,ak,hP⟩:=P2.of HT.out.1 b8.out aa.out.2.2.1 (by simp)
   subst ai ak
   obtain⟨b1,o1,ez,c2,c3,ft⟩:=hP.hv.part 1 (by simp)
   obtain⟨b2,o2,ep,c4,c5,gb⟩:=hP.hv.part 2 (by simp)
   simp only at ez ep
   rw[ez] at ep
   obtain⟨rfl,rfl⟩:b1=b2/\o1=o2:=by simpa using ep
   simp only[Zm,Zp,ZR,show 2*2=4 from rfl] at c2 c3 c4 c5 ft gb
   have gw:=de.out.2 t1 (by simp)
   have ij:=de.out.2 t2 (by simp)
   obtain⟨p1,h1,s1⟩:=YS (by omega) gw
   obtain⟨p2,h2,s2⟩:=YS (by omega) ij
   have lb:b1<wc.heap.size:=I _ _ c2
   have HS:Zd (∀W,bL wc W->(fun W=>cL W b1 (o1+2) (F D t1.k)/\cL W b1 (o1+3) (t1.s)/\cL W b1 (o1+4) (F D t2.k)/\cL W b1 (o1+5) (t2.s)) W):=fun W h=>⟨Zl h c2,Zl h c3,Zl h c4,Zl h c5⟩
   have HJ:Zd (∀W,bL wc W->Zn Zc 92 #[Zk t1.v,Zk t2.v] W fun e w'=>∃u:Tr,e=Zg (Zk u.v)/\Zd (u.ty=Xq t1.ty t2.ty)/\u.In w'/\u.Bl (W.heap.size<=·)/\bL W w'):=fun W h=>P1 1000 t1 t2 W (ft.below h) (gb.below h) p1 p2 h1
   have cm:Zd (∀(X:ZB)(u:Tr),Zh wc.heap.size wc X->Zd (u.ty=Xq t1.ty t2.ty)->u.In X->u.Bl (wc.heap.size<=·)->Zd ([Ys 2,u,u].map Tr.ty=us/\P3 x w V0 Q1 ah ch [t0,t1,t2] (Za ⟨X.heap.size,0,L⟩) 3 [Ys 2,u,u] (X.alloc (M #[F D 2,B L 0 0,F D u.k,B u.a u.l.length u.c,F D u.k,B u.a u.l.length u.c] 24)))):=by
    intro X u hX hu da ci;have dk:=hP.below hX;have cx:∀O,bL X (X.alloc O):=fun O=>(R _ _).alloc (Zb _) _;have fh:=ci.mono fun b hb=>aa.out.2.2.1 b (by omega);refine⟨?_,?_⟩
    .have hr:=az.out.2.1;rw[hk,<-ao.out] at hr;have en:Ah ⟨2,[]⟩ t1.ty t2.ty=Za (B6,us):=by simpa[YK] using hr
     unfold Ah at en;split at en
     .cases en
      simp only[ZL,List.map_nil,XL];rw[hu.out]
     .cases en
    .refine⟨(dk.hv).below (cx _),dk.hb.mono fun b hb=>hb.1,?_,?_,dk.bx.below (cx _),dk.low.trans ((cx _).mono dk.low.size)⟩
     .exact Vr (by simp[go_sem,Ys]) (by simp[go_sem,Ys]) (by simp[go_sem]) (by simp[go_sem]) (by simp[go_sem]) (by simp[go_sem]) (YC 2 _) (da.below (cx _)) (da.below (cx _))
     .refine Tr.ld.2 ⟨fun _ y hy=>by cases hy;exact aa.out.2.2.1 _ (by have:=hX.size;show _<=X.heap.size;omega),fun t ht=>?_⟩;simp only[ZF,List.not_mem_nil,or_false] at ht;rcases ht with rfl|rfl|rfl
      .exact YF 2 _
      .exact fh
      .exact fh
   have gs:=Yy ez
   subst ez
   rw[hk] at d0
   clear hk hP HT ao ep gw ij p1 h1 s1 p2 h2 s2 ft gb
   have bs:bL wc wc.drew:=(R _ _).drew
   have be:bL wc (wc.drew.alloc (M #[F D 0,B L 0 0] 24)):=bs.alloc (Zb _) _
   go_upto_region 17 with fail
   refine Zu (S:=fun W=>cL W b1 (o1+2) (F D t1.k)/\cL W b1 (o1+3) (t1.s)/\cL W b1 (o1+4) (F D t2.k)/\cL W b1 (o1+5) (t2.s)) (by kernel_rfl) (HS.out _ bs) (fun hHeld=>?_)
   refine qk 0 (v:=?_) rfl (by kernel_rfl) (fun _ _ _ h=>h) (by rfl) hHeld ?_ ?_;rotate_left;(focus (intro w' h;go_split_ands;go_simp;try with_reducible rfl));simp only[Ze,A,G,H]
   refine qk 1 (v:=?_) rfl (by kernel_rfl) (fun _ _ _ h=>h) (by rfl) hHeld ?_ ?_;rotate_left;(focus (intro w' h;go_split_ands;go_simp;try with_reducible rfl));simp only[Ze,A,G,H]
   refine QX (i:=2) (v:=?_) rfl (by kernel_rfl) (by kernel_rfl) (by kernel_rfl) (fun _ _ _ h=>h) (ZY ⟨by rfl,?_⟩) hHeld ?_;rotate_left;(focus (intro w' cr;(try dsimp only at cr);go_split_ands;first|(go_simp;done)|(go_simp;with_reducible rfl)));simp only[Ze,A,G,H]
   refine QX (i:=3) (v:=?_) rfl (by kernel_rfl) (by kernel_rfl) (by kernel_rfl) (fun _ _ _ h=>h) (ZY ⟨by rfl,?_⟩) hHeld ?_;rotate_left;(focus (intro w' cr;(try dsimp only at cr);go_split_ands;first|(go_simp;done)|(go_simp;with_reducible rfl)));simp only[Ze,A,G,H]
   refine QX (i:=4) (v:=?_) rfl (by kernel_rfl) (by kernel_rfl) (by kernel_rfl) (fun _ _ _ h=>h) (ZY ⟨by rfl,?_⟩) hHeld ?_;rotate_left;(focus (intro w' cr;(try dsimp only at cr);go_split_ands;first|(go_simp;done)|(go_simp;with_reducible rfl)));simp only[Ze,A,G,H]
   refine QX (i:=5) (v:=?_) rfl (by kernel_rfl) (by kernel_rfl) (by kernel_rfl) (fun _ _ _ h=>h) (ZY ⟨by rfl,?_⟩) hHeld ?_;rotate_left;(focus (intro w' cr;(try dsimp only at cr);go_split_ands;first|(go_simp;done)|(go_simp;with_reducible rfl)));simp only[Ze,A,G,H]
   refine Fa (i:=6) (j:=7) rfl rfl (by kernel_rfl) (fun K hK=>?_) (fun K hK=>?_)
   .go_simp;go_at_call 92;refine(HJ.out _ bs).mono ?_;rintro e w4 ⟨u,rfl,hu,da,ci,ca⟩;have aq:Zh wc.heap.size wc w4:=bs.trans (ca.mono bs.size);have g9:Zh w4.heap.size w4 (w4.alloc (M #[F D 0,B L 0 0] 24)):=(R _ _).alloc (Zb _) _;have dm:=aq.trans (g9.mono aq.size);refine hK.out _ _ (HS.out _ aq) (fun hHeld=>?_);clear hK K;refine Jl (i:=7) rfl (by kernel_rfl) (fun K hK=>?_);go_simp;refine hK.out _ _ (HS.out _ dm) (fun hHeld=>?_);clear hK K;obtain⟨Z,hZ⟩:∃Z,Z=w4.alloc (M #[F D 0,B L 0 0] 24):=⟨_,rfl⟩
    have z0:Z.cell? ⟨w4.heap.size,0,L⟩=Za (F D 0):=by rw[hZ];simp[go_sem]
    have z1:Z.cell? ⟨w4.heap.size,1,L⟩=Za (B L 0 0):=by rw[hZ];simp[go_sem]
    have fb:Z.frozen? ⟨w4.heap.size,0,L⟩=Zi:=by rw[hZ];simp[go_sem]
    have er:Z.frozen? ⟨w4.heap.size,1,L⟩=Zi:=by rw[hZ];simp[go_sem]
    have dt:u.In Z:=by rw[hZ];exact da.below g9
    have db:u.Bl (·≠w4.heap.size):=da.bl.mono fun b hb=>by omega
    have ce:Zh wc.heap.size wc Z:=by rw[hZ];exact dm
    have cn:u.Bl (wc.heap.size<=·):=ci.mono fun b hb=>hb;have au:wc.heap.size<=w4.heap.size:=aq.size;have lJ:w4.heap.size<Z.heap.size:=I _ _ z0;rw[<-hZ];rw[<-hZ] at hHeld;clear hZ dm g9 da ci ca;generalize w4.heap.size=JB at *;have dw:Zd _:=cm.out ((Z.setCell ⟨JB,0,L⟩ (F D u.k)).setCell ⟨JB,1,L⟩ (B u.a u.l.length u.c)) u ((ce.setCell au _).setCell au _) hu (X4 (io:=0) dt db) cn;have cq:=XJ (io:=0) (u:=F D u.k) (v:=u.s) z0 z1;have dv:bL wc ((Z.setCell ⟨JB,0,L⟩ (F D u.k)).setCell ⟨JB,1,L⟩ (u.s)):=(ce.setCell au _).setCell au _;have dl:Zd _:=HS.out _ dv;clear dv;simp only[Zf] at cq;refine Jl (i:=8) rfl (by kernel_rfl) (fun K hK=>?_);go_simp;refine hK.out _ _ dl.out (fun hHeld=>?_);clear hK K;refine ZA (by kernel_rfl) ?_ _;obtain⟨X,hX⟩:∃X,X=((Z.setCell ⟨JB,0,L⟩ (F D u.k)).setCell ⟨JB,1,L⟩ (B u.a u.l.length u.c)):=⟨_,rfl⟩
    rw[<-hX] at dw cq;rw[<-hX];obtain⟨k0,k1⟩:=cq;have lX:JB<X.heap.size:=I _ _ k0;clear hX dl hHeld z0 z1 fb er dt db ce cn au lJ hu;go_wp2_with fail;go_meet
    case rel=>exact⟨Za ⟨b1,o1,L⟩,ch,Za ⟨X.heap.size,0,L⟩,3,[Ys 2,u,u],rfl,rfl,dw.out⟩
   .go_simp;refine hK.out _ _ (HS.out _ be) (fun hHeld=>?_);clear hK K;refine Jl (i:=6) rfl (by kernel_rfl) (fun K hK=>?_);go_simp;go_at_call 92;refine(HJ.out _ be).mono ?_;rintro e Z ⟨u,rfl,hu,dt,ci,ca⟩;have ce:=be.trans (ca.mono be.size);refine hK.out _ _ (HS.out _ ce) (fun hHeld=>?_);clear hK K;have z0:Z.cell? ⟨wc.heap.size,0,L⟩=Za (F D 0):=Zl ca (by simp[go_sem]);have z1:Z.cell? ⟨wc.heap.size,1,L⟩=Za (B L 0 0):=Zl ca (by simp[go_sem]);have fb:Z.frozen? ⟨wc.heap.size,0,L⟩=Zi:=(ca.frozen (p:=⟨wc.heap.size,0,L⟩) (by simp)).trans (by simp[go_sem]);have er:Z.frozen? ⟨wc.heap.size,1,L⟩=Zi:=(ca.frozen (p:=⟨wc.heap.size,1,L⟩) (by simp)).trans (by simp[go_sem]);have db:u.Bl (·≠wc.heap.size):=ci.mono fun b hb=>by simp at hb;omega
    have cn:u.Bl (wc.heap.size<=·):=ci.mono fun b hb=>by simp at hb;omega
    have lJ:wc.heap.size<Z.heap.size:=I _ _ z0;have au:wc.heap.size<=wc.heap.size:=Zb _;obtain⟨JB,hJ⟩:∃J,J=wc.heap.size:=⟨_,rfl⟩
    rw[<-hJ] at z0 z1 fb er db lJ;have au:wc.heap.size<=JB:=by omega
    rw[show (Za ⟨wc.heap.size,0,L⟩:Option Addr)=Za ⟨JB,0,L⟩ by rw[hJ]];clear hJ ci ca;have dw:Zd _:=cm.out ((Z.setCell ⟨JB,0,L⟩ (F D u.k)).setCell ⟨JB,1,L⟩ (u.s)) u ((ce.setCell au _).setCell au _) hu (X4 (io:=0) dt db) cn;have cq:=XJ (io:=0) (u:=F D u.k) (v:=u.s) z0 z1;have dv:bL wc ((Z.setCell ⟨JB,0,L⟩ (F D u.k)).setCell ⟨JB,1,L⟩ (u.s)):=(ce.setCell au _).setCell au _;have dl:Zd _:=HS.out _ dv;clear dv;simp only[Zf] at cq;refine Jl (i:=8) rfl (by kernel_rfl) (fun K hK=>?_);go_simp;refine hK.out _ _ dl.out (fun hHeld=>?_);clear hK K;refine ZA (by kernel_rfl) ?_ _;obtain⟨X,hX⟩:∃X,X=((Z.setCell ⟨JB,0,L⟩ (F D u.k)).setCell ⟨JB,1,L⟩ (B u.a u.l.length u.c)):=⟨_,rfl⟩
    rw[<-hX] at dw cq;rw[<-hX];obtain⟨k0,k1⟩:=cq;have lX:JB<X.heap.size:=I _ _ k0;clear hX dl hHeld z0 z1 fb er dt db ce cn au lJ hu;go_wp2_with fail;go_meet
    case rel=>exact⟨Za ⟨b1,o1,L⟩,ch,Za ⟨X.heap.size,0,L⟩,3,[Ys 2,u,u],rfl,rfl,dw.out⟩
  ·
   obtain⟨ah,ch,aw,cw,ai,ak,hP⟩:=P3.of HT.out.1 b8.out aa.out.2.2.1
   subst ai ak
   have HN:Zd (ts.map Tr.ty=us/\P3 x w V0 Q1 ah ch ts aw cw ts wc):=by
    refine⟨?_,hP⟩;have hu:=az.out.2.1;rw[hk,<-ao.out] at hu;have:Za (Ty.mk 3 [x.t.ty,(ts.map Tr.ty).getD 0 ⟨0,[]⟩],ts.map Tr.ty)=Za (B6,us):=by simpa[YK] using hu
    cases this
    rfl
   rw[hk] at d0
   clear hk hP HT ao
   go_wp2_with fail
   go_meet
   case rel=>exact⟨ah,ch,aw,cw,ts,rfl,rfl,HN⟩
  ·
   obtain⟨t0,t1,rfl⟩:∃t0 t1,ts=[t0,t1]:=by
    match ts,(show ts.length=2 by rw[HT.out.2.1,HF.out.2.2.2.2.1,hk];rfl) with
    |[t0,t1],_=>exact⟨t0,t1,rfl⟩
   obtain⟨ah,ch,g,cw,ai,ak,hP⟩:=P2.of HT.out.1 b8.out aa.out.2.2.1 (by simp)
   subst ai ak
   obtain⟨b0,o0,bk,c0,c1,_⟩:=hP.wv.part 0 (by simp)
   obtain⟨rfl,rfl⟩:g=b0/\0=o0:=by simpa using bk
   obtain⟨b1,o1,c7,c2,c3,_⟩:=hP.wv.part 1 (by simp)
   obtain⟨rfl,rfl⟩:g=b1/\0=o1:=by simpa using c7
   simp only[Zm,Zp,ZD,ZE,Zf,ZR] at c0 c1 c2 c3
   obtain⟨bh,oh,ea,e0,e1,d1⟩:=hP.hv.part 0 (by simp)
   simp only[Zm,ZD,ZE] at e0 e1 ea d1
   subst ea
   have am:=hP.wf
   have bi:=hP.gl
   have lg:=bi.2.2
   have fu:bh<wc.heap.size:=I _ _ e0
   have ae:Uk t0.ty=Za (B6,us):=by have hr:=az.out.2.1;rw[hk,<-ao.out] at hr;simpa[YK] using hr
   obtain⟨p0,_,_⟩:=YS (by omega) (de.out.2 t0 (by simp))
   by_cases hz:t0.k=0
   .have gf:Zd (us=[⟨3,[⟨0,[]⟩,⟨0,[]⟩]⟩,⟨0,[]⟩]):=by
     unfold Uk at ae;rw[Tr.ln,if_pos hz] at ae;cases ae
     rfl
    have il:Zd (∀W,bL wc W->Zn Zc 93 #[Zk #[F D 0,B L 0 0],Zk #[F D 0,B L 0 0]] W fun e w'=>∃gg,e=Zg (Zk #[F D 3,B (Za ⟨gg,0,L⟩) 2 2])/\Zd ((Tr.mk 3 (Za ⟨gg,0,L⟩) 2 [Ys 0,Ys 0]).In w'/\wc.heap.size<=gg)/\bL wc w'):=fun W h=>by refine(O9 (Ys 0) (Ys 0) W (YC 0 _) (YC 0 _)).mono ?_;rintro e w' ⟨gg,kx,rfl,hi,hb⟩;exact⟨gg,rfl,⟨hi,by have:=h.size;omega⟩,h.trans (hb.mono h.size)⟩
    have j8:Zd (∀W,bL wc W->Zn Zc 56 #[] W fun e w'=>e=Zg (Zk #[F D 0,B L 0 0])/\bL wc w'):=fun W h=>by refine(Ue W).mono ?_;rintro e w' ⟨rfl,rfl⟩;exact⟨rfl,h.alloc h.size _⟩
    have cm:Zd (∀(W:ZB)(gg:Nat),bL wc W->Zd ((Tr.mk 3 (Za ⟨gg,0,L⟩) 2 [Ys 0,Ys 0]).In W/\wc.heap.size<=gg)->Zd ([Tr.mk 3 (Za ⟨gg,0,L⟩) 2 [Ys 0,Ys 0],Ys 0].map Tr.ty=us/\P3 x w V0 Q1 (Za ⟨bh,oh,L⟩) ch [t0,t1] (Za ⟨g,0,L⟩) cw [Tr.mk 3 (Za ⟨gg,0,L⟩) 2 [Ys 0,Ys 0],Ys 0] ((((W.setCell ⟨g,0,L⟩ (F D 3)).setCell ⟨g,1,L⟩ (B (Za ⟨gg,0,L⟩) 2 2)).setCell ⟨g,2,L⟩ (F D 0)).setCell ⟨g,3,L⟩ (B L 0 0)))):=by intro W gg hW hF;refine⟨by rw[gf.out];simp[Tr.lh,XL],?_⟩;have k4:(Tr.mk 3 (Za ⟨gg,0,L⟩) 2 [Ys 0,Ys 0]).Bl (fun b=>Q1 b/\b≠g):=Tr.mg ⟨aa.out.2.2.1 gg (by have:=hF.out.2;omega),by have:=hF.out.2;omega⟩ (YF 0 _) (YF 0 _);have h1:=(hP.below hW).set (j:=0) (o:=0) (o1:=1) (u:=Tr.mk 3 (Za ⟨gg,0,L⟩) 2 [Ys 0,Ys 0]) (by simp) rfl rfl hF.out.1 k4;have h2:=h1.set (j:=1) (o:=2) (o1:=3) (u:=Ys 0) (by simp) rfl rfl (YC 0 _) (YF 0 _);exact h2.fin aa.out.2.2.1
    have jt:Zd (∀W,bL wc W->cL W g 0 (F D t0.k)/\cL W g 1 (t0.s)/\cL W g 2 (F D t1.k)/\cL W g 3 (t1.s)/\W.frozen? ⟨g,0,L⟩=Zi/\W.frozen? ⟨g,1,L⟩=Zi/\W.frozen? ⟨g,2,L⟩=Zi/\W.frozen? ⟨g,3,L⟩=Zi):=fun W h=>⟨Zl h c0,Zl h c1,Zl h c2,Zl h c3,(h.frozen (p:=⟨g,0,L⟩) lg).trans (am 0),(h.frozen (p:=⟨g,1,L⟩) lg).trans (am 1),(h.frozen (p:=⟨g,2,L⟩) lg).trans (am 2),(h.frozen (p:=⟨g,3,L⟩) lg).trans (am 3)⟩
    rw[hz] at e0;rw[hk] at d0;have aq:bL wc wc:=R _ _;clear hk hP HT ao bk c7 bi ae p0 d1 c0 c1 c2 c3 am hz;go_wp2_with (first
     |(go_at_call 56;refine(j8.out _ aq).mono ?_;rintro e wA ⟨rfl,iz⟩;replace aq:=iz)
     |(go_at_call 93;refine(il.out _ aq).mono ?_;rintro e w5 ⟨gg,rfl,hF,g4⟩;obtain⟨c0,c1,c2,c3,f0,f1,f2,f3⟩:=jt.out _ g4;obtain⟨b5,o5,e5,y0,y1,_⟩:=hF.out.1.part 0 (by simp);obtain⟨rfl,rfl⟩:gg=b5/\0=o5:=(by simpa using e5);simp only[Zm,ZD,ZE,Zf,Ys,ZQ] at y0 y1;have ke:g<w5.heap.size:=I _ _ c0;have kt:gg<w5.heap.size:=I _ _ y0;have ir:gg≠g:=(by have:=hF.out.2;omega);have kc:g≠gg:=(fun e=>ir e.symm)))
    have HN:Zd _:=cm.out _ gg g4 hF;clear cm hF g4 aq;go_meet
    case rel=>exact⟨Za ⟨bh,oh,L⟩,ch,Za ⟨g,0,L⟩,cw,[Tr.mk 3 (Za ⟨gg,0,L⟩) 2 [Ys 0,Ys 0],Ys 0],rfl,rfl,HN.out⟩
   .have h3:t0.k=3:=by
     unfold Uk at ae;rw[Tr.ln,if_neg hz] at ae;split at ae
     .assumption
     .cases ae
    obtain⟨u,v,hl⟩:∃u v,t0.l=[u,v]:=by
     rcases p0.cases with⟨_,hk⟩|⟨u,v,hl,_⟩
     .omega
     .exact⟨u,v,hl⟩
    have gf:Zd (us=[t0.ty,u.ty]):=by
     unfold Uk at ae;rw[Tr.ln,if_neg hz,if_pos h3,Tr.qr,hl] at ae;cases ae
     rfl
    obtain⟨g2,o2,eb,y0,y1,fn⟩:=d1.part 0 (by simp[hl]);simp only[hl,Zm,ZD,ZE] at y0 y1 fn;have dr:t0.l.length=2:=by rw[hl];rfl
    have gc:=hP.wb t0 (by simp);have ic:u.Bl (fun b=>Q1 b/\b≠g):=by obtain⟨k,a,c,l⟩:=t0;simp only at hl;exact(Tr.ld.1 gc).2 u (by rw[hl];simp)
    have hh:g2≠g:=by obtain⟨k,a,c,l⟩:=t0;simp only at eb hl;exact((Tr.ld.1 gc).1 (by rw[hl];simp) _ eb).2
    have jq:g≠g2:=fun e=>hh e.symm;have kz:g2<wc.heap.size:=I _ _ y0;have HN:Zd ([t0,u].map Tr.ty=us/\P3 x w V0 Q1 (Za ⟨bh,oh,L⟩) ch [t0,t1] (Za ⟨g,0,L⟩) cw [t0,u] ((wc.setCell ⟨g,2,L⟩ (F D u.k)).setCell ⟨g,3,L⟩ (u.s))):=by refine⟨by rw[gf.out];rfl,?_⟩;have h1:=hP.set (j:=1) (o:=2) (o1:=3) (u:=u) (by simp) rfl rfl fn ic;exact h1.fin aa.out.2.2.1
    have kk:(t0.k==0)=Zi:=by simpa using hz
    have f2:=am 2;have f3:=am 3;rw[eb,dr] at c1;rw[hk] at d0;clear hk hP HT ao bk c7 bi ae p0 d1 am hz h3 hl gc ic fn eb dr;go_wp2_with fail;go_meet
    case rel=>exact⟨Za ⟨bh,oh,L⟩,ch,Za ⟨g,0,L⟩,cw,[t0,u],rfl,rfl,HN⟩
  ·
   obtain⟨t0,rfl⟩:∃t0,ts=[t0]:=by
    match ts,(show ts.length=1 by rw[HT.out.2.1,HF.out.2.2.2.2.1,hk];rfl) with
    |[t0],_=>exact⟨t0,rfl⟩
   obtain⟨ah,ch,g,cw,ai,ak,hP⟩:=P2.of HT.out.1 b8.out aa.out.2.2.1 (by simp)
   subst ai ak
   obtain⟨b0,o0,bk,c0,c1,_⟩:=hP.wv.part 0 (by simp)
   obtain⟨rfl,rfl⟩:g=b0/\0=o0:=by simpa using bk
   simp only[Zm,ZD,ZE,Zf] at c0 c1
   have d2:=hP.bx.box.at7.c2
   have d3:=hP.bx.box.at7.c3
   simp only[Zf] at d2 d3
   have am:=hP.wf
   have bi:=hP.gl
   have lg:=bi.2.2
   have i8:=(HX.out.1.below hP.bx.low).t
   have HN:Zd ([x.t].map Tr.ty=us/\P3 x w V0 Q1 ah ch [t0] (Za ⟨g,0,L⟩) cw [x.t] ((wc.setCell ⟨g,0,L⟩ (F D x.t.k)).setCell ⟨g,1,L⟩ (x.t.s))):=by
    refine⟨?_,?_⟩
    .have hu:=az.out.2.1;rw[hk] at hu;have:Za (x.t.ty,[x.t.ty])=Za (B6,us):=by simpa[YK] using hu
     cases this
     rfl
    .have h1:=hP.set (j:=0) (o:=0) (o1:=1) (u:=x.t) (by simp) rfl rfl i8 ((aa.out.1.t.and HX.out.1.t.bl).mono fun b hb=>⟨hb.1,by omega⟩);exact h1.fin aa.out.2.2.1
   have i9:=am 0
   have gn:=am 1
   rw[hk] at d0
   clear hk hP HT ao bk bi i8
   go_wp2_with fail
   go_meet
   case rel=>exact⟨ah,ch,Za ⟨g,0,L⟩,cw,[x.t],rfl,rfl,HN⟩
 case rest=>
 obtain⟨ah,ch,aw,cw,uu,ai,rfl,HP⟩:=hcut;obtain⟨V3,j6⟩:∃V,V=wc:=⟨_,rfl⟩
 subst j6;subst ai;clear HT ao;have b4:Zd (uu.length=us.length/\us.length=x.l.length/\ts.length=x.l.length):=by
  have hr:=ME 904 (by omega) ja jb (by rw[Zq,bp.out.1];exact HF.out.2.2.2.2.1) (by rw[<-YL];exact HF.out.1) (takes:=tk) (fun u hu=>by
   have al:=dc.out;rw[<-al.1] at hu;obtain⟨z,hz,rfl⟩:=ZC.1 hu;rw[<-YL];exact al.2.2.2.1 z hz) (fun u hu=>by
   rw[<-ff.out] at hu;obtain⟨z,hz,rfl⟩:=ZC.1 hu;rw[<-YL];exact de.out.2 z hz) az.out.2.1
  refine⟨by rw[<-HP.out.1,Zq],?_,de.out.1⟩;rw[hr.1,Zq,bp.out.1]
 have hB:=HP.out.2.bx;obtain⟨q0,q1,q2,q3,q4,q5,q6⟩:=hB.box.at7;simp only[Zf] at q0 q1 q2 q3 q4 q5 q6;have jc:=hB.box.fz 6 (by omega);have ia:=hB.lt;obtain⟨bm,fc⟩:∃T,T=XZ ps us:=⟨_,rfl⟩
 have bo:Zd (bm=XZ ps us/\bm.length=x.l.length/\∀j(h:j<bm.length)(h1:j<ps.length)(h2:j<us.length),bm[j]=Jw (ps[j].1:Int) ps[j].2.1 ps[j].2.2 us[j]):=by subst fc;have e:=b4.out.2.1;refine⟨rfl,by rw[NT _ _ (by rw[bp.out.1,e]),bp.out.1],fun j h h1 h2=>Ve ps us j h1 h2 h⟩
 clear fc;obtain⟨V4,gh⟩:∃V,V=V3.setCell ⟨w.heap.size,6,L⟩ (B L 0 0):=⟨_,rfl⟩
 have gt:Zd (CW Q1 w.heap.size x V3 bm 0 (B L 0 0) [] V4):=by rw[gh];refine⟨LX.nil _ _ _,by simp,⟨L,0,rfl,?_⟩,Yj⟩;exact hB.box.pz (a':=L) (c':=0) (l':=[])
 have ef:=Uy (HX.out.1.below hB.low) (dc.out.2.1.below HP.out.2.low);have ky:(c:Int)<=900:=by have:=HF.out.2.2.2.2.2.1;omega
 clear hB;apply_assumption;go_wp2_with fail;rw[<-gh];clear gh q0 q1 q2 q3 q4 q5 q6 jc;go_loopg [17,110] x.l.length (fun g s17 i wr=>∃(v:Value)(j:Nat)(cs:List TT)(m:Nat),j<=x.l.length/\g=x.l.length-j/\i=F D (j:Int)/\s17=F D (m:Int)/\Zd (CW Q1 w.heap.size x V3 bm j v cs wr/\m=c+1+((x.l.take j).map TT.sz).sum))
 case atStart=>exact⟨_,0,[],c+1,Nat.zero_le _,rfl,rfl,by go_num,gt,by simp⟩
 case round=>
  obtain⟨v,j,cs,m,hj,hg,rfl,rfl,HC⟩:=hrel;have HG:=Yy hg;clear hg gt;by_cases hlt:j<x.l.length
  .obtain⟨b,o,ea,⟨x0,x1,x2,x3,x4,x5,x6⟩,hxj⟩:=ef.out.1.part j hlt;obtain⟨b',o',gj,gu,ek⟩:=HX.out.1.part j hlt;rw[ea] at gj;obtain⟨rfl,rfl⟩:b=b'/\o=o':=by simpa using gj
   have ka:=gu.lt;have aj:=HC.out.1.kp;have hsz:=aj.size;have bq:b≠w.heap.size:=by omega
   replace x0:=aj.cell x0 bq;replace x1:=aj.cell x1 bq;replace x2:=aj.cell x2 bq;replace x3:=aj.cell x3 bq;replace x4:=aj.cell x4 bq;replace x5:=aj.cell x5 bq;replace x6:=aj.cell x6 bq;obtain⟨y,hy⟩:∃y,y=x.l[j]:=⟨_,rfl⟩
   rw[<-hy] at x0 x1 x2 x3 x4 x5 x6 hxj ek;have b6:y∈x.l:=by rw[hy];exact Zv hlt
   have HY:=Uy hy b6;have i1:(j:Int)<(x.l.length:Int):=by omega
   have i2:(0:Int)<=(j:Int):=by omega
   have lb:b<wr.heap.size:=I _ _ x0;have cf:=HC.out.1.row.lt;have cj:j<ps.length:=by have:=bp.out.1;omega
   have ga:j<us.length:=by have:=b4.out;omega
   have gm:=hxj.lc aj (ek.bl.mono fun b hb=>by omega);have ip:=ef.out.2.lc aj (dc.out.2.2.1.mono fun b hb=>(aa.out.2.2.2 b hb).2.2);have ax:bL wr (wr.alloc (M y.v 27)):=(R _ _).alloc (Zb _) _;have d5:m+y.sz<=c+x.sz/\m=ps[j].1:=by
    have h1:=HC.out.2;have h2:=x.mr;have h3:((x.l.take (j+1)).map TT.sz).sum=((x.l.take j).map TT.sz).sum+y.sz:=by rw[Zw hlt,List.map_append,List.sum_append,hy];simp
    have h4:=L6 TT.sz x.l (j+1);exact⟨by omega,by rw[(bp.out.2 j hlt cj).1];omega⟩
   have HI:Zd (Zn Zc 58 #[Zk y.v,N.s,F D (m:Int)] (wr.alloc (M y.v 27)) (Ot (fun b=>Q1 b/\Za b≠v.ownBlock) ps[j].2.1 (wr.alloc (M y.v 27)))):=by
    have al:=dc.out;have ju:=eu.out y b6;refine ih.out y b6 _ N m _ (gm.below ax) (ip.below ax) (by rw[al.2.2.2.2];exact HF.out.2.2.2.1 y b6) al.2.2.2.1 ?_ ?_ ?_ ?_ ?_ ps[j].2.1 ps[j].2.2 ?_
    .have:=HF.out.2.2.1;rw[al.2.2.2.2];split<;>omega
    .have:=HF.out.2.2.2.2.2.1;omega
    .have h1:y.Bl Q1:=aa.out.1.mem b6;exact(h1.and ek.bl).mono fun b hb=>⟨hb.1,fun e=>by have:=(cf b e.symm).1;omega⟩
    .exact(al.2.2.1.and ef.out.2.bl).mono fun b hb=>⟨hb.1,fun e=>by have:=(cf b e.symm).1;omega⟩
    .intro b hb;simp at hb;exact⟨aa.out.2.2.1 b (by omega),fun e=>by have:=(cf b e.symm).2;omega⟩
    .rw[al.1,d5.2,hy];exact(bp.out.2 j hlt cj).2.1
   obtain⟨th,ej⟩:∃t,t=ts[j]'(by have:=b4.out;omega):=⟨_,rfl⟩
   obtain⟨uw,eo⟩:∃t,t=uu[j]'(by have:=b4.out;omega):=⟨_,rfl⟩
   obtain⟨bh,oh,eh,h0,h1,em⟩:=HP.out.2.hv.part j (by show j<ts.length;have:=b4.out;omega);obtain⟨bw,ow,ew,w0,w1,df⟩:=HP.out.2.wv.part j (by show j<uu.length;have:=b4.out;omega);simp only at eh ew h0 h1 w0 w1 em df;rw[<-ej] at h0 h1 em;rw[<-eo] at w0 w1 df;have dn:Q1 bh:=by have:=(Tr.ld.1 HP.out.2.hb).1 (fun e=>by have:=b4.out;rw[e] at this;simp at this;omega) _ eh;exact this
   have ei:Q1 bw:=by have:=(Tr.ld.1 HP.out.2.wb).1 (fun e=>by have:=b4.out;rw[e] at this;simp at this;omega) _ ew;exact this
   have ds:th.Bl Q1:=(Tr.ld.1 HP.out.2.hb).2 th (by rw[ej];exact Zv _);have e8:uw.Bl Q1:=(Tr.ld.1 HP.out.2.wb).2 uw (by rw[eo];exact Zv _);have ar:∀b,Q1 b->b≠w.heap.size:=fun b hb=>(aa.out.2.2.2 b hb).2.2;replace h0:=aj.cell h0 (ar bh dn);replace h1:=aj.cell h1 (ar bh dn);replace w0:=aj.cell w0 (ar bw ei);replace w1:=aj.cell w1 (ar bw ei);have ec:=em.lc aj (ds.mono ar);have dp:=df.lc aj (e8.mono ar);have dq:=em.bl;have dh:=df.bl;have ee:=de.out.2 th (by rw[ej];exact Zv _);obtain⟨pr,ph,hc⟩:=YS (by omega) ee;obtain⟨r,hr⟩:∃r,r=YD YA th.ty uw.ty:=⟨_,rfl⟩
   have et:Zd (bm[j]'(by rw[bo.out.2.1];exact hlt)=if r=Zj then ps[j].2.1 else ⟨10,(m:Int),uw.ty,th.ty,[ps[j].2.1]⟩):=by
    have e1:ps[j].2.2=th.ty:=by have:=congrArg (fun l=>l[j]?) ff.out;simp only[List.getElem?_map,Zx cj,Zx (show j<ts.length by have:=b4.out;omega),Option.map_some,ZW] at this;rw[<-this,ej]
    have e2:us[j]=uw.ty:=by have:=congrArg (fun l=>l[j]?) HP.out.1;simp only[List.getElem?_map,Zx ga,Zx (show j<uu.length by have:=b4.out;omega),Option.map_some,ZW] at this;rw[<-this,eo]
    show _=_
    rw[bo.out.2.2 j (by rw[bo.out.2.1];exact hlt) cj ga,Jw,e1,e2,<-hr,<-d5.2]
   have e9:=Yy ea;have ck:=O8 ec dp (ds.and dq) (e8.and dh);have fu:bh<wr.heap.size:=I _ _ h0;have ho:bw<wr.heap.size:=I _ _ w0;have kj:(j:Int)<(ts.length:Int):=by have:=b4.out;omega
   have l2:(j:Int)<(uu.length:Int):=by have:=b4.out;omega
   have l1:(m:Int)<=900:=by have:=HF.out.2.2.2.2.2.1;omega
   have fg:Zd (∀W,bL wr W->Zn Zc 39 #[Zk th.v,Zk uw.v] W fun e w'=>e=Zg (.bool r)/\bL W w'):=fun W h=>by have:=X9 1000 th uw W (ec.below h) (dp.below h) ph hc;rw[<-hr] at this;exact this
   have jv:y.sz<=900:=by have:=eu.out y b6;have:=HF.out.2.2.1;omega
   have ix:Zd (∀W,y.In W->Zn Zc 60 #[Zk y.v] W fun e w'=>e=Zg (F D (y.sz:Int))/\bL W w'):=fun W h=>OI y W h (by omega);have h7:=Uy hxj ek.bl;have jy:Zd (m+y.sz=c+1+((x.l.take (j+1)).map TT.sz).sum):=by
    have h3:((x.l.take (j+1)).map TT.sz).sum=((x.l.take j).map TT.sz).sum+y.sz:=by rw[Zw hlt,List.map_append,List.sum_append,hy];simp
    have:=HC.out.2;show _=_
    omega
   have e7:Uz (wr.alloc (M y.v 27)) wr.heap.size 0 y:=by constructor<;>simp[go_sem]
   have ki:=Yy d5.1;obtain⟨Y1,gx⟩:∃Y,Y=ps[j].2.1:=⟨_,rfl⟩
   rw[<-gx] at HI et;clear gx;rw[ea];subst eh ew;clear ea hxj ek hy b6 ih gu gm ip d5 ej eo em df dn ei ds e8 ar ec dp dq dh ee pr ph hc hr aj gj cj ga;go_wp2_with fail;refine HI.out.mono ?_;rintro e w2 ⟨z,rfl,h8,dd,d9,ay⟩;have bg:=ax.trans (ay.mono ax.size);replace e7:=e7.below ay;have hs:=e7.lt;obtain⟨W2,es⟩:∃W,W=w2.alloc (M z.v 27):=⟨_,rfl⟩
   have ex:bL w2 W2:=by rw[es];exact(R _ _).alloc (Zb _) _
   have di:=bg.trans (ex.mono bg.size);have ed:XC W2 w2.heap.size z:=by rw[es];refine⟨⟨?_,?_,?_,?_,?_,?_,?_⟩,fun i hi=>?_⟩<;>simp[go_sem]
   obtain⟨JB,au⟩:∃J,J=w2.heap.size:=⟨_,rfl⟩
   rw[<-au] at ed;have HZ:Zd (z.tm=Y1/\z.In W2/\z.Bl (fun b=>Q1 b/\Za b≠v.ownBlock/\b≠JB)):=⟨h8,dd.below ex,(d9.and dd.bl).mono fun b hb=>⟨hb.1.1,hb.1.2,by omega⟩⟩
   have l0:wr.heap.size<JB:=by omega
   have ie:=Yy (e7.below ex);have d6:Zd (∀W,bL wr W->(fun W=>cL W bh (oh+j*2) (F D th.k)/\cL W bh (oh+j*2+1) (th.s)/\cL W bw (ow+j*2) (F D uw.k)/\cL W bw (ow+j*2+1) (uw.s)) W):=fun W h=>⟨Zl h h0,Zl h h1,Zl h w0,Zl h w1⟩
   have aq:=di.drew;have gi:=Uy ed di;have dx:bL W2 W2.drew:=(R _ _).drew;clear HI h8 dd d9 ay bg ex di ed e7 hs x0 x1 x2 x3 x4 x5 x6 lb;go_upto_region 32 with fail;rw[<-es,<-au];clear es au;go_region_held3 (fun W=>cL W bh (oh+j*2) (F D th.k)/\cL W bh (oh+j*2+1) (th.s)/\cL W bw (ow+j*2) (F D uw.k)/\cL W bw (ow+j*2+1) (uw.s))
    (first|exact d6.out _ aq|fail)
    (first
     |(go_at_call 39;refine(fg.out _ aq).mono ?_;rintro e w3 ⟨rfl,h3⟩;replace aq:=aq.trans (h3.mono aq.size);replace dx:=dx.trans (h3.mono dx.size);clear fg)
     |fail)
   have bt:=Uy aq dx;clear aq dx h3;go_upto_if 128 with fail;go_cut [] (fun wx=>Zd (∃q:TT,XC wx JB q/\q.tm=(bm[j]'(by rw[bo.out.2.1];exact hlt))/\q.In wx/\q.Bl (fun b=>Q1 b/\Za b≠v.ownBlock/\b≠JB)/\bL wr wx/\Uz wx wr.heap.size 0 y))
   case first=>
    cases r with
    |true=>
     have HN:Zd (∃q:TT,XC w3 JB q/\q.tm=(bm[j]'(by rw[bo.out.2.1];exact hlt))/\q.In w3/\q.Bl (fun b=>Q1 b/\Za b≠v.ownBlock/\b≠JB)/\bL wr w3/\Uz w3 wr.heap.size 0 y):=by refine⟨z,gi.out.1.below bt.out.2,?_,HZ.out.2.1.below bt.out.2,HZ.out.2.2,bt.out.1,ie.out.below bt.out.2⟩;rw[et.out,HZ.out.1];rfl
     go_wp2_with fail;go_meet
     case rel=>exact HN
    |false=>
     have bs:bL w3 w3.drew:=(R _ _).drew;have it:=bt.out.1.size;have bx:=(gi.out.1.below bt.out.2).below bs;have bv:=bt.out.1.drew;obtain⟨UD,ct⟩:∃U,U=w3.drew:=⟨_,rfl⟩
     have jj:UD.heap.size=w3.heap.size:=by rw[ct];rfl
     rw[<-ct] at bx bv;have d7:∀t:Tr,t.In wr->t.Bl (fun b=>Q1 b/\b<V3.heap.size)->t.In UD/\t.Bl (fun b=>(Q1 b/\Za b≠v.ownBlock)/\b≠JB):=fun t h1 h2=>⟨h1.below bv,h2.mono fun b hb=>⟨⟨hb.1,fun e=>by have:=(cf b e.symm).1;omega⟩,by omega⟩⟩
     obtain⟨u1,u2⟩:=d7 uw ck.out.2.1 ck.out.2.2.2;obtain⟨t1,t2⟩:=d7 th ck.out.1 ck.out.2.2.1;have gl:z.In UD:=by rw[ct];exact(HZ.out.2.1.below bt.out.2).below bs
     obtain⟨m1,m2,m3,m4⟩:=D1 (Q:=fun b=>Q1 b/\Za b≠v.ownBlock) (m:=(m:Int)) bx gl (HZ.out.2.2.mono fun b hb=>⟨⟨hb.1,hb.2.1⟩,hb.2.2⟩) u1 t1 u2 t2 ⟨aa.out.2.2.1 _ (by omega),fun e=>by have:=(cf _ e.symm).2;omega⟩;have HN:Zd (∃q:TT,XC (Xd (UD.alloc (M z.v 27)) JB ⟨10,(m:Int),uw,th,Za ⟨UD.heap.size,0,L⟩,1,[z]⟩) JB q/\q.tm=(bm[j]'(by rw[bo.out.2.1];exact hlt))/\q.In (Xd (UD.alloc (M z.v 27)) JB ⟨10,(m:Int),uw,th,Za ⟨UD.heap.size,0,L⟩,1,[z]⟩)/\q.Bl (fun b=>Q1 b/\Za b≠v.ownBlock/\b≠JB)/\bL wr (Xd (UD.alloc (M z.v 27)) JB ⟨10,(m:Int),uw,th,Za ⟨UD.heap.size,0,L⟩,1,[z]⟩)/\Uz (Xd (UD.alloc (M z.v 27)) JB ⟨10,(m:Int),uw,th,Za ⟨UD.heap.size,0,L⟩,1,[z]⟩) wr.heap.size 0 y):=by
      have jz:Uz UD wr.heap.size 0 y:=by rw[ct];exact(ie.out.below bt.out.2).below bs
      refine⟨_,m1,?_,m2,m3.mono fun b hb=>⟨hb.1.1,hb.1.2,hb.2⟩,bv.trans (m4 _ (by omega) (by omega)),(jz.below ((R _ _).alloc (Zb _) _)).lc YI (by omega)⟩;rw[et.out,if_neg (by simp),TT.ma,ZL,List.map_nil,HZ.out.1]
     have be:bL UD (UD.alloc (M z.v 27)):=(R _ _).alloc (Zb _) _;obtain⟨⟨z0,z1,z2,z3,z4,z5,z6⟩,zf⟩:=bx;simp only[Zf] at z0 z1 z2 z3 z4 z5 z6;have bx:XC UD JB z:=⟨⟨z0,by simpa using z1,by simpa using z2,by simpa using z3,by simpa using z4,by simpa using z5,by simpa using z6⟩,zf⟩
     have lJ:JB<UD.heap.size:=I _ _ z0;obtain⟨k0,k1,k2,k3⟩:=d6.out _ bv;have kd:bh<UD.heap.size:=I _ _ k0;have kg:bw<UD.heap.size:=I _ _ k2;have gy:=O8 k0 k1 k2 k3;obtain⟨⟨a0,a1,a2,a3,a4,a5,a6⟩,af⟩:=bx.below be;simp only[Zf] at a0 a1 a2 a3 a4 a5 a6;have jr:=af 0 (by omega);have k7:=af 1 (by omega);have k6:=af 2 (by omega);have jm:=af 3 (by omega);have iu:=af 4 (by omega);have j4:=af 5 (by omega);have jn:=af 6 (by omega);obtain⟨fv,fq,fm,g6⟩:=d6.out (UD.alloc (M z.v 27)) (bv.trans (be.mono (by omega)));have fd:bh≠JB:=by omega
     have fi:bw≠JB:=by omega
     have fo:Zd ((fun W=>cL W bh (oh+j*2) (F D th.k)/\cL W bh (oh+j*2+1) (th.s)/\cL W bw (ow+j*2) (F D uw.k)/\cL W bw (ow+j*2+1) (uw.s)) (Xd (UD.alloc (M z.v 27)) JB ⟨10,(m:Int),uw,th,Za ⟨UD.heap.size,0,L⟩,1,[z]⟩)):=⟨YI.cell fv fd,YI.cell fq fd,YI.cell fm fi,YI.cell g6 fi⟩
     have f7:=O8 fv fq fm g6;unfold Xd at HN fo;clear be zf af bs m1 m2 m3 m4 gl u1 u2 t1 t2 d7 bv bx h0 h1 w0 w1 fu ho it jj;go_upto_region 33 with fail;refine Zu (S:=fun W=>cL W bh (oh+j*2) (F D th.k)/\cL W bh (oh+j*2+1) (th.s)/\cL W bw (ow+j*2) (F D uw.k)/\cL W bw (ow+j*2+1) (uw.s)) (by kernel_rfl) ?_ ?_
     .rw[<-ct];exact gy.out
     rw[<-ct];clear ct;intro hHeld;refine qk 0 (v:=?_) rfl (by kernel_rfl) (fun _ _ _ h=>h) (by rfl) hHeld ?_ ?_;rotate_left;(focus (intro w' h;go_split_ands;go_simp;try with_reducible rfl));simp only[Ze,A,G,H];refine qk 1 (v:=?_) rfl (by kernel_rfl) (fun _ _ _ h=>h) (by rfl) hHeld ?_ ?_;rotate_left;(focus (intro w' h;go_split_ands;go_simp;try with_reducible rfl));simp only[Ze,A,G,H];refine qk 2 (v:=?_) rfl (by kernel_rfl) (fun _ _ _ h=>h) (by rfl) hHeld ?_ ?_;rotate_left;(focus (intro w' h;go_split_ands;go_simp;try with_reducible rfl));simp only[Ze,A,G,H];refine qk 3 (v:=?_) rfl (by kernel_rfl) (fun _ _ _ h=>h) (by rfl) hHeld ?_ ?_;rotate_left;(focus (intro w' h;go_split_ands;go_simp;try with_reducible rfl));simp only[Ze,A,G,H];refine qk 4 (v:=?_) rfl (by kernel_rfl) (fun _ _ _ h=>h) (by rfl) hHeld ?_ ?_;rotate_left;(focus (intro w' h;go_split_ands;go_simp;try with_reducible rfl));simp only[Ze,A,G,H];refine qk 5 (v:=?_) rfl (by kernel_rfl) (fun _ _ _ h=>h) (by rfl) hHeld ?_ ?_;rotate_left;(focus (intro w' h;go_split_ands;go_simp;try with_reducible rfl));simp only[Ze,A,G,H];refine qk 6 (v:=?_) rfl (by kernel_rfl) (fun _ _ _ h=>h) (by rfl) hHeld ?_ ?_;rotate_left;(focus (intro w' h;go_split_ands;go_simp;try with_reducible rfl));simp only[Ze,A,G,H];refine qk 7 (v:=?_) rfl (by kernel_rfl) (fun _ _ _ h=>h) (by rfl) hHeld ?_ ?_;rotate_left;(focus (intro w' h;go_split_ands;go_simp;try with_reducible rfl));simp only[Ze,A,G,H];refine qk 8 (v:=?_) rfl (by kernel_rfl) (fun _ _ _ h=>h) (by rfl) hHeld ?_ ?_;rotate_left;(focus (intro w' h;go_split_ands;go_simp;try with_reducible rfl));simp only[Ze,A,G,H];clear k0 k1 k2 k3 fv fq fm g6;refine Jl (i:=9) rfl (by kernel_rfl) (fun K hK=>?_);go_simp;refine hK.out _ _ hHeld (fun hHeld=>?_);clear hK K;clear gy;refine Jl (i:=10) rfl (by kernel_rfl) (fun K hK=>?_);go_simp;refine hK.out _ _ f7.out (fun hHeld=>?_);clear hK K;obtain⟨UA,eq⟩:∃U,U=UD.alloc (M z.v 27):=⟨_,rfl⟩
     rw[<-eq] at a0 a1 a2 a3 a4 a5 a6 jr k7 k6 jm iu j4 jn HN fo;rw[<-eq] at f7 hHeld;rw[<-eq];clear eq z0 z1 z2 z3 z4 z5 z6;have kv:JB<UA.heap.size:=I _ _ a0;refine Jl (i:=11) rfl (by kernel_rfl) (fun K hK=>?_);go_simp;refine hK.out _ _ f7.out (fun hHeld=>?_);clear hK K f7;refine Jl (i:=12) rfl (by kernel_rfl) (fun K hK=>?_);go_simp;refine hK.out _ _ fo.out (fun hHeld=>?_);clear hK K;refine ZA (by kernel_rfl) ?_ _;go_wp2_with fail;go_meet
     case rel=>exact HN
   case rest=>
   obtain⟨q,ii,i3,ik,i5,fp,g0⟩:=hcut.out;clear hcut d6 bt gi HZ et ck h0 h1 w0 w1 fu ho;obtain⟨i7,iy,jx,jg,jo⟩:=info_parts Tryz.info27c;obtain⟨av,cv,hv,bj⟩:=HC.out.1.box;have jl:w.heap.size<V3.heap.size:=by omega
   have du:=HC.out.1.below fp;obtain⟨a0,a1,a2,a3,a4,a5,a6⟩:=ii.at7;simp only[Zf] at a0 a1 a2 a3 a4 a5 a6;have lJ:JB<wc.heap.size:=I _ _ a0;have c6:cL wc w.heap.size 6 v:=by obtain⟨av,cv,hv,bj⟩:=du.box;have:=bj.at7.c6;simp only[Zf] at this;rw[hv];exact this
   have he:wc.frozen? ⟨w.heap.size,6,L⟩=Zi:=by obtain⟨av,cv,hv,bj⟩:=du.box;exact bj.fz 6 (by omega)
   have ji:w.heap.size<wc.heap.size:=I _ _ c6;have k8:cs.length=j:=by have:=congrArg List.length HC.out.1.tm;have e:=bo.out.2.1;simp only[Zq,List.length_take] at this;omega
   have k9:cs.length<=3:=by omega
   clear k8;have i6:(wc.alloc (M q.v 27)).ownsRow V3.heap.size 27 7 v cs.length (YW cs):=YX du.row.own ((R _ _).alloc (Zb _) _);have fj:=ZJ wc (M q.v 27);have kw:=fp.size;have gk:Za w.heap.size≠v.ownBlock:=fun e=>by have:=(cf _ e.symm).1;omega
   have im:Zd (∀(gg cap1:Nat)(w5:ZB),w5.ownsRow V3.heap.size 27 7 (B (Za ⟨gg,0,L⟩) (cs.length+1) cap1) (cs.length+1) (YW cs++[F D q.k,F D q.n,F D q.t.k,B q.t.a q.t.l.length q.t.c,F D q.f.k,B q.f.a q.f.l.length q.f.c,B q.a q.l.length q.c])->(wc.alloc (M #[F D q.k,F D q.n,F D q.t.k,B q.t.a q.t.l.length q.t.c,F D q.f.k,B q.f.a q.f.l.length q.f.c,B q.a q.l.length q.c] 27)).grownBy w5 v.ownBlock->(v.ownBlock=Za gg\/gg=wc.heap.size+1)->CW Q1 w.heap.size x V3 bm (j+1) (B (Za ⟨gg,0,L⟩) (cs.length+1) cap1) (cs++[q]) (w5.setCell ⟨w.heap.size,6,L⟩ (B (Za ⟨gg,0,L⟩) (cs.length+1) cap1))):=fun gg cap1 w5 b1 b2 b3=>du.step jl (fun b hb=>(aa.out.2.2.2 b hb).2.2) (by rw[bo.out.2.1];exact hlt) (R _ _) i3 ik (i5.mono fun b hb=>⟨hb.1,hb.2.1⟩) (by simpa[YW] using b1) b2 b3
   have kp:JB≠wc.heap.size:=by omega
   have lY:=g0.lt;have j0:Za wr.heap.size≠v.ownBlock:=fun e=>by have:=(cf _ e.symm).2;omega
   have gv:Zd (Uz wc wr.heap.size 0 y):=g0;clear ii i3 ik i5 fp g0 du bj hv HC cf ia;go_upto_region 35 with(at_builtin;refine wpList_append_lies _ rfl _ _ _ rfl V3.heap.size 27 i7 _ 7 104 underlying25 iy jx jg jo rfl (by omega) v cs.length (YW cs) rfl i6 ⟨wc.heap.size,0,L⟩ 1 1 [F D q.k,F D q.n,F D q.t.k,B q.t.a q.t.l.length q.t.c,F D q.f.k,B q.f.a q.f.l.length q.f.c,B q.a q.l.length q.c] rfl rfl (Zr (cs:=#[F D q.k,F D q.n,F D q.t.k,B q.t.a q.t.l.length q.t.c,F D q.f.k,B q.f.a q.f.l.length q.f.c,B q.a q.l.length q.c]) (t:=27) (fr:=(0,0)) fj) (by simp[Zy]) (by omega) (by unfold ZM;omega) (by omega) (by simp;omega) (wc.heap.size+1) (by simp) ?_;intro gg cap1 w5 ac ad el hd;have jd:w5.cell? ⟨w.heap.size,6,L⟩=Za v:=(by rw[ad.cell_far _ (by simp;omega) gk];exact Zl ((R _ _).alloc (Zb _) _) c6);have j9:w5.frozen? ⟨w.heap.size,6,L⟩=Zi:=(by rw[ad.frozen_far _ (by simp;omega) gk];exact(((R _ _).alloc (Zb _) _).frozen (p:=⟨w.heap.size,6,L⟩) ji).trans he))
   obtain⟨X5,f8⟩:∃X,X=w5.setCell ⟨w.heap.size,6,L⟩ (B (Za ⟨gg,0,L⟩) (cs.length+1) cap1):=⟨_,rfl⟩
   have g5:Zd (CW Q1 w.heap.size x V3 bm (j+1) (B (Za ⟨gg,0,L⟩) (cs.length+1) cap1) (cs++[q]) X5):=by rw[f8];exact im.out gg cap1 w5 ac ad el
   have iw:Uz X5 wr.heap.size 0 y:=by have h1:Uz w5 wr.heap.size 0 y:=(gv.out.below ((R _ _).alloc (Zb _) (M #[F D q.k,F D q.n,F D q.t.k,B q.t.a q.t.l.length q.t.c,F D q.f.k,B q.f.a q.f.l.length q.f.c,B q.a q.l.length q.c] 27))).of fun i=>Zs (a:=⟨wr.heap.size,i,L⟩) (ad.block _ (by simp;omega) j0);rw[f8];exact h1.lc Yj (by omega)
   have gq:=h7.out.1.lc g5.out.kp (h7.out.2.mono fun b hb=>by omega);rw[<-f8];clear f8 ac ad el hd jd j9 im gv i6 fj c6 he a0 a1 a2 a3 a4 a5 a6;obtain⟨x0,x1,x2,x3,x4,x5,x6⟩:=iw;simp only[Zf] at x0 x1 x2 x3 x4 x5 x6;have lX:wr.heap.size<X5.heap.size:=I _ _ x0;have kq:(y.sz:Int)<=900:=by omega
   go_wp2_with (go_at_call 60;refine(ix.out _ gq).mono ?_;rintro e w6 ⟨rfl,i4⟩)
   have HN:=Uy (g5.out.below i4) jy.out;clear g5 i4 gq x0 x1 x2 x3 x4 x5 x6;rw[<-e9.out];go_roundg (x.l.length-(j+1))
   case measure=>rw[HG.out];omega
   case rel=>exact⟨_,j+1,cs++[q],m+y.sz,by omega,rfl,by go_num,by go_num,HN⟩
  .have hjl:j=x.l.length:=by omega
   have aj:=HC.out.1.kp;have ar:∀b,Q1 b->b≠w.heap.size:=fun b hb=>(aa.out.2.2.2 b hb).2.2;obtain⟨a,cc,hv,bj⟩:=HC.out.1.box;obtain⟨a',jw,g3,dd,d9⟩:=HC.out.1.row.tree (k:=x.k) (n:=x.n) (t:=x.t) (f:=x.f) (fun b hb=>aa.out.2.2.1 b (by omega)) (ef.out.1.t.lc aj (aa.out.1.t.mono ar)) (ef.out.1.f.lc aj (aa.out.1.f.mono ar)) aa.out.1.t aa.out.1.f;rw[hv] at g3;obtain⟨rfl,rfl⟩:a=a'/\cc=jw:=by cases g3;exact⟨rfl,rfl⟩
   have ib:(TT.mk x.k x.n x.t x.f a cc cs).tm=y0:=by rw[az.out.2.2,TT.ma];have h1:=HC.out.1.tm;rw[hjl,<-bo.out.2.1,List.take_length] at h1;rw[h1,<-bo.out.1,P5 HF.out.2.2.2.2.2.2];try rfl
   have fy:=HP.out.2.bx.z.kept aj (by omega);have bu:=HP.out.2.bx.low.trans (aj.below (by simp) (by omega));have HN:Zd (Ot Q y0 w (Zg (Zk #[F D x.k,F D x.n,F D x.t.k,x.t.s,F D x.f.k,x.f.s,B a cs.length cc])) (Xd wr (w.heap.size+1) (TT.mk x.k x.n x.t x.f a cc cs))):=by have hk:=YI (w:=wr) (J:=w.heap.size+1) (x:=(TT.mk x.k x.n x.t x.f a cc cs));refine⟨(TT.mk x.k x.n x.t x.f a cc cs),rfl,ib,dd.lc hk (d9.mono fun b hb=>(aa.out.2.2.2 b hb).2.1),d9.mono fun b hb=>(aa.out.2.2.2 b hb).1,?_⟩;exact bu.trans ((hk.below (by simp) (Nat.le_of_lt fy.lt)).mono (by omega))
   obtain⟨e0,e1,e2,e3,e4,e5,e6⟩:=(JW (x:=(TT.mk x.k x.n x.t x.f a cc cs)) fy.box).at7;simp only[Zf] at e0 e1 e2 e3 e4 e5 e6;obtain⟨q0,q1,q2,q3,q4,q5,q6⟩:=bj.at7;simp only[Zf] at q0 q1 q2 q3 q4 q5 q6;obtain⟨⟨kl,y1,y2,y3,y4,y5,y6⟩,f0,f1,f2,f3,f4,f5,f6⟩:=fy;clear HC bj dd d9 ib g3 hv ih HP bo b4 bu aj ar HG;go_wp2_with fail;refine ZN (v:=Zk #[F D x.k,F D x.n,F D x.t.k,x.t.s,F D x.f.k,x.f.s,B a cs.length cc]) ?_ rfl HN.out;unfold Xd at e0 e1 e2 e3 e4 e5 e6;simp[results,results58,go_sem,e0,e1,e2,e3,e4,e5,e6]
theorem Qu(m:Nat):∀(x:TT),x.sz<=m->∀(Q:Nat->Prop)(E:Tr)(c:Nat)(w:ZB),x.In w->E.In w->J8 x.tm E.l.length->(∀u,u∈E.l->YB 4 u=Zj)->x.sz+E.l.length<=900->c+x.sz<=900->x.Bl Q->E.Bl Q->(∀b,w.heap.size<=b->Q b)->∀(y0:Tm)(B6:Ty),Xt x.tm (E.l.map Tr.ty) c=Za (y0,B6)->
  Zn Zc 58 #[Zk #[F D x.k,F D x.n,F D x.t.k,B x.t.a x.t.l.length x.t.c,F D x.f.k,B x.f.a x.f.l.length x.f.c,B x.a x.l.length x.c],B E.a E.l.length E.c,F D (c:Int)] w (Ot Q y0 w):=by
 induction m with
 |zero=>intro x h;have:=x.mi;omega
 |succ m ih=>
  intro x hm Q E c w r k g d j a o l p y0 B6 i;refine BQ Q x E c w r k g d j a o l p y0 B6 i fun y q=>ih y ?_;have h1:=x.mr;have e:y.tm.sz<=((x.l.map TT.tm).map Tm.sz).sum:=JE _ _ (ZC.2 ⟨_,q,rfl⟩);have e2:(x.l.map TT.tm).map Tm.sz=x.l.map TT.sz:=by rw[ZV];exact ZI fun z _=>z.me.symm
  rw[e2,<-TT.me] at e;omega
def Xi(ar:Int):Tm->Int->Bool
 |⟨k,n,t,f,l⟩,own=>U3 ar own ⟨k,n,t,f,l⟩&&(l.map fun y=>Xi ar y (Xu k own)).all id
theorem N7(a k n:Int)(t f:Ty)(l:List Tm)(own:Int):Xi a ⟨k,n,t,f,l⟩ own=(U3 a own ⟨k,n,t,f,l⟩&&l.all fun y=>Xi a y (Xu k own)):=by rw[Xi,List.all_map];rfl
theorem Vl{f:Tm->Nat->Option Nat}{Q:Tm->Bool}(n:Nat)(hf:∀y q,q<=n->f y q=if Q y=Zj/\y.sz<=q then Za (q-y.sz) else L):∀(l:List Tm)(r:Nat),r<=n->Ul f l r=if l.all Q=Zj/\(l.map Tm.sz).sum<=r then Za (r-(l.map Tm.sz).sum) else L
 |[],r,_=>by simp[Ul]
 |x::l,r,hr=>by
  simp only[Ul,List.all_cons,ZL,List.sum_cons,Bool.and_eq_true];rw[hf x r hr];by_cases h1:Q x=Zj/\x.sz<=r
  .rw[if_pos h1];simp only[Option.bind_some];rw[Vl n hf l (r-x.sz) (by omega)];by_cases h2:l.all Q=Zj/\(l.map Tm.sz).sum<=r-x.sz
   .rw[if_pos h2,if_pos ⟨⟨h1.1,h2.1⟩,by omega⟩];congr 1;omega
   .rw[if_neg h2,if_neg (fun h=>h2 ⟨h.1.2,by omega⟩)]
  .rw[if_neg h1,if_neg (fun h=>h1 ⟨h.1.1,by omega⟩)];rfl
theorem TJ(ar:Int):∀(n:Nat)(ins:Int)(x:Tm)(r:Nat),r<=n->XM ar n ins x r=if Xi ar x ins=Zj/\x.sz<=r then Za (r-x.sz) else L
 |0,ins,x,r,hr=>by have:=x.mi;rw[if_neg (by omega)];simp[XM]
 |n+1,ins,x,0,_=>by have:=x.mi;rw[if_neg (by omega)];simp[XM]
 |n+1,ins,⟨k,m,t,f,l⟩,r+1,hr=>by
  simp only[XM];rw[N7,Tm.lm];by_cases h0:U3 ar ins ⟨k,m,t,f,l⟩=Zj
  .rw[if_pos h0,Vl n (fun y q hq=>TJ ar n (Xu k ins) y q hq) l r (by omega),h0];simp only[ZG];by_cases h2:(l.all fun y=>Xi ar y (Xu k ins))=Zj/\(l.map Tm.sz).sum<=r
   .rw[if_pos h2,if_pos ⟨h2.1,by omega⟩];congr 1;omega
   .rw[if_neg h2,if_neg (fun h=>h2 ⟨h.1,by omega⟩)]
  .have h0':U3 ar ins ⟨k,m,t,f,l⟩=Zi:=by simpa using h0
   rw[if_neg h0,if_neg (by rw[h0'];simp)]
theorem TK(ar:Int)(x:Tm):UC ar x=(decide (x.sz<41)&&Xi ar x 0):=by
 unfold UC;rw[TJ ar 40 0 x 40 (Zb _)];by_cases h:Xi ar x 0=Zj/\x.sz<=40
 .rw[if_pos h,h.1];have:decide (x.sz<41)=Zj:=by simp;omega
  rw[this];rfl
 .rw[if_neg h];by_cases h1:x.sz<41
  .have:Xi ar x 0=Zi:=by
    cases hr:Xi ar x 0 with
    |false=>rfl
    |true=>exact absurd ⟨hr,by omega⟩ h
   rw[this];simp
  .have:decide (x.sz<41)=Zi:=by simp;omega
   rw[this];rfl
theorem VQ(x:TT)(g own:Int)(w:ZB)(c:x.k<1\/9<x.k):
  Zn Zc 61 #[Zk #[F D x.k,F D x.n,F D x.t.k,B x.t.a x.t.l.length x.t.c,F D x.f.k,B x.f.a x.f.l.length x.f.c,B x.a x.l.length x.c],F D g,F D own] w fun e w'=>e=Zg (.bool Zi)/\Zh w.heap.size w w':=by
 obtain⟨W1,a⟩:∃W,W=w.alloc (M x.v 27):=⟨_,rfl⟩
 have b:bL w W1:=by rw[a];exact(R _ _).alloc (Zb _) _
 have d:=Yy b.drew;clear b;by_cases h1:x.k<1
 .have e1:decide (x.k<1)=Zj:=by simpa using h1
  clear c h1;go_enter ZK,ZH;go_upto_region 1 with fail;go_region
  rw[<-a];go_wp2_with fail;go_ret;exact⟨rfl,d.out⟩
 .have e1:decide (x.k<1)=Zi:=by simpa using h1
  have h:decide (9<x.k)=Zj:=by simp;omega
  clear c h1;go_enter ZK,ZH;go_upto_region 1 with fail;go_region
  rw[<-a];go_wp2_with fail;go_ret;exact⟨rfl,d.out⟩
theorem SQ(x:TT)(ar own:Int)(w:ZB)(hw:(Lit.int D x.k).wf=Zj)(h1:1<=x.k)(h9:x.k<=9)(hne:x.l.length≠Yu x.k):
  Zn Zc 61 #[Zk #[F D x.k,F D x.n,F D x.t.k,B x.t.a x.t.l.length x.t.c,F D x.f.k,B x.f.a x.f.l.length x.f.c,B x.a x.l.length x.c],F D ar,F D own] w fun e w'=>e=Zg (.bool Zi)/\Zh w.heap.size w w':=by
 obtain⟨W1,a⟩:∃W,W=w.alloc (M x.v 27):=⟨_,rfl⟩
 have d:bL w W1:=by rw[a];exact(R _ _).alloc (Zb _) _
 have e1:decide (x.k<1)=Zi:=by simp;omega
 have e2:decide (9<x.k)=Zi:=by simp;omega
 obtain⟨k,c⟩:∃P:Int,P=(Yu x.k:Int):=⟨_,rfl⟩
 have e3:((x.l.length:Int) != k)=Zj:=by simp;omega
 have HP:Zd (∀W,bL W1 W->Zn Zc 98 #[F D x.k] W fun e w'=>e=Zg (F D k)/\bL W1 w'):=fun W b=>by refine(MH x.k hw W).mono ?_;rintro e w' ⟨rfl,g⟩;rw[c];exact⟨rfl,b.trans (g.mono b.size)⟩
 have o:Uz W1 w.heap.size 0 x:=by constructor<;>(rw[a];simp[go_sem])
 have j:Zd (∀W,bL W1 W->cL W w.heap.size 0 (F D x.k)/\cL W w.heap.size 4 (F D x.f.k)/\cL W w.heap.size 5 (x.f.s)/\cL W w.heap.size 6 (x.s)):=fun W b=>by obtain⟨u,a1,a2,z,q,p,r⟩:=o.below b;simp only[Zf] at u a1 a2 z q p r;exact⟨u,q,p,r⟩
 have a7:Zd (cL W1 w.heap.size 0 (F D x.k)/\cL W1 w.heap.size 4 (F D x.f.k)/\cL W1 w.heap.size 5 (x.f.s)/\cL W1 w.heap.size 6 (x.s)):=j.out _ (R _ _);have y:Zd (cL W1.drew w.heap.size 0 (F D x.k)/\cL W1.drew w.heap.size 4 (F D x.f.k)/\cL W1.drew w.heap.size 5 (x.f.s)/\cL W1.drew w.heap.size 6 (x.s)):=j.out _ ((R _ _).drew);have m:=Yy d;have g:bL W1 W1.drew:=(R _ _).drew;clear d h1 h9 hne hw o c;go_enter ZK,ZH;go_upto_region 1 with fail;rw[<-a];clear a;clear g;go_cut [33] (fun s33 wx=>s33=.bool Zj/\Zd (bL W1 wx))
 case first=>
  refine J5 (C:=fun W=>bL W1 W) (by kernel_rfl) (by kernel_rfl) ((R _ _).drew) ?_;iterate 24 (first
   |go_big_quiet_skip
   |(refine Mc (v:=?_) (by rfl) ?_ ?_;rotate_left;(focus (intro W b;obtain⟨d0,d4,d5,d6⟩:=j.out W b;have lw:w.heap.size<W.heap.size:=I _ _ d0;first|(go_simp;done)|(go_simp;with_reducible rfl)));simp only[Ze,A,G,H])
   |(refine UO (F D k) 98 #[F D x.k] (by rfl) ?_ (fun W b=>HP.out W b) ?_;(focus (intro W _;go_simp;done));simp only[Ze,A,G,H]))
  refine wpQuiet_nil ?_;intro wq l;have h:=Yy l;clear l;go_wp2_with fail;go_meet
  case rel=>exact⟨rfl,h⟩
 case rest=>obtain⟨i,h⟩:=hcut;subst i;have HN:=Yy (m.out.trans (h.out.mono m.out.size));go_wp2_with fail;go_ret;exact⟨rfl,HN.out⟩
theorem VR(x:TT)(ar own:Int)(w:ZB)(hx:x.In w)(hw:(Lit.int D x.k).wf=Zj)(h1:1<=x.k)(h9:x.k<=9)(hpp:x.l.length=Yu x.k)(n:Nat)(hf:x.f.hgt<=n)(hs:x.f.sm)(hne:YD YA x.f.ty ⟨0,[]⟩=Zi):
  Zn Zc 61 #[Zk #[F D x.k,F D x.n,F D x.t.k,B x.t.a x.t.l.length x.t.c,F D x.f.k,B x.f.a x.f.l.length x.f.c,B x.a x.l.length x.c],F D ar,F D own] w fun e w'=>e=Zg (.bool Zi)/\Zh w.heap.size w w':=by
 obtain⟨W1,b⟩:∃W,W=w.alloc (M x.v 27):=⟨_,rfl⟩
 have c:bL w W1:=by rw[b];exact(R _ _).alloc (Zb _) _
 have e1:decide (x.k<1)=Zi:=by simp;omega
 have e2:decide (9<x.k)=Zi:=by simp;omega
 obtain⟨j,d⟩:∃P:Int,P=(Yu x.k:Int):=⟨_,rfl⟩
 have e3:((x.l.length:Int) != j)=Zi:=by simp;omega
 have HP:Zd (∀W,bL W1 W->Zn Zc 98 #[F D x.k] W fun e w'=>e=Zg (F D j)/\bL W1 w'):=fun W a=>by refine(MH x.k hw W).mono ?_;rintro e w' ⟨rfl,g⟩;rw[d];exact⟨rfl,a.trans (g.mono a.size)⟩
 have u:Zd (∀W,bL W1 W->Zn Zc 56 #[] W fun e w'=>e=Zg (Zk #[F D 0,B L 0 0])/\bL W1 w'):=fun W a=>by refine(Ue W).mono ?_;rintro e w' ⟨rfl,rfl⟩;exact⟨rfl,a.alloc a.size _⟩
 have HS:Zd (∀W,bL W1 W->Zn Zc 39 #[Zk x.f.v,Zk #[F D 0,B L 0 0]] W fun e w'=>e=Zg (.bool Zi)/\bL W1 w'):=fun W a=>by have:=X9 n x.f (Ys 0) W ((hx.below (c.trans (a.mono c.size))).f) (YC 0 W) hf hs;rw[XL,hne] at this;refine this.mono ?_;rintro e w' ⟨rfl,g⟩;exact⟨rfl,a.trans (g.mono a.size)⟩
 have m:Uz W1 w.heap.size 0 x:=by constructor<;>(rw[b];simp[go_sem])
 have HK:Zd (∀W,bL W1 W->cL W w.heap.size 0 (F D x.k)/\cL W w.heap.size 4 (F D x.f.k)/\cL W w.heap.size 5 (x.f.s)/\cL W w.heap.size 6 (x.s)):=fun W a=>by obtain⟨r,a1,a2,y,p,o,q⟩:=m.below a;simp only[Zf] at r a1 a2 y p o q;exact⟨r,p,o,q⟩
 have l:=Yy c;clear c h1 h9 hne hw m d hx hf hs hpp;go_enter ZK,ZH;go_upto_region 1 with fail;rw[<-b];clear b;go_cut [33] (fun s33 z=>s33=.bool Zj/\Zd (bL W1 z))
 case first=>
  refine J5 (C:=fun W=>bL W1 W) (by kernel_rfl) (by kernel_rfl) ((R _ _).drew) ?_;iterate 24 (first
   |go_big_quiet_skip
   |(refine Mc (v:=?_) (by rfl) ?_ ?_;rotate_left;(focus (intro W a;obtain⟨d0,d4,d5,d6⟩:=HK.out W a;have lw:w.heap.size<W.heap.size:=I _ _ d0;first|(go_simp;done)|(go_simp;with_reducible rfl)));simp only[Ze,A,G,H])
   |(refine UO (F D j) 98 #[F D x.k] (by rfl) ?_ (fun W a=>HP.out W a) ?_;(focus (intro W _;go_simp;done));simp only[Ze,A,G,H])
   |(refine UO (Zk #[F D 0,B L 0 0]) 56 #[] (by rfl) ?_ (fun W a=>u.out W a) ?_;(focus (intro W _;go_simp;done));simp only[Ze,A,G,H])
   |(refine UO (.bool Zi) 39 #[Zk #[F D x.f.k,B x.f.a x.f.l.length x.f.c],Zk #[F D 0,B L 0 0]] (by rfl) ?_ (fun W a=>HS.out W a) ?_;(focus (intro W _;go_simp;done));simp only[Ze,A,G,H]))
  refine wpQuiet_nil ?_;intro wq k;have h:=Yy k;clear k;go_wp2_with fail;go_meet
  case rel=>exact⟨rfl,h⟩
 case rest=>obtain⟨i,h⟩:=hcut;subst i;have HN:=Yy (l.out.trans (h.out.mono l.out.size));go_wp2_with fail;go_ret;exact⟨rfl,HN.out⟩
theorem VP(x:TT)(ar own:Int)(w:ZB)(hx:x.In w)(hw:(Lit.int D x.k).wf=Zj)(h1:1<=x.k)(h9:x.k<=9)(hpp:x.l.length=Yu x.k)(n:Nat)(hf:x.f.hgt<=n)(hs:x.f.sm)(hne:YD YA x.f.ty ⟨0,[]⟩=Zj)(hn1:n<=1000000000)(hth:x.t.hgt<=n)(hts:x.t.sm)(hn9:x.n<=9223372036854775807)(ho0:0<=own)(ho1:own<=1000000000)(hll:x.l.length<=3)
  (ih:∀j(h:j<x.l.length)(W:ZB),x.l[j].In W->Zn Zc 61 #[Zk #[F D x.l[j].k,F D x.l[j].n,F D x.l[j].t.k,B x.l[j].t.a x.l[j].t.l.length x.l[j].t.c,F D x.l[j].f.k,B x.l[j].f.a x.l[j].f.l.length x.l[j].f.c,B x.l[j].a x.l[j].l.length x.l[j].c],F D ar,F D (Xu x.k own)] W fun e w'=>e=Zg (.bool (Xi ar x.l[j].tm (Xu x.k own)))/\Zh W.heap.size W w') :
  Zn Zc 61 #[Zk #[F D x.k,F D x.n,F D x.t.k,B x.t.a x.t.l.length x.t.c,F D x.f.k,B x.f.a x.f.l.length x.f.c,B x.a x.l.length x.c],F D ar,F D own] w fun e w'=>e=Zg (.bool (Xx ar own x.k x.n&&(if XV x.k=Zj then Ym 4 x.t.ty else XQ x.t.ty)&&x.l.all fun y=>Xi ar y.tm (Xu x.k own)))/\Zh w.heap.size w w':=by
 obtain⟨W1,ab⟩:∃W,W=w.alloc (M #[F D x.k,F D x.n,F D x.t.k,B x.t.a x.t.l.length x.t.c,F D x.f.k,B x.f.a x.f.l.length x.f.c,B x.a x.l.length x.c] 27):=⟨_,rfl⟩
 have l:Zh w.heap.size w W1:=by rw[ab];exact(R _ _).alloc (Zb _) _
 have e1:decide (x.k<1)=Zi:=by simp;omega
 have e2:decide (9<x.k)=Zi:=by simp;omega
 obtain⟨PP,aj⟩:∃P:Int,P=(Yu x.k:Int):=⟨_,rfl⟩
 have e3:((x.l.length:Int) != PP)=Zi:=by simp;omega
 have HP:Zd (∀W,Zh W1.heap.size W1 W->Zn Zc 98 #[F D x.k] W fun e w'=>e=Zg (F D PP)/\Zh W1.heap.size W1 w'):=fun W c=>by refine(MH x.k hw W).mono ?_;rintro e w' ⟨rfl,r⟩;rw[aj];exact⟨rfl,c.trans (r.mono c.size)⟩
 have HA:Zd (∀W,Zh W1.heap.size W1 W->Zn Zc 56 #[] W fun e w'=>e=Zg (Zk #[F D 0,B L 0 0])/\Zh W1.heap.size W1 w'):=fun W c=>by refine(Ue W).mono ?_;rintro e w' ⟨rfl,rfl⟩;exact⟨rfl,c.alloc c.size _⟩
 have HS:Zd (∀W,Zh W1.heap.size W1 W->Zn Zc 39 #[Zk #[F D x.f.k,B x.f.a x.f.l.length x.f.c],Zk #[F D 0,B L 0 0]] W fun e w'=>e=Zg (.bool Zj)/\Zh W1.heap.size W1 w'):=fun W c=>by have:=X9 n x.f (Ys 0) W ((hx.below (l.trans (c.mono l.size))).f) (YC 0 W) hf hs;rw[XL,hne] at this;refine this.mono ?_;rintro e w' ⟨rfl,r⟩;exact⟨rfl,c.trans (r.mono c.size)⟩
 have h7:Uz W1 w.heap.size 0 x:=by constructor<;>(rw[ab];simp[go_sem])
 have HK:Zd (∀W,Zh W1.heap.size W1 W->W.cell? ⟨w.heap.size,0,L⟩=Za (F D x.k)/\W.cell? ⟨w.heap.size,4,L⟩=Za (F D x.f.k)/\W.cell? ⟨w.heap.size,5,L⟩=Za (B x.f.a x.f.l.length x.f.c)/\W.cell? ⟨w.heap.size,6,L⟩=Za (B x.a x.l.length x.c)):=fun W c=>by obtain⟨a0,a1,a2,a3,a4,a5,a6⟩:=h7.below c;simp only[Zf] at a0 a1 a2 a3 a4 a5 a6;exact⟨a0,a4,a5,a6⟩
 have z:Zd (∀W,Zh W1.heap.size W1 W->W.cell? ⟨w.heap.size,0,L⟩=Za (F D x.k)/\W.cell? ⟨w.heap.size,1,L⟩=Za (F D x.n)/\W.cell? ⟨w.heap.size,2,L⟩=Za (F D x.t.k)/\W.cell? ⟨w.heap.size,3,L⟩=Za (B x.t.a x.t.l.length x.t.c)/\W.cell? ⟨w.heap.size,6,L⟩=Za (B x.a x.l.length x.c)):=fun W c=>by obtain⟨a0,a1,a2,a3,a4,a5,a6⟩:=h7.below c;simp only[Zf] at a0 a1 a2 a3 a4 a5 a6;exact⟨a0,a1,a2,a3,a6⟩
 obtain⟨q,hq⟩:∃q,q=Xx ar own x.k x.n:=⟨_,rfl⟩
 rw[<-hq];have ae:Zd (q=Xx ar own x.k x.n):=hq;have aq:Zd (1<=x.k/\x.k<=9):=⟨h1,h9⟩
 have al:Zd (x.n<=9223372036854775807/\0<=own/\own<=1000000000):=⟨hn9,ho0,ho1⟩
 clear hq hn9 ho0 ho1;obtain⟨u,aa⟩:∃u,u=(if XV x.k=Zj then Ym 4 x.t.ty else XQ x.t.ty):=⟨_,rfl⟩
 rw[<-aa];have ax:Zd (x.k=7\/x.k=9->∀W,Zh W1.heap.size W1 W->Zn Zc 99 #[Zk #[F D x.t.k,B x.t.a x.t.l.length x.t.c]] W fun e w'=>e=Zg (.bool u)/\Zh W1.heap.size W1 w'):=fun d W c=>by
  have e:u=YB 4 x.t:=by rw[aa,if_pos (by rcases d with h|h<;>simp[XV,h]),YL]
  rw[e];refine(Wm n hn1 x.t W ((hx.below (l.trans (c.mono l.size))).t) hth hts).mono ?_;rintro e w' ⟨rfl,r⟩;exact⟨rfl,c.trans (r.mono c.size)⟩
 have b3:Zd (¬(x.k=7\/x.k=9)->∀W,Zh W1.heap.size W1 W->Zn Zc 39 #[Zk #[F D x.t.k,B x.t.a x.t.l.length x.t.c],Zk #[F D 0,B L 0 0]] W fun e w'=>e=Zg (.bool u)/\Zh W1.heap.size W1 w'):=fun d W c=>by
  have e:u=YD YA x.t.ty ⟨0,[]⟩:=by rw[aa,if_neg (by simp[XV];omega)];rfl
  have:=X9 n x.t (Ys 0) W ((hx.below (l.trans (c.mono l.size))).t) (YC 0 W) hth hts;rw[XL,<-e] at this;refine this.mono ?_;rintro e w' ⟨rfl,r⟩;exact⟨rfl,c.trans (r.mono c.size)⟩
 have b9:Zd (u=(if XV x.k=Zj then Ym 4 x.t.ty else XQ x.t.ty)):=aa;clear aa hn1 hth hts;obtain⟨m,ad⟩:∃m,m=Xu x.k own:=⟨_,rfl⟩
 have ao:Zd (m=Xu x.k own):=ad;have HX:Zd (∀W,Zh W1.heap.size W1 W->x.In W):=fun W c=>(hx.below l).below c;have au:Zd (∀j(h:j<x.l.length)(W:ZB),Zh W1.heap.size W1 W->Zn Zc 61 #[Zk #[F D x.l[j].k,F D x.l[j].n,F D x.l[j].t.k,B x.l[j].t.a x.l[j].t.l.length x.l[j].t.c,F D x.l[j].f.k,B x.l[j].f.a x.l[j].f.l.length x.l[j].f.c,B x.l[j].a x.l[j].l.length x.l[j].c],F D ar,F D m] W fun e w'=>e=Zg (.bool (Xi ar x.l[j].tm m))/\Zh W1.heap.size W1 w'):=fun j h W c=>by obtain⟨_,_,_,_,ay⟩:=((hx.below l).below c).part j h;rw[ad];refine(ih j h W ay).mono ?_;rintro e w' ⟨rfl,r⟩;exact⟨rfl,c.trans (r.mono c.size)⟩
 rw[<-ad];clear ad ih;have HB:Zd (Zh w.heap.size w W1):=l;clear l h1 h9 hne hw h7 aj hx hf hs hpp;go_enter ZK,ZH;go_upto_region 1 with fail;rw[<-ab];clear ab;go_cut [33] (fun s33 wx=>s33=.bool Zi/\Zd (Zh W1.heap.size W1 wx))
 case first=>
  refine J5 (C:=fun W=>Zh W1.heap.size W1 W) (by kernel_rfl) (by kernel_rfl) ((R _ _).drew) ?_;iterate 24 (first
   |go_big_quiet_skip
   |(refine Mc (v:=?_) (by rfl) ?_ ?_;rotate_left;(focus (intro W c;obtain⟨o,d4,d5,d6⟩:=HK.out W c;have lw:w.heap.size<W.heap.size:=I _ _ o;first|(go_simp;done)|(go_simp;with_reducible rfl)));simp only[Ze,A,G,H])
   |(refine UO (F D PP) 98 #[F D x.k] (by rfl) ?_ (fun W c=>HP.out W c) ?_;(focus (intro W _;go_simp;done));simp only[Ze,A,G,H])
   |(refine UO (Zk #[F D 0,B L 0 0]) 56 #[] (by rfl) ?_ (fun W c=>HA.out W c) ?_;(focus (intro W _;go_simp;done));simp only[Ze,A,G,H])
   |(refine UO (.bool Zj) 39 #[Zk #[F D x.f.k,B x.f.a x.f.l.length x.f.c],Zk #[F D 0,B L 0 0]] (by rfl) ?_ (fun W c=>HS.out W c) ?_;(focus (intro W _;go_simp;done));simp only[Ze,A,G,H]))
  refine wpQuiet_nil ?_;intro wq hq;have HQ:Zd (Zh W1.heap.size W1 wq):=hq;clear hq;go_wp2_with fail;go_meet
  case rel=>exact⟨rfl,HQ⟩
 case rest=>
  obtain⟨av,HQ⟩:=hcut;subst av;obtain⟨o,d1,d2,d3,d6⟩:=z.out wc HQ.out;have lw:w.heap.size<wc.heap.size:=I _ _ o;go_upto_region 3 with fail;go_cut [7] (fun s7 wx=>s7=.bool (x.n==0)/\Zd (Zh W1.heap.size W1 wx))
  case first=>
   go_wp2_with fail;go_meet
   case rel=>exact⟨rfl,HQ⟩
  obtain⟨h7,k⟩:=hcut;subst h7;clear HQ o d1 d2 d3 d6 lw;apply_assumption;refine ZP fun Kx b8=>?_;go_cut [7] (fun s7 wx=>s7=.bool q/\Zd (Zh W1.heap.size W1 wx))
  case first=>
   obtain⟨o,d1,d2,d3,d6⟩:=z.out _ k.out;have lw:=I _ _ o;have b0:x.k=1\/x.k=2\/x.k=3\/4<=x.k:=by have:=aq.out;omega
   rcases b0 with d|d|d|d
   .rw[d] at o;have p:Zd (q=(decide (0<=x.n)&&decide (x.n-own<ar))):=by rw[ae.out,d];simp[Xx,Zd]
    clear d;by_cases a:0<=x.n
    .have ea:decide (0<=x.n)=Zj:=by simpa using a
     have b2:IntKind.i64.wrap (x.n-own)=x.n-own:=by have:=al.out;rw[IntKind.wrap_i64];omega
     by_cases b:x.n-own<ar
     .have eb:decide (x.n-own<ar)=Zj:=by simpa using b
      clear a b;go_wp2_with fail;go_meet
      case rel=>exact⟨by rw[p.out,ea,eb];rfl,k⟩
     .have eb:decide (x.n-own<ar)=Zi:=by simpa using b
      clear a b;go_wp2_with fail;go_meet
      case rel=>exact⟨by rw[p.out,ea,eb];rfl,k⟩
    .have ea:decide (0<=x.n)=Zi:=by simpa using a
     clear a;go_wp2_with fail;go_meet
     case rel=>exact⟨by rw[p.out,ea];rfl,k⟩
   .rw[d] at o;have p:Zd (q=(decide (-1000000<=x.n)&&decide (x.n<=1000000))):=by rw[ae.out,d];simp[Xx,Zd]
    clear d;by_cases a:x.n<=1000000
    .have ea:decide (x.n<=1000000)=Zj:=by simpa using a
     by_cases b:-1000000<=x.n
     .have eb:decide (-1000000<=x.n)=Zj:=by simpa using b
      clear a b;go_wp2_with fail;go_meet
      case rel=>exact⟨by rw[p.out,ea,eb];rfl,k⟩
     .have eb:decide (-1000000<=x.n)=Zi:=by simpa using b
      clear a b;go_wp2_with fail;go_meet
      case rel=>exact⟨by rw[p.out,ea,eb];rfl,k⟩
    .have ea:decide (x.n<=1000000)=Zi:=by simpa using a
     clear a;go_wp2_with fail;go_meet
     case rel=>exact⟨by rw[p.out,ea,Bool.and_false],k⟩
   .rw[d] at o;have p:Zd (q=(x.n==0 || x.n==1)):=by rw[ae.out,d];simp[Xx,Zd]
    clear d;by_cases h01:x.n=0\/x.n=1
    .have ea:(wrap64 (x.n*x.n)==x.n)=Zj:=by rcases h01 with h|h<;>(rw[h];unfold wrap64;rfl)
     have eb:decide (x.n<2)=Zj:=by simp;omega
     have ec:decide (0<=x.n)=Zj:=by simp;omega
     have ev:(x.n==0 || x.n==1)=Zj:=by rcases h01 with h|h<;>rw[h]<;>rfl
     clear h01;go_wp2_with fail;go_meet
     case rel=>exact⟨by rw[p.out,ev],k⟩
    .have ev:(x.n==0 || x.n==1)=Zi:=by simp;omega
     by_cases a:wrap64 (x.n*x.n)=x.n
     .have ea:(wrap64 (x.n*x.n)==x.n)=Zj:=by simpa using a
      by_cases b:x.n<2
      .have eb:decide (x.n<2)=Zj:=by simpa using b
       have ec:decide (0<=x.n)=Zi:=by simp;omega
       clear a b h01;go_wp2_with fail;go_meet
       case rel=>exact⟨by rw[p.out,ev],k⟩
      .have eb:decide (x.n<2)=Zi:=by simpa using b
       clear a b h01;go_wp2_with fail;go_meet
       case rel=>exact⟨by rw[p.out,ev],k⟩
     .have ea:(wrap64 (x.n*x.n)==x.n)=Zi:=by simpa using a
      clear a h01;go_wp2_with fail;go_meet
      case rel=>exact⟨by rw[p.out,ev],k⟩
   .have e1':(x.k==1)=Zi:=by simp;omega
    have b4:(x.k==2)=Zi:=by simp;omega
    have b6:(x.k==3)=Zi:=by simp;omega
    have p:Zd (q=(x.n==0)):=by rw[ae.out];unfold Xx;rw[if_neg (by omega),if_neg (by omega),if_neg (by omega)];exact rfl
    clear d;go_wp2_with fail;go_meet
    case rel=>exact⟨by rw[p.out],k⟩
  obtain⟨h7,a7⟩:=hcut;subst h7;clear k;apply_assumption;refine ZP fun Ky b7=>?_;go_cut [7] (fun s7 wx=>s7=.bool (q&&u)/\Zd (Zh W1.heap.size W1 wx))
  case first=>
   obtain⟨o,d1,d2,d3,d6⟩:=z.out _ a7.out;have lw:=I _ _ o;by_cases h79:x.k=7\/x.k=9
   .have HIT2:Zd (∀W,Zh W1.heap.size W1 W->Zn Zc 99 #[Zk #[F D x.t.k,B x.t.a x.t.l.length x.t.c]] W fun e w'=>e=Zg (.bool u)/\Zh W1.heap.size W1 w'):=ax.out h79;rcases h79 with d|d
    all_goals
     rw[d] at o
     clear d
     cases q
     .go_wp2_with fail;go_meet
      case rel=>exact⟨rfl,a7⟩
     .go_wp2_with fail;refine(HIT2.out _ a7.out).mono ?_;rintro e wt ⟨rfl,a9⟩;have HT:Zd (Zh W1.heap.size W1 wt):=a9;clear a9;go_wp2_with fail;go_meet
      case rel=>exact⟨by rw[ZG],HT⟩
   .have HST2:Zd (∀W,Zh W1.heap.size W1 W->Zn Zc 39 #[Zk #[F D x.t.k,B x.t.a x.t.l.length x.t.c],Zk #[F D 0,B L 0 0]] W fun e w'=>e=Zg (.bool u)/\Zh W1.heap.size W1 w'):=b3.out h79;have e7:(x.k==7)=Zi:=by simp;omega
    have e9:(x.k==9)=Zi:=by simp;omega
    clear h79;cases q
    .have HD:Zd (Zh W1.heap.size W1 wc.drew):=a7.out.drew;go_upto_region 13 with fail;go_region
     go_wp2_with fail;go_meet
     case rel=>exact⟨rfl,HD⟩
    .have HC0:Zd (wc.cell? ⟨w.heap.size,2,L⟩=Za (F D x.t.k)/\wc.cell? ⟨w.heap.size,3,L⟩=Za (B x.t.a x.t.l.length x.t.c)):=⟨d2,d3⟩
     have aw:Zd (wc.drew.cell? ⟨w.heap.size,2,L⟩=Za (F D x.t.k)/\wc.drew.cell? ⟨w.heap.size,3,L⟩=Za (B x.t.a x.t.l.length x.t.c)):=⟨d2,d3⟩
     have az:Zd (∀W,Zh W1.heap.size W1 W->W.cell? ⟨w.heap.size,2,L⟩=Za (F D x.t.k)/\W.cell? ⟨w.heap.size,3,L⟩=Za (B x.t.a x.t.l.length x.t.c)):=fun W c=>⟨(z.out W c).2.2.1,(z.out W c).2.2.2.1⟩
     go_upto_region 13 with fail;have r:Zh W1.heap.size W1 wc.drew:=a7.out.drew;clear o d1 d2 d3 d6;go_region_held3 (fun W=>W.cell? ⟨w.heap.size,2,L⟩=Za (F D x.t.k)/\W.cell? ⟨w.heap.size,3,L⟩=Za (B x.t.a x.t.l.length x.t.c))
      (first
       |(with_reducible exact HC0.out)
       |(with_reducible exact aw.out)
       |(with_reducible exact az.out _ r)
       |fail)
      (first
       |(go_at_call 56;(with_reducible refine(HA.out _ r).mono ?_);rintro e wN ⟨rfl,r⟩)
       |(go_at_call 39;(with_reducible refine(HST2.out _ r).mono ?_);rintro e wM ⟨rfl,r⟩)
       |fail)
     have HD:Zd (Zh W1.heap.size W1 wM):=r;clear r;go_wp2_with fail;go_meet
     case rel=>exact⟨by rw[ZG],HD⟩
  obtain⟨h7,ac⟩:=hcut;subst h7;clear a7;apply_assumption;refine ZP fun Kz b5=>?_;go_cut [2] (fun s2 wx=>s2=F D m/\Zd (Zh W1.heap.size W1 wx))
  case first=>
   obtain⟨o,d1,d2,d3,d6⟩:=z.out _ ac.out;have lw:=I _ _ o;by_cases d:x.k=7
   .rw[d] at o;have b2:IntKind.i64.wrap (own+1)=own+1:=by have:=al.out;rw[IntKind.wrap_i64];omega
    have p:Zd (m=own+1):=by rw[ao.out,d];rfl
    clear d;go_wp2_with fail;go_meet
    case rel=>exact⟨by rw[p.out],ac⟩
   .have e7:(x.k==7)=Zi:=by simpa using d
    have p:Zd (m=own):=by rw[ao.out];unfold Xu;rw[if_neg d];exact rfl
    clear d;go_wp2_with fail;go_meet
    case rel=>exact⟨by rw[p.out],ac⟩
  obtain⟨h2,an⟩:=hcut;subst h2;clear ac;obtain⟨o,d1,d2,d3,d6⟩:=z.out _ an.out;have lw:=I _ _ o;apply_assumption;go_wp2_with fail;clear o d1 d2 d3 d6 lw;go_loopg [7,111] x.l.length (fun g s7 i wr=>∃j:Nat,g+j=x.l.length/\i=F D (j:Int)/\s7=.bool (q&&u&&(x.l.take j).all fun y=>Xi ar y.tm m)/\Zd (Zh W1.heap.size W1 wr))
  case atStart=>exact⟨0,by omega,rfl,by simp,an⟩
  case round=>
   obtain⟨j,hj,rfl,rfl,HW⟩:=hrel;by_cases hlt:j<x.l.length
   .obtain⟨W0,hW0⟩:∃W,W=wr:=⟨_,rfl⟩
    subst hW0;obtain⟨xb,xo,xa,⟨c0,c1,c2,c3,c4,c5,c6⟩,_⟩:=(HX.out W0 HW.out).part j hlt;obtain⟨y,hy⟩:∃y,x.l[j]=y:=⟨_,rfl⟩
    have HI:=au.out j hlt;rw[hy] at c0 c1 c2 c3 c4 c5 c6 HI;have ap:((x.l.take (j+1)).all fun y=>Xi ar y.tm m)=(((x.l.take j).all fun y=>Xi ar y.tm m)&&Xi ar y.tm m):=by rw[Zw hlt,List.all_append,hy];simp
    obtain⟨s,hs⟩:∃s,(q&&u&&(x.l.take j).all fun y=>Xi ar y.tm m)=s:=⟨_,rfl⟩
    have af:Zd ((q&&u&&(x.l.take (j+1)).all fun y=>Xi ar y.tm m)=(s&&Xi ar y.tm m)):=by rw[ap,<-hs,ZS,ZS,ZS];exact rfl
    rw[hs];obtain⟨WX,a8⟩:∃W,W=W0.alloc (M #[F D y.k,F D y.n,F D y.t.k,B y.t.a y.t.l.length y.t.c,F D y.f.k,B y.f.a y.f.l.length y.f.c,B y.a y.l.length y.c] 27):=⟨_,rfl⟩
    have ah:Zh W1.heap.size W1 WX:=by rw[a8];exact HW.out.alloc HW.out.size _
    have b1:Zd (Zh W1.heap.size W1 WX):=ah;have ai:Zd (Zn Zc 61 #[Zk #[F D y.k,F D y.n,F D y.t.k,B y.t.a y.t.l.length y.t.c,F D y.f.k,B y.f.a y.f.l.length y.f.c,B y.a y.l.length y.c],F D ar,F D m] WX fun e w'=>e=Zg (.bool (Xi ar y.tm m))/\Zh W1.heap.size W1 w'):=HI WX ah;have y7:Uz WX W0.heap.size 0 y:=by constructor<;>(rw[a8];simp[go_sem])
    obtain⟨y0,y1,y2,y3,y4,y5,y6⟩:=y7;simp only[Zf] at y0 y1 y2 y3 y4 y5 y6;have ly:W0.heap.size<WX.heap.size:=I _ _ y0;have i1:(j:Int)<(x.l.length:Int):=by omega
    have i0:(0:Int)<=(j:Int):=by omega
    have i3:(j:Int)<=3:=by omega
    have HJ:Zd (gk+j=x.l.length):=hj;have ak:Zd (x.a=Za ⟨xb,xo,L⟩):=xa;obtain⟨rr,am⟩:∃rr,rr=Xi ar y.tm m:=⟨_,rfl⟩
    rw[<-am] at ai af;rw[xa];clear ap hs HI ah hj HW xa hy am;cases s
    .go_upto_region 19 with fail;rw[<-a8];clear a8 c0 c1 c2 c3 c4 c5 c6;go_wp2_with fail;rw[<-ak.out];go_roundg (x.l.length-(j+1))
     case measure=>have:=HJ.out;omega
     case rel=>exact⟨j+1,by have:=HJ.out;omega,by go_num,by rw[af.out];rfl,b1⟩
    .go_upto_region 19 with fail;rw[<-a8];clear a8 c0 c1 c2 c3 c4 c5 c6;go_wp2_with fail;refine ai.out.mono ?_;rintro e wt ⟨rfl,a9⟩;have HT:=Yy a9;clear a9;go_wp2_with fail;rw[<-ak.out];go_roundg (x.l.length-(j+1))
     case measure=>have:=HJ.out;omega
     case rel=>exact⟨j+1,by have:=HJ.out;omega,by go_num,by rw[af.out];simp,HT⟩
   .have hjl:j=x.l.length:=by omega
    have HN:=Yy (HB.out.trans (HW.out.mono HB.out.size));have i1:¬(j:Int)<(x.l.length:Int):=by omega
    have HE:Zd ((q&&u&&(x.l.take j).all fun y=>Xi ar y.tm m)=(q&&u&&x.l.all fun y=>Xi ar y.tm m)):=by rw[hjl,List.take_length];exact rfl
    clear HW hj hlt hjl;go_wp2_with fail;go_ret;exact⟨by rw[<-HE.out];rfl,HN.out⟩
def TT.ok(m:Nat):TT->Prop
 |⟨k,n,t,f,_,_,l⟩=>((Lit.int D k).wf=Zj/\(Lit.int D n).wf=Zj/\t.sz<=m/\f.sz<=m/\l.length<=m)/\∀y,y∈l->y.ok m
theorem TT.nc{k n:Int}{t f:Tr}{a:Option Addr}{c:Nat}{l:List TT}:(TT.mk k n t f a c l).ok m↔((Lit.int D k).wf=Zj/\(Lit.int D n).wf=Zj/\t.sz<=m/\f.sz<=m/\l.length<=m)/\∀y,y∈l->y.ok m:=by rw[TT.ok]
theorem TT.ok.top{x:TT}(h:x.ok m):(Lit.int D x.k).wf=Zj/\(Lit.int D x.n).wf=Zj/\x.t.sz<=m/\x.f.sz<=m/\x.l.length<=m:=by cases x;exact(TT.nc.1 h).1
theorem TT.ok.mem{x y:TT}(h:x.ok m)(b:y∈x.l):y.ok m:=by obtain⟨k,n,t,f,a,c,l⟩:=x;exact(TT.nc.1 h).2 y b
theorem RE:∀(l:List Tr)(t:Tr),t∈l->t.sz<=(l.map Tr.sz).sum
 |[],_,h=>by cases h
 |y::r,t,h=>by
  rcases ZF.1 h with rfl|h
  .simp
  .have:=RE r t h;simp;omega
theorem Tp:∀(l:List Nat)(m:Nat),(∀x,x∈l->x<=m)->l.foldr max 0<=m
 |[],m,_=>by simp
 |x::r,m,h=>by have h1:=Tp r m fun y hy=>h y (by simp[hy]);have h2:=h x (by simp);simp only[List.foldr_cons];omega
theorem Tr.og(t:Tr):t.hgt<=t.sz:=by
 induction t using Tr.ind with
 |h k a c l ih=>
  rw[Tr.nk,Tr.lm];have:(l.map Tr.hgt).foldr max 0<=(l.map Tr.sz).sum:=by refine Tp _ _ fun x d=>?_;obtain⟨t,b,rfl⟩:=ZC.1 d;exact ZO (ih t b) (RE l t b)
  omega
theorem WY:∀(l:List Tr),l.length<=(l.map Tr.sz).sum
 |[]=>by simp
 |t::r=>by have:=WY r;have:=t.mi;simp;omega
theorem Tr.od(t:Tr)(h:t.sz<=100000000):t.sm:=by
 induction t using Tr.ind with
 |h k a c l ih=>
  rw[Tr.lm] at h;refine Tr.ob.2 ⟨?_,fun t b=>ih t b ?_⟩
  .have:=WY l;omega
  .have:=RE l t b;omega
theorem TT.ok.pn{m:Nat}(hm:m<=100000000){x:TT}:x.ok m->x.pn:=by
 induction x using TT.ind with
 |h k n t f a c l ih=>intro h;obtain⟨⟨_,_,g,e,_⟩,d⟩:=TT.nc.1 h;exact TT.nv.2 ⟨t.od (by omega),f.od (by omega),fun y b=>ih y b (d y b)⟩
theorem TT.ok.ov{m:Nat}(hm:m<=100000000){x:TT}:x.ok m->x.ov:=by
 induction x using TT.ind with
 |h k n t f a c l ih=>intro h;obtain⟨⟨_,_,g,e,_⟩,d⟩:=TT.nc.1 h;exact TT.nr.2 ⟨by omega,by omega,fun y b=>ih y b (d y b)⟩
theorem TT.ok.lw{m:Nat}(hm:m<=100000000){x:TT}:x.ok m->x.lw:=by
 induction x using TT.ind with
 |h k n t f a c l ih=>intro h;obtain⟨⟨_,_,_,_,e⟩,d⟩:=TT.nc.1 h;exact TT.px.2 ⟨by omega,fun y b=>ih y b (d y b)⟩
theorem TT.ok.nb{m:Nat}{x:TT}:x.ok m->x.nb:=by
 induction x using TT.ind with
 |h k n t f a c l ih=>intro h;obtain⟨⟨_,e,_,_,_⟩,d⟩:=TT.nc.1 h;exact TT.mt.2 ⟨(bounds_i64 e).2,fun y b=>ih y b (d y b)⟩
theorem VS(b:Int)(x:TT)(own:Int)(p:1<=x.k)(j:x.k<=9)(d:x.l.length=Yu x.k)(e:YD YA x.f.ty ⟨0,[]⟩=Zj):
  (Xx b own x.k x.n&&(if XV x.k=Zj then Ym 4 x.t.ty else XQ x.t.ty)&&x.l.all fun y=>Xi b y.tm (Xu x.k own))=Xi b x.tm own:=by
 obtain⟨k,n,t,f,a,c,l⟩:=x;rw[TT.ma,N7];have m:decide (1<=k)=Zj:=by simpa using p
 have h:decide (k<=9)=Zj:=by simpa using j
 have i:((l.map TT.tm).length==Yu k)=Zj:=by simpa using d
 have g:XQ f.ty=Zj:=e;have o:((l.map TT.tm).all fun y=>Xi b y (Xu k own))=(l.all fun y=>Xi b y.tm (Xu k own)):=by rw[List.all_map];rfl
 simp only[U3,UL,m,h,i,g,ZG,o];cases Xx b own k n<;>cases (if XV k=Zj then Ym 4 t.ty else XQ t.ty)<;>rfl
theorem Nb(b:Int)(x:TT)(own:Int)(h:U3 b own x.tm=Zi):Xi b x.tm own=Zi:=by obtain⟨k,n,t,f,a,c,l⟩:=x;rw[TT.ma] at h;rw[TT.ma,N7,h];rfl
theorem AZ(ar:Int):∀(m:Nat)(x:TT)(own:Int)(w:ZB),x.In w->x.sz<=m->x.ok 100000000->0<=own->own+(m:Int)<=1000000000->
  Zn Zc 61 #[Zk #[F D x.k,F D x.n,F D x.t.k,B x.t.a x.t.l.length x.t.c,F D x.f.k,B x.f.a x.f.l.length x.f.c,B x.a x.l.length x.c],F D ar,F D own] w fun e w'=>e=Zg (.bool (Xi ar x.tm own))/\Zh w.heap.size w w':=by
 intro m;induction m with
 |zero=>intro x own w _ h;have:=x.mi;omega
 |succ m ih=>
  intro x own w o hm c u h1;obtain⟨b,i,k,d,_⟩:=c.top;by_cases hk:x.k<1\/9<x.k
  .rw[Nb ar x own (by simp only[U3,TT.mc];rcases hk with h|h<;>simp<;>omega)];exact VQ x ar own w hk
  by_cases hl:x.l.length=Yu x.k
  .by_cases hfe:YD YA x.f.ty ⟨0,[]⟩=Zj
   .rw[<-VS ar x own (by omega) (by omega) hl hfe];have q:x.l.length<=3:=by rw[hl];unfold Yu;split<;>(try split)<;>(try split)<;>omega
    refine VP x ar own w o b (by omega) (by omega) hl 100000000 (ZO x.f.og d) (x.f.od d) hfe (by omega) (ZO x.t.og k) (x.t.od k) (bounds_i64 i).2 u (by omega) q ?_;intro j p W g;have z:x.l[j].sz<=m:=by
     have h1:=x.mr;have h2:x.l[j].sz<=(x.l.map TT.sz).sum:=by
      have:∀(l:List TT)(y:TT),y∈l->y.sz<=(l.map TT.sz).sum:=by
       intro l;induction l with
       |nil=>intro y h;cases h
       |cons a r ih=>
        intro y h;rcases ZF.1 h with rfl|h
        .simp
        .have:=ih y h;simp;omega
      exact this x.l _ (Zv p)
     omega
    have hi:0<=Xu x.k own/\Xu x.k own<=own+1:=by unfold Xu;split<;>omega
    exact ih x.l[j] (Xu x.k own) W g z (c.mem (Zv p)) hi.1 (by omega)
   .have hfe':YD YA x.f.ty ⟨0,[]⟩=Zi:=by simpa using hfe
    rw[Nb ar x own (by simp only[U3,UL,TT.pj,XQ,Yk,hfe'];simp)];exact VR x ar own w o b (by omega) (by omega) hl 100000000 (ZO x.f.og d) (x.f.od d) hfe'
  .rw[Nb ar x own (by simp only[U3,TT.mc,TT.mq];simp[hl])];exact SQ x ar own w b (by omega) (by omega) hl
theorem P4(x:TT)(ar:Int)(w:ZB)(hx:x.In w)(hsz:x.sz<=2000000)(hok:x.ok 100000000):
  Zn Zc 37 #[Zk #[F D x.k,F D x.n,F D x.t.k,B x.t.a x.t.l.length x.t.c,F D x.f.k,B x.f.a x.f.l.length x.f.c,B x.a x.l.length x.c],F D ar] w fun e w'=>e=Zg (.bool (UC ar x.tm))/\Zh w.heap.size w w':=by
 have y:Zd (∀W,x.In W->Zn Zc 60 #[Zk x.v] W fun e w'=>e=Zg (F D (x.sz:Int))/\bL W w'):=fun W h=>OI x W h hsz;have u:Zd (∀W,x.In W->Zn Zc 61 #[Zk x.v,F D ar,F D 0] W fun e w'=>e=Zg (.bool (Xi ar x.tm 0))/\bL W w'):=fun W h=>AZ ar x.sz x 0 W h (Zb _) hok (by omega) (by omega);have HG:Zd (UC ar x.tm=(decide (x.sz<41)&&Xi ar x.tm 0)):=by rw[x.me];exact TK ar x.tm
 obtain⟨g,hg⟩:∃g,g=UC ar x.tm:=⟨_,rfl⟩
 rw[<-hg] at HG ⊢;clear hg;obtain⟨W1,c⟩:∃W,W=w.alloc (M x.v 27):=⟨_,rfl⟩
 have b:bL w W1:=by rw[c];exact(R _ _).alloc (Zb _) _
 obtain⟨q,i⟩:∃S:Int,S=(x.sz:Int):=⟨_,rfl⟩
 obtain⟨r,m⟩:∃r,r=Xi ar x.tm 0:=⟨_,rfl⟩
 rw[<-m] at HG;have HP:Zd (∀W,bL W1 W->Zn Zc 60 #[Zk x.v] W fun e w'=>e=Zg (F D q)/\bL W1 w'):=fun W d=>by refine(y.out W (hx.below (b.trans (d.mono b.size)))).mono ?_;rintro e w' ⟨rfl,o⟩;rw[i];exact⟨rfl,d.trans (o.mono d.size)⟩
 have HQ:Zd (∀W,bL W1 W->Zn Zc 61 #[Zk x.v,F D ar,F D 0] W fun e w'=>e=Zg (.bool r)/\bL W1 w'):=fun W d=>by refine(u.out W (hx.below (b.trans (d.mono b.size)))).mono ?_;rintro e w' ⟨rfl,o⟩;rw[m];exact⟨rfl,d.trans (o.mono d.size)⟩
 have p:Uz W1 w.heap.size 0 x:=by constructor<;>(rw[c];simp[go_sem])
 have z:Zd (∀W,bL W1 W->cL W w.heap.size 0 (F D x.k)/\cL W w.heap.size 1 (F D x.n)/\cL W w.heap.size 2 (F D x.t.k)/\cL W w.heap.size 3 (x.t.s)/\cL W w.heap.size 4 (F D x.f.k)/\cL W w.heap.size 5 (x.f.s)/\cL W w.heap.size 6 (x.s)):=fun W d=>by obtain⟨a0,a1,a2,a3,a4,a5,a6⟩:=p.below d;simp only[Zf] at a0 a1 a2 a3 a4 a5 a6;exact⟨a0,a1,a2,a3,a4,a5,a6⟩
 have l:=Yy b;obtain⟨j,d1,d2,d3,d4,d5,d6⟩:=z.out W1 (R _ _);have a8:w.heap.size<W1.heap.size:=I _ _ j;by_cases h41:x.sz<41
 .have e1:decide (q<41)=Zj:=by simp;omega
  have HE:Zd (g=r):=by have:=HG.out;rw[show decide (x.sz<41)=Zj by simpa using h41,ZG] at this;exact this
  clear b p hx hsz hok y u i m h41 HG;go_enter func37,ntmps37;go_upto_region 1 with fail;rw[<-c];clear c;go_wp2_with (first
   |(go_at_call 60;refine(HP.out _ (R _ _)).mono ?_;rintro e w2 ⟨rfl,a⟩;obtain⟨j,d1,d2,d3,d4,d5,d6⟩:=z.out _ a;have a7:w.heap.size<w2.heap.size:=I _ _ j)
   |(go_at_call 61;refine(HQ.out _ a).mono ?_;rintro e w3 ⟨rfl,k⟩))
  have HZ:=Yy (l.out.trans (k.mono l.out.size));clear k a;go_ret;exact⟨by rw[HE.out];cases r<;>rfl,HZ.out⟩
 .have e1:decide (q<41)=Zi:=by simp;omega
  have HE:Zd (g=Zi):=by have:=HG.out;rw[show decide (x.sz<41)=Zi by simpa using h41,Bool.false_and] at this;exact this
  clear b p hx hsz hok y u i m h41 HG HQ;go_enter func37,ntmps37;go_upto_region 1 with fail;rw[<-c];clear c;go_wp2_with (first
   |(go_at_call 60;refine(HP.out _ (R _ _)).mono ?_;rintro e w2 ⟨rfl,a⟩;obtain⟨j,d1,d2,d3,d4,d5,d6⟩:=z.out _ a;have a7:w.heap.size<w2.heap.size:=I _ _ j))
  have HZ:=Yy (l.out.trans (a.mono l.out.size));clear a;go_ret;exact⟨by rw[HE.out];cases r<;>rfl,HZ.out⟩
theorem QL(x:TT)(w:ZB)(hx:x.In w)(hsz:x.sz<=2000000)(hok:x.ok 100000000):Zn Zc 35 #[Zk #[F D x.k,F D x.n,F D x.t.k,B x.t.a x.t.l.length x.t.c,F D x.f.k,B x.f.a x.f.l.length x.f.c,B x.a x.l.length x.c]] w (My x w):=by
 have a9:=CF.start x w;obtain⟨W1,a5⟩:∃W1,W1=(((w.alloc (M x.v 27)).alloc (M #[F D 0,F D 0,F D 0,B L 0 0,F D 0,B L 0 0,B L 0 0] 27)).alloc (M #[F D 0,B L 0 0] 24)):=⟨_,rfl⟩
 have am:bL w W1:=by rw[a5];exact(((R _ _).alloc (Zb _) _).alloc (by simp) _).alloc (by simp;omega) _
 rw[<-a5] at a9;obtain⟨gd,ab⟩:∃gd,UC 0 x.tm=gd:=⟨_,rfl⟩
 have HG:Zd (Zn Zc 37 #[Zk x.v,F D 0] W1 fun e w'=>e=Zg (.bool gd)/\bL W1 w'):=by have:=P4 x 0 W1 (hx.below am) hsz hok;rw[ab] at this;exact this
 have HX:=O8 hx ab am a9;obtain⟨p0,p1,p2,p3,p4,p5,p6⟩:=a9.at7;simp only[Zf] at p0 p1 p2 p3 p4 p5 p6;have aw:w.heap.size<W1.heap.size:=I _ _ p0;clear hx hsz hok a9 ab am;go_enter func35,ntmps35;go_wp2_with fail;rw[<-a5];refine HG.out.mono ?_;rintro e w2 ⟨rfl,al⟩;have c:=HX.out.2.2.2.below al;have d:=HX.out.2.2.1.trans (al.mono HX.out.2.2.1.size);have p:=Uy HX.out.1 HX.out.2.1;clear p0 p1 p2 p3 p4 p5 p6 HG HX al a5 aw;cases gd
 .have af:Zd (∀W,CF w.heap.size x W->bL w W->Zn Zc 56 #[] W fun e w'=>e=Zg (Zk #[F D 0,B L 0 0])/\CF w.heap.size x w'/\bL w w'):=fun W h1 h2=>by refine(Ue W).mono ?_;rintro e w' ⟨rfl,rfl⟩;have m:bL W (W.alloc (M #[F D 0,B L 0 0] 24)):=(R _ _).alloc (Zb _) _;exact⟨rfl,h1.below m,h2.trans (m.mono h2.size)⟩
  go_wp2_with fail;refine(af.out _ c d).mono ?_;clear c d;rintro e w3 ⟨rfl,c,d⟩;have HN:Zd (My x w (Zg (ZX #[Zk #[F D 0,F D 0,F D 0,B L 0 0,F D 0,B L 0 0,B L 0 0],Zk #[F D 0,B L 0 0],F D 1])) (X1 w3 w.heap.size (Yr 0 0) (Ys 0))):=⟨d.trans ((Je w3 w.heap.size (Yr 0 0) (Ys 0) c.lt).mono (Zb _)),.inl ⟨p.out.2,rfl⟩⟩
  obtain⟨e0,e1,e2,e3,e4,e5,e6,e7,e8⟩:=c.ends (Yr 0 0) (Ys 0);obtain⟨_,⟨⟨y0,y1,y2,y3,y4,y5,y6⟩,f0,f1,f2,f3,f4,f5,f6⟩,u0,u1,g0,g1⟩:=c;clear d;go_wp2_with fail;refine ZN (v:=ZX #[Zk #[F D 0,F D 0,F D 0,B L 0 0,F D 0,B L 0 0,B L 0 0],Zk #[F D 0,B L 0 0],F D 1]) ?_ rfl HN.out;unfold X1 Xd at e0 e1 e2 e3 e4 e5 e6 e7 e8;simp only[Yr,Ys,ZQ] at e0 e1 e2 e3 e4 e5 e6 e7 e8;simp[results,ZT,go_sem,e0,e1,e2,e3,e4,e5,e6,e7,e8]
 .obtain⟨hok,hsz⟩:=Mn p.out.2;have aq:=c.lt;have aa:x.sz<=40:=by rw[x.me];exact hsz
  have av:=p.out.1.below d;have HC:Zd (Zn Zc 57 #[Zk x.v,B L 0 0] w2 (KG (fun b=>b≠w.heap.size+1/\b≠w.heap.size+1+1) (Xa x.tm []) w2)):=Su x.sz x (Zb _) _ (Ys 0) w2 av (YC _ _) hok (fun u h=>by cases h) (by simp[Ys];omega) (p.out.1.bl.mono fun b m=>⟨by omega,by omega⟩) (YF _ _) (fun b m=>⟨by omega,by omega⟩)
  have HB:=Uy aa hok;obtain⟨p0,p1,p2,p3,p4,p5,p6⟩:=c.at7;simp only[Zf] at p0 p1 p2 p3 p4 p5 p6;have au:w.heap.size<w2.heap.size:=I _ _ p0;clear hok hsz aa;go_wp2_with fail;refine HC.out.mono ?_;rintro e w3 ⟨t,bb,rfl,a1,ad,ak,ah,a4⟩;obtain⟨KB,a8⟩:∃K,K=w3.heap.size:=⟨_,rfl⟩
  obtain⟨W4,a2⟩:∃W,W=w3.alloc (M t.v 24):=⟨_,rfl⟩
  have z:bL w3 W4:=by rw[a2];exact(R _ _).alloc (Zb _) _
  have a0:=a4.trans (z.mono a4.size);have l:=c.below a0;have o:=d.trans (a0.mono d.size);have k0:W4.cell? ⟨KB,0,L⟩=Za (F D t.k):=by rw[a2,a8];simp[go_sem]
  have k1:W4.cell? ⟨KB,1,L⟩=Za (B t.a t.l.length t.c):=by rw[a2,a8];simp[go_sem]
  have b1:w.heap.size+1+1<KB:=by have:=a4.size;omega
  have aj:=ak.below z;cases bb with
  |false=>
   have ay:Zd (Xt x.tm [] 0=L):=by
    cases h:Xt x.tm [] 0 with
    |none=>rfl
    |some q=>have:=Lk x.tm [] 0;rw[h] at this;rw[<-this] at a1;cases a1
   have af:Zd (∀W,CF w.heap.size x W->bL w W->Zn Zc 56 #[] W fun e w'=>e=Zg (Zk #[F D 0,B L 0 0])/\CF w.heap.size x w'/\bL w w'):=fun W h1 h2=>by refine(Ue W).mono ?_;rintro e w' ⟨rfl,rfl⟩;have m:bL W (W.alloc (M #[F D 0,B L 0 0] 24)):=(R _ _).alloc (Zb _) _;exact⟨rfl,h1.below m,h2.trans (m.mono h2.size)⟩
   clear HC c a1 ad ak ah a4 z a0 d k0 k1 aj p0 p1 p2 p3 p4 p5 p6 au aq;go_wp2_with fail;rw[<-a2];refine(af.out _ l o).mono ?_;clear l o;rintro e r ⟨rfl,c,d⟩;have HN:Zd (My x w (Zg (ZX #[Zk #[F D 0,F D 0,F D 0,B L 0 0,F D 0,B L 0 0,B L 0 0],Zk #[F D 0,B L 0 0],F D 2])) (X1 r w.heap.size (Yr 0 0) (Ys 0))):=⟨d.trans ((Je r w.heap.size (Yr 0 0) (Ys 0) c.lt).mono (Zb _)),.inr (.inl ⟨p.out.2,ay.out,rfl⟩)⟩
   obtain⟨e0,e1,e2,e3,e4,e5,e6,e7,e8⟩:=c.ends (Yr 0 0) (Ys 0);obtain⟨_,⟨⟨y0,y1,y2,y3,y4,y5,y6⟩,f0,f1,f2,f3,f4,f5,f6⟩,u0,u1,g0,g1⟩:=c;clear d;go_wp2_with fail;refine ZN (v:=ZX #[Zk #[F D 0,F D 0,F D 0,B L 0 0,F D 0,B L 0 0,B L 0 0],Zk #[F D 0,B L 0 0],F D 2]) ?_ rfl HN.out;unfold X1 Xd at e0 e1 e2 e3 e4 e5 e6 e7 e8;simp only[Yr,Ys,ZQ] at e0 e1 e2 e3 e4 e5 e6 e7 e8;simp[results,ZT,go_sem,e0,e1,e2,e3,e4,e5,e6,e7,e8]
  |true=>
   obtain⟨y0,i0,a3⟩:∃(y0:Tm)(i0:Ty),Zd (Xt x.tm [] 0=Za (y0,i0)/\t.ty=i0):=by
    cases h:Xt x.tm [] 0 with
    |none=>have:=Lk x.tm [] 0;rw[h] at this;rw[<-this] at a1;cases a1
    |some q=>have:=Lk x.tm [] 0;rw[h] at this;exact⟨q.1,q.2,rfl,ad _ this.symm⟩
   have HT:=Uy aj ah;have an:Zd (Zn Zc 58 #[Zk x.v,B L 0 0,F D 0] W4.drew (Ot (fun b=>b≠w.heap.size+1/\b≠w.heap.size+1+1) y0 W4.drew)):=by have:=Qu x.sz x (Zb _) (fun b=>b≠w.heap.size+1/\b≠w.heap.size+1+1) (Ys 0) 0 W4.drew (p.out.1.below o.drew) (YC _ _) HB.out.2 (fun u h=>by cases h) (by have:=HB.out.1;simp[Ys];omega) (by have:=HB.out.1;omega) (p.out.1.bl.mono fun b m=>⟨by omega,by omega⟩) (YF _ _) (fun b m=>by have h:=l.lt;have h2:W4.drew.heap.size=W4.heap.size:=rfl;exact⟨by omega,by omega⟩) y0 i0 a3.out.1;exact this
   have HS:Zd (∀W:ZB,(∀k,k=w.heap.size\/k=KB->W.heap[k]?=W4.heap[k]?)->(fun W:ZB=>W.cell? ⟨w.heap.size,0,L⟩=Za (F D x.k)/\W.cell? ⟨w.heap.size,1,L⟩=Za (F D x.n)/\W.cell? ⟨w.heap.size,2,L⟩=Za (F D x.t.k)/\W.cell? ⟨w.heap.size,3,L⟩=Za (B x.t.a x.t.l.length x.t.c)/\W.cell? ⟨w.heap.size,4,L⟩=Za (F D x.f.k)/\W.cell? ⟨w.heap.size,5,L⟩=Za (B x.f.a x.f.l.length x.f.c)/\W.cell? ⟨w.heap.size,6,L⟩=Za (B x.a x.l.length x.c)/\W.cell? ⟨KB,0,L⟩=Za (F D t.k)/\W.cell? ⟨KB,1,L⟩=Za (B t.a t.l.length t.c)) W):=by intro W h;have h7:=l.at7;obtain⟨c0,c1,c2,c3,c4,c5,c6⟩:=h7.of (w':=W) fun i=>Zs (a:=⟨w.heap.size,i,L⟩) (h _ (.inl rfl));simp only[Zf] at c0 c1 c2 c3 c4 c5 c6;exact⟨c0,c1,c2,c3,c4,c5,c6,(Zs (a:=⟨KB,0,L⟩) (h _ (.inr rfl))).trans k0,(Zs (a:=⟨KB,1,L⟩) (h _ (.inr rfl))).trans k1⟩
   have lK:KB<W4.heap.size:=I _ _ k0;have a7:=Uy l o;clear HC c a1 ad ak ah a4 z a0 d aj p0 p1 p2 p3 p4 p5 p6 au aq l o k0 k1;go_upto_region 6 with fail;rw[<-a2,<-a8];clear a2 a8;refine Zu (S:=fun W:ZB=>W.cell? ⟨w.heap.size,0,L⟩=Za (F D x.k)/\W.cell? ⟨w.heap.size,1,L⟩=Za (F D x.n)/\W.cell? ⟨w.heap.size,2,L⟩=Za (F D x.t.k)/\W.cell? ⟨w.heap.size,3,L⟩=Za (B x.t.a x.t.l.length x.t.c)/\W.cell? ⟨w.heap.size,4,L⟩=Za (F D x.f.k)/\W.cell? ⟨w.heap.size,5,L⟩=Za (B x.f.a x.f.l.length x.f.c)/\W.cell? ⟨w.heap.size,6,L⟩=Za (B x.a x.l.length x.c)/\W.cell? ⟨KB,0,L⟩=Za (F D t.k)/\W.cell? ⟨KB,1,L⟩=Za (B t.a t.l.length t.c)) (by kernel_rfl) (HS.out _ (fun k _=>rfl)) (fun g=>?_);refine QX (i:=0) (v:=?_) rfl (by kernel_rfl) (by kernel_rfl) (by kernel_rfl) (fun _ _ _ h=>h) (ZY ⟨by rfl,?_⟩) g ?_;rotate_left;(focus (intro w' ai;(try dsimp only at ai);go_split_ands;first|(go_simp;done)|(go_simp;with_reducible rfl)));simp only[Ze,A,G,H];refine QX (i:=2) (v:=?_) rfl (by kernel_rfl) (by kernel_rfl) (by kernel_rfl) (fun _ _ _ h=>h) (ZY ⟨by rfl,?_⟩) g ?_;rotate_left;(focus (intro w' ai;(try dsimp only at ai);go_split_ands;first|(go_simp;done)|(go_simp;with_reducible rfl)));simp only[Ze,A,G,H];refine Jl (i:=1) rfl (by kernel_rfl) (fun K hK=>?_);go_simp;go_at_call 58;refine an.out.mono ?_;rintro e r ⟨y,rfl,ax,ao,ac,ar⟩;have j:Zh W4.heap.size W4 r:=((R _ _).drew).trans (ar.mono (Zb _));have c:=a7.out.1.below j;have d:=a7.out.2.trans (j.mono a7.out.2.size);have a6:∀k,k=w.heap.size\/k=KB->r.heap[k]?=W4.heap[k]?:=fun k hk=>j.block k (by rcases hk with rfl|rfl<;>omega);refine hK.out _ _ (HS.out _ a6) (fun g=>?_);clear hK K;have HN:Zd (My x w (Zg (ZX #[Zk #[F D y.k,F D y.n,F D y.t.k,B y.t.a y.t.l.length y.t.c,F D y.f.k,B y.f.a y.f.l.length y.f.c,B y.a y.l.length y.c],Zk #[F D t.k,B t.a t.l.length t.c],F D 0])) (X1 r w.heap.size y t)):=by
    have h1:=YI (w:=r) (J:=w.heap.size+1) (x:=y);have h2:Yi (w.heap.size+1+1) L (Xd r (w.heap.size+1) y) (X1 r w.heap.size y t):=Yj.trans Yj;refine⟨d.trans ((Je r w.heap.size y t c.lt).mono (Zb _)),.inr (.inr ⟨p.out.2,y,t,?_,rfl,?_,?_,?_⟩)⟩
    .rw[a3.out.1,ax,a3.out.2]
    .exact(ao.lc h1 (ac.mono fun b m=>m.1)).lc h2 (ac.mono fun b m=>m.2)
    .exact((HT.out.1.below j).lc h1 (HT.out.2.mono fun b m=>m.1)).lc h2 (HT.out.2.mono fun b m=>m.2)
    .rw[YL];have:=Kl x.tm [] 0 y0 t.ty HB.out.2 (fun u h=>by cases h) (by rw[a3.out.1,a3.out.2]);have az:=HB.out.1;rw[x.me] at az;exact YG _ 44 _ (by omega) this
   obtain⟨e0,e1,e2,e3,e4,e5,e6,e7,e8⟩:=c.ends y t;have ap:Zd ((fun W:ZB=>W.cell? ⟨w.heap.size,0,L⟩=Za (F D x.k)/\W.cell? ⟨w.heap.size,1,L⟩=Za (F D x.n)/\W.cell? ⟨w.heap.size,2,L⟩=Za (F D x.t.k)/\W.cell? ⟨w.heap.size,3,L⟩=Za (B x.t.a x.t.l.length x.t.c)/\W.cell? ⟨w.heap.size,4,L⟩=Za (F D x.f.k)/\W.cell? ⟨w.heap.size,5,L⟩=Za (B x.f.a x.f.l.length x.f.c)/\W.cell? ⟨w.heap.size,6,L⟩=Za (B x.a x.l.length x.c)/\W.cell? ⟨KB,0,L⟩=Za (F D t.k)/\W.cell? ⟨KB,1,L⟩=Za (B t.a t.l.length t.c)) (Xd r (w.heap.size+1) y)):=HS.out _ fun k hk=>(YI.block k (by have:=j.size;rcases hk with rfl|rfl<;>omega) (by rcases hk with rfl|rfl<;>omega) (by simp)).trans (a6 k hk);have ae:Zd ((fun W:ZB=>W.cell? ⟨w.heap.size,0,L⟩=Za (F D x.k)/\W.cell? ⟨w.heap.size,1,L⟩=Za (F D x.n)/\W.cell? ⟨w.heap.size,2,L⟩=Za (F D x.t.k)/\W.cell? ⟨w.heap.size,3,L⟩=Za (B x.t.a x.t.l.length x.t.c)/\W.cell? ⟨w.heap.size,4,L⟩=Za (F D x.f.k)/\W.cell? ⟨w.heap.size,5,L⟩=Za (B x.f.a x.f.l.length x.f.c)/\W.cell? ⟨w.heap.size,6,L⟩=Za (B x.a x.l.length x.c)/\W.cell? ⟨KB,0,L⟩=Za (F D t.k)/\W.cell? ⟨KB,1,L⟩=Za (B t.a t.l.length t.c)) (X1 r w.heap.size y t)):=HS.out _ fun k hk=>by
    have h2:Yi (w.heap.size+1+1) L (Xd r (w.heap.size+1) y) (X1 r w.heap.size y t):=Yj.trans Yj;have hsz:(Xd r (w.heap.size+1) y).heap.size=r.heap.size:=by simp[Xd,World.setCell]
    exact(h2.block k (by have:=j.size;rcases hk with rfl|rfl<;>omega) (by rcases hk with rfl|rfl<;>omega) (by simp)).trans ((YI.block k (by have:=j.size;rcases hk with rfl|rfl<;>omega) (by rcases hk with rfl|rfl<;>omega) (by simp)).trans (a6 k hk))
   obtain⟨_,⟨⟨b0,y1,y2,y3,y4,y5,y6⟩,f0,f1,f2,f3,f4,f5,f6⟩,u0,u1,g0,g1⟩:=c;unfold X1 at ae;unfold Xd at ap ae;unfold X1 Xd at e0 e1 e2 e3 e4 e5 e6 e7 e8;clear ao ac ar j d a6 HS a7 an HT;refine Jl (i:=3) rfl (by kernel_rfl) (fun K hK=>?_);go_simp;refine hK.out _ _ ap.out (fun g=>?_);clear hK K;refine Jl (i:=4) rfl (by kernel_rfl) (fun K hK=>?_);go_simp;refine hK.out _ _ ae.out (fun g=>?_);clear hK K;refine qk 5 (v:=?_) rfl (by kernel_rfl) (fun _ _ _ h=>h) (by rfl) g ?_ ?_;rotate_left;(focus (intro w' h;go_split_ands;go_simp;try with_reducible rfl));simp only[Ze,A,G,H];refine ZA (by kernel_rfl) ?_ _;go_wp2_with fail;refine ZN (v:=ZX #[Zk y.v,Zk t.v,F D 0]) ?_ rfl HN.out;simp[results,ZT,go_sem,e0,e1,e2,e3,e4,e5,e6,e7,e8]
end Go.Proofs.YtnddkmccagiclabGreatDoor
