import Derived.Test.YtnddkmccagiclabGreatDoorZtr
set_option maxRecDepth 20000
set_option maxHeartbeats 16000000
open Go.RowKit Go.Proofs.Tryz
open Option renaming none→A,some→K,bind_some→Zf
open Go.Value renaming slice→C,int→E
open Go.IntKind renaming i64→D
open Go renaming cell_later→F,World→Y,heap_alloc_new→Zh,Value→Zi,madeCells→Zm
open Go.World renaming cell?_setCell_other→L,block_lt_of_cell?→T
open List renaming getElem_mem→M,getElem_append_left→Ze,mem_append→Zg,getElem_of_mem→Zj,mem_singleton→Zk,length_append→Zl
open Nat renaming le_refl→N
open Go.RowKit.Below renaming refl→X
open Bool renaming false→Z
open Go.Obj renaming cells→Za
open Go.Proofs.Tryz renaming prog→Zb,underlying25→Zd
open Go.RowKit renaming Below→Zc
namespace Go.Proofs.YtnddkmccagiclabGreatDoor
variable {V W W' w wr:Y}{G H J b c g o:Nat}{x:TT}{Q:Nat->Prop}{zs:List TT}{takes:List Ty}{rs:List Rd}
theorem Bv(r:Rd)(u:Tr)(w:Y)(hu:u.In w)(hi:r.i.In w)(hy:r.y.In w)(hh:r.i.hgt<=1000)(hs:r.i.sm)(ri:r.i.right)(ru:u.right)(hhu:u.hgt<=1000):
  Calls Zb 109 #[.agg #[E D r.n,E D r.y.k,E D r.y.n,E D r.y.t.k,C r.y.t.a r.y.t.l.length r.y.t.c,E D r.y.f.k,C r.y.f.a r.y.f.l.length r.y.f.c,C r.y.a r.y.l.length r.y.c,E D r.i.k,C r.i.a r.i.l.length r.i.c],.agg #[E D u.k,C u.a u.l.length u.c]] w (Sk r u w):=by
 cases hr:YC Yv r.i.ty u.ty with
 |true=>exact Wn r u w hu hi hy hh hs hr
 |false=>exact Wo r u w hu hi hy hh hs ri ru hhu hr
def Ut(w:Y)(J o:Nat)(x:TT):Y:=((((((w.setCell ⟨J,o,A⟩ (E D x.k)).setCell ⟨J,o+1,A⟩ (E D x.n)).setCell ⟨J,o+2,A⟩ (E D x.t.k)).setCell ⟨J,o+3,A⟩ (C x.t.a x.t.l.length x.t.c)).setCell ⟨J,o+4,A⟩ (E D x.f.k)).setCell ⟨J,o+5,A⟩ (C x.f.a x.f.l.length x.f.c)).setCell ⟨J,o+6,A⟩ (C x.a x.l.length x.c)
theorem Xa{i:Nat}{u:Zi}(x:TT)(hu:w.cell? ⟨J,i,A⟩=K u):(Ut w J o x).cell? ⟨J,i,A⟩=K (if i=o+6 then C x.a x.l.length x.c else if i=o+5 then C x.f.a x.f.l.length x.f.c else if i=o+4 then E D x.f.k else if i=o+3 then C x.t.a x.t.l.length x.t.c else if i=o+2 then E D x.t.k else if i=o+1 then E D x.n else if i=o then E D x.k else u):=Yp (Yp (Yp (Yp (Yp (Yp (Yp hu))))))
theorem Lp:Yi J A w (Ut w J o x):=Yj.trans (Yj.trans (Yj.trans (Yj.trans (Yj.trans (Yj.trans Yj)))))
theorem Lo:(Ut w J o x).heap.size=w.heap.size:=by simp[Ut,World.setCell]
structure J6(Q:Nat->Prop)(w:Y)(g m:Nat)(zs:List TT)(wr:Y):Prop where
 bel:Zc w.heap.size w wr
 lt:g<wr.heap.size
 is:∀q(h:q<zs.length),X4 wr g (q*7) zs[q]
 ins:∀z,z∈zs->z.In wr/\z.Bl (fun b=>b≠g/\Q b)
 any:∀i,i<m*7->∃v,wr.cell? ⟨g,i,A⟩=K v
 fz:∀i,wr.frozen? ⟨g,i,A⟩=Z
theorem J6.start(Q:Nat->Prop)(w:Y)(m:Nat):J6 Q w w.heap.size m [] (w.alloc (Za (Zm #[E D 0,E D 0,E D 0,C A 0 0,E D 0,C A 0 0,C A 0 0] (m*7)) 27)):=by
 refine⟨(X _ _).alloc (N _) _,by simp,fun q h=>absurd h (by simp),fun z h=>(by cases h),fun i hi=>?_,fun i=>by simp[go_sem]⟩;have a:i<(Zm #[E D 0,E D 0,E D 0,C A 0 0,E D 0,C A 0 0,C A 0 0] (m*7)).size:=by rw[size_madeCells];exact hi
 refine⟨(Zm #[E D 0,E D 0,E D 0,C A 0 0,E D 0,C A 0 0,C A 0 0] (m*7))[i],?_⟩;simp[go_sem,a]
theorem J6.below{wr':Y}{m:Nat}(h:J6 Q w g m zs wr)(hb:Zc wr.heap.size wr wr'):J6 Q w g m zs wr':=⟨h.bel.trans (hb.mono h.bel.size),Nat.lt_of_lt_of_le h.lt hb.size,fun q hq=>(h.is q hq).below hb,fun z hz=>⟨(h.ins z hz).1.below hb,(h.ins z hz).2⟩,fun i hi=>by obtain⟨v,hv⟩:=h.any i hi;exact⟨v,F hb hv⟩,fun i=>(hb.frozen (p:=⟨g,i,A⟩) h.lt).trans (h.fz i)⟩
theorem J6.step{m:Nat}{z:TT}(h:J6 Q w g m zs wr)(hg:w.heap.size<=g)(hz:z.In wr)(p:z.Bl (fun b=>b≠g/\Q b))(hm:zs.length<m):J6 Q w g m (zs++[z]) (Ut wr g (zs.length*7) z):=by
 have k:=Lp (w:=wr) (J:=g) (o:=zs.length*7) (x:=z);refine⟨?_,by rw[Lo];exact h.lt,fun q l=>?_,fun y c=>?_,fun i hi=>?_,fun i=>?_⟩
 .exact h.bel.trans ((k.below (by simp) (Nat.le_of_lt h.lt)).mono hg)
 .have hcell:∀i,i<7->∃v,cL wr g (q*7+i) v:=fun i hi=>h.any _ (by simp at l;omega);by_cases e:q=zs.length
  .subst e;have d:(zs++[z])[zs.length]=z:=by simp
   rw[d];obtain⟨v0,h0⟩:=hcell 0 (by omega);obtain⟨v1,h1⟩:=hcell 1 (by omega);obtain⟨v2,r⟩:=hcell 2 (by omega);obtain⟨v3,h3⟩:=hcell 3 (by omega);obtain⟨v4,h4⟩:=hcell 4 (by omega);obtain⟨v5,h5⟩:=hcell 5 (by omega);obtain⟨v6,h6⟩:=hcell 6 (by omega);refine⟨?_,?_,?_,?_,?_,?_,?_⟩
   .simpa using Xa (o:=zs.length*7) z h0
   .simpa using Xa (o:=zs.length*7) z h1
   .simpa using Xa (o:=zs.length*7) z r
   .simpa using Xa (o:=zs.length*7) z h3
   .simpa using Xa (o:=zs.length*7) z h4
   .simpa using Xa (o:=zs.length*7) z h5
   .simpa using Xa (o:=zs.length*7) z h6
  .have hq':q<zs.length:=by simp at l;omega
   have d:(zs++[z])[q]=zs[q]:=by rw[Ze hq']
   rw[d];obtain⟨c0,c1,c2,c3,c4,c5,c6⟩:=h.is q hq';have a:∀i u,i<7->cL wr g (q*7+i) u->cL (Ut wr g (zs.length*7) z) g (q*7+i) u:=by intro i u hi hu;have:=Xa (o:=zs.length*7) z hu;rw[if_neg (by omega),if_neg (by omega),if_neg (by omega),if_neg (by omega),if_neg (by omega),if_neg (by omega),if_neg (by omega)] at this;exact this
   exact⟨a 0 _ (by omega) c0,a 1 _ (by omega) c1,a 2 _ (by omega) c2,a 3 _ (by omega) c3,a 4 _ (by omega) c4,a 5 _ (by omega) c5,a 6 _ (by omega) c6⟩
 .rcases Zg.1 c with c|c
  .exact⟨(h.ins y c).1.keptR k ((h.ins y c).2.mono fun b j=>j.1),(h.ins y c).2⟩
  .rcases Zk.1 c with rfl;exact⟨hz.keptR k (p.mono fun b j=>j.1),p⟩
 .obtain⟨v,hv⟩:=h.any i hi;exact⟨_,Xa z hv⟩
 .simp only[Ut,World.frozen?_setCell];exact h.fz i
theorem J6.tree{m:Nat}(h:J6 Q w g m zs wr)(hQ:Q g)(k n:Int)(t f:Tr)(c:Nat)(ht:t.In wr)(hf:f.In wr)(bt:t.Bl Q)(bf:f.Bl Q):
  (TT.mk k n t f (K ⟨g,0,A⟩) c zs).In wr/\(TT.mk k n t f (K ⟨g,0,A⟩) c zs).Bl Q:=
 ⟨TT.In_mk.2 ⟨ht,hf,fun j hj=>⟨g,0,rfl,by simpa using h.is j hj⟩,fun x hx=>(h.ins x hx).1⟩,TT.Bl_mk.2 ⟨bt,bf,fun _ y hy=>by cases hy;exact hQ,fun x hx=>(h.ins x hx).2.mono fun b hb=>hb.2⟩⟩
theorem Tryz.info27c:(Zb.info? 27).map (fun i=>(i.zero,i.size,i.bytes))=K (K (.agg #[E D 0,E D 0,E D 0,C A 0 0,E D 0,C A 0 0,C A 0 0]),7,104):=by kernel_rfl
theorem Cy(n:Nat)(g:n<=1000)(w:Y):(Instr.makeSlice 25 (E D (n:Int)) (E D (n:Int))).run Zb w=.ok (C (K ⟨w.heap.size,0,A⟩) n n) (w.alloc (Za (Zm #[E D 0,E D 0,E D 0,C A 0 0,E D 0,C A 0 0,C A 0 0] (n*7)) 27)):=by obtain⟨e,d,b,c,a⟩:=info_parts Tryz.info27c;have h:=run_make (P:=Zb) w 25 27 e _ Zd d b D D (n:Int) (n:Int) (by omega) (by omega) (by rw[a];omega) (by omega);rw[h,c];rfl
theorem R8(Q:Nat->Prop)(d:List Rd)(a:Option Addr)(c:Nat)(U:Tr)(w:Y)(hr:RL w a d)(hU:U.In w)(hl:d.length=U.l.length)(h3:d.length<=1000)(a9:∀r,r∈d->r.i.right/\r.i.hgt<=1000/\r.i.sm)(hu:∀u,u∈U.l->u.right/\u.hgt<=1000)
  (hQ:∀b,w.heap.size<=b->Q b) (al:∀r,r∈d->r.y.Bl Q) :
  Calls Zb 70 #[C a d.length c,C U.a U.l.length U.c] w fun e w'=>∃zs:List TT,e=.returned (C (K ⟨w.heap.size,0,A⟩) d.length d.length)/\J6 Q w w.heap.size d.length zs w'/\zs.length=d.length/\∀q(h:q<zs.length)(h1:q<d.length)(h2:q<U.l.length),zs[q].tm=Jd d[q].n d[q].y.tm d[q].i.ty U.l[q].ty:=by
 have bc:=Cy d.length h3;have HF:Hid (∀j(h:j<d.length)(h':j<U.l.length)(W:Y),d[j].y.In W->d[j].i.In W->U.l[j].In W->Calls Zb 109 #[.agg #[E D d[j].n,E D d[j].y.k,E D d[j].y.n,E D d[j].y.t.k,d[j].y.t.s,E D d[j].y.f.k,d[j].y.f.s,d[j].y.s,E D d[j].i.k,d[j].i.s],.agg U.l[j].v] W (Sk d[j] U.l[j] W)):=fun j h h' W h0 h1 h2=>Bv _ _ W h2 h1 h0 (a9 _ (M h)).2.1 (a9 _ (M h)).2.2 (a9 _ (M h)).1 (hu _ (M h')).1 (hu _ (M h')).2
 have HR:=Yx hr;have HU:=Yx hU;have HL:=Yx hl;have af:=Un hQ al;have HT:=Yx (J6.start Q w d.length);clear hr hU hl a9 hu hQ al;go_enter func70,ntmps70;go_wp2_with fail;go_loopg [13] d.length (fun g i wr=>∃(j:Nat)(zs:List TT),g+j=d.length/\i=E D (j:Int)/\Hid (J6 Q w w.heap.size d.length zs wr/\zs.length=j/\∀q(h:q<zs.length)(h1:q<d.length)(h2:q<U.l.length),zs[q].tm=Jd d[q].n d[q].y.tm d[q].i.ty U.l[q].ty))
 case atStart=>exact⟨0,[],by omega,rfl,HT.out,rfl,fun q h=>absurd h (by simp)⟩
 case round=>
  obtain⟨j,zs,hj,rfl,HQ⟩:=hrel;by_cases hlt:j<d.length
  .have hlt':j<U.l.length:=HL.out▸hlt;obtain⟨b,o,ea,ap,hy,hi⟩:=HR.out j hlt;obtain⟨b',o',eb,u0,u1,hu⟩:=HU.out.part j hlt';have hb:=HQ.out.1.bel;have ba:b'<w.heap.size:=T _ _ u0;have ay:=ap.below hb;obtain⟨d0,⟨d1,d2,d3,d4,d5,d6,d7⟩,d8,d9⟩:=ay;replace u0:=F hb u0;replace u1:=F hb u1;have i1:(j:Int)<(d.length:Int):=by omega
   have i2:(j:Int)<(U.l.length:Int):=by omega
   have i0:(0:Int)<=(j:Int):=by omega
   have av:=Yx ea;have az:=Yx eb;rw[ea,eb];clear ea eb;obtain⟨r,ae⟩:∃r,d[j]=r:=⟨_,rfl⟩
   obtain⟨u,ad⟩:∃u,U.l[j]=u:=⟨_,rfl⟩
   have HC:=HF.out j hlt hlt';have ac:=hy.bl;have aa:=af.out.2 _ (M hlt);rw[ae] at d0 d1 d2 d3 d4 d5 d6 d7 d8 d9 hy hi HC ac aa;rw[ad] at u0 u1 hu HC;have aq:=Un ae ad;obtain⟨OX,x⟩:∃O,O=Obj.cells #[E D r.n,E D r.y.k,E D r.y.n,E D r.y.t.k,r.y.t.s,E D r.y.f.k,r.y.f.s,r.y.s,E D r.i.k,r.i.s] 64:=⟨_,rfl⟩
   have a7:bL wr (wr.alloc OX):=(X _ _).alloc (N _) _;have b0:(wr.alloc OX).cell? ⟨wr.heap.size,0,A⟩=K (E D r.n):=by subst x;simp[go_sem]
   have b1:(wr.alloc OX).cell? ⟨wr.heap.size,1,A⟩=K (E D r.y.k):=by subst x;simp[go_sem]
   have b2:(wr.alloc OX).cell? ⟨wr.heap.size,2,A⟩=K (E D r.y.n):=by subst x;simp[go_sem]
   have b3:(wr.alloc OX).cell? ⟨wr.heap.size,3,A⟩=K (E D r.y.t.k):=by subst x;simp[go_sem]
   have b4:(wr.alloc OX).cell? ⟨wr.heap.size,4,A⟩=K (C r.y.t.a r.y.t.l.length r.y.t.c):=by subst x;simp[go_sem]
   have b5:(wr.alloc OX).cell? ⟨wr.heap.size,5,A⟩=K (E D r.y.f.k):=by subst x;simp[go_sem]
   have b6:(wr.alloc OX).cell? ⟨wr.heap.size,6,A⟩=K (C r.y.f.a r.y.f.l.length r.y.f.c):=by subst x;simp[go_sem]
   have b7:(wr.alloc OX).cell? ⟨wr.heap.size,7,A⟩=K (C r.y.a r.y.l.length r.y.c):=by subst x;simp[go_sem]
   have b8:(wr.alloc OX).cell? ⟨wr.heap.size,8,A⟩=K (E D r.i.k):=by subst x;simp[go_sem]
   have b9:(wr.alloc OX).cell? ⟨wr.heap.size,9,A⟩=K (C r.i.a r.i.l.length r.i.c):=by subst x;simp[go_sem]
   have v0:=F a7 u0;have v1:=F a7 u1;have a8:=hb.trans (a7.mono hb.size);have ab:=Yx (HQ.out.1.below a7);have HZ:=Yx HQ.out.2;have HI:Hid (r.y.In (wr.alloc OX)/\r.i.In (wr.alloc OX)/\u.In (wr.alloc OX)/\r.y.Bl (fun b=>b≠w.heap.size/\Q b)):=⟨hy.below a8,hi.below a8,hu.below a8,(ac.and aa).mono fun b hb=>⟨by omega,hb.2⟩⟩
   have ar:=Yx HC;have aw:=HQ.out.1.lt;have nw:wr.heap.size≠w.heap.size:=by omega
   have au:b'≠w.heap.size:=by omega
   have HJ:=Un hlt ab.out.lt;clear a7 u0 u1 hi hu ap hy HQ a8 ac aa HC ae ad aw hb;subst x;go_wp2_with fail;clear d0 d1 d2 d3 d4 d5 d6 d7 d8 d9;generalize (wr.alloc (Za #[E D r.n,E D r.y.k,E D r.y.n,E D r.y.t.k,r.y.t.s,E D r.y.f.k,r.y.f.s,r.y.s,E D r.i.k,r.i.s] 64))=WA at *;have HS:Hid (∀w2,bL WA.drew w2->cL w2 wr.heap.size 0 (E D r.n)/\cL w2 wr.heap.size 1 (E D r.y.k)/\cL w2 wr.heap.size 2 (E D r.y.n)/\cL w2 wr.heap.size 3 (E D r.y.t.k)/\cL w2 wr.heap.size 4 (r.y.t.s)/\cL w2 wr.heap.size 5 (E D r.y.f.k)/\cL w2 wr.heap.size 6 (r.y.f.s)/\cL w2 wr.heap.size 7 (r.y.s)/\cL w2 wr.heap.size 8 (E D r.i.k)/\cL w2 wr.heap.size 9 (r.i.s)/\cL w2 b' (o'+j*2) (E D u.k)/\cL w2 b' (o'+j*2+1) (u.s)):=fun w2 l=>⟨F l b0,F l b1,F l b2,F l b3,F l b4,F l b5,F l b6,F l b7,F l b8,F l b9,F l v0,F l v1⟩
   have ax:Hid (∀w2,bL WA.drew w2->(∃v,cL w2 w.heap.size (j*7) v)/\(∃v,cL w2 w.heap.size (j*7+1) v)/\(∃v,cL w2 w.heap.size (j*7+2) v)/\(∃v,cL w2 w.heap.size (j*7+3) v)/\(∃v,cL w2 w.heap.size (j*7+4) v)/\(∃v,cL w2 w.heap.size (j*7+5) v)/\(∃v,cL w2 w.heap.size (j*7+6) v)/\w2.frozen? ⟨w.heap.size,j*7,A⟩=Z/\w2.frozen? ⟨w.heap.size,j*7+1,A⟩=Z/\w2.frozen? ⟨w.heap.size,j*7+2,A⟩=Z/\w2.frozen? ⟨w.heap.size,j*7+3,A⟩=Z/\w2.frozen? ⟨w.heap.size,j*7+4,A⟩=Z/\w2.frozen? ⟨w.heap.size,j*7+5,A⟩=Z/\w2.frozen? ⟨w.heap.size,j*7+6,A⟩=Z/\Hid (J6 Q w w.heap.size d.length zs w2)):=by
    intro w2 l;have p:=ab.out.below (((X _ _).drew).trans (l.mono (N _)));have bb:j*7+6<d.length*7:=by have:=HJ.out.1;omega
    exact⟨p.any _ (by omega),p.any _ (by omega),p.any _ (by omega),p.any _ (by omega),p.any _ (by omega),p.any _ (by omega),p.any _ (by omega),p.fz _,p.fz _,p.fz _,p.fz _,p.fz _,p.fz _,p.fz _,p⟩
   have ak:=Dd b0 b1 b2 b3 b4 b5 b6 b7 b8 b9 v0 v1;have ah:Hid (WA.drew.cell? ⟨wr.heap.size,0,A⟩=K (E D r.n)/\WA.drew.cell? ⟨wr.heap.size,1,A⟩=K (E D r.y.k)/\WA.drew.cell? ⟨wr.heap.size,2,A⟩=K (E D r.y.n)/\WA.drew.cell? ⟨wr.heap.size,3,A⟩=K (E D r.y.t.k)/\WA.drew.cell? ⟨wr.heap.size,4,A⟩=K (C r.y.t.a r.y.t.l.length r.y.t.c)/\WA.drew.cell? ⟨wr.heap.size,5,A⟩=K (E D r.y.f.k)/\WA.drew.cell? ⟨wr.heap.size,6,A⟩=K (C r.y.f.a r.y.f.l.length r.y.f.c)/\WA.drew.cell? ⟨wr.heap.size,7,A⟩=K (C r.y.a r.y.l.length r.y.c)/\WA.drew.cell? ⟨wr.heap.size,8,A⟩=K (E D r.i.k)/\WA.drew.cell? ⟨wr.heap.size,9,A⟩=K (C r.i.a r.i.l.length r.i.c)/\WA.drew.cell? ⟨b',o'+j*2,A⟩=K (E D u.k)/\WA.drew.cell? ⟨b',o'+j*2+1,A⟩=K (C u.a u.l.length u.c)):=⟨b0,b1,b2,b3,b4,b5,b6,b7,b8,b9,v0,v1⟩
   have aj:Hid (∀w2 a0 a1 a2 a3 a4 a5 a6,Zc WA.drew.heap.size WA.drew w2->(((((((w2.setCell ⟨w.heap.size,j*7,A⟩ a0).setCell ⟨w.heap.size,j*7+1,A⟩ a1).setCell ⟨w.heap.size,j*7+2,A⟩ a2).setCell ⟨w.heap.size,j*7+3,A⟩ a3).setCell ⟨w.heap.size,j*7+4,A⟩ a4).setCell ⟨w.heap.size,j*7+5,A⟩ a5).setCell ⟨w.heap.size,j*7+6,A⟩ a6).cell? ⟨wr.heap.size,0,A⟩=K (E D r.n)/\(((((((w2.setCell ⟨w.heap.size,j*7,A⟩ a0).setCell ⟨w.heap.size,j*7+1,A⟩ a1).setCell ⟨w.heap.size,j*7+2,A⟩ a2).setCell ⟨w.heap.size,j*7+3,A⟩ a3).setCell ⟨w.heap.size,j*7+4,A⟩ a4).setCell ⟨w.heap.size,j*7+5,A⟩ a5).setCell ⟨w.heap.size,j*7+6,A⟩ a6).cell? ⟨wr.heap.size,1,A⟩=K (E D r.y.k)/\(((((((w2.setCell ⟨w.heap.size,j*7,A⟩ a0).setCell ⟨w.heap.size,j*7+1,A⟩ a1).setCell ⟨w.heap.size,j*7+2,A⟩ a2).setCell ⟨w.heap.size,j*7+3,A⟩ a3).setCell ⟨w.heap.size,j*7+4,A⟩ a4).setCell ⟨w.heap.size,j*7+5,A⟩ a5).setCell ⟨w.heap.size,j*7+6,A⟩ a6).cell? ⟨wr.heap.size,2,A⟩=K (E D r.y.n)/\(((((((w2.setCell ⟨w.heap.size,j*7,A⟩ a0).setCell ⟨w.heap.size,j*7+1,A⟩ a1).setCell ⟨w.heap.size,j*7+2,A⟩ a2).setCell ⟨w.heap.size,j*7+3,A⟩ a3).setCell ⟨w.heap.size,j*7+4,A⟩ a4).setCell ⟨w.heap.size,j*7+5,A⟩ a5).setCell ⟨w.heap.size,j*7+6,A⟩ a6).cell? ⟨wr.heap.size,3,A⟩=K (E D r.y.t.k)/\(((((((w2.setCell ⟨w.heap.size,j*7,A⟩ a0).setCell ⟨w.heap.size,j*7+1,A⟩ a1).setCell ⟨w.heap.size,j*7+2,A⟩ a2).setCell ⟨w.heap.size,j*7+3,A⟩ a3).setCell ⟨w.heap.size,j*7+4,A⟩ a4).setCell ⟨w.heap.size,j*7+5,A⟩ a5).setCell ⟨w.heap.size,j*7+6,A⟩ a6).cell? ⟨wr.heap.size,4,A⟩=K (C r.y.t.a r.y.t.l.length r.y.t.c)/\(((((((w2.setCell ⟨w.heap.size,j*7,A⟩ a0).setCell ⟨w.heap.size,j*7+1,A⟩ a1).setCell ⟨w.heap.size,j*7+2,A⟩ a2).setCell ⟨w.heap.size,j*7+3,A⟩ a3).setCell ⟨w.heap.size,j*7+4,A⟩ a4).setCell ⟨w.heap.size,j*7+5,A⟩ a5).setCell ⟨w.heap.size,j*7+6,A⟩ a6).cell? ⟨wr.heap.size,5,A⟩=K (E D r.y.f.k)/\(((((((w2.setCell ⟨w.heap.size,j*7,A⟩ a0).setCell ⟨w.heap.size,j*7+1,A⟩ a1).setCell ⟨w.heap.size,j*7+2,A⟩ a2).setCell ⟨w.heap.size,j*7+3,A⟩ a3).setCell ⟨w.heap.size,j*7+4,A⟩ a4).setCell ⟨w.heap.size,j*7+5,A⟩ a5).setCell ⟨w.heap.size,j*7+6,A⟩ a6).cell? ⟨wr.heap.size,6,A⟩=K (C r.y.f.a r.y.f.l.length r.y.f.c)/\(((((((w2.setCell ⟨w.heap.size,j*7,A⟩ a0).setCell ⟨w.heap.size,j*7+1,A⟩ a1).setCell ⟨w.heap.size,j*7+2,A⟩ a2).setCell ⟨w.heap.size,j*7+3,A⟩ a3).setCell ⟨w.heap.size,j*7+4,A⟩ a4).setCell ⟨w.heap.size,j*7+5,A⟩ a5).setCell ⟨w.heap.size,j*7+6,A⟩ a6).cell? ⟨wr.heap.size,7,A⟩=K (C r.y.a r.y.l.length r.y.c)/\(((((((w2.setCell ⟨w.heap.size,j*7,A⟩ a0).setCell ⟨w.heap.size,j*7+1,A⟩ a1).setCell ⟨w.heap.size,j*7+2,A⟩ a2).setCell ⟨w.heap.size,j*7+3,A⟩ a3).setCell ⟨w.heap.size,j*7+4,A⟩ a4).setCell ⟨w.heap.size,j*7+5,A⟩ a5).setCell ⟨w.heap.size,j*7+6,A⟩ a6).cell? ⟨wr.heap.size,8,A⟩=K (E D r.i.k)/\(((((((w2.setCell ⟨w.heap.size,j*7,A⟩ a0).setCell ⟨w.heap.size,j*7+1,A⟩ a1).setCell ⟨w.heap.size,j*7+2,A⟩ a2).setCell ⟨w.heap.size,j*7+3,A⟩ a3).setCell ⟨w.heap.size,j*7+4,A⟩ a4).setCell ⟨w.heap.size,j*7+5,A⟩ a5).setCell ⟨w.heap.size,j*7+6,A⟩ a6).cell? ⟨wr.heap.size,9,A⟩=K (C r.i.a r.i.l.length r.i.c)/\(((((((w2.setCell ⟨w.heap.size,j*7,A⟩ a0).setCell ⟨w.heap.size,j*7+1,A⟩ a1).setCell ⟨w.heap.size,j*7+2,A⟩ a2).setCell ⟨w.heap.size,j*7+3,A⟩ a3).setCell ⟨w.heap.size,j*7+4,A⟩ a4).setCell ⟨w.heap.size,j*7+5,A⟩ a5).setCell ⟨w.heap.size,j*7+6,A⟩ a6).cell? ⟨b',o'+j*2,A⟩=K (E D u.k)/\(((((((w2.setCell ⟨w.heap.size,j*7,A⟩ a0).setCell ⟨w.heap.size,j*7+1,A⟩ a1).setCell ⟨w.heap.size,j*7+2,A⟩ a2).setCell ⟨w.heap.size,j*7+3,A⟩ a3).setCell ⟨w.heap.size,j*7+4,A⟩ a4).setCell ⟨w.heap.size,j*7+5,A⟩ a5).setCell ⟨w.heap.size,j*7+6,A⟩ a6).cell? ⟨b',o'+j*2+1,A⟩=K (C u.a u.l.length u.c)):=by
    intro w2 a0 a1 a2 a3 a4 a5 a6 l;have hp:∀k o,k≠w.heap.size->(((((((w2.setCell ⟨w.heap.size,j*7,A⟩ a0).setCell ⟨w.heap.size,j*7+1,A⟩ a1).setCell ⟨w.heap.size,j*7+2,A⟩ a2).setCell ⟨w.heap.size,j*7+3,A⟩ a3).setCell ⟨w.heap.size,j*7+4,A⟩ a4).setCell ⟨w.heap.size,j*7+5,A⟩ a5).setCell ⟨w.heap.size,j*7+6,A⟩ a6).cell? ⟨k,o,A⟩=w2.cell? ⟨k,o,A⟩:=by intro k o hk;have y:w.heap.size≠k:=fun e=>hk e.symm;rw[L _ _ _ _ (fun e=>y (congrArg Addr.block e)),L _ _ _ _ (fun e=>y (congrArg Addr.block e)),L _ _ _ _ (fun e=>y (congrArg Addr.block e)),L _ _ _ _ (fun e=>y (congrArg Addr.block e)),L _ _ _ _ (fun e=>y (congrArg Addr.block e)),L _ _ _ _ (fun e=>y (congrArg Addr.block e)),L _ _ _ _ (fun e=>y (congrArg Addr.block e))]
    have hq:=HS.out _ l;exact⟨(hp _ _ nw).trans hq.1,(hp _ _ nw).trans hq.2.1,(hp _ _ nw).trans hq.2.2.1,(hp _ _ nw).trans hq.2.2.2.1,(hp _ _ nw).trans hq.2.2.2.2.1,(hp _ _ nw).trans hq.2.2.2.2.2.1,(hp _ _ nw).trans hq.2.2.2.2.2.2.1,(hp _ _ nw).trans hq.2.2.2.2.2.2.2.1,(hp _ _ nw).trans hq.2.2.2.2.2.2.2.2.1,(hp _ _ nw).trans hq.2.2.2.2.2.2.2.2.2.1,(hp _ _ au).trans hq.2.2.2.2.2.2.2.2.2.2.1,(hp _ _ au).trans hq.2.2.2.2.2.2.2.2.2.2.2⟩
   clear b0 b1 b2 b3 b4 b5 b6 b7 b8 b9 v0 v1;go_region_held3 (fun w'=>w'.cell? ⟨wr.heap.size,0,A⟩=K (E D r.n)/\w'.cell? ⟨wr.heap.size,1,A⟩=K (E D r.y.k)/\w'.cell? ⟨wr.heap.size,2,A⟩=K (E D r.y.n)/\w'.cell? ⟨wr.heap.size,3,A⟩=K (E D r.y.t.k)/\w'.cell? ⟨wr.heap.size,4,A⟩=K (C r.y.t.a r.y.t.l.length r.y.t.c)/\w'.cell? ⟨wr.heap.size,5,A⟩=K (E D r.y.f.k)/\w'.cell? ⟨wr.heap.size,6,A⟩=K (C r.y.f.a r.y.f.l.length r.y.f.c)/\w'.cell? ⟨wr.heap.size,7,A⟩=K (C r.y.a r.y.l.length r.y.c)/\w'.cell? ⟨wr.heap.size,8,A⟩=K (E D r.i.k)/\w'.cell? ⟨wr.heap.size,9,A⟩=K (C r.i.a r.i.l.length r.i.c)/\w'.cell? ⟨b',o'+j*2,A⟩=K (E D u.k)/\w'.cell? ⟨b',o'+j*2+1,A⟩=K (C u.a u.l.length u.c))
    (first|(with_reducible exact ak.out)|(with_reducible exact ah.out)|(with_reducible exact HS.out _ l)|(with_reducible exact aj.out _ _ _ _ _ _ _ _ l))
    (first|(go_at_call 109;refine(ar.out _ (HI.out.1.below ((X _ _).drew)) (HI.out.2.1.below ((X _ _).drew)) (HI.out.2.2.1.below ((X _ _).drew))).mono ?_;rintro e w2 ⟨z,rfl,hz,ai,am,l⟩;obtain⟨⟨y0,x0⟩,⟨y1,x1⟩,⟨y2,x2⟩,⟨y3,x3⟩,⟨y4,x4⟩,⟨y5,x5⟩,⟨y6,x6⟩,f0,f1,f2,f3,f4,f5,f6,an⟩:=ax.out w2 l))
   have HN:Hid (J6 Q w w.heap.size d.length (zs++[z]) (Ut w2 w.heap.size (j*7) z)/\(zs++[z]).length=j+1/\∀q(h:q<(zs++[z]).length)(h1:q<d.length)(h2:q<U.l.length),(zs++[z])[q].tm=Jd d[q].n d[q].y.tm d[q].i.ty U.l[q].ty):=by
    have ao:=an.out.step (z:=z) (N _) ai (am _ (fun b hb=>⟨by have:=HJ.out.2;have:w.heap.size<WA.drew.heap.size:=this;omega,af.out.1 b (by have:=HJ.out.2;have:w.heap.size<WA.drew.heap.size:=this;omega)⟩) HI.out.2.2.2) (by rw[HZ.out.1];exact HJ.out.1);rw[HZ.out.1] at ao;refine⟨ao,by simp[HZ.out.1],fun q hq h1 h2=>?_⟩;by_cases e:q=j
    .subst e;have:(zs++[z])[q]=z:=by rw[List.getElem_append_right (by rw[HZ.out.1];exact N _)];simp[HZ.out.1]
     rw[this,hz,aq.out.1,aq.out.2]
    .have hq':q<zs.length:=by rw[Zl,List.length_singleton] at hq;have:=HZ.out.1;omega
     rw[Ze hq'];exact HZ.out.2 q hq' h1 h2
   clear hz ai am l ab HZ HI ar HS ak ah aj an x0 x1 x2 x3 x4 x5 x6 f0 f1 f2 f3 f4 f5 f6;go_wp2_with fail;rw[<-av.out,<-az.out];go_roundg (d.length-(j+1))
   case measure=>omega
   case rel=>exact⟨j+1,zs++[z],by omega,by go_num,HN⟩
  .have HE:=HQ;clear HQ;have HJ:Hid (j=d.length):=by show j=d.length;omega
   go_wp2_with fail;go_ret;exact⟨zs,rfl,HE.out.1,HE.out.2.1.trans HJ.out,HE.out.2.2⟩
structure RF(H:Nat)(x:TT)(W:Y):Prop where
 at7:X4 W H 0 x
 z0:W.cell? ⟨H+1,0,A⟩=K (E D 0)
 z1:W.cell? ⟨H+1,1,A⟩=K (E D 0)
 z2:W.cell? ⟨H+1,2,A⟩=K (E D 0)
 z3:W.cell? ⟨H+1,3,A⟩=K (E D 0)
 z4:W.cell? ⟨H+1,4,A⟩=K (C A 0 0)
 z5:W.cell? ⟨H+1,5,A⟩=K (E D 0)
 z6:W.cell? ⟨H+1,6,A⟩=K (C A 0 0)
 z7:W.cell? ⟨H+1,7,A⟩=K (C A 0 0)
 z8:W.cell? ⟨H+1,8,A⟩=K (E D 0)
 z9:W.cell? ⟨H+1,9,A⟩=K (C A 0 0)
 fz:∀i,W.frozen? ⟨H+1,i,A⟩=Z
theorem RF.lt(h:RF H x W):H+1<W.heap.size:=T _ _ h.z0
theorem RF.kept{R:Nat}(h:RF H x W)(hk:Yi R A W W')(h1:H≠R)(h2:H+1≠R):RF H x W':=⟨h.at7.keptR hk h1,hk.cell h.z0 h2,hk.cell h.z1 h2,hk.cell h.z2 h2,hk.cell h.z3 h2,hk.cell h.z4 h2,hk.cell h.z5 h2,hk.cell h.z6 h2,hk.cell h.z7 h2,hk.cell h.z8 h2,hk.cell h.z9 h2,fun i=>hk.fz (h.fz i) h.lt h2⟩
theorem RF.below(h:RF H x W)(hb:Zc W.heap.size W W'):RF H x W':=⟨h.at7.below hb,F hb h.z0,F hb h.z1,F hb h.z2,F hb h.z3,F hb h.z4,F hb h.z5,F hb h.z6,F hb h.z7,F hb h.z8,F hb h.z9,fun i=>(hb.frozen (p:=⟨H+1,i,A⟩) h.lt).trans (h.fz i)⟩
theorem RF.start(x:TT)(w:Y):RF w.heap.size x ((w.alloc (Za #[E D x.k,E D x.n,E D x.t.k,C x.t.a x.t.l.length x.t.c,E D x.f.k,C x.f.a x.f.l.length x.f.c,C x.a x.l.length x.c] 27)).alloc (Za #[E D 0,E D 0,E D 0,E D 0,C A 0 0,E D 0,C A 0 0,C A 0 0,E D 0,C A 0 0] 64)):=by
 refine⟨⟨?_,?_,?_,?_,?_,?_,?_⟩,?_,?_,?_,?_,?_,?_,?_,?_,?_,?_,fun i=>?_⟩
 all_goals simp[go_sem]
def UU(w:Y)(J:Nat)(v0 v1 v2 v3 v4 v5 v6 v7 v8 v9:Zi):Y:=(((((((((w.setCell ⟨J,0,A⟩ v0).setCell ⟨J,1,A⟩ v1).setCell ⟨J,2,A⟩ v2).setCell ⟨J,3,A⟩ v3).setCell ⟨J,4,A⟩ v4).setCell ⟨J,5,A⟩ v5).setCell ⟨J,6,A⟩ v6).setCell ⟨J,7,A⟩ v7).setCell ⟨J,8,A⟩ v8).setCell ⟨J,9,A⟩ v9
theorem Up{i:Nat}{u v0 v1 v2 v3 v4 v5 v6 v7 v8 v9:Zi}(hu:w.cell? ⟨J,i,A⟩=K u):(UU w J v0 v1 v2 v3 v4 v5 v6 v7 v8 v9).cell? ⟨J,i,A⟩=K (if i=9 then v9 else if i=8 then v8 else if i=7 then v7 else if i=6 then v6 else if i=5 then v5 else if i=4 then v4 else if i=3 then v3 else if i=2 then v2 else if i=1 then v1 else if i=0 then v0 else u):=Yp (Yp (Yp (Yp (Yp (Yp (Yp (Yp (Yp (Yp hu)))))))))
theorem K7{v0 v1 v2 v3 v4 v5 v6 v7 v8 v9:Zi}:Yi J A w (UU w J v0 v1 v2 v3 v4 v5 v6 v7 v8 v9):=Yj.trans (Yj.trans (Yj.trans (Yj.trans (Yj.trans (Yj.trans (Yj.trans (Yj.trans (Yj.trans Yj))))))))
theorem RF.put(h:RF H x W)(v0 v1 v2 v3 v4 v5 v6 v7 v8 v9:Zi):
  (UU W (H+1) v0 v1 v2 v3 v4 v5 v6 v7 v8 v9).cell? ⟨H+1,0,A⟩=K v0/\(UU W (H+1) v0 v1 v2 v3 v4 v5 v6 v7 v8 v9).cell? ⟨H+1,1,A⟩=K v1/\(UU W (H+1) v0 v1 v2 v3 v4 v5 v6 v7 v8 v9).cell? ⟨H+1,2,A⟩=K v2/\(UU W (H+1) v0 v1 v2 v3 v4 v5 v6 v7 v8 v9).cell? ⟨H+1,3,A⟩=K v3/\(UU W (H+1) v0 v1 v2 v3 v4 v5 v6 v7 v8 v9).cell? ⟨H+1,4,A⟩=K v4/\(UU W (H+1) v0 v1 v2 v3 v4 v5 v6 v7 v8 v9).cell? ⟨H+1,5,A⟩=K v5/\(UU W (H+1) v0 v1 v2 v3 v4 v5 v6 v7 v8 v9).cell? ⟨H+1,6,A⟩=K v6/\(UU W (H+1) v0 v1 v2 v3 v4 v5 v6 v7 v8 v9).cell? ⟨H+1,7,A⟩=K v7/\(UU W (H+1) v0 v1 v2 v3 v4 v5 v6 v7 v8 v9).cell? ⟨H+1,8,A⟩=K v8/\(UU W (H+1) v0 v1 v2 v3 v4 v5 v6 v7 v8 v9).cell? ⟨H+1,9,A⟩=K v9:=by
 refine⟨?_,?_,?_,?_,?_,?_,?_,?_,?_,?_⟩
 .simpa using Up (v0:=v0) (v1:=v1) (v2:=v2) (v3:=v3) (v4:=v4) (v5:=v5) (v6:=v6) (v7:=v7) (v8:=v8) (v9:=v9) h.z0
 .simpa using Up (v0:=v0) (v1:=v1) (v2:=v2) (v3:=v3) (v4:=v4) (v5:=v5) (v6:=v6) (v7:=v7) (v8:=v8) (v9:=v9) h.z1
 .simpa using Up (v0:=v0) (v1:=v1) (v2:=v2) (v3:=v3) (v4:=v4) (v5:=v5) (v6:=v6) (v7:=v7) (v8:=v8) (v9:=v9) h.z2
 .simpa using Up (v0:=v0) (v1:=v1) (v2:=v2) (v3:=v3) (v4:=v4) (v5:=v5) (v6:=v6) (v7:=v7) (v8:=v8) (v9:=v9) h.z3
 .simpa using Up (v0:=v0) (v1:=v1) (v2:=v2) (v3:=v3) (v4:=v4) (v5:=v5) (v6:=v6) (v7:=v7) (v8:=v8) (v9:=v9) h.z4
 .simpa using Up (v0:=v0) (v1:=v1) (v2:=v2) (v3:=v3) (v4:=v4) (v5:=v5) (v6:=v6) (v7:=v7) (v8:=v8) (v9:=v9) h.z5
 .simpa using Up (v0:=v0) (v1:=v1) (v2:=v2) (v3:=v3) (v4:=v4) (v5:=v5) (v6:=v6) (v7:=v7) (v8:=v8) (v9:=v9) h.z6
 .simpa using Up (v0:=v0) (v1:=v1) (v2:=v2) (v3:=v3) (v4:=v4) (v5:=v5) (v6:=v6) (v7:=v7) (v8:=v8) (v9:=v9) h.z7
 .simpa using Up (v0:=v0) (v1:=v1) (v2:=v2) (v3:=v3) (v4:=v4) (v5:=v5) (v6:=v6) (v7:=v7) (v8:=v8) (v9:=v9) h.z8
 .simpa using Up (v0:=v0) (v1:=v1) (v2:=v2) (v3:=v3) (v4:=v4) (v5:=v5) (v6:=v6) (v7:=v7) (v8:=v8) (v9:=v9) h.z9
def Sn(V:Y)(b:Nat):Prop:=V.cell? ⟨b,0,A⟩=K (E D 0)/\V.cell? ⟨b,1,A⟩=K (C A 0 0)/\V.cell? ⟨b,2,A⟩=K (C A 0 0)/\V.frozen? ⟨b,0,A⟩=Z/\V.frozen? ⟨b,1,A⟩=Z/\V.frozen? ⟨b,2,A⟩=Z
theorem Sn.new(U:Y):Sn (U.alloc (Za #[E D 0,C A 0 0,C A 0 0] 119)) U.heap.size:=by refine⟨?_,?_,?_,?_,?_,?_⟩<;>simp[go_sem]
theorem Sn.later(a:Zc V.heap.size V w)(h:Sn V b):Sn w b:=by obtain⟨d,g,j,k,i,e⟩:=h;have c:b<V.heap.size:=T _ _ d;exact⟨F a d,F a g,F a j,(a.frozen (p:=⟨b,0,A⟩) c).trans k,(a.frozen (p:=⟨b,1,A⟩) c).trans i,(a.frozen (p:=⟨b,2,A⟩) c).trans e⟩
structure Ws(W:Y)(G:Nat)(I U:Tr):Prop where
 k:W.cell? ⟨G,0,A⟩=K (E D I.k)
 l:W.cell? ⟨G,1,A⟩=K (C I.a I.l.length I.c)
 u:W.cell? ⟨G,2,A⟩=K (C U.a U.l.length U.c)
theorem Sn.put(h:Sn W G)(I U:Tr):Ws (((W.setCell ⟨G,0,A⟩ (E D I.k)).setCell ⟨G,1,A⟩ (C I.a I.l.length I.c)).setCell ⟨G,2,A⟩ (C U.a U.l.length U.c)) G I U:=by obtain⟨b,a,c,_⟩:=h;exact⟨by simpa using Yp (j:=2) (v:=U.s) (Yp (j:=1) (v:=I.s) (Yp (j:=0) (v:=E D I.k) b)),by simpa using Yp (j:=2) (v:=U.s) (Yp (j:=1) (v:=I.s) (Yp (j:=0) (v:=E D I.k) a)),by simpa using Yp (j:=2) (v:=U.s) (Yp (j:=1) (v:=I.s) (Yp (j:=0) (v:=E D I.k) c))⟩
theorem Ws.new(W:Y)(I U:Tr):Ws (W.alloc (Za #[E D I.k,C I.a I.l.length I.c,C U.a U.l.length U.c] 119)) W.heap.size I U:=by refine⟨?_,?_,?_⟩<;>simp[go_sem]
theorem Ws.below{I U:Tr}(h:Ws W G I U)(hb:Zc W.heap.size W W'):Ws W' G I U:=⟨F hb h.k,F hb h.l,F hb h.u⟩
theorem Ws.lt{I U:Tr}(h:Ws W G I U):G<W.heap.size:=T _ _ h.k
def KT(V:Y)(b:Nat):Prop:=
 (V.cell? ⟨b,0,A⟩=K (E D 0)/\V.cell? ⟨b,1,A⟩=K (E D 0)/\V.cell? ⟨b,2,A⟩=K (E D 0)/\V.cell? ⟨b,3,A⟩=K (C A 0 0)/\V.cell? ⟨b,4,A⟩=K (E D 0)/\V.cell? ⟨b,5,A⟩=K (C A 0 0)/\V.cell? ⟨b,6,A⟩=K (C A 0 0))/\
  V.frozen? ⟨b,0,A⟩=Z/\V.frozen? ⟨b,1,A⟩=Z/\V.frozen? ⟨b,2,A⟩=Z/\V.frozen? ⟨b,3,A⟩=Z/\V.frozen? ⟨b,4,A⟩=Z/\V.frozen? ⟨b,5,A⟩=Z/\V.frozen? ⟨b,6,A⟩=Z
theorem KT.box(h:KT V b):Xw V b (YJ 0 0):=by
 obtain⟨⟨q,o,g,r,j,p,c⟩,w,e,a,k,d,l,u⟩:=h;refine⟨⟨q,o,g,r,j,p,c⟩,fun i hi=>?_⟩;obtain rfl|rfl|rfl|rfl|rfl|rfl|rfl:i=0\/i=1\/i=2\/i=3\/i=4\/i=5\/i=6:=by omega
 .exact w
 .exact e
 .exact a
 .exact k
 .exact d
 .exact l
 .exact u
theorem KT.lt(h:KT V b):b<V.heap.size:=T _ _ h.1.1
theorem KT.new(U:Y):KT (U.alloc (Za #[E D 0,E D 0,E D 0,C A 0 0,E D 0,C A 0 0,C A 0 0] 27)) U.heap.size:=by refine⟨⟨?_,?_,?_,?_,?_,?_,?_⟩,?_,?_,?_,?_,?_,?_,?_⟩<;>simp[go_sem]
theorem KT.later(a:Zc V.heap.size V w)(h:KT V b):KT w b:=by have c:=h.lt;obtain⟨⟨u,q,j,x,k,r,e⟩,z,i,d,l,g,o,y⟩:=h;exact⟨⟨F a u,F a q,F a j,F a x,F a k,F a r,F a e⟩,(a.frozen (p:=⟨b,0,A⟩) c).trans z,(a.frozen (p:=⟨b,1,A⟩) c).trans i,(a.frozen (p:=⟨b,2,A⟩) c).trans d,(a.frozen (p:=⟨b,3,A⟩) c).trans l,(a.frozen (p:=⟨b,4,A⟩) c).trans g,(a.frozen (p:=⟨b,5,A⟩) c).trans o,(a.frozen (p:=⟨b,6,A⟩) c).trans y⟩
theorem X4.new(W:Y)(x:TT):X4 (W.alloc (Za #[E D x.k,E D x.n,E D x.t.k,C x.t.a x.t.l.length x.t.c,E D x.f.k,C x.f.a x.f.l.length x.f.c,C x.a x.l.length x.c] 27)) W.heap.size 0 x:=by refine⟨?_,?_,?_,?_,?_,?_,?_⟩<;>simp[go_sem]
theorem R6:∀(rs:List Rd)(us:List Tr)(zs:List TT),zs.length=rs.length->rs.length=us.length->(∀r,r∈rs->0<=r.n)->
  (∀q(h:q<zs.length)(h1:q<rs.length)(h2:q<us.length),zs[q].tm=Jd rs[q].n rs[q].y.tm rs[q].i.ty us[q].ty)->zs.map TT.tm=XR (rs.map O1) (us.map Tr.ty)
 |[],[],[],_,_,_,_=>rfl
 |r::rs,u::us,z::zs,h1,h2,hn,h=>by have h0:=h 0 (by simp) (by simp) (by simp);have ih:=R6 rs us zs (by simpa using h1) (by simpa using h2) (fun q hq=>hn q (by simp[hq])) fun q a b d=>h (q+1) (by simpa using a) (by simpa using b) (by simpa using d);have e:=Int.toNat_of_nonneg (hn r (by simp));simp only[List.getElem_cons_zero] at h0;simp[XR,O1,e,h0,ih]
 |[],_::_,_,_,h,_,_=>by simp at h
 |_::_,[],_,_,h,_,_=>by simp at h
 |[],[],_::_,h,_,_,_=>by simp at h
 |_::_,_::_,[],h,_,_,_=>by simp at h
theorem MU(a:List Rd):(a.map O1).map (fun p=>p.2.2)=a.map fun r=>r.i.ty:=by rw[List.map_map];rfl
theorem SW(d:JM x.tm takes.length)(hT:∀u,u∈takes->Ym 4 u=true)(a0:x.sz<=900)(h:Y4 (x.l.map TT.tm) (Yt x.k x.t.ty takes) (c+1)=K (rs.map O1)):
  rs.length=x.l.length/\∀r,r∈rs->Yz ((x.l.map TT.sz).sum+4) r.i=true:=by
 obtain⟨k,n,t,f,a,cc,l⟩:=x;rw[TT.tm_mk] at d;obtain⟨o,h1⟩:=Ke.1 d;obtain⟨k1,k9,hl,_,p,_,_⟩:=Jk o;have b:=U1 _ _ _ _ h;simp only[List.length_map] at b;refine⟨b,fun r e=>?_⟩;obtain⟨j,z,rfl⟩:=Zj e;have:=LL (Q:=fun x _ _ i=>Ym (x.sz+4) i=true) (l.map TT.tm) _ _ h (fun x w c y i e=>JQ x _ c y i (by rw[Xe];exact h1 x w) (Uj p hT) e) j (by simpa using z) (by simp;omega);have q:=Ji (l.map TT.tm) ((l.map TT.tm)[j]'(by simp;omega)) (M _);rw[N5] at q;rw[YM];have g:=YH _ ((l.map TT.sz).sum+4) _ (by omega) this;simpa[O1] using g
theorem YR{n:Nat}(hn:n<=1000){t:Tr}(h:Yz n t=true):t.right/\t.hgt<=1000/\t.sm:=⟨Tr.right_good n t h,Nat.le_trans (Tr.hgt_good n t h) hn,Tr.sm_good n t h⟩
theorem Rc(h:Y4 (x.l.map TT.tm) (Yt x.k x.t.ty takes) (c+1)=A):Xq x.tm takes c=A:=by obtain⟨k,n,t,f,a,b,l⟩:=x;rw[TT.tm_mk,JZ];simp only at h;rw[h];rfl
theorem Ra(h:Y4 (x.l.map TT.tm) (Yt x.k x.t.ty takes) (c+1)=K (rs.map O1))(b:YL x.k x.n x.t.ty (rs.map fun r=>r.i.ty) (Yt x.k x.t.ty takes)=A):Xq x.tm takes c=A:=by obtain⟨k,n,t,f,a,d,l⟩:=x;rw[TT.tm_mk,JZ];simp only at h b;rw[h];simp only[Zf,MU,b];rfl
theorem Q9{i:Ty}{us:List Ty}(h:Y4 (x.l.map TT.tm) (Yt x.k x.t.ty takes) (c+1)=K (rs.map O1))(b:YL x.k x.n x.t.ty (rs.map fun r=>r.i.ty) (Yt x.k x.t.ty takes)=K (i,us))(d:UM (rs.map fun r=>r.i.ty) us=Z):Xq x.tm takes c=A:=by obtain⟨k,n,t,f,a,e,l⟩:=x;rw[TT.tm_mk,JZ];simp only at h b;rw[h];simp only[Zf,MU,b,d];rfl
theorem VG{i:Ty}{us:List Ty}(h:Y4 (x.l.map TT.tm) (Yt x.k x.t.ty takes) (c+1)=K (rs.map O1))(b:YL x.k x.n x.t.ty (rs.map fun r=>r.i.ty) (Yt x.k x.t.ty takes)=K (i,us))(d:UM (rs.map fun r=>r.i.ty) us=true):Xq x.tm takes c=K (⟨x.k,x.n,x.t.ty,Yn,XR (rs.map O1) us⟩,i):=by obtain⟨k,n,t,f,a,e,l⟩:=x;rw[TT.tm_mk,JZ];simp only at h b;rw[h];simp only[Zf,MU,b,d];rfl
theorem Mk(l:List TT):(YT l).length=l.length*7:=by
 induction l with
 |nil=>rfl
 |cons a r ih=>simp[YT] at ih ⊢;omega
theorem OM:∀(l:List TT)(u:Zi),u∈YT l->u.oneCell'=true
 |[],u,h=>by simp[YT] at h
 |y::r,u,h=>by
  have e:YT (y::r)=YT [y]++YT r:=by simp[YT]
  rw[e] at h;rcases Zg.1 h with h|h
  .simp[YT] at h;rcases h with rfl|rfl|rfl|rfl|rfl|rfl|rfl<;>rfl
  .exact OM r u h
theorem Rh(h:x.In w)(l:x.a=K ⟨b,o,A⟩):∀j u,(YT x.l)[j]?=K u->w.cell? ((⟨b,o,A⟩:Addr).add j)=K u:=by
 intro j u g;have c:j<(YT x.l).length:=(List.getElem?_eq_some_iff.1 g).1;rw[Mk] at c;have d:j / 7<x.l.length:=by omega
 obtain⟨y,z,k,p,_⟩:=h.part (j / 7) d;rw[l] at k;cases k
 have e:=KL x.l (j / 7) d (j % 7) (by omega);rw[show j / 7*7+j % 7=j by omega,g] at e;have a:j % 7=0\/j % 7=1\/j % 7=2\/j % 7=3\/j % 7=4\/j % 7=5\/j % 7=6:=by omega
 obtain⟨a0,a1,a2,a3,r,a5,a6⟩:=p;have q:∀i,j % 7=i->((⟨b,o,A⟩:Addr).add j)=⟨b,o+j / 7*7+i,A⟩:=fun i hi=>by
  have:o+j=o+j / 7*7+i:=by omega
  simp[Addr.add,this];intro h;omega
 rcases a with a|a|a|a|a|a|a
 all_goals
  rw[a] at e
  simp at e
  rw[q _ a,e]
  assumption
structure Cr(B:Nat)(v:Zi)(ps:List TT)(w:Y):Prop where
 own:w.ownsRow B 27 7 v ps.length (YT ps)
 ins:∀p,p∈ps->Ww B w p
theorem Nr(x:TT)(w:Y)(hx:x.In w)(hsz:x.sz<=2000000):
  Calls Zb 60 #[.agg #[E D x.k,E D x.n,E D x.t.k,C x.t.a x.t.l.length x.t.c,E D x.f.k,C x.f.a x.f.l.length x.f.c,C x.a x.l.length x.c]] w fun e w'=>e=.returned (E D (x.sz:Int))/\Zc w.heap.size w w':=by
 obtain⟨i0,a7,ai,al,ac⟩:=info_parts Tryz.info27c;obtain⟨l,aa⟩:∃O,O=Obj.cells x.v 27:=⟨_,rfl⟩
 have d:Hid (∀W,W=((w.alloc l).drew.alloc l)\/W=((w.alloc l).alloc l)\/W=((w.alloc l).alloc l).drew->Cr (w.heap.size+1) (C (K ⟨w.heap.size+1,0,A⟩) 1 1) [x] W/\bL w W):=by
  intro W hW;have hb:bL w W:=by
   rcases hW with rfl|rfl|rfl
   .exact(((X _ _).alloc (N _) _).drew).alloc (by simp) _
   .exact((X _ _).alloc (N _) _).alloc (by simp) _
   .exact(((X _ _).alloc (N _) _).alloc (by simp) _).drew
  have hh:W.heap[w.heap.size+1]?=K l:=by
   rcases hW with rfl|rfl|rfl
   .have:=Zh ((w.alloc l).drew) l;simpa using this
   .have:=Zh (w.alloc l) l;simpa using this
   .have:=Zh (w.alloc l) l;show ((w.alloc l).alloc l).heap[w.heap.size+1]?=_
    simpa using this
  rw[aa] at hh;refine⟨⟨⟨rfl,.inr ⟨_,1,_,rfl,N _,hh,N _,by unfold maxLen;omega,rfl,rfl⟩⟩,fun p hp=>?_⟩,hb⟩;rcases Zk.1 hp with rfl;exact⟨hx.below hb,hx.bl.mono fun b h=>by omega⟩
 obtain⟨B,hB⟩:∃B,w.heap.size+1=B:=⟨_,rfl⟩
 have az:w.heap.size<B:=by omega
 obtain⟨S,hS⟩:∃S,x.sz=S:=⟨_,rfl⟩
 have ay:S<=2000000:=by omega
 have am:UV [x]=S:=by simp[UV,hS]
 rw[hS];subst aa;clear hx hsz hS;go_enter func60,ntmps60;go_wp2_with fail;go_region
 go_wp2_with fail;go_loopg [3,4] S (fun k cn v wr=>∃(u:Zi)(ps:List TT)(c:Nat),u=v/\cn=E D (c:Int)/\k=UV ps/\Hid (Cr B u ps wr/\bL w wr/\c+UV ps=S))
 case atStart=>
  refine⟨_,[x],0,rfl,rfl,am.symm,?_⟩;rw[<-hB];first
   |exact⟨(d.out _ (.inl rfl)).1,(d.out _ (.inl rfl)).2,by omega⟩
   |exact⟨(d.out _ (.inr (.inl rfl))).1,(d.out _ (.inr (.inl rfl))).2,by omega⟩
   |exact⟨(d.out _ (.inr (.inr rfl))).1,(d.out _ (.inr (.inr rfl))).2,by omega⟩
 case round=>
  obtain⟨v,ps,c,hv,rfl,hk,HR⟩:=hrel;subst hv;have HK:=Yx hk;clear hk d hB;by_cases hne:ps=[]
  .subst hne;obtain⟨a,c',rfl⟩:∃a c,v=C a 0 c:=by
    rcases HR.out.1.own.2 with⟨rfl,_⟩|⟨g,o,ad,rfl,_⟩
    .exact⟨_,_,rfl⟩
    .exact⟨_,_,rfl⟩
   have HF:Hid (bL w wr/\c=S):=⟨HR.out.2.1,by have:=HR.out.2.2;simpa[UV] using this⟩
   clear HR HK;go_wp2_with fail;go_ret;exact⟨by rw[<-HF.out.2];rfl,HF.out.1⟩
  .obtain⟨us,p,rfl⟩:∃us p,ps=us++[p]:=⟨ps.dropLast,ps.getLast hne,(List.dropLast_concat_getLast hne).symm⟩
   have ho:=HR.out.1.own;have a2:(us++[p]).length=us.length+1:=by simp
   have ab:=Mk us;rw[a2] at ho;obtain⟨g,o,rfl,hg,aw⟩:=ho.form (by omega);have hc:∀i,i<7->wr.cell? ⟨g,us.length*7+i,A⟩=(#[E D p.k,E D p.n,E D p.t.k,C p.t.a p.t.l.length p.t.c,E D p.f.k,C p.f.a p.f.l.length p.f.c,C p.a p.l.length p.c]:Array Zi)[i]?:=by intro i hi;rw[ho.cellAt (us.length*7+i) (by omega)];have:=KL (us++[p]) us.length (by simp) i hi;rw[this];simp
   have c0:wr.cell? ⟨g,us.length*7,A⟩=K (E D p.k):=(hc 0 (by omega)).trans rfl;have c1:wr.cell? ⟨g,us.length*7+1,A⟩=K (E D p.n):=(hc 1 (by omega)).trans rfl;have c2:wr.cell? ⟨g,us.length*7+2,A⟩=K (E D p.t.k):=(hc 2 (by omega)).trans rfl;have c3:wr.cell? ⟨g,us.length*7+3,A⟩=K (C p.t.a p.t.l.length p.t.c):=(hc 3 (by omega)).trans rfl;have c4:wr.cell? ⟨g,us.length*7+4,A⟩=K (E D p.f.k):=(hc 4 (by omega)).trans rfl;have c5:wr.cell? ⟨g,us.length*7+5,A⟩=K (C p.f.a p.f.l.length p.f.c):=(hc 5 (by omega)).trans rfl;have c6:wr.cell? ⟨g,us.length*7+6,A⟩=K (C p.a p.l.length p.c):=(hc 6 (by omega)).trans rfl;have ap:us.length+1<=o:=by
    rcases ho.2 with⟨h,_⟩|⟨g',aq,ad,h,_,_,h1,_⟩
    .cases h
    .cases h;exact h1
   have a1:wr.ownsRow B 27 7 (C (K ⟨g,0,A⟩) us.length o) us.length (YT us):=by rw[Js] at ho;exact ownsRow_pop ab ho
   have a3:UV (us++[p])=UV us+p.sz:=by simp[UV]
   have a8:=HR.out.2.2;have ax:=Do.len (ps:=us);have a9:p.sz=(p.l.map TT.sz).sum+1:=p.sz_eq;have au:=MC p.l;have i1:(us.length:Int)<((us.length:Int)+1):=by omega
   have n1:(us.length:Int)<=2000000:=by omega
   have n2:(us.length:Int)<=(o:Int):=by omega
   have n3:(0:Int)<=(us.length:Int):=by omega
   have cb:(c:Int)<=2000000:=by omega
   have b0:IntKind.i64.wrap (us.length:Int)=(us.length:Int):=by rw[IntKind.wrap_i64];omega
   have r:=HR.out.1.ins p (by simp);have HT:Hid (∀q,q∈us->Ww B wr q):=fun q hq=>HR.out.1.ins q (by simp[hq]);have ar:g≠wr.heap.size:=by omega
   have a4:=HR.out.2.1;have a6:B<=wr.heap.size:=by have:=a4.size;omega
   have HM:Hid (gk=UV us+p.sz/\c+(UV us+p.sz)=S):=⟨HK.out.trans a3,by rw[<-a3];exact a8⟩
   have HW:Hid (Zc w.heap.size w wr):=a4;clear ho HR HK a3 a8 hne a2 hc a4;by_cases hl0:p.l.length=0
   .have hnil:p.l=[]:=List.length_eq_zero_iff.1 hl0;have av:p.sz=1:=by rw[a9,hnil];rfl
    rw[hl0] at c6;have HO:Hid (Cr B (C (K ⟨g,0,A⟩) us.length o) us (wr.alloc (Za #[E D p.k,E D p.n,E D p.t.k,C p.t.a p.t.l.length p.t.c,E D p.f.k,C p.f.a p.f.l.length p.f.c,C p.a 0 p.c] 27)).drew/\Zc w.heap.size w (wr.alloc (Za #[E D p.k,E D p.n,E D p.t.k,C p.t.a p.t.l.length p.t.c,E D p.f.k,C p.f.a p.f.l.length p.f.c,C p.a 0 p.c] 27)).drew/\(c+1)+UV us=S):=by refine⟨⟨(a1.alloc _).drew,fun q hq=>(HT.out q hq).low ((((X _ _).alloc a6 _)).drew)⟩,(HW.out.alloc HW.out.size _).drew,?_⟩;have:=HM.out.2;omega
    clear r HT HW a1;go_wp2_with fail;go_region_law ((refine Kw (by rfl) _ _ _ (by rfl) 27 i0 Zd a7 g us.length o (by rfl) p.a p.c (by rfl) (by omega) ?_))
    go_wp2_with fail;go_roundg (UV us)
    case measure=>have:=HM.out.1;omega
    case rel=>exact⟨_,us,c+1,rfl,by go_num,rfl,HO⟩
   .obtain⟨xb,xo,xa,_,_⟩:=r.1.part 0 (by omega);have a5:Zc wr.heap.size wr (wr.alloc (Za #[E D p.k,E D p.n,E D p.t.k,C p.t.a p.t.l.length p.t.c,E D p.f.k,C p.f.a p.f.l.length p.f.c,C (K ⟨xb,xo,A⟩) p.l.length p.c] 27)).drew:=((X _ _).alloc (N _) _).drew;have HN:Hid (∀j u,(YT p.l)[j]?=K u->(wr.alloc (Za #[E D p.k,E D p.n,E D p.t.k,C p.t.a p.t.l.length p.t.c,E D p.f.k,C p.f.a p.f.l.length p.f.c,C (K ⟨xb,xo,A⟩) p.l.length p.c] 27)).drew.cell? ((⟨xb,xo,A⟩:Addr).add j)=K u):=Rh (r.1.below a5) xa;have HP:Hid (Ww B wr p):=r;rw[xa] at c6;have ae:0<p.l.length:=by omega
    have ao:us.length+p.l.length<=2000000:=by have:=HM.out.2;omega
    clear r a5;go_wp2_with fail;go_region_law ((refine step_append_lies _ (by rfl) _ _ _ (by rfl) B 27 i0 _ 7 104 Zd a7 ai al ac rfl (by omega) (C (K ⟨g,0,A⟩) us.length o) us.length (YT us) (by rfl) ((a1.alloc _).drew) ⟨xb,xo,A⟩ p.l.length p.c (YT p.l) (by rfl) (Mk p.l) HN.out (OM p.l) ae (by unfold maxLen;omega) (by omega) (by simp;omega) (wr.heap.size+1) (by simp) ?_;intro gg cap1 w1 y z aj af))
    have a0:Zc B wr w1:=(((X _ _).alloc a6 _).drew).grown z (by simp;omega) (fun k hk=>by simp[Value.ownBlock] at hk;omega);have ak:UV (us++p.l)+1=UV us+p.sz:=by rw[a9];simp only[UV,List.map_append,List.sum_append_nat];omega
    have HO:Hid (Cr B (C (K ⟨gg,0,A⟩) (us.length+p.l.length) cap1) (us++p.l) w1/\bL w w1/\(c+1)+UV (us++p.l)=S):=by
     refine⟨⟨?_,fun q hq=>?_⟩,HW.out.trans (a0.mono (by omega)),?_⟩
     .rw[Js,Zl];exact y
     .rcases Zg.1 hq with hq|hq
      .exact(HT.out q hq).low a0
      .obtain⟨j,hj,rfl⟩:=Zj hq;obtain⟨_,_,_,_,an⟩:=HP.out.1.part j hj;exact(show Ww B wr p.l[j] from ⟨an,HP.out.2.mem (M hj)⟩).low a0
     .have:=HM.out.2;omega
    have ah:UV (us++p.l)<gk:=by have:=HM.out.1;omega
    clear y z aj a0 HT HW a1 HN HP ak af;go_wp2_with fail;go_roundg (UV (us++p.l))
    case measure=>exact ah
    case rel=>exact⟨_,us++p.l,c+1,rfl,by go_num,rfl,HO⟩
end Go.Proofs.YtnddkmccagiclabGreatDoor
