import Derived.Test.YtnddkmccagiclabGreatDoorZyb
set_option maxRecDepth 20000
set_option maxHeartbeats 16000000
open Go.RowKit Go.Proofs.Tryz
open Option renaming none→C,some→S,map_eq_some_iff→Zt,bind_eq_some_iff→ZL
open Go.Value renaming slice→D,int→L,agg→Zc,tuple→Zh
open Go.IntKind renaming i64→F
open Go renaming cell_later→M,bodyPost_ret→Zf,World→Zg,Calls→Zn,madeCells→ZB,Addr→ZC
open Go.RowKit.Below renaming refl→V,setCell→Zw,alloc→Zx,drew→ZD
open Nat renaming le_refl→Z,zero_add→Zq
open Go.World renaming cell?_setCell_other→Za,block_lt_of_cell?→Ze,setCell→ZI
open Go.Proofs.Tryz renaming prog→Zb,results67→Zr,ntmps67→Zu,func67→Zv,results18→ZA,results109→ZG,underlying22→ZJ,results107→ZM,ntmps107→ZN,func107→ZP
open Go.Ending renaming returned→Zd
open Bool renaming false→Zi,true→Zs
open List renaming getElem_mem→Zj,length_cons→Zl,length_nil→Zo,length_append→Zy,mem_singleton→Zz,mem_cons→ZE,mem_append→ZF,getElem?_eq_some_iff→ZH,getElem_append_left→ZK,getElem_of_mem→ZO
open Go.Obj renaming cells→Zk
open Go.RowKit renaming Below→Zm,Hid→Zp
open Option.some renaming inj→ZQ
namespace Go.Proofs.YtnddkmccagiclabGreatDoor
variable {k:Int}{x:TT}{W w w' wr:Zg}{J c g m o:Nat}{Q:Nat->Prop}{zs:List TT}
def Tm.nb:Tm->Prop
 |⟨_,n,_,_,l⟩=>n<=9223372036854775807/\∀x,x∈l->x.nb
theorem Tm.mt{n:Int}{t f:Ty}{l:List Tm}:(Tm.mk k n t f l).nb↔n<=9223372036854775807/\∀x,x∈l->x.nb:=by rw[Tm.nb]
theorem TT.qv{x:TT}:x.tm.nb->x.nb:=by
 induction x using TT.ind with
 |h k n t f a c l ih=>intro h;rw[TT.ma] at h;obtain⟨d,e⟩:=Tm.mt.1 h;exact TT.mt.2 ⟨d,fun x b=>ih x b (e _ (List.mem_map_of_mem b))⟩
theorem Tj{d:ByteArray}{v:Int}(h:Ui d=S v):v<=9223372036854775807:=by
 unfold Ui at h;split at h
 .rename_i u hu;split at h
  .cases h;exact(Lib.atoiAll_bounds hu).2
  .cases h
 .cases h
theorem Ru(x:ByteArray):∀(l:List ByteArray)(i k:Nat),YY x l i=S k->k<i+l.length
 |[],i,k,h=>by cases h
 |y::r,i,k,h=>by
  simp only[YY] at h;split at h
  .cases h;simp
  .have:=Ru x r (i+1) k h;simp only[Zl];omega
theorem SW{x:ByteArray}{r:List ByteArray}{p:Tm×List ByteArray}(h:YQ x r=S p):p.1.nb:=by
 unfold YQ at h;split at h
 .rename_i b hb;have:=Ru x XH 0 b hb;have e:XH.length=2:=rfl;cases h
  exact Tm.mt.2 ⟨by omega,fun x a=>by cases a⟩
 .split at h
  .obtain⟨v,hv,rfl⟩:=Zt.1 h;exact Tm.mt.2 ⟨Tj hv,fun x a=>by cases a⟩
  .obtain⟨v,hv,rfl⟩:=Zt.1 h;exact Tm.mt.2 ⟨Tj hv,fun x a=>by cases a⟩
theorem S4(f:List ByteArray->Option (Tm×List ByteArray))(hf:∀ws p,f ws=S p->p.1.nb):∀(m:Nat)(ws:List ByteArray)(q:List Tm×List ByteArray),Uh f m ws=S q->∀x,x∈q.1->x.nb
 |0,ws,q,h=>by simp[Uh] at h;rw[<-h];intro x hx;cases hx
 |m+1,ws,q,h=>by
  simp only[Uh,ZL,Zt] at h;obtain⟨p,hp,q',hq,rfl⟩:=h;intro x hx;rcases ZE.1 hx with rfl|hx
  .exact hf ws p hp
  .exact S4 f hf m _ _ hq x hx
theorem Q5:∀(n:Nat)(ws:List ByteArray)(p:Tm×List ByteArray),YO n ws=S p->p.1.nb
 |0,_,_,h=>by simp[YO] at h
 |n+1,[],_,h=>by simp[YO] at h
 |n+1,x::r,p,h=>by
  by_cases hx:x=M0
  .subst hx;rw[KP] at h;cases r with
   |nil=>cases h
   |cons y r1=>simp only[MX,ZL,Zt] at h;obtain⟨k,_,p1,h1,q,h2,r4,h3,rfl⟩:=h;exact Tm.mt.2 ⟨by omega,S4 (YO n) (fun ws p hp=>Q5 n ws p hp) _ _ _ h2⟩
  .rw[KO n x r hx] at h;exact SW h
theorem Rk(a:List UInt8):(Uj a).length<=1:=by unfold Uj;split<;>simp
theorem MC:∀(s cur:List UInt8),(XF cur s).length<=2*s.length+1
 |[],cur=>by rw[XF];have:=Rk cur;omega
 |c::r,cur=>by
  rw[XF];have h1:=Rk cur;split
  .have:=MC r [];simp only[Zy,Zl];omega
  .split
   .have:=MC r [];simp only[Zy,Zl,Zo];omega
   .have:=MC r (cur++[c]);simp only[Zl];omega
theorem Le:∀(s cur x:List UInt8),x∈XF cur s->x.length<=cur.length+s.length+1
 |[],cur,x,h=>by
  rw[XF,Uj] at h;split at h
  .cases h
  .rcases Zz.1 h with rfl;omega
 |c::r,cur,x,h=>by
  have hf:∀y,y∈Uj cur->y.length<=cur.length:=by
   intro y a;rw[Uj] at a;split at a
   .cases a
   .rcases Zz.1 a with rfl;omega
  rw[XF] at h;split at h
  .rcases ZF.1 h with h|h
   .have:=hf x h;simp only[Zl];omega
   .have:=Le r [] x h;simp only[Zl,Zo] at this ⊢;omega
  .split at h
   .rcases ZF.1 h with h|h
    .rcases ZF.1 h with h|h
     .have:=hf x h;simp only[Zl];omega
     .rcases Zz.1 h with rfl;simp
    .have:=Le r [] x h;simp only[Zl,Zo] at this ⊢;omega
   .have:=Le r (cur++[c]) x h;simp only[Zy,Zl,Zo] at this ⊢;omega
theorem Ay(s:List UInt8)(h:s.length<=1000):(Y8 s).length<=2001:=by rw[Y8,List.length_map];have:=MC s [];omega
theorem Sp(s:List UInt8)(h:s.length<=1000):BV (Y8 s):=by
 intro x b;obtain⟨y,a,rfl⟩:=List.mem_map.1 b;have:=Le s [] y a;show y.toArray.size<=1000000
 simp at this ⊢;omega
def XE(s:List UInt8):Option Tm:=
 match YO ((Y8 s).length+1) (Y8 s) with
 |some (t,[])=>if UC 0 t=Zs then S t else C
 |_=>C
def Ou(s:ByteArray)(w:Zg)(e:Ending)(w':Zg):Prop:=∃(x:TT)(er:Int),e=Zd (Zh #[Zc #[L F x.k,L F x.n,L F x.t.k,D x.t.a x.t.l.length x.t.c,L F x.f.k,D x.f.a x.f.l.length x.f.c,D x.a x.l.length x.c],L F er])/\x.In w'/\x.nb/\Zm w.heap.size w w'/\ ((1000<s.size/\er=4/\x=Yr 0 0)\/(s.size<=1000/\XE s.data.toList=C/\er=1/\x=Yr 0 0)\/(s.size<=1000/\XE s.data.toList=S x.tm/\er=0))
theorem SB(k n:Int)(h:n<=9223372036854775807):(Yr k n).nb:=TT.mt.2 ⟨h,fun x hx=>by cases hx⟩
theorem Yi.rb{R B:Nat}{u v:Zg}(h:Yi R C u v)(hR:R<=u.heap.size)(hB:B<=R):Zm B u v:=⟨h.os,h.tape,h.output,h.size,fun k hk=>h.block k (by omega) (by omega) (by simp)⟩
theorem Kw{w4:Zg}(h:Zm w.heap.size w w4):Zm w.heap.size w (Xd w4 w.heap.size x):=h.trans ⟨(YI (x:=x)).os,(YI (x:=x)).tape,(YI (x:=x)).output,(YI (x:=x)).size,fun k hk=>YI.block k (by have:=h.size;omega) (by omega) (by simp)⟩
theorem V6(s:ByteArray)(c:1000<s.size)(e:s.size<=9223372036854775807)(w:Zg):
  Zn Zb 18 #[.string s] w (Ou s w):=by
 have a:=JN w;have d:(1000:Int)<(s.size:Int):=by omega
 have b:Zp (Ou s w (Zd (Zh #[Zc #[L F 0,L F 0,L F 0,D C 0 0,L F 0,D C 0 0,D C 0 0],L F 4])) (w7 w)):=⟨Yr 0 0,4,rfl,Jh _ _ _,SB _ _ (by omega),XA w,.inl ⟨c,rfl,rfl⟩⟩
 clear a;go_enter func18,ntmps18;go_wp2_with fail;refine Zf (v:=Zh #[Zc #[L F 0,L F 0,L F 0,D C 0 0,L F 0,D C 0 0,D C 0 0],L F 4]) ?_ rfl b.out;simp[results,ZA,go_sem]
theorem Tc(s:ByteArray)(hs:s.size<=1000)(w:Zg)(hg:Gl w):
  Zn Zb 18 #[.string s] w (Ou s w):=by
 have i1:¬(1000:Int)<(s.size:Int):=by omega
 have b8:s.data.toList.length=s.size:=Array.length_toList;obtain⟨d,aa⟩:∃d,Y8 s.data.toList=d:=⟨_,rfl⟩
 have HC:Zp (Zn Zb 32 #[.string s] (w7 w) fun e w'=>∃A,e=Zd (D (S ⟨A,0,C⟩) d.length d.length)/\(w7 w).heap.size<=A/\w'.ownsRow (w7 w).heap.size 9 1 (D (S ⟨A,0,C⟩) d.length d.length) d.length (d.map Value.string)/\Zm (w7 w).heap.size (w7 w) w'):=by have:=EL s hs (w7 w) (hg.below (XA w));rw[aa] at this;exact this
 have an:Zp (d.length<=2001/\BV d):=by rw[<-aa];exact⟨Ay _ (by omega),Sp _ (by omega)⟩
 have b7:=Yy aa;clear aa;have HG:=Yy (hg.below (XA w));have bj:=hg.size;have b4:(w7 w).heap.size=w.heap.size+1:=by simp[w7]
 clear hg b8;go_enter func18,ntmps18;go_wp2_with fail;refine HC.out.mono ?_;rintro e l ⟨A,rfl,hA,a6,a2⟩;have bd:=an.out.1;have a4:A<l.heap.size:=by
  rcases a6.2 with⟨h,_⟩|⟨g,cap,bh,h,_,hg,_⟩
  .cases h
  .cases h;exact(Array.getElem?_eq_some_iff.1 hg).1
 have au:bL w l:=(XA w).trans (a2.mono (by rw[b4];omega));have be:w.heap.size+1<=l.heap.size:=by have:=a2.size;rw[b4] at this;exact this
 have ac:=(JN w).below a2;have aj:∀o,bL l (l.alloc o):=fun o=>(V _ _).alloc (Z _) _;have b3:∀o,o=Obj.cells #[D (S ⟨A,0,C⟩) d.length d.length,.bool Zi] 59->RS l.heap.size d Zi (l.alloc o):=by rintro o rfl;refine⟨⟨_,_,by simp[go_sem],Z _,fun _=>⟨A,0,rfl,a4,fun i x hx=>?_⟩⟩,by simp[go_sem],by simp[go_sem],by simp[go_sem],by omega⟩;have hi:i<d.length:=(ZH.1 hx).1;rw[(aj _).cell (p:=⟨A,0+i,C⟩) a4,Zq,a6.cellAt i (by omega),List.getElem?_map,hx];rfl
 have HT:Zp (Zn Zb 33 #[.pointer (S ⟨l.heap.size,0,C⟩)] (l.alloc (Zk #[D (S ⟨A,0,C⟩) d.length d.length,.bool Zi] 59)) (Jq l.heap.size Zi (YO (d.length+1) d) (l.alloc (Zk #[D (S ⟨A,0,C⟩) d.length d.length,.bool Zi] 59)))):=RV l.heap.size (by omega) (d.length+1) d Zi _ (by omega) an.out.2 ((HG.out.below a2).below (aj _)) (b3 _ rfl)
 have HD:=LL au ac (HG.out.below a2);clear hA a6 a2 HC a4 au ac b3 aj HG bd;go_wp2_with fail;refine HT.out.mono ?_;rintro e w3 ⟨x,rfl,b6,a3,a0,b0,av⟩;obtain⟨b5,b',b9,am⟩:=b0.letters;obtain⟨O,hO⟩:∃O,O=Obj.cells #[D (S ⟨A,0,C⟩) d.length d.length,.bool Zi] 59:=⟨_,rfl⟩
 rw[<-hO] at a3 a0;have ab:bL l (l.alloc O):=(V _ _).alloc (Z _) _;have a8:(l.alloc O).heap.size=l.heap.size+1:=by simp
 have bf:l.heap.size+1<=w3.heap.size:=by have:=a0.size;rw[a8] at this;exact this
 have ai:bL w w3:=(HD.out.1.trans (ab.mono (by omega))).trans (a0.rb (by rw[a8];omega) (by omega));have af:=(HD.out.2.1.below ab).kept a0 (by omega);have ad:=(HD.out.2.2.below ab).kept (by omega) a0;have k:∀o,bL w3 (w3.alloc o):=fun o=>(V _ _).alloc (Z _) _;obtain⟨⟨ra,rc,ba,_,_⟩,bk,_,_,_⟩:=b9;have ae:x.Bl (w.heap.size<·):=a3.mono fun b hb=>by rw[a8] at hb;omega
 have HE:Zp (∀W,bL w3 W->XC W w.heap.size (Yr 0 0)/\bL w W/\x.In W/\x.Bl (w.heap.size<·)):=fun W hW=>⟨af.below hW,ai.trans (hW.mono ai.size),b6.below hW,ae⟩
 have HS:=Uy am av;have a7:=Yy ad;have bg:l.heap.size≠w3.heap.size:=by omega
 have bm:l.heap.size<w3.heap.size:=by omega
 clear b6 a3 a0 b0 av am ai af ad ab a8 ae hO HD HT;have u:Zp (XE s.data.toList=C->∀W,bL w3 W->Ou s w (Zd (Zh #[Zc #[L F 0,L F 0,L F 0,D C 0 0,L F 0,D C 0 0,D C 0 0],L F 1])) (Xd W w.heap.size (Yr 0 0))):=fun hp W hW=>⟨Yr 0 0,1,rfl,Jh _ _ _,SB _ _ (by omega),Kw (HE.out W hW).2.1,.inr (.inl ⟨hs,hp,rfl,rfl⟩)⟩
 have z:Zp (XE s.data.toList=match YO (d.length+1) d with|some (t,[])=>if UC 0 t=Zs then S t else C|_=>C):=by show _=_;rw[XE,b7.out]
 cases b' with
 |true=>
  have m:XE s.data.toList=C:=by
   have ho:YO (d.length+1) d=C:=by
    rcases HS.out.1 with⟨_,h⟩|⟨h,_⟩
    .cases h
    .exact Option.map_eq_none_iff.1 h
   rw[z.out,ho]
  obtain⟨O,hO⟩:∃O,O=Obj.cells x.v 27:=⟨_,rfl⟩
  have HF:Zp _:=u.out m (w3.alloc O) (k O);have a:=(HE.out _ (k O)).1;have q:Zp _:=YU (x:=Yr 0 0) a;have c:=a.at7;have c0:=c.c0;have c1:=c.c1;have c2:=c.c2;have c3:=c.c3;have c4:=c.c4;have c5:=c.c5;have c6:=c.c6;simp only[Zq,Yr] at c0 c1 c2 c3 c4 c5 c6;have f0:=a.fz 0 (by omega);have f1:=a.fz 1 (by omega);have f2:=a.fz 2 (by omega);have f3:=a.fz 3 (by omega);have f4:=a.fz 4 (by omega);have f5:=a.fz 5 (by omega);have f6:=a.fz 6 (by omega);subst hO;clear a c m u k HS z a7;go_wp2_with fail;refine Zf (v:=Zh #[Zc #[L F 0,L F 0,L F 0,D C 0 0,L F 0,D C 0 0,D C 0 0],L F 1]) ?_ rfl HF.out;obtain⟨d0,d1,d2,d3,d4,d5,d6⟩:=q.out;simp only[Yr,Zo] at d0 d1 d2 d3 d4 d5 d6;simp[results,ZA,go_sem,d0,d1,d2,d3,d4,d5,d6]
 |false=>
  obtain⟨p,hp,r⟩:∃p,YO (d.length+1) d=S p/\p.2=b5:=by
   rcases HS.out.1 with⟨h,_⟩|⟨_,_,h⟩
   .exact Zt.1 h
   .cases h
  have a1:=HS.out.2 p hp;have a9:x.nb:=TT.qv (a1▸Q5 _ _ _ hp);obtain⟨O,hO⟩:∃O,O=Obj.cells x.v 27:=⟨_,rfl⟩
  cases b5 with
  |cons y r'=>
   have m:XE s.data.toList=C:=by obtain⟨p1,p2⟩:=p;dsimp only at r;subst r;rw[z.out,hp]
   have i2:(0:Int)<(((y::r').length:Nat):Int):=by simp
   have HF:Zp _:=u.out m (w3.alloc O) (k O);have a:=(HE.out _ (k O)).1;have q:Zp _:=YU (x:=Yr 0 0) a;have c:=a.at7;have c0:=c.c0;have c1:=c.c1;have c2:=c.c2;have c3:=c.c3;have c4:=c.c4;have c5:=c.c5;have c6:=c.c6;simp only[Zq,Yr] at c0 c1 c2 c3 c4 c5 c6;have f0:=a.fz 0 (by omega);have f1:=a.fz 1 (by omega);have f2:=a.fz 2 (by omega);have f3:=a.fz 3 (by omega);have f4:=a.fz 4 (by omega);have f5:=a.fz 5 (by omega);have f6:=a.fz 6 (by omega);subst hO;have HP:=LL hp r a1;clear a c m u k HS z a7 hp r a1 a9 HP;go_wp2_with fail;refine Zf (v:=Zh #[Zc #[L F 0,L F 0,L F 0,D C 0 0,L F 0,D C 0 0,D C 0 0],L F 1]) ?_ rfl HF.out;obtain⟨d0,d1,d2,d3,d4,d5,d6⟩:=q.out;simp only[Yr,Zo] at d0 d1 d2 d3 d4 d5 d6;simp[results,ZA,go_sem,d0,d1,d2,d3,d4,d5,d6]
  |nil=>
   have ay:XE s.data.toList=if UC 0 x.tm=Zs then S x.tm else C:=by obtain⟨p1,p2⟩:=p;dsimp only at r a1;subst r a1;rw[z.out,hp]
   have b2:=Yy ay;have al:Zp (Zn Zb 29 #[Zc x.v,L F 0] (w3.alloc O) fun e w'=>e=Zd (.bool (UC 0 x.tm))/\Zm (w3.alloc O).heap.size (w3.alloc O) w'):=Qa x 0 _ (a7.out.below (k O)).gp (HE.out _ (k O)).2.2.1 a9;have i2:¬(0:Int)<((([]:List ByteArray).length:Nat):Int):=by simp
   simp only[Zo] at ba;have e0:((0:Nat):Int)=0:=rfl;obtain⟨g,ah⟩:∃g,UC 0 x.tm=g:=⟨_,rfl⟩
   rw[ah] at al;have ax:=Yy ah;have bb:Zp x.nb:=a9;have ap:=k O;have ar:=Yy ap;have ao:Uz (w3.alloc O) w3.heap.size 0 x:=by subst hO;constructor<;>simp[go_sem]
   have bc:=Yy ao;have bi:w3.heap.size<(w3.alloc O).heap.size:=by simp
   clear hp r a1 ay ah a9 ap ao HS z k a7;subst hO;go_wp2_with fail;refine al.out.mono ?_;rintro e w5 ⟨rfl,ak⟩;have a5:=ar.out.trans (ak.mono ar.out.size);have j:=bc.out.below ak;clear ak al;cases g with
   |false=>
    have m:XE s.data.toList=C:=by rw[b2.out,ax.out];rfl
    have HF:Zp _:=u.out m w5 a5;have a:=(HE.out _ a5).1;have q:Zp _:=YU (x:=Yr 0 0) a;have c:=a.at7;have c0:=c.c0;have c1:=c.c1;have c2:=c.c2;have c3:=c.c3;have c4:=c.c4;have c5:=c.c5;have c6:=c.c6;simp only[Zq,Yr] at c0 c1 c2 c3 c4 c5 c6;have f0:=a.fz 0 (by omega);have f1:=a.fz 1 (by omega);have f2:=a.fz 2 (by omega);have f3:=a.fz 3 (by omega);have f4:=a.fz 4 (by omega);have f5:=a.fz 5 (by omega);have f6:=a.fz 6 (by omega);clear a c m u a5 j;go_wp2_with fail;refine Zf (v:=Zh #[Zc #[L F 0,L F 0,L F 0,D C 0 0,L F 0,D C 0 0,D C 0 0],L F 1]) ?_ rfl HF.out;obtain⟨d0,d1,d2,d3,d4,d5,d6⟩:=q.out;simp only[Yr,Zo] at d0 d1 d2 d3 d4 d5 d6;simp[results,ZA,go_sem,d0,d1,d2,d3,d4,d5,d6]
   |true=>
    have aq:XE s.data.toList=S x.tm:=by rw[b2.out,ax.out];rfl
    obtain⟨a,aw,az,b1⟩:=HE.out _ a5;have HF:Zp (Ou s w (Zd (Zh #[Zc x.v,L F 0])) (Xd w5 w.heap.size x)):=⟨x,0,rfl,az.lc YI (b1.mono fun b hb=>by omega),bb.out,Kw aw,.inr (.inr ⟨hs,aq,rfl⟩)⟩
    have q:Zp _:=YU (x:=x) a;have t0:=j.c0;have t1:=j.c1;have t2:=j.c2;have t3:=j.c3;have t4:=j.c4;have t5:=j.c5;have t6:=j.c6;simp only[Zq] at t0 t1 t2 t3 t4 t5 t6;have c:=a.at7;have c0:=c.c0;have c1:=c.c1;have c2:=c.c2;have c3:=c.c3;have c4:=c.c4;have c5:=c.c5;have c6:=c.c6;simp only[Zq,Yr] at c0 c1 c2 c3 c4 c5 c6;have f0:=a.fz 0 (by omega);have f1:=a.fz 1 (by omega);have f2:=a.fz 2 (by omega);have f3:=a.fz 3 (by omega);have f4:=a.fz 4 (by omega);have f5:=a.fz 5 (by omega);have f6:=a.fz 6 (by omega);clear a c aq u a5 j aw az b1;go_wp2_with fail;refine Zf (v:=Zh #[Zc x.v,L F 0]) ?_ rfl HF.out;obtain⟨d0,d1,d2,d3,d4,d5,d6⟩:=q.out;simp[results,ZA,go_sem,d0,d1,d2,d3,d4,d5,d6]
theorem Bi(s:ByteArray)(b:s.size<=9223372036854775807)(w:Zg)(a:Gl w):Zn Zb 18 #[.string s] w (Ou s w):=by
 by_cases hs:s.size<=1000
 .exact Tc s hs w a
 .exact V6 s (by omega) b w
theorem BN(R c:Nat)(b:c<=1000000)(w:Zg)(h:w.cell? ⟨R,0,C⟩=S (L F (c:Int)))(d:w.frozen? ⟨R,0,C⟩=Zi):
  Zn Zb 64 #[.pointer (S ⟨R,0,C⟩)] w fun e w'=>e=Zd (L F (c:Int))/\w'=w.setCell ⟨R,0,C⟩ (L F ((c+1:Nat):Int)):=by
 have a:IntKind.i64.wrap ((c:Int)+1)=((c+1:Nat):Int):=by
  have:((c+1:Nat):Int)=(c:Int)+1:=by omega
  rw[this];rw[IntKind.wrap_i64];omega
 go_enter func64,ntmps64;go_wp2_with fail;go_ret;exact⟨rfl,by first|rfl|rw[a]|(simp[a])⟩
theorem Bz(t:Tr):t.right->Xq t.ty t.ty=t.ty:=by
 induction t using Tr.ind with
 |h k a c l ih=>
  intro h;rw[Tr.lh,UB,if_pos rfl];congr 1;rcases Tr.nd.1 h with⟨⟨rfl,_⟩|⟨d,_⟩,b⟩
  .rfl
  .match l,d,b,ih with
   |[x,y],_,b,ih=>simp[JZ,ih x (by simp) (b x (by simp)),ih y (by simp) (b y (by simp))]
theorem Oh(x:Tr)(w:Zg)(k:x.In w)(j:x.right)(l:x.hgt<=1000):
  Zn Zb 42 #[Zc #[L F x.k,D x.a x.l.length x.c]] w fun e w'=>∃t:Tr,e=Zd (Zc #[L F t.k,D t.a t.l.length t.c])/\t.ty=x.ty/\t.In w'/\t.Bl (w.heap.size<=·)/\Zm w.heap.size w w':=by
 have c:bL w ((w.alloc (Obj.cells x.v 24)).alloc (Obj.cells #[L F 0,D C 0 0] 24)):=((V _ _).alloc (Z _) _).alloc (by simp) _;have hz:((w.alloc (Obj.cells x.v 24)).alloc (Obj.cells #[L F 0,D C 0 0] 24)).heap.size=w.heap.size+1+1:=by simp
 go_enter func42,ntmps42;go_wp2_with fail;refine(P0 x x _ (k.below c) (k.below c) j j l).mono ?_;rintro e g ⟨t,rfl,m,h,d,a⟩;rw[hz] at d a;have o:cL g (w.heap.size+1) 0 (L F 0):=(a.cell (p:=⟨w.heap.size+1,0,C⟩) (by simp)).trans (by simp[go_sem]);have r:cL g (w.heap.size+1) 1 (D C 0 0):=(a.cell (p:=⟨w.heap.size+1,1,C⟩) (by simp)).trans (by simp[go_sem]);have y:g.frozen? ⟨w.heap.size+1,0,C⟩=Zi:=(a.frozen (p:=⟨w.heap.size+1,0,C⟩) (by simp)).trans (by simp[go_sem]);have z:g.frozen? ⟨w.heap.size+1,1,C⟩=Zi:=(a.frozen (p:=⟨w.heap.size+1,1,C⟩) (by simp)).trans (by simp[go_sem]);have i:=c.trans (a.mono (by omega));have u:Zp (∃t':Tr,Ending.returned (Zc t.v)=Zd (Zc t'.v)/\t'.ty=x.ty/\t'.In ((g.setCell ⟨w.heap.size+1,0,C⟩ (L F t.k)).setCell ⟨w.heap.size+1,1,C⟩ (t.s))/\t'.Bl (w.heap.size<=·)/\bL w ((g.setCell ⟨w.heap.size+1,0,C⟩ (L F t.k)).setCell ⟨w.heap.size+1,1,C⟩ (t.s))):=⟨t,rfl,m.trans (Bz x j),X4 (io:=0) h (d.mono fun b q=>by omega),d.mono fun b q=>by omega,(i.setCell (by simp) _).setCell (by simp) _⟩
 clear c a i m h d hz k j l;go_wp2_with fail;refine Zf (v:=Zc t.v) ?_ rfl u.out;simp[results,results42,go_sem,o,r]
def Jr(Q:Nat->Prop)(w:Zg)(r:Option (Ty×List Ty))(e:Ending)(w':Zg):Prop:=
 Zm w.heap.size w w'/\((r=C/\e=Zd (Zh #[Zc #[L F 0,D C 0 0,D C 0 0],.bool Zi]))\/
  ∃I U:Tr,r=S (I.ty,U.l.map Tr.ty)/\e=Zd (Zh #[Zc #[L F I.k,D I.a I.l.length I.c,D U.a U.l.length U.c],.bool Zs])/\I.In w'/\U.In w'/\I.Bl Q/\U.Bl Q)
def Uk(t:Ty):Option (Ty×List Ty):=
 if t.k=0 then S (⟨0,[]⟩,[⟨3,[⟨0,[]⟩,⟨0,[]⟩]⟩,⟨0,[]⟩])
 else if t.k=3 then S (t.l.getD 1 ⟨0,[]⟩,[t,t.l.getD 0 ⟨0,[]⟩])
 else C
theorem OY(k:Int)(b:(k==0)=Zi)(d:(k != 3)=Zs)(a:Option ZC)(m c:Nat)(w:Zg):
  Zn Zb 107 #[Zc #[L F k,D a m c]] w fun e w'=>e=Zd (Zh #[Zc #[L F 0,D C 0 0,D C 0 0],.bool Zi])/\Zm w.heap.size w w':=by
 go_enter ZP,ZN;go_wp2_with fail;refine Zf (v:=Zh #[Zc #[L F 0,D C 0 0,D C 0 0],.bool Zi]) (by simp[results,ZM,go_sem]) rfl ⟨rfl,?_⟩;repeat (first|exact V _ _|refine ZD ?_|refine Zw ?_ (by first|(simp;done)|(simp;omega)|omega) _|refine Zx ?_ (by first|(simp;done)|(simp;omega)|omega) _)
theorem SJ{B P:Nat}{u v z u' v' z':Value}{cs:Array Value}(h:Zm B w W)(k:W.cell? ⟨P,0,C⟩=S u')(l:W.cell? ⟨P,1,C⟩=S v')(g:W.cell? ⟨P,2,C⟩=S z')(a:B<=P/\B<=W.heap.size):
  Zp (((((W.setCell ⟨P,0,C⟩ u).setCell ⟨P,1,C⟩ v).setCell ⟨P,2,C⟩ z).alloc (Zk cs 24)).cell? ⟨P,0,C⟩=S u/\((((W.setCell ⟨P,0,C⟩ u).setCell ⟨P,1,C⟩ v).setCell ⟨P,2,C⟩ z).alloc (Zk cs 24)).cell? ⟨P,1,C⟩=S v/\((((W.setCell ⟨P,0,C⟩ u).setCell ⟨P,1,C⟩ v).setCell ⟨P,2,C⟩ z).alloc (Zk cs 24)).cell? ⟨P,2,C⟩=S z/\
   (∀i,((((W.setCell ⟨P,0,C⟩ u).setCell ⟨P,1,C⟩ v).setCell ⟨P,2,C⟩ z).alloc (Zk cs 24)).cell? ⟨W.heap.size,i,C⟩=cs[i]?)/\Zm B w ((((W.setCell ⟨P,0,C⟩ u).setCell ⟨P,1,C⟩ v).setCell ⟨P,2,C⟩ z).alloc (Zk cs 24))):=by
 have hz:(((W.setCell ⟨P,0,C⟩ u).setCell ⟨P,1,C⟩ v).setCell ⟨P,2,C⟩ z).heap.size=W.heap.size:=by simp[ZI]
 have c:=Yp (j:=2) (v:=z) (Yp (j:=1) (v:=v) (Yp (j:=0) (v:=u) k));have d:=Yp (j:=2) (v:=z) (Yp (j:=1) (v:=v) (Yp (j:=0) (v:=u) l));have e:=Yp (j:=2) (v:=z) (Yp (j:=1) (v:=v) (Yp (j:=0) (v:=u) g));simp only[if_pos,if_false,Nat.reduceEqDiff,reduceCtorEq] at c d e;have b:Zm (((W.setCell ⟨P,0,C⟩ u).setCell ⟨P,1,C⟩ v).setCell ⟨P,2,C⟩ z).heap.size (((W.setCell ⟨P,0,C⟩ u).setCell ⟨P,1,C⟩ v).setCell ⟨P,2,C⟩ z) ((((W.setCell ⟨P,0,C⟩ u).setCell ⟨P,1,C⟩ v).setCell ⟨P,2,C⟩ z).alloc (Zk cs 24)):=(V _ _).alloc (Z _) _;refine⟨M b (by simpa using c),M b (by simpa using d),M b (by simpa using e),?_,(((h.setCell a.1 _).setCell a.1 _).setCell a.1 _).alloc (by rw[hz];exact a.2) _⟩;intro i;rw[<-hz];simp[go_sem]
theorem PA(b o c:Nat)(x y:Tr)(w:Zg)(x0:w.cell? ⟨b,o,C⟩=S (L F x.k))(x1:w.cell? ⟨b,o+1,C⟩=S (D x.a x.l.length x.c))(y0:w.cell? ⟨b,o+2,C⟩=S (L F y.k))(y1:w.cell? ⟨b,o+3,C⟩=S (D y.a y.l.length y.c)):
  Zn Zb 107 #[Zc #[L F 3,D (S ⟨b,o,C⟩) 2 c]] w fun e w'=>∃g,w.heap.size<=g/\e=Zd (Zh #[Zc #[L F y.k,D y.a y.l.length y.c,D (S ⟨g,0,C⟩) 2 2],.bool Zs])/\
   w'.cell? ⟨g,0,C⟩=S (L F 3)/\w'.cell? ⟨g,1,C⟩=S (D (S ⟨b,o,C⟩) 2 c)/\w'.cell? ⟨g,2,C⟩=S (L F x.k)/\w'.cell? ⟨g,3,C⟩=S (D x.a x.l.length x.c)/\Zm w.heap.size w w':=by
 have lb:b<w.heap.size:=Ze _ _ x0;go_enter ZP,ZN;go_wp2_with fail;obtain⟨W0,a⟩:∃W0,W0=((w.alloc (Obj.cells #[L F 3,D (S ⟨b,o,C⟩) 2 c] 24)).alloc (Obj.cells #[L F 0,D C 0 0,D C 0 0] 119)):=⟨_,rfl⟩
 have j:W0.heap.size=w.heap.size+1+1:=by rw[a];simp
 have h:bL w W0:=by rw[a];exact((V _ _).alloc (Z _) _).alloc (by simp) _
 have r0:W0.cell? ⟨w.heap.size,0,C⟩=S (L F 3):=by rw[a];simp[go_sem]
 have r:W0.cell? ⟨w.heap.size,1,C⟩=S (D (S ⟨b,o,C⟩) 2 c):=by rw[a];simp[go_sem]
 have q:W0.cell? ⟨w.heap.size+1,0,C⟩=S (L F 0):=by rw[a];simp[go_sem]
 have l:W0.cell? ⟨w.heap.size+1,1,C⟩=S (D C 0 0):=by rw[a];simp[go_sem]
 have m:W0.cell? ⟨w.heap.size+1,2,C⟩=S (D C 0 0):=by rw[a];simp[go_sem]
 have r5:∀i,W0.frozen? ⟨w.heap.size+1,i,C⟩=Zi:=by intro i;rw[a];simp[go_sem]
 replace x0:=M h x0;replace x1:=M h x1;replace y0:=M h y0;replace y1:=M h y1;rw[<-a];clear a;have lW:b<W0.heap.size:=by omega
 have l0:w.heap.size<W0.heap.size:=by omega
 have l1:w.heap.size+1<W0.heap.size:=by omega
 have d:∀X,bL W0 (W0.alloc X):=fun X=>(V _ _).alloc (Z _) _;have v0:=fun X=>M (d X) y0;have v1:=fun X=>M (d X) y1;have v2:=fun X=>M (d X) r0;have v3:=fun X=>M (d X) r;have v4:=fun X=>M (d X) q;have v5:=fun X=>M (d X) l;have v6:=fun X=>M (d X) m;have v7:∀X i,(W0.alloc X).frozen? ⟨w.heap.size+1,i,C⟩=Zi:=fun X i=>((d X).frozen (p:=⟨w.heap.size+1,i,C⟩) (by omega)).trans (r5 i);clear d;have k:=SJ (u:=L F y.k) (v:=y.s) (z:=D (S ⟨w.heap.size+1+1,0,C⟩) 2 2) (cs:=#[L F 3,D (S ⟨b,o,C⟩) 2 c,L F x.k,x.s]) h q l m (by omega);clear h;go_region
 all_goals
  clear v0 v1 v2 v3 v4 v5 v6 v7
  go_wp2_with fail
  refine Zf (v:=Zh #[Zc #[L F y.k,y.s,D (S ⟨w.heap.size+1+1,0,C⟩) 2 2],.bool Zs]) (by simp[results,ZM,go_sem,k.out.1,k.out.2.1,k.out.2.2.1]) rfl ⟨w.heap.size+1+1,by omega,rfl,?_,?_,?_,?_,?_⟩
  .have:=k.out.2.2.2.1 0;rw[j] at this;exact this
  .have:=k.out.2.2.2.1 1;rw[j] at this;exact this
  .have:=k.out.2.2.2.1 2;rw[j] at this;exact this
  .have:=k.out.2.2.2.1 3;rw[j] at this;exact this
  .exact k.out.2.2.2.2.drew
theorem OW(a:Option ZC)(m c:Nat)(w:Zg):
  Zn Zb 107 #[Zc #[L F 0,D a m c]] w fun e w'=>∃b g,w.heap.size<=b/\w.heap.size<=g/\e=Zd (Zh #[Zc #[L F 0,D C 0 0,D (S ⟨g,0,C⟩) 2 2],.bool Zs])/\
   w'.cell? ⟨b,0,C⟩=S (L F 0)/\w'.cell? ⟨b,1,C⟩=S (D C 0 0)/\w'.cell? ⟨b,2,C⟩=S (L F 0)/\w'.cell? ⟨b,3,C⟩=S (D C 0 0)/\
   w'.cell? ⟨g,0,C⟩=S (L F 3)/\w'.cell? ⟨g,1,C⟩=S (D (S ⟨b,0,C⟩) 2 2)/\w'.cell? ⟨g,2,C⟩=S (L F 0)/\w'.cell? ⟨g,3,C⟩=S (D C 0 0)/\Zm w.heap.size w w':=by
 have l:bL w ((w.alloc (Obj.cells #[L F 0,D a m c] 24)).alloc (Obj.cells #[L F 0,D C 0 0,D C 0 0] 119)):=((V _ _).alloc (Z _) _).alloc (by simp) _;have hz:((w.alloc (Obj.cells #[L F 0,D a m c] 24)).alloc (Obj.cells #[L F 0,D C 0 0,D C 0 0] 119)).heap.size=w.heap.size+1+1:=by simp
 go_enter ZP,ZN;go_wp2_with fail;refine(SA 0 0 C C 0 0 0 0 _).mono ?_;rintro e k ⟨b,hg,rfl,y,d1,r,x,h⟩;rw[hz] at hg h;have q0:cL k w.heap.size 0 (L F 0):=(h.cell (p:=⟨w.heap.size,0,C⟩) (by simp;omega)).trans (by simp[go_sem]);have q1:cL k w.heap.size 1 (D a m c):=(h.cell (p:=⟨w.heap.size,1,C⟩) (by simp;omega)).trans (by simp[go_sem]);have qf:∀i,k.frozen? ⟨w.heap.size,i,C⟩=Zi:=fun i=>(h.frozen (p:=⟨w.heap.size,i,C⟩) (by simp;omega)).trans (by simp[go_sem]);have a3:=qf 0;have a4:=qf 1;have p0:cL k (w.heap.size+1) 0 (L F 0):=(h.cell (p:=⟨w.heap.size+1,0,C⟩) (by simp)).trans (by simp[go_sem]);have p1:cL k (w.heap.size+1) 1 (D C 0 0):=(h.cell (p:=⟨w.heap.size+1,1,C⟩) (by simp)).trans (by simp[go_sem]);have p2:cL k (w.heap.size+1) 2 (D C 0 0):=(h.cell (p:=⟨w.heap.size+1,2,C⟩) (by simp)).trans (by simp[go_sem]);have p3:∀i,k.frozen? ⟨w.heap.size+1,i,C⟩=Zi:=fun i=>(h.frozen (p:=⟨w.heap.size+1,i,C⟩) (by simp)).trans (by simp[go_sem]);have q:=l.trans (h.mono (by omega));have a2:b<k.heap.size:=Ze _ _ y;have a1:w.heap.size+1<k.heap.size:=Ze _ _ p0;clear l h hz;have nb:b≠w.heap.size:=by omega
 have n1:w.heap.size+1≠w.heap.size:=by omega
 obtain⟨W0,d⟩:∃W0,W0=((k.setCell ⟨w.heap.size,0,C⟩ (L F 3)).setCell ⟨w.heap.size,1,C⟩ (D (S ⟨b,0,C⟩) 2 2)):=⟨_,rfl⟩
 have a0:W0.heap.size=k.heap.size:=by rw[d];simp[ZI]
 have l:bL w W0:=by rw[d];exact(q.setCell (by simp) _).setCell (by simp) _
 have r0:cL W0 w.heap.size 0 (L F 3):=by rw[d];exact(XJ q0 q1).1
 have r1:cL W0 w.heap.size 1 (D (S ⟨b,0,C⟩) 2 2):=by rw[d];exact(XJ q0 q1).2
 have r2:W0.cell? ⟨w.heap.size+1,0,C⟩=S (L F 0):=by rw[d];simp[go_sem,p0]
 have r3:W0.cell? ⟨w.heap.size+1,1,C⟩=S (D C 0 0):=by rw[d];simp[go_sem,p1]
 have r4:W0.cell? ⟨w.heap.size+1,2,C⟩=S (D C 0 0):=by rw[d];simp[go_sem,p2]
 have r5:∀i,W0.frozen? ⟨w.heap.size+1,i,C⟩=Zi:=by intro i;rw[d];simp[go_sem,p3 i]
 replace y:W0.cell? ⟨b,0,C⟩=S (L F 0):=by rw[d];simp[go_sem,y]
 replace d1:W0.cell? ⟨b,1,C⟩=S (D C 0 0):=by rw[d];simp[go_sem,d1]
 replace r:W0.cell? ⟨b,2,C⟩=S (L F 0):=by rw[d];simp[go_sem,r]
 replace x:W0.cell? ⟨b,3,C⟩=S (D C 0 0):=by rw[d];simp[go_sem,x]
 clear p0 p1 p2 p3;go_wp2_with fail;rw[<-d];clear d q0 q1 qf a3 a4 q;have lW:b<W0.heap.size:=by omega
 have l0:w.heap.size<W0.heap.size:=by omega
 have l1:w.heap.size+1<W0.heap.size:=by omega
 have j:∀X,bL W0 (W0.alloc X):=fun X=>(V _ _).alloc (Z _) _;have v0:=fun X=>M (j X) r;have v1:=fun X=>M (j X) x;have v2:=fun X=>M (j X) r0;have v3:=fun X=>M (j X) r1;have v4:=fun X=>M (j X) r2;have v5:=fun X=>M (j X) r3;have v6:=fun X=>M (j X) r4;have v7:∀X i,(W0.alloc X).frozen? ⟨w.heap.size+1,i,C⟩=Zi:=fun X i=>((j X).frozen (p:=⟨w.heap.size+1,i,C⟩) (by omega)).trans (r5 i);clear j;have o:=SJ (u:=L F 0) (v:=D C 0 0) (z:=D (S ⟨W0.heap.size,0,C⟩) 2 2) (cs:=#[L F 3,D (S ⟨b,0,C⟩) 2 2,L F 0,D C 0 0]) l r2 r3 r4 (by omega);have HD:Zp (∀i v,cL W0 b i v->cL ((((W0.setCell ⟨w.heap.size+1,0,C⟩ (L F 0)).setCell ⟨w.heap.size+1,1,C⟩ (D C 0 0)).setCell ⟨w.heap.size+1,2,C⟩ (D (S ⟨W0.heap.size,0,C⟩) 2 2)).alloc (Zk #[L F 3,D (S ⟨b,0,C⟩) 2 2,L F 0,D C 0 0] 24)) b i v):=by intro i v hv;refine M ((V _ _).alloc (Z _) _) ?_;rw[Za _ _ _ _ (by simp),Za _ _ _ _ (by simp),Za _ _ _ _ (by simp)];exact hv
 have HN:Zp (w.heap.size<=b/\w.heap.size<=W0.heap.size):=⟨by omega,by omega⟩
 clear l nb n1 a0 a1 a2 hg;go_region
 all_goals
  clear v0 v1 v2 v3 v4 v5 v6 v7
  go_wp2_with fail
  refine Zf (v:=Zh #[Zc #[L F 0,D C 0 0,D (S ⟨W0.heap.size,0,C⟩) 2 2],.bool Zs]) (by simp[results,ZM,go_sem,o.out.1,o.out.2.1,o.out.2.2.1]) rfl ⟨b,W0.heap.size,HN.out.1,HN.out.2,rfl,HD.out 0 _ y,HD.out 1 _ d1,HD.out 2 _ r,HD.out 3 _ x,o.out.2.2.2.1 0,o.out.2.2.2.1 1,o.out.2.2.2.1 2,o.out.2.2.2.1 3,o.out.2.2.2.2.drew⟩
def Ah(c x y:Ty):Option (Ty×List Ty):=if YD Yl x y then S (Xq x y,[c,Xq x y,Xq x y]) else C
theorem Vr{x y z:Tr}(a0:w.cell? ⟨g,0,C⟩=S (L F x.k))(a1:w.cell? ⟨g,1,C⟩=S (D x.a x.l.length x.c))(b0:w.cell? ⟨g,2,C⟩=S (L F y.k))(b1:w.cell? ⟨g,3,C⟩=S (D y.a y.l.length y.c))(c0:w.cell? ⟨g,4,C⟩=S (L F z.k))(c1:w.cell? ⟨g,5,C⟩=S (D z.a z.l.length z.c))
  (hx:x.In w) (hy:y.In w) (hz:z.In w):(Tr.mk k (S ⟨g,0,C⟩) c [x,y,z]).In w:=by
 refine Tr.li.2 ⟨fun j h=>?_,fun t h=>?_⟩
 .match j,h with
  |0,_=>exact⟨g,0,rfl,by simpa using a0,by simpa[Tr.sl] using a1⟩
  |1,_=>exact⟨g,0,rfl,by simpa using b0,by simpa[Tr.sl] using b1⟩
  |2,_=>exact⟨g,0,rfl,by simpa using c0,by simpa[Tr.sl] using c1⟩
 .simp only[ZE,List.not_mem_nil,or_false] at h;rcases h with rfl|rfl|rfl
  .exact hx
  .exact hy
  .exact hz
theorem Pz(c x y:Tr)(w:Zg)(hx:x.In w)(hy:y.In w)(rx:x.right)(ry:y.right)(hh:x.hgt<=1000)(hs:x.sm):
  Zn Zb 105 #[Zc #[L F c.k,D c.a c.l.length c.c],Zc #[L F x.k,D x.a x.l.length x.c],Zc #[L F y.k,D y.a y.l.length y.c]] w fun e w'=>Zm w.heap.size w w'/\
   ((YD Yl x.ty y.ty=Zi/\e=Zd (Zh #[Zc #[L F 0,D C 0 0,D C 0 0],.bool Zi]))\/
    (YD Yl x.ty y.ty=Zs/\∃(t:Tr)(g:Nat),w.heap.size<=g/\t.ty=Xq x.ty y.ty/\t.In w'/\t.Bl (w.heap.size<=·)/\e=Zd (Zh #[Zc #[L F t.k,D t.a t.l.length t.c,D (S ⟨g,0,C⟩) 3 3],.bool Zs])/\
    w'.cell? ⟨g,0,C⟩=S (L F c.k)/\w'.cell? ⟨g,1,C⟩=S (D c.a c.l.length c.c)/\w'.cell? ⟨g,2,C⟩=S (L F t.k)/\w'.cell? ⟨g,3,C⟩=S (D t.a t.l.length t.c)/\w'.cell? ⟨g,4,C⟩=S (L F t.k)/\w'.cell? ⟨g,5,C⟩=S (D t.a t.l.length t.c))):=by
 obtain⟨W0,a⟩:∃W0,W0=((((w.alloc (Obj.cells c.v 24)).alloc (Obj.cells x.v 24)).alloc (Obj.cells y.v 24)).alloc (Obj.cells #[L F 0,D C 0 0,D C 0 0] 119)):=⟨_,rfl⟩
 have a4:W0.heap.size=w.heap.size+1+1+1+1:=by rw[a];simp
 have k:bL w W0:=by rw[a];exact((((V _ _).alloc (Z _) _).alloc (by simp) _).alloc (by simp;omega) _).alloc (by simp;omega) _
 have c0:W0.cell? ⟨w.heap.size,0,C⟩=S (L F c.k):=by rw[a];simp[go_sem]
 have c1:W0.cell? ⟨w.heap.size,1,C⟩=S (D c.a c.l.length c.c):=by rw[a];simp[go_sem]
 have x0:W0.cell? ⟨w.heap.size+1,0,C⟩=S (L F x.k):=by rw[a];simp[go_sem]
 have x1:W0.cell? ⟨w.heap.size+1,1,C⟩=S (D x.a x.l.length x.c):=by rw[a];simp[go_sem]
 have y0:W0.cell? ⟨w.heap.size+1+1,0,C⟩=S (L F y.k):=by rw[a];simp[go_sem]
 have y1:W0.cell? ⟨w.heap.size+1+1,1,C⟩=S (D y.a y.l.length y.c):=by rw[a];simp[go_sem]
 have z0:W0.cell? ⟨w.heap.size+1+1+1,0,C⟩=S (L F 0):=by rw[a];simp[go_sem]
 have z1:W0.cell? ⟨w.heap.size+1+1+1,1,C⟩=S (D C 0 0):=by rw[a];simp[go_sem]
 have z2:W0.cell? ⟨w.heap.size+1+1+1,2,C⟩=S (D C 0 0):=by rw[a];simp[go_sem]
 have m:∀i,W0.frozen? ⟨w.heap.size+1+1+1,i,C⟩=Zi:=by intro i;rw[a];simp[go_sem]
 have HF:=Yy (Qd x y W0 (hx.below k) (hy.below k) hh hs);have HJ:Zp (∀l,bL W0 l->Zn Zb 71 #[Zc x.v,Zc y.v] l fun e w'=>∃t:Tr,e=Zd (Zc t.v)/\t.ty=Xq x.ty y.ty/\t.In w'/\t.Bl (l.heap.size<=·)/\bL l w'):=fun l j=>P0 x y l ((hx.below k).below j) ((hy.below k).below j) rx ry hh
 clear hx hy rx ry hh hs;go_enter func105,ntmps105;go_wp2_with fail;rw[<-a];clear a;refine HF.out.mono ?_;rintro e l ⟨rfl,j⟩;clear HF;replace HJ:=HJ.out l j;have a5:=j.size;replace c0:=M j c0;replace c1:=M j c1;replace x0:=M j x0;replace x1:=M j x1;replace y0:=M j y0;replace y1:=M j y1;replace z0:=M j z0;replace z1:=M j z1;replace z2:=M j z2;replace m:∀i,l.frozen? ⟨w.heap.size+1+1+1,i,C⟩=Zi:=fun i=>(j.frozen (p:=⟨w.heap.size+1+1+1,i,C⟩) (by simp;omega)).trans (m i);have f0:=m 0;have f1:=m 1;have f2:=m 2;have d:=k.trans (j.mono (by omega));cases hr:YD Yl x.ty y.ty with
 |false=>have HE:Zp (bL w (((l.setCell ⟨w.heap.size+1+1+1,0,C⟩ (L F 0)).setCell ⟨w.heap.size+1+1+1,1,C⟩ (D C 0 0)).setCell ⟨w.heap.size+1+1+1,2,C⟩ (D C 0 0))):=((d.setCell (by simp;omega) _).setCell (by simp;omega) _).setCell (by simp;omega) _;have HR:=Yy hr;clear d k j hr HJ;go_wp2_with fail;refine Zf (v:=Zh #[Zc #[L F 0,D C 0 0,D C 0 0],.bool Zi]) ?_ rfl ⟨HE.out,.inl ⟨HR.out,rfl⟩⟩;simp[results,results105,go_sem,z0,z1,z2]
 |true=>
  have HB:=LL d a5 a4;have HR:=Yy hr;clear d k j hr;go_wp2_with fail;refine HJ.mono ?_;rintro e h ⟨t,rfl,ht,u,q,z⟩;have a1:=z.size;replace c0:=M z c0;replace c1:=M z c1;replace z0:=M z z0;replace z1:=M z z1;replace z2:=M z z2;replace m:∀i,h.frozen? ⟨w.heap.size+1+1+1,i,C⟩=Zi:=fun i=>(z.frozen (p:=⟨w.heap.size+1+1+1,i,C⟩) (by simp;omega)).trans (m i);replace f0:=m 0;replace f1:=m 1;replace f2:=m 2;have d:=HB.out.1.trans (z.mono (HB.out.1.size));have l3:w.heap.size+1+1+1<h.heap.size:=Ze _ _ z0;have a0:∀X,bL h (h.alloc X):=fun X=>(V _ _).alloc (Z _) _;have v0:=fun X=>M (a0 X) c0;have v1:=fun X=>M (a0 X) c1;have r:∀X Y,bL h ((h.alloc X).alloc Y):=fun X Y=>(a0 X).alloc (by simp) _;have v2:=fun X Y=>M (r X Y) z0;have v3:=fun X Y=>M (r X Y) z1;have v4:=fun X Y=>M (r X Y) z2;have v5:∀X Y i,((h.alloc X).alloc Y).frozen? ⟨w.heap.size+1+1+1,i,C⟩=Zi:=fun X Y i=>((r X Y).frozen (p:=⟨w.heap.size+1+1+1,i,C⟩) l3).trans (m i);clear r;clear a0;have a3:=u.below ((V h.heap.size h).alloc (Z _) (Zk t.v 24));have HT:=Aa ht u q d a1;clear x0 x1 y0 y1 m HJ ht u q d a1 z a3;go_wp2_with fail;obtain⟨X,hX⟩:∃X,X=Obj.cells t.v 24:=⟨_,rfl⟩
  have g0:∀i,((h.alloc X).alloc (Obj.cells #[L F c.k,c.s,L F t.k,t.s,L F t.k,t.s] 24)).cell? ⟨h.heap.size+1,i,C⟩=#[Value.int F c.k,c.s,L F t.k,t.s,L F t.k,t.s][i]?:=by intro i;simp[go_sem]
  have a2:bL h ((h.alloc X).alloc (Obj.cells #[L F c.k,c.s,L F t.k,t.s,L F t.k,t.s] 24)):=((V _ _).alloc (Z _) _).alloc (by simp) _;have e0:=v2 X (Obj.cells #[L F c.k,c.s,L F t.k,t.s,L F t.k,t.s] 24);have e1:=v3 X (Obj.cells #[L F c.k,c.s,L F t.k,t.s,L F t.k,t.s] 24);have e2:=v4 X (Obj.cells #[L F c.k,c.s,L F t.k,t.s,L F t.k,t.s] 24);rw[<-hX];clear v0 v1 v2 v3 v4 v5 hX;generalize (h.alloc X).alloc (Obj.cells #[L F c.k,c.s,L F t.k,t.s,L F t.k,t.s] 24)=W3 at *;obtain⟨ht,u,q,d,a1⟩:=HT.out;have a6:=HB.out;have nP:h.heap.size+1≠w.heap.size+1+1+1:=by omega
  have G:∀i,(((W3.setCell ⟨w.heap.size+1+1+1,0,C⟩ (L F t.k)).setCell ⟨w.heap.size+1+1+1,1,C⟩ (t.s)).setCell ⟨w.heap.size+1+1+1,2,C⟩ (D (S ⟨h.heap.size+1,0,C⟩) 3 3)).cell? ⟨h.heap.size+1,i,C⟩=#[Value.int F c.k,c.s,L F t.k,t.s,L F t.k,t.s][i]?:=by intro i;rw[Za _ _ _ _ (by simp),Za _ _ _ _ (by simp),Za _ _ _ _ (by simp)];exact g0 i
  have T:t.In (((W3.setCell ⟨w.heap.size+1+1+1,0,C⟩ (L F t.k)).setCell ⟨w.heap.size+1+1+1,1,C⟩ (t.s)).setCell ⟨w.heap.size+1+1+1,2,C⟩ (D (S ⟨h.heap.size+1,0,C⟩) 3 3)):=by
   refine Tr.In.congr (P:=fun b=>l.heap.size<=b) (fun b hb o=>?_) q (u.below a2);have a7:l.heap.size<=b:=hb;have nb:b≠w.heap.size+1+1+1:=by omega
   rw[Za _ _ _ _ (by simp),Za _ _ _ _ (by simp),Za _ _ _ _ (by simp)]
  have E:bL w (((W3.setCell ⟨w.heap.size+1+1+1,0,C⟩ (L F t.k)).setCell ⟨w.heap.size+1+1+1,1,C⟩ (t.s)).setCell ⟨w.heap.size+1+1+1,2,C⟩ (D (S ⟨h.heap.size+1,0,C⟩) 3 3)):=(((d.trans (a2.mono d.size)).setCell (by simp;omega) _).setCell (by simp;omega) _).setCell (by simp;omega) _
  refine Zf (v:=Zh #[Zc #[L F t.k,t.s,D (S ⟨h.heap.size+1,0,C⟩) 3 3],.bool Zs]) ?_ rfl ⟨E,.inr ⟨HR.out,t,h.heap.size+1,by have:=d.size;omega,ht,T,q.mono fun b hb=>by omega,rfl,G 0,G 1,G 2,G 3,G 4,G 5⟩⟩;simp[results,results105,go_sem,e0,e1,e2]
theorem RP(Q:Nat->Prop)(c x y:Tr)(w:Zg)(hc:c.In w)(k:x.In w)(p:y.In w)(rx:x.right)(ry:y.right)(r:x.hgt<=1000)(hs:x.sm)(l:∀b,w.heap.size<=b->Q b)(bc:c.Bl Q):
  Zn Zb 105 #[Zc #[L F c.k,D c.a c.l.length c.c],Zc #[L F x.k,D x.a x.l.length x.c],Zc #[L F y.k,D y.a y.l.length y.c]] w (Jr Q w (Ah c.ty x.ty y.ty)):=by
 refine(Pz c x y w k p rx ry r hs).mono ?_;rintro e w' ⟨j,⟨i,rfl⟩|⟨i,t,g,hg,ht,a,d,rfl,c0,c1,o,u,c4,z⟩⟩
 .exact⟨j,.inl ⟨by simp[Ah,i],rfl⟩⟩
 .have hbt:=d.mono fun b h=>l b h;refine⟨j,.inr ⟨t,⟨0,S ⟨g,0,C⟩,3,[c,t,t]⟩,?_,rfl,a,Vr c0 c1 o u c4 z (hc.below j) a a,hbt,?_⟩⟩
  .simp[Ah,i,ht]
  .refine Tr.ld.2 ⟨fun _ x k=>?_,fun q m=>?_⟩
   .cases k;exact l g hg
   .simp only[ZE,List.not_mem_nil,or_false] at m;rcases m with rfl|rfl|rfl
    .exact bc
    .exact hbt
    .exact hbt
theorem PC(Q:Nat->Prop)(x:Tr)(w:Zg)(q:x.In w)(rx:x.right)(h:∀b,w.heap.size<=b->Q b)(bx:x.Bl Q):
  Zn Zb 107 #[Zc #[L F x.k,D x.a x.l.length x.c]] w (Jr Q w (Uk x.ty)):=by
 obtain⟨k,a,c,l⟩:=x;by_cases h0:k=0
 .subst h0;refine(OW a l.length c w).mono ?_;rintro e w' ⟨b,g,r,m,rfl,d0,d1,d2,d3,j,p,i,z,d⟩;have iF:(Tr.mk 3 (S ⟨b,0,C⟩) 2 [Ys 0,Ys 0]).In w':=Tr.mp d0 d1 d2 d3 (YC _ _) (YC _ _);refine⟨d,.inr ⟨Ys 0,⟨0,S ⟨g,0,C⟩,2,[⟨3,S ⟨b,0,C⟩,2,[Ys 0,Ys 0]⟩,Ys 0]⟩,?_,rfl,YC _ _,Tr.mp j p i z iF (YC _ _),YF _ _,?_⟩⟩
  .simp[Uk,Tr.lh,Ys]
  .exact Tr.mg (h g m) (Tr.mg (h b r) (YF _ _) (YF _ _)) (YF _ _)
 .by_cases h3:k=3
  .subst h3;rcases Tr.right.cases rx with⟨_,hk⟩|⟨x,y,hl,_,_,_⟩
   .simp at hk
   .dsimp only at hl;subst hl;obtain⟨b,o,ha,p0,p1,ix⟩:=q.at 0 (by simp);obtain⟨b',o',u,q0,q1,iy⟩:=q.at 1 (by simp);subst ha;cases u
    refine(PA b o c x y w (by simpa using p0) (by simpa using p1) (by simpa using q0) (by simpa using q1)).mono ?_;rintro e w' ⟨g,hg,rfl,j,p,i,z,d⟩;obtain⟨bo,bl⟩:=Tr.ld.1 bx;refine⟨d,.inr ⟨y,⟨0,S ⟨g,0,C⟩,2,[⟨3,S ⟨b,o,C⟩,c,[x,y]⟩,x]⟩,?_,rfl,iy.below d,Tr.mp j p i z (q.below d) (ix.below d),bl y (by simp),?_⟩⟩
    .simp[Uk,Tr.lh]
    .exact Tr.mg (h g hg) bx (bl x (by simp))
  .refine(OY k (by simpa using h0) (by simpa using h3) a l.length c w).mono ?_;rintro e w' ⟨rfl,d⟩;exact⟨d,.inl ⟨by simp[Uk,Tr.lh,h0,h3],rfl⟩⟩
theorem CC(x:TT)(a b:Option ZC)(c d tm g:Nat)(w:Zg):
  Zn Zb 67 #[Zc #[L F 2,L F x.n,L F x.t.k,D x.t.a x.t.l.length x.t.c,L F x.f.k,D x.f.a x.f.l.length x.f.c,D x.a x.l.length x.c],D a c d,D b tm g] w fun e w'=>e=Zd (Zh #[Zc #[L F 1,D C 0 0,D C 0 0],.bool Zs])/\Zm w.heap.size w w':=by
 go_enter Zv,Zu;go_wp2_with fail;refine Zf (v:=Zh #[Zc #[L F 1,D C 0 0,D C 0 0],.bool Zs]) (by simp[results,Zr,go_sem]) rfl ⟨rfl,?_⟩;repeat (first|exact V _ _|refine ZD ?_|refine Zw ?_ (by first|(simp;done)|(simp;omega)|omega) _|refine Zx ?_ (by first|(simp;done)|(simp;omega)|omega) _)
theorem CA(x:TT)(a b:Option ZC)(c d tm g:Nat)(w:Zg):
  Zn Zb 67 #[Zc #[L F 3,L F x.n,L F x.t.k,D x.t.a x.t.l.length x.t.c,L F x.f.k,D x.f.a x.f.l.length x.f.c,D x.a x.l.length x.c],D a c d,D b tm g] w fun e w'=>e=Zd (Zh #[Zc #[L F 2,D C 0 0,D C 0 0],.bool Zs])/\Zm w.heap.size w w':=by
 go_enter Zv,Zu;go_wp2_with fail;refine Zf (v:=Zh #[Zc #[L F 2,D C 0 0,D C 0 0],.bool Zs]) (by simp[results,Zr,go_sem]) rfl ⟨rfl,?_⟩;repeat (first|exact V _ _|refine ZD ?_|refine Zw ?_ (by first|(simp;done)|(simp;omega)|omega) _|refine Zx ?_ (by first|(simp;done)|(simp;omega)|omega) _)
theorem Cz(x:TT)(a b:Option ZC)(c d tm h:Nat)(w:Zg):
  Zn Zb 67 #[Zc #[L F 4,L F x.n,L F x.t.k,D x.t.a x.t.l.length x.t.c,L F x.f.k,D x.f.a x.f.l.length x.f.c,D x.a x.l.length x.c],D a c d,D b tm h] w fun e w'=>∃g,w.heap.size<=g/\e=Zd (Zh #[Zc #[L F 1,D C 0 0,D (S ⟨g,0,C⟩) 2 2],.bool Zs])/\w'.cell? ⟨g,0,C⟩=S (L F 1)/\w'.cell? ⟨g,1,C⟩=S (D C 0 0)/\w'.cell? ⟨g,2,C⟩=S (L F 1)/\w'.cell? ⟨g,3,C⟩=S (D C 0 0)/\Zm w.heap.size w w':=by
 go_enter Zv,Zu;go_wp2_with fail;refine Zf (v:=Zh #[Zc #[L F 1,D C 0 0,D (S ⟨w.heap.size+1+1+1+1,0,C⟩) 2 2],.bool Zs]) (by simp[results,Zr,go_sem]) rfl ⟨w.heap.size+1+1+1+1,by omega,rfl,by simp[go_sem],by simp[go_sem],by simp[go_sem],by simp[go_sem],?_⟩;repeat (first|exact V _ _|refine ZD ?_|refine Zw ?_ (by first|(simp;done)|(simp;omega)|omega) _|refine Zx ?_ (by first|(simp;done)|(simp;omega)|omega) _)
theorem Cy(x:TT)(a b:Option ZC)(c d tm h:Nat)(w:Zg):
  Zn Zb 67 #[Zc #[L F 5,L F x.n,L F x.t.k,D x.t.a x.t.l.length x.t.c,L F x.f.k,D x.f.a x.f.l.length x.f.c,D x.a x.l.length x.c],D a c d,D b tm h] w fun e w'=>∃g,w.heap.size<=g/\e=Zd (Zh #[Zc #[L F 2,D C 0 0,D (S ⟨g,0,C⟩) 2 2],.bool Zs])/\w'.cell? ⟨g,0,C⟩=S (L F 1)/\w'.cell? ⟨g,1,C⟩=S (D C 0 0)/\w'.cell? ⟨g,2,C⟩=S (L F 1)/\w'.cell? ⟨g,3,C⟩=S (D C 0 0)/\Zm w.heap.size w w':=by
 go_enter Zv,Zu;go_wp2_with fail;refine Zf (v:=Zh #[Zc #[L F 2,D C 0 0,D (S ⟨w.heap.size+1+1+1+1,0,C⟩) 2 2],.bool Zs]) (by simp[results,Zr,go_sem]) rfl ⟨w.heap.size+1+1+1+1,by omega,rfl,by simp[go_sem],by simp[go_sem],by simp[go_sem],by simp[go_sem],?_⟩;repeat (first|exact V _ _|refine ZD ?_|refine Zw ?_ (by first|(simp;done)|(simp;omega)|omega) _|refine Zx ?_ (by first|(simp;done)|(simp;omega)|omega) _)
theorem Cu(x:TT)(a b:Option ZC)(c d tm h:Nat)(w:Zg):
  Zn Zb 67 #[Zc #[L F 9,L F x.n,L F x.t.k,D x.t.a x.t.l.length x.t.c,L F x.f.k,D x.f.a x.f.l.length x.f.c,D x.a x.l.length x.c],D a c d,D b tm h] w fun e w'=>∃g,w.heap.size<=g/\e=Zd (Zh #[Zc #[L F x.t.k,D x.t.a x.t.l.length x.t.c,D (S ⟨g,0,C⟩) 1 1],.bool Zs])/\w'.cell? ⟨g,0,C⟩=S (L F x.t.k)/\w'.cell? ⟨g,1,C⟩=S (D x.t.a x.t.l.length x.t.c)/\Zm w.heap.size w w':=by
 go_enter Zv,Zu;go_wp2_with fail;refine Zf (v:=Zh #[Zc #[L F x.t.k,x.t.s,D (S ⟨w.heap.size+1+1+1+1,0,C⟩) 1 1],.bool Zs]) (by simp[results,Zr,go_sem]) rfl ⟨w.heap.size+1+1+1+1,by omega,rfl,by simp[go_sem],by simp[go_sem],?_⟩;repeat (first|exact V _ _|refine ZD ?_|refine Zw ?_ (by first|(simp;done)|(simp;omega)|omega) _|refine Zx ?_ (by first|(simp;done)|(simp;omega)|omega) _)
def Uo(k:Int)(x:TT)(w:Zg):Zg:=(((w.alloc (Obj.cells #[L F k,L F x.n,L F x.t.k,D x.t.a x.t.l.length x.t.c,L F x.f.k,D x.f.a x.f.l.length x.f.c,D x.a x.l.length x.c] 27)).alloc (Obj.cells #[L F 0,D C 0 0,D C 0 0] 119)).alloc (Obj.cells #[L F 1,D C 0 0] 24)).alloc (Obj.cells #[L F 2,D C 0 0] 24)
theorem JT(k:Int)(x:TT)(w:Zg):Zm w.heap.size w (Uo k x w):=((((V _ _).alloc (Z _) _).alloc (by simp) _).alloc (by simp;omega) _).alloc (by simp;omega) _
structure WR(k:Int)(x:TT)(H:Nat)(W:Zg):Prop where
 t:Uz W H 0 { x with k:=k }
 r0:W.cell? ⟨H+1,0,C⟩=S (L F 0)
 r1:W.cell? ⟨H+1,1,C⟩=S (D C 0 0)
 r2:W.cell? ⟨H+1,2,C⟩=S (D C 0 0)
 rf:∀i,W.frozen? ⟨H+1,i,C⟩=Zi
 n0:W.cell? ⟨H+1+1,0,C⟩=S (L F 1)
 n1:W.cell? ⟨H+1+1,1,C⟩=S (D C 0 0)
 b0:W.cell? ⟨H+1+1+1,0,C⟩=S (L F 2)
 b1:W.cell? ⟨H+1+1+1,1,C⟩=S (D C 0 0)
theorem WR.below{H:Nat}{W':Zg}(h:WR k x H W)(hb:Zm W.heap.size W W'):WR k x H W':=⟨h.t.below hb,M hb h.r0,M hb h.r1,M hb h.r2,fun i=>(hb.frozen (p:=⟨H+1,i,C⟩) (show (⟨H+1,0,C⟩:ZC).block<W.heap.size from Ze _ _ h.r0)).trans (h.rf i),M hb h.n0,M hb h.n1,M hb h.b0,M hb h.b1⟩
theorem Pd(k:Int)(x:TT)(w:Zg):WR k x w.heap.size (Uo k x w):=by
 refine⟨⟨?_,?_,?_,?_,?_,?_,?_⟩,?_,?_,?_,?_,?_,?_,?_,?_⟩
 all_goals simp[Uo,go_sem]
theorem M5(k:Int)(x:TT)(w:Zg):(Uo k x w).heap.size=w.heap.size+1+1+1+1:=by simp[Uo]
theorem CD(x:TT)(n:Nat)(l:x.n=(n:Int))(j:Option ZC)(i k a b tm o:Nat)(h:n<tm)(t:Tr)(w:Zg)(g:w.cell? ⟨a,b+n*2,C⟩=S (L F t.k))(m:w.cell? ⟨a,b+n*2+1,C⟩=S (D t.a t.l.length t.c)):
  Zn Zb 67 #[Zc #[L F 1,L F (n:Int),L F x.t.k,D x.t.a x.t.l.length x.t.c,L F x.f.k,D x.f.a x.f.l.length x.f.c,D x.a x.l.length x.c],D j i k,D (S ⟨a,b,C⟩) tm o] w fun e w'=>e=Zd (Zh #[Zc #[L F t.k,D t.a t.l.length t.c,D C 0 0],.bool Zs])/\Zm w.heap.size w w':=by
 have lt:a<w.heap.size:=Ze _ _ g;have p:(n:Int)<(tm:Int):=by omega
 have c:=M (JT 1 x w) g;have d:=M (JT 1 x w) m;unfold Uo at c d;rw[l] at c d;go_enter Zv,Zu;go_wp2_with fail;refine Zf (v:=Zh #[Zc #[L F t.k,t.s,D C 0 0],.bool Zs]) (by simp[results,Zr,go_sem]) rfl ⟨rfl,?_⟩;repeat (first|exact V _ _|refine ZD ?_|refine Zw ?_ (by first|(simp;done)|(simp;omega)|omega) _|refine Zx ?_ (by first|(simp;done)|(simp;omega)|omega) _)
theorem Jr.store{w1:Zg}{I U:Tr}(c:Zm w.heap.size w w1)(a:WR k x w.heap.size w1)(i:I.In w1)(l:U.In w1)(d:I.Bl fun b=>Q b/\b≠w.heap.size+1)(e:U.Bl fun b=>Q b/\b≠w.heap.size+1):
  ∃W,W=(((w1.setCell ⟨w.heap.size+1,0,C⟩ (L F I.k)).setCell ⟨w.heap.size+1,1,C⟩ (D I.a I.l.length I.c)).setCell ⟨w.heap.size+1,2,C⟩ (D U.a U.l.length U.c))/\Zm w.heap.size w W/\I.In W/\U.In W/\I.Bl Q/\U.Bl Q/\
   W.cell? ⟨w.heap.size+1,0,C⟩=S (L F I.k)/\W.cell? ⟨w.heap.size+1,1,C⟩=S (D I.a I.l.length I.c)/\W.cell? ⟨w.heap.size+1,2,C⟩=S (D U.a U.l.length U.c):=by
 have g:∀b,(Q b/\b≠w.heap.size+1)->∀o,(((w1.setCell ⟨w.heap.size+1,0,C⟩ (L F I.k)).setCell ⟨w.heap.size+1,1,C⟩ (I.s)).setCell ⟨w.heap.size+1,2,C⟩ (U.s)).cell? ⟨b,o,C⟩=w1.cell? ⟨b,o,C⟩:=by intro b c o;have nb:=c.2;rw[Za _ _ _ _ (by simp),Za _ _ _ _ (by simp),Za _ _ _ _ (by simp)]
 refine⟨_,rfl,((c.setCell (by simp) _).setCell (by simp) _).setCell (by simp) _,i.congr g d,l.congr g e,d.mono fun b h=>h.1,e.mono fun b h=>h.1,?_,?_,?_⟩
 .simpa using Yp (j:=2) (v:=U.s) (Yp (j:=1) (v:=I.s) (Yp (j:=0) (v:=L F I.k) a.r0))
 .simpa using Yp (j:=2) (v:=U.s) (Yp (j:=1) (v:=I.s) (Yp (j:=0) (v:=L F I.k) a.r1))
 .simpa using Yp (j:=2) (v:=U.s) (Yp (j:=1) (v:=I.s) (Yp (j:=0) (v:=L F I.k) a.r2))
theorem Cv(Q:Nat->Prop)(x:TT)(p:Tr)(m l k pc:Nat)(ta:Option ZC)(tm tc:Nat)(w:Zg)(hm:0<k)(c0:w.cell? ⟨m,l,C⟩=S (L F p.k))(c1:w.cell? ⟨m,l+1,C⟩=S (D p.a p.l.length p.c))(o:p.In w)(u:p.right)(hQ:∀b,w.heap.size<=b->Q b)(bp:p.Bl Q):
  Zn Zb 67 #[Zc #[L F 8,L F x.n,L F x.t.k,D x.t.a x.t.l.length x.t.c,L F x.f.k,D x.f.a x.f.l.length x.f.c,D x.a x.l.length x.c],D (S ⟨m,l,C⟩) k pc,D ta tm tc] w (Jr Q w (Uk p.ty)):=by
 have a:=JT 8 x w;have c:=Pd 8 x w;have hz:=M5 8 x w;have j:Zp (Zn Zb 107 #[Zc p.v] (Uo 8 x w) (Jr (fun b=>Q b/\b≠w.heap.size+1) (Uo 8 x w) (Uk p.ty))):=PC _ p (Uo 8 x w) (o.below a) u (fun b hb=>⟨hQ b (by omega),by omega⟩) (bp.and (o.bl.mono fun b hb=>by omega))
 have d0:=M a c0;have d1:=M a c1;have i1:(0:Int)<(k:Int):=by omega
 obtain⟨W0,d⟩:∃W0,W0=Uo 8 x w:=⟨_,rfl⟩
 rw[<-d] at a c hz j;unfold Uo at d0 d1 d;clear c0 c1 o u bp;go_enter Zv,Zu;go_wp2_with fail;rw[<-d];clear d d0 d1;refine j.out.mono ?_;rintro e w1 ⟨h,⟨i,rfl⟩|⟨I,U,i,rfl,iI,q,r,bU⟩⟩
 .have hw1:=c.below h;obtain⟨_,r0,y,r2,g,_,_,_,_⟩:=hw1;have f0:=g 0;have f1:=g 1;have f2:=g 2;have HE:Zp (Jr Q w (Uk p.ty) (Zd (Zh #[Zc #[L F 0,D C 0 0,D C 0 0],.bool Zi])) (((w1.setCell ⟨w.heap.size+1,0,C⟩ (L F 0)).setCell ⟨w.heap.size+1,1,C⟩ (D C 0 0)).setCell ⟨w.heap.size+1,2,C⟩ (D C 0 0))):=⟨(((a.trans (h.mono (by omega))).setCell (by simp) _).setCell (by simp) _).setCell (by simp) _,.inl ⟨i,rfl⟩⟩
  clear a h hz i j c;go_wp2_with fail;refine Zf (v:=Zh #[Zc #[L F 0,D C 0 0,D C 0 0],.bool Zi]) ?_ rfl HE.out;simp[results,Zr,go_sem,r0,y,r2]
 .have hw1:=c.below h;have HS:Zp _:=Jr.store (Q:=Q) (a.trans (h.mono (by omega))) hw1 iI q r bU;obtain⟨_,r0,y,r2,g,_,_,_,_⟩:=hw1;have f0:=g 0;have f1:=g 1;have f2:=g 2;have HR:=Yy i;clear a h hz i j c iI q r bU;go_wp2_with fail;obtain⟨W,z,e1,e2,e3,e4,e5,e6,e7,e8⟩:=HS.out;rw[<-z];clear z;refine Zf (v:=Zh #[Zc #[L F I.k,I.s,U.s],.bool Zs]) ?_ rfl ⟨e1,.inr ⟨I,U,HR.out,rfl,e2,e3,e4,e5⟩⟩;simp[results,Zr,go_sem,e6,e7,e8]
theorem Jr.letters{r:Option (Ty×List Ty)}{e:Ending}(h:Jr Q w r e w'):
  ∃(I U:Tr)(b:Bool),e=Zd (Zh #[Zc #[L F I.k,D I.a I.l.length I.c,D U.a U.l.length U.c],.bool b])/\Zm w.heap.size w w'/\I.In w'/\U.In w'/\I.Bl Q/\U.Bl Q/\((b=Zi/\r=C/\I=Ys 0/\U=Ys 0)\/(b=Zs/\r=S (I.ty,U.l.map Tr.ty))):=by
 obtain⟨c,⟨a,rfl⟩|⟨I,U,a,rfl,i,d,g,j⟩⟩:=h
 .exact⟨Ys 0,Ys 0,Zi,rfl,c,YC _ _,YC _ _,YF _ _,YF _ _,.inl ⟨rfl,a,rfl,rfl⟩⟩
 .exact⟨I,U,Zs,rfl,c,i,d,g,j,.inr ⟨rfl,a⟩⟩
theorem Jr.of{r:Option (Ty×List Ty)}{I U:Tr}{b:Bool}(a:Zm w.heap.size w w')(c:I.In w')(e:U.In w')(g:I.Bl Q)(d:U.Bl Q)(h:(b=Zi/\r=C/\I=Ys 0/\U=Ys 0)\/(b=Zs/\r=S (I.ty,U.l.map Tr.ty))):
  Jr Q w r (Zd (Zh #[Zc #[L F I.k,D I.a I.l.length I.c,D U.a U.l.length U.c],.bool b])) w':=by
 rcases h with⟨rfl,rfl,rfl,rfl⟩|⟨rfl,i⟩
 .exact⟨a,.inl ⟨rfl,rfl⟩⟩
 .exact⟨a,.inr ⟨I,U,i,rfl,c,e,g,d⟩⟩
theorem Cx(Q:Nat->Prop)(x:TT)(p q:Tr)(pb po pm pc:Nat)(ta:Option ZC)(tm tc:Nat)(w:Zg)(hm:2<pm)(c0:w.cell? ⟨pb,po+2,C⟩=S (L F p.k))(c1:w.cell? ⟨pb,po+3,C⟩=S (D p.a p.l.length p.c))(c2:w.cell? ⟨pb,po+4,C⟩=S (L F q.k))(c3:w.cell? ⟨pb,po+5,C⟩=S (D q.a q.l.length q.c))(hp:p.In w)(hq:q.In w)(rp:p.right)(rq:q.right)(hh:p.hgt<=1000)(hs:p.sm)(hQ:∀b,w.heap.size<=b->Q b):
  Zn Zb 67 #[Zc #[L F 6,L F x.n,L F x.t.k,D x.t.a x.t.l.length x.t.c,L F x.f.k,D x.f.a x.f.l.length x.f.c,D x.a x.l.length x.c],D (S ⟨pb,po,C⟩) pm pc,D ta tm tc] w (Jr Q w (Ah ⟨2,[]⟩ p.ty q.ty)):=by
 have a:=(JT 6 x w).drew;have d:WR 6 x w.heap.size (Uo 6 x w).drew:=(Pd 6 x w).below ((V _ _).drew);have hz:(Uo 6 x w).drew.heap.size=w.heap.size+1+1+1+1:=M5 6 x w;have k:Zp (Zn Zb 105 #[Zc #[L F 2,D C 0 0],Zc #[L F p.k,D p.a p.l.length p.c],Zc #[L F q.k,D q.a q.l.length q.c]] (Uo 6 x w).drew (Jr (fun b=>Q b/\b≠w.heap.size+1) (Uo 6 x w).drew (Ah ⟨2,[]⟩ p.ty q.ty))):=by have:=RP (fun b=>Q b/\b≠w.heap.size+1) (Ys 2) p q (Uo 6 x w).drew (YC _ _) (hp.below a) (hq.below a) rp rq hh hs (fun b hb=>⟨hQ b (by omega),by omega⟩) (YF _ _);rw[XL] at this;exact this
 have d0:=M a c0;have d1:=M a c1;have d2:=M a c2;have d3:=M a c3;have i1:(1:Int)<(pm:Int):=by omega
 have i2:(2:Int)<(pm:Int):=by omega
 have j1:1<pm:=by omega
 obtain⟨W0,c⟩:∃W0,W0=Uo 6 x w:=⟨_,rfl⟩
 rw[<-c] at a d hz k d0 d1 d2 d3;unfold Uo at c;clear c0 c1 c2 c3 hp hq rp rq hh hs;obtain⟨_,r0,r1,r2,g,_,_,b0,b1⟩:=id d;have f0:=g 0;have f1:=g 1;have f2:=g 2;have i:Zp (Zm w.heap.size w W0.drew/\WR 6 x w.heap.size W0.drew/\W0.drew.heap.size=w.heap.size+1+1+1+1):=⟨a,d,hz⟩
 clear a d hz;go_enter Zv,Zu;go_wp2_with fail;rw[<-c];clear c;go_region_law
  (first
   |(go_simp;go_at_call 105;refine k.out.mono ?_;rintro e w1 z;obtain⟨I,U,b,rfl,j,u,l,m,y,r⟩:=z.letters;have h:=i.out.2.1.below j;obtain⟨_,r0,r1,r2,g,_,_,_,_⟩:=id h;have f0:=g 0;have f1:=g 1;have f2:=g 2;go_wp2_with fail))
 all_goals
  have HS:Zp _:=Jr.store (Q:=Q) (i.out.1.trans (j.mono (by have:=i.out.2.2;omega))) h u l m y
  have HR:Zp _:=r
  clear j k i h u l m y z r
  go_wp2_with fail
  obtain⟨W,o,e1,e2,e3,e4,e5,e6,e7,e8⟩:=HS.out
  rw[<-o]
  clear o
  refine Zf (v:=Zh #[Zc #[L F I.k,I.s,U.s],.bool b]) ?_ rfl (Jr.of e1 e2 e3 e4 e5 HR.out)
  simp[results,Zr,go_sem,e6,e7,e8]
theorem Cw(Q:Nat->Prop)(x:TT)(p:Tr)(pb po pc:Nat)(ta:Option ZC)(tm tc:Nat)(w:Zg)(c0:w.cell? ⟨pb,po,C⟩=S (L F p.k))(c1:w.cell? ⟨pb,po+1,C⟩=S (D p.a p.l.length p.c))(hp:p.In w)(ht:x.t.In w)(bp:p.Bl Q)(bt:x.t.Bl Q)(hpb:Q pb)(hQ:∀b,w.heap.size<=b->Q b):
  Zn Zb 67 #[Zc #[L F 7,L F x.n,L F x.t.k,D x.t.a x.t.l.length x.t.c,L F x.f.k,D x.f.a x.f.l.length x.f.c,D x.a x.l.length x.c],D (S ⟨pb,po,C⟩) 1 pc,D ta tm tc] w (Jr Q w (S (⟨3,[x.t.ty,p.ty]⟩,[p.ty]))):=by
 have a:=(JT 7 x w).drew;have d:WR 7 x w.heap.size (Uo 7 x w).drew:=(Pd 7 x w).below ((V _ _).drew);have hz:(Uo 7 x w).drew.heap.size=w.heap.size+1+1+1+1:=M5 7 x w;have hU:(Tr.mk 0 (S ⟨pb,po,C⟩) pc [p]).In w:=by
  refine Tr.li.2 ⟨fun j h=>?_,fun t h=>?_⟩
  .have hj:j=0:=by simpa using h
   subst hj;exact⟨pb,po,rfl,by simpa using c0,by simpa[Tr.sl] using c1⟩
  .have:t=p:=by simpa using h
   subst this;exact hp
 have a2:pb<w.heap.size:=Ze _ _ c0;have l:(Tr.mk 0 (S ⟨pb,po,C⟩) pc [p]).Bl fun b=>Q b/\b≠w.heap.size+1:=by
  refine Tr.ld.2 ⟨fun _ y hy=>?_,fun t h=>?_⟩
  .cases hy;exact⟨hpb,by show pb≠_;omega⟩
  .have:t=p:=by simpa using h
   subst this;exact bp.and (hp.bl.mono fun b q=>by omega)
 have HC:Zp (Zn Zb 106 #[Zc #[L F x.t.k,D x.t.a x.t.l.length x.t.c],Zc #[L F p.k,D p.a p.l.length p.c]] (Uo 7 x w).drew fun e w'=>∃I:Tr,e=Zd (Zc #[L F I.k,D I.a I.l.length I.c])/\I.ty=⟨3,[x.t.ty,p.ty]⟩/\I.In w'/\(I.Bl fun b=>Q b/\b≠w.heap.size+1)/\Zm (Uo 7 x w).drew.heap.size (Uo 7 x w).drew w'):=by refine(VC x.t p (Uo 7 x w).drew (ht.below a) (hp.below a)).mono ?_;rintro e w' ⟨g,hg,rfl,a1,q⟩;refine⟨⟨3,S ⟨g,0,C⟩,2,[x.t,p]⟩,rfl,by simp[Tr.lh],a1,Tr.mg ⟨hQ g (by omega),by omega⟩ (bt.and (ht.bl.mono fun b q=>by omega)) (bp.and (hp.bl.mono fun b q=>by omega)),q⟩
 have z:Zp ((Tr.mk 0 (S ⟨pb,po,C⟩) pc [p]).In (Uo 7 x w).drew/\(Tr.mk 0 (S ⟨pb,po,C⟩) pc [p]).Bl fun b=>Q b/\b≠w.heap.size+1):=⟨hU.below a,l⟩
 have d0:=M a c0;have d1:=M a c1;obtain⟨W0,c⟩:∃W0,W0=Uo 7 x w:=⟨_,rfl⟩
 rw[<-c] at a d hz HC z d0 d1;unfold Uo at c;clear c0 c1 hp ht bp bt hU l hQ;obtain⟨⟨_,_,t2,t3,_,_,_⟩,r0,r1,r2,i,_,_,_,_⟩:=id d;have f0:=i 0;have f1:=i 1;have f2:=i 2;have r:Zp (Zm w.heap.size w W0.drew/\WR 7 x w.heap.size W0.drew/\W0.drew.heap.size=w.heap.size+1+1+1+1):=⟨a,d,hz⟩
 clear a d hz;go_enter Zv,Zu;go_wp2_with fail;rw[<-c];clear c;go_region_law
  (first
   |(go_simp;go_at_call 106;refine HC.out.mono ?_;rintro e w1 ⟨I,rfl,o,iI,bI,u⟩;have k:=r.out.2.1.below u;obtain⟨_,r0,r1,r2,i,_,_,_,_⟩:=id k;have f0:=i 0;have f1:=i 1;have f2:=i 2;go_wp2_with fail))
 all_goals
  have HS:Zp _:=Jr.store (Q:=Q) (r.out.1.trans (u.mono (by have:=r.out.2.2;omega))) k iI (z.out.1.below u) bI z.out.2
  have HR:Zp (S ((⟨3,[x.t.ty,p.ty]⟩:Ty),[p.ty])=S (I.ty,(Tr.mk 0 (S ⟨pb,po,C⟩) pc [p]).l.map Tr.ty)):=by rw[o];exact rfl
  clear u HC r z k iI bI o
  go_wp2_with fail
  obtain⟨W,hW,e1,e2,e3,e4,e5,e6,e7,e8⟩:=HS.out
  have m:W=(((w1.setCell ⟨w.heap.size+1,0,C⟩ (L F I.k)).setCell ⟨w.heap.size+1,1,C⟩ (I.s)).setCell ⟨w.heap.size+1,2,C⟩ (D (S ⟨pb,po,C⟩) 1 pc)):=hW
  rw[<-m]
  clear hW m
  refine Zf (v:=Zh #[Zc #[L F I.k,I.s,D (S ⟨pb,po,C⟩) 1 pc],.bool Zs]) ?_ rfl (Jr.of (U:=⟨0,S ⟨pb,po,C⟩,pc,[p]⟩) e1 e2 e3 e4 e5 (.inr ⟨rfl,HR.out⟩))
  have a0:cL W (w.heap.size+1) 2 (D (S ⟨pb,po,C⟩) 1 pc):=e8
  simp[results,Zr,go_sem,e6,e7,a0]
def YK(k n:Int)(t:Ty)(ps takes:List Ty):Option (Ty×List Ty):=
 if k=1 then S (takes.getD n.toNat ⟨0,[]⟩,[])
 else if k=2 then S (⟨1,[]⟩,[])
 else if k=3 then S (⟨2,[]⟩,[])
 else if k=4 then S (⟨1,[]⟩,[⟨1,[]⟩,⟨1,[]⟩])
 else if k=5 then S (⟨2,[]⟩,[⟨1,[]⟩,⟨1,[]⟩])
 else if k=6 then Ah ⟨2,[]⟩ (ps.getD 1 ⟨0,[]⟩) (ps.getD 2 ⟨0,[]⟩)
 else if k=7 then S (⟨3,[t,ps.getD 0 ⟨0,[]⟩]⟩,ps)
 else if k=8 then Uk (ps.getD 0 ⟨0,[]⟩)
 else if k=9 then S (t,[t])
 else C
theorem WJ{x:Tr}(h:Q g)(d:x.Bl Q):(Tr.mk 0 (S ⟨g,0,C⟩) c [x]).Bl Q:=by
 refine Tr.ld.2 ⟨fun _ y b=>by cases b;exact h,fun t a=>?_⟩;have:t=x:=by simpa using a
 subst this;exact d
theorem FC{x:Tr}(e:w.cell? ⟨g,0,C⟩=S (L F x.k))(d:w.cell? ⟨g,1,C⟩=S (D x.a x.l.length x.c))(a:x.In w):(Tr.mk 0 (S ⟨g,0,C⟩) c [x]).In w:=by
 refine Tr.li.2 ⟨fun j h=>?_,fun t b=>?_⟩
 .have hj:j=0:=by simpa using h
  subst hj;exact⟨g,0,rfl,by simpa using e,by simpa[Tr.sl] using d⟩
 .have:t=x:=by simpa using b
  subst this;exact a
theorem VO(Q:Nat->Prop)(x:TT)(p T:Tr)(w:Zg)(h1:1<=x.k)(h9:x.k<=9)(hp:p.l.length=Yu x.k)(hn:x.k=1->0<=x.n/\x.n<(T.l.length:Int))
  (ht:x.t.In w) (bt:x.t.Bl Q) (ip:p.In w) (bp:p.Bl Q) (iT:T.In w) (bT:T.Bl Q) (y:∀t,t∈p.l->t.right/\t.hgt<=1000/\t.sm) (z:∀b,w.heap.size<=b->Q b) :
  Zn Zb 67 #[Zc #[L F x.k,L F x.n,L F x.t.k,D x.t.a x.t.l.length x.t.c,L F x.f.k,D x.f.a x.f.l.length x.f.c,D x.a x.l.length x.c],D p.a p.l.length p.c,D T.a T.l.length T.c] w (Jr Q w (YK x.k x.n x.t.ty (p.l.map Tr.ty) (T.l.map Tr.ty))):=by
 have hk:x.k=1\/x.k=2\/x.k=3\/x.k=4\/x.k=5\/x.k=6\/x.k=7\/x.k=8\/x.k=9:=by omega
 rcases hk with e|e|e|e|e|e|e|e|e
 .obtain⟨m,hm⟩:∃m:Nat,x.n=(m:Int):=⟨x.n.toNat,by have:=hn e;omega⟩
  have r:m<T.l.length:=by have:=hn e;omega
  obtain⟨b,o,j,h,i,hi⟩:=iT.part m r;have a2:T.l[m].Bl Q:=by obtain⟨k,a,c,l⟩:=T;exact(Tr.ld.1 bT).2 _ (Zj r)
  rw[e,hm,j];refine(CD x m hm p.a p.l.length p.c b o T.l.length T.c r T.l[m] w h i).mono ?_;rintro e w' ⟨rfl,d⟩;exact⟨d,.inr ⟨T.l[m],Ys 0,by simp[YK,Ys,r],rfl,hi.below d,YC _ _,a2,YF _ _⟩⟩
 .rw[e];refine(CC x p.a T.a p.l.length p.c T.l.length T.c w).mono ?_;rintro e w' ⟨rfl,d⟩;exact⟨d,.inr ⟨Ys 1,Ys 0,by simp[YK,Ys,Tr.lh],rfl,YC _ _,YC _ _,YF _ _,YF _ _⟩⟩
 .rw[e];refine(CA x p.a T.a p.l.length p.c T.l.length T.c w).mono ?_;rintro e w' ⟨rfl,d⟩;exact⟨d,.inr ⟨Ys 2,Ys 0,by simp[YK,Ys,Tr.lh],rfl,YC _ _,YC _ _,YF _ _,YF _ _⟩⟩
 .rw[e];refine(Cz x p.a T.a p.l.length p.c T.l.length T.c w).mono ?_;rintro e w' ⟨g,hg,rfl,h,i,c2,c3,d⟩;exact⟨d,.inr ⟨Ys 1,⟨0,S ⟨g,0,C⟩,2,[Ys 1,Ys 1]⟩,by simp[YK,Ys,Tr.lh],rfl,YC _ _,Tr.mp h i c2 c3 (YC _ _) (YC _ _),YF _ _,Tr.mg (z g hg) (YF _ _) (YF _ _)⟩⟩
 .rw[e];refine(Cy x p.a T.a p.l.length p.c T.l.length T.c w).mono ?_;rintro e w' ⟨g,hg,rfl,h,i,c2,c3,d⟩;exact⟨d,.inr ⟨Ys 2,⟨0,S ⟨g,0,C⟩,2,[Ys 1,Ys 1]⟩,by simp[YK,Ys,Tr.lh],rfl,YC _ _,Tr.mp h i c2 c3 (YC _ _) (YC _ _),YF _ _,Tr.mg (z g hg) (YF _ _) (YF _ _)⟩⟩
 .have hl:p.l.length=3:=by rw[hp,e];rfl
  obtain⟨b,o,j,h,i,a0⟩:=ip.part 1 (by omega);obtain⟨b',o',eb,d0,d1,a1⟩:=ip.part 2 (by omega);rw[j] at eb;cases eb
  have o1:=y _ (Zj (show 1<p.l.length by omega));have o2:=y _ (Zj (show 2<p.l.length by omega));have he:YK 6 x.n x.t.ty (p.l.map Tr.ty) (T.l.map Tr.ty)=Ah ⟨2,[]⟩ (p.l[1]'(by omega)).ty (p.l[2]'(by omega)).ty:=by simp[YK,hl]
  rw[e,j,he];exact Cx Q x _ _ b o p.l.length p.c T.a T.l.length T.c w (by omega) h i d0 d1 a0 a1 o1.1 o2.1 o1.2.1 o1.2.2 z
 .have hl:p.l.length=1:=by rw[hp,e];rfl
  obtain⟨q,hq⟩:∃q,p.l=[q]:=List.length_eq_one_iff.1 hl;obtain⟨b,o,j,h,i,hi⟩:=ip.part 0 (by omega);have a3:p.l[0]'(by omega)=q:=by simp[hq]
  rw[a3] at h i hi;have u:q.Bl Q/\Q b:=by obtain⟨k,a,c,l⟩:=p;dsimp only at hq j;subst hq j;exact⟨(Tr.ld.1 bp).2 _ (by simp),(Tr.ld.1 bp).1 (by simp) _ rfl⟩
  have he:YK 7 x.n x.t.ty (p.l.map Tr.ty) (T.l.map Tr.ty)=S (⟨3,[x.t.ty,q.ty]⟩,[q.ty]):=by simp[YK,hq]
  rw[e,j,he,hl];exact Cw Q x q b o p.c T.a T.l.length T.c w (by simpa using h) (by simpa using i) hi ht u.1 bt u.2 z
 .have hl:p.l.length=2:=by rw[hp,e];rfl
  obtain⟨b,o,j,h,i,hi⟩:=ip.part 0 (by omega);have o1:=y _ (Zj (show 0<p.l.length by omega));have u:(p.l[0]'(by omega)).Bl Q:=by obtain⟨k,a,c,l⟩:=p;exact(Tr.ld.1 bp).2 _ (Zj (by dsimp only at hl;omega))
  have he:YK 8 x.n x.t.ty (p.l.map Tr.ty) (T.l.map Tr.ty)=Uk (p.l[0]'(by omega)).ty:=by simp[YK,hl]
  rw[e,j,he];exact Cv Q x _ b o p.l.length p.c T.a T.l.length T.c w (by omega) (by simpa using h) (by simpa using i) hi o1.1 z u
 .rw[e];refine(Cu x p.a T.a p.l.length p.c T.l.length T.c w).mono ?_;rintro e w' ⟨g,hg,rfl,h,i,d⟩;exact⟨d,.inr ⟨x.t,⟨0,S ⟨g,0,C⟩,1,[x.t]⟩,by simp[YK],rfl,ht.below d,FC h i (ht.below d),bt,WJ (z g hg) bt⟩⟩
structure Rd where
 n:Int
 y:TT
 i:Tr
structure EY(w:Zg)(b o:Nat)(r:Rd):Prop where
 n:w.cell? ⟨b,o,C⟩=S (L F r.n)
 y:Uz w b (o+1) r.y
 k:w.cell? ⟨b,o+8,C⟩=S (L F r.i.k)
 l:w.cell? ⟨b,o+9,C⟩=S (D r.i.a r.i.l.length r.i.c)
theorem EY.below{b:Nat}{r:Rd}(hb:Zm w.heap.size w w')(h:EY w b o r):EY w' b o r:=⟨M hb h.n,h.y.below hb,M hb h.k,M hb h.l⟩
def RL(w:Zg)(a:Option ZC)(rs:List Rd):Prop:=∀j(h:j<rs.length),∃b o,a=S ⟨b,o,C⟩/\EY w b (o+j*10) rs[j]/\rs[j].y.In w/\rs[j].i.In w
theorem RL.below{a:Option ZC}{rs:List Rd}(c:Zm w.heap.size w w')(h:RL w a rs):RL w' a rs:=by intro j d;obtain⟨b,o,e,i,g,k⟩:=h j d;exact⟨b,o,e,i.below c,g.below c,k.below c⟩
def U6:List Ty->List Ty->Bool
 |x::r,y::s=>YD Yl x y&&U6 r s
 |_,_=>Zs
theorem TS:∀(l m:List Ty),(∀j(h:j<l.length)(h':j<m.length),YD Yl l[j] m[j]=Zs)->U6 l m=Zs
 |[],_,_=>by simp[U6]
 |_::_,[],_=>by simp[U6]
 |x::r,y::s,h=>by simp only[U6,Bool.and_eq_true];exact⟨h 0 (by simp) (by simp),TS r s fun j h1 h2=>h (j+1) (by simpa using h1) (by simpa using h2)⟩
theorem TQ:∀(l m:List Ty)(j:Nat)(h:j<l.length)(h':j<m.length),YD Yl l[j] m[j]=Zi->U6 l m=Zi
 |[],_,_,h,_,_=>by simp at h
 |_::_,[],_,_,h',_=>by simp at h'
 |x::r,y::s,0,_,_,e=>by simp only[List.getElem_cons_zero] at e;simp[U6,e]
 |x::r,y::s,j+1,h,h',e=>by simp only[U6,TQ r s j (by simpa using h) (by simpa using h') (by simpa using e),Bool.and_false]
theorem WM(d:List Rd)(a:Option ZC)(c:Nat)(U:Tr)(w:Zg)(hr:RL w a d)(hU:U.In w)(hl:d.length=U.l.length)(h3:d.length<=1000)(a1:∀r,r∈d->r.i.hgt<=1000/\r.i.sm):
  Zn Zb 69 #[D a d.length c,D U.a U.l.length U.c] w fun e w'=>e=Zd (.bool (U6 (d.map fun r=>r.i.ty) (U.l.map Tr.ty)))/\Zm w.heap.size w w':=by
 have HF:Zp (∀j(h:j<d.length)(y:j<U.l.length)(W:Zg),d[j].i.In W->U.l[j].In W->Zn Zb 108 #[Zc d[j].i.v,Zc U.l[j].v] W fun e w'=>e=Zd (.bool (YD Yl d[j].i.ty U.l[j].ty))/\bL W w'):=fun j h y W h1 h2=>Qd _ _ W h1 h2 (a1 _ (Zj h)).1 (a1 _ (Zj h)).2
 have HR:=Yy hr;have HU:=Yy hU;have HL:=Yy hl;clear hr hU hl a1;go_enter func69,ntmps69;go_wp2_with fail;go_loopg [9] d.length (fun g i wr=>∃(j:Nat),g+j=d.length/\i=L F (j:Int)/\Zp (bL w wr/\∀q(h:q<d.length)(y:q<U.l.length),q<j->YD Yl d[q].i.ty U.l[q].ty=Zs))
 case atStart=>exact⟨0,by omega,rfl,V _ _,fun q _ _ h=>absurd h (by omega)⟩
 case round=>
  obtain⟨j,hj,rfl,x⟩:=hrel;by_cases hlt:j<d.length
  .have hlt':j<U.l.length:=HL.out▸hlt;obtain⟨b,o,ea,a5,hy,hi⟩:=HR.out j hlt;obtain⟨b',o',eb,u0,u1,hu⟩:=HU.out.part j hlt';have hb:=x.out.1;have a7:=a5.below hb;obtain⟨d0,⟨d1,d2,d3,d4,d5,d6,d7⟩,d8,d9⟩:=a7;replace u0:=M hb u0;replace u1:=M hb u1;have i1:(j:Int)<(d.length:Int):=by omega
   have i2:(j:Int)<(U.l.length:Int):=by omega
   have i0:(0:Int)<=(j:Int):=by omega
   have a9:=Yy ea;have a8:=Yy eb;rw[ea,eb];clear ea eb;have a0:(wr.alloc (Zk #[L F d[j].n,L F d[j].y.k,L F d[j].y.n,L F d[j].y.t.k,D d[j].y.t.a d[j].y.t.l.length d[j].y.t.c,L F d[j].y.f.k,D d[j].y.f.a d[j].y.f.l.length d[j].y.f.c,D d[j].y.a d[j].y.l.length d[j].y.c,L F d[j].i.k,D d[j].i.a d[j].i.l.length d[j].i.c] 64)).cell? ⟨wr.heap.size,8,C⟩=S (L F d[j].i.k):=by simp[go_sem]
   have u:(wr.alloc (Zk #[L F d[j].n,L F d[j].y.k,L F d[j].y.n,L F d[j].y.t.k,D d[j].y.t.a d[j].y.t.l.length d[j].y.t.c,L F d[j].y.f.k,D d[j].y.f.a d[j].y.f.l.length d[j].y.f.c,D d[j].y.a d[j].y.l.length d[j].y.c,L F d[j].i.k,D d[j].i.a d[j].i.l.length d[j].i.c] 64)).cell? ⟨wr.heap.size,9,C⟩=S (D d[j].i.a d[j].i.l.length d[j].i.c):=by simp[go_sem]
   have m:bL wr (wr.alloc (Zk #[L F d[j].n,L F d[j].y.k,L F d[j].y.n,L F d[j].y.t.k,d[j].y.t.s,L F d[j].y.f.k,d[j].y.f.s,d[j].y.s,L F d[j].i.k,d[j].i.s] 64)):=(V _ _).alloc (Z _) _;have v0:=M m u0;have v1:=M m u1;have p:=hb.trans (m.mono hb.size);have a3:=hi.below p;have a4:=hu.below p;have a2:=HF.out j hlt hlt';clear m u0 u1 hi hu a5 hy;obtain⟨r,z⟩:∃r,YD Yl d[j].i.ty U.l[j].ty=r:=⟨_,rfl⟩
   rw[z] at a2;have HC:=Yy a2;have a6:=Yy z;have HI:=LL a3 a4 p;clear a2 z a3 a4 p;go_wp2_with fail;clear d0 d1 d2 d3 d4 d5 d6 d7 d8 d9;generalize (wr.alloc (Zk #[L F d[j].n,L F d[j].y.k,L F d[j].y.n,L F d[j].y.t.k,d[j].y.t.s,L F d[j].y.f.k,d[j].y.f.s,d[j].y.s,L F d[j].i.k,d[j].i.s] 64))=WA at *;go_region_held3 (fun w'=>w'.cell? ⟨wr.heap.size,8,C⟩=S (L F d[j].i.k)/\w'.cell? ⟨wr.heap.size,9,C⟩=S (D d[j].i.a d[j].i.l.length d[j].i.c)/\w'.cell? ⟨b',o'+j*2,C⟩=S (L F U.l[j].k)/\w'.cell? ⟨b',o'+j*2+1,C⟩=S (D U.l[j].a U.l[j].l.length U.l[j].c)) (first|exact⟨M k a0,M k u,M k v0,M k v1⟩|go_keep) (first|(go_at_call 108;refine(HC.out _ (HI.out.1.below ((V _ _).drew)) (HI.out.2.1.below ((V _ _).drew))).mono ?_;rintro e w2 ⟨rfl,k⟩))
   have l:=HI.out.2.2.drew.trans (k.mono HI.out.2.2.size);cases r
   .have HE:Zp (U6 (d.map fun r=>r.i.ty) (U.l.map Tr.ty)=Zi/\bL w w2):=⟨TQ _ _ j (by simpa using hlt) (by simpa using hlt') (by simpa using a6.out),l⟩
    clear k l HI x a0 u v0 v1;go_wp2_with fail;go_ret;exact⟨Jj HE.out.1.symm,HE.out.2⟩
   .have HN:Zp (bL w w2/\∀q(h:q<d.length)(y:q<U.l.length),q<j+1->YD Yl d[q].i.ty U.l[q].ty=Zs):=by
     refine⟨l,fun q h y hq=>?_⟩;by_cases e:q=j
     .subst e;exact a6.out
     .exact x.out.2 q h y (by omega)
    clear k l HI x a0 u v0 v1;go_wp2_with fail;rw[<-a9.out,<-a8.out];go_roundg (d.length-(j+1))
    case measure=>omega
    case rel=>exact⟨j+1,by omega,by go_num,HN⟩
  .have HE:Zp (U6 (d.map fun r=>r.i.ty) (U.l.map Tr.ty)=Zs/\bL w wr):=⟨TS _ _ fun q h y=>by simpa using x.out.2 q (by simpa using h) (by simpa using y) (by have:q<d.length:=(by simpa using h);omega),x.out.1⟩
   clear x;go_wp2_with fail;go_ret;exact⟨Jj HE.out.1.symm,HE.out.2⟩
def Jw(n:Int)(x:Tm)(i u:Ty):Tm:=if YD YA i u then x else ⟨10,n,u,i,[x]⟩
structure CB(H:Nat)(r:Rd)(u:Tr)(W:Zg):Prop where
 p0:W.cell? ⟨H,0,C⟩=S (L F r.n)
 p1:W.cell? ⟨H,1,C⟩=S (L F r.y.k)
 p2:W.cell? ⟨H,2,C⟩=S (L F r.y.n)
 p3:W.cell? ⟨H,3,C⟩=S (L F r.y.t.k)
 p4:W.cell? ⟨H,4,C⟩=S (D r.y.t.a r.y.t.l.length r.y.t.c)
 p5:W.cell? ⟨H,5,C⟩=S (L F r.y.f.k)
 p6:W.cell? ⟨H,6,C⟩=S (D r.y.f.a r.y.f.l.length r.y.f.c)
 p7:W.cell? ⟨H,7,C⟩=S (D r.y.a r.y.l.length r.y.c)
 p8:W.cell? ⟨H,8,C⟩=S (L F r.i.k)
 p9:W.cell? ⟨H,9,C⟩=S (D r.i.a r.i.l.length r.i.c)
 u0:W.cell? ⟨H+1,0,C⟩=S (L F u.k)
 u1:W.cell? ⟨H+1,1,C⟩=S (D u.a u.l.length u.c)
 z0:W.cell? ⟨H+1+1,0,C⟩=S (L F 0)
 z1:W.cell? ⟨H+1+1,1,C⟩=S (L F 0)
 z2:W.cell? ⟨H+1+1,2,C⟩=S (L F 0)
 z3:W.cell? ⟨H+1+1,3,C⟩=S (D C 0 0)
 z4:W.cell? ⟨H+1+1,4,C⟩=S (L F 0)
 z5:W.cell? ⟨H+1+1,5,C⟩=S (D C 0 0)
 z6:W.cell? ⟨H+1+1,6,C⟩=S (D C 0 0)
 fz:∀i,W.frozen? ⟨H+1+1,i,C⟩=Zi
 iu:u.In W
 ii:r.i.In W
 iy:r.y.In W
theorem CB.below{H:Nat}{r:Rd}{u:Tr}{W':Zg}(h:CB H r u W)(hb:Zm W.heap.size W W'):CB H r u W':=⟨M hb h.p0,M hb h.p1,M hb h.p2,M hb h.p3,M hb h.p4,M hb h.p5,M hb h.p6,M hb h.p7,M hb h.p8,M hb h.p9,M hb h.u0,M hb h.u1,M hb h.z0,M hb h.z1,M hb h.z2,M hb h.z3,M hb h.z4,M hb h.z5,M hb h.z6,fun i=>(hb.frozen (p:=⟨H+1+1,i,C⟩) (show (⟨H+1+1,0,C⟩:ZC).block<W.heap.size from Ze _ _ h.z0)).trans (h.fz i),h.iu.below hb,h.ii.below hb,h.iy.below hb⟩
def Vs(r:Rd)(u:Tr)(w:Zg)(e:Ending)(w':Zg):Prop:=∃z:TT,e=Zd (Zc #[L F z.k,L F z.n,L F z.t.k,D z.t.a z.t.l.length z.t.c,L F z.f.k,D z.f.a z.f.l.length z.f.c,D z.a z.l.length z.c])/\z.tm=Jw r.n r.y.tm r.i.ty u.ty/\z.In w'/\(∀Q:Nat->Prop,(∀b,w.heap.size<=b->Q b)->r.y.Bl Q->z.Bl Q)/\Zm w.heap.size w w'
theorem T9(r:Rd)(u:Tr)(w:Zg)(hu:u.In w)(hi:r.i.In w)(b:r.y.In w):CB w.heap.size r u (((w.alloc (Obj.cells #[L F r.n,L F r.y.k,L F r.y.n,L F r.y.t.k,D r.y.t.a r.y.t.l.length r.y.t.c,L F r.y.f.k,D r.y.f.a r.y.f.l.length r.y.f.c,D r.y.a r.y.l.length r.y.c,L F r.i.k,D r.i.a r.i.l.length r.i.c] 64)).alloc (Obj.cells #[L F u.k,D u.a u.l.length u.c] 24)).alloc (Obj.cells #[L F 0,L F 0,L F 0,D C 0 0,L F 0,D C 0 0,D C 0 0] 27))/\Zm w.heap.size w (((w.alloc (Obj.cells #[L F r.n,L F r.y.k,L F r.y.n,L F r.y.t.k,D r.y.t.a r.y.t.l.length r.y.t.c,L F r.y.f.k,D r.y.f.a r.y.f.l.length r.y.f.c,D r.y.a r.y.l.length r.y.c,L F r.i.k,D r.i.a r.i.l.length r.i.c] 64)).alloc (Obj.cells #[L F u.k,D u.a u.l.length u.c] 24)).alloc (Obj.cells #[L F 0,L F 0,L F 0,D C 0 0,L F 0,D C 0 0,D C 0 0] 27)):=by
 have a:bL w (((w.alloc (Obj.cells #[L F r.n,L F r.y.k,L F r.y.n,L F r.y.t.k,r.y.t.s,L F r.y.f.k,r.y.f.s,r.y.s,L F r.i.k,r.i.s] 64)).alloc (Obj.cells u.v 24)).alloc (Obj.cells #[L F 0,L F 0,L F 0,D C 0 0,L F 0,D C 0 0,D C 0 0] 27)):=(((V _ _).alloc (Z _) _).alloc (by simp) _).alloc (by simp;omega) _;refine⟨⟨?_,?_,?_,?_,?_,?_,?_,?_,?_,?_,?_,?_,?_,?_,?_,?_,?_,?_,?_,?_,hu.below a,hi.below a,b.below a⟩,a⟩
 all_goals simp[go_sem]
theorem BR(r:Rd)(u:Tr)(w:Zg)(hu:u.In w)(hi:r.i.In w)(hy:r.y.In w)(hh:r.i.hgt<=1000)(hs:r.i.sm)(hr:YD YA r.i.ty u.ty=Zs):
  Zn Zb 109 #[Zc #[L F r.n,L F r.y.k,L F r.y.n,L F r.y.t.k,D r.y.t.a r.y.t.l.length r.y.t.c,L F r.y.f.k,D r.y.f.a r.y.f.l.length r.y.f.c,D r.y.a r.y.l.length r.y.c,L F r.i.k,D r.i.a r.i.l.length r.i.c],Zc #[L F u.k,D u.a u.l.length u.c]] w (Vs r u w):=by
 obtain⟨j,l⟩:=T9 r u w hu hi hy;obtain⟨W0,c⟩:∃W0,W0=((w.alloc (Obj.cells #[L F r.n,L F r.y.k,L F r.y.n,L F r.y.t.k,r.y.t.s,L F r.y.f.k,r.y.f.s,r.y.s,L F r.i.k,r.i.s] 64)).alloc (Obj.cells u.v 24)).alloc (Obj.cells #[L F 0,L F 0,L F 0,D C 0 0,L F 0,D C 0 0,D C 0 0] 27):=⟨_,rfl⟩
 rw[<-c] at j l;have HS:Zp (Zn Zb 147 #[Zc r.i.v,Zc u.v] W0 fun e w'=>e=Zd (.bool Zs)/\bL W0 w'):=by have:=LE r.i u W0 j.ii j.iu hh hs;rw[hr] at this;exact this
 have m:=Uy j l;have HT:Zp (Jw r.n r.y.tm r.i.ty u.ty=r.y.tm):=by simp[Zp,Jw,hr]
 have HY:=Yy hy.bl;clear j l hu hi hy hh hs hr;go_enter func109,ntmps109;go_wp2_with fail;rw[<-c];clear c;refine HS.out.mono ?_;rintro e k ⟨rfl,y⟩;have a:=m.out.1.below y;have lz:w.heap.size+1+1<k.heap.size:=Ze _ _ a.z0;have d:=m.out.2.trans (y.mono m.out.2.size);have g:XC k (w.heap.size+1+1) (Yr 0 0):=⟨⟨a.z0,a.z1,a.z2,a.z3,a.z4,a.z5,a.z6⟩,fun i _=>a.fz i⟩
 have h7:=(JW (x:=r.y) g).at7;obtain⟨o,e1,z,e3,e4,p,q⟩:=h7;have HE:Zp (r.y.In (Xd k (w.heap.size+1+1) r.y)/\bL w (Xd k (w.heap.size+1+1) r.y)):=by refine⟨?_,d.trans ((YI (x:=r.y)).below (by simp) (by omega) |>.mono (by omega))⟩;exact a.iy.lc YI (HY.out.mono fun b l=>by omega)
 simp only[Zq] at o e1 z e3 e4 p q;obtain⟨p0,p1,p2,p3,p4,p5,p6,p7,p8,p9,u0,u1,z0,z1,z2,z3,z4,z5,z6,fz,_,_,_⟩:=a;have f0:=fz 0;have f1:=fz 1;have f2:=fz 2;have f3:=fz 3;have f4:=fz 4;have f5:=fz 5;have f6:=fz 6;clear y HS m g d fz;go_wp2_with fail;refine Zf (v:=Zc r.y.v) ?_ rfl ⟨r.y,rfl,HT.out.symm,HE.out.1,fun Q _ h=>h,HE.out.2⟩;unfold Xd at o e1 z e3 e4 p q;simp[results,ZG,go_sem,o,e1,z,e3,e4,p,q]
theorem Qn(r:Rd)(u:Tr)(w W:Zg)(G:Nat)(t f:Tr)(c:Zm w.heap.size w W)(a:CB w.heap.size r u W)(hG:w.heap.size+1+1<G)(h7:Uz W G 0 r.y)(ht:t.In W)(p:f.In W)(o:t.Bl (w.heap.size+1+1<·))(m:f.Bl (w.heap.size+1+1<·))(e:r.y.Bl (·<w.heap.size))(et:t.ty=u.ty)(q:f.ty=r.i.ty)(z:YD YA r.i.ty u.ty=Zi):
  Vs r u w (Zd (Zc #[L F 10,L F r.n,L F t.k,D t.a t.l.length t.c,L F f.k,D f.a f.l.length f.c,D (S ⟨G,0,C⟩) 1 1])) (Xd W (w.heap.size+1+1) ⟨10,r.n,t,f,S ⟨G,0,C⟩,1,[r.y]⟩)/\
   Uz (Xd W (w.heap.size+1+1) ⟨10,r.n,t,f,S ⟨G,0,C⟩,1,[r.y]⟩) (w.heap.size+1+1) 0 ⟨10,r.n,t,f,S ⟨G,0,C⟩,1,[r.y]⟩:=by
 have d:=YI (w:=W) (J:=w.heap.size+1+1) (x:=⟨10,r.n,t,f,S ⟨G,0,C⟩,1,[r.y]⟩);have k:XC W (w.heap.size+1+1) (Yr 0 0):=⟨⟨a.z0,a.z1,a.z2,a.z3,a.z4,a.z5,a.z6⟩,fun i _=>a.fz i⟩
 refine⟨⟨⟨10,r.n,t,f,S ⟨G,0,C⟩,1,[r.y]⟩,rfl,?_,?_,fun Q g l=>?_,?_⟩,(JW k).at7⟩
 .rw[TT.ma,et,q];simp[Jw,z]
 .refine TT.li.2 ⟨ht.lc d (o.mono fun b c=>by omega),p.lc d (m.mono fun b c=>by omega),fun j hj=>?_,fun x h=>?_⟩
  .have hj0:j=0:=by simpa using hj
   subst hj0;exact⟨G,0,rfl,by simpa using h7.lc d (by omega)⟩
  .have:x=r.y:=by simpa using h
   subst this;exact a.iy.lc d (e.mono fun b c=>by omega)
 .refine TT.ld.2 ⟨o.mono fun b c=>g b (by omega),m.mono fun b c=>g b (by omega),fun _ y e=>by cases e;exact g G (by omega),fun x h=>?_⟩;have:x=r.y:=by simpa using h
  subst this;exact l
 .have lz:w.heap.size+1+1<W.heap.size:=Ze _ _ a.z0;exact c.trans ((d.below (by simp) (by omega)).mono (by omega))
theorem R2(W:Zg)(r:Rd):Uz (W.alloc (Zk #[L F r.y.k,L F r.y.n,L F r.y.t.k,D r.y.t.a r.y.t.l.length r.y.t.c,L F r.y.f.k,D r.y.f.a r.y.f.l.length r.y.f.c,D r.y.a r.y.l.length r.y.c] 27)) W.heap.size 0 r.y:=by
 refine⟨?_,?_,?_,?_,?_,?_,?_⟩
 all_goals simp[go_sem]
theorem BS(r:Rd)(u:Tr)(w:Zg)(hu:u.In w)(hi:r.i.In w)(hy:r.y.In w)(hh:r.i.hgt<=1000)(hs:r.i.sm)(ri:r.i.right)(ru:u.right)(hhu:u.hgt<=1000)(hr:YD YA r.i.ty u.ty=Zi):
  Zn Zb 109 #[Zc #[L F r.n,L F r.y.k,L F r.y.n,L F r.y.t.k,D r.y.t.a r.y.t.l.length r.y.t.c,L F r.y.f.k,D r.y.f.a r.y.f.l.length r.y.f.c,D r.y.a r.y.l.length r.y.c,L F r.i.k,D r.i.a r.i.l.length r.i.c],Zc #[L F u.k,D u.a u.l.length u.c]] w (Vs r u w):=by
 obtain⟨i,hb⟩:=T9 r u w hu hi hy;obtain⟨W0,aw⟩:∃W0,W0=((w.alloc (Obj.cells #[L F r.n,L F r.y.k,L F r.y.n,L F r.y.t.k,r.y.t.s,L F r.y.f.k,r.y.f.s,r.y.s,L F r.i.k,r.i.s] 64)).alloc (Obj.cells u.v 24)).alloc (Obj.cells #[L F 0,L F 0,L F 0,D C 0 0,L F 0,D C 0 0,D C 0 0] 27):=⟨_,rfl⟩
 rw[<-aw] at i hb;have HS:Zp (Zn Zb 147 #[Zc r.i.v,Zc u.v] W0 fun e w'=>e=Zd (.bool Zi)/\bL W0 w'):=by have:=LE r.i u W0 i.ii i.iu hh hs;rw[hr] at this;exact this
 have HB:=Uy i hb;have HR:=Yy hr;have HY:=Yy hy.bl;have HC:Zp (∀(Wc W':Zg)(q:Tr),CB w.heap.size r u Wc->bL w Wc->(W'=Wc\/∃X,W'=Wc.alloc X)->(q=u\/q=r.i)->Zn Zb 42 #[Zc q.v] W' fun e l=>∃t:Tr,e=Zd (Zc t.v)/\t.ty=q.ty/\t.In l/\t.Bl (w.heap.size+1+1<·)/\CB w.heap.size r u l/\bL w l/\bL W' l/\bL Wc l):=by
  intro Wc W' q h1 h2 h3 h4;have h5:bL Wc W':=by
   rcases h3 with rfl|⟨X,rfl⟩
   .exact V _ _
   .exact(V _ _).alloc (Z _) _
  have h6:=h1.below h5;have lz:w.heap.size+1+1<W'.heap.size:=Ze _ _ h6.z0;have hq:q.In W'/\q.right/\q.hgt<=1000:=by
   rcases h4 with rfl|rfl
   .exact⟨h6.iu,ru,hhu⟩
   .exact⟨h6.ii,ri,hh⟩
  refine(Oh q W' hq.1 hq.2.1 hq.2.2).mono ?_;rintro e l ⟨t,rfl,ht,b4,b2,ao⟩;exact⟨t,rfl,ht,b4,b2.mono fun b hb=>by omega,h6.below ao,(h2.trans (h5.mono h2.size)).trans (ao.mono (by omega)),ao,h5.trans (ao.mono h5.size)⟩
 clear i hb hu hi hy hh hs hr ri ru hhu;go_enter func109,ntmps109;go_wp2_with fail;rw[<-aw];clear aw;refine HS.out.mono ?_;rintro e l ⟨rfl,h1⟩;have d:=HB.out.1.below h1.drew;have g:=Uy d ((HB.out.2.trans (h1.mono HB.out.2.size)).drew);have HK:Zp (∀w',CB w.heap.size r u w'->cL w' w.heap.size 0 (L F r.n)/\cL w' w.heap.size 1 (L F r.y.k)/\cL w' w.heap.size 2 (L F r.y.n)/\cL w' w.heap.size 3 (L F r.y.t.k)/\cL w' w.heap.size 4 (r.y.t.s)/\cL w' w.heap.size 5 (L F r.y.f.k)/\cL w' w.heap.size 6 (r.y.f.s)/\cL w' w.heap.size 7 (r.y.s)/\cL w' w.heap.size 8 (L F r.i.k)/\cL w' w.heap.size 9 (r.i.s)/\cL w' (w.heap.size+1) 0 (L F u.k)/\cL w' (w.heap.size+1) 1 (u.s)):=fun w' h=>⟨h.p0,h.p1,h.p2,h.p3,h.p4,h.p5,h.p6,h.p7,h.p8,h.p9,h.u0,h.u1⟩
 have az:Zp (∀w' X,CB w.heap.size r u w'->CB w.heap.size r u (w'.alloc X)):=fun w' X h=>h.below ((V _ _).alloc (Z _) X);have HL:Zp (w.heap.size+1+1<l.heap.size/\w.heap.size+1+1<l.drew.heap.size):=by have h:w.heap.size+1+1<l.drew.heap.size:=Ze _ _ g.out.1.z0;exact⟨h,h⟩
 have b1:Zp (∀X,CB w.heap.size r u (l.alloc X).drew):=fun X=>g.out.1.below ((V _ _).alloc (Z _) X);have ax:Zp (∀w' a0 a1 a2 a3 z x a6,CB w.heap.size r u w'->cL (((((((w'.setCell ⟨w.heap.size+1+1,0,C⟩ a0).setCell ⟨w.heap.size+1+1,1,C⟩ a1).setCell ⟨w.heap.size+1+1,2,C⟩ a2).setCell ⟨w.heap.size+1+1,3,C⟩ a3).setCell ⟨w.heap.size+1+1,4,C⟩ z).setCell ⟨w.heap.size+1+1,5,C⟩ x).setCell ⟨w.heap.size+1+1,6,C⟩ a6) w.heap.size 0 (L F r.n)/\cL (((((((w'.setCell ⟨w.heap.size+1+1,0,C⟩ a0).setCell ⟨w.heap.size+1+1,1,C⟩ a1).setCell ⟨w.heap.size+1+1,2,C⟩ a2).setCell ⟨w.heap.size+1+1,3,C⟩ a3).setCell ⟨w.heap.size+1+1,4,C⟩ z).setCell ⟨w.heap.size+1+1,5,C⟩ x).setCell ⟨w.heap.size+1+1,6,C⟩ a6) w.heap.size 1 (L F r.y.k)/\cL (((((((w'.setCell ⟨w.heap.size+1+1,0,C⟩ a0).setCell ⟨w.heap.size+1+1,1,C⟩ a1).setCell ⟨w.heap.size+1+1,2,C⟩ a2).setCell ⟨w.heap.size+1+1,3,C⟩ a3).setCell ⟨w.heap.size+1+1,4,C⟩ z).setCell ⟨w.heap.size+1+1,5,C⟩ x).setCell ⟨w.heap.size+1+1,6,C⟩ a6) w.heap.size 2 (L F r.y.n)/\cL (((((((w'.setCell ⟨w.heap.size+1+1,0,C⟩ a0).setCell ⟨w.heap.size+1+1,1,C⟩ a1).setCell ⟨w.heap.size+1+1,2,C⟩ a2).setCell ⟨w.heap.size+1+1,3,C⟩ a3).setCell ⟨w.heap.size+1+1,4,C⟩ z).setCell ⟨w.heap.size+1+1,5,C⟩ x).setCell ⟨w.heap.size+1+1,6,C⟩ a6) w.heap.size 3 (L F r.y.t.k)/\cL (((((((w'.setCell ⟨w.heap.size+1+1,0,C⟩ a0).setCell ⟨w.heap.size+1+1,1,C⟩ a1).setCell ⟨w.heap.size+1+1,2,C⟩ a2).setCell ⟨w.heap.size+1+1,3,C⟩ a3).setCell ⟨w.heap.size+1+1,4,C⟩ z).setCell ⟨w.heap.size+1+1,5,C⟩ x).setCell ⟨w.heap.size+1+1,6,C⟩ a6) w.heap.size 4 (r.y.t.s)/\cL (((((((w'.setCell ⟨w.heap.size+1+1,0,C⟩ a0).setCell ⟨w.heap.size+1+1,1,C⟩ a1).setCell ⟨w.heap.size+1+1,2,C⟩ a2).setCell ⟨w.heap.size+1+1,3,C⟩ a3).setCell ⟨w.heap.size+1+1,4,C⟩ z).setCell ⟨w.heap.size+1+1,5,C⟩ x).setCell ⟨w.heap.size+1+1,6,C⟩ a6) w.heap.size 5 (L F r.y.f.k)/\cL (((((((w'.setCell ⟨w.heap.size+1+1,0,C⟩ a0).setCell ⟨w.heap.size+1+1,1,C⟩ a1).setCell ⟨w.heap.size+1+1,2,C⟩ a2).setCell ⟨w.heap.size+1+1,3,C⟩ a3).setCell ⟨w.heap.size+1+1,4,C⟩ z).setCell ⟨w.heap.size+1+1,5,C⟩ x).setCell ⟨w.heap.size+1+1,6,C⟩ a6) w.heap.size 6 (r.y.f.s)/\cL (((((((w'.setCell ⟨w.heap.size+1+1,0,C⟩ a0).setCell ⟨w.heap.size+1+1,1,C⟩ a1).setCell ⟨w.heap.size+1+1,2,C⟩ a2).setCell ⟨w.heap.size+1+1,3,C⟩ a3).setCell ⟨w.heap.size+1+1,4,C⟩ z).setCell ⟨w.heap.size+1+1,5,C⟩ x).setCell ⟨w.heap.size+1+1,6,C⟩ a6) w.heap.size 7 (r.y.s)/\cL (((((((w'.setCell ⟨w.heap.size+1+1,0,C⟩ a0).setCell ⟨w.heap.size+1+1,1,C⟩ a1).setCell ⟨w.heap.size+1+1,2,C⟩ a2).setCell ⟨w.heap.size+1+1,3,C⟩ a3).setCell ⟨w.heap.size+1+1,4,C⟩ z).setCell ⟨w.heap.size+1+1,5,C⟩ x).setCell ⟨w.heap.size+1+1,6,C⟩ a6) w.heap.size 8 (L F r.i.k)/\cL (((((((w'.setCell ⟨w.heap.size+1+1,0,C⟩ a0).setCell ⟨w.heap.size+1+1,1,C⟩ a1).setCell ⟨w.heap.size+1+1,2,C⟩ a2).setCell ⟨w.heap.size+1+1,3,C⟩ a3).setCell ⟨w.heap.size+1+1,4,C⟩ z).setCell ⟨w.heap.size+1+1,5,C⟩ x).setCell ⟨w.heap.size+1+1,6,C⟩ a6) w.heap.size 9 (r.i.s)/\cL (((((((w'.setCell ⟨w.heap.size+1+1,0,C⟩ a0).setCell ⟨w.heap.size+1+1,1,C⟩ a1).setCell ⟨w.heap.size+1+1,2,C⟩ a2).setCell ⟨w.heap.size+1+1,3,C⟩ a3).setCell ⟨w.heap.size+1+1,4,C⟩ z).setCell ⟨w.heap.size+1+1,5,C⟩ x).setCell ⟨w.heap.size+1+1,6,C⟩ a6) (w.heap.size+1) 0 (L F u.k)/\cL (((((((w'.setCell ⟨w.heap.size+1+1,0,C⟩ a0).setCell ⟨w.heap.size+1+1,1,C⟩ a1).setCell ⟨w.heap.size+1+1,2,C⟩ a2).setCell ⟨w.heap.size+1+1,3,C⟩ a3).setCell ⟨w.heap.size+1+1,4,C⟩ z).setCell ⟨w.heap.size+1+1,5,C⟩ x).setCell ⟨w.heap.size+1+1,6,C⟩ a6) (w.heap.size+1) 1 (u.s)):=by
  intro w' a0 a1 a2 a3 z x a6 h;have n0:w.heap.size≠w.heap.size+1+1:=by omega
  have i:∀b o,b≠w.heap.size+1+1->(((((((w'.setCell ⟨w.heap.size+1+1,0,C⟩ a0).setCell ⟨w.heap.size+1+1,1,C⟩ a1).setCell ⟨w.heap.size+1+1,2,C⟩ a2).setCell ⟨w.heap.size+1+1,3,C⟩ a3).setCell ⟨w.heap.size+1+1,4,C⟩ z).setCell ⟨w.heap.size+1+1,5,C⟩ x).setCell ⟨w.heap.size+1+1,6,C⟩ a6).cell? ⟨b,o,C⟩=w'.cell? ⟨b,o,C⟩:=by intro b o hb;rw[Za _ _ _ _ (by simp),Za _ _ _ _ (by simp),Za _ _ _ _ (by simp),Za _ _ _ _ (by simp),Za _ _ _ _ (by simp),Za _ _ _ _ (by simp),Za _ _ _ _ (by simp)]
  have n1:w.heap.size+1≠w.heap.size+1+1:=by omega
  exact⟨(i _ _ n0).trans h.p0,(i _ _ n0).trans h.p1,(i _ _ n0).trans h.p2,(i _ _ n0).trans h.p3,(i _ _ n0).trans h.p4,(i _ _ n0).trans h.p5,(i _ _ n0).trans h.p6,(i _ _ n0).trans h.p7,(i _ _ n0).trans h.p8,(i _ _ n0).trans h.p9,(i _ _ n1).trans h.u0,(i _ _ n1).trans h.u1⟩
 have z0:=d.z0;have z1:=d.z1;have z2:=d.z2;have z3:=d.z3;have z4:=d.z4;have z5:=d.z5;have z6:=d.z6;have ab:=fun X=>(CB.below d ((V _ _).alloc (Z _) X)).z0;have an:=fun X=>(CB.below d ((V _ _).alloc (Z _) X)).z1;have ac:=fun X=>(CB.below d ((V _ _).alloc (Z _) X)).z2;have a7:=fun X=>(CB.below d ((V _ _).alloc (Z _) X)).z3;have ae:=fun X=>(CB.below d ((V _ _).alloc (Z _) X)).z4;have ak:=fun X=>(CB.below d ((V _ _).alloc (Z _) X)).z5;have ai:=fun X=>(CB.below d ((V _ _).alloc (Z _) X)).z6;have f0:=d.fz 0;have f1:=d.fz 1;have f2:=d.fz 2;have f3:=d.fz 3;have f4:=d.fz 4;have f5:=d.fz 5;have f6:=d.fz 6;have af:=fun X=>(CB.below d ((V _ _).alloc (Z _) X)).fz 0;have ad:=fun X=>(CB.below d ((V _ _).alloc (Z _) X)).fz 1;have aa:=fun X=>(CB.below d ((V _ _).alloc (Z _) X)).fz 2;have am:=fun X=>(CB.below d ((V _ _).alloc (Z _) X)).fz 3;have a8:=fun X=>(CB.below d ((V _ _).alloc (Z _) X)).fz 4;have aj:=fun X=>(CB.below d ((V _ _).alloc (Z _) X)).fz 5;have ah:=fun X=>(CB.below d ((V _ _).alloc (Z _) X)).fz 6;obtain⟨p0,p1,p2,p3,p4,p5,p6,p7,p8,p9,u0,u1,_,_,_,_,_,_,_,fz,_,_,_⟩:=id d;clear h1 HS HB d fz;go_wp2_with fail;clear p0 p1 p2 p3 p4 p5 p6 p7 p8 p9 u0 u1;go_region_held3 (fun w'=>cL w' w.heap.size 0 (L F r.n)/\cL w' w.heap.size 1 (L F r.y.k)/\cL w' w.heap.size 2 (L F r.y.n)/\cL w' w.heap.size 3 (L F r.y.t.k)/\cL w' w.heap.size 4 (r.y.t.s)/\cL w' w.heap.size 5 (L F r.y.f.k)/\cL w' w.heap.size 6 (r.y.f.s)/\cL w' w.heap.size 7 (r.y.s)/\cL w' w.heap.size 8 (L F r.i.k)/\cL w' w.heap.size 9 (r.i.s)/\cL w' (w.heap.size+1) 0 (L F u.k)/\cL w' (w.heap.size+1) 1 (u.s))
  (first|(with_reducible exact HK.out _ g.out.1)|(with_reducible exact HK.out _ (az.out _ _ g.out.1))|(with_reducible exact HK.out _ (b1.out _))|(with_reducible exact ax.out _ _ _ _ _ _ _ _ g.out.1)|(with_reducible exact ax.out _ _ _ _ _ _ _ _ (az.out _ _ g.out.1)))
  (first
   |(go_at_call 42;refine(HC.out _ _ u g.out.1 g.out.2 (by first|(with_reducible exact .inl rfl)|(with_reducible exact .inr ⟨_,rfl⟩)|exact .inr ⟨_,rfl⟩) (by first|(with_reducible exact .inl rfl)|(with_reducible exact .inr rfl))).mono ?_;rintro e wU ⟨tU,rfl,ay,j,al,a,ar,b3,ap⟩;(try (replace k:=k.below ap));replace g:Zp (CB w.heap.size r u wU/\bL w wU):=⟨a,ar⟩;replace z0:=a.z0;replace z1:=a.z1;replace z2:=a.z2;replace z3:=a.z3;replace z4:=a.z4;replace z5:=a.z5;replace z6:=a.z6;replace ab:=fun X=>(CB.below a ((V _ _).alloc (Z _) X)).z0;replace an:=fun X=>(CB.below a ((V _ _).alloc (Z _) X)).z1;replace ac:=fun X=>(CB.below a ((V _ _).alloc (Z _) X)).z2;replace a7:=fun X=>(CB.below a ((V _ _).alloc (Z _) X)).z3;replace ae:=fun X=>(CB.below a ((V _ _).alloc (Z _) X)).z4;replace ak:=fun X=>(CB.below a ((V _ _).alloc (Z _) X)).z5;replace ai:=fun X=>(CB.below a ((V _ _).alloc (Z _) X)).z6;replace f0:=a.fz 0;replace f1:=a.fz 1;replace f2:=a.fz 2;replace f3:=a.fz 3;replace f4:=a.fz 4;replace f5:=a.fz 5;replace f6:=a.fz 6;replace af:=fun X=>(CB.below a ((V _ _).alloc (Z _) X)).fz 0;replace ad:=fun X=>(CB.below a ((V _ _).alloc (Z _) X)).fz 1;replace aa:=fun X=>(CB.below a ((V _ _).alloc (Z _) X)).fz 2;replace am:=fun X=>(CB.below a ((V _ _).alloc (Z _) X)).fz 3;replace a8:=fun X=>(CB.below a ((V _ _).alloc (Z _) X)).fz 4;replace aj:=fun X=>(CB.below a ((V _ _).alloc (Z _) X)).fz 5;replace ah:=fun X=>(CB.below a ((V _ _).alloc (Z _) X)).fz 6;clear a ar)
   |(go_at_call 42;refine(HC.out _ _ r.i g.out.1 g.out.2 (by first|(with_reducible exact .inl rfl)|(with_reducible exact .inr ⟨_,rfl⟩)|exact .inr ⟨_,rfl⟩) (by first|(with_reducible exact .inl rfl)|(with_reducible exact .inr rfl))).mono ?_;rintro e wI ⟨tI,rfl,av,k,a9,c,au,b0,aq⟩;(try (replace j:=j.below aq));replace g:Zp (CB w.heap.size r u wI/\bL w wI):=⟨c,au⟩;replace z0:=c.z0;replace z1:=c.z1;replace z2:=c.z2;replace z3:=c.z3;replace z4:=c.z4;replace z5:=c.z5;replace z6:=c.z6;replace ab:=fun X=>(CB.below c ((V _ _).alloc (Z _) X)).z0;replace an:=fun X=>(CB.below c ((V _ _).alloc (Z _) X)).z1;replace ac:=fun X=>(CB.below c ((V _ _).alloc (Z _) X)).z2;replace a7:=fun X=>(CB.below c ((V _ _).alloc (Z _) X)).z3;replace ae:=fun X=>(CB.below c ((V _ _).alloc (Z _) X)).z4;replace ak:=fun X=>(CB.below c ((V _ _).alloc (Z _) X)).z5;replace ai:=fun X=>(CB.below c ((V _ _).alloc (Z _) X)).z6;replace f0:=c.fz 0;replace f1:=c.fz 1;replace f2:=c.fz 2;replace f3:=c.fz 3;replace f4:=c.fz 4;replace f5:=c.fz 5;replace f6:=c.fz 6;replace af:=fun X=>(CB.below c ((V _ _).alloc (Z _) X)).fz 0;replace ad:=fun X=>(CB.below c ((V _ _).alloc (Z _) X)).fz 1;replace aa:=fun X=>(CB.below c ((V _ _).alloc (Z _) X)).fz 2;replace am:=fun X=>(CB.below c ((V _ _).alloc (Z _) X)).fz 3;replace a8:=fun X=>(CB.below c ((V _ _).alloc (Z _) X)).fz 4;replace aj:=fun X=>(CB.below c ((V _ _).alloc (Z _) X)).fz 5;replace ah:=fun X=>(CB.below c ((V _ _).alloc (Z _) X)).fz 6;clear c au))
 all_goals
  have hE:=g.out
  have s0:=HL.out
  have s1:=ap.size
  have s2:=aq.size
  clear HK az ax b1 HC
 .have hA:bL wI (wI.alloc (Zk r.y.v 27)):=(V _ _).alloc (Z _) _;have HX:Zp _:=Qn r u w _ wI.heap.size tU tI (hE.2.trans (hA.mono hE.2.size)) (hE.1.below hA) (by omega) (R2 wI r) (j.below hA) (k.below hA) al a9 HY.out ay av HR.out;clear z0 z1 z2 z3 z4 z5 z6 f0 f1 f2 f3 f4 f5 f6 ab an ac a7 ae ak ai af ad aa am a8 aj ah;go_wp2_with fail;refine Zf (v:=Zc #[L F 10,L F r.n,L F tU.k,tU.s,L F tI.k,tI.s,D (S ⟨wI.heap.size,0,C⟩) 1 1]) ?_ rfl HX.out.1;obtain⟨m,e1,y,e3,e4,p,e6⟩:=HX.out.2;simp only[Zq] at m e1 y e3 e4 p e6;unfold Xd at m e1 y e3 e4 p e6;simp only[Zl,Zo,Zq] at m e1 y e3 e4 p e6;simp[results,ZG,go_sem,m,e1,y,e3,e4,p,e6]
 .have HX:Zp _:=Qn r u w wI wU.heap.size tU tI hE.2 hE.1 (by omega) ((R2 wU r).below b0) j k al a9 HY.out ay av HR.out;clear z0 z1 z2 z3 z4 z5 z6 f0 f1 f2 f3 f4 f5 f6 ab an ac a7 ae ak ai af ad aa am a8 aj ah;go_wp2_with fail;refine Zf (v:=Zc #[L F 10,L F r.n,L F tU.k,tU.s,L F tI.k,tI.s,D (S ⟨wU.heap.size,0,C⟩) 1 1]) ?_ rfl HX.out.1;obtain⟨m,e1,y,e3,e4,p,e6⟩:=HX.out.2;simp only[Zq] at m e1 y e3 e4 p e6;unfold Xd at m e1 y e3 e4 p e6;simp only[Zl,Zo,Zq] at m e1 y e3 e4 p e6;simp[results,ZG,go_sem,m,e1,y,e3,e4,p,e6]
 .have HX:Zp _:=Qn r u w wI l.heap.size tU tI hE.2 hE.1 (by omega) (((show Uz (l.alloc (Zk r.y.v 27)).drew l.heap.size 0 r.y from (R2 l r).below ((V _ _).drew)).below b3).below b0) j k al a9 HY.out ay av HR.out;clear z0 z1 z2 z3 z4 z5 z6 f0 f1 f2 f3 f4 f5 f6 ab an ac a7 ae ak ai af ad aa am a8 aj ah;go_wp2_with fail;refine Zf (v:=Zc #[L F 10,L F r.n,L F tU.k,tU.s,L F tI.k,tI.s,D (S ⟨l.heap.size,0,C⟩) 1 1]) ?_ rfl HX.out.1;obtain⟨m,e1,y,e3,e4,p,e6⟩:=HX.out.2;simp only[Zq] at m e1 y e3 e4 p e6;unfold Xd at m e1 y e3 e4 p e6;simp only[Zl,Zo,Zq] at m e1 y e3 e4 p e6;simp[results,ZG,go_sem,m,e1,y,e3,e4,p,e6]
theorem FK(n:Nat)(g:n<=1000)(w:Zg):(Instr.makeSlice 22 (L F (n:Int)) (L F (n:Int))).run Zb w=.ok (D (S ⟨w.heap.size,0,C⟩) n n) (w.alloc (Zk (ZB #[L F 0,D C 0 0] (n*2)) 24)):=by obtain⟨e,d,b,c,a⟩:=info_parts Tryz.info24;have h:=run_make (P:=Zb) w 22 24 e _ ZJ d b F F (n:Int) (n:Int) (by omega) (by omega) (by rw[a];omega) (by omega);rw[h,c];rfl
structure OQ(w:Zg)(g:Nat)(rs:List Rd)(j:Nat)(wr:Zg):Prop where
 bel:Zm w.heap.size w wr
 is:∀q(h:q<rs.length),q<j->wr.cell? ⟨g,q*2,C⟩=S (L F rs[q].i.k)/\wr.cell? ⟨g,q*2+1,C⟩=S (D rs[q].i.a rs[q].i.l.length rs[q].i.c)
 any:∀i,i<rs.length*2->∃v,wr.cell? ⟨g,i,C⟩=S v
 fz:∀i,wr.frozen? ⟨g,i,C⟩=Zi
theorem OQ.start(w:Zg)(a:List Rd):OQ w w.heap.size a 0 (w.alloc (Zk (ZB #[L F 0,D C 0 0] (a.length*2)) 24)):=by
 refine⟨(V _ _).alloc (Z _) _,fun q _ h=>absurd h (by omega),fun i hi=>?_,fun i=>by simp[go_sem]⟩;have b:i<(ZB #[L F 0,D C 0 0] (a.length*2)).size:=by rw[size_madeCells];exact hi
 refine⟨(ZB #[L F 0,D C 0 0] (a.length*2))[i],?_⟩;simp[go_sem,b]
theorem OQ.step{j:Nat}{rs:List Rd}(h:OQ w g rs j wr)(k:w.heap.size<=g)(b:g<wr.heap.size)(y:j<rs.length)(X:Obj):
  OQ w g rs (j+1) (((wr.alloc X).setCell ⟨g,j*2,C⟩ (L F rs[j].i.k)).setCell ⟨g,j*2+1,C⟩ (D rs[j].i.a rs[j].i.l.length rs[j].i.c)):=by
 have a:bL wr (wr.alloc X):=(V _ _).alloc (Z _) _;refine⟨((h.bel.trans (a.mono h.bel.size)).setCell k _).setCell k _,fun q m l=>?_,fun i hi=>?_,fun i=>?_⟩
 .by_cases e:q=j
  .subst e;obtain⟨v0,c⟩:=h.any (q*2) (by omega);obtain⟨v1,d⟩:=h.any (q*2+1) (by omega);constructor
   .simpa using Yp (j:=q*2+1) (v:=rs[q].i.s) (Yp (j:=q*2) (v:=L F rs[q].i.k) (M a c))
   .simpa using Yp (j:=q*2+1) (v:=rs[q].i.s) (Yp (j:=q*2) (v:=L F rs[q].i.k) (M a d))
  .obtain⟨c0,c1⟩:=h.is q m (by omega);have r:q*2≠j*2:=by omega
   have o:q*2≠j*2+1:=by omega
   have u:q*2+1≠j*2:=by omega
   have x:q*2+1≠j*2+1:=by omega
   constructor
   .have:=Yp (j:=j*2+1) (v:=rs[j].i.s) (Yp (j:=j*2) (v:=L F rs[j].i.k) (M a c0));rw[if_neg o,if_neg r] at this;exact this
   .have:=Yp (j:=j*2+1) (v:=rs[j].i.s) (Yp (j:=j*2) (v:=L F rs[j].i.k) (M a c1));rw[if_neg x,if_neg u] at this;exact this
 .obtain⟨v,hv⟩:=h.any i hi;exact⟨_,Yp (j:=j*2+1) (v:=rs[j].i.s) (Yp (j:=j*2) (v:=L F rs[j].i.k) (M a hv))⟩
 .have:=(a.frozen (p:=⟨g,i,C⟩) b).trans (h.fz i);simpa using this
theorem Ss(d:List Rd)(a:Option ZC)(c:Nat)(w:Zg)(l:RL w a d)(h3:d.length<=1000):
  Zn Zb 68 #[D a d.length c] w fun e w'=>∃T:Tr,e=Zd (D T.a T.l.length T.c)/\T.l=d.map (fun r=>r.i)/\T.In w'/\(∀y,T.a=S y->w.heap.size<=y.block)/\Zm w.heap.size w w':=by
 have a2:=FK d.length h3;have HR:=Yy l;have HT:=Yy (OQ.start w d);clear l;go_enter func68,ntmps68;go_wp2_with fail;go_loopg [11] d.length (fun g i wr=>∃(j:Nat),g+j=d.length/\i=L F (j:Int)/\Zp (OQ w w.heap.size d j wr/\w.heap.size<wr.heap.size))
 case atStart=>exact⟨0,by omega,rfl,HT.out,by simp⟩
 case round=>
  obtain⟨j,hj,rfl,h⟩:=hrel;by_cases hlt:j<d.length
  .obtain⟨b,o,ea,h10,z,hi⟩:=HR.out j hlt;have hb:=h.out.1.bel;have u:=h10.below hb;obtain⟨d0,⟨d1,d2,d3,d4,d5,d6,d7⟩,d8,d9⟩:=u;have i1:(j:Int)<(d.length:Int):=by omega
   have i0:(0:Int)<=(j:Int):=by omega
   have a0:=Yy ea;rw[ea];have k:∀X,bL wr (wr.alloc X):=fun X=>(V _ _).alloc (Z _) _;obtain⟨x0,a1⟩:=h.out.1.any (j*2) (by omega);obtain⟨x1,x⟩:=h.out.1.any (j*2+1) (by omega);have v0:=fun X=>M (k X) a1;have v1:=fun X=>M (k X) x;have vf:∀X i,(wr.alloc X).frozen? ⟨w.heap.size,i,C⟩=Zi:=fun X i=>((k X).frozen (p:=⟨w.heap.size,i,C⟩) h.out.2).trans (h.out.1.fz i);have nw:wr.heap.size≠w.heap.size:=by have:=h.out.2;omega
   have HN:Zp (OQ w w.heap.size d (j+1) (((wr.alloc (Zk #[L F d[j].n,L F d[j].y.k,L F d[j].y.n,L F d[j].y.t.k,d[j].y.t.s,L F d[j].y.f.k,d[j].y.f.s,d[j].y.s,L F d[j].i.k,d[j].i.s] 64)).setCell ⟨w.heap.size,j*2,C⟩ (L F d[j].i.k)).setCell ⟨w.heap.size,j*2+1,C⟩ (d[j].i.s))/\w.heap.size<(((wr.alloc (Zk #[L F d[j].n,L F d[j].y.k,L F d[j].y.n,L F d[j].y.t.k,d[j].y.t.s,L F d[j].y.f.k,d[j].y.f.s,d[j].y.s,L F d[j].i.k,d[j].i.s] 64)).setCell ⟨w.heap.size,j*2,C⟩ (L F d[j].i.k)).setCell ⟨w.heap.size,j*2+1,C⟩ (d[j].i.s)).heap.size):=⟨h.out.1.step (Z _) h.out.2 hlt _,by have:=h.out.2;simp[ZI];omega⟩
   clear ea k hb h10 z hi h HT;go_wp2_with fail;rw[<-a0.out];go_roundg (d.length-(j+1))
   case measure=>omega
   case rel=>exact⟨j+1,by omega,by go_num,HN⟩
  .have HE:=Yy h.out.1;have HJ:Zp (d.length<=j):=by exact Nat.le_of_not_lt hlt
   clear h;go_wp2_with fail;go_ret;refine⟨⟨0,S ⟨w.heap.size,0,C⟩,d.length,d.map fun r=>r.i⟩,by simp,rfl,?_,fun y z=>by cases z;exact Z _,HE.out.bel⟩;refine Tr.li.2 ⟨fun q m=>?_,fun t ht=>?_⟩
   .have hq':q<d.length:=by simpa using m
    obtain⟨c0,c1⟩:=HE.out.is q hq' (by have:=HJ.out;omega);exact⟨w.heap.size,0,rfl,by simpa using c0,by simpa[Tr.sl] using c1⟩
   .obtain⟨r,l,rfl⟩:=List.mem_map.1 ht;obtain⟨q,m,rfl⟩:=ZO l;obtain⟨_,_,_,_,_,hi⟩:=HR.out q m;exact hi.below HE.out.bel
theorem DZ(r:Rd)(u:Tr)(w:Zg)(hu:u.In w)(hi:r.i.In w)(hy:r.y.In w)(hh:r.i.hgt<=1000)(hs:r.i.sm)(ri:r.i.right)(ru:u.right)(hhu:u.hgt<=1000):
  Zn Zb 109 #[Zc #[L F r.n,L F r.y.k,L F r.y.n,L F r.y.t.k,D r.y.t.a r.y.t.l.length r.y.t.c,L F r.y.f.k,D r.y.f.a r.y.f.l.length r.y.f.c,D r.y.a r.y.l.length r.y.c,L F r.i.k,D r.i.a r.i.l.length r.i.c],Zc #[L F u.k,D u.a u.l.length u.c]] w (Vs r u w):=by
 cases hr:YD YA r.i.ty u.ty with
 |true=>exact BR r u w hu hi hy hh hs hr
 |false=>exact BS r u w hu hi hy hh hs ri ru hhu hr
def Md(w:Zg)(J o:Nat)(x:TT):Zg:=((((((w.setCell ⟨J,o,C⟩ (L F x.k)).setCell ⟨J,o+1,C⟩ (L F x.n)).setCell ⟨J,o+2,C⟩ (L F x.t.k)).setCell ⟨J,o+3,C⟩ (D x.t.a x.t.l.length x.t.c)).setCell ⟨J,o+4,C⟩ (L F x.f.k)).setCell ⟨J,o+5,C⟩ (D x.f.a x.f.l.length x.f.c)).setCell ⟨J,o+6,C⟩ (D x.a x.l.length x.c)
theorem Ux{i:Nat}{u:Value}(x:TT)(hu:w.cell? ⟨J,i,C⟩=S u):(Md w J o x).cell? ⟨J,i,C⟩=S (if i=o+6 then D x.a x.l.length x.c else if i=o+5 then D x.f.a x.f.l.length x.f.c else if i=o+4 then L F x.f.k else if i=o+3 then D x.t.a x.t.l.length x.t.c else if i=o+2 then L F x.t.k else if i=o+1 then L F x.n else if i=o then L F x.k else u):=Yp (Yp (Yp (Yp (Yp (Yp (Yp hu))))))
theorem S9:Yi J C w (Md w J o x):=Yj.trans (Yj.trans (Yj.trans (Yj.trans (Yj.trans (Yj.trans Yj)))))
theorem S8:(Md w J o x).heap.size=w.heap.size:=by simp[Md,ZI]
structure KH(Q:Nat->Prop)(w:Zg)(g m:Nat)(zs:List TT)(wr:Zg):Prop where
 bel:Zm w.heap.size w wr
 lt:g<wr.heap.size
 is:∀q(h:q<zs.length),Uz wr g (q*7) zs[q]
 ins:∀z,z∈zs->z.In wr/\z.Bl (fun b=>b≠g/\Q b)
 any:∀i,i<m*7->∃v,wr.cell? ⟨g,i,C⟩=S v
 fz:∀i,wr.frozen? ⟨g,i,C⟩=Zi
theorem KH.start(Q:Nat->Prop)(w:Zg)(m:Nat):KH Q w w.heap.size m [] (w.alloc (Zk (ZB #[L F 0,L F 0,L F 0,D C 0 0,L F 0,D C 0 0,D C 0 0] (m*7)) 27)):=by
 refine⟨(V _ _).alloc (Z _) _,by simp,fun q h=>absurd h (by simp),fun z h=>(by cases h),fun i hi=>?_,fun i=>by simp[go_sem]⟩;have a:i<(ZB #[L F 0,L F 0,L F 0,D C 0 0,L F 0,D C 0 0,D C 0 0] (m*7)).size:=by rw[size_madeCells];exact hi
 refine⟨(ZB #[L F 0,L F 0,L F 0,D C 0 0,L F 0,D C 0 0,D C 0 0] (m*7))[i],?_⟩;simp[go_sem,a]
theorem KH.below{wr':Zg}(h:KH Q w g m zs wr)(hb:Zm wr.heap.size wr wr'):KH Q w g m zs wr':=⟨h.bel.trans (hb.mono h.bel.size),Nat.lt_of_lt_of_le h.lt hb.size,fun q hq=>(h.is q hq).below hb,fun z hz=>⟨(h.ins z hz).1.below hb,(h.ins z hz).2⟩,fun i hi=>by obtain⟨v,hv⟩:=h.any i hi;exact⟨v,M hb hv⟩,fun i=>(hb.frozen (p:=⟨g,i,C⟩) h.lt).trans (h.fz i)⟩
theorem KH.step{z:TT}(h:KH Q w g m zs wr)(hg:w.heap.size<=g)(hz:z.In wr)(p:z.Bl (fun b=>b≠g/\Q b))(hm:zs.length<m):KH Q w g m (zs++[z]) (Md wr g (zs.length*7) z):=by
 have k:=S9 (w:=wr) (J:=g) (o:=zs.length*7) (x:=z);refine⟨?_,by rw[S8];exact h.lt,fun q l=>?_,fun y c=>?_,fun i hi=>?_,fun i=>?_⟩
 .exact h.bel.trans ((k.below (by simp) (Nat.le_of_lt h.lt)).mono hg)
 .have hcell:∀i,i<7->∃v,cL wr g (q*7+i) v:=fun i hi=>h.any _ (by simp at l;omega);by_cases e:q=zs.length
  .subst e;have d:(zs++[z])[zs.length]=z:=by simp
   rw[d];obtain⟨v0,h0⟩:=hcell 0 (by omega);obtain⟨v1,h1⟩:=hcell 1 (by omega);obtain⟨v2,r⟩:=hcell 2 (by omega);obtain⟨v3,h3⟩:=hcell 3 (by omega);obtain⟨v4,h4⟩:=hcell 4 (by omega);obtain⟨v5,h5⟩:=hcell 5 (by omega);obtain⟨v6,h6⟩:=hcell 6 (by omega);refine⟨?_,?_,?_,?_,?_,?_,?_⟩
   .simpa using Ux (o:=zs.length*7) z h0
   .simpa using Ux (o:=zs.length*7) z h1
   .simpa using Ux (o:=zs.length*7) z r
   .simpa using Ux (o:=zs.length*7) z h3
   .simpa using Ux (o:=zs.length*7) z h4
   .simpa using Ux (o:=zs.length*7) z h5
   .simpa using Ux (o:=zs.length*7) z h6
  .have hq':q<zs.length:=by simp at l;omega
   have d:(zs++[z])[q]=zs[q]:=by rw[ZK hq']
   rw[d];obtain⟨c0,c1,c2,c3,c4,c5,c6⟩:=h.is q hq';have a:∀i u,i<7->cL wr g (q*7+i) u->cL (Md wr g (zs.length*7) z) g (q*7+i) u:=by intro i u hi hu;have:=Ux (o:=zs.length*7) z hu;rw[if_neg (by omega),if_neg (by omega),if_neg (by omega),if_neg (by omega),if_neg (by omega),if_neg (by omega),if_neg (by omega)] at this;exact this
   exact⟨a 0 _ (by omega) c0,a 1 _ (by omega) c1,a 2 _ (by omega) c2,a 3 _ (by omega) c3,a 4 _ (by omega) c4,a 5 _ (by omega) c5,a 6 _ (by omega) c6⟩
 .rcases ZF.1 c with c|c
  .exact⟨(h.ins y c).1.lc k ((h.ins y c).2.mono fun b j=>j.1),(h.ins y c).2⟩
  .rcases Zz.1 c with rfl;exact⟨hz.lc k (p.mono fun b j=>j.1),p⟩
 .obtain⟨v,hv⟩:=h.any i hi;exact⟨_,Ux z hv⟩
 .simp only[Md,World.frozen?_setCell];exact h.fz i
theorem KH.tree(h:KH Q w g m zs wr)(hQ:Q g)(k n:Int)(t f:Tr)(c:Nat)(ht:t.In wr)(hf:f.In wr)(bt:t.Bl Q)(bf:f.Bl Q):
  (TT.mk k n t f (S ⟨g,0,C⟩) c zs).In wr/\(TT.mk k n t f (S ⟨g,0,C⟩) c zs).Bl Q:=
 ⟨TT.li.2 ⟨ht,hf,fun j hj=>⟨g,0,rfl,by simpa using h.is j hj⟩,fun x hx=>(h.ins x hx).1⟩,TT.ld.2 ⟨bt,bf,fun _ y hy=>by cases hy;exact hQ,fun x hx=>(h.ins x hx).2.mono fun b hb=>hb.2⟩⟩
theorem Tryz.info27c:(Zb.info? 27).map (fun i=>(i.zero,i.size,i.bytes))=S (S (Zc #[L F 0,L F 0,L F 0,D C 0 0,L F 0,D C 0 0,D C 0 0]),7,104):=by kernel_rfl
theorem FJ(n:Nat)(g:n<=1000)(w:Zg):(Instr.makeSlice 25 (L F (n:Int)) (L F (n:Int))).run Zb w=.ok (D (S ⟨w.heap.size,0,C⟩) n n) (w.alloc (Zk (ZB #[L F 0,L F 0,L F 0,D C 0 0,L F 0,D C 0 0,D C 0 0] (n*7)) 27)):=by obtain⟨e,d,b,c,a⟩:=info_parts Tryz.info27c;have h:=run_make (P:=Zb) w 25 27 e _ underlying25 d b F F (n:Int) (n:Int) (by omega) (by omega) (by rw[a];omega) (by omega);rw[h,c];rfl
theorem Vf(Q:Nat->Prop)(l:List Rd)(a:Option ZC)(c:Nat)(U:Tr)(w:Zg)(hr:RL w a l)(hU:U.In w)(hl:l.length=U.l.length)(h3:l.length<=1000)(a9:∀r,r∈l->r.i.right/\r.i.hgt<=1000/\r.i.sm)(hu:∀u,u∈U.l->u.right/\u.hgt<=1000)
  (hQ:∀b,w.heap.size<=b->Q b) (al:∀r,r∈l->r.y.Bl Q) :
  Zn Zb 70 #[D a l.length c,D U.a U.l.length U.c] w fun e w'=>∃zs:List TT,e=Zd (D (S ⟨w.heap.size,0,C⟩) l.length l.length)/\KH Q w w.heap.size l.length zs w'/\zs.length=l.length/\∀q(h:q<zs.length)(h1:q<l.length)(h2:q<U.l.length),zs[q].tm=Jw l[q].n l[q].y.tm l[q].i.ty U.l[q].ty:=by
 have bc:=FJ l.length h3;have HF:Zp (∀j(h:j<l.length)(h':j<U.l.length)(W:Zg),l[j].y.In W->l[j].i.In W->U.l[j].In W->Zn Zb 109 #[Zc #[L F l[j].n,L F l[j].y.k,L F l[j].y.n,L F l[j].y.t.k,l[j].y.t.s,L F l[j].y.f.k,l[j].y.f.s,l[j].y.s,L F l[j].i.k,l[j].i.s],Zc U.l[j].v] W (Vs l[j] U.l[j] W)):=fun j h h' W h0 h1 h2=>DZ _ _ W h2 h1 h0 (a9 _ (Zj h)).2.1 (a9 _ (Zj h)).2.2 (a9 _ (Zj h)).1 (hu _ (Zj h')).1 (hu _ (Zj h')).2
 have HR:=Yy hr;have HU:=Yy hU;have HL:=Yy hl;have af:=Uy hQ al;have HT:=Yy (KH.start Q w l.length);clear hr hU hl a9 hu hQ al;go_enter func70,ntmps70;go_wp2_with fail;go_loopg [13] l.length (fun g i wr=>∃(j:Nat)(zs:List TT),g+j=l.length/\i=L F (j:Int)/\Zp (KH Q w w.heap.size l.length zs wr/\zs.length=j/\∀q(h:q<zs.length)(h1:q<l.length)(h2:q<U.l.length),zs[q].tm=Jw l[q].n l[q].y.tm l[q].i.ty U.l[q].ty))
 case atStart=>exact⟨0,[],by omega,rfl,HT.out,rfl,fun q h=>absurd h (by simp)⟩
 case round=>
  obtain⟨j,zs,hj,rfl,HQ⟩:=hrel;by_cases hlt:j<l.length
  .have hlt':j<U.l.length:=HL.out▸hlt;obtain⟨b,o,ea,ap,hy,hi⟩:=HR.out j hlt;obtain⟨b',o',eb,u0,u1,hu⟩:=HU.out.part j hlt';have hb:=HQ.out.1.bel;have ba:b'<w.heap.size:=Ze _ _ u0;have ay:=ap.below hb;obtain⟨d0,⟨d1,d2,d3,d4,d5,d6,d7⟩,d8,d9⟩:=ay;replace u0:=M hb u0;replace u1:=M hb u1;have i1:(j:Int)<(l.length:Int):=by omega
   have i2:(j:Int)<(U.l.length:Int):=by omega
   have i0:(0:Int)<=(j:Int):=by omega
   have av:=Yy ea;have az:=Yy eb;rw[ea,eb];clear ea eb;obtain⟨r,ae⟩:∃r,l[j]=r:=⟨_,rfl⟩
   obtain⟨u,ad⟩:∃u,U.l[j]=u:=⟨_,rfl⟩
   have HC:=HF.out j hlt hlt';have ac:=hy.bl;have aa:=af.out.2 _ (Zj hlt);rw[ae] at d0 d1 d2 d3 d4 d5 d6 d7 d8 d9 hy hi HC ac aa;rw[ad] at u0 u1 hu HC;have aq:=Uy ae ad;obtain⟨OX,x⟩:∃O,O=Obj.cells #[L F r.n,L F r.y.k,L F r.y.n,L F r.y.t.k,r.y.t.s,L F r.y.f.k,r.y.f.s,r.y.s,L F r.i.k,r.i.s] 64:=⟨_,rfl⟩
   have a7:bL wr (wr.alloc OX):=(V _ _).alloc (Z _) _;have b0:(wr.alloc OX).cell? ⟨wr.heap.size,0,C⟩=S (L F r.n):=by subst x;simp[go_sem]
   have b1:(wr.alloc OX).cell? ⟨wr.heap.size,1,C⟩=S (L F r.y.k):=by subst x;simp[go_sem]
   have b2:(wr.alloc OX).cell? ⟨wr.heap.size,2,C⟩=S (L F r.y.n):=by subst x;simp[go_sem]
   have b3:(wr.alloc OX).cell? ⟨wr.heap.size,3,C⟩=S (L F r.y.t.k):=by subst x;simp[go_sem]
   have b4:(wr.alloc OX).cell? ⟨wr.heap.size,4,C⟩=S (D r.y.t.a r.y.t.l.length r.y.t.c):=by subst x;simp[go_sem]
   have b5:(wr.alloc OX).cell? ⟨wr.heap.size,5,C⟩=S (L F r.y.f.k):=by subst x;simp[go_sem]
   have b6:(wr.alloc OX).cell? ⟨wr.heap.size,6,C⟩=S (D r.y.f.a r.y.f.l.length r.y.f.c):=by subst x;simp[go_sem]
   have b7:(wr.alloc OX).cell? ⟨wr.heap.size,7,C⟩=S (D r.y.a r.y.l.length r.y.c):=by subst x;simp[go_sem]
   have b8:(wr.alloc OX).cell? ⟨wr.heap.size,8,C⟩=S (L F r.i.k):=by subst x;simp[go_sem]
   have b9:(wr.alloc OX).cell? ⟨wr.heap.size,9,C⟩=S (D r.i.a r.i.l.length r.i.c):=by subst x;simp[go_sem]
   have v0:=M a7 u0;have v1:=M a7 u1;have a8:=hb.trans (a7.mono hb.size);have ab:=Yy (HQ.out.1.below a7);have HZ:=Yy HQ.out.2;have HI:Zp (r.y.In (wr.alloc OX)/\r.i.In (wr.alloc OX)/\u.In (wr.alloc OX)/\r.y.Bl (fun b=>b≠w.heap.size/\Q b)):=⟨hy.below a8,hi.below a8,hu.below a8,(ac.and aa).mono fun b hb=>⟨by omega,hb.2⟩⟩
   have ar:=Yy HC;have aw:=HQ.out.1.lt;have nw:wr.heap.size≠w.heap.size:=by omega
   have au:b'≠w.heap.size:=by omega
   have HJ:=Uy hlt ab.out.lt;clear a7 u0 u1 hi hu ap hy HQ a8 ac aa HC ae ad aw hb;subst x;go_wp2_with fail;clear d0 d1 d2 d3 d4 d5 d6 d7 d8 d9;generalize (wr.alloc (Zk #[L F r.n,L F r.y.k,L F r.y.n,L F r.y.t.k,r.y.t.s,L F r.y.f.k,r.y.f.s,r.y.s,L F r.i.k,r.i.s] 64))=WA at *;have HS:Zp (∀d,bL WA.drew d->cL d wr.heap.size 0 (L F r.n)/\cL d wr.heap.size 1 (L F r.y.k)/\cL d wr.heap.size 2 (L F r.y.n)/\cL d wr.heap.size 3 (L F r.y.t.k)/\cL d wr.heap.size 4 (r.y.t.s)/\cL d wr.heap.size 5 (L F r.y.f.k)/\cL d wr.heap.size 6 (r.y.f.s)/\cL d wr.heap.size 7 (r.y.s)/\cL d wr.heap.size 8 (L F r.i.k)/\cL d wr.heap.size 9 (r.i.s)/\cL d b' (o'+j*2) (L F u.k)/\cL d b' (o'+j*2+1) (u.s)):=fun d m=>⟨M m b0,M m b1,M m b2,M m b3,M m b4,M m b5,M m b6,M m b7,M m b8,M m b9,M m v0,M m v1⟩
   have ax:Zp (∀d,bL WA.drew d->(∃v,cL d w.heap.size (j*7) v)/\(∃v,cL d w.heap.size (j*7+1) v)/\(∃v,cL d w.heap.size (j*7+2) v)/\(∃v,cL d w.heap.size (j*7+3) v)/\(∃v,cL d w.heap.size (j*7+4) v)/\(∃v,cL d w.heap.size (j*7+5) v)/\(∃v,cL d w.heap.size (j*7+6) v)/\d.frozen? ⟨w.heap.size,j*7,C⟩=Zi/\d.frozen? ⟨w.heap.size,j*7+1,C⟩=Zi/\d.frozen? ⟨w.heap.size,j*7+2,C⟩=Zi/\d.frozen? ⟨w.heap.size,j*7+3,C⟩=Zi/\d.frozen? ⟨w.heap.size,j*7+4,C⟩=Zi/\d.frozen? ⟨w.heap.size,j*7+5,C⟩=Zi/\d.frozen? ⟨w.heap.size,j*7+6,C⟩=Zi/\Zp (KH Q w w.heap.size l.length zs d)):=by
    intro d m;have p:=ab.out.below (((V _ _).drew).trans (m.mono (Z _)));have bb:j*7+6<l.length*7:=by have:=HJ.out.1;omega
    exact⟨p.any _ (by omega),p.any _ (by omega),p.any _ (by omega),p.any _ (by omega),p.any _ (by omega),p.any _ (by omega),p.any _ (by omega),p.fz _,p.fz _,p.fz _,p.fz _,p.fz _,p.fz _,p.fz _,p⟩
   have ak:=FH b0 b1 b2 b3 b4 b5 b6 b7 b8 b9 v0 v1;have ah:Zp (WA.drew.cell? ⟨wr.heap.size,0,C⟩=S (L F r.n)/\WA.drew.cell? ⟨wr.heap.size,1,C⟩=S (L F r.y.k)/\WA.drew.cell? ⟨wr.heap.size,2,C⟩=S (L F r.y.n)/\WA.drew.cell? ⟨wr.heap.size,3,C⟩=S (L F r.y.t.k)/\WA.drew.cell? ⟨wr.heap.size,4,C⟩=S (D r.y.t.a r.y.t.l.length r.y.t.c)/\WA.drew.cell? ⟨wr.heap.size,5,C⟩=S (L F r.y.f.k)/\WA.drew.cell? ⟨wr.heap.size,6,C⟩=S (D r.y.f.a r.y.f.l.length r.y.f.c)/\WA.drew.cell? ⟨wr.heap.size,7,C⟩=S (D r.y.a r.y.l.length r.y.c)/\WA.drew.cell? ⟨wr.heap.size,8,C⟩=S (L F r.i.k)/\WA.drew.cell? ⟨wr.heap.size,9,C⟩=S (D r.i.a r.i.l.length r.i.c)/\WA.drew.cell? ⟨b',o'+j*2,C⟩=S (L F u.k)/\WA.drew.cell? ⟨b',o'+j*2+1,C⟩=S (D u.a u.l.length u.c)):=⟨b0,b1,b2,b3,b4,b5,b6,b7,b8,b9,v0,v1⟩
   have aj:Zp (∀d a0 a1 a2 a3 a4 a5 a6,Zm WA.drew.heap.size WA.drew d->(((((((d.setCell ⟨w.heap.size,j*7,C⟩ a0).setCell ⟨w.heap.size,j*7+1,C⟩ a1).setCell ⟨w.heap.size,j*7+2,C⟩ a2).setCell ⟨w.heap.size,j*7+3,C⟩ a3).setCell ⟨w.heap.size,j*7+4,C⟩ a4).setCell ⟨w.heap.size,j*7+5,C⟩ a5).setCell ⟨w.heap.size,j*7+6,C⟩ a6).cell? ⟨wr.heap.size,0,C⟩=S (L F r.n)/\(((((((d.setCell ⟨w.heap.size,j*7,C⟩ a0).setCell ⟨w.heap.size,j*7+1,C⟩ a1).setCell ⟨w.heap.size,j*7+2,C⟩ a2).setCell ⟨w.heap.size,j*7+3,C⟩ a3).setCell ⟨w.heap.size,j*7+4,C⟩ a4).setCell ⟨w.heap.size,j*7+5,C⟩ a5).setCell ⟨w.heap.size,j*7+6,C⟩ a6).cell? ⟨wr.heap.size,1,C⟩=S (L F r.y.k)/\(((((((d.setCell ⟨w.heap.size,j*7,C⟩ a0).setCell ⟨w.heap.size,j*7+1,C⟩ a1).setCell ⟨w.heap.size,j*7+2,C⟩ a2).setCell ⟨w.heap.size,j*7+3,C⟩ a3).setCell ⟨w.heap.size,j*7+4,C⟩ a4).setCell ⟨w.heap.size,j*7+5,C⟩ a5).setCell ⟨w.heap.size,j*7+6,C⟩ a6).cell? ⟨wr.heap.size,2,C⟩=S (L F r.y.n)/\(((((((d.setCell ⟨w.heap.size,j*7,C⟩ a0).setCell ⟨w.heap.size,j*7+1,C⟩ a1).setCell ⟨w.heap.size,j*7+2,C⟩ a2).setCell ⟨w.heap.size,j*7+3,C⟩ a3).setCell ⟨w.heap.size,j*7+4,C⟩ a4).setCell ⟨w.heap.size,j*7+5,C⟩ a5).setCell ⟨w.heap.size,j*7+6,C⟩ a6).cell? ⟨wr.heap.size,3,C⟩=S (L F r.y.t.k)/\(((((((d.setCell ⟨w.heap.size,j*7,C⟩ a0).setCell ⟨w.heap.size,j*7+1,C⟩ a1).setCell ⟨w.heap.size,j*7+2,C⟩ a2).setCell ⟨w.heap.size,j*7+3,C⟩ a3).setCell ⟨w.heap.size,j*7+4,C⟩ a4).setCell ⟨w.heap.size,j*7+5,C⟩ a5).setCell ⟨w.heap.size,j*7+6,C⟩ a6).cell? ⟨wr.heap.size,4,C⟩=S (D r.y.t.a r.y.t.l.length r.y.t.c)/\(((((((d.setCell ⟨w.heap.size,j*7,C⟩ a0).setCell ⟨w.heap.size,j*7+1,C⟩ a1).setCell ⟨w.heap.size,j*7+2,C⟩ a2).setCell ⟨w.heap.size,j*7+3,C⟩ a3).setCell ⟨w.heap.size,j*7+4,C⟩ a4).setCell ⟨w.heap.size,j*7+5,C⟩ a5).setCell ⟨w.heap.size,j*7+6,C⟩ a6).cell? ⟨wr.heap.size,5,C⟩=S (L F r.y.f.k)/\(((((((d.setCell ⟨w.heap.size,j*7,C⟩ a0).setCell ⟨w.heap.size,j*7+1,C⟩ a1).setCell ⟨w.heap.size,j*7+2,C⟩ a2).setCell ⟨w.heap.size,j*7+3,C⟩ a3).setCell ⟨w.heap.size,j*7+4,C⟩ a4).setCell ⟨w.heap.size,j*7+5,C⟩ a5).setCell ⟨w.heap.size,j*7+6,C⟩ a6).cell? ⟨wr.heap.size,6,C⟩=S (D r.y.f.a r.y.f.l.length r.y.f.c)/\(((((((d.setCell ⟨w.heap.size,j*7,C⟩ a0).setCell ⟨w.heap.size,j*7+1,C⟩ a1).setCell ⟨w.heap.size,j*7+2,C⟩ a2).setCell ⟨w.heap.size,j*7+3,C⟩ a3).setCell ⟨w.heap.size,j*7+4,C⟩ a4).setCell ⟨w.heap.size,j*7+5,C⟩ a5).setCell ⟨w.heap.size,j*7+6,C⟩ a6).cell? ⟨wr.heap.size,7,C⟩=S (D r.y.a r.y.l.length r.y.c)/\(((((((d.setCell ⟨w.heap.size,j*7,C⟩ a0).setCell ⟨w.heap.size,j*7+1,C⟩ a1).setCell ⟨w.heap.size,j*7+2,C⟩ a2).setCell ⟨w.heap.size,j*7+3,C⟩ a3).setCell ⟨w.heap.size,j*7+4,C⟩ a4).setCell ⟨w.heap.size,j*7+5,C⟩ a5).setCell ⟨w.heap.size,j*7+6,C⟩ a6).cell? ⟨wr.heap.size,8,C⟩=S (L F r.i.k)/\(((((((d.setCell ⟨w.heap.size,j*7,C⟩ a0).setCell ⟨w.heap.size,j*7+1,C⟩ a1).setCell ⟨w.heap.size,j*7+2,C⟩ a2).setCell ⟨w.heap.size,j*7+3,C⟩ a3).setCell ⟨w.heap.size,j*7+4,C⟩ a4).setCell ⟨w.heap.size,j*7+5,C⟩ a5).setCell ⟨w.heap.size,j*7+6,C⟩ a6).cell? ⟨wr.heap.size,9,C⟩=S (D r.i.a r.i.l.length r.i.c)/\(((((((d.setCell ⟨w.heap.size,j*7,C⟩ a0).setCell ⟨w.heap.size,j*7+1,C⟩ a1).setCell ⟨w.heap.size,j*7+2,C⟩ a2).setCell ⟨w.heap.size,j*7+3,C⟩ a3).setCell ⟨w.heap.size,j*7+4,C⟩ a4).setCell ⟨w.heap.size,j*7+5,C⟩ a5).setCell ⟨w.heap.size,j*7+6,C⟩ a6).cell? ⟨b',o'+j*2,C⟩=S (L F u.k)/\(((((((d.setCell ⟨w.heap.size,j*7,C⟩ a0).setCell ⟨w.heap.size,j*7+1,C⟩ a1).setCell ⟨w.heap.size,j*7+2,C⟩ a2).setCell ⟨w.heap.size,j*7+3,C⟩ a3).setCell ⟨w.heap.size,j*7+4,C⟩ a4).setCell ⟨w.heap.size,j*7+5,C⟩ a5).setCell ⟨w.heap.size,j*7+6,C⟩ a6).cell? ⟨b',o'+j*2+1,C⟩=S (D u.a u.l.length u.c)):=by
    intro d a0 a1 a2 a3 a4 a5 a6 m;have hp:∀k o,k≠w.heap.size->(((((((d.setCell ⟨w.heap.size,j*7,C⟩ a0).setCell ⟨w.heap.size,j*7+1,C⟩ a1).setCell ⟨w.heap.size,j*7+2,C⟩ a2).setCell ⟨w.heap.size,j*7+3,C⟩ a3).setCell ⟨w.heap.size,j*7+4,C⟩ a4).setCell ⟨w.heap.size,j*7+5,C⟩ a5).setCell ⟨w.heap.size,j*7+6,C⟩ a6).cell? ⟨k,o,C⟩=d.cell? ⟨k,o,C⟩:=by intro k o hk;have y:w.heap.size≠k:=fun e=>hk e.symm;rw[Za _ _ _ _ (fun e=>y (congrArg Addr.block e)),Za _ _ _ _ (fun e=>y (congrArg Addr.block e)),Za _ _ _ _ (fun e=>y (congrArg Addr.block e)),Za _ _ _ _ (fun e=>y (congrArg Addr.block e)),Za _ _ _ _ (fun e=>y (congrArg Addr.block e)),Za _ _ _ _ (fun e=>y (congrArg Addr.block e)),Za _ _ _ _ (fun e=>y (congrArg Addr.block e))]
    have hq:=HS.out _ m;exact⟨(hp _ _ nw).trans hq.1,(hp _ _ nw).trans hq.2.1,(hp _ _ nw).trans hq.2.2.1,(hp _ _ nw).trans hq.2.2.2.1,(hp _ _ nw).trans hq.2.2.2.2.1,(hp _ _ nw).trans hq.2.2.2.2.2.1,(hp _ _ nw).trans hq.2.2.2.2.2.2.1,(hp _ _ nw).trans hq.2.2.2.2.2.2.2.1,(hp _ _ nw).trans hq.2.2.2.2.2.2.2.2.1,(hp _ _ nw).trans hq.2.2.2.2.2.2.2.2.2.1,(hp _ _ au).trans hq.2.2.2.2.2.2.2.2.2.2.1,(hp _ _ au).trans hq.2.2.2.2.2.2.2.2.2.2.2⟩
   clear b0 b1 b2 b3 b4 b5 b6 b7 b8 b9 v0 v1;go_region_held3 (fun w'=>w'.cell? ⟨wr.heap.size,0,C⟩=S (L F r.n)/\w'.cell? ⟨wr.heap.size,1,C⟩=S (L F r.y.k)/\w'.cell? ⟨wr.heap.size,2,C⟩=S (L F r.y.n)/\w'.cell? ⟨wr.heap.size,3,C⟩=S (L F r.y.t.k)/\w'.cell? ⟨wr.heap.size,4,C⟩=S (D r.y.t.a r.y.t.l.length r.y.t.c)/\w'.cell? ⟨wr.heap.size,5,C⟩=S (L F r.y.f.k)/\w'.cell? ⟨wr.heap.size,6,C⟩=S (D r.y.f.a r.y.f.l.length r.y.f.c)/\w'.cell? ⟨wr.heap.size,7,C⟩=S (D r.y.a r.y.l.length r.y.c)/\w'.cell? ⟨wr.heap.size,8,C⟩=S (L F r.i.k)/\w'.cell? ⟨wr.heap.size,9,C⟩=S (D r.i.a r.i.l.length r.i.c)/\w'.cell? ⟨b',o'+j*2,C⟩=S (L F u.k)/\w'.cell? ⟨b',o'+j*2+1,C⟩=S (D u.a u.l.length u.c))
    (first|(with_reducible exact ak.out)|(with_reducible exact ah.out)|(with_reducible exact HS.out _ m)|(with_reducible exact aj.out _ _ _ _ _ _ _ _ m))
    (first|(go_at_call 109;refine(ar.out _ (HI.out.1.below ((V _ _).drew)) (HI.out.2.1.below ((V _ _).drew)) (HI.out.2.2.1.below ((V _ _).drew))).mono ?_;rintro e d ⟨z,rfl,hz,ai,am,m⟩;obtain⟨⟨y0,x0⟩,⟨y1,x1⟩,⟨y2,x2⟩,⟨y3,x3⟩,⟨y4,x4⟩,⟨y5,x5⟩,⟨y6,x6⟩,f0,f1,f2,f3,f4,f5,f6,an⟩:=ax.out d m))
   have HN:Zp (KH Q w w.heap.size l.length (zs++[z]) (Md d w.heap.size (j*7) z)/\(zs++[z]).length=j+1/\∀q(h:q<(zs++[z]).length)(h1:q<l.length)(h2:q<U.l.length),(zs++[z])[q].tm=Jw l[q].n l[q].y.tm l[q].i.ty U.l[q].ty):=by
    have ao:=an.out.step (z:=z) (Z _) ai (am _ (fun b hb=>⟨by have:=HJ.out.2;have:w.heap.size<WA.drew.heap.size:=this;omega,af.out.1 b (by have:=HJ.out.2;have:w.heap.size<WA.drew.heap.size:=this;omega)⟩) HI.out.2.2.2) (by rw[HZ.out.1];exact HJ.out.1);rw[HZ.out.1] at ao;refine⟨ao,by simp[HZ.out.1],fun q hq h1 h2=>?_⟩;by_cases e:q=j
    .subst e;have:(zs++[z])[q]=z:=by rw[List.getElem_append_right (by rw[HZ.out.1];exact Z _)];simp[HZ.out.1]
     rw[this,hz,aq.out.1,aq.out.2]
    .have hq':q<zs.length:=by rw[Zy,List.length_singleton] at hq;have:=HZ.out.1;omega
     rw[ZK hq'];exact HZ.out.2 q hq' h1 h2
   clear hz ai am m ab HZ HI ar HS ak ah aj an x0 x1 x2 x3 x4 x5 x6 f0 f1 f2 f3 f4 f5 f6;go_wp2_with fail;rw[<-av.out,<-az.out];go_roundg (l.length-(j+1))
   case measure=>omega
   case rel=>exact⟨j+1,zs++[z],by omega,by go_num,HN⟩
  .have HE:=HQ;clear HQ;have HJ:Zp (j=l.length):=by show j=l.length;omega
   go_wp2_with fail;go_ret;exact⟨zs,rfl,HE.out.1,HE.out.2.1.trans HJ.out,HE.out.2.2⟩
theorem U9{P:Program}{ops:Array Oper}{rest:List Oper}{o:Oper}{a:Act}{Q:Exit->Act->Zg->Prop}
  (hg:o.guard=C) (s x:Operand) (t:TypeId) (hop:o.op=Op.call { callee:=Callee.builtin Builtin.append,args:=#[s,x],argTypes:=#[t,t] })
  (e:TypeId) (i:TypeInfo) (h1:P.underlying t=S (.slice e)) (h2:P.info? e=S i)
  (b n cap:Nat) (hs:a.eval s=D (S ⟨b,0,C⟩) n cap) (xa:Option ZC) (c:Nat) (hx:a.eval x=D xa 0 c) (hroom:n<=cap)
  (h:wpList P ops Q rest (a.put o.dst (D (S ⟨b,0,C⟩) n cap)) w):wpList P ops Q (o::rest) a w:=by
 refine wpList_plain hg fun K k=>?_;have g:Src P i.size t (D xa 0 c) 0 [] w:=by
  cases xa with
  |none=>exact Src.ofNil w h1 c
  |some ad=>exact Src.ofSlice w h1 ad 0 c [] (by simp) (fun j u h=>by simp at h) (fun u h=>by cases h)
 have d:=run_append_room_src (P:=P) w t t o.type e i h1 h2 b 0 n cap (D xa 0 c) 0 [] g (by omega) (fun j h=>by simp at h) (fun j h=>by simp at h);unfold Oper.wp;simp only[execOp,hop,resolve,invoke,builtin,Sem.run_bind,Sem.run_pure,Result.andThen_ok,List.map_toArray,List.map_cons,List.map_nil,hs,hx,d];exact k _ _ h
theorem LS:∀(l:List Tr)(q:Nat)(h:q<l.length),(cellsOf l)[q*2]?=S (L F l[q].k)/\(cellsOf l)[q*2+1]?=S (D l[q].a l[q].l.length l[q].c)
 |[],q,h=>by simp at h
 |x::r,0,_=>by simp[cellsOf]
 |x::r,q+1,h=>by
  have:=LS r q (by simpa using h);have e:(q+1)*2=q*2+1+1:=by omega
  rw[e];simpa[cellsOf] using this
theorem KQ:∀(l:List Tr)(u:Value),u∈cellsOf l->u.oneCell'=Zs
 |[],u,h=>by simp[cellsOf] at h
 |x::r,u,h=>by
  simp only[cellsOf,ZE] at h;rcases h with rfl|rfl|h
  .simp[Value.oneCell']
  .simp[Value.oneCell']
  .exact KQ r u h
theorem LR{T:Tr}{b:Nat}(h:T.In w)(p:T.a=S ⟨b,o,C⟩)(j:Nat)(u:Value)(d:(cellsOf T.l)[j]?=S u):w.cell? ((⟨b,o,C⟩:ZC).add j)=S u:=by
 have m:j<T.l.length*2:=by have:=(ZH.1 d).1;rwa [UQ] at this
 obtain⟨r,x,e,i,k,_⟩:=h.part (j / 2) (by omega);rw[p] at e;cases e
 obtain⟨c,g⟩:=LS T.l (j / 2) (by omega);have a:(⟨b,o,C⟩:ZC).add j=⟨b,o+j,C⟩:=by
  unfold Addr.add;split
  .rename_i h;simp_all
  .rfl
 rcases Nat.mod_two_eq_zero_or_one j with l|l
 .have e:j / 2*2=j:=by omega
  rw[e] at c i;rw[d] at c;rw[ZQ c];rw[a];exact i
 .have e:j / 2*2+1=j:=by omega
  have q:o+j / 2*2+1=o+j:=by omega
  rw[e] at g;rw[q] at k;rw[d] at g;rw[ZQ g];rw[a];exact k
theorem Kj{base cap n:Nat}{l:List Tr}(h:w.ownsRow base 24 2 (D (S ⟨g,0,C⟩) n cap) n (cellsOf l))(c:n=l.length)(a:∀t,t∈l->t.In w)(k:Int):(Tr.mk k (S ⟨g,0,C⟩) cap l).In w:=by
 refine Tr.li.2 ⟨fun j b=>⟨g,0,rfl,?_,?_⟩,a⟩
 .rw[h.cellAt _ (by omega)];simpa using(LS l j b).1
 .rw[h.cellAt _ (by omega)];simpa[Tr.sl] using(LS l j b).2
theorem BT(x T:Tr)(w:Zg)(hx:x.In w)(z:T.In w)(hl:T.l.length<=1000):
  Zn Zb 65 #[Zc #[L F x.k,D x.a x.l.length x.c],D T.a T.l.length T.c] w fun e w'=>∃N:Tr,e=Zd (D N.a N.l.length N.c)/\N.l=x::T.l/\N.In w'/\(∀y,N.a=S y->w.heap.size<=y.block)/\Zm w.heap.size w w':=by
 obtain⟨i0,a2,a4,a5,a6⟩:=info_parts Tryz.info24;have c:bL w ((w.alloc (Zk x.v 24)).alloc (Zk x.v 24)):=((V _ _).alloc (Z _) _).alloc (by simp) _;have d:((w.alloc (Zk x.v 24)).alloc (Zk x.v 24)).ownsRow (w.heap.size+1) 24 2 (D (S ⟨w.heap.size+1,0,C⟩) 1 1) 1 (cellsOf [x]):=by have:=World.ownsRow_lit (base:=w.heap.size+1) (e:=24) (size:=2) (w.alloc (Zk x.v 24)) x.v 1 (by simp) (by unfold maxLen;omega) (by simp);simpa[cellsOf] using this
 by_cases h0:T.l.length=0
 .have hT0:=List.eq_nil_of_length_eq_zero h0;have HE:Zp ((Tr.mk 0 (S ⟨w.heap.size+1,0,C⟩) 1 [x]).In ((w.alloc (Zk x.v 24)).alloc (Zk x.v 24))/\bL w ((w.alloc (Zk x.v 24)).alloc (Zk x.v 24))):=⟨Kj d rfl (fun t m=>by have:t=x:=(by simpa using m);subst this;exact hx.below c) 0,c⟩
  rw[h0];clear d c hx z hl;go_enter func65,ntmps65;go_wp2_with (at_builtin;refine U9 rfl _ _ _ rfl 24 i0 ZJ a2 (w.heap.size+1) 1 1 rfl T.a T.c rfl (by omega) ?_)
  go_ret;exact⟨_,rfl,by rw[hT0],HE.out.1,fun y hy=>by cases hy;show w.heap.size<=w.heap.size+1;omega,HE.out.2⟩
 .obtain⟨b,o,ea,_⟩:=z.part 0 (by omega);have a0:=z.below c;have i:=fun j u h=>LR a0 ea j u h;have a1:Zp (∀t,t∈x::T.l->t.In ((w.alloc (Zk x.v 24)).alloc (Zk x.v 24))/\t.Bl (·<w.heap.size)):=by
   intro t m;rcases ZE.1 m with rfl|m
   .exact⟨hx.below c,hx.bl⟩
   .obtain⟨q,hq,rfl⟩:=ZO m;obtain⟨_,_,_,_,_,hi⟩:=z.part q hq;exact⟨hi.below c,hi.bl⟩
  have hm:0<T.l.length:=by omega
  have HB:=Yy c;rw[ea];clear hx z a0 ea c;go_enter func65,ntmps65;go_wp2_with (at_builtin;refine wpList_append_lies _ rfl _ _ _ rfl (w.heap.size+1) 24 i0 _ 2 32 ZJ a2 a4 a5 a6 rfl (by omega) (D (S ⟨w.heap.size+1,0,C⟩) 1 1) 1 (cellsOf [x]) rfl d ⟨b,o,C⟩ T.l.length T.c (cellsOf T.l) rfl (UQ _) i (KQ _) hm (by unfold maxLen;omega) (by omega) (by simp) (w.heap.size+1+1) (by simp) ?_;intro gg cap1 w3 k a r a3)
  have hg:w.heap.size+1<=gg:=by
   rcases r with h|h
   .simp[Value.ownBlock] at h;omega
   .omega
  have a7:=a.size;have g:Zm (w.heap.size+1) ((w.alloc (Zk x.v 24)).alloc (Zk x.v 24)) w3:=⟨a.os,a.tape,a.output,a.size,fun q hq=>a.block q (by simp;omega) (by simp[Value.ownBlock];omega)⟩
  have HE:Zp ((Tr.mk 0 (S ⟨gg,0,C⟩) cap1 (x::T.l)).In w3/\bL w w3):=by refine⟨Kj (n:=1+T.l.length) (l:=x::T.l) (by simpa[cellsOf] using k) (by simp;omega) (fun t m=>?_) 0,HB.out.trans (g.mono (by omega))⟩;obtain⟨h1,h2⟩:=a1.out t m;exact Tr.In.congr (P:=fun q=>q<w.heap.size) (fun q hq o=>g.cell (p:=⟨q,o,C⟩) (by show q<_;omega)) h2 h1
  clear k a r a3 g d i a1 HB;go_wp2_with fail;go_ret;exact⟨⟨0,S ⟨gg,0,C⟩,cap1,x::T.l⟩,by simp[Nat.add_comm],rfl,HE.out.1,fun y hy=>by cases hy;show w.heap.size<=gg;omega,HE.out.2⟩
end Go.Proofs.YtnddkmccagiclabGreatDoor
