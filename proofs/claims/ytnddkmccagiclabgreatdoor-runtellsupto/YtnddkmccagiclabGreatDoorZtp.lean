import Derived.Test.YtnddkmccagiclabGreatDoorZtg
import Derived.Test.YtnddkmccagiclabGreatDoorZti
set_option maxRecDepth 20000
set_option maxHeartbeats 16000000
open Go.RowKit Go.Proofs.Tryz
open Go.Value renaming slice→C,int→E,tuple→T,agg→Z
open List renaming length_cons→D,length_nil→H,length_append→N,mem_singleton→P,mem_append→V
open Go.IntKind renaming i64→F
open Option renaming none→G,map_eq_some_iff→I,some→L,bind_eq_some_iff→U
open Nat renaming zero_add→J,le_refl→X
open Go.Proofs.Tryz renaming results18→K,prog→S
open Go renaming bodyPost_ret→M
open Go.Ending renaming returned→Q
open Go.RowKit renaming Hid→Y
open Go.RowKit.Below renaming refl→Za
namespace Go.Proofs.YtnddkmccagiclabGreatDoor
def Tm.nb:Tm->Prop
 |⟨_,n,_,_,l⟩=>n<=9223372036854775807/\∀x,x∈l->x.nb
theorem Tm.nb_mk{k n:Int}{t f:Ty}{l:List Tm}:(Tm.mk k n t f l).nb↔n<=9223372036854775807/\∀x,x∈l->x.nb:=by rw[Tm.nb]
theorem TT.nb_tm{x:TT}:x.tm.nb->x.nb:=by
 induction x using TT.ind with
 |h k n t f a c l ih=>intro h;rw[TT.tm_mk] at h;obtain⟨d,e⟩:=Tm.nb_mk.1 h;exact TT.nb_mk.2 ⟨d,fun x b=>ih x b (e _ (List.mem_map_of_mem b))⟩
theorem Rn{d:ByteArray}{v:Int}(h:Jc d=L v):v<=9223372036854775807:=by
 unfold Jc at h;split at h
 .rename_i u hu;split at h
  .cases h;exact(Lib.atoiAll_bounds hu).2
  .cases h
 .cases h
theorem PV(x:ByteArray):∀(l:List ByteArray)(i k:Nat),UC x l i=L k->k<i+l.length
 |[],i,k,h=>by cases h
 |y::r,i,k,h=>by
  simp only[UC] at h;split at h
  .cases h;simp
  .have:=PV x r (i+1) k h;simp only[D];omega
theorem Q8{x:ByteArray}{r:List ByteArray}{p:Tm×List ByteArray}(h:Xh x r=L p):p.1.nb:=by
 unfold Xh at h;split at h
 .rename_i b hb;have:=PV x KV 0 b hb;have e:KV.length=2:=rfl;cases h
  exact Tm.nb_mk.2 ⟨by omega,fun x a=>by cases a⟩
 .split at h
  .obtain⟨v,hv,rfl⟩:=I.1 h;exact Tm.nb_mk.2 ⟨Rn hv,fun x a=>by cases a⟩
  .obtain⟨v,hv,rfl⟩:=I.1 h;exact Tm.nb_mk.2 ⟨Rn hv,fun x a=>by cases a⟩
theorem Re(f:List ByteArray->Option (Tm×List ByteArray))(hf:∀ws p,f ws=L p->p.1.nb):∀(m:Nat)(ws:List ByteArray)(q:List Tm×List ByteArray),UH f m ws=L q->∀x,x∈q.1->x.nb
 |0,ws,q,h=>by simp[UH] at h;rw[<-h];intro x hx;cases hx
 |m+1,ws,q,h=>by
  simp only[UH,U,I] at h;obtain⟨p,hp,q',hq,rfl⟩:=h;intro x hx;rcases List.mem_cons.1 hx with rfl|hx
  .exact hf ws p hp
  .exact Re f hf m _ _ hq x hx
theorem Pw:∀(n:Nat)(ws:List ByteArray)(p:Tm×List ByteArray),Y0 n ws=L p->p.1.nb
 |0,_,_,h=>by simp[Y0] at h
 |n+1,[],_,h=>by simp[Y0] at h
 |n+1,x::r,p,h=>by
  by_cases hx:x=Ok
  .subst hx;rw[Kc] at h;cases r with
   |nil=>cases h
   |cons y r1=>simp only[LZ,U,I] at h;obtain⟨k,_,p1,h1,q,h2,r4,h3,rfl⟩:=h;exact Tm.nb_mk.2 ⟨by omega,Re (Y0 n) (fun ws p hp=>Pw n ws p hp) _ _ _ h2⟩
  .rw[Kb n x r hx] at h;exact Q8 h
theorem PK(a:List UInt8):(JG a).length<=1:=by unfold JG;split<;>simp
theorem NK:∀(s cur:List UInt8),(Mr cur s).length<=2*s.length+1
 |[],cur=>by rw[Mr];have:=PK cur;omega
 |c::r,cur=>by
  rw[Mr];have h1:=PK cur;split
  .have:=NK r [];simp only[N,D];omega
  .split
   .have:=NK r [];simp only[N,D,H];omega
   .have:=NK r (cur++[c]);simp only[D];omega
theorem LJ:∀(s cur x:List UInt8),x∈Mr cur s->x.length<=cur.length+s.length+1
 |[],cur,x,h=>by
  rw[Mr,JG] at h;split at h
  .cases h
  .rcases P.1 h with rfl;omega
 |c::r,cur,x,h=>by
  have hf:∀y,y∈JG cur->y.length<=cur.length:=by
   intro y a;rw[JG] at a;split at a
   .cases a
   .rcases P.1 a with rfl;omega
  rw[Mr] at h;split at h
  .rcases V.1 h with h|h
   .have:=hf x h;simp only[D];omega
   .have:=LJ r [] x h;simp only[D,H] at this ⊢;omega
  .split at h
   .rcases V.1 h with h|h
    .rcases V.1 h with h|h
     .have:=hf x h;simp only[D];omega
     .rcases P.1 h with rfl;simp
    .have:=LJ r [] x h;simp only[D,H] at this ⊢;omega
   .have:=LJ r (cur++[c]) x h;simp only[N,D,H] at this ⊢;omega
theorem Vk(s:List UInt8)(h:s.length<=1000):(Xb s).length<=2001:=by rw[Xb,List.length_map];have:=NK s [];omega
theorem QG(s:List UInt8)(h:s.length<=1000):Wr (Xb s):=by
 intro x b;obtain⟨y,a,rfl⟩:=List.mem_map.1 b;have:=LJ s [] y a;show y.toArray.size<=1000000
 simp at this ⊢;omega
def Jj(s:List UInt8):Option Tm:=
 match Y0 ((Xb s).length+1) (Xb s) with
 |some (t,[])=>if Uh 0 t=true then L t else G
 |_=>G
def Nf(s:ByteArray)(w:World)(e:Ending)(w':World):Prop:=∃(x:TT)(er:Int),e=Q (T #[Z #[E F x.k,E F x.n,E F x.t.k,C x.t.a x.t.l.length x.t.c,E F x.f.k,C x.f.a x.f.l.length x.f.c,C x.a x.l.length x.c],E F er])/\x.In w'/\x.nb/\Below w.heap.size w w'/\ ((1000<s.size/\er=4/\x=YJ 0 0)\/(s.size<=1000/\Jj s.data.toList=G/\er=1/\x=YJ 0 0)\/(s.size<=1000/\Jj s.data.toList=L x.tm/\er=0))
theorem QR(k n:Int)(h:n<=9223372036854775807):(YJ k n).nb:=TT.nb_mk.2 ⟨h,fun x hx=>by cases hx⟩
theorem Yi.lowB{R B:Nat}{u v:World}(h:Yi R G u v)(hR:R<=u.heap.size)(hB:B<=R):Below B u v:=⟨h.os,h.tape,h.output,h.size,fun k hk=>h.block k (by omega) (by omega) (by simp)⟩
theorem Oh{w w4:World}{x:TT}(h:Below w.heap.size w w4):Below w.heap.size w (Y5 w4 w.heap.size x):=h.trans ⟨(YF (x:=x)).os,(YF (x:=x)).tape,(YF (x:=x)).output,(YF (x:=x)).size,fun k hk=>YF.block k (by have:=h.size;omega) (by omega) (by simp)⟩
theorem SX(s:ByteArray)(c:1000<s.size)(e:s.size<=9223372036854775807)(w:World):
  Calls S 18 #[.string s] w (Nf s w):=by
 have a:=Jp w;have d:(1000:Int)<(s.size:Int):=by omega
 have b:Y (Nf s w (Q (T #[Z #[E F 0,E F 0,E F 0,C G 0 0,E F 0,C G 0 0,C G 0 0],E F 4])) (w7 w)):=⟨YJ 0 0,4,rfl,Ku _ _ _,QR _ _ (by omega),Xv w,.inl ⟨c,rfl,rfl⟩⟩
 clear a;go_enter func18,ntmps18;go_wp2_with fail;refine M (v:=T #[Z #[E F 0,E F 0,E F 0,C G 0 0,E F 0,C G 0 0,C G 0 0],E F 4]) ?_ rfl b.out;simp[results,K,go_sem]
theorem Ri(s:ByteArray)(hs:s.size<=1000)(w:World)(hg:Gl w):
  Calls S 18 #[.string s] w (Nf s w):=by
 have i1:¬(1000:Int)<(s.size:Int):=by omega
 have b9:s.data.toList.length=s.size:=Array.length_toList;obtain⟨d,ab⟩:∃d,Xb s.data.toList=d:=⟨_,rfl⟩
 have HC:Y (Calls S 32 #[.string s] (w7 w) fun e w'=>∃A,e=Q (C (L ⟨A,0,G⟩) d.length d.length)/\(w7 w).heap.size<=A/\w'.ownsRow (w7 w).heap.size 9 1 (C (L ⟨A,0,G⟩) d.length d.length) d.length (d.map Value.string)/\Below (w7 w).heap.size (w7 w) w'):=by have:=Cj s hs (w7 w) (hg.below (Xv w));rw[ab] at this;exact this
 have ao:Y (d.length<=2001/\Wr d):=by rw[<-ab];exact⟨Vk _ (by omega),QG _ (by omega)⟩
 have b8:=Yx ab;clear ab;have HG:=Yx (hg.below (Xv w));have bk:=hg.size;have b5:(w7 w).heap.size=w.heap.size+1:=by simp[w7]
 clear hg b9;go_enter func18,ntmps18;go_wp2_with fail;refine HC.out.mono ?_;rintro e l ⟨A,rfl,hA,a7,a3⟩;have be:=ao.out.1;have a5:A<l.heap.size:=by
  rcases a7.2 with⟨h,_⟩|⟨g,bm,bi,h,_,hg,_⟩
  .cases h
  .cases h;exact(Array.getElem?_eq_some_iff.1 hg).1
 have av:bL w l:=(Xv w).trans (a3.mono (by rw[b5];omega));have bf:w.heap.size+1<=l.heap.size:=by have:=a3.size;rw[b5] at this;exact this
 have ad:=(Jp w).below a3;have ak:∀o,bL l (l.alloc o):=fun o=>(Za _ _).alloc (X _) _;have b4:∀o,o=Obj.cells #[C (L ⟨A,0,G⟩) d.length d.length,.bool false] 59->RS l.heap.size d false (l.alloc o):=by rintro o rfl;refine⟨⟨_,_,by simp[go_sem],X _,fun _=>⟨A,0,rfl,a5,fun i x hx=>?_⟩⟩,by simp[go_sem],by simp[go_sem],by simp[go_sem],by omega⟩;have hi:i<d.length:=(List.getElem?_eq_some_iff.1 hx).1;rw[(ak _).cell (p:=⟨A,0+i,G⟩) a5,J,a7.cellAt i (by omega),List.getElem?_map,hx];rfl
 have HT:Y (Calls S 33 #[.pointer (L ⟨l.heap.size,0,G⟩)] (l.alloc (.cells #[C (L ⟨A,0,G⟩) d.length d.length,.bool false] 59)) (U7 l.heap.size false (Y0 (d.length+1) d) (l.alloc (.cells #[C (L ⟨A,0,G⟩) d.length d.length,.bool false] 59)))):=Qi l.heap.size (by omega) (d.length+1) d false _ (by omega) ao.out.2 ((HG.out.below a3).below (ak _)) (b4 _ rfl)
 have HD:=KS av ad (HG.out.below a3);clear hA a7 a3 HC a5 av ad b4 ak HG be;go_wp2_with fail;refine HT.out.mono ?_;rintro e w3 ⟨x,rfl,b7,a4,a1,b1,aw⟩;obtain⟨b6,b',ba,an⟩:=b1.letters;obtain⟨O,hO⟩:∃O,O=Obj.cells #[C (L ⟨A,0,G⟩) d.length d.length,.bool false] 59:=⟨_,rfl⟩
 rw[<-hO] at a4 a1;have ac:bL l (l.alloc O):=(Za _ _).alloc (X _) _;have a9:(l.alloc O).heap.size=l.heap.size+1:=by simp
 have bg:l.heap.size+1<=w3.heap.size:=by have:=a1.size;rw[a9] at this;exact this
 have aj:bL w w3:=(HD.out.1.trans (ac.mono (by omega))).trans (a1.lowB (by rw[a9];omega) (by omega));have ah:=(HD.out.2.1.below ac).kept a1 (by omega);have ae:=(HD.out.2.2.below ac).kept (by omega) a1;have k:∀o,bL w3 (w3.alloc o):=fun o=>(Za _ _).alloc (X _) _;obtain⟨⟨ra,rc,bb,_,_⟩,bn,_,_,_⟩:=ba;have af:x.Bl (w.heap.size<·):=a4.mono fun b hb=>by rw[a9] at hb;omega
 have HE:Y (∀W,bL w3 W->Xw W w.heap.size (YJ 0 0)/\bL w W/\x.In W/\x.Bl (w.heap.size<·)):=fun W hW=>⟨ah.below hW,aj.trans (hW.mono aj.size),b7.below hW,af⟩
 have HS:=Un an aw;have a8:=Yx ae;have bh:l.heap.size≠w3.heap.size:=by omega
 have bo:l.heap.size<w3.heap.size:=by omega
 clear b7 a4 a1 b1 aw an aj ah ae ac a9 af hO HD HT;have z:Y (Jj s.data.toList=G->∀W,bL w3 W->Nf s w (Q (T #[Z #[E F 0,E F 0,E F 0,C G 0 0,E F 0,C G 0 0,C G 0 0],E F 1])) (Y5 W w.heap.size (YJ 0 0))):=fun hp W hW=>⟨YJ 0 0,1,rfl,Ku _ _ _,QR _ _ (by omega),Oh (HE.out W hW).2.1,.inr (.inl ⟨hs,hp,rfl,rfl⟩)⟩
 have a0:Y (Jj s.data.toList=match Y0 (d.length+1) d with|some (t,[])=>if Uh 0 t=true then L t else G|_=>G):=by show _=_;rw[Jj,b8.out]
 cases b' with
 |true=>
  have q:Jj s.data.toList=G:=by
   have ho:Y0 (d.length+1) d=G:=by
    rcases HS.out.1 with⟨_,h⟩|⟨h,_⟩
    .cases h
    .exact Option.map_eq_none_iff.1 h
   rw[a0.out,ho]
  obtain⟨O,hO⟩:∃O,O=Obj.cells x.v 27:=⟨_,rfl⟩
  have HF:Y _:=z.out q (w3.alloc O) (k O);have a:=(HE.out _ (k O)).1;have r:Y _:=Uo (x:=YJ 0 0) a;have c:=a.at7;have c0:=c.c0;have c1:=c.c1;have c2:=c.c2;have c3:=c.c3;have c4:=c.c4;have c5:=c.c5;have c6:=c.c6;simp only[J,YJ] at c0 c1 c2 c3 c4 c5 c6;have f0:=a.fz 0 (by omega);have f1:=a.fz 1 (by omega);have f2:=a.fz 2 (by omega);have f3:=a.fz 3 (by omega);have f4:=a.fz 4 (by omega);have f5:=a.fz 5 (by omega);have f6:=a.fz 6 (by omega);subst hO;clear a c q z k HS a0 a8;go_wp2_with fail;refine M (v:=T #[Z #[E F 0,E F 0,E F 0,C G 0 0,E F 0,C G 0 0,C G 0 0],E F 1]) ?_ rfl HF.out;obtain⟨d0,d1,d2,d3,d4,d5,d6⟩:=r.out;simp only[YJ,H] at d0 d1 d2 d3 d4 d5 d6;simp[results,K,go_sem,d0,d1,d2,d3,d4,d5,d6]
 |false=>
  obtain⟨p,hp,u⟩:∃p,Y0 (d.length+1) d=L p/\p.2=b6:=by
   rcases HS.out.1 with⟨h,_⟩|⟨_,_,h⟩
   .exact I.1 h
   .cases h
  have a2:=HS.out.2 p hp;have aa:x.nb:=TT.nb_tm (a2▸Pw _ _ _ hp);obtain⟨O,hO⟩:∃O,O=Obj.cells x.v 27:=⟨_,rfl⟩
  cases b6 with
  |cons y r'=>
   have q:Jj s.data.toList=G:=by obtain⟨p1,p2⟩:=p;dsimp only at u;subst u;rw[a0.out,hp]
   have i2:(0:Int)<(((y::r').length:Nat):Int):=by simp
   have HF:Y _:=z.out q (w3.alloc O) (k O);have a:=(HE.out _ (k O)).1;have r:Y _:=Uo (x:=YJ 0 0) a;have c:=a.at7;have c0:=c.c0;have c1:=c.c1;have c2:=c.c2;have c3:=c.c3;have c4:=c.c4;have c5:=c.c5;have c6:=c.c6;simp only[J,YJ] at c0 c1 c2 c3 c4 c5 c6;have f0:=a.fz 0 (by omega);have f1:=a.fz 1 (by omega);have f2:=a.fz 2 (by omega);have f3:=a.fz 3 (by omega);have f4:=a.fz 4 (by omega);have f5:=a.fz 5 (by omega);have f6:=a.fz 6 (by omega);subst hO;have HP:=KS hp u a2;clear a c q z k HS a0 a8 hp u a2 aa HP;go_wp2_with fail;refine M (v:=T #[Z #[E F 0,E F 0,E F 0,C G 0 0,E F 0,C G 0 0,C G 0 0],E F 1]) ?_ rfl HF.out;obtain⟨d0,d1,d2,d3,d4,d5,d6⟩:=r.out;simp only[YJ,H] at d0 d1 d2 d3 d4 d5 d6;simp[results,K,go_sem,d0,d1,d2,d3,d4,d5,d6]
  |nil=>
   have az:Jj s.data.toList=if Uh 0 x.tm=true then L x.tm else G:=by obtain⟨p1,p2⟩:=p;dsimp only at u a2;subst u a2;rw[a0.out,hp]
   have b3:=Yx az;have am:Y (Calls S 29 #[Z x.v,E F 0] (w3.alloc O) fun e w'=>e=Q (.bool (Uh 0 x.tm))/\Below (w3.alloc O).heap.size (w3.alloc O) w'):=Mh x 0 _ (a8.out.below (k O)).gp (HE.out _ (k O)).2.2.1 aa;have i2:¬(0:Int)<((([]:List ByteArray).length:Nat):Int):=by simp
   simp only[H] at bb;have e0:((0:Nat):Int)=0:=rfl;obtain⟨g,ai⟩:∃g,Uh 0 x.tm=g:=⟨_,rfl⟩
   rw[ai] at am;have ay:=Yx ai;have bc:Y x.nb:=aa;have aq:=k O;have au:=Yx aq;have ap:X4 (w3.alloc O) w3.heap.size 0 x:=by subst hO;constructor<;>simp[go_sem]
   have bd:=Yx ap;have bj:w3.heap.size<(w3.alloc O).heap.size:=by simp
   clear hp u a2 az ai aa aq ap HS a0 k a8;subst hO;go_wp2_with fail;refine am.out.mono ?_;rintro e w5 ⟨rfl,al⟩;have a6:=au.out.trans (al.mono au.out.size);have j:=bd.out.below al;clear al am;cases g with
   |false=>
    have q:Jj s.data.toList=G:=by rw[b3.out,ay.out];rfl
    have HF:Y _:=z.out q w5 a6;have a:=(HE.out _ a6).1;have r:Y _:=Uo (x:=YJ 0 0) a;have c:=a.at7;have c0:=c.c0;have c1:=c.c1;have c2:=c.c2;have c3:=c.c3;have c4:=c.c4;have c5:=c.c5;have c6:=c.c6;simp only[J,YJ] at c0 c1 c2 c3 c4 c5 c6;have f0:=a.fz 0 (by omega);have f1:=a.fz 1 (by omega);have f2:=a.fz 2 (by omega);have f3:=a.fz 3 (by omega);have f4:=a.fz 4 (by omega);have f5:=a.fz 5 (by omega);have f6:=a.fz 6 (by omega);clear a c q z a6 j;go_wp2_with fail;refine M (v:=T #[Z #[E F 0,E F 0,E F 0,C G 0 0,E F 0,C G 0 0,C G 0 0],E F 1]) ?_ rfl HF.out;obtain⟨d0,d1,d2,d3,d4,d5,d6⟩:=r.out;simp only[YJ,H] at d0 d1 d2 d3 d4 d5 d6;simp[results,K,go_sem,d0,d1,d2,d3,d4,d5,d6]
   |true=>
    have ar:Jj s.data.toList=L x.tm:=by rw[b3.out,ay.out];rfl
    obtain⟨a,ax,b0,b2⟩:=HE.out _ a6;have HF:Y (Nf s w (Q (T #[Z x.v,E F 0])) (Y5 w5 w.heap.size x)):=⟨x,0,rfl,b0.keptR YF (b2.mono fun b hb=>by omega),bc.out,Oh ax,.inr (.inr ⟨hs,ar,rfl⟩)⟩
    have r:Y _:=Uo (x:=x) a;have t0:=j.c0;have t1:=j.c1;have t2:=j.c2;have t3:=j.c3;have t4:=j.c4;have t5:=j.c5;have t6:=j.c6;simp only[J] at t0 t1 t2 t3 t4 t5 t6;have c:=a.at7;have c0:=c.c0;have c1:=c.c1;have c2:=c.c2;have c3:=c.c3;have c4:=c.c4;have c5:=c.c5;have c6:=c.c6;simp only[J,YJ] at c0 c1 c2 c3 c4 c5 c6;have f0:=a.fz 0 (by omega);have f1:=a.fz 1 (by omega);have f2:=a.fz 2 (by omega);have f3:=a.fz 3 (by omega);have f4:=a.fz 4 (by omega);have f5:=a.fz 5 (by omega);have f6:=a.fz 6 (by omega);clear a c ar z a6 j ax b0 b2;go_wp2_with fail;refine M (v:=T #[Z x.v,E F 0]) ?_ rfl HF.out;obtain⟨d0,d1,d2,d3,d4,d5,d6⟩:=r.out;simp[results,K,go_sem,d0,d1,d2,d3,d4,d5,d6]
theorem VI(s:ByteArray)(b:s.size<=9223372036854775807)(w:World)(a:Gl w):Calls S 18 #[.string s] w (Nf s w):=by
 by_cases hs:s.size<=1000
 .exact Ri s hs w a
 .exact SX s (by omega) b w
end Go.Proofs.YtnddkmccagiclabGreatDoor
