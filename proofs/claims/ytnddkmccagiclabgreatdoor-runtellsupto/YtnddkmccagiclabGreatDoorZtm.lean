import Derived.Test.YtnddkmccagiclabGreatDoorZtf
import Derived.Test.YtnddkmccagiclabGreatDoorZtg
set_option maxRecDepth 20000
set_option maxHeartbeats 16000000
open Go.RowKit Go.Proofs.Tryz
open Go.Value renaming int→A,slice→C,agg→F,pointer→T
open Go.IntKind renaming i64→B
open Option renaming none→D,some→L
open Go.Proofs.Tryz renaming prog→E,ntmps151→S,func151→U
open Go.Ending renaming returned→I
open Go renaming cell_later→J,Calls→O,World→Q
open Bool renaming false→K,true→R,and_eq_true→V
open Go.World renaming block_lt_of_cell?→M
open Go.RowKit.Below renaming refl→N
open Go.RowKit renaming Below→P,Hid→Y
open Nat renaming le_trans→X,le_refl→Zb
open List renaming getElem_cons_zero→Z,getElem_cons_succ→Za
namespace Go.Proofs.YtnddkmccagiclabGreatDoor
variable {W w w0:Q}{G:Gh}
def JJ(w0 w:Q)(G:Gh)(oc:Option Ca)(e:Ending)(w':Q):Prop:=∃p H,e=I (T p)/\Xr w0 w G w' H/\ ((p=D/\oc=D)\/∃b c pg pa,p=L ⟨b,0,D⟩/\oc=L c/\Ks w' b c pg pa/\H.cp pg c.given/\H.cp pa c.answer/\¬H.dom b/\w.heap.size<=b/\∀o,w'.frozen? ⟨b,o,D⟩=K)
theorem JJ.known{w':Q}{oc:Option Ca}{e:Ending}(h:JJ w0 w G oc e w'):∃p H,e=I (T p)/\H.cp p oc/\Xr w0 w G w' H:=by
 obtain⟨p,H,rfl,a,⟨rfl,rfl⟩|⟨b,c,o,q,rfl,rfl,l,j,g,hd,i,_⟩⟩:=h
 .exact⟨D,H,rfl,Gh.cp_none _,a⟩
 .refine⟨_,H.addC b c,rfl,Gh.cp_addC _ _ _,a.le.trans (Gh.le_addC hd),a.hg.addC hd l j g,a.bel,fun k d=>?_⟩;rcases Gh.dom_addC d with rfl|d
  .exact .inr i
  .exact a.new k d
def nW(f t:Tr)(o:Xy)(w:Q):Q:=((w.alloc (.cells #[A B f.k,C f.a f.l.length f.c] 24)).alloc (.cells #[A B t.k,C t.a t.l.length t.c] 24)).alloc (.cells #[A B o.k,A B o.n,.bool o.b] 29)
structure NB(f t:Tr)(o:Xy)(H:Nat)(W:Q):Prop where
 f0:W.cell? ⟨H,0,D⟩=L (A B f.k)
 f1:W.cell? ⟨H,1,D⟩=L (C f.a f.l.length f.c)
 t0:W.cell? ⟨H+1,0,D⟩=L (A B t.k)
 t1:W.cell? ⟨H+1,1,D⟩=L (C t.a t.l.length t.c)
 o0:W.cell? ⟨H+1+1,0,D⟩=L (A B o.k)
 o1:W.cell? ⟨H+1+1,1,D⟩=L (A B o.n)
 o2:W.cell? ⟨H+1+1,2,D⟩=L (.bool o.b)
theorem NB.below{f t:Tr}{o:Xy}{H:Nat}{W':Q}(h:NB f t o H W)(hb:P W.heap.size W W'):NB f t o H W':=⟨J hb h.f0,J hb h.f1,J hb h.t0,J hb h.t1,J hb h.o0,J hb h.o1,J hb h.o2⟩
theorem NB.lt{f t:Tr}{o:Xy}{H:Nat}(h:NB f t o H W):H+1+1<W.heap.size:=M _ _ h.o0
theorem T0(f t:Tr)(o:Xy)(w:Q):NB f t o w.heap.size (nW f t o w):=by constructor<;>simp[nW,go_sem]
theorem XX(f t:Tr)(o:Xy)(w:Q):P w.heap.size w (nW f t o w):=(((N _ _).alloc (Zb _) _).alloc (by simp) _).alloc (by simp;omega) _
theorem Ar(f t:Tr)(o:Xy)(w0 w:Q)(G:Gh)(d:HG w0 w G)(c:∀W,P w.heap.size w W->O E 147 #[F #[A B f.k,C f.a f.l.length f.c],F #[A B t.k,C t.a t.l.length t.c]] W fun e w'=>e=I (.bool R)/\P W.heap.size W w'):
  O E 151 #[F #[A B f.k,C f.a f.l.length f.c],F #[A B t.k,C t.a t.l.length t.c],F #[A B o.k,A B o.n,.bool o.b]] w (JJ w0 w G D):=by
 have a:Y (HG w0 w G/\O E 147 #[F f.v,F t.v] (nW f t o w) fun e w'=>e=I (.bool R)/\P (nW f t o w).heap.size (nW f t o w) w'):=⟨d,c _ (XX f t o w)⟩
 clear c d;go_enter U,S;go_wp2_with fail;refine a.out.2.mono ?_;rintro e w2 ⟨rfl,b⟩;have g:=Yx ((XX f t o w).trans (b.mono (XX f t o w).size));clear b;go_wp2_with fail;go_ret;exact⟨D,G,rfl,Xr.below a.out.1 g.out,.inl ⟨rfl,rfl⟩⟩
theorem VN(f t:Tr)(o:Xy)(w0 w:Q)(G:Gh)(k:HG w0 w G)(b:(f.k==3)=K\/(t.k==3)=K)(a0:(f.k==0)=K)(a1:(t.k==0)=K)(j:∀W,P w.heap.size w W->O E 147 #[F #[A B f.k,C f.a f.l.length f.c],F #[A B t.k,C t.a t.l.length t.c]] W fun e w'=>e=I (.bool K)/\P W.heap.size W w'):
  O E 151 #[F #[A B f.k,C f.a f.l.length f.c],F #[A B t.k,C t.a t.l.length t.c],F #[A B o.k,A B o.n,.bool o.b]] w (JJ w0 w G (L ⟨K,Yl,f.k,Yu,D,D,K⟩)):=by
 have d:Y (HG w0 w G/\O E 147 #[F f.v,F t.v] (nW f t o w) fun e w'=>e=I (.bool K)/\P (nW f t o w).heap.size (nW f t o w) w'):=⟨k,j _ (XX f t o w)⟩
 clear j k;have fin:∀w2,P (nW f t o w).heap.size (nW f t o w) w2->JJ w0 w G (L ⟨K,Yl,f.k,Yu,D,D,K⟩) (I (T (L ⟨w2.heap.size,0,D⟩))) (w2.alloc (KN ⟨K,Yl,f.k,Yu,D,D,K⟩ D D)):=fun w2 a=>by
  have g:=(XX f t o w).trans (a.mono (XX f t o w).size);have r:bL w (w2.alloc (KN ⟨K,Yl,f.k,Yu,D,D,K⟩ D D)):=g.alloc g.size _;refine⟨_,G,rfl,Xr.below d.out.1 r,.inr ⟨w2.heap.size,_,D,D,rfl,rfl,MJ _ _ _ _,Gh.cp_none _,Gh.cp_none _,fun hd=>?_,g.size,fun i=>?_⟩⟩
  .have:=d.out.1.lt hd;have:=g.size;omega
  .simp[KN,go_sem]
 have l:=Yx fin;have c:=T0 f t o w;clear fin;by_cases hf3:(f.k==3)=R
 .have ht3:(t.k==3)=K:=by
   rcases b with b|b
   .rw[hf3] at b;cases b
   .exact b
  clear b;go_enter U,S;go_wp2_with fail;refine d.out.2.mono ?_;rintro e w2 ⟨rfl,a⟩;obtain⟨b0,p,y,z,x,q,u⟩:=c.below a;have h:=Yx a;clear a c;go_wp2_with fail;go_ret;exact l.out w2 h.out
 .have hf3':(f.k==3)=K:=by simpa using hf3
  clear b hf3;go_enter U,S;go_wp2_with fail;refine d.out.2.mono ?_;rintro e w2 ⟨rfl,a⟩;obtain⟨b0,p,y,z,x,q,u⟩:=c.below a;have h:=Yx a;clear a c;go_wp2_with fail;go_ret;exact l.out w2 h.out
theorem Ti(a:Option Addr)(m c:Nat)(w:Q):
  O E 185 #[F #[A B 3,C a m c]] w fun e w'=>∃g,e=I (F #[A B 3,C (L ⟨g,0,D⟩) 2 2])/\(Tr.mk 3 (L ⟨g,0,D⟩) 2 [Yr 0,Yr 0]).In w'/\P w.heap.size w w':=by
 obtain⟨W1,b⟩:∃W,W=(w.alloc (.cells #[A B 3,C a m c] 24)).alloc (.cells #[A B 0,C D 0 0] 24):=⟨_,rfl⟩
 have j:bL w W1:=by rw[b];exact((N _ _).alloc (Zb _) _).alloc (by simp) _
 have h:W1.heap.size=w.heap.size+1+1:=by rw[b];simp
 have z:W1.cell? ⟨w.heap.size+1,0,D⟩=L (A B 0):=by rw[b];simp[go_sem]
 have z1:W1.cell? ⟨w.heap.size+1,1,D⟩=L (C D 0 0):=by rw[b];simp[go_sem]
 have x:∀o,W1.frozen? ⟨w.heap.size+1,o,D⟩=K:=by intro o;rw[b];simp[go_sem]
 have HT:Y (O E 106 #[F #[A B 0,C D 0 0],F #[A B 0,C D 0 0]] W1 fun e w'=>∃g,W1.heap.size<=g/\e=I (F #[A B 3,C (L ⟨g,0,D⟩) 2 2])/\(Tr.mk 3 (L ⟨g,0,D⟩) 2 [Yr 0,Yr 0]).In w'/\bL W1 w'):=Sw (Yr 0) (Yr 0) W1 (YB _ _) (YB _ _);have HZ:=Sl j h z z1 x;clear j h z z1 x;go_enter func185,ntmps185;go_wp2_with fail;rw[<-b];clear b;refine HT.out.mono ?_;rintro e w2 ⟨g,hg,rfl,i,d⟩;obtain⟨y1,l,y3,y,q⟩:=HZ.out;have x0:=J d y3;have x1:=J d y;have f0:=(d.frozen (p:=⟨w.heap.size+1,0,D⟩) (by rw[l];show w.heap.size+1<_;omega)).trans (q 0);have f1:=(d.frozen (p:=⟨w.heap.size+1,1,D⟩) (by rw[l];show w.heap.size+1<_;omega)).trans (q 1);have k:Y (g≠w.heap.size+1/\(Tr.mk 3 (L ⟨g,0,D⟩) 2 [Yr 0,Yr 0]).In w2/\bL w w2):=⟨by omega,i,y1.trans (d.mono y1.size)⟩
 clear d hg i y1 l y3 y q;go_wp2_with fail;have r:=XC (io:=0) (u:=A B 3) (v:=C (L ⟨g,0,D⟩) 2 2) x0 x1;refine bodyPost_ret (v:=F #[A B 3,C (L ⟨g,0,D⟩) 2 2]) (by simp[results,results185,go_sem,r.1,r.2]) rfl ⟨g,rfl,?_,?_⟩
 .exact XV (io:=0) k.out.2.1 (Tr.Bl_two k.out.1 (YG _ _) (YG _ _))
 .exact(k.out.2.2.setCell (by simp) _).setCell (by simp) _
theorem OB(t:Tr)(w:Q):O E 185 #[F #[A B t.k,C t.a t.l.length t.c]] w fun e w'=>∃u:Tr,e=I (F #[A B u.k,C u.a u.l.length u.c])/\u.ty=Ys t.ty/\u.In w'/\P w.heap.size w w':=by
 by_cases hk:t.k=3
 .rw[hk];refine(Ti t.a t.l.length t.c w).mono ?_;rintro e w' ⟨g,rfl,a,b⟩;refine⟨_,rfl,?_,a,b⟩;unfold Ys;rw[if_pos (by rw[t.ty_k];exact hk),Tr.ty_mk];simp[Yr,Tr.ty_mk,Yn]
 .refine(RC t.k (by simpa using hk) t.a t.l.length t.c w).mono ?_;rintro e w' ⟨rfl,b⟩;refine⟨Yr t.k,rfl,?_,YB _ _,b⟩;unfold Ys;rw[if_neg (by rw[t.ty_k];exact hk),t.ty_k];simp[Yr,Tr.ty_mk]
theorem By(w:Q)(k:Int):Ks (w.alloc (R9 k)) w.heap.size ⟨K,Yl,k,Yl,D,D,K⟩ D D:=by constructor<;>simp[R9,Yl,go_sem]
theorem Oo{w1:Q}{H:Gh}{oc:Option Ca}{p:Option Addr}(k:Int)(a:Xr w0 w1 G w H)(h:(p=D/\oc=D)\/∃b c pg pa,p=L ⟨b,0,D⟩/\oc=L c/\Ks w b c pg pa/\H.cp pg c.given/\H.cp pa c.answer/\¬H.dom b/\w1.heap.size<=b/\∀o,w.frozen? ⟨b,o,D⟩=K):
  O E 184 #[T p,A B k] w fun e w'=>∃b pg pa,e=I (T (L ⟨b,0,D⟩))/\Ks w' b (YU oc k) pg pa/\H.cp pg (YU oc k).given/\H.cp pa (YU oc k).answer/\¬H.dom b/\w1.heap.size<=b/\(∀o,w'.frozen? ⟨b,o,D⟩=K)/\Xr w0 w1 G w' H/\P w.heap.size w w':=by
 rcases h with⟨rfl,rfl⟩|⟨b,c,pg,pa,rfl,rfl,q,j,i,hd,l,g⟩
 .refine(Rp k w).mono ?_;rintro e w' ⟨rfl,rfl⟩;have d:bL w (w.alloc (R9 k)):=(N _ _).alloc (Zb _) _;refine⟨w.heap.size,D,D,rfl,By w k,Gh.cp_none _,Gh.cp_none _,fun hd=>?_,a.bel.size,fun o=>by simp[R9,go_sem],⟨a.le,a.hg.below d,a.bel.trans (d.mono a.bel.size),a.new⟩,d⟩;have:=a.hg.lt hd;omega
 .refine(Ro b k w).mono ?_;rintro e w' ⟨rfl,rfl⟩;exact⟨b,pg,pa,rfl,q,j,i,hd,l,g,a,N _ _⟩
theorem Xr.set{H:Gh}(h:Xr w0 w G W H){b:Nat}(hd:¬H.dom b)(hb:w.heap.size<=b)(j:Nat)(v:Value):Xr w0 w G (W.setCell ⟨b,j,D⟩ v) H:=⟨h.le,h.hg.of fun k hk i=>World.cell?_setCell_far _ _ _ _ (by intro e;simp only at e;exact hd (e▸hk)),h.bel.setCell hb _,h.new⟩
theorem Ks.setOpens{b:Nat}{c:Ca}{pg pa:Option Addr}(h:Ks W b c pg pa)(o:Xy):Ks ((((W.setCell ⟨b,0,D⟩ (.bool R)).setCell ⟨b,1,D⟩ (A B o.k)).setCell ⟨b,2,D⟩ (A B o.n)).setCell ⟨b,3,D⟩ (.bool o.b)) b ⟨R,o,c.kind,c.ends,c.given,c.answer,c.hides⟩ pg pa:=by
 obtain⟨r,l,j,u,k,q,d,p,g,e,a⟩:=h;have far:∀i,4<=i->((((W.setCell ⟨b,0,D⟩ (.bool R)).setCell ⟨b,1,D⟩ (A B o.k)).setCell ⟨b,2,D⟩ (A B o.n)).setCell ⟨b,3,D⟩ (.bool o.b)).cell? ⟨b,i,D⟩=W.cell? ⟨b,i,D⟩:=fun i hi=>by rw[Yo (by omega),Yo (by omega),Yo (by omega),Yo (by omega)]
 refine⟨?_,?_,?_,?_,(far 4 (by omega)).trans k,(far 5 (by omega)).trans q,(far 6 (by omega)).trans d,(far 7 (by omega)).trans p,(far 8 (by omega)).trans g,(far 9 (by omega)).trans e,(far 10 (by omega)).trans a⟩
 .rw[Yo (by omega),Yo (by omega),Yo (by omega)];exact XW r
 .rw[Yo (by omega),Yo (by omega)];exact XW ((Yo (by omega)).trans l)
 .rw[Yo (by omega)];exact XW ((Yo (by omega)).trans ((Yo (by omega)).trans j))
 .exact XW ((Yo (by omega)).trans ((Yo (by omega)).trans ((Yo (by omega)).trans u)))
theorem VM(m:Nat)(f t:Tr)(o:Xy)(w0 w:Q)(G:Gh)(hG:HG w0 w G)(ht0:t.k=0)(hs:∀W,P w.heap.size w W->O E 147 #[F #[A B f.k,C f.a f.l.length f.c],F #[A B t.k,C t.a t.l.length t.c]] W fun e w'=>e=I (.bool K)/\P W.heap.size W w')
  (IH:∀W(u:Tr),P w.heap.size w W->u.In W->u.ty=Ys f.ty->HG w0 W G->O E 151 #[F #[A B f.k,C f.a f.l.length f.c],F #[A B u.k,C u.a u.l.length u.c],F #[A B o.k,A B o.n,.bool o.b]] W (JJ w0 W G (YZ m f.ty (Ys f.ty) o))) :
  O E 151 #[F #[A B f.k,C f.a f.l.length f.c],F #[A B t.k,C t.a t.l.length t.c],F #[A B o.k,A B o.n,.bool o.b]] w (JJ w0 w G (L ⟨(YU (YZ m f.ty (Ys f.ty) o) f.k).opens,(YU (YZ m f.ty (Ys f.ty) o) f.k).wrong,(YU (YZ m f.ty (Ys f.ty) o) f.k).kind,(YU (YZ m f.ty (Ys f.ty) o) f.k).ends,(YU (YZ m f.ty (Ys f.ty) o) f.k).given,(YU (YZ m f.ty (Ys f.ty) o) f.k).answer,R⟩)):=by
 obtain⟨d,p⟩:∃d,d=YZ m f.ty (Ys f.ty) o:=⟨_,rfl⟩
 rw[<-p] at IH ⊢;have t3:(t.k==3)=K:=by rw[ht0];rfl
 have HS:Y (HG w0 w G/\O E 147 #[F f.v,F t.v] (nW f t o w) fun e w'=>e=I (.bool K)/\P (nW f t o w).heap.size (nW f t o w) w'):=⟨hG,hs _ (XX f t o w)⟩
 have HI:=Yx IH;have HN:=T0 f t o w;have e0:(t.k==0)=R:=by rw[ht0];rfl
 clear hs hG IH p ht0;obtain⟨x3,a1⟩:∃x3,(f.k==3)=x3:=⟨_,rfl⟩
 cases x3
 all_goals
  go_enter U,S
  go_wp2_with fail
  refine HS.out.2.mono ?_
  rintro e w2 ⟨rfl,hb⟩
  have r:=Un ((XX f t o w).trans (hb.mono (XX f t o w).size)) (HN.below hb)
  obtain⟨b0,b1,b2,b3,b4,b5,b6⟩:=HN.below hb
  clear hb HN
  go_wp2_with fail
  have a:bL w2 w2.drew:=(N _ _).drew
  have HK:Y (∀w',bL w2 w'->cL w' w.heap.size 0 (A B f.k)/\cL w' w.heap.size 1 (f.s)/\cL w' (w.heap.size+1+1) 0 (A B o.k)/\cL w' (w.heap.size+1+1) 1 (A B o.n)/\cL w' (w.heap.size+1+1) 2 (.bool o.b)):=fun w' h=>by obtain⟨q0,q1,q2,q3,q4,q5,q6⟩:=r.out.2.below h;exact⟨q0,q1,q4,q5,q6⟩
  have y:Y (∀W,O E 185 #[F f.v] W fun e w'=>∃u:Tr,e=I (F u.v)/\u.ty=Ys f.ty/\u.In w'/\bL W w'):=fun W=>OB f W
  have HL:Y (∀W,bL w2 W->bL w W/\HG w0 W G):=fun W h=>⟨r.out.1.trans (h.mono r.out.1.size),HS.out.1.below (r.out.1.trans (h.mono r.out.1.size))⟩
  clear b0 b1 b2 b3 b4 b5 b6
  go_region_held3 (fun w'=>cL w' w.heap.size 0 (A B f.k)/\cL w' w.heap.size 1 (f.s)/\cL w' (w.heap.size+1+1) 0 (A B o.k)/\cL w' (w.heap.size+1+1) 1 (A B o.n)/\cL w' (w.heap.size+1+1) 2 (.bool o.b))
   (first
    |exact HK.out _ a
    |go_keep)
   (first
    |(go_at_call 185;refine(y.out _).mono ?_;rintro e w3 ⟨u,rfl,hu,a0,l⟩;replace a:=a.trans (l.mono a.size);clear y)
    |(go_at_call 151;refine(HI.out _ u (HL.out _ a).1 a0 hu (HL.out _ a).2).mono ?_;rintro e w4 ⟨p4,H4,rfl,k,z⟩;replace a:=a.trans (k.bel.mono a.size);clear HI)
    |(go_at_call 184;refine(Oo f.k k z).mono ?_;rintro e w5 ⟨b,pg,pa,rfl,hC,hg,ha,hd,j,g,q,x⟩;replace a:=a.trans (x.mono a.size)))
  have a4:b<w5.heap.size:=M _ _ hC.c0
  have a3:=hC.c10
  have a2:=g 10
  have c:bL w w3:=(HL.out w3 ((N _ _).drew.trans l)).1
  have HE:Y (JJ w0 w G (L ⟨(YU d f.k).opens,(YU d f.k).wrong,(YU d f.k).kind,(YU d f.k).ends,(YU d f.k).given,(YU d f.k).answer,R⟩) (I (T (L ⟨b,0,D⟩))) (w5.setCell ⟨b,10,D⟩ (.bool R))):=by have h1:=(Xr.below HS.out.1 c).trans q;exact⟨_,H4,rfl,h1.set hd (X c.size j) 10 _,.inr ⟨b,_,pg,pa,rfl,rfl,hC.setHides R,hg,ha,hd,X c.size j,fun i=>by simpa using g i⟩⟩
  clear hC g q x hg ha hd j k z hu a0 l a c
  go_wp2_with fail
  go_ret
  exact HE.out
theorem Rq(m:Nat)(f t:Tr)(o:Xy)(w0 w:Q)(G:Gh)(hG:HG w0 w G)(hf0:f.k=0)(ht0:(t.k==0)=K)(hs:∀W,P w.heap.size w W->O E 147 #[F #[A B f.k,C f.a f.l.length f.c],F #[A B t.k,C t.a t.l.length t.c]] W fun e w'=>e=I (.bool K)/\P W.heap.size W w')
  (IH:∀W(u:Tr),P w.heap.size w W->u.In W->u.ty=Ys t.ty->HG w0 W G->O E 151 #[F #[A B u.k,C u.a u.l.length u.c],F #[A B t.k,C t.a t.l.length t.c],F #[A B o.k,A B o.n,.bool o.b]] W (JJ w0 W G (YZ m (Ys t.ty) t.ty o))) :
  O E 151 #[F #[A B f.k,C f.a f.l.length f.c],F #[A B t.k,C t.a t.l.length t.c],F #[A B o.k,A B o.n,.bool o.b]] w (JJ w0 w G (L ⟨R,o,(YU (YZ m (Ys t.ty) t.ty o) t.k).kind,(YU (YZ m (Ys t.ty) t.ty o) t.k).ends,(YU (YZ m (Ys t.ty) t.ty o) t.k).given,(YU (YZ m (Ys t.ty) t.ty o) t.k).answer,(YU (YZ m (Ys t.ty) t.ty o) t.k).hides⟩)):=by
 obtain⟨j,a1⟩:∃j,j=YZ m (Ys t.ty) t.ty o:=⟨_,rfl⟩
 rw[<-a1] at IH ⊢;have f3:(f.k==3)=K:=by rw[hf0];rfl
 have HS:Y (HG w0 w G/\O E 147 #[F f.v,F t.v] (nW f t o w) fun e w'=>e=I (.bool K)/\P (nW f t o w).heap.size (nW f t o w) w'):=⟨hG,hs _ (XX f t o w)⟩
 have HI:=Yx IH;have HN:=T0 f t o w;have e0:(f.k==0)=R:=by rw[hf0];rfl
 clear hs hG IH a1 hf0;go_enter U,S;go_wp2_with fail;refine HS.out.2.mono ?_;rintro e w2 ⟨rfl,hb⟩;have r:=Un ((XX f t o w).trans (hb.mono (XX f t o w).size)) (HN.below hb);obtain⟨b0,b1,b2,b3,b4,b5,b6⟩:=HN.below hb;clear hb HN;go_wp2_with fail;have a:bL w2 w2.drew:=(N _ _).drew;have HK:Y (∀w',bL w2 w'->cL w' (w.heap.size+1) 0 (A B t.k)/\cL w' (w.heap.size+1) 1 (t.s)/\cL w' (w.heap.size+1+1) 0 (A B o.k)/\cL w' (w.heap.size+1+1) 1 (A B o.n)/\cL w' (w.heap.size+1+1) 2 (.bool o.b)):=fun w' h=>by obtain⟨q0,q1,q2,q3,q4,q5,q6⟩:=r.out.2.below h;exact⟨q2,q3,q4,q5,q6⟩
 have a3:Y (∀W,O E 185 #[F t.v] W fun e w'=>∃u:Tr,e=I (F u.v)/\u.ty=Ys t.ty/\u.In w'/\bL W w'):=fun W=>OB t W;have HL:Y (∀W,bL w2 W->bL w W/\HG w0 W G):=fun W h=>⟨r.out.1.trans (h.mono r.out.1.size),HS.out.1.below (r.out.1.trans (h.mono r.out.1.size))⟩
 clear b0 b1 b2 b3 b4 b5 b6;go_region_held3 (fun w'=>cL w' (w.heap.size+1) 0 (A B t.k)/\cL w' (w.heap.size+1) 1 (t.s)/\cL w' (w.heap.size+1+1) 0 (A B o.k)/\cL w' (w.heap.size+1+1) 1 (A B o.n)/\cL w' (w.heap.size+1+1) 2 (.bool o.b))
  (first
   |exact HK.out _ a
   |go_keep)
  (first
   |(go_at_call 185;refine(a3.out _).mono ?_;rintro e w3 ⟨u,rfl,hu,a0,g⟩;replace a:=a.trans (g.mono a.size);clear a3)
   |(go_at_call 151;refine(HI.out _ u (HL.out _ a).1 a0 hu (HL.out _ a).2).mono ?_;rintro e w4 ⟨p4,H4,rfl,l,z⟩;replace a:=a.trans (l.bel.mono a.size);clear HI)
   |(go_at_call 184;refine(Oo t.k l z).mono ?_;rintro e x ⟨b,pg,pa,rfl,p,hg,ha,hd,y,d,q,a2⟩;replace a:=a.trans (a2.mono a.size)))
 have a6:b<x.heap.size:=M _ _ p.c0;have d0:=p.c0;have d1:=p.c1;have d2:=p.c2;have d3:=p.c3;have g0:=d 0;have g1:=d 1;have g2:=d 2;have g3:=d 3;obtain⟨_,_,k4,k5,k6⟩:=HK.out _ a;have k:bL w w3:=(HL.out w3 ((N _ _).drew.trans g)).1;have a5:w.heap.size+1+1<x.heap.size:=M _ _ k4;have a4:b≠w.heap.size+1+1:=by have h1:=r.out.2.lt;have h2:=((N w2.heap.size w2).drew.trans g).size;omega
 have HE:Y (∀n,JJ w0 w G (L ⟨R,o,(YU j t.k).kind,(YU j t.k).ends,(YU j t.k).given,(YU j t.k).answer,(YU j t.k).hides⟩) (I (T (L ⟨b,0,D⟩))) (((((x.drewN n).setCell ⟨b,0,D⟩ (.bool R)).setCell ⟨b,1,D⟩ (A B o.k)).setCell ⟨b,2,D⟩ (A B o.n)).setCell ⟨b,3,D⟩ (.bool o.b))):=by intro n;have h0:Xr w0 x H4 (x.drewN n) H4:=Xr.below q.hg (U6 (N _ _) n);have h1:=((Xr.below HS.out.1 k).trans q).trans h0;have c:=X k.size y;refine⟨_,H4,rfl,(((h1.set hd c 0 _).set hd c 1 _).set hd c 2 _).set hd c 3 _,.inr ⟨b,_,pg,pa,rfl,rfl,(p.of (w':=x.drewN n) fun _=>rfl).setOpens o,hg,ha,hd,c,fun i=>by simpa using d i⟩⟩
 clear p d q a2 hg ha hd y l z hu a0 g a k;go_wp2_with fail;go_region
 all_goals
  go_wp2_with fail
  go_ret
  exact HE.out 1
theorem B3(m:Nat)(f t x0 x1 y0 y1:Tr)(fb fo tb tq:Nat)(o:Xy)(w0 w:Q)(G:Gh)(hG:HG w0 w G)(ef:f.a=L ⟨fb,fo,D⟩)(et:t.a=L ⟨tb,tq,D⟩)(lf:f.l.length=2)(lt:t.l.length=2)(kf:f.k=3)(kt:t.k=3)
  (p0:w.cell? ⟨fb,fo,D⟩=L (A B x0.k)) (p1:w.cell? ⟨fb,fo+1,D⟩=L (C x0.a x0.l.length x0.c)) (p2:w.cell? ⟨fb,fo+2,D⟩=L (A B x1.k)) (p3:w.cell? ⟨fb,fo+3,D⟩=L (C x1.a x1.l.length x1.c))
  (q0:w.cell? ⟨tb,tq,D⟩=L (A B y0.k)) (q1:w.cell? ⟨tb,tq+1,D⟩=L (C y0.a y0.l.length y0.c)) (q2:w.cell? ⟨tb,tq+2,D⟩=L (A B y1.k)) (q3:w.cell? ⟨tb,tq+3,D⟩=L (C y1.a y1.l.length y1.c))
  (hs:∀W,P w.heap.size w W->O E 147 #[F #[A B f.k,C f.a f.l.length f.c],F #[A B t.k,C t.a t.l.length t.c]] W fun e w'=>e=I (.bool K)/\P W.heap.size W w')
  (I0:∀W,P w.heap.size w W->HG w0 W G->O E 151 #[F #[A B y0.k,C y0.a y0.l.length y0.c],F #[A B x0.k,C x0.a x0.l.length x0.c],F #[A B o.k,A B o.n,.bool (!o.b)]] W (JJ w0 W G (YZ m y0.ty x0.ty (J9 o))))
  (I1:∀W H,P w.heap.size w W->HG w0 W H->O E 151 #[F #[A B x1.k,C x1.a x1.l.length x1.c],F #[A B y1.k,C y1.a y1.l.length y1.c],F #[A B o.k,A B o.n,.bool o.b]] W (JJ w0 W H (YZ m x1.ty y1.ty o))) :
  O E 151 #[F #[A B f.k,C f.a f.l.length f.c],F #[A B t.k,C t.a t.l.length t.c],F #[A B o.k,A B o.n,.bool o.b]] w (JJ w0 w G (L ⟨K,Yl,3,Yl,YZ m y0.ty x0.ty (J9 o),YZ m x1.ty y1.ty o,K⟩)):=by
 have a8:fb<w.heap.size:=M _ _ p0;have a7:tb<w.heap.size:=M _ _ q0;obtain⟨n0,a2⟩:∃n,n=YZ m y0.ty x0.ty (J9 o):=⟨_,rfl⟩
 obtain⟨n1,u⟩:∃n,n=YZ m x1.ty y1.ty o:=⟨_,rfl⟩
 rw[<-a2] at I0 ⊢;rw[<-u] at I1 ⊢;have g:=T0 f t o w;have q:=hs _ (XX f t o w);obtain⟨W1,b⟩:∃W,W=nW f t o w:=⟨_,rfl⟩
 have a3:bL w W1:=by rw[b];exact XX f t o w
 rw[<-b] at g q;have HS:=Un hG q;have a1:Y (∀W,bL w W->HG w0 W G->O E 151 #[F y0.v,F x0.v,F #[A B o.k,A B o.n,.bool (!o.b)]] W fun e w'=>∃p H,e=I (T p)/\H.cp p n0/\Xr w0 W G w' H):=fun W k h2=>(I0 W k h2).mono fun e w' h=>h.known;have a0:Y (∀W H,bL w W->HG w0 W H->O E 151 #[F x1.v,F y1.v,F #[A B o.k,A B o.n,.bool o.b]] W fun e w'=>∃p H',e=I (T p)/\H'.cp p n1/\Xr w0 W H w' H'):=fun W H k h2=>(I1 W H k h2).mono fun e w' h=>h.known;have HT:Y (∀W,O E 183 #[F #[A B o.k,A B o.n,.bool o.b]] W fun e w'=>e=I (F #[A B o.k,A B o.n,.bool (!o.b)])/\bL W w'):=fun W=>Su o.k o.n o.b W;have HP:Y (∀c,bL w c->cL c fb fo (A B x0.k)/\cL c fb (fo+1) (x0.s)/\cL c fb (fo+2) (A B x1.k)/\cL c fb (fo+3) (x1.s)/\cL c tb tq (A B y0.k)/\cL c tb (tq+1) (y0.s)/\cL c tb (tq+2) (A B y1.k)/\cL c tb (tq+3) (y1.s)):=fun c h=>⟨J h p0,J h p1,J h p2,J h p3,J h q0,J h q1,J h q2,J h q3⟩
 have HN:=Un g a3;rw[ef,lf,kf,et,lt,kt] at HS ⊢;have a6:=g;clear hs hG I0 I1 p0 p1 p2 p3 q0 q1 q2 q3 a2 u q g a3;unfold nW at b;rw[ef,lf,kf,et,lt,kt] at b;go_enter U,S;go_wp2_with fail;rw[<-b];clear b;refine HS.out.2.mono ?_;rintro e w2 ⟨rfl,hb⟩;have l:=Un (HN.out.2.trans (hb.mono HN.out.2.size)) (HN.out.1.below hb);obtain⟨b0,b1,b2,b3,b4,b5,b6⟩:=l.out.2;rw[kf] at b0;rw[kt] at b2;rw[ef,lf] at b1;rw[et,lt] at b3;clear hb HN a6;go_wp2_with fail;have a:bL w2 w2.drew:=(N _ _).drew;have HK:Y (∀w',bL w2 w'->cL w' w.heap.size 1 (C (L ⟨fb,fo,D⟩) 2 f.c)/\cL w' (w.heap.size+1) 1 (C (L ⟨tb,tq,D⟩) 2 t.c)/\cL w' (w.heap.size+1+1) 0 (A B o.k)/\cL w' (w.heap.size+1+1) 1 (A B o.n)/\cL w' (w.heap.size+1+1) 2 (.bool o.b)/\cL w' fb fo (A B x0.k)/\cL w' fb (fo+1) (x0.s)/\cL w' fb (fo+2) (A B x1.k)/\cL w' fb (fo+3) (x1.s)/\cL w' tb tq (A B y0.k)/\cL w' tb (tq+1) (y0.s)/\cL w' tb (tq+2) (A B y1.k)/\cL w' tb (tq+3) (y1.s)):=fun w' h=>⟨J h b1,J h b3,J h b4,J h b5,J h b6,HP.out w' (l.out.1.trans (h.mono l.out.1.size))⟩
 have HL:Y (∀W,bL w2 W->bL w W/\HG w0 W G):=fun W h=>⟨l.out.1.trans (h.mono l.out.1.size),HS.out.1.below (l.out.1.trans (h.mono l.out.1.size))⟩
 clear b0 b1 b2 b3 b4 b5 b6;go_region_held3 (fun w'=>cL w' w.heap.size 1 (C (L ⟨fb,fo,D⟩) 2 f.c)/\cL w' (w.heap.size+1) 1 (C (L ⟨tb,tq,D⟩) 2 t.c)/\cL w' (w.heap.size+1+1) 0 (A B o.k)/\cL w' (w.heap.size+1+1) 1 (A B o.n)/\cL w' (w.heap.size+1+1) 2 (.bool o.b)/\cL w' fb fo (A B x0.k)/\cL w' fb (fo+1) (x0.s)/\cL w' fb (fo+2) (A B x1.k)/\cL w' fb (fo+3) (x1.s)/\cL w' tb tq (A B y0.k)/\cL w' tb (tq+1) (y0.s)/\cL w' tb (tq+2) (A B y1.k)/\cL w' tb (tq+3) (y1.s))
  (first
   |exact HK.out _ a
   |exact HK.out _ (a.alloc a.size _)
   |go_keep)
  (first
   |(go_at_call 183;refine(HT.out _).mono ?_;rintro e w3 ⟨rfl,r⟩;replace a:=a.trans (r.mono a.size);clear HT)
   |(go_at_call 151;refine(a1.out _ (HL.out _ a).1 (HL.out _ a).2).mono ?_;rintro e w4 ⟨p4,H4,rfl,z,j⟩;replace a:=a.trans (j.bel.mono a.size);clear a1)
   |(go_at_call 151;refine(a0.out _ H4 (HL.out _ a).1 j.hg).mono ?_;rintro e y ⟨p5,H5,rfl,x,d⟩;replace a:=a.trans (d.bel.mono a.size);clear a0))
 have HE:Y (JJ w0 w G (L ⟨K,Yl,3,Yl,n0,n1,K⟩) (I (T (L ⟨y.heap.size,0,D⟩))) (y.alloc (KN ⟨K,Yl,3,Yl,n0,n1,K⟩ p4 p5))):=by have a4:bL w w3:=(HL.out w3 ((N _ _).drew.trans r)).1;have k:=((Xr.below HS.out.1 a4).trans j).trans d;have a5:bL y (y.alloc (KN ⟨K,Yl,3,Yl,n0,n1,K⟩ p4 p5)):=(N _ _).alloc (Zb _) _;refine⟨_,H5,rfl,k.trans (Xr.below k.hg a5),.inr ⟨y.heap.size,_,p4,p5,rfl,rfl,MJ _ _ _ _,z.le d.le,x,fun hd=>?_,k.bel.size,fun i=>by simp[KN,go_sem]⟩⟩;have:=k.hg.lt hd;omega
 clear z j x d r a;go_wp2_with fail;go_ret;exact HE.out
theorem MB(w0:Q):∀(m n:Nat)(f t:Tr)(o:Xy)(w:Q)(G:Gh),n<=500->Yz n f=R->Yz n t=R->2*n+(if f.k=0\/t.k=0 then 1 else 0)<=m->f.In w->t.In w->HG w0 w G->
  O E 151 #[F #[A B f.k,C f.a f.l.length f.c],F #[A B t.k,C t.a t.l.length t.c],F #[A B o.k,A B o.n,.bool o.b]] w (JJ w0 w G (YZ m f.ty t.ty o))
 |0,0,f,t,o,w,G,_,hf,_,_,_,_,_=>by simp[Yz] at hf
 |0,n+1,f,t,o,w,G,_,_,_,hm,_,_,_=>by omega
 |m+1,0,f,t,o,w,G,_,hf,_,_,_,_,_=>by simp[Yz] at hf
 |m+1,n+1,f,t,o,w,G,hn,hf,ht,hm,hfi,hti,hG=>by
  have hh:f.hgt<=1000:=X (Tr.hgt_good _ f hf) (by omega);have hsm:=Tr.sm_good _ f hf;have HS:∀W,bL w W->O E 147 #[F f.v,F t.v] W fun e w'=>e=I (.bool (YC Yv f.ty t.ty))/\bL W w':=fun W hb=>KY f t W (hfi.below hb) (hti.below hb) hh hsm;rw[YZ];by_cases hs:YC Yv f.ty t.ty=R
  .rw[if_pos hs];rw[hs] at HS;exact Ar f t o w0 w G hG HS
  rw[if_neg hs];have hs':YC Yv f.ty t.ty=K:=by simpa using hs
  rw[hs'] at HS;have q:=f.ty_k;have kt:=t.ty_k;have gf:Ym (n+1) f.ty=R:=by rw[<-YM];exact hf
  have gt:Ym (n+1) t.ty=R:=by rw[<-YM];exact ht
  have gg:∀u:Ty,Ym (n+1) u=R->Ym (n+1) (Ys u)=R:=fun u hu=>by
   unfold Ys;split
   .rename_i h3;cases n with
    |zero=>
     exfalso;obtain⟨k,l⟩:=u;simp only at h3;subst h3;match l,hu with
     |[],hu=>simp[Ym] at hu
     |[x],hu=>simp[Ym] at hu
     |[x,y],hu=>simp[Ym] at hu
     |x::y::z::r,hu=>simp[Ym] at hu
    |succ n=>simp[Ym,Yn]
   .rename_i h3;obtain⟨k,l⟩:=u;match l,hu with
    |[],hu=>exact hu
    |[x],hu=>simp[Ym] at hu
    |[x,y],hu=>simp only[Ym,V,beq_iff_eq] at hu;exact absurd hu.1.1 h3
    |x::y::z::r,hu=>simp[Ym] at hu
  have g0:∀u:Ty,u.k≠0->(Ys u).k≠0:=fun u hu=>by
   unfold Ys;split
   .simp
   .exact hu
  by_cases h3:f.k=3/\t.k=3
  .rw[if_pos (by rw[q,kt];exact h3)];rcases (Tr.right_good _ f hf).cases with⟨_,h⟩|⟨x0,x1,g,_,_,_⟩
   .omega
   rcases (Tr.right_good _ t ht).cases with⟨_,h⟩|⟨y0,y1,lt,_,_,_⟩
   .omega
   obtain⟨fb,fo,af,p0,p1,a5⟩:=hfi.part 0 (by simp[g]);obtain⟨aa,a9,a1,p2,p3,a2⟩:=hfi.part 1 (by simp[g]);obtain⟨tb,tq,a3,q0,q1,a6⟩:=hti.part 0 (by simp[lt]);obtain⟨ab,a8,i,q2,q3,a0⟩:=hti.part 1 (by simp[lt]);rw[af] at a1;rw[a3] at i;obtain⟨rfl,rfl⟩:fb=aa/\fo=a9:=by simpa using a1
   obtain⟨rfl,rfl⟩:tb=ab/\tq=a8:=by simpa using i
   simp only[g,Z,Za] at p0 p1 p2 p3 a5 a2;simp only[lt,Z,Za] at q0 q1 q2 q3 a6 a0;have a4:Yz n x0=R/\Yz n x1=R:=by obtain⟨k,a,c,l⟩:=f;simp only at g;subst g;simp only[Yz,V] at hf;exact⟨hf.1.2,hf.2⟩
   have a7:Yz n y0=R/\Yz n y1=R:=by obtain⟨k,a,c,l⟩:=t;simp only at lt;subst lt;simp only[Yz,V] at ht;exact⟨ht.1.2,ht.2⟩
   have ef:f.ty.l.getD 0 Yn=x0.ty/\f.ty.l.getD 1 Yn=x1.ty:=by rw[f.ty_l,g];exact⟨rfl,rfl⟩
   have et:t.ty.l.getD 0 Yn=y0.ty/\t.ty.l.getD 1 Yn=y1.ty:=by rw[t.ty_l,lt];exact⟨rfl,rfl⟩
   rw[ef.1,ef.2,et.1,et.2];have ac:2*(n+1)<=m+1:=by omega
   have i1:∀p:Prop,∀[Decidable p],(if p then 1 else 0)<=1:=fun p _=>by split<;>omega
   have i2:=i1 (y0.k=0\/x0.k=0);have i3:=i1 (x1.k=0\/y1.k=0);exact B3 m f t x0 x1 y0 y1 fb fo tb tq o w0 w G hG af a3 (by rw[g];rfl) (by rw[lt];rfl) h3.1 h3.2 (by simpa using p0) (by simpa using p1) (by simpa using p2) (by simpa using p3) (by simpa using q0) (by simpa using q1) (by simpa using q2) (by simpa using q3) HS (fun W hb j=>MB w0 m n y0 x0 (J9 o) W G (by omega) a7.1 a4.1 (by omega) (a6.below hb) (a5.below hb) j)
    (fun W H hb j=>MB w0 m n x1 y1 o W H (by omega) a4.2 a7.2 (by omega) (a2.below hb) (a0.below hb) j)
  rw[if_neg (by rw[q,kt];exact h3)];by_cases ht0:t.k=0
  .rw[if_pos (by rw[kt];exact ht0)];have d:f.k≠0:=fun e=>hs (by
    rcases (Tr.right_good _ f hf).cases with⟨g,_⟩|⟨x0,x1,_,h,_,_⟩
    .rcases (Tr.right_good _ t ht).cases with⟨lt,_⟩|⟨y0,y1,_,h,_,_⟩
     .have e1:f.ty=⟨0,[]⟩:=by cases f;simp only at e g;subst e g;simp[Tr.ty_mk]
      have e2:t.ty=⟨0,[]⟩:=by cases t;simp only at ht0 lt;subst ht0 lt;simp[Tr.ty_mk]
      rw[e1,e2,YV];rfl
     .omega
    .omega)
   simp only[q];rw[if_pos (.inr ht0)] at hm;refine VM m f t o w0 w G hG ht0 HS fun W u hb hu b j=>?_;have gu:Yz (n+1) u=R:=by rw[YM,b];exact gg _ gf
   have ku:u.k≠0:=by rw[<-u.ty_k,b];exact g0 _ (by rw[q];exact d)
   rw[<-b];exact MB w0 m (n+1) f u o W G hn hf gu (by rw[if_neg (by omega)];omega) (hfi.below hb) hu j
  rw[if_neg (by rw[kt];exact ht0)];by_cases d:f.k=0
  .rw[if_pos (by rw[q];exact d)];simp only[kt];rw[if_pos (.inl d)] at hm;refine Rq m f t o w0 w G hG d (by simpa using ht0) HS fun W u hb hu b j=>?_;have gu:Yz (n+1) u=R:=by rw[YM,b];exact gg _ gt
   have ku:u.k≠0:=by rw[<-u.ty_k,b];exact g0 _ (by rw[kt];exact ht0)
   rw[<-b];exact MB w0 m (n+1) u t o W G hn gu ht (by rw[if_neg (by omega)];omega) hu (hti.below hb) j
  rw[if_neg (by rw[q];exact d),q];refine VN f t o w0 w G hG ?_ (by simpa using d) (by simpa using ht0) HS;by_cases hf3:f.k=3
  .exact .inr (by simpa using fun h=>h3 ⟨hf3,h⟩)
  .exact .inl (by simpa using hf3)
end Go.Proofs.YtnddkmccagiclabGreatDoor
