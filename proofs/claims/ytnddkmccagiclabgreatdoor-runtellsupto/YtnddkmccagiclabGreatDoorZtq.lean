import Derived.Test.YtnddkmccagiclabGreatDoorZtl
set_option maxRecDepth 20000
set_option maxHeartbeats 16000000
open Go.RowKit Go.Proofs.Tryz
open Option renaming none→A,some→E
open Go.Value renaming pointer→B,tuple→I,int→O
open Go.World renaming block_lt_of_cell?→C
open Go.Ending renaming returned→D
open Go.Proofs.Tryz renaming prog→F,results153→N
open List renaming length_cons→J
open Go.RowKit.Below renaming refl→K
open Go renaming Calls→L,bodyPost_ret→R
open Go.IntKind renaming i64→P
open Go.RowKit renaming Hid→Q
namespace Go.Proofs.YtnddkmccagiclabGreatDoor
variable {w w0:World}{M ca fu:Nat}{G:Gh}{e r:List YK}{p q:Option Addr}{x:Tm}{ts:List Xx}{u:YK}{en en':Xy}
def YD(w0 w:World)(M:Nat)(G:Gh)(s:St)(e:Ending)(w':World):Prop:=e=D (I #[])/\∃H,G.le H/\MS w0 w' M H s/\Fr M w w'
theorem YD.of{w':World}{s:St}{e:Ending}(he:e=D (I #[]))(h:MS w0 w' M G s)(hf:Fr M w w'):YD w0 w M G s e w':=⟨he,G,Gh.le.refl G,h,hf⟩
theorem SS{s:St}(h:MS w0 w M G s):L F 148 #[B (E ⟨M,0,A⟩),B A] w (YD w0 w M G (s.stop Yu)):=by have H:=Yx h;clear h;go_enter func148,ntmps148;go_wp2_with fail;refine(Kv H.out).mono ?_;rintro e w' ⟨rfl,a,b⟩;have c:=Yx (YD.of rfl a b);clear a b;go_wp2_with fail;go_end0;exact c.out
theorem SR{s:St}(h:MS w0 w M G s){b:Nat}{v:YK}(a:G.vp (E ⟨b,0,A⟩) v)(g:s.vs.length+1<=1000000000):L F 148 #[B (E ⟨M,0,A⟩),B (E ⟨b,0,A⟩)] w (YD w0 w M G (s.push v)):=by have H:=KS h a g;clear h a g;go_enter func148,ntmps148;go_wp2_with fail;refine(KG H.out.1 H.out.2.1 H.out.2.2).mono ?_;rintro e w' ⟨rfl,d,c⟩;have i:=Yx (YD.of rfl d c);clear d c;go_wp2_with fail;go_end0;exact i.out
theorem NH.part(h:NH w0 p x){j:Nat}(k:j<x.l.length):∃b o lb lo c,p=E ⟨b,o,A⟩/\w0.cell? ⟨b,o+6,A⟩=E (.slice (E ⟨lb,lo,A⟩) x.l.length c)/\∀i,i<x.l.length->NH w0 (E ⟨lb,lo+i*7,A⟩) (x.at i):=by
 obtain⟨b,o,y,rfl,e,hi,rfl⟩:=h;have d:y.tm.l.length=y.l.length:=by rw[y.tm_l];simp
 obtain⟨lb,lo,a,_,_⟩:=hi.part j (by omega);refine⟨b,o,lb,lo,y.c,rfl,?_,fun i g=>?_⟩
 .rw[d,<-a];exact e.c6
 .obtain⟨lb',lo',ea',h7,hin⟩:=hi.part i (by omega);rw[a] at ea';obtain⟨rfl,rfl⟩:lb=lb'/\lo=lo':=by simpa using ea'
  refine⟨lb,lo+i*7,y.l[i],rfl,h7,hin,?_⟩;rw[Tm.at_eq (by omega)];simp[y.tm_l]
theorem NH.top(h:NH w0 p x):∃b o,p=E ⟨b,o,A⟩/\w0.cell? ⟨b,o,A⟩=E (O P x.k)/\w0.cell? ⟨b,o+1,A⟩=E (O P x.n):=by obtain⟨b,o,y,rfl,a,hi,rfl⟩:=h;exact⟨b,o,rfl,by rw[y.tm_k];exact a.c0,by rw[y.tm_n];exact a.c1⟩
theorem Mn.look(h:NH w0 p x)(hs:G.sp q e):Mn w0 G (YY x e) 1 p q A:=⟨rfl,fun _=>⟨h,hs⟩,Gh.cp_none _⟩
theorem Mn.do_(d:Int)(h1:d≠1)(h4:d≠4):Mn w0 G (Pd d) (Dr d) A A A:=⟨rfl,fun h=>by rcases h with h|h;exact absurd h h1;exact absurd h h4,Gh.cp_none _⟩
theorem Mn.choose(h:NH w0 p x)(hs:G.sp q e):Mn w0 G (U5 x e) 4 p q A:=⟨rfl,fun _=>⟨h,hs⟩,Gh.cp_none _⟩
theorem Mn.change{c:Option Ca}(h:G.cp p c):Mn w0 G (Xc c) 6 A A p:=⟨rfl,fun h=>by rcases h with h|h<;>simp[Xc] at h,h⟩
theorem Bz{s:St}(h:MS w0 w M G s)(hx:NH w0 p x)(hs:G.sp q e)(hl:x.l.length=2)(d:Int)(hd:d=2\/d=3\/d=5)(hn:s.ts.length+3<=1000000000):L F 152 #[B (E ⟨M,0,A⟩),B p,B q,O P d] w (YD w0 w M G (Je s x e d)):=by
 obtain⟨b,o,l,u,c,rfl,g,i⟩:=hx.part (j:=0) (by omega);rw[hl] at g;have a0:b<w0.heap.size:=C _ _ g;have a:Dr d=d:=by unfold Dr;rw[if_neg (by omega)]
 have H:Q (MS w0 w M G s/\G.sp q e/\NH w0 (E ⟨l,u+7,A⟩) (x.at 1)/\NH w0 (E ⟨l,u,A⟩) (x.at 0)/\Mn w0 G (Pd d) d A A A/\s.ts.length+3<=1000000000/\cL w0 b (o+6) (.slice (E ⟨l,u,A⟩) 2 c)):=⟨h,hs,by simpa using i 1 (by omega),by simpa using i 0 (by omega),by have:=Mn.do_ (w0:=w0) (G:=G) d (by omega) (by omega);rwa [a] at this,hn,g⟩
 clear hs i hn hd a hl hx g h;go_enter func152,ntmps152;go_wp2_with fail;refine(XN H.out.1 H.out.2.2.2.2.1 (by have:=H.out.2.2.2.2.2.1;omega)).mono ?_;rintro e' w1 ⟨rfl,r,f1⟩;have y:=cell_later r.bel H.out.2.2.2.2.2.2;have l1:b<w1.heap.size:=C _ _ y;have z:=Un r f1;clear r f1;go_wp2_with fail;refine(XN z.out.1 (Mn.look H.out.2.2.1 H.out.2.1) (by have:=H.out.2.2.2.2.2.1;simp only[St.plan,J];omega)).mono ?_;rintro e' w2 ⟨rfl,k,f2⟩;have k2:=cell_later k.bel H.out.2.2.2.2.2.2;have l2:b<w2.heap.size:=C _ _ k2;have H2:=Un k (z.out.2.trans f2);clear k f2 y l1;go_wp2_with fail;refine(XN H2.out.1 (Mn.look H.out.2.2.2.1 H.out.2.1) (by have:=H.out.2.2.2.2.2.1;simp only[St.plan,J];omega)).mono ?_;rintro e' w3 ⟨rfl,h3,f3⟩;have HE:=Yx (YD.of rfl h3 (H2.out.2.trans f3));clear h3 f3 k2 l2;go_wp2_with fail;go_end0;exact HE.out
theorem Lg(h:HG w0 w G){v:YK}(c:G.vp p v):∃b,p=E ⟨b,0,A⟩/\w.cell? ⟨b,0,A⟩=E (O P v.k)/\w.cell? ⟨b,1,A⟩=E (O P v.n)/\b<w.heap.size:=by obtain⟨b,rfl,e⟩:=c;obtain⟨k,ps,i,g,j,a,d,_⟩:=h.v b v e;exact⟨b,rfl,a,d,C _ _ a⟩
theorem Np{v:YK}(h:MS w0 w M G ⟨ts,v::u::r,ca,fu,en⟩)(y:r.length+1<=1000000000)(he:en'=if u.k=1/\v.k=1 then en else Yu):
  L F 153 #[B (E ⟨M,0,A⟩)] w fun e w'=>e=D (I #[O P u.n,O P v.n])/\MS w0 w' M G ⟨ts,r,ca,fu,en'⟩/\Fr M w w':=by
 have H:=Un h y;have HI:=Yx he;clear h y he;go_enter func153,ntmps153;go_wp2_with fail;refine(Jh H.out.1 rfl (by have:=H.out.2;simp only[J];omega)).mono ?_;rintro e w1 ⟨p1,rfl,k,x,q⟩;have l:=KS x k q;clear k x q;go_wp2_with fail;refine(Jh l.out.1 rfl (by have:=H.out.2;omega)).mono ?_;rintro e w2 ⟨p2,rfl,j,p,f2⟩;obtain⟨b2,rfl,u0,u1,lu⟩:=Lg p.hg j;obtain⟨b1,rfl,v0,v1,lv⟩:=Lg p.hg l.out.2.1;have b:=Nm p (l.out.2.2.trans f2) j l.out.2.1;clear p f2 j H l;have c:∀n,u.k=1->v.k=1->MS w0 (w2.drewN n) M G ⟨ts,r,ca,fu,en'⟩/\Fr M w (w2.drewN n):=fun n hu g=>by rw[HI.out,if_pos ⟨hu,g⟩];have d:=U6 (K w2.heap.size w2) n;exact⟨b.out.1.below d,b.out.2.1.trans (Fr.below d b.out.1.lt)⟩
 have HB:Q (¬(u.k=1/\v.k=1)->L F 154 #[B (E ⟨M,0,A⟩)] w2 fun e w'=>e=D (I #[])/\MS w0 w' M G ⟨ts,r,ca,fu,en'⟩/\Fr M w w'):=fun y=>by refine(Kv b.out.1).mono ?_;rintro e w' ⟨rfl,x,q⟩;rw[HI.out,if_neg y];exact⟨rfl,x,b.out.2.1.trans q⟩
 have z:=Yx c;clear c;by_cases hu:u.k=1
 .by_cases g:v.k=1
  .have HV:=Un hu g;rw[hu] at u0;rw[g] at v0;clear hu g;go_wp2_with fail;go_quiet (fail)
   go_wp2_with fail;refine R (v:=I #[O P u.n,O P v.n]) (by simp[results,N,go_sem]) rfl ⟨rfl,z.out _ HV.out.1 HV.out.2⟩
  .have HV:Q (¬(u.k=1/\v.k=1)):=fun h=>g h.2;have a4:(v.k != 1)=true:=by simpa using g
   rw[hu] at u0;clear hu g;go_wp2_with fail;refine(HB.out HV.out).mono ?_;rintro e w3 ⟨rfl,a,o⟩;have y1:=(Lg a.hg b.out.2.2.1)
   have y2:=(Lg a.hg b.out.2.2.2)
   obtain⟨_,e1,_,a3,a1⟩:=y1;obtain⟨_,e2,_,a2,a0⟩:=y2;cases e1
   cases e2
   have i:=Un a o;clear a o;go_wp2_with fail;go_quiet (fail)
   go_wp2_with fail;have d:=U6 (K w3.heap.size w3) nq;refine R (v:=I #[O P u.n,O P v.n]) (by simp[results,N,go_sem]) rfl ⟨rfl,i.out.1.below d,i.out.2.trans (Fr.below d i.out.1.lt)⟩
 .have HV:Q (¬(u.k=1/\v.k=1)):=fun h=>hu h.1;have a5:(u.k != 1)=true:=by simpa using hu
  clear hu;go_wp2_with fail;refine(HB.out HV.out).mono ?_;rintro e w3 ⟨rfl,a,o⟩;have y1:=(Lg a.hg b.out.2.2.1)
  have y2:=(Lg a.hg b.out.2.2.2)
  obtain⟨_,e1,_,a3,a1⟩:=y1;obtain⟨_,e2,_,a2,a0⟩:=y2;cases e1
  cases e2
  have i:=Un a o;clear a o;go_wp2_with fail;go_quiet (fail)
  go_wp2_with fail;have d:=U6 (K w3.heap.size w3) nq;refine R (v:=I #[O P u.n,O P v.n]) (by simp[results,N,go_sem]) rfl ⟨rfl,i.out.1.below d,i.out.2.trans (Fr.below d i.out.1.lt)⟩
theorem Lh{W:World}{s:St}(h:MS w0 w M G s){v:YK}(k:Below w.heap.size w W)(g:Wq w0 W G w.heap.size v)(l:s.vs.length+1<=1000000000):
  L F 150 #[B (E ⟨M,0,A⟩),B (E ⟨w.heap.size,0,A⟩)] W (fun e w'=>e=D (I #[])/\∃H,G.le H/\MS w0 w' M H (s.push v)/\Fr M w w'):=by
 obtain⟨a,b⟩:=NJ h.hg k g;obtain⟨j,c⟩:=h.post a;refine(KG j b l).mono ?_;rintro e w' ⟨rfl,i,d⟩;exact⟨rfl,_,a.le,i,c.trans d⟩
theorem TQ(n:Int):Wq w0 (w.alloc (Mq 1 n A A A A A 0)) G w.heap.size (XF n):=LH (fun _=>rfl) rfl rfl rfl (fun h=>by simp[XF] at h) (fun h=>by simp[XF] at h) (Gh.cp_none _) (Gh.cp_none _)
theorem Pj(n:Int):Wq w0 (w.alloc (Mq 2 n A A A A A 0)) G w.heap.size (Xk n):=LH (fun _=>rfl) rfl rfl rfl (fun h=>by simp[Xk] at h) (fun h=>by simp[Xk] at h) (Gh.cp_none _) (Gh.cp_none _)
theorem BQ{v:YK}(h:MS w0 w M G ⟨ts,v::u::r,ca,fu,en⟩)(c:r.length+1<=1000000000)(l:en'=if u.k=1/\v.k=1 then en else Yu)(hu:-1000000<=u.n/\u.n<=1000000)(j:-1000000<=v.n/\v.n<=1000000):
  L F 112 #[B (E ⟨M,0,A⟩)] w (YD w0 w M G ⟨ts,XF (U4 (u.n+v.n))::r,ca,fu,en'⟩):=by
 have H:=Yx (Np h c l);clear h l;obtain⟨a,k⟩:∃a,a=u.n:=⟨_,rfl⟩
 obtain⟨b,g⟩:∃b,b=v.n:=⟨_,rfl⟩
 rw[<-k] at hu H ⊢;rw[<-g] at j H ⊢;clear k g;obtain⟨a1,a2⟩:=hu;obtain⟨b1,b2⟩:=j;go_enter func112,ntmps112;go_wp2_with fail;refine H.out.mono ?_;rintro e d ⟨rfl,o,i⟩;have y:Q (∀X,X=U4 (a+b)->L F 150 #[B (E ⟨M,0,A⟩),B (E ⟨d.heap.size,0,A⟩)] (d.alloc (Mq 1 X A A A A A 0)) (fun e w'=>e=D (I #[])/\Q (YD w0 w M G ⟨ts,XF (U4 (a+b))::r,ca,fu,en'⟩ (D (I #[])) w'))):=by intro X x;subst x;refine(Lh o ((K _ _).alloc (Nat.le_refl _) _) (TQ _) c).mono ?_;rintro e w' ⟨rfl,H',p,q,z⟩;exact⟨rfl,rfl,H',p,q,i.trans z⟩
 clear o i c H;go_wp2_with fail
 all_goals
  refine(y.out _ (by unfold U4;omega)).mono ?_
  rintro e w2 ⟨rfl,HE⟩
  go_wp2_with fail
  go_end0
  exact HE.out
theorem RY{v:YK}(h:MS w0 w M G ⟨ts,v::u::r,ca,fu,en⟩)(j:r.length+1<=1000000000)(p:en'=if u.k=1/\v.k=1 then en else Yu):
  L F 113 #[B (E ⟨M,0,A⟩)] w (YD w0 w M G ⟨ts,Xk (if u.n<v.n then 1 else 0)::r,ca,fu,en'⟩):=by
 have H:=Yx (Np h j p);clear h p;obtain⟨a,q⟩:∃a,a=u.n:=⟨_,rfl⟩
 obtain⟨b,l⟩:∃b,b=v.n:=⟨_,rfl⟩
 rw[<-q] at H ⊢;rw[<-l] at H ⊢;clear q l;obtain⟨z,hz⟩:∃z:Int,z=if a<b then 1 else 0:=⟨_,rfl⟩
 rw[<-hz];have o:Q (∀c X,MS w0 c M G ⟨ts,r,ca,fu,en'⟩->Fr M w c->X=z->L F 150 #[B (E ⟨M,0,A⟩),B (E ⟨c.heap.size,0,A⟩)] (c.alloc (Mq 2 X A A A A A 0)) (fun e w'=>e=D (I #[])/\Q (YD w0 w M G ⟨ts,Xk z::r,ca,fu,en'⟩ (D (I #[])) w'))):=by intro c X g d hX;subst hX;refine(Lh g ((K _ _).alloc (Nat.le_refl _) _) (Pj _) j).mono ?_;rintro e w' ⟨rfl,H',x,y,f2⟩;exact⟨rfl,rfl,H',x,y,d.trans f2⟩
 by_cases hlt:a<b
 .have HZ:Q (1=z):=by rw[hz,if_pos hlt];rfl
  have hd:decide (a<b)=true:=by simpa using hlt
  clear hz j;go_enter func113,ntmps113;go_wp2_with fail;refine H.out.mono ?_;rintro e c ⟨rfl,g,d⟩;have i:=Un g d;clear g d;go_wp2_with fail;refine(o.out c _ i.out.1 i.out.2 HZ.out).mono ?_;rintro e w2 ⟨rfl,k⟩;go_wp2_with fail;go_end0;exact k.out
 .have HZ:Q (0=z):=by rw[hz,if_neg hlt];rfl
  have hd:decide (a<b)=false:=by simpa using hlt
  clear hz j;go_enter func113,ntmps113;go_wp2_with fail;refine H.out.mono ?_;rintro e c ⟨rfl,g,d⟩;have i:=Un g d;clear g d;go_wp2_with fail;refine(o.out c _ i.out.1 i.out.2 HZ.out).mono ?_;rintro e w2 ⟨rfl,k⟩;go_wp2_with fail;go_end0;exact k.out
theorem Tx{v:YK}(h:MS w0 w M G ⟨ts,v::r,ca,fu,en⟩)(hr:r.length<=1000000000)(d:ts.length+1<=1000000000)(hx:NH w0 p x)(hs:G.sp q e)(hl:x.l.length=3):
  L F 114 #[B (E ⟨M,0,A⟩),B p,B q] w (YD w0 w M G (if v.k=2 then (St.plan ⟨ts,r,ca,fu,en⟩ (YY (x.at (if v.n=1 then 1 else 2)) e)) else St.stop ⟨ts,r,ca,fu,en⟩ Yu)):=by
 obtain⟨b,o,lb,lo,c,rfl,c6,hp⟩:=hx.part (j:=0) (by omega);rw[hl] at c6;have H:=Yx (Jh h rfl hr);have l:Q (G.sp q e/\NH w0 (E ⟨lb,lo+7,A⟩) (x.at 1)/\NH w0 (E ⟨lb,lo+14,A⟩) (x.at 2)/\ts.length+1<=1000000000/\cL w0 b (o+6) (.slice (E ⟨lb,lo,A⟩) 3 c)):=⟨hs,by simpa using hp 1 (by omega),by simpa using hp 2 (by omega),d,c6⟩
 clear h hx hs hp c6 d hr;obtain⟨k,hS⟩:∃k,k=(if v.k=2 then (St.plan ⟨ts,r,ca,fu,en⟩ (YY (x.at (if v.n=1 then 1 else 2)) e)) else St.stop ⟨ts,r,ca,fu,en⟩ Yu):=⟨_,rfl⟩
 rw[<-hS];have y:=Yx hS;clear hS hl;go_enter func114,ntmps114;go_wp2_with fail;refine H.out.mono ?_;rintro e' w1 ⟨p1,rfl,z,h1,f1⟩;obtain⟨b1,rfl,v0,v1,lv⟩:=Lg h1.hg z;have k6:=cell_later h1.bel l.out.2.2.2.2;have a0:b<w1.heap.size:=C _ _ k6;have u:=Un h1 f1;clear h1 f1 z H;by_cases hk:v.k=2
 .rw[hk] at v0;by_cases d:v.n=1
  .rw[d] at v1;have a:Q (k=St.plan ⟨ts,r,ca,fu,en⟩ (YY (x.at 1) e)):=by rw[y.out,if_pos hk,if_pos d];rfl
   clear hk d y;go_wp2_with fail;refine(XN u.out.1 (Mn.look l.out.2.1 l.out.1) l.out.2.2.2.1).mono ?_;rintro e' w2 ⟨rfl,g,i⟩;have HE:Q (YD w0 w M G k (D (I #[])) w2):=by rw[a.out];exact YD.of rfl g (u.out.2.trans i)
   clear g i;go_wp2_with fail;go_end0;exact HE.out
  .have hn':(v.n==1)=false:=by simpa using d
   have a:Q (k=St.plan ⟨ts,r,ca,fu,en⟩ (YY (x.at 2) e)):=by rw[y.out,if_pos hk,if_neg d];rfl
   clear hk d y;go_wp2_with fail;refine(XN u.out.1 (Mn.look l.out.2.2.1 l.out.1) l.out.2.2.2.1).mono ?_;rintro e' w2 ⟨rfl,g,i⟩;have HE:Q (YD w0 w M G k (D (I #[])) w2):=by rw[a.out];exact YD.of rfl g (u.out.2.trans i)
   clear g i;go_wp2_with fail;go_end0;exact HE.out
 .have hk':(v.k != 2)=true:=by simpa using hk
  have a:Q (k=St.stop ⟨ts,r,ca,fu,en⟩ Yu):=by rw[y.out,if_neg hk];rfl
  clear hk y;go_wp2_with fail;refine(Kv u.out.1).mono ?_;rintro e' w2 ⟨rfl,g,i⟩;have HE:Q (YD w0 w M G k (D (I #[])) w2):=by rw[a.out];exact YD.of rfl g (u.out.2.trans i)
  clear g i;go_wp2_with fail;go_end0;exact HE.out
end Go.Proofs.YtnddkmccagiclabGreatDoor
