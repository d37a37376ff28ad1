import Derived.Test.YtnddkmccagiclabGreatDoorZtq
set_option maxRecDepth 20000
set_option maxHeartbeats 16000000
open Go.RowKit Go.Proofs.Tryz
open Go.Value renaming pointer→A,tuple→F
open Go.Ending renaming returned→B
open Go.World renaming block_lt_of_cell?→C,cell?_setCell_far→J
open List renaming length_cons→D
open Go.Proofs.Tryz renaming prog→E
open Option renaming none→I,some→L
open Go renaming Calls→N
open Go.RowKit.Below renaming refl→O
open Go.RowKit renaming Hid→P
namespace Go.Proofs.YtnddkmccagiclabGreatDoor
variable {w w0:World}{G:Gh}{M:Nat}
theorem Vu{W:World}(c:HG w0 w G)(a:Below w.heap.size w W){e:List YK}(d:Db W G w.heap.size e):Xr w0 w G W (G.addS w.heap.size e)/\(G.addS w.heap.size e).sp (L ⟨w.heap.size,0,I⟩) e:=by
 have hd:¬G.dom w.heap.size:=fun h=>by have:=c.lt h;omega
 refine⟨⟨Gh.le_addS hd,(c.below a).addS hd d,a,fun b h=>?_⟩,Gh.sp_addS _ _ _⟩;rcases Gh.dom_addS h with rfl|h
 .exact .inr (Nat.le_refl _)
 .exact .inl h
theorem Wg{s:St}(h:MS w0 w M G s)(hn:s.ts.length+1<=1000000000)(hc:s.calls<=1000){pf pg:Option Addr}{f g:YK}(hf:G.vp pf f)(hg:G.vp pg g)(hk:f.k=3):
  N E 155 #[A (L ⟨M,0,I⟩),A pf,A pg] w (YD w0 w M G (J2 s f g)):=by
 obtain⟨b,rfl,hb⟩:=hf;obtain⟨pb,ps,pi,a5,pa,h0,r,z,h3,h4,h5,h6,h7,a1,a2,a3,a4⟩:=h.hg.v b f hb;obtain⟨a,l⟩:=a1 hk;have lb:b<w.heap.size:=C _ _ h0;have lM:=h.lt;have y:=h.c2;have m3:=h.c3;have g2:=h.fz 2;have q:=(h.far b (.inl (by rw[hb];simp))).1;obtain⟨p,hS⟩:∃p,p=J2 s f g:=⟨_,rfl⟩
 rw[<-hS];by_cases hcf:s.calls=s.fuel
 .have HS:P (p=s.stop MF):=by rw[hS];unfold J2;rw[if_pos hcf];rfl
  have e1:((s.calls:Int)==(s.fuel:Int))=true:=by rw[hcf];simp
  have H:=Yx h;clear hS hcf h hn hc hg a1 a2 a3 a4 a l h0 r z h3 h4 h5 h6 h7;go_enter func155,ntmps155;go_wp2_with fail;go_quiet (fail)
  go_wp2_with fail;refine(Qw (H.out.below (U6 (O _ _) _)) MF).mono ?_;rintro e w1 ⟨rfl,x1,x⟩;have HE:P (YD w0 w M G p (B (F #[])) w1):=by rw[HS.out];exact YD.of rfl x1 ((Fr.below (U6 (O _ _) _) lM).trans x)
  clear x1 x;go_wp2_with fail;go_end0;exact HE.out
 .have HS:P (p=⟨YY f.body (g::f.env)::s.ts,s.vs,s.calls+1,s.fuel,s.ended⟩):=by rw[hS];unfold J2;rw[if_neg hcf];rfl
  have e1:((s.calls:Int)==(s.fuel:Int))=false:=by simp;omega
  have H:=Sl h hn hg a l;clear hS hcf h hn hg a1 a2 a3 a4 a l h0 r h4 h5 h6 h7;go_enter func155,ntmps155;go_wp2_with fail;go_quiet (fail)
  go_wp2_with fail;obtain⟨o,c⟩:∃W,W=(w.drewN nq).setCell ⟨M,2,I⟩ (.int .i64 ((s.calls:Int)+1)):=⟨_,rfl⟩
  have d:MS w0 o M G ⟨s.ts,s.vs,s.calls+1,s.fuel,s.ended⟩/\Fr M w o:=by
   rw[c];refine H.out.1.set (s':=⟨s.ts,s.vs,s.calls+1,s.fuel,s.ended⟩) _ ?_ ?_ rfl rfl ⟨rfl,rfl,rfl,by simp[World.setCell],fun k hk r _=>Below.heap_setCell _ _ _ _ r⟩ ?_ ?_ ?_ ?_ ?_ ?_
   .rw[Yo (by omega)];rfl
   .rw[Yo (by omega)];rfl
   .have:=XW (u:=w.drewN nq) (v:=.int .i64 ((s.calls:Int)+1)) (j:=2) (b:=M) H.out.1.c2;simpa using this
   .rw[Yo (by omega)];exact H.out.1.c3
   .rw[Yo (by omega)];exact H.out.1.c4
   .rw[Yo (by omega)];exact H.out.1.c5
   .rw[Yo (by omega)];exact H.out.1.c6
   .intro i;simpa using H.out.1.fz i
  have k2:o.cell? ⟨b,2,I⟩=L (A pb):=by rw[c,J _ _ _ _ (by intro e;exact q e.symm)];exact z
  have k3:o.cell? ⟨b,3,I⟩=L (A ps):=by rw[c,J _ _ _ _ (by intro e;exact q e.symm)];exact h3
  have a7:b<o.heap.size:=C _ _ k2;have a6:=d.1.lt;have HP:P (N E 72 #[A (L ⟨M,0,I⟩),.agg #[.int .i64 1,A pb,A (L ⟨o.heap.size,0,I⟩),A I]] (o.alloc (.cells #[A pg,A ps] 223)).drew fun e w'=>e=B (F #[])/\P (YD w0 w M G p (B (F #[])) w')):=by have a0:bL o (o.alloc (.cells #[A pg,A ps] 223)).drew:=((O _ _).alloc (Nat.le_refl _) _).drew;obtain⟨r1,r2⟩:=Vu (e:=g::f.env) d.1.hg a0 ⟨g,f.env,pg,ps,rfl,by simp[go_sem],by simp[go_sem],H.out.2.2.1,H.out.2.2.2.2⟩;obtain⟨m1,y⟩:=d.1.post r1;refine(XN m1 (Mn.look H.out.2.2.2.1 r2) H.out.2.1).mono ?_;rintro e w' ⟨rfl,x1,x⟩;refine⟨rfl,?_⟩;rw[HS.out];exact⟨rfl,_,r1.le,x1,d.2.trans (y.trans x)⟩
  rw[<-c];clear c d z h3 y m3 g2;go_region_with (go_at_call 72;refine HP.out.mono ?_;rintro e w3 ⟨rfl,HE⟩)
  all_goals
   go_wp2_with fail
   go_end0
   exact HE.out
theorem TM{s:St}(h:MS w0 w M G s)(hn:s.ts.length+3<=1000000000)(hv:s.vs.length+2<=1000000000){pf pg:Option Addr}{f g:YK}(hf:G.vp pf f)(hg:G.vp pg g)(hk:f.k=4):
  N E 156 #[A (L ⟨M,0,I⟩),A pf,A pg] w (YD w0 w M G (MN s f g)):=by
 obtain⟨b,rfl,z⟩:=hf;have a:∀W,HG w0 W G->∃i c k,cL W b 4 (A i)/\cL W b 5 (A c)/\cL W b 6 (A k)/\G.vp i f.core/\G.cp c f.given/\G.cp k f.answer/\b<W.heap.size:=fun W hW=>by
  obtain⟨pb,ps,i,c,k,h0,r,l,x,j,o,h6,h7,a1,a2,a3,a4⟩:=hW.v b f z;obtain⟨u,hi,hu⟩:=a2 (.inl hk);have d:f.core=u:=by unfold YK.core;rw[hi];rfl
  exact⟨i,c,k,j,o,h6,by rw[d];exact hu,a3,a4,C _ _ h0⟩
 have HC:=Yx a;obtain⟨i,c,k,c4,_,_,i1,_,_,p⟩:=a w h.hg;have H:=Sl h i1 hg hn hv;clear h i1 hg hn hv a hk z;go_enter func156,ntmps156;go_wp2_with fail;refine(KG H.out.1 H.out.2.1 (by have:=H.out.2.2.2.2;omega)).mono ?_;rintro e w1 ⟨rfl,r,f1⟩;have H1:=Un r f1;clear r f1 c4 p;go_wp2_with fail;refine(KG H1.out.1 H.out.2.2.1 (by have:=H.out.2.2.2.2;simp only[St.push,D];omega)).mono ?_;rintro e w2 ⟨rfl,l,f2⟩;obtain⟨_,_,a0,_,_,c6,_,_,i6,p⟩:=HC.out w2 l.hg;have y:=KS l (H1.out.2.trans f2) i6;clear l f2 i6;go_wp2_with fail;refine(XN y.out.1 (Mn.change y.out.2.2) (by have:=H.out.2.2.2.1;simp only[St.push];omega)).mono ?_;rintro e w3 ⟨rfl,x,f3⟩;have H3:=Un x (y.out.2.1.trans f3);clear x f3 c6 p;go_wp2_with fail;refine(XN (t:=Pd 7) H3.out.1 (Mn.do_ (w0:=w0) (G:=G) 7 (by omega) (by omega)) (by have:=H.out.2.2.2.1;simp only[St.push,St.plan,D];omega)).mono ?_;rintro e w4 ⟨rfl,j,f4⟩;obtain⟨_,a5,_,_,c5,_,_,i5,_,p⟩:=HC.out w4 j.hg;have q:=KS j (H3.out.2.trans f4) i5;clear j f4 i5;go_wp2_with fail;refine(XN q.out.1 (Mn.change q.out.2.2) (by have:=H.out.2.2.2.1;simp only[St.push,St.plan,D];omega)).mono ?_;rintro e w5 ⟨rfl,o,f5⟩;have HE:=Yx (YD.of rfl o (q.out.2.1.trans f5));clear o f5;go_wp2_with fail;go_end0;exact HE.out
theorem Sa{ts:List Xx}{u v:YK}{r:List YK}{ca fu:Nat}{en:Xy}(h:MS w0 w M G ⟨ts,v::u::r,ca,fu,en⟩)(z:r.length+2<=1000000000)(hn:ts.length+3<=1000000000)(hc:ca<=1000):
  N E 115 #[A (L ⟨M,0,I⟩)] w (YD w0 w M G (UB ⟨ts,r,ca,fu,en⟩ u v)):=by
 have H:=Nm h z hn hc;clear h hn z hc;obtain⟨d,hS⟩:∃d,d=UB ⟨ts,r,ca,fu,en⟩ u v:=⟨_,rfl⟩
 rw[<-hS];have p:=Yx hS;clear hS;go_enter func115,ntmps115;go_wp2_with fail;refine(Jh H.out.1 rfl (by have:=H.out.2.1;simp only[D];omega)).mono ?_;rintro e w1 ⟨y,rfl,g,x,q⟩;have k:=KS x g q;clear g x q;go_wp2_with fail;refine(Jh k.out.1 rfl (by have:=H.out.2.1;omega)).mono ?_;rintro e w2 ⟨p2,rfl,b,l,f2⟩;obtain⟨b2,rfl,u0,u1,lu⟩:=Lg l.hg b;have a:=Nm l (k.out.2.2.trans f2) b k.out.2.1;clear l f2 b k u1;have fin:∀e w',YD w0 w2 M G d e w'->e=B (F #[])/\P (YD w0 w M G d (B (F #[])) w'):=fun e w' h=>by obtain⟨rfl,K,hl,hm,hf⟩:=h;exact⟨rfl,rfl,K,hl,hm,a.out.2.1.trans hf⟩
 have o:=Yx fin;clear fin;by_cases h3:u.k=3
 .have HC:P (N E 155 #[A (L ⟨M,0,I⟩),A (L ⟨b2,0,I⟩),A y] w2 fun e w'=>e=B (F #[])/\P (YD w0 w M G d (B (F #[])) w')):=by
   refine(Wg a.out.1 (by have:=H.out.2.2.1;show ts.length+1<=_;omega) H.out.2.2.2 a.out.2.2.1 a.out.2.2.2 h3).mono fun e w' c=>o.out e w' ?_;have i:UB ⟨ts,r,ca,fu,en⟩ u v=J2 ⟨ts,r,ca,fu,en⟩ u v:=by unfold UB;rw[if_pos h3]
   rw[p.out,i];exact c
  rw[h3] at u0;clear h3;go_wp2_with fail;refine HC.out.mono ?_;rintro e w3 ⟨rfl,j⟩;go_wp2_with fail;go_end0;exact j.out
 .by_cases h4:u.k=4
  .have HC:P (N E 156 #[A (L ⟨M,0,I⟩),A (L ⟨b2,0,I⟩),A y] w2 fun e w'=>e=B (F #[])/\P (YD w0 w M G d (B (F #[])) w')):=by
    refine(TM a.out.1 H.out.2.2.1 H.out.2.1 a.out.2.2.1 a.out.2.2.2 h4).mono fun e w' c=>o.out e w' ?_;have i:UB ⟨ts,r,ca,fu,en⟩ u v=MN ⟨ts,r,ca,fu,en⟩ u v:=by unfold UB;rw[if_neg h3,if_pos h4]
    rw[p.out,i];exact c
   rw[h4] at u0;clear h3 h4;go_wp2_with fail;refine HC.out.mono ?_;rintro e w3 ⟨rfl,j⟩;go_wp2_with fail;go_end0;exact j.out
  .have HC:P (N E 154 #[A (L ⟨M,0,I⟩)] w2 fun e w'=>e=B (F #[])/\P (YD w0 w M G d (B (F #[])) w')):=by
    refine(Kv a.out.1).mono fun e w' c=>o.out e w' ?_;have i:UB ⟨ts,r,ca,fu,en⟩ u v=St.stop ⟨ts,r,ca,fu,en⟩ Yu:=by unfold UB;rw[if_neg h3,if_neg h4]
    rw[p.out,i];exact YD.of c.1 c.2.1 c.2.2
   have q3:(u.k==3)=false:=by simpa using h3
   have q4:(u.k==4)=false:=by simpa using h4
   clear h3 h4;go_wp2_with fail;refine HC.out.mono ?_;rintro e w3 ⟨rfl,j⟩;go_wp2_with fail;go_end0;exact j.out
end Go.Proofs.YtnddkmccagiclabGreatDoor
