import Derived.Test.YtnddkmccagiclabGreatDoorZts
set_option maxRecDepth 20000
set_option maxHeartbeats 16000000
open Go.RowKit Go.Proofs.Tryz
open Go.Ending renaming returned→A
open Go.Value renaming pointer→B,tuple→D
open Go.Proofs.Tryz renaming prog→C
open Go.World renaming block_lt_of_cell?→E
open Go renaming Calls→F
open Bool renaming true→I
open Option renaming none→J,some→K
open Go.RowKit renaming Hid→L
namespace Go.Proofs.YtnddkmccagiclabGreatDoor
theorem TA{w0 w:World}{M:Nat}{G:Gh}{ts:List Xx}{v:YK}{r:List YK}{ca fu:Nat}{en:Xy}(h:MS w0 w M G ⟨ts,v::r,ca,fu,en⟩)(hr:r.length+1<=1000000000){pc:Option Addr}{c:Option Ca}(hc:G.cp pc c):
  F C 116 #[B (K ⟨M,0,J⟩),B pc] w (YD w0 w M G (Xu ⟨ts,r,ca,fu,en⟩ c v)):=by
 have H:=Yx (Jh h rfl (by omega));have HR:=Yx hr;clear h hr;obtain⟨i,hS⟩:∃i,i=Xu ⟨ts,r,ca,fu,en⟩ c v:=⟨_,rfl⟩
 rw[<-hS];rcases hc with⟨rfl,rfl⟩|⟨q,x,rfl,rfl,hq⟩
 .have j:=Yx hS;clear hS;go_enter func116,ntmps116;go_wp2_with fail;refine H.out.mono ?_;rintro e d ⟨y,rfl,k,g,f1⟩;have H1:=KS g k f1;clear k g f1;go_wp2_with fail;refine(KG H1.out.1 H1.out.2.1 HR.out).mono ?_;rintro e w2 ⟨rfl,h2,f2⟩;have z:L (YD w0 w M G i (A (D #[])) w2):=by rw[j.out];exact YD.of rfl h2 (H1.out.2.2.trans f2)
  clear h2 f2;go_wp2_with fail;go_end0;exact z.out
 .have HX:=Yx hq;have j:=Yx hS;clear hS hq;obtain⟨op,l⟩:∃b,x.opens=b:=⟨_,rfl⟩
  have e1:op=I->v.k≠5->i=St.stop ⟨ts,r,ca,fu,en⟩ Yu:=fun g h2=>by rw[j.out];simp only[Xu];rw[if_pos ⟨by rw[l];exact g,h2⟩]
  have e2:op=I->v.k=5->v.az≠x.kind->i=St.stop ⟨ts,r,ca,fu,en⟩ x.wrong:=fun g h2 h3=>by rw[j.out];simp only[Xu];rw[if_neg (fun h=>h.2 h2),if_pos ⟨by rw[l];exact g,h3⟩]
  have e3:(op=I->v.k=5/\v.az=x.kind)->x.ends.k≠0->i=St.stop ⟨ts,r,ca,fu,en⟩ x.ends:=fun g h2=>by rw[j.out];simp only[Xu];rw[if_neg (fun h=>h.2 (g (by rw[<-l];exact h.1)).1),if_neg (fun h=>h.2 (g (by rw[<-l];exact h.1)).2),if_pos h2]
  have e4:(op=I->v.k=5/\v.az=x.kind)->x.ends.k=0->i=St.push ⟨ts,r,ca,fu,en⟩ (No x v):=fun g h2=>by rw[j.out];simp only[Xu];rw[if_neg (fun h=>h.2 (g (by rw[<-l];exact h.1)).1),if_neg (fun h=>h.2 (g (by rw[<-l];exact h.1)).2),if_neg (fun h=>h h2)]
  have u:=Sl e1 e2 e3 e4 l;clear e1 e2 e3 e4;have HM:∀(d:World)(y:Option Addr),MS w0 d M G ⟨ts,r,ca,fu,en⟩->G.vp y v->Fr M w d->L ((∀n,i=St.stop ⟨ts,r,ca,fu,en⟩ Yu->F C 154 #[B (K ⟨M,0,J⟩)] (d.drewN n) fun e w'=>e=A (D #[])/\L (YD w0 w M G i (A (D #[])) w'))/\ (∀n(o:Xy),i=St.stop ⟨ts,r,ca,fu,en⟩ o->F C 157 #[B (K ⟨M,0,J⟩),.agg #[.int .i64 o.k,.int .i64 o.n,.bool o.b]] (d.drewN n) fun e w'=>e=A (D #[])/\L (YD w0 w M G i (A (D #[])) w'))/\ (∀n,i=St.push ⟨ts,r,ca,fu,en⟩ (No x v)->(op=I->v.k=5)->F C 158 #[B (K ⟨q,0,J⟩),B y] (d.drewN n) fun e w'=>∃p2,e=A (B p2)/\L (F C 150 #[B (K ⟨M,0,J⟩),B p2] w' fun e a1=>e=A (D #[])/\L (YD w0 w M G i (A (D #[])) a1)))):=by
   intro d y g k f1;have hb:=fun n=>U6 (Below.refl d.heap.size d) n;refine⟨fun n hs=>?_,fun n o hs=>?_,fun n hs ho=>?_⟩
   .refine(Kv (g.below (hb n))).mono ?_;rintro e w' ⟨rfl,a,b⟩;refine⟨rfl,?_⟩;rw[hs];exact YD.of rfl a (f1.trans ((Fr.below (hb n) g.lt).trans b))
   .refine(Qw (g.below (hb n)) o).mono ?_;rintro e w' ⟨rfl,a,b⟩;refine⟨rfl,?_⟩;rw[hs];exact YD.of rfl a (f1.trans ((Fr.below (hb n) g.lt).trans b))
   .have h1':=g.below (hb n);refine(CJ h1'.hg k (.inr ⟨q,x,rfl,rfl,HX.out⟩) (fun h=>ho (by rw[<-u.out.2.2.2.2];exact h))).mono ?_;rintro e w' ⟨p2,H2,rfl,a5,a0⟩;obtain⟨m1,m2⟩:=h1'.post a0;refine⟨p2,rfl,(KG m1 a5 HR.out).mono ?_⟩;rintro e a1 ⟨rfl,a,b⟩;refine⟨rfl,?_⟩;rw[hs];exact⟨rfl,H2,a0.le,a,f1.trans ((Fr.below (hb n) g.lt).trans (m2.trans b))⟩
  have a4:L (∀(d:World)(y:Option Addr),MS w0 d M G ⟨ts,r,ca,fu,en⟩->G.vp y v->Fr M w d->L ((∀n,i=St.stop ⟨ts,r,ca,fu,en⟩ Yu->F C 154 #[B (K ⟨M,0,J⟩)] (d.drewN n) fun e w'=>e=A (D #[])/\L (YD w0 w M G i (A (D #[])) w'))/\ (∀n(o:Xy),i=St.stop ⟨ts,r,ca,fu,en⟩ o->F C 157 #[B (K ⟨M,0,J⟩),.agg #[.int .i64 o.k,.int .i64 o.n,.bool o.b]] (d.drewN n) fun e w'=>e=A (D #[])/\L (YD w0 w M G i (A (D #[])) w'))/\ (∀n,i=St.push ⟨ts,r,ca,fu,en⟩ (No x v)->(op=I->v.k=5)->F C 158 #[B (K ⟨q,0,J⟩),B y] (d.drewN n) fun e w'=>∃p2,e=A (B p2)/\L (F C 150 #[B (K ⟨M,0,J⟩),B p2] w' fun e a1=>e=A (D #[])/\L (YD w0 w M G i (A (D #[])) a1))))):=HM
  clear HM l;have a3:L (∀(d:World)(y:Option Addr),HG w0 d G->G.vp y v->∃b pg pa,y=K ⟨b,0,J⟩/\b<d.heap.size/\q<d.heap.size/\cL d b 0 (.int .i64 v.k)/\cL d b 7 (.int .i64 v.az)/\Ks d q x pg pa):=by intro d y hg hv;obtain⟨b,rfl,hb⟩:=hv;obtain⟨pb,ps,pi,pg,pa,p,g,h2,h3,h4,h5,h6,h7,_⟩:=hg.v b v hb;obtain⟨a7,a8,hC,_,_⟩:=hg.c q x HX.out;exact⟨b,a7,a8,rfl,E _ _ p,E _ _ hC.c0,p,h7,hC⟩
  go_enter func116,ntmps116;go_wp2_with fail;refine H.out.mono ?_;rintro e d ⟨y,rfl,k,g,f1⟩;obtain⟨b,pg,pa,rfl,lb,lq,v0,v7,hC⟩:=a3.out d y g.hg k;have HA:=a4.out d _ g k f1;obtain⟨c0,c1,c2,c3,c4,c5,c6,c7,c8,c9,a6⟩:=hC;rw[u.out.2.2.2.2] at c0;clear g f1 k H a4 a3 j c8 c9 a6;cases op
  .by_cases p:x.ends.k=0
   .have j:=Yx (u.out.2.2.2.1 (fun h=>by cases h) p);have z0:(x.ends.k != 0)=false:=by simpa using p
    clear p u;go_wp2_with fail;go_quiet (fail)
    go_wp2_with fail;refine(HA.out.2.2 _ j.out (fun h=>by cases h)).mono ?_;rintro e w2 ⟨p2,rfl,a2⟩;go_wp2_with fail;refine a2.out.mono ?_;rintro e w3 ⟨rfl,z⟩;go_wp2_with fail;go_end0;exact z.out
   .have j:=Yx (u.out.2.2.1 (fun h=>by cases h) p);have z0:(x.ends.k != 0)=I:=by simpa using p
    clear p u;go_wp2_with fail;go_quiet (fail)
    go_wp2_with fail;refine(HA.out.2.1 _ x.ends j.out).mono ?_;rintro e w2 ⟨rfl,z⟩;go_wp2_with fail;go_end0;exact z.out
  .by_cases h5:v.k=5
   .by_cases ha:v.az=x.kind
    .have hok:(I=I->v.k=5/\v.az=x.kind):=fun _=>⟨h5,ha⟩
     have z7:(v.az != x.kind)=false:=by simpa using ha
     have H5:=Yx h5;rw[h5] at v0;by_cases p:x.ends.k=0
     .have j:=Yx (u.out.2.2.2.1 hok p);have z0:(x.ends.k != 0)=false:=by simpa using p
      clear p u h5 ha hok;go_wp2_with fail;go_quiet (fail)
      go_wp2_with fail;refine(HA.out.2.2 _ j.out (fun _=>H5.out)).mono ?_;rintro e w2 ⟨p2,rfl,a2⟩;go_wp2_with fail;refine a2.out.mono ?_;rintro e w3 ⟨rfl,z⟩;go_wp2_with fail;go_end0;exact z.out
     .have j:=Yx (u.out.2.2.1 hok p);have z0:(x.ends.k != 0)=I:=by simpa using p
      clear p u h5 ha hok;go_wp2_with fail;go_quiet (fail)
      go_wp2_with fail;refine(HA.out.2.1 _ x.ends j.out).mono ?_;rintro e w2 ⟨rfl,z⟩;go_wp2_with fail;go_end0;exact z.out
    .have j:=Yx (u.out.2.1 rfl h5 ha);have z7:(v.az != x.kind)=I:=by simpa using ha
     rw[h5] at v0;clear h5 ha u;go_wp2_with fail;go_quiet (fail)
     go_wp2_with fail;refine(HA.out.2.1 _ x.wrong j.out).mono ?_;rintro e w2 ⟨rfl,z⟩;go_wp2_with fail;go_end0;exact z.out
   .have j:=Yx (u.out.1 rfl h5);have z5:(v.k != 5)=I:=by simpa using h5
    clear h5 u;go_wp2_with fail;refine(HA.out.1 0 j.out).mono ?_;rintro e w2 ⟨rfl,z⟩;go_wp2_with fail;go_end0;exact z.out
end Go.Proofs.YtnddkmccagiclabGreatDoor
