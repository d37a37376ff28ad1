import Derived.Test.YtnddkmccagiclabGreatDoorZtr
set_option maxRecDepth 20000
set_option maxHeartbeats 16000000
open Go.RowKit Go.Proofs.Tryz
open Go.Value renaming slice→A,int→D,agg→R
open Go.IntKind renaming i64→B
open Go.RowKit renaming Below→E,Hid→H,wrap64→V
open Go.World renaming block_lt_of_cell?→F
open List renaming setIfInBounds_toArray→G,set_cons_zero→M,set_cons_succ→N
open Go.Ending renaming returned→I
open Go.Proofs.Tryz renaming prog→J
open Bool renaming false→K,true→Q,and_assoc→T
open Option renaming none→L,some→O
open Go renaming Calls→S
open Nat renaming zero_add→U
open Go.Act renaming put→X
namespace Go.Proofs.YtnddkmccagiclabGreatDoor
theorem SN(x:TT)(ar own:Int)(w:World)(hx:x.In w)(hw:(Lit.int B x.k).wf=Q)(h1:1<=x.k)(h9:x.k<=9)(hpp:x.l.length=YA x.k)(n:Nat)(hf:x.f.hgt<=n)(hs:x.f.sm)(hne:YC Yv x.f.ty ⟨0,[]⟩=Q)(hn1:n<=1000000000)(hth:x.t.hgt<=n)(hts:x.t.sm)(hn9:x.n<=9223372036854775807)(ho0:0<=own)(ho1:own<=1000000000)(hll:x.l.length<=3)
  (ih:∀j(h:j<x.l.length)(W:World),x.l[j].In W->S J 61 #[R #[D B x.l[j].k,D B x.l[j].n,D B x.l[j].t.k,A x.l[j].t.a x.l[j].t.l.length x.l[j].t.c,D B x.l[j].f.k,A x.l[j].f.a x.l[j].f.l.length x.l[j].f.c,A x.l[j].a x.l[j].l.length x.l[j].c],D B ar,D B (Xm x.k own)] W fun e w'=>e=I (.bool (Y9 ar x.l[j].tm (Xm x.k own)))/\E W.heap.size W w') :
  S J 61 #[R #[D B x.k,D B x.n,D B x.t.k,A x.t.a x.t.l.length x.t.c,D B x.f.k,A x.f.a x.f.l.length x.f.c,A x.a x.l.length x.c],D B ar,D B own] w fun e w'=>e=I (.bool (Xt ar own x.k x.n&&(if UI x.k=Q then Ym 4 x.t.ty else XG x.t.ty)&&x.l.all fun y=>Y9 ar y.tm (Xm x.k own)))/\E w.heap.size w w':=by
 obtain⟨W1,ac⟩:∃W,W=w.alloc (.cells #[D B x.k,D B x.n,D B x.t.k,A x.t.a x.t.l.length x.t.c,D B x.f.k,A x.f.a x.f.l.length x.f.c,A x.a x.l.length x.c] 27):=⟨_,rfl⟩
 have l:E w.heap.size w W1:=by rw[ac];exact(Below.refl _ _).alloc (Nat.le_refl _) _
 have e1:decide (x.k<1)=K:=by simp;omega
 have e2:decide (9<x.k)=K:=by simp;omega
 obtain⟨PP,ak⟩:∃P:Int,P=(YA x.k:Int):=⟨_,rfl⟩
 have e3:((x.l.length:Int) != PP)=K:=by simp;omega
 have HP:H (∀W,E W1.heap.size W1 W->S J 98 #[D B x.k] W fun e w'=>e=I (D B PP)/\E W1.heap.size W1 w'):=fun W c=>by refine(M0 x.k hw W).mono ?_;rintro e w' ⟨rfl,u⟩;rw[ak];exact⟨rfl,c.trans (u.mono c.size)⟩
 have HA:H (∀W,E W1.heap.size W1 W->S J 56 #[] W fun e w'=>e=I (R #[D B 0,A L 0 0])/\E W1.heap.size W1 w'):=fun W c=>by refine(UO W).mono ?_;rintro e w' ⟨rfl,rfl⟩;exact⟨rfl,c.alloc c.size _⟩
 have HS:H (∀W,E W1.heap.size W1 W->S J 39 #[R #[D B x.f.k,A x.f.a x.f.l.length x.f.c],R #[D B 0,A L 0 0]] W fun e w'=>e=I (.bool Q)/\E W1.heap.size W1 w'):=fun W c=>by have:=Xz n x.f (Yr 0) W ((hx.below (l.trans (c.mono l.size))).f) (YB 0 W) hf hs;rw[XS,hne] at this;refine this.mono ?_;rintro e w' ⟨rfl,u⟩;exact⟨rfl,c.trans (u.mono c.size)⟩
 have h7:X4 W1 w.heap.size 0 x:=by constructor<;>(rw[ac];simp[go_sem])
 have HK:H (∀W,E W1.heap.size W1 W->W.cell? ⟨w.heap.size,0,L⟩=O (D B x.k)/\W.cell? ⟨w.heap.size,4,L⟩=O (D B x.f.k)/\W.cell? ⟨w.heap.size,5,L⟩=O (A x.f.a x.f.l.length x.f.c)/\W.cell? ⟨w.heap.size,6,L⟩=O (A x.a x.l.length x.c)):=fun W c=>by obtain⟨a0,a1,a2,a3,a4,a5,a6⟩:=h7.below c;simp only[U] at a0 a1 a2 a3 a4 a5 a6;exact⟨a0,a4,a5,a6⟩
 have a7:H (∀W,E W1.heap.size W1 W->W.cell? ⟨w.heap.size,0,L⟩=O (D B x.k)/\W.cell? ⟨w.heap.size,1,L⟩=O (D B x.n)/\W.cell? ⟨w.heap.size,2,L⟩=O (D B x.t.k)/\W.cell? ⟨w.heap.size,3,L⟩=O (A x.t.a x.t.l.length x.t.c)/\W.cell? ⟨w.heap.size,6,L⟩=O (A x.a x.l.length x.c)):=fun W c=>by obtain⟨a0,a1,a2,a3,a4,a5,a6⟩:=h7.below c;simp only[U] at a0 a1 a2 a3 a4 a5 a6;exact⟨a0,a1,a2,a3,a6⟩
 obtain⟨q,hq⟩:∃q,q=Xt ar own x.k x.n:=⟨_,rfl⟩
 rw[<-hq];have af:H (q=Xt ar own x.k x.n):=hq;have au:H (1<=x.k/\x.k<=9):=⟨h1,h9⟩
 have am:H (x.n<=9223372036854775807/\0<=own/\own<=1000000000):=⟨hn9,ho0,ho1⟩
 clear hq hn9 ho0 ho1;obtain⟨z,ab⟩:∃z,z=(if UI x.k=Q then Ym 4 x.t.ty else XG x.t.ty):=⟨_,rfl⟩
 rw[<-ab];have ay:H (x.k=7\/x.k=9->∀W,E W1.heap.size W1 W->S J 99 #[R #[D B x.t.k,A x.t.a x.t.l.length x.t.c]] W fun e w'=>e=I (.bool z)/\E W1.heap.size W1 w'):=fun d W c=>by
  have e:z=Yz 4 x.t:=by rw[ab,if_pos (by rcases d with h|h<;>simp[UI,h]),YM]
  rw[e];refine(Td n hn1 x.t W ((hx.below (l.trans (c.mono l.size))).t) hth hts).mono ?_;rintro e w' ⟨rfl,u⟩;exact⟨rfl,c.trans (u.mono c.size)⟩
 have b4:H (¬(x.k=7\/x.k=9)->∀W,E W1.heap.size W1 W->S J 39 #[R #[D B x.t.k,A x.t.a x.t.l.length x.t.c],R #[D B 0,A L 0 0]] W fun e w'=>e=I (.bool z)/\E W1.heap.size W1 w'):=fun d W c=>by
  have e:z=YC Yv x.t.ty ⟨0,[]⟩:=by rw[ab,if_neg (by simp[UI];omega)];rfl
  have:=Xz n x.t (Yr 0) W ((hx.below (l.trans (c.mono l.size))).t) (YB 0 W) hth hts;rw[XS,<-e] at this;refine this.mono ?_;rintro e w' ⟨rfl,u⟩;exact⟨rfl,c.trans (u.mono c.size)⟩
 have ba:H (z=(if UI x.k=Q then Ym 4 x.t.ty else XG x.t.ty)):=ab;clear ab hn1 hth hts;obtain⟨o,ae⟩:∃o,o=Xm x.k own:=⟨_,rfl⟩
 have ap:H (o=Xm x.k own):=ae;have HX:H (∀W,E W1.heap.size W1 W->x.In W):=fun W c=>(hx.below l).below c;have av:H (∀j(h:j<x.l.length)(W:World),E W1.heap.size W1 W->S J 61 #[R #[D B x.l[j].k,D B x.l[j].n,D B x.l[j].t.k,A x.l[j].t.a x.l[j].t.l.length x.l[j].t.c,D B x.l[j].f.k,A x.l[j].f.a x.l[j].f.l.length x.l[j].f.c,A x.l[j].a x.l[j].l.length x.l[j].c],D B ar,D B o] W fun e w'=>e=I (.bool (Y9 ar x.l[j].tm o))/\E W1.heap.size W1 w'):=fun j h W c=>by obtain⟨_,_,_,_,az⟩:=((hx.below l).below c).part j h;rw[ae];refine(ih j h W az).mono ?_;rintro e w' ⟨rfl,u⟩;exact⟨rfl,c.trans (u.mono c.size)⟩
 rw[<-ae];clear ae ih;have HB:H (E w.heap.size w W1):=l;clear l h1 h9 hne hw h7 ak hx hf hs hpp;go_enter func61,ntmps61;go_upto_region 1 with fail;rw[<-ac];clear ac;go_cut [33] (fun s33 wx=>s33=.bool K/\H (E W1.heap.size W1 wx))
 case first=>
  refine JD (C:=fun W=>E W1.heap.size W1 W) (by kernel_rfl) (by kernel_rfl) ((Below.refl _ _).drew) ?_;iterate 24 (first
   |go_big_quiet_skip
   |(refine Ln (v:=?_) (by rfl) ?_ ?_;rotate_left;(focus (intro W c;obtain⟨p,d4,d5,d6⟩:=HK.out W c;have lw:w.heap.size<W.heap.size:=F _ _ p;first|(go_simp;done)|(go_simp;with_reducible rfl)));simp only[X,G,M,N])
   |(refine Us (D B PP) 98 #[D B x.k] (by rfl) ?_ (fun W c=>HP.out W c) ?_;(focus (intro W _;go_simp;done));simp only[X,G,M,N])
   |(refine Us (R #[D B 0,A L 0 0]) 56 #[] (by rfl) ?_ (fun W c=>HA.out W c) ?_;(focus (intro W _;go_simp;done));simp only[X,G,M,N])
   |(refine Us (.bool Q) 39 #[R #[D B x.f.k,A x.f.a x.f.l.length x.f.c],R #[D B 0,A L 0 0]] (by rfl) ?_ (fun W c=>HS.out W c) ?_;(focus (intro W _;go_simp;done));simp only[X,G,M,N]))
  refine wpQuiet_nil ?_;intro wq hq;have HQ:H (E W1.heap.size W1 wq):=hq;clear hq;go_wp2_with fail;go_meet
  case rel=>exact⟨rfl,HQ⟩
 case rest=>
  obtain⟨aw,HQ⟩:=hcut;subst aw;obtain⟨p,d1,d2,d3,d6⟩:=a7.out wc HQ.out;have lw:w.heap.size<wc.heap.size:=F _ _ p;go_upto_region 3 with fail;go_cut [7] (fun s7 wx=>s7=.bool (x.n==0)/\H (E W1.heap.size W1 wx))
  case first=>
   go_wp2_with fail;go_meet
   case rel=>exact⟨rfl,HQ⟩
  obtain⟨h7,k⟩:=hcut;subst h7;clear HQ p d1 d2 d3 d6 lw;apply_assumption;refine wp_seq_k fun Kx b9=>?_;go_cut [7] (fun s7 wx=>s7=.bool q/\H (E W1.heap.size W1 wx))
  case first=>
   obtain⟨p,d1,d2,d3,d6⟩:=a7.out _ k.out;have lw:=F _ _ p;have b1:x.k=1\/x.k=2\/x.k=3\/4<=x.k:=by have:=au.out;omega
   rcases b1 with d|d|d|d
   .rw[d] at p;have r:H (q=(decide (0<=x.n)&&decide (x.n-own<ar))):=by rw[af.out,d];simp[Xt,H]
    clear d;by_cases a:0<=x.n
    .have ea:decide (0<=x.n)=Q:=by simpa using a
     have b3:IntKind.i64.wrap (x.n-own)=x.n-own:=by have:=am.out;rw[IntKind.wrap_i64];omega
     by_cases b:x.n-own<ar
     .have eb:decide (x.n-own<ar)=Q:=by simpa using b
      clear a b;go_wp2_with fail;go_meet
      case rel=>exact⟨by rw[r.out,ea,eb];rfl,k⟩
     .have eb:decide (x.n-own<ar)=K:=by simpa using b
      clear a b;go_wp2_with fail;go_meet
      case rel=>exact⟨by rw[r.out,ea,eb];rfl,k⟩
    .have ea:decide (0<=x.n)=K:=by simpa using a
     clear a;go_wp2_with fail;go_meet
     case rel=>exact⟨by rw[r.out,ea];rfl,k⟩
   .rw[d] at p;have r:H (q=(decide (-1000000<=x.n)&&decide (x.n<=1000000))):=by rw[af.out,d];simp[Xt,H]
    clear d;by_cases a:x.n<=1000000
    .have ea:decide (x.n<=1000000)=Q:=by simpa using a
     by_cases b:-1000000<=x.n
     .have eb:decide (-1000000<=x.n)=Q:=by simpa using b
      clear a b;go_wp2_with fail;go_meet
      case rel=>exact⟨by rw[r.out,ea,eb];rfl,k⟩
     .have eb:decide (-1000000<=x.n)=K:=by simpa using b
      clear a b;go_wp2_with fail;go_meet
      case rel=>exact⟨by rw[r.out,ea,eb];rfl,k⟩
    .have ea:decide (x.n<=1000000)=K:=by simpa using a
     clear a;go_wp2_with fail;go_meet
     case rel=>exact⟨by rw[r.out,ea,Bool.and_false],k⟩
   .rw[d] at p;have r:H (q=(x.n==0 || x.n==1)):=by rw[af.out,d];simp[Xt,H]
    clear d;by_cases h01:x.n=0\/x.n=1
    .have ea:(V (x.n*x.n)==x.n)=Q:=by rcases h01 with h|h<;>(rw[h];unfold V;rfl)
     have eb:decide (x.n<2)=Q:=by simp;omega
     have ec:decide (0<=x.n)=Q:=by simp;omega
     have ev:(x.n==0 || x.n==1)=Q:=by rcases h01 with h|h<;>rw[h]<;>rfl
     clear h01;go_wp2_with fail;go_meet
     case rel=>exact⟨by rw[r.out,ev],k⟩
    .have ev:(x.n==0 || x.n==1)=K:=by simp;omega
     by_cases a:V (x.n*x.n)=x.n
     .have ea:(V (x.n*x.n)==x.n)=Q:=by simpa using a
      by_cases b:x.n<2
      .have eb:decide (x.n<2)=Q:=by simpa using b
       have ec:decide (0<=x.n)=K:=by simp;omega
       clear a b h01;go_wp2_with fail;go_meet
       case rel=>exact⟨by rw[r.out,ev],k⟩
      .have eb:decide (x.n<2)=K:=by simpa using b
       clear a b h01;go_wp2_with fail;go_meet
       case rel=>exact⟨by rw[r.out,ev],k⟩
     .have ea:(V (x.n*x.n)==x.n)=K:=by simpa using a
      clear a h01;go_wp2_with fail;go_meet
      case rel=>exact⟨by rw[r.out,ev],k⟩
   .have e1':(x.k==1)=K:=by simp;omega
    have b5:(x.k==2)=K:=by simp;omega
    have b7:(x.k==3)=K:=by simp;omega
    have r:H (q=(x.n==0)):=by rw[af.out];unfold Xt;rw[if_neg (by omega),if_neg (by omega),if_neg (by omega)];exact rfl
    clear d;go_wp2_with fail;go_meet
    case rel=>exact⟨by rw[r.out],k⟩
  obtain⟨h7,a8⟩:=hcut;subst h7;clear k;apply_assumption;refine wp_seq_k fun Ky b8=>?_;go_cut [7] (fun s7 wx=>s7=.bool (q&&z)/\H (E W1.heap.size W1 wx))
  case first=>
   obtain⟨p,d1,d2,d3,d6⟩:=a7.out _ a8.out;have lw:=F _ _ p;by_cases h79:x.k=7\/x.k=9
   .have HIT2:H (∀W,E W1.heap.size W1 W->S J 99 #[R #[D B x.t.k,A x.t.a x.t.l.length x.t.c]] W fun e w'=>e=I (.bool z)/\E W1.heap.size W1 w'):=ay.out h79;rcases h79 with d|d
    all_goals
     rw[d] at p
     clear d
     cases q
     .go_wp2_with fail;go_meet
      case rel=>exact⟨rfl,a8⟩
     .go_wp2_with fail;refine(HIT2.out _ a8.out).mono ?_;rintro e wt ⟨rfl,aa⟩;have HT:H (E W1.heap.size W1 wt):=aa;clear aa;go_wp2_with fail;go_meet
      case rel=>exact⟨by rw[Bool.true_and],HT⟩
   .have HST2:H (∀W,E W1.heap.size W1 W->S J 39 #[R #[D B x.t.k,A x.t.a x.t.l.length x.t.c],R #[D B 0,A L 0 0]] W fun e w'=>e=I (.bool z)/\E W1.heap.size W1 w'):=b4.out h79;have e7:(x.k==7)=K:=by simp;omega
    have e9:(x.k==9)=K:=by simp;omega
    clear h79;cases q
    .have HD:H (E W1.heap.size W1 wc.drew):=a8.out.drew;go_upto_region 13 with fail;go_region
     go_wp2_with fail;go_meet
     case rel=>exact⟨rfl,HD⟩
    .have HC0:H (wc.cell? ⟨w.heap.size,2,L⟩=O (D B x.t.k)/\wc.cell? ⟨w.heap.size,3,L⟩=O (A x.t.a x.t.l.length x.t.c)):=⟨d2,d3⟩
     have ax:H (wc.drew.cell? ⟨w.heap.size,2,L⟩=O (D B x.t.k)/\wc.drew.cell? ⟨w.heap.size,3,L⟩=O (A x.t.a x.t.l.length x.t.c)):=⟨d2,d3⟩
     have b0:H (∀W,E W1.heap.size W1 W->W.cell? ⟨w.heap.size,2,L⟩=O (D B x.t.k)/\W.cell? ⟨w.heap.size,3,L⟩=O (A x.t.a x.t.l.length x.t.c)):=fun W c=>⟨(a7.out W c).2.2.1,(a7.out W c).2.2.2.1⟩
     go_upto_region 13 with fail;have u:E W1.heap.size W1 wc.drew:=a8.out.drew;clear p d1 d2 d3 d6;go_region_held3 (fun W=>W.cell? ⟨w.heap.size,2,L⟩=O (D B x.t.k)/\W.cell? ⟨w.heap.size,3,L⟩=O (A x.t.a x.t.l.length x.t.c))
      (first
       |(with_reducible exact HC0.out)
       |(with_reducible exact ax.out)
       |(with_reducible exact b0.out _ u)
       |fail)
      (first
       |(go_at_call 56;(with_reducible refine(HA.out _ u).mono ?_);rintro e wN ⟨rfl,u⟩)
       |(go_at_call 39;(with_reducible refine(HST2.out _ u).mono ?_);rintro e wM ⟨rfl,u⟩)
       |fail)
     have HD:H (E W1.heap.size W1 wM):=u;clear u;go_wp2_with fail;go_meet
     case rel=>exact⟨by rw[Bool.true_and],HD⟩
  obtain⟨h7,ad⟩:=hcut;subst h7;clear a8;apply_assumption;refine wp_seq_k fun Kz b6=>?_;go_cut [2] (fun s2 wx=>s2=D B o/\H (E W1.heap.size W1 wx))
  case first=>
   obtain⟨p,d1,d2,d3,d6⟩:=a7.out _ ad.out;have lw:=F _ _ p;by_cases d:x.k=7
   .rw[d] at p;have b3:IntKind.i64.wrap (own+1)=own+1:=by have:=am.out;rw[IntKind.wrap_i64];omega
    have r:H (o=own+1):=by rw[ap.out,d];rfl
    clear d;go_wp2_with fail;go_meet
    case rel=>exact⟨by rw[r.out],ad⟩
   .have e7:(x.k==7)=K:=by simpa using d
    have r:H (o=own):=by rw[ap.out];unfold Xm;rw[if_neg d];exact rfl
    clear d;go_wp2_with fail;go_meet
    case rel=>exact⟨by rw[r.out],ad⟩
  obtain⟨h2,ao⟩:=hcut;subst h2;clear ad;obtain⟨p,d1,d2,d3,d6⟩:=a7.out _ ao.out;have lw:=F _ _ p;apply_assumption;go_wp2_with fail;clear p d1 d2 d3 d6 lw;go_loopg [7,111] x.l.length (fun g s7 i wr=>∃j:Nat,g+j=x.l.length/\i=D B (j:Int)/\s7=.bool (q&&z&&(x.l.take j).all fun y=>Y9 ar y.tm o)/\H (E W1.heap.size W1 wr))
  case atStart=>exact⟨0,by omega,rfl,by simp,ao⟩
  case round=>
   obtain⟨j,hj,rfl,rfl,HW⟩:=hrel;by_cases hlt:j<x.l.length
   .obtain⟨W0,hW0⟩:∃W,W=wr:=⟨_,rfl⟩
    subst hW0;obtain⟨xb,xo,xa,⟨c0,c1,c2,c3,c4,c5,c6⟩,_⟩:=(HX.out W0 HW.out).part j hlt;obtain⟨y,hy⟩:∃y,x.l[j]=y:=⟨_,rfl⟩
    have HI:=av.out j hlt;rw[hy] at c0 c1 c2 c3 c4 c5 c6 HI;have aq:((x.l.take (j+1)).all fun y=>Y9 ar y.tm o)=(((x.l.take j).all fun y=>Y9 ar y.tm o)&&Y9 ar y.tm o):=by rw[List.take_succ_eq_append_getElem hlt,List.all_append,hy];simp
    obtain⟨s,hs⟩:∃s,(q&&z&&(x.l.take j).all fun y=>Y9 ar y.tm o)=s:=⟨_,rfl⟩
    have ah:H ((q&&z&&(x.l.take (j+1)).all fun y=>Y9 ar y.tm o)=(s&&Y9 ar y.tm o)):=by rw[aq,<-hs,T,T,T];exact rfl
    rw[hs];obtain⟨WX,a9⟩:∃W,W=W0.alloc (.cells #[D B y.k,D B y.n,D B y.t.k,A y.t.a y.t.l.length y.t.c,D B y.f.k,A y.f.a y.f.l.length y.f.c,A y.a y.l.length y.c] 27):=⟨_,rfl⟩
    have ai:E W1.heap.size W1 WX:=by rw[a9];exact HW.out.alloc HW.out.size _
    have b2:H (E W1.heap.size W1 WX):=ai;have aj:H (S J 61 #[R #[D B y.k,D B y.n,D B y.t.k,A y.t.a y.t.l.length y.t.c,D B y.f.k,A y.f.a y.f.l.length y.f.c,A y.a y.l.length y.c],D B ar,D B o] WX fun e w'=>e=I (.bool (Y9 ar y.tm o))/\E W1.heap.size W1 w'):=HI WX ai;have y7:X4 WX W0.heap.size 0 y:=by constructor<;>(rw[a9];simp[go_sem])
    obtain⟨y0,y1,y2,y3,y4,y5,y6⟩:=y7;simp only[U] at y0 y1 y2 y3 y4 y5 y6;have ly:W0.heap.size<WX.heap.size:=F _ _ y0;have i1:(j:Int)<(x.l.length:Int):=by omega
    have i0:(0:Int)<=(j:Int):=by omega
    have i3:(j:Int)<=3:=by omega
    have HJ:H (gk+j=x.l.length):=hj;have al:H (x.a=O ⟨xb,xo,L⟩):=xa;obtain⟨rr,an⟩:∃rr,rr=Y9 ar y.tm o:=⟨_,rfl⟩
    rw[<-an] at aj ah;rw[xa];clear aq hs HI ai hj HW xa hy an;cases s
    .go_upto_region 19 with fail;rw[<-a9];clear a9 c0 c1 c2 c3 c4 c5 c6;go_wp2_with fail;rw[<-al.out];go_roundg (x.l.length-(j+1))
     case measure=>have:=HJ.out;omega
     case rel=>exact⟨j+1,by have:=HJ.out;omega,by go_num,by rw[ah.out];rfl,b2⟩
    .go_upto_region 19 with fail;rw[<-a9];clear a9 c0 c1 c2 c3 c4 c5 c6;go_wp2_with fail;refine aj.out.mono ?_;rintro e wt ⟨rfl,aa⟩;have HT:=Yx aa;clear aa;go_wp2_with fail;rw[<-al.out];go_roundg (x.l.length-(j+1))
     case measure=>have:=HJ.out;omega
     case rel=>exact⟨j+1,by have:=HJ.out;omega,by go_num,by rw[ah.out];simp,HT⟩
   .have hjl:j=x.l.length:=by omega
    have HN:=Yx (HB.out.trans (HW.out.mono HB.out.size));have i1:¬(j:Int)<(x.l.length:Int):=by omega
    have HE:H ((q&&z&&(x.l.take j).all fun y=>Y9 ar y.tm o)=(q&&z&&x.l.all fun y=>Y9 ar y.tm o)):=by rw[hjl,List.take_length];exact rfl
    clear HW hj hlt hjl;go_wp2_with fail;go_ret;exact⟨by rw[<-HE.out];rfl,HN.out⟩
end Go.Proofs.YtnddkmccagiclabGreatDoor
