/-
  For every text and every number of calls the call of chaperonelaw.RunTexts returns true and leaves its arguments as they were: Text answers what the document's own answer says, errors too. The condition: the package-level tables hold what the program's text lays (the card ties that).
-/
import Derived.Test.YtnddkmccagiclabGreatDoorZyi
import Derived.Test.YtnddkmccagiclabGreatDoorZyk
import Derived.Lib.LaidTab
import Derived.Stop.LaidErr
import Derived.LaidLaws
import Derived.ProofKit
import Derived.Deep.Slices
import Derived.Test.YtnddkmccagiclabGreatDoorCards
import Derived.Test.YtnddkmccagiclabGreatDoorTie
import Derived.ShutString
import Derived.ChangeOld
import Derived.Deep.DeepHandedRow
import Derived.Deep.DeepWitnessRowRef
set_option maxRecDepth 20000
set_option maxHeartbeats 16000000
open Go.RowKit Go.Proofs.Tryz
open Go.Proofs.Tryz renaming prog→A,results20→T,f10→Zb,func10→Zi,checked→Zm
open Go.Value renaming int→B,slice→K,tuple→Za,agg→Zd
open Go.IntKind renaming i64→D
open Option renaming none→E,some→G,map_eq_some_iff→Zg
open Bool renaming false→I,true→Y,and_eq_true→Z
open Go.World renaming holding→J,block_lt_of_cell?→Zf
open Go.Obj renaming cells→L
open Go renaming bodyPost_ret→M,cell_later→N,laidMet→X,World→Ze,Calls→Zh,Value→Zk
open Nat renaming le_refl→O
open Go.RowKit.Below renaming refl→Q
open Option.some renaming inj→S
open Go.Ending renaming returned→U
open List renaming map_cons→Zc,getElem?_eq_none→Zj
open Inhabited renaming default→Zl
namespace Go.Proofs.YtnddkmccagiclabGreatDoor
variable {r:List (String×DataW Unit)}{W:Ze}{g:Nat}
theorem Wg(x:TT)(f:Int)(w:Ze)(hx:x.In w)(a6:x.sz<=2000000)(a7:x.ok 100000000):
  Zh A 20 #[Zd #[B D x.k,B D x.n,B D x.t.k,K x.t.a x.t.l.length x.t.c,B D x.f.k,K x.f.a x.f.l.length x.f.c,K x.a x.l.length x.c],B D f] w (Js (Kc x.tm f) w):=by
 obtain⟨W1,j⟩:∃W,W=(w.alloc (L x.v 27)).alloc (L #[B D 0,B D 0,.bool I] 29):=⟨_,rfl⟩
 have a4:bL w W1:=by rw[j];exact((Q _ _).alloc (O _) _).alloc (by simp) _
 have a3:W1.heap.size=w.heap.size+1+1:=by rw[j];simp
 have z0:W1.cell? ⟨w.heap.size+1,0,E⟩=G (B D 0):=by rw[j];simp[go_sem]
 have z1:W1.cell? ⟨w.heap.size+1,1,E⟩=G (B D 0):=by rw[j];simp[go_sem]
 have z2:W1.cell? ⟨w.heap.size+1,2,E⟩=G (.bool I):=by rw[j];simp[go_sem]
 have zf:∀i,W1.frozen? ⟨w.heap.size+1,i,E⟩=I:=by intro i;rw[j];simp[go_sem]
 have HC:=Yy (QL x W1 (hx.below a4) a6 a7);have HZ:Hid (∀W,bL W1 W->cL W (w.heap.size+1) 0 (B D 0)/\cL W (w.heap.size+1) 1 (B D 0)/\cL W (w.heap.size+1) 2 (.bool I)/\W.frozen? ⟨w.heap.size+1,0,E⟩=I/\W.frozen? ⟨w.heap.size+1,1,E⟩=I/\W.frozen? ⟨w.heap.size+1,2,E⟩=I/\w.heap.size+1<W.heap.size/\bL w W):=fun W hW=>⟨N hW z0,N hW z1,N hW z2,(hW.frozen (p:=⟨w.heap.size+1,0,E⟩) (by rw[a3];show w.heap.size+1<_;omega)).trans (zf 0),(hW.frozen (p:=⟨w.heap.size+1,1,E⟩) (by rw[a3];show w.heap.size+1<_;omega)).trans (zf 1),(hW.frozen (p:=⟨w.heap.size+1,2,E⟩) (by rw[a3];show w.heap.size+1<_;omega)).trans (zf 2),by have:=hW.size;omega,a4.trans (hW.mono a4.size)⟩
 obtain⟨R,hR⟩:∃R,R=Kc x.tm f:=⟨_,rfl⟩
 rw[<-hR];have HR:=Yy hR;have HE:Hid (∀(o:XG)(er:Int)(W:Ze),R=(o,er)->bL w W->Js R w (U (Za #[Zd #[B D o.k,B D o.n,.bool o.b],B D er])) (((W.setCell ⟨w.heap.size+1,0,E⟩ (B D o.k)).setCell ⟨w.heap.size+1,1,E⟩ (B D o.n)).setCell ⟨w.heap.size+1,2,E⟩ (.bool o.b))):=fun o er W h1 h2=>by rw[h1];exact⟨rfl,((h2.setCell (by simp) _).setCell (by simp) _).setCell (by simp) _⟩
 clear hR a4 a3 z0 z1 z2 zf hx a6 a7;go_enter func20,ntmps20;go_wp2_with fail;rw[<-j];clear j;refine HC.out.mono ?_;rintro e m ⟨d,⟨c,rfl⟩|⟨c,k,rfl⟩|⟨c,y,i,k,rfl,a2,a5,a0⟩⟩
 .have g:Hid (R=(Yn,1)):=by rw[HR.out];unfold Kc;rw[if_neg (by rw[c];simp)];rfl
  obtain⟨b,a⟩:∃b,b=(m.alloc (L #[B D 0,B D 0,B D 0,K E 0 0,B D 0,K E 0 0,K E 0 0] 27)).alloc (L #[B D 0,K E 0 0] 24):=⟨_,rfl⟩
  have q:bL W1 b:=d.trans ((show bL m b by rw[a];exact((Q _ _).alloc (O _) _).alloc (by simp) _).mono d.size);obtain⟨r0,r1,r2,f0,f1,f2,rl,l⟩:=HZ.out b q;have HB:=Yy l;clear q l c d HC HZ;go_upto_region 2 with fail;rw[<-a];clear a;go_wp2_with fail;obtain⟨q0,q1,q2⟩:=Y6 (u:=B D 0) (v:=B D 0) (z:=.bool I) r0 r1 r2;exact M (v:=Za #[Zd #[B D 0,B D 0,.bool I],B D 1]) (by simp[results,T,go_sem,q0,q1,q2]) rfl (HE.out Yn 1 b g.out HB.out)
 .have g:Hid (R=(Yn,2)):=by rw[HR.out];unfold Kc;rw[if_pos c,k];rfl
  obtain⟨b,a⟩:∃b,b=(m.alloc (L #[B D 0,B D 0,B D 0,K E 0 0,B D 0,K E 0 0,K E 0 0] 27)).alloc (L #[B D 0,K E 0 0] 24):=⟨_,rfl⟩
  have q:bL W1 b:=d.trans ((show bL m b by rw[a];exact((Q _ _).alloc (O _) _).alloc (by simp) _).mono d.size);obtain⟨r0,r1,r2,f0,f1,f2,rl,l⟩:=HZ.out b q;have HB:=Yy l;clear q l c k d HC HZ;go_upto_region 2 with fail;rw[<-a];clear a;go_wp2_with fail;obtain⟨q0,q1,q2⟩:=Y6 (u:=B D 0) (v:=B D 0) (z:=.bool I) r0 r1 r2;exact M (v:=Za #[Zd #[B D 0,B D 0,.bool I],B D 2]) (by simp[results,T,go_sem,q0,q1,q2]) rfl (HE.out Yn 2 b g.out HB.out)
 .obtain⟨sy,zy,hty⟩:=On c k;have g:Hid (R=(if f<0\/100<f then (Yn,3) else (UY y.tm f.toNat,0))):=by rw[HR.out];unfold Kc;rw[if_pos c,k];exact rfl
  obtain⟨b,a⟩:∃b,b=(m.alloc (L y.v 27)).alloc (L i.v 24):=⟨_,rfl⟩
  have a1:bL m b:=by rw[a];exact((Q _ _).alloc (O _) _).alloc (by simp) _
  have q:=d.trans (a1.mono d.size);have p0:b.cell? ⟨m.heap.size,0,E⟩=G (B D y.k):=by rw[a];simp[go_sem]
  have p1:b.cell? ⟨m.heap.size,1,E⟩=G (B D y.n):=by rw[a];simp[go_sem]
  have p2:b.cell? ⟨m.heap.size,2,E⟩=G (B D y.t.k):=by rw[a];simp[go_sem]
  have p3:b.cell? ⟨m.heap.size,3,E⟩=G (K y.t.a y.t.l.length y.t.c):=by rw[a];simp[go_sem]
  have p4:b.cell? ⟨m.heap.size,4,E⟩=G (B D y.f.k):=by rw[a];simp[go_sem]
  have p5:b.cell? ⟨m.heap.size,5,E⟩=G (K y.f.a y.f.l.length y.f.c):=by rw[a];simp[go_sem]
  have p6:b.cell? ⟨m.heap.size,6,E⟩=G (K y.a y.l.length y.c):=by rw[a];simp[go_sem]
  have a9:m.heap.size<b.heap.size:=Zf _ _ p0;by_cases hf0:f<0
  .have HR2:Hid (R=(Yn,3)):=by rw[g.out,if_pos (by omega)];rfl
   obtain⟨r0,r1,r2,f0,f1,f2,rl,l⟩:=HZ.out b q;have HB:=Yy l;clear q a1 c k d HC a2 a5 a0 sy zy hty l HZ g;go_upto_region 2 with fail;rw[<-a];clear a;go_wp2_with fail;obtain⟨q0,q1,q2⟩:=Y6 (u:=B D 0) (v:=B D 0) (z:=.bool I) r0 r1 r2;exact M (v:=Za #[Zd #[B D 0,B D 0,.bool I],B D 3]) (by simp[results,T,go_sem,q0,q1,q2]) rfl (HE.out Yn 3 b HR2.out HB.out)
  by_cases hf1:100<f
  .have HR2:Hid (R=(Yn,3)):=by rw[g.out,if_pos (by omega)];rfl
   obtain⟨r0,r1,r2,f0,f1,f2,rl,l⟩:=HZ.out b q;have HB:=Yy l;clear q a1 c k d HC a2 a5 a0 sy zy hty l HZ g;go_upto_region 2 with fail;rw[<-a];clear a;go_wp2_with fail;obtain⟨q0,q1,q2⟩:=Y6 (u:=B D 0) (v:=B D 0) (z:=.bool I) r0 r1 r2;exact M (v:=Za #[Zd #[B D 0,B D 0,.bool I],B D 3]) (by simp[results,T,go_sem,q0,q1,q2]) rfl (HE.out Yn 3 b HR2.out HB.out)
  .have HR2:Hid (R=(UY y.tm f.toNat,0)):=by rw[g.out,if_neg (by omega)];rfl
   have HO:Hid (Zh A 36 #[Zd y.v,B D f] b fun e w'=>e=U (Zd #[B D (UY y.tm f.toNat).k,B D (UY y.tm f.toNat).n,.bool (UY y.tm f.toNat).b])/\bL W1 w'):=by
    have e:((f.toNat:Nat):Int)=f:=by omega
    have h1:=Wh Y y i.ty f.toNat b (by omega) (a2.below a1) ⟨sy,fun h=>by cases h⟩ zy (fun _=>hty);rw[e] at h1;refine h1.mono ?_;rintro e w' ⟨he,hb⟩;exact⟨he,q.trans (hb.mono q.size)⟩
   obtain⟨r,hr⟩:∃r,r=UY y.tm f.toNat:=⟨_,rfl⟩
   rw[<-hr] at HO HR2;clear q a1 c k d HC a2 a5 a0 sy zy hty hr g;go_upto_region 2 with fail;rw[<-a];clear a;go_wp2_with fail;refine HO.out.mono ?_;rintro e w4 ⟨rfl,a8⟩;obtain⟨r0,r1,r2,f0,f1,f2,rl,l⟩:=HZ.out w4 a8;have HB:=Yy l;clear a8 l HZ p0 p1 p2 p3 p4 p5 p6;go_wp2_with fail;obtain⟨q0,q1,q2⟩:=Y6 (u:=B D r.k) (v:=B D r.n) (z:=.bool r.b) r0 r1 r2;exact M (v:=Za #[Zd #[B D r.k,B D r.n,.bool r.b],B D 0]) (by simp[results,T,go_sem,q0,q1,q2]) rfl (HE.out r 0 w4 HR2.out HB.out)
theorem Dq:∀(x:Tm)(ins:Nat),J8 x ins->ins+x.sz<=900->CQ 100000000 x:=by
 intro x;induction x using Tm.ind with
 |h k n t f l ih=>
  intro ins d hz;obtain⟨b,p⟩:=Kf.1 d;obtain⟨q,w,r,g,i,o,j⟩:=JF b;have a:Xx 0 (ins:Int) k n=Y:=by simp only[U3,Z] at b;exact b.2.2
  rw[Tm.lm] at hz;obtain⟨y,z,u⟩:=NF a (by omega);have m:=P8 4 t i;have e:f.sz<=100000000:=by rw[P5 g];simp[Yk,Ty.lm]
  refine RZ.2 ⟨⟨La k (by omega),La n (by omega),by omega,e,?_⟩,fun x c=>?_⟩
  .have:=PI k;omega
  .have hs:=JE l x c;refine ih x c _ (p x c) ?_;split<;>omega
theorem Bh{s:List UInt8}{x:TT}(h:XE s=G x.tm):x.ok 100000000/\x.sz<=2000000:=by
 have a:UC 0 x.tm=Y:=by
  unfold XE at h;split at h
  .split at h
   .rename_i a;rw[S h] at a;exact a
   .cases h
  .cases h
 obtain⟨b,c⟩:=Mn a;refine⟨E3 x (Dq x.tm 0 b (by omega)),?_⟩;rw[TT.me];omega
theorem Tt(s:ByteArray)(f:Int)(w:Ze)(hg:Ta w):Zh A 24 #[.string s,B D f] w (Js (Lf s f) w):=by
 obtain⟨W1,b⟩:∃W,W=w.alloc (L #[B D 0,B D 0,.bool I] 29):=⟨_,rfl⟩
 have d:bL w W1:=by rw[b];exact(Q _ _).alloc (O _) _
 have m:W1.heap.size=w.heap.size+1:=by rw[b];simp
 have z0:W1.cell? ⟨w.heap.size,0,E⟩=G (B D 0):=by rw[b];simp[go_sem]
 have z1:W1.cell? ⟨w.heap.size,1,E⟩=G (B D 0):=by rw[b];simp[go_sem]
 have z2:W1.cell? ⟨w.heap.size,2,E⟩=G (.bool I):=by rw[b];simp[go_sem]
 have zf:∀i,W1.frozen? ⟨w.heap.size,i,E⟩=I:=by intro i;rw[b];simp[go_sem]
 have HC:=Yy (QE s W1 (hg.below d));have HZ:Hid (∀W,bL W1 W->cL W w.heap.size 0 (B D 0)/\cL W w.heap.size 1 (B D 0)/\cL W w.heap.size 2 (.bool I)/\W.frozen? ⟨w.heap.size,0,E⟩=I/\W.frozen? ⟨w.heap.size,1,E⟩=I/\W.frozen? ⟨w.heap.size,2,E⟩=I/\w.heap.size<W.heap.size/\bL w W/\Ta W):=fun W l=>⟨N l z0,N l z1,N l z2,(l.frozen (p:=⟨w.heap.size,0,E⟩) (by rw[m];show w.heap.size<_;omega)).trans (zf 0),(l.frozen (p:=⟨w.heap.size,1,E⟩) (by rw[m];show w.heap.size<_;omega)).trans (zf 1),(l.frozen (p:=⟨w.heap.size,2,E⟩) (by rw[m];show w.heap.size<_;omega)).trans (zf 2),by have:=l.size;omega,d.trans (l.mono d.size),hg.below (d.trans (l.mono d.size))⟩
 obtain⟨R,hR⟩:∃R,R=Lf s f:=⟨_,rfl⟩
 rw[<-hR];have HR:=Yy hR;have HE:Hid (∀(o:XG)(k:Int)(W:Ze),R=(o,k)->bL w W->Js R w (U (Za #[Zd #[B D o.k,B D o.n,.bool o.b],B D k])) (((W.setCell ⟨w.heap.size,0,E⟩ (B D o.k)).setCell ⟨w.heap.size,1,E⟩ (B D o.n)).setCell ⟨w.heap.size,2,E⟩ (.bool o.b))):=fun o k W h1 h2=>by rw[h1];exact⟨rfl,((h2.setCell (by simp) _).setCell (by simp) _).setCell (by simp) _⟩
 clear hR d m z0 z1 z2 zf hg;go_enter func24,ntmps24;go_wp2_with fail;rw[<-b];clear b;refine HC.out.mono ?_;rintro e j ⟨x,k,rfl,a0⟩;obtain⟨a2,y,g⟩:=a0.out;clear a0;have a5:(k=0/\Hid (R=Kc x.tm f/\x.ok 100000000/\x.sz<=2000000))\/((k != 0)=Y/\Hid (R=(Yn,k))):=by
  rcases g with⟨h1,rfl,_⟩|⟨h1,h2,rfl,_⟩|⟨h1,h2,rfl⟩
  .refine .inr ⟨rfl,?_⟩;rw[HR.out];unfold Lf;rw[if_pos h1];exact rfl
  .refine .inr ⟨rfl,?_⟩;rw[HR.out];unfold Lf;rw[if_neg (by omega),h2];exact rfl
  .refine .inl ⟨rfl,?_,Bh h2⟩;rw[HR.out];unfold Lf;rw[if_neg (by omega),h2]
 obtain⟨c,a⟩:∃c,c=j.alloc (L x.v 27):=⟨_,rfl⟩
 have q:bL j c:=by rw[a];exact(Q _ _).alloc (O _) _
 have hA:=y.trans (q.mono y.size);have p0:c.cell? ⟨j.heap.size,0,E⟩=G (B D x.k):=by rw[a];simp[go_sem]
 have p1:c.cell? ⟨j.heap.size,1,E⟩=G (B D x.n):=by rw[a];simp[go_sem]
 have p2:c.cell? ⟨j.heap.size,2,E⟩=G (B D x.t.k):=by rw[a];simp[go_sem]
 have p3:c.cell? ⟨j.heap.size,3,E⟩=G (K x.t.a x.t.l.length x.t.c):=by rw[a];simp[go_sem]
 have p4:c.cell? ⟨j.heap.size,4,E⟩=G (B D x.f.k):=by rw[a];simp[go_sem]
 have p5:c.cell? ⟨j.heap.size,5,E⟩=G (K x.f.a x.f.l.length x.f.c):=by rw[a];simp[go_sem]
 have p6:c.cell? ⟨j.heap.size,6,E⟩=G (K x.a x.l.length x.c):=by rw[a];simp[go_sem]
 have a7:j.heap.size<c.heap.size:=Zf _ _ p0;obtain⟨r0,r1,r2,f0,f1,f2,rl,hB,a4⟩:=HZ.out c hA;have HO:Hid (x.ok 100000000/\x.sz<=2000000->Zh A 20 #[Zd x.v,B D f] c fun e w'=>e=U (Za #[Zd #[B D (Kc x.tm f).1.k,B D (Kc x.tm f).1.n,.bool (Kc x.tm f).1.b],B D (Kc x.tm f).2])/\bL W1 w'):=by intro a1;refine(Wg x f c (a2.below q) a1.2 a1.1).mono ?_;rintro e w' ⟨he,hb⟩;exact⟨he,hA.trans (hb.mono hA.size)⟩
 have HB:=Yy hB;clear hA q y HC a2 hB a4 g HR;rcases a5 with⟨rfl,h⟩|⟨he,h⟩
 .obtain⟨r,hr⟩:∃r,r=Kc x.tm f:=⟨_,rfl⟩
  rw[<-hr] at HO h;clear hr r0 r1 r2 f0 f1 f2 rl;go_upto_region 2 with fail;rw[<-a];clear a;go_wp2_with fail;refine(HO.out h.out.2).mono ?_;rintro e w4 ⟨rfl,a3⟩;obtain⟨r0,r1,r2,f0,f1,f2,rl,hB,_⟩:=HZ.out w4 a3;have a6:=Yy hB;clear a3 hB HZ p0 p1 p2 p3 p4 p5 p6;go_wp2_with fail;obtain⟨q0,q1,q2⟩:=Y6 (u:=B D r.1.k) (v:=B D r.1.n) (z:=.bool r.1.b) r0 r1 r2;exact M (v:=Za #[Zd #[B D r.1.k,B D r.1.n,.bool r.1.b],B D r.2]) (by simp[results,results24,go_sem,q0,q1,q2]) rfl (HE.out r.1 r.2 w4 h.out.1 a6.out)
 .clear HO HZ p0 p1 p2 p3 p4 p5 p6;go_upto_region 2 with fail;rw[<-a];clear a;go_wp2_with fail;obtain⟨q0,q1,q2⟩:=Y6 (u:=B D 0) (v:=B D 0) (z:=.bool I) r0 r1 r2;exact M (v:=Za #[Zd #[B D 0,B D 0,.bool I],B D k]) (by simp[results,results24,go_sem,q0,q1,q2]) rfl (HE.out Yn k c h.out HB.out)
theorem Ct(w:Ze)(b:Gl w):Zh A 23 #[] w fun e w'=>e=U (.bool Y)/\Below w.heap.size w w':=by
 have a:Hid (Zh A 17 #[.string aS,B D 5] w fun e w'=>e=U (Za #[Zd #[B D 1,B D 7,.bool I],B D 0])/\bL w w'):=by have:=Pp aS (by show 38<=9223372036854775807;omega) 5 w b;rw[ES] at this;exact this
 unfold aS at a;clear b;go_enter func23,ntmps23;go_wp2_with fail;refine a.out.mono ?_;rintro e g ⟨rfl,c⟩;have d:=Yy c;clear c a;go_wp2_with fail;go_ret;exact⟨rfl,d.out.alloc d.out.size _⟩
theorem RM(s:ByteArray)(hm:s.size<=9223372036854775807)(f:Int)(w:Ze)(hg:Gl w)(a3:Ta w):Zh A 10 #[.string s,B D f] w fun e w'=>e=U (.bool Y)/\Below w.heap.size w w':=by
 obtain⟨P,hP⟩:∃P,Lf s f=P:=⟨_,rfl⟩
 have q:Hid (Zh A 17 #[.string s,B D f] w (Js P w)):=by have:=Pp s hm f w hg;rw[hP] at this;exact this
 have x:Hid (∀W,bL w W->Zh A 24 #[.string s,B D f] W (Js P W)):=fun W k=>by have:=Tt s f W (a3.below k);rw[hP] at this;exact this
 have u:Hid (∀W,bL w W->Zh A 23 #[] W fun e w'=>e=U (.bool Y)/\bL W w'):=fun W k=>Ct W (hg.below k);clear hm hg a3 hP;go_enter Zi,ntmps10;go_wp2_with fail;refine q.out.mono ?_;rintro e h ⟨rfl,m⟩;obtain⟨p,a⟩:∃V,V=h.alloc (L #[B D P.1.k,B D P.1.n,.bool P.1.b] 29):=⟨_,rfl⟩
 have j:bL h p:=by rw[a];exact(Q _ _).alloc (O _) _
 have d:=Yy (m.trans (j.mono m.size));have y:Hid (∀W,bL p W->cL W h.heap.size 0 (B D P.1.k)/\cL W h.heap.size 1 (B D P.1.n)/\cL W h.heap.size 2 (.bool P.1.b)):=fun W k=>by
  have q0:p.cell? ⟨h.heap.size,0,E⟩=G (B D P.1.k):=by rw[a];simp[go_sem]
  have q1:p.cell? ⟨h.heap.size,1,E⟩=G (B D P.1.n):=by rw[a];simp[go_sem]
  have q2:p.cell? ⟨h.heap.size,2,E⟩=G (.bool P.1.b):=by rw[a];simp[go_sem]
  exact⟨N k q0,N k q1,N k q2⟩
 clear m j q;go_upto_region 2 with fail;rw[<-a];clear a;go_wp2_with fail;refine(x.out p d.out).mono ?_;rintro e r ⟨rfl,l⟩;obtain⟨o,b⟩:∃V,V=r.alloc (L #[B D P.1.k,B D P.1.n,.bool P.1.b] 29):=⟨_,rfl⟩
 have i:bL r o:=by rw[b];exact(Q _ _).alloc (O _) _
 have c:=Yy (l.trans (i.mono l.size));have g:=Yy (d.out.trans (c.out.mono d.out.size));obtain⟨a0,a1,a2⟩:=y.out o c.out;have d0:o.cell? ⟨r.heap.size,0,E⟩=G (B D P.1.k):=by rw[b];simp[go_sem]
 have d1:o.cell? ⟨r.heap.size,1,E⟩=G (B D P.1.n):=by rw[b];simp[go_sem]
 have d2:o.cell? ⟨r.heap.size,2,E⟩=G (.bool P.1.b):=by rw[b];simp[go_sem]
 clear l i x y c d;go_upto_region 3 with fail;rw[<-b];clear b;go_wp2_with fail;refine(u.out o g.out).mono ?_;rintro e w8 ⟨rfl,z⟩;have a4:=Yy (g.out.trans (z.mono g.out.size));clear z u g a0 a1 a2 d0 d1 d2;go_wp2_with fail;refine M (v:=.bool Y) ?_ rfl ⟨rfl,a4.out⟩;simp[results,results10,go_sem]
section
open Go.ChangeShapes Go.RowKit
theorem Km{n:String}{d:DataW Unit}{t:Nat}(h:X A ((n,d)::r) W)(e:A.globalNamed n=G g)(i:(A.globals[g]?).map (·.type)=G t):
  ∃(cs:Array Zk)(fuel:Nat)(p:List MemPlace),Vc W g cs/\DataW.trod (fun _=>()) A W 0 (fun _=>Y) I fuel t cs.toList=G (d,p):=by
 obtain⟨ps,⟨k,j,cs,fuel,p,q,c,b,a,hd,_,_⟩,_⟩:=h;obtain rfl:=S (e.symm.trans c);obtain rfl:=S (i.symm.trans b);refine⟨cs,fuel,p,?_,hd⟩;unfold World.var? at a;rw[e] at a;simp only[Option.bind_some] at a;split at a
 .rename_i cs' t fr hh;cases a
  exact⟨t,fr,hh⟩
 .cases a
theorem K3{W:Ze}{fuel t n:Nat}{cs:List Zk}{ss:List (List UInt8)}{p:List MemPlace}
  (ht:A.underlying t=G (.array n 9)) (hct:A.cellsOf t=n)
  (h:DataW.trod (fun _=>()) A W 0 (fun _=>Y) I fuel t cs=G (.agg (ss.map fun s=>.lit (.string s)),p)):cs=ss.map fun s=>Value.string ⟨s.toArray⟩:=by
 have c:A.cellsOf 9=1:=by kernel_rfl
 cases fuel with
 |zero=>simp[DataW.trod] at h
 |succ fuel=>
  simp only[DataW.trod,ht,c,hct,Nat.mul_one] at h;split at h
  .rename_i hl;obtain⟨j,k,r⟩:=Zg.1 h;have a:j.map (·.1)=ss.map fun s=>(DataW.lit (.string s):DataW Unit):=by have:=congrArg Prod.fst r;simpa using this
   have l:j.length=n:=by simpa using Lib.mapM_length k
   have o:ss.length=n:=by have:=congrArg List.length a;simp at this;omega
   apply List.ext_getElem?;intro i;by_cases hi:i<n
   .obtain⟨b,hb,hf⟩:=Lib.mapM_at k i i (by simp[hi]);obtain⟨s,q,rfl,_⟩:=DataW.trod_string Tryz.underlying9 hf;have m:cs[i]?=G (.string s):=by have:=congrArg (·[0]?) q;simpa[List.getElem?_take,List.getElem?_drop] using this
    have d:(j.map (·.1))[i]?=G (DataW.lit (.string s.data.toList):DataW Unit):=by simp[hb]
    rw[a] at d;simp only[List.getElem?_map,Zg,DataW.lit.injEq,Lit.string.injEq] at d;obtain⟨s',g,e⟩:=d;simp only[List.getElem?_map,g,Option.map_some,m,e]
   .rw[Zj (by omega),Zj (by simp;omega)]
  .cases h
theorem EO:A.cellsOf 84=2:=by kernel_rfl
theorem EN:A.cellsOf 180=10:=by kernel_rfl
theorem DY:A.cellsOf 145=10:=by kernel_rfl
theorem DX:A.cellsOf 209=3:=by kernel_rfl
theorem DV:A.cellsOf 265=20:=by kernel_rfl
theorem EP:A.cellsOf 3=1:=by kernel_rfl
theorem DW:A.cellsOf 233=1:=by kernel_rfl
theorem Mz{cs:Array Zk}{l:List Zk}(h:Vc W g cs)(e:cs.toList=l):Vc W g l.toArray:=by rw[<-e];exact h
theorem Dv(h:X A (("chaperone/term.parts",Rows.laid_chaperone_term_parts)::r) W):
  Vc W 0 #[B D 0,B D 0,B D 0,B D 0,B D 2,B D 2,B D 3,B D 1,B D 2,B D 1]:=by
 obtain⟨cs,a,p,c,b⟩:=Km h (g:=0) (t:=145) (by kernel_rfl) (by kernel_rfl);exact Mz c (Lib.cells_of_tab (zs:=[0,0,0,0,2,2,3,1,2,1]) underlying145 underlying3 EP DY b)
theorem Du(h:X A (("chaperone/term.truthWords",Rows.laid_chaperone_term_truthWords)::r) W):
  Vc W 1 #[.string ⟨#[110,111]⟩,.string ⟨#[121,101,115]⟩]:=by
 obtain⟨cs,a,p,c,b⟩:=Km h (g:=1) (t:=84) (by kernel_rfl) (by kernel_rfl);exact Mz c (K3 (ss:=[[110,111],[121,101,115]]) underlying84 EO b)
theorem Ds(h:X A (("chaperone/term.words",Rows.laid_chaperone_term_words)::r) W):
  Vc W 2 #[.string ⟨#[]⟩,.string ⟨#[]⟩,.string ⟨#[]⟩,.string ⟨#[]⟩,.string ⟨#[97,100,100]⟩,.string ⟨#[108,101,115,115]⟩,.string ⟨#[105,102]⟩,.string ⟨#[102,117,110]⟩,.string ⟨#[99,97,108,108]⟩,.string ⟨#[97,115]⟩]:=by
 obtain⟨cs,a,p,c,b⟩:=Km h (g:=2) (t:=180) (by kernel_rfl) (by kernel_rfl);exact Mz c (K3 (ss:=[[],[],[],[],[97,100,100],[108,101,115,115],[105,102],[102,117,110],[99,97,108,108],[97,115]]) underlying180 EN b)
theorem Dt(h:X A (("chaperone/term.typeWords",Rows.laid_chaperone_term_typeWords)::r) W):
  Vc W 4 #[.string ⟨#[97,110,121]⟩,.string ⟨#[110,117,109]⟩,.string ⟨#[116,114,117,116,104]⟩]:=by
 obtain⟨cs,a,p,c,b⟩:=Km h (g:=4) (t:=209) (by kernel_rfl) (by kernel_rfl);exact Mz c (K3 (ss:=[[97,110,121],[110,117,109],[116,114,117,116,104]]) underlying209 DX b)
theorem Fi(h:X A (("internal/strconv.uint64pow10",Rows.laid_internal_strconv_uint64pow10)::r) W):
  Vc W 11 (Lib.pow10Tab.map fun z=>Value.int .u64 z).toArray:=by
 obtain⟨cs,a,p,c,b⟩:=Km h (g:=11) (t:=265) (by kernel_rfl) (by kernel_rfl);exact Mz c (Lib.cells_of_tab (zs:=Lib.pow10Tab) underlying265 underlying233 DW DV b)
theorem Dw{n nm:String}{d:DataW Unit}(h:X A ((n,.iface nm d)::r) W)(c:A.globalNamed n=G g)(e:(A.globals[g]?).map (·.type)=G 153):∃te pe,Vc W g #[.iface te pe]:=by obtain⟨cs,a,p,b,hd⟩:=Km h c e;obtain⟨_,u,v,i,_⟩:=iface_of_trod underlying153 hd;exact⟨u,v,Mz b i⟩
theorem Fj(h:W.ShapedOpen A):∃m,Vc W 6 #[B D m]:=by
 obtain⟨m,d⟩:=Tryz.laysM155.s1_3 W h;have a:W.cell? ⟨6,0,E⟩=G (B D m):=d;obtain⟨cs,c,g,_⟩:=h.1 6 #[B D 0] 3 (by show 6<15;omega) (by kernel_rfl);refine⟨m,?_⟩;have b:cs.size=1:=g;have j:W.cell? ⟨6,0,E⟩=cs[0]?:=cell_of_row W 6 0 cs _ _ c;rw[j] at a;have e:cs=#[B D m]:=by
  apply Array.ext
  .simpa using b
  .intro i h1 h2;obtain rfl:i=0:=by omega
   have:=Array.getElem?_eq_some_iff.1 a;simpa using this.2
 rw[<-e];exact⟨_,_,c⟩
set_option maxRecDepth 100000 in
theorem BE(k:X A [("math/bits.deBruijn32tab",Rows.laid_math_bits_deBruijn32tab),("math/bits.deBruijn64tab",Rows.laid_math_bits_deBruijn64tab),("internal/strconv.uint64pow10",Rows.laid_internal_strconv_uint64pow10),("unicode/utf8.acceptRanges",Rows.laid_unicode_utf8_acceptRanges),("strconv.ErrRange",Rows.laid_strconv_ErrRange),("strconv.ErrSyntax",Rows.laid_strconv_ErrSyntax),("unicode.White_Space",Rows.laid_unicode_White_Space),("strings.asciiSpace",Rows.laid_strings_asciiSpace),("chaperone/term.words",Rows.laid_chaperone_term_words),("chaperone/term.truthWords",Rows.laid_chaperone_term_truthWords),("chaperone/term.typeWords",Rows.laid_chaperone_term_typeWords),("chaperone/term.parts",Rows.laid_chaperone_term_parts),("unicode/utf8.first",Rows.laid_unicode_utf8_first)] W)(m:W.ShapedOpen A):Gl W/\Ta W:=by have d:=k.tail.tail;have b:=d.tail.tail;have i:=b.tail;have j:=i.tail.tail;have c:=j.tail;have h:=c.tail;have a:=h.tail;have l:=a.tail;exact⟨⟨Du h,Ds c,Dv l,Dt a,Fi d,Fj m,Dw i (by kernel_rfl) (by kernel_rfl),Dw b (by kernel_rfl) (by kernel_rfl)⟩, Lib.tabIs_of_head (g:=3) (t:=194) (e:=5) (n:=256) (zs:=Lib.asciiSpaceTab) (by kernel_rfl) (by kernel_rfl) (by kernel_rfl) (by kernel_rfl) (by kernel_rfl) (by kernel_rfl) j⟩
end
def Wn:List Nat->Bool
 |a::b::r=>decide (a<b)&&Wn (b::r)
 |_=>Y
theorem TD{α:Type}(key:α->Nat):∀(l:List α)(a:α),Wn ((a::l).map key)=Y->∀b,b∈l->key a<key b
 |[],_,_,b,h=>by cases h
 |c::l,a,h,b,hb=>by
  simp only[Zc,Wn,Z,decide_eq_true_eq] at h;have h2:Wn ((c::l).map key)=Y:=by simpa only[Zc] using h.2
  rcases List.mem_cons.1 hb with rfl|hb
  .exact h.1
  .have:=TD key l c h2 b hb;omega
theorem Ri{α:Type}(key:α->Nat):∀l:List α,Wn (l.map key)=Y->l.Nodup
 |[],_=>List.nodup_nil
 |a::l,h=>by
  refine List.nodup_cons.2 ⟨fun hm=>?_,Ri key l ?_⟩
  .have:=TD key l a h a hm;omega
  .cases l with
   |nil=>rfl
   |cons b l=>simp only[Zc,Wn,Z] at h;simpa only[Zc] using h.2
def FO(bs:List Nat):MemPlace->Nat
 |.cell b off=>bs.idxOf b*1000+off
 |.map _=>0
theorem PW{P:Program}{w:Ze}{l:List (String×DataW Unit)}(fuel:Nat)(bs:List Nat)(h:(DataW.laidRun P w fuel (l.map (·.1))).map (·.1)=G l)
  (hr:(DataW.laidRun P w fuel (l.map (·.1))).map (fun x=>Wn (x.2.map (FO bs))&&laidRowsB P w x.2)=G Y):X P l w:=by
 cases hx:DataW.laidRun P w fuel (l.map (·.1)) with
 |none=>simp[hx] at h
 |some x=>obtain⟨l',ps⟩:=x;simp only[hx,Option.map_some,Option.some.injEq] at h hr;subst h;simp only[Z] at hr;exact laidMet_of_run fuel hx (decide_eq_true (Ri _ _ hr.1)) hr.2
section
open Go.ChangeShapes Go.WideShapes Go.ChangeAt Go.RowKit
theorem RK:ownKnob A.godebug=E:=by kernel_rfl
theorem Lj:laidOutB A=Y:=by kernel_rfl
def Xb:Nat->DataW Unit->List Zk
 |0,_=>[]
 |n+1,.agg l=>l.flatMap fun d=>Xb n d
 |_+1,.lit (.int k z)=>[.int k z]
 |_+1,.lit (.string s)=>[.string ⟨s.toArray⟩]
 |_+1,_=>[]
def Y4(g:Nat)(cs:List Zk)(h:Array Obj):Array Obj:=h.modify g fun
 |L _ t fr=>L cs.toArray t fr
 |o=>o
def OV(low:Nat)(h:Array Obj):Array Obj:=Y4 5 [.pointer (G ⟨low+3,0,E⟩)] (Y4 9 [.iface 261 (.pointer (G ⟨low,0,E⟩))] (Y4 10 [.iface 261 (.pointer (G ⟨low+1,0,E⟩))] (Y4 3 (Xb 3 Rows.laid_strings_asciiSpace) (Y4 1 (Xb 3 Rows.laid_chaperone_term_truthWords) (Y4 2 (Xb 3 Rows.laid_chaperone_term_words) (Y4 0 (Xb 3 Rows.laid_chaperone_term_parts) (Y4 4 (Xb 3 Rows.laid_chaperone_term_typeWords) (Y4 11 (Xb 3 Rows.laid_internal_strconv_uint64pow10) (Y4 7 (Xb 3 Rows.laid_unicode_utf8_first) (Y4 8 (Xb 3 Rows.laid_unicode_utf8_acceptRanges) (Y4 12 (Xb 3 Rows.laid_math_bits_deBruijn32tab) (Y4 13 (Xb 3 Rows.laid_math_bits_deBruijn64tab) h))))))))))))
def KY(low:Nat)(w:Ze):Ze:={ w with heap:=OV low w.heap }
def KV:Obj:=L #[.string ⟨#[105,110,118,97,108,105,100,32,115,121,110,116,97,120]⟩] 263
def KW:Obj:=L #[.string ⟨#[118,97,108,117,101,32,111,117,116,32,111,102,32,114,97,110,103,101]⟩] 263
def KX:Obj:=L #[B .u16 9,B .u16 13,B .u16 1,B .u16 32,B .u16 133,B .u16 101,B .u16 160,B .u16 5760,B .u16 5600,B .u16 8192,B .u16 8202,B .u16 1,B .u16 8232,B .u16 8233,B .u16 1,B .u16 8239,B .u16 8287,B .u16 48,B .u16 12288,B .u16 12288,B .u16 1] 251
def KU(low:Nat):Obj:=L #[K (G ⟨low+2,0,E⟩) 7 7,K E 0 0,B D 2] 248
def JO:Array Zk:=#[.string ⟨#[]⟩,B D 0]
set_option maxRecDepth 100000 in
theorem Qy(os:Os):X A Rows.runTextsRow.laid ((KY (J A Zl ⟨#[],#[],[]⟩).heap.size (J A os ⟨#[KV,KW,KX,KU (J A Zl ⟨#[],#[],[]⟩).heap.size],#[],[]⟩)).forCall (fun _ _=>0) ⟨#[],JO,[]⟩).memory:=PW 8 [12,13,11,8,10,21,9,20,5,23,22,3,2,1,4,0,7] (by kernel_rfl) (by kernel_rfl)
set_option maxRecDepth 100000 in
theorem Px(os:Os){H:Type}(enc:TypeId×Zk->H):∃places,DataW.whole enc A ((KY (J A Zl ⟨#[],#[],[]⟩).heap.size (J A os ⟨#[KV,KW,KX,KU (J A Zl ⟨#[],#[],[]⟩).heap.size],#[],[]⟩)).forCall (fun _ _=>0) ⟨#[],JO,[]⟩).memory Zb.params.toList Rows.runTextsSpec.vars I JO.toList 8 =
  G ([.lit (.string []),.lit (.int .i64 0)],[],places):=
 ⟨[],by kernel_rfl⟩
set_option maxRecDepth 100000 in
theorem OU(g:Os)(b:g.Started)(H:Type)(enc:TypeId×Zk->H)(F:Stop.Interp):
  ReturnsInHanded {} Zm g 10 .any ((OpenSpec.ofChange Rows.runTextsSpec).preRow enc A Zb Rows.runTextsRow.domain I Rows.runTextsRow.laid) (((OpenSpec.ofChange Rows.runTextsSpec).at F).post enc A Zb I Y I I):=by
 obtain⟨r,hx⟩:=Px g enc;refine returnsInHanded_of_row (C:=Zm) (s:=OpenSpec.ofChange Rows.runTextsSpec) RK b (by kernel_rfl) Zi (witness_row_atRef (enc:=enc) (C:=Zm) I (KY (J A Zl ⟨#[],#[],[]⟩).heap.size (J A g ⟨#[KV,KW,KX,KU (J A Zl ⟨#[],#[],[]⟩).heap.size],#[],[]⟩)) JO rfl (by kernel_rfl) (by kernel_rfl) (by kernel_rfl) (OpenSpec.preRow_of_cond 8 hx (by kernel_rfl) (fun k hk=>by cases hk) (by kernel_rfl) (Qy g))) ?_
 intro W base a ds gs o d hW _ hk a6 hL a1 _;have c:∀(j:Nat)t v,Zb.params[j]?=G t->a[j]?=G v->Value.okWide A W .any base t v:=d;have y:=hW;obtain⟨p,q,i,hV,rfl,a9,a7⟩:=hW;have hA:DataW.TrodAll enc A W 0 (fun _=>Y) Y Zb.params.toList a.toList ds p:=i;rw[Tryz.params10] at hA c;obtain⟨v0,a8,d0,a4,p0,q0,w,rfl,rfl,h0,r0⟩:=trodAll_cons hA;obtain⟨v1,a3,d1,a5,p1,q1,rfl,rfl,rfl,h1,r1⟩:=trodAll_cons r0;obtain⟨rfl,rfl,rfl⟩:=trodAll_nil r1;obtain rfl:a=#[v0,v1]:=by cases a;simp_all
 obtain⟨rfl,rfl⟩:=trodVars_none hV;have k0:=h0;have u:∀x∈p0,x.block<W.heap.size:=by obtain⟨m,hm⟩:=k0;exact DataW.trod_lt m _ _ _ hm
 have k1:=h1;have a2:∀x∈p1,x.block<W.heap.size:=by obtain⟨m,hm⟩:=k1;exact DataW.trod_lt m _ _ _ hm
 obtain⟨s0,rfl,_,_,l⟩:=Go.ChangeMaps.open_string Tryz.underlying9 (c 0 9 v0 rfl rfl) h0;obtain⟨z1,rfl,rfl,rfl,_⟩:=Go.ChangeShapes.open_int underlying3 (c 1 3 v1 rfl rfl) h1;clear i d;obtain⟨z,a0⟩:Gl W/\Ta W:=BE hL a1;refine(RM s0 l z1 W z a0).mono fun e W' ⟨he,bel⟩=>?_;subst he;exact⟨_,rfl,_,_,_,[],_,[],y,trodAll_mk1 (shut_bool underlying4 _),(trodAll_cons_mk (Below.trod Lj (by kernel_rfl) (of_decide_eq_true (by kernel_rfl)) k0 bel u) (trodAll_cons_mk (Below.trod Lj (by kernel_rfl) (of_decide_eq_true (by kernel_rfl)) k1 bel a2) trodAll_mk0)),rfl,bel.frame _,fun h=>by cases h⟩
set_option maxRecDepth 100000 in
theorem Qx:Rows.RunTextsSaid:=
 OpenClaim.holds_of_cond 10 Zb rfl rfl rfl rfl rfl rfl rfl ⟨rfl,rfl,rfl,rfl,rfl⟩ rfl rfl rfl rfl rfl (by kernel_rfl) Zi (by kernel_rfl) (of_decide_eq_true (by kernel_rfl)) (by unfold Func.isWrapper;first|(rw[if_pos (by decide +kernel)];kernel_rfl)|(rw[if_neg (by decide +kernel)];exact⟨rfl,rfl⟩))
  (fun os started H enc _ F=>by rw[OpenClaim.pre_eq_preRow];exact OU os started H enc F)
theorem Py(f:FuncId)(b:Func)(e:Tryz.pinned.checked.prog.funcNamed "chaperone/chaperonelaw.RunTexts"=G f)(a:Tryz.pinned.checked.prog.funcs[f]?=G b):
  Y=Tryz.pinned.checked.prog.looks []/\∀(j:Nat)t,b.params[j]?=G t->Tryz.pinned.checked.prog.wantsStandIn t=I:=by
 obtain rfl:f=10:=S ((show A.funcNamed "chaperone/chaperonelaw.RunTexts"=G 10 by kernel_rfl).symm.trans e) |>.symm;obtain rfl:b=Zb:=(S (Zi.symm.trans a)).symm;refine⟨by kernel_rfl,fun j t c=>?_⟩;rw[Tryz.params10] at c;have d:=Array.mem_of_getElem? c;obtain rfl|rfl:t=9\/t=3:=by simpa using d
 .exact(show A.wantsStandIn 9=I by kernel_rfl)
 .exact(show A.wantsStandIn 3=I by kernel_rfl)
theorem runTexts_card:Rows.RunTextsCardSaid:=Claim7.holds_tied_plain_at .later [] _ _ _ _ Qx (fun _ h=>by cases h) (by kernel_rfl) (fun _ h=>by cases h) runTexts_row_tie rfl ⟨rfl,rfl⟩ (by kernel_rfl) rfl Py (by kernel_rfl)
end
#print axioms runTexts_card
end Go.Proofs.YtnddkmccagiclabGreatDoor
