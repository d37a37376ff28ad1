import Derived.Test.YtnddkmccagiclabGreatDoorZtc
import Derived.Test.YtnddkmccagiclabGreatDoorZte
import Derived.Deep.QuietTactic
import Derived.OpenShut
set_option maxRecDepth 20000
set_option maxHeartbeats 16000000
open Go.RowKit Go.Proofs.Tryz
open Option renaming none→A,some→I,map_eq_some_iff→Q,map_eq_none_iff→Zk,bind_some→Zo,bind_eq_some_iff→Zs
open Go.Value renaming int→C,slice→F,pointer→O,agg→Zb,tuple→Ze
open Go.IntKind renaming i64→D
open Go.Proofs.Tryz renaming prog→E,underlying180→X,results84→Zg,ntmps81→Zl,ntmps46→Zm,func81→Zp,func46→Zq,results86→Zu,results33→Zz,ntmps86→ZC,ntmps55→ZD,func86→ZE,func55→ZF
open Nat renaming le_refl→G,zero_add→Zr
open Go.Ending renaming returned→H
open Go.RowKit.Below renaming refl→J,heap_setCell→ZB
open Go renaming World→L,Calls→T,bodyPost_ret→Y,run_underlying→Zc,Value→Zi,cell_later→Zt
open Bool renaming false→M,true→Z,true_and→ZA
open Go.World renaming cell?_setCell_same→S,block_lt_of_cell?→V,cell?_setCell_other→Zd,frozen?_of_block→Zj
open Go.Instr renaming index→U
open Go.RowKit renaming Hid→Za,Below→Zf
open Go.Obj renaming cells→Zh
open List renaming length_cons→Zn,map_cons→Zv,sum_cons→Zw,getElem_mem→Zx,length_nil→Zy
namespace Go.Proofs.YtnddkmccagiclabGreatDoor
variable {B R k room:Nat}{w w':L}{b b':Bool}{ar:Int}{x y:TT}{u:Zi}{o:Option (List ByteArray)}{ws':List ByteArray}
theorem LC{a:L}(h:Zf B a w)(n:Nat):Zf B a (w.drewN n):=⟨h.os,h.tape,h.output,h.size,h.block⟩
theorem WV(x y:Tr)(c:Option Addr)(w:L)(b:Za ((x.k==y.k&&(x.l.length:Int)==(y.l.length:Int))=M)):
  T E 182 #[Zb #[C D x.k,F x.a x.l.length x.c],Zb #[C D y.k,F y.a y.l.length y.c],C D 1000,O c] w fun e w'=>e=H (.bool M)/\Zf w.heap.size w w':=by
 go_enter func182,ntmps182;go_wp2_with fail;refine(KP _ _ _ _ _ _ _ _ M b.out _).mono ?_;rintro e d ⟨rfl,a⟩;go_wp2_with fail;go_ret;exact⟨rfl,(((J _ _).alloc (G _) _).alloc (by simp) _).trans (a.mono (by simp;omega))⟩
theorem BS(x y:Tr)(r:Bool)(w:L)(k:x.In w)(i:y.In w)
  (d:Za (∀(rp:Option Addr)(w:L),x.In w->y.In w->T E 182 #[Zb #[C D x.k,F x.a x.l.length x.c],Zb #[C D y.k,F y.a y.l.length y.c],C D 1000,O rp] w fun e w'=>e=H (.bool r)/\Zf w.heap.size w w')) :
  T E 147 #[Zb #[C D x.k,F x.a x.l.length x.c],Zb #[C D y.k,F y.a y.l.length y.c]] w fun e w'=>e=H (.bool r)/\Zf w.heap.size w w':=by
 have g:Za (∀(w:L),x.In w->y.In w->T E 44 #[.func (.func 182) #[] #[],Zb x.v,Zb y.v] w fun e w'=>e=H (.bool r)/\bL w w'):=fun w j h=>Rz x y r w j h d;clear d;go_enter func147,ntmps147;go_wp2_with fail;have a:bL w ((w.alloc (Obj.cells x.v 24)).alloc (Obj.cells y.v 24)):=((J _ _).alloc (G _) _).alloc (by simp) _;refine(g.out _ (k.below a) (i.below a)).mono ?_;rintro e l ⟨rfl,b⟩;have c:=a.trans (b.mono (by simp;omega));clear a b;go_wp2_with fail;go_ret;exact⟨rfl,c⟩
theorem U0{a:Bool}(h:a=b):Ending.returned (.bool a)=H (.bool b):=by rw[h]
theorem XS(k:Int):(Yr k).ty=⟨k,[]⟩:=by simp[Yr,Tr.ty_mk]
theorem Vw(x:Tr)(w:L)(b:x.In w):
  T E 147 #[Zb #[C D x.k,F x.a x.l.length x.c],Zb #[C D 0,F A 0 0]] w fun e w'=>e=H (.bool (XG x.ty))/\Zf w.heap.size w w':=by
 have d:XG x.ty=YC Yv x.ty (Yr 0).ty:=by rw[XS];rfl
 rw[d];by_cases ht:(x.k==(Yr 0).k&&(x.l.length:Int)==((Yr 0).l.length:Int))=M
 .have hr:=JX Yv x (Yr 0) rfl ht;rw[hr];exact BS x (Yr 0) M w b (YB 0 w) (fun g w p o=>WV x (Yr 0) g w ht)
 .have hl:x.l=[]:=by simp[Yr] at ht;exact ht.2
  have i:x.hgt<=1000:=by obtain⟨k,a,c,l⟩:=x;dsimp only at hl;subst hl;rw[Tr.hgt_mk];simp
  have j:x.sm:=by obtain⟨k,a,c,l⟩:=x;dsimp only at hl;subst hl;exact Tr.sm_mk.2 ⟨by simp,fun t h=>by cases h⟩
  exact KY x (Yr 0) w b (YB 0 w) i j
theorem PG(x:Tr)(w:L)(d:x.In w):
  T E 117 #[Zb #[C D x.k,F x.a x.l.length x.c]] w fun e w'=>e=H (.bool (XG x.ty))/\Zf w.heap.size w w':=by
 have g:=Yx (Vw x);go_enter func117,ntmps117;go_wp2_with fail;have a:bL w (w.alloc (Obj.cells x.v 24)):=(J _ _).alloc (G _) _;refine(g.out _ (d.below a)).mono ?_;rintro e h ⟨rfl,b⟩;have c:=a.trans (b.mono (by simp));clear a b;go_wp2_with fail;go_ret;exact⟨rfl,c⟩
theorem L0(x:TT)(w:L)(u:x.t.In w)(r:x.f.In w):
  T E 80 #[Zb #[C D x.k,C D x.n,C D x.t.k,F x.t.a x.t.l.length x.t.c,C D x.f.k,F x.f.a x.f.l.length x.f.c,F x.a x.l.length x.c]] w fun e w'=>e=H (.bool (X6 x.k x.t.ty x.f.ty))/\Zf w.heap.size w w':=by
 have p:=Yx (PG x.f);have HT:=Yx (PG x.t);have HG:Za (∀w,x.t.In w->T E 118 #[Zb x.t.v] w fun e w'=>e=H (.bool (Ym 4 x.t.ty))/\bL w w'):=by intro w h;have:=AQ x.t w h;rw[YM] at this;exact this
 have y:=Yx (Pn x.k);obtain⟨q,i⟩:∃b,XG x.f.ty=b:=⟨_,rfl⟩
 obtain⟨z,k⟩:∃b,UI x.k=b:=⟨_,rfl⟩
 have o:Za (X6 x.k x.t.ty x.f.ty=(q&&(if z=Z then Ym 4 x.t.ty else XG x.t.ty))):=by show _=_;rw[X6,i,k]
 rw[i] at p;rw[k] at y;clear i k;have d:bL w (w.alloc (Obj.cells x.v 27)):=(J _ _).alloc (G _) _;cases q
 .go_enter func80,ntmps80;go_wp2_with fail;refine(p.out _ (r.below d)).mono ?_;rintro e l ⟨rfl,c⟩;have a:=d.trans (c.mono (by simp));clear d c;go_wp2_with fail;go_ret;exact⟨by rw[o.out];rfl,a⟩
 .go_enter func80,ntmps80;go_wp2_with fail;refine(p.out _ (r.below d)).mono ?_;rintro e l ⟨rfl,c⟩;have a:=d.trans (c.mono (by simp));have q0:l.cell? ⟨w.heap.size,0,A⟩=I (C D x.k):=Zt c (by simp[go_sem]);have q2:l.cell? ⟨w.heap.size,2,A⟩=I (C D x.t.k):=Zt c (by simp[go_sem]);have q3:l.cell? ⟨w.heap.size,3,A⟩=I (F x.t.a x.t.l.length x.t.c):=Zt c (by simp[go_sem]);clear d c;go_wp2_with fail;refine(y.out _).mono ?_;rintro e w' ⟨rfl,rfl⟩;cases z
  .go_wp2_with fail;refine(HT.out _ (u.below a)).mono ?_;rintro e w2 ⟨rfl,g⟩;have j:=a.trans (g.mono a.size);clear g a;go_wp2_with fail;go_ret;exact⟨by rw[o.out];rfl,j⟩
  .go_wp2_with fail;refine(HG.out _ (u.below a)).mono ?_;rintro e w2 ⟨rfl,g⟩;have j:=a.trans (g.mono a.size);clear g a;go_wp2_with fail;go_ret;exact⟨by rw[o.out];rfl,j⟩
theorem Lu(R:Nat)(ar:Int)(ins:Nat)(hi:ins<=1000)(x:TT)(hn:x.n<=9223372036854775807)(w:L)(hr:w.cell? ⟨R,0,A⟩=I (C D ar)):
  T E 81 #[O (I ⟨R,0,A⟩),Zb #[C D x.k,C D x.n,C D x.t.k,F x.t.a x.t.l.length x.t.c,C D x.f.k,F x.f.a x.f.l.length x.f.c,F x.a x.l.length x.c],C D (ins:Int)] w fun e w'=>e=H (.bool (Xt ar (ins:Int) x.k x.n))/\Zf w.heap.size w w':=by
 have b:R<w.heap.size:=V _ _ hr;by_cases h1:x.k=1
 .have hk:(x.k==1)=Z:=by simp[h1]
  by_cases h0:0<=x.n
  .have hd:decide (0<=x.n)=Z:=by simp[h0]
   have a:Za (Xt ar (ins:Int) x.k x.n=decide (x.n-(ins:Int)<ar)):=by show _=_;rw[Xt,if_pos h1,hd,ZA]
   clear h1;go_enter Zp,Zl;go_wp2_with fail;go_quiet (fail)
   go_wp2_with fail;go_ret;exact⟨U0 a.out.symm,LC ((J _ _).alloc (G _) _) _⟩
  .have hd:decide (0<=x.n)=M:=by simpa using h0
   have a:Za (Xt ar (ins:Int) x.k x.n=M):=by show _=_;rw[Xt,if_pos h1,hd,Bool.false_and]
   clear h1;go_enter Zp,Zl;go_wp2_with fail;go_quiet (fail)
   go_wp2_with fail;go_ret;exact⟨U0 a.out.symm,LC ((J _ _).alloc (G _) _) _⟩
 .have hk1:(x.k==1)=M:=by simpa using h1
  by_cases h2:x.k=2
  .have hk2:(x.k==2)=Z:=by simp[h2]
   by_cases h0:-1000000<=x.n
   .have hd:decide (-1000000<=x.n)=Z:=by simp[h0]
    have a:Za (Xt ar (ins:Int) x.k x.n=decide (x.n<=1000000)):=by show _=_;rw[Xt,if_neg h1,if_pos h2,hd,ZA]
    clear h1 h2;go_enter Zp,Zl;go_wp2_with fail;go_ret;exact⟨U0 a.out.symm,(J _ _).alloc (G _) _⟩
   .have hd:decide (-1000000<=x.n)=M:=by simpa using h0
    have a:Za (Xt ar (ins:Int) x.k x.n=M):=by show _=_;rw[Xt,if_neg h1,if_pos h2,hd,Bool.false_and]
    clear h1 h2;go_enter Zp,Zl;go_wp2_with fail;go_ret;exact⟨U0 a.out.symm,(J _ _).alloc (G _) _⟩
  .have hk2:(x.k==2)=M:=by simpa using h2
   by_cases h3:x.k=3
   .have hk3:(x.k==3)=Z:=by simp[h3]
    cases h0:(x.n==0) with
    |true=>
     have a:Za (Xt ar (ins:Int) x.k x.n=Z):=by show _=_;rw[Xt,if_neg h1,if_neg h2,if_pos h3,h0,Bool.true_or]
     clear h1 h2 h3;go_enter Zp,Zl;go_wp2_with fail;go_ret;exact⟨U0 a.out.symm,(J _ _).alloc (G _) _⟩
    |false=>
     have a:Za (Xt ar (ins:Int) x.k x.n=(x.n==1)):=by show _=_;rw[Xt,if_neg h1,if_neg h2,if_pos h3,h0,Bool.false_or]
     clear h1 h2 h3;go_enter Zp,Zl;go_wp2_with fail;go_ret;exact⟨U0 a.out.symm,(J _ _).alloc (G _) _⟩
   .have hk3:(x.k==3)=M:=by simpa using h3
    have a:Za (Xt ar (ins:Int) x.k x.n=(x.n==0)):=by show _=_;rw[Xt,if_neg h1,if_neg h2,if_neg h3]
    clear h1 h2 h3;go_enter Zp,Zl;go_wp2_with fail;go_ret;exact⟨U0 a.out.symm,(J _ _).alloc (G _) _⟩
structure WS(R:Nat)(ar:Int)(room:Nat)(w:L):Prop where
 a:w.cell? ⟨R,0,A⟩=I (C D ar)
 r:w.cell? ⟨R,1,A⟩=I (C D (room:Int))
 z:w.frozen? ⟨R,1,A⟩=M
theorem WS.lt(h:WS R ar room w):R<w.heap.size:=V _ _ h.a
theorem WS.below(h:WS R ar room w)(hb:Zf w.heap.size w w'):WS R ar room w':=⟨Zt hb h.a,Zt hb h.r,(hb.frozen (p:=⟨R,1,A⟩) h.lt).trans h.z⟩
theorem WS.set{r:Nat}(h:WS R ar room w):WS R ar r (w.setCell ⟨R,1,A⟩ (C D (r:Int))):=⟨by rw[Zd _ _ _ _ (by simp)];exact h.a,S _ _ _ h.r,by rw[World.frozen?_setCell];exact h.z⟩
def Ue(R:Nat)(ar:Int)(o:Option Nat)(w:L)(e:Ending)(w':L):Prop:=∃r:Nat,e=H (.bool o.isSome)/\WS R ar r w'/\(∀q,o=I q->q=r)/\Yi R A w w'
def TT.nb:TT->Prop
 |⟨_,n,_,_,_,_,l⟩=>n<=9223372036854775807/\∀x,x∈l->x.nb
theorem TT.nb_mk{k n:Int}{t f:Tr}{a:Option Addr}{c:Nat}{l:List TT}:(TT.mk k n t f a c l).nb↔n<=9223372036854775807/\∀x,x∈l->x.nb:=by rw[TT.nb]
theorem TT.nb.n(h:x.nb):x.n<=9223372036854775807:=by cases x;exact(TT.nb_mk.1 h).1
theorem TT.nb.mem(h:x.nb)(b:y∈x.l):y.nb:=by obtain⟨k,n,t,f,a,c,l⟩:=x;exact(TT.nb_mk.1 h).2 y b
theorem OC(R:Nat)(c b:Int)(x:TT)(w:L)(a:WS R c 0 w):
  T E 46 #[O (I ⟨R,0,A⟩),Zb #[C D x.k,C D x.n,C D x.t.k,F x.t.a x.t.l.length x.t.c,C D x.f.k,F x.f.a x.f.l.length x.f.c,F x.a x.l.length x.c],C D b] w (Ue R c A w):=by
 have i:=a.r;have g:=a.lt;have e:((0:Nat):Int)=0:=rfl;rw[e] at i;go_enter Zq,Zm;go_wp2_with fail;go_ret;have d:bL w (w.alloc (Obj.cells x.v 27)):=(J _ _).alloc (G _) _;exact⟨0,rfl,a.below d,(fun q h=>by cases h),Yi.of_below d⟩
theorem J0(a:Gp w)(k:Int)(b:1<=k)(c:k<=9):w.cell? ⟨0,k.toNat,A⟩=I (C D (YA k:Int)):=by
 rw[a.pt.cell];obtain rfl|rfl|rfl|rfl|rfl|rfl|rfl|rfl|rfl:k=1\/k=2\/k=3\/k=4\/k=5\/k=6\/k=7\/k=8\/k=9:=by omega
 all_goals rfl
theorem CK(m p:Nat)(h:(m==p)=M):((m:Int)==(p:Int))=M:=by simp at h ⊢;omega
def NA(R:Nat)(r:Nat)(x:TT)(w:L):L:=(w.setCell ⟨R,1,A⟩ (C D (r:Int))).alloc (Obj.cells #[C D x.k,C D x.n,C D x.t.k,F x.t.a x.t.l.length x.t.c,C D x.f.k,F x.f.a x.f.l.length x.f.c,F x.a x.l.length x.c] 27)
theorem Tk(R:Nat)(g:Int)(r:Nat)(z:r<=1000)(i:Int)(x:TT)(w:L)(j:Gp w)(hR:1<=R)(d:WS R g (r+1) w)
  (a:(decide (1<=x.k)&&decide (x.k<=9)&&(x.l.length==YA x.k))=M) :
  T E 46 #[O (I ⟨R,0,A⟩),Zb #[C D x.k,C D x.n,C D x.t.k,F x.t.a x.t.l.length x.t.c,C D x.f.k,F x.f.a x.f.l.length x.f.c,F x.a x.l.length x.c],C D i] w (Ue R g A w):=by
 have u:=d.r;have hz:=d.z;have p:=d.lt;have o:((r+1:Nat):Int)=(r:Int)+1:=by omega
 rw[o] at u;have e1:(((r:Int)+1)==0)=M:=by simp;omega
 have fin:∀nq,Ue R g A w (H (.bool M)) ((NA R r x w).drewN nq):=by intro nq;have k:Zf (w.setCell ⟨R,1,A⟩ (C D (r:Int))).heap.size (w.setCell ⟨R,1,A⟩ (C D (r:Int))) ((NA R r x w).drewN nq):=LC ((J _ _).alloc (G _) _) _;exact⟨r,rfl,(WS.set d).below k,(fun q h=>by cases h),Yj.trans (Yi.of_below k)⟩
 have c:=Yx fin;clear fin;by_cases hk1:1<=x.k
 .have hd1:decide (x.k<1)=M:=by simp;omega
  by_cases hk2:x.k<=9
  .have hd2:decide (9<x.k)=M:=by simp;omega
   have hp:=J0 j x.k hk1 hk2;have b:(x.l.length==YA x.k)=M:=by
    have a1:decide (1<=x.k)=Z:=by simp[hk1]
    have a2:decide (x.k<=9)=Z:=by simp[hk2]
    rw[a1,a2] at a;simpa using a
   have e:=CK _ _ b;have l:((x.l.length:Int) != (YA x.k:Int))=Z:=by rw[bne,e];rfl
   have i0:(0:Int)<=x.k:=by omega
   have i1:x.k<10:=by omega
   have n2:(0:Nat)≠R:=by omega
   have y:0<w.heap.size:=by have:=j.size;omega
   clear a b hk1 hk2 j;go_enter Zq,Zm;go_wp2_with fail;go_quiet (fail)
   go_wp2_with fail;go_ret;exact c.out _
  .have hd2:decide (9<x.k)=Z:=by simp;omega
   clear a hk2;go_enter Zq,Zm;go_wp2_with fail;go_quiet (fail)
   go_wp2_with fail;go_ret;exact c.out _
 .have hd1:decide (x.k<1)=Z:=by simp;omega
  clear a hk1;go_enter Zq,Zm;go_wp2_with fail;go_quiet (fail)
  go_wp2_with fail;go_ret;exact c.out _
theorem Kt(R r:Nat)(x:TT)(w:L)(nq:Nat):Yi R A w ((NA R r x w).drewN nq):=Yj.trans (Yi.of_below (LC ((J _ _).alloc (G _) _) _))
theorem TP{r:Nat}{nq:Nat}(h:WS R ar room w):WS R ar r ((NA R r x w).drewN nq):=(WS.set h).below (LC ((J _ _).alloc (G _) _) _)
theorem NR(R r:Nat)(x:TT)(w:L)(nq:Nat):X4 ((NA R r x w).drewN nq) w.heap.size 0 x:=by
 have a:(w.setCell ⟨R,1,A⟩ (C D (r:Int))).heap.size=w.heap.size:=by simp[World.setCell]
 rw[<-a];constructor<;>simp[NA,go_sem]
theorem Tj(R:Nat)(d:Int)(r:Nat)(ab:r<=1000)(c:Nat)(hi:c<=1000)(x:TT)(w:L)(hg:Gp w)(hR:1<=R)(y:WS R d (r+1) w)
  (hx:x.In w) (o:x.Bl (·≠R)) (a0:x.nb) (u:1<=x.k) (p:x.k<=9) (i:x.l.length=YA x.k)
  (z:(X6 x.k x.t.ty x.f.ty&&Xt d (c:Int) x.k x.n)=M) :
  T E 46 #[O (I ⟨R,0,A⟩),Zb #[C D x.k,C D x.n,C D x.t.k,F x.t.a x.t.l.length x.t.c,C D x.f.k,F x.f.a x.f.l.length x.f.c,F x.a x.l.length x.c],C D (c:Int)] w (Ue R d A w):=by
 have hr:=y.r;have hz:=y.z;have a8:=y.lt;have e0:((r+1:Nat):Int)=(r:Int)+1:=by omega
 rw[e0] at hr;have e1:(((r:Int)+1)==0)=M:=by simp;omega
 have a9:decide (x.k<1)=M:=by simp;omega
 have a7:decide (9<x.k)=M:=by simp;omega
 have hp:=J0 hg x.k u p;have a1:((x.l.length:Int)==(YA x.k:Int))=Z:=by rw[i];simp
 have a6:((x.l.length:Int) != (YA x.k:Int))=M:=by rw[bne,a1];rfl
 have i0:(0:Int)<=x.k:=by omega
 have i1:x.k<10:=by omega
 have n2:(0:Nat)≠R:=by omega
 have aa:0<w.heap.size:=by have:=hg.size;omega
 have HX:Za (∀nq,x.In ((NA R r x w).drewN nq)):=fun nq=>hx.keptR (Kt R r x w nq) o;have HW:Za (∀nq,WS R d r ((NA R r x w).drewN nq)):=fun nq=>TP y;have HB:Za (∀nq,X4 ((NA R r x w).drewN nq) w.heap.size 0 x):=fun nq=>NR R r x w nq;have a5:=Yx a0.n;have a3:=Yx z;obtain⟨bt,j⟩:∃b,X6 x.k x.t.ty x.f.ty=b:=⟨_,rfl⟩
 have HT:Za (∀W,x.In W->T E 80 #[Zb x.v] W fun e w'=>e=H (.bool bt)/\bL W w'):=by intro W h;have:=L0 x W h.t h.f;rw[j] at this;exact this
 have a2:=Yx j;clear z i u p hg j o hx y a0;cases bt
 .go_enter Zq,Zm;go_wp2_with fail;go_quiet (fail)
  go_wp2_with fail;refine(HT.out _ (HX.out nq)).mono ?_;rintro e l ⟨rfl,a⟩;have HE:Za (Ue R d A w (H (.bool M)) l):=⟨r,rfl,(HW.out nq).below a,(fun q h=>by cases h),(Kt R r x w nq).trans (Yi.of_below a)⟩
  clear a;go_wp2_with fail;go_ret;exact HE.out
 .have hbn:Za (Xt d (c:Int) x.k x.n=M):=by have:=a3.out;rw[a2.out] at this;simpa[Za] using this
  go_enter Zq,Zm;go_wp2_with fail;go_quiet (fail)
  go_wp2_with fail;refine(HT.out _ (HX.out nq)).mono ?_;rintro e l ⟨rfl,a⟩;have HN:Za (T E 81 #[O (I ⟨R,0,A⟩),Zb x.v,C D (c:Int)] l fun e w'=>e=H (.bool M)/\bL l w'):=by have:=Lu R d c hi x a5.out l ((HW.out nq).below a).a;rw[hbn.out] at this;exact this
  have HE:=Un ((HW.out nq).below a) ((Kt R r x w nq).trans (Yi.of_below a));have g:=(HB.out nq).below a;have c0:=g.c0;have c1:=g.c1;have c2:=g.c2;have c3:=g.c3;have c4:=g.c4;have c5:=g.c5;have c6:=g.c6;simp only[Zr] at c0 c1 c2 c3 c4 c5 c6;clear a g;go_wp2_with fail;refine HN.out.mono ?_;rintro e w2 ⟨rfl,k⟩;have a4:Za (Ue R d A w (H (.bool M)) w2):=⟨r,rfl,HE.out.1.below k,(fun q h=>by cases h),HE.out.2.trans (Yi.of_below k)⟩
  clear k c0 c1 c2 c3 c4 c5 c6;go_wp2_with fail;go_ret;exact a4.out
theorem PH(R:Nat)(ar:Int)(n r:Nat)(hr1:r<=1000)(ins:Nat)(hi:ins<=1000)(x:TT)(w:L)(hg:Gp w)(hR:1<=R)(hw:WS R ar (r+1) w)(hl:x.l.length<=140737488355328)
  (hx:x.In w) (hbl:x.Bl (·≠R)) (hnb:x.nb) (hk1:1<=x.k) (hk2:x.k<=9) (hlen:x.l.length=YA x.k)
  (hok1:X6 x.k x.t.ty x.f.ty=Z) (hok2:Xt ar (ins:Int) x.k x.n=Z)
  (b7:Bool) (h7:(x.k==7)=b7) (ins':Nat) (hins:(ins':Int)=if b7=Z then (ins:Int)+1 else (ins:Int))
  (HC:Za (∀(j:Nat)(hj:j<x.l.length)(q:Nat)(W:L),q<=r->Gp W->WS R ar q W->x.l[j].In W->T E 46 #[O (I ⟨R,0,A⟩),Zb #[C D x.l[j].k,C D x.l[j].n,C D x.l[j].t.k,F x.l[j].t.a x.l[j].t.l.length x.l[j].t.c,C D x.l[j].f.k,F x.l[j].f.a x.l[j].f.l.length x.l[j].f.c,F x.l[j].a x.l[j].l.length x.l[j].c],C D (ins':Int)] W (Ue R ar (Xo ar n (Xm x.k (ins:Int)) x.l[j].tm q) W)))
  (HM:Za (∀(y:TT)(q q':Nat),y∈x.l->Xo ar n (Xm x.k (ins:Int)) y.tm q=I q'->q'<=q)) :
  T E 46 #[O (I ⟨R,0,A⟩),Zb #[C D x.k,C D x.n,C D x.t.k,F x.t.a x.t.l.length x.t.c,C D x.f.k,F x.f.a x.f.l.length x.f.c,F x.a x.l.length x.c],C D (ins:Int)] w (Ue R ar (XK (fun (y:TT)r'=>Xo ar n (Xm x.k (ins:Int)) y.tm r') x.l r) w):=by
 have hr:=hw.r;have hz:=hw.z;have ad:=hw.lt;have e0:((r+1:Nat):Int)=(r:Int)+1:=by omega
 rw[e0] at hr;have e1:(((r:Int)+1)==0)=M:=by simp;omega
 have ae:decide (x.k<1)=M:=by simp;omega
 have ac:decide (9<x.k)=M:=by simp;omega
 have hp:=J0 hg x.k hk1 hk2;have a6:((x.l.length:Int)==(YA x.k:Int))=Z:=by rw[hlen];simp
 have ab:((x.l.length:Int) != (YA x.k:Int))=M:=by rw[bne,a6];rfl
 have i0:(0:Int)<=x.k:=by omega
 have i1:x.k<10:=by omega
 have n2:(0:Nat)≠R:=by omega
 have af:0<w.heap.size:=by have:=hg.size;omega
 have HX:Za (∀nq,x.In ((NA R r x w).drewN nq)):=fun nq=>hx.keptR (Kt R r x w nq) hbl;have HW:Za (∀nq,WS R ar r ((NA R r x w).drewN nq)):=fun nq=>TP hw;have HB:Za (∀nq,X4 ((NA R r x w).drewN nq) w.heap.size 0 x):=fun nq=>NR R r x w nq;have a9:=Yx hnb.n;have HT:Za (∀W,x.In W->T E 80 #[Zb x.v] W fun e w'=>e=H (.bool Z)/\bL W w'):=by intro W h;have:=L0 x W h.t h.f;rw[hok1] at this;exact this
 have a7:=Yx hok2;have HG:=Yx hg;have a5:=Yx hbl;have a3:=Yx hins;have ah:(ins:Int)+1<=1001:=by omega
 clear hok1 hok2 hlen hk1 hk2 hg hbl hx hw hnb hins;cases b7
 all_goals
  go_enter Zq,Zm
  go_wp2_with fail
  go_quiet (fail)
  go_wp2_with fail
  refine(HT.out _ (HX.out nq)).mono ?_
  rintro e w1 ⟨rfl,d⟩
  have HN:Za (T E 81 #[O (I ⟨R,0,A⟩),Zb x.v,C D (ins:Int)] w1 fun e w'=>e=H (.bool Z)/\bL w1 w'):=by have:=Lu R ar ins hi x a9.out w1 ((HW.out nq).below d).a;rw[a7.out] at this;exact this
  have HE:=Nm ((HW.out nq).below d) ((Kt R r x w nq).trans (Yi.of_below d)) ((HX.out nq).below d) ((HB.out nq).below d)
  obtain⟨_,_,_,c0,c1,c2,c3,c4,c5,c6⟩:=HE.out
  simp only[Zr] at c0 c1 c2 c3 c4 c5 c6
  clear d
  go_wp2_with fail
  refine HN.out.mono ?_
  rintro e w2 ⟨rfl,c⟩
  have k:=Nm (HE.out.1.below c) (HE.out.2.1.trans (Yi.of_below c)) (HE.out.2.2.1.below c) ((HG.out.kept hR HE.out.2.1).below c)
  replace c0:=Zt c c0
  replace c6:=Zt c c6
  clear c c1 c2 c3 c4 c5 HE HN HX HW HB
  go_wp2_with fail
  go_loopg [57] x.l.length (fun g i wr=>∃(j q:Nat),g+j=x.l.length/\i=C D (j:Int)/\Za (q<=r/\XK (fun (y:TT)r'=>Xo ar n (Xm x.k (ins:Int)) y.tm r') x.l r=XK (fun (y:TT)r'=>Xo ar n (Xm x.k (ins:Int)) y.tm r') (x.l.drop j) q/\WS R ar q wr/\Yi R A w2 wr))
  case atStart=>exact⟨0,r,by omega,rfl,G _,rfl,k.out.1,Yi.of_below (J _ _)⟩
  case round=>
   obtain⟨j,q,hj,rfl,a⟩:=hrel;by_cases hlt:j<x.l.length
   .obtain⟨b,o,ea,h7',hxj⟩:=k.out.2.2.1.part j hlt;have aa:b≠R:=a5.out.own (by intro e;rw[e] at hlt;simp at hlt) _ ea;have z:=h7'.keptR a.out.2.2.2 aa;have d0:=z.c0;have d1:=z.c1;have d2:=z.c2;have d3:=z.c3;have d4:=z.c4;have d5:=z.c5;have d6:=z.c6;have a4:=hxj.keptR a.out.2.2.2 (a5.out.mem (Zx hlt));have a1:=Yx a4;have ai:wr.heap.size≠R:=by have:=a.out.2.2.1.lt;omega
    have i2:(j:Int)<(x.l.length:Int):=by omega
    have i3:(0:Int)<=(j:Int):=by omega
    have a8:=Yx ea;rw[ea];have p:∀o,bL wr (wr.alloc o):=fun o=>(J _ _).alloc (G _) _;have HP:Za (∀o,T E 46 #[O (I ⟨R,0,A⟩),Zb x.l[j].v,C D (ins':Int)] (wr.alloc o) (Ue R ar (Xo ar n (Xm x.k (ins:Int)) x.l[j].tm q) (wr.alloc o))):=fun o=>HC.out j hlt q _ a.out.1 ((k.out.2.2.2.kept hR a.out.2.2.2).below (p o)) (a.out.2.2.1.below (p o)) (a1.out.below (p o));rw[a3.out] at HP;clear h7' hxj z a4 ea p;simp only[Bool.false_eq_true,if_false,if_true] at HP;go_wp2_with fail;refine(HP.out _).mono ?_;rintro e w3 ⟨r3,rfl,l,a0,a2⟩;have u:Yi R A w2 w3:=(a.out.2.2.2.trans (Yi.of_below ((J _ _).alloc (G _) _))).trans a2;have HS:=Yx (List.drop_eq_getElem_cons hlt);cases ho:Xo ar n (Xm x.k (ins:Int)) x.l[j].tm q with
    |none=>
     have HF:Za (Ue R ar (XK (fun (y:TT)r'=>Xo ar n (Xm x.k (ins:Int)) y.tm r') x.l r) w (H (.bool M)) w3):=by
      have e:XK (fun (y:TT)r'=>Xo ar n (Xm x.k (ins:Int)) y.tm r') x.l r=A:=by rw[a.out.2.1,HS.out,XK,ho];rfl
      rw[e];exact⟨r3,rfl,l,(fun q h=>by cases h),k.out.2.1.trans u⟩
     clear l a0 a2 u ho a HP a1 d0 d1 d2 d3 d4 d5 d6;simp only[Option.isSome_none];go_wp2_with fail;go_ret;exact HF.out
    |some q'=>
     have HF:Za (q'<=r/\XK (fun (y:TT)r'=>Xo ar n (Xm x.k (ins:Int)) y.tm r') x.l r=XK (fun (y:TT)r'=>Xo ar n (Xm x.k (ins:Int)) y.tm r') (x.l.drop (j+1)) q'/\WS R ar q' w3/\Yi R A w2 w3):=by have e:=a0 q' ho;subst e;refine⟨Nat.le_trans (HM.out _ q q' (Zx hlt) ho) a.out.1,?_,l,u⟩;rw[a.out.2.1,HS.out,XK,ho];rfl
     clear l a0 a2 u ho a HP a1 d0 d1 d2 d3 d4 d5 d6;simp only[Option.isSome_some];go_wp2_with fail;rw[<-a8.out];go_roundg (x.l.length-(j+1))
     case measure=>omega
     case rel=>exact⟨j+1,q',by omega,by go_num,HF⟩
   .have HF:Za (Ue R ar (XK (fun (y:TT)r'=>Xo ar n (Xm x.k (ins:Int)) y.tm r') x.l r) w (H (.bool Z)) wr):=by
     have e:XK (fun (y:TT)r'=>Xo ar n (Xm x.k (ins:Int)) y.tm r') x.l r=I q:=by rw[a.out.2.1,List.drop_eq_nil_of_le (by omega),XK]
     rw[e];exact⟨q,rfl,a.out.2.2.1,(fun q h=>by cases h;rfl),k.out.2.1.trans a.out.2.2.2⟩
    clear a;go_wp2_with fail;go_ret;exact HF.out
theorem Pv:∀t:Ty,YC Yv t t=Z:=by
 intro t;induction t using Ty.ind with
 |h k l ih=>rw[YV];simp only[Yv,Bool.false_or,beq_self_eq_true,ZA];exact Od Yv l l rfl fun j h _=>ih _ (Zx h)
def TT.tok:TT->Prop
 |⟨_,_,t,f,_,_,l⟩=>(t.hgt<=1000/\t.sm)/\(f.hgt<=1000/\f.sm)/\∀x,x∈l->x.tok
theorem TT.tok_mk{k n:Int}{t f:Tr}{a:Option Addr}{c:Nat}{l:List TT}:(TT.mk k n t f a c l).tok↔(t.hgt<=1000/\t.sm)/\(f.hgt<=1000/\f.sm)/\∀x,x∈l->x.tok:=by rw[TT.tok]
theorem TT.tok.t(h:x.tok):x.t.hgt<=1000/\x.t.sm:=by cases x;exact(TT.tok_mk.1 h).1
theorem TT.tok.f(h:x.tok):x.f.hgt<=1000/\x.f.sm:=by cases x;exact(TT.tok_mk.1 h).2.1
theorem TT.tok.mem(h:x.tok)(b:y∈x.l):y.tok:=by obtain⟨k,n,t,f,a,c,l⟩:=x;exact(TT.tok_mk.1 h).2.2 y b
theorem Kd{e size n:Nat}{v:Zi}{xs:List Zi}(h:w.ownsRow B e size v n xs)(j:Zf w.heap.size w w'):w'.ownsRow B e size v n xs:=by
 refine⟨h.1,?_⟩;rcases h.2 with k|⟨g,c,a,i,b,d,rest⟩
 .exact .inl k
 .exact .inr ⟨g,c,a,i,b,(j.block g (Array.getElem?_eq_some_iff.1 d).1).trans d,rest⟩
theorem Lk(f:TT->Nat):∀(l:List TT)(j:Nat),((l.take j).map f).sum<=(l.map f).sum
 |[],j=>by simp
 |x::l,0=>by simp
 |x::l,j+1=>by have:=Lk f l j;simp only[List.take_succ_cons,Zv,Zw];omega
def TT.sz:TT->Nat
 |⟨_,_,_,_,_,_,l⟩=>(l.map fun t=>t.sz).sum+1
theorem TT.sz_mk(k n:Int)(t f:Tr)(a:Option Addr)(c:Nat)(l:List TT):(TT.mk k n t f a c l).sz=(l.map TT.sz).sum+1:=by rw[TT.sz]
theorem TT.sz_eq(x:TT):x.sz=(x.l.map TT.sz).sum+1:=by cases x;rw[TT.sz_mk]
theorem TT.sz_pos(x:TT):1<=x.sz:=by rw[TT.sz_eq];omega
def CX(ps:List (TT×TT)):List Zi:=ps.flatMap fun p=>[F p.1.a p.1.l.length p.1.c,F p.2.a p.2.l.length p.2.c]
def Pr(B:Nat)(w:L)(p:TT×TT):Prop:=p.1.In w/\p.2.In w/\p.1.Bl (·<B)/\p.2.Bl (·<B)/\p.1.tok/\p.1.l.map TT.tm=p.2.l.map TT.tm
theorem Pr.low{p:TT×TT}(h:Pr B w p)(hb:Zf B w w'):Pr B w' p:=⟨h.1.congr (P:=(·<B)) (fun b hb' o=>hb.cell (p:=⟨b,o,A⟩) hb') h.2.2.1,h.2.1.congr (P:=(·<B)) (fun b hb' o=>hb.cell (p:=⟨b,o,A⟩) hb') h.2.2.2.1,h.2.2⟩
def De(ps:List (TT×TT)):Nat:=(ps.map fun p=>p.1.sz).sum
structure Dz(B:Nat)(v:Zi)(ps:List (TT×TT))(w:L):Prop where
 own:w.ownsRow B 59 2 v ps.length (CX ps)
 ins:∀p,p∈ps->Pr B w p
theorem Dz.len{ps:List (TT×TT)}:ps.length<=De ps:=by
 induction ps with
 |nil=>simp
 |cons p r ih=>have:=p.1.sz_pos;simp only[De,Zv,Zw,Zn] at ih ⊢;omega
theorem WI(h:x.tm=y.tm):x.k=y.k/\x.n=y.n/\x.l.length=y.l.length/\x.t.ty=y.t.ty/\x.f.ty=y.f.ty/\x.l.map TT.tm=y.l.map TT.tm:=by have b:=congrArg Tm.k h;have e:=congrArg Tm.n h;have d:=congrArg Tm.t h;have c:=congrArg Tm.f h;have a:=congrArg Tm.l h;rw[TT.tm_k,TT.tm_k] at b;rw[TT.tm_n,TT.tm_n] at e;rw[TT.tm_t,TT.tm_t] at d;rw[TT.tm_f,TT.tm_f] at c;rw[TT.tm_l,TT.tm_l] at a;exact⟨b,e,by have:=congrArg List.length a;simpa using this,d,c,a⟩
def CY(ps:List TT):List Zi:=ps.map fun p=>F p.a p.l.length p.c
def UV(ps:List TT):Nat:=(ps.map TT.sz).sum
def Ww(B:Nat)(w:L)(p:TT):Prop:=p.In w/\p.Bl (·<B)
theorem Ww.low{p:TT}(h:Ww B w p)(hb:Zf B w w'):Ww B w' p:=⟨h.1.congr (P:=(·<B)) (fun b hb' o=>hb.cell (p:=⟨b,o,A⟩) hb') h.2,h.2⟩
structure Do(B:Nat)(v:Zi)(ps:List TT)(w:L):Prop where
 own:w.ownsRow B 25 1 v ps.length (CY ps)
 ins:∀p,p∈ps->Ww B w p
theorem Do.len{ps:List TT}:ps.length<=UV ps:=by
 induction ps with
 |nil=>simp
 |cons p r ih=>have:=p.sz_pos;simp only[UV,Zv,Zw,Zn] at ih ⊢;omega
theorem MC:∀l:List TT,l.length<=(l.map TT.sz).sum
 |[]=>by simp
 |u::r=>by have:=u.sz_pos;have:=MC r;simp only[Zn,Zv,Zw];omega
def MP(R:Nat)(b:Bool)(o:Option (List ByteArray))(w':L):Prop:=(∃r,o=I r/\RS R r b w')\/(o=A/\RS R [] Z w')
theorem NQ(R:Nat)(word:ByteArray)(hw:(⟨#[]⟩:ByteArray)≠word)(ws:List ByteArray)(b:Bool)(w:L)(h:RS R ws b w):
  T E 87 #[O (I ⟨R,0,A⟩),.string word] w fun e w'=>e=H (Ze #[])/\MP R b (behind word ws) w'/\Yi R A w w':=by
 cases ws with
 |nil=>refine(Wy R word hw b w h).mono ?_;rintro e w' ⟨rfl,a,c⟩;exact⟨rfl,.inr ⟨rfl,a⟩,c⟩
 |cons x r=>
  refine(Vm R x word r b w h).mono ?_;rintro e w' ⟨rfl,⟨d,a⟩|⟨d,a⟩,c⟩
  .exact⟨rfl,.inl ⟨r,by simp[behind,d],a⟩,c⟩
  .exact⟨rfl,.inr ⟨by simp[behind,d],a⟩,c⟩
def JN(R:Nat)(b:Bool)(o:Option (Ty×List ByteArray))(w:L)(e:Ending)(w':L):Prop:=∃t:Tr,e=H (Zb #[C D t.k,F t.a t.l.length t.c])/\t.In w'/\t.Bl (w.heap.size<=·)/\Yi R A w w'/\MP R b (o.map (·.2)) w'/\∀p,o=I p->t.ty=p.1
theorem Mt{v u' v':Zi}(b:w.cell? ⟨k,0,A⟩=I u')(a:w.cell? ⟨k,1,A⟩=I v'):
  ((w.setCell ⟨k,0,A⟩ u).setCell ⟨k,1,A⟩ v).cell? ⟨k,0,A⟩=I u/\((w.setCell ⟨k,0,A⟩ u).setCell ⟨k,1,A⟩ v).cell? ⟨k,1,A⟩=I v:=by
 constructor
 .rw[Zd _ _ _ _ (by simp)];exact S _ _ _ b
 .refine S _ _ _ (u:=v') ?_;rw[Zd _ _ _ _ (by simp)];exact a
theorem KF{v:Zi}(h:Yi R A w w')(a:w.heap.size<=k):Yi R A w ((w'.setCell ⟨k,0,A⟩ u).setCell ⟨k,1,A⟩ v):=
 ⟨h.os,h.tape,h.output,by have:=h.size;simpa[World.setCell] using this,fun q hq h1 h2=>by
  have hn:q≠k:=by omega
  rw[ZB _ _ _ _ hn,ZB _ _ _ _ hn];exact h.block q hq h1 h2⟩
theorem O7(R n:Nat)(x:ByteArray)(r:List ByteArray)(hx:x≠Ok)(b:Bool)(w:L)(hg:Gl w)(hR:12<=R)(h:RS R (x::r) b w):
  T E 86 #[O (I ⟨R,0,A⟩)] w (JN R b (YX (n+1) (x::r)) w):=by
 have l:bL w (w.alloc (Zh #[C D 0,F A 0 0] 24)):=(J _ _).alloc (G _) _;have HN:Za (T E 51 #[O (I ⟨R,0,A⟩)] (w.alloc (Zh #[C D 0,F A 0 0] 24)) fun e w'=>e=H (.string x)/\RS R r b w'/\Yi R A (w.alloc (Zh #[C D 0,F A 0 0] 24)) w'):=Jn R x r b _ (h.below l);have a2:=h.lt;have hq:(x.toList==[40])=M:=by have:=(Lib.bytes_beq_false_iff x Ok).2 hx;rw[Ok,Lib.toList_data ⟨#[40]⟩] at this;exact this
 have HG:=Yx (hg.below l);have HX:Za (YX (n+1) (x::r)=(UC x MQ 0).map fun (k:Nat)=>(Ty.mk (k:Int) [],r)):=by have e:YX (n+1) (x::r)=if x=Ok then (behind Da r).bind fun r1=>(YX n r1).bind fun p=>(YX n p.2).bind fun q=>(behind Wt q.2).map fun r4=>(⟨3,[p.1,q.1]⟩,r4) else (UC x MQ 0).map fun (k:Nat)=>(Ty.mk (k:Int) [],r):=rfl;exact e.trans (if_neg hx)
 clear h hx hg;go_enter ZE,ZC;go_wp2_with fail;refine HN.out.mono ?_;rintro e c ⟨rfl,hr,y⟩;have z0:c.cell? ⟨w.heap.size,0,A⟩=I (C D 0):=y.cell (by simp[go_sem]) (by omega);have z1:c.cell? ⟨w.heap.size,1,A⟩=I (F A 0 0):=y.cell (by simp[go_sem]) (by omega);have o:=y.block w.heap.size (by simp) (by omega) (by simp);have z2:c.frozen? ⟨w.heap.size,0,A⟩=M:=(Zj (a:=⟨w.heap.size,0,A⟩) o).trans (by simp[go_sem]);have z3:c.frozen? ⟨w.heap.size,1,A⟩=M:=(Zj (a:=⟨w.heap.size,1,A⟩) o).trans (by simp[go_sem]);have g:=Yx (HG.out.kept hR y);have HK:=Yx ((Yi.of_below l).trans y);have HR:=Yx hr;have a1:w.heap.size<c.heap.size:=V _ _ z0;clear y hr o HN HG;cases ha:UC x MQ 0 with
 |none=>
  have HT:Za (T E 126 #[.string x] c fun e w'=>e=H (Ze #[C D 0,.bool M])/\w'=c):=by have:=JW x c g.out;rw[ha] at this;exact this
  have HO:Za (YX (n+1) (x::r)=A):=by show _=_;rw[HX.out,ha];rfl
  have HF:=Yx (Jz R r b c HR.out);clear ha HX g;go_wp2_with fail;refine HT.out.mono ?_;rintro e w2 ⟨rfl,rfl⟩;go_wp2_with fail;refine HF.out.mono ?_;rintro e w3 ⟨rfl,a0,d⟩;have i:w.heap.size≠R:=by omega
  have y0:=d.cell z0 i;have y1:=d.cell z1 i;have j:=d.block w.heap.size a1 i (by simp);have y2:=(Zj (a:=⟨w.heap.size,0,A⟩) j).trans z2;have y3:=(Zj (a:=⟨w.heap.size,1,A⟩) j).trans z3;have z:=Un a0 (HK.out.trans d);clear a0 d j z0 z1 z2 z3 HF HT HR HK;go_wp2_with fail;refine Y (v:=Zb #[C D 0,F A 0 0]) ?_ rfl ⟨Yr 0,rfl,YB _ _,YG _ _,?_,?_,?_⟩
  .have hc:=Mt (u:=C D 0) (v:=F A 0 0) y0 y1;simp[results,Zu,go_sem,hc.1,hc.2]
  .exact KF z.out.2 (G _)
  .exact .inr ⟨by rw[HO.out];rfl,z.out.1.set2 (by omega)⟩
  .intro p hp;rw[HO.out] at hp;cases hp
 |some k=>
  have HT:Za (T E 126 #[.string x] c fun e w'=>e=H (Ze #[C D (k:Int),.bool Z])/\w'=c):=by have:=JW x c g.out;rw[ha] at this;exact this
  have HO:Za (YX (n+1) (x::r)=I (⟨(k:Int),[]⟩,r)):=by show _=_;rw[HX.out,ha];rfl
  clear ha HX g;go_wp2_with fail;refine HT.out.mono ?_;rintro e w2 ⟨rfl,rfl⟩;go_wp2_with fail;refine Y (v:=Zb #[C D (k:Int),F A 0 0]) ?_ rfl ⟨Yr (k:Int),rfl,YB _ _,YG _ _,?_,?_,?_⟩
  .have hc:=Mt (u:=C D (k:Int)) (v:=F A 0 0) z0 z1;simp[results,Zu,go_sem,hc.1,hc.2]
  .exact KF HK.out (G _)
  .exact .inl ⟨r,by rw[HO.out];rfl,HR.out.set2 (by omega)⟩
  .intro p hp;rw[HO.out] at hp;cases hp;simp[Yr,Tr.ty_mk]
def X3(o:Option (List ByteArray))(b:Bool)(ws':List ByteArray)(b':Bool):Prop:=(o=I ws'/\b'=b)\/(o=A/\ws'=[]/\b'=Z)
theorem MP.letters(h:MP R b o w):∃ws' b',RS R ws' b' w/\X3 o b ws' b':=by
 rcases h with⟨r,c,a⟩|⟨c,a⟩
 .exact⟨r,b,a,.inl ⟨c,rfl⟩⟩
 .exact⟨[],Z,a,.inr ⟨c,rfl,rfl⟩⟩
theorem X3.after(h:X3 o b ws' b')(c:RS R ws' b' w):MP R b o w:=by
 rcases h with⟨a,rfl⟩|⟨a,rfl,rfl⟩
 .exact .inl ⟨_,a,c⟩
 .exact .inr ⟨a,c⟩
theorem Ld{x:ByteArray}{ws r:List ByteArray}(h:behind x ws=I r):r.length<ws.length:=by
 cases ws with
 |nil=>cases h
 |cons y s=>
  simp only[behind] at h;split at h
  .cases h;simp
  .cases h
theorem JY:∀(n:Nat)(ws:List ByteArray)(p:Ty×List ByteArray),YX n ws=I p->p.2.length<ws.length
 |0,_,_,h=>by simp[YX] at h
 |n+1,[],_,h=>by simp[YX] at h
 |n+1,x::r,p,h=>by
  simp only[YX] at h;split at h
  .simp only[Zs,Q] at h;obtain⟨r1,h1,q1,h2,q2,h3,r4,h4,rfl⟩:=h;have a1:=Ld h1;have a2:=JY n _ _ h2;have a3:=JY n _ _ h3;have a4:=Ld h4;simp only[Zn];omega
  .simp only[Q] at h;obtain⟨k,_,rfl⟩:=h;simp
theorem Ma(n:Nat):YX n []=A:=by cases n<;>rfl
theorem X3.len{N:Nat}(h:X3 o b ws' b')(a:∀r,o=I r->r.length<=N):ws'.length<=N:=by
 rcases h with⟨c,_⟩|⟨_,rfl,_⟩
 .exact a _ c
 .exact Nat.zero_le _
theorem Qf(R n:Nat)(b:Bool)(w:L)(r:Gl w)(hR:12<=R)(h:RS R [] b w):
  T E 86 #[O (I ⟨R,0,A⟩)] w (JN R b (YX n []) w):=by
 have i:Zf w.heap.size w (w.alloc (Zh #[C D 0,F A 0 0] 24)):=(J _ _).alloc (G _) _;have HN:Za (T E 51 #[O (I ⟨R,0,A⟩)] (w.alloc (Zh #[C D 0,F A 0 0] 24)) fun e w'=>e=H (.string ⟨#[]⟩)/\RS R [] Z w'/\Yi R A (w.alloc (Zh #[C D 0,F A 0 0] 24)) w'):=MA R b _ (h.below i);have a0:=h.lt;have HG:Za (Gl (w.alloc (Zh #[C D 0,F A 0 0] 24))):=r.below i;rw[Ma];clear h r;go_enter ZE,ZC;go_wp2_with fail;refine HN.out.mono ?_;rintro e c ⟨rfl,hr,g⟩;have q:c.cell? ⟨w.heap.size,0,A⟩=I (C D 0):=g.cell (by simp[go_sem]) (by omega);have z:c.cell? ⟨w.heap.size,1,A⟩=I (F A 0 0):=g.cell (by simp[go_sem]) (by omega);have y:c.frozen? ⟨w.heap.size,0,A⟩=M:=g.fz (by simp[go_sem]) (by simp) (by omega);have z3:c.frozen? ⟨w.heap.size,1,A⟩=M:=g.fz (by simp[go_sem]) (by simp) (by omega);have o:=Yx (HG.out.kept hR g);have HK:=Yx ((Yi.of_below i).trans g);have HR:=Yx hr;have k:w.heap.size<c.heap.size:=V _ _ q;have HT:Za (T E 126 #[.string ⟨#[]⟩] c fun e w'=>e=H (Ze #[C D 0,.bool M])/\w'=c):=JW ⟨#[]⟩ c o.out;have x:=Yx (Jz R [] Z c HR.out);clear g hr HN HG o;go_wp2_with fail;refine HT.out.mono ?_;rintro e w2 ⟨rfl,rfl⟩;go_wp2_with fail;refine x.out.mono ?_;rintro e w3 ⟨rfl,l,a⟩;have d:w.heap.size≠R:=by omega
 have y0:=a.cell q d;have y1:=a.cell z d;have y2:=a.fz y k d;have y3:=a.fz z3 k d;have j:=Un l (HK.out.trans a);clear l a q z y z3 x HT HR HK;go_wp2_with fail;refine Y (v:=Zb #[C D 0,F A 0 0]) ?_ rfl ⟨Yr 0,rfl,YB _ _,YG _ _,?_,?_,?_⟩
 .have hc:=Mt (u:=C D 0) (v:=F A 0 0) y0 y1;simp[results,Zu,go_sem,hc.1,hc.2]
 .exact KF j.out.2 (G _)
 .exact .inr ⟨rfl,j.out.1.set2 (by omega)⟩
 .intro p hp;cases hp
def OA(n:Nat)(r:List ByteArray):Option (Ty×List ByteArray):=(behind Da r).bind fun r1=>(YX n r1).bind fun p=>(YX n p.2).bind fun q=>(behind Wt q.2).map fun r4=>(⟨3,[p.1,q.1]⟩,r4)
theorem Tf{n:Nat}{r ws1 ws2 ws3 ws4:List ByteArray}{b1 b2 b3 b4:Bool}{t1 t2:Ty}
  (h1:X3 (behind Da r) b ws1 b1) (w:X3 ((YX n ws1).map (·.2)) b1 ws2 b2) (e2:∀p,YX n ws1=I p->t1=p.1)
  (z:X3 ((YX n ws2).map (·.2)) b2 ws3 b3) (e3:∀p,YX n ws2=I p->t2=p.1) (h4:X3 (behind Wt ws3) b3 ws4 b4) :
  X3 ((OA n r).map (·.2)) b ws4 b4/\∀p,OA n r=I p->(⟨3,[t1,t2]⟩:Ty)=p.1:=by
 have a:∀(o:Option (Ty×List ByteArray)),o=A->ws4=[]->b4=Z->X3 (o.map (·.2)) b ws4 b4/\∀p,o=I p->(⟨3,[t1,t2]⟩:Ty)=p.1:=by rintro o rfl rfl rfl;exact⟨.inr ⟨rfl,rfl,rfl⟩,fun p h=>by cases h⟩
 have d:ws3=[]->b3=Z->ws4=[]/\b4=Z:=by
  rintro rfl rfl;rcases h4 with⟨h,_⟩|⟨_,h,l⟩
  .cases h
  .exact⟨h,l⟩
 have g:ws2=[]->b2=Z->ws4=[]/\b4=Z:=by
  rintro rfl rfl;rw[Ma] at z;rcases z with⟨h,_⟩|⟨_,h,l⟩
  .cases h
  .exact d h l
 have k:ws1=[]->b1=Z->ws4=[]/\b4=Z:=by
  rintro rfl rfl;rw[Ma] at w;rcases w with⟨h,_⟩|⟨_,h,l⟩
  .cases h
  .exact g h l
 rcases h1 with⟨c,rfl⟩|⟨c,a0,a2⟩
 .rcases w with⟨ho2,rfl⟩|⟨ho2,hn2,hb2⟩
  .obtain⟨p,hp,hp2⟩:=Q.1 ho2;rcases z with⟨i,rfl⟩|⟨i,a4,a3⟩
   .obtain⟨q,hq,hq2⟩:=Q.1 i;subst hp2;rcases h4 with⟨j,rfl⟩|⟨j,u,a1⟩
    .subst hq2;have e:OA n r=I (⟨3,[p.1,q.1]⟩,ws4):=by simp[OA,c,hp,hq,j]
     rw[e];refine⟨.inl ⟨rfl,rfl⟩,fun x hx=>?_⟩;cases hx
     rw[e2 p hp,e3 q hq]
    .subst hq2;exact a _ (by simp[OA,c,hp,hq,j]) u a1
   .have hq:YX n p.2=A:=by rw[hp2];exact Zk.1 i
    obtain⟨x,y⟩:=d a4 a3;exact a _ (by simp[OA,c,hp,hq]) x y
  .have hq:=Zk.1 ho2;obtain⟨x,y⟩:=g hn2 hb2;exact a _ (by simp[OA,c,hq]) x y
 .obtain⟨x,y⟩:=k a0 a2;exact a _ (by simp[OA,c]) x y
theorem Tr.In.set2{v:Zi}{t:Tr}(h:t.In w)(c:t.Bl (·≠k)):t.In ((w.setCell ⟨k,0,A⟩ u).setCell ⟨k,1,A⟩ v):=by
 refine h.congr (P:=fun b=>b≠k) ?_ c;intro b a o;rw[Zd,Zd]
 .intro e;simp only[Addr.mk.injEq] at e;omega
 .intro e;simp only[Addr.mk.injEq] at e;omega
theorem VU(R n:Nat)(r:List ByteArray)(b:Bool)(w:L)(hg:Gl w)(hR:12<=R)(h:RS R r b w)(hn:r.length<=n)(bd:1<=n)
  (ih:Za (∀(ws:List ByteArray)(b:Bool)(w:L),ws.length<n->Gl w->RS R ws b w->T E 86 #[O (I ⟨R,0,A⟩)] w (JN R b (YX n ws) w))) :
  T E 125 #[O (I ⟨R,0,A⟩)] w (JN R b (OA n r) w):=by
 have ab:Zf w.heap.size w (w.alloc (Zh #[C D 0,F A 0 0] 24)):=(J _ _).alloc (G _) _;have HW:Za (T E 87 #[O (I ⟨R,0,A⟩),.string ⟨#[116,111]⟩] (w.alloc (Zh #[C D 0,F A 0 0] 24)) fun e w'=>e=H (Ze #[])/\MP R b (behind Da r) w'/\Yi R A (w.alloc (Zh #[C D 0,F A 0 0] 24)) w'):=NQ R Da (by decide) r b _ (h.below ab);have bc:=h.lt;have HG:Za (Gl (w.alloc (Zh #[C D 0,F A 0 0] 24))):=hg.below ab;have HL:Za (r.length<=n):=hn;clear h hg hn;go_enter func125,ntmps125;go_wp2_with fail;refine HW.out.mono ?_;rintro e w1 ⟨rfl,hA,hk⟩;obtain⟨aw,b1,ap,a7⟩:=hA.letters;have a9:aw.length<n:=by
  rcases a7 with⟨ho,_⟩|⟨_,rfl,_⟩
  .have:=Ld ho;have:=HL.out;omega
  .simp;omega
 have z0:w1.cell? ⟨w.heap.size,0,A⟩=I (C D 0):=hk.cell (by simp[go_sem]) (by omega);have z1:w1.cell? ⟨w.heap.size,1,A⟩=I (F A 0 0):=hk.cell (by simp[go_sem]) (by omega);have z2:w1.frozen? ⟨w.heap.size,0,A⟩=M:=hk.fz (by simp[go_sem]) (by simp) (by omega);have z3:w1.frozen? ⟨w.heap.size,1,A⟩=M:=hk.fz (by simp[go_sem]) (by simp) (by omega);have a6:w.heap.size<w1.heap.size:=V _ _ z0;have HZ:=Nm z0 z1 z2 z3;have b8:=Yx ((Yi.of_below ab).trans hk);have ao:=Yx (ih.out aw b1 w1 a9 (HG.out.kept hR hk) ap);have b0:=Yx (HG.out.kept hR hk);have b7:=Yx a7;have ay:=Yx a9;clear hk hA ap a7 a9 HW HG z0 z1 z2 z3;go_wp2_with fail;refine ao.out.mono ?_;rintro e w2 ⟨t1,rfl,q,a4,y,an,aq⟩;obtain⟨l,b2,ah,a8⟩:=an.letters;have aj:l.length<n:=by
  rcases a8 with⟨ho,_⟩|⟨_,rfl,_⟩
  .obtain⟨p,hp,rfl⟩:=Q.1 ho;have:=JY n _ _ hp;have:=ay.out;omega
  .simp;omega
 have bb:=y.size;have HA:=Sl a8 aq q a4 y;have ac:∀o,bL w2 (w2.alloc o):=fun o=>(J _ _).alloc (G _) _;have ar:Za (∀o,T E 86 #[O (I ⟨R,0,A⟩)] (w2.alloc o) (JN R b2 (YX n l) (w2.alloc o))):=fun o=>ih.out l b2 _ aj ((b0.out.kept hR y).below (ac o)) (ah.below (ac o));clear q a4 y an aq ah a8 aj ao b0 ay ac;go_wp2_with fail;refine(ar.out _).mono ?_;rintro e w3 ⟨t2,rfl,j,a3,k,am,ax⟩;obtain⟨ad,b3,az,af⟩:=am.letters;have x:w.heap.size≠R:=by omega
 have d:w2.heap.size≠R:=by omega
 have v0:=k.cell (b:=w2.heap.size) (i:=0) (v:=C D t1.k) (by simp[go_sem]) d;have v1:=k.cell (b:=w2.heap.size) (i:=1) (v:=t1.s) (by simp[go_sem]) d;have b9:w2.heap.size<w3.heap.size:=V _ _ v0;have ai:Yi R A w1 w3:=(HA.out.2.2.2.2.trans (Yi.of_below ((J _ _).alloc (G _) _))).trans k;have HB:Za (X3 ((YX n l).map (·.2)) b2 ad b3/\(∀p,YX n l=I p->t2.ty=p.1)/\t2.In w3/\t2.Bl (w2.heap.size<·)/\Yi R A w1 w3/\t1.In w3):=⟨af,ax,j,a3.mono (fun b h=>by simp at h;omega),ai,HA.out.2.2.1.keptR ((Yi.of_below ((J _ _).alloc (G _) _)).trans k) (HA.out.2.2.2.1.mono fun b h=>by omega)⟩
 have b6:∀o,bL w3 (w3.alloc o):=fun o=>(J _ _).alloc (G _) _;have ak:Za (∀o,T E 87 #[O (I ⟨R,0,A⟩),.string ⟨#[41]⟩] (w3.alloc o) fun e w'=>e=H (Ze #[])/\MP R b3 (behind Wt ad) w'/\Yi R A (w3.alloc o) w'):=fun o=>NQ R Wt (by decide) ad b3 _ (az.below (b6 o));clear j a3 k am ax az af ai ar b6;have HV:=Un v0 v1;clear v0 v1;go_wp2_with fail;refine(ak.out _).mono ?_;rintro e w4 ⟨rfl,au,z⟩;obtain⟨be,b4,av,al⟩:=au.letters;have c:Yi R A w3 w4:=(Yi.of_below ((J _ _).alloc (G _) _)).trans z;have a2:w3.heap.size≠R:=by omega
 have v0:=c.cell HV.out.1 d;have v1:=c.cell HV.out.2 d;have u0:=z.cell (b:=w3.heap.size) (i:=0) (v:=C D t2.k) (by simp[go_sem]) a2;have u1:=z.cell (b:=w3.heap.size) (i:=1) (v:=t2.s) (by simp[go_sem]) a2;have a1:=HB.out.2.2.2.2.1.trans c;have ba:w3.heap.size<w4.heap.size:=V _ _ u0;have q:=HB.out.2.2.2.2.2.keptR c (HA.out.2.2.2.1.mono fun b h=>by omega);have j:=HB.out.2.2.1.keptR c (HB.out.2.2.2.1.mono fun b h=>by omega);have HT:=Yx (Sw t1 t2 w4 q j);have HC:=KS al av a1;clear al av a1 c z au q j ak HV;go_wp2_with fail;refine HT.out.mono ?_;rintro e w5 ⟨g,b5,rfl,a5,aa⟩;have a:=HC.out.2.2.trans (Yi.of_below aa);have y0:=a.cell HZ.out.1 x;have y1:=a.cell HZ.out.2.1 x;have y2:=a.fz HZ.out.2.2.1 a6 x;have y3:=a.fz HZ.out.2.2.2 a6 x;have HD:=Nm (HC.out.2.1.below aa) (b8.out.trans a) a5 b5;clear b5 a5 aa a HT v0 v1 u0 u1;go_wp2_with fail;have a0:=Tf b7.out HA.out.1 (fun p hp=>HA.out.2.1 p hp) HB.out.1 (fun p hp=>HB.out.2.1 p hp) HC.out.1;have ae:(Tr.mk 3 (I ⟨g,0,A⟩) 2 [t1,t2]).Bl (w.heap.size<·):=by have:=HD.out.2.2.2;exact Tr.Bl_two (by omega) (HA.out.2.2.2.1.mono fun b h=>by omega) (HB.out.2.2.2.1.mono fun b h=>by omega)
 refine Y (v:=Zb #[C D 3,F (I ⟨g,0,A⟩) 2 2]) ?_ rfl ⟨Tr.mk 3 (I ⟨g,0,A⟩) 2 [t1,t2],rfl,HD.out.2.2.1.set2 (ae.mono fun b h=>by omega),ae.mono (fun b h=>by omega),KF HD.out.2.1 (G _),?_,?_⟩
 .have hc:=Mt (u:=C D 3) (v:=F (I ⟨g,0,A⟩) 2 2) y0 y1;simp[results,results125,go_sem,hc.1,hc.2]
 .exact a0.1.after (HD.out.1.set2 (by omega))
 .intro p hp;rw[<-a0.2 p hp];simp[Tr.ty_mk]
theorem O8(R n:Nat)(r:List ByteArray)(b:Bool)(w:L)(hR:12<=R)(x:Gl w)(h:RS R (Ok::r) b w)
  (ih:Za (∀(w:L),Gl w->RS R r b w->T E 125 #[O (I ⟨R,0,A⟩)] w (JN R b (OA n r) w))) :
  T E 86 #[O (I ⟨R,0,A⟩)] w (JN R b (YX (n+1) (Ok::r)) w):=by
 have g:Zf w.heap.size w (w.alloc (Zh #[C D 0,F A 0 0] 24)):=(J _ _).alloc (G _) _;have HN:Za (T E 51 #[O (I ⟨R,0,A⟩)] (w.alloc (Zh #[C D 0,F A 0 0] 24)) fun e w'=>e=H (.string ⟨#[40]⟩)/\RS R r b w'/\Yi R A (w.alloc (Zh #[C D 0,F A 0 0] 24)) w'):=Jn R Ok r b _ (h.below g);have a0:=h.lt;have HG:Za (Gl (w.alloc (Zh #[C D 0,F A 0 0] 24))):=x.below g;have e:YX (n+1) (Ok::r)=OA n r:=by rw[YX,if_pos rfl];rfl
 rw[e];clear h x e;go_enter ZE,ZC;go_wp2_with fail;refine HN.out.mono ?_;rintro e i ⟨rfl,hr,d⟩;have a:w.heap.size≠R:=by omega
 have q:i.cell? ⟨w.heap.size,0,A⟩=I (C D 0):=d.cell (by simp[go_sem]) a;have z:i.cell? ⟨w.heap.size,1,A⟩=I (F A 0 0):=d.cell (by simp[go_sem]) a;have y:i.frozen? ⟨w.heap.size,0,A⟩=M:=d.fz (by simp[go_sem]) (by simp) a;have z3:i.frozen? ⟨w.heap.size,1,A⟩=M:=d.fz (by simp[go_sem]) (by simp) a;have l:w.heap.size<i.heap.size:=V _ _ q;have HT:=Yx (ih.out i (HG.out.kept hR d) hr);have HK:=Yx ((Yi.of_below g).trans d);clear d hr HN HG;go_wp2_with fail;refine HT.out.mono ?_;rintro e w2 ⟨t,rfl,hi,k,c,hA,he⟩;have y0:=c.cell q a;have y1:=c.cell z a;have y2:=c.fz y l a;have y3:=c.fz z3 l a;have j:=Sl hi k (HK.out.trans c) hA he;clear hi k c hA he HK HT q z y z3;go_wp2_with fail;obtain⟨a1,b',p,o⟩:=j.out.2.2.2.1.letters;refine Y (v:=Zb t.v) ?_ rfl ⟨t,rfl,j.out.1.set2 (j.out.2.1.mono fun b h=>by omega),j.out.2.1.mono (fun b h=>by omega),KF j.out.2.2.1 (G _),o.after (p.set2 (by omega)),j.out.2.2.2.2⟩;have hc:=Mt (u:=C D t.k) (v:=t.s) y0 y1;simp[results,Zu,go_sem,hc.1,hc.2]
theorem Qg(R:Nat)(hR:12<=R)(n:Nat):∀(ws:List ByteArray)(b:Bool)(w:L),ws.length<n->Gl w->RS R ws b w->
  T E 86 #[O (I ⟨R,0,A⟩)] w (JN R b (YX n ws) w):=by
 induction n with
 |zero=>intro ws b w h;omega
 |succ n ih=>
  intro ws b w c a h;cases ws with
  |nil=>exact Qf R (n+1) b w a hR h
  |cons x r=>
   by_cases hx:x=Ok
   .subst hx;refine O8 R n r b w hR a h (fun w a h=>?_);cases n with
    |zero=>simp at c
    |succ n=>exact VU R (n+1) r b w a hR h (by simp at c;omega) (by omega) ih
   .exact O7 R n x r hx b w a hR h
theorem AN(v0 v1 v2 v3 v4 v5 v6 v7 v8 v9:Zi)(w:L):(U 180 (Zb #[v0,v1,v2,v3,v4,v5,v6,v7,v8,v9]) (C D 0)).run E w=.ok v0 w:=by simp[U,Zc X,go_sem]
theorem AM(v0 v1 v2 v3 v4 v5 v6 v7 v8 v9:Zi)(w:L):(U 180 (Zb #[v0,v1,v2,v3,v4,v5,v6,v7,v8,v9]) (C D 1)).run E w=.ok v1 w:=by simp[U,Zc X,go_sem]
theorem AL(v0 v1 v2 v3 v4 v5 v6 v7 v8 v9:Zi)(w:L):(U 180 (Zb #[v0,v1,v2,v3,v4,v5,v6,v7,v8,v9]) (C D 2)).run E w=.ok v2 w:=by simp[U,Zc X,go_sem]
theorem AK(v0 v1 v2 v3 v4 v5 v6 v7 v8 v9:Zi)(w:L):(U 180 (Zb #[v0,v1,v2,v3,v4,v5,v6,v7,v8,v9]) (C D 3)).run E w=.ok v3 w:=by simp[U,Zc X,go_sem]
theorem AJ(v0 v1 v2 v3 v4 v5 v6 v7 v8 v9:Zi)(w:L):(U 180 (Zb #[v0,v1,v2,v3,v4,v5,v6,v7,v8,v9]) (C D 4)).run E w=.ok v4 w:=by simp[U,Zc X,go_sem]
theorem AI(v0 v1 v2 v3 v4 v5 v6 v7 v8 v9:Zi)(w:L):(U 180 (Zb #[v0,v1,v2,v3,v4,v5,v6,v7,v8,v9]) (C D 5)).run E w=.ok v5 w:=by simp[U,Zc X,go_sem]
theorem AH(v0 v1 v2 v3 v4 v5 v6 v7 v8 v9:Zi)(w:L):(U 180 (Zb #[v0,v1,v2,v3,v4,v5,v6,v7,v8,v9]) (C D 6)).run E w=.ok v6 w:=by simp[U,Zc X,go_sem]
theorem AG(v0 v1 v2 v3 v4 v5 v6 v7 v8 v9:Zi)(w:L):(U 180 (Zb #[v0,v1,v2,v3,v4,v5,v6,v7,v8,v9]) (C D 7)).run E w=.ok v7 w:=by simp[U,Zc X,go_sem]
theorem AF(v0 v1 v2 v3 v4 v5 v6 v7 v8 v9:Zi)(w:L):(U 180 (Zb #[v0,v1,v2,v3,v4,v5,v6,v7,v8,v9]) (C D 8)).run E w=.ok v8 w:=by simp[U,Zc X,go_sem]
theorem AE(v0 v1 v2 v3 v4 v5 v6 v7 v8 v9:Zi)(w:L):(U 180 (Zb #[v0,v1,v2,v3,v4,v5,v6,v7,v8,v9]) (C D 9)).run E w=.ok v9 w:=by simp[U,Zc X,go_sem]
theorem Ov(x:ByteArray)(w:L)(hg:Gl w):T E 84 #[.string x] w fun e w'=>e=H (M4 (Kn x))/\w'=w:=by
 have c0:=hg.wd.cell 0;have c1:=hg.wd.cell 1;have c2:=hg.wd.cell 2;have c3:=hg.wd.cell 3;have c4:=hg.wd.cell 4;have c5:=hg.wd.cell 5;have c6:=hg.wd.cell 6;have c7:=hg.wd.cell 7;have c8:=hg.wd.cell 8;have c9:=hg.wd.cell 9;simp only[List.getElem?_toArray,List.getElem?_cons_zero,List.getElem?_cons_succ] at c0 c1 c2 c3 c4 c5 c6 c7 c8 c9;clear hg;obtain⟨d,he⟩:∃b,x.toList.isEmpty=b:=⟨_,rfl⟩
 have HE:=Yx he;obtain⟨b4,p⟩:∃b,((⟨#[97,100,100]⟩:ByteArray).toList==x.toList)=b:=⟨_,rfl⟩
 have H4:=Yx p;have k4:([97,100,100]==x.toList)=b4:=by rw[<-p,Lib.toList_data ⟨#[97,100,100]⟩]
 obtain⟨g,r⟩:∃b,((⟨#[108,101,115,115]⟩:ByteArray).toList==x.toList)=b:=⟨_,rfl⟩
 have H5:=Yx r;have k5:([108,101,115,115]==x.toList)=g:=by rw[<-r,Lib.toList_data ⟨#[108,101,115,115]⟩]
 obtain⟨o,h6⟩:∃b,((⟨#[105,102]⟩:ByteArray).toList==x.toList)=b:=⟨_,rfl⟩
 have H6:=Yx h6;have k6:([105,102]==x.toList)=o:=by rw[<-h6,Lib.toList_data ⟨#[105,102]⟩]
 obtain⟨y,q⟩:∃b,((⟨#[102,117,110]⟩:ByteArray).toList==x.toList)=b:=⟨_,rfl⟩
 have H7:=Yx q;have k7:([102,117,110]==x.toList)=y:=by rw[<-q,Lib.toList_data ⟨#[102,117,110]⟩]
 obtain⟨b8,z⟩:∃b,((⟨#[99,97,108,108]⟩:ByteArray).toList==x.toList)=b:=⟨_,rfl⟩
 have H8:=Yx z;have k8:([99,97,108,108]==x.toList)=b8:=by rw[<-z,Lib.toList_data ⟨#[99,97,108,108]⟩]
 obtain⟨u,h9⟩:∃b,((⟨#[97,115]⟩:ByteArray).toList==x.toList)=b:=⟨_,rfl⟩
 have H9:=Yx h9;have k9:([97,115]==x.toList)=u:=by rw[<-h9,Lib.toList_data ⟨#[97,115]⟩]
 clear p r h6 q z h9;have x0:=AN (.string ⟨#[]⟩) (.string ⟨#[]⟩) (.string ⟨#[]⟩) (.string ⟨#[]⟩) (.string ⟨#[97,100,100]⟩) (.string ⟨#[108,101,115,115]⟩) (.string ⟨#[105,102]⟩) (.string ⟨#[102,117,110]⟩) (.string ⟨#[99,97,108,108]⟩) (.string ⟨#[97,115]⟩);have x1:=AM (.string ⟨#[]⟩) (.string ⟨#[]⟩) (.string ⟨#[]⟩) (.string ⟨#[]⟩) (.string ⟨#[97,100,100]⟩) (.string ⟨#[108,101,115,115]⟩) (.string ⟨#[105,102]⟩) (.string ⟨#[102,117,110]⟩) (.string ⟨#[99,97,108,108]⟩) (.string ⟨#[97,115]⟩);have x2:=AL (.string ⟨#[]⟩) (.string ⟨#[]⟩) (.string ⟨#[]⟩) (.string ⟨#[]⟩) (.string ⟨#[97,100,100]⟩) (.string ⟨#[108,101,115,115]⟩) (.string ⟨#[105,102]⟩) (.string ⟨#[102,117,110]⟩) (.string ⟨#[99,97,108,108]⟩) (.string ⟨#[97,115]⟩);have x3:=AK (.string ⟨#[]⟩) (.string ⟨#[]⟩) (.string ⟨#[]⟩) (.string ⟨#[]⟩) (.string ⟨#[97,100,100]⟩) (.string ⟨#[108,101,115,115]⟩) (.string ⟨#[105,102]⟩) (.string ⟨#[102,117,110]⟩) (.string ⟨#[99,97,108,108]⟩) (.string ⟨#[97,115]⟩);have x4:=AJ (.string ⟨#[]⟩) (.string ⟨#[]⟩) (.string ⟨#[]⟩) (.string ⟨#[]⟩) (.string ⟨#[97,100,100]⟩) (.string ⟨#[108,101,115,115]⟩) (.string ⟨#[105,102]⟩) (.string ⟨#[102,117,110]⟩) (.string ⟨#[99,97,108,108]⟩) (.string ⟨#[97,115]⟩);have x5:=AI (.string ⟨#[]⟩) (.string ⟨#[]⟩) (.string ⟨#[]⟩) (.string ⟨#[]⟩) (.string ⟨#[97,100,100]⟩) (.string ⟨#[108,101,115,115]⟩) (.string ⟨#[105,102]⟩) (.string ⟨#[102,117,110]⟩) (.string ⟨#[99,97,108,108]⟩) (.string ⟨#[97,115]⟩);have x6:=AH (.string ⟨#[]⟩) (.string ⟨#[]⟩) (.string ⟨#[]⟩) (.string ⟨#[]⟩) (.string ⟨#[97,100,100]⟩) (.string ⟨#[108,101,115,115]⟩) (.string ⟨#[105,102]⟩) (.string ⟨#[102,117,110]⟩) (.string ⟨#[99,97,108,108]⟩) (.string ⟨#[97,115]⟩);have x7:=AG (.string ⟨#[]⟩) (.string ⟨#[]⟩) (.string ⟨#[]⟩) (.string ⟨#[]⟩) (.string ⟨#[97,100,100]⟩) (.string ⟨#[108,101,115,115]⟩) (.string ⟨#[105,102]⟩) (.string ⟨#[102,117,110]⟩) (.string ⟨#[99,97,108,108]⟩) (.string ⟨#[97,115]⟩);have x8:=AF (.string ⟨#[]⟩) (.string ⟨#[]⟩) (.string ⟨#[]⟩) (.string ⟨#[]⟩) (.string ⟨#[97,100,100]⟩) (.string ⟨#[108,101,115,115]⟩) (.string ⟨#[105,102]⟩) (.string ⟨#[102,117,110]⟩) (.string ⟨#[99,97,108,108]⟩) (.string ⟨#[97,115]⟩);have x9:=AE (.string ⟨#[]⟩) (.string ⟨#[]⟩) (.string ⟨#[]⟩) (.string ⟨#[]⟩) (.string ⟨#[97,100,100]⟩) (.string ⟨#[108,101,115,115]⟩) (.string ⟨#[105,102]⟩) (.string ⟨#[102,117,110]⟩) (.string ⟨#[99,97,108,108]⟩) (.string ⟨#[97,115]⟩);have c:Za (∀l:List UInt8,l≠[]->(l==x.toList)=Z->d=M):=by
  intro l hl h;have e:l=x.toList:=by simpa using h
  rw[<-HE.out,<-e];cases l with
  |nil=>exact absurd rfl hl
  |cons _ _=>rfl
 go_enter func84,ntmps84;go_wp2_with fail;go_loopg [7] 10 (fun k i wr=>∃j:Nat,k+j=10/\i=C D (j:Int)/\wr=w/\Za ((5<=j->b4=M)/\(6<=j->g=M)/\(7<=j->o=M)/\(8<=j->y=M)/\(9<=j->b8=M)/\(10<=j->u=M)))
 case atStart=>exact⟨0,rfl,rfl,rfl,fun h=>absurd h (by omega),fun h=>absurd h (by omega),fun h=>absurd h (by omega),fun h=>absurd h (by omega),fun h=>absurd h (by omega),fun h=>absurd h (by omega)⟩
 case round=>
  obtain⟨j,hj,rfl,rfl,a⟩:=hrel;obtain rfl|rfl|rfl|rfl|rfl|rfl|rfl|rfl|rfl|rfl|rfl:j=0\/j=1\/j=2\/j=3\/j=4\/j=5\/j=6\/j=7\/j=8\/j=9\/j=10:=by omega
  .cases d
   .go_wp2_with fail;go_roundg 9
    case measure=>omega
    case rel=>exact⟨1,rfl,rfl,rfl,fun h=>absurd h (by omega),fun h=>absurd h (by omega),fun h=>absurd h (by omega),fun h=>absurd h (by omega),fun h=>absurd h (by omega),fun h=>absurd h (by omega)⟩
   .go_wp2_with fail;go_roundg 9
    case measure=>omega
    case rel=>exact⟨1,rfl,rfl,rfl,fun h=>absurd h (by omega),fun h=>absurd h (by omega),fun h=>absurd h (by omega),fun h=>absurd h (by omega),fun h=>absurd h (by omega),fun h=>absurd h (by omega)⟩
  .cases d
   .go_wp2_with fail;go_roundg 8
    case measure=>omega
    case rel=>exact⟨2,rfl,rfl,rfl,fun h=>absurd h (by omega),fun h=>absurd h (by omega),fun h=>absurd h (by omega),fun h=>absurd h (by omega),fun h=>absurd h (by omega),fun h=>absurd h (by omega)⟩
   .go_wp2_with fail;go_roundg 8
    case measure=>omega
    case rel=>exact⟨2,rfl,rfl,rfl,fun h=>absurd h (by omega),fun h=>absurd h (by omega),fun h=>absurd h (by omega),fun h=>absurd h (by omega),fun h=>absurd h (by omega),fun h=>absurd h (by omega)⟩
  .cases d
   .go_wp2_with fail;go_roundg 7
    case measure=>omega
    case rel=>exact⟨3,rfl,rfl,rfl,fun h=>absurd h (by omega),fun h=>absurd h (by omega),fun h=>absurd h (by omega),fun h=>absurd h (by omega),fun h=>absurd h (by omega),fun h=>absurd h (by omega)⟩
   .go_wp2_with fail;go_roundg 7
    case measure=>omega
    case rel=>exact⟨3,rfl,rfl,rfl,fun h=>absurd h (by omega),fun h=>absurd h (by omega),fun h=>absurd h (by omega),fun h=>absurd h (by omega),fun h=>absurd h (by omega),fun h=>absurd h (by omega)⟩
  .cases d
   .go_wp2_with fail;go_roundg 6
    case measure=>omega
    case rel=>exact⟨4,rfl,rfl,rfl,fun h=>absurd h (by omega),fun h=>absurd h (by omega),fun h=>absurd h (by omega),fun h=>absurd h (by omega),fun h=>absurd h (by omega),fun h=>absurd h (by omega)⟩
   .go_wp2_with fail;go_roundg 6
    case measure=>omega
    case rel=>exact⟨4,rfl,rfl,rfl,fun h=>absurd h (by omega),fun h=>absurd h (by omega),fun h=>absurd h (by omega),fun h=>absurd h (by omega),fun h=>absurd h (by omega),fun h=>absurd h (by omega)⟩
  .cases b4
   .go_wp2_with fail;go_roundg 5
    case measure=>omega
    case rel=>exact⟨5,rfl,rfl,rfl,fun _=>trivial,fun h=>absurd h (by omega),fun h=>absurd h (by omega),fun h=>absurd h (by omega),fun h=>absurd h (by omega),fun h=>absurd h (by omega)⟩
   .obtain rfl:=c.out [97,100,100] (by simp) k4;go_wp2_with fail;refine Y (v:=Ze #[C D 4,.bool Z]) (by simp[results,Zg,go_sem]) rfl ⟨?_,rfl⟩;rw[<-(Lib.bytes_beq_iff _ _).1 H4.out];rfl
  .obtain rfl:=a.out.1 (by omega);cases g
   .go_wp2_with fail;go_roundg 4
    case measure=>omega
    case rel=>exact⟨6,rfl,rfl,rfl,fun _=>trivial,fun _=>trivial,fun h=>absurd h (by omega),fun h=>absurd h (by omega),fun h=>absurd h (by omega),fun h=>absurd h (by omega)⟩
   .obtain rfl:=c.out [108,101,115,115] (by simp) k5;go_wp2_with fail;refine Y (v:=Ze #[C D 5,.bool Z]) (by simp[results,Zg,go_sem]) rfl ⟨?_,rfl⟩;rw[<-(Lib.bytes_beq_iff _ _).1 H5.out];rfl
  .obtain rfl:=a.out.1 (by omega);obtain rfl:=a.out.2.1 (by omega);cases o
   .go_wp2_with fail;go_roundg 3
    case measure=>omega
    case rel=>exact⟨7,rfl,rfl,rfl,fun _=>trivial,fun _=>trivial,fun _=>trivial,fun h=>absurd h (by omega),fun h=>absurd h (by omega),fun h=>absurd h (by omega)⟩
   .obtain rfl:=c.out [105,102] (by simp) k6;go_wp2_with fail;refine Y (v:=Ze #[C D 6,.bool Z]) (by simp[results,Zg,go_sem]) rfl ⟨?_,rfl⟩;rw[<-(Lib.bytes_beq_iff _ _).1 H6.out];rfl
  .obtain rfl:=a.out.1 (by omega);obtain rfl:=a.out.2.1 (by omega);obtain rfl:=a.out.2.2.1 (by omega);cases y
   .go_wp2_with fail;go_roundg 2
    case measure=>omega
    case rel=>exact⟨8,rfl,rfl,rfl,fun _=>trivial,fun _=>trivial,fun _=>trivial,fun _=>trivial,fun h=>absurd h (by omega),fun h=>absurd h (by omega)⟩
   .obtain rfl:=c.out [102,117,110] (by simp) k7;go_wp2_with fail;refine Y (v:=Ze #[C D 7,.bool Z]) (by simp[results,Zg,go_sem]) rfl ⟨?_,rfl⟩;rw[<-(Lib.bytes_beq_iff _ _).1 H7.out];rfl
  .obtain rfl:=a.out.1 (by omega);obtain rfl:=a.out.2.1 (by omega);obtain rfl:=a.out.2.2.1 (by omega);obtain rfl:=a.out.2.2.2.1 (by omega);cases b8
   .go_wp2_with fail;go_roundg 1
    case measure=>omega
    case rel=>exact⟨9,rfl,rfl,rfl,fun _=>trivial,fun _=>trivial,fun _=>trivial,fun _=>trivial,fun _=>trivial,fun h=>absurd h (by omega)⟩
   .obtain rfl:=c.out [99,97,108,108] (by simp) k8;go_wp2_with fail;refine Y (v:=Ze #[C D 8,.bool Z]) (by simp[results,Zg,go_sem]) rfl ⟨?_,rfl⟩;rw[<-(Lib.bytes_beq_iff _ _).1 H8.out];rfl
  .obtain rfl:=a.out.1 (by omega);obtain rfl:=a.out.2.1 (by omega);obtain rfl:=a.out.2.2.1 (by omega);obtain rfl:=a.out.2.2.2.1 (by omega);obtain rfl:=a.out.2.2.2.2.1 (by omega);cases u
   .go_wp2_with fail;go_roundg 0
    case measure=>omega
    case rel=>exact⟨10,rfl,rfl,rfl,fun _=>trivial,fun _=>trivial,fun _=>trivial,fun _=>trivial,fun _=>trivial,fun _=>trivial⟩
   .obtain rfl:=c.out [97,115] (by simp) k9;go_wp2_with fail;refine Y (v:=Ze #[C D 9,.bool Z]) (by simp[results,Zg,go_sem]) rfl ⟨?_,rfl⟩;rw[<-(Lib.bytes_beq_iff _ _).1 H9.out];rfl
  .obtain rfl:=a.out.1 (by omega);obtain rfl:=a.out.2.1 (by omega);obtain rfl:=a.out.2.2.1 (by omega);obtain rfl:=a.out.2.2.2.1 (by omega);obtain rfl:=a.out.2.2.2.2.1 (by omega);obtain rfl:=a.out.2.2.2.2.2 (by omega);go_wp2_with fail;refine Y (v:=Ze #[C D 0,.bool M]) (by simp[results,Zg,go_sem]) rfl ⟨?_,rfl⟩;simp[M4,Kn,UC,S9,Ua H4.out,Ua H5.out,Ua H6.out,Ua H7.out,Ua H8.out,Ua H9.out]
def MO(R:Nat)(ws:List ByteArray)(b:Bool)(d:ByteArray)(w:L)(e:Ending)(w':L):Prop:=∃n:Int,e=H (C D n)/\((Jc d=I n/\RS R ws b w')\/(Jc d=A/\RS R [] Z w'))/\Yi R A w w'
theorem Gl.pow(h:Gl w):Lib.TabIs E w "internal/strconv.uint64pow10" .u64 Lib.pow10Tab:=by
 obtain⟨t,fr,h⟩:=h.pw;have a:E.globalNamed "internal/strconv.uint64pow10"=I 11:=by kernel_rfl
 simp only[Lib.TabIs,World.var?,a,Zo,h]
theorem Om(R:Nat)(a:List ByteArray)(b:Bool)(d:ByteArray)(w:L)(h:RS R a b w)(q:Za (Jc d=A))
  (l:Za (T E 89 #[.string d] w fun e w'=>∃(n:Int)(N:Nat),e=H (Ze #[C D n,.iface 213 (O (I ⟨N,0,A⟩))])/\Zf w.heap.size w w')) :
  T E 55 #[O (I ⟨R,0,A⟩),.string d] w (MO R a b d w):=by
 go_enter ZF,ZD;go_wp2_with fail;refine l.out.mono ?_;rintro e g ⟨n,N,rfl,c⟩;have p:=Yx (Jz R a b g (h.below c));have j:Za (Yi R A w g):=Yi.of_below c;clear c l h;go_wp2_with fail;refine p.out.mono ?_;rintro e w2 ⟨rfl,k,i⟩;have o:=Un k (j.out.trans i);clear k i p j;go_wp2_with fail;go_ret;exact⟨0,rfl,.inr ⟨q.out,o.out.1⟩,o.out.2⟩
theorem VL(R:Nat)(o:List ByteArray)(b:Bool)(d:ByteArray)(v:Int)(w:L)(h:RS R o b w)
  (k:Za (T E 89 #[.string d] w fun e w'=>e=H (Ze #[C D v,.nilIface])/\Zf w.heap.size w w'))
  (j:Za (∀W,Zf w.heap.size w W->T E 90 #[C D v] W fun e w'=>e=H (.string ⟨(Lib.itoa v).toArray⟩)/\Zf W.heap.size W w'))
  (i:Za (Jc d=if (⟨(Lib.itoa v).toArray⟩:ByteArray)=d then I v else A)) :
  T E 55 #[O (I ⟨R,0,A⟩),.string d] w (MO R o b d w):=by
 obtain⟨s,r⟩:∃s:ByteArray,s=⟨(Lib.itoa v).toArray⟩:=⟨_,rfl⟩
 rw[<-r] at j i;clear r;by_cases hd:s=d
 .have hn:Za (Jc d=I v):=by show _=_;rw[i.out,if_pos hd]
  subst hd;clear i;go_enter ZF,ZD;go_wp2_with fail;refine k.out.mono ?_;rintro e y ⟨rfl,c⟩;have g:=Yx c;clear c k;go_wp2_with fail;refine(j.out _ g.out).mono ?_;rintro e w2 ⟨rfl,c⟩;have a:=Yx (g.out.trans (c.mono g.out.size));have l:=Yx (h.below a.out);clear c g h j;go_wp2_with fail;go_ret;exact⟨v,rfl,.inl ⟨hn.out,l.out⟩,Yi.of_below a.out⟩
 .have hn:Za (Jc d=A):=by show _=_;rw[i.out,if_neg hd]
  have p:(s.toList==d.toList)=M:=(Lib.bytes_beq_false_iff _ _).2 hd;have z:(!s.toList==d.toList)=Z:=by rw[p];rfl
  clear i hd;go_enter ZF,ZD;go_wp2_with fail;refine k.out.mono ?_;rintro e y ⟨rfl,c⟩;have g:=Yx c;clear c k;go_wp2_with fail;refine(j.out _ g.out).mono ?_;rintro e w2 ⟨rfl,c⟩;have a:=Yx (g.out.trans (c.mono g.out.size));have u:=Yx (Jz R o b w2 (h.below a.out));clear c g h j;go_wp2_with fail;refine u.out.mono ?_;rintro e w3 ⟨rfl,q,x⟩;have l:=Un q ((Yi.of_below a.out).trans x);clear q x u a;go_wp2_with fail;go_ret;exact⟨0,rfl,.inr ⟨hn.out,l.out.1⟩,l.out.2⟩
theorem TG(w:L)(k:Nat)(a:Array Obj):Zf w.heap.size w (Sort.grow (w.drewN k) a):=by
 refine⟨rfl,rfl,rfl,?_,fun i hi=>?_⟩
 .show w.heap.size<=(w.heap++a).size
  simp
 .show (w.heap++a)[i]?=w.heap[i]?
  exact Array.getElem?_append_left hi
theorem On(R:Nat)(ws:List ByteArray)(b:Bool)(d:ByteArray)(hd:d.size<=1000000)(w:L)(hg:Gl w)(h:RS R ws b w):
  T E 55 #[O (I ⟨R,0,A⟩),.string d] w (MO R ws b d w):=by
 cases ha:Lib.atoiAll d.data.toList with
 |ok v=>
  have l:=Lib.atoiAll_bounds ha;refine VL R ws b d v w h ?_ (fun W c=>?_) (by show _=_;simp only[Jc,ha])
  .refine(Tryz.strconv_Atoi_ok d (by omega) v ha w).mono ?_;rintro e w' ⟨rfl,rfl|⟨t,rfl⟩⟩
   .exact⟨rfl,J _ _⟩
   .exact⟨rfl,Lib.bytesWorld_below _ _ _⟩
  .refine(Tryz.strconv_Itoa v l.1 l.2 W (hg.below c).pow).mono ?_;rintro e w' ⟨rfl,k,o,rfl⟩;exact⟨rfl,TG _ _ _⟩
 |«syntax»=>obtain⟨a,g,i⟩:=hg.es;have j:=i.cell 0;refine Om R ws b d w h (by show _=_;simp only[Jc,ha]) ?_;refine(Tryz.strconv_Atoi_syntax d (by omega) ha (.iface a g) w (by simpa using j) (.inr ⟨a,g,rfl⟩)).mono ?_;rintro e w' ⟨N,rfl,_,_,c⟩;exact⟨0,N,rfl,c⟩
 |range=>obtain⟨a,g,i⟩:=hg.er;have j:=i.cell 0;refine Om R ws b d w h (by show _=_;simp only[Jc,ha]) ?_;refine(Tryz.strconv_Atoi_range d (by omega) ha (.iface a g) w (by simpa using j) (.inr ⟨a,g,rfl⟩)).mono ?_;rintro e w' ⟨N,rfl,_,_,c⟩;exact⟨_,N,rfl,c⟩
theorem Py(f:List ByteArray->Option (Tm×List ByteArray))(hf:∀ws p,f ws=I p->p.2.length<=ws.length):∀(m:Nat)(ws:List ByteArray)(q:List Tm×List ByteArray),UH f m ws=I q->q.2.length<=ws.length
 |0,ws,q,h=>by simp[UH] at h;rw[<-h];exact G _
 |m+1,ws,q,h=>by simp only[UH,Zs,Q] at h;obtain⟨p,hp,q',hq,rfl⟩:=h;have:=hf ws p hp;have:=Py f hf m _ _ hq;simp only;omega
def LZ(n:Nat):List ByteArray->Option (Tm×List ByteArray)
 |[]=>A
 |y::r1=>(Kn y).bind fun k=>(UT n k r1).bind fun p=>(UH (Y0 n) (YA (k:Int)) p.2).bind fun q=>(behind Wt q.2).map fun r4=>(⟨(k:Int),0,p.1,Yn,q.1⟩,r4)
theorem Kc(n:Nat)(r:List ByteArray):Y0 (n+1) (Ok::r)=LZ n r:=by cases r<;>simp[Y0,LZ]
theorem Kb(n:Nat)(x:ByteArray)(r:List ByteArray)(a:x≠Ok):Y0 (n+1) (x::r)=Xh x r:=by cases r<;>simp[Y0,a]
theorem VF{n:Nat}{ws:List ByteArray}{p:Ty×List ByteArray}(h:UT n k ws=I p):p.2.length<=ws.length:=by
 unfold UT at h;split at h
 .exact Nat.le_of_lt (JY n _ _ h)
 .cases h;exact G _
theorem Mw{x:ByteArray}{r:List ByteArray}{p:Tm×List ByteArray}(h:Xh x r=I p):p.2=r:=by
 unfold Xh at h;split at h
 .cases h;rfl
 .split at h
  .obtain⟨_,_,rfl⟩:=Q.1 h;rfl
  .obtain⟨_,_,rfl⟩:=Q.1 h;rfl
theorem Of:∀(n:Nat)(ws:List ByteArray)(p:Tm×List ByteArray),Y0 n ws=I p->p.2.length<ws.length
 |0,_,_,h=>by simp[Y0] at h
 |n+1,[],_,h=>by simp[Y0] at h
 |n+1,x::r,p,h=>by
  by_cases hx:x=Ok
  .subst hx;rw[Kc] at h;cases r with
   |nil=>cases h
   |cons y r1=>simp only[LZ,Zs,Q] at h;obtain⟨k,_,p1,h1,q,h2,r4,h3,rfl⟩:=h;have a1:=VF h1;have a2:=Py (Y0 n) (fun ws p hp=>Nat.le_of_lt (Of n ws p hp)) _ _ _ h2;have a3:=Ld h3;simp only[Zn];omega
  .rw[Kb n x r hx] at h;rw[Mw h];simp
theorem Mb(n:Nat):Y0 n []=A:=by cases n<;>rfl
def QC(f:List ByteArray->Option (Tm×List ByteArray))(m:Nat)(ws0:List ByteArray)(b:Bool)(j:Nat)(ws':List ByteArray)(b':Bool)(tms:List Tm):Prop:=(b'=b/\UH f m ws0=(UH f (m-j) ws').map (fun q=>(tms++q.1,q.2)))\/(ws'=[]/\b'=Z/\UH f m ws0=A)
theorem QC.start(f:List ByteArray->Option (Tm×List ByteArray))(m:Nat)(a:List ByteArray)(b:Bool):QC f m a b 0 a b []:=by refine .inl ⟨rfl,?_⟩;simp
theorem QC.step{f:List ByteArray->Option (Tm×List ByteArray)}{m j:Nat}{ws0 ws'':List ByteArray}{b'':Bool}{tms:List Tm}{x:Tm}(i:f []=A)(l:j<m)(h:QC f m ws0 b j ws' b' tms)
  (d:X3 ((f ws').map (·.2)) b' ws'' b'') (k:∀p,f ws'=I p->x=p.1):QC f m ws0 b (j+1) ws'' b'' (tms++[x]):=by
 rcases h with⟨rfl,h⟩|⟨rfl,rfl,h⟩
 .have e:m-j=(m-(j+1))+1:=by omega
  rw[e] at h;rcases d with⟨a,rfl⟩|⟨a,g,c⟩
  .obtain⟨p,hp,rfl⟩:=Q.1 a;refine .inl ⟨rfl,?_⟩;rw[h,UH,hp,k p hp];simp only[Zo,Option.map_map];congr 1;funext q;simp
  .have hp:=Zk.1 a;refine .inr ⟨g,c,?_⟩;rw[h,UH,hp];rfl
 .rw[i] at d;rcases d with⟨a,_⟩|⟨_,g,c⟩
  .cases a
  .exact .inr ⟨g,c,h⟩
theorem Tg{n:Nat}{y:ByteArray}{r1 ws1 ws2 ws3:List ByteArray}{b1 b2 b3:Bool}{t:Ty}{tms:List Tm}(hk:Kn y=I k)
  (h1:X3 ((UT n k r1).map (·.2)) b ws1 b1) (e1:∀p,UT n k r1=I p->t=p.1)
  (d:QC (Y0 n) (YA (k:Int)) ws1 b1 (YA (k:Int)) ws2 b2 tms) (h3:X3 (behind Wt ws2) b2 ws3 b3) (w:UT n k r1=A->0<YA (k:Int)) :
  X3 ((LZ n (y::r1)).map (·.2)) b ws3 b3/\∀p,LZ n (y::r1)=I p->(⟨(k:Int),0,t,Yn,tms⟩:Tm)=p.1:=by
 have g:∀(o:Option (Tm×List ByteArray)),o=A->ws3=[]->b3=Z->X3 (o.map (·.2)) b ws3 b3/\∀p,o=I p->(⟨(k:Int),0,t,Yn,tms⟩:Tm)=p.1:=by rintro o rfl rfl rfl;exact⟨.inr ⟨rfl,rfl,rfl⟩,fun p h=>by cases h⟩
 have i:ws2=[]->b2=Z->ws3=[]/\b3=Z:=by
  rintro rfl rfl;rcases h3 with⟨h,_⟩|⟨_,h,h'⟩
  .cases h
  .exact⟨h,h'⟩
 have e:LZ n (y::r1)=(UT n k r1).bind fun p=>(UH (Y0 n) (YA (k:Int)) p.2).bind fun q=>(behind Wt q.2).map fun r4=>(⟨(k:Int),0,p.1,Yn,q.1⟩,r4):=by simp only[LZ,hk,Zo]
 rw[e];rcases h1 with⟨j,rfl⟩|⟨j,a1,a2⟩
 .obtain⟨p,hp,hp2⟩:=Q.1 j;rw[hp,Zo,hp2];rcases d with⟨rfl,d⟩|⟨u,r,d⟩
  .rw[Nat.sub_self,UH] at d;simp only[Option.map_some,List.append_nil] at d;rw[d,Zo];rcases h3 with⟨l,rfl⟩|⟨l,a4,a3⟩
   .rw[l];refine⟨.inl ⟨rfl,rfl⟩,fun x hx=>?_⟩;cases hx
    rw[e1 p hp]
   .rw[l];exact g _ rfl a4 a3
  .rw[d];obtain⟨a,c⟩:=i u r;exact g _ rfl a c
 .have hp:=Zk.1 j;have hm:=w hp;rw[hp];subst a1 a2;have z:UH (Y0 n) (YA (k:Int)) []=A:=by
   obtain⟨m,a0⟩:∃m,YA (k:Int)=m+1:=⟨YA (k:Int)-1,by omega⟩
   rw[a0,UH,Mb];rfl
  rcases d with⟨rfl,d⟩|⟨u,r,_⟩
  .rw[z,Nat.sub_self,UH] at d;cases d
  .obtain⟨a,c⟩:=i u r;exact g _ rfl a c
def U7(R:Nat)(b:Bool)(o:Option (Tm×List ByteArray))(w:L)(e:Ending)(w':L):Prop:=∃x:TT,e=H (Zb #[C D x.k,C D x.n,C D x.t.k,F x.t.a x.t.l.length x.t.c,C D x.f.k,F x.f.a x.f.l.length x.f.c,F x.a x.l.length x.c])/\x.In w'/\x.Bl (w.heap.size<=·)/\Yi R A w w'/\MP R b (o.map (·.2)) w'/\∀p,o=I p->x.tm=p.1
theorem Jp(w:L):Xw (w.alloc (Zh #[C D 0,C D 0,C D 0,F A 0 0,C D 0,F A 0 0,F A 0 0] 27)) w.heap.size (YJ 0 0):=by
 refine⟨⟨?_,?_,?_,?_,?_,?_,?_⟩,fun i hi=>?_⟩
 .simp[go_sem,YJ]
 .simp[go_sem,YJ]
 .simp[go_sem,YJ]
 .simp[go_sem,YJ]
 .simp[go_sem,YJ]
 .simp[go_sem,YJ]
 .simp[go_sem,YJ]
 .simp[go_sem]
theorem Uo(b:Xw w k y):(w.setCell ⟨k,0,A⟩ (C D x.k)).cell? ⟨k,0,A⟩=I (C D x.k)/\((w.setCell ⟨k,0,A⟩ (C D x.k)).setCell ⟨k,1,A⟩ (C D x.n)).cell? ⟨k,1,A⟩=I (C D x.n)/\(((w.setCell ⟨k,0,A⟩ (C D x.k)).setCell ⟨k,1,A⟩ (C D x.n)).setCell ⟨k,2,A⟩ (C D x.t.k)).cell? ⟨k,2,A⟩=I (C D x.t.k)/\((((w.setCell ⟨k,0,A⟩ (C D x.k)).setCell ⟨k,1,A⟩ (C D x.n)).setCell ⟨k,2,A⟩ (C D x.t.k)).setCell ⟨k,3,A⟩ (F x.t.a x.t.l.length x.t.c)).cell? ⟨k,3,A⟩=I (F x.t.a x.t.l.length x.t.c)/\(((((w.setCell ⟨k,0,A⟩ (C D x.k)).setCell ⟨k,1,A⟩ (C D x.n)).setCell ⟨k,2,A⟩ (C D x.t.k)).setCell ⟨k,3,A⟩ (F x.t.a x.t.l.length x.t.c)).setCell ⟨k,4,A⟩ (C D x.f.k)).cell? ⟨k,4,A⟩=I (C D x.f.k)/\((((((w.setCell ⟨k,0,A⟩ (C D x.k)).setCell ⟨k,1,A⟩ (C D x.n)).setCell ⟨k,2,A⟩ (C D x.t.k)).setCell ⟨k,3,A⟩ (F x.t.a x.t.l.length x.t.c)).setCell ⟨k,4,A⟩ (C D x.f.k)).setCell ⟨k,5,A⟩ (F x.f.a x.f.l.length x.f.c)).cell? ⟨k,5,A⟩=I (F x.f.a x.f.l.length x.f.c)/\(((((((w.setCell ⟨k,0,A⟩ (C D x.k)).setCell ⟨k,1,A⟩ (C D x.n)).setCell ⟨k,2,A⟩ (C D x.t.k)).setCell ⟨k,3,A⟩ (F x.t.a x.t.l.length x.t.c)).setCell ⟨k,4,A⟩ (C D x.f.k)).setCell ⟨k,5,A⟩ (F x.f.a x.f.l.length x.f.c)).setCell ⟨k,6,A⟩ (F x.a x.l.length x.c)).cell? ⟨k,6,A⟩=I (F x.a x.l.length x.c):=by have a:=b.at7;have i:=a.c0;have l:=a.c1;have c:=a.c2;have d:=a.c3;have h:=a.c4;have e:=a.c5;have g:=a.c6;simp only[Zr] at i l c d h e g;exact⟨(S _ _ _ i),(S _ _ _ (Yp (j:=0) l)),(S _ _ _ (Yp (j:=1) (Yp (j:=0) c))),(S _ _ _ (Yp (j:=2) (Yp (j:=1) (Yp (j:=0) d)))),(S _ _ _ (Yp (j:=3) (Yp (j:=2) (Yp (j:=1) (Yp (j:=0) h))))),(S _ _ _ (Yp (j:=4) (Yp (j:=3) (Yp (j:=2) (Yp (j:=1) (Yp (j:=0) e)))))),(S _ _ _ (Yp (j:=5) (Yp (j:=4) (Yp (j:=3) (Yp (j:=2) (Yp (j:=1) (Yp (j:=0) g)))))))⟩
theorem MV{o:Option (Tm×List ByteArray)}{w2:L}(hbx:Xw w2 k y)(hk:w.heap.size<=k)(hR:R<k)(hi:x.In w2)(hbl:x.Bl (k<·))(hkp:Yi R A w w2)(hr:RS R ws' b' w2)(hs:X3 (o.map (·.2)) b ws' b')(he:∀p,o=I p->x.tm=p.1):
  U7 R b o w (H (Zb #[C D x.k,C D x.n,C D x.t.k,F x.t.a x.t.l.length x.t.c,C D x.f.k,F x.f.a x.f.l.length x.f.c,F x.a x.l.length x.c])) (Y5 w2 k x)/\X4 (Y5 w2 k x) k 0 x:=
 ⟨⟨x,rfl,hi.keptR YF (hbl.mono fun b h=>by omega),hbl.mono (fun b h=>by omega),hkp.new YF hk,hs.after (hr.new YF hR),he⟩,(XH hbx).at7⟩
def w7(w:L):L:=w.alloc (Zh #[C D 0,C D 0,C D 0,F A 0 0,C D 0,F A 0 0,F A 0 0] 27)
theorem Xv(w:L):Zf w.heap.size w (w7 w):=(J _ _).alloc (G _) _
theorem Ci(x:ByteArray)(d:List UInt8)(h:x.data.toList=35::d):Lib.trimPrefix x.data.toList [35]=d/\Lib.hasPrefix x.data.toList [35]=Z:=by rw[h];simp[Lib.trimPrefix,Lib.hasPrefix]
theorem CU(x:ByteArray)(h:∀d,x.data.toList≠35::d):Lib.hasPrefix x.data.toList [35]=M:=by
 cases hx:x.data.toList with
 |nil=>rfl
 |cons c r=>
  have:c≠35:=fun e=>h r (by rw[hx,e]);have a:(35==c)=M:=by simpa using fun e=>this e.symm
  simp[Lib.hasPrefix,List.isPrefixOf,a]
theorem Nq{ws:List ByteArray}{d:ByteArray}{e:Ending}(h:MO R ws b d w e w'):∃(n:Int)(ws':List ByteArray)(b':Bool),e=H (C D n)/\RS R ws' b' w'/\Yi R A w w'/\
  (∀K:Int->Tm,X3 (((Jc d).map fun n=>(K n,ws)).map (·.2)) b ws' b'/\∀p,((Jc d).map fun n=>(K n,ws))=I p->K n=p.1):=by
 obtain⟨n,j,⟨c,g⟩|⟨c,g⟩,i⟩:=h
 .exact⟨n,ws,b,j,g,i,fun K=>⟨.inl ⟨by rw[c];rfl,rfl⟩,fun p a=>by rw[c] at a;cases a;rfl⟩⟩
 .exact⟨n,[],Z,j,g,i,fun K=>⟨.inr ⟨by rw[c];rfl,rfl,rfl⟩,fun p a=>by rw[c] at a;cases a⟩⟩
theorem Nl(R:Nat)(x:ByteArray)(hxs:x.size<=1000000)(r:List ByteArray)(b b1:Bool)(o:Option (Tm×List ByteArray))(w:L)(hg:Gl w)(hR:12<=R)(hRl:R<w.heap.size)(hx:x≠Ok)
  (HN:Za (T E 51 #[O (I ⟨R,0,A⟩)] (w7 w) fun e w'=>e=H (.string x)/\RS R r b1 w'/\Yi R A (w7 w) w'))
  (HO:Za (∀(t:TT)ws' b',X3 ((Xh x r).map (·.2)) b1 ws' b'->(∀p,Xh x r=I p->t.tm=p.1)->X3 (o.map (·.2)) b ws' b'/\∀p,o=I p->t.tm=p.1)) :
  T E 33 #[O (I ⟨R,0,A⟩)] w (U7 R b o w):=by
 have hq:(x.toList==[40])=M:=by have:=(Lib.bytes_beq_false_iff x Ok).2 hx;rw[Ok,Lib.toList_data ⟨#[40]⟩] at this;exact this
 have HG:=Yx (hg.below (Xv w));clear hg hx;go_enter func33,ntmps33;go_wp2_with fail;refine HN.out.mono ?_;rintro e i ⟨rfl,hr,hk⟩;have a0:w.heap.size≠R:=by omega
 have a1:=(Jp w).kept hk a0;have a2:=a1.lt;have h:=Nm hr (HG.out.kept hR hk) ((Yi.of_below (Xv w)).trans hk) a1;clear hr hk HN HG a1;have u:=Yx (QN x i h.out.2.1);cases ha:UC x KV 0 with
 |some k=>
  rw[ha] at u;replace u:Za (T E 53 #[.string x] i fun e w'=>e=H (Ze #[C D (k:Int),.bool Z])/\w'=i):=u;have HE:Za (Xh x r=I (⟨3,(k:Int),Yn,Yn,[]⟩,r)):=by show _=_;simp[Xh,ha]
  clear ha;have a:=h.out.2.2.2.at7;have c0:=a.c0;have c1:=a.c1;have c2:=a.c2;have c3:=a.c3;have c4:=a.c4;have c5:=a.c5;have c6:=a.c6;simp only[Zr,YJ] at c0 c1 c2 c3 c4 c5 c6;have f0:=h.out.2.2.2.fz 0 (by omega);have f1:=h.out.2.2.2.fz 1 (by omega);have f2:=h.out.2.2.2.fz 2 (by omega);have f3:=h.out.2.2.2.fz 3 (by omega);have f4:=h.out.2.2.2.fz 4 (by omega);have f5:=h.out.2.2.2.fz 5 (by omega);have f6:=h.out.2.2.2.fz 6 (by omega);clear a;go_wp2_with fail;refine u.out.mono ?_;rintro e w2 ⟨rfl,rfl⟩;go_wp2_with fail;have h9:=HO.out (YJ 3 (k:Int)) r b1 (by rw[HE.out];exact .inl ⟨rfl,rfl⟩) (fun p hp=>by rw[HE.out] at hp;cases hp;exact N0 _ _);have hE:=MV (x:=YJ 3 (k:Int)) (w:=w) h.out.2.2.2 (G _) hRl (Ku _ _ _) (Ms _ _ _) h.out.2.2.1 h.out.1 h9.1 h9.2;refine Y (v:=Zb #[C D 3,C D (k:Int),C D 0,F A 0 0,C D 0,F A 0 0,F A 0 0]) ?_ rfl hE.1;obtain⟨d0,d1,z,d3,d4,d5,d6⟩:=Uo (x:=YJ 3 (k:Int)) h.out.2.2.2;simp only[YJ,Zy] at d0 d1 z d3 d4 d5 d6;simp[results,Zz,go_sem,d0,d1,z,d3,d4,d5,d6]
 |none=>
  rw[ha] at u;replace u:Za (T E 53 #[.string x] i fun e w'=>e=H (Ze #[C D 0,.bool M])/\w'=i):=u;by_cases hp:∃d,x.data.toList=35::d
  .obtain⟨d,hd⟩:=hp;have HE:Za (Xh x r=(Jc ⟨d.toArray⟩).map fun n=>(⟨1,n,Yn,Yn,[]⟩,r)):=by show _=_;simp[Xh,ha,hd]
   have HC:Za (T E 54 #[.string x,.string ⟨#[35]⟩] i fun e w'=>e=H (Ze #[.string ⟨d.toArray⟩,.bool Z])/\w'=i):=by have:=Tryz.strings_CutPrefix x ⟨#[35]⟩ i;have hc:=Ci x d hd;rw[show (⟨#[35]⟩:ByteArray).data.toList=[35] from rfl,hc.1,hc.2] at this;exact this
   have HM:Za (T E 55 #[O (I ⟨R,0,A⟩),.string ⟨d.toArray⟩] i (MO R r b1 ⟨d.toArray⟩ i)):=by
    refine On R r b1 ⟨d.toArray⟩ ?_ i h.out.2.1 h.out.1;have:x.data.toList.length=x.size:=Array.length_toList;rw[hd] at this;show d.toArray.size<=1000000
    simp at this ⊢;omega
   clear ha hd;go_wp2_with fail;refine u.out.mono ?_;rintro e w2 ⟨rfl,rfl⟩;go_wp2_with fail;refine HC.out.mono ?_;rintro e w3 ⟨rfl,rfl⟩;go_wp2_with fail;refine HM.out.mono ?_;intro e w4 g;obtain⟨n,ws',b',rfl,l,j,q⟩:=Nq g;have c:=KS (h.out.2.2.2.kept j a0) l (h.out.2.2.1.trans j);have HS:Za (X3 ((Xh x r).map (·.2)) b1 ws' b'/\∀p,Xh x r=I p->(YJ 1 n).tm=p.1):=by have:=q (fun n=>⟨1,n,Yn,Yn,[]⟩);rw[HE.out,N0];exact this
   have a:=c.out.1.at7;have c0:=a.c0;have c1:=a.c1;have c2:=a.c2;have c3:=a.c3;have c4:=a.c4;have c5:=a.c5;have c6:=a.c6;simp only[Zr,YJ] at c0 c1 c2 c3 c4 c5 c6;have f0:=c.out.1.fz 0 (by omega);have f1:=c.out.1.fz 1 (by omega);have f2:=c.out.1.fz 2 (by omega);have f3:=c.out.1.fz 3 (by omega);have f4:=c.out.1.fz 4 (by omega);have f5:=c.out.1.fz 5 (by omega);have f6:=c.out.1.fz 6 (by omega);clear a g l j q HM HC u;go_wp2_with fail;have h9:=HO.out (YJ 1 n) ws' b' HS.out.1 HS.out.2;have hE:=MV (x:=YJ 1 n) (w:=w) c.out.1 (G _) hRl (Ku _ _ _) (Ms _ _ _) c.out.2.2 c.out.2.1 h9.1 h9.2;refine Y (v:=Zb #[C D 1,C D n,C D 0,F A 0 0,C D 0,F A 0 0,F A 0 0]) ?_ rfl hE.1;obtain⟨d0,d1,z,d3,d4,d5,d6⟩:=Uo (x:=YJ 1 n) c.out.1;simp only[YJ,Zy] at d0 d1 z d3 d4 d5 d6;simp[results,Zz,go_sem,d0,d1,z,d3,d4,d5,d6]
  .have hp':∀d,x.data.toList≠35::d:=fun d hd=>hp ⟨d,hd⟩;have HE:Za (Xh x r=(Jc x).map fun n=>(⟨2,n,Yn,Yn,[]⟩,r)):=by
    show _=_
    simp only[Xh,ha]
   have HC:Za (T E 54 #[.string x,.string ⟨#[35]⟩] i fun e w'=>∃y,e=H (Ze #[.string y,.bool M])/\w'=i):=by refine(Tryz.strings_CutPrefix x ⟨#[35]⟩ i).mono ?_;rintro e w' ⟨rfl,rfl⟩;exact⟨⟨(Lib.trimPrefix x.data.toList [35]).toArray⟩,by rw[show (⟨#[35]⟩:ByteArray).data.toList=[35] from rfl,CU x hp'],rfl⟩
   have HM:=Yx (On R r b1 x hxs i h.out.2.1 h.out.1);clear ha hp hp';go_wp2_with fail;refine u.out.mono ?_;rintro e w2 ⟨rfl,rfl⟩;go_wp2_with fail;refine HC.out.mono ?_;rintro e w3 ⟨y,rfl,rfl⟩;go_wp2_with fail;refine HM.out.mono ?_;intro e w4 g;obtain⟨n,ws',b',rfl,l,j,q⟩:=Nq g;have c:=KS (h.out.2.2.2.kept j a0) l (h.out.2.2.1.trans j);have HS:Za (X3 ((Xh x r).map (·.2)) b1 ws' b'/\∀p,Xh x r=I p->(YJ 2 n).tm=p.1):=by have:=q (fun n=>⟨2,n,Yn,Yn,[]⟩);rw[HE.out,N0];exact this
   have a:=c.out.1.at7;have c0:=a.c0;have c1:=a.c1;have c2:=a.c2;have c3:=a.c3;have c4:=a.c4;have c5:=a.c5;have c6:=a.c6;simp only[Zr,YJ] at c0 c1 c2 c3 c4 c5 c6;have f0:=c.out.1.fz 0 (by omega);have f1:=c.out.1.fz 1 (by omega);have f2:=c.out.1.fz 2 (by omega);have f3:=c.out.1.fz 3 (by omega);have f4:=c.out.1.fz 4 (by omega);have f5:=c.out.1.fz 5 (by omega);have f6:=c.out.1.fz 6 (by omega);clear a g l j q HM HC u;go_wp2_with fail;have h9:=HO.out (YJ 2 n) ws' b' HS.out.1 HS.out.2;have hE:=MV (x:=YJ 2 n) (w:=w) c.out.1 (G _) hRl (Ku _ _ _) (Ms _ _ _) c.out.2.2 c.out.2.1 h9.1 h9.2;refine Y (v:=Zb #[C D 2,C D n,C D 0,F A 0 0,C D 0,F A 0 0,F A 0 0]) ?_ rfl hE.1;obtain⟨d0,d1,z,d3,d4,d5,d6⟩:=Uo (x:=YJ 2 n) c.out.1;simp only[YJ,Zy] at d0 d1 z d3 d4 d5 d6;simp[results,Zz,go_sem,d0,d1,z,d3,d4,d5,d6]
theorem Qh(R n:Nat)(b:Bool)(w:L)(o:Gl w)(k:12<=R)(h:RS R [] b w):
  T E 33 #[O (I ⟨R,0,A⟩)] w (U7 R b (Y0 n []) w):=by
 rw[Mb];refine Nl R ⟨#[]⟩ (by decide) [] b Z A w o k h.lt (by decide) (MA R b _ (h.below (Xv w))) ?_;intro t i r a _;have e:Xh ⟨#[]⟩ []=A:=by
  have g:UC ⟨#[]⟩ KV 0=A:=by decide
  have q:Jc ⟨#[]⟩=A:=rfl;simp only[Xh,g,q];rfl
 rw[e] at a;rcases a with⟨d,_⟩|⟨_,l,j⟩
 .cases d
 .exact⟨.inr ⟨rfl,l,j⟩,fun p c=>by cases c⟩
theorem O9(R n:Nat)(x:ByteArray)(a:x.size<=1000000)(r:List ByteArray)(c:x≠Ok)(b:Bool)(w:L)(j:Gl w)(g:12<=R)(h:RS R (x::r) b w):
  T E 33 #[O (I ⟨R,0,A⟩)] w (U7 R b (Y0 (n+1) (x::r)) w):=by
 rw[Kb n x r c];exact Nl R x a r b b (Xh x r) w j g h.lt c (Jn R x r b _ (h.below (Xv w))) (fun t d k i e=>⟨i,e⟩)
section
open Go.ChangeShapes Go.WideShapes Go.ChangeAt Go.RowKit
theorem Tryz.cells27:E.cellsOf 27=7:=by kernel_rfl
theorem Tryz.cells25:E.cellsOf 25=1:=by kernel_rfl
theorem Nw{base:Nat}{a:Addr}{l:List Zi}(h:w.cells? base a 7=I l):∀i,i<7->w.cell? (a.add i)=l[i]?:=by
 unfold World.cells? at h;split at h
 .intro i hi;have c:=Lib.mapM_at h i i (by simp[hi]);obtain⟨b,e,d⟩:=c;rw[e];exact d
 .cases h
end
end Go.Proofs.YtnddkmccagiclabGreatDoor
