/-
  For every term and every number of calls, together of bulk at most 1048576, however the term lies in memory, the call of chaperonelaw.RunTells returns true and leaves its arguments as they were: Run and Bare answer what the document's own answers say, errors too. The condition: the package-level tables hold what the program's text lays (the card ties that).
-/
import Derived.Test.YtnddkmccagiclabGreatDoorZtC
import Derived.Test.YtnddkmccagiclabGreatDoorZtD
import Derived.Test.YtnddkmccagiclabGreatDoorTie
import Derived.ShutString
import Derived.ChangeOld
import Derived.Deep.DeepHandedRow
set_option maxRecDepth 20000
set_option maxHeartbeats 16000000
open Go.RowKit Go.Proofs.Tryz
open Go.Value renaming int→A,slice→G,agg→X,tuple→Zh
open Go.IntKind renaming i64→D
open Option renaming none→I,some→M
open Go.Proofs.Tryz renaming prog→L,results20→Zg,f9→Zo,results35→Zq,func9→Zs,checked→Zt
open Nat renaming le_refl→N,zero_add→Zn
open Go.RowKit.Below renaming refl→O
open Go renaming cell_later→T,bodyPost_ret→Z,Calls→Ze,World→Zj
open Go.Obj renaming cells→U
open Go.Ending renaming returned→Y
open Bool renaming false→Za,true→Zr
open Go.World renaming block_lt_of_cell?→Zb,holding→Zf,cell?_of_block→Zi
open Go.RowKit renaming Hid→Zc
open List renaming setIfInBounds_toArray→Zd,set_cons_zero→Zk,set_cons_succ→Zl,getElem?_eq_getElem→Zm
open Option.some renaming inj→Zp
namespace Go.Proofs.YtnddkmccagiclabGreatDoor
theorem O0(m:Nat):∀(x:TT),x.sz<=m->∀(Q:Nat->Prop)(E:Tr)(c:Nat)(w:Zj),x.In w->E.In w->JM x.tm E.l.length->(∀u,u∈E.l->Yz 4 u=Zr)->x.sz+E.l.length<=900->c+x.sz<=900->x.Bl Q->E.Bl Q->(∀b,w.heap.size<=b->Q b)->∀(y0:Tm)(WC:Ty),Xq x.tm (E.l.map Tr.ty) c=M (y0,WC)->
  Ze L 58 #[X #[A D x.k,A D x.n,A D x.t.k,G x.t.a x.t.l.length x.t.c,A D x.f.k,G x.f.a x.f.l.length x.f.c,G x.a x.l.length x.c],G E.a E.l.length E.c,A D (c:Int)] w (Nd Q y0 w):=by
 induction m with
 |zero=>intro x h;have:=x.sz_pos;omega
 |succ m ih=>
  intro x hm Q E c w r k g d j a o l p y0 WC i;refine Wm Q x E c w r k g d j a o l p y0 WC i fun y q=>ih y ?_;have h1:=x.sz_eq;have e:y.tm.sz<=((x.l.map TT.tm).map Tm.sz).sum:=Ji _ _ (List.mem_map.2 ⟨_,q,rfl⟩);have e2:(x.l.map TT.tm).map Tm.sz=x.l.map TT.sz:=by rw[List.map_map];exact List.map_congr_left fun z _=>z.sz_tm.symm
  rw[e2,<-TT.sz_tm] at e;omega
theorem Pe(x:TT)(w:Zj)(hx:x.In w)(hsz:x.sz<=2000000)(hok:x.ok 100000000):Ze L 35 #[X #[A D x.k,A D x.n,A D x.t.k,G x.t.a x.t.l.length x.t.c,A D x.f.k,G x.f.a x.f.l.length x.f.c,G x.a x.l.length x.c]] w (LE x w):=by
 have aa:=CF.start x w;obtain⟨W1,a6⟩:∃W1,W1=(((w.alloc (U x.v 27)).alloc (U #[A D 0,A D 0,A D 0,G I 0 0,A D 0,G I 0 0,G I 0 0] 27)).alloc (U #[A D 0,G I 0 0] 24)):=⟨_,rfl⟩
 have an:bL w W1:=by rw[a6];exact(((O _ _).alloc (N _) _).alloc (by simp) _).alloc (by simp;omega) _
 rw[<-a6] at aa;obtain⟨gd,ac⟩:∃gd,Uh 0 x.tm=gd:=⟨_,rfl⟩
 have HG:Zc (Ze L 37 #[X x.v,A D 0] W1 fun e w'=>e=Y (.bool gd)/\bL W1 w'):=by have:=Oy x 0 W1 (hx.below an) hsz hok;rw[ac] at this;exact this
 have HX:=Nm hx ac an aa;obtain⟨p0,p1,p2,p3,p4,p5,p6⟩:=aa.at7;simp only[Zn] at p0 p1 p2 p3 p4 p5 p6;have ax:w.heap.size<W1.heap.size:=Zb _ _ p0;clear hx hsz hok aa ac an;go_enter func35,ntmps35;go_wp2_with fail;rw[<-a6];refine HG.out.mono ?_;rintro e w2 ⟨rfl,am⟩;have c:=HX.out.2.2.2.below am;have d:=HX.out.2.2.1.trans (am.mono HX.out.2.2.1.size);have r:=Un HX.out.1 HX.out.2.1;clear p0 p1 p2 p3 p4 p5 p6 HG HX am a6 ax;cases gd
 .have ah:Zc (∀W,CF w.heap.size x W->bL w W->Ze L 56 #[] W fun e w'=>e=Y (X #[A D 0,G I 0 0])/\CF w.heap.size x w'/\bL w w'):=fun W h1 h2=>by refine(UO W).mono ?_;rintro e w' ⟨rfl,rfl⟩;have o:bL W (W.alloc (U #[A D 0,G I 0 0] 24)):=(O _ _).alloc (N _) _;exact⟨rfl,h1.below o,h2.trans (o.mono h2.size)⟩
  go_wp2_with fail;refine(ah.out _ c d).mono ?_;clear c d;rintro e w3 ⟨rfl,c,d⟩;have HN:Zc (LE x w (Y (Zh #[X #[A D 0,A D 0,A D 0,G I 0 0,A D 0,G I 0 0,G I 0 0],X #[A D 0,G I 0 0],A D 1])) (XT w3 w.heap.size (YJ 0 0) (Yr 0))):=⟨d.trans ((UW w3 w.heap.size (YJ 0 0) (Yr 0) c.lt).mono (N _)),.inl ⟨r.out.2,rfl⟩⟩
  obtain⟨e0,e1,e2,e3,e4,e5,e6,e7,e8⟩:=c.ends (YJ 0 0) (Yr 0);obtain⟨_,⟨⟨y0,y1,y2,y3,y4,y5,y6⟩,f0,f1,f2,f3,f4,f5,f6⟩,u0,u1,g0,g1⟩:=c;clear d;go_wp2_with fail;refine Z (v:=Zh #[X #[A D 0,A D 0,A D 0,G I 0 0,A D 0,G I 0 0,G I 0 0],X #[A D 0,G I 0 0],A D 1]) ?_ rfl HN.out;unfold XT Y5 at e0 e1 e2 e3 e4 e5 e6 e7 e8;simp only[YJ,Yr,List.length_nil] at e0 e1 e2 e3 e4 e5 e6 e7 e8;simp[results,Zq,go_sem,e0,e1,e2,e3,e4,e5,e6,e7,e8]
 .obtain⟨hok,hsz⟩:=Lv r.out.2;have ar:=c.lt;have ab:x.sz<=40:=by rw[x.sz_tm];exact hsz
  have aw:=r.out.1.below d;have HC:Zc (Ze L 57 #[X x.v,G I 0 0] w2 (J5 (fun b=>b≠w.heap.size+1/\b≠w.heap.size+1+1) (Y3 x.tm []) w2)):=QK x.sz x (N _) _ (Yr 0) w2 aw (YB _ _) hok (fun u h=>by cases h) (by simp[Yr];omega) (r.out.1.bl.mono fun b o=>⟨by omega,by omega⟩) (YG _ _) (fun b o=>⟨by omega,by omega⟩)
  have HB:=Un ab hok;obtain⟨p0,p1,p2,p3,p4,p5,p6⟩:=c.at7;simp only[Zn] at p0 p1 p2 p3 p4 p5 p6;have av:w.heap.size<w2.heap.size:=Zb _ _ p0;clear hok hsz ab;go_wp2_with fail;refine HC.out.mono ?_;rintro e w3 ⟨t,bb,rfl,a2,ae,al,ai,a5⟩;obtain⟨KB,a9⟩:∃K,K=w3.heap.size:=⟨_,rfl⟩
  obtain⟨W4,a3⟩:∃W,W=w3.alloc (U t.v 24):=⟨_,rfl⟩
  have a0:bL w3 W4:=by rw[a3];exact(O _ _).alloc (N _) _
  have a1:=a5.trans (a0.mono a5.size);have l:=c.below a1;have p:=d.trans (a1.mono d.size);have k0:W4.cell? ⟨KB,0,I⟩=M (A D t.k):=by rw[a3,a9];simp[go_sem]
  have k1:W4.cell? ⟨KB,1,I⟩=M (G t.a t.l.length t.c):=by rw[a3,a9];simp[go_sem]
  have b2:w.heap.size+1+1<KB:=by have:=a5.size;omega
  have ak:=al.below a0;cases bb with
  |false=>
   have az:Zc (Xq x.tm [] 0=I):=by
    cases h:Xq x.tm [] 0 with
    |none=>rfl
    |some q=>have:=KC x.tm [] 0;rw[h] at this;rw[<-this] at a2;cases a2
   have ah:Zc (∀W,CF w.heap.size x W->bL w W->Ze L 56 #[] W fun e w'=>e=Y (X #[A D 0,G I 0 0])/\CF w.heap.size x w'/\bL w w'):=fun W h1 h2=>by refine(UO W).mono ?_;rintro e w' ⟨rfl,rfl⟩;have o:bL W (W.alloc (U #[A D 0,G I 0 0] 24)):=(O _ _).alloc (N _) _;exact⟨rfl,h1.below o,h2.trans (o.mono h2.size)⟩
   clear HC c a2 ae al ai a5 a0 a1 d k0 k1 ak p0 p1 p2 p3 p4 p5 p6 av ar;go_wp2_with fail;rw[<-a3];refine(ah.out _ l p).mono ?_;clear l p;rintro e z ⟨rfl,c,d⟩;have HN:Zc (LE x w (Y (Zh #[X #[A D 0,A D 0,A D 0,G I 0 0,A D 0,G I 0 0,G I 0 0],X #[A D 0,G I 0 0],A D 2])) (XT z w.heap.size (YJ 0 0) (Yr 0))):=⟨d.trans ((UW z w.heap.size (YJ 0 0) (Yr 0) c.lt).mono (N _)),.inr (.inl ⟨r.out.2,az.out,rfl⟩)⟩
   obtain⟨e0,e1,e2,e3,e4,e5,e6,e7,e8⟩:=c.ends (YJ 0 0) (Yr 0);obtain⟨_,⟨⟨y0,y1,y2,y3,y4,y5,y6⟩,f0,f1,f2,f3,f4,f5,f6⟩,u0,u1,g0,g1⟩:=c;clear d;go_wp2_with fail;refine Z (v:=Zh #[X #[A D 0,A D 0,A D 0,G I 0 0,A D 0,G I 0 0,G I 0 0],X #[A D 0,G I 0 0],A D 2]) ?_ rfl HN.out;unfold XT Y5 at e0 e1 e2 e3 e4 e5 e6 e7 e8;simp only[YJ,Yr,List.length_nil] at e0 e1 e2 e3 e4 e5 e6 e7 e8;simp[results,Zq,go_sem,e0,e1,e2,e3,e4,e5,e6,e7,e8]
  |true=>
   obtain⟨y0,i0,a4⟩:∃(y0:Tm)(i0:Ty),Zc (Xq x.tm [] 0=M (y0,i0)/\t.ty=i0):=by
    cases h:Xq x.tm [] 0 with
    |none=>have:=KC x.tm [] 0;rw[h] at this;rw[<-this] at a2;cases a2
    |some q=>have:=KC x.tm [] 0;rw[h] at this;exact⟨q.1,q.2,rfl,ae _ this.symm⟩
   have HT:=Un ak ai;have ao:Zc (Ze L 58 #[X x.v,G I 0 0,A D 0] W4.drew (Nd (fun b=>b≠w.heap.size+1/\b≠w.heap.size+1+1) y0 W4.drew)):=by have:=O0 x.sz x (N _) (fun b=>b≠w.heap.size+1/\b≠w.heap.size+1+1) (Yr 0) 0 W4.drew (r.out.1.below p.drew) (YB _ _) HB.out.2 (fun u h=>by cases h) (by have:=HB.out.1;simp[Yr];omega) (by have:=HB.out.1;omega) (r.out.1.bl.mono fun b o=>⟨by omega,by omega⟩) (YG _ _) (fun b o=>by have h:=l.lt;have h2:W4.drew.heap.size=W4.heap.size:=rfl;exact⟨by omega,by omega⟩) y0 i0 a4.out.1;exact this
   have HS:Zc (∀W:Zj,(∀k,k=w.heap.size\/k=KB->W.heap[k]?=W4.heap[k]?)->(fun W:Zj=>W.cell? ⟨w.heap.size,0,I⟩=M (A D x.k)/\W.cell? ⟨w.heap.size,1,I⟩=M (A D x.n)/\W.cell? ⟨w.heap.size,2,I⟩=M (A D x.t.k)/\W.cell? ⟨w.heap.size,3,I⟩=M (G x.t.a x.t.l.length x.t.c)/\W.cell? ⟨w.heap.size,4,I⟩=M (A D x.f.k)/\W.cell? ⟨w.heap.size,5,I⟩=M (G x.f.a x.f.l.length x.f.c)/\W.cell? ⟨w.heap.size,6,I⟩=M (G x.a x.l.length x.c)/\W.cell? ⟨KB,0,I⟩=M (A D t.k)/\W.cell? ⟨KB,1,I⟩=M (G t.a t.l.length t.c)) W):=by intro W h;have h7:=l.at7;obtain⟨c0,c1,c2,c3,c4,c5,c6⟩:=h7.of (w':=W) fun i=>Zi (a:=⟨w.heap.size,i,I⟩) (h _ (.inl rfl));simp only[Zn] at c0 c1 c2 c3 c4 c5 c6;exact⟨c0,c1,c2,c3,c4,c5,c6,(Zi (a:=⟨KB,0,I⟩) (h _ (.inr rfl))).trans k0,(Zi (a:=⟨KB,1,I⟩) (h _ (.inr rfl))).trans k1⟩
   have lK:KB<W4.heap.size:=Zb _ _ k0;have a8:=Un l p;clear HC c a2 ae al ai a5 a0 a1 d ak p0 p1 p2 p3 p4 p5 p6 av ar l p k0 k1;go_upto_region 6 with fail;rw[<-a3,<-a9];clear a3 a9;refine wp_region_held_drew (S:=fun W:Zj=>W.cell? ⟨w.heap.size,0,I⟩=M (A D x.k)/\W.cell? ⟨w.heap.size,1,I⟩=M (A D x.n)/\W.cell? ⟨w.heap.size,2,I⟩=M (A D x.t.k)/\W.cell? ⟨w.heap.size,3,I⟩=M (G x.t.a x.t.l.length x.t.c)/\W.cell? ⟨w.heap.size,4,I⟩=M (A D x.f.k)/\W.cell? ⟨w.heap.size,5,I⟩=M (G x.f.a x.f.l.length x.f.c)/\W.cell? ⟨w.heap.size,6,I⟩=M (G x.a x.l.length x.c)/\W.cell? ⟨KB,0,I⟩=M (A D t.k)/\W.cell? ⟨KB,1,I⟩=M (G t.a t.l.length t.c)) (by kernel_rfl) (HS.out _ (fun k _=>rfl)) (fun g=>?_);refine Po (i:=0) (v:=?_) rfl (by kernel_rfl) (by kernel_rfl) (by kernel_rfl) (fun _ _ _ h=>h) (Or.inl ⟨by rfl,?_⟩) g ?_;rotate_left;(focus (intro w' aj;(try dsimp only at aj);go_split_ands;first|(go_simp;done)|(go_simp;with_reducible rfl)));simp only[Act.put,Zd,Zk,Zl];refine Po (i:=2) (v:=?_) rfl (by kernel_rfl) (by kernel_rfl) (by kernel_rfl) (fun _ _ _ h=>h) (Or.inl ⟨by rfl,?_⟩) g ?_;rotate_left;(focus (intro w' aj;(try dsimp only at aj);go_split_ands;first|(go_simp;done)|(go_simp;with_reducible rfl)));simp only[Act.put,Zd,Zk,Zl];refine U2 (i:=1) rfl (by kernel_rfl) (fun K hK=>?_);go_simp;go_at_call 58;refine ao.out.mono ?_;rintro e z ⟨y,rfl,ay,ap,ad,au⟩;have j:Below W4.heap.size W4 z:=((O _ _).drew).trans (au.mono (N _));have c:=a8.out.1.below j;have d:=a8.out.2.trans (j.mono a8.out.2.size);have a7:∀k,k=w.heap.size\/k=KB->z.heap[k]?=W4.heap[k]?:=fun k hk=>j.block k (by rcases hk with rfl|rfl<;>omega);refine hK.out _ _ (HS.out _ a7) (fun g=>?_);clear hK K;have HN:Zc (LE x w (Y (Zh #[X #[A D y.k,A D y.n,A D y.t.k,G y.t.a y.t.l.length y.t.c,A D y.f.k,G y.f.a y.f.l.length y.f.c,G y.a y.l.length y.c],X #[A D t.k,G t.a t.l.length t.c],A D 0])) (XT z w.heap.size y t)):=by
    have h1:=YF (w:=z) (J:=w.heap.size+1) (x:=y);have h2:Yi (w.heap.size+1+1) I (Y5 z (w.heap.size+1) y) (XT z w.heap.size y t):=Yj.trans Yj;refine⟨d.trans ((UW z w.heap.size y t c.lt).mono (N _)),.inr (.inr ⟨r.out.2,y,t,?_,rfl,?_,?_,?_⟩)⟩
    .rw[a4.out.1,ay,a4.out.2]
    .exact(ap.keptR h1 (ad.mono fun b o=>o.1)).keptR h2 (ad.mono fun b o=>o.2)
    .exact((HT.out.1.below j).keptR h1 (HT.out.2.mono fun b o=>o.1)).keptR h2 (HT.out.2.mono fun b o=>o.2)
    .rw[YM];have:=JQ x.tm [] 0 y0 t.ty HB.out.2 (fun u h=>by cases h) (by rw[a4.out.1,a4.out.2]);have b0:=HB.out.1;rw[x.sz_tm] at b0;exact YH _ 44 _ (by omega) this
   obtain⟨e0,e1,e2,e3,e4,e5,e6,e7,e8⟩:=c.ends y t;have aq:Zc ((fun W:Zj=>W.cell? ⟨w.heap.size,0,I⟩=M (A D x.k)/\W.cell? ⟨w.heap.size,1,I⟩=M (A D x.n)/\W.cell? ⟨w.heap.size,2,I⟩=M (A D x.t.k)/\W.cell? ⟨w.heap.size,3,I⟩=M (G x.t.a x.t.l.length x.t.c)/\W.cell? ⟨w.heap.size,4,I⟩=M (A D x.f.k)/\W.cell? ⟨w.heap.size,5,I⟩=M (G x.f.a x.f.l.length x.f.c)/\W.cell? ⟨w.heap.size,6,I⟩=M (G x.a x.l.length x.c)/\W.cell? ⟨KB,0,I⟩=M (A D t.k)/\W.cell? ⟨KB,1,I⟩=M (G t.a t.l.length t.c)) (Y5 z (w.heap.size+1) y)):=HS.out _ fun k hk=>(YF.block k (by have:=j.size;rcases hk with rfl|rfl<;>omega) (by rcases hk with rfl|rfl<;>omega) (by simp)).trans (a7 k hk);have af:Zc ((fun W:Zj=>W.cell? ⟨w.heap.size,0,I⟩=M (A D x.k)/\W.cell? ⟨w.heap.size,1,I⟩=M (A D x.n)/\W.cell? ⟨w.heap.size,2,I⟩=M (A D x.t.k)/\W.cell? ⟨w.heap.size,3,I⟩=M (G x.t.a x.t.l.length x.t.c)/\W.cell? ⟨w.heap.size,4,I⟩=M (A D x.f.k)/\W.cell? ⟨w.heap.size,5,I⟩=M (G x.f.a x.f.l.length x.f.c)/\W.cell? ⟨w.heap.size,6,I⟩=M (G x.a x.l.length x.c)/\W.cell? ⟨KB,0,I⟩=M (A D t.k)/\W.cell? ⟨KB,1,I⟩=M (G t.a t.l.length t.c)) (XT z w.heap.size y t)):=HS.out _ fun k hk=>by
    have h2:Yi (w.heap.size+1+1) I (Y5 z (w.heap.size+1) y) (XT z w.heap.size y t):=Yj.trans Yj;have hsz:(Y5 z (w.heap.size+1) y).heap.size=z.heap.size:=by simp[Y5,World.setCell]
    exact(h2.block k (by have:=j.size;rcases hk with rfl|rfl<;>omega) (by rcases hk with rfl|rfl<;>omega) (by simp)).trans ((YF.block k (by have:=j.size;rcases hk with rfl|rfl<;>omega) (by rcases hk with rfl|rfl<;>omega) (by simp)).trans (a7 k hk))
   obtain⟨_,⟨⟨b1,y1,y2,y3,y4,y5,y6⟩,f0,f1,f2,f3,f4,f5,f6⟩,u0,u1,g0,g1⟩:=c;unfold XT at af;unfold Y5 at aq af;unfold XT Y5 at e0 e1 e2 e3 e4 e5 e6 e7 e8;clear ap ad au j d a7 HS a8 ao HT;refine U2 (i:=3) rfl (by kernel_rfl) (fun K hK=>?_);go_simp;refine hK.out _ _ aq.out (fun g=>?_);clear hK K;refine U2 (i:=4) rfl (by kernel_rfl) (fun K hK=>?_);go_simp;refine hK.out _ _ af.out (fun g=>?_);clear hK K;refine qk 5 (v:=?_) rfl (by kernel_rfl) (fun _ _ _ h=>h) (by rfl) g ?_ ?_;rotate_left;(focus (intro w' h;go_split_ands;go_simp;try with_reducible rfl));simp only[Act.put,Zd,Zk,Zl];refine wpAnyH_done (by kernel_rfl) ?_ _;go_wp2_with fail;refine Z (v:=Zh #[X y.v,X t.v,A D 0]) ?_ rfl HN.out;simp[results,Zq,go_sem,e0,e1,e2,e3,e4,e5,e6,e7,e8]
theorem S8(x:TT)(f:Int)(w:Zj)(hx:x.In w)(a6:x.sz<=2000000)(a7:x.ok 100000000):
  Ze L 20 #[X #[A D x.k,A D x.n,A D x.t.k,G x.t.a x.t.l.length x.t.c,A D x.f.k,G x.f.a x.f.l.length x.f.c,G x.a x.l.length x.c],A D f] w (Uk (K2 x.tm f) w):=by
 obtain⟨W1,j⟩:∃W,W=(w.alloc (U x.v 27)).alloc (U #[A D 0,A D 0,.bool Za] 29):=⟨_,rfl⟩
 have a4:bL w W1:=by rw[j];exact((O _ _).alloc (N _) _).alloc (by simp) _
 have a3:W1.heap.size=w.heap.size+1+1:=by rw[j];simp
 have z0:W1.cell? ⟨w.heap.size+1,0,I⟩=M (A D 0):=by rw[j];simp[go_sem]
 have z1:W1.cell? ⟨w.heap.size+1,1,I⟩=M (A D 0):=by rw[j];simp[go_sem]
 have z2:W1.cell? ⟨w.heap.size+1,2,I⟩=M (.bool Za):=by rw[j];simp[go_sem]
 have zf:∀i,W1.frozen? ⟨w.heap.size+1,i,I⟩=Za:=by intro i;rw[j];simp[go_sem]
 have HC:=Yx (Pe x W1 (hx.below a4) a6 a7);have HZ:Zc (∀W,bL W1 W->cL W (w.heap.size+1) 0 (A D 0)/\cL W (w.heap.size+1) 1 (A D 0)/\cL W (w.heap.size+1) 2 (.bool Za)/\W.frozen? ⟨w.heap.size+1,0,I⟩=Za/\W.frozen? ⟨w.heap.size+1,1,I⟩=Za/\W.frozen? ⟨w.heap.size+1,2,I⟩=Za/\w.heap.size+1<W.heap.size/\bL w W):=fun W hW=>⟨T hW z0,T hW z1,T hW z2,(hW.frozen (p:=⟨w.heap.size+1,0,I⟩) (by rw[a3];show w.heap.size+1<_;omega)).trans (zf 0),(hW.frozen (p:=⟨w.heap.size+1,1,I⟩) (by rw[a3];show w.heap.size+1<_;omega)).trans (zf 1),(hW.frozen (p:=⟨w.heap.size+1,2,I⟩) (by rw[a3];show w.heap.size+1<_;omega)).trans (zf 2),by have:=hW.size;omega,a4.trans (hW.mono a4.size)⟩
 obtain⟨R,hR⟩:∃R,R=K2 x.tm f:=⟨_,rfl⟩
 rw[<-hR];have HR:=Yx hR;have HE:Zc (∀(o:Xy)(er:Int)(W:Zj),R=(o,er)->bL w W->Uk R w (Y (Zh #[X #[A D o.k,A D o.n,.bool o.b],A D er])) (((W.setCell ⟨w.heap.size+1,0,I⟩ (A D o.k)).setCell ⟨w.heap.size+1,1,I⟩ (A D o.n)).setCell ⟨w.heap.size+1,2,I⟩ (.bool o.b))):=fun o er W h1 h2=>by rw[h1];exact⟨rfl,((h2.setCell (by simp) _).setCell (by simp) _).setCell (by simp) _⟩
 clear hR a4 a3 z0 z1 z2 zf hx a6 a7;go_enter func20,ntmps20;go_wp2_with fail;rw[<-j];clear j;refine HC.out.mono ?_;rintro e w2 ⟨d,⟨c,rfl⟩|⟨c,k,rfl⟩|⟨c,y,i,k,rfl,a2,a5,a0⟩⟩
 .have g:Zc (R=(Yl,1)):=by rw[HR.out];unfold K2;rw[if_neg (by rw[c];simp)];rfl
  obtain⟨b,a⟩:∃b,b=(w2.alloc (U #[A D 0,A D 0,A D 0,G I 0 0,A D 0,G I 0 0,G I 0 0] 27)).alloc (U #[A D 0,G I 0 0] 24):=⟨_,rfl⟩
  have q:bL W1 b:=d.trans ((show bL w2 b by rw[a];exact((O _ _).alloc (N _) _).alloc (by simp) _).mono d.size);obtain⟨r0,r1,r2,f0,f1,f2,rl,l⟩:=HZ.out b q;have HB:=Yx l;clear q l c d HC HZ;go_upto_region 2 with fail;rw[<-a];clear a;go_wp2_with fail;obtain⟨q0,q1,q2⟩:=YQ (u:=A D 0) (v:=A D 0) (z:=.bool Za) r0 r1 r2;exact Z (v:=Zh #[X #[A D 0,A D 0,.bool Za],A D 1]) (by simp[results,Zg,go_sem,q0,q1,q2]) rfl (HE.out Yl 1 b g.out HB.out)
 .have g:Zc (R=(Yl,2)):=by rw[HR.out];unfold K2;rw[if_pos c,k];rfl
  obtain⟨b,a⟩:∃b,b=(w2.alloc (U #[A D 0,A D 0,A D 0,G I 0 0,A D 0,G I 0 0,G I 0 0] 27)).alloc (U #[A D 0,G I 0 0] 24):=⟨_,rfl⟩
  have q:bL W1 b:=d.trans ((show bL w2 b by rw[a];exact((O _ _).alloc (N _) _).alloc (by simp) _).mono d.size);obtain⟨r0,r1,r2,f0,f1,f2,rl,l⟩:=HZ.out b q;have HB:=Yx l;clear q l c k d HC HZ;go_upto_region 2 with fail;rw[<-a];clear a;go_wp2_with fail;obtain⟨q0,q1,q2⟩:=YQ (u:=A D 0) (v:=A D 0) (z:=.bool Za) r0 r1 r2;exact Z (v:=Zh #[X #[A D 0,A D 0,.bool Za],A D 2]) (by simp[results,Zg,go_sem,q0,q1,q2]) rfl (HE.out Yl 2 b g.out HB.out)
 .obtain⟨sy,zy,hty⟩:=M9 c k;have g:Zc (R=(if f<0\/100<f then (Yl,3) else (X9 y.tm f.toNat,0))):=by rw[HR.out];unfold K2;rw[if_pos c,k];exact rfl
  obtain⟨b,a⟩:∃b,b=(w2.alloc (U y.v 27)).alloc (U i.v 24):=⟨_,rfl⟩
  have a1:bL w2 b:=by rw[a];exact((O _ _).alloc (N _) _).alloc (by simp) _
  have q:=d.trans (a1.mono d.size);have p0:b.cell? ⟨w2.heap.size,0,I⟩=M (A D y.k):=by rw[a];simp[go_sem]
  have p1:b.cell? ⟨w2.heap.size,1,I⟩=M (A D y.n):=by rw[a];simp[go_sem]
  have p2:b.cell? ⟨w2.heap.size,2,I⟩=M (A D y.t.k):=by rw[a];simp[go_sem]
  have p3:b.cell? ⟨w2.heap.size,3,I⟩=M (G y.t.a y.t.l.length y.t.c):=by rw[a];simp[go_sem]
  have p4:b.cell? ⟨w2.heap.size,4,I⟩=M (A D y.f.k):=by rw[a];simp[go_sem]
  have p5:b.cell? ⟨w2.heap.size,5,I⟩=M (G y.f.a y.f.l.length y.f.c):=by rw[a];simp[go_sem]
  have p6:b.cell? ⟨w2.heap.size,6,I⟩=M (G y.a y.l.length y.c):=by rw[a];simp[go_sem]
  have a9:w2.heap.size<b.heap.size:=Zb _ _ p0;by_cases hf0:f<0
  .have HR2:Zc (R=(Yl,3)):=by rw[g.out,if_pos (by omega)];rfl
   obtain⟨r0,r1,r2,f0,f1,f2,rl,l⟩:=HZ.out b q;have HB:=Yx l;clear q a1 c k d HC a2 a5 a0 sy zy hty l HZ g;go_upto_region 2 with fail;rw[<-a];clear a;go_wp2_with fail;obtain⟨q0,q1,q2⟩:=YQ (u:=A D 0) (v:=A D 0) (z:=.bool Za) r0 r1 r2;exact Z (v:=Zh #[X #[A D 0,A D 0,.bool Za],A D 3]) (by simp[results,Zg,go_sem,q0,q1,q2]) rfl (HE.out Yl 3 b HR2.out HB.out)
  by_cases hf1:100<f
  .have HR2:Zc (R=(Yl,3)):=by rw[g.out,if_pos (by omega)];rfl
   obtain⟨r0,r1,r2,f0,f1,f2,rl,l⟩:=HZ.out b q;have HB:=Yx l;clear q a1 c k d HC a2 a5 a0 sy zy hty l HZ g;go_upto_region 2 with fail;rw[<-a];clear a;go_wp2_with fail;obtain⟨q0,q1,q2⟩:=YQ (u:=A D 0) (v:=A D 0) (z:=.bool Za) r0 r1 r2;exact Z (v:=Zh #[X #[A D 0,A D 0,.bool Za],A D 3]) (by simp[results,Zg,go_sem,q0,q1,q2]) rfl (HE.out Yl 3 b HR2.out HB.out)
  .have HR2:Zc (R=(X9 y.tm f.toNat,0)):=by rw[g.out,if_neg (by omega)];rfl
   have HO:Zc (Ze L 36 #[X y.v,A D f] b fun e w'=>e=Y (X #[A D (X9 y.tm f.toNat).k,A D (X9 y.tm f.toNat).n,.bool (X9 y.tm f.toNat).b])/\bL W1 w'):=by
    have e:((f.toNat:Nat):Int)=f:=by omega
    have h1:=Ou Zr y i.ty f.toNat b (by omega) (a2.below a1) ⟨sy,fun h=>by cases h⟩ zy (fun _=>hty);rw[e] at h1;refine h1.mono ?_;rintro e w' ⟨he,hb⟩;exact⟨he,q.trans (hb.mono q.size)⟩
   obtain⟨r,hr⟩:∃r,r=X9 y.tm f.toNat:=⟨_,rfl⟩
   rw[<-hr] at HO HR2;clear q a1 c k d HC a2 a5 a0 sy zy hty hr g;go_upto_region 2 with fail;rw[<-a];clear a;go_wp2_with fail;refine HO.out.mono ?_;rintro e w4 ⟨rfl,a8⟩;obtain⟨r0,r1,r2,f0,f1,f2,rl,l⟩:=HZ.out w4 a8;have HB:=Yx l;clear a8 l HZ p0 p1 p2 p3 p4 p5 p6;go_wp2_with fail;obtain⟨q0,q1,q2⟩:=YQ (u:=A D r.k) (v:=A D r.n) (z:=.bool r.b) r0 r1 r2;exact Z (v:=Zh #[X #[A D r.k,A D r.n,.bool r.b],A D 0]) (by simp[results,Zg,go_sem,q0,q1,q2]) rfl (HE.out r 0 w4 HR2.out HB.out)
theorem X4.cellsR{W:Zj}{b:Nat}{x:TT}(h:X4 W b 0 x):W.cell? ⟨b,0,I⟩=M (A D x.k)/\W.cell? ⟨b,1,I⟩=M (A D x.n)/\W.cell? ⟨b,2,I⟩=M (A D x.t.k)/\W.cell? ⟨b,3,I⟩=M (G x.t.a x.t.l.length x.t.c)/\W.cell? ⟨b,4,I⟩=M (A D x.f.k)/\W.cell? ⟨b,5,I⟩=M (G x.f.a x.f.l.length x.f.c)/\W.cell? ⟨b,6,I⟩=M (G x.a x.l.length x.c):=by obtain⟨g,i,a,j,e,c,d⟩:=h;simp only[Zn] at g i a j e c d;exact⟨g,i,a,j,e,c,d⟩
theorem VJ{m:Nat}:∀(x y:TT),x.tm=y.tm->x.ok m->y.ok m:=by
 intro x;induction x using TT.ind with
 |h k n t f a c l ih=>
  intro y d h;obtain⟨k',n',t',f',a',c',l'⟩:=y;rw[TT.tm_mk,TT.tm_mk,Tm.mk.injEq] at d;obtain⟨rfl,rfl,p,i,b⟩:=d;obtain⟨⟨h1,o,q,w,h5⟩,r⟩:=TT.ok_mk.1 h;have g:l.length=l'.length:=by simpa using congrArg List.length b
  refine TT.ok_mk.2 ⟨⟨h1,o,by rw[Tr.sz_ty,<-p,<-Tr.sz_ty];exact q,by rw[Tr.sz_ty,<-i,<-Tr.sz_ty];exact w,by omega⟩,fun z hz=>?_⟩;obtain⟨j,u,rfl⟩:=List.getElem_of_mem hz;have e:=congrArg (fun m=>m[j]?) b;simp only[List.getElem?_map,Zm u,Zm (show j<l.length by omega),Option.map_some,Option.some.injEq] at e;exact ih l[j] (List.getElem_mem _) l'[j] e (r _ (List.getElem_mem _))
theorem Qa(x:TT)(f:Int)(w:Zj)(hg:Gl w)(hx:x.In w)(af:x.ok 100000000)(au:x.sz<=2000000):Ze L 9 #[X #[A D x.k,A D x.n,A D x.t.k,G x.t.a x.t.l.length x.t.c,A D x.f.k,G x.f.a x.f.l.length x.f.c,G x.a x.l.length x.c],A D f] w fun e w'=>e=Y (.bool Zr)/\Below w.heap.size w w':=by
 obtain⟨W1,ae⟩:∃W1,W1=w.alloc (U x.v 27):=⟨_,rfl⟩
 have ai:bL w W1:=by rw[ae];exact(O _ _).alloc (N _) _
 have h7:X4 W1 w.heap.size 0 x:=by rw[ae];exact X4.new w x
 have HX:=BV (hx.below ai) (hg.below ai) af au ai h7;have HC:Zc (Ze L 19 #[X x.v] W1 fun e w'=>∃c:TT,e=Y (X c.v)/\Zc (c.tm=x.tm/\c.In w'/\bL W1 w')):=by refine(Tw x W1 HX.out.1 (af.lw (by omega)) (af.csz (by omega))).mono ?_;rintro e w' ⟨c,rfl,h1,h2,_,h4⟩;exact⟨c,rfl,h1,h2,h4⟩
 obtain⟨p0,p1,p2,p3,p4,p5,p6⟩:=h7.cellsR;clear hg hx af au ai h7;go_enter Zs,ntmps9;go_wp2_with fail;rw[<-ae];clear ae;refine HC.out.mono ?_;rintro e w2 ⟨c,rfl,HI⟩;clear HC p0 p1 p2 p3 p4 p5 p6;obtain⟨o,ah⟩:∃o,o=w2.alloc (U c.v 27):=⟨_,rfl⟩
 have ap:bL w2 o:=by rw[ah];exact(O _ _).alloc (N _) _
 have d:=HI.out.2.2.trans (ap.mono HI.out.2.2.size);have h7:X4 o w2.heap.size 0 c:=by rw[ah];exact X4.new w2 c
 have z:Zc (∀W,bL o W->x.In W/\c.In W/\Gl W/\bL w W/\X4 W w.heap.size 0 x/\X4 W w2.heap.size 0 c):=fun W a=>⟨(HX.out.1.below d).below a,(HI.out.2.1.below ap).below a,(HX.out.2.1.below d).below a,(HX.out.2.2.2.2.1.trans (d.mono HX.out.2.2.2.2.1.size)).trans (a.mono (HX.out.2.2.2.2.1.trans (d.mono HX.out.2.2.2.2.1.size)).size),(HX.out.2.2.2.2.2.below d).below a,h7.below a⟩
 have g:=Nm HX.out.2.2.1 (VJ x c HI.out.1.symm HX.out.2.2.1) HX.out.2.2.2.1 HI.out.1;obtain⟨P,hP⟩:∃P,K2 x.tm f=P:=⟨_,rfl⟩
 obtain⟨B,hB⟩:∃B,ML x.tm f=B:=⟨_,rfl⟩
 have ay:Zc (∀W,bL o W->Ze L 11 #[X c.v,A D f] W (Uk P W)):=fun W a=>by have:=Pu c f W (z.out W a).2.2.1.gp (z.out W a).2.1 g.out.2.1.nb;rw[g.out.2.2.2,hP] at this;exact this
 have b2:Zc (∀W,bL o W->Ze L 20 #[X x.v,A D f] W (Uk P W)):=fun W a=>by have:=S8 x f W (z.out W a).1 g.out.2.2.1 g.out.1;rw[hP] at this;exact this
 have b0:Zc (∀W,bL o W->Ze L 14 #[X c.v,A D f] W (Uk B W)):=fun W a=>by have:=TH c f W (z.out W a).2.2.1.gp (z.out W a).2.1 g.out.2.1.nb;rw[g.out.2.2.2,hB] at this;exact this
 have aw:Zc (∀W,bL o W->Ze L 21 #[X x.v,A D f] W (Uk B W)):=fun W a=>by have:=Ru x f W (z.out W a).1 g.out.2.2.1 g.out.1;rw[hB] at this;exact this
 have ar:Zc (∀W,bL o W->Ze L 22 #[X c.v,X x.v] W fun e w'=>e=Y (.bool Zr)/\bL W w'):=fun W a=>P8 c x W (z.out W a).2.1 (z.out W a).1 g.out.2.2.2 (g.out.2.1.lw (by omega)) (g.out.2.1.tsm (by omega))
 have ax:Zc (∀W,bL o W->Ze L 23 #[] W fun e w'=>e=Y (.bool Zr)/\bL W w'):=fun W a=>WY W (z.out W a).2.2.1;have a7:Zc (bL o o):=O _ _;obtain⟨p0,p1,p2,p3,p4,p5,p6⟩:=h7.cellsR;clear ap d h7 HX HI hP hB;go_wp2_with fail;rw[<-ah];clear ah;refine(ay.out o a7.out).mono ?_;rintro e w4 ⟨rfl,ac⟩;clear p0 p1 p2 p3 p4 p5 p6;obtain⟨W5,a8⟩:∃V,V=w4.alloc (U #[A D P.1.k,A D P.1.n,.bool P.1.b] 29):=⟨_,rfl⟩
 have am:bL w4 W5:=by rw[a8];exact(O _ _).alloc (N _) _
 have a5:Zc (bL o W5):=a7.out.trans ((ac).mono (a7.out).size) |>.trans (am.mono ((a7.out).trans (ac.mono (a7.out).size)).size)
 have av:Zc (∀W,bL W5 W->cL W w4.heap.size 0 (A D P.1.k)/\cL W w4.heap.size 1 (A D P.1.n)/\cL W w4.heap.size 2 (.bool P.1.b)):=fun W a=>by
  have q0:W5.cell? ⟨w4.heap.size,0,I⟩=M (A D P.1.k):=by rw[a8];simp[go_sem]
  have q1:W5.cell? ⟨w4.heap.size,1,I⟩=M (A D P.1.n):=by rw[a8];simp[go_sem]
  have q2:W5.cell? ⟨w4.heap.size,2,I⟩=M (.bool P.1.b):=by rw[a8];simp[go_sem]
  exact⟨T a q0,T a q1,T a q2⟩
 obtain⟨p0,p1,p2,p3,p4,p5,p6⟩:=(z.out W5 a5.out).2.2.2.2.1.cellsR;clear ac am;go_upto_region 3 with fail;rw[<-a8];clear a8;go_wp2_with fail;refine(b2.out W5 a5.out).mono ?_;rintro e w6 ⟨rfl,r⟩;clear p0 p1 p2 p3 p4 p5 p6;obtain⟨W7,aa⟩:∃V,V=w6.alloc (U #[A D P.1.k,A D P.1.n,.bool P.1.b] 29):=⟨_,rfl⟩
 have ab:bL w6 W7:=by rw[aa];exact(O _ _).alloc (N _) _
 have a4:Zc (bL o W7):=a5.out.trans ((r).mono (a5.out).size) |>.trans (ab.mono ((a5.out).trans (r.mono (a5.out).size)).size)
 have az:Zc (∀W,bL W7 W->cL W w6.heap.size 0 (A D P.1.k)/\cL W w6.heap.size 1 (A D P.1.n)/\cL W w6.heap.size 2 (.bool P.1.b)):=fun W a=>by
  have q0:W7.cell? ⟨w6.heap.size,0,I⟩=M (A D P.1.k):=by rw[aa];simp[go_sem]
  have q1:W7.cell? ⟨w6.heap.size,1,I⟩=M (A D P.1.n):=by rw[aa];simp[go_sem]
  have q2:W7.cell? ⟨w6.heap.size,2,I⟩=M (.bool P.1.b):=by rw[aa];simp[go_sem]
  exact⟨T a q0,T a q1,T a q2⟩
 obtain⟨p0,p1,p2,p3,p4,p5,p6⟩:=(z.out W7 a4.out).2.2.2.2.2.cellsR;have q:=Yx (r.trans (ab.mono r.size));clear r ab;go_upto_region 4 with fail;rw[<-aa];clear aa;go_wp2_with fail;refine(b0.out W7 a4.out).mono ?_;rintro e w8 ⟨rfl,y⟩;clear p0 p1 p2 p3 p4 p5 p6;obtain⟨W9,a9⟩:∃V,V=w8.alloc (U #[A D B.1.k,A D B.1.n,.bool B.1.b] 29):=⟨_,rfl⟩
 have ad:bL w8 W9:=by rw[a9];exact(O _ _).alloc (N _) _
 have a3:Zc (bL o W9):=a4.out.trans ((y).mono (a4.out).size) |>.trans (ad.mono ((a4.out).trans (y.mono (a4.out).size)).size)
 have b1:Zc (∀W,bL W9 W->cL W w8.heap.size 0 (A D B.1.k)/\cL W w8.heap.size 1 (A D B.1.n)/\cL W w8.heap.size 2 (.bool B.1.b)):=fun W a=>by
  have q0:W9.cell? ⟨w8.heap.size,0,I⟩=M (A D B.1.k):=by rw[a9];simp[go_sem]
  have q1:W9.cell? ⟨w8.heap.size,1,I⟩=M (A D B.1.n):=by rw[a9];simp[go_sem]
  have q2:W9.cell? ⟨w8.heap.size,2,I⟩=M (.bool B.1.b):=by rw[a9];simp[go_sem]
  exact⟨T a q0,T a q1,T a q2⟩
 obtain⟨p0,p1,p2,p3,p4,p5,p6⟩:=(z.out W9 a3.out).2.2.2.2.1.cellsR;have p:=Yx (y.trans (ad.mono y.size));clear y ad;go_upto_region 5 with fail;rw[<-a9];clear a9;go_wp2_with fail;refine(aw.out W9 a3.out).mono ?_;rintro e u ⟨rfl,j⟩;clear p0 p1 p2 p3 p4 p5 p6;obtain⟨b,k⟩:∃V,V=u.alloc (U #[A D B.1.k,A D B.1.n,.bool B.1.b] 29):=⟨_,rfl⟩
 have a6:bL u b:=by rw[k];exact(O _ _).alloc (N _) _
 have i:Zc (bL o b):=a3.out.trans ((j).mono (a3.out).size) |>.trans (a6.mono ((a3.out).trans (j.mono (a3.out).size)).size)
 have b3:Zc (∀W,bL b W->cL W u.heap.size 0 (A D B.1.k)/\cL W u.heap.size 1 (A D B.1.n)/\cL W u.heap.size 2 (.bool B.1.b)):=fun W a=>by
  have q0:b.cell? ⟨u.heap.size,0,I⟩=M (A D B.1.k):=by rw[k];simp[go_sem]
  have q1:b.cell? ⟨u.heap.size,1,I⟩=M (A D B.1.n):=by rw[k];simp[go_sem]
  have q2:b.cell? ⟨u.heap.size,2,I⟩=M (.bool B.1.b):=by rw[k];simp[go_sem]
  exact⟨T a q0,T a q1,T a q2⟩
 obtain⟨p0,p1,p2,p3,p4,p5,p6⟩:=(z.out b i.out).2.2.2.2.1.cellsR;have l:=Yx (j.trans (a6.mono j.size));clear j a6;obtain⟨s0,s1,s2,s3,s4,s5,s6⟩:=(z.out b i.out).2.2.2.2.2.cellsR;obtain⟨a0,a1,a2⟩:=av.out b (q.out.trans (p.out.mono q.out.size) |>.trans (l.out.mono (q.out.trans (p.out.mono q.out.size)).size));obtain⟨d0,d1,d2⟩:=az.out b (p.out.trans (l.out.mono p.out.size));obtain⟨g0,g1,g2⟩:=b1.out b l.out;obtain⟨m0,m1,m2⟩:=b3.out b (O _ _);have ao:=Yx ((z.out b i.out).2.2.2.1);have an:=Yx (ar.out b i.out);have al:Zc (∀W,bL b W->Ze L 23 #[] W fun e w'=>e=Y (.bool Zr)/\bL b w'):=fun W a=>(ax.out W (i.out.trans (a.mono i.out.size))).mono fun e w' h=>⟨h.1,a.trans (h.2.mono a.size)⟩
 clear av az b1 b3 z ay b2 b0 aw ar ax g a7 a5 a4 a3 q p l;go_upto_region 6 with fail;rw[<-k];clear k i;go_wp2_with fail;refine an.out.mono ?_;rintro e b4 ⟨rfl,aj⟩;have ak:=Yx aj;clear aj a0 a1 a2 d0 d1 d2 g0 g1 g2 m0 m1 m2 p0 p1 p2 p3 p4 p5 p6 s0 s1 s2 s3 s4 s5 s6 an;go_wp2_with fail;refine(al.out b4 ak.out).mono ?_;rintro e b5 ⟨rfl,d⟩;have aq:=Yx (ao.out.trans (d.mono ao.out.size));clear d al ak ao;go_wp2_with fail;refine Z (v:=.bool Zr) ?_ rfl ⟨rfl,aq.out⟩;simp[results,results9,go_sem]
section
open Go.ChangeShapes Go.WideShapes Go.ChangeAt Go.RowKit
theorem P9:ownKnob L.godebug=I:=by kernel_rfl
theorem KB:laidOutB L=Zr:=by kernel_rfl
def Xg:Nat->DataW Unit->List Value
 |0,_=>[]
 |n+1,.agg l=>l.flatMap fun d=>Xg n d
 |_+1,.lit (.int k z)=>[.int k z]
 |_+1,.lit (.string s)=>[.string ⟨s.toArray⟩]
 |_+1,_=>[]
def Xf(g:Nat)(cs:List Value)(h:Array Obj):Array Obj:=h.modify g fun
 |U _ t fr=>U cs.toArray t fr
 |o=>o
def ND(low:Nat)(h:Array Obj):Array Obj:=Xf 9 [.iface 261 (.pointer (M ⟨low,0,I⟩))] (Xf 10 [.iface 261 (.pointer (M ⟨low+1,0,I⟩))] (Xf 1 (Xg 3 Rows.laid_chaperone_term_truthWords) (Xf 2 (Xg 3 Rows.laid_chaperone_term_words) (Xf 0 (Xg 3 Rows.laid_chaperone_term_parts) (Xf 4 (Xg 3 Rows.laid_chaperone_term_typeWords) (Xf 11 (Xg 3 Rows.laid_internal_strconv_uint64pow10) (Xf 7 (Xg 3 Rows.laid_unicode_utf8_first) (Xf 8 (Xg 3 Rows.laid_unicode_utf8_acceptRanges) (Xf 12 (Xg 3 Rows.laid_math_bits_deBruijn32tab) (Xf 13 (Xg 3 Rows.laid_math_bits_deBruijn64tab) h))))))))))
def Kl(low:Nat)(w:Zj):Zj:={ w with heap:=ND low w.heap }
def Kj:Obj:=U #[.string ⟨#[105,110,118,97,108,105,100,32,115,121,110,116,97,120]⟩] 263
def Kk:Obj:=U #[.string ⟨#[118,97,108,117,101,32,111,117,116,32,111,102,32,114,97,110,103,101]⟩] 263
def Jq:Array Value:=#[X #[A D 0,A D 0,A D 0,G I 0 0,A D 0,G I 0 0,G I 0 0],A D 0]
set_option maxRecDepth 100000 in
theorem O5(os:Os):laidMet L Rows.runTellsUptoRow.laid ((Kl (Zf L default ⟨#[],#[],[]⟩).heap.size (Zf L os ⟨#[Kj,Kk],#[],[]⟩)).forCall (fun _ _=>0) ⟨#[],Jq,[]⟩).memory:=laidMet_of_run' 8 (by kernel_rfl) (by kernel_rfl)
set_option maxRecDepth 100000 in
theorem N7(os:Os){H:Type}(enc:TypeId×Value->H):∃places,DataW.whole enc L ((Kl (Zf L default ⟨#[],#[],[]⟩).heap.size (Zf L os ⟨#[Kj,Kk],#[],[]⟩)).forCall (fun _ _=>0) ⟨#[],Jq,[]⟩).memory Zo.params.toList Rows.runTellsSpec.vars Za Jq.toList 8 =
  M ([.agg [.lit (.int .i64 0),.lit (.int .i64 0),.agg [.lit (.int .i64 0),.nil],.agg [.lit (.int .i64 0),.nil],.nil],.lit (.int .i64 0)],[],places):=
 ⟨[],by kernel_rfl⟩
set_option maxRecDepth 100000 in
theorem NC(g:Os)(b:g.Started)(H:Type)(enc:TypeId×Value->H)(F:Stop.Interp):
  ReturnsInHanded {} Zt g 9 .any ((Rows.OpenSpec.upto Rows.runTellsSpec).preRow enc L Zo Rows.runTellsUptoRow.domain Za Rows.runTellsUptoRow.laid) (((Rows.OpenSpec.upto Rows.runTellsSpec).at F).post enc L Zo Za Zr Za Za):=by
 obtain⟨o,hx⟩:=N7 g enc;refine returnsInHanded_of_row (C:=Zt) (s:=Rows.OpenSpec.upto Rows.runTellsSpec) P9 b (by kernel_rfl) Zs (witness_row_at (enc:=enc) (C:=Zt) Za (Kl (Zf L default ⟨#[],#[],[]⟩).heap.size (Zf L g ⟨#[Kj,Kk],#[],[]⟩)) Jq rfl (by kernel_rfl) (by kernel_rfl) (by kernel_rfl) (OpenSpec.preRow_of_cond 8 hx (by kernel_rfl) (fun k u=>by obtain rfl:Rows.uptoSmall=k:=Zp u;rfl) (by kernel_rfl) (O5 g))) ?_
 intro W base a ds gs l d hW _ u a7 hL a0 _;have c:∀(j:Nat)t v,Zo.params[j]?=M t->a[j]?=M v->Value.okWide L W .any base t v:=d;have y:=hW;obtain⟨p,q,i,hV,rfl,a5,a8⟩:=hW;have hA:DataW.TrodAll enc L W 0 (fun _=>Zr) Zr Zo.params.toList a.toList ds p:=i;rw[Tryz.params9] at hA c;obtain⟨v0,a9,d0,a4,p0,q0,w,rfl,rfl,h0,r0⟩:=trodAll_cons hA;obtain⟨v1,a3,d1,a6,p1,q1,rfl,rfl,rfl,h1,r1⟩:=trodAll_cons r0;obtain⟨rfl,rfl,rfl⟩:=trodAll_nil r1;obtain rfl:a=#[v0,v1]:=by cases a;simp_all
 obtain⟨rfl,rfl⟩:=trodVars_none hV;have hz:Rows.uptoBulkAll ([d0,d1]++[])<=1048576:=of_decide_eq_true (u _ rfl);simp only[List.append_nil,Rows.uptoBulkAll] at hz;have k0:=h0;have r:∀x∈p0,x.block<W.heap.size:=by obtain⟨m,z⟩:=k0;exact DataW.trod_lt m _ _ _ z
 have k1:=h1;have a2:∀x∈p1,x.block<W.heap.size:=by obtain⟨m,z⟩:=k1;exact DataW.trod_lt m _ _ _ z
 obtain⟨t0,rfl,i0,b0,n0⟩:=Vq (c 0 27 v0 rfl rfl) h0;obtain⟨z1,rfl,rfl,rfl,_⟩:=Go.ChangeShapes.open_int underlying3 (c 1 3 v1 rfl rfl) h1;clear i d;have a1:Gl W:=Cd hL a0;refine(Qa t0 z1 W a1 i0 (TX n0 (by omega)) (by omega)).mono fun e W' ⟨he,bel⟩=>?_;subst he;exact⟨_,rfl,_,_,_,[],_,[],y,trodAll_mk1 (shut_bool underlying4 _),(trodAll_cons_mk (Below.trod KB (by kernel_rfl) (of_decide_eq_true (by kernel_rfl)) k0 bel r) (trodAll_cons_mk (Below.trod KB (by kernel_rfl) (of_decide_eq_true (by kernel_rfl)) k1 bel a2) trodAll_mk0)),rfl,bel.frame _,fun h=>by cases h⟩
set_option maxRecDepth 100000 in
theorem O4:Rows.RunTellsUptoSaid:=
 OpenClaim.holds_of_cond 9 Zo rfl rfl rfl rfl rfl rfl rfl ⟨rfl,rfl,rfl,rfl,rfl⟩ rfl rfl rfl rfl rfl (by kernel_rfl) Zs (by kernel_rfl) (of_decide_eq_true (by kernel_rfl)) (by unfold Func.isWrapper;first|(rw[if_pos (by decide +kernel)];kernel_rfl)|(rw[if_neg (by decide +kernel)];exact⟨rfl,rfl⟩))
  (fun os started H enc _ F=>by rw[OpenClaim.pre_eq_preRow];exact NC os started H enc F)
theorem N8(f:FuncId)(b:Func)(e:Tryz.pinned.checked.prog.funcNamed "chaperone/chaperonelaw.RunTells"=M f)(a:Tryz.pinned.checked.prog.funcs[f]?=M b):
  Zr=Tryz.pinned.checked.prog.looks []/\∀(j:Nat)t,b.params[j]?=M t->Tryz.pinned.checked.prog.wantsStandIn t=Za:=by
 obtain rfl:f=9:=Zp ((show L.funcNamed "chaperone/chaperonelaw.RunTells"=M 9 by kernel_rfl).symm.trans e) |>.symm;obtain rfl:b=Zo:=(Zp (Zs.symm.trans a)).symm;refine⟨by kernel_rfl,fun j t c=>?_⟩;rw[Tryz.params9] at c;have d:=Array.mem_of_getElem? c;obtain rfl|rfl:t=27\/t=3:=by simpa using d
 .exact(show L.wantsStandIn 27=Za by kernel_rfl)
 .exact(show L.wantsStandIn 3=Za by kernel_rfl)
theorem runTells_card:Rows.RunTellsUptoCardSaid:=Claim7.holds_tied_plain_at .later [] _ _ _ _ O4 (fun _ h=>by cases h) (by kernel_rfl) (fun _ h=>by cases h) runTellsUpto_row_tie rfl ⟨rfl,rfl⟩ (by kernel_rfl) rfl N8 (by kernel_rfl)
end
#print axioms runTells_card
end Go.Proofs.YtnddkmccagiclabGreatDoor
