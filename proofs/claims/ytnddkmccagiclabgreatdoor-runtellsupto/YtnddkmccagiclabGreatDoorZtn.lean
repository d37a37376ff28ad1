import Derived.Test.YtnddkmccagiclabGreatDoorZtk
set_option maxRecDepth 20000
set_option maxHeartbeats 16000000
open Go.RowKit Go.Proofs.Tryz
open Go.Value renaming slice→A,int→C,tuple→L,agg→P
open Option renaming none→B,some→G
open Go.IntKind renaming i64→D
open Go.Proofs.Tryz renaming results67→E,ntmps67→K,func67→O,prog→R
open Go renaming cell_later→F,bodyPost_ret→J,World→T,Calls→Zc
open Go.RowKit.Below renaming setCell→M,refl→S,alloc→V,drew→Y
open Go.World renaming cell?_setCell_other→N,block_lt_of_cell?→Z
open Go.Ending renaming returned→X
open Go.RowKit renaming Below→Za
open Bool renaming true→Zb
namespace Go.Proofs.YtnddkmccagiclabGreatDoor
theorem Ae(x:TT)(a b:Option Addr)(c d tm g:Nat)(w:T):
  Zc R 67 #[P #[C D 2,C D x.n,C D x.t.k,A x.t.a x.t.l.length x.t.c,C D x.f.k,A x.f.a x.f.l.length x.f.c,A x.a x.l.length x.c],A a c d,A b tm g] w fun e w'=>e=X (L #[P #[C D 1,A B 0 0,A B 0 0],.bool Zb])/\Za w.heap.size w w':=by
 go_enter O,K;go_wp2_with fail;refine J (v:=L #[P #[C D 1,A B 0 0,A B 0 0],.bool Zb]) (by simp[results,E,go_sem]) rfl ⟨rfl,?_⟩;repeat (first|exact S _ _|refine Y ?_|refine M ?_ (by first|(simp;done)|(simp;omega)|omega) _|refine V ?_ (by first|(simp;done)|(simp;omega)|omega) _)
theorem Ad(x:TT)(a b:Option Addr)(c d tm g:Nat)(w:T):
  Zc R 67 #[P #[C D 3,C D x.n,C D x.t.k,A x.t.a x.t.l.length x.t.c,C D x.f.k,A x.f.a x.f.l.length x.f.c,A x.a x.l.length x.c],A a c d,A b tm g] w fun e w'=>e=X (L #[P #[C D 2,A B 0 0,A B 0 0],.bool Zb])/\Za w.heap.size w w':=by
 go_enter O,K;go_wp2_with fail;refine J (v:=L #[P #[C D 2,A B 0 0,A B 0 0],.bool Zb]) (by simp[results,E,go_sem]) rfl ⟨rfl,?_⟩;repeat (first|exact S _ _|refine Y ?_|refine M ?_ (by first|(simp;done)|(simp;omega)|omega) _|refine V ?_ (by first|(simp;done)|(simp;omega)|omega) _)
theorem Ac(x:TT)(a b:Option Addr)(c d tm h:Nat)(w:T):
  Zc R 67 #[P #[C D 4,C D x.n,C D x.t.k,A x.t.a x.t.l.length x.t.c,C D x.f.k,A x.f.a x.f.l.length x.f.c,A x.a x.l.length x.c],A a c d,A b tm h] w fun e w'=>∃g,w.heap.size<=g/\e=X (L #[P #[C D 1,A B 0 0,A (G ⟨g,0,B⟩) 2 2],.bool Zb])/\w'.cell? ⟨g,0,B⟩=G (C D 1)/\w'.cell? ⟨g,1,B⟩=G (A B 0 0)/\w'.cell? ⟨g,2,B⟩=G (C D 1)/\w'.cell? ⟨g,3,B⟩=G (A B 0 0)/\Za w.heap.size w w':=by
 go_enter O,K;go_wp2_with fail;refine J (v:=L #[P #[C D 1,A B 0 0,A (G ⟨w.heap.size+1+1+1+1,0,B⟩) 2 2],.bool Zb]) (by simp[results,E,go_sem]) rfl ⟨w.heap.size+1+1+1+1,by omega,rfl,by simp[go_sem],by simp[go_sem],by simp[go_sem],by simp[go_sem],?_⟩;repeat (first|exact S _ _|refine Y ?_|refine M ?_ (by first|(simp;done)|(simp;omega)|omega) _|refine V ?_ (by first|(simp;done)|(simp;omega)|omega) _)
theorem Ab(x:TT)(a b:Option Addr)(c d tm h:Nat)(w:T):
  Zc R 67 #[P #[C D 5,C D x.n,C D x.t.k,A x.t.a x.t.l.length x.t.c,C D x.f.k,A x.f.a x.f.l.length x.f.c,A x.a x.l.length x.c],A a c d,A b tm h] w fun e w'=>∃g,w.heap.size<=g/\e=X (L #[P #[C D 2,A B 0 0,A (G ⟨g,0,B⟩) 2 2],.bool Zb])/\w'.cell? ⟨g,0,B⟩=G (C D 1)/\w'.cell? ⟨g,1,B⟩=G (A B 0 0)/\w'.cell? ⟨g,2,B⟩=G (C D 1)/\w'.cell? ⟨g,3,B⟩=G (A B 0 0)/\Za w.heap.size w w':=by
 go_enter O,K;go_wp2_with fail;refine J (v:=L #[P #[C D 2,A B 0 0,A (G ⟨w.heap.size+1+1+1+1,0,B⟩) 2 2],.bool Zb]) (by simp[results,E,go_sem]) rfl ⟨w.heap.size+1+1+1+1,by omega,rfl,by simp[go_sem],by simp[go_sem],by simp[go_sem],by simp[go_sem],?_⟩;repeat (first|exact S _ _|refine Y ?_|refine M ?_ (by first|(simp;done)|(simp;omega)|omega) _|refine V ?_ (by first|(simp;done)|(simp;omega)|omega) _)
theorem WZ(x:TT)(a b:Option Addr)(c d tm h:Nat)(w:T):
  Zc R 67 #[P #[C D 9,C D x.n,C D x.t.k,A x.t.a x.t.l.length x.t.c,C D x.f.k,A x.f.a x.f.l.length x.f.c,A x.a x.l.length x.c],A a c d,A b tm h] w fun e w'=>∃g,w.heap.size<=g/\e=X (L #[P #[C D x.t.k,A x.t.a x.t.l.length x.t.c,A (G ⟨g,0,B⟩) 1 1],.bool Zb])/\w'.cell? ⟨g,0,B⟩=G (C D x.t.k)/\w'.cell? ⟨g,1,B⟩=G (A x.t.a x.t.l.length x.t.c)/\Za w.heap.size w w':=by
 go_enter O,K;go_wp2_with fail;refine J (v:=L #[P #[C D x.t.k,x.t.s,A (G ⟨w.heap.size+1+1+1+1,0,B⟩) 1 1],.bool Zb]) (by simp[results,E,go_sem]) rfl ⟨w.heap.size+1+1+1+1,by omega,rfl,by simp[go_sem],by simp[go_sem],?_⟩;repeat (first|exact S _ _|refine Y ?_|refine M ?_ (by first|(simp;done)|(simp;omega)|omega) _|refine V ?_ (by first|(simp;done)|(simp;omega)|omega) _)
def X8(k:Int)(x:TT)(w:T):T:=(((w.alloc (Obj.cells #[C D k,C D x.n,C D x.t.k,A x.t.a x.t.l.length x.t.c,C D x.f.k,A x.f.a x.f.l.length x.f.c,A x.a x.l.length x.c] 27)).alloc (Obj.cells #[C D 0,A B 0 0,A B 0 0] 119)).alloc (Obj.cells #[C D 1,A B 0 0] 24)).alloc (Obj.cells #[C D 2,A B 0 0] 24)
theorem Ju(k:Int)(x:TT)(w:T):Za w.heap.size w (X8 k x w):=((((S _ _).alloc (Nat.le_refl _) _).alloc (by simp) _).alloc (by simp;omega) _).alloc (by simp;omega) _
structure WR(k:Int)(x:TT)(H:Nat)(W:T):Prop where
 t:X4 W H 0 { x with k:=k }
 r0:W.cell? ⟨H+1,0,B⟩=G (C D 0)
 r1:W.cell? ⟨H+1,1,B⟩=G (A B 0 0)
 r2:W.cell? ⟨H+1,2,B⟩=G (A B 0 0)
 rf:∀i,W.frozen? ⟨H+1,i,B⟩=false
 n0:W.cell? ⟨H+1+1,0,B⟩=G (C D 1)
 n1:W.cell? ⟨H+1+1,1,B⟩=G (A B 0 0)
 b0:W.cell? ⟨H+1+1+1,0,B⟩=G (C D 2)
 b1:W.cell? ⟨H+1+1+1,1,B⟩=G (A B 0 0)
theorem WR.below{k:Int}{x:TT}{H:Nat}{W W':T}(h:WR k x H W)(hb:Za W.heap.size W W'):WR k x H W':=⟨h.t.below hb,F hb h.r0,F hb h.r1,F hb h.r2,fun i=>(hb.frozen (p:=⟨H+1,i,B⟩) (show (⟨H+1,0,B⟩:Addr).block<W.heap.size from Z _ _ h.r0)).trans (h.rf i),F hb h.n0,F hb h.n1,F hb h.b0,F hb h.b1⟩
theorem NS(k:Int)(x:TT)(w:T):WR k x w.heap.size (X8 k x w):=by
 refine⟨⟨?_,?_,?_,?_,?_,?_,?_⟩,?_,?_,?_,?_,?_,?_,?_,?_⟩
 all_goals simp[X8,go_sem]
theorem L5(k:Int)(x:TT)(w:T):(X8 k x w).heap.size=w.heap.size+1+1+1+1:=by simp[X8]
theorem Af(x:TT)(n:Nat)(l:x.n=(n:Int))(j:Option Addr)(i k a b tm p:Nat)(h:n<tm)(t:Tr)(w:T)(g:w.cell? ⟨a,b+n*2,B⟩=G (C D t.k))(o:w.cell? ⟨a,b+n*2+1,B⟩=G (A t.a t.l.length t.c)):
  Zc R 67 #[P #[C D 1,C D (n:Int),C D x.t.k,A x.t.a x.t.l.length x.t.c,C D x.f.k,A x.f.a x.f.l.length x.f.c,A x.a x.l.length x.c],A j i k,A (G ⟨a,b,B⟩) tm p] w fun e w'=>e=X (L #[P #[C D t.k,A t.a t.l.length t.c,A B 0 0],.bool Zb])/\Za w.heap.size w w':=by
 have lt:a<w.heap.size:=Z _ _ g;have q:(n:Int)<(tm:Int):=by omega
 have c:=F (Ju 1 x w) g;have d:=F (Ju 1 x w) o;unfold X8 at c d;rw[l] at c d;go_enter O,K;go_wp2_with fail;refine J (v:=L #[P #[C D t.k,t.s,A B 0 0],.bool Zb]) (by simp[results,E,go_sem]) rfl ⟨rfl,?_⟩;repeat (first|exact S _ _|refine Y ?_|refine M ?_ (by first|(simp;done)|(simp;omega)|omega) _|refine V ?_ (by first|(simp;done)|(simp;omega)|omega) _)
theorem U8.store{Q:Nat->Prop}{k:Int}{x:TT}{w w1:T}{I U:Tr}(c:Za w.heap.size w w1)(a:WR k x w.heap.size w1)(i:I.In w1)(l:U.In w1)(d:I.Bl fun b=>Q b/\b≠w.heap.size+1)(e:U.Bl fun b=>Q b/\b≠w.heap.size+1):
  ∃W,W=(((w1.setCell ⟨w.heap.size+1,0,B⟩ (C D I.k)).setCell ⟨w.heap.size+1,1,B⟩ (A I.a I.l.length I.c)).setCell ⟨w.heap.size+1,2,B⟩ (A U.a U.l.length U.c))/\Za w.heap.size w W/\I.In W/\U.In W/\I.Bl Q/\U.Bl Q/\
   W.cell? ⟨w.heap.size+1,0,B⟩=G (C D I.k)/\W.cell? ⟨w.heap.size+1,1,B⟩=G (A I.a I.l.length I.c)/\W.cell? ⟨w.heap.size+1,2,B⟩=G (A U.a U.l.length U.c):=by
 have g:∀b,(Q b/\b≠w.heap.size+1)->∀o,(((w1.setCell ⟨w.heap.size+1,0,B⟩ (C D I.k)).setCell ⟨w.heap.size+1,1,B⟩ (I.s)).setCell ⟨w.heap.size+1,2,B⟩ (U.s)).cell? ⟨b,o,B⟩=w1.cell? ⟨b,o,B⟩:=by intro b c o;have nb:=c.2;rw[N _ _ _ _ (by simp),N _ _ _ _ (by simp),N _ _ _ _ (by simp)]
 refine⟨_,rfl,((c.setCell (by simp) _).setCell (by simp) _).setCell (by simp) _,i.congr g d,l.congr g e,d.mono fun b h=>h.1,e.mono fun b h=>h.1,?_,?_,?_⟩
 .simpa using Yp (j:=2) (v:=U.s) (Yp (j:=1) (v:=I.s) (Yp (j:=0) (v:=C D I.k) a.r0))
 .simpa using Yp (j:=2) (v:=U.s) (Yp (j:=1) (v:=I.s) (Yp (j:=0) (v:=C D I.k) a.r1))
 .simpa using Yp (j:=2) (v:=U.s) (Yp (j:=1) (v:=I.s) (Yp (j:=0) (v:=C D I.k) a.r2))
theorem W6(Q:Nat->Prop)(x:TT)(p:Tr)(o l k pc:Nat)(ta:Option Addr)(tm tc:Nat)(w:T)(hm:0<k)(c0:w.cell? ⟨o,l,B⟩=G (C D p.k))(c1:w.cell? ⟨o,l+1,B⟩=G (A p.a p.l.length p.c))(q:p.In w)(y:p.right)(hQ:∀b,w.heap.size<=b->Q b)(bp:p.Bl Q):
  Zc R 67 #[P #[C D 8,C D x.n,C D x.t.k,A x.t.a x.t.l.length x.t.c,C D x.f.k,A x.f.a x.f.l.length x.f.c,A x.a x.l.length x.c],A (G ⟨o,l,B⟩) k pc,A ta tm tc] w (U8 Q w (X2 p.ty)):=by
 have a:=Ju 8 x w;have c:=NS 8 x w;have hz:=L5 8 x w;have j:Hid (Zc R 107 #[P p.v] (X8 8 x w) (U8 (fun b=>Q b/\b≠w.heap.size+1) (X8 8 x w) (X2 p.ty))):=Ob _ p (X8 8 x w) (q.below a) y (fun b hb=>⟨hQ b (by omega),by omega⟩) (bp.and (q.bl.mono fun b hb=>by omega))
 have d0:=F a c0;have d1:=F a c1;have i1:(0:Int)<(k:Int):=by omega
 obtain⟨W0,d⟩:∃W0,W0=X8 8 x w:=⟨_,rfl⟩
 rw[<-d] at a c hz j;unfold X8 at d0 d1 d;clear c0 c1 q y bp;go_enter O,K;go_wp2_with fail;rw[<-d];clear d d0 d1;refine j.out.mono ?_;rintro e w1 ⟨h,⟨i,rfl⟩|⟨I,U,i,rfl,iI,r,u,bU⟩⟩
 .have hw1:=c.below h;obtain⟨_,r0,z,r2,g,_,_,_,_⟩:=hw1;have f0:=g 0;have f1:=g 1;have f2:=g 2;have HE:Hid (U8 Q w (X2 p.ty) (X (L #[P #[C D 0,A B 0 0,A B 0 0],.bool false])) (((w1.setCell ⟨w.heap.size+1,0,B⟩ (C D 0)).setCell ⟨w.heap.size+1,1,B⟩ (A B 0 0)).setCell ⟨w.heap.size+1,2,B⟩ (A B 0 0))):=⟨(((a.trans (h.mono (by omega))).setCell (by simp) _).setCell (by simp) _).setCell (by simp) _,.inl ⟨i,rfl⟩⟩
  clear a h hz i j c;go_wp2_with fail;refine J (v:=L #[P #[C D 0,A B 0 0,A B 0 0],.bool false]) ?_ rfl HE.out;simp[results,E,go_sem,r0,z,r2]
 .have hw1:=c.below h;have HS:Hid _:=U8.store (Q:=Q) (a.trans (h.mono (by omega))) hw1 iI r u bU;obtain⟨_,r0,z,r2,g,_,_,_,_⟩:=hw1;have f0:=g 0;have f1:=g 1;have f2:=g 2;have HR:=Yx i;clear a h hz i j c iI r u bU;go_wp2_with fail;obtain⟨W,hW,e1,e2,e3,e4,e5,e6,e7,e8⟩:=HS.out;rw[<-hW];clear hW;refine J (v:=L #[P #[C D I.k,I.s,U.s],.bool Zb]) ?_ rfl ⟨e1,.inr ⟨I,U,HR.out,rfl,e2,e3,e4,e5⟩⟩;simp[results,E,go_sem,e6,e7,e8]
end Go.Proofs.YtnddkmccagiclabGreatDoor
