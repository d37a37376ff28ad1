import Derived.Test.YtnddkmccagiclabGreatDoorZtg
set_option maxRecDepth 20000
set_option maxHeartbeats 16000000
open Go.RowKit Go.Proofs.Tryz
open Go.Value renaming pointer→A
open Option renaming none→B,some→E
open Go.World renaming block_lt_of_cell?→C
open Go renaming cell_later→D,World→N,Addr→Q,Calls→R
open Go.Proofs.Tryz renaming ntmps158→F,func158→J,prog→K
open Nat renaming lt_of_lt_of_le→I,le_refl→O
open Go.RowKit.Below renaming refl→L
open Go.Ending renaming returned→M
open Bool renaming true→P
namespace Go.Proofs.YtnddkmccagiclabGreatDoor
variable {w w0:N}{G:Gh}{p:Option Q}
def Mq(k n:Int)(pb ps pi pg pa:Option Q)(z:Int):Obj:=.cells #[.int .i64 k,.int .i64 n,A pb,A ps,A pi,A pg,A pa,.int .i64 z] 172
theorem LH{k n:Int}{pb ps pi pg pa:Option Q}{z:Int}{W:N}(a:∀i,W.cell? ⟨w.heap.size,i,B⟩=(w.alloc (Mq k n pb ps pi pg pa z)).cell? ⟨w.heap.size,i,B⟩){v:YK}(b:v.k=k)(g:v.n=n)(e:v.az=z)(h:v.k=3->NH w0 pb v.body/\G.sp ps v.env)(d:v.k=4\/v.k=5->∃u,v.inn=[u]/\G.vp pi u)(j:G.cp pg v.given)(c:G.cp pa v.answer):Wq w0 W G w.heap.size v:=by refine⟨pb,ps,pi,pg,pa,?_,?_,?_,?_,?_,?_,?_,?_,h,d,j,c⟩<;>rw[a]<;>simp[Mq,go_sem,b,g,e]
theorem NJ{W:N}(c:HG w0 w G)(a:Below w.heap.size w W){v:YK}(d:Wq w0 W G w.heap.size v):Xr w0 w G W (G.addV w.heap.size v)/\(G.addV w.heap.size v).vp (E ⟨w.heap.size,0,B⟩) v:=by
 have hd:¬G.dom w.heap.size:=fun h=>by have:=c.lt h;omega
 refine⟨⟨Gh.le_addV hd,(c.below a).addV hd d,a,fun b h=>?_⟩,Gh.vp_addV _ _ _⟩;rcases Gh.dom_addV h with rfl|h
 .exact .inr (O _)
 .exact .inl h
def Vh(w0 w:N)(G:Gh)(v:YK)(e:Ending)(w':N):Prop:=∃p H,e=M (A p)/\H.vp p v/\Xr w0 w G w' H
theorem Qy(f c:Nat)(k:Int)(l:(k != 4)=P)(a b:Option Q)(w:N)(g:w.cell? ⟨f,0,B⟩=E (.int .i64 k))(d:w.cell? ⟨c,8,B⟩=E (A a))(j:w.cell? ⟨c,9,B⟩=E (A b)):
  R K 186 #[A (E ⟨f,0,B⟩),A (E ⟨c,0,B⟩)] w fun e w'=>e=M (A (E ⟨w.heap.size,0,B⟩))/\(∀i,w'.cell? ⟨w.heap.size,i,B⟩=(w.alloc (Mq 4 0 B B (E ⟨f,0,B⟩) a b 0)).cell? ⟨w.heap.size,i,B⟩)/\Below w.heap.size w w':=by
 have o:f<w.heap.size:=C _ _ g;have h:c<w.heap.size:=C _ _ d;go_enter func186,ntmps186;go_wp2_with fail;go_region
 all_goals
  go_wp2_with fail
  go_ret
  exact⟨rfl,fun _=>rfl,((L _ _).alloc (O _) _).drew⟩
theorem Sh(f c:Nat)(w0 w:N)(G:Gh)(pi pfg pfa pg pa:Option Q)(xg xa yg ya:Option Ca)(hG:HG w0 w G)(f0:w.cell? ⟨f,0,B⟩=E (.int .i64 4))(f4:w.cell? ⟨f,4,B⟩=E (A pi))(f5:w.cell? ⟨f,5,B⟩=E (A pfg))(f6:w.cell? ⟨f,6,B⟩=E (A pfa))(c8:w.cell? ⟨c,8,B⟩=E (A pg))(c9:w.cell? ⟨c,9,B⟩=E (A pa))
  (hxg:G.cp pg xg) (hyg:G.cp pfg yg) (hya:G.cp pfa ya) (hxa:G.cp pa xa) :
  R K 186 #[A (E ⟨f,0,B⟩),A (E ⟨c,0,B⟩)] w fun e w'=>∃(w3:N)(H:Gh)(p1 p2:Option Q),e=M (A (E ⟨w3.heap.size,0,B⟩))/\Xr w0 w G w3 H/\H.cp p1 (YI xg yg)/\H.cp p2 (YI ya xa)/\(∀i,w'.cell? ⟨w3.heap.size,i,B⟩=(w3.alloc (Mq 4 0 B B pi p1 p2 0)).cell? ⟨w3.heap.size,i,B⟩)/\Below w3.heap.size w3 w':=by
 have z:f<w.heap.size:=C _ _ f0;have y:c<w.heap.size:=C _ _ c8;have p:Hid (∀w':N,bL w w'->(cL w' f 4 (A pi)/\cL w' f 5 (A pfg)/\cL w' f 6 (A pfa)/\cL w' c 8 (A pg)/\cL w' c 9 (A pa))):=fun w' h=>⟨D h f4,D h f5,D h f6,D h c8,D h c9⟩
 have l:Hid (R K 201 #[A pg,A pfg] w.drew (KQ w0 w.drew G xg yg)):=QT (hG.below ((L _ _).drew)) hxg hyg;have k:Hid (∀W H,G.le H->HG w0 W H->R K 201 #[A pfa,A pa] W (KQ w0 W H ya xa)):=fun W H o x=>QT x (hya.le o) (hxa.le o);have a:bL w w.drew:=(L _ _).drew;clear hxg hyg hya hxa;go_enter func186,ntmps186;go_wp2_with fail;clear f4 f5 f6 c8 c9;go_region_held3 (fun w'=>cL w' f 4 (A pi)/\cL w' f 5 (A pfg)/\cL w' f 6 (A pfa)/\cL w' c 8 (A pg)/\cL w' c 9 (A pa))
  (first
   |exact p.out _ a
   |exact p.out _ (a.alloc (by have:=a.size;omega) _)
   |go_keep)
  (first
   |(go_at_call 201;refine l.out.mono ?_;rintro e w2 ⟨p1,u,rfl,j,b⟩;replace a:=a.trans (b.bel.mono a.size);clear l)
   |(go_at_call 201;refine(k.out _ u b.le b.hg).mono ?_;rintro e w3 ⟨p2,q,rfl,g,d⟩;replace a:=a.trans (d.bel.mono a.size);clear k))
 go_wp2_with fail;go_ret;have r:Xr w0 w G w3 q:=(Xr.below hG ((L _ _).drew)).trans (b.trans d);exact⟨w3,q,p1,p2,rfl,r,j.le d.le,g,fun _=>rfl,(L _ _).alloc (O _) _⟩
theorem TN(i:HG w0 w G){q:Option Q}{f:YK}{c:Ca}(hf:G.vp p f)(hc:G.cp q (E c)):R K 186 #[A p,A q] w (Vh w0 w G (X7 f c)):=by
 obtain⟨b,rfl,hb⟩:=hf;rcases hc with⟨_,h⟩|⟨x,y,rfl,e,hx⟩
 .cases h
 cases e
 obtain⟨pb,ps,pi,pg,pa,k,h1,h2,h3,h4,h5,h6,h7,a1,a2,a3,a4⟩:=i.v b f hb;obtain⟨qg,qa,g,cg,ca⟩:=i.c x c hx;by_cases hk:f.k=4
 .rw[hk] at k;obtain⟨u,hi,hu⟩:=a2 (.inl hk);have d:f.core=u:=by unfold YK.core;rw[hi];rfl
  refine(Sh b x w0 w G pi pg pa qg qa c.given c.answer f.given f.answer i k h4 h5 h6 g.c8 g.c9 cg a3 a4 ca).mono ?_;rintro e w' ⟨w3,H,p1,p2,rfl,l,c1,c2,a,a0⟩;have z:X7 f c=J4 u (YI c.given f.given) (YI f.answer c.answer):=by unfold X7;rw[if_pos hk,d]
  have hv:Wq w0 w' H w3.heap.size (X7 f c):=by rw[z];exact LH a rfl rfl rfl (fun h=>by simp[J4] at h) (fun _=>⟨u,rfl,hu.le l.le⟩) c1 c2
  obtain⟨j,r⟩:=NJ l.hg a0 hv;exact⟨_,_,rfl,r,l.trans j⟩
 .refine(Qy b x f.k (by simpa using hk) qg qa w k g.c8 g.c9).mono ?_;rintro e w' ⟨rfl,a,o⟩;have z:X7 f c=J4 f c.given c.answer:=by unfold X7;rw[if_neg hk]
  have hv:Wq w0 w' G w.heap.size (X7 f c):=by rw[z];exact LH a rfl rfl rfl (fun h=>by simp[J4] at h) (fun _=>⟨f,rfl,b,rfl,hb⟩) cg ca
  obtain⟨j,r⟩:=NJ i o hv;exact⟨_,_,rfl,r,j⟩
theorem B2(c:Nat)(op hi:Bool)(kind:Int)(pg pa p p1:Option Q)(w:N)(c0:w.cell? ⟨c,0,B⟩=E (.bool op))(c4:w.cell? ⟨c,4,B⟩=E (.int .i64 kind))(c8:w.cell? ⟨c,8,B⟩=E (A pg))(c9:w.cell? ⟨c,9,B⟩=E (A pa))(c10:w.cell? ⟨c,10,B⟩=E (.bool hi))
  (hop:op=P->∃b,p=E ⟨b,0,B⟩/\w.cell? ⟨b,4,B⟩=E (A p1)) (hnop:op=false->p1=p) (Z:Option Q->N->Prop) (hz:pg.isSome=false->pa.isSome=false->Z p1 w) (hc:pg.isSome=P\/pa.isSome=P->R K 186 #[A p1,A (E ⟨c,0,B⟩)] w fun e w'=>∃q,e=M (A q)/\Z q w'/\Below w.heap.size w w') :
  R K 158 #[A (E ⟨c,0,B⟩),A p] w fun e w'=>∃q W,Z q W/\((hi=false/\e=M (A q)/\w'=W)\/(hi=P/\e=M (A (E ⟨W.heap.size,0,B⟩))/\w'=W.alloc (Mq 5 0 B B q B B kind))):=by
 have l:c<w.heap.size:=C _ _ c0;have o:=Yx hz;have r:=Yx hc;clear hz hc;cases op
 .have e:=hnop rfl;subst e;clear hop hnop;cases pg with
  |none=>
   cases pa with
   |none=>
    cases hi<;>(go_enter J,F;go_wp2_with fail;go_ret)
    .exact⟨p1,w,o.out rfl rfl,.inl ⟨by trivial,rfl,rfl⟩⟩
    .exact⟨p1,w,o.out rfl rfl,.inr ⟨by trivial,rfl,rfl⟩⟩
   |some a=>
    cases hi
    all_goals
     go_enter J,F
     go_wp2_with fail
     refine(r.out (.inr rfl)).mono ?_
     rintro e w2 ⟨q,rfl,i,h⟩
     have u:=D h c4
     have k:=D h c10
     have j:=I l h.size
     have d:=Yx i
     clear i
     go_wp2_with fail
     go_ret
    .exact⟨q,w2,d.out,.inl ⟨by trivial,rfl,rfl⟩⟩
    .exact⟨q,w2,d.out,.inr ⟨by trivial,rfl,rfl⟩⟩
  |some g=>
   cases hi
   all_goals
    go_enter J,F
    go_wp2_with fail
    refine(r.out (.inl rfl)).mono ?_
    rintro e w2 ⟨q,rfl,i,h⟩
    have u:=D h c4
    have k:=D h c10
    have j:=I l h.size
    have d:=Yx i
    clear i
    go_wp2_with fail
    go_ret
   .exact⟨q,w2,d.out,.inl ⟨by trivial,rfl,rfl⟩⟩
   .exact⟨q,w2,d.out,.inr ⟨by trivial,rfl,rfl⟩⟩
 .obtain⟨b,rfl,b4⟩:=hop rfl;have x:b<w.heap.size:=C _ _ b4;clear hop hnop;cases pg with
  |none=>
   cases pa with
   |none=>
    cases hi<;>(go_enter J,F;go_wp2_with fail;go_ret)
    .exact⟨p1,w,o.out rfl rfl,.inl ⟨by trivial,rfl,rfl⟩⟩
    .exact⟨p1,w,o.out rfl rfl,.inr ⟨by trivial,rfl,rfl⟩⟩
   |some a=>
    cases hi
    all_goals
     go_enter J,F
     go_wp2_with fail
     refine(r.out (.inr rfl)).mono ?_
     rintro e w2 ⟨q,rfl,i,h⟩
     have u:=D h c4
     have k:=D h c10
     have j:=I l h.size
     have d:=Yx i
     clear i
     go_wp2_with fail
     go_ret
    .exact⟨q,w2,d.out,.inl ⟨by trivial,rfl,rfl⟩⟩
    .exact⟨q,w2,d.out,.inr ⟨by trivial,rfl,rfl⟩⟩
  |some g=>
   cases hi
   all_goals
    go_enter J,F
    go_wp2_with fail
    refine(r.out (.inl rfl)).mono ?_
    rintro e w2 ⟨q,rfl,i,h⟩
    have u:=D h c4
    have k:=D h c10
    have j:=I l h.size
    have d:=Yx i
    clear i
    go_wp2_with fail
    go_ret
   .exact⟨q,w2,d.out,.inl ⟨by trivial,rfl,rfl⟩⟩
   .exact⟨q,w2,d.out,.inr ⟨by trivial,rfl,rfl⟩⟩
theorem Ve{c:Option Ca}(h:G.cp p c):p.isSome=c.isSome:=by rcases h with⟨rfl,rfl⟩|⟨b,x,rfl,rfl,_⟩<;>rfl
theorem CJ(hG:HG w0 w G){q:Option Q}{v:YK}{c:Ca}(hv:G.vp p v)(hc:G.cp q (E c))(ho:c.opens=P->v.k=5):R K 158 #[A q,A p] w (Vh w0 w G (No c v)):=by
 rcases hc with⟨_,h⟩|⟨x,y,rfl,e,hx⟩
 .cases h
 cases e
 obtain⟨qg,qa,j,cg,ca⟩:=hG.c x c hx;obtain⟨b,rfl,o⟩:=hv;obtain⟨pb,ps,pi,pg,pa,h0,h1,h2,h3,h4,h5,h6,h7,a1,a2,a3,a4⟩:=hG.v b v o;obtain⟨k,d,a,l⟩:∃k,G.vp k (if c.opens=P then v.core else v)/\(c.opens=P->∃b',(E ⟨b,0,B⟩:Option Q)=E ⟨b',0,B⟩/\cL w b' 4 (A k))/\(c.opens=false->k=E ⟨b,0,B⟩):=by
  by_cases a:c.opens=P
  .obtain⟨u,hi,hu⟩:=a2 (.inr (ho a));have g:v.core=u:=by unfold YK.core;rw[hi];rfl
   exact⟨pi,by rw[if_pos a,g];exact hu,fun _=>⟨b,rfl,h4⟩,fun h=>by rw[a] at h;cases h⟩
  .exact⟨E ⟨b,0,B⟩,by rw[if_neg a];exact⟨b,rfl,o⟩,fun h=>absurd h a,fun _=>rfl⟩
 obtain⟨u,hu⟩:∃u,u=if c.opens=P then v.core else v:=⟨_,rfl⟩
 rw[<-hu] at d;obtain⟨z,hz⟩:∃z,z=if c.given.isSome=P\/c.answer.isSome=P then X7 u c else u:=⟨_,rfl⟩
 have e1:No c v=if c.hides=P then XO z c.kind else z:=by unfold No;simp only;rw[<-hu,<-hz]
 rw[e1];have gg:=Ve cg;have ga:=Ve ca;refine(B2 x c.opens c.hides c.kind qg qa (E ⟨b,0,B⟩) k w j.c0 j.c4 j.c8 j.c9 j.c10 a l (fun q W=>∃H,H.vp q z/\Xr w0 w G W H) (fun n1 n2=>⟨G,?_,Xr.refl hG⟩) (fun hs=>?_)).mono ?_
 .rw[hz,if_neg (by rw[<-gg,<-ga,n1,n2];simp)];exact d
 .refine(TN hG d (.inr ⟨x,c,rfl,rfl,hx⟩)).mono ?_;rintro e w' ⟨q,H,rfl,r,i⟩;exact⟨q,rfl,⟨H,by rw[hz,if_pos (by rw[<-gg,<-ga];exact hs)];exact r,i⟩,i.bel⟩
 .rintro e w' ⟨q,W,⟨H,r,i⟩,⟨hh,rfl,rfl⟩|⟨hh,rfl,rfl⟩⟩
  .exact⟨q,H,rfl,by rw[hh];exact r,i⟩
  .have o:bL W (W.alloc (Mq 5 0 B B q B B c.kind)):=(L _ _).alloc (O _) _;have a0:Wq w0 (W.alloc (Mq 5 0 B B q B B c.kind)) H W.heap.size (XO z c.kind):=LH (fun _=>rfl) rfl rfl rfl (fun h=>by simp[XO] at h) (fun _=>⟨z,rfl,r⟩) (Gh.cp_none _) (Gh.cp_none _);obtain⟨r1,r2⟩:=NJ i.hg o a0;exact⟨_,_,rfl,by rw[if_pos hh];exact r2,i.trans r1⟩
end Go.Proofs.YtnddkmccagiclabGreatDoor
