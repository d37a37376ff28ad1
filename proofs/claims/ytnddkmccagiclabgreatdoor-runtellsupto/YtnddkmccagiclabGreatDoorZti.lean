import Derived.Test.YtnddkmccagiclabGreatDoorZth
set_option maxRecDepth 20000
set_option maxHeartbeats 16000000
open Go.RowKit Go.Proofs.Tryz
open Option renaming none→C,map_eq_some_iff→D,some→F,bind_eq_some_iff→Y
open Nat renaming le_refl→E,zero_add→Zc,le_of_lt→Zj
open Go.Proofs.Tryz renaming prog→G
open Go.Value renaming int→I,slice→L,pointer→M
open Go.IntKind renaming i64→K
open Go.World renaming cell?_of_block→Q,frozen?_of_block→Z,block_lt_of_cell?→Zg
open List renaming suffix_cons→S,getElem_mem→Za,length_append→Zd,length_singleton→Zi
open Bool renaming and_eq_true→T,true→Zh
open Go.Ending renaming returned→U
open Go renaming Calls→V,World→Zb
open Go.RowKit renaming Hid→Ze
open Go.RowKit.Below renaming refl→Zf
namespace Go.Proofs.YtnddkmccagiclabGreatDoor
variable {x:TT}{R k:Nat}{ws:List ByteArray}{w w':Zb}
theorem Nc{α β:Type}(g:α->β)(f:β->Nat->Option Nat):∀(l:List α)(r:Nat),XK f (l.map g) r=XK (fun y r'=>f (g y) r') l r
 |[],r=>rfl
 |x::l,r=>by
  simp only[List.map_cons,XK];cases f (g x) r with
  |none=>rfl
  |some q=>exact Nc g f l q
theorem Sd{α:Type}(f:α->Nat->Option Nat)(hf:∀y q q',f y q=F q'->q'<=q):∀(l:List α)(r r':Nat),XK f l r=F r'->r'<=r
 |[],r,r',h=>by simp[XK] at h;omega
 |x::l,r,r',h=>by
  simp only[XK] at h;cases hq:f x r with
  |none=>rw[hq] at h;cases h
  |some q=>rw[hq] at h;have:=hf x r q hq;have:=Sd f hf l q r' h;omega
theorem OD(ar:Int):∀(n:Nat)(ins:Int)(x:Tm)(r r':Nat),Xo ar n ins x r=F r'->r'<=r
 |0,_,_,_,_,h=>by simp[Xo] at h
 |n+1,ins,x,0,_,h=>by simp[Xo] at h
 |n+1,ins,x,r+1,r',h=>by
  simp only[Xo] at h;split at h
  .have:=Sd _ (fun y q q' h=>OD ar n (Xm x.k ins) y q q' h) x.l r r' h;omega
  .cases h
theorem My(k:Int):YA k<=3:=by
 unfold YA;repeat' split
 all_goals omega
theorem VW(R:Nat)(ar:Int)(hR:1<=R)(n:Nat):n<=500->∀(ins:Nat)(x:TT)(r:Nat)(w:Zb),r<=n->ins+n<=1000->Gp w->WS R ar r w->x.In w->x.Bl (·≠R)->x.nb->
  V G 46 #[M (F ⟨R,0,C⟩),.agg #[I K x.k,I K x.n,I K x.t.k,L x.t.a x.t.l.length x.t.c,I K x.f.k,L x.f.a x.f.l.length x.f.c,L x.a x.l.length x.c],I K (ins:Int)] w (Ue R ar (Xo ar n (ins:Int) x.tm r) w):=by
 induction n with
 |zero=>
  intro _ ins x r w p _ _ d _ _ _;obtain rfl:r=0:=by omega
  exact OC R ar _ x w d
 |succ n ih=>
  intro z ins x r w p hi k d l a b;cases r with
  |zero=>exact OC R ar _ x w d
  |succ r=>
   have e:Xo ar (n+1) (ins:Int) x.tm (r+1)=if Uv ar (ins:Int) x.tm=Zh then XK (fun (y:TT)r'=>Xo ar n (Xm x.k (ins:Int)) y.tm r') x.l r else C:=by rw[Xo,TT.tm_l,TT.tm_k,Nc]
   rw[e];have o:Uv ar (ins:Int) x.tm=((decide (1<=x.k)&&decide (x.k<=9)&&(x.l.length==YA x.k))&&(X6 x.k x.t.ty x.f.ty&&Xt ar (ins:Int) x.k x.n)):=by rw[Uv,TT.tm_l,TT.tm_k,TT.tm_n,TT.tm_t,TT.tm_f,List.length_map]
   rw[o];by_cases h1:(decide (1<=x.k)&&decide (x.k<=9)&&(x.l.length==YA x.k))=Zh
   .have h1':=h1;simp only[T,decide_eq_true_eq,beq_iff_eq] at h1';obtain⟨⟨i,g⟩,c⟩:=h1';have u:=My x.k;by_cases h2:(X6 x.k x.t.ty x.f.ty&&Xt ar (ins:Int) x.k x.n)=Zh
    .rw[h1,h2,Bool.and_self,if_pos rfl];simp only[T] at h2;by_cases h7:x.k=7
     .refine PH R ar n r (by omega) ins (by omega) x w k hR d (by omega) l a b i g c h2.1 h2.2 Zh (by simp[h7]) (ins+1) (by simp) ?_ ?_
      .intro j hj q W hq hgW hwW hxW;have:=ih (by omega) (ins+1) x.l[j] q W (by omega) (by omega) hgW hwW hxW (a.mem (Za hj)) (b.mem (Za hj));have e:Xm x.k (ins:Int)=((ins+1:Nat):Int):=by rw[Xm,if_pos h7];omega
       rw[e];exact this
      .intro y q q' _ h;exact OD _ _ _ _ _ _ h
     .refine PH R ar n r (by omega) ins (by omega) x w k hR d (by omega) l a b i g c h2.1 h2.2 false (by simp[h7]) ins (by simp) ?_ ?_
      .intro j hj q W hq hgW hwW hxW;have:=ih (by omega) ins x.l[j] q W (by omega) (by omega) hgW hwW hxW (a.mem (Za hj)) (b.mem (Za hj));have e:Xm x.k (ins:Int)=(ins:Int):=by rw[Xm,if_neg h7]
       rw[e];exact this
      .intro y q q' _ h;exact OD _ _ _ _ _ _ h
    .have h2':(X6 x.k x.t.ty x.f.ty&&Xt ar (ins:Int) x.k x.n)=false:=by simpa using h2
     rw[h2',Bool.and_false,if_neg (by simp)];exact Tj R ar r (by omega) ins (by omega) x w k hR d l a b i g c h2'
   .have h1':(decide (1<=x.k)&&decide (x.k<=9)&&(x.l.length==YA x.k))=false:=by simpa using h1
    rw[h1',Bool.false_and,if_neg (by simp)];exact Tk R ar r (by omega) _ x w k hR d h1'
def Uh(ar:Int)(x:Tm):Bool:=(Xo ar 40 0 x 40).isSome
theorem Mh(x:TT)(a:Int)(w:Zb)(l:Gp w)(p:x.In w)(i:x.nb):
  V G 29 #[.agg #[I K x.k,I K x.n,I K x.t.k,L x.t.a x.t.l.length x.t.c,I K x.f.k,L x.f.a x.f.l.length x.f.c,L x.a x.l.length x.c],I K a] w fun e w'=>e=U (.bool (Uh a x.tm))/\Below w.heap.size w w':=by
 have a0:=l.size;have d:∀o,bL w (w.alloc o):=fun o=>(Zf _ _).alloc (E _) _;have g:∀o u,bL w ((w.alloc o).alloc u):=fun o u=>(d o).alloc (by simp) _;have HC:Ze (∀W,bL w W->WS (w.heap.size+1) a 40 W->V G 46 #[M (F ⟨w.heap.size+1,0,C⟩),.agg x.v,I K 0] W (Ue (w.heap.size+1) a (Xo a 40 0 x.tm 40) W)):=by intro W y j;exact VW (w.heap.size+1) a (by omega) 40 (by omega) 0 x 40 W (E _) (by omega) (l.below y) j (p.below y) (p.bl.mono fun b h=>by omega) i
 have z:=Yx g;clear d g l p i;go_enter func29,ntmps29;go_wp2_with fail;refine(HC.out _ (z.out _ _) ⟨by simp[go_sem],by simp[go_sem],by simp[go_sem]⟩).mono ?_;rintro e w1 ⟨r,rfl,_,_,c⟩;have HF:Ze (bL w w1):=by
  have q:((w.alloc (.cells x.v 27)).alloc (.cells #[I K a,I K 40] 80)).heap.size=w.heap.size+2:=by simp
  have:=c.size;rw[q] at this;refine(z.out (.cells x.v 27) (.cells #[I K a,I K 40] 80)).trans ?_;exact⟨c.os,c.tape,c.output,c.size,fun k h=>c.block k (by rw[q];omega) (by omega) (by simp)⟩
 clear c;go_wp2_with fail;go_ret;exact⟨rfl,HF.out⟩
theorem VX{ar:Int}{n:Nat}{ins:Int}{x:Tm}{r r':Nat}(h:Xo ar n ins x r=F r'):∃m q,n=m+1/\r=q+1/\Uv ar ins x=Zh/\XK (fun y r'=>Xo ar m (Xm x.k ins) y r') x.l q=F r':=by
 match n,r,h with
 |0,_,h=>simp[Xo] at h
 |m+1,0,h=>simp[Xo] at h
 |m+1,q+1,h=>
  simp only[Xo] at h;split at h
  .exact⟨m,q,rfl,rfl,by assumption,h⟩
  .cases h
theorem Rl{ar ins:Int}{x:Tm}(h:Uv ar ins x=Zh):1<=x.k/\x.k<=9/\x.l.length=YA x.k/\X6 x.k x.t x.f=Zh/\Xt ar ins x.k x.n=Zh:=by simp only[Uv,T,decide_eq_true_eq,beq_iff_eq] at h;exact⟨h.1.1.1,h.1.1.2,h.1.2,h.2.1,h.2.2⟩
theorem Oz{t:Ty}(h:XG t=Zh):t=Yn:=by
 obtain⟨k,l⟩:=t;simp only[XG,Yn,YV,Yv,Bool.false_or,T,beq_iff_eq] at h;obtain⟨rfl,h⟩:=h;cases l with
 |nil=>rfl
 |cons x r=>simp[Uf] at h
theorem Vf{t:Tr}(h:XG t.ty=Zh):t.hgt<=1000/\t.sm:=by
 have e:=Oz h;obtain⟨k,a,c,l⟩:=t;rw[Tr.ty_mk] at e;have b:l=[]:=by have:=congrArg Ty.l e;simpa[Yn] using this
 subst b;refine⟨?_,Tr.sm_mk.2 ⟨by simp,fun t h=>by cases h⟩⟩;rw[Tr.hgt_mk];simp
theorem PU{f:TT->Nat->Option Nat}(hf:∀y q q',f y q=F q'->y.tok/\y.sz+q'=q):∀(l:List TT)(r r':Nat),XK f l r=F r'->(∀y,y∈l->y.tok)/\(l.map TT.sz).sum+r'=r
 |[],r,r',h=>by simp[XK] at h;exact⟨(fun y hy=>by cases hy),by simpa using h.symm⟩
 |x::l,r,r',h=>by
  simp only[XK] at h;cases hq:f x r with
  |none=>rw[hq] at h;cases h
  |some q=>
   rw[hq] at h;have h1:=hf x r q hq;have h2:=PU hf l q r' h;refine⟨fun y hy=>?_,?_⟩
   .rcases List.mem_cons.1 hy with rfl|hy
    .exact h1.1
    .exact h2.1 y hy
   .simp only[List.map_cons,List.sum_cons];omega
theorem PI(ar:Int):∀(n:Nat)(ins:Int)(x:TT)(r r':Nat),Xo ar n ins x.tm r=F r'->x.tok/\x.sz+r'=r
 |0,_,_,_,_,h=>by simp[Xo] at h
 |n+1,ins,x,r,r',h=>by
  obtain⟨m,q,hm,rfl,hok,hb⟩:=VX h;obtain rfl:n=m:=by omega
  obtain⟨_,_,_,b,_⟩:=Rl hok;rw[TT.tm_l,TT.tm_k,Nc] at hb;have d:=PU (fun y q g h=>PI ar n _ y q g h) x.l q r' hb;rw[TT.tm_t,TT.tm_f,TT.tm_k] at b;simp only[X6,T] at b;have e:x.t.hgt<=1000/\x.t.sm:=by
   by_cases hk:UI x.k=Zh
   .have:=b.2;rw[hk,if_pos rfl,<-YM] at this;exact⟨Nat.le_trans (Tr.hgt_good 4 _ this) (by omega),Tr.sm_good 4 _ this⟩
   .have hk':UI x.k=false:=by simpa using hk
    have:=b.2;rw[hk',if_neg (by simp)] at this;exact Vf this
  have j:=x.sz_eq;refine⟨?_,by omega⟩;obtain⟨k,i,t,f,a,c,l⟩:=x;exact TT.tok_mk.2 ⟨e,Vf b.1,d.1⟩
theorem PJ{ar:Int}(h:Uh ar x.tm=Zh):x.tok/\x.sz<=40:=by obtain⟨b,a⟩:=Option.isSome_iff_exists.1 h;have:=PI ar 40 0 x 40 b a;exact⟨this.1,by omega⟩
def Tm.sz:Tm->Nat
 |⟨_,_,_,_,l⟩=>(l.map fun t=>t.sz).sum+1
theorem Tm.sz_mk(k n:Int)(t f:Ty)(l:List Tm):(Tm.mk k n t f l).sz=(l.map Tm.sz).sum+1:=by rw[Tm.sz]
theorem TT.sz_tm(x:TT):x.sz=x.tm.sz:=by
 induction x using TT.ind with
 |h k n t f a c l ih=>rw[TT.tm_mk,TT.sz_mk,Tm.sz_mk,List.map_map];have:l.map TT.sz=l.map (Tm.sz∘TT.tm):=List.map_congr_left fun x b=>ih x b;rw[this]
theorem Mm{x:ByteArray}{ws r:List ByteArray}(h:behind x ws=F r):r <:+ ws:=by
 cases ws with
 |nil=>cases h
 |cons y s=>
  simp only[behind] at h;split at h
  .cases h;exact S _ _
  .cases h
theorem K4:∀(n:Nat)(ws:List ByteArray)(p:Ty×List ByteArray),YX n ws=F p->p.2 <:+ ws
 |0,_,_,h=>by simp[YX] at h
 |n+1,[],_,h=>by simp[YX] at h
 |n+1,x::r,p,h=>by
  simp only[YX] at h;split at h
  .simp only[Y,D] at h;obtain⟨r1,h1,q1,h2,q2,h3,r4,h4,rfl⟩:=h;exact(Mm h4).trans ((K4 n _ _ h3).trans ((K4 n _ _ h2).trans ((Mm h1).trans (S _ _))))
  .simp only[D] at h;obtain⟨k,_,rfl⟩:=h;exact S _ _
theorem VE{n:Nat}{p:Ty×List ByteArray}(h:UT n k ws=F p):p.2 <:+ ws:=by
 unfold UT at h;split at h
 .exact K4 n _ _ h
 .cases h;exact List.suffix_rfl
theorem Px(f:List ByteArray->Option (Tm×List ByteArray))(hf:∀ws p,f ws=F p->p.2 <:+ ws):∀(m:Nat)(ws:List ByteArray)(q:List Tm×List ByteArray),UH f m ws=F q->q.2 <:+ ws
 |0,ws,q,h=>by simp[UH] at h;rw[<-h];exact List.suffix_rfl
 |m+1,ws,q,h=>by simp only[UH,Y,D] at h;obtain⟨p,hp,q',hq,rfl⟩:=h;exact(Px f hf m _ _ hq).trans (hf ws p hp)
theorem Oe:∀(n:Nat)(ws:List ByteArray)(p:Tm×List ByteArray),Y0 n ws=F p->p.2 <:+ ws
 |0,_,_,h=>by simp[Y0] at h
 |n+1,[],_,h=>by simp[Y0] at h
 |n+1,x::r,p,h=>by
  by_cases hx:x=Ok
  .subst hx;rw[Kc] at h;cases r with
   |nil=>cases h
   |cons y r1=>simp only[LZ,Y,D] at h;obtain⟨k,_,p1,h1,q,h2,r4,h3,rfl⟩:=h;have a2:=Px (Y0 n) (fun ws p hp=>Oe n ws p hp) _ _ _ h2;exact(Mm h3).trans (a2.trans ((VE h1).trans ((S _ _).trans (S _ _))))
  .rw[Kb n x r hx] at h;rw[Mw h];exact S _ _
def Wr(ws:List ByteArray):Prop:=∀x,x∈ws->x.size<=1000000
theorem Wr.suf{a b:List ByteArray}(h:Wr b)(hs:a <:+ b):Wr a:=fun x hx=>h x (hs.subset hx)
theorem Wr.step{o:Option (List ByteArray)}{b b':Bool}{ws':List ByteArray}(h:Wr ws)(c:X3 o b ws' b')(a:∀r,o=F r->r <:+ ws):Wr ws':=by
 rcases c with⟨e,_⟩|⟨_,rfl,_⟩
 .exact h.suf (a _ e)
 .intro x hx;cases hx
theorem RS.agree{b:Bool}(h:RS R ws b w)(e:∀k,k<=R->w'.heap[k]?=w.heap[k]?):RS R ws b w':=by obtain⟨⟨a,c,u,z,j⟩,q,p,r,hz⟩:=h;refine⟨⟨a,c,(Q (a:=⟨R,0,C⟩) (e R (E _))).trans u,z,fun d=>?_⟩,(Q (a:=⟨R,1,C⟩) (e R (E _))).trans q,(Z (a:=⟨R,0,C⟩) (e R (E _))).trans p,(Z (a:=⟨R,1,C⟩) (e R (E _))).trans r,hz⟩;obtain⟨A,o,l,g,y⟩:=j d;exact⟨A,o,l,g,fun i x hi=>(Q (a:=⟨A,o+i,C⟩) (e A (Zj g))).trans (y i x hi)⟩
theorem Xw.agree{J:Nat}(h:Xw w J x)(e:w'.heap[J]?=w.heap[J]?):Xw w' J x:=⟨h.at7.of fun i=>Q (a:=⟨J,i,C⟩) e,fun i hi=>(Z (a:=⟨J,i,C⟩) e).trans (h.fz i hi)⟩
theorem Yi.agree{w2 w3:Zb}(h:Yi R C w w2)(h1:w3.os=w2.os)(h2:w3.tape=w2.tape)(h3:w3.output=w2.output)(h4:w2.heap.size<=w3.heap.size)(e:∀k,k<w.heap.size->w3.heap[k]?=w2.heap[k]?):Yi R C w w3:=⟨h1.trans h.os,h2.trans h.tape,h3.trans h.output,Nat.le_trans h.size h4,fun k hk a b=>(e k hk).trans (h.block k hk a b)⟩
theorem Tr.In.agree{t:Tr}{P:Nat->Prop}(h:t.In w)(hb:t.Bl P)(e:∀k,P k->w'.heap[k]?=w.heap[k]?):t.In w':=h.congr (P:=P) (fun b hb o=>Q (a:=⟨b,o,C⟩) (e b hb)) hb
theorem Tryz.info27:(G.info? 27).map (fun i=>(i.zero,i.size,i.bytes))=F (F (.agg #[I K 0,I K 0,I K 0,L C 0 0,I K 0,L C 0 0,L C 0 0]),7,104):=by kernel_rfl
theorem PT(R:Nat)(y:ByteArray)(hy:Kn y=C)(r:List ByteArray)(b u:Bool)(w:Zb)(z:Gl w)(hR:12<=R)(k:R<w.heap.size)
  (HN:Ze (V G 51 #[M (F ⟨R,0,C⟩)] (w7 w) fun e w'=>e=U (.string y)/\RS R r u w'/\Yi R C (w7 w) w')) :
  V G 52 #[M (F ⟨R,0,C⟩)] w (U7 R b C w):=by
 have HG:=Yx (z.below (Xv w));clear z;go_enter func52,ntmps52;go_wp2_with fail;refine HN.out.mono ?_;rintro e i ⟨rfl,hr,j⟩;have h:w.heap.size≠R:=by omega
 have HT:Ze (V G 84 #[.string y] i fun e w'=>e=U (.tuple #[I K 0,.bool false])/\w'=i):=by have:=Ov y i (HG.out.kept hR j);rw[hy] at this;exact this
 have HF:=Yx (Jz R r u i hr);have HD:=Un ((Yi.of_below (Xv w)).trans j) ((Jp w).kept j h);clear hr j HN HG hy;go_wp2_with fail;refine HT.out.mono ?_;rintro e w2 ⟨rfl,rfl⟩;go_wp2_with fail;refine HF.out.mono ?_;rintro e w4 ⟨rfl,g,d⟩;have a:=KS (HD.out.2.kept d h) g (HD.out.1.trans d);have c:=a.out.1.at7;have c0:=c.c0;have c1:=c.c1;have c2:=c.c2;have c3:=c.c3;have c4:=c.c4;have c5:=c.c5;have c6:=c.c6;simp only[Zc,YJ] at c0 c1 c2 c3 c4 c5 c6;have f0:=a.out.1.fz 0 (by omega);have f1:=a.out.1.fz 1 (by omega);have f2:=a.out.1.fz 2 (by omega);have f3:=a.out.1.fz 3 (by omega);have f4:=a.out.1.fz 4 (by omega);have f5:=a.out.1.fz 5 (by omega);have f6:=a.out.1.fz 6 (by omega);clear c g d HF HT;go_wp2_with fail;have hE:=MV (x:=YJ 0 0) (w:=w) (o:=C) (b:=b) a.out.1 (E _) k (Ku _ _ _) (Ms _ _ _) a.out.2.2 a.out.2.1 (.inr ⟨rfl,rfl,rfl⟩) (fun p hp=>by cases hp);refine bodyPost_ret (v:=.agg #[I K 0,I K 0,I K 0,L C 0 0,I K 0,L C 0 0,L C 0 0]) ?_ rfl hE.1;obtain⟨d0,d1,l,q,d4,d5,d6⟩:=Uo (x:=YJ 0 0) a.out.1;simp only[YJ,List.length_nil] at d0 d1 l q d4 d5 d6;simp[results,results52,go_sem,d0,d1,l,q,d4,d5,d6]
theorem Pa(R n:Nat)(r:List ByteArray)(b:Bool)(w:Zb)(hR:12<=R)(y:Gl w)(h:RS R (Ok::r) b w)
  (ih:Ze (∀(w:Zb),Gl w->RS R r b w->V G 52 #[M (F ⟨R,0,C⟩)] w (U7 R b (LZ n r) w))) :
  V G 33 #[M (F ⟨R,0,C⟩)] w (U7 R b (LZ n r) w):=by
 have HN:Ze (V G 51 #[M (F ⟨R,0,C⟩)] (w7 w) fun e w'=>e=U (.string ⟨#[40]⟩)/\RS R r b w'/\Yi R C (w7 w) w'):=Jn R Ok r b _ (h.below (Xv w));have p:=h.lt;have HG:=Yx (y.below (Xv w));clear h y;go_enter func33,ntmps33;go_wp2_with fail;refine HN.out.mono ?_;rintro e w1 ⟨rfl,hr,o⟩;have j:w.heap.size≠R:=by omega
 have c:=(Jp w).kept o j;have a1:=c.lt;have HT:=Yx (ih.out w1 (HG.out.kept hR o) hr);have u:=Un ((Yi.of_below (Xv w)).trans o) c;clear o hr HN HG c;go_wp2_with fail;refine HT.out.mono ?_;rintro e w2 ⟨x,rfl,hi,i,g,z,he⟩;obtain⟨a0,b',k,l⟩:=z.letters;have a:=u.out.2.kept g j;have HE:Ze (U7 R b (LZ n r) w (U (.agg x.v)) (Y5 w2 w.heap.size x)):=(MV a (E _) p hi (i.mono fun b hb=>by omega) (u.out.1.trans g) k l he).1
 have q:Ze _:=Uo (x:=x) a;have d:=a.at7;have c0:=d.c0;have c1:=d.c1;have c2:=d.c2;have c3:=d.c3;have c4:=d.c4;have c5:=d.c5;have c6:=d.c6;simp only[Zc,YJ] at c0 c1 c2 c3 c4 c5 c6;have f0:=a.fz 0 (by omega);have f1:=a.fz 1 (by omega);have f2:=a.fz 2 (by omega);have f3:=a.fz 3 (by omega);have f4:=a.fz 4 (by omega);have f5:=a.fz 5 (by omega);have f6:=a.fz 6 (by omega);clear d hi i g z he k l a HT u;go_wp2_with fail;refine bodyPost_ret (v:=.agg x.v) ?_ rfl HE.out;obtain⟨d0,d1,d2,d3,d4,d5,d6⟩:=q.out;simp[results,results33,go_sem,d0,d1,d2,d3,d4,d5,d6]
structure C6(R H J B k n:Nat)(ws1:List ByteArray)(b1:Bool)(t:Tr)(w:Zb)(j:Nat)(v:Value)(cs:List TT)(ws':List ByteArray)(b':Bool)(wr:Zb):Prop where
 row:OZ B v cs wr
 len:cs.length=j
 box:∃a c,v=L a cs.length c/\Xw wr J ⟨(k:Int),0,t,Yr 0,a,c,cs⟩
 res:Xw wr H (YJ 0 0)
 rs:RS R ws' b' wr
 kept:Yi R C w wr
 inv:QC (Y0 n) (YA (k:Int)) ws1 b1 j ws' b' (cs.map TT.tm)
 tin:t.In wr
 tbl:t.Bl (fun b=>J<b/\b<B)
 gl:Gl wr
 sm:Wr ws'
 small:ws'.length<n
 size:B<=wr.heap.size
theorem C6.step{H J B n:Nat}{ws1:List ByteArray}{b1:Bool}{t:Tr}{j:Nat}{v:Value}{cs:List TT}{ws' ws'':List ByteArray}{b' b'':Bool}{wr w2 w3:Zb}{gg cap1:Nat}{X:Obj}
  (h:C6 R H J B k n ws1 b1 t w j v cs ws' b' wr) (ad:R<H) (ah:H<J) (ab:J<B) (hw:w.heap.size<=H) (hR:12<=R) (hj:j<YA (k:Int))
  (ac:x.In w2) (a7:x.Bl (wr.heap.size<=·)) (y:Yi R C wr w2) (hr:RS R ws'' b'' w2) (hs:X3 ((Y0 n ws').map (·.2)) b' ws'' b'') (he:∀p,Y0 n ws'=F p->x.tm=p.1)
  (a1:w3.ownsRow B 27 7 (L (F ⟨gg,0,C⟩) (cs.length+1) cap1) (cs.length+1) (YT cs++YT [x])) (d:(w2.alloc X).grownBy w3 v.ownBlock) (a9:v.ownBlock=F gg\/gg=w2.heap.size+1) :
  C6 R H J B k n ws1 b1 t w (j+1) (L (F ⟨gg,0,C⟩) (cs.length+1) cap1) (cs++[x]) ws'' b'' (w3.setCell ⟨J,6,C⟩ (L (F ⟨gg,0,C⟩) (cs.length+1) cap1)):=by
 have af:=h.size;have ae:=y.size;have a3:=h.row.lt;have a0:=h.row.kept y (by omega);obtain⟨z,a6⟩:=a0.step ac (a7.mono fun b hb=>⟨by omega,fun e=>by have:=(a3 b e.symm).2;omega⟩) a1 d a9;have i:∀q,q<B->w3.heap[q]?=w2.heap[q]?:=fun q hq=>a6 q (by omega) (fun e=>by have:=(a3 q e.symm).1;omega);have a8:w2.heap.size<=w3.heap.size:=by have:=d.size;simp at this;omega
 have a5:∀{u:Zb},Yi R C u w2->u.heap.size<=B->Yi R C u w3:=fun hu hB=>hu.agree (d.os.trans rfl) (d.tape.trans rfl) (d.output.trans rfl) a8 (fun q hq=>i q (by omega));have l:Yi J C w3 (w3.setCell ⟨J,6,C⟩ (L (F ⟨gg,0,C⟩) (cs.length+1) cap1)):=Yj;obtain⟨a,c,hv,a4⟩:=h.box;have o:=(a4.kept y (by omega)).agree (i J ab);have aa:=h.kept.trans y;have a2:=h.inv.step (Mb n) hj hs he;refine⟨z.kept l (by omega),by rw[Zd,h.len];rfl,⟨F ⟨gg,0,C⟩,cap1,?_,?_⟩,?_,?_,?_,?_,?_,h.tbl,?_,?_,?_,?_⟩
 .rw[Zd,Zi]
 .have:=o.set6 (a':=F ⟨gg,0,C⟩) (c':=cap1) (l':=cs++[x]);rw[Zd,Zi] at this;exact this
 .exact((h.res.kept y (by omega)).agree (i H (by omega))).kept l (by omega)
 .exact(hr.agree fun q hq=>i q (by omega)).new l (by omega)
 .exact(a5 aa (by omega)).new l (by omega)
 .rw[List.map_append];exact a2
 .exact((h.tin.keptR y (h.tbl.mono fun b hb=>by omega)).agree h.tbl (fun q hq=>i q hq.2)).keptR l (h.tbl.mono fun b hb=>by omega)
 .exact((h.gl.kept hR y).of fun g hg=>i g (by omega)).kept (by omega) l
 .exact h.sm.step hs (fun r hr=>by obtain⟨p,hp,rfl⟩:=D.1 hr;exact Oe n _ _ hp)
 .have:=h.small;refine Nat.lt_of_le_of_lt (hs.len (N:=ws'.length) fun r hr=>?_) this;obtain⟨p,hp,rfl⟩:=D.1 hr;exact Zj (Of n _ _ hp)
 .have:=l.size;omega
theorem Qp{y:ByteArray}(h:Kn y=F k):4<=k/\k<=9:=by
 simp only[Kn,S9,UC] at h;repeat' split at h
 all_goals first
  |(cases h;omega)
  |cases h
theorem TD(R n:Nat)(y:ByteArray)(k:Nat)(hy:Kn y=F k)(r1:List ByteArray)(b:Bool)(w:Zb)(hg:Gl w)(hR:12<=R)(h:RS R (y::r1) b w)(hn:r1.length<n)(hsm:Wr r1)
  (ih:Ze (∀(ws:List ByteArray)(b:Bool)(w:Zb),ws.length<n->Wr ws->Gl w->RS R ws b w->V G 33 #[M (F ⟨R,0,C⟩)] w (U7 R b (Y0 n ws) w))) :
  V G 52 #[M (F ⟨R,0,C⟩)] w (U7 R b (LZ n (y::r1)) w):=by
 obtain⟨i0,c7,br,ca,bv⟩:=info_parts Tryz.info27;have HN:Ze (V G 51 #[M (F ⟨R,0,C⟩)] (w7 w) fun e w'=>e=U (.string y)/\RS R r1 b w'/\Yi R C (w7 w) w'):=Jn R y r1 b _ (h.below (Xv w));have bc:=h.lt;have HG:=Yx (hg.below (Xv w));have cf:=Qp hy;have HY:=Yx hy;have HL:=Un hn hsm;have bd:=My (k:Int);have ci:=Yx bd;clear hg h hn hsm;obtain⟨P,hP⟩:∃P,YA (k:Int)=P:=⟨_,rfl⟩
 have HP:=Yx hP;have cg:(P:Int)<=3:=by rw[<-hP];omega
 clear hP bd;go_enter func52,ntmps52;go_wp2_with fail;refine HN.out.mono ?_;rintro e o ⟨rfl,hr,hk⟩;have aq:w.heap.size≠R:=by omega
 have HT:Ze (V G 84 #[.string y] o fun e w'=>e=U (.tuple #[I K (k:Int),.bool Zh])/\w'=o):=by have:=Ov y o (HG.out.kept hR hk);rw[hy] at this;exact this
 have a1:=(Jp w).kept hk aq;have bx:=a1.lt;have HD:=Nm ((Yi.of_below (Xv w)).trans hk) a1 hr (HG.out.kept hR hk);clear hr hk HN HG hy a1;have HK:=Yx (Pn (k:Int));obtain⟨O,hO⟩:∃O,O=Obj.cells #[I K (k:Int),I K 0,I K 0,L C 0 0,I K 0,L C 0 0,L C 0 0] 27:=⟨_,rfl⟩
 have ab:bL o (o.alloc O):=(Zf _ _).alloc (E _) _;have al:Xw (o.alloc O) o.heap.size ⟨(k:Int),0,Yr 0,Yr 0,C,0,[]⟩:=by
  subst hO;refine⟨⟨?_,?_,?_,?_,?_,?_,?_⟩,fun i hi=>?_⟩
  .simp[go_sem]
  .simp[go_sem]
  .simp[go_sem,Yr]
  .simp[go_sem,Yr]
  .simp[go_sem,Yr]
  .simp[go_sem,Yr]
  .simp[go_sem]
  .simp[go_sem]
 have HE:Ze (Yi R C w (o.alloc O)/\Xw (o.alloc O) w.heap.size (YJ 0 0)/\RS R r1 b (o.alloc O)/\Gl (o.alloc O)/\Xw (o.alloc O) o.heap.size ⟨(k:Int),0,Yr 0,Yr 0,C,0,[]⟩):=⟨HD.out.1.trans (Yi.of_below ab),HD.out.2.1.below ab,HD.out.2.2.1.below ab,HD.out.2.2.2.below ab,al⟩
 have av:(o.alloc O).heap.size=o.heap.size+1:=by simp
 obtain⟨bt,au⟩:∃bt,UI (k:Int)=bt:=⟨_,rfl⟩
 rw[au] at HK;have ay:=Yx au;clear au al ab HD;cases bt
 rotate_left;focus
  have bh:Ze (V G 86 #[M (F ⟨R,0,C⟩)] (o.alloc O) (JN R b (YX n r1) (o.alloc O))):=Qg R hR n r1 b _ HL.out.1 HE.out.2.2.2.1 HE.out.2.2.1
  have bs:Ze (UT n k r1=YX n r1):=by show _=_;unfold UT;rw[ay.out];rfl
  have bo:0<YA (k:Int):=by have:=ay.out;simp only[UI,Bool.or_eq_true,beq_iff_eq] at this;rcases this with e|e<;>rw[e]<;>decide
  have bu:=Yx bo
  clear bo
  have i1:(0:Int)<=(k:Int):=by omega
  have i2:(k:Int)<10:=by omega
  subst hO
  go_wp2_with fail
  refine HT.out.mono ?_
  rintro e w2 ⟨rfl,rfl⟩
  go_wp2_with fail
  refine(HK.out _).mono ?_
  rintro e w2 ⟨rfl,rfl⟩
  go_wp2_with fail
  refine bh.out.mono ?_
  rintro e w3 ⟨t,rfl,ax,aj,ah,bf,aa⟩
  obtain⟨q,b1,ba,ar⟩:=bf.letters
  have b7:w2.heap.size≠R:=by omega
  have u:=HE.out.2.2.2.2.kept ah b7
  have cd:=u.lt
  have a3:Yi w2.heap.size C w3 ((w3.setCell ⟨w2.heap.size,2,C⟩ (I K t.k)).setCell ⟨w2.heap.size,3,C⟩ (t.s)):=SC
  have an:((w3.setCell ⟨w2.heap.size,2,C⟩ (I K t.k)).setCell ⟨w2.heap.size,3,C⟩ (t.s)).heap.size=w3.heap.size:=by simp[World.setCell]
  have a6:=HE.out.2.2.2.1.kept hR ah
  have a2:Ze (C6 R w.heap.size w2.heap.size w3.heap.size k n q b1 t w 0 (L C 0 0) [] q b1 ((w3.setCell ⟨w2.heap.size,2,C⟩ (I K t.k)).setCell ⟨w2.heap.size,3,C⟩ (t.s))):=by have a8:X3 ((YX n r1).map (·.2)) b q b1:=ar;refine⟨OZ.nil _ _,rfl,⟨C,0,rfl,u.set23⟩,(HE.out.2.1.kept ah aq).kept a3 (by omega),ba.new a3 (by omega),(HE.out.1.trans ah).new a3 (by omega),QC.start _ _ _ _,ax.keptR a3 (aj.mono fun b hb=>by simp at hb;omega),(ax.bl.and aj).mono (fun b hb=>⟨by have:=hb.2;simp at this;omega,hb.1⟩),a6.kept (by omega) a3,HL.out.2.step a8 (fun r hr=>by obtain⟨p,hp,rfl⟩:=D.1 hr;exact K4 n _ _ hp),?_,by rw[an];exact E _⟩;refine Nat.lt_of_le_of_lt (a8.len (N:=r1.length) fun r hr=>?_) HL.out.1;obtain⟨p,hp,rfl⟩:=D.1 hr;exact Zj (JY n _ _ hp)
  have HS:Ze (X3 ((UT n k r1).map (·.2)) b q b1/\(∀p,UT n k r1=F p->t.ty=p.1)/\(UT n k r1=C->0<YA (k:Int))):=by
   show _/\_
   rw[bs.out];exact⟨ar,aa,fun _=>bu.out⟩
  have hp:cL w3 0 k (I K (P:Int)):=by rw[<-HP.out];exact J0 a6.gp (k:Int) (by omega) (by omega)
  have ch:(2:Nat)≠w2.heap.size:=by omega
  have q2:=u.at7.c2
  have q3:=u.at7.c3
  simp only[Zc,Yr] at q2 q3
  have g2:=u.fz 2 (by omega)
  have g3:=u.fz 3 (by omega)
  obtain⟨B,hB⟩:∃B,w3.heap.size=B:=⟨_,rfl⟩
  have bk:w2.heap.size<B:=by omega
  rw[hB] at a2
  clear hB av ax aj ah bf aa ba ar u a3 an a6 bh
  go_wp2_with fail
 rotate_left;focus
  have b6:Ze (∃(t:Tr)(q:List ByteArray)(b1:Bool),C6 R w.heap.size o.heap.size (o.alloc O).heap.size k n q b1 t w 0 (L C 0 0) [] q b1 (o.alloc O)/\X3 ((UT n k r1).map (·.2)) b q b1/\(∀p,UT n k r1=F p->t.ty=p.1)/\(UT n k r1=C->0<YA (k:Int))):=by
   have e:UT n k r1=F (Yn,r1):=by unfold UT;rw[ay.out];rfl
   refine⟨Yr 0,r1,b,⟨OZ.nil _ _,rfl,⟨C,0,rfl,HE.out.2.2.2.2⟩,HE.out.2.1,HE.out.2.2.1,HE.out.1,QC.start _ _ _ _,YB _ _,YG _ _,HE.out.2.2.2.1,HL.out.2,HL.out.1,E _⟩,?_,?_,?_⟩
   .rw[e];exact .inl ⟨rfl,rfl⟩
   .intro p hp;rw[e] at hp;cases hp;exact XS 0
   .intro hp;rw[e] at hp;cases hp
  obtain⟨t,q,b1,bp,a8,aa,bb⟩:=b6.out
  have HS:=KS a8 aa bb
  have a2:=Yx bp
  clear a8 aa bb bp b6
  have hp:cL (o.alloc O) 0 k (I K (P:Int)):=by rw[<-HP.out];exact J0 HE.out.2.2.2.1.gp (k:Int) (by omega) (by omega)
  obtain⟨B,hB⟩:∃B,(o.alloc O).heap.size=B:=⟨_,rfl⟩
  have bk:o.heap.size<B:=by rw[<-hB,av];omega
  rw[hB] at a2
  clear hB av
  have i1:(0:Int)<=(k:Int):=by omega
  have i2:(k:Int)<10:=by omega
  subst hO
  go_wp2_with fail
  refine HT.out.mono ?_
  rintro e w2 ⟨rfl,rfl⟩
  go_wp2_with fail
  refine(HK.out _).mono ?_
  rintro e w2 ⟨rfl,rfl⟩
  go_wp2_with fail
 all_goals
  go_loopg [27] P (fun g i wr=>∃(j:Nat)(v:Value)(cs:List TT)(a5:List ByteArray)(b':Bool),g+j=P/\i=I K (j:Int)/\Ze (C6 R w.heap.size w2.heap.size B k n q b1 t w j v cs a5 b' wr))
  case atStart=>exact⟨0,_,_,_,_,by omega,rfl,a2⟩
  case round=>
   obtain⟨j,v,cs,a5,b',hj,rfl,z⟩:=hrel;have aw:w2.heap.size≠R:=by omega
   have ac:=z.out.len;by_cases hlt:j<P
   .have hb1:bL wr wr.drew:=(Zf _ _).drew;have HI:Ze (V G 33 #[M (F ⟨R,0,C⟩)] wr.drew (U7 R b' (Y0 n a5) wr.drew)):=ih.out a5 b' _ z.out.small z.out.sm (z.out.gl.below hb1) (z.out.rs.below hb1);have ap:=Yx (z.out.row.below hb1);obtain⟨a,c,hv,a4⟩:=z.out.box;have u1:cL wr.drew w2.heap.size 6 v:=by rw[hv];exact a4.at7.c6
    have uf:=a4.fz 6 (by omega);have uo:=ap.out.own;have us:w2.heap.size<wr.drew.heap.size:=Zg _ _ u1;have b4:v.ownBlock≠F w2.heap.size:=fun e=>by have:=(z.out.row.lt _ e).1;omega
    have bg:=z.out.size;have cc:cs.length<=3:=by omega
    have c8:R<B:=by omega
    clear hv a4;have b9:j<YA (k:Int):=by rw[HP.out];exact hlt
    have b0:=Yx b9;have HJ:=Un hlt hj;clear b9 hj hp ac;go_wp2_with fail;go_region_law
     (first
      |(go_simp;go_at_call 33;refine HI.out.mono ?_;rintro e w5 ⟨x,rfl,bn,ad,l,ak,bm⟩;replace u1:=l.cell u1 aw;replace uf:=l.fz uf us aw;replace uo:=(ap.out.kept l c8).own;replace us:w2.heap.size<w5.heap.size:=Zg _ _ u1;have ao:=heap_alloc_new w5 (.cells x.v 27);have un:w2.heap.size≠w5.heap.size:=Nat.ne_of_lt us;go_wp2_with fail)
      |(refine step_append_lies _ (by rfl) _ _ _ (by rfl) B 27 i0 _ 7 104 underlying25 c7 br ca bv rfl (by omega) v cs.length (YT cs) (by rfl) (uo.alloc _) ⟨w5.heap.size,0,C⟩ 1 1 [I K x.k,I K x.n,I K x.t.k,x.t.s,I K x.f.k,x.f.s,x.s] (by rfl) (by rfl) (World.news_of_block (cs:=x.v) (t:=27) (fr:=(0,0)) ao) (by simp[Value.oneCell']) (by omega) (by unfold maxLen;omega) (by omega) (by have:=l.size;simp at this ⊢;omega) (w5.heap.size+1) (by simp) ?_;intro gg cap1 w6 a9 a0 bj ce;have cb:w6.cell? ⟨w2.heap.size,6,C⟩=F v:=(by rw[a0.cell_far _ (by simp;omega) (Ne.symm b4)];exact cell_later ((Zf _ _).alloc (E _) _) u1);have c9:w6.frozen? ⟨w2.heap.size,6,C⟩=false:=(by rw[a0.frozen_far _ (by simp;omega) (Ne.symm b4)];exact(((Zf _ _).alloc (E _) _).frozen (p:=⟨w2.heap.size,6,C⟩) us).trans uf)))
    all_goals
     obtain⟨be,bq,ae,a7⟩:=ak.letters
     have HN:Ze (C6 R w.heap.size w2.heap.size B k n q b1 t w (j+1) (L (F ⟨gg,0,C⟩) (cs.length+1) cap1) (cs++[x]) be bq (w6.setCell ⟨w2.heap.size,6,C⟩ (L (F ⟨gg,0,C⟩) (cs.length+1) cap1))):=z.out.step bc bx bk (E _) hR b0.out bn (ad.mono fun b hb=>by simpa using hb) ((Yi.of_below hb1).trans l) ae a7 bm a9 a0 bj
     clear a9 a0 bj cb c9 bn ad l ak bm ae a7 uo uf u1 us HI ap z ao un hb1
     go_wp2_with fail
     go_roundg (P-(j+1))
     case measure=>have:=HJ.out;omega
     case rel=>exact⟨j+1,_,_,_,_,by have:=HJ.out;omega,by go_num,HN⟩
   .have hjP:j=P:=by omega
    have HW:Ze (V G 87 #[M (F ⟨R,0,C⟩),.string ⟨#[41]⟩] wr fun e w'=>e=U (.tuple #[])/\MP R b' (behind Wt a5) w'/\Yi R C wr w'):=NQ R Wt (by decide) a5 b' _ z.out.rs;have b0:=Yx hjP;clear hp ac hj hjP;go_wp2_with fail;refine HW.out.mono ?_;rintro e w5 ⟨rfl,ak,l⟩;obtain⟨cj,b3,ae,a7⟩:=ak.letters;obtain⟨a,c,hv,a4⟩:=z.out.box;have bg:=z.out.size;obtain⟨a',c',az,ai⟩:=(z.out.row.kept l (by omega)).tree;rw[hv] at az;obtain⟨rfl,rfl⟩:a=a'/\c=c':=by cases az;exact⟨rfl,rfl⟩
    have am:=a4.kept l aw;have d:=z.out.res.kept l aq;have b2:=ai (k:Int) 0 t (Yr 0) (z.out.tin.keptR l (z.out.tbl.mono fun b hb=>by omega)) (YB _ _);have ad:=b2.2 (fun b=>w.heap.size<b) (fun b hb=>by omega) (z.out.tbl.mono fun b hb=>by omega) (YG _ _);have af:=Tg HY.out HS.out.1 HS.out.2.1 (by have:=z.out.inv;rw[b0.out,<-HP.out] at this;exact this) a7 HS.out.2.2;have bi:(TT.mk (k:Int) 0 t (Yr 0) a c cs).tm=⟨(k:Int),0,t.ty,Yn,cs.map TT.tm⟩:=by rw[TT.tm_mk,XS];rfl
    have bz:Ze (U7 R b (LZ n (y::r1)) w (U (.agg #[I K (k:Int),I K 0,I K t.k,t.s,I K 0,L C 0 0,L a cs.length c])) (Y5 w5 w.heap.size (TT.mk (k:Int) 0 t (Yr 0) a c cs))):=(MV (x:=TT.mk (k:Int) 0 t (Yr 0) a c cs) d (E _) bc b2.1 ad (z.out.kept.trans l) ae af.1 (fun p hp=>by rw[bi];exact af.2 p hp)).1
    have b8:=Uo (x:=TT.mk (k:Int) 0 t (Yr 0) a c cs) d;have h7:=am.at7;have c0:=h7.c0;have c1:=h7.c1;have c2:=h7.c2;have c3:=h7.c3;have c4:=h7.c4;have c5:=h7.c5;have c6:=h7.c6;simp only[Zc,Yr] at c0 c1 c2 c3 c4 c5 c6;have r7:=d.at7;have e0:=r7.c0;have e1:=r7.c1;have e2:=r7.c2;have e3:=r7.c3;have e4:=r7.c4;have e5:=r7.c5;have e6:=r7.c6;simp only[Zc,YJ] at e0 e1 e2 e3 e4 e5 e6;have f0:=d.fz 0 (by omega);have f1:=d.fz 1 (by omega);have f2:=d.fz 2 (by omega);have f3:=d.fz 3 (by omega);have f4:=d.fz 4 (by omega);have f5:=d.fz 5 (by omega);have f6:=d.fz 6 (by omega);have b5:Ze _:=b8;clear h7 r7 ak l ae a7 hv az a4 ai am d b2 ad af bi z HW b8;go_wp2_with fail;refine bodyPost_ret (v:=.agg #[I K (k:Int),I K 0,I K t.k,t.s,I K 0,L C 0 0,L a cs.length c]) ?_ rfl bz.out;obtain⟨d0,d1,d2,d3,d4,d5,d6⟩:=b5.out;simp only[Yr,List.length_nil] at d0 d1 d2 d3 d4 d5 d6;simp[results,results52,go_sem,d0,d1,d2,d3,d4,d5,d6]
theorem Qi(R:Nat)(hR:12<=R)(n:Nat):∀(ws:List ByteArray)(b:Bool)(w:Zb),ws.length<n->Wr ws->Gl w->RS R ws b w->
  V G 33 #[M (F ⟨R,0,C⟩)] w (U7 R b (Y0 n ws) w):=by
 induction n with
 |zero=>intro ws b w h;omega
 |succ n ih=>
  intro ws b w i d a h;cases ws with
  |nil=>exact Qh R (n+1) b w a hR h
  |cons x r=>
   by_cases c:x=Ok
   .subst c;rw[Kc];refine Pa R n r b w hR a h (fun w a h=>?_);have g:Wr r:=fun x c=>d x (by simp[c]);cases r with
    |nil=>exact PT R ⟨#[]⟩ (by decide) [] b Zh w a hR h.lt (MA R b _ (h.below (Xv w)))
    |cons y r1=>
     cases hy:Kn y with
     |none=>
      have e:LZ n (y::r1)=C:=by simp[LZ,hy]
      rw[e];exact PT R y hy r1 b b w a hR h.lt (Jn R y r1 b _ (h.below (Xv w)))
     |some k=>exact TD R n y k hy r1 b w a hR h (by simp at i;omega) (fun x c=>g x (by simp[c])) ih
   .exact O9 R n x (d x (by simp)) r c b w a hR h
end Go.Proofs.YtnddkmccagiclabGreatDoor
