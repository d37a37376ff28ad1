import Derived.Test.YtnddkmccagiclabGreatDoorZta
import Derived.BigQuiet
set_option maxRecDepth 20000
set_option maxHeartbeats 16000000
open Go.RowKit Go.Proofs.Tryz
open Option renaming none→D,some→I
open Bool renaming true→E,false→X,and_eq_true→Zc
open Go.Value renaming slice→F,int→L,agg→Zb,pointer→Zm
open Go renaming cell_later→J,World→Zd,Calls→Zf
open Go.IntKind renaming i64→M
open Go.Ending renaming returned→N
open Go.Obj renaming cells→O
open Go.Proofs.Tryz renaming prog→Y,ntmps91→Zl,func91→Zp,ntmps39→Zq,func39→Zr
open Nat renaming le_refl→Z
open List renaming map_cons→Za,getElem_mem→Zi,sizeOf_lt_of_mem→Zo
open Option.some renaming inj→Ze
open Go.World renaming setCell→Zg,block_lt_of_cell?→Zk
open Go.RowKit.Below renaming refl→Zh
open Go.RowKit renaming Hid→Zj,Below→Zn
open List.cons renaming inj→Zs
open Int.ofNat renaming inj→Zt
namespace Go.Proofs.YtnddkmccagiclabGreatDoor
def Dt(R:Nat)(x y:Tr)(r:Bool)(k:Nat)(wr:Zd):Prop:=
 wr.frozen? ⟨R,0,D⟩=X/\
 ((k=1/\∃g cap,wr.cell? ⟨R,0,D⟩=I (F (I ⟨g,0,D⟩) 1 cap)/\wr.ownsRow (R+1) 141 5 (F (I ⟨g,0,D⟩) 1 cap) 1 [L M x.k,F x.a x.l.length x.c,L M y.k,F y.a y.l.length y.c,Zm D])
  \/(k=0/\r=E/\∃a cap,wr.cell? ⟨R,0,D⟩=I (F a 0 cap)))
theorem Rz(x y:Tr)(r:Bool)(w:Zd)(hx:x.In w)(hy:y.In w)
  (HC:Zj (∀(rp:Option Addr)(w:Zd),x.In w->y.In w->Zf Y 182 #[Zb #[L M x.k,F x.a x.l.length x.c],Zb #[L M y.k,F y.a y.l.length y.c],L M 1000,Zm rp] w fun e w'=>e=N (.bool r)/\Zn w.heap.size w w')) :
  Zf Y 44 #[.func (.func 182) #[] #[],Zb #[L M x.k,F x.a x.l.length x.c],Zb #[L M y.k,F y.a y.l.length y.c]] w fun e w'=>e=N (.bool r)/\Zn w.heap.size w w':=by
 go_enter func44,ntmps44;go_wp2_with fail;refine(Qj (w.heap.size+1+1) (F D 0 0) 0 [] x.k y.k x.a y.a x.l.length y.l.length x.c y.c D _ (by simp[go_sem]) (by simp[go_sem]) (World.ownsRow_nil _ _ _ _) (by omega)).mono ?_;rintro e w1 ⟨rfl,g,b,o,a2,a1,_,q⟩;have a5:bL w w1:=((((Zh _ _).alloc (Z _) _).alloc (by simp) _).alloc (by simp;omega) _).trans ((q.below (by simp[Value.ownBlock]) (by simp)).mono (by omega));have a9:w.heap.size+1+1<w1.heap.size:=Zk _ _ o;have HO:Zj (Dt (w.heap.size+1+1) x y r 1 w1):=⟨a2,.inl ⟨rfl,g,b,by simpa using o,by simpa using a1⟩⟩
 clear o a2 a1 q;go_wp2_with fail;go_loopg [] 1 (fun k wr=>Zj (Dt (w.heap.size+1+1) x y r k wr)/\bL w wr)
 case atStart=>exact⟨HO,a5⟩
 case round=>
  obtain⟨HR,a0⟩:=hrel;obtain⟨j,⟨rfl,g,b,l,i⟩|⟨rfl,rfl,a,b,l⟩⟩:=HR.out
  .have c0:=i.cellAt 0 (by omega);have c1:=i.cellAt 1 (by omega);have c2:=i.cellAt 2 (by omega);have c3:=i.cellAt 3 (by omega);have c4:=i.cellAt 4 (by omega);simp only[List.getElem?_cons_zero,List.getElem?_cons_succ] at c0 c1 c2 c3 c4;have a8:1<=b:=by
    rcases i.2 with⟨h,_⟩|⟨g',u,a6,h,_,_,h1,_⟩
    .cases h
    .cases h;exact h1
   have aa:w.heap.size+1+1<g:=by
    rcases i.2 with⟨h,_⟩|⟨g',u,a6,h,h1,_⟩
    .cases h
    .cases h;exact h1
   have ab:w.heap.size+1+1<wr.heap.size:=Zk _ _ l;clear i HR HO;go_wp2_with fail;refine(JU (w.heap.size+1+1) (I ⟨g,0,D⟩) 1 b _ l).mono ?_;rintro e w' ⟨rfl,rfl⟩;go_wp2_with fail;refine(N3 (w.heap.size+1+1) g 0 b x.k y.k x.a y.a x.l.length y.l.length x.c y.c D _ (by simpa using l) j (by omega) (by omega) (by simpa using c0) (by simpa using c1) (by simpa using c2) (by simpa using c3) (by simpa using c4)).mono ?_;rintro e w' ⟨rfl,rfl⟩;go_wp2_with fail;have a3:bL w (((w'.setCell ⟨w.heap.size+1+1,0,D⟩ (F (I ⟨g,0,D⟩) 0 b)).alloc (O #[L M x.k,x.s,L M y.k,y.s,Zm D] 141)).alloc (O #[L M x.k,x.s,L M y.k,y.s,Zm D] 141)):=((a0.setCell (by simp;omega) _).alloc (by simp[Zg];omega) _).alloc (by simp[Zg];omega) _
   have d:=a3.alloc (by simp[Zg];omega) (O #[L M x.k,x.s,L M y.k,y.s,Zm D] 141);refine(HC.out _ _ (hx.below d) (hy.below d)).mono ?_;rintro e w5 ⟨rfl,c⟩;have z:bL w w5:=d.trans (c.mono (by simp[Zg];omega));have a4:cL w5 (w.heap.size+1+1) 0 (F (I ⟨g,0,D⟩) 0 b):=by refine J c (J ((((Zh _ (w'.setCell ⟨w.heap.size+1+1,0,D⟩ (F (I ⟨g,0,D⟩) 0 b))).alloc (Z _) _).alloc (by simp) _).alloc (by simp;omega) _) ?_);exact World.cell?_setCell_same _ _ _ l
   have a7:w5.frozen? ⟨w.heap.size+1+1,0,D⟩=X:=by rw[c.frozen (p:=⟨w.heap.size+1+1,0,D⟩) (by simp[Zg];omega)];simp[frozen?_alloc_cells,j]
   clear c d a3 l j c0 c1 c2 c3 c4;cases r
   .go_wp2_with fail;go_ret;exact⟨rfl,z⟩
   .go_wp2_with fail;go_roundg 0
    case measure=>omega
    case rel=>exact⟨⟨a7,.inr ⟨rfl,rfl,_,_,a4⟩⟩,z⟩
  .go_wp2_with fail;refine(JU (w.heap.size+1+1) a 0 b _ l).mono ?_;rintro e w' ⟨rfl,rfl⟩;go_wp2_with fail;go_ret;exact⟨rfl,a0⟩
theorem KY(x y:Tr)(w:Zd)(q:x.In w)(l:y.In w)(o:x.hgt<=1000)(p:x.sm):
  Zf Y 147 #[Zb #[L M x.k,F x.a x.l.length x.c],Zb #[L M y.k,F y.a y.l.length y.c]] w fun e w'=>e=N (.bool (YC Yv x.ty y.ty))/\Zn w.heap.size w w':=by
 obtain⟨r,g⟩:∃r,YC Yv x.ty y.ty=r:=⟨_,rfl⟩
 have k:Zj (∀(c:Option Addr)(w:Zd),x.In w->y.In w->Zf Y 182 #[Zb x.v,Zb y.v,L M 1000,Zm c] w fun e w'=>e=N (.bool r)/\bL w w'):=by intro c w j d;have h:=WW 1000 (Z _) x y c w j d o p;rw[g] at h;exact h
 rw[g];clear g;have u:Zj (∀(w:Zd),x.In w->y.In w->Zf Y 44 #[.func (.func 182) #[] #[],Zb x.v,Zb y.v] w fun e w'=>e=N (.bool r)/\bL w w'):=fun w j d=>Rz x y r w j d k;clear k;go_enter func147,ntmps147;go_wp2_with fail;have a:bL w ((w.alloc (Obj.cells x.v 24)).alloc (Obj.cells y.v 24)):=((Zh _ _).alloc (Z _) _).alloc (by simp) _;refine(u.out _ (q.below a) (l.below a)).mono ?_;rintro e z ⟨rfl,b⟩;have i:=a.trans (b.mono (by simp;omega));clear a b;go_wp2_with fail;go_ret;exact⟨rfl,i⟩
end Go.Proofs.YtnddkmccagiclabGreatDoor
namespace Go.Proofs.YtnddkmccagiclabGreatDoor
open Go.RowKit
section
variable {P : Program} {C : Zd → Prop}
theorem JD{id:Nat}{Q:Exit->Act->Zd->Prop}{a:Act}{w:Zd}{l:List Oper}(hm:P.follows .mixedOrders=E)(hB:Region.lexB .any l.toArray=E)(hC:C { w with drawn:=w.drawn+1 })
  (h:wpQuiet P l.toArray C (fun a'=>∀w',C w'->Q .normal a' w') l a):(Code.region id l.toArray E).wp P Q a w:=
 wp_region_quiet (C:=C) hm hB hC (by simpa using h)
variable {ops : Array Oper} {Q : Act → Prop} {a : Act} {o : Oper} {rest : List Oper}
theorem Ln(v:Value)(hw:Region.wanted o (yielded ops a.tmps)=E)(h:∀W,C W->(execOp a.eval o).run P W=.ok (.value v) W)(hk:wpQuiet P ops C Q rest (a.put o.dst v)):wpQuiet P ops C Q (o::rest) a:=wpQuiet_step fun K hK=>by rw[if_pos hw];exact⟨v,fun W hW=>by unfold Oper.quietAt;rw[h W hW];exact⟨rfl,rfl⟩,hK _ hk⟩
theorem Us(v:Value)(f:FuncId)(args:Array Value)(hw:Region.wanted o (yielded ops a.tmps)=E)(h:∀W,C W->(execOp a.eval o).run P W=.ok (.enter f args) W)(hc:∀W,C W->Zf P f args W fun e w'=>e=N v/\C w')
  (hk:wpQuiet P ops C Q rest (a.put o.dst v)):wpQuiet P ops C Q (o::rest) a:=
 wpQuiet_step fun K hK=>by rw[if_pos hw];exact⟨v,fun W hW=>by unfold Oper.quietAt;rw[h W hW];exact⟨rfl,hc W hW⟩,hK _ hk⟩
end
end Go.Proofs.YtnddkmccagiclabGreatDoor
namespace Go.Proofs.YtnddkmccagiclabGreatDoor
theorem Yy{n:Nat}{t:Ty}(h:Ym (n+1) t=E):(∃k,t=⟨k,[]⟩/\(k=0\/k=1\/k=2))\/∃x y,t=⟨3,[x,y]⟩/\Ym n x=E/\Ym n y=E:=by
 match t,h with
 |⟨k,[]⟩,h=>exact .inl ⟨k,rfl,by simpa[Ym,or_assoc] using h⟩
 |⟨k,[x]⟩,h=>simp[Ym] at h
 |⟨k,[x,y]⟩,h=>simp[Ym] at h;obtain⟨⟨rfl,b⟩,a⟩:=h;exact .inr ⟨x,y,rfl,b,a⟩
 |⟨k,x::y::z::r⟩,h=>simp[Ym] at h
theorem MM(t:Ty)(l:List Ty):YC Yk ⟨0,l⟩ t=E:=by cases t;simp[YV,Yk]
theorem KO(t:Ty)(l:List Ty):YC Yk t ⟨0,l⟩=E:=by cases t;simp[YV,Yk]
theorem QD(a:Int->Int->Bool)(x y b c:Ty)(h:a 3 3=X):YC a ⟨3,[x,y]⟩ ⟨3,[b,c]⟩=(YC a x b&&YC a y c):=by simp[YV,Uf,h]
theorem KH(x y a b:Ty):Xl ⟨3,[x,y]⟩ ⟨3,[a,b]⟩=⟨3,[Xl x a,Xl y b]⟩:=by simp[Ul,Jy]
theorem Jo:∀(n:Nat)(a b:Ty),Ym n a=E->Ym n b=E->
  Ym n (Xl a b)=E/\YC U3 a (Xl a b)=E/\YC U3 b (Xl a b)=E/\Xl b a=Xl a b/\Xl a a=a
 |0,a,b,h,_=>by simp[Ym] at h
 |n+1,a,b,ha,hb=>by
  rcases Yy ha with⟨k,rfl,hk⟩|⟨x,y,rfl,hx,hy⟩
  .rcases Yy hb with⟨k',rfl,hk'⟩|⟨x',y',rfl,hx',hy'⟩
   .by_cases e:k=k'
    .subst e;rcases hk with rfl|rfl|rfl<;>simp[Ul,Jy,Ym,YV,Uf]
    .have e':k'≠k:=fun h=>e h.symm;simp[Ul,Jy,e,e',Ym,YV,U3]
   .have e:k≠3:=by omega
    have e':(3:Int)≠k:=by omega
    simp[Ul,Jy,e,e',Ym,YV,U3]
  .rcases Yy hb with⟨k',rfl,hk'⟩|⟨x',y',rfl,hx',hy'⟩
   .have e:k'≠3:=by omega
    have e':(3:Int)≠k':=by omega
    obtain⟨_,_,_,_,l⟩:=Jo n x x hx hx;obtain⟨_,_,_,_,j⟩:=Jo n y y hy hy;simp[Ul,Jy,e,e',Ym,YV,U3,l,j]
   .obtain⟨g1,f1,f2,c1,i1⟩:=Jo n x x' hx hx';obtain⟨d,i,g,c,o⟩:=Jo n y y' hy hy';refine⟨?_,?_,?_,?_,?_⟩
    .rw[KH];simp[Ym,g1,d]
    .rw[KH,QD _ _ _ _ _ rfl,f1,i];rfl
    .rw[KH,QD _ _ _ _ _ rfl,f2,g];rfl
    .rw[KH,KH,c1,c]
    .rw[KH,i1,o]
theorem KJ:∀(n:Nat)(a b:Ty),Ym n a=E->Ym n b=E->YC Yk a b=YC Yk b a
 |0,a,b,h,_=>by simp[Ym] at h
 |n+1,a,b,ha,hb=>by
  rcases Yy ha with⟨ka,rfl,_⟩|⟨x,y,rfl,hx,hy⟩
  .rcases Yy hb with⟨kb,rfl,_⟩|⟨x',y',rfl,hx',hy'⟩
   .simp[YV,Uf,Yk,Bool.or_comm,Bool.beq_comm]
   .simp[YV,Uf,Yk]
  .rcases Yy hb with⟨kb,rfl,_⟩|⟨x',y',rfl,hx',hy'⟩
   .simp[YV,Uf,Yk]
   .rw[QD _ _ _ _ _ rfl,QD _ _ _ _ _ rfl,KJ n x x' hx hx',KJ n y y' hy hy']
theorem JS:∀(n:Nat)(a:Ty),Ym n a=E->YC Yk a a=E
 |0,a,h=>by simp[Ym] at h
 |n+1,a,ha=>by
  rcases Yy ha with⟨ka,rfl,_⟩|⟨x,y,rfl,hx,hy⟩
  .simp[YV,Uf]
  .rw[QD _ _ _ _ _ rfl,JS n x hx,JS n y hy];rfl
theorem K8:∀(n:Nat)(a b:Ty),Ym n a=E->Ym n b=E->YC U3 a b=E->YC Yk a b=E
 |0,a,b,h,_=>by simp[Ym] at h
 |n+1,a,b,ha,hb=>by
  intro h;rcases Yy hb with⟨kb,rfl,_⟩|⟨x',y',rfl,hx',hy'⟩
  .rcases Yy ha with⟨ka,rfl,_⟩|⟨x,y,rfl,hx,hy⟩
   .simp[YV,Uf,U3] at h;simp[YV,Uf,Yk];omega
   .simp[YV,Uf,U3] at h;subst h;exact KO _ _
  .rcases Yy ha with⟨ka,rfl,_⟩|⟨x,y,rfl,hx,hy⟩
   .simp[YV,Uf,U3] at h
   .rw[QD _ _ _ _ _ rfl,Zc] at h;rw[QD _ _ _ _ _ rfl,K8 n x x' hx hx' h.1,K8 n y y' hy hy' h.2];rfl
def UY:Ty:=⟨1,[]⟩
def Xp:Ty:=⟨2,[]⟩
def YN(a b:Ty):Ty:=⟨3,[a,b]⟩
def gr(k:Int):Ty:=if k=3 then YN Yn Yn else ⟨k,[]⟩
theorem KZ:∀a b:Ty,YC Yv a b=E->a=b:=by
 intro a;induction a using Ty.ind with
 |h k l ih=>
  intro b h;obtain⟨g,l'⟩:=b;rw[YV] at h;simp only[Yv,Bool.false_or,Zc,beq_iff_eq] at h;obtain⟨rfl,d⟩:=h;have:∀(l l':List Ty),(∀t,t∈l->∀b,YC Yv t b=E->t=b)->Uf Yv l l'=E->l=l':=by
   intro l;induction l with
   |nil=>intro l' _ h;cases l' with
    |nil=>rfl
    |cons _ _=>simp[Uf] at h
   |cons x r ihr=>
    intro l' c h;cases l' with
    |nil=>simp[Uf] at h
    |cons y s=>simp only[Uf,Zc] at h;rw[c x (by simp) y h.1,ihr s (fun t e=>c t (by simp[e])) h.2]
  rw[this l l' ih d]
theorem JP:∀a:Ty,YC Yv a a=E:=by
 intro a;induction a using Ty.ind with
 |h k l ih=>
  rw[YV];simp only[Yv,Bool.false_or,beq_self_eq_true,Bool.true_and];induction l with
  |nil=>rfl
  |cons x r ihr=>simp only[Uf,ih x (by simp),ihr fun t b=>ih t (by simp[b]),Bool.and_self]
def UE:Option Ca->Ty->Ty->Prop
 |none,S,T=>S=T
 |some ⟨o,w,k,e,g,a,h⟩,S,T=>(k=1\/k=2\/k=3)/\∃S' T':Ty,((o=E/\S=Yn/\S'=gr k/\w.k=4)\/(o=X/\S=S'))/\((k≠3/\S'=⟨k,[]⟩)\/(k=3/\∃s1 s2,S'=YN s1 s2))/\ (e.k=4\/(e.k=0/\((h=E/\T=Yn/\T'=gr k)\/(h=X/\T=T'))/\((k≠3/\T'=⟨k,[]⟩/\g=D/\a=D)\/(k=3/\∃s1 s2 t1 t2,S'=YN s1 s2/\T'=YN t1 t2/\UE g t1 s1/\UE a s2 t2))))
 termination_by c=>SizeOf.sizeOf c
 decreasing_by
  .simp;omega
  .simp;omega
theorem XL{S T:Ty}:UE D S T↔S=T:=by rw[UE]
theorem Y8{o:Bool}{w:Xy}{k:Int}{e:Xy}{g a:Option Ca}{h:Bool}{S T:Ty}:UE (I ⟨o,w,k,e,g,a,h⟩) S T↔(k=1\/k=2\/k=3)/\∃S' T':Ty,((o=E/\S=Yn/\S'=gr k/\w.k=4)\/(o=X/\S=S'))/\((k≠3/\S'=⟨k,[]⟩)\/(k=3/\∃s1 s2,S'=YN s1 s2))/\
  (e.k=4\/(e.k=0/\((h=E/\T=Yn/\T'=gr k)\/(h=X/\T=T'))/\((k≠3/\T'=⟨k,[]⟩/\g=D/\a=D)\/(k=3/\∃s1 s2 t1 t2,S'=YN s1 s2/\T'=YN t1 t2/\UE g t1 s1/\UE a s2 t2)))):=by
 rw[UE]
theorem UL{a b c d:Ty}(h:YN a b=YN c d):a=c/\b=d:=by simpa[YN] using h
theorem Mf{k:Int}{S:Ty}(h:(k≠3/\S=⟨k,[]⟩)\/(k=3/\∃s1 s2,S=YN s1 s2)):S.k=k:=by rcases h with⟨_,rfl⟩|⟨rfl,s1,s2,rfl⟩<;>rfl
theorem LP{k:Int}{S T:Ty}{g a:Option Ca}(h:(k≠3/\T=⟨k,[]⟩/\g=D/\a=D)\/(k=3/\∃s1 s2 t1 t2,S=YN s1 s2/\T=YN t1 t2/\UE g t1 s1/\UE a s2 t2)):T.k=k:=by rcases h with⟨_,rfl,_⟩|⟨rfl,s1,s2,t1,t2,_,rfl,_⟩<;>rfl
theorem NX:∀(n:Nat)(c d:Option Ca)(S T U:Ty),SizeOf.sizeOf c+SizeOf.sizeOf d<=n->UE c S T->UE d T U->UE (YI c d) S U
 |0,c,d,_,_,_,h,_,_=>by cases c<;>simp at h
 |n+1,D,d,S,T,U,_,h1,h2=>by rw[Xs,XL.1 h1];exact h2
 |n+1,I c,D,S,T,U,_,h1,h2=>by rw[XB,<-XL.1 h2];exact h1
 |n+1,I ⟨o,w,k,e,g,a,h⟩,I ⟨o',w',k',e',g',a',h'⟩,S,T,U,hn,h1,h2=>by
  simp at hn;obtain⟨hk,S1,T1,hS,hS1,he⟩:=Y8.1 h1;obtain⟨hk',S2,T2,hT,hS2,he'⟩:=Y8.1 h2;rw[Y6];rcases he with he|⟨he,hT1,hp⟩
  .rw[if_neg (by omega)];exact Y8.2 ⟨hk,S1,T1,hS,hS1,.inl he⟩
  .rw[if_pos he];have a1:=Mf hS2;have a2:=LP hp;by_cases hkk:k'=k
   .rw[if_pos hkk];refine Y8.2 ⟨hk,S1,T2,hS,hS1,?_⟩;rcases he' with he'|⟨he',hU,hp'⟩
    .exact .inl he'
    .refine .inr ⟨he',?_,?_⟩
     .rcases hU with⟨x1,x2,x3⟩|x
      .exact .inl ⟨x1,x2,by rw[x3,hkk]⟩
      .exact .inr x
     .have e12:T1=S2:=by
       rcases hT1 with⟨_,b,i⟩|⟨_,b⟩<;>rcases hT with⟨_,s1,s2,_⟩|⟨_,s1⟩
       .rw[i,s2,hkk]
       .exfalso;rw[<-s1,b] at a1;simp[Yn] at a1;omega
       .exfalso;rw[<-b,s1] at a2;simp[Yn] at a2;omega
       .rw[<-b,s1]
      rcases hp' with⟨q,j,rfl,rfl⟩|⟨q,s1,s2,b,i,j,r,p,u⟩
      .rcases hp with⟨p1,p2,rfl,rfl⟩|⟨p1,_⟩
       .exact .inl ⟨p1,by rw[j,hkk],by rw[Xs],by rw[Xs]⟩
       .omega
      .rcases hp with⟨p1,_⟩|⟨p1,u1,u2,v1,v2,p2,p3,p4,p5⟩
       .omega
       .have:YN v1 v2=YN s1 s2:=by rw[<-p3,<-j,e12]
        obtain⟨rfl,rfl⟩:=UL this;exact .inr ⟨p1,u1,u2,b,i,p2,r,NX n g' g _ _ _ (by omega) p p4,NX n a a' _ _ _ (by omega) p5 u⟩
   .rw[if_neg hkk];refine Y8.2 ⟨hk,S1,T1,hS,hS1,.inl ?_⟩;rcases hT with⟨_,_,_,l⟩|⟨_,s1⟩
    .exact l
    .exfalso;rcases hT1 with⟨_,b,_⟩|⟨_,b⟩
     .rw[<-s1,b] at a1;simp[Yn] at a1;omega
     .rw[<-b,s1] at a2;omega
theorem Um{c d:Option Ca}{S T U:Ty}(h1:UE c S T)(h2:UE d T U):UE (YI c d) S U:=NX _ c d S T U (Z _) h1 h2
theorem LT{a b:Ty}(h:YC Yk a b=E)(c:a.k≠0)(d:b.k≠0):a.k=b.k:=by
 cases a;cases b
 rw[YV] at h;simp only[Yk,Bool.or_eq_true,Zc,beq_iff_eq] at h;simp only at c d ⊢;omega
theorem LI:∀(m n:Nat)(f t:Ty)(o:Xy),Ym n f=E->Ym n t=E->YC Yk f t=E->o.k=4->2*n+(if f.k=0\/t.k=0 then 1 else 0)<=m->UE (YZ m f t o) f t
 |0,0,f,t,o,hf,_,_,_,_=>by simp[Ym] at hf
 |0,n+1,f,t,o,_,_,_,_,hm=>by omega
 |m+1,0,f,t,o,hf,_,_,_,_=>by simp[Ym] at hf
 |m+1,n+1,f,t,o,hf,ht,hfit,ho,hm=>by
  rw[YZ];by_cases hs:YC Yv f t=E
  .rw[if_pos hs,XL];exact KZ f t hs
  rw[if_neg hs];have hne:f≠t:=fun e=>hs (by rw[e];exact JP t);rcases Yy hf with⟨k,rfl,hk⟩|⟨f1,f2,rfl,gf1,gf2⟩<;>rcases Yy ht with⟨k',rfl,hk'⟩|⟨t1,t2,rfl,gt1,gt2⟩
  .have h3:¬((Ty.mk k []).k=3/\(Ty.mk k' []).k=3):=by simp only;omega
   rw[if_neg h3];have a1:k≠k':=fun e=>hne (by rw[e]);have a0:k=0\/k'=0:=by have:=LT hfit;simp only at this;omega
   simp only;split
   .rename_i h0;have p:Ys (Ty.mk k [])=⟨k,[]⟩:=by simp only[Ys];rw[if_neg (by omega)]
    have x:YZ m ⟨k,[]⟩ ⟨k,[]⟩ o=D:=by
     cases m with
     |zero=>rfl
     |succ m=>rw[YZ,if_pos (JP _)]
    rw[p,x];refine Y8.2 ⟨by simp only[YU];omega,⟨k,[]⟩,gr k,.inr ⟨rfl,rfl⟩,.inl ⟨by simp only[YU];omega,rfl⟩,.inr ⟨rfl,.inl ⟨rfl,by rw[h0];rfl,rfl⟩,.inl ⟨by simp only[YU];omega,?_,rfl,rfl⟩⟩⟩;simp only[gr,YU];rw[if_neg (by omega)]
   .rename_i h0;have b:k=0:=by omega
    subst b;rw[if_pos rfl];have p:Ys (Ty.mk k' [])=⟨k',[]⟩:=by simp only[Ys];rw[if_neg (by omega)]
    have x:YZ m ⟨k',[]⟩ ⟨k',[]⟩ o=D:=by
     cases m with
     |zero=>rfl
     |succ m=>rw[YZ,if_pos (JP _)]
    rw[p,x];refine Y8.2 ⟨by simp only[YU];omega,gr k',⟨k',[]⟩,.inl ⟨rfl,rfl,rfl,ho⟩,.inl ⟨by simp only[YU];omega,?_⟩,.inr ⟨rfl,.inr ⟨rfl,rfl⟩,.inl ⟨by simp only[YU];omega,rfl,rfl,rfl⟩⟩⟩;simp only[gr,YU];rw[if_neg (by omega)]
  .have h3:¬((Ty.mk k []).k=3/\(Ty.mk 3 [t1,t2]).k=3):=by simp only;omega
   rw[if_neg h3];have b:k=0:=by have:=LT hfit;simp only at this;omega
   subst b;simp only;rw[if_neg (by omega),if_pos trivial];have p:Ys (Ty.mk 3 [t1,t2])=YN Yn Yn:=rfl;rw[p];have r:Ym (n+1) (YN Yn Yn)=E:=by
    cases n with
    |zero=>simp[Ym] at gt1
    |succ n=>simp[Ym,YN,Yn]
   have j:=LI m (n+1) (YN Yn Yn) ⟨3,[t1,t2]⟩ o r ht (by rw[YN,QD _ _ _ _ _ rfl,Yn,MM,MM];rfl) ho (by simp[YN] at hm ⊢;omega);cases hc:YZ m (YN Yn Yn) ⟨3,[t1,t2]⟩ o with
   |none=>rw[hc] at j;have:=XL.1 j;refine Y8.2 ⟨.inr (.inr rfl),gr 3,⟨3,[t1,t2]⟩,.inl ⟨rfl,rfl,rfl,ho⟩,.inr ⟨rfl,Yn,Yn,rfl⟩,.inr ⟨rfl,.inr ⟨rfl,rfl⟩,.inr ⟨rfl,Yn,Yn,Yn,Yn,rfl,this.symm,XL.2 rfl,XL.2 rfl⟩⟩⟩
   |some c=>
    rw[hc] at j;obtain⟨oo,w,k,e,g,a,h⟩:=c;obtain⟨hk,u,y,hS,d,q⟩:=Y8.1 j;have i:u=YN Yn Yn:=by
     rcases hS with⟨_,h,_⟩|⟨_,h⟩
     .simp[YN,Yn] at h
     .exact h.symm
    have l:k=3:=by
     rcases d with⟨_,h⟩|⟨h,_⟩
     .rw[i] at h;simp[YN] at h
     .exact h
    subst l;exact Y8.2 ⟨hk,u,y,.inl ⟨rfl,rfl,by rw[i];rfl,ho⟩,d,q⟩
  .have h3:¬((Ty.mk 3 [f1,f2]).k=3/\(Ty.mk k' []).k=3):=by simp only;omega
   rw[if_neg h3];have b:k'=0:=by have:=LT hfit;simp only at this;omega
   subst b;simp only;rw[if_pos trivial];have p:Ys (Ty.mk 3 [f1,f2])=YN Yn Yn:=rfl;rw[p];have r:Ym (n+1) (YN Yn Yn)=E:=by
    cases n with
    |zero=>simp[Ym] at gf1
    |succ n=>simp[Ym,YN,Yn]
   have j:=LI m (n+1) ⟨3,[f1,f2]⟩ (YN Yn Yn) o hf r (by rw[YN,QD _ _ _ _ _ rfl,Yn,KO,KO];rfl) ho (by simp[YN] at hm ⊢;omega);cases hc:YZ m ⟨3,[f1,f2]⟩ (YN Yn Yn) o with
   |none=>rw[hc] at j;have:=XL.1 j;refine Y8.2 ⟨.inr (.inr rfl),⟨3,[f1,f2]⟩,gr 3,.inr ⟨rfl,rfl⟩,.inr ⟨rfl,f1,f2,rfl⟩,.inr ⟨rfl,.inl ⟨rfl,rfl,rfl⟩,.inr ⟨rfl,Yn,Yn,Yn,Yn,this,rfl,XL.2 rfl,XL.2 rfl⟩⟩⟩
   |some c=>
    rw[hc] at j;obtain⟨oo,w,k,e,g,a,h⟩:=c;obtain⟨hk,u,y,hS,d,q⟩:=Y8.1 j;have i:u=⟨3,[f1,f2]⟩:=by
     rcases hS with⟨_,h,_⟩|⟨_,h⟩
     .simp[Yn] at h
     .exact h.symm
    have l:k=3:=by
     rcases d with⟨_,h⟩|⟨h,_⟩
     .rw[i] at h;simp at h
     .exact h
    subst l;refine Y8.2 ⟨hk,u,YN Yn Yn,hS,d,?_⟩;rcases q with q|⟨q,hT,z⟩
    .exact .inl q
    .have hT':y=YN Yn Yn:=by
      rcases hT with⟨_,h,_⟩|⟨_,h⟩
      .simp[YN,Yn] at h
      .exact h.symm
     refine .inr ⟨q,.inl ⟨rfl,rfl,rfl⟩,?_⟩;rw[hT'] at z;exact z
  .rw[if_pos ⟨rfl,rfl⟩];rw[QD _ _ _ _ _ rfl,Zc] at hfit;refine Y8.2 ⟨.inr (.inr rfl),⟨3,[f1,f2]⟩,⟨3,[t1,t2]⟩,.inr ⟨rfl,rfl⟩,.inr ⟨rfl,f1,f2,rfl⟩,.inr ⟨rfl,.inr ⟨rfl,rfl⟩,.inr ⟨rfl,f1,f2,t1,t2,rfl,rfl,?_,?_⟩⟩⟩
   .exact LI m n t1 f1 _ gt1 gf1 (by rw[KJ n t1 f1 gt1 gf1];exact hfit.1) ho (by split<;>(simp at hm;omega))
   .exact LI m n f2 t2 _ gf2 gt2 hfit.2 ho (by split<;>(simp at hm;omega))
def Q0(k n:Int)(t f:Ty)(ps G:List Ty)(i:Ty):Prop:=
 (k=1/\ps=[]/\G[n.toNat]?=I i)\/(k=2/\ps=[]/\i=UY)\/(k=3/\ps=[]/\i=Xp)\/(k=4/\ps=[UY,UY]/\i=UY)\/(k=5/\ps=[UY,UY]/\i=Xp)\/(k=6/\ps=[Xp,i,i])\/
 (k=7/\∃b,ps=[b]/\i=YN t b)\/(k=8/\∃a,ps=[YN a i,a])\/(k=9/\ps=[t]/\i=t)\/(k=10/\ps=[f]/\i=t/\YC Yk f t=E/\Ym 46 f=E/\Ym 46 t=E)
def L6:Tm->List Ty->Ty->Prop
 |⟨k,n,t,f,l⟩,G,i=>∃ps:List Ty,l.length=ps.length/\(∀j(h:j<l.length)(h':j<ps.length),L6 l[j] (if k=7 then t::G else G) ps[j])/\Q0 k n t f ps G i
 termination_by x=>SizeOf.sizeOf x
 decreasing_by
  have:=Zo (Zi h);simp;omega
theorem Ss{k n:Int}{t f:Ty}{l:List Tm}{G:List Ty}{i:Ty}:L6 ⟨k,n,t,f,l⟩ G i↔∃ps:List Ty,l.length=ps.length/\(∀j(h:j<l.length)(h':j<ps.length),L6 l[j] (if k=7 then t::G else G) ps[j])/\Q0 k n t f ps G i:=by rw[L6]
theorem Jf{x:Tm}{G:List Ty}{i:Ty}(h:L6 x G i):∃ps:List Ty,x.l.length=ps.length/\(∀j(h':j<ps.length),L6 (x.at j) (if x.k=7 then x.t::G else G) ps[j])/\Q0 x.k x.n x.t x.f ps G i:=by obtain⟨k,n,t,f,l⟩:=x;obtain⟨ps,b,a,c⟩:=Ss.1 h;refine⟨ps,b,fun j h'=>?_,c⟩;rw[Tm.at_eq (x:=⟨k,n,t,f,l⟩) (by simp only;omega)];exact a j (by omega) h'
def Ur:YK->Ty->Prop
 |⟨k,_,b,e,i,g,a,s⟩,T=>(k=1/\T=UY)\/(k=2/\T=Xp)\/ (k=3/\∃A B G,T=YN A B/\L6 b (A::G) B/\e.length=G.length/\∀j(h:j<e.length)(h':j<G.length),Ur e[j] G[j])\/
  (k=4/\∃v A0 B0 A B,T=YN A B/\v.k=3/\(∃h:i=[v],Ur v (YN A0 B0))/\UE g A A0/\UE a B0 B)\/
  (k=5/\T=Yn/\(s=1\/s=2\/s=3)/\∃v,∃h:i=[v],Ur v (gr s))
 termination_by v=>SizeOf.sizeOf v
 decreasing_by
  .have:=Zo (Zi h);simp;omega
  .subst h;simp;omega
  .subst h;simp;omega
theorem Lj{k n:Int}{b:Tm}{e i:List YK}{g a:Option Ca}{s:Int}{T:Ty}:Ur ⟨k,n,b,e,i,g,a,s⟩ T↔(k=1/\T=UY)\/(k=2/\T=Xp)\/
  (k=3/\∃A B G,T=YN A B/\L6 b (A::G) B/\e.length=G.length/\∀j(h:j<e.length)(h':j<G.length),Ur e[j] G[j])\/
  (k=4/\∃v A0 B0 A B,T=YN A B/\v.k=3/\(∃_h:i=[v],Ur v (YN A0 B0))/\UE g A A0/\UE a B0 B)\/
  (k=5/\T=Yn/\(s=1\/s=2\/s=3)/\∃v,∃_h:i=[v],Ur v (gr s)):=by
 rw[Ur]
def C9(e:List YK)(G:List Ty):Prop:=e.length=G.length/\∀j(h:j<e.length)(h':j<G.length),Ur e[j] G[j]
theorem CC{e:List YK}{G:List Ty}(h:C9 e G){j:Nat}{T:Ty}(c:G[j]?=I T):∃v,e[j]?=I v/\Ur v T:=by
 obtain⟨a,rfl⟩:=List.getElem?_eq_some_iff.1 c;have b:j<e.length:=by rw[h.1];exact a
 exact⟨e[j],List.getElem?_eq_getElem b,h.2 j b a⟩
theorem P1{v:YK}(h:Ur v Yn):v.k=5/\(v.az=1\/v.az=2\/v.az=3)/\v.inn=[v.core]/\Ur v.core (gr v.az):=by
 cases v
 rcases Lj.1 h with⟨_,h⟩|⟨_,h⟩|⟨_,A,B,G,h,_⟩|⟨_,v,e,d,A,B,h,_⟩|⟨a,_,c,v,rfl,b⟩
 .exfalso;simp[UY,Yn] at h
 .exfalso;simp[Xp,Yn] at h
 .exfalso;simp[YN,Yn] at h
 .exfalso;simp[YN,Yn] at h
 .exact⟨a,c,rfl,b⟩
theorem J8{v:YK}{A B:Ty}(h:Ur v (YN A B)):(v.k=3/\∃G,L6 v.body (A::G) B/\C9 v.env G)\/(v.k=4/\v.inn=[v.core]/\v.core.k=3/\∃A0 B0,Ur v.core (YN A0 B0)/\UE v.given A A0/\UE v.answer B0 B):=by
 cases v
 rcases Lj.1 h with⟨_,h⟩|⟨_,h⟩|⟨a,g,d,G,h,k,c⟩|⟨a,v,A0,B0,g,d,b,e,⟨rfl,i⟩,j,l⟩|⟨_,h,_⟩
 .exfalso;simp[UY,YN] at h
 .exfalso;simp[Xp,YN] at h
 .obtain⟨rfl,rfl⟩:=UL h;exact .inl ⟨a,G,k,c⟩
 .obtain⟨rfl,rfl⟩:=UL b;exact .inr ⟨a,rfl,e,A0,B0,i,j,l⟩
 .exfalso;simp[Yn,YN] at h
theorem MR(n:Int):Ur (XF n) UY:=Lj.2 (.inl ⟨rfl,rfl⟩)
theorem Li(n:Int):Ur (Xk n) Xp:=Lj.2 (.inr (.inl ⟨rfl,rfl⟩))
theorem Pm{b:Tm}{e:List YK}{A B:Ty}{G:List Ty}(h:L6 b (A::G) B)(he:C9 e G):Ur (ME b e) (YN A B):=Lj.2 (.inr (.inr (.inl ⟨rfl,A,B,G,rfl,h,he⟩)))
theorem NV{v:YK}{g a:Option Ca}{A B A0 B0:Ty}(h3:v.k=3)(hv:Ur v (YN A0 B0))(hg:UE g A A0)(ha:UE a B0 B):Ur (J4 v g a) (YN A B):=Lj.2 (.inr (.inr (.inr (.inl ⟨rfl,v,A0,B0,A,B,rfl,h3,⟨rfl,hv⟩,hg,ha⟩))))
theorem Nh{v:YK}{k:Int}(hk:k=1\/k=2\/k=3)(hv:Ur v (gr k)):Ur (XO v k) Yn:=Lj.2 (.inr (.inr (.inr (.inr ⟨rfl,rfl,hk,v,rfl,hv⟩))))
theorem NW{f:YK}{c:Ca}{s1 s2 t1 t2:Ty}(h:Ur f (YN s1 s2))(d:UE c.given t1 s1)(b:UE c.answer s2 t2):Ur (X7 f c) (YN t1 t2):=by
 unfold X7;rcases J8 h with⟨a,_⟩|⟨a,_,j,l,k,g,e,i⟩
 .rw[if_neg (by omega)];exact NV a h d b
 .rw[if_pos a];exact NV j g (Um d e) (Um i b)
theorem Wk{s:St}{c:Option Ca}{v:YK}{S T:Ty}(hc:UE c S T)(hv:Ur v S):(∃u,Xu s c v=s.push u/\Ur u T)\/∃o:Xy,Xu s c v=s.stop o/\o.k=4:=by
 cases c with
 |none=>rw[XL.1 hc] at hv;exact .inl ⟨v,rfl,hv⟩
 |some c=>
  obtain⟨o,w,k,e,g,a,h⟩:=c;obtain⟨hk,S1,T1,hS,q,i⟩:=Y8.1 hc;have p:(∃o',Xu s (I ⟨o,w,k,e,g,a,h⟩) v=s.stop o'/\o'.k=4)\/((o=E->v.k=5/\v.az=k)/\Ur (if o=E then v.core else v) S1):=by
   rcases hS with⟨rfl,rfl,rfl,hw⟩|⟨rfl,rfl⟩
   .obtain⟨k5,has,_,hcore⟩:=P1 hv;by_cases hak:v.az=k
    .right;refine⟨fun _=>⟨k5,hak⟩,?_⟩;rw[if_pos rfl,<-hak];exact hcore
    .left;refine⟨w,?_,hw⟩;simp only[Xu];rw[if_neg (fun h=>h.2 k5),if_pos ⟨by trivial,hak⟩]
   .right;exact⟨fun h=>(by cases h),by simpa using hv⟩
  rcases p with p|⟨b,d⟩
  .exact .inr p
  have e1:Xu s (I ⟨o,w,k,e,g,a,h⟩) v=if e.k≠0 then s.stop e else s.push (No ⟨o,w,k,e,g,a,h⟩ v):=by simp only[Xu];rw[if_neg (fun h=>h.2 (b h.1).1),if_neg (fun h=>h.2 (b h.1).2)]
  rw[e1];rcases i with i|⟨i,hT,hp⟩
  .right;exact⟨e,by rw[if_pos (by omega)],i⟩
  .left;refine⟨_,by rw[if_neg (by omega)],?_⟩;have r:Ur (if g.isSome=E\/a.isSome=E then X7 (if o=E then v.core else v) ⟨o,w,k,e,g,a,h⟩ else (if o=E then v.core else v)) T1:=by
    rcases hp with⟨k3,rfl,rfl,rfl⟩|⟨rfl,s1,s2,t1,t2,rfl,rfl,y,z⟩
    .rcases q with⟨_,rfl⟩|⟨h,_⟩
     .rw[if_neg (by simp)];exact d
     .omega
    .split
     .exact NW (c:=⟨o,w,3,e,g,a,h⟩) d y z
     .rename_i hn;have l:g=D:=by cases g with
       |none=>rfl
       |some x=>exact absurd (.inl rfl) hn
      have j:a=D:=by cases a with
       |none=>rfl
       |some x=>exact absurd (.inr rfl) hn
      subst l j;rw[XL.1 y,<-XL.1 z];exact d
   simp only[No];rcases hT with⟨rfl,rfl,rfl⟩|⟨rfl,rfl⟩
   .rw[if_pos rfl];exact Nh hk r
   .simpa using r
def S4:Option Ca->Option Ca
 |none=>D
 |some ⟨o,w,k,e,g,a,h⟩=>if e.k=0 then I ⟨o,w,k,e,S4 g,S4 a,h⟩ else I ⟨o,w,k,e,D,D,X⟩
 termination_by c=>SizeOf.sizeOf c
 decreasing_by
  .simp;omega
  .simp;omega
theorem Aq:S4 D=D:=by rw[S4]
theorem Oq(o:Bool)(w:Xy)(k:Int)(e:Xy)(g a:Option Ca)(h:Bool):S4 (I ⟨o,w,k,e,g,a,h⟩)=if e.k=0 then I ⟨o,w,k,e,S4 g,S4 a,h⟩ else I ⟨o,w,k,e,D,D,X⟩:=by rw[S4]
def UQ(c d:Option Ca):Prop:=S4 c=S4 d
theorem UQ.refl(c:Option Ca):UQ c c:=rfl
theorem UQ.symm{c d:Option Ca}(h:UQ c d):UQ d c:=Eq.symm h
theorem UQ.trans{c d e:Option Ca}(h:UQ c d)(h':UQ d e):UQ c e:=Eq.trans h h'
theorem UN{c:Option Ca}(h:UQ D c):c=D:=by
 cases c with
 |none=>rfl
 |some c=>obtain⟨o,w,k,e,g,a,b⟩:=c;rw[UQ,Aq,Oq] at h;split at h<;>cases h
theorem MH{o o':Bool}{w w':Xy}{k k':Int}{e e':Xy}{g g' a a':Option Ca}{h h':Bool}(H:UQ (I ⟨o,w,k,e,g,a,h⟩) (I ⟨o',w',k',e',g',a',h'⟩)):o=o'/\w=w'/\k=k'/\e=e'/\(e.k=0->UQ g g'/\UQ a a'/\h=h'):=by
 rw[UQ,Oq,Oq] at H;by_cases h1:e.k=0
 .rw[if_pos h1] at H;by_cases h2:e'.k=0
  .rw[if_pos h2] at H;have:=Ze H;simp only[Ca.mk.injEq] at this;exact⟨this.1,this.2.1,this.2.2.1,this.2.2.2.1,fun _=>⟨this.2.2.2.2.1,this.2.2.2.2.2.1,this.2.2.2.2.2.2⟩⟩
  .rw[if_neg h2] at H;have:=Ze H;simp only[Ca.mk.injEq] at this;exact absurd (this.2.2.2.1▸h1) h2
 .rw[if_neg h1] at H;by_cases h2:e'.k=0
  .rw[if_pos h2] at H;have:=Ze H;simp only[Ca.mk.injEq] at this;exact absurd (this.2.2.2.1.symm▸h2) h1
  .rw[if_neg h2] at H;have:=Ze H;simp only[Ca.mk.injEq] at this;exact⟨this.1,this.2.1,this.2.2.1,this.2.2.2.1,fun h=>absurd h h1⟩
theorem Qv{o:Bool}{w:Xy}{k:Int}{e:Xy}{g g' a a':Option Ca}{h h':Bool}(H:e.k=0->UQ g g'/\UQ a a'/\h=h'):UQ (I ⟨o,w,k,e,g,a,h⟩) (I ⟨o,w,k,e,g',a',h'⟩):=by
 rw[UQ,Oq,Oq];by_cases h1:e.k=0
 .rw[if_pos h1,if_pos h1];obtain⟨b,c,d⟩:=H h1;rw[UQ] at b c;rw[b,c,d]
 .rw[if_neg h1,if_neg h1]
theorem OJ{c d:Option Ca}(h:UQ c d):c.isSome=d.isSome:=by
 cases c with
 |none=>rw[UN h]
 |some c=>
  cases d with
  |none=>have:=UN h.symm;cases this
  |some d=>rfl
theorem L7:∀(n:Nat)(c c' d d':Option Ca),SizeOf.sizeOf c+SizeOf.sizeOf d<=n->UQ c c'->UQ d d'->UQ (YI c d) (YI c' d')
 |0,c,_,d,_,h,_,_=>by cases c<;>simp at h
 |n+1,D,c',d,d',hn,hc,hd=>by rw[UN hc,Xs,Xs];exact hd
 |n+1,I c,D,d,d',hn,hc,hd=>by have:=UN hc.symm;cases this
 |n+1,I c,I c',D,d',hn,hc,hd=>by rw[UN hd,XB,XB];exact hc
 |n+1,I c,I c',I d,D,hn,hc,hd=>by have:=UN hd.symm;cases this
 |n+1,I ⟨o,w,k,e,g,a,h⟩,I ⟨o',w',k',e',g',a',h'⟩,I ⟨p,v,l,f,i,b,j⟩,I ⟨p',v',l',f',i',b',j'⟩,hn,hc,hd=>by
  obtain⟨rfl,rfl,rfl,rfl,hc2⟩:=MH hc;obtain⟨rfl,rfl,rfl,rfl,hd2⟩:=MH hd;simp at hn;rw[Y6,Y6];by_cases h1:e.k=0
  .rw[if_pos h1,if_pos h1];by_cases h2:l=k
   .rw[if_pos h2,if_pos h2];refine Qv fun h3=>⟨?_,?_,(hd2 h3).2.2⟩
    .exact L7 n i i' g g' (by omega) (hd2 h3).1 (hc2 h1).1
    .exact L7 n a a' b b' (by omega) (hc2 h1).2.1 (hd2 h3).2.1
   .rw[if_neg h2,if_neg h2];exact UQ.refl _
  .rw[if_neg h1,if_neg h1];exact hc
theorem Ni{c c' d d':Option Ca}(hc:UQ c c')(hd:UQ d d'):UQ (YI c d) (YI c' d'):=L7 _ c c' d d' (Z _) hc hd
theorem L8:∀(n:Nat)(c d e:Option Ca)(S T U V:Ty),SizeOf.sizeOf c+SizeOf.sizeOf d+SizeOf.sizeOf e<=n->UE c S T->UE d T U->UE e U V->UQ (YI (YI c d) e) (YI c (YI d e))
 |0,c,_,_,_,_,_,_,h,_,_,_=>by cases c<;>simp at h
 |n+1,D,d,e,_,_,_,_,_,_,_,_=>by rw[Xs,Xs];exact UQ.refl _
 |n+1,I c,D,e,_,_,_,_,_,_,_,_=>by rw[XB,Xs];exact UQ.refl _
 |n+1,I c,I d,D,_,_,_,_,_,_,_,_=>by rw[XB,XB];exact UQ.refl _
 |n+1,I ⟨o,w,k,e,g,a,h⟩,I ⟨o',w',k',e',g',a',h'⟩,I ⟨p,v,l,f,i,b,j⟩,S,T,U,V,hn,hc,hd,he=>by
  simp at hn;obtain⟨hk,S',T',c1,c2,c3⟩:=Y8.1 hc;obtain⟨hk',S'',T'',d1,d2,d3⟩:=Y8.1 hd;obtain⟨hl,S3,T3,e1,e2,e3⟩:=Y8.1 he;rw[Y6];by_cases h1:e.k=0
  .rw[if_pos h1];rcases c3 with c3|⟨_,c4,c5⟩
   .omega
   by_cases h2:k'=k
   .rw[if_pos h2,Y6];by_cases h3:e'.k=0
    .rw[if_pos h3];rcases d3 with d3|⟨_,d4,d5⟩
     .omega
     rw[Y6,if_pos h3];by_cases h4:l=k
     .have h4':l=k':=by omega
      rw[if_pos h4,if_pos h4',Y6,if_pos h1,if_pos h2];rcases e3 with e3|⟨e0,e4,e5⟩
      .refine Qv fun h5=>?_;omega
      refine Qv fun _=>?_;have kS:=Mf c2;have y:=Mf d2;have u:=Mf e2;by_cases k3:k=3
      .obtain⟨hk3,s1,s2,t1,t2,rfl,rfl,tg,ta⟩:k=3/\∃s1 s2 t1 t2,S'=YN s1 s2/\T'=YN t1 t2/\UE g t1 s1/\UE a s2 t2:=by
        rcases c5 with⟨h,_⟩|h
        .exact absurd k3 h
        .exact h
       obtain⟨a7,u1,u2,x1,z,rfl,rfl,a1,a3⟩:k'=3/\∃s1 s2 t1 t2,S''=YN s1 s2/\T''=YN t1 t2/\UE g' t1 s1/\UE a' s2 t2:=by
        rcases d5 with⟨h,_⟩|h
        .exact absurd (h2.trans k3) h
        .exact h
       obtain⟨_,y1,y2,z1,z2,rfl,rfl,a6,a0⟩:l=3/\∃s1 s2 t1 t2,S3=YN s1 s2/\T3=YN t1 t2/\UE i t1 s1/\UE b s2 t2:=by
        rcases e5 with⟨h,_⟩|h
        .exact absurd (h4.trans k3) h
        .exact h
       have a5:t1=u1/\t2=u2:=by
        rcases c4 with⟨_,rfl,q⟩|⟨_,rfl⟩
        .rcases d1 with⟨_,_,hS,_⟩|⟨_,hS⟩
         .have:YN t1 t2=YN u1 u2:=by rw[q,hS,h2]
          exact UL this
         .exfalso;have:=congrArg Ty.k hS;simp[Yn,YN] at this
        .rcases d1 with⟨_,r,_,_⟩|⟨_,hS⟩
         .exfalso;have:=congrArg Ty.k r;simp[Yn,YN] at this
         .exact UL hS
       have a2:x1=y1/\z=y2:=by
        rcases d4 with⟨_,rfl,q⟩|⟨_,rfl⟩
        .rcases e1 with⟨_,_,hS,_⟩|⟨_,hS⟩
         .have:YN x1 z=YN y1 y2:=by rw[q,hS,h4']
          exact UL this
         .exfalso;have:=congrArg Ty.k hS;simp[Yn,YN] at this
        .rcases e1 with⟨_,r,_,_⟩|⟨_,hS⟩
         .exfalso;have:=congrArg Ty.k r;simp[Yn,YN] at this
         .exact UL hS
       obtain⟨rfl,rfl⟩:=a5;obtain⟨rfl,rfl⟩:=a2;refine⟨?_,?_,rfl⟩
       .exact(L8 n i g' g z1 x1 t1 s1 (by omega) a6 a1 tg).symm
       .exact L8 n a a' b s2 t2 z z2 (by omega) ta a3 a0
      .obtain⟨_,_,rfl,rfl⟩:k≠3/\T'=⟨k,[]⟩/\g=D/\a=D:=by
        rcases c5 with h|⟨h,_⟩
        .exact h
        .exact absurd h k3
       obtain⟨_,_,rfl,rfl⟩:k'≠3/\T''=⟨k',[]⟩/\g'=D/\a'=D:=by
        rcases d5 with h|⟨h,_⟩
        .exact h
        .exact absurd (h2▸h) k3
       obtain⟨_,_,rfl,rfl⟩:l≠3/\T3=⟨l,[]⟩/\i=D/\b=D:=by
        rcases e5 with h|⟨h,_⟩
        .exact h
        .exact absurd (h4▸h) k3
       have t0:=Xs D;refine⟨?_,?_,rfl⟩<;>rw[t0]<;>exact UQ.refl _
     .have h4':¬l=k':=by omega
      rw[if_neg h4,if_neg h4',Y6,if_pos h1,if_pos h2];refine Qv fun h5=>?_;exfalso;have u:=Mf e2;rcases e1 with⟨_,_,_,hv⟩|⟨_,hS⟩
      .omega
      .have hU:U.k=l:=by rw[hS];exact u
       rcases d4 with⟨_,r,_⟩|⟨_,q⟩
       .rw[r] at hU;simp[Yn] at hU;omega
       .have:=LP d5;rw[<-q] at this;omega
    .rw[if_neg h3,Y6,if_neg h3,Y6,if_pos h1,if_pos h2];exact UQ.refl _
   .rw[if_neg h2];have hv:w'.k=4:=by
     rcases d1 with⟨_,_,_,hv⟩|⟨_,hS⟩
     .exact hv
     .exfalso;have y:=Mf d2;have q:T.k=k':=by rw[hS];exact y
      rcases c4 with⟨_,r,_⟩|⟨_,a4⟩
      .rw[r] at q;simp[Yn] at q;omega
      .have:=LP c5;rw[<-a4] at this;omega
    rw[Y6,if_neg (by omega)];rw[Jg];have a8:YI (I ⟨o',w',k',e',g',a',h'⟩) (I ⟨p,v,l,f,i,b,j⟩)=YI (I ⟨o',w',k',e',g',a',h'⟩) (I ⟨p,v,l,f,i,b,j⟩):=rfl;by_cases h3:e'.k=0
    .rw[if_pos h3];split
     .rw[Y6,if_pos h1,if_neg h2];exact UQ.refl _
     .rw[Y6,if_pos h1,if_neg h2];exact UQ.refl _
    .rw[if_neg h3,Y6,if_pos h1,if_neg h2];exact UQ.refl _
  .rw[if_neg h1,Y6,if_neg h1];cases hx:YI (I ⟨o',w',k',e',g',a',h'⟩) (I ⟨p,v,l,f,i,b,j⟩) with
   |none=>rw[XB];exact UQ.refl _
   |some x=>obtain⟨x1,z,x3,x4,x5,x6,x7⟩:=x;rw[Y6,if_neg h1];exact UQ.refl _
theorem Nj{c d e:Option Ca}{S T U V:Ty}(hc:UE c S T)(hd:UE d T U)(he:UE e U V):UQ (YI (YI c d) e) (YI c (YI d e)):=L8 _ c d e S T U V (Z _) hc hd he
def Ap:YK->YK
 |⟨k,n,b,e,i,g,a,s⟩=>⟨k,n,b,e.map fun x=>Ap x,i.map fun x=>Ap x,S4 g,S4 a,s⟩
theorem Qm(k n:Int)(b:Tm)(e i:List YK)(g a:Option Ca)(s:Int):Ap ⟨k,n,b,e,i,g,a,s⟩=⟨k,n,b,e.map Ap,i.map Ap,S4 g,S4 a,s⟩:=by rw[Ap]
def US(v v':YK):Prop:=Ap v=Ap v'
theorem US.refl(v:YK):US v v:=rfl
theorem US.symm{v u:YK}(h:US v u):US u v:=Eq.symm h
theorem US.trans{v u t:YK}(h:US v u)(h':US u t):US v t:=Eq.trans h h'
def LV(e e':List YK):Prop:=e.map Ap=e'.map Ap
theorem Uq{v v':YK}(h:US v v'):v.k=v'.k/\v.n=v'.n/\v.body=v'.body/\LV v.env v'.env/\LV v.inn v'.inn/\UQ v.given v'.given/\UQ v.answer v'.answer/\v.az=v'.az:=by obtain⟨k,n,b,e,i,g,a,s⟩:=v;obtain⟨o,c,j,l,d,p,a',s'⟩:=v';rw[US,Qm,Qm] at h;simp only[YK.mk.injEq] at h;exact⟨h.1,h.2.1,h.2.2.1,h.2.2.2.1,h.2.2.2.2.1,h.2.2.2.2.2.1,h.2.2.2.2.2.2.1,h.2.2.2.2.2.2.2⟩
theorem M6{k n s:Int}{b:Tm}{e e' i i':List YK}{g g' a a':Option Ca}(c:LV e e')(hi:LV i i')(d:UQ g g')(h:UQ a a'):US ⟨k,n,b,e,i,g,a,s⟩ ⟨k,n,b,e',i',g',a',s⟩:=by rw[US,Qm,Qm];rw[LV] at c hi;rw[UQ] at d h;rw[c,hi,d,h]
theorem UG:LV [] []:=rfl
theorem Uc{v v':YK}{e e':List YK}(h:US v v')(a:LV e e'):LV (v::e) (v'::e'):=by rw[LV,Za,Za];rw[LV] at a;rw[US] at h;rw[h,a]
theorem Bi{v v':YK}{e e':List YK}(h:LV (v::e) (v'::e')):US v v'/\LV e e':=by rw[LV,Za,Za] at h;exact Zs h
theorem OI{e:List YK}(h:LV [] e):e=[]:=by
 cases e with
 |nil=>rfl
 |cons v e=>rw[LV] at h;cases h
theorem LU{v:YK}{e e':List YK}(h:LV (v::e) e'):∃v' e'',e'=v'::e''/\US v v'/\LV e e'':=by
 cases e' with
 |nil=>rw[LV] at h;cases h
 |cons v' e''=>exact⟨v',e'',rfl,Bi h⟩
theorem CR{e e':List YK}(h:LV e e')(j:Nat):(∀v,e[j]?=I v->∃v',e'[j]?=I v'/\US v v')/\(e[j]?=D->e'[j]?=D):=by
 have a:=congrArg (fun l=>l[j]?) h;simp only[List.getElem?_map] at a;constructor
 .intro v hv;rw[hv] at a;cases h':e'[j]? with
  |none=>rw[h'] at a;cases a
  |some v'=>rw[h'] at a;exact⟨v',rfl,Ze a⟩
 .intro hv;rw[hv] at a;cases h':e'[j]? with
  |none=>rfl
  |some v'=>rw[h'] at a;cases a
theorem MG{v v':YK}(h:US v v'):US v.core v'.core:=by
 have hi:=(Uq h).2.2.2.2.1;unfold YK.core;cases h1:v.inn with
 |nil=>rw[h1] at hi;rw[OI hi];exact US.refl _
 |cons u r=>rw[h1] at hi;obtain⟨d,c,a,b,_⟩:=LU hi;rw[a];exact b
def Xd(c:Option Ca)(v:YK):Xy×YK:=match c with
 |none=>(Yl,v)
 |some c=>
  if c.opens=E/\v.k≠5 then (Yu,v)
  else if c.opens=E/\v.az≠c.kind then (c.wrong,v)
  else if c.ends.k≠0 then (c.ends,v)
  else (Yl,No c v)
theorem OL(v:YK):Xd D v=(Yl,v):=rfl
theorem XP(c:Ca)(v:YK):Xd (I c) v=if c.opens=E/\v.k≠5 then (Yu,v) else if c.opens=E/\v.az≠c.kind then (c.wrong,v) else if c.ends.k≠0 then (c.ends,v) else (Yl,No c v):=rfl
theorem Nv{s:St}{c:Option Ca}{v:YK}(hw:∀d,c=I d->d.opens=E->d.wrong.k≠0):Xu s c v=if (Xd c v).1.k=0 then s.push (Xd c v).2 else s.stop (Xd c v).1:=by
 cases c with
 |none=>rw[OL];rfl
 |some c=>
  rw[XP];unfold Xu;simp only;by_cases h1:c.opens=E/\v.k≠5
  .rw[if_pos h1,if_pos h1];rfl
  .rw[if_neg h1,if_neg h1];by_cases h2:c.opens=E/\v.az≠c.kind
   .rw[if_pos h2,if_pos h2];have:=hw c rfl h2.1;rw[if_neg this]
   .rw[if_neg h2,if_neg h2];by_cases h3:c.ends.k≠0
    .rw[if_pos h3,if_pos h3,if_neg h3]
    .rw[if_neg h3,if_neg h3];rfl
def Y2(f:YK)(g a:Option Ca):YK:=if g.isSome=E\/a.isSome=E then (if f.k=4 then J4 f.core (YI g f.given) (YI f.answer a) else J4 f g a) else f
theorem Jx(c:Ca)(v:YK):No c v=if c.hides=E then XO (Y2 (if c.opens=E then v.core else v) c.given c.answer) c.kind else Y2 (if c.opens=E then v.core else v) c.given c.answer:=rfl
theorem Ng{f f':YK}{g g' a a':Option Ca}(b:US f f')(c:UQ g g')(h:UQ a a'):US (Y2 f g a) (Y2 f' g' a'):=by
 obtain⟨i,_,_,_,_,d,e,_⟩:=Uq b;unfold Y2;rw[OJ c,OJ h,i];split
 .split
  .exact M6 UG (Uc (MG b) UG) (Ni c d) (Ni e h)
  .exact M6 UG (Uc b UG) c h
 .exact b
theorem Ns{v v':YK}(h:US v v')(k:Int):US (XO v k) (XO v' k):=M6 UG (Uc h UG) (UQ.refl _) (UQ.refl _)
theorem PN{c c':Option Ca}{v v':YK}(hc:UQ c c')(hv:US v v'):(Xd c v).1=(Xd c' v').1/\((Xd c v).1.k=0->US (Xd c v).2 (Xd c' v').2):=by
 cases c with
 |none=>rw[UN hc];exact⟨rfl,fun _=>hv⟩
 |some c=>
  cases c' with
  |none=>have:=UN hc.symm;cases this
  |some c'=>
   obtain⟨o,w,k,e,g,a,h⟩:=c;obtain⟨p,w',x,u,q,a',r⟩:=c';obtain⟨rfl,rfl,rfl,rfl,H⟩:=MH hc;obtain⟨l,_,_,_,_,_,_,d⟩:=Uq hv;rw[XP,XP];simp only;rw[l,d];by_cases h1:o=E/\v'.k≠5
   .rw[if_pos h1,if_pos h1];exact⟨rfl,fun h=>by cases h⟩
   .rw[if_neg h1,if_neg h1];by_cases h2:o=E/\v'.az≠k
    .rw[if_pos h2,if_pos h2];exact⟨rfl,fun _=>hv⟩
    .rw[if_neg h2,if_neg h2];by_cases h3:e.k≠0
     .rw[if_pos h3,if_pos h3];exact⟨rfl,fun _=>hv⟩
     .rw[if_neg h3,if_neg h3];refine⟨rfl,fun _=>?_⟩;obtain⟨i,j,rfl⟩:=H (by omega);show US (No _ _) (No _ _)
      rw[Jx,Jx];simp only;have b:US (if o=E then v.core else v) (if o=E then v'.core else v'):=by
       split
       .exact MG hv
       .exact hv
      split
      .exact Ns (Ng b i j) _
      .exact Ng b i j
theorem Vl{f:YK}{g a g' a':Option Ca}{s1 s2 t1 t2 u1 u2:Ty}(hf:Ur f (YN s1 s2))(hg:UE g t1 s1)(ha:UE a s2 t2)(hg':UE g' u1 t1)(ha':UE a' t2 u2):US (Y2 (Y2 f g a) g' a') (Y2 f (YI g' g) (YI a a')):=by
 by_cases h1:g.isSome=E\/a.isSome=E
 .by_cases h2:g'.isSome=E\/a'.isSome=E
  .have h3:(YI g' g).isSome=E\/(YI a a').isSome=E:=by
    rcases h1 with h|h
    .left;cases g with
     |none=>cases h
     |some g=>
      cases g' with
      |none=>rw[Xs];rfl
      |some g'=>rw[Jg];split<;>(try split)<;>rfl
    .right;cases a with
     |none=>cases h
     |some a=>
      cases a' with
      |none=>rw[XB];rfl
      |some a'=>rw[Jg];split<;>(try split)<;>rfl
   unfold Y2;rw[if_pos h1,if_pos h2,if_pos h3];by_cases h4:f.k=4
   .rw[if_pos h4,if_pos h4];rcases J8 hf with⟨i,_⟩|⟨_,_,_,j,e,_,b,c⟩
    .omega
    rw[if_pos (show (J4 f.core (YI g f.given) (YI f.answer a)).k=4 from rfl)];show US (J4 f.core (YI g' (YI g f.given)) (YI (YI f.answer a) a')) _
    exact M6 UG (Uc (US.refl _) UG) (Nj hg' hg b).symm (Nj c ha ha')
   .rw[if_neg h4,if_neg h4,if_pos (show (J4 f g a).k=4 from rfl)];exact M6 UG (Uc (US.refl _) UG) (UQ.refl _) (UQ.refl _)
  .have e1:g'=D:=by cases g' with
    |none=>rfl
    |some _=>exact absurd (.inl rfl) h2
   have d:a'=D:=by cases a' with
    |none=>rfl
    |some _=>exact absurd (.inr rfl) h2
   subst e1 d;rw[Xs,XB];unfold Y2;rw[if_pos h1,if_neg (by simp)];exact US.refl _
 .have e1:g=D:=by cases g with
   |none=>rfl
   |some _=>exact absurd (.inl rfl) h1
  have d:a=D:=by cases a with
   |none=>rfl
   |some _=>exact absurd (.inr rfl) h1
  subst e1 d;rw[XB,Xs];have:Y2 f D D=f:=by unfold Y2;rw[if_neg (by simp)]
  rw[this];exact US.refl _
theorem Lx{c d:Option Ca}{v:YK}{S T U:Ty}(hc:UE c S T)(hd:UE d T U)(hv:Ur v S):
  ((Xd c v).1.k≠0->(Xd (YI c d) v).1=(Xd c v).1)/\((Xd c v).1.k=0->(Xd (YI c d) v).1=(Xd d (Xd c v).2).1/\((Xd (YI c d) v).1.k=0->US (Xd (YI c d) v).2 (Xd d (Xd c v).2).2)):=by
 cases c with
 |none=>rw[Xs,OL];exact⟨fun h=>absurd rfl h,fun _=>⟨rfl,fun _=>US.refl _⟩⟩
 |some c=>
  cases d with
  |none=>
   rw[XB];refine⟨fun _=>rfl,fun h=>?_⟩;rw[OL];have:(Xd (I c) v).1=Yl:=by
    rw[XP] at h ⊢;split at h
    .cases h
    .rename_i h1;rw[if_neg h1];split at h
     .rename_i b;exfalso;obtain⟨o,w,k,e,g,a,hh⟩:=c;obtain⟨_,_,_,c1,_⟩:=Y8.1 hc;rcases c1 with⟨_,_,_,hw⟩|⟨r,_⟩
      .simp only at h;omega
      .rw[r] at b;cases b.1
     .rename_i b;rw[if_neg b];split at h
      .rename_i h3;exact absurd h h3
      .rename_i h3;rw[if_neg h3]
   exact⟨this,fun _=>US.refl _⟩
  |some d=>
   obtain⟨o,w,k,e,g,a,h⟩:=c;obtain⟨o',w',k',y,z,a',h'⟩:=d;obtain⟨hk,S',T',c1,c2,c3⟩:=Y8.1 hc;obtain⟨ae,ac,aa,d1,d2,d3⟩:=Y8.1 hd;rw[Y6];by_cases he:e.k=0
   .rw[if_pos he];rcases c3 with c3|⟨_,c4,c5⟩
    .omega
    by_cases q1:o=E/\v.k≠5
    .have hs:∀(l:Xy)(u x:Option Ca)(b:Bool),Xd (I ⟨o,w,k,l,u,x,b⟩) v=(Yu,v):=fun l u x b=>by rw[XP,if_pos q1]
     rw[hs];refine⟨fun _=>?_,fun h=>by cases h⟩;split<;>rw[hs]
    .by_cases q2:o=E/\v.az≠k
     .have hs:∀(l:Xy)(u x:Option Ca)(b:Bool),Xd (I ⟨o,w,k,l,u,x,b⟩) v=(w,v):=fun l u x b=>by rw[XP,if_neg q1,if_pos q2]
      rw[hs];have hw:w.k=4:=by
       rcases c1 with⟨_,_,_,hw⟩|⟨r,_⟩
       .exact hw
       .rw[r] at q2;cases q2.1
      refine⟨fun _=>?_,fun h=>?_⟩
      .split<;>rw[hs]
      .simp only at h;omega
     .have hs:∀(l:Xy)(u x:Option Ca)(b:Bool),Xd (I ⟨o,w,k,l,u,x,b⟩) v=if l.k≠0 then (l,v) else (Yl,No ⟨o,w,k,l,u,x,b⟩ v):=fun l u x b=>by rw[XP,if_neg q1,if_neg q2]
      rw[hs e g a h,if_neg (by omega)];refine⟨fun h=>absurd rfl h,fun _=>?_⟩;obtain⟨v1,j⟩:∃v1,(if o=E then v.core else v)=v1:=⟨_,rfl⟩
      have a3:No ⟨o,w,k,e,g,a,h⟩ v=if h=E then XO (Y2 v1 g a) k else Y2 v1 g a:=by rw[Jx];simp only;rw[j]
      have ab:Ur v1 S':=by
       rcases c1 with⟨r,hS,a8,_⟩|⟨r,hS⟩
       .rw[if_pos r] at j;rw[<-j,a8];rw[hS] at hv;obtain⟨_,_,_,h5⟩:=P1 hv;have:v.az=k:=by
         by_cases e5:v.az=k
         .exact e5
         .exact absurd ⟨r,e5⟩ q2
        rw[this] at h5;exact h5
       .rw[if_neg (by rw[r];simp)] at j;rw[<-j,<-hS];exact hv
      have a0:=Mf d2;by_cases b:k'=k
      .rw[if_pos b,hs y _ _ h'];have i:o'=h:=by
        rcases c4 with⟨hh,p,_⟩|⟨hh,p⟩
        .rcases d1 with⟨i,_⟩|⟨_,hS⟩
         .rw[hh,i]
         .exfalso;rw[<-hS,p] at a0;simp[Yn] at a0;omega
        .rcases d1 with⟨_,hA,_⟩|⟨i,_⟩
         .exfalso;have:=LP c5;rw[<-p,hA] at this;simp[Yn] at this;omega
         .rw[hh,i]
       have a5:Xd (I ⟨o',w',k',y,z,a',h'⟩) (No ⟨o,w,k,e,g,a,h⟩ v)=if y.k≠0 then (y,No ⟨o,w,k,e,g,a,h⟩ v) else (Yl,No ⟨o',w',k',y,z,a',h'⟩ (No ⟨o,w,k,e,g,a,h⟩ v)):=by
        rw[XP];simp only;rw[i,a3];cases h
        .rw[if_neg (by simp),if_neg (by simp)]
        .rw[if_pos rfl,if_neg (fun q=>q.2 rfl),if_neg (fun q=>q.2 b.symm)]
       rw[a5];by_cases h3:y.k≠0
       .rw[if_pos h3,if_pos h3];exact⟨rfl,fun h=>absurd h h3⟩
       .rw[if_neg h3,if_neg h3];refine⟨rfl,fun _=>?_⟩;rcases d3 with d3|⟨_,d4,d5⟩
        .omega
        show US (No ⟨o,w,k,y,YI z g,YI a a',h'⟩ v) (No ⟨o',w',k',y,z,a',h'⟩ (No ⟨o,w,k,e,g,a,h⟩ v))
        rw[Jx,Jx,a3];simp only;rw[j,i,b];have a7:(if h=E then (if h=E then XO (Y2 v1 g a) k else Y2 v1 g a).core else (if h=E then XO (Y2 v1 g a) k else Y2 v1 g a))=Y2 v1 g a:=by
         cases h
         .rfl
         .rfl
        rw[a7];have a4:US (Y2 v1 (YI z g) (YI a a')) (Y2 (Y2 v1 g a) z a'):=by
         rcases c5 with⟨_,_,rfl,rfl⟩|⟨k3,s1,s2,t1,t2,rfl,rfl,tg,ta⟩
         .rw[XB,Xs];have:Y2 v1 D D=v1:=by unfold Y2;rw[if_neg (by simp)]
          rw[this];exact US.refl _
         .obtain⟨_,u1,u2,x1,x2,rfl,rfl,tg',ta'⟩:k'=3/\∃s1 s2 t1 t2,ac=YN s1 s2/\aa=YN t1 t2/\UE z t1 s1/\UE a' s2 t2:=by
           rcases d5 with⟨h,_⟩|h
           .exact absurd (b.trans k3) h
           .exact h
          have a9:t1=u1/\t2=u2:=by
           rcases c4 with⟨_,rfl,p⟩|⟨_,rfl⟩
           .rcases d1 with⟨_,_,hS,_⟩|⟨_,hS⟩
            .have:YN t1 t2=YN u1 u2:=by rw[p,hS,b]
             exact UL this
            .exfalso;have:=congrArg Ty.k hS;simp[Yn,YN] at this
           .rcases d1 with⟨_,hA,_,_⟩|⟨_,hS⟩
            .exfalso;have:=congrArg Ty.k hA;simp[Yn,YN] at this
            .exact UL hS
          obtain⟨rfl,rfl⟩:=a9;exact(Vl ab tg ta tg' ta').symm
        split
        .exact Ns a4 _
        .exact a4
      .rw[if_neg b];have a6:o'=E/\w'.k=4/\h=E:=by
        rcases d1 with⟨i,p,_,hw⟩|⟨_,hS⟩
        .rcases c4 with⟨hh,_⟩|⟨_,a1⟩
         .exact⟨i,hw,hh⟩
         .exfalso;have:=LP c5;rw[<-a1,p] at this;simp[Yn] at this;omega
        .exfalso;have p:T.k=k':=by rw[hS];exact a0
         rcases c4 with⟨_,hA,_⟩|⟨_,a1⟩
         .rw[hA] at p;simp[Yn] at p;omega
         .have:=LP c5;rw[<-a1] at this;omega
       obtain⟨rfl,ad,rfl⟩:=a6;rw[hs w' D D X,if_pos (by omega),XP];simp only;rw[a3,if_pos rfl,if_neg (fun q=>q.2 rfl),if_pos ⟨trivial,fun q=>b q.symm⟩];exact⟨rfl,fun h=>by have h9:w'.k=0:=h;omega⟩
   .rw[if_neg he];refine⟨fun _=>rfl,fun h=>?_⟩;exfalso;rw[XP] at h;split at h
    .cases h
    .split at h
     .rename_i b;rcases c1 with⟨_,_,_,hw⟩|⟨r,_⟩
      .simp only at h;omega
      .simp only at b;rw[r] at b;cases b.1
     .first
       |exact he h
       |(split at h
         .exact he h
         .rename_i h9;exact h9 he)
def Cx(t:Xx):Xx:=⟨t.d,t.x,t.s.map Ap,S4 t.c⟩
def Tt(t t':Xx):Prop:=Cx t=Cx t'
theorem Mi{d:Int}{x:Tm}{s s':List YK}{c c':Option Ca}(a:LV s s')(b:UQ c c'):Tt ⟨d,x,s,c⟩ ⟨d,x,s',c'⟩:=by rw[Tt,Cx,Cx];simp only;rw[LV] at a;rw[UQ] at b;rw[a,b]
theorem Wf{t t':Xx}(h:Tt t t'):t.d=t'.d/\t.x=t'.x/\LV t.s t'.s/\UQ t.c t'.c:=by rw[Tt,Cx,Cx] at h;simp only[Xx.mk.injEq] at h;exact⟨h.1,h.2.1,h.2.2.1,h.2.2.2⟩
theorem Tt.refl(t:Xx):Tt t t:=rfl
def M7(ts ts':List Xx):Prop:=ts.map Cx=ts'.map Cx
theorem M7.refl(ts:List Xx):M7 ts ts:=rfl
theorem JT{t t':Xx}{ts ts':List Xx}(h:Tt t t')(a:M7 ts ts'):M7 (t::ts) (t'::ts'):=by rw[M7,Za,Za];rw[M7] at a;rw[Tt] at h;rw[h,a]
theorem Ts{t:Xx}{ts l:List Xx}(h:M7 (t::ts) l):∃t' ts',l=t'::ts'/\Tt t t'/\M7 ts ts':=by
 cases l with
 |nil=>rw[M7] at h;cases h
 |cons t' ts'=>rw[M7,Za,Za] at h;exact⟨t',ts',rfl,Zs h⟩
theorem PM{l:List Xx}(h:M7 [] l):l=[]:=by
 cases l with
 |nil=>rfl
 |cons _ _=>rw[M7] at h;cases h
structure K9(s s':St):Prop where
 ts:M7 s.ts s'.ts
 vs:LV s.vs s'.vs
 calls:s.calls=s'.calls
 fuel:s.fuel=s'.fuel
 ended:s.ended=s'.ended
theorem LV.refl(e:List YK):LV e e:=rfl
theorem LV.trans{a b c:List YK}(h:LV a b)(h':LV b c):LV a c:=Eq.trans h h'
theorem LV.symm{a b:List YK}(h:LV a b):LV b a:=Eq.symm h
theorem K9.refl(s:St):K9 s s:=⟨rfl,rfl,rfl,rfl,rfl⟩
theorem K9.symm{s t:St}(h:K9 s t):K9 t s:=⟨h.ts.symm,h.vs.symm,h.calls.symm,h.fuel.symm,h.ended.symm⟩
theorem K9.trans{s t u:St}(h:K9 s t)(h':K9 t u):K9 s u:=⟨h.ts.trans h'.ts,h.vs.trans h'.vs,h.calls.trans h'.calls,h.fuel.trans h'.fuel,h.ended.trans h'.ended⟩
theorem K9.push{s s':St}{v v':YK}(h:K9 s s')(hv:US v v'):K9 (s.push v) (s'.push v'):=⟨h.ts,Uc hv h.vs,h.calls,h.fuel,h.ended⟩
theorem K9.plan{s s':St}{t t':Xx}(h:K9 s s')(ht:Tt t t'):K9 (s.plan t) (s'.plan t'):=⟨JT ht h.ts,h.vs,h.calls,h.fuel,h.ended⟩
theorem K9.stop{s s':St}(h:K9 s s')(o:Xy):K9 (s.stop o) (s'.stop o):=⟨h.ts,h.vs,h.calls,h.fuel,rfl⟩
theorem S6{s s':St}{x:Tm}{e e':List YK}(h:K9 s s')(he:LV e e'):K9 (YW s x e) (YW s' x e'):=by
 have a:∀y,Tt (YY y e) (YY y e'):=fun y=>Mi he (UQ.refl _);have g:∀d,K9 (Je s x e d) (Je s' x e' d):=fun d=>((h.plan (Tt.refl _)).plan (a _)).plan (a _);unfold YW;split
 .obtain⟨h1,h2⟩:=CR he x.n.toNat;cases hv:e[x.n.toNat]? with
  |none=>rw[h2 hv];exact h.stop _
  |some v=>obtain⟨i,b,c⟩:=h1 v hv;rw[b];exact h.push c
 split
 .exact h.push (US.refl _)
 split
 .exact h.push (US.refl _)
 split
 .exact h.push (M6 he UG (UQ.refl _) (UQ.refl _))
 split
 .exact h.plan (a _)
 split
 .exact(h.plan (Tt.refl _)).plan (a _)
 split
 .exact(h.plan (Mi he (UQ.refl _))).plan (a _)
 split
 .exact g 2
 split
 .exact g 3
 .exact g 5
theorem Qx{s s':St}{c c':Option Ca}{v v':YK}(h:K9 s s')(hc:UQ c c')(hv:US v v'):K9 (Xu s c v) (Xu s' c' v'):=by
 cases c with
 |none=>rw[UN hc];exact h.push hv
 |some c=>
  cases c' with
  |none=>have:=UN hc.symm;cases this
  |some c'=>
   have b:=PN hc hv;obtain⟨o,w,k,e,g,a,l⟩:=c;obtain⟨p,w',u,r,q,a',j⟩:=c';obtain⟨rfl,rfl,rfl,rfl,_⟩:=MH hc;obtain⟨i,_,_,_,_,_,_,d⟩:=Uq hv;rw[XP,XP] at b;simp only at b;unfold Xu;simp only;rw[i,d] at b ⊢;by_cases h1:o=E/\v'.k≠5
   .rw[if_pos h1,if_pos h1];exact h.stop _
   .rw[if_neg h1,if_neg h1] at b ⊢;by_cases h2:o=E/\v'.az≠k
    .rw[if_pos h2,if_pos h2];exact h.stop _
    .rw[if_neg h2,if_neg h2] at b ⊢;by_cases h3:e.k≠0
     .rw[if_pos h3,if_pos h3];exact h.stop _
     .rw[if_neg h3,if_neg h3] at b ⊢;exact h.push (b.2 rfl)
theorem OW{s s':St}{f f' g g':YK}(h:K9 s s')(d:US f f')(c:US g g'):K9 (UB s f g) (UB s' f' g'):=by
 obtain⟨e,_,i,j,_,a,b,_⟩:=Uq d;unfold UB;rw[e];split
 .unfold J2;rw[h.calls,h.fuel,i];split
  .exact h.stop _
  .exact⟨JT (Mi (Uc c j) (UQ.refl _)) h.ts,h.vs,rfl,rfl,h.ended⟩
 split
 .unfold MN;exact⟨JT (Mi UG a) (JT (Tt.refl _) (JT (Mi UG b) h.ts)),Uc c (Uc (MG d) h.vs),h.calls,h.fuel,h.ended⟩
 .exact h.stop _
theorem Bj{s s':St}{t t':Xx}(h:K9 s s')(ht:Tt t t'):K9 (Nu s t) (Nu s' t'):=by
 obtain⟨hd,x,w,z⟩:=Wf ht;unfold Nu;rw[hd];split
 .rw[x];exact S6 h w
 .cases hv:s.vs with
  |nil=>have:=h.vs;rw[hv] at this;rw[OI this];exact h
  |cons v r=>
   have g:=h.vs;rw[hv] at g;obtain⟨v',y,p,b,a⟩:=LU g;rw[p];have l:K9 ⟨s.ts,r,s.calls,s.fuel,s.ended⟩ ⟨s'.ts,y,s'.calls,s'.fuel,s'.ended⟩:=⟨h.ts,a,h.calls,h.fuel,h.ended⟩
   simp only;split
   .exact Qx l z b
   split
   .obtain⟨k,j,_⟩:=Uq b;rw[k,j,x];split
    .exact l.plan (Mi w (UQ.refl _))
    .exact l.stop _
   .cases hq:r with
    |nil=>rw[hq] at a;rw[OI a];exact h
    |cons u q=>
     rw[hq] at a;obtain⟨u',q',o,i,c⟩:=LU a;rw[o];obtain⟨k,j,_⟩:=Uq b;obtain⟨d,e,_⟩:=Uq i;simp only;split
     .exact⟨h.ts,Uc (by rw[j,e];exact US.refl _) c,h.calls,h.fuel,by show (if _ then _ else _)=(if _ then _ else _);rw[k,d,h.ended]⟩
     split
     .exact⟨h.ts,Uc (by rw[j,e];exact US.refl _) c,h.calls,h.fuel,by show (if _ then _ else _)=(if _ then _ else _);rw[k,d,h.ended]⟩
     .exact OW ⟨h.ts,c,h.calls,h.fuel,h.ended⟩ i b
theorem Sy{s s':St}(h:K9 s s'):K9 (UJ s) (UJ s'):=by
 unfold UJ;rw[h.ended];split
 .cases ht:s.ts with
  |nil=>have:=h.ts;rw[ht] at this;rw[PM this];exact h
  |cons t r=>have a:=h.ts;rw[ht] at a;obtain⟨e,g,b,d,c⟩:=Ts a;rw[b];exact Bj ⟨c,h.vs,h.calls,h.fuel,rfl⟩ d
 .exact h
theorem MY{s s':St}(h:K9 s s'):∀n,K9 (XE n s) (XE n s')
 |0=>h
 |n+1=>MY (Sy h) n
def NO(s t:St):Prop:=∃n,K9 (XE n s) t
theorem NO.refl(s:St):NO s s:=⟨0,K9.refl s⟩
theorem NO.trans{s t u:St}(h:NO s t)(b:NO t u):NO s u:=by obtain⟨n,c⟩:=h;obtain⟨m,a⟩:=b;exact⟨n+m,by rw[Jv];exact(MY c m).trans a⟩
theorem NO.step{s t:St}(h:NO (UJ s) t):NO s t:=by obtain⟨n,a⟩:=h;exact⟨n+1,a⟩
theorem NO.of{s s' t:St}(h:K9 s s')(h':NO s' t):NO s t:=NO.trans ⟨0,h⟩ h'
theorem NO.to{s t t':St}(h:NO s t)(h':K9 t t'):NO s t':=h.trans ⟨0,h'⟩
def NI(s:St)(o:Xy):Prop:=o.k≠0/\∃n,(XE n s).ended=o
theorem NI.of{s t:St}{o:Xy}(h:NO s t)(c:NI t o):NI s o:=by obtain⟨n,d⟩:=h;obtain⟨b,m,a⟩:=c;exact⟨b,n+m,by rw[Jv];exact(MY d m).ended.trans a⟩
theorem NI.now{s:St}{o:Xy}(h:s.ended=o)(ho:o.k≠0):NI s o:=⟨ho,0,h⟩
theorem NI.step{s:St}{o:Xy}(h:NI (UJ s) o):NI s o:=by obtain⟨b,n,a⟩:=h;exact⟨b,n+1,a⟩
theorem Sv{v v':YK}(h:US v v'):XM v=XM v':=by
 have d:=MG h;obtain⟨c,e,_⟩:=Uq h;obtain⟨a,b,_⟩:=Uq d;unfold XM;simp only;rw[c];split
 .rw[a,b]
 .rw[c,e]
theorem QU{s:St}{n m:Nat}(c:(XE n s).done)(a:(XE m s).done):XE n s=XE m s:=by
 have b:XE (n+m) s=XE n s:=by rw[Jv,Lw c]
 have d:XE (m+n) s=XE m s:=by rw[Jv,Lw a]
 rw[<-b,<-d,Nat.add_comm]
theorem SE{x:Tm}{fuel c:Nat}{v:YK}(h:KX x)(hz:x.tsz<=100)(b:fuel<=100)(g:NO (MX x fuel) ⟨[],[v],c,fuel,Yl⟩):X9 x fuel=XM v:=by
 obtain⟨n,a⟩:=g;have hd:(XE n (MX x fuel)).done:=.inr (by have:=a.ts.symm;exact PM this)
 rw[Qb,QU (Pt h hz b) hd];unfold RM;rw[if_pos (show (XE n (MX x fuel)).ended.k=0 by rw[a.ended];rfl)];have d:=a.vs.symm;obtain⟨j,r,i,e,_⟩:=LU d;rw[i];exact(Sv e).symm
theorem Vx{x:Tm}{fuel:Nat}{o:Xy}(h:KX x)(hz:x.tsz<=100)(c:fuel<=100)(d:NI (MX x fuel) o):X9 x fuel=o:=by obtain⟨a,n,b⟩:=d;have hd:(XE n (MX x fuel)).done:=.inl (by rw[b];exact a);rw[Qb,QU (Pt h hz c) hd];unfold RM;rw[b,if_neg a]
theorem O2(n:Nat)(x y:Tr)(w:Zd)(hx:x.In w)(hy:y.In w)(hh:x.hgt<=n+1)(hs:x.sm)
  (ih:Zj (∀(x y:Tr)(w:Zd),x.In w->y.In w->x.hgt<=n->x.sm->Zf Y 39 #[Zb #[L M x.k,F x.a x.l.length x.c],Zb #[L M y.k,F y.a y.l.length y.c]] w fun e w'=>e=N (.bool (YC Yv x.ty y.ty))/\Zn w.heap.size w w')) :
  Zf Y 39 #[Zb #[L M x.k,F x.a x.l.length x.c],Zb #[L M y.k,F y.a y.l.length y.c]] w fun e w'=>e=N (.bool (YC Yv x.ty y.ty))/\Zn w.heap.size w w':=by
 have a4:=hs.len;obtain⟨tk,a0⟩:∃b,(x.k==y.k)=b:=⟨_,rfl⟩
 obtain⟨tl,k⟩:∃b,((x.l.length:Int)==(y.l.length:Int))=b:=⟨_,rfl⟩
 have HK:=Yx a0;have HL:=Yx k;have z:((w.alloc (O #[L M x.k,F x.a x.l.length x.c] 24)).alloc (O #[L M y.k,F y.a y.l.length y.c] 24)).cell? ⟨w.heap.size,1,D⟩=I (F x.a x.l.length x.c):=by simp[go_sem]
 have u:((w.alloc (O #[L M x.k,F x.a x.l.length x.c] 24)).alloc (O #[L M y.k,F y.a y.l.length y.c] 24)).cell? ⟨w.heap.size+1,1,D⟩=I (F y.a y.l.length y.c):=by simp[go_sem]
 have HP:=Un z u;clear z u;have l:bL w ((w.alloc (O x.v 24)).alloc (O y.v 24)):=((Zh _ _).alloc (Z _) _).alloc (by simp) _;cases tk
 .have HT:Zj ((x.k==y.k&&(x.l.length:Int)==(y.l.length:Int))=X):=by show _=X;rw[HK.out];rfl
  clear k HL HK;go_enter Zr,Zq;go_wp2_with fail;go_loopw [5,6] (fun b i wr=>b=.bool X/\i=L M 0/\wr=((w.alloc (O x.v 24)).alloc (O y.v 24))) (fun _ _ _=>0)
  case atStart=>exact⟨rfl,rfl,rfl⟩
  case round=>obtain⟨rfl,rfl,rfl⟩:=hrel;go_wp2_with fail;go_ret;exact⟨by rw[JX Yv x y rfl HT.out];rfl,l⟩
 .cases tl
  .have HT:Zj ((x.k==y.k&&(x.l.length:Int)==(y.l.length:Int))=X):=by show _=X;rw[HK.out,HL.out];rfl
   clear HL HK;go_enter Zr,Zq;go_wp2_with fail;go_loopw [5,6] (fun b i wr=>b=.bool X/\i=L M 0/\wr=((w.alloc (O x.v 24)).alloc (O y.v 24))) (fun _ _ _=>0)
   case atStart=>exact⟨rfl,rfl,rfl⟩
   case round=>obtain⟨rfl,rfl,rfl⟩:=hrel;go_wp2_with fail;go_ret;exact⟨by rw[JX Yv x y rfl HT.out];rfl,l⟩
  .have hk:Zj (x.k=y.k):=by show x.k=y.k;have h:=HK.out;simpa using h
   have hl:Zj (x.l.length=y.l.length):=by have h:=HL.out;simp at h;exact Zt h
   clear HL HK;go_enter Zr,Zq;go_wp2_with fail;clear a0 k;go_loopg [5,6] (x.l.length+1) (fun g b i wr=>∃(j:Nat)(c:Bool),j<=x.l.length/\g=(if c then x.l.length-j+1 else 0)/\b=.bool c/\i=L M (j:Int)/\bL w wr/\cL wr w.heap.size 1 (x.s)/\cL wr (w.heap.size+1) 1 (y.s)/\ Zj (c=E->∀q(h:q<x.l.length)(h':q<y.l.length),q<j->YC Yv x.l[q].ty y.l[q].ty=E)/\Zj (c=X->YC Yv x.ty y.ty=X))
   case atStart=>exact⟨0,E,Nat.zero_le _,rfl,rfl,rfl,l,HP.out.1,HP.out.2,fun _ q _ _ h=>absurd h (by omega),fun h=>by cases h⟩
   case round=>
    obtain⟨j,c,hj,hg,rfl,rfl,a,z,u,HA,HB⟩:=hrel;cases c
    .have HB1:=Yx (HB.out rfl);clear HA HB hg;go_wp2_with fail;go_ret;exact⟨by rw[HB1.out];rfl,a⟩
    .have HA1:=Yx (HA.out rfl);clear HA HB;by_cases hlt:j<x.l.length
     .have hlt':j<y.l.length:=hl.out▸hlt;obtain⟨b,o,ea,x0,x1,a3⟩:=hx.part j hlt;obtain⟨b',o',eb,y0,y1,a2⟩:=hy.part j hlt';have q1:cL wr w.heap.size 1 (F (I ⟨b,o,D⟩) x.l.length x.c):=by rw[<-ea];exact z
      have q3:cL wr (w.heap.size+1) 1 (F (I ⟨b',o',D⟩) y.l.length y.c):=by rw[<-eb];exact u
      have p:=Un z u;replace x0:=J a x0;replace x1:=J a x1;replace y0:=J a y0;replace y1:=J a y1;have i1:(j:Int)<(x.l.length:Int):=by omega
      have i2:(j:Int)<(y.l.length:Int):=by omega
      have i0:(0:Int)<=(j:Int):=by omega
      obtain⟨r,hr⟩:∃r,YC Yv x.l[j].ty y.l[j].ty=r:=⟨_,rfl⟩
      have HC:Zj (∀(w:Zd),x.l[j].In w->y.l[j].In w->Zf Y 39 #[Zb x.l[j].v,Zb y.l[j].v] w fun e w'=>e=N (.bool r)/\bL w w'):=by intro w h1 h2;have:=ih.out x.l[j] y.l[j] w h1 h2 (Tr.hgt_part hh j hlt) (hs.part j hlt);rw[hr] at this;exact this
      have HR:=Yx hr;have HG:=Yx hg;clear hr z u ea eb hx hy hg;go_wp2_with fail;go_region_held3 (fun w'=>w'.cell? ⟨w.heap.size,1,D⟩=I (F (I ⟨b,o,D⟩) x.l.length x.c)/\w'.cell? ⟨w.heap.size+1,1,D⟩=I (F (I ⟨b',o',D⟩) y.l.length y.c)/\w'.cell? ⟨b,o+j*2,D⟩=I (L M x.l[j].k)/\w'.cell? ⟨b,o+j*2+1,D⟩=I (F x.l[j].a x.l[j].l.length x.l[j].c)/\w'.cell? ⟨b',o'+j*2,D⟩=I (L M y.l[j].k)/\w'.cell? ⟨b',o'+j*2+1,D⟩=I (F y.l[j].a y.l[j].l.length y.l[j].c))
       (first|exact⟨J d q1,J d q3,J d x0,J d x1,J d y0,J d y1⟩|go_keep)
       (first|(go_at_call 39;refine(HC.out _ (a3.below a.drew) (a2.below a.drew)).mono ?_;rintro e w2 ⟨rfl,d⟩))
      have a1:=a.drew.trans (d.mono a.size);have s1:=J d p.out.1;have s3:=J d p.out.2;clear d q1 q3 x0 x1 y0 y1 HC p;go_wp2_with fail;go_roundg (if r then x.l.length-(j+1)+1 else 0)
      case measure=>rw[HG.out];cases r<;>simp<;>omega
      case rel=>
       refine⟨j+1,r,by omega,rfl,rfl,by go_num,a1,s1,s3,fun h q h1 h2 hq=>?_,fun h=>?_⟩
       .by_cases e:q=j
        .subst e;rw[HR.out,h]
        .exact HA1.out q h1 h2 (by omega)
       .exact Jr Yv x y rfl j hlt hlt' (by rw[HR.out,h])
     .go_wp2_with fail;go_ret;refine⟨?_,a⟩;rw[K3 Yv x y hk.out hl.out fun q h h'=>HA1.out q h h' (by omega)];rfl
theorem Xz(n:Nat):∀(x y:Tr)(w:Zd),x.In w->y.In w->x.hgt<=n->x.sm->Zf Y 39 #[Zb #[L M x.k,F x.a x.l.length x.c],Zb #[L M y.k,F y.a y.l.length y.c]] w fun e w'=>e=N (.bool (YC Yv x.ty y.ty))/\Zn w.heap.size w w':=by
 induction n with
 |zero=>intro x y w _ _ h;have:=x.hgt_pos;omega
 |succ n ih=>intro x y w c a h b;exact O2 n x y w c a h b (fun x y w c a h b=>ih x y w c a h b)
theorem Tr.right.part{t:Tr}(h:t.right)(j:Nat)(b:j<t.l.length):t.l[j].right:=by obtain⟨k,a,c,l⟩:=t;exact(Tr.right_mk.1 h).2 _ (Zi b)
theorem Tr.right.kinds{t:Tr}(h:t.right):0<=t.k/\t.k<=3:=by rcases h.cases with⟨_,a⟩|⟨_,_,_,a,_⟩<;>omega
theorem B4(a b:Int)(e:0<=a)(g:a<=3)(d:0<=b)(c:b<=3):(wrap64 (a*b)==0)=Yk a b:=by
 obtain rfl|rfl|rfl|rfl:a=0\/a=1\/a=2\/a=3:=by omega
 all_goals
  obtain rfl|rfl|rfl|rfl:b=0\/b=1\/b=2\/b=3:=by omega
  all_goals simp[wrap64,Yk]
theorem RI(n:Nat)(x y:Tr)(w:Zd)(hx:x.In w)(hy:y.In w)(hh:x.hgt<=n+1)(hs:x.sm)(rx:x.right)(ry:y.right)(hm:(wrap64 (x.k*y.k)==0)=X)(he:Zj (Yk x.k y.k=X))
  (ih:Zj (∀(x y:Tr)(w:Zd),x.In w->y.In w->x.hgt<=n->x.sm->x.right->y.right->Zf Y 91 #[Zb #[L M x.k,F x.a x.l.length x.c],Zb #[L M y.k,F y.a y.l.length y.c]] w fun e w'=>e=N (.bool (YC Yk x.ty y.ty))/\Zn w.heap.size w w')) :
  Zf Y 91 #[Zb #[L M x.k,F x.a x.l.length x.c],Zb #[L M y.k,F y.a y.l.length y.c]] w fun e w'=>e=N (.bool (YC Yk x.ty y.ty))/\Zn w.heap.size w w':=by
 have a4:=hs.len;obtain⟨tk,a0⟩:∃b,(x.k==y.k)=b:=⟨_,rfl⟩
 obtain⟨tl,k⟩:∃b,((x.l.length:Int)==(y.l.length:Int))=b:=⟨_,rfl⟩
 have HK:=Yx a0;have HL:=Yx k;have z:((w.alloc (O #[L M x.k,F x.a x.l.length x.c] 24)).alloc (O #[L M y.k,F y.a y.l.length y.c] 24)).cell? ⟨w.heap.size,1,D⟩=I (F x.a x.l.length x.c):=by simp[go_sem]
 have u:((w.alloc (O #[L M x.k,F x.a x.l.length x.c] 24)).alloc (O #[L M y.k,F y.a y.l.length y.c] 24)).cell? ⟨w.heap.size+1,1,D⟩=I (F y.a y.l.length y.c):=by simp[go_sem]
 have HP:=Un z u;clear z u;have l:bL w ((w.alloc (O x.v 24)).alloc (O y.v 24)):=((Zh _ _).alloc (Z _) _).alloc (by simp) _;cases tk
 .have HT:Zj ((x.k==y.k&&(x.l.length:Int)==(y.l.length:Int))=X):=by show _=X;rw[HK.out];rfl
  clear k HL HK;go_enter Zp,Zl;go_wp2_with fail;go_loopw [5,6] (fun b i wr=>b=.bool X/\i=L M 0/\wr=((w.alloc (O x.v 24)).alloc (O y.v 24))) (fun _ _ _=>0)
  case atStart=>exact⟨rfl,rfl,rfl⟩
  case round=>obtain⟨rfl,rfl,rfl⟩:=hrel;go_wp2_with fail;go_ret;exact⟨by rw[JX Yk x y he.out HT.out];rfl,l⟩
 .cases tl
  .have HT:Zj ((x.k==y.k&&(x.l.length:Int)==(y.l.length:Int))=X):=by show _=X;rw[HK.out,HL.out];rfl
   clear HL HK;go_enter Zp,Zl;go_wp2_with fail;go_loopw [5,6] (fun b i wr=>b=.bool X/\i=L M 0/\wr=((w.alloc (O x.v 24)).alloc (O y.v 24))) (fun _ _ _=>0)
   case atStart=>exact⟨rfl,rfl,rfl⟩
   case round=>obtain⟨rfl,rfl,rfl⟩:=hrel;go_wp2_with fail;go_ret;exact⟨by rw[JX Yk x y he.out HT.out];rfl,l⟩
  .have hk:Zj (x.k=y.k):=by show x.k=y.k;have h:=HK.out;simpa using h
   have hl:Zj (x.l.length=y.l.length):=by have h:=HL.out;simp at h;exact Zt h
   clear HL HK;go_enter Zp,Zl;go_wp2_with fail;clear a0 k;go_loopg [5,6] (x.l.length+1) (fun g b i wr=>∃(j:Nat)(c:Bool),j<=x.l.length/\g=(if c then x.l.length-j+1 else 0)/\b=.bool c/\i=L M (j:Int)/\bL w wr/\cL wr w.heap.size 1 (x.s)/\cL wr (w.heap.size+1) 1 (y.s)/\ Zj (c=E->∀q(h:q<x.l.length)(h':q<y.l.length),q<j->YC Yk x.l[q].ty y.l[q].ty=E)/\Zj (c=X->YC Yk x.ty y.ty=X))
   case atStart=>exact⟨0,E,Nat.zero_le _,rfl,rfl,rfl,l,HP.out.1,HP.out.2,fun _ q _ _ h=>absurd h (by omega),fun h=>by cases h⟩
   case round=>
    obtain⟨j,c,hj,hg,rfl,rfl,a,z,u,HA,HB⟩:=hrel;cases c
    .have HB1:=Yx (HB.out rfl);clear HA HB hg;go_wp2_with fail;go_ret;exact⟨by rw[HB1.out];rfl,a⟩
    .have HA1:=Yx (HA.out rfl);clear HA HB;by_cases hlt:j<x.l.length
     .have hlt':j<y.l.length:=hl.out▸hlt;obtain⟨b,o,ea,x0,x1,a3⟩:=hx.part j hlt;obtain⟨b',o',eb,y0,y1,a2⟩:=hy.part j hlt';have q1:cL wr w.heap.size 1 (F (I ⟨b,o,D⟩) x.l.length x.c):=by rw[<-ea];exact z
      have q3:cL wr (w.heap.size+1) 1 (F (I ⟨b',o',D⟩) y.l.length y.c):=by rw[<-eb];exact u
      have p:=Un z u;replace x0:=J a x0;replace x1:=J a x1;replace y0:=J a y0;replace y1:=J a y1;have i1:(j:Int)<(x.l.length:Int):=by omega
      have i2:(j:Int)<(y.l.length:Int):=by omega
      have i0:(0:Int)<=(j:Int):=by omega
      obtain⟨r,hr⟩:∃r,YC Yk x.l[j].ty y.l[j].ty=r:=⟨_,rfl⟩
      have HC:Zj (∀(w:Zd),x.l[j].In w->y.l[j].In w->Zf Y 91 #[Zb x.l[j].v,Zb y.l[j].v] w fun e w'=>e=N (.bool r)/\bL w w'):=by intro w h1 h2;have:=ih.out x.l[j] y.l[j] w h1 h2 (Tr.hgt_part hh j hlt) (hs.part j hlt) (rx.part j hlt) (ry.part j hlt');rw[hr] at this;exact this
      have HR:=Yx hr;have HG:=Yx hg;clear hr z u ea eb hx hy hg;go_wp2_with fail;go_region_held3 (fun w'=>w'.cell? ⟨w.heap.size,1,D⟩=I (F (I ⟨b,o,D⟩) x.l.length x.c)/\w'.cell? ⟨w.heap.size+1,1,D⟩=I (F (I ⟨b',o',D⟩) y.l.length y.c)/\w'.cell? ⟨b,o+j*2,D⟩=I (L M x.l[j].k)/\w'.cell? ⟨b,o+j*2+1,D⟩=I (F x.l[j].a x.l[j].l.length x.l[j].c)/\w'.cell? ⟨b',o'+j*2,D⟩=I (L M y.l[j].k)/\w'.cell? ⟨b',o'+j*2+1,D⟩=I (F y.l[j].a y.l[j].l.length y.l[j].c))
       (first|exact⟨J d q1,J d q3,J d x0,J d x1,J d y0,J d y1⟩|go_keep)
       (first|(go_at_call 91;refine(HC.out _ (a3.below a.drew) (a2.below a.drew)).mono ?_;rintro e w2 ⟨rfl,d⟩))
      have a1:=a.drew.trans (d.mono a.size);have s1:=J d p.out.1;have s3:=J d p.out.2;clear d q1 q3 x0 x1 y0 y1 HC p;go_wp2_with fail;go_roundg (if r then x.l.length-(j+1)+1 else 0)
      case measure=>rw[HG.out];cases r<;>simp<;>omega
      case rel=>
       refine⟨j+1,r,by omega,rfl,rfl,by go_num,a1,s1,s3,fun h q h1 h2 hq=>?_,fun h=>?_⟩
       .by_cases e:q=j
        .subst e;rw[HR.out,h]
        .exact HA1.out q h1 h2 (by omega)
       .exact Jr Yk x y he.out j hlt hlt' (by rw[HR.out,h])
     .go_wp2_with fail;go_ret;refine⟨?_,a⟩;rw[K3 Yk x y hk.out hl.out fun q h h'=>HA1.out q h h' (by omega)];rfl
theorem To(x y:Tr)(w:Zd)(a:(wrap64 (x.k*y.k)==0)=E):
  Zf Y 91 #[Zb #[L M x.k,F x.a x.l.length x.c],Zb #[L M y.k,F y.a y.l.length y.c]] w fun e w'=>e=N (.bool E)/\Zn w.heap.size w w':=by
 go_enter Zp,Zl;go_wp2_with fail;go_ret;exact⟨rfl,((Zh _ _).alloc (Z _) _).alloc (by simp) _⟩
theorem Uw(n:Nat):∀(x y:Tr)(w:Zd),x.In w->y.In w->x.hgt<=n->x.sm->x.right->y.right->Zf Y 91 #[Zb #[L M x.k,F x.a x.l.length x.c],Zb #[L M y.k,F y.a y.l.length y.c]] w fun e w'=>e=N (.bool (YC Yk x.ty y.ty))/\Zn w.heap.size w w':=by
 induction n with
 |zero=>intro x y w _ _ h;have:=x.hgt_pos;omega
 |succ n ih=>
  intro x y w g c h d a b;obtain⟨k,o⟩:=a.kinds;obtain⟨l,j⟩:=b.kinds;have i:=B4 x.k y.k k o l j;cases he:Yk x.k y.k with
  |true=>rw[Oc Yk x y he];exact To x y w (by rw[i];exact he)
  |false=>exact RI n x y w g c h d a b (by rw[i];exact he) he (fun x y w g c h d a b=>ih x y w g c h d a b)
end Go.Proofs.YtnddkmccagiclabGreatDoor
