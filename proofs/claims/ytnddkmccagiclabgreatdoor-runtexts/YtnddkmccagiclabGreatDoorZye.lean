import Derived.Test.YtnddkmccagiclabGreatDoorZyd
set_option maxRecDepth 20000
set_option maxHeartbeats 16000000
open Go.RowKit
open Bool renaming true→C,and_eq_true→K,false→L
open Option renaming some→D,none→I
open List renaming map_cons→J,getElem?_eq_getElem→N,getElem_mem→O,sizeOf_lt_of_mem→P
open Option.some renaming inj→M
open Nat renaming le_refl→R
open List.cons renaming inj→Y
namespace Go.Proofs.YtnddkmccagiclabGreatDoor
variable {A B S T f0 f1 i t0 t1:Ty}{o r r2 w:XG}{k:Int}{E e e' vs:List YJ}{a a' d g g':Option Ca}{h:Bool}{b x:Tm}{F c c' c2:Nat}{U V V' V2 X f' v':YJ}{G:List Ty}{s':St}{t':XB}{ts:List XB}
def Jg:Ty:=⟨1,[]⟩
def Xs:Ty:=⟨2,[]⟩
def YM(a b:Ty):Ty:=⟨3,[a,b]⟩
def gr(k:Int):Ty:=if k=3 then YM Yk Yk else ⟨k,[]⟩
theorem LG:∀a b:Ty,YD YA a b=C->a=b:=by
 intro a;induction a using Ty.ind with
 |h k l ih=>
  intro b h;obtain⟨g,l'⟩:=b;rw[Y0] at h;simp only[YA,Bool.false_or,K,beq_iff_eq] at h;obtain⟨rfl,d⟩:=h;have:∀(l l':List Ty),(∀t,t∈l->∀b,YD YA t b=C->t=b)->Uu YA l l'=C->l=l':=by
   intro l;induction l with
   |nil=>intro l' _ h;cases l' with
    |nil=>rfl
    |cons _ _=>simp[Uu] at h
   |cons x r ihr=>
    intro l' c h;cases l' with
    |nil=>simp[Uu] at h
    |cons y s=>simp only[Uu,K] at h;rw[c x (by simp) y h.1,ihr s (fun t e=>c t (by simp[e])) h.2]
  rw[this l l' ih d]
theorem Kk:∀a:Ty,YD YA a a=C:=by
 intro a;induction a using Ty.ind with
 |h k l ih=>
  rw[Y0];simp only[YA,Bool.false_or,beq_self_eq_true,Bool.true_and];induction l with
  |nil=>rfl
  |cons x r ihr=>simp only[Uu,ih x (by simp),ihr fun t b=>ih t (by simp[b]),Bool.and_self]
def UU:Option Ca->Ty->Ty->Prop
 |none,S,T=>S=T
 |some ⟨o,w,k,e,g,a,h⟩,S,T=>(k=1\/k=2\/k=3)/\∃S' T':Ty,((o=C/\S=Yk/\S'=gr k/\w.k=4)\/(o=L/\S=S'))/\((k≠3/\S'=⟨k,[]⟩)\/(k=3/\∃s1 s2,S'=YM s1 s2))/\ (e.k=4\/(e.k=0/\((h=C/\T=Yk/\T'=gr k)\/(h=L/\T=T'))/\((k≠3/\T'=⟨k,[]⟩/\g=I/\a=I)\/(k=3/\∃s1 s2 t1 t2,S'=YM s1 s2/\T'=YM t1 t2/\UU g t1 s1/\UU a s2 t2))))
 termination_by c=>SizeOf.sizeOf c
 decreasing_by
  .simp;omega
  .simp;omega
theorem XS:UU I S T↔S=T:=by rw[UU]
theorem Xg{o:Bool}{e:XG}:UU (D ⟨o,w,k,e,g,a,h⟩) S T↔(k=1\/k=2\/k=3)/\∃S' T':Ty,((o=C/\S=Yk/\S'=gr k/\w.k=4)\/(o=L/\S=S'))/\((k≠3/\S'=⟨k,[]⟩)\/(k=3/\∃s1 s2,S'=YM s1 s2))/\
  (e.k=4\/(e.k=0/\((h=C/\T=Yk/\T'=gr k)\/(h=L/\T=T'))/\((k≠3/\T'=⟨k,[]⟩/\g=I/\a=I)\/(k=3/\∃s1 s2 t1 t2,S'=YM s1 s2/\T'=YM t1 t2/\UU g t1 s1/\UU a s2 t2)))):=by
 rw[UU]
theorem U5{a b c d:Ty}(h:YM a b=YM c d):a=c/\b=d:=by simpa[YM] using h
theorem Ni(h:(k≠3/\S=⟨k,[]⟩)\/(k=3/\∃s1 s2,S=YM s1 s2)):S.k=k:=by rcases h with⟨_,rfl⟩|⟨rfl,s1,s2,rfl⟩<;>rfl
theorem MK(h:(k≠3/\T=⟨k,[]⟩/\g=I/\a=I)\/(k=3/\∃s1 s2 t1 t2,S=YM s1 s2/\T=YM t1 t2/\UU g t1 s1/\UU a s2 t2)):T.k=k:=by rcases h with⟨_,rfl,_⟩|⟨rfl,s1,s2,t1,t2,_,rfl,_⟩<;>rfl
theorem Pj:∀(n:Nat)(c d:Option Ca)(S T U:Ty),SizeOf.sizeOf c+SizeOf.sizeOf d<=n->UU c S T->UU d T U->UU (YH c d) S U
 |0,c,d,_,_,_,h,_,_=>by cases c<;>simp at h
 |n+1,I,d,S,T,U,_,h1,h2=>by rw[Xw,XS.1 h1];exact h2
 |n+1,D c,I,S,T,U,_,h1,h2=>by rw[XI,<-XS.1 h2];exact h1
 |n+1,D ⟨o,w,k,e,g,a,h⟩,D ⟨o',w',k',e',g',a',h'⟩,S,T,U,hn,h1,h2=>by
  simp at hn;obtain⟨hk,S1,T1,hS,hS1,he⟩:=Xg.1 h1;obtain⟨hk',S2,T2,hT,hS2,he'⟩:=Xg.1 h2;rw[Xe];rcases he with he|⟨he,hT1,hp⟩
  .rw[if_neg (by omega)];exact Xg.2 ⟨hk,S1,T1,hS,hS1,.inl he⟩
  .rw[if_pos he];have a1:=Ni hS2;have a2:=MK hp;by_cases hkk:k'=k
   .rw[if_pos hkk];refine Xg.2 ⟨hk,S1,T2,hS,hS1,?_⟩;rcases he' with he'|⟨he',hU,hp'⟩
    .exact .inl he'
    .refine .inr ⟨he',?_,?_⟩
     .rcases hU with⟨x1,x2,x3⟩|x
      .exact .inl ⟨x1,x2,by rw[x3,hkk]⟩
      .exact .inr x
     .have e12:T1=S2:=by
       rcases hT1 with⟨_,b,i⟩|⟨_,b⟩<;>rcases hT with⟨_,s1,s2,_⟩|⟨_,s1⟩
       .rw[i,s2,hkk]
       .exfalso;rw[<-s1,b] at a1;simp[Yk] at a1;omega
       .exfalso;rw[<-b,s1] at a2;simp[Yk] at a2;omega
       .rw[<-b,s1]
      rcases hp' with⟨p,j,rfl,rfl⟩|⟨p,s1,s2,b,i,j,q,m,r⟩
      .rcases hp with⟨p1,p2,rfl,rfl⟩|⟨p1,_⟩
       .exact .inl ⟨p1,by rw[j,hkk],by rw[Xw],by rw[Xw]⟩
       .omega
      .rcases hp with⟨p1,_⟩|⟨p1,u1,u2,v1,v2,p2,p3,p4,p5⟩
       .omega
       .have:YM v1 v2=YM s1 s2:=by rw[<-p3,<-j,e12]
        obtain⟨rfl,rfl⟩:=U5 this;exact .inr ⟨p1,u1,u2,b,i,p2,q,Pj n g' g _ _ _ (by omega) m p4,Pj n a a' _ _ _ (by omega) p5 r⟩
   .rw[if_neg hkk];refine Xg.2 ⟨hk,S1,T1,hS,hS1,.inl ?_⟩;rcases hT with⟨_,_,_,l⟩|⟨_,s1⟩
    .exact l
    .exfalso;rcases hT1 with⟨_,b,_⟩|⟨_,b⟩
     .rw[<-s1,b] at a1;simp[Yk] at a1;omega
     .rw[<-b,s1] at a2;omega
theorem UF{c:Option Ca}{U:Ty}(h1:UU c S T)(h2:UU d T U):UU (YH c d) S U:=Pj _ c d S T U (R _) h1 h2
theorem MO{a b:Ty}(h:YD Yl a b=C)(c:a.k≠0)(d:b.k≠0):a.k=b.k:=by
 cases a;cases b
 rw[Y0] at h;simp only[Yl,Bool.or_eq_true,K,beq_iff_eq] at h;simp only at c d ⊢;omega
theorem MB:∀(m n:Nat)(f t:Ty)(o:XG),Ym n f=C->Ym n t=C->YD Yl f t=C->o.k=4->2*n+(if f.k=0\/t.k=0 then 1 else 0)<=m->UU (Y7 m f t o) f t
 |0,0,f,t,o,hf,_,_,_,_=>by simp[Ym] at hf
 |0,n+1,f,t,o,_,_,_,_,hm=>by omega
 |m+1,0,f,t,o,hf,_,_,_,_=>by simp[Ym] at hf
 |m+1,n+1,f,t,o,hf,ht,hfit,ho,hm=>by
  rw[Y7];by_cases hs:YD YA f t=C
  .rw[if_pos hs,XS];exact LG f t hs
  rw[if_neg hs];have hne:f≠t:=fun e=>hs (by rw[e];exact Kk t);rcases Yz hf with⟨k,rfl,hk⟩|⟨f1,f2,rfl,gf1,gf2⟩<;>rcases Yz ht with⟨k',rfl,hk'⟩|⟨t1,t2,rfl,gt1,gt2⟩
  .have h3:¬((Ty.mk k []).k=3/\(Ty.mk k' []).k=3):=by simp only;omega
   rw[if_neg h3];have a1:k≠k':=fun e=>hne (by rw[e]);have a0:k=0\/k'=0:=by have:=MO hfit;simp only at this;omega
   simp only;split
   .rename_i h0;have p:Yt (Ty.mk k [])=⟨k,[]⟩:=by simp only[Yt];rw[if_neg (by omega)]
    have x:Y7 m ⟨k,[]⟩ ⟨k,[]⟩ o=I:=by
     cases m with
     |zero=>rfl
     |succ m=>rw[Y7,if_pos (Kk _)]
    rw[p,x];refine Xg.2 ⟨by simp only[YZ];omega,⟨k,[]⟩,gr k,.inr ⟨rfl,rfl⟩,.inl ⟨by simp only[YZ];omega,rfl⟩,.inr ⟨rfl,.inl ⟨rfl,by rw[h0];rfl,rfl⟩,.inl ⟨by simp only[YZ];omega,?_,rfl,rfl⟩⟩⟩;simp only[gr,YZ];rw[if_neg (by omega)]
   .rename_i h0;have b:k=0:=by omega
    subst b;rw[if_pos rfl];have p:Yt (Ty.mk k' [])=⟨k',[]⟩:=by simp only[Yt];rw[if_neg (by omega)]
    have x:Y7 m ⟨k',[]⟩ ⟨k',[]⟩ o=I:=by
     cases m with
     |zero=>rfl
     |succ m=>rw[Y7,if_pos (Kk _)]
    rw[p,x];refine Xg.2 ⟨by simp only[YZ];omega,gr k',⟨k',[]⟩,.inl ⟨rfl,rfl,rfl,ho⟩,.inl ⟨by simp only[YZ];omega,?_⟩,.inr ⟨rfl,.inr ⟨rfl,rfl⟩,.inl ⟨by simp only[YZ];omega,rfl,rfl,rfl⟩⟩⟩;simp only[gr,YZ];rw[if_neg (by omega)]
  .have h3:¬((Ty.mk k []).k=3/\(Ty.mk 3 [t1,t2]).k=3):=by simp only;omega
   rw[if_neg h3];have b:k=0:=by have:=MO hfit;simp only at this;omega
   subst b;simp only;rw[if_neg (by omega),if_pos trivial];have p:Yt (Ty.mk 3 [t1,t2])=YM Yk Yk:=rfl;rw[p];have r:Ym (n+1) (YM Yk Yk)=C:=by
    cases n with
    |zero=>simp[Ym] at gt1
    |succ n=>simp[Ym,YM,Yk]
   have j:=MB m (n+1) (YM Yk Yk) ⟨3,[t1,t2]⟩ o r ht (by rw[YM,Sl _ _ _ _ _ rfl,Yk,NW,NW];rfl) ho (by simp[YM] at hm ⊢;omega);cases hc:Y7 m (YM Yk Yk) ⟨3,[t1,t2]⟩ o with
   |none=>rw[hc] at j;have:=XS.1 j;refine Xg.2 ⟨.inr (.inr rfl),gr 3,⟨3,[t1,t2]⟩,.inl ⟨rfl,rfl,rfl,ho⟩,.inr ⟨rfl,Yk,Yk,rfl⟩,.inr ⟨rfl,.inr ⟨rfl,rfl⟩,.inr ⟨rfl,Yk,Yk,Yk,Yk,rfl,this.symm,XS.2 rfl,XS.2 rfl⟩⟩⟩
   |some c=>
    rw[hc] at j;obtain⟨oo,w,k,e,g,a,h⟩:=c;obtain⟨hk,u,y,hS,d,q⟩:=Xg.1 j;have i:u=YM Yk Yk:=by
     rcases hS with⟨_,h,_⟩|⟨_,h⟩
     .simp[YM,Yk] at h
     .exact h.symm
    have l:k=3:=by
     rcases d with⟨_,h⟩|⟨h,_⟩
     .rw[i] at h;simp[YM] at h
     .exact h
    subst l;exact Xg.2 ⟨hk,u,y,.inl ⟨rfl,rfl,by rw[i];rfl,ho⟩,d,q⟩
  .have h3:¬((Ty.mk 3 [f1,f2]).k=3/\(Ty.mk k' []).k=3):=by simp only;omega
   rw[if_neg h3];have b:k'=0:=by have:=MO hfit;simp only at this;omega
   subst b;simp only;rw[if_pos trivial];have p:Yt (Ty.mk 3 [f1,f2])=YM Yk Yk:=rfl;rw[p];have r:Ym (n+1) (YM Yk Yk)=C:=by
    cases n with
    |zero=>simp[Ym] at gf1
    |succ n=>simp[Ym,YM,Yk]
   have j:=MB m (n+1) ⟨3,[f1,f2]⟩ (YM Yk Yk) o hf r (by rw[YM,Sl _ _ _ _ _ rfl,Yk,Lu,Lu];rfl) ho (by simp[YM] at hm ⊢;omega);cases hc:Y7 m ⟨3,[f1,f2]⟩ (YM Yk Yk) o with
   |none=>rw[hc] at j;have:=XS.1 j;refine Xg.2 ⟨.inr (.inr rfl),⟨3,[f1,f2]⟩,gr 3,.inr ⟨rfl,rfl⟩,.inr ⟨rfl,f1,f2,rfl⟩,.inr ⟨rfl,.inl ⟨rfl,rfl,rfl⟩,.inr ⟨rfl,Yk,Yk,Yk,Yk,this,rfl,XS.2 rfl,XS.2 rfl⟩⟩⟩
   |some c=>
    rw[hc] at j;obtain⟨oo,w,k,e,g,a,h⟩:=c;obtain⟨hk,u,y,hS,d,q⟩:=Xg.1 j;have i:u=⟨3,[f1,f2]⟩:=by
     rcases hS with⟨_,h,_⟩|⟨_,h⟩
     .simp[Yk] at h
     .exact h.symm
    have l:k=3:=by
     rcases d with⟨_,h⟩|⟨h,_⟩
     .rw[i] at h;simp at h
     .exact h
    subst l;refine Xg.2 ⟨hk,u,YM Yk Yk,hS,d,?_⟩;rcases q with q|⟨q,hT,z⟩
    .exact .inl q
    .have hT':y=YM Yk Yk:=by
      rcases hT with⟨_,h,_⟩|⟨_,h⟩
      .simp[YM,Yk] at h
      .exact h.symm
     refine .inr ⟨q,.inl ⟨rfl,rfl,rfl⟩,?_⟩;rw[hT'] at z;exact z
  .rw[if_pos ⟨rfl,rfl⟩];rw[Sl _ _ _ _ _ rfl,K] at hfit;refine Xg.2 ⟨.inr (.inr rfl),⟨3,[f1,f2]⟩,⟨3,[t1,t2]⟩,.inr ⟨rfl,rfl⟩,.inr ⟨rfl,f1,f2,rfl⟩,.inr ⟨rfl,.inr ⟨rfl,rfl⟩,.inr ⟨rfl,f1,f2,t1,t2,rfl,rfl,?_,?_⟩⟩⟩
   .exact MB m n t1 f1 _ gt1 gf1 (by rw[Lr n t1 f1 gt1 gf1];exact hfit.1) ho (by split<;>(simp at hm;omega))
   .exact MB m n f2 t2 _ gf2 gt2 hfit.2 ho (by split<;>(simp at hm;omega))
def SO(k n:Int)(t f:Ty)(ps G:List Ty)(i:Ty):Prop:=
 (k=1/\ps=[]/\G[n.toNat]?=D i)\/(k=2/\ps=[]/\i=Jg)\/(k=3/\ps=[]/\i=Xs)\/(k=4/\ps=[Jg,Jg]/\i=Jg)\/(k=5/\ps=[Jg,Jg]/\i=Xs)\/(k=6/\ps=[Xs,i,i])\/
 (k=7/\∃b,ps=[b]/\i=YM t b)\/(k=8/\∃a,ps=[YM a i,a])\/(k=9/\ps=[t]/\i=t)\/(k=10/\ps=[f]/\i=t/\YD Yl f t=C/\Ym 46 f=C/\Ym 46 t=C)
def M7:Tm->List Ty->Ty->Prop
 |⟨k,n,t,f,l⟩,G,i=>∃ps:List Ty,l.length=ps.length/\(∀j(h:j<l.length)(h':j<ps.length),M7 l[j] (if k=7 then t::G else G) ps[j])/\SO k n t f ps G i
 termination_by x=>SizeOf.sizeOf x
 decreasing_by
  have:=P (O h);simp;omega
theorem Vz{n:Int}{t f:Ty}{l:List Tm}:M7 ⟨k,n,t,f,l⟩ G i↔∃ps:List Ty,l.length=ps.length/\(∀j(h:j<l.length)(h':j<ps.length),M7 l[j] (if k=7 then t::G else G) ps[j])/\SO k n t f ps G i:=by rw[M7]
theorem Jz(h:M7 x G i):∃ps:List Ty,x.l.length=ps.length/\(∀j(h':j<ps.length),M7 (x.at j) (if x.k=7 then x.t::G else G) ps[j])/\SO x.k x.n x.t x.f ps G i:=by obtain⟨k,n,t,f,l⟩:=x;obtain⟨ps,b,a,c⟩:=Vz.1 h;refine⟨ps,b,fun j h'=>?_,c⟩;rw[Tm.ql (x:=⟨k,n,t,f,l⟩) (by simp only;omega)];exact a j (by omega) h'
def UJ:YJ->Ty->Prop
 |⟨k,_,b,e,i,g,a,s⟩,T=>(k=1/\T=Jg)\/(k=2/\T=Xs)\/ (k=3/\∃A B G,T=YM A B/\M7 b (A::G) B/\e.length=G.length/\∀j(h:j<e.length)(h':j<G.length),UJ e[j] G[j])\/
  (k=4/\∃v A0 B0 A B,T=YM A B/\v.k=3/\(∃h:i=[v],UJ v (YM A0 B0))/\UU g A A0/\UU a B0 B)\/
  (k=5/\T=Yk/\(s=1\/s=2\/s=3)/\∃v,∃h:i=[v],UJ v (gr s))
 termination_by v=>SizeOf.sizeOf v
 decreasing_by
  .have:=P (O h);simp;omega
  .subst h;simp;omega
  .subst h;simp;omega
theorem L3{n:Int}{i:List YJ}{s:Int}:UJ ⟨k,n,b,e,i,g,a,s⟩ T↔(k=1/\T=Jg)\/(k=2/\T=Xs)\/
  (k=3/\∃A B G,T=YM A B/\M7 b (A::G) B/\e.length=G.length/\∀j(h:j<e.length)(h':j<G.length),UJ e[j] G[j])\/
  (k=4/\∃v A0 B0 A B,T=YM A B/\v.k=3/\(∃_h:i=[v],UJ v (YM A0 B0))/\UU g A A0/\UU a B0 B)\/
  (k=5/\T=Yk/\(s=1\/s=2\/s=3)/\∃v,∃_h:i=[v],UJ v (gr s)):=by
 rw[UJ]
def FE(e:List YJ)(G:List Ty):Prop:=e.length=G.length/\∀j(h:j<e.length)(h':j<G.length),UJ e[j] G[j]
theorem E9(h:FE e G){j:Nat}(c:G[j]?=D T):∃v,e[j]?=D v/\UJ v T:=by
 obtain⟨a,rfl⟩:=List.getElem?_eq_some_iff.1 c;have b:j<e.length:=by rw[h.1];exact a
 exact⟨e[j],N b,h.2 j b a⟩
theorem RD{v:YJ}(h:UJ v Yk):v.k=5/\(v.az=1\/v.az=2\/v.az=3)/\v.inn=[v.core]/\UJ v.core (gr v.az):=by
 cases v
 rcases L3.1 h with⟨_,h⟩|⟨_,h⟩|⟨_,A,B,G,h,_⟩|⟨_,v,e,d,A,B,h,_⟩|⟨a,_,c,v,rfl,b⟩
 .exfalso;simp[Jg,Yk] at h
 .exfalso;simp[Xs,Yk] at h
 .exfalso;simp[YM,Yk] at h
 .exfalso;simp[YM,Yk] at h
 .exact⟨a,c,rfl,b⟩
theorem KK{v:YJ}(h:UJ v (YM A B)):(v.k=3/\∃G,M7 v.body (A::G) B/\FE v.env G)\/(v.k=4/\v.inn=[v.core]/\v.core.k=3/\∃A0 B0,UJ v.core (YM A0 B0)/\UU v.given A A0/\UU v.answer B0 B):=by
 cases v
 rcases L3.1 h with⟨_,h⟩|⟨_,h⟩|⟨a,g,d,G,h,k,c⟩|⟨a,v,A0,B0,g,d,b,e,⟨rfl,i⟩,j,l⟩|⟨_,h,_⟩
 .exfalso;simp[Jg,YM] at h
 .exfalso;simp[Xs,YM] at h
 .obtain⟨rfl,rfl⟩:=U5 h;exact .inl ⟨a,G,k,c⟩
 .obtain⟨rfl,rfl⟩:=U5 b;exact .inr ⟨a,rfl,e,A0,B0,i,j,l⟩
 .exfalso;simp[Yk,YM] at h
theorem N1(n:Int):UJ (XP n) Jg:=L3.2 (.inl ⟨rfl,rfl⟩)
theorem L2(n:Int):UJ (Xp n) Xs:=L3.2 (.inr (.inl ⟨rfl,rfl⟩))
theorem QR(h:M7 b (A::G) B)(he:FE e G):UJ (NM b e) (YM A B):=L3.2 (.inr (.inr (.inl ⟨rfl,A,B,G,rfl,h,he⟩)))
theorem Ph{v:YJ}{A0 B0:Ty}(h3:v.k=3)(hv:UJ v (YM A0 B0))(hg:UU g A A0)(ha:UU a B0 B):UJ (KF v g a) (YM A B):=L3.2 (.inr (.inr (.inr (.inl ⟨rfl,v,A0,B0,A,B,rfl,h3,⟨rfl,hv⟩,hg,ha⟩))))
theorem Oy{v:YJ}(hk:k=1\/k=2\/k=3)(hv:UJ v (gr k)):UJ (XX v k) Yk:=L3.2 (.inr (.inr (.inr (.inr ⟨rfl,rfl,hk,v,rfl,hv⟩))))
theorem Pi{f:YJ}{c:Ca}{s1 s2 t2:Ty}(h:UJ f (YM s1 s2))(d:UU c.given t1 s1)(b:UU c.answer s2 t2):UJ (Un f c) (YM t1 t2):=by
 unfold Un;rcases KK h with⟨a,_⟩|⟨a,_,j,l,k,g,e,i⟩
 .rw[if_neg (by omega)];exact Ph a h d b
 .rw[if_pos a];exact Ph j g (UF d e) (UF i b)
theorem BP{s:St}{c:Option Ca}{v:YJ}{S T:Ty}(hc:UU c S T)(hv:UJ v S):(∃u,Xz s c v=s.push u/\UJ u T)\/∃o:XG,Xz s c v=s.stop o/\o.k=4:=by
 cases c with
 |none=>rw[XS.1 hc] at hv;exact .inl ⟨v,rfl,hv⟩
 |some c=>
  obtain⟨o,w,k,e,g,a,h⟩:=c;obtain⟨hk,S1,T1,hS,p,i⟩:=Xg.1 hc;have m:(∃o',Xz s (D ⟨o,w,k,e,g,a,h⟩) v=s.stop o'/\o'.k=4)\/((o=C->v.k=5/\v.az=k)/\UJ (if o=C then v.core else v) S1):=by
   rcases hS with⟨rfl,rfl,rfl,z⟩|⟨rfl,rfl⟩
   .obtain⟨k5,has,_,hcore⟩:=RD hv;by_cases hak:v.az=k
    .right;refine⟨fun _=>⟨k5,hak⟩,?_⟩;rw[if_pos rfl,<-hak];exact hcore
    .left;refine⟨w,?_,z⟩;simp only[Xz];rw[if_neg (fun h=>h.2 k5),if_pos ⟨by trivial,hak⟩]
   .right;exact⟨fun h=>(by cases h),by simpa using hv⟩
  rcases m with m|⟨b,d⟩
  .exact .inr m
  have e1:Xz s (D ⟨o,w,k,e,g,a,h⟩) v=if e.k≠0 then s.stop e else s.push (OE ⟨o,w,k,e,g,a,h⟩ v):=by simp only[Xz];rw[if_neg (fun h=>h.2 (b h.1).1),if_neg (fun h=>h.2 (b h.1).2)]
  rw[e1];rcases i with i|⟨i,hT,hp⟩
  .right;exact⟨e,by rw[if_pos (by omega)],i⟩
  .left;refine⟨_,by rw[if_neg (by omega)],?_⟩;have q:UJ (if g.isSome=C\/a.isSome=C then Un (if o=C then v.core else v) ⟨o,w,k,e,g,a,h⟩ else (if o=C then v.core else v)) T1:=by
    rcases hp with⟨k3,rfl,rfl,rfl⟩|⟨rfl,s1,s2,t1,t2,rfl,rfl,r,y⟩
    .rcases p with⟨_,rfl⟩|⟨h,_⟩
     .rw[if_neg (by simp)];exact d
     .omega
    .split
     .exact Pi (c:=⟨o,w,3,e,g,a,h⟩) d r y
     .rename_i hn;have l:g=I:=by cases g with
       |none=>rfl
       |some x=>exact absurd (.inl rfl) hn
      have j:a=I:=by cases a with
       |none=>rfl
       |some x=>exact absurd (.inr rfl) hn
      subst l j;rw[XS.1 r,<-XS.1 y];exact d
   simp only[OE];rcases hT with⟨rfl,rfl,rfl⟩|⟨rfl,rfl⟩
   .rw[if_pos rfl];exact Oy hk q
   .simpa using q
theorem Ej:∀x:Tm,x.mj=x.sz:=by
 intro x;induction x using Tm.ind with
 |h k n t f l ih=>rw[Tm.qe,Tm.lm];congr 2;exact List.map_congr_left ih
theorem NF{ar ins n:Int}(h:Xx ar ins k n=C)(hi:ins+ar<=1000):-1000000<=n/\n<=1000000/\(k=1->0<=n):=by
 unfold Xx at h;split at h
 .simp at h;omega
 .split at h
  .simp at h;rename_i h1 _;exact⟨by omega,by omega,fun e=>absurd e h1⟩
  .split at h
   .simp at h;rename_i h1 _ _;exact⟨by omega,by omega,fun e=>absurd e h1⟩
   .simp at h;rename_i h1 _ _;exact⟨by omega,by omega,fun e=>absurd e h1⟩
structure Si(takes:List Ty)(y:Tm)(i:Ty)(z:Nat):Prop where
 sh:L9 y
 ty:M7 y takes i
 sz:y.sz+1<=2*z
 gi:Ym 45 i=C
theorem D0{takes:List Ty}{y:Tm}{u:Ty}{z n:Nat}(h:Si takes y i z)(hu:Ym 46 u=C)(hf:YD Yl i u=C)(hn:n<=1000):L9 (Jw (n:Int) y i u)/\M7 (Jw (n:Int) y i u) takes u/\(Jw (n:Int) y i u).sz<=2*z:=by
 unfold Jw;split
 .rename_i hs;have e:=LG i u hs;subst e;exact⟨h.sh,h.ty,by have:=h.sz;omega⟩
 .refine⟨RJ.2 ⟨⟨by omega,by omega,rfl,by omega,by omega,fun e=>by omega,fun _=>⟨hu,YG 45 46 i (by omega) h.gi⟩⟩,fun x b=>?_⟩,?_,?_⟩
  .rcases List.mem_singleton.1 b with rfl;exact h.sh
  .refine Vz.2 ⟨[i],rfl,fun j a _=>?_,.inr (.inr (.inr (.inr (.inr (.inr (.inr (.inr (.inr ⟨rfl,rfl,rfl,hf,YG 45 46 i (by omega) h.gi,hu⟩))))))))⟩;match j,a with
   |0,_=>exact h.ty
  .rw[Tm.lm];have:=h.sz;simp;omega
theorem Vb{takes:List Ty}:∀(l:List Tm)(c:Nat)(ps:List (Nat×Tm×Ty))(us:List Ty),Xc l takes c=D ps->us.length=ps.length->U6 (ps.map fun p=>p.2.2) us=C->(∀u,u∈us->Ym 46 u=C)->c+(l.map Tm.sz).sum<=1000->
  (∀x,x∈l->∀c y i,Xt x takes c=D (y,i)->c+x.sz<=1000->Si takes y i x.sz)->
  (XZ ps us).length=l.length/\(∀x,x∈XZ ps us->L9 x)/\((XZ ps us).map Tm.sz).sum<=2*(l.map Tm.sz).sum/\∀j(h:j<(XZ ps us).length)(h':j<us.length),M7 (XZ ps us)[j] takes us[j]
 |[],c,ps,us,h,_,_,_,_,_=>by rw[Xc] at h;cases h;simp[XZ]
 |x::r,c,ps,us,h,hl,hf,hu,hc,hQ=>by
  obtain⟨y,i,q,h1,h2,rfl⟩:=LJ h;match us,hl,hf,hu with
  |[],hl,_,_=>simp at hl
  |u::vs,hl,hf,hu=>
   simp only[J,U6,K] at hf;simp only[J,List.sum_cons] at hc;have hp:=hQ x (by simp) c y i h1 (by omega);obtain⟨a1,a2,a3⟩:=D0 (n:=c) hp (hu u (by simp)) hf.1 (by omega);obtain⟨b0,b1,b2,b3⟩:=Vb r (c+x.sz) q vs h2 (by simpa using hl) hf.2 (fun v hv=>hu v (by simp[hv])) (by omega) fun z hz=>hQ z (by simp[hz]);have e:XZ ((c,y,i)::q) (u::vs)=Jw (c:Int) y i u::XZ q vs:=rfl;rw[e];refine⟨by simp[b0],fun z hz=>?_,?_,fun j hj hj'=>?_⟩
   .rcases List.mem_cons.1 hz with rfl|hz
    .exact a1
    .exact b1 z hz
   .simp only[J,List.sum_cons];omega
   .match j with
    |0=>exact a2
    |j+1=>exact b3 j (by simpa using hj) (by simpa using hj')
theorem Ep{n:Int}{t:Ty}{ps takes:List Ty}{us:List Ty}{m:Nat}(h1:1<=k)(h9:k<=9)(hl:ps.length=Yu k)(hn:k=1->n.toNat<takes.length)(hp:∀u,u∈ps->Ym (m+1) u=C)(h:YK k n t ps takes=D (i,us))(G:List Ty)(hG:k≠7->G=takes):SO k n t Yk us G i:=by
 have c:k=1\/k=2\/k=3\/k=4\/k=5\/k=6\/k=7\/k=8\/k=9:=by omega
 rcases c with rfl|rfl|rfl|rfl|rfl|rfl|rfl|rfl|rfl
 .have h':takes.getD n.toNat ⟨0,[]⟩=i/\[]=us:=by simpa[YK] using h
  obtain⟨rfl,rfl⟩:=h';refine .inl ⟨rfl,rfl,?_⟩;rw[hG (by omega),List.getD_eq_getElem?_getD,N (hn rfl)];rfl
 .simp[YK] at h;obtain⟨rfl,rfl⟩:=h;exact .inr (.inl ⟨rfl,rfl,rfl⟩)
 .simp[YK] at h;obtain⟨rfl,rfl⟩:=h;exact .inr (.inr (.inl ⟨rfl,rfl,rfl⟩))
 .simp[YK] at h;obtain⟨rfl,rfl⟩:=h;exact .inr (.inr (.inr (.inl ⟨rfl,rfl,rfl⟩)))
 .simp[YK] at h;obtain⟨rfl,rfl⟩:=h;exact .inr (.inr (.inr (.inr (.inl ⟨rfl,rfl,rfl⟩))))
 .have h':Ah ⟨2,[]⟩ (ps.getD 1 ⟨0,[]⟩) (ps.getD 2 ⟨0,[]⟩)=D (i,us):=by simpa[YK] using h
  unfold Ah at h';split at h'
  .cases h'
   exact .inr (.inr (.inr (.inr (.inr (.inl ⟨rfl,rfl⟩)))))
  .cases h'
 .have h':i=⟨3,[t,ps.getD 0 ⟨0,[]⟩]⟩/\us=ps:=by
   have:D (Ty.mk 3 [t,ps.getD 0 ⟨0,[]⟩],ps)=D (i,us):=by simpa[YK] using h
   cases this;exact⟨rfl,rfl⟩
  obtain⟨rfl,rfl⟩:=h';match us,hl with
  |[b],_=>exact .inr (.inr (.inr (.inr (.inr (.inr (.inl ⟨rfl,b,rfl,rfl⟩))))))
 .have h':Uk (ps.getD 0 ⟨0,[]⟩)=D (i,us):=by simpa[YK] using h
  match ps,hl,hp,h' with
  |[p,q],_,hp,h'=>
   have a:Uk p=D (i,us):=h';refine .inr (.inr (.inr (.inr (.inr (.inr (.inr (.inl ⟨rfl,?_⟩)))))));rcases Yz (hp p (by simp)) with⟨k,rfl,c⟩|⟨x,y,rfl,_,_⟩
   .rcases c with rfl|rfl|rfl
    .simp[Uk] at a;obtain⟨rfl,rfl⟩:=a;exact⟨Yk,rfl⟩
    .simp[Uk] at a
    .simp[Uk] at a
   .simp[Uk] at a;obtain⟨rfl,rfl⟩:=a;exact⟨x,rfl⟩
 .have h':i=t/\us=[t]:=by
   have:D (t,[t])=D (i,us):=by simpa[YK] using h
   cases this;exact⟨rfl,rfl⟩
  obtain⟨rfl,rfl⟩:=h';exact .inr (.inr (.inr (.inr (.inr (.inr (.inr (.inr (.inl ⟨rfl,rfl,rfl⟩))))))))
theorem CE:∀(x:Tm)(takes:List Ty)(c:Nat)(y:Tm)(i:Ty),J8 x takes.length->(∀u,u∈takes->Ym 4 u=C)->Xt x takes c=D (y,i)->x.sz<=40->takes.length+x.sz<=900->c+x.sz<=1000->Si takes y i x.sz:=by
 intro x;induction x using Tm.ind with
 |h k n t f l ih=>
  intro takes c y i o w h hz a1 hc;have d:=Kl _ _ c y i o w h;obtain⟨h0,h1⟩:=Kf.1 o;obtain⟨z,k9,hl,_,r,a2,a0⟩:=JF h0;obtain⟨ps,us,e1,e2,e3,rfl⟩:=Ng h;have a:=Jk _ _ _ _ e1;rw[Tm.lm] at hz hc a1 d;have hp:∀x,x∈l->∀c y i,Xt x (Yv k t takes) c=D (y,i)->c+x.sz<=1000->Si (Yv k t takes) y i x.sz:=by
   intro x g c y i hr hc;have hs:=JE l x g;have ho:J8 x (Yv k t takes).length:=by rw[Xl];exact h1 x g
   have a3:(Yv k t takes).length<=takes.length+1:=by rw[Xl];split<;>omega
   exact ih x g _ c y i ho (Uw r w) hr (by omega) (by omega) hc
  have hg:∀u,u∈ps.map (fun p=>p.2.2)->Ym ((l.map Tm.sz).sum+4) u=C:=by
   intro u hu;obtain⟨j,hj,rfl⟩:=List.getElem_of_mem hu;have b:j<ps.length:=by simpa using hj
   have:=MF (Q:=fun x _ _ i=>Ym (x.sz+4) i=C) l _ ps e1 (fun x g c y i hr=>Kl x _ c y i (by rw[Xl];exact h1 x g) (Uw r w) hr) j b (by omega);have hs:=JE l l[j] (O _);simpa using YG _ ((l.map Tm.sz).sum+4) _ (by omega) this
  obtain⟨r1,_,r3⟩:=ME ((l.map Tm.sz).sum+4) (by omega) z k9 (by simpa using a.trans hl) r (Uw r w) hg e2;obtain⟨c0,c1,c2,c3⟩:=Vb l (c+1) ps us e1 (by simpa using r1) e3 (fun u hu=>YG _ 46 u (by omega) (r3 u hu)) (by omega) hp;have q:Xx 0 (takes.length:Int) k n=C:=by simp only[U3,K] at h0;exact h0.2.2
  obtain⟨n1,n2,n3⟩:=NF q (by omega);refine⟨RJ.2 ⟨⟨z,by omega,?_,n1,n2,n3,fun e=>by omega⟩,c1⟩,?_,?_,YG _ 45 i (by omega) d⟩
  .rw[c0,hl];unfold RY;rw[if_neg (by omega)]
  .have hTk:(if k=7 then t::takes else takes)=Yv k t takes:=rfl;refine Vz.2 ⟨us,?_,fun j hj b=>?_,?_⟩
   .rw[c0,r1];simpa using a.symm
   .rw[hTk];exact c3 j hj b
   .refine Ep (m:=(l.map Tm.sz).sum+3) z k9 (by simpa using a.trans hl) (fun e=>?_) hg e2 takes fun hk=>?_
    .have:=a0 e;rw[Xl,if_neg (by omega)];omega
    .unfold Yv;rw[if_neg hk]
  .rw[Tm.lm,Tm.lm];omega
theorem On{y:Tm}(c:UC 0 x=C)(h:Xt x [] 0=D (y,i)):L9 y/\y.mj<=100/\M7 y [] i:=by obtain⟨a,b⟩:=Mn c;have:=CE x [] 0 y i a (fun u hu=>by cases hu) h b (by simp;omega) (by omega);refine⟨this.sh,?_,this.ty⟩;rw[Ej];have:=this.sz;omega
def Wd:Option Ca->Option Ca
 |none=>I
 |some ⟨o,w,k,e,g,a,h⟩=>if e.k=0 then D ⟨o,w,k,e,Wd g,Wd a,h⟩ else D ⟨o,w,k,e,I,I,L⟩
 termination_by c=>SizeOf.sizeOf c
 decreasing_by
  .simp;omega
  .simp;omega
theorem CZ:Wd I=I:=by rw[Wd]
theorem PR(o:Bool)(w:XG)(k:Int)(e:XG)(g a:Option Ca)(h:Bool):Wd (D ⟨o,w,k,e,g,a,h⟩)=if e.k=0 then D ⟨o,w,k,e,Wd g,Wd a,h⟩ else D ⟨o,w,k,e,I,I,L⟩:=by rw[Wd]
def U8(c d:Option Ca):Prop:=Wd c=Wd d
theorem U8.refl(c:Option Ca):U8 c c:=rfl
theorem U8.symm{c:Option Ca}(h:U8 c d):U8 d c:=Eq.symm h
theorem U8.trans{c e:Option Ca}(h:U8 c d)(h':U8 d e):U8 c e:=Eq.trans h h'
theorem U7{c:Option Ca}(h:U8 I c):c=I:=by
 cases c with
 |none=>rfl
 |some c=>obtain⟨o,w,k,e,g,a,b⟩:=c;rw[U8,CZ,PR] at h;split at h<;>cases h
theorem NQ{o o':Bool}{w':XG}{k':Int}{e e':XG}{h':Bool}(H:U8 (D ⟨o,w,k,e,g,a,h⟩) (D ⟨o',w',k',e',g',a',h'⟩)):o=o'/\w=w'/\k=k'/\e=e'/\(e.k=0->U8 g g'/\U8 a a'/\h=h'):=by
 rw[U8,PR,PR] at H;by_cases h1:e.k=0
 .rw[if_pos h1] at H;by_cases h2:e'.k=0
  .rw[if_pos h2] at H;have:=M H;simp only[Ca.mk.injEq] at this;exact⟨this.1,this.2.1,this.2.2.1,this.2.2.2.1,fun _=>⟨this.2.2.2.2.1,this.2.2.2.2.2.1,this.2.2.2.2.2.2⟩⟩
  .rw[if_neg h2] at H;have:=M H;simp only[Ca.mk.injEq] at this;exact absurd (this.2.2.2.1▸h1) h2
 .rw[if_neg h1] at H;by_cases h2:e'.k=0
  .rw[if_pos h2] at H;have:=M H;simp only[Ca.mk.injEq] at this;exact absurd (this.2.2.2.1.symm▸h2) h1
  .rw[if_neg h2] at H;have:=M H;simp only[Ca.mk.injEq] at this;exact⟨this.1,this.2.1,this.2.2.1,this.2.2.2.1,fun h=>absurd h h1⟩
theorem Sa{o:Bool}{e:XG}{h':Bool}(H:e.k=0->U8 g g'/\U8 a a'/\h=h'):U8 (D ⟨o,w,k,e,g,a,h⟩) (D ⟨o,w,k,e,g',a',h'⟩):=by
 rw[U8,PR,PR];by_cases h1:e.k=0
 .rw[if_pos h1,if_pos h1];obtain⟨b,c,d⟩:=H h1;rw[U8] at b c;rw[b,c,d]
 .rw[if_neg h1,if_neg h1]
theorem Qf{c d:Option Ca}(h:U8 c d):c.isSome=d.isSome:=by
 cases c with
 |none=>rw[U7 h]
 |some c=>
  cases d with
  |none=>have:=U7 h.symm;cases this
  |some d=>rfl
theorem M8:∀(n:Nat)(c c' d d':Option Ca),SizeOf.sizeOf c+SizeOf.sizeOf d<=n->U8 c c'->U8 d d'->U8 (YH c d) (YH c' d')
 |0,c,_,d,_,h,_,_=>by cases c<;>simp at h
 |n+1,I,c',d,d',hn,hc,hd=>by rw[U7 hc,Xw,Xw];exact hd
 |n+1,D c,I,d,d',hn,hc,hd=>by have:=U7 hc.symm;cases this
 |n+1,D c,D c',I,d',hn,hc,hd=>by rw[U7 hd,XI,XI];exact hc
 |n+1,D c,D c',D d,I,hn,hc,hd=>by have:=U7 hd.symm;cases this
 |n+1,D ⟨o,w,k,e,g,a,h⟩,D ⟨o',w',k',e',g',a',h'⟩,D ⟨p,v,l,f,i,b,j⟩,D ⟨p',v',l',f',i',b',j'⟩,hn,hc,hd=>by
  obtain⟨rfl,rfl,rfl,rfl,hc2⟩:=NQ hc;obtain⟨rfl,rfl,rfl,rfl,hd2⟩:=NQ hd;simp at hn;rw[Xe,Xe];by_cases h1:e.k=0
  .rw[if_pos h1,if_pos h1];by_cases h2:l=k
   .rw[if_pos h2,if_pos h2];refine Sa fun h3=>⟨?_,?_,(hd2 h3).2.2⟩
    .exact M8 n i i' g g' (by omega) (hd2 h3).1 (hc2 h1).1
    .exact M8 n a a' b b' (by omega) (hc2 h1).2.1 (hd2 h3).2.1
   .rw[if_neg h2,if_neg h2];exact U8.refl _
  .rw[if_neg h1,if_neg h1];exact hc
theorem OA{c c' d':Option Ca}(hc:U8 c c')(hd:U8 d d'):U8 (YH c d) (YH c' d'):=M8 _ c c' d d' (R _) hc hd
theorem M9:∀(n:Nat)(c d e:Option Ca)(S T U V:Ty),SizeOf.sizeOf c+SizeOf.sizeOf d+SizeOf.sizeOf e<=n->UU c S T->UU d T U->UU e U V->U8 (YH (YH c d) e) (YH c (YH d e))
 |0,c,_,_,_,_,_,_,h,_,_,_=>by cases c<;>simp at h
 |n+1,I,d,e,_,_,_,_,_,_,_,_=>by rw[Xw,Xw];exact U8.refl _
 |n+1,D c,I,e,_,_,_,_,_,_,_,_=>by rw[XI,Xw];exact U8.refl _
 |n+1,D c,D d,I,_,_,_,_,_,_,_,_=>by rw[XI,XI];exact U8.refl _
 |n+1,D ⟨o,w,k,e,g,a,h⟩,D ⟨o',w',k',e',g',a',h'⟩,D ⟨p,v,l,f,i,b,j⟩,S,T,U,V,hn,hc,hd,he=>by
  simp at hn;obtain⟨hk,S',T',c1,c2,c3⟩:=Xg.1 hc;obtain⟨hk',S'',T'',d1,d2,d3⟩:=Xg.1 hd;obtain⟨hl,S3,T3,e1,e2,e3⟩:=Xg.1 he;rw[Xe];by_cases h1:e.k=0
  .rw[if_pos h1];rcases c3 with c3|⟨_,c4,c5⟩
   .omega
   by_cases h2:k'=k
   .rw[if_pos h2,Xe];by_cases h3:e'.k=0
    .rw[if_pos h3];rcases d3 with d3|⟨_,d4,d5⟩
     .omega
     rw[Xe,if_pos h3];by_cases h4:l=k
     .have h4':l=k':=by omega
      rw[if_pos h4,if_pos h4',Xe,if_pos h1,if_pos h2];rcases e3 with e3|⟨e0,e4,e5⟩
      .refine Sa fun h5=>?_;omega
      refine Sa fun _=>?_;have kS:=Ni c2;have u:=Ni d2;have r:=Ni e2;by_cases k3:k=3
      .obtain⟨hk3,s1,s2,t1,t2,rfl,rfl,tg,ta⟩:k=3/\∃s1 s2 t1 t2,S'=YM s1 s2/\T'=YM t1 t2/\UU g t1 s1/\UU a s2 t2:=by
        rcases c5 with⟨h,_⟩|h
        .exact absurd k3 h
        .exact h
       obtain⟨a6,u1,u2,x1,y,rfl,rfl,a0,a2⟩:k'=3/\∃s1 s2 t1 t2,S''=YM s1 s2/\T''=YM t1 t2/\UU g' t1 s1/\UU a' s2 t2:=by
        rcases d5 with⟨h,_⟩|h
        .exact absurd (h2.trans k3) h
        .exact h
       obtain⟨_,y1,y2,z1,z2,rfl,rfl,a5,z⟩:l=3/\∃s1 s2 t1 t2,S3=YM s1 s2/\T3=YM t1 t2/\UU i t1 s1/\UU b s2 t2:=by
        rcases e5 with⟨h,_⟩|h
        .exact absurd (h4.trans k3) h
        .exact h
       have a4:t1=u1/\t2=u2:=by
        rcases c4 with⟨_,rfl,m⟩|⟨_,rfl⟩
        .rcases d1 with⟨_,_,hS,_⟩|⟨_,hS⟩
         .have:YM t1 t2=YM u1 u2:=by rw[m,hS,h2]
          exact U5 this
         .exfalso;have:=congrArg Ty.k hS;simp[Yk,YM] at this
        .rcases d1 with⟨_,q,_,_⟩|⟨_,hS⟩
         .exfalso;have:=congrArg Ty.k q;simp[Yk,YM] at this
         .exact U5 hS
       have a1:x1=y1/\y=y2:=by
        rcases d4 with⟨_,rfl,m⟩|⟨_,rfl⟩
        .rcases e1 with⟨_,_,hS,_⟩|⟨_,hS⟩
         .have:YM x1 y=YM y1 y2:=by rw[m,hS,h4']
          exact U5 this
         .exfalso;have:=congrArg Ty.k hS;simp[Yk,YM] at this
        .rcases e1 with⟨_,q,_,_⟩|⟨_,hS⟩
         .exfalso;have:=congrArg Ty.k q;simp[Yk,YM] at this
         .exact U5 hS
       obtain⟨rfl,rfl⟩:=a4;obtain⟨rfl,rfl⟩:=a1;refine⟨?_,?_,rfl⟩
       .exact(M9 n i g' g z1 x1 t1 s1 (by omega) a5 a0 tg).symm
       .exact M9 n a a' b s2 t2 y z2 (by omega) ta a2 z
      .obtain⟨_,_,rfl,rfl⟩:k≠3/\T'=⟨k,[]⟩/\g=I/\a=I:=by
        rcases c5 with h|⟨h,_⟩
        .exact h
        .exact absurd h k3
       obtain⟨_,_,rfl,rfl⟩:k'≠3/\T''=⟨k',[]⟩/\g'=I/\a'=I:=by
        rcases d5 with h|⟨h,_⟩
        .exact h
        .exact absurd (h2▸h) k3
       obtain⟨_,_,rfl,rfl⟩:l≠3/\T3=⟨l,[]⟩/\i=I/\b=I:=by
        rcases e5 with h|⟨h,_⟩
        .exact h
        .exact absurd (h4▸h) k3
       have t0:=Xw I;refine⟨?_,?_,rfl⟩<;>rw[t0]<;>exact U8.refl _
     .have h4':¬l=k':=by omega
      rw[if_neg h4,if_neg h4',Xe,if_pos h1,if_pos h2];refine Sa fun h5=>?_;exfalso;have r:=Ni e2;rcases e1 with⟨_,_,_,hv⟩|⟨_,hS⟩
      .omega
      .have hU:U.k=l:=by rw[hS];exact r
       rcases d4 with⟨_,q,_⟩|⟨_,m⟩
       .rw[q] at hU;simp[Yk] at hU;omega
       .have:=MK d5;rw[<-m] at this;omega
    .rw[if_neg h3,Xe,if_neg h3,Xe,if_pos h1,if_pos h2];exact U8.refl _
   .rw[if_neg h2];have hv:w'.k=4:=by
     rcases d1 with⟨_,_,_,hv⟩|⟨_,hS⟩
     .exact hv
     .exfalso;have u:=Ni d2;have m:T.k=k':=by rw[hS];exact u
      rcases c4 with⟨_,q,_⟩|⟨_,a3⟩
      .rw[q] at m;simp[Yk] at m;omega
      .have:=MK c5;rw[<-a3] at this;omega
    rw[Xe,if_neg (by omega)];rw[JC];have a7:YH (D ⟨o',w',k',e',g',a',h'⟩) (D ⟨p,v,l,f,i,b,j⟩)=YH (D ⟨o',w',k',e',g',a',h'⟩) (D ⟨p,v,l,f,i,b,j⟩):=rfl;by_cases h3:e'.k=0
    .rw[if_pos h3];split
     .rw[Xe,if_pos h1,if_neg h2];exact U8.refl _
     .rw[Xe,if_pos h1,if_neg h2];exact U8.refl _
    .rw[if_neg h3,Xe,if_pos h1,if_neg h2];exact U8.refl _
  .rw[if_neg h1,Xe,if_neg h1];cases hx:YH (D ⟨o',w',k',e',g',a',h'⟩) (D ⟨p,v,l,f,i,b,j⟩) with
   |none=>rw[XI];exact U8.refl _
   |some x=>obtain⟨x1,y,x3,x4,x5,x6,x7⟩:=x;rw[Xe,if_neg h1];exact U8.refl _
theorem OB{c e:Option Ca}{U V:Ty}(hc:UU c S T)(hd:UU d T U)(he:UU e U V):U8 (YH (YH c d) e) (YH c (YH d e)):=M9 _ c d e S T U V (R _) hc hd he
def CY:YJ->YJ
 |⟨k,n,b,e,i,g,a,s⟩=>⟨k,n,b,e.map fun x=>CY x,i.map fun x=>CY x,Wd g,Wd a,s⟩
theorem R1(k n:Int)(b:Tm)(e i:List YJ)(g a:Option Ca)(s:Int):CY ⟨k,n,b,e,i,g,a,s⟩=⟨k,n,b,e.map CY,i.map CY,Wd g,Wd a,s⟩:=by rw[CY]
def Ja(v v':YJ):Prop:=CY v=CY v'
theorem Ja.refl(v:YJ):Ja v v:=rfl
theorem Ja.symm{v u:YJ}(h:Ja v u):Ja u v:=Eq.symm h
theorem Ja.trans{v u t:YJ}(h:Ja v u)(h':Ja u t):Ja v t:=Eq.trans h h'
def MQ(e e':List YJ):Prop:=e.map CY=e'.map CY
theorem UH{v:YJ}(h:Ja v v'):v.k=v'.k/\v.n=v'.n/\v.body=v'.body/\MQ v.env v'.env/\MQ v.inn v'.inn/\U8 v.given v'.given/\U8 v.answer v'.answer/\v.az=v'.az:=by obtain⟨k,n,b,e,i,g,a,s⟩:=v;obtain⟨m,c,j,l,d,o,a',s'⟩:=v';rw[Ja,R1,R1] at h;simp only[YJ.mk.injEq] at h;exact⟨h.1,h.2.1,h.2.2.1,h.2.2.2.1,h.2.2.2.2.1,h.2.2.2.2.2.1,h.2.2.2.2.2.2.1,h.2.2.2.2.2.2.2⟩
theorem Ok{n s:Int}{i i':List YJ}(c:MQ e e')(hi:MQ i i')(d:U8 g g')(h:U8 a a'):Ja ⟨k,n,b,e,i,g,a,s⟩ ⟨k,n,b,e',i',g',a',s⟩:=by rw[Ja,R1,R1];rw[MQ] at c hi;rw[U8] at d h;rw[c,hi,d,h]
theorem UW:MQ [] []:=rfl
theorem Ur{v:YJ}(h:Ja v v')(a:MQ e e'):MQ (v::e) (v'::e'):=by rw[MQ,J,J];rw[MQ] at a;rw[Ja] at h;rw[h,a]
theorem DJ{v:YJ}(h:MQ (v::e) (v'::e')):Ja v v'/\MQ e e':=by rw[MQ,J,J] at h;exact Y h
theorem Qe{e:List YJ}(h:MQ [] e):e=[]:=by
 cases e with
 |nil=>rfl
 |cons v e=>rw[MQ] at h;cases h
theorem MP{v:YJ}{e e':List YJ}(h:MQ (v::e) e'):∃v' e'',e'=v'::e''/\Ja v v'/\MQ e e'':=by
 cases e' with
 |nil=>rw[MQ] at h;cases h
 |cons v' e''=>exact⟨v',e'',rfl,DJ h⟩
theorem Fo(h:MQ e e')(j:Nat):(∀v,e[j]?=D v->∃v',e'[j]?=D v'/\Ja v v')/\(e[j]?=I->e'[j]?=I):=by
 have a:=congrArg (fun l=>l[j]?) h;simp only[List.getElem?_map] at a;constructor
 .intro v hv;rw[hv] at a;cases h':e'[j]? with
  |none=>rw[h'] at a;cases a
  |some v'=>rw[h'] at a;exact⟨v',rfl,M a⟩
 .intro hv;rw[hv] at a;cases h':e'[j]? with
  |none=>rfl
  |some v'=>rw[h'] at a;cases a
theorem NP{v v':YJ}(h:Ja v v'):Ja v.core v'.core:=by
 have hi:=(UH h).2.2.2.2.1;unfold YJ.core;cases h1:v.inn with
 |nil=>rw[h1] at hi;rw[Qe hi];exact Ja.refl _
 |cons u r=>rw[h1] at hi;obtain⟨d,c,a,b,_⟩:=MP hi;rw[a];exact b
def Xk(c:Option Ca)(v:YJ):XG×YJ:=match c with
 |none=>(Yn,v)
 |some c=>
  if c.opens=C/\v.k≠5 then (Yw,v)
  else if c.opens=C/\v.az≠c.kind then (c.wrong,v)
  else if c.ends.k≠0 then (c.ends,v)
  else (Yn,OE c v)
theorem Qi(v:YJ):Xk I v=(Yn,v):=rfl
theorem XY(c:Ca)(v:YJ):Xk (D c) v=if c.opens=C/\v.k≠5 then (Yw,v) else if c.opens=C/\v.az≠c.kind then (c.wrong,v) else if c.ends.k≠0 then (c.ends,v) else (Yn,OE c v):=rfl
theorem ON{s:St}{c:Option Ca}{v:YJ}(hw:∀d,c=D d->d.opens=C->d.wrong.k≠0):Xz s c v=if (Xk c v).1.k=0 then s.push (Xk c v).2 else s.stop (Xk c v).1:=by
 cases c with
 |none=>rw[Qi];rfl
 |some c=>
  rw[XY];unfold Xz;simp only;by_cases h1:c.opens=C/\v.k≠5
  .rw[if_pos h1,if_pos h1];rfl
  .rw[if_neg h1,if_neg h1];by_cases h2:c.opens=C/\v.az≠c.kind
   .rw[if_pos h2,if_pos h2];have:=hw c rfl h2.1;rw[if_neg this]
   .rw[if_neg h2,if_neg h2];by_cases h3:c.ends.k≠0
    .rw[if_pos h3,if_pos h3,if_neg h3]
    .rw[if_neg h3,if_neg h3];rfl
def Y9(f:YJ)(g a:Option Ca):YJ:=if g.isSome=C\/a.isSome=C then (if f.k=4 then KF f.core (YH g f.given) (YH f.answer a) else KF f g a) else f
theorem JY(c:Ca)(v:YJ):OE c v=if c.hides=C then XX (Y9 (if c.opens=C then v.core else v) c.given c.answer) c.kind else Y9 (if c.opens=C then v.core else v) c.given c.answer:=rfl
theorem Ov{f:YJ}(b:Ja f f')(c:U8 g g')(h:U8 a a'):Ja (Y9 f g a) (Y9 f' g' a'):=by
 obtain⟨i,_,_,_,_,d,e,_⟩:=UH b;unfold Y9;rw[Qf c,Qf h,i];split
 .split
  .exact Ok UW (Ur (NP b) UW) (OA c d) (OA e h)
  .exact Ok UW (Ur b UW) c h
 .exact b
theorem OJ{v:YJ}(h:Ja v v')(k:Int):Ja (XX v k) (XX v' k):=Ok UW (Ur h UW) (U8.refl _) (U8.refl _)
theorem Rp{c c':Option Ca}{v v':YJ}(hc:U8 c c')(hv:Ja v v'):(Xk c v).1=(Xk c' v').1/\((Xk c v).1.k=0->Ja (Xk c v).2 (Xk c' v').2):=by
 cases c with
 |none=>rw[U7 hc];exact⟨rfl,fun _=>hv⟩
 |some c=>
  cases c' with
  |none=>have:=U7 hc.symm;cases this
  |some c'=>
   obtain⟨o,w,k,e,g,a,h⟩:=c;obtain⟨m,w',u,r,p,a',q⟩:=c';obtain⟨rfl,rfl,rfl,rfl,H⟩:=NQ hc;obtain⟨l,_,_,_,_,_,_,d⟩:=UH hv;rw[XY,XY];simp only;rw[l,d];by_cases h1:o=C/\v'.k≠5
   .rw[if_pos h1,if_pos h1];exact⟨rfl,fun h=>by cases h⟩
   .rw[if_neg h1,if_neg h1];by_cases h2:o=C/\v'.az≠k
    .rw[if_pos h2,if_pos h2];exact⟨rfl,fun _=>hv⟩
    .rw[if_neg h2,if_neg h2];by_cases h3:e.k≠0
     .rw[if_pos h3,if_pos h3];exact⟨rfl,fun _=>hv⟩
     .rw[if_neg h3,if_neg h3];refine⟨rfl,fun _=>?_⟩;obtain⟨i,j,rfl⟩:=H (by omega);show Ja (OE _ _) (OE _ _)
      rw[JY,JY];simp only;have b:Ja (if o=C then v.core else v) (if o=C then v'.core else v'):=by
       split
       .exact NP hv
       .exact hv
      split
      .exact OJ (Ov b i j) _
      .exact Ov b i j
theorem AA{f:YJ}{s1 s2 t2 u1 u2:Ty}(hf:UJ f (YM s1 s2))(hg:UU g t1 s1)(ha:UU a s2 t2)(hg':UU g' u1 t1)(ha':UU a' t2 u2):Ja (Y9 (Y9 f g a) g' a') (Y9 f (YH g' g) (YH a a')):=by
 by_cases h1:g.isSome=C\/a.isSome=C
 .by_cases h2:g'.isSome=C\/a'.isSome=C
  .have h3:(YH g' g).isSome=C\/(YH a a').isSome=C:=by
    rcases h1 with h|h
    .left;cases g with
     |none=>cases h
     |some g=>
      cases g' with
      |none=>rw[Xw];rfl
      |some g'=>rw[JC];split<;>(try split)<;>rfl
    .right;cases a with
     |none=>cases h
     |some a=>
      cases a' with
      |none=>rw[XI];rfl
      |some a'=>rw[JC];split<;>(try split)<;>rfl
   unfold Y9;rw[if_pos h1,if_pos h2,if_pos h3];by_cases h4:f.k=4
   .rw[if_pos h4,if_pos h4];rcases KK hf with⟨i,_⟩|⟨_,_,_,j,e,_,b,c⟩
    .omega
    rw[if_pos (show (KF f.core (YH g f.given) (YH f.answer a)).k=4 from rfl)];show Ja (KF f.core (YH g' (YH g f.given)) (YH (YH f.answer a) a')) _
    exact Ok UW (Ur (Ja.refl _) UW) (OB hg' hg b).symm (OB c ha ha')
   .rw[if_neg h4,if_neg h4,if_pos (show (KF f g a).k=4 from rfl)];exact Ok UW (Ur (Ja.refl _) UW) (U8.refl _) (U8.refl _)
  .have e1:g'=I:=by cases g' with
    |none=>rfl
    |some _=>exact absurd (.inl rfl) h2
   have d:a'=I:=by cases a' with
    |none=>rfl
    |some _=>exact absurd (.inr rfl) h2
   subst e1 d;rw[Xw,XI];unfold Y9;rw[if_pos h1,if_neg (by simp)];exact Ja.refl _
 .have e1:g=I:=by cases g with
   |none=>rfl
   |some _=>exact absurd (.inl rfl) h1
  have d:a=I:=by cases a with
   |none=>rfl
   |some _=>exact absurd (.inr rfl) h1
  subst e1 d;rw[XI,Xw];have:Y9 f I I=f:=by unfold Y9;rw[if_neg (by simp)]
  rw[this];exact Ja.refl _
theorem Mq{c d:Option Ca}{v:YJ}{S T U:Ty}(hc:UU c S T)(hd:UU d T U)(hv:UJ v S):
  ((Xk c v).1.k≠0->(Xk (YH c d) v).1=(Xk c v).1)/\((Xk c v).1.k=0->(Xk (YH c d) v).1=(Xk d (Xk c v).2).1/\((Xk (YH c d) v).1.k=0->Ja (Xk (YH c d) v).2 (Xk d (Xk c v).2).2)):=by
 cases c with
 |none=>rw[Xw,Qi];exact⟨fun h=>absurd rfl h,fun _=>⟨rfl,fun _=>Ja.refl _⟩⟩
 |some c=>
  cases d with
  |none=>
   rw[XI];refine⟨fun _=>rfl,fun h=>?_⟩;rw[Qi];have:(Xk (D c) v).1=Yn:=by
    rw[XY] at h ⊢;split at h
    .cases h
    .rename_i h1;rw[if_neg h1];split at h
     .rename_i b;exfalso;obtain⟨o,w,k,e,g,a,hh⟩:=c;obtain⟨_,_,_,c1,_⟩:=Xg.1 hc;rcases c1 with⟨_,_,_,hw⟩|⟨p,_⟩
      .simp only at h;omega
      .rw[p] at b;cases b.1
     .rename_i b;rw[if_neg b];split at h
      .rename_i h3;exact absurd h h3
      .rename_i h3;rw[if_neg h3]
   exact⟨this,fun _=>Ja.refl _⟩
  |some d=>
   obtain⟨o,w,k,e,g,a,h⟩:=c;obtain⟨o',w',k',x,y,a',h'⟩:=d;obtain⟨hk,S',T',c1,c2,c3⟩:=Xg.1 hc;obtain⟨ad,ab,a9,d1,d2,d3⟩:=Xg.1 hd;rw[Xe];by_cases he:e.k=0
   .rw[if_pos he];rcases c3 with c3|⟨_,c4,c5⟩
    .omega
    by_cases q1:o=C/\v.k≠5
    .have hs:∀(l:XG)(r u:Option Ca)(b:Bool),Xk (D ⟨o,w,k,l,r,u,b⟩) v=(Yw,v):=fun l r u b=>by rw[XY,if_pos q1]
     rw[hs];refine⟨fun _=>?_,fun h=>by cases h⟩;split<;>rw[hs]
    .by_cases q2:o=C/\v.az≠k
     .have hs:∀(l:XG)(r u:Option Ca)(b:Bool),Xk (D ⟨o,w,k,l,r,u,b⟩) v=(w,v):=fun l r u b=>by rw[XY,if_neg q1,if_pos q2]
      rw[hs];have hw:w.k=4:=by
       rcases c1 with⟨_,_,_,hw⟩|⟨p,_⟩
       .exact hw
       .rw[p] at q2;cases q2.1
      refine⟨fun _=>?_,fun h=>?_⟩
      .split<;>rw[hs]
      .simp only at h;omega
     .have hs:∀(l:XG)(r u:Option Ca)(b:Bool),Xk (D ⟨o,w,k,l,r,u,b⟩) v=if l.k≠0 then (l,v) else (Yn,OE ⟨o,w,k,l,r,u,b⟩ v):=fun l r u b=>by rw[XY,if_neg q1,if_neg q2]
      rw[hs e g a h,if_neg (by omega)];refine⟨fun h=>absurd rfl h,fun _=>?_⟩;obtain⟨v1,j⟩:∃v1,(if o=C then v.core else v)=v1:=⟨_,rfl⟩
      have a1:OE ⟨o,w,k,e,g,a,h⟩ v=if h=C then XX (Y9 v1 g a) k else Y9 v1 g a:=by rw[JY];simp only;rw[j]
      have aa:UJ v1 S':=by
       rcases c1 with⟨p,hS,a7,_⟩|⟨p,hS⟩
       .rw[if_pos p] at j;rw[<-j,a7];rw[hS] at hv;obtain⟨_,_,_,h5⟩:=RD hv;have:v.az=k:=by
         by_cases e5:v.az=k
         .exact e5
         .exact absurd ⟨p,e5⟩ q2
        rw[this] at h5;exact h5
       .rw[if_neg (by rw[p];simp)] at j;rw[<-j,<-hS];exact hv
      have z:=Ni d2;by_cases b:k'=k
      .rw[if_pos b,hs x _ _ h'];have i:o'=h:=by
        rcases c4 with⟨hh,m,_⟩|⟨hh,m⟩
        .rcases d1 with⟨i,_⟩|⟨_,hS⟩
         .rw[hh,i]
         .exfalso;rw[<-hS,m] at z;simp[Yk] at z;omega
        .rcases d1 with⟨_,hA,_⟩|⟨i,_⟩
         .exfalso;have:=MK c5;rw[<-m,hA] at this;simp[Yk] at this;omega
         .rw[hh,i]
       have a4:Xk (D ⟨o',w',k',x,y,a',h'⟩) (OE ⟨o,w,k,e,g,a,h⟩ v)=if x.k≠0 then (x,OE ⟨o,w,k,e,g,a,h⟩ v) else (Yn,OE ⟨o',w',k',x,y,a',h'⟩ (OE ⟨o,w,k,e,g,a,h⟩ v)):=by
        rw[XY];simp only;rw[i,a1];cases h
        .rw[if_neg (by simp),if_neg (by simp)]
        .rw[if_pos rfl,if_neg (fun q=>q.2 rfl),if_neg (fun q=>q.2 b.symm)]
       rw[a4];by_cases h3:x.k≠0
       .rw[if_pos h3,if_pos h3];exact⟨rfl,fun h=>absurd h h3⟩
       .rw[if_neg h3,if_neg h3];refine⟨rfl,fun _=>?_⟩;rcases d3 with d3|⟨_,d4,d5⟩
        .omega
        show Ja (OE ⟨o,w,k,x,YH y g,YH a a',h'⟩ v) (OE ⟨o',w',k',x,y,a',h'⟩ (OE ⟨o,w,k,e,g,a,h⟩ v))
        rw[JY,JY,a1];simp only;rw[j,i,b];have a6:(if h=C then (if h=C then XX (Y9 v1 g a) k else Y9 v1 g a).core else (if h=C then XX (Y9 v1 g a) k else Y9 v1 g a))=Y9 v1 g a:=by
         cases h
         .rfl
         .rfl
        rw[a6];have a3:Ja (Y9 v1 (YH y g) (YH a a')) (Y9 (Y9 v1 g a) y a'):=by
         rcases c5 with⟨_,_,rfl,rfl⟩|⟨k3,s1,s2,t1,t2,rfl,rfl,tg,ta⟩
         .rw[XI,Xw];have:Y9 v1 I I=v1:=by unfold Y9;rw[if_neg (by simp)]
          rw[this];exact Ja.refl _
         .obtain⟨_,u1,u2,x1,x2,rfl,rfl,tg',ta'⟩:k'=3/\∃s1 s2 t1 t2,ab=YM s1 s2/\a9=YM t1 t2/\UU y t1 s1/\UU a' s2 t2:=by
           rcases d5 with⟨h,_⟩|h
           .exact absurd (b.trans k3) h
           .exact h
          have a8:t1=u1/\t2=u2:=by
           rcases c4 with⟨_,rfl,m⟩|⟨_,rfl⟩
           .rcases d1 with⟨_,_,hS,_⟩|⟨_,hS⟩
            .have:YM t1 t2=YM u1 u2:=by rw[m,hS,b]
             exact U5 this
            .exfalso;have:=congrArg Ty.k hS;simp[Yk,YM] at this
           .rcases d1 with⟨_,hA,_,_⟩|⟨_,hS⟩
            .exfalso;have:=congrArg Ty.k hA;simp[Yk,YM] at this
            .exact U5 hS
          obtain⟨rfl,rfl⟩:=a8;exact(AA aa tg ta tg' ta').symm
        split
        .exact OJ a3 _
        .exact a3
      .rw[if_neg b];have a5:o'=C/\w'.k=4/\h=C:=by
        rcases d1 with⟨i,m,_,hw⟩|⟨_,hS⟩
        .rcases c4 with⟨hh,_⟩|⟨_,a0⟩
         .exact⟨i,hw,hh⟩
         .exfalso;have:=MK c5;rw[<-a0,m] at this;simp[Yk] at this;omega
        .exfalso;have m:T.k=k':=by rw[hS];exact z
         rcases c4 with⟨_,hA,_⟩|⟨_,a0⟩
         .rw[hA] at m;simp[Yk] at m;omega
         .have:=MK c5;rw[<-a0] at this;omega
       obtain⟨rfl,ac,rfl⟩:=a5;rw[hs w' I I L,if_pos (by omega),XY];simp only;rw[a1,if_pos rfl,if_neg (fun q=>q.2 rfl),if_pos ⟨trivial,fun q=>b q.symm⟩];exact⟨rfl,fun h=>by have h9:w'.k=0:=h;omega⟩
   .rw[if_neg he];refine⟨fun _=>rfl,fun h=>?_⟩;exfalso;rw[XY] at h;split at h
    .cases h
    .split at h
     .rename_i b;rcases c1 with⟨_,_,_,hw⟩|⟨p,_⟩
      .simp only at h;omega
      .simp only at b;rw[p] at b;cases b.1
     .first
       |exact he h
       |(split at h
         .exact he h
         .rename_i h9;exact h9 he)
def E4(t:XB):XB:=⟨t.d,t.x,t.s.map CY,Wd t.c⟩
def WC(t t':XB):Prop:=E4 t=E4 t'
theorem Nk{d:Int}{s s':List YJ}{c c':Option Ca}(a:MQ s s')(b:U8 c c'):WC ⟨d,x,s,c⟩ ⟨d,x,s',c'⟩:=by rw[WC,E4,E4];simp only;rw[MQ] at a;rw[U8] at b;rw[a,b]
theorem BL{t:XB}(h:WC t t'):t.d=t'.d/\t.x=t'.x/\MQ t.s t'.s/\U8 t.c t'.c:=by rw[WC,E4,E4] at h;simp only[XB.mk.injEq] at h;exact⟨h.1,h.2.1,h.2.2.1,h.2.2.2⟩
theorem WC.refl(t:XB):WC t t:=rfl
def Ol(ts ts':List XB):Prop:=ts.map E4=ts'.map E4
theorem Ol.refl(ts:List XB):Ol ts ts:=rfl
theorem Ko{t:XB}{ts':List XB}(h:WC t t')(a:Ol ts ts'):Ol (t::ts) (t'::ts'):=by rw[Ol,J,J];rw[Ol] at a;rw[WC] at h;rw[h,a]
theorem Wz{t:XB}{ts l:List XB}(h:Ol (t::ts) l):∃t' ts',l=t'::ts'/\WC t t'/\Ol ts ts':=by
 cases l with
 |nil=>rw[Ol] at h;cases h
 |cons t' ts'=>rw[Ol,J,J] at h;exact⟨t',ts',rfl,Y h⟩
theorem Rm{l:List XB}(h:Ol [] l):l=[]:=by
 cases l with
 |nil=>rfl
 |cons _ _=>rw[Ol] at h;cases h
structure LP(s s':St):Prop where
 ts:Ol s.ts s'.ts
 vs:MQ s.vs s'.vs
 calls:s.calls=s'.calls
 fuel:s.fuel=s'.fuel
 ended:s.ended=s'.ended
theorem MQ.refl(e:List YJ):MQ e e:=rfl
theorem MQ.trans{a b c:List YJ}(h:MQ a b)(h':MQ b c):MQ a c:=Eq.trans h h'
theorem MQ.symm{a b:List YJ}(h:MQ a b):MQ b a:=Eq.symm h
theorem LP.refl(s:St):LP s s:=⟨rfl,rfl,rfl,rfl,rfl⟩
theorem LP.symm{s t:St}(h:LP s t):LP t s:=⟨h.ts.symm,h.vs.symm,h.calls.symm,h.fuel.symm,h.ended.symm⟩
theorem LP.trans{s t u:St}(h:LP s t)(h':LP t u):LP s u:=⟨h.ts.trans h'.ts,h.vs.trans h'.vs,h.calls.trans h'.calls,h.fuel.trans h'.fuel,h.ended.trans h'.ended⟩
theorem LP.push{s:St}{v:YJ}(h:LP s s')(hv:Ja v v'):LP (s.push v) (s'.push v'):=⟨h.ts,Ur hv h.vs,h.calls,h.fuel,h.ended⟩
theorem LP.ll{s:St}{t:XB}(h:LP s s')(ht:WC t t'):LP (s.ll t) (s'.ll t'):=⟨Ko ht h.ts,h.vs,h.calls,h.fuel,h.ended⟩
theorem LP.stop{s:St}(h:LP s s')(o:XG):LP (s.stop o) (s'.stop o):=⟨h.ts,h.vs,h.calls,h.fuel,rfl⟩
theorem We{s:St}(h:LP s s')(he:MQ e e'):LP (Y2 s x e) (Y2 s' x e'):=by
 have a:∀y,WC (Y3 y e) (Y3 y e'):=fun y=>Nk he (U8.refl _);have g:∀d,LP (Jx s x e d) (Jx s' x e' d):=fun d=>((h.ll (WC.refl _)).ll (a _)).ll (a _);unfold Y2;split
 .obtain⟨h1,h2⟩:=Fo he x.n.toNat;cases hv:e[x.n.toNat]? with
  |none=>rw[h2 hv];exact h.stop _
  |some v=>obtain⟨i,b,c⟩:=h1 v hv;rw[b];exact h.push c
 split
 .exact h.push (Ja.refl _)
 split
 .exact h.push (Ja.refl _)
 split
 .exact h.push (Ok he UW (U8.refl _) (U8.refl _))
 split
 .exact h.ll (a _)
 split
 .exact(h.ll (WC.refl _)).ll (a _)
 split
 .exact(h.ll (Nk he (U8.refl _))).ll (a _)
 split
 .exact g 2
 split
 .exact g 3
 .exact g 5
theorem Sd{s s':St}{c c':Option Ca}{v v':YJ}(h:LP s s')(hc:U8 c c')(hv:Ja v v'):LP (Xz s c v) (Xz s' c' v'):=by
 cases c with
 |none=>rw[U7 hc];exact h.push hv
 |some c=>
  cases c' with
  |none=>have:=U7 hc.symm;cases this
  |some c'=>
   have b:=Rp hc hv;obtain⟨o,w,k,e,g,a,l⟩:=c;obtain⟨m,w',r,q,p,a',j⟩:=c';obtain⟨rfl,rfl,rfl,rfl,_⟩:=NQ hc;obtain⟨i,_,_,_,_,_,_,d⟩:=UH hv;rw[XY,XY] at b;simp only at b;unfold Xz;simp only;rw[i,d] at b ⊢;by_cases h1:o=C/\v'.k≠5
   .rw[if_pos h1,if_pos h1];exact h.stop _
   .rw[if_neg h1,if_neg h1] at b ⊢;by_cases h2:o=C/\v'.az≠k
    .rw[if_pos h2,if_pos h2];exact h.stop _
    .rw[if_neg h2,if_neg h2] at b ⊢;by_cases h3:e.k≠0
     .rw[if_pos h3,if_pos h3];exact h.stop _
     .rw[if_neg h3,if_neg h3] at b ⊢;exact h.push (b.2 rfl)
theorem Qq{s:St}{f g g':YJ}(h:LP s s')(d:Ja f f')(c:Ja g g'):LP (US s f g) (US s' f' g'):=by
 obtain⟨e,_,i,j,_,a,b,_⟩:=UH d;unfold US;rw[e];split
 .unfold KD;rw[h.calls,h.fuel,i];split
  .exact h.stop _
  .exact⟨Ko (Nk (Ur c j) (U8.refl _)) h.ts,h.vs,rfl,rfl,h.ended⟩
 split
 .unfold NX;exact⟨Ko (Nk UW a) (Ko (WC.refl _) (Ko (Nk UW b) h.ts)),Ur c (Ur (NP d) h.vs),h.calls,h.fuel,h.ended⟩
 .exact h.stop _
theorem DK{s:St}{t:XB}(h:LP s s')(ht:WC t t'):LP (OK s t) (OK s' t'):=by
 obtain⟨hd,w,p,y⟩:=BL ht;unfold OK;rw[hd];split
 .rw[w];exact We h p
 .cases hv:s.vs with
  |nil=>have:=h.vs;rw[hv] at this;rw[Qe this];exact h
  |cons v r=>
   have g:=h.vs;rw[hv] at g;obtain⟨z,x,o,b,a⟩:=MP g;rw[o];have l:LP ⟨s.ts,r,s.calls,s.fuel,s.ended⟩ ⟨s'.ts,x,s'.calls,s'.fuel,s'.ended⟩:=⟨h.ts,a,h.calls,h.fuel,h.ended⟩
   simp only;split
   .exact Sd l y b
   split
   .obtain⟨k,j,_⟩:=UH b;rw[k,j,w];split
    .exact l.ll (Nk p (U8.refl _))
    .exact l.stop _
   .cases hq:r with
    |nil=>rw[hq] at a;rw[Qe a];exact h
    |cons u q=>
     rw[hq] at a;obtain⟨u',q',m,i,c⟩:=MP a;rw[m];obtain⟨k,j,_⟩:=UH b;obtain⟨d,e,_⟩:=UH i;simp only;split
     .exact⟨h.ts,Ur (by rw[j,e];exact Ja.refl _) c,h.calls,h.fuel,by show (if _ then _ else _)=(if _ then _ else _);rw[k,d,h.ended]⟩
     split
     .exact⟨h.ts,Ur (by rw[j,e];exact Ja.refl _) c,h.calls,h.fuel,by show (if _ then _ else _)=(if _ then _ else _);rw[k,d,h.ended]⟩
     .exact Qq ⟨h.ts,c,h.calls,h.fuel,h.ended⟩ i b
theorem VF{s:St}(h:LP s s'):LP (U1 s) (U1 s'):=by
 unfold U1;rw[h.ended];split
 .cases ht:s.ts with
  |nil=>have:=h.ts;rw[ht] at this;rw[Rm this];exact h
  |cons t r=>have a:=h.ts;rw[ht] at a;obtain⟨e,g,b,d,c⟩:=Wz a;rw[b];exact DK ⟨c,h.vs,h.calls,h.fuel,rfl⟩ d
 .exact h
theorem N6{s s':St}(h:LP s s'):∀n,LP (XO n s) (XO n s')
 |0=>h
 |n+1=>N6 (VF h) n
def Pa(s t:St):Prop:=∃n,LP (XO n s) t
theorem Pa.refl(s:St):Pa s s:=⟨0,LP.refl s⟩
theorem Pa.trans{s t u:St}(h:Pa s t)(b:Pa t u):Pa s u:=by obtain⟨n,c⟩:=h;obtain⟨m,a⟩:=b;exact⟨n+m,by rw[JV];exact(N6 c m).trans a⟩
theorem Pa.step{s t:St}(h:Pa (U1 s) t):Pa s t:=by obtain⟨n,a⟩:=h;exact⟨n+1,a⟩
theorem Pa.of{s t:St}(h:LP s s')(h':Pa s' t):Pa s t:=Pa.trans ⟨0,h⟩ h'
theorem Pa.to{s t t':St}(h:Pa s t)(h':LP t t'):Pa s t':=h.trans ⟨0,h'⟩
def O4(s:St)(o:XG):Prop:=o.k≠0/\∃n,(XO n s).ended=o
theorem O4.of{s t:St}(h:Pa s t)(c:O4 t o):O4 s o:=by obtain⟨n,d⟩:=h;obtain⟨b,m,a⟩:=c;exact⟨b,n+m,by rw[JV];exact(N6 d m).ended.trans a⟩
theorem O4.now{s:St}(h:s.ended=o)(ho:o.k≠0):O4 s o:=⟨ho,0,h⟩
theorem O4.step{s:St}(h:O4 (U1 s) o):O4 s o:=by obtain⟨b,n,a⟩:=h;exact⟨b,n+1,a⟩
theorem VB{v:YJ}(h:Ja v v'):XU v=XU v':=by
 have d:=NP h;obtain⟨c,e,_⟩:=UH h;obtain⟨a,b,_⟩:=UH d;unfold XU;simp only;rw[c];split
 .rw[a,b]
 .rw[c,e]
theorem SH{s:St}{n m:Nat}(c:(XO n s).done)(a:(XO m s).done):XO n s=XO m s:=by
 have b:XO (n+m) s=XO n s:=by rw[JV,Mo c]
 have d:XO (m+n) s=XO m s:=by rw[JV,Mo a]
 rw[<-b,<-d,Nat.add_comm]
theorem VJ{fuel:Nat}{v:YJ}(h:L9 x)(hz:x.mj<=100)(b:fuel<=100)(g:Pa (N5 x fuel) ⟨[],[v],c,fuel,Yn⟩):UY x fuel=XU v:=by
 obtain⟨n,a⟩:=g;have hd:(XO n (N5 x fuel)).done:=.inr (by have:=a.ts.symm;exact Rm this)
 rw[RN,SH (Q2 h hz b) hd];unfold TU;rw[if_pos (show (XO n (N5 x fuel)).ended.k=0 by rw[a.ended];rfl)];have d:=a.vs.symm;obtain⟨j,r,i,e,_⟩:=MP d;rw[i];exact(VB e).symm
theorem AU{fuel:Nat}(h:L9 x)(hz:x.mj<=100)(c:fuel<=100)(d:O4 (N5 x fuel) o):UY x fuel=o:=by obtain⟨a,n,b⟩:=d;have hd:(XO n (N5 x fuel)).done:=.inl (by rw[b];exact a);rw[RN,SH (Q2 h hz c) hd];unfold TU;rw[b,if_neg a]
structure Xo(s:St)(ts:List XB)(vs:List YJ)(F:Nat)(r:XG)(V:YJ)(c':Nat):Prop where
 ok:r.k=0->Pa s ⟨ts,V::vs,c',F,Yn⟩
 bad:r.k≠0->O4 s r
theorem Xo.of{s t:St}(h:Pa s t)(g:Xo t ts vs F r V c'):Xo s ts vs F r V c':=⟨fun h0=>h.trans (g.ok h0),fun h0=>O4.of h (g.bad h0)⟩
theorem Xo.step{s:St}(g:Xo (U1 s) ts vs F r V c'):Xo s ts vs F r V c':=⟨fun h0=>(g.ok h0).step,fun h0=>(g.bad h0).step⟩
theorem Xo.eqs{s t:St}(h:LP s t)(g:Xo t ts vs F r V c'):Xo s ts vs F r V c':=Xo.of ⟨0,h⟩ g
theorem Xo.to{s:St}(g:Xo s ts vs F r V c')(h:Ja V V'):Xo s ts vs F r V' c':=⟨fun h0=>(g.ok h0).to ⟨rfl,Ur h rfl,rfl,rfl,rfl⟩,g.bad⟩
theorem Xo.stop{s:St}(h:s.ended=r)(hr:r.k≠0):Xo s ts vs F r V c':=⟨fun h0=>absurd h0 hr,fun _=>O4.now h hr⟩
theorem Xo.done:Xo ⟨ts,V::vs,c',F,Yn⟩ ts vs F Yn V c':=⟨fun _=>Pa.refl _,fun h=>absurd rfl h⟩
def KS(F:Nat)(x:Tm)(E:List YJ)(c:Nat)(r:XG)(V:YJ)(c':Nat):Prop:=∀ts vs,Xo ⟨Y3 x E::ts,vs,c,F,Yn⟩ ts vs F r V c'
def So(F:Nat)(f g:YJ)(c:Nat)(r:XG)(V:YJ)(c':Nat):Prop:=∀ts vs,Xo (US ⟨ts,vs,c,F,Yn⟩ f g) ts vs F r V c'
theorem KS.congr{E':List YJ}(h:KS F x E c r V c')(he:MQ E' E)(hv:Ja V V'):KS F x E' c r V' c':=fun ts vs=>by
 have hS:LP ⟨Y3 x E'::ts,vs,c,F,Yn⟩ ⟨Y3 x E::ts,vs,c,F,Yn⟩:=⟨Ko (Nk he (U8.refl _)) rfl,rfl,rfl,rfl,rfl⟩
 exact((h ts vs).eqs hS).to hv
theorem So.congr{f g g':YJ}(h:So F f g c r V c')(hf:Ja f' f)(hg:Ja g' g)(hv:Ja V V'):So F f' g' c r V' c':=fun ts vs=>((h ts vs).eqs (Qq (LP.refl _) hf hg)).to hv
theorem XK(x:Tm)(E:List YJ)(ts:List XB)(vs:List YJ)(c F:Nat):U1 ⟨Y3 x E::ts,vs,c,F,Yn⟩=Y2 ⟨ts,vs,c,F,Yn⟩ x E:=rfl
theorem Fk{v:YJ}(hk:x.k=1)(h:E[x.n.toNat]?=D v):KS F x E c Yn v c:=fun ts vs=>by refine Xo.step ?_;rw[XK,Y2,if_pos hk,h];exact Xo.done
theorem Wy(hk:x.k=1)(h:E[x.n.toNat]?=I):KS F x E c Yw V c:=fun ts vs=>by refine Xo.step ?_;rw[XK,Y2,if_pos hk,h];exact Xo.stop rfl (by decide)
theorem Fl(hk:x.k=2):KS F x E c Yn (XP x.n) c:=fun ts vs=>by refine Xo.step ?_;rw[XK,Y2,if_neg (by omega),if_pos hk];exact Xo.done
theorem DE(hk:x.k=3):KS F x E c Yn (Xp x.n) c:=fun ts vs=>by refine Xo.step ?_;rw[XK,Y2,if_neg (by omega),if_neg (by omega),if_pos hk];exact Xo.done
theorem Fm(hk:x.k=7):KS F x E c Yn (NM (x.at 0) E) c:=fun ts vs=>by refine Xo.step ?_;rw[XK,Y2,if_neg (by omega),if_neg (by omega),if_neg (by omega),if_pos hk];exact Xo.done
theorem FP(hk:x.k=9)(h:KS F (x.at 0) E c r V c'):KS F x E c r V c':=fun ts vs=>by refine Xo.step ?_;rw[XK,Y2,if_neg (by omega),if_neg (by omega),if_neg (by omega),if_neg (by omega),if_pos hk];exact h ts vs
theorem TY(hk:x.k=10)(h:KS F (x.at 0) E c r V c')(hr:r.k≠0):KS F x E c r V' c':=fun ts vs=>by refine Xo.step ?_;rw[XK,Y2,if_neg (by omega),if_neg (by omega),if_neg (by omega),if_neg (by omega),if_neg (by omega),if_pos hk];exact⟨fun h0=>absurd h0 hr,fun _=>(h (Xj (Y7 100 x.f x.t (K5 x.n))::ts) vs).bad hr⟩
theorem T7(co:Option Ca)(ts:List XB)(v:YJ)(vs:List YJ)(c F:Nat):U1 ⟨Xj co::ts,v::vs,c,F,Yn⟩=Xz ⟨ts,vs,c,F,Yn⟩ co v:=rfl
theorem Ms{co:Option Ca}{v:YJ}(a:∀d,co=D d->d.opens=C->d.wrong.k≠0):Xo ⟨Xj co::ts,v::vs,c,F,Yn⟩ ts vs F (Xk co v).1 (Xk co v).2 c:=by
 refine Xo.step ?_;rw[T7,ON a];by_cases h:(Xk co v).1.k=0
 .rw[if_pos h];exact⟨fun _=>Pa.refl _,fun b=>absurd h b⟩
 .rw[if_neg h];exact Xo.stop rfl h
theorem EI(hk:x.k=10)(h:KS F (x.at 0) E c r V c')(hr:r.k=0):KS F x E c (Xk (Y7 100 x.f x.t (K5 x.n)) V).1 (Xk (Y7 100 x.f x.t (K5 x.n)) V).2 c':=fun ts vs=>by refine Xo.step ?_;rw[XK,Y2,if_neg (by omega),if_neg (by omega),if_neg (by omega),if_neg (by omega),if_neg (by omega),if_pos hk];refine Xo.of ((h (Xj (Y7 100 x.f x.t (K5 x.n))::ts) vs).ok hr) (Ms fun d hd ho=>?_);have:=MI 100 x.f x.t (K5 x.n) rfl d hd;rw[this.opens ho];omega
theorem Ag(x:Tm)(E:List YJ)(ts:List XB)(v:YJ)(vs:List YJ)(c F:Nat):U1 ⟨Jo x E::ts,v::vs,c,F,Yn⟩=if v.k=2 then (St.ll ⟨ts,vs,c,F,Yn⟩ (Y3 (x.at (if v.n=1 then 1 else 2)) E)) else St.stop ⟨ts,vs,c,F,Yn⟩ Yw:=rfl
theorem BK(hk:x.k=6)(h:KS F (x.at 0) E c r V c')(hr:r.k≠0):KS F x E c r V' c':=fun ts vs=>by refine Xo.step ?_;rw[XK,Y2,if_neg (by omega),if_neg (by omega),if_neg (by omega),if_neg (by omega),if_neg (by omega),if_neg (by omega),if_pos hk];exact⟨fun h0=>absurd h0 hr,fun _=>(h (Jo x E::ts) vs).bad hr⟩
theorem TW(hk:x.k=6)(h:KS F (x.at 0) E c r V c')(hr:r.k=0)(hv:V.k≠2):KS F x E c Yw V' c':=fun ts vs=>by refine Xo.step ?_;rw[XK,Y2,if_neg (by omega),if_neg (by omega),if_neg (by omega),if_neg (by omega),if_neg (by omega),if_neg (by omega),if_pos hk];refine Xo.of ((h (Jo x E::ts) vs).ok hr) (Xo.step ?_);rw[Ag,if_neg hv];exact Xo.stop rfl (by decide)
theorem E5(hk:x.k=6)(h:KS F (x.at 0) E c r V c')(hr:r.k=0)(hv:V.k=2)(h2:KS F (x.at (if V.n=1 then 1 else 2)) E c' r2 V2 c2):KS F x E c r2 V2 c2:=fun ts vs=>by refine Xo.step ?_;rw[XK,Y2,if_neg (by omega),if_neg (by omega),if_neg (by omega),if_neg (by omega),if_neg (by omega),if_neg (by omega),if_pos hk];refine Xo.of ((h (Jo x E::ts) vs).ok hr) (Xo.step ?_);rw[Ag,if_pos hv];exact h2 ts vs
def Pl(k:Int):Int:=if k=4 then 2 else if k=5 then 3 else 5
theorem Od{s:St}(a:x.k=4\/x.k=5\/x.k=8):Y2 s x E=Jx s x E (Pl x.k):=by unfold Y2 Pl;rcases a with h|h|h<;>rw[h]<;>rfl
theorem DG(hk:x.k=4\/x.k=5\/x.k=8)(h:KS F (x.at 0) E c r V c')(hr:r.k≠0):KS F x E c r V' c':=fun ts vs=>by refine Xo.step ?_;rw[XK,Od hk];exact⟨fun h0=>absurd h0 hr,fun _=>(h (Y3 (x.at 1) E::QJ (Pl x.k)::ts) vs).bad hr⟩
theorem DF(hk:x.k=4\/x.k=5\/x.k=8)(h:KS F (x.at 0) E c r V c')(hr:r.k=0)(h2:KS F (x.at 1) E c' r2 V2 c2)(hr2:r2.k≠0):KS F x E c r2 V' c2:=fun ts vs=>by refine Xo.step ?_;rw[XK,Od hk];refine Xo.of ((h (Y3 (x.at 1) E::QJ (Pl x.k)::ts) vs).ok hr) ?_;exact⟨fun h0=>absurd h0 hr2,fun _=>(h2 (QJ (Pl x.k)::ts) (V::vs)).bad hr2⟩
theorem Np(e:x.k=4\/x.k=5\/x.k=8)(h:KS F (x.at 0) E c r V c')(d:r.k=0)(b:KS F (x.at 1) E c' r2 V2 c2)(a:r2.k=0)(ts:List XB)(vs:List YJ):Pa ⟨Y3 x E::ts,vs,c,F,Yn⟩ ⟨QJ (Pl x.k)::ts,V2::V::vs,c2,F,Yn⟩:=by refine Pa.step ?_;rw[XK,Od e];exact((h (Y3 (x.at 1) E::QJ (Pl x.k)::ts) vs).ok d).trans ((b (QJ (Pl x.k)::ts) (V::vs)).ok a)
theorem DI(b:x.k=4)(h:KS F (x.at 0) E c r V c')(g:r.k=0)(d:KS F (x.at 1) E c' r2 V2 c2)(a:r2.k=0):KS F x E c (if V.k=1/\V2.k=1 then Yn else Yw) (XP (Jn (V.n+V2.n))) c2:=fun ts vs=>by
 refine Xo.of (Np (.inl b) h g d a ts vs) (Xo.step ?_);have e:Pl x.k=2:=by rw[b];rfl
 rw[e];show Xo ⟨ts,XP (Jn (V.n+V2.n))::vs,c2,F,if V.k=1/\V2.k=1 then Yn else Yw⟩ ts vs F _ _ c2
 split
 .exact Xo.done
 .exact Xo.stop rfl (by decide)
theorem An(b:x.k=5)(h:KS F (x.at 0) E c r V c')(g:r.k=0)(d:KS F (x.at 1) E c' r2 V2 c2)(a:r2.k=0):KS F x E c (if V.k=1/\V2.k=1 then Yn else Yw) (Xp (if V.n<V2.n then 1 else 0)) c2:=fun ts vs=>by
 refine Xo.of (Np (.inr (.inl b)) h g d a ts vs) (Xo.step ?_);have e:Pl x.k=3:=by rw[b];rfl
 rw[e];show Xo ⟨ts,Xp (if V.n<V2.n then 1 else 0)::vs,c2,F,if V.k=1/\V2.k=1 then Yn else Yw⟩ ts vs F _ _ c2
 by_cases hh:V.k=1/\V2.k=1
 .rw[if_pos hh];exact Xo.done
 .rw[if_neg hh];exact Xo.stop rfl (by decide)
theorem Ao{r3:XG}{V3:YJ}{c3:Nat}(b:x.k=8)(h:KS F (x.at 0) E c r V c')(i:r.k=0)(g:KS F (x.at 1) E c' r2 V2 c2)(a:r2.k=0)(d:So F V V2 c2 r3 V3 c3):KS F x E c r3 V3 c3:=fun ts vs=>by
 refine Xo.of (Np (.inr (.inr b)) h i g a ts vs) (Xo.step ?_);have e:Pl x.k=5:=by rw[b];rfl
 rw[e];exact d ts vs
theorem Fu{f g:YJ}(h3:f.k≠3)(h4:f.k≠4):So F f g c Yw V c:=fun ts vs=>by unfold US;rw[if_neg h3,if_neg h4];exact Xo.stop rfl (by decide)
theorem EQ{f g:YJ}(h3:f.k=3)(hc:c=F):So F f g c NN V c:=fun ts vs=>by unfold US KD;rw[if_pos h3,if_pos hc];exact Xo.stop rfl (by decide)
theorem Vm{f g:YJ}(h3:f.k=3)(hc:c≠F)(h:KS F f.body (g::f.env) (c+1) r V c'):So F f g c r V c':=fun ts vs=>by unfold US KD;rw[if_pos h3,if_neg hc];exact h ts vs
theorem N2{d:Ca}(h:UU (D d) S T)(b:d.opens=C):d.wrong.k=4:=by
 obtain⟨o,w,k,e,g,a,l⟩:=d;obtain⟨_,_,_,j,_⟩:=Xg.1 h;rcases j with⟨_,_,_,i⟩|⟨c,_⟩
 .exact i
 .simp only at b;rw[c] at b;cases b
def Ax(F:Nat)(f g:YJ)(B:Ty)(c:Nat)(r:XG)(V:YJ)(c':Nat):Prop:=
 (f.k=3/\So F f g c r V c'/\(r.k=0->UJ V B))\/
 (f.k=4/\f.core.k=3/\(∃A A0,UU f.given A A0)/\(∃B1,UU f.answer B1 B)/\(((Xk f.given g).1.k≠0/\r=(Xk f.given g).1/\c'=c)\/((Xk f.given g).1.k=0/\∃(B0:Ty)(r1:XG)(U:YJ),UU f.answer B0 B/\So F f.core (Xk f.given g).2 c r1 U c'/\(r1.k=0->UJ U B0)/\((r1.k≠0/\r=r1)\/(r1.k=0/\r=(Xk f.answer U).1/\(r.k=0->Ja V (Xk f.answer U).2))))))
theorem VH(ts:List XB)(vs:List YJ)(f g:YJ)(c:Nat):U1 ⟨QJ 7::ts,g::f::vs,c,F,Yn⟩=US ⟨ts,vs,c,F,Yn⟩ f g:=rfl
theorem FR{f g:YJ}(h:Ax F f g B c r V c'):So F f g c r V c':=by
 rcases h with⟨_,h,_⟩|⟨u,_,⟨_,_,j⟩,⟨_,l⟩,h⟩
 .exact h
 .intro ts vs;have q:∀d,f.given=D d->d.opens=C->d.wrong.k≠0:=fun d hd i=>by rw[hd] at j;rw[N2 j i];omega
  have x:∀d,f.answer=D d->d.opens=C->d.wrong.k≠0:=fun d hd i=>by rw[hd] at l;rw[N2 l i];omega
  unfold US;rw[if_neg (by omega),if_pos u];show Xo ⟨Xj f.given::QJ 7::Xj f.answer::ts,g::f.core::vs,c,F,Yn⟩ ts vs F r V c'
  have k:=Ms (co:=f.given) (v:=g) (ts:=QJ 7::Xj f.answer::ts) (vs:=f.core::vs) (c:=c) (F:=F) q;rcases h with⟨e,rfl,rfl⟩|⟨e,y,z,U,_,o,_,p⟩
  .exact⟨fun a=>absurd a e,fun _=>k.bad e⟩
  .refine Xo.of (k.ok e) (Xo.step ?_);rw[VH];rcases p with⟨b,rfl⟩|⟨b,rfl,w⟩
   .exact⟨fun a=>absurd a b,fun _=>(o (Xj f.answer::ts) vs).bad b⟩
   .refine Xo.of ((o (Xj f.answer::ts) vs).ok b) ?_;have m:=Ms (co:=f.answer) (v:=U) (ts:=ts) (vs:=vs) (c:=c') (F:=F) x;exact⟨fun a=>(m.ok a).to ⟨rfl,Ur (w a).symm rfl,rfl,rfl,rfl⟩,m.bad⟩
theorem Xr{n:Nat}{f:Ty}(h:Ym (n+1) f=C):Ym (n+1) (Yt f)=C:=by
 rcases Yz h with⟨k,rfl,b⟩|⟨x,y,rfl,a,c⟩
 .unfold Yt;rw[if_neg (by simp only;omega)];exact h
 .unfold Yt;rw[if_pos rfl];cases n with
  |zero=>simp[Ym] at a
  |succ n=>simp[Ym,Yk]
theorem Ub(f:Ty):(Yt f).k=f.k:=by
 unfold Yt;split
 .rename_i h;exact h.symm
 .rfl
theorem Lm:∀(m m' n:Nat)(f t:Ty)(o:XG),Ym n f=C->Ym n t=C->2*n+(if f.k=0\/t.k=0 then 1 else 0)<=m->2*n+(if f.k=0\/t.k=0 then 1 else 0)<=m'->Y7 m f t o=Y7 m' f t o
 |_,_,0,f,t,o,hf,_,_,_=>by simp[Ym] at hf
 |0,_,n+1,f,t,o,_,_,h,_=>by omega
 |_+1,0,n+1,f,t,o,_,_,_,h=>by omega
 |m+1,m'+1,n+1,f,t,o,hf,ht,h,h'=>by
  rw[Y7,Y7];by_cases hs:YD YA f t=C
  .rw[if_pos hs,if_pos hs]
  rw[if_neg hs,if_neg hs];have hne:f≠t:=fun e=>hs (by rw[e];exact Kk t);by_cases h3:f.k=3/\t.k=3
  .rw[if_pos h3,if_pos h3];rcases Yz hf with⟨k,rfl,hk⟩|⟨f1,f2,rfl,gf1,gf2⟩
   .have:=h3.1;simp only at this;omega
   rcases Yz ht with⟨k,rfl,hk⟩|⟨t1,t2,rfl,gt1,gt2⟩
   .have:=h3.2;simp only at this;omega
   have b:2*n+1<=m:=by omega
   have g:2*n+1<=m':=by omega
   have a:Y7 m t1 f1 (KL o)=Y7 m' t1 f1 (KL o):=Lm m m' n t1 f1 _ gt1 gf1 (by split<;>omega) (by split<;>omega);have d:Y7 m f2 t2 o=Y7 m' f2 t2 o:=Lm m m' n f2 t2 _ gf2 gt2 (by split<;>omega) (by split<;>omega);show D (Ca.mk L Yn 3 Yn (Y7 m t1 f1 (KL o)) (Y7 m f2 t2 o) L)=D (Ca.mk L Yn 3 Yn (Y7 m' t1 f1 (KL o)) (Y7 m' f2 t2 o) L)
   rw[a,d]
  rw[if_neg h3,if_neg h3];by_cases h0:t.k=0
  .rw[if_pos h0,if_pos h0];have c:f.k≠0:=fun e=>by
    rcases Yz hf with⟨k,rfl,hk⟩|⟨f1,f2,rfl,gf1,gf2⟩
    .rcases Yz ht with⟨k',rfl,hk'⟩|⟨t1,t2,rfl,gt1,gt2⟩
     .simp only at e h0;subst e h0;exact hne rfl
     .cases h0
    .cases e
   rw[if_pos (.inr h0)] at h h';have e:Y7 m f (Yt f) o=Y7 m' f (Yt f) o:=Lm m m' (n+1) f (Yt f) o hf (Xr hf) (by rw[Ub,if_neg (by omega)];omega) (by rw[Ub,if_neg (by omega)];omega);simp only;rw[e]
  rw[if_neg h0,if_neg h0];by_cases h1:f.k=0
  .rw[if_pos h1,if_pos h1];rw[if_pos (.inl h1)] at h h';have e:Y7 m (Yt t) t o=Y7 m' (Yt t) t o:=Lm m m' (n+1) (Yt t) t o (Xr ht) ht (by rw[Ub,if_neg (by omega)];omega) (by rw[Ub,if_neg (by omega)];omega);simp only;rw[e]
  rw[if_neg h1,if_neg h1]
def Yq(f t:Ty)(o:XG):Option Ca:=Y7 100 f t o
theorem MT{n:Nat}{f t:Ty}(hf:Ym n f=C)(ht:Ym n t=C)(hn:n<=49):Y7 99 f t o=Yq f t o:=Lm 99 100 n f t o hf ht (by split<;>omega) (by split<;>omega)
theorem OO{f t:Ty}(h:YD YA f t=C):Yq f t o=I:=by unfold Yq;rw[Y7,if_pos h]
theorem Qp{n:Nat}(d:Ym n f0=C)(c:Ym n f1=C)(a:Ym n t0=C)(b:Ym n t1=C)(e:n<=49)(h:YD YA (YM f0 f1) (YM t0 t1)≠C):Yq (YM f0 f1) (YM t0 t1) o=D ⟨L,Yn,3,Yn,Yq t0 f0 (KL o),Yq f1 t1 o,L⟩:=by rw[<-MT a d e,<-MT c b e];unfold Yq;rw[Y7,if_neg h,if_pos ⟨rfl,rfl⟩];rfl
theorem Va{n:Nat}{f t:Ty}(j:Ym (n+1) f=C)(p:Ym (n+1) t=C)(q:n<=49)(b:f.k=t.k):Yq f t o=I\/(f.k=3/\∃g a,Yq f t o=D ⟨L,Yn,3,Yn,g,a,L⟩):=by
 by_cases h:YD YA f t=C
 .exact .inl (OO h)
 rcases Yz j with⟨k,rfl,l⟩|⟨x,r,rfl,e,d⟩<;>rcases Yz p with⟨w,rfl,m⟩|⟨y,u,rfl,c,i⟩
 .simp only at b;subst b;exact absurd (Kk _) h
 .simp only at b;omega
 .simp only at b;omega
 .exact .inr ⟨rfl,_,_,Qp e d c i q h⟩
theorem DS{f t:Ty}(h:YD YA f t=C):Xk (Yq f t o) V=(Yn,V):=by rw[OO h];rfl
theorem T6:Xk (D ⟨L,Yn,3,Yn,g,a,L⟩) V=(Yn,Y9 V g a):=by rw[XY];simp only;rw[if_neg (fun h=>by cases h.1),if_neg (fun h=>by cases h.1),if_neg (fun h=>h rfl),JY];simp
theorem Mr{n:Nat}{f t:Ty}(b:Ym (n+1) f=C)(d:Ym (n+1) t=C)(i:n<=49)(c:f.k=t.k):(Xk (Yq f t o) V).1=Yn/\(Xk (Yq f t o) V).2=Y9 V (YZ (Yq f t o) f.k).given (YZ (Yq f t o) f.k).answer/\(YZ (Yq f t o) f.k).opens=L/\(YZ (Yq f t o) f.k).kind=f.k/\(YZ (Yq f t o) f.k).ends=Yn/\(YZ (Yq f t o) f.k).hides=L/\(YZ (Yq f t o) f.k).wrong=Yn:=by
 rcases Va (o:=o) b d i c with h|⟨e,g,a,h⟩
 .rw[h];refine⟨rfl,?_,rfl,rfl,rfl,rfl,rfl⟩;show V=Y9 V I I
  unfold Y9;rw[if_neg (by simp)]
 .rw[h,T6];exact⟨rfl,rfl,rfl,e.symm,rfl,rfl,rfl⟩
theorem DU{n:Nat}{f:Ty}(a:Ym (n+1) f=C)(l:n<=48)(b:f.k≠0):Xk (Yq f Yk o) V=(Yn,XX (Xk (Yq f (Yt f) o) V).2 f.k):=by
 obtain⟨_,c,j,d,i,k,g⟩:=Mr (o:=o) (V:=V) a (Xr a) (by omega) (Ub f).symm;rw[c];have e:Yq f Yk o=D ⟨(YZ (Yq f (Yt f) o) f.k).opens,(YZ (Yq f (Yt f) o) f.k).wrong,(YZ (Yq f (Yt f) o) f.k).kind,(YZ (Yq f (Yt f) o) f.k).ends,(YZ (Yq f (Yt f) o) f.k).given,(YZ (Yq f (Yt f) o) f.k).answer,C⟩:=by rw[<-MT a (Xr a) (by omega)];unfold Yq;rw[Y7,if_neg,if_neg (fun h=>by cases h.2),if_pos (show Yk.k=0 from rfl)];intro h;have:=LG _ _ h;rw[this] at b;exact b rfl
 rw[e,j,d,i,g,XY];simp only;rw[if_neg (fun h=>by cases h.1),if_neg (fun h=>by cases h.1),if_neg (fun h=>h rfl),JY];simp
theorem DT{n:Nat}{t:Ty}{s:Int}(a:Ym (n+1) t=C)(l:n<=48)(b:t.k≠0):Xk (Yq Yk t o) (XX U s)=if s≠t.k then (o,XX U s) else (Yn,(Xk (Yq (Yt t) t o) U).2):=by
 obtain⟨_,i,k,d,g,c,j⟩:=Mr (o:=o) (V:=U) (Xr a) a (by omega) (Ub t);rw[i];rw[Ub] at k d g c j;rw[Ub];have e:Yq Yk t o=D ⟨C,o,(YZ (Yq (Yt t) t o) t.k).kind,(YZ (Yq (Yt t) t o) t.k).ends,(YZ (Yq (Yt t) t o) t.k).given,(YZ (Yq (Yt t) t o) t.k).answer,(YZ (Yq (Yt t) t o) t.k).hides⟩:=by rw[<-MT (Xr a) a (by omega)];unfold Yq;rw[Y7,if_neg,if_neg (fun h=>by cases h.1),if_neg b,if_pos (show Yk.k=0 from rfl)];intro h;have:=LG _ _ h;rw[<-this] at b;exact b rfl
 rw[e,d,g,c,XY];simp only;rw[if_neg (fun h=>h.2 rfl)];by_cases hs:s≠t.k
 .rw[if_pos hs,if_pos ⟨by trivial,hs⟩]
 .rw[if_neg hs,if_neg (fun h=>hs h.2),if_neg (fun h=>h rfl),JY];simp[YJ.core,XX]
theorem WG{c:Option Ca}{v:YJ}(g:UU c S T)(j:UJ v S):((Xk c v).1.k=0->UJ (Xk c v).2 T)/\((Xk c v).1.k=0\/(Xk c v).1.k=4):=by
 have i:∀d,c=D d->d.opens=C->d.wrong.k≠0:=fun d hd b=>by rw[hd] at g;rw[N2 g b];omega
 have a:=ON (s:=⟨[],[],0,0,Yn⟩) (v:=v) i;rcases BP (s:=⟨[],[],0,0,Yn⟩) g j with⟨u,hu,tu⟩|⟨o,b,e⟩
 .rw[hu] at a;by_cases h0:(Xk c v).1.k=0
  .rw[if_pos h0] at a;have:u=(Xk c v).2:=by have:=congrArg St.vs a;simpa[St.push] using this
   exact⟨fun _=>this▸tu,.inl h0⟩
  .rw[if_neg h0] at a;have:=congrArg St.ended a;exact absurd (show (Xk c v).1.k=0 by rw[<-show Yn=(Xk c v).1 from this];rfl) h0
 .rw[b] at a;by_cases h0:(Xk c v).1.k=0
  .rw[if_pos h0] at a;have:=congrArg St.ended a;have k:o=Yn:=this;rw[k] at e;cases e
  .rw[if_neg h0] at a;have:o=(Xk c v).1:=congrArg St.ended a;exact⟨fun h=>absurd h h0,.inr (this▸e)⟩
theorem So.any{f g:YJ}(h:So F f g c r V c')(hr:r.k≠0):So F f g c r V' c':=fun ts vs=>⟨fun h0=>absurd h0 hr,(h ts vs).bad⟩
theorem Ax.any{f g:YJ}(h:Ax F f g B c r V c')(d:r.k≠0):Ax F f g B c r V' c':=by
 rcases h with⟨e,b,_⟩|⟨e,b,x,p,i⟩
 .exact .inl ⟨e,b.any d,fun h=>absurd h d⟩
 .refine .inr ⟨e,b,x,p,?_⟩;rcases i with i|⟨k,j,q,U,u,o,m,a⟩
  .exact .inl i
  .refine .inr ⟨k,j,q,U,u,o,m,?_⟩;rcases a with h|⟨h,l,_⟩
   .exact .inl h
   .exact .inr ⟨h,l,fun w=>absurd w d⟩
theorem Vy(U:YJ):Y9 U I I=U:=by unfold Y9;rw[if_neg (by simp)]
theorem Nt(U:YJ)(g a:Option Ca):(g=I/\a=I/\Y9 U g a=U)\/Y9 U g a=(if U.k=4 then KF U.core (YH g U.given) (YH U.answer a) else KF U g a):=by
 by_cases h:g.isSome=C\/a.isSome=C
 .right;unfold Y9;rw[if_pos h]
 .left;have c:g=I:=by cases g with
   |none=>rfl
   |some _=>exact absurd (.inl rfl) h
  have b:a=I:=by cases a with
   |none=>rfl
   |some _=>exact absurd (.inr rfl) h
  subst c b;exact⟨rfl,rfl,Vy U⟩
theorem D7(o:UJ U (YM f0 f1))(i:UU g t0 f0)(k:UU a f1 t1)(m:UJ X t0)(d:(Xk g X).1.k≠0):Ax F (Y9 U g a) X t1 c (Xk g X).1 V c:=by
 rcases Nt U g a with⟨rfl,_,_⟩|e
 .exact absurd rfl d
 rw[e];rcases KK o with⟨p,_⟩|⟨q,_,j,u,r,_,b,h⟩
 .rw[if_neg (by omega)];exact .inr ⟨rfl,p,⟨_,_,i⟩,⟨_,k⟩,.inl ⟨d,rfl,rfl⟩⟩
 .rw[if_pos q];have l:=(Mq i b m).1 d;refine .inr ⟨rfl,j,⟨_,_,UF i b⟩,⟨_,UF h k⟩,.inl ⟨?_,?_,rfl⟩⟩
  .show (Xk (YH g U.given) X).1.k≠0
   rw[l];exact d
  .show (Xk g X).1=(Xk (YH g U.given) X).1
   rw[l]
theorem D6{Z:YJ}(hU:UJ U (YM f0 f1))(u:UU g t0 f0)(d:UU a f1 t1)(hX:UJ X t0)(h1:(Xk g X).1.k=0)(y:Ax F U (Xk g X).2 f1 c r2 Z c2)(k:r2.k≠0):Ax F (Y9 U g a) X t1 c r2 V c2:=by
 rcases Nt U g a with⟨rfl,rfl,e⟩|e
 .rw[e,<-XS.1 d];exact y.any k
 rw[e];rcases y with⟨k3,h3,h4⟩|⟨k4,x,⟨A,A0,_⟩,_,h5⟩
 .rw[if_neg (by omega)];exact .inr ⟨rfl,k3,⟨_,_,u⟩,⟨_,d⟩,.inr ⟨h1,f1,r2,Z,d,h3,h4,.inl ⟨k,rfl⟩⟩⟩
 .rw[if_pos k4];rcases KK hU with⟨k3,_⟩|⟨_,_,_,A0,o,_,i,p⟩
  .omega
  obtain⟨j,r⟩:=(Mq u i hX).2 h1;refine .inr ⟨rfl,x,⟨_,_,UF u i⟩,⟨_,UF p d⟩,?_⟩;show ((Xk (YH g U.given) X).1.k≠0/\r2=(Xk (YH g U.given) X).1/\c2=c)\/((Xk (YH g U.given) X).1.k=0/\∃(o:Ty)(b:XG)(W:YJ),UU (YH U.answer a) o t1/\So F U.core (Xk (YH g U.given) X).2 c b W c2/\(b.k=0->UJ W o)/\((b.k≠0/\r2=b)\/(b.k=0/\r2=(Xk (YH U.answer a) W).1/\(r2.k=0->Ja V (Xk (YH U.answer a) W).2))))
  rw[j];rcases h5 with⟨l,m,q⟩|⟨l,B1,b,W,m,q,h9,w⟩
  .exact .inl ⟨l,m,q⟩
  .refine .inr ⟨l,B1,b,W,UF m d,q.congr (Ja.refl _) (r (by rw[j];exact l)) (Ja.refl _),h9,?_⟩;rcases w with h|⟨h,z,_⟩
   .exact .inl h
   .refine .inr ⟨h,?_,fun h0=>absurd h0 k⟩;rw[(Mq m d (h9 h)).1 (by rw[<-z];exact k)];exact z
theorem D5{Z:YJ}(hU:UJ U (YM f0 f1))(u:UU g t0 f0)(d:UU a f1 t1)(hX:UJ X t0)(h1:(Xk g X).1.k=0)(h2:Ax F U (Xk g X).2 f1 c Yn Z c2):Ax F (Y9 U g a) X t1 c (Xk a Z).1 (Xk a Z).2 c2:=by
 rcases Nt U g a with⟨rfl,rfl,e⟩|e
 .rw[e,<-XS.1 d];exact h2
 rw[e];rcases h2 with⟨k3,h3,h4⟩|⟨k4,z,⟨A,A0,_⟩,_,h5⟩
 .rw[if_neg (by omega)];exact .inr ⟨rfl,k3,⟨_,_,u⟩,⟨_,d⟩,.inr ⟨h1,f1,Yn,Z,d,h3,h4,.inr ⟨rfl,rfl,fun _=>Ja.refl _⟩⟩⟩
 .rw[if_pos k4];rcases KK hU with⟨k3,_⟩|⟨_,_,_,A0,o,_,i,p⟩
  .omega
  obtain⟨k,r⟩:=(Mq u i hX).2 h1;refine .inr ⟨rfl,z,⟨_,_,UF u i⟩,⟨_,UF p d⟩,.inr ?_⟩;show (Xk (YH g U.given) X).1.k=0/\∃(o:Ty)(b:XG)(W:YJ),UU (YH U.answer a) o t1/\So F U.core (Xk (YH g U.given) X).2 c b W c2/\(b.k=0->UJ W o)/\((b.k≠0/\(Xk a Z).1=b)\/(b.k=0/\(Xk a Z).1=(Xk (YH U.answer a) W).1/\((Xk a Z).1.k=0->Ja (Xk a Z).2 (Xk (YH U.answer a) W).2)))
  rw[k];rcases h5 with⟨l,m,_⟩|⟨l,B1,b,W,m,h8,h9,y⟩
  .exact absurd (by rw[<-m];rfl) l
  .refine⟨l,B1,b,W,UF m d,h8.congr (Ja.refl _) (r (by rw[k];exact l)) (Ja.refl _),h9,?_⟩;rcases y with⟨h,x⟩|⟨h,x,w⟩
   .exact absurd (by rw[<-x];rfl) h
   .obtain⟨h11,h12⟩:=(Mq m d (h9 h)).2 (by rw[<-x];rfl);obtain⟨j,q⟩:=Rp (U8.refl a) (w rfl);refine .inr ⟨h,by rw[h11,j],fun h0=>?_⟩;exact(q h0).trans (h12 (by rw[h11,<-j];exact h0)).symm
end Go.Proofs.YtnddkmccagiclabGreatDoor
