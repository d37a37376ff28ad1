import Derived.Test.YtnddkmccagiclabGreatDoorZyd
import Derived.Maps.OwnOps
set_option maxRecDepth 20000
set_option maxHeartbeats 16000000
open Go.RowKit Go.Proofs.Tryz
open Go.Value renaming slice→C,int→I,agg→Zh,tuple→ZH,slice→ZJ,ownBlock→ZN
open Option renaming none→F,some→M,bind_some→ZV
open List renaming setIfInBounds_toArray→G,set_cons_zero→Zb,set_cons_succ→Zc,getElem_cons_zero→Zm,length_singleton→Zx,take_succ_eq_append_getElem→Zy,length_append→Zz,getElem_cons_succ→ZA,eq_nil_of_length_eq_zero→ZB,map_nil→ZD,length_map→ZF,map_cons→ZG,mem_singleton→ZK,mem_append→ZL,map_append→ZM,getElem_mem→ZQ,length_eq_zero_iff→ZS,mem_map→ZW,getElem_of_mem→ZY,map_congr_left→ZZ,mem_or_eq_of_mem_set→Z3,take_of_length_le→Z7,mem_cons→Yc
open Go.IntKind renaming i64→L
open Go.World renaming block_lt_of_cell?→Z,cell?_of_block→Zv,cell?_setCell_other→Zw,frozen?_setCell→ZI,ownsRow_nil→ZT,frozen?_of_block→ZU
open Go renaming cell_later→Za,World→Zi,bodyPost_ret→Zq,Calls→Zt,Value→ZE,wp_region_held_drew→ZX,heap_alloc_new→Z0,Addr→Z5,wpAnyH→Yd
open Go.Proofs.Tryz renaming prog→Zd,results57→Zr,underlying3→ZR,underlying22→Z4,ntmps91→Z6,func91→Z9,results92→Ya,underlying183→Ye,ntmps39→Yf,ntmps92→Yg
open Go.RowKit.Below renaming refl→Ze
open Go.Ending renaming returned→Zf
open Nat renaming le_refl→Zg,zero_add→Zu,zero_mul→ZO,add_zero→ZP,zero_le→Z1,one_mul→Z2,le_trans→Yh
open Go.Obj renaming cells→Zj
open Go.RowKit renaming Below→Zk,Hid→Zn
open Go.Act renaming put→Zl
open Bool renaming false→Zo,true→Zp,eq_iff_iff→Z8
open Option.some renaming inj→Zs,injEq→ZC
open Go.Region renaming wanted→Yb
namespace Go.Proofs.YtnddkmccagiclabGreatDoor
variable {x:TT}{V V0 W w w' w1 w2 w3 wr:Zi}{J S base c cap1 ch cw fuel g gg i j:Nat}{cs:List TT}{X:Obj}{P:Program}{md:Region.Mode}{ops:Array Oper}{Q:Nat->Prop}{o:Oper}{listed:Array Bool}{a:Act}{ts us uu:List Tr}{k:Int}{vh vw:ZE}{ah:Option Z5}
def LC(k:Int)(m:Nat):Bool:=decide (0<=k)&&decide (k<=2)&&((m:Int)==0) || (k==3&&(m:Int)==2)
def Ug:Ty->Bool
 |⟨k,l⟩=>LC k l.length&&(l.map fun t=>Ug t).all id
theorem Ba(k:Int)(l:List Ty):Ug ⟨k,l⟩=(LC k l.length&&l.all Ug):=by rw[Ug,List.all_map];rfl
theorem Ck(f:Ty->Bool)(l:List Tr)(j:Nat)(h:j<l.length):((l.take (j+1)).all fun t=>f t.ty)=(((l.take j).all fun t=>f t.ty)&&f l[j].ty):=by rw[Zy h,List.all_append];simp
theorem SP(t:Tr):Ug t.ty=(LC t.k t.l.length&&t.l.all fun t=>Ug t.ty):=by obtain⟨k,a,c,l⟩:=t;rw[Tr.lh,Ba,ZF,List.all_map];rfl
theorem R5(n:Nat)(x:Tr)(A:Option Z5)(HA:Zn (A=x.a))(w:Zi)(hx:x.In w)(hh:x.hgt<=n+1)(hs:x.sm)
  (ih:Zn (∀(x:Tr)(w:Zi),x.In w->x.hgt<=n->x.sm->Zt Zd 133 #[Zh #[I L x.k,C x.a x.l.length x.c]] w fun e w'=>e=Zf (.bool (Ug x.ty))/\Zk w.heap.size w w')) :
  Zt Zd 133 #[Zh #[I L x.k,C A x.l.length x.c]] w fun e w'=>e=Zf (.bool (Ug x.ty))/\Zk w.heap.size w w':=by
 have a1:=hs.len;have u:bL w (w.alloc (Zj #[I L x.k,C A x.l.length x.c] 24)):=(Ze _ _).alloc (Zg _) _;go_enter func133,ntmps133;go_upto_region 1 with fail;go_cut [3] (fun s3 wx=>s3=.bool (LC x.k x.l.length)/\wx=w.alloc (Zj #[I L x.k,C A x.l.length x.c] 24))
 case first=>
  by_cases k0:0<=x.k
  .by_cases k2:x.k<=2
   .have k:(x.k==3)=Zo:=by simp;omega
    cases m0:((x.l.length:Int)==0) with
    |true=>
     go_wp2_with fail;go_meet
     case rel=>exact⟨by simp[LC,k0,k2,m0],rfl⟩
    |false=>
     go_wp2_with fail;go_meet
     case rel=>exact⟨by simp[LC,m0,k],rfl⟩
   .have d2:decide (x.k<=2)=Zo:=by simpa using k2
    cases k:(x.k==3) with
    |true=>
     go_wp2_with fail;go_meet
     case rel=>exact⟨by simp[LC,d2,k],rfl⟩
    |false=>
     go_wp2_with fail;go_meet
     case rel=>exact⟨by simp[LC,d2,k],rfl⟩
  .have d0:decide (0<=x.k)=Zo:=by simpa using k0
   have k:(x.k==3)=Zo:=by simp;omega
   go_wp2_with fail;go_meet
   case rel=>exact⟨by simp[LC,d0,k],rfl⟩
 case rest=>
 obtain⟨h3,y⟩:=hcut;subst h3 y;go_wp2_with fail;go_loopg [3,34] x.l.length (fun g b i wr=>∃(j:Nat)(c:Bool),j<=x.l.length/\g=x.l.length-j/\b=.bool c/\i=I L (j:Int)/\bL w wr/\Zn (c=(LC x.k x.l.length&&(x.l.take j).all fun t=>Ug t.ty)))
 case atStart=>exact⟨0,_,Z1 _,rfl,rfl,rfl,u,by show _=_;simp⟩
 case round=>
  obtain⟨j,c,hj,hg,rfl,rfl,a,h⟩:=hrel;have HG:=Yy hg;clear hg;by_cases hlt:j<x.l.length
  .obtain⟨b,o,ea,x0,x1,hxj⟩:=hx.part j hlt;have eA:=HA.out.trans ea;subst eA;clear ea HA;replace x0:=Za a x0;replace x1:=Za a x1;have i1:(j:Int)<(x.l.length:Int):=by omega
   have i0:(0:Int)<=(j:Int):=by omega
   have lb:b<wr.heap.size:=Z _ _ x0;obtain⟨r,z⟩:∃r,Ug x.l[j].ty=r:=⟨_,rfl⟩
   have p:Zn (∀(w:Zi),x.l[j].In w->Zt Zd 133 #[Zh x.l[j].v] w fun e w'=>e=Zf (.bool r)/\bL w w'):=by intro w h1;have:=ih.out x.l[j] w h1 (Tr.mf hh j hlt) (hs.part j hlt);rw[z] at this;exact this
   have q:=Yy z;clear z;have m:Zn ((LC x.k x.l.length&&(x.l.take (j+1)).all fun t=>Ug t.ty)=((LC x.k x.l.length&&(x.l.take j).all fun t=>Ug t.ty)&&r)):=by
    show _=_
    rw[Ck Ug x.l j hlt,q.out,Bool.and_assoc]
   have d:bL w (wr.alloc (Zj x.l[j].v 24)):=a.alloc a.size _;cases c
   .have HN:Zn (Zo=(LC x.k x.l.length&&(x.l.take (j+1)).all fun t=>Ug t.ty)):=by show _=_;rw[m.out,<-h.out];rfl
    clear m h p q ih;go_wp2_with fail;go_roundg (x.l.length-(j+1))
    case measure=>rw[HG.out];omega
    case rel=>exact⟨j+1,Zo,by omega,rfl,rfl,by go_num,d,HN⟩
   .have HN:Zn (r=(LC x.k x.l.length&&(x.l.take (j+1)).all fun t=>Ug t.ty)):=by show _=_;rw[m.out,<-h.out];rfl
    clear m h q ih;go_wp2_with fail;refine(p.out _ (hxj.below d)).mono ?_;rintro e w2 ⟨rfl,l⟩;have a0:=d.trans (l.mono d.size);clear l d p x0 x1;go_wp2_with fail;go_roundg (x.l.length-(j+1))
    case measure=>rw[HG.out];omega
    case rel=>exact⟨j+1,r,by omega,rfl,rfl,by go_num,a0,HN⟩
  .have HN:Zn (c=Ug x.ty):=by
    show _=_
    rw[h.out,SP,Z7 (by omega)]
   clear h;go_wp2_with fail;go_ret;exact⟨by rw[<-HN.out];rfl,a⟩
theorem TC(n:Nat):∀(x:Tr)(w:Zi),x.In w->x.hgt<=n->x.sm->Zt Zd 133 #[Zh #[I L x.k,C x.a x.l.length x.c]] w fun e w'=>e=Zf (.bool (Ug x.ty))/\Zk w.heap.size w w':=by
 induction n with
 |zero=>intro x w _ h;have:=x.ml;omega
 |succ n ih=>intro x w b h a;exact R5 n x x.a rfl w b h a (fun x w b h a=>ih x w b h a)
def most(l:List Tr):Nat:=(l.map Tr.hgt).foldr max 0
theorem Mg:∀(l r:List Tr),most (l++r)=max (most l) (most r)
 |[],r=>by simp[most]
 |t::l,r=>by have:=Mg l r;simp only[most,List.cons_append,ZG,List.foldr_cons] at this ⊢;rw[this];omega
theorem Bs(l:List Tr)(j:Nat)(h:j<l.length):most (l.take (j+1))=max (most (l.take j)) l[j].hgt:=by rw[Zy h,Mg];simp[most]
theorem Ey(l:List Tr)(j:Nat):most (l.take j)<=most l:=by have h:=Mg (l.take j) (l.drop j);rw[List.take_append_drop] at h;omega
theorem TF(t:Tr):t.hgt=most t.l+1:=by obtain⟨k,a,c,l⟩:=t;rw[Tr.nk];rfl
theorem TZ(n:Nat)(hn:n<=1000000000)(x:Tr)(A:Option Z5)(HA:Zn (A=x.a))(w:Zi)(hx:x.In w)(hh:x.hgt<=n+1)(hs:x.sm)
  (ih:Zn (∀(x:Tr)(w:Zi),x.In w->x.hgt<=n->x.sm->Zt Zd 134 #[Zh #[I L x.k,C x.a x.l.length x.c]] w fun e w'=>e=Zf (I L (x.hgt:Int))/\Zk w.heap.size w w')) :
  Zt Zd 134 #[Zh #[I L x.k,C A x.l.length x.c]] w fun e w'=>e=Zf (I L (x.hgt:Int))/\Zk w.heap.size w w':=by
 have a0:=hs.len;have hm:=TF x;have y:=Yy hm;have a2:most x.l<=n:=by omega
 clear hm;have l:bL w (w.alloc (Zj #[I L x.k,C A x.l.length x.c] 24)):=(Ze _ _).alloc (Zg _) _;go_enter func134,ntmps134;go_wp2_with fail;go_loopg [3,9] x.l.length (fun g b i wr=>∃(j m:Nat),j<=x.l.length/\g=x.l.length-j/\b=I L (m:Int)/\i=I L (j:Int)/\bL w wr/\Zn (m=most (x.l.take j)))
 case atStart=>exact⟨0,0,Z1 _,rfl,rfl,rfl,l,rfl⟩
 case round=>
  obtain⟨j,m,hj,z,rfl,rfl,a,d⟩:=hrel;have HG:=Yy z;clear z;have a1:m<=n:=by have:=Ey x.l j;rw[d.out];omega
  by_cases hlt:j<x.l.length
  .obtain⟨b,o,ea,x0,x1,hxj⟩:=hx.part j hlt;have eA:=HA.out.trans ea;subst eA;clear ea HA;replace x0:=Za a x0;replace x1:=Za a x1;have i1:(j:Int)<(x.l.length:Int):=by omega
   have i0:(0:Int)<=(j:Int):=by omega
   have lb:b<wr.heap.size:=Z _ _ x0;obtain⟨r,p⟩:∃r,x.l[j].hgt=r:=⟨_,rfl⟩
   have HI:Zn (∀(w:Zi),x.l[j].In w->Zt Zd 134 #[Zh x.l[j].v] w fun e w'=>e=Zf (I L (r:Int))/\bL w w'):=by intro w h1;have:=ih.out x.l[j] w h1 (Tr.mf hh j hlt) (hs.part j hlt);rw[p] at this;exact this
   have HT:Zn (most (x.l.take (j+1))=max m r):=by
    show _=_
    rw[Bs x.l j hlt,p,<-d.out]
   clear p;have c:bL w (wr.alloc (Zj x.l[j].v 24)):=a.alloc a.size _;clear d ih;go_wp2_with fail;refine(HI.out _ (hxj.below c)).mono ?_;rintro e w2 ⟨rfl,h⟩;have k:=c.trans (h.mono c.size);clear h c HI x0 x1;rcases Nat.lt_or_ge m r with q|q
   .have hmi:(m:Int)<(r:Int):=by omega
    have u:Zn (r=most (x.l.take (j+1))):=by show _=_;rw[HT.out];omega
    go_wp2_with fail;go_roundg (x.l.length-(j+1))
    case measure=>rw[HG.out];omega
    case rel=>exact⟨j+1,r,by omega,rfl,(by first|rfl|(congr 1;omega)),by go_num,k,u⟩
   .have hmi:(r:Int)<=(m:Int):=by omega
    have u:Zn (m=most (x.l.take (j+1))):=by show _=_;rw[HT.out];omega
    go_wp2_with fail;go_roundg (x.l.length-(j+1))
    case measure=>rw[HG.out];omega
    case rel=>exact⟨j+1,m,by omega,rfl,(by first|rfl|(congr 1;omega)),by go_num,k,u⟩
  .have HN:Zn (m+1=x.hgt):=by
    show _=_
    rw[d.out,y.out,Z7 (by omega)]
   clear d y;go_wp2_with fail;go_ret;exact⟨by rw[<-HN.out];rfl,a⟩
theorem WE(n:Nat):n<=1000000000->∀(x:Tr)(w:Zi),x.In w->x.hgt<=n->x.sm->Zt Zd 134 #[Zh #[I L x.k,C x.a x.l.length x.c]] w fun e w'=>e=Zf (I L (x.hgt:Int))/\Zk w.heap.size w w':=by
 induction n with
 |zero=>intro _ x w _ h;have:=x.ml;omega
 |succ n ih=>intro c x w b h a;exact TZ n (by omega) x x.a rfl w b h a (fun x w b h a=>ih (by omega) x w b h a)
theorem BF(k b:Int)(a a':Option Z5)(m d c c':Nat)(w:Zi):
  Zt Zd 93 #[Zh #[I L k,C a m c],Zh #[I L b,C a' d c']] w fun e w'=>∃g,w.heap.size<=g/\e=Zf (Zh #[I L 3,C (M ⟨g,0,F⟩) 2 2])/\w'.cell? ⟨g,0,F⟩=M (I L k)/\w'.cell? ⟨g,1,F⟩=M (C a m c)/\w'.cell? ⟨g,2,F⟩=M (I L b)/\w'.cell? ⟨g,3,F⟩=M (C a' d c')/\Zk w.heap.size w w':=by
 go_enter func93,ntmps93;go_wp2_with fail;refine Zq (v:=Zh #[I L 3,C (M ⟨w.heap.size+1+1+1,0,F⟩) 2 2]) (by simp[results,results93,go_sem]) rfl ⟨_,?_,rfl,by simp[go_sem],by simp[go_sem],by simp[go_sem],by simp[go_sem],?_⟩
 .omega
 exact((((Ze _ _).alloc (Zg _) _).alloc (by simp) _).alloc (by simp;omega) _).alloc (by simp;omega) _
theorem O9(x y:Tr)(w:Zi)(j:x.In w)(d:y.In w):
  Zt Zd 93 #[Zh #[I L x.k,C x.a x.l.length x.c],Zh #[I L y.k,C y.a y.l.length y.c]] w fun e w'=>∃g,w.heap.size<=g/\e=Zf (Zh #[I L 3,C (M ⟨g,0,F⟩) 2 2])/\(Tr.mk 3 (M ⟨g,0,F⟩) 2 [x,y]).In w'/\Zk w.heap.size w w':=by
 refine(BF x.k y.k x.a y.a x.l.length y.l.length x.c y.c w).mono ?_;rintro e w' ⟨g,i,rfl,c,k,b,h,a⟩;refine⟨g,i,rfl,?_,a⟩;exact Tr.mp c k b h (j.below a) (d.below a)
theorem Ue(w:Zi):Zt Zd 56 #[] w fun e w'=>e=Zf (Zh #[I L 0,C F 0 0])/\w'=w.alloc (Zj #[I L 0,C F 0 0] 24):=by go_enter func56,ntmps56;go_wp2_with fail;exact Zq (v:=Zh #[I L 0,C F 0 0]) (by simp[results,results56,go_sem]) rfl ⟨rfl,rfl⟩
theorem Qw(n:Nat)(x y:Tr)(w:Zi)(hx:x.In w)(hy:y.In w)(hh:x.hgt<=n+1)(hs:x.sm)
  (ih:Zn (∀(x y:Tr)(w:Zi),x.In w->y.In w->x.hgt<=n->x.sm->Zt Zd 39 #[Zh #[I L x.k,C x.a x.l.length x.c],Zh #[I L y.k,C y.a y.l.length y.c]] w fun e w'=>e=Zf (.bool (YD YA x.ty y.ty))/\Zk w.heap.size w w')) :
  Zt Zd 39 #[Zh #[I L x.k,C x.a x.l.length x.c],Zh #[I L y.k,C y.a y.l.length y.c]] w fun e w'=>e=Zf (.bool (YD YA x.ty y.ty))/\Zk w.heap.size w w':=by
 have a4:=hs.len;obtain⟨tk,a0⟩:∃b,(x.k==y.k)=b:=⟨_,rfl⟩
 obtain⟨tl,k⟩:∃b,((x.l.length:Int)==(y.l.length:Int))=b:=⟨_,rfl⟩
 have z:=Yy a0;have HL:=Yy k;have u:((w.alloc (Zj #[I L x.k,C x.a x.l.length x.c] 24)).alloc (Zj #[I L y.k,C y.a y.l.length y.c] 24)).cell? ⟨w.heap.size,1,F⟩=M (C x.a x.l.length x.c):=by simp[go_sem]
 have p:((w.alloc (Zj #[I L x.k,C x.a x.l.length x.c] 24)).alloc (Zj #[I L y.k,C y.a y.l.length y.c] 24)).cell? ⟨w.heap.size+1,1,F⟩=M (C y.a y.l.length y.c):=by simp[go_sem]
 have HP:=Uy u p;clear u p;have l:bL w ((w.alloc (Zj x.v 24)).alloc (Zj y.v 24)):=((Ze _ _).alloc (Zg _) _).alloc (by simp) _;cases tk
 .have HT:Zn ((x.k==y.k&&(x.l.length:Int)==(y.l.length:Int))=Zo):=by show _=Zo;rw[z.out];rfl
  clear k HL z;go_enter func39,Yf;go_wp2_with fail;go_loopw [5,6] (fun b i wr=>b=.bool Zo/\i=I L 0/\wr=((w.alloc (Zj x.v 24)).alloc (Zj y.v 24))) (fun _ _ _=>0)
  case atStart=>exact⟨rfl,rfl,rfl⟩
  case round=>obtain⟨rfl,rfl,rfl⟩:=hrel;go_wp2_with fail;go_ret;exact⟨by rw[Kt YA x y rfl HT.out];rfl,l⟩
 .cases tl
  .have HT:Zn ((x.k==y.k&&(x.l.length:Int)==(y.l.length:Int))=Zo):=by show _=Zo;rw[z.out,HL.out];rfl
   clear HL z;go_enter func39,Yf;go_wp2_with fail;go_loopw [5,6] (fun b i wr=>b=.bool Zo/\i=I L 0/\wr=((w.alloc (Zj x.v 24)).alloc (Zj y.v 24))) (fun _ _ _=>0)
   case atStart=>exact⟨rfl,rfl,rfl⟩
   case round=>obtain⟨rfl,rfl,rfl⟩:=hrel;go_wp2_with fail;go_ret;exact⟨by rw[Kt YA x y rfl HT.out];rfl,l⟩
  .have hk:Zn (x.k=y.k):=by show x.k=y.k;have h:=z.out;simpa using h
   have hl:Zn (x.l.length=y.l.length):=by have h:=HL.out;simp at h;exact Int.ofNat.inj h
   clear HL z;go_enter func39,Yf;go_wp2_with fail;clear a0 k;go_loopg [5,6] (x.l.length+1) (fun g b i wr=>∃(j:Nat)(c:Bool),j<=x.l.length/\g=(if c then x.l.length-j+1 else 0)/\b=.bool c/\i=I L (j:Int)/\bL w wr/\cL wr w.heap.size 1 (x.s)/\cL wr (w.heap.size+1) 1 (y.s)/\ Zn (c=Zp->∀q(h:q<x.l.length)(h':q<y.l.length),q<j->YD YA x.l[q].ty y.l[q].ty=Zp)/\Zn (c=Zo->YD YA x.ty y.ty=Zo))
   case atStart=>exact⟨0,Zp,Z1 _,rfl,rfl,rfl,l,HP.out.1,HP.out.2,fun _ q _ _ h=>absurd h (by omega),fun h=>by cases h⟩
   case round=>
    obtain⟨j,c,hj,hg,rfl,rfl,a,u,p,HA,HB⟩:=hrel;cases c
    .have HB1:=Yy (HB.out rfl);clear HA HB hg;go_wp2_with fail;go_ret;exact⟨by rw[HB1.out];rfl,a⟩
    .have HA1:=Yy (HA.out rfl);clear HA HB;by_cases hlt:j<x.l.length
     .have hlt':j<y.l.length:=hl.out▸hlt;obtain⟨b,o,ea,x0,x1,a3⟩:=hx.part j hlt;obtain⟨b',o',eb,y0,y1,a2⟩:=hy.part j hlt';have q1:cL wr w.heap.size 1 (C (M ⟨b,o,F⟩) x.l.length x.c):=by rw[<-ea];exact u
      have q3:cL wr (w.heap.size+1) 1 (C (M ⟨b',o',F⟩) y.l.length y.c):=by rw[<-eb];exact p
      have m:=Uy u p;replace x0:=Za a x0;replace x1:=Za a x1;replace y0:=Za a y0;replace y1:=Za a y1;have i1:(j:Int)<(x.l.length:Int):=by omega
      have i2:(j:Int)<(y.l.length:Int):=by omega
      have i0:(0:Int)<=(j:Int):=by omega
      obtain⟨r,hr⟩:∃r,YD YA x.l[j].ty y.l[j].ty=r:=⟨_,rfl⟩
      have HC:Zn (∀(w:Zi),x.l[j].In w->y.l[j].In w->Zt Zd 39 #[Zh x.l[j].v,Zh y.l[j].v] w fun e w'=>e=Zf (.bool r)/\bL w w'):=by intro w h1 h2;have:=ih.out x.l[j] y.l[j] w h1 h2 (Tr.mf hh j hlt) (hs.part j hlt);rw[hr] at this;exact this
      have HR:=Yy hr;have HG:=Yy hg;clear hr u p ea eb hx hy hg;go_wp2_with fail;go_region_held3 (fun w'=>w'.cell? ⟨w.heap.size,1,F⟩=M (C (M ⟨b,o,F⟩) x.l.length x.c)/\w'.cell? ⟨w.heap.size+1,1,F⟩=M (C (M ⟨b',o',F⟩) y.l.length y.c)/\w'.cell? ⟨b,o+j*2,F⟩=M (I L x.l[j].k)/\w'.cell? ⟨b,o+j*2+1,F⟩=M (C x.l[j].a x.l[j].l.length x.l[j].c)/\w'.cell? ⟨b',o'+j*2,F⟩=M (I L y.l[j].k)/\w'.cell? ⟨b',o'+j*2+1,F⟩=M (C y.l[j].a y.l[j].l.length y.l[j].c))
       (first|exact⟨Za d q1,Za d q3,Za d x0,Za d x1,Za d y0,Za d y1⟩|go_keep)
       (first|(go_at_call 39;refine(HC.out _ (a3.below a.drew) (a2.below a.drew)).mono ?_;rintro e w2 ⟨rfl,d⟩))
      have a1:=a.drew.trans (d.mono a.size);have s1:=Za d m.out.1;have s3:=Za d m.out.2;clear d q1 q3 x0 x1 y0 y1 HC m;go_wp2_with fail;go_roundg (if r then x.l.length-(j+1)+1 else 0)
      case measure=>rw[HG.out];cases r<;>simp<;>omega
      case rel=>
       refine⟨j+1,r,by omega,rfl,rfl,by go_num,a1,s1,s3,fun h q h1 h2 hq=>?_,fun h=>?_⟩
       .by_cases e:q=j
        .subst e;rw[HR.out,h]
        .exact HA1.out q h1 h2 (by omega)
       .exact JP YA x y rfl j hlt hlt' (by rw[HR.out,h])
     .go_wp2_with fail;go_ret;refine⟨?_,a⟩;rw[LH YA x y hk.out hl.out fun q h h'=>HA1.out q h h' (by omega)];rfl
theorem X9(n:Nat):∀(x y:Tr)(w:Zi),x.In w->y.In w->x.hgt<=n->x.sm->Zt Zd 39 #[Zh #[I L x.k,C x.a x.l.length x.c],Zh #[I L y.k,C y.a y.l.length y.c]] w fun e w'=>e=Zf (.bool (YD YA x.ty y.ty))/\Zk w.heap.size w w':=by
 induction n with
 |zero=>intro x y w _ _ h;have:=x.ml;omega
 |succ n ih=>intro x y w c a h b;exact Qw n x y w c a h b (fun x y w c a h b=>ih x y w c a h b)
theorem Tz(x y:Tr)(b:(x.k != y.k)=Zp)(w:Zi):
  Zt Zd 92 #[Zh #[I L x.k,C x.a x.l.length x.c],Zh #[I L y.k,C y.a y.l.length y.c]] w fun e w'=>e=Zf (Zh #[I L 0,C F 0 0])/\Zk w.heap.size w w':=by
 go_enter func92,Yg;go_wp2_with fail;refine(Ue _).mono ?_;rintro e a ⟨rfl,rfl⟩;go_wp2_with fail;refine Zq (v:=Zh #[I L 0,C F 0 0]) (by simp[results,Ya,go_sem]) rfl ⟨rfl,?_⟩;exact((((Ze _ _).alloc (Zg _) _).alloc (by simp) _).alloc (by simp;omega) _).alloc (by simp;omega) _
theorem Tx(k:Int)(a a':Option Z5)(c c':Nat)(w:Zi):
  Zt Zd 92 #[Zh #[I L k,C a 0 c],Zh #[I L k,C a' 0 c']] w fun e w'=>e=Zf (Zh #[I L k,C F 0 0])/\Zk w.heap.size w w':=by
 go_enter func92,Yg;go_wp2_with fail;refine Zq (v:=Zh #[I L k,C F 0 0]) (by simp[results,Ya,go_sem]) rfl ⟨rfl,?_⟩;exact(((Ze _ _).alloc (Zg _) _).alloc (by simp) _).alloc (by simp;omega) _
theorem Wj{x y x0 x1 y0 y1:Tr}(g:x.l=[x0,x1])(b:y.l=[y0,y1])(d:x.k=3)(e:y.k=3):Xq x.ty y.ty=⟨3,[Xq x0.ty y0.ty,Xq x1.ty y1.ty]⟩:=by obtain⟨k,a,c,l⟩:=x;obtain⟨h,a',c',l'⟩:=y;dsimp only at g b d e;subst g b d e;simp[Tr.lh,UB,JZ]
def EV(T:Ty)(w:Zi)(e:Ending)(w':Zi):Prop:=∃t:Tr,e=Zf (Zh #[I L t.k,C t.a t.l.length t.c])/\t.ty=T/\t.In w'/\t.Bl (w.heap.size<=·)/\Zk w.heap.size w w'
theorem C4{W0:Zi}{t0 t1:Tr}{N:Nat}(y:w.heap.size+1+1<N)(a:Zk w.heap.size w W0)(i:Zk N W0 w3)(x:N<=W0.heap.size)(l:t0.In w3)(o:t1.In w3)(j:t0.Bl (N<=·))(g:t1.Bl (N<=·))(u v:ZE)(q:W=((w3.setCell ⟨w.heap.size+1+1,0,F⟩ u).setCell ⟨w.heap.size+1+1,1,F⟩ v).alloc (Zj #[I L t0.k,C t0.a t0.l.length t0.c,I L t1.k,C t1.a t1.l.length t1.c] 24)):
  (Tr.mk 3 (M ⟨w3.heap.size,0,F⟩) 2 [t0,t1]).In W/\(Tr.mk 3 (M ⟨w3.heap.size,0,F⟩) 2 [t0,t1]).Bl (w.heap.size<=·)/\Zk w.heap.size w W:=by
 have m:=i.size;have p:=a.size;have e:((w3.setCell ⟨w.heap.size+1+1,0,F⟩ u).setCell ⟨w.heap.size+1+1,1,F⟩ v).heap.size=w3.heap.size:=by simp[World.setCell]
 have r:t0.In ((w3.setCell ⟨w.heap.size+1+1,0,F⟩ u).setCell ⟨w.heap.size+1+1,0+1,F⟩ v):=X4 l (j.mono fun b h=>by omega);have k:t1.In ((w3.setCell ⟨w.heap.size+1+1,0,F⟩ u).setCell ⟨w.heap.size+1+1,0+1,F⟩ v):=X4 o (g.mono fun b h=>by omega);have d:bL w ((w3.setCell ⟨w.heap.size+1+1,0,F⟩ u).setCell ⟨w.heap.size+1+1,1,F⟩ v):=((a.trans (i.mono (by omega))).setCell (by simp;omega) _).setCell (by simp;omega) _;subst q;refine⟨?_,Tr.mg (by omega) (j.mono fun b h=>by omega) (g.mono fun b h=>by omega),d.alloc (by omega) _⟩;generalize ((w3.setCell ⟨w.heap.size+1+1,0,F⟩ u).setCell ⟨w.heap.size+1+1,1,F⟩ v)=X at *;have c:∀Y,bL X (X.alloc Y):=fun Y=>(Ze _ _).alloc (Zg _) _;rw[<-e];exact Tr.mp (by simp[go_sem]) (by simp[go_sem]) (by simp[go_sem]) (by simp[go_sem]) (r.below (c _)) (k.below (c _))
theorem Wk(bx ox by' oy c c':Nat)(x0 x1 y0 y1:Tr)(w:Zi)
  (cx0:w.cell? ⟨bx,ox,F⟩=M (I L x0.k)) (cx1:w.cell? ⟨bx,ox+1,F⟩=M (C x0.a x0.l.length x0.c)) (cx2:w.cell? ⟨bx,ox+2,F⟩=M (I L x1.k)) (cx3:w.cell? ⟨bx,ox+3,F⟩=M (C x1.a x1.l.length x1.c))
  (cy0:w.cell? ⟨by',oy,F⟩=M (I L y0.k)) (cy1:w.cell? ⟨by',oy+1,F⟩=M (C y0.a y0.l.length y0.c)) (cy2:w.cell? ⟨by',oy+2,F⟩=M (I L y1.k)) (cy3:w.cell? ⟨by',oy+3,F⟩=M (C y1.a y1.l.length y1.c))
  (H0:Zn (∀W:Zi,Zk w.heap.size w W->Zt Zd 92 #[Zh #[I L x0.k,C x0.a x0.l.length x0.c],Zh #[I L y0.k,C y0.a y0.l.length y0.c]] W (EV (Xq x0.ty y0.ty) W)))
  (H1:Zn (∀W:Zi,Zk w.heap.size w W->Zt Zd 92 #[Zh #[I L x1.k,C x1.a x1.l.length x1.c],Zh #[I L y1.k,C y1.a y1.l.length y1.c]] W (EV (Xq x1.ty y1.ty) W))) :
  Zt Zd 92 #[Zh #[I L 3,C (M ⟨bx,ox,F⟩) 2 c],Zh #[I L 3,C (M ⟨by',oy,F⟩) 2 c']] w (EV ⟨3,[Xq x0.ty y0.ty,Xq x1.ty y1.ty]⟩ w):=by
 obtain⟨W0,g⟩:∃W0,W0=(((w.alloc (Obj.cells #[I L 3,C (M ⟨bx,ox,F⟩) 2 c] 24)).alloc (Obj.cells #[I L 3,C (M ⟨by',oy,F⟩) 2 c'] 24)).alloc (Obj.cells #[I L 0,C F 0 0] 24)):=⟨_,rfl⟩
 have a5:W0.heap.size=w.heap.size+1+1+1:=by rw[g];simp
 have a:bL w W0:=by rw[g];exact(((Ze _ _).alloc (Zg _) _).alloc (by simp) _).alloc (by simp;omega) _
 have x:W0.drew.cell? ⟨w.heap.size+1+1,0,F⟩=M (I L 0):=by rw[g];simp[go_sem]
 have z:W0.drew.cell? ⟨w.heap.size+1+1,1,F⟩=M (C F 0 0):=by rw[g];simp[go_sem]
 have r2:W0.drew.frozen? ⟨w.heap.size+1+1,0,F⟩=Zo:=by rw[g];simp[go_sem]
 have r3:W0.drew.frozen? ⟨w.heap.size+1+1,1,F⟩=Zo:=by rw[g];simp[go_sem]
 have q0:W0.cell? ⟨w.heap.size,0,F⟩=M (I L 3):=by rw[g];simp[go_sem]
 have q1:W0.cell? ⟨w.heap.size,1,F⟩=M (C (M ⟨bx,ox,F⟩) 2 c):=by rw[g];simp[go_sem]
 have q2:W0.cell? ⟨w.heap.size+1,0,F⟩=M (I L 3):=by rw[g];simp[go_sem]
 have q3:W0.cell? ⟨w.heap.size+1,1,F⟩=M (C (M ⟨by',oy,F⟩) 2 c'):=by rw[g];simp[go_sem]
 have lx:bx<w.heap.size:=Z _ _ cx0;have ly:by'<w.heap.size:=Z _ _ cy0
 replace cx0:=Za a cx0;replace cx1:=Za a cx1;replace cx2:=Za a cx2;replace cx3:=Za a cx3;replace cy0:=Za a cy0;replace cy1:=Za a cy1;replace cy2:=Za a cy2;replace cy3:=Za a cy3;have HK:Zn (∀w':Zi,Zk (w.heap.size+1+1) W0 w'->(cL w' w.heap.size 0 (I L 3)/\cL w' w.heap.size 1 (C (M ⟨bx,ox,F⟩) 2 c)/\cL w' (w.heap.size+1) 1 (C (M ⟨by',oy,F⟩) 2 c')/\cL w' bx ox (I L x0.k)/\cL w' bx (ox+1) (x0.s)/\cL w' bx (ox+2) (I L x1.k)/\cL w' bx (ox+3) (x1.s)/\cL w' by' oy (I L y0.k)/\cL w' by' (oy+1) (y0.s)/\cL w' by' (oy+2) (I L y1.k)/\cL w' by' (oy+3) (y1.s))):=by intro w' h;have t:∀b i,b<w.heap.size+1+1->w'.cell? ⟨b,i,F⟩=W0.cell? ⟨b,i,F⟩:=fun b i hb=>h.cell (p:=⟨b,i,F⟩) hb;exact⟨(t _ _ (by omega)).trans q0,(t _ _ (by omega)).trans q1,(t _ _ (by omega)).trans q3,(t _ _ (by omega)).trans cx0,(t _ _ (by omega)).trans cx1,(t _ _ (by omega)).trans cx2,(t _ _ (by omega)).trans cx3,(t _ _ (by omega)).trans cy0,(t _ _ (by omega)).trans cy1,(t _ _ (by omega)).trans cy2,(t _ _ (by omega)).trans cy3⟩
 have d:Zk (w.heap.size+1+1) W0 W0.drew:=(Ze _ _).drew;have j:Zk (w.heap.size+1+1+1) W0 W0.drew:=(Ze _ _).drew;go_enter func92,Yg;go_wp2_with fail;rw[<-g];clear g q0 q1 q2 q3 cx0 cx1 cx2 cx3 cy0 cy1 cy2 cy3;go_region_held3 (fun w'=>cL w' w.heap.size 0 (I L 3)/\cL w' w.heap.size 1 (C (M ⟨bx,ox,F⟩) 2 c)/\cL w' (w.heap.size+1) 1 (C (M ⟨by',oy,F⟩) 2 c')/\cL w' bx ox (I L x0.k)/\cL w' bx (ox+1) (x0.s)/\cL w' bx (ox+2) (I L x1.k)/\cL w' bx (ox+3) (x1.s)/\cL w' by' oy (I L y0.k)/\cL w' by' (oy+1) (y0.s)/\cL w' by' (oy+2) (I L y1.k)/\cL w' by' (oy+3) (y1.s))
  (first
   |exact HK.out _ d
   |exact HK.out _ (d.alloc (by have:=d.size;omega) _)
   |exact HK.out _ (((d.setCell (by simp) _).setCell (by simp) _).alloc (by have:=d.size;simp[World.setCell];omega) _)
   |go_keep)
  (first
   |(go_at_call 92;refine(H0.out _ (a.trans (d.mono (by omega)))).mono ?_;rintro e w2 ⟨t0,rfl,a2,o,m,k⟩;replace x:=Za k x;replace z:=Za k z;replace r2:=(k.frozen (p:=⟨w.heap.size+1+1,0,F⟩) (by have:=j.size;show w.heap.size+1+1<_;omega)).trans r2;replace r3:=(k.frozen (p:=⟨w.heap.size+1+1,1,F⟩) (by have:=j.size;show w.heap.size+1+1<_;omega)).trans r3;replace d:=d.trans (k.mono (by have:=d.size;omega));replace j:=j.trans (k.mono (by have:=j.size;omega));clear H0)
   |(go_at_call 92;refine(H1.out _ (a.trans (d.mono (by omega)))).mono ?_;rintro e w3 ⟨t1,rfl,a1,r,q,l⟩;replace x:=Za l x;replace z:=Za l z;replace r2:=(l.frozen (p:=⟨w.heap.size+1+1,0,F⟩) (by have:=j.size;show w.heap.size+1+1<_;omega)).trans r2;replace r3:=(l.frozen (p:=⟨w.heap.size+1+1,1,F⟩) (by have:=j.size;show w.heap.size+1+1<_;omega)).trans r3;replace d:=d.trans (l.mono (by have:=d.size;omega));replace j:=j.trans (l.mono (by have:=j.size;omega));clear H1;have a4:w.heap.size+1+1<w3.heap.size:=Z _ _ x;have a7:w.heap.size+1+1≠w3.heap.size:=Nat.ne_of_lt a4;have a8:∀Y,cL (w3.alloc Y) (w.heap.size+1+1) 0 (I L 0):=fun Y=>Za ((Ze _ _).alloc (Zg _) Y) x;have a6:∀Y,cL (w3.alloc Y) (w.heap.size+1+1) 1 (C F 0 0):=fun Y=>Za ((Ze _ _).alloc (Zg _) Y) z))
 have HF:=Uy a2 a1;have HM:=C4 (w:=w) (W0:=W0) (w3:=w3) (N:=w.heap.size+1+1+1) (by omega) a j (by omega) (o.below l) r (m.mono fun b hb=>Yh (show _<=W0.heap.size by omega) hb) (q.mono fun b hb=>Yh (show _<=W0.heap.size by omega) (Yh (show W0.drew.heap.size<=_ from k.size) hb)) (I L 3) (C (M ⟨w3.heap.size,0,F⟩) 2 2) rfl;have y:Zn _:=HM;clear HM a2 a1 o r m q;go_wp2_with fail;refine Zq (v:=Zh #[I L 3,C (M ⟨w3.heap.size,0,F⟩) 2 2]) ?_ rfl ⟨_,rfl,?_,y.out.1,y.out.2.1,y.out.2.2⟩
 .have hc:=XJ (io:=0) (u:=I L 3) (v:=C (M ⟨w3.heap.size,0,F⟩) 2 2) x z;have a0:=Za ((Ze _ _).alloc (Zg _) (Zj #[I L t0.k,t0.s,I L t1.k,t1.s] 24)) hc.1;have a3:=Za ((Ze _ _).alloc (Zg _) (Zj #[I L t0.k,t0.s,I L t1.k,t1.s] 24)) hc.2;simp only[Zu] at a0 a3;simp[results,Ya,go_sem,a0,a3]
 .rw[Tr.lh,<-HF.out.1,<-HF.out.2];rfl
theorem P1(n:Nat):∀(x y:Tr)(w:Zi),x.In w->y.In w->x.right->y.right->x.hgt<=n->Zt Zd 92 #[Zh #[I L x.k,C x.a x.l.length x.c],Zh #[I L y.k,C y.a y.l.length y.c]] w (EV (Xq x.ty y.ty) w):=by
 induction n with
 |zero=>intro x y w _ _ _ _ h;have:=x.ml;omega
 |succ n ih=>
  intro x y w hx hy rx ry hh;by_cases hk:x.k=y.k
  .rcases rx.cases with⟨lx,kx⟩|⟨x0,x1,lx,kx,r0,r1⟩
   .rcases ry.cases with⟨ly,ky⟩|⟨y0,y1,ly,ky,_,_⟩
    .have g:x.l.length=0:=by simp[lx]
     have d:y.l.length=0:=by simp[ly]
     rw[g,d,<-hk];refine(Tx x.k x.a y.a x.c y.c w).mono ?_;rintro e w' ⟨rfl,b⟩;refine⟨Ys x.k,rfl,?_,YC _ _,YF _ _,b⟩;obtain⟨k,a,c,l⟩:=x;obtain⟨k',a',c',l'⟩:=y;dsimp only at lx ly hk;subst lx ly hk;simp[Ys,Tr.lh,UB,JZ]
    .omega
   .rcases ry.cases with⟨ly,ky⟩|⟨y0,y1,ly,ky,q0,q1⟩
    .omega
    .obtain⟨bx,ox,ax,cx0,cx1,hx0⟩:=hx.part 0 (by simp[lx]);obtain⟨a8,a6,a4,a1,a3,u⟩:=hx.part 1 (by simp[lx]);obtain⟨z,oy,ay,p,o,a5⟩:=hy.part 0 (by simp[ly]);obtain⟨a0,a7,i,m,q,j⟩:=hy.part 1 (by simp[ly]);have a2:=Tr.mf hh 0 (by simp[lx]);have r:=Tr.mf hh 1 (by simp[lx]);rw[ax] at a4;rw[ay] at i;obtain⟨rfl,rfl⟩:bx=a8/\ox=a6:=by simpa using a4
     obtain⟨rfl,rfl⟩:z=a0/\oy=a7:=by simpa using i
     simp only[lx,Zm,ZA] at cx0 cx1 a1 a3 hx0 u a2 r;simp only[ly,Zm,ZA] at p o m q a5 j;have g:x.l.length=2:=by simp[lx]
     have d:y.l.length=2:=by simp[ly]
     rw[Wj lx ly kx ky,ax,ay,g,d,kx,ky];exact Wk bx ox z oy x.c y.c x0 x1 y0 y1 w (by simpa using cx0) (by simpa using cx1) (by simpa using a1) (by simpa using a3) (by simpa using p) (by simpa using o) (by simpa using m) (by simpa using q) (fun W b=>ih x0 y0 W (hx0.below b) (a5.below b) r0 q0 a2) (fun W b=>ih x1 y1 W (u.below b) (j.below b) r1 q1 r)
  .refine(Tz x y (by simpa using hk) w).mono ?_;rintro e w' ⟨rfl,b⟩;refine⟨Ys 0,rfl,?_,YC _ _,YF _ _,b⟩;obtain⟨k,a,c,l⟩:=x;obtain⟨k',a',c',l'⟩:=y;dsimp only at hk;simp[Ys,Tr.lh,UB,if_neg hk]
theorem Tr.mr(t:Tr):t.sz=(t.l.map Tr.sz).sum+1:=by cases t;rw[Tr.lm]
theorem YX{e:TypeId}{size:Nat}{v:ZE}{n:Nat}{xs:List ZE}(h:w.ownsRow base e size v n xs)(d:Zk w.heap.size w w'):w'.ownsRow base e size v n xs:=by
 refine⟨h.1,?_⟩;rcases h.2 with i|⟨g,cap,b,rfl,c,a,rest⟩
 .exact .inl i
 .exact .inr ⟨g,cap,b,rfl,c,by rw[d.block g (Array.getElem?_eq_some_iff.1 a).1];exact a,rest⟩
theorem J2:∀(l:List Tr)(j:Nat)(h:j<l.length),(cellsOf l)[j*2]?=M (I L l[j].k)/\(cellsOf l)[j*2+1]?=M l[j].sl
 |[],j,h=>by simp at h
 |t::r,0,_=>by simp[cellsOf,Tr.sl]
 |t::r,j+1,h=>by
  have ih:=J2 r j (by simpa using h);have e:(j+1)*2=j*2+1+1:=by omega
  rw[e];simpa[cellsOf] using ih
structure CP(x:Tr)(j:Nat)(v:ZE)(cs:List Tr)(w wr:Zi):Prop where
 own:wr.ownsRow (w.heap.size+1+1) 24 2 v cs.length (cellsOf cs)
 ins:∀c,c∈cs->c.In wr/\c.Bl (fun b=>w.heap.size+1+1<=b/\M b≠v.ownBlock)
 ty:cs.map Tr.ty=(x.l.take j).map Tr.ty
 low:Zk w.heap.size w wr
 b0:wr.cell? ⟨w.heap.size,0,F⟩=M (I L x.k)
 b1:wr.cell? ⟨w.heap.size,1,F⟩=M v
 bf:wr.frozen? ⟨w.heap.size,1,F⟩=Zo
 r0:wr.cell? ⟨w.heap.size+1,0,F⟩=M (I L 0)
 r1:wr.cell? ⟨w.heap.size+1,1,F⟩=M (C F 0 0)
 f0:wr.frozen? ⟨w.heap.size+1,0,F⟩=Zo
 f1:wr.frozen? ⟨w.heap.size+1,1,F⟩=Zo
theorem CP.len{x:Tr}{v:ZE}{cs:List Tr}(h:CP x j v cs w wr)(a:j<=x.l.length):cs.length=j:=by have:=congrArg List.length h.ty;simpa[Nat.min_eq_left a] using this
theorem CP.step{x:Tr}{v:ZE}{cs:List Tr}{c:Tr}(h:CP x j v cs w wr)(hj:j<x.l.length)(a4:Zk wr.heap.size wr w1)(ht:c.ty=x.l[j].ty)(a1:c.In w2)(a5:c.Bl (w1.heap.size<=·))(a2:Zk w1.heap.size w1 w2)
  (a0:w3.ownsRow (w.heap.size+1+1) 24 2 (C (M ⟨gg,0,F⟩) (cs.length+1) cap1) (cs.length+1) (cellsOf cs++[I L c.k,C c.a c.l.length c.c])) (g:(w2.alloc X).grownBy w3 v.ownBlock) (z:v.ownBlock=M gg\/gg=w2.heap.size+1) :
  CP x (j+1) (C (M ⟨gg,0,F⟩) (cs.length+1) cap1) (cs++[c]) w (w3.setCell ⟨w.heap.size,1,F⟩ (C (M ⟨gg,0,F⟩) (cs.length+1) cap1)):=by
 have s0:=h.low.size;have s1:=a4.size;have s2:=a2.size;have s3:w2.heap.size+1<=w3.heap.size:=by have:=g.size;simpa using this
 have a7:w.heap.size+1<wr.heap.size:=Z _ _ h.r0;have a3:bL w2 (w2.alloc X):=(Ze _ _).alloc (Zg _) _;have y:=(a4.trans (a2.mono s1)).trans (a3.mono (by omega));have r:=h.own.lt;have m:∀k,k<=w.heap.size+1->M k≠v.ownBlock:=fun k hk e=>by have:=(r k e.symm).1;omega
 have a6:w.heap.size+1+1<=gg:=by
  rcases z with e|e
  .exact(r gg e).1
  .omega
 have q:∀k,k<w2.heap.size+1->M k≠v.ownBlock->w3.heap[k]?=(w2.alloc X).heap[k]?:=fun k hk hn=>g.block k (by simpa using hk) hn;have o:∀k i,k≠w.heap.size->(w3.setCell ⟨w.heap.size,1,F⟩ (C (M ⟨gg,0,F⟩) (cs.length+1) cap1)).cell? ⟨k,i,F⟩=w3.cell? ⟨k,i,F⟩:=by intro k i hk;rw[Zw];intro e;simp only[Addr.mk.injEq] at e;omega
 have l:∀k i,k<wr.heap.size->M k≠v.ownBlock->w3.cell? ⟨k,i,F⟩=wr.cell? ⟨k,i,F⟩/\w3.frozen? ⟨k,i,F⟩=wr.frozen? ⟨k,i,F⟩:=by intro k i hk hn;have e:=(q k (by omega) hn).trans (y.block k hk);exact⟨Zv (a:=⟨k,i,F⟩) e,ZU (a:=⟨k,i,F⟩) e⟩
 refine⟨?_,?_,?_,?_,?_,?_,?_,?_,?_,?_,?_⟩
 .rw[UR,Zz,Zx];exact ownsRow_setCell_below a0 (show w.heap.size<_ by omega) _
 .intro d hd;rcases ZL.1 hd with hd|hd
  .obtain⟨i1,i2⟩:=h.ins d hd;have i3:=i1.bl.and i2;refine⟨i1.congr (P:=fun b=>b<wr.heap.size/\w.heap.size+1+1<=b/\M b≠v.ownBlock) (fun b u i=>?_) i3,i3.mono fun b u=>⟨u.2.1,?_⟩⟩
   .rw[o b i (by omega)];exact(l b i u.1 u.2.2).1
   .show M b≠M gg
    rcases z with e|e
    .rw[<-e];exact u.2.2
    .simp only[ne_eq,ZC];omega
  .rcases ZK.1 hd with rfl;have i3:=a1.bl.and a5;refine⟨a1.congr (P:=fun b=>b<w2.heap.size/\w1.heap.size<=b) (fun b u i=>?_) i3,i3.mono fun b u=>⟨by omega,?_⟩⟩
   .rw[o b i (by omega),Zv (a:=⟨b,i,F⟩) (q b (by omega) (fun e=>by have:=(r b e.symm).2;omega))];exact a3.cell (p:=⟨b,i,F⟩) u.1
   .show M b≠M gg
    rcases z with e|e
    .have:=(r gg e).2;simp only[ne_eq,ZC];omega
    .simp only[ne_eq,ZC];omega
 .rw[Zy hj,ZM,ZM,h.ty];simp[ht]
 .have hb3:Zk w.heap.size (w2.alloc X) w3:=⟨g.os,g.tape,g.output,g.size,fun k hk=>q k (by omega) (m k (by omega))⟩
  exact((h.low.trans (y.mono s0)).trans hb3).setCell (by simp) _
 .rw[Zw]
  .exact(l _ 0 (by omega) (m _ (by omega))).1.trans h.b0
  .intro e;simp only[Addr.mk.injEq] at e;omega
 .exact World.cell?_setCell_same _ _ _ ((l _ 1 (by omega) (m _ (by omega))).1.trans h.b1)
 .rw[ZI];exact(l _ 1 (by omega) (m _ (by omega))).2.trans h.bf
 .rw[o _ _ (by omega)];exact(l _ 0 (by omega) (m _ (by omega))).1.trans h.r0
 .rw[o _ _ (by omega)];exact(l _ 1 (by omega) (m _ (by omega))).1.trans h.r1
 .rw[ZI];exact(l _ 0 (by omega) (m _ (by omega))).2.trans h.f0
 .rw[ZI];exact(l _ 1 (by omega) (m _ (by omega))).2.trans h.f1
theorem CP.start{x:Tr}:CP x 0 (C F 0 0) [] w ((w.alloc (Zj #[I L x.k,C F 0 0] 24)).alloc (Zj #[I L 0,C F 0 0] 24)):=by refine⟨ZT _ _ _ _,fun c h=>(by cases h),by simp,?_,by simp[go_sem],by simp[go_sem],by simp[go_sem],by simp[go_sem],by simp[go_sem],by simp[go_sem],by simp[go_sem]⟩;exact((Ze _ _).alloc (Zg _) _).alloc (by simp) _
def Ez:(l:List Tm)->((x:Tm)->x∈l->Option Ty)->Option (List Ty)
 |[],_=>M []
 |x::r,f=>(f x List.mem_cons_self).bind fun i=>(Ez r (fun z h=>f z (List.mem_cons_of_mem _ h))).bind fun q=>M (i::q)
def Xa:Tm->List Ty->Option Ty
 |⟨k,n,t,_,l⟩,takes=>(Ez l (fun x _=>Xa x (Yv k t takes))).bind fun ts=>(YK k n t ts (Yv k t takes)).bind fun r=>if U6 ts r.2=Zp then M r.1 else F
def Jv:List Tm->List Ty->Option (List Ty)
 |[],_=>M []
 |x::r,takes=>(Xa x takes).bind fun i=>(Jv r takes).bind fun q=>M (i::q)
theorem Rc(takes:List Ty):∀(l:List Tm),Ez l (fun x _=>Xa x takes)=Jv l takes
 |[]=>rfl
 |x::r=>by simp only[Ez,Jv,Rc takes r]
def XD(k n:Int)(t:Ty)(ts takes:List Ty):Option Ty:=(YK k n t ts takes).bind fun r=>if U6 ts r.2=Zp then M r.1 else F
theorem Sw(k n:Int)(t f:Ty)(l:List Tm)(takes:List Ty):Xa ⟨k,n,t,f,l⟩ takes =
  (Jv l (Yv k t takes)).bind fun ts=>XD k n t ts (Yv k t takes):=by
 rw[Xa,Rc];rfl
theorem PH{takes:List Ty}:∀(l:List Tm)(c:Nat),(∀x,x∈l->∀c,(Xt x takes c).map Prod.snd=Xa x takes)->(Xc l takes c).map (fun ps=>ps.map fun p=>p.2.2)=Jv l takes
 |[],_,_=>rfl
 |x::r,c,h=>by
  simp only[Xc,Jv];rw[<-h x (by simp) c];have ih:=PH r (c+x.sz) fun z hz=>h z (by simp[hz]);rw[<-ih];cases Xt x takes c with
  |none=>rfl
  |some p=>
   cases Xc r takes (c+x.sz) with
   |none=>rfl
   |some q=>rfl
theorem Lk:∀(x:Tm)(takes:List Ty)(c:Nat),(Xt x takes c).map Prod.snd=Xa x takes:=by
 intro x;induction x using Tm.ind with
 |h k n t f l ih=>
  intro takes c;rw[Kv,Sw,<-PH l (c+1) fun z hz c=>ih z hz _ c];cases Xc l (Yv k t takes) (c+1) with
  |none=>rfl
  |some ps=>
   simp only[ZV,Option.map_some,XD];cases YK k n t (ps.map fun p=>p.2.2) (Yv k t takes) with
   |none=>rfl
   |some r=>simp only[ZV];split<;>rfl
theorem Pf:∀{l:List Tm}{takes ts:List Ty},Jv l takes=M ts->ts.length=l.length/\∀j(h:j<l.length)(h':j<ts.length),Xa l[j] takes=M ts[j]
 |[],_,ts,h=>by
  rw[Jv] at h;cases h
  exact⟨rfl,fun j h=>by simp at h⟩
 |x::r,takes,ts,h=>by
  rw[Jv] at h;cases hx:Xa x takes with
  |none=>rw[hx] at h;cases h
  |some i=>
   rw[hx] at h;simp only[ZV] at h;cases hr:Jv r takes with
   |none=>rw[hr] at h;cases h
   |some q=>
    rw[hr] at h;simp only[ZV] at h;cases h
    have ih:=Pf hr;refine⟨by simp[ih.1],fun j h h'=>?_⟩;match j with
    |0=>exact hx
    |j+1=>exact ih.2 j (by simpa using h) (by simpa using h')
theorem QQ:∀(l:List Tm)(takes ts:List Ty),ts.length=l.length->(∀j(h:j<l.length)(h':j<ts.length),Xa l[j] takes=M ts[j])->Jv l takes=M ts
 |[],_,ts,hl,_=>by have:ts=[]:=ZB hl;subst this;rfl
 |x::r,takes,[],hl,_=>by simp at hl
 |x::r,takes,i::q,hl,h=>by have h0:=h 0 (by simp) (by simp);simp only[Zm] at h0;rw[Jv,h0,QQ r takes q (by simpa using hl) fun j h1 h2=>h (j+1) (by simpa using h1) (by simpa using h2)];rfl
theorem Pg:∀(l:List Tm)(takes:List Ty)(j:Nat)(h:j<l.length),Xa l[j] takes=F->Jv l takes=F
 |[],_,j,h,_=>by simp at h
 |x::r,takes,0,_,e=>by simp only[Zm] at e;rw[Jv,e];rfl
 |x::r,takes,j+1,h,e=>by rw[Jv,Pg r takes j (by simpa using h) (by simpa using e)];cases Xa x takes<;>rfl
theorem QP{x:Tm}{takes:List Ty}{i:Ty}(hok:J8 x takes.length)(hT:∀u,u∈takes->Ym 4 u=Zp)(h:Xa x takes=M i):Ym (x.sz+4) i=Zp:=by
 rw[<-Lk x takes 0] at h;cases hr:Xt x takes 0 with
 |none=>rw[hr] at h;cases h
 |some p=>rw[hr] at h;simp only[Option.map_some,ZC] at h;subst h;exact Kl x takes 0 p.1 p.2 hok hT hr
theorem VK(n:Int)(t:Ty)(takes:List Ty):XD 1 n t [] takes=M (takes.getD n.toNat ⟨0,[]⟩):=by simp[XD,YK,U6]
theorem VM(n:Int)(t:Ty)(takes:List Ty):XD 2 n t [] takes=M ⟨1,[]⟩:=by simp[XD,YK,U6]
theorem SL(n:Int)(t:Ty)(takes:List Ty):XD 3 n t [] takes=M ⟨2,[]⟩:=by simp[XD,YK,U6]
theorem VL(n:Int)(t x y:Ty)(takes:List Ty):XD 4 n t [x,y] takes=if (YD Yl x ⟨1,[]⟩&&YD Yl y ⟨1,[]⟩)=Zp then M ⟨1,[]⟩ else F:=by simp[XD,YK,U6]
theorem SM(n:Int)(t x y:Ty)(takes:List Ty):XD 5 n t [x,y] takes=if (YD Yl x ⟨1,[]⟩&&YD Yl y ⟨1,[]⟩)=Zp then M ⟨2,[]⟩ else F:=by simp[XD,YK,U6]
theorem AX(n:Int)(t x:Ty)(takes:List Ty)(a:YD Yl x x=Zp):XD 7 n t [x] takes=M ⟨3,[t,x]⟩:=by simp[XD,YK,U6,a]
theorem AY(n:Int)(t x:Ty)(takes:List Ty):XD 9 n t [x] takes=if YD Yl x t=Zp then M t else F:=by simp[XD,YK,U6]
theorem VN(n:Int)(t y:Ty)(l:List Ty)(takes:List Ty):XD 8 n t [⟨0,l⟩,y] takes=M ⟨0,[]⟩:=by
 have a:YD Yl ⟨0,l⟩ ⟨3,[⟨0,[]⟩,⟨0,[]⟩]⟩=Zp:=by rw[Y0];rfl
 have b:YD Yl y ⟨0,[]⟩=Zp:=by obtain⟨k,m⟩:=y;rw[Y0];simp[Yl]
 simp[XD,YK,Uk,U6,a,b]
theorem SN(n:Int)(t a b y:Ty)(takes:List Ty)(c:YD Yl ⟨3,[a,b]⟩ ⟨3,[a,b]⟩=Zp):XD 8 n t [⟨3,[a,b]⟩,y] takes=if YD Yl y a=Zp then M b else F:=by simp[XD,YK,Uk,U6,c]
theorem RO(n:Int)(t y:Ty)(k:Int)(l:List Ty)(takes:List Ty)(a:k≠0)(b:k≠3):XD 8 n t [⟨k,l⟩,y] takes=F:=by simp[XD,YK,Uk,a,b]
theorem AW(n:Int)(t x y z:Ty)(takes:List Ty)(hj:YD Yl y z=Zp->YD Yl y (Xq y z)=Zp/\YD Yl z (Xq y z)=Zp):XD 6 n t [x,y,z] takes=if (YD Yl x ⟨2,[]⟩&&YD Yl y z)=Zp then M (Xq y z) else F:=by
 simp only[XD,YK,Ah];cases hf:YD Yl y z with
 |false=>simp[hf]
 |true=>have:=hj hf;cases hx:YD Yl x ⟨2,[]⟩<;>simp[hf,U6,hx,this.1,this.2]
theorem QX{Q:Exit->Act->Zi->Prop}{S:Zi->Prop}{v:ZE}(ho:ops.toList[i]?=M o)
  (hs:Region.noSelect ops=Zp) (hf:Region.free md ops listed i=Zp) (hr:(Region.ready md ops listed).contains i=Zp)
  (hQ:∀c a w,Q (.panic c) (a.put o.dst v) w->Q (.panic c) a w) (hy:YieldsIf P ops S o v a) (hS:S w)
  (h:Yd P md ops Q S fuel (listed.setIfInBounds i Zp) (a.put o.dst v) w):Yd P md ops Q S (fuel+1) listed a w:=
 wpAnyH_take (i:=i) (oi:=o) (by simpa using ho) hs hf hr hQ hy hS h
theorem Jl{Q:Exit->Act->Zi->Prop}{S:Zi->Prop}(ho:ops.toList[i]?=M o)(hr:Region.ready md ops listed=[i])
  (h:∀K':Act->Zi->Prop,Shut (∀a w,S w->(S w->Yd P md ops Q S fuel (listed.setIfInBounds i Zp) a w)->K' a w)->if Yb o (yielded ops a.tmps)=Zp then Oper.wp P o a w K' Q else K' (a.put o.dst undef) w):Yd P md ops Q S (fuel+1) listed a w:=
 wpAnyH_ready hr (by simp) (AllReadyH.cons (o:=o) (by simpa using ho) h AllReadyH.nil)
structure TL(Q:Nat->Prop)(W:Zi)(v:ZE)(ts:List Tr)(wr:Zi):Prop where
 own:wr.ownsRow W.heap.size 24 2 v ts.length (cellsOf ts)
 ins:∀t,t∈ts->t.In wr/\t.Bl (fun b=>Q b/\M b≠v.ownBlock)
 low:Zk W.heap.size W wr
theorem TL.start(Q:Nat->Prop)(W:Zi):TL Q W (C F 0 0) [] W:=⟨ZT _ _ _ _,fun t h=>(by cases h),Ze _ _⟩
theorem TL.below{v:ZE}(h:TL Q W v ts wr)(hb:Zk wr.heap.size wr w2):TL Q W v ts w2:=⟨YX h.own hb,fun t ht=>⟨(h.ins t ht).1.below hb,(h.ins t ht).2⟩,h.low.trans (hb.mono h.low.size)⟩
theorem TL.step{v:ZE}{t:Tr}(h:TL Q W v ts wr)(g:Zk wr.heap.size wr w2)(p:t.In w2)(o:t.Bl (fun b=>Q b/\M b≠v.ownBlock))
  (l:w3.ownsRow W.heap.size 24 2 (C (M ⟨gg,0,F⟩) (ts.length+1) cap1) (ts.length+1) (cellsOf ts++[I L t.k,C t.a t.l.length t.c])) (c:w2.grownBy w3 v.ownBlock) (r:v.ownBlock=M gg\/w2.heap.size<=gg) :
  TL Q W (C (M ⟨gg,0,F⟩) (ts.length+1) cap1) (ts++[t]) w3:=by
 have s2:=g.size;have s3:=c.size;have w:=h.own.lt;have m:∀k i,k<w2.heap.size->M k≠v.ownBlock->w3.cell? ⟨k,i,F⟩=w2.cell? ⟨k,i,F⟩:=fun k i y u=>Zv (a:=⟨k,i,F⟩) (c.block k y u)
 have q:∀b,b<w2.heap.size->M b≠v.ownBlock->M b≠(ZJ (M ⟨gg,0,F⟩) (ts.length+1) cap1).ownBlock:=fun b g u=>by
  show M b≠M gg
  rcases r with e|e
  .rw[<-e];exact u
  .simp only[ne_eq,ZC];omega
 have j:∀d:Tr,d.In w2->d.Bl (fun b=>Q b/\M b≠v.ownBlock)->d.In w3/\d.Bl (fun b=>Q b/\M b≠(ZJ (M ⟨gg,0,F⟩) (ts.length+1) cap1).ownBlock):=fun d z h2=>by have x:=z.bl.and h2;exact⟨z.congr (P:=fun b=>b<w2.heap.size/\Q b/\M b≠v.ownBlock) (fun b g i=>m b i g.1 g.2.2) x,x.mono fun b g=>⟨g.2.1,q b g.1 g.2.2⟩⟩
 refine⟨?_,?_,?_⟩
 .rw[UR,Zz,Zx];exact l
 .intro d hd;rcases ZL.1 hd with hd|hd
  .exact j d ((h.ins d hd).1.below g) (h.ins d hd).2
  .rcases ZK.1 hd with rfl;exact j d p o
 .have hb3:Zk W.heap.size w2 w3:=⟨c.os,c.tape,c.output,c.size,fun k y=>c.block k (by have:=h.low.size;omega) (fun e=>by have:=(w k e.symm).1;omega)⟩
  exact(h.low.trans (g.mono h.low.size)).trans hb3
theorem TL.tree{v:ZE}(h:TL Q W v ts wr):∃a c,v=C a ts.length c/\(Tr.mk 0 a c ts).In wr/\(∀y,a=M y->W.heap.size<=y.block)/\∀t,t∈ts->t.In wr/\t.Bl Q:=by
 have k:∀t,t∈ts->t.In wr/\t.Bl Q:=fun t d=>⟨(h.ins t d).1,(h.ins t d).2.mono fun b p=>p.1⟩
 rcases h.own.2 with⟨rfl,o⟩|⟨g,cap,l,rfl,m,_⟩
 .have:ts=[]:=ZS.1 o;subst this;exact⟨F,0,rfl,Tr.mm _ _ _ _,fun y e=>(by cases e),k⟩
 .refine⟨_,_,rfl,Tr.li.2 ⟨fun j i=>⟨g,0,rfl,?_,?_⟩,fun t d=>(h.ins t d).1⟩,fun y e=>(by cases e;exact m),k⟩
  .rw[Zu,h.own.cellAt (j*2) (by omega),(J2 ts j i).1]
  .rw[Zu,h.own.cellAt (j*2+1) (by omega),(J2 ts j i).2]
theorem Ty.eta(t:Ty):t=⟨t.k,t.l⟩:=by cases t;rfl
theorem Sv(x:TT)(T:List Ty):Xa x.tm T=(Jv (x.l.map TT.tm) (Yv x.k x.t.ty T)).bind fun ts=>XD x.k x.n x.t.ty ts (Yv x.k x.t.ty T):=by obtain⟨k,n,t,f,a,c,l⟩:=x;rw[TT.ma,Sw]
def KG(Q:Nat->Prop)(T:Option Ty)(w:Zi)(e:Ending)(w':Zi):Prop:=∃(t:Tr)(b:Bool),e=Zf (ZH #[Zh #[I L t.k,C t.a t.l.length t.c],.bool b])/\b=T.isSome/\(∀i,T=M i->t.ty=i)/\t.In w'/\t.Bl Q/\Zk w.heap.size w w'
structure TB(x:TT)(w:Zi)(W:Zi):Prop where
 low:Zk w.heap.size w W
 at7:Uz W w.heap.size 0 x
 r0:W.cell? ⟨w.heap.size+1,0,F⟩=M (I L 0)
 r1:W.cell? ⟨w.heap.size+1,1,F⟩=M (C F 0 0)
 f0:W.frozen? ⟨w.heap.size+1,0,F⟩=Zo
 f1:W.frozen? ⟨w.heap.size+1,1,F⟩=Zo
 n0:W.cell? ⟨w.heap.size+1+1,0,F⟩=M (I L 1)
 n1:W.cell? ⟨w.heap.size+1+1,1,F⟩=M (C F 0 0)
 t0:W.cell? ⟨w.heap.size+1+1+1,0,F⟩=M (I L 2)
 t1:W.cell? ⟨w.heap.size+1+1+1,1,F⟩=M (C F 0 0)
theorem TB.lt(h:TB x w W):w.heap.size+1+1+1<W.heap.size:=Z _ _ h.t0
theorem TB.below(h:TB x w W)(a:Zk W.heap.size W V):TB x w V:=by have d:=h.lt;have c:∀b i,b<=w.heap.size+1+1+1->V.cell? ⟨b,i,F⟩=W.cell? ⟨b,i,F⟩:=fun b i h=>a.cell (p:=⟨b,i,F⟩) (show b<_ by omega);have f:∀b i,b<=w.heap.size+1+1+1->V.frozen? ⟨b,i,F⟩=W.frozen? ⟨b,i,F⟩:=fun b i h=>a.frozen (p:=⟨b,i,F⟩) (show b<_ by omega);exact⟨h.low.trans (a.mono h.low.size),h.at7.below a,(c _ _ (by omega)).trans h.r0,(c _ _ (by omega)).trans h.r1,(f _ _ (by omega)).trans h.f0,(f _ _ (by omega)).trans h.f1,(c _ _ (by omega)).trans h.n0,(c _ _ (by omega)).trans h.n1,(c _ _ (by omega)).trans h.t0,(c _ _ (by omega)).trans h.t1⟩
theorem B5{T:Option Ty}{t:Tr}{z:TT}{b:Bool}(h:TB z w wr)(d:b=T.isSome)(j:∀i,T=M i->t.ty=i)(c:t.In wr)(a:t.Bl Q)(k:t.Bl (·≠w.heap.size+1)):
  KG Q T w (Zf (ZH #[Zh #[I L t.k,C t.a t.l.length t.c],.bool b])) ((wr.setCell ⟨w.heap.size+1,0,F⟩ (I L t.k)).setCell ⟨w.heap.size+1,1,F⟩ (C t.a t.l.length t.c))/\
  ((wr.setCell ⟨w.heap.size+1,0,F⟩ (I L t.k)).setCell ⟨w.heap.size+1,1,F⟩ (C t.a t.l.length t.c)).cell? ⟨w.heap.size+1,0,F⟩=M (I L t.k)/\
  ((wr.setCell ⟨w.heap.size+1,0,F⟩ (I L t.k)).setCell ⟨w.heap.size+1,1,F⟩ (C t.a t.l.length t.c)).cell? ⟨w.heap.size+1,1,F⟩=M (C t.a t.l.length t.c):=by
 have e:=XJ (u:=I L t.k) (v:=t.s) h.r0 h.r1;have g:=X4 (ib:=w.heap.size+1) (io:=0) (u:=I L t.k) (v:=t.s) c (k.mono fun b d=>d);simp only[Zu] at e g;exact⟨⟨t,b,rfl,d,j,g,a,(h.low.setCell (by simp) _).setCell (by simp) _⟩,e.1,e.2⟩
def TT.pn:TT->Prop
 |⟨_,_,t,f,_,_,l⟩=>t.sm/\f.sm/\∀y,y∈l->y.pn
theorem TT.nv{n:Int}{t f:Tr}{a:Option Z5}{l:List TT}:(TT.mk k n t f a c l).pn↔t.sm/\f.sm/\∀y,y∈l->y.pn:=by rw[TT.pn]
theorem TT.pn.t(h:x.pn):x.t.sm:=by cases x;exact(TT.nv.1 h).1
theorem TT.pn.f(h:x.pn):x.f.sm:=by cases x;exact(TT.nv.1 h).2.1
theorem TT.pn.mem{y:TT}(h:x.pn)(b:y∈x.l):y.pn:=by obtain⟨k,n,t,f,a,c,l⟩:=x;exact(TT.nv.1 h).2.2 y b
theorem XC.pp(h:XC w J x)(e:w'.heap[J]?=w.heap[J]?):XC w' J x:=⟨h.at7.of fun i=>Zv (a:=⟨J,i,F⟩) e,fun i hi=>(ZU (a:=⟨J,i,F⟩) e).trans (h.fz i hi)⟩
theorem MY.pp(h:MY w J)(e:w'.heap[J]?=w.heap[J]?):MY w' J:=by have c:∀i,w'.cell? ⟨J,i,F⟩=w.cell? ⟨J,i,F⟩:=fun i=>Zv (a:=⟨J,i,F⟩) e;have b:∀i,w'.frozen? ⟨J,i,F⟩=w.frozen? ⟨J,i,F⟩:=fun i=>ZU (a:=⟨J,i,F⟩) e;obtain⟨⟨j,y,d,k,x,z,p⟩,m,r,o,u,q,g,l⟩:=h;exact⟨⟨(c _).trans j,(c _).trans y,(c _).trans d,(c _).trans k,(c _).trans x,(c _).trans z,(c _).trans p⟩,(b _).trans m,(b _).trans r,(b _).trans o,(b _).trans u,(b _).trans q,(b _).trans g,(b _).trans l⟩
def TT.ov:TT->Prop
 |⟨_,_,t,f,_,_,l⟩=>t.sz<=100000000/\f.sz<=100000000/\∀y,y∈l->y.ov
theorem TT.nr{n:Int}{t f:Tr}{a:Option Z5}{l:List TT}:(TT.mk k n t f a c l).ov↔t.sz<=100000000/\f.sz<=100000000/\∀y,y∈l->y.ov:=by rw[TT.ov]
theorem TT.ov.t(h:x.ov):x.t.sz<=100000000:=by cases x;exact(TT.nr.1 h).1
theorem TT.ov.f(h:x.ov):x.f.sz<=100000000:=by cases x;exact(TT.nr.1 h).2.1
theorem TT.ov.mem{y:TT}(h:x.ov)(b:y∈x.l):y.ov:=by obtain⟨k,n,t,f,a,c,l⟩:=x;exact(TT.nr.1 h).2.2 y b
structure CT(S:Nat)(x:TT)(t f:Tr)(j:Nat)(v:ZE)(cs:List TT)(w wr:Zi):Prop where
 row:O3 (S+1+1) v cs wr
 tm:cs.map TT.tm=(x.l.take j).map TT.tm
 low:Zk S w wr
 box:∃a c,v=C a cs.length c/\XC wr S ⟨x.k,x.n,t,f,a,c,cs⟩
 z:MY wr (S+1)
 tin:t.In wr/\t.Bl (fun b=>S+1+1<=b/\M b≠v.ownBlock)
 fin:f.In wr/\f.Bl (fun b=>S+1+1<=b/\M b≠v.ownBlock)
theorem CT.len{t f:Tr}{v:ZE}(h:CT S x t f j v cs w wr)(a:j<=x.l.length):cs.length=j:=by have:=congrArg List.length h.tm;simpa[Nat.min_eq_left a] using this
theorem CT.step{c:TT}{t f:Tr}{v:ZE}(h:CT S x t f j v cs w wr)(hj:j<x.l.length)(a1:Zk wr.heap.size wr w1)(ht:c.tm=x.l[j].tm)(a4:c.In w2)(a3:c.Bl (w1.heap.size<=·))(u:Zk w1.heap.size w1 w2)
  (p:w3.ownsRow (S+1+1) 27 7 (C (M ⟨gg,0,F⟩) (cs.length+1) cap1) (cs.length+1) (YW cs++[I L c.k,I L c.n,I L c.t.k,C c.t.a c.t.l.length c.t.c,I L c.f.k,C c.f.a c.f.l.length c.f.c,C c.a c.l.length c.c])) (d:(w2.alloc X).grownBy w3 v.ownBlock) (z:v.ownBlock=M gg\/gg=w2.heap.size+1) :
  CT S x t f (j+1) (C (M ⟨gg,0,F⟩) (cs.length+1) cap1) (cs++[c]) w (w3.setCell ⟨S,6,F⟩ (C (M ⟨gg,0,F⟩) (cs.length+1) cap1)):=by
 have s1:=a1.size;have s2:=u.size;have a7:=h.z.lt;have m:=a1.trans (u.mono s1);have a0:=h.row.lt;obtain⟨a5,a2⟩:=(h.row.below m).step a4 (a3.mono fun b o=>⟨by omega,fun e=>by have:=(a0 b e.symm).2;omega⟩) (by simpa[YW] using p) d z;have l:∀k,k<=S+1->M k≠v.ownBlock:=fun k hk e=>by have:=(a0 k e.symm).1;omega
 have g:∀k,k<wr.heap.size->M k≠v.ownBlock->w3.heap[k]?=wr.heap[k]?:=fun k hk hn=>(a2 k (by omega) hn).trans (m.block k hk);have y:∀k i,k≠S->(w3.setCell ⟨S,6,F⟩ (C (M ⟨gg,0,F⟩) (cs.length+1) cap1)).cell? ⟨k,i,F⟩=w3.cell? ⟨k,i,F⟩:=by intro k i hk;rw[Zw];intro e;simp only[Addr.mk.injEq] at e;omega
 have r:∀q:Tr,(q.In wr/\q.Bl (fun b=>S+1+1<=b/\M b≠v.ownBlock))->(q.In (w3.setCell ⟨S,6,F⟩ (C (M ⟨gg,0,F⟩) (cs.length+1) cap1))/\q.Bl (fun b=>S+1+1<=b/\M b≠(ZJ (M ⟨gg,0,F⟩) (cs.length+1) cap1).ownBlock)):=by
  rintro q ⟨i1,i2⟩;have i3:=i1.bl.and i2;refine⟨i1.congr (P:=fun b=>b<wr.heap.size/\S+1+1<=b/\M b≠v.ownBlock) (fun b o i=>?_) i3,i3.mono fun b o=>⟨o.2.1,?_⟩⟩
  .rw[y b i (by omega)];exact Zv (a:=⟨b,i,F⟩) (g b o.1 o.2.2)
  .show M b≠M gg
   rcases z with e|e
   .rw[<-e];exact o.2.2
   .simp only[ne_eq,ZC];omega
 refine⟨a5.kept (R:=S) Yj (by omega),?_,?_,?_,?_,r t h.tin,r f h.fin⟩
 .rw[Zy hj,ZM,ZM,h.tm];simp[ht]
 .have hb3:Zk S (w2.alloc X) w3:=⟨d.os,d.tape,d.output,d.size,fun k hk=>d.block k (by simp;omega) (l k (by omega))⟩
  have a6:Zk S w2 (w2.alloc X):=((Ze _ _).alloc (Zg _) _).mono (by omega);exact(((h.low.trans (m.mono (by omega))).trans a6).trans hb3).setCell (by simp) _
 .obtain⟨a,c0,hv,hbx⟩:=h.box;refine⟨M ⟨gg,0,F⟩,cap1,?_,?_⟩
  .rw[Zz,Zx]
  .have:=(hbx.pp (g S (by omega) (l S (by omega)))).pz (a':=M ⟨gg,0,F⟩) (c':=cap1) (l':=cs++[c]);rw[Zz,Zx] at this;exact this
 .refine(h.z.pp (g (S+1) (by omega) (l _ (by omega)))).kept (R:=S) Yj (by omega)
theorem XC.copied{t f:Tr}(h:XC w J x):XC (((((w.setCell ⟨J,2,F⟩ (I L t.k)).setCell ⟨J,3,F⟩ (C t.a t.l.length t.c)).setCell ⟨J,4,F⟩ (I L f.k)).setCell ⟨J,5,F⟩ (C f.a f.l.length f.c)).setCell ⟨J,6,F⟩ (C F 0 0)) J ⟨x.k,x.n,t,f,F,0,[]⟩:=by
 have a:∀i u,cL w J i u->cL (((((w.setCell ⟨J,2,F⟩ (I L t.k)).setCell ⟨J,3,F⟩ (t.s)).setCell ⟨J,4,F⟩ (I L f.k)).setCell ⟨J,5,F⟩ (f.s)).setCell ⟨J,6,F⟩ (C F 0 0)) J i (if i=6 then C F 0 0 else if i=5 then f.s else if i=4 then I L f.k else if i=3 then t.s else if i=2 then I L t.k else u):=fun i u hu=>Yp (Yp (Yp (Yp (Yp hu))));obtain⟨j,k,b,c,g,d,e⟩:=h.at7;simp only[Zu] at j k b c g d e;refine⟨⟨?_,?_,?_,?_,?_,?_,?_⟩,fun i hi=>?_⟩
 .simpa using a 0 _ j
 .simpa using a 1 _ k
 .simpa using a 2 _ b
 .simpa using a 3 _ c
 .simpa using a 4 _ g
 .simpa using a 5 _ d
 .simpa using a 6 _ e
 .simp only[ZI];exact h.fz i hi
theorem CT.start{t f:Tr}(j:Zk w.heap.size w w1)(c:XC w1 w.heap.size x)(hz:MY w1 (w.heap.size+1))(i:t.In w1)(g:f.In w1)(e:t.Bl (w.heap.size+1+1<=·))(d:f.Bl (w.heap.size+1+1<=·)):
  CT w.heap.size x t f 0 (C F 0 0) [] w (((((w1.setCell ⟨w.heap.size,2,F⟩ (I L t.k)).setCell ⟨w.heap.size,3,F⟩ (C t.a t.l.length t.c)).setCell ⟨w.heap.size,4,F⟩ (I L f.k)).setCell ⟨w.heap.size,5,F⟩ (C f.a f.l.length f.c)).setCell ⟨w.heap.size,6,F⟩ (C F 0 0)):=by
 have a:Yi w.heap.size F w1 (((((w1.setCell ⟨w.heap.size,2,F⟩ (I L t.k)).setCell ⟨w.heap.size,3,F⟩ (t.s)).setCell ⟨w.heap.size,4,F⟩ (I L f.k)).setCell ⟨w.heap.size,5,F⟩ (f.s)).setCell ⟨w.heap.size,6,F⟩ (C F 0 0)):=Yj.trans (Yj.trans (Yj.trans (Yj.trans Yj)))
 refine⟨O3.nil _ _,by simp,?_,⟨F,0,rfl,c.copied⟩,hz.kept a (by omega),⟨i.lc a (e.mono fun b h=>by omega),e.mono fun b h=>⟨h,by simp[ZN]⟩⟩,⟨g.lc a (d.mono fun b h=>by omega),d.mono fun b h=>⟨h,by simp[ZN]⟩⟩⟩;exact((((j.setCell (by simp) _).setCell (by simp) _).setCell (by simp) _).setCell (by simp) _).setCell (by simp) _
theorem Fa{Q:Exit->Act->Zi->Prop}{S:Zi->Prop}{o':Oper}(ho:ops.toList[i]?=M o)(ho':ops.toList[j]?=M o')(hr:Region.ready md ops listed=[i,j])
  (h:∀K':Act->Zi->Prop,Shut (∀a w,S w->(S w->Yd P md ops Q S fuel (listed.setIfInBounds i Zp) a w)->K' a w)->if Yb o (yielded ops a.tmps)=Zp then Oper.wp P o a w K' Q else K' (a.put o.dst undef) w)
  (h':∀K':Act->Zi->Prop,Shut (∀a w,S w->(S w->Yd P md ops Q S fuel (listed.setIfInBounds j Zp) a w)->K' a w)->if Yb o' (yielded ops a.tmps)=Zp then Oper.wp P o' a w K' Q else K' (a.put o'.dst undef) w):Yd P md ops Q S (fuel+1) listed a w:=
 wpAnyH_ready hr (by simp) (AllReadyH.cons (o:=o) (by simpa using ho) h (AllReadyH.cons (o:=o') (by simpa using ho') h' AllReadyH.nil))
structure T2(Q:Nat->Prop)(W:Zi)(vh vw:ZE)(ts us:List Tr)(wr:Zi):Prop where
 oh:wr.ownsRow W.heap.size 24 2 vh ts.length (cellsOf ts)
 ow:wr.ownsRow W.heap.size 24 2 vw us.length (cellsOf us)
 ne:∀k,vh.ownBlock=M k->vw.ownBlock≠M k
 ih:∀t,t∈ts->t.In wr/\t.Bl (fun b=>Q b/\M b≠vh.ownBlock/\M b≠vw.ownBlock)
 iw:∀t,t∈us->t.In wr/\t.Bl (fun b=>Q b/\M b≠vh.ownBlock/\M b≠vw.ownBlock)
 low:Zk W.heap.size W wr
theorem T2.start(Q:Nat->Prop)(W:Zi):T2 Q W (C F 0 0) (C F 0 0) [] [] W:=⟨ZT _ _ _ _,ZT _ _ _ _,fun k h=>(by simp[ZN] at h),fun t h=>(by cases h),fun t h=>(by cases h),Ze _ _⟩
theorem T2.below(h:T2 Q W vh vw ts us wr)(hb:Zk wr.heap.size wr w2):T2 Q W vh vw ts us w2:=⟨YX h.oh hb,YX h.ow hb,h.ne,fun t ht=>⟨(h.ih t ht).1.below hb,(h.ih t ht).2⟩,fun t ht=>⟨(h.iw t ht).1.below hb,(h.iw t ht).2⟩,h.low.trans (hb.mono h.low.size)⟩
theorem Mf{e:TypeId}{size:Nat}{v:ZE}{n:Nat}{xs:List ZE}(h:w.ownsRow base e size v n xs)(d:∀k,v.ownBlock=M k->w'.heap[k]?=w.heap[k]?):w'.ownsRow base e size v n xs:=by
 refine⟨h.1,?_⟩;rcases h.2 with i|⟨g,cap,a,rfl,c,b,rest⟩
 .exact .inl i
 .exact .inr ⟨g,cap,a,rfl,c,by rw[d g rfl];exact b,rest⟩
theorem T2.step{V1 V2 w4:Zi}{t:Tr}{g1 c1 g2 c2:Nat}(h:T2 Q W vh vw ts us wr)(j:Zk wr.heap.size wr V1)(a1:t.In V1)(a0:t.Bl (fun b=>Q b/\M b≠vh.ownBlock/\M b≠vw.ownBlock))
  (y:w3.ownsRow W.heap.size 24 2 (C (M ⟨g1,0,F⟩) (ts.length+1) c1) (ts.length+1) (cellsOf ts++[I L t.k,C t.a t.l.length t.c])) (g:V1.grownBy w3 vh.ownBlock) (w:vh.ownBlock=M g1\/V1.heap.size<=g1) (a6:g1<w3.heap.size) (m:Zk w3.heap.size w3 V2)
  (z:w4.ownsRow W.heap.size 24 2 (C (M ⟨g2,0,F⟩) (us.length+1) c2) (us.length+1) (cellsOf us++[I L t.k,C t.a t.l.length t.c])) (c:V2.grownBy w4 vw.ownBlock) (u:vw.ownBlock=M g2\/V2.heap.size<=g2) :
  T2 Q W (C (M ⟨g1,0,F⟩) (ts.length+1) c1) (C (M ⟨g2,0,F⟩) (us.length+1) c2) (ts++[t]) (us++[t]) w4/\∀k,k<wr.heap.size->M k≠vh.ownBlock->M k≠vw.ownBlock->w4.heap[k]?=wr.heap[k]?:=by
 have s1:=j.size;have s2:=g.size;have s3:=m.size;have s4:=c.size;have a7:=h.oh.lt;have a4:=h.ow.lt;have a2:M g1≠vw.ownBlock:=fun e=>by
  rcases w with p|p
  .exact h.ne g1 p e.symm
  .have:=(a4 g1 e.symm).2;omega
 have a8:g1≠g2:=fun e=>by
  subst e;rcases u with q|q
  .exact a2 q.symm
  .omega
 have a3:∀k,k<V1.heap.size->M k≠vh.ownBlock->M k≠vw.ownBlock->w4.heap[k]?=V1.heap[k]?:=fun k r p q=>by rw[c.block k (by omega) q,m.block k (by omega),g.block k r p]
 have x:∀k,k<wr.heap.size->M k≠vh.ownBlock->M k≠vw.ownBlock->w4.heap[k]?=wr.heap[k]?:=fun k r p q=>by rw[a3 k (by omega) p q,j.block k r]
 have a5:∀b,b<V1.heap.size->M b≠vh.ownBlock->M b≠vw.ownBlock->M b≠(ZJ (M ⟨g1,0,F⟩) (ts.length+1) c1).ownBlock/\M b≠(ZJ (M ⟨g2,0,F⟩) (us.length+1) c2).ownBlock:=fun b o p q=>by
  constructor
  .show M b≠M g1
   rcases w with e|e
   .rw[<-e];exact p
   .simp only[ne_eq,ZC];omega
  .show M b≠M g2
   rcases u with e|e
   .rw[<-e];exact q
   .simp only[ne_eq,ZC];omega
 have l:∀d:Tr,d.In V1->d.Bl (fun b=>Q b/\M b≠vh.ownBlock/\M b≠vw.ownBlock)->d.In w4/\d.Bl (fun b=>Q b/\M b≠(ZJ (M ⟨g1,0,F⟩) (ts.length+1) c1).ownBlock/\M b≠(ZJ (M ⟨g2,0,F⟩) (us.length+1) c2).ownBlock):=fun d h1 h2=>by have i3:=h1.bl.and h2;refine⟨h1.congr (P:=fun b=>b<V1.heap.size/\Q b/\M b≠vh.ownBlock/\M b≠vw.ownBlock) (fun b o i=>Zv (a:=⟨b,i,F⟩) (a3 b o.1 o.2.2.1 o.2.2.2)) i3,i3.mono fun b o=>⟨o.2.1,a5 b o.1 o.2.2.1 o.2.2.2⟩⟩
 refine⟨⟨?_,?_,?_,?_,?_,?_⟩,x⟩
 .rw[UR,Zz,Zx];refine Mf y fun k r=>?_;have:g1=k:=Zs r;subst this;rw[c.block g1 (by omega) a2,m.block g1 a6]
 .rw[UR,Zz,Zx];exact z
 .intro k r e;have p:g1=k:=Zs r;have q:g2=k:=Zs e;omega
 .intro d hd;rcases ZL.1 hd with hd|hd
  .exact l d ((h.ih d hd).1.below j) (h.ih d hd).2
  .rcases ZK.1 hd with rfl;exact l d a1 a0
 .intro d hd;rcases ZL.1 hd with hd|hd
  .exact l d ((h.iw d hd).1.below j) (h.iw d hd).2
  .rcases ZK.1 hd with rfl;exact l d a1 a0
 .refine h.low.trans ⟨?_,?_,?_,by omega,fun k r=>x k (by have:=h.low.size;omega) (fun e=>by have:=(a7 k e.symm).1;omega) (fun e=>by have:=(a4 k e.symm).1;omega)⟩
  .rw[c.os,m.os,g.os,j.os]
  .rw[c.tape,m.tape,g.tape,j.tape]
  .rw[c.output,m.output,g.output,j.output]
theorem T2.other{V1:Zi}(h:T2 Q W vh vw ts us wr)(b:Zk wr.heap.size wr V1)(a:V1.grownBy w3 vh.ownBlock):w3.ownsRow W.heap.size 24 2 vw us.length (cellsOf us):=by refine Mf h.ow fun k c=>?_;have d:=h.ow.lt k c;rw[a.block k (by have:=b.size;omega) (fun e=>h.ne k e.symm c),b.block k d.2]
theorem Ke{v:ZE}(h:wr.ownsRow base 24 2 v ts.length (cellsOf ts))(b:∀t,t∈ts->t.In wr):∃a c,v=C a ts.length c/\(Tr.mk 0 a c ts).In wr/\(∀y,a=M y->base<=y.block/\v.ownBlock=M y.block/\y.off=0):=by
 rcases h.2 with⟨rfl,k⟩|⟨g,cap,i,rfl,l,_⟩
 .have:ts=[]:=ZS.1 k;subst this;exact⟨F,0,rfl,Tr.mm _ _ _ _,fun y d=>(by cases d)⟩
 .refine⟨_,_,rfl,Tr.li.2 ⟨fun j e=>⟨g,0,rfl,?_,?_⟩,b⟩,fun y d=>(by cases d;exact⟨l,rfl,rfl⟩)⟩
  .rw[Zu,h.cellAt (j*2) (by omega),(J2 ts j e).1]
  .rw[Zu,h.cellAt (j*2+1) (by omega),(J2 ts j e).2]
def Ot(Q:Nat->Prop)(T:Tm)(w:Zi)(e:Ending)(w':Zi):Prop:=∃y:TT,e=Zf (Zh #[I L y.k,I L y.n,I L y.t.k,C y.t.a y.t.l.length y.t.c,I L y.f.k,C y.f.a y.f.l.length y.f.c,C y.a y.l.length y.c])/\y.tm=T/\y.In w'/\y.Bl Q/\Zk w.heap.size w w'
structure WB(x:TT)(w:Zi)(W:Zi):Prop where
 low:Zk w.heap.size w W
 box:XC W w.heap.size x
 z:MY W (w.heap.size+1)
 n0:W.cell? ⟨w.heap.size+1+1,0,F⟩=M (I L 1)
 n1:W.cell? ⟨w.heap.size+1+1,1,F⟩=M (C F 0 0)
theorem WB.lt(h:WB x w W):w.heap.size+1+1<W.heap.size:=Z _ _ h.n0
theorem WB.pp(h:WB x w W)(hb:Zk w.heap.size w V)(e:∀k,k<=w.heap.size+1+1->V.heap[k]?=W.heap[k]?):WB x w V:=⟨hb,h.box.pp (e _ (by omega)),h.z.pp (e _ (by omega)),(Zv (a:=⟨w.heap.size+1+1,0,F⟩) (e _ (Zg _))).trans h.n0,(Zv (a:=⟨w.heap.size+1+1,1,F⟩) (e _ (Zg _))).trans h.n1⟩
theorem WB.below(h:WB x w W)(hb:Zk W.heap.size W V):WB x w V:=h.pp (h.low.trans (hb.mono h.low.size)) fun k hk=>hb.block k (by have:=h.lt;omega)
structure P2(x:TT)(w V0:Zi)(Q:Nat->Prop)(ah:Option Z5)(ch:Nat)(ts:List Tr)(g cw:Nat)(uu:List Tr)(W:Zi):Prop where
 hv:(Tr.mk 0 ah ch ts).In W
 hb:(Tr.mk 0 ah ch ts).Bl (fun b=>Q b/\b≠g)
 wv:(Tr.mk 0 (M ⟨g,0,F⟩) cw uu).In W
 wb:∀u,u∈uu->u.Bl (fun b=>Q b/\b≠g)
 wf:∀i,W.frozen? ⟨g,i,F⟩=Zo
 bx:WB x w W
 gl:V0.heap.size<=g/\w.heap.size+1+1<V0.heap.size/\g<W.heap.size
 low:Zk V0.heap.size V0 W
structure P3(x:TT)(w V0:Zi)(Q:Nat->Prop)(ah:Option Z5)(ch:Nat)(ts:List Tr)(a:Option Z5)(c:Nat)(uu:List Tr)(W:Zi):Prop where
 hv:(Tr.mk 0 ah ch ts).In W
 hb:(Tr.mk 0 ah ch ts).Bl Q
 wv:(Tr.mk 0 a c uu).In W
 wb:(Tr.mk 0 a c uu).Bl Q
 bx:WB x w W
 low:Zk V0.heap.size V0 W
theorem P2.fin(h:P2 x w V0 Q ah ch ts g cw uu W)(hQ:∀b,w.heap.size+1+1<=b->Q b):P3 x w V0 Q ah ch ts (M ⟨g,0,F⟩) cw uu W:=⟨h.hv,h.hb.mono fun b hb=>hb.1,h.wv,Tr.ld.2 ⟨fun _ y hy=>by cases hy;exact hQ g (by have:=h.gl;omega),fun u hu=>(h.wb u hu).mono fun b hb=>hb.1⟩,h.bx,h.low⟩
theorem P2.below(h:P2 x w V0 Q ah ch ts g cw uu W)(hb:Zk W.heap.size W V):P2 x w V0 Q ah ch ts g cw uu V:=⟨h.hv.below hb,h.hb,h.wv.below hb,h.wb,fun i=>(hb.frozen (p:=⟨g,i,F⟩) h.gl.2.2).trans (h.wf i),h.bx.below hb,⟨h.gl.1,h.gl.2.1,Nat.lt_of_lt_of_le h.gl.2.2 hb.size⟩,h.low.trans (hb.mono h.low.size)⟩
theorem P2.set{o o1:Nat}{u:Tr}(h:P2 x w V0 Q ah ch ts g cw uu W)(hj:j<uu.length)(ho:o=j*2)(m:o1=j*2+1)(hu:u.In W)(d:u.Bl (fun b=>Q b/\b≠g)):
  P2 x w V0 Q ah ch ts g cw (uu.set j u) ((W.setCell ⟨g,o,F⟩ (I L u.k)).setCell ⟨g,o1,F⟩ (C u.a u.l.length u.c)):=by
 subst ho m;have c:Yi g F W ((W.setCell ⟨g,j*2,F⟩ (I L u.k)).setCell ⟨g,j*2+1,F⟩ (C u.a u.l.length u.c)):=Yj.trans Yj;have p:=h.gl;obtain⟨b,r,e,y,z,_⟩:=h.wv.part j hj;obtain⟨rfl,rfl⟩:g=b/\0=r:=by simpa using e
 simp only[Zu] at y z;have hc:=XJ (io:=j*2) (u:=I L u.k) (v:=u.s) y z;refine⟨h.hv.lc c (h.hb.mono fun b l=>l.2),h.hb,?_,?_,fun i=>?_,?_,⟨p.1,p.2.1,by have:=c.size;omega⟩,?_⟩
 .refine Tr.li.2 ⟨fun q hq=>⟨g,0,rfl,?_⟩,fun t a=>?_⟩
  .have hq':q<uu.length:=by simpa using hq
   by_cases hqj:q=j
   .subst hqj;simp only[List.getElem_set_self,Tr.sl,Zu];exact hc
   .obtain⟨b,r,e,d0,d1,_⟩:=h.wv.part q hq';obtain⟨rfl,rfl⟩:g=b/\0=r:=by simpa using e
    simp only[Zu] at d0 d1;rw[List.getElem_set_ne (fun e=>hqj e.symm)];simp only[Tr.sl,Zu];constructor
    .rw[Zw,Zw]
     .exact d0
     .intro e;simp only[Addr.mk.injEq] at e;omega
     .intro e;simp only[Addr.mk.injEq] at e;omega
    .rw[Zw,Zw]
     .exact d1
     .intro e;simp only[Addr.mk.injEq] at e;omega
     .intro e;simp only[Addr.mk.injEq] at e;omega
  .rcases Z3 a with a|rfl
   .exact((Tr.li.1 h.wv).2 t a).lc c ((h.wb t a).mono fun b l=>l.2)
   .exact hu.lc c (d.mono fun b l=>l.2)
 .intro t a;rcases Z3 a with a|rfl
  .exact h.wb t a
  .exact d
 .simp only[ZI];exact h.wf i
 .have hl:=h.bx.lt;exact h.bx.pp (h.bx.low.trans ((c.below (by simp) (by omega)).mono (by omega))) fun k a0=>c.block k (by omega) (by omega) (by simp)
 .exact h.low.trans ((c.below (by simp) (by omega)).mono p.1)
theorem P2.of(h:T2 Q V0 vh vw ts ts W)(k:WB x w V0)(hQ:∀b,w.heap.size+1+1<=b->Q b)(hn:0<ts.length):∃ah ch g cw,vh=C ah ts.length ch/\vw=C (M ⟨g,0,F⟩) ts.length cw/\P2 x w V0 Q ah ch ts g cw ts W:=by
 obtain⟨ah,ch,e1,i1,a1⟩:=Ke h.oh fun t d=>(h.ih t d).1;obtain⟨aw,cw,q,m,a2⟩:=Ke h.ow fun t d=>(h.iw t d).1;obtain⟨g,o,e,_⟩:=m.part 0 hn;simp only at e;subst e;obtain⟨p,a,c⟩:=a2 _ rfl;simp only at p a c;subst c;have l:=h.ow.lt g a;refine⟨ah,ch,g,cw,e1,q,⟨i1,?_,m,fun u hu=>(h.iw u hu).2.mono fun b j=>⟨j.1,fun e=>j.2.2 (by rw[a,e])⟩,fun i=>?_,k.below h.low,⟨p,k.lt,l.2⟩,h.low⟩⟩
 .refine Tr.ld.2 ⟨fun _ y z=>?_,fun t d=>(h.ih t d).2.mono fun b j=>⟨j.1,fun e=>j.2.2 (by rw[a,e])⟩⟩;obtain⟨h1,r,_⟩:=a1 y z;exact⟨hQ _ (by have:=k.lt;omega),fun e=>h.ne y.block r (by rw[a,e])⟩
 .have:=h.ow;rw[q] at this;exact this.frozenAt i
theorem P3.of(h:T2 Q V0 vh vw ts ts W)(c:WB x w V0)(g:∀b,w.heap.size+1+1<=b->Q b):∃ah ch aw cw,vh=C ah ts.length ch/\vw=C aw ts.length cw/\P3 x w V0 Q ah ch ts aw cw ts W:=by
 obtain⟨ah,ch,k,j,l⟩:=Ke h.oh fun t a=>(h.ih t a).1;obtain⟨aw,cw,o,i,m⟩:=Ke h.ow fun t a=>(h.iw t a).1;refine⟨ah,ch,aw,cw,k,o,⟨j,Tr.ld.2 ⟨fun _ y d=>?_,fun t a=>(h.ih t a).2.mono fun b e=>e.1⟩,i,Tr.ld.2 ⟨fun _ y d=>?_,fun t a=>(h.iw t a).2.mono fun b e=>e.1⟩,c.below h.low,h.low⟩⟩
 .exact g _ (by have:=(l y d).1;have:=c.lt;omega)
 .exact g _ (by have:=(m y d).1;have:=c.lt;omega)
theorem P3.below{a:Option Z5}(h:P3 x w V0 Q ah ch ts a c uu W)(hb:Zk W.heap.size W V):P3 x w V0 Q ah ch ts a c uu V:=⟨h.hv.below hb,h.hb,h.wv.below hb,h.wb,h.bx.below hb,h.low.trans (hb.mono h.low.size)⟩
theorem Tr.right.part{t:Tr}(h:t.right)(j:Nat)(b:j<t.l.length):t.l[j].right:=by obtain⟨k,a,c,l⟩:=t;exact(Tr.nd.1 h).2 _ (ZQ b)
theorem Tr.right.kinds{t:Tr}(h:t.right):0<=t.k/\t.k<=3:=by rcases h.cases with⟨_,a⟩|⟨_,_,_,a,_⟩<;>omega
theorem Ex(a b:Int)(e:0<=a)(g:a<=3)(d:0<=b)(c:b<=3):(wrap64 (a*b)==0)=Yl a b:=by
 obtain rfl|rfl|rfl|rfl:a=0\/a=1\/a=2\/a=3:=by omega
 all_goals
  obtain rfl|rfl|rfl|rfl:b=0\/b=1\/b=2\/b=3:=by omega
  all_goals simp[wrap64,Yl]
theorem TP(n:Nat)(x y:Tr)(w:Zi)(hx:x.In w)(hy:y.In w)(hh:x.hgt<=n+1)(hs:x.sm)(rx:x.right)(ry:y.right)(hm:(wrap64 (x.k*y.k)==0)=Zo)(he:Zn (Yl x.k y.k=Zo))
  (ih:Zn (∀(x y:Tr)(w:Zi),x.In w->y.In w->x.hgt<=n->x.sm->x.right->y.right->Zt Zd 91 #[Zh #[I L x.k,C x.a x.l.length x.c],Zh #[I L y.k,C y.a y.l.length y.c]] w fun e w'=>e=Zf (.bool (YD Yl x.ty y.ty))/\Zk w.heap.size w w')) :
  Zt Zd 91 #[Zh #[I L x.k,C x.a x.l.length x.c],Zh #[I L y.k,C y.a y.l.length y.c]] w fun e w'=>e=Zf (.bool (YD Yl x.ty y.ty))/\Zk w.heap.size w w':=by
 have a4:=hs.len;obtain⟨tk,a0⟩:∃b,(x.k==y.k)=b:=⟨_,rfl⟩
 obtain⟨tl,k⟩:∃b,((x.l.length:Int)==(y.l.length:Int))=b:=⟨_,rfl⟩
 have z:=Yy a0;have HL:=Yy k;have u:((w.alloc (Zj #[I L x.k,C x.a x.l.length x.c] 24)).alloc (Zj #[I L y.k,C y.a y.l.length y.c] 24)).cell? ⟨w.heap.size,1,F⟩=M (C x.a x.l.length x.c):=by simp[go_sem]
 have p:((w.alloc (Zj #[I L x.k,C x.a x.l.length x.c] 24)).alloc (Zj #[I L y.k,C y.a y.l.length y.c] 24)).cell? ⟨w.heap.size+1,1,F⟩=M (C y.a y.l.length y.c):=by simp[go_sem]
 have HP:=Uy u p;clear u p;have l:bL w ((w.alloc (Zj x.v 24)).alloc (Zj y.v 24)):=((Ze _ _).alloc (Zg _) _).alloc (by simp) _;cases tk
 .have HT:Zn ((x.k==y.k&&(x.l.length:Int)==(y.l.length:Int))=Zo):=by show _=Zo;rw[z.out];rfl
  clear k HL z;go_enter Z9,Z6;go_wp2_with fail;go_loopw [5,6] (fun b i wr=>b=.bool Zo/\i=I L 0/\wr=((w.alloc (Zj x.v 24)).alloc (Zj y.v 24))) (fun _ _ _=>0)
  case atStart=>exact⟨rfl,rfl,rfl⟩
  case round=>obtain⟨rfl,rfl,rfl⟩:=hrel;go_wp2_with fail;go_ret;exact⟨by rw[Kt Yl x y he.out HT.out];rfl,l⟩
 .cases tl
  .have HT:Zn ((x.k==y.k&&(x.l.length:Int)==(y.l.length:Int))=Zo):=by show _=Zo;rw[z.out,HL.out];rfl
   clear HL z;go_enter Z9,Z6;go_wp2_with fail;go_loopw [5,6] (fun b i wr=>b=.bool Zo/\i=I L 0/\wr=((w.alloc (Zj x.v 24)).alloc (Zj y.v 24))) (fun _ _ _=>0)
   case atStart=>exact⟨rfl,rfl,rfl⟩
   case round=>obtain⟨rfl,rfl,rfl⟩:=hrel;go_wp2_with fail;go_ret;exact⟨by rw[Kt Yl x y he.out HT.out];rfl,l⟩
  .have hk:Zn (x.k=y.k):=by show x.k=y.k;have h:=z.out;simpa using h
   have hl:Zn (x.l.length=y.l.length):=by have h:=HL.out;simp at h;exact Int.ofNat.inj h
   clear HL z;go_enter Z9,Z6;go_wp2_with fail;clear a0 k;go_loopg [5,6] (x.l.length+1) (fun g b i wr=>∃(j:Nat)(c:Bool),j<=x.l.length/\g=(if c then x.l.length-j+1 else 0)/\b=.bool c/\i=I L (j:Int)/\bL w wr/\cL wr w.heap.size 1 (x.s)/\cL wr (w.heap.size+1) 1 (y.s)/\ Zn (c=Zp->∀q(h:q<x.l.length)(h':q<y.l.length),q<j->YD Yl x.l[q].ty y.l[q].ty=Zp)/\Zn (c=Zo->YD Yl x.ty y.ty=Zo))
   case atStart=>exact⟨0,Zp,Z1 _,rfl,rfl,rfl,l,HP.out.1,HP.out.2,fun _ q _ _ h=>absurd h (by omega),fun h=>by cases h⟩
   case round=>
    obtain⟨j,c,hj,hg,rfl,rfl,a,u,p,HA,HB⟩:=hrel;cases c
    .have HB1:=Yy (HB.out rfl);clear HA HB hg;go_wp2_with fail;go_ret;exact⟨by rw[HB1.out];rfl,a⟩
    .have HA1:=Yy (HA.out rfl);clear HA HB;by_cases hlt:j<x.l.length
     .have hlt':j<y.l.length:=hl.out▸hlt;obtain⟨b,o,ea,x0,x1,a3⟩:=hx.part j hlt;obtain⟨b',o',eb,y0,y1,a2⟩:=hy.part j hlt';have q1:cL wr w.heap.size 1 (C (M ⟨b,o,F⟩) x.l.length x.c):=by rw[<-ea];exact u
      have q3:cL wr (w.heap.size+1) 1 (C (M ⟨b',o',F⟩) y.l.length y.c):=by rw[<-eb];exact p
      have m:=Uy u p;replace x0:=Za a x0;replace x1:=Za a x1;replace y0:=Za a y0;replace y1:=Za a y1;have i1:(j:Int)<(x.l.length:Int):=by omega
      have i2:(j:Int)<(y.l.length:Int):=by omega
      have i0:(0:Int)<=(j:Int):=by omega
      obtain⟨r,hr⟩:∃r,YD Yl x.l[j].ty y.l[j].ty=r:=⟨_,rfl⟩
      have HC:Zn (∀(w:Zi),x.l[j].In w->y.l[j].In w->Zt Zd 91 #[Zh x.l[j].v,Zh y.l[j].v] w fun e w'=>e=Zf (.bool r)/\bL w w'):=by intro w h1 h2;have:=ih.out x.l[j] y.l[j] w h1 h2 (Tr.mf hh j hlt) (hs.part j hlt) (rx.part j hlt) (ry.part j hlt');rw[hr] at this;exact this
      have HR:=Yy hr;have HG:=Yy hg;clear hr u p ea eb hx hy hg;go_wp2_with fail;go_region_held3 (fun w'=>w'.cell? ⟨w.heap.size,1,F⟩=M (C (M ⟨b,o,F⟩) x.l.length x.c)/\w'.cell? ⟨w.heap.size+1,1,F⟩=M (C (M ⟨b',o',F⟩) y.l.length y.c)/\w'.cell? ⟨b,o+j*2,F⟩=M (I L x.l[j].k)/\w'.cell? ⟨b,o+j*2+1,F⟩=M (C x.l[j].a x.l[j].l.length x.l[j].c)/\w'.cell? ⟨b',o'+j*2,F⟩=M (I L y.l[j].k)/\w'.cell? ⟨b',o'+j*2+1,F⟩=M (C y.l[j].a y.l[j].l.length y.l[j].c))
       (first|exact⟨Za d q1,Za d q3,Za d x0,Za d x1,Za d y0,Za d y1⟩|go_keep)
       (first|(go_at_call 91;refine(HC.out _ (a3.below a.drew) (a2.below a.drew)).mono ?_;rintro e w2 ⟨rfl,d⟩))
      have a1:=a.drew.trans (d.mono a.size);have s1:=Za d m.out.1;have s3:=Za d m.out.2;clear d q1 q3 x0 x1 y0 y1 HC m;go_wp2_with fail;go_roundg (if r then x.l.length-(j+1)+1 else 0)
      case measure=>rw[HG.out];cases r<;>simp<;>omega
      case rel=>
       refine⟨j+1,r,by omega,rfl,rfl,by go_num,a1,s1,s3,fun h q h1 h2 hq=>?_,fun h=>?_⟩
       .by_cases e:q=j
        .subst e;rw[HR.out,h]
        .exact HA1.out q h1 h2 (by omega)
       .exact JP Yl x y he.out j hlt hlt' (by rw[HR.out,h])
     .go_wp2_with fail;go_ret;refine⟨?_,a⟩;rw[LH Yl x y hk.out hl.out fun q h h'=>HA1.out q h h' (by omega)];rfl
theorem Ww(x y:Tr)(w:Zi)(a:(wrap64 (x.k*y.k)==0)=Zp):
  Zt Zd 91 #[Zh #[I L x.k,C x.a x.l.length x.c],Zh #[I L y.k,C y.a y.l.length y.c]] w fun e w'=>e=Zf (.bool Zp)/\Zk w.heap.size w w':=by
 go_enter Z9,Z6;go_wp2_with fail;go_ret;exact⟨rfl,((Ze _ _).alloc (Zg _) _).alloc (by simp) _⟩
theorem UP(n:Nat):∀(x y:Tr)(w:Zi),x.In w->y.In w->x.hgt<=n->x.sm->x.right->y.right->Zt Zd 91 #[Zh #[I L x.k,C x.a x.l.length x.c],Zh #[I L y.k,C y.a y.l.length y.c]] w fun e w'=>e=Zf (.bool (YD Yl x.ty y.ty))/\Zk w.heap.size w w':=by
 induction n with
 |zero=>intro x y w _ _ h;have:=x.ml;omega
 |succ n ih=>
  intro x y w g c h d a b;obtain⟨k,m⟩:=a.kinds;obtain⟨l,j⟩:=b.kinds;have i:=Ex x.k y.k k m l j;cases he:Yl x.k y.k with
  |true=>rw[PD Yl x y he];exact Ww x y w (by rw[i];exact he)
  |false=>exact TP n x y w g c h d a b (by rw[i];exact he) he (fun x y w g c h d a b=>ih x y w g c h d a b)
theorem AC(Q:Nat->Prop)(x:TT)(E:Tr)(w:Zi)(hx:x.In w)(hE:E.In w)(hok:J8 x.tm E.l.length)(hEg:∀u,u∈E.l->YB 4 u=Zp)(hsz:x.sz+E.l.length<=900)(xb:x.Bl Q)(eb:E.Bl Q)(nw:∀b,w.heap.size<=b->Q b)
  (ih:Zn (∀y,y∈x.l->∀(Q':Nat->Prop)(E':Tr)(W:Zi),y.In W->E'.In W->J8 y.tm E'.l.length->(∀u,u∈E'.l->YB 4 u=Zp)->y.sz+E'.l.length<=900->y.Bl Q'->E'.Bl Q'->(∀b,W.heap.size<=b->Q' b)->
   Zt Zd 57 #[Zh #[I L y.k,I L y.n,I L y.t.k,C y.t.a y.t.l.length y.t.c,I L y.f.k,C y.f.a y.f.l.length y.f.c,C y.a y.l.length y.c],C E'.a E'.l.length E'.c] W (KG Q' (Xa y.tm (E'.l.map Tr.ty)) W))) :
  Zt Zd 57 #[Zh #[I L x.k,I L x.n,I L x.t.k,C x.t.a x.t.l.length x.t.c,I L x.f.k,C x.f.a x.f.l.length x.f.c,C x.a x.l.length x.c],C E.a E.l.length E.c] w (KG Q (Xa x.tm (E.l.map Tr.ty)) w):=by
 obtain⟨i0,bo,bv,c8,c6⟩:=info_parts Tryz.info24s;obtain⟨dr,dt,cm,d5,cu,d7,cn,cq⟩:1<=x.k/\x.k<=9/\x.l.length=Yu x.k/\XQ x.f.ty=Zp/\YB 4 x.t=Zp/\(XV x.k=Zo->XQ x.t.ty=Zp)/\(x.k=1->0<=x.n/\x.n<(E.l.length:Int))/\∀y,y∈x.l->J8 y.tm (if x.k=7 then E.l.length+1 else E.l.length):=by obtain⟨k,n,t,f,a,c,l⟩:=x;rw[TT.ma] at hok;obtain⟨h0,h1⟩:=Kf.1 hok;obtain⟨a1,a2,a3,a4,a5,a6,a7⟩:=JF h0;exact⟨a1,a2,by simpa using a3,a4,by rw[YL];exact a5,a6,a7,fun y hy=>h1 _ (ZW.2 ⟨y,hy,rfl⟩)⟩
 have dq:x.l.length<=3:=by rw[cm];unfold Yu;split<;>(try split)<;>(try split)<;>omega
 obtain⟨W1,bz⟩:∃W,W=((((w.alloc (Zj #[I L x.k,I L x.n,I L x.t.k,C x.t.a x.t.l.length x.t.c,I L x.f.k,C x.f.a x.f.l.length x.f.c,C x.a x.l.length x.c] 27)).alloc (Zj #[I L 0,C F 0 0] 24)).alloc (Zj #[I L 1,C F 0 0] 24)).alloc (Zj #[I L 2,C F 0 0] 24)):=⟨_,rfl⟩
 have bt:TB x w W1:=by
  refine⟨?_,⟨?_,?_,?_,?_,?_,?_,?_⟩,?_,?_,?_,?_,?_,?_,?_,?_⟩
  .rw[bz];exact((((Ze _ _).alloc (Zg _) _).alloc (by simp) _).alloc (by simp;omega) _).alloc (by simp;omega) _
  all_goals (rw[bz];simp[go_sem])
 have c7:=Yy bt;have HX:=Aa hx hE xb eb nw;have HF:=E2 cu hEg hsz cq cm cn;obtain⟨Q1,d4⟩:∃Q1:Nat->Prop,Q1=fun b=>Q b/\b≠w.heap.size+1:=⟨_,rfl⟩
 have ap:Zn (x.Bl Q1/\E.Bl Q1/\(∀b,w.heap.size+1+1<=b->Q1 b)/\∀b,Q1 b->Q b/\b≠w.heap.size+1):=by subst d4;exact⟨(xb.and hx.bl).mono fun b h=>⟨h.1,by omega⟩,(eb.and hE.bl).mono fun b h=>⟨h.1,by omega⟩,fun b h=>⟨nw b (by omega),by omega⟩,fun b h=>h⟩
 obtain⟨q0,q1,q2,q3,q4,q5,q6⟩:=bt.at7;simp only[Zu] at q0 q1 q2 q3 q4 q5 q6;have ls:w.heap.size<W1.heap.size:=Z _ _ q0;have b4:=hE.below bt.low;have dl:E.l.length<=900:=by omega
 clear hok hEg hsz cq d5 cu d7 cn xb eb nw hx hE bt d4 cm;go_enter func57,ntmps57;go_upto_region 4 with fail;rw[<-bz];clear bz;go_upto_if 19 with fail;go_cut [9] (fun s9 wx=>∃N:Tr,s9=N.s/\Zn (N.l.map Tr.ty=Yv x.k x.t.ty (E.l.map Tr.ty)/\N.In wx/\N.Bl Q1/\bL W1 wx/\(∀u,u∈N.l->YB 4 u=Zp)))
 case first=>
  by_cases hk0:x.k=7
  .have HK:=Yy hk0;have bc:(x.k==7)=Zp:=by simpa using hk0
   clear hk0;rw[bc];clear bc;have af:bL W1 (W1.alloc (Zj x.t.v 24)):=(Ze _ _).alloc (Zg _) _;have ax:(W1.alloc (Zj x.t.v 24)).ownsRow W1.heap.size 24 2 (C (M ⟨W1.heap.size,0,F⟩) 1 1) 1 (cellsOf [x.t]):=by have:=World.ownsRow_lit (base:=W1.heap.size) (e:=24) (size:=2) W1 x.t.v 1 (by simp) (by unfold maxLen;omega) (by simp);simpa[cellsOf] using this
   have bm:=(HX.out.1.below c7.out.low).t;by_cases h0:E.l.length=0
   .have hE0:E.l=[]:=ZB h0;have HN:Zn ([x.t].map Tr.ty=Yv x.k x.t.ty (E.l.map Tr.ty)/\(Tr.mk 0 (M ⟨W1.heap.size,0,F⟩) 1 [x.t]).In (W1.alloc (Zj #[I L x.t.k,C x.t.a x.t.l.length x.t.c] 24))/\(Tr.mk 0 (M ⟨W1.heap.size,0,F⟩) 1 [x.t]).Bl Q1/\Zk W1.heap.size W1 (W1.alloc (Zj #[I L x.t.k,C x.t.a x.t.l.length x.t.c] 24))/\(∀u,u∈[x.t]->YB 4 u=Zp)):=by refine⟨by rw[Yv,if_pos HK.out,hE0];rfl,Kj ax rfl (fun t ht=>by have:t=x.t:=(by simpa using ht);subst this;exact bm.below af) 0,?_,af,fun u hu=>by have:u=x.t:=(by simpa using hu);subst this;exact HF.out.1⟩;exact WJ (ap.out.2.2.1 _ (by have:=c7.out.lt;omega)) ap.out.1.t
    clear ax af bm b4 hE0;have H0:Zn (E.l.length=0):=h0;clear h0;go_wp2_with (at_builtin;refine U9 rfl _ _ _ rfl 24 i0 Z4 bo W1.heap.size 1 1 rfl E.a E.c (by show ZJ E.a E.l.length E.c=_;rw[H0.out]) (by omega) ?_)
    go_meet
    case rel=>exact⟨⟨0,M ⟨W1.heap.size,0,F⟩,1,[x.t]⟩,rfl,HN⟩
   .obtain⟨b,o,ea,_⟩:=b4.part 0 (by omega);have cr:=b4.below af;have be:=fun j u h=>LR cr ea j u h;have cw:Zn (∀t,t∈x.t::E.l->t.In (W1.alloc (Zj #[I L x.t.k,C x.t.a x.t.l.length x.t.c] 24))/\t.Bl (·<W1.heap.size)):=by
     intro t ht;rcases Yc.1 ht with rfl|ht
     .exact⟨bm.below af,bm.bl⟩
     .obtain⟨q,hq,rfl⟩:=ZY ht;obtain⟨_,_,_,_,_,hi⟩:=b4.part q hq;exact⟨hi.below af,hi.bl⟩
    have hm:0<E.l.length:=by omega
    have HB:Zn (Zk W1.heap.size W1 (W1.alloc (Zj #[I L x.t.k,C x.t.a x.t.l.length x.t.c] 24))):=af;have d8:Zn (E.a=M ⟨b,o,F⟩):=ea;clear b4 cr ea af bm;go_wp2_with (at_builtin;refine wpList_append_lies _ rfl _ _ _ rfl W1.heap.size 24 i0 _ 2 32 Z4 bo bv c8 c6 rfl (by omega) (C (M ⟨W1.heap.size,0,F⟩) 1 1) 1 (cellsOf [x.t]) rfl ax ⟨b,o,F⟩ E.l.length E.c (cellsOf E.l) (by show ZJ E.a E.l.length E.c=_;rw[d8.out]) (UQ _) be (KQ _) hm (by unfold maxLen;omega) (by omega) (by simp) (W1.heap.size+1) (by simp) ?_;intro gg cap1 w3 au ak br bp)
    have hg:W1.heap.size<=gg:=by
     rcases br with h|h
     .simp[ZN] at h;omega
     .omega
    have hsz:=ak.size;have ba:Zk W1.heap.size (W1.alloc (Zj x.t.v 24)) w3:=⟨ak.os,ak.tape,ak.output,ak.size,fun q hq=>ak.block q (by simp;omega) (by simp[ZN];omega)⟩
    have HN:Zn ((x.t::E.l).map Tr.ty=Yv x.k x.t.ty (E.l.map Tr.ty)/\(Tr.mk 0 (M ⟨gg,0,F⟩) cap1 (x.t::E.l)).In w3/\(Tr.mk 0 (M ⟨gg,0,F⟩) cap1 (x.t::E.l)).Bl Q1/\bL W1 w3/\(∀u,u∈x.t::E.l->YB 4 u=Zp)):=by
     refine⟨by rw[Yv,if_pos HK.out];rfl,Kj (n:=1+E.l.length) (l:=x.t::E.l) (by simpa[cellsOf] using au) (by simp;omega) (fun t ht=>?_) 0,?_,HB.out.trans ba,fun u hu=>?_⟩
     .obtain⟨h1,h2⟩:=cw.out t ht;exact Tr.In.congr (P:=fun q=>q<W1.heap.size) (fun q hq o=>ba.cell (p:=⟨q,o,F⟩) hq) h2 h1
     .refine Tr.ld.2 ⟨fun _ y hy=>by cases hy;exact ap.out.2.2.1 _ (by have:=c7.out.lt;show _<=gg;omega),fun t ht=>?_⟩;rcases Yc.1 ht with rfl|ht
      .exact ap.out.1.t
      .have h:=ap.out.2.1;obtain⟨k,a,cc,l⟩:=E;exact(Tr.ld.1 h).2 t ht
     .rcases Yc.1 hu with rfl|hu
      .exact HF.out.1
      .exact HF.out.2.1 u hu
    clear au ak br bp ba ax be cw HB;go_wp2_with fail;go_meet
    case rel=>exact⟨⟨0,M ⟨gg,0,F⟩,cap1,x.t::E.l⟩,by simp[Nat.add_comm],HN⟩
  .have HK:=Yy hk0;have bc:(x.k==7)=Zo:=by simpa using hk0
   clear hk0;rw[bc];clear bc;have HN:Zn (E.l.map Tr.ty=Yv x.k x.t.ty (E.l.map Tr.ty)/\E.In W1/\E.Bl Q1/\bL W1 W1/\(∀u,u∈E.l->YB 4 u=Zp)):=⟨by rw[Yv,if_neg HK.out],b4,ap.out.2.1,Ze _ _,HF.out.2.1⟩
   go_wp2_with fail;go_meet
   case rel=>exact⟨E,rfl,HN⟩
 case rest=>
 obtain⟨N,rfl,HN⟩:=hcut;clear q0 q1 q2 q3 q4 q5 q6 ls b4 bo bv c8 c6;have b6:=Yy (c7.out.below HN.out.2.2.2.1);obtain⟨tk,ck⟩:∃tk,tk=Yv x.k x.t.ty (E.l.map Tr.ty):=⟨_,rfl⟩
 have cb:=Yy ck;have cj:Zn (N.l.map Tr.ty=tk/\N.In wc/\N.Bl Q1/\(∀u,u∈N.l->YB 4 u=Zp)/\N.l.length=(if x.k=7 then E.l.length+1 else E.l.length)):=by refine⟨ck▸HN.out.1,HN.out.2.1,HN.out.2.2.1,HN.out.2.2.2.2,?_⟩;have:=congrArg List.length HN.out.1;rw[ZF,Xl,ZF] at this;exact this
 clear ck HN;apply_assumption;refine wp_seq_k fun Kx dk=>?_;go_cut [8] (fun s8 wx=>∃(a:Option Z5)(c:Nat)(ts:List Tr),s8=C a ts.length c/\Zn (Jv (x.l.map TT.tm) tk=M (ts.map Tr.ty)/\(Tr.mk 0 a c ts).In wx/\(∀t,t∈ts->t.In wx/\t.Bl Q1/\YB 904 t=Zp)/\TB x w wx/\∀y,a=M y->w.heap.size+1<y.block))
 case first=>
  obtain⟨i0,bo,bv,c8,c6⟩:=info_parts Tryz.info24s;have q6:=b6.out.at7.c6;simp only[Zu] at q6;have ls:=b6.out.lt;have dj:=HX.out.1.below b6.out.low;go_wp2_with fail;go_loopg [8,28] x.l.length (fun g s8 i wr=>∃(v:ZE)(j:Nat)(ts:List Tr),v=s8/\j<=x.l.length/\g=x.l.length-j/\i=I L (j:Int)/\Zn (TL Q1 wc v ts wr/\ts.length=j/\∀q(h:q<x.l.length)(h':q<ts.length),Xa x.l[q].tm tk=M ts[q].ty/\YB 904 ts[q]=Zp))
  case atStart=>exact⟨_,0,[],rfl,Z1 _,rfl,rfl,TL.start _ _,rfl,fun q _ h=>by simp at h⟩
  case round=>
   obtain⟨v,j,ts,hv,hj,hg,rfl,HR⟩:=hrel;subst hv;have HG:=Yy hg;clear hg;by_cases hlt:j<x.l.length
   .obtain⟨b,o,ea,⟨x0,x1,x2,x3,x4,x5,x6⟩,hxj⟩:=dj.part j hlt;have ai:=HR.out.1.low;replace x0:=Za ai x0;replace x1:=Za ai x1;replace x2:=Za ai x2;replace x3:=Za ai x3;replace x4:=Za ai x4;replace x5:=Za ai x5;replace x6:=Za ai x6;obtain⟨y,hy⟩:∃y,y=x.l[j]:=⟨_,rfl⟩
    rw[<-hy] at x0 x1 x2 x3 x4 x5 x6 hxj;have bn:y∈x.l:=by rw[hy];exact ZQ hlt
    have HY:=Uy hy bn;have i1:(j:Int)<(x.l.length:Int):=by omega
    have i2:(0:Int)<=(j:Int):=by omega
    have lb:b<wr.heap.size:=Z _ _ x0;have bg:=HR.out.1.own.lt;have ao:bL wr (wr.alloc (Zj y.v 27)):=(Ze _ _).alloc (Zg _) _;have bx:=ai.trans (ao.mono ai.size);have HI:Zn (Zt Zd 57 #[Zh y.v,N.s] (wr.alloc (Zj y.v 27)) (KG (fun b=>Q1 b/\M b≠v.ownBlock) (Xa y.tm tk) (wr.alloc (Zj y.v 27)))):=by
     have aq:=cj.out;rw[<-aq.1];have dm:y.sz+1<=x.sz:=by
      have h1:=x.mr;have h2:y.sz<=(x.l.map TT.sz).sum:=by
       have e:x.l[j].tm.sz<=((x.l.map TT.tm).map Tm.sz).sum:=JE _ _ (ZW.2 ⟨_,ZQ hlt,rfl⟩);rw[<-hy,<-TT.me] at e;have e2:(x.l.map TT.tm).map Tm.sz=x.l.map TT.sz:=by rw[List.map_map];exact ZZ fun z _=>z.me.symm
       rwa [e2] at e
      omega
     refine ih.out y bn _ N _ (hxj.below bx) (aq.2.1.below bx) (by rw[aq.2.2.2.2];exact HF.out.2.2.2.1 y bn) aq.2.2.2.1 ?_ ?_ ?_ ?_
     .have:=HF.out.2.2.1;rw[aq.2.2.2.2];split<;>omega
     .have h1:=ap.out.1.mem bn;exact(h1.and hxj.bl).mono fun b hb=>⟨hb.1,fun e=>by have:=(bg b e.symm).1;omega⟩
     .exact(aq.2.2.1.and aq.2.1.bl).mono fun b hb=>⟨hb.1,fun e=>by have:=(bg b e.symm).1;omega⟩
     .intro b hb;simp at hb;exact⟨ap.out.2.2.1 b (by have:=ai.size;omega),fun e=>by have:=(bg b e.symm).2;omega⟩
    have da:=Yy ea;rw[ea];clear ea hxj hy bn ih;go_wp2_with fail;refine HI.out.mono ?_;rintro e w2 ⟨t,bb,rfl,bd,b3,b9,bj,dg⟩;have aw:=ao.trans (dg.mono ao.size);have b5:=(b6.out.below ai).below aw;have r0:=b5.r0;have r1:=b5.r1;have f0:=b5.f0;have f1:=b5.f1;have us:w.heap.size+1<w2.heap.size:=Z _ _ r0;have un:=Nat.ne_of_lt us;have dd:w.heap.size+1≠w2.heap.size+1:=by omega
    have az:∀X Y,bL w2 ((w2.alloc X).alloc Y):=fun X Y=>((Ze _ _).alloc (Zg _) _).alloc (by simp) _;have bf:∀X Y,cL ((w2.alloc X).alloc Y) (w.heap.size+1) 0 (I L 0):=fun X Y=>Za (az X Y) r0;have ch:∀X Y,cL ((w2.alloc X).alloc Y) (w.heap.size+1) 1 (C F 0 0):=fun X Y=>Za (az X Y) r1;have cf:∀X Y,((w2.alloc X).alloc Y).frozen? ⟨w.heap.size+1,0,F⟩=Zo:=fun X Y=>((az X Y).frozen (p:=⟨w.heap.size+1,0,F⟩) us).trans f0;have cd:∀X Y,((w2.alloc X).alloc Y).frozen? ⟨w.heap.size+1,1,F⟩=Zo:=fun X Y=>((az X Y).frozen (p:=⟨w.heap.size+1,1,F⟩) us).trans f1;cases bb with
    |false=>
     have HT:Zn (Xa x.tm (E.l.map Tr.ty)=F):=by
      have h0:Xa y.tm tk=F:=by
       cases h:Xa y.tm tk with
       |none=>rfl
       |some i=>rw[h] at bd;cases bd
      rw[HY.out.1] at h0;have h1:=Pg (x.l.map TT.tm) tk j (by simpa using hlt) (by simpa using h0);show _=_
      rw[Sv,<-cb.out,h1];rfl
     have ae:Zn (∀V,bL w2 V->KG Q (Xa x.tm (E.l.map Tr.ty)) w (Zf (ZH #[Zh #[I L 0,C F 0 0],.bool Zo])) ((V.setCell ⟨w.heap.size+1,0,F⟩ (I L 0)).setCell ⟨w.heap.size+1,1,F⟩ (C F 0 0))/\ cL ((V.setCell ⟨w.heap.size+1,0,F⟩ (I L 0)).setCell ⟨w.heap.size+1,1,F⟩ (C F 0 0)) (w.heap.size+1) 0 (I L 0)/\ cL ((V.setCell ⟨w.heap.size+1,0,F⟩ (I L 0)).setCell ⟨w.heap.size+1,1,F⟩ (C F 0 0)) (w.heap.size+1) 1 (C F 0 0)):=fun V hV=>B5 (t:=Ys 0) (b5.below hV) (by rw[HT.out];rfl) (fun i hi=>by rw[HT.out] at hi;cases hi) (YC 0 V) (YF 0 _) (YF 0 _)
     clear HI bd b3 b9 bj aw b5 bx ao ai bg HR x0 x1 x2 x3 x4 x5 x6 lb;go_wp2_with (go_at_call 56;refine(Ue _).mono ?_;rintro e w3 ⟨rfl,rfl⟩)
     obtain⟨h1,h2,h3⟩:=ae.out _ (az _ _);refine Zq (v:=ZH #[Zh #[I L 0,C F 0 0],.bool Zo]) ?_ rfl h1;simp[results,Zr,go_sem,h2,h3]
    |true=>
     have bq:=Option.isSome_iff_exists.1 bd.symm;have c9:Zn (Xa y.tm tk=M t.ty/\YB 904 t=Zp):=by
      obtain⟨i,hi⟩:=bq;have ht:=b3 i hi;subst ht;refine⟨hi,?_⟩;rw[YL];have aq:=cj.out;have di:=HF.out.2.2.2.1 y HY.out.2;have:=QP (by rw[<-aq.1,ZF,aq.2.2.2.2];exact di) (by intro u hu;rw[<-aq.1] at hu;obtain⟨z,hz,rfl⟩:=ZW.1 hu;rw[<-YL];exact aq.2.2.2.1 z hz) hi;refine YG _ _ _ ?_ this;have h1:=HF.out.2.2.1;have h2:y.sz<=x.sz:=by
       have h1:=x.mr;have e:y.tm.sz<=((x.l.map TT.tm).map Tm.sz).sum:=JE _ _ (ZW.2 ⟨_,HY.out.2,rfl⟩);have e2:(x.l.map TT.tm).map Tm.sz=x.l.map TT.sz:=by rw[List.map_map];exact ZZ fun z _=>z.me.symm
       rw[e2,<-TT.me] at e;omega
      rw[<-TT.me];omega
     obtain⟨OT,dc⟩:∃O,O=Obj.cells t.v 24:=⟨_,rfl⟩
     have ax:=YX (YX HR.out.1.own aw) (az OT OT);have ca:=Z0 (w2.alloc OT) OT;have ac:ts.length<=3:=by have:=HR.out.2.1;omega
     have cy:Zn (∀gg cap1 w3,w3.ownsRow wc.heap.size 24 2 (C (M ⟨gg,0,F⟩) (ts.length+1) cap1) (ts.length+1) (cellsOf ts++[I L t.k,t.s])->((w2.alloc OT).alloc OT).grownBy w3 v.ownBlock->(v.ownBlock=M gg\/w2.heap.size+1+1<=gg)->TL Q1 wc (C (M ⟨gg,0,F⟩) (ts.length+1) cap1) (ts++[t]) w3):=fun gg cap1 w3 h1 h2 h3=>HR.out.1.step (aw.trans ((az OT OT).mono aw.size)) (b9.below (az OT OT)) bj h1 h2 (h3.imp id fun h=>by simpa using h)
     have ds:wc.heap.size<=w2.heap.size:=by have:=ai.size;have:=aw.size;omega
     subst dc;clear HI bd b3 b9 bj b5 bx ao ai x0 x1 x2 x3 x4 x5 x6 lb bq;go_wp2_with (at_builtin;refine wpList_append_lies _ rfl _ _ _ rfl wc.heap.size 24 i0 _ 2 32 Z4 bo bv c8 c6 rfl (by omega) v ts.length (cellsOf ts) rfl ax ⟨w2.heap.size+1,0,F⟩ 1 1 [I L t.k,t.s] rfl rfl (World.news_of_block (cs:=t.v) (t:=24) (fr:=(0,0)) (by simpa using ca)) (by simp[Value.oneCell']) (by omega) (by unfold maxLen;omega) (by omega) (by simp;omega) (w2.heap.size+1+1) (by simp) ?_;intro gg cap1 w3 au ak br bp)
     have db:Zn (TL Q1 wc (C (M ⟨gg,0,F⟩) (ts.length+1) cap1) (ts++[t]) w3/\(ts++[t]).length=j+1/\∀q(h:q<x.l.length)(h':q<(ts++[t]).length),Xa x.l[q].tm tk=M (ts++[t])[q].ty/\YB 904 (ts++[t])[q]=Zp):=by
      refine⟨cy.out gg cap1 w3 au ak (br.imp id fun h=>by omega),by have:=HR.out.2.1;simp;omega,fun q h h'=>?_⟩;have hl:=HR.out.2.1;by_cases hq:q<ts.length
      .rw[List.getElem_append_left hq];exact HR.out.2.2 q h hq
      .have hqj:q=j:=by simp at h';omega
       subst hqj;rw[List.getElem_append_right (by omega)];simp only[show q-ts.length=0 by omega,Zm];have:=c9.out;rw[HY.out.1] at this;exact this
     clear au ak br bp ax ca cy HR c9 bg aw az bf ch cf cd r0 r1 f0 f1 us un dd;go_wp2_with fail;rw[<-da.out];go_roundg (x.l.length-(j+1))
     case measure=>rw[HG.out];omega
     case rel=>exact⟨_,j+1,ts++[t],rfl,by omega,rfl,by go_num,db⟩
   .have hjl:j=x.l.length:=by omega
    obtain⟨a,c,hv,b9,d9,bh⟩:=HR.out.1.tree;subst hv;have df:Zn (Jv (x.l.map TT.tm) tk=M (ts.map Tr.ty)/\(Tr.mk 0 a c ts).In wr/\(∀t,t∈ts->t.In wr/\t.Bl Q1/\YB 904 t=Zp)/\TB x w wr/\∀y,a=M y->w.heap.size+1<y.block):=by
     refine⟨QQ _ _ _ (by rw[ZF,ZF,HR.out.2.1,hjl]) (fun q h h'=>?_),b9,fun t ht=>?_,b6.out.below HR.out.1.low,fun y hy=>by have:=d9 y hy;have:=b6.out.lt;omega⟩
     .simp only[List.getElem_map];exact(HR.out.2.2 q (by simpa using h) (by simpa using h')).1
     .obtain⟨q,hq,rfl⟩:=ZY ht;exact⟨(bh _ ht).1,(bh _ ht).2,(HR.out.2.2 q (by have:=HR.out.2.1;omega) hq).2⟩
    clear HR b9 bh;go_wp2_with fail;go_meet
    case rel=>exact⟨a,c,ts,rfl,df⟩
 case rest=>
 obtain⟨a,c,ts,rfl,HT⟩:=hcut;clear cj b6 ih;have hB:=HT.out.2.2.2.1;have d0:=hB.at7.c0;have r0:=hB.r0;have r1:=hB.r1;have f0:=hB.f0;have f1:=hB.f1;have us:=hB.lt;have ay:w.heap.size+1<wc.heap.size:=Z _ _ r0;have ac:ts.length=Yu x.k:=by have:=(Pf HT.out.1).1;rw[ZF,ZF,HF.out.2.2.2.2.1] at this;exact this
 have HR:Zn (Xa x.tm (E.l.map Tr.ty)=XD x.k x.n x.t.ty (ts.map Tr.ty) tk):=by
  show _=_
  rw[Sv,<-cb.out,HT.out.1];rfl
 have ae:Zn (∀(V:Zi)(t:Tr)(bb:Bool),bL wc V->bb=(Xa x.tm (E.l.map Tr.ty)).isSome->(∀i,Xa x.tm (E.l.map Tr.ty)=M i->t.ty=i)->t.In V->t.Bl Q1->KG Q (Xa x.tm (E.l.map Tr.ty)) w (Zf (ZH #[Zh t.v,.bool bb])) ((V.setCell ⟨w.heap.size+1,0,F⟩ (I L t.k)).setCell ⟨w.heap.size+1,1,F⟩ (t.s))/\ cL ((V.setCell ⟨w.heap.size+1,0,F⟩ (I L t.k)).setCell ⟨w.heap.size+1,1,F⟩ (t.s)) (w.heap.size+1) 0 (I L t.k)/\ cL ((V.setCell ⟨w.heap.size+1,0,F⟩ (I L t.k)).setCell ⟨w.heap.size+1,1,F⟩ (t.s)) (w.heap.size+1) 1 (t.s)):=fun V t bb hV h1 h2 h3 h4=>B5 (t:=t) (hB.below hV) h1 h2 h3 (h4.mono fun b hb=>(ap.out.2.2.2 b hb).1) (h4.mono fun b hb=>(ap.out.2.2.2 b hb).2)
 have an:Zn (∀(V:Zi)(z:Int)(bb:Bool),bL wc V->bb=(Xa x.tm (E.l.map Tr.ty)).isSome->(∀i,Xa x.tm (E.l.map Tr.ty)=M i->Ty.mk z []=i)->KG Q (Xa x.tm (E.l.map Tr.ty)) w (Zf (ZH #[Zh #[I L z,C F 0 0],.bool bb])) ((V.setCell ⟨w.heap.size+1,0,F⟩ (I L z)).setCell ⟨w.heap.size+1,1,F⟩ (C F 0 0))/\ cL ((V.setCell ⟨w.heap.size+1,0,F⟩ (I L z)).setCell ⟨w.heap.size+1,1,F⟩ (C F 0 0)) (w.heap.size+1) 0 (I L z)/\ cL ((V.setCell ⟨w.heap.size+1,0,F⟩ (I L z)).setCell ⟨w.heap.size+1,1,F⟩ (C F 0 0)) (w.heap.size+1) 1 (C F 0 0)):=fun V z bb hV h1 h2=>ae.out V (Ys z) bb hV h1 (fun i hi=>(XL z).trans (h2 i hi)) (YC z V) (YF z _)
 have de:x.k=1\/x.k=2\/x.k=3\/x.k=4\/x.k=5\/x.k=6\/x.k=7\/x.k=8\/x.k=9:=by omega
 rcases de with hk|hk|hk|hk|hk|hk|hk|hk|hk
 ·
  obtain⟨m,hm⟩:∃m:Nat,x.n=(m:Int):=⟨x.n.toNat,by have:=HF.out.2.2.2.2.2 hk;omega⟩
  have co:m<E.l.length:=by have:=HF.out.2.2.2.2.2 hk;omega
  obtain⟨b,o,ea,e0,e1,ci⟩:=(HX.out.2.1.below hB.low).part m co
  have d1:=hB.at7.c1
  simp only[Zu] at d1
  rw[hm] at d1
  obtain⟨u,hu⟩:∃u,u=E.l[m]:=⟨_,rfl⟩
  rw[<-hu] at e0 e1 ci
  have i1:(m:Int)<(E.l.length:Int):=by omega
  have i2:(0:Int)<=(m:Int):=by omega
  have lb:b<wc.heap.size:=Z _ _ e0
  have HV:Zn (Xa x.tm (E.l.map Tr.ty)=M u.ty):=by
   have h0:ts=[]:=ZB (by rw[ac,hk];rfl);show _=_
   rw[HR.out,hk,h0,ZD,VK,cb.out,Yv,if_neg (by omega),hm,hu];simp[List.getD_eq_getElem?_getD,co]
  have ct:u.Bl Q1:=by have h:=ap.out.2.1;rw[hu];obtain⟨k,a,cc,l⟩:=E;exact(Tr.ld.1 h).2 _ (ZQ _)
  have HE:Zn _:=ae.out wc u Zp (Ze _ _) (by rw[HV.out];rfl) (fun i hi=>by rw[HV.out] at hi;exact Zs hi) ci ct
  rw[hk] at d0
  rw[ea]
  clear hk hm hu ac hB ae an HT HR ct ci HF
  go_wp2_with fail
  obtain⟨h1,h2,h3⟩:=HE.out
  refine Zq (v:=ZH #[Zh u.v,.bool Zp]) ?_ rfl h1
  simp[results,Zr,go_sem,h2,h3]
 .have HV:Zn (Xa x.tm (E.l.map Tr.ty)=M ⟨1,[]⟩):=by
   have h0:ts=[]:=ZB (by rw[ac,hk];rfl);show _=_
   rw[HR.out,hk,h0,ZD,VM]
  have n0:=hB.n0;have n1:=hB.n1;have HE:Zn _:=an.out wc 1 Zp (Ze _ _) (by rw[HV.out];rfl) (fun i hi=>by rw[HV.out] at hi;exact Zs hi);rw[hk] at d0;clear hk ac hB ae an HT HR HF;go_wp2_with fail;obtain⟨h1,h2,h3⟩:=HE.out;refine Zq (v:=ZH #[Zh #[I L 1,C F 0 0],.bool Zp]) ?_ rfl h1;simp[results,Zr,go_sem,h2,h3]
 .have HV:Zn (Xa x.tm (E.l.map Tr.ty)=M ⟨2,[]⟩):=by
   have h0:ts=[]:=ZB (by rw[ac,hk];rfl);show _=_
   rw[HR.out,hk,h0,ZD,SL]
  have n0:=hB.t0;have n1:=hB.t1;have HE:Zn _:=an.out wc 2 Zp (Ze _ _) (by rw[HV.out];rfl) (fun i hi=>by rw[HV.out] at hi;exact Zs hi);rw[hk] at d0;clear hk ac hB ae an HT HR HF;go_wp2_with fail;obtain⟨h1,h2,h3⟩:=HE.out;refine Zq (v:=ZH #[Zh #[I L 2,C F 0 0],.bool Zp]) ?_ rfl h1;simp[results,Zr,go_sem,h2,h3]
 ·
  obtain⟨r,t1,rfl⟩:∃r t1,ts=[r,t1]:=by
   match ts,(show ts.length=2 by rw[ac,hk];rfl) with
   |[r,t1],_=>exact⟨r,t1,rfl⟩
  obtain⟨g,o,ea,c0,c1,_⟩:=HT.out.2.1.part 0 (by simp)
  obtain⟨g1,o1,aj,c2,c3,_⟩:=HT.out.2.1.part 1 (by simp)
  simp only[Zm,ZA,ZO,ZP,Z2] at c0 c1 c2 c3 ea aj
  rw[ea] at aj
  obtain⟨rfl,rfl⟩:g=g1/\o=o1:=by simpa using aj
  have ad:=HT.out.2.2.1 r (by simp)
  obtain⟨p0,h0,s0⟩:=YS (by omega) ad.2.2
  have am:=HT.out.2.2.1 t1 (by simp)
  obtain⟨p1,h1,s1⟩:=YS (by omega) am.2.2
  have ah:g≠w.heap.size+1:=by have:=HT.out.2.2.2.2 _ ea;simp only at this;omega
  have lb:g<wc.heap.size:=Z _ _ c0
  have n0:=hB.n0
  have n1:=hB.n1
  have m0:=hB.t0
  have m1:=hB.t1
  obtain⟨b0,af⟩:∃b,b=YD Yl r.ty ⟨1,[]⟩:=⟨_,rfl⟩
  obtain⟨b1,ao⟩:∃b,b=YD Yl t1.ty ⟨1,[]⟩:=⟨_,rfl⟩
  have HV:Zn (Xa x.tm (E.l.map Tr.ty)=if (b0&&b1)=Zp then M ⟨1,[]⟩ else F):=by
   show _=_
   rw[HR.out,hk,af,ao];simp only[ZG,ZD];rw[VL]
  have HK:Zn (∀W,Yi (w.heap.size+1) F wc W->cL W (w.heap.size+1+1) 0 (I L 1)/\cL W (w.heap.size+1+1) 1 (C F 0 0)/\cL W (w.heap.size+1+1+1) 0 (I L 2)/\cL W (w.heap.size+1+1+1) 1 (C F 0 0)/\cL W g o (I L r.k)/\cL W g (o+1) (r.s)/\cL W g (o+2) (I L t1.k)/\cL W g (o+3) (t1.s)):=fun W h=>⟨h.cell n0 (by omega),h.cell n1 (by omega),h.cell m0 (by omega),h.cell m1 (by omega),h.cell c0 ah,h.cell c1 ah,h.cell c2 ah,h.cell c3 ah⟩
  have al:Zn (∀W,bL wc W->Zt Zd 91 #[Zh r.v,Zh #[I L 1,C F 0 0]] W fun e w'=>e=Zf (.bool b0)/\bL W w'):=fun W h=>by have:=UP 1000 r (Ys 1) W (ad.1.below h) (YC 1 W) h0 s0 p0 (Tr.lj 1 _ rfl);rw[XL,<-af] at this;exact this
  have b2:Zn (∀W,bL wc W->Zt Zd 91 #[Zh t1.v,Zh #[I L 1,C F 0 0]] W fun e w'=>e=Zf (.bool b1)/\bL W w'):=fun W h=>by have:=UP 1000 t1 (Ys 1) W (am.1.below h) (YC 1 W) h1 s1 p1 (Tr.lj 1 _ rfl);rw[XL,<-ao] at this;exact this
  have HE:Zn _:=fun V hV=>an.out V 1 (b0&&b1) hV (by rw[HV.out];cases b0<;>cases b1<;>rfl) (fun i hi=>by rw[HV.out] at hi;revert hi;cases b0<;>cases b1<;>(intro hi;first|exact Zs hi|cases hi))
  have d:bL wc wc.drew:=(Ze _ _).drew
  have a8:cL wc.drew (w.heap.size+1) 0 (I L 0):=r0
  have ab:cL wc.drew (w.heap.size+1) 1 (C F 0 0):=r1
  have aa:wc.drew.frozen? ⟨w.heap.size+1,0,F⟩=Zo:=f0
  have a9:wc.drew.frozen? ⟨w.heap.size+1,1,F⟩=Zo:=f1
  have a0:w.heap.size+1<wc.drew.heap.size:=ay
  rw[hk] at d0
  rw[ea]
  clear hk ac hB ae an HT HR HF ea aj p0 h0 s0 p1 h1 s1 ad am af ao HV
  cases b0 with
  |true=>
   go_upto_region 22 with fail;go_region_held3 (fun W=>cL W (w.heap.size+1+1) 0 (I L 1)/\cL W (w.heap.size+1+1) 1 (C F 0 0)/\cL W (w.heap.size+1+1+1) 0 (I L 2)/\cL W (w.heap.size+1+1+1) 1 (C F 0 0)/\cL W g o (I L r.k)/\cL W g (o+1) (r.s)/\cL W g (o+2) (I L t1.k)/\cL W g (o+3) (t1.s))
    (first|exact HK.out _ (Yi.la d)|exact HK.out _ (((Yi.la d).trans Yj).trans Yj)|fail)
    (first
     |(go_at_call 91;refine(al.out _ d).mono ?_;rintro e w2 ⟨rfl,h2⟩;replace a8:=Za h2 a8;replace ab:=Za h2 ab;replace aa:=(h2.frozen (p:=⟨w.heap.size+1,0,F⟩) a0).trans aa;replace a9:=(h2.frozen (p:=⟨w.heap.size+1,1,F⟩) a0).trans a9;replace a0:w.heap.size+1<w2.heap.size:=Z _ _ a8;replace d:=d.trans (h2.mono d.size);clear al)
     |(go_at_call 91;refine(b2.out _ d).mono ?_;rintro e w3 ⟨rfl,h3⟩;replace a8:=Za h3 a8;replace ab:=Za h3 ab;replace aa:=(h3.frozen (p:=⟨w.heap.size+1,0,F⟩) a0).trans aa;replace a9:=(h3.frozen (p:=⟨w.heap.size+1,1,F⟩) a0).trans a9;replace a0:w.heap.size+1<w3.heap.size:=Z _ _ a8;replace d:=d.trans (h3.mono d.size);clear b2)
     |fail)
   have HN:Zn _:=HE.out _ d;clear HE;go_wp2_with fail;obtain⟨e1,e2,e3⟩:=HN.out;refine Zq (v:=ZH #[Zh #[I L 1,C F 0 0],.bool b1]) ?_ rfl e1;simp[results,Zr,go_sem,e2,e3]
  |false=>go_upto_region 22 with fail;refine ZX (S:=fun W=>cL W (w.heap.size+1+1) 0 (I L 1)/\cL W (w.heap.size+1+1) 1 (C F 0 0)/\cL W (w.heap.size+1+1+1) 0 (I L 2)/\cL W (w.heap.size+1+1+1) 1 (C F 0 0)/\cL W g o (I L r.k)/\cL W g (o+1) (r.s)/\cL W g (o+2) (I L t1.k)/\cL W g (o+3) (t1.s)) (by kernel_rfl) (HK.out _ (Yi.la d)) (fun hHeld=>?_);refine qk 0 (v:=?_) rfl (by kernel_rfl) (fun _ _ _ h=>h) (by rfl) hHeld ?_ ?_;rotate_left;(focus (intro w' h;go_split_ands;go_simp;try with_reducible rfl));simp only[Zl,G,Zb,Zc];refine qk 1 (v:=?_) rfl (by kernel_rfl) (fun _ _ _ h=>h) (by rfl) hHeld ?_ ?_;rotate_left;(focus (intro w' h;go_split_ands;go_simp;try with_reducible rfl));simp only[Zl,G,Zb,Zc];refine qk 2 (v:=?_) rfl (by kernel_rfl) (fun _ _ _ h=>h) (by rfl) hHeld ?_ ?_;rotate_left;(focus (intro w' h;go_split_ands;go_simp;try with_reducible rfl));simp only[Zl,G,Zb,Zc];refine qk 3 (v:=?_) rfl (by kernel_rfl) (fun _ _ _ h=>h) (by rfl) hHeld ?_ ?_;rotate_left;(focus (intro w' h;go_split_ands;go_simp;try with_reducible rfl));simp only[Zl,G,Zb,Zc];refine qk 4 (v:=?_) rfl (by kernel_rfl) (fun _ _ _ h=>h) (by rfl) hHeld ?_ ?_;rotate_left;(focus (intro w' h;go_split_ands;go_simp;try with_reducible rfl));simp only[Zl,G,Zb,Zc];refine Jl (i:=5) rfl (by kernel_rfl) (fun K hK=>?_);go_simp;go_at_call 91;refine(al.out _ d).mono ?_;rintro e w2 ⟨rfl,h2⟩;replace a8:=Za h2 a8;replace ab:=Za h2 ab;replace aa:=(h2.frozen (p:=⟨w.heap.size+1,0,F⟩) a0).trans aa;replace a9:=(h2.frozen (p:=⟨w.heap.size+1,1,F⟩) a0).trans a9;replace a0:w.heap.size+1<w2.heap.size:=Z _ _ a8;replace d:=d.trans (h2.mono d.size);clear al h2;refine hK.out _ _ (HK.out _ (Yi.la d)) (fun hHeld=>?_);clear hK K;refine qk 6 (v:=?_) rfl (by kernel_rfl) (fun _ _ _ h=>h) (by rfl) hHeld ?_ ?_;rotate_left;(focus (intro w' h;go_split_ands;go_simp;try with_reducible rfl));simp only[Zl,G,Zb,Zc];refine qu 7 rfl (by kernel_rfl) (fun _ _ _ h=>h) hHeld ?_;simp only[Zl,G,Zb,Zc];refine qu 8 rfl (by kernel_rfl) (fun _ _ _ h=>h) hHeld ?_;simp only[Zl,G,Zb,Zc];refine qu 9 rfl (by kernel_rfl) (fun _ _ _ h=>h) hHeld ?_;simp only[Zl,G,Zb,Zc];refine qu 10 rfl (by kernel_rfl) (fun _ _ _ h=>h) hHeld ?_;simp only[Zl,G,Zb,Zc];refine qu 11 rfl (by kernel_rfl) (fun _ _ _ h=>h) hHeld ?_;simp only[Zl,G,Zb,Zc];refine qk 12 (v:=?_) rfl (by kernel_rfl) (fun _ _ _ h=>h) (by rfl) hHeld ?_ ?_;rotate_left;(focus (intro w' h;go_split_ands;go_simp;try with_reducible rfl));simp only[Zl,G,Zb,Zc];refine Jl (i:=13) rfl (by kernel_rfl) (fun K hK=>?_);go_simp;refine hK.out _ _ (HK.out _ (((Yi.la d).trans Yj).trans Yj)) (fun hHeld=>?_);clear hK K;refine qk 14 (v:=?_) rfl (by kernel_rfl) (fun _ _ _ h=>h) (by rfl) hHeld ?_ ?_;rotate_left;(focus (intro w' h;go_split_ands;go_simp;try with_reducible rfl));simp only[Zl,G,Zb,Zc];refine wpAnyH_done (by kernel_rfl) ?_ _;have HN:Zn _:=HE.out _ d;clear HE;go_wp2_with fail;obtain⟨e1,e2,e3⟩:=HN.out;refine Zq (v:=ZH #[Zh #[I L 1,C F 0 0],.bool Zo]) ?_ rfl e1;simp[results,Zr,go_sem,e2,e3]
 ·
  obtain⟨r,t1,rfl⟩:∃r t1,ts=[r,t1]:=by
   match ts,(show ts.length=2 by rw[ac,hk];rfl) with
   |[r,t1],_=>exact⟨r,t1,rfl⟩
  obtain⟨g,o,ea,c0,c1,_⟩:=HT.out.2.1.part 0 (by simp)
  obtain⟨g1,o1,aj,c2,c3,_⟩:=HT.out.2.1.part 1 (by simp)
  simp only[Zm,ZA,ZO,ZP,Z2] at c0 c1 c2 c3 ea aj
  rw[ea] at aj
  obtain⟨rfl,rfl⟩:g=g1/\o=o1:=by simpa using aj
  have ad:=HT.out.2.2.1 r (by simp)
  obtain⟨p0,h0,s0⟩:=YS (by omega) ad.2.2
  have am:=HT.out.2.2.1 t1 (by simp)
  obtain⟨p1,h1,s1⟩:=YS (by omega) am.2.2
  have ah:g≠w.heap.size+1:=by have:=HT.out.2.2.2.2 _ ea;simp only at this;omega
  have lb:g<wc.heap.size:=Z _ _ c0
  have n0:=hB.n0
  have n1:=hB.n1
  have m0:=hB.t0
  have m1:=hB.t1
  obtain⟨b0,af⟩:∃b,b=YD Yl r.ty ⟨1,[]⟩:=⟨_,rfl⟩
  obtain⟨b1,ao⟩:∃b,b=YD Yl t1.ty ⟨1,[]⟩:=⟨_,rfl⟩
  have HV:Zn (Xa x.tm (E.l.map Tr.ty)=if (b0&&b1)=Zp then M ⟨2,[]⟩ else F):=by
   show _=_
   rw[HR.out,hk,af,ao];simp only[ZG,ZD];rw[SM]
  have HK:Zn (∀W,Yi (w.heap.size+1) F wc W->cL W (w.heap.size+1+1) 0 (I L 1)/\cL W (w.heap.size+1+1) 1 (C F 0 0)/\cL W (w.heap.size+1+1+1) 0 (I L 2)/\cL W (w.heap.size+1+1+1) 1 (C F 0 0)/\cL W g o (I L r.k)/\cL W g (o+1) (r.s)/\cL W g (o+2) (I L t1.k)/\cL W g (o+3) (t1.s)):=fun W h=>⟨h.cell n0 (by omega),h.cell n1 (by omega),h.cell m0 (by omega),h.cell m1 (by omega),h.cell c0 ah,h.cell c1 ah,h.cell c2 ah,h.cell c3 ah⟩
  have al:Zn (∀W,bL wc W->Zt Zd 91 #[Zh r.v,Zh #[I L 1,C F 0 0]] W fun e w'=>e=Zf (.bool b0)/\bL W w'):=fun W h=>by have:=UP 1000 r (Ys 1) W (ad.1.below h) (YC 1 W) h0 s0 p0 (Tr.lj 1 _ rfl);rw[XL,<-af] at this;exact this
  have b2:Zn (∀W,bL wc W->Zt Zd 91 #[Zh t1.v,Zh #[I L 1,C F 0 0]] W fun e w'=>e=Zf (.bool b1)/\bL W w'):=fun W h=>by have:=UP 1000 t1 (Ys 1) W (am.1.below h) (YC 1 W) h1 s1 p1 (Tr.lj 1 _ rfl);rw[XL,<-ao] at this;exact this
  have HE:Zn _:=fun V hV=>an.out V 2 (b0&&b1) hV (by rw[HV.out];cases b0<;>cases b1<;>rfl) (fun i hi=>by rw[HV.out] at hi;revert hi;cases b0<;>cases b1<;>(intro hi;first|exact Zs hi|cases hi))
  have d:bL wc wc.drew:=(Ze _ _).drew
  have a8:cL wc.drew (w.heap.size+1) 0 (I L 0):=r0
  have ab:cL wc.drew (w.heap.size+1) 1 (C F 0 0):=r1
  have aa:wc.drew.frozen? ⟨w.heap.size+1,0,F⟩=Zo:=f0
  have a9:wc.drew.frozen? ⟨w.heap.size+1,1,F⟩=Zo:=f1
  have a0:w.heap.size+1<wc.drew.heap.size:=ay
  rw[hk] at d0
  rw[ea]
  clear hk ac hB ae an HT HR HF ea aj p0 h0 s0 p1 h1 s1 ad am af ao HV
  cases b0 with
  |true=>
   go_upto_region 24 with fail;go_region_held3 (fun W=>cL W (w.heap.size+1+1) 0 (I L 1)/\cL W (w.heap.size+1+1) 1 (C F 0 0)/\cL W (w.heap.size+1+1+1) 0 (I L 2)/\cL W (w.heap.size+1+1+1) 1 (C F 0 0)/\cL W g o (I L r.k)/\cL W g (o+1) (r.s)/\cL W g (o+2) (I L t1.k)/\cL W g (o+3) (t1.s))
    (first|exact HK.out _ (Yi.la d)|exact HK.out _ (((Yi.la d).trans Yj).trans Yj)|fail)
    (first
     |(go_at_call 91;refine(al.out _ d).mono ?_;rintro e w2 ⟨rfl,h2⟩;replace a8:=Za h2 a8;replace ab:=Za h2 ab;replace aa:=(h2.frozen (p:=⟨w.heap.size+1,0,F⟩) a0).trans aa;replace a9:=(h2.frozen (p:=⟨w.heap.size+1,1,F⟩) a0).trans a9;replace a0:w.heap.size+1<w2.heap.size:=Z _ _ a8;replace d:=d.trans (h2.mono d.size);clear al)
     |(go_at_call 91;refine(b2.out _ d).mono ?_;rintro e w3 ⟨rfl,h3⟩;replace a8:=Za h3 a8;replace ab:=Za h3 ab;replace aa:=(h3.frozen (p:=⟨w.heap.size+1,0,F⟩) a0).trans aa;replace a9:=(h3.frozen (p:=⟨w.heap.size+1,1,F⟩) a0).trans a9;replace a0:w.heap.size+1<w3.heap.size:=Z _ _ a8;replace d:=d.trans (h3.mono d.size);clear b2)
     |fail)
   have HN:Zn _:=HE.out _ d;clear HE;go_wp2_with fail;obtain⟨e1,e2,e3⟩:=HN.out;refine Zq (v:=ZH #[Zh #[I L 2,C F 0 0],.bool b1]) ?_ rfl e1;simp[results,Zr,go_sem,e2,e3]
  |false=>go_upto_region 24 with fail;refine ZX (S:=fun W=>cL W (w.heap.size+1+1) 0 (I L 1)/\cL W (w.heap.size+1+1) 1 (C F 0 0)/\cL W (w.heap.size+1+1+1) 0 (I L 2)/\cL W (w.heap.size+1+1+1) 1 (C F 0 0)/\cL W g o (I L r.k)/\cL W g (o+1) (r.s)/\cL W g (o+2) (I L t1.k)/\cL W g (o+3) (t1.s)) (by kernel_rfl) (HK.out _ (Yi.la d)) (fun hHeld=>?_);refine qk 0 (v:=?_) rfl (by kernel_rfl) (fun _ _ _ h=>h) (by rfl) hHeld ?_ ?_;rotate_left;(focus (intro w' h;go_split_ands;go_simp;try with_reducible rfl));simp only[Zl,G,Zb,Zc];refine qk 1 (v:=?_) rfl (by kernel_rfl) (fun _ _ _ h=>h) (by rfl) hHeld ?_ ?_;rotate_left;(focus (intro w' h;go_split_ands;go_simp;try with_reducible rfl));simp only[Zl,G,Zb,Zc];refine qk 2 (v:=?_) rfl (by kernel_rfl) (fun _ _ _ h=>h) (by rfl) hHeld ?_ ?_;rotate_left;(focus (intro w' h;go_split_ands;go_simp;try with_reducible rfl));simp only[Zl,G,Zb,Zc];refine qk 3 (v:=?_) rfl (by kernel_rfl) (fun _ _ _ h=>h) (by rfl) hHeld ?_ ?_;rotate_left;(focus (intro w' h;go_split_ands;go_simp;try with_reducible rfl));simp only[Zl,G,Zb,Zc];refine qk 4 (v:=?_) rfl (by kernel_rfl) (fun _ _ _ h=>h) (by rfl) hHeld ?_ ?_;rotate_left;(focus (intro w' h;go_split_ands;go_simp;try with_reducible rfl));simp only[Zl,G,Zb,Zc];refine Jl (i:=5) rfl (by kernel_rfl) (fun K hK=>?_);go_simp;go_at_call 91;refine(al.out _ d).mono ?_;rintro e w2 ⟨rfl,h2⟩;replace a8:=Za h2 a8;replace ab:=Za h2 ab;replace aa:=(h2.frozen (p:=⟨w.heap.size+1,0,F⟩) a0).trans aa;replace a9:=(h2.frozen (p:=⟨w.heap.size+1,1,F⟩) a0).trans a9;replace a0:w.heap.size+1<w2.heap.size:=Z _ _ a8;replace d:=d.trans (h2.mono d.size);clear al h2;refine hK.out _ _ (HK.out _ (Yi.la d)) (fun hHeld=>?_);clear hK K;refine qk 6 (v:=?_) rfl (by kernel_rfl) (fun _ _ _ h=>h) (by rfl) hHeld ?_ ?_;rotate_left;(focus (intro w' h;go_split_ands;go_simp;try with_reducible rfl));simp only[Zl,G,Zb,Zc];refine qu 7 rfl (by kernel_rfl) (fun _ _ _ h=>h) hHeld ?_;simp only[Zl,G,Zb,Zc];refine qu 8 rfl (by kernel_rfl) (fun _ _ _ h=>h) hHeld ?_;simp only[Zl,G,Zb,Zc];refine qu 9 rfl (by kernel_rfl) (fun _ _ _ h=>h) hHeld ?_;simp only[Zl,G,Zb,Zc];refine qu 10 rfl (by kernel_rfl) (fun _ _ _ h=>h) hHeld ?_;simp only[Zl,G,Zb,Zc];refine qu 11 rfl (by kernel_rfl) (fun _ _ _ h=>h) hHeld ?_;simp only[Zl,G,Zb,Zc];refine qk 12 (v:=?_) rfl (by kernel_rfl) (fun _ _ _ h=>h) (by rfl) hHeld ?_ ?_;rotate_left;(focus (intro w' h;go_split_ands;go_simp;try with_reducible rfl));simp only[Zl,G,Zb,Zc];refine Jl (i:=13) rfl (by kernel_rfl) (fun K hK=>?_);go_simp;refine hK.out _ _ (HK.out _ (((Yi.la d).trans Yj).trans Yj)) (fun hHeld=>?_);clear hK K;refine qk 14 (v:=?_) rfl (by kernel_rfl) (fun _ _ _ h=>h) (by rfl) hHeld ?_ ?_;rotate_left;(focus (intro w' h;go_split_ands;go_simp;try with_reducible rfl));simp only[Zl,G,Zb,Zc];refine wpAnyH_done (by kernel_rfl) ?_ _;have HN:Zn _:=HE.out _ d;clear HE;go_wp2_with fail;obtain⟨e1,e2,e3⟩:=HN.out;refine Zq (v:=ZH #[Zh #[I L 2,C F 0 0],.bool Zo]) ?_ rfl e1;simp[results,Zr,go_sem,e2,e3]
 ·
  obtain⟨r,t1,t2,rfl⟩:∃r t1 t2,ts=[r,t1,t2]:=by
   match ts,(show ts.length=3 by rw[ac,hk];rfl) with
   |[r,t1,t2],_=>exact⟨r,t1,t2,rfl⟩
  obtain⟨g,o,ea,c0,c1,_⟩:=HT.out.2.1.part 0 (by simp)
  obtain⟨g1,o1,aj,c2,c3,_⟩:=HT.out.2.1.part 1 (by simp)
  obtain⟨g2,o2,bu,c4,c5,_⟩:=HT.out.2.1.part 2 (by simp)
  simp only[Zm,ZA,ZO,ZP,Z2] at c0 c1 c2 c3 c4 c5 ea aj bu
  rw[ea] at aj
  obtain⟨rfl,rfl⟩:g=g1/\o=o1:=by simpa using aj
  rw[ea] at bu
  obtain⟨rfl,rfl⟩:g=g2/\o=o2:=by simpa using bu
  simp only[show 2*2=4 from rfl] at c4 c5
  have ad:=HT.out.2.2.1 r (by simp)
  obtain⟨p0,h0,s0⟩:=YS (by omega) ad.2.2
  have am:=HT.out.2.2.1 t1 (by simp)
  obtain⟨p1,h1,s1⟩:=YS (by omega) am.2.2
  have bs:=HT.out.2.2.1 t2 (by simp)
  obtain⟨p2,h2,s2⟩:=YS (by omega) bs.2.2
  have ah:g≠w.heap.size+1:=by have:=HT.out.2.2.2.2 _ ea;simp only at this;omega
  have lb:g<wc.heap.size:=Z _ _ c0
  have n0:=hB.n0
  have n1:=hB.n1
  have m0:=hB.t0
  have m1:=hB.t1
  obtain⟨b0,af⟩:∃b,b=YD Yl r.ty ⟨2,[]⟩:=⟨_,rfl⟩
  obtain⟨b1,ao⟩:∃b,b=YD Yl t1.ty t2.ty:=⟨_,rfl⟩
  have HV:Zn (Xa x.tm (E.l.map Tr.ty)=if (b0&&b1)=Zp then M (Xq t1.ty t2.ty) else F):=by
   show _=_
   rw[HR.out,hk,af,ao];simp only[ZG,ZD];have y1:Ym 904 t1.ty=Zp:=by rw[<-YL];exact am.2.2
   have y2:Ym 904 t2.ty=Zp:=by rw[<-YL];exact bs.2.2
   obtain⟨j0,j1,j2,_⟩:=JK 904 _ _ y1 y2;rw[AW _ _ _ _ _ _ (fun _=>⟨LO 904 _ _ y1 j0 j1,LO 904 _ _ y2 j0 j2⟩)]
  have HK:Zn (∀W,Yi (w.heap.size+1) F wc W->cL W (w.heap.size+1+1) 0 (I L 1)/\cL W (w.heap.size+1+1) 1 (C F 0 0)/\cL W (w.heap.size+1+1+1) 0 (I L 2)/\cL W (w.heap.size+1+1+1) 1 (C F 0 0)/\cL W g o (I L r.k)/\cL W g (o+1) (r.s)/\cL W g (o+2) (I L t1.k)/\cL W g (o+3) (t1.s)/\cL W g (o+4) (I L t2.k)/\cL W g (o+5) (t2.s)):=fun W h=>⟨h.cell n0 (by omega),h.cell n1 (by omega),h.cell m0 (by omega),h.cell m1 (by omega),h.cell c0 ah,h.cell c1 ah,h.cell c2 ah,h.cell c3 ah,h.cell c4 ah,h.cell c5 ah⟩
  have al:Zn (∀W,bL wc W->Zt Zd 91 #[Zh r.v,Zh #[I L 2,C F 0 0]] W fun e w'=>e=Zf (.bool b0)/\bL W w'):=fun W h=>by have:=UP 1000 r (Ys 2) W (ad.1.below h) (YC 2 W) h0 s0 p0 (Tr.lj 1 _ rfl);rw[XL,<-af] at this;exact this
  have b2:Zn (∀W,bL wc W->Zt Zd 91 #[Zh t1.v,Zh t2.v] W fun e w'=>e=Zf (.bool b1)/\bL W w'):=fun W h=>by have:=UP 1000 t1 t2 W (am.1.below h) (bs.1.below h) h1 s1 p1 p2;rw[<-ao] at this;exact this
  have HJ:Zn (∀W,bL wc W->Zt Zd 92 #[Zh t1.v,Zh t2.v] W fun e w'=>∃u:Tr,e=Zf (Zh u.v)/\Zn (u.ty=Xq t1.ty t2.ty/\u.Bl Q1)/\u.In w'/\bL W w'):=fun W h=>by refine(P1 1000 t1 t2 W (am.1.below h) (bs.1.below h) p1 p2 h1).mono ?_;rintro e w' ⟨u,rfl,ht,hi,bj,hb⟩;exact⟨u,rfl,⟨ht,bj.mono fun b hb=>ap.out.2.2.1 b (by have:=h.size;omega)⟩,hi,hb⟩
  have HE:Zn (∀V(u:Tr),bL wc V->Zn (u.ty=Xq t1.ty t2.ty/\u.Bl Q1)->u.In V->_):=fun V u hV hu hi=>ae.out V u (b0&&b1) hV (by rw[HV.out];cases b0<;>cases b1<;>rfl) (fun i h=>by rw[HV.out] at h;revert h;cases b0<;>cases b1<;>(intro h;first|exact hu.out.1.trans (Zs h)|cases h)) hi hu.out.2
  have d:bL wc wc.drew:=(Ze _ _).drew
  have a8:cL wc.drew (w.heap.size+1) 0 (I L 0):=r0
  have ab:cL wc.drew (w.heap.size+1) 1 (C F 0 0):=r1
  have aa:wc.drew.frozen? ⟨w.heap.size+1,0,F⟩=Zo:=f0
  have a9:wc.drew.frozen? ⟨w.heap.size+1,1,F⟩=Zo:=f1
  have a0:w.heap.size+1<wc.drew.heap.size:=ay
  rw[hk] at d0
  rw[ea]
  clear hk ac hB ae an HT HR HF ea aj bu p0 h0 s0 p1 h1 s1 p2 h2 s2 ad am bs af ao HV
  cases b0 with
  |true=>
   go_upto_region 26 with fail;go_region_held3 (fun W=>cL W (w.heap.size+1+1) 0 (I L 1)/\cL W (w.heap.size+1+1) 1 (C F 0 0)/\cL W (w.heap.size+1+1+1) 0 (I L 2)/\cL W (w.heap.size+1+1+1) 1 (C F 0 0)/\cL W g o (I L r.k)/\cL W g (o+1) (r.s)/\cL W g (o+2) (I L t1.k)/\cL W g (o+3) (t1.s)/\cL W g (o+4) (I L t2.k)/\cL W g (o+5) (t2.s))
    (first|exact HK.out _ (Yi.la d)|exact HK.out _ (((Yi.la d).trans Yj).trans Yj)|fail)
    (first
     |(go_at_call 92;refine(HJ.out _ d).mono ?_;rintro e w4 ⟨u,rfl,hu,ar,h4⟩;replace a8:=Za h4 a8;replace ab:=Za h4 ab;replace aa:=(h4.frozen (p:=⟨w.heap.size+1,0,F⟩) a0).trans aa;replace a9:=(h4.frozen (p:=⟨w.heap.size+1,1,F⟩) a0).trans a9;replace a0:w.heap.size+1<w4.heap.size:=Z _ _ a8;replace d:=d.trans (h4.mono d.size);clear HJ)
     |(go_at_call 91;refine(al.out _ d).mono ?_;rintro e w2 ⟨rfl,h2⟩;(try (replace ar:=Tr.In.below h2 ar));replace a8:=Za h2 a8;replace ab:=Za h2 ab;replace aa:=(h2.frozen (p:=⟨w.heap.size+1,0,F⟩) a0).trans aa;replace a9:=(h2.frozen (p:=⟨w.heap.size+1,1,F⟩) a0).trans a9;replace a0:w.heap.size+1<w2.heap.size:=Z _ _ a8;replace d:=d.trans (h2.mono d.size);clear al)
     |(go_at_call 91;refine(b2.out _ d).mono ?_;rintro e w3 ⟨rfl,h3⟩;(try (replace ar:=Tr.In.below h3 ar));replace a8:=Za h3 a8;replace ab:=Za h3 ab;replace aa:=(h3.frozen (p:=⟨w.heap.size+1,0,F⟩) a0).trans aa;replace a9:=(h3.frozen (p:=⟨w.heap.size+1,1,F⟩) a0).trans a9;replace a0:w.heap.size+1<w3.heap.size:=Z _ _ a8;replace d:=d.trans (h3.mono d.size);clear b2)
     |fail)
   all_goals
    have HN:Zn _:=HE.out _ u d hu ar
    clear HE ar
    go_wp2_with fail
    obtain⟨e1,e2,e3⟩:=HN.out
    refine Zq (v:=ZH #[Zh u.v,.bool b1]) ?_ rfl e1
    simp[results,Zr,go_sem,e2,e3]
  |false=>
   go_upto_region 26 with fail;refine ZX (S:=fun W=>cL W (w.heap.size+1+1) 0 (I L 1)/\cL W (w.heap.size+1+1) 1 (C F 0 0)/\cL W (w.heap.size+1+1+1) 0 (I L 2)/\cL W (w.heap.size+1+1+1) 1 (C F 0 0)/\cL W g o (I L r.k)/\cL W g (o+1) (r.s)/\cL W g (o+2) (I L t1.k)/\cL W g (o+3) (t1.s)/\cL W g (o+4) (I L t2.k)/\cL W g (o+5) (t2.s)) (by kernel_rfl) (HK.out _ (Yi.la d)) (fun hHeld=>?_);refine qk 0 (v:=?_) rfl (by kernel_rfl) (fun _ _ _ h=>h) (by rfl) hHeld ?_ ?_;rotate_left;(focus (intro w' h;go_split_ands;go_simp;try with_reducible rfl));simp only[Zl,G,Zb,Zc];refine qk 1 (v:=?_) rfl (by kernel_rfl) (fun _ _ _ h=>h) (by rfl) hHeld ?_ ?_;rotate_left;(focus (intro w' h;go_split_ands;go_simp;try with_reducible rfl));simp only[Zl,G,Zb,Zc];refine qk 2 (v:=?_) rfl (by kernel_rfl) (fun _ _ _ h=>h) (by rfl) hHeld ?_ ?_;rotate_left;(focus (intro w' h;go_split_ands;go_simp;try with_reducible rfl));simp only[Zl,G,Zb,Zc];refine qk 3 (v:=?_) rfl (by kernel_rfl) (fun _ _ _ h=>h) (by rfl) hHeld ?_ ?_;rotate_left;(focus (intro w' h;go_split_ands;go_simp;try with_reducible rfl));simp only[Zl,G,Zb,Zc];refine qk 4 (v:=?_) rfl (by kernel_rfl) (fun _ _ _ h=>h) (by rfl) hHeld ?_ ?_;rotate_left;(focus (intro w' h;go_split_ands;go_simp;try with_reducible rfl));simp only[Zl,G,Zb,Zc];refine qk 5 (v:=?_) rfl (by kernel_rfl) (fun _ _ _ h=>h) (by rfl) hHeld ?_ ?_;rotate_left;(focus (intro w' h;go_split_ands;go_simp;try with_reducible rfl));simp only[Zl,G,Zb,Zc];refine qk 7 (v:=?_) rfl (by kernel_rfl) (fun _ _ _ h=>h) (by rfl) hHeld ?_ ?_;rotate_left;(focus (intro w' h;go_split_ands;go_simp;try with_reducible rfl));simp only[Zl,G,Zb,Zc];refine qk 8 (v:=?_) rfl (by kernel_rfl) (fun _ _ _ h=>h) (by rfl) hHeld ?_ ?_;rotate_left;(focus (intro w' h;go_split_ands;go_simp;try with_reducible rfl));simp only[Zl,G,Zb,Zc];refine qk 9 (v:=?_) rfl (by kernel_rfl) (fun _ _ _ h=>h) (by rfl) hHeld ?_ ?_;rotate_left;(focus (intro w' h;go_split_ands;go_simp;try with_reducible rfl));simp only[Zl,G,Zb,Zc];refine qk 10 (v:=?_) rfl (by kernel_rfl) (fun _ _ _ h=>h) (by rfl) hHeld ?_ ?_;rotate_left;(focus (intro w' h;go_split_ands;go_simp;try with_reducible rfl));simp only[Zl,G,Zb,Zc];refine Jl (i:=6) rfl (by kernel_rfl) (fun K hK=>?_);go_simp;go_at_call 92;refine(HJ.out _ d).mono ?_;rintro e w4 ⟨u,rfl,hu,ar,h4⟩;replace a8:=Za h4 a8;replace ab:=Za h4 ab;replace aa:=(h4.frozen (p:=⟨w.heap.size+1,0,F⟩) a0).trans aa;replace a9:=(h4.frozen (p:=⟨w.heap.size+1,1,F⟩) a0).trans a9;replace a0:w.heap.size+1<w4.heap.size:=Z _ _ a8;replace d:=d.trans (h4.mono d.size);clear HJ h4;refine hK.out _ _ (HK.out _ (Yi.la d)) (fun hHeld=>?_);clear hK K;refine Jl (i:=11) rfl (by kernel_rfl) (fun K hK=>?_);go_simp;go_at_call 91;refine(al.out _ d).mono ?_;rintro e w2 ⟨rfl,h2⟩;(try (replace ar:=Tr.In.below h2 ar))
   replace a8:=Za h2 a8;replace ab:=Za h2 ab;replace aa:=(h2.frozen (p:=⟨w.heap.size+1,0,F⟩) a0).trans aa;replace a9:=(h2.frozen (p:=⟨w.heap.size+1,1,F⟩) a0).trans a9;replace a0:w.heap.size+1<w2.heap.size:=Z _ _ a8;replace d:=d.trans (h2.mono d.size);clear al h2;refine hK.out _ _ (HK.out _ (Yi.la d)) (fun hHeld=>?_);clear hK K;refine qk 12 (v:=?_) rfl (by kernel_rfl) (fun _ _ _ h=>h) (by rfl) hHeld ?_ ?_;rotate_left;(focus (intro w' h;go_split_ands;go_simp;try with_reducible rfl));simp only[Zl,G,Zb,Zc];refine qu 13 rfl (by kernel_rfl) (fun _ _ _ h=>h) hHeld ?_;simp only[Zl,G,Zb,Zc];refine qu 14 rfl (by kernel_rfl) (fun _ _ _ h=>h) hHeld ?_;simp only[Zl,G,Zb,Zc];refine qu 15 rfl (by kernel_rfl) (fun _ _ _ h=>h) hHeld ?_;simp only[Zl,G,Zb,Zc];refine qu 16 rfl (by kernel_rfl) (fun _ _ _ h=>h) hHeld ?_;simp only[Zl,G,Zb,Zc];refine qu 17 rfl (by kernel_rfl) (fun _ _ _ h=>h) hHeld ?_;simp only[Zl,G,Zb,Zc];refine qu 18 rfl (by kernel_rfl) (fun _ _ _ h=>h) hHeld ?_;simp only[Zl,G,Zb,Zc];refine qu 19 rfl (by kernel_rfl) (fun _ _ _ h=>h) hHeld ?_;simp only[Zl,G,Zb,Zc];refine qk 20 (v:=?_) rfl (by kernel_rfl) (fun _ _ _ h=>h) (by rfl) hHeld ?_ ?_;rotate_left;(focus (intro w' h;go_split_ands;go_simp;try with_reducible rfl));simp only[Zl,G,Zb,Zc];refine Jl (i:=21) rfl (by kernel_rfl) (fun K hK=>?_);go_simp;refine hK.out _ _ (HK.out _ (((Yi.la d).trans Yj).trans Yj)) (fun hHeld=>?_);clear hK K;refine qk 22 (v:=?_) rfl (by kernel_rfl) (fun _ _ _ h=>h) (by rfl) hHeld ?_ ?_;rotate_left;(focus (intro w' h;go_split_ands;go_simp;try with_reducible rfl));simp only[Zl,G,Zb,Zc];refine wpAnyH_done (by kernel_rfl) ?_ _;have HN:Zn _:=HE.out _ u d hu ar;clear HE ar;go_wp2_with fail;obtain⟨e1,e2,e3⟩:=HN.out;refine Zq (v:=ZH #[Zh u.v,.bool Zo]) ?_ rfl e1;simp[results,Zr,go_sem,e2,e3]
 ·
  obtain⟨r,rfl⟩:∃r,ts=[r]:=by
   match ts,(show ts.length=1 by rw[ac,hk];rfl) with
   |[r],_=>exact⟨r,rfl⟩
  obtain⟨g,o,ea,c0,c1,_⟩:=HT.out.2.1.part 0 (by simp)
  simp only[Zm,ZO,ZP] at c0 c1 ea
  have ad:=HT.out.2.2.1 r (by simp)
  obtain⟨p0,h0,s0⟩:=YS (by omega) ad.2.2
  have ah:g≠w.heap.size+1:=by have:=HT.out.2.2.2.2 _ ea;simp only at this;omega
  have lb:g<wc.heap.size:=Z _ _ c0
  have n0:=hB.n0
  have n1:=hB.n1
  have m0:=hB.t0
  have m1:=hB.t1
  have d2:=hB.at7.c2
  have d3:=hB.at7.c3
  simp only[Zu] at d2 d3
  have b8:=(HX.out.1.below hB.low).t
  have HV:Zn (Xa x.tm (E.l.map Tr.ty)=M ⟨3,[x.t.ty,r.ty]⟩):=by
   show _=_
   rw[HR.out,hk];simp only[ZG,ZD];rw[AX _ _ _ _ (Kn 904 _ (by rw[<-YL];exact ad.2.2))]
  have HJ:Zn (∀W,bL wc W->Zt Zd 93 #[Zh x.t.v,Zh r.v] W fun e w'=>∃gg,e=Zf (Zh #[I L 3,C (M ⟨gg,0,F⟩) 2 2])/\Zn ((Tr.mk 3 (M ⟨gg,0,F⟩) 2 [x.t,r]).In w'/\(Tr.mk 3 (M ⟨gg,0,F⟩) 2 [x.t,r]).Bl Q1)/\bL W w'):=fun W h=>by refine(O9 x.t r W (b8.below h) (ad.1.below h)).mono ?_;rintro e w' ⟨gg,dn,rfl,hi,hb⟩;exact⟨gg,rfl,⟨hi,Tr.mg (ap.out.2.2.1 gg (by have:=h.size;omega)) ap.out.1.t ad.2.1⟩,hb⟩
  have HE:Zn (∀V(gg:Nat),bL wc V->Zn ((Tr.mk 3 (M ⟨gg,0,F⟩) 2 [x.t,r]).In V/\(Tr.mk 3 (M ⟨gg,0,F⟩) 2 [x.t,r]).Bl Q1)->KG Q (Xa x.tm (E.l.map Tr.ty)) w (Zf (ZH #[Zh #[I L 3,C (M ⟨gg,0,F⟩) 2 2],.bool Zp])) ((V.setCell ⟨w.heap.size+1,0,F⟩ (I L 3)).setCell ⟨w.heap.size+1,1,F⟩ (C (M ⟨gg,0,F⟩) 2 2))/\ cL ((V.setCell ⟨w.heap.size+1,0,F⟩ (I L 3)).setCell ⟨w.heap.size+1,1,F⟩ (C (M ⟨gg,0,F⟩) 2 2)) (w.heap.size+1) 0 (I L 3)/\ cL ((V.setCell ⟨w.heap.size+1,0,F⟩ (I L 3)).setCell ⟨w.heap.size+1,1,F⟩ (C (M ⟨gg,0,F⟩) 2 2)) (w.heap.size+1) 1 (C (M ⟨gg,0,F⟩) 2 2)):=fun V gg hV hu=>ae.out V (Tr.mk 3 (M ⟨gg,0,F⟩) 2 [x.t,r]) Zp hV (by rw[HV.out];rfl) (fun i h=>by rw[HV.out] at h;rw[<-Zs h,Tr.lh];rfl) hu.out.1 hu.out.2
  have HK:Zn (∀W,Yi (w.heap.size+1) F wc W->cL W (w.heap.size+1+1) 0 (I L 1)/\cL W (w.heap.size+1+1) 1 (C F 0 0)/\cL W (w.heap.size+1+1+1) 0 (I L 2)/\cL W (w.heap.size+1+1+1) 1 (C F 0 0)/\cL W g o (I L r.k)/\cL W g (o+1) (r.s)/\cL W w.heap.size 2 (I L x.t.k)/\cL W w.heap.size 3 (x.t.s)):=fun W h=>⟨h.cell n0 (by omega),h.cell n1 (by omega),h.cell m0 (by omega),h.cell m1 (by omega),h.cell c0 ah,h.cell c1 ah,h.cell d2 (by omega),h.cell d3 (by omega)⟩
  have d:bL wc wc.drew:=(Ze _ _).drew
  have a8:cL wc.drew (w.heap.size+1) 0 (I L 0):=r0
  have ab:cL wc.drew (w.heap.size+1) 1 (C F 0 0):=r1
  have aa:wc.drew.frozen? ⟨w.heap.size+1,0,F⟩=Zo:=f0
  have a9:wc.drew.frozen? ⟨w.heap.size+1,1,F⟩=Zo:=f1
  have a0:w.heap.size+1<wc.drew.heap.size:=ay
  rw[hk] at d0
  rw[ea]
  clear hk ac hB ae an HT HR HF ea p0 h0 s0 ad HV b8
  go_upto_region 28 with fail
  go_region_held3 (fun W=>cL W (w.heap.size+1+1) 0 (I L 1)/\cL W (w.heap.size+1+1) 1 (C F 0 0)/\cL W (w.heap.size+1+1+1) 0 (I L 2)/\cL W (w.heap.size+1+1+1) 1 (C F 0 0)/\cL W g o (I L r.k)/\cL W g (o+1) (r.s)/\cL W w.heap.size 2 (I L x.t.k)/\cL W w.heap.size 3 (x.t.s))
   (first|exact HK.out _ (Yi.la d)|exact HK.out _ (((Yi.la d).trans Yj).trans Yj)|fail)
   (first
    |(go_at_call 93;refine(HJ.out _ d).mono ?_;rintro e w4 ⟨gg,rfl,hu,h4⟩;replace a8:=Za h4 a8;replace ab:=Za h4 ab;replace aa:=(h4.frozen (p:=⟨w.heap.size+1,0,F⟩) a0).trans aa;replace a9:=(h4.frozen (p:=⟨w.heap.size+1,1,F⟩) a0).trans a9;replace a0:w.heap.size+1<w4.heap.size:=Z _ _ a8;replace d:=d.trans (h4.mono d.size);clear HJ)
    |fail)
  have HN:Zn _:=HE.out _ gg d hu
  clear HE
  go_wp2_with fail
  obtain⟨e1,e2,e3⟩:=HN.out
  refine Zq (v:=ZH #[Zh #[I L 3,C (M ⟨gg,0,F⟩) 2 2],.bool Zp]) ?_ rfl e1
  simp[results,Zr,go_sem,e2,e3]
 ·
  obtain⟨r,t1,rfl⟩:∃r t1,ts=[r,t1]:=by
   match ts,(show ts.length=2 by rw[ac,hk];rfl) with
   |[r,t1],_=>exact⟨r,t1,rfl⟩
  obtain⟨g,o,ea,c0,c1,_⟩:=HT.out.2.1.part 0 (by simp)
  obtain⟨g1,o1,aj,c2,c3,_⟩:=HT.out.2.1.part 1 (by simp)
  simp only[Zm,ZA,ZO,ZP,Z2] at c0 c1 c2 c3 ea aj
  rw[ea] at aj
  obtain⟨rfl,rfl⟩:g=g1/\o=o1:=by simpa using aj
  have ad:=HT.out.2.2.1 r (by simp)
  obtain⟨p0,h0,s0⟩:=YS (by omega) ad.2.2
  have am:=HT.out.2.2.1 t1 (by simp)
  obtain⟨p1,h1,s1⟩:=YS (by omega) am.2.2
  have ah:g≠w.heap.size+1:=by have:=HT.out.2.2.2.2 _ ea;simp only at this;omega
  have lb:g<wc.heap.size:=Z _ _ c0
  have n0:=hB.n0
  have n1:=hB.n1
  have m0:=hB.t0
  have m1:=hB.t1
  by_cases hz:r.k=0
  .have HV:Zn (Xa x.tm (E.l.map Tr.ty)=M ⟨0,[]⟩):=by
    show _=_
    rw[HR.out,hk];simp only[ZG,ZD];have e:r.ty=⟨0,r.ty.l⟩:=by have:=Ty.eta r.ty;rw[Tr.ln,hz] at this;exact this
    rw[e,VN]
   have HE:Zn _:=fun V hV=>an.out V 0 Zp hV (by rw[HV.out];rfl) (fun i hi=>by rw[HV.out] at hi;exact Zs hi);rw[hz] at c0;rw[hk] at d0;rw[ea];clear hk ac hB ae an HT HR HF ea aj p0 h0 s0 p1 h1 s1 ad am HV hz;go_wp2_with (go_at_call 56;refine(Ue _).mono ?_;rintro e w3 ⟨rfl,bk⟩;have av:bL wc w3:=(by rw[bk];exact(Ze _ _).alloc (Zg _) _);clear bk;have bf:=Za av r0;have ch:=Za av r1;have cf:=(av.frozen (p:=⟨w.heap.size+1,0,F⟩) ay).trans f0;have cd:=(av.frozen (p:=⟨w.heap.size+1,1,F⟩) ay).trans f1;have dh:w.heap.size+1<w3.heap.size:=Z _ _ bf)
   have HN:Zn _:=HE.out _ av;clear HE;obtain⟨e1,e2,e3⟩:=HN.out;refine Zq (v:=ZH #[Zh #[I L 0,C F 0 0],.bool Zp]) ?_ rfl e1;simp[results,Zr,go_sem,e2,e3]
  .have hz':(r.k==0)=Zo:=by simpa using hz
   by_cases h3:r.k=3
   .obtain⟨u,v,hl⟩:∃u v,r.l=[u,v]:=by
     rcases p0.cases with⟨_,hk⟩|⟨u,v,hl,_⟩
     .omega
     .exact⟨u,v,hl⟩
    obtain⟨g2,o2,eb,y0,y1,ce⟩:=ad.1.part 0 (by simp[hl]);obtain⟨g3,o3,cg,y2,y3,cl⟩:=ad.1.part 1 (by simp[hl]);rw[eb] at cg;obtain⟨rfl,rfl⟩:g2=g3/\o2=o3:=by simpa using cg
    simp only[hl,Zm,ZA,ZO,ZP,Z2] at y0 y1 y2 y3 ce cl;have cx:u.right:=by have:=p0.part 0 (by simp[hl]);simpa[hl] using this
    have d6:v.right:=by have:=p0.part 1 (by simp[hl]);simpa[hl] using this
    have cz:∀z,z∈r.l->z.Bl Q1:=by have h:=ad.2.1;obtain⟨k,a,c,l⟩:=r;exact(Tr.ld.1 h).2
    have b7:g2≠w.heap.size+1:=by have h:=ad.2.1;obtain⟨k,a,c,l⟩:=r;simp only at eb hl;have:=(Tr.ld.1 h).1 (by rw[hl];simp) _ eb;exact(ap.out.2.2.2 _ this).2
    have b3:r.ty=⟨3,[u.ty,v.ty]⟩:=by obtain⟨k,a,c,l⟩:=r;simp only at h3 hl;subst h3 hl;rw[Tr.lh];rfl
    have bi:r.l.length=2:=by rw[hl];rfl
    obtain⟨b0,af⟩:∃b,b=YD Yl t1.ty u.ty:=⟨_,rfl⟩
    have HV:Zn (Xa x.tm (E.l.map Tr.ty)=if b0=Zp then M v.ty else F):=by
     show _=_
     rw[HR.out,hk,af];simp only[ZG,ZD];rw[b3,SN _ _ _ _ _ _ (by rw[<-b3];exact Kn 904 _ (by rw[<-YL];exact ad.2.2))]
    have al:Zn (∀W,bL wc W->Zt Zd 91 #[Zh t1.v,Zh u.v] W fun e w'=>e=Zf (.bool b0)/\bL W w'):=fun W h=>by have:=UP 1000 t1 u W (am.1.below h) (ce.below h) h1 s1 p1 cx;rw[<-af] at this;exact this
    have HE:Zn (∀V,bL wc V->_):=fun V hV=>ae.out V v b0 hV (by rw[HV.out];cases b0<;>rfl) (fun i h=>by rw[HV.out] at h;revert h;cases b0<;>(intro h;first|exact Zs h|cases h)) (cl.below hV) (cz v (by rw[hl];simp));have dp:g2<wc.heap.size:=Z _ _ y0;rw[h3] at c0;rw[eb,bi] at c1;have HK:Zn (∀W,Yi (w.heap.size+1) F wc W->cL W (w.heap.size+1+1) 0 (I L 1)/\cL W (w.heap.size+1+1) 1 (C F 0 0)/\cL W (w.heap.size+1+1+1) 0 (I L 2)/\cL W (w.heap.size+1+1+1) 1 (C F 0 0)/\cL W g o (I L 3)/\cL W g (o+1) (C (M ⟨g2,o2,F⟩) 2 r.c)/\cL W g (o+2) (I L t1.k)/\cL W g (o+3) (t1.s)/\cL W g2 o2 (I L u.k)/\cL W g2 (o2+1) (u.s)/\cL W g2 (o2+2) (I L v.k)/\cL W g2 (o2+3) (v.s)):=fun W h=>⟨h.cell n0 (by omega),h.cell n1 (by omega),h.cell m0 (by omega),h.cell m1 (by omega),h.cell c0 ah,h.cell c1 ah,h.cell c2 ah,h.cell c3 ah,h.cell y0 b7,h.cell y1 b7,h.cell y2 b7,h.cell y3 b7⟩
    have d:bL wc wc.drew:=(Ze _ _).drew;have a8:cL wc.drew (w.heap.size+1) 0 (I L 0):=r0;have ab:cL wc.drew (w.heap.size+1) 1 (C F 0 0):=r1;have aa:wc.drew.frozen? ⟨w.heap.size+1,0,F⟩=Zo:=f0;have a9:wc.drew.frozen? ⟨w.heap.size+1,1,F⟩=Zo:=f1;have a0:w.heap.size+1<wc.drew.heap.size:=ay;rw[hk] at d0;rw[ea];clear hk ac hB ae an HT HR HF ea aj p0 h0 s0 p1 h1 s1 ad am HV hz hz' h3 hl ce cl cx d6 cz b3 af eb cg bi;go_upto_region 34 with fail;go_region_held3 (fun W=>cL W (w.heap.size+1+1) 0 (I L 1)/\cL W (w.heap.size+1+1) 1 (C F 0 0)/\cL W (w.heap.size+1+1+1) 0 (I L 2)/\cL W (w.heap.size+1+1+1) 1 (C F 0 0)/\cL W g o (I L 3)/\cL W g (o+1) (C (M ⟨g2,o2,F⟩) 2 r.c)/\cL W g (o+2) (I L t1.k)/\cL W g (o+3) (t1.s)/\cL W g2 o2 (I L u.k)/\cL W g2 (o2+1) (u.s)/\cL W g2 (o2+2) (I L v.k)/\cL W g2 (o2+3) (v.s))
     (first|exact HK.out _ (Yi.la d)|exact HK.out _ (((Yi.la d).trans Yj).trans Yj)|fail)
     (first
      |(go_at_call 91;refine(al.out _ d).mono ?_;rintro e w2 ⟨rfl,h2⟩;replace a8:=Za h2 a8;replace ab:=Za h2 ab;replace aa:=(h2.frozen (p:=⟨w.heap.size+1,0,F⟩) a0).trans aa;replace a9:=(h2.frozen (p:=⟨w.heap.size+1,1,F⟩) a0).trans a9;replace a0:w.heap.size+1<w2.heap.size:=Z _ _ a8;replace d:=d.trans (h2.mono d.size);clear al)
      |fail)
    have HN:Zn _:=HE.out _ d;clear HE;go_wp2_with fail;obtain⟨e1,e2,e3⟩:=HN.out;refine Zq (v:=ZH #[Zh v.v,.bool b0]) ?_ rfl e1;simp[results,Zr,go_sem,e2,e3]
   .have h3':(r.k != 3)=Zp:=by simpa using h3
    have HV:Zn (Xa x.tm (E.l.map Tr.ty)=F):=by
     show _=_
     rw[HR.out,hk];simp only[ZG,ZD];have e:r.ty=⟨r.k,r.ty.l⟩:=by have:=Ty.eta r.ty;rw[Tr.ln] at this;exact this
     rw[e,RO _ _ _ _ _ _ hz h3]
    have HE:Zn _:=fun V hV=>an.out V 0 Zo hV (by rw[HV.out];rfl) (fun i hi=>by rw[HV.out] at hi;cases hi);rw[hk] at d0;rw[ea];clear hk ac hB ae an HT HR HF ea aj p0 h0 s0 p1 h1 s1 ad am HV hz h3;go_wp2_with (go_at_call 56;refine(Ue _).mono ?_;rintro e w3 ⟨rfl,bk⟩;have av:bL wc w3:=(by rw[bk];exact(Ze _ _).alloc (Zg _) _);clear bk;have bf:=Za av r0;have ch:=Za av r1;have cf:=(av.frozen (p:=⟨w.heap.size+1,0,F⟩) ay).trans f0;have cd:=(av.frozen (p:=⟨w.heap.size+1,1,F⟩) ay).trans f1;have dh:w.heap.size+1<w3.heap.size:=Z _ _ bf)
    have HN:Zn _:=HE.out _ av;clear HE;obtain⟨e1,e2,e3⟩:=HN.out;refine Zq (v:=ZH #[Zh #[I L 0,C F 0 0],.bool Zo]) ?_ rfl e1;simp[results,Zr,go_sem,e2,e3]
 ·
  obtain⟨r,rfl⟩:∃r,ts=[r]:=by
   match ts,(show ts.length=1 by rw[ac,hk];rfl) with
   |[r],_=>exact⟨r,rfl⟩
  obtain⟨g,o,ea,c0,c1,_⟩:=HT.out.2.1.part 0 (by simp)
  simp only[Zm,ZO,ZP] at c0 c1 ea
  have ad:=HT.out.2.2.1 r (by simp)
  obtain⟨p0,h0,s0⟩:=YS (by omega) ad.2.2
  have ah:g≠w.heap.size+1:=by have:=HT.out.2.2.2.2 _ ea;simp only at this;omega
  have lb:g<wc.heap.size:=Z _ _ c0
  have n0:=hB.n0
  have n1:=hB.n1
  have m0:=hB.t0
  have m1:=hB.t1
  have d2:=hB.at7.c2
  have d3:=hB.at7.c3
  simp only[Zu] at d2 d3
  have b8:=(HX.out.1.below hB.low).t
  obtain⟨b0,af⟩:∃b,b=YD Yl r.ty x.t.ty:=⟨_,rfl⟩
  have HV:Zn (Xa x.tm (E.l.map Tr.ty)=if b0=Zp then M x.t.ty else F):=by
   show _=_
   rw[HR.out,hk,af];simp only[ZG,ZD];rw[AY]
  have al:Zn (∀W,bL wc W->Zt Zd 91 #[Zh r.v,Zh x.t.v] W fun e w'=>e=Zf (.bool b0)/\bL W w'):=fun W h=>by have:=UP 1000 r x.t W (ad.1.below h) (b8.below h) h0 s0 p0 (Tr.lj 4 _ HF.out.1);rw[<-af] at this;exact this
  have HE:Zn (∀V,bL wc V->_):=fun V hV=>ae.out V x.t b0 hV (by rw[HV.out];cases b0<;>rfl) (fun i h=>by rw[HV.out] at h;revert h;cases b0<;>(intro h;first|exact Zs h|cases h)) (b8.below hV) ap.out.1.t
  have HK:Zn (∀W,Yi (w.heap.size+1) F wc W->cL W (w.heap.size+1+1) 0 (I L 1)/\cL W (w.heap.size+1+1) 1 (C F 0 0)/\cL W (w.heap.size+1+1+1) 0 (I L 2)/\cL W (w.heap.size+1+1+1) 1 (C F 0 0)/\cL W g o (I L r.k)/\cL W g (o+1) (r.s)/\cL W w.heap.size 2 (I L x.t.k)/\cL W w.heap.size 3 (x.t.s)):=fun W h=>⟨h.cell n0 (by omega),h.cell n1 (by omega),h.cell m0 (by omega),h.cell m1 (by omega),h.cell c0 ah,h.cell c1 ah,h.cell d2 (by omega),h.cell d3 (by omega)⟩
  have d:bL wc wc.drew:=(Ze _ _).drew
  have a8:cL wc.drew (w.heap.size+1) 0 (I L 0):=r0
  have ab:cL wc.drew (w.heap.size+1) 1 (C F 0 0):=r1
  have aa:wc.drew.frozen? ⟨w.heap.size+1,0,F⟩=Zo:=f0
  have a9:wc.drew.frozen? ⟨w.heap.size+1,1,F⟩=Zo:=f1
  have a0:w.heap.size+1<wc.drew.heap.size:=ay
  rw[hk] at d0
  rw[ea]
  clear hk ac hB ae an HT HR HF ea p0 h0 s0 ad HV b8 af
  go_upto_region 35 with fail
  go_region_held3 (fun W=>cL W (w.heap.size+1+1) 0 (I L 1)/\cL W (w.heap.size+1+1) 1 (C F 0 0)/\cL W (w.heap.size+1+1+1) 0 (I L 2)/\cL W (w.heap.size+1+1+1) 1 (C F 0 0)/\cL W g o (I L r.k)/\cL W g (o+1) (r.s)/\cL W w.heap.size 2 (I L x.t.k)/\cL W w.heap.size 3 (x.t.s))
   (first|exact HK.out _ (Yi.la d)|exact HK.out _ (((Yi.la d).trans Yj).trans Yj)|fail)
   (first
    |(go_at_call 91;refine(al.out _ d).mono ?_;rintro e w2 ⟨rfl,h2⟩;replace a8:=Za h2 a8;replace ab:=Za h2 ab;replace aa:=(h2.frozen (p:=⟨w.heap.size+1,0,F⟩) a0).trans aa;replace a9:=(h2.frozen (p:=⟨w.heap.size+1,1,F⟩) a0).trans a9;replace a0:w.heap.size+1<w2.heap.size:=Z _ _ a8;replace d:=d.trans (h2.mono d.size);clear al)
    |fail)
  have HN:Zn _:=HE.out _ d
  clear HE
  go_wp2_with fail
  obtain⟨e1,e2,e3⟩:=HN.out
  refine Zq (v:=ZH #[Zh x.t.v,.bool b0]) ?_ rfl e1
  simp[results,Zr,go_sem,e2,e3]
theorem Su(m:Nat):∀(x:TT),x.sz<=m->∀(Q:Nat->Prop)(E:Tr)(w:Zi),x.In w->E.In w->J8 x.tm E.l.length->(∀u,u∈E.l->YB 4 u=Zp)->x.sz+E.l.length<=900->x.Bl Q->E.Bl Q->(∀b,w.heap.size<=b->Q b)->
  Zt Zd 57 #[Zh #[I L x.k,I L x.n,I L x.t.k,C x.t.a x.t.l.length x.t.c,I L x.f.k,C x.f.a x.f.l.length x.f.c,C x.a x.l.length x.c],C E.a E.l.length E.c] w (KG Q (Xa x.tm (E.l.map Tr.ty)) w):=by
 induction m with
 |zero=>intro x h;have:=x.mi;omega
 |succ m ih=>
  intro x q Q E w o g c a d j i k;refine AC Q x E w o g c a d j i k fun y l=>ih y ?_;have r:=x.mr;have e:y.tm.sz<=((x.l.map TT.tm).map Tm.sz).sum:=JE _ _ (ZW.2 ⟨_,l,rfl⟩);have p:(x.l.map TT.tm).map Tm.sz=x.l.map TT.sz:=by rw[List.map_map];exact ZZ fun z _=>z.me.symm
  rw[p,<-TT.me] at e;omega
theorem Nj:∀(n:Nat)(t:Tr),YB n t=(Ug t.ty&&decide (t.hgt<=n))
 |0,t=>by
  have:=t.ml;have e:decide (t.hgt<=0)=Zo:=by simp;omega
  rw[e];simp[YB]
 |n+1,⟨k,a,c,l⟩=>by
  rw[SP,TF];match l with
  |[]=>
   have e:(k==0 || k==1 || k==2)=(decide (0<=k)&&decide (k<=2)):=by rw[Z8];simp;omega
   simp[YB,LC,most,e]
  |[x]=>simp[YB,LC]
  |[x,y]=>
   have h:=Nj n x;have g:=Nj n y;have e:decide (most [x,y]+1<=n+1)=(decide (x.hgt<=n)&&decide (y.hgt<=n)):=by rw[Z8];simp[most];omega
   simp only[YB,h,g,e,LC,List.all_cons,List.all_nil,List.length_cons,List.length_nil];cases k==3<;>cases Ug x.ty<;>cases Ug y.ty<;>cases decide (x.hgt<=n)<;>simp
  |x::y::z::r=>
   have b:(((x::y::z::r).length:Int)==0)=Zo:=by simp;omega
   have i:(((x::y::z::r).length:Int)==2)=Zo:=by simp;omega
   have d:LC k (x::y::z::r).length=Zo:=by unfold LC;rw[b,i];simp
   simp only[YB,d,Bool.false_and]
theorem Wm(n:Nat)(u:n<=1000000000)(x:Tr)(w:Zi)(l:x.In w)(g:x.hgt<=n)(j:x.sm):
  Zt Zd 99 #[Zh #[I L x.k,C x.a x.l.length x.c]] w fun e w'=>e=Zf (.bool (YB 4 x))/\Zk w.heap.size w w':=by
 have o:=Nj 4 x;have a:bL w (w.alloc (Zj x.v 24)):=(Ze _ _).alloc (Zg _) _;obtain⟨r,i⟩:∃r,Ug x.ty=r:=⟨_,rfl⟩
 have p:Zn (∀W,x.In W->Zt Zd 133 #[Zh x.v] W fun e w'=>e=Zf (.bool r)/\bL W w'):=fun W h=>i▸TC n x W h g j;have q:Zn (∀W,x.In W->Zt Zd 134 #[Zh x.v] W fun e w'=>e=Zf (I L (x.hgt:Int))/\bL W w'):=fun W h=>WE n u x W h g j;have HG:Zn (YB 4 x=(r&&decide (x.hgt<=4))):=by show _=_;rw[o,i]
 clear o i g j;cases r
 .go_enter func99,ntmps99;go_wp2_with fail;refine(p.out _ (l.below a)).mono ?_;rintro e d ⟨rfl,c⟩;have b:=a.trans (c.mono a.size);clear c a;go_wp2_with fail;go_ret;exact⟨by rw[HG.out];rfl,b⟩
 .go_enter func99,ntmps99;go_wp2_with fail;refine(p.out _ (l.below a)).mono ?_;rintro e d ⟨rfl,c⟩;have b:=a.trans (c.mono a.size);have p0:d.cell? ⟨w.heap.size,0,F⟩=M (I L x.k):=Za c (by simp[go_sem]);have z:d.cell? ⟨w.heap.size,1,F⟩=M (C x.a x.l.length x.c):=Za c (by simp[go_sem]);clear c a;go_wp2_with fail;refine(q.out _ (l.below b)).mono ?_;rintro e w2 ⟨rfl,m⟩;have k:=b.trans (m.mono b.size);have y:Zn (YB 4 x=decide ((x.hgt:Int)<5)):=by
   show _=_
   rw[HG.out,Bool.true_and,Z8];simp;omega
  clear m b HG;go_wp2_with fail;go_ret;exact⟨by rw[y.out];rfl,k⟩
section
open Go.RowKit Go.Maps
theorem FN:Keyed Zd 3:=int_keyed ZR
theorem FG(w:Zi):(zeroValue 3).run Zd w=.ok (I L 0) w:=by kernel_rfl
theorem Kd{b n:Nat}{D:DataW Unit}(hown:w.ownsMap Zd 3 (plainElem Zd 3) b n D)(hn:n<100)(k v:Int)(hk:(Lit.int .i64 k).wf=Zp)(hv:(Lit.int .i64 v).wf=Zp):
  ∃w',(Instr.mapUpdate 183 (.map (M b)) (.int .i64 k) (.int .i64 v)).run Zd w=.ok () w'/\w'.ownsMap Zd 3 (plainElem (H:=Unit) Zd 3) b (n+1) (D.put (.int .i64 k) (.lit (.int .i64 v)))/\w.grownBy w' (M b):=
 hown.update FN Ye (by unfold maxLen;omega) (keyOf_int_mk ZR hk) (plainElem_int ZR hv)
theorem CK(k:Int):DataW.atKey ((((((((((DataW.map (H:=Unit) []).put (.int .i64 1) (.lit (.int .i64 0))).put (.int .i64 2) (.lit (.int .i64 0))).put (.int .i64 3) (.lit (.int .i64 0))).put (.int .i64 4) (.lit (.int .i64 2))).put (.int .i64 5) (.lit (.int .i64 2))).put (.int .i64 6) (.lit (.int .i64 3))).put (.int .i64 7) (.lit (.int .i64 1))).put (.int .i64 8) (.lit (.int .i64 2))).put (.int .i64 9) (.lit (.int .i64 1))) (.int .i64 k) (.lit (.int .i64 0))=.lit (.int .i64 (Yu k:Int)):=by
 have e:((((((((((DataW.map (H:=Unit) []).put (.int .i64 1) (.lit (.int .i64 0))).put (.int .i64 2) (.lit (.int .i64 0))).put (.int .i64 3) (.lit (.int .i64 0))).put (.int .i64 4) (.lit (.int .i64 2))).put (.int .i64 5) (.lit (.int .i64 2))).put (.int .i64 6) (.lit (.int .i64 3))).put (.int .i64 7) (.lit (.int .i64 1))).put (.int .i64 8) (.lit (.int .i64 2))).put (.int .i64 9) (.lit (.int .i64 1)))=DataW.map (H:=Unit) [(.int .i64 1,.lit (.int .i64 0)),(.int .i64 2,.lit (.int .i64 0)),(.int .i64 3,.lit (.int .i64 0)),(.int .i64 4,.lit (.int .i64 2)),(.int .i64 5,.lit (.int .i64 2)),(.int .i64 6,.lit (.int .i64 3)),(.int .i64 7,.lit (.int .i64 1)),(.int .i64 8,.lit (.int .i64 2)),(.int .i64 9,.lit (.int .i64 1))]:=by rfl
 rw[e];by_cases hk:1<=k/\k<=9
 .have:k=1\/k=2\/k=3\/k=4\/k=5\/k=6\/k=7\/k=8\/k=9:=by omega
  rcases this with rfl|rfl|rfl|rfl|rfl|rfl|rfl|rfl|rfl<;>rfl
 .have hp:Yu k=0:=by unfold Yu;rw[if_neg (by omega),if_neg (by omega),if_neg (by omega)]
  have a:∀j:Int,1<=j->j<=9->(Lit.int .i64 j).sameKey (.int .i64 k)=Zo:=fun j b c=>by simp only[Lit.sameKey,decide_eq_false_iff_not];intro h;omega
  rw[hp];simp[DataW.atKey,List.find?,a]
theorem MH(k:Int)(hk:(Lit.int .i64 k).wf=Zp)(w:Zi):Zt Zd 98 #[.int .i64 k] w fun e w'=>e=.returned (.int .i64 (Yu k:Int))/\Zk w.heap.size w w':=by
 have a0:=@run_makeMap Zd;go_enter func98,ntmps98;go_wp2_with fail;obtain⟨w1,o,o1,g1⟩:=Kd (World.ownsMap_made w Zd 3 (plainElem (H:=Unit) Zd 3)) (by omega) 1 0 (by decide) (by decide);rw[o];clear o;go_wp2_with fail;obtain⟨w2,r2,o2,x⟩:=Kd o1 (by omega) 2 0 (by decide) (by decide);rw[r2];clear r2;go_wp2_with fail;obtain⟨w3,l,o3,g3⟩:=Kd o2 (by omega) 3 0 (by decide) (by decide);rw[l];clear l;go_wp2_with fail;obtain⟨w4,r,o4,g4⟩:=Kd o3 (by omega) 4 2 (by decide) (by decide);rw[r];clear r;go_wp2_with fail;obtain⟨w5,r5,y,g5⟩:=Kd o4 (by omega) 5 2 (by decide) (by decide);rw[r5];clear r5;go_wp2_with fail;obtain⟨w6,q,m,i⟩:=Kd y (by omega) 6 3 (by decide) (by decide);rw[q];clear q;go_wp2_with fail;obtain⟨w7,z,o7,g7⟩:=Kd m (by omega) 7 1 (by decide) (by decide);rw[z];clear z;go_wp2_with fail;obtain⟨w8,r8,o8,g8⟩:=Kd o7 (by omega) 8 2 (by decide) (by decide);rw[r8];clear r8;go_wp2_with fail;obtain⟨w9,r9,o9,p⟩:=Kd o8 (by omega) 9 1 (by decide) (by decide);rw[r9];clear r9;go_wp2_with fail;obtain⟨c,b,d,_⟩:=o9.lookup_int FN Ye ZR (FG _) (keyOf_int_mk ZR hk);rw[CK] at d;have hB:bL w w9:=by have h0:bL w (w.alloc (.map #[] 0)):=(Ze _ _).alloc (Zg _) _;have a:∀{u u':Zi},bL w u->u.grownBy u' (M w.heap.size)->bL w u':=fun h g=>h.grown g h.size (fun j hj=>by cases hj;exact Zg _);exact a (a (a (a (a (a (a (a (a h0 g1) x) g3) g4) g5) i) g7) g8) p
 have HB:=Yy hB;have HC:Zn (c=(Yu k:Int)):=by
  have:DataW.lit (H:=Unit) (.int .i64 (Yu k:Int))=.lit (.int .i64 c):=d;cases this
  exact rfl
 clear d hB o1 o2 o3 o4 y m o7 o8 o9 g1 x g3 g4 g5 i g7 g8 p;rw[b];clear b;go_wp2_with fail;go_ret;exact⟨by rw[HC.out];rfl,HB.out⟩
end
theorem Nn(l:List TT):(YW l).length=l.length*7:=by
 induction l with
 |nil=>rfl
 |cons a r ih=>simp[YW] at ih ⊢;omega
theorem Qj:∀(l:List TT)(u:ZE),u∈YW l->u.oneCell'=Zp
 |[],u,h=>by simp[YW] at h
 |y::r,u,h=>by
  have e:YW (y::r)=YW [y]++YW r:=by simp[YW]
  rw[e] at h;rcases ZL.1 h with h|h
  .simp[YW] at h;rcases h with rfl|rfl|rfl|rfl|rfl|rfl|rfl<;>rfl
  .exact Qj r u h
theorem Tb(h:x.In w){b o:Nat}(l:x.a=M ⟨b,o,F⟩):∀j u,(YW x.l)[j]?=M u->w.cell? ((⟨b,o,F⟩:Z5).add j)=M u:=by
 intro j u g;have c:j<(YW x.l).length:=(List.getElem?_eq_some_iff.1 g).1;rw[Nn] at c;have d:j / 7<x.l.length:=by omega
 obtain⟨r,y,k,m,_⟩:=h.part (j / 7) d;rw[l] at k;cases k
 have e:=Ls x.l (j / 7) d (j % 7) (by omega);rw[show j / 7*7+j % 7=j by omega,g] at e;have a:j % 7=0\/j % 7=1\/j % 7=2\/j % 7=3\/j % 7=4\/j % 7=5\/j % 7=6:=by omega
 obtain⟨a0,a1,a2,a3,q,a5,z⟩:=m;have p:∀i,j % 7=i->((⟨b,o,F⟩:Z5).add j)=⟨b,o+j / 7*7+i,F⟩:=fun i hi=>by
  have:o+j=o+j / 7*7+i:=by omega
  simp[Addr.add,this];intro h;omega
 rcases a with a|a|a|a|a|a|a
 all_goals
  rw[a] at e
  simp at e
  rw[p _ a,e]
  assumption
structure EU(B:Nat)(v:ZE)(ps:List TT)(w:Zi):Prop where
 own:w.ownsRow B 27 7 v ps.length (YW ps)
 ins:∀p,p∈ps->E7 B w p
theorem OI(x:TT)(w:Zi)(hx:x.In w)(hsz:x.sz<=2000000):
  Zt Zd 60 #[Zh #[I L x.k,I L x.n,I L x.t.k,C x.t.a x.t.l.length x.t.c,I L x.f.k,C x.f.a x.f.l.length x.f.c,C x.a x.l.length x.c]] w fun e w'=>e=Zf (I L (x.sz:Int))/\Zk w.heap.size w w':=by
 obtain⟨i0,a6,ah,ak,ab⟩:=info_parts Tryz.info27c;obtain⟨l,a9⟩:∃O,O=Obj.cells x.v 27:=⟨_,rfl⟩
 have d:Zn (∀W,W=((w.alloc l).drew.alloc l)\/W=((w.alloc l).alloc l)\/W=((w.alloc l).alloc l).drew->EU (w.heap.size+1) (C (M ⟨w.heap.size+1,0,F⟩) 1 1) [x] W/\bL w W):=by
  intro W hW;have hb:bL w W:=by
   rcases hW with rfl|rfl|rfl
   .exact(((Ze _ _).alloc (Zg _) _).drew).alloc (by simp) _
   .exact((Ze _ _).alloc (Zg _) _).alloc (by simp) _
   .exact(((Ze _ _).alloc (Zg _) _).alloc (by simp) _).drew
  have hh:W.heap[w.heap.size+1]?=M l:=by
   rcases hW with rfl|rfl|rfl
   .have:=Z0 ((w.alloc l).drew) l;simpa using this
   .have:=Z0 (w.alloc l) l;simpa using this
   .have:=Z0 (w.alloc l) l;show ((w.alloc l).alloc l).heap[w.heap.size+1]?=_
    simpa using this
  rw[a9] at hh;refine⟨⟨⟨rfl,.inr ⟨_,1,_,rfl,Zg _,hh,Zg _,by unfold maxLen;omega,rfl,rfl⟩⟩,fun p hp=>?_⟩,hb⟩;rcases ZK.1 hp with rfl;exact⟨hx.below hb,hx.bl.mono fun b h=>by omega⟩
 obtain⟨B,hB⟩:∃B,w.heap.size+1=B:=⟨_,rfl⟩
 have ay:w.heap.size<B:=by omega
 obtain⟨S,hS⟩:∃S,x.sz=S:=⟨_,rfl⟩
 have ax:S<=2000000:=by omega
 have al:Jd [x]=S:=by simp[Jd,hS]
 rw[hS];subst a9;clear hx hsz hS;go_enter func60,ntmps60;go_wp2_with fail;go_region
 go_wp2_with fail;go_loopg [3,4] S (fun k cn v wr=>∃(u:ZE)(ps:List TT)(c:Nat),u=v/\cn=I L (c:Int)/\k=Jd ps/\Zn (EU B u ps wr/\bL w wr/\c+Jd ps=S))
 case atStart=>
  refine⟨_,[x],0,rfl,rfl,al.symm,?_⟩;rw[<-hB];first
   |exact⟨(d.out _ (.inl rfl)).1,(d.out _ (.inl rfl)).2,by omega⟩
   |exact⟨(d.out _ (.inr (.inl rfl))).1,(d.out _ (.inr (.inl rfl))).2,by omega⟩
   |exact⟨(d.out _ (.inr (.inr rfl))).1,(d.out _ (.inr (.inr rfl))).2,by omega⟩
 case round=>
  obtain⟨v,ps,c,hv,rfl,hk,y⟩:=hrel;subst hv;have HK:=Yy hk;clear hk d hB;by_cases hne:ps=[]
  .subst hne;obtain⟨a,c',rfl⟩:∃a c,v=C a 0 c:=by
    rcases y.out.1.own.2 with⟨rfl,_⟩|⟨g,cap,ac,rfl,_⟩
    .exact⟨_,_,rfl⟩
    .exact⟨_,_,rfl⟩
   have HF:Zn (bL w wr/\c=S):=⟨y.out.2.1,by have:=y.out.2.2;simpa[Jd] using this⟩
   clear y HK;go_wp2_with fail;go_ret;exact⟨by rw[<-HF.out.2];rfl,HF.out.1⟩
  .obtain⟨us,p,rfl⟩:∃us p,ps=us++[p]:=⟨ps.dropLast,ps.getLast hne,(List.dropLast_concat_getLast hne).symm⟩
   have ho:=y.out.1.own;have a1:(us++[p]).length=us.length+1:=by simp
   have aa:=Nn us;rw[a1] at ho;obtain⟨g,cap,rfl,hg,av⟩:=ho.form (by omega);have hc:∀i,i<7->wr.cell? ⟨g,us.length*7+i,F⟩=(#[I L p.k,I L p.n,I L p.t.k,C p.t.a p.t.l.length p.t.c,I L p.f.k,C p.f.a p.f.l.length p.f.c,C p.a p.l.length p.c]:Array ZE)[i]?:=by intro i hi;rw[ho.cellAt (us.length*7+i) (by omega)];have:=Ls (us++[p]) us.length (by simp) i hi;rw[this];simp
   have c0:wr.cell? ⟨g,us.length*7,F⟩=M (I L p.k):=(hc 0 (by omega)).trans rfl;have c1:wr.cell? ⟨g,us.length*7+1,F⟩=M (I L p.n):=(hc 1 (by omega)).trans rfl;have c2:wr.cell? ⟨g,us.length*7+2,F⟩=M (I L p.t.k):=(hc 2 (by omega)).trans rfl;have c3:wr.cell? ⟨g,us.length*7+3,F⟩=M (C p.t.a p.t.l.length p.t.c):=(hc 3 (by omega)).trans rfl;have c4:wr.cell? ⟨g,us.length*7+4,F⟩=M (I L p.f.k):=(hc 4 (by omega)).trans rfl;have c5:wr.cell? ⟨g,us.length*7+5,F⟩=M (C p.f.a p.f.l.length p.f.c):=(hc 5 (by omega)).trans rfl;have c6:wr.cell? ⟨g,us.length*7+6,F⟩=M (C p.a p.l.length p.c):=(hc 6 (by omega)).trans rfl;have ao:us.length+1<=cap:=by
    rcases ho.2 with⟨h,_⟩|⟨g',ap,ac,h,_,_,h1,_⟩
    .cases h
    .cases h;exact h1
   have a0:wr.ownsRow B 27 7 (C (M ⟨g,0,F⟩) us.length cap) us.length (YW us):=by rw[JQ] at ho;exact ownsRow_pop aa ho
   have a2:Jd (us++[p])=Jd us+p.sz:=by simp[Jd]
   have a7:=y.out.2.2;have aw:=FU.len (ps:=us);have a8:p.sz=(p.l.map TT.sz).sum+1:=p.mr;have ar:=Ae p.l;have i1:(us.length:Int)<((us.length:Int)+1):=by omega
   have n1:(us.length:Int)<=2000000:=by omega
   have n2:(us.length:Int)<=(cap:Int):=by omega
   have n3:(0:Int)<=(us.length:Int):=by omega
   have cb:(c:Int)<=2000000:=by omega
   have az:IntKind.i64.wrap (us.length:Int)=(us.length:Int):=by rw[IntKind.wrap_i64];omega
   have m:=y.out.1.ins p (by simp);have HT:Zn (∀q,q∈us->E7 B wr q):=fun q hq=>y.out.1.ins q (by simp[hq]);have aq:g≠wr.heap.size:=by omega
   have a3:=y.out.2.1;have a5:B<=wr.heap.size:=by have:=a3.size;omega
   have HM:Zn (gk=Jd us+p.sz/\c+(Jd us+p.sz)=S):=⟨HK.out.trans a2,by rw[<-a2];exact a7⟩
   have HW:Zn (Zk w.heap.size w wr):=a3;clear ho y HK a2 a7 hne a1 hc a3;by_cases hl0:p.l.length=0
   .have hnil:p.l=[]:=ZS.1 hl0;have au:p.sz=1:=by rw[a8,hnil];rfl
    rw[hl0] at c6;have HO:Zn (EU B (C (M ⟨g,0,F⟩) us.length cap) us (wr.alloc (Zj #[I L p.k,I L p.n,I L p.t.k,C p.t.a p.t.l.length p.t.c,I L p.f.k,C p.f.a p.f.l.length p.f.c,C p.a 0 p.c] 27)).drew/\Zk w.heap.size w (wr.alloc (Zj #[I L p.k,I L p.n,I L p.t.k,C p.t.a p.t.l.length p.t.c,I L p.f.k,C p.f.a p.f.l.length p.f.c,C p.a 0 p.c] 27)).drew/\(c+1)+Jd us=S):=by refine⟨⟨(a0.alloc _).drew,fun q hq=>(HT.out q hq).low ((((Ze _ _).alloc a5 _)).drew)⟩,(HW.out.alloc HW.out.size _).drew,?_⟩;have:=HM.out.2;omega
    clear m HT HW a0;go_wp2_with fail;go_region_law ((refine Lh (by rfl) _ _ _ (by rfl) 27 i0 underlying25 a6 g us.length cap (by rfl) p.a p.c (by rfl) (by omega) ?_))
    go_wp2_with fail;go_roundg (Jd us)
    case measure=>have:=HM.out.1;omega
    case rel=>exact⟨_,us,c+1,rfl,by go_num,rfl,HO⟩
   .obtain⟨xb,xo,xa,_,_⟩:=m.1.part 0 (by omega);have a4:Zk wr.heap.size wr (wr.alloc (Zj #[I L p.k,I L p.n,I L p.t.k,C p.t.a p.t.l.length p.t.c,I L p.f.k,C p.f.a p.f.l.length p.f.c,C (M ⟨xb,xo,F⟩) p.l.length p.c] 27)).drew:=((Ze _ _).alloc (Zg _) _).drew;have HN:Zn (∀j u,(YW p.l)[j]?=M u->(wr.alloc (Zj #[I L p.k,I L p.n,I L p.t.k,C p.t.a p.t.l.length p.t.c,I L p.f.k,C p.f.a p.f.l.length p.f.c,C (M ⟨xb,xo,F⟩) p.l.length p.c] 27)).drew.cell? ((⟨xb,xo,F⟩:Z5).add j)=M u):=Tb (m.1.below a4) xa;have HP:Zn (E7 B wr p):=m;rw[xa] at c6;have ad:0<p.l.length:=by omega
    have an:us.length+p.l.length<=2000000:=by have:=HM.out.2;omega
    clear m a4;go_wp2_with fail;go_region_law ((refine step_append_lies _ (by rfl) _ _ _ (by rfl) B 27 i0 _ 7 104 underlying25 a6 ah ak ab rfl (by omega) (C (M ⟨g,0,F⟩) us.length cap) us.length (YW us) (by rfl) ((a0.alloc _).drew) ⟨xb,xo,F⟩ p.l.length p.c (YW p.l) (by rfl) (Nn p.l) HN.out (Qj p.l) ad (by unfold maxLen;omega) (by omega) (by simp;omega) (wr.heap.size+1) (by simp) ?_;intro gg cap1 w1 o r ai ae))
    have z:Zk B wr w1:=(((Ze _ _).alloc a5 _).drew).grown r (by simp;omega) (fun k hk=>by simp[ZN] at hk;omega);have aj:Jd (us++p.l)+1=Jd us+p.sz:=by rw[a8];simp only[Jd,ZM,List.sum_append_nat];omega
    have HO:Zn (EU B (C (M ⟨gg,0,F⟩) (us.length+p.l.length) cap1) (us++p.l) w1/\bL w w1/\(c+1)+Jd (us++p.l)=S):=by
     refine⟨⟨?_,fun q hq=>?_⟩,HW.out.trans (z.mono (by omega)),?_⟩
     .rw[JQ,Zz];exact o
     .rcases ZL.1 hq with hq|hq
      .exact(HT.out q hq).low z
      .obtain⟨j,hj,rfl⟩:=ZY hq;obtain⟨_,_,_,_,am⟩:=HP.out.1.part j hj;exact(show E7 B wr p.l[j] from ⟨am,HP.out.2.mem (ZQ hj)⟩).low z
     .have:=HM.out.2;omega
    have af:Jd (us++p.l)<gk:=by have:=HM.out.1;omega
    clear o r ai z HT HW a0 HN HP aj ae;go_wp2_with fail;go_roundg (Jd (us++p.l))
    case measure=>exact af
    case rel=>exact⟨_,us++p.l,c+1,rfl,by go_num,rfl,HO⟩
theorem LX.pp{v:ZE}(h:LX Q base v cs w)(R:Nat)(j:R<base)(g:∀b,Q b->b≠R)(d:Yi R F w w'):LX Q base v cs w':=by refine⟨Mf h.own fun k e=>?_,fun c a=>⟨(h.ins c a).1.lc d ((h.ins c a).2.mono fun b i=>g b i.1),(h.ins c a).2⟩⟩;have:=h.own.lt k e;exact d.block k this.2 (by omega) (by simp)
structure CW(Q:Nat->Prop)(S:Nat)(x:TT)(V:Zi)(T:List Tm)(j:Nat)(v:ZE)(cs:List TT)(wr:Zi):Prop where
 row:LX Q V.heap.size v cs wr
 tm:cs.map TT.tm=T.take j
 box:∃a c,v=C a cs.length c/\XC wr S ⟨x.k,x.n,x.t,x.f,a,c,cs⟩
 kp:Yi S F V wr
theorem CW.below{T:List Tm}{v:ZE}(h:CW Q S x V T j v cs wr)(b:Zk wr.heap.size wr w2):CW Q S x V T j v cs w2:=by refine⟨h.row.below b,h.tm,?_,h.kp.trans (Yi.la b)⟩;obtain⟨a,c,e,d⟩:=h.box;exact⟨a,c,e,d.below b⟩
theorem CW.step{q:TT}{T:List Tm}{v:ZE}(h:CW Q S x V T j v cs wr)(hS:S<V.heap.size)(hQ:∀b,Q b->b≠S)(hj:j<T.length)(g:Zk wr.heap.size wr w2)(z:q.tm=T[j])(p:q.In w2)(o:q.Bl (fun b=>Q b/\M b≠v.ownBlock))
  (i:w3.ownsRow V.heap.size 27 7 (C (M ⟨gg,0,F⟩) (cs.length+1) cap1) (cs.length+1) (YW cs++YW [q])) (c:(w2.alloc X).grownBy w3 v.ownBlock) (u:v.ownBlock=M gg\/gg=w2.heap.size+1) :
  CW Q S x V T (j+1) (C (M ⟨gg,0,F⟩) (cs.length+1) cap1) (cs++[q]) (w3.setCell ⟨S,6,F⟩ (C (M ⟨gg,0,F⟩) (cs.length+1) cap1)):=by
 have l:=h.row.lt;have y:=Nat.lt_of_lt_of_le hS h.kp.size;have s2:=g.size;have m:M S≠v.ownBlock:=fun e=>by have:=(l S e.symm).1;omega
 obtain⟨w,d⟩:=(h.row.below g).step p o i c u;refine⟨w.pp S hS hQ Yj,?_,?_,?_⟩
 .rw[Zy hj,ZM,h.tm];simp[z]
 .obtain⟨a,c0,hv,hbx⟩:=h.box;refine⟨M ⟨gg,0,F⟩,cap1,?_,?_⟩
  .rw[Zz,Zx]
  .have:=(hbx.pp ((d S (by omega) m).trans (g.block S y))).pz (a':=M ⟨gg,0,F⟩) (c':=cap1) (l':=cs++[q]);rw[Zz,Zx] at this;exact this
 .refine Yi.trans ?_ Yj;have s3:=c.size;simp at s3;have sv:=h.kp.size;refine⟨?_,?_,?_,by omega,fun k hk r _=>?_⟩
  .rw[c.os];exact g.os.trans h.kp.os
  .rw[c.tape];exact g.tape.trans h.kp.tape
  .rw[c.output];exact g.output.trans h.kp.output
  .have hne:M k≠v.ownBlock:=fun e=>by have:=(l k e.symm).1;omega
   exact(d k (by omega) hne).trans ((g.block k (by omega)).trans (h.kp.block k hk r (by simp)))
theorem LX.tree{v:ZE}(h:LX Q base v cs w)(q:∀b,base<=b->Q b){n:Int}{t f:Tr}(o:t.In w)(g:f.In w)(r:t.Bl Q)(i:f.Bl Q):∃a c,v=C a cs.length c/\(TT.mk k n t f a c cs).In w/\(TT.mk k n t f a c cs).Bl Q:=by obtain⟨a,c,j,m,l⟩:=h.list;refine⟨a,c,j,TT.li.2 ⟨o,g,m,fun y d=>(h.ins y d).1⟩,TT.ld.2 ⟨r,i,fun e y d=>q _ (l y e d),fun y d=>(h.ins y d).2.mono fun b p=>p.1⟩⟩
theorem D1{U:Zi}{JB:Nat}{m:Int}{z:TT}{uw th:Tr}(e:XC U JB z)(hz:z.In U)(j:z.Bl (fun b=>Q b/\b≠JB))(hu:uw.In U)(p:th.In U)(g:uw.Bl (fun b=>Q b/\b≠JB))(k:th.Bl (fun b=>Q b/\b≠JB))(r:Q U.heap.size):
  XC (Xd (U.alloc (Zj #[I L z.k,I L z.n,I L z.t.k,C z.t.a z.t.l.length z.t.c,I L z.f.k,C z.f.a z.f.l.length z.f.c,C z.a z.l.length z.c] 27)) JB ⟨10,m,uw,th,M ⟨U.heap.size,0,F⟩,1,[z]⟩) JB (TT.mk 10 m uw th (M ⟨U.heap.size,0,F⟩) 1 [z])/\(TT.mk 10 m uw th (M ⟨U.heap.size,0,F⟩) 1 [z]).In (Xd (U.alloc (Zj #[I L z.k,I L z.n,I L z.t.k,C z.t.a z.t.l.length z.t.c,I L z.f.k,C z.f.a z.f.l.length z.f.c,C z.a z.l.length z.c] 27)) JB ⟨10,m,uw,th,M ⟨U.heap.size,0,F⟩,1,[z]⟩)/\(TT.mk 10 m uw th (M ⟨U.heap.size,0,F⟩) 1 [z]).Bl (fun b=>Q b/\b≠JB)/\∀N,N<=JB->N<=U.heap.size->Zk N U (Xd (U.alloc (Zj #[I L z.k,I L z.n,I L z.t.k,C z.t.a z.t.l.length z.t.c,I L z.f.k,C z.f.a z.f.l.length z.f.c,C z.a z.l.length z.c] 27)) JB ⟨10,m,uw,th,M ⟨U.heap.size,0,F⟩,1,[z]⟩):=by
 have a:bL U (U.alloc (Zj z.v 27)):=(Ze _ _).alloc (Zg _) _;have hJ:=e.lt;have l:=YI (w:=U.alloc (Zj z.v 27)) (J:=JB) (x:=⟨10,m,uw,th,M ⟨U.heap.size,0,F⟩,1,[z]⟩);have c:(TT.mk 10 m uw th (M ⟨U.heap.size,0,F⟩) 1 [z]).Bl (fun b=>Q b/\b≠JB):=by
  refine TT.ld.2 ⟨g,k,fun _ y d=>?_,fun y d=>?_⟩
  .cases d
   exact⟨r,by show U.heap.size≠JB;omega⟩
  .have:y=z:=by simpa using d
   subst this;exact j
 have h:(TT.mk 10 m uw th (M ⟨U.heap.size,0,F⟩) 1 [z]).In (U.alloc (Zj z.v 27)):=by
  refine TT.li.2 ⟨hu.below a,p.below a,fun i hi=>?_,fun y d=>?_⟩
  .have:i=0:=by simpa using hi
   subst this;refine⟨U.heap.size,0,rfl,?_⟩;simp only[Zm];constructor<;>simp[go_sem]
  .have:y=z:=by simpa using d
   subst this;exact hz.below a
 refine⟨JW (e.below a),h.lc l (c.mono fun b q=>q.2),c,fun N u o=>?_⟩;exact(a.mono o).trans ((l.below (by simp) (by simp;omega)).mono u)
end Go.Proofs.YtnddkmccagiclabGreatDoor
