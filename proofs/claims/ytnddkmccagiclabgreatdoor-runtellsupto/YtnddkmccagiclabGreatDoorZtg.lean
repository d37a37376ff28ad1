import Derived.Test.YtnddkmccagiclabGreatDoorZtc
import Derived.BigQuiet
import Derived.Outline
set_option maxRecDepth 20000
set_option maxHeartbeats 16000000
open Go.RowKit Go.Proofs.Tryz
open Option renaming none→C,some→P
open Go.Value renaming pointer→D,int→L,agg→Z,slice→Zc,string→Zh
open Go.World renaming block_lt_of_cell?→E,cell?_setCell_far→Zb
open Bool renaming false→F
open Go.Proofs.Tryz renaming prog→I,ntmps201→V,func201→X,results74→Y,ntmps74→Za,func74→Zd,func50→Zi
open Go.Ending renaming returned→J
open Go.IntKind renaming i64→N
open Nat renaming le_refl→O
open Go renaming World→Q,Calls→S,bodyPost_ret→T,Addr→Ze
open Go.RowKit.Below renaming refl→R
open Go.RowKit renaming Below→U
open List renaming drop_succ_cons→Zf
open Array renaming length_toList→Zg
namespace Go.Proofs.YtnddkmccagiclabGreatDoor
variable {W w w' w0:Q}{G H:Gh}{b:Nat}{c:Ca}{pa pg:Option Ze}
theorem O6(c b:UInt8)(new:List UInt8)(h:b≠c):∀(n:Nat)(l:List UInt8),n<=Lib.count l [c]->Lib.replaceK [c] new n (b::l)=b::Lib.replaceK [c] new n l
 |0,l,_=>rfl
 |n+1,l,hn=>by
  obtain⟨j,hj⟩:=Lib.index_of_count (s:=l) (old:=[c]) (by omega);have hp:([c]:List UInt8).isPrefixOf (b::l)=F:=by simp[List.isPrefixOf,Ne.symm h]
  have a:Lib.index (b::l) [c]=((j+1:Nat):Int):=by rw[Lib.index,hp];simp only[Bool.false_eq_true,if_false];rw[if_neg (by rw[hj];simp),hj];omega
  rw[Lib.replaceK_hit _ _ _ _ _ a,Lib.replaceK_hit _ _ _ _ _ hj];have e:j+1+[c].length=(j+[c].length)+1:=by omega
  rw[e,List.take_succ_cons,Zf];rfl
theorem JE(c:UInt8):∀s:List UInt8,Lib.replaceK [c] [32,c,32] (Lib.count s [c]) s=YO c s
 |[]=>by rw[Lib.count_one];rfl
 |b::l=>by
  by_cases h:b=c
  .subst h;have hi:Lib.index (b::l) [b]=((0:Nat):Int):=by rw[Lib.index];simp[List.isPrefixOf]
   rw[Lib.count_cons_eq,Nat.add_comm,Lib.replaceK_hit _ _ _ _ _ hi,JA,if_pos rfl];have e:0+[b].length=0+1:=rfl;rw[e,Zf,List.drop_zero,JE b l];simp
  .rw[Lib.count_cons_ne b c l h,O6 c b _ h _ l (O _),JE c l,JA,if_neg h];rfl
theorem Mv(c:UInt8)(s:List UInt8):Lib.replaceAll s [c] [32,c,32]=YO c s:=by
 have a:([c]==[32,c,32])=F:=by simp
 have b:Lib.replaceNum s [c] (-1)=Lib.count s [c]:=by rw[Lib.replaceNum,if_pos (.inl (by omega))]
 rw[Lib.replaceAll,Lib.replace,a,b];exact JE c s
theorem Le(c:UInt8):∀s:List UInt8,(YO c s).length<=3*s.length
 |[]=>by simp[YO]
 |x::s=>by rw[JA];have:=Le c s;split<;>simp<;>omega
def Xb(s:List UInt8):List ByteArray:=(Mr [] s).map bw
theorem Qt(s:List UInt8):Lib.goFieldsP NM (bw (YO 41 (YO 40 s)))=Xb s:=by
 have h:=Ka (bw (YO 41 (YO 40 s))) (bw (YO 41 (YO 40 s))).size 0 C [] (Nat.zero_le _) (by omega) (by intro a h;cases h);simp only[List.map_nil,List.nil_append,JH,List.drop_zero,Cn] at h;rw[KA] at h;rw[Xb,<-h,Lib.goFieldsP,Lib.spansOfP,List.map_map];refine List.map_congr_left fun x _=>?_;show _=bw (Jt _ x)
 have e:((bw (YO 41 (YO 40 s))).extract x.1 x.2).data.toList=Jt (bw (YO 41 (YO 40 s))) x:=by rw[Lib.extract_data];rfl
 rw[<-e];rfl
theorem Rx(x:Nat)(w:Q):S I 50 #[L .i32 (x:Int)] w fun e w'=>e=J (.bool (NM x))/\w'=w:=by
 have c:((x:Int)==32)=(x==32):=by rw[Bool.eq_iff_iff];simp;omega
 have b:((x:Int)==10)=(x==10):=by rw[Bool.eq_iff_iff];simp;omega
 cases h:(x==32) with
 |true=>
  rw[h] at c;have a:Hid (NM x=true):=by show _=_;simp[NM,h]
  clear b h;go_enter Zi,ntmps50;go_wp2_with fail;go_ret;exact⟨by rw[a.out];rfl,rfl⟩
 |false=>
  rw[h] at c;have a:Hid (NM x=(x==10)):=by show _=_;simp[NM,h]
  have d:=Yx b;clear b h;go_enter Zi,ntmps50;go_wp2_with fail;go_ret;exact⟨by rw[a.out,<-d.out];rfl,rfl⟩
theorem BR:(({ data:=#[32] }++{ data:=#[40] }++{ data:=#[32] }:ByteArray))=⟨#[32,40,32]⟩:=by decide
theorem WU:(({ data:=#[32] }++{ data:=#[41] }++{ data:=#[32] }:ByteArray))=⟨#[32,41,32]⟩:=by decide
theorem Q5(c:UInt8)(s new:ByteArray)(a:new=⟨#[32,c,32]⟩)(k:s.size<=100000)(w:Q)(i:Gl w):
  S I 48 #[.string s,.string ⟨#[c]⟩,.string new] w fun e w'=>e=J (.string (bw (YO c s.data.toList)))/\U w.heap.size w w':=by
 obtain⟨m,g⟩:=i.mx;have j:=g.cell 0;have d:=Lib.countB_le ⟨#[c]⟩ (by show 1<=1;omega) s.size s (O _);have b:new.size=3:=by rw[a];rfl
 have h:=Tryz.strings_ReplaceAll s ⟨#[c]⟩ new m w (by omega) (by simpa using j) (by show 1<=1;omega) (by rw[b];omega);have e:Lib.replaceAll s.data.toList (⟨#[c]⟩:ByteArray).data.toList new.data.toList=YO c s.data.toList:=by rw[a];exact Mv c _
 rw[e] at h;exact h
theorem Cj(s:ByteArray)(hs:s.size<=1000)(w:Q)(o:Gl w):
  S I 32 #[.string s] w fun e w'=>∃A,e=J (Zc (P ⟨A,0,C⟩) (Xb s.data.toList).length (Xb s.data.toList).length)/\w.heap.size<=A/\
   w'.ownsRow w.heap.size 9 1 (Zc (P ⟨A,0,C⟩) (Xb s.data.toList).length (Xb s.data.toList).length) (Xb s.data.toList).length ((Xb s.data.toList).map Zh)/\U w.heap.size w w':=by
 have x0:=T8 (.string ⟨#[40]⟩) (.string ⟨#[41]⟩);have x1:=T7 (.string ⟨#[40]⟩) (.string ⟨#[41]⟩);go_enter func32,ntmps32;go_wp2_with fail;go_loopg [0,6] 2 (fun k v i wr=>∃j:Nat,k+j=2/\i=L N (j:Int)/\bL w wr/\((j=0/\v=.string s/\wr=w)\/(j=1/\v=.string (bw (YO 40 s.data.toList)))\/(j=2/\v=.string (bw (YO 41 (YO 40 s.data.toList))))))
 case atStart=>exact⟨0,rfl,rfl,R _ _,.inl ⟨rfl,rfl,rfl⟩⟩
 case round=>
  obtain⟨j,hj,rfl,d,⟨rfl,rfl,rfl⟩|⟨rfl,rfl⟩|⟨rfl,rfl⟩⟩:=hrel
  .have HR:Hid (S I 48 #[.string s,.string ⟨#[40]⟩,.string (⟨#[32]⟩++⟨#[40]⟩++⟨#[32]⟩)] wr fun e w'=>e=J (.string (bw (YO 40 s.data.toList)))/\bL wr w'):=Q5 40 s _ BR (by omega) wr o;clear o;go_wp2_with fail;refine HR.out.mono ?_;rintro e p ⟨rfl,a⟩;go_wp2_with fail;go_roundg 1
   case measure=>omega
   case rel=>exact⟨1,rfl,rfl,a,.inr (.inl ⟨rfl,rfl⟩)⟩
  .have hl:=Le 40 s.data.toList;have l:s.data.toList.length=s.size:=Zg;have c:(bw (YO 40 s.data.toList)).size<=3000:=by show (YO 40 s.data.toList).toArray.size<=3000;simp;omega
   have HR:Hid (S I 48 #[.string (bw (YO 40 s.data.toList)),.string ⟨#[41]⟩,.string (⟨#[32]⟩++⟨#[41]⟩++⟨#[32]⟩)] wr fun e w'=>e=J (.string (bw (YO 41 (YO 40 s.data.toList))))/\bL wr w'):=Q5 41 (bw (YO 40 s.data.toList)) _ WU (by omega) wr (o.below d);clear o hl l c;go_wp2_with fail;refine HR.out.mono ?_;rintro e p ⟨rfl,a⟩;have r:=d.trans (a.mono d.size);clear a d;go_wp2_with fail;go_roundg 0
   case measure=>omega
   case rel=>exact⟨2,rfl,rfl,r,.inr (.inr ⟨rfl,rfl⟩)⟩
  .have hl:=Le 40 s.data.toList;have u:=Le 41 (YO 40 s.data.toList);have l:s.data.toList.length=s.size:=Zg;have c:(bw (YO 41 (YO 40 s.data.toList))).size<=9000:=by show (YO 41 (YO 40 s.data.toList)).toArray.size<=9000;simp;omega
   have HF:Hid (S I 49 #[.string (bw (YO 41 (YO 40 s.data.toList))),.func (.func 50) #[] #[]] wr fun e w'=>∃A,e=J (Zc (P ⟨A,0,C⟩) (Xb s.data.toList).length (Xb s.data.toList).length)/\wr.heap.size<=A/\ w'.ownsRow wr.heap.size 9 1 (Zc (P ⟨A,0,C⟩) (Xb s.data.toList).length (Xb s.data.toList).length) (Xb s.data.toList).length ((Xb s.data.toList).map Zh)/\bL wr w'):=by have h:=Tryz.strings_FieldsFunc_grows 50 #[] (enters_of Zi (by kernel_rfl) rfl) NM (bw (YO 41 (YO 40 s.data.toList))) wr (by omega) (fun W x _ _=>(Rx x W).mono (by rintro e w' ⟨rfl,rfl⟩;exact⟨rfl,R _ _⟩));rw[Qt] at h;exact h
   clear o hl u l c;go_wp2_with fail;refine HF.out.mono ?_;rintro e p ⟨A,rfl,hA,b,a⟩;have z:Hid (w.heap.size<=A/\p.ownsRow w.heap.size 9 1 (Zc (P ⟨A,0,C⟩) (Xb s.data.toList).length (Xb s.data.toList).length) (Xb s.data.toList).length ((Xb s.data.toList).map Zh)/\bL w p):=by
    have c:=d.size;refine⟨by omega,⟨b.1,?_⟩,d.trans (a.mono d.size)⟩;rcases b.2 with hn|⟨g,y,q,hv,a0,rest⟩
    .exact .inl hn
    .exact .inr ⟨g,y,q,hv,by omega,rest⟩
   clear hA b a d HF;go_wp2_with fail;go_ret;exact⟨A,rfl,z.out.1,z.out.2.1,z.out.2.2⟩
structure Xr(w0 w:Q)(G:Gh)(w':Q)(H:Gh):Prop where
 le:G.le H
 hg:HG w0 w' H
 bel:U w.heap.size w w'
 new:∀b,H.dom b->G.dom b\/w.heap.size<=b
theorem Xr.refl(h:HG w0 w G):Xr w0 w G w G:=⟨Gh.le.refl G,h,R _ _,fun _ h=>.inl h⟩
theorem Xr.trans{w1 w2:Q}{K:Gh}(h:Xr w0 w G w1 H)(c:Xr w0 w1 H w2 K):Xr w0 w G w2 K:=by
 refine⟨h.le.trans c.le,c.hg,h.bel.trans (c.bel.mono h.bel.size),fun b a=>?_⟩;rcases c.new b a with a|a
 .exact h.new b a
 .exact .inr (Nat.le_trans h.bel.size a)
theorem HG.below(h:HG w0 w G)(hb:U w.heap.size w w'):HG w0 w' G:=h.of fun b hd i=>hb.cell (p:=⟨b,i,C⟩) (h.lt hd)
theorem Xr.below(h:HG w0 w G)(hb:U w.heap.size w w'):Xr w0 w G w' G:=⟨Gh.le.refl G,h.below hb,hb,fun _ h=>.inl h⟩
theorem MS.post{M:Nat}{s:St}(h:MS w0 w M G s)(a:Xr w0 w G w' H):MS w0 w' M H s/\Fr M w w':=by
 have e:=h.below a.bel;refine⟨e.grow a.le a.hg fun b d=>?_,Fr.below a.bel h.lt⟩;rcases a.new b d with d|d
 .exact e.far b d
 .have hM:=h.lt;refine⟨by omega,fun l=>?_⟩;obtain⟨u,hu,c⟩:=l.congr (a.bel.cell (p:=⟨M,0,C⟩) hM) (a.bel.cell (p:=⟨M,1,C⟩) hM);obtain⟨q,r,k,o,g,j,i,o1,_⟩:=h.ex;rcases c with c|c
  .rw[g] at c;cases c;have:=(i.lt b hu).2;omega
  .rw[j] at c;cases c;have:=(o1.lt b hu).2;omega
theorem Su(k n:Int)(b:Bool)(w:Q):
  S I 183 #[Z #[L N k,L N n,.bool b]] w fun e w'=>e=J (Z #[L N k,L N n,.bool (!b)])/\U w.heap.size w w':=by
 go_enter func183,ntmps183;go_wp2_with fail;refine T (v:=Z #[L N k,L N n,.bool (!b)]) (by simp[results,results183,go_sem]) rfl ⟨rfl,?_⟩;exact((R _ _).alloc (O _) _).alloc (by simp) _
theorem Ro(b:Nat)(k:Int)(w:Q):
  S I 184 #[D (P ⟨b,0,C⟩),L N k] w fun e w'=>e=J (D (P ⟨b,0,C⟩))/\w'=w:=by
 go_enter func184,ntmps184;go_wp2_with fail;go_ret;exact⟨rfl,rfl⟩
def R9(k:Int):Obj:=.cells #[.bool F,L N 0,L N 0,.bool F,L N k,L N 0,L N 0,.bool F,D C,D C,.bool F] 203
theorem Rp(k:Int)(w:Q):
  S I 184 #[D C,L N k] w fun e w'=>e=J (D (P ⟨w.heap.size,0,C⟩))/\w'=w.alloc (R9 k):=by
 go_enter func184,ntmps184;go_wp2_with fail;go_ret;exact⟨rfl,rfl⟩
theorem RC(k:Int)(b:(k==3)=F)(a:Option Ze)(m c:Nat)(w:Q):
  S I 185 #[Z #[L N k,Zc a m c]] w fun e w'=>e=J (Z #[L N k,Zc C 0 0])/\U w.heap.size w w':=by
 go_enter func185,ntmps185;go_wp2_with fail;refine T (v:=Z #[L N k,Zc C 0 0]) (by simp[results,results185,go_sem]) rfl ⟨rfl,?_⟩;exact((R _ _).alloc (O _) _).alloc (by simp) _
theorem WF(b:Nat)(k n:Int)(a:k=1\/k=2)(w:Q)(c:w.cell? ⟨b,0,C⟩=P (L N k))(d:w.cell? ⟨b,1,C⟩=P (L N n)):
  S I 74 #[D (P ⟨b,0,C⟩)] w fun e w'=>e=J (Z #[L N k,L N n,.bool F])/\U w.heap.size w w':=by
 have g:b<w.heap.size:=E _ _ c;rcases a with rfl|rfl
 all_goals
  go_enter Zd,Za
  go_wp2_with fail
  refine T (v:=Z #[L N _,L N n,.bool F]) (by simp[results,Y,go_sem]) rfl ⟨rfl,?_⟩
  exact(R _ _).alloc (O _) _
theorem WG(b:Nat)(k:Int)(d:(k==5)=F)(c:(k==1)=F)(h:(k==2)=F)(w:Q)(a:w.cell? ⟨b,0,C⟩=P (L N k)):
  S I 74 #[D (P ⟨b,0,C⟩)] w fun e w'=>e=J (Z #[L N 3,L N 0,.bool F])/\U w.heap.size w w':=by
 have g:b<w.heap.size:=E _ _ a;go_enter Zd,Za;go_wp2_with fail;refine T (v:=Z #[L N 3,L N 0,.bool F]) (by simp[results,Y,go_sem]) rfl ⟨rfl,?_⟩;exact(R _ _).alloc (O _) _
theorem Vo(b c:Nat)(k n:Int)(a:k=1\/k=2)(w:Q)(d:w.cell? ⟨b,0,C⟩=P (L N 5))(j:w.cell? ⟨b,4,C⟩=P (D (P ⟨c,0,C⟩)))(g:w.cell? ⟨c,0,C⟩=P (L N k))(i:w.cell? ⟨c,1,C⟩=P (L N n)):
  S I 74 #[D (P ⟨b,0,C⟩)] w fun e w'=>e=J (Z #[L N k,L N n,.bool F])/\U w.heap.size w w':=by
 have l:b<w.heap.size:=E _ _ d;have h:c<w.heap.size:=E _ _ g;rcases a with rfl|rfl
 all_goals
  go_enter Zd,Za
  go_wp2_with fail
  refine T (v:=Z #[L N _,L N n,.bool F]) (by simp[results,Y,go_sem]) rfl ⟨rfl,?_⟩
  exact(R _ _).alloc (O _) _
theorem Vp(b c:Nat)(k:Int)(h:(k==1)=F)(l:(k==2)=F)(w:Q)(d:w.cell? ⟨b,0,C⟩=P (L N 5))(i:w.cell? ⟨b,4,C⟩=P (D (P ⟨c,0,C⟩)))(a:w.cell? ⟨c,0,C⟩=P (L N k)):
  S I 74 #[D (P ⟨b,0,C⟩)] w fun e w'=>e=J (Z #[L N 3,L N 0,.bool F])/\U w.heap.size w w':=by
 have j:b<w.heap.size:=E _ _ d;have g:c<w.heap.size:=E _ _ a;go_enter Zd,Za;go_wp2_with fail;refine T (v:=Z #[L N 3,L N 0,.bool F]) (by simp[results,Y,go_sem]) rfl ⟨rfl,?_⟩;exact(R _ _).alloc (O _) _
theorem WH(h:HG w0 w G){p:Option Ze}{v:YK}(i:G.vp p v):
  S I 74 #[D p] w fun e w'=>e=J (Z #[L N (XM v).k,L N (XM v).n,.bool (XM v).b])/\U w.heap.size w w':=by
 obtain⟨b,rfl,j⟩:=i;obtain⟨pb,ps,x,q,pa,d,l,r,y,g,h5,z,h7,a1,k,a3,o⟩:=h.v b v j;have one:∀(u:YK),(u.k=1\/u.k=2)->(if u.k=1 then (⟨1,u.n,F⟩:Xy) else if u.k=2 then ⟨2,u.n,F⟩ else ⟨3,0,F⟩)=⟨u.k,u.n,F⟩:=fun u hu=>by rcases hu with hu|hu<;>simp[hu]
 have QD:∀(u:YK),¬(u.k=1\/u.k=2)->(if u.k=1 then (⟨1,u.n,F⟩:Xy) else if u.k=2 then ⟨2,u.n,F⟩ else ⟨3,0,F⟩)=⟨3,0,F⟩:=fun u hu=>by rw[if_neg (fun h=>hu (.inl h)),if_neg (fun h=>hu (.inr h))]
 by_cases hk5:v.k=5
 .obtain⟨u,hi,c,rfl,hc⟩:=k (.inr hk5);obtain⟨_,_,_,_,_,u0,u1,_⟩:=h.v c u hc;have a:v.core=u:=by unfold YK.core;rw[hi];rfl
  rw[hk5] at d;have e:XM v=if u.k=1 then (⟨1,u.n,F⟩:Xy) else if u.k=2 then ⟨2,u.n,F⟩ else ⟨3,0,F⟩:=by unfold XM;simp only[hk5,a,if_true]
  rw[e];by_cases hu:u.k=1\/u.k=2
  .rw[one u hu];exact Vo b c u.k u.n hu w d g u0 u1
  .rw[QD u hu];exact Vp b c u.k (by simpa using fun h=>hu (.inl h)) (by simpa using fun h=>hu (.inr h)) w d g u0
 .have e:XM v=if v.k=1 then (⟨1,v.n,F⟩:Xy) else if v.k=2 then ⟨2,v.n,F⟩ else ⟨3,0,F⟩:=by unfold XM;simp only[hk5,if_false]
  rw[e];by_cases hu:v.k=1\/v.k=2
  .rw[one v hu];exact WF b v.k v.n hu w d l
  .rw[QD v hu];exact WG b v.k (by simpa using hk5) (by simpa using fun h=>hu (.inl h)) (by simpa using fun h=>hu (.inr h)) w d
theorem AZ(h:HG w0 w G)(p:Option Ze)(e:List YK)(hp:G.sp p e)(n:Nat)(hn:n<=1000000):
  S I 149 #[D p,L N n] w fun r w'=>w'=w/\∃q,r=J (D q)/\((q=C/\e[n]?=C)\/∃v,e[n]?=P v/\G.vp q v):=by
 have H:=Un h hp;clear h hp;go_enter func149,ntmps149;go_wp2_with fail;go_loopg [0,1] n (fun k l x wr=>∃i,l=D i/\x=L N (k:Int)/\wr=w/\Hid (∃c,G.sp i c/\e[n]?=c[k]?/\k<=1000000))
 case atStart=>exact⟨p,rfl,rfl,rfl,e,H.out.2,rfl,hn⟩
 case round=>
  obtain⟨i,rfl,rfl,rfl,g⟩:=hrel;obtain⟨c,o,a,y⟩:=g.out;rcases o with⟨rfl,rfl⟩|⟨b,rfl,u⟩
  .have d:Hid (e[n]?=C):=by rw[a];rfl
   clear a g;go_wp2_with fail;go_ret;exact⟨rfl,C,rfl,.inl ⟨rfl,d.out⟩⟩
  .obtain⟨v,r,pv,ps,rfl,c0,c1,hv,hps⟩:=H.out.1.s b c u;have z:b<wr.heap.size:=E _ _ c0;match gk,a with
   |0,a=>
    have d:Hid (e[n]?=P v/\G.vp pv v):=⟨by rw[a];rfl,hv⟩
    clear a g hps hv;go_wp2_with fail;go_ret;exact⟨rfl,pv,rfl,.inr ⟨v,d.out⟩⟩
   |k+1,a=>
    have d:Hid (∃c,G.sp ps c/\e[n]?=c[k]?/\k<=1000000):=⟨r,hps,by rw[a];rfl,by omega⟩
    have j:(decide ((0:Int)<((k+1:Nat):Int)))=true:=by simp
    clear a g hps hv;go_wp2_with fail;go_roundg k
    case measure=>omega
    case rel=>exact⟨ps,rfl,by simp,rfl,d⟩
def KQ(w0 w:Q)(G:Gh)(c d:Option Ca)(e:Ending)(w':Q):Prop:=∃p H,e=J (D p)/\H.cp p (YI c d)/\Xr w0 w G w' H
theorem WL(a:Option Ze)(w:Q):S I 201 #[D C,D a] w fun e w'=>e=J (D a)/\w'=w:=by go_enter X,V;go_wp2_with fail;go_ret;exact⟨rfl,rfl⟩
theorem WK(b:Nat)(w:Q):S I 201 #[D (P ⟨b,0,C⟩),D C] w fun e w'=>e=J (D (P ⟨b,0,C⟩))/\w'=w:=by go_enter X,V;go_wp2_with fail;go_ret;exact⟨rfl,rfl⟩
theorem Vs(b c:Nat)(k:Int)(g:(k != 0)=true)(w:Q)(a:w.cell? ⟨b,5,C⟩=P (L N k)):S I 201 #[D (P ⟨b,0,C⟩),D (P ⟨c,0,C⟩)] w fun e w'=>e=J (D (P ⟨b,0,C⟩))/\w'=w:=by have d:b<w.heap.size:=E _ _ a;go_enter X,V;go_wp2_with fail;go_ret;exact⟨rfl,rfl⟩
def KN(c:Ca)(pg pa:Option Ze):Obj:=.cells #[.bool c.opens,L N c.wrong.k,L N c.wrong.n,.bool c.wrong.b,L N c.kind,L N c.ends.k,L N c.ends.n,.bool c.ends.b,D pg,D pa,.bool c.hides] 203
theorem MJ(w:Q)(c:Ca)(b a:Option Ze):Ks (w.alloc (KN c b a)) w.heap.size c b a:=by constructor<;>simp[KN,go_sem]
theorem U6{B:Nat}{a:Q}(h:U B a w)(n:Nat):U B a (w.drewN n):=h.trans ⟨rfl,rfl,rfl,O _,fun _ _=>rfl⟩
theorem XW{u:Q}{j:Nat}{v x:Value}(h:u.cell? ⟨b,j,C⟩=P x):(u.setCell ⟨b,j,C⟩ v).cell? ⟨b,j,C⟩=P v:=World.cell?_setCell_same _ _ _ h
theorem Yo{u:Q}{i j:Nat}{v:Value}(h:i≠j):(u.setCell ⟨b,j,C⟩ v).cell? ⟨b,i,C⟩=u.cell? ⟨b,i,C⟩:=World.cell?_setCell_other _ _ _ _ (by intro e;cases e;exact h rfl)
theorem Ks.setEnds(h:Ks W b c pg pa)(o:Xy):Ks (((W.setCell ⟨b,5,C⟩ (L N o.k)).setCell ⟨b,6,C⟩ (L N o.n)).setCell ⟨b,7,C⟩ (.bool o.b)) b ⟨c.opens,c.wrong,c.kind,o,c.given,c.answer,c.hides⟩ pg pa:=by
 obtain⟨w,q,k,x,l,u,d,r,g,e,a⟩:=h;have far:∀i,i≠5->i≠6->i≠7->(((W.setCell ⟨b,5,C⟩ (L N o.k)).setCell ⟨b,6,C⟩ (L N o.n)).setCell ⟨b,7,C⟩ (.bool o.b)).cell? ⟨b,i,C⟩=W.cell? ⟨b,i,C⟩:=fun i j p y=>by rw[Yo y,Yo p,Yo j]
 refine⟨(far 0 (by omega) (by omega) (by omega)).trans w,(far 1 (by omega) (by omega) (by omega)).trans q,(far 2 (by omega) (by omega) (by omega)).trans k,(far 3 (by omega) (by omega) (by omega)).trans x,(far 4 (by omega) (by omega) (by omega)).trans l,?_,?_,?_,(far 8 (by omega) (by omega) (by omega)).trans g,(far 9 (by omega) (by omega) (by omega)).trans e,(far 10 (by omega) (by omega) (by omega)).trans a⟩
 .rw[Yo (by omega),Yo (by omega)];exact XW u
 .rw[Yo (by omega)];exact XW ((Yo (by omega)).trans d)
 .exact XW ((Yo (by omega)).trans ((Yo (by omega)).trans r))
theorem Ks.setHides(h:Ks W b c pg pa)(o:Bool):Ks (W.setCell ⟨b,10,C⟩ (.bool o)) b ⟨c.opens,c.wrong,c.kind,c.ends,c.given,c.answer,o⟩ pg pa:=by obtain⟨q,k,i,r,j,p,d,l,g,e,a⟩:=h;exact⟨(Yo (by omega)).trans q,(Yo (by omega)).trans k,(Yo (by omega)).trans i,(Yo (by omega)).trans r,(Yo (by omega)).trans j,(Yo (by omega)).trans p,(Yo (by omega)).trans d,(Yo (by omega)).trans l,(Yo (by omega)).trans g,(Yo (by omega)).trans e,XW a⟩
theorem Ks.setGiven(h:Ks W b c pg pa)(p:Option Ze)(g:Option Ca):Ks (W.setCell ⟨b,8,C⟩ (D p)) b ⟨c.opens,c.wrong,c.kind,c.ends,g,c.answer,c.hides⟩ p pa:=by obtain⟨r,l,j,u,k,q,d,o,i,e,a⟩:=h;exact⟨(Yo (by omega)).trans r,(Yo (by omega)).trans l,(Yo (by omega)).trans j,(Yo (by omega)).trans u,(Yo (by omega)).trans k,(Yo (by omega)).trans q,(Yo (by omega)).trans d,(Yo (by omega)).trans o,XW i,(Yo (by omega)).trans e,(Yo (by omega)).trans a⟩
theorem Ks.setAnswer(h:Ks W b c pg pa)(p:Option Ze)(g:Option Ca):Ks (W.setCell ⟨b,9,C⟩ (D p)) b ⟨c.opens,c.wrong,c.kind,c.ends,c.given,g,c.hides⟩ pg p:=by obtain⟨r,l,j,u,k,q,d,o,i,e,a⟩:=h;exact⟨(Yo (by omega)).trans r,(Yo (by omega)).trans l,(Yo (by omega)).trans j,(Yo (by omega)).trans u,(Yo (by omega)).trans k,(Yo (by omega)).trans q,(Yo (by omega)).trans d,(Yo (by omega)).trans o,(Yo (by omega)).trans i,XW e,(Yo (by omega)).trans a⟩
theorem WM(b q:Nat)(c d:Ca)(i l a g:Option Ze)(h0:(c.ends.k != 0)=F)(hk:(d.kind != c.kind)=true)(w:Q)(h:Ks w b c i l)(hd:Ks w q d a g):
  S I 201 #[D (P ⟨b,0,C⟩),D (P ⟨q,0,C⟩)] w fun e w'=>e=J (D (P ⟨w.heap.size,0,C⟩))/\Ks w' w.heap.size ⟨c.opens,c.wrong,c.kind,d.wrong,C,C,F⟩ C C/\U w.heap.size w w':=by
 have lb:b<w.heap.size:=E _ _ h.c0;have lq:q<w.heap.size:=E _ _ hd.c0;obtain⟨c0,c1,p,y,c4,c5,c6,c7,z,c9,j⟩:=h;obtain⟨r,d1,u,x,d4,d5,d6,d7,d8,d9,o⟩:=hd;have k:Hid (∀n,Ks ((w.alloc (KN ⟨c.opens,c.wrong,c.kind,Yl,C,C,F⟩ C C)).drewN n) w.heap.size ⟨c.opens,c.wrong,c.kind,Yl,C,C,F⟩ C C):=fun n=>(MJ w ⟨c.opens,c.wrong,c.kind,Yl,C,C,F⟩ C C).of fun _=>rfl;go_enter X,V;go_wp2_with fail;go_region
 all_goals
  go_wp2_with fail
  go_quiet (fail)
  go_wp2_with fail
  go_ret
  refine⟨rfl,(k.out _).setEnds d.wrong,?_⟩
  exact(((U6 ((R _ _).alloc (O _) _) _).setCell (by simp) _).setCell (by simp) _).setCell (by simp) _
theorem QS{x:Ca}(a:G.le H)(d:HG w0 W H)(e:U w.heap.size w W)(j:∀b,H.dom b->G.dom b\/w.heap.size<=b)(hd:¬H.dom w.heap.size)(i:Ks W w.heap.size x pg pa)(g:H.cp pg x.given)(c:H.cp pa x.answer):Xr w0 w G W (H.addC w.heap.size x)/\(H.addC w.heap.size x).cp (P ⟨w.heap.size,0,C⟩) (P x):=by
 refine⟨⟨a.trans (Gh.le_addC hd),d.addC hd i g c,e,fun b h=>?_⟩,Gh.cp_addC _ _ _⟩;rcases Gh.dom_addC h with rfl|h
 .exact .inr (O _)
 .exact j b h
theorem Vt(b q:Nat)(c d:Ca)(pg pa a8 ab:Option Ze)(h0:(c.ends.k != 0)=F)(r:(d.kind != c.kind)=F)(w0 w:Q)(G:Gh)(hG:HG w0 w G)(hc:Ks w b c pg pa)(hd:Ks w q d a8 ab)
  (ak:∀W,HG w0 W G->S I 201 #[D a8,D pg] W (KQ w0 W G d.given c.given))
  (ad:∀W H,G.le H->HG w0 W H->S I 201 #[D pa,D ab] W (KQ w0 W H c.answer d.answer)) :
  S I 201 #[D (P ⟨b,0,C⟩),D (P ⟨q,0,C⟩)] w fun e w'=>∃H,e=J (D (P ⟨w.heap.size,0,C⟩))/\H.cp (P ⟨w.heap.size,0,C⟩) (P ⟨c.opens,c.wrong,c.kind,d.ends,YI d.given c.given,YI c.answer d.answer,d.hides⟩)/\Xr w0 w G w' H:=by
 have lb:b<w.heap.size:=E _ _ hc.c0;have lq:q<w.heap.size:=E _ _ hd.c0;have H1:=KS hG hc hd;have av:=Yx ak;have an:=Yx ad;obtain⟨c0,c1,c2,c3,c4,c5,c6,c7,c8,c9,au⟩:=hc;obtain⟨d0,d1,d2,d3,d4,d5,d6,d7,d8,d9,ax⟩:=hd;have HN:Hid (∀n,Ks ((w.alloc (KN ⟨c.opens,c.wrong,c.kind,Yl,C,C,F⟩ C C)).drewN n) w.heap.size ⟨c.opens,c.wrong,c.kind,Yl,C,C,F⟩ C C):=fun n=>(MJ w ⟨c.opens,c.wrong,c.kind,Yl,C,C,F⟩ C C).of fun _=>rfl;clear hG ak ad;go_enter X,V;go_wp2_with fail;go_region
 all_goals
  go_wp2_with fail
  go_quiet (fail)
  go_wp2_with fail
  go_region
  all_goals
   obtain⟨j,y⟩:∃W,W=((((((w.alloc (KN ⟨c.opens,c.wrong,c.kind,Yl,C,C,F⟩ C C)).drewN (1+nq+1)).setCell ⟨w.heap.size,5,C⟩ (L N d.ends.k)).setCell ⟨w.heap.size,6,C⟩ (L N d.ends.n)).setCell ⟨w.heap.size,7,C⟩ (.bool d.ends.b)).setCell ⟨w.heap.size,10,C⟩ (.bool d.hides)):=⟨_,rfl⟩
   have a1:bL w j:=by rw[y];exact((((U6 ((R _ _).alloc (O _) _) _).setCell (by simp) _).setCell (by simp) _).setCell (by simp) _).setCell (by simp) _
   have a9:Ks j w.heap.size ⟨c.opens,c.wrong,c.kind,d.ends,C,C,d.hides⟩ C C:=by rw[y];exact((HN.out _).setEnds d.ends).setHides d.hides
   have ai:∀o,j.frozen? ⟨w.heap.size,o,C⟩=F:=by intro o;rw[y];simp[KN,go_sem]
   have z:w.heap.size<j.heap.size:=E _ _ a9.c0
   unfold KN Yl at y
   rw[<-y]
   have g:Hid (HG w0 j.drew G/\Ks j.drew w.heap.size ⟨c.opens,c.wrong,c.kind,d.ends,C,C,d.hides⟩ C C/\(∀o,j.drew.frozen? ⟨w.heap.size,o,C⟩=F)/\bL w j.drew/\Ks j b c pg pa/\Ks j q d a8 ab):=⟨H1.out.1.below a1.drew,a9.of (fun _=>rfl),ai,a1.drew,H1.out.2.1.of fun i=>a1.cell (p:=⟨b,i,C⟩) lb,H1.out.2.2.of fun i=>a1.cell (p:=⟨q,i,C⟩) lq⟩
   have x8:=g.out.2.2.2.2.1.c8
   have y8:=g.out.2.2.2.2.2.c8
   have ao:b<j.heap.size:=by omega
   have ar:q<j.heap.size:=by omega
   clear y a1 a9 ai c0 c1 c2 c3 c4 c5 c6 c7 c8 c9 au d0 d1 d2 d3 d4 d5 d6 d7 d8 d9 ax HN
   go_wp2_with fail
   go_region_with (go_at_call 201;refine(av.out _ g.out.1).mono ?_;rintro e w4 ⟨p1,H4,rfl,a3,a⟩;have z8:cL w4 w.heap.size 8 (D C):=(a.bel.cell (p:=⟨w.heap.size,8,C⟩) z).trans g.out.2.1.c8;have zf:w4.frozen? ⟨w.heap.size,8,C⟩=F:=(a.bel.frozen (p:=⟨w.heap.size,8,C⟩) z).trans (g.out.2.2.1 8))
   all_goals
    have a7:¬H4.dom w.heap.size:=fun hd=>by
     rcases a.new _ hd with hd|hd
     .have:=H1.out.1.lt hd;omega
     .have:j.drew.heap.size=j.heap.size:=rfl;omega
    have aq:w.heap.size<w4.heap.size:=E _ _ z8
    obtain⟨l,u⟩:∃W,W=w4.setCell ⟨w.heap.size,8,C⟩ (D p1):=⟨_,rfl⟩
    have al:=g.out.2.2.2.1.trans (a.bel.mono g.out.2.2.2.1.size)
    have a2:bL w l:=by rw[u];exact al.setCell (O _) _
    have ae:Ks w4 w.heap.size ⟨c.opens,c.wrong,c.kind,d.ends,C,C,d.hides⟩ C C:=g.out.2.1.of fun i=>a.bel.cell (p:=⟨w.heap.size,i,C⟩) z
    have a4:Ks l w.heap.size ⟨c.opens,c.wrong,c.kind,d.ends,YI d.given c.given,C,d.hides⟩ p1 C:=by rw[u];exact ae.setGiven p1 _
    have aj:∀o,l.frozen? ⟨w.heap.size,o,C⟩=F:=by intro o;rw[u];have:=(a.bel.frozen (p:=⟨w.heap.size,o,C⟩) z).trans (g.out.2.2.1 o);simpa using this
    have am:HG w0 l H4:=by rw[u];exact a.hg.of fun k r i=>Zb _ _ _ _ (by intro e;simp only at e;exact a7 (e▸r))
    have aa:w.heap.size<l.heap.size:=E _ _ a4.c0
    rw[<-u]
    have ah:∀k,H4.dom k->G.dom k\/w.heap.size<=k:=fun k r=>by
     rcases a.new k r with r|r
     .exact .inl r
     .have:j.drew.heap.size=j.heap.size:=rfl;exact .inr (by omega)
    have a0:Hid (HG w0 l.drew H4/\Ks l.drew w.heap.size ⟨c.opens,c.wrong,c.kind,d.ends,YI d.given c.given,C,d.hides⟩ p1 C/\(∀o,l.drew.frozen? ⟨w.heap.size,o,C⟩=F)/\bL w l.drew/\H4.cp p1 (YI d.given c.given)/\G.le H4/\(∀k,H4.dom k->G.dom k\/w.heap.size<=k)/\¬H4.dom w.heap.size):=⟨am.below ((R _ _).drew),a4.of (fun _=>rfl),aj,a2.drew,a3,a.le,ah,a7⟩
    have x9:=(H1.out.2.1.of fun i=>a2.cell (p:=⟨b,i,C⟩) lb).c9
    have y9:=(H1.out.2.2.of fun i=>a2.cell (p:=⟨q,i,C⟩) lq).c9
    have az:b<l.heap.size:=by omega
    have ay:q<l.heap.size:=by omega
    clear u a2 a4 aj am a7 aq al ae a a3 z8 zf x8 y8 ao ar g z ah
    go_wp2_with fail
    go_region_with (go_at_call 201;refine(an.out _ _ a0.out.2.2.2.2.2.1 a0.out.1).mono ?_;rintro e w6 ⟨p2,H6,rfl,ac,h⟩;have z9:cL w6 w.heap.size 9 (D C):=(h.bel.cell (p:=⟨w.heap.size,9,C⟩) aa).trans a0.out.2.1.c9;have zf:w6.frozen? ⟨w.heap.size,9,C⟩=F:=(h.bel.frozen (p:=⟨w.heap.size,9,C⟩) aa).trans (a0.out.2.2.1 9))
    all_goals
     go_wp2_with fail
     go_ret
     obtain⟨g5,a5,f5,b5,aw,ap,n4,d4⟩:=a0.out
     have af:¬H6.dom w.heap.size:=fun hd=>by
      rcases h.new _ hd with hd|hd
      .exact d4 hd
      .have:l.drew.heap.size=l.heap.size:=rfl;omega
     have a6:Ks w6 w.heap.size ⟨c.opens,c.wrong,c.kind,d.ends,YI d.given c.given,C,d.hides⟩ p1 C:=a5.of fun i=>h.bel.cell (p:=⟨w.heap.size,i,C⟩) aa
     have b6:=b5.trans (h.bel.mono b5.size)
     have g7:HG w0 (w6.setCell ⟨w.heap.size,9,C⟩ (D p2)) H6:=h.hg.of fun k r i=>Zb _ _ _ _ (by intro e;simp only at e;exact af (e▸r))
     obtain⟨r1,r2⟩:=QS (x:=⟨c.opens,c.wrong,c.kind,d.ends,YI d.given c.given,YI c.answer d.answer,d.hides⟩) (ap.trans h.le) g7 (b6.setCell (O _) _) (fun k r=>by
      rcases h.new k r with r|r
      .exact n4 k r
      .have:l.drew.heap.size=l.heap.size:=rfl;exact .inr (by omega)) af (a6.setAnswer p2 _) (aw.le h.le) ac
     exact⟨_,rfl,r2,r1⟩
theorem N1(w0:Q):∀(n:Nat)(c d:Option Ca)(pc pd:Option Ze)(w:Q)(G:Gh),SizeOf.sizeOf c+SizeOf.sizeOf d<=n->HG w0 w G->G.cp pc c->G.cp pd d->S I 201 #[D pc,D pd] w (KQ w0 w G c d)
 |0,c,d,_,_,_,_,h,_,_,_=>by cases c<;>simp at h
 |n+1,c,d,pc,pd,w,G,hn,hG,hc,hd=>by
  rcases hc with⟨rfl,rfl⟩|⟨b,x,rfl,rfl,hb⟩
  .refine(WL pd w).mono ?_;rintro e w' ⟨rfl,rfl⟩;exact⟨pd,G,rfl,by rw[Xs];exact hd,Xr.refl hG⟩
  rcases hd with⟨rfl,rfl⟩|⟨q,y,rfl,rfl,hq⟩
  .refine(WK b w).mono ?_;rintro e w' ⟨rfl,rfl⟩;exact⟨_,G,rfl,by rw[XB];exact .inr ⟨b,x,rfl,rfl,hb⟩,Xr.refl hG⟩
  obtain⟨pg,pa,hx,xg,xa⟩:=hG.c b x hb;obtain⟨pg',pa',hy,yg,ya⟩:=hG.c q y hq;by_cases h0:x.ends.k=0
  .have h0':(x.ends.k != 0)=F:=by simpa using h0
   have a:¬G.dom w.heap.size:=fun h=>by have:=hG.lt h;omega
   by_cases g:y.kind=x.kind
   .have hsz:SizeOf.sizeOf y.given+SizeOf.sizeOf x.given<=n/\SizeOf.sizeOf x.answer+SizeOf.sizeOf y.answer<=n:=by
     cases x;cases y
     simp at hn ⊢;omega
    refine(Vt b q x y pg pa pg' pa' h0' (by simpa using g) w0 w G hG hx hy (fun W j=>N1 w0 n _ _ _ _ W G hsz.1 j yg xg) (fun W H o j=>N1 w0 n _ _ _ _ W H hsz.2 j (xa.le o) (ya.le o))).mono ?_;rintro e w' ⟨H,rfl,l,i⟩;exact⟨_,H,rfl,by rw[Jg,if_pos h0,if_pos g];exact l,i⟩
   .refine(WM b q x y pg pa pg' pa' h0' (by simpa using g) w hx hy).mono ?_;rintro e w' ⟨rfl,l,i⟩;obtain⟨r,p⟩:=QS (w0:=w0) (Gh.le.refl G) (hG.below i) i (fun k g=>.inl g) a l (Gh.cp_none _) (Gh.cp_none _);exact⟨_,_,rfl,by rw[Jg,if_pos h0,if_neg g];exact p,r⟩
  .refine(Vs b q x.ends.k (by simpa using h0) w hx.c5).mono ?_;rintro e w' ⟨rfl,rfl⟩;exact⟨_,G,rfl,by rw[Jg,if_neg h0];exact .inr ⟨b,x,rfl,rfl,hb⟩,Xr.refl hG⟩
theorem QT(hG:HG w0 w G){c d:Option Ca}{pc pd:Option Ze}(hc:G.cp pc c)(hd:G.cp pd d):S I 201 #[D pc,D pd] w (KQ w0 w G c d):=N1 w0 _ c d pc pd w G (O _) hG hc hd
end Go.Proofs.YtnddkmccagiclabGreatDoor
