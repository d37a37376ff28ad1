import Derived.Test.YtnddkmccagiclabGreatDoorZya
import Derived.Lib.SpaceUEq
import Derived.Lib.FieldsP
import Derived.Lib.Replace
import Derived.Lib.MapLaws
import Derived.Lib.AtoiTie
import Derived.Lib.ItoaNum
import Derived.Lib.ItoaLen
import Derived.Deep.QuietTactic
import Derived.Shelf.Strings.Builder1
import Derived.Shelf.Strings.Builder2
import Derived.Shelf.Small.Utf8
import Derived.Shelf.Small.Strs
import Derived.Shelf.Small.Wraps
import Derived.Shelf.Utf8.RuneCount
import Derived.Shelf.Strconv.Atoi
import Derived.Shelf.Strconv.Itoa0
import Derived.Shelf.Strconv.Itoa1
import Derived.Shelf.LaysM
import Derived.Shelf.Strconv.Itoa2
import Derived.Shelf.Strconv.AtoiErrFast
import Derived.Shelf.Strconv.ParseIntEmpty
import Derived.Shelf.Strconv.AtoiFail
import Derived.Shelf.Strconv.Clone
import Derived.Shelf.Strconv.SyntaxError
import Derived.Shelf.LaysC
import Derived.Shelf.Strconv.ToError
import Derived.Shelf.Strconv.Lower
import Derived.Shelf.Strconv.ParseUint10
import Derived.Shelf.Strconv.ParseUint10Empty
import Derived.Shelf.Strconv.ParseUint10Any
import Derived.Shelf.Strconv.ParseInt10
import Derived.Shelf.Strconv.AtoiLong
import Derived.Shelf.Strconv.AtoiInnerAll
import Derived.Shelf.Strconv.RangeError
import Derived.Shelf.Strconv.ToErrorRange
import Derived.Shelf.Strconv.AtoiAll
import Derived.Shelf.Strconv.ErrVarAll
import Derived.Shelf.Strings.Search1
import Derived.Shelf.Strings.Search2
import Derived.Shelf.Strings.Search3
import Derived.Shelf.Strings.Count
import Derived.Shelf.Strings.Shaped
import Derived.Shelf.Strings.Prefix
import Derived.Shelf.Strings.Split
import Derived.Shelf.Strings.Fields
import Derived.Shelf.Strings.Replace
import Derived.Shelf.Strings.SplitShaped
import Derived.Shelf.Unicode.Latin
import Derived.Shelf.Unicode.Decode
import Derived.Shelf.Strings.Runes
import Derived.Shelf.Strings.RuneCount
import Derived.Shelf.Strings.IndexAny
import Derived.Shelf.Strings.AsciiSet
import Derived.Shelf.Strings.IndexAnyAll
import Derived.Shelf.Unicode.DecodeSlow
import Derived.Shelf.Unicode.DecodeAny
import Derived.Shelf.Unicode.Is16White
import Derived.Shelf.Unicode.IsSpaceAny
import Derived.Shelf.Unicode.DecodeLast
import Derived.Shelf.Strings.FieldsFuncAny
import Derived.Shelf.Unicode.Is16Any
import Derived.Shelf.Unicode.Is32Any
import Derived.Shelf.Unicode.ExclAny
import Derived.Shelf.Strings.FieldsFuncGrows
import Derived.Test.YtnddkmccagiclabGreatDoorProg
set_option maxRecDepth 20000
set_option maxHeartbeats 16000000
open Go.RowKit Go.Proofs.Tryz
open Option renaming none→C,some→L,map_eq_some_iff→V,bind_eq_some_iff→Zx,bind_some→ZS,map_eq_none_iff→ZZ
open Go.Proofs.Tryz renaming prog→E,underlying3→Zj,underlying4→Zl,underlying180→Zp,zeroValue4→Zr,zeroValue3→Zs,zeroValue9→Zt,sizeOf4→Zy,sizeOf3→Zz,underlying21→ZA,zeroValue5→ZB,sizeOf9→ZC,isAgg4→ZD,zeroValue21→ZE,isAgg3→ZF,underlying0→ZG,underlying218→ZH,zeroValue0→ZI,zeroValue218→ZJ,isAgg9→ZK,sizeOf5→ZO,sizeOf21→ZP,results84→ZQ,sizeOf218→ZR,isAgg5→ZT,isAgg21→ZV,sizeOf0→ZW,underlying219→ZX,isAgg218→Z0,isAgg0→Z1,zeroValue219→Z2,ntmps81→Z3,ntmps46→Z4,func81→Z9,func46→Ya,sizeOf219→Yf,underlying20→Yg,zeroValue174→Yh
open Go.Value renaming int→F,slice→I,pointer→Za,agg→Zk,tuple→Zo
open Go.IntKind renaming i64→G
open Go.Ending renaming returned→M
open Go.World renaming cell?_setCell_other→S,cell?_setCell_same→Zc,block_lt_of_cell?→Zg,cell?_of_block→Zn,frozen?_of_block→Zq,frozen?_setCell→ZN
open Nat renaming le_refl→T,zero_add→Zu
open Go renaming World→U,Calls→Z,bodyPost_ret→Ze,run_underlying→Zi,Value→Zm,cell_later→Z8
open Bool renaming false→Y,true→Zf,or_eq_false_iff→Z5
open Go.RowKit.Below renaming refl→Zb
open Go.Instr renaming index→Zd
open Go.RowKit renaming Hid→Zh,Below→Zw
open Go.Obj renaming cells→Zv
open Array renaming length_toList→ZL
open List renaming getElem_mem→ZM,suffix_cons→ZU,nil_append→ZY,cons_append→Z6,length_cons→Z7,length_nil→Yb,length_append→Yc,getElem?_cons_zero→Yd,getElem?_cons_succ→Ye
namespace Go.Proofs.YtnddkmccagiclabGreatDoor
variable {a:Option Addr}{b b' b1:Bool}{w w' w2 w3:U}{B J R base c j k o room:Nat}{P:Nat->Prop}{ws ws' ws1:List ByteArray}{u:Zm}{ar:Int}
def MV(c:UInt8):Bool:=c==32 || c==10
def O6(r:Nat):Bool:=r==32 || r==10
def Uj(cur:List UInt8):List (List UInt8):=if cur=[] then [] else [cur]
def Ji(cur:List UInt8):List UInt8->List (List UInt8)
 |[]=>Uj cur
 |c::r=>if MV c=Zf then Uj cur++Ji [] r else Ji (cur++[c]) r
theorem OC:∀(k:Nat)(cur l:List UInt8),k<=l.length->(∀j,j<k->MV (l.getD j 0)=Y)->Ji cur l=Ji (cur++l.take k) (l.drop k)
 |0,cur,l,_,_=>by simp
 |k+1,cur,[],h,_=>by simp at h
 |k+1,cur,b::t,h,hz=>by have h0:=hz 0 (by omega);simp only[List.getD_cons_zero] at h0;rw[Ji,if_neg (by simp[h0])];rw[OC k (cur++[b]) t (by simpa using h) (fun j hj=>by have:=hz (j+1) (by omega);simpa using this)];simp
def Ka(s:ByteArray)(st:Option Nat)(pos:Nat):List UInt8:=
 match st with
 |none=>[]
 |some a=>(s.data.toList.drop a).take (pos-a)
theorem T4(s:ByteArray)(a b:Nat)(h:a<b)(d:b<=s.size):Ka s (L a) b≠[]:=by
 intro e;have:(Ka s (L a) b).length=0:=by rw[e];rfl
 have c:s.data.toList.length=s.size:=ZL;simp only[Ka,List.length_take,List.length_drop,c] at this;omega
theorem O7(c:UInt8)(h:128<=c.toNat):MV c=Y:=by
 simp only[MV,Z5,beq_eq_false_iff_ne];constructor
 .rintro rfl;simp at h
 .rintro rfl;simp at h
theorem W7(c:UInt8):O6 c.toNat=MV c:=by
 have e:∀n:UInt8,(c.toNat==n.toNat)=(c==n):=by intro n;rw[Bool.eq_iff_iff,beq_iff_eq,beq_iff_eq];exact UInt8.toNat_inj
 have b:=e 32;have a:=e 10;simp only[O6,MV,<-b,<-a];rfl
theorem DO(s:ByteArray)(st:Option Nat)(pos k:Nat)(hst:∀a,st=L a->a<pos):
  Ka s st pos++(s.data.toList.drop pos).take k=Ka s (L (st.getD pos)) (pos+k):=by
 cases st with
 |none=>simp only[Ka,Option.getD_none,ZY];rw[show pos+k-pos=k by omega]
 |some a=>have:=hst a rfl;simp only[Ka,Option.getD_some];rw[show pos+k-a=(pos-a)+k by omega,List.take_add,List.drop_drop,show a+(pos-a)=pos by omega]
def JR(s:ByteArray)(x:Nat×Nat):List UInt8:=(s.data.toList.drop x.1).take (x.2-x.1)
theorem QZ(s:ByteArray)(f pos:Nat)(st:Option Nat)(acc:List (Nat×Nat))(hp:pos<=s.size)(hlt:¬pos<s.size)(hst:∀a,st=L a->a<pos):
  (Lib.closeSpans s (Lib.spansFromP O6 s f pos st acc)).map (JR s)=acc.map (JR s)++Ji (Ka s st pos) (s.data.toList.drop pos):=by
 have b:s.data.toList.length=s.size:=ZL;have e:pos=s.size:=by omega
 rw[Lib.spansFromP_end O6 s f pos st acc hlt];rw[List.drop_eq_nil_of_le (by rw[b];omega),Ji];cases st with
 |none=>simp[Lib.closeSpans,Ka,Uj]
 |some a=>rw[Uj,if_neg (T4 s a pos (hst a rfl) hp)];simp[Lib.closeSpans,Ka,JR,e]
theorem KN(s:ByteArray):∀(f pos:Nat)(st:Option Nat)(acc:List (Nat×Nat)),pos<=s.size->s.size<=pos+f->(∀a,st=L a->a<pos)->
  (Lib.closeSpans s (Lib.spansFromP O6 s f pos st acc)).map (JR s)=acc.map (JR s)++Ji (Ka s st pos) (s.data.toList.drop pos)
 |0,pos,st,acc,hp,hf,hst=>QZ s 0 pos st acc hp (by omega) hst
 |f+1,pos,st,acc,hp,hf,hst=>by
  have hl:s.data.toList.length=s.size:=ZL;by_cases hlt:pos<s.size
  .have hd:=Lib.decode_N s pos;generalize hR:Utf8.decode s pos=D at hd;have hyes:O6 D.1=Zf->Lib.spansFromP O6 s (f+1) pos st acc=Lib.spansFromP O6 s f (pos+D.2) C (acc++(st.map fun a=>(a,pos)).toList):=by intro h;cases st<;>simp[Lib.spansFromP,hlt,hR,h]
   have w:O6 D.1=Y->Lib.spansFromP O6 s (f+1) pos st acc=Lib.spansFromP O6 s f (pos+D.2) (L (st.getD pos)) acc:=by intro h;cases st<;>simp[Lib.spansFromP,hlt,hR,h]
   have hg:s.data.toList.drop pos=s.data.toList.getD pos 0::s.data.toList.drop (pos+1):=by rw[List.drop_eq_getElem_cons (by rw[hl];exact hlt)];simp[List.getD_eq_getElem?_getD,hl,hlt]
   have u:∀j,(s.data.toList.drop pos).getD j 0=s.data.toList.getD (pos+j) 0:=by intro j;simp[List.getD_eq_getElem?_getD,List.getElem?_drop]
   have e:=Lib.decodeN_conts (s.data.toList.length-pos) (s.data.toList.getD pos 0).toNat (s.data.toList.getD (pos+1) 0).toNat (s.data.toList.getD (pos+2) 0).toNat (s.data.toList.getD (pos+3) 0).toNat;have m:=Lib.decodeN_ge1 (s.data.toList.length-pos) (s.data.toList.getD pos 0).toNat (s.data.toList.getD (pos+1) 0).toNat (s.data.toList.getD (pos+2) 0).toNat (s.data.toList.getD (pos+3) 0).toNat;have o:=Lib.decodeN_shape (s.data.toList.length-pos) (s.data.toList.getD pos 0).toNat (s.data.toList.getD (pos+1) 0).toNat (s.data.toList.getD (pos+2) 0).toNat (s.data.toList.getD (pos+3) 0).toNat;rw[<-hd] at e m o;have p:∀k,D.2=k->O6 D.1=Y->pos+k<=s.size->(∀j,j<k->MV (s.data.toList.getD (pos+j) 0)=Y)->1<=k-> (Lib.closeSpans s (Lib.spansFromP O6 s (f+1) pos st acc)).map (JR s)=acc.map (JR s)++Ji (Ka s st pos) (s.data.toList.drop pos):=by
    intro k hk l x hz h1;rw[w l,hk];have ih:=KN s f (pos+k) (L (st.getD pos)) acc x (by omega) (by
     intro a r;cases st with
     |none=>simp at r;omega
     |some b=>have:=hst b rfl;simp at r;omega)
    rw[OC k (Ka s st pos) (s.data.toList.drop pos) (by simp[hl];omega) (fun j d=>by rw[u];exact hz j d),DO s st pos k hst,List.drop_drop,<-ih]
   rcases o with⟨g,c⟩|⟨g,z,q,i,c⟩|⟨g,z,q,i,y,_,c⟩|⟨g,z,q,i,y,a0,_,c⟩|c
   .by_cases l:MV (s.data.toList.getD pos 0)=Zf
    .have hr:O6 D.1=Zf:=by rw[c];exact(W7 _).trans l
     rw[hyes hr,c];rw[hg,Ji,if_pos l];cases st with
     |none=>rw[KN s f (pos+1) C _ (by omega) (by omega) (by intro a h;cases h)];simp[Ka,Uj]
     |some a=>have r:=hst a rfl;rw[KN s f (pos+1) C _ (by omega) (by omega) (by intro a h;cases h)];rw[Uj,if_neg (T4 s a pos r hp)];simp[Ka,JR]
    .have hs':MV (s.data.toList.getD pos 0)=Y:=by simpa using l
     exact p 1 (by rw[c]) (by rw[c];exact(W7 _).trans hs') (by omega) (fun j d=>by rw[show j=0 by omega];exact hs') (by omega)
   .refine p 2 (by rw[c]) ?_ (by omega) (fun j d=>?_) (by omega)
    .rw[c];simp only[O6,Z5,beq_eq_false_iff_ne];omega
    .refine O7 _ ?_;obtain rfl|rfl:j=0\/j=1:=by omega
     .show 128<=(s.data.toList.getD pos 0).toNat;omega
     .omega
   .refine p 3 (by rw[c]) ?_ (by omega) (fun j d=>?_) (by omega)
    .rw[c];simp only[O6,Z5,beq_eq_false_iff_ne];omega
    .refine O7 _ ?_;obtain rfl|rfl|rfl:j=0\/j=1\/j=2:=by omega
     .show 128<=(s.data.toList.getD pos 0).toNat;omega
     .omega
     .omega
   .refine p 4 (by rw[c]) ?_ (by omega) (fun j d=>?_) (by omega)
    .rw[c];simp only[O6,Z5,beq_eq_false_iff_ne];omega
    .refine O7 _ ?_;obtain rfl|rfl|rfl|rfl:j=0\/j=1\/j=2\/j=3:=by omega
     .show 128<=(s.data.toList.getD pos 0).toNat;omega
     .omega
     .omega
     .omega
   .by_cases g:(s.data.toList.getD pos 0).toNat<128
    .have e2:=Lib.decodeN_ascii (s.data.toList.length-pos) _ (s.data.toList.getD (pos+1) 0).toNat (s.data.toList.getD (pos+2) 0).toNat (s.data.toList.getD (pos+3) 0).toNat g;rw[<-hd,c] at e2;have:=congrArg Prod.fst e2;simp only at this;omega
    .refine p 1 (by rw[c]) (by rw[c];rfl) (by omega) (fun j d=>?_) (by omega);rw[show j=0 by omega];exact O7 _ (by show 128<=(s.data.toList.getD pos 0).toNat;omega)
  .exact QZ s (f+1) pos st acc hp hlt hst
def XV(k:Int):Bool:=k==7 || k==9
def YY(x:ByteArray):List ByteArray->Nat->Option Nat
 |[],_=>C
 |y::r,i=>if y=x then L i else YY x r (i+1)
def XH:List ByteArray:=[⟨#[110,111]⟩,⟨#[121,101,115]⟩]
def Jy:List ByteArray:=[⟨#[97,110,121]⟩,⟨#[110,117,109]⟩,⟨#[116,114,117,116,104]⟩]
def UZ:List ByteArray:=[⟨#[97,100,100]⟩,⟨#[108,101,115,115]⟩,⟨#[105,102]⟩,⟨#[102,117,110]⟩,⟨#[99,97,108,108]⟩,⟨#[97,115]⟩]
def X2(x:ByteArray):Option Nat:=YY x UZ 4
def Ui(d:ByteArray):Option Int:=
 match Lib.atoiAll d.data.toList with
 |.ok v=>if (⟨(Lib.itoa v).toArray⟩:ByteArray)=d then L v else C
 |_=>C
def M0:ByteArray:=⟨#[40]⟩
def QK:ByteArray:=⟨#[41]⟩
def EZ:ByteArray:=⟨#[116,111]⟩
def behind(x:ByteArray):List ByteArray->Option (List ByteArray)
 |y::r=>if y=x then L r else C
 |[]=>C
def YR:Nat->List ByteArray->Option (Ty×List ByteArray)
 |0,_=>C
 |_+1,[]=>C
 |n+1,x::r=>
  if x=M0 then
   (behind EZ r).bind fun r1=>(YR n r1).bind fun p=>(YR n p.2).bind fun q=>(behind QK q.2).map fun r4=>(⟨3,[p.1,q.1]⟩,r4)
  else (YY x Jy 0).map fun (k:Nat)=>(Ty.mk (k:Int) [],r)
structure Tm where
 k:Int
 n:Int
 t:Ty
 f:Ty
 l:List Tm
theorem Tm.ind{P:Tm->Prop}(h:∀k n t f l,(∀x,x∈l->P x)->P ⟨k,n,t,f,l⟩):∀t,P t
 |⟨k,n,t,f,l⟩=>h k n t f l fun x _=>Tm.ind h x
def Yk:Ty:=⟨0,[]⟩
def Yu(k:Int):Nat:=if k=4\/k=5\/k=8 then 2 else if k=6 then 3 else if k=7\/k=9 then 1 else 0
def Uh(f:List ByteArray->Option (Tm×List ByteArray)):Nat->List ByteArray->Option (List Tm×List ByteArray)
 |0,ws=>L ([],ws)
 |m+1,ws=>(f ws).bind fun p=>(Uh f m p.2).map fun q=>(p.1::q.1,q.2)
def YQ(x:ByteArray)(r:List ByteArray):Option (Tm×List ByteArray):=
 match YY x XH 0 with
 |some b=>L (⟨3,(b:Int),Yk,Yk,[]⟩,r)
 |none=>
  match x.data.toList with
  |35::d=>(Ui ⟨d.toArray⟩).map fun n=>(⟨1,n,Yk,Yk,[]⟩,r)
  |_=>(Ui x).map fun n=>(⟨2,n,Yk,Yk,[]⟩,r)
def UK(n:Nat)(k:Nat)(ws:List ByteArray):Option (Ty×List ByteArray):=if XV (k:Int)=Zf then YR n ws else L (Yk,ws)
def YO:Nat->List ByteArray->Option (Tm×List ByteArray)
 |0,_=>C
 |_+1,[]=>C
 |n+1,x::r=>
  if x=M0 then
   match r with
   |[]=>C
   |y::r1=>(X2 y).bind fun k=>(UK n k r1).bind fun p=>(Uh (YO n) (Yu (k:Int)) p.2).bind fun q=>(behind QK q.2).map fun r4=>(⟨(k:Int),0,p.1,Yk,q.1⟩,r4)
  else YQ x r
def XQ(t:Ty):Bool:=YD YA t Yk
def Xx(ar ins k n:Int):Bool:=if k=1 then decide (0<=n)&&decide (n-ins<ar) else if k=2 then decide (-1000000<=n)&&decide (n<=1000000) else if k=3 then n==0 || n==1 else n==0
def UL(k:Int)(t f:Ty):Bool:=XQ f&&(if XV k=Zf then Ym 4 t else XQ t)
def U3(ar ins:Int)(x:Tm):Bool:=(decide (1<=x.k)&&decide (x.k<=9)&&(x.l.length==Yu x.k))&&(UL x.k x.t x.f&&Xx ar ins x.k x.n)
def Ul{α:Type}(f:α->Nat->Option Nat):List α->Nat->Option Nat
 |[],r=>L r
 |x::xs,r=>(f x r).bind fun r'=>Ul f xs r'
def Xu(k ins:Int):Int:=if k=7 then ins+1 else ins
def XM(ar:Int):Nat->Int->Tm->Nat->Option Nat
 |0,_,_,_=>C
 |_+1,_,_,0=>C
 |n+1,ins,x,r+1=>if U3 ar ins x=Zf then Ul (fun y r'=>XM ar n (Xu x.k ins) y r') x.l r else C
def bw(w:List UInt8):ByteArray:=⟨w.toArray⟩
theorem NU(w:List UInt8):(bw w).data.toList=w:=rfl
theorem No{a b:List UInt8}(h:bw a=bw b):a=b:=by have:=congrArg (fun x:ByteArray=>x.data.toList) h;simpa[NU] using this
theorem E6(x:ByteArray):bw x.data.toList=x:=rfl
def UM(k:Int):List UInt8:=if k=4 then [97,100,100] else if k=5 then [108,101,115,115] else if k=6 then [105,102] else if k=7 then [102,117,110] else if k=8 then [99,97,108,108] else [97,115]
def Sm(c:UInt8):Bool:=c==40 || c==41
def XF(cur:List UInt8):List UInt8->List (List UInt8)
 |[]=>Uj cur
 |c::r=>if MV c=Zf then Uj cur++XF [] r else if Sm c=Zf then Uj cur++[[c]]++XF [] r else XF (cur++[c]) r
def YP(c:UInt8)(s:List UInt8):List UInt8:=s.flatMap fun x=>if x=c then [32,c,32] else [x]
theorem J3(c x:UInt8)(s:List UInt8):YP c (x::s)=(if x=c then [32,c,32] else [x])++YP c s:=rfl
theorem M4(c:UInt8)(a b:List UInt8):YP c (a++b)=YP c a++YP c b:=by simp[YP]
theorem Li:∀(s cur:List UInt8),Ji cur (YP 41 (YP 40 s))=XF cur s
 |[],cur=>rfl
 |c::r,cur=>by
  by_cases h40:c=40
  .subst h40;rw[J3,if_pos rfl,M4];have e:YP 41 [32,40,32]=[32,40,32]:=rfl;have e1:MV 32=Zf:=rfl;have e2:MV 40=Y:=rfl;have e3:Sm 40=Zf:=rfl;rw[e];simp only[Z6,ZY,Ji,XF,e1,e2,e3,if_true];simp[Uj,Li r []]
  .rw[J3,if_neg h40,M4];by_cases h41:c=41
   .subst h41;have e:YP 41 [41]=[32,41,32]:=rfl;have e1:MV 32=Zf:=rfl;have e2:MV 41=Y:=rfl;have e3:Sm 41=Zf:=rfl;rw[e];simp only[Z6,ZY,Ji,XF,e1,e2,e3,if_true];simp[Uj,Li r []]
   .have e:YP 41 [c]=[c]:=by simp[YP,h41]
    have a:Sm c=Y:=by simp[Sm,h40,h41]
    rw[e];simp only[Z6,ZY,Ji,XF,a];cases MV c
    .simp[Li r (cur++[c])]
    .simp[Li r []]
def UI(w:List UInt8):Prop:=w≠[]/\∀c∈w,MV c=Y/\Sm c=Y
def DM(r:List UInt8):Prop:=r=[]\/∃c s,r=c::s/\(MV c=Zf\/Sm c=Zf)
theorem WW:∀(w cur r:List UInt8),(∀c∈w,MV c=Y/\Sm c=Y)->XF cur (w++r)=XF (cur++w) r
 |[],cur,r,_=>by simp
 |c::w,cur,r,h=>by have hc:=h c (by simp);rw[Z6,XF,if_neg (by simp[hc.1]),if_neg (by simp[hc.2]),WW w (cur++[c]) r (fun d hd=>h d (by simp[hd]))];simp
theorem AG(a r:List UInt8)(h:DM r):XF a r=Uj a++XF [] r:=by
 rcases h with rfl|⟨c,s,rfl,h⟩
 .simp[XF,Uj]
 .by_cases hs:MV c=Zf
  .rw[XF,if_pos hs,XF,if_pos hs];simp[Uj]
  .have hb:Sm c=Zf:=by
    rcases h with h|h
    .exact absurd h hs
    .exact h
   rw[XF,if_neg hs,if_pos hb,XF,if_neg hs,if_pos hb];simp[Uj]
theorem AF(w r:List UInt8)(a:UI w)(h:DM r):XF [] (w++r)=w::XF [] r:=by rw[WW w [] r a.2,ZY,AG w r h,Uj,if_neg a.1];rfl
theorem Ce(r:List UInt8):XF [] (40::r)=[40]::XF [] r:=by have b:MV 40=Y:=rfl;have a:Sm 40=Zf:=rfl;rw[XF,if_neg (by simp[b]),if_pos a];simp[Uj]
theorem AH(r:List UInt8):XF [] (41::r)=[41]::XF [] r:=by have b:MV 41=Y:=rfl;have a:Sm 41=Zf:=rfl;rw[XF,if_neg (by simp[b]),if_pos a];simp[Uj]
theorem OM:∀(a b:List UInt8)(acc:Nat),Lib.decFrom acc (a++b)=(Lib.decFrom acc a).bind fun m=>Lib.decFrom m b
 |[],b,acc=>rfl
 |c::a,b,acc=>by
  simp only[Z6,Lib.decFrom];cases Lib.digitVal c with
  |none=>rfl
  |some d=>exact OM a b _
theorem Ro(d:Nat)(h:d<10):Lib.digitVal (UInt8.ofNat (48+d))=L d:=by
 have e:(UInt8.ofNat (48+d)).toNat=48+d:=by rw[UInt8.toNat_ofNat'];omega
 rw[Lib.digitVal,e,if_pos (by omega)];simp
theorem Nl(u:Nat):Lib.decFrom 0 (Lib.decDigits u)=L u:=by
 induction u using Nat.strongRecOn with
 |_ u ih=>
  by_cases h:u<10
  .rw[Lib.decDigits,dif_pos h];simp only[Lib.decFrom,Ro u h];simp
  .rw[Lib.decDigits,dif_neg h,OM,ih (u / 10) (by omega)];simp only[ZS,Lib.decFrom,Ro (u % 10) (by omega)];congr 1;omega
theorem LQ(u:Nat):∀c∈Lib.decDigits u,48<=c.toNat/\c.toNat<=57:=by intro c a;obtain⟨i,hi,rfl⟩:=List.getElem_of_mem a;obtain⟨d,hd⟩:=Lib.digit_of_decFrom _ 0 u (Nl u) i _ (List.getElem?_eq_getElem hi);have:=Lib.digitVal_eq hd;exact⟨this.1,this.2.1⟩
theorem MR(u:Nat):Lib.decDigits u≠[]:=by
 intro e;have:=Nl u;rw[e] at this;rw[Lib.decDigits] at e;split at e
 .cases e
 .simp at e
theorem M3(u:Nat):Lib.decNat (Lib.decDigits u)=L u:=by
 have:=MR u;cases h:Lib.decDigits u with
 |nil=>exact absurd h this
 |cons c r=>rw[Lib.decNat,if_neg (by simp),<-h,Nl]
structure TT where
 k:Int
 n:Int
 t:Tr
 f:Tr
 a:Option Addr
 c:Nat
 l:List TT
theorem TT.ind{P:TT->Prop}(h:∀k n t f a c l,(∀x,x∈l->P x)->P ⟨k,n,t,f,a,c,l⟩):∀t,P t
 |⟨k,n,t,f,a,c,l⟩=>h k n t f a c l fun x _=>TT.ind h x
def TT.tm:TT->Tm
 |⟨k,n,t,f,_,_,l⟩=>⟨k,n,t.ty,f.ty,l.map fun x=>x.tm⟩
theorem TT.ma(k n:Int)(t f:Tr)(a:Option Addr)(c:Nat)(l:List TT):(TT.mk k n t f a c l).tm=⟨k,n,t.ty,f.ty,l.map TT.tm⟩:=by rw[TT.tm]
theorem TT.mc(x:TT):x.tm.k=x.k:=by cases x;rw[TT.ma]
theorem TT.nu(x:TT):x.tm.n=x.n:=by cases x;rw[TT.ma]
theorem TT.qd(x:TT):x.tm.t=x.t.ty:=by cases x;rw[TT.ma]
theorem TT.pj(x:TT):x.tm.f=x.f.ty:=by cases x;rw[TT.ma]
theorem TT.mq(x:TT):x.tm.l=x.l.map TT.tm:=by cases x;rw[TT.ma]
def TT.ag(x:TT):Zm:=Zk #[F G x.k,F G x.n,F G x.t.k,I x.t.a x.t.l.length x.t.c,F G x.f.k,I x.f.a x.f.l.length x.f.c,I x.a x.l.length x.c]
structure Uz(w:U)(b o:Nat)(x:TT):Prop where
 c0:w.cell? ⟨b,o,C⟩=L (F G x.k)
 c1:w.cell? ⟨b,o+1,C⟩=L (F G x.n)
 c2:w.cell? ⟨b,o+2,C⟩=L (F G x.t.k)
 c3:w.cell? ⟨b,o+3,C⟩=L (I x.t.a x.t.l.length x.t.c)
 c4:w.cell? ⟨b,o+4,C⟩=L (F G x.f.k)
 c5:w.cell? ⟨b,o+5,C⟩=L (I x.f.a x.f.l.length x.f.c)
 c6:w.cell? ⟨b,o+6,C⟩=L (I x.a x.l.length x.c)
theorem Uz.of{b:Nat}{x:TT}(h:Uz w b o x)(e:∀i,w'.cell? ⟨b,i,C⟩=w.cell? ⟨b,i,C⟩):Uz w' b o x:=⟨(e _).trans h.c0,(e _).trans h.c1,(e _).trans h.c2,(e _).trans h.c3,(e _).trans h.c4,(e _).trans h.c5,(e _).trans h.c6⟩
theorem Uz.lt{b:Nat}{x:TT}(h:Uz w b o x):b<w.heap.size:=Zg _ _ h.c0
theorem Uz.below{b:Nat}{x:TT}(hb:Zw w.heap.size w w')(h:Uz w b o x):Uz w' b o x:=h.of fun _=>hb.cell (p:=⟨b,_,C⟩) h.lt
def TT.In(w:U):TT->Prop
 |⟨_,_,t,f,a,_,l⟩=>t.In w/\f.In w/\(∀j(h:j<l.length),∃b o,a=L ⟨b,o,C⟩/\Uz w b (o+j*7) l[j])/\∀x,x∈l->x.In w
theorem TT.li{k n:Int}{t f:Tr}{l:List TT}:(TT.mk k n t f a c l).In w↔t.In w/\f.In w/\(∀j(h:j<l.length),∃b o,a=L ⟨b,o,C⟩/\Uz w b (o+j*7) l[j])/\∀x,x∈l->x.In w:=by rw[TT.In]
theorem TT.In.t{x:TT}(h:x.In w):x.t.In w:=by cases x;exact(TT.li.1 h).1
theorem TT.In.f{x:TT}(h:x.In w):x.f.In w:=by cases x;exact(TT.li.1 h).2.1
theorem TT.In.part{x:TT}(h:x.In w)(j:Nat)(d:j<x.l.length):∃b o,x.a=L ⟨b,o,C⟩/\Uz w b (o+j*7) x.l[j]/\x.l[j].In w:=by obtain⟨k,n,t,f,a,c,l⟩:=x;obtain⟨_,_,i,hi⟩:=TT.li.1 h;obtain⟨b,o,e,g⟩:=i j d;exact⟨b,o,e,g,hi _ (ZM d)⟩
theorem TT.In.mem{x y:TT}(h:x.In w)(b:y∈x.l):y.In w:=by obtain⟨k,n,t,f,a,c,l⟩:=x;exact(TT.li.1 h).2.2.2 y b
theorem TT.In.below{w w':U}(hb:Zw w.heap.size w w'){x:TT}:x.In w->x.In w':=by
 induction x using TT.ind with
 |h k n t f a c l ih=>intro h;obtain⟨m,g,q,hi⟩:=TT.li.1 h;refine TT.li.2 ⟨m.below hb,g.below hb,fun j i=>?_,fun x d=>ih x d (hi x d)⟩;obtain⟨b,o,e,p⟩:=q j i;exact⟨b,o,e,p.below hb⟩
def TT.Bl(P:Nat->Prop):TT->Prop
 |⟨_,_,t,f,a,_,l⟩=>t.Bl P/\f.Bl P/\(l≠[]->∀x,a=L x->P x.block)/\∀x,x∈l->x.Bl P
theorem TT.ld{k n:Int}{t f:Tr}{l:List TT}:(TT.mk k n t f a c l).Bl P↔t.Bl P/\f.Bl P/\(l≠[]->∀x,a=L x->P x.block)/\∀x,x∈l->x.Bl P:=by rw[TT.Bl]
theorem TT.Bl.t{x:TT}(h:x.Bl P):x.t.Bl P:=by cases x;exact(TT.ld.1 h).1
theorem TT.Bl.f{x:TT}(h:x.Bl P):x.f.Bl P:=by cases x;exact(TT.ld.1 h).2.1
theorem TT.Bl.mem{x y:TT}(h:x.Bl P)(b:y∈x.l):y.Bl P:=by obtain⟨k,n,t,f,a,c,l⟩:=x;exact(TT.ld.1 h).2.2.2 y b
theorem TT.Bl.own{x:TT}(h:x.Bl P)(b:x.l≠[])(y:Addr)(d:x.a=L y):P y.block:=by obtain⟨k,n,t,f,a,c,l⟩:=x;exact(TT.ld.1 h).2.2.1 b y d
theorem TT.Bl.mono{P Q:Nat->Prop}(hPQ:∀b,P b->Q b){x:TT}:x.Bl P->x.Bl Q:=by
 induction x using TT.ind with
 |h k n t f a c l ih=>intro h;obtain⟨m,e,j,i⟩:=TT.ld.1 h;exact TT.ld.2 ⟨m.mono hPQ,e.mono hPQ,fun g x d=>hPQ _ (j g x d),fun x d=>ih x d (i x d)⟩
theorem TT.Bl.and{P Q:Nat->Prop}{x:TT}:x.Bl P->x.Bl Q->x.Bl (fun b=>P b/\Q b):=by
 induction x using TT.ind with
 |h k n t f a c l ih=>intro h g;obtain⟨r,i,q,p⟩:=TT.ld.1 h;obtain⟨u,o,m,j⟩:=TT.ld.1 g;exact TT.ld.2 ⟨r.and u,i.and o,fun e x d=>⟨q e x d,m e x d⟩,fun x d=>ih x d (p x d) (j x d)⟩
theorem TT.In.bl{w:U}{x:TT}:x.In w->x.Bl (·<w.heap.size):=by
 induction x using TT.ind with
 |h k n t f a c l ih=>intro h;obtain⟨j,g,p,hi⟩:=TT.li.1 h;refine TT.ld.2 ⟨j.bl,g.bl,fun i x d=>?_,fun x d=>ih x d (hi x d)⟩;obtain⟨b,o,e,m⟩:=p 0 (List.length_pos_iff.2 i);rw[e] at d;have:=Option.some.inj d;subst this;exact m.lt
theorem TT.In.congr{w w':U}{P:Nat->Prop}(hP:∀b,P b->∀o,w'.cell? ⟨b,o,C⟩=w.cell? ⟨b,o,C⟩){x:TT}:x.Bl P->x.In w->x.In w':=by
 induction x using TT.ind with
 |h k n t f a c l ih=>intro u h;obtain⟨q,i,z,hi⟩:=TT.li.1 h;obtain⟨bt,m,p,r⟩:=TT.ld.1 u;refine TT.li.2 ⟨q.congr hP bt,i.congr hP m,fun j g=>?_,fun x d=>ih x d (r x d) (hi x d)⟩;obtain⟨b,o,e,y⟩:=z j g;have d:P b:=p (fun e=>by rw[e] at g;simp at g) _ e;exact⟨b,o,e,y.of (hP b d)⟩
theorem Tr.In.lc{t:Tr}(h:t.In w)(d:Yi R C w w')(e:t.Bl (·≠R)):t.In w':=by refine h.congr (P:=fun b=>b<w.heap.size/\b≠R) ?_ (h.bl.and e);rintro b ⟨c,g⟩ o;exact Zn (a:=⟨b,o,C⟩) (d.block b c g (by simp))
theorem TT.In.lc{x:TT}(h:x.In w)(d:Yi R C w w')(e:x.Bl (·≠R)):x.In w':=by refine h.congr (P:=fun b=>b<w.heap.size/\b≠R) ?_ (h.bl.and e);rintro b ⟨c,g⟩ o;exact Zn (a:=⟨b,o,C⟩) (d.block b c g (by simp))
theorem Uz.lc{b:Nat}{x:TT}(h:Uz w b o x)(hk:Yi R C w w')(hb:b≠R):Uz w' b o x:=h.of fun i=>Zn (a:=⟨b,i,C⟩) (hk.block b h.lt hb (by simp))
def Yr(k n:Int):TT:=⟨k,n,⟨0,C,0,[]⟩,⟨0,C,0,[]⟩,C,0,[]⟩
theorem Jh(k n:Int)(w:U):(Yr k n).In w:=TT.li.2 ⟨Tr.mm _ _ _ _,Tr.mm _ _ _ _,fun j h=>absurd h (by simp),fun t h=>absurd h (by simp)⟩
theorem L5(k n:Int)(P:Nat->Prop):(Yr k n).Bl P:=TT.ld.2 ⟨Tr.mo _ _ _ _,Tr.mo _ _ _ _,fun h=>absurd rfl h,fun t h=>absurd h (by simp)⟩
theorem Nw(k n:Int):(Yr k n).tm=⟨k,n,Yk,Yk,[]⟩:=by simp[Yr,TT.ma,Tr.lh,Yk]
abbrev TT.s(x:TT):Zm:=I x.a x.l.length x.c
abbrev TT.v(x:TT):Array Zm:=#[F G x.k,F G x.n,F G x.t.k,I x.t.a x.t.l.length x.t.c,F G x.f.k,I x.f.a x.f.l.length x.f.c,I x.a x.l.length x.c]
theorem Yi.fz(h:Yi R C w w'){b i:Nat}(hf:w.frozen? ⟨b,i,C⟩=Y)(hl:b<w.heap.size)(hb:b≠R):w'.frozen? ⟨b,i,C⟩=Y:=(Zq (a:=⟨b,i,C⟩) (h.block b hl hb (by simp))).trans hf
theorem Yi.refl:Yi R C w w:=⟨rfl,rfl,rfl,T _,fun _ _ _ _=>rfl⟩
theorem Yi.new{w'':U}(h:Yi R C w w')(hk:Yi k C w' w'')(hn:w.heap.size<=k):Yi R C w w'':=⟨hk.os.trans h.os,hk.tape.trans h.tape,hk.output.trans h.output,Nat.le_trans h.size hk.size,fun q hq h1 h2=>(hk.block q (by have:=h.size;omega) (by omega) h2).trans (h.block q hq h1 h2)⟩
theorem RS.new(h:RS R ws b w)(d:Yi k C w w')(hR:R<k):RS R ws b w':=by have g:=h.lt;obtain⟨⟨a,c,y,q,j⟩,u,l,m,hz⟩:=h;refine⟨⟨a,c,d.cell y (by omega),q,fun e=>?_⟩,d.cell u (by omega),d.fz l g (by omega),d.fz m g (by omega),hz⟩;obtain⟨A,o,r,z,p⟩:=j e;exact⟨A,o,r,z,fun i x hi=>d.cell (p i x hi) (by omega)⟩
structure XC(w:U)(J:Nat)(x:TT):Prop where
 at7:Uz w J 0 x
 fz:∀i,i<7->w.frozen? ⟨J,i,C⟩=Y
theorem XC.lt{x:TT}(h:XC w J x):J<w.heap.size:=h.at7.lt
theorem XC.kept{x:TT}(h:XC w J x)(hk:Yi R C w w')(hJ:J≠R):XC w' J x:=⟨h.at7.lc hk hJ,fun i hi=>hk.fz (h.fz i hi) h.lt hJ⟩
theorem XC.below{x:TT}(h:XC w J x)(hb:Zw w.heap.size w w'):XC w' J x:=⟨h.at7.below hb,fun i hi=>(hb.frozen (p:=⟨J,i,C⟩) h.lt).trans (h.fz i hi)⟩
theorem XC.pz{x:TT}{a':Option Addr}{c':Nat}{l':List TT}(h:XC w J x):XC (w.setCell ⟨J,6,C⟩ (I a' l'.length c')) J { x with a:=a',c:=c',l:=l' }:=by
 have b:=h.at7;refine⟨⟨?_,?_,?_,?_,?_,?_,?_⟩,fun i hi=>by rw[ZN];exact h.fz i hi⟩
 .rw[S _ _ _ _ (by simp)];exact b.c0
 .rw[S _ _ _ _ (by simp)];exact b.c1
 .rw[S _ _ _ _ (by simp)];exact b.c2
 .rw[S _ _ _ _ (by simp)];exact b.c3
 .rw[S _ _ _ _ (by simp)];exact b.c4
 .rw[S _ _ _ _ (by simp)];exact b.c5
 .exact Zc _ _ _ (by simpa using b.c6)
theorem XC.qn{x:TT}{t:Tr}(h:XC w J x):XC ((w.setCell ⟨J,2,C⟩ (F G t.k)).setCell ⟨J,3,C⟩ (I t.a t.l.length t.c)) J { x with t:=t }:=by
 have a:=h.at7;refine⟨⟨?_,?_,?_,?_,?_,?_,?_⟩,fun i hi=>by rw[ZN,ZN];exact h.fz i hi⟩
 .rw[S _ _ _ _ (by simp),S _ _ _ _ (by simp)];exact a.c0
 .rw[S _ _ _ _ (by simp),S _ _ _ _ (by simp)];exact a.c1
 .rw[S _ _ _ _ (by simp)];exact Zc _ _ _ (by simpa using a.c2)
 .refine Zc _ _ _ (u:=x.t.s) ?_;rw[S _ _ _ _ (by simp)];simpa using a.c3
 .rw[S _ _ _ _ (by simp),S _ _ _ _ (by simp)];exact a.c4
 .rw[S _ _ _ _ (by simp),S _ _ _ _ (by simp)];exact a.c5
 .rw[S _ _ _ _ (by simp),S _ _ _ _ (by simp)];exact a.c6
def Xd(w:U)(J:Nat)(x:TT):U:=((((((w.setCell ⟨J,0,C⟩ (F G x.k)).setCell ⟨J,1,C⟩ (F G x.n)).setCell ⟨J,2,C⟩ (F G x.t.k)).setCell ⟨J,3,C⟩ (I x.t.a x.t.l.length x.t.c)).setCell ⟨J,4,C⟩ (F G x.f.k)).setCell ⟨J,5,C⟩ (I x.f.a x.f.l.length x.f.c)).setCell ⟨J,6,C⟩ (I x.a x.l.length x.c)
theorem Yp{i:Nat}{v:Zm}(h:w.cell? ⟨J,i,C⟩=L u):(w.setCell ⟨J,j,C⟩ v).cell? ⟨J,i,C⟩=L (if i=j then v else u):=by
 by_cases e:i=j
 .subst e;rw[if_pos rfl];exact Zc _ _ _ h
 .rw[if_neg e,S _ _ _ _ (by simp)];exact h
theorem JW{x y:TT}(h:XC w J y):XC (Xd w J x) J x:=by
 have b:=h.at7;have k:=b.c0;have l:=b.c1;have c:=b.c2;have d:=b.c3;have j:=b.c4;have e:=b.c5;have g:=b.c6;simp only[Zu] at k l c d j e g;have a:∀i u,cL w J i u->cL (Xd w J x) J i (if i=6 then x.s else if i=5 then x.f.s else if i=4 then F G x.f.k else if i=3 then x.t.s else if i=2 then F G x.t.k else if i=1 then F G x.n else if i=0 then F G x.k else u):=by intro i u hu;exact Yp (Yp (Yp (Yp (Yp (Yp (Yp hu))))))
 refine⟨⟨?_,?_,?_,?_,?_,?_,?_⟩,fun i hi=>?_⟩
 .simpa using a 0 _ k
 .simpa using a 1 _ l
 .simpa using a 2 _ c
 .simpa using a 3 _ d
 .simpa using a 4 _ j
 .simpa using a 5 _ e
 .simpa using a 6 _ g
 .simp only[Xd,ZN];exact h.fz i hi
theorem YI{x:TT}:Yi J C w (Xd w J x):=Yj.trans (Yj.trans (Yj.trans (Yj.trans (Yj.trans (Yj.trans Yj)))))
theorem Pv{v:Zm}:Yi J C w ((w.setCell ⟨J,2,C⟩ u).setCell ⟨J,3,C⟩ v):=Yj.trans Yj
def YW(cs:List TT):List Zm:=cs.flatMap fun x=>[F G x.k,F G x.n,F G x.t.k,I x.t.a x.t.l.length x.t.c,F G x.f.k,I x.f.a x.f.l.length x.f.c,I x.a x.l.length x.c]
theorem JQ(a b:List TT):YW (a++b)=YW a++YW b:=by simp[YW]
theorem Ls:∀(l:List TT)(j:Nat)(h:j<l.length)(i:Nat),i<7->(YW l)[j*7+i]?=[Value.int G l[j].k,F G l[j].n,F G l[j].t.k,I l[j].t.a l[j].t.l.length l[j].t.c,F G l[j].f.k,I l[j].f.a l[j].f.l.length l[j].f.c,I l[j].a l[j].l.length l[j].c][i]?
 |[],j,h,_,_=>by simp at h
 |x::r,0,_,i,hi=>by
  obtain rfl|rfl|rfl|rfl|rfl|rfl|rfl:i=0\/i=1\/i=2\/i=3\/i=4\/i=5\/i=6:=by omega
  all_goals simp[YW]
 |x::r,j+1,h,i,hi=>by
  have a:=Ls r j (by simpa using h) i hi;have e:(j+1)*7+i=(j*7+i)+1+1+1+1+1+1+1:=by omega
  rw[e];simpa[YW] using a
structure O3(base:Nat)(v:Zm)(cs:List TT)(w:U):Prop where
 own:w.ownsRow base 27 7 v cs.length (YW cs)
 ins:∀c,c∈cs->c.In w/\c.Bl (fun b=>base<=b/\L b≠v.ownBlock)
theorem O3.nil(base:Nat)(w:U):O3 base (I C 0 0) [] w:=⟨World.ownsRow_nil _ _ _ _,fun c h=>by cases h⟩
theorem O3.kept{v:Zm}{cs:List TT}(h:O3 base v cs w)(e:Yi R C w w')(m:R<base):O3 base v cs w':=by
 refine⟨⟨h.own.1,?_⟩,fun c d=>⟨(h.ins c d).1.lc e ((h.ins c d).2.mono fun b i=>by omega),(h.ins c d).2⟩⟩;rcases h.own.2 with l|⟨g,cap,a,k,i,j,rest⟩
 .exact .inl l
 .exact .inr ⟨g,cap,a,k,i,(e.block g (Array.getElem?_eq_some_iff.1 j).1 (by omega) (by simp)).trans j,rest⟩
theorem O3.below{v:Zm}{cs:List TT}(h:O3 base v cs w)(d:Zw w.heap.size w w'):O3 base v cs w':=by
 refine⟨⟨h.own.1,?_⟩,fun c i=>⟨(h.ins c i).1.below d,(h.ins c i).2⟩⟩;rcases h.own.2 with k|⟨g,cap,a,j,b,e,rest⟩
 .exact .inl k
 .exact .inr ⟨g,cap,a,j,b,(d.block g (Array.getElem?_eq_some_iff.1 e).1).trans e,rest⟩
theorem O3.step{v:Zm}{cs:List TT}{c:TT}{gg cap1:Nat}{X:Obj}(h:O3 base v cs w2)(q:c.In w2)(p:c.Bl (fun b=>base<=b/\L b≠v.ownBlock))
  (m:w3.ownsRow base 27 7 (I (L ⟨gg,0,C⟩) (cs.length+1) cap1) (cs.length+1) (YW cs++YW [c])) (l:(w2.alloc X).grownBy w3 v.ownBlock) (r:v.ownBlock=L gg\/gg=w2.heap.size+1) :
  O3 base (I (L ⟨gg,0,C⟩) (cs.length+1) cap1) (cs++[c]) w3/\∀k,k<w2.heap.size->L k≠v.ownBlock->w3.heap[k]?=w2.heap[k]?:=by
 have g:∀k,k<w2.heap.size->L k≠v.ownBlock->w3.heap[k]?=w2.heap[k]?:=fun k w x=>by rw[l.block k (by simp;omega) x];exact((Zb _ w2).alloc (T _) X).block k w
 refine⟨⟨by rw[JQ,Yc,List.length_singleton];exact m,fun d hd=>?_⟩,g⟩;have j:d.In w2/\d.Bl (fun b=>base<=b/\L b≠v.ownBlock):=by
  rcases List.mem_append.1 hd with hd|hd
  .exact h.ins d hd
  .rcases List.mem_singleton.1 hd with rfl;exact⟨q,p⟩
 have u:=j.1.bl.and j.2;refine⟨j.1.congr (P:=fun b=>b<w2.heap.size/\base<=b/\L b≠v.ownBlock) (fun b o i=>?_) u,u.mono fun b o=>⟨o.2.1,?_⟩⟩
 .exact Zn (a:=⟨b,i,C⟩) (g b o.1 o.2.2)
 .show L b≠L gg
  rcases r with e|e
  .rw[<-e];exact o.2.2
  .simp only[ne_eq,Option.some.injEq];omega
theorem O3.list{v:Zm}{cs:List TT}(h:O3 base v cs w):∃a c,v=I a cs.length c/\(∀j(hj:j<cs.length),∃b o,a=L ⟨b,o,C⟩/\Uz w b (o+j*7) cs[j])/\(∀y,cs≠[]->a=L y->base<=y.block):=by
 rcases h.own.2 with⟨rfl,m⟩|⟨g,cap,e,rfl,l,_⟩
 .have:cs=[]:=List.length_eq_zero_iff.1 m;subst this;exact⟨C,0,rfl,fun j hj=>absurd hj (by simp),fun y h=>absurd rfl h⟩
 .refine⟨_,_,rfl,fun j hj=>⟨g,0,rfl,?_⟩,fun y _ k=>by cases k;exact l⟩;have d:∀i,i<7->w.cell? ⟨g,0+j*7+i,C⟩=_:=fun i hi=>by rw[Zu,h.own.cellAt (j*7+i) (by omega),Ls cs j hj i hi]
  exact⟨d 0 (by omega),d 1 (by omega),d 2 (by omega),d 3 (by omega),d 4 (by omega),d 5 (by omega),d 6 (by omega)⟩
theorem O3.tree{v:Zm}{cs:List TT}(h:O3 base v cs w):∃a c,v=I a cs.length c/\∀k n t f,t.In w->f.In w->(TT.mk k n t f a c cs).In w/\(∀P:Nat->Prop,(∀b,base<=b->P b)->t.Bl P->f.Bl P->(TT.mk k n t f a c cs).Bl P):=by obtain⟨a,c,p,l,g⟩:=h.list;refine⟨a,c,p,fun k n t f o j=>⟨TT.li.2 ⟨o,j,l,fun x d=>(h.ins x d).1⟩,fun P i q m=>TT.ld.2 ⟨q,m,fun e x d=>i _ (g x e d),fun x d=>(h.ins x d).2.mono fun b g=>i b g.1⟩⟩⟩
theorem O3.lt{v:Zm}{cs:List TT}(h:O3 base v cs w)(k:Nat)(hk:v.ownBlock=L k):base<=k/\k<w.heap.size:=h.own.lt k hk
theorem QV(k:Int)(w:U):Z E 85 #[F G k] w fun e w'=>e=M (.bool (XV k))/\w'=w:=by
 cases h7:(k==7) with
 |true=>go_enter func85,ntmps85;go_wp2_with fail;go_ret;exact⟨by simp[XV,h7],rfl⟩
 |false=>go_enter func85,ntmps85;go_wp2_with fail;go_ret;exact⟨by simp[XV,h7],rfl⟩
def Oi(o:Option Nat):Zm:=Zo #[F G ((o.getD 0:Nat):Int),.bool o.isSome]
theorem Up{x y:ByteArray}(h:(x.toList==y.toList)=Y):x≠y:=(Lib.bytes_beq_false_iff _ _).1 h
theorem Aj(u v:Zm)(w:U):(Zd 84 (Zk #[u,v]) (F G 0)).run E w=.ok u w:=by simp[Zd,Zi underlying84,go_sem]
theorem Ai(u v:Zm)(w:U):(Zd 84 (Zk #[u,v]) (F G 1)).run E w=.ok v w:=by simp[Zd,Zi underlying84,go_sem]
theorem Sx(x:ByteArray)(w:U)(g:Gl w):Z E 53 #[.string x] w fun e w'=>e=M (Oi (YY x XH 0))/\w'=w:=by
 have q:=g.tw.cell 0;have r:=g.tw.cell 1;simp only[List.getElem?_toArray,Yd,Ye] at q r;clear g;obtain⟨l,d⟩:∃b,((⟨#[110,111]⟩:ByteArray).toList==x.toList)=b:=⟨_,rfl⟩
 obtain⟨a,m⟩:∃b,((⟨#[121,101,115]⟩:ByteArray).toList==x.toList)=b:=⟨_,rfl⟩
 have o:=Yy d;have p:=Yy m;have z:([110,111]==x.toList)=l:=by rw[<-d,Lib.toList_data ⟨#[110,111]⟩]
 have u:([121,101,115]==x.toList)=a:=by rw[<-m,Lib.toList_data ⟨#[121,101,115]⟩]
 clear d m;have x0:=Aj (.string ⟨#[110,111]⟩) (.string ⟨#[121,101,115]⟩);have x1:=Ai (.string ⟨#[110,111]⟩) (.string ⟨#[121,101,115]⟩);go_enter func53,ntmps53;go_wp2_with fail;go_loopg [7] 2 (fun k i wr=>∃j:Nat,k+j=2/\i=F G (j:Int)/\wr=w/\Zh ((1<=j->l=Y)/\(2<=j->a=Y)))
 case atStart=>exact⟨0,rfl,rfl,rfl,fun h=>absurd h (by omega),fun h=>absurd h (by omega)⟩
 case round=>
  obtain⟨j,y,rfl,rfl,c⟩:=hrel;obtain rfl|rfl|rfl:j=0\/j=1\/j=2:=by omega
  .cases l
   .go_wp2_with fail;go_roundg 1
    case measure=>omega
    case rel=>exact⟨1,rfl,rfl,rfl,fun _=>trivial,fun h=>absurd h (by omega)⟩
   .go_wp2_with fail;refine Ze (v:=Zo #[F G 0,.bool Zf]) (by simp[results,results53,go_sem]) rfl ⟨?_,rfl⟩;rw[<-(Lib.bytes_beq_iff _ _).1 o.out];rfl
  .obtain rfl:=c.out.1 (by omega);cases a
   .go_wp2_with fail;go_roundg 0
    case measure=>omega
    case rel=>exact⟨2,rfl,rfl,rfl,fun _=>trivial,fun _=>trivial⟩
   .go_wp2_with fail;refine Ze (v:=Zo #[F G 1,.bool Zf]) (by simp[results,results53,go_sem]) rfl ⟨?_,rfl⟩;rw[<-(Lib.bytes_beq_iff _ _).1 p.out];rfl
  .obtain rfl:=c.out.1 (by omega);obtain rfl:=c.out.2 (by omega);go_wp2_with fail;refine Ze (v:=Zo #[F G 0,.bool Y]) (by simp[results,results53,go_sem]) rfl ⟨?_,rfl⟩;simp[Oi,YY,XH,Up o.out,Up p.out]
theorem Dd(u v t:Zm)(w:U):(Zd 209 (Zk #[u,v,t]) (F G 0)).run E w=.ok u w:=by simp[Zd,Zi underlying209,go_sem]
theorem Dc(u v t:Zm)(w:U):(Zd 209 (Zk #[u,v,t]) (F G 1)).run E w=.ok v w:=by simp[Zd,Zi underlying209,go_sem]
theorem Db(u v t:Zm)(w:U):(Zd 209 (Zk #[u,v,t]) (F G 2)).run E w=.ok t w:=by simp[Zd,Zi underlying209,go_sem]
theorem Ks(x:ByteArray)(w:U)(c:Gl w):Z E 126 #[.string x] w fun e w'=>e=M (Oi (YY x Jy 0))/\w'=w:=by
 have z:=c.ty.cell 0;have c1:=c.ty.cell 1;have y:=c.ty.cell 2;simp only[List.getElem?_toArray,Yd,Ye] at z c1 y;clear c;obtain⟨o,l⟩:∃b,((⟨#[97,110,121]⟩:ByteArray).toList==x.toList)=b:=⟨_,rfl⟩
 obtain⟨d,p⟩:∃b,((⟨#[110,117,109]⟩:ByteArray).toList==x.toList)=b:=⟨_,rfl⟩
 obtain⟨m,g⟩:∃b,((⟨#[116,114,117,116,104]⟩:ByteArray).toList==x.toList)=b:=⟨_,rfl⟩
 have q:=Yy l;have r:=Yy p;have u:=Yy g;have k0:([97,110,121]==x.toList)=o:=by rw[<-l,Lib.toList_data ⟨#[97,110,121]⟩]
 have k1:([110,117,109]==x.toList)=d:=by rw[<-p,Lib.toList_data ⟨#[110,117,109]⟩]
 have k2:([116,114,117,116,104]==x.toList)=m:=by rw[<-g,Lib.toList_data ⟨#[116,114,117,116,104]⟩]
 clear l p g;have x0:=Dd (.string ⟨#[97,110,121]⟩) (.string ⟨#[110,117,109]⟩) (.string ⟨#[116,114,117,116,104]⟩);have x1:=Dc (.string ⟨#[97,110,121]⟩) (.string ⟨#[110,117,109]⟩) (.string ⟨#[116,114,117,116,104]⟩);have x2:=Db (.string ⟨#[97,110,121]⟩) (.string ⟨#[110,117,109]⟩) (.string ⟨#[116,114,117,116,104]⟩);go_enter func126,ntmps126;go_wp2_with fail;go_loopg [7] 3 (fun k i wr=>∃j:Nat,k+j=3/\i=F G (j:Int)/\wr=w/\Zh ((1<=j->o=Y)/\(2<=j->d=Y)/\(3<=j->m=Y)))
 case atStart=>exact⟨0,rfl,rfl,rfl,fun h=>absurd h (by omega),fun h=>absurd h (by omega),fun h=>absurd h (by omega)⟩
 case round=>
  obtain⟨j,hj,rfl,rfl,a⟩:=hrel;obtain rfl|rfl|rfl|rfl:j=0\/j=1\/j=2\/j=3:=by omega
  .cases o
   .go_wp2_with fail;go_roundg 2
    case measure=>omega
    case rel=>exact⟨1,rfl,rfl,rfl,fun _=>trivial,fun h=>absurd h (by omega),fun h=>absurd h (by omega)⟩
   .go_wp2_with fail;refine Ze (v:=Zo #[F G 0,.bool Zf]) (by simp[results,results126,go_sem]) rfl ⟨?_,rfl⟩;rw[<-(Lib.bytes_beq_iff _ _).1 q.out];rfl
  .obtain rfl:=a.out.1 (by omega);cases d
   .go_wp2_with fail;go_roundg 1
    case measure=>omega
    case rel=>exact⟨2,rfl,rfl,rfl,fun _=>trivial,fun _=>trivial,fun h=>absurd h (by omega)⟩
   .go_wp2_with fail;refine Ze (v:=Zo #[F G 1,.bool Zf]) (by simp[results,results126,go_sem]) rfl ⟨?_,rfl⟩;rw[<-(Lib.bytes_beq_iff _ _).1 r.out];rfl
  .obtain rfl:=a.out.1 (by omega);obtain rfl:=a.out.2.1 (by omega);cases m
   .go_wp2_with fail;go_roundg 0
    case measure=>omega
    case rel=>exact⟨3,rfl,rfl,rfl,fun _=>trivial,fun _=>trivial,fun _=>trivial⟩
   .go_wp2_with fail;refine Ze (v:=Zo #[F G 2,.bool Zf]) (by simp[results,results126,go_sem]) rfl ⟨?_,rfl⟩;rw[<-(Lib.bytes_beq_iff _ _).1 u.out];rfl
  .obtain rfl:=a.out.1 (by omega);obtain rfl:=a.out.2.1 (by omega);obtain rfl:=a.out.2.2 (by omega);go_wp2_with fail;refine Ze (v:=Zo #[F G 0,.bool Y]) (by simp[results,results126,go_sem]) rfl ⟨?_,rfl⟩;simp[Oi,YY,Jy,Up q.out,Up r.out,Up u.out]
theorem Mu{a:U}(h:Zw B a w)(n:Nat):Zw B a (w.drewN n):=⟨h.os,h.tape,h.output,h.size,h.block⟩
theorem Cr(x y:Tr)(c:Option Addr)(w:U)(b:Zh ((x.k==y.k&&(x.l.length:Int)==(y.l.length:Int))=Y)):
  Z E 182 #[Zk #[F G x.k,I x.a x.l.length x.c],Zk #[F G y.k,I y.a y.l.length y.c],F G 1000,Za c] w fun e w'=>e=M (.bool Y)/\Zw w.heap.size w w':=by
 go_enter func182,ntmps182;go_wp2_with fail;refine(Lv _ _ _ _ _ _ _ _ Y b.out _).mono ?_;rintro e d ⟨rfl,a⟩;go_wp2_with fail;go_ret;exact⟨rfl,(((Zb _ _).alloc (T _) _).alloc (by simp) _).trans (a.mono (by simp;omega))⟩
theorem En(x y:Tr)(r:Bool)(w:U)(k:x.In w)(i:y.In w)
  (d:Zh (∀(rp:Option Addr)(w:U),x.In w->y.In w->Z E 182 #[Zk #[F G x.k,I x.a x.l.length x.c],Zk #[F G y.k,I y.a y.l.length y.c],F G 1000,Za rp] w fun e w'=>e=M (.bool r)/\Zw w.heap.size w w')) :
  Z E 147 #[Zk #[F G x.k,I x.a x.l.length x.c],Zk #[F G y.k,I y.a y.l.length y.c]] w fun e w'=>e=M (.bool r)/\Zw w.heap.size w w':=by
 have g:Zh (∀(w:U),x.In w->y.In w->Z E 44 #[.func (.func 182) #[] #[],Zk x.v,Zk y.v] w fun e w'=>e=M (.bool r)/\bL w w'):=fun w j h=>TE x y r w j h d;clear d;go_enter func147,ntmps147;go_wp2_with fail;have a:bL w ((w.alloc (Obj.cells x.v 24)).alloc (Obj.cells y.v 24)):=((Zb _ _).alloc (T _) _).alloc (by simp) _;refine(g.out _ (k.below a) (i.below a)).mono ?_;rintro e l ⟨rfl,b⟩;have c:=a.trans (b.mono (by simp;omega));clear a b;go_wp2_with fail;go_ret;exact⟨rfl,c⟩
theorem Jj{a:Bool}(h:a=b):Ending.returned (.bool a)=M (.bool b):=by rw[h]
theorem XL(k:Int):(Ys k).ty=⟨k,[]⟩:=by simp[Ys,Tr.lh]
theorem AS(x:Tr)(w:U)(b:x.In w):
  Z E 147 #[Zk #[F G x.k,I x.a x.l.length x.c],Zk #[F G 0,I C 0 0]] w fun e w'=>e=M (.bool (XQ x.ty))/\Zw w.heap.size w w':=by
 have d:XQ x.ty=YD YA x.ty (Ys 0).ty:=by rw[XL];rfl
 rw[d];by_cases ht:(x.k==(Ys 0).k&&(x.l.length:Int)==((Ys 0).l.length:Int))=Y
 .have hr:=Kt YA x (Ys 0) rfl ht;rw[hr];exact En x (Ys 0) Y w b (YC 0 w) (fun g w o m=>Cr x (Ys 0) g w ht)
 .have hl:x.l=[]:=by simp[Ys] at ht;exact ht.2
  have i:x.hgt<=1000:=by obtain⟨k,a,c,l⟩:=x;dsimp only at hl;subst hl;rw[Tr.nk];simp
  have j:x.sm:=by obtain⟨k,a,c,l⟩:=x;dsimp only at hl;subst hl;exact Tr.ob.2 ⟨by simp,fun t h=>by cases h⟩
  exact LE x (Ys 0) w b (YC 0 w) i j
theorem Rh(x:Tr)(w:U)(d:x.In w):
  Z E 117 #[Zk #[F G x.k,I x.a x.l.length x.c]] w fun e w'=>e=M (.bool (XQ x.ty))/\Zw w.heap.size w w':=by
 have g:=Yy (AS x);go_enter func117,ntmps117;go_wp2_with fail;have a:bL w (w.alloc (Obj.cells x.v 24)):=(Zb _ _).alloc (T _) _;refine(g.out _ (d.below a)).mono ?_;rintro e h ⟨rfl,b⟩;have c:=a.trans (b.mono (by simp));clear a b;go_wp2_with fail;go_ret;exact⟨rfl,c⟩
theorem M2(x:TT)(w:U)(r:x.t.In w)(q:x.f.In w):
  Z E 80 #[Zk #[F G x.k,F G x.n,F G x.t.k,I x.t.a x.t.l.length x.t.c,F G x.f.k,I x.f.a x.f.l.length x.f.c,I x.a x.l.length x.c]] w fun e w'=>e=M (.bool (UL x.k x.t.ty x.f.ty))/\Zw w.heap.size w w':=by
 have o:=Yy (Rh x.f);have HT:=Yy (Rh x.t);have HG:Zh (∀w,x.t.In w->Z E 118 #[Zk x.t.v] w fun e w'=>e=M (.bool (Ym 4 x.t.ty))/\bL w w'):=by intro w h;have:=Dr x.t w h;rw[YL] at this;exact this
 have u:=Yy (QV x.k);obtain⟨p,i⟩:∃b,XQ x.f.ty=b:=⟨_,rfl⟩
 obtain⟨y,k⟩:∃b,XV x.k=b:=⟨_,rfl⟩
 have m:Zh (UL x.k x.t.ty x.f.ty=(p&&(if y=Zf then Ym 4 x.t.ty else XQ x.t.ty))):=by show _=_;rw[UL,i,k]
 rw[i] at o;rw[k] at u;clear i k;have d:bL w (w.alloc (Obj.cells x.v 27)):=(Zb _ _).alloc (T _) _;cases p
 .go_enter func80,ntmps80;go_wp2_with fail;refine(o.out _ (q.below d)).mono ?_;rintro e l ⟨rfl,c⟩;have a:=d.trans (c.mono (by simp));clear d c;go_wp2_with fail;go_ret;exact⟨by rw[m.out];rfl,a⟩
 .go_enter func80,ntmps80;go_wp2_with fail;refine(o.out _ (q.below d)).mono ?_;rintro e l ⟨rfl,c⟩;have a:=d.trans (c.mono (by simp));have q0:l.cell? ⟨w.heap.size,0,C⟩=L (F G x.k):=Z8 c (by simp[go_sem]);have q2:l.cell? ⟨w.heap.size,2,C⟩=L (F G x.t.k):=Z8 c (by simp[go_sem]);have q3:l.cell? ⟨w.heap.size,3,C⟩=L (I x.t.a x.t.l.length x.t.c):=Z8 c (by simp[go_sem]);clear d c;go_wp2_with fail;refine(u.out _).mono ?_;rintro e w' ⟨rfl,rfl⟩;cases y
  .go_wp2_with fail;refine(HT.out _ (r.below a)).mono ?_;rintro e z ⟨rfl,g⟩;have j:=a.trans (g.mono a.size);clear g a;go_wp2_with fail;go_ret;exact⟨by rw[m.out];rfl,j⟩
  .go_wp2_with fail;refine(HG.out _ (r.below a)).mono ?_;rintro e z ⟨rfl,g⟩;have j:=a.trans (g.mono a.size);clear g a;go_wp2_with fail;go_ret;exact⟨by rw[m.out];rfl,j⟩
theorem Mm(R:Nat)(ar:Int)(ins:Nat)(hi:ins<=1000)(x:TT)(hn:x.n<=9223372036854775807)(w:U)(hr:w.cell? ⟨R,0,C⟩=L (F G ar)):
  Z E 81 #[Za (L ⟨R,0,C⟩),Zk #[F G x.k,F G x.n,F G x.t.k,I x.t.a x.t.l.length x.t.c,F G x.f.k,I x.f.a x.f.l.length x.f.c,I x.a x.l.length x.c],F G (ins:Int)] w fun e w'=>e=M (.bool (Xx ar (ins:Int) x.k x.n))/\Zw w.heap.size w w':=by
 have b:R<w.heap.size:=Zg _ _ hr;by_cases h1:x.k=1
 .have hk:(x.k==1)=Zf:=by simp[h1]
  by_cases h0:0<=x.n
  .have hd:decide (0<=x.n)=Zf:=by simp[h0]
   have a:Zh (Xx ar (ins:Int) x.k x.n=decide (x.n-(ins:Int)<ar)):=by show _=_;rw[Xx,if_pos h1,hd,Bool.true_and]
   clear h1;go_enter Z9,Z3;go_wp2_with fail;go_quiet (fail)
   go_wp2_with fail;go_ret;exact⟨Jj a.out.symm,Mu ((Zb _ _).alloc (T _) _) _⟩
  .have hd:decide (0<=x.n)=Y:=by simpa using h0
   have a:Zh (Xx ar (ins:Int) x.k x.n=Y):=by show _=_;rw[Xx,if_pos h1,hd,Bool.false_and]
   clear h1;go_enter Z9,Z3;go_wp2_with fail;go_quiet (fail)
   go_wp2_with fail;go_ret;exact⟨Jj a.out.symm,Mu ((Zb _ _).alloc (T _) _) _⟩
 .have hk1:(x.k==1)=Y:=by simpa using h1
  by_cases h2:x.k=2
  .have hk2:(x.k==2)=Zf:=by simp[h2]
   by_cases h0:-1000000<=x.n
   .have hd:decide (-1000000<=x.n)=Zf:=by simp[h0]
    have a:Zh (Xx ar (ins:Int) x.k x.n=decide (x.n<=1000000)):=by show _=_;rw[Xx,if_neg h1,if_pos h2,hd,Bool.true_and]
    clear h1 h2;go_enter Z9,Z3;go_wp2_with fail;go_ret;exact⟨Jj a.out.symm,(Zb _ _).alloc (T _) _⟩
   .have hd:decide (-1000000<=x.n)=Y:=by simpa using h0
    have a:Zh (Xx ar (ins:Int) x.k x.n=Y):=by show _=_;rw[Xx,if_neg h1,if_pos h2,hd,Bool.false_and]
    clear h1 h2;go_enter Z9,Z3;go_wp2_with fail;go_ret;exact⟨Jj a.out.symm,(Zb _ _).alloc (T _) _⟩
  .have hk2:(x.k==2)=Y:=by simpa using h2
   by_cases h3:x.k=3
   .have hk3:(x.k==3)=Zf:=by simp[h3]
    cases h0:(x.n==0) with
    |true=>
     have a:Zh (Xx ar (ins:Int) x.k x.n=Zf):=by show _=_;rw[Xx,if_neg h1,if_neg h2,if_pos h3,h0,Bool.true_or]
     clear h1 h2 h3;go_enter Z9,Z3;go_wp2_with fail;go_ret;exact⟨Jj a.out.symm,(Zb _ _).alloc (T _) _⟩
    |false=>
     have a:Zh (Xx ar (ins:Int) x.k x.n=(x.n==1)):=by show _=_;rw[Xx,if_neg h1,if_neg h2,if_pos h3,h0,Bool.false_or]
     clear h1 h2 h3;go_enter Z9,Z3;go_wp2_with fail;go_ret;exact⟨Jj a.out.symm,(Zb _ _).alloc (T _) _⟩
   .have hk3:(x.k==3)=Y:=by simpa using h3
    have a:Zh (Xx ar (ins:Int) x.k x.n=(x.n==0)):=by show _=_;rw[Xx,if_neg h1,if_neg h2,if_neg h3]
    clear h1 h2 h3;go_enter Z9,Z3;go_wp2_with fail;go_ret;exact⟨Jj a.out.symm,(Zb _ _).alloc (T _) _⟩
structure WS(R:Nat)(ar:Int)(room:Nat)(w:U):Prop where
 a:w.cell? ⟨R,0,C⟩=L (F G ar)
 r:w.cell? ⟨R,1,C⟩=L (F G (room:Int))
 z:w.frozen? ⟨R,1,C⟩=Y
theorem WS.lt(h:WS R ar room w):R<w.heap.size:=Zg _ _ h.a
theorem WS.below(h:WS R ar room w)(hb:Zw w.heap.size w w'):WS R ar room w':=⟨Z8 hb h.a,Z8 hb h.r,(hb.frozen (p:=⟨R,1,C⟩) h.lt).trans h.z⟩
theorem WS.set{r:Nat}(h:WS R ar room w):WS R ar r (w.setCell ⟨R,1,C⟩ (F G (r:Int))):=⟨by rw[S _ _ _ _ (by simp)];exact h.a,Zc _ _ _ h.r,by rw[ZN];exact h.z⟩
def Ut(R:Nat)(ar:Int)(o:Option Nat)(w:U)(e:Ending)(w':U):Prop:=∃r:Nat,e=M (.bool o.isSome)/\WS R ar r w'/\(∀q,o=L q->q=r)/\Yi R C w w'
def TT.nb:TT->Prop
 |⟨_,n,_,_,_,_,l⟩=>n<=9223372036854775807/\∀x,x∈l->x.nb
theorem TT.mt{k n:Int}{t f:Tr}{l:List TT}:(TT.mk k n t f a c l).nb↔n<=9223372036854775807/\∀x,x∈l->x.nb:=by rw[TT.nb]
theorem TT.nb.n{x:TT}(h:x.nb):x.n<=9223372036854775807:=by cases x;exact(TT.mt.1 h).1
theorem TT.nb.mem{x y:TT}(h:x.nb)(b:y∈x.l):y.nb:=by obtain⟨k,n,t,f,a,c,l⟩:=x;exact(TT.mt.1 h).2 y b
theorem P9(R:Nat)(c b:Int)(x:TT)(w:U)(a:WS R c 0 w):
  Z E 46 #[Za (L ⟨R,0,C⟩),Zk #[F G x.k,F G x.n,F G x.t.k,I x.t.a x.t.l.length x.t.c,F G x.f.k,I x.f.a x.f.l.length x.f.c,I x.a x.l.length x.c],F G b] w (Ut R c C w):=by
 have i:=a.r;have g:=a.lt;have e:((0:Nat):Int)=0:=rfl;rw[e] at i;go_enter Ya,Z4;go_wp2_with fail;go_ret;have d:bL w (w.alloc (Obj.cells x.v 27)):=(Zb _ _).alloc (T _) _;exact⟨0,rfl,a.below d,(fun q h=>by cases h),Yi.la d⟩
theorem KA(a:Gp w)(k:Int)(b:1<=k)(c:k<=9):w.cell? ⟨0,k.toNat,C⟩=L (F G (Yu k:Int)):=by
 rw[a.pt.cell];obtain rfl|rfl|rfl|rfl|rfl|rfl|rfl|rfl|rfl:k=1\/k=2\/k=3\/k=4\/k=5\/k=6\/k=7\/k=8\/k=9:=by omega
 all_goals rfl
theorem Fh(m p:Nat)(h:(m==p)=Y):((m:Int)==(p:Int))=Y:=by simp at h ⊢;omega
def OS(R:Nat)(r:Nat)(x:TT)(w:U):U:=(w.setCell ⟨R,1,C⟩ (F G (r:Int))).alloc (Obj.cells #[F G x.k,F G x.n,F G x.t.k,I x.t.a x.t.l.length x.t.c,F G x.f.k,I x.f.a x.f.l.length x.f.c,I x.a x.l.length x.c] 27)
theorem Wt(R:Nat)(g:Int)(r:Nat)(y:r<=1000)(i:Int)(x:TT)(w:U)(j:Gp w)(hR:1<=R)(d:WS R g (r+1) w)
  (a:(decide (1<=x.k)&&decide (x.k<=9)&&(x.l.length==Yu x.k))=Y) :
  Z E 46 #[Za (L ⟨R,0,C⟩),Zk #[F G x.k,F G x.n,F G x.t.k,I x.t.a x.t.l.length x.t.c,F G x.f.k,I x.f.a x.f.l.length x.f.c,I x.a x.l.length x.c],F G i] w (Ut R g C w):=by
 have p:=d.r;have hz:=d.z;have o:=d.lt;have m:((r+1:Nat):Int)=(r:Int)+1:=by omega
 rw[m] at p;have e1:(((r:Int)+1)==0)=Y:=by simp;omega
 have fin:∀nq,Ut R g C w (M (.bool Y)) ((OS R r x w).drewN nq):=by intro nq;have k:Zw (w.setCell ⟨R,1,C⟩ (F G (r:Int))).heap.size (w.setCell ⟨R,1,C⟩ (F G (r:Int))) ((OS R r x w).drewN nq):=Mu ((Zb _ _).alloc (T _) _) _;exact⟨r,rfl,(WS.set d).below k,(fun q h=>by cases h),Yj.trans (Yi.la k)⟩
 have c:=Yy fin;clear fin;by_cases hk1:1<=x.k
 .have hd1:decide (x.k<1)=Y:=by simp;omega
  by_cases hk2:x.k<=9
  .have hd2:decide (9<x.k)=Y:=by simp;omega
   have hp:=KA j x.k hk1 hk2;have b:(x.l.length==Yu x.k)=Y:=by
    have z:decide (1<=x.k)=Zf:=by simp[hk1]
    have a2:decide (x.k<=9)=Zf:=by simp[hk2]
    rw[z,a2] at a;simpa using a
   have e:=Fh _ _ b;have l:((x.l.length:Int) != (Yu x.k:Int))=Zf:=by rw[bne,e];rfl
   have i0:(0:Int)<=x.k:=by omega
   have i1:x.k<10:=by omega
   have n2:(0:Nat)≠R:=by omega
   have u:0<w.heap.size:=by have:=j.size;omega
   clear a b hk1 hk2 j;go_enter Ya,Z4;go_wp2_with fail;go_quiet (fail)
   go_wp2_with fail;go_ret;exact c.out _
  .have hd2:decide (9<x.k)=Zf:=by simp;omega
   clear a hk2;go_enter Ya,Z4;go_wp2_with fail;go_quiet (fail)
   go_wp2_with fail;go_ret;exact c.out _
 .have hd1:decide (x.k<1)=Zf:=by simp;omega
  clear a hk1;go_enter Ya,Z4;go_wp2_with fail;go_quiet (fail)
  go_wp2_with fail;go_ret;exact c.out _
theorem Lb(R r:Nat)(x:TT)(w:U)(nq:Nat):Yi R C w ((OS R r x w).drewN nq):=Yj.trans (Yi.la (Mu ((Zb _ _).alloc (T _) _) _))
theorem WU{r:Nat}{x:TT}{nq:Nat}(h:WS R ar room w):WS R ar r ((OS R r x w).drewN nq):=(WS.set h).below (Mu ((Zb _ _).alloc (T _) _) _)
theorem Pc(R r:Nat)(x:TT)(w:U)(nq:Nat):Uz ((OS R r x w).drewN nq) w.heap.size 0 x:=by
 have a:(w.setCell ⟨R,1,C⟩ (F G (r:Int))).heap.size=w.heap.size:=by simp[World.setCell]
 rw[<-a];constructor<;>simp[OS,go_sem]
theorem Ws(R:Nat)(d:Int)(r:Nat)(aa:r<=1000)(c:Nat)(hi:c<=1000)(x:TT)(w:U)(hg:Gp w)(hR:1<=R)(u:WS R d (r+1) w)
  (hx:x.In w) (m:x.Bl (·≠R)) (z:x.nb) (p:1<=x.k) (o:x.k<=9) (i:x.l.length=Yu x.k)
  (y:(UL x.k x.t.ty x.f.ty&&Xx d (c:Int) x.k x.n)=Y) :
  Z E 46 #[Za (L ⟨R,0,C⟩),Zk #[F G x.k,F G x.n,F G x.t.k,I x.t.a x.t.l.length x.t.c,F G x.f.k,I x.f.a x.f.l.length x.f.c,I x.a x.l.length x.c],F G (c:Int)] w (Ut R d C w):=by
 have hr:=u.r;have hz:=u.z;have a7:=u.lt;have e0:((r+1:Nat):Int)=(r:Int)+1:=by omega
 rw[e0] at hr;have e1:(((r:Int)+1)==0)=Y:=by simp;omega
 have a8:decide (x.k<1)=Y:=by simp;omega
 have a6:decide (9<x.k)=Y:=by simp;omega
 have hp:=KA hg x.k p o;have a0:((x.l.length:Int)==(Yu x.k:Int))=Zf:=by rw[i];simp
 have a5:((x.l.length:Int) != (Yu x.k:Int))=Y:=by rw[bne,a0];rfl
 have i0:(0:Int)<=x.k:=by omega
 have i1:x.k<10:=by omega
 have n2:(0:Nat)≠R:=by omega
 have a9:0<w.heap.size:=by have:=hg.size;omega
 have HX:Zh (∀nq,x.In ((OS R r x w).drewN nq)):=fun nq=>hx.lc (Lb R r x w nq) m;have HW:Zh (∀nq,WS R d r ((OS R r x w).drewN nq)):=fun nq=>WU u;have HB:Zh (∀nq,Uz ((OS R r x w).drewN nq) w.heap.size 0 x):=fun nq=>Pc R r x w nq;have a4:=Yy z.n;have a2:=Yy y;obtain⟨bt,j⟩:∃b,UL x.k x.t.ty x.f.ty=b:=⟨_,rfl⟩
 have HT:Zh (∀W,x.In W->Z E 80 #[Zk x.v] W fun e w'=>e=M (.bool bt)/\bL W w'):=by intro W h;have:=M2 x W h.t h.f;rw[j] at this;exact this
 have a1:=Yy j;clear y i p o hg j m hx u z;cases bt
 .go_enter Ya,Z4;go_wp2_with fail;go_quiet (fail)
  go_wp2_with fail;refine(HT.out _ (HX.out nq)).mono ?_;rintro e l ⟨rfl,a⟩;have HE:Zh (Ut R d C w (M (.bool Y)) l):=⟨r,rfl,(HW.out nq).below a,(fun q h=>by cases h),(Lb R r x w nq).trans (Yi.la a)⟩
  clear a;go_wp2_with fail;go_ret;exact HE.out
 .have hbn:Zh (Xx d (c:Int) x.k x.n=Y):=by have:=a2.out;rw[a1.out] at this;simpa[Zh] using this
  go_enter Ya,Z4;go_wp2_with fail;go_quiet (fail)
  go_wp2_with fail;refine(HT.out _ (HX.out nq)).mono ?_;rintro e l ⟨rfl,a⟩;have HN:Zh (Z E 81 #[Za (L ⟨R,0,C⟩),Zk x.v,F G (c:Int)] l fun e w'=>e=M (.bool Y)/\bL l w'):=by have:=Mm R d c hi x a4.out l ((HW.out nq).below a).a;rw[hbn.out] at this;exact this
  have HE:=Uy ((HW.out nq).below a) ((Lb R r x w nq).trans (Yi.la a));have g:=(HB.out nq).below a;have c0:=g.c0;have c1:=g.c1;have c2:=g.c2;have c3:=g.c3;have c4:=g.c4;have c5:=g.c5;have c6:=g.c6;simp only[Zu] at c0 c1 c2 c3 c4 c5 c6;clear a g;go_wp2_with fail;refine HN.out.mono ?_;rintro e w2 ⟨rfl,k⟩;have a3:Zh (Ut R d C w (M (.bool Y)) w2):=⟨r,rfl,HE.out.1.below k,(fun q h=>by cases h),HE.out.2.trans (Yi.la k)⟩
  clear k c0 c1 c2 c3 c4 c5 c6;go_wp2_with fail;go_ret;exact a3.out
theorem Rj(R:Nat)(ar:Int)(n r:Nat)(hr1:r<=1000)(ins:Nat)(hi:ins<=1000)(x:TT)(w:U)(hg:Gp w)(hR:1<=R)(hw:WS R ar (r+1) w)(hl:x.l.length<=140737488355328)
  (hx:x.In w) (hbl:x.Bl (·≠R)) (hnb:x.nb) (hk1:1<=x.k) (hk2:x.k<=9) (hlen:x.l.length=Yu x.k)
  (hok1:UL x.k x.t.ty x.f.ty=Zf) (hok2:Xx ar (ins:Int) x.k x.n=Zf)
  (b7:Bool) (h7:(x.k==7)=b7) (ins':Nat) (hins:(ins':Int)=if b7=Zf then (ins:Int)+1 else (ins:Int))
  (HC:Zh (∀(j:Nat)(hj:j<x.l.length)(q:Nat)(W:U),q<=r->Gp W->WS R ar q W->x.l[j].In W->Z E 46 #[Za (L ⟨R,0,C⟩),Zk #[F G x.l[j].k,F G x.l[j].n,F G x.l[j].t.k,I x.l[j].t.a x.l[j].t.l.length x.l[j].t.c,F G x.l[j].f.k,I x.l[j].f.a x.l[j].f.l.length x.l[j].f.c,I x.l[j].a x.l[j].l.length x.l[j].c],F G (ins':Int)] W (Ut R ar (XM ar n (Xu x.k (ins:Int)) x.l[j].tm q) W)))
  (HM:Zh (∀(y:TT)(q q':Nat),y∈x.l->XM ar n (Xu x.k (ins:Int)) y.tm q=L q'->q'<=q)) :
  Z E 46 #[Za (L ⟨R,0,C⟩),Zk #[F G x.k,F G x.n,F G x.t.k,I x.t.a x.t.l.length x.t.c,F G x.f.k,I x.f.a x.f.l.length x.f.c,I x.a x.l.length x.c],F G (ins:Int)] w (Ut R ar (Ul (fun (y:TT)r'=>XM ar n (Xu x.k (ins:Int)) y.tm r') x.l r) w):=by
 have hr:=hw.r;have hz:=hw.z;have ac:=hw.lt;have e0:((r+1:Nat):Int)=(r:Int)+1:=by omega
 rw[e0] at hr;have e1:(((r:Int)+1)==0)=Y:=by simp;omega
 have ad:decide (x.k<1)=Y:=by simp;omega
 have ab:decide (9<x.k)=Y:=by simp;omega
 have hp:=KA hg x.k hk1 hk2;have a5:((x.l.length:Int)==(Yu x.k:Int))=Zf:=by rw[hlen];simp
 have aa:((x.l.length:Int) != (Yu x.k:Int))=Y:=by rw[bne,a5];rfl
 have i0:(0:Int)<=x.k:=by omega
 have i1:x.k<10:=by omega
 have n2:(0:Nat)≠R:=by omega
 have ae:0<w.heap.size:=by have:=hg.size;omega
 have HX:Zh (∀nq,x.In ((OS R r x w).drewN nq)):=fun nq=>hx.lc (Lb R r x w nq) hbl;have HW:Zh (∀nq,WS R ar r ((OS R r x w).drewN nq)):=fun nq=>WU hw;have HB:Zh (∀nq,Uz ((OS R r x w).drewN nq) w.heap.size 0 x):=fun nq=>Pc R r x w nq;have a8:=Yy hnb.n;have HT:Zh (∀W,x.In W->Z E 80 #[Zk x.v] W fun e w'=>e=M (.bool Zf)/\bL W w'):=by intro W h;have:=M2 x W h.t h.f;rw[hok1] at this;exact this
 have a6:=Yy hok2;have HG:=Yy hg;have a4:=Yy hbl;have a2:=Yy hins;have af:(ins:Int)+1<=1001:=by omega
 clear hok1 hok2 hlen hk1 hk2 hg hbl hx hw hnb hins;cases b7
 all_goals
  go_enter Ya,Z4
  go_wp2_with fail
  go_quiet (fail)
  go_wp2_with fail
  refine(HT.out _ (HX.out nq)).mono ?_
  rintro e w1 ⟨rfl,d⟩
  have HN:Zh (Z E 81 #[Za (L ⟨R,0,C⟩),Zk x.v,F G (ins:Int)] w1 fun e w'=>e=M (.bool Zf)/\bL w1 w'):=by have:=Mm R ar ins hi x a8.out w1 ((HW.out nq).below d).a;rw[a6.out] at this;exact this
  have HE:=O8 ((HW.out nq).below d) ((Lb R r x w nq).trans (Yi.la d)) ((HX.out nq).below d) ((HB.out nq).below d)
  obtain⟨_,_,_,c0,c1,c2,c3,c4,c5,c6⟩:=HE.out
  simp only[Zu] at c0 c1 c2 c3 c4 c5 c6
  clear d
  go_wp2_with fail
  refine HN.out.mono ?_
  rintro e w2 ⟨rfl,c⟩
  have k:=O8 (HE.out.1.below c) (HE.out.2.1.trans (Yi.la c)) (HE.out.2.2.1.below c) ((HG.out.kept hR HE.out.2.1).below c)
  replace c0:=Z8 c c0
  replace c6:=Z8 c c6
  clear c c1 c2 c3 c4 c5 HE HN HX HW HB
  go_wp2_with fail
  go_loopg [57] x.l.length (fun g i wr=>∃(j q:Nat),g+j=x.l.length/\i=F G (j:Int)/\Zh (q<=r/\Ul (fun (y:TT)r'=>XM ar n (Xu x.k (ins:Int)) y.tm r') x.l r=Ul (fun (y:TT)r'=>XM ar n (Xu x.k (ins:Int)) y.tm r') (x.l.drop j) q/\WS R ar q wr/\Yi R C w2 wr))
  case atStart=>exact⟨0,r,by omega,rfl,T _,rfl,k.out.1,Yi.la (Zb _ _)⟩
  case round=>
   obtain⟨j,q,hj,rfl,a⟩:=hrel;by_cases hlt:j<x.l.length
   .obtain⟨b,o,ea,h7',hxj⟩:=k.out.2.2.1.part j hlt;have a9:b≠R:=a4.out.own (by intro e;rw[e] at hlt;simp at hlt) _ ea;have u:=h7'.lc a.out.2.2.2 a9;have d0:=u.c0;have d1:=u.c1;have d2:=u.c2;have d3:=u.c3;have d4:=u.c4;have d5:=u.c5;have d6:=u.c6;have a3:=hxj.lc a.out.2.2.2 (a4.out.mem (ZM hlt));have a0:=Yy a3;have ah:wr.heap.size≠R:=by have:=a.out.2.2.1.lt;omega
    have i2:(j:Int)<(x.l.length:Int):=by omega
    have i3:(0:Int)<=(j:Int):=by omega
    have a7:=Yy ea;rw[ea];have m:∀o,bL wr (wr.alloc o):=fun o=>(Zb _ _).alloc (T _) _;have HP:Zh (∀o,Z E 46 #[Za (L ⟨R,0,C⟩),Zk x.l[j].v,F G (ins':Int)] (wr.alloc o) (Ut R ar (XM ar n (Xu x.k (ins:Int)) x.l[j].tm q) (wr.alloc o))):=fun o=>HC.out j hlt q _ a.out.1 ((k.out.2.2.2.kept hR a.out.2.2.2).below (m o)) (a.out.2.2.1.below (m o)) (a0.out.below (m o));rw[a2.out] at HP;clear h7' hxj u a3 ea m;simp only[Bool.false_eq_true,if_false,if_true] at HP;go_wp2_with fail;refine(HP.out _).mono ?_;rintro e w3 ⟨r3,rfl,l,z,a1⟩;have p:Yi R C w2 w3:=(a.out.2.2.2.trans (Yi.la ((Zb _ _).alloc (T _) _))).trans a1;have HS:=Yy (List.drop_eq_getElem_cons hlt);cases ho:XM ar n (Xu x.k (ins:Int)) x.l[j].tm q with
    |none=>
     have HF:Zh (Ut R ar (Ul (fun (y:TT)r'=>XM ar n (Xu x.k (ins:Int)) y.tm r') x.l r) w (M (.bool Y)) w3):=by
      have e:Ul (fun (y:TT)r'=>XM ar n (Xu x.k (ins:Int)) y.tm r') x.l r=C:=by rw[a.out.2.1,HS.out,Ul,ho];rfl
      rw[e];exact⟨r3,rfl,l,(fun q h=>by cases h),k.out.2.1.trans p⟩
     clear l z a1 p ho a HP a0 d0 d1 d2 d3 d4 d5 d6;simp only[Option.isSome_none];go_wp2_with fail;go_ret;exact HF.out
    |some q'=>
     have HF:Zh (q'<=r/\Ul (fun (y:TT)r'=>XM ar n (Xu x.k (ins:Int)) y.tm r') x.l r=Ul (fun (y:TT)r'=>XM ar n (Xu x.k (ins:Int)) y.tm r') (x.l.drop (j+1)) q'/\WS R ar q' w3/\Yi R C w2 w3):=by have e:=z q' ho;subst e;refine⟨Nat.le_trans (HM.out _ q q' (ZM hlt) ho) a.out.1,?_,l,p⟩;rw[a.out.2.1,HS.out,Ul,ho];rfl
     clear l z a1 p ho a HP a0 d0 d1 d2 d3 d4 d5 d6;simp only[Option.isSome_some];go_wp2_with fail;rw[<-a7.out];go_roundg (x.l.length-(j+1))
     case measure=>omega
     case rel=>exact⟨j+1,q',by omega,by go_num,HF⟩
   .have HF:Zh (Ut R ar (Ul (fun (y:TT)r'=>XM ar n (Xu x.k (ins:Int)) y.tm r') x.l r) w (M (.bool Zf)) wr):=by
     have e:Ul (fun (y:TT)r'=>XM ar n (Xu x.k (ins:Int)) y.tm r') x.l r=L q:=by rw[a.out.2.1,List.drop_eq_nil_of_le (by omega),Ul]
     rw[e];exact⟨q,rfl,a.out.2.2.1,(fun q h=>by cases h;rfl),k.out.2.1.trans a.out.2.2.2⟩
    clear a;go_wp2_with fail;go_ret;exact HF.out
theorem Rt{α β:Type}(g:α->β)(f:β->Nat->Option Nat):∀(l:List α)(r:Nat),Ul f (l.map g) r=Ul (fun y r'=>f (g y) r') l r
 |[],r=>rfl
 |x::l,r=>by
  simp only[List.map_cons,Ul];cases f (g x) r with
  |none=>rfl
  |some q=>exact Rt g f l q
theorem Vk{α:Type}(f:α->Nat->Option Nat)(hf:∀y q q',f y q=L q'->q'<=q):∀(l:List α)(r r':Nat),Ul f l r=L r'->r'<=r
 |[],r,r',h=>by simp[Ul] at h;omega
 |x::l,r,r',h=>by
  simp only[Ul] at h;cases hq:f x r with
  |none=>rw[hq] at h;cases h
  |some q=>rw[hq] at h;have:=hf x r q hq;have:=Vk f hf l q r' h;omega
theorem Qb(ar:Int):∀(n:Nat)(ins:Int)(x:Tm)(r r':Nat),XM ar n ins x r=L r'->r'<=r
 |0,_,_,_,_,h=>by simp[XM] at h
 |n+1,ins,x,0,_,h=>by simp[XM] at h
 |n+1,ins,x,r+1,r',h=>by
  simp only[XM] at h;split at h
  .have:=Vk _ (fun y q q' h=>Qb ar n (Xu x.k ins) y q q' h) x.l r r' h;omega
  .cases h
theorem NE(k:Int):Yu k<=3:=by
 unfold Yu;repeat' split
 all_goals omega
theorem BD(R:Nat)(ar:Int)(hR:1<=R)(n:Nat):n<=500->∀(ins:Nat)(x:TT)(r:Nat)(w:U),r<=n->ins+n<=1000->Gp w->WS R ar r w->x.In w->x.Bl (·≠R)->x.nb->
  Z E 46 #[Za (L ⟨R,0,C⟩),Zk #[F G x.k,F G x.n,F G x.t.k,I x.t.a x.t.l.length x.t.c,F G x.f.k,I x.f.a x.f.l.length x.f.c,I x.a x.l.length x.c],F G (ins:Int)] w (Ut R ar (XM ar n (ins:Int) x.tm r) w):=by
 induction n with
 |zero=>
  intro _ ins x r w o _ _ d _ _ _;obtain rfl:r=0:=by omega
  exact P9 R ar _ x w d
 |succ n ih=>
  intro u ins x r w o hi k d l a b;cases r with
  |zero=>exact P9 R ar _ x w d
  |succ r=>
   have e:XM ar (n+1) (ins:Int) x.tm (r+1)=if U3 ar (ins:Int) x.tm=Zf then Ul (fun (y:TT)r'=>XM ar n (Xu x.k (ins:Int)) y.tm r') x.l r else C:=by rw[XM,TT.mq,TT.mc,Rt]
   rw[e];have m:U3 ar (ins:Int) x.tm=((decide (1<=x.k)&&decide (x.k<=9)&&(x.l.length==Yu x.k))&&(UL x.k x.t.ty x.f.ty&&Xx ar (ins:Int) x.k x.n)):=by rw[U3,TT.mq,TT.mc,TT.nu,TT.qd,TT.pj,List.length_map]
   rw[m];by_cases h1:(decide (1<=x.k)&&decide (x.k<=9)&&(x.l.length==Yu x.k))=Zf
   .have h1':=h1;simp only[Bool.and_eq_true,decide_eq_true_eq,beq_iff_eq] at h1';obtain⟨⟨i,g⟩,c⟩:=h1';have p:=NE x.k;by_cases h2:(UL x.k x.t.ty x.f.ty&&Xx ar (ins:Int) x.k x.n)=Zf
    .rw[h1,h2,Bool.and_self,if_pos rfl];simp only[Bool.and_eq_true] at h2;by_cases h7:x.k=7
     .refine Rj R ar n r (by omega) ins (by omega) x w k hR d (by omega) l a b i g c h2.1 h2.2 Zf (by simp[h7]) (ins+1) (by simp) ?_ ?_
      .intro j hj q W hq hgW hwW hxW;have:=ih (by omega) (ins+1) x.l[j] q W (by omega) (by omega) hgW hwW hxW (a.mem (ZM hj)) (b.mem (ZM hj));have e:Xu x.k (ins:Int)=((ins+1:Nat):Int):=by rw[Xu,if_pos h7];omega
       rw[e];exact this
      .intro y q q' _ h;exact Qb _ _ _ _ _ _ h
     .refine Rj R ar n r (by omega) ins (by omega) x w k hR d (by omega) l a b i g c h2.1 h2.2 Y (by simp[h7]) ins (by simp) ?_ ?_
      .intro j hj q W hq hgW hwW hxW;have:=ih (by omega) ins x.l[j] q W (by omega) (by omega) hgW hwW hxW (a.mem (ZM hj)) (b.mem (ZM hj));have e:Xu x.k (ins:Int)=(ins:Int):=by rw[Xu,if_neg h7]
       rw[e];exact this
      .intro y q q' _ h;exact Qb _ _ _ _ _ _ h
    .have h2':(UL x.k x.t.ty x.f.ty&&Xx ar (ins:Int) x.k x.n)=Y:=by simpa using h2
     rw[h2',Bool.and_false,if_neg (by simp)];exact Ws R ar r (by omega) ins (by omega) x w k hR d l a b i g c h2'
   .have h1':(decide (1<=x.k)&&decide (x.k<=9)&&(x.l.length==Yu x.k))=Y:=by simpa using h1
    rw[h1',Bool.false_and,if_neg (by simp)];exact Wt R ar r (by omega) _ x w k hR d h1'
def UC(ar:Int)(x:Tm):Bool:=(XM ar 40 0 x 40).isSome
theorem Qa(x:TT)(a:Int)(w:U)(l:Gp w)(m:x.In w)(i:x.nb):
  Z E 29 #[Zk #[F G x.k,F G x.n,F G x.t.k,I x.t.a x.t.l.length x.t.c,F G x.f.k,I x.f.a x.f.l.length x.f.c,I x.a x.l.length x.c],F G a] w fun e w'=>e=M (.bool (UC a x.tm))/\Zw w.heap.size w w':=by
 have a0:=l.size;have d:∀o,bL w (w.alloc o):=fun o=>(Zb _ _).alloc (T _) _;have g:∀o q,bL w ((w.alloc o).alloc q):=fun o q=>(d o).alloc (by simp) _;have HC:Zh (∀W,bL w W->WS (w.heap.size+1) a 40 W->Z E 46 #[Za (L ⟨w.heap.size+1,0,C⟩),Zk x.v,F G 0] W (Ut (w.heap.size+1) a (XM a 40 0 x.tm 40) W)):=by intro W u j;exact BD (w.heap.size+1) a (by omega) 40 (by omega) 0 x 40 W (T _) (by omega) (l.below u) j (m.below u) (m.bl.mono fun b h=>by omega) i
 have y:=Yy g;clear d g l m i;go_enter func29,ntmps29;go_wp2_with fail;refine(HC.out _ (y.out _ _) ⟨by simp[go_sem],by simp[go_sem],by simp[go_sem]⟩).mono ?_;rintro e z ⟨r,rfl,_,_,c⟩;have HF:Zh (bL w z):=by
  have p:((w.alloc (Zv x.v 27)).alloc (Zv #[F G a,F G 40] 80)).heap.size=w.heap.size+2:=by simp
  have:=c.size;rw[p] at this;refine(y.out (Zv x.v 27) (Zv #[F G a,F G 40] 80)).trans ?_;exact⟨c.os,c.tape,c.output,c.size,fun k h=>c.block k (by rw[p];omega) (by omega) (by simp)⟩
 clear c;go_wp2_with fail;go_ret;exact⟨rfl,HF.out⟩
def TT.tok:TT->Prop
 |⟨_,_,t,f,_,_,l⟩=>(t.hgt<=1000/\t.sm)/\(f.hgt<=1000/\f.sm)/\∀x,x∈l->x.tok
theorem TT.oj{k n:Int}{t f:Tr}{l:List TT}:(TT.mk k n t f a c l).tok↔(t.hgt<=1000/\t.sm)/\(f.hgt<=1000/\f.sm)/\∀x,x∈l->x.tok:=by rw[TT.tok]
theorem TT.tok.t{x:TT}(h:x.tok):x.t.hgt<=1000/\x.t.sm:=by cases x;exact(TT.oj.1 h).1
theorem TT.tok.f{x:TT}(h:x.tok):x.f.hgt<=1000/\x.f.sm:=by cases x;exact(TT.oj.1 h).2.1
theorem TT.tok.mem{x y:TT}(h:x.tok)(b:y∈x.l):y.tok:=by obtain⟨k,n,t,f,a,c,l⟩:=x;exact(TT.oj.1 h).2.2 y b
theorem L6(f:TT->Nat):∀(l:List TT)(j:Nat),((l.take j).map f).sum<=(l.map f).sum
 |[],j=>by simp
 |x::l,0=>by simp
 |x::l,j+1=>by have:=L6 f l j;simp only[List.take_succ_cons,List.map_cons,List.sum_cons];omega
def TT.sz:TT->Nat
 |⟨_,_,_,_,_,_,l⟩=>(l.map fun t=>t.sz).sum+1
theorem TT.lm(k n:Int)(t f:Tr)(a:Option Addr)(c:Nat)(l:List TT):(TT.mk k n t f a c l).sz=(l.map TT.sz).sum+1:=by rw[TT.sz]
theorem TT.mr(x:TT):x.sz=(x.l.map TT.sz).sum+1:=by cases x;rw[TT.lm]
theorem TT.mi(x:TT):1<=x.sz:=by rw[TT.mr];omega
def Fs(ps:List (TT×TT)):List Zm:=ps.flatMap fun p=>[I p.1.a p.1.l.length p.1.c,I p.2.a p.2.l.length p.2.c]
def Pr(B:Nat)(w:U)(p:TT×TT):Prop:=p.1.In w/\p.2.In w/\p.1.Bl (·<B)/\p.2.Bl (·<B)/\p.1.tok/\p.1.l.map TT.tm=p.2.l.map TT.tm
theorem Pr.low{p:TT×TT}(h:Pr B w p)(hb:Zw B w w'):Pr B w' p:=⟨h.1.congr (P:=(·<B)) (fun b hb' o=>hb.cell (p:=⟨b,o,C⟩) hb') h.2.2.1,h.2.1.congr (P:=(·<B)) (fun b hb' o=>hb.cell (p:=⟨b,o,C⟩) hb') h.2.2.2.1,h.2.2⟩
def FI(ps:List (TT×TT)):Nat:=(ps.map fun p=>p.1.sz).sum
structure F2(B:Nat)(v:Zm)(ps:List (TT×TT))(w:U):Prop where
 own:w.ownsRow B 59 2 v ps.length (Fs ps)
 ins:∀p,p∈ps->Pr B w p
theorem F2.len{ps:List (TT×TT)}:ps.length<=FI ps:=by
 induction ps with
 |nil=>simp
 |cons p r ih=>have:=p.1.mi;simp only[FI,List.map_cons,List.sum_cons,Z7] at ih ⊢;omega
theorem P5{t:Ty}(h:XQ t=Zf):t=Yk:=by
 obtain⟨k,l⟩:=t;simp only[XQ,Yk,Y0,YA,Bool.false_or,Bool.and_eq_true,beq_iff_eq] at h;obtain⟨rfl,h⟩:=h;cases l with
 |nil=>rfl
 |cons x r=>simp[Uu] at h
def Tm.sz:Tm->Nat
 |⟨_,_,_,_,l⟩=>(l.map fun t=>t.sz).sum+1
theorem Tm.lm(k n:Int)(t f:Ty)(l:List Tm):(Tm.mk k n t f l).sz=(l.map Tm.sz).sum+1:=by rw[Tm.sz]
theorem TT.me(x:TT):x.sz=x.tm.sz:=by
 induction x using TT.ind with
 |h k n t f a c l ih=>rw[TT.ma,TT.lm,Tm.lm,List.map_map];have:l.map TT.sz=l.map (Tm.sz∘TT.tm):=List.map_congr_left fun x b=>ih x b;rw[this]
def Ft(ps:List TT):List Zm:=ps.map fun p=>I p.a p.l.length p.c
def Jd(ps:List TT):Nat:=(ps.map TT.sz).sum
def E7(B:Nat)(w:U)(p:TT):Prop:=p.In w/\p.Bl (·<B)
theorem E7.low{p:TT}(h:E7 B w p)(hb:Zw B w w'):E7 B w' p:=⟨h.1.congr (P:=(·<B)) (fun b hb' o=>hb.cell (p:=⟨b,o,C⟩) hb') h.2,h.2⟩
structure FU(B:Nat)(v:Zm)(ps:List TT)(w:U):Prop where
 own:w.ownsRow B 25 1 v ps.length (Ft ps)
 ins:∀p,p∈ps->E7 B w p
theorem FU.len{ps:List TT}:ps.length<=Jd ps:=by
 induction ps with
 |nil=>simp
 |cons p r ih=>have:=p.mi;simp only[Jd,List.map_cons,List.sum_cons,Z7] at ih ⊢;omega
theorem Ae:∀l:List TT,l.length<=(l.map TT.sz).sum
 |[]=>by simp
 |u::r=>by have:=u.mi;have:=Ae r;simp only[Z7,List.map_cons,List.sum_cons];omega
def N0(R:Nat)(b:Bool)(o:Option (List ByteArray))(w':U):Prop:=(∃r,o=L r/\RS R r b w')\/(o=C/\RS R [] Zf w')
theorem Pb(R:Nat)(word:ByteArray)(hw:(⟨#[]⟩:ByteArray)≠word)(ws:List ByteArray)(b:Bool)(w:U)(h:RS R ws b w):
  Z E 87 #[Za (L ⟨R,0,C⟩),.string word] w fun e w'=>e=M (Zo #[])/\N0 R b (behind word ws) w'/\Yi R C w w':=by
 cases ws with
 |nil=>refine(B4 R word hw b w h).mono ?_;rintro e w' ⟨rfl,a,c⟩;exact⟨rfl,.inr ⟨rfl,a⟩,c⟩
 |cons x r=>
  refine(AB R x word r b w h).mono ?_;rintro e w' ⟨rfl,⟨d,a⟩|⟨d,a⟩,c⟩
  .exact⟨rfl,.inl ⟨r,by simp[behind,d],a⟩,c⟩
  .exact⟨rfl,.inr ⟨by simp[behind,d],a⟩,c⟩
def Kg(R:Nat)(b:Bool)(o:Option (Ty×List ByteArray))(w:U)(e:Ending)(w':U):Prop:=∃t:Tr,e=M (Zk #[F G t.k,I t.a t.l.length t.c])/\t.In w'/\t.Bl (w.heap.size<=·)/\Yi R C w w'/\N0 R b (o.map (·.2)) w'/\∀p,o=L p->t.ty=p.1
theorem Nx{v u' v':Zm}(b:w.cell? ⟨k,0,C⟩=L u')(a:w.cell? ⟨k,1,C⟩=L v'):
  ((w.setCell ⟨k,0,C⟩ u).setCell ⟨k,1,C⟩ v).cell? ⟨k,0,C⟩=L u/\((w.setCell ⟨k,0,C⟩ u).setCell ⟨k,1,C⟩ v).cell? ⟨k,1,C⟩=L v:=by
 constructor
 .rw[S _ _ _ _ (by simp)];exact Zc _ _ _ b
 .refine Zc _ _ _ (u:=v') ?_;rw[S _ _ _ _ (by simp)];exact a
theorem Ln{v:Zm}(h:Yi R C w w')(a:w.heap.size<=k):Yi R C w ((w'.setCell ⟨k,0,C⟩ u).setCell ⟨k,1,C⟩ v):=
 ⟨h.os,h.tape,h.output,by have:=h.size;simpa[World.setCell] using this,fun q hq h1 h2=>by
  have hn:q≠k:=by omega
  rw[Below.heap_setCell _ _ _ _ hn,Below.heap_setCell _ _ _ _ hn];exact h.block q hq h1 h2⟩
theorem QA(R n:Nat)(x:ByteArray)(r:List ByteArray)(hx:x≠M0)(b:Bool)(w:U)(hg:Gl w)(hR:12<=R)(h:RS R (x::r) b w):
  Z E 86 #[Za (L ⟨R,0,C⟩)] w (Kg R b (YR (n+1) (x::r)) w):=by
 have l:bL w (w.alloc (Zv #[F G 0,I C 0 0] 24)):=(Zb _ _).alloc (T _) _;have HN:Zh (Z E 51 #[Za (L ⟨R,0,C⟩)] (w.alloc (Zv #[F G 0,I C 0 0] 24)) fun e w'=>e=M (.string x)/\RS R r b w'/\Yi R C (w.alloc (Zv #[F G 0,I C 0 0] 24)) w'):=JJ R x r b _ (h.below l);have a2:=h.lt;have hq:(x.toList==[40])=Y:=by have:=(Lib.bytes_beq_false_iff x M0).2 hx;rw[M0,Lib.toList_data ⟨#[40]⟩] at this;exact this
 have HG:=Yy (hg.below l);have HX:Zh (YR (n+1) (x::r)=(YY x Jy 0).map fun (k:Nat)=>(Ty.mk (k:Int) [],r)):=by have e:YR (n+1) (x::r)=if x=M0 then (behind EZ r).bind fun r1=>(YR n r1).bind fun p=>(YR n p.2).bind fun q=>(behind QK q.2).map fun r4=>(⟨3,[p.1,q.1]⟩,r4) else (YY x Jy 0).map fun (k:Nat)=>(Ty.mk (k:Int) [],r):=rfl;exact e.trans (if_neg hx)
 clear h hx hg;go_enter func86,ntmps86;go_wp2_with fail;refine HN.out.mono ?_;rintro e c ⟨rfl,hr,o⟩;have z0:c.cell? ⟨w.heap.size,0,C⟩=L (F G 0):=o.cell (by simp[go_sem]) (by omega);have z1:c.cell? ⟨w.heap.size,1,C⟩=L (I C 0 0):=o.cell (by simp[go_sem]) (by omega);have m:=o.block w.heap.size (by simp) (by omega) (by simp);have z2:c.frozen? ⟨w.heap.size,0,C⟩=Y:=(Zq (a:=⟨w.heap.size,0,C⟩) m).trans (by simp[go_sem]);have z3:c.frozen? ⟨w.heap.size,1,C⟩=Y:=(Zq (a:=⟨w.heap.size,1,C⟩) m).trans (by simp[go_sem]);have g:=Yy (HG.out.kept hR o);have HK:=Yy ((Yi.la l).trans o);have HR:=Yy hr;have a1:w.heap.size<c.heap.size:=Zg _ _ z0;clear o hr m HN HG;cases ha:YY x Jy 0 with
 |none=>
  have HT:Zh (Z E 126 #[.string x] c fun e w'=>e=M (Zo #[F G 0,.bool Y])/\w'=c):=by have:=Ks x c g.out;rw[ha] at this;exact this
  have z:Zh (YR (n+1) (x::r)=C):=by show _=_;rw[HX.out,ha];rfl
  have HF:=Yy (J0 R r b c HR.out);clear ha HX g;go_wp2_with fail;refine HT.out.mono ?_;rintro e w2 ⟨rfl,rfl⟩;go_wp2_with fail;refine HF.out.mono ?_;rintro e w3 ⟨rfl,a0,d⟩;have i:w.heap.size≠R:=by omega
  have y0:=d.cell z0 i;have y1:=d.cell z1 i;have j:=d.block w.heap.size a1 i (by simp);have y2:=(Zq (a:=⟨w.heap.size,0,C⟩) j).trans z2;have y3:=(Zq (a:=⟨w.heap.size,1,C⟩) j).trans z3;have y:=Uy a0 (HK.out.trans d);clear a0 d j z0 z1 z2 z3 HF HT HR HK;go_wp2_with fail;refine Ze (v:=Zk #[F G 0,I C 0 0]) ?_ rfl ⟨Ys 0,rfl,YC _ _,YF _ _,?_,?_,?_⟩
  .have hc:=Nx (u:=F G 0) (v:=I C 0 0) y0 y1;simp[results,results86,go_sem,hc.1,hc.2]
  .exact Ln y.out.2 (T _)
  .exact .inr ⟨by rw[z.out];rfl,y.out.1.nz (by omega)⟩
  .intro p hp;rw[z.out] at hp;cases hp
 |some k=>
  have HT:Zh (Z E 126 #[.string x] c fun e w'=>e=M (Zo #[F G (k:Int),.bool Zf])/\w'=c):=by have:=Ks x c g.out;rw[ha] at this;exact this
  have z:Zh (YR (n+1) (x::r)=L (⟨(k:Int),[]⟩,r)):=by show _=_;rw[HX.out,ha];rfl
  clear ha HX g;go_wp2_with fail;refine HT.out.mono ?_;rintro e w2 ⟨rfl,rfl⟩;go_wp2_with fail;refine Ze (v:=Zk #[F G (k:Int),I C 0 0]) ?_ rfl ⟨Ys (k:Int),rfl,YC _ _,YF _ _,?_,?_,?_⟩
  .have hc:=Nx (u:=F G (k:Int)) (v:=I C 0 0) z0 z1;simp[results,results86,go_sem,hc.1,hc.2]
  .exact Ln HK.out (T _)
  .exact .inl ⟨r,by rw[z.out];rfl,HR.out.nz (by omega)⟩
  .intro p hp;rw[z.out] at hp;cases hp;simp[Ys,Tr.lh]
def Um(o:Option (List ByteArray))(b:Bool)(ws':List ByteArray)(b':Bool):Prop:=(o=L ws'/\b'=b)\/(o=C/\ws'=[]/\b'=Zf)
theorem N0.letters{o:Option (List ByteArray)}(h:N0 R b o w):∃ws' b',RS R ws' b' w/\Um o b ws' b':=by
 rcases h with⟨r,c,a⟩|⟨c,a⟩
 .exact⟨r,b,a,.inl ⟨c,rfl⟩⟩
 .exact⟨[],Zf,a,.inr ⟨c,rfl,rfl⟩⟩
theorem Um.after{o:Option (List ByteArray)}(h:Um o b ws' b')(c:RS R ws' b' w):N0 R b o w:=by
 rcases h with⟨a,rfl⟩|⟨a,rfl,rfl⟩
 .exact .inl ⟨_,a,c⟩
 .exact .inr ⟨a,c⟩
theorem LV{x:ByteArray}{ws r:List ByteArray}(h:behind x ws=L r):r.length<ws.length:=by
 cases ws with
 |nil=>cases h
 |cons y s=>
  simp only[behind] at h;split at h
  .cases h;simp
  .cases h
theorem Ku:∀(n:Nat)(ws:List ByteArray)(p:Ty×List ByteArray),YR n ws=L p->p.2.length<ws.length
 |0,_,_,h=>by simp[YR] at h
 |n+1,[],_,h=>by simp[YR] at h
 |n+1,x::r,p,h=>by
  simp only[YR] at h;split at h
  .simp only[Zx,V] at h;obtain⟨r1,h1,q1,h2,q2,h3,r4,h4,rfl⟩:=h;have a1:=LV h1;have a2:=Ku n _ _ h2;have a3:=Ku n _ _ h3;have a4:=LV h4;simp only[Z7];omega
  .simp only[V] at h;obtain⟨k,_,rfl⟩:=h;simp
theorem Nc(n:Nat):YR n []=C:=by cases n<;>rfl
theorem Um.len{o:Option (List ByteArray)}{N:Nat}(h:Um o b ws' b')(a:∀r,o=L r->r.length<=N):ws'.length<=N:=by
 rcases h with⟨c,_⟩|⟨_,rfl,_⟩
 .exact a _ c
 .exact Nat.zero_le _
theorem RR(R n:Nat)(b:Bool)(w:U)(q:Gl w)(hR:12<=R)(h:RS R [] b w):
  Z E 86 #[Za (L ⟨R,0,C⟩)] w (Kg R b (YR n []) w):=by
 have i:Zw w.heap.size w (w.alloc (Zv #[F G 0,I C 0 0] 24)):=(Zb _ _).alloc (T _) _;have HN:Zh (Z E 51 #[Za (L ⟨R,0,C⟩)] (w.alloc (Zv #[F G 0,I C 0 0] 24)) fun e w'=>e=M (.string ⟨#[]⟩)/\RS R [] Zf w'/\Yi R C (w.alloc (Zv #[F G 0,I C 0 0] 24)) w'):=NH R b _ (h.below i);have a0:=h.lt;have HG:Zh (Gl (w.alloc (Zv #[F G 0,I C 0 0] 24))):=q.below i;rw[Nc];clear h q;go_enter func86,ntmps86;go_wp2_with fail;refine HN.out.mono ?_;rintro e c ⟨rfl,hr,g⟩;have o:c.cell? ⟨w.heap.size,0,C⟩=L (F G 0):=g.cell (by simp[go_sem]) (by omega);have y:c.cell? ⟨w.heap.size,1,C⟩=L (I C 0 0):=g.cell (by simp[go_sem]) (by omega);have x:c.frozen? ⟨w.heap.size,0,C⟩=Y:=g.fz (by simp[go_sem]) (by simp) (by omega);have z3:c.frozen? ⟨w.heap.size,1,C⟩=Y:=g.fz (by simp[go_sem]) (by simp) (by omega);have m:=Yy (HG.out.kept hR g);have HK:=Yy ((Yi.la i).trans g);have z:=Yy hr;have k:w.heap.size<c.heap.size:=Zg _ _ o;have HT:Zh (Z E 126 #[.string ⟨#[]⟩] c fun e w'=>e=M (Zo #[F G 0,.bool Y])/\w'=c):=Ks ⟨#[]⟩ c m.out;have r:=Yy (J0 R [] Zf c z.out);clear g hr HN HG m;go_wp2_with fail;refine HT.out.mono ?_;rintro e w2 ⟨rfl,rfl⟩;go_wp2_with fail;refine r.out.mono ?_;rintro e w3 ⟨rfl,l,a⟩;have d:w.heap.size≠R:=by omega
 have y0:=a.cell o d;have y1:=a.cell y d;have y2:=a.fz x k d;have y3:=a.fz z3 k d;have j:=Uy l (HK.out.trans a);clear l a o y x z3 r HT z HK;go_wp2_with fail;refine Ze (v:=Zk #[F G 0,I C 0 0]) ?_ rfl ⟨Ys 0,rfl,YC _ _,YF _ _,?_,?_,?_⟩
 .have hc:=Nx (u:=F G 0) (v:=I C 0 0) y0 y1;simp[results,results86,go_sem,hc.1,hc.2]
 .exact Ln j.out.2 (T _)
 .exact .inr ⟨rfl,j.out.1.nz (by omega)⟩
 .intro p hp;cases hp
def P6(n:Nat)(r:List ByteArray):Option (Ty×List ByteArray):=(behind EZ r).bind fun r1=>(YR n r1).bind fun p=>(YR n p.2).bind fun q=>(behind QK q.2).map fun r4=>(⟨3,[p.1,q.1]⟩,r4)
theorem Wo{n:Nat}{r ws2 ws3 ws4:List ByteArray}{b2 b3 b4:Bool}{t1 t2:Ty}
  (h1:Um (behind EZ r) b ws1 b1) (u:Um ((YR n ws1).map (·.2)) b1 ws2 b2) (e2:∀p,YR n ws1=L p->t1=p.1)
  (w:Um ((YR n ws2).map (·.2)) b2 ws3 b3) (e3:∀p,YR n ws2=L p->t2=p.1) (h4:Um (behind QK ws3) b3 ws4 b4) :
  Um ((P6 n r).map (·.2)) b ws4 b4/\∀p,P6 n r=L p->(⟨3,[t1,t2]⟩:Ty)=p.1:=by
 have a:∀(o:Option (Ty×List ByteArray)),o=C->ws4=[]->b4=Zf->Um (o.map (·.2)) b ws4 b4/\∀p,o=L p->(⟨3,[t1,t2]⟩:Ty)=p.1:=by rintro o rfl rfl rfl;exact⟨.inr ⟨rfl,rfl,rfl⟩,fun p h=>by cases h⟩
 have d:ws3=[]->b3=Zf->ws4=[]/\b4=Zf:=by
  rintro rfl rfl;rcases h4 with⟨h,_⟩|⟨_,h,l⟩
  .cases h
  .exact⟨h,l⟩
 have g:ws2=[]->b2=Zf->ws4=[]/\b4=Zf:=by
  rintro rfl rfl;rw[Nc] at w;rcases w with⟨h,_⟩|⟨_,h,l⟩
  .cases h
  .exact d h l
 have k:ws1=[]->b1=Zf->ws4=[]/\b4=Zf:=by
  rintro rfl rfl;rw[Nc] at u;rcases u with⟨h,_⟩|⟨_,h,l⟩
  .cases h
  .exact g h l
 rcases h1 with⟨c,rfl⟩|⟨c,z,a1⟩
 .rcases u with⟨ho2,rfl⟩|⟨ho2,hn2,hb2⟩
  .obtain⟨p,hp,hp2⟩:=V.1 ho2;rcases w with⟨i,rfl⟩|⟨i,a3,a2⟩
   .obtain⟨q,hq,hq2⟩:=V.1 i;subst hp2;rcases h4 with⟨j,rfl⟩|⟨j,m,a0⟩
    .subst hq2;have e:P6 n r=L (⟨3,[p.1,q.1]⟩,ws4):=by simp[P6,c,hp,hq,j]
     rw[e];refine⟨.inl ⟨rfl,rfl⟩,fun x hx=>?_⟩;cases hx
     rw[e2 p hp,e3 q hq]
    .subst hq2;exact a _ (by simp[P6,c,hp,hq,j]) m a0
   .have hq:YR n p.2=C:=by rw[hp2];exact ZZ.1 i
    obtain⟨x,y⟩:=d a3 a2;exact a _ (by simp[P6,c,hp,hq]) x y
  .have hq:=ZZ.1 ho2;obtain⟨x,y⟩:=g hn2 hb2;exact a _ (by simp[P6,c,hq]) x y
 .obtain⟨x,y⟩:=k z a1;exact a _ (by simp[P6,c]) x y
theorem Tr.In.nz{v:Zm}{t:Tr}(h:t.In w)(c:t.Bl (·≠k)):t.In ((w.setCell ⟨k,0,C⟩ u).setCell ⟨k,1,C⟩ v):=by
 refine h.congr (P:=fun b=>b≠k) ?_ c;intro b a o;rw[S,S]
 .intro e;simp only[Addr.mk.injEq] at e;omega
 .intro e;simp only[Addr.mk.injEq] at e;omega
theorem BC(R n:Nat)(r:List ByteArray)(b:Bool)(w:U)(hg:Gl w)(hR:12<=R)(h:RS R r b w)(hn:r.length<=n)(bd:1<=n)
  (ih:Zh (∀(ws:List ByteArray)(b:Bool)(w:U),ws.length<n->Gl w->RS R ws b w->Z E 86 #[Za (L ⟨R,0,C⟩)] w (Kg R b (YR n ws) w))) :
  Z E 125 #[Za (L ⟨R,0,C⟩)] w (Kg R b (P6 n r) w):=by
 have ab:Zw w.heap.size w (w.alloc (Zv #[F G 0,I C 0 0] 24)):=(Zb _ _).alloc (T _) _;have HW:Zh (Z E 87 #[Za (L ⟨R,0,C⟩),.string ⟨#[116,111]⟩] (w.alloc (Zv #[F G 0,I C 0 0] 24)) fun e w'=>e=M (Zo #[])/\N0 R b (behind EZ r) w'/\Yi R C (w.alloc (Zv #[F G 0,I C 0 0] 24)) w'):=Pb R EZ (by decide) r b _ (h.below ab);have bc:=h.lt;have HG:Zh (Gl (w.alloc (Zv #[F G 0,I C 0 0] 24))):=hg.below ab;have HL:Zh (r.length<=n):=hn;clear h hg hn;go_enter func125,ntmps125;go_wp2_with fail;refine HW.out.mono ?_;rintro e w1 ⟨rfl,hA,hk⟩;obtain⟨aw,b1,ap,a7⟩:=hA.letters;have a9:aw.length<n:=by
  rcases a7 with⟨ho,_⟩|⟨_,rfl,_⟩
  .have:=LV ho;have:=HL.out;omega
  .simp;omega
 have z0:w1.cell? ⟨w.heap.size,0,C⟩=L (F G 0):=hk.cell (by simp[go_sem]) (by omega);have z1:w1.cell? ⟨w.heap.size,1,C⟩=L (I C 0 0):=hk.cell (by simp[go_sem]) (by omega);have z2:w1.frozen? ⟨w.heap.size,0,C⟩=Y:=hk.fz (by simp[go_sem]) (by simp) (by omega);have z3:w1.frozen? ⟨w.heap.size,1,C⟩=Y:=hk.fz (by simp[go_sem]) (by simp) (by omega);have a6:w.heap.size<w1.heap.size:=Zg _ _ z0;have HZ:=O8 z0 z1 z2 z3;have b8:=Yy ((Yi.la ab).trans hk);have ao:=Yy (ih.out aw b1 w1 a9 (HG.out.kept hR hk) ap);have b0:=Yy (HG.out.kept hR hk);have b7:=Yy a7;have ay:=Yy a9;clear hk hA ap a7 a9 HW HG z0 z1 z2 z3;go_wp2_with fail;refine ao.out.mono ?_;rintro e z ⟨t1,rfl,m,a4,x,an,aq⟩;obtain⟨l,b2,ah,a8⟩:=an.letters;have aj:l.length<n:=by
  rcases a8 with⟨ho,_⟩|⟨_,rfl,_⟩
  .obtain⟨p,hp,rfl⟩:=V.1 ho;have:=Ku n _ _ hp;have:=ay.out;omega
  .simp;omega
 have bb:=x.size;have HA:=Aa a8 aq m a4 x;have ac:∀o,bL z (z.alloc o):=fun o=>(Zb _ _).alloc (T _) _;have ar:Zh (∀o,Z E 86 #[Za (L ⟨R,0,C⟩)] (z.alloc o) (Kg R b2 (YR n l) (z.alloc o))):=fun o=>ih.out l b2 _ aj ((b0.out.kept hR x).below (ac o)) (ah.below (ac o));clear m a4 x an aq ah a8 aj ao b0 ay ac;go_wp2_with fail;refine(ar.out _).mono ?_;rintro e w3 ⟨t2,rfl,j,a3,k,am,ax⟩;obtain⟨ad,b3,az,af⟩:=am.letters;have q:w.heap.size≠R:=by omega
 have d:z.heap.size≠R:=by omega
 have v0:=k.cell (b:=z.heap.size) (i:=0) (v:=F G t1.k) (by simp[go_sem]) d;have v1:=k.cell (b:=z.heap.size) (i:=1) (v:=t1.s) (by simp[go_sem]) d;have b9:z.heap.size<w3.heap.size:=Zg _ _ v0;have ai:Yi R C w1 w3:=(HA.out.2.2.2.2.trans (Yi.la ((Zb _ _).alloc (T _) _))).trans k;have HB:Zh (Um ((YR n l).map (·.2)) b2 ad b3/\(∀p,YR n l=L p->t2.ty=p.1)/\t2.In w3/\t2.Bl (z.heap.size<·)/\Yi R C w1 w3/\t1.In w3):=⟨af,ax,j,a3.mono (fun b h=>by simp at h;omega),ai,HA.out.2.2.1.lc ((Yi.la ((Zb _ _).alloc (T _) _)).trans k) (HA.out.2.2.2.1.mono fun b h=>by omega)⟩
 have b6:∀o,bL w3 (w3.alloc o):=fun o=>(Zb _ _).alloc (T _) _;have ak:Zh (∀o,Z E 87 #[Za (L ⟨R,0,C⟩),.string ⟨#[41]⟩] (w3.alloc o) fun e w'=>e=M (Zo #[])/\N0 R b3 (behind QK ad) w'/\Yi R C (w3.alloc o) w'):=fun o=>Pb R QK (by decide) ad b3 _ (az.below (b6 o));clear j a3 k am ax az af ai ar b6;have HV:=Uy v0 v1;clear v0 v1;go_wp2_with fail;refine(ak.out _).mono ?_;rintro e w4 ⟨rfl,au,y⟩;obtain⟨be,b4,av,al⟩:=au.letters;have c:Yi R C w3 w4:=(Yi.la ((Zb _ _).alloc (T _) _)).trans y;have a2:w3.heap.size≠R:=by omega
 have v0:=c.cell HV.out.1 d;have v1:=c.cell HV.out.2 d;have u0:=y.cell (b:=w3.heap.size) (i:=0) (v:=F G t2.k) (by simp[go_sem]) a2;have u1:=y.cell (b:=w3.heap.size) (i:=1) (v:=t2.s) (by simp[go_sem]) a2;have a1:=HB.out.2.2.2.2.1.trans c;have ba:w3.heap.size<w4.heap.size:=Zg _ _ u0;have m:=HB.out.2.2.2.2.2.lc c (HA.out.2.2.2.1.mono fun b h=>by omega);have j:=HB.out.2.2.1.lc c (HB.out.2.2.2.1.mono fun b h=>by omega);have HT:=Yy (VC t1 t2 w4 m j);have HC:=LL al av a1;clear al av a1 c y au m j ak HV;go_wp2_with fail;refine HT.out.mono ?_;rintro e w5 ⟨g,b5,rfl,a5,aa⟩;have a:=HC.out.2.2.trans (Yi.la aa);have y0:=a.cell HZ.out.1 q;have y1:=a.cell HZ.out.2.1 q;have y2:=a.fz HZ.out.2.2.1 a6 q;have y3:=a.fz HZ.out.2.2.2 a6 q;have HD:=O8 (HC.out.2.1.below aa) (b8.out.trans a) a5 b5;clear b5 a5 aa a HT v0 v1 u0 u1;go_wp2_with fail;have a0:=Wo b7.out HA.out.1 (fun p hp=>HA.out.2.1 p hp) HB.out.1 (fun p hp=>HB.out.2.1 p hp) HC.out.1;have ae:(Tr.mk 3 (L ⟨g,0,C⟩) 2 [t1,t2]).Bl (w.heap.size<·):=by have:=HD.out.2.2.2;exact Tr.mg (by omega) (HA.out.2.2.2.1.mono fun b h=>by omega) (HB.out.2.2.2.1.mono fun b h=>by omega)
 refine Ze (v:=Zk #[F G 3,I (L ⟨g,0,C⟩) 2 2]) ?_ rfl ⟨Tr.mk 3 (L ⟨g,0,C⟩) 2 [t1,t2],rfl,HD.out.2.2.1.nz (ae.mono fun b h=>by omega),ae.mono (fun b h=>by omega),Ln HD.out.2.1 (T _),?_,?_⟩
 .have hc:=Nx (u:=F G 3) (v:=I (L ⟨g,0,C⟩) 2 2) y0 y1;simp[results,results125,go_sem,hc.1,hc.2]
 .exact a0.1.after (HD.out.1.nz (by omega))
 .intro p hp;rw[<-a0.2 p hp];simp[Tr.lh]
theorem QB(R n:Nat)(r:List ByteArray)(b:Bool)(w:U)(hR:12<=R)(q:Gl w)(h:RS R (M0::r) b w)
  (ih:Zh (∀(w:U),Gl w->RS R r b w->Z E 125 #[Za (L ⟨R,0,C⟩)] w (Kg R b (P6 n r) w))) :
  Z E 86 #[Za (L ⟨R,0,C⟩)] w (Kg R b (YR (n+1) (M0::r)) w):=by
 have g:Zw w.heap.size w (w.alloc (Zv #[F G 0,I C 0 0] 24)):=(Zb _ _).alloc (T _) _;have HN:Zh (Z E 51 #[Za (L ⟨R,0,C⟩)] (w.alloc (Zv #[F G 0,I C 0 0] 24)) fun e w'=>e=M (.string ⟨#[40]⟩)/\RS R r b w'/\Yi R C (w.alloc (Zv #[F G 0,I C 0 0] 24)) w'):=JJ R M0 r b _ (h.below g);have a0:=h.lt;have HG:Zh (Gl (w.alloc (Zv #[F G 0,I C 0 0] 24))):=q.below g;have e:YR (n+1) (M0::r)=P6 n r:=by rw[YR,if_pos rfl];rfl
 rw[e];clear h q e;go_enter func86,ntmps86;go_wp2_with fail;refine HN.out.mono ?_;rintro e i ⟨rfl,hr,d⟩;have a:w.heap.size≠R:=by omega
 have p:i.cell? ⟨w.heap.size,0,C⟩=L (F G 0):=d.cell (by simp[go_sem]) a;have y:i.cell? ⟨w.heap.size,1,C⟩=L (I C 0 0):=d.cell (by simp[go_sem]) a;have x:i.frozen? ⟨w.heap.size,0,C⟩=Y:=d.fz (by simp[go_sem]) (by simp) a;have z3:i.frozen? ⟨w.heap.size,1,C⟩=Y:=d.fz (by simp[go_sem]) (by simp) a;have l:w.heap.size<i.heap.size:=Zg _ _ p;have HT:=Yy (ih.out i (HG.out.kept hR d) hr);have HK:=Yy ((Yi.la g).trans d);clear d hr HN HG;go_wp2_with fail;refine HT.out.mono ?_;rintro e w2 ⟨t,rfl,hi,k,c,z,he⟩;have y0:=c.cell p a;have y1:=c.cell y a;have y2:=c.fz x l a;have y3:=c.fz z3 l a;have j:=Aa hi k (HK.out.trans c) z he;clear hi k c z he HK HT p y x z3;go_wp2_with fail;obtain⟨a1,b',o,m⟩:=j.out.2.2.2.1.letters;refine Ze (v:=Zk t.v) ?_ rfl ⟨t,rfl,j.out.1.nz (j.out.2.1.mono fun b h=>by omega),j.out.2.1.mono (fun b h=>by omega),Ln j.out.2.2.1 (T _),m.after (o.nz (by omega)),j.out.2.2.2.2⟩;have hc:=Nx (u:=F G t.k) (v:=t.s) y0 y1;simp[results,results86,go_sem,hc.1,hc.2]
theorem RT(R:Nat)(hR:12<=R)(n:Nat):∀(ws:List ByteArray)(b:Bool)(w:U),ws.length<n->Gl w->RS R ws b w->
  Z E 86 #[Za (L ⟨R,0,C⟩)] w (Kg R b (YR n ws) w):=by
 induction n with
 |zero=>intro ws b w h;omega
 |succ n ih=>
  intro ws b w c a h;cases ws with
  |nil=>exact RR R (n+1) b w a hR h
  |cons x r=>
   by_cases hx:x=M0
   .subst hx;refine QB R n r b w hR a h (fun w a h=>?_);cases n with
    |zero=>simp at c
    |succ n=>exact BC R (n+1) r b w a hR h (by simp at c;omega) (by omega) ih
   .exact QA R n x r hx b w a hR h
theorem Dn(v0 v1 v2 v3 v4 v5 v6 v7 v8 v9:Zm)(w:U):(Zd 180 (Zk #[v0,v1,v2,v3,v4,v5,v6,v7,v8,v9]) (F G 0)).run E w=.ok v0 w:=by simp[Zd,Zi Zp,go_sem]
theorem Dm(v0 v1 v2 v3 v4 v5 v6 v7 v8 v9:Zm)(w:U):(Zd 180 (Zk #[v0,v1,v2,v3,v4,v5,v6,v7,v8,v9]) (F G 1)).run E w=.ok v1 w:=by simp[Zd,Zi Zp,go_sem]
theorem Dl(v0 v1 v2 v3 v4 v5 v6 v7 v8 v9:Zm)(w:U):(Zd 180 (Zk #[v0,v1,v2,v3,v4,v5,v6,v7,v8,v9]) (F G 2)).run E w=.ok v2 w:=by simp[Zd,Zi Zp,go_sem]
theorem Dk(v0 v1 v2 v3 v4 v5 v6 v7 v8 v9:Zm)(w:U):(Zd 180 (Zk #[v0,v1,v2,v3,v4,v5,v6,v7,v8,v9]) (F G 3)).run E w=.ok v3 w:=by simp[Zd,Zi Zp,go_sem]
theorem Dj(v0 v1 v2 v3 v4 v5 v6 v7 v8 v9:Zm)(w:U):(Zd 180 (Zk #[v0,v1,v2,v3,v4,v5,v6,v7,v8,v9]) (F G 4)).run E w=.ok v4 w:=by simp[Zd,Zi Zp,go_sem]
theorem Di(v0 v1 v2 v3 v4 v5 v6 v7 v8 v9:Zm)(w:U):(Zd 180 (Zk #[v0,v1,v2,v3,v4,v5,v6,v7,v8,v9]) (F G 5)).run E w=.ok v5 w:=by simp[Zd,Zi Zp,go_sem]
theorem Dh(v0 v1 v2 v3 v4 v5 v6 v7 v8 v9:Zm)(w:U):(Zd 180 (Zk #[v0,v1,v2,v3,v4,v5,v6,v7,v8,v9]) (F G 6)).run E w=.ok v6 w:=by simp[Zd,Zi Zp,go_sem]
theorem Dg(v0 v1 v2 v3 v4 v5 v6 v7 v8 v9:Zm)(w:U):(Zd 180 (Zk #[v0,v1,v2,v3,v4,v5,v6,v7,v8,v9]) (F G 7)).run E w=.ok v7 w:=by simp[Zd,Zi Zp,go_sem]
theorem Df(v0 v1 v2 v3 v4 v5 v6 v7 v8 v9:Zm)(w:U):(Zd 180 (Zk #[v0,v1,v2,v3,v4,v5,v6,v7,v8,v9]) (F G 8)).run E w=.ok v8 w:=by simp[Zd,Zi Zp,go_sem]
theorem De(v0 v1 v2 v3 v4 v5 v6 v7 v8 v9:Zm)(w:U):(Zd 180 (Zk #[v0,v1,v2,v3,v4,v5,v6,v7,v8,v9]) (F G 9)).run E w=.ok v9 w:=by simp[Zd,Zi Zp,go_sem]
theorem PZ(x:ByteArray)(w:U)(hg:Gl w):Z E 84 #[.string x] w fun e w'=>e=M (Oi (X2 x))/\w'=w:=by
 have c0:=hg.wd.cell 0;have c1:=hg.wd.cell 1;have c2:=hg.wd.cell 2;have c3:=hg.wd.cell 3;have c4:=hg.wd.cell 4;have c5:=hg.wd.cell 5;have c6:=hg.wd.cell 6;have c7:=hg.wd.cell 7;have c8:=hg.wd.cell 8;have c9:=hg.wd.cell 9;simp only[List.getElem?_toArray,Yd,Ye] at c0 c1 c2 c3 c4 c5 c6 c7 c8 c9;clear hg;obtain⟨d,he⟩:∃b,x.toList.isEmpty=b:=⟨_,rfl⟩
 have HE:=Yy he;obtain⟨z,o⟩:∃b,((⟨#[97,100,100]⟩:ByteArray).toList==x.toList)=b:=⟨_,rfl⟩
 have H4:=Yy o;have k4:([97,100,100]==x.toList)=z:=by rw[<-o,Lib.toList_data ⟨#[97,100,100]⟩]
 obtain⟨g,q⟩:∃b,((⟨#[108,101,115,115]⟩:ByteArray).toList==x.toList)=b:=⟨_,rfl⟩
 have H5:=Yy q;have k5:([108,101,115,115]==x.toList)=g:=by rw[<-q,Lib.toList_data ⟨#[108,101,115,115]⟩]
 obtain⟨m,h6⟩:∃b,((⟨#[105,102]⟩:ByteArray).toList==x.toList)=b:=⟨_,rfl⟩
 have H6:=Yy h6;have k6:([105,102]==x.toList)=m:=by rw[<-h6,Lib.toList_data ⟨#[105,102]⟩]
 obtain⟨u,p⟩:∃b,((⟨#[102,117,110]⟩:ByteArray).toList==x.toList)=b:=⟨_,rfl⟩
 have H7:=Yy p;have k7:([102,117,110]==x.toList)=u:=by rw[<-p,Lib.toList_data ⟨#[102,117,110]⟩]
 obtain⟨b8,y⟩:∃b,((⟨#[99,97,108,108]⟩:ByteArray).toList==x.toList)=b:=⟨_,rfl⟩
 have H8:=Yy y;have k8:([99,97,108,108]==x.toList)=b8:=by rw[<-y,Lib.toList_data ⟨#[99,97,108,108]⟩]
 obtain⟨r,h9⟩:∃b,((⟨#[97,115]⟩:ByteArray).toList==x.toList)=b:=⟨_,rfl⟩
 have H9:=Yy h9;have k9:([97,115]==x.toList)=r:=by rw[<-h9,Lib.toList_data ⟨#[97,115]⟩]
 clear o q h6 p y h9;have x0:=Dn (.string ⟨#[]⟩) (.string ⟨#[]⟩) (.string ⟨#[]⟩) (.string ⟨#[]⟩) (.string ⟨#[97,100,100]⟩) (.string ⟨#[108,101,115,115]⟩) (.string ⟨#[105,102]⟩) (.string ⟨#[102,117,110]⟩) (.string ⟨#[99,97,108,108]⟩) (.string ⟨#[97,115]⟩);have x1:=Dm (.string ⟨#[]⟩) (.string ⟨#[]⟩) (.string ⟨#[]⟩) (.string ⟨#[]⟩) (.string ⟨#[97,100,100]⟩) (.string ⟨#[108,101,115,115]⟩) (.string ⟨#[105,102]⟩) (.string ⟨#[102,117,110]⟩) (.string ⟨#[99,97,108,108]⟩) (.string ⟨#[97,115]⟩);have x2:=Dl (.string ⟨#[]⟩) (.string ⟨#[]⟩) (.string ⟨#[]⟩) (.string ⟨#[]⟩) (.string ⟨#[97,100,100]⟩) (.string ⟨#[108,101,115,115]⟩) (.string ⟨#[105,102]⟩) (.string ⟨#[102,117,110]⟩) (.string ⟨#[99,97,108,108]⟩) (.string ⟨#[97,115]⟩);have x3:=Dk (.string ⟨#[]⟩) (.string ⟨#[]⟩) (.string ⟨#[]⟩) (.string ⟨#[]⟩) (.string ⟨#[97,100,100]⟩) (.string ⟨#[108,101,115,115]⟩) (.string ⟨#[105,102]⟩) (.string ⟨#[102,117,110]⟩) (.string ⟨#[99,97,108,108]⟩) (.string ⟨#[97,115]⟩);have x4:=Dj (.string ⟨#[]⟩) (.string ⟨#[]⟩) (.string ⟨#[]⟩) (.string ⟨#[]⟩) (.string ⟨#[97,100,100]⟩) (.string ⟨#[108,101,115,115]⟩) (.string ⟨#[105,102]⟩) (.string ⟨#[102,117,110]⟩) (.string ⟨#[99,97,108,108]⟩) (.string ⟨#[97,115]⟩);have x5:=Di (.string ⟨#[]⟩) (.string ⟨#[]⟩) (.string ⟨#[]⟩) (.string ⟨#[]⟩) (.string ⟨#[97,100,100]⟩) (.string ⟨#[108,101,115,115]⟩) (.string ⟨#[105,102]⟩) (.string ⟨#[102,117,110]⟩) (.string ⟨#[99,97,108,108]⟩) (.string ⟨#[97,115]⟩);have x6:=Dh (.string ⟨#[]⟩) (.string ⟨#[]⟩) (.string ⟨#[]⟩) (.string ⟨#[]⟩) (.string ⟨#[97,100,100]⟩) (.string ⟨#[108,101,115,115]⟩) (.string ⟨#[105,102]⟩) (.string ⟨#[102,117,110]⟩) (.string ⟨#[99,97,108,108]⟩) (.string ⟨#[97,115]⟩);have x7:=Dg (.string ⟨#[]⟩) (.string ⟨#[]⟩) (.string ⟨#[]⟩) (.string ⟨#[]⟩) (.string ⟨#[97,100,100]⟩) (.string ⟨#[108,101,115,115]⟩) (.string ⟨#[105,102]⟩) (.string ⟨#[102,117,110]⟩) (.string ⟨#[99,97,108,108]⟩) (.string ⟨#[97,115]⟩);have x8:=Df (.string ⟨#[]⟩) (.string ⟨#[]⟩) (.string ⟨#[]⟩) (.string ⟨#[]⟩) (.string ⟨#[97,100,100]⟩) (.string ⟨#[108,101,115,115]⟩) (.string ⟨#[105,102]⟩) (.string ⟨#[102,117,110]⟩) (.string ⟨#[99,97,108,108]⟩) (.string ⟨#[97,115]⟩);have x9:=De (.string ⟨#[]⟩) (.string ⟨#[]⟩) (.string ⟨#[]⟩) (.string ⟨#[]⟩) (.string ⟨#[97,100,100]⟩) (.string ⟨#[108,101,115,115]⟩) (.string ⟨#[105,102]⟩) (.string ⟨#[102,117,110]⟩) (.string ⟨#[99,97,108,108]⟩) (.string ⟨#[97,115]⟩);have c:Zh (∀l:List UInt8,l≠[]->(l==x.toList)=Zf->d=Y):=by
  intro l hl h;have e:l=x.toList:=by simpa using h
  rw[<-HE.out,<-e];cases l with
  |nil=>exact absurd rfl hl
  |cons _ _=>rfl
 go_enter func84,ntmps84;go_wp2_with fail;go_loopg [7] 10 (fun k i wr=>∃j:Nat,k+j=10/\i=F G (j:Int)/\wr=w/\Zh ((5<=j->z=Y)/\(6<=j->g=Y)/\(7<=j->m=Y)/\(8<=j->u=Y)/\(9<=j->b8=Y)/\(10<=j->r=Y)))
 case atStart=>exact⟨0,rfl,rfl,rfl,fun h=>absurd h (by omega),fun h=>absurd h (by omega),fun h=>absurd h (by omega),fun h=>absurd h (by omega),fun h=>absurd h (by omega),fun h=>absurd h (by omega)⟩
 case round=>
  obtain⟨j,hj,rfl,rfl,a⟩:=hrel;obtain rfl|rfl|rfl|rfl|rfl|rfl|rfl|rfl|rfl|rfl|rfl:j=0\/j=1\/j=2\/j=3\/j=4\/j=5\/j=6\/j=7\/j=8\/j=9\/j=10:=by omega
  .cases d
   .go_wp2_with fail;go_roundg 9
    case measure=>omega
    case rel=>exact⟨1,rfl,rfl,rfl,fun h=>absurd h (by omega),fun h=>absurd h (by omega),fun h=>absurd h (by omega),fun h=>absurd h (by omega),fun h=>absurd h (by omega),fun h=>absurd h (by omega)⟩
   .go_wp2_with fail;go_roundg 9
    case measure=>omega
    case rel=>exact⟨1,rfl,rfl,rfl,fun h=>absurd h (by omega),fun h=>absurd h (by omega),fun h=>absurd h (by omega),fun h=>absurd h (by omega),fun h=>absurd h (by omega),fun h=>absurd h (by omega)⟩
  .cases d
   .go_wp2_with fail;go_roundg 8
    case measure=>omega
    case rel=>exact⟨2,rfl,rfl,rfl,fun h=>absurd h (by omega),fun h=>absurd h (by omega),fun h=>absurd h (by omega),fun h=>absurd h (by omega),fun h=>absurd h (by omega),fun h=>absurd h (by omega)⟩
   .go_wp2_with fail;go_roundg 8
    case measure=>omega
    case rel=>exact⟨2,rfl,rfl,rfl,fun h=>absurd h (by omega),fun h=>absurd h (by omega),fun h=>absurd h (by omega),fun h=>absurd h (by omega),fun h=>absurd h (by omega),fun h=>absurd h (by omega)⟩
  .cases d
   .go_wp2_with fail;go_roundg 7
    case measure=>omega
    case rel=>exact⟨3,rfl,rfl,rfl,fun h=>absurd h (by omega),fun h=>absurd h (by omega),fun h=>absurd h (by omega),fun h=>absurd h (by omega),fun h=>absurd h (by omega),fun h=>absurd h (by omega)⟩
   .go_wp2_with fail;go_roundg 7
    case measure=>omega
    case rel=>exact⟨3,rfl,rfl,rfl,fun h=>absurd h (by omega),fun h=>absurd h (by omega),fun h=>absurd h (by omega),fun h=>absurd h (by omega),fun h=>absurd h (by omega),fun h=>absurd h (by omega)⟩
  .cases d
   .go_wp2_with fail;go_roundg 6
    case measure=>omega
    case rel=>exact⟨4,rfl,rfl,rfl,fun h=>absurd h (by omega),fun h=>absurd h (by omega),fun h=>absurd h (by omega),fun h=>absurd h (by omega),fun h=>absurd h (by omega),fun h=>absurd h (by omega)⟩
   .go_wp2_with fail;go_roundg 6
    case measure=>omega
    case rel=>exact⟨4,rfl,rfl,rfl,fun h=>absurd h (by omega),fun h=>absurd h (by omega),fun h=>absurd h (by omega),fun h=>absurd h (by omega),fun h=>absurd h (by omega),fun h=>absurd h (by omega)⟩
  .cases z
   .go_wp2_with fail;go_roundg 5
    case measure=>omega
    case rel=>exact⟨5,rfl,rfl,rfl,fun _=>trivial,fun h=>absurd h (by omega),fun h=>absurd h (by omega),fun h=>absurd h (by omega),fun h=>absurd h (by omega),fun h=>absurd h (by omega)⟩
   .obtain rfl:=c.out [97,100,100] (by simp) k4;go_wp2_with fail;refine Ze (v:=Zo #[F G 4,.bool Zf]) (by simp[results,ZQ,go_sem]) rfl ⟨?_,rfl⟩;rw[<-(Lib.bytes_beq_iff _ _).1 H4.out];rfl
  .obtain rfl:=a.out.1 (by omega);cases g
   .go_wp2_with fail;go_roundg 4
    case measure=>omega
    case rel=>exact⟨6,rfl,rfl,rfl,fun _=>trivial,fun _=>trivial,fun h=>absurd h (by omega),fun h=>absurd h (by omega),fun h=>absurd h (by omega),fun h=>absurd h (by omega)⟩
   .obtain rfl:=c.out [108,101,115,115] (by simp) k5;go_wp2_with fail;refine Ze (v:=Zo #[F G 5,.bool Zf]) (by simp[results,ZQ,go_sem]) rfl ⟨?_,rfl⟩;rw[<-(Lib.bytes_beq_iff _ _).1 H5.out];rfl
  .obtain rfl:=a.out.1 (by omega);obtain rfl:=a.out.2.1 (by omega);cases m
   .go_wp2_with fail;go_roundg 3
    case measure=>omega
    case rel=>exact⟨7,rfl,rfl,rfl,fun _=>trivial,fun _=>trivial,fun _=>trivial,fun h=>absurd h (by omega),fun h=>absurd h (by omega),fun h=>absurd h (by omega)⟩
   .obtain rfl:=c.out [105,102] (by simp) k6;go_wp2_with fail;refine Ze (v:=Zo #[F G 6,.bool Zf]) (by simp[results,ZQ,go_sem]) rfl ⟨?_,rfl⟩;rw[<-(Lib.bytes_beq_iff _ _).1 H6.out];rfl
  .obtain rfl:=a.out.1 (by omega);obtain rfl:=a.out.2.1 (by omega);obtain rfl:=a.out.2.2.1 (by omega);cases u
   .go_wp2_with fail;go_roundg 2
    case measure=>omega
    case rel=>exact⟨8,rfl,rfl,rfl,fun _=>trivial,fun _=>trivial,fun _=>trivial,fun _=>trivial,fun h=>absurd h (by omega),fun h=>absurd h (by omega)⟩
   .obtain rfl:=c.out [102,117,110] (by simp) k7;go_wp2_with fail;refine Ze (v:=Zo #[F G 7,.bool Zf]) (by simp[results,ZQ,go_sem]) rfl ⟨?_,rfl⟩;rw[<-(Lib.bytes_beq_iff _ _).1 H7.out];rfl
  .obtain rfl:=a.out.1 (by omega);obtain rfl:=a.out.2.1 (by omega);obtain rfl:=a.out.2.2.1 (by omega);obtain rfl:=a.out.2.2.2.1 (by omega);cases b8
   .go_wp2_with fail;go_roundg 1
    case measure=>omega
    case rel=>exact⟨9,rfl,rfl,rfl,fun _=>trivial,fun _=>trivial,fun _=>trivial,fun _=>trivial,fun _=>trivial,fun h=>absurd h (by omega)⟩
   .obtain rfl:=c.out [99,97,108,108] (by simp) k8;go_wp2_with fail;refine Ze (v:=Zo #[F G 8,.bool Zf]) (by simp[results,ZQ,go_sem]) rfl ⟨?_,rfl⟩;rw[<-(Lib.bytes_beq_iff _ _).1 H8.out];rfl
  .obtain rfl:=a.out.1 (by omega);obtain rfl:=a.out.2.1 (by omega);obtain rfl:=a.out.2.2.1 (by omega);obtain rfl:=a.out.2.2.2.1 (by omega);obtain rfl:=a.out.2.2.2.2.1 (by omega);cases r
   .go_wp2_with fail;go_roundg 0
    case measure=>omega
    case rel=>exact⟨10,rfl,rfl,rfl,fun _=>trivial,fun _=>trivial,fun _=>trivial,fun _=>trivial,fun _=>trivial,fun _=>trivial⟩
   .obtain rfl:=c.out [97,115] (by simp) k9;go_wp2_with fail;refine Ze (v:=Zo #[F G 9,.bool Zf]) (by simp[results,ZQ,go_sem]) rfl ⟨?_,rfl⟩;rw[<-(Lib.bytes_beq_iff _ _).1 H9.out];rfl
  .obtain rfl:=a.out.1 (by omega);obtain rfl:=a.out.2.1 (by omega);obtain rfl:=a.out.2.2.1 (by omega);obtain rfl:=a.out.2.2.2.1 (by omega);obtain rfl:=a.out.2.2.2.2.1 (by omega);obtain rfl:=a.out.2.2.2.2.2 (by omega);go_wp2_with fail;refine Ze (v:=Zo #[F G 0,.bool Y]) (by simp[results,ZQ,go_sem]) rfl ⟨?_,rfl⟩;simp[Oi,X2,YY,UZ,Up H4.out,Up H5.out,Up H6.out,Up H7.out,Up H8.out,Up H9.out]
section
open Go.Shelf
open Go.RowKit in
open Go.RowKit in
open Go.RowKit in
open Go.RowKit in
open Go.RowKit in
def Tryz.lays119_ren:Go.Shelf.Ren:=⟨fun|119=>174|n=>n,fun|21=>21|4=>4|n=>n,fun|n=>n⟩
theorem Tryz.lays119:Go.Proofs.Lays.n119 E Tryz.lays119_ren:={
 mixed:=by kernel_rfl
 f119:=fk func174 (by kernel_rfl)
 t4:=Zl
 a4:=ZD
 z4:=Zy
 v4:=Zr
 t21:=ZA
 a21:=ZV
 z21:=ZP
 v21:=ZE }
theorem Tryz.utf8_ValidRune(r:Int)(w:U):
  Z E 174 #[F .i32 r] w fun e w'=>e=M (.bool (Lib.validRune r))/\w'=w:=Any.utf8_ValidRune Tryz.lays119 r w
def Tryz.lays137_ren:Go.Shelf.Ren:=⟨fun|137=>173|217=>189|266=>202|n=>n,fun|9=>9|5=>5|3=>3|n=>n,fun|n=>n⟩
theorem Tryz.lays137:Go.Proofs.Lays.n137 E Tryz.lays137_ren:={
 mixed:=by kernel_rfl
 f137:=fk func173 (by kernel_rfl)
 f217:=fk func189 (by kernel_rfl)
 f266:=fk func202 (by kernel_rfl)
 t3:=Zj
 a3:=ZF
 z3:=Zz
 v3:=Zs
 t5:=Tryz.underlying5
 a5:=ZT
 z5:=ZO
 v5:=ZB
 t9:=Tryz.underlying9
 a9:=ZK
 z9:=ZC
 v9:=Zt }
open Go.RowKit in
theorem Tryz.strings_IndexByte(s:ByteArray)(c:Int)(w:U):
  Z E 173 #[.string s,F .u8 c] w fun e w'=>e=M (F G (Lib.indexByte s.data.toList c.toNat.toUInt8))/\w'=w:=Any.strings_IndexByte Tryz.lays137 s c w
open Go.RowKit in
def Tryz.lays103_ren:Go.Shelf.Ren:=⟨fun|103=>54|210=>88|206=>127|n=>n,fun|9=>9|4=>4|24=>91|3=>3|n=>n,fun|n=>n⟩
theorem Tryz.lays103:Go.Proofs.Lays.n103 E Tryz.lays103_ren:={
 mixed:=by kernel_rfl
 f103:=fk func54 (by kernel_rfl)
 f206:=fk func127 (by kernel_rfl)
 f210:=fk func88 (by kernel_rfl)
 t3:=Zj
 a3:=ZF
 z3:=Zz
 v3:=Zs
 t4:=Zl
 a4:=ZD
 z4:=Zy
 v4:=Zr
 t9:=Tryz.underlying9
 a9:=ZK
 z9:=ZC
 v9:=Zt
 t24:=underlying91
 a24:=isAgg91
 z24:=sizeOf91
 v24:=zeroValue91 }
open Go.RowKit in
theorem Tryz.strings_CutPrefix(s p:ByteArray)(w:U):
  Z E 54 #[.string s,.string p] w fun e w'=>e=M (Zo #[.string ⟨(Lib.trimPrefix s.data.toList p.data.toList).toArray⟩,.bool (Lib.hasPrefix s.data.toList p.data.toList)])/\w'=w:=Any.strings_CutPrefix Tryz.lays103 s p w
open Go.RowKit in
open Go.RowKit in
open Go.RowKit in
open Go.Lib in
open Go.Lib in
open Go.Lib in
open Go.Lib in
open Go.RowKit Go.Sort Go.Lib in
open Go.RowKit Go.Sort Go.Lib in
open Go.RowKit Go.Sort Go.Lib in
open Go.RowKit Go.Sort Go.Lib in
open Go.RowKit Go.Sort Go.Lib in
def Tryz.laysM171_ren:Go.Shelf.Ren:=⟨fun|171=>90|243=>130|246=>171|283=>194|284=>195|285=>196|286=>197|129=>207|317=>206|318=>208|319=>209|320=>210|337=>212|338=>213|n=>n,fun|3=>3|9=>9|2=>2|4=>4|171=>240|0=>0|53=>233|37=>174|5=>5|173=>243|212=>265|51=>219|20=>20|213=>266|46=>218|232=>271|233=>272|n=>n,fun|17=>11|18=>12|19=>13|n=>n⟩
theorem Tryz.laysM171:Go.Proofs.LaysM.n171 E Tryz.laysM171_ren:={
 mixed:=by kernel_rfl
 f129:=fk func207 (by kernel_rfl)
 f171:=fk func90 (by kernel_rfl)
 f243:=fk func130 (by kernel_rfl)
 f246:=fk func171 (by kernel_rfl)
 f283:=fk func194 (by kernel_rfl)
 f284:=fk func195 (by kernel_rfl)
 f285:=fk func196 (by kernel_rfl)
 f286:=fk func197 (by kernel_rfl)
 f317:=fk func206 (by kernel_rfl)
 f318:=fk func208 (by kernel_rfl)
 f319:=fk func209 (by kernel_rfl)
 f320:=fk func210 (by kernel_rfl)
 f337:=fk func212 (by kernel_rfl)
 f338:=fk func213 (by kernel_rfl)
 t0:=ZG
 a0:=Z1
 z0:=ZW
 v0:=ZI
 t2:=underlying2
 a2:=isAgg2
 z2:=sizeOf2
 v2:=zeroValue2
 t3:=Zj
 a3:=ZF
 z3:=Zz
 v3:=Zs
 t4:=Zl
 a4:=ZD
 z4:=Zy
 v4:=Zr
 t5:=Tryz.underlying5
 a5:=ZT
 z5:=ZO
 v5:=ZB
 t9:=Tryz.underlying9
 a9:=ZK
 z9:=ZC
 v9:=Zt
 t20:=Yg
 a20:=isAgg20
 z20:=sizeOf20
 v20:=zeroValue20
 t37:=Tryz.underlying174
 a37:=isAgg174
 z37:=sizeOf174
 v37:=Yh
 t46:=ZH
 a46:=Z0
 z46:=ZR
 v46:=ZJ
 t51:=ZX
 a51:=isAgg219
 z51:=Yf
 v51:=Z2
 t53:=underlying233
 a53:=isAgg233
 z53:=sizeOf233
 v53:=zeroValue233
 t171:=underlying240
 a171:=isAgg240
 z171:=sizeOf240
 v171:=zeroValue240
 t173:=underlying243
 a173:=isAgg243
 z173:=sizeOf243
 v173:=zeroValue243
 t212:=underlying265
 a212:=isAgg265
 z212:=sizeOf265
 v212:=zeroValue265
 t213:=underlying266
 a213:=isAgg266
 z213:=sizeOf266
 t232:=underlying271
 a232:=isAgg271
 z232:=sizeOf271
 v232:=zeroValue271
 t233:=underlying272
 a233:=isAgg272
 z233:=sizeOf272
 v233:=zeroValue272
 g17:=by kernel_rfl
 g18:=by kernel_rfl
 g19:=by kernel_rfl
 i0:=by kernel_rfl
 i2:=by kernel_rfl
 i3:=by kernel_rfl
 i4:=by kernel_rfl
 i5:=by kernel_rfl
 i9:=by kernel_rfl
 i20:=by kernel_rfl
 i37:=by kernel_rfl
 i46:=by kernel_rfl
 i51:=by kernel_rfl
 i53:=by kernel_rfl
 i171:=by kernel_rfl
 i173:=by kernel_rfl
 i212:=by kernel_rfl
 i232:=by kernel_rfl
 i233:=by kernel_rfl
 m17:=by kernel_rfl
 m18:=by kernel_rfl
 m19:=by kernel_rfl }
open Go.RowKit Go.Sort Go.Lib in
theorem Tryz.strconv_Itoa(n:Int)(h0:-9223372036854775808<=n)(h1:n<=9223372036854775807)(w:U)(htab:Lib.TabIs E w "internal/strconv.uint64pow10" .u64 Lib.pow10Tab):
  Z E 90 #[F G n] w fun e w'=>e=M (.string ⟨(Lib.itoa n).toArray⟩)/\∃k os,w'=grow (w.drewN k) os:=Any.strconv_Itoa Tryz.laysM171 n h0 h1 w htab
open Go.RowKit Go.Sort Go.Lib in
open Go.RowKit in
open Go.RowKit in
open Go.RowKit in
open Go.RowKit in
open Go.RowKit in
open Go.RowKit in
open Go.RowKit in
open Go.RowKit in
open Go.RowKit in
open Go.RowKit in
open Go.RowKit in
open Go.RowKit in
open Go.RowKit in
open Go.RowKit in
open Go.RowKit in
open Go.RowKit in
def Tryz.laysC172_ren:Go.Shelf.Ren:=⟨fun|172=>89|244=>128|245=>129|247=>166|279=>167|280=>168|281=>169|282=>170|287=>191|316=>192|171=>90|205=>193|321=>204|322=>205|243=>130|246=>171|283=>194|284=>195|285=>196|286=>197|129=>207|317=>206|318=>208|319=>209|320=>210|337=>212|338=>213|n=>n,fun|9=>9|3=>3|75=>153|76=>154|4=>4|5=>5|167=>210|37=>174|0=>0|85=>211|2=>2|168=>213|53=>233|175=>234|46=>218|210=>238|127=>208|145=>263|143=>261|21=>21|171=>240|173=>243|212=>265|51=>219|20=>20|213=>266|232=>271|233=>272|80=>88|n=>n,fun|15=>9|16=>10|17=>11|18=>12|19=>13|n=>n⟩
theorem Tryz.laysC172:Go.Proofs.LaysC.n172 E Tryz.laysC172_ren:={
 mixed:=by kernel_rfl
 f129:=fk func207 (by kernel_rfl)
 f171:=fk func90 (by kernel_rfl)
 f172:=fk func89 (by kernel_rfl)
 f205:=fk func193 (by kernel_rfl)
 f243:=fk func130 (by kernel_rfl)
 f244:=fk func128 (by kernel_rfl)
 f245:=fk func129 (by kernel_rfl)
 f246:=fk func171 (by kernel_rfl)
 f247:=fk func166 (by kernel_rfl)
 f279:=fk func167 (by kernel_rfl)
 f280:=fk func168 (by kernel_rfl)
 f281:=fk func169 (by kernel_rfl)
 f282:=fk func170 (by kernel_rfl)
 f283:=fk func194 (by kernel_rfl)
 f284:=fk func195 (by kernel_rfl)
 f285:=fk func196 (by kernel_rfl)
 f286:=fk func197 (by kernel_rfl)
 f287:=fk func191 (by kernel_rfl)
 f316:=fk func192 (by kernel_rfl)
 f317:=fk func206 (by kernel_rfl)
 f318:=fk func208 (by kernel_rfl)
 f319:=fk func209 (by kernel_rfl)
 f320:=fk func210 (by kernel_rfl)
 f321:=fk func204 (by kernel_rfl)
 f322:=fk func205 (by kernel_rfl)
 f337:=fk func212 (by kernel_rfl)
 f338:=fk func213 (by kernel_rfl)
 t0:=ZG
 a0:=Z1
 z0:=ZW
 v0:=ZI
 t2:=underlying2
 a2:=isAgg2
 z2:=sizeOf2
 v2:=zeroValue2
 t3:=Zj
 a3:=ZF
 z3:=Zz
 v3:=Zs
 t4:=Zl
 a4:=ZD
 z4:=Zy
 v4:=Zr
 t5:=Tryz.underlying5
 a5:=ZT
 z5:=ZO
 v5:=ZB
 t9:=Tryz.underlying9
 a9:=ZK
 z9:=ZC
 v9:=Zt
 t20:=Yg
 a20:=isAgg20
 z20:=sizeOf20
 v20:=zeroValue20
 t21:=ZA
 a21:=ZV
 z21:=ZP
 v21:=ZE
 t37:=Tryz.underlying174
 a37:=isAgg174
 z37:=sizeOf174
 v37:=Yh
 t46:=ZH
 a46:=Z0
 z46:=ZR
 v46:=ZJ
 t51:=ZX
 a51:=isAgg219
 z51:=Yf
 v51:=Z2
 t53:=underlying233
 a53:=isAgg233
 z53:=sizeOf233
 v53:=zeroValue233
 t75:=underlying153
 a75:=isAgg153
 z75:=sizeOf153
 v75:=zeroValue153
 t76:=underlying154
 a76:=isAgg154
 z76:=sizeOf154
 v76:=zeroValue154
 t85:=underlying211
 a85:=isAgg211
 z85:=sizeOf211
 v85:=zeroValue211
 t127:=underlying208
 a127:=isAgg208
 z127:=sizeOf208
 v127:=zeroValue208
 t143:=underlying261
 a143:=isAgg261
 z143:=sizeOf261
 v143:=zeroValue261
 t145:=underlying263
 a145:=isAgg263
 z145:=sizeOf263
 v145:=zeroValue263
 t167:=underlying210
 a167:=isAgg210
 z167:=sizeOf210
 v167:=zeroValue210
 t168:=underlying213
 a168:=isAgg213
 z168:=sizeOf213
 v168:=zeroValue213
 t171:=underlying240
 a171:=isAgg240
 z171:=sizeOf240
 v171:=zeroValue240
 t173:=underlying243
 a173:=isAgg243
 z173:=sizeOf243
 v173:=zeroValue243
 t175:=underlying234
 a175:=isAgg234
 z175:=sizeOf234
 v175:=zeroValue234
 t210:=underlying238
 a210:=isAgg238
 z210:=sizeOf238
 v210:=zeroValue238
 t212:=underlying265
 a212:=isAgg265
 z212:=sizeOf265
 v212:=zeroValue265
 t213:=underlying266
 a213:=isAgg266
 z213:=sizeOf266
 t232:=underlying271
 a232:=isAgg271
 z232:=sizeOf271
 v232:=zeroValue271
 t233:=underlying272
 a233:=isAgg272
 z233:=sizeOf272
 v233:=zeroValue272
 g15:=by kernel_rfl
 g16:=by kernel_rfl
 g17:=by kernel_rfl
 g18:=by kernel_rfl
 g19:=by kernel_rfl
 t80:=underlying88
 a80:=isAgg88
 z80:=sizeOf88
 v80:=zeroValue88
 i0:=by kernel_rfl
 i2:=by kernel_rfl
 i3:=by kernel_rfl
 i4:=by kernel_rfl
 i5:=by kernel_rfl
 i9:=by kernel_rfl
 i20:=by kernel_rfl
 i21:=by kernel_rfl
 i37:=by kernel_rfl
 i46:=by kernel_rfl
 i51:=by kernel_rfl
 i53:=by kernel_rfl
 i75:=by kernel_rfl
 i76:=by kernel_rfl
 i80:=by kernel_rfl
 i85:=by kernel_rfl
 i127:=by kernel_rfl
 i143:=by kernel_rfl
 i145:=by kernel_rfl
 i167:=by kernel_rfl
 i168:=by kernel_rfl
 i171:=by kernel_rfl
 i173:=by kernel_rfl
 i175:=by kernel_rfl
 i210:=by kernel_rfl
 i212:=by kernel_rfl
 i232:=by kernel_rfl
 i233:=by kernel_rfl
 m15:=by kernel_rfl
 m16:=by kernel_rfl
 m17:=by kernel_rfl
 m18:=by kernel_rfl
 m19:=by kernel_rfl
 c0:=by kernel_rfl
 c2:=by kernel_rfl
 c3:=by kernel_rfl
 c4:=by kernel_rfl
 c5:=by kernel_rfl
 c9:=by kernel_rfl
 c20:=by kernel_rfl
 c21:=by kernel_rfl
 c37:=by kernel_rfl
 c46:=by kernel_rfl
 c51:=by kernel_rfl
 c53:=by kernel_rfl
 c75:=by kernel_rfl
 c76:=by kernel_rfl
 c80:=by kernel_rfl
 c85:=by kernel_rfl
 c127:=by kernel_rfl
 c143:=by kernel_rfl
 c145:=by kernel_rfl
 c167:=by kernel_rfl
 c168:=by kernel_rfl
 c171:=by kernel_rfl
 c173:=by kernel_rfl
 c175:=by kernel_rfl
 c210:=by kernel_rfl
 c212:=by kernel_rfl
 c213:=by kernel_rfl
 c232:=by kernel_rfl
 c233:=by kernel_rfl }
open Go.RowKit in
theorem Tryz.strconv_Atoi_ok(s:ByteArray)(hmax:s.size<=9223372036854775806)(v:Int)(h:Lib.atoiAll s.data.toList=.ok v)(w:U):
  Z E 89 #[.string s] w fun e w'=>e=M (Zo #[F G v,.nilIface])/\(w'=w\/∃t,w'=Lib.bytesWorld w 5 t):=Any.strconv_Atoi_ok Tryz.laysC172 s hmax v h w
open Go.RowKit in
theorem Tryz.strconv_Atoi_syntax(s:ByteArray)(hlim:s.size<=281474976710656)(h:Lib.atoiAll s.data.toList=.«syntax»)(ev:Zm)(w:U)(hv:w.cell? ⟨9,0,C⟩=L ev)(hev:ev=.nilIface\/∃te pe,ev=.iface te pe):
  Z E 89 #[.string s] w fun e w'=>∃N,e=M (Zo #[F G (0),.iface 213 (Za (L ⟨N,0,C⟩))])/\w.heap.size<=N/\w'.heap[N]?=L (Zv #[.string ⟨#[65,116,111,105]⟩,.string s,ev] 238 (0,0))/\Zw w.heap.size w w':=Any.strconv_Atoi_syntax Tryz.laysC172 s hlim h ev w hv hev
open Go.RowKit in
theorem Tryz.strconv_Atoi_range(s:ByteArray)(hlim:s.size<=281474976710656)(h:Lib.atoiAll s.data.toList=.range)(ev:Zm)(w:U)(hv:w.cell? ⟨10,0,C⟩=L ev)(hev:ev=.nilIface\/∃te pe,ev=.iface te pe):
  Z E 89 #[.string s] w fun e w'=>∃N,e=M (Zo #[F G (Lib.atoiSat s.data.toList),.iface 213 (Za (L ⟨N,0,C⟩))])/\w.heap.size<=N/\w'.heap[N]?=L (Zv #[.string ⟨#[65,116,111,105]⟩,.string s,ev] 238 (0,0))/\Zw w.heap.size w w':=Any.strconv_Atoi_range Tryz.laysC172 s hlim h ev w hv hev
open Go.RowKit in
open Go.RowKit in
open Go.RowKit Go.Lib in
open Go.RowKit Go.Lib in
open Go.RowKit Go.Lib in
open Go.RowKit Go.Lib in
open Go.RowKit Go.Lib in
open Go.RowKit Go.Lib in
open Go.RowKit Go.Lib in
open Go.RowKit Go.Lib in
open Go.RowKit Go.Lib in
open Go.RowKit Go.Lib in
open Go.RowKit Go.Lib in
open Go.RowKit Go.Lib in
open Go.RowKit Go.Lib in
open Go.RowKit Go.Lib in
open Go.RowKit Go.Lib in
def Tryz.lays101_ren:Go.Shelf.Ren:=⟨fun|101=>142|208=>177|206=>127|n=>n,fun|9=>9|4=>4|3=>3|n=>n,fun|n=>n⟩
theorem Tryz.lays101:Go.Proofs.Lays.n101 E Tryz.lays101_ren:={
 mixed:=by kernel_rfl
 f101:=fk func142 (by kernel_rfl)
 f206:=fk func127 (by kernel_rfl)
 f208:=fk func177 (by kernel_rfl)
 t3:=Zj
 a3:=ZF
 z3:=Zz
 v3:=Zs
 t4:=Zl
 a4:=ZD
 z4:=Zy
 v4:=Zr
 t9:=Tryz.underlying9
 a9:=ZK
 z9:=ZC
 v9:=Zt }
open Go.RowKit Go.Lib in
theorem Tryz.strings_TrimPrefix(s p:ByteArray)(w:U):
  Z E 142 #[.string s,.string p] w fun e w'=>e=M (.string ⟨(Lib.trimPrefix s.data.toList p.data.toList).toArray⟩)/\w'=w:=Any.strings_TrimPrefix Tryz.lays101 s p w
open Go.RowKit Go.Lib in
def Tryz.lays157_ren:Go.Shelf.Ren:=⟨fun|157=>103|229=>49|199=>145|261=>181|311=>199|312=>200|n=>n,fun|9=>9|31=>56|3=>3|5=>5|4=>4|119=>194|0=>0|40=>87|152=>147|21=>21|154=>149|51=>219|141=>221|196=>248|193=>245|198=>251|49=>249|194=>246|201=>254|226=>268|46=>218|227=>269|n=>n,fun|0=>3|6=>5|n=>n⟩
theorem Tryz.lays157:Go.Proofs.Lays.n157 E Tryz.lays157_ren:={
 mixed:=by kernel_rfl
 f157:=fk func103 (by kernel_rfl)
 f199:=fk func145 (by kernel_rfl)
 f229:=fk func49 (by kernel_rfl)
 f261:=fk func181 (by kernel_rfl)
 f311:=fk func199 (by kernel_rfl)
 f312:=fk func200 (by kernel_rfl)
 t0:=ZG
 a0:=Z1
 z0:=ZW
 v0:=ZI
 t3:=Zj
 a3:=ZF
 z3:=Zz
 v3:=Zs
 t4:=Zl
 a4:=ZD
 z4:=Zy
 v4:=Zr
 t5:=Tryz.underlying5
 a5:=ZT
 z5:=ZO
 v5:=ZB
 t9:=Tryz.underlying9
 a9:=ZK
 z9:=ZC
 v9:=Zt
 t21:=ZA
 a21:=ZV
 z21:=ZP
 v21:=ZE
 t31:=underlying56
 a31:=isAgg56
 z31:=sizeOf56
 v31:=zeroValue56
 t40:=underlying87
 a40:=isAgg87
 z40:=sizeOf87
 v40:=zeroValue87
 t46:=ZH
 a46:=Z0
 z46:=ZR
 v46:=ZJ
 t49:=underlying249
 a49:=isAgg249
 z49:=sizeOf249
 v49:=zeroValue249
 t51:=ZX
 a51:=isAgg219
 z51:=Yf
 v51:=Z2
 t119:=underlying194
 a119:=isAgg194
 z119:=sizeOf194
 t141:=underlying221
 a141:=isAgg221
 z141:=sizeOf221
 v141:=zeroValue221
 t152:=underlying147
 a152:=isAgg147
 z152:=sizeOf147
 v152:=zeroValue147
 t154:=underlying149
 a154:=isAgg149
 z154:=sizeOf149
 v154:=zeroValue149
 t193:=underlying245
 a193:=isAgg245
 z193:=sizeOf245
 v193:=zeroValue245
 t194:=underlying246
 a194:=isAgg246
 z194:=sizeOf246
 v194:=zeroValue246
 t196:=underlying248
 a196:=isAgg248
 z196:=sizeOf248
 v196:=zeroValue248
 t198:=underlying251
 a198:=isAgg251
 z198:=sizeOf251
 v198:=zeroValue251
 t201:=underlying254
 a201:=isAgg254
 z201:=sizeOf254
 v201:=zeroValue254
 t226:=underlying268
 a226:=isAgg268
 z226:=sizeOf268
 v226:=zeroValue268
 t227:=underlying269
 a227:=isAgg269
 z227:=sizeOf269
 v227:=zeroValue269
 g0:=by kernel_rfl
 g6:=by kernel_rfl }
open Go.RowKit Go.Lib in
theorem Tryz.strings_Fields(s:ByteArray)(w:U)(hs:s.size<4294967281)(hascii:∀(j:Nat)b,s.data.toList[j]?=L b->b.toNat<128)(htab:Lib.TabIs E w "strings.asciiSpace" .u8 Lib.asciiSpaceTab):
  Z E 103 #[.string s] w fun e w'=>e=M (I (L ⟨w.heap.size,0,C⟩) (Lib.fields s.data.toList).length (Lib.fields s.data.toList).length)/\w'=w.alloc (Zv ((Lib.fields s.data.toList).map fun l=>Value.string ⟨l.toArray⟩).toArray 9):=Any.strings_Fields Tryz.lays157 (by kernel_rfl) (by kernel_rfl) s w hs hascii htab
open Go.RowKit Go.Lib in
open Go.RowKit Go.Lib in
open Go.RowKit Go.Lib in
open Go.RowKit Go.Lib in
def Tryz.lays155_ren:Go.Shelf.Ren:=⟨fun|155=>48|154=>82|138=>119|165=>120|143=>121|166=>122|197=>123|169=>124|195=>160|218=>161|240=>162|241=>163|219=>164|260=>165|276=>187|277=>188|217=>189|225=>176|224=>175|267=>190|266=>202|314=>203|n=>n,fun|9=>9|3=>3|4=>4|72=>176|0=>0|76=>154|105=>178|21=>21|5=>5|70=>173|20=>20|37=>174|75=>153|127=>208|164=>227|46=>218|119=>194|139=>232|138=>231|146=>257|51=>219|80=>88|n=>n,fun|1=>6|3=>7|4=>8|n=>n⟩
theorem Tryz.lays155:Go.Proofs.Lays.n155 E Tryz.lays155_ren:={
 mixed:=by kernel_rfl
 f138:=fk func119 (by kernel_rfl)
 f143:=fk func121 (by kernel_rfl)
 f154:=fk func82 (by kernel_rfl)
 f155:=fk func48 (by kernel_rfl)
 f165:=fk func120 (by kernel_rfl)
 f166:=fk func122 (by kernel_rfl)
 f169:=fk func124 (by kernel_rfl)
 f195:=fk func160 (by kernel_rfl)
 f197:=fk func123 (by kernel_rfl)
 f217:=fk func189 (by kernel_rfl)
 f218:=fk func161 (by kernel_rfl)
 f219:=fk func164 (by kernel_rfl)
 f224:=fk func175 (by kernel_rfl)
 f225:=fk func176 (by kernel_rfl)
 f240:=fk func162 (by kernel_rfl)
 f241:=fk func163 (by kernel_rfl)
 f260:=fk func165 (by kernel_rfl)
 f266:=fk func202 (by kernel_rfl)
 f267:=fk func190 (by kernel_rfl)
 f276:=fk func187 (by kernel_rfl)
 f277:=fk func188 (by kernel_rfl)
 f314:=fk func203 (by kernel_rfl)
 t0:=ZG
 a0:=Z1
 z0:=ZW
 v0:=ZI
 t3:=Zj
 a3:=ZF
 z3:=Zz
 v3:=Zs
 t4:=Zl
 a4:=ZD
 z4:=Zy
 v4:=Zr
 t5:=Tryz.underlying5
 a5:=ZT
 z5:=ZO
 v5:=ZB
 t9:=Tryz.underlying9
 a9:=ZK
 z9:=ZC
 v9:=Zt
 t20:=Yg
 a20:=isAgg20
 z20:=sizeOf20
 v20:=zeroValue20
 t21:=ZA
 a21:=ZV
 z21:=ZP
 v21:=ZE
 t37:=Tryz.underlying174
 a37:=isAgg174
 z37:=sizeOf174
 v37:=Yh
 t46:=ZH
 a46:=Z0
 z46:=ZR
 v46:=ZJ
 t51:=ZX
 a51:=isAgg219
 z51:=Yf
 v51:=Z2
 t70:=underlying173
 a70:=isAgg173
 z70:=sizeOf173
 v70:=zeroValue173
 t72:=underlying176
 a72:=isAgg176
 z72:=sizeOf176
 v72:=zeroValue176
 t75:=underlying153
 a75:=isAgg153
 z75:=sizeOf153
 v75:=zeroValue153
 t76:=underlying154
 a76:=isAgg154
 z76:=sizeOf154
 v76:=zeroValue154
 t105:=underlying178
 a105:=isAgg178
 z105:=sizeOf178
 v105:=zeroValue178
 t119:=underlying194
 a119:=isAgg194
 z119:=sizeOf194
 t127:=underlying208
 a127:=isAgg208
 z127:=sizeOf208
 v127:=zeroValue208
 t138:=underlying231
 a138:=isAgg231
 z138:=sizeOf231
 v138:=zeroValue231
 t139:=underlying232
 a139:=isAgg232
 z139:=sizeOf232
 v139:=zeroValue232
 t146:=underlying257
 a146:=isAgg257
 z146:=sizeOf257
 v146:=zeroValue257
 t164:=underlying227
 a164:=isAgg227
 z164:=sizeOf227
 v164:=zeroValue227
 g1:=by kernel_rfl
 g3:=by kernel_rfl
 g4:=by kernel_rfl }
theorem Tryz.Builder_Extra_155:Builder.Extra E Tryz.lays155_ren:={
 sizeBuilder:=by kernel_rfl
 liesBuilder:=by kernel_rfl
 t5:=Tryz.underlying5
 a5:=ZT
 z5:=ZO
 v5:=ZB
 infoByte:=by kernel_rfl
 cellsByte:=by kernel_rfl
 sizeByte:=by kernel_rfl
 neB5:=by decide }
open Go.RowKit Go.Lib in
theorem Tryz.strings_ReplaceAll(s old new:ByteArray)(m:Int)(w:U)(hs:s.size<4294967281)(hm:w.cell? ⟨6,0,C⟩=L (F G m))(h1:1<=old.size)(hlen:s.size+Lib.countB s old*new.size<=140737488355328):
  Z E 48 #[.string s,.string old,.string new] w fun e w'=>e=M (.string ⟨(Lib.replaceAll s.data.toList old.data.toList new.data.toList).toArray⟩)/\Zw w.heap.size w w':=Any.strings_ReplaceAll Tryz.lays155 Tryz.Builder_Extra_155 s old new m w hs hm h1 hlen
open Go.RowKit Go.Lib in
open Go.RowKit Go.Lib in
def Tryz.laysM155_ren:Go.Shelf.Ren:=⟨fun|155=>48|154=>82|138=>119|165=>120|143=>121|166=>122|197=>123|169=>124|195=>160|218=>161|240=>162|241=>163|219=>164|260=>165|276=>187|277=>188|217=>189|225=>176|224=>175|267=>190|266=>202|314=>203|n=>n,fun|9=>9|3=>3|4=>4|72=>176|0=>0|76=>154|105=>178|21=>21|5=>5|70=>173|20=>20|37=>174|75=>153|127=>208|164=>227|46=>218|119=>194|139=>232|138=>231|146=>257|51=>219|80=>88|n=>n,fun|1=>6|3=>7|4=>8|n=>n⟩
theorem Tryz.laysM155:Go.Proofs.LaysM.n155 E Tryz.laysM155_ren:={
 mixed:=by kernel_rfl
 f138:=fk func119 (by kernel_rfl)
 f143:=fk func121 (by kernel_rfl)
 f154:=fk func82 (by kernel_rfl)
 f155:=fk func48 (by kernel_rfl)
 f165:=fk func120 (by kernel_rfl)
 f166:=fk func122 (by kernel_rfl)
 f169:=fk func124 (by kernel_rfl)
 f195:=fk func160 (by kernel_rfl)
 f197:=fk func123 (by kernel_rfl)
 f217:=fk func189 (by kernel_rfl)
 f218:=fk func161 (by kernel_rfl)
 f219:=fk func164 (by kernel_rfl)
 f224:=fk func175 (by kernel_rfl)
 f225:=fk func176 (by kernel_rfl)
 f240:=fk func162 (by kernel_rfl)
 f241:=fk func163 (by kernel_rfl)
 f260:=fk func165 (by kernel_rfl)
 f266:=fk func202 (by kernel_rfl)
 f267:=fk func190 (by kernel_rfl)
 f276:=fk func187 (by kernel_rfl)
 f277:=fk func188 (by kernel_rfl)
 f314:=fk func203 (by kernel_rfl)
 t0:=ZG
 a0:=Z1
 z0:=ZW
 v0:=ZI
 t3:=Zj
 a3:=ZF
 z3:=Zz
 v3:=Zs
 t4:=Zl
 a4:=ZD
 z4:=Zy
 v4:=Zr
 t5:=Tryz.underlying5
 a5:=ZT
 z5:=ZO
 v5:=ZB
 t9:=Tryz.underlying9
 a9:=ZK
 z9:=ZC
 v9:=Zt
 t20:=Yg
 a20:=isAgg20
 z20:=sizeOf20
 v20:=zeroValue20
 t21:=ZA
 a21:=ZV
 z21:=ZP
 v21:=ZE
 t37:=Tryz.underlying174
 a37:=isAgg174
 z37:=sizeOf174
 v37:=Yh
 t46:=ZH
 a46:=Z0
 z46:=ZR
 v46:=ZJ
 t51:=ZX
 a51:=isAgg219
 z51:=Yf
 v51:=Z2
 t70:=underlying173
 a70:=isAgg173
 z70:=sizeOf173
 v70:=zeroValue173
 t72:=underlying176
 a72:=isAgg176
 z72:=sizeOf176
 v72:=zeroValue176
 t75:=underlying153
 a75:=isAgg153
 z75:=sizeOf153
 v75:=zeroValue153
 t76:=underlying154
 a76:=isAgg154
 z76:=sizeOf154
 v76:=zeroValue154
 t105:=underlying178
 a105:=isAgg178
 z105:=sizeOf178
 v105:=zeroValue178
 t119:=underlying194
 a119:=isAgg194
 z119:=sizeOf194
 t127:=underlying208
 a127:=isAgg208
 z127:=sizeOf208
 v127:=zeroValue208
 t138:=underlying231
 a138:=isAgg231
 z138:=sizeOf231
 v138:=zeroValue231
 t139:=underlying232
 a139:=isAgg232
 z139:=sizeOf232
 v139:=zeroValue232
 t146:=underlying257
 a146:=isAgg257
 z146:=sizeOf257
 v146:=zeroValue257
 t164:=underlying227
 a164:=isAgg227
 z164:=sizeOf227
 v164:=zeroValue227
 g1:=by kernel_rfl
 g3:=by kernel_rfl
 g4:=by kernel_rfl
 t80:=underlying88
 a80:=isAgg88
 z80:=sizeOf88
 v80:=zeroValue88
 i0:=by kernel_rfl
 i3:=by kernel_rfl
 i4:=by kernel_rfl
 i5:=by kernel_rfl
 i9:=by kernel_rfl
 i20:=by kernel_rfl
 i21:=by kernel_rfl
 i37:=by kernel_rfl
 i46:=by kernel_rfl
 i51:=by kernel_rfl
 i70:=by kernel_rfl
 i72:=by kernel_rfl
 i75:=by kernel_rfl
 i76:=by kernel_rfl
 i80:=by kernel_rfl
 i105:=by kernel_rfl
 i127:=by kernel_rfl
 i138:=by kernel_rfl
 i139:=by kernel_rfl
 i146:=by kernel_rfl
 i164:=by kernel_rfl
 m1:=by kernel_rfl
 s1_3:=fun w h=>Go.Proofs.cell_of_shapedOpen_int (zero:=#[F G 0]) (t:=3) h (of_decide_eq_true (by kernel_rfl)) (by kernel_rfl) rfl (by kernel_rfl) (by kernel_rfl) Zj
 m3:=by kernel_rfl
 m4:=by kernel_rfl }
open Go.RowKit Go.Lib in
open Go.RowKit Go.Lib in
open Go.RowKit Go.Lib in
def Tryz.lays152_ren:Go.Shelf.Ren:=⟨fun|152=>139|137=>173|119=>174|224=>175|225=>176|217=>189|266=>202|n=>n,fun|9=>9|21=>21|3=>3|4=>4|5=>5|0=>0|46=>218|n=>n,fun|n=>n⟩
theorem Tryz.lays152:Go.Proofs.Lays.n152 E Tryz.lays152_ren:={
 mixed:=by kernel_rfl
 f119:=fk func174 (by kernel_rfl)
 f137:=fk func173 (by kernel_rfl)
 f152:=fk func139 (by kernel_rfl)
 f217:=fk func189 (by kernel_rfl)
 f224:=fk func175 (by kernel_rfl)
 f225:=fk func176 (by kernel_rfl)
 f266:=fk func202 (by kernel_rfl)
 t0:=ZG
 a0:=Z1
 z0:=ZW
 v0:=ZI
 t3:=Zj
 a3:=ZF
 z3:=Zz
 v3:=Zs
 t4:=Zl
 a4:=ZD
 z4:=Zy
 v4:=Zr
 t5:=Tryz.underlying5
 a5:=ZT
 z5:=ZO
 v5:=ZB
 t9:=Tryz.underlying9
 a9:=ZK
 z9:=ZC
 v9:=Zt
 t21:=ZA
 a21:=ZV
 z21:=ZP
 v21:=ZE
 t46:=ZH
 a46:=Z0
 z46:=ZR
 v46:=ZJ }
open Go.RowKit Go.Lib in
theorem Tryz.strings_IndexRune_ascii(s:ByteArray)(r:Int)(w:U)(h0:0<=r)(h1:r<128):
  Z E 139 #[.string s,F .i32 r] w fun e w'=>e=M (F G (Lib.indexByte s.data.toList r.toNat.toUInt8))/\w'=w:=Any.strings_IndexRune_ascii Tryz.lays152 s r w h0 h1
open Go.RowKit Go.Lib in
open Go.RowKit Go.Lib in
def Tryz.lays226_ren:Go.Shelf.Ren:=⟨fun|226=>140|n=>n,fun|3=>3|4=>4|n=>n,fun|n=>n⟩
theorem Tryz.lays226:Go.Proofs.Lays.n226 E Tryz.lays226_ren:={
 mixed:=by kernel_rfl
 f226:=fk func140 (by kernel_rfl)
 t3:=Zj
 a3:=ZF
 z3:=Zz
 v3:=Zs
 t4:=Zl
 a4:=ZD
 z4:=Zy
 v4:=Zr }
open Go.RowKit Go.Lib in
theorem Tryz.strings_shouldUseASCIISet(n:Int)(w:U):
  Z E 140 #[F G n] w fun e w'=>e=M (.bool (decide (8<n)))/\w'=w:=Any.strings_shouldUseASCIISet Tryz.lays226 n w
def Tryz.lays153_ren:Go.Shelf.Ren:=⟨fun|153=>101|152=>139|226=>140|227=>136|228=>141|137=>173|119=>174|224=>175|225=>176|217=>189|266=>202|n=>n,fun|9=>9|3=>3|4=>4|5=>5|21=>21|117=>188|116=>187|0=>0|46=>218|124=>191|n=>n,fun|n=>n⟩
theorem Tryz.lays153:Go.Proofs.Lays.n153 E Tryz.lays153_ren:={
 mixed:=by kernel_rfl
 f119:=fk func174 (by kernel_rfl)
 f137:=fk func173 (by kernel_rfl)
 f152:=fk func139 (by kernel_rfl)
 f153:=fk func101 (by kernel_rfl)
 f217:=fk func189 (by kernel_rfl)
 f224:=fk func175 (by kernel_rfl)
 f225:=fk func176 (by kernel_rfl)
 f226:=fk func140 (by kernel_rfl)
 f227:=fk func136 (by kernel_rfl)
 f228:=fk func141 (by kernel_rfl)
 f266:=fk func202 (by kernel_rfl)
 t0:=ZG
 a0:=Z1
 z0:=ZW
 v0:=ZI
 t3:=Zj
 a3:=ZF
 z3:=Zz
 v3:=Zs
 t4:=Zl
 a4:=ZD
 z4:=Zy
 v4:=Zr
 t5:=Tryz.underlying5
 a5:=ZT
 z5:=ZO
 v5:=ZB
 t9:=Tryz.underlying9
 a9:=ZK
 z9:=ZC
 v9:=Zt
 t21:=ZA
 a21:=ZV
 z21:=ZP
 v21:=ZE
 t46:=ZH
 a46:=Z0
 z46:=ZR
 v46:=ZJ
 t116:=underlying187
 a116:=isAgg187
 z116:=sizeOf187
 t117:=underlying188
 a117:=isAgg188
 z117:=sizeOf188
 v117:=zeroValue188
 t124:=underlying191
 a124:=isAgg191
 z124:=sizeOf191
 v124:=zeroValue191 }
open Go.RowKit Go.Lib in
open Go.RowKit Go.Lib in
open Go.RowKit Go.Lib in
open Go.RowKit Go.Lib in
open Go.RowKit Go.Lib in
open Go.RowKit Go.Lib in
theorem Tryz.strings_IndexAny_long(hv116:∀w,(zeroValue 187).run E w=.ok (Zk (Array.replicate 256 (.bool Y))) w)(s chars:ByteArray)(w:U)(h2:2<=chars.size)(h8:8<s.size)(hs:s.size<4294967281)(hcs:chars.size<4294967281)(hascii:∀(j:Nat)b,chars.data.toList[j]?=L b->b.toNat<128):
  Z E 101 #[.string s,.string chars] w fun e w'=>e=M (F G (Lib.indexAny s.data.toList chars.data.toList))/\w'=((w.alloc (Zv (Lib.setCells chars.data.toList) 187)).alloc (Zv (Lib.setCells chars.data.toList) 187)):=Any.strings_IndexAny_long Tryz.lays153 hv116 (by kernel_rfl) s chars w h2 h8 hs hcs hascii
open Go.RowKit Go.Lib in
open Go.RowKit Go.Lib in
open Go.RowKit Go.Lib in
open Go.RowKit Go.Lib in
open Go.RowKit Go.Lib in
open Go.RowKit Go.Lib in
open Go.RowKit Go.Lib in
open Go.RowKit Go.Lib in
def Tryz.lays229_ren:Go.Shelf.Ren:=⟨fun|229=>49|n=>n,fun|9=>9|40=>87|31=>56|152=>147|3=>3|0=>0|4=>4|21=>21|154=>149|n=>n,fun|n=>n⟩
theorem Tryz.lays229:Go.Proofs.Lays.n229 E Tryz.lays229_ren:={
 mixed:=by kernel_rfl
 f229:=fk func49 (by kernel_rfl)
 t0:=ZG
 a0:=Z1
 z0:=ZW
 v0:=ZI
 t3:=Zj
 a3:=ZF
 z3:=Zz
 v3:=Zs
 t4:=Zl
 a4:=ZD
 z4:=Zy
 v4:=Zr
 t9:=Tryz.underlying9
 a9:=ZK
 z9:=ZC
 v9:=Zt
 t21:=ZA
 a21:=ZV
 z21:=ZP
 v21:=ZE
 t31:=underlying56
 a31:=isAgg56
 z31:=sizeOf56
 v31:=zeroValue56
 t40:=underlying87
 a40:=isAgg87
 z40:=sizeOf87
 v40:=zeroValue87
 t152:=underlying147
 a152:=isAgg147
 z152:=sizeOf147
 v152:=zeroValue147
 t154:=underlying149
 a154:=isAgg149
 z154:=sizeOf149
 v154:=zeroValue149 }
open Go.RowKit Go.Lib in
open Go.RowKit Go.Lib in
open Go.RowKit Go.Lib in
open Go.RowKit Go.Lib in
open Go.RowKit Go.Lib in
open Go.RowKit Go.Lib in
theorem Tryz.strings_FieldsFunc_grows(g:Nat)(lb:Array Zm)(eg:∀args w,(callFunc g args).run E w=.ok (.enter g args) w)(p:Nat->Bool)(s:ByteArray)(w:U)(hs:s.size<=4294967296)(hp:PredGrows E g lb p w):
  Z E 49 #[.string s,.func (.func g) #[] lb] w fun e w'=>∃A,e=M (I (L ⟨A,0,C⟩) (Lib.goFieldsP p s).length (Lib.goFieldsP p s).length)/\w.heap.size<=A/\
   w'.ownsRow w.heap.size 9 1 (I (L ⟨A,0,C⟩) (Lib.goFieldsP p s).length (Lib.goFieldsP p s).length) (Lib.goFieldsP p s).length ((Lib.goFieldsP p s).map Value.string)/\Zw w.heap.size w w':=Any.strings_FieldsFunc_grows Tryz.lays229 g lb eg p s w hs hp (by kernel_rfl) (by kernel_rfl)
end
def NY(R:Nat)(ws:List ByteArray)(b:Bool)(d:ByteArray)(w:U)(e:Ending)(w':U):Prop:=∃n:Int,e=M (F G n)/\((Ui d=L n/\RS R ws b w')\/(Ui d=C/\RS R [] Zf w'))/\Yi R C w w'
theorem Gl.pow(h:Gl w):Lib.TabIs E w "internal/strconv.uint64pow10" .u64 Lib.pow10Tab:=by
 obtain⟨t,fr,h⟩:=h.pw;have a:E.globalNamed "internal/strconv.uint64pow10"=L 11:=by kernel_rfl
 simp only[Lib.TabIs,World.var?,a,ZS,h]
theorem PM(R:Nat)(a:List ByteArray)(b:Bool)(d:ByteArray)(w:U)(h:RS R a b w)(p:Zh (Ui d=C))
  (l:Zh (Z E 89 #[.string d] w fun e w'=>∃(n:Int)(N:Nat),e=M (Zo #[F G n,.iface 213 (Za (L ⟨N,0,C⟩))])/\Zw w.heap.size w w')) :
  Z E 55 #[Za (L ⟨R,0,C⟩),.string d] w (NY R a b d w):=by
 go_enter func55,ntmps55;go_wp2_with fail;refine l.out.mono ?_;rintro e g ⟨n,N,rfl,c⟩;have o:=Yy (J0 R a b g (h.below c));have j:Zh (Yi R C w g):=Yi.la c;clear c l h;go_wp2_with fail;refine o.out.mono ?_;rintro e q ⟨rfl,k,i⟩;have m:=Uy k (j.out.trans i);clear k i o j;go_wp2_with fail;go_ret;exact⟨0,rfl,.inr ⟨p.out,m.out.1⟩,m.out.2⟩
theorem Bm(R:Nat)(m:List ByteArray)(b:Bool)(d:ByteArray)(v:Int)(w:U)(h:RS R m b w)
  (k:Zh (Z E 89 #[.string d] w fun e w'=>e=M (Zo #[F G v,.nilIface])/\Zw w.heap.size w w'))
  (j:Zh (∀W,Zw w.heap.size w W->Z E 90 #[F G v] W fun e w'=>e=M (.string ⟨(Lib.itoa v).toArray⟩)/\Zw W.heap.size W w'))
  (i:Zh (Ui d=if (⟨(Lib.itoa v).toArray⟩:ByteArray)=d then L v else C)) :
  Z E 55 #[Za (L ⟨R,0,C⟩),.string d] w (NY R m b d w):=by
 obtain⟨s,q⟩:∃s:ByteArray,s=⟨(Lib.itoa v).toArray⟩:=⟨_,rfl⟩
 rw[<-q] at j i;clear q;by_cases hd:s=d
 .have hn:Zh (Ui d=L v):=by show _=_;rw[i.out,if_pos hd]
  subst hd;clear i;go_enter func55,ntmps55;go_wp2_with fail;refine k.out.mono ?_;rintro e y ⟨rfl,c⟩;have g:=Yy c;clear c k;go_wp2_with fail;refine(j.out _ g.out).mono ?_;rintro e x ⟨rfl,c⟩;have a:=Yy (g.out.trans (c.mono g.out.size));have l:=Yy (h.below a.out);clear c g h j;go_wp2_with fail;go_ret;exact⟨v,rfl,.inl ⟨hn.out,l.out⟩,Yi.la a.out⟩
 .have hn:Zh (Ui d=C):=by show _=_;rw[i.out,if_neg hd]
  have o:(s.toList==d.toList)=Y:=(Lib.bytes_beq_false_iff _ _).2 hd;have z:(!s.toList==d.toList)=Zf:=by rw[o];rfl
  clear i hd;go_enter func55,ntmps55;go_wp2_with fail;refine k.out.mono ?_;rintro e y ⟨rfl,c⟩;have g:=Yy c;clear c k;go_wp2_with fail;refine(j.out _ g.out).mono ?_;rintro e x ⟨rfl,c⟩;have a:=Yy (g.out.trans (c.mono g.out.size));have r:=Yy (J0 R m b x (h.below a.out));clear c g h j;go_wp2_with fail;refine r.out.mono ?_;rintro e w3 ⟨rfl,p,u⟩;have l:=Uy p ((Yi.la a.out).trans u);clear p u r a;go_wp2_with fail;go_ret;exact⟨0,rfl,.inr ⟨hn.out,l.out.1⟩,l.out.2⟩
theorem WL(w:U)(k:Nat)(a:Array Obj):Zw w.heap.size w (Sort.grow (w.drewN k) a):=by
 refine⟨rfl,rfl,rfl,?_,fun i hi=>?_⟩
 .show w.heap.size<=(w.heap++a).size
  simp
 .show (w.heap++a)[i]?=w.heap[i]?
  exact Array.getElem?_append_left hi
theorem PN(R:Nat)(ws:List ByteArray)(b:Bool)(d:ByteArray)(hd:d.size<=1000000)(w:U)(hg:Gl w)(h:RS R ws b w):
  Z E 55 #[Za (L ⟨R,0,C⟩),.string d] w (NY R ws b d w):=by
 cases ha:Lib.atoiAll d.data.toList with
 |ok v=>
  have l:=Lib.atoiAll_bounds ha;refine Bm R ws b d v w h ?_ (fun W c=>?_) (by show _=_;simp only[Ui,ha])
  .refine(Tryz.strconv_Atoi_ok d (by omega) v ha w).mono ?_;rintro e w' ⟨rfl,rfl|⟨t,rfl⟩⟩
   .exact⟨rfl,Zb _ _⟩
   .exact⟨rfl,Lib.bytesWorld_below _ _ _⟩
  .refine(Tryz.strconv_Itoa v l.1 l.2 W (hg.below c).pow).mono ?_;rintro e w' ⟨rfl,k,m,rfl⟩;exact⟨rfl,WL _ _ _⟩
 |«syntax»=>obtain⟨a,g,i⟩:=hg.es;have j:=i.cell 0;refine PM R ws b d w h (by show _=_;simp only[Ui,ha]) ?_;refine(Tryz.strconv_Atoi_syntax d (by omega) ha (.iface a g) w (by simpa using j) (.inr ⟨a,g,rfl⟩)).mono ?_;rintro e w' ⟨N,rfl,_,_,c⟩;exact⟨0,N,rfl,c⟩
 |range=>obtain⟨a,g,i⟩:=hg.er;have j:=i.cell 0;refine PM R ws b d w h (by show _=_;simp only[Ui,ha]) ?_;refine(Tryz.strconv_Atoi_range d (by omega) ha (.iface a g) w (by simpa using j) (.inr ⟨a,g,rfl⟩)).mono ?_;rintro e w' ⟨N,rfl,_,_,c⟩;exact⟨_,N,rfl,c⟩
theorem Q7(f:List ByteArray->Option (Tm×List ByteArray))(hf:∀ws p,f ws=L p->p.2.length<=ws.length):∀(m:Nat)(ws:List ByteArray)(q:List Tm×List ByteArray),Uh f m ws=L q->q.2.length<=ws.length
 |0,ws,q,h=>by simp[Uh] at h;rw[<-h];exact T _
 |m+1,ws,q,h=>by simp only[Uh,Zx,V] at h;obtain⟨p,hp,q',hq,rfl⟩:=h;have:=hf ws p hp;have:=Q7 f hf m _ _ hq;simp only;omega
def MX(n:Nat):List ByteArray->Option (Tm×List ByteArray)
 |[]=>C
 |y::r1=>(X2 y).bind fun k=>(UK n k r1).bind fun p=>(Uh (YO n) (Yu (k:Int)) p.2).bind fun q=>(behind QK q.2).map fun r4=>(⟨(k:Int),0,p.1,Yk,q.1⟩,r4)
theorem KP(n:Nat)(r:List ByteArray):YO (n+1) (M0::r)=MX n r:=by cases r<;>simp[YO,MX]
theorem KO(n:Nat)(x:ByteArray)(r:List ByteArray)(a:x≠M0):YO (n+1) (x::r)=YQ x r:=by cases r<;>simp[YO,a]
theorem Be{n:Nat}{p:Ty×List ByteArray}(h:UK n k ws=L p):p.2.length<=ws.length:=by
 unfold UK at h;split at h
 .exact Nat.le_of_lt (Ku n _ _ h)
 .cases h;exact T _
theorem NC{x:ByteArray}{r:List ByteArray}{p:Tm×List ByteArray}(h:YQ x r=L p):p.2=r:=by
 unfold YQ at h;split at h
 .cases h;rfl
 .split at h
  .obtain⟨_,_,rfl⟩:=V.1 h;rfl
  .obtain⟨_,_,rfl⟩:=V.1 h;rfl
theorem PG:∀(n:Nat)(ws:List ByteArray)(p:Tm×List ByteArray),YO n ws=L p->p.2.length<ws.length
 |0,_,_,h=>by simp[YO] at h
 |n+1,[],_,h=>by simp[YO] at h
 |n+1,x::r,p,h=>by
  by_cases hx:x=M0
  .subst hx;rw[KP] at h;cases r with
   |nil=>cases h
   |cons y r1=>simp only[MX,Zx,V] at h;obtain⟨k,_,p1,h1,q,h2,r4,h3,rfl⟩:=h;have a1:=Be h1;have a2:=Q7 (YO n) (fun ws p hp=>Nat.le_of_lt (PG n ws p hp)) _ _ _ h2;have a3:=LV h3;simp only[Z7];omega
  .rw[KO n x r hx] at h;rw[NC h];simp
theorem Nf(n:Nat):YO n []=C:=by cases n<;>rfl
def Sj(f:List ByteArray->Option (Tm×List ByteArray))(m:Nat)(ws0:List ByteArray)(b:Bool)(j:Nat)(ws':List ByteArray)(b':Bool)(tms:List Tm):Prop:=(b'=b/\Uh f m ws0=(Uh f (m-j) ws').map (fun q=>(tms++q.1,q.2)))\/(ws'=[]/\b'=Zf/\Uh f m ws0=C)
theorem Sj.start(f:List ByteArray->Option (Tm×List ByteArray))(m:Nat)(a:List ByteArray)(b:Bool):Sj f m a b 0 a b []:=by refine .inl ⟨rfl,?_⟩;simp
theorem Sj.step{f:List ByteArray->Option (Tm×List ByteArray)}{m:Nat}{ws0 ws'':List ByteArray}{b'':Bool}{tms:List Tm}{x:Tm}(i:f []=C)(l:j<m)(h:Sj f m ws0 b j ws' b' tms)
  (d:Um ((f ws').map (·.2)) b' ws'' b'') (k:∀p,f ws'=L p->x=p.1):Sj f m ws0 b (j+1) ws'' b'' (tms++[x]):=by
 rcases h with⟨rfl,h⟩|⟨rfl,rfl,h⟩
 .have e:m-j=(m-(j+1))+1:=by omega
  rw[e] at h;rcases d with⟨a,rfl⟩|⟨a,g,c⟩
  .obtain⟨p,hp,rfl⟩:=V.1 a;refine .inl ⟨rfl,?_⟩;rw[h,Uh,hp,k p hp];simp only[ZS,Option.map_map];congr 1;funext q;simp
  .have hp:=ZZ.1 a;refine .inr ⟨g,c,?_⟩;rw[h,Uh,hp];rfl
 .rw[i] at d;rcases d with⟨a,_⟩|⟨_,g,c⟩
  .cases a
  .exact .inr ⟨g,c,h⟩
theorem Wp{n:Nat}{y:ByteArray}{r1 ws2 ws3:List ByteArray}{b2 b3:Bool}{t:Ty}{tms:List Tm}(hk:X2 y=L k)
  (h1:Um ((UK n k r1).map (·.2)) b ws1 b1) (e1:∀p,UK n k r1=L p->t=p.1)
  (d:Sj (YO n) (Yu (k:Int)) ws1 b1 (Yu (k:Int)) ws2 b2 tms) (h3:Um (behind QK ws2) b2 ws3 b3) (w:UK n k r1=C->0<Yu (k:Int)) :
  Um ((MX n (y::r1)).map (·.2)) b ws3 b3/\∀p,MX n (y::r1)=L p->(⟨(k:Int),0,t,Yk,tms⟩:Tm)=p.1:=by
 have g:∀(o:Option (Tm×List ByteArray)),o=C->ws3=[]->b3=Zf->Um (o.map (·.2)) b ws3 b3/\∀p,o=L p->(⟨(k:Int),0,t,Yk,tms⟩:Tm)=p.1:=by rintro o rfl rfl rfl;exact⟨.inr ⟨rfl,rfl,rfl⟩,fun p h=>by cases h⟩
 have i:ws2=[]->b2=Zf->ws3=[]/\b3=Zf:=by
  rintro rfl rfl;rcases h3 with⟨h,_⟩|⟨_,h,h'⟩
  .cases h
  .exact⟨h,h'⟩
 have e:MX n (y::r1)=(UK n k r1).bind fun p=>(Uh (YO n) (Yu (k:Int)) p.2).bind fun q=>(behind QK q.2).map fun r4=>(⟨(k:Int),0,p.1,Yk,q.1⟩,r4):=by simp only[MX,hk,ZS]
 rw[e];rcases h1 with⟨j,rfl⟩|⟨j,a1,a2⟩
 .obtain⟨p,hp,hp2⟩:=V.1 j;rw[hp,ZS,hp2];rcases d with⟨rfl,d⟩|⟨u,r,d⟩
  .rw[Nat.sub_self,Uh] at d;simp only[Option.map_some,List.append_nil] at d;rw[d,ZS];rcases h3 with⟨l,rfl⟩|⟨l,a4,a3⟩
   .rw[l];refine⟨.inl ⟨rfl,rfl⟩,fun x hx=>?_⟩;cases hx
    rw[e1 p hp]
   .rw[l];exact g _ rfl a4 a3
  .rw[d];obtain⟨a,c⟩:=i u r;exact g _ rfl a c
 .have hp:=ZZ.1 j;have hm:=w hp;rw[hp];subst a1 a2;have z:Uh (YO n) (Yu (k:Int)) []=C:=by
   obtain⟨m,a0⟩:∃m,Yu (k:Int)=m+1:=⟨Yu (k:Int)-1,by omega⟩
   rw[a0,Uh,Nf];rfl
  rcases d with⟨rfl,d⟩|⟨u,r,_⟩
  .rw[z,Nat.sub_self,Uh] at d;cases d
  .obtain⟨a,c⟩:=i u r;exact g _ rfl a c
def Jq(R:Nat)(b:Bool)(o:Option (Tm×List ByteArray))(w:U)(e:Ending)(w':U):Prop:=∃x:TT,e=M (Zk #[F G x.k,F G x.n,F G x.t.k,I x.t.a x.t.l.length x.t.c,F G x.f.k,I x.f.a x.f.l.length x.f.c,I x.a x.l.length x.c])/\x.In w'/\x.Bl (w.heap.size<=·)/\Yi R C w w'/\N0 R b (o.map (·.2)) w'/\∀p,o=L p->x.tm=p.1
theorem JN(w:U):XC (w.alloc (Zv #[F G 0,F G 0,F G 0,I C 0 0,F G 0,I C 0 0,I C 0 0] 27)) w.heap.size (Yr 0 0):=by
 refine⟨⟨?_,?_,?_,?_,?_,?_,?_⟩,fun i hi=>?_⟩
 .simp[go_sem,Yr]
 .simp[go_sem,Yr]
 .simp[go_sem,Yr]
 .simp[go_sem,Yr]
 .simp[go_sem,Yr]
 .simp[go_sem,Yr]
 .simp[go_sem,Yr]
 .simp[go_sem]
theorem YU{x y:TT}(b:XC w k y):(w.setCell ⟨k,0,C⟩ (F G x.k)).cell? ⟨k,0,C⟩=L (F G x.k)/\((w.setCell ⟨k,0,C⟩ (F G x.k)).setCell ⟨k,1,C⟩ (F G x.n)).cell? ⟨k,1,C⟩=L (F G x.n)/\(((w.setCell ⟨k,0,C⟩ (F G x.k)).setCell ⟨k,1,C⟩ (F G x.n)).setCell ⟨k,2,C⟩ (F G x.t.k)).cell? ⟨k,2,C⟩=L (F G x.t.k)/\((((w.setCell ⟨k,0,C⟩ (F G x.k)).setCell ⟨k,1,C⟩ (F G x.n)).setCell ⟨k,2,C⟩ (F G x.t.k)).setCell ⟨k,3,C⟩ (I x.t.a x.t.l.length x.t.c)).cell? ⟨k,3,C⟩=L (I x.t.a x.t.l.length x.t.c)/\(((((w.setCell ⟨k,0,C⟩ (F G x.k)).setCell ⟨k,1,C⟩ (F G x.n)).setCell ⟨k,2,C⟩ (F G x.t.k)).setCell ⟨k,3,C⟩ (I x.t.a x.t.l.length x.t.c)).setCell ⟨k,4,C⟩ (F G x.f.k)).cell? ⟨k,4,C⟩=L (F G x.f.k)/\((((((w.setCell ⟨k,0,C⟩ (F G x.k)).setCell ⟨k,1,C⟩ (F G x.n)).setCell ⟨k,2,C⟩ (F G x.t.k)).setCell ⟨k,3,C⟩ (I x.t.a x.t.l.length x.t.c)).setCell ⟨k,4,C⟩ (F G x.f.k)).setCell ⟨k,5,C⟩ (I x.f.a x.f.l.length x.f.c)).cell? ⟨k,5,C⟩=L (I x.f.a x.f.l.length x.f.c)/\(((((((w.setCell ⟨k,0,C⟩ (F G x.k)).setCell ⟨k,1,C⟩ (F G x.n)).setCell ⟨k,2,C⟩ (F G x.t.k)).setCell ⟨k,3,C⟩ (I x.t.a x.t.l.length x.t.c)).setCell ⟨k,4,C⟩ (F G x.f.k)).setCell ⟨k,5,C⟩ (I x.f.a x.f.l.length x.f.c)).setCell ⟨k,6,C⟩ (I x.a x.l.length x.c)).cell? ⟨k,6,C⟩=L (I x.a x.l.length x.c):=by have a:=b.at7;have i:=a.c0;have l:=a.c1;have c:=a.c2;have d:=a.c3;have h:=a.c4;have e:=a.c5;have g:=a.c6;simp only[Zu] at i l c d h e g;exact⟨(Zc _ _ _ i),(Zc _ _ _ (Yp (j:=0) l)),(Zc _ _ _ (Yp (j:=1) (Yp (j:=0) c))),(Zc _ _ _ (Yp (j:=2) (Yp (j:=1) (Yp (j:=0) d)))),(Zc _ _ _ (Yp (j:=3) (Yp (j:=2) (Yp (j:=1) (Yp (j:=0) h))))),(Zc _ _ _ (Yp (j:=4) (Yp (j:=3) (Yp (j:=2) (Yp (j:=1) (Yp (j:=0) e)))))),(Zc _ _ _ (Yp (j:=5) (Yp (j:=4) (Yp (j:=3) (Yp (j:=2) (Yp (j:=1) (Yp (j:=0) g)))))))⟩
theorem N4{o:Option (Tm×List ByteArray)}{x y:TT}(hbx:XC w2 k y)(hk:w.heap.size<=k)(hR:R<k)(hi:x.In w2)(hbl:x.Bl (k<·))(hkp:Yi R C w w2)(hr:RS R ws' b' w2)(hs:Um (o.map (·.2)) b ws' b')(he:∀p,o=L p->x.tm=p.1):
  Jq R b o w (M (Zk #[F G x.k,F G x.n,F G x.t.k,I x.t.a x.t.l.length x.t.c,F G x.f.k,I x.f.a x.f.l.length x.f.c,I x.a x.l.length x.c])) (Xd w2 k x)/\Uz (Xd w2 k x) k 0 x:=
 ⟨⟨x,rfl,hi.lc YI (hbl.mono fun b h=>by omega),hbl.mono (fun b h=>by omega),hkp.new YI hk,hs.after (hr.new YI hR),he⟩,(JW hbx).at7⟩
def w7(w:U):U:=w.alloc (Zv #[F G 0,F G 0,F G 0,I C 0 0,F G 0,I C 0 0,I C 0 0] 27)
theorem XA(w:U):Zw w.heap.size w (w7 w):=(Zb _ _).alloc (T _) _
theorem EK(x:ByteArray)(d:List UInt8)(h:x.data.toList=35::d):Lib.trimPrefix x.data.toList [35]=d/\Lib.hasPrefix x.data.toList [35]=Zf:=by rw[h];simp[Lib.trimPrefix,Lib.hasPrefix]
theorem Fp(x:ByteArray)(h:∀d,x.data.toList≠35::d):Lib.hasPrefix x.data.toList [35]=Y:=by
 cases hx:x.data.toList with
 |nil=>rfl
 |cons c r=>
  have:c≠35:=fun e=>h r (by rw[hx,e]);have a:(35==c)=Y:=by simpa using fun e=>this e.symm
  simp[Lib.hasPrefix,List.isPrefixOf,a]
theorem OH{d:ByteArray}{e:Ending}(h:NY R ws b d w e w'):∃(n:Int)(ws':List ByteArray)(b':Bool),e=M (F G n)/\RS R ws' b' w'/\Yi R C w w'/\
  (∀K:Int->Tm,Um (((Ui d).map fun n=>(K n,ws)).map (·.2)) b ws' b'/\∀p,((Ui d).map fun n=>(K n,ws))=L p->K n=p.1):=by
 obtain⟨n,j,⟨c,g⟩|⟨c,g⟩,i⟩:=h
 .exact⟨n,ws,b,j,g,i,fun K=>⟨.inl ⟨by rw[c];rfl,rfl⟩,fun p a=>by rw[c] at a;cases a;rfl⟩⟩
 .exact⟨n,[],Zf,j,g,i,fun K=>⟨.inr ⟨by rw[c];rfl,rfl,rfl⟩,fun p a=>by rw[c] at a;cases a⟩⟩
theorem OD(R:Nat)(x:ByteArray)(hxs:x.size<=1000000)(r:List ByteArray)(b b1:Bool)(o:Option (Tm×List ByteArray))(w:U)(hg:Gl w)(hR:12<=R)(hRl:R<w.heap.size)(hx:x≠M0)
  (HN:Zh (Z E 51 #[Za (L ⟨R,0,C⟩)] (w7 w) fun e w'=>e=M (.string x)/\RS R r b1 w'/\Yi R C (w7 w) w'))
  (HO:Zh (∀(t:TT)ws' b',Um ((YQ x r).map (·.2)) b1 ws' b'->(∀p,YQ x r=L p->t.tm=p.1)->Um (o.map (·.2)) b ws' b'/\∀p,o=L p->t.tm=p.1)) :
  Z E 33 #[Za (L ⟨R,0,C⟩)] w (Jq R b o w):=by
 have hq:(x.toList==[40])=Y:=by have:=(Lib.bytes_beq_false_iff x M0).2 hx;rw[M0,Lib.toList_data ⟨#[40]⟩] at this;exact this
 have HG:=Yy (hg.below (XA w));clear hg hx;go_enter func33,ntmps33;go_wp2_with fail;refine HN.out.mono ?_;rintro e i ⟨rfl,hr,hk⟩;have a0:w.heap.size≠R:=by omega
 have a1:=(JN w).kept hk a0;have a2:=a1.lt;have h:=O8 hr (HG.out.kept hR hk) ((Yi.la (XA w)).trans hk) a1;clear hr hk HN HG a1;have q:=Yy (Sx x i h.out.2.1);cases ha:YY x XH 0 with
 |some k=>
  rw[ha] at q;replace q:Zh (Z E 53 #[.string x] i fun e w'=>e=M (Zo #[F G (k:Int),.bool Zf])/\w'=i):=q;have HE:Zh (YQ x r=L (⟨3,(k:Int),Yk,Yk,[]⟩,r)):=by show _=_;simp[YQ,ha]
  clear ha;have a:=h.out.2.2.2.at7;have c0:=a.c0;have c1:=a.c1;have c2:=a.c2;have c3:=a.c3;have c4:=a.c4;have c5:=a.c5;have c6:=a.c6;simp only[Zu,Yr] at c0 c1 c2 c3 c4 c5 c6;have f0:=h.out.2.2.2.fz 0 (by omega);have f1:=h.out.2.2.2.fz 1 (by omega);have f2:=h.out.2.2.2.fz 2 (by omega);have f3:=h.out.2.2.2.fz 3 (by omega);have f4:=h.out.2.2.2.fz 4 (by omega);have f5:=h.out.2.2.2.fz 5 (by omega);have f6:=h.out.2.2.2.fz 6 (by omega);clear a;go_wp2_with fail;refine q.out.mono ?_;rintro e w2 ⟨rfl,rfl⟩;go_wp2_with fail;have h9:=HO.out (Yr 3 (k:Int)) r b1 (by rw[HE.out];exact .inl ⟨rfl,rfl⟩) (fun p hp=>by rw[HE.out] at hp;cases hp;exact Nw _ _);have hE:=N4 (x:=Yr 3 (k:Int)) (w:=w) h.out.2.2.2 (T _) hRl (Jh _ _ _) (L5 _ _ _) h.out.2.2.1 h.out.1 h9.1 h9.2;refine Ze (v:=Zk #[F G 3,F G (k:Int),F G 0,I C 0 0,F G 0,I C 0 0,I C 0 0]) ?_ rfl hE.1;obtain⟨d0,d1,u,z,d4,d5,d6⟩:=YU (x:=Yr 3 (k:Int)) h.out.2.2.2;simp only[Yr,Yb] at d0 d1 u z d4 d5 d6;simp[results,results33,go_sem,d0,d1,u,z,d4,d5,d6]
 |none=>
  rw[ha] at q;replace q:Zh (Z E 53 #[.string x] i fun e w'=>e=M (Zo #[F G 0,.bool Y])/\w'=i):=q;by_cases hp:∃d,x.data.toList=35::d
  .obtain⟨d,hd⟩:=hp;have HE:Zh (YQ x r=(Ui ⟨d.toArray⟩).map fun n=>(⟨1,n,Yk,Yk,[]⟩,r)):=by show _=_;simp[YQ,ha,hd]
   have HC:Zh (Z E 54 #[.string x,.string ⟨#[35]⟩] i fun e w'=>e=M (Zo #[.string ⟨d.toArray⟩,.bool Zf])/\w'=i):=by have:=Tryz.strings_CutPrefix x ⟨#[35]⟩ i;have hc:=EK x d hd;rw[show (⟨#[35]⟩:ByteArray).data.toList=[35] from rfl,hc.1,hc.2] at this;exact this
   have HM:Zh (Z E 55 #[Za (L ⟨R,0,C⟩),.string ⟨d.toArray⟩] i (NY R r b1 ⟨d.toArray⟩ i)):=by
    refine PN R r b1 ⟨d.toArray⟩ ?_ i h.out.2.1 h.out.1;have:x.data.toList.length=x.size:=ZL;rw[hd] at this;show d.toArray.size<=1000000
    simp at this ⊢;omega
   clear ha hd;go_wp2_with fail;refine q.out.mono ?_;rintro e w2 ⟨rfl,rfl⟩;go_wp2_with fail;refine HC.out.mono ?_;rintro e w3 ⟨rfl,rfl⟩;go_wp2_with fail;refine HM.out.mono ?_;intro e w4 g;obtain⟨n,ws',b',rfl,l,j,m⟩:=OH g;have c:=LL (h.out.2.2.2.kept j a0) l (h.out.2.2.1.trans j);have HS:Zh (Um ((YQ x r).map (·.2)) b1 ws' b'/\∀p,YQ x r=L p->(Yr 1 n).tm=p.1):=by have:=m (fun n=>⟨1,n,Yk,Yk,[]⟩);rw[HE.out,Nw];exact this
   have a:=c.out.1.at7;have c0:=a.c0;have c1:=a.c1;have c2:=a.c2;have c3:=a.c3;have c4:=a.c4;have c5:=a.c5;have c6:=a.c6;simp only[Zu,Yr] at c0 c1 c2 c3 c4 c5 c6;have f0:=c.out.1.fz 0 (by omega);have f1:=c.out.1.fz 1 (by omega);have f2:=c.out.1.fz 2 (by omega);have f3:=c.out.1.fz 3 (by omega);have f4:=c.out.1.fz 4 (by omega);have f5:=c.out.1.fz 5 (by omega);have f6:=c.out.1.fz 6 (by omega);clear a g l j m HM HC q;go_wp2_with fail;have h9:=HO.out (Yr 1 n) ws' b' HS.out.1 HS.out.2;have hE:=N4 (x:=Yr 1 n) (w:=w) c.out.1 (T _) hRl (Jh _ _ _) (L5 _ _ _) c.out.2.2 c.out.2.1 h9.1 h9.2;refine Ze (v:=Zk #[F G 1,F G n,F G 0,I C 0 0,F G 0,I C 0 0,I C 0 0]) ?_ rfl hE.1;obtain⟨d0,d1,u,z,d4,d5,d6⟩:=YU (x:=Yr 1 n) c.out.1;simp only[Yr,Yb] at d0 d1 u z d4 d5 d6;simp[results,results33,go_sem,d0,d1,u,z,d4,d5,d6]
  .have hp':∀d,x.data.toList≠35::d:=fun d hd=>hp ⟨d,hd⟩;have HE:Zh (YQ x r=(Ui x).map fun n=>(⟨2,n,Yk,Yk,[]⟩,r)):=by
    show _=_
    simp only[YQ,ha]
   have HC:Zh (Z E 54 #[.string x,.string ⟨#[35]⟩] i fun e w'=>∃y,e=M (Zo #[.string y,.bool Y])/\w'=i):=by refine(Tryz.strings_CutPrefix x ⟨#[35]⟩ i).mono ?_;rintro e w' ⟨rfl,rfl⟩;exact⟨⟨(Lib.trimPrefix x.data.toList [35]).toArray⟩,by rw[show (⟨#[35]⟩:ByteArray).data.toList=[35] from rfl,Fp x hp'],rfl⟩
   have HM:=Yy (PN R r b1 x hxs i h.out.2.1 h.out.1);clear ha hp hp';go_wp2_with fail;refine q.out.mono ?_;rintro e w2 ⟨rfl,rfl⟩;go_wp2_with fail;refine HC.out.mono ?_;rintro e w3 ⟨y,rfl,rfl⟩;go_wp2_with fail;refine HM.out.mono ?_;intro e w4 g;obtain⟨n,ws',b',rfl,l,j,m⟩:=OH g;have c:=LL (h.out.2.2.2.kept j a0) l (h.out.2.2.1.trans j);have HS:Zh (Um ((YQ x r).map (·.2)) b1 ws' b'/\∀p,YQ x r=L p->(Yr 2 n).tm=p.1):=by have:=m (fun n=>⟨2,n,Yk,Yk,[]⟩);rw[HE.out,Nw];exact this
   have a:=c.out.1.at7;have c0:=a.c0;have c1:=a.c1;have c2:=a.c2;have c3:=a.c3;have c4:=a.c4;have c5:=a.c5;have c6:=a.c6;simp only[Zu,Yr] at c0 c1 c2 c3 c4 c5 c6;have f0:=c.out.1.fz 0 (by omega);have f1:=c.out.1.fz 1 (by omega);have f2:=c.out.1.fz 2 (by omega);have f3:=c.out.1.fz 3 (by omega);have f4:=c.out.1.fz 4 (by omega);have f5:=c.out.1.fz 5 (by omega);have f6:=c.out.1.fz 6 (by omega);clear a g l j m HM HC q;go_wp2_with fail;have h9:=HO.out (Yr 2 n) ws' b' HS.out.1 HS.out.2;have hE:=N4 (x:=Yr 2 n) (w:=w) c.out.1 (T _) hRl (Jh _ _ _) (L5 _ _ _) c.out.2.2 c.out.2.1 h9.1 h9.2;refine Ze (v:=Zk #[F G 2,F G n,F G 0,I C 0 0,F G 0,I C 0 0,I C 0 0]) ?_ rfl hE.1;obtain⟨d0,d1,u,z,d4,d5,d6⟩:=YU (x:=Yr 2 n) c.out.1;simp only[Yr,Yb] at d0 d1 u z d4 d5 d6;simp[results,results33,go_sem,d0,d1,u,z,d4,d5,d6]
theorem RU(R n:Nat)(b:Bool)(w:U)(m:Gl w)(k:12<=R)(h:RS R [] b w):
  Z E 33 #[Za (L ⟨R,0,C⟩)] w (Jq R b (YO n []) w):=by
 rw[Nf];refine OD R ⟨#[]⟩ (by decide) [] b Zf C w m k h.lt (by decide) (NH R b _ (h.below (XA w))) ?_;intro t i q a _;have e:YQ ⟨#[]⟩ []=C:=by
  have g:YY ⟨#[]⟩ XH 0=C:=by decide
  have o:Ui ⟨#[]⟩=C:=rfl;simp only[YQ,g,o];rfl
 rw[e] at a;rcases a with⟨d,_⟩|⟨_,l,j⟩
 .cases d
 .exact⟨.inr ⟨rfl,l,j⟩,fun p c=>by cases c⟩
theorem QC(R n:Nat)(x:ByteArray)(a:x.size<=1000000)(r:List ByteArray)(c:x≠M0)(b:Bool)(w:U)(j:Gl w)(g:12<=R)(h:RS R (x::r) b w):
  Z E 33 #[Za (L ⟨R,0,C⟩)] w (Jq R b (YO (n+1) (x::r)) w):=by
 rw[KO n x r c];exact OD R x a r b b (YQ x r) w j g h.lt c (JJ R x r b _ (h.below (XA w))) (fun t d k i e=>⟨i,e⟩)
theorem Nq{x:ByteArray}{ws r:List ByteArray}(h:behind x ws=L r):r <:+ ws:=by
 cases ws with
 |nil=>cases h
 |cons y s=>
  simp only[behind] at h;split at h
  .cases h;exact ZU _ _
  .cases h
theorem LI:∀(n:Nat)(ws:List ByteArray)(p:Ty×List ByteArray),YR n ws=L p->p.2 <:+ ws
 |0,_,_,h=>by simp[YR] at h
 |n+1,[],_,h=>by simp[YR] at h
 |n+1,x::r,p,h=>by
  simp only[YR] at h;split at h
  .simp only[Zx,V] at h;obtain⟨r1,h1,q1,h2,q2,h3,r4,h4,rfl⟩:=h;exact(Nq h4).trans ((LI n _ _ h3).trans ((LI n _ _ h2).trans ((Nq h1).trans (ZU _ _))))
  .simp only[V] at h;obtain⟨k,_,rfl⟩:=h;exact ZU _ _
theorem Bd{n:Nat}{p:Ty×List ByteArray}(h:UK n k ws=L p):p.2 <:+ ws:=by
 unfold UK at h;split at h
 .exact LI n _ _ h
 .cases h;exact List.suffix_rfl
theorem Q6(f:List ByteArray->Option (Tm×List ByteArray))(hf:∀ws p,f ws=L p->p.2 <:+ ws):∀(m:Nat)(ws:List ByteArray)(q:List Tm×List ByteArray),Uh f m ws=L q->q.2 <:+ ws
 |0,ws,q,h=>by simp[Uh] at h;rw[<-h];exact List.suffix_rfl
 |m+1,ws,q,h=>by simp only[Uh,Zx,V] at h;obtain⟨p,hp,q',hq,rfl⟩:=h;exact(Q6 f hf m _ _ hq).trans (hf ws p hp)
theorem PE:∀(n:Nat)(ws:List ByteArray)(p:Tm×List ByteArray),YO n ws=L p->p.2 <:+ ws
 |0,_,_,h=>by simp[YO] at h
 |n+1,[],_,h=>by simp[YO] at h
 |n+1,x::r,p,h=>by
  by_cases hx:x=M0
  .subst hx;rw[KP] at h;cases r with
   |nil=>cases h
   |cons y r1=>simp only[MX,Zx,V] at h;obtain⟨k,_,p1,h1,q,h2,r4,h3,rfl⟩:=h;have a2:=Q6 (YO n) (fun ws p hp=>PE n ws p hp) _ _ _ h2;exact(Nq h3).trans (a2.trans ((Bd h1).trans ((ZU _ _).trans (ZU _ _))))
  .rw[KO n x r hx] at h;rw[NC h];exact ZU _ _
def BV(ws:List ByteArray):Prop:=∀x,x∈ws->x.size<=1000000
theorem BV.rh{a b:List ByteArray}(h:BV b)(hs:a <:+ b):BV a:=fun x hx=>h x (hs.subset hx)
theorem BV.step{o:Option (List ByteArray)}(h:BV ws)(c:Um o b ws' b')(a:∀r,o=L r->r <:+ ws):BV ws':=by
 rcases c with⟨e,_⟩|⟨_,rfl,_⟩
 .exact h.rh (a _ e)
 .intro x hx;cases hx
theorem RS.agree(h:RS R ws b w)(e:∀k,k<=R->w'.heap[k]?=w.heap[k]?):RS R ws b w':=by obtain⟨⟨a,c,r,y,j⟩,p,m,q,hz⟩:=h;refine⟨⟨a,c,(Zn (a:=⟨R,0,C⟩) (e R (T _))).trans r,y,fun d=>?_⟩,(Zn (a:=⟨R,1,C⟩) (e R (T _))).trans p,(Zq (a:=⟨R,0,C⟩) (e R (T _))).trans m,(Zq (a:=⟨R,1,C⟩) (e R (T _))).trans q,hz⟩;obtain⟨A,o,l,g,u⟩:=j d;exact⟨A,o,l,g,fun i x hi=>(Zn (a:=⟨A,o+i,C⟩) (e A (Nat.le_of_lt g))).trans (u i x hi)⟩
theorem XC.agree{x:TT}(h:XC w J x)(e:w'.heap[J]?=w.heap[J]?):XC w' J x:=⟨h.at7.of fun i=>Zn (a:=⟨J,i,C⟩) e,fun i hi=>(Zq (a:=⟨J,i,C⟩) e).trans (h.fz i hi)⟩
theorem Yi.agree(h:Yi R C w w2)(h1:w3.os=w2.os)(h2:w3.tape=w2.tape)(h3:w3.output=w2.output)(h4:w2.heap.size<=w3.heap.size)(e:∀k,k<w.heap.size->w3.heap[k]?=w2.heap[k]?):Yi R C w w3:=⟨h1.trans h.os,h2.trans h.tape,h3.trans h.output,Nat.le_trans h.size h4,fun k hk a b=>(e k hk).trans (h.block k hk a b)⟩
theorem Tr.In.agree{t:Tr}(h:t.In w)(hb:t.Bl P)(e:∀k,P k->w'.heap[k]?=w.heap[k]?):t.In w':=h.congr (P:=P) (fun b hb o=>Zn (a:=⟨b,o,C⟩) (e b hb)) hb
theorem Tryz.info27:(E.info? 27).map (fun i=>(i.zero,i.size,i.bytes))=L (L (Zk #[F G 0,F G 0,F G 0,I C 0 0,F G 0,I C 0 0,I C 0 0]),7,104):=by kernel_rfl
theorem Rr(R:Nat)(y:ByteArray)(hy:X2 y=C)(r:List ByteArray)(b q:Bool)(w:U)(u:Gl w)(hR:12<=R)(k:R<w.heap.size)
  (HN:Zh (Z E 51 #[Za (L ⟨R,0,C⟩)] (w7 w) fun e w'=>e=M (.string y)/\RS R r q w'/\Yi R C (w7 w) w')) :
  Z E 52 #[Za (L ⟨R,0,C⟩)] w (Jq R b C w):=by
 have HG:=Yy (u.below (XA w));clear u;go_enter func52,ntmps52;go_wp2_with fail;refine HN.out.mono ?_;rintro e i ⟨rfl,hr,j⟩;have h:w.heap.size≠R:=by omega
 have HT:Zh (Z E 84 #[.string y] i fun e w'=>e=M (Zo #[F G 0,.bool Y])/\w'=i):=by have:=PZ y i (HG.out.kept hR j);rw[hy] at this;exact this
 have z:=Yy (J0 R r q i hr);have HD:=Uy ((Yi.la (XA w)).trans j) ((JN w).kept j h);clear hr j HN HG hy;go_wp2_with fail;refine HT.out.mono ?_;rintro e w2 ⟨rfl,rfl⟩;go_wp2_with fail;refine z.out.mono ?_;rintro e w4 ⟨rfl,g,d⟩;have a:=LL (HD.out.2.kept d h) g (HD.out.1.trans d);have c:=a.out.1.at7;have c0:=c.c0;have c1:=c.c1;have c2:=c.c2;have c3:=c.c3;have c4:=c.c4;have c5:=c.c5;have c6:=c.c6;simp only[Zu,Yr] at c0 c1 c2 c3 c4 c5 c6;have f0:=a.out.1.fz 0 (by omega);have f1:=a.out.1.fz 1 (by omega);have f2:=a.out.1.fz 2 (by omega);have f3:=a.out.1.fz 3 (by omega);have f4:=a.out.1.fz 4 (by omega);have f5:=a.out.1.fz 5 (by omega);have f6:=a.out.1.fz 6 (by omega);clear c g d z HT;go_wp2_with fail;have hE:=N4 (x:=Yr 0 0) (w:=w) (o:=C) (b:=b) a.out.1 (T _) k (Jh _ _ _) (L5 _ _ _) a.out.2.2 a.out.2.1 (.inr ⟨rfl,rfl,rfl⟩) (fun p hp=>by cases hp);refine Ze (v:=Zk #[F G 0,F G 0,F G 0,I C 0 0,F G 0,I C 0 0,I C 0 0]) ?_ rfl hE.1;obtain⟨d0,d1,l,m,d4,d5,d6⟩:=YU (x:=Yr 0 0) a.out.1;simp only[Yr,Yb] at d0 d1 l m d4 d5 d6;simp[results,results52,go_sem,d0,d1,l,m,d4,d5,d6]
theorem QD(R n:Nat)(r:List ByteArray)(b:Bool)(w:U)(hR:12<=R)(u:Gl w)(h:RS R (M0::r) b w)
  (ih:Zh (∀(w:U),Gl w->RS R r b w->Z E 52 #[Za (L ⟨R,0,C⟩)] w (Jq R b (MX n r) w))) :
  Z E 33 #[Za (L ⟨R,0,C⟩)] w (Jq R b (MX n r) w):=by
 have HN:Zh (Z E 51 #[Za (L ⟨R,0,C⟩)] (w7 w) fun e w'=>e=M (.string ⟨#[40]⟩)/\RS R r b w'/\Yi R C (w7 w) w'):=JJ R M0 r b _ (h.below (XA w));have o:=h.lt;have HG:=Yy (u.below (XA w));clear h u;go_enter func33,ntmps33;go_wp2_with fail;refine HN.out.mono ?_;rintro e w1 ⟨rfl,z,m⟩;have j:w.heap.size≠R:=by omega
 have c:=(JN w).kept m j;have a1:=c.lt;have HT:=Yy (ih.out w1 (HG.out.kept hR m) z);have q:=Uy ((Yi.la (XA w)).trans m) c;clear m z HN HG c;go_wp2_with fail;refine HT.out.mono ?_;rintro e w2 ⟨x,rfl,hi,i,g,y,he⟩;obtain⟨a0,b',k,l⟩:=y.letters;have a:=q.out.2.kept g j;have HE:Zh (Jq R b (MX n r) w (M (Zk x.v)) (Xd w2 w.heap.size x)):=(N4 a (T _) o hi (i.mono fun b hb=>by omega) (q.out.1.trans g) k l he).1
 have p:Zh _:=YU (x:=x) a;have d:=a.at7;have c0:=d.c0;have c1:=d.c1;have c2:=d.c2;have c3:=d.c3;have c4:=d.c4;have c5:=d.c5;have c6:=d.c6;simp only[Zu,Yr] at c0 c1 c2 c3 c4 c5 c6;have f0:=a.fz 0 (by omega);have f1:=a.fz 1 (by omega);have f2:=a.fz 2 (by omega);have f3:=a.fz 3 (by omega);have f4:=a.fz 4 (by omega);have f5:=a.fz 5 (by omega);have f6:=a.fz 6 (by omega);clear d hi i g y he k l a HT q;go_wp2_with fail;refine Ze (v:=Zk x.v) ?_ rfl HE.out;obtain⟨d0,d1,d2,d3,d4,d5,d6⟩:=p.out;simp[results,results33,go_sem,d0,d1,d2,d3,d4,d5,d6]
structure FB(R H J B k n:Nat)(ws1:List ByteArray)(b1:Bool)(t:Tr)(w:U)(j:Nat)(v:Zm)(cs:List TT)(ws':List ByteArray)(b':Bool)(wr:U):Prop where
 row:O3 B v cs wr
 len:cs.length=j
 box:∃a c,v=I a cs.length c/\XC wr J ⟨(k:Int),0,t,Ys 0,a,c,cs⟩
 res:XC wr H (Yr 0 0)
 rs:RS R ws' b' wr
 kept:Yi R C w wr
 inv:Sj (YO n) (Yu (k:Int)) ws1 b1 j ws' b' (cs.map TT.tm)
 tin:t.In wr
 tbl:t.Bl (fun b=>J<b/\b<B)
 gl:Gl wr
 sm:BV ws'
 small:ws'.length<n
 size:B<=wr.heap.size
theorem FB.step{H n:Nat}{t:Tr}{v:Zm}{cs:List TT}{ws'':List ByteArray}{b'':Bool}{wr:U}{x:TT}{gg cap1:Nat}{X:Obj}
  (h:FB R H J B k n ws1 b1 t w j v cs ws' b' wr) (ac:R<H) (af:H<J) (aa:J<B) (hw:w.heap.size<=H) (hR:12<=R) (hj:j<Yu (k:Int))
  (ab:x.In w2) (a6:x.Bl (wr.heap.size<=·)) (o:Yi R C wr w2) (hr:RS R ws'' b'' w2) (hs:Um ((YO n ws').map (·.2)) b' ws'' b'') (he:∀p,YO n ws'=L p->x.tm=p.1)
  (a0:w3.ownsRow B 27 7 (I (L ⟨gg,0,C⟩) (cs.length+1) cap1) (cs.length+1) (YW cs++YW [x])) (d:(w2.alloc X).grownBy w3 v.ownBlock) (a8:v.ownBlock=L gg\/gg=w2.heap.size+1) :
  FB R H J B k n ws1 b1 t w (j+1) (I (L ⟨gg,0,C⟩) (cs.length+1) cap1) (cs++[x]) ws'' b'' (w3.setCell ⟨J,6,C⟩ (I (L ⟨gg,0,C⟩) (cs.length+1) cap1)):=by
 have ae:=h.size;have ad:=o.size;have a2:=h.row.lt;have z:=h.row.kept o (by omega);obtain⟨y,a5⟩:=z.step ab (a6.mono fun b hb=>⟨by omega,fun e=>by have:=(a2 b e.symm).2;omega⟩) a0 d a8;have i:∀q,q<B->w3.heap[q]?=w2.heap[q]?:=fun q hq=>a5 q (by omega) (fun e=>by have:=(a2 q e.symm).1;omega);have a7:w2.heap.size<=w3.heap.size:=by have:=d.size;simp at this;omega
 have a4:∀{u:U},Yi R C u w2->u.heap.size<=B->Yi R C u w3:=fun hu hB=>hu.agree (d.os.trans rfl) (d.tape.trans rfl) (d.output.trans rfl) a7 (fun q hq=>i q (by omega));have l:Yi J C w3 (w3.setCell ⟨J,6,C⟩ (I (L ⟨gg,0,C⟩) (cs.length+1) cap1)):=Yj;obtain⟨a,c,hv,a3⟩:=h.box;have m:=(a3.kept o (by omega)).agree (i J aa);have a9:=h.kept.trans o;have a1:=h.inv.step (Nf n) hj hs he;refine⟨y.kept l (by omega),by rw[Yc,h.len];rfl,⟨L ⟨gg,0,C⟩,cap1,?_,?_⟩,?_,?_,?_,?_,?_,h.tbl,?_,?_,?_,?_⟩
 .rw[Yc,List.length_singleton]
 .have:=m.pz (a':=L ⟨gg,0,C⟩) (c':=cap1) (l':=cs++[x]);rw[Yc,List.length_singleton] at this;exact this
 .exact((h.res.kept o (by omega)).agree (i H (by omega))).kept l (by omega)
 .exact(hr.agree fun q hq=>i q (by omega)).new l (by omega)
 .exact(a4 a9 (by omega)).new l (by omega)
 .rw[List.map_append];exact a1
 .exact((h.tin.lc o (h.tbl.mono fun b hb=>by omega)).agree h.tbl (fun q hq=>i q hq.2)).lc l (h.tbl.mono fun b hb=>by omega)
 .exact((h.gl.kept hR o).of fun g hg=>i g (by omega)).kept (by omega) l
 .exact h.sm.step hs (fun r hr=>by obtain⟨p,hp,rfl⟩:=V.1 hr;exact PE n _ _ hp)
 .have:=h.small;refine Nat.lt_of_le_of_lt (hs.len (N:=ws'.length) fun r hr=>?_) this;obtain⟨p,hp,rfl⟩:=V.1 hr;exact Nat.le_of_lt (PG n _ _ hp)
 .have:=l.size;omega
theorem R4{y:ByteArray}(h:X2 y=L k):4<=k/\k<=9:=by
 simp only[X2,UZ,YY] at h;repeat' split at h
 all_goals first
  |(cases h;omega)
  |cases h
theorem WI(R n:Nat)(y:ByteArray)(k:Nat)(hy:X2 y=L k)(r1:List ByteArray)(b:Bool)(w:U)(hg:Gl w)(hR:12<=R)(h:RS R (y::r1) b w)(hn:r1.length<n)(hsm:BV r1)
  (ih:Zh (∀(ws:List ByteArray)(b:Bool)(w:U),ws.length<n->BV ws->Gl w->RS R ws b w->Z E 33 #[Za (L ⟨R,0,C⟩)] w (Jq R b (YO n ws) w))) :
  Z E 52 #[Za (L ⟨R,0,C⟩)] w (Jq R b (MX n (y::r1)) w):=by
 obtain⟨i0,c7,br,ca,bv⟩:=info_parts Tryz.info27;have HN:Zh (Z E 51 #[Za (L ⟨R,0,C⟩)] (w7 w) fun e w'=>e=M (.string y)/\RS R r1 b w'/\Yi R C (w7 w) w'):=JJ R y r1 b _ (h.below (XA w));have bc:=h.lt;have HG:=Yy (hg.below (XA w));have cf:=R4 hy;have HY:=Yy hy;have HL:=Uy hn hsm;have bd:=NE (k:Int);have ci:=Yy bd;clear hg h hn hsm;obtain⟨P,hP⟩:∃P,Yu (k:Int)=P:=⟨_,rfl⟩
 have HP:=Yy hP;have cg:(P:Int)<=3:=by rw[<-hP];omega
 clear hP bd;go_enter func52,ntmps52;go_wp2_with fail;refine HN.out.mono ?_;rintro e o ⟨rfl,hr,hk⟩;have aq:w.heap.size≠R:=by omega
 have HT:Zh (Z E 84 #[.string y] o fun e w'=>e=M (Zo #[F G (k:Int),.bool Zf])/\w'=o):=by have:=PZ y o (HG.out.kept hR hk);rw[hy] at this;exact this
 have a1:=(JN w).kept hk aq;have bx:=a1.lt;have HD:=O8 ((Yi.la (XA w)).trans hk) a1 hr (HG.out.kept hR hk);clear hr hk HN HG hy a1;have HK:=Yy (QV (k:Int));obtain⟨O,hO⟩:∃O,O=Obj.cells #[F G (k:Int),F G 0,F G 0,I C 0 0,F G 0,I C 0 0,I C 0 0] 27:=⟨_,rfl⟩
 have ab:bL o (o.alloc O):=(Zb _ _).alloc (T _) _;have al:XC (o.alloc O) o.heap.size ⟨(k:Int),0,Ys 0,Ys 0,C,0,[]⟩:=by
  subst hO;refine⟨⟨?_,?_,?_,?_,?_,?_,?_⟩,fun i hi=>?_⟩
  .simp[go_sem]
  .simp[go_sem]
  .simp[go_sem,Ys]
  .simp[go_sem,Ys]
  .simp[go_sem,Ys]
  .simp[go_sem,Ys]
  .simp[go_sem]
  .simp[go_sem]
 have HE:Zh (Yi R C w (o.alloc O)/\XC (o.alloc O) w.heap.size (Yr 0 0)/\RS R r1 b (o.alloc O)/\Gl (o.alloc O)/\XC (o.alloc O) o.heap.size ⟨(k:Int),0,Ys 0,Ys 0,C,0,[]⟩):=⟨HD.out.1.trans (Yi.la ab),HD.out.2.1.below ab,HD.out.2.2.1.below ab,HD.out.2.2.2.below ab,al⟩
 have av:(o.alloc O).heap.size=o.heap.size+1:=by simp
 obtain⟨bt,au⟩:∃bt,XV (k:Int)=bt:=⟨_,rfl⟩
 rw[au] at HK;have ay:=Yy au;clear au al ab HD;cases bt
 rotate_left;focus
  have bh:Zh (Z E 86 #[Za (L ⟨R,0,C⟩)] (o.alloc O) (Kg R b (YR n r1) (o.alloc O))):=RT R hR n r1 b _ HL.out.1 HE.out.2.2.2.1 HE.out.2.2.1
  have bs:Zh (UK n k r1=YR n r1):=by show _=_;unfold UK;rw[ay.out];rfl
  have bo:0<Yu (k:Int):=by have:=ay.out;simp only[XV,Bool.or_eq_true,beq_iff_eq] at this;rcases this with e|e<;>rw[e]<;>decide
  have bu:=Yy bo
  clear bo
  have i1:(0:Int)<=(k:Int):=by omega
  have i2:(k:Int)<10:=by omega
  subst hO
  go_wp2_with fail
  refine HT.out.mono ?_
  rintro e m ⟨rfl,rfl⟩
  go_wp2_with fail
  refine(HK.out _).mono ?_
  rintro e m ⟨rfl,rfl⟩
  go_wp2_with fail
  refine bh.out.mono ?_
  rintro e w3 ⟨t,rfl,ax,aj,ah,bf,aa⟩
  obtain⟨q,b1,ba,ar⟩:=bf.letters
  have b7:m.heap.size≠R:=by omega
  have u:=HE.out.2.2.2.2.kept ah b7
  have cd:=u.lt
  have a3:Yi m.heap.size C w3 ((w3.setCell ⟨m.heap.size,2,C⟩ (F G t.k)).setCell ⟨m.heap.size,3,C⟩ (t.s)):=Pv
  have an:((w3.setCell ⟨m.heap.size,2,C⟩ (F G t.k)).setCell ⟨m.heap.size,3,C⟩ (t.s)).heap.size=w3.heap.size:=by simp[World.setCell]
  have a6:=HE.out.2.2.2.1.kept hR ah
  have a2:Zh (FB R w.heap.size m.heap.size w3.heap.size k n q b1 t w 0 (I C 0 0) [] q b1 ((w3.setCell ⟨m.heap.size,2,C⟩ (F G t.k)).setCell ⟨m.heap.size,3,C⟩ (t.s))):=by have a8:Um ((YR n r1).map (·.2)) b q b1:=ar;refine⟨O3.nil _ _,rfl,⟨C,0,rfl,u.qn⟩,(HE.out.2.1.kept ah aq).kept a3 (by omega),ba.new a3 (by omega),(HE.out.1.trans ah).new a3 (by omega),Sj.start _ _ _ _,ax.lc a3 (aj.mono fun b hb=>by simp at hb;omega),(ax.bl.and aj).mono (fun b hb=>⟨by have:=hb.2;simp at this;omega,hb.1⟩),a6.kept (by omega) a3,HL.out.2.step a8 (fun r hr=>by obtain⟨p,hp,rfl⟩:=V.1 hr;exact LI n _ _ hp),?_,by rw[an];exact T _⟩;refine Nat.lt_of_le_of_lt (a8.len (N:=r1.length) fun r hr=>?_) HL.out.1;obtain⟨p,hp,rfl⟩:=V.1 hr;exact Nat.le_of_lt (Ku n _ _ hp)
  have HS:Zh (Um ((UK n k r1).map (·.2)) b q b1/\(∀p,UK n k r1=L p->t.ty=p.1)/\(UK n k r1=C->0<Yu (k:Int))):=by
   show _/\_
   rw[bs.out];exact⟨ar,aa,fun _=>bu.out⟩
  have hp:cL w3 0 k (F G (P:Int)):=by rw[<-HP.out];exact KA a6.gp (k:Int) (by omega) (by omega)
  have ch:(2:Nat)≠m.heap.size:=by omega
  have q2:=u.at7.c2
  have q3:=u.at7.c3
  simp only[Zu,Ys] at q2 q3
  have g2:=u.fz 2 (by omega)
  have g3:=u.fz 3 (by omega)
  obtain⟨B,hB⟩:∃B,w3.heap.size=B:=⟨_,rfl⟩
  have bk:m.heap.size<B:=by omega
  rw[hB] at a2
  clear hB av ax aj ah bf aa ba ar u a3 an a6 bh
  go_wp2_with fail
 rotate_left;focus
  have b6:Zh (∃(t:Tr)(q:List ByteArray)(b1:Bool),FB R w.heap.size o.heap.size (o.alloc O).heap.size k n q b1 t w 0 (I C 0 0) [] q b1 (o.alloc O)/\Um ((UK n k r1).map (·.2)) b q b1/\(∀p,UK n k r1=L p->t.ty=p.1)/\(UK n k r1=C->0<Yu (k:Int))):=by
   have e:UK n k r1=L (Yk,r1):=by unfold UK;rw[ay.out];rfl
   refine⟨Ys 0,r1,b,⟨O3.nil _ _,rfl,⟨C,0,rfl,HE.out.2.2.2.2⟩,HE.out.2.1,HE.out.2.2.1,HE.out.1,Sj.start _ _ _ _,YC _ _,YF _ _,HE.out.2.2.2.1,HL.out.2,HL.out.1,T _⟩,?_,?_,?_⟩
   .rw[e];exact .inl ⟨rfl,rfl⟩
   .intro p hp;rw[e] at hp;cases hp;exact XL 0
   .intro hp;rw[e] at hp;cases hp
  obtain⟨t,q,b1,bp,a8,aa,bb⟩:=b6.out
  have HS:=LL a8 aa bb
  have a2:=Yy bp
  clear a8 aa bb bp b6
  have hp:cL (o.alloc O) 0 k (F G (P:Int)):=by rw[<-HP.out];exact KA HE.out.2.2.2.1.gp (k:Int) (by omega) (by omega)
  obtain⟨B,hB⟩:∃B,(o.alloc O).heap.size=B:=⟨_,rfl⟩
  have bk:o.heap.size<B:=by rw[<-hB,av];omega
  rw[hB] at a2
  clear hB av
  have i1:(0:Int)<=(k:Int):=by omega
  have i2:(k:Int)<10:=by omega
  subst hO
  go_wp2_with fail
  refine HT.out.mono ?_
  rintro e m ⟨rfl,rfl⟩
  go_wp2_with fail
  refine(HK.out _).mono ?_
  rintro e m ⟨rfl,rfl⟩
  go_wp2_with fail
 all_goals
  go_loopg [27] P (fun g i wr=>∃(j:Nat)(v:Zm)(cs:List TT)(a5:List ByteArray)(b':Bool),g+j=P/\i=F G (j:Int)/\Zh (FB R w.heap.size m.heap.size B k n q b1 t w j v cs a5 b' wr))
  case atStart=>exact⟨0,_,_,_,_,by omega,rfl,a2⟩
  case round=>
   obtain⟨j,v,cs,a5,b',hj,rfl,z⟩:=hrel;have aw:m.heap.size≠R:=by omega
   have ac:=z.out.len;by_cases hlt:j<P
   .have hb1:bL wr wr.drew:=(Zb _ _).drew;have HI:Zh (Z E 33 #[Za (L ⟨R,0,C⟩)] wr.drew (Jq R b' (YO n a5) wr.drew)):=ih.out a5 b' _ z.out.small z.out.sm (z.out.gl.below hb1) (z.out.rs.below hb1);have ap:=Yy (z.out.row.below hb1);obtain⟨a,c,hv,a4⟩:=z.out.box;have u1:cL wr.drew m.heap.size 6 v:=by rw[hv];exact a4.at7.c6
    have uf:=a4.fz 6 (by omega);have uo:=ap.out.own;have us:m.heap.size<wr.drew.heap.size:=Zg _ _ u1;have b4:v.ownBlock≠L m.heap.size:=fun e=>by have:=(z.out.row.lt _ e).1;omega
    have bg:=z.out.size;have cc:cs.length<=3:=by omega
    have c8:R<B:=by omega
    clear hv a4;have b9:j<Yu (k:Int):=by rw[HP.out];exact hlt
    have b0:=Yy b9;have HJ:=Uy hlt hj;clear b9 hj hp ac;go_wp2_with fail;go_region_law
     (first
      |(go_simp;go_at_call 33;refine HI.out.mono ?_;rintro e w5 ⟨x,rfl,bn,ad,l,ak,bm⟩;replace u1:=l.cell u1 aw;replace uf:=l.fz uf us aw;replace uo:=(ap.out.kept l c8).own;replace us:m.heap.size<w5.heap.size:=Zg _ _ u1;have ao:=heap_alloc_new w5 (Zv x.v 27);have un:m.heap.size≠w5.heap.size:=Nat.ne_of_lt us;go_wp2_with fail)
      |(refine step_append_lies _ (by rfl) _ _ _ (by rfl) B 27 i0 _ 7 104 underlying25 c7 br ca bv rfl (by omega) v cs.length (YW cs) (by rfl) (uo.alloc _) ⟨w5.heap.size,0,C⟩ 1 1 [F G x.k,F G x.n,F G x.t.k,x.t.s,F G x.f.k,x.f.s,x.s] (by rfl) (by rfl) (World.news_of_block (cs:=x.v) (t:=27) (fr:=(0,0)) ao) (by simp[Value.oneCell']) (by omega) (by unfold maxLen;omega) (by omega) (by have:=l.size;simp at this ⊢;omega) (w5.heap.size+1) (by simp) ?_;intro gg cap1 w6 a9 a0 bj ce;have cb:w6.cell? ⟨m.heap.size,6,C⟩=L v:=(by rw[a0.cell_far _ (by simp;omega) (Ne.symm b4)];exact Z8 ((Zb _ _).alloc (T _) _) u1);have c9:w6.frozen? ⟨m.heap.size,6,C⟩=Y:=(by rw[a0.frozen_far _ (by simp;omega) (Ne.symm b4)];exact(((Zb _ _).alloc (T _) _).frozen (p:=⟨m.heap.size,6,C⟩) us).trans uf)))
    all_goals
     obtain⟨be,bq,ae,a7⟩:=ak.letters
     have HN:Zh (FB R w.heap.size m.heap.size B k n q b1 t w (j+1) (I (L ⟨gg,0,C⟩) (cs.length+1) cap1) (cs++[x]) be bq (w6.setCell ⟨m.heap.size,6,C⟩ (I (L ⟨gg,0,C⟩) (cs.length+1) cap1))):=z.out.step bc bx bk (T _) hR b0.out bn (ad.mono fun b hb=>by simpa using hb) ((Yi.la hb1).trans l) ae a7 bm a9 a0 bj
     clear a9 a0 bj cb c9 bn ad l ak bm ae a7 uo uf u1 us HI ap z ao un hb1
     go_wp2_with fail
     go_roundg (P-(j+1))
     case measure=>have:=HJ.out;omega
     case rel=>exact⟨j+1,_,_,_,_,by have:=HJ.out;omega,by go_num,HN⟩
   .have hjP:j=P:=by omega
    have HW:Zh (Z E 87 #[Za (L ⟨R,0,C⟩),.string ⟨#[41]⟩] wr fun e w'=>e=M (Zo #[])/\N0 R b' (behind QK a5) w'/\Yi R C wr w'):=Pb R QK (by decide) a5 b' _ z.out.rs;have b0:=Yy hjP;clear hp ac hj hjP;go_wp2_with fail;refine HW.out.mono ?_;rintro e w5 ⟨rfl,ak,l⟩;obtain⟨cj,b3,ae,a7⟩:=ak.letters;obtain⟨a,c,hv,a4⟩:=z.out.box;have bg:=z.out.size;obtain⟨a',c',az,ai⟩:=(z.out.row.kept l (by omega)).tree;rw[hv] at az;obtain⟨rfl,rfl⟩:a=a'/\c=c':=by cases az;exact⟨rfl,rfl⟩
    have am:=a4.kept l aw;have d:=z.out.res.kept l aq;have b2:=ai (k:Int) 0 t (Ys 0) (z.out.tin.lc l (z.out.tbl.mono fun b hb=>by omega)) (YC _ _);have ad:=b2.2 (fun b=>w.heap.size<b) (fun b hb=>by omega) (z.out.tbl.mono fun b hb=>by omega) (YF _ _);have af:=Wp HY.out HS.out.1 HS.out.2.1 (by have:=z.out.inv;rw[b0.out,<-HP.out] at this;exact this) a7 HS.out.2.2;have bi:(TT.mk (k:Int) 0 t (Ys 0) a c cs).tm=⟨(k:Int),0,t.ty,Yk,cs.map TT.tm⟩:=by rw[TT.ma,XL];rfl
    have bz:Zh (Jq R b (MX n (y::r1)) w (M (Zk #[F G (k:Int),F G 0,F G t.k,t.s,F G 0,I C 0 0,I a cs.length c])) (Xd w5 w.heap.size (TT.mk (k:Int) 0 t (Ys 0) a c cs))):=(N4 (x:=TT.mk (k:Int) 0 t (Ys 0) a c cs) d (T _) bc b2.1 ad (z.out.kept.trans l) ae af.1 (fun p hp=>by rw[bi];exact af.2 p hp)).1
    have b8:=YU (x:=TT.mk (k:Int) 0 t (Ys 0) a c cs) d;have h7:=am.at7;have c0:=h7.c0;have c1:=h7.c1;have c2:=h7.c2;have c3:=h7.c3;have c4:=h7.c4;have c5:=h7.c5;have c6:=h7.c6;simp only[Zu,Ys] at c0 c1 c2 c3 c4 c5 c6;have r7:=d.at7;have e0:=r7.c0;have e1:=r7.c1;have e2:=r7.c2;have e3:=r7.c3;have e4:=r7.c4;have e5:=r7.c5;have e6:=r7.c6;simp only[Zu,Yr] at e0 e1 e2 e3 e4 e5 e6;have f0:=d.fz 0 (by omega);have f1:=d.fz 1 (by omega);have f2:=d.fz 2 (by omega);have f3:=d.fz 3 (by omega);have f4:=d.fz 4 (by omega);have f5:=d.fz 5 (by omega);have f6:=d.fz 6 (by omega);have b5:Zh _:=b8;clear h7 r7 ak l ae a7 hv az a4 ai am d b2 ad af bi z HW b8;go_wp2_with fail;refine Ze (v:=Zk #[F G (k:Int),F G 0,F G t.k,t.s,F G 0,I C 0 0,I a cs.length c]) ?_ rfl bz.out;obtain⟨d0,d1,d2,d3,d4,d5,d6⟩:=b5.out;simp only[Ys,Yb] at d0 d1 d2 d3 d4 d5 d6;simp[results,results52,go_sem,d0,d1,d2,d3,d4,d5,d6]
theorem RV(R:Nat)(hR:12<=R)(n:Nat):∀(ws:List ByteArray)(b:Bool)(w:U),ws.length<n->BV ws->Gl w->RS R ws b w->
  Z E 33 #[Za (L ⟨R,0,C⟩)] w (Jq R b (YO n ws) w):=by
 induction n with
 |zero=>intro ws b w h;omega
 |succ n ih=>
  intro ws b w i d a h;cases ws with
  |nil=>exact RU R (n+1) b w a hR h
  |cons x r=>
   by_cases c:x=M0
   .subst c;rw[KP];refine QD R n r b w hR a h (fun w a h=>?_);have g:BV r:=fun x c=>d x (by simp[c]);cases r with
    |nil=>exact Rr R ⟨#[]⟩ (by decide) [] b Zf w a hR h.lt (NH R b _ (h.below (XA w)))
    |cons y r1=>
     cases hy:X2 y with
     |none=>
      have e:MX n (y::r1)=C:=by simp[MX,hy]
      rw[e];exact Rr R y hy r1 b b w a hR h.lt (JJ R y r1 b _ (h.below (XA w)))
     |some k=>exact WI R n y k hy r1 b w a hR h (by simp at i;omega) (fun x c=>g x (by simp[c])) ih
   .exact QC R n x (d x (by simp)) r c b w a hR h
theorem Qz(c b:UInt8)(new:List UInt8)(h:b≠c):∀(n:Nat)(l:List UInt8),n<=Lib.count l [c]->Lib.replaceK [c] new n (b::l)=b::Lib.replaceK [c] new n l
 |0,l,_=>rfl
 |n+1,l,hn=>by
  obtain⟨j,hj⟩:=Lib.index_of_count (s:=l) (old:=[c]) (by omega);have hp:([c]:List UInt8).isPrefixOf (b::l)=Y:=by simp[List.isPrefixOf,Ne.symm h]
  have a:Lib.index (b::l) [c]=((j+1:Nat):Int):=by rw[Lib.index,hp];simp only[Bool.false_eq_true,if_false];rw[if_neg (by rw[hj];simp),hj];omega
  rw[Lib.replaceK_hit _ _ _ _ _ a,Lib.replaceK_hit _ _ _ _ _ hj];have e:j+1+[c].length=(j+[c].length)+1:=by omega
  rw[e,List.take_succ_cons,List.drop_succ_cons];rfl
theorem J6(c:UInt8):∀s:List UInt8,Lib.replaceK [c] [32,c,32] (Lib.count s [c]) s=YP c s
 |[]=>by rw[Lib.count_one];rfl
 |b::l=>by
  by_cases h:b=c
  .subst h;have hi:Lib.index (b::l) [b]=((0:Nat):Int):=by rw[Lib.index];simp[List.isPrefixOf]
   rw[Lib.count_cons_eq,Nat.add_comm,Lib.replaceK_hit _ _ _ _ _ hi,J3,if_pos rfl];have e:0+[b].length=0+1:=rfl;rw[e,List.drop_succ_cons,List.drop_zero,J6 b l];simp
  .rw[Lib.count_cons_ne b c l h,Qz c b _ h _ l (T _),J6 c l,J3,if_neg h];rfl
theorem Nz(c:UInt8)(s:List UInt8):Lib.replaceAll s [c] [32,c,32]=YP c s:=by
 have a:([c]==[32,c,32])=Y:=by simp
 have b:Lib.replaceNum s [c] (-1)=Lib.count s [c]:=by rw[Lib.replaceNum,if_pos (.inl (by omega))]
 rw[Lib.replaceAll,Lib.replace,a,b];exact J6 c s
theorem LW(c:UInt8):∀s:List UInt8,(YP c s).length<=3*s.length
 |[]=>by simp[YP]
 |x::s=>by rw[J3];have:=LW c s;split<;>simp<;>omega
def Y8(s:List UInt8):List ByteArray:=(XF [] s).map bw
theorem R9(s:List UInt8):Lib.goFieldsP O6 (bw (YP 41 (YP 40 s)))=Y8 s:=by
 have h:=KN (bw (YP 41 (YP 40 s))) (bw (YP 41 (YP 40 s))).size 0 C [] (Nat.zero_le _) (by omega) (by intro a h;cases h);simp only[List.map_nil,ZY,Ka,List.drop_zero,NU] at h;rw[Li] at h;rw[Y8,<-h,Lib.goFieldsP,Lib.spansOfP,List.map_map];refine List.map_congr_left fun x _=>?_;show _=bw (JR _ x)
 have e:((bw (YP 41 (YP 40 s))).extract x.1 x.2).data.toList=JR (bw (YP 41 (YP 40 s))) x:=by rw[Lib.extract_data];rfl
 rw[<-e];rfl
theorem TA(x:Nat)(w:U):Z E 50 #[F .i32 (x:Int)] w fun e w'=>e=M (.bool (O6 x))/\w'=w:=by
 have c:((x:Int)==32)=(x==32):=by rw[Bool.eq_iff_iff];simp;omega
 have b:((x:Int)==10)=(x==10):=by rw[Bool.eq_iff_iff];simp;omega
 cases h:(x==32) with
 |true=>
  rw[h] at c;have a:Zh (O6 x=Zf):=by show _=_;simp[O6,h]
  clear b h;go_enter func50,ntmps50;go_wp2_with fail;go_ret;exact⟨by rw[a.out];rfl,rfl⟩
 |false=>
  rw[h] at c;have a:Zh (O6 x=(x==10)):=by show _=_;simp[O6,h]
  have d:=Yy b;clear b h;go_enter func50,ntmps50;go_wp2_with fail;go_ret;exact⟨by rw[a.out,<-d.out];rfl,rfl⟩
theorem Em:(({ data:=#[32] }++{ data:=#[40] }++{ data:=#[32] }:ByteArray))=⟨#[32,40,32]⟩:=by decide
theorem Co:(({ data:=#[32] }++{ data:=#[41] }++{ data:=#[32] }:ByteArray))=⟨#[32,41,32]⟩:=by decide
theorem SS(c:UInt8)(s new:ByteArray)(a:new=⟨#[32,c,32]⟩)(k:s.size<=100000)(w:U)(i:Gl w):
  Z E 48 #[.string s,.string ⟨#[c]⟩,.string new] w fun e w'=>e=M (.string (bw (YP c s.data.toList)))/\Zw w.heap.size w w':=by
 obtain⟨m,g⟩:=i.mx;have j:=g.cell 0;have d:=Lib.countB_le ⟨#[c]⟩ (by show 1<=1;omega) s.size s (T _);have b:new.size=3:=by rw[a];rfl
 have h:=Tryz.strings_ReplaceAll s ⟨#[c]⟩ new m w (by omega) (by simpa using j) (by show 1<=1;omega) (by rw[b];omega);have e:Lib.replaceAll s.data.toList (⟨#[c]⟩:ByteArray).data.toList new.data.toList=YP c s.data.toList:=by rw[a];exact Nz c _
 rw[e] at h;exact h
theorem EL(s:ByteArray)(hs:s.size<=1000)(w:U)(m:Gl w):
  Z E 32 #[.string s] w fun e w'=>∃A,e=M (I (L ⟨A,0,C⟩) (Y8 s.data.toList).length (Y8 s.data.toList).length)/\w.heap.size<=A/\
   w'.ownsRow w.heap.size 9 1 (I (L ⟨A,0,C⟩) (Y8 s.data.toList).length (Y8 s.data.toList).length) (Y8 s.data.toList).length ((Y8 s.data.toList).map Value.string)/\Zw w.heap.size w w':=by
 have x0:=Aj (.string ⟨#[40]⟩) (.string ⟨#[41]⟩);have x1:=Ai (.string ⟨#[40]⟩) (.string ⟨#[41]⟩);go_enter func32,ntmps32;go_wp2_with fail;go_loopg [0,6] 2 (fun k v i wr=>∃j:Nat,k+j=2/\i=F G (j:Int)/\bL w wr/\((j=0/\v=.string s/\wr=w)\/(j=1/\v=.string (bw (YP 40 s.data.toList)))\/(j=2/\v=.string (bw (YP 41 (YP 40 s.data.toList))))))
 case atStart=>exact⟨0,rfl,rfl,Zb _ _,.inl ⟨rfl,rfl,rfl⟩⟩
 case round=>
  obtain⟨j,hj,rfl,d,⟨rfl,rfl,rfl⟩|⟨rfl,rfl⟩|⟨rfl,rfl⟩⟩:=hrel
  .have y:Zh (Z E 48 #[.string s,.string ⟨#[40]⟩,.string (⟨#[32]⟩++⟨#[40]⟩++⟨#[32]⟩)] wr fun e w'=>e=M (.string (bw (YP 40 s.data.toList)))/\bL wr w'):=SS 40 s _ Em (by omega) wr m;clear m;go_wp2_with fail;refine y.out.mono ?_;rintro e o ⟨rfl,a⟩;go_wp2_with fail;go_roundg 1
   case measure=>omega
   case rel=>exact⟨1,rfl,rfl,a,.inr (.inl ⟨rfl,rfl⟩)⟩
  .have hl:=LW 40 s.data.toList;have l:s.data.toList.length=s.size:=ZL;have c:(bw (YP 40 s.data.toList)).size<=3000:=by show (YP 40 s.data.toList).toArray.size<=3000;simp;omega
   have y:Zh (Z E 48 #[.string (bw (YP 40 s.data.toList)),.string ⟨#[41]⟩,.string (⟨#[32]⟩++⟨#[41]⟩++⟨#[32]⟩)] wr fun e w'=>e=M (.string (bw (YP 41 (YP 40 s.data.toList))))/\bL wr w'):=SS 41 (bw (YP 40 s.data.toList)) _ Co (by omega) wr (m.below d);clear m hl l c;go_wp2_with fail;refine y.out.mono ?_;rintro e o ⟨rfl,a⟩;have q:=d.trans (a.mono d.size);clear a d;go_wp2_with fail;go_roundg 0
   case measure=>omega
   case rel=>exact⟨2,rfl,rfl,q,.inr (.inr ⟨rfl,rfl⟩)⟩
  .have hl:=LW 40 s.data.toList;have r:=LW 41 (YP 40 s.data.toList);have l:s.data.toList.length=s.size:=ZL;have c:(bw (YP 41 (YP 40 s.data.toList))).size<=9000:=by show (YP 41 (YP 40 s.data.toList)).toArray.size<=9000;simp;omega
   have z:Zh (Z E 49 #[.string (bw (YP 41 (YP 40 s.data.toList))),.func (.func 50) #[] #[]] wr fun e w'=>∃A,e=M (I (L ⟨A,0,C⟩) (Y8 s.data.toList).length (Y8 s.data.toList).length)/\wr.heap.size<=A/\ w'.ownsRow wr.heap.size 9 1 (I (L ⟨A,0,C⟩) (Y8 s.data.toList).length (Y8 s.data.toList).length) (Y8 s.data.toList).length ((Y8 s.data.toList).map Value.string)/\bL wr w'):=by have h:=Tryz.strings_FieldsFunc_grows 50 #[] (enters_of func50 (by kernel_rfl) rfl) O6 (bw (YP 41 (YP 40 s.data.toList))) wr (by omega) (fun W x _ _=>(TA x W).mono (by rintro e w' ⟨rfl,rfl⟩;exact⟨rfl,Zb _ _⟩));rw[R9] at h;exact h
   clear m hl r l c;go_wp2_with fail;refine z.out.mono ?_;rintro e o ⟨A,rfl,hA,b,a⟩;have u:Zh (w.heap.size<=A/\o.ownsRow w.heap.size 9 1 (I (L ⟨A,0,C⟩) (Y8 s.data.toList).length (Y8 s.data.toList).length) (Y8 s.data.toList).length ((Y8 s.data.toList).map Value.string)/\bL w o):=by
    have c:=d.size;refine⟨by omega,⟨b.1,?_⟩,d.trans (a.mono d.size)⟩;rcases b.2 with hn|⟨g,cap,p,hv,a0,rest⟩
    .exact .inl hn
    .exact .inr ⟨g,cap,p,hv,by omega,rest⟩
   clear hA b a d z;go_wp2_with fail;go_ret;exact⟨A,rfl,u.out.1,u.out.2.1,u.out.2.2⟩
end Go.Proofs.YtnddkmccagiclabGreatDoor
