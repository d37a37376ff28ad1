import Derived.Test.YtnddkmccagiclabGreatDoorZyh
import Derived.Shelf.Strings.SlTrimAscii
import Derived.Laws.Runes
import Derived.Scope
import Derived.Lib.IndexBytes
import Derived.Lib.IndexAny
import Derived.Laws.RangeAny
import Derived.Lib.OthersKept
import Derived.Lib.Join
import Derived.Lib.AppendIntMem
import Derived.Lib.SlBytesRow
import Derived.IntWalk
import Derived.Laws.IdiomStrings
set_option maxRecDepth 20000
set_option maxHeartbeats 16000000
open Go.RowKit Go.Proofs.Tryz
open Go.Value renaming slice→F,int→O,tuple→Zp,agg→Zu,oneCell'→Z5
open Option renaming none→G,some→U,map_eq_some_iff→Y,bind_eq_some_iff→Zd,bind_some→Zl,map_some→ZP,isSome_iff_exists→Yb
open Go.IntKind renaming i64→I
open Bool renaming false→Za,true→Ze,and_eq_true→ZF,false_eq_true→ZG,or_eq_true→ZL,true_eq_false→ZT
open Go.Proofs.Tryz renaming prog→Zb,results104→ZC,results63→ZH,results40→ZM,results102→ZQ,ntmps104→Z1,func104→Z4,underlying106→Z7,func139→Yf
open Go.Ending renaming returned→Zc
open Go.RowKit.Below renaming refl→Zf
open List renaming length_nil→Zg,mem_cons_of_mem→Zj,length_cons→Zn,length_append→Zo,mem_cons_self→Zs,mem_cons→ZA,append_nil→ZB,getElem_cons_zero→ZD,mem_append→ZI,append_assoc→ZJ,map_cons→ZO,getElem?_eq_getElem→ZR,take_succ_eq_append_getElem→ZW,takeWhile_append_dropWhile→ZX,getElem_mem→ZY,length_singleton→ZZ,mem_reverse→Z0,mem_append_left→Z2,mem_singleton→Z6,getD_eq_getElem?_getD→Z8,all_eq_true→Yc,cons_append→Yd,not_mem_nil→Ye
open Option.some renaming inj→Zh,injEq→Zz
open Go renaming bodyPost_ret→Zi,World→Zq,cell_later→Zw,Calls→Zy,wpList_append_lies→ZS,heap_alloc_new→ZV,Value→Z3,bytesRow→Z9,run_slice_string_from_if→Ya
open Nat renaming le_refl→Zk,zero_add→Zr,zero_mul→Yg,add_zero→Yh
open Go.RowKit renaming Hid→Zm,Below→Zv
open Go.Obj renaming cells→Zt
open Array renaming length_toList→Zx
open Prod.mk renaming inj→ZE
open Go.Instr renaming slice→ZK
open Go.World renaming news_of_block→ZN,block_lt_of_cell?→ZU
namespace Go.Proofs.YtnddkmccagiclabGreatDoor
structure Tn where
 w:List UInt8
 l:List Tn
 o:Bool
theorem Tn.ind{P:Tn->Prop}(h:∀w l o,(∀x,x∈l->P x)->P ⟨w,l,o⟩):∀t,P t
 |⟨w,l,o⟩=>h w l o fun x _=>Tn.ind h x
def Tn.flat:Tn->List (List UInt8)
 |⟨w,l,o⟩=>if o=Ze then [40]::((l.map fun t=>t.flat).flatten++[[41]]) else [w]
theorem Tn.om(w:List UInt8)(l:List Tn)(o:Bool):(Tn.mk w l o).flat=if o=Ze then [40]::((l.map Tn.flat).flatten++[[41]]) else [w]:=by rw[Tn.flat]
def Xh(l:List Tn):List (List UInt8):=(l.map Tn.flat).flatten
theorem JL:Xh []=[]:=rfl
theorem YN(x:Tn)(l:List Tn):Xh (x::l)=x.flat++Xh l:=rfl
theorem X7(w:List UInt8)(l:List Tn):(Tn.mk w l Ze).flat=[40]::(Xh l++[[41]]):=by rw[Tn.om,if_pos rfl];rfl
theorem X6(w:List UInt8)(l:List Tn):(Tn.mk w l Za).flat=[w]:=by rw[Tn.om,if_neg (by simp)]
theorem Uc(x:Tn):1<=x.flat.length:=by
 obtain⟨w,l,o⟩:=x;cases o
 .rw[X6];simp
 .rw[X7];simp
def Tn.nice:Tn->Prop
 |⟨w,l,o⟩=>(o=Ze->w=[])/\(o=Za->l=[]/\UI w)/\∀x,x∈l->x.nice
theorem Tn.na{w:List UInt8}{l:List Tn}{o:Bool}:(Tn.mk w l o).nice↔(o=Ze->w=[])/\(o=Za->l=[]/\UI w)/\∀x,x∈l->x.nice:=by rw[Tn.nice]
theorem Ob{l:List Tn}:(Tn.mk [] l Ze).nice↔∀x,x∈l->x.nice:=by rw[Tn.na];exact⟨fun h=>h.2.2,fun h=>⟨fun _=>rfl,fun h=>(by cases h),h⟩⟩
theorem Ll{w:List UInt8}:(Tn.mk w [] Za).nice↔UI w:=by rw[Tn.na];exact⟨fun h=>(h.2.1 rfl).2,fun h=>⟨fun h=>(by cases h),fun _=>⟨rfl,h⟩,fun x h=>by cases h⟩⟩
theorem Oc{x:Tn}(h:x.nice):(∃l,x=⟨[],l,Ze⟩/\∀y,y∈l->y.nice)\/∃w,x=⟨w,[],Za⟩/\UI w:=by
 obtain⟨w,l,o⟩:=x;obtain⟨a,b,c⟩:=Tn.na.1 h;cases o
 .obtain⟨rfl,h'⟩:=b rfl;exact .inr ⟨w,rfl,h'⟩
 .obtain rfl:=a rfl;exact .inl ⟨l,rfl,c⟩
theorem Me{w:List UInt8}(h:UI w):w≠[40]/\w≠[41]:=by
 constructor
 .rintro rfl;have:=(h.2 40 (by simp)).2;revert this;decide
 .rintro rfl;have:=(h.2 41 (by simp)).2;revert this;decide
def XN:Nat->List (List UInt8)->Bool->Option (List Tn×List (List UInt8))
 |0,_,_=>G
 |_+1,[],wi=>if wi=Ze then G else U ([],[])
 |n+1,x::r,wi=>
  if x=[41] then (if wi=Ze then U ([],r) else G)
  else if x=[40] then (XN n r Ze).bind fun p=>(XN n p.2 wi).map fun q=>(⟨[],p.1,Ze⟩::q.1,q.2)
  else (XN n r wi).map fun q=>(⟨x,[],Za⟩::q.1,q.2)
theorem Jb:∀(n m:Nat)(ws:List (List UInt8))(wi:Bool)(q:List Tn×List (List UInt8)),n<=m->XN n ws wi=U q->XN m ws wi=U q
 |0,_,_,_,_,_,h=>by simp[XN] at h
 |n+1,0,_,_,_,hm,_=>by omega
 |n+1,m+1,[],wi,q,hm,h=>by simpa[XN] using h
 |n+1,m+1,x::r,wi,q,hm,h=>by
  rw[XN] at h ⊢;by_cases h1:x=[41]
  .rw[if_pos h1] at h ⊢;exact h
  .rw[if_neg h1] at h ⊢;by_cases h2:x=[40]
   .rw[if_pos h2] at h ⊢;obtain⟨p,hp,h⟩:=Zd.1 h;obtain⟨q',hq,rfl⟩:=Y.1 h;rw[Jb n m r Ze p (by omega) hp,Zl,Jb n m p.2 wi q' (by omega) hq];rfl
   .rw[if_neg h2] at h ⊢;obtain⟨q',hq,rfl⟩:=Y.1 h;rw[Jb n m r wi q' (by omega) hq];rfl
theorem L4:∀(N:Nat)(l:List Tn)(rest:List (List UInt8))(wi:Bool)(m:Nat)(q:List Tn×List (List UInt8)),(Xh l).length<=N->(∀x,x∈l->x.nice)->XN m rest wi=U q->XN ((Xh l).length+m) (Xh l++rest) wi=U (l++q.1,q.2)
 |_,[],rest,wi,m,q,_,_,h=>by rw[JL];simpa using h
 |0,x::l,rest,wi,m,q,hN,_,_=>by have:=Uc x;rw[YN,Zo] at hN;omega
 |N+1,x::l,rest,wi,m,q,hN,hl,h=>by
  rw[YN,Zo] at hN;have hp:=Uc x;have h2:=L4 N l rest wi m q (by omega) (fun y hy=>hl y (Zj _ hy)) h;rcases Oc (hl x Zs) with⟨l',rfl,hl'⟩|⟨w,rfl,hw⟩
  .rw[YN,X7];rw[X7] at hN;simp only[Zn,Zo,Zg] at hN;have h1:=L4 N l' ([41]::(Xh l++rest)) Ze 1 ([],Xh l++rest) (by omega) hl' (by simp[XN]);simp only[ZB] at h1;have e:([40]::(Xh l'++[[41]])++Xh l++rest)=[40]::(Xh l'++[41]::(Xh l++rest)):=by simp
   rw[e];have a:(([40]::(Xh l'++[[41]]))++Xh l).length+m=((Xh l').length+1+((Xh l).length+m))+1:=by simp;omega
   rw[a,XN,if_neg (by simp),if_pos rfl];rw[Jb _ _ _ _ _ (by omega) h1,Zl,Jb _ _ _ _ _ (by omega) h2];rfl
  .rw[YN,X6];have b:=Me hw;have a:(([w]:List (List UInt8))++Xh l).length+m=((Xh l).length+m)+1:=by simp;omega
   rw[a,ZJ,List.singleton_append,XN,if_neg b.2,if_neg b.1,h2];rfl
theorem JU:∀(n:Nat)(ws:List (List UInt8))(wi:Bool)(l:List Tn)(rest:List (List UInt8)),(∀x,x∈ws->x=[40]\/x=[41]\/UI x)->XN n ws wi=U (l,rest)->(∀x,x∈l->x.nice)/\ws=Xh l++(if wi=Ze then [41]::rest else [])/\(wi=Za->rest=[])
 |0,_,_,_,_,_,h=>by simp[XN] at h
 |n+1,[],wi,l,rest,_,h=>by
  cases wi
  .simp only[XN,ZG,if_false,Zz,Prod.mk.injEq] at h;obtain⟨rfl,rfl⟩:=h;exact⟨(fun x h=>by cases h),by simp[Xh],fun _=>rfl⟩
  .simp[XN] at h
 |n+1,x::r,wi,l,rest,hws,h=>by
  rw[XN] at h;by_cases h1:x=[41]
  .rw[if_pos h1] at h;cases wi
   .simp at h
   .simp only[if_true,Zz,Prod.mk.injEq] at h;obtain⟨rfl,rfl⟩:=h;exact⟨(fun x h=>by cases h),by simp[Xh,h1],fun h=>by cases h⟩
  .rw[if_neg h1] at h;have hr:∀y,y∈r->y=[40]\/y=[41]\/UI y:=fun y hy=>hws y (Zj _ hy);by_cases h2:x=[40]
   .rw[if_pos h2] at h;obtain⟨p,hp,h⟩:=Zd.1 h;obtain⟨q,hq,he⟩:=Y.1 h;obtain⟨rfl,rfl⟩:=ZE he;obtain⟨a1,a2,_⟩:=JU n r Ze p.1 p.2 hr hp;rw[if_pos rfl] at a2;have hp2:∀y,y∈p.2->y=[40]\/y=[41]\/UI y:=fun y hy=>hr y (by rw[a2];simp[hy]);obtain⟨b1,b2,b3⟩:=JU n p.2 wi q.1 q.2 hp2 hq;refine⟨fun y hy=>?_,?_,b3⟩
    .rcases ZA.1 hy with rfl|hy
     .exact Ob.2 a1
     .exact b1 y hy
    .rw[YN,X7,h2,a2];rw[ZJ,<-b2];simp
   .rw[if_neg h2] at h;obtain⟨q,hq,he⟩:=Y.1 h;obtain⟨rfl,rfl⟩:=ZE he;obtain⟨b1,b2,b3⟩:=JU n r wi q.1 q.2 hr hq;have hx:UI x:=by
     rcases hws x Zs with h|h|h
     .exact absurd h h2
     .exact absurd h h1
     .exact h
    refine⟨fun y hy=>?_,?_,b3⟩
    .rcases ZA.1 hy with rfl|hy
     .exact Ll.2 hx
     .exact b1 y hy
    .rw[YN,X6,ZJ,<-b2];rfl
def trimS:List UInt8->List UInt8
 |[]=>[]
 |c::r=>if MV c=Ze then trimS r else c::r
def Mh(c:UInt8):Bool:=!(MV c || Sm c)
def U0(s:List UInt8):List UInt8:=s.takeWhile Mh
def J1(s:List UInt8):List UInt8:=s.dropWhile Mh
def XT:Nat->List UInt8->Bool->Option (List Tn×List UInt8)
 |0,_,_=>G
 |n+1,s,wi=>
  match trimS s with
  |[]=>if wi=Ze then G else U ([],[])
  |c::r=>
   if c=41 then (if wi=Ze then U ([],r) else G)
   else if c=40 then (XT n r Ze).bind fun p=>(XT n p.2 wi).map fun q=>(⟨[],p.1,Ze⟩::q.1,q.2)
   else (XT n (J1 (c::r)) wi).map fun q=>(⟨U0 (c::r),[],Za⟩::q.1,q.2)
theorem Sy:∀s,XF [] (trimS s)=XF [] s
 |[]=>rfl
 |c::r=>by
  rw[trimS];by_cases h:MV c=Ze
  .rw[if_pos h,Sy r,XF,if_pos h];simp[Uj]
  .rw[if_neg h]
theorem Kh:∀(s:List UInt8)(c:UInt8)(r:List UInt8),trimS s=c::r->MV c=Za
 |[],c,r,h=>by simp[trimS] at h
 |d::s,c,r,h=>by
  rw[trimS] at h;by_cases hd:MV d=Ze
  .rw[if_pos hd] at h;exact Kh s c r h
  .rw[if_neg hd] at h;obtain⟨rfl,rfl⟩:=List.cons.inj h;simpa using hd
theorem Ld:∀s,(trimS s).length<=s.length
 |[]=>by simp[trimS]
 |c::r=>by
  rw[trimS];split
  .have:=Ld r;simp;omega
  .simp
theorem Kr(c:UInt8)(r:List UInt8)(h1:MV c=Za)(h2:c≠41)(h3:c≠40):UI (U0 (c::r))/\DM (J1 (c::r))/\U0 (c::r)++J1 (c::r)=c::r/\(J1 (c::r)).length<=r.length:=by
 have e:Sm c=Za:=by simp[Sm,h2,h3]
 have a:Mh c=Ze:=by simp[Mh,h1,e]
 have g:U0 (c::r)=c::r.takeWhile Mh:=by simp[U0,a]
 have b:J1 (c::r)=r.dropWhile Mh:=by simp[J1,a]
 refine⟨⟨by rw[g];simp,fun d hd=>?_⟩,?_,ZX,?_⟩
 .have:Mh d=Ze:=Yc.1 (List.all_takeWhile (p:=Mh) (l:=c::r)) d hd;simpa[Mh] using this
 .rw[b];cases hd:r.dropWhile Mh with
  |nil=>exact .inl rfl
  |cons d s=>refine .inr ⟨d,s,rfl,?_⟩;have:=List.head_dropWhile_not (p:=Mh) (l:=r) (by rw[hd];simp);simp only[hd,List.head_cons] at this;simpa[Mh,Classical.or_iff_not_imp_left] using this
 .rw[b];exact(List.dropWhile_suffix (p:=Mh) (l:=r)).length_le
theorem Ki:∀(n:Nat)(s:List UInt8)(wi:Bool),(XT n s wi).map (fun p=>(p.1,XF [] p.2))=XN n (XF [] s) wi
 |0,_,_=>rfl
 |n+1,s,wi=>by
  rw[<-Sy s,XT];cases hs:trimS s with
  |nil=>
   cases wi
   .simp[XN,XF,Uj]
   .simp[XN,XF,Uj]
  |cons c r=>
   have hsp:=Kh s c r hs;by_cases h1:c=41
   .subst h1;simp only[if_true];rw[AH,XN,if_pos rfl];cases wi<;>simp
   .by_cases h2:c=40
    .subst h2;simp only[if_neg h1,if_true];rw[Ce,XN,if_neg (by decide),if_pos rfl,<-Ki n r Ze];cases XT n r Ze with
     |none=>rfl
     |some p=>simp only[Zl,ZP];rw[<-Ki n p.2 wi];cases XT n p.2 wi<;>rfl
    .simp only[if_neg h1,if_neg h2];obtain⟨a1,a2,a3,_⟩:=Kr c r hsp h1 h2;have e:XF [] (c::r)=U0 (c::r)::XF [] (J1 (c::r)):=by
      conv=>lhs;rw[<-a3]
      exact AF _ _ a1 a2
     rw[e,XN,if_neg (Me a1).2,if_neg (Me a1).1,<-Ki n (J1 (c::r)) wi];cases XT n (J1 (c::r)) wi<;>rfl
theorem QT:∀(s cur:List UInt8),(∀c∈cur,MV c=Za/\Sm c=Za)->∀x,x∈XF cur s->x=[40]\/x=[41]\/UI x:=by
 have fl:∀cur:List UInt8,(∀c∈cur,MV c=Za/\Sm c=Za)->∀x,x∈Uj cur->x=[40]\/x=[41]\/UI x:=by
  intro cur b x a;rw[Uj] at a;split at a
  .cases a
  .obtain rfl:x=cur:=by simpa using a
   exact .inr (.inr ⟨by assumption,b⟩)
 intro s;induction s with
 |nil=>intro cur b x a;exact fl cur b x a
 |cons c r ih=>
  intro cur b x a;rw[XF] at a;split at a
  .rcases ZI.1 a with h|h
   .exact fl cur b x h
   .exact ih [] (fun _ h=>by cases h) x h
  .rename_i hs;split at a
   .rename_i hb;rcases ZI.1 a with h|h
    .rcases ZI.1 h with h|h
     .exact fl cur b x h
     .obtain rfl:x=[c]:=by simpa using h
      simp only[Sm,ZL,beq_iff_eq] at hb;rcases hb with rfl|rfl
      .exact .inl rfl
      .exact .inr (.inl rfl)
    .exact ih [] (fun _ h=>by cases h) x h
   .rename_i hb;refine ih (cur++[c]) (fun d hd=>?_) x a;rcases ZI.1 hd with h|h
    .exact b d h
    .obtain rfl:d=c:=by simpa using h
     exact⟨by simpa using hs,by simpa using hb⟩
theorem JA:∀(n:Nat)(s:List UInt8)(wi:Bool)(p:List Tn×List UInt8),XT n s wi=U p->p.2.length<=s.length/\(wi=Ze->p.2.length+1<=s.length)
 |0,_,_,_,h=>by simp[XT] at h
 |n+1,s,wi,p,h=>by
  rw[XT] at h;have hl:=Ld s;cases hs:trimS s with
  |nil=>
   rw[hs] at h;cases wi
   .simp only[ZG,if_false,Zz] at h;subst h;simp
   .simp at h
  |cons c r=>
   rw[hs] at h hl;simp only[Zn] at hl;by_cases h1:c=41
   .simp only[if_pos h1] at h;cases wi
    .simp at h
    .simp only[if_true,Zz] at h;subst h;simp;omega
   .simp only[if_neg h1] at h;by_cases h2:c=40
    .rw[if_pos h2] at h;obtain⟨p1,hp1,h⟩:=Zd.1 h;obtain⟨q,hq,rfl⟩:=Y.1 h;have a:=JA n r Ze p1 hp1;have b:=JA n p1.2 wi q hq;have:=a.2 rfl;refine⟨by show q.2.length<=_;omega,fun hw=>?_⟩;have:=b.2 hw;show q.2.length+1<=_
     omega
    .rw[if_neg h2] at h;obtain⟨q,hq,rfl⟩:=Y.1 h;have b:=JA n _ wi q hq;obtain⟨_,_,_,a⟩:=Kr c r (Kh s c r hs) h1 h2;refine⟨by show q.2.length<=_;omega,fun hw=>?_⟩;have:=b.2 hw;show q.2.length+1<=_
     omega
theorem LA:∀(n m:Nat)(s:List UInt8)(wi:Bool),s.length<n->s.length<m->XT n s wi=XT m s wi
 |0,_,s,_,h,_=>by omega
 |n+1,0,s,_,_,h=>by omega
 |n+1,m+1,s,wi,hn,hm=>by
  rw[XT,XT];have hl:=Ld s;cases hs:trimS s with
  |nil=>rfl
  |cons c r=>
   rw[hs] at hl;simp only[Zn] at hl;by_cases h1:c=41
   .simp only[if_pos h1]
   .simp only[if_neg h1];by_cases h2:c=40
    .simp only[if_pos h2];rw[LA n m r Ze (by omega) (by omega)];cases hp:XT m r Ze with
     |none=>rfl
     |some p=>have:=(JA m r Ze p hp).1;simp only[Zl];rw[LA n m p.2 wi (by omega) (by omega)]
    .simp only[if_neg h2];obtain⟨_,_,_,a⟩:=Kr c r (Kh s c r hs) h1 h2;rw[LA n m _ wi (by omega) (by omega)]
structure Nd where
 w:ByteArray
 a:Option Addr
 c:Nat
 l:List Nd
 o:Bool
theorem Nd.ind{P:Nd->Prop}(h:∀w a c l o,(∀x,x∈l->P x)->P ⟨w,a,c,l,o⟩):∀t,P t
 |⟨w,a,c,l,o⟩=>h w a c l o fun x _=>Nd.ind h x
def Nd.tn:Nd->Tn
 |⟨w,_,_,l,o⟩=>⟨w.data.toList,l.map fun x=>x.tn,o⟩
theorem Nd.np(w:ByteArray)(a:Option Addr)(c:Nat)(l:List Nd)(o:Bool):(Nd.mk w a c l o).tn=⟨w.data.toList,l.map Nd.tn,o⟩:=by rw[Nd.tn]
theorem Nd.pk(x:Nd):x.tn.w=x.w.data.toList:=by cases x;rw[Nd.np]
theorem Nd.oe(x:Nd):x.tn.l=x.l.map Nd.tn:=by cases x;rw[Nd.np]
theorem Nd.nf(x:Nd):x.tn.o=x.o:=by cases x;rw[Nd.np]
def Nd.sl(x:Nd):Z3:=F x.a x.l.length x.c
def Nd.In(W:Zq):Nd->Prop
 |⟨_,a,c,l,_⟩=>l.length<=c/\(∀j(h:j<l.length),∃b f,a=U ⟨b,f,G⟩/\W.cell? ⟨b,f+j*3,G⟩=U (.string l[j].w)/\W.cell? ⟨b,f+j*3+1,G⟩=U l[j].sl/\W.cell? ⟨b,f+j*3+2,G⟩=U (.bool l[j].o))/\∀t,t∈l->t.In W
theorem Nd.li{W:Zq}{w:ByteArray}{a:Option Addr}{c:Nat}{l:List Nd}{o:Bool}:(Nd.mk w a c l o).In W↔l.length<=c/\(∀j(h:j<l.length),∃b f,a=U ⟨b,f,G⟩/\W.cell? ⟨b,f+j*3,G⟩=U (.string l[j].w)/\W.cell? ⟨b,f+j*3+1,G⟩=U l[j].sl/\W.cell? ⟨b,f+j*3+2,G⟩=U (.bool l[j].o))/\∀t,t∈l->t.In W:=by rw[Nd.In]
theorem Nd.mm(W:Zq)(w:ByteArray)(a:Option Addr)(c:Nat)(o:Bool):(Nd.mk w a c [] o).In W:=Nd.li.2 ⟨Nat.zero_le _,fun j h=>absurd h (by simp),fun t h=>absurd h (by simp)⟩
theorem Nd.In.part{W:Zq}{t:Nd}(h:t.In W)(j:Nat)(d:j<t.l.length):∃b f,t.a=U ⟨b,f,G⟩/\W.cell? ⟨b,f+j*3,G⟩=U (.string t.l[j].w)/\W.cell? ⟨b,f+j*3+1,G⟩=U (F t.l[j].a t.l[j].l.length t.l[j].c)/\W.cell? ⟨b,f+j*3+2,G⟩=U (.bool t.l[j].o)/\t.l[j].In W:=by obtain⟨w,a,c,l,o⟩:=t;obtain⟨p,m,hi⟩:=Nd.li.1 h;obtain⟨b,f,e,i,k,g⟩:=m j d;exact⟨b,f,e,i,k,g,hi _ (ZY d)⟩
theorem Nd.In.mem{W:Zq}{t y:Nd}(h:t.In W)(b:y∈t.l):y.In W:=by obtain⟨w,a,c,l,o⟩:=t;exact(Nd.li.1 h).2.2 y b
theorem Nd.In.cap{W:Zq}{t:Nd}(h:t.In W):t.l.length<=t.c:=by obtain⟨w,a,c,l,o⟩:=t;exact(Nd.li.1 h).1
theorem Nd.In.below{W V:Zq}(hb:Zv W.heap.size W V){t:Nd}:t.In W->t.In V:=by
 induction t using Nd.ind with
 |h w a c l o ih=>intro h;obtain⟨q,p,hi⟩:=Nd.li.1 h;refine Nd.li.2 ⟨q,fun j k=>?_,fun t d=>ih t d (hi t d)⟩;obtain⟨b,f,e,i,m,g⟩:=p j k;exact⟨b,f,e,Zw hb i,Zw hb m,Zw hb g⟩
def Nd.Bl(P:Nat->Prop):Nd->Prop
 |⟨_,a,_,l,_⟩=>(l≠[]->∀x,a=U x->P x.block)/\∀t,t∈l->t.Bl P
theorem Nd.ld{P:Nat->Prop}{w:ByteArray}{a:Option Addr}{c:Nat}{l:List Nd}{o:Bool}:(Nd.mk w a c l o).Bl P↔(l≠[]->∀x,a=U x->P x.block)/\∀t,t∈l->t.Bl P:=by rw[Nd.Bl]
theorem Nd.mo(P:Nat->Prop)(w:ByteArray)(a:Option Addr)(c:Nat)(o:Bool):(Nd.mk w a c [] o).Bl P:=Nd.ld.2 ⟨fun h=>absurd rfl h,fun t h=>absurd h (by simp)⟩
theorem Nd.Bl.mono{P Q:Nat->Prop}(hPQ:∀b,P b->Q b){t:Nd}:t.Bl P->t.Bl Q:=by
 induction t using Nd.ind with
 |h w a c l o ih=>intro h;obtain⟨e,i⟩:=Nd.ld.1 h;exact Nd.ld.2 ⟨fun g x j=>hPQ _ (e g x j),fun t d=>ih t d (i t d)⟩
theorem Nd.Bl.and{P Q:Nat->Prop}{t:Nd}:t.Bl P->t.Bl Q->t.Bl (fun b=>P b/\Q b):=by
 induction t using Nd.ind with
 |h w a c l o ih=>intro h g;obtain⟨p,m⟩:=Nd.ld.1 h;obtain⟨k,j⟩:=Nd.ld.1 g;exact Nd.ld.2 ⟨fun e x i=>⟨p e x i,k e x i⟩,fun t d=>ih t d (m t d) (j t d)⟩
theorem Nd.In.bl{W:Zq}{t:Nd}:t.In W->t.Bl (·<W.heap.size):=by
 induction t using Nd.ind with
 |h w a c l o ih=>intro h;obtain⟨m,k,hi⟩:=Nd.li.1 h;refine Nd.ld.2 ⟨fun j x g=>?_,fun t d=>ih t d (hi t d)⟩;obtain⟨b,f,e,i,_⟩:=k 0 (List.length_pos_iff.2 j);rw[e] at g;have:=Zh g;subst this;exact ZU _ _ i
theorem Nd.In.congr{W V:Zq}{P:Nat->Prop}(hP:∀b,P b->∀o,V.cell? ⟨b,o,G⟩=W.cell? ⟨b,o,G⟩){t:Nd}:t.Bl P->t.In W->t.In V:=by
 induction t using Nd.ind with
 |h w a c l o ih=>intro q h;obtain⟨r,x,hi⟩:=Nd.li.1 h;obtain⟨m,p⟩:=Nd.ld.1 q;refine Nd.li.2 ⟨r,fun j i=>?_,fun t d=>ih t d (p t d) (hi t d)⟩;obtain⟨b,f,e,u,y,k⟩:=x j i;have g:P b:=m (fun e=>by rw[e] at i;simp at i) _ e;exact⟨b,f,e,by rw[hP b g];exact u,by rw[hP b g];exact y,by rw[hP b g];exact k⟩
def X0:List Nd->List Z3
 |[]=>[]
 |t::r=>.string t.w::F t.a t.l.length t.c::.bool t.o::X0 r
theorem Mt:∀l r:List Nd,X0 (l++r)=X0 l++X0 r
 |[],r=>rfl
 |t::l,r=>by simp only[Yd,X0,Mt l r]
theorem LT:∀(l:List Nd)(j:Nat)(h:j<l.length),(X0 l)[j*3]?=U (.string l[j].w)/\(X0 l)[j*3+1]?=U l[j].sl/\(X0 l)[j*3+2]?=U (.bool l[j].o)
 |[],j,h=>by simp at h
 |t::r,0,_=>by simp[X0,Nd.sl]
 |t::r,j+1,h=>by
  have ih:=LT r j (by simpa using h);have e:(j+1)*3=j*3+1+1+1:=by omega
  rw[e];simpa[X0] using ih
structure NL(W:Zq)(v:Z3)(ts:List Nd)(wr:Zq):Prop where
 own:wr.ownsRow W.heap.size 111 3 v ts.length (X0 ts)
 ins:∀t,t∈ts->t.In wr/\t.Bl (fun b=>W.heap.size<=b/\U b≠v.ownBlock)
 low:Zv W.heap.size W wr
theorem NL.start(W:Zq):NL W (F G 0 0) [] W:=⟨World.ownsRow_nil _ _ _ _,fun t h=>(by cases h),Zf _ _⟩
theorem NL.below{W wr w2:Zq}{v:Z3}{ts:List Nd}(h:NL W v ts wr)(hb:Zv wr.heap.size wr w2):NL W v ts w2:=⟨YX h.own hb,fun t ht=>⟨(h.ins t ht).1.below hb,(h.ins t ht).2⟩,h.low.trans (hb.mono h.low.size)⟩
theorem NL.step{W wr w2 w3:Zq}{v:Z3}{ts:List Nd}{t:Nd}{gg cap1:Nat}(h:NL W v ts wr)(g:Zv wr.heap.size wr w2)(p:t.In w2)(o:t.Bl (fun b=>W.heap.size<=b/\U b≠v.ownBlock))
  (l:w3.ownsRow W.heap.size 111 3 (F (U ⟨gg,0,G⟩) (ts.length+1) cap1) (ts.length+1) (X0 ts++[.string t.w,F t.a t.l.length t.c,.bool t.o])) (c:w2.grownBy w3 v.ownBlock) (r:v.ownBlock=U gg\/w2.heap.size<=gg) :
  NL W (F (U ⟨gg,0,G⟩) (ts.length+1) cap1) (ts++[t]) w3:=by
 have s2:=g.size;have s3:=c.size;have w:=h.own.lt;have m:∀k i,k<w2.heap.size->U k≠v.ownBlock->w3.cell? ⟨k,i,G⟩=w2.cell? ⟨k,i,G⟩:=fun k i y u=>World.cell?_of_block (a:=⟨k,i,G⟩) (c.block k y u)
 have q:∀b,b<w2.heap.size->U b≠v.ownBlock->U b≠(Value.slice (U ⟨gg,0,G⟩) (ts.length+1) cap1).ownBlock:=fun b g u=>by
  show U b≠U gg
  rcases r with e|e
  .rw[<-e];exact u
  .simp only[ne_eq,Zz];omega
 have j:∀d:Nd,d.In w2->d.Bl (fun b=>W.heap.size<=b/\U b≠v.ownBlock)->d.In w3/\d.Bl (fun b=>W.heap.size<=b/\U b≠(Value.slice (U ⟨gg,0,G⟩) (ts.length+1) cap1).ownBlock):=fun d z h2=>by have x:=z.bl.and h2;exact⟨z.congr (P:=fun b=>b<w2.heap.size/\W.heap.size<=b/\U b≠v.ownBlock) (fun b g i=>m b i g.1 g.2.2) x,x.mono fun b g=>⟨g.2.1,q b g.1 g.2.2⟩⟩
 refine⟨?_,?_,?_⟩
 .rw[Mt,Zo,ZZ];exact l
 .intro d hd;rcases ZI.1 hd with hd|hd
  .exact j d ((h.ins d hd).1.below g) (h.ins d hd).2
  .rcases Z6.1 hd with rfl;exact j d p o
 .have hb3:Zv W.heap.size w2 w3:=⟨c.os,c.tape,c.output,c.size,fun k y=>c.block k (by have:=h.low.size;omega) (fun e=>by have:=(w k e.symm).1;omega)⟩
  exact(h.low.trans (g.mono h.low.size)).trans hb3
theorem NL.tree{W wr:Zq}{v:Z3}{ts:List Nd}(h:NL W v ts wr):∃a c,v=F a ts.length c/\∀w o,(Nd.mk w a c ts o).In wr/\(Nd.mk w a c ts o).Bl (W.heap.size<=·):=by
 rcases h.own.2 with⟨rfl,l⟩|⟨g,cap,k,rfl,p,m,d,_⟩
 .have:ts=[]:=List.length_eq_zero_iff.1 l;subst this;exact⟨G,0,rfl,fun w o=>⟨Nd.mm _ _ _ _ _,Nd.mo _ _ _ _ _⟩⟩
 .refine⟨_,_,rfl,fun w o=>⟨Nd.li.2 ⟨d,fun j i=>⟨g,0,rfl,?_,?_,?_⟩,fun t e=>(h.ins t e).1⟩,Nd.ld.2 ⟨fun _ x r=>(by cases r;exact p),fun t e=>(h.ins t e).2.mono fun b q=>q.1⟩⟩⟩
  .rw[Zr,h.own.cellAt (j*3) (by omega),(LT ts j i).1]
  .rw[Zr,h.own.cellAt (j*3+1) (by omega),(LT ts j i).2.1]
  .rw[Zr,h.own.cellAt (j*3+2) (by omega),(LT ts j i).2.2]
def TR(s:List UInt8)(wi:Bool):Option (List Tn×List UInt8):=XT (s.length+1) s wi
theorem Av(n:Nat)(s:List UInt8)(wi:Bool)(h:s.length<n):XT n s wi=TR s wi:=LA _ _ _ _ h (by omega)
theorem Fy(s:List UInt8)(a:Bool)(h:trimS s=[]):TR s a=if a=Ze then G else U ([],[]):=by rw[TR,XT,h]
theorem Ed(s r:List UInt8)(a:Bool)(h:trimS s=41::r):TR s a=if a=Ze then U ([],r) else G:=by rw[TR,XT,h];simp
theorem Au(s r:List UInt8)(wi:Bool)(h:trimS s=40::r):TR s wi=(TR r Ze).bind fun p=>(TR p.2 wi).map fun q=>(⟨[],p.1,Ze⟩::q.1,q.2):=by
 have a:=Ld s;rw[h,Zn] at a;rw[TR,XT,h];simp only[show ¬(40:UInt8)=41 by decide,if_false,if_true];rw[Av _ r Ze (by omega)];cases hp:TR r Ze with
 |none=>rfl
 |some p=>have:=(JA _ _ _ _ hp).1;simp only[Zl];rw[Av _ p.2 wi (by omega)]
theorem At(s r:List UInt8)(c:UInt8)(b:Bool)(h:trimS s=c::r)(d:c≠41)(e:c≠40):TR s b=(TR (J1 (c::r)) b).map fun q=>(⟨U0 (c::r),[],Za⟩::q.1,q.2):=by have g:=Ld s;rw[h,Zn] at g;obtain⟨_,_,_,a⟩:=Kr c r (Kh s c r h) d e;rw[TR,XT,h];simp only[if_neg d,if_neg e];rw[Av _ (J1 (c::r)) b (by omega)]
theorem ET{s:List UInt8}{wi:Bool}{p:List Tn×List UInt8}(h:TR s wi=U p):p.2.length<=s.length/\(wi=Ze->p.2.length+1<=s.length):=JA _ _ _ _ h
def FT(o:Option (List Tn×List UInt8))(ts:List Nd)(r:ByteArray)(ok:Bool):Prop:=(o=G/\ok=Za)\/∃p,o=U p/\ok=Ze/\ts.map Nd.tn=p.1/\r.data.toList=p.2
def Mw(s:ByteArray)(wi:Bool)(w:Zq)(e:Ending)(w':Zq):Prop:=∃(a:Option Addr)(c:Nat)(ts:List Nd)(r:ByteArray)(ok:Bool),e=Zc (Zp #[F a ts.length c,.string r,.bool ok])/\Zm ((∀wd o,(Nd.mk wd a c ts o).In w'/\(Nd.mk wd a c ts o).Bl (w.heap.size<=·))/\Zv w.heap.size w w'/\FT (TR s.data.toList wi) ts r ok)
structure TI(s:ByteArray)(wi:Bool)(w:Zq)(s':ByteArray)(v:Z3)(ts:List Nd)(wr:Zq):Prop where
 row:NL w v ts wr
 len:ts.length+s'.size<=s.size
 tr:TR s.data.toList wi=(TR s'.data.toList wi).map fun p=>(ts.map Nd.tn++p.1,p.2)
end Go.Proofs.YtnddkmccagiclabGreatDoor
namespace Go.Proofs
open Go.Shelf
def Tryz.lays161_ren:Go.Shelf.Ren:=⟨fun|161=>100|231=>135|227=>136|233=>137|235=>138|228=>141|197=>123|151=>172|260=>165|152=>139|137=>173|119=>174|224=>175|225=>176|217=>189|266=>202|n=>n,fun|9=>9|4=>4|3=>3|5=>5|117=>188|116=>187|0=>0|124=>191|105=>178|21=>21|119=>194|46=>218|139=>232|138=>231|n=>n,fun|3=>7|4=>8|n=>n⟩
theorem Tryz.lays161:Go.Proofs.Lays.n161 Zb Tryz.lays161_ren:={
 mixed:=by kernel_rfl
 f119:=func174.trans (congrArg U (by kernel_rfl))
 f137:=func173.trans (congrArg U (by kernel_rfl))
 f151:=func172.trans (congrArg U (by kernel_rfl))
 f152:=Yf.trans (congrArg U (by kernel_rfl))
 f161:=func100.trans (congrArg U (by kernel_rfl))
 f197:=func123.trans (congrArg U (by kernel_rfl))
 f217:=func189.trans (congrArg U (by kernel_rfl))
 f224:=func175.trans (congrArg U (by kernel_rfl))
 f225:=func176.trans (congrArg U (by kernel_rfl))
 f227:=func136.trans (congrArg U (by kernel_rfl))
 f228:=func141.trans (congrArg U (by kernel_rfl))
 f231:=func135.trans (congrArg U (by kernel_rfl))
 f233:=func137.trans (congrArg U (by kernel_rfl))
 f235:=func138.trans (congrArg U (by kernel_rfl))
 f260:=func165.trans (congrArg U (by kernel_rfl))
 f266:=func202.trans (congrArg U (by kernel_rfl))
 t0:=underlying0
 a0:=isAgg0
 z0:=sizeOf0
 v0:=zeroValue0
 t3:=underlying3
 a3:=isAgg3
 z3:=sizeOf3
 v3:=zeroValue3
 t4:=underlying4
 a4:=isAgg4
 z4:=sizeOf4
 v4:=zeroValue4
 t5:=Tryz.underlying5
 a5:=isAgg5
 z5:=sizeOf5
 v5:=zeroValue5
 t9:=Tryz.underlying9
 a9:=isAgg9
 z9:=sizeOf9
 v9:=zeroValue9
 t21:=underlying21
 a21:=isAgg21
 z21:=sizeOf21
 v21:=zeroValue21
 t46:=underlying218
 a46:=isAgg218
 z46:=sizeOf218
 v46:=zeroValue218
 t105:=underlying178
 a105:=isAgg178
 z105:=sizeOf178
 v105:=zeroValue178
 t116:=underlying187
 a116:=isAgg187
 z116:=sizeOf187
 t117:=underlying188
 a117:=isAgg188
 z117:=sizeOf188
 v117:=zeroValue188
 t119:=underlying194
 a119:=isAgg194
 z119:=sizeOf194
 t124:=underlying191
 a124:=isAgg191
 z124:=sizeOf191
 v124:=zeroValue191
 t138:=underlying231
 a138:=isAgg231
 z138:=sizeOf231
 v138:=zeroValue231
 t139:=underlying232
 a139:=isAgg232
 z139:=sizeOf232
 v139:=zeroValue232
 g3:=by kernel_rfl
 g4:=by kernel_rfl }
def Tryz.lays160_ren:Go.Shelf.Ren:=⟨fun|160=>143|232=>178|231=>135|227=>136|234=>179|233=>137|236=>180|235=>138|228=>141|271=>198|151=>172|197=>123|120=>211|152=>139|260=>165|137=>173|119=>174|224=>175|225=>176|217=>189|266=>202|n=>n,fun|9=>9|4=>4|3=>3|5=>5|117=>188|116=>187|0=>0|124=>191|21=>21|105=>178|46=>218|119=>194|139=>232|138=>231|n=>n,fun|3=>7|4=>8|n=>n⟩
theorem Tryz.lays160:Go.Proofs.Lays.n160 Zb Tryz.lays160_ren:={
 mixed:=by kernel_rfl
 f119:=func174.trans (congrArg U (by kernel_rfl))
 f120:=func211.trans (congrArg U (by kernel_rfl))
 f137:=func173.trans (congrArg U (by kernel_rfl))
 f151:=func172.trans (congrArg U (by kernel_rfl))
 f152:=Yf.trans (congrArg U (by kernel_rfl))
 f160:=func143.trans (congrArg U (by kernel_rfl))
 f197:=func123.trans (congrArg U (by kernel_rfl))
 f217:=func189.trans (congrArg U (by kernel_rfl))
 f224:=func175.trans (congrArg U (by kernel_rfl))
 f225:=func176.trans (congrArg U (by kernel_rfl))
 f227:=func136.trans (congrArg U (by kernel_rfl))
 f228:=func141.trans (congrArg U (by kernel_rfl))
 f231:=func135.trans (congrArg U (by kernel_rfl))
 f232:=func178.trans (congrArg U (by kernel_rfl))
 f233:=func137.trans (congrArg U (by kernel_rfl))
 f234:=func179.trans (congrArg U (by kernel_rfl))
 f235:=func138.trans (congrArg U (by kernel_rfl))
 f236:=func180.trans (congrArg U (by kernel_rfl))
 f260:=func165.trans (congrArg U (by kernel_rfl))
 f266:=func202.trans (congrArg U (by kernel_rfl))
 f271:=func198.trans (congrArg U (by kernel_rfl))
 t0:=underlying0
 a0:=isAgg0
 z0:=sizeOf0
 v0:=zeroValue0
 t3:=underlying3
 a3:=isAgg3
 z3:=sizeOf3
 v3:=zeroValue3
 t4:=underlying4
 a4:=isAgg4
 z4:=sizeOf4
 v4:=zeroValue4
 t5:=Tryz.underlying5
 a5:=isAgg5
 z5:=sizeOf5
 v5:=zeroValue5
 t9:=Tryz.underlying9
 a9:=isAgg9
 z9:=sizeOf9
 v9:=zeroValue9
 t21:=underlying21
 a21:=isAgg21
 z21:=sizeOf21
 v21:=zeroValue21
 t46:=underlying218
 a46:=isAgg218
 z46:=sizeOf218
 v46:=zeroValue218
 t105:=underlying178
 a105:=isAgg178
 z105:=sizeOf178
 v105:=zeroValue178
 t116:=underlying187
 a116:=isAgg187
 z116:=sizeOf187
 t117:=underlying188
 a117:=isAgg188
 z117:=sizeOf188
 v117:=zeroValue188
 t119:=underlying194
 a119:=isAgg194
 z119:=sizeOf194
 t124:=underlying191
 a124:=isAgg191
 z124:=sizeOf191
 v124:=zeroValue191
 t138:=underlying231
 a138:=isAgg231
 z138:=sizeOf231
 v138:=zeroValue231
 t139:=underlying232
 a139:=isAgg232
 z139:=sizeOf232
 v139:=zeroValue232
 g3:=by kernel_rfl
 g4:=by kernel_rfl }
end Go.Proofs
namespace Go.Proofs.YtnddkmccagiclabGreatDoor
open Go.RowKit
theorem Oz:∀l:List UInt8,Lib.trimLeftS l [32,10]=trimS l
 |[]=>rfl
 |c::r=>by
  have ih:=Oz r;have e:([32,10]:List UInt8).contains c=MV c:=by simp only[List.contains_cons,List.contains_nil,Bool.or_false,MV]
  rw[Lib.trimLeftS,List.dropWhile_cons];rw[Lib.trimLeftS] at ih;rw[trimS,e];split
  .exact ih
  .rfl
theorem RG(s:ByteArray)(w:Zq):Zy Zb 100 #[.string s,.string ⟨#[32,10]⟩] w fun e w'=>e=Zc (.string (bw (trimS s.data.toList)))/\Zv w.heap.size w w':=by refine(Any.strings_TrimLeft_laid Tryz.lays161 (by kernel_rfl) s ⟨#[32,10]⟩ w (by decide) (ascii_of_all (by decide))).mono ?_;rintro e w' ⟨rfl,a⟩;exact⟨by show Ending.returned (.string ⟨(Lib.trimLeftS s.data.toList [32,10]).toArray⟩)=_;rw[Oz];rfl,a⟩
theorem Rn{α:Type}(p:α->Bool):∀l:List α,l.dropWhile p=[]↔∀x,x∈l->p x=Ze
 |[]=>⟨(fun _ x h=>by cases h),fun _=>rfl⟩
 |a::l=>by
  rw[List.dropWhile_cons];have ih:=Rn p l;by_cases h:p a=Ze
  .rw[if_pos h,ih];exact⟨fun H x hx=>by
    rcases ZA.1 hx with rfl|hx
    .exact h
    .exact H x hx,fun H x hx=>H x (Zj _ hx)⟩
  .rw[if_neg h];exact⟨(fun e=>by cases e),fun H=>absurd (H a Zs) h⟩
theorem B8(l cs:List UInt8):Lib.trimS l cs=[]↔∀c,c∈l->cs.contains c=Ze:=by
 rw[Lib.trimS,Lib.trimLeftS,Rn];constructor
 .intro h c hc;by_cases hm:c∈Lib.trimRightS l cs
  .exact h c hm
  .rw[Lib.trimRightS] at hm;have b:l.reverse.takeWhile (cs.contains ·)++l.reverse.dropWhile (cs.contains ·)=l.reverse:=ZX;have:c∈l.reverse.takeWhile (cs.contains ·)++l.reverse.dropWhile (cs.contains ·):=by rw[b];exact Z0.2 hc
   rcases ZI.1 this with a|a
   .exact Yc.1 (List.all_takeWhile (p:=(cs.contains ·)) (l:=l.reverse)) c a
   .exact absurd (Z0.2 a) hm
 .intro h c hc;rw[Lib.trimRightS] at hc;exact h c (Z0.1 ((List.dropWhile_suffix _).subset (Z0.1 hc)))
def DL:List UInt8:=[48,49,50,51,52,53,54,55,56,57]
theorem Pm(s:ByteArray)(w:Zq)(b:s.size<=1000000):Zy Zb 143 #[.string s,.string ⟨#[48,49,50,51,52,53,54,55,56,57]⟩] w fun e w'=>∃t:ByteArray,e=Zc (.string t)/\(t=⟨#[]⟩↔∀c,c∈s.data.toList->DL.contains c=Ze)/\Zv w.heap.size w w':=by
 refine(Any.strings_Trim_laid Tryz.lays160 (by kernel_rfl) s ⟨#[48,49,50,51,52,53,54,55,56,57]⟩ w (by omega) (by decide) (ascii_of_all (by decide))).mono ?_;rintro e w' ⟨rfl,a⟩;refine⟨_,rfl,?_,a⟩;rw[<-B8 s.data.toList DL];constructor
 .intro h;have:=congrArg (fun x:ByteArray=>x.data.toList) h;show Lib.trimS s.data.toList [48,49,50,51,52,53,54,55,56,57]=[]
  simpa using this
 .intro h;show (⟨(Lib.trimS s.data.toList DL).toArray⟩:ByteArray)=_
  rw[h]
end Go.Proofs.YtnddkmccagiclabGreatDoor
namespace Go.Proofs.YtnddkmccagiclabGreatDoor
def O1:ByteArray:=⟨#[32,10,40,41]⟩
theorem Ap(i:Nat)(h:i<O1.size):(O1[i]'h).toNat<128:=by
 have a:i<4:=h;match i,a with
 |0,_=>show (32:UInt8).toNat<128;decide
 |1,_=>show (10:UInt8).toNat<128;decide
 |2,_=>show (40:UInt8).toNat<128;decide
 |3,_=>show (41:UInt8).toNat<128;decide
theorem Mj:∀(l:List UInt8)(c:UInt8),(∀b,b∈l->b≠c)->Lib.indexByte l c=-1
 |[],_,_=>rfl
 |b::l,c,h=>by rw[Lib.indexByte,if_neg (by simpa using h b Zs),if_pos];rw[Mj l c fun x hx=>h x (Zj _ hx)];rfl
set_option maxRecDepth 100000 in
theorem QH(w:Zq):Zy Zb 139 #[.string O1,O .i32 65533] w fun e w'=>e=Zc (O I (-1))/\Zv w.heap.size w w':=by
 have a:∀i,bL w (w.iter O1 i):=fun i=>by unfold World.iter;exact(Zf _ _).alloc (Zk _) _
 obtain⟨D,k⟩:∃D,O1=D:=⟨_,rfl⟩
 have j:Zm (D.size=4/\∀i(h:i<D.size),(D[i]'h).toNat<128):=by subst k;exact⟨rfl,Ap⟩
 rw[k] at a ⊢;clear k;go_enter Yf,ntmps139;go_wp2_with fail;go_loopg [] 4 (fun g wr=>∃i:Nat,i+g=4/\wr=w.iter D i)
 case atStart=>exact⟨0,rfl,rfl⟩
 case round=>
  obtain⟨i,m,rfl⟩:=hrel;cases gk with
  |zero=>
   have hi:¬i<D.size:=by rw[j.out.1];omega
   have c:=fun ty=>run_next_end (P:=Zb) w D i ty hi;go_wp2_with fail;go_ret;exact⟨rfl,a _⟩
  |succ g=>
   have hi:i<D.size:=by rw[j.out.1];omega
   obtain⟨x,d⟩:∃x:UInt8,D[i]'hi=x:=⟨_,rfl⟩
   have b:x.toNat<128:=by rw[<-d];exact j.out.2 i hi
   have c:=fun ty=>run_next_ascii (P:=Zb) w D i ty hi (by rw[d];exact b);rw[d] at c;have l:((x.toNat:Int)==65533)=Za:=by simp;omega
   clear d;go_wp2_with fail;go_roundg g
   case measure=>omega
   case rel=>exact⟨i+1,by omega,rfl⟩
set_option maxRecDepth 100000 in
theorem QG(r:Int)(w:Zq)(j:128<=r)(b:r≠65533)(hv:Utf8.valid r=Ze):Zy Zb 139 #[.string O1,O .i32 r] w fun e w'=>e=Zc (O I (-1))/\Zv w.heap.size w w':=by
 obtain⟨h2,h4,m⟩:=encode_facts r hv j;obtain⟨E,hE⟩:∃E,Utf8.encode r=E:=⟨_,rfl⟩
 rw[hE] at h2 h4 m;obtain⟨n,hn⟩:∃n,E.size=n+1:=⟨E.size-1,by omega⟩
 have hnE:n<E.size:=by omega
 obtain⟨y,hy⟩:∃y:UInt8,E[n]'hnE=y:=⟨_,rfl⟩
 have u:128<=y.toNat:=by have:=m (by omega);rw[<-hy];simpa[hn] using this
 obtain⟨D,d⟩:∃D,O1=D:=⟨_,rfl⟩
 have HD:=Yy d;have a6:D.size=4:=by rw[<-d];rfl
 have hnD:n<D.size:=by omega
 obtain⟨x,hx⟩:∃x:UInt8,D[n]'hnD=x:=⟨_,rfl⟩
 have z:x.toNat<128:=by subst d;rw[<-hx];exact Ap n hnD
 have q:Lib.validRune r=Ze:=by simp only[Utf8.valid,ZL,ZF,decide_eq_true_eq] at hv;simp only[Lib.validRune,decide_eq_true_eq];omega
 have a8:=decide_eq_false (by omega);have a1:(r==65533)=Za:=by simpa using b
 have a5:=decide_eq_true (by omega);rw[d];clear d m hv b;go_enter Yf,ntmps139;go_wp2_with fail;refine(Tryz.utf8_ValidRune r _).mono ?_;rintro e w' ⟨rfl,l⟩;rw[l,q];clear l w';go_wp2_with fail;refine wp_scope_straight ?_;have a9:((E.size:Nat):Int)-1=(n:Int):=by omega
 go_wp2_with fail;go_loopg [9] 1 (fun g i wr=>g=1/\i=O I (n:Int)/\wr=w)
 case atStart=>exact⟨rfl,rfl,rfl⟩
 case round=>
  obtain⟨rfl,rfl,rfl⟩:=hrel;have a0:(n:Int)<4:=by omega
  have a4:((x.toNat:Int) != (y.toNat:Int))=Ze:=by simp;omega
  have aa:¬((n:Int)<0):=by omega
  have a2:(n:Int)<(n:Int)+1:=by omega
  have h:∀a,Lib.indexByte (D.extract a D.size).data.toList ((y.toNat:Int)).toNat.toUInt8=-1:=fun a=>by
   refine Mj _ _ fun c hc e=>?_;have hm:c∈D.data.toList:=by rw[Lib.extract_to_end] at hc;exact List.mem_of_mem_drop hc
   rw[<-HD.out] at hm;have:c.toNat<128:=by have:c∈[(32:UInt8),10,40,41]:=hm;simp only[ZA,Ye,or_false] at this;rcases this with rfl|rfl|rfl|rfl<;>decide
   rw[e] at this;simp at this;omega
  have o:∀w,(ZK 9 (.string D) (U (O I ((n:Int)+1))) G G).run Zb w=.ok (.string (D.extract (n+1) D.size)) w:=fun w=>by rw[Ya w 9 D I ((n:Int)+1) Tryz.underlying9,if_pos ⟨by omega,by omega⟩];rfl
  obtain⟨T,p⟩:∃T,D.extract (n+1) D.size=T:=⟨_,rfl⟩
  have k:Lib.indexByte T.data.toList ((y.toNat:Int)).toNat.toUInt8=-1:=by rw[<-p];exact h _
  rw[p] at o;clear h p;have ab:IntKind.i64.wrap ((n:Int)+1)=(n:Int)+1:=Go.wrap_small _ (by omega) (by omega);have a7:(n:Int)+1<=4:=by omega
  have a3:(0:Int)<=(n:Int)+1:=by omega
  go_wp2_with fail;refine wp_scope_straight ?_;go_wp2_with fail;go_region_held3 (fun w'=>bL wr w') (first|exact(Zf _ _).drew|go_keep) (fail)
  all_goals go_wp2_with fail
  all_goals (go_region_held3 (fun w'=>bL wr w') (first|exact(Zf _ _).drew.drew|go_keep) (first|(go_at_call 173;refine(Tryz.strings_IndexByte _ _ _).mono ?_;rintro e w' ⟨rfl,l⟩;rw[l,k])))
  all_goals go_wp2_with fail
  all_goals (simp only[Exit.noGoto,Exit.then,Exit.inBlock])
  all_goals (go_ret;exact⟨rfl,by assumption⟩)
theorem AT(s:ByteArray)(i:Nat)(h:i<s.size):
  ((s.data.toList.getD i 0).toNat<128/\Utf8.decode s i=((s.data.toList.getD i 0).toNat,1))\/
  (128<=(Utf8.decode s i).1/\Utf8.valid ((Utf8.decode s i).1:Int)=Ze/\1<=(Utf8.decode s i).2/\i+(Utf8.decode s i).2<=s.size/\∀j,j<(Utf8.decode s i).2->128<=(s.data.toList.getD (i+j) 0).toNat):=by
 have q:s.data.toList.length=s.size:=Zx;have hd:=Lib.decode_N s i;generalize hR:Utf8.decode s i=D at hd;have d:=Lib.decodeN_shape (s.data.toList.length-i) (s.data.toList.getD i 0).toNat (s.data.toList.getD (i+1) 0).toNat (s.data.toList.getD (i+2) 0).toNat (s.data.toList.getD (i+3) 0).toNat;rw[<-hd] at d;rcases d with⟨c,b⟩|⟨c,m,e,g,b⟩|⟨c,m,e,g,k,o,b⟩|⟨c,m,e,g,k,p,o,b⟩|b
 .exact .inl ⟨c,b⟩
 .right;rw[b];refine⟨by show 128<=_;omega,?_,by show 1<=2;omega,by show i+2<=_;omega,fun j a=>?_⟩
  .simp only[Utf8.valid,ZL,ZF,decide_eq_true_eq];omega
  .replace a:j<2:=a;obtain rfl|rfl:j=0\/j=1:=by omega
   .show 128<=(s.data.toList.getD i 0).toNat;omega
   .omega
 .right;rw[b];refine⟨by show 128<=_;omega,?_,by show 1<=3;omega,by show i+3<=_;omega,fun j a=>?_⟩
  .simp only[Utf8.valid,ZL,ZF,decide_eq_true_eq];omega
  .replace a:j<3:=a;obtain rfl|rfl|rfl:j=0\/j=1\/j=2:=by omega
   .show 128<=(s.data.toList.getD i 0).toNat;omega
   .omega
   .omega
 .right;rw[b];refine⟨by show 128<=_;omega,?_,by show 1<=4;omega,by show i+4<=_;omega,fun j a=>?_⟩
  .simp only[Utf8.valid,ZL,ZF,decide_eq_true_eq];omega
  .replace a:j<4:=a;obtain rfl|rfl|rfl|rfl:j=0\/j=1\/j=2\/j=3:=by omega
   .show 128<=(s.data.toList.getD i 0).toNat;omega
   .omega
   .omega
   .omega
 .right;have c:¬(s.data.toList.getD i 0).toNat<128:=fun c=>by
   have l:Lib.decodeN (s.data.toList.length-i) (s.data.toList.getD i 0).toNat (s.data.toList.getD (i+1) 0).toNat (s.data.toList.getD (i+2) 0).toNat (s.data.toList.getD (i+3) 0).toNat=((s.data.toList.getD i 0).toNat,1):=by rw[Lib.decodeN,if_pos c]
   rw[<-hd,b] at l;have:=(ZE l).1;omega
  rw[b];refine⟨by show 128<=65533;omega,by decide,by show 1<=1;omega,by show i+1<=_;omega,fun j a=>?_⟩;replace a:j<1:=a;obtain rfl:j=0:=by omega
  show 128<=(s.data.toList.getD i 0).toNat
  omega
def K1:List UInt8:=[32,10,40,41]
theorem DN{c:UInt8}(h:128<=c.toNat):K1.contains c=Za:=by
 cases e:K1.contains c
 .rfl
 .exfalso;have:c∈K1:=by simpa using e
  simp only[K1,ZA,Ye,or_false] at this;rcases this with rfl|rfl|rfl|rfl<;>revert h<;>decide
theorem Wb{s:ByteArray}{i:Nat}(k:Nat)(h:Lib.NoAny s.data.toList K1 i)(hk:∀j,j<k->128<=(s.data.toList.getD (i+j) 0).toNat):Lib.NoAny s.data.toList K1 (i+k):=fun j b hj hb=>by
 by_cases hi:j<i
 .exact h j b hi hb
 .have:=hk (j-i) (by omega);rw[show i+(j-i)=j by omega,Z8,hb] at this;exact DN this
set_option maxRecDepth 100000 in
theorem R6(s:ByteArray)(w:Zq)(h8:s.size<=8):Zy Zb 101 #[.string s,.string O1] w fun e w'=>e=Zc (O I (Lib.indexAny s.data.toList K1))/\Zv w.heap.size w w':=by
 obtain⟨D,o⟩:∃D,O1=D:=⟨_,rfl⟩
 have HD:Zm (O1=D):=o;have a7:D.size=4:=by rw[<-o];rfl
 have a8:D.toList.isEmpty=Za:=by rw[<-o,Lib.toList_data];rfl
 have aa:((D.size:Int)==1)=Za:=by rw[a7];rfl
 have a6:decide ((8:Int)<(s.size:Int))=Za:=decide_eq_false (by omega);have HR:Zm (∀(x:UInt8)W,x.toNat<128->Zy Zb 139 #[.string D,O .i32 (x.toNat:Int)] W fun e w'=>e=Zc (O I (Lib.indexByte K1 x))/\w'=W):=fun x W hx=>by refine(Tryz.strings_IndexRune_ascii D (x.toNat:Int) W (by omega) (by omega)).mono ?_;rintro e w' ⟨rfl,h⟩;refine⟨?_,h⟩;rw[<-o,show ((x.toNat:Int)).toNat.toUInt8=x by simp];rfl
 have HB:Zm (∀(r:Nat)W,128<=r->Utf8.valid (r:Int)=Ze->Zy Zb 139 #[.string D,O .i32 (r:Int)] W fun e w'=>e=Zc (O I (-1))/\Zv W.heap.size W w'):=fun r W h1 h2=>by
  rw[<-o];by_cases h3:(r:Int)=65533
  .rw[h3];exact QH W
  .exact QG (r:Int) W (by omega) h3 h2
 rw[o];clear o;go_enter func101,ntmps101;go_wp2_with fail;refine(Tryz.strings_shouldUseASCIISet _ _).mono ?_;rintro e w' ⟨rfl,j⟩;rw[j,a6];clear j w';go_wp2_with fail;go_loopg [9,10] s.size (fun g _ _ wx=>∃i:Nat,i+g=s.size/\Zm (Lib.NoAny s.data.toList K1 i/\Zv w.heap.size w wx/\wx.heap[w.heap.size]?=U (.stringIter s i)))
 case atStart=>exact⟨0,by omega,Lib.NoAny.zero _ _,(Zf _ _).alloc (Zk _) _,World.iter_heap w s 0⟩
 case round=>
  obtain⟨i,ab,c⟩:=hrel;by_cases hi:i<s.size
  .have hnx:=fun ty=>Lib.run_next_any_at (P:=Zb) wr w.heap.size s i ty c.out.2.2 hi;obtain⟨R,y⟩:∃R,(Utf8.decode s i).1=R:=⟨_,rfl⟩
   obtain⟨k,hk⟩:∃k,(Utf8.decode s i).2=k:=⟨_,rfl⟩
   have m:=AT s i hi;rw[y,hk] at m hnx;have a4:Utf8.decode s i=(R,k):=by rw[<-y,<-hk]
   rw[a4] at m;clear y hk a4;have u:Zm (Zv w.heap.size w (wr.iterAt w.heap.size s (i+k))/\(wr.iterAt w.heap.size s (i+k)).heap[w.heap.size]?=U (.stringIter s (i+k))):=⟨Lib.below_iterAt c.out.2.1 (Zk _) _ _,Lib.iterAt_heap _ _ _ _ _ c.out.2.2⟩
   obtain⟨V,hV⟩:∃V,wr.iterAt w.heap.size s (i+k)=V:=⟨_,rfl⟩
   rw[hV] at hnx u;clear hV;rcases m with⟨hb,hd⟩|⟨d,b,a3,a0,a1⟩
   .obtain⟨y,rfl⟩:=ZE hd;obtain⟨x,hx⟩:∃x:UInt8,s.data.toList.getD i 0=x:=⟨_,rfl⟩
    rw[hx] at hb y;subst y;have hl:s.data.toList.length=s.size:=Zx;have z:s.data.toList[i]?=U x:=by rw[<-hx,Z8,ZR (by omega)];rfl
    have Hx:Zm (s.data.toList[i]?=U x):=z;clear z hx hl hd;have a:=Lib.contains_iff_indexByte K1 x;obtain⟨q,hq⟩:∃q,Lib.indexByte K1 x=q:=⟨_,rfl⟩
    rw[hq] at a;have Hq:Zm (Lib.indexByte K1 x=q):=hq;clear hq;cases hin:K1.contains x
    .rw[hin] at a;have l:¬((0:Int)<=q):=of_decide_eq_false a.symm;clear a;go_wp2_with fail;refine(HR.out x _ hb).mono ?_;rintro e w' ⟨rfl,j⟩;rw[j,Hq.out];clear j w';go_wp2_with fail;go_roundg (gk-1)
     case measure=>omega
     case rel=>exact⟨i+1,by omega,c.out.1.succ Hx.out hin,u.out⟩
    .rw[hin] at a;have a9:(0:Int)<=q:=of_decide_eq_true a.symm;clear a;have HF:Zm (Lib.indexAny s.data.toList K1=(i:Int)):=Lib.indexAny_hit c.out.1 Hx.out hin;go_wp2_with fail;refine(HR.out x _ hb).mono ?_;rintro e w' ⟨rfl,j⟩;rw[j,Hq.out];clear j w';go_wp2_with fail;rw[HF.out];go_ret;exact⟨rfl,u.out.1⟩
   .have HNN:Zm (Lib.NoAny s.data.toList K1 (i+k)):=Wb k c.out.1 a1;replace d:128<=R:=d;replace b:Utf8.valid (R:Int)=Ze:=b;replace a3:1<=k:=a3;replace a0:i+k<=s.size:=a0;have a2:Zm (128<=R/\Utf8.valid (R:Int)=Ze):=⟨d,b⟩
    clear a1 d b;have l:¬((0:Int)<=-1):=by omega
    go_wp2_with fail;refine(HB.out R _ a2.out.1 a2.out.2).mono ?_;rintro e w' ⟨rfl,p⟩;have HW:Zm (Zv w.heap.size w w'/\w'.heap[w.heap.size]?=U (.stringIter s (i+k))):=by have hs:=u.out.1.size;have l:w.heap.size<V.heap.size:=(Array.getElem?_eq_some_iff.1 u.out.2).1;exact⟨u.out.1.trans (p.mono hs),(p.block _ l).trans u.out.2⟩
    clear p;go_wp2_with fail;go_roundg (gk-k)
    case measure=>omega
    case rel=>exact⟨i+k,by omega,HNN.out,HW.out⟩
  .have hnx:=fun ty=>Lib.run_next_end_at (P:=Zb) wr w.heap.size s i ty c.out.2.2 hi;have a5:i=s.size:=by omega
   have HF:Zm (Lib.indexAny s.data.toList K1=-1):=Lib.indexAny_none (by have hl:s.data.toList.length=s.size:=Zx;rw[hl,<-a5];exact c.out.1)
   go_wp2_with fail;rw[HF.out];go_ret;exact⟨rfl,c.out.2.1⟩
theorem Ad(c:UInt8):Mh c=!K1.contains c:=by simp only[Mh,K1,MV,Sm,List.contains_cons,List.contains_nil,Bool.or_false];cases c==32<;>cases c==10<;>cases c==40<;>cases c==41<;>rfl
theorem M1:∀l:List UInt8,Lib.indexAny l K1=if (U0 l).length<l.length then ((U0 l).length:Int) else -1
 |[]=>rfl
 |c::r=>by
  have ih:=M1 r;rw[Lib.indexAny];cases hc:K1.contains c
  .have hm:Mh c=Ze:=by rw[Ad,hc];rfl
   have e:U0 (c::r)=c::U0 r:=by simp[U0,hm]
   rw[e,ih];simp only[ZG,if_false,Zn];by_cases h:(U0 r).length<r.length
   .have h':(U0 r).length+1<r.length+1:=by omega
    have hz:(((U0 r).length:Int)==-1)=Za:=by rw[beq_eq_false_iff_ne];omega
    simp only[h,h',if_true,hz,ZG,if_false];omega
   .have h':¬(U0 r).length+1<r.length+1:=by omega
    simp only[h,h',if_false];rfl
  .have hm:Mh c=Za:=by rw[Ad,hc];rfl
   have e:U0 (c::r)=[]:=by simp[U0,hm]
   rw[e];simp
theorem Wq(s:ByteArray)(w:Zq)(b:s.size<=1000000):Zy Zb 101 #[.string s,.string O1] w fun e w'=>e=Zc (O I (Lib.indexAny s.data.toList K1))/\Zv w.heap.size w w':=by
 by_cases h8:s.size<=8
 .exact R6 s w h8
 .refine(Tryz.strings_IndexAny_long (zero_of_info (P:=Zb) (n:=256) (by kernel_rfl)).1 s O1 w (by decide) (by omega) (by omega) (by decide) (ascii_of_all (by decide))).mono ?_;rintro e w' ⟨rfl,a⟩;refine⟨rfl,?_⟩;rw[a];exact((Zf _ _).alloc (Zk _) _).alloc (by simp) _
def Mi:ByteArray:=⟨#[97,100,100,32,108,101,115,115,32,105,102,32,102,117,110,32,99,97,108,108,32,97,115]⟩
theorem O0:Lib.fields Mi.data.toList=[UM 4,UM 5,UM 6,UM 7,UM 8,UM 9]:=by decide +kernel
theorem PV:∀b,b∈Mi.data.toList->b.toNat<128:=by decide +kernel
theorem Wx(w:Zq)(a:Lib.TabIs Zb w "strings.asciiSpace" .u8 Lib.asciiSpaceTab):
  Zy Zb 103 #[.string Mi] w fun e w'=>e=Zc (F (U ⟨w.heap.size,0,G⟩) 6 6)/\w'=w.alloc (Zt #[.string (bw (UM 4)),.string (bw (UM 5)),.string (bw (UM 6)),.string (bw (UM 7)),.string (bw (UM 8)),.string (bw (UM 9))] 9):=by
 have h:=Tryz.strings_Fields Mi w (by decide) (fun j b h=>PV b (List.mem_of_getElem? h)) a;rw[O0] at h;exact h
def Ta(w:Zq):Prop:=Lib.TabIs Zb w "strings.asciiSpace" .u8 Lib.asciiSpaceTab
theorem Ta.below{w w':Zq}(h:Ta w)(hb:Zv w.heap.size w w'):Ta w':=Lib.tabBelow_of_tabIs h w' hb
theorem Uz.all{W:Zq}{b:Nat}{x:TT}(h:Uz W b 0 x):W.cell? ⟨b,0,G⟩=U (O I x.k)/\W.cell? ⟨b,1,G⟩=U (O I x.n)/\W.cell? ⟨b,2,G⟩=U (O I x.t.k)/\W.cell? ⟨b,3,G⟩=U (F x.t.a x.t.l.length x.t.c)/\W.cell? ⟨b,4,G⟩=U (O I x.f.k)/\W.cell? ⟨b,5,G⟩=U (F x.f.a x.f.l.length x.f.c)/\W.cell? ⟨b,6,G⟩=U (F x.a x.l.length x.c):=by obtain⟨g,i,a,j,e,c,d⟩:=h;simp only[Zr] at g i a j e c d;exact⟨g,i,a,j,e,c,d⟩
theorem Tryz.info111:(Zb.info? 111).map (fun i=>(i.zero,i.size,i.bytes))=U (U (Zu #[.string ⟨#[]⟩,F G 0 0,.bool Za]),3,48):=by kernel_rfl
theorem Na(S:ByteArray)(k:Nat)(h:k<=S.size)(w:Zq):(ZK 9 (.string S) (U (O I (k:Int))) G G).run Zb w=.ok (.string (bw (S.data.toList.drop k))) w:=by
 rw[Ya w 9 S I (k:Int) Tryz.underlying9,if_pos ⟨by omega,by omega⟩];show Result.ok (Value.string (S.extract k S.size)) w=_
 rw[Lib.extract_from];rfl
theorem Cq(S:ByteArray)(k:Nat)(h:k<=S.size)(w:Zq):(ZK 9 (.string S) G (U (O I (k:Int))) G).run Zb w=.ok (.string (bw (S.data.toList.take k))) w:=by
 rw[run_slice_string_to_if w 9 S I (k:Int) Tryz.underlying9,if_pos ⟨by omega,by omega⟩];show Result.ok (Value.string (S.extract 0 k)) w=_
 rw[Lib.extract_upto];rfl
theorem TI.start(s:ByteArray)(a:Bool)(w:Zq):TI s a w s (F G 0 0) [] w:=by refine⟨NL.start w,by simp,?_⟩;cases TR s.data.toList a<;>simp
theorem TI.below{s:ByteArray}{wi:Bool}{w wr w2:Zq}{s':ByteArray}{v:Z3}{ts:List Nd}(h:TI s wi w s' v ts wr)(hb:Zv wr.heap.size wr w2):TI s wi w s' v ts w2:=⟨h.row.below hb,h.len,h.tr⟩
theorem Pn(s:ByteArray)(wi:Bool)(w:Zq)(hs:s.size<=1000)
  (ih:Zm (∀(s2:ByteArray)(wi2:Bool)(W:Zq),s2.size<s.size->Zy Zb 62 #[.string s2,.bool wi2] W (Mw s2 wi2 W))) :
  Zy Zb 62 #[.string s,.bool wi] w (Mw s wi w):=by
 obtain⟨i0,ac,ad,af,aa⟩:=info_parts Tryz.info111;go_enter func62,ntmps62;go_wp2_with fail;go_loopg [0,7] s.size (fun g v0 v7 wr=>∃(s':ByteArray)(ts:List Nd)(v:Z3),g=s'.size/\v0=.string s'/\v=v7/\Zm (TI s wi w s' v ts wr))
 case atStart=>exact⟨s,[],_,rfl,rfl,rfl,TI.start s wi w⟩
 case round=>
  obtain⟨s',ts,v,hg,rfl,hv,HI⟩:=hrel;subst hv;have HG:=Yy hg;clear hg;obtain⟨a,c,rfl,ab⟩:=HI.out.row.tree;clear ab;go_wp2_with fail;refine(RG s' _).mono ?_;rintro e w2 ⟨rfl,ak⟩;have z:=Yy (HI.out.below ak);clear HI ak;obtain⟨S,hS⟩:∃S,bw (trimS s'.data.toList)=S:=⟨_,rfl⟩
  rw[hS];have k:Zm (S.data.toList=trimS s'.data.toList/\S.size<=s'.size/\S.size=(trimS s'.data.toList).length):=by
   have h1:=Ld s'.data.toList;have h2:S.size=(trimS s'.data.toList).length:=by rw[<-hS];show (trimS s'.data.toList).toArray.size=_;simp
   have h3:s'.data.toList.length=s'.size:=Zx;exact⟨by rw[<-hS];rfl,by omega,h2⟩
  clear hS;obtain⟨T,hT⟩:∃T,trimS s'.data.toList=T:=⟨_,rfl⟩
  cases T with
  |nil=>
   have ah:S.toList.isEmpty=Ze:=by rw[Lib.toList_data,k.out.1,hT];rfl
   have HF:Zm (Mw s wi w (Zc (Zp #[F a ts.length c,.string ⟨#[]⟩,.bool (!wi)])) w2):=by
    refine⟨a,c,ts,⟨#[]⟩,!wi,rfl,?_,z.out.row.low,?_⟩
    .obtain⟨a',c',e,h⟩:=z.out.row.tree;obtain⟨rfl,_,rfl⟩:=Value.slice.inj e;exact h
    .rw[z.out.tr,Fy _ _ hT];cases wi
     .exact .inr ⟨_,rfl,rfl,by simp,rfl⟩
     .exact .inl ⟨rfl,rfl⟩
   clear z k HG ih;go_wp2_with fail;refine Zi (v:=Zp #[F a ts.length c,.string ⟨#[]⟩,.bool (!wi)]) ?_ rfl HF.out;simp[results,results62,go_sem]
  |cons d r=>
   have aj:S.size=r.length+1:=by rw[k.out.2.2,hT];simp
   have ah:S.toList.isEmpty=Za:=by rw[Lib.toList_data,k.out.1,hT];rfl
   have h0:0<S.size:=by omega
   have hx:S[0]'h0=d:=by
    have h1:S.data.toList[0]?=U d:=by rw[k.out.1,hT];rfl
    have h2:=Lib.data_getElem? S 0 h0;rw[h1] at h2;exact(Zh h2).symm
   have ae:∀w,(ZK 9 (.string S) (U (O I 1)) G G).run Zb w=.ok (.string (bw r)) w:=fun w=>by have:=Na S 1 (by omega) w;rw[k.out.1,hT] at this;exact this
   have HD:Zm (trimS s'.data.toList=d::r/\MV d=Za/\r.length+1<=s'.size):=⟨hT,Kh _ _ _ hT,by have:=k.out.2.1;omega⟩
   clear hT;by_cases h41:d=41
   .have hc1:((d.toNat:Int)==41)=Ze:=by rw[h41];rfl
    have HF:∀W,bL w2 W->Mw s wi w (Zc (Zp #[F a ts.length c,.string (bw r),.bool wi])) W:=fun W hb=>by
     refine⟨a,c,ts,bw r,wi,rfl,?_,(z.out.below hb).row.low,?_⟩
     .obtain⟨a',c',e,h⟩:=(z.out.below hb).row.tree;obtain⟨rfl,_,rfl⟩:=Value.slice.inj e;exact h
     .have hT:=HD.out.1;rw[h41] at hT;rw[z.out.tr,Ed _ r _ hT];cases wi
      .exact .inl ⟨rfl,rfl⟩
      .exact .inr ⟨_,rfl,rfl,by simp,rfl⟩
    have ai:=Yy HF;obtain⟨Br,a1⟩:∃B,bw r=B:=⟨_,rfl⟩
    rw[a1] at ae ai;clear HF z HD HG ih h41 a1;go_wp2_with fail;go_region_held3 (fun w'=>bL w2 w') (first|exact(Zf _ _).drew|go_keep) (fail)
    go_wp2_with fail;refine Zi (v:=Zp #[F a ts.length c,.string Br,.bool wi]) ?_ rfl (ai.out _ (by assumption));simp[results,results62,go_sem]
   .have hc1:((d.toNat:Int)==41)=Za:=by rw[beq_eq_false_iff_ne];intro e;exact h41 (UInt8.toNat_inj.1 (by show d.toNat=41;omega))
    by_cases h40:d=40
    .have hc2:((d.toNat:Int)==40)=Ze:=by rw[h40];rfl
     have HT:Zm (trimS s'.data.toList=40::r/\r.length+1<=s'.size):=⟨by rw[<-h40];exact HD.out.1,HD.out.2.2⟩
     obtain⟨Br,a1⟩:∃B,bw r=B:=⟨_,rfl⟩
     have HB:Zm (Br.data.toList=r/\Br.size=r.length):=by rw[<-a1];exact⟨rfl,by show r.toArray.size=_;simp⟩
     have HC:Zm (Zy Zb 62 #[.string Br,.bool Ze] w2 (Mw Br Ze w2)):=ih.out Br Ze w2 (by have:=HB.out.2;have:=HT.out.2;have:=z.out.len;omega);rw[a1] at ae;clear HD h40 h41 a1 ih;go_wp2_with fail;refine HC.out.mono ?_;rintro e w3 ⟨xa,xc,xs,R,ok,rfl,HP⟩;clear HC;have m:=Yy (z.out.below HP.out.2.1);cases ok
     .have HF:Zm (Mw s wi w (Zc (Zp #[F G (0:Nat) 0,.string ⟨#[]⟩,.bool Za])) w3):=by
       refine⟨G,0,[],⟨#[]⟩,Za,rfl,fun wd o=>⟨Nd.mm _ _ _ _ _,Nd.mo _ _ _ _ _⟩,m.out.row.low,.inl ⟨?_,rfl⟩⟩;rw[m.out.tr,Au _ r _ HT.out.1];rcases HP.out.2.2 with⟨h,_⟩|⟨p,_,h,_⟩
       .rw[HB.out.1] at h;rw[h];rfl
       .cases h
      clear m HP z HT HB k HG;go_wp2_with fail;refine Zi (v:=Zp #[F G (0:Nat) 0,.string ⟨#[]⟩,.bool Za]) ?_ rfl HF.out;simp[results,results62,go_sem]
     .have HO:Zm (∃p,TR r Ze=U p/\xs.map Nd.tn=p.1/\R.data.toList=p.2/\p.2.length+1<=r.length):=by
       rcases HP.out.2.2 with⟨_,h⟩|⟨p,h1,_,h2,h3⟩
       .cases h
       .rw[HB.out.1] at h1;exact⟨p,h1,h2,h3,(ET h1).2 rfl⟩
      have HQ:Zm ((Nd.mk ⟨#[]⟩ xa xc xs Ze).In w3/\(Nd.mk ⟨#[]⟩ xa xc xs Ze).Bl (w2.heap.size<=·)/\bL w2 w3):=⟨(HP.out.1 _ _).1,(HP.out.1 _ _).2,HP.out.2.1⟩
      clear HP;have x:(w3.alloc (Zt #[.string ⟨#[]⟩,F xa xs.length xc,.bool Ze] 111)).ownsRow w.heap.size 111 3 (F a ts.length c) ts.length (X0 ts):=YX m.out.row.own ((Zf _ _).alloc (Zk _) _);have l:=ZV w3 (Zt #[.string ⟨#[]⟩,F xa xs.length xc,.bool Ze] 111);have a4:ts.length<=1000:=by have:=m.out.len;omega
      have a5:=m.out.row.low.size;go_wp2_with (at_builtin;refine ZS _ rfl _ _ _ rfl w.heap.size 111 i0 _ 3 48 Z7 ac ad af aa rfl (by omega) (F a ts.length c) ts.length (X0 ts) rfl x ⟨w3.heap.size,0,G⟩ 1 1 [.string ⟨#[]⟩,F xa xs.length xc,.bool Ze] rfl rfl (ZN (cs:=#[.string ⟨#[]⟩,F xa xs.length xc,.bool Ze]) (t:=111) (fr:=(0,0)) l) (by simp[Z5]) (by omega) (by unfold maxLen;omega) (by omega) (by simp;omega) (w3.heap.size+1) (by simp) ?_;intro gg cap1 w5 i j a0 y)
      have HN:Zm (NL w (F (U ⟨gg,0,G⟩) (ts.length+1) cap1) (ts++[Nd.mk ⟨#[]⟩ xa xc xs Ze]) w5):=by have a2:bL w3 (w3.alloc (Zt #[.string ⟨#[]⟩,F xa xs.length xc,.bool Ze] 111)):=(Zf _ _).alloc (Zk _) _;exact m.out.row.step (t:=Nd.mk ⟨#[]⟩ xa xc xs Ze) a2 (HQ.out.1.below a2) (HQ.out.2.1.mono fun b hb=>⟨by have:=z.out.row.low.size;omega,fun e=>by have:=(z.out.row.own.lt b e.symm).2;omega⟩) i j (a0.elim .inl fun h=>.inr (by rw[h];simp))
      clear i j a0 y x l a5;have HR:Zm (TI s wi w R (F (U ⟨gg,0,G⟩) (ts.length+1) cap1) (ts++[Nd.mk ⟨#[]⟩ xa xc xs Ze]) w5/\R.size<s'.size):=by
       obtain⟨p,h1,h2,h3,h4⟩:=HO.out;have h5:R.size=p.2.length:=by rw[<-h3,Zx];rfl
       have h6:=HT.out.2;have h7:=m.out.len;refine⟨⟨HN.out,by rw[Zo];simp;omega,?_⟩,by omega⟩;rw[m.out.tr,Au _ r _ HT.out.1,h1,Zl,h3];cases TR p.2 wi with
       |none=>rfl
       |some q=>simp[Nd.np,h2]
      clear HN m z HO HQ HT HB k a4;have a3:Zm (R.size<gk):=by rw[HG.out];exact HR.out.2
      clear HG;go_wp2_with fail;go_roundg R.size
      case measure=>exact a3.out
      case rel=>exact⟨R,ts++[Nd.mk ⟨#[]⟩ xa xc xs Ze],_,rfl,rfl,rfl,HR.out.1⟩
    .have hc2:((d.toNat:Int)==40)=Za:=by rw[beq_eq_false_iff_ne];intro e;exact h40 (UInt8.toNat_inj.1 (by show d.toNat=40;omega))
     have H4:=Uy h41 h40;obtain⟨M,hM⟩:∃M,(U0 (d::r)).length=M:=⟨_,rfl⟩
     obtain⟨u,a8⟩:∃B,bw (U0 (d::r))=B:=⟨_,rfl⟩
     obtain⟨Rs,a6⟩:∃B,bw (J1 (d::r))=B:=⟨_,rfl⟩
     obtain⟨_,_,a7,am⟩:=Kr d r HD.out.2.1 h41 h40;have a9:M<=S.size:=by have:=congrArg List.length a7;rw[Zo,Zn] at this;omega
     have ao:∀w,(ZK 9 (.string S) G (U (O I (M:Int))) G).run Zb w=.ok (.string u) w:=fun w=>by
      rw[Cq S M a9 w,k.out.1,HD.out.1,<-a8];congr 3;conv=>lhs;rw[<-a7]
      rw[<-hM,List.take_left'];rfl
     have an:∀w,(ZK 9 (.string S) (U (O I (M:Int))) G G).run Zb w=.ok (.string Rs) w:=fun w=>by
      rw[Na S M a9 w,k.out.1,HD.out.1,<-a6];congr 3;conv=>lhs;rw[<-a7]
      rw[<-hM,List.drop_left'];rfl
     have HW:Zm (u.data.toList=U0 (d::r)/\Rs.data.toList=J1 (d::r)/\Rs.size<=r.length/\Rs.size+1<=s'.size):=by
      have e:Rs.size=(J1 (d::r)).length:=by rw[<-a6];show (J1 (d::r)).toArray.size=_;simp
      have:=HD.out.2.2;exact⟨by rw[<-a8];rfl,by rw[<-a6];rfl,by omega,by omega⟩
     have hq:Lib.indexAny S.data.toList K1=if M<S.size then (M:Int) else -1:=by rw[k.out.1,HD.out.1,M1,hM,aj];rfl
     clear ae a7 am a8 a6 hM h40 h41 ih;go_wp2_with fail;refine(Wq S _ (by have:=k.out.2.1;have:=z.out.len;omega)).mono ?_;rintro e w3 ⟨rfl,al⟩;have m:=Yy (z.out.below al);clear z al;rw[hq];by_cases hlt:M<S.size
     .rw[if_pos hlt];have ar:¬((M:Int)<0):=by omega
      clear hq hlt;have x:(w3.alloc (Zt #[.string u,F G 0 0,.bool Za] 111)).ownsRow w.heap.size 111 3 (F a ts.length c) ts.length (X0 ts):=YX m.out.row.own ((Zf _ _).alloc (Zk _) _);have l:=ZV w3 (Zt #[.string u,F G 0 0,.bool Za] 111);have a4:ts.length<=1000:=by have:=m.out.len;omega
      have a5:=m.out.row.low.size;go_wp2_with (at_builtin;refine ZS _ rfl _ _ _ rfl w.heap.size 111 i0 _ 3 48 Z7 ac ad af aa rfl (by omega) (F a ts.length c) ts.length (X0 ts) rfl x ⟨w3.heap.size,0,G⟩ 1 1 [.string u,F G 0 0,.bool Za] rfl rfl (ZN (cs:=#[.string u,F G 0 0,.bool Za]) (t:=111) (fr:=(0,0)) l) (by simp[Z5]) (by omega) (by unfold maxLen;omega) (by omega) (by simp;omega) (w3.heap.size+1) (by simp) ?_;intro gg cap1 w5 i j a0 y)
      have HN:Zm (NL w (F (U ⟨gg,0,G⟩) (ts.length+1) cap1) (ts++[Nd.mk u G 0 [] Za]) w5):=by have a2:bL w3 (w3.alloc (Zt #[.string u,F G 0 0,.bool Za] 111)):=(Zf _ _).alloc (Zk _) _;exact m.out.row.step (t:=Nd.mk u G 0 [] Za) a2 (Nd.mm _ _ _ _ _) (Nd.mo _ _ _ _ _) i j (a0.elim .inl fun h=>.inr (by rw[h];simp))
      clear i j a0 y x l a5;have HR:Zm (TI s wi w Rs (F (U ⟨gg,0,G⟩) (ts.length+1) cap1) (ts++[Nd.mk u G 0 [] Za]) w5/\Rs.size<s'.size):=by
       obtain⟨h1,h2,h3,h4⟩:=HW.out;have h7:=m.out.len;have h8:=HD.out.2.2;refine⟨⟨HN.out,by rw[Zo];simp;omega,?_⟩,by omega⟩;rw[m.out.tr,At _ r d _ HD.out.1 H4.out.1 H4.out.2,h2];cases TR (J1 (d::r)) wi with
       |none=>rfl
       |some q=>simp[Nd.np,h1]
      clear HN m HW HD H4 k a4;have a3:Zm (Rs.size<gk):=by rw[HG.out];exact HR.out.2
      clear HG;go_wp2_with fail;go_roundg Rs.size
      case measure=>exact a3.out
      case rel=>exact⟨Rs,ts++[Nd.mk u G 0 [] Za],_,rfl,rfl,rfl,HR.out.1⟩
     .rw[if_neg hlt];have ap:S.size=M:=by omega
      have aq:((-1:Int)<0):=by omega
      clear hq hlt aj a9;have x:(w3.alloc (Zt #[.string u,F G 0 0,.bool Za] 111)).ownsRow w.heap.size 111 3 (F a ts.length c) ts.length (X0 ts):=YX m.out.row.own ((Zf _ _).alloc (Zk _) _);have l:=ZV w3 (Zt #[.string u,F G 0 0,.bool Za] 111);have a4:ts.length<=1000:=by have:=m.out.len;omega
      have a5:=m.out.row.low.size;go_wp2_with (at_builtin;refine ZS _ rfl _ _ _ rfl w.heap.size 111 i0 _ 3 48 Z7 ac ad af aa rfl (by omega) (F a ts.length c) ts.length (X0 ts) rfl x ⟨w3.heap.size,0,G⟩ 1 1 [.string u,F G 0 0,.bool Za] rfl rfl (ZN (cs:=#[.string u,F G 0 0,.bool Za]) (t:=111) (fr:=(0,0)) l) (by simp[Z5]) (by omega) (by unfold maxLen;omega) (by omega) (by simp;omega) (w3.heap.size+1) (by simp) ?_;intro gg cap1 w5 i j a0 y)
      have HN:Zm (NL w (F (U ⟨gg,0,G⟩) (ts.length+1) cap1) (ts++[Nd.mk u G 0 [] Za]) w5):=by have a2:bL w3 (w3.alloc (Zt #[.string u,F G 0 0,.bool Za] 111)):=(Zf _ _).alloc (Zk _) _;exact m.out.row.step (t:=Nd.mk u G 0 [] Za) a2 (Nd.mm _ _ _ _ _) (Nd.mo _ _ _ _ _) i j (a0.elim .inl fun h=>.inr (by rw[h];simp))
      clear i j a0 y x l a5;have HR:Zm (TI s wi w Rs (F (U ⟨gg,0,G⟩) (ts.length+1) cap1) (ts++[Nd.mk u G 0 [] Za]) w5/\Rs.size<s'.size):=by
       obtain⟨h1,h2,h3,h4⟩:=HW.out;have h7:=m.out.len;have h8:=HD.out.2.2;refine⟨⟨HN.out,by rw[Zo];simp;omega,?_⟩,by omega⟩;rw[m.out.tr,At _ r d _ HD.out.1 H4.out.1 H4.out.2,h2];cases TR (J1 (d::r)) wi with
       |none=>rfl
       |some q=>simp[Nd.np,h1]
      clear HN m HW HD H4 k a4;have a3:Zm (Rs.size<gk):=by rw[HG.out];exact HR.out.2
      clear HG;go_wp2_with fail;go_roundg Rs.size
      case measure=>exact a3.out
      case rel=>exact⟨Rs,ts++[Nd.mk u G 0 [] Za],_,rfl,rfl,rfl,HR.out.1⟩
theorem QS:∀(n:Nat)(s:ByteArray)(wi:Bool)(w:Zq),s.size<=n->s.size<=1000->Zy Zb 62 #[.string s,.bool wi] w (Mw s wi w)
 |0,s,wi,w,h,hs=>Pn s wi w hs fun s2 wi2 W h2=>by omega
 |n+1,s,wi,w,h,hs=>Pn s wi w hs fun s2 wi2 W h2=>QS n s2 wi2 W (by omega) (by omega)
def LZ(d:List UInt8):Option Int:=(Ui (bw d)).bind fun v=>if -9999999<=v/\v<=9999999 then U v else G
def JS(w:List UInt8):Option Tm:=
 match YY (bw w) XH 0 with
 |some b=>U ⟨3,(b:Int),Yk,Yk,[]⟩
 |none=>
  match w with
  |35::d=>(LZ d).map fun n=>⟨1,n,Yk,Yk,[]⟩
  |_=>(LZ w).map fun n=>⟨2,n,Yk,Yk,[]⟩
def Y5:Nat->Tn->Option Ty
 |0,_=>G
 |n+1,x=>
  if x.o=Za then (YY (bw x.w) Jy 0).map fun (k:Nat)=>Ty.mk (k:Int) []
  else match x.l with
   |[a,b,c]=>if a.o=Za/\a.w=[116,111] then (Y5 n b).bind fun p=>(Y5 n c).map fun q=>⟨3,[p,q]⟩ else G
   |_=>G
def KJ(f:Tn->Option Tm):List Tn->Option (List Tm)
 |[]=>U []
 |x::l=>(f x).bind fun t=>(KJ f l).map fun ts=>t::ts
def U4(n k:Nat)(l:List Tn):Option (Ty×List Tn):=if XV (k:Int)=Ze then (match l with|[]=>G|z::r=>(Y5 n z).map fun t=>(t,r)) else U (Yk,l)
theorem MJ(n k:Nat)(z:Tn)(r:List Tn)(h:XV (k:Int)=Ze):U4 n k (z::r)=(Y5 n z).map fun t=>(t,r):=by unfold U4;rw[if_pos h]
theorem Of(n k:Nat)(h:XV (k:Int)=Ze):U4 n k []=G:=by unfold U4;rw[if_pos h]
theorem NK(n k:Nat)(l:List Tn)(h:¬XV (k:Int)=Ze):U4 n k l=U (Yk,l):=by unfold U4;rw[if_neg h]
def YV:Nat->Tn->Option Tm
 |0,_=>G
 |n+1,x=>
  if x.o=Za then JS x.w
  else match x.l with
   |[]=>G
   |y::r=>if y.o=Ze then G else (X2 (bw y.w)).bind fun k=>(U4 n k r).bind fun p=>if p.2.length=Yu (k:Int) then (KJ (YV n) p.2).map fun l=>⟨(k:Int),0,p.1,Yk,l⟩ else G
def LD:Tm->Prop
 |⟨_,n,_,_,l⟩=>(-9999999<=n/\n<=9999999)/\∀y,y∈l->LD y
theorem MD{k n:Int}{t f:Ty}{l:List Tm}:LD ⟨k,n,t,f,l⟩↔(-9999999<=n/\n<=9999999)/\∀y,y∈l->LD y:=by rw[LD]
def Xy(ws:List (List UInt8)):List ByteArray:=ws.map bw
theorem NO(a b:List (List UInt8)):Xy (a++b)=Xy a++Xy b:=by simp[Xy]
theorem JM(a:List UInt8)(b:List (List UInt8)):Xy (a::b)=bw a::Xy b:=rfl
theorem Oj:Xy []=[]:=rfl
theorem Vi{a b:List UInt8}(h:a≠b):bw a≠bw b:=fun e=>h (No e)
theorem Oa:M0=bw [40]:=rfl
theorem DR:QK=bw [41]:=rfl
theorem Fb:EZ=bw [116,111]:=rfl
theorem NG{d:List UInt8}{v:Int}(h:LZ d=U v):Ui (bw d)=U v/\(-9999999<=v/\v<=9999999):=by
 obtain⟨u,hu,h⟩:=Zd.1 h;split at h
 .obtain rfl:=Zh h;exact⟨hu,by assumption⟩
 .cases h
theorem R0{d:List UInt8}{v:Int}(h:Ui (bw d)=U v)(a:-9999999<=v/\v<=9999999):LZ d=U v:=by rw[LZ,h,Zl,if_pos a]
theorem Ly(d:List UInt8)(h:YY (bw (35::d)) XH 0=G):JS (35::d)=(LZ d).map fun n=>⟨1,n,Yk,Yk,[]⟩:=by unfold JS;rw[h];rfl
theorem K9(w:List UInt8)(h:YY (bw w) XH 0=G)(a:∀d,w≠35::d):JS w=(LZ w).map fun n=>⟨2,n,Yk,Yk,[]⟩:=by unfold JS;rw[h];simp only
theorem UN(w:List UInt8)(b:Nat)(h:YY (bw w) XH 0=U b):JS w=U ⟨3,(b:Int),Yk,Yk,[]⟩:=by unfold JS;rw[h]
theorem MZ(d:List UInt8)(r:List ByteArray)(h:YY (bw (35::d)) XH 0=G):YQ (bw (35::d)) r=(Ui (bw d)).map fun n=>(⟨1,n,Yk,Yk,[]⟩,r):=by unfold YQ;rw[h];rfl
theorem NA(w:List UInt8)(r:List ByteArray)(h:YY (bw w) XH 0=G)(a:∀d,w≠35::d):YQ (bw w) r=(Ui (bw w)).map fun n=>(⟨2,n,Yk,Yk,[]⟩,r):=by unfold YQ;rw[h,NU];simp only
theorem Mb(w:List UInt8)(b:Nat)(r:List ByteArray)(h:YY (bw w) XH 0=U b):YQ (bw w) r=U (⟨3,(b:Int),Yk,Yk,[]⟩,r):=by unfold YQ;rw[h]
theorem R7(w:List UInt8):(∃d,w=35::d)\/∀d,w≠35::d:=by
 by_cases h:∃d,w=35::d
 .exact .inl h
 .exact .inr fun d e=>h ⟨d,e⟩
theorem Az{w:List UInt8}{t:Tm}(h:JS w=U t)(r:List ByteArray):YQ (bw w) r=U (t,r):=by
 cases ha:YY (bw w) XH 0 with
 |some b=>rw[UN w b ha] at h;rw[Mb w b r ha,Zh h]
 |none=>
  rcases R7 w with⟨d,rfl⟩|c
  .rw[Ly d ha] at h;obtain⟨n,a,rfl⟩:=Y.1 h;rw[MZ d r ha,(NG a).1];rfl
  .rw[K9 w ha c] at h;obtain⟨n,a,rfl⟩:=Y.1 h;rw[NA w r ha c,(NG a).1];rfl
theorem Bb{w:List UInt8}{t:Tm}{r q:List ByteArray}(h:YQ (bw w) r=U (t,q))(hs:LD t):JS w=U t/\q=r:=by
 cases ha:YY (bw w) XH 0 with
 |some b=>rw[Mb w b r ha] at h;obtain⟨rfl,rfl⟩:=ZE (Zh h);exact⟨UN w b ha,rfl⟩
 |none=>
  rcases R7 w with⟨d,rfl⟩|e
  .rw[MZ d r ha] at h;obtain⟨n,c,a⟩:=Y.1 h;obtain⟨rfl,rfl⟩:=ZE a;rw[Ly d ha,R0 c (MD.1 hs).1];exact⟨rfl,rfl⟩
  .rw[NA w r ha e] at h;obtain⟨n,c,a⟩:=Y.1 h;obtain⟨rfl,rfl⟩:=ZE a;rw[K9 w ha e,R0 c (MD.1 hs).1];exact⟨rfl,rfl⟩
theorem Xm{x:Tn}:∀{l:List Tn},x∈l->x.flat.length<=(Xh l).length
 |y::l,h=>by
  rw[YN,Zo];rcases ZA.1 h with rfl|h
  .omega
  .have:=Xm h;omega
theorem Oe:∀(m:Nat)(x:Tn)(t:Ty),x.nice->Y5 m x=U t->∀(n:Nat)(rest:List ByteArray),x.flat.length<=n->YR n (Xy x.flat++rest)=U (t,rest)
 |0,_,_,_,h,_,_,_=>by simp[Y5] at h
 |m+1,x,t,hx,h,0,rest,hn=>by have:=Uc x;omega
 |m+1,x,t,hx,h,n+1,rest,hn=>by
  rw[Y5] at h;rcases Oc hx with⟨l,rfl,hl⟩|⟨w,rfl,hw⟩
  .simp only[ZT,if_false] at h;match l,h with
   |[a,b,c],h=>
    simp only at h;split at h
    .rename_i ha;obtain⟨p,hp,h⟩:=Zd.1 h;obtain⟨q,hq,rfl⟩:=Y.1 h;rw[X7] at hn ⊢;simp only[YN,JL,ZB,Zn,Zo,Zg] at hn ⊢;have ea:a.flat=[[116,111]]:=by obtain⟨d,i,g⟩:=a;obtain⟨rfl,rfl⟩:g=Za/\d=[116,111]:=ha;exact X6 _ _
     rw[ea] at hn ⊢;simp only[Zn,Zg] at hn;have e:Xy ([40]::([[116,111]]++(b.flat++c.flat)++[[41]]))++rest=M0::EZ::(Xy b.flat++(Xy c.flat++(QK::rest))):=by simp[Xy,Oa,Fb,DR]
     rw[e,YR,if_pos rfl,behind,if_pos rfl,Zl];rw[Oe m b p (hl b (by simp)) hp n _ (by omega),Zl];simp only;rw[Oe m c q (hl c (by simp)) hq n _ (by omega),Zl];simp only[behind,if_true,ZP]
    .cases h
  .simp only[if_true] at h;rw[X6,JM,Oj,Yd,List.nil_append,YR,if_neg (by rw[Oa];exact Vi (Me hw).1)];cases ha:YY (bw w) Jy 0 with
   |none=>rw[ha] at h;cases h
   |some k=>rw[ha] at h;simp only[ZP,Zz] at h ⊢;rw[h]
def NZ(x:List UInt8):Prop:=x=[40]\/x=[41]\/UI x
theorem Mv{x:ByteArray}{ws r:List ByteArray}(h:behind x ws=U r):ws=x::r:=by
 cases ws with
 |nil=>cases h
 |cons y q=>
  rw[behind] at h;split at h
  .rename_i e;rw[e,Zh h]
  .cases h
theorem K0{ws:List (List UInt8)}{x:ByteArray}{r:List ByteArray}(h:Xy ws=x::r):∃w ws',ws=w::ws'/\bw w=x/\Xy ws'=r:=by
 cases ws with
 |nil=>cases h
 |cons w ws'=>rw[JM] at h;obtain⟨a,b⟩:=List.cons.inj h;exact⟨w,ws',rfl,a,b⟩
theorem N8:∀(n:Nat)(ws:List (List UInt8))(t:Ty)(rest:List ByteArray),(∀x,x∈ws->NZ x)->YR n (Xy ws)=U (t,rest)->∃(x:Tn)(ws':List (List UInt8)),x.nice/\ws=x.flat++ws'/\Xy ws'=rest/\Y5 n x=U t
 |0,_,_,_,_,h=>by simp[YR] at h
 |n+1,[],_,_,_,h=>by simp[YR,Xy] at h
 |n+1,x::r,t,rest,hk,h=>by
  rw[JM,YR] at h;have hr:∀y,y∈r->NZ y:=fun y hy=>hk y (Zj _ hy);split at h
  .rename_i hx;obtain rfl:x=[40]:=No hx;obtain⟨r1,h1,g1⟩:=Zd.1 h;obtain⟨w1,ws1,rfl,e1,rfl⟩:=K0 (Mv h1);obtain rfl:w1=[116,111]:=No e1;obtain⟨p,hp,g2⟩:=Zd.1 g1;obtain⟨q,hq,g3⟩:=Zd.1 g2;obtain⟨r4,h4,he⟩:=Y.1 g3;obtain⟨rfl,rfl⟩:=ZE he;obtain⟨b,ws2,hb,rfl,e2,hb'⟩:=N8 n ws1 p.1 p.2 (fun y hy=>hr y (Zj _ hy)) hp;rw[<-e2] at hq;obtain⟨c,ws3,hc,rfl,e3,hc'⟩:=N8 n ws2 q.1 q.2 (fun y hy=>hr y (by simp[hy])) hq;rw[<-e3] at h4;obtain⟨w4,ws4,rfl,e4,rfl⟩:=K0 (Mv h4);obtain rfl:w4=[41]:=No e4;refine⟨⟨[],[⟨[116,111],[],Za⟩,b,c],Ze⟩,ws4,Ob.2 fun y hy=>?_,?_,rfl,?_⟩
   .simp only[ZA,Ye,or_false] at hy;rcases hy with rfl|rfl|rfl
    .exact Ll.2 ⟨by simp,by decide⟩
    .exact hb
    .exact hc
   .rw[X7];simp[YN,JL,X6]
   .rw[Y5];simp[hb',hc']
  .rename_i hx;obtain⟨k,hk',he⟩:=Y.1 h;obtain⟨rfl,rfl⟩:=ZE he;have hp:UI x:=by
    rcases hk x Zs with rfl|rfl|h
    .exact absurd rfl hx
    .exfalso;have:YY (bw [41]) Jy 0=G:=by decide
     rw[this] at hk';cases hk'
    .exact h
   refine⟨⟨x,[],Za⟩,r,Ll.2 hp,by rw[X6];rfl,rfl,?_⟩;rw[Y5];simp[hk']
theorem Vn{f:Tn->Option Tm}{g:List ByteArray->Option (Tm×List ByteArray)}:∀(l:List Tn)(ts:List Tm)(rest:List ByteArray),(∀x,x∈l->∀t rest,f x=U t->g (Xy x.flat++rest)=U (t,rest))->KJ f l=U ts->Uh g l.length (Xy (Xh l)++rest)=U (ts,rest)
 |[],ts,rest,_,h=>by simp only[KJ,Zz] at h;subst h;rfl
 |x::l,ts,rest,hf,h=>by rw[KJ] at h;obtain⟨t,ht,h⟩:=Zd.1 h;obtain⟨us,hu,rfl⟩:=Y.1 h;rw[YN,NO,ZJ,Zn,Uh,hf x Zs t _ ht,Zl];simp only;rw[Vn l us rest (fun y hy=>hf y (Zj _ hy)) hu];rfl
theorem Q8{f:Tn->Option Tm}{g:List ByteArray->Option (Tm×List ByteArray)}(hfg:∀(ws:List (List UInt8))(t:Tm)(rest:List ByteArray),(∀x,x∈ws->NZ x)->g (Xy ws)=U (t,rest)->LD t->∃(x:Tn)(ws':List (List UInt8)),x.nice/\ws=x.flat++ws'/\Xy ws'=rest/\f x=U t):
  ∀(m:Nat)(ws:List (List UInt8))(ts:List Tm)(rest:List ByteArray),(∀x,x∈ws->NZ x)->Uh g m (Xy ws)=U (ts,rest)->(∀t,t∈ts->LD t)->∃(l:List Tn)(ws':List (List UInt8)),(∀x,x∈l->x.nice)/\l.length=m/\ws=Xh l++ws'/\Xy ws'=rest/\KJ f l=U ts
 |0,ws,ts,rest,_,h,_=>by simp only[Uh,Zz,Prod.mk.injEq] at h;obtain⟨rfl,rfl⟩:=h;exact⟨[],ws,(fun x h=>by cases h),rfl,rfl,rfl,rfl⟩
 |m+1,ws,ts,rest,hk,h,hs=>by
  rw[Uh] at h;obtain⟨p,hp,h⟩:=Zd.1 h;obtain⟨q,hq,he⟩:=Y.1 h;obtain⟨rfl,rfl⟩:=ZE he;obtain⟨x,ws1,hx,rfl,e1,hf⟩:=hfg ws p.1 p.2 hk hp (hs _ Zs);rw[<-e1] at hq;obtain⟨l,ws2,hl,hlen,rfl,e2,ha⟩:=Q8 hfg m ws1 q.1 q.2 (fun y hy=>hk y (by simp[hy])) hq (fun t ht=>hs t (Zj _ ht));refine⟨x::l,ws2,fun y hy=>?_,by simp[hlen],by rw[YN,ZJ],e2,?_⟩
  .rcases ZA.1 hy with rfl|hy
   .exact hx
   .exact hl y hy
  .rw[KJ,hf,Zl,ha];rfl
theorem Rg{x:ByteArray}{k:Nat}(h:X2 x=U k):x≠M0/\x≠QK:=by
 constructor
 .rintro rfl;rw[show X2 M0=G by decide] at h;cases h
 .rintro rfl;rw[show X2 QK=G by decide] at h;cases h
theorem Q4(n:Nat)(x:ByteArray)(r:List ByteArray)(h:x≠M0):YO (n+1) (x::r)=YQ x r:=by cases r<;>rw[YO,if_neg h]
theorem VW(n:Nat):YO (n+1) [M0]=G:=by rw[YO,if_pos rfl]
theorem PF(n:Nat)(y:ByteArray)(r:List ByteArray):YO (n+1) (M0::y::r)=(X2 y).bind fun k=>(UK n k r).bind fun p=>(Uh (YO n) (Yu (k:Int)) p.2).bind fun q=>(behind QK q.2).map fun r4=>(⟨(k:Int),0,p.1,Yk,q.1⟩,r4):=by rw[YO,if_pos rfl]
theorem QU:∀(m:Nat)(x:Tn)(t:Tm),x.nice->YV m x=U t->∀(n:Nat)(rest:List ByteArray),x.flat.length<=n->YO n (Xy x.flat++rest)=U (t,rest)
 |0,_,_,_,h,_,_,_=>by simp[YV] at h
 |m+1,x,t,hx,h,0,rest,hn=>by have:=Uc x;omega
 |m+1,x,t,hx,h,n+1,rest,hn=>by
  rw[YV] at h;rcases Oc hx with⟨l,rfl,hl⟩|⟨w,rfl,hw⟩
  .simp only[ZT,if_false] at h;match l,h with
   |y::r,h=>
    simp only at h;split at h
    .cases h
    .rename_i hy;obtain⟨k,hk,h⟩:=Zd.1 h;obtain⟨p,hp,h⟩:=Zd.1 h;split at h
     .rename_i hlen;obtain⟨ts,hts,rfl⟩:=Y.1 h;have ey:y.flat=[y.w]:=by
       obtain⟨j,i,d⟩:=y;cases d
       .exact X6 _ _
       .exact absurd rfl hy
      rw[X7] at hn ⊢;simp only[YN,Zn,Zo,Zg,ey] at hn ⊢;have e:Xy ([40]::([y.w]++Xh r++[[41]]))++rest=M0::bw y.w::(Xy (Xh r)++(QK::rest)):=by simp[Xy,Oa,DR]
      rw[e,PF,hk,Zl];have b:UK n k (Xy (Xh r)++(QK::rest))=U (p.1,Xy (Xh p.2)++(QK::rest))/\(∀z,z∈p.2->z∈r):=by
       rw[UK];by_cases ht:XV (k:Int)=Ze
       .rw[if_pos ht];cases r with
        |nil=>rw[Of _ _ ht] at hp;cases hp
        |cons z r=>rw[MJ _ _ _ _ ht] at hp;obtain⟨q,c,rfl⟩:=Y.1 hp;refine⟨?_,fun z hz=>Zj _ hz⟩;rw[YN,NO,ZJ];have:=Xm (x:=z) (l:=z::r) Zs;exact Oe m z q (hl z (by simp)) c n _ (by omega)
       .rw[if_neg ht];rw[NK _ _ _ ht] at hp;obtain rfl:=Zh hp;exact⟨rfl,fun z hz=>hz⟩
      rw[b.1,Zl];simp only;rw[<-hlen,Vn (f:=YV m) (g:=YO n) p.2 ts (QK::rest) (fun z hz u a hu=>QU m z u (hl z (by simp[b.2 z hz])) hu n a (by have:=Xm (b.2 z hz);omega)) hts,Zl]
      simp[behind]
     .cases h
  .simp only[if_true] at h;rw[X6,JM,Oj,Yd,List.nil_append,Q4 _ _ _ (by rw[Oa];exact Vi (Me hw).1)];exact Az h rest
theorem EM:Ui (bw [41])=G:=by decide
theorem Q3:∀(n:Nat)(ws:List (List UInt8))(t:Tm)(rest:List ByteArray),(∀x,x∈ws->NZ x)->YO n (Xy ws)=U (t,rest)->LD t->∃(x:Tn)(ws':List (List UInt8)),x.nice/\ws=x.flat++ws'/\Xy ws'=rest/\YV n x=U t
 |0,_,_,_,_,h,_=>by simp[YO] at h
 |n+1,[],_,_,_,h,_=>by simp[YO,Xy] at h
 |n+1,x::r,t,rest,hk,h,hs=>by
  rw[JM] at h;have hr:∀y,y∈r->NZ y:=fun y hy=>hk y (Zj _ hy);by_cases hx:bw x=M0
  .obtain rfl:x=[40]:=No hx;cases r with
   |nil=>rw[Oj,<-Oa,VW] at h;cases h
   |cons y r=>
    rw[JM,<-Oa,PF] at h;obtain⟨k,hk',g1⟩:=Zd.1 h;obtain⟨p,hp,g2⟩:=Zd.1 g1;obtain⟨q,hq,g3⟩:=Zd.1 g2;obtain⟨r4,h4,he⟩:=Y.1 g3;obtain⟨rfl,rfl⟩:=ZE he;have hy:UI y:=by
     rcases hr y Zs with rfl|rfl|h
     .exact absurd rfl (Rg hk').1
     .exact absurd rfl (Rg hk').2
     .exact h
    have i:∀z,z∈r->NZ z:=fun z hz=>hr z (Zj _ hz);obtain⟨hd,d,w,g,e1,hT⟩:∃(hd:List Tn)(d:List (List UInt8)),(∀z,z∈hd->z.nice)/\r=Xh hd++d/\Xy d=p.2/\∀l,U4 n k (hd++l)=U (p.1,l):=by
     rw[UK] at hp;by_cases ht:XV (k:Int)=Ze
     .rw[if_pos ht] at hp;obtain⟨z,d,hz,e,e1,a0⟩:=N8 n r p.1 p.2 i hp;refine⟨[z],d,fun y hy=>?_,by rw[YN,JL,ZB];exact e,e1,fun l=>?_⟩
      .obtain rfl:y=z:=by simpa using hy
       exact hz
      .rw[List.singleton_append,MJ _ _ _ _ ht,a0];rfl
     .rw[if_neg ht] at hp;obtain rfl:=Zh hp;exact⟨[],r,(fun z h=>by cases h),rfl,rfl,fun l=>by rw[List.nil_append,NK _ _ _ ht]⟩
    rw[<-e1] at hq;obtain⟨l,a1,hl,j,o,e2,ha⟩:=Q8 (f:=YV n) (fun ws t rest a b c=>Q3 n ws t rest a b c) _ d q.1 q.2 (fun z hz=>i z (by rw[g];simp[hz])) hq (MD.1 hs).2;rw[<-e2] at h4;obtain⟨w4,m,rfl,e4,rfl⟩:=K0 (Mv h4);obtain rfl:w4=[41]:=No e4;refine⟨⟨[],⟨y,[],Za⟩::(hd++l),Ze⟩,m,Ob.2 fun z hz=>?_,?_,rfl,?_⟩
    .rcases ZA.1 hz with rfl|hz
     .exact Ll.2 hy
     .rcases ZI.1 hz with h|h
      .exact w z h
      .exact hl z h
    .rw[X7,YN,X6,g,o];simp[Xh]
    .rw[YV];simp[hk',hT,j,ha]
  .rw[Q4 _ _ _ hx] at h;obtain⟨u,rfl⟩:=Bb h hs;have hp:UI x:=by
    rcases hk x Zs with rfl|rfl|h'
    .exact absurd rfl hx
    .exfalso;rw[K9 [41] (by decide) (by simp),LZ,EM] at u;cases u
    .exact h'
   refine⟨⟨x,[],Za⟩,r,Ll.2 hp,by rw[X6];rfl,rfl,?_⟩;rw[YV];simp[u]
theorem Nr{f g:Tn->Option Tm}:∀l:List Tn,(∀x,x∈l->f x=g x)->KJ f l=KJ g l
 |[],_=>rfl
 |x::l,h=>by rw[KJ,KJ,h x Zs,Nr l fun y hy=>h y (Zj _ hy)]
theorem PY:∀(n m:Nat)(x:Tn),x.flat.length<=n->x.flat.length<=m->Y5 n x=Y5 m x
 |0,_,x,h,_=>by have:=Uc x;omega
 |n+1,0,x,_,h=>by have:=Uc x;omega
 |n+1,m+1,⟨w,l,o⟩,hn,hm=>by
  rw[Y5,Y5];cases o
  .rfl
  .rw[X7] at hn hm;simp only[Zn,Zo,Zg] at hn hm;have hh:∀z,z∈l->Y5 n z=Y5 m z:=fun z hz=>by have:=Xm hz;exact PY n m z (by omega) (by omega)
   simp only[ZT,if_false];match l,hh with
   |[],_=>rfl
   |[a],_=>rfl
   |[a,b],_=>rfl
   |[a,b,c],hh=>simp only[hh b (by simp),hh c (by simp)]
   |a::b::c::d::r,_=>rfl
theorem Pq:∀(n m:Nat)(x:Tn),x.flat.length<=n->x.flat.length<=m->YV n x=YV m x
 |0,_,x,h,_=>by have:=Uc x;omega
 |n+1,0,x,_,h=>by have:=Uc x;omega
 |n+1,m+1,⟨w,l,o⟩,hn,hm=>by
  rw[YV,YV];cases o
  .rfl
  .rw[X7] at hn hm;simp only[Zn,Zo,Zg] at hn hm;simp only[ZT,if_false];cases l with
   |nil=>rfl
   |cons y r=>
    simp only;split
    .rfl
    .cases X2 (bw y.w) with
     |none=>rfl
     |some k=>
      simp only[Zl];have e:U4 n k r=U4 m k r:=by
       unfold U4;split
       .cases r with
        |nil=>rfl
        |cons z r=>have:=Xm (x:=z) (l:=y::z::r) (by simp);simp only[PY n m z (by omega) (by omega)]
       .rfl
      rw[e];cases hp:U4 m k r with
      |none=>rfl
      |some p=>
       have a:∀z,z∈p.2->z∈r:=by
        unfold U4 at hp;split at hp
        .cases r with
         |nil=>cases hp
         |cons z r=>obtain⟨q,_,rfl⟩:=Y.1 hp;exact fun z hz=>Zj _ hz
        .obtain rfl:=Zh hp;exact fun z hz=>hz
       simp only[Zl];rw[Nr p.2 fun z hz=>by have:=Xm (x:=z) (l:=y::r) (Zj _ (a z hz));exact Pq n m z (by omega) (by omega)]
def J9(T:Option Ty)(w:Zq)(e:Ending)(w':Zq):Prop:=∃(t:Tr)(b:Bool),e=Zc (Zp #[Zu #[O I t.k,F t.a t.l.length t.c],.bool b])/\Zm (b=T.isSome/\(∀i,T=U i->t.ty=i)/\t.In w'/\t.Bl (w.heap.size<=·)/\Zv w.heap.size w w')
structure KB(x:Nd)(w:Zq)(W:Zq):Prop where
 low:Zv w.heap.size w W
 b0:W.cell? ⟨w.heap.size,0,G⟩=U (.string x.w)
 b1:W.cell? ⟨w.heap.size,1,G⟩=U (F x.a x.l.length x.c)
 b2:W.cell? ⟨w.heap.size,2,G⟩=U (.bool x.o)
 r0:W.cell? ⟨w.heap.size+1,0,G⟩=U (O I 0)
 r1:W.cell? ⟨w.heap.size+1,1,G⟩=U (F G 0 0)
 f0:W.frozen? ⟨w.heap.size+1,0,G⟩=Za
 f1:W.frozen? ⟨w.heap.size+1,1,G⟩=Za
theorem KB.lt{x:Nd}{w W:Zq}(h:KB x w W):w.heap.size+1<W.heap.size:=ZU _ _ h.r0
theorem KB.below{x:Nd}{w W V:Zq}(h:KB x w W)(a:Zv W.heap.size W V):KB x w V:=by have d:=h.lt;have c:∀b i,b<=w.heap.size+1->V.cell? ⟨b,i,G⟩=W.cell? ⟨b,i,G⟩:=fun b i h=>a.cell (p:=⟨b,i,G⟩) (show b<_ by omega);have f:∀b i,b<=w.heap.size+1->V.frozen? ⟨b,i,G⟩=W.frozen? ⟨b,i,G⟩:=fun b i h=>a.frozen (p:=⟨b,i,G⟩) (show b<_ by omega);exact⟨h.low.trans (a.mono h.low.size),(c _ _ (by omega)).trans h.b0,(c _ _ (by omega)).trans h.b1,(c _ _ (by omega)).trans h.b2,(c _ _ (by omega)).trans h.r0,(c _ _ (by omega)).trans h.r1,(f _ _ (by omega)).trans h.f0,(f _ _ (by omega)).trans h.f1⟩
theorem KB.start(x:Nd)(w:Zq):KB x w ((w.alloc (Zt #[.string x.w,F x.a x.l.length x.c,.bool x.o] 111)).alloc (Zt #[O I 0,F G 0 0] 24)):=by
 constructor
 .exact((Zf _ _).alloc (Zk _) _).alloc (by simp) _
 all_goals simp[go_sem]
theorem C8{T:Option Ty}{t:Tr}{x:Nd}{w wr:Zq}{b:Bool}(h:KB x w wr)(c:b=T.isSome)(j:∀i,T=U i->t.ty=i)(d:t.In wr)(a:t.Bl (fun b=>w.heap.size<=b/\b≠w.heap.size+1)):
  J9 T w (Zc (Zp #[Zu #[O I t.k,F t.a t.l.length t.c],.bool b])) ((wr.setCell ⟨w.heap.size+1,0,G⟩ (O I t.k)).setCell ⟨w.heap.size+1,1,G⟩ (F t.a t.l.length t.c))/\
  ((wr.setCell ⟨w.heap.size+1,0,G⟩ (O I t.k)).setCell ⟨w.heap.size+1,1,G⟩ (F t.a t.l.length t.c)).cell? ⟨w.heap.size+1,0,G⟩=U (O I t.k)/\
  ((wr.setCell ⟨w.heap.size+1,0,G⟩ (O I t.k)).setCell ⟨w.heap.size+1,1,G⟩ (F t.a t.l.length t.c)).cell? ⟨w.heap.size+1,1,G⟩=U (F t.a t.l.length t.c):=by
 have e:=XJ (u:=O I t.k) (v:=t.s) h.r0 h.r1;have g:=X4 (ib:=w.heap.size+1) (io:=0) (u:=O I t.k) (v:=t.s) d (a.mono fun b c=>c.2);simp only[Zr] at e g;exact⟨⟨t,b,rfl,c,j,g,a.mono fun b c=>c.1,(h.low.setCell (by simp) _).setCell (by simp) _⟩,e.1,e.2⟩
theorem LN{T:Option Ty}{z:Int}{x:Nd}{w wr:Zq}{b:Bool}(h:KB x w wr)(hb:b=T.isSome)(ht:∀i,T=U i->Ty.mk z []=i):
  J9 T w (Zc (Zp #[Zu #[O I z,F G 0 0],.bool b])) ((wr.setCell ⟨w.heap.size+1,0,G⟩ (O I z)).setCell ⟨w.heap.size+1,1,G⟩ (F G 0 0))/\
  ((wr.setCell ⟨w.heap.size+1,0,G⟩ (O I z)).setCell ⟨w.heap.size+1,1,G⟩ (F G 0 0)).cell? ⟨w.heap.size+1,0,G⟩=U (O I z)/\
  ((wr.setCell ⟨w.heap.size+1,0,G⟩ (O I z)).setCell ⟨w.heap.size+1,1,G⟩ (F G 0 0)).cell? ⟨w.heap.size+1,1,G⟩=U (F G 0 0):=
 C8 (t:=Ys z) h hb (fun i hi=>(XL z).trans (ht i hi)) (YC z wr) (YF z _)
theorem Wi(n:Nat)(x:Nd)(h:x.o=Za):Y5 (n+1) x.tn=(YY x.w Jy 0).map fun (k:Nat)=>Ty.mk (k:Int) []:=by rw[Y5,Nd.nf,if_pos h,Nd.pk];rfl
theorem Bv(n:Nat)(x:Nd)(w:Zq)(ho:x.o=Za):Zy Zb 104 #[Zu #[.string x.w,F x.a x.l.length x.c,.bool x.o]] w (J9 (Y5 (n+1) x.tn) w):=by
 rw[Wi n x ho];obtain⟨b0,h0⟩:∃b,(x.w.toList==(⟨#[97,110,121]⟩:ByteArray).toList)=b:=⟨_,rfl⟩
 obtain⟨b1,h1⟩:∃b,(x.w.toList==(⟨#[110,117,109]⟩:ByteArray).toList)=b:=⟨_,rfl⟩
 obtain⟨b2,h2⟩:∃b,(x.w.toList==(⟨#[116,114,117,116,104]⟩:ByteArray).toList)=b:=⟨_,rfl⟩
 have H0:=Yy h0;have k0:(x.w.toList==[97,110,121])=b0:=by rw[<-h0,Lib.toList_data ⟨#[97,110,121]⟩]
 have H1:=Yy h1;have k1:(x.w.toList==[110,117,109])=b1:=by rw[<-h1,Lib.toList_data ⟨#[110,117,109]⟩]
 have H2:=Yy h2;have k2:(x.w.toList==[116,114,117,116,104])=b2:=by rw[<-h2,Lib.toList_data ⟨#[116,114,117,116,104]⟩]
 have c:Zm (YY x.w Jy 0=if b0=Ze then U 0 else if b1=Ze then U 1 else if b2=Ze then U 2 else G):=by
  have e:∀(y:ByteArray)(b:Bool),(x.w.toList==y.toList)=b->((y=x.w)↔b=Ze):=fun y b h=>by
   rw[<-h];constructor
   .rintro rfl;simp
   .intro h';exact((Lib.bytes_beq_iff _ _).1 h').symm
  show _=_
  simp only[Jy,YY,e _ _ h0,e _ _ h1,e _ _ h2]
 clear h0 h1 h2 H0 H1 H2;obtain⟨W1,r⟩:∃W,W=(w.alloc (Zt #[.string x.w,F x.a x.l.length x.c,.bool x.o] 111)).alloc (Zt #[O I 0,F G 0 0] 24):=⟨_,rfl⟩
 have HK:Zm (KB x w W1):=by rw[r];exact KB.start x w
 obtain⟨T,hT⟩:∃T,YY x.w Jy 0=T:=⟨_,rfl⟩
 rw[hT] at c ⊢;clear hT;obtain⟨q,p⟩:∃W,W=W1.alloc (Zt #[.string ⟨#[97,110,121]⟩,.string ⟨#[110,117,109]⟩,.string ⟨#[116,114,117,116,104]⟩] 9):=⟨_,rfl⟩
 have a3:bL W1 q:=by rw[p];exact(Zf _ _).alloc (Zk _) _
 have a:=Yy (HK.out.below a3);have g0:q.cell? ⟨W1.heap.size,0,G⟩=U (.string ⟨#[97,110,121]⟩):=by rw[p];simp
 have g1:q.cell? ⟨W1.heap.size,1,G⟩=U (.string ⟨#[110,117,109]⟩):=by rw[p];simp
 have g2:q.cell? ⟨W1.heap.size,2,G⟩=U (.string ⟨#[116,114,117,116,104]⟩):=by rw[p];simp
 obtain⟨p0,p1,p2⟩:cL q w.heap.size 0 (.string x.w)/\q.frozen? ⟨w.heap.size+1,0,G⟩=Za/\q.frozen? ⟨w.heap.size+1,1,G⟩=Za:=⟨a.out.b0,a.out.f0,a.out.f1⟩
 obtain⟨q0,q1⟩:cL q (w.heap.size+1) 0 (O I 0)/\cL q (w.heap.size+1) 1 (F G 0 0):=⟨a.out.r0,a.out.r1⟩
 have a4:=HK.out.b2;rw[ho] at a4;clear a3 ho HK;go_enter Z4,Z1;go_upto_region 1 with fail;rw[<-r];clear r;go_upto_region 3 with fail;rw[<-p];clear p;go_loopg [15] 3 (fun g i wr=>∃j:Nat,g+j=3/\i=O I (j:Int)/\wr=q/\Zm ((1<=j->b0=Za)/\(2<=j->b1=Za)/\(3<=j->b2=Za)))
 case atStart=>exact⟨0,rfl,rfl,rfl,fun h=>absurd h (by omega),fun h=>absurd h (by omega),fun h=>absurd h (by omega)⟩
 case round=>
  obtain⟨j,hj,rfl,rfl,u⟩:=hrel;obtain rfl|rfl|rfl|rfl:j=0\/j=1\/j=2\/j=3:=by omega
  .cases b0
   .clear c a;go_wp2_with fail;go_roundg 2
    case measure=>omega
    case rel=>exact⟨1,rfl,rfl,rfl,fun _=>trivial,fun h=>absurd h (by omega),fun h=>absurd h (by omega)⟩
   .obtain⟨d,m,l⟩:=LN (T:=T.map fun (k:Nat)=>Ty.mk (k:Int) []) (z:=0) (b:=Ze) a.out (by rw[c.out];rfl) (fun i hi=>by rw[c.out] at hi;exact Zh hi);have o:=Yy d;clear c a d;go_wp2_with fail;refine Zi (v:=Zp #[Zu #[O I 0,F G 0 0],.bool Ze]) ?_ rfl o.out;simp[results,ZC,go_sem,m,l]
  .obtain rfl:=u.out.1 (by omega);cases b1
   .clear c a;go_wp2_with fail;go_roundg 1
    case measure=>omega
    case rel=>exact⟨2,rfl,rfl,rfl,fun _=>trivial,fun _=>trivial,fun h=>absurd h (by omega)⟩
   .obtain⟨d,m,l⟩:=LN (T:=T.map fun (k:Nat)=>Ty.mk (k:Int) []) (z:=1) (b:=Ze) a.out (by rw[c.out];rfl) (fun i hi=>by rw[c.out] at hi;exact Zh hi);have o:=Yy d;clear c a d;go_wp2_with fail;refine Zi (v:=Zp #[Zu #[O I 1,F G 0 0],.bool Ze]) ?_ rfl o.out;simp[results,ZC,go_sem,m,l]
  .obtain rfl:=u.out.1 (by omega);obtain rfl:=u.out.2.1 (by omega);cases b2
   .clear c a;go_wp2_with fail;go_roundg 0
    case measure=>omega
    case rel=>exact⟨3,rfl,rfl,rfl,fun _=>trivial,fun _=>trivial,fun _=>trivial⟩
   .obtain⟨d,m,l⟩:=LN (T:=T.map fun (k:Nat)=>Ty.mk (k:Int) []) (z:=2) (b:=Ze) a.out (by rw[c.out];rfl) (fun i hi=>by rw[c.out] at hi;exact Zh hi);have o:=Yy d;clear c a d;go_wp2_with fail;refine Zi (v:=Zp #[Zu #[O I 2,F G 0 0],.bool Ze]) ?_ rfl o.out;simp[results,ZC,go_sem,m,l]
  .obtain rfl:=u.out.1 (by omega);obtain rfl:=u.out.2.1 (by omega);obtain rfl:=u.out.2.2 (by omega);have a1:Zm (∀V,bL wr V->J9 (T.map fun (k:Nat)=>Ty.mk (k:Int) []) w (Zc (Zp #[Zu #[O I 0,F G 0 0],.bool Za])) ((V.setCell ⟨w.heap.size+1,0,G⟩ (O I 0)).setCell ⟨w.heap.size+1,1,G⟩ (F G 0 0))/\ cL ((V.setCell ⟨w.heap.size+1,0,G⟩ (O I 0)).setCell ⟨w.heap.size+1,1,G⟩ (F G 0 0)) (w.heap.size+1) 0 (O I 0)/\ cL ((V.setCell ⟨w.heap.size+1,0,G⟩ (O I 0)).setCell ⟨w.heap.size+1,1,G⟩ (F G 0 0)) (w.heap.size+1) 1 (F G 0 0)):=fun V hV=>LN (T:=T.map fun (k:Nat)=>Ty.mk (k:Int) []) (z:=0) (b:=Za) (a.out.below hV) (by rw[c.out];rfl) (fun i hi=>by rw[c.out] at hi;cases hi)
   have HV:Zm (KB x w (wr.alloc (Zt #[O I 0,F G 0 0] 24))):=a.out.below ((Zf _ _).alloc (Zk _) _);clear c a;obtain⟨V,hV⟩:∃V,V=wr.alloc (Zt #[O I 0,F G 0 0] 24):=⟨_,rfl⟩
   have a2:Zm (bL wr V):=by rw[hV];exact(Zf _ _).alloc (Zk _) _
   rw[<-hV] at HV;have s0:=HV.out.f0;have s1:=HV.out.f1;have s2:=HV.out.r0;have s3:=HV.out.r1;go_wp2_with fail;refine(Ue _).mono ?_;rintro e w3 ⟨rfl,a0⟩;rw[a0,<-hV];obtain⟨d,m,l⟩:=a1.out V a2.out;have o:=Yy d;clear hV a0 w3 HV a1 a2 d;go_wp2_with fail;refine Zi (v:=Zp #[Zu #[O I 0,F G 0 0],.bool Za]) ?_ rfl o.out;simp[results,ZC,go_sem,m,l]
theorem Ak(t:Tn)(h:t.o=Ze):t.flat=[40]::(Xh t.l++[[41]]):=by obtain⟨w,l,o⟩:=t;obtain rfl:o=Ze:=h;exact X7 w l
theorem Bx(n:Nat)(x:Nd)(d:x.o=Ze)(e:x.l.length≠3):Y5 (n+1) x.tn=G:=by
 rw[Y5,Nd.nf,if_neg (by rw[d];simp),Nd.oe];split
 .rename_i a b c h;have:=congrArg List.length h;simp at this;omega
 .rfl
theorem Tw(n:Nat)(x A B C:Nd)(b:x.o=Ze)(a:x.l=[A,B,C]):Y5 (n+1) x.tn=if A.o=Za/\A.w.data.toList=[116,111] then (Y5 n B.tn).bind fun p=>(Y5 n C.tn).map fun q=>⟨3,[p,q]⟩ else G:=by rw[Y5,Nd.nf,if_neg (by rw[b];simp),Nd.oe,a];simp only[ZO,List.map_nil,Nd.nf,Nd.pk]
theorem Bw(n:Nat)(x:Nd)(w:Zq)(hx:x.In w)(ho:x.o=Ze)
  (ih:Zm (∀(y:Nd)(W:Zq),y∈x.l->y.In W->Zy Zb 104 #[Zu #[.string y.w,F y.a y.l.length y.c,.bool y.o]] W (J9 (Y5 n y.tn) W))) :
  Zy Zb 104 #[Zu #[.string x.w,F x.a x.l.length x.c,.bool x.o]] w (J9 (Y5 (n+1) x.tn) w):=by
 obtain⟨W1,k⟩:∃W,W=(w.alloc (Zt #[.string x.w,F x.a x.l.length x.c,.bool x.o] 111)).alloc (Zt #[O I 0,F G 0 0] 24):=⟨_,rfl⟩
 have c:Zm (KB x w W1):=by rw[k];exact KB.start x w
 by_cases hl:x.l.length=3
 .obtain⟨A,B,C,hABC⟩:∃A B C,x.l=[A,B,C]:=by
   match h:x.l,hl with
   |[A,B,C],_=>exact⟨A,B,C,rfl⟩
  have ae:(((x.l.length:Nat):Int) != 3)=Za:=by rw[hl];rfl
  obtain⟨b,f,ea,e0,e1,e2,ax⟩:=hx.part 0 (by omega);clear ax;obtain⟨b',f',am,e3,e4,e5,hB⟩:=hx.part 1 (by omega);obtain⟨aw,ay,ad,e6,e7,e8,hC⟩:=hx.part 2 (by omega);obtain⟨rfl,rfl⟩:b=b'/\f=f':=by rw[ea] at am;simpa using am
  obtain⟨rfl,rfl⟩:b=aw/\f=ay:=by rw[ea] at ad;simpa using ad
  have HM:Zm (A∈x.l/\B∈x.l/\C∈x.l):=by show _/\_;rw[hABC];simp
  simp only[hABC,ZD,List.getElem_cons_succ,Yg,Yh,Nat.one_mul,Nat.reduceMul] at e0 e1 e2 e3 e4 e5 e6 e7 e8 hB hC;have a6:=Tw n x A B C ho hABC;have a8:=Uy hB hC;clear hB hC am ad;have HX:Zm (∀V,Zv W1.heap.size W1 V->(V.cell? ⟨b,f,G⟩=U (.string A.w)/\V.cell? ⟨b,f+2,G⟩=U (.bool A.o))/\(V.cell? ⟨b,f+3,G⟩=U (.string B.w)/\V.cell? ⟨b,f+3+1,G⟩=U (F B.a B.l.length B.c)/\V.cell? ⟨b,f+3+2,G⟩=U (.bool B.o))/\(V.cell? ⟨b,f+6,G⟩=U (.string C.w)/\V.cell? ⟨b,f+6+1,G⟩=U (F C.a C.l.length C.c)/\V.cell? ⟨b,f+6+2,G⟩=U (.bool C.o))):=fun V j=>by have hb:=c.out.low.trans (j.mono c.out.low.size);exact⟨⟨Zw hb e0,Zw hb e2⟩,⟨Zw hb e3,Zw hb e4,Zw hb e5⟩,Zw hb e6,Zw hb e7,Zw hb e8⟩
  clear e0 e1 e2 e3 e4 e5 e6 e7 e8;obtain⟨a0,a2⟩:=(HX.out W1 (Zf _ _)).1;by_cases hA:A.o=Ze
  .have HT:Zm (Y5 (n+1) x.tn=G):=by
    show _=_
    rw[a6,if_neg (by rw[hA];simp)]
   rw[hA] at a2;clear a6 hA hx hABC HM a8 ih HX;have d:Zm (∀V,bL W1 V->J9 (Y5 (n+1) x.tn) w (Zc (Zp #[Zu #[O I 0,F G 0 0],.bool Za])) ((V.setCell ⟨w.heap.size+1,0,G⟩ (O I 0)).setCell ⟨w.heap.size+1,1,G⟩ (F G 0 0))/\ cL ((V.setCell ⟨w.heap.size+1,0,G⟩ (O I 0)).setCell ⟨w.heap.size+1,1,G⟩ (F G 0 0)) (w.heap.size+1) 0 (O I 0)/\ cL ((V.setCell ⟨w.heap.size+1,0,G⟩ (O I 0)).setCell ⟨w.heap.size+1,1,G⟩ (F G 0 0)) (w.heap.size+1) 1 (F G 0 0)):=fun V j=>LN (T:=Y5 (n+1) x.tn) (z:=0) (b:=Za) (c.out.below j) (by rw[HT.out];rfl) (fun i hi=>by rw[HT.out] at hi;cases hi)
   obtain⟨V,j⟩:∃V,V=W1.alloc (Zt #[O I 0,F G 0 0] 24):=⟨_,rfl⟩
   have a:Zm (bL W1 V):=by rw[j];exact(Zf _ _).alloc (Zk _) _
   obtain⟨s0,s1,s2,s3⟩:V.frozen? ⟨w.heap.size+1,0,G⟩=Za/\V.frozen? ⟨w.heap.size+1,1,G⟩=Za/\cL V (w.heap.size+1) 0 (O I 0)/\cL V (w.heap.size+1) 1 (F G 0 0):=⟨(c.out.below a.out).f0,(c.out.below a.out).f1,(c.out.below a.out).r0,(c.out.below a.out).r1⟩
   obtain⟨p1,p2⟩:W1.cell? ⟨w.heap.size,1,G⟩=U (F x.a x.l.length x.c)/\W1.cell? ⟨w.heap.size,2,G⟩=U (.bool x.o):=⟨c.out.b1,c.out.b2⟩
   rw[ho] at p2;rw[ea,hl] at p1;clear ea hl ae;clear c HT ho;go_enter Z4,Z1;go_upto_region 1 with fail;rw[<-k];clear k;go_wp2_with fail;refine(Ue _).mono ?_;rintro e w3 ⟨rfl,o⟩;rw[o,<-j];obtain⟨u,m,l⟩:=d.out V a.out;have aa:=Yy u;clear j o w3 d a u;go_wp2_with fail;refine Zi (v:=Zp #[Zu #[O I 0,F G 0 0],.bool Za]) ?_ rfl aa.out;simp[results,ZC,go_sem,m,l]
  .have hAo:A.o=Za:=by simpa using hA
   rw[hAo] at a2;obtain⟨bt,ao⟩:∃bt,(A.w.toList==(⟨#[116,111]⟩:ByteArray).toList)=bt:=⟨_,rfl⟩
   have al:(A.w.toList==[116,111])=bt:=by rw[<-ao,Lib.toList_data ⟨#[116,111]⟩]
   have aj:Zm (A.w.data.toList=[116,111]↔bt=Ze):=by
    show _↔_
    rw[<-al,Lib.toList_data,beq_iff_eq]
   clear ao;cases bt
   .have HT:Zm (Y5 (n+1) x.tn=G):=by
     show _=_
     rw[a6,if_neg (fun h=>by have:=aj.out.1 h.2;cases this)]
    clear a6 hA hx hABC HM a8 ih HX aj hAo;have d:Zm (∀V,bL W1 V->J9 (Y5 (n+1) x.tn) w (Zc (Zp #[Zu #[O I 0,F G 0 0],.bool Za])) ((V.setCell ⟨w.heap.size+1,0,G⟩ (O I 0)).setCell ⟨w.heap.size+1,1,G⟩ (F G 0 0))/\ cL ((V.setCell ⟨w.heap.size+1,0,G⟩ (O I 0)).setCell ⟨w.heap.size+1,1,G⟩ (F G 0 0)) (w.heap.size+1) 0 (O I 0)/\ cL ((V.setCell ⟨w.heap.size+1,0,G⟩ (O I 0)).setCell ⟨w.heap.size+1,1,G⟩ (F G 0 0)) (w.heap.size+1) 1 (F G 0 0)):=fun V j=>LN (T:=Y5 (n+1) x.tn) (z:=0) (b:=Za) (c.out.below j) (by rw[HT.out];rfl) (fun i hi=>by rw[HT.out] at hi;cases hi)
    obtain⟨V,j⟩:∃V,V=W1.alloc (Zt #[O I 0,F G 0 0] 24):=⟨_,rfl⟩
    have a:Zm (bL W1 V):=by rw[j];exact(Zf _ _).alloc (Zk _) _
    obtain⟨s0,s1,s2,s3⟩:V.frozen? ⟨w.heap.size+1,0,G⟩=Za/\V.frozen? ⟨w.heap.size+1,1,G⟩=Za/\cL V (w.heap.size+1) 0 (O I 0)/\cL V (w.heap.size+1) 1 (F G 0 0):=⟨(c.out.below a.out).f0,(c.out.below a.out).f1,(c.out.below a.out).r0,(c.out.below a.out).r1⟩
    obtain⟨p1,p2⟩:W1.cell? ⟨w.heap.size,1,G⟩=U (F x.a x.l.length x.c)/\W1.cell? ⟨w.heap.size,2,G⟩=U (.bool x.o):=⟨c.out.b1,c.out.b2⟩
    rw[ho] at p2;rw[ea,hl] at p1;clear ea hl ae;clear c HT ho;go_enter Z4,Z1;go_upto_region 1 with fail;rw[<-k];clear k;go_wp2_with fail;refine(Ue _).mono ?_;rintro e w3 ⟨rfl,o⟩;rw[o,<-j];obtain⟨u,m,l⟩:=d.out V a.out;have aa:=Yy u;clear j o w3 d a u;go_wp2_with fail;refine Zi (v:=Zp #[Zu #[O I 0,F G 0 0],.bool Za]) ?_ rfl aa.out;simp[results,ZC,go_sem,m,l]
   .have HT:Zm (Y5 (n+1) x.tn=(Y5 n B.tn).bind fun p=>(Y5 n C.tn).map fun q=>⟨3,[p,q]⟩):=by
     show _=_
     rw[a6,if_pos ⟨hAo,aj.out.2 rfl⟩]
    obtain⟨p1,p2⟩:W1.cell? ⟨w.heap.size,1,G⟩=U (F x.a x.l.length x.c)/\W1.cell? ⟨w.heap.size,2,G⟩=U (.bool x.o):=⟨c.out.b1,c.out.b2⟩
    have aq:Zm (∀V,bL W1 V->cL V w.heap.size 1 (F (U ⟨b,f,G⟩) 3 x.c)):=fun V j=>by have:=(c.out.below j).b1;rw[ea,hl] at this;exact this
    rw[ho] at p2;rw[ea,hl] at p1;obtain⟨d0,d1,d2⟩:=(HX.out W1 (Zf _ _)).2.1;have ap:=Yy (ih.out B W1 HM.out.2.1 (a8.out.1.below c.out.low));clear a6 hA hx hABC aj hAo ae ho ea hl;go_enter Z4,Z1;go_upto_region 1 with fail;rw[<-k];clear k;go_wp2_with fail;refine ap.out.mono ?_;rintro e w3 ⟨tB,bB,rfl,HB⟩;clear ap a0 a2 d0 d1 d2 p1 p2 al;obtain⟨W4,ac⟩:∃W,W=w3.alloc (Zt tB.v 24):=⟨_,rfl⟩
    have ab:bL w3 W4:=by rw[ac];exact(Zf _ _).alloc (Zk _) _
    have a3:=HB.out.2.2.2.2.trans (ab.mono HB.out.2.2.2.2.size);have r:Zm (Zv W1.heap.size W1 W4/\tB.In W4/\W4.cell? ⟨w3.heap.size,0,G⟩=U (O I tB.k)/\W4.cell? ⟨w3.heap.size,1,G⟩=U (F tB.a tB.l.length tB.c)/\W1.heap.size<=w3.heap.size):=⟨a3,HB.out.2.2.1.below ab,by rw[ac];simp,by rw[ac];simp,HB.out.2.2.2.2.size⟩
    have p1:=aq.out W4 a3;obtain⟨d0,d1,d2⟩:=(HX.out W4 a3).2.2;have au:=Yy (ih.out C W4 HM.out.2.2 ((a8.out.2.below c.out.low).below a3));clear ab a3;go_upto_region 12 with fail;rw[<-ac];clear ac;go_wp2_with fail;refine au.out.mono ?_;rintro e w5 ⟨tC,bC,rfl,HC⟩;clear au p1 d0 d1 d2 aq HX ih;obtain⟨W6,a7⟩:∃W,W=w5.alloc (Zt tC.v 24):=⟨_,rfl⟩
    have a9:bL w5 W6:=by rw[a7];exact(Zf _ _).alloc (Zk _) _
    have a1:=HC.out.2.2.2.2.trans (a9.mono HC.out.2.2.2.2.size);have ak:=r.out.1.trans (a1.mono r.out.1.size);have l4:w3.heap.size<W4.heap.size:=ZU _ _ r.out.2.2.1;have r0:cL W6 w3.heap.size 0 (O I tB.k):=(a1.cell (p:=⟨w3.heap.size,0,G⟩) l4).trans r.out.2.2.1;have r1:cL W6 w3.heap.size 1 (tB.s):=(a1.cell (p:=⟨w3.heap.size,1,G⟩) l4).trans r.out.2.2.2.1;have r2:W6.cell? ⟨w5.heap.size,0,G⟩=U (O I tC.k):=by rw[a7];simp
    have r3:W6.cell? ⟨w5.heap.size,1,G⟩=U (F tC.a tC.l.length tC.c):=by rw[a7];simp
    have an:Zm (Zy Zb 93 #[Zu tB.v,Zu tC.v] W6 fun e w'=>∃g,W6.heap.size<=g/\e=Zc (Zu #[O I 3,F (U ⟨g,0,G⟩) 2 2])/\Zm ((Tr.mk 3 (U ⟨g,0,G⟩) 2 [tB,tC]).In w'/\bL W6 w')):=by refine(O9 tB tC W6 (r.out.2.1.below a1) (HC.out.2.2.1.below a9)).mono ?_;rintro e w' ⟨g,hg,rfl,h1,h2⟩;exact⟨g,hg,rfl,h1,h2⟩
    have ai:=LL HB.out.1 HB.out.2.1 HB.out.2.2.2.1;have a4:Zm (bC=(Y5 n C.tn).isSome/\(∀i,Y5 n C.tn=U i->tC.ty=i)/\tC.Bl (W1.heap.size<=·)):=⟨HC.out.1,HC.out.2.1,HC.out.2.2.2.1.mono fun b hb=>by have:=r.out.1.size;omega⟩
    have af:=Yy ak;clear HB HC a9 a1 ak l4 r;go_upto_region 13 with fail;rw[<-a7];clear a7;go_wp2_with fail;refine an.out.mono ?_;rintro e w7 ⟨g,hg,rfl,HG⟩;have ar:=Yy (af.out.trans (HG.out.2.mono af.out.size));have a5:=c.out.below ar.out;have s0:=a5.f0;have s1:=a5.f1;have s2:=a5.r0;have s3:=a5.r1;have av:=c.out.lt;have d:Zm (J9 (Y5 (n+1) x.tn) w (Zc (Zp #[Zu #[O I 3,F (U ⟨g,0,G⟩) 2 2],.bool (bB&&bC)])) ((w7.setCell ⟨w.heap.size+1,0,G⟩ (O I 3)).setCell ⟨w.heap.size+1,1,G⟩ (F (U ⟨g,0,G⟩) 2 2))/\ cL ((w7.setCell ⟨w.heap.size+1,0,G⟩ (O I 3)).setCell ⟨w.heap.size+1,1,G⟩ (F (U ⟨g,0,G⟩) 2 2)) (w.heap.size+1) 0 (O I 3)/\ cL ((w7.setCell ⟨w.heap.size+1,0,G⟩ (O I 3)).setCell ⟨w.heap.size+1,1,G⟩ (F (U ⟨g,0,G⟩) 2 2)) (w.heap.size+1) 1 (F (U ⟨g,0,G⟩) 2 2)):=by
     have hs:=af.out.size;refine C8 (t:=Tr.mk 3 (U ⟨g,0,G⟩) 2 [tB,tC]) a5 ?_ (fun i hi=>?_) HG.out.1 (Tr.mg ⟨by omega,by omega⟩ (ai.out.2.2.mono fun b hb=>⟨by omega,by omega⟩) (a4.out.2.2.mono fun b hb=>⟨by omega,by omega⟩))
     .rw[HT.out,ai.out.1,a4.out.1];cases Y5 n B.tn with
      |none=>rfl
      |some p=>cases Y5 n C.tn<;>rfl
     .rw[HT.out] at hi;obtain⟨p,hp,hi⟩:=Zd.1 hi;obtain⟨q,hq,rfl⟩:=Y.1 hi;rw[Tr.lh];simp[ai.out.2.1 p hp,a4.out.2.1 q hq]
    clear an HG af ar a5 ai a4 HT c av hg r0 r1 r2 r3 HM a8;obtain⟨bb,ah⟩:∃bb,(bB&&bC)=bb:=⟨_,rfl⟩
    rw[ah] at d;cases bB
    .obtain rfl:Za=bb:=ah;obtain⟨_,m,l⟩:=d.out;go_wp2_with fail;refine Zi (v:=Zp #[Zu #[O I 3,F (U ⟨g,0,G⟩) 2 2],.bool Za]) ?_ rfl d.out.1;simp[results,ZC,go_sem,m,l]
    .obtain rfl:bC=bb:=by simpa using ah
     obtain⟨_,m,l⟩:=d.out;clear ah;go_wp2_with fail;refine Zi (v:=Zp #[Zu #[O I 3,F (U ⟨g,0,G⟩) 2 2],.bool bC]) ?_ rfl d.out.1;simp[results,ZC,go_sem,m,l]
 .have HT:=Yy (Bx n x ho hl);have ae:(((x.l.length:Nat):Int) != 3)=Ze:=by rw[bne_iff_ne];omega
  clear hx ih hl;have d:Zm (∀V,bL W1 V->J9 (Y5 (n+1) x.tn) w (Zc (Zp #[Zu #[O I 0,F G 0 0],.bool Za])) ((V.setCell ⟨w.heap.size+1,0,G⟩ (O I 0)).setCell ⟨w.heap.size+1,1,G⟩ (F G 0 0))/\ cL ((V.setCell ⟨w.heap.size+1,0,G⟩ (O I 0)).setCell ⟨w.heap.size+1,1,G⟩ (F G 0 0)) (w.heap.size+1) 0 (O I 0)/\ cL ((V.setCell ⟨w.heap.size+1,0,G⟩ (O I 0)).setCell ⟨w.heap.size+1,1,G⟩ (F G 0 0)) (w.heap.size+1) 1 (F G 0 0)):=fun V j=>LN (T:=Y5 (n+1) x.tn) (z:=0) (b:=Za) (c.out.below j) (by rw[HT.out];rfl) (fun i hi=>by rw[HT.out] at hi;cases hi)
  obtain⟨V,j⟩:∃V,V=W1.alloc (Zt #[O I 0,F G 0 0] 24):=⟨_,rfl⟩
  have a:Zm (bL W1 V):=by rw[j];exact(Zf _ _).alloc (Zk _) _
  obtain⟨s0,s1,s2,s3⟩:V.frozen? ⟨w.heap.size+1,0,G⟩=Za/\V.frozen? ⟨w.heap.size+1,1,G⟩=Za/\cL V (w.heap.size+1) 0 (O I 0)/\cL V (w.heap.size+1) 1 (F G 0 0):=⟨(c.out.below a.out).f0,(c.out.below a.out).f1,(c.out.below a.out).r0,(c.out.below a.out).r1⟩
  obtain⟨p1,p2⟩:W1.cell? ⟨w.heap.size,1,G⟩=U (F x.a x.l.length x.c)/\W1.cell? ⟨w.heap.size,2,G⟩=U (.bool x.o):=⟨c.out.b1,c.out.b2⟩
  rw[ho] at p2;clear c HT ho;go_enter Z4,Z1;go_upto_region 1 with fail;rw[<-k];clear k;go_wp2_with fail;refine(Ue _).mono ?_;rintro e w3 ⟨rfl,o⟩;rw[o,<-j];obtain⟨u,m,l⟩:=d.out V a.out;have aa:=Yy u;clear j o w3 d a u;go_wp2_with fail;refine Zi (v:=Zp #[Zu #[O I 0,F G 0 0],.bool Za]) ?_ rfl aa.out;simp[results,ZC,go_sem,m,l]
theorem Tu:∀(n:Nat)(x:Nd)(w:Zq),x.In w->x.tn.flat.length<=n->Zy Zb 104 #[Zu #[.string x.w,F x.a x.l.length x.c,.bool x.o]] w (J9 (Y5 n x.tn) w)
 |0,x,w,_,h=>by have:=Uc x.tn;omega
 |n+1,x,w,hx,h=>by
  by_cases ho:x.o=Ze
  .refine Bw n x w hx ho fun y W hy hW=>Tu n y W hW ?_;rw[Ak x.tn (by rw[Nd.nf];exact ho)] at h;simp only[Zn,Zo,Zg] at h;have:=Xm (x:=y.tn) (l:=x.tn.l) (by rw[Nd.oe];exact List.mem_map.2 ⟨y,hy,rfl⟩);omega
  .exact Bv n x w (by simpa using ho)
theorem Tryz.underlying174:Zb.underlying 174=U (.slice 5):=by kernel_rfl
theorem Tryz.underlying5:Zb.underlying 5=U (.int .u8):=by kernel_rfl
theorem Tryz.underlying9:Zb.underlying 9=U .string:=by kernel_rfl
theorem S7(a b:List UInt8)(h:a.length+b.length<=1000000000)(w:Zq):(Op.stringOp .add (bw a) (bw b)).run Zb w=.ok (.string (bw (a++b))) w:=by
 have e:bw a++bw b=bw (a++b):=by
  apply ByteArray.ext;show (bw a++bw b).data=(a++b).toArray
  rw[ByteArray.data_append];simp[bw]
 rw[run_string_add_sum,e];show a.toArray.size+b.toArray.size<=9223372036854775807
 simp;omega
theorem CM(u:Nat)(hu:u<10)(w:Zq):(convert 174 9 (F (U ⟨w.heap.size,0,G⟩) 1 1)).run Zb (w.alloc (Zt #[O .u8 (48+(u:Int))] 5))=.ok (.string (bw (Lib.decDigits u))) (w.alloc (Zt #[O .u8 (48+(u:Int))] 5)):=by
 rw[Lib.decDigits_one hu];refine Lib.run_convert_whole (P:=Zb) _ 174 5 9 Tryz.underlying174 Tryz.underlying5 Tryz.underlying9 w.heap.size 0 (bw [UInt8.ofNat (48+u)]) (fun i hi=>?_) 1;have a:i=0:=by have:(bw [UInt8.ofNat (48+u)]).size=1:=rfl;omega
 subst a;have e:(bw [UInt8.ofNat (48+u)])[0].toNat=48+u:=by
  show (UInt8.ofNat (48+u)).toNat=_
  simp;omega
 rw[e];simp[go_sem]
theorem PS:∀(k v:Nat),v<10 ^ (k+1)->Lib.nDigits v<=k+1
 |0,v,h=>by rw[Lib.nDigits_small (by simpa using h)];omega
 |k+1,v,h=>by
  by_cases hs:v<10
  .rw[Lib.nDigits_small hs];omega
  .rw[Lib.nDigits_big hs];rw[Nat.pow_succ] at h;have:=PS k (v / 10) (by omega);omega
theorem UE(u:Nat)(hu:u<=9999999):(Lib.decDigits u).length<=7:=by rw[Lib.decDigits_length];exact PS 6 u (by omega)
theorem K2(u:Nat)(hu:u<=9999999):(Lib.decDigits u).length<=30:=by have:=UE u hu;omega
theorem Mp(u:Nat)(h:¬u<10):Lib.decDigits (u / 10)++Lib.decDigits (u % 10)=Lib.decDigits u:=by rw[Lib.decDigits_one (i:=u % 10) (by omega)];conv=>rhs;rw[Lib.decDigits,dif_neg h]
theorem OL(u:Nat):u<=9999999->∀w:Zq,Zy Zb 144 #[O I (u:Int)] w fun e w'=>e=Zc (.string (bw (Lib.decDigits u)))/\Zv w.heap.size w w':=by
 induction u using Nat.strongRecOn with
 |_ u ih=>
  intro hu w;have k:¬(u:Int)<0:=by omega
  by_cases h9:u<10
  .have h1:¬(u:Int)>9:=by omega
   have c:∀o,bL w (w.alloc o):=fun o=>(Zf _ _).alloc (Zk _) _;have g:=CM u h9 w;clear ih;go_enter func144,ntmps144;go_wp2_with fail;refine Zi (v:=.string (bw (Lib.decDigits u))) ?_ rfl ⟨rfl,c _⟩;simp[results,results144,go_sem]
  .have h1:(9:Int)<(u:Int):=by omega
   have h:Zm (∀w:Zq,Zy Zb 144 #[O I ((u:Int) / 10)] w fun e w'=>e=Zc (.string (bw (Lib.decDigits (u / 10))))/\bL w w'):=by intro w;rw[show (u:Int) / 10=((u / 10:Nat):Int) by omega];exact ih (u / 10) (by omega) (by omega) w
   have i:Zm (∀w:Zq,Zy Zb 144 #[O I ((u:Int) % 10)] w fun e w'=>e=Zc (.string (bw (Lib.decDigits (u % 10))))/\bL w w'):=by intro w;rw[show (u:Int) % 10=((u % 10:Nat):Int) by omega];exact ih (u % 10) (by omega) (by omega) w
   have d:∀W,(Op.stringOp .add (bw (Lib.decDigits (u / 10))) (bw (Lib.decDigits (u % 10)))).run Zb W=.ok (.string (bw (Lib.decDigits u))) W:=fun W=>by have l:=K2 (u / 10) (by omega);have m:=K2 (u % 10) (by omega);rw[S7 _ _ (by omega) W,Mp u h9]
   clear ih;go_enter func144,ntmps144;go_wp2_with fail;refine(h.out _).mono ?_;rintro e j ⟨rfl,a⟩;go_wp2_with fail;refine(i.out _).mono ?_;rintro e p ⟨rfl,b⟩;go_wp2_with fail;refine Zi (v:=.string (bw (Lib.decDigits u))) ?_ rfl ⟨rfl,a.trans (b.mono a.size)⟩;simp[results,results144,go_sem]
theorem T0(n:Int)(h:-9999999<=n)(g:n<=9999999)(w:Zq):Zy Zb 144 #[O I n] w fun e w'=>e=Zc (.string (bw (Lib.itoa n)))/\Zv w.heap.size w w':=by
 by_cases hn:n<0
 .have HA:Zm (∀w:Zq,Zy Zb 144 #[O I (-n)] w fun e w'=>e=Zc (.string (bw (Lib.decDigits n.natAbs)))/\bL w w'):=by intro w;rw[show -n=((n.natAbs:Nat):Int) by omega];exact OL n.natAbs (by omega) w
  have b:∀W,(Op.stringOp .add { data:=#[45] } (bw (Lib.decDigits n.natAbs))).run Zb W=.ok (.string (bw (Lib.itoa n))) W:=fun W=>by
   have d:=K2 n.natAbs (by omega);have:=S7 [45] (Lib.decDigits n.natAbs) (by simp;omega) W;have e:Lib.itoa n=[45]++Lib.decDigits n.natAbs:=by unfold Lib.itoa;rw[if_pos hn];rfl
   rw[e];exact this
  go_enter func144,ntmps144;go_wp2_with fail;refine(HA.out _).mono ?_;rintro e c ⟨rfl,a⟩;go_wp2_with fail;refine Zi (v:=.string (bw (Lib.itoa n))) ?_ rfl ⟨rfl,a⟩;simp[results,results144,go_sem]
 .obtain⟨u,rfl⟩:∃u:Nat,n=(u:Int):=⟨n.toNat,by omega⟩
  have e:Lib.itoa (u:Int)=Lib.decDigits u:=by unfold Lib.itoa;rw[if_neg (by omega)];simp
  rw[e];exact OL u (by omega) w
def Lc(l:List UInt8):Int:=l.foldl (fun (n:Int)(c:UInt8)=>10*n+(c.toNat:Int)-48) 0
theorem Ox(l:List UInt8)(c:UInt8):Lc (l++[c])=10*Lc l+(c.toNat:Int)-48:=by simp[Lc]
theorem Ow(u:Nat):Lc (Lib.decDigits u)=(u:Int):=by
 induction u using Nat.strongRecOn with
 |_ u ih=>
  by_cases h:u<10
  .rw[Lib.decDigits_one h];have:(UInt8.ofNat (48+u)).toNat=48+u:=by simp;omega
   simp only[Lc,List.foldl_cons,List.foldl_nil,this];omega
  .rw[<-Mp u h,Lib.decDigits_one (i:=u % 10) (by omega),Ox,ih (u / 10) (by omega)];have:(UInt8.ofNat (48+u % 10)).toNat=48+u % 10:=by simp;omega
   rw[this];omega
def Sk(c:UInt8):Prop:=48<=c.toNat/\c.toNat<=57
theorem Pe:∀(l:List UInt8)(acc P:Int),(∀c,c∈l->Sk c)->0<=acc->P=10 ^ l.length->acc*P+P<=10000000->0<=l.foldl (fun (n:Int)(c:UInt8)=>10*n+(c.toNat:Int)-48) acc/\l.foldl (fun (n:Int)(c:UInt8)=>10*n+(c.toNat:Int)-48) acc<=9999999
 |[],acc,P,_,h0,hP,h=>by simp only[Zg,Int.pow_zero] at hP;subst hP;simp only[List.foldl_nil];omega
 |c::r,acc,P,hd,h0,hP,h=>by
  rw[Zn,Int.pow_succ] at hP;obtain⟨R,hR⟩:∃R:Int,R=10 ^ r.length:=⟨_,rfl⟩
  rw[<-hR] at hP;have hR0:0<=R:=by rw[hR];exact Int.pow_nonneg (by omega)
  obtain⟨g,i⟩:=hd c Zs;rw[List.foldl_cons];refine Pe r _ R (fun d a=>hd d (Zj _ a)) (by omega) hR ?_;have j:((c.toNat:Int)-48)*R<=9*R:=Int.mul_le_mul_of_nonneg_right (by omega) hR0;have b:(10*acc+(c.toNat:Int)-48)*R=10*(acc*R)+((c.toNat:Int)-48)*R:=by rw[show 10*acc+(c.toNat:Int)-48=10*acc+((c.toNat:Int)-48) by omega,Int.add_mul,Int.mul_assoc]
  have e:acc*(R*10)=10*(acc*R):=by rw[<-Int.mul_assoc];omega
  rw[b];rw[hP,e] at h;omega
theorem M6(l:List UInt8)(h:∀c,c∈l->Sk c)(hl:l.length<=7):0<=Lc l/\Lc l<=9999999:=by
 refine Pe l 0 (10 ^ l.length) h (by omega) rfl ?_;have:∀k:Nat,k<=7->(10:Int) ^ k<=10000000:=fun k a=>by
  match k,a with
  |0,_=>decide
  |1,_=>decide
  |2,_=>decide
  |3,_=>decide
  |4,_=>decide
  |5,_=>decide
  |6,_=>decide
  |7,_=>decide
 have:=this l.length hl;omega
def UX:List UInt8->List UInt8×Bool
 |45::d=>(d,Ze)
 |d=>(d,Za)
theorem L8(d:List UInt8):UX (45::d)=(d,Ze):=rfl
theorem L7(l:List UInt8)(h:∀d,l≠45::d):UX l=(l,Za):=by
 unfold UX;split
 .rename_i d;exact absurd rfl (h d)
 .rfl
def Fe(d:List UInt8):Prop:=d≠[]/\d.length<=7/\∀c,c∈d->Sk c
def BX(p:List UInt8×Bool):Int:=if p.2=Ze then -Lc p.1 else Lc p.1
theorem AP{p:List UInt8×Bool}(h:Fe p.1):-9999999<=BX p/\BX p<=9999999/\0<=Lc p.1/\Lc p.1<=9999999:=by obtain⟨a,b⟩:=M6 p.1 h.2.2 h.2.1;unfold BX;split<;>omega
theorem Ti(n:Int)(h:-9999999<=n)(h':n<=9999999):Ui (bw (Lib.itoa n))=U n:=by
 have g:(Lib.itoa n).length<=8:=by
  unfold Lib.itoa;split
  .have:=UE n.natAbs (by omega);simp only[Zn];omega
  .have:=UE n.toNat (by omega);omega
 have e:Lib.atoiAll (Lib.itoa n)=.ok n:=by
  rw[Lib.atoiAll_short _ (by omega)];unfold Lib.itoa;by_cases hn:n<0
  .rw[if_pos hn];have:Lib.atoi (45::Lib.decDigits n.natAbs)=(Lib.decNat (Lib.decDigits n.natAbs)).map fun (m:Nat)=>-(m:Int):=by simp[Lib.atoi]
   rw[this,M3];simp only[ZP,Lib.NumEnd.ofOption];congr 1;omega
  .rw[if_neg hn];have hd:=LQ n.toNat;cases hc:Lib.decDigits n.toNat with
   |nil=>exact absurd hc (MR _)
   |cons c r=>
    rw[hc] at hd;have a:=hd c (by simp);have b:c≠45:=by rintro rfl;simp at a
    have d:c≠43:=by rintro rfl;simp at a
    have:Lib.atoi (c::r)=(Lib.decNat (c::r)).map fun (m:Nat)=>(m:Int):=by simp[Lib.atoi,b,d]
    rw[this,<-hc,M3];simp only[ZP,Lib.NumEnd.ofOption];congr 1;omega
 rw[Ui,NU,e];exact if_pos rfl
theorem Wa{l:List UInt8}{v:Int}(h:Ui (bw l)=U v):Lib.itoa v=l:=by
 rw[Ui] at h;split at h
 .split at h
  .rename_i e;obtain rfl:=Zh h;exact No e
  .cases h
 .cases h
theorem PO{l:List UInt8}{v:Int}(h:LZ l=U v):Fe (UX l).1/\v=BX (UX l)/\Lib.itoa v=l:=by
 obtain⟨i,j,k⟩:=NG h;have b:=Wa i;refine⟨?_,?_,b⟩
 all_goals
  rw[<-b]
  unfold Lib.itoa
  split
  .rename_i hn;rw[L8];first
    |exact⟨MR _,UE _ (by omega),fun c a=>LQ _ c a⟩
    |(show v=if Ze=Ze then -Lc (Lib.decDigits v.natAbs) else _
      rw[if_pos rfl,Ow];omega)
  .rename_i hn;have g:∀d,Lib.decDigits v.toNat≠45::d:=fun d e=>by have:=LQ v.toNat 45 (by rw[e];simp);simp at this
   rw[L7 _ g];first
    |exact⟨MR _,UE _ (by omega),fun c a=>LQ _ c a⟩
    |(show v=if Za=Ze then _ else Lc (Lib.decDigits v.toNat)
      rw[if_neg (by simp),Ow];omega)
theorem CR{l:List UInt8}(h:¬Fe (UX l).1):LZ l=G:=by
 cases hn:LZ l with
 |none=>rfl
 |some v=>exact absurd (PO hn).1 h
theorem Bn{l:List UInt8}(h:Fe (UX l).1):LZ l=if Lib.itoa (BX (UX l))=l then U (BX (UX l)) else G:=by
 have a:=AP h;split
 .rename_i e;have:=Ti (BX (UX l)) a.1 a.2.1;rw[e] at this;exact R0 this ⟨a.1,a.2.1⟩
 .rename_i e;cases hn:LZ l with
  |none=>rfl
  |some v=>obtain⟨_,b,c⟩:=PO hn;rw[<-b] at e;exact absurd c e
def Qs(s:List UInt8)(w:Zq)(e:Ending)(w':Zq):Prop:=∃(n:Int)(ok:Bool),e=Zc (Zp #[O I n,.bool ok])/\Zm (ok=(LZ s).isSome/\(∀v,LZ s=U v->n=v)/\(-9999999<=n/\n<=9999999)/\Zv w.heap.size w w')
theorem Pu(l:List UInt8):Lib.trimPrefix l [45]=(UX l).1:=by
 by_cases h:∃d,l=45::d
 .obtain⟨d,rfl⟩:=h;rw[L8,Lib.trimPrefix,if_pos (by simp[Lib.hasPrefix])];rfl
 .rw[L7 l fun d e=>h ⟨d,e⟩,Lib.trimPrefix,if_neg];intro a;cases l with
  |nil=>simp[Lib.hasPrefix] at a
  |cons c r=>
   have:45=c:=by simp only[Lib.hasPrefix,List.isPrefixOf,Bool.and_true,beq_iff_eq] at a;exact a
   exact h ⟨r,by rw[<-this]⟩
theorem Cm(l:List UInt8):((UX l).1=l)↔(UX l).2=Za:=by
 by_cases h:∃d,l=45::d
 .obtain⟨d,rfl⟩:=h;rw[L8];constructor
  .intro e;have:=congrArg List.length e;simp at this
  .intro e;cases e
 .rw[L7 l fun d e=>h ⟨d,e⟩];simp
theorem Sc(c:UInt8):DL.contains c=Ze↔Sk c:=by
 have:∀n:Fin 256,DL.contains (UInt8.ofNat n.val)=Ze↔Sk (UInt8.ofNat n.val):=by unfold Sk;decide +kernel
 have h:=this ⟨c.toNat,c.toNat_lt⟩;simpa using h
theorem OG(s:ByteArray)(w:Zq)(hs:s.size<=2000):Zy Zb 102 #[.string s] w (Qs s.data.toList w):=by
 obtain⟨d,hd⟩:∃d,(UX s.data.toList).1=d:=⟨_,rfl⟩
 obtain⟨D,hD⟩:∃D,bw d=D:=⟨_,rfl⟩
 have z:Zm (D.data.toList=d/\D.size=d.length):=by rw[<-hD];exact⟨rfl,by show d.toArray.size=_;simp⟩
 have ae:d.length<=2000:=by
  have hl:s.data.toList.length=s.size:=Zx;rw[<-hd,<-Pu,Lib.trimPrefix];split
  .rw[List.length_drop];omega
  .omega
 have HP:Zm (∀W,Zy Zb 142 #[.string s,.string ⟨#[45]⟩] W fun e w'=>e=Zc (.string D)/\w'=W):=fun W=>by
  refine(Tryz.strings_TrimPrefix s ⟨#[45]⟩ W).mono ?_;rintro e w' ⟨rfl,h⟩;refine⟨?_,h⟩;show Ending.returned (.string (bw (Lib.trimPrefix s.data.toList [45])))=_
  rw[Pu,hd,hD]
 have HT:Zm (∀W,Zy Zb 143 #[.string D,.string ⟨#[48,49,50,51,52,53,54,55,56,57]⟩] W fun e w'=>∃t:ByteArray,e=Zc (.string t)/\Zm (t=⟨#[]⟩↔∀c,c∈d->Sk c)/\bL W w'):=fun W=>by
  refine(Pm D W (by have:=z.out.2;omega)).mono ?_;rintro e w' ⟨t,rfl,h1,h2⟩;refine⟨t,rfl,?_,h2⟩;show _↔_
  rw[h1,z.out.1];exact forall_congr' fun c=>forall_congr' fun _=>Sc c
 have j:Zm (¬Fe d->∀W,bL w W->Qs s.data.toList w (Zc (Zp #[O I 0,.bool Za])) W):=fun h W hW=>⟨0,Za,rfl,by rw[CR (by rw[hd];exact h)];exact⟨rfl,(fun v hv=>by cases hv),⟨by omega,by omega⟩,hW⟩⟩
 have a:Zm (Fe d->LZ s.data.toList=if Lib.itoa (BX (UX s.data.toList))=s.data.toList then U (BX (UX s.data.toList)) else G):=fun h=>Bn (by rw[hd];exact h);have r:Zm (BX (UX s.data.toList)=if (UX s.data.toList).2=Ze then -Lc d else Lc d):=by
  show _=_
  rw[BX,hd]
 have i:Zm (d=s.data.toList↔(UX s.data.toList).2=Za):=by
  show _↔_
  rw[<-hd];exact Cm _
 clear hD hd;go_enter func102,ntmps102;go_wp2_with fail;refine(HP.out _).mono ?_;rintro e w1 ⟨rfl,a6⟩;rw[a6];clear a6 w1 HP;by_cases h0:d=[]
 .have hemp:D.toList.isEmpty=Ze:=by rw[Lib.toList_data,z.out.1,h0];rfl
  have HB:=j.out (fun h=>h.1 h0) w (Zf _ _);have y:=Yy HB;clear HB j a r i HT z h0;go_wp2_with fail;refine Zi (v:=Zp #[O I 0,.bool Za]) ?_ rfl y.out;simp[results,ZQ,go_sem]
 .have hemp:D.toList.isEmpty=Za:=by
   rw[Lib.toList_data,z.out.1];cases d with
   |nil=>exact absurd rfl h0
   |cons _ _=>rfl
  have a3:=z.out.2;by_cases h7:d.length<=7
  .have hgt:¬(7:Int)<(d.length:Int):=by omega
   go_wp2_with fail;refine(HT.out _).mono ?_;rintro e w2 ⟨t,rfl,a1,a8⟩;have H2:=Yy a8;clear a8 HT;by_cases ht:∀c,c∈d->Sk c
   .obtain rfl:=a1.out.2 ht;have p:Zm (Fe d):=⟨h0,h7,ht⟩
    clear a1 j ht;have ad:(⟨#[]⟩:ByteArray).toList.isEmpty=Ze:=by rw[Lib.toList_data];rfl
    have a4:=run_bytes_of_string (P:=Zb) w2 9 174 5 D Tryz.underlying9 Tryz.underlying174 Tryz.underlying5;obtain⟨cp,a5⟩:∃cp,grownCap w2 D.size 0 5=cp:=⟨_,rfl⟩
    rw[a5] at a4;obtain⟨W3,a0⟩:∃W,W=w2.drew.alloc (Zt (Z9 D cp) 5 ((Z9 D cp).size,(Z9 D cp).size+1)):=⟨_,rfl⟩
    rw[<-a0,a3] at a4;have HC:Zm ((∀k(h:k<d.length),W3.cell? ⟨w2.heap.size,k,G⟩=U (O .u8 (d[k].toNat:Int)))/\Zv w.heap.size w W3):=by
     refine⟨fun k hk=>?_,H2.out.trans ?_⟩
     .have hh:W3.heap[w2.heap.size]?=U (Zt (Z9 D cp) 5 ((Z9 D cp).size,(Z9 D cp).size+1)):=by rw[a0];exact ZV w2.drew _
      rw[cell_of_row W3 w2.heap.size k _ _ _ hh];have hk2:k<D.data.size:=by have:D.data.size=d.length:=a3;omega
      unfold Z9;rw[Array.getElem?_append_left (by simpa using hk2),Array.getElem?_map,Array.getElem?_eq_getElem hk2];have e1:D.data.toList[k]?=U d[k]:=by rw[z.out.1,ZR hk]
      have e2:D.data[k]'hk2=d[k]:=by rw[<-Array.getElem_toList];rw[ZR (by simpa using hk2)] at e1;exact Zh e1
      rw[e2];rfl
     .rw[a0];exact((Zf _ _).drew.alloc (Zk _) _).mono H2.out.size
    clear a5 a0 H2 a3;go_wp2_with fail;go_loopg [5,7,25] d.length (fun g v5 _ aa wr=>∃k:Nat,g+k=d.length/\aa=O I (k:Int)/\v5=O I (Lc (d.take k))/\wr=W3)
    case atStart=>exact⟨0,rfl,rfl,by simp[Lc],rfl⟩
    case round=>
     obtain⟨k,hk,rfl,rfl,rfl⟩:=hrel;obtain⟨N,hN⟩:∃N,Lc (d.take k)=N:=⟨_,rfl⟩
     rw[hN];by_cases hlt:k<d.length
     .have c0:=HC.out.1 k hlt;obtain⟨x,hx⟩:∃x,d[k]=x:=⟨_,rfl⟩
      rw[hx] at c0;have a9:Sk x:=by rw[<-hx];exact p.out.2.2 _ (ZY hlt)
      have af:0<=N/\N<=9999999:=by rw[<-hN];exact M6 _ (fun c hc=>p.out.2.2 c (List.mem_of_mem_take hc)) (by rw[List.length_take];omega)
      have ab:Zm (Lc (d.take (k+1))=10*N+(x.toNat:Int)-48):=by
       show _=_
       rw[ZW hlt,Ox,hN,hx]
      obtain⟨x1,x2⟩:=a9;have q1:IntKind.i64.wrap (10*N)=10*N:=Go.wrap_small _ (by omega) (by omega);have q2:IntKind.i64.wrap (10*N+(x.toNat:Int))=10*N+(x.toNat:Int):=Go.wrap_small _ (by omega) (by omega);have q3:IntKind.i64.wrap (10*N+(x.toNat:Int)-48)=10*N+(x.toNat:Int)-48:=Go.wrap_small _ (by omega) (by omega);have q4:(k:Int)<(d.length:Int):=by omega
      have q5:IntKind.i64.wrap ((k:Int)+1)=(k:Int)+1:=Go.wrap_small _ (by omega) (by omega);have q6:IntKind.i64.wrap (x.toNat:Int)=(x.toNat:Int):=Go.wrap_small _ (by omega) (by omega);clear hN hx a r i;go_wp2_with fail;go_roundg (gk-1)
      case measure=>omega
      case rel=>exact⟨k+1,by omega,by simp,by rw[ab.out],rfl⟩
     .have hke:k=d.length:=by omega
      have q4:¬(k:Int)<(d.length:Int):=by omega
      have HV:Zm (Lc d=N/\0<=N/\N<=9999999):=by rw[hke,List.take_length] at hN;have:=M6 d p.out.2.2 p.out.2.1;rw[hN] at this;exact⟨hN,this⟩
      obtain⟨ng,a2⟩:∃ng,(UX s.data.toList).2=ng:=⟨_,rfl⟩
      have ac:(D.toList==s.toList)=!ng:=by
       rw[<-a2,Lib.toList_data,Lib.toList_data,z.out.1];cases hg:(UX s.data.toList).2
       .rw[i.out.2 hg];simp
       .rw[Bool.not_true,beq_eq_false_iff_ne];intro e;have:=i.out.1 e;rw[hg] at this;cases this
      obtain⟨n,hn⟩:∃n,(if ng=Ze then -N else N)=n:=⟨_,rfl⟩
      have l:Zm (BX (UX s.data.toList)=n/\-9999999<=n/\n<=9999999):=by
       refine⟨by rw[r.out,a2,HV.out.1,hn],?_,?_⟩
       all_goals rw[<-hn];have:=HV.out.2;split<;>omega
      clear hN a2;obtain⟨T,hT⟩:∃T,bw (Lib.itoa n)=T:=⟨_,rfl⟩
      obtain⟨q,a7⟩:∃b,(T.toList==s.toList)=b:=⟨_,rfl⟩
      have o:Zm (∀W,bL wr W->Zy Zb 144 #[O I n] W fun e w'=>e=Zc (.string T)/\bL wr w'):=fun W hb=>by refine(T0 n l.out.2.1 l.out.2.2 W).mono ?_;rintro e w' ⟨rfl,h⟩;exact⟨by rw[hT],hb.trans (h.mono hb.size)⟩
      have m:Zm (∀W,bL wr W->Qs s.data.toList w (Zc (Zp #[O I n,.bool q])) W):=fun W hb=>by
       have hg:=a.out p.out;rw[l.out.1] at hg;have he:q=Ze↔Lib.itoa n=s.data.toList:=by rw[<-a7,Lib.toList_data,Lib.toList_data,<-hT,NU,beq_iff_eq]
       refine⟨n,q,rfl,?_,?_,⟨l.out.2.1,l.out.2.2⟩,HC.out.2.trans (hb.mono HC.out.2.size)⟩
       .rw[hg];cases q
        .rw[if_neg fun h=>by have:=he.2 h;cases this];rfl
        .rw[if_pos (he.1 rfl)];rfl
       .intro v hv;rw[hg] at hv;split at hv
        .exact Zh hv
        .cases hv
      clear a r i HC z p a4 hT;cases ng
      .obtain rfl:n=N:=by simpa using hn.symm
       clear hn HV l;go_wp2_with fail;refine(o.out _ (Zf _ _)).mono ?_;rintro e w6 ⟨rfl,u⟩;have HF:=Yy (m.out w6 u);clear u m o;go_wp2_with fail;refine Zi (v:=Zp #[O I n,.bool q]) ?_ rfl HF.out;simp[results,ZQ,go_sem]
      .have hwn:IntKind.i64.wrap (-N)=n:=by have:=HV.out.2;rw[show IntKind.i64.wrap (-N)=-N by rw[IntKind.wrap_i64];omega];simpa using hn
       clear hn HV l;go_wp2_with fail;refine(o.out _ (Zf _ _)).mono ?_;rintro e w6 ⟨rfl,u⟩;have HF:=Yy (m.out w6 u);clear u m o;go_wp2_with fail;refine Zi (v:=Zp #[O I n,.bool q]) ?_ rfl HF.out;simp[results,ZQ,go_sem]
   .have htn:t.toList.isEmpty=Za:=by
     rw[Lib.toList_data];cases hc:t.data.toList with
     |nil=>exfalso;refine ht (a1.out.1 ?_);rw[<-E6 t,hc];rfl
     |cons _ _=>rfl
    have y:=Yy (j.out (fun h=>ht h.2.2) w2 H2.out);clear j a r i z h0 a1;go_wp2_with fail;refine Zi (v:=Zp #[O I 0,.bool Za]) ?_ rfl y.out;simp[results,ZQ,go_sem]
  .have hgt:(7:Int)<(d.length:Int):=by omega
   have y:Zm (Qs s.data.toList w (Zc (Zp #[O I 0,.bool Za])) w):=j.out (fun h=>h7 h.2.1) w (Zf _ _);clear j a r i HT z h0;go_wp2_with fail;refine Zi (v:=Zp #[O I 0,.bool Za]) ?_ rfl y.out;simp[results,ZQ,go_sem]
def UT(T:Option Tm)(w:Zq)(e:Ending)(w':Zq):Prop:=∃(t:TT)(ok:Bool),e=Zc (Zp #[Zu #[O I t.k,O I t.n,O I t.t.k,F t.t.a t.t.l.length t.t.c,O I t.f.k,F t.f.a t.f.l.length t.f.c,F t.a t.l.length t.c],.bool ok])/\Zm (ok=T.isSome/\(∀i,T=U i->t.tm=i)/\t.In w'/\t.Bl (w.heap.size<=·)/\Zv w.heap.size w w')
structure Sg(x:Nd)(w:Zq)(W:Zq):Prop where
 low:Zv w.heap.size w W
 b0:W.cell? ⟨w.heap.size,0,G⟩=U (.string x.w)
 b1:W.cell? ⟨w.heap.size,1,G⟩=U (F x.a x.l.length x.c)
 b2:W.cell? ⟨w.heap.size,2,G⟩=U (.bool x.o)
 box:XC W (w.heap.size+1) (Yr 0 0)
theorem Sg.lt{x:Nd}{w W:Zq}(h:Sg x w W):w.heap.size+1<W.heap.size:=h.box.lt
theorem Sg.below{x:Nd}{w W V:Zq}(h:Sg x w W)(a:Zv W.heap.size W V):Sg x w V:=by have b:=h.lt;have c:∀i,V.cell? ⟨w.heap.size,i,G⟩=W.cell? ⟨w.heap.size,i,G⟩:=fun i=>a.cell (p:=⟨w.heap.size,i,G⟩) (show w.heap.size<_ by omega);exact⟨h.low.trans (a.mono h.low.size),(c _).trans h.b0,(c _).trans h.b1,(c _).trans h.b2,h.box.below a⟩
theorem Sg.start(x:Nd)(w:Zq):Sg x w ((w.alloc (Zt #[.string x.w,F x.a x.l.length x.c,.bool x.o] 111)).alloc (Zt #[O I 0,O I 0,O I 0,F G 0 0,O I 0,F G 0 0,F G 0 0] 27)):=by
 have a:=Uz.new (w.alloc (Zt #[.string x.w,F x.a x.l.length x.c,.bool x.o] 111)) (Yr 0 0);rw[show (w.alloc (Zt #[.string x.w,F x.a x.l.length x.c,.bool x.o] 111)).heap.size=w.heap.size+1 by simp] at a;refine⟨((Zf _ _).alloc (Zk _) _).alloc (by simp) _,?_,?_,?_,⟨a,fun i hi=>?_⟩⟩
 all_goals simp[go_sem]
theorem B9{T:Option Tm}{t:TT}{x:Nd}{w wr:Zq}{ok:Bool}(h:Sg x w wr)(c:ok=T.isSome)(g:∀i,T=U i->t.tm=i)(d:t.In wr)(a:t.Bl (fun b=>w.heap.size<=b/\b≠w.heap.size+1)):
  UT T w (Zc (Zp #[Zu #[O I t.k,O I t.n,O I t.t.k,F t.t.a t.t.l.length t.t.c,O I t.f.k,F t.f.a t.f.l.length t.f.c,F t.a t.l.length t.c],.bool ok])) (Xd wr (w.heap.size+1) t):=by
 have e:=YI (w:=wr) (J:=w.heap.size+1) (x:=t);refine⟨t,ok,rfl,c,g,d.lc e (a.mono fun b c=>c.2),a.mono fun b c=>c.1,?_⟩;exact h.low.trans ((e.below (by simp) (Nat.le_of_lt h.lt)).mono (by omega))
theorem KM{T:Option Tm}{k n:Int}{x:Nd}{w wr:Zq}{ok:Bool}(h:Sg x w wr)(hb:ok=T.isSome)(ht:∀i,T=U i->⟨k,n,Yk,Yk,[]⟩=i):
  UT T w (Zc (Zp #[Zu #[O I k,O I n,O I 0,F G 0 0,O I 0,F G 0 0,F G 0 0],.bool ok])) (Xd wr (w.heap.size+1) (Yr k n)):=
 B9 (t:=Yr k n) h hb (fun i hi=>(Nw k n).trans (ht i hi)) (Jh k n wr) (L5 k n _)
theorem VD(n:Nat)(x:Nd)(h:x.o=Za):YV (n+1) x.tn=JS x.w.data.toList:=by rw[YV,Nd.nf,if_pos h,Nd.pk]
theorem AL(n:Nat)(x:Nd)(w:Zq)(ho:x.o=Za)(hw:x.w.data.toList≠[])(hs:x.w.size<=2000):Zy Zb 63 #[Zu #[.string x.w,F x.a x.l.length x.c,.bool x.o]] w (UT (YV (n+1) x.tn) w):=by
 rw[VD n x ho];obtain⟨bY,hY⟩:∃b,(x.w.toList==(⟨#[121,101,115]⟩:ByteArray).toList)=b:=⟨_,rfl⟩
 obtain⟨bN,hN⟩:∃b,(x.w.toList==(⟨#[110,111]⟩:ByteArray).toList)=b:=⟨_,rfl⟩
 have kY:(x.w.toList==[121,101,115])=bY:=by rw[<-hY,Lib.toList_data ⟨#[121,101,115]⟩]
 have kN:(x.w.toList==[110,111])=bN:=by rw[<-hN,Lib.toList_data ⟨#[110,111]⟩]
 have g:Zm (YY (bw x.w.data.toList) XH 0=if bN=Ze then U 0 else if bY=Ze then U 1 else G):=by
  have e:∀(y:ByteArray)(b:Bool),(x.w.toList==y.toList)=b->((y=x.w)↔b=Ze):=fun y b h=>by
   rw[<-h];constructor
   .rintro rfl;simp
   .intro h';exact((Lib.bytes_beq_iff _ _).1 h').symm
  show _=_
  rw[E6];simp only[XH,YY,e _ _ hN,e _ _ hY]
 clear hY hN;obtain⟨W1,a1⟩:∃W,W=(w.alloc (Zt #[.string x.w,F x.a x.l.length x.c,.bool x.o] 111)).alloc (Zt #[O I 0,O I 0,O I 0,F G 0 0,O I 0,F G 0 0,F G 0 0] 27):=⟨_,rfl⟩
 have k:Zm (Sg x w W1):=by rw[a1];exact Sg.start x w
 have p0:=k.out.b0;have p2:=k.out.b2;rw[ho] at p2;clear ho;go_enter func63,ntmps63;go_upto_region 1 with fail;rw[<-a1];clear a1;cases bY
 .cases bN
  .have HNO:=Yy g.out;clear g;obtain⟨d,r,c⟩:∃d r,x.w.data.toList=d::r:=by
    cases h:x.w.data.toList with
    |nil=>exact absurd h hw
    |cons d r=>exact⟨d,r,rfl⟩
   have hl:x.w.data.toList.length=x.w.size:=Zx;have h0:0<x.w.size:=by rw[<-hl,c];simp
   have hx:x.w[0]'h0=d:=by
    have h1:x.w.data.toList[0]?=U d:=by rw[c];rfl
    have h2:=Lib.data_getElem? x.w 0 h0;rw[h1] at h2;exact(Zh h2).symm
   have a3:r.length+1=x.w.size:=by rw[<-hl,c];simp
   by_cases h35:d=35
   .have hc:((d.toNat:Int)==35)=Ze:=by rw[h35];rfl
    have a2:∀w,(ZK 9 (.string x.w) (U (O I 1)) G G).run Zb w=.ok (.string (bw r)) w:=fun w=>by have:=Na x.w 1 (by omega) w;rw[c] at this;exact this
    obtain⟨Br,a0⟩:∃B,bw r=B:=⟨_,rfl⟩
    have p:Zm (Zy Zb 102 #[.string Br] W1 (Qs r W1)):=by have h:=OG Br W1 (by rw[<-a0];show r.toArray.size<=_;simp;omega);rw[<-a0] at h;rw[<-a0];exact h
    have HT:Zm (JS x.w.data.toList=(LZ r).map fun n=>⟨1,n,Yk,Yk,[]⟩):=by
     have h1:=HNO.out;show _=_
     rw[c,h35] at h1 ⊢;exact Ly r h1
    rw[a0] at a2;clear c hl a3 hw h35 a0 HNO;go_wp2_with fail;refine p.out.mono ?_;rintro e w3 ⟨m,ok,rfl,HM⟩;have a:=Yy (k.out.below HM.out.2.2.2);have HP:Zm (UT (JS x.w.data.toList) w (Zc (Zp #[Zu #[O I 1,O I m,O I 0,F G 0 0,O I 0,F G 0 0,F G 0 0],.bool ok])) (Xd w3 (w.heap.size+1) (Yr 1 m))):=by
     refine KM a.out ?_ (fun i hi=>?_)
     .rw[HM.out.1,HT.out];simp
     .rw[HT.out] at hi;obtain⟨v,hv,rfl⟩:=Y.1 hi;rw[HM.out.2.1 v hv]
    clear k p HM HT a2 p0 p2;have j:Zm _:=YU (x:=Yr 1 m) a.out.box;obtain⟨c0,c1,c2,c3,c4,c5,c6⟩:=a.out.box.at7;simp only[Zr,Yr] at c0 c1 c2 c3 c4 c5 c6;have f0:=a.out.box.fz 0 (by omega);have f1:=a.out.box.fz 1 (by omega);have f2:=a.out.box.fz 2 (by omega);have f3:=a.out.box.fz 3 (by omega);have f4:=a.out.box.fz 4 (by omega);have f5:=a.out.box.fz 5 (by omega);have f6:=a.out.box.fz 6 (by omega);clear a;go_wp2_with fail;refine Zi (v:=Zp #[Zu #[O I 1,O I m,O I 0,F G 0 0,O I 0,F G 0 0,F G 0 0],.bool ok]) ?_ rfl HP.out;obtain⟨d0,u,l,o,d4,d5,z⟩:=j.out;simp only[Yr,Zg] at d0 u l o d4 d5 z;simp[results,ZH,go_sem,d0,u,l,o,d4,d5,z]
   .have hc:((d.toNat:Int)==35)=Za:=by rw[beq_eq_false_iff_ne];intro e;exact h35 (UInt8.toNat_inj.1 (by show d.toNat=35;omega))
    have p:=Yy (OG x.w W1 hs);have HT:Zm (JS x.w.data.toList=(LZ x.w.data.toList).map fun n=>⟨2,n,Yk,Yk,[]⟩):=K9 _ HNO.out fun q e=>by rw[c] at e;exact h35 (List.cons.inj e).1
    clear c hl a3 hw h35 HNO;go_wp2_with fail;refine p.out.mono ?_;rintro e w3 ⟨m,ok,rfl,HM⟩;have a:=Yy (k.out.below HM.out.2.2.2);have HP:Zm (UT (JS x.w.data.toList) w (Zc (Zp #[Zu #[O I 2,O I m,O I 0,F G 0 0,O I 0,F G 0 0,F G 0 0],.bool ok])) (Xd w3 (w.heap.size+1) (Yr 2 m))):=by
     refine KM a.out ?_ (fun i hi=>?_)
     .rw[HM.out.1,HT.out];simp
     .rw[HT.out] at hi;obtain⟨v,hv,rfl⟩:=Y.1 hi;rw[HM.out.2.1 v hv]
    clear k p HM HT p0 p2;have j:Zm _:=YU (x:=Yr 2 m) a.out.box;obtain⟨c0,c1,c2,c3,c4,c5,c6⟩:=a.out.box.at7;simp only[Zr,Yr] at c0 c1 c2 c3 c4 c5 c6;have f0:=a.out.box.fz 0 (by omega);have f1:=a.out.box.fz 1 (by omega);have f2:=a.out.box.fz 2 (by omega);have f3:=a.out.box.fz 3 (by omega);have f4:=a.out.box.fz 4 (by omega);have f5:=a.out.box.fz 5 (by omega);have f6:=a.out.box.fz 6 (by omega);clear a;go_wp2_with fail;refine Zi (v:=Zp #[Zu #[O I 2,O I m,O I 0,F G 0 0,O I 0,F G 0 0,F G 0 0],.bool ok]) ?_ rfl HP.out;obtain⟨d0,u,l,o,d4,d5,z⟩:=j.out;simp only[Yr,Zg] at d0 u l o d4 d5 z;simp[results,ZH,go_sem,d0,u,l,o,d4,d5,z]
  .have HP:Zm (UT (JS x.w.data.toList) w (Zc (Zp #[Zu #[O I 3,O I 0,O I 0,F G 0 0,O I 0,F G 0 0,F G 0 0],.bool Ze])) (Xd W1 (w.heap.size+1) (Yr 3 0))):=KM k.out (by rw[UN _ 0 g.out];rfl) (fun i hi=>by rw[UN _ 0 g.out] at hi;exact Zh hi)
   have a:=k;clear g k;have j:Zm _:=YU (x:=Yr 3 0) a.out.box;obtain⟨c0,c1,c2,c3,c4,c5,c6⟩:=a.out.box.at7;simp only[Zr,Yr] at c0 c1 c2 c3 c4 c5 c6;have f0:=a.out.box.fz 0 (by omega);have f1:=a.out.box.fz 1 (by omega);have f2:=a.out.box.fz 2 (by omega);have f3:=a.out.box.fz 3 (by omega);have f4:=a.out.box.fz 4 (by omega);have f5:=a.out.box.fz 5 (by omega);have f6:=a.out.box.fz 6 (by omega);clear a;go_wp2_with fail;refine Zi (v:=Zp #[Zu #[O I 3,O I 0,O I 0,F G 0 0,O I 0,F G 0 0,F G 0 0],.bool Ze]) ?_ rfl HP.out;obtain⟨d0,u,l,o,d4,d5,z⟩:=j.out;simp only[Yr,Zg] at d0 u l o d4 d5 z;simp[results,ZH,go_sem,d0,u,l,o,d4,d5,z]
 .have HP:Zm (UT (JS x.w.data.toList) w (Zc (Zp #[Zu #[O I 3,O I 1,O I 0,F G 0 0,O I 0,F G 0 0,F G 0 0],.bool Ze])) (Xd W1 (w.heap.size+1) (Yr 3 1))):=by
   have a4:bN=Za:=by
    cases hb:bN
    .rfl
    .exfalso;rw[hb] at kN;have e1:x.w.toList=[110,111]:=by simpa using kN
     rw[e1] at kY;revert kY;decide
   have h1:=g.out;rw[a4] at h1;exact KM k.out (by rw[UN _ 1 h1];rfl) (fun i hi=>by rw[UN _ 1 h1] at hi;exact Zh hi)
  have a:=k;clear g k kN;have j:Zm _:=YU (x:=Yr 3 1) a.out.box;obtain⟨c0,c1,c2,c3,c4,c5,c6⟩:=a.out.box.at7;simp only[Zr,Yr] at c0 c1 c2 c3 c4 c5 c6;have f0:=a.out.box.fz 0 (by omega);have f1:=a.out.box.fz 1 (by omega);have f2:=a.out.box.fz 2 (by omega);have f3:=a.out.box.fz 3 (by omega);have f4:=a.out.box.fz 4 (by omega);have f5:=a.out.box.fz 5 (by omega);have f6:=a.out.box.fz 6 (by omega);clear a;go_wp2_with fail;refine Zi (v:=Zp #[Zu #[O I 3,O I 1,O I 0,F G 0 0,O I 0,F G 0 0,F G 0 0],.bool Ze]) ?_ rfl HP.out;obtain⟨d0,u,l,o,d4,d5,z⟩:=j.out;simp only[Yr,Zg] at d0 u l o d4 d5 z;simp[results,ZH,go_sem,d0,u,l,o,d4,d5,z]
structure CU(S:Nat)(k:Int)(t:Tr)(v:Z3)(cs:List TT)(W3 wr:Zq):Prop where
 row:O3 (S+1) v cs wr
 low:Zv S W3 wr
 box:∃a c,v=F a cs.length c/\XC wr S ⟨k,0,t,Ys 0,a,c,cs⟩
 tin:t.In wr/\t.Bl (fun b=>S+1<=b/\U b≠v.ownBlock)
theorem CU.lt{S:Nat}{k:Int}{t:Tr}{v:Z3}{cs:List TT}{W3 wr:Zq}(h:CU S k t v cs W3 wr):S<wr.heap.size:=by obtain⟨_,_,_,a⟩:=h.box;exact a.lt
theorem CU.step{S:Nat}{k:Int}{c:TT}{t:Tr}{gg cap1:Nat}{v:Z3}{cs:List TT}{W3 wr w1 w2 w3:Zq}{X:Obj}(h:CU S k t v cs W3 wr)(w:Zv wr.heap.size wr w1)(a0:c.In w2)(z:c.Bl (w1.heap.size<=·))(p:Zv w1.heap.size w1 w2)
  (o:w3.ownsRow (S+1) 27 7 (F (U ⟨gg,0,G⟩) (cs.length+1) cap1) (cs.length+1) (YW cs++[O I c.k,O I c.n,O I c.t.k,F c.t.a c.t.l.length c.t.c,O I c.f.k,F c.f.a c.f.l.length c.f.c,F c.a c.l.length c.c])) (d:(w2.alloc X).grownBy w3 v.ownBlock) (r:v.ownBlock=U gg\/gg=w2.heap.size+1) :
  CU S k t (F (U ⟨gg,0,G⟩) (cs.length+1) cap1) (cs++[c]) W3 (w3.setCell ⟨S,6,G⟩ (F (U ⟨gg,0,G⟩) (cs.length+1) cap1)):=by
 have s1:=w.size;have s2:=p.size;have a3:=h.lt;have j:=w.trans (p.mono s1);have u:=h.row.lt;obtain⟨a1,x⟩:=(h.row.below j).step a0 (z.mono fun b l=>⟨by omega,fun e=>by have:=(u b e.symm).2;omega⟩) (by simpa[YW] using o) d r;have m:∀k,k<=S->U k≠v.ownBlock:=fun k y e=>by have:=(u k e.symm).1;omega
 have g:∀k,k<wr.heap.size->U k≠v.ownBlock->w3.heap[k]?=wr.heap[k]?:=fun k y hn=>(x k (by omega) hn).trans (j.block k y);have q:∀k i,k≠S->(w3.setCell ⟨S,6,G⟩ (F (U ⟨gg,0,G⟩) (cs.length+1) cap1)).cell? ⟨k,i,G⟩=w3.cell? ⟨k,i,G⟩:=by intro k i y;rw[World.cell?_setCell_other];intro e;simp only[Addr.mk.injEq] at e;omega
 refine⟨a1.kept (R:=S) Yj (by omega),?_,?_,?_⟩
 .have hb3:Zv S (w2.alloc X) w3:=⟨d.os,d.tape,d.output,d.size,fun k y=>d.block k (by simp;omega) (m k (by omega))⟩
  have a2:Zv S w2 (w2.alloc X):=((Zf _ _).alloc (Zk _) _).mono (by omega);exact(((h.low.trans (j.mono (by omega))).trans a2).trans hb3).setCell (by simp) _
 .obtain⟨a,c0,hv,hbx⟩:=h.box;refine⟨U ⟨gg,0,G⟩,cap1,?_,?_⟩
  .rw[Zo,ZZ]
  .have:=(hbx.pp (g S (by omega) (m S (by omega)))).pz (a':=U ⟨gg,0,G⟩) (c':=cap1) (l':=cs++[c]);rw[Zo,ZZ] at this;exact this
 .obtain⟨i1,i2⟩:=h.tin;have i3:=i1.bl.and i2;refine⟨i1.congr (P:=fun b=>b<wr.heap.size/\S+1<=b/\U b≠v.ownBlock) (fun b l i=>?_) i3,i3.mono fun b l=>⟨l.2.1,?_⟩⟩
  .rw[q b i (by omega)];exact World.cell?_of_block (a:=⟨b,i,G⟩) (g b l.1 l.2.2)
  .show U b≠U gg
   rcases r with e|e
   .rw[<-e];exact l.2.2
   .simp only[ne_eq,Zz];omega
theorem Sg.qp{x:Nd}{w W V:Zq}{S:Nat}(h:Sg x w W)(hS:w.heap.size+1<S)(a:Zv S W V):Sg x w V:=by have c:∀b i,b<=w.heap.size+1->V.cell? ⟨b,i,G⟩=W.cell? ⟨b,i,G⟩:=fun b i h=>a.cell (p:=⟨b,i,G⟩) (show b<S by omega);have f:∀b i,b<=w.heap.size+1->V.frozen? ⟨b,i,G⟩=W.frozen? ⟨b,i,G⟩:=fun b i h=>a.frozen (p:=⟨b,i,G⟩) (show b<S by omega);exact⟨h.low.trans (a.mono (by omega)),(c _ _ (by omega)).trans h.b0,(c _ _ (by omega)).trans h.b1,(c _ _ (by omega)).trans h.b2,⟨h.box.at7.of fun i=>c _ i (by omega),fun i hi=>(f _ i (by omega)).trans (h.box.fz i hi)⟩⟩
theorem NV(x:ByteArray):∀(l:List ByteArray)(i j:Nat)(h:j<l.length),(∀q(hq:q<l.length),q<j->l[q]≠x)->l[j]=x->YY x l i=U (i+j)
 |y::r,i,0,_,_,hj=>by rw[YY,if_pos (by simpa using hj)];rfl
 |y::r,i,j+1,h,hn,hj=>by rw[YY,if_neg (by have:=hn 0 (by simp) (by omega);simpa using this)];rw[NV x r (i+1) j (by simpa using h) (fun q hq hqj=>by have:=hn (q+1) (by simpa using hq) (by omega);simpa using this) (by simpa using hj)];congr 1;omega
theorem OP(x:ByteArray):∀(l:List ByteArray)(i:Nat),(∀y,y∈l->y≠x)->YY x l i=G
 |[],_,_=>rfl
 |y::r,i,h=>by rw[YY,if_neg (h y Zs)];exact OP x r (i+1) fun z hz=>h z (Zj _ hz)
theorem AO(n:Nat)(x:Nd)(b:x.o=Ze)(a:x.l=[]):YV (n+1) x.tn=G:=by rw[YV,Nd.nf,if_neg (by rw[b];simp),Nd.oe,a];rfl
theorem AN(n:Nat)(x y:Nd)(r:List Nd)(a:x.o=Ze)(b:x.l=y::r)(c:y.o=Ze):YV (n+1) x.tn=G:=by rw[YV,Nd.nf,if_neg (by rw[a];simp),Nd.oe,b];simp[Nd.nf,c]
theorem VE(n:Nat)(x y:Nd)(r:List Nd)(a:x.o=Ze)(b:x.l=y::r)(c:y.o=Za):YV (n+1) x.tn=(X2 y.w).bind fun k=>(U4 n k (r.map Nd.tn)).bind fun p=>if p.2.length=Yu (k:Int) then (KJ (YV n) p.2).map fun l=>⟨(k:Int),0,p.1,Yk,l⟩ else G:=by rw[YV,Nd.nf,if_neg (by rw[a];simp),Nd.oe,b];simp only[ZO,Nd.nf,c,ZG,if_false,Nd.pk];rfl
structure PU(n:Nat)(L:List Nd)(ok0:Bool)(j:Nat)(ok:Bool)(cs:List TT):Prop where
 len:cs.length=j
 ok:ok=(ok0&&(L.take j).all fun y=>(YV n y.tn).isSome)
 tm:∀i(h:i<cs.length)(h':i<L.length)v,YV n L[i].tn=U v->cs[i].tm=v
theorem PU.start(n:Nat)(L:List Nd)(ok0:Bool):PU n L ok0 0 ok0 []:=⟨rfl,by simp,fun i h=>by cases h⟩
theorem PU.step{n:Nat}{L:List Nd}{ok0 ok b:Bool}{j:Nat}{cs:List TT}{z:TT}(h:PU n L ok0 j ok cs)(c:j<L.length)(g:b=(YV n L[j].tn).isSome)(hz:∀v,YV n L[j].tn=U v->z.tm=v):PU n L ok0 (j+1) (ok&&b) (cs++[z]):=by
 refine⟨by simp[h.len],?_,fun i hi d v a=>?_⟩
 .rw[h.ok,g,ZW c,List.all_append];simp[Bool.and_assoc]
 .by_cases hc:i<cs.length
  .rw[List.getElem_append_left hc];exact h.tm i hc d v a
  .have e:i=cs.length:=by simp at hi;omega
   subst e;rw[List.getElem_append_right (Zk _)];simp only[Nat.sub_self,ZD];exact hz v (by simpa only[h.len] using a)
theorem Rw{f:Tn->Option Tm}:∀l:List Tn,(l.all fun y=>(f y).isSome)=Za->KJ f l=G
 |[],h=>by simp at h
 |x::l,h=>by
  rw[KJ];simp only[List.all_cons,Bool.and_eq_false_iff] at h;rcases h with h|h
  .cases hf:f x with
   |none=>rfl
   |some t=>rw[hf] at h;cases h
  .rw[Rw l h];cases f x<;>rfl
theorem Rv{f:Tn->Option Tm}:∀(l:List Tn)(ts:List Tm),ts.length=l.length->(∀i(h:i<l.length)(h':i<ts.length),f l[i]=U ts[i])->KJ f l=U ts
 |[],[],_,_=>rfl
 |[],t::ts,h,_=>by simp at h
 |x::l,[],h,_=>by simp at h
 |x::l,t::ts,hl,h=>by
  rw[KJ,show f x=U t from h 0 (by simp) (by simp),Zl,Rv l ts (by simpa using hl) fun i h1 h2=>by have:=h (i+1) (by simpa using h1) (by simpa using h2);simpa using this]
  rfl
theorem PU.end{n:Nat}{L:List Nd}{ok0 ok:Bool}{cs:List TT}(h:PU n L ok0 L.length ok cs):(ok=Ze->ok0=Ze/\KJ (YV n) (L.map Nd.tn)=U (cs.map TT.tm))/\(ok=Za->ok0=Za\/KJ (YV n) (L.map Nd.tn)=G):=by
 have e:ok=(ok0&&L.all fun y=>(YV n y.tn).isSome):=by rw[h.ok,List.take_length]
 constructor
 .intro a;rw[e,ZF] at a;refine⟨a.1,Rv _ _ (by simp[h.len]) fun i d c=>?_⟩;have hi:i<L.length:=by simpa using d
  have g:=Yc.1 a.2 L[i] (ZY hi);obtain⟨v,b⟩:=Yb.1 g;have:=h.tm i (by simpa using c) hi v b;simp only[List.getElem_map];rw[b,this]
 .intro a;rw[e,Bool.and_eq_false_iff] at a;rcases a with a|a
  .exact .inl a
  .refine .inr (Rw _ ?_);rw[List.all_map];exact a
theorem Nd.In.tail{W:Zq}{wd:ByteArray}{a:Option Addr}{c:Nat}{y:Nd}{r:List Nd}{o:Bool}(h:(Nd.mk wd a c (y::r) o).In W):∃A1 C1,(∀V,(ZK 106 (F a (r.length+1) c) (U (O I 1)) G G).run Zb V=.ok (F A1 r.length C1) V)/\(Nd.mk ⟨#[]⟩ A1 C1 r Za).In W:=by
 obtain⟨i,g,hi⟩:=Nd.li.1 h;simp only[Zn] at i;refine⟨if c=1 then a else a.map (·.add 3),c-1,fun V=>?_,Nd.li.2 ⟨by omega,fun j e=>?_,fun t d=>hi t (Zj _ d)⟩⟩
 .rw[run_slice_l V 106 a (r.length+1) c (by kernel_rfl) I 1 (by omega) (by omega)];simp[go_sem]
 .obtain⟨b,f,ea,c0,c1,c2⟩:=g (j+1) (by simpa using e);refine⟨b,f+3,?_,?_,?_,?_⟩
  .rw[if_neg (by omega),ea];simp[Addr.add]
  .rw[show f+3+j*3=f+(j+1)*3 by omega];exact c0
  .rw[show f+3+j*3+1=f+(j+1)*3+1 by omega];exact c1
  .rw[show f+3+j*3+2=f+(j+1)*3+2 by omega];exact c2
theorem CU.below{S:Nat}{k:Int}{t:Tr}{v:Z3}{cs:List TT}{W3 wr w2:Zq}(h:CU S k t v cs W3 wr)(b:Zv wr.heap.size wr w2):CU S k t v cs W3 w2:=by obtain⟨a,c,e,d⟩:=h.box;exact⟨h.row.below b,h.low.trans (b.mono (Nat.le_of_lt h.lt)),⟨a,c,e,d.below b⟩,h.tin.1.below b,h.tin.2⟩
theorem CU.start{S:Nat}{k:Int}{W3:Zq}(h:XC W3 S (Yr k 0)):CU S k (Ys 0) (F G 0 0) [] W3 W3:=⟨O3.nil _ _,Zf _ _,⟨G,0,rfl,h⟩,YC 0 _,YF 0 _⟩
theorem CU.typed{S:Nat}{k:Int}{t:Tr}{W3 w4:Zq}(h:XC W3 S (Yr k 0))(c:Zv W3.heap.size W3 w4)(g:t.In w4)(a:t.Bl (W3.heap.size<=·)):CU S k t (F G 0 0) [] W3 ((w4.setCell ⟨S,2,G⟩ (O I t.k)).setCell ⟨S,3,G⟩ (F t.a t.l.length t.c)):=by have d:=h.lt;have e:=Pv (w:=w4) (J:=S) (u:=O I t.k) (v:=F t.a t.l.length t.c);refine⟨O3.nil _ _,((c.mono (Nat.le_of_lt d)).setCell (by simp) _).setCell (by simp) _,⟨G,0,rfl,(h.below c).qn⟩,g.lc e (a.mono fun b c=>by omega),a.mono fun b c=>⟨by omega,by simp[Value.ownBlock]⟩⟩
theorem Qh:∀l:List Nd,l.length<=(Xh (l.map Nd.tn)).length
 |[]=>by simp
 |x::l=>by have:=Qh l;have h1:=Uc x.tn;rw[ZO,YN,Zo,Zn];omega
theorem CX{x y:Tn}(h:x.nice)(a:y∈x.l):y.nice:=by obtain⟨w,l,o⟩:=x;exact(Tn.na.1 h).2.2 y a
theorem Fg{x:Tn}(h:x.nice)(a:x.o=Za):UI x.w:=by obtain⟨w,l,o⟩:=x;exact((Tn.na.1 h).2.1 a).2
theorem TN{x:Tn}{z:List UInt8}:∀{l:List Tn},x∈l->z∈x.flat->z∈Xh l
 |y::l,h,hz=>by
  rw[YN];rcases ZA.1 h with rfl|h
  .exact Z2 _ hz
  .exact List.mem_append_right _ (TN h hz)
theorem TM(t:Tn)(h:t.o=Za):t.flat=[t.w]:=by obtain⟨w,l,o⟩:=t;obtain rfl:o=Za:=h;exact X6 w l
theorem Tv(W:Zq)(j:Nat)(h:j<UZ.length):(W.alloc (Zt #[.string (bw (UM 4)),.string (bw (UM 5)),.string (bw (UM 6)),.string (bw (UM 7)),.string (bw (UM 8)),.string (bw (UM 9))] 9)).cell? ⟨W.heap.size,j,G⟩=U (.string UZ[j]):=by
 have a:j<6:=h;match j,a with
 |0,_=>simp;rfl
 |1,_=>simp;rfl
 |2,_=>simp;rfl
 |3,_=>simp;rfl
 |4,_=>simp;rfl
 |5,_=>simp;rfl
theorem AM(n:Nat)(x:Nd)(w:Zq)(hx:x.In w)(ho:x.o=Ze)(hta:Ta w)(hln:x.l.length<=3000)(hfl:Zm (∀y,y∈x.l->y.tn.flat.length<=n))
  (ih:Zm (∀(y:Nd)(W:Zq),y∈x.l->y.In W->Ta W->Zy Zb 63 #[Zu #[.string y.w,F y.a y.l.length y.c,.bool y.o]] W (UT (YV n y.tn) W))) :
  Zy Zb 63 #[Zu #[.string x.w,F x.a x.l.length x.c,.bool x.o]] w (UT (YV (n+1) x.tn) w):=by
 obtain⟨i0,d7,ct,d9,cy⟩:=info_parts Tryz.info27c;obtain⟨W1,ak⟩:∃W,W=(w.alloc (Zt #[.string x.w,F x.a x.l.length x.c,.bool x.o] 111)).alloc (Zt #[O I 0,O I 0,O I 0,F G 0 0,O I 0,F G 0 0,F G 0 0] 27):=⟨_,rfl⟩
 have HK:Zm (Sg x w W1):=by rw[ak];exact Sg.start x w
 have p1:=HK.out.b1;have p2:=HK.out.b2;rw[ho] at p2;rcases (show x.l=[]\/∃y r,x.l=y::r by cases x.l with
  |nil=>exact .inl rfl
  |cons y r=>exact .inr ⟨y,r,rfl⟩) with hl|⟨y,r,hl⟩
 .have HT:Zm (YV (n+1) x.tn=G):=AO n x ho hl;rw[hl,Zg] at p1;clear hx hta hln hfl ih ho hl;go_enter func63,ntmps63;go_upto_region 1 with fail;rw[<-ak];clear ak;have HP:Zm (UT (YV (n+1) x.tn) w (Zc (Zp #[Zu #[O I 0,O I 0,O I 0,F G 0 0,O I 0,F G 0 0,F G 0 0],.bool Za])) (Xd W1 (w.heap.size+1) (Yr 0 0))):=KM HK.out (by rw[HT.out];rfl) (fun i hi=>by rw[HT.out] at hi;cases hi)
  have d:=HK;clear HK HT;have a9:Zm _:=YU (x:=Yr 0 0) d.out.box;obtain⟨c0,c1,c2,c3,c4,c5,c6⟩:=d.out.box.at7;simp only[Zr,Yr] at c0 c1 c2 c3 c4 c5 c6;have f0:=d.out.box.fz 0 (by omega);have f1:=d.out.box.fz 1 (by omega);have f2:=d.out.box.fz 2 (by omega);have f3:=d.out.box.fz 3 (by omega);have f4:=d.out.box.fz 4 (by omega);have f5:=d.out.box.fz 5 (by omega);have f6:=d.out.box.fz 6 (by omega);clear d;go_wp2_with fail;refine Zi (v:=Zp #[Zu #[O I 0,O I 0,O I 0,F G 0 0,O I 0,F G 0 0,F G 0 0],.bool Za]) ?_ rfl HP.out;obtain⟨d0,d1,d2,d3,d4,d5,d6⟩:=a9.out;simp only[Yr,Zg] at d0 d1 d2 d3 d4 d5 d6;simp[results,ZH,go_sem,d0,d1,d2,d3,d4,d5,d6]
 .obtain⟨b,f,ea,e0,e1,e2,hy0⟩:=hx.part 0 (by rw[hl];simp);simp only[hl,ZD,Yg,Yh] at e0 e1 e2 hy0;have a4:Zm (∀z,z∈r->z∈x.l):=fun z hz=>by rw[hl];exact Zj _ hz
  have a3:Zm (x.In w/\Ta w/\r.length<=3000):=⟨hx,hta,by rw[hl] at hln;simp at hln;omega⟩
  have b3:Zm (∃A1 C1,(∀V,(ZK 106 (F (U ⟨b,f,G⟩) (r.length+1) x.c) (U (O I 1)) G G).run Zb V=.ok (F A1 r.length C1) V)/\(Nd.mk ⟨#[]⟩ A1 C1 r Za).In w):=by obtain⟨xw,xa,xc,xl,xo⟩:=x;obtain rfl:xl=y::r:=hl;obtain rfl:xa=U ⟨b,f,G⟩:=ea;exact hx.tail
  have a0:=Zw HK.out.low e0;have a2:=Zw HK.out.low e2;rw[hl,ea,Zn] at p1;have cz:(((r.length:Nat):Int)+1==0)=Za:=by rw[beq_eq_false_iff_ne];omega
  clear e0 e1 e2 hy0;by_cases hyo:y.o=Ze
  .have HT:Zm (YV (n+1) x.tn=G):=AN n x y r ho hl hyo;rw[hyo] at a2;clear hx hta hln hfl ih ho hl ea a4 a3 b3 hyo;go_enter func63,ntmps63;go_upto_region 1 with fail;rw[<-ak];clear ak;have HP:Zm (UT (YV (n+1) x.tn) w (Zc (Zp #[Zu #[O I 0,O I 0,O I 0,F G 0 0,O I 0,F G 0 0,F G 0 0],.bool Za])) (Xd W1 (w.heap.size+1) (Yr 0 0))):=KM HK.out (by rw[HT.out];rfl) (fun i hi=>by rw[HT.out] at hi;cases hi)
   have d:=HK;clear HK HT;have a9:Zm _:=YU (x:=Yr 0 0) d.out.box;obtain⟨c0,c1,c2,c3,c4,c5,c6⟩:=d.out.box.at7;simp only[Zr,Yr] at c0 c1 c2 c3 c4 c5 c6;have f0:=d.out.box.fz 0 (by omega);have f1:=d.out.box.fz 1 (by omega);have f2:=d.out.box.fz 2 (by omega);have f3:=d.out.box.fz 3 (by omega);have f4:=d.out.box.fz 4 (by omega);have f5:=d.out.box.fz 5 (by omega);have f6:=d.out.box.fz 6 (by omega);clear d;go_wp2_with fail;refine Zi (v:=Zp #[Zu #[O I 0,O I 0,O I 0,F G 0 0,O I 0,F G 0 0,F G 0 0],.bool Za]) ?_ rfl HP.out;obtain⟨d0,d1,d2,d3,d4,d5,d6⟩:=a9.out;simp only[Yr,Zg] at d0 d1 d2 d3 d4 d5 d6;simp[results,ZH,go_sem,d0,d1,d2,d3,d4,d5,d6]
  .have hyf:y.o=Za:=by simpa using hyo
   rw[hyf] at a2;have c7:=VE n x y r ho hl hyf;have ar:Zm (YV (n+1) x.tn=(X2 y.w).bind fun k=>(U4 n k (r.map Nd.tn)).bind fun p=>if p.2.length=Yu (k:Int) then (KJ (YV n) p.2).map fun l=>⟨(k:Int),0,p.1,Yk,l⟩ else G):=c7;obtain⟨W2,b9⟩:∃W,W=W1.alloc (Zt #[.string (bw (UM 4)),.string (bw (UM 5)),.string (bw (UM 6)),.string (bw (UM 7)),.string (bw (UM 8)),.string (bw (UM 9))] 9):=⟨_,rfl⟩
   have ax:Zm (Zv W1.heap.size W1 W2):=by rw[b9];exact(Zf _ _).alloc (Zk _) _
   have ac:Zm (Sg x w W2):=HK.out.below ax.out;have b8:Zm (∀j(h:j<UZ.length),W2.cell? ⟨W1.heap.size,j,G⟩=U (.string UZ[j])):=fun j h=>by rw[b9];exact Tv W1 j h
   have ci:Zm (Zy Zb 103 #[.string Mi] W1 fun e w'=>e=Zc (F (U ⟨W1.heap.size,0,G⟩) 6 6)/\w'=W2):=by rw[b9];exact Wx W1 (hta.below HK.out.low)
   have g1:W2.cell? ⟨w.heap.size,1,G⟩=U (F (U ⟨b,f,G⟩) (r.length+1) x.c):=by have:=ac.out.b1;rw[hl,ea,Zn] at this;exact this
   have g0:W2.cell? ⟨b,f,G⟩=U (.string y.w):=Zw ax.out a0;clear hx hta hln ho hl ea hyo hyf c7 b9;go_enter func63,ntmps63;go_upto_region 1 with fail;rw[<-ak];clear ak;go_wp2_with fail;refine ci.out.mono ?_;rintro e w2 ⟨rfl,bv⟩;rw[bv];clear bv w2 ci a0 a2 p1 p2 HK ax;go_wp2_with fail;go_loopg [68] 6 (fun g i wr=>∃j:Nat,g+j=6/\i=O I (j:Int)/\wr=W2/\Zm (∀q(h:q<UZ.length),q<j->UZ[q]≠y.w))
   case atStart=>exact⟨0,rfl,rfl,rfl,fun q h hq=>absurd hq (by omega)⟩
   case round=>
    obtain⟨j,hj,rfl,rfl,HJ⟩:=hrel;by_cases hj6:j<UZ.length
    .obtain⟨K,hKK⟩:∃K,UZ[j]'hj6=K:=⟨_,rfl⟩
     have gj:wr.cell? ⟨W1.heap.size,j,G⟩=U (.string K):=by rw[<-hKK];exact b8.out j hj6
     have dc:j<6:=hj6;have i1:(j:Int)<6:=by omega
     have i2:(0:Int)<=(j:Int):=by omega
     have i3:IntKind.i64.wrap ((j:Int)+1)=(j:Int)+1:=by rw[IntKind.wrap_i64];omega
     obtain⟨bb,bm⟩:∃bb,(y.w.toList==K.toList)=bb:=⟨_,rfl⟩
     cases bb
     .have HJ2:Zm (∀q(h:q<UZ.length),q<j+1->UZ[q]≠y.w):=fun q h hq=>by
       by_cases e:q<j
       .exact HJ.out q h e
       .obtain rfl:q=j:=by omega
        rw[hKK];rintro rfl;simp at bm
      clear ar ac b8 b3 a3 a4 hfl ih HJ hKK;go_wp2_with fail;go_roundg (gk-1)
      case measure=>omega
      case rel=>exact⟨j+1,by omega,by simp,rfl,HJ2.out⟩
     .obtain rfl:y.w=K:=(Lib.bytes_beq_iff _ _).1 bm;have bn:X2 y.w=U (4+j):=NV y.w UZ 4 j hj6 HJ.out hKK;obtain⟨o,bx⟩:∃o,4+j=o:=⟨_,rfl⟩
      rw[bx] at bn;have a6:Zm (YV (n+1) x.tn=(U4 n o (r.map Nd.tn)).bind fun p=>if p.2.length=Yu (o:Int) then (KJ (YV n) p.2).map fun l=>⟨(o:Int),0,p.1,Yk,l⟩ else G):=by
       show _=_
       rw[ar.out,bn,Zl]
      have i4:IntKind.i64.wrap ((j:Int)+4)=(o:Int):=by rw[IntKind.wrap_i64];omega
      have de:4<=o/\o<=9:=by omega
      obtain⟨A1,C1,an,bh⟩:=b3.out;have aa:Zm ((Nd.mk ⟨#[]⟩ A1 C1 r Za).In w):=bh;obtain⟨W3,az⟩:∃W,W=wr.alloc (Zt #[O I (o:Int),O I 0,O I 0,F G 0 0,O I 0,F G 0 0,F G 0 0] 27):=⟨_,rfl⟩
      have aq:Zm (Zv wr.heap.size wr W3):=by rw[az];exact(Zf _ _).alloc (Zk _) _
      obtain⟨S,hS⟩:∃S,wr.heap.size=S:=⟨_,rfl⟩
      have a8:Zm (XC W3 S (Yr (o:Int) 0)):=by have h7:=Uz.new wr (Yr (o:Int) 0);rw[<-hS,az];exact⟨h7,fun i hi=>by simp[go_sem]⟩
      have u:Zm (Sg x w W3):=ac.out.below aq.out;have HS:Zm (w.heap.size+1<S/\W3.heap.size=S+1):=⟨by rw[<-hS];exact ac.out.lt,by rw[az,<-hS];simp⟩
      have g3:W3.cell? ⟨w.heap.size,1,G⟩=U (F (U ⟨b,f,G⟩) (r.length+1) x.c):=Zw aq.out g1;obtain⟨s0,s1,s2,s3,s4,s5,s6⟩:=a8.out.at7;simp only[Zr,Yr] at s0 s1 s2 s3 s4 s5 s6;clear ar bn b8 b3 HJ hKK bh bm bx;go_upto_region 18 with fail;rw[<-az];(try rw[hS])
      clear az hS ac aq g1 g0 gj;go_upto_region 19 with fail;obtain⟨tl,be⟩:∃tl,XV (o:Int)=tl:=⟨_,rfl⟩
      have a5:Zm (XV (o:Int)=tl):=be;clear be;go_cut [93] (fun cu wx=>cu=.bool tl/\wx=W3)
      case first=>
       by_cases hk7:(o:Int)=7
       .have h1:((o:Int)==7)=Ze:=by rw[hk7];rfl
        have h2:tl=Ze:=by rw[<-a5.out,hk7];rfl
        subst h2;clear hk7 a5 u a6 aa a3 a4 hfl ih a8 HS;go_wp2_with fail;go_meet
        case rel=>exact⟨rfl,rfl⟩
       .have h1:((o:Int)==7)=Za:=by rw[beq_eq_false_iff_ne];exact hk7
        have h2:((o:Int)==9)=tl:=by rw[<-a5.out,XV,h1];rfl
        clear hk7 a5 u a6 aa a3 a4 hfl ih a8 HS;go_wp2_with fail;go_meet
        case rel=>exact⟨rfl,rfl⟩
      case rest=>
      obtain⟨d8,cg⟩:=hcut;rw[cg];clear cg;subst d8;go_upto_if 93 with fail;go_cut [11,12] (fun cr al wx=>∃(A2:Option Addr)(C2:Nat)(L:List Nd)(ad:Bool)(t:Tr),cr=F A2 L.length C2/\al=.bool ad/\Zm ((Nd.mk ⟨#[]⟩ A2 C2 L Za).In w/\(∀z,z∈L->z∈r)/\L.length<=3000/\CU S (o:Int) t (F G 0 0) [] W3 wx/\(ad=Ze->U4 n o (r.map Nd.tn)=U (t.ty,L.map Nd.tn))/\(ad=Za->U4 n o (r.map Nd.tn)=G)))
      case first=>
       cases tl
       rotate_left
       .have HTL2:Zm (XV (o:Int)=Ze):=a5.out;clear a5;cases r with
        |nil=>
         have HT:Zm (YV (n+1) x.tn=G):=by
          show _=_
          rw[a6.out,List.map_nil,Of _ _ HTL2.out];rfl
         have HP:Zm (UT (YV (n+1) x.tn) w (Zc (Zp #[Zu #[O I (o:Int),O I 0,O I 0,F G 0 0,O I 0,F G 0 0,F G 0 0],.bool Za])) (Xd W3 (w.heap.size+1) (Yr (o:Int) 0))):=KM u.out (by rw[HT.out];rfl) (fun i hi=>by rw[HT.out] at hi;cases hi)
         have d:=u;clear HT u a6 aa a3 a4 hfl ih a8 HS HTL2 an g3;simp only[Zg] at s3 s5 s6;have a9:Zm _:=YU (x:=Yr (o:Int) 0) d.out.box;obtain⟨c0,c1,c2,c3,c4,c5,c6⟩:=d.out.box.at7;simp only[Zr,Yr] at c0 c1 c2 c3 c4 c5 c6;have f0:=d.out.box.fz 0 (by omega);have f1:=d.out.box.fz 1 (by omega);have f2:=d.out.box.fz 2 (by omega);have f3:=d.out.box.fz 3 (by omega);have f4:=d.out.box.fz 4 (by omega);have f5:=d.out.box.fz 5 (by omega);have f6:=d.out.box.fz 6 (by omega);clear d;go_wp2_with fail;refine Zi (v:=Zp #[Zu #[O I (o:Int),O I 0,O I 0,F G 0 0,O I 0,F G 0 0,F G 0 0],.bool Za]) ?_ rfl HP.out;obtain⟨d0,d1,d2,d3,d4,d5,d6⟩:=a9.out;simp only[Yr,Zg] at d0 d1 d2 d3 d4 d5 d6;simp[results,ZH,go_sem,d0,d1,d2,d3,d4,d5,d6]
        |cons z r2=>
         obtain⟨b1,f1,bo,z0,z1,z2,bp⟩:=aa.out.part 0 (by simp);simp only[ZD,Yg,Yh] at z0 z1 z2 bp;replace bo:A1=U ⟨b1,f1,G⟩:=bo;subst bo;obtain⟨A2,C2,db,bf⟩:=aa.out.tail;have cw:=Zw u.out.low z0;have cn:=Zw u.out.low z1;have co:=Zw u.out.low z2;have bz:Zm (Zy Zb 104 #[Zu #[.string z.w,F z.a z.l.length z.c,.bool z.o]] W3 (J9 (Y5 n z.tn) W3)):=Tu n z W3 (bp.below u.out.low) (hfl.out z (a4.out z Zs));have ca:Zm ((Nd.mk ⟨#[]⟩ A2 C2 r2 Za).In w/\r2.length<=3000):=⟨bf,by have:=a3.out.2.2;simp at this;omega⟩
         have df:(((r2.length:Nat):Int)+1==0)=Za:=by rw[beq_eq_false_iff_ne];omega
         simp only[Zn] at an g3 cz;clear z0 z1 z2 bf bp aa a3 a4 ih hfl a6;go_wp2_with fail;refine bz.out.mono ?_;rintro e w4 ⟨tk,bk,rfl,am⟩;have ay:=a8.out.below am.out.2.2.2.2;have q2:=ay.at7.c2;have q3:=ay.at7.c3;simp only[Zr,Yr] at q2 q3;have dh:=ay.fz 2 (by omega);have dd:=ay.fz 3 (by omega);have cq:Zm (CU S (o:Int) tk (F G 0 0) [] W3 ((w4.setCell ⟨S,2,G⟩ (O I tk.k)).setCell ⟨S,3,G⟩ (F tk.a tk.l.length tk.c))):=CU.typed a8.out am.out.2.2.2.2 am.out.2.2.1 am.out.2.2.2.1;have bt:Zm ((bk=Ze->U4 n o ((z::r2).map Nd.tn)=U (tk.ty,r2.map Nd.tn))/\(bk=Za->U4 n o ((z::r2).map Nd.tn)=G)):=by
          have hh:=MJ n o z.tn (r2.map Nd.tn) HTL2.out;have h1:=am.out.1;have h2:=am.out.2.1;rw[ZO,hh];constructor
          .intro e;rw[e] at h1;obtain⟨i,hi⟩:=Yb.1 h1.symm;rw[hi,h2 i hi];rfl
          .intro e;rw[e] at h1;have da:Y5 n z.tn=G:=by
            cases h:Y5 n z.tn with
            |none=>rfl
            |some i=>rw[h] at h1;cases h1
           rw[da];rfl
         clear ay am bz HTL2 u a8 HS s0 s1 s2 s3 s4 s5 s6 cw cn co;go_wp2_with fail;go_meet
         case rel=>exact⟨A2,C2,r2,bk,tk,rfl,rfl,ca.out.1,fun q hq=>Zj _ hq,ca.out.2,cq.out,bt.out.1,bt.out.2⟩
       .have htl:¬XV (o:Int)=Ze:=by rw[a5.out];simp
        have HM:Zm ((Nd.mk ⟨#[]⟩ A1 C1 r Za).In w/\r.length<=3000/\CU S (o:Int) (Ys 0) (F G 0 0) [] W3 W3/\U4 n o (r.map Nd.tn)=U ((Ys 0).ty,r.map Nd.tn)):=⟨aa.out,a3.out.2.2,CU.start a8.out,by rw[NK _ _ _ htl,XL];rfl⟩
        clear u a6 aa a3 a4 hfl ih a8 HS an g3 htl a5;go_wp2_with fail;go_meet
        case rel=>exact⟨A1,C1,r,Ze,Ys 0,rfl,rfl,HM.out.1,fun z hz=>hz,HM.out.2.1,HM.out.2.2.1,fun _=>HM.out.2.2.2,fun e=>by cases e⟩
      case rest=>
      obtain⟨A2,C2,L,ad,t,cc,ae,a1⟩:=hcut;subst cc ae;clear an g3 s0 s1 s2 s3 s4 s5 s6 aa a5 a8;go_upto_region 24 with fail;go_cut [12] (fun al wy=>∃ah:Bool,al=.bool ah/\Zm (CU S (o:Int) t (F G 0 0) [] W3 wy/\(ah=Ze↔ad=Ze/\L.length=Yu (o:Int))))
      case first=>
       obtain⟨a',c',b5,a7⟩:=a1.out.2.2.2.1.box;have u0:wc.cell? ⟨S,0,G⟩=U (O I (o:Int)):=by simpa using a7.at7.c0
       clear b5 a7;cases ad
       .have HM:Zm (CU S (o:Int) t (F G 0 0) [] W3 wc):=a1.out.2.2.2.1;clear a1 a6 a3 a4 hfl ih u HS;go_wp2_with fail;go_meet
        case rel=>exact⟨Za,rfl,HM.out,⟨(fun e=>by cases e),fun e=>(by cases e.1)⟩⟩
       .have HPA:Zm (Zy Zb 98 #[O I (o:Int)] wc fun e w'=>e=Zc (O I (Yu (o:Int):Int))/\Zv wc.heap.size wc w'):=MH (o:Int) (by
         obtain rfl|rfl|rfl|rfl|rfl|rfl:o=4\/o=5\/o=6\/o=7\/o=8\/o=9:=by omega
         all_goals decide) wc
        obtain⟨P,hP⟩:∃P:Int,(Yu (o:Int):Int)=P:=⟨_,rfl⟩
        obtain⟨eq,cx⟩:∃eq,(((L.length:Nat):Int)==P)=eq:=⟨_,rfl⟩
        have c9:Zm (eq=Ze↔L.length=Yu (o:Int)):=by
         show _↔_
         rw[<-cx,beq_iff_eq,<-hP];omega
        rw[hP] at HPA;have bg:Zm (CU S (o:Int) t (F G 0 0) [] W3 wc):=a1.out.2.2.2.1;clear a1 a6 a3 a4 hfl ih u HS hP;go_wp2_with fail;refine HPA.out.mono ?_;rintro e w5 ⟨rfl,ck⟩;have HM:Zm (CU S (o:Int) t (F G 0 0) [] W3 w5):=bg.out.below ck;clear ck bg HPA u0;go_wp2_with fail;go_meet
        case rel=>exact⟨eq,rfl,HM.out,⟨fun e=>⟨trivial,c9.out.1 e⟩,fun e=>c9.out.2 e.2⟩⟩
      case rest=>
      obtain⟨ah,ae,ai⟩:=hcut;subst ae;go_upto_region 25 with fail;go_wp2_with fail;go_loopg [12,119] L.length (fun g al i wr=>∃(q:Nat)(v:Z3)(cs:List TT)(ok:Bool),g+q=L.length/\i=O I (q:Int)/\al=.bool ok/\Zm (CU S (o:Int) t v cs W3 wr/\PU n L ah q ok cs))
      case atStart=>exact⟨0,_,[],ah,by omega,rfl,rfl,ai.out.1,PU.start n L ah⟩
      case round=>
       obtain⟨q,v,cs,ok,hq,rfl,rfl,HR⟩:=hrel;by_cases hlt:q<L.length
       .obtain⟨b2,f2,bj,l0,l1,l2,ba⟩:=a1.out.1.part q hlt;replace bj:A2=U ⟨b2,f2,G⟩:=bj;subst bj;obtain⟨Z,hZ⟩:∃Z,L[q]'hlt=Z:=⟨_,rfl⟩
        replace l0:w.cell? ⟨b2,f2+q*3,G⟩=U (.string Z.w):=by rw[<-hZ];exact l0
        replace l1:w.cell? ⟨b2,f2+q*3+1,G⟩=U (F Z.a Z.l.length Z.c):=by rw[<-hZ];exact l1
        replace l2:w.cell? ⟨b2,f2+q*3+2,G⟩=U (.bool Z.o):=by rw[<-hZ];exact l2
        replace ba:Z.In w:=by rw[<-hZ];exact ba
        have ao:Zv w.heap.size w wr:=u.out.low.trans (HR.out.1.low.mono (by have:=HS.out.1;omega));replace l0:=Zw ao l0;replace l1:=Zw ao l1;replace l2:=Zw ao l2;obtain⟨V1,ap⟩:∃W,W=wr.alloc (Zt #[.string Z.w,F Z.a Z.l.length Z.c,.bool Z.o] 111):=⟨_,rfl⟩
        have bs:Zv wr.heap.size wr V1:=by rw[ap];exact(Zf _ _).alloc (Zk _) _
        have bc:Zm (Zv wr.heap.size wr V1):=bs;have y0:V1.cell? ⟨wr.heap.size,0,G⟩=U (.string Z.w):=by rw[ap];simp
        have y1:V1.cell? ⟨wr.heap.size,1,G⟩=U (F Z.a Z.l.length Z.c):=by rw[ap];simp
        have y2:V1.cell? ⟨wr.heap.size,2,G⟩=U (.bool Z.o):=by rw[ap];simp
        have b4:Zv w.heap.size w V1:=ao.trans (bs.mono ao.size);have c8:Zm (Zy Zb 63 #[Zu #[.string Z.w,F Z.a Z.l.length Z.c,.bool Z.o]] V1 (UT (YV n Z.tn) V1)):=ih.out Z V1 (a4.out Z (a1.out.2.1 Z (by rw[<-hZ];exact ZY hlt))) (ba.below b4) (a3.out.2.1.below b4);have b7:Zm (L[q]'hlt=Z):=hZ;have k1:(q:Int)<((L.length:Nat):Int):=by omega
        have k2:(0:Int)<=(q:Int):=by omega
        have k3:IntKind.i64.wrap ((q:Int)+1)=(q:Int)+1:=by have:=a1.out.2.2.1;rw[IntKind.wrap_i64];omega
        have dk:cs.length<=3000:=by have:=HR.out.2.len;have:=a1.out.2.2.1;omega
        clear ao bs b4 ba hZ a4 a3 ih hfl u a6;go_upto_region 28 with fail;rw[<-ap];clear ap l0 l1 l2;go_wp2_with fail;refine c8.out.mono ?_;rintro e w5 ⟨m,is,rfl,HZ⟩;clear c8 y0 y1 y2;obtain⟨V2,bd⟩:∃W,W=w5.alloc (Zt #[O I m.k,O I m.n,O I m.t.k,F m.t.a m.t.l.length m.t.c,O I m.f.k,F m.f.a m.f.l.length m.f.c,F m.a m.l.length m.c] 27):=⟨_,rfl⟩
        have b6:Zv w5.heap.size w5 V2:=by rw[bd];exact(Zf _ _).alloc (Zk _) _
        have aw:Zv V1.heap.size V1 V2:=HZ.out.2.2.2.2.trans (b6.mono HZ.out.2.2.2.2.size);have cd:Uz V2 w5.heap.size 0 m:=by rw[bd];exact Uz.new w5 m
        have aj:Zm (m.In V2/\m.Bl (V1.heap.size<=·)/\Zv V1.heap.size V1 V2/\is=(YV n Z.tn).isSome/\(∀i,YV n Z.tn=U i->m.tm=i)):=⟨HZ.out.2.2.1.below b6,HZ.out.2.2.2.1,aw,HZ.out.1,HZ.out.2.1⟩
        have af:Zm (CU S (o:Int) t v cs W3 V2):=(HR.out.1.below bc.out).below aw;have bq:Zm (Uz V2 w5.heap.size 0 m):=cd;clear b6 aw cd HZ;go_upto_region 29 with fail;rw[<-bd];clear bd;go_cut [12] (fun al wz=>al=.bool (ok&&is)/\wz=V2)
        case first=>
         clear af aj bq HR a1 HS ai b7 bc;cases ok
         .go_wp2_with fail;go_meet
          case rel=>exact⟨rfl,rfl⟩
         .go_wp2_with fail;go_meet
          case rel=>exact⟨rfl,rfl⟩
        case rest=>
        obtain⟨ae,cb⟩:=hcut;subst ae;rw[cb];clear cb;obtain⟨a0,c0,cl,a7⟩:=af.out.box;have q6:V2.cell? ⟨S,6,G⟩=U v:=by rw[cl];simpa using a7.at7.c6
        have qf:V2.frozen? ⟨S,6,G⟩=Za:=a7.fz 6 (by omega);obtain⟨z0,z1,z2,z3,z4,z5,z6⟩:=bq.out.all;have uo:(V2.alloc (Zt #[O I m.k,O I m.n,O I m.t.k,F m.t.a m.t.l.length m.t.c,O I m.f.k,F m.f.a m.f.l.length m.f.c,F m.a m.l.length m.c] 27)).ownsRow (S+1) 27 7 v cs.length (YW cs):=YX af.out.row.own ((Zf _ _).alloc (Zk _) _);have bi:=ZV V2 (Zt #[O I m.k,O I m.n,O I m.t.k,F m.t.a m.t.l.length m.t.c,O I m.f.k,F m.f.a m.f.l.length m.f.c,F m.a m.l.length m.c] 27);have bu:v.ownBlock≠U S:=fun e=>by have:=(af.out.row.lt _ e).1;omega
        have us:S<V2.heap.size:=a7.lt;have un:S≠V2.heap.size:=Nat.ne_of_lt us;clear cl a7;obtain⟨cm,au⟩:∃b,(ok&&is)=b:=⟨_,rfl⟩
        rw[au];go_wp2_with (at_builtin;refine ZS _ rfl _ _ _ rfl (S+1) 27 i0 _ 7 104 underlying25 d7 ct d9 cy rfl (by omega) v cs.length (YW cs) rfl uo ⟨V2.heap.size,0,G⟩ 1 1 [O I m.k,O I m.n,O I m.t.k,F m.t.a m.t.l.length m.t.c,O I m.f.k,F m.f.a m.f.l.length m.f.c,F m.a m.l.length m.c] rfl rfl (ZN (cs:=#[O I m.k,O I m.n,O I m.t.k,F m.t.a m.t.l.length m.t.c,O I m.f.k,F m.f.a m.f.l.length m.f.c,F m.a m.l.length m.c]) (t:=27) (fr:=(0,0)) bi) (by simp[Z5]) (by omega) (by unfold maxLen;omega) (by omega) (by simp;omega) (V2.heap.size+1) (by simp) ?_;intro gg cap1 w6 av ab cj cf;have dj:w6.cell? ⟨S,6,G⟩=U v:=(by rw[ab.cell_far _ (by simp;omega) (Ne.symm bu)];exact Zw ((Zf _ _).alloc (Zk _) _) q6);have di:w6.frozen? ⟨S,6,G⟩=Za:=(by rw[ab.frozen_far _ (by simp;omega) (Ne.symm bu)];exact(((Zf _ _).alloc (Zk _) _).frozen (p:=⟨S,6,G⟩) us).trans qf))
        have HN:Zm (CU S (o:Int) t (F (U ⟨gg,0,G⟩) (cs.length+1) cap1) (cs++[m]) W3 (w6.setCell ⟨S,6,G⟩ (F (U ⟨gg,0,G⟩) (cs.length+1) cap1))/\PU n L ah (q+1) cm (cs++[m])):=by refine⟨HR.out.1.step bc.out aj.out.1 aj.out.2.1 aj.out.2.2.1 av ab cj,?_⟩;rw[<-au];exact HR.out.2.step hlt (by rw[b7.out];exact aj.out.2.2.2.1) (fun v hv=>aj.out.2.2.2.2 v (by rw[<-b7.out];exact hv))
        clear av ab cj cf HR af aj bq au bi uo b7 bc;go_wp2_with fail;go_roundg (gk-1)
        case measure=>omega
        case rel=>exact⟨q+1,_,_,cm,by omega,by simp,rfl,HN⟩
       .have hqe:q=L.length:=by omega
        have k1:¬(q:Int)<((L.length:Nat):Int):=by omega
        obtain⟨a,c,hv,a7⟩:=HR.out.1.box;obtain⟨a',c',b5,b0⟩:=HR.out.1.row.tree;rw[hv] at b5;obtain⟨rfl,rfl⟩:a=a'/\c=c':=by cases b5;exact⟨rfl,rfl⟩
        have br:=b0 (o:Int) 0 t (Ys 0) HR.out.1.tin.1 (YC 0 _);have ce:=br.2 (fun b=>S+1<=b) (fun b hb=>hb) (HR.out.1.tin.2.mono fun b hb=>hb.1) (YF 0 _);have d:Zm (Sg x w wr):=u.out.qp HS.out.1 HR.out.1.low;have HP:Zm (UT (YV (n+1) x.tn) w (Zc (Zp #[Zu #[O I (o:Int),O I 0,O I t.k,F t.a t.l.length t.c,O I 0,F G 0 0,F a cs.length c],.bool ok])) (Xd wr (w.heap.size+1) (TT.mk (o:Int) 0 t (Ys 0) a c cs))):=by
         have ch:=HR.out.2;rw[hqe] at ch;obtain⟨p1,p2⟩:=ch.end;refine B9 (t:=TT.mk (o:Int) 0 t (Ys 0) a c cs) d.out ?_ (fun i hi=>?_) br.1 (ce.mono fun b hb=>by have:=HS.out.1;omega)
         .cases hok:ok
          .rw[a6.out];cases ho0:ad
           .rw[a1.out.2.2.2.2.2 ho0];rfl
           .rw[a1.out.2.2.2.2.1 ho0,Zl];simp only;by_cases hp:(L.map Nd.tn).length=Yu (o:Int)
            .rw[if_pos hp];rcases p2 hok with h|h
             .exfalso;have:=ai.out.2.2 ⟨ho0,by simpa using hp⟩;rw[h] at this;cases this
             .rw[h];rfl
            .rw[if_neg hp];rfl
          .obtain⟨h1,h2⟩:=p1 hok;obtain⟨h3,h4⟩:=ai.out.2.1 h1;rw[a6.out,a1.out.2.2.2.2.1 h3,Zl];simp only;rw[if_pos (by simpa using h4),h2];rfl
         .cases hok:ok
          .exfalso;rw[a6.out] at hi;cases ho0:ad
           .rw[a1.out.2.2.2.2.2 ho0] at hi;cases hi
           .rw[a1.out.2.2.2.2.1 ho0,Zl] at hi;simp only at hi;by_cases hp:(L.map Nd.tn).length=Yu (o:Int)
            .rw[if_pos hp] at hi;rcases p2 hok with h|h
             .have:=ai.out.2.2 ⟨ho0,by simpa using hp⟩;rw[h] at this;cases this
             .rw[h] at hi;cases hi
            .rw[if_neg hp] at hi;cases hi
          .obtain⟨h1,h2⟩:=p1 hok;obtain⟨h3,h4⟩:=ai.out.2.1 h1;rw[a6.out,a1.out.2.2.2.2.1 h3,Zl] at hi;simp only at hi;rw[if_pos (by simpa using h4),h2] at hi;rw[<-Zh hi,TT.ma,XL];rfl
        have a9:Zm _:=YU (x:=TT.mk (o:Int) 0 t (Ys 0) a c cs) d.out.box;obtain⟨c0,c1,c2,c3,c4,c5,c6⟩:=d.out.box.at7;simp only[Zr,Yr] at c0 c1 c2 c3 c4 c5 c6;have f0:=d.out.box.fz 0 (by omega);have f1:=d.out.box.fz 1 (by omega);have f2:=d.out.box.fz 2 (by omega);have f3:=d.out.box.fz 3 (by omega);have f4:=d.out.box.fz 4 (by omega);have f5:=d.out.box.fz 5 (by omega);have f6:=d.out.box.fz 6 (by omega);obtain⟨s0,s1,s2,s3,s4,s5,s6⟩:=a7.at7;simp only[Zr,Ys,Zg] at s0 s1 s2 s3 s4 s5 s6;clear d HR a1 ai u HS a6 a7 br ce b0 hv b5 a4 a3 hfl ih hqe;go_wp2_with fail;refine Zi (v:=Zp #[Zu #[O I (o:Int),O I 0,O I t.k,F t.a t.l.length t.c,O I 0,F G 0 0,F a cs.length c],.bool ok]) ?_ rfl HP.out;obtain⟨d0,d1,d2,d3,d4,d5,d6⟩:=a9.out;simp only[Ys,Zg] at d0 d1 d2 d3 d4 d5 d6;simp[results,ZH,go_sem,d0,d1,d2,d3,d4,d5,d6]
    .have hj66:¬j<6:=hj6;have dg:j=6:=by omega
     have i1:¬(j:Int)<6:=by omega
     have HT:Zm (YV (n+1) x.tn=G):=by
      show _=_
      rw[ar.out,X2,OP y.w UZ 4 fun z hz=>by obtain⟨q,hq,rfl⟩:=List.getElem_of_mem hz;have dl:q<6:=hq;exact HJ.out q hq (by omega)]
      rfl
     clear ar b8 b3 a3 a4 hfl ih HJ hj;have HP:Zm (UT (YV (n+1) x.tn) w (Zc (Zp #[Zu #[O I 0,O I 0,O I 0,F G 0 0,O I 0,F G 0 0,F G 0 0],.bool Za])) (Xd wr (w.heap.size+1) (Yr 0 0))):=KM ac.out (by rw[HT.out];rfl) (fun i hi=>by rw[HT.out] at hi;cases hi)
     have d:=ac;clear ac HT;have a9:Zm _:=YU (x:=Yr 0 0) d.out.box;obtain⟨c0,c1,c2,c3,c4,c5,c6⟩:=d.out.box.at7;simp only[Zr,Yr] at c0 c1 c2 c3 c4 c5 c6;have f0:=d.out.box.fz 0 (by omega);have f1:=d.out.box.fz 1 (by omega);have f2:=d.out.box.fz 2 (by omega);have f3:=d.out.box.fz 3 (by omega);have f4:=d.out.box.fz 4 (by omega);have f5:=d.out.box.fz 5 (by omega);have f6:=d.out.box.fz 6 (by omega);clear d;go_wp2_with fail;refine Zi (v:=Zp #[Zu #[O I 0,O I 0,O I 0,F G 0 0,O I 0,F G 0 0,F G 0 0],.bool Za]) ?_ rfl HP.out;obtain⟨d0,d1,d2,d3,d4,d5,d6⟩:=a9.out;simp only[Yr,Zg] at d0 d1 d2 d3 d4 d5 d6;simp[results,ZH,go_sem,d0,d1,d2,d3,d4,d5,d6]
theorem SE:∀(n:Nat)(x:Nd)(w:Zq),x.In w->Ta w->x.tn.nice->x.tn.flat.length<=n->(∀y,y∈x.tn.flat->y.length<=2000)->n<=3000->Zy Zb 63 #[Zu #[.string x.w,F x.a x.l.length x.c,.bool x.o]] w (UT (YV n x.tn) w)
 |0,x,w,_,_,_,h,_,_=>by have:=Uc x.tn;omega
 |n+1,x,w,hx,ht,hn,h,hf,h3000=>by
  by_cases ho:x.o=Ze
  .have hfo:=Ak x.tn (by rw[Nd.nf];exact ho);rw[hfo] at h hf;simp only[Zn,Zo,Zg] at h;have hmem:∀y,y∈x.l->y.tn∈x.tn.l:=fun y hy=>by rw[Nd.oe];exact List.mem_map.2 ⟨y,hy,rfl⟩
   have hlen:∀y,y∈x.l->y.tn.flat.length<=n:=fun y hy=>by have:=Xm (hmem y hy);omega
   have hcount:x.l.length<=(Xh x.tn.l).length:=by rw[Nd.oe];exact Qh _
   refine AM n x w hx ho ht (by omega) hlen fun y W hy b c=>SE n y W b c ?_ (hlen y hy) ?_ (by omega)
   .exact CX hn (hmem y hy)
   .intro z hz;refine hf z (Zj _ (Z2 _ ?_));exact TN (hmem y hy) hz
  .have hof:x.o=Za:=by simpa using ho
   have a:=Fg hn (by rw[Nd.nf];exact hof);rw[Nd.pk] at a;refine AL n x w hof a.1 ?_;have:=hf x.w.data.toList (by have e:=TM x.tn (by rw[Nd.nf];exact hof);rw[e,Nd.pk];exact Z6.2 rfl)
   rw[Zx] at this;exact this
def RH(s:List UInt8)(wi:Bool):Option (List Tn×List UInt8):=XT (2*s.length+3) s wi
def Ci(x:Tn):Option Tm:=YV x.flat.length x
def N9(s:List UInt8):Option Tm:=
 match RH s Za with
 |some ([x],_)=>(Ci x).bind fun t=>if UC 0 t=Ze then U t else G
 |_=>G
theorem Cp:∀(x:Tm)(ins:Nat),J8 x ins->ins+x.sz<=1000->LD x:=by
 intro x;induction x using Tm.ind with
 |h k n t f l ih=>
  intro ins h g;obtain⟨c,d⟩:=Kf.1 h;rw[Tm.lm] at g;refine MD.2 ⟨?_,fun y b=>ih y b _ (d y b) ?_⟩
  .simp only[U3,Xx,ZF] at c;have a:=c.2.2;split at a
   .simp only[ZF,decide_eq_true_eq] at a;omega
   .split at a
    .simp only[ZF,decide_eq_true_eq] at a;omega
    .split at a
     .simp only[ZL,beq_iff_eq] at a;omega
     .simp only[beq_iff_eq] at a;omega
  .have e:=JE l y b;split<;>omega
theorem Lx(s:List UInt8):Y8 s=Xy (XF [] s):=rfl
theorem V5(s:List UInt8):N9 s=XE s:=by
 have o:∀x,x∈XF [] s->NZ x:=QT s [] (fun _ h=>by cases h);have a0:=MC s [];have c:∀t,N9 s=U t↔XE s=U t:=by
  intro t;constructor
  .intro h;rw[N9] at h;split at h
   .rename_i x r j;obtain⟨u,hu,h⟩:=Zd.1 h;split at h
    .rename_i hg;obtain rfl:=Zh h;have i:=Ki (2*s.length+3) s Za;rw[RH] at j;rw[j] at i;obtain⟨a1,l,a3⟩:=JU _ _ _ _ _ o i.symm;simp only[ZG,if_false,ZB,YN,JL] at l;have g:=QU _ x u (a1 x (by simp)) hu ((XF [] s).length+1) [] (by rw[l];omega);rw[ZB,<-l,<-Lx] at g;have m:(Y8 s).length=(XF [] s).length:=by rw[Lx,Xy,List.length_map]
     rw[XE,m,g];simp only;rw[if_pos hg]
    .cases h
   .cases h
  .intro h;have m:(Y8 s).length=(XF [] s).length:=by rw[Lx,Xy,List.length_map]
   rw[XE] at h;split at h
   .rename_i u hu;split at h
    .rename_i hg;obtain rfl:=Zh h;obtain⟨w,g2⟩:=Mn hg;rw[Lx] at hu;obtain⟨x,d,j,e,e',ht⟩:=Q3 _ _ u [] o hu (Cp u 0 w (by omega));obtain rfl:d=[]:=by
      cases d with
      |nil=>rfl
      |cons a b=>cases e'
     rw[ZB] at e;have k:∀y,y∈[x]->y.nice:=fun y z=>by rw[Z6.1 z];exact j
     have i:=L4 _ [x] [] Za 1 ([],[]) (Zk _) k (by simp[XN]);simp only[YN,JL,ZB] at i;have g:=Jb _ (2*s.length+3) _ _ _ (by rw[<-e];omega) i;rw[<-e,<-Ki] at g;obtain⟨p,q,he⟩:=Y.1 g;obtain⟨p1,p2⟩:=p;obtain⟨rfl,_⟩:=ZE he;rw[N9,RH,q];have h3:Ci x=U u:=by
      rw[Ci,<-ht];refine Pq _ _ _ (Zk _) ?_;have:(Xy (XF [] s)).length=(XF [] s).length:=by rw[Xy,List.length_map]
      rw[this,e];omega
     simp only;rw[h3,Zl,if_pos hg]
    .cases h
   .cases h
 cases hr:N9 s with
 |some t=>exact((c t).1 hr).symm
 |none=>
  cases hs:XE s with
  |none=>rfl
  |some t=>rw[(c t).2 hs] at hr;cases hr
theorem TO(t:Tn)(h:t.o=Ze):t.flat=[40]::(Xh t.l++[[41]]):=by obtain⟨w,l,o⟩:=t;obtain rfl:o=Ze:=h;exact X7 w l
theorem PX:∀(n:Nat)(x:Tn)(t:Ty),Y5 n x=U t->t.sz<=x.flat.length
 |0,_,_,h=>by simp[Y5] at h
 |n+1,x,t,h=>by
  rw[Y5] at h;by_cases ho:x.o=Za
  .rw[if_pos ho] at h;obtain⟨k,_,rfl⟩:=Y.1 h;have:=Uc x;rw[Ty.lm];simpa using this
  .rw[if_neg ho] at h;split at h
   .rename_i a b c hl;split at h
    .obtain⟨p,hp,h⟩:=Zd.1 h;obtain⟨q,hq,rfl⟩:=Y.1 h;have h1:=PX n b p hp;have h2:=PX n c q hq;rw[TO x (by simpa using ho),hl];simp only[YN,JL,ZB,Zn,Zo,Zg];rw[Ty.lm];simp only[ZO,List.map_nil,List.sum_cons,List.sum_nil];omega
    .cases h
   .cases h
def CQ(m:Nat):Tm->Prop
 |⟨k,n,t,f,l⟩=>((Lit.int I k).wf=Ze/\(Lit.int I n).wf=Ze/\t.sz<=m/\f.sz<=m/\l.length<=m)/\∀y,y∈l->CQ m y
theorem RZ{m:Nat}{k n:Int}{t f:Ty}{l:List Tm}:CQ m ⟨k,n,t,f,l⟩↔((Lit.int I k).wf=Ze/\(Lit.int I n).wf=Ze/\t.sz<=m/\f.sz<=m/\l.length<=m)/\∀y,y∈l->CQ m y:=by rw[CQ]
theorem E3{m:Nat}(x:TT):CQ m x.tm->x.ok m:=by
 induction x using TT.ind with
 |h k n t f a c l ih=>intro h;rw[TT.ma] at h;obtain⟨⟨i,e,o,g,j⟩,d⟩:=RZ.1 h;exact TT.nc.2 ⟨⟨i,e,by rw[Tr.qo];exact o,by rw[Tr.qo];exact g,by simpa using j⟩,fun y b=>ih y b (d _ (List.mem_map.2 ⟨y,b,rfl⟩))⟩
theorem La(v:Int)(h:-9999999<=v/\v<=9999999):(Lit.int I v).wf=Ze:=by
 have a:IntKind.i64.min=-9223372036854775808:=by decide
 have b:IntKind.i64.max=9223372036854775807:=by decide
 simp[Lit.wf,a,b];omega
theorem B2{w:List UInt8}{i:Tm}(h:JS w=U i):CQ 3000 i/\i.sz=1:=by
 have a:∀k n:Int,(-9999999<=k/\k<=9999999)->(-9999999<=n/\n<=9999999)->CQ 3000 ⟨k,n,Yk,Yk,[]⟩/\(Tm.mk k n Yk Yk []).sz=1:=fun k n g c=>⟨RZ.2 ⟨⟨La k g,La n c,by rw[Yk,Ty.lm];simp,by rw[Yk,Ty.lm];simp,by simp⟩,fun y j=>by cases j⟩,by rw[Tm.lm];simp⟩
 cases ha:YY (bw w) XH 0 with
 |some b=>
  rw[UN w b ha] at h;obtain rfl:=Zh h;have l:b<=1:=by
   simp only[XH,YY] at ha;split at ha
   .have:=Zh ha;omega
   .split at ha
    .have:=Zh ha;omega
    .cases ha
  exact a 3 b (by omega) (by omega)
 |none=>
  rcases R7 w with⟨d,rfl⟩|e
  .rw[Ly d ha] at h;obtain⟨n,c,rfl⟩:=Y.1 h;exact a 1 n (by omega) (NG c).2
  .rw[K9 w ha e] at h;obtain⟨n,c,rfl⟩:=Y.1 h;exact a 2 n (by omega) (NG c).2
theorem Qr{f:Tn->Option Tm}{Q:Tn->Tm->Prop}(hf:∀x t,f x=U t->Q x t):∀(l:List Tn)(ts:List Tm),(∀x,x∈l->True)->KJ f l=U ts->ts.length=l.length/\∀i(h:i<l.length)(h':i<ts.length),Q l[i] ts[i]
 |[],ts,_,h=>by obtain rfl:=Zh h;exact⟨rfl,fun i h=>by cases h⟩
 |x::l,ts,_,h=>by
  rw[KJ] at h;obtain⟨t,ht,h⟩:=Zd.1 h;obtain⟨us,hu,rfl⟩:=Y.1 h;obtain⟨h1,h2⟩:=Qr hf l us (fun _ _=>trivial) hu;refine⟨by simp[h1],fun i hi hi'=>?_⟩;cases i with
  |zero=>exact hf x t ht
  |succ i=>exact h2 i (by simpa using hi) (by simpa using hi')
theorem SG:∀(l:List Tn)(ts:List Tm),ts.length=l.length->(∀i(h:i<l.length)(h':i<ts.length),ts[i].sz<=l[i].flat.length)->(ts.map Tm.sz).sum<=(Xh l).length
 |[],[],_,_=>by simp[Xh]
 |[],t::ts,h,_=>by simp at h
 |x::l,[],h,_=>by simp at h
 |x::l,t::ts,hl,h=>by
  have h0:=h 0 (by simp) (by simp);have h1:=SG l ts (by simpa using hl) fun i a b=>by have:=h (i+1) (by simpa using a) (by simpa using b);simpa using this
  simp only[ZD] at h0;rw[YN,Zo,ZO,List.sum_cons];omega
theorem PI(k:Int):Yu k<=3:=by
 unfold Yu;split
 .omega
 .split
  .omega
  .split<;>omega
theorem By{x:ByteArray}{k:Nat}(h:X2 x=U k):k<=9:=by
 simp only[X2,UZ,YY] at h;repeat' split at h
 all_goals first|(have:=Zh h;omega)|cases h
theorem SF:∀(n:Nat)(x:Tn)(i:Tm),YV n x=U i->x.flat.length<=3000->CQ 3000 i/\i.sz<=x.flat.length
 |0,_,_,h,_=>by simp[YV] at h
 |n+1,x,i,h,hl=>by
  rw[YV] at h;by_cases ho:x.o=Za
  .rw[if_pos ho] at h;have:=B2 h;have hp:=Uc x;exact⟨this.1,by omega⟩
  .rw[if_neg ho] at h;have hfo:=TO x (by simpa using ho);split at h
   .cases h
   .rename_i y r hxl;split at h
    .cases h
    .obtain⟨k,hk,h⟩:=Zd.1 h;obtain⟨p,hp,h⟩:=Zd.1 h;split at h
     .rename_i hlen;obtain⟨ts,hts,rfl⟩:=Y.1 h;rw[hxl,YN] at hfo;have hlf:x.flat.length=y.flat.length+(Xh r).length+2:=by rw[hfo];simp;omega
      have j:=Uc y;have g:p.1.sz<=3000/\(Xh p.2).length<=(Xh r).length/\∀z,z∈p.2->z.flat.length<=(Xh r).length:=by
       by_cases c:XV (k:Int)=Ze
       .cases r with
        |nil=>rw[Of _ _ c] at hp;cases hp
        |cons z r=>rw[MJ _ _ _ _ c] at hp;obtain⟨q,d,rfl⟩:=Y.1 hp;have:=PX n z q d;rw[YN,Zo] at hlf ⊢;refine⟨by show q.sz<=3000;omega,by show (Xh r).length<=_;omega,fun u hu=>?_⟩;have o:u.flat.length<=(Xh r).length:=Xm hu;omega
       .rw[NK _ _ _ c] at hp;obtain rfl:=Zh hp;exact⟨by show Yk.sz<=3000;rw[Yk,Ty.lm];simp,Zk _,fun u hu=>Xm hu⟩
      obtain⟨l,e⟩:=Qr (f:=fun z=>if z.flat.length<=3000 then YV n z else G) (Q:=fun z t=>CQ 3000 t/\t.sz<=z.flat.length) (fun z t hz=>by
       split at hz
       .exact SF n z t hz (by assumption)
       .cases hz) p.2 ts (fun _ _=>trivial) (by
       rw[<-hts];refine Nr p.2 fun z hz=>?_;have:=g.2.2 z hz;rw[if_pos (by omega)])
      have m:=PI (k:Int);have w:=By hk;refine⟨RZ.2 ⟨⟨La _ (by omega),La _ (by omega),g.1,by rw[Yk,Ty.lm];simp,by omega⟩,fun t c=>?_⟩,?_⟩
      .obtain⟨q,d,rfl⟩:=List.getElem_of_mem c;exact(e q (by omega) d).1
      .rw[Tm.lm];have:=SG p.2 ts l fun q a b=>(e q a b).2;omega
     .cases h
theorem Rl{x:Tn}{z:List UInt8}:∀{l:List Tn},x∈l->z∈x.flat->z∈Xh l
 |y::l,h,hz=>by
  rw[YN];rcases ZA.1 h with rfl|h
  .exact Z2 _ hz
  .exact List.mem_append_right _ (Rl h hz)
theorem Ec{s:List UInt8}{l:List Tn}{r:List UInt8}(h:TR s Za=U (l,r))(j:s.length<=1000):∀x,x∈l->x.nice/\x.flat.length<=3000/\∀y,y∈x.flat->y.length<=2000:=by
 have d:=Ki (s.length+1) s Za;rw[TR] at h;rw[h] at d;have e:∀x,x∈XF [] s->NZ x:=QT s [] (fun _ h=>by cases h);obtain⟨g,a,_⟩:=JU _ _ _ _ _ e d.symm;simp only[ZG,if_false,ZB] at a;have b:=MC s [];intro x c;refine⟨g x c,?_,fun y i=>?_⟩
 .have:=Xm c;rw[a] at b;omega
 .have hm:y∈XF [] s:=by rw[a];exact Rl c i
  have:=Le s [] y hm;simp at this;omega
theorem PJ(s:List UInt8):XE s=match TR s Za with
  |some ([x],_)=>(YV x.flat.length x).bind fun t=>if UC 0 t=Ze then U t else G
  |_=>G:=by
 rw[<-V5,N9,RH,Av _ s Za (by omega)];rfl
def K7(s:ByteArray)(w:Zq)(e:Ending)(w':Zq):Prop:=∃(x:TT)(er:Int),e=Zc (Zp #[Zu #[O I x.k,O I x.n,O I x.t.k,F x.t.a x.t.l.length x.t.c,O I x.f.k,F x.f.a x.f.l.length x.f.c,F x.a x.l.length x.c],O I er])/\Zm (x.In w'/\Zv w.heap.size w w'/\ ((1000<s.size/\er=4/\x=Yr 0 0)\/(s.size<=1000/\XE s.data.toList=G/\er=1/\x=Yr 0 0)\/(s.size<=1000/\XE s.data.toList=U x.tm/\er=0)))
theorem Bj{m m':Nat}{x:TT}:x.ok m->m<=m'->x.ok m':=by
 induction x using TT.ind with
 |h k n t f a c l ih=>intro h d;obtain⟨⟨i,g,p,j,o⟩,e⟩:=TT.nc.1 h;exact TT.nc.2 ⟨⟨i,g,by omega,by omega,by omega⟩,fun y b=>ih y b (e y b) d⟩
theorem QE(s:ByteArray)(w:Zq)(hta:Ta w):Zy Zb 40 #[.string s] w (K7 s w):=by
 obtain⟨W1,a1⟩:∃W,W=w.alloc (Zt #[O I 0,O I 0,O I 0,F G 0 0,O I 0,F G 0 0,F G 0 0] 27):=⟨_,rfl⟩
 have aa:Zm (bL w W1):=by rw[a1];exact(Zf _ _).alloc (Zk _) _
 have ai:Zm (XC W1 w.heap.size (Yr 0 0)):=by rw[a1];exact⟨Uz.new w (Yr 0 0),fun i hi=>by simp[go_sem]⟩
 have o:Zm (∀V,bL W1 V->XC V w.heap.size (Yr 0 0)/\bL w V/\Ta V):=fun V hV=>by have hb:=aa.out.trans (hV.mono aa.out.size);exact⟨ai.out.below hV,hb,hta.below hb⟩
 clear aa ai hta;by_cases hs:s.size<=1000
 .have hgt:¬(1000:Int)<((s.size:Nat):Int):=by omega
  have ab:s.data.toList.length<=1000:=by have hl:s.data.toList.length=s.size:=Zx;omega
  have k:Zm (XE s.data.toList=G->∀V,bL W1 V->K7 s w (Zc (Zp #[Zu #[O I 0,O I 0,O I 0,F G 0 0,O I 0,F G 0 0,F G 0 0],O I 1])) (Xd V w.heap.size (Yr 0 0))):=fun hp V hV=>⟨Yr 0 0,1,rfl,Jh _ _ _,Kw (o.out V hV).2.1,.inr (.inl ⟨hs,hp,rfl,rfl⟩)⟩
  have ak:Zm (Zy Zb 62 #[.string s,.bool Za] W1 (Mw s Za W1)):=QS s.size s Za W1 (Zk _) hs;go_enter func40,ntmps40;go_upto_region 1 with fail;rw[<-a1];clear a1;go_wp2_with fail;refine ak.out.mono ?_;rintro e w2 ⟨a,c,ts,R,ok,rfl,m⟩;clear ak;have H2:=Yy m.out.2.1;cases ok
  .have j:Zm (∀V,Zv W1.heap.size W1 V->K7 s w (Zc (Zp #[Zu #[O I 0,O I 0,O I 0,F G 0 0,O I 0,F G 0 0,F G 0 0],O I 1])) (Xd V w.heap.size (Yr 0 0))):=k.out (by
    rw[PJ];rcases m.out.2.2 with⟨h,_⟩|⟨p,_,h,_⟩
    .rw[h]
    .cases h)
   clear k m;have m:Zm (K7 s w (Zc (Zp #[Zu #[O I 0,O I 0,O I 0,F G 0 0,O I 0,F G 0 0,F G 0 0],O I 1])) (Xd w2 w.heap.size (Yr 0 0))):=j.out w2 H2.out;have d:=(o.out w2 H2.out).1;have l:Zm _:=YU (x:=Yr 0 0) d;obtain⟨c0,c1,c2,c3,c4,c5,c6⟩:=d.at7;simp only[Zr,Yr] at c0 c1 c2 c3 c4 c5 c6;have f0:=d.fz 0 (by omega);have f1:=d.fz 1 (by omega);have f2:=d.fz 2 (by omega);have f3:=d.fz 3 (by omega);have f4:=d.fz 4 (by omega);have f5:=d.fz 5 (by omega);have f6:=d.fz 6 (by omega);clear d j o H2;go_wp2_with fail;refine Zi (v:=Zp #[Zu #[O I 0,O I 0,O I 0,F G 0 0,O I 0,F G 0 0,F G 0 0],O I 1]) ?_ rfl m.out;obtain⟨y,d1,r,d3,d4,z,u⟩:=l.out;simp only[Yr,Zg] at y d1 r d3 d4 z u;simp[results,ZM,go_sem,y,d1,r,d3,d4,z,u]
  .obtain⟨p,hp,hpt,hpr⟩:∃p,TR s.data.toList Za=U p/\ts.map Nd.tn=p.1/\R.data.toList=p.2:=by
    rcases m.out.2.2 with⟨_,h⟩|⟨p,h1,_,h2,h3⟩
    .cases h
    .exact⟨p,h1,h2,h3⟩
   by_cases h1:ts.length=1
   .obtain⟨X,hX⟩:∃X,ts=[X]:=by
     match ts,h1 with
     |[X],_=>exact⟨X,rfl⟩
    subst hX;have ac:TR s.data.toList Za=U ([X.tn],p.2):=by
     rw[hp];have:p.1=[X.tn]:=by rw[<-hpt];rfl
     rw[<-this]
    have a2:=Yy (Ec ac ab X.tn (by simp));have a3:Zm (XE s.data.toList=(YV X.tn.flat.length X.tn).bind fun t=>if UC 0 t=Ze then U t else G):=by
     show _=_
     rw[PJ,ac]
    obtain⟨a8,_⟩:=m.out.1 ⟨#[]⟩ Za;obtain⟨b,f,ea,x0,x1,x2,a9⟩:=a8.part 0 (by simp);replace ea:a=U ⟨b,f,G⟩:=ea;subst ea;simp only[ZD,Yg,Yh] at x0 x1 x2 a9;have ad:Zm (Zy Zb 63 #[Zu #[.string X.w,F X.a X.l.length X.c,.bool X.o]] w2 (UT (YV X.tn.flat.length X.tn) w2)):=SE X.tn.flat.length X w2 a9 (o.out w2 H2.out).2.2 a2.out.1 (Zk _) a2.out.2.2 a2.out.2.1;have a5:Zm (∀i,YV X.tn.flat.length X.tn=U i->CQ 3000 i/\i.sz<=3000):=fun i hi=>by have:=SF _ _ _ hi a2.out.2.1;exact⟨this.1,by have:=a2.out.2.1;omega⟩
    obtain⟨TX,ah⟩:∃T,YV X.tn.flat.length X.tn=T:=⟨_,rfl⟩
    rw[ah] at ad a3 a5;simp only[Zn,Zg];clear ah hp hpt hpr ac a8 a9 m a2 h1 ab;go_wp2_with fail;refine ad.out.mono ?_;rintro e w3 ⟨t,is,rfl,HT⟩;clear ad x0 x1 x2;obtain⟨V,hV⟩:∃W,W=w3.alloc (Zt t.v 27):=⟨_,rfl⟩
    have af:bL w3 V:=by rw[hV];exact(Zf _ _).alloc (Zk _) _
    have al:=HT.out.2.2.2.2.trans (af.mono HT.out.2.2.2.2.size);have H3:=Yy (H2.out.trans (al.mono H2.out.size));have a0:Zm (Uz V w3.heap.size 0 t/\t.In V):=⟨by rw[hV];exact Uz.new w3 t,HT.out.2.2.1.below af⟩
    have ao:Zm (t.Bl (·≠w.heap.size)):=HT.out.2.2.2.1.mono fun b hb=>by have h1:=o.out W1 (Zf _ _);have h2:=h1.1.lt;have h3:=H2.out.size;omega
    have a4:=Uy HT.out.1 HT.out.2.1;clear af al HT;go_upto_region 6 with fail;rw[<-hV];clear hV;cases is
    .have j:Zm (∀V,bL W1 V->K7 s w (Zc (Zp #[Zu #[O I 0,O I 0,O I 0,F G 0 0,O I 0,F G 0 0,F G 0 0],O I 1])) (Xd V w.heap.size (Yr 0 0))):=k.out (by
      rw[a3.out];cases h:TX with
      |none=>rfl
      |some i=>have:=a4.out.1;rw[h] at this;cases this)
     clear k a3 a5 a4 a0;have m:=Yy (j.out V H3.out);have d:=(o.out V H3.out).1;have l:Zm _:=YU (x:=Yr 0 0) d;obtain⟨c0,c1,c2,c3,c4,c5,c6⟩:=d.at7;simp only[Zr,Yr] at c0 c1 c2 c3 c4 c5 c6;have f0:=d.fz 0 (by omega);have f1:=d.fz 1 (by omega);have f2:=d.fz 2 (by omega);have f3:=d.fz 3 (by omega);have f4:=d.fz 4 (by omega);have f5:=d.fz 5 (by omega);have f6:=d.fz 6 (by omega);clear d j o H3 H2;go_wp2_with fail;refine Zi (v:=Zp #[Zu #[O I 0,O I 0,O I 0,F G 0 0,O I 0,F G 0 0,F G 0 0],O I 1]) ?_ rfl m.out;obtain⟨y,d1,r,d3,d4,z,u⟩:=l.out;simp only[Yr,Zg] at y d1 r d3 d4 z u;simp[results,ZM,go_sem,y,d1,r,d3,d4,z,u]
    .have HTI:Zm (TX=U t.tm):=by
      cases h:TX with
      |none=>have:=a4.out.1;rw[h] at this;cases this
      |some i=>show U i=U t.tm;rw[a4.out.2 i h]
     obtain⟨g,hg⟩:∃g,UC 0 t.tm=g:=⟨_,rfl⟩
     have aj:Zm (Zy Zb 37 #[Zu t.v,O I 0] V fun e w'=>e=Zc (.bool g)/\bL V w'):=by obtain⟨o1,o2⟩:=a5.out t.tm HTI.out;have h:=P4 t 0 V a0.out.2 (by rw[TT.me];omega) (Bj (E3 t o1) (by omega));rw[hg] at h;exact h
     have a7:Zm (XE s.data.toList=if g=Ze then U t.tm else G):=by
      show _=_
      rw[a3.out,HTI.out,Zl,hg]
     obtain⟨q0,q1,q2,q3,q4,q5,q6⟩:=a0.out.1.all;clear a3 a5 a4 HTI hg;go_wp2_with fail;refine aj.out.mono ?_;rintro e w4 ⟨rfl,a6⟩;have H4:=Yy (H3.out.trans (a6.mono H3.out.size));have an:=a0.out.1.lt;obtain⟨m0,m1,m2,m3,m4,m5,m6⟩:=(a0.out.1.below a6).all;have ae:=Yy (a0.out.2.below a6);clear q0 q1 q2 q3 q4 q5 q6 a6 aj a0 an;cases g
     .have j:Zm (∀V,bL W1 V->K7 s w (Zc (Zp #[Zu #[O I 0,O I 0,O I 0,F G 0 0,O I 0,F G 0 0,F G 0 0],O I 1])) (Xd V w.heap.size (Yr 0 0))):=k.out (by rw[a7.out];rfl);clear k a7 ae m0 m1 m2 m3 m4 m5 m6;have m:=Yy (j.out w4 H4.out);have d:=(o.out w4 H4.out).1;have l:Zm _:=YU (x:=Yr 0 0) d;obtain⟨c0,c1,c2,c3,c4,c5,c6⟩:=d.at7;simp only[Zr,Yr] at c0 c1 c2 c3 c4 c5 c6;have f0:=d.fz 0 (by omega);have f1:=d.fz 1 (by omega);have f2:=d.fz 2 (by omega);have f3:=d.fz 3 (by omega);have f4:=d.fz 4 (by omega);have f5:=d.fz 5 (by omega);have f6:=d.fz 6 (by omega);clear d j o H4 H3 H2;go_wp2_with fail;refine Zi (v:=Zp #[Zu #[O I 0,O I 0,O I 0,F G 0 0,O I 0,F G 0 0,F G 0 0],O I 1]) ?_ rfl m.out;obtain⟨y,d1,r,d3,d4,z,u⟩:=l.out;simp only[Yr,Zg] at y d1 r d3 d4 z u;simp[results,ZM,go_sem,y,d1,r,d3,d4,z,u]
     .have m:Zm (K7 s w (Zc (Zp #[Zu t.v,O I 0])) (Xd w4 w.heap.size t)):=by have am:=ao.out;have hk:=YI (w:=w4) (J:=w.heap.size) (x:=t);exact⟨t,0,rfl,ae.out.lc hk am,Kw (o.out w4 H4.out).2.1,.inr (.inr ⟨hs,by rw[a7.out,if_pos rfl],rfl⟩)⟩
      have d:=(o.out w4 H4.out).1;have l:Zm _:=YU (x:=t) d;obtain⟨c0,c1,c2,c3,c4,c5,c6⟩:=d.at7;simp only[Zr,Yr] at c0 c1 c2 c3 c4 c5 c6;have f0:=d.fz 0 (by omega);have f1:=d.fz 1 (by omega);have f2:=d.fz 2 (by omega);have f3:=d.fz 3 (by omega);have f4:=d.fz 4 (by omega);have f5:=d.fz 5 (by omega);have f6:=d.fz 6 (by omega);clear d k o a7 ae H4 H3 H2;go_wp2_with fail;refine Zi (v:=Zp #[Zu t.v,O I 0]) ?_ rfl m.out;obtain⟨y,d1,r,d3,d4,z,u⟩:=l.out;simp[results,ZM,go_sem,y,d1,r,d3,d4,z,u]
   .have j:Zm (∀V,bL W1 V->K7 s w (Zc (Zp #[Zu #[O I 0,O I 0,O I 0,F G 0 0,O I 0,F G 0 0,F G 0 0],O I 1])) (Xd V w.heap.size (Yr 0 0))):=k.out (by
     rw[PJ,hp];split
     .rename_i x q e;exfalso;have e1:=Zh e;have:=congrArg List.length hpt;rw[e1] at this;simp at this;omega
     .rfl)
    have ap:(((ts.length:Nat):Int)==1)=Za:=by rw[beq_eq_false_iff_ne];omega
    clear k m hp hpt hpr h1 ab;have m:=Yy (j.out w2 H2.out);have d:=(o.out w2 H2.out).1;have l:Zm _:=YU (x:=Yr 0 0) d;obtain⟨c0,c1,c2,c3,c4,c5,c6⟩:=d.at7;simp only[Zr,Yr] at c0 c1 c2 c3 c4 c5 c6;have f0:=d.fz 0 (by omega);have f1:=d.fz 1 (by omega);have f2:=d.fz 2 (by omega);have f3:=d.fz 3 (by omega);have f4:=d.fz 4 (by omega);have f5:=d.fz 5 (by omega);have f6:=d.fz 6 (by omega);clear d j o H2;go_wp2_with fail;refine Zi (v:=Zp #[Zu #[O I 0,O I 0,O I 0,F G 0 0,O I 0,F G 0 0,F G 0 0],O I 1]) ?_ rfl m.out;obtain⟨y,d1,r,d3,d4,z,u⟩:=l.out;simp only[Yr,Zg] at y d1 r d3 d4 z u;simp[results,ZM,go_sem,y,d1,r,d3,d4,z,u]
 .have hgt:(1000:Int)<((s.size:Nat):Int):=by omega
  have j:Zm (∀V,bL W1 V->K7 s w (Zc (Zp #[Zu #[O I 0,O I 0,O I 0,F G 0 0,O I 0,F G 0 0,F G 0 0],O I 4])) (Xd V w.heap.size (Yr 0 0))):=fun V hV=>⟨Yr 0 0,4,rfl,Jh _ _ _,Kw (o.out V hV).2.1,.inl ⟨by omega,rfl,rfl⟩⟩
  go_enter func40,ntmps40;go_upto_region 1 with fail;rw[<-a1];clear a1 hs;have m:Zm (K7 s w (Zc (Zp #[Zu #[O I 0,O I 0,O I 0,F G 0 0,O I 0,F G 0 0,F G 0 0],O I 4])) (Xd W1 w.heap.size (Yr 0 0))):=j.out W1 (Zf _ _);have d:=(o.out W1 (Zf _ _)).1;have l:Zm _:=YU (x:=Yr 0 0) d;obtain⟨c0,c1,c2,c3,c4,c5,c6⟩:=d.at7;simp only[Zr,Yr] at c0 c1 c2 c3 c4 c5 c6;have f0:=d.fz 0 (by omega);have f1:=d.fz 1 (by omega);have f2:=d.fz 2 (by omega);have f3:=d.fz 3 (by omega);have f4:=d.fz 4 (by omega);have f5:=d.fz 5 (by omega);have f6:=d.fz 6 (by omega);clear d j o;go_wp2_with fail;refine Zi (v:=Zp #[Zu #[O I 0,O I 0,O I 0,F G 0 0,O I 0,F G 0 0,F G 0 0],O I 4]) ?_ rfl m.out;obtain⟨y,d1,r,d3,d4,z,u⟩:=l.out;simp only[Yr,Zg] at y d1 r d3 d4 z u;simp[results,ZM,go_sem,y,d1,r,d3,d4,z,u]
end Go.Proofs.YtnddkmccagiclabGreatDoor
