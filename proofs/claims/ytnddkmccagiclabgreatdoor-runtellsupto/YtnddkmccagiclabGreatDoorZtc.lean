import Derived.Test.YtnddkmccagiclabGreatDoorZta
import Derived.Lib.SlicesS
import Derived.Lib.LaidTab
import Derived.Stop.LaidErr
set_option maxRecDepth 20000
set_option maxHeartbeats 16000000
open Go.RowKit Go.Proofs.Tryz
open Option renaming none→B,some→D,ne_none_iff_exists'→Zm,map_eq_some_iff→ZG
open Go.World renaming cell?_setCell_other→C,block_lt_of_cell?→O,frozen?_setCell→S,cell?_setCell_same→T,cell?_of_block→Zc,setCell→Zn,frozen?_of_block→Zs,news_of_block→ZK
open Go.Value renaming pointer→E,int→L,slice→N,tuple→Zh,agg→Zo,ownBlock→Zr
open Go.Proofs.Tryz renaming prog→F,underlying209→Zp,results126→Zv,ntmps146→Zy,underlying84→Zz,func146→ZC,results53→ZJ,ntmps87→ZL,func87→ZM
open Go.IntKind renaming i64→I
open Go renaming World→U,Value→V,cell_later→Y,Calls→Zg,Addr→Zj,bodyPost_ret→Zl,run_underlying→Zq,laidMet→Zx
open Go.Ending renaming returned→Z
open Bool renaming false→Za,true→Zu
open Array renaming getElem?_eq_some_iff→Zb
open Nat renaming le_refl→Zd,lt_of_lt_of_le→Zw,le_trans→ZA
open Go.RowKit.Below renaming heap_setCell→Ze,refl→Zi
open Go.Instr renaming index→Zf
open Go.RowKit renaming Below→Zk,ownsRow_setCell_below→Zt
open List renaming length_eq_zero_iff→ZB,getElem?_cons_zero→ZD,getElem?_cons_succ→ZE,getElem?_toArray→ZH,getElem?_eq_none→ZI
open Option.some renaming inj→ZF
namespace Go.Proofs.YtnddkmccagiclabGreatDoor
variable {J M R b base e g i j k o:Nat}{W w w' w0:U}{ws:List ByteArray}{u:V}{P:Nat->Prop}{p:Option Zj}{ys:List V}{r:List (String×DataW Unit)}
theorem Yi.of_below{o:Option Nat}(h:Zk w.heap.size w w'):Yi R o w w':=⟨h.os,h.tape,h.output,h.size,fun k hk _ _=>h.block k hk⟩
theorem Yi.trans{w1 w2:U}(h:Yi R B w w1)(a:Yi R B w1 w2):Yi R B w w2:=by have e:=h.size;exact⟨a.os.trans h.os,a.tape.trans h.tape,a.output.trans h.output,ZA h.size a.size,fun k d b c=>(a.block k (by omega) b c).trans (h.block k d b c)⟩
theorem Yi.cell(h:Yi R B w w'){v:V}(hc:w.cell? ⟨b,i,B⟩=D v)(h1:b≠R):w'.cell? ⟨b,i,B⟩=D v:=(Zc (a:=⟨b,i,B⟩) (h.block b (O _ _ hc) h1 (by simp))).trans hc
def Vc(w:U)(g:Nat)(cs:Array V):Prop:=∃t fr,w.heap[g]?=D (.cells cs t fr)
theorem Vc.cell{cs:Array V}(h:Vc w g cs)(i:Nat):w.cell? ⟨g,i,B⟩=cs[i]?:=by obtain⟨t,fr,h⟩:=h;rw[cell_of_row w g i cs t fr h]
structure Gl(w:U):Prop where
 tw:Vc w 1 #[.string ⟨#[110,111]⟩,.string ⟨#[121,101,115]⟩]
 wd:Vc w 2 #[.string ⟨#[]⟩,.string ⟨#[]⟩,.string ⟨#[]⟩,.string ⟨#[]⟩,.string ⟨#[97,100,100]⟩,.string ⟨#[108,101,115,115]⟩,.string ⟨#[105,102]⟩,.string ⟨#[102,117,110]⟩,.string ⟨#[99,97,108,108]⟩,.string ⟨#[97,115]⟩]
 pt:Vc w 0 #[L I 0,L I 0,L I 0,L I 0,L I 2,L I 2,L I 3,L I 1,L I 2,L I 1]
 ty:Vc w 4 #[.string ⟨#[97,110,121]⟩,.string ⟨#[110,117,109]⟩,.string ⟨#[116,114,117,116,104]⟩]
 pw:Vc w 11 (Lib.pow10Tab.map fun z=>Value.int .u64 z).toArray
 mx:∃m,Vc w 6 #[L I m]
 es:∃te pe,Vc w 9 #[.iface te pe]
 er:∃te pe,Vc w 10 #[.iface te pe]
theorem Vc.of{cs:Array V}(h:Vc w g cs)(e:w'.heap[g]?=w.heap[g]?):Vc w' g cs:=by obtain⟨t,fr,h⟩:=h;exact⟨t,fr,e.trans h⟩
theorem Vc.lt{cs:Array V}(h:Vc w g cs):g<w.heap.size:=by obtain⟨t,fr,h⟩:=h;exact(Zb.1 h).1
theorem Gl.of(h:Gl w)(e:∀g,g<12->w'.heap[g]?=w.heap[g]?):Gl w':=by obtain⟨m,c⟩:=h.mx;obtain⟨a,b,i⟩:=h.es;obtain⟨a',d,j⟩:=h.er;exact⟨h.tw.of (e _ (by omega)),h.wd.of (e _ (by omega)),h.pt.of (e _ (by omega)),h.ty.of (e _ (by omega)),h.pw.of (e _ (by omega)),⟨m,c.of (e _ (by omega))⟩,⟨a,b,i.of (e _ (by omega))⟩,⟨a',d,j.of (e _ (by omega))⟩⟩
theorem Gl.size(h:Gl w):12<=w.heap.size:=by exact h.pw.lt
theorem Gl.below(h:Gl w)(hb:Zk w.heap.size w w'):Gl w':=h.of fun g hg=>hb.block g (by have:=h.size;omega)
theorem Gl.kept(h:Gl w)(hR:12<=R)(hb:Yi R B w w'):Gl w':=h.of fun g hg=>hb.block g (by have:=h.size;omega) (by omega) (by simp)
structure Gp(w:U):Prop where
 pt:Vc w 0 #[L I 0,L I 0,L I 0,L I 0,L I 2,L I 2,L I 3,L I 1,L I 2,L I 1]
theorem Gl.gp(h:Gl w):Gp w:=⟨h.pt⟩
theorem Gp.size(h:Gp w):1<=w.heap.size:=h.pt.lt
theorem Gp.below(h:Gp w)(hb:Zk w.heap.size w w'):Gp w':=⟨h.pt.of (hb.block 0 h.pt.lt)⟩
theorem Gp.kept(h:Gp w)(hR:1<=R)(hb:Yi R B w w'):Gp w':=⟨h.pt.of (hb.block 0 h.pt.lt (by omega) (by simp))⟩
structure RS(R:Nat)(ws:List ByteArray)(b:Bool)(w:U):Prop where
 l:∃a c,w.cell? ⟨R,0,B⟩=D (N a ws.length c)/\ws.length<=c/\(ws≠[]->∃A o,a=D ⟨A,o,B⟩/\A<R/\∀(i:Nat)x,ws[i]?=D x->w.cell? ⟨A,o+i,B⟩=D (.string x))
 b:w.cell? ⟨R,1,B⟩=D (.bool b)
 f0:w.frozen? ⟨R,0,B⟩=Za
 f1:w.frozen? ⟨R,1,B⟩=Za
 z:ws.length<=1000000
theorem RS.lt{b:Bool}(h:RS R ws b w):R<w.heap.size:=O _ _ h.b
theorem RS.below{b:Bool}(h:RS R ws b w)(d:Zk w.heap.size w w'):RS R ws b w':=by have g:=h.lt;obtain⟨⟨a,c,z,r,j⟩,y,k,l,hz⟩:=h;refine⟨⟨a,c,Y d z,r,fun e=>?_⟩,Y d y,(d.frozen (p:=⟨R,0,B⟩) g).trans k,(d.frozen (p:=⟨R,1,B⟩) g).trans l,hz⟩;obtain⟨A,o,u,hA,q⟩:=j e;exact⟨A,o,u,hA,fun i x hi=>Y d (q i x hi)⟩
theorem RS.set2{b:Bool}{v:V}(h:RS R ws b w)(j:R<k):RS R ws b ((w.setCell ⟨k,0,B⟩ u).setCell ⟨k,1,B⟩ v):=by
 have g:∀q i,q<k->((w.setCell ⟨k,0,B⟩ u).setCell ⟨k,1,B⟩ v).cell? ⟨q,i,B⟩=w.cell? ⟨q,i,B⟩:=by
  intro q i hq;rw[C,C]
  .intro e;simp only[Addr.mk.injEq] at e;omega
  .intro e;simp only[Addr.mk.injEq] at e;omega
 obtain⟨⟨a,c,r,hn,l⟩,h1,p,y,hz⟩:=h;refine⟨⟨a,c,(g _ _ j).trans r,hn,fun d=>?_⟩,(g _ _ j).trans h1,by rw[S,S];exact p,by rw[S,S];exact y,hz⟩;obtain⟨A,o,ha,hA,z⟩:=l d;exact⟨A,o,ha,hA,fun i x hi=>(g _ _ (by omega)).trans (z i x hi)⟩
theorem Yj{v:V}:Yi R B w (w.setCell ⟨R,i,B⟩ v):=⟨rfl,rfl,rfl,by simp[Zn],fun _ _ h1 _=>Ze _ _ _ _ h1⟩
theorem Jz(R:Nat)(g:List ByteArray)(b:Bool)(w:U)(h:RS R g b w):
  Zg F 83 #[E (D ⟨R,0,B⟩)] w fun e w'=>e=Z (Zh #[])/\RS R [] Zu w'/\Yi R B w w':=by
 obtain⟨⟨a,c,l,_,_⟩,j,i,k,_⟩:=h;go_enter func83,ntmps83;go_wp2_with fail;go_end0;have d:(⟨R,0,B⟩:Zj)≠⟨R,1,B⟩:=by simp
 refine⟨rfl,⟨⟨B,0,?_,Zd _,fun h=>absurd rfl h⟩,?_,?_,?_,by simp⟩,Yj.trans Yj⟩
 .refine T _ _ _ (u:=N a g.length c) ?_;rw[C _ _ _ _ (Ne.symm d)];exact l
 .rw[C _ _ _ _ d];exact T _ _ _ j
 .rw[S,S];exact i
 .rw[S,S];exact k
theorem MA(R:Nat)(b:Bool)(w:U)(h:RS R [] b w):
  Zg F 51 #[E (D ⟨R,0,B⟩)] w fun e w'=>e=Z (.string ⟨#[]⟩)/\RS R [] Zu w'/\Yi R B w w':=by
 have j:=Yx (Jz R [] b w h);obtain⟨⟨a,c,q,_,_⟩,o,l,p,_⟩:=h;go_enter func51,ntmps51;go_wp2_with fail;refine j.out.mono ?_;rintro e k ⟨rfl,g,d⟩;have i:=Un g d;clear g d j;go_wp2_with fail;go_ret;exact⟨rfl,i.out.1,i.out.2⟩
theorem Jn(R:Nat)(x:ByteArray)(r:List ByteArray)(b:Bool)(w:U)(h:RS R (x::r) b w):
  Zg F 51 #[E (D ⟨R,0,B⟩)] w fun e w'=>e=Z (.string x)/\RS R r b w'/\Yi R B w w':=by
 obtain⟨⟨a,c,k,q,j⟩,u,l,p,hz⟩:=h;obtain⟨A,o,rfl,z,g⟩:=j (by simp);have x0:=g 0 x (by simp);simp only[Nat.add_zero] at x0;simp only[List.length_cons] at k q hz;have e0:(((r.length+1:Nat):Int)==0)=Za:=by simp;omega
 have i1:(0:Int)<((r.length:Int)+1):=by omega
 have i2:(1:Int)<=((r.length:Int)+1):=by omega
 have HX:=Yx g;clear g j;go_enter func51,ntmps51;go_wp2_with fail
 all_goals go_ret
 all_goals
  refine⟨rfl,⟨⟨_,_,T _ _ _ k,by omega,fun d=>?_⟩,?_,by rw[S];exact l,by rw[S];exact p,by omega⟩,Yj⟩
  rotate_left
  .rw[C _ _ _ _ (by simp)];exact u
 .exact absurd (ZB.1 (by omega)) d
 .refine⟨A,o+1,rfl,z,fun i y hi=>?_⟩;rw[C]
  .rw[show o+1+i=o+(i+1) by omega];exact HX.out (i+1) y (by simpa using hi)
  .intro e;simp only[Addr.mk.injEq] at e;omega
theorem Vm(R:Nat)(x a:ByteArray)(r:List ByteArray)(b:Bool)(w:U)(h:RS R (x::r) b w):
  Zg F 87 #[E (D ⟨R,0,B⟩),.string a] w fun e w'=>e=Z (Zh #[])/\((x=a/\RS R r b w')\/(x≠a/\RS R [] Zu w'))/\Yi R B w w':=by
 have i:=Yx (Jn R x r b w h);clear h;by_cases hx:x=a
 .subst hx;go_enter ZM,ZL;go_wp2_with fail;refine i.out.mono ?_;rintro e j ⟨rfl,d,c⟩;have g:=Un d c;clear d c i;go_wp2_with fail;go_end0;exact⟨rfl,.inl ⟨trivial,g.out.1⟩,g.out.2⟩
 .have hb:(x.toList==a.toList)=Za:=(Lib.bytes_beq_false_iff _ _).2 hx;have o:(!x.toList==a.toList)=Zu:=by rw[hb];rfl
  have p:=Yx hx;clear hx;go_enter ZM,ZL;go_wp2_with fail;refine i.out.mono ?_;rintro e j ⟨rfl,d,c⟩;have l:=Yx (Jz R r b j d);have k:=Yx c;clear d c i;go_wp2_with fail;refine l.out.mono ?_;rintro e w2 ⟨rfl,d,c⟩;have g:=Un d (k.out.trans c);clear d c l k;go_wp2_with fail;go_end0;exact⟨rfl,.inr ⟨p.out,g.out.1⟩,g.out.2⟩
theorem Wy(R:Nat)(word:ByteArray)(hw:(⟨#[]⟩:ByteArray)≠word)(b:Bool)(w:U)(h:RS R [] b w):
  Zg F 87 #[E (D ⟨R,0,B⟩),.string word] w fun e w'=>e=Z (Zh #[])/\RS R [] Zu w'/\Yi R B w w':=by
 have i:=Yx (MA R b w h);have d:((⟨#[]⟩:ByteArray).toList==word.toList)=Za:=(Lib.bytes_beq_false_iff _ _).2 hw;have g:(⟨#[]⟩:ByteArray).toList=[]:=by rw[Lib.toList_data]
 have p:(!word.toList.isEmpty)=Zu:=by
  rw[g] at d;cases hl:word.toList with
  |nil=>rw[hl] at d;simp at d
  |cons _ _=>rfl
 clear h hw d g;go_enter ZM,ZL;go_wp2_with fail;refine i.out.mono ?_;rintro e o ⟨rfl,c,a⟩;have l:=Yx (Jz R [] Zu o c);have j:=Yx a;clear c a i;go_wp2_with fail;refine l.out.mono ?_;rintro e w2 ⟨rfl,c,a⟩;have k:=Un c (j.out.trans a);clear c a l j;go_wp2_with fail;go_end0;exact⟨rfl,k.out.1,k.out.2⟩
theorem V7(n:Nat)(h:n<=1000)(b:Int)(a a':Option Zj)(m g c c':Nat)(d:Option Zj)(w:U):
  Zg F 146 #[Zo #[L I 0,N a m c],Zo #[L I b,N a' g c'],L I ((n:Int)+1),E d] w fun e w'=>e=Z (.bool Zu)/\Zk w.heap.size w w':=by
 have hz:(((n:Int)+1)==0)=Za:=by simp;omega
 go_enter ZC,Zy;go_wp2_with fail;go_ret;exact⟨rfl,((Zi _ _).alloc (Zd _) _).alloc (by simp) _⟩
theorem Tn(n:Nat)(h:n<=1000)(k:Int)(g:(k==0)=Za)(a a':Option Zj)(m d c c':Nat)(b:Option Zj)(w:U):
  Zg F 146 #[Zo #[L I k,N a m c],Zo #[L I 0,N a' d c'],L I ((n:Int)+1),E b] w fun e w'=>e=Z (.bool Zu)/\Zk w.heap.size w w':=by
 have hz:(((n:Int)+1)==0)=Za:=by simp;omega
 go_enter ZC,Zy;go_wp2_with fail;go_ret;exact⟨rfl,((Zi _ _).alloc (Zd _) _).alloc (by simp) _⟩
theorem V6(n:Nat)(hn:n<=1000)(x y:Tr)(rp:Option Zj)(w:U)(hx:x.In w)(hy:y.In w)(hh:x.hgt<=n+1)(hs:x.sm)(e1:(x.k==0)=Za)(e2:(y.k==0)=Za)
  (ih:Hid (∀(x y:Tr)(w:U),x.In w->y.In w->x.hgt<=n->x.sm->Zg F 146 #[Zo #[L I x.k,N x.a x.l.length x.c],Zo #[L I y.k,N y.a y.l.length y.c],L I (n:Int),E rp] w fun e w'=>e=Z (.bool (YC Yk x.ty y.ty))/\Zk w.heap.size w w')) :
  Zg F 146 #[Zo #[L I x.k,N x.a x.l.length x.c],Zo #[L I y.k,N y.a y.l.length y.c],L I ((n:Int)+1),E rp] w fun e w'=>e=Z (.bool (YC Yk x.ty y.ty))/\Zk w.heap.size w w':=by
 have hz:(((n:Int)+1)==0)=Za:=by simp;omega
 have a2:=hs.len;by_cases ht0:(x.k==y.k&&(x.l.length:Int)==(y.l.length:Int))=Za
 .have ht:=Yx ht0;clear ht0;go_enter ZC,Zy;go_wp2_with fail;refine(KP _ _ _ _ _ _ _ _ Za ht.out _).mono ?_;rintro e w1 ⟨rfl,g⟩;go_wp2_with fail;go_ret;refine⟨?_,(((Zi _ _).alloc (Zd _) _).alloc (by simp) _).trans (g.mono (by simp;omega))⟩;rw[JX Yk x y (by simp[Yk,e1,e2]) ht.out];rfl
 .have ht':Hid ((x.k==y.k&&(x.l.length:Int)==(y.l.length:Int))=Zu):=by simpa[Hid] using ht0
  clear ht0;have hk:Hid (x.k=y.k):=by have h:=ht'.out;simp at h;exact h.1
  have hl:Hid (x.l.length=y.l.length):=by have h:=ht'.out;simp at h;exact Int.ofNat.inj h.2
  go_enter ZC,Zy;go_wp2_with fail;refine(KP _ _ _ _ _ _ _ _ Zu ht'.out _).mono ?_;rintro e w1 ⟨rfl,g⟩;have l:bL w w1:=(((Zi _ _).alloc (Zd _) _).alloc (by simp) _).trans (g.mono (by simp;omega));have p1:w1.cell? ⟨w.heap.size,1,B⟩=D (N x.a x.l.length x.c):=Y g (by simp[go_sem]);have p3:w1.cell? ⟨w.heap.size+1,1,B⟩=D (N y.a y.l.length y.c):=Y g (by simp[go_sem]);clear g;go_wp2_with fail;go_loopw [32] (fun i wr=>∃j:Nat,j<=x.l.length/\i=L I (j:Int)/\bL w1 wr/\∀q(h:q<x.l.length)(h':q<y.l.length),q<j->YC Yk x.l[q].ty y.l[q].ty=Zu) (fun i _=>x.l.length-(intOf i).toNat)
  case atStart=>exact⟨0,Nat.zero_le _,rfl,Zi _ _,fun q _ _ h=>absurd h (by omega)⟩
  case round=>
   obtain⟨j,hj,rfl,d,p⟩:=hrel;have HA:=Yx p;clear p;have c:=l.trans (d.mono l.size);by_cases hlt:j<x.l.length
   .have hlt':j<y.l.length:=hl.out▸hlt;obtain⟨b,o,ea,x0,x1,a1⟩:=hx.part j hlt;obtain⟨u,z,eb,y0,y1,a0⟩:=hy.part j hlt';have q1:cL wr w.heap.size 1 (N (D ⟨b,o,B⟩) x.l.length x.c):=by rw[<-ea];exact Y d p1
    have q3:cL wr (w.heap.size+1) 1 (N (D ⟨u,z,B⟩) y.l.length y.c):=by rw[<-eb];exact Y d p3
    replace x0:=Y c x0;replace x1:=Y c x1;replace y0:=Y c y0;replace y1:=Y c y1;have i1:(j:Int)<(x.l.length:Int):=by omega
    have i2:(j:Int)<(y.l.length:Int):=by omega
    have i0:(0:Int)<=(j:Int):=by omega
    clear p1 p3 ea eb hx hy ht';have a3:=NP n hn;obtain⟨r,hr⟩:∃r,YC Yk x.l[j].ty y.l[j].ty=r:=⟨_,rfl⟩
    have HC:Hid (∀(w:U),x.l[j].In w->y.l[j].In w->Zg F 146 #[Zo x.l[j].v,Zo y.l[j].v,L I (n:Int),E rp] w fun e w'=>e=Z (.bool r)/\bL w w'):=by intro w h1 h2;have:=ih.out x.l[j] y.l[j] w h1 h2 (Tr.hgt_part hh j hlt) (hs.part j hlt);rw[hr] at this;exact this
    have HR:=Yx hr;clear hr;cases r
    .go_wp2_with fail;go_region_held3 (fun w'=>w'.cell? ⟨w.heap.size,1,B⟩=D (N (D ⟨b,o,B⟩) x.l.length x.c)/\w'.cell? ⟨w.heap.size+1,1,B⟩=D (N (D ⟨u,z,B⟩) y.l.length y.c)/\w'.cell? ⟨b,o+j*2,B⟩=D (L I x.l[j].k)/\w'.cell? ⟨b,o+j*2+1,B⟩=D (N x.l[j].a x.l[j].l.length x.l[j].c)/\w'.cell? ⟨u,z+j*2,B⟩=D (L I y.l[j].k)/\w'.cell? ⟨u,z+j*2+1,B⟩=D (N y.l[j].a y.l[j].l.length y.l[j].c)) (first|exact⟨Y a q1,Y a q3,Y a x0,Y a x1,Y a y0,Y a y1⟩|go_keep) (first|(go_at_call 146;refine(HC.out _ (a1.below c.drew) (a0.below c.drew)).mono ?_;rintro e w2 ⟨rfl,a⟩))
     have k:=d.drew.trans (a.mono d.size);go_wp2_with fail;go_ret;refine⟨?_,l.trans (k.mono l.size)⟩;rw[Jr Yk x y (by simp[Yk,e1,e2]) j hlt hlt' HR.out];rfl
    .go_wp2_with fail;go_region_held3 (fun w'=>w'.cell? ⟨w.heap.size,1,B⟩=D (N (D ⟨b,o,B⟩) x.l.length x.c)/\w'.cell? ⟨w.heap.size+1,1,B⟩=D (N (D ⟨u,z,B⟩) y.l.length y.c)/\w'.cell? ⟨b,o+j*2,B⟩=D (L I x.l[j].k)/\w'.cell? ⟨b,o+j*2+1,B⟩=D (N x.l[j].a x.l[j].l.length x.l[j].c)/\w'.cell? ⟨u,z+j*2,B⟩=D (L I y.l[j].k)/\w'.cell? ⟨u,z+j*2+1,B⟩=D (N y.l[j].a y.l[j].l.length y.l[j].c)) (first|exact⟨Y a q1,Y a q3,Y a x0,Y a x1,Y a y0,Y a y1⟩|go_keep) (first|(go_at_call 146;refine(HC.out _ (a1.below c.drew) (a0.below c.drew)).mono ?_;rintro e w2 ⟨rfl,a⟩))
     have k:=d.drew.trans (a.mono d.size);go_wp2_with fail;go_roundw
     case rel=>
      refine⟨j+1,by omega,by go_num,k,fun q h h' hq=>?_⟩;by_cases e:q=j
      .subst e;exact HR.out
      .exact HA.out q h h' (by omega)
     case measure=>simp[intOf];omega
   .go_wp2_with fail;go_ret;refine⟨?_,c⟩;rw[K3 Yk x y hk.out hl.out fun q h h'=>HA.out q h h' (by omega)];rfl
theorem AY(n:Nat):n<=1000->∀(x y:Tr)(rp:Option Zj)(w:U),x.In w->y.In w->x.hgt<=n->x.sm->Zg F 146 #[Zo #[L I x.k,N x.a x.l.length x.c],Zo #[L I y.k,N y.a y.l.length y.c],L I (n:Int),E rp] w fun e w'=>e=Z (.bool (YC Yk x.ty y.ty))/\Zk w.heap.size w w':=by
 induction n with
 |zero=>intro _ x y rp w _ _ h;have:=x.hgt_pos;omega
 |succ n ih=>
  intro d x y rp w c a h b;have e:((n+1:Nat):Int)=(n:Int)+1:=by omega
  rw[e];by_cases k1:x.k=0
  .rw[k1,Oc Yk x y (by simp[Yk,k1])];exact V7 n (by omega) y.k x.a y.a _ _ _ _ rp w
  by_cases k2:y.k=0
  .rw[k2,Oc Yk x y (by simp[Yk,k2])];exact Tn n (by omega) x.k (by simpa using k1) x.a y.a _ _ _ _ rp w
  exact V6 n (by omega) x y rp w c a h b (by simpa using k1) (by simpa using k2) (fun x y w c a h b=>ih (by omega) x y rp w c a h b)
structure TT where
 k:Int
 n:Int
 t:Tr
 f:Tr
 a:Option Zj
 c:Nat
 l:List TT
theorem TT.ind{P:TT->Prop}(h:∀k n t f a c l,(∀x,x∈l->P x)->P ⟨k,n,t,f,a,c,l⟩):∀t,P t
 |⟨k,n,t,f,a,c,l⟩=>h k n t f a c l fun x _=>TT.ind h x
def TT.tm:TT->Tm
 |⟨k,n,t,f,_,_,l⟩=>⟨k,n,t.ty,f.ty,l.map fun x=>x.tm⟩
theorem TT.tm_mk(k n:Int)(t f:Tr)(a:Option Zj)(c:Nat)(l:List TT):(TT.mk k n t f a c l).tm=⟨k,n,t.ty,f.ty,l.map TT.tm⟩:=by rw[TT.tm]
theorem TT.tm_k(x:TT):x.tm.k=x.k:=by cases x;rw[TT.tm_mk]
theorem TT.tm_n(x:TT):x.tm.n=x.n:=by cases x;rw[TT.tm_mk]
theorem TT.tm_t(x:TT):x.tm.t=x.t.ty:=by cases x;rw[TT.tm_mk]
theorem TT.tm_f(x:TT):x.tm.f=x.f.ty:=by cases x;rw[TT.tm_mk]
theorem TT.tm_l(x:TT):x.tm.l=x.l.map TT.tm:=by cases x;rw[TT.tm_mk]
def TT.ag(x:TT):V:=Zo #[L I x.k,L I x.n,L I x.t.k,N x.t.a x.t.l.length x.t.c,L I x.f.k,N x.f.a x.f.l.length x.f.c,N x.a x.l.length x.c]
structure X4(w:U)(b o:Nat)(x:TT):Prop where
 c0:w.cell? ⟨b,o,B⟩=D (L I x.k)
 c1:w.cell? ⟨b,o+1,B⟩=D (L I x.n)
 c2:w.cell? ⟨b,o+2,B⟩=D (L I x.t.k)
 c3:w.cell? ⟨b,o+3,B⟩=D (N x.t.a x.t.l.length x.t.c)
 c4:w.cell? ⟨b,o+4,B⟩=D (L I x.f.k)
 c5:w.cell? ⟨b,o+5,B⟩=D (N x.f.a x.f.l.length x.f.c)
 c6:w.cell? ⟨b,o+6,B⟩=D (N x.a x.l.length x.c)
theorem X4.of{x:TT}(h:X4 w b o x)(e:∀i,w'.cell? ⟨b,i,B⟩=w.cell? ⟨b,i,B⟩):X4 w' b o x:=⟨(e _).trans h.c0,(e _).trans h.c1,(e _).trans h.c2,(e _).trans h.c3,(e _).trans h.c4,(e _).trans h.c5,(e _).trans h.c6⟩
theorem X4.lt{x:TT}(h:X4 w b o x):b<w.heap.size:=O _ _ h.c0
theorem X4.below{x:TT}(hb:Zk w.heap.size w w')(h:X4 w b o x):X4 w' b o x:=h.of fun _=>hb.cell (p:=⟨b,_,B⟩) h.lt
def TT.In(w:U):TT->Prop
 |⟨_,_,t,f,a,_,l⟩=>t.In w/\f.In w/\(∀j(h:j<l.length),∃b o,a=D ⟨b,o,B⟩/\X4 w b (o+j*7) l[j])/\∀x,x∈l->x.In w
theorem TT.In_mk{k n:Int}{t f:Tr}{a:Option Zj}{c:Nat}{l:List TT}:(TT.mk k n t f a c l).In w↔t.In w/\f.In w/\(∀j(h:j<l.length),∃b o,a=D ⟨b,o,B⟩/\X4 w b (o+j*7) l[j])/\∀x,x∈l->x.In w:=by rw[TT.In]
theorem TT.In.t{x:TT}(h:x.In w):x.t.In w:=by cases x;exact(TT.In_mk.1 h).1
theorem TT.In.f{x:TT}(h:x.In w):x.f.In w:=by cases x;exact(TT.In_mk.1 h).2.1
theorem TT.In.part{x:TT}(h:x.In w)(j:Nat)(d:j<x.l.length):∃b o,x.a=D ⟨b,o,B⟩/\X4 w b (o+j*7) x.l[j]/\x.l[j].In w:=by obtain⟨k,n,t,f,a,c,l⟩:=x;obtain⟨_,_,i,hi⟩:=TT.In_mk.1 h;obtain⟨b,o,e,g⟩:=i j d;exact⟨b,o,e,g,hi _ (List.getElem_mem d)⟩
theorem TT.In.mem{x y:TT}(h:x.In w)(b:y∈x.l):y.In w:=by obtain⟨k,n,t,f,a,c,l⟩:=x;exact(TT.In_mk.1 h).2.2.2 y b
theorem TT.In.below{w w':U}(hb:Zk w.heap.size w w'){x:TT}:x.In w->x.In w':=by
 induction x using TT.ind with
 |h k n t f a c l ih=>intro h;obtain⟨p,g,r,hi⟩:=TT.In_mk.1 h;refine TT.In_mk.2 ⟨p.below hb,g.below hb,fun j i=>?_,fun x d=>ih x d (hi x d)⟩;obtain⟨b,o,e,q⟩:=r j i;exact⟨b,o,e,q.below hb⟩
def TT.Bl(P:Nat->Prop):TT->Prop
 |⟨_,_,t,f,a,_,l⟩=>t.Bl P/\f.Bl P/\(l≠[]->∀x,a=D x->P x.block)/\∀x,x∈l->x.Bl P
theorem TT.Bl_mk{k n:Int}{t f:Tr}{a:Option Zj}{c:Nat}{l:List TT}:(TT.mk k n t f a c l).Bl P↔t.Bl P/\f.Bl P/\(l≠[]->∀x,a=D x->P x.block)/\∀x,x∈l->x.Bl P:=by rw[TT.Bl]
theorem TT.Bl.t{x:TT}(h:x.Bl P):x.t.Bl P:=by cases x;exact(TT.Bl_mk.1 h).1
theorem TT.Bl.f{x:TT}(h:x.Bl P):x.f.Bl P:=by cases x;exact(TT.Bl_mk.1 h).2.1
theorem TT.Bl.mem{x y:TT}(h:x.Bl P)(b:y∈x.l):y.Bl P:=by obtain⟨k,n,t,f,a,c,l⟩:=x;exact(TT.Bl_mk.1 h).2.2.2 y b
theorem TT.Bl.own{x:TT}(h:x.Bl P)(b:x.l≠[])(y:Zj)(d:x.a=D y):P y.block:=by obtain⟨k,n,t,f,a,c,l⟩:=x;exact(TT.Bl_mk.1 h).2.2.1 b y d
theorem TT.Bl.mono{P Q:Nat->Prop}(hPQ:∀b,P b->Q b){x:TT}:x.Bl P->x.Bl Q:=by
 induction x using TT.ind with
 |h k n t f a c l ih=>intro h;obtain⟨o,e,j,i⟩:=TT.Bl_mk.1 h;exact TT.Bl_mk.2 ⟨o.mono hPQ,e.mono hPQ,fun g x d=>hPQ _ (j g x d),fun x d=>ih x d (i x d)⟩
theorem TT.Bl.and{P Q:Nat->Prop}{x:TT}:x.Bl P->x.Bl Q->x.Bl (fun b=>P b/\Q b):=by
 induction x using TT.ind with
 |h k n t f a c l ih=>intro h g;obtain⟨u,i,r,q⟩:=TT.Bl_mk.1 h;obtain⟨w,p,o,j⟩:=TT.Bl_mk.1 g;exact TT.Bl_mk.2 ⟨u.and w,i.and p,fun e x d=>⟨r e x d,o e x d⟩,fun x d=>ih x d (q x d) (j x d)⟩
theorem TT.In.bl{w:U}{x:TT}:x.In w->x.Bl (·<w.heap.size):=by
 induction x using TT.ind with
 |h k n t f a c l ih=>intro h;obtain⟨j,g,q,hi⟩:=TT.In_mk.1 h;refine TT.Bl_mk.2 ⟨j.bl,g.bl,fun i x d=>?_,fun x d=>ih x d (hi x d)⟩;obtain⟨b,o,e,p⟩:=q 0 (List.length_pos_iff.2 i);rw[e] at d;have:=ZF d;subst this;exact p.lt
theorem TT.In.congr{w w':U}{P:Nat->Prop}(hP:∀b,P b->∀o,w'.cell? ⟨b,o,B⟩=w.cell? ⟨b,o,B⟩){x:TT}:x.Bl P->x.In w->x.In w':=by
 induction x using TT.ind with
 |h k n t f a c l ih=>intro y h;obtain⟨r,i,hc,hi⟩:=TT.In_mk.1 h;obtain⟨bt,p,q,u⟩:=TT.Bl_mk.1 y;refine TT.In_mk.2 ⟨r.congr hP bt,i.congr hP p,fun j g=>?_,fun x d=>ih x d (u x d) (hi x d)⟩;obtain⟨b,o,e,z⟩:=hc j g;have d:P b:=q (fun e=>by rw[e] at g;simp at g) _ e;exact⟨b,o,e,z.of (hP b d)⟩
theorem Tr.In.keptR{t:Tr}(h:t.In w)(d:Yi R B w w')(e:t.Bl (·≠R)):t.In w':=by refine h.congr (P:=fun b=>b<w.heap.size/\b≠R) ?_ (h.bl.and e);rintro b ⟨c,g⟩ o;exact Zc (a:=⟨b,o,B⟩) (d.block b c g (by simp))
theorem TT.In.keptR{x:TT}(h:x.In w)(d:Yi R B w w')(e:x.Bl (·≠R)):x.In w':=by refine h.congr (P:=fun b=>b<w.heap.size/\b≠R) ?_ (h.bl.and e);rintro b ⟨c,g⟩ o;exact Zc (a:=⟨b,o,B⟩) (d.block b c g (by simp))
theorem X4.keptR{x:TT}(h:X4 w b o x)(hk:Yi R B w w')(hb:b≠R):X4 w' b o x:=h.of fun i=>Zc (a:=⟨b,i,B⟩) (hk.block b h.lt hb (by simp))
def YJ(k n:Int):TT:=⟨k,n,⟨0,B,0,[]⟩,⟨0,B,0,[]⟩,B,0,[]⟩
theorem Ku(k n:Int)(w:U):(YJ k n).In w:=TT.In_mk.2 ⟨Tr.In_nil _ _ _ _,Tr.In_nil _ _ _ _,fun j h=>absurd h (by simp),fun t h=>absurd h (by simp)⟩
theorem Ms(k n:Int)(P:Nat->Prop):(YJ k n).Bl P:=TT.Bl_mk.2 ⟨Tr.Bl_nil _ _ _ _,Tr.Bl_nil _ _ _ _,fun h=>absurd rfl h,fun t h=>absurd h (by simp)⟩
theorem N0(k n:Int):(YJ k n).tm=⟨k,n,Yn,Yn,[]⟩:=by simp[YJ,TT.tm_mk,Tr.ty_mk,Yn]
abbrev TT.s(x:TT):V:=N x.a x.l.length x.c
abbrev TT.v(x:TT):Array V:=#[L I x.k,L I x.n,L I x.t.k,N x.t.a x.t.l.length x.t.c,L I x.f.k,N x.f.a x.f.l.length x.f.c,N x.a x.l.length x.c]
theorem Yi.fz(h:Yi R B w w')(hf:w.frozen? ⟨b,i,B⟩=Za)(hl:b<w.heap.size)(hb:b≠R):w'.frozen? ⟨b,i,B⟩=Za:=(Zs (a:=⟨b,i,B⟩) (h.block b hl hb (by simp))).trans hf
theorem Yi.refl:Yi R B w w:=⟨rfl,rfl,rfl,Zd _,fun _ _ _ _=>rfl⟩
theorem Yi.new{w'':U}(h:Yi R B w w')(hk:Yi k B w' w'')(hn:w.heap.size<=k):Yi R B w w'':=⟨hk.os.trans h.os,hk.tape.trans h.tape,hk.output.trans h.output,ZA h.size hk.size,fun q hq h1 h2=>(hk.block q (by have:=h.size;omega) (by omega) h2).trans (h.block q hq h1 h2)⟩
theorem RS.new{b:Bool}(h:RS R ws b w)(d:Yi k B w w')(hR:R<k):RS R ws b w':=by have g:=h.lt;obtain⟨⟨a,c,z,r,j⟩,y,l,p,hz⟩:=h;refine⟨⟨a,c,d.cell z (by omega),r,fun e=>?_⟩,d.cell y (by omega),d.fz l g (by omega),d.fz p g (by omega),hz⟩;obtain⟨A,o,u,hA,q⟩:=j e;exact⟨A,o,u,hA,fun i x hi=>d.cell (q i x hi) (by omega)⟩
structure Xw(w:U)(J:Nat)(x:TT):Prop where
 at7:X4 w J 0 x
 fz:∀i,i<7->w.frozen? ⟨J,i,B⟩=Za
theorem Xw.lt{x:TT}(h:Xw w J x):J<w.heap.size:=h.at7.lt
theorem Xw.kept{x:TT}(h:Xw w J x)(hk:Yi R B w w')(hJ:J≠R):Xw w' J x:=⟨h.at7.keptR hk hJ,fun i hi=>hk.fz (h.fz i hi) h.lt hJ⟩
theorem Xw.below{x:TT}(h:Xw w J x)(hb:Zk w.heap.size w w'):Xw w' J x:=⟨h.at7.below hb,fun i hi=>(hb.frozen (p:=⟨J,i,B⟩) h.lt).trans (h.fz i hi)⟩
theorem Xw.set6{x:TT}{a':Option Zj}{c':Nat}{l':List TT}(h:Xw w J x):Xw (w.setCell ⟨J,6,B⟩ (N a' l'.length c')) J { x with a:=a',c:=c',l:=l' }:=by
 have b:=h.at7;refine⟨⟨?_,?_,?_,?_,?_,?_,?_⟩,fun i hi=>by rw[S];exact h.fz i hi⟩
 .rw[C _ _ _ _ (by simp)];exact b.c0
 .rw[C _ _ _ _ (by simp)];exact b.c1
 .rw[C _ _ _ _ (by simp)];exact b.c2
 .rw[C _ _ _ _ (by simp)];exact b.c3
 .rw[C _ _ _ _ (by simp)];exact b.c4
 .rw[C _ _ _ _ (by simp)];exact b.c5
 .exact T _ _ _ (by simpa using b.c6)
theorem Xw.set23{x:TT}{t:Tr}(h:Xw w J x):Xw ((w.setCell ⟨J,2,B⟩ (L I t.k)).setCell ⟨J,3,B⟩ (N t.a t.l.length t.c)) J { x with t:=t }:=by
 have a:=h.at7;refine⟨⟨?_,?_,?_,?_,?_,?_,?_⟩,fun i hi=>by rw[S,S];exact h.fz i hi⟩
 .rw[C _ _ _ _ (by simp),C _ _ _ _ (by simp)];exact a.c0
 .rw[C _ _ _ _ (by simp),C _ _ _ _ (by simp)];exact a.c1
 .rw[C _ _ _ _ (by simp)];exact T _ _ _ (by simpa using a.c2)
 .refine T _ _ _ (u:=x.t.s) ?_;rw[C _ _ _ _ (by simp)];simpa using a.c3
 .rw[C _ _ _ _ (by simp),C _ _ _ _ (by simp)];exact a.c4
 .rw[C _ _ _ _ (by simp),C _ _ _ _ (by simp)];exact a.c5
 .rw[C _ _ _ _ (by simp),C _ _ _ _ (by simp)];exact a.c6
def Y5(w:U)(J:Nat)(x:TT):U:=((((((w.setCell ⟨J,0,B⟩ (L I x.k)).setCell ⟨J,1,B⟩ (L I x.n)).setCell ⟨J,2,B⟩ (L I x.t.k)).setCell ⟨J,3,B⟩ (N x.t.a x.t.l.length x.t.c)).setCell ⟨J,4,B⟩ (L I x.f.k)).setCell ⟨J,5,B⟩ (N x.f.a x.f.l.length x.f.c)).setCell ⟨J,6,B⟩ (N x.a x.l.length x.c)
theorem Yp{v:V}(h:w.cell? ⟨J,i,B⟩=D u):(w.setCell ⟨J,j,B⟩ v).cell? ⟨J,i,B⟩=D (if i=j then v else u):=by
 by_cases e:i=j
 .subst e;rw[if_pos rfl];exact T _ _ _ h
 .rw[if_neg e,C _ _ _ _ (by simp)];exact h
theorem XH{x y:TT}(h:Xw w J y):Xw (Y5 w J x) J x:=by
 have b:=h.at7;have k:=b.c0;have l:=b.c1;have c:=b.c2;have d:=b.c3;have j:=b.c4;have e:=b.c5;have g:=b.c6;simp only[Nat.zero_add] at k l c d j e g;have a:∀i u,cL w J i u->cL (Y5 w J x) J i (if i=6 then x.s else if i=5 then x.f.s else if i=4 then L I x.f.k else if i=3 then x.t.s else if i=2 then L I x.t.k else if i=1 then L I x.n else if i=0 then L I x.k else u):=by intro i u hu;exact Yp (Yp (Yp (Yp (Yp (Yp (Yp hu))))))
 refine⟨⟨?_,?_,?_,?_,?_,?_,?_⟩,fun i hi=>?_⟩
 .simpa using a 0 _ k
 .simpa using a 1 _ l
 .simpa using a 2 _ c
 .simpa using a 3 _ d
 .simpa using a 4 _ j
 .simpa using a 5 _ e
 .simpa using a 6 _ g
 .simp only[Y5,S];exact h.fz i hi
theorem YF{x:TT}:Yi J B w (Y5 w J x):=Yj.trans (Yj.trans (Yj.trans (Yj.trans (Yj.trans (Yj.trans Yj)))))
theorem SC{v:V}:Yi J B w ((w.setCell ⟨J,2,B⟩ u).setCell ⟨J,3,B⟩ v):=Yj.trans Yj
def YT(cs:List TT):List V:=cs.flatMap fun x=>[L I x.k,L I x.n,L I x.t.k,N x.t.a x.t.l.length x.t.c,L I x.f.k,N x.f.a x.f.l.length x.f.c,N x.a x.l.length x.c]
theorem Js(a b:List TT):YT (a++b)=YT a++YT b:=by simp[YT]
theorem KL:∀(l:List TT)(j:Nat)(h:j<l.length)(i:Nat),i<7->(YT l)[j*7+i]?=[Value.int I l[j].k,L I l[j].n,L I l[j].t.k,N l[j].t.a l[j].t.l.length l[j].t.c,L I l[j].f.k,N l[j].f.a l[j].f.l.length l[j].f.c,N l[j].a l[j].l.length l[j].c][i]?
 |[],j,h,_,_=>by simp at h
 |x::r,0,_,i,hi=>by
  obtain rfl|rfl|rfl|rfl|rfl|rfl|rfl:i=0\/i=1\/i=2\/i=3\/i=4\/i=5\/i=6:=by omega
  all_goals simp[YT]
 |x::r,j+1,h,i,hi=>by
  have a:=KL r j (by simpa using h) i hi;have e:(j+1)*7+i=(j*7+i)+1+1+1+1+1+1+1:=by omega
  rw[e];simpa[YT] using a
structure OZ(base:Nat)(v:V)(cs:List TT)(w:U):Prop where
 own:w.ownsRow base 27 7 v cs.length (YT cs)
 ins:∀c,c∈cs->c.In w/\c.Bl (fun b=>base<=b/\D b≠v.ownBlock)
theorem OZ.nil(base:Nat)(w:U):OZ base (N B 0 0) [] w:=⟨World.ownsRow_nil _ _ _ _,fun c h=>by cases h⟩
theorem OZ.kept{v:V}{cs:List TT}(h:OZ base v cs w)(i:Yi R B w w')(p:R<base):OZ base v cs w':=by
 refine⟨⟨h.own.1,?_⟩,fun c e=>⟨(h.ins c e).1.keptR i ((h.ins c e).2.mono fun b j=>by omega),(h.ins c e).2⟩⟩;rcases h.own.2 with o|⟨g,d,a,l,j,k,rest⟩
 .exact .inl o
 .exact .inr ⟨g,d,a,l,j,(i.block g (Zb.1 k).1 (by omega) (by simp)).trans k,rest⟩
theorem OZ.below{v:V}{cs:List TT}(h:OZ base v cs w)(e:Zk w.heap.size w w'):OZ base v cs w':=by
 refine⟨⟨h.own.1,?_⟩,fun c j=>⟨(h.ins c j).1.below e,(h.ins c j).2⟩⟩;rcases h.own.2 with l|⟨g,d,a,k,b,i,rest⟩
 .exact .inl l
 .exact .inr ⟨g,d,a,k,b,(e.block g (Zb.1 i).1).trans i,rest⟩
theorem OZ.step{v:V}{cs:List TT}{w2 w3:U}{c:TT}{gg cap1:Nat}{X:Obj}(h:OZ base v cs w2)(r:c.In w2)(q:c.Bl (fun b=>base<=b/\D b≠v.ownBlock))
  (o:w3.ownsRow base 27 7 (N (D ⟨gg,0,B⟩) (cs.length+1) cap1) (cs.length+1) (YT cs++YT [c])) (l:(w2.alloc X).grownBy w3 v.ownBlock) (u:v.ownBlock=D gg\/gg=w2.heap.size+1) :
  OZ base (N (D ⟨gg,0,B⟩) (cs.length+1) cap1) (cs++[c]) w3/\∀k,k<w2.heap.size->D k≠v.ownBlock->w3.heap[k]?=w2.heap[k]?:=by
 have g:∀k,k<w2.heap.size->D k≠v.ownBlock->w3.heap[k]?=w2.heap[k]?:=fun k x y=>by rw[l.block k (by simp;omega) y];exact((Zi _ w2).alloc (Zd _) X).block k x
 refine⟨⟨by rw[Js,List.length_append,List.length_singleton];exact o,fun d hd=>?_⟩,g⟩;have j:d.In w2/\d.Bl (fun b=>base<=b/\D b≠v.ownBlock):=by
  rcases List.mem_append.1 hd with hd|hd
  .exact h.ins d hd
  .rcases List.mem_singleton.1 hd with rfl;exact⟨r,q⟩
 have w:=j.1.bl.and j.2;refine⟨j.1.congr (P:=fun b=>b<w2.heap.size/\base<=b/\D b≠v.ownBlock) (fun b p i=>?_) w,w.mono fun b p=>⟨p.2.1,?_⟩⟩
 .exact Zc (a:=⟨b,i,B⟩) (g b p.1 p.2.2)
 .show D b≠D gg
  rcases u with e|e
  .rw[<-e];exact p.2.2
  .simp only[ne_eq,Option.some.injEq];omega
theorem OZ.list{v:V}{cs:List TT}(h:OZ base v cs w):∃a c,v=N a cs.length c/\(∀j(hj:j<cs.length),∃b o,a=D ⟨b,o,B⟩/\X4 w b (o+j*7) cs[j])/\(∀y,cs≠[]->a=D y->base<=y.block):=by
 rcases h.own.2 with⟨rfl,q⟩|⟨g,l,e,rfl,p,_⟩
 .have:cs=[]:=ZB.1 q;subst this;exact⟨B,0,rfl,fun j hj=>absurd hj (by simp),fun y h=>absurd rfl h⟩
 .refine⟨_,_,rfl,fun j hj=>⟨g,0,rfl,?_⟩,fun y _ k=>by cases k;exact p⟩;have d:∀i,i<7->w.cell? ⟨g,0+j*7+i,B⟩=_:=fun i hi=>by rw[Nat.zero_add,h.own.cellAt (j*7+i) (by omega),KL cs j hj i hi]
  exact⟨d 0 (by omega),d 1 (by omega),d 2 (by omega),d 3 (by omega),d 4 (by omega),d 5 (by omega),d 6 (by omega)⟩
theorem OZ.tree{v:V}{cs:List TT}(h:OZ base v cs w):∃a c,v=N a cs.length c/\∀k n t f,t.In w->f.In w->(TT.mk k n t f a c cs).In w/\(∀P:Nat->Prop,(∀b,base<=b->P b)->t.Bl P->f.Bl P->(TT.mk k n t f a c cs).Bl P):=by obtain⟨a,c,q,l,g⟩:=h.list;refine⟨a,c,q,fun k n t f p j=>⟨TT.In_mk.2 ⟨p,j,l,fun x d=>(h.ins x d).1⟩,fun P i r o=>TT.Bl_mk.2 ⟨r,o,fun e x d=>i _ (g x e d),fun x d=>(h.ins x d).2.mono fun b g=>i b g.1⟩⟩⟩
theorem OZ.lt{v:V}{cs:List TT}(h:OZ base v cs w)(k:Nat)(hk:v.ownBlock=D k):base<=k/\k<w.heap.size:=h.own.lt k hk
theorem Pn(k:Int)(w:U):Zg F 85 #[L I k] w fun e w'=>e=Z (.bool (UI k))/\w'=w:=by
 cases h7:(k==7) with
 |true=>go_enter func85,ntmps85;go_wp2_with fail;go_ret;exact⟨by simp[UI,h7],rfl⟩
 |false=>go_enter func85,ntmps85;go_wp2_with fail;go_ret;exact⟨by simp[UI,h7],rfl⟩
def M4(o:Option Nat):V:=Zh #[L I ((o.getD 0:Nat):Int),.bool o.isSome]
theorem Ua{x y:ByteArray}(h:(x.toList==y.toList)=Za):x≠y:=(Lib.bytes_beq_false_iff _ _).1 h
theorem T8(u v:V)(w:U):(Zf 84 (Zo #[u,v]) (L I 0)).run F w=.ok u w:=by simp[Zf,Zq Zz,go_sem]
theorem T7(u v:V)(w:U):(Zf 84 (Zo #[u,v]) (L I 1)).run F w=.ok v w:=by simp[Zf,Zq Zz,go_sem]
theorem QN(x:ByteArray)(w:U)(g:Gl w):Zg F 53 #[.string x] w fun e w'=>e=Z (M4 (UC x KV 0))/\w'=w:=by
 have r:=g.tw.cell 0;have u:=g.tw.cell 1;simp only[ZH,ZD,ZE] at r u;clear g;obtain⟨l,d⟩:∃b,((⟨#[110,111]⟩:ByteArray).toList==x.toList)=b:=⟨_,rfl⟩
 obtain⟨a,o⟩:∃b,((⟨#[121,101,115]⟩:ByteArray).toList==x.toList)=b:=⟨_,rfl⟩
 have p:=Yx d;have q:=Yx o;have k0:([110,111]==x.toList)=l:=by rw[<-d,Lib.toList_data ⟨#[110,111]⟩]
 have y:([121,101,115]==x.toList)=a:=by rw[<-o,Lib.toList_data ⟨#[121,101,115]⟩]
 clear d o;have x0:=T8 (.string ⟨#[110,111]⟩) (.string ⟨#[121,101,115]⟩);have x1:=T7 (.string ⟨#[110,111]⟩) (.string ⟨#[121,101,115]⟩);go_enter func53,ntmps53;go_wp2_with fail;go_loopg [7] 2 (fun k i wr=>∃j:Nat,k+j=2/\i=L I (j:Int)/\wr=w/\Hid ((1<=j->l=Za)/\(2<=j->a=Za)))
 case atStart=>exact⟨0,rfl,rfl,rfl,fun h=>absurd h (by omega),fun h=>absurd h (by omega)⟩
 case round=>
  obtain⟨j,z,rfl,rfl,c⟩:=hrel;obtain rfl|rfl|rfl:j=0\/j=1\/j=2:=by omega
  .cases l
   .go_wp2_with fail;go_roundg 1
    case measure=>omega
    case rel=>exact⟨1,rfl,rfl,rfl,fun _=>trivial,fun h=>absurd h (by omega)⟩
   .go_wp2_with fail;refine Zl (v:=Zh #[L I 0,.bool Zu]) (by simp[results,ZJ,go_sem]) rfl ⟨?_,rfl⟩;rw[<-(Lib.bytes_beq_iff _ _).1 p.out];rfl
  .obtain rfl:=c.out.1 (by omega);cases a
   .go_wp2_with fail;go_roundg 0
    case measure=>omega
    case rel=>exact⟨2,rfl,rfl,rfl,fun _=>trivial,fun _=>trivial⟩
   .go_wp2_with fail;refine Zl (v:=Zh #[L I 1,.bool Zu]) (by simp[results,ZJ,go_sem]) rfl ⟨?_,rfl⟩;rw[<-(Lib.bytes_beq_iff _ _).1 q.out];rfl
  .obtain rfl:=c.out.1 (by omega);obtain rfl:=c.out.2 (by omega);go_wp2_with fail;refine Zl (v:=Zh #[L I 0,.bool Za]) (by simp[results,ZJ,go_sem]) rfl ⟨?_,rfl⟩;simp[M4,UC,KV,Ua p.out,Ua q.out]
theorem AD(u v t:V)(w:U):(Zf 209 (Zo #[u,v,t]) (L I 0)).run F w=.ok u w:=by simp[Zf,Zq Zp,go_sem]
theorem AC(u v t:V)(w:U):(Zf 209 (Zo #[u,v,t]) (L I 1)).run F w=.ok v w:=by simp[Zf,Zq Zp,go_sem]
theorem AB(u v t:V)(w:U):(Zf 209 (Zo #[u,v,t]) (L I 2)).run F w=.ok t w:=by simp[Zf,Zq Zp,go_sem]
theorem JW(x:ByteArray)(w:U)(c:Gl w):Zg F 126 #[.string x] w fun e w'=>e=Z (M4 (UC x MQ 0))/\w'=w:=by
 have c0:=c.ty.cell 0;have c1:=c.ty.cell 1;have z:=c.ty.cell 2;simp only[ZH,ZD,ZE] at c0 c1 z;clear c;obtain⟨p,l⟩:∃b,((⟨#[97,110,121]⟩:ByteArray).toList==x.toList)=b:=⟨_,rfl⟩
 obtain⟨d,q⟩:∃b,((⟨#[110,117,109]⟩:ByteArray).toList==x.toList)=b:=⟨_,rfl⟩
 obtain⟨o,g⟩:∃b,((⟨#[116,114,117,116,104]⟩:ByteArray).toList==x.toList)=b:=⟨_,rfl⟩
 have r:=Yx l;have u:=Yx q;have y:=Yx g;have k0:([97,110,121]==x.toList)=p:=by rw[<-l,Lib.toList_data ⟨#[97,110,121]⟩]
 have k1:([110,117,109]==x.toList)=d:=by rw[<-q,Lib.toList_data ⟨#[110,117,109]⟩]
 have k2:([116,114,117,116,104]==x.toList)=o:=by rw[<-g,Lib.toList_data ⟨#[116,114,117,116,104]⟩]
 clear l q g;have x0:=AD (.string ⟨#[97,110,121]⟩) (.string ⟨#[110,117,109]⟩) (.string ⟨#[116,114,117,116,104]⟩);have x1:=AC (.string ⟨#[97,110,121]⟩) (.string ⟨#[110,117,109]⟩) (.string ⟨#[116,114,117,116,104]⟩);have x2:=AB (.string ⟨#[97,110,121]⟩) (.string ⟨#[110,117,109]⟩) (.string ⟨#[116,114,117,116,104]⟩);go_enter func126,ntmps126;go_wp2_with fail;go_loopg [7] 3 (fun k i wr=>∃j:Nat,k+j=3/\i=L I (j:Int)/\wr=w/\Hid ((1<=j->p=Za)/\(2<=j->d=Za)/\(3<=j->o=Za)))
 case atStart=>exact⟨0,rfl,rfl,rfl,fun h=>absurd h (by omega),fun h=>absurd h (by omega),fun h=>absurd h (by omega)⟩
 case round=>
  obtain⟨j,hj,rfl,rfl,a⟩:=hrel;obtain rfl|rfl|rfl|rfl:j=0\/j=1\/j=2\/j=3:=by omega
  .cases p
   .go_wp2_with fail;go_roundg 2
    case measure=>omega
    case rel=>exact⟨1,rfl,rfl,rfl,fun _=>trivial,fun h=>absurd h (by omega),fun h=>absurd h (by omega)⟩
   .go_wp2_with fail;refine Zl (v:=Zh #[L I 0,.bool Zu]) (by simp[results,Zv,go_sem]) rfl ⟨?_,rfl⟩;rw[<-(Lib.bytes_beq_iff _ _).1 r.out];rfl
  .obtain rfl:=a.out.1 (by omega);cases d
   .go_wp2_with fail;go_roundg 1
    case measure=>omega
    case rel=>exact⟨2,rfl,rfl,rfl,fun _=>trivial,fun _=>trivial,fun h=>absurd h (by omega)⟩
   .go_wp2_with fail;refine Zl (v:=Zh #[L I 1,.bool Zu]) (by simp[results,Zv,go_sem]) rfl ⟨?_,rfl⟩;rw[<-(Lib.bytes_beq_iff _ _).1 u.out];rfl
  .obtain rfl:=a.out.1 (by omega);obtain rfl:=a.out.2.1 (by omega);cases o
   .go_wp2_with fail;go_roundg 0
    case measure=>omega
    case rel=>exact⟨3,rfl,rfl,rfl,fun _=>trivial,fun _=>trivial,fun _=>trivial⟩
   .go_wp2_with fail;refine Zl (v:=Zh #[L I 2,.bool Zu]) (by simp[results,Zv,go_sem]) rfl ⟨?_,rfl⟩;rw[<-(Lib.bytes_beq_iff _ _).1 y.out];rfl
  .obtain rfl:=a.out.1 (by omega);obtain rfl:=a.out.2.1 (by omega);obtain rfl:=a.out.2.2 (by omega);go_wp2_with fail;refine Zl (v:=Zh #[L I 0,.bool Za]) (by simp[results,Zv,go_sem]) rfl ⟨?_,rfl⟩;simp[M4,UC,MQ,Ua r.out,Ua u.out,Ua y.out]
structure Gh where
 v:Nat->Option YK
 c:Nat->Option Ca
 s:Nat->Option (List YK)
def Gh.dom(G:Gh)(b:Nat):Prop:=G.v b≠B\/G.c b≠B\/G.s b≠B
def Gh.vp(G:Gh)(p:Option Zj)(v:YK):Prop:=∃b,p=D ⟨b,0,B⟩/\G.v b=D v
def Gh.cp(G:Gh)(p:Option Zj)(c:Option Ca):Prop:=(p=B/\c=B)\/∃b x,p=D ⟨b,0,B⟩/\c=D x/\G.c b=D x
def Gh.sp(G:Gh)(p:Option Zj)(e:List YK):Prop:=(p=B/\e=[])\/∃b,p=D ⟨b,0,B⟩/\G.s b=D e
structure Gh.le(G H:Gh):Prop where
 v:∀b x,G.v b=D x->H.v b=D x
 c:∀b x,G.c b=D x->H.c b=D x
 s:∀b x,G.s b=D x->H.s b=D x
theorem Gh.le.refl(G:Gh):G.le G:=⟨fun _ _ h=>h,fun _ _ h=>h,fun _ _ h=>h⟩
theorem Gh.le.trans{G H K:Gh}(h:G.le H)(h':H.le K):G.le K:=⟨fun b x e=>h'.v b x (h.v b x e),fun b x e=>h'.c b x (h.c b x e),fun b x e=>h'.s b x (h.s b x e)⟩
theorem Gh.vp.le{G H:Gh}{v:YK}(h:G.vp p v)(a:G.le H):H.vp p v:=by obtain⟨b,e,c⟩:=h;exact⟨b,e,a.v b v c⟩
theorem Gh.cp.le{G H:Gh}{c:Option Ca}(h:G.cp p c)(g:G.le H):H.cp p c:=by
 rcases h with h|⟨b,x,e,a,d⟩
 .exact .inl h
 .exact .inr ⟨b,x,e,a,g.c b x d⟩
theorem Gh.sp.le{G H:Gh}{e:List YK}(h:G.sp p e)(d:G.le H):H.sp p e:=by
 rcases h with h|⟨b,a,c⟩
 .exact .inl h
 .exact .inr ⟨b,a,d.s b e c⟩
theorem Gh.cp_none(G:Gh):G.cp B B:=.inl ⟨rfl,rfl⟩
theorem Gh.sp_nil(G:Gh):G.sp B []:=.inl ⟨rfl,rfl⟩
def NH(w0:U)(p:Option Zj)(x:Tm):Prop:=∃(b o:Nat)(y:TT),p=D ⟨b,o,B⟩/\X4 w0 b o y/\y.In w0/\y.tm=x
def Wq(w0 w:U)(G:Gh)(b:Nat)(v:YK):Prop:=∃pb ps pi pg pa:Option Zj,
 w.cell? ⟨b,0,B⟩=D (L I v.k)/\w.cell? ⟨b,1,B⟩=D (L I v.n)/\w.cell? ⟨b,2,B⟩=D (E pb)/\w.cell? ⟨b,3,B⟩=D (E ps)/\w.cell? ⟨b,4,B⟩=D (E pi)/\w.cell? ⟨b,5,B⟩=D (E pg)/\w.cell? ⟨b,6,B⟩=D (E pa)/\w.cell? ⟨b,7,B⟩=D (L I v.az)/\
 (v.k=3->NH w0 pb v.body/\G.sp ps v.env)/\(v.k=4\/v.k=5->∃u,v.inn=[u]/\G.vp pi u)/\G.cp pg v.given/\G.cp pa v.answer
structure Ks(w:U)(b:Nat)(c:Ca)(pg pa:Option Zj):Prop where
 c0:w.cell? ⟨b,0,B⟩=D (.bool c.opens)
 c1:w.cell? ⟨b,1,B⟩=D (L I c.wrong.k)
 c2:w.cell? ⟨b,2,B⟩=D (L I c.wrong.n)
 c3:w.cell? ⟨b,3,B⟩=D (.bool c.wrong.b)
 c4:w.cell? ⟨b,4,B⟩=D (L I c.kind)
 c5:w.cell? ⟨b,5,B⟩=D (L I c.ends.k)
 c6:w.cell? ⟨b,6,B⟩=D (L I c.ends.n)
 c7:w.cell? ⟨b,7,B⟩=D (.bool c.ends.b)
 c8:w.cell? ⟨b,8,B⟩=D (E pg)
 c9:w.cell? ⟨b,9,B⟩=D (E pa)
 c10:w.cell? ⟨b,10,B⟩=D (.bool c.hides)
def Db(w:U)(G:Gh)(b:Nat)(e:List YK):Prop:=∃v r pv ps,e=v::r/\w.cell? ⟨b,0,B⟩=D (E pv)/\w.cell? ⟨b,1,B⟩=D (E ps)/\G.vp pv v/\G.sp ps r
structure HG(w0 w:U)(G:Gh):Prop where
 v:∀b x,G.v b=D x->Wq w0 w G b x
 c:∀b x,G.c b=D x->∃pg pa,Ks w b x pg pa/\G.cp pg x.given/\G.cp pa x.answer
 s:∀b x,G.s b=D x->Db w G b x
theorem Ks.of{c:Ca}{pg pa:Option Zj}(h:Ks w b c pg pa)(e:∀i,w'.cell? ⟨b,i,B⟩=w.cell? ⟨b,i,B⟩):Ks w' b c pg pa:=⟨(e _).trans h.c0,(e _).trans h.c1,(e _).trans h.c2,(e _).trans h.c3,(e _).trans h.c4,(e _).trans h.c5,(e _).trans h.c6,(e _).trans h.c7,(e _).trans h.c8,(e _).trans h.c9,(e _).trans h.c10⟩
theorem Wq.of{G H:Gh}{v:YK}(h:Wq w0 w G b v)(a:G.le H)(e:∀i,w'.cell? ⟨b,i,B⟩=w.cell? ⟨b,i,B⟩):Wq w0 w' H b v:=by obtain⟨pb,ps,l,j,pa,p,h1,k,q,z,h5,r,h7,d,y,a3,g⟩:=h;refine⟨pb,ps,l,j,pa,(e _).trans p,(e _).trans h1,(e _).trans k,(e _).trans q,(e _).trans z,(e _).trans h5,(e _).trans r,(e _).trans h7,fun c=>⟨(d c).1,(d c).2.le a⟩,fun c=>?_,a3.le a,g.le a⟩;obtain⟨u,x,o⟩:=y c;exact⟨u,x,o.le a⟩
theorem Db.of{G H:Gh}{x:List YK}(h:Db w G b x)(a:G.le H)(e:∀i,w'.cell? ⟨b,i,B⟩=w.cell? ⟨b,i,B⟩):Db w' H b x:=by obtain⟨v,r,l,ps,c,j,g,d,k⟩:=h;exact⟨v,r,l,ps,c,(e _).trans j,(e _).trans g,d.le a,k.le a⟩
theorem HG.of{G:Gh}(h:HG w0 w G)(e:∀b,G.dom b->∀i,w'.cell? ⟨b,i,B⟩=w.cell? ⟨b,i,B⟩):HG w0 w' G:=by refine⟨fun b x a=>(h.v b x a).of (Gh.le.refl G) (e b (.inl (by rw[a];simp))),fun b x a=>?_,fun b x a=>(h.s b x a).of (Gh.le.refl G) (e b (.inr (.inr (by rw[a];simp))))⟩;obtain⟨c,j,g,d,k⟩:=h.c b x a;exact⟨c,j,g.of (e b (.inr (.inl (by rw[a];simp)))),d,k⟩
theorem HG.lt{G:Gh}(h:HG w0 w G)(a:G.dom b):b<w.heap.size:=by
 rcases a with a|a|a
 .obtain⟨x,hx⟩:=Zm.1 a;obtain⟨i,ps,g,d,e,c,_⟩:=h.v b x hx;exact O _ _ c
 .obtain⟨x,hx⟩:=Zm.1 a;obtain⟨d,e,c,_⟩:=h.c b x hx;exact O _ _ c.c0
 .obtain⟨x,hx⟩:=Zm.1 a;obtain⟨v,r,j,ps,_,c,_⟩:=h.s b x hx;exact O _ _ c
def Gh.addV(G:Gh)(b:Nat)(x:YK):Gh:=⟨fun k=>if k=b then D x else G.v k,G.c,G.s⟩
def Gh.addC(G:Gh)(b:Nat)(x:Ca):Gh:=⟨G.v,fun k=>if k=b then D x else G.c k,G.s⟩
def Gh.addS(G:Gh)(b:Nat)(x:List YK):Gh:=⟨G.v,G.c,fun k=>if k=b then D x else G.s k⟩
theorem Gh.le_addV{G:Gh}{x:YK}(h:¬G.dom b):G.le (G.addV b x):=by refine⟨fun k y a=>?_,fun _ _ h=>h,fun _ _ h=>h⟩;have:k≠b:=fun e=>h (.inl (by rw[<-e,a];simp));simp[Gh.addV,this,a]
theorem Gh.le_addC{G:Gh}{x:Ca}(h:¬G.dom b):G.le (G.addC b x):=by refine⟨fun _ _ h=>h,fun k y a=>?_,fun _ _ h=>h⟩;have:k≠b:=fun e=>h (.inr (.inl (by rw[<-e,a];simp)));simp[Gh.addC,this,a]
theorem Gh.le_addS{G:Gh}{x:List YK}(h:¬G.dom b):G.le (G.addS b x):=by refine⟨fun _ _ h=>h,fun _ _ h=>h,fun k y a=>?_⟩;have:k≠b:=fun e=>h (.inr (.inr (by rw[<-e,a];simp)));simp[Gh.addS,this,a]
theorem Gh.dom_addV{G:Gh}{x:YK}(h:(G.addV b x).dom k):k=b\/G.dom k:=by
 by_cases e:k=b
 .exact .inl e
 .right;rcases h with h|h|h
  .left;simpa[Gh.addV,e] using h
  .exact .inr (.inl h)
  .exact .inr (.inr h)
theorem Gh.dom_addC{G:Gh}{x:Ca}(h:(G.addC b x).dom k):k=b\/G.dom k:=by
 by_cases e:k=b
 .exact .inl e
 .right;rcases h with h|h|h
  .exact .inl h
  .right;left;simpa[Gh.addC,e] using h
  .exact .inr (.inr h)
theorem Gh.dom_addS{G:Gh}{x:List YK}(h:(G.addS b x).dom k):k=b\/G.dom k:=by
 by_cases e:k=b
 .exact .inl e
 .right;rcases h with h|h|h
  .exact .inl h
  .exact .inr (.inl h)
  .right;right;simpa[Gh.addS,e] using h
theorem Gh.vp_addV(G:Gh)(b:Nat)(x:YK):(G.addV b x).vp (D ⟨b,0,B⟩) x:=⟨b,rfl,by simp[Gh.addV]⟩
theorem Gh.cp_addC(G:Gh)(b:Nat)(x:Ca):(G.addC b x).cp (D ⟨b,0,B⟩) (D x):=.inr ⟨b,x,rfl,rfl,by simp[Gh.addC]⟩
theorem Gh.sp_addS(G:Gh)(b:Nat)(x:List YK):(G.addS b x).sp (D ⟨b,0,B⟩) x:=.inr ⟨b,rfl,by simp[Gh.addS]⟩
theorem HG.addV{G:Gh}(h:HG w0 w G){x:YK}(d:¬G.dom b)(g:Wq w0 w G b x):HG w0 w (G.addV b x):=by
 have c:=Gh.le_addV (x:=x) d;refine⟨fun k y a=>?_,fun k y a=>?_,fun k y a=>(h.s k y a).of c fun _=>rfl⟩
 .by_cases e:k=b
  .subst e;have:y=x:=by simpa[Gh.addV] using a.symm
   rw[this];exact g.of c fun _=>rfl
  .exact(h.v k y (by simpa[Gh.addV,e] using a)).of c fun _=>rfl
 .obtain⟨pg,pa,h1,h2,h3⟩:=h.c k y a;exact⟨pg,pa,h1,h2.le c,h3.le c⟩
theorem HG.addC{G:Gh}(h:HG w0 w G){x:Ca}(j:¬G.dom b){pg pa:Option Zj}(i:Ks w b x pg pa)(g:G.cp pg x.given)(d:G.cp pa x.answer):HG w0 w (G.addC b x):=by
 have a:=Gh.le_addC (x:=x) j;refine⟨fun k y c=>(h.v k y c).of a fun _=>rfl,fun k y c=>?_,fun k y c=>(h.s k y c).of a fun _=>rfl⟩;by_cases e:k=b
 .subst e;have:y=x:=by simpa[Gh.addC] using c.symm
  rw[this];exact⟨pg,pa,i,g.le a,d.le a⟩
 .obtain⟨pg,pa,h1,h2,h3⟩:=h.c k y (by simpa[Gh.addC,e] using c);exact⟨pg,pa,h1,h2.le a,h3.le a⟩
theorem HG.addS{G:Gh}(h:HG w0 w G){x:List YK}(d:¬G.dom b)(g:Db w G b x):HG w0 w (G.addS b x):=by
 have c:=Gh.le_addS (x:=x) d;refine⟨fun k y a=>(h.v k y a).of c fun _=>rfl,fun k y a=>?_,fun k y a=>?_⟩
 .obtain⟨pg,pa,h1,h2,h3⟩:=h.c k y a;exact⟨pg,pa,h1,h2.le c,h3.le c⟩
 .by_cases e:k=b
  .subst e;have:y=x:=by simpa[Gh.addS] using a.symm
   rw[this];exact g.of c fun _=>rfl
  .exact(h.s k y (by simpa[Gh.addS,e] using a)).of c fun _=>rfl
def Dr(d:Int):Int:=if d=7 then 5 else d
def Mn(w0:U)(G:Gh)(t:Xx)(d:Int)(pt ps pc:Option Zj):Prop:=d=Dr t.d/\(t.d=1\/t.d=4->NH w0 pt t.x/\G.sp ps t.s)/\G.cp pc t.c
def BH(w0:U)(G:Gh):List Xx->List V->Prop
 |[],xs=>xs=[]
 |t::ts,xs=>∃ys d pt ps pc,xs=ys++[L I d,E pt,E ps,E pc]/\BH w0 G ts ys/\Mn w0 G t d pt ps pc
def BG(G:Gh):List YK->List V->Prop
 |[],xs=>xs=[]
 |v::vs,xs=>∃ys p,xs=ys++[E p]/\BG G vs ys/\G.vp p v
theorem Mn.le{G H:Gh}(hl:G.le H){t:Xx}{d:Int}{pt ps pc:Option Zj}(h:Mn w0 G t d pt ps pc):Mn w0 H t d pt ps pc:=⟨h.1,fun hd=>⟨(h.2.1 hd).1,(h.2.1 hd).2.le hl⟩,h.2.2.le hl⟩
theorem BH.le{w0:U}{G H:Gh}(hl:G.le H):∀{ts:List Xx}{xs:List V},BH w0 G ts xs->BH w0 H ts xs
 |[],_,h=>h
 |_::_,_,⟨ys,d,pt,ps,pc,e,h1,h2⟩=>⟨ys,d,pt,ps,pc,e,h1.le hl,h2.le hl⟩
theorem BG.le{G H:Gh}(hl:G.le H):∀{vs:List YK}{xs:List V},BG G vs xs->BG H vs xs
 |[],_,h=>h
 |_::_,_,⟨ys,p,e,h1,h2⟩=>⟨ys,p,e,h1.le hl,h2.le hl⟩
def LY(w:U)(M k:Nat):Prop:=∃v:V,v.ownBlock=D k/\(w.cell? ⟨M,0,B⟩=D v\/w.cell? ⟨M,1,B⟩=D v)
structure Fr(M:Nat)(w w':U):Prop where
 os:w'.os=w.os
 tape:w'.tape=w.tape
 output:w'.output=w.output
 size:w.heap.size<=w'.heap.size
 block:∀k,k<w.heap.size->k≠M->¬LY w M k->w'.heap[k]?=w.heap[k]?/\¬LY w' M k
theorem Fr.refl(M:Nat)(w:U):Fr M w w:=⟨rfl,rfl,rfl,Zd _,fun _ _ _ h=>⟨rfl,h⟩⟩
theorem Fr.trans{a b c:U}(h:Fr M a b)(d:Fr M b c):Fr M a c:=by refine⟨d.os.trans h.os,d.tape.trans h.tape,d.output.trans h.output,ZA h.size d.size,fun k e g l=>?_⟩;obtain⟨i,p⟩:=h.block k e g l;obtain⟨j,o⟩:=d.block k (Zw e h.size) g p;exact⟨j.trans i,o⟩
theorem Fr.cell(h:Fr M w w')(hk:k<w.heap.size)(h1:k≠M)(h2:¬LY w M k)(i:Nat):w'.cell? ⟨k,i,B⟩=w.cell? ⟨k,i,B⟩:=Zc (a:=⟨k,i,B⟩) (h.block k hk h1 h2).1
theorem Fr.frozen(h:Fr M w w')(hk:k<w.heap.size)(h1:k≠M)(h2:¬LY w M k)(i:Nat):w'.frozen? ⟨k,i,B⟩=w.frozen? ⟨k,i,B⟩:=Zs (a:=⟨k,i,B⟩) (h.block k hk h1 h2).1
theorem LY.congr(b:w'.cell? ⟨M,0,B⟩=w.cell? ⟨M,0,B⟩)(a:w'.cell? ⟨M,1,B⟩=w.cell? ⟨M,1,B⟩)(h:LY w' M k):LY w M k:=by obtain⟨v,e,h⟩:=h;rw[b,a] at h;exact⟨v,e,h⟩
theorem Fr.below(h:Zk w.heap.size w w')(hM:M<w.heap.size):Fr M w w':=⟨h.os,h.tape,h.output,h.size,fun k hk _ h2=>⟨h.block k hk,fun hr=>h2 (hr.congr (h.cell (p:=⟨M,0,B⟩) hM) (h.cell (p:=⟨M,1,B⟩) hM))⟩⟩
structure MS(w0 w:U)(M:Nat)(G:Gh)(s:St):Prop where
 ex:∃tv mv txs mxs,w.cell? ⟨M,0,B⟩=D tv/\w.cell? ⟨M,1,B⟩=D mv/\w.ownsRow (M+1) 130 4 tv s.ts.length txs/\w.ownsRow (M+1) 132 1 mv s.vs.length mxs/\(∀g,tv.ownBlock=D g->mv.ownBlock=D g->False)/\BH w0 G s.ts txs/\BG G s.vs mxs
 c2:w.cell? ⟨M,2,B⟩=D (L I s.calls)
 c3:w.cell? ⟨M,3,B⟩=D (L I s.fuel)
 c4:w.cell? ⟨M,4,B⟩=D (L I s.ended.k)
 c5:w.cell? ⟨M,5,B⟩=D (L I s.ended.n)
 c6:w.cell? ⟨M,6,B⟩=D (.bool s.ended.b)
 fz:∀o,w.frozen? ⟨M,o,B⟩=Za
 hg:HG w0 w G
 far:∀b,G.dom b->b≠M/\¬LY w M b
 bel:Zk w0.heap.size w0 w
 lo:w0.heap.size<=M
theorem MS.lt{G:Gh}{s:St}(h:MS w0 w M G s):M<w.heap.size:=O _ _ h.c2
theorem MS.below{G:Gh}{s:St}(h:MS w0 w M G s)(d:Zk w.heap.size w w'):MS w0 w' M G s:=by
 have hM:=h.lt;have a:∀i,w'.cell? ⟨M,i,B⟩=w.cell? ⟨M,i,B⟩:=fun i=>d.cell (p:=⟨M,i,B⟩) hM;obtain⟨tv,mv,r,u,h0,h1,o0,o1,x,ht,hv⟩:=h.ex;have j:∀{e sz:Nat}{v:V}{n:Nat}{q:List V},w.ownsRow (M+1) e sz v n q->w'.ownsRow (M+1) e sz v n q:=by
  intro e sz v n q z;refine⟨z.1,?_⟩;rcases z.2 with x|⟨g,y,k,rfl,l,c,rest⟩
  .exact .inl x
  .exact .inr ⟨g,y,k,rfl,l,by rw[d.block g (Zb.1 c).1];exact c,rest⟩
 refine⟨⟨tv,mv,r,u,(a 0).trans h0,(a 1).trans h1,j o0,j o1,x,ht,hv⟩,(a 2).trans h.c2,(a 3).trans h.c3,(a 4).trans h.c4,(a 5).trans h.c5,(a 6).trans h.c6,fun o=>(d.frozen (p:=⟨M,o,B⟩) hM).trans (h.fz o),?_,fun b hd=>⟨(h.far b hd).1,fun hr=>(h.far b hd).2 (hr.congr (a 0) (a 1))⟩,h.bel.trans (d.mono h.bel.size),h.lo⟩;exact h.hg.of fun b hd i=>d.cell (p:=⟨b,i,B⟩) (h.hg.lt hd)
theorem MS.grow{G H:Gh}{s:St}(h:MS w0 w M G s)(d:G.le H)(l:HG w0 w H)(i:∀b,H.dom b->b≠M/\¬LY w M b):MS w0 w M H s:=by obtain⟨e,g,a,c,p,o,j,o1,r,q,k⟩:=h.ex;exact⟨⟨e,g,a,c,p,o,j,o1,r,q.le d,k.le d⟩,h.c2,h.c3,h.c4,h.c5,h.c6,h.fz,l,i,h.bel,h.lo⟩
theorem Tryz.info130:(F.info? 130).map (fun i=>(i.zero,i.size,i.bytes))=D (D (Zo #[L I 0,E B,E B,E B]),4,32):=by kernel_rfl
theorem Tryz.info132:(F.info? 132).map (fun i=>(i.zero,i.size,i.bytes))=D (D (E B),1,8):=by kernel_rfl
def LX(M j e sz:Nat)(v:V)(n:Nat)(ys:List V)(w w':U):Prop:=∃g cap,w'.cell? ⟨M,j,B⟩=D (N (D ⟨g,0,B⟩) (n+1) cap)/\(∀i,i≠j->w'.cell? ⟨M,i,B⟩=w.cell? ⟨M,i,B⟩)/\(∀o,w'.frozen? ⟨M,o,B⟩=Za)/\w'.ownsRow (M+1) e sz (N (D ⟨g,0,B⟩) (n+1) cap) (n+1) ys/\(v.ownBlock=D g\/w.heap.size<=g)/\Yi M v.ownBlock w w'
theorem TS{sz:Nat}{v:V}{n:Nat}{w1:U}{cap:Nat}(d:Zk w.heap.size w W)(b:W.grownBy w1 v.ownBlock)(l:w1.ownsRow (M+1) e sz (N (D ⟨g,0,B⟩) (n+1) cap) (n+1) ys)(r:v.ownBlock=D g\/w.heap.size<=g)(u:v.ownBlock≠D M)(hv:w.cell? ⟨M,j,B⟩=D v)(x:∀o,w.frozen? ⟨M,o,B⟩=Za):
  LX M j e sz v n ys w (w1.setCell ⟨M,j,B⟩ (N (D ⟨g,0,B⟩) (n+1) cap)):=by
 have y:M<w.heap.size:=O _ _ hv;have q:=Zw y d.size;have h:=(b.block M q (fun e=>u e.symm)).trans (d.block M y);have c:∀i,w1.cell? ⟨M,i,B⟩=w.cell? ⟨M,i,B⟩:=fun i=>Zc (a:=⟨M,i,B⟩) h;have p:∀i,w1.frozen? ⟨M,i,B⟩=w.frozen? ⟨M,i,B⟩:=fun i=>Zs (a:=⟨M,i,B⟩) h;refine⟨g,cap,T _ _ _ ((c j).trans hv),fun i hi=>?_,fun o=>?_,Zt l (by simp) _,r,?_⟩
 .rw[C _ _ _ _ (by intro e;cases e;exact hi rfl)];exact c i
 .have:=(p o).trans (x o);simpa using this
 .refine⟨b.os.trans d.os,b.tape.trans d.tape,b.output.trans d.output,?_,fun k z h1 h2=>?_⟩
  .rw[show (w1.setCell ⟨M,j,B⟩ (N (D ⟨g,0,B⟩) (n+1) cap)).heap.size=w1.heap.size from by simp[Zn]];exact ZA d.size b.size
  .rw[Ze _ _ _ _ h1,b.block k (Zw z d.size) h2,d.block k z]
theorem Ax(M:Nat)(v:V)(n:Nat)(l:List V)(p:Option Zj)(w:U)(x:w.cell? ⟨M,1,B⟩=D v)(g:∀o,w.frozen? ⟨M,o,B⟩=Za)(d:w.ownsRow (M+1) 132 1 v n l)(c:v.ownBlock≠D M)(hn:n+1<=1000000000):
  Zg F 150 #[E (D ⟨M,0,B⟩),E p] w fun e w'=>e=Z (Zh #[])/\LX M 1 132 1 v n (l++[E p]) w w':=by
 have lr:M<w.heap.size:=O _ _ x;obtain⟨i0,z,k,y,j⟩:=info_parts Tryz.info132;have q:Zk w.heap.size w (w.alloc (.cells #[E p] 132)):=(Zi _ _).alloc (Zd _) _;have i:(w.alloc (.cells #[E p] 132)).heap[w.heap.size]?=D (.cells #[E p] 132):=heap_alloc_new _ _;have u:=g 1;go_enter func150,ntmps150;go_wp2_with (at_builtin;refine wpList_append_lies _ rfl _ _ _ rfl (M+1) 132 i0 _ 1 8 underlying72 z k y j rfl (by omega) v n l rfl (d.alloc _) ⟨w.heap.size,0,B⟩ 1 1 [E p] rfl rfl (ZK (cs:=#[E p]) (t:=132) (fr:=(0,0)) i) (by simp[Value.oneCell']) (by omega) (by unfold maxLen;omega) (by omega) (by simp;omega) (w.heap.size+1) (by simp) ?_;intro gg cap1 w3 b a r a0;have a1:w3.frozen? ⟨M,1,B⟩=Za:=(by rw[a.frozen_far _ (by simp;omega) (Ne.symm c),q.frozen (p:=⟨M,1,B⟩) lr];exact u);have a2:w3.cell? ⟨M,1,B⟩=D v:=(by rw[a.cell_far _ (by simp;omega) (Ne.symm c),q.cell (p:=⟨M,1,B⟩) lr];exact x))
 go_end0;refine⟨rfl,TS q a b ?_ c x g⟩;rcases r with h|h
 .exact .inl h
 .exact .inr (by omega)
theorem Ak(M:Nat)(v:V)(n:Nat)(u:List V)(d:Int)(j ps i:Option Zj)(w:U)(hv:w.cell? ⟨M,0,B⟩=D v)(k:∀o,w.frozen? ⟨M,o,B⟩=Za)(g:w.ownsRow (M+1) 130 4 v n u)(c:v.ownBlock≠D M)(hn:n+1<=1000000000):
  Zg F 72 #[E (D ⟨M,0,B⟩),Zo #[L I d,E j,E ps,E i]] w fun e w'=>e=Z (Zh #[])/\LX M 0 130 4 v n (u++[L I d,E j,E ps,E i]) w w':=by
 have lr:M<w.heap.size:=O _ _ hv;obtain⟨i0,a1,r,a0,q⟩:=info_parts Tryz.info130;obtain⟨X,hX⟩:∃X,X=Obj.cells #[L I d,E j,E ps,E i] 130:=⟨_,rfl⟩
 have x:bL w ((w.alloc X).alloc X).drew:=(((Zi _ _).alloc (Zd _) _).alloc (by simp) _).drew;have l:((w.alloc X).alloc X).drew.heap[w.heap.size+1]?=D X:=by have h:=heap_alloc_new (w.alloc X) X;rw[World.size_alloc] at h;exact h
 have z:=k 0;subst hX;go_enter func72,ntmps72;go_wp2_with fail;go_region_law ((refine step_append_lies _ (by rfl) _ _ _ (by rfl) (M+1) 130 i0 _ 4 32 underlying71 a1 r a0 q rfl (by omega) v n u (by rfl) (((g.alloc _).alloc _).drew) ⟨w.heap.size+1,0,B⟩ 1 1 [L I d,E j,E ps,E i] (by rfl) (by rfl) (ZK (cs:=#[L I d,E j,E ps,E i]) (t:=130) (fr:=(0,0)) l) (by simp[Value.oneCell']) (by omega) (by unfold maxLen;omega) (by omega) (by simp;omega) (w.heap.size+2) (by simp) ?_;intro gg a5 w1 b a y a2;have a3:w1.frozen? ⟨M,0,B⟩=Za:=(by rw[a.frozen_far _ (by simp;omega) (Ne.symm c),x.frozen (p:=⟨M,0,B⟩) lr];exact z);have a4:w1.cell? ⟨M,0,B⟩=D v:=(by rw[a.cell_far _ (by simp;omega) (Ne.symm c),x.cell (p:=⟨M,0,B⟩) lr];exact hv)))
 all_goals
  go_end0
  refine⟨rfl,TS x a b ?_ c hv k⟩
  rcases y with h|h
  .exact .inl h
  .exact .inr (by omega)
theorem WN(M g:Nat)(n c:Nat)(p:Option Zj)(w:U)(d:w.cell? ⟨M,1,B⟩=D (N (D ⟨g,0,B⟩) (n+1) c))(b:w.frozen? ⟨M,1,B⟩=Za)(i:n+1<=c)(h:n<=1000000000)(a:w.cell? ⟨g,n,B⟩=D (E p)):
  Zg F 75 #[E (D ⟨M,0,B⟩)] w fun e w'=>e=Z (E p)/\w'=w.setCell ⟨M,1,B⟩ (N (D ⟨g,0,B⟩) n c):=by
 have j:M<w.heap.size:=O _ _ d;have k:g<w.heap.size:=O _ _ a;go_enter func75,ntmps75;go_wp2_with fail;go_ret;exact⟨rfl,rfl⟩
theorem Ch(M:Nat)(k n d a:Int)(b c:Bool)(w:U)(g:w.cell? ⟨M,4,B⟩=D (L I k))(o:w.cell? ⟨M,5,B⟩=D (L I n))(h:w.cell? ⟨M,6,B⟩=D (.bool b))(i:w.frozen? ⟨M,4,B⟩=Za)(l:w.frozen? ⟨M,5,B⟩=Za)(p:w.frozen? ⟨M,6,B⟩=Za):
  Zg F 157 #[E (D ⟨M,0,B⟩),Zo #[L I d,L I a,.bool c]] w fun e w'=>e=Z (Zh #[])/\∃X,w'=(((w.setCell ⟨M,4,B⟩ (L I d)).setCell ⟨M,5,B⟩ (L I a)).setCell ⟨M,6,B⟩ (.bool c)).alloc X:=by
 have j:M<w.heap.size:=O _ _ g;go_enter func157,ntmps157;go_wp2_with fail;go_end0;exact⟨rfl,_,rfl⟩
theorem LX.fr{sz:Nat}{v:V}{n:Nat}(h:LX M j e sz v n ys w w')(z:j=0\/j=1)(q:w.cell? ⟨M,j,B⟩=D v):Fr M w w':=by
 obtain⟨g,a0,h1,r,h3,h4,d,b⟩:=h;have p:∀k,v.ownBlock=D k->LY w M k:=fun k b=>⟨v,b,z.elim (fun e=>.inl (e▸q)) (fun e=>.inr (e▸q))⟩
 refine⟨b.os,b.tape,b.output,b.size,fun k l x o=>⟨b.block k l x fun e=>o (p k e.symm),?_⟩⟩;rintro ⟨u,hu,a⟩;have c:∀i,(i=0\/i=1)->w'.cell? ⟨M,i,B⟩=D u->False:=fun i hi a=>by
  by_cases hij:i=j
  .subst hij;rw[h1] at a;cases a
   have y:g=k:=by simpa[Zr] using hu
   subst y;rcases d with d|d
   .exact o (p _ d)
   .omega
  .rw[r i hij] at a;exact o ⟨u,hu,hi.elim (fun e=>.inl (e▸a)) (fun e=>.inr (e▸a))⟩
 rcases a with a|a
 .exact c 0 (.inl rfl) a
 .exact c 1 (.inr rfl) a
theorem Mu{o:Option Nat}(d:Yi M o w w'){sz:Nat}{v:V}{n:Nat}{xs:List V}(h:w.ownsRow base e sz v n xs)(l:M<base)(i:∀g,v.ownBlock=D g->o=D g->False):w'.ownsRow base e sz v n xs:=by
 refine⟨h.1,?_⟩;rcases h.2 with k|⟨g,c,b,rfl,j,a,rest⟩
 .exact .inl k
 .refine .inr ⟨g,c,b,rfl,j,?_,rest⟩;rw[d.block g (Zb.1 a).1 (by omega) (fun e=>i g rfl e.symm)];exact a
theorem TW{sz:Nat}{v:V}{n:Nat}{xs:List V}(h:w.ownsRow (M+1) e sz v n xs):v.ownBlock≠D M:=fun e=>by have:=(h.lt M e).1;omega
theorem MS.rest{G:Gh}{s:St}(h:MS w0 w M G s){sz:Nat}{v:V}{n:Nat}(d:LX M j e sz v n ys w w')(p:j=0\/j=1)(o:w.cell? ⟨M,j,B⟩=D v)(c:∀g,v.ownBlock=D g->M<=g):
  HG w0 w' G/\(∀b,G.dom b->b≠M/\¬LY w' M b)/\Zk w0.heap.size w0 w':=by
 have k:=d.fr p o;refine⟨h.hg.of fun b a i=>k.cell (h.hg.lt a) (h.far b a).1 (h.far b a).2 i,fun b a=>⟨(h.far b a).1,(k.block b (h.hg.lt a) (h.far b a).1 (h.far b a).2).2⟩,?_⟩;obtain⟨g,q,x,r,z,u,y,l⟩:=d;exact h.bel.trans ((l.below c (Nat.le_of_lt h.lt)).mono h.lo)
theorem KG{G:Gh}{s:St}(h:MS w0 w M G s){v:YK}(hv:G.vp p v)(hn:s.vs.length+1<=1000000000):
  Zg F 150 #[E (D ⟨M,0,B⟩),E p] w fun e w'=>e=Z (Zh #[])/\MS w0 w' M G (s.push v)/\Fr M w w':=by
 obtain⟨tv,mv,q,d,h0,r,x,o1,b,ht,u⟩:=h.ex;refine(Ax M mv s.vs.length d p w r h.fz o1 (TW o1) hn).mono ?_;rintro e w' ⟨rfl,j⟩;refine⟨rfl,?_,j.fr (.inr rfl) r⟩;obtain⟨a1,a2,a3⟩:=h.rest j (.inr rfl) r fun g o=>by have:=(o1.lt g o).1;omega
 obtain⟨g,a0,p1,a,y,z,i,hk⟩:=j;refine⟨⟨tv,_,q,_,(a 0 (by omega)).trans h0,p1,Mu hk x (by omega) fun g o hm=>b g o hm,z,fun k c l=>?_,ht,d,p,rfl,u,hv⟩,(a 2 (by omega)).trans h.c2,(a 3 (by omega)).trans h.c3,(a 4 (by omega)).trans h.c4,(a 5 (by omega)).trans h.c5,(a 6 (by omega)).trans h.c6,y,a1,a2,a3,h.lo⟩;have:g=k:=by simpa[Zr] using l
 subst this;rcases i with i|i
 .exact b g c i
 .have:=(x.lt g c).2;omega
theorem XN{G:Gh}{s:St}(h:MS w0 w M G s){t:Xx}{d:Int}{pt ps pc:Option Zj}(hv:Mn w0 G t d pt ps pc)(hn:s.ts.length+1<=1000000000):
  Zg F 72 #[E (D ⟨M,0,B⟩),Zo #[L I d,E pt,E ps,E pc]] w fun e w'=>e=Z (Zh #[])/\MS w0 w' M G (s.plan t)/\Fr M w w':=by
 obtain⟨tv,mv,i,r,p,h1,u,o1,c,ht,x⟩:=h.ex;refine(Ak M tv s.ts.length i d pt ps pc w p h.fz u (TW u) hn).mono ?_;rintro e w' ⟨rfl,l⟩;refine⟨rfl,?_,l.fr (.inl rfl) p⟩;obtain⟨a1,a2,a3⟩:=h.rest l (.inl rfl) p fun g q=>by have:=(u.lt g q).1;omega
 obtain⟨g,a0,p1,a,y,z,j,hk⟩:=l;refine⟨⟨_,mv,_,r,p1,(a 1 (by omega)).trans h1,z,Mu hk o1 (by omega) fun g q hm=>c g hm q,fun k o b=>?_,⟨i,d,pt,ps,pc,rfl,ht,hv⟩,x⟩,(a 2 (by omega)).trans h.c2,(a 3 (by omega)).trans h.c3,(a 4 (by omega)).trans h.c4,(a 5 (by omega)).trans h.c5,(a 6 (by omega)).trans h.c6,y,a1,a2,a3,h.lo⟩;have:g=k:=by simpa[Zr] using o
 subst this;rcases j with j|j
 .exact c g j b
 .have:=(o1.lt g b).2;omega
theorem Fr.set{v:V}(d:j≠0/\j≠1):Fr M w (w.setCell ⟨M,j,B⟩ v):=by
 refine⟨rfl,rfl,rfl,by simp[Zn],fun k _ a b=>⟨Ze _ _ _ _ a,fun c=>b (c.congr ?_ ?_)⟩⟩
 .exact C _ _ _ _ (by intro e;cases e;omega)
 .exact C _ _ _ _ (by intro e;cases e;omega)
theorem Jh{G:Gh}{s:St}(h:MS w0 w M G s){v:YK}{r:List YK}(hs:s.vs=v::r)(hn:r.length<=1000000000):
  Zg F 75 #[E (D ⟨M,0,B⟩)] w fun e w'=>∃p,e=Z (E p)/\G.vp p v/\MS w0 w' M G ⟨s.ts,r,s.calls,s.fuel,s.ended⟩/\Fr M w w':=by
 obtain⟨tv,mv,a4,ab,h0,q,o0,o1,a1,ht,d⟩:=h.ex;rw[hs] at d o1;obtain⟨ys,p,rfl,d,a6⟩:=d;obtain⟨g,c,rfl,l,a8⟩:=o1.form (by simp);have a5:ys.length=r.length*1:=by have:=o1.1;simp at this;omega
 have a2:cL w g r.length (E p):=by
  have hl:r.length=ys.length:=by omega
  have:=o1.cellAt r.length (by simp);rw[hl,List.getElem?_append_right (Zd _)] at this;rw[hl];simpa using this
 have x:r.length+1<=c:=by
  rcases o1.2 with⟨h,_⟩|⟨g',a7,aa,h,_,_,q,_⟩
  .cases h
  .cases h;simpa using q
 refine(WN M g r.length c p w (by simpa using q) (h.fz 1) x hn a2).mono ?_;rintro e w' ⟨rfl,rfl⟩;have a9:g≠M:=by omega
 have j:∀i,i≠1->(w.setCell ⟨M,1,B⟩ (N (D ⟨g,0,B⟩) r.length c)).cell? ⟨M,i,B⟩=w.cell? ⟨M,i,B⟩:=fun i hi=>C _ _ _ _ (by intro e;cases e;exact hi rfl);have y:cL (w.setCell ⟨M,1,B⟩ (N (D ⟨g,0,B⟩) r.length c)) M 1 (N (D ⟨g,0,B⟩) r.length c):=T _ _ _ q;have a:∀k,LY (w.setCell ⟨M,1,B⟩ (N (D ⟨g,0,B⟩) r.length c)) M k->LY w M k:=by
  rintro k ⟨u,hu,z|z⟩
  .rw[j 0 (by omega)] at z;exact⟨u,hu,.inl z⟩
  .rw[y] at z;cases z
   exact⟨_,(by simpa[Zr] using hu),.inr q⟩
 have hf:Fr M w (w.setCell ⟨M,1,B⟩ (N (D ⟨g,0,B⟩) r.length c)):=⟨rfl,rfl,rfl,by simp[Zn],fun k _ q h2=>⟨Ze _ _ _ _ q,fun hr=>h2 (a k hr)⟩⟩
 refine⟨p,rfl,a6,⟨⟨tv,_,a4,ys,(j 0 (by omega)).trans h0,y,Zt o0 (by simp) _,Zt (ownsRow_pop a5 (by simpa using o1)) (by simp) _,fun k a3 a0=>a1 k a3 (by simpa[Zr] using a0),ht,d⟩,(j 2 (by omega)).trans h.c2,(j 3 (by omega)).trans h.c3,(j 4 (by omega)).trans h.c4,(j 5 (by omega)).trans h.c5,(j 6 (by omega)).trans h.c6,fun o=>by simpa using h.fz o,?_,fun b l=>⟨(h.far b l).1,fun hr=>(h.far b l).2 (a b hr)⟩,h.bel.trans ((Zi _ _).setCell h.lo _),h.lo⟩,hf⟩;exact h.hg.of fun b l i=>hf.cell (h.hg.lt l) (h.far b l).1 (h.far b l).2 i
theorem MS.set{G:Gh}{s s':St}(h:MS w0 w M G s)(w':U)(x:w'.cell? ⟨M,0,B⟩=w.cell? ⟨M,0,B⟩)(y:w'.cell? ⟨M,1,B⟩=w.cell? ⟨M,1,B⟩)(d:s'.ts=s.ts)(e:s'.vs=s.vs)(c:Yi M B w w')(z:w'.cell? ⟨M,2,B⟩=D (L I s'.calls))(c3:w'.cell? ⟨M,3,B⟩=D (L I s'.fuel))(c4:w'.cell? ⟨M,4,B⟩=D (L I s'.ended.k))(c5:w'.cell? ⟨M,5,B⟩=D (L I s'.ended.n))(c6:w'.cell? ⟨M,6,B⟩=D (.bool s'.ended.b))(u:∀o,w'.frozen? ⟨M,o,B⟩=Za):
  MS w0 w' M G s'/\Fr M w w':=by
 have g:Fr M w w':=⟨c.os,c.tape,c.output,c.size,fun k j h2 h3=>⟨c.block k j h2 (by simp),fun hr=>h3 (hr.congr x y)⟩⟩
 obtain⟨tv,mv,p,q,e0,e1,o0,o1,l,ht,r⟩:=h.ex;refine⟨⟨⟨tv,mv,p,q,x.trans e0,y.trans e1,by rw[d];exact Mu c o0 (by omega) (by simp),by rw[e];exact Mu c o1 (by omega) (by simp),l,by rw[d];exact ht,by rw[e];exact r⟩,z,c3,c4,c5,c6,u,?_,fun b a=>⟨(h.far b a).1,(g.block b (h.hg.lt a) (h.far b a).1 (h.far b a).2).2⟩,h.bel.trans ((c.below (by simp) (Nat.le_of_lt h.lt)).mono h.lo),h.lo⟩,g⟩;exact h.hg.of fun b a i=>g.cell (h.hg.lt a) (h.far b a).1 (h.far b a).2 i
theorem Qw{G:Gh}{s:St}(h:MS w0 w M G s)(o:Xy):
  Zg F 157 #[E (D ⟨M,0,B⟩),Zo #[L I o.k,L I o.n,.bool o.b]] w fun e w'=>e=Z (Zh #[])/\MS w0 w' M G (s.stop o)/\Fr M w w':=by
 refine(Ch M _ _ o.k o.n _ o.b w h.c4 h.c5 h.c6 (h.fz 4) (h.fz 5) (h.fz 6)).mono ?_;rintro e w' ⟨rfl,X,rfl⟩;have q:=h.lt;have g:Zk (((w.setCell ⟨M,4,B⟩ (L I o.k)).setCell ⟨M,5,B⟩ (L I o.n)).setCell ⟨M,6,B⟩ (.bool o.b)).heap.size (((w.setCell ⟨M,4,B⟩ (L I o.k)).setCell ⟨M,5,B⟩ (L I o.n)).setCell ⟨M,6,B⟩ (.bool o.b)) ((((w.setCell ⟨M,4,B⟩ (L I o.k)).setCell ⟨M,5,B⟩ (L I o.n)).setCell ⟨M,6,B⟩ (.bool o.b)).alloc X):=(Zi _ _).alloc (Zd _) _;have c:(((w.setCell ⟨M,4,B⟩ (L I o.k)).setCell ⟨M,5,B⟩ (L I o.n)).setCell ⟨M,6,B⟩ (.bool o.b)).heap.size=w.heap.size:=by simp[Zn]
 have b:∀i,((((w.setCell ⟨M,4,B⟩ (L I o.k)).setCell ⟨M,5,B⟩ (L I o.n)).setCell ⟨M,6,B⟩ (.bool o.b)).alloc X).cell? ⟨M,i,B⟩=(((w.setCell ⟨M,4,B⟩ (L I o.k)).setCell ⟨M,5,B⟩ (L I o.n)).setCell ⟨M,6,B⟩ (.bool o.b)).cell? ⟨M,i,B⟩:=fun i=>g.cell (p:=⟨M,i,B⟩) (by rw[c];exact q);have a:∀{u:U}{i j:Nat}{v:V},i≠j->(u.setCell ⟨M,j,B⟩ v).cell? ⟨M,i,B⟩=u.cell? ⟨M,i,B⟩:=fun l=>C _ _ _ _ (by intro e;cases e;exact l rfl);refine⟨rfl,h.set (s':=s.stop o) _ ?_ ?_ rfl rfl ?_ ?_ ?_ ?_ ?_ ?_ ?_⟩
 .rw[b,a (by omega),a (by omega),a (by omega)]
 .rw[b,a (by omega),a (by omega),a (by omega)]
 .refine⟨rfl,rfl,rfl,by simp[Zn],fun k r d _=>?_⟩;rw[g.block k (by rw[c];exact r),Ze _ _ _ _ d,Ze _ _ _ _ d,Ze _ _ _ _ d]
 .rw[b,a (by omega),a (by omega),a (by omega)];exact h.c2
 .rw[b,a (by omega),a (by omega),a (by omega)];exact h.c3
 .rw[b,a (by omega),a (by omega)];exact T _ _ _ h.c4
 .rw[b,a (by omega)];exact T _ _ _ ((a (by omega)).trans h.c5)
 .rw[b];exact T _ _ _ ((a (by omega)).trans ((a (by omega)).trans h.c6))
 .intro i;rw[g.frozen (p:=⟨M,i,B⟩) (by rw[c];exact q)];simpa using h.fz i
theorem Kv{G:Gh}{s:St}(h:MS w0 w M G s):
  Zg F 154 #[E (D ⟨M,0,B⟩)] w fun e w'=>e=Z (Zh #[])/\MS w0 w' M G (s.stop Yu)/\Fr M w w':=by
 have c:=h.lt;have H:=Yx h;clear h;go_enter func154,ntmps154;go_wp2_with fail;refine(Qw H.out Yu).mono ?_;rintro e w' ⟨rfl,a,b⟩;go_wp2_with fail;go_end0;exact⟨rfl,a,b⟩
section
open Go.ChangeShapes Go.RowKit
theorem JR{n:String}{d:DataW Unit}{t:Nat}(h:Zx F ((n,d)::r) W)(e:F.globalNamed n=D g)(i:(F.globals[g]?).map (·.type)=D t):
  ∃(cs:Array V)(fuel:Nat)(p:List MemPlace),Vc W g cs/\DataW.trod (fun _=>()) F W 0 (fun _=>Zu) Za fuel t cs.toList=D (d,p):=by
 obtain⟨ps,⟨k,j,cs,fuel,p,q,c,b,a,hd,_,_⟩,_⟩:=h;obtain rfl:=ZF (e.symm.trans c);obtain rfl:=ZF (i.symm.trans b);refine⟨cs,fuel,p,?_,hd⟩;unfold World.var? at a;rw[e] at a;simp only[Option.bind_some] at a;split at a
 .rename_i cs' t fr hh;cases a
  exact⟨t,fr,hh⟩
 .cases a
theorem Ko{W:U}{fuel t n:Nat}{cs:List V}{ss:List (List UInt8)}{p:List MemPlace}
  (ht:F.underlying t=D (.array n 9)) (hct:F.cellsOf t=n)
  (h:DataW.trod (fun _=>()) F W 0 (fun _=>Zu) Za fuel t cs=D (.agg (ss.map fun s=>.lit (.string s)),p)):cs=ss.map fun s=>Value.string ⟨s.toArray⟩:=by
 have c:F.cellsOf 9=1:=by kernel_rfl
 cases fuel with
 |zero=>simp[DataW.trod] at h
 |succ fuel=>
  simp only[DataW.trod,ht,c,hct,Nat.mul_one] at h;split at h
  .rename_i hl;obtain⟨j,k,u⟩:=ZG.1 h;have a:j.map (·.1)=ss.map fun s=>(DataW.lit (.string s):DataW Unit):=by have:=congrArg Prod.fst u;simpa using this
   have l:j.length=n:=by simpa using Lib.mapM_length k
   have q:ss.length=n:=by have:=congrArg List.length a;simp at this;omega
   apply List.ext_getElem?;intro i;by_cases hi:i<n
   .obtain⟨b,hb,hf⟩:=Lib.mapM_at k i i (by simp[hi]);obtain⟨s,r,rfl,_⟩:=DataW.trod_string underlying9 hf;have o:cs[i]?=D (.string s):=by have:=congrArg (·[0]?) r;simpa[List.getElem?_take,List.getElem?_drop] using this
    have d:(j.map (·.1))[i]?=D (DataW.lit (.string s.data.toList):DataW Unit):=by simp[hb]
    rw[a] at d;simp only[List.getElem?_map,ZG,DataW.lit.injEq,Lit.string.injEq] at d;obtain⟨s',g,e⟩:=d;simp only[List.getElem?_map,g,Option.map_some,o,e]
   .rw[ZI (by omega),ZI (by simp;omega)]
  .cases h
theorem Cl:F.cellsOf 84=2:=by kernel_rfl
theorem Ck:F.cellsOf 180=10:=by kernel_rfl
theorem Bu:F.cellsOf 145=10:=by kernel_rfl
theorem Bt:F.cellsOf 209=3:=by kernel_rfl
theorem Br:F.cellsOf 265=20:=by kernel_rfl
theorem Cm:F.cellsOf 3=1:=by kernel_rfl
theorem Bs:F.cellsOf 233=1:=by kernel_rfl
theorem LG{cs:Array V}{l:List V}(h:Vc W g cs)(e:cs.toList=l):Vc W g l.toArray:=by rw[<-e];exact h
theorem AU(h:Zx F (("chaperone/term.parts",Rows.laid_chaperone_term_parts)::r) W):
  Vc W 0 #[L I 0,L I 0,L I 0,L I 0,L I 2,L I 2,L I 3,L I 1,L I 2,L I 1]:=by
 obtain⟨cs,a,p,c,b⟩:=JR h (g:=0) (t:=145) (by kernel_rfl) (by kernel_rfl);exact LG c (Lib.cells_of_tab (zs:=[0,0,0,0,2,2,3,1,2,1]) underlying145 underlying3 Cm Bu b)
theorem AT(h:Zx F (("chaperone/term.truthWords",Rows.laid_chaperone_term_truthWords)::r) W):
  Vc W 1 #[.string ⟨#[110,111]⟩,.string ⟨#[121,101,115]⟩]:=by
 obtain⟨cs,a,p,c,b⟩:=JR h (g:=1) (t:=84) (by kernel_rfl) (by kernel_rfl);exact LG c (Ko (ss:=[[110,111],[121,101,115]]) Zz Cl b)
theorem AR(h:Zx F (("chaperone/term.words",Rows.laid_chaperone_term_words)::r) W):
  Vc W 2 #[.string ⟨#[]⟩,.string ⟨#[]⟩,.string ⟨#[]⟩,.string ⟨#[]⟩,.string ⟨#[97,100,100]⟩,.string ⟨#[108,101,115,115]⟩,.string ⟨#[105,102]⟩,.string ⟨#[102,117,110]⟩,.string ⟨#[99,97,108,108]⟩,.string ⟨#[97,115]⟩]:=by
 obtain⟨cs,a,p,c,b⟩:=JR h (g:=2) (t:=180) (by kernel_rfl) (by kernel_rfl);exact LG c (Ko (ss:=[[],[],[],[],[97,100,100],[108,101,115,115],[105,102],[102,117,110],[99,97,108,108],[97,115]]) underlying180 Ck b)
theorem AS(h:Zx F (("chaperone/term.typeWords",Rows.laid_chaperone_term_typeWords)::r) W):
  Vc W 4 #[.string ⟨#[97,110,121]⟩,.string ⟨#[110,117,109]⟩,.string ⟨#[116,114,117,116,104]⟩]:=by
 obtain⟨cs,a,p,c,b⟩:=JR h (g:=4) (t:=209) (by kernel_rfl) (by kernel_rfl);exact LG c (Ko (ss:=[[97,110,121],[110,117,109],[116,114,117,116,104]]) Zp Bt b)
theorem CL(h:Zx F (("internal/strconv.uint64pow10",Rows.laid_internal_strconv_uint64pow10)::r) W):
  Vc W 11 (Lib.pow10Tab.map fun z=>Value.int .u64 z).toArray:=by
 obtain⟨cs,a,p,c,b⟩:=JR h (g:=11) (t:=265) (by kernel_rfl) (by kernel_rfl);exact LG c (Lib.cells_of_tab (zs:=Lib.pow10Tab) underlying265 underlying233 Bs Br b)
theorem AV{n nm:String}{d:DataW Unit}(h:Zx F ((n,.iface nm d)::r) W)(c:F.globalNamed n=D g)(e:(F.globals[g]?).map (·.type)=D 153):∃te pe,Vc W g #[.iface te pe]:=by obtain⟨cs,a,p,b,hd⟩:=JR h c e;obtain⟨_,u,v,i,_⟩:=iface_of_trod underlying153 hd;exact⟨u,v,LG b i⟩
theorem CM(h:W.ShapedOpen F):∃m,Vc W 6 #[L I m]:=by
 obtain⟨m,d⟩:=Tryz.laysM155.s1_3 W h;have a:W.cell? ⟨6,0,B⟩=D (L I m):=d;obtain⟨cs,c,g,_⟩:=h.1 6 #[L I 0] 3 (by show 6<15;omega) (by kernel_rfl);refine⟨m,?_⟩;have b:cs.size=1:=g;have j:W.cell? ⟨6,0,B⟩=cs[0]?:=cell_of_row W 6 0 cs _ _ c;rw[j] at a;have e:cs=#[L I m]:=by
  apply Array.ext
  .simpa using b
  .intro i h1 h2;obtain rfl:i=0:=by omega
   have:=Zb.1 a;simpa using this.2
 rw[<-e];exact⟨_,_,c⟩
theorem Cd(h:Zx F [("math/bits.deBruijn32tab",Rows.laid_math_bits_deBruijn32tab),("math/bits.deBruijn64tab",Rows.laid_math_bits_deBruijn64tab),("internal/strconv.uint64pow10",Rows.laid_internal_strconv_uint64pow10),("unicode/utf8.acceptRanges",Rows.laid_unicode_utf8_acceptRanges),("strconv.ErrRange",Rows.laid_strconv_ErrRange),("strconv.ErrSyntax",Rows.laid_strconv_ErrSyntax),("chaperone/term.words",Rows.laid_chaperone_term_words),("chaperone/term.truthWords",Rows.laid_chaperone_term_truthWords),("chaperone/term.typeWords",Rows.laid_chaperone_term_typeWords),("chaperone/term.parts",Rows.laid_chaperone_term_parts),("unicode/utf8.first",Rows.laid_unicode_utf8_first)] W)(j:W.ShapedOpen F):Gl W:=by have d:=h.tail.tail;have b:=d.tail.tail;have g:=b.tail;have c:=g.tail;have e:=c.tail;have a:=e.tail;have i:=a.tail;exact⟨AT e,AR c,AU i,AS a,CL d,CM j,AV g (by kernel_rfl) (by kernel_rfl),AV b (by kernel_rfl) (by kernel_rfl)⟩
end
end Go.Proofs.YtnddkmccagiclabGreatDoor
