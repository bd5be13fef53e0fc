/- Lemmas. -/
import Derived.Test.YtipfpppcbmpjiaaGreatZC11
set_option linter.unusedVariables false
set_option maxHeartbeats 16000000
set_option maxRecDepth 100000
set_option linter.unusedSimpArgs false
namespace Go.Proofs.YtipfpppcbmpjiaaGreat
open Go.RowKit
open Go.RowKit Go.ChangeShapes Go.WideShapes Go.Deep
abbrev sToks:Shape (List Tok):=Zaa sTok
theorem Zf4:TI Tryz.prog 116 24 (.slice none 0 0) 1 24:=⟨by kernel_rfl,by kernel_rfl⟩
variable {w:World}
theorem ZgZ {α:Type}{S:Shape α}{cs:List Value}{l:List α}{fp:List Nat}(H:(Zaa S).R w cs l fp):∃a cap,cs=[.slice a l.length cap]:=by
 obtain⟨a,cap,h,-⟩:=H;exact⟨a,cap,h⟩
theorem Znl {b off i:Nat}{v:Value}(h:ElemAt w b off 1 i [v]):w.cell? ⟨b,off+i,none⟩=some v:=by
 have:=h.2 0 (by decide);simpa using this
def ZdQ (t:Tok):Bool:=t.text.toList==[40]
def Zgq (t:Tok):Bool:=t.text.toList==[41]
def ZfA (t:Tok):Bool:=t.text.toList==[44]
def opn (t:Tok):Int:=if ZdQ t=true then 1 else if Zgq t=true then -1 else 0
abbrev Zbe:=List (List Tok)
def Zgr:List Tok->Int->Zbe->List Tok->Nat->Zbe × Nat × Bool
 | [],_,args,_,_=>(args,0,false)
 |
  t::r,d,args,arg,k =>
  if d+opn t=0 then (args++[arg],k+1,true)
  else if d+opn t=1/\ZfA t=true then Zgr r (d+opn t) (args++[arg]) [] (k+1)
  else Zgr r (d+opn t) args (arg++[t]) (k+1)
def Zc3:List Tok->Int->Nat->Option Nat
 | [],_,_=>none
 | t::r,d,k=>if d+opn t=0 then some k else Zc3 r (d+opn t) (k+1)
def Zei:List Tok->Int->Zbe->List Tok->Zbe
 | [],_,args,arg=>args++[arg]
 | t::r,d,args,arg=>if d=0/\ZfA t=true then Zei r d (args++[arg]) [] else Zei r (d+opn t) args (arg++[t])
variable {t:Tok}
theorem opn_com (h:ZfA t=true):opn t=0:=by
 have e:t.text=⟨#[44]⟩:=txt_eq h;have h1:ZdQ t=false:=by unfold ZdQ;rw[e,Zfd];decide
 have h2:Zgq t=false:=by unfold Zgq;rw[e,Zfd];decide
 unfold opn;rw[h1,h2];rfl
theorem Zhe:∀(l:List Tok) (d:Int) (k e:Nat),Zc3 l d k=some e->k<=e/\e<k+l.length
 | [],_,_,_,h=>by simp[Zc3]at h
 |
  t::r,d,k,e,h=>by
  unfold Zc3 at h;split at h
  ·simp only[Qi]at h;subst h;simp
  ·have:=Zhe r _ _ _ h;simp only[QQ];omega
theorem Zkr:∀(l:List Tok) (d:Int) (args:Zbe) (arg:List Tok) (k:Nat),
  match Zc3 l (d+1) k with
  | none=>(Zgr l (d+1) args arg k).2=(0,false)
  | some e=>Zgr l (d+1) args arg k=(Zei (l.take (e-k)) d args arg,e+1,true)
 | [],d,args,arg,k=>by simp[Zc3,Zgr]
 |
  t::r,d,args,arg,k=>by
  unfold Zc3 Zgr;by_cases h0:d+1+opn t=0
  ·rw[if_pos h0,if_pos h0];simp[Zei]
  ·rw[if_neg h0,if_neg h0];by_cases hc:ZfA t=true
   ·have ho:=opn_com hc;have e1:d+1+opn t=d+1:=(by omega);rw[e1];by_cases hd:d=0
    ·rw[if_pos ⟨by omega,hc⟩];have ih:=Zkr r d (args++[arg]) [] (k+1);split at ih
     ·exact ih
     ·rename_i e h;have hg:=Zhe r _ _ _ h;show Zgr _ _ _ _ _=_;rw[ih,show e-k=(e-(k+1))+1 by omega,List.take_succ_cons,Zei,if_pos ⟨hd,hc⟩]
    ·rw[if_neg (λh=>hd (by omega))];have ih:=Zkr r d args (arg++[t]) (k+1);split at ih
     ·exact ih
     ·rename_i e h;have hg:=Zhe r _ _ _ h;show Zgr _ _ _ _ _=_;rw[ih,show e-k=(e-(k+1))+1 by omega,List.take_succ_cons,Zei,if_neg (λh=>hd h.1),ho,Int.add_zero]
   ·have e1:d+1+opn t=d+opn t+1:=(by omega);rw[e1,if_neg (λh=>hc h.2)];have ih:=Zkr r (d+opn t) args (arg++[t]) (k+1);split at ih
    ·exact ih
    ·rename_i e h;have hg:=Zhe r _ _ _ h;show Zgr _ _ _ _ _=_;rw[ih,show e-k=(e-(k+1))+1 by omega,List.take_succ_cons,Zei,if_neg (λh=>hc h.2)]
theorem Znm (h:ZdQ t=true):opn t=1:=by unfold opn;rw[h];rfl
theorem opn_shut (h:ZdQ t=false)(h2:Zgq t=true):opn t=-1:=by unfold opn;rw[h,h2];rfl
theorem opn_else (h:ZdQ t=false)(h2:Zgq t=false):opn t=0:=by unfold opn;rw[h,h2];rfl
theorem opn_ge (t:Tok):-1<=opn t/\opn t<=1:=by unfold opn;split <;> (try split) <;> omega
theorem ZfK (cs:List Value)(x:Tok)(fp:List Nat)(w:World)(c:UInt8)(H:sTok.R w cs x fp):
  Calls Tryz.prog 45 #[.agg cs.toArray,.string ⟨#[c]⟩] w (Zbu (decide (x.kind=4) && (x.text.toList==[c])) w):=by
 obtain⟨h,rfl,hk,bQ,K⟩:=H;obtain⟨a0,cK,rfl,-⟩:=Zaf K;have hb:=Zab w (.cells #[.int .i64 x.kind,.string x.text,.bool x.spaced,.slice a0 x.hidden.length cK] 32);clear K;go_enter Tryz.func45,Tryz.ntmps45;by_cases h4:x.kind=4
 ·have e0:(x.kind==4)=true:=by simp[h4]
  have HF:Hid ((decide (x.kind=4) && (x.text.toList==[c]))=(x.text.toList==[c])):=by show _=_;rw[JR h4];rfl
  clear h4;go_wp2;go_ret;exact⟨Zad (by rw[HF.out]),hb⟩
 ·have e0:(x.kind==4)=false:=by simpa using h4
  have HF:Hid ((decide (x.kind=4) && (x.text.toList==[c]))=false):=by show _=_;rw[JQ h4];rfl
  clear h4;go_wp2;go_ret;exact⟨Zad (by rw[HF.out]),hb⟩
theorem Zlg {w:World}{ops:Array Oper}{rest:List Oper}{o:Oper}{a:Act}{Q:Exit->Act->World->Prop}(hg:o.guard=none)(s y:Operand)
  (ho:o.op=.call { callee:=.builtin .append,args:=#[s,y],argTypes:=#[24,24] })
  (base:Nat) (v:Value) (L:List (Elem Tok)) (hs:a.eval s=v) (ag:RowG sTok base 32 v L w) (k:Int) (x:ByteArray) (b:Bool) (ao:Option Addr) (m c:Nat) (d:Tok) (fp:List Nat)
  (hy:a.eval y=.slice (some ⟨w.heap.size,0,none⟩) 1 1) (hR:sTok.R w [.int .i64 k,.string x,.bool b,.slice ao m c] d fp) (hhi:∀b∈fp,b<base)
  (dz:L.length<=1500000) (aK:base<=w.heap.size)
  (h:∀v' w',RowG sTok base 32 v' (L++[⟨[.int .i64 k,.string x,.bool b,.slice ao m c],d,fp⟩]) w'->w.grownBy w' v.ownBlock->wpList Tryz.prog ops Q rest (a.put o.dst v') w') :
  wpList Tryz.prog ops Q (o::rest) a (w.alloc (.cells #[.int .i64 k,.string x,.bool b,.slice ao m c] 32)):=by
 have hb:=Zab w (.cells #[.int .i64 k,.string x,.bool b,.slice ao m c] 32);refine Zg9 (S:=sTok) ti_tok rfl (by decide) _ (X:=[⟨[.int .i64 k,.string x,.bool b,.slice ao m c],d,fp⟩]) hg s y ho base v hs (ag.below hb) w.heap.size 0 1 1 hy rfl ?_ ?_ ?_ (by unfold maxLen;omega) (by omega) (by simp;omega) λv' w' a b=>h v' w' a (Zds (World.grownBy_alloc _ _ _) b)
 ·intro x hx;obtain rfl:=Qm hx;exact⟨rfl,sTok.below hR hb,hhi⟩
 ·intro x hx;obtain rfl:=Qm hx;simp[Value.oneCell']
 ·intro j u hj;rw[QX,Qy _ _ _ _ rfl];simpa using hj
theorem RowE.same2 {α:Type}{S:Shape α}{base:Nat}{e:TypeId}{v:Value}{L:List (Elem α)}{w w':World}(h:RowE S base e v L w)(hv:∀g,v.ownBlock=some g->w'.heap[g]?=w.heap[g]?)(hb:∀x∈L,∀b∈x.fp,w'.heap[b]?=w.heap[b]?):RowE S base e v L w' where
 row:=ZbR h.row hv
 len:=h.len
 el:=λx hx=>S.frame (λb aE=>hb x hx b aE) (h.el x hx)
 lo:=h.lo
 ty:=λx hx b aE=>by
  obtain⟨cur,t,fr,h1,h2⟩:=h.ty x hx b aE;exact⟨cur,t,fr,(hb x hx b aE).trans h1,h2⟩
structure SplSt (B0 B1:Nat)(va vm:Value)(A:List (Elem (List Tok)))(M:List (Elem Tok))(w:World):Prop where
 e:RowE sToks B0 24 va A w
 b:∀g,va.ownBlock=some g->B1<=g
 g:∃top,RowG sTok top 32 vm M w/\B1<=top/\top<=w.heap.size/\∀x∈A,∀b∈x.fp,b<top
 m:∀x∈M,∀b∈x.fp,B0<=b/\b<B1
 t:∀x∈M,TokTy w x.fp
theorem SplSt.below {B0 B1:Nat}{va vm:Value}{A:List (Elem (List Tok))}{M:List (Elem Tok)}{w w':World}(h:SplSt B0 B1 va vm A M w)(hb:Below w.heap.size w w'):SplSt B0 B1 va vm A M w':=by
 obtain⟨top,g1,g2,g3,g4⟩:=h.g;exact⟨h.e.below hb,h.b,⟨top,g1.below hb,g2,QZ g3 hb.size,g4⟩,h.m,λx hx=>(h.t x hx).below hb⟩
theorem SplSt.next {B0 B1:Nat}{va':Value}{A':List (Elem (List Tok))}{w':World}(hE:RowE sToks B0 24 va' A' w')(hv:∀g,va'.ownBlock=some g->B1<=g)(hB:B1<=w'.heap.size):SplSt B0 B1 va' (.slice (some ⟨w'.heap.size,0,none⟩) 0 0) A' [] (w'.alloc (.cells #[] 32)):=
 ⟨hE.below (Zab _ _),hv,⟨w'.heap.size,RowG.lit0 sTok 32 w',hB,by show _<=(w'.heap.push _).size;simp,λx hx b hb=>sToks.lt (hE.el x hx) b hb⟩,by simp,by simp⟩
theorem ZcU (n lo hi:Int)(w:World):Calls Tryz.prog 131 #[.int .i64 n,.int .i64 lo,.int .i64 hi] w (λe w'=>e=.returned (.bool (decide (lo<=n) && decide (n<=hi)))/\Below w.heap.size w w'):=by
 go_enter Tryz.func131,Tryz.ntmps131;by_cases h:lo<=n
 ·have e0:decide (lo<=n)=true:=JR h;have HF:Hid ((decide (lo<=n) && decide (n<=hi))=decide (n<=hi)):=by show _=_;rw[e0];rfl
  go_wp2;go_ret;exact⟨Zad (by first | rfl | rw[HF.out]),QD _ _⟩
 ·have e0:decide (lo<=n)=false:=JQ h;have HF:Hid ((decide (lo<=n) && decide (n<=hi))=false):=by show _=_;rw[e0];rfl
  go_wp2;go_ret;exact⟨Zad (by first | rfl | rw[HF.out]),QD _ _⟩
theorem ZbU (b:Bool)(w:World):Calls Tryz.prog 46 #[.bool b] w λe w'=>e=.returned (.int .i64 (ZaV b))/\w'=w:=by
 go_enter Tryz.func46,Tryz.ntmps46;cases b
 ·go_wp2;go_ret;exact⟨rfl,rfl⟩
 ·go_wp2;go_ret;exact⟨rfl,rfl⟩
variable {k:Nat}
theorem Zl4 {s:List UInt8}(hk:k<s.length):Zev (s.take (k+1))=10*Zev (s.take k)+((s[k].toNat:Int)-48):=by
 unfold Zev;rw[Qb hk,List.foldl_append];rfl
theorem Zlh {s:List UInt8}(hk:k<s.length)(h:Za3 s[k]=false):ZaM s=-1:=by
 unfold ZaM;rw[if_pos];exact .inr (.inr (List.all_eq_false.2 ⟨s[k],QE hk,by simp[h]⟩))
theorem Znn {s:List UInt8}(h:7<s.length):ZaM s=-1:=by unfold ZaM;rw[if_pos (.inr (.inl h))]
theorem Zl5 {s:List UInt8}(h1:1000000<Zev s):ZaM s=-1:=by
 unfold ZaM;split
 ·rfl
 ·rfl
theorem Zo2 {s:List UInt8}(h:s≠[])(h0:¬7<s.length)(hd:∀k,(hk:k<s.length)->Za3 s[k]=true)(h1:¬1000000<Zev s):ZaM s=Zev s:=by
 unfold ZaM;rw[if_neg,if_neg h1];rintro(h2 | h2 | h2)
 ·exact h h2
 ·exact h0 h2
 ·obtain⟨x,hx,dp⟩:=List.all_eq_false.1 h2;obtain⟨k,hk,rfl⟩:=QY hx;exact dp (hd k hk)
theorem ZmB (s:ByteArray)(w:World)(hs:s.size<=maxLen):
  Calls Tryz.prog 130 #[.string s] w λe w'=>e=.returned (.int .i64 (ZaM s.toList))/\Below w.heap.size w w':=by
 unfold maxLen at hs;obtain⟨L,HL⟩:∃L:List UInt8,Hid (L=s.toList):=⟨_,Qh rfl⟩;rw[show s.toList=L from HL.out.symm];have pH:Hid (L.length=s.size):=by show _=_;rw[HL.out,QB];simp
 have er:Hid (∀k (hk:k<s.size) (bY:k<L.length),L[k]=s[k]):=λk hk bY=>by
  have:=HL.out;subst this;simp only[QB];rfl
 go_enter Tryz.func130,Tryz.ntmps130;go_wp2;go_loopw [3,4] (λvn i wr=>∃(k:Nat) (n:Int),k<=s.size/\k<=7/\i=.int .i64 k/\vn=.int .i64 n/\Hid (n=Zev (L.take k))/\0<=n/\n<10 ^ k/\Hid (∀j,(hj:j<L.length)->j<k->Za3 L[j]=true)/\Below w.heap.size w wr) (λ_ i _=>s.size-(intOf i).toNat)
 case atStart=>exact⟨0,0,by omega,by omega,rfl,rfl,rfl,Int.le_refl _,by decide,(λj _ h=>by omega),QD _ _⟩
 case round =>
  obtain⟨k,n,hk,hk7,rfl,rfl,HN,ke,d4,HD,hb⟩:=hrel;by_cases af:k<s.size
  ·have ce:k<L.length:=(by have:=pH.out;omega);have i0:(0:Int)<=(k:Int):=(by omega);have i1:(k:Int)<(s.size:Int):=(by omega);have tF:=Qh (ZbP s[k] wr);have HG:=Qh (er.out k af ce);cases hd:Za3 s[k]
   ·have HF:Hid (ZaM L=-1):=Zlh ce (by rw[HG.out];exact hd);rw[hd]at tF;clear hd;go_wp2_with fail
    refine tF.out.mono ?_;rintro e w2⟨rfl,rfl⟩;go_wp2;go_ret;exact⟨by rw[HF.out];rfl,hb⟩
   ·have wu:=Qh hd;rw[hd]at tF;unfold Za3 at hd;rw[JT]at hd;go_wp2_with fail
    refine tF.out.mono ?_;rintro e w2⟨rfl,rfl⟩;by_cases h6:k=7
    ·have HF:Hid (ZaM L=-1):=Znn (by have:=pH.out;omega);have e1:(6:Int)<(k:Int):=(by omega);clear h6;go_wp2;go_ret;exact⟨by rw[HF.out];rfl,hb⟩
    ·have e1:¬(6:Int)<(k:Int):=(by omega);have pa:k<=6:=(by omega);have hpow:(10:Int) ^ k<=1000000:=by
      have:∀j,j<=6->(10:Int) ^ j<=1000000:=(by decide);exact this k pa
     have hps:(10:Int) ^ (k+1)=10 ^ k*10:=Int.pow_succ 10 k;have tj:Hid (10*n+((s[k].toNat:Int)-48)=Zev (L.take (k+1))):=(by show _=_;rw[Zl4 ce,←HN.out,HG.out]);have jT:Hid (∀j,(hj:j<L.length)->j<k+1->Za3 L[j]=true):=λj hj h=>by
      by_cases e:j=k
      ·subst e;rw[HG.out];exact wu.out
      ·exact HD.out j hj (by omega)
     have w1:IntKind.i64.wrap (10*n)=10*n:=QF _ (by omega);have w2:IntKind.u8.wrap ((s[k].toNat:Int)-48)=(s[k].toNat:Int)-48:=IntWalk.u8_in _ (by omega);have w3:IntKind.i64.wrap ((s[k].toNat:Int)-48)=(s[k].toNat:Int)-48:=QF _ (by omega);have w4:IntKind.i64.wrap (10*n+((s[k].toNat:Int)-48))=10*n+((s[k].toNat:Int)-48):=QF _ (by omega);go_wp2;go_roundw;case rel=>exact⟨k+1,10*n+((s[k].toNat:Int)-48),by omega,by omega,by go_num,rfl,tj,by omega,by omega,jT,hb⟩
     case measure=>simp[intOf];omega
  ·have lh:k=s.size:=(by omega);have j8:L.length=k:=(by rw[pH.out,lh]);have pM:Hid (n=Zev L):=(by show _=_;rw[HN.out,Qe (by omega)]);have HDA:Hid (∀j,(hj:j<L.length)->Za3 L[j]=true):=λj hj=>HD.out j hj (by omega);by_cases h0:s.size=0
   ·have e0:(s.toList==([]:List UInt8))=true:=by
     have:s.toList=[]:=(by rw[←HL.out];exact QU.1 (by omega));rw[this];rfl
    have HF:Hid (ZaM L=-1):=(by show _=_;rw[QU.1 (by omega:L.length=0)];rfl);clear lh j8;go_wp2;go_ret;exact⟨by rw[HF.out];rfl,hb⟩
   ·have e0:(s.toList==([]:List UInt8))=false:=by
     cases e:(s.toList==([]:List UInt8))
     ·rfl
     ·have:s.toList=[]:=(by simpa using e);have h9:=HL.out;rw[this]at h9;rw[h9]at j8;simp at j8;omega
    have nZ:Hid (L≠[]):=λe=>(by rw[e]at j8;simp at j8;omega);by_cases bz:1000000<n
    ·have HF:Hid (ZaM L=-1):=Zl5 (by rw[←pM.out];exact bz);clear lh j8;go_wp2;go_ret;exact⟨by rw[HF.out];rfl,hb⟩
    ·have HF:Hid (ZaM L=n):=(by show _=_;rw[Zo2 nZ.out (by omega) HDA.out (by rw[←pM.out];exact bz),←pM.out]);clear lh j8;go_wp2;go_ret;exact⟨by rw[HF.out];rfl,hb⟩
def bs (s:ByteArray):List UInt8:=s.data.toList
theorem ZfL (s:ByteArray):(bs s).length=s.size:=rfl
theorem Zdb (a b:ByteArray):bs (a++b)=bs a++bs b:=by simp[bs]
theorem bs_ext {a b:ByteArray}(h:bs a=bs b):a=b:=ByteArray.ext (Array.ext' h)
variable {s:ByteArray}
theorem Zno (h:k<s.size):(bs s)[k]'(by rw[ZfL];exact h)=s[k]:=by simp[bs,Qx]
variable {c:UInt8}
theorem Zks {r:List UInt8}(h:(bs s).drop k=c::r):∃hk:k<s.size,s[k]=c/\(bs s).drop (k+1)=r:=by
 have hk:k<s.size:=by
  apply Nat.lt_of_not_le;intro hn;rw[List.drop_eq_nil_of_le (by rw[ZfL];exact hn)]at h;exact absurd h (by simp)
 rw[Qj (by rw[ZfL];exact hk),JH,Zno hk]at h;exact⟨hk,h⟩
theorem Zgs (h:k<s.size):s.extract k (k+1)=⟨#[s[k]]⟩:=by
 have hz:(s.extract k (k+1)).size=1:=by rw[Ql];omega
 refine ZoN (by rw[hz];rfl) λj hj=>?_;obtain rfl:j=0:=by omega
 rw[ZiO (by omega) (by omega),Q0,ZbB h];rfl
inductive Esc:List UInt8->List UInt8->Prop
 | nil:Esc [] []
 | back (c:UInt8) {a b:List UInt8}:Esc a b->Esc (92::c::a) (c::b)
 | byte {c:UInt8} {a b:List UInt8}:c.toNat≠34->c.toNat≠92->Esc a b->Esc (c::a) (c::b)
theorem Esc.app {a b c d:List UInt8}(h:Esc a b)(h2:Esc c d):Esc (a++c) (b++d):=by
 induction h with
 | nil=>exact h2
 | back c _ ih=>exact .back c ih
 | byte h1 h3 _ ih=>exact .byte h1 h3 ih
theorem Esc.plain {a:List UInt8}(h:∀c∈a,c.toNat≠34/\c.toNat≠92):Esc a a:=by
 induction a with
 | nil=>exact .nil
 | cons c a ih=>exact .byte (h c (by simp)).1 (h c (by simp)).2 (ih λd hd=>h d (by simp[hd]))
def ZcV (s:ByteArray)(k:Nat):ByteArray:=
 if h:k+1<s.size then (if s[k].toNat=92 then s.extract (k+1) (k+2)++ZcV s (k+2) else s.extract k (k+1)++ZcV s (k+1)) else ⟨#[]⟩
termination_by s.size-k
theorem ZpI (h:k+1<s.size)(hc:s[k].toNat=92):ZcV s k=s.extract (k+1) (k+2)++ZcV s (k+2):=by rw[ZcV,dif_pos h,if_pos hc]
theorem Zkt (h:k+1<s.size)(hc:¬s[k].toNat=92):ZcV s k=s.extract k (k+1)++ZcV s (k+1):=by rw[ZcV,dif_pos h,if_neg hc]
theorem Zl6 (h:s.size<=k+1):ZcV s k=⟨#[]⟩:=by rw[ZcV,dif_neg (by omega)]
theorem esc_scan {a b:List UInt8}(h:Esc a b):∀{s:ByteArray} {k:Nat},(bs s).drop k=a++[34]->tClose s k=some s.size/\bs (ZcV s k)=b:=by
 induction h with
 |
  nil =>
  intro s k hd;obtain⟨hk,hc,hr⟩:=Zks hd;have hz:s.size<=k+1:=by rw[List.drop_eq_nil_iff,ZfL]at hr;exact hr
  refine⟨?_,by rw[Zl6 hz];rfl⟩;rw[ZbN hk (by rw[hc];rfl)];congr 1;omega
 |
  @back c a b _ ih =>
  intro s k hd;obtain⟨hk,hc,hr⟩:=Zks hd;obtain⟨bG,fJ,wm⟩:=Zks hr;obtain⟨i1,i2⟩:=ih wm;refine⟨?_,?_⟩
  ·rw[Zcs hk (by rw[hc];rfl)];exact i1
  ·rw[ZpI bG (by rw[hc];rfl),Zdb,i2,Zgs bG,fJ];rfl
 |
  @byte c a b h1 h2 _ ih =>
  intro s k hd;obtain⟨hk,hc,hr⟩:=Zks hd;obtain⟨i1,i2⟩:=ih hr;have bG:k+1<s.size:=by
   have:=JY List.length hr;rw[QM,ZfL]at this;simp at this;omega
  refine⟨?_,?_⟩
  ·rw[Zb6 hk (by rw[hc];exact h1) (by rw[hc];exact h2)];exact i1
  ·rw[Zkt bG (by rw[hc];exact h2),Zdb,i2,Zgs hk,hc];rfl
def isQ (c:UInt8):Bool:=decide (c.toNat=34) || decide (c.toNat=92)
def Zbb (s:ByteArray):Nat->ByteArray
 | 0=>⟨#[]⟩
 | k+1=>if h:k<s.size then (if isQ s[k]=true then Zbb s k++⟨#[92]⟩ else Zbb s k)++s.extract k (k+1) else Zbb s k
theorem Zfl (h:k<s.size)(hc:isQ s[k]=true):Zbb s (k+1)=Zbb s k++⟨#[92]⟩++s.extract k (k+1):=by rw[Zbb,dif_pos h,if_pos hc]
theorem Zhf (h:k<s.size)(hc:isQ s[k]=false):Zbb s (k+1)=Zbb s k++s.extract k (k+1):=by rw[Zbb,dif_pos h,if_neg (by simp[hc])]
theorem Zl7 (s:ByteArray):∀k,k<=s.size->Esc (bs (Zbb s k)) ((bs s).take k)
 | 0,_=>by rw[List.take_zero];exact .nil
 |
  k+1,hk=>by
  have ih:=Zl7 s k (by omega);have hk':k<s.size:=by omega
  rw[Qb (by rw[ZfL];exact hk'),Zno hk'];cases hc:isQ s[k]
  ·rw[Zhf hk' hc,Zdb,Zgs hk'];unfold isQ at hc;simp only[JD,decide_eq_false_iff_not]at hc;exact ih.app (.byte hc.1 hc.2 .nil)
  ·rw[Zfl hk' hc,Zdb,Zdb,Zgs hk',Qn];exact ih.app (.back _ .nil)
theorem Ze1 (s:ByteArray):∀k,(Zbb s k).size<=2*k
 | 0=>by show(0:Nat)<=_;omega
 |
  k+1=>by
  have ih:=Ze1 s k;by_cases hk:k<s.size
  ·have h1:(⟨#[92]⟩:ByteArray).size=1:=rfl;cases hc:isQ s[k]
   ·rw[Zhf hk hc,QK,Ql];omega
   ·rw[Zfl hk hc,QK,QK,Ql];omega
  ·rw[Zbb,dif_neg hk];omega
theorem Zio (h:ZfE c=true):AllOk ⟨#[c]⟩:=λj d hd=>by
 obtain⟨hj,rfl⟩:=Zc0 hd;obtain rfl:j=0:=by have:j<1:=hj;omega
 exact h
theorem Znp (h:AllOk s):∀k,k<=s.size->AllOk (Zbb s k)
 | 0,_=>λj c hc=>by obtain⟨hj,_⟩:=Zc0 hc;exact absurd hj (by show ¬j<0;omega)
 |
  k+1,hk=>by
  have ih:=Znp h k (by omega);have hk':k<s.size:=by omega
  have hx:AllOk (s.extract k (k+1)):=by rw[Zgs hk'];exact Zio (h k _ (ZbB hk'))
  cases hc:isQ s[k]
  ·rw[Zhf hk' hc];exact ih.app hx
  ·rw[Zfl hk' hc];exact(ih.app (Zio (by decide))).app hx
def bit (t:Tok):ByteArray:=if t.kind=3 then Zbb t.text t.text.size else t.text
def ZaN (l:List Tok):Nat->ByteArray
 | 0=>⟨#[]⟩
 | k+1=>if h:k<l.length then (if 0<k/\l[k].spaced=true then ZaN l k++⟨#[32]⟩ else ZaN l k)++bit l[k] else ZaN l k
def Ze2 (l:List Tok):Nat->ByteArray
 | 0=>⟨#[]⟩
 | k+1=>if h:k<l.length then (if 0<k/\l[k].spaced=true then Ze2 l k++⟨#[32]⟩ else Ze2 l k)++l[k].text else Ze2 l k
variable {l:List Tok}
theorem ZeH (hk:k<l.length)(h0:0<k)(h:l[k].spaced=true):ZaN l (k+1)=ZaN l k++⟨#[32]⟩++bit l[k]:=by rw[ZaN,dif_pos hk,if_pos ⟨h0,h⟩]
theorem Zdg (hk:k<l.length)(h:¬(0<k/\l[k].spaced=true)):ZaN l (k+1)=ZaN l k++bit l[k]:=by rw[ZaN,dif_pos hk,if_neg h]
theorem rawTo_sp (hk:k<l.length)(h0:0<k)(h:l[k].spaced=true):Ze2 l (k+1)=Ze2 l k++⟨#[32]⟩++l[k].text:=by rw[Ze2,dif_pos hk,if_pos ⟨h0,h⟩]
theorem rawTo_no (hk:k<l.length)(h:¬(0<k/\l[k].spaced=true)):Ze2 l (k+1)=Ze2 l k++l[k].text:=by rw[Ze2,dif_pos hk,if_neg h]
theorem ZpJ (d:Nat):∀k,wEnd s k=k+d->∀j,(h:j<s.size)->k<=j->j<k+d->Zar s[j]=true:=by
 induction d with
 | zero=>intro k _ j _ h1 h2;omega
 |
  succ d ih =>
  intro k h j hj h1 h2;have hk:k<s.size:=by omega
  have hw:Zar s[k]=true:=by
   cases hw:Zar s[k]
   ·rw[Zcr hk hw]at h;omega
   ·rfl
  by_cases e:j=k
  ·subst e;exact hw
  ·rw[ZbY hk hw]at h;exact ih (k+1) (by omega) j hj (by omega) (by omega)
theorem ZpK (h:Zar c=true):c.toNat≠34/\c.toNat≠92:=by rw[Zhk]at h;omega
theorem Zoo (h:c∈marks1):c.toNat≠34/\c.toNat≠92:=by
 have:∀d∈marks1,d.toNat≠34/\d.toNat≠92:=by decide
 exact this c h
theorem ZqF (h:Zbg s k=true):∀j,(hj:j<s.size)->k<=j->j<k+2->s[j].toNat≠34/\s[j].toNat≠92:=by
 intro j hj h1 h2;unfold Zbg at h;simp only[ZkX,Q6,QI,JT]at h;by_cases e:j=k
 ·subst e;rw[ZbB hj]at h;simp only[Qi]at h;rcases h with(((((h | h) | h) | h) | h) | h) | h <;> (rw[h.1];decide)
 ·obtain rfl:j=k+1:=by omega
  rw[ZbB hj]at h;simp only[Qi]at h;rcases h with(((((h | h) | h) | h) | h) | h) | h <;> (rw[h.2];decide)
theorem ZqG (h:Zaj t=true)(h3:t.kind≠3):∀c∈bs t.text,c.toNat≠34/\c.toNat≠92:=by
 obtain⟨h0,_,hc,_⟩:=ZgD h;obtain⟨⟨_,hk⟩,_⟩:=Za9 h;intro c hm;obtain⟨j,hj,rfl⟩:=QY hm;rw[ZfL]at hj;rw[Zno hj];cases hw:Zar t.text[0]
 ·by_cases hq:t.text[0].toNat=34
  ·refine absurd ?_ h3;rw[hk];unfold Zar at hw;rw[JD]at hw;unfold cutKind;rw[hw.1,hw.2,if_neg (by simp),if_neg (by simp),if_pos hq]
  ·rw[ZcZ h0 hw hq]at hc;split at hc
   ·omega
   ·rename_i hm0;have AK:ZbK t.text 0=t.text.size:=(by omega);unfold ZbK at AK;split at AK
    ·rename_i ht;exact ZqF ht j hj (by omega) (by omega)
    ·skip
     split at AK
     ·rename_i bO;obtain rfl:j=0:=(by omega);exact Zoo bO
     ·omega
 ·rw[Zct h0 hw]at hc;split at hc
  ·omega
  ·exact ZpK (ZpJ (t.text.size) 0 (by omega) j hj (by omega) (by omega))
theorem tok_esc (h:Zaj t=true):Esc (bs (bit t)) (bs t.text):=by
 unfold bit;split
 ·have:=Zl7 t.text t.text.size (QA _)
  rwa [Qe (by rw[ZfL];exact QA _)]at this
 ·rename_i h3;exact .plain (ZqG h h3)
theorem ZqH:Esc (bs ⟨#[32]⟩) (bs ⟨#[32]⟩):=.plain (by
                                intro c hc;have:c=32:=by simpa[bs]using hc
                                subst this;decide)
theorem Znq (h:Zam l=true):∀k,k<=l.length->Esc (bs (ZaN l k)) (bs (Ze2 l k))
 | 0,_=>.nil
 |
  k+1,hk=>by
  have ih:=Znq h k (by omega);have hk':k<l.length:=by omega
  have ht:=tok_esc ((Zay h).2 k hk');by_cases hs:0<k/\l[k].spaced=true
  ·rw[ZeH hk' hs.1 hs.2,rawTo_sp hk' hs.1 hs.2,Zdb,Zdb,Zdb,Zdb];exact(ih.app ZqH).app ht
  ·rw[Zdg hk' hs,rawTo_no hk' hs,Zdb,Zdb];exact ih.app ht
theorem Znr (t:Tok):(bit t).size<=2*t.text.size:=by
 unfold bit;split
 ·exact Ze1 _ _
 ·omega
theorem ZfB (h:Zam l=true):∀k,k<=l.length->(ZaN l k).size<=401*k
 | 0,_=>by show(0:Nat)<=_;omega
 |
  k+1,hk=>by
  have ih:=ZfB h k (by omega);have hk':k<l.length:=by omega
  have h2:=(Za9 ((Zay h).2 k hk')).2;have h3:=Znr l[k];have h1:(⟨#[32]⟩:ByteArray).size=1:=rfl;by_cases hs:0<k/\l[k].spaced=true
  ·rw[ZeH hk' hs.1 hs.2,QK,QK];omega
  ·rw[Zdg hk' hs,QK];omega
theorem bit_ok (h:Zaj t=true):AllOk (bit t):=by
 have hx:=AllOk.of (ZgD h).2.2.2;unfold bit;split
 ·exact Znp hx _ (QA _)
 ·exact hx
theorem Zo3 (h:Zam l=true):∀k,k<=l.length->AllOk (ZaN l k)
 | 0,_=>λj c hc=>by obtain⟨hj,_⟩:=Zc0 hc;exact absurd hj (by show ¬j<0;omega)
 |
  k+1,hk=>by
  have ih:=Zo3 h k (by omega);have hk':k<l.length:=by omega
  have hx:=bit_ok ((Zay h).2 k hk');by_cases hs:0<k/\l[k].spaced=true
  ·rw[ZeH hk' hs.1 hs.2];exact(ih.app (Zio (by decide))).app hx
  ·rw[Zdg hk' hs];exact ih.app hx
def quoted (x:ByteArray):ByteArray:=⟨#[34]⟩++x++⟨#[34]⟩
theorem Zg0 (x:ByteArray):(quoted x).size=x.size+2:=by
 have h1:(⟨#[34]⟩:ByteArray).size=1:=rfl;unfold quoted;rw[QK,QK];omega
theorem ZqI (x:ByteArray):bs (quoted x)=34::(bs x++[34]):=by unfold quoted;rw[Zdb,Zdb];rfl
def Zaw:Tok:=⟨0,⟨#[]⟩,false,[]⟩
def Zbl (l:List Tok):Tok × Bool:=if Zam l=true then (if 200<(quoted (ZaN l l.length)).size then (Zaw,false) else (⟨3,quoted (ZaN l l.length),false,[]⟩,true)) else (Zaw,false)
theorem Zl8 (h:Zam l=false):Zbl l=(Zaw,false):=by unfold Zbl;rw[if_neg (by simp[h])]
theorem Zji (h:Zam l=true)(hk:l.length=k)(h2:200<(quoted (ZaN l k)).size):Zbl l=(Zaw,false):=by unfold Zbl;rw[if_pos h,hk,if_pos h2]
theorem Zku (h:Zam l=true)(hk:l.length=k)(h2:¬200<(quoted (ZaN l k)).size):Zbl l=(⟨3,quoted (ZaN l k),false,[]⟩,true):=by unfold Zbl;rw[if_pos h,hk,if_neg h2]
def ZjG (t:Tok):ByteArray × Bool:=if Zaj t=true/\t.kind=3 then (ZcV t.text 1,true) else (⟨#[]⟩,false)
theorem Zns (h:Zaj t=true)(h3:t.kind=3):ZjG t=(ZcV t.text 1,true):=by unfold ZjG;rw[if_pos ⟨h,h3⟩]
theorem Zop (h:Zbl l=(t,true)):Zam l=true/\(quoted (ZaN l l.length)).size<=200/\t=⟨3,quoted (ZaN l l.length),false,[]⟩:=by
 unfold Zbl at h;split at h
 ·rename_i hv;split at h
  ·simp at h
  ·simp at h;exact⟨hv,by omega,h.symm⟩
 ·simp at h
theorem txt_back (h:Zbl l=(t,true)):Zaj t=true/\ZjG t=(Ze2 l l.length,true):=by
 obtain⟨hv,hz,rfl⟩:=Zop h;have hE:=Znq hv l.length (QA _);generalize hJ:ZaN l l.length=J at hE hz;have hb:=ZqI J;obtain⟨hc,ho⟩:=esc_scan hE (s:=quoted J) (k:=1) (by rw[hb];rfl);have h0:0<(quoted J).size:=by rw[Zg0];omega
 obtain⟨_,hq,_⟩:=Zks (s:=quoted J) (k:=0) hb;have hw:Zar (quoted J)[0]=false:=by rw[hq];decide
 have hq':(quoted J)[0].toNat=34:=by rw[hq];rfl
 have hcut:ZaI (quoted J) 0=((quoted J).size:Nat):=by rw[ZcY h0 hw hq',hc]
 have hl:Za8 (quoted J)=true:=by
  refine AllOk.line ?_ hz;unfold quoted;exact((Zio (by decide)).app (by rw[←hJ];exact Zo3 hv _ (QA _))).app (Zio (by decide))
 have ht:=ZoO hl h0 (by omega) hcut false;have hx:(quoted J).extract 0 (quoted J).size=quoted J:=ByteArray.extract_zero_size;have hk:cutKind (quoted J)[0]=3:=by rw[hq];decide
 rw[hx,hk]at ht;refine⟨ht,?_⟩;rw[Zns ht rfl];congr 1
 exact bs_ext ho
end Go.Proofs.YtipfpppcbmpjiaaGreat
