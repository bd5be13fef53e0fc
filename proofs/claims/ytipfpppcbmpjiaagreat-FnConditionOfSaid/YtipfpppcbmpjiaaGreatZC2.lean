/- Lemmas. -/
import Derived.Test.YtipfpppcbmpjiaaGreatZC1
import Derived.Deep.Slices
import Derived.Lib.Index
import Derived.Lib.Strings
import Derived.Deep.Fields
import Derived.ChangeSame
import Derived.Lib.SmallJoins
set_option linter.unusedVariables false
set_option maxHeartbeats 16000000
set_option maxRecDepth 100000
set_option linter.unusedSimpArgs false
namespace Go.Proofs.YtipfpppcbmpjiaaGreat
open Go.ChangeShapes Go.WideShapes Go.RowKit
section
variable {H:Type}{enc:TypeId × Value->H}{P:Program}{w:World}{base:Nat}{spare:Nat->Bool}{held:Bool}
def Opens (enc:TypeId × Value->H)(P:Program)(w:World)(base:Nat)(spare:Nat->Bool)(held:Bool)(t:TypeId){α:Type}(S:Shape α):Prop:=
 ∀cS cs x,DataW.trod enc P w base spare held cS t cs=some x->∃d fp,S.R w cs d fp
theorem Zpo {t:TypeId}(ht:P.underlying t=some (.int .u8)):Opens enc P w base spare held t Zdi:=by
 intro cS cs x h;obtain⟨n,rfl,_,hw⟩:=DataW.trod_int ht h;have:0<=n/\n<=255:=by simpa[Lit.wf,IntKind.min,IntKind.max,IntKind.signed,IntKind.bits]using hw
 refine⟨UInt8.ofNat n.toNat,[],?_,trivial,rfl⟩;show [Value.int .u8 n]=[Value.int .u8 ((UInt8.ofNat n.toNat).toNat:Int)];rw[UInt8.toNat_ofNat_of_lt' (by simp[UInt8.size];omega)];congr 2;omega
theorem ZaZ (b off n:Nat):Addr.add ⟨b,off,none⟩ n=⟨b,off+n,none⟩:=by
 unfold Addr.add;split
 ·rename_i h;subst h;rfl
 ·rfl
theorem Zn9 {t e:TypeId}{α:Type}{S:Shape α}(ht:P.underlying t=some (.slice e))(hm:P.cellsOf e=S.m)(h0:0<S.m)(he:Opens enc P w base spare held e S):Opens enc P w base spare held t (Zaa S):=by
 intro cS cs x h;rcases DataW.trod_slice ht h with⟨rfl,_⟩ | ⟨a,len,cap,elems,rest,n,_,rfl,_,hb,hl,hc,bE,oF,_,_⟩
 ·exact⟨[],[],none,0,rfl,by simp,by simp,.inl ⟨rfl,rfl⟩⟩
 ·have sW:∀i,i<len->∃es d fp,(es.length=S.m/\∀j,j<S.m->w.cell? (a.add (i*S.m+j))=es[j]?)/\S.R w es d fp:=by
   intro i hi;have h1:=oF i hi;rw[QJ (by omega),Option.bind_eq_some_iff]at h1;obtain⟨es,h2,h3⟩:=h1;rw[hm]at h2;obtain⟨_,h4,h5⟩:=World.cells?_some h2;obtain⟨d,fp,h6⟩:=he _ _ _ h3;refine⟨es,d,fp,⟨h4,λj hj=>?_⟩,h6⟩;rw[←h5 j hj,Go.Deep.add_add]
  by_cases hz:len=0
  ·subst hz;exact⟨[],[],some a,cap,rfl,hl,hc,.inl ⟨rfl,rfl⟩⟩
  ·have iD:a.spot=none:=by
    obtain⟨es,d,fp,⟨h1,h2⟩,_⟩:=sW 0 (by omega);have h3:=h2 0 h0;rw[QJ (by omega)]at h3;have e0:a.add (0*S.m+0)=a:=(by simp[Addr.add]);rw[e0]at h3;unfold World.cell? at h3;split at h3
    ·split at h3
     ·simp at h3
     ·rename_i hh;simpa using hh
    ·simp at h3
   obtain⟨b,off,sp⟩:=a;simp at iD;subst iD;have dr:b<w.heap.size:=by
    obtain⟨es,d,fp,⟨h1,h2⟩,_⟩:=sW 0 (by omega);have h3:=h2 0 h0;rw[QJ (by omega),ZaZ]at h3;exact World.block_lt_of_cell? w _ h3
   have hch:∀i:Nat,∃y:α × List Nat,i<len->∃es,ElemAt w b off S.m i es/\S.R w es y.1 y.2:=by
    intro i;by_cases hi:i<len
    ·obtain⟨es,d,fp,⟨h1,h2⟩,h3⟩:=sW i hi;refine⟨(d,fp),λ_=>⟨es,⟨h1,λj hj=>?_⟩,h3⟩⟩;rw[←h2 j hj,ZaZ,Nat.add_assoc]
    ·obtain⟨es,d,fp,_,_⟩:=sW 0 (by omega);exact⟨(d,fp),λh=>absurd h hi⟩
   let Y:=λi=>Classical.choose (hch i)
   have hY:∀i,i<len->∃es,ElemAt w b off S.m i es/\S.R w es (Y i).1 (Y i).2:=λi hi=>Classical.choose_spec (hch i) hi;have hL:((List.range len).map λi=>(Y i).1).length=len:=(by simp);refine⟨(List.range len).map λi=>(Y i).1,b::(List.range len).flatMap λi=>(Y i).2,some ⟨b,off,none⟩,cap,by rw[hL],by rw[hL];exact hl,hc,.inr ⟨by rw[hL];omega,b,off,λi=>(Y i).2,rfl,by rw[hL],dr,λi hi=>?_⟩⟩;rw[hL]at hi;obtain⟨es,h1,h2⟩:=hY i hi;exact⟨es,h1,by simpa using h2⟩
theorem open_arg {t:TypeId}{α:Type}{S:Shape α}{v:Value}{d:DataW H}{p:List MemPlace}(ho:Opens enc P w base spare held t S)(h:DataW.Trod enc P w base spare held t v d p):∃x fp,S.R w v.cells.toList x fp:=by
 obtain⟨cS,hf⟩:=h;exact ho cS _ _ hf
end
open Go.RowKit
theorem ZgA {P:Program}{t e:TypeId}{z:Value}{size bytes:Nat}(ti:TI P t e z size bytes)(ev:z.cells.size=size)(h0:0<size)(w0:World)(xs:List Value)(x:List Value)(hxl:x.length=size)(bZ:∀u∈x,u.oneCell'=true){ops:Array Oper}{rest:List Oper}{o:Oper}{a:Act}{Q:Exit->Act->World->Prop}
  (hg:o.guard=none) (s y:Operand) (ho:o.op=.call { callee:=.builtin .append,args:=#[s,y],argTypes:=#[t,t] })
  (base:Nat) (v:Value) (n:Nat) (hs:a.eval s=v) (ag:w0.ownsRow base e size v n xs)
  (hy:a.eval y=.slice (some ⟨w0.heap.size,0,none⟩) 1 1)
  (dz:n+1<=maxLen) (aO:(n+1)*bytes<=140737488355328) (aK:base<=w0.heap.size)
  (h:∀v' w',w'.ownsRow base e size v' (n+1) (xs++x)->w0.grownBy w' v.ownBlock->wpList P ops Q rest (a.put o.dst v') w'):wpList P ops Q (o::rest) a (w0.alloc (.cells x.toArray e)):=by
 obtain⟨i,hi,cI,dQ,dZ⟩:=info_parts ti.2;refine wpList_append_own _ hg s y t ho base e i z size bytes ti.1 hi cI dQ dZ ev h0 v n xs hs (ag.alloc _) ⟨w0.heap.size,0,none⟩ 1 1 x hy (by omega) ?_ bZ dz aO (by simp;omega) λv' w' a b _=>h v' w' a (Zds (World.grownBy_alloc _ _ _) b);intro j u hj;rw[ZaZ,QX];rw[Qy _ _ _ _ rfl];simpa using hj
variable {α:Type}
theorem Zb4 {f:α->List Value}{m:Nat}:∀{L:List α} (_:∀x∈L,(f x).length=m) {i:Nat} (hi:i<L.length) {j:Nat} (_:j<m),(L.flatMap f)[i*m+j]?=(f L[i])[j]?
 | [],_,i,hi,_,_=>by simp at hi
 |
  x::L,hL,0,_,j,hj=>by
  rw[Qw,List.getElem?_append_left (by rw[hL x (by simp)];omega)];simp
 |
  x::L,hL,i+1,hi,j,hj=>by
  have hx:=hL x (by simp);have e:(i+1)*m+j=m+(i*m+j):=by rw[Nat.succ_mul];omega
  rw[Qw,List.getElem?_append_right (by rw[hx,e];omega),hx,e,Nat.add_sub_cancel_left];exact Zb4 (λy hy=>hL y (by simp[hy])) (by simpa using hi) hj
theorem ZaR {f:α->List Value}{m:Nat}:∀{L:List α},(∀x∈L,(f x).length=m)->(L.flatMap f).length=L.length*m
 | [],_=>by simp
 | x::L,hL=>by rw[Qw,QC,hL x (by simp),ZaR (λy hy=>hL y (by simp[hy])),QQ,Nat.succ_mul,Nat.add_comm]
structure Elem (α:Type) where
 cells:List Value
 d:α
 fp:List Nat
theorem Zpp {L:List (List Nat)}:(List.range L.length).flatMap (λi=>L.getD i [])=L.flatten:=by
 have:(List.range L.length).map (λi=>L.getD i [])=L:=by
  apply List.ext_getElem (by simp);intro i h1 h2;simp[Qv,QJ h2]
 rw[List.flatMap_def,this]
variable {w:World}{v:Value}
theorem Zbt {S:Shape α}{base e:Nat}{L:List (Elem α)}(h:w.ownsRow base e S.m v L.length (L.flatMap (·.cells)))(hR:∀x∈L,x.cells.length=S.m/\S.R w x.cells x.d x.fp):
  ∃fp,(Zaa S).R w [v] (L.map (·.d)) fp/\(∀b∈fp,v.ownBlock=some b\/b∈L.flatMap (·.fp)) /\
   (Own w base (L.flatMap (·.fp))->(∀g,v.ownBlock=some g->g∉L.flatMap (·.fp))->Own w base fp):=by
 by_cases h0:L=[]
 ·subst h0;rcases h.2 with⟨rfl,_⟩ | ⟨g,cap,cur,rfl,hb,hg,j7,gL,aS,lx⟩
  ·exact⟨[],⟨none,0,rfl,by simp,by simp,.inl ⟨rfl,rfl⟩⟩,by simp,λ_ _=>Own.nil _ _⟩
  ·exact⟨[],⟨_,cap,rfl,by simp,gL,.inl ⟨rfl,rfl⟩⟩,by simp,λ_ _=>Own.nil _ _⟩
 ·have vU:0<L.length:=List.length_pos_iff.2 h0;rcases h.2 with⟨_,h1⟩ | ⟨g,cap,cur,rfl,hb,hg,j7,gL,aS,lx⟩
  ·omega
  ·have af:g<w.heap.size:=(Qg hg).1;have e1:(List.range L.length).flatMap (λi=>(L.map (·.fp)).getD i [])=L.flatMap (·.fp):=by
    have:=Zpp (L:=L.map (·.fp));rw[QH]at this;rw[this,List.flatMap_def]
   refine⟨g::L.flatMap (·.fp),⟨_,cap,by simp,by simpa using j7,gL,.inr ⟨by simpa using vU,g,0,λi=>(L.map (·.fp)).getD i [],rfl,by rw[QH,e1],af,λi hi=>?_⟩⟩,?_,?_⟩
   ·have ys:i<L.length:=(by simpa using hi);have hx:=hR L[i] (QE ys);refine⟨L[i].cells,⟨hx.1,λj hj=>?_⟩,?_⟩
    ·rw[QX,h.cellAt (i*S.m+j) (by have:(i+1)*S.m<=L.length*S.m:=Nat.mul_le_mul_right _ ys;rw[Nat.succ_mul]at this;omega)];exact Zb4 (f:=Elem.cells) (λx hx=>(hR x hx).1) ys hj
    ·have e2:(L.map (·.fp)).getD i []=L[i].fp:=(by simp[Qv,QJ ys]);show S.R w L[i].cells (L.map (·.d))[i] ((L.map (·.fp)).getD i []);rw[e2];simpa using hx.2
   ·intro b aE;rcases Q7.1 aE with rfl | aE
    ·exact .inl rfl
    ·exact .inr aE
   ·intro ho hn
    exact⟨List.nodup_cons.2 ⟨hn g rfl,ho.1⟩,λb aE=>by
     rcases Q7.1 aE with rfl | aE
     ·exact⟨hb,cur,e,hg⟩
     ·exact ho.2 b aE⟩
theorem Zac {S:Shape α}{l:List α}{fp:List Nat}(H:(Zaa S).R w [v] l fp):
  ∃a cap,v=.slice a l.length cap/\l.length<=cap/\cap<=maxLen/\(0<l.length->∃b off bA,a=some ⟨b,off,none⟩/\b<w.heap.size/\fp=b::(List.range l.length).flatMap bA/\∀i,(hi:i<l.length)->∃es,ElemAt w b off S.m i es/\S.R w es l[i] (bA i)):=by
 obtain⟨a,cap,hv,hc,hm,h⟩:=H;refine⟨a,cap,by simpa using hv,hc,hm,λh0=>?_⟩;rcases h with⟨rfl,_⟩ | ⟨_,b,off,bA,rfl,rfl,hb,he⟩
 ·simp at h0
 ·exact⟨b,off,bA,rfl,hb,rfl,he⟩
def tEnd (s:ByteArray)(k:Nat):Nat:=
 if h:k<s.size then (if s[k].toNat=34 then k+1 else if s[k].toNat=92 then tEnd s (k+2) else tEnd s (k+1)) else s.size
termination_by s.size-k
variable {s:ByteArray}{k:Nat}
theorem ZeM (h:k<s.size)(hc:s[k].toNat=34):tEnd s k=k+1:=by rw[tEnd,dif_pos h,if_pos hc]
theorem ZeC (h:k<s.size)(hc:s[k].toNat=92):tEnd s k=tEnd s (k+2):=by rw[tEnd,dif_pos h,if_neg (by omega),if_pos hc]
theorem ZdI (h:k<s.size)(h1:¬s[k].toNat=34)(h2:¬s[k].toNat=92):tEnd s k=tEnd s (k+1):=by rw[tEnd,dif_pos h,if_neg h1,if_neg h2]
theorem Zer (h:s.size<=k):tEnd s k=s.size:=by rw[tEnd,dif_neg (by omega)]
theorem Zi3 (s:ByteArray)(k:Nat):tEnd s k<=s.size/\(k<=s.size->k<=tEnd s k):=by
 induction k using tEnd.induct (s:=s) with
 | case1 k h hc=>rw[ZeM h hc];omega
 |
  case2 k h h1 hc ih=>rw[ZeC h hc];exact⟨ih.1,λ_=>by
  by_cases h2:k+2<=s.size
  ·have:=ih.2 h2;omega
  ·rw[Zer (by omega)];omega⟩
 | case3 k h h1 h2 ih=>rw[ZdI h h1 h2];exact⟨ih.1,λ_=>by have:=ih.2 (by omega);omega⟩
 | case4 k h=>rw[Zer (by omega)];omega
def two (s:ByteArray)(k:Nat)(a b:UInt8):Bool:=[a,b].isPrefixOf (s.data.toList.drop k)
theorem take_two (l:List UInt8)(a b:UInt8):(l.take 2==[a,b])=[a,b].isPrefixOf l:=by
 match l with
 | []=>rfl
 | [x]=>simp[List.isPrefixOf]
 |
  x::y::t =>
  show([x,y]==[a,b])=(a==x && (b==y && true));rw[Bool.eq_iff_iff,beq_iff_eq,QI,QI,beq_iff_eq,beq_iff_eq,JH,JH];exact⟨λh=>⟨h.1.symm,h.2.1.symm,rfl⟩,λh=>⟨h.1.symm,h.2.1.symm,rfl⟩⟩
theorem Zjq (s:ByteArray)(i j:Nat):(s.extract i j).data.toList=(s.data.toList.drop i).take (j-i):=by
 rw[ByteArray.data_extract,Array.toList_extract,List.extract_eq_take_drop]
theorem Zcg (s:ByteArray)(k:Nat)(a b:UInt8):((s.extract k (k+2)).toList==[a,b])=two s k a b:=by
 rw[QB,Zjq,show k+2-k=2 from by omega,take_two];rfl
theorem ext_min (s:ByteArray)(k:Nat):s.extract k (min s.size (k+2))=s.extract k (k+2):=by
 apply Go.WideShapes.bytes_inj;rw[Zjq,Zjq];by_cases h:k+2<=s.size
 ·rw[Nat.min_eq_right h]
 ·have e:s.data.toList.length=s.size:=Array.length_toList;rw[Nat.min_eq_left (by omega),Qe (by rw[QM];omega),Qe (by rw[QM];omega)]
theorem Zga {a b:UInt8}(h:two s k a b=true):k+1<s.size:=by
 have e:s.data.toList.length=s.size:=Array.length_toList;have:=List.IsPrefix.length_le (List.isPrefixOf_iff_prefix.1 h);simp only[QQ,JO,QM]at this;omega
def Ze8 (s:ByteArray)(k:Nat):Int:=if Lib.index (s.data.toList.drop k) [42,47]<0 then -1 else k+Lib.index (s.data.toList.drop k) [42,47]+2
theorem Zj1:∀(l:List UInt8) {sub:List UInt8},0<=Lib.index l sub->(Lib.index l sub).toNat+sub.length<=l.length
 |
  [],sub,h=>by
  unfold Lib.index at *;split at h
  ·rename_i h1;have:sub=[]:=by simpa using h1
   subst this;simp
  ·omega
 |
  b::l,sub,h=>by
  unfold Lib.index at *;split at h
  ·rename_i h1;rw[if_pos h1];have:=List.IsPrefix.length_le (List.isPrefixOf_iff_prefix.1 h1);simpa using this
  ·rename_i h1;rw[if_neg h1];split at h
   ·omega
   ·rename_i h2;rw[if_neg h2];have h3:=Lib.index_ge l sub;have h4:¬Lib.index l sub=-1:=(by simpa using h2);have:=Zj1 l (sub:=sub) (by omega);simp only[QQ];omega
theorem ZlK (h:0<=Ze8 s k)(hk:k<=s.size):(k:Int)+2<=Ze8 s k/\Ze8 s k<=s.size:=by
 unfold Ze8 at *;split at h
 ·omega
 ·rename_i h1;rw[if_neg h1];have:=Zj1 (s.data.toList.drop k) (sub:=[42,47]) (by omega);have e:s.data.toList.length=s.size:=Array.length_toList;simp only[QQ,JO,QM]at this;omega
def strip1 (s:ByteArray)(k:Nat):Option ByteArray:=
 if h:k<s.size then
  if two s k 47 47=true then some ⟨#[]⟩
  else if two s k 47 42=true then
   if Ze8 s (k+2)<0 then none else (strip1 s (max (k+1) (Ze8 s (k+2)).toNat)).map (⟨#[32]⟩++·)
  else if s[k].toNat=34 then (strip1 s (max (k+1) (tEnd s (k+1)))).map (s.extract k (tEnd s (k+1))++·)
  else (strip1 s (k+1)).map (s.extract k (k+1)++·)
 else some ⟨#[]⟩
termination_by s.size-k
def At1 (s:ByteArray)(k:Nat)(out:ByteArray):Prop:=(strip1 s k).map (out++·)=strip1 s 0/\out.size<=k
theorem Zh8 (a b:ByteArray)(o:Option ByteArray):(o.map (b++·)).map (a++·)=o.map ((a++b)++·):=by
 rw[Option.map_map];congr 1;funext x;simp[ByteArray.append_assoc]
theorem ZoK (a:ByteArray):a++(⟨#[]⟩:ByteArray)=a:=by apply Go.WideShapes.bytes_inj;simp
variable {out:ByteArray}
theorem At1.line (h:At1 s k out)(hk:k<s.size)(h1:two s k 47 47=true):strip1 s 0=some out:=by
 rw[←h.1,strip1,dif_pos hk,if_pos h1,JM,ZoK]
theorem At1.done (h:At1 s k out)(hk:s.size<=k):strip1 s 0=some out:=by
 rw[←h.1,strip1,dif_neg (by omega),JM,ZoK]
theorem At1.open_ (h:At1 s k out)(hk:k<s.size)(h1:two s k 47 47=false)(h2:two s k 47 42=true)(h3:Ze8 s (k+2)<0):strip1 s 0=none:=by
 rw[←h.1,strip1,dif_pos hk,if_neg (by simp[h1]),if_pos h2,if_pos h3];rfl
theorem At1.comment (h:At1 s k out)(hk:k<s.size)(h1:two s k 47 47=false)(h2:two s k 47 42=true)(h3:¬Ze8 s (k+2)<0):At1 s (Ze8 s (k+2)).toNat (out++⟨#[32]⟩):=by
 have hr:=Zga h2;have hc:=ZlK (s:=s) (k:=k+2) (by omega) (by omega);refine⟨?_,by rw[QK];have:=h.2;show out.size+1<=_;omega⟩;rw[←h.1,strip1.eq_def s k,dif_pos hk,if_neg (by simp[h1]),if_pos h2,if_neg h3,Zh8,Nat.max_eq_right (by omega)]
theorem At1.text (h:At1 s k out)(hk:k<s.size)(h1:two s k 47 47=false)(h2:two s k 47 42=false)(h3:s[k].toNat=34):At1 s (tEnd s (k+1)) (out++s.extract k (tEnd s (k+1))):=by
 have hb:=Zi3 s (k+1);have aF:=hb.2 (by omega);refine⟨?_,by rw[QK,Ql];have:=h.2;omega⟩;rw[←h.1,strip1.eq_def s k,dif_pos hk,if_neg (by simp[h1]),if_neg (by simp[h2]),if_pos h3,Zh8,Nat.max_eq_right (by omega)]
theorem At1.byte (h:At1 s k out)(hk:k<s.size)(h1:two s k 47 47=false)(h2:two s k 47 42=false)(h3:¬s[k].toNat=34):At1 s (k+1) (out++s.extract k (k+1)):=by
 refine⟨?_,by rw[QK,Ql];have:=h.2;omega⟩;rw[←h.1,strip1.eq_def s k,dif_pos hk,if_neg (by simp[h1]),if_neg (by simp[h2]),if_neg h3,Zh8]
theorem Zi4 (h:Za8 s=true):s.size<=200:=by
 unfold Za8 at h;rw[QI,JT]at h;exact h.1
structure Tok where
 kind:Int
 text:ByteArray
 spaced:Bool
 hidden:List ByteArray
theorem Tok.ext' {a b:Tok}(h1:a.kind=b.kind)(h2:a.text=b.text)(h3:a.spaced=b.spaced)(h4:a.hidden=b.hidden):a=b:=by
 cases a;cases b;simp_all
instance : DecidableEq Tok:=λa b =>
 if h1:a.kind=b.kind then if h2:a.text=b.text then if h3:a.spaced=b.spaced then if h4:a.hidden=b.hidden then isTrue (Tok.ext' h1 h2 h3 h4)
  else isFalse λh=>h4 (by rw[h]) else isFalse λh=>h3 (by rw[h]) else isFalse λh=>h2 (by rw[h]) else isFalse λh=>h1 (by rw[h])
def Zb5 (c:UInt8):Bool:=decide (97<=c.toNat/\c.toNat<=122\/65<=c.toNat/\c.toNat<=90\/c.toNat=95)
def Za3 (c:UInt8):Bool:=decide (48<=c.toNat/\c.toNat<=57)
def Zar (c:UInt8):Bool:=Zb5 c || Za3 c
theorem Zh9 (c:UInt8):Zb5 c=true ↔ (97<=c.toNat/\c.toNat<=122\/65<=c.toNat/\c.toNat<=90\/c.toNat=95):=by unfold Zb5;exact decide_eq_true_iff
theorem ZfG (c:UInt8):Za3 c=true ↔ (48<=c.toNat/\c.toNat<=57):=by unfold Za3;exact decide_eq_true_iff
theorem Zhk (c:UInt8):Zar c=true ↔ ((97<=c.toNat/\c.toNat<=122\/65<=c.toNat/\c.toNat<=90\/c.toNat=95)\/(48<=c.toNat/\c.toNat<=57)):=by
 unfold Zar;rw[Q6,Zh9,ZfG]
def wEnd (s:ByteArray)(k:Nat):Nat:=if h:k<s.size then (if Zar s[k]=true then wEnd s (k+1) else k) else k
termination_by s.size-k
theorem ZbY (h:k<s.size)(hc:Zar s[k]=true):wEnd s k=wEnd s (k+1):=by rw[wEnd,dif_pos h,if_pos hc]
theorem Zcr (h:k<s.size)(hc:Zar s[k]=false):wEnd s k=k:=by rw[wEnd,dif_pos h,if_neg (by simp[hc])]
theorem ZdJ (h:s.size<=k):wEnd s k=k:=by rw[wEnd,dif_neg (by omega)]
theorem ZgR (s:ByteArray)(k:Nat):k<=wEnd s k/\(k<=s.size->wEnd s k<=s.size):=by
 induction k using wEnd.induct (s:=s) with
 | case1 k h hc ih=>rw[ZbY h hc];exact⟨by omega,λ_=>ih.2 (by omega)⟩
 | case2 k h hc=>rw[Zcr h (by simpa using hc)];omega
 | case3 k h=>rw[ZdJ (by omega)];omega
def tClose (s:ByteArray)(k:Nat):Option Nat:=
 if h:k<s.size then (if s[k].toNat=34 then some (k+1) else if s[k].toNat=92 then tClose s (k+2) else tClose s (k+1)) else none
termination_by s.size-k
theorem ZbN (h:k<s.size)(hc:s[k].toNat=34):tClose s k=some (k+1):=by rw[tClose,dif_pos h,if_pos hc]
theorem Zcs (h:k<s.size)(hc:s[k].toNat=92):tClose s k=tClose s (k+2):=by rw[tClose,dif_pos h,if_neg (by omega),if_pos hc]
theorem Zb6 (h:k<s.size)(h1:¬s[k].toNat=34)(h2:¬s[k].toNat=92):tClose s k=tClose s (k+1):=by rw[tClose,dif_pos h,if_neg h1,if_neg h2]
theorem Zhl (h:s.size<=k):tClose s k=none:=by rw[tClose,dif_neg (by omega)]
theorem ZbA {k e:Nat}(h:tClose s k=some e):k+1<=e/\e<=s.size/\tEnd s k=e/\∃hh:e-1<s.size,s[e-1].toNat=34:=by
 induction k using tClose.induct (s:=s) with
 |
  case1 k hk hc =>
  rw[ZbN hk hc,Qi]at h;subst h;exact⟨by omega,by omega,ZeM hk hc,by simp;omega,hc⟩
 |
  case2 k hk h1 hc ih =>
  rw[Zcs hk hc]at h;obtain⟨a,b,c,d⟩:=ih h;exact⟨by omega,b,by rw[ZeC hk hc,c],d⟩
 |
  case3 k hk h1 h2 ih =>
  rw[Zb6 hk h1 h2]at h;obtain⟨a,b,c,d⟩:=ih h;exact⟨by omega,b,by rw[ZdI hk h1 h2,c],d⟩
 | case4 k hk=>rw[Zhl (by omega)]at h;exact absurd h (by simp)
theorem Zoa (h:tClose s k=none):tEnd s k=s.size:=by
 induction k using tClose.induct (s:=s) with
 | case1 k hk hc=>rw[ZbN hk hc]at h;simp at h
 | case2 k hk h1 hc ih=>rw[Zcs hk hc]at h;rw[ZeC hk hc,ih h]
 | case3 k hk h1 h2 ih=>rw[Zb6 hk h1 h2]at h;rw[ZdI hk h1 h2,ih h]
 | case4 k hk=>exact Zer (by omega)
def ZfR (s:ByteArray):ByteArray:=s++⟨#[32]⟩
theorem Zcc (s:ByteArray):(ZfR s).size=s.size+1:=by unfold ZfR;rw[QK];rfl
theorem ZiK (s:ByteArray)(k:Nat)(h:k<s.size):(ZfR s)[k]'(by rw[Zcc];omega)=s[k]:=by
 unfold ZfR;rw[ByteArray.getElem_append_left h]
theorem ZmG (s:ByteArray):(ZfR s)[s.size]'(by rw[Zcc];omega)=32:=by
 unfold ZfR;rw[ByteArray.getElem_append_right (QA _)];simp;rfl
theorem Zp1 (s:ByteArray)(k:Nat)(hk:k<=s.size+1):tEnd (ZfR s) k=match tClose s k with | some e=>e | none=>s.size+1:=by
 induction k using tClose.induct (s:=s) with
 |
  case1 k h hc =>
  rw[ZbN h hc,ZeM (by rw[Zcc];omega) (by rw[ZiK s k h];exact hc)]
 |
  case2 k h h1 hc ih =>
  rw[Zcs h hc,ZeC (by rw[Zcc];omega) (by rw[ZiK s k h];exact hc)];exact ih (by omega)
 |
  case3 k h h1 h2 ih =>
  rw[Zb6 h h1 h2,ZdI (by rw[Zcc];omega) (by rw[ZiK s k h];exact h1) (by rw[ZiK s k h];exact h2)];exact ih (by omega)
 |
  case4 k h =>
  rw[Zhl (by omega)];by_cases e:k=s.size
  ·subst e;rw[ZdI (by rw[Zcc];omega) (by rw[ZmG];decide) (by rw[ZmG];decide),Zer (by rw[Zcc];omega),Zcc]
  ·rw[Zer (by rw[Zcc];omega),Zcc]
def bk (s:ByteArray)(k e:Nat):Nat:=if h:k<e/\k<s.size then (if s[k].toNat=92 then bk s (k+2) e else bk s (k+1) e) else k
termination_by e-k
theorem ZkU {k e:Nat}(h:k<e)(h':k<s.size)(hc:s[k].toNat=92):bk s k e=bk s (k+2) e:=by rw[bk,dif_pos ⟨h,h'⟩,if_pos hc]
theorem ZkV {k e:Nat}(h:k<e)(h':k<s.size)(hc:¬s[k].toNat=92):bk s k e=bk s (k+1) e:=by rw[bk,dif_pos ⟨h,h'⟩,if_neg hc]
theorem ZmH {k e:Nat}(h:e<=k):bk s k e=k:=by rw[bk,dif_neg (by omega)]
theorem Zp2 {k e:Nat}(h:tClose s k=some e):bk s k (e-1)=e-1:=by
 induction k using tClose.induct (s:=s) with
 |
  case1 k hk hc =>
  rw[ZbN hk hc,Qi]at h;subst h;rw[ZmH (by omega)];omega
 |
  case2 k hk h1 hc ih =>
  rw[Zcs hk hc]at h;have:=ZbA h;rw[ZkU (by omega) hk hc];exact ih h
 |
  case3 k hk h1 h2 ih =>
  rw[Zb6 hk h1 h2]at h;have:=ZbA h;rw[ZkV (by omega) hk h2];exact ih h
 | case4 k hk=>rw[Zhl (by omega)]at h;exact absurd h (by simp)
theorem bk_open (h:tClose s k=none)(hk:k<s.size)(hq:s[s.size-1].toNat=34):bk s k (s.size-1)≠s.size-1:=by
 induction k using tClose.induct (s:=s) with
 | case1 k hk hc=>rw[ZbN hk hc]at h;simp at h
 |
  case2 k hk' h1 hc ih =>
  rw[Zcs hk' hc]at h;have hn:k≠s.size-1:=by rintro rfl;omega
  rw[ZkU (by omega) hk' hc];by_cases h2:k+2<s.size
  ·exact ih h h2 hq
  ·rw[ZmH (by omega)];omega
 |
  case3 k hk' h1 h2 ih =>
  rw[Zb6 hk' h1 h2]at h;have hn:k≠s.size-1:=by rintro rfl;omega
  rw[ZkV (by omega) hk' h2];exact ih h (by omega) hq
 | case4 k hk'=>omega
def Zbg (s:ByteArray)(k:Nat):Bool:=two s k 61 61 || two s k 33 61 || two s k 60 61 || two s k 62 61 || two s k 38 38 || two s k 124 124 || two s k 35 35
def marks1:List UInt8:=[43,45,42,47,37,60,62,61,33,38,124,40,41,44,35,59,63,58,123,125,91,93,46]
def ZbK (s:ByteArray)(k:Nat):Nat:=if Zbg s k=true then 2 else if h:k<s.size then (if s[k]∈marks1 then 1 else 0) else 0
theorem Zhm (h:Zbg s k=true):k+1<s.size:=by
 unfold Zbg at h;simp only[Q6]at h;rcases h with(((((h | h) | h) | h) | h) | h) | h <;> exact Zga h
theorem Zia (hk:k<s.size):k+ZbK s k<=s.size/\ZbK s k<=2:=by
 unfold ZbK;split
 ·rename_i h;have:=Zhm h;omega
 ·split <;> (try split) <;> omega
def Zgb (s:ByteArray)(k:Nat):Int:=if 12<wEnd s k-k then -1 else (wEnd s k:Int)
theorem Zi5 {k0 k:Nat}(h:k=wEnd s k0)(h1:12<(k:Int)-(k0:Int)):(-1:Int)=Zgb s k0:=by unfold Zgb;rw[←h,if_pos (by omega)]
theorem Zib {k0 k:Nat}(h:k=wEnd s k0)(h1:¬12<(k:Int)-(k0:Int)):(k:Int)=Zgb s k0:=by unfold Zgb;rw[←h,if_neg (by omega)]
def Ze9 (s:ByteArray)(k:Nat):Int:=match tClose s k with | some e=>(e:Int) | none=>-1
theorem ZmI {k e:Nat}(h:tClose s k=some e):Ze9 s k=e:=by unfold Ze9;rw[h]
theorem ZmJ (h:tClose s k=none):Ze9 s k=-1:=by unfold Ze9;rw[h]
def ZeN (s:ByteArray)(k:Nat):Int:=if ZbK s k=0 then -1 else ((k+ZbK s k:Nat):Int)
def cutKind (c:UInt8):Int:=if Za3 c=true then 2 else if Zb5 c=true then 1 else if c.toNat=34 then 3 else 4
def ZaI (s:ByteArray)(k:Nat):Int:=
 if h:k<s.size then
  if Zar s[k]=true then Zgb s k
  else if s[k].toNat=34 then Ze9 s (k+1)
  else ZeN s k
 else -1
theorem Zct (h:k<s.size)(hw:Zar s[k]=true):ZaI s k=if 12<wEnd s k-k then -1 else (wEnd s k:Int):=by rw[ZaI,dif_pos h,if_pos hw];rfl
theorem ZcY (h:k<s.size)(hw:Zar s[k]=false)(hq:s[k].toNat=34):ZaI s k=match tClose s (k+1) with | some e=>(e:Int) | none=>-1:=by rw[ZaI,dif_pos h,if_neg (by simp[hw]),if_pos hq];rfl
theorem ZcZ (h:k<s.size)(hw:Zar s[k]=false)(hq:¬s[k].toNat=34):ZaI s k=if ZbK s k=0 then -1 else ((k+ZbK s k:Nat):Int):=by rw[ZaI,dif_pos h,if_neg (by simp[hw]),if_neg hq];rfl
theorem Zb7 (h:0<=ZaI s k):(k:Int)+1<=ZaI s k/\ZaI s k<=s.size/\k<s.size:=by
 by_cases hk:k<s.size
 ·refine⟨?_,?_,hk⟩ <;>
  ·cases hw:Zar s[k]
   ·by_cases hq:s[k].toNat=34
    ·rw[ZcY hk hw hq]at h ⊢;cases hc:tClose s (k+1) with
     | none=>rw[hc]at h;exact absurd h (by decide)
     | some e=>have:=ZbA hc;show _<=_;simp only;omega
    ·rw[ZcZ hk hw hq]at h ⊢;have:=Zia hk;split at h
     ·omega
     ·rename_i h0;rw[if_neg h0];omega
   ·rw[Zct hk hw]at h ⊢;have h1:=ZgR s (k+1);rw[←ZbY hk hw]at h1;have:=h1.2 (by omega);split at h
    ·omega
    ·rename_i h0;rw[if_neg h0];omega
 ·rw[ZaI,dif_neg hk]at h;omega
theorem ZlL (s:ByteArray)(k:Nat):ZaI s k<0\/∃e:Nat,ZaI s k=e/\k<e/\e<=s.size:=by
 by_cases h:ZaI s k<0
 ·exact .inl h
 ·have:=Zb7 (s:=s) (k:=k) (by omega);exact .inr ⟨(ZaI s k).toNat,by omega,by omega,by omega⟩
def ZbL (s:ByteArray)(k:Nat):Int × Int:=
 if h:k<s.size then
  if Zar s[k]=true then (if Zb5 s[k]=true then 1 else 2,wEnd s (k+1))
  else if s[k].toNat=34 then (match tClose s (k+1) with | some e=>(3,(e:Int)) | none=>(0,k))
  else (4,(k+ZbK s k:Nat))
 else (0,k)
def SBad (k:Nat)(c:Int × Int):Prop:=c.2=k\/c.1=0\/(c.1=1\/c.1=2)/\12<c.2-k
theorem let_dig {c:UInt8}(h:Zb5 c=true):Za3 c=false:=by
 rw[Zh9]at h;cases hd:Za3 c
 ·rfl
 ·rw[ZfG]at hd;omega
theorem ZfH (h:k<s.size)(hw:Zar s[k]=true):ZbL s k=(if Zb5 s[k]=true then 1 else 2,(wEnd s (k+1):Int)):=by rw[ZbL,dif_pos h,if_pos hw]
theorem ZgS {k e:Nat}(h:k<s.size)(hw:Zar s[k]=false)(hq:s[k].toNat=34)(hc:tClose s (k+1)=some e):ZbL s k=(3,(e:Int)):=by rw[ZbL,dif_pos h,if_neg (by simp[hw]),if_pos hq,hc]
theorem Zic (h:k<s.size)(hw:Zar s[k]=false)(hq:s[k].toNat=34)(hc:tClose s (k+1)=none):ZbL s k=(0,(k:Int)):=by rw[ZbL,dif_pos h,if_neg (by simp[hw]),if_pos hq,hc]
theorem ZgB (h:k<s.size)(hw:Zar s[k]=false)(hq:¬s[k].toNat=34):ZbL s k=(4,((k+ZbK s k:Nat):Int)):=by rw[ZbL,dif_pos h,if_neg (by simp[hw]),if_neg hq]
theorem sCut_bad (hk:k<s.size)(h:ZaI s k<0):SBad k (ZbL s k):=by
 unfold SBad;cases hw:Zar s[k]
 ·by_cases hq:s[k].toNat=34
  ·rw[ZcY hk hw hq]at h;cases hc:tClose s (k+1) with
   | none=>rw[Zic hk hw hq hc];exact .inl rfl
   | some e=>rw[hc]at h;simp only at h;omega
  ·rw[ZcZ hk hw hq]at h;rw[ZgB hk hw hq];split at h
   ·rename_i h0;left;simp only;omega
   ·omega
 ·rw[Zct hk hw]at h;rw[ZfH hk hw,←ZbY hk hw];split at h
  ·rename_i h0;refine .inr (.inr ⟨?_,by simp only;omega⟩);simp only;split <;> simp
  ·omega
theorem Zp3 (hk:k<s.size)(h:0<=ZaI s k):¬SBad k (ZbL s k)/\ZbL s k=(cutKind s[k],ZaI s k):=by
 have hr:=Zb7 h;unfold SBad;cases hw:Zar s[k]
 ·have hd:Za3 s[k]=false:=by unfold Zar at hw;simp only[JD]at hw;exact hw.2
  have hl:Zb5 s[k]=false:=by unfold Zar at hw;simp only[JD]at hw;exact hw.1
  have nQ:cutKind s[k]=if s[k].toNat=34 then 3 else 4:=by unfold cutKind;rw[if_neg (by simp[hd]),if_neg (by simp[hl])]
  by_cases hq:s[k].toNat=34
  ·rw[nQ,if_pos hq];rw[ZcY hk hw hq]at h hr ⊢;cases hc:tClose s (k+1) with
   | none=>rw[hc]at h;exact absurd h (by decide)
   |
    some e =>
    have:=ZbA hc;rw[ZgS hk hw hq hc];refine⟨?_,rfl⟩;simp only;omega
  ·rw[nQ,if_neg hq];rw[ZcZ hk hw hq]at h hr ⊢;rw[ZgB hk hw hq];split at h
   ·omega
   ·rename_i h0;rw[if_neg h0]at hr ⊢;refine⟨?_,rfl⟩;simp only;omega
 ·have nQ:cutKind s[k]=if Zb5 s[k]=true then 1 else 2:=by
   unfold cutKind;cases hl:Zb5 s[k]
   ·have hd:Za3 s[k]=true:=(by unfold Zar at hw;rw[hl]at hw;simpa using hw);rw[if_pos hd];rfl
   ·rw[if_neg (by simp[let_dig hl]),if_pos rfl,if_pos rfl]
  rw[nQ];rw[Zct hk hw]at h hr ⊢;rw[ZfH hk hw,←ZbY hk hw];split at h
  ·omega
  ·rename_i h0;rw[if_neg h0]at hr ⊢;refine⟨?_,rfl⟩;simp only;split <;> omega
def toks (s:ByteArray)(k:Nat)(sp:Bool)(n:Nat):Option (List Tok):=
 if h:k<s.size then
  if s[k].toNat=32 then toks s (k+1) true n
  else if ZaI s k<0\/n=60 then none
  else (toks s (max (k+1) (ZaI s k).toNat) false (n+1)).map (⟨cutKind s[k],s.extract k (ZaI s k).toNat,sp,[]⟩::·)
 else some []
termination_by s.size-k
def AtT (s:ByteArray)(k:Nat)(sp:Bool)(out:List Tok):Prop:=(toks s k sp out.length).map (out++·)=toks s 0 false 0/\out.length<=60
theorem AtT.zero (s:ByteArray):AtT s 0 false []:=⟨by simp,by simp⟩
variable {sp:Bool}
theorem AtT.space {out:List Tok}(h:AtT s k sp out)(hk:k<s.size)(hc:s[k].toNat=32):AtT s (k+1) true out:=
 ⟨by rw[←h.1,toks.eq_def s k,dif_pos hk,if_pos hc],h.2⟩
theorem AtT.bad {out:List Tok}(h:AtT s k sp out)(hk:k<s.size)(hc:¬s[k].toNat=32)(hb:ZaI s k<0\/out.length=60):toks s 0 false 0=none:=by
 rw[←h.1,toks,dif_pos hk,if_neg hc,if_pos hb];rfl
theorem AtT.tok {k e:Nat}{out:List Tok}(h:AtT s k sp out)(hk:k<s.size)(hc:¬s[k].toNat=32)(he:ZaI s k=e)(hn:out.length≠60):AtT s e false (out++[⟨cutKind s[k],s.extract k e,sp,[]⟩]):=by
 have hr:=Zb7 (s:=s) (k:=k) (by omega);refine⟨?_,by have:=h.2;simp;omega⟩;rw[←h.1,toks.eq_def s k,dif_pos hk,if_neg hc,if_neg (by omega),he,Int.toNat_natCast,Nat.max_eq_right (by omega),Option.map_map];rw[QC];congr 1
 funext x;simp
theorem AtT.done {out:List Tok}(h:AtT s k sp out)(hk:s.size<=k):toks s 0 false 0=some out:=by
 rw[←h.1,toks,dif_neg (by omega)];simp
def Zau (s:ByteArray):List Tok × Bool:=if Za8 s=true then (match toks s 0 false 0 with | some l=>(l,true) | none=>([],false)) else ([],false)
theorem Zhn (h:Za8 s=false):Zau s=([],false):=by unfold Zau;rw[if_neg (by simp[h])]
theorem Zfv (h:toks s 0 false 0=none):Zau s=([],false):=by unfold Zau;rw[h];split <;> rfl
variable {l:List Tok}
theorem ZgT (h0:Za8 s=true)(h:toks s 0 false 0=some l):Zau s=(l,true):=by unfold Zau;rw[if_pos h0,h]
def Fresh (B:Nat)(l:List Tok):Prop:=∀t∈l,t.text.size<=B/\t.hidden=[]/\1<=t.kind/\t.kind<=4
theorem Zj2 (c:UInt8):1<=cutKind c/\cutKind c<=4:=by unfold cutKind;split <;> (try split) <;> (try split) <;> omega
theorem Fresh.nil (B:Nat):Fresh B []:=by intro t h;simp at h
theorem Fresh.snoc {B:Nat}{k e:Nat}{c:UInt8}(h:Fresh B l)(hB:s.size<=B):Fresh B (l++[⟨cutKind c,s.extract k e,sp,[]⟩]):=by
 intro t ht;rcases Qa ht with ht | ht
 ·exact h t ht
 ·have:=Zj2 c;obtain rfl:=Qm ht;exact⟨by show(s.extract k e).size<=B;rw[Ql];omega,rfl,this⟩
open Go.RowKit Go.ChangeShapes Go.WideShapes Go.Deep Go.Joins
def sTok:Shape Tok where
 m:=4
 R w cs d fp:=∃h,cs=[.int .i64 d.kind,.string d.text,.bool d.spaced,h]/\Zb3 d.kind/\ZaC d.text/\(Zaa sStr).R w [h] d.hidden fp
 frame:=by
  rintro w w' cs d fp hf⟨h,h1,h2,h3,h4⟩;exact⟨h,h1,h2,h3,(Zaa sStr).frame hf h4⟩
 lt:=by
  rintro w cs d fp⟨h,h1,h2,h3,h4⟩;exact(Zaa sStr).lt h4
theorem ti_tok:TI Tryz.prog 24 32 (.agg #[.int .i64 0,.string ⟨#[]⟩,.bool false,.slice none 0 0]) 4 56:=⟨by kernel_rfl,by kernel_rfl⟩
def Zco (t:Tok):List Value:=[.int .i64 t.kind,.string t.text,.bool t.spaced,.slice none 0 0]
def TokRow (base:Nat)(v:Value)(l:List Tok)(w:World):Prop:=w.ownsRow base 32 4 v l.length (l.flatMap Zco)
theorem TokRow.nil (base:Nat)(w:World):TokRow base (.slice none 0 0) [] w:=World.ownsRow_nil _ _ _ _
variable {base:Nat}
theorem TokRow.drew (h:TokRow base v l w)(n:Nat):TokRow base v l (w.drewN n):=h
theorem TokRow.slice (h:TokRow base v l w):∃a cap,v=.slice a l.length cap/\cap<=maxLen:=by
 rcases h.2 with⟨rfl,h0⟩ | ⟨g,cap,cur,rfl,_,_,_,hc,_⟩
 ·exact⟨none,0,by rw[h0],by simp⟩
 ·exact⟨_,cap,rfl,hc⟩
theorem TokRow.mine (h:TokRow base v l w):∀b,v.ownBlock=some b->base<=b:=λb hb=>(h.lt b hb).1
theorem ZhX {w0:World}{ops:Array Oper}{rest:List Oper}{o:Oper}{a:Act}{Q:Exit->Act->World->Prop}(hg:o.guard=none)(s y:Operand)
  (ho:o.op=.call { callee:=.builtin .append,args:=#[s,y],argTypes:=#[24,24] })
  (base:Nat) (v:Value) (l:List Tok) (k:Int) (x:ByteArray) (b:Bool) (hs:a.eval s=v) (ag:TokRow base v l w0) (hy:a.eval y=.slice (some ⟨w0.heap.size,0,none⟩) 1 1) (dz:l.length<=1000000) (aK:base<=w0.heap.size)
  (h:∀v' w',TokRow base v' (l++[⟨k,x,b,[]⟩]) w'->w0.grownBy w' v.ownBlock->wpList Tryz.prog ops Q rest (a.put o.dst v') w'):wpList Tryz.prog ops Q (o::rest) a (w0.alloc (.cells #[.int .i64 k,.string x,.bool b,.slice none 0 0] 32)):=by
 refine ZgA ti_tok rfl (by decide) w0 (l.flatMap Zco) [.int .i64 k,.string x,.bool b,.slice none 0 0] rfl (by simp[Value.oneCell']) hg s y ho base v l.length hs ag hy (by unfold maxLen;omega) (by omega) aK λv' w' h1 h2=>h v' w' ?_ h2;unfold TokRow;rw[QC,Qo];exact h1
theorem Zjr {B:Nat}(h:TokRow base v l w)(hf:Fresh B l)(hB:B<=1000000):
  ∃fp,(Zaa sTok).R w [v] l fp/\Own w base fp/\∀b∈fp,v.ownBlock=some b:=by
 have hL:(l.map λt=>(⟨Zco t,t,[]⟩:Elem Tok)).flatMap (·.cells)=l.flatMap Zco:=by rw[List.flatMap_map]
 have hF:(l.map λt=>(⟨Zco t,t,[]⟩:Elem Tok)).flatMap (·.fp)=[]:=by rw[List.flatMap_map];simp
 have hD:(l.map λt=>(⟨Zco t,t,[]⟩:Elem Tok)).map (·.d)=l:=by rw[List.map_map];exact List.map_id _
 obtain⟨fp,h1,h2,h3⟩:=Zbt (S:=sTok) (w:=w) (base:=base) (e:=32) (v:=v) (L:=l.map λt=>⟨Zco t,t,[]⟩) (by rw[hL,QH];exact h) (by
  intro x hx;obtain⟨t,ht,rfl⟩:=List.mem_map.1 hx;obtain⟨a1,a2,a3,a4⟩:=hf t ht;have b1:Zb3 t.kind:=⟨by omega,by omega⟩;have b2:ZaC t.text:=by unfold ZaC maxLen;omega
  have b3:(Zaa sStr).R w [.slice none 0 0] t.hidden []:=by rw[a2];exact Zao sStr w none 0 (by simp)
  exact⟨rfl,_,rfl,b1,b2,b3⟩)
 rw[hD]at h1;rw[hF]at h2 h3;exact⟨fp,h1,h3 (Own.nil _ _) (by simp),λb hb=>by rcases h2 b hb with h | h;exact h;simp at h⟩
def Zd3 (r:List Tok × Bool)(w:World)(e:Ending)(w':World):Prop:=
 ∃v fp,e=.returned (.tuple #[v,.bool r.2])/\(Zaa sTok).R w' [v] r.1 fp/\Own w' w.heap.size fp/\Below w.heap.size w w'
section
variable {H:Type}{enc:TypeId × Value->H}{P:Program}{w:World}{base:Nat}{spare:Nat->Bool}{held:Bool}
end
theorem Zab (w:World)(o:Obj):Below w.heap.size w (w.alloc o):=(QD _ _).alloc (QA _) _
variable {w:World}
theorem Zae {b off m i j:Nat}{es:List Value}{v:Value}(h:ElemAt w b off m i es)(hj:j<m)(hv:es[j]?=some v):w.cell? ⟨b,off+i*m+j,none⟩=some v:=(h.2 j hj).trans hv
theorem ZaB {b off m i:Nat}{es:List Value}{v:Value}(h:ElemAt w b off m i es)(hj:0<m)(hv:es[0]?=some v):w.cell? ⟨b,off+i*m,none⟩=some v:=(h.2 0 hj).trans hv
theorem Zai {g:Nat}{cs:Array Value}{t:TypeId}{fr:Nat × Nat}(h:w.heap[g]?=some (.cells cs t fr))(j:Nat)(v:Value):(w.setCell ⟨g,j,none⟩ v).heap[g]?=some (.cells (cs.setIfInBounds j v) t fr):=by
 simp[World.setCell,Array.getElem?_modify,h]
theorem ZaK {g g':Nat}{o:Obj}(h:w.heap[g]?=some o)(hn:g≠g')(j:Nat)(v:Value):(w.setCell ⟨g',j,none⟩ v).heap[g]?=some o:=
 (QV _ _ _ _ hn).trans h
def ZcL (w:World)(os:List Obj):World:=os.foldl World.alloc w
theorem Zi6 (os:List Obj):∀w:World,(ZcL w os).heap.toList=w.heap.toList++os:=by
 induction os with
 | nil=>intro w;simp[ZcL]
 |
  cons o os ih =>
  intro w;show(ZcL (w.alloc o) os).heap.toList=_;rw[ih];show(w.heap.push o).toList++os=_;simp
theorem ZgU (w:World)(os:List Obj):(ZcL w os).heap.size=w.heap.size+os.length:=by
 have:=JY List.length (Zi6 os w);simpa using this
theorem Zho (w:World)(os:List Obj)(j:Nat)(hj:j<os.length):(ZcL w os).heap[w.heap.size+j]?=some os[j]:=by
 rw[←Array.getElem?_toList,Zi6,List.getElem?_append_right (by simp)];simp[QJ hj]
theorem ZeO {B:Nat}{w0:World}(os:List Obj):∀w:World,Below B w0 w->B<=w.heap.size->Below B w0 (ZcL w os):=by
 induction os with
 | nil=>intro w h _;exact h
 |
  cons o os ih =>
  intro w h hs;exact ih (w.alloc o) (h.alloc hs o) (by show B<=(w.heap.push o).size;simp;omega)
theorem ZfV (w:World)(c0 c1 c2:Array Value)(t0 t1 t2:TypeId):
  (((w.alloc (.cells c0 t0)).alloc (.cells c1 t1)).alloc (.cells c2 t2)).heap[w.heap.size+1]?=some (.cells c1 t1 (0,0)) /\
  (((w.alloc (.cells c0 t0)).alloc (.cells c1 t1)).alloc (.cells c2 t2)).heap[w.heap.size+1+1]?=some (.cells c2 t2 (0,0)) /\
  (((w.alloc (.cells c0 t0)).alloc (.cells c1 t1)).alloc (.cells c2 t2)).heap.size=w.heap.size+1+1+1:=by
 refine⟨?_,?_,?_⟩
 ·show(((w.heap.push _).push _).push _)[_]?=_;rw[Array.getElem?_push,if_neg (by simp),Array.getElem?_push,if_pos (by simp)]
 ·show(((w.heap.push _).push _).push _)[_]?=_;rw[Array.getElem?_push,if_pos (by simp)]
 ·show(((w.heap.push _).push _).push _).size=_;simp
theorem Zj3 (w:World)(c0 c1 c2:Array Value)(t0 t1 t2:TypeId):Below w.heap.size w (((w.alloc (.cells c0 t0)).alloc (.cells c1 t1)).alloc (.cells c2 t2)):=
 (((QD _ _).alloc (QA _) _).alloc (by simp) _).alloc (by simp;omega) _
structure Turned (b lo hi:Nat)(fp:List Nat)(w w':World):Prop where
 kept:Kept (b::fp) w w'
 cells:∀o,(o<lo\/hi<=o)->w'.cell? ⟨b,o,none⟩=w.cell? ⟨b,o,none⟩
section
variable {b lo hi:Nat}{fp:List Nat}{w w1 w2:World}
theorem Turned.refl (b lo hi:Nat)(fp:List Nat)(w:World):Turned b lo hi fp w w:=⟨Kept.refl _ _,λ_ _=>rfl⟩
theorem Turned.set (h:Turned b lo hi fp w w1){o:Nat}(h1:lo<=o)(h2:o<hi)(v:Value):Turned b lo hi fp w (w1.setCell ⟨b,o,none⟩ v):=
 ⟨h.kept.setCell (p:=⟨b,o,none⟩) (by simp) v,λo' ho=>by
  rw[World.cell?_setCell_other _ _ _ _ (by intro hh;simp only[Addr.mk.injEq]at hh;omega)]
  exact h.cells o' ho⟩
theorem Turned.below (h:Turned b lo hi fp w w1)(hb:b<w.heap.size)(hB:Below w1.heap.size w1 w2):Turned b lo hi fp w w2:=
 ⟨h.kept.trans (Kept.of_below hB),λo ho=>(hB.cell (p:=⟨b,o,none⟩) (QW hb h.kept.size)).trans (h.cells o ho)⟩
theorem Turned.sub (h:Turned b lo hi fp w w1)(hb:b<w.heap.size)(hk:Kept fp w1 w2)(hn:b∉fp):Turned b lo hi fp w w2:=
 ⟨h.kept.trans (hk.mono λx hx=>by simp[hx]),λo ho=>(Qu (a:=⟨b,o,none⟩) (hk.block b (QW hb h.kept.size) hn)).trans (h.cells o ho)⟩
theorem Turned.sub' {fp':List Nat}(h:Turned b lo hi fp w w1)(hb:b<w.heap.size)(hk:Kept fp' w1 w2)(hs:∀x∈fp',x∈fp)(hn:b∉fp):Turned b lo hi fp w w2:=
 h.sub hb (hk.mono hs) hn
end
theorem Own.part {w w':World}{lo:Nat}{fp fp':List Nat}(h:Own w lo fp)(hk:Kept fp' w w')(h':Own w' lo fp'):Own w' lo fp:=
 ⟨h.1,λb hb=>by
  by_cases hx:b∈fp'
  ·exact h'.2 b hx
  ·obtain⟨h1,cur,e,h2⟩:=h.2 b hb
   exact⟨h1,cur,e,(hk.block b (Qg h2).1 hx).trans h2⟩⟩
variable {w:World}
theorem Own.lower {lo lo':Nat}{fp:List Nat}(h:Own w lo fp)(hl:lo'<=lo):Own w lo' fp:=⟨h.1,λb hb=>⟨QZ hl (h.2 b hb).1,(h.2 b hb).2⟩⟩
theorem Own.sub {lo:Nat}{fp fp':List Nat}(h:Own w lo fp)(hn:fp'.Nodup)(hs:∀x∈fp',x∈fp):Own w lo fp':=⟨hn,λb hb=>h.2 b (hs b hb)⟩
theorem ElemAt.set {b off m i:Nat}{es:List Value}(h:ElemAt w b off m i es){j:Nat}(hj:j<m)(v:Value):ElemAt (w.setCell ⟨b,off+i*m+j,none⟩ v) b off m i (es.set j v):=by
 refine⟨by simpa using h.1,λx hx=>?_⟩;by_cases e:x=j
 ·subst e;rw[List.getElem?_set_self (by have:=h.1;omega)];obtain⟨u,hu⟩:∃u,w.cell? ⟨b,off+i*m+x,none⟩=some u:=⟨es[x]'(by have:=h.1;omega),by rw[h.2 x hx,QJ]⟩;exact World.cell?_setCell_same _ _ _ hu
 ·rw[List.getElem?_set_ne (λh=>e h.symm),World.cell?_setCell_other _ _ _ _ (by intro hh;simp only[Addr.mk.injEq]at hh;omega)];exact h.2 x hx
structure Wr (b off m j lo:Nat)(fpj fpA:List Nat)(wr W:World)(es:List Value):Prop where
 t:Turned b (off+j*m) (off+j*m+m) fpj wr W
 e:ElemAt W b off m j es
 o:Own W lo fpA
 hb:b<wr.heap.size
 hA:b∈fpA
 hN:b∉fpj
section
variable {b off m j lo:Nat}{fpj fpA:List Nat}{wr W W':World}{es:List Value}
theorem Wr.set (h:Wr b off m j lo fpj fpA wr W es)(i:Nat)(hi:i<m)(v:Value):Wr b off m j lo fpj fpA wr (W.setCell ⟨b,off+j*m+i,none⟩ v) (es.set i v):=
 ⟨h.t.set (by omega) (by omega) v,h.e.set hi v,h.o.setCell _ _,h.hb,h.hA,h.hN⟩
theorem Wr.below (h:Wr b off m j lo fpj fpA wr W es)(hB:Below W.heap.size W W'):Wr b off m j lo fpj fpA wr W' es:=
 ⟨h.t.below h.hb hB,h.e.frame (hB.block b (QW h.hb h.t.kept.size)),h.o.grow hB,h.hb,h.hA,h.hN⟩
theorem Wr.sub {fp':List Nat}(h:Wr b off m j lo fpj fpA wr W es)(hk:Kept fp' W W')(ho:Own W' lo fp')(hs:∀x∈fp',x∈fpj):Wr b off m j lo fpj fpA wr W' es:=
 ⟨h.t.sub' h.hb hk hs h.hN,h.e.frame (hk.block b (QW h.hb h.t.kept.size) λhx=>h.hN (hs b hx)),h.o.part hk ho,h.hb,h.hA,h.hN⟩
theorem Wr.cell (h:Wr b off m j lo fpj fpA wr W es)(i:Nat){v:Value}(hi:i<m)(hv:es[i]?=some v):W.cell? ⟨b,off+j*m+i,none⟩=some v:=Zae h.e hi hv
theorem Wr.frozen (h:Wr b off m j lo fpj fpA wr W es)(o:Nat):W.frozen? ⟨b,o,none⟩=false:=h.o.frozen h.hA o
theorem Shape.setB {α:Type}(S:Shape α){cs:List Value}{d:α}{fp:List Nat}{b:Nat}(h:S.R W cs d fp)(hn:b∉fp)(o:Nat)(v:Value):S.R (W.setCell ⟨b,o,none⟩ v) cs d fp:=
 S.kept (fp:=[b]) h (λx hx he=>by rw[JA]at he;exact hn (he ▸ hx)) ((Kept.refl _ _).setCell (p:=⟨b,o,none⟩) (by simp) v)
end
def ZiL {α:Type}(f:Int->α->α)(c:α->Nat):Int->List α->List α
 | _,[]=>[]
 | k,x::l=>f k x::ZiL f c (k+c x) l
def Zg3 {α:Type}(c:α->Nat)(l:List α):Nat:=(l.map c).sum
section
variable {α:Type}{f:Int->α->α}{c:α->Nat}
theorem Zid:∀(k:Int) (l:List α),(ZiL f c k l).length=l.length
 | _,[]=>rfl
 | k,x::l=>by simp[ZiL,Zid (k+c x) l]
theorem ZlM:∀{l:List α} (k:Int) (j:Nat) (h:j<l.length),(ZiL f c k l)[j]'(by rw[Zid];exact h)=f (k+Zg3 c (l.take j)) l[j]
 | [],_,_,h=>by simp at h
 | x::l,k,0,_=>by simp[ZiL,Zg3]
 |
  x::l,k,j+1,h=>by
  have ih:=ZlM (l:=l) (k+c x) j (by simpa using h);have e:k+(c x:Int)+(Zg3 c (l.take j):Int)=k+(Zg3 c ((x::l).take (j+1)):Int):=by
   simp only[Zg3,List.take_succ_cons,QL,List.sum_cons];omega
  rw[e]at ih;exact ih
def MkUpto (f:Int->α->α)(c:α->Nat)(k:Int)(l:List α)(j:Nat)(L:List α):Prop:=
 L.length=l.length/\∀i,(h:i<L.length)->(h':i<l.length)->L[i]=if i<j then f (k+Zg3 c (l.take i)) l[i] else l[i]
theorem MkUpto.len {k:Int}{l L:List α}{j:Nat}(h:MkUpto f c k l j L):L.length=l.length:=h.1
theorem MkUpto.at {k:Int}{l L:List α}{j:Nat}(h:MkUpto f c k l j L)(hj:j<l.length):L[j]'(by rw[h.1];exact hj)=l[j]:=by
 rw[h.2 j (by rw[h.1];exact hj) hj,if_neg (by omega)]
theorem MkUpto.done {k:Int}{l L:List α}{j:Nat}(h:MkUpto f c k l j L)(hj:l.length<=j):L=ZiL f c k l:=by
 refine List.ext_getElem (by rw[Zid,h.1]) λi h1 h2=>?_;have hl:i<l.length:=by rw[←h.1];exact h1
 rw[h.2 i h1 hl,if_pos (by omega),ZlM k i hl]
end
theorem Zdj (w:World)(c0 c1:Array Value)(t0 t1:TypeId):
  ((w.alloc (.cells c0 t0)).alloc (.cells c1 t1)).heap[w.heap.size]?=some (.cells c0 t0 (0,0)) /\
  ((w.alloc (.cells c0 t0)).alloc (.cells c1 t1)).heap[w.heap.size+1]?=some (.cells c1 t1 (0,0)):=by
 refine⟨?_,?_⟩
 ·show((w.heap.push _).push _)[_]?=_;rw[Array.getElem?_push,if_neg (by simp),Array.getElem?_push,if_pos rfl]
 ·show((w.heap.push _).push _)[_]?=_;rw[Array.getElem?_push,if_pos (by simp)]
def Zgc (w:World)(b:Nat):Nat->List Value->World
 | _,[]=>w
 | o,c::cs=>Zgc (w.setCell ⟨b,o,none⟩ c) b (o+1) cs
def Zch:List Value->Nat->List Value->List Value
 | xs,_,[]=>xs
 | xs,o,c::cs=>Zch (xs.set o c) (o+1) cs
theorem Zcu:∀(cs A Z R:List Value),Z.length=cs.length->Zch (A++(Z++R)) A.length cs=A++(cs++R)
 |
  [],A,Z,R,h=>by
  have:Z=[]:=by simpa using h
  subst this;simp[Zch]
 | c::cs,A,[],R,h=>by simp at h
 |
  c::cs,A,z::Z,R,h=>by
  unfold Zch;have e:(A++(z::Z++R)).set A.length c=(A++[c])++(Z++R):=by simp
  rw[e];have e2:A.length+1=(A++[c]).length:=by simp
  rw[e2,Zcu cs (A++[c]) Z R (by simpa using h)];simp
theorem ZcM {base e size n cap g:Nat}:∀(cs:List Value) (w:World) (xs:List Value) (o:Nat),w.ownsRow base e size (.slice (some ⟨g,0,none⟩) n cap) n xs ->
  (Zgc w g o cs).ownsRow base e size (.slice (some ⟨g,0,none⟩) n cap) n (Zch xs o cs)
 | [],_,_,_,h=>h
 | c::cs,w,xs,o,h=>ZcM cs _ _ (o+1) (h.stored o c).1
theorem Zcv {g:Nat}:∀(cs:List Value) (w:World) (o:Nat),Kept [g] w (Zgc w g o cs)
 | [],w,_=>Kept.refl _ w
 | c::cs,w,o=>((Kept.refl [g] w).setCell (p:=⟨g,o,none⟩) (by simp) c).trans (Zcv cs _ (o+1))
structure Filling {α:Type}(S:Shape α)(g:Nat)(e:TypeId)(l:List α)(k:Nat)(w:World)(L:List (Elem α))(R:List Value):Prop where
 row:w.ownsRow g e S.m (.slice (some ⟨g,0,none⟩) l.length l.length) l.length (L.flatMap (·.cells)++R)
 dat:L.map (·.d)=l.take k
 len:∀x∈L,x.cells.length=S.m
 el:∀x∈L,S.R w x.cells x.d x.fp
 own:Own w (g+1) (L.flatMap (·.fp))
section
variable {α:Type}{S:Shape α}{g e:Nat}{l:List α}{k:Nat}{w w':World}{L:List (Elem α)}{R:List Value}
theorem Filling.count (h:Filling S g e l k w L R)(hk:k<=l.length):L.length=k:=by
 have:=JY List.length h.dat;simpa[hk]using this
theorem Filling.cells (h:Filling S g e l k w L R)(hk:k<=l.length):(L.flatMap (·.cells)).length=k*S.m:=by rw[ZaR h.len,h.count hk]
theorem Filling.rest (h:Filling S g e l k w L R)(hk:k<=l.length):R.length=(l.length-k)*S.m:=by
 have h1:=h.row.1;rw[QC,h.cells hk]at h1;have:(l.length-k)*S.m=l.length*S.m-k*S.m:=Nat.sub_mul _ _ _;omega
theorem Filling.lt (h:Filling S g e l k w L R):g<w.heap.size:=(h.row.lt g rfl).2
theorem Filling.below (h:Filling S g e l k w L R)(hb:Below w.heap.size w w'):Filling S g e l k w' L R where
 row:=by
  refine⟨h.row.1,?_⟩;rcases h.row.2 with h0 | ⟨g',cap,cur,h1,h2,h3,h4⟩
  ·exact .inl h0
  ·exact .inr ⟨g',cap,cur,h1,h2,(hb.block g' (Qg h3).1).trans h3,h4⟩
 dat:=h.dat
 len:=h.len
 el:=λx hx=>S.below (h.el x hx) hb
 own:=h.own.grow hb
theorem Filling.cell (h:Filling S g e l k w L R)(hk:k<l.length){j:Nat}(hj:j<S.m):∃u,w.cell? ⟨g,k*S.m+j,none⟩=some u:=by
 have h1:(k+1)*S.m<=l.length*S.m:=Nat.mul_le_mul_right _ hk;rw[Nat.succ_mul]at h1;rw[h.row.cellAt (k*S.m+j) (by omega),List.getElem?_append_right (by rw[h.cells (by omega)];omega),h.cells (by omega)];have h2:=h.rest (by omega);have h3:(l.length-k)*S.m=l.length*S.m-k*S.m:=Nat.sub_mul _ _ _;exact⟨R[k*S.m+j-k*S.m]'(by omega),QJ _⟩
theorem Filling.frozen (h:Filling S g e l k w L R)(o:Nat):w.frozen? ⟨g,o,none⟩=false:=h.row.frozenAt o
theorem Filling.next {cs:List Value}{fp:List Nat}{w0:World}(h0:Filling S g e l k w0 L R)(hk:k<l.length)(hb:Below w0.heap.size w0 w)(bE:cs.length=S.m)(hR:S.R w cs l[k] fp)(ho:Own w w0.heap.size fp):
  ∃R',Filling S g e l (k+1) (Zgc w g (k*S.m) cs) (L++[⟨cs,l[k],fp⟩]) R':=by
 have h:=h0.below hb;have hg0:=h0.lt;have lg:∀x∈L,∀b∈x.fp,b∈L.flatMap (·.fp):=λx hx b aE=>QO.2 ⟨x,hx,aE⟩;have hn:∀b∈L.flatMap (·.fp),b∉[g]:=λb aE=>by have:=(h.own.2 b aE).1;simp;omega
 have jB:∀b∈fp,b∉[g]:=λb aE=>by have:=(ho.2 b aE).1;simp;omega
 have hK:=Zcv (g:=g) cs w (k*S.m);have hr:=h.rest (by omega);have iD:(l.length-k)*S.m=S.m+(l.length-(k+1))*S.m:=by rw[show l.length-k=(l.length-(k+1))+1 by omega,Nat.succ_mul];omega
 refine⟨R.drop S.m,⟨?_,?_,λx hx=>?_,λx hx=>?_,?_⟩⟩
 ·have:=ZcM cs w _ (k*S.m) h.row;have e1:L.flatMap (·.cells)++R=L.flatMap (·.cells)++(R.take S.m++R.drop S.m):=by rw[List.take_append_drop]
  rw[e1,←h.cells (by omega),Zcu cs _ (R.take S.m) (R.drop S.m) (by rw[Qd,bE];omega)]at this;rw[Qo,Qw,List.flatMap_nil,Q5,Qn,←h.cells (by omega)];exact this
 ·rw[QG,h.dat,Qb hk];rfl
 ·rcases Qa hx with hx | hx
  ·exact h.len x hx
  ·obtain rfl:=Qm hx;exact bE
 ·rcases Qa hx with hx | hx
  ·exact S.kept (h.el x hx) (λb aE=>hn b (lg x hx b aE)) hK
  ·obtain rfl:=Qm hx;exact S.kept hR jB hK
 ·rw[Qo,Qw,List.flatMap_nil,Q5];refine Own.app (h.own.kept hn hK) ((Own.lower ho (by omega)).kept jB hK) λb aG aF=>?_;have h1:=(ho.2 b aF).1;have h2:=h0.own.lt b aG;omega
theorem Filling.done (h:Filling S g e l k w L R)(hk:l.length=k):∃fp,(Zaa S).R w [.slice (some ⟨g,0,none⟩) l.length l.length] l fp/\Own w g fp:=by
 have hc:=h.count (by omega);have hr:R=[]:=by
  have:=h.rest (by omega);rw[hk,Nat.sub_self,Nat.zero_mul]at this;exact QU.1 this
 have hd:=h.dat;rw[Qe (by omega)]at hd;have ai:=h.row;rw[hr,Q5]at ai;have hL:L.length=l.length:=by omega
 rw[←hL]at ai;obtain⟨fp,h1,h2,h3⟩:=Zbt ai (λx hx=>⟨h.len x hx,h.el x hx⟩);rw[hd,hL]at h1
 exact⟨fp,h1,h3 (Own.lower h.own (by omega)) (λg' mz hx=>by
  simp only[Value.ownBlock,Qi]at mz;have:=(h.own.2 g' hx).1
  omega)⟩
end
theorem Zfw (w:World)(c0 c1 c2:Array Value)(t0 t1 t2:TypeId):
  (((w.alloc (.cells c0 t0)).alloc (.cells c1 t1)).alloc (.cells c2 t2)).heap[w.heap.size]?=some (.cells c0 t0 (0,0)):=by
 show(((w.heap.push _).push _).push _)[_]?=_;rw[Array.getElem?_push,if_neg (by simp;omega),Array.getElem?_push,if_neg (by simp),Array.getElem?_push,if_pos rfl]
theorem Zgd (w:World)(p:Addr)(v:Value):(w.setCell p v).heap.size=w.heap.size:=by simp[World.setCell]
end Go.Proofs.YtipfpppcbmpjiaaGreat
