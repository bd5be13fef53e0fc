/- Texts that the proof of P stands on, in one file. -/
import Derived.Test.YtiaiggjfepoahaaGreatZP1
import Derived.Deep.Slices
import Derived.Lib.Index
import Derived.Lib.Strings
import Derived.Outline
import Derived.Deep.Fields
import Derived.ChangeSame
import Derived.Lib.SmallJoins
set_option linter.unusedVariables false
set_option maxHeartbeats 16000000
set_option maxRecDepth 100000
set_option linter.unusedSimpArgs false
/- Arguments, opened: what can be read as data of a type reads as our shape. -/
namespace Go.Proofs.YtiaiggjfepoahaaGreat
open Go.ChangeShapes Go.WideShapes Go.RowKit
section
variable {H:Type} {enc:TypeId × Value->H} {P:Program} {w:World} {base:Nat} {spare:Nat->Bool} {held:Bool}
def Opens (enc:TypeId × Value->H) (P:Program) (w:World) (base:Nat) (spare:Nat->Bool) (held:Bool) (t:TypeId) {α:Type} (S:Shape α):Prop:=
 ∀ fuel cs x,DataW.trod enc P w base spare held fuel t cs=some x->∃ d fp,S.R w cs d fp
theorem Zmu {t:TypeId} (ht:P.underlying t=some (.int .u8)):Opens enc P w base spare held t sByte:=by
 intro fuel cs x h
 obtain⟨n,rfl,_,hw⟩:=DataW.trod_int ht h
 have:0<=n/\n<=255:=by simpa [Lit.wf,IntKind.min,IntKind.max,IntKind.signed,IntKind.bits] using hw
 refine ⟨UInt8.ofNat n.toNat,[],?_,trivial,rfl⟩
 show [Value.int .u8 n]=[Value.int .u8 ((UInt8.ofNat n.toNat).toNat:Int)]
 rw [UInt8.toNat_ofNat_of_lt' (by simp [UInt8.size];omega)]
 congr 2;omega
theorem ZaI (b off n:Nat):Addr.add ⟨b,off,none⟩ n=⟨b,off+n,none⟩:=by
 unfold Addr.add;split
 ·rename_i h;subst h;rfl
 ·rfl
theorem Zls {t e:TypeId} {α:Type} {S:Shape α} (ht:P.underlying t=some (.slice e)) (hm:P.cellsOf e=S.m) (h0:0<S.m) (he:Opens enc P w base spare held e S):Opens enc P w base spare held t (Zaa S):=by
 intro fuel cs x h
 rcases DataW.trod_slice ht h with⟨rfl,_⟩ | ⟨a,len,cap,elems,rest,n,_,rfl,_,hb,hl,hc,hlen,hel,_,_⟩
 ·exact⟨[],[],none,0,rfl,by simp,by simp,.inl ⟨rfl,rfl⟩⟩
 ·have each:∀ i,i<len->∃ es d fp,(es.length=S.m/\∀ j,j<S.m->w.cell? (a.add (i * S.m+j))=es[j]?)/\S.R w es d fp:=by
   intro i hi
   have h1:=hel i hi
   rw [List.getElem?_eq_getElem (by omega),Option.bind_eq_some_iff] at h1
   obtain⟨es,h2,h3⟩:=h1
   rw [hm] at h2
   obtain⟨_,h4,h5⟩:=World.cells?_some h2
   obtain⟨d,fp,h6⟩:=he _ _ _ h3
   refine ⟨es,d,fp,⟨h4,λ j hj=>?_⟩,h6⟩
   rw [← h5 j hj,Go.Deep.add_add]
  by_cases hz:len=0
  ·subst hz
   exact⟨[],[],some a,cap,rfl,hl,hc,.inl ⟨rfl,rfl⟩⟩
  ·have hsp:a.spot=none:=by
    obtain⟨es,d,fp,⟨h1,h2⟩,_⟩:=each 0 (by omega)
    have h3:=h2 0 h0
    rw [List.getElem?_eq_getElem (by omega)] at h3
    have e0:a.add (0 * S.m+0)=a:=by simp [Addr.add]
    rw [e0] at h3
    unfold World.cell? at h3
    split at h3
    ·split at h3
     ·simp at h3
     ·rename_i hh;simpa using hh
    ·simp at h3
   obtain⟨b,off,sp⟩:=a
   simp at hsp
   subst hsp
   have hblk:b<w.heap.size:=by
    obtain⟨es,d,fp,⟨h1,h2⟩,_⟩:=each 0 (by omega)
    have h3:=h2 0 h0
    rw [List.getElem?_eq_getElem (by omega),ZaI] at h3
    exact World.block_lt_of_cell? w _ h3
   have hch:∀ i:Nat,∃ y:α × List Nat,i<len->∃ es,ElemAt w b off S.m i es/\S.R w es y.1 y.2:=by
    intro i
    by_cases hi:i<len
    ·obtain⟨es,d,fp,⟨h1,h2⟩,h3⟩:=each i hi
     refine ⟨(d,fp),λ _=>⟨es,⟨h1,λ j hj=>?_⟩,h3⟩⟩
     rw [← h2 j hj,ZaI,Nat.add_assoc]
    ·obtain⟨es,d,fp,_,_⟩:=each 0 (by omega)
     exact⟨(d,fp),λ h=>absurd h hi⟩
   let Y:=λ i=>Classical.choose (hch i)
   have hY:∀ i,i<len->∃ es,ElemAt w b off S.m i es/\S.R w es (Y i).1 (Y i).2:=λ i hi=>Classical.choose_spec (hch i) hi
   have hL:((List.range len).map λ i=>(Y i).1).length=len:=by simp
   refine ⟨(List.range len).map λ i=>(Y i).1,b::(List.range len).flatMap λ i=>(Y i).2,some ⟨b,off,none⟩,cap,by rw [hL],by rw [hL];exact hl,hc,.inr ⟨by rw [hL];omega,b,off,λ i=>(Y i).2,rfl,by rw [hL],hblk,λ i hi=>?_⟩⟩
   rw [hL] at hi
   obtain⟨es,h1,h2⟩:=hY i hi
   exact⟨es,h1,by simpa using h2⟩
theorem open_arg {t:TypeId} {α:Type} {S:Shape α} {v:Value} {d:DataW H} {p:List MemPlace} (ho:Opens enc P w base spare held t S) (h:DataW.Trod enc P w base spare held t v d p):∃ x fp,S.R w v.cells.toList x fp:=by
 obtain⟨fuel,hf⟩:=h
 exact ho fuel _ _ hf
end
open Go.RowKit
theorem Zex {P:Program} {t e:TypeId} {z:Value} {size bytes:Nat} (ti:TI P t e z size bytes) (hzs:z.cells.size=size) (h0:0<size) (w0:World) (xs:List Value) (x:List Value) (hxl:x.length=size) (hx1:∀ u∈x,u.oneCell'=true) {ops:Array Oper} {rest:List Oper} {o:Oper} {a:Act} {Q:Exit->Act->World->Prop}
  (hg:o.guard=none) (s y:Operand) (ho:o.op=.call { callee:=.builtin .append,args:=#[s,y],argTypes:=#[t,t] })
  (base:Nat) (v:Value) (n:Nat) (hs:a.eval s=v) (hown:w0.ownsRow base e size v n xs)
  (hy:a.eval y=.slice (some ⟨w0.heap.size,0,none⟩) 1 1)
  (h63:n+1<=maxLen) (hbytes:(n+1) * bytes<=140737488355328) (hbase:base<=w0.heap.size)
  (h:∀ v' w',w'.ownsRow base e size v' (n+1) (xs++x)->w0.grownBy w' v.ownBlock->wpList P ops Q rest (a.put o.dst v') w'):wpList P ops Q (o::rest) a (w0.alloc (.cells x.toArray e)):=by
 obtain⟨i,hi,hz0,hz1,hz2⟩:=info_parts ti.2
 refine wpList_append_own _ hg s y t ho base e i z size bytes ti.1 hi hz0 hz1 hz2 hzs h0 v n xs hs (hown.alloc _) ⟨w0.heap.size,0,none⟩ 1 1 x hy (by omega) ?_ hx1 h63 hbytes (by simp;omega) λ v' w' a b _=>h v' w' a (ZdF (World.grownBy_alloc _ _ _) b)
 intro j u hj
 rw [ZaI,Nat.zero_add]
 rw [World.cell?_alloc_at _ _ _ _ rfl]
 simpa using hj
theorem Zbu {α:Type} {f:α->List Value} {m:Nat}:∀ {L:List α} (_:∀ x∈L,(f x).length=m) {i:Nat} (hi:i<L.length) {j:Nat} (_:j<m),(L.flatMap f)[i * m+j]?=(f L[i])[j]?
 | [],_,i,hi,_,_=>by simp at hi
 |
  x::L,hL,0,_,j,hj=>by
  rw [List.flatMap_cons,List.getElem?_append_left (by rw [hL x (by simp)];omega)]
  simp
 |
  x::L,hL,i+1,hi,j,hj=>by
  have hx:=hL x (by simp)
  have e:(i+1) * m+j=m+(i * m+j):=by rw [Nat.succ_mul];omega
  rw [List.flatMap_cons,List.getElem?_append_right (by rw [hx,e];omega),hx,e,Nat.add_sub_cancel_left]
  exact Zbu (λ y hy=>hL y (by simp [hy])) (by simpa using hi) hj
theorem ZaB {α:Type} {f:α->List Value} {m:Nat}:∀ {L:List α},(∀ x∈L,(f x).length=m)->(L.flatMap f).length=L.length * m
 | [],_=>by simp
 | x::L,hL=>by rw [List.flatMap_cons,List.length_append,hL x (by simp),ZaB (λ y hy=>hL y (by simp [hy])),List.length_cons,Nat.succ_mul,Nat.add_comm]
structure Elem (α:Type) where
 cells:List Value
 d:α
 fp:List Nat
theorem Zmv {L:List (List Nat)}:(List.range L.length).flatMap (λ i=>L.getD i [])=L.flatten:=by
 have:(List.range L.length).map (λ i=>L.getD i [])=L:=by
  apply List.ext_getElem (by simp)
  intro i h1 h2
  simp [List.getD_eq_getElem?_getD,List.getElem?_eq_getElem h2]
 rw [List.flatMap_def,this]
theorem ZaM {α:Type} {S:Shape α} {w:World} {base e:Nat} {v:Value} {L:List (Elem α)} (h:w.ownsRow base e S.m v L.length (L.flatMap (·.cells))) (hR:∀ x∈L,x.cells.length=S.m/\S.R w x.cells x.d x.fp) :
  ∃ fp,(Zaa S).R w [v] (L.map (·.d)) fp/\(∀ b∈fp,v.ownBlock=some b\/b∈L.flatMap (·.fp)) /\
   (Own w base (L.flatMap (·.fp))->(∀ g,v.ownBlock=some g->g∉L.flatMap (·.fp))->Own w base fp):=by
 by_cases h0:L=[]
 ·subst h0
  rcases h.2 with⟨rfl,_⟩ | ⟨g,cap,cur,rfl,hb,hg,hnc,hcm,hcs,htake⟩
  ·exact⟨[],⟨none,0,rfl,by simp,by simp,.inl ⟨rfl,rfl⟩⟩,by simp,λ _ _=>Own.nil _ _⟩
  ·exact⟨[],⟨_,cap,rfl,by simp,hcm,.inl ⟨rfl,rfl⟩⟩,by simp,λ _ _=>Own.nil _ _⟩
 ·have hpos:0<L.length:=List.length_pos_iff.2 h0
  rcases h.2 with⟨_,h1⟩ | ⟨g,cap,cur,rfl,hb,hg,hnc,hcm,hcs,htake⟩
  ·omega
  ·have hlt:g<w.heap.size:=(Qg hg).1
   have e1:(List.range L.length).flatMap (λ i=>(L.map (·.fp)).getD i [])=L.flatMap (·.fp):=by
    have:=Zmv (L:=L.map (·.fp))
    rw [List.length_map] at this
    rw [this,List.flatMap_def]
   refine ⟨g::L.flatMap (·.fp),⟨_,cap,by simp,by simpa using hnc,hcm,.inr ⟨by simpa using hpos,g,0,λ i=>(L.map (·.fp)).getD i [],rfl,by rw [List.length_map,e1],hlt,λ i hi=>?_⟩⟩,?_,?_⟩
   ·have hi':i<L.length:=by simpa using hi
    have hx:=hR L[i] (List.getElem_mem hi')
    refine ⟨L[i].cells,⟨hx.1,λ j hj=>?_⟩,?_⟩
    ·rw [Nat.zero_add,h.cellAt (i * S.m+j) (by have:(i+1) * S.m<=L.length * S.m:=Nat.mul_le_mul_right _ hi';rw [Nat.succ_mul] at this;omega)]
     exact Zbu (f:=Elem.cells) (λ x hx=>(hR x hx).1) hi' hj
    ·have e2:(L.map (·.fp)).getD i []=L[i].fp:=by simp [List.getD_eq_getElem?_getD,List.getElem?_eq_getElem hi']
     show S.R w L[i].cells (L.map (·.d))[i] ((L.map (·.fp)).getD i [])
     rw [e2]
     simpa using hx.2
   ·intro b hb'
    rcases List.mem_cons.1 hb' with rfl | hb'
    ·exact .inl rfl
    ·exact .inr hb'
   ·intro ho hn
    exact⟨List.nodup_cons.2 ⟨hn g rfl,ho.1⟩,λ b hb'=>by
     rcases List.mem_cons.1 hb' with rfl | hb'
     ·exact⟨hb,cur,e,hg⟩
     ·exact ho.2 b hb'⟩
theorem Zac {α:Type} {S:Shape α} {w:World} {v:Value} {l:List α} {fp:List Nat} (H:(Zaa S).R w [v] l fp) :
  ∃ a cap,v=.slice a l.length cap/\l.length<=cap/\cap<=maxLen/\(0<l.length->∃ b off fps,a=some ⟨b,off,none⟩/\b<w.heap.size/\fp=b::(List.range l.length).flatMap fps/\∀ i,(hi:i<l.length)->∃ es,ElemAt w b off S.m i es/\S.R w es l[i] (fps i)):=by
 obtain⟨a,cap,hv,hc,hm,h⟩:=H
 refine ⟨a,cap,by simpa using hv,hc,hm,λ h0=>?_⟩
 rcases h with⟨rfl,_⟩ | ⟨_,b,off,fps,rfl,rfl,hb,he⟩
 ·simp at h0
 ·exact⟨b,off,fps,rfl,hb,rfl,he⟩
def tEnd (s:ByteArray) (k:Nat):Nat:=
 if h:k<s.size then (if s[k].toNat=34 then k+1 else if s[k].toNat=92 then tEnd s (k+2) else tEnd s (k+1)) else s.size
termination_by s.size-k
theorem ZcX {s:ByteArray} {k:Nat} (h:k<s.size) (hc:s[k].toNat=34):tEnd s k=k+1:=by rw [tEnd,dif_pos h,if_pos hc]
theorem ZcO {s:ByteArray} {k:Nat} (h:k<s.size) (hc:s[k].toNat=92):tEnd s k=tEnd s (k+2):=by rw [tEnd,dif_pos h,if_neg (by omega),if_pos hc]
theorem Zcl {s:ByteArray} {k:Nat} (h:k<s.size) (h1:¬ s[k].toNat=34) (h2:¬ s[k].toNat=92):tEnd s k=tEnd s (k+1):=by rw [tEnd,dif_pos h,if_neg h1,if_neg h2]
theorem ZcI {s:ByteArray} {k:Nat} (h:s.size<=k):tEnd s k=s.size:=by rw [tEnd,dif_neg (by omega)]
theorem ZgJ (s:ByteArray) (k:Nat):tEnd s k<=s.size/\(k<=s.size->k<=tEnd s k):=by
 induction k using tEnd.induct (s:=s) with
 | case1 k h hc=>rw [ZcX h hc];omega
 |
  case2 k h h1 hc ih=>rw [ZcO h hc];exact⟨ih.1,λ _=>by
  by_cases h2:k+2<=s.size
  ·have:=ih.2 h2;omega
  ·rw [ZcI (by omega)];omega⟩
 | case3 k h h1 h2 ih=>rw [Zcl h h1 h2];exact⟨ih.1,λ _=>by have:=ih.2 (by omega);omega⟩
 | case4 k h=>rw [ZcI (by omega)];omega
def two (s:ByteArray) (k:Nat) (a b:UInt8):Bool:=[a,b].isPrefixOf (s.data.toList.drop k)
theorem take_two (l:List UInt8) (a b:UInt8):(l.take 2==[a,b])=[a,b].isPrefixOf l:=by
 match l with
 | []=>rfl
 | [x]=>simp [List.isPrefixOf]
 |
  x::y::t =>
  show ([x,y]==[a,b])=(a==x && (b==y && true))
  rw [Bool.eq_iff_iff,beq_iff_eq,Bool.and_eq_true,Bool.and_eq_true,beq_iff_eq,beq_iff_eq,List.cons.injEq,List.cons.injEq]
  exact⟨λ h=>⟨h.1.symm,h.2.1.symm,rfl⟩,λ h=>⟨h.1.symm,h.2.1.symm,rfl⟩⟩
theorem Zd8 (s:ByteArray) (i j:Nat):(s.extract i j).data.toList=(s.data.toList.drop i).take (j-i):=by
 rw [ByteArray.data_extract,Array.toList_extract,List.extract_eq_take_drop]
theorem Zbn (s:ByteArray) (k:Nat) (a b:UInt8):((s.extract k (k+2)).toList==[a,b])=two s k a b:=by
 rw [ByteArray.toList_eq,Zd8,show k+2-k=2 from by omega,take_two];rfl
theorem ext_min (s:ByteArray) (k:Nat):s.extract k (min s.size (k+2))=s.extract k (k+2):=by
 apply Go.WideShapes.bytes_inj
 rw [Zd8,Zd8]
 by_cases h:k+2<=s.size
 ·rw [Nat.min_eq_right h]
 ·have e:s.data.toList.length=s.size:=Array.length_toList
  rw [Nat.min_eq_left (by omega),List.take_of_length_le (by rw [List.length_drop];omega),List.take_of_length_le (by rw [List.length_drop];omega)]
theorem Zd9 {s:ByteArray} {k:Nat} {a b:UInt8} (h:two s k a b=true):k+1<s.size:=by
 have e:s.data.toList.length=s.size:=Array.length_toList
 have:=List.IsPrefix.length_le (List.isPrefixOf_iff_prefix.1 h)
 simp only [List.length_cons,List.length_nil,List.length_drop] at this
 omega
def cEnd (s:ByteArray) (k:Nat):Int:=if Lib.index (s.data.toList.drop k) [42,47]<0 then -1 else k+Lib.index (s.data.toList.drop k) [42,47]+2
theorem ZhD:∀ (l:List UInt8) {sub:List UInt8},0<=Lib.index l sub->(Lib.index l sub).toNat+sub.length<=l.length
 |
  [],sub,h=>by
  unfold Lib.index at *
  split at h
  ·rename_i h1;have:sub=[]:=by simpa using h1
   subst this;simp
  ·omega
 |
  b::l,sub,h=>by
  unfold Lib.index at *
  split at h
  ·rename_i h1
   rw [if_pos h1]
   have:=List.IsPrefix.length_le (List.isPrefixOf_iff_prefix.1 h1)
   simpa using this
  ·rename_i h1
   rw [if_neg h1]
   split at h
   ·omega
   ·rename_i h2
    rw [if_neg h2]
    have h3:=Lib.index_ge l sub
    have h4:¬ Lib.index l sub=-1:=by simpa using h2
    have:=ZhD l (sub:=sub) (by omega)
    simp only [List.length_cons]
    omega
theorem Zjd {s:ByteArray} {k:Nat} (h:0<=cEnd s k) (hk:k<=s.size):(k:Int)+2<=cEnd s k/\cEnd s k<=s.size:=by
 unfold cEnd at *
 split at h
 ·omega
 ·rename_i h1
  rw [if_neg h1]
  have:=ZhD (s.data.toList.drop k) (sub:=[42,47]) (by omega)
  have e:s.data.toList.length=s.size:=Array.length_toList
  simp only [List.length_cons,List.length_nil,List.length_drop] at this
  omega
def strip1 (s:ByteArray) (k:Nat):Option ByteArray:=
 if h:k<s.size then
  if two s k 47 47=true then some ⟨#[]⟩
  else if two s k 47 42=true then
   if cEnd s (k+2)<0 then none else (strip1 s (max (k+1) (cEnd s (k+2)).toNat)).map (⟨#[32]⟩++·)
  else if s[k].toNat=34 then (strip1 s (max (k+1) (tEnd s (k+1)))).map (s.extract k (tEnd s (k+1))++·)
  else (strip1 s (k+1)).map (s.extract k (k+1)++·)
 else some ⟨#[]⟩
termination_by s.size-k
def At1 (s:ByteArray) (k:Nat) (out:ByteArray):Prop:=(strip1 s k).map (out++·)=strip1 s 0/\out.size<=k
theorem ZfS (a b:ByteArray) (o:Option ByteArray):(o.map (b++·)).map (a++·)=o.map ((a++b)++·):=by
 rw [Option.map_map];congr 1;funext x;simp [ByteArray.append_assoc]
theorem ZlW (a:ByteArray):a++(⟨#[]⟩:ByteArray)=a:=by apply Go.WideShapes.bytes_inj;simp
theorem At1.line {s:ByteArray} {k:Nat} {out:ByteArray} (h:At1 s k out) (hk:k<s.size) (h1:two s k 47 47=true):strip1 s 0=some out:=by
 rw [← h.1,strip1,dif_pos hk,if_pos h1,Option.map_some,ZlW]
theorem At1.done {s:ByteArray} {k:Nat} {out:ByteArray} (h:At1 s k out) (hk:s.size<=k):strip1 s 0=some out:=by
 rw [← h.1,strip1,dif_neg (by omega),Option.map_some,ZlW]
theorem At1.open_ {s:ByteArray} {k:Nat} {out:ByteArray} (h:At1 s k out) (hk:k<s.size) (h1:two s k 47 47=false) (h2:two s k 47 42=true) (h3:cEnd s (k+2)<0):strip1 s 0=none:=by
 rw [← h.1,strip1,dif_pos hk,if_neg (by simp [h1]),if_pos h2,if_pos h3];rfl
theorem At1.comment {s:ByteArray} {k:Nat} {out:ByteArray} (h:At1 s k out) (hk:k<s.size) (h1:two s k 47 47=false) (h2:two s k 47 42=true) (h3:¬ cEnd s (k+2)<0):At1 s (cEnd s (k+2)).toNat (out++⟨#[32]⟩):=by
 have hr:=Zd9 h2
 have hc:=Zjd (s:=s) (k:=k+2) (by omega) (by omega)
 refine ⟨?_,by rw [ByteArray.size_append];have:=h.2;show out.size+1<=_;omega⟩
 rw [← h.1,strip1.eq_def s k,dif_pos hk,if_neg (by simp [h1]),if_pos h2,if_neg h3,ZfS,Nat.max_eq_right (by omega)]
theorem At1.text {s:ByteArray} {k:Nat} {out:ByteArray} (h:At1 s k out) (hk:k<s.size) (h1:two s k 47 47=false) (h2:two s k 47 42=false) (h3:s[k].toNat=34):At1 s (tEnd s (k+1)) (out++s.extract k (tEnd s (k+1))):=by
 have hb:=ZgJ s (k+1)
 have hb2:=hb.2 (by omega)
 refine ⟨?_,by rw [ByteArray.size_append,ByteArray.size_extract];have:=h.2;omega⟩
 rw [← h.1,strip1.eq_def s k,dif_pos hk,if_neg (by simp [h1]),if_neg (by simp [h2]),if_pos h3,ZfS,Nat.max_eq_right (by omega)]
theorem At1.byte {s:ByteArray} {k:Nat} {out:ByteArray} (h:At1 s k out) (hk:k<s.size) (h1:two s k 47 47=false) (h2:two s k 47 42=false) (h3:¬ s[k].toNat=34):At1 s (k+1) (out++s.extract k (k+1)):=by
 refine ⟨?_,by rw [ByteArray.size_append,ByteArray.size_extract];have:=h.2;omega⟩
 rw [← h.1,strip1.eq_def s k,dif_pos hk,if_neg (by simp [h1]),if_neg (by simp [h2]),if_neg h3,ZfS]
theorem ZcD {s:ByteArray} (h:ZaC s=true):s.size<=200:=by
 unfold ZaC at h
 rw [Bool.and_eq_true,decide_eq_true_eq] at h
 exact h.1
structure Tok where
 kind:Int
 text:ByteArray
 spaced:Bool
 hidden:List ByteArray
theorem Tok.ext' {a b:Tok} (h1:a.kind=b.kind) (h2:a.text=b.text) (h3:a.spaced=b.spaced) (h4:a.hidden=b.hidden):a=b:=by
 cases a;cases b;simp_all
instance:DecidableEq Tok:=λ a b =>
 if h1:a.kind=b.kind then if h2:a.text=b.text then if h3:a.spaced=b.spaced then if h4:a.hidden=b.hidden then isTrue (Tok.ext' h1 h2 h3 h4)
  else isFalse λ h=>h4 (by rw [h]) else isFalse λ h=>h3 (by rw [h]) else isFalse λ h=>h2 (by rw [h]) else isFalse λ h=>h1 (by rw [h])
def isLet (c:UInt8):Bool:=decide (97<=c.toNat/\c.toNat<=122\/65<=c.toNat/\c.toNat<=90\/c.toNat=95)
def isDig (c:UInt8):Bool:=decide (48<=c.toNat/\c.toNat<=57)
def Zal (c:UInt8):Bool:=isLet c || isDig c
theorem ZfT (c:UInt8):isLet c=true ↔ (97<=c.toNat/\c.toNat<=122\/65<=c.toNat/\c.toNat<=90\/c.toNat=95):=by unfold isLet;exact decide_eq_true_iff
theorem ZdN (c:UInt8):isDig c=true ↔ (48<=c.toNat/\c.toNat<=57):=by unfold isDig;exact decide_eq_true_iff
theorem Zff (c:UInt8):Zal c=true ↔ ((97<=c.toNat/\c.toNat<=122\/65<=c.toNat/\c.toNat<=90\/c.toNat=95)\/(48<=c.toNat/\c.toNat<=57)):=by
 unfold Zal;rw [Bool.or_eq_true,ZfT,ZdN]
def wEnd (s:ByteArray) (k:Nat):Nat:=if h:k<s.size then (if Zal s[k]=true then wEnd s (k+1) else k) else k
termination_by s.size-k
theorem Zbf {s:ByteArray} {k:Nat} (h:k<s.size) (hc:Zal s[k]=true):wEnd s k=wEnd s (k+1):=by rw [wEnd,dif_pos h,if_pos hc]
theorem Zbw {s:ByteArray} {k:Nat} (h:k<s.size) (hc:Zal s[k]=false):wEnd s k=k:=by rw [wEnd,dif_pos h,if_neg (by simp [hc])]
theorem Zcm {s:ByteArray} {k:Nat} (h:s.size<=k):wEnd s k=k:=by rw [wEnd,dif_neg (by omega)]
theorem ZeK (s:ByteArray) (k:Nat):k<=wEnd s k/\(k<=s.size->wEnd s k<=s.size):=by
 induction k using wEnd.induct (s:=s) with
 | case1 k h hc ih=>rw [Zbf h hc];exact⟨by omega,λ _=>ih.2 (by omega)⟩
 | case2 k h hc=>rw [Zbw h (by simpa using hc)];omega
 | case3 k h=>rw [Zcm (by omega)];omega
def tClose (s:ByteArray) (k:Nat):Option Nat:=
 if h:k<s.size then (if s[k].toNat=34 then some (k+1) else if s[k].toNat=92 then tClose s (k+2) else tClose s (k+1)) else none
termination_by s.size-k
theorem Za7 {s:ByteArray} {k:Nat} (h:k<s.size) (hc:s[k].toNat=34):tClose s k=some (k+1):=by rw [tClose,dif_pos h,if_pos hc]
theorem Zbx {s:ByteArray} {k:Nat} (h:k<s.size) (hc:s[k].toNat=92):tClose s k=tClose s (k+2):=by rw [tClose,dif_pos h,if_neg (by omega),if_pos hc]
theorem Zbi {s:ByteArray} {k:Nat} (h:k<s.size) (h1:¬ s[k].toNat=34) (h2:¬ s[k].toNat=92):tClose s k=tClose s (k+1):=by rw [tClose,dif_pos h,if_neg h1,if_neg h2]
theorem Zfg {s:ByteArray} {k:Nat} (h:s.size<=k):tClose s k=none:=by rw [tClose,dif_neg (by omega)]
theorem ZaX {s:ByteArray} {k e:Nat} (h:tClose s k=some e):k+1<=e/\e<=s.size/\tEnd s k=e/\∃ hh:e-1<s.size,s[e-1].toNat=34:=by
 induction k using tClose.induct (s:=s) with
 |
  case1 k hk hc =>
  rw [Za7 hk hc,Qi] at h
  subst h
  exact⟨by omega,by omega,ZcX hk hc,by simp;omega,hc⟩
 |
  case2 k hk h1 hc ih =>
  rw [Zbx hk hc] at h
  obtain⟨a,b,c,d⟩:=ih h
  exact⟨by omega,b,by rw [ZcO hk hc,c],d⟩
 |
  case3 k hk h1 h2 ih =>
  rw [Zbi hk h1 h2] at h
  obtain⟨a,b,c,d⟩:=ih h
  exact⟨by omega,b,by rw [Zcl hk h1 h2,c],d⟩
 | case4 k hk=>rw [Zfg (by omega)] at h;exact absurd h (by simp)
theorem Zlt {s:ByteArray} {k:Nat} (h:tClose s k=none):tEnd s k=s.size:=by
 induction k using tClose.induct (s:=s) with
 | case1 k hk hc=>rw [Za7 hk hc] at h;simp at h
 | case2 k hk h1 hc ih=>rw [Zbx hk hc] at h;rw [ZcO hk hc,ih h]
 | case3 k hk h1 h2 ih=>rw [Zbi hk h1 h2] at h;rw [Zcl hk h1 h2,ih h]
 | case4 k hk=>exact ZcI (by omega)
def plus (s:ByteArray):ByteArray:=s++⟨#[32]⟩
theorem Zbj (s:ByteArray):(plus s).size=s.size+1:=by unfold plus;rw [ByteArray.size_append];rfl
theorem Zgs (s:ByteArray) (k:Nat) (h:k<s.size):(plus s)[k]'(by rw [Zbj];omega)=s[k]:=by
 unfold plus;rw [ByteArray.getElem_append_left h]
theorem Zj5 (s:ByteArray):(plus s)[s.size]'(by rw [Zbj];omega)=32:=by
 unfold plus;rw [ByteArray.getElem_append_right (Nat.le_refl _)];simp;rfl
theorem Zm5 (s:ByteArray) (k:Nat) (hk:k<=s.size+1):tEnd (plus s) k=match tClose s k with | some e=>e | none=>s.size+1:=by
 induction k using tClose.induct (s:=s) with
 |
  case1 k h hc =>
  rw [Za7 h hc,ZcX (by rw [Zbj];omega) (by rw [Zgs s k h];exact hc)]
 |
  case2 k h h1 hc ih =>
  rw [Zbx h hc,ZcO (by rw [Zbj];omega) (by rw [Zgs s k h];exact hc)]
  exact ih (by omega)
 |
  case3 k h h1 h2 ih =>
  rw [Zbi h h1 h2,Zcl (by rw [Zbj];omega) (by rw [Zgs s k h];exact h1) (by rw [Zgs s k h];exact h2)]
  exact ih (by omega)
 |
  case4 k h =>
  rw [Zfg (by omega)]
  by_cases e:k=s.size
  ·subst e
   rw [Zcl (by rw [Zbj];omega) (by rw [Zj5];decide) (by rw [Zj5];decide),ZcI (by rw [Zbj];omega),Zbj]
  ·rw [ZcI (by rw [Zbj];omega),Zbj]
def bk (s:ByteArray) (k e:Nat):Nat:=if h:k<e/\k<s.size then (if s[k].toNat=92 then bk s (k+2) e else bk s (k+1) e) else k
termination_by e-k
theorem Zis {s:ByteArray} {k e:Nat} (h:k<e) (h':k<s.size) (hc:s[k].toNat=92):bk s k e=bk s (k+2) e:=by rw [bk,dif_pos ⟨h,h'⟩,if_pos hc]
theorem Zit {s:ByteArray} {k e:Nat} (h:k<e) (h':k<s.size) (hc:¬ s[k].toNat=92):bk s k e=bk s (k+1) e:=by rw [bk,dif_pos ⟨h,h'⟩,if_neg hc]
theorem Zj6 {s:ByteArray} {k e:Nat} (h:e<=k):bk s k e=k:=by rw [bk,dif_neg (by omega)]
theorem Zm6 {s:ByteArray} {k e:Nat} (h:tClose s k=some e):bk s k (e-1)=e-1:=by
 induction k using tClose.induct (s:=s) with
 |
  case1 k hk hc =>
  rw [Za7 hk hc,Qi] at h
  subst h
  rw [Zj6 (by omega)];omega
 |
  case2 k hk h1 hc ih =>
  rw [Zbx hk hc] at h
  have:=ZaX h
  rw [Zis (by omega) hk hc]
  exact ih h
 |
  case3 k hk h1 h2 ih =>
  rw [Zbi hk h1 h2] at h
  have:=ZaX h
  rw [Zit (by omega) hk h2]
  exact ih h
 | case4 k hk=>rw [Zfg (by omega)] at h;exact absurd h (by simp)
theorem bk_open {s:ByteArray} {k:Nat} (h:tClose s k=none) (hk:k<s.size) (hq:s[s.size-1].toNat=34):bk s k (s.size-1)≠s.size-1:=by
 induction k using tClose.induct (s:=s) with
 | case1 k hk hc=>rw [Za7 hk hc] at h;simp at h
 |
  case2 k hk' h1 hc ih =>
  rw [Zbx hk' hc] at h
  have hn:k≠s.size-1:=by rintro rfl;omega
  rw [Zis (by omega) hk' hc]
  by_cases h2:k+2<s.size
  ·exact ih h h2 hq
  ·rw [Zj6 (by omega)];omega
 |
  case3 k hk' h1 h2 ih =>
  rw [Zbi hk' h1 h2] at h
  have hn:k≠s.size-1:=by rintro rfl;omega
  rw [Zit (by omega) hk' h2]
  exact ih h (by omega) hq
 | case4 k hk'=>omega
def twoAt (s:ByteArray) (k:Nat):Bool:=two s k 61 61 || two s k 33 61 || two s k 60 61 || two s k 62 61 || two s k 38 38 || two s k 124 124 || two s k 35 35
def marks1:List UInt8:=[43,45,42,47,37,60,62,61,33,38,124,40,41,44,35,59,63,58,123,125,91,93,46]
def mLen (s:ByteArray) (k:Nat):Nat:=if twoAt s k=true then 2 else if h:k<s.size then (if s[k]∈marks1 then 1 else 0) else 0
theorem Zfh {s:ByteArray} {k:Nat} (h:twoAt s k=true):k+1<s.size:=by
 unfold twoAt at h
 simp only [Bool.or_eq_true] at h
 rcases h with(((((h | h) | h) | h) | h) | h) | h <;> exact Zd9 h
theorem ZfU {s:ByteArray} {k:Nat} (hk:k<s.size):k+mLen s k<=s.size/\mLen s k<=2:=by
 unfold mLen
 split
 ·rename_i h;have:=Zfh h;omega
 ·split <;> (try split) <;> omega
def Zea (s:ByteArray) (k:Nat):Int:=if 12<wEnd s k-k then -1 else (wEnd s k:Int)
theorem ZgK {s:ByteArray} {k0 k:Nat} (h:k=wEnd s k0) (h1:12<(k:Int)-(k0:Int)):(-1:Int)=Zea s k0:=by unfold Zea;rw [← h,if_pos (by omega)]
theorem ZfV {s:ByteArray} {k0 k:Nat} (h:k=wEnd s k0) (h1:¬ 12<(k:Int)-(k0:Int)):(k:Int)=Zea s k0:=by unfold Zea;rw [← h,if_neg (by omega)]
def Zdh (s:ByteArray) (k:Nat):Int:=match tClose s k with | some e=>(e:Int) | none=>-1
theorem Zj7 {s:ByteArray} {k e:Nat} (h:tClose s k=some e):Zdh s k=e:=by unfold Zdh;rw [h]
theorem Zj8 {s:ByteArray} {k:Nat} (h:tClose s k=none):Zdh s k=-1:=by unfold Zdh;rw [h]
def ZcY (s:ByteArray) (k:Nat):Int:=if mLen s k=0 then -1 else ((k+mLen s k:Nat):Int)
def cutKind (c:UInt8):Int:=if isDig c=true then 2 else if isLet c=true then 1 else if c.toNat=34 then 3 else 4
def Zav (s:ByteArray) (k:Nat):Int:=
 if h:k<s.size then
  if Zal s[k]=true then Zea s k
  else if s[k].toNat=34 then Zdh s (k+1)
  else ZcY s k
 else -1
theorem Zby {s:ByteArray} {k:Nat} (h:k<s.size) (hw:Zal s[k]=true):Zav s k=if 12<wEnd s k-k then -1 else (wEnd s k:Int):=by rw [Zav,dif_pos h,if_pos hw];rfl
theorem ZbT {s:ByteArray} {k:Nat} (h:k<s.size) (hw:Zal s[k]=false) (hq:s[k].toNat=34):Zav s k=match tClose s (k+1) with | some e=>(e:Int) | none=>-1:=by rw [Zav,dif_pos h,if_neg (by simp [hw]),if_pos hq];rfl
theorem ZbU {s:ByteArray} {k:Nat} (h:k<s.size) (hw:Zal s[k]=false) (hq:¬ s[k].toNat=34):Zav s k=if mLen s k=0 then -1 else ((k+mLen s k:Nat):Int):=by rw [Zav,dif_pos h,if_neg (by simp [hw]),if_neg hq];rfl
theorem ZaY {s:ByteArray} {k:Nat} (h:0<=Zav s k):(k:Int)+1<=Zav s k/\Zav s k<=s.size/\k<s.size:=by
 by_cases hk:k<s.size
 ·refine ⟨?_,?_,hk⟩ <;>
  ·cases hw:Zal s[k]
   ·by_cases hq:s[k].toNat=34
    ·rw [ZbT hk hw hq] at h ⊢
     cases hc:tClose s (k+1) with
     | none=>rw [hc] at h;exact absurd h (by decide)
     | some e=>have:=ZaX hc;show _<=_;simp only;omega
    ·rw [ZbU hk hw hq] at h ⊢
     have:=ZfU hk
     split at h
     ·omega
     ·rename_i h0;rw [if_neg h0];omega
   ·rw [Zby hk hw] at h ⊢
    have h1:=ZeK s (k+1)
    rw [← Zbf hk hw] at h1
    have:=h1.2 (by omega)
    split at h
    ·omega
    ·rename_i h0;rw [if_neg h0];omega
 ·rw [Zav,dif_neg hk] at h;omega
theorem Zje (s:ByteArray) (k:Nat):Zav s k<0\/∃ e:Nat,Zav s k=e/\k<e/\e<=s.size:=by
 by_cases h:Zav s k<0
 ·exact .inl h
 ·have:=ZaY (s:=s) (k:=k) (by omega)
  exact .inr ⟨(Zav s k).toNat,by omega,by omega,by omega⟩
def sCut (s:ByteArray) (k:Nat):Int × Int:=
 if h:k<s.size then
  if Zal s[k]=true then (if isLet s[k]=true then 1 else 2,wEnd s (k+1))
  else if s[k].toNat=34 then (match tClose s (k+1) with | some e=>(3,(e:Int)) | none=>(0,k))
  else (4,(k+mLen s k:Nat))
 else (0,k)
def SBad (k:Nat) (c:Int × Int):Prop:=c.2=k\/c.1=0\/(c.1=1\/c.1=2)/\12<c.2-k
theorem let_dig {c:UInt8} (h:isLet c=true):isDig c=false:=by
 rw [ZfT] at h
 cases hd:isDig c
 ·rfl
 ·rw [ZdN] at hd;omega
theorem ZdO {s:ByteArray} {k:Nat} (h:k<s.size) (hw:Zal s[k]=true):sCut s k=(if isLet s[k]=true then 1 else 2,(wEnd s (k+1):Int)):=by rw [sCut,dif_pos h,if_pos hw]
theorem ZeL {s:ByteArray} {k e:Nat} (h:k<s.size) (hw:Zal s[k]=false) (hq:s[k].toNat=34) (hc:tClose s (k+1)=some e):sCut s k=(3,(e:Int)):=by rw [sCut,dif_pos h,if_neg (by simp [hw]),if_pos hq,hc]
theorem ZfW {s:ByteArray} {k:Nat} (h:k<s.size) (hw:Zal s[k]=false) (hq:s[k].toNat=34) (hc:tClose s (k+1)=none):sCut s k=(0,(k:Int)):=by rw [sCut,dif_pos h,if_neg (by simp [hw]),if_pos hq,hc]
theorem Zey {s:ByteArray} {k:Nat} (h:k<s.size) (hw:Zal s[k]=false) (hq:¬ s[k].toNat=34):sCut s k=(4,((k+mLen s k:Nat):Int)):=by rw [sCut,dif_pos h,if_neg (by simp [hw]),if_neg hq]
theorem sCut_bad {s:ByteArray} {k:Nat} (hk:k<s.size) (h:Zav s k<0):SBad k (sCut s k):=by
 unfold SBad
 cases hw:Zal s[k]
 ·by_cases hq:s[k].toNat=34
  ·rw [ZbT hk hw hq] at h
   cases hc:tClose s (k+1) with
   | none=>rw [ZfW hk hw hq hc];exact .inl rfl
   | some e=>rw [hc] at h;simp only at h;omega
  ·rw [ZbU hk hw hq] at h
   rw [Zey hk hw hq]
   split at h
   ·rename_i h0;left;simp only;omega
   ·omega
 ·rw [Zby hk hw] at h
  rw [ZdO hk hw,← Zbf hk hw]
  split at h
  ·rename_i h0
   refine .inr (.inr ⟨?_,by simp only;omega⟩)
   simp only;split <;> simp
  ·omega
theorem Zm7 {s:ByteArray} {k:Nat} (hk:k<s.size) (h:0<=Zav s k):¬ SBad k (sCut s k)/\sCut s k=(cutKind s[k],Zav s k):=by
 have hr:=ZaY h
 unfold SBad
 cases hw:Zal s[k]
 ·have hd:isDig s[k]=false:=by unfold Zal at hw;simp only [Bool.or_eq_false_iff] at hw;exact hw.2
  have hl:isLet s[k]=false:=by unfold Zal at hw;simp only [Bool.or_eq_false_iff] at hw;exact hw.1
  have hkind:cutKind s[k]=if s[k].toNat=34 then 3 else 4:=by unfold cutKind;rw [if_neg (by simp [hd]),if_neg (by simp [hl])]
  by_cases hq:s[k].toNat=34
  ·rw [hkind,if_pos hq]
   rw [ZbT hk hw hq] at h hr ⊢
   cases hc:tClose s (k+1) with
   | none=>rw [hc] at h;exact absurd h (by decide)
   |
    some e =>
    have:=ZaX hc
    rw [ZeL hk hw hq hc]
    refine ⟨?_,rfl⟩
    simp only;omega
  ·rw [hkind,if_neg hq]
   rw [ZbU hk hw hq] at h hr ⊢
   rw [Zey hk hw hq]
   split at h
   ·omega
   ·rename_i h0
    rw [if_neg h0] at hr ⊢
    refine ⟨?_,rfl⟩
    simp only;omega
 ·have hkind:cutKind s[k]=if isLet s[k]=true then 1 else 2:=by
   unfold cutKind
   cases hl:isLet s[k]
   ·have hd:isDig s[k]=true:=by unfold Zal at hw;rw [hl] at hw;simpa using hw
    rw [if_pos hd];rfl
   ·rw [if_neg (by simp [let_dig hl]),if_pos rfl,if_pos rfl]
  rw [hkind]
  rw [Zby hk hw] at h hr ⊢
  rw [ZdO hk hw,← Zbf hk hw]
  split at h
  ·omega
  ·rename_i h0
   rw [if_neg h0] at hr ⊢
   refine ⟨?_,rfl⟩
   simp only;split <;> omega
def toks (s:ByteArray) (k:Nat) (sp:Bool) (n:Nat):Option (List Tok):=
 if h:k<s.size then
  if s[k].toNat=32 then toks s (k+1) true n
  else if Zav s k<0\/n=60 then none
  else (toks s (max (k+1) (Zav s k).toNat) false (n+1)).map (⟨cutKind s[k],s.extract k (Zav s k).toNat,sp,[]⟩::·)
 else some []
termination_by s.size-k
def AtT (s:ByteArray) (k:Nat) (sp:Bool) (out:List Tok):Prop:=(toks s k sp out.length).map (out++·)=toks s 0 false 0/\out.length<=60
theorem AtT.zero (s:ByteArray):AtT s 0 false []:=⟨by simp,by simp⟩
theorem AtT.space {s:ByteArray} {k:Nat} {sp:Bool} {out:List Tok} (h:AtT s k sp out) (hk:k<s.size) (hc:s[k].toNat=32):AtT s (k+1) true out:=
 ⟨by rw [← h.1,toks.eq_def s k,dif_pos hk,if_pos hc],h.2⟩
theorem AtT.bad {s:ByteArray} {k:Nat} {sp:Bool} {out:List Tok} (h:AtT s k sp out) (hk:k<s.size) (hc:¬ s[k].toNat=32) (hb:Zav s k<0\/out.length=60):toks s 0 false 0=none:=by
 rw [← h.1,toks,dif_pos hk,if_neg hc,if_pos hb];rfl
theorem AtT.tok {s:ByteArray} {k e:Nat} {sp:Bool} {out:List Tok} (h:AtT s k sp out) (hk:k<s.size) (hc:¬ s[k].toNat=32) (he:Zav s k=e) (hn:out.length≠60):AtT s e false (out++[⟨cutKind s[k],s.extract k e,sp,[]⟩]):=by
 have hr:=ZaY (s:=s) (k:=k) (by omega)
 refine ⟨?_,by have:=h.2;simp;omega⟩
 rw [← h.1,toks.eq_def s k,dif_pos hk,if_neg hc,if_neg (by omega),he,Int.toNat_natCast,Nat.max_eq_right (by omega),Option.map_map]
 rw [List.length_append]
 congr 1
 funext x
 simp
theorem AtT.done {s:ByteArray} {k:Nat} {sp:Bool} {out:List Tok} (h:AtT s k sp out) (hk:s.size<=k):toks s 0 false 0=some out:=by
 rw [← h.1,toks,dif_neg (by omega)];simp
def Zai (s:ByteArray):List Tok × Bool:=if ZaC s=true then (match toks s 0 false 0 with | some l=>(l,true) | none=>([],false)) else ([],false)
theorem Zfi {s:ByteArray} (h:ZaC s=false):Zai s=([],false):=by unfold Zai;rw [if_neg (by simp [h])]
theorem ZdG {s:ByteArray} (h:toks s 0 false 0=none):Zai s=([],false):=by unfold Zai;rw [h];split <;> rfl
theorem ZdH {s:ByteArray} {l:List Tok} (h0:ZaC s=true) (h:toks s 0 false 0=some l):Zai s=(l,true):=by unfold Zai;rw [if_pos h0,h]
def Fresh (B:Nat) (l:List Tok):Prop:=∀ t∈l,t.text.size<=B/\t.hidden=[]/\1<=t.kind/\t.kind<=4
theorem ZhE (c:UInt8):1<=cutKind c/\cutKind c<=4:=by unfold cutKind;split <;> (try split) <;> (try split) <;> omega
theorem Fresh.nil (B:Nat):Fresh B []:=by intro t h;simp at h
theorem Fresh.snoc {B:Nat} {l:List Tok} {s:ByteArray} {k e:Nat} {sp:Bool} {c:UInt8} (h:Fresh B l) (hB:s.size<=B):Fresh B (l++[⟨cutKind c,s.extract k e,sp,[]⟩]):=by
 intro t ht
 rcases Qa ht with ht | ht
 ·exact h t ht
 ·have:=ZhE c
  obtain rfl:=Qm ht
  exact⟨by show (s.extract k e).size<=B;rw [ByteArray.size_extract];omega,rfl,this⟩
open Go.RowKit Go.ChangeShapes Go.WideShapes Go.Deep Go.Joins
def sTok:Shape Tok where
 m:=4
 R w cs d fp:=∃ h,cs=[.int .i64 d.kind,.string d.text,.bool d.spaced,h]/\okInt d.kind/\okStr d.text/\(Zaa sStr).R w [h] d.hidden fp
 frame:=by
  rintro w w' cs d fp hf ⟨h,h1,h2,h3,h4⟩
  exact⟨h,h1,h2,h3,(Zaa sStr).frame hf h4⟩
 lt:=by
  rintro w cs d fp ⟨h,h1,h2,h3,h4⟩
  exact(Zaa sStr).lt h4
theorem ti_tok:TI Tryz.prog 28 57 (.agg #[.int .i64 0,.string ⟨#[]⟩,.bool false,.slice none 0 0]) 4 56:=⟨by kernel_rfl,by kernel_rfl⟩
def Zb8 (t:Tok):List Value:=[.int .i64 t.kind,.string t.text,.bool t.spaced,.slice none 0 0]
def TokRow (base:Nat) (v:Value) (l:List Tok) (w:World):Prop:=w.ownsRow base 57 4 v l.length (l.flatMap Zb8)
theorem TokRow.nil (base:Nat) (w:World):TokRow base (.slice none 0 0) [] w:=World.ownsRow_nil _ _ _ _
theorem TokRow.drew {base:Nat} {v:Value} {l:List Tok} {w:World} (h:TokRow base v l w) (n:Nat):TokRow base v l (w.drewN n):=h
theorem TokRow.slice {base:Nat} {v:Value} {l:List Tok} {w:World} (h:TokRow base v l w):∃ a cap,v=.slice a l.length cap/\cap<=maxLen:=by
 rcases h.2 with⟨rfl,h0⟩ | ⟨g,cap,cur,rfl,_,_,_,hc,_⟩
 ·exact⟨none,0,by rw [h0],by simp⟩
 ·exact⟨_,cap,rfl,hc⟩
theorem TokRow.mine {base:Nat} {v:Value} {l:List Tok} {w:World} (h:TokRow base v l w):∀ b,v.ownBlock=some b->base<=b:=λ b hb=>(h.lt b hb).1
theorem ZfK {w0:World} {ops:Array Oper} {rest:List Oper} {o:Oper} {a:Act} {Q:Exit->Act->World->Prop} (hg:o.guard=none) (s y:Operand)
  (ho:o.op=.call { callee:=.builtin .append,args:=#[s,y],argTypes:=#[28,28] })
  (base:Nat) (v:Value) (l:List Tok) (k:Int) (x:ByteArray) (b:Bool) (hs:a.eval s=v) (hown:TokRow base v l w0) (hy:a.eval y=.slice (some ⟨w0.heap.size,0,none⟩) 1 1) (h63:l.length<=1000000) (hbase:base<=w0.heap.size)
  (h:∀ v' w',TokRow base v' (l++[⟨k,x,b,[]⟩]) w'->w0.grownBy w' v.ownBlock->wpList Tryz.prog ops Q rest (a.put o.dst v') w'):wpList Tryz.prog ops Q (o::rest) a (w0.alloc (.cells #[.int .i64 k,.string x,.bool b,.slice none 0 0] 57)):=by
 refine Zex ti_tok rfl (by decide) w0 (l.flatMap Zb8) [.int .i64 k,.string x,.bool b,.slice none 0 0] rfl (by simp [Value.oneCell']) hg s y ho base v l.length hs hown hy (by unfold maxLen;omega) (by omega) hbase λ v' w' h1 h2=>h v' w' ?_ h2
 unfold TokRow
 rw [List.length_append,List.flatMap_append]
 exact h1
theorem Zg4 {w:World} {base:Nat} {v:Value} {l:List Tok} {B:Nat} (h:TokRow base v l w) (hf:Fresh B l) (hB:B<=1000000) :
  ∃ fp,(Zaa sTok).R w [v] l fp/\Own w base fp/\∀ b∈fp,v.ownBlock=some b:=by
 have hL:(l.map λ t=>(⟨Zb8 t,t,[]⟩:Elem Tok)).flatMap (·.cells)=l.flatMap Zb8:=by rw [List.flatMap_map]
 have hF:(l.map λ t=>(⟨Zb8 t,t,[]⟩:Elem Tok)).flatMap (·.fp)=[]:=by rw [List.flatMap_map];simp
 have hD:(l.map λ t=>(⟨Zb8 t,t,[]⟩:Elem Tok)).map (·.d)=l:=by rw [List.map_map];exact List.map_id _
 obtain⟨fp,h1,h2,h3⟩:=ZaM (S:=sTok) (w:=w) (base:=base) (e:=57) (v:=v) (L:=l.map λ t=>⟨Zb8 t,t,[]⟩) (by rw [hL,List.length_map];exact h) (by
  intro x hx
  obtain⟨t,ht,rfl⟩:=List.mem_map.1 hx
  obtain⟨a1,a2,a3,a4⟩:=hf t ht
  have b1:okInt t.kind:=⟨by omega,by omega⟩
  have b2:okStr t.text:=by unfold okStr maxLen;omega
  have b3:(Zaa sStr).R w [.slice none 0 0] t.hidden []:=by rw [a2];exact Zan sStr w none 0 (by simp)
  exact⟨rfl,_,rfl,b1,b2,b3⟩)
 rw [hD] at h1
 rw [hF] at h2 h3
 exact⟨fp,h1,h3 (Own.nil _ _) (by simp),λ b hb=>by rcases h2 b hb with h | h;exact h;simp at h⟩
def Zbd (r:List Tok × Bool) (w:World) (e:Ending) (w':World):Prop:=
 ∃ v fp,e=.returned (.tuple #[v,.bool r.2])/\(Zaa sTok).R w' [v] r.1 fp/\Own w' w.heap.size fp/\Below w.heap.size w w'
section
variable {H:Type} {enc:TypeId × Value->H} {P:Program} {w:World} {base:Nat} {spare:Nat->Bool} {held:Bool}
end
theorem Zab (w:World) (o:Obj):Below w.heap.size w (w.alloc o):=(Below.refl _ _).alloc (Nat.le_refl _) _
theorem Zae {w:World} {b off m i j:Nat} {es:List Value} {v:Value} (h:ElemAt w b off m i es) (hj:j<m) (hv:es[j]?=some v):w.cell? ⟨b,off+i * m+j,none⟩=some v:=(h.2 j hj).trans hv
theorem Zao {w:World} {b off m i:Nat} {es:List Value} {v:Value} (h:ElemAt w b off m i es) (hj:0<m) (hv:es[0]?=some v):w.cell? ⟨b,off+i * m,none⟩=some v:=(h.2 0 hj).trans hv
theorem Zah {w:World} {g:Nat} {cs:Array Value} {t:TypeId} {fr:Nat × Nat} (h:w.heap[g]?=some (.cells cs t fr)) (j:Nat) (v:Value):(w.setCell ⟨g,j,none⟩ v).heap[g]?=some (.cells (cs.setIfInBounds j v) t fr):=by
 simp [World.setCell,Array.getElem?_modify,h]
theorem Zaw {w:World} {g g':Nat} {o:Obj} (h:w.heap[g]?=some o) (hn:g≠g') (j:Nat) (v:Value):(w.setCell ⟨g',j,none⟩ v).heap[g]?=some o:=
 (Below.heap_setCell _ _ _ _ hn).trans h
theorem ZdX (w:World) (c0 c1 c2:Array Value) (t0 t1 t2:TypeId) :
  (((w.alloc (.cells c0 t0)).alloc (.cells c1 t1)).alloc (.cells c2 t2)).heap[w.heap.size+1]?=some (.cells c1 t1 (0,0)) /\
  (((w.alloc (.cells c0 t0)).alloc (.cells c1 t1)).alloc (.cells c2 t2)).heap[w.heap.size+1+1]?=some (.cells c2 t2 (0,0)) /\
  (((w.alloc (.cells c0 t0)).alloc (.cells c1 t1)).alloc (.cells c2 t2)).heap.size=w.heap.size+1+1+1:=by
 refine ⟨?_,?_,?_⟩
 ·show (((w.heap.push _).push _).push _)[_]?=_
  rw [Array.getElem?_push,if_neg (by simp),Array.getElem?_push,if_pos (by simp)]
 ·show (((w.heap.push _).push _).push _)[_]?=_
  rw [Array.getElem?_push,if_pos (by simp)]
 ·show (((w.heap.push _).push _).push _).size=_
  simp
theorem ZhF (w:World) (c0 c1 c2:Array Value) (t0 t1 t2:TypeId):Below w.heap.size w (((w.alloc (.cells c0 t0)).alloc (.cells c1 t1)).alloc (.cells c2 t2)):=
 (((Below.refl _ _).alloc (Nat.le_refl _) _).alloc (by simp) _).alloc (by simp;omega) _
structure Turned (b lo hi:Nat) (fp:List Nat) (w w':World):Prop where
 kept:Kept (b::fp) w w'
 cells:∀ o,(o<lo\/hi<=o)->w'.cell? ⟨b,o,none⟩=w.cell? ⟨b,o,none⟩
section
variable {b lo hi:Nat} {fp:List Nat} {w w1 w2:World}
theorem Turned.refl (b lo hi:Nat) (fp:List Nat) (w:World):Turned b lo hi fp w w:=⟨Kept.refl _ _,λ _ _=>rfl⟩
theorem Turned.set (h:Turned b lo hi fp w w1) {o:Nat} (h1:lo<=o) (h2:o<hi) (v:Value):Turned b lo hi fp w (w1.setCell ⟨b,o,none⟩ v):=
 ⟨h.kept.setCell (p:=⟨b,o,none⟩) (by simp) v,λ o' ho=>by
  rw [World.cell?_setCell_other _ _ _ _ (by intro hh;simp only [Addr.mk.injEq] at hh;omega)]
  exact h.cells o' ho⟩
theorem Turned.below (h:Turned b lo hi fp w w1) (hb:b<w.heap.size) (hB:Below w1.heap.size w1 w2):Turned b lo hi fp w w2:=
 ⟨h.kept.trans (Kept.of_below hB),λ o ho=>(hB.cell (p:=⟨b,o,none⟩) (Nat.lt_of_lt_of_le hb h.kept.size)).trans (h.cells o ho)⟩
theorem Turned.sub (h:Turned b lo hi fp w w1) (hb:b<w.heap.size) (hk:Kept fp w1 w2) (hn:b∉fp):Turned b lo hi fp w w2:=
 ⟨h.kept.trans (hk.mono λ x hx=>by simp [hx]),λ o ho=>(World.cell?_of_block (a:=⟨b,o,none⟩) (hk.block b (Nat.lt_of_lt_of_le hb h.kept.size) hn)).trans (h.cells o ho)⟩
theorem Turned.sub' {fp':List Nat} (h:Turned b lo hi fp w w1) (hb:b<w.heap.size) (hk:Kept fp' w1 w2) (hs:∀ x∈fp',x∈fp) (hn:b∉fp):Turned b lo hi fp w w2:=
 h.sub hb (hk.mono hs) hn
end
theorem Own.part {w w':World} {lo:Nat} {fp fp':List Nat} (h:Own w lo fp) (hk:Kept fp' w w') (h':Own w' lo fp'):Own w' lo fp:=
 ⟨h.1,λ b hb=>by
  by_cases hx:b∈fp'
  ·exact h'.2 b hx
  ·obtain⟨h1,cur,e,h2⟩:=h.2 b hb
   exact⟨h1,cur,e,(hk.block b (Qg h2).1 hx).trans h2⟩⟩
theorem Own.lower {w:World} {lo lo':Nat} {fp:List Nat} (h:Own w lo fp) (hl:lo'<=lo):Own w lo' fp:=⟨h.1,λ b hb=>⟨Nat.le_trans hl (h.2 b hb).1,(h.2 b hb).2⟩⟩
theorem Own.sub {w:World} {lo:Nat} {fp fp':List Nat} (h:Own w lo fp) (hn:fp'.Nodup) (hs:∀ x∈fp',x∈fp):Own w lo fp':=⟨hn,λ b hb=>h.2 b (hs b hb)⟩
theorem ElemAt.set {w:World} {b off m i:Nat} {es:List Value} (h:ElemAt w b off m i es) {j:Nat} (hj:j<m) (v:Value):ElemAt (w.setCell ⟨b,off+i * m+j,none⟩ v) b off m i (es.set j v):=by
 refine ⟨by simpa using h.1,λ x hx=>?_⟩
 by_cases e:x=j
 ·subst e
  rw [List.getElem?_set_self (by have:=h.1;omega)]
  obtain⟨u,hu⟩:∃ u,w.cell? ⟨b,off+i * m+x,none⟩=some u:=⟨es[x]'(by have:=h.1;omega),by rw [h.2 x hx,List.getElem?_eq_getElem]⟩
  exact World.cell?_setCell_same _ _ _ hu
 ·rw [List.getElem?_set_ne (λ h=>e h.symm),World.cell?_setCell_other _ _ _ _ (by intro hh;simp only [Addr.mk.injEq] at hh;omega)]
  exact h.2 x hx
structure Wr (b off m j lo:Nat) (fpj fpA:List Nat) (wr W:World) (es:List Value):Prop where
 t:Turned b (off+j * m) (off+j * m+m) fpj wr W
 e:ElemAt W b off m j es
 o:Own W lo fpA
 hb:b<wr.heap.size
 hA:b∈fpA
 hN:b∉fpj
section
variable {b off m j lo:Nat} {fpj fpA:List Nat} {wr W W':World} {es:List Value}
theorem Wr.set (h:Wr b off m j lo fpj fpA wr W es) (i:Nat) (hi:i<m) (v:Value):Wr b off m j lo fpj fpA wr (W.setCell ⟨b,off+j * m+i,none⟩ v) (es.set i v):=
 ⟨h.t.set (by omega) (by omega) v,h.e.set hi v,h.o.setCell _ _,h.hb,h.hA,h.hN⟩
theorem Wr.below (h:Wr b off m j lo fpj fpA wr W es) (hB:Below W.heap.size W W'):Wr b off m j lo fpj fpA wr W' es:=
 ⟨h.t.below h.hb hB,h.e.frame (hB.block b (Nat.lt_of_lt_of_le h.hb h.t.kept.size)),h.o.grow hB,h.hb,h.hA,h.hN⟩
theorem Wr.sub {fp':List Nat} (h:Wr b off m j lo fpj fpA wr W es) (hk:Kept fp' W W') (ho:Own W' lo fp') (hs:∀ x∈fp',x∈fpj):Wr b off m j lo fpj fpA wr W' es:=
 ⟨h.t.sub' h.hb hk hs h.hN,h.e.frame (hk.block b (Nat.lt_of_lt_of_le h.hb h.t.kept.size) λ hx=>h.hN (hs b hx)),h.o.part hk ho,h.hb,h.hA,h.hN⟩
theorem Wr.cell (h:Wr b off m j lo fpj fpA wr W es) (i:Nat) {v:Value} (hi:i<m) (hv:es[i]?=some v):W.cell? ⟨b,off+j * m+i,none⟩=some v:=Zae h.e hi hv
theorem Wr.frozen (h:Wr b off m j lo fpj fpA wr W es) (o:Nat):W.frozen? ⟨b,o,none⟩=false:=h.o.frozen h.hA o
theorem Shape.setB {α:Type} (S:Shape α) {cs:List Value} {d:α} {fp:List Nat} {b:Nat} (h:S.R W cs d fp) (hn:b∉fp) (o:Nat) (v:Value):S.R (W.setCell ⟨b,o,none⟩ v) cs d fp:=
 S.kept (fp:=[b]) h (λ x hx he=>by rw [List.mem_singleton] at he;exact hn (he ▸ hx)) ((Kept.refl _ _).setCell (p:=⟨b,o,none⟩) (by simp) v)
end
def mkAll {α:Type} (f:Int->α->α) (c:α->Nat):Int->List α->List α
 | _,[]=>[]
 | k,x::l=>f k x::mkAll f c (k+c x) l
def ZeV {α:Type} (c:α->Nat) (l:List α):Nat:=(l.map c).sum
section
variable {α:Type} {f:Int->α->α} {c:α->Nat}
theorem ZfX:∀ (k:Int) (l:List α),(mkAll f c k l).length=l.length
 | _,[]=>rfl
 | k,x::l=>by simp [mkAll,ZfX (k+c x) l]
theorem Zjf:∀ {l:List α} (k:Int) (j:Nat) (h:j<l.length),(mkAll f c k l)[j]'(by rw [ZfX];exact h)=f (k+ZeV c (l.take j)) l[j]
 | [],_,_,h=>by simp at h
 | x::l,k,0,_=>by simp [mkAll,ZeV]
 |
  x::l,k,j+1,h=>by
  have ih:=Zjf (l:=l) (k+c x) j (by simpa using h)
  have e:k+(c x:Int)+(ZeV c (l.take j):Int)=k+(ZeV c ((x::l).take (j+1)):Int):=by
   simp only [ZeV,List.take_succ_cons,List.map_cons,List.sum_cons];omega
  rw [e] at ih
  exact ih
def MkUpto (f:Int->α->α) (c:α->Nat) (k:Int) (l:List α) (j:Nat) (L:List α):Prop:=
 L.length=l.length/\∀ i,(h:i<L.length)->(h':i<l.length)->L[i]=if i<j then f (k+ZeV c (l.take i)) l[i] else l[i]
theorem MkUpto.len {k:Int} {l L:List α} {j:Nat} (h:MkUpto f c k l j L):L.length=l.length:=h.1
theorem MkUpto.at {k:Int} {l L:List α} {j:Nat} (h:MkUpto f c k l j L) (hj:j<l.length):L[j]'(by rw [h.1];exact hj)=l[j]:=by
 rw [h.2 j (by rw [h.1];exact hj) hj,if_neg (by omega)]
theorem MkUpto.done {k:Int} {l L:List α} {j:Nat} (h:MkUpto f c k l j L) (hj:l.length<=j):L=mkAll f c k l:=by
 refine List.ext_getElem (by rw [ZfX,h.1]) λ i h1 h2=>?_
 have hl:i<l.length:=by rw [← h.1];exact h1
 rw [h.2 i h1 hl,if_pos (by omega),Zjf k i hl]
end
theorem ZbI (w:World) (c0 c1:Array Value) (t0 t1:TypeId) :
  ((w.alloc (.cells c0 t0)).alloc (.cells c1 t1)).heap[w.heap.size]?=some (.cells c0 t0 (0,0)) /\
  ((w.alloc (.cells c0 t0)).alloc (.cells c1 t1)).heap[w.heap.size+1]?=some (.cells c1 t1 (0,0)):=by
 refine ⟨?_,?_⟩
 ·show ((w.heap.push _).push _)[_]?=_
  rw [Array.getElem?_push,if_neg (by simp),Array.getElem?_push,if_pos rfl]
 ·show ((w.heap.push _).push _)[_]?=_
  rw [Array.getElem?_push,if_pos (by simp)]
def Zeb (w:World) (b:Nat):Nat->List Value->World
 | _,[]=>w
 | o,c::cs=>Zeb (w.setCell ⟨b,o,none⟩ c) b (o+1) cs
def Zbo:List Value->Nat->List Value->List Value
 | xs,_,[]=>xs
 | xs,o,c::cs=>Zbo (xs.set o c) (o+1) cs
theorem Zbz:∀ (cs A Z R:List Value),Z.length=cs.length->Zbo (A++(Z++R)) A.length cs=A++(cs++R)
 |
  [],A,Z,R,h=>by
  have:Z=[]:=by simpa using h
  subst this;simp [Zbo]
 | c::cs,A,[],R,h=>by simp at h
 |
  c::cs,A,z::Z,R,h=>by
  unfold Zbo
  have e:(A++(z::Z++R)).set A.length c=(A++[c])++(Z++R):=by simp
  rw [e]
  have e2:A.length+1=(A++[c]).length:=by simp
  rw [e2,Zbz cs (A++[c]) Z R (by simpa using h)]
  simp
theorem ZbJ {base e size n cap g:Nat}:∀ (cs:List Value) (w:World) (xs:List Value) (o:Nat),w.ownsRow base e size (.slice (some ⟨g,0,none⟩) n cap) n xs ->
  (Zeb w g o cs).ownsRow base e size (.slice (some ⟨g,0,none⟩) n cap) n (Zbo xs o cs)
 | [],_,_,_,h=>h
 | c::cs,w,xs,o,h=>ZbJ cs _ _ (o+1) (h.stored o c).1
theorem ZbA {g:Nat}:∀ (cs:List Value) (w:World) (o:Nat),Kept [g] w (Zeb w g o cs)
 | [],w,_=>Kept.refl _ w
 | c::cs,w,o=>((Kept.refl [g] w).setCell (p:=⟨g,o,none⟩) (by simp) c).trans (ZbA cs _ (o+1))
structure Filling {α:Type} (S:Shape α) (g:Nat) (e:TypeId) (l:List α) (k:Nat) (w:World) (L:List (Elem α)) (R:List Value):Prop where
 row:w.ownsRow g e S.m (.slice (some ⟨g,0,none⟩) l.length l.length) l.length (L.flatMap (·.cells)++R)
 dat:L.map (·.d)=l.take k
 len:∀ x∈L,x.cells.length=S.m
 el:∀ x∈L,S.R w x.cells x.d x.fp
 own:Own w (g+1) (L.flatMap (·.fp))
section
variable {α:Type} {S:Shape α} {g e:Nat} {l:List α} {k:Nat} {w w':World} {L:List (Elem α)} {R:List Value}
theorem Filling.count (h:Filling S g e l k w L R) (hk:k<=l.length):L.length=k:=by
 have:=congrArg List.length h.dat
 simpa [hk] using this
theorem Filling.cells (h:Filling S g e l k w L R) (hk:k<=l.length):(L.flatMap (·.cells)).length=k * S.m:=by rw [ZaB h.len,h.count hk]
theorem Filling.rest (h:Filling S g e l k w L R) (hk:k<=l.length):R.length=(l.length-k) * S.m:=by
 have h1:=h.row.1
 rw [List.length_append,h.cells hk] at h1
 have:(l.length-k) * S.m=l.length * S.m-k * S.m:=Nat.sub_mul _ _ _
 omega
theorem Filling.lt (h:Filling S g e l k w L R):g<w.heap.size:=(h.row.lt g rfl).2
theorem Filling.below (h:Filling S g e l k w L R) (hb:Below w.heap.size w w'):Filling S g e l k w' L R where
 row:=by
  refine ⟨h.row.1,?_⟩
  rcases h.row.2 with h0 | ⟨g',cap,cur,h1,h2,h3,h4⟩
  ·exact .inl h0
  ·exact .inr ⟨g',cap,cur,h1,h2,(hb.block g' (Qg h3).1).trans h3,h4⟩
 dat:=h.dat
 len:=h.len
 el:=λ x hx=>S.below (h.el x hx) hb
 own:=h.own.grow hb
theorem Filling.cell (h:Filling S g e l k w L R) (hk:k<l.length) {j:Nat} (hj:j<S.m):∃ u,w.cell? ⟨g,k * S.m+j,none⟩=some u:=by
 have h1:(k+1) * S.m<=l.length * S.m:=Nat.mul_le_mul_right _ hk
 rw [Nat.succ_mul] at h1
 rw [h.row.cellAt (k * S.m+j) (by omega),List.getElem?_append_right (by rw [h.cells (by omega)];omega),h.cells (by omega)]
 have h2:=h.rest (by omega)
 have h3:(l.length-k) * S.m=l.length * S.m-k * S.m:=Nat.sub_mul _ _ _
 exact⟨R[k * S.m+j-k * S.m]'(by omega),List.getElem?_eq_getElem _⟩
theorem Filling.frozen (h:Filling S g e l k w L R) (o:Nat):w.frozen? ⟨g,o,none⟩=false:=h.row.frozenAt o
theorem Filling.next {cs:List Value} {fp:List Nat} {w0:World} (h0:Filling S g e l k w0 L R) (hk:k<l.length) (hb:Below w0.heap.size w0 w) (hlen:cs.length=S.m) (hR:S.R w cs l[k] fp) (ho:Own w w0.heap.size fp) :
  ∃ R',Filling S g e l (k+1) (Zeb w g (k * S.m) cs) (L++[⟨cs,l[k],fp⟩]) R':=by
 have h:=h0.below hb
 have hg0:=h0.lt
 have hap:∀ x∈L,∀ b∈x.fp,b∈L.flatMap (·.fp):=λ x hx b hb'=>List.mem_flatMap.2 ⟨x,hx,hb'⟩
 have hn:∀ b∈L.flatMap (·.fp),b∉[g]:=λ b hb'=>by have:=(h.own.2 b hb').1;simp;omega
 have hn2:∀ b∈fp,b∉[g]:=λ b hb'=>by have:=(ho.2 b hb').1;simp;omega
 have hK:=ZbA (g:=g) cs w (k * S.m)
 have hr:=h.rest (by omega)
 have hsp:(l.length-k) * S.m=S.m+(l.length-(k+1)) * S.m:=by rw [show l.length-k=(l.length-(k+1))+1 by omega,Nat.succ_mul];omega
 refine ⟨R.drop S.m,⟨?_,?_,λ x hx=>?_,λ x hx=>?_,?_⟩⟩
 ·have:=ZbJ cs w _ (k * S.m) h.row
  have e1:L.flatMap (·.cells)++R=L.flatMap (·.cells)++(R.take S.m++R.drop S.m):=by rw [List.take_append_drop]
  rw [e1,← h.cells (by omega),Zbz cs _ (R.take S.m) (R.drop S.m) (by rw [List.length_take,hlen];omega)] at this
  rw [List.flatMap_append,List.flatMap_cons,List.flatMap_nil,List.append_nil,List.append_assoc,← h.cells (by omega)]
  exact this
 ·rw [List.map_append,h.dat,List.take_succ_eq_append_getElem hk];rfl
 ·rcases Qa hx with hx | hx
  ·exact h.len x hx
  ·obtain rfl:=Qm hx;exact hlen
 ·rcases Qa hx with hx | hx
  ·exact S.kept (h.el x hx) (λ b hb'=>hn b (hap x hx b hb')) hK
  ·obtain rfl:=Qm hx
   exact S.kept hR hn2 hK
 ·rw [List.flatMap_append,List.flatMap_cons,List.flatMap_nil,List.append_nil]
  refine Own.app (h.own.kept hn hK) ((Own.lower ho (by omega)).kept hn2 hK) λ b hb1 hb2=>?_
  have h1:=(ho.2 b hb2).1
  have h2:=h0.own.lt b hb1
  omega
theorem Filling.done (h:Filling S g e l k w L R) (hk:l.length=k):∃ fp,(Zaa S).R w [.slice (some ⟨g,0,none⟩) l.length l.length] l fp/\Own w g fp:=by
 have hc:=h.count (by omega)
 have hr:R=[]:=by
  have:=h.rest (by omega)
  rw [hk,Nat.sub_self,Nat.zero_mul] at this
  exact List.length_eq_zero_iff.1 this
 have hd:=h.dat
 rw [List.take_of_length_le (by omega)] at hd
 have hrow:=h.row
 rw [hr,List.append_nil] at hrow
 have hL:L.length=l.length:=by omega
 rw [← hL] at hrow
 obtain⟨fp,h1,h2,h3⟩:=ZaM hrow (λ x hx=>⟨h.len x hx,h.el x hx⟩)
 rw [hd,hL] at h1
 exact⟨fp,h1,h3 (Own.lower h.own (by omega)) (λ g' hg' hx=>by
  simp only [Value.ownBlock,Qi] at hg'
  have:=(h.own.2 g' hx).1
  omega)⟩
end
theorem ZdI (w:World) (c0 c1 c2:Array Value) (t0 t1 t2:TypeId) :
  (((w.alloc (.cells c0 t0)).alloc (.cells c1 t1)).alloc (.cells c2 t2)).heap[w.heap.size]?=some (.cells c0 t0 (0,0)):=by
 show (((w.heap.push _).push _).push _)[_]?=_
 rw [Array.getElem?_push,if_neg (by simp;omega),Array.getElem?_push,if_neg (by simp),Array.getElem?_push,if_pos rfl]
theorem Zec (w:World) (p:Addr) (v:Value):(w.setCell p v).heap.size=w.heap.size:=by simp [World.setCell]
end Go.Proofs.YtiaiggjfepoahaaGreat
