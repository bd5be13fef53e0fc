/- Texts that the proof of E stands on, in one file. -/
import Derived.Test.YtiaiggjfepoahaaGreatZE1
import Derived.Deep.Slices
import Derived.Lib.Index
import Derived.Lib.Strings
import Derived.Outline
import Derived.Deep.Fields
import Derived.ChangeSame
import Derived.Lib.SmallJoins
set_option linter.unusedVariables false
set_option maxHeartbeats 16000000
set_option maxRecDepth 100000
set_option linter.unusedSimpArgs false
/- Arguments, opened: what can be read as data of a type reads as our shape. -/
namespace Go.Proofs.YtiaiggjfepoahaaGreat
open Go.ChangeShapes Go.WideShapes Go.RowKit
section
variable {H:Type} {enc:TypeId × Value->H} {P:Program} {w:World} {base:Nat} {spare:Nat->Bool} {held:Bool}
def Opens (enc:TypeId × Value->H) (P:Program) (w:World) (base:Nat) (spare:Nat->Bool) (held:Bool) (t:TypeId) {α:Type} (S:Shape α):Prop:=
 ∀ fuel cs x,DataW.trod enc P w base spare held fuel t cs=some x->∃ d fp,S.R w cs d fp
theorem Zdm {t:TypeId} (ht:P.underlying t=some .string):Opens enc P w base spare held t sStr:=by
 intro fuel cs x h
 obtain⟨s,rfl,_,hs⟩:=DataW.trod_string ht h
 exact⟨s,[],rfl,hs,rfl⟩
theorem Zhl {t:TypeId} (ht:P.underlying t=some .bool):Opens enc P w base spare held t sBool:=by
 intro fuel cs x h
 obtain⟨b,rfl,_⟩:=DataW.trod_bool ht h
 exact⟨b,[],rfl,trivial,rfl⟩
theorem Zl6 {t:TypeId} (ht:P.underlying t=some (.int .i64)):Opens enc P w base spare held t sInt:=by
 intro fuel cs x h
 obtain⟨n,rfl,_,hw⟩:=DataW.trod_int ht h
 have:-9223372036854775808<=n/\n<=9223372036854775807:=by simpa [Lit.wf,IntKind.min,IntKind.max,IntKind.signed,IntKind.bits] using hw
 exact⟨n,[],rfl,this,rfl⟩
theorem ZaN (b off n:Nat):Addr.add ⟨b,off,none⟩ n=⟨b,off+n,none⟩:=by
 unfold Addr.add;split
 ·rename_i h;subst h;rfl
 ·rfl
theorem Zb4 {t e:TypeId} {α:Type} {S:Shape α} (ht:P.underlying t=some (.slice e)) (hm:P.cellsOf e=S.m) (h0:0<S.m) (he:Opens enc P w base spare held e S):Opens enc P w base spare held t (Zaa S):=by
 intro fuel cs x h
 rcases DataW.trod_slice ht h with⟨rfl,_⟩ | ⟨a,len,cap,elems,rest,n,_,rfl,_,hb,hl,hc,hlen,hel,_,_⟩
 ·exact⟨[],[],none,0,rfl,by simp,by simp,.inl ⟨rfl,rfl⟩⟩
 ·have each:∀ i,i<len->∃ es d fp,(es.length=S.m/\∀ j,j<S.m->w.cell? (a.add (i * S.m+j))=es[j]?)/\S.R w es d fp:=by
   intro i hi
   have h1:=hel i hi
   rw [List.getElem?_eq_getElem (by omega),Option.bind_eq_some_iff] at h1
   obtain⟨es,h2,h3⟩:=h1
   rw [hm] at h2
   obtain⟨_,h4,h5⟩:=World.cells?_some h2
   obtain⟨d,fp,h6⟩:=he _ _ _ h3
   refine ⟨es,d,fp,⟨h4,λ j hj=>?_⟩,h6⟩
   rw [← h5 j hj,Go.Deep.add_add]
  by_cases hz:len=0
  ·subst hz
   exact⟨[],[],some a,cap,rfl,hl,hc,.inl ⟨rfl,rfl⟩⟩
  ·have hsp:a.spot=none:=by
    obtain⟨es,d,fp,⟨h1,h2⟩,_⟩:=each 0 (by omega)
    have h3:=h2 0 h0
    rw [List.getElem?_eq_getElem (by omega)] at h3
    have e0:a.add (0 * S.m+0)=a:=by simp [Addr.add]
    rw [e0] at h3
    unfold World.cell? at h3
    split at h3
    ·split at h3
     ·simp at h3
     ·rename_i hh;simpa using hh
    ·simp at h3
   obtain⟨b,off,sp⟩:=a
   simp at hsp
   subst hsp
   have hblk:b<w.heap.size:=by
    obtain⟨es,d,fp,⟨h1,h2⟩,_⟩:=each 0 (by omega)
    have h3:=h2 0 h0
    rw [List.getElem?_eq_getElem (by omega),ZaN] at h3
    exact World.block_lt_of_cell? w _ h3
   have hch:∀ i:Nat,∃ y:α × List Nat,i<len->∃ es,ElemAt w b off S.m i es/\S.R w es y.1 y.2:=by
    intro i
    by_cases hi:i<len
    ·obtain⟨es,d,fp,⟨h1,h2⟩,h3⟩:=each i hi
     refine ⟨(d,fp),λ _=>⟨es,⟨h1,λ j hj=>?_⟩,h3⟩⟩
     rw [← h2 j hj,ZaN,Nat.add_assoc]
    ·obtain⟨es,d,fp,_,_⟩:=each 0 (by omega)
     exact⟨(d,fp),λ h=>absurd h hi⟩
   let Y:=λ i=>Classical.choose (hch i)
   have hY:∀ i,i<len->∃ es,ElemAt w b off S.m i es/\S.R w es (Y i).1 (Y i).2:=λ i hi=>Classical.choose_spec (hch i) hi
   have hL:((List.range len).map λ i=>(Y i).1).length=len:=by simp
   refine ⟨(List.range len).map λ i=>(Y i).1,b::(List.range len).flatMap λ i=>(Y i).2,some ⟨b,off,none⟩,cap,by rw [hL],by rw [hL];exact hl,hc,.inr ⟨by rw [hL];omega,b,off,λ i=>(Y i).2,rfl,by rw [hL],hblk,λ i hi=>?_⟩⟩
   rw [hL] at hi
   obtain⟨es,h1,h2⟩:=hY i hi
   exact⟨es,h1,by simpa using h2⟩
theorem ZeO {t:TypeId} {α:Type} {S:Shape α} {v:Value} {d:DataW H} {p:List MemPlace} (ho:Opens enc P w base spare held t S) (h:DataW.Trod enc P w base spare held t v d p):∃ x fp,S.R w v.cells.toList x fp:=by
 obtain⟨fuel,hf⟩:=h
 exact ho fuel _ _ hf
end
open Go.RowKit
theorem Zd6 {P:Program} {t e:TypeId} {z:Value} {size bytes:Nat} (ti:TI P t e z size bytes) (hzs:z.cells.size=size) (h0:0<size) (w0:World) (xs:List Value) (x:List Value) (hxl:x.length=size) (hx1:∀ u∈x,u.oneCell'=true) {ops:Array Oper} {rest:List Oper} {o:Oper} {a:Act} {Q:Exit->Act->World->Prop}
  (hg:o.guard=none) (s y:Operand) (ho:o.op=.call { callee:=.builtin .append,args:=#[s,y],argTypes:=#[t,t] })
  (base:Nat) (v:Value) (n:Nat) (hs:a.eval s=v) (hown:w0.ownsRow base e size v n xs)
  (hy:a.eval y=.slice (some ⟨w0.heap.size,0,none⟩) 1 1)
  (h63:n+1<=maxLen) (hbytes:(n+1) * bytes<=140737488355328) (hbase:base<=w0.heap.size)
  (h:∀ v' w',w'.ownsRow base e size v' (n+1) (xs++x)->w0.grownBy w' v.ownBlock->wpList P ops Q rest (a.put o.dst v') w'):wpList P ops Q (o::rest) a (w0.alloc (.cells x.toArray e)):=by
 obtain⟨i,hi,hz0,hz1,hz2⟩:=info_parts ti.2
 refine wpList_append_own _ hg s y t ho base e i z size bytes ti.1 hi hz0 hz1 hz2 hzs h0 v n xs hs (hown.alloc _) ⟨w0.heap.size,0,none⟩ 1 1 x hy (by omega) ?_ hx1 h63 hbytes (by simp;omega) λ v' w' a b _=>h v' w' a (Zdg (World.grownBy_alloc _ _ _) b)
 intro j u hj
 rw [ZaN,Nat.zero_add]
 rw [World.cell?_alloc_at _ _ _ _ rfl]
 simpa using hj
theorem Zdw {α:Type} {f:α->List Value} {m:Nat}:∀ {L:List α} (_:∀ x∈L,(f x).length=m) {i:Nat} (hi:i<L.length) {j:Nat} (_:j<m),(L.flatMap f)[i * m+j]?=(f L[i])[j]?
 | [],_,i,hi,_,_=>by simp at hi
 |
  x::L,hL,0,_,j,hj=>by
  rw [List.flatMap_cons,List.getElem?_append_left (by rw [hL x (by simp)];omega)]
  simp
 |
  x::L,hL,i+1,hi,j,hj=>by
  have hx:=hL x (by simp)
  have e:(i+1) * m+j=m+(i * m+j):=by rw [Nat.succ_mul];omega
  rw [List.flatMap_cons,List.getElem?_append_right (by rw [hx,e];omega),hx,e,Nat.add_sub_cancel_left]
  exact Zdw (λ y hy=>hL y (by simp [hy])) (by simpa using hi) hj
theorem ZaT {α:Type} {f:α->List Value} {m:Nat}:∀ {L:List α},(∀ x∈L,(f x).length=m)->(L.flatMap f).length=L.length * m
 | [],_=>by simp
 | x::L,hL=>by rw [List.flatMap_cons,List.length_append,hL x (by simp),ZaT (λ y hy=>hL y (by simp [hy])),List.length_cons,Nat.succ_mul,Nat.add_comm]
structure Elem (α:Type) where
 cells:List Value
 d:α
 fp:List Nat
theorem Zlv {L:List (List Nat)}:(List.range L.length).flatMap (λ i=>L.getD i [])=L.flatten:=by
 have:(List.range L.length).map (λ i=>L.getD i [])=L:=by
  apply List.ext_getElem (by simp)
  intro i h1 h2
  simp [List.getD_eq_getElem?_getD,List.getElem?_eq_getElem h2]
 rw [List.flatMap_def,this]
theorem Za7 {α:Type} {S:Shape α} {w:World} {base e:Nat} {v:Value} {L:List (Elem α)} (h:w.ownsRow base e S.m v L.length (L.flatMap (·.cells))) (hR:∀ x∈L,x.cells.length=S.m/\S.R w x.cells x.d x.fp) :
  ∃ fp,(Zaa S).R w [v] (L.map (·.d)) fp/\(∀ b∈fp,v.ownBlock=some b\/b∈L.flatMap (·.fp)) /\
   (Own w base (L.flatMap (·.fp))->(∀ g,v.ownBlock=some g->g∉L.flatMap (·.fp))->Own w base fp):=by
 by_cases h0:L=[]
 ·subst h0
  rcases h.2 with⟨rfl,_⟩ | ⟨g,cap,cur,rfl,hb,hg,hnc,hcm,hcs,htake⟩
  ·exact⟨[],⟨none,0,rfl,by simp,by simp,.inl ⟨rfl,rfl⟩⟩,by simp,λ _ _=>Own.nil _ _⟩
  ·exact⟨[],⟨_,cap,rfl,by simp,hcm,.inl ⟨rfl,rfl⟩⟩,by simp,λ _ _=>Own.nil _ _⟩
 ·have hpos:0<L.length:=List.length_pos_iff.2 h0
  rcases h.2 with⟨_,h1⟩ | ⟨g,cap,cur,rfl,hb,hg,hnc,hcm,hcs,htake⟩
  ·omega
  ·have hlt:g<w.heap.size:=(Qg hg).1
   have e1:(List.range L.length).flatMap (λ i=>(L.map (·.fp)).getD i [])=L.flatMap (·.fp):=by
    have:=Zlv (L:=L.map (·.fp))
    rw [List.length_map] at this
    rw [this,List.flatMap_def]
   refine ⟨g::L.flatMap (·.fp),⟨_,cap,by simp,by simpa using hnc,hcm,.inr ⟨by simpa using hpos,g,0,λ i=>(L.map (·.fp)).getD i [],rfl,by rw [List.length_map,e1],hlt,λ i hi=>?_⟩⟩,?_,?_⟩
   ·have hi':i<L.length:=by simpa using hi
    have hx:=hR L[i] (List.getElem_mem hi')
    refine ⟨L[i].cells,⟨hx.1,λ j hj=>?_⟩,?_⟩
    ·rw [Nat.zero_add,h.cellAt (i * S.m+j) (by have:(i+1) * S.m<=L.length * S.m:=Nat.mul_le_mul_right _ hi';rw [Nat.succ_mul] at this;omega)]
     exact Zdw (f:=Elem.cells) (λ x hx=>(hR x hx).1) hi' hj
    ·have e2:(L.map (·.fp)).getD i []=L[i].fp:=by simp [List.getD_eq_getElem?_getD,List.getElem?_eq_getElem hi']
     show S.R w L[i].cells (L.map (·.d))[i] ((L.map (·.fp)).getD i [])
     rw [e2]
     simpa using hx.2
   ·intro b hb'
    rcases List.mem_cons.1 hb' with rfl | hb'
    ·exact .inl rfl
    ·exact .inr hb'
   ·intro ho hn
    exact⟨List.nodup_cons.2 ⟨hn g rfl,ho.1⟩,λ b hb'=>by
     rcases List.mem_cons.1 hb' with rfl | hb'
     ·exact⟨hb,cur,e,hg⟩
     ·exact ho.2 b hb'⟩
theorem Zac {α:Type} {S:Shape α} {w:World} {v:Value} {l:List α} {fp:List Nat} (H:(Zaa S).R w [v] l fp) :
  ∃ a cap,v=.slice a l.length cap/\l.length<=cap/\cap<=maxLen/\(0<l.length->∃ b off fps,a=some ⟨b,off,none⟩/\b<w.heap.size/\fp=b::(List.range l.length).flatMap fps/\∀ i,(hi:i<l.length)->∃ es,ElemAt w b off S.m i es/\S.R w es l[i] (fps i)):=by
 obtain⟨a,cap,hv,hc,hm,h⟩:=H
 refine ⟨a,cap,by simpa using hv,hc,hm,λ h0=>?_⟩
 rcases h with⟨rfl,_⟩ | ⟨_,b,off,fps,rfl,rfl,hb,he⟩
 ·simp at h0
 ·exact⟨b,off,fps,rfl,hb,rfl,he⟩
theorem row_upd {α:Type} {S:Shape α} {w w':World} {b off n cap:Nat} {l:List α} {fps:Nat->List Nat} (hn:l.length=n) (hc:n<=cap) (hm:cap<=maxLen) (h0:0<n)
  (he:∀ i,(hi:i<l.length)->∃ es,ElemAt w b off S.m i es/\S.R w es l[i] (fps i)) {i:Nat} {d:α} {es':List Value}
  (hb:b<w'.heap.size) (hcell:∀ j k,j<n->j≠i->k<S.m->w'.cell? ⟨b,off+j * S.m+k,none⟩=w.cell? ⟨b,off+j * S.m+k,none⟩)
  (hother:∀ j,j<n->j≠i->∀ x∈fps j,w'.heap[x]?=w.heap[x]?)
  (hi':ElemAt w' b off S.m i es') (hR:S.R w' es' d (fps i)) :
  (Zaa S).R w' [.slice (some ⟨b,off,none⟩) n cap] (l.set i d) (b::(List.range n).flatMap fps):=by
 subst hn
 refine ⟨_,cap,by simp,by simpa using hc,hm,.inr ⟨by simpa using h0,b,off,fps,rfl,by simp,hb,λ j hj=>?_⟩⟩
 have hj':j<l.length:=by simpa using hj
 by_cases e:j=i
 ·subst e
  rw [List.getElem_set_self]
  exact⟨es',hi',hR⟩
 ·obtain⟨es,h1,h2⟩:=he j hj'
  rw [List.getElem_set_ne (λ h=>e h.symm)]
  exact⟨es,⟨h1.1,λ k hk=>(hcell j k hj' e hk).trans (h1.2 k hk)⟩,S.frame (hother j hj' e) h2⟩
def tEnd (s:ByteArray) (k:Nat):Nat:=
 if h:k<s.size then (if s[k].toNat=34 then k+1 else if s[k].toNat=92 then tEnd s (k+2) else tEnd s (k+1)) else s.size
termination_by s.size-k
theorem ZcJ {s:ByteArray} {k:Nat} (h:k<s.size) (hc:s[k].toNat=34):tEnd s k=k+1:=by rw [tEnd,dif_pos h,if_pos hc]
theorem ZcC {s:ByteArray} {k:Nat} (h:k<s.size) (hc:s[k].toNat=92):tEnd s k=tEnd s (k+2):=by rw [tEnd,dif_pos h,if_neg (by omega),if_pos hc]
theorem Zcb {s:ByteArray} {k:Nat} (h:k<s.size) (h1:¬ s[k].toNat=34) (h2:¬ s[k].toNat=92):tEnd s k=tEnd s (k+1):=by rw [tEnd,dif_pos h,if_neg h1,if_neg h2]
theorem Zcw {s:ByteArray} {k:Nat} (h:s.size<=k):tEnd s k=s.size:=by rw [tEnd,dif_neg (by omega)]
theorem Zgr (s:ByteArray) (k:Nat):tEnd s k<=s.size/\(k<=s.size->k<=tEnd s k):=by
 induction k using tEnd.induct (s:=s) with
 | case1 k h hc=>rw [ZcJ h hc];omega
 |
  case2 k h h1 hc ih=>rw [ZcC h hc];exact⟨ih.1,λ _=>by
  by_cases h2:k+2<=s.size
  ·have:=ih.2 h2;omega
  ·rw [Zcw (by omega)];omega⟩
 | case3 k h h1 h2 ih=>rw [Zcb h h1 h2];exact⟨ih.1,λ _=>by have:=ih.2 (by omega);omega⟩
 | case4 k h=>rw [Zcw (by omega)];omega
def two (s:ByteArray) (k:Nat) (a b:UInt8):Bool:=[a,b].isPrefixOf (s.data.toList.drop k)
theorem take_two (l:List UInt8) (a b:UInt8):(l.take 2==[a,b])=[a,b].isPrefixOf l:=by
 match l with
 | []=>rfl
 | [x]=>simp [List.isPrefixOf]
 |
  x::y::t =>
  show ([x,y]==[a,b])=(a==x && (b==y && true))
  rw [Bool.eq_iff_iff,beq_iff_eq,Bool.and_eq_true,Bool.and_eq_true,beq_iff_eq,beq_iff_eq,List.cons.injEq,List.cons.injEq]
  exact⟨λ h=>⟨h.1.symm,h.2.1.symm,rfl⟩,λ h=>⟨h.1.symm,h.2.1.symm,rfl⟩⟩
theorem ZdJ (s:ByteArray) (i j:Nat):(s.extract i j).data.toList=(s.data.toList.drop i).take (j-i):=by
 rw [ByteArray.data_extract,Array.toList_extract,List.extract_eq_take_drop]
theorem Zbk (s:ByteArray) (k:Nat) (a b:UInt8):((s.extract k (k+2)).toList==[a,b])=two s k a b:=by
 rw [ByteArray.toList_eq,ZdJ,show k+2-k=2 from by omega,take_two];rfl
theorem ext_min (s:ByteArray) (k:Nat):s.extract k (min s.size (k+2))=s.extract k (k+2):=by
 apply Go.WideShapes.bytes_inj
 rw [ZdJ,ZdJ]
 by_cases h:k+2<=s.size
 ·rw [Nat.min_eq_right h]
 ·have e:s.data.toList.length=s.size:=Array.length_toList
  rw [Nat.min_eq_left (by omega),List.take_of_length_le (by rw [List.length_drop];omega),List.take_of_length_le (by rw [List.length_drop];omega)]
theorem ZdK {s:ByteArray} {k:Nat} {a b:UInt8} (h:two s k a b=true):k+1<s.size:=by
 have e:s.data.toList.length=s.size:=Array.length_toList
 have:=List.IsPrefix.length_le (List.isPrefixOf_iff_prefix.1 h)
 simp only [List.length_cons,List.length_nil,List.length_drop] at this
 omega
def cEnd (s:ByteArray) (k:Nat):Int:=if Lib.index (s.data.toList.drop k) [42,47]<0 then -1 else k+Lib.index (s.data.toList.drop k) [42,47]+2
theorem Zhm:∀ (l:List UInt8) {sub:List UInt8},0<=Lib.index l sub->(Lib.index l sub).toNat+sub.length<=l.length
 |
  [],sub,h=>by
  unfold Lib.index at *
  split at h
  ·rename_i h1;have:sub=[]:=by simpa using h1
   subst this;simp
  ·omega
 |
  b::l,sub,h=>by
  unfold Lib.index at *
  split at h
  ·rename_i h1
   rw [if_pos h1]
   have:=List.IsPrefix.length_le (List.isPrefixOf_iff_prefix.1 h1)
   simpa using this
  ·rename_i h1
   rw [if_neg h1]
   split at h
   ·omega
   ·rename_i h2
    rw [if_neg h2]
    have h3:=Lib.index_ge l sub
    have h4:¬ Lib.index l sub=-1:=by simpa using h2
    have:=Zhm l (sub:=sub) (by omega)
    simp only [List.length_cons]
    omega
theorem ZiQ {s:ByteArray} {k:Nat} (h:0<=cEnd s k) (hk:k<=s.size):(k:Int)+2<=cEnd s k/\cEnd s k<=s.size:=by
 unfold cEnd at *
 split at h
 ·omega
 ·rename_i h1
  rw [if_neg h1]
  have:=Zhm (s.data.toList.drop k) (sub:=[42,47]) (by omega)
  have e:s.data.toList.length=s.size:=Array.length_toList
  simp only [List.length_cons,List.length_nil,List.length_drop] at this
  omega
def strip1 (s:ByteArray) (k:Nat):Option ByteArray:=
 if h:k<s.size then
  if two s k 47 47=true then some ⟨#[]⟩
  else if two s k 47 42=true then
   if cEnd s (k+2)<0 then none else (strip1 s (max (k+1) (cEnd s (k+2)).toNat)).map (⟨#[32]⟩++·)
  else if s[k].toNat=34 then (strip1 s (max (k+1) (tEnd s (k+1)))).map (s.extract k (tEnd s (k+1))++·)
  else (strip1 s (k+1)).map (s.extract k (k+1)++·)
 else some ⟨#[]⟩
termination_by s.size-k
def At1 (s:ByteArray) (k:Nat) (out:ByteArray):Prop:=(strip1 s k).map (out++·)=strip1 s 0/\out.size<=k
theorem Zfu (a b:ByteArray) (o:Option ByteArray):(o.map (b++·)).map (a++·)=o.map ((a++b)++·):=by
 rw [Option.map_map];congr 1;funext x;simp [ByteArray.append_assoc]
theorem Zk4 (a:ByteArray):a++(⟨#[]⟩:ByteArray)=a:=by apply Go.WideShapes.bytes_inj;simp
theorem At1.line {s:ByteArray} {k:Nat} {out:ByteArray} (h:At1 s k out) (hk:k<s.size) (h1:two s k 47 47=true):strip1 s 0=some out:=by
 rw [← h.1,strip1,dif_pos hk,if_pos h1,Option.map_some,Zk4]
theorem At1.done {s:ByteArray} {k:Nat} {out:ByteArray} (h:At1 s k out) (hk:s.size<=k):strip1 s 0=some out:=by
 rw [← h.1,strip1,dif_neg (by omega),Option.map_some,Zk4]
theorem At1.open_ {s:ByteArray} {k:Nat} {out:ByteArray} (h:At1 s k out) (hk:k<s.size) (h1:two s k 47 47=false) (h2:two s k 47 42=true) (h3:cEnd s (k+2)<0):strip1 s 0=none:=by
 rw [← h.1,strip1,dif_pos hk,if_neg (by simp [h1]),if_pos h2,if_pos h3];rfl
theorem At1.comment {s:ByteArray} {k:Nat} {out:ByteArray} (h:At1 s k out) (hk:k<s.size) (h1:two s k 47 47=false) (h2:two s k 47 42=true) (h3:¬ cEnd s (k+2)<0):At1 s (cEnd s (k+2)).toNat (out++⟨#[32]⟩):=by
 have hr:=ZdK h2
 have hc:=ZiQ (s:=s) (k:=k+2) (by omega) (by omega)
 refine ⟨?_,by rw [ByteArray.size_append];have:=h.2;show out.size+1<=_;omega⟩
 rw [← h.1,strip1.eq_def s k,dif_pos hk,if_neg (by simp [h1]),if_pos h2,if_neg h3,Zfu,Nat.max_eq_right (by omega)]
theorem At1.text {s:ByteArray} {k:Nat} {out:ByteArray} (h:At1 s k out) (hk:k<s.size) (h1:two s k 47 47=false) (h2:two s k 47 42=false) (h3:s[k].toNat=34):At1 s (tEnd s (k+1)) (out++s.extract k (tEnd s (k+1))):=by
 have hb:=Zgr s (k+1)
 have hb2:=hb.2 (by omega)
 refine ⟨?_,by rw [ByteArray.size_append,ByteArray.size_extract];have:=h.2;omega⟩
 rw [← h.1,strip1.eq_def s k,dif_pos hk,if_neg (by simp [h1]),if_neg (by simp [h2]),if_pos h3,Zfu,Nat.max_eq_right (by omega)]
theorem At1.byte {s:ByteArray} {k:Nat} {out:ByteArray} (h:At1 s k out) (hk:k<s.size) (h1:two s k 47 47=false) (h2:two s k 47 42=false) (h3:¬ s[k].toNat=34):At1 s (k+1) (out++s.extract k (k+1)):=by
 refine ⟨?_,by rw [ByteArray.size_append,ByteArray.size_extract];have:=h.2;omega⟩
 rw [← h.1,strip1.eq_def s k,dif_pos hk,if_neg (by simp [h1]),if_neg (by simp [h2]),if_neg h3,Zfu]
theorem Zgs {s:ByteArray} (h:ZaM s=true):s.size<=200:=by
 unfold ZaM at h
 rw [Bool.and_eq_true,decide_eq_true_eq] at h
 exact h.1
structure Tok where
 kind:Int
 text:ByteArray
 spaced:Bool
 hidden:List ByteArray
theorem Tok.ext' {a b:Tok} (h1:a.kind=b.kind) (h2:a.text=b.text) (h3:a.spaced=b.spaced) (h4:a.hidden=b.hidden):a=b:=by
 cases a;cases b;simp_all
instance:DecidableEq Tok:=λ a b =>
 if h1:a.kind=b.kind then if h2:a.text=b.text then if h3:a.spaced=b.spaced then if h4:a.hidden=b.hidden then isTrue (Tok.ext' h1 h2 h3 h4)
  else isFalse λ h=>h4 (by rw [h]) else isFalse λ h=>h3 (by rw [h]) else isFalse λ h=>h2 (by rw [h]) else isFalse λ h=>h1 (by rw [h])
def isLet (c:UInt8):Bool:=decide (97<=c.toNat/\c.toNat<=122\/65<=c.toNat/\c.toNat<=90\/c.toNat=95)
def isDig (c:UInt8):Bool:=decide (48<=c.toNat/\c.toNat<=57)
def Zan (c:UInt8):Bool:=isLet c || isDig c
theorem Zfv (c:UInt8):isLet c=true ↔ (97<=c.toNat/\c.toNat<=122\/65<=c.toNat/\c.toNat<=90\/c.toNat=95):=by unfold isLet;exact decide_eq_true_iff
theorem Zdn (c:UInt8):isDig c=true ↔ (48<=c.toNat/\c.toNat<=57):=by unfold isDig;exact decide_eq_true_iff
theorem ZeP (c:UInt8):Zan c=true ↔ ((97<=c.toNat/\c.toNat<=122\/65<=c.toNat/\c.toNat<=90\/c.toNat=95)\/(48<=c.toNat/\c.toNat<=57)):=by
 unfold Zan;rw [Bool.or_eq_true,Zfv,Zdn]
def wEnd (s:ByteArray) (k:Nat):Nat:=if h:k<s.size then (if Zan s[k]=true then wEnd s (k+1) else k) else k
termination_by s.size-k
theorem Zbl {s:ByteArray} {k:Nat} (h:k<s.size) (hc:Zan s[k]=true):wEnd s k=wEnd s (k+1):=by rw [wEnd,dif_pos h,if_pos hc]
theorem ZbA {s:ByteArray} {k:Nat} (h:k<s.size) (hc:Zan s[k]=false):wEnd s k=k:=by rw [wEnd,dif_pos h,if_neg (by simp [hc])]
theorem Zcx {s:ByteArray} {k:Nat} (h:s.size<=k):wEnd s k=k:=by rw [wEnd,dif_neg (by omega)]
theorem Zel (s:ByteArray) (k:Nat):k<=wEnd s k/\(k<=s.size->wEnd s k<=s.size):=by
 induction k using wEnd.induct (s:=s) with
 | case1 k h hc ih=>rw [Zbl h hc];exact⟨by omega,λ _=>ih.2 (by omega)⟩
 | case2 k h hc=>rw [ZbA h (by simpa using hc)];omega
 | case3 k h=>rw [Zcx (by omega)];omega
def tClose (s:ByteArray) (k:Nat):Option Nat:=
 if h:k<s.size then (if s[k].toNat=34 then some (k+1) else if s[k].toNat=92 then tClose s (k+2) else tClose s (k+1)) else none
termination_by s.size-k
theorem Za8 {s:ByteArray} {k:Nat} (h:k<s.size) (hc:s[k].toNat=34):tClose s k=some (k+1):=by rw [tClose,dif_pos h,if_pos hc]
theorem Zbp {s:ByteArray} {k:Nat} (h:k<s.size) (hc:s[k].toNat=92):tClose s k=tClose s (k+2):=by rw [tClose,dif_pos h,if_neg (by omega),if_pos hc]
theorem Zbf {s:ByteArray} {k:Nat} (h:k<s.size) (h1:¬ s[k].toNat=34) (h2:¬ s[k].toNat=92):tClose s k=tClose s (k+1):=by rw [tClose,dif_pos h,if_neg h1,if_neg h2]
theorem ZeQ {s:ByteArray} {k:Nat} (h:s.size<=k):tClose s k=none:=by rw [tClose,dif_neg (by omega)]
theorem Za1 {s:ByteArray} {k e:Nat} (h:tClose s k=some e):k+1<=e/\e<=s.size/\tEnd s k=e/\∃ hh:e-1<s.size,s[e-1].toNat=34:=by
 induction k using tClose.induct (s:=s) with
 |
  case1 k hk hc =>
  rw [Za8 hk hc,Qi] at h
  subst h
  exact⟨by omega,by omega,ZcJ hk hc,by simp;omega,hc⟩
 |
  case2 k hk h1 hc ih =>
  rw [Zbp hk hc] at h
  obtain⟨a,b,c,d⟩:=ih h
  exact⟨by omega,b,by rw [ZcC hk hc,c],d⟩
 |
  case3 k hk h1 h2 ih =>
  rw [Zbf hk h1 h2] at h
  obtain⟨a,b,c,d⟩:=ih h
  exact⟨by omega,b,by rw [Zcb hk h1 h2,c],d⟩
 | case4 k hk=>rw [ZeQ (by omega)] at h;exact absurd h (by simp)
theorem ZkF {s:ByteArray} {k:Nat} (h:tClose s k=none):tEnd s k=s.size:=by
 induction k using tClose.induct (s:=s) with
 | case1 k hk hc=>rw [Za8 hk hc] at h;simp at h
 | case2 k hk h1 hc ih=>rw [Zbp hk hc] at h;rw [ZcC hk hc,ih h]
 | case3 k hk h1 h2 ih=>rw [Zbf hk h1 h2] at h;rw [Zcb hk h1 h2,ih h]
 | case4 k hk=>exact Zcw (by omega)
def plus (s:ByteArray):ByteArray:=s++⟨#[32]⟩
theorem Zbh (s:ByteArray):(plus s).size=s.size+1:=by unfold plus;rw [ByteArray.size_append];rfl
theorem Zf6 (s:ByteArray) (k:Nat) (h:k<s.size):(plus s)[k]'(by rw [Zbh];omega)=s[k]:=by
 unfold plus;rw [ByteArray.getElem_append_left h]
theorem Zjx (s:ByteArray):(plus s)[s.size]'(by rw [Zbh];omega)=32:=by
 unfold plus;rw [ByteArray.getElem_append_right (Nat.le_refl _)];simp;rfl
theorem Zl7 (s:ByteArray) (k:Nat) (hk:k<=s.size+1):tEnd (plus s) k=match tClose s k with | some e=>e | none=>s.size+1:=by
 induction k using tClose.induct (s:=s) with
 |
  case1 k h hc =>
  rw [Za8 h hc,ZcJ (by rw [Zbh];omega) (by rw [Zf6 s k h];exact hc)]
 |
  case2 k h h1 hc ih =>
  rw [Zbp h hc,ZcC (by rw [Zbh];omega) (by rw [Zf6 s k h];exact hc)]
  exact ih (by omega)
 |
  case3 k h h1 h2 ih =>
  rw [Zbf h h1 h2,Zcb (by rw [Zbh];omega) (by rw [Zf6 s k h];exact h1) (by rw [Zf6 s k h];exact h2)]
  exact ih (by omega)
 |
  case4 k h =>
  rw [ZeQ (by omega)]
  by_cases e:k=s.size
  ·subst e
   rw [Zcb (by rw [Zbh];omega) (by rw [Zjx];decide) (by rw [Zjx];decide),Zcw (by rw [Zbh];omega),Zbh]
  ·rw [Zcw (by rw [Zbh];omega),Zbh]
def bk (s:ByteArray) (k e:Nat):Nat:=if h:k<e/\k<s.size then (if s[k].toNat=92 then bk s (k+2) e else bk s (k+1) e) else k
termination_by e-k
theorem Zia {s:ByteArray} {k e:Nat} (h:k<e) (h':k<s.size) (hc:s[k].toNat=92):bk s k e=bk s (k+2) e:=by rw [bk,dif_pos ⟨h,h'⟩,if_pos hc]
theorem Zib {s:ByteArray} {k e:Nat} (h:k<e) (h':k<s.size) (hc:¬ s[k].toNat=92):bk s k e=bk s (k+1) e:=by rw [bk,dif_pos ⟨h,h'⟩,if_neg hc]
theorem Zjy {s:ByteArray} {k e:Nat} (h:e<=k):bk s k e=k:=by rw [bk,dif_neg (by omega)]
theorem Zl8 {s:ByteArray} {k e:Nat} (h:tClose s k=some e):bk s k (e-1)=e-1:=by
 induction k using tClose.induct (s:=s) with
 |
  case1 k hk hc =>
  rw [Za8 hk hc,Qi] at h
  subst h
  rw [Zjy (by omega)];omega
 |
  case2 k hk h1 hc ih =>
  rw [Zbp hk hc] at h
  have:=Za1 h
  rw [Zia (by omega) hk hc]
  exact ih h
 |
  case3 k hk h1 h2 ih =>
  rw [Zbf hk h1 h2] at h
  have:=Za1 h
  rw [Zib (by omega) hk h2]
  exact ih h
 | case4 k hk=>rw [ZeQ (by omega)] at h;exact absurd h (by simp)
theorem bk_open {s:ByteArray} {k:Nat} (h:tClose s k=none) (hk:k<s.size) (hq:s[s.size-1].toNat=34):bk s k (s.size-1)≠s.size-1:=by
 induction k using tClose.induct (s:=s) with
 | case1 k hk hc=>rw [Za8 hk hc] at h;simp at h
 |
  case2 k hk' h1 hc ih =>
  rw [Zbp hk' hc] at h
  have hn:k≠s.size-1:=by rintro rfl;omega
  rw [Zia (by omega) hk' hc]
  by_cases h2:k+2<s.size
  ·exact ih h h2 hq
  ·rw [Zjy (by omega)];omega
 |
  case3 k hk' h1 h2 ih =>
  rw [Zbf hk' h1 h2] at h
  have hn:k≠s.size-1:=by rintro rfl;omega
  rw [Zib (by omega) hk' h2]
  exact ih h (by omega) hq
 | case4 k hk'=>omega
def twoAt (s:ByteArray) (k:Nat):Bool:=two s k 61 61 || two s k 33 61 || two s k 60 61 || two s k 62 61 || two s k 38 38 || two s k 124 124 || two s k 35 35
def marks1:List UInt8:=[43,45,42,47,37,60,62,61,33,38,124,40,41,44,35,59,63,58,123,125,91,93,46]
def mLen (s:ByteArray) (k:Nat):Nat:=if twoAt s k=true then 2 else if h:k<s.size then (if s[k]∈marks1 then 1 else 0) else 0
theorem ZeR {s:ByteArray} {k:Nat} (h:twoAt s k=true):k+1<s.size:=by
 unfold twoAt at h
 simp only [Bool.or_eq_true] at h
 rcases h with(((((h | h) | h) | h) | h) | h) | h <;> exact ZdK h
theorem Zfw {s:ByteArray} {k:Nat} (hk:k<s.size):k+mLen s k<=s.size/\mLen s k<=2:=by
 unfold mLen
 split
 ·rename_i h;have:=ZeR h;omega
 ·split <;> (try split) <;> omega
def ZdL (s:ByteArray) (k:Nat):Int:=if 12<wEnd s k-k then -1 else (wEnd s k:Int)
theorem Zgt {s:ByteArray} {k0 k:Nat} (h:k=wEnd s k0) (h1:12<(k:Int)-(k0:Int)):(-1:Int)=ZdL s k0:=by unfold ZdL;rw [← h,if_pos (by omega)]
theorem Zfx {s:ByteArray} {k0 k:Nat} (h:k=wEnd s k0) (h1:¬ 12<(k:Int)-(k0:Int)):(k:Int)=ZdL s k0:=by unfold ZdL;rw [← h,if_neg (by omega)]
def Zc0 (s:ByteArray) (k:Nat):Int:=match tClose s k with | some e=>(e:Int) | none=>-1
theorem Zjz {s:ByteArray} {k e:Nat} (h:tClose s k=some e):Zc0 s k=e:=by unfold Zc0;rw [h]
theorem ZjA {s:ByteArray} {k:Nat} (h:tClose s k=none):Zc0 s k=-1:=by unfold Zc0;rw [h]
def ZcK (s:ByteArray) (k:Nat):Int:=if mLen s k=0 then -1 else ((k+mLen s k:Nat):Int)
def cutKind (c:UInt8):Int:=if isDig c=true then 2 else if isLet c=true then 1 else if c.toNat=34 then 3 else 4
def Zat (s:ByteArray) (k:Nat):Int:=
 if h:k<s.size then
  if Zan s[k]=true then ZdL s k
  else if s[k].toNat=34 then Zc0 s (k+1)
  else ZcK s k
 else -1
theorem ZbL {s:ByteArray} {k:Nat} (h:k<s.size) (hw:Zan s[k]=true):Zat s k=if 12<wEnd s k-k then -1 else (wEnd s k:Int):=by rw [Zat,dif_pos h,if_pos hw];rfl
theorem ZbM {s:ByteArray} {k:Nat} (h:k<s.size) (hw:Zan s[k]=false) (hq:s[k].toNat=34):Zat s k=match tClose s (k+1) with | some e=>(e:Int) | none=>-1:=by rw [Zat,dif_pos h,if_neg (by simp [hw]),if_pos hq];rfl
theorem ZbN {s:ByteArray} {k:Nat} (h:k<s.size) (hw:Zan s[k]=false) (hq:¬ s[k].toNat=34):Zat s k=if mLen s k=0 then -1 else ((k+mLen s k:Nat):Int):=by rw [Zat,dif_pos h,if_neg (by simp [hw]),if_neg hq];rfl
theorem Za6 {s:ByteArray} {k:Nat} (h:0<=Zat s k):(k:Int)+1<=Zat s k/\Zat s k<=s.size/\k<s.size:=by
 by_cases hk:k<s.size
 ·refine ⟨?_,?_,hk⟩ <;>
  ·cases hw:Zan s[k]
   ·by_cases hq:s[k].toNat=34
    ·rw [ZbM hk hw hq] at h ⊢
     cases hc:tClose s (k+1) with
     | none=>rw [hc] at h;exact absurd h (by decide)
     | some e=>have:=Za1 hc;show _<=_;simp only;omega
    ·rw [ZbN hk hw hq] at h ⊢
     have:=Zfw hk
     split at h
     ·omega
     ·rename_i h0;rw [if_neg h0];omega
   ·rw [ZbL hk hw] at h ⊢
    have h1:=Zel s (k+1)
    rw [← Zbl hk hw] at h1
    have:=h1.2 (by omega)
    split at h
    ·omega
    ·rename_i h0;rw [if_neg h0];omega
 ·rw [Zat,dif_neg hk] at h;omega
theorem ZiR (s:ByteArray) (k:Nat):Zat s k<0\/∃ e:Nat,Zat s k=e/\k<e/\e<=s.size:=by
 by_cases h:Zat s k<0
 ·exact .inl h
 ·have:=Za6 (s:=s) (k:=k) (by omega)
  exact .inr ⟨(Zat s k).toNat,by omega,by omega,by omega⟩
def sCut (s:ByteArray) (k:Nat):Int × Int:=
 if h:k<s.size then
  if Zan s[k]=true then (if isLet s[k]=true then 1 else 2,wEnd s (k+1))
  else if s[k].toNat=34 then (match tClose s (k+1) with | some e=>(3,(e:Int)) | none=>(0,k))
  else (4,(k+mLen s k:Nat))
 else (0,k)
def SBad (k:Nat) (c:Int × Int):Prop:=c.2=k\/c.1=0\/(c.1=1\/c.1=2)/\12<c.2-k
theorem let_dig {c:UInt8} (h:isLet c=true):isDig c=false:=by
 rw [Zfv] at h
 cases hd:isDig c
 ·rfl
 ·rw [Zdn] at hd;omega
theorem Zdo {s:ByteArray} {k:Nat} (h:k<s.size) (hw:Zan s[k]=true):sCut s k=(if isLet s[k]=true then 1 else 2,(wEnd s (k+1):Int)):=by rw [sCut,dif_pos h,if_pos hw]
theorem Zem {s:ByteArray} {k e:Nat} (h:k<s.size) (hw:Zan s[k]=false) (hq:s[k].toNat=34) (hc:tClose s (k+1)=some e):sCut s k=(3,(e:Int)):=by rw [sCut,dif_pos h,if_neg (by simp [hw]),if_pos hq,hc]
theorem Zfy {s:ByteArray} {k:Nat} (h:k<s.size) (hw:Zan s[k]=false) (hq:s[k].toNat=34) (hc:tClose s (k+1)=none):sCut s k=(0,(k:Int)):=by rw [sCut,dif_pos h,if_neg (by simp [hw]),if_pos hq,hc]
theorem Zd7 {s:ByteArray} {k:Nat} (h:k<s.size) (hw:Zan s[k]=false) (hq:¬ s[k].toNat=34):sCut s k=(4,((k+mLen s k:Nat):Int)):=by rw [sCut,dif_pos h,if_neg (by simp [hw]),if_neg hq]
theorem sCut_bad {s:ByteArray} {k:Nat} (hk:k<s.size) (h:Zat s k<0):SBad k (sCut s k):=by
 unfold SBad
 cases hw:Zan s[k]
 ·by_cases hq:s[k].toNat=34
  ·rw [ZbM hk hw hq] at h
   cases hc:tClose s (k+1) with
   | none=>rw [Zfy hk hw hq hc];exact .inl rfl
   | some e=>rw [hc] at h;simp only at h;omega
  ·rw [ZbN hk hw hq] at h
   rw [Zd7 hk hw hq]
   split at h
   ·rename_i h0;left;simp only;omega
   ·omega
 ·rw [ZbL hk hw] at h
  rw [Zdo hk hw,← Zbl hk hw]
  split at h
  ·rename_i h0
   refine .inr (.inr ⟨?_,by simp only;omega⟩)
   simp only;split <;> simp
  ·omega
theorem Zl9 {s:ByteArray} {k:Nat} (hk:k<s.size) (h:0<=Zat s k):¬ SBad k (sCut s k)/\sCut s k=(cutKind s[k],Zat s k):=by
 have hr:=Za6 h
 unfold SBad
 cases hw:Zan s[k]
 ·have hd:isDig s[k]=false:=by unfold Zan at hw;simp only [Bool.or_eq_false_iff] at hw;exact hw.2
  have hl:isLet s[k]=false:=by unfold Zan at hw;simp only [Bool.or_eq_false_iff] at hw;exact hw.1
  have hkind:cutKind s[k]=if s[k].toNat=34 then 3 else 4:=by unfold cutKind;rw [if_neg (by simp [hd]),if_neg (by simp [hl])]
  by_cases hq:s[k].toNat=34
  ·rw [hkind,if_pos hq]
   rw [ZbM hk hw hq] at h hr ⊢
   cases hc:tClose s (k+1) with
   | none=>rw [hc] at h;exact absurd h (by decide)
   |
    some e =>
    have:=Za1 hc
    rw [Zem hk hw hq hc]
    refine ⟨?_,rfl⟩
    simp only;omega
  ·rw [hkind,if_neg hq]
   rw [ZbN hk hw hq] at h hr ⊢
   rw [Zd7 hk hw hq]
   split at h
   ·omega
   ·rename_i h0
    rw [if_neg h0] at hr ⊢
    refine ⟨?_,rfl⟩
    simp only;omega
 ·have hkind:cutKind s[k]=if isLet s[k]=true then 1 else 2:=by
   unfold cutKind
   cases hl:isLet s[k]
   ·have hd:isDig s[k]=true:=by unfold Zan at hw;rw [hl] at hw;simpa using hw
    rw [if_pos hd];rfl
   ·rw [if_neg (by simp [let_dig hl]),if_pos rfl,if_pos rfl]
  rw [hkind]
  rw [ZbL hk hw] at h hr ⊢
  rw [Zdo hk hw,← Zbl hk hw]
  split at h
  ·omega
  ·rename_i h0
   rw [if_neg h0] at hr ⊢
   refine ⟨?_,rfl⟩
   simp only;split <;> omega
def toks (s:ByteArray) (k:Nat) (sp:Bool) (n:Nat):Option (List Tok):=
 if h:k<s.size then
  if s[k].toNat=32 then toks s (k+1) true n
  else if Zat s k<0\/n=60 then none
  else (toks s (max (k+1) (Zat s k).toNat) false (n+1)).map (⟨cutKind s[k],s.extract k (Zat s k).toNat,sp,[]⟩::·)
 else some []
termination_by s.size-k
def AtT (s:ByteArray) (k:Nat) (sp:Bool) (out:List Tok):Prop:=(toks s k sp out.length).map (out++·)=toks s 0 false 0/\out.length<=60
theorem AtT.zero (s:ByteArray):AtT s 0 false []:=⟨by simp,by simp⟩
theorem AtT.space {s:ByteArray} {k:Nat} {sp:Bool} {out:List Tok} (h:AtT s k sp out) (hk:k<s.size) (hc:s[k].toNat=32):AtT s (k+1) true out:=
 ⟨by rw [← h.1,toks.eq_def s k,dif_pos hk,if_pos hc],h.2⟩
theorem AtT.bad {s:ByteArray} {k:Nat} {sp:Bool} {out:List Tok} (h:AtT s k sp out) (hk:k<s.size) (hc:¬ s[k].toNat=32) (hb:Zat s k<0\/out.length=60):toks s 0 false 0=none:=by
 rw [← h.1,toks,dif_pos hk,if_neg hc,if_pos hb];rfl
theorem AtT.tok {s:ByteArray} {k e:Nat} {sp:Bool} {out:List Tok} (h:AtT s k sp out) (hk:k<s.size) (hc:¬ s[k].toNat=32) (he:Zat s k=e) (hn:out.length≠60):AtT s e false (out++[⟨cutKind s[k],s.extract k e,sp,[]⟩]):=by
 have hr:=Za6 (s:=s) (k:=k) (by omega)
 refine ⟨?_,by have:=h.2;simp;omega⟩
 rw [← h.1,toks.eq_def s k,dif_pos hk,if_neg hc,if_neg (by omega),he,Int.toNat_natCast,Nat.max_eq_right (by omega),Option.map_map]
 rw [List.length_append]
 congr 1
 funext x
 simp
theorem AtT.done {s:ByteArray} {k:Nat} {sp:Bool} {out:List Tok} (h:AtT s k sp out) (hk:s.size<=k):toks s 0 false 0=some out:=by
 rw [← h.1,toks,dif_neg (by omega)];simp
def Zah (s:ByteArray):List Tok × Bool:=if ZaM s=true then (match toks s 0 false 0 with | some l=>(l,true) | none=>([],false)) else ([],false)
theorem ZeS {s:ByteArray} (h:ZaM s=false):Zah s=([],false):=by unfold Zah;rw [if_neg (by simp [h])]
theorem Zdh {s:ByteArray} (h:toks s 0 false 0=none):Zah s=([],false):=by unfold Zah;rw [h];split <;> rfl
theorem Zen {s:ByteArray} {l:List Tok} (h0:ZaM s=true) (h:toks s 0 false 0=some l):Zah s=(l,true):=by unfold Zah;rw [if_pos h0,h]
def Fresh (B:Nat) (l:List Tok):Prop:=∀ t∈l,t.text.size<=B/\t.hidden=[]/\1<=t.kind/\t.kind<=4
theorem Zhn (c:UInt8):1<=cutKind c/\cutKind c<=4:=by unfold cutKind;split <;> (try split) <;> (try split) <;> omega
theorem Fresh.nil (B:Nat):Fresh B []:=by intro t h;simp at h
theorem Fresh.snoc {B:Nat} {l:List Tok} {s:ByteArray} {k e:Nat} {sp:Bool} {c:UInt8} (h:Fresh B l) (hB:s.size<=B):Fresh B (l++[⟨cutKind c,s.extract k e,sp,[]⟩]):=by
 intro t ht
 rcases Qa ht with ht | ht
 ·exact h t ht
 ·have:=Zhn c
  obtain rfl:=Qm ht
  exact⟨by show (s.extract k e).size<=B;rw [ByteArray.size_extract];omega,rfl,this⟩
open Go.RowKit Go.ChangeShapes Go.WideShapes Go.Deep Go.Joins
def sTok:Shape Tok where
 m:=4
 R w cs d fp:=∃ h,cs=[.int .i64 d.kind,.string d.text,.bool d.spaced,h]/\okInt d.kind/\okStr d.text/\(Zaa sStr).R w [h] d.hidden fp
 frame:=by
  rintro w w' cs d fp hf ⟨h,h1,h2,h3,h4⟩
  exact⟨h,h1,h2,h3,(Zaa sStr).frame hf h4⟩
 lt:=by
  rintro w cs d fp ⟨h,h1,h2,h3,h4⟩
  exact(Zaa sStr).lt h4
theorem ZaE:TI Tryz.prog 28 57 (.agg #[.int .i64 0,.string ⟨#[]⟩,.bool false,.slice none 0 0]) 4 56:=⟨by kernel_rfl,by kernel_rfl⟩
def ZbZ (t:Tok):List Value:=[.int .i64 t.kind,.string t.text,.bool t.spaced,.slice none 0 0]
def TokRow (base:Nat) (v:Value) (l:List Tok) (w:World):Prop:=w.ownsRow base 57 4 v l.length (l.flatMap ZbZ)
theorem TokRow.nil (base:Nat) (w:World):TokRow base (.slice none 0 0) [] w:=World.ownsRow_nil _ _ _ _
theorem TokRow.drew {base:Nat} {v:Value} {l:List Tok} {w:World} (h:TokRow base v l w) (n:Nat):TokRow base v l (w.drewN n):=h
theorem TokRow.slice {base:Nat} {v:Value} {l:List Tok} {w:World} (h:TokRow base v l w):∃ a cap,v=.slice a l.length cap/\cap<=maxLen:=by
 rcases h.2 with⟨rfl,h0⟩ | ⟨g,cap,cur,rfl,_,_,_,hc,_⟩
 ·exact⟨none,0,by rw [h0],by simp⟩
 ·exact⟨_,cap,rfl,hc⟩
theorem TokRow.mine {base:Nat} {v:Value} {l:List Tok} {w:World} (h:TokRow base v l w):∀ b,v.ownBlock=some b->base<=b:=λ b hb=>(h.lt b hb).1
theorem Zfk {w0:World} {ops:Array Oper} {rest:List Oper} {o:Oper} {a:Act} {Q:Exit->Act->World->Prop} (hg:o.guard=none) (s y:Operand)
  (ho:o.op=.call { callee:=.builtin .append,args:=#[s,y],argTypes:=#[28,28] })
  (base:Nat) (v:Value) (l:List Tok) (k:Int) (x:ByteArray) (b:Bool) (hs:a.eval s=v) (hown:TokRow base v l w0) (hy:a.eval y=.slice (some ⟨w0.heap.size,0,none⟩) 1 1) (h63:l.length<=1000000) (hbase:base<=w0.heap.size)
  (h:∀ v' w',TokRow base v' (l++[⟨k,x,b,[]⟩]) w'->w0.grownBy w' v.ownBlock->wpList Tryz.prog ops Q rest (a.put o.dst v') w'):wpList Tryz.prog ops Q (o::rest) a (w0.alloc (.cells #[.int .i64 k,.string x,.bool b,.slice none 0 0] 57)):=by
 refine Zd6 ZaE rfl (by decide) w0 (l.flatMap ZbZ) [.int .i64 k,.string x,.bool b,.slice none 0 0] rfl (by simp [Value.oneCell']) hg s y ho base v l.length hs hown hy (by unfold maxLen;omega) (by omega) hbase λ v' w' h1 h2=>h v' w' ?_ h2
 unfold TokRow
 rw [List.length_append,List.flatMap_append]
 exact h1
theorem ZgQ {w:World} {base:Nat} {v:Value} {l:List Tok} {B:Nat} (h:TokRow base v l w) (hf:Fresh B l) (hB:B<=1000000) :
  ∃ fp,(Zaa sTok).R w [v] l fp/\Own w base fp/\∀ b∈fp,v.ownBlock=some b:=by
 have hL:(l.map λ t=>(⟨ZbZ t,t,[]⟩:Elem Tok)).flatMap (·.cells)=l.flatMap ZbZ:=by rw [List.flatMap_map]
 have hF:(l.map λ t=>(⟨ZbZ t,t,[]⟩:Elem Tok)).flatMap (·.fp)=[]:=by rw [List.flatMap_map];simp
 have hD:(l.map λ t=>(⟨ZbZ t,t,[]⟩:Elem Tok)).map (·.d)=l:=by rw [List.map_map];exact List.map_id _
 obtain⟨fp,h1,h2,h3⟩:=Za7 (S:=sTok) (w:=w) (base:=base) (e:=57) (v:=v) (L:=l.map λ t=>⟨ZbZ t,t,[]⟩) (by rw [hL,List.length_map];exact h) (by
  intro x hx
  obtain⟨t,ht,rfl⟩:=List.mem_map.1 hx
  obtain⟨a1,a2,a3,a4⟩:=hf t ht
  have b1:okInt t.kind:=⟨by omega,by omega⟩
  have b2:okStr t.text:=by unfold okStr maxLen;omega
  have b3:(Zaa sStr).R w [.slice none 0 0] t.hidden []:=by rw [a2];exact ZaC sStr w none 0 (by simp)
  exact⟨rfl,_,rfl,b1,b2,b3⟩)
 rw [hD] at h1
 rw [hF] at h2 h3
 exact⟨fp,h1,h3 (Own.nil _ _) (by simp),λ b hb=>by rcases h2 b hb with h | h;exact h;simp at h⟩
def Zbs (r:List Tok × Bool) (w:World) (e:Ending) (w':World):Prop:=
 ∃ v fp,e=.returned (.tuple #[v,.bool r.2])/\(Zaa sTok).R w' [v] r.1 fp/\Own w' w.heap.size fp/\Below w.heap.size w w'
section
variable {H:Type} {enc:TypeId × Value->H} {P:Program} {w:World} {base:Nat} {spare:Nat->Bool} {held:Bool}
theorem Zma {t:TypeId} {f0 f1 f2 f3:Field} (hs:P.underlying t=some (.struct #[f0,f1,f2,f3])) (hone:oneCellFields P #[f0,f1,f2,f3]=true) (hC:P.cellsOf t=4)
  (h0:Opens enc P w base spare held f0.type sInt) (h1:Opens enc P w base spare held f1.type sStr) (h2:Opens enc P w base spare held f2.type sBool) (h3:Opens enc P w base spare held f3.type (Zaa sStr)):Opens enc P w base spare held t sTok:=by
 intro fuel cs x h
 obtain⟨xs,n,_,hx,hcl,hlen,hg⟩:=DataW.trod_struct hs h
 rw [hC] at hcl
 match cs,hcl with
 |
  [c0,c1,c2,c3],_ =>
  obtain⟨o0,k0⟩:=hone_of hone 0 f0 rfl
  obtain⟨o1,k1⟩:=hone_of hone 1 f1 rfl
  obtain⟨o2,k2⟩:=hone_of hone 2 f2 rfl
  obtain⟨o3,k3⟩:=hone_of hone 3 f3 rfl
  have g0:=hg 0 f0 rfl
  have g1:=hg 1 f1 rfl
  have g2:=hg 2 f2 rfl
  have g3:=hg 3 f3 rfl
  rw [o0,k0] at g0;rw [o1,k1] at g1;rw [o2,k2] at g2;rw [o3,k3] at g3
  match xs,hlen with
  |
   [y0,y1,y2,y3],_ =>
   obtain⟨d0,p0,hc0,hok0,rfl⟩:=h0 n _ _ g0
   obtain⟨d1,p1,hc1,hok1,rfl⟩:=h1 n _ _ g1
   obtain⟨d2,p2,hc2,_,rfl⟩:=h2 n _ _ g2
   obtain⟨d3,p3,hc3⟩:=h3 n _ _ g3
   simp at hc0 hc1 hc2 hc3
   subst hc0;subst hc1;subst hc2
   exact⟨⟨d0,d1,d2,d3⟩,p3,c3,rfl,hok0,hok1,hc3⟩
end
theorem Zab (w:World) (o:Obj):Below w.heap.size w (w.alloc o):=(Below.refl _ _).alloc (Nat.le_refl _) _
theorem Zae {w:World} {b off m i j:Nat} {es:List Value} {v:Value} (h:ElemAt w b off m i es) (hj:j<m) (hv:es[j]?=some v):w.cell? ⟨b,off+i * m+j,none⟩=some v:=(h.2 j hj).trans hv
theorem Zam {w:World} {b off m i:Nat} {es:List Value} {v:Value} (h:ElemAt w b off m i es) (hj:0<m) (hv:es[0]?=some v):w.cell? ⟨b,off+i * m,none⟩=some v:=(h.2 0 hj).trans hv
theorem Zai {w:World} {g:Nat} {cs:Array Value} {t:TypeId} {fr:Nat × Nat} (h:w.heap[g]?=some (.cells cs t fr)) (j:Nat) (v:Value):(w.setCell ⟨g,j,none⟩ v).heap[g]?=some (.cells (cs.setIfInBounds j v) t fr):=by
 simp [World.setCell,Array.getElem?_modify,h]
theorem Zav {w:World} {g g':Nat} {o:Obj} (h:w.heap[g]?=some o) (hn:g≠g') (j:Nat) (v:Value):(w.setCell ⟨g',j,none⟩ v).heap[g]?=some o:=
 (Below.heap_setCell _ _ _ _ hn).trans h
theorem Zcn (w:World) (c0 c1 c2:Array Value) (t0 t1 t2:TypeId) :
  (((w.alloc (.cells c0 t0)).alloc (.cells c1 t1)).alloc (.cells c2 t2)).heap[w.heap.size+1]?=some (.cells c1 t1 (0,0)) /\
  (((w.alloc (.cells c0 t0)).alloc (.cells c1 t1)).alloc (.cells c2 t2)).heap[w.heap.size+1+1]?=some (.cells c2 t2 (0,0)) /\
  (((w.alloc (.cells c0 t0)).alloc (.cells c1 t1)).alloc (.cells c2 t2)).heap.size=w.heap.size+1+1+1:=by
 refine ⟨?_,?_,?_⟩
 ·show (((w.heap.push _).push _).push _)[_]?=_
  rw [Array.getElem?_push,if_neg (by simp),Array.getElem?_push,if_pos (by simp)]
 ·show (((w.heap.push _).push _).push _)[_]?=_
  rw [Array.getElem?_push,if_pos (by simp)]
 ·show (((w.heap.push _).push _).push _).size=_
  simp
theorem Zex (w:World) (c0 c1 c2:Array Value) (t0 t1 t2:TypeId):Below w.heap.size w (((w.alloc (.cells c0 t0)).alloc (.cells c1 t1)).alloc (.cells c2 t2)):=
 (((Below.refl _ _).alloc (Nat.le_refl _) _).alloc (by simp) _).alloc (by simp;omega) _
structure Turned (b lo hi:Nat) (fp:List Nat) (w w':World):Prop where
 kept:Kept (b::fp) w w'
 cells:∀ o,(o<lo\/hi<=o)->w'.cell? ⟨b,o,none⟩=w.cell? ⟨b,o,none⟩
section
variable {b lo hi:Nat} {fp:List Nat} {w w1 w2:World}
theorem Turned.refl (b lo hi:Nat) (fp:List Nat) (w:World):Turned b lo hi fp w w:=⟨Kept.refl _ _,λ _ _=>rfl⟩
theorem Turned.set (h:Turned b lo hi fp w w1) {o:Nat} (h1:lo<=o) (h2:o<hi) (v:Value):Turned b lo hi fp w (w1.setCell ⟨b,o,none⟩ v):=
 ⟨h.kept.setCell (p:=⟨b,o,none⟩) (by simp) v,λ o' ho=>by
  rw [World.cell?_setCell_other _ _ _ _ (by intro hh;simp only [Addr.mk.injEq] at hh;omega)]
  exact h.cells o' ho⟩
theorem Turned.below (h:Turned b lo hi fp w w1) (hb:b<w.heap.size) (hB:Below w1.heap.size w1 w2):Turned b lo hi fp w w2:=
 ⟨h.kept.trans (Kept.of_below hB),λ o ho=>(hB.cell (p:=⟨b,o,none⟩) (Nat.lt_of_lt_of_le hb h.kept.size)).trans (h.cells o ho)⟩
theorem Turned.sub (h:Turned b lo hi fp w w1) (hb:b<w.heap.size) (hk:Kept fp w1 w2) (hn:b∉fp):Turned b lo hi fp w w2:=
 ⟨h.kept.trans (hk.mono λ x hx=>by simp [hx]),λ o ho=>(World.cell?_of_block (a:=⟨b,o,none⟩) (hk.block b (Nat.lt_of_lt_of_le hb h.kept.size) hn)).trans (h.cells o ho)⟩
theorem Turned.sub' {fp':List Nat} (h:Turned b lo hi fp w w1) (hb:b<w.heap.size) (hk:Kept fp' w1 w2) (hs:∀ x∈fp',x∈fp) (hn:b∉fp):Turned b lo hi fp w w2:=
 h.sub hb (hk.mono hs) hn
end
theorem ZeT {f:Nat->List Nat}:∀ {ns:List Nat},(ns.flatMap f).Nodup->(∀ i∈ns,(f i).Nodup)/\ns.Pairwise (λ i j=>∀ x∈f i,x∉f j)
 | [],_=>⟨by simp,List.Pairwise.nil⟩
 |
  n::ns,h=>by
  rw [List.flatMap_cons] at h
  obtain⟨h1,h2,h3⟩:=List.nodup_append.1 h
  obtain⟨a,b⟩:=ZeT h2
  refine ⟨λ i hi=>?_,List.pairwise_cons.2 ⟨λ j hj x hx hx2=>h3 x hx x (List.mem_flatMap.2 ⟨j,hj,hx2⟩) rfl,b⟩⟩
  rcases List.mem_cons.1 hi with rfl | hi
  ·exact h1
  ·exact a i hi
theorem Zdx {b n:Nat} {fps:Nat->List Nat} (h:(b::(List.range n).flatMap fps).Nodup) {i:Nat} (hi:i<n):b∉fps i/\∀ j,j<n->j≠i->∀ x∈fps j,x∉fps i:=by
 obtain⟨h1,h2⟩:=List.nodup_cons.1 h
 refine ⟨λ hx=>h1 (List.mem_flatMap.2 ⟨i,by simpa using hi,hx⟩),λ j hj hne x hx hx2=>?_⟩
 have hp:=(ZeT h2).2
 rw [List.pairwise_iff_getElem] at hp
 rcases Nat.lt_or_gt_of_ne hne with hlt | hlt
 ·have:=hp j i (by simpa using hj) (by simpa using hi) hlt
  simp only [List.getElem_range] at this
  exact this x hx hx2
 ·have:=hp i j (by simpa using hi) (by simpa using hj) hlt
  simp only [List.getElem_range] at this
  exact this x hx2 hx
theorem Zho {α:Type} {S:Shape α} {w w':World} {b off n cap:Nat} {l:List α} {fps:Nat->List Nat} (hn:l.length=n) (hc:n<=cap) (hm:cap<=maxLen) (hb:b<w.heap.size)
  (he:∀ i,(hi:i<l.length)->∃ es,ElemAt w b off S.m i es/\S.R w es l[i] (fps i)) {i:Nat} (hin:i<n) {d:α} {es':List Value}
  (hnd:(b::(List.range n).flatMap fps).Nodup) (hT:Turned b (off+i * S.m) (off+i * S.m+S.m) (fps i) w w')
  (hi':ElemAt w' b off S.m i es') (hR:S.R w' es' d (fps i)) :
  (Zaa S).R w' [.slice (some ⟨b,off,none⟩) n cap] (l.set i d) (b::(List.range n).flatMap fps):=by
 have hap:=Zdx hnd hin
 refine row_upd (w:=w) hn hc hm (by omega) he (Nat.lt_of_lt_of_le hb hT.kept.size) (λ j k hj hji hk=>hT.cells _ ?_) (λ j hj hji x hx=>hT.kept.block x ?_ ?_) hi' hR
 ·rcases Nat.lt_or_gt_of_ne hji with h | h
  ·left
   have:(j+1) * S.m<=i * S.m:=Nat.mul_le_mul_right _ h
   rw [Nat.succ_mul] at this;omega
  ·right
   have:(i+1) * S.m<=j * S.m:=Nat.mul_le_mul_right _ h
   rw [Nat.succ_mul] at this;omega
 ·obtain⟨es,_,h2⟩:=he j (by omega)
  exact S.lt h2 x hx
 ·intro hx2
  rcases List.mem_cons.1 hx2 with rfl | hx2
  ·exact(Zdx hnd hj).1 hx
  ·exact hap.2 j hj hji x hx hx2
theorem Own.part {w w':World} {lo:Nat} {fp fp':List Nat} (h:Own w lo fp) (hk:Kept fp' w w') (h':Own w' lo fp'):Own w' lo fp:=
 ⟨h.1,λ b hb=>by
  by_cases hx:b∈fp'
  ·exact h'.2 b hx
  ·obtain⟨h1,cur,e,h2⟩:=h.2 b hb
   exact⟨h1,cur,e,(hk.block b (Qg h2).1 hx).trans h2⟩⟩
theorem Own.lower {w:World} {lo lo':Nat} {fp:List Nat} (h:Own w lo fp) (hl:lo'<=lo):Own w lo' fp:=⟨h.1,λ b hb=>⟨Nat.le_trans hl (h.2 b hb).1,(h.2 b hb).2⟩⟩
theorem Own.sub {w:World} {lo:Nat} {fp fp':List Nat} (h:Own w lo fp) (hn:fp'.Nodup) (hs:∀ x∈fp',x∈fp):Own w lo fp':=⟨hn,λ b hb=>h.2 b (hs b hb)⟩
theorem ZeU {b n:Nat} {fps:Nat->List Nat} {i:Nat} (hi:i<n):∀ x∈fps i,x∈(b::(List.range n).flatMap fps):=λ x hx=>by
 simp only [List.mem_cons,List.mem_flatMap,List.mem_range];exact .inr ⟨i,hi,hx⟩
theorem Zhp {b n:Nat} {fps:Nat->List Nat} (h:(b::(List.range n).flatMap fps).Nodup) {i:Nat} (hi:i<n):(fps i).Nodup:=by
 have h2:=(List.nodup_cons.1 h).2
 exact(ZeT h2).1 i (by simpa using hi)
theorem Turned.keptAll {b lo hi n:Nat} {fps:Nat->List Nat} {w w':World} {i:Nat} (h:Turned b lo hi (fps i) w w') (hi':i<n):Kept (b::(List.range n).flatMap fps) w w':=
 h.kept.mono λ x hx=>by
  rcases List.mem_cons.1 hx with rfl | hx
  ·simp
  ·exact ZeU hi' x hx
theorem ElemAt.set {w:World} {b off m i:Nat} {es:List Value} (h:ElemAt w b off m i es) {j:Nat} (hj:j<m) (v:Value):ElemAt (w.setCell ⟨b,off+i * m+j,none⟩ v) b off m i (es.set j v):=by
 refine ⟨by simpa using h.1,λ x hx=>?_⟩
 by_cases e:x=j
 ·subst e
  rw [List.getElem?_set_self (by have:=h.1;omega)]
  obtain⟨u,hu⟩:∃ u,w.cell? ⟨b,off+i * m+x,none⟩=some u:=⟨es[x]'(by have:=h.1;omega),by rw [h.2 x hx,List.getElem?_eq_getElem]⟩
  exact World.cell?_setCell_same _ _ _ hu
 ·rw [List.getElem?_set_ne (λ h=>e h.symm),World.cell?_setCell_other _ _ _ _ (by intro hh;simp only [Addr.mk.injEq] at hh;omega)]
  exact h.2 x hx
structure Wr (b off m j lo:Nat) (fpj fpA:List Nat) (wr W:World) (es:List Value):Prop where
 t:Turned b (off+j * m) (off+j * m+m) fpj wr W
 e:ElemAt W b off m j es
 o:Own W lo fpA
 hb:b<wr.heap.size
 hA:b∈fpA
 hN:b∉fpj
section
variable {b off m j lo:Nat} {fpj fpA:List Nat} {wr W W':World} {es:List Value}
theorem Wr.start (e:ElemAt wr b off m j es) (o:Own wr lo fpA) (hb:b<wr.heap.size) (hA:b∈fpA) (hN:b∉fpj):Wr b off m j lo fpj fpA wr wr es:=⟨Turned.refl _ _ _ _ _,e,o,hb,hA,hN⟩
theorem Wr.set (h:Wr b off m j lo fpj fpA wr W es) (i:Nat) (hi:i<m) (v:Value):Wr b off m j lo fpj fpA wr (W.setCell ⟨b,off+j * m+i,none⟩ v) (es.set i v):=
 ⟨h.t.set (by omega) (by omega) v,h.e.set hi v,h.o.setCell _ _,h.hb,h.hA,h.hN⟩
theorem Wr.set0 (h:Wr b off m j lo fpj fpA wr W es) (hi:0<m) (v:Value):Wr b off m j lo fpj fpA wr (W.setCell ⟨b,off+j * m,none⟩ v) (es.set 0 v):=h.set 0 hi v
theorem Wr.below (h:Wr b off m j lo fpj fpA wr W es) (hB:Below W.heap.size W W'):Wr b off m j lo fpj fpA wr W' es:=
 ⟨h.t.below h.hb hB,h.e.frame (hB.block b (Nat.lt_of_lt_of_le h.hb h.t.kept.size)),h.o.grow hB,h.hb,h.hA,h.hN⟩
theorem Wr.sub {fp':List Nat} (h:Wr b off m j lo fpj fpA wr W es) (hk:Kept fp' W W') (ho:Own W' lo fp') (hs:∀ x∈fp',x∈fpj):Wr b off m j lo fpj fpA wr W' es:=
 ⟨h.t.sub' h.hb hk hs h.hN,h.e.frame (hk.block b (Nat.lt_of_lt_of_le h.hb h.t.kept.size) λ hx=>h.hN (hs b hx)),h.o.part hk ho,h.hb,h.hA,h.hN⟩
theorem Wr.cell (h:Wr b off m j lo fpj fpA wr W es) (i:Nat) {v:Value} (hi:i<m) (hv:es[i]?=some v):W.cell? ⟨b,off+j * m+i,none⟩=some v:=Zae h.e hi hv
theorem Wr.cell0 (h:Wr b off m j lo fpj fpA wr W es) {v:Value} (hi:0<m) (hv:es[0]?=some v):W.cell? ⟨b,off+j * m,none⟩=some v:=Zam h.e hi hv
theorem Wr.frozen (h:Wr b off m j lo fpj fpA wr W es) (o:Nat):W.frozen? ⟨b,o,none⟩=false:=h.o.frozen h.hA o
theorem Shape.setB {α:Type} (S:Shape α) {cs:List Value} {d:α} {fp:List Nat} {b:Nat} (h:S.R W cs d fp) (hn:b∉fp) (o:Nat) (v:Value):S.R (W.setCell ⟨b,o,none⟩ v) cs d fp:=
 S.kept (fp:=[b]) h (λ x hx he=>by rw [List.mem_singleton] at he;exact hn (he ▸ hx)) ((Kept.refl _ _).setCell (p:=⟨b,o,none⟩) (by simp) v)
end
def mkAll {α:Type} (f:Int->α->α) (c:α->Nat):Int->List α->List α
 | _,[]=>[]
 | k,x::l=>f k x::mkAll f c (k+c x) l
def ZaD {α:Type} (c:α->Nat) (l:List α):Nat:=(l.map c).sum
section
variable {α:Type} {f:Int->α->α} {c:α->Nat}
theorem Zd8:∀ (k:Int) (l:List α),(mkAll f c k l).length=l.length
 | _,[]=>rfl
 | k,x::l=>by simp [mkAll,Zd8 (k+c x) l]
theorem Zb5 {l:List α} {j:Nat} (h:j<l.length):ZaD c (l.take (j+1))=ZaD c (l.take j)+c l[j]:=by
 unfold ZaD
 rw [List.take_succ_eq_append_getElem h,List.map_append,List.sum_append];simp
theorem Zfz (l:List α) (j:Nat):ZaD c (l.take j)<=ZaD c l:=by
 have:=congrArg (ZaD c) (List.take_append_drop j l)
 unfold ZaD at *
 rw [List.map_append,List.sum_append] at this
 omega
theorem ZfA:∀ {l:List α} (k:Int) (j:Nat) (h:j<l.length),(mkAll f c k l)[j]'(by rw [Zd8];exact h)=f (k+ZaD c (l.take j)) l[j]
 | [],_,_,h=>by simp at h
 | x::l,k,0,_=>by simp [mkAll,ZaD]
 |
  x::l,k,j+1,h=>by
  have ih:=ZfA (l:=l) (k+c x) j (by simpa using h)
  have e:k+(c x:Int)+(ZaD c (l.take j):Int)=k+(ZaD c ((x::l).take (j+1)):Int):=by
   simp only [ZaD,List.take_succ_cons,List.map_cons,List.sum_cons];omega
  rw [e] at ih
  exact ih
def MkUpto (f:Int->α->α) (c:α->Nat) (k:Int) (l:List α) (j:Nat) (L:List α):Prop:=
 L.length=l.length/\∀ i,(h:i<L.length)->(h':i<l.length)->L[i]=if i<j then f (k+ZaD c (l.take i)) l[i] else l[i]
theorem MkUpto.zero (k:Int) (l:List α):MkUpto f c k l 0 l:=⟨rfl,λ i h h'=>by rw [if_neg (by omega)]⟩
theorem MkUpto.len {k:Int} {l L:List α} {j:Nat} (h:MkUpto f c k l j L):L.length=l.length:=h.1
theorem MkUpto.at {k:Int} {l L:List α} {j:Nat} (h:MkUpto f c k l j L) (hj:j<l.length):L[j]'(by rw [h.1];exact hj)=l[j]:=by
 rw [h.2 j (by rw [h.1];exact hj) hj,if_neg (by omega)]
theorem MkUpto.succ {k:Int} {l L:List α} {j:Nat} (h:MkUpto f c k l j L) (hj:j<l.length):MkUpto f c k l (j+1) (L.set j (f (k+ZaD c (l.take j)) l[j])):=by
 refine ⟨by rw [List.length_set];exact h.1,λ i h1 h2=>?_⟩
 by_cases e:i=j
 ·subst e;rw [List.getElem_set_self,if_pos (by omega)]
 ·rw [List.getElem_set_ne (λ h=>e h.symm),h.2 i (by simpa using h1) h2]
  by_cases hlt:i<j
  ·rw [if_pos hlt,if_pos (by omega)]
  ·rw [if_neg hlt,if_neg (by omega)]
theorem MkUpto.done {k:Int} {l L:List α} {j:Nat} (h:MkUpto f c k l j L) (hj:l.length<=j):L=mkAll f c k l:=by
 refine List.ext_getElem (by rw [Zd8,h.1]) λ i h1 h2=>?_
 have hl:i<l.length:=by rw [← h.1];exact h1
 rw [h.2 i h1 hl,if_pos (by omega),ZfA k i hl]
end
theorem ZbB (w:World) (c0 c1:Array Value) (t0 t1:TypeId) :
  ((w.alloc (.cells c0 t0)).alloc (.cells c1 t1)).heap[w.heap.size]?=some (.cells c0 t0 (0,0)) /\
  ((w.alloc (.cells c0 t0)).alloc (.cells c1 t1)).heap[w.heap.size+1]?=some (.cells c1 t1 (0,0)):=by
 refine ⟨?_,?_⟩
 ·show ((w.heap.push _).push _)[_]?=_
  rw [Array.getElem?_push,if_neg (by simp),Array.getElem?_push,if_pos rfl]
 ·show ((w.heap.push _).push _)[_]?=_
  rw [Array.getElem?_push,if_pos (by simp)]
def Zdp (w:World) (b:Nat):Nat->List Value->World
 | _,[]=>w
 | o,c::cs=>Zdp (w.setCell ⟨b,o,none⟩ c) b (o+1) cs
def Zbm:List Value->Nat->List Value->List Value
 | xs,_,[]=>xs
 | xs,o,c::cs=>Zbm (xs.set o c) (o+1) cs
theorem Zbq:∀ (cs A Z R:List Value),Z.length=cs.length->Zbm (A++(Z++R)) A.length cs=A++(cs++R)
 |
  [],A,Z,R,h=>by
  have:Z=[]:=by simpa using h
  subst this;simp [Zbm]
 | c::cs,A,[],R,h=>by simp at h
 |
  c::cs,A,z::Z,R,h=>by
  unfold Zbm
  have e:(A++(z::Z++R)).set A.length c=(A++[c])++(Z++R):=by simp
  rw [e]
  have e2:A.length+1=(A++[c]).length:=by simp
  rw [e2,Zbq cs (A++[c]) Z R (by simpa using h)]
  simp
theorem ZbC {base e size n cap g:Nat}:∀ (cs:List Value) (w:World) (xs:List Value) (o:Nat),w.ownsRow base e size (.slice (some ⟨g,0,none⟩) n cap) n xs ->
  (Zdp w g o cs).ownsRow base e size (.slice (some ⟨g,0,none⟩) n cap) n (Zbm xs o cs)
 | [],_,_,_,h=>h
 | c::cs,w,xs,o,h=>ZbC cs _ _ (o+1) (h.stored o c).1
theorem ZdM {B g:Nat} {a:World} (hg:B<=g):∀ (cs:List Value) (w:World) (o:Nat),Below B a w->Below B a (Zdp w g o cs)
 | [],_,_,h=>h
 | c::cs,w,o,h=>ZdM hg cs _ (o+1) (h.setCell (p:=⟨g,o,none⟩) hg c)
theorem Zbr {g:Nat}:∀ (cs:List Value) (w:World) (o:Nat),Kept [g] w (Zdp w g o cs)
 | [],w,_=>Kept.refl _ w
 | c::cs,w,o=>((Kept.refl [g] w).setCell (p:=⟨g,o,none⟩) (by simp) c).trans (Zbr cs _ (o+1))
structure Filling {α:Type} (S:Shape α) (g:Nat) (e:TypeId) (l:List α) (k:Nat) (w:World) (L:List (Elem α)) (R:List Value):Prop where
 row:w.ownsRow g e S.m (.slice (some ⟨g,0,none⟩) l.length l.length) l.length (L.flatMap (·.cells)++R)
 dat:L.map (·.d)=l.take k
 len:∀ x∈L,x.cells.length=S.m
 el:∀ x∈L,S.R w x.cells x.d x.fp
 own:Own w (g+1) (L.flatMap (·.fp))
section
variable {α:Type} {S:Shape α} {g e:Nat} {l:List α} {k:Nat} {w w':World} {L:List (Elem α)} {R:List Value}
theorem Filling.start {xs:List Value} (h:w.ownsRow g e S.m (.slice (some ⟨g,0,none⟩) l.length l.length) l.length xs):Filling S g e l 0 w [] xs:=
 ⟨by simpa using h,by simp,by simp,by simp,Own.nil _ _⟩
theorem Filling.count (h:Filling S g e l k w L R) (hk:k<=l.length):L.length=k:=by
 have:=congrArg List.length h.dat
 simpa [hk] using this
theorem Filling.cells (h:Filling S g e l k w L R) (hk:k<=l.length):(L.flatMap (·.cells)).length=k * S.m:=by rw [ZaT h.len,h.count hk]
theorem Filling.rest (h:Filling S g e l k w L R) (hk:k<=l.length):R.length=(l.length-k) * S.m:=by
 have h1:=h.row.1
 rw [List.length_append,h.cells hk] at h1
 have:(l.length-k) * S.m=l.length * S.m-k * S.m:=Nat.sub_mul _ _ _
 omega
theorem Filling.lt (h:Filling S g e l k w L R):g<w.heap.size:=(h.row.lt g rfl).2
theorem Filling.below (h:Filling S g e l k w L R) (hb:Below w.heap.size w w'):Filling S g e l k w' L R where
 row:=by
  refine ⟨h.row.1,?_⟩
  rcases h.row.2 with h0 | ⟨g',cap,cur,h1,h2,h3,h4⟩
  ·exact .inl h0
  ·exact .inr ⟨g',cap,cur,h1,h2,(hb.block g' (Qg h3).1).trans h3,h4⟩
 dat:=h.dat
 len:=h.len
 el:=λ x hx=>S.below (h.el x hx) hb
 own:=h.own.grow hb
theorem Filling.cell (h:Filling S g e l k w L R) (hk:k<l.length) {j:Nat} (hj:j<S.m):∃ u,w.cell? ⟨g,k * S.m+j,none⟩=some u:=by
 have h1:(k+1) * S.m<=l.length * S.m:=Nat.mul_le_mul_right _ hk
 rw [Nat.succ_mul] at h1
 rw [h.row.cellAt (k * S.m+j) (by omega),List.getElem?_append_right (by rw [h.cells (by omega)];omega),h.cells (by omega)]
 have h2:=h.rest (by omega)
 have h3:(l.length-k) * S.m=l.length * S.m-k * S.m:=Nat.sub_mul _ _ _
 exact⟨R[k * S.m+j-k * S.m]'(by omega),List.getElem?_eq_getElem _⟩
theorem Filling.frozen (h:Filling S g e l k w L R) (o:Nat):w.frozen? ⟨g,o,none⟩=false:=h.row.frozenAt o
theorem Filling.next {cs:List Value} {fp:List Nat} {w0:World} (h0:Filling S g e l k w0 L R) (hk:k<l.length) (hb:Below w0.heap.size w0 w) (hlen:cs.length=S.m) (hR:S.R w cs l[k] fp) (ho:Own w w0.heap.size fp) :
  ∃ R',Filling S g e l (k+1) (Zdp w g (k * S.m) cs) (L++[⟨cs,l[k],fp⟩]) R':=by
 have h:=h0.below hb
 have hg0:=h0.lt
 have hap:∀ x∈L,∀ b∈x.fp,b∈L.flatMap (·.fp):=λ x hx b hb'=>List.mem_flatMap.2 ⟨x,hx,hb'⟩
 have hn:∀ b∈L.flatMap (·.fp),b∉[g]:=λ b hb'=>by have:=(h.own.2 b hb').1;simp;omega
 have hn2:∀ b∈fp,b∉[g]:=λ b hb'=>by have:=(ho.2 b hb').1;simp;omega
 have hK:=Zbr (g:=g) cs w (k * S.m)
 have hr:=h.rest (by omega)
 have hsp:(l.length-k) * S.m=S.m+(l.length-(k+1)) * S.m:=by rw [show l.length-k=(l.length-(k+1))+1 by omega,Nat.succ_mul];omega
 refine ⟨R.drop S.m,⟨?_,?_,λ x hx=>?_,λ x hx=>?_,?_⟩⟩
 ·have:=ZbC cs w _ (k * S.m) h.row
  have e1:L.flatMap (·.cells)++R=L.flatMap (·.cells)++(R.take S.m++R.drop S.m):=by rw [List.take_append_drop]
  rw [e1,← h.cells (by omega),Zbq cs _ (R.take S.m) (R.drop S.m) (by rw [List.length_take,hlen];omega)] at this
  rw [List.flatMap_append,List.flatMap_cons,List.flatMap_nil,List.append_nil,List.append_assoc,← h.cells (by omega)]
  exact this
 ·rw [List.map_append,h.dat,List.take_succ_eq_append_getElem hk];rfl
 ·rcases Qa hx with hx | hx
  ·exact h.len x hx
  ·obtain rfl:=Qm hx;exact hlen
 ·rcases Qa hx with hx | hx
  ·exact S.kept (h.el x hx) (λ b hb'=>hn b (hap x hx b hb')) hK
  ·obtain rfl:=Qm hx
   exact S.kept hR hn2 hK
 ·rw [List.flatMap_append,List.flatMap_cons,List.flatMap_nil,List.append_nil]
  refine Own.app (h.own.kept hn hK) ((Own.lower ho (by omega)).kept hn2 hK) λ b hb1 hb2=>?_
  have h1:=(ho.2 b hb2).1
  have h2:=h0.own.lt b hb1
  omega
theorem Filling.done (h:Filling S g e l k w L R) (hk:l.length=k):∃ fp,(Zaa S).R w [.slice (some ⟨g,0,none⟩) l.length l.length] l fp/\Own w g fp:=by
 have hc:=h.count (by omega)
 have hr:R=[]:=by
  have:=h.rest (by omega)
  rw [hk,Nat.sub_self,Nat.zero_mul] at this
  exact List.length_eq_zero_iff.1 this
 have hd:=h.dat
 rw [List.take_of_length_le (by omega)] at hd
 have hrow:=h.row
 rw [hr,List.append_nil] at hrow
 have hL:L.length=l.length:=by omega
 rw [← hL] at hrow
 obtain⟨fp,h1,h2,h3⟩:=Za7 hrow (λ x hx=>⟨h.len x hx,h.el x hx⟩)
 rw [hd,hL] at h1
 exact⟨fp,h1,h3 (Own.lower h.own (by omega)) (λ g' hg' hx=>by
  simp only [Value.ownBlock,Qi] at hg'
  have:=(h.own.2 g' hx).1
  omega)⟩
end
theorem ZfB {α:Type} (f:α->Nat) (l:List α) (k:Nat) (h:k<l.length):((l.take (k+1)).map f).sum=((l.take k).map f).sum+f l[k]:=by
 rw [List.take_succ_eq_append_getElem h];simp only [List.map_append,List.sum_append,List.map_cons,List.map_nil,List.sum_cons,List.sum_nil,Nat.add_zero]
theorem Zic {α:Type} (f:α->Nat) (l:List α) (k:Nat):((l.take k).map f).sum<=(l.map f).sum:=by
 have:=congrArg (λ l:List α=>(l.map f).sum) (List.take_append_drop k l)
 simp only [List.map_append,List.sum_append] at this
 omega
theorem Zey {α:Type} (f:α->Nat) (l:List α) (k:Nat) (h:k<l.length):f l[k]<=(l.map f).sum:=by
 have h1:=ZfB f l k h
 have h2:=Zic f l (k+1)
 omega
def MadeC {α:Type} (S:Shape α) (d:α) (w:World) (e:Ending) (w':World):Prop:=
 ∃ cs fp,e=.returned (.agg cs.toArray)/\S.R w' cs d fp/\Own w' w.heap.size fp/\Below w.heap.size w w'
theorem Zcr (w:World) (c0 c1 c2:Array Value) (t0 t1 t2:TypeId) :
  (((w.alloc (.cells c0 t0)).alloc (.cells c1 t1)).alloc (.cells c2 t2)).heap[w.heap.size]?=some (.cells c0 t0 (0,0)):=by
 show (((w.heap.push _).push _).push _)[_]?=_
 rw [Array.getElem?_push,if_neg (by simp;omega),Array.getElem?_push,if_neg (by simp),Array.getElem?_push,if_pos rfl]
theorem ZjB (w:World) (p:Addr) (v:Value):(w.setCell p v).heap.size=w.heap.size:=by simp [World.setCell]
end Go.Proofs.YtiaiggjfepoahaaGreat
