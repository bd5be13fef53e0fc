/- Lemmas. -/
import Derived.Test.YtipfpppcbmpjiaaGreatSr
import Derived.Test.YtipfpppcbmpjiaaGreatRows
import Derived.ProofKit
import Derived.LoopTactic
import Derived.Deep.Draws
import Derived.Outline
import Derived.Deep.QuietTactic
import Derived.BigQuiet
import Derived.OwnWalk
import Derived.Laws.BytesString
import Derived.Laws.IdiomStrings
set_option linter.unusedVariables false
set_option maxHeartbeats 16000000
set_option maxRecDepth 100000
set_option linter.unusedSimpArgs false
namespace Go.Proofs.YtipfpppcbmpjiaaGreat
open Go.ChangeShapes Go.WideShapes Go.ChangeAt Go.RowKit
variable {P:Program}
theorem ZhW {H:Type}{enc:TypeId × Value->H}(hl:laidOutB P=true){W W':World}(hb:Below W.heap.size W W'):
  ∀{ts:List TypeId} {vs:List Value} {ds:List (DataW H)} {ps:List MemPlace},(∀t∈ts,P.readableRec t=true/\t<P.types.size) ->
   DataW.TrodAll enc P W 0 (λ_=>true) true ts vs ds ps->DataW.TrodAll enc P W' 0 (λb=>decide (b<W.heap.size)) true ts vs ds ps
 | [],[],[],_,_,h=>h
 |
  t::ts,v::vs,d::ds,ps,hr,h=>by
  obtain⟨p,q,h1,h2,rfl⟩:=h;obtain⟨ha,hs⟩:=hr t (by simp);have af:∀x∈p,x.block<W.heap.size:=by
   obtain⟨cS,hf⟩:=h1;exact DataW.trod_lt cS _ _ _ hf
  exact⟨p,q,Below.trod hl ha hs h1 hb af,ZhW hl hb (λt ht=>hr t (by simp[ht])) h2,rfl⟩
 | [],_::_,_,_,_,h=>h.elim
 | [],[],_::_,_,_,h=>h.elim
 | _::_,[],_,_,_,h=>h.elim
 | _::_,_::_,[],_,_,h=>h.elim
theorem law_done {H:Type}{enc:TypeId × Value->H}{f:Func}{s:ChangeSpec}{W W':World}{args:Array Value}{ds gs:List (DataW H)}{p9:List MemPlace}{tb:TypeId}
  (hl:laidOutB P=true) (zv:∀t∈f.params.toList,P.readableRec t=true/\t<P.types.size) (hsv:s.vars=[]) (nP:f.resultTypes=#[tb]) (htb:P.underlying tb=some .bool)
  (hW:DataW.Whole enc P f.params.toList s.vars false W args.toList ds gs p9)
  (hr:(s.fn H (ds++gs)).results=[.lit (.bool true)]) (ha:(s.fn H (ds++gs)).args=ds) (hv:(s.fn H (ds++gs)).vars=[])
  (hB:Below W.heap.size W W'):s.post enc P f false true false false W args (.bool true) W':=by
 have hW0:=hW;obtain⟨p,q,hA,hV,rfl,qa,hnd⟩:=hW;refine⟨ds,gs,p++q,[],p,[],hW0,?_,?_,?_,hB.frame _,by simp⟩
 ·rw[hr,nP];exact⟨[],[],⟨1,by simp[DataW.trod,Value.cells,htb]⟩,rfl,rfl⟩
 ·rw[ha];exact ZhW hl hB zv hA
 ·rw[hsv,hv];exact rfl
theorem Zah {B:Nat}{a w:World}(h:Below B a w)(n:Nat):Below B a (w.drewN n):=⟨h.os,h.tape,h.output,h.size,h.block⟩
open Go.RowKit
def ZfE (c:UInt8):Bool:=32<=c && c<=126
def Za8 (s:ByteArray):Bool:=decide (s.size<=200) && s.data.toList.all ZfE
theorem Zj0 (c:UInt8):ZfE c=true ↔ 32<=c.toNat/\c.toNat<=126:=by
 simp[ZfE,UInt8.le_iff_toNat_le]
def OkUpto (s:ByteArray)(k:Nat):Prop:=∀j,(h:j<s.size)->j<k->ZfE s[j]=true
theorem OkUpto.zero (s:ByteArray):OkUpto s 0:=by intro j h;omega
variable {k:Nat}{s:ByteArray}
theorem OkUpto.succ (h:OkUpto s k)(hk:k<s.size)(hb:32<=(s[k].toNat:Int)/\(s[k].toNat:Int)<=126):OkUpto s (k+1):=by
 intro j hj my;by_cases e:j=k
 ·subst e;rw[Zj0];omega
 ·exact h j hj (by omega)
theorem ZlI (hk:k<s.size)(hb:¬(32<=(s[k].toNat:Int)/\(s[k].toNat:Int)<=126)):Za8 s=false:=by
 unfold Za8;have:s.data.toList.all ZfE=false:=by
  rw[List.all_eq_false];refine⟨s[k],?_,?_⟩
  ·simp[Qx]
  ·rw[Zj0];omega
 rw[this,JB]
theorem Zn7 (h:200<s.size):Za8 s=false:=by
 unfold Za8;rw[JQ (by omega),Bool.false_and]
theorem Zhj (h:OkUpto s k)(hk:s.size<=k):Za8 s=decide (s.size<=200):=by
 unfold Za8;have:s.data.toList.all ZfE=true:=by
  rw[Qk];intro x hx;obtain⟨i,hi,rfl⟩:=QY hx;have ys:i<s.size:=by simpa using hi
  have:=h i ys (by omega);simpa[Qx]using this
 rw[this,Bool.and_true]
theorem Zad {a b:Bool}(h:a=b):Ending.returned (.bool a)=.returned (.bool b):=by rw[h]
theorem Zg2 (s:ByteArray)(w:World)(hs:s.size<=maxLen):
  Calls Tryz.prog 77 #[.string s] w λe w'=>e=.returned (.bool (Za8 s))/\w=w':=by
 unfold maxLen at hs;go_enter Tryz.func77,Tryz.ntmps77;go_wp2
 go_loop [3] (λi=>∃k:Nat,k<=s.size/\i=.int .i64 k/\OkUpto s k) (λi=>s.size-(intOf i).toNat)
 case atStart=>exact⟨0,by omega,rfl,OkUpto.zero s⟩
 case round =>
  obtain⟨k,hk,rfl,az⟩:=hrel;by_cases af:k<s.size
  ·by_cases hb:32<=(s[k].toNat:Int)/\(s[k].toNat:Int)<=126
   ·have hn:=az.succ af hb;go_wp2
    go_round
    case rel=>exact⟨k+1,by omega,by go_num,hn⟩
    case measure=>simp[intOf];omega
   ·have HF:=Qh (ZlI af hb);go_wp2;all_goals (go_ret;exact⟨Zad HF.out.symm,rfl⟩)
  ·have HF:=Qh (Zhj az (by omega));go_wp2;go_ret;exact⟨Zad (by rw[HF.out];exact decide_eq_decide.2 (by omega)),rfl⟩
theorem Zd2 (s:ByteArray)(w:World)(hs:s.size<=maxLen):
  Calls Tryz.prog 22 #[.string s] w λe w'=>e=.returned (.bool (Za8 s))/\w=w':=by
 unfold maxLen at hs;by_cases hl:200<s.size
 ·have HF:=Qh (Zn7 hl);go_enter Tryz.func22,Tryz.ntmps22;go_wp2;go_ret;exact⟨Zad HF.out.symm,rfl⟩
 ·go_enter Tryz.func22,Tryz.ntmps22;go_wp2
  go_loop [9] (λi=>∃k:Nat,k<=s.size/\i=.int .i64 k/\OkUpto s k) (λi=>s.size-(intOf i).toNat)
  case atStart=>exact⟨0,by omega,rfl,OkUpto.zero s⟩
  case round =>
   obtain⟨k,hk,rfl,az⟩:=hrel;by_cases af:k<s.size
   ·by_cases hb:32<=(s[k].toNat:Int)/\(s[k].toNat:Int)<=126
    ·have hn:=az.succ af hb;go_wp2
     go_round
     case rel=>exact⟨k+1,by omega,by go_num,hn⟩
     case measure=>simp[intOf];omega
    ·have HF:=Qh (ZlI af hb);go_wp2;all_goals (go_ret;exact⟨Zad HF.out.symm,rfl⟩)
   ·have HF:=Qh (Zhj az (by omega));go_wp2;go_ret;exact⟨Zad (by rw[HF.out];exact(JR (by omega)).symm),rfl⟩
structure Shape (α:Type) where
 m:Nat
 R:World->List Value->α->List Nat->Prop
 frame:∀{w w':World} {cs:List Value} {d:α} {fp:List Nat},(∀b∈fp,w'.heap[b]?=w.heap[b]?)->R w cs d fp->R w' cs d fp
 lt:∀{w:World} {cs:List Value} {d:α} {fp:List Nat},R w cs d fp->∀b∈fp,b<w.heap.size
def Zeo {α:Type}(enc:α->Value)(ok:α->Prop):Shape α where
 m:=1
 R _ cs d fp:=cs=[enc d]/\ok d/\fp=[]
 frame _ h:=h
 lt h:=by obtain⟨_,_,rfl⟩:=h;simp
def ZaC (s:ByteArray):Prop:=s.size<=maxLen
def Zb3 (n:Int):Prop:=-9223372036854775808<=n/\n<=9223372036854775807
def ZoI (b:UInt8):Value:=.int .u8 b.toNat
def sStr:Shape ByteArray:=Zeo Value.string ZaC
def Zdi:Shape UInt8:=Zeo ZoI λ_=>True
def ElemAt (w:World)(b off m i:Nat)(es:List Value):Prop:=es.length=m/\∀j,j<m->w.cell? ⟨b,off+i*m+j,none⟩=es[j]?
def RowR {α:Type}(S:Shape α)(w:World)(b off:Nat)(l:List α)(bA:Nat->List Nat):Prop:=
 b<w.heap.size/\∀i,(h:i<l.length)->∃es,ElemAt w b off S.m i es/\S.R w es l[i] (bA i)
def SliceR {α:Type}(S:Shape α)(w:World)(cs:List Value)(l:List α)(fp:List Nat):Prop:=
 ∃a cap,cs=[.slice a l.length cap]/\l.length<=cap/\cap<=maxLen /\
  ((l=[]/\fp=[])\/(0<l.length/\∃b off bA,a=some ⟨b,off,none⟩/\fp=b::(List.range l.length).flatMap bA/\RowR S w b off l bA))
theorem ElemAt.frame {w w':World}{b off m i:Nat}{es:List Value}(h:ElemAt w b off m i es)(hb:w'.heap[b]?=w.heap[b]?):ElemAt w' b off m i es:=
 ⟨h.1,λj hj=>(Qu (w:=w) (w':=w') (a:=⟨b,off+i*m+j,none⟩) hb).trans (h.2 j hj)⟩
def Zaa {α:Type}(S:Shape α):Shape (List α) where
 m:=1
 R:=SliceR S
 frame:=by
  rintro w w' cs l fp hf⟨a,cap,rfl,hc,hm,h⟩;refine⟨a,cap,rfl,hc,hm,?_⟩;rcases h with h | ⟨h0,b,off,bA,rfl,rfl,hb,he⟩
  ·exact .inl h
  ·refine .inr ⟨h0,b,off,bA,rfl,rfl,?_,λi hi=>?_⟩
   ·have h1:=hf b (by simp);have h2:w'.heap[b]?≠none:=(by rw[h1];simp[hb]);exact Nat.lt_of_not_le λh=>h2 (by simp[h])
   ·obtain⟨es,h1,h2⟩:=he i hi;exact⟨es,h1.frame (hf b (by simp)),S.frame (λx hx=>hf x (by simp;exact .inr ⟨i,hi,hx⟩)) h2⟩
 lt:=by
  rintro w cs l fp⟨a,cap,rfl,hc,hm,h⟩ x hx;rcases h with⟨_,rfl⟩ | ⟨h0,b,off,bA,rfl,rfl,hb,he⟩
  ·simp at hx
  ·simp at hx;rcases hx with rfl | ⟨i,hi,hx⟩
   ·exact hb
   ·obtain⟨es,h1,h2⟩:=he i hi;exact S.lt h2 x hx
variable {α:Type}
theorem Shape.below (S:Shape α){w w':World}{cs:List Value}{d:α}{fp:List Nat}(h:S.R w cs d fp)(hb:Below w.heap.size w w'):S.R w' cs d fp:=
 S.frame (λb h'=>hb.block b (S.lt h b h')) h
def Under (B:Nat)(fp:List Nat):Prop:=∀b∈fp,b<B
theorem Shape.under (S:Shape α){w w':World}{B:Nat}{cs:List Value}{d:α}{fp:List Nat}(h:S.R w cs d fp)(hu:Under B fp)(hb:Below B w w'):S.R w' cs d fp:=
 S.frame (λb h'=>hb.block b (hu b h')) h
variable {fp:List Nat}{w:World}{l:List α}{enc:α->Value}{ok:α->Prop}{v:Value}
theorem ZlJ (h:(Zaa (Zeo enc ok)).R w [v] l fp):
  ∃a cap,v=.slice a l.length cap/\l.length<=cap/\cap<=maxLen/\(0<l.length->∃b off,a=some ⟨b,off,none⟩/\b<w.heap.size/\b∈fp/\∀i,(hi:i<l.length)->w.cell? ⟨b,off+i,none⟩=some (enc l[i]))/\∀i,(hi:i<l.length)->ok l[i]:=by
 obtain⟨a,cap,hv,hc,hm,h⟩:=h;refine⟨a,cap,by simpa using hv,hc,hm,λh0=>?_,λi hi=>?_⟩
 ·rcases h with⟨rfl,_⟩ | ⟨_,b,off,bA,rfl,rfl,hb,he⟩
  ·simp at h0
  ·refine⟨b,off,rfl,hb,by simp,λi hi=>?_⟩;obtain⟨es,h1,h2,_,_⟩:=he i hi;have:=h1.2 0 (by simp[Zeo]);rw[h2]at this;simpa[Zeo]using this
 ·rcases h with⟨rfl,_⟩ | ⟨_,b,off,bA,rfl,rfl,hb,he⟩
  ·simp at hi
  ·obtain⟨es,h1,h2,h3,_⟩:=he i hi;exact h3
theorem Zaf {l:List ByteArray}(h:(Zaa sStr).R w [v] l fp):
  ∃a cap,v=.slice a l.length cap/\l.length<=cap/\cap<=maxLen/\(0<l.length->∃b off,a=some ⟨b,off,none⟩/\b<w.heap.size/\b∈fp/\∀i,(hi:i<l.length)->w.cell? ⟨b,off+i,none⟩=some (.string l[i]))/\∀i,(hi:i<l.length)->l[i].size<=maxLen:=
 ZlJ h
def Own (w:World)(lo:Nat)(fp:List Nat):Prop:=fp.Nodup/\∀b∈fp,lo<=b/\∃cur e,w.heap[b]?=some (.cells cur e (0,0))
theorem Own.nil (w:World)(lo:Nat):Own w lo []:=⟨List.nodup_nil,by simp⟩
structure Kept (fp:List Nat)(w w':World):Prop where
 os:w'.os=w.os
 tape:w'.tape=w.tape
 output:w'.output=w.output
 size:w.heap.size<=w'.heap.size
 block:∀k,k<w.heap.size->k∉fp->w'.heap[k]?=w.heap[k]?
theorem Kept.refl (fp:List Nat)(w:World):Kept fp w w:=⟨rfl,rfl,rfl,QA _,λ_ _ _=>rfl⟩
theorem Kept.trans {a b c:World}(h:Kept fp a b)(k:Kept fp b c):Kept fp a c:=
 ⟨k.os.trans h.os,k.tape.trans h.tape,k.output.trans h.output,QZ h.size k.size,λi hi hn=>(k.block i (QW hi h.size) hn).trans (h.block i hi hn)⟩
theorem Kept.of_below {a b:World}(h:Below a.heap.size a b):Kept fp a b:=⟨h.os,h.tape,h.output,h.size,λk hk _=>h.block k hk⟩
theorem Kept.mono {fp fp':List Nat}{a b:World}(h:Kept fp a b)(hs:∀x∈fp,x∈fp'):Kept fp' a b:=⟨h.os,h.tape,h.output,h.size,λk hk hn=>h.block k hk λhx=>hn (hs k hx)⟩
theorem Kept.setCell {a w:World}(h:Kept fp a w){p:Addr}(hp:p.block∈fp)(u:Value):Kept fp a (w.setCell p u):=
 h.trans ⟨rfl,rfl,rfl,by simp[World.setCell],λk hk hn=>QV _ _ _ _ (by rintro rfl;exact hn hp)⟩
theorem Kept.drewN {a w:World}(h:Kept fp a w)(n:Nat):Kept fp a (w.drewN n):=⟨h.os,h.tape,h.output,h.size,h.block⟩
variable {lo:Nat}
theorem Kept.below {a w:World}(h:Kept fp a w)(cV:∀b∈fp,lo<=b)(hs:lo<=a.heap.size):Below lo a w:=
 ⟨h.os,h.tape,h.output,h.size,λk hk=>h.block k (by omega) λhx=>by have:=cV k hx;omega⟩
theorem Shape.kept (S:Shape α){w w':World}{cs:List Value}{d:α}{fp fp':List Nat}(h:S.R w cs d fp')(hd:∀b∈fp',b∉fp)(hk:Kept fp w w'):S.R w' cs d fp':=
 S.frame (λb h'=>hk.block b (S.lt h b h') (hd b h')) h
theorem Own.kept {w w':World}{fp fp':List Nat}(h:Own w lo fp')(hd:∀b∈fp',b∉fp)(hk:Kept fp w w'):Own w' lo fp':=
 ⟨h.1,λb hb=>by
  obtain⟨h1,cur,e,h2⟩:=h.2 b hb
  exact⟨h1,cur,e,(hk.block b (Qg h2).1 (hd b hb)).trans h2⟩⟩
theorem Own.below {w w':World}{lo B:Nat}(h:Own w lo fp)(hu:∀b∈fp,b<B)(hb:Below B w w'):Own w' lo fp:=
 ⟨h.1,λb aE=>by
  obtain⟨h1,cur,e,h2⟩:=h.2 b aE
  exact⟨h1,cur,e,(hb.block b (hu b aE)).trans h2⟩⟩
theorem Own.lt (h:Own w lo fp):∀b∈fp,b<w.heap.size:=λb hb=>by
 obtain⟨_,cur,e,h2⟩:=h.2 b hb;exact(Qg h2).1
theorem Own.grow {w w':World}(h:Own w lo fp)(hb:Below w.heap.size w w'):Own w' lo fp:=h.below h.lt hb
theorem Own.frozen (h:Own w lo fp){b:Nat}(hb:b∈fp)(j:Nat):w.frozen? ⟨b,j,none⟩=false:=by
 obtain⟨_,cur,e,h2⟩:=h.2 b hb;exact frozen_of_row w b j cur e h2
theorem Own.setCell (h:Own w lo fp)(p:Addr)(u:Value):Own (w.setCell p u) lo fp:=
 ⟨h.1,λb hb=>by
  obtain⟨h1,cur,e,h2⟩:=h.2 b hb;by_cases hp:b=p.block
  ·subst hp;refine⟨h1,if p.spot.isSome then cur else cur.setIfInBounds p.off u,e,?_⟩;simp[World.setCell,Array.getElem?_modify,h2]
  ·exact⟨h1,cur,e,(QV _ _ _ _ hp).trans h2⟩⟩
def AllUpto {α:Type}(p:α->Bool)(l:List α)(k:Nat):Prop:=∀j,(h:j<l.length)->j<k->p l[j]=true
theorem AllUpto.zero (p:α->Bool)(l:List α):AllUpto p l 0:=by intro j h;omega
variable {p:α->Bool}
theorem AllUpto.succ (h:AllUpto p l k)(hk:k<l.length)(hb:p l[k]=true):AllUpto p l (k+1):=by
 intro j hj my;by_cases e:j=k
 ·subst e;exact hb
 ·exact h j hj (by omega)
theorem all_no (hk:k<l.length)(hb:p l[k]=false):l.all p=false:=by
 rw[List.all_eq_false];exact⟨l[k],QE hk,by simp[hb]⟩
theorem ZoJ (h:AllUpto p l k)(hk:l.length<=k):l.all p=true:=by
 rw[Qk];intro x hx;obtain⟨i,hi,rfl⟩:=QY hx;exact h i hi (by omega)
theorem Zca {s t:ByteArray}(h:s=t):(s.toList==t.toList)=true:=by rw[h];exact beq_self_eq_true _
theorem Zcb {s t:ByteArray}(h:s≠t):(s.toList==t.toList)=false:=by
 rw[beq_eq_false_iff_ne];intro e;rw[QB,QB]at e;exact h (Go.WideShapes.bytes_inj e)
def TI (P:Program)(t e:TypeId)(z:Value)(size bytes:Nat):Prop:=
 P.underlying t=some (.slice e)/\(P.info? e).map (λi=>(i.zero,i.size,i.bytes))=some (some z,size,bytes)
theorem ti27:TI Tryz.prog 30 9 (.string ⟨#[]⟩) 1 16:=⟨by kernel_rfl,by kernel_rfl⟩
theorem ZmF {t e:TypeId}{z:Value}{size bytes:Nat}(ti:TI P t e z size bytes)(w:World){ops:Array Oper}{rest:List Oper}{o:Oper}{a:Act}{Q:Exit->Act->World->Prop}
  (hg:o.guard=none) (l c:Operand) (hop:o.op=Op.makeSlice t l c) (base n:Nat)
  (hl:a.eval l=.int .i64 n) (hc:a.eval c=.int .i64 n) (b2:bytes*n<=281474976710656) (b3:n<=maxLen) (b4:base<=w.heap.size)
  (hK:∀w',w'.ownsRow base e size (.slice (some ⟨w.heap.size,0,none⟩) n n) n (madeCells z.cells (n*size)).toList->w.grownBy w' none->wpList P ops Q rest (a.put o.dst (.slice (some ⟨w.heap.size,0,none⟩) n n)) w') :
  wpList P ops Q (o::rest) a w:=by
 obtain⟨i,hi,cI,dQ,dZ⟩:=info_parts ti.2;exact wpList_make_full w hg l c t hop base e i z size ti.1 hi cI dQ .i64 .i64 n n n hl hc rfl rfl (by rw[dZ];exact b2) b3 b4 hK
theorem Zn8 {base e g n cap:Nat}(h:w.ownsRow base e 1 (.slice (some ⟨g,0,none⟩) n cap) n (l.map enc))(hs:∀i,(hi:i<l.length)->ok l[i]):
  ∃fp,(Zaa (Zeo enc ok)).R w [.slice (some ⟨g,0,none⟩) n cap] l fp/\Own w base fp:=by
 have hn:l.length=n:=by have:=h.1;simpa using this
 subst hn;rcases h.2 with⟨h',_⟩ | ⟨g',dF,cur,h',hb,hg,j7,gL,aS,lx⟩
 ·simp at h'
 simp only[QT,Qi,Addr.mk.injEq,and_true,true_and]at h';obtain⟨rfl,rfl⟩:=h';by_cases h0:l.length=0
 ·exact⟨[],⟨_,_,rfl,j7,gL,.inl ⟨by simpa using h0,rfl⟩⟩,Own.nil _ _⟩
 ·refine⟨g::(List.range l.length).flatMap λ_=>[],⟨_,_,rfl,j7,gL,.inr ⟨by omega,g,0,λ_=>[],rfl,rfl,(h.lt g rfl).2,λi hi=>⟨[enc l[i]],⟨rfl,λj hj=>?_⟩,rfl,hs i hi,rfl⟩⟩⟩,?_⟩
  ·simp[Zeo]at hj;subst hj;have:=h.cellAt i (by omega);simp only[List.getElem?_map,QJ hi,JM]at this;simpa[Zeo]using this
  ·have e1:(List.range l.length).flatMap (λ_=>([]:List Nat))=[]:=(by simp);rw[e1];exact⟨by simp,by simp;exact⟨hb,_,_,hg⟩⟩
def Made {α:Type}(S:Shape α)(d:α)(w:World)(e:Ending)(w':World):Prop:=
 ∃v fp,e=.returned v/\S.R w' [v] d fp/\Own w' w.heap.size fp/\Below w.heap.size w w'
theorem Zds {a b c:World}{r:Option Nat}(h:a.grownBy b r)(k:b.grownBy c r):a.grownBy c r:=
 ⟨k.os.trans h.os,k.tape.trans h.tape,k.output.trans h.output,QZ h.size k.size,λi hi hn=>(k.block i (QW hi h.size) hn).trans (h.block i hi hn)⟩
theorem ZfF {b1 b2 e1 e2 s1 s2 n1 n2:Nat}{v1 v2:Value}{xs1 xs2:List Value}(h1:w.ownsRow b1 e1 s1 v1 n1 xs1)(h2:w.ownsRow b2 e2 s2 v2 n2 xs2)(he:e1≠e2):v1.ownBlock=none\/v1.ownBlock≠v2.ownBlock:=by
 rcases h1.2 with⟨rfl,_⟩ | ⟨g,cap,cur,rfl,_,hg,_⟩
 ·exact .inl rfl
 ·rcases h2.2 with⟨rfl,_⟩ | ⟨g',dF,qb,rfl,_,mz,_⟩
  ·right;simp[Value.ownBlock]
  ·right;simp only[Value.ownBlock,ne_eq,Qi];rintro rfl;rw[hg]at mz;simp at mz;exact he mz.2
theorem Zck {t e:TypeId}{z:Value}{bytes:Nat}(ti:TI P t e z 1 bytes)(ev:z.cells.size=1)(w0:World)(x:Value)(bZ:x.oneCell'=true){ops:Array Oper}{rest:List Oper}{o:Oper}{a:Act}{Q:Exit->Act->World->Prop}
  (hg:o.guard=none) (s y:Operand) (ho:o.op=.call { callee:=.builtin .append,args:=#[s,y],argTypes:=#[t,t] })
  (base:Nat) (v:Value) (n:Nat) (xs:List Value) (hs:a.eval s=v) (ag:w0.ownsRow base e 1 v n xs)
  (hy:a.eval y=.slice (some ⟨w0.heap.size,0,none⟩) 1 1)
  (dz:n+1<=maxLen) (aO:(n+1)*bytes<=140737488355328) (aK:base<=w0.heap.size)
  (h:∀v' w',w'.ownsRow base e 1 v' (n+1) (xs++[x])->w0.grownBy w' v.ownBlock->wpList P ops Q rest (a.put o.dst v') w'):wpList P ops Q (o::rest) a (w0.alloc (.cells #[x] e)):=by
 obtain⟨i,hi,cI,dQ,dZ⟩:=info_parts ti.2;refine wpList_append_own _ hg s y t ho base e i z 1 bytes ti.1 hi cI dQ dZ ev (by decide) v n xs hs (ag.alloc _) ⟨w0.heap.size,0,none⟩ 1 1 [x] hy rfl ?_ (by simp[bZ]) dz aO (by simp;omega) λv' w' a b _=>h v' w' a (Zds (World.grownBy_alloc _ _ _) b);intro j u hj;have le:j<1:=by have:=(Qq.1 hj).1;simpa using this
 obtain rfl:j=0:=by omega
 simp at hj;subst hj;exact Qy _ _ _ _ rfl
theorem ZbM {base e n:Nat}(h:w.ownsRow base e 1 v n (l.map enc))(hs:∀i,(hi:i<l.length)->ok l[i]):
  ∃fp,(Zaa (Zeo enc ok)).R w [v] l fp/\Own w base fp/\∀b∈fp,v.ownBlock=some b:=by
 have hn:l.length=n:=by have:=h.1;simpa using this
 rcases h.2 with⟨rfl,h0⟩ | ⟨g,cap,cur,rfl,hb,hg,j7,gL,aS,lx⟩
 ·obtain rfl:l=[]:=by simpa using hn.trans h0
  exact⟨[],⟨none,0,rfl,by simp,by simp,.inl ⟨rfl,rfl⟩⟩,Own.nil _ _,by simp⟩
 ·obtain⟨fp,h1,h2⟩:=Zn8 (ok:=ok) h hs;refine⟨fp,h1,h2,?_⟩;obtain⟨a,dF,hv,_,_,h3⟩:=h1;rcases h3 with⟨_,rfl⟩ | ⟨_,b,off,bA,rfl,rfl,_,he⟩
  ·simp
  ·simp only[JH,QT,Qi,Addr.mk.injEq,and_true]at hv;obtain⟨⟨rfl,_⟩,_⟩:=hv;intro x hx;rcases Q7.1 hx with rfl | hx
   ·rfl
   ·exfalso;obtain⟨i,hi,hx⟩:=QO.1 hx;obtain⟨es,_,_,_,h4⟩:=he i (by simpa using hi);rw[h4]at hx;simp at hx
theorem Zao (S:Shape α)(w:World)(a:Option Addr)(cap:Nat)(h:cap<=maxLen):(Zaa S).R w [.slice a 0 cap] [] []:=
 ⟨a,cap,rfl,by simp,h,.inl ⟨rfl,rfl⟩⟩
theorem Own.app {de bv:List Nat}(h1:Own w lo de)(h2:Own w lo bv)(hd:∀b∈de,b∉bv):Own w lo (de++bv):=
 ⟨List.nodup_append.2 ⟨h1.1,h2.1,λa ha b hb e=>hd a ha (e ▸ hb)⟩,λb hb=>(Qa hb).elim (h1.2 b) (h2.2 b)⟩
def marks {α:Type}(f:Int->α)(k:Int)(n:Nat):List α:=(List.range n).map λ(i:Nat)=>f (k+(i:Int))
structure Seen {α:Type}(S:Shape α)(w:World)(cs:List Value)(d:α)(fp:List Nat)(hi:Nat):Prop where
 r:S.R w cs d fp
 hi:Under hi fp
structure Live {α:Type}(S:Shape α)(w:World)(cs:List Value)(d:α)(fp:List Nat)(lo hi:Nat):Prop where
 r:S.R w cs d fp
 o:Own w lo fp
 hi:Under hi fp
section
variable {α:Type}{S:Shape α}{w w':World}{cs:List Value}{d:α}{fp fp':List Nat}{lo hi lo':Nat}
theorem Seen.of (h:S.R w cs d fp):Seen S w cs d fp w.heap.size:=⟨h,S.lt h⟩
theorem Seen.below (h:Seen S w cs d fp hi)(hb:Below w.heap.size w w'):Seen S w' cs d fp hi:=⟨S.below h.r hb,h.hi⟩
theorem Live.of (h:S.R w cs d fp)(o:Own w lo fp):Live S w cs d fp lo w.heap.size:=⟨h,o,o.lt⟩
theorem Live.below (h:Live S w cs d fp lo hi)(hb:Below w.heap.size w w'):Live S w' cs d fp lo hi:=⟨S.below h.r hb,h.o.grow hb,h.hi⟩
theorem Seen.kept (h:Seen S w cs d fp hi)(hk:Kept fp' w w')(ho:Own w lo' fp')(j8:hi<=lo'):Seen S w' cs d fp hi:=
 ⟨S.kept h.r (λb hb hx=>by have h1:=h.hi b hb;have h2:=(ho.2 b hx).1;omega) hk,h.hi⟩
theorem Live.kept (h:Live S w cs d fp lo hi)(hk:Kept fp' w w')(ho:Own w lo' fp')(j8:hi<=lo'):Live S w' cs d fp lo hi:=
 have hd:∀b∈fp,b∉fp':=λb hb hx=>by have h1:=h.hi b hb;have h2:=(ho.2 b hx).1;omega
 ⟨S.kept h.r hd hk,h.o.kept hd hk,h.hi⟩
end
def Apart (fp fp':List Nat):Prop:=∀b∈fp,b∉fp'
theorem Apart.symm {fp fp':List Nat}(h:Apart fp fp'):Apart fp' fp:=λb h1 h2=>h b h2 h1
theorem Own.split {w:World}{lo:Nat}{de bv:List Nat}(h:Own w lo (de++bv)):Own w lo de/\Own w lo bv/\Apart de bv:=by
 obtain⟨h1,h2⟩:=h;obtain⟨a,b,c⟩:=List.nodup_append.1 h1;exact⟨⟨a,λx hx=>h2 x (by simp[hx])⟩,⟨b,λx hx=>h2 x (by simp[hx])⟩,λx hx hy=>c x hx x hy rfl⟩
theorem Apart.split {fp de bv:List Nat}(h:Apart fp (de++bv)):Apart fp de/\Apart fp bv:=
 ⟨λb hb hx=>h b hb (by simp[hx]),λb hb hx=>h b hb (by simp[hx])⟩
end Go.Proofs.YtipfpppcbmpjiaaGreat
