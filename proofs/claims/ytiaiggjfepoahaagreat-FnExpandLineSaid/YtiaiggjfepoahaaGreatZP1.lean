/- Texts that the proof of P stands on, in one file. -/
import Derived.Test.YtiaiggjfepoahaaGreatSq
import Derived.Test.YtiaiggjfepoahaaGreatRows
import Derived.ProofKit
import Derived.WalkKit
import Derived.LoopTactic
import Derived.Lib.Hide
import Derived.Deep.Draws
import Derived.Outline
import Derived.Deep.QuietTactic
import Derived.BigQuiet
import Derived.OwnWalk
import Derived.Laws.BytesString
import Derived.Laws.IdiomStrings
import Derived.Deep.RegionHeld3
set_option linter.unusedVariables false
set_option maxHeartbeats 16000000
set_option maxRecDepth 100000
set_option linter.unusedSimpArgs false
/- Words of our own over any program: what a law's end owes, for arguments of any type. -/
namespace Go.Proofs.YtiaiggjfepoahaaGreat
open Go.ChangeShapes Go.WideShapes Go.ChangeAt Go.RowKit
theorem ZfJ {H:Type} {enc:TypeId × Value->H} {P:Program} (hl:laidOutB P=true) {W W':World} (hb:Below W.heap.size W W') :
  ∀ {ts:List TypeId} {vs:List Value} {ds:List (DataW H)} {ps:List MemPlace},(∀ t∈ts,P.readableRec t=true/\t<P.types.size) ->
   DataW.TrodAll enc P W 0 (λ _=>true) true ts vs ds ps->DataW.TrodAll enc P W' 0 (λ b=>decide (b<W.heap.size)) true ts vs ds ps
 | [],[],[],_,_,h=>h
 |
  t::ts,v::vs,d::ds,ps,hr,h=>by
  obtain⟨p,q,h1,h2,rfl⟩:=h
  obtain⟨ha,hs⟩:=hr t (by simp)
  have hlt:∀ x∈p,x.block<W.heap.size:=by
   obtain⟨fuel,hf⟩:=h1
   exact DataW.trod_lt fuel _ _ _ hf
  exact⟨p,q,Below.trod hl ha hs h1 hb hlt,ZfJ hl hb (λ t ht=>hr t (by simp [ht])) h2,rfl⟩
 | [],_::_,_,_,_,h=>h.elim
 | [],[],_::_,_,_,h=>h.elim
 | _::_,[],_,_,_,h=>h.elim
 | _::_,_::_,[],_,_,h=>h.elim
theorem law_done {H:Type} {enc:TypeId × Value->H} {P:Program} {f:Func} {s:ChangeSpec} {W W':World} {args:Array Value} {ds gs:List (DataW H)} {before:List MemPlace} {tb:TypeId}
  (hl:laidOutB P=true) (hread:∀ t∈f.params.toList,P.readableRec t=true/\t<P.types.size) (hsv:s.vars=[]) (hfr:f.resultTypes=#[tb]) (htb:P.underlying tb=some .bool)
  (hW:DataW.Whole enc P f.params.toList s.vars false W args.toList ds gs before)
  (hr:(s.fn H (ds++gs)).results=[.lit (.bool true)]) (ha:(s.fn H (ds++gs)).args=ds) (hv:(s.fn H (ds++gs)).vars=[])
  (hB:Below W.heap.size W W'):s.post enc P f false true false false W args (.bool true) W':=by
 have hW0:=hW
 obtain⟨p,q,hA,hV,rfl,hfz,hnd⟩:=hW
 refine ⟨ds,gs,p++q,[],p,[],hW0,?_,?_,?_,hB.frame _,by simp⟩
 ·rw [hr,hfr]
  exact⟨[],[],⟨1,by simp [DataW.trod,Value.cells,htb]⟩,rfl,rfl⟩
 ·rw [ha];exact ZfJ hl hB hread hA
 ·rw [hsv,hv];exact rfl
theorem Zag {B:Nat} {a w:World} (h:Below B a w) (n:Nat):Below B a (w.drewN n):=⟨h.os,h.tape,h.output,h.size,h.block⟩
open Go.RowKit
def ZcW (c:UInt8):Bool:=32<=c && c<=126
def ZaC (s:ByteArray):Bool:=decide (s.size<=200) && s.data.toList.all ZcW
theorem ZhC (c:UInt8):ZcW c=true ↔ 32<=c.toNat/\c.toNat<=126:=by
 simp [ZcW,UInt8.le_iff_toNat_le]
def OkUpto (s:ByteArray) (k:Nat):Prop:=∀ j,(h:j<s.size)->j<k->ZcW s[j]=true
theorem OkUpto.zero (s:ByteArray):OkUpto s 0:=by intro j h;omega
theorem OkUpto.succ {s:ByteArray} {k:Nat} (h:OkUpto s k) (hk:k<s.size) (hb:32<=(s[k].toNat:Int)/\(s[k].toNat:Int)<=126):OkUpto s (k+1):=by
 intro j hj hjk
 by_cases e:j=k
 ·subst e;rw [ZhC];omega
 ·exact h j hj (by omega)
theorem Zjb {s:ByteArray} {k:Nat} (hk:k<s.size) (hb:¬ (32<=(s[k].toNat:Int)/\(s[k].toNat:Int)<=126)):ZaC s=false:=by
 unfold ZaC
 have:s.data.toList.all ZcW=false:=by
  rw [List.all_eq_false]
  refine ⟨s[k],?_,?_⟩
  ·simp [ByteArray.getElem_eq_getElem_data]
  ·rw [ZhC];omega
 rw [this,Bool.and_false]
theorem Zlq {s:ByteArray} (h:200<s.size):ZaC s=false:=by
 unfold ZaC;rw [decide_eq_false (by omega),Bool.false_and]
theorem Zfe {s:ByteArray} {k:Nat} (h:OkUpto s k) (hk:s.size<=k):ZaC s=decide (s.size<=200):=by
 unfold ZaC
 have:s.data.toList.all ZcW=true:=by
  rw [List.all_eq_true]
  intro x hx
  obtain⟨i,hi,rfl⟩:=List.getElem_of_mem hx
  have hi':i<s.size:=by simpa using hi
  have:=h i hi' (by omega)
  simpa [ByteArray.getElem_eq_getElem_data] using this
 rw [this,Bool.and_true]
theorem Zad {a b:Bool} (h:a=b):Ending.returned (.bool a)=.returned (.bool b):=by rw [h]
theorem ZeU (s:ByteArray) (w:World) (hs:s.size<=maxLen) :
  Calls Tryz.prog 57 #[.string s] w λ e w'=>e=.returned (.bool (ZaC s))/\w=w':=by
 unfold maxLen at hs
 go_enter Tryz.func57,Tryz.ntmps57
 go_wp2
 go_loop [3] (λ i=>∃ k:Nat,k<=s.size/\i=.int .i64 k/\OkUpto s k) (λ i=>s.size-(intOf i).toNat)
 case atStart=>exact⟨0,by omega,rfl,OkUpto.zero s⟩
 case round =>
  obtain⟨k,hk,rfl,hall⟩:=hrel
  by_cases hlt:k<s.size
  ·by_cases hb:32<=(s[k].toNat:Int)/\(s[k].toNat:Int)<=126
   ·have hn:=hall.succ hlt hb
    go_wp2
    go_round
    case rel=>exact⟨k+1,by omega,by go_num,hn⟩
    case measure=>simp [intOf];omega
   ·have HF:=Qh (Zjb hlt hb)
    go_wp2
    all_goals (go_ret;exact⟨Zad HF.out.symm,rfl⟩)
  ·have HF:=Qh (Zfe hall (by omega))
   go_wp2
   go_ret
   exact⟨Zad (by rw [HF.out];exact decide_eq_decide.2 (by omega)),rfl⟩
theorem ZbB (s:ByteArray) (w:World) (hs:s.size<=maxLen) :
  Calls Tryz.prog 11 #[.string s] w λ e w'=>e=.returned (.bool (ZaC s))/\w=w':=by
 unfold maxLen at hs
 by_cases hl:200<s.size
 ·have HF:=Qh (Zlq hl)
  go_enter Tryz.func11,Tryz.ntmps11
  go_wp2
  go_ret
  exact⟨Zad HF.out.symm,rfl⟩
 ·go_enter Tryz.func11,Tryz.ntmps11
  go_wp2
  go_loop [9] (λ i=>∃ k:Nat,k<=s.size/\i=.int .i64 k/\OkUpto s k) (λ i=>s.size-(intOf i).toNat)
  case atStart=>exact⟨0,by omega,rfl,OkUpto.zero s⟩
  case round =>
   obtain⟨k,hk,rfl,hall⟩:=hrel
   by_cases hlt:k<s.size
   ·by_cases hb:32<=(s[k].toNat:Int)/\(s[k].toNat:Int)<=126
    ·have hn:=hall.succ hlt hb
     go_wp2
     go_round
     case rel=>exact⟨k+1,by omega,by go_num,hn⟩
     case measure=>simp [intOf];omega
    ·have HF:=Qh (Zjb hlt hb)
     go_wp2
     all_goals (go_ret;exact⟨Zad HF.out.symm,rfl⟩)
   ·have HF:=Qh (Zfe hall (by omega))
    go_wp2
    go_ret
    exact⟨Zad (by rw [HF.out];exact(decide_eq_true (by omega)).symm),rfl⟩
structure Shape (α:Type) where
 m:Nat
 R:World->List Value->α->List Nat->Prop
 frame:∀ {w w':World} {cs:List Value} {d:α} {fp:List Nat},(∀ b∈fp,w'.heap[b]?=w.heap[b]?)->R w cs d fp->R w' cs d fp
 lt:∀ {w:World} {cs:List Value} {d:α} {fp:List Nat},R w cs d fp->∀ b∈fp,b<w.heap.size
def sFlat {α:Type} (enc:α->Value) (ok:α->Prop):Shape α where
 m:=1
 R _ cs d fp:=cs=[enc d]/\ok d/\fp=[]
 frame _ h:=h
 lt h:=by obtain⟨_,_,rfl⟩:=h;simp
def okStr (s:ByteArray):Prop:=s.size<=maxLen
def okInt (n:Int):Prop:=-9223372036854775808<=n/\n<=9223372036854775807
def ZlU (b:UInt8):Value:=.int .u8 b.toNat
def sStr:Shape ByteArray:=sFlat Value.string okStr
def sByte:Shape UInt8:=sFlat ZlU λ _=>True
def ElemAt (w:World) (b off m i:Nat) (es:List Value):Prop:=es.length=m/\∀ j,j<m->w.cell? ⟨b,off+i * m+j,none⟩=es[j]?
def RowR {α:Type} (S:Shape α) (w:World) (b off:Nat) (l:List α) (fps:Nat->List Nat):Prop:=
 b<w.heap.size/\∀ i,(h:i<l.length)->∃ es,ElemAt w b off S.m i es/\S.R w es l[i] (fps i)
def SliceR {α:Type} (S:Shape α) (w:World) (cs:List Value) (l:List α) (fp:List Nat):Prop:=
 ∃ a cap,cs=[.slice a l.length cap]/\l.length<=cap/\cap<=maxLen /\
  ((l=[]/\fp=[])\/(0<l.length/\∃ b off fps,a=some ⟨b,off,none⟩/\fp=b::(List.range l.length).flatMap fps/\RowR S w b off l fps))
theorem ElemAt.frame {w w':World} {b off m i:Nat} {es:List Value} (h:ElemAt w b off m i es) (hb:w'.heap[b]?=w.heap[b]?):ElemAt w' b off m i es:=
 ⟨h.1,λ j hj=>(World.cell?_of_block (w:=w) (w':=w') (a:=⟨b,off+i * m+j,none⟩) hb).trans (h.2 j hj)⟩
def Zaa {α:Type} (S:Shape α):Shape (List α) where
 m:=1
 R:=SliceR S
 frame:=by
  rintro w w' cs l fp hf ⟨a,cap,rfl,hc,hm,h⟩
  refine ⟨a,cap,rfl,hc,hm,?_⟩
  rcases h with h | ⟨h0,b,off,fps,rfl,rfl,hb,he⟩
  ·exact .inl h
  ·refine .inr ⟨h0,b,off,fps,rfl,rfl,?_,λ i hi=>?_⟩
   ·have h1:=hf b (by simp)
    have h2:w'.heap[b]?≠none:=by rw [h1];simp [hb]
    exact Nat.lt_of_not_le λ h=>h2 (by simp [h])
   ·obtain⟨es,h1,h2⟩:=he i hi
    exact⟨es,h1.frame (hf b (by simp)),S.frame (λ x hx=>hf x (by simp;exact .inr ⟨i,hi,hx⟩)) h2⟩
 lt:=by
  rintro w cs l fp ⟨a,cap,rfl,hc,hm,h⟩ x hx
  rcases h with⟨_,rfl⟩ | ⟨h0,b,off,fps,rfl,rfl,hb,he⟩
  ·simp at hx
  ·simp at hx
   rcases hx with rfl | ⟨i,hi,hx⟩
   ·exact hb
   ·obtain⟨es,h1,h2⟩:=he i hi
    exact S.lt h2 x hx
theorem Shape.below {α:Type} (S:Shape α) {w w':World} {cs:List Value} {d:α} {fp:List Nat} (h:S.R w cs d fp) (hb:Below w.heap.size w w'):S.R w' cs d fp:=
 S.frame (λ b h'=>hb.block b (S.lt h b h')) h
def Under (B:Nat) (fp:List Nat):Prop:=∀ b∈fp,b<B
theorem Shape.under {α:Type} (S:Shape α) {w w':World} {B:Nat} {cs:List Value} {d:α} {fp:List Nat} (h:S.R w cs d fp) (hu:Under B fp) (hb:Below B w w'):S.R w' cs d fp:=
 S.frame (λ b h'=>hb.block b (hu b h')) h
theorem Zjc {α:Type} {enc:α->Value} {ok:α->Prop} {w:World} {v:Value} {l:List α} {fp:List Nat} (h:(Zaa (sFlat enc ok)).R w [v] l fp) :
  ∃ a cap,v=.slice a l.length cap/\l.length<=cap/\cap<=maxLen/\(0<l.length->∃ b off,a=some ⟨b,off,none⟩/\b<w.heap.size/\b∈fp/\∀ i,(hi:i<l.length)->w.cell? ⟨b,off+i,none⟩=some (enc l[i]))/\∀ i,(hi:i<l.length)->ok l[i]:=by
 obtain⟨a,cap,hv,hc,hm,h⟩:=h
 refine ⟨a,cap,by simpa using hv,hc,hm,λ h0=>?_,λ i hi=>?_⟩
 ·rcases h with⟨rfl,_⟩ | ⟨_,b,off,fps,rfl,rfl,hb,he⟩
  ·simp at h0
  ·refine ⟨b,off,rfl,hb,by simp,λ i hi=>?_⟩
   obtain⟨es,h1,h2,_,_⟩:=he i hi
   have:=h1.2 0 (by simp [sFlat])
   rw [h2] at this
   simpa [sFlat] using this
 ·rcases h with⟨rfl,_⟩ | ⟨_,b,off,fps,rfl,rfl,hb,he⟩
  ·simp at hi
  ·obtain⟨es,h1,h2,h3,_⟩:=he i hi
   exact h3
theorem Zaf {w:World} {v:Value} {l:List ByteArray} {fp:List Nat} (h:(Zaa sStr).R w [v] l fp) :
  ∃ a cap,v=.slice a l.length cap/\l.length<=cap/\cap<=maxLen/\(0<l.length->∃ b off,a=some ⟨b,off,none⟩/\b<w.heap.size/\b∈fp/\∀ i,(hi:i<l.length)->w.cell? ⟨b,off+i,none⟩=some (.string l[i]))/\∀ i,(hi:i<l.length)->l[i].size<=maxLen:=
 Zjc h
def Own (w:World) (lo:Nat) (fp:List Nat):Prop:=fp.Nodup/\∀ b∈fp,lo<=b/\∃ cur e,w.heap[b]?=some (.cells cur e (0,0))
theorem Own.nil (w:World) (lo:Nat):Own w lo []:=⟨List.nodup_nil,by simp⟩
structure Kept (fp:List Nat) (w w':World):Prop where
 os:w'.os=w.os
 tape:w'.tape=w.tape
 output:w'.output=w.output
 size:w.heap.size<=w'.heap.size
 block:∀ k,k<w.heap.size->k∉fp->w'.heap[k]?=w.heap[k]?
theorem Kept.refl (fp:List Nat) (w:World):Kept fp w w:=⟨rfl,rfl,rfl,Nat.le_refl _,λ _ _ _=>rfl⟩
theorem Kept.trans {fp:List Nat} {a b c:World} (h:Kept fp a b) (k:Kept fp b c):Kept fp a c:=
 ⟨k.os.trans h.os,k.tape.trans h.tape,k.output.trans h.output,Nat.le_trans h.size k.size,λ i hi hn=>(k.block i (Nat.lt_of_lt_of_le hi h.size) hn).trans (h.block i hi hn)⟩
theorem Kept.of_below {fp:List Nat} {a b:World} (h:Below a.heap.size a b):Kept fp a b:=⟨h.os,h.tape,h.output,h.size,λ k hk _=>h.block k hk⟩
theorem Kept.mono {fp fp':List Nat} {a b:World} (h:Kept fp a b) (hs:∀ x∈fp,x∈fp'):Kept fp' a b:=⟨h.os,h.tape,h.output,h.size,λ k hk hn=>h.block k hk λ hx=>hn (hs k hx)⟩
theorem Kept.setCell {fp:List Nat} {a w:World} (h:Kept fp a w) {p:Addr} (hp:p.block∈fp) (u:Value):Kept fp a (w.setCell p u):=
 h.trans ⟨rfl,rfl,rfl,by simp [World.setCell],λ k hk hn=>Below.heap_setCell _ _ _ _ (by rintro rfl;exact hn hp)⟩
theorem Kept.drewN {fp:List Nat} {a w:World} (h:Kept fp a w) (n:Nat):Kept fp a (w.drewN n):=⟨h.os,h.tape,h.output,h.size,h.block⟩
theorem Kept.below {fp:List Nat} {lo:Nat} {a w:World} (h:Kept fp a w) (hlo:∀ b∈fp,lo<=b) (hs:lo<=a.heap.size):Below lo a w:=
 ⟨h.os,h.tape,h.output,h.size,λ k hk=>h.block k (by omega) λ hx=>by have:=hlo k hx;omega⟩
theorem Shape.kept {α:Type} (S:Shape α) {w w':World} {cs:List Value} {d:α} {fp fp':List Nat} (h:S.R w cs d fp') (hd:∀ b∈fp',b∉fp) (hk:Kept fp w w'):S.R w' cs d fp':=
 S.frame (λ b h'=>hk.block b (S.lt h b h') (hd b h')) h
theorem Own.kept {w w':World} {lo:Nat} {fp fp':List Nat} (h:Own w lo fp') (hd:∀ b∈fp',b∉fp) (hk:Kept fp w w'):Own w' lo fp':=
 ⟨h.1,λ b hb=>by
  obtain⟨h1,cur,e,h2⟩:=h.2 b hb
  exact⟨h1,cur,e,(hk.block b (Qg h2).1 (hd b hb)).trans h2⟩⟩
theorem Own.below {w w':World} {lo B:Nat} {fp:List Nat} (h:Own w lo fp) (hu:∀ b∈fp,b<B) (hb:Below B w w'):Own w' lo fp:=
 ⟨h.1,λ b hb'=>by
  obtain⟨h1,cur,e,h2⟩:=h.2 b hb'
  exact⟨h1,cur,e,(hb.block b (hu b hb')).trans h2⟩⟩
theorem Own.lt {w:World} {lo:Nat} {fp:List Nat} (h:Own w lo fp):∀ b∈fp,b<w.heap.size:=λ b hb=>by
 obtain⟨_,cur,e,h2⟩:=h.2 b hb
 exact(Qg h2).1
theorem Own.grow {w w':World} {lo:Nat} {fp:List Nat} (h:Own w lo fp) (hb:Below w.heap.size w w'):Own w' lo fp:=h.below h.lt hb
theorem Own.frozen {w:World} {lo:Nat} {fp:List Nat} (h:Own w lo fp) {b:Nat} (hb:b∈fp) (j:Nat):w.frozen? ⟨b,j,none⟩=false:=by
 obtain⟨_,cur,e,h2⟩:=h.2 b hb
 exact frozen_of_row w b j cur e h2
theorem Own.setCell {w:World} {lo:Nat} {fp:List Nat} (h:Own w lo fp) (p:Addr) (u:Value):Own (w.setCell p u) lo fp:=
 ⟨h.1,λ b hb=>by
  obtain⟨h1,cur,e,h2⟩:=h.2 b hb
  by_cases hp:b=p.block
  ·subst hp
   refine ⟨h1,if p.spot.isSome then cur else cur.setIfInBounds p.off u,e,?_⟩
   simp [World.setCell,Array.getElem?_modify,h2]
  ·exact⟨h1,cur,e,(Below.heap_setCell _ _ _ _ hp).trans h2⟩⟩
def AllUpto {α:Type} (p:α->Bool) (l:List α) (k:Nat):Prop:=∀ j,(h:j<l.length)->j<k->p l[j]=true
theorem AllUpto.zero {α:Type} (p:α->Bool) (l:List α):AllUpto p l 0:=by intro j h;omega
theorem AllUpto.succ {α:Type} {p:α->Bool} {l:List α} {k:Nat} (h:AllUpto p l k) (hk:k<l.length) (hb:p l[k]=true):AllUpto p l (k+1):=by
 intro j hj hjk
 by_cases e:j=k
 ·subst e;exact hb
 ·exact h j hj (by omega)
theorem all_no {α:Type} {p:α->Bool} {l:List α} {k:Nat} (hk:k<l.length) (hb:p l[k]=false):l.all p=false:=by
 rw [List.all_eq_false]
 exact⟨l[k],List.getElem_mem hk,by simp [hb]⟩
theorem ZlV {α:Type} {p:α->Bool} {l:List α} {k:Nat} (h:AllUpto p l k) (hk:l.length<=k):l.all p=true:=by
 rw [List.all_eq_true]
 intro x hx
 obtain⟨i,hi,rfl⟩:=List.getElem_of_mem hx
 exact h i hi (by omega)
theorem ZaP {s t:ByteArray} (h:s=t):(s.toList==t.toList)=true:=by rw [h];exact beq_self_eq_true _
theorem ZaU {s t:ByteArray} (h:s≠t):(s.toList==t.toList)=false:=by
 rw [beq_eq_false_iff_ne]
 intro e
 rw [ByteArray.toList_eq,ByteArray.toList_eq] at e
 exact h (Go.WideShapes.bytes_inj e)
def TI (P:Program) (t e:TypeId) (z:Value) (size bytes:Nat):Prop:=
 P.underlying t=some (.slice e)/\(P.info? e).map (λ i=>(i.zero,i.size,i.bytes))=some (some z,size,bytes)
theorem ti27:TI Tryz.prog 55 9 (.string ⟨#[]⟩) 1 16:=⟨by kernel_rfl,by kernel_rfl⟩
theorem Zj4 {P:Program} {t e:TypeId} {z:Value} {size bytes:Nat} (ti:TI P t e z size bytes) (w:World) {ops:Array Oper} {rest:List Oper} {o:Oper} {a:Act} {Q:Exit->Act->World->Prop}
  (hg:o.guard=none) (l c:Operand) (hop:o.op=Op.makeSlice t l c) (base n:Nat)
  (hl:a.eval l=.int .i64 n) (hc:a.eval c=.int .i64 n) (b2:bytes * n<=281474976710656) (b3:n<=maxLen) (b4:base<=w.heap.size)
  (hK:∀ w',w'.ownsRow base e size (.slice (some ⟨w.heap.size,0,none⟩) n n) n (madeCells z.cells (n * size)).toList->w.grownBy w' none->wpList P ops Q rest (a.put o.dst (.slice (some ⟨w.heap.size,0,none⟩) n n)) w') :
  wpList P ops Q (o::rest) a w:=by
 obtain⟨i,hi,hz0,hz1,hz2⟩:=info_parts ti.2
 exact wpList_make_full w hg l c t hop base e i z size ti.1 hi hz0 hz1 .i64 .i64 n n n hl hc rfl rfl (by rw [hz2];exact b2) b3 b4 hK
theorem Zlr {α:Type} {enc:α->Value} {ok:α->Prop} {w:World} {base e g n cap:Nat} {l:List α} (h:w.ownsRow base e 1 (.slice (some ⟨g,0,none⟩) n cap) n (l.map enc)) (hs:∀ i,(hi:i<l.length)->ok l[i]) :
  ∃ fp,(Zaa (sFlat enc ok)).R w [.slice (some ⟨g,0,none⟩) n cap] l fp/\Own w base fp:=by
 have hn:l.length=n:=by have:=h.1;simpa using this
 subst hn
 rcases h.2 with⟨h',_⟩ | ⟨g',cap',cur,h',hb,hg,hnc,hcm,hcs,htake⟩
 ·simp at h'
 simp only [Value.slice.injEq,Qi,Addr.mk.injEq,and_true,true_and] at h'
 obtain⟨rfl,rfl⟩:=h'
 by_cases h0:l.length=0
 ·exact⟨[],⟨_,_,rfl,hnc,hcm,.inl ⟨by simpa using h0,rfl⟩⟩,Own.nil _ _⟩
 ·refine ⟨g::(List.range l.length).flatMap λ _=>[],⟨_,_,rfl,hnc,hcm,.inr ⟨by omega,g,0,λ _=>[],rfl,rfl,(h.lt g rfl).2,λ i hi=>⟨[enc l[i]],⟨rfl,λ j hj=>?_⟩,rfl,hs i hi,rfl⟩⟩⟩,?_⟩
  ·simp [sFlat] at hj
   subst hj
   have:=h.cellAt i (by omega)
   simp only [List.getElem?_map,List.getElem?_eq_getElem hi,Option.map_some] at this
   simpa [sFlat] using this
  ·have e1:(List.range l.length).flatMap (λ _=>([]:List Nat))=[]:=by simp
   rw [e1]
   exact⟨by simp,by simp;exact⟨hb,_,_,hg⟩⟩
def Made {α:Type} (S:Shape α) (d:α) (w:World) (e:Ending) (w':World):Prop:=
 ∃ v fp,e=.returned v/\S.R w' [v] d fp/\Own w' w.heap.size fp/\Below w.heap.size w w'
theorem ZdF {a b c:World} {r:Option Nat} (h:a.grownBy b r) (k:b.grownBy c r):a.grownBy c r:=
 ⟨k.os.trans h.os,k.tape.trans h.tape,k.output.trans h.output,Nat.le_trans h.size k.size,λ i hi hn=>(k.block i (Nat.lt_of_lt_of_le hi h.size) hn).trans (h.block i hi hn)⟩
theorem ZdM {w:World} {b1 b2 e1 e2 s1 s2 n1 n2:Nat} {v1 v2:Value} {xs1 xs2:List Value} (h1:w.ownsRow b1 e1 s1 v1 n1 xs1) (h2:w.ownsRow b2 e2 s2 v2 n2 xs2) (he:e1≠e2):v1.ownBlock=none\/v1.ownBlock≠v2.ownBlock:=by
 rcases h1.2 with⟨rfl,_⟩ | ⟨g,cap,cur,rfl,_,hg,_⟩
 ·exact .inl rfl
 ·rcases h2.2 with⟨rfl,_⟩ | ⟨g',cap',cur',rfl,_,hg',_⟩
  ·right;simp [Value.ownBlock]
  ·right
   simp only [Value.ownBlock,ne_eq,Qi]
   rintro rfl
   rw [hg] at hg'
   simp at hg'
   exact he hg'.2
theorem Zbq {P:Program} {t e:TypeId} {z:Value} {bytes:Nat} (ti:TI P t e z 1 bytes) (hzs:z.cells.size=1) (w0:World) (x:Value) (hx1:x.oneCell'=true) {ops:Array Oper} {rest:List Oper} {o:Oper} {a:Act} {Q:Exit->Act->World->Prop}
  (hg:o.guard=none) (s y:Operand) (ho:o.op=.call { callee:=.builtin .append,args:=#[s,y],argTypes:=#[t,t] })
  (base:Nat) (v:Value) (n:Nat) (xs:List Value) (hs:a.eval s=v) (hown:w0.ownsRow base e 1 v n xs)
  (hy:a.eval y=.slice (some ⟨w0.heap.size,0,none⟩) 1 1)
  (h63:n+1<=maxLen) (hbytes:(n+1) * bytes<=140737488355328) (hbase:base<=w0.heap.size)
  (h:∀ v' w',w'.ownsRow base e 1 v' (n+1) (xs++[x])->w0.grownBy w' v.ownBlock->wpList P ops Q rest (a.put o.dst v') w'):wpList P ops Q (o::rest) a (w0.alloc (.cells #[x] e)):=by
 obtain⟨i,hi,hz0,hz1,hz2⟩:=info_parts ti.2
 refine wpList_append_own _ hg s y t ho base e i z 1 bytes ti.1 hi hz0 hz1 hz2 hzs (by decide) v n xs hs (hown.alloc _) ⟨w0.heap.size,0,none⟩ 1 1 [x] hy rfl ?_ (by simp [hx1]) h63 hbytes (by simp;omega) λ v' w' a b _=>h v' w' a (ZdF (World.grownBy_alloc _ _ _) b)
 intro j u hj
 have hj':j<1:=by have:=(List.getElem?_eq_some_iff.1 hj).1;simpa using this
 obtain rfl:j=0:=by omega
 simp at hj
 subst hj
 exact World.cell?_alloc_at _ _ _ _ rfl
theorem Za6 {α:Type} {enc:α->Value} {ok:α->Prop} {w:World} {base e n:Nat} {v:Value} {l:List α} (h:w.ownsRow base e 1 v n (l.map enc)) (hs:∀ i,(hi:i<l.length)->ok l[i]) :
  ∃ fp,(Zaa (sFlat enc ok)).R w [v] l fp/\Own w base fp/\∀ b∈fp,v.ownBlock=some b:=by
 have hn:l.length=n:=by have:=h.1;simpa using this
 rcases h.2 with⟨rfl,h0⟩ | ⟨g,cap,cur,rfl,hb,hg,hnc,hcm,hcs,htake⟩
 ·obtain rfl:l=[]:=by simpa using hn.trans h0
  exact⟨[],⟨none,0,rfl,by simp,by simp,.inl ⟨rfl,rfl⟩⟩,Own.nil _ _,by simp⟩
 ·obtain⟨fp,h1,h2⟩:=Zlr (ok:=ok) h hs
  refine ⟨fp,h1,h2,?_⟩
  obtain⟨a,cap',hv,_,_,h3⟩:=h1
  rcases h3 with⟨_,rfl⟩ | ⟨_,b,off,fps,rfl,rfl,_,he⟩
  ·simp
  ·simp only [List.cons.injEq,Value.slice.injEq,Qi,Addr.mk.injEq,and_true] at hv
   obtain⟨⟨rfl,_⟩,_⟩:=hv
   intro x hx
   rcases List.mem_cons.1 hx with rfl | hx
   ·rfl
   ·exfalso
    obtain⟨i,hi,hx⟩:=List.mem_flatMap.1 hx
    obtain⟨es,_,_,_,h4⟩:=he i (by simpa using hi)
    rw [h4] at hx
    simp at hx
theorem Zan {α:Type} (S:Shape α) (w:World) (a:Option Addr) (cap:Nat) (h:cap<=maxLen):(Zaa S).R w [.slice a 0 cap] [] []:=
 ⟨a,cap,rfl,by simp,h,.inl ⟨rfl,rfl⟩⟩
theorem Own.app {w:World} {lo:Nat} {fp1 fp2:List Nat} (h1:Own w lo fp1) (h2:Own w lo fp2) (hd:∀ b∈fp1,b∉fp2):Own w lo (fp1++fp2):=
 ⟨List.nodup_append.2 ⟨h1.1,h2.1,λ a ha b hb e=>hd a ha (e ▸ hb)⟩,λ b hb=>(Qa hb).elim (h1.2 b) (h2.2 b)⟩
structure Seen {α:Type} (S:Shape α) (w:World) (cs:List Value) (d:α) (fp:List Nat) (hi:Nat):Prop where
 r:S.R w cs d fp
 hi:Under hi fp
structure Live {α:Type} (S:Shape α) (w:World) (cs:List Value) (d:α) (fp:List Nat) (lo hi:Nat):Prop where
 r:S.R w cs d fp
 o:Own w lo fp
 hi:Under hi fp
section
variable {α:Type} {S:Shape α} {w w':World} {cs:List Value} {d:α} {fp fp':List Nat} {lo hi lo':Nat}
theorem Seen.of (h:S.R w cs d fp):Seen S w cs d fp w.heap.size:=⟨h,S.lt h⟩
theorem Seen.below (h:Seen S w cs d fp hi) (hb:Below w.heap.size w w'):Seen S w' cs d fp hi:=⟨S.below h.r hb,h.hi⟩
theorem Live.of (h:S.R w cs d fp) (o:Own w lo fp):Live S w cs d fp lo w.heap.size:=⟨h,o,o.lt⟩
theorem Live.below (h:Live S w cs d fp lo hi) (hb:Below w.heap.size w w'):Live S w' cs d fp lo hi:=⟨S.below h.r hb,h.o.grow hb,h.hi⟩
theorem Seen.kept (h:Seen S w cs d fp hi) (hk:Kept fp' w w') (ho:Own w lo' fp') (hle:hi<=lo'):Seen S w' cs d fp hi:=
 ⟨S.kept h.r (λ b hb hx=>by have h1:=h.hi b hb;have h2:=(ho.2 b hx).1;omega) hk,h.hi⟩
theorem Live.kept (h:Live S w cs d fp lo hi) (hk:Kept fp' w w') (ho:Own w lo' fp') (hle:hi<=lo'):Live S w' cs d fp lo hi:=
 have hd:∀ b∈fp,b∉fp':=λ b hb hx=>by have h1:=h.hi b hb;have h2:=(ho.2 b hx).1;omega
 ⟨S.kept h.r hd hk,h.o.kept hd hk,h.hi⟩
end
def Apart (fp fp':List Nat):Prop:=∀ b∈fp,b∉fp'
theorem Apart.symm {fp fp':List Nat} (h:Apart fp fp'):Apart fp' fp:=λ b h1 h2=>h b h2 h1
theorem Own.split {w:World} {lo:Nat} {fp1 fp2:List Nat} (h:Own w lo (fp1++fp2)):Own w lo fp1/\Own w lo fp2/\Apart fp1 fp2:=by
 obtain⟨h1,h2⟩:=h
 obtain⟨a,b,c⟩:=List.nodup_append.1 h1
 exact⟨⟨a,λ x hx=>h2 x (by simp [hx])⟩,⟨b,λ x hx=>h2 x (by simp [hx])⟩,λ x hx hy=>c x hx x hy rfl⟩
theorem Apart.split {fp fp1 fp2:List Nat} (h:Apart fp (fp1++fp2)):Apart fp fp1/\Apart fp fp2:=
 ⟨λ b hb hx=>h b hb (by simp [hx]),λ b hb hx=>h b hb (by simp [hx])⟩
end Go.Proofs.YtiaiggjfepoahaaGreat
