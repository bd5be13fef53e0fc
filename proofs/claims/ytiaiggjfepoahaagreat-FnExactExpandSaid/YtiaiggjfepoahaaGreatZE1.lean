/- Texts that the proof of E stands on, in one file. -/
import Derived.Test.YtiaiggjfepoahaaGreatSq
import Derived.Test.YtiaiggjfepoahaaGreatRows
import Derived.ProofKit
import Derived.WalkKit
import Derived.LoopTactic
import Derived.Lib.Hide
import Derived.Deep.Draws
import Derived.Outline
import Derived.Deep.QuietTactic
import Derived.BigQuiet
import Derived.OwnWalk
import Derived.Laws.BytesString
import Derived.Laws.IdiomStrings
import Derived.Deep.RegionHeld3
set_option linter.unusedVariables false
set_option maxHeartbeats 16000000
set_option maxRecDepth 100000
set_option linter.unusedSimpArgs false
/- Words of our own over any program: what a law's end owes, for arguments of any type. -/
namespace Go.Proofs.YtiaiggjfepoahaaGreat
open Go.ChangeShapes Go.WideShapes Go.ChangeAt Go.RowKit
theorem Zfj {H:Type} {enc:TypeId × Value->H} {P:Program} (hl:laidOutB P=true) {W W':World} (hb:Below W.heap.size W W') :
  ∀ {ts:List TypeId} {vs:List Value} {ds:List (DataW H)} {ps:List MemPlace},(∀ t∈ts,P.readableRec t=true/\t<P.types.size) ->
   DataW.TrodAll enc P W 0 (λ _=>true) true ts vs ds ps->DataW.TrodAll enc P W' 0 (λ b=>decide (b<W.heap.size)) true ts vs ds ps
 | [],[],[],_,_,h=>h
 |
  t::ts,v::vs,d::ds,ps,hr,h=>by
  obtain⟨p,q,h1,h2,rfl⟩:=h
  obtain⟨ha,hs⟩:=hr t (by simp)
  have hlt:∀ x∈p,x.block<W.heap.size:=by
   obtain⟨fuel,hf⟩:=h1
   exact DataW.trod_lt fuel _ _ _ hf
  exact⟨p,q,Below.trod hl ha hs h1 hb hlt,Zfj hl hb (λ t ht=>hr t (by simp [ht])) h2,rfl⟩
 | [],_::_,_,_,_,h=>h.elim
 | [],[],_::_,_,_,h=>h.elim
 | _::_,[],_,_,_,h=>h.elim
 | _::_,_::_,[],_,_,h=>h.elim
theorem Zjv {H:Type} {enc:TypeId × Value->H} {P:Program} {f:Func} {s:ChangeSpec} {W W':World} {args:Array Value} {ds gs:List (DataW H)} {before:List MemPlace} {tb:TypeId}
  (hl:laidOutB P=true) (hread:∀ t∈f.params.toList,P.readableRec t=true/\t<P.types.size) (hsv:s.vars=[]) (hfr:f.resultTypes=#[tb]) (htb:P.underlying tb=some .bool)
  (hW:DataW.Whole enc P f.params.toList s.vars false W args.toList ds gs before)
  (hr:(s.fn H (ds++gs)).results=[.lit (.bool true)]) (ha:(s.fn H (ds++gs)).args=ds) (hv:(s.fn H (ds++gs)).vars=[])
  (hB:Below W.heap.size W W'):s.post enc P f false true false false W args (.bool true) W':=by
 have hW0:=hW
 obtain⟨p,q,hA,hV,rfl,hfz,hnd⟩:=hW
 refine ⟨ds,gs,p++q,[],p,[],hW0,?_,?_,?_,hB.frame _,by simp⟩
 ·rw [hr,hfr]
  exact⟨[],[],⟨1,by simp [DataW.trod,Value.cells,htb]⟩,rfl,rfl⟩
 ·rw [ha];exact Zfj hl hB hread hA
 ·rw [hsv,hv];exact rfl
theorem Zag {B:Nat} {a w:World} (h:Below B a w) (n:Nat):Below B a (w.drewN n):=⟨h.os,h.tape,h.output,h.size,h.block⟩
open Go.RowKit
def Zdl (c:UInt8):Bool:=32<=c && c<=126
def ZaM (s:ByteArray):Bool:=decide (s.size<=200) && s.data.toList.all Zdl
theorem Zhj (c:UInt8):Zdl c=true ↔ 32<=c.toNat/\c.toNat<=126:=by
 simp [Zdl,UInt8.le_iff_toNat_le]
def OkUpto (s:ByteArray) (k:Nat):Prop:=∀ j,(h:j<s.size)->j<k->Zdl s[j]=true
theorem OkUpto.zero (s:ByteArray):OkUpto s 0:=by intro j h;omega
theorem OkUpto.succ {s:ByteArray} {k:Nat} (h:OkUpto s k) (hk:k<s.size) (hb:32<=(s[k].toNat:Int)/\(s[k].toNat:Int)<=126):OkUpto s (k+1):=by
 intro j hj hjk
 by_cases e:j=k
 ·subst e;rw [Zhj];omega
 ·exact h j hj (by omega)
theorem ZiM {s:ByteArray} {k:Nat} (hk:k<s.size) (hb:¬ (32<=(s[k].toNat:Int)/\(s[k].toNat:Int)<=126)):ZaM s=false:=by
 unfold ZaM
 have:s.data.toList.all Zdl=false:=by
  rw [List.all_eq_false]
  refine ⟨s[k],?_,?_⟩
  ·simp [ByteArray.getElem_eq_getElem_data]
  ·rw [Zhj];omega
 rw [this,Bool.and_false]
theorem ZkC {s:ByteArray} (h:200<s.size):ZaM s=false:=by
 unfold ZaM;rw [decide_eq_false (by omega),Bool.false_and]
theorem ZeM {s:ByteArray} {k:Nat} (h:OkUpto s k) (hk:s.size<=k):ZaM s=decide (s.size<=200):=by
 unfold ZaM
 have:s.data.toList.all Zdl=true:=by
  rw [List.all_eq_true]
  intro x hx
  obtain⟨i,hi,rfl⟩:=List.getElem_of_mem hx
  have hi':i<s.size:=by simpa using hi
  have:=h i hi' (by omega)
  simpa [ByteArray.getElem_eq_getElem_data] using this
 rw [this,Bool.and_true]
theorem Zad {a b:Bool} (h:a=b):Ending.returned (.bool a)=.returned (.bool b):=by rw [h]
theorem Zeu (s:ByteArray) (w:World) (hs:s.size<=maxLen) :
  Calls Tryz.prog 57 #[.string s] w λ e w'=>e=.returned (.bool (ZaM s))/\w=w':=by
 unfold maxLen at hs
 go_enter Tryz.func57,Tryz.ntmps57
 go_wp2
 go_loop [3] (λ i=>∃ k:Nat,k<=s.size/\i=.int .i64 k/\OkUpto s k) (λ i=>s.size-(intOf i).toNat)
 case atStart=>exact⟨0,by omega,rfl,OkUpto.zero s⟩
 case round =>
  obtain⟨k,hk,rfl,hall⟩:=hrel
  by_cases hlt:k<s.size
  ·by_cases hb:32<=(s[k].toNat:Int)/\(s[k].toNat:Int)<=126
   ·have hn:=hall.succ hlt hb
    go_wp2
    go_round
    case rel=>exact⟨k+1,by omega,by go_num,hn⟩
    case measure=>simp [intOf];omega
   ·have HF:=Qh (ZiM hlt hb)
    go_wp2
    all_goals (go_ret;exact⟨Zad HF.out.symm,rfl⟩)
  ·have HF:=Qh (ZeM hall (by omega))
   go_wp2
   go_ret
   exact⟨Zad (by rw [HF.out];exact decide_eq_decide.2 (by omega)),rfl⟩
theorem Zev (s:ByteArray) (w:World) (hs:s.size<=maxLen) :
  Calls Tryz.prog 11 #[.string s] w λ e w'=>e=.returned (.bool (ZaM s))/\w=w':=by
 unfold maxLen at hs
 by_cases hl:200<s.size
 ·have HF:=Qh (ZkC hl)
  go_enter Tryz.func11,Tryz.ntmps11
  go_wp2
  go_ret
  exact⟨Zad HF.out.symm,rfl⟩
 ·go_enter Tryz.func11,Tryz.ntmps11
  go_wp2
  go_loop [9] (λ i=>∃ k:Nat,k<=s.size/\i=.int .i64 k/\OkUpto s k) (λ i=>s.size-(intOf i).toNat)
  case atStart=>exact⟨0,by omega,rfl,OkUpto.zero s⟩
  case round =>
   obtain⟨k,hk,rfl,hall⟩:=hrel
   by_cases hlt:k<s.size
   ·by_cases hb:32<=(s[k].toNat:Int)/\(s[k].toNat:Int)<=126
    ·have hn:=hall.succ hlt hb
     go_wp2
     go_round
     case rel=>exact⟨k+1,by omega,by go_num,hn⟩
     case measure=>simp [intOf];omega
    ·have HF:=Qh (ZiM hlt hb)
     go_wp2
     all_goals (go_ret;exact⟨Zad HF.out.symm,rfl⟩)
   ·have HF:=Qh (ZeM hall (by omega))
    go_wp2
    go_ret
    exact⟨Zad (by rw [HF.out];exact(decide_eq_true (by omega)).symm),rfl⟩
structure Shape (α:Type) where
 m:Nat
 R:World->List Value->α->List Nat->Prop
 frame:∀ {w w':World} {cs:List Value} {d:α} {fp:List Nat},(∀ b∈fp,w'.heap[b]?=w.heap[b]?)->R w cs d fp->R w' cs d fp
 lt:∀ {w:World} {cs:List Value} {d:α} {fp:List Nat},R w cs d fp->∀ b∈fp,b<w.heap.size
def sFlat {α:Type} (enc:α->Value) (ok:α->Prop):Shape α where
 m:=1
 R _ cs d fp:=cs=[enc d]/\ok d/\fp=[]
 frame _ h:=h
 lt h:=by obtain⟨_,_,rfl⟩:=h;simp
def okStr (s:ByteArray):Prop:=s.size<=maxLen
def okInt (n:Int):Prop:=-9223372036854775808<=n/\n<=9223372036854775807
def encByte (b:UInt8):Value:=.int .u8 b.toNat
def sStr:Shape ByteArray:=sFlat Value.string okStr
def sInt:Shape Int:=sFlat (Value.int .i64) okInt
def sBool:Shape Bool:=sFlat Value.bool λ _=>True
def sByte:Shape UInt8:=sFlat encByte λ _=>True
def ElemAt (w:World) (b off m i:Nat) (es:List Value):Prop:=es.length=m/\∀ j,j<m->w.cell? ⟨b,off+i * m+j,none⟩=es[j]?
def RowR {α:Type} (S:Shape α) (w:World) (b off:Nat) (l:List α) (fps:Nat->List Nat):Prop:=
 b<w.heap.size/\∀ i,(h:i<l.length)->∃ es,ElemAt w b off S.m i es/\S.R w es l[i] (fps i)
def SliceR {α:Type} (S:Shape α) (w:World) (cs:List Value) (l:List α) (fp:List Nat):Prop:=
 ∃ a cap,cs=[.slice a l.length cap]/\l.length<=cap/\cap<=maxLen /\
  ((l=[]/\fp=[])\/(0<l.length/\∃ b off fps,a=some ⟨b,off,none⟩/\fp=b::(List.range l.length).flatMap fps/\RowR S w b off l fps))
theorem ElemAt.frame {w w':World} {b off m i:Nat} {es:List Value} (h:ElemAt w b off m i es) (hb:w'.heap[b]?=w.heap[b]?):ElemAt w' b off m i es:=
 ⟨h.1,λ j hj=>(World.cell?_of_block (w:=w) (w':=w') (a:=⟨b,off+i * m+j,none⟩) hb).trans (h.2 j hj)⟩
def Zaa {α:Type} (S:Shape α):Shape (List α) where
 m:=1
 R:=SliceR S
 frame:=by
  rintro w w' cs l fp hf ⟨a,cap,rfl,hc,hm,h⟩
  refine ⟨a,cap,rfl,hc,hm,?_⟩
  rcases h with h | ⟨h0,b,off,fps,rfl,rfl,hb,he⟩
  ·exact .inl h
  ·refine .inr ⟨h0,b,off,fps,rfl,rfl,?_,λ i hi=>?_⟩
   ·have h1:=hf b (by simp)
    have h2:w'.heap[b]?≠none:=by rw [h1];simp [hb]
    exact Nat.lt_of_not_le λ h=>h2 (by simp [h])
   ·obtain⟨es,h1,h2⟩:=he i hi
    exact⟨es,h1.frame (hf b (by simp)),S.frame (λ x hx=>hf x (by simp;exact .inr ⟨i,hi,hx⟩)) h2⟩
 lt:=by
  rintro w cs l fp ⟨a,cap,rfl,hc,hm,h⟩ x hx
  rcases h with⟨_,rfl⟩ | ⟨h0,b,off,fps,rfl,rfl,hb,he⟩
  ·simp at hx
  ·simp at hx
   rcases hx with rfl | ⟨i,hi,hx⟩
   ·exact hb
   ·obtain⟨es,h1,h2⟩:=he i hi
    exact S.lt h2 x hx
theorem Shape.below {α:Type} (S:Shape α) {w w':World} {cs:List Value} {d:α} {fp:List Nat} (h:S.R w cs d fp) (hb:Below w.heap.size w w'):S.R w' cs d fp:=
 S.frame (λ b h'=>hb.block b (S.lt h b h')) h
def Under (B:Nat) (fp:List Nat):Prop:=∀ b∈fp,b<B
theorem Shape.under {α:Type} (S:Shape α) {w w':World} {B:Nat} {cs:List Value} {d:α} {fp:List Nat} (h:S.R w cs d fp) (hu:Under B fp) (hb:Below B w w'):S.R w' cs d fp:=
 S.frame (λ b h'=>hb.block b (hu b h')) h
theorem Zl3 {α:Type} {enc:α->Value} {ok:α->Prop} {w:World} {v:Value} {l:List α} {fp:List Nat} (h:(Zaa (sFlat enc ok)).R w [v] l fp) :
  ∃ a cap,v=.slice a l.length cap/\l.length<=cap/\cap<=maxLen/\(0<l.length->∃ b off,a=some ⟨b,off,none⟩/\b<w.heap.size/\b∈fp/\∀ i,(hi:i<l.length)->w.cell? ⟨b,off+i,none⟩=some (enc l[i]))/\∀ i,(hi:i<l.length)->ok l[i]:=by
 obtain⟨a,cap,hv,hc,hm,h⟩:=h
 refine ⟨a,cap,by simpa using hv,hc,hm,λ h0=>?_,λ i hi=>?_⟩
 ·rcases h with⟨rfl,_⟩ | ⟨_,b,off,fps,rfl,rfl,hb,he⟩
  ·simp at h0
  ·refine ⟨b,off,rfl,hb,by simp,λ i hi=>?_⟩
   obtain⟨es,h1,h2,_,_⟩:=he i hi
   have:=h1.2 0 (by simp [sFlat])
   rw [h2] at this
   simpa [sFlat] using this
 ·rcases h with⟨rfl,_⟩ | ⟨_,b,off,fps,rfl,rfl,hb,he⟩
  ·simp at hi
  ·obtain⟨es,h1,h2,h3,_⟩:=he i hi
   exact h3
theorem Zaf {w:World} {v:Value} {l:List ByteArray} {fp:List Nat} (h:(Zaa sStr).R w [v] l fp) :
  ∃ a cap,v=.slice a l.length cap/\l.length<=cap/\cap<=maxLen/\(0<l.length->∃ b off,a=some ⟨b,off,none⟩/\b<w.heap.size/\b∈fp/\∀ i,(hi:i<l.length)->w.cell? ⟨b,off+i,none⟩=some (.string l[i]))/\∀ i,(hi:i<l.length)->l[i].size<=maxLen:=
 Zl3 h
def Own (w:World) (lo:Nat) (fp:List Nat):Prop:=fp.Nodup/\∀ b∈fp,lo<=b/\∃ cur e,w.heap[b]?=some (.cells cur e (0,0))
theorem Own.nil (w:World) (lo:Nat):Own w lo []:=⟨List.nodup_nil,by simp⟩
structure Kept (fp:List Nat) (w w':World):Prop where
 os:w'.os=w.os
 tape:w'.tape=w.tape
 output:w'.output=w.output
 size:w.heap.size<=w'.heap.size
 block:∀ k,k<w.heap.size->k∉fp->w'.heap[k]?=w.heap[k]?
theorem Kept.refl (fp:List Nat) (w:World):Kept fp w w:=⟨rfl,rfl,rfl,Nat.le_refl _,λ _ _ _=>rfl⟩
theorem Kept.trans {fp:List Nat} {a b c:World} (h:Kept fp a b) (k:Kept fp b c):Kept fp a c:=
 ⟨k.os.trans h.os,k.tape.trans h.tape,k.output.trans h.output,Nat.le_trans h.size k.size,λ i hi hn=>(k.block i (Nat.lt_of_lt_of_le hi h.size) hn).trans (h.block i hi hn)⟩
theorem Kept.of_below {fp:List Nat} {a b:World} (h:Below a.heap.size a b):Kept fp a b:=⟨h.os,h.tape,h.output,h.size,λ k hk _=>h.block k hk⟩
theorem Kept.mono {fp fp':List Nat} {a b:World} (h:Kept fp a b) (hs:∀ x∈fp,x∈fp'):Kept fp' a b:=⟨h.os,h.tape,h.output,h.size,λ k hk hn=>h.block k hk λ hx=>hn (hs k hx)⟩
theorem Kept.setCell {fp:List Nat} {a w:World} (h:Kept fp a w) {p:Addr} (hp:p.block∈fp) (u:Value):Kept fp a (w.setCell p u):=
 h.trans ⟨rfl,rfl,rfl,by simp [World.setCell],λ k hk hn=>Below.heap_setCell _ _ _ _ (by rintro rfl;exact hn hp)⟩
theorem Kept.drewN {fp:List Nat} {a w:World} (h:Kept fp a w) (n:Nat):Kept fp a (w.drewN n):=⟨h.os,h.tape,h.output,h.size,h.block⟩
theorem Kept.below {fp:List Nat} {lo:Nat} {a w:World} (h:Kept fp a w) (hlo:∀ b∈fp,lo<=b) (hs:lo<=a.heap.size):Below lo a w:=
 ⟨h.os,h.tape,h.output,h.size,λ k hk=>h.block k (by omega) λ hx=>by have:=hlo k hx;omega⟩
theorem Shape.kept {α:Type} (S:Shape α) {w w':World} {cs:List Value} {d:α} {fp fp':List Nat} (h:S.R w cs d fp') (hd:∀ b∈fp',b∉fp) (hk:Kept fp w w'):S.R w' cs d fp':=
 S.frame (λ b h'=>hk.block b (S.lt h b h') (hd b h')) h
theorem Own.kept {w w':World} {lo:Nat} {fp fp':List Nat} (h:Own w lo fp') (hd:∀ b∈fp',b∉fp) (hk:Kept fp w w'):Own w' lo fp':=
 ⟨h.1,λ b hb=>by
  obtain⟨h1,cur,e,h2⟩:=h.2 b hb
  exact⟨h1,cur,e,(hk.block b (Qg h2).1 (hd b hb)).trans h2⟩⟩
theorem Own.below {w w':World} {lo B:Nat} {fp:List Nat} (h:Own w lo fp) (hu:∀ b∈fp,b<B) (hb:Below B w w'):Own w' lo fp:=
 ⟨h.1,λ b hb'=>by
  obtain⟨h1,cur,e,h2⟩:=h.2 b hb'
  exact⟨h1,cur,e,(hb.block b (hu b hb')).trans h2⟩⟩
theorem Own.lt {w:World} {lo:Nat} {fp:List Nat} (h:Own w lo fp):∀ b∈fp,b<w.heap.size:=λ b hb=>by
 obtain⟨_,cur,e,h2⟩:=h.2 b hb
 exact(Qg h2).1
theorem Own.grow {w w':World} {lo:Nat} {fp:List Nat} (h:Own w lo fp) (hb:Below w.heap.size w w'):Own w' lo fp:=h.below h.lt hb
theorem Own.frozen {w:World} {lo:Nat} {fp:List Nat} (h:Own w lo fp) {b:Nat} (hb:b∈fp) (j:Nat):w.frozen? ⟨b,j,none⟩=false:=by
 obtain⟨_,cur,e,h2⟩:=h.2 b hb
 exact frozen_of_row w b j cur e h2
theorem Own.setCell {w:World} {lo:Nat} {fp:List Nat} (h:Own w lo fp) (p:Addr) (u:Value):Own (w.setCell p u) lo fp:=
 ⟨h.1,λ b hb=>by
  obtain⟨h1,cur,e,h2⟩:=h.2 b hb
  by_cases hp:b=p.block
  ·subst hp
   refine ⟨h1,if p.spot.isSome then cur else cur.setIfInBounds p.off u,e,?_⟩
   simp [World.setCell,Array.getElem?_modify,h2]
  ·exact⟨h1,cur,e,(Below.heap_setCell _ _ _ _ hp).trans h2⟩⟩
theorem flat_set {α:Type} {enc:α->Value} {ok:α->Prop} {w:World} {b off n cap:Nat} {l:List α} {fp:List Nat} (h:(Zaa (sFlat enc ok)).R w [.slice (some ⟨b,off,none⟩) n cap] l fp) {i:Nat} (hi:i<l.length) {d:α} (hd:ok d) :
  (Zaa (sFlat enc ok)).R (w.setCell ⟨b,off+i,none⟩ (enc d)) [.slice (some ⟨b,off,none⟩) n cap] (l.set i d) fp:=by
 obtain⟨a,cap',hv,hc,hm,h⟩:=h
 simp only [List.cons.injEq,Value.slice.injEq,and_true] at hv
 obtain⟨rfl,rfl,rfl⟩:=hv
 rcases h with⟨rfl,_⟩ | ⟨h0,b',off',fps,ha,rfl,hb,he⟩
 ·simp at hi
 ·simp only [Qi,Addr.mk.injEq,and_true] at ha
  obtain⟨rfl,rfl⟩:=ha
  refine ⟨_,_,by simp,by simpa using hc,hm,.inr ⟨by simpa using h0,b,off,fps,rfl,by simp,by simpa [World.setCell] using hb,λ j hj=>?_⟩⟩
  have hj':j<l.length:=by simpa using hj
  obtain⟨es,h1,h2,h3,h4⟩:=he j hj'
  have hcell:w.cell? ⟨b,off+j,none⟩=some (enc l[j]):=by
   have:=h1.2 0 (by simp [sFlat])
   rw [h2] at this
   simpa [sFlat] using this
  refine ⟨[enc ((l.set i d)[j])],⟨rfl,λ x hx=>?_⟩,rfl,?_,h4⟩
  ·have hx0:x=0:=by simp [sFlat] at hx;omega
   subst hx0
   simp only [sFlat,Nat.mul_one,Nat.add_zero,List.length_cons,List.length_nil,Nat.zero_add,Nat.lt_add_one,List.getElem?_eq_getElem,List.getElem_cons_zero]
   by_cases e:j=i
   ·subst e
    rw [List.getElem_set_self]
    exact World.cell?_setCell_same _ _ _ hcell
   ·rw [List.getElem_set_ne (λ h=>e h.symm),World.cell?_setCell_other _ _ _ _ (by intro hh;simp only [Addr.mk.injEq] at hh;omega)]
    exact hcell
  ·by_cases e:j=i
   ·subst e;rw [List.getElem_set_self];exact hd
   ·rw [List.getElem_set_ne (λ h=>e h.symm)];exact h3
def AllUpto {α:Type} (p:α->Bool) (l:List α) (k:Nat):Prop:=∀ j,(h:j<l.length)->j<k->p l[j]=true
theorem AllUpto.zero {α:Type} (p:α->Bool) (l:List α):AllUpto p l 0:=by intro j h;omega
theorem AllUpto.succ {α:Type} {p:α->Bool} {l:List α} {k:Nat} (h:AllUpto p l k) (hk:k<l.length) (hb:p l[k]=true):AllUpto p l (k+1):=by
 intro j hj hjk
 by_cases e:j=k
 ·subst e;exact hb
 ·exact h j hj (by omega)
theorem all_no {α:Type} {p:α->Bool} {l:List α} {k:Nat} (hk:k<l.length) (hb:p l[k]=false):l.all p=false:=by
 rw [List.all_eq_false]
 exact⟨l[k],List.getElem_mem hk,by simp [hb]⟩
theorem Zk1 {α:Type} {p:α->Bool} {l:List α} {k:Nat} (h:AllUpto p l k) (hk:l.length<=k):l.all p=true:=by
 rw [List.all_eq_true]
 intro x hx
 obtain⟨i,hi,rfl⟩:=List.getElem_of_mem hx
 exact h i hi (by omega)
def ZaY (l:List ByteArray):Nat:=l.length+(l.map (·.size)).sum
theorem Zjo (l:List ByteArray) (k:Nat) (h:k<l.length):((l.take (k+1)).map (·.size)).sum=((l.take k).map (·.size)).sum+l[k].size:=by
 rw [List.take_succ_eq_append_getElem h];simp only [List.map_append,List.sum_append,List.map_cons,List.map_nil,List.sum_cons,List.sum_nil,Nat.add_zero]
theorem ZkD (l:List ByteArray) (k:Nat):((l.take k).map (·.size)).sum<=(l.map (·.size)).sum:=by
 have:=congrArg (λ l:List ByteArray=>(l.map (·.size)).sum) (List.take_append_drop k l)
 simp only [List.map_append,List.sum_append] at this
 omega
def SzR (B r:Int) (n:Nat):Prop:=r=if (n:Int)<=B then B-n else -1
theorem SzR.good {B r:Int} {n:Nat} (h:SzR B r n) (h0:¬ r<0):(n:Int)<=B/\r=B-n:=by
 unfold SzR at h;split at h <;> constructor <;> omega
theorem SzR.le {B r:Int} {n:Nat} (h:SzR B r n) (hB:0<=B):r<=B:=by unfold SzR at h;split at h <;> omega
theorem SzR.yes {B r:Int} {n:Nat} (h:(n:Int)<=B) (hr:r=B-n):SzR B r n:=by unfold SzR;rw [if_pos h];exact hr
theorem SzR.no {B:Int} {n:Nat} (h:B<(n:Int)):SzR B (-1) n:=by unfold SzR;rw [if_neg (by omega)]
theorem ZiN (v:Value) (l:List ByteArray) (fp:List Nat) (w:World) (B:Int) (h0:0<=B) (h1:B<=1048576) (H:(Zaa sStr).R w [v] l fp) :
  Calls Tryz.prog 65 #[v,.int .i64 B] w λ e w'=>∃ r:Int,e=.returned (.int .i64 r)/\SzR B r (ZaY l)/\w=w':=by
 obtain⟨a,cap,rfl,hc,hm,hcell,hsz⟩:=Zaf H
 unfold maxLen at hm
 by_cases hl:B<l.length
 ·have HN:Hid (SzR B (-1) (ZaY l)):=SzR.no (by unfold ZaY;omega)
  go_enter Tryz.func65,Tryz.ntmps65
  go_wp2
  go_ret
  exact⟨-1,rfl,HN.out,rfl⟩
 ·go_enter Tryz.func65,Tryz.ntmps65
  go_wp2
  go_loop [1,5] (λ t i=>∃ (k:Nat) (r:Int),k<=l.length/\i=.int .i64 k/\t=.int .i64 r/\0<=r/\r<=B/\Hid (r=B-l.length-(((l.take k).map (·.size)).sum:Nat))) (λ _ i=>l.length-(intOf i).toNat)
  case atStart=>exact⟨0,_,by omega,rfl,rfl,by omega,by omega,by show _=_;simp⟩
  case round =>
   obtain⟨k,r,hk,rfl,rfl,hr0,hr1,HA⟩:=hrel
   by_cases hlt:k<l.length
   ·obtain⟨b,off,rfl,hb,_,hc2⟩:=hcell (by omega)
    have hck:=hc2 k hlt
    have hsk:=hsz k hlt
    unfold maxLen at hsk
    clear hc2
    have HT:=Qh (Zjo l k hlt)
    by_cases hrk:r<(l[k].size:Int)
    ·have HN:Hid (SzR B (-1) (ZaY l)):=SzR.no (by
      have:=ZkD l (k+1);have:=HT.out;have:=HA.out;unfold ZaY;omega)
     go_wp2
     go_ret
     exact⟨-1,rfl,HN.out,rfl⟩
    ·go_wp2
     go_round
     case rel=>exact⟨k+1,_,by omega,by go_num,rfl,by omega,by omega,by show _=_;rw [HT.out,HA.out];omega⟩
     case measure=>simp [intOf];omega
   ·have HN:Hid (SzR B r (ZaY l)):=by
     have h:=HA.out
     rw [List.take_of_length_le (by omega)] at h
     exact SzR.yes (by unfold ZaY;omega) (by unfold ZaY;omega)
    go_wp2
    go_ret
    exact⟨r,rfl,HN.out,rfl⟩
def EqUpto {α:Type} (l1 l2:List α) (k:Nat):Prop:=∀ j,(h:j<l1.length)->(h':j<l2.length)->j<k->l1[j]=l2[j]
theorem EqUpto.succ {α:Type} {l1 l2:List α} {k:Nat} (h:EqUpto l1 l2 k) (h1:k<l1.length) (h2:k<l2.length) (e:l1[k]=l2[k]):EqUpto l1 l2 (k+1):=by
 intro j hj hj' hjk
 by_cases e':j=k
 ·subst e';exact e
 ·exact h j hj hj' (by omega)
theorem EqUpto.eq {α:Type} [DecidableEq α] {l1 l2:List α} {k:Nat} (h:EqUpto l1 l2 k) (hl:l1.length=l2.length) (hk:l1.length<=k):decide (l1=l2)=true:=by
 rw [decide_eq_true_eq]
 exact List.ext_getElem hl λ i h1 h2=>h i h1 h2 (by omega)
theorem eq_no {α:Type} [DecidableEq α] {l1 l2:List α} {k:Nat} (h1:k<l1.length) (h2:k<l2.length) (e:l1[k]≠l2[k]):decide (l1=l2)=false:=by
 rw [decide_eq_false_iff_not];rintro rfl;exact e rfl
theorem ZaP {s t:ByteArray} (h:s=t):(s.toList==t.toList)=true:=by rw [h];exact beq_self_eq_true _
theorem Zbb {s t:ByteArray} (h:s≠t):(s.toList==t.toList)=false:=by
 rw [beq_eq_false_iff_ne]
 intro e
 rw [ByteArray.toList_eq,ByteArray.toList_eq] at e
 exact h (Go.WideShapes.bytes_inj e)
theorem Zl4 (v1 v2:Value) (l1 l2:List ByteArray) (fp1 fp2:List Nat) (w:World) (H1:(Zaa sStr).R w [v1] l1 fp1) (H2:(Zaa sStr).R w [v2] l2 fp2) :
  Calls Tryz.prog 82 #[v1,v2] w λ e w'=>e=.returned (.bool (decide (l1=l2)))/\∃ n,w'=w.drewN n:=by
 obtain⟨a1,cap1,rfl,hc1,hm1,hcell1,hsz1⟩:=Zaf H1
 obtain⟨a2,cap2,rfl,hc2,hm2,hcell2,hsz2⟩:=Zaf H2
 unfold maxLen at hm1 hm2
 by_cases hl:l1.length=l2.length
 ·have hnb:((l1.length:Int) != (l2.length:Int))=false:=by simp [hl]
  have HL:=Qh hl;clear hl
  go_enter Tryz.func82,Tryz.ntmps82
  go_wp2
  go_loopw [5] (λ i wr=>∃ k:Nat,k<=l1.length/\i=.int .i64 k/\(∃ n,wr=w.drewN n)/\EqUpto l1 l2 k) (λ i _=>l1.length-(intOf i).toNat)
  case atStart=>exact⟨0,by omega,rfl,⟨0,rfl⟩,by intro j h h' hj;omega⟩
  case round =>
   obtain⟨k,hk,rfl,⟨n,rfl⟩,hall⟩:=hrel
   by_cases hlt:k<l1.length
   ·have hlt2:k<l2.length:=by have:=HL.out;omega
    obtain⟨b1,off1,rfl,hb1,_,hd1⟩:=hcell1 (by omega)
    obtain⟨b2,off2,rfl,hb2,_,hd2⟩:=hcell2 (by omega)
    have hck1:=hd1 k hlt
    have hck2:=hd2 k hlt2
    clear hd1 hd2
    by_cases heq:l1[k]=l2[k]
    ·have hne:=ZaP heq
     have hn:=hall.succ hlt hlt2 heq
     clear heq
     go_wp2
     go_quiet (fail)
     go_wp2
     go_roundw
     case rel=>exact⟨k+1,by omega,by go_num,⟨_,rfl⟩,hn⟩
     case measure=>simp [intOf];omega
    ·have hne:=Zbb heq
     have HF:=Qh (eq_no hlt hlt2 heq)
     clear heq
     go_wp2
     go_quiet (fail)
     go_wp2
     go_ret
     exact⟨Zad HF.out.symm,_,World.drewN_drewN _ _ _⟩
   ·have HF:=Qh (hall.eq HL.out (by omega))
    go_wp2
    go_ret
    exact⟨Zad HF.out.symm,_,rfl⟩
 ·have hnb:((l1.length:Int) != (l2.length:Int))=true:=by simp;omega
  have HF:Hid (decide (l1=l2)=false):=decide_eq_false (by rintro rfl;exact hl rfl)
  clear hl
  go_enter Tryz.func82,Tryz.ntmps82
  go_wp2
  go_ret
  exact⟨Zad HF.out.symm,0,rfl⟩
def TI (P:Program) (t e:TypeId) (z:Value) (size bytes:Nat):Prop:=
 P.underlying t=some (.slice e)/\(P.info? e).map (λ i=>(i.zero,i.size,i.bytes))=some (some z,size,bytes)
theorem ti27:TI Tryz.prog 55 9 (.string ⟨#[]⟩) 1 16:=⟨by kernel_rfl,by kernel_rfl⟩
theorem ZcI {P:Program} {t e:TypeId} {z:Value} {size bytes:Nat} (ti:TI P t e z size bytes) (w:World) {ops:Array Oper} {rest:List Oper} {o:Oper} {a:Act} {Q:Exit->Act->World->Prop}
  (hg:o.guard=none) (l c:Operand) (hop:o.op=Op.makeSlice t l c) (base n:Nat)
  (hl:a.eval l=.int .i64 n) (hc:a.eval c=.int .i64 n) (b2:bytes * n<=281474976710656) (b3:n<=maxLen) (b4:base<=w.heap.size)
  (hK:∀ w',w'.ownsRow base e size (.slice (some ⟨w.heap.size,0,none⟩) n n) n (madeCells z.cells (n * size)).toList->w.grownBy w' none->wpList P ops Q rest (a.put o.dst (.slice (some ⟨w.heap.size,0,none⟩) n n)) w') :
  wpList P ops Q (o::rest) a w:=by
 obtain⟨i,hi,hz0,hz1,hz2⟩:=info_parts ti.2
 exact wpList_make_full w hg l c t hop base e i z size ti.1 hi hz0 hz1 .i64 .i64 n n n hl hc rfl rfl (by rw [hz2];exact b2) b3 b4 hK
theorem Zgp {α:Type} {enc:α->Value} {ok:α->Prop} {w:World} {base e g n cap:Nat} {l:List α} (h:w.ownsRow base e 1 (.slice (some ⟨g,0,none⟩) n cap) n (l.map enc)) (hs:∀ i,(hi:i<l.length)->ok l[i]) :
  ∃ fp,(Zaa (sFlat enc ok)).R w [.slice (some ⟨g,0,none⟩) n cap] l fp/\Own w base fp:=by
 have hn:l.length=n:=by have:=h.1;simpa using this
 subst hn
 rcases h.2 with⟨h',_⟩ | ⟨g',cap',cur,h',hb,hg,hnc,hcm,hcs,htake⟩
 ·simp at h'
 simp only [Value.slice.injEq,Qi,Addr.mk.injEq,and_true,true_and] at h'
 obtain⟨rfl,rfl⟩:=h'
 by_cases h0:l.length=0
 ·exact⟨[],⟨_,_,rfl,hnc,hcm,.inl ⟨by simpa using h0,rfl⟩⟩,Own.nil _ _⟩
 ·refine ⟨g::(List.range l.length).flatMap λ _=>[],⟨_,_,rfl,hnc,hcm,.inr ⟨by omega,g,0,λ _=>[],rfl,rfl,(h.lt g rfl).2,λ i hi=>⟨[enc l[i]],⟨rfl,λ j hj=>?_⟩,rfl,hs i hi,rfl⟩⟩⟩,?_⟩
  ·simp [sFlat] at hj
   subst hj
   have:=h.cellAt i (by omega)
   simp only [List.getElem?_map,List.getElem?_eq_getElem hi,Option.map_some] at this
   simpa [sFlat] using this
  ·have e1:(List.range l.length).flatMap (λ _=>([]:List Nat))=[]:=by simp
   rw [e1]
   exact⟨by simp,by simp;exact⟨hb,_,_,hg⟩⟩
def mix (l:List ByteArray) (k:Nat):List Value:=((l.take k).map Value.string)++List.replicate (l.length-k) (.string ⟨#[]⟩)
theorem mix_zero (l:List ByteArray):(madeCells (Value.string ⟨#[]⟩).cells (l.length * 1)).toList=mix l 0:=by
 simp [mix,Value.cells,toList_madeCells_one]
theorem mix_end (l:List ByteArray) {k:Nat} (h:l.length<=k):mix l k=l.map .string:=by
 simp [mix,List.take_of_length_le h,Nat.sub_eq_zero_of_le h]
theorem Zk2 (l:List ByteArray) (k j:Nat) (hk:k<=l.length):(mix l k)[j]?=if h:j<l.length then (if j<k then some (.string l[j]) else some (.string ⟨#[]⟩)) else none:=by
 simp only [mix,List.getElem?_append,List.length_map,List.length_take,List.getElem?_map,List.getElem?_take,List.getElem?_replicate]
 by_cases h1:j<k
 ·rw [if_pos (by omega),if_pos h1,dif_pos (by omega),if_pos h1,List.getElem?_eq_getElem (by omega)];rfl
 ·rw [if_neg (by omega)]
  by_cases h2:j<l.length
  ·rw [if_pos (by omega),dif_pos h2,if_neg h1]
  ·rw [if_neg (by omega),dif_neg h2]
theorem mix_set (l:List ByteArray) (k:Nat) (h:k<l.length):(mix l k).set k (.string l[k])=mix l (k+1):=by
 apply List.ext_getElem?
 intro j
 rw [List.getElem?_set,Zk2 l k j (by omega),Zk2 l (k+1) j (by omega)]
 have hl:(mix l k).length=l.length:=by simp [mix];omega
 by_cases e:k=j
 ·subst e
  rw [if_pos rfl,if_pos (by omega),dif_pos h,if_pos (by omega)]
 ·rw [if_neg e]
  by_cases h2:j<l.length
  ·rw [dif_pos h2,dif_pos h2]
   by_cases h3:j<k
   ·rw [if_pos h3,if_pos (by omega)]
   ·rw [if_neg h3,if_neg (by omega)]
  ·rw [dif_neg h2,dif_neg h2]
theorem mix_at (l:List ByteArray) (k:Nat) (h:k<l.length):(mix l k)[k]?=some (.string ⟨#[]⟩):=by
 simp only [mix,List.getElem?_append,List.length_map,List.length_take,List.getElem?_replicate]
 rw [if_neg (by omega),if_pos (by omega)]
def Made {α:Type} (S:Shape α) (d:α) (w:World) (e:Ending) (w':World):Prop:=
 ∃ v fp,e=.returned v/\S.R w' [v] d fp/\Own w' w.heap.size fp/\Below w.heap.size w w'
theorem ZiO (v:Value) (l:List ByteArray) (fp:List Nat) (w:World) (hW:ZaY l<=1048576) (H:(Zaa sStr).R w [v] l fp) :
  Calls Tryz.prog 76 #[v] w (Made (Zaa sStr) l w):=by
 have hB:l.length<=1048576:=by unfold ZaY at hW;omega
 obtain⟨a,cap,rfl,hc,hm,hcell,hsz⟩:=Zaf H
 have hz:=hsz
 unfold maxLen at hm hz
 go_enter Tryz.func76,Tryz.ntmps76
 go_wp2_with (at_make;refine ZcI ti27 _ rfl _ _ rfl w.heap.size l.length rfl rfl (by omega) (by unfold maxLen;omega) (Nat.le_refl _) ?_;intro w1 hown hgrow)
 rw [mix_zero] at hown
 have hbel:=(Below.refl w.heap.size w).grown hgrow (Nat.le_refl _) (by simp)
 clear hgrow
 go_loopw [4] (λ i wr=>∃ k:Nat,k<=l.length/\i=.int .i64 k/\wr.ownsRow w.heap.size 9 1 (.slice (some ⟨w.heap.size,0,none⟩) l.length l.length) l.length (mix l k)/\Below w.heap.size w wr) (λ i _=>l.length-(intOf i).toNat)
 case atStart=>exact⟨0,by omega,rfl,hown,hbel⟩
 case round =>
  obtain⟨k,hk,rfl,ho,hbl⟩:=hrel
  by_cases hlt:k<l.length
  ·obtain⟨b,off,rfl,hb,_,hc2⟩:=hcell (by omega)
   have hck:=(hbl.cell (p:=⟨b,off+k,none⟩) hb).trans (hc2 k hlt)
   have hdk:=(ho.cellAt k (by omega)).trans (mix_at l k hlt)
   have hfk:=ho.frozenAt k
   have HS:=Qh (ho.stored k (.string l[k]))
   rw [mix_set l k hlt] at HS
   clear hc2 hcell hown
   go_wp2
   go_roundw
   case rel=>exact⟨k+1,by omega,by go_num,HS.out.1,hbl.setCell (p:=⟨w.heap.size,k,none⟩) (Nat.le_refl _) _⟩
   case measure=>simp [intOf];omega
  ·rw [mix_end l (by omega)] at ho
   obtain⟨fp',h1,h2⟩:=Zgp (ok:=okStr) ho hsz
   go_wp2
   go_ret
   exact⟨_,fp',rfl,h1,h2,hbl⟩
theorem Zdg {a b c:World} {r:Option Nat} (h:a.grownBy b r) (k:b.grownBy c r):a.grownBy c r:=
 ⟨k.os.trans h.os,k.tape.trans h.tape,k.output.trans h.output,Nat.le_trans h.size k.size,λ i hi hn=>(k.block i (Nat.lt_of_lt_of_le hi h.size) hn).trans (h.block i hi hn)⟩
theorem Zbz {w:World} {b1 b2 e1 e2 s1 s2 n1 n2:Nat} {v1 v2:Value} {xs1 xs2:List Value} (h1:w.ownsRow b1 e1 s1 v1 n1 xs1) (h2:w.ownsRow b2 e2 s2 v2 n2 xs2) (he:e1≠e2):v1.ownBlock=none\/v1.ownBlock≠v2.ownBlock:=by
 rcases h1.2 with⟨rfl,_⟩ | ⟨g,cap,cur,rfl,_,hg,_⟩
 ·exact .inl rfl
 ·rcases h2.2 with⟨rfl,_⟩ | ⟨g',cap',cur',rfl,_,hg',_⟩
  ·right;simp [Value.ownBlock]
  ·right
   simp only [Value.ownBlock,ne_eq,Qi]
   rintro rfl
   rw [hg] at hg'
   simp at hg'
   exact he hg'.2
theorem Zdt {P:Program} {t e:TypeId} {z:Value} {bytes:Nat} (ti:TI P t e z 1 bytes) (hzs:z.cells.size=1) (w0:World) (x:Value) (hx1:x.oneCell'=true) {ops:Array Oper} {rest:List Oper} {o:Oper} {a:Act} {Q:Exit->Act->World->Prop}
  (hg:o.guard=none) (s y:Operand) (ho:o.op=.call { callee:=.builtin .append,args:=#[s,y],argTypes:=#[t,t] })
  (base:Nat) (v:Value) (n:Nat) (xs:List Value) (hs:a.eval s=v) (hown:w0.ownsRow base e 1 v n xs)
  (hy:a.eval y=.slice (some ⟨w0.heap.size,0,none⟩) 1 1)
  (h63:n+1<=maxLen) (hbytes:(n+1) * bytes<=140737488355328) (hbase:base<=w0.heap.size)
  (h:∀ v' w',w'.ownsRow base e 1 v' (n+1) (xs++[x])->w0.grownBy w' v.ownBlock->wpList P ops Q rest (a.put o.dst v') w'):wpList P ops Q (o::rest) a (w0.alloc (.cells #[x] e)):=by
 obtain⟨i,hi,hz0,hz1,hz2⟩:=info_parts ti.2
 refine wpList_append_own _ hg s y t ho base e i z 1 bytes ti.1 hi hz0 hz1 hz2 hzs (by decide) v n xs hs (hown.alloc _) ⟨w0.heap.size,0,none⟩ 1 1 [x] hy rfl ?_ (by simp [hx1]) h63 hbytes (by simp;omega) λ v' w' a b _=>h v' w' a (Zdg (World.grownBy_alloc _ _ _) b)
 intro j u hj
 have hj':j<1:=by have:=(List.getElem?_eq_some_iff.1 hj).1;simpa using this
 obtain rfl:j=0:=by omega
 simp at hj
 subst hj
 exact World.cell?_alloc_at _ _ _ _ rfl
theorem ZbY {α:Type} {enc:α->Value} {ok:α->Prop} {w:World} {base e n:Nat} {v:Value} {l:List α} (h:w.ownsRow base e 1 v n (l.map enc)) (hs:∀ i,(hi:i<l.length)->ok l[i]) :
  ∃ fp,(Zaa (sFlat enc ok)).R w [v] l fp/\Own w base fp/\∀ b∈fp,v.ownBlock=some b:=by
 have hn:l.length=n:=by have:=h.1;simpa using this
 rcases h.2 with⟨rfl,h0⟩ | ⟨g,cap,cur,rfl,hb,hg,hnc,hcm,hcs,htake⟩
 ·obtain rfl:l=[]:=by simpa using hn.trans h0
  exact⟨[],⟨none,0,rfl,by simp,by simp,.inl ⟨rfl,rfl⟩⟩,Own.nil _ _,by simp⟩
 ·obtain⟨fp,h1,h2⟩:=Zgp (ok:=ok) h hs
  refine ⟨fp,h1,h2,?_⟩
  obtain⟨a,cap',hv,_,_,h3⟩:=h1
  rcases h3 with⟨_,rfl⟩ | ⟨_,b,off,fps,rfl,rfl,_,he⟩
  ·simp
  ·simp only [List.cons.injEq,Value.slice.injEq,Qi,Addr.mk.injEq,and_true] at hv
   obtain⟨⟨rfl,_⟩,_⟩:=hv
   intro x hx
   rcases List.mem_cons.1 hx with rfl | hx
   ·rfl
   ·exfalso
    obtain⟨i,hi,hx⟩:=List.mem_flatMap.1 hx
    obtain⟨es,_,_,_,h4⟩:=he i (by simpa using hi)
    rw [h4] at hx
    simp at hx
theorem ZaC {α:Type} (S:Shape α) (w:World) (a:Option Addr) (cap:Nat) (h:cap<=maxLen):(Zaa S).R w [.slice a 0 cap] [] []:=
 ⟨a,cap,rfl,by simp,h,.inl ⟨rfl,rfl⟩⟩
theorem Own.app {w:World} {lo:Nat} {fp1 fp2:List Nat} (h1:Own w lo fp1) (h2:Own w lo fp2) (hd:∀ b∈fp1,b∉fp2):Own w lo (fp1++fp2):=
 ⟨List.nodup_append.2 ⟨h1.1,h2.1,λ a ha b hb e=>hd a ha (e ▸ hb)⟩,λ b hb=>(Qa hb).elim (h1.2 b) (h2.2 b)⟩
theorem Zk3 {a b:ByteArray} (h:a=b):Ending.returned (.string a)=.returned (.string b):=by rw [h]
def mdig:Nat->Nat->ByteArray->ByteArray
 | 0,_,acc=>acc
 | f+1,k,acc=>if k=0 then acc else mdig f (k / 10) (⟨#[UInt8.ofNat (48+k % 10)]⟩++acc)
def mtext (k:Int):ByteArray:=if k<=0 then ⟨#[109,48]⟩ else ⟨#[109]⟩++mdig k.toNat k.toNat ⟨#[]⟩
theorem Zhk (P:Program) (w:World) (src dst e:TypeId) (x:Int) (hs:P.underlying src=some (.slice e)) (he:P.underlying e=some (.int .u8)) (hd:P.underlying dst=some .string) :
  (convert src dst (.slice (some ⟨w.heap.size,0,none⟩) 1 1)).run P (w.alloc (.cells #[.int .u8 x] e))=.ok (.string ⟨#[UInt8.ofNat x.toNat]⟩) (w.alloc (.cells #[.int .u8 x] e)):=by
 rw [run_convert_bytes_string _ src dst e _ 1 1 hs he hd]
 have hl:=run_loadCells_list (P:=P) (w.alloc (.cells #[.int .u8 x] e)) ⟨w.heap.size,0,none⟩ ([x].map (Value.int .u8)) (λ j v hj=>by
  have hj':j<1:=by have:=(List.getElem?_eq_some_iff.1 hj).1;simpa using this
  obtain rfl:j=0:=by omega
  simp at hj
  subst hj
  exact World.cell?_alloc_at _ _ _ _ rfl)
 rw [run_bytesToString _ ⟨w.heap.size,0,none⟩ 1 1 [x] hl]
 rfl
theorem ZdI (k:Int) (w:World) (h1:k<=4611686018427387904) :
  Calls Tryz.prog 45 #[.int .i64 k] w λ e w'=>e=.returned (.string (mtext k))/\Below w.heap.size w w':=by
 by_cases h0:k<=0
 ·have HF:Hid (mtext k=⟨#[109,48]⟩):=if_pos h0
  go_enter Tryz.func45,Tryz.ntmps45
  go_wp2
  go_ret
  exact⟨Zk3 HF.out.symm,Below.refl _ _⟩
 ·obtain⟨n,rfl⟩:=Int.eq_ofNat_of_zero_le (show 0<=k by omega)
  have HF:Hid (mtext n=⟨#[109]⟩++mdig n n ⟨#[]⟩):=by show mtext n=_;unfold mtext;rw [if_neg h0];simp
  go_enter Tryz.func45,Tryz.ntmps45
  go_wp2
  go_loopw [0,3] (λ t s wr=>∃ (k:Nat) (acc:ByteArray) (f:Nat),k<=f/\acc.size+k<=n/\t=.int .i64 k/\s=.string acc/\Hid (mdig f k acc=mdig n n ⟨#[]⟩)/\Below w.heap.size w wr) (λ t _ _=>(intOf t).toNat)
  case atStart=>exact⟨n,_,n,Nat.le_refl _,by simp [ByteArray.size],rfl,rfl,rfl,Below.refl _ _⟩
  case round =>
   obtain⟨k,acc,f,hf,hkn,rfl,rfl,HD,hb⟩:=hrel
   by_cases hk:0<k
   ·have hcv:=λ (x:Int)=>Zhk Tryz.prog wr 22 9 5 x Tryz.underlying22 Tryz.underlying5 Tryz.underlying9
    obtain⟨f,rfl⟩:∃ g,f=g+1:=⟨f-1,by omega⟩
    have HE:Hid (mdig f (k / 10) (⟨#[UInt8.ofNat (48+k % 10)]⟩++acc)=mdig n n ⟨#[]⟩):=by
     show _=_
     rw [← HD.out]
     show _=(if k=0 then acc else _)
     rw [if_neg (by omega)]
    have HS:Hid ((⟨#[UInt8.ofNat (48+k % 10)]⟩++acc:ByteArray).size=1+acc.size):=by show _=_;rw [ByteArray.size_append];rfl
    go_wp2
    go_roundw
    case rel =>
     refine ⟨k / 10,⟨#[UInt8.ofNat (48+k % 10)]⟩++acc,f,by omega,by rw [HS.out];omega,by go_num,?_,HE,hb.alloc hb.size _⟩
     rw [show (48:UInt8)+UInt8.ofNat (k % 10)=UInt8.ofNat (48+k % 10) from by rw [UInt8.ofNat_add];rfl]
    case measure=>simp [intOf];omega
   ·have HE:Hid (mdig n n ⟨#[]⟩=acc):=by
     show _=_
     rw [← HD.out]
     cases f with
     | zero=>rfl
     | succ f=>show (if k=0 then acc else _)=_;rw [if_pos (by omega)]
    go_wp2
    go_ret
    exact⟨Zk3 (by rw [HF.out,HE.out]),hb⟩
theorem ZiP:∀ (f k:Nat) (acc:ByteArray),(mdig f k acc).size<=acc.size+k
 | 0,k,acc=>by simp [mdig]
 |
  f+1,k,acc=>by
  unfold mdig
  by_cases h:k=0
  ·rw [if_pos h];omega
  ·rw [if_neg h]
   have:=ZiP f (k / 10) (⟨#[UInt8.ofNat (48+k % 10)]⟩++acc)
   rw [ByteArray.size_append] at this
   have e:(⟨#[UInt8.ofNat (48+k % 10)]⟩:ByteArray).size=1:=rfl
   omega
theorem ZeN {k:Int} (h:k<=4611686018427387904):okStr (mtext k):=by
 unfold okStr mtext maxLen
 by_cases h0:k<=0
 ·rw [if_pos h0];decide
 ·rw [if_neg h0,ByteArray.size_append]
  have:=ZiP k.toNat k.toNat ⟨#[]⟩
  have e:(⟨#[109]⟩:ByteArray).size=1:=rfl
  have e2:(⟨#[]⟩:ByteArray).size=0:=rfl
  omega
def marks {α:Type} (f:Int->α) (k:Int) (n:Nat):List α:=(List.range n).map λ (i:Nat)=>f (k+(i:Int))
def MarkUpto {α:Type} (f:Int->α) (k:Int) (L:List α) (i:Nat):Prop:=∀ j,(h:j<L.length)->j<i->L[j]=f (k+j)
theorem MarkUpto.zero {α:Type} (f:Int->α) (k:Int) (L:List α):MarkUpto f k L 0:=by intro j h hj;omega
theorem MarkUpto.succ {α:Type} {f:Int->α} {k:Int} {L:List α} {i:Nat} (h:MarkUpto f k L i):MarkUpto f k (L.set i (f (k+i))) (i+1):=by
 intro j hj hji
 by_cases e:j=i
 ·subst e;rw [List.getElem_set_self]
 ·rw [List.getElem_set_ne (λ h=>e h.symm)];exact h j (by simpa using hj) (by omega)
theorem MarkUpto.eq {α:Type} {f:Int->α} {k:Int} {L:List α} {i:Nat} (h:MarkUpto f k L i) (hi:L.length<=i):L=marks f k L.length:=by
 refine List.ext_getElem (by simp [marks]) λ j h1 h2=>?_
 rw [h j h1 (by omega)];simp [marks]
theorem Zl5 {α:Type} (f:Int->α) (k:Int) (n i:Nat) (h:i<(marks f k n).length):(marks f k n)[i]=f (k+i):=by simp [marks]
theorem Zft {α:Type} (f:Int->α) (k:Int) (n:Nat):(marks f k n).length=n:=by simp [marks]
def Zjw {α:Type} (S:Shape α) (v:Value) (d:α) (fp:List Nat) (lo:Nat) (r:Int) (w:World) (e:Ending) (w':World):Prop:=
 e=.returned (.int .i64 r)/\S.R w' [v] d fp/\Own w' lo fp/\Kept fp w w'
theorem Zgq (v:Value) (l:List ByteArray) (fp:List Nat) (lo:Nat) (k:Int) (w:World) (h0:0<=k) (h1:k+l.length<=2305843009213693952) (H:(Zaa sStr).R w [v] l fp) (O:Own w lo fp) :
  Calls Tryz.prog 46 #[v,.int .i64 k] w (Zjw (Zaa sStr) v (marks mtext k l.length) fp lo (k+l.length) w):=by
 obtain⟨a,cap,rfl,hc,hm,hcell,hsz⟩:=Zaf H
 unfold maxLen at hm
 have hadr:0<l.length->∃ b off,a=some ⟨b,off,none⟩/\b∈fp:=λ h=>by obtain⟨b,off,h1,_,h2,_⟩:=hcell h;exact⟨b,off,h1,h2⟩
 clear hcell hsz
 go_enter Tryz.func46,Tryz.ntmps46
 go_wp2
 go_loopw [1,5] (λ t i wr=>∃ (j:Nat) (L:List ByteArray),j<=l.length/\L.length=l.length/\i=.int .i64 j/\t=.int .i64 (k+j)/\MarkUpto mtext k L j/\(Zaa sStr).R wr [.slice a l.length cap] L fp/\Own wr lo fp/\Kept fp w wr) (λ _ i _=>l.length-(intOf i).toNat)
 case atStart=>exact⟨0,l,by omega,rfl,rfl,by simp,MarkUpto.zero _ _ _,H,O,Kept.refl _ _⟩
 case round =>
  obtain⟨j,L,hj,hL,rfl,rfl,hM,HR,HO,HK⟩:=hrel
  have HLn:=Qh hL;clear hL
  by_cases hlt:j<l.length
  ·obtain⟨b,off,rfl,hbf⟩:=hadr (by omega)
   go_wp2_with fail
   refine (ZdI _ _ (by omega)).mono ?_
   rintro e w2 ⟨rfl,hb2⟩
   have HR2:=(Zaa sStr).below HR hb2
   have HO2:=HO.grow hb2
   have HK2:=HK.trans (Kept.of_below (fp:=fp) hb2)
   have HR3:=flat_set (i:=j) HR2 (by have:=HLn.out;omega) (d:=mtext (k+j)) (ZeN (by omega))
   have hM3:=hM.succ
   obtain⟨_,_,hv,_,_,hc2,_⟩:=Zaf HR2
   have hck:(w2.cell? ⟨b,off+j,none⟩).isSome=true:=by
    have hl:=HLn.out
    obtain⟨b',off',hab,_,_,hc3⟩:=hc2 (by omega)
    simp only [Value.slice.injEq] at hv
    rw [← hv.1] at hab
    simp only [Qi,Addr.mk.injEq,and_true] at hab
    obtain⟨rfl,rfl⟩:=hab
    rw [hc3 j (by omega)];rfl
   clear hc2 hv
   have hfk:=HO2.frozen hbf (off+j)
   have HS:Hid ((L.set j (mtext (k+j))).length=l.length):=by show _=_;rw [List.length_set];exact HLn.out
   obtain⟨u,hck⟩:=Option.isSome_iff_exists.1 hck
   go_wp2
   go_roundw
   case rel=>exact⟨j+1,L.set j (mtext (k+j)),by omega,HS.out,by go_num,by go_num,hM3,HR3,HO2.setCell _ _,HK2.setCell (p:=⟨b,off+j,none⟩) hbf _⟩
   case measure=>simp [intOf];omega
  ·obtain rfl:j=l.length:=by omega
   have HE:=Qh (hM.eq (by rw [HLn.out];exact Nat.le_refl _))
   go_wp2
   go_ret
   refine ⟨rfl,?_,HO,HK⟩
   have e:=HE.out
   rw [HLn.out] at e
   rw [← e]
   exact HR
theorem ZkE (v:Value) (fp:List Nat) (n:Nat) (k:Int) (w:World) (h0:0<=k) (h1:k+n<=2305843009213693952) (H:(Zaa sStr).R w [v] (marks mtext k n) fp) :
  Calls Tryz.prog 47 #[v,.int .i64 k] w λ e w'=>e=.returned (.int .i64 (k+n))/\Below w.heap.size w w':=by
 obtain⟨a,cap,rfl,hc,hm,hcell,hsz⟩:=Zaf H
 clear H
 have hadr:∀ j,j<n->∃ b off,a=some ⟨b,off,none⟩/\b<w.heap.size/\w.cell? ⟨b,off+j,none⟩=some (.string (mtext (k+j))):=λ j h=>by
  obtain⟨b,off,h1,h2,_,h3⟩:=hcell (by rw [Zft];omega)
  exact⟨b,off,h1,h2,by rw [h3 j (by rw [Zft];exact h),Zl5]⟩
 clear hcell hsz
 rw [Zft] at hc ⊢
 unfold maxLen at hm
 go_enter Tryz.func47,Tryz.ntmps47
 go_wp2
 go_loopw [1,5] (λ t i wr=>∃ (j:Nat),j<=n/\i=.int .i64 j/\t=.int .i64 (k+j)/\Below w.heap.size w wr) (λ _ i _=>n-(intOf i).toNat)
 case atStart=>exact⟨0,by omega,rfl,by simp,Below.refl _ _⟩
 case round =>
  obtain⟨j,hj,rfl,rfl,hb⟩:=hrel
  by_cases hlt:j<n
  ·obtain⟨b,off,rfl,hbw,hcj⟩:=hadr j hlt
   have hcw:=(hb.cell (p:=⟨b,off+j,none⟩) hbw).trans hcj
   have hbr:b<wr.heap.size:=Nat.lt_of_lt_of_le hbw hb.size
   have hne:=ZaP (rfl:mtext (k+j)=mtext (k+j))
   clear hadr hcj
   go_wp2_with fail
   go_region_held3 (λ w'=>w'.cell? ⟨b,off+j,none⟩=some (.string (mtext (k+j))))
    (first | go_keep | ((rw [hb2.cell (p:=⟨b,off+j,none⟩) (by simp;omega)];assumption)))
    (first | (go_at_call 45;refine (ZdI _ _ (by omega)).mono ?_;rintro e w2 ⟨rfl,hb2⟩))
   go_wp2
   go_roundw
   case rel=>exact⟨j+1,by omega,by go_num,by go_num,hb.drew.trans (hb2.mono hb.size)⟩
   case measure=>simp [intOf];omega
  ·obtain rfl:j=n:=by omega
   go_wp2
   go_ret
   exact⟨rfl,hb⟩
structure Seen {α:Type} (S:Shape α) (w:World) (cs:List Value) (d:α) (fp:List Nat) (hi:Nat):Prop where
 r:S.R w cs d fp
 hi:Under hi fp
structure Live {α:Type} (S:Shape α) (w:World) (cs:List Value) (d:α) (fp:List Nat) (lo hi:Nat):Prop where
 r:S.R w cs d fp
 o:Own w lo fp
 hi:Under hi fp
section
variable {α:Type} {S:Shape α} {w w':World} {cs:List Value} {d:α} {fp fp':List Nat} {lo hi lo':Nat}
theorem Seen.of (h:S.R w cs d fp):Seen S w cs d fp w.heap.size:=⟨h,S.lt h⟩
theorem Seen.below (h:Seen S w cs d fp hi) (hb:Below w.heap.size w w'):Seen S w' cs d fp hi:=⟨S.below h.r hb,h.hi⟩
theorem Live.of (h:S.R w cs d fp) (o:Own w lo fp):Live S w cs d fp lo w.heap.size:=⟨h,o,o.lt⟩
theorem Live.below (h:Live S w cs d fp lo hi) (hb:Below w.heap.size w w'):Live S w' cs d fp lo hi:=⟨S.below h.r hb,h.o.grow hb,h.hi⟩
theorem Seen.kept (h:Seen S w cs d fp hi) (hk:Kept fp' w w') (ho:Own w lo' fp') (hle:hi<=lo'):Seen S w' cs d fp hi:=
 ⟨S.kept h.r (λ b hb hx=>by have h1:=h.hi b hb;have h2:=(ho.2 b hx).1;omega) hk,h.hi⟩
theorem Live.kept (h:Live S w cs d fp lo hi) (hk:Kept fp' w w') (ho:Own w lo' fp') (hle:hi<=lo'):Live S w' cs d fp lo hi:=
 have hd:∀ b∈fp,b∉fp':=λ b hb hx=>by have h1:=h.hi b hb;have h2:=(ho.2 b hx).1;omega
 ⟨S.kept h.r hd hk,h.o.kept hd hk,h.hi⟩
theorem Live.kept' (h:Live S w cs d fp lo hi) (hk:Kept fp' w w') (hu:Under lo fp'):Live S w' cs d fp lo hi:=
 have hd:∀ b∈fp,b∉fp':=λ b hb hx=>by have h1:=(h.o.2 b hb).1;have h2:=hu b hx;omega
 ⟨S.kept h.r hd hk,h.o.kept hd hk,h.hi⟩
theorem Kept.below' (hk:Kept fp' w w') (ho:Own w lo' fp') {B:Nat} (hB:B<=lo') (hs:B<=w.heap.size):Below B w w':=
 hk.below (λ b hb=>Nat.le_trans hB (ho.2 b hb).1) hs
end
def Apart (fp fp':List Nat):Prop:=∀ b∈fp,b∉fp'
theorem Apart.symm {fp fp':List Nat} (h:Apart fp fp'):Apart fp' fp:=λ b h1 h2=>h b h2 h1
theorem Own.split {w:World} {lo:Nat} {fp1 fp2:List Nat} (h:Own w lo (fp1++fp2)):Own w lo fp1/\Own w lo fp2/\Apart fp1 fp2:=by
 obtain⟨h1,h2⟩:=h
 obtain⟨a,b,c⟩:=List.nodup_append.1 h1
 exact⟨⟨a,λ x hx=>h2 x (by simp [hx])⟩,⟨b,λ x hx=>h2 x (by simp [hx])⟩,λ x hx hy=>c x hx x hy rfl⟩
theorem Apart.split {fp fp1 fp2:List Nat} (h:Apart fp (fp1++fp2)):Apart fp fp1/\Apart fp fp2:=
 ⟨λ b hb hx=>h b hb (by simp [hx]),λ b hb hx=>h b hb (by simp [hx])⟩
theorem Zew (v1 v2:Value) (l:List ByteArray) (fp1 fp2:List Nat) (w:World) (H1:(Zaa sStr).R w [v1] l fp1) (H2:(Zaa sStr).R w [v2] l fp2) :
  Calls Tryz.prog 82 #[v1,v2] w λ e w'=>e=.returned (.bool true)/\Below w.heap.size w w':=
 (Zl4 v1 v2 l l fp1 fp2 w H1 H2).mono λ e w' ⟨h1,n,h2⟩=>⟨by rw [h1];simp,by rw [h2];exact Zag (Below.refl _ _) n⟩
end Go.Proofs.YtiaiggjfepoahaaGreat
