/- Texts that the proof of E stands on, in one file. -/
import Derived.Test.YtiaiggjfepoahaaGreatZE9
set_option linter.unusedVariables false
set_option maxHeartbeats 16000000
set_option maxRecDepth 100000
set_option linter.unusedSimpArgs false
/- SameMacro of both. -/
namespace Go.Proofs.YtiaiggjfepoahaaGreat
open Go.RowKit
/-! ### Lists that agree at every place -/
section
variable {α β:Type} {f:α->β} {a b:List α} {k:Nat}
end
/-! ### slices.Equal at texts -/
def argN (p:Nat) (A:List (List Tok)):Nat:=if h:A.length=1 then (if p=0/\(A[0]'(by omega)).length=0 then 0 else 1) else A.length
def fits (m:DMacro) (A:List (List Tok)):Bool:=macOk m && (m.function && decide (argN m.params.length A=m.params.length))
theorem fits_no {m:DMacro} {A:List (List Tok)} (h:macOk m=false):fits m A=false:=by unfold fits;rw [h];rfl
theorem fits_nf {m:DMacro} {A:List (List Tok)} (h:m.function=false):fits m A=false:=by unfold fits;rw [h,Bool.false_and,Bool.and_false]
theorem Zlc {m:DMacro} {A:List (List Tok)} (h:macOk m=true) (h2:m.function=true):fits m A=decide (argN m.params.length A=m.params.length):=by unfold fits;rw [h,h2];rfl
theorem ZdX {p:Nat} {A:List (List Tok)} (h:A.length=1):argN p A=if p=0/\(A[0]'(by omega)).length=0 then 0 else 1:=by unfold argN;rw [dif_pos h]
theorem ZcS {p:Nat} {A:List (List Tok)} (h:A.length≠1):argN p A=A.length:=by unfold argN;rw [dif_neg h]
theorem Zj0 (cs:List Value) (m:DMacro) (fpm:List Nat) (v:Value) (A:List (List Tok)) (fpa:List Nat) (w:World) (Hm:sMacro.R w cs m fpm) (Ha:(Zaa sToks).R w [v] A fpa) :
  Calls Tryz.prog 99 #[.agg cs.toArray,v] w λ e w'=>e=.returned (.int .i64 (argN m.params.length A:Nat))/\Below w.heap.size w w':=by
 obtain⟨h2,h3,p2,p3,rfl,hok,K2,K3,rfl⟩:=Hm
 obtain⟨a2,c2,rfl,-⟩:=Zaf K2
 obtain⟨a3,c3,rfl,-⟩:=Zac K3
 obtain⟨a,cap,rfl,hc,hm,hrow⟩:=Zac Ha
 unfold maxLen at hm
 have b0:=Zab w (.cells #[.string m.name,.bool m.function,.slice a2 m.params.length c2,.slice a3 m.body.length c3] 70)
 clear K2 K3 Ha
 go_enter Tryz.func99,Tryz.ntmps99
 by_cases hp:m.params.length=0
 ·have e0:((m.params.length:Int)==0)=true:=by simp [hp]
  by_cases h1:A.length=1
  ·have e1:((A.length:Int)==1)=true:=by simp [h1]
   obtain⟨b,off,fps,rfl,hb,-,he⟩:=hrow (by omega)
   have hA0:0<A.length:=by omega
   obtain⟨es,hE,hR⟩:=he 0 hA0
   obtain⟨q,d,rfl⟩:=Zer hR
   replace hE:=hE.frame (b0.block b hb)
   have c0:=ZjZ hE
   have c0':(w.alloc (.cells #[.string m.name,.bool m.function,.slice a2 m.params.length c2,.slice a3 m.body.length c3] 70)).cell? ⟨b,off,none⟩=some (.slice q (A[0]'hA0).length d):=c0
   have hl:(0:Int)<(A.length:Int):=by omega
   have HN:=Qh (ZdX (p:=m.params.length) h1)
   by_cases hz:(A[0]'hA0).length=0
   ·have e2:(((A[0]'hA0).length:Int)==0)=true:=by simp [hz]
    rw [if_pos ⟨hp,hz⟩] at HN
    clear hz hp h1 hE hR he hrow
    go_wp2
    go_ret
    exact⟨by rw [HN.out];rfl,b0⟩
   ·have e2:(((A[0]'hA0).length:Int)==0)=false:=by simp;intro h;exact hz (by rw [h];rfl)
    rw [if_neg (λ h=>hz h.2)] at HN
    have HA:Hid ((A.length:Int)=((1:Nat):Int)):=by show _=_;omega
    clear hz hp h1 hE hR he hrow
    go_wp2
    go_ret
    exact⟨by rw [HN.out,HA.out];rfl,b0⟩
  ·have e1:((A.length:Int)==1)=false:=by simp;omega
   have HN:=Qh (ZcS (p:=m.params.length) h1)
   clear hp h1 hrow
   go_wp2
   go_ret
   exact⟨by rw [HN.out];rfl,b0⟩
 ·have e0:((m.params.length:Int)==0)=false:=by simp;intro h;exact hp (by rw [h];rfl)
  have HN:Hid (argN m.params.length A=A.length):=by
   show _=_
   by_cases h1:A.length=1
   ·rw [ZdX h1,if_neg (λ h=>hp h.1),h1]
   ·exact ZcS h1
  clear hp hrow
  go_wp2
  go_ret
  exact⟨by rw [HN.out];rfl,b0⟩
theorem Zgl (cs:List Value) (m:DMacro) (fpm:List Nat) (v:Value) (A:List (List Tok)) (fpa:List Nat) (w:World) (Hm:sMacro.R w cs m fpm) (Ha:(Zaa sToks).R w [v] A fpa) :
  Calls Tryz.prog 126 #[.agg cs.toArray,v] w (Says (fits m A) w):=by
 have HC:=Qh (λ W (hW:Below w.heap.size w W)=>ZcP cs m fpm W (sMacro.below Hm hW))
 obtain⟨h2,h3,p2,p3,rfl,hok,K2,K3,rfl⟩:=Hm
 obtain⟨a2,c2,rfl,-⟩:=Zaf K2
 obtain⟨a3,c3,rfl,-⟩:=Zac K3
 obtain⟨a,cap,rfl,hc,hm,hrow⟩:=Zac Ha
 unfold maxLen at hm
 have b0:=Zab w (.cells #[.string m.name,.bool m.function,.slice a2 m.params.length c2,.slice a3 m.body.length c3] 70)
 have HX:=Qh (heap_alloc_new w (.cells #[.string m.name,.bool m.function,.slice a2 m.params.length c2,.slice a3 m.body.length c3] 70))
 clear K2 K3 Ha
 go_enter Tryz.func126,Tryz.ntmps126
 cases hv:macOk m
 ·rw [hv] at HC
  have HF:=Qh (fits_no (A:=A) hv)
  clear hv hrow
  go_wp2_with fail
  refine (HC.out _ b0).mono ?_
  rintro e w2 ⟨rfl,hb2⟩
  go_wp2
  go_ret
  exact⟨Zad HF.out.symm,b0.trans (hb2.mono b0.size)⟩
 rw [hv] at HC
 go_wp2_with fail
 refine (HC.out _ b0).mono ?_
 rintro e w2 ⟨rfl,hb2⟩
 have HX2:=Qh ((hb2.block _ (Qg HX.out).1).trans HX.out)
 have c1:=Qc 1 HX2.out
 have c2':=Qc 2 HX2.out
 have hbx:=b0.trans (hb2.mono b0.size)
 clear HC HX hb2 b0
 cases hf:m.function
 ·rw [hf] at c1
  have HF:=Qh (fits_nf (A:=A) hf)
  clear hv hf hrow
  go_wp2
  go_ret
  exact⟨Zad HF.out.symm,hbx⟩
 rw [hf] at c1
 have HF:=Qh (Zlc (A:=A) hv hf)
 clear hv hf
 by_cases hp:m.params.length=0
 ·have e0:((m.params.length:Int)==0)=true:=by simp [hp]
  by_cases h1:A.length=1
  ·have e1:((A.length:Int)==1)=true:=by simp [h1]
   obtain⟨b,off,fps,rfl,hb,-,he⟩:=hrow (by omega)
   have hA0:0<A.length:=by omega
   obtain⟨es,hE,hR⟩:=he 0 hA0
   obtain⟨q,d,rfl⟩:=Zer hR
   replace hE:=hE.frame (hbx.block b hb)
   have c0:=ZjZ hE
   have c0':w2.cell? ⟨b,off,none⟩=some (.slice q (A[0]'hA0).length d):=c0
   have hl:(0:Int)<(A.length:Int):=by omega
   have HG:Hid (fits m A=(((A[0]'hA0).length:Int)==0)):=by
    show _=_
    rw [HF.out,ZdX h1,hp]
    by_cases hz:(A[0]'hA0).length=0
    ·rw [if_pos ⟨rfl,hz⟩,hz];rfl
    ·rw [if_neg (λ h=>hz h.2)]
     have:(((A[0]'hA0).length:Int)==0)=false:=by simp;intro h;exact hz (by rw [h];rfl)
     rw [this];rfl
   clear hp h1 hE hR he hrow HF
   generalize hg:(((A[0]'hA0).length:Int)==0)=g at *
   go_wp2
   go_ret
   exact⟨Zad HG.out.symm,hbx⟩
  ·have e1:((A.length:Int)==1)=false:=by simp;omega
   have HG:Hid (fits m A=((A.length:Int)==(m.params.length:Int))):=by
    show _=_
    rw [HF.out,ZcS h1]
    by_cases hz:A.length=m.params.length
    ·rw [decide_eq_true hz,hz];simp
    ·rw [decide_eq_false hz];symm;simp;omega
   clear hp h1 hrow HF
   generalize hg:((A.length:Int)==(m.params.length:Int))=g at *
   go_wp2
   go_ret
   exact⟨Zad HG.out.symm,hbx⟩
 ·have e0:((m.params.length:Int)==0)=false:=by simp;intro h;exact hp (by rw [h];rfl)
  have HG:Hid (fits m A=((A.length:Int)==(m.params.length:Int))):=by
   show _=_
   have hN:argN m.params.length A=A.length:=by
    by_cases h1:A.length=1
    ·rw [ZdX h1,if_neg (λ h=>hp h.1),h1]
    ·exact ZcS h1
   rw [HF.out,hN]
   by_cases hz:A.length=m.params.length
   ·rw [decide_eq_true hz,hz];simp
   ·rw [decide_eq_false hz];symm;simp;omega
  clear hp hrow HF
  generalize hg:((A.length:Int)==(m.params.length:Int))=g at *
  go_wp2
  go_ret
  exact⟨Zad HG.out.symm,hbx⟩
def bs (s:ByteArray):List UInt8:=s.data.toList
theorem Zdq (s:ByteArray):(bs s).length=s.size:=rfl
theorem ZbU (a b:ByteArray):bs (a++b)=bs a++bs b:=by simp [bs]
theorem bs_ext {a b:ByteArray} (h:bs a=bs b):a=b:=ByteArray.ext (Array.ext' h)
theorem Zj1 {s:ByteArray} {k:Nat} (h:k<s.size):(bs s)[k]'(by rw [Zdq];exact h)=s[k]:=by simp [bs,ByteArray.getElem_eq_getElem_data]
theorem bs_at {s:ByteArray} {k:Nat} {c:UInt8} {r:List UInt8} (h:(bs s).drop k=c::r):∃ hk:k<s.size,s[k]=c/\(bs s).drop (k+1)=r:=by
 have hk:k<s.size:=by
  apply Nat.lt_of_not_le;intro hn
  rw [List.drop_eq_nil_of_le (by rw [Zdq];exact hn)] at h
  exact absurd h (by simp)
 rw [List.drop_eq_getElem_cons (by rw [Zdq];exact hk),List.cons.injEq,Zj1 hk] at h
 exact⟨hk,h⟩
theorem ZdY {s:ByteArray} {k:Nat} (h:k<s.size):s.extract k (k+1)=⟨#[s[k]]⟩:=by
 have hz:(s.extract k (k+1)).size=1:=by rw [ByteArray.size_extract];omega
 refine Zk7 (by rw [hz];rfl) λ j hj=>?_
 obtain rfl:j=0:=by omega
 rw [Zga (by omega) (by omega),Nat.add_zero,Za2 h];rfl
inductive Esc:List UInt8->List UInt8->Prop
 | nil:Esc [] []
 | back (c:UInt8) {a b:List UInt8}:Esc a b->Esc (92::c::a) (c::b)
 | byte {c:UInt8} {a b:List UInt8}:c.toNat≠34->c.toNat≠92->Esc a b->Esc (c::a) (c::b)
theorem Esc.app {a b c d:List UInt8} (h:Esc a b) (h2:Esc c d):Esc (a++c) (b++d):=by
 induction h with
 | nil=>exact h2
 | back c _ ih=>exact .back c ih
 | byte h1 h3 _ ih=>exact .byte h1 h3 ih
theorem Esc.plain {a:List UInt8} (h:∀ c∈a,c.toNat≠34/\c.toNat≠92):Esc a a:=by
 induction a with
 | nil=>exact .nil
 | cons c a ih=>exact .byte (h c (by simp)).1 (h c (by simp)).2 (ih λ d hd=>h d (by simp [hd]))
def outTo (s:ByteArray) (k:Nat):ByteArray:=
 if h:k+1<s.size then (if s[k].toNat=92 then s.extract (k+1) (k+2)++outTo s (k+2) else s.extract k (k+1)++outTo s (k+1)) else ⟨#[]⟩
termination_by s.size-k
theorem ZlN {s:ByteArray} {k:Nat} (h:k+1<s.size) (hc:s[k].toNat=92):outTo s k=s.extract (k+1) (k+2)++outTo s (k+2):=by rw [outTo,dif_pos h,if_pos hc]
theorem ZhK {s:ByteArray} {k:Nat} (h:k+1<s.size) (hc:¬ s[k].toNat=92):outTo s k=s.extract k (k+1)++outTo s (k+1):=by rw [outTo,dif_pos h,if_neg hc]
theorem Zi0 {s:ByteArray} {k:Nat} (h:s.size<=k+1):outTo s k=⟨#[]⟩:=by rw [outTo,dif_neg (by omega)]
theorem esc_scan {a b:List UInt8} (h:Esc a b):∀ {s:ByteArray} {k:Nat},(bs s).drop k=a++[34]->tClose s k=some s.size/\bs (outTo s k)=b:=by
 induction h with
 |
  nil =>
  intro s k hd
  obtain⟨hk,hc,hr⟩:=bs_at hd
  have hz:s.size<=k+1:=by rw [List.drop_eq_nil_iff,Zdq] at hr;exact hr
  refine ⟨?_,by rw [Zi0 hz];rfl⟩
  rw [Za8 hk (by rw [hc];rfl)];congr 1;omega
 |
  @back c a b _ ih =>
  intro s k hd
  obtain⟨hk,hc,hr⟩:=bs_at hd
  obtain⟨hk1,hc1,hr1⟩:=bs_at hr
  obtain⟨i1,i2⟩:=ih hr1
  refine ⟨?_,?_⟩
  ·rw [Zbp hk (by rw [hc];rfl)];exact i1
  ·rw [ZlN hk1 (by rw [hc];rfl),ZbU,i2,ZdY hk1,hc1];rfl
 |
  @byte c a b h1 h2 _ ih =>
  intro s k hd
  obtain⟨hk,hc,hr⟩:=bs_at hd
  obtain⟨i1,i2⟩:=ih hr
  have hk1:k+1<s.size:=by
   have:=congrArg List.length hr
   rw [List.length_drop,Zdq] at this
   simp at this;omega
  refine ⟨?_,?_⟩
  ·rw [Zbf hk (by rw [hc];exact h1) (by rw [hc];exact h2)];exact i1
  ·rw [ZhK hk1 (by rw [hc];exact h2),ZbU,i2,ZdY hk,hc];rfl
def isQ (c:UInt8):Bool:=decide (c.toNat=34) || decide (c.toNat=92)
def escTo (s:ByteArray):Nat->ByteArray
 | 0=>⟨#[]⟩
 | k+1=>if h:k<s.size then (if isQ s[k]=true then escTo s k++⟨#[92]⟩ else escTo s k)++s.extract k (k+1) else escTo s k
theorem Zc6 {s:ByteArray} {k:Nat} (h:k<s.size) (hc:isQ s[k]=true):escTo s (k+1)=escTo s k++⟨#[92]⟩++s.extract k (k+1):=by rw [escTo,dif_pos h,if_pos hc]
theorem ZeG {s:ByteArray} {k:Nat} (h:k<s.size) (hc:isQ s[k]=false):escTo s (k+1)=escTo s k++s.extract k (k+1):=by rw [escTo,dif_pos h,if_neg (by simp [hc])]
theorem Zi1 (s:ByteArray):∀ k,k<=s.size->Esc (bs (escTo s k)) ((bs s).take k)
 | 0,_=>by rw [List.take_zero];exact .nil
 |
  k+1,hk=>by
  have ih:=Zi1 s k (by omega)
  have hk':k<s.size:=by omega
  rw [List.take_succ_eq_append_getElem (by rw [Zdq];exact hk'),Zj1 hk']
  cases hc:isQ s[k]
  ·rw [ZeG hk' hc,ZbU,ZdY hk']
   unfold isQ at hc
   simp only [Bool.or_eq_false_iff,decide_eq_false_iff_not] at hc
   exact ih.app (.byte hc.1 hc.2 .nil)
  ·rw [Zc6 hk' hc,ZbU,ZbU,ZdY hk',List.append_assoc]
   exact ih.app (.back _ .nil)
theorem ZcT (s:ByteArray):∀ k,(escTo s k).size<=2 * k
 | 0=>by show (0:Nat)<=_;omega
 |
  k+1=>by
  have ih:=ZcT s k
  by_cases hk:k<s.size
  ·have h1:(⟨#[92]⟩:ByteArray).size=1:=rfl
   cases hc:isQ s[k]
   ·rw [ZeG hk hc,ByteArray.size_append,ByteArray.size_extract];omega
   ·rw [Zc6 hk hc,ByteArray.size_append,ByteArray.size_append,ByteArray.size_extract];omega
  ·rw [escTo,dif_neg hk];omega
theorem ZfO {c:UInt8} (h:Zdl c=true):AllOk ⟨#[c]⟩:=λ j d hd=>by
 obtain⟨hj,rfl⟩:=ZbP hd
 obtain rfl:j=0:=by have:j<1:=hj;omega
 exact h
theorem Zj2 {s:ByteArray} (h:AllOk s):∀ k,k<=s.size->AllOk (escTo s k)
 | 0,_=>λ j c hc=>by obtain⟨hj,_⟩:=ZbP hc;exact absurd hj (by show ¬ j<0;omega)
 |
  k+1,hk=>by
  have ih:=Zj2 h k (by omega)
  have hk':k<s.size:=by omega
  have hx:AllOk (s.extract k (k+1)):=by rw [ZdY hk'];exact ZfO (h k _ (Za2 hk'))
  cases hc:isQ s[k]
  ·rw [ZeG hk' hc];exact ih.app hx
  ·rw [Zc6 hk' hc];exact(ih.app (ZfO (by decide))).app hx
def bit (t:Tok):ByteArray:=if t.kind=3 then escTo t.text t.text.size else t.text
def Zax (l:List Tok):Nat->ByteArray
 | 0=>⟨#[]⟩
 | k+1=>if h:k<l.length then (if 0<k/\l[k].spaced=true then Zax l k++⟨#[32]⟩ else Zax l k)++bit l[k] else Zax l k
def rawTo (l:List Tok):Nat->ByteArray
 | 0=>⟨#[]⟩
 | k+1=>if h:k<l.length then (if 0<k/\l[k].spaced=true then rawTo l k++⟨#[32]⟩ else rawTo l k)++l[k].text else rawTo l k
theorem ZcD {l:List Tok} {k:Nat} (hk:k<l.length) (h0:0<k) (h:l[k].spaced=true):Zax l (k+1)=Zax l k++⟨#[32]⟩++bit l[k]:=by rw [Zax,dif_pos hk,if_pos ⟨h0,h⟩]
theorem ZbW {l:List Tok} {k:Nat} (hk:k<l.length) (h:¬ (0<k/\l[k].spaced=true)):Zax l (k+1)=Zax l k++bit l[k]:=by rw [Zax,dif_pos hk,if_neg h]
theorem rawTo_sp {l:List Tok} {k:Nat} (hk:k<l.length) (h0:0<k) (h:l[k].spaced=true):rawTo l (k+1)=rawTo l k++⟨#[32]⟩++l[k].text:=by rw [rawTo,dif_pos hk,if_pos ⟨h0,h⟩]
theorem rawTo_no {l:List Tok} {k:Nat} (hk:k<l.length) (h:¬ (0<k/\l[k].spaced=true)):rawTo l (k+1)=rawTo l k++l[k].text:=by rw [rawTo,dif_pos hk,if_neg h]
theorem ZlO {s:ByteArray} (d:Nat):∀ k,wEnd s k=k+d->∀ j,(h:j<s.size)->k<=j->j<k+d->Zan s[j]=true:=by
 induction d with
 | zero=>intro k _ j _ h1 h2;omega
 |
  succ d ih =>
  intro k h j hj h1 h2
  have hk:k<s.size:=by omega
  have hw:Zan s[k]=true:=by
   cases hw:Zan s[k]
   ·rw [ZbA hk hw] at h;omega
   ·rfl
  by_cases e:j=k
  ·subst e;exact hw
  ·rw [Zbl hk hw] at h
   exact ih (k+1) (by omega) j hj (by omega) (by omega)
theorem ZlP {c:UInt8} (h:Zan c=true):c.toNat≠34/\c.toNat≠92:=by rw [ZeP] at h;omega
theorem ZkO {c:UInt8} (h:c∈marks1):c.toNat≠34/\c.toNat≠92:=by
 have:∀ d∈marks1,d.toNat≠34/\d.toNat≠92:=by decide
 exact this c h
theorem Zmv {s:ByteArray} {k:Nat} (h:twoAt s k=true):∀ j,(hj:j<s.size)->k<=j->j<k+2->s[j].toNat≠34/\s[j].toNat≠92:=by
 intro j hj h1 h2
 unfold twoAt at h
 simp only [Zie,Bool.or_eq_true,Bool.and_eq_true,decide_eq_true_eq] at h
 by_cases e:j=k
 ·subst e
  rw [Za2 hj] at h
  simp only [Qi] at h
  rcases h with(((((h | h) | h) | h) | h) | h) | h <;> (rw [h.1];decide)
 ·obtain rfl:j=k+1:=by omega
  rw [Za2 hj] at h
  simp only [Qi] at h
  rcases h with(((((h | h) | h) | h) | h) | h) | h <;> (rw [h.2];decide)
theorem Zmw {t:Tok} (h:tokOk t=true) (h3:t.kind≠3):∀ c∈bs t.text,c.toNat≠34/\c.toNat≠92:=by
 obtain⟨h0,_,hc,_⟩:=ZfI h
 obtain⟨⟨_,hk⟩,_⟩:=ZaA h
 intro c hm
 obtain⟨j,hj,rfl⟩:=List.getElem_of_mem hm
 rw [Zdq] at hj
 rw [Zj1 hj]
 cases hw:Zan t.text[0]
 ·by_cases hq:t.text[0].toNat=34
  ·refine absurd ?_ h3
   rw [hk]
   unfold Zan at hw
   rw [Bool.or_eq_false_iff] at hw
   unfold cutKind
   rw [hw.1,hw.2,if_neg (by simp),if_neg (by simp),if_pos hq]
  ·rw [ZbN h0 hw hq] at hc
   split at hc
   ·omega
   ·rename_i hm0
    have hms:mLen t.text 0=t.text.size:=by omega
    unfold mLen at hms
    split at hms
    ·rename_i ht
     exact Zmv ht j hj (by omega) (by omega)
    ·skip
     split at hms
     ·rename_i hin
      obtain rfl:j=0:=by omega
      exact ZkO hin
     ·omega
 ·rw [ZbL h0 hw] at hc
  split at hc
  ·omega
  ·exact ZlP (ZlO (t.text.size) 0 (by omega) j hj (by omega) (by omega))
theorem tok_esc {t:Tok} (h:tokOk t=true):Esc (bs (bit t)) (bs t.text):=by
 unfold bit
 split
 ·have:=Zi1 t.text t.text.size (Nat.le_refl _)
  rwa [List.take_of_length_le (by rw [Zdq];exact Nat.le_refl _)] at this
 ·rename_i h3;exact .plain (Zmw h h3)
theorem Zmx:Esc (bs ⟨#[32]⟩) (bs ⟨#[32]⟩):=.plain (by
                                intro c hc;have:c=32:=by simpa [bs] using hc
                                subst this;decide)
theorem Zj3 {l:List Tok} (h:Zaj l=true):∀ k,k<=l.length->Esc (bs (Zax l k)) (bs (rawTo l k))
 | 0,_=>.nil
 |
  k+1,hk=>by
  have ih:=Zj3 h k (by omega)
  have hk':k<l.length:=by omega
  have ht:=tok_esc ((Zau h).2 k hk')
  by_cases hs:0<k/\l[k].spaced=true
  ·rw [ZcD hk' hs.1 hs.2,rawTo_sp hk' hs.1 hs.2,ZbU,ZbU,ZbU,ZbU]
   exact(ih.app Zmx).app ht
  ·rw [ZbW hk' hs,rawTo_no hk' hs,ZbU,ZbU]
   exact ih.app ht
theorem Zj4 (t:Tok):(bit t).size<=2 * t.text.size:=by
 unfold bit;split
 ·exact ZcT _ _
 ·omega
theorem Zdj {l:List Tok} (h:Zaj l=true):∀ k,k<=l.length->(Zax l k).size<=401 * k
 | 0,_=>by show (0:Nat)<=_;omega
 |
  k+1,hk=>by
  have ih:=Zdj h k (by omega)
  have hk':k<l.length:=by omega
  have h2:=(ZaA ((Zau h).2 k hk')).2
  have h3:=Zj4 l[k]
  have h1:(⟨#[32]⟩:ByteArray).size=1:=rfl
  by_cases hs:0<k/\l[k].spaced=true
  ·rw [ZcD hk' hs.1 hs.2,ByteArray.size_append,ByteArray.size_append];omega
  ·rw [ZbW hk' hs,ByteArray.size_append];omega
theorem bit_ok {t:Tok} (h:tokOk t=true):AllOk (bit t):=by
 have hx:=AllOk.of (ZfI h).2.2.2
 unfold bit;split
 ·exact Zj2 hx _ (Nat.le_refl _)
 ·exact hx
theorem Zld {l:List Tok} (h:Zaj l=true):∀ k,k<=l.length->AllOk (Zax l k)
 | 0,_=>λ j c hc=>by obtain⟨hj,_⟩:=ZbP hc;exact absurd hj (by show ¬ j<0;omega)
 |
  k+1,hk=>by
  have ih:=Zld h k (by omega)
  have hk':k<l.length:=by omega
  have hx:=bit_ok ((Zau h).2 k hk')
  by_cases hs:0<k/\l[k].spaced=true
  ·rw [ZcD hk' hs.1 hs.2];exact(ih.app (ZfO (by decide))).app hx
  ·rw [ZbW hk' hs];exact ih.app hx
def quoted (x:ByteArray):ByteArray:=⟨#[34]⟩++x++⟨#[34]⟩
theorem Zes (x:ByteArray):(quoted x).size=x.size+2:=by
 have h1:(⟨#[34]⟩:ByteArray).size=1:=rfl
 unfold quoted;rw [ByteArray.size_append,ByteArray.size_append];omega
theorem Zmy (x:ByteArray):bs (quoted x)=34::(bs x++[34]):=by unfold quoted;rw [ZbU,ZbU];rfl
def zTok:Tok:=⟨0,⟨#[]⟩,false,[]⟩
def ZaS (l:List Tok):Tok × Bool:=if Zaj l=true then (if 200<(quoted (Zax l l.length)).size then (zTok,false) else (⟨3,quoted (Zax l l.length),false,[]⟩,true)) else (zTok,false)
theorem Zi2 {l:List Tok} (h:Zaj l=false):ZaS l=(zTok,false):=by unfold ZaS;rw [if_neg (by simp [h])]
theorem ZgE {l:List Tok} {k:Nat} (h:Zaj l=true) (hk:l.length=k) (h2:200<(quoted (Zax l k)).size):ZaS l=(zTok,false):=by unfold ZaS;rw [if_pos h,hk,if_pos h2]
theorem ZhL {l:List Tok} {k:Nat} (h:Zaj l=true) (hk:l.length=k) (h2:¬ 200<(quoted (Zax l k)).size):ZaS l=(⟨3,quoted (Zax l k),false,[]⟩,true):=by unfold ZaS;rw [if_pos h,hk,if_neg h2]
def Zg1 (t:Tok):ByteArray × Bool:=if tokOk t=true/\t.kind=3 then (outTo t.text 1,true) else (⟨#[]⟩,false)
theorem Zj5 {t:Tok} (h:tokOk t=true) (h3:t.kind=3):Zg1 t=(outTo t.text 1,true):=by unfold Zg1;rw [if_pos ⟨h,h3⟩]
theorem ZkP {l:List Tok} {t:Tok} (h:ZaS l=(t,true)):Zaj l=true/\(quoted (Zax l l.length)).size<=200/\t=⟨3,quoted (Zax l l.length),false,[]⟩:=by
 unfold ZaS at h
 split at h
 ·rename_i hv
  split at h
  ·simp at h
  ·simp at h;exact⟨hv,by omega,h.symm⟩
 ·simp at h
theorem txt_back {l:List Tok} {t:Tok} (h:ZaS l=(t,true)):tokOk t=true/\Zg1 t=(rawTo l l.length,true):=by
 obtain⟨hv,hz,rfl⟩:=ZkP h
 have hE:=Zj3 hv l.length (Nat.le_refl _)
 generalize hJ:Zax l l.length=J at hE hz
 have hb:=Zmy J
 obtain⟨hc,ho⟩:=esc_scan hE (s:=quoted J) (k:=1) (by rw [hb];rfl)
 have h0:0<(quoted J).size:=by rw [Zes];omega
 obtain⟨_,hq,_⟩:=bs_at (s:=quoted J) (k:=0) hb
 have hw:Zan (quoted J)[0]=false:=by rw [hq];decide
 have hq':(quoted J)[0].toNat=34:=by rw [hq];rfl
 have hcut:Zat (quoted J) 0=((quoted J).size:Nat):=by rw [ZbM h0 hw hq',hc]
 have hl:ZaM (quoted J)=true:=by
  refine AllOk.line ?_ hz
  unfold quoted
  exact((ZfO (by decide)).app (by rw [← hJ];exact Zld hv _ (Nat.le_refl _))).app (ZfO (by decide))
 have ht:=Zif hl h0 (by omega) hcut false
 have hx:(quoted J).extract 0 (quoted J).size=quoted J:=ByteArray.extract_zero_size
 have hk:cutKind (quoted J)[0]=3:=by rw [hq];decide
 rw [hx,hk] at ht
 refine ⟨ht,?_⟩
 rw [Zj5 ht rfl]
 congr 1
 exact bs_ext ho
/-! ### Lists of names -/
def Up (l:List ByteArray):Prop:=l.Pairwise λ a b=>sLess a b=true
theorem Zdr {l:List ByteArray} (h:hidOk l=true):l.length<=60/\∀ i,i<l.length->ZaU l i=true:=by
 unfold hidOk at h
 rw [Bool.and_eq_true,decide_eq_true_eq,List.all_eq_true] at h
 exact⟨h.1,λ i hi=>h.2 i (by simpa using hi)⟩
theorem Zj6 {l:List ByteArray} (h:hidOk l=true) {i:Nat} (hi:i+1<l.length):sLess (l[i]'(by omega)) l[i+1]=true:=by
 have:=(Zdr h).2 (i+1) hi
 unfold ZaU at this
 rw [dif_pos hi,Bool.and_eq_true,Bool.or_eq_true,decide_eq_true_eq] at this
 rcases this.2 with h0 | h0
 ·omega
 ·exact h0
theorem Zle {l:List ByteArray} (h:hidOk l=true):∀ d i:Nat,(hj:i+d+1<l.length)->sLess (l[i]'(by omega)) (l[i+d+1]'hj)=true
 | 0,i,hj=>Zj6 h hj
 | d+1,i,hj=>Zcu (Zle h d i (by omega)) (Zj6 h hj)
theorem ZcE {l:List ByteArray} (h:hidOk l=true):l.length<=60/\(∀ x∈l,Zal x 1=true)/\Up l:=by
 refine ⟨(Zdr h).1,λ x hx=>?_,?_⟩
 ·obtain⟨i,hi,rfl⟩:=List.getElem_of_mem hx
  have:=(Zdr h).2 i hi
  unfold ZaU at this
  rw [dif_pos hi,Bool.and_eq_true] at this
  exact this.1
 ·unfold Up
  rw [List.pairwise_iff_getElem]
  intro i j hi hj hij
  have:=Zle h (j-i-1) i (by omega)
  have e:i+(j-i-1)+1=j:=by omega
  simpa only [e] using this
theorem asc_hid {l:List ByteArray} (h1:l.length<=60) (h2:∀ x∈l,Zal x 1=true) (h3:Up l):hidOk l=true:=by
 refine ZfC (k:=l.length) (λ j hj=>?_) (Nat.le_refl _) h1
 unfold ZaU
 rw [dif_pos hj,h2 _ (List.getElem_mem hj),Bool.true_and,Bool.or_eq_true,decide_eq_true_eq]
 by_cases h0:j=0
 ·exact .inl h0
 ·unfold Up at h3
  rw [List.pairwise_iff_getElem] at h3
  exact .inr (h3 (j-1) j (by omega) hj (by omega))
theorem ZlQ {l:List ByteArray} (h:hidOk l=true) (p:ByteArray->Bool):hidOk (l.filter p)=true:=by
 obtain⟨h1,h2,h3⟩:=ZcE h
 exact asc_hid (Nat.le_trans (List.length_filter_le _ _) h1) (λ x hx=>h2 x (List.mem_filter.1 hx).1) (List.Pairwise.filter _ h3)
def hasN (l:List ByteArray) (s:ByteArray):Bool:=l.any λ x=>x.toList==s.toList
theorem Zj7 {l:List ByteArray} {s:ByteArray} {k:Nat} (hk:k<l.length) (h:(l[k].toList==s.toList)=true):hasN l s=true:=by
 unfold hasN;rw [List.any_eq_true];exact⟨_,List.getElem_mem hk,h⟩
theorem Zlf {l:List ByteArray} {s:ByteArray} (h:∀ j,(hj:j<l.length)->(l[j].toList==s.toList)=false):hasN l s=false:=by
 unfold hasN;rw [List.any_eq_false]
 intro x hx
 obtain⟨j,hj,rfl⟩:=List.getElem_of_mem hx
 rw [h j hj];simp
def both (a b:List ByteArray):List ByteArray:=a.filter (hasN b)
theorem Zj8 {a b:List ByteArray} {k:Nat} (hk:k<a.length) (h:hasN b a[k]=true):both (a.take (k+1)) b=both (a.take k) b++[a[k]]:=by
 unfold both
 rw [List.take_succ_eq_append_getElem hk,List.filter_append,List.filter_cons_of_pos h];rfl
theorem Zlg {a b:List ByteArray} {k:Nat} (hk:k<a.length) (h:hasN b a[k]=false):both (a.take (k+1)) b=both (a.take k) b:=by
 unfold both
 rw [List.take_succ_eq_append_getElem hk,List.filter_append,List.filter_cons_of_neg (by simp [h])];simp
theorem Zj9 {a b:List ByteArray} {k:Nat} (hk:a.length<=k):both (a.take k) b=both a b:=by rw [List.take_of_length_le hk]
theorem Ze1 (a b:List ByteArray):(both a b).length<=a.length:=List.length_filter_le _ _
def ins:List ByteArray->ByteArray->List ByteArray
 | [],n=>[n]
 | x::r,n=>if sLess x n=true then x::ins r n else if (x.toList==n.toList)=true then x::r else n::x::r
theorem Ze2 (n:ByteArray):∀ l,(ins l n).length<=l.length+1
 | []=>by simp [ins]
 |
  x::r=>by
  unfold ins
  have:=Ze2 n r
  split
  ·simp;omega
  ·split <;> simp
theorem ZhM (n:ByteArray):∀ (l:List ByteArray) (k:Nat),k<=l.length->(∀ j,(hj:j<l.length)->j<k->sLess l[j] n=true)->(∀ h:k<l.length,sLess l[k] n=false/\(l[k].toList==n.toList)=false)->ins l n=l.take k++n::l.drop k
 | [],k,hk,_,_=>by simp [ins]
 |
  x::r,0,_,_,h=>by
  obtain⟨h1,h2⟩:=h (by simp)
  simp only [List.getElem_cons_zero] at h1 h2
  rw [ins,if_neg (by simp [h1]),if_neg (by simp [h2])];rfl
 |
  x::r,k+1,hk,ha,h=>by
  have h0:=ha 0 (by simp) (by omega)
  simp only [List.getElem_cons_zero] at h0
  rw [ins,if_pos h0,ZhM n r k (by simpa using hk) (λ j hj hjk=>by have:=ha (j+1) (by simpa using hj) (by omega);simpa using this) (λ hh=>by have:=h (by simpa using hh);simpa using this)]
  rfl
theorem Zka (n:ByteArray):∀ (l:List ByteArray) (k:Nat),(hk:k<l.length)->(∀ j,(hj:j<l.length)->j<k->sLess l[j] n=true)->(l[k].toList==n.toList)=true->ins l n=l
 |
  x::r,0,_,_,h=>by
  simp only [List.getElem_cons_zero] at h
  have e:=Zcq h
  rw [ins,if_neg (by rw [e,ZcQ];simp),if_pos h]
 |
  x::r,k+1,hk,ha,h=>by
  have h0:=ha 0 (by simp) (by omega)
  simp only [List.getElem_cons_zero] at h0
  rw [ins,if_pos h0,Zka n r k (by simpa using hk) (λ j hj hjk=>by have:=ha (j+1) (by simpa using hj) (by omega);simpa using this) (by simpa using h)]
/-! ### Pasting -/
theorem ZlR (s:ByteArray) (k:Nat):∀ j,(h:j<s.size)->k<=j->j<wEnd s k->Zan s[j]=true:=by
 induction k using wEnd.induct (s:=s) with
 |
  case1 k h hc ih =>
  intro j hj hkj hje
  rw [Zbl h hc] at hje
  by_cases e:j=k
  ·subst e;exact hc
  ·exact ih j hj (by omega) hje
 | case2 k h hc=>intro j hj hkj hje;rw [ZbA h (by simpa using hc)] at hje;omega
 | case3 k h=>intro j hj hkj hje;rw [Zcx (by omega)] at hje;omega
theorem ZkQ:∀ c∈marks1,c.toNat≠32:=by decide
theorem Zmz {s:ByteArray} {k:Nat} {a b:UInt8} (h:two s k a b=true):s[k+1]'(ZdK h)=b:=by
 have hr:=ZdK h
 unfold two at h
 rw [List.isPrefixOf_iff_prefix] at h
 obtain⟨t,ht⟩:=h
 have h1:(s.data.toList.drop k)[1]?=some b:=by rw [← ht];rfl
 rw [List.getElem?_drop] at h1
 have h2:s.data.toList[k+1]?=some s[k+1]:=by
  rw [List.getElem?_eq_getElem (by simpa using hr)];simp [ByteArray.getElem_eq_getElem_data]
 rw [h2] at h1
 simpa using h1
theorem ZlS {s:ByteArray} {k:Nat} (h:twoAt s k=true):∃ hk:k+1<s.size,s[k+1].toNat≠32:=by
 have hk:=ZeR h
 refine ⟨hk,?_⟩
 unfold twoAt at h
 simp only [Bool.or_eq_true] at h
 rcases h with(((((h | h) | h) | h) | h) | h) | h <;> (rw [Zmz h];decide)
theorem ZlT {s:ByteArray} {k:Nat} (hk:k<s.size) (h:Zat s k=s.size):(s[s.size-1]'(by omega)).toNat≠32:=by
 cases hw:Zan s[k]
 ·by_cases hq:s[k].toNat=34
  ·rw [ZbM hk hw hq] at h
   cases hc:tClose s (k+1) with
   | none=>rw [hc] at h;simp only at h;omega
   |
    some e =>
    rw [hc] at h
    simp only at h
    obtain⟨_,_,_,h1,h2⟩:=Za1 hc
    have e1:e=s.size:=by omega
    subst e1
    omega
  ·rw [ZbN hk hw hq] at h
   split at h
   ·omega
   ·rename_i h0
    cases ht:twoAt s k
    ·by_cases hm:s[k]∈marks1
     ·rw [ZgR ht hk hm] at h
      have e:k=s.size-1:=by omega
      subst e
      exact ZkQ _ hm
     ·exact absurd (ZfD ht hk hm) h0
    ·obtain⟨h1,h2⟩:=ZlS ht
     have e2:mLen s k=2:=by unfold mLen;rw [if_pos ht]
     rw [e2] at h
     have e:k+1=s.size-1:=by omega
     intro hh
     apply h2
     have:s[k+1]=s[s.size-1]'(by omega):=by congr 1
     rw [this];exact hh
 ·rw [ZbL hk hw] at h
  split at h
  ·omega
  ·have:=ZlR s k (s.size-1) (by omega) (by omega) (by omega)
   rw [ZeP] at this
   omega
theorem ZmA (s:ByteArray):∀ (k:Nat) (sp:Bool) (n:Nat),toks s k sp n=some []->∀ j,(h:j<s.size)->k<=j->s[j].toNat=32:=by
 intro k sp n
 induction k,sp,n using toks.induct (s:=s) with
 |
  case1 k sp n hk h32 ih =>
  intro h j hj hkj
  rw [toks,dif_pos hk,if_pos h32] at h
  by_cases e:j=k
  ·subst e;exact h32
  ·exact ih h j hj (by omega)
 |
  case2 k sp n hk h32 hb =>
  intro h
  rw [toks,dif_pos hk,if_neg h32,if_pos hb] at h
  exact absurd h (by simp)
 |
  case3 k sp n hk h32 hb ih =>
  intro h
  rw [toks,dif_pos hk,if_neg h32,if_neg hb,Option.map_eq_some_iff] at h
  obtain⟨l',_,h2⟩:=h
  exact absurd h2 (by simp)
 | case4 k sp n hk=>intro h j hj hkj;omega
theorem ZmB {s:ByteArray} {t:Tok} (h:Zah s=([t],true)) (h0:0<s.size) (hf:¬ s[0].toNat=32) (hl:¬ (s[s.size-1]'(by omega)).toNat=32):t=⟨cutKind s[0],s,false,[]⟩/\tokOk t=true:=by
 obtain⟨h1,h2⟩:=ZbO h
 rw [toks,dif_pos h0,if_neg hf] at h1
 split at h1
 ·exact absurd h1 (by simp)
 ·rename_i hb
  rw [Option.map_eq_some_iff] at h1
  obtain⟨l',h3,h4⟩:=h1
  simp only [List.cons.injEq] at h4
  obtain⟨h4,rfl⟩:=h4
  have hr:=Za6 (s:=s) (k:=0) (by omega)
  have hc:Zat s 0=(s.size:Nat):=by
   by_cases e:Zat s 0=(s.size:Nat)
   ·exact e
   ·exact absurd (ZmA s _ _ _ h3 (s.size-1) (by omega) (by omega)) hl
  have hv:=Zif h2 h0 hf hc false
  have hx:s.extract 0 s.size=s:=ByteArray.extract_zero_size
  have hx2:s.extract 0 (Zat s 0).toNat=s:=by rw [hc];exact hx
  rw [hx] at hv
  rw [hx2] at h4
  subst h4
  exact⟨rfl,hv⟩
theorem Zkb {t:Tok} (h:tokOk t=true):∃ h0:0<t.text.size,t.text[0].toNat≠32/\(t.text[t.text.size-1]'(by omega)).toNat≠32/\t.kind=cutKind t.text[0]:=by
 obtain⟨h0,h1,h2,_⟩:=ZfI h
 obtain⟨⟨_,hk⟩,_⟩:=ZaA h
 exact⟨h0,h1,ZlT h0 h2,hk⟩
def Zaq (a b:Tok):Tok × Bool:=
 if tokOk a=true/\tokOk b=true then
  (
  match Zah (a.text++b.text) with
  | ([t],true)=>(⟨t.kind,t.text,a.spaced,both a.hidden b.hidden⟩,true)
  | _=>(zTok,false))
 else (zTok,false)
theorem Zi3 {a b:Tok} (h:tokOk a=false):Zaq a b=(zTok,false):=by unfold Zaq;rw [if_neg (by simp [h])]
theorem Zi4 {a b:Tok} (h:tokOk b=false):Zaq a b=(zTok,false):=by unfold Zaq;rw [if_neg (by simp [h])]
theorem Zi5 {a b:Tok} {l:List Tok} (h:Zah (a.text++b.text)=(l,false)):Zaq a b=(zTok,false):=by
 unfold Zaq;rw [h];split
 ·split
  ·rename_i e;simp at e
  ·rfl
 ·rfl
theorem Zi6 {a b:Tok} {l:List Tok} {o:Bool} (h:Zah (a.text++b.text)=(l,o)) (hl:l.length≠1):Zaq a b=(zTok,false):=by
 unfold Zaq;rw [h];split
 ·split
  ·rename_i e;simp only [Prod.mk.injEq] at e;rw [e.1] at hl;exact absurd rfl hl
  ·rfl
 ·rfl
theorem Zi7 {a b t:Tok} (ha:tokOk a=true) (hb:tokOk b=true) (h:Zah (a.text++b.text)=([t],true)):Zaq a b=(⟨t.kind,t.text,a.spaced,both a.hidden b.hidden⟩,true):=by
 unfold Zaq;rw [if_pos ⟨ha,hb⟩,h]
theorem ZhN {a b u:Tok} (h:Zaq a b=(u,true)):tokOk a=true/\tokOk b=true/\∃ t,Zah (a.text++b.text)=([t],true)/\u=⟨t.kind,t.text,a.spaced,both a.hidden b.hidden⟩:=by
 unfold Zaq at h
 split at h
 ·rename_i hv
  split at h
  ·rename_i t e;simp only [Prod.mk.injEq,and_true] at h;exact⟨hv.1,hv.2,t,e,h.symm⟩
  ·simp at h
 ·simp at h
theorem ZkR {a b u:Tok} (h:Zaq a b=(u,false)):u=zTok:=by
 unfold Zaq at h
 split at h
 ·split at h
  ·simp at h
  ·simp only [Prod.mk.injEq,and_true] at h;exact h.symm
 ·simp only [Prod.mk.injEq,and_true] at h;exact h.symm
theorem ZmC {a b:Tok} (ha:tokOk a=true) (hb:tokOk b=true):∃ h0:0<(a.text++b.text).size,(a.text++b.text)[0].toNat≠32/\((a.text++b.text)[(a.text++b.text).size-1]'(by omega)).toNat≠32/\a.kind=cutKind (a.text++b.text)[0]:=by
 obtain⟨a0,a1,_,ak⟩:=Zkb ha
 obtain⟨b0,_,b2,_⟩:=Zkb hb
 have hz:(a.text++b.text).size=a.text.size+b.text.size:=ByteArray.size_append
 have h0:0<(a.text++b.text).size:=by omega
 have e0:(a.text++b.text)[0]=a.text[0]:=ByteArray.getElem_append_left a0
 have e1:(a.text++b.text)[(a.text++b.text).size-1]'(by omega)=b.text[b.text.size-1]'(by omega):=by
  rw [ByteArray.getElem_append_right (by omega)]
  congr 1;omega
 exact⟨h0,by rw [e0];exact a1,by rw [e1];exact b2,by rw [e0];exact ak⟩
theorem Ze3 {a b u:Tok} (h:Zaq a b=(u,true)):tokOk u=true/\u.text=a.text++b.text/\u.kind=a.kind/\u.spaced=a.spaced/\u.hidden=both a.hidden b.hidden/\u.hidden.length<=a.hidden.length:=by
 obtain⟨ha,hb,t,ht,rfl⟩:=ZhN h
 obtain⟨h0,h1,h2,hk⟩:=ZmC ha hb
 obtain⟨rfl,hv⟩:=ZmB ht h0 h1 h2
 refine ⟨?_,rfl,hk.symm,rfl,rfl,Ze1 _ _⟩
 unfold tokOk at hv ha ⊢
 rw [Bool.and_eq_true] at hv ha ⊢
 exact⟨hv.1,ZlQ ha.2 _⟩
/-! ### Hiding -/
def spc (b:Bool):List Tok->List Tok
 | []=>[]
 | t::r=>⟨t.kind,t.text,b,t.hidden⟩::r
theorem Ziq (b:Bool) (l:List Tok):(spc b l).length=l.length:=by cases l <;> rfl
def isM (t:Tok) (s:List UInt8):Bool:=decide (t.kind=4) && (t.text.toList==s)
def argAt (a:List (List Tok)) (n:Int):List Tok:=a.getD n.toNat []
theorem Zc7 {a:List (List Tok)} {n:Int} {k:Nat} (h:n=k) (hk:k<a.length):argAt a n=a[k]:=by
 unfold argAt
 subst h
 simp [List.getD_eq_getElem?_getD,List.getElem?_eq_getElem hk]
def glueL (m:DMacro) (k:Nat):Bool:=if h:0<k/\k-1<m.body.length then isM m.body[k-1] [35,35] else false
def glueR (m:DMacro) (k:Nat):Bool:=if h:k+1<m.body.length then isM m.body[k+1] [35,35] else false
def Zay (m:DMacro) (raw ready:List (List Tok)) (k:Nat):List Tok × Nat × Bool:=
 if h:k<m.body.length then
  (if m.function=true/\isM m.body[k] [35]=true then
   (if h2:k+1<m.body.length then
    ([⟨(ZaS (argAt raw (parOf m.params m.body[k+1]))).1.kind,(ZaS (argAt raw (parOf m.params m.body[k+1]))).1.text,m.body[k].spaced,(ZaS (argAt raw (parOf m.params m.body[k+1]))).1.hidden⟩],k+2,(ZaS (argAt raw (parOf m.params m.body[k+1]))).2)
   else ([],k+2,false))
  else if parOf m.params m.body[k]<0 then ([m.body[k]],k+1,true)
  else if (glueL m k || glueR m k)=true then (spc m.body[k].spaced (argAt raw (parOf m.params m.body[k])),k+1,true)
  else (spc m.body[k].spaced (argAt ready (parOf m.params m.body[k])),k+1,true))
 else ([],k+1,true)
section
variable {m:DMacro} {raw ready:List (List Tok)} {k:Nat}
theorem ZfP (hk:k+1<m.body.length) (h1:m.function=true) (h2:isM (m.body[k]'(by omega)) [35]=true) {u:Tok} {o:Bool} (h:ZaS (argAt raw (parOf m.params m.body[k+1]))=(u,o)) :
  Zay m raw ready k=([⟨u.kind,u.text,(m.body[k]'(by omega)).spaced,u.hidden⟩],k+2,o):=by
 unfold Zay;rw [dif_pos (by omega),if_pos ⟨h1,h2⟩,dif_pos hk,h]
theorem ZfQ (hk:k<m.body.length) (h1:¬ (m.function=true/\isM m.body[k] [35]=true)) (h2:parOf m.params m.body[k]<0):Zay m raw ready k=([m.body[k]],k+1,true):=by
 unfold Zay;rw [dif_pos hk,if_neg h1,if_pos h2]
theorem Zg2 (hk:k<m.body.length) (h1:¬ (m.function=true/\isM m.body[k] [35]=true)) (h2:¬ parOf m.params m.body[k]<0) (h3:(glueL m k || glueR m k)=true):Zay m raw ready k=(spc m.body[k].spaced (argAt raw (parOf m.params m.body[k])),k+1,true):=by
 unfold Zay;rw [dif_pos hk,if_neg h1,if_neg h2,if_pos h3]
theorem Ze4 (hk:k<m.body.length) (h1:¬ (m.function=true/\isM m.body[k] [35]=true)) (h2:¬ parOf m.params m.body[k]<0) (h3:(glueL m k || glueR m k)=false):Zay m raw ready k=(spc m.body[k].spaced (argAt ready (parOf m.params m.body[k])),k+1,true):=by
 unfold Zay;rw [dif_pos hk,if_neg h1,if_neg h2,if_neg (by simp [h3])]
theorem Zec (m:DMacro) (raw ready:List (List Tok)) (k:Nat):k<(Zay m raw ready k).2.1:=by
 unfold Zay
 split
 ·split
  ·split <;> (show k<k+2;omega)
  ·split
   ·show k<k+1;omega
   ·split <;> (show k<k+1;omega)
 ·show k<k+1;omega
end
def subGo (m:DMacro) (raw ready:List (List Tok)) (k:Nat) (out:List Tok) (emp paste:Bool):List Tok × Bool:=
 if h:k<m.body.length then
  (
  if isM m.body[k] [35,35]=true/\paste=false then subGo m raw ready (k+1) out emp true
  else if (Zay m raw ready k).2.2=false then ([],false)
  else if paste=true/\emp=false/\0<(Zay m raw ready k).1.length then
   (if (Zaq (out.getLastD zTok) ((Zay m raw ready k).1.headD zTok)).2=true then
    subGo m raw ready (Zay m raw ready k).2.1 (out.dropLast++(Zaq (out.getLastD zTok) ((Zay m raw ready k).1.headD zTok)).1::(Zay m raw ready k).1.tail) emp false
    else ([],false))
  else subGo m raw ready (Zay m raw ready k).2.1 (out++(Zay m raw ready k).1) (decide ((Zay m raw ready k).1.length=0) && (emp || !paste)) false)
 else (out,true)
termination_by m.body.length-k
decreasing_by
 all_goals first | omega | (refine Nat.sub_lt_sub_left h ?_;exact Zec _ _ _ _)
section
variable {m:DMacro} {raw ready:List (List Tok)} {k:Nat} {out part:List Tok} {emp paste:Bool} {nx:Nat} {ok:Bool}
theorem ZdD (h:m.body.length<=k):subGo m raw ready k out emp paste=(out,true):=by rw [subGo,dif_neg (by omega)]
theorem Ze5 (hk:k<m.body.length) (h1:isM m.body[k] [35,35]=true):subGo m raw ready k out emp false=subGo m raw ready (k+1) out emp true:=by
 rw [subGo,dif_pos hk,if_pos ⟨h1,rfl⟩]
theorem ZeH (hk:k<m.body.length) (h1:¬ (isM m.body[k] [35,35]=true/\paste=false)) (hp:Zay m raw ready k=(part,nx,false)):subGo m raw ready k out emp paste=([],false):=by
 rw [subGo,dif_pos hk,if_neg h1,if_pos (by rw [hp])]
theorem ZhO (hk:k<m.body.length) (h1:¬ (isM m.body[k] [35,35]=true/\paste=false)) (hp:Zay m raw ready k=(part,nx,true)) (h2:paste=true/\emp=false/\0<part.length) {x:Tok} (h3:Zaq (out.getLastD zTok) (part.headD zTok)=(x,false)):subGo m raw ready k out emp paste=([],false):=by
 rw [subGo,dif_pos hk,if_neg h1,if_neg (by rw [hp];simp),if_pos (by rw [hp];exact h2),hp]
 simp only [h3]
 rw [if_neg (by simp)]
theorem Zgc (hk:k<m.body.length) (h1:¬ (isM m.body[k] [35,35]=true/\paste=false)) (hp:Zay m raw ready k=(part,nx,true)) (h2:paste=true/\emp=false/\0<part.length) {x:Tok} (h3:Zaq (out.getLastD zTok) (part.headD zTok)=(x,true)) :
  subGo m raw ready k out emp paste=subGo m raw ready nx (out.dropLast++x::part.tail) emp false:=by
 rw [subGo,dif_pos hk,if_neg h1,if_neg (by rw [hp];simp),if_pos (by rw [hp];exact h2),hp]
 simp only [h3,if_true]
theorem ZdE (hk:k<m.body.length) (h1:¬ (isM m.body[k] [35,35]=true/\paste=false)) (hp:Zay m raw ready k=(part,nx,true)) (h2:¬ (paste=true/\emp=false/\0<part.length)) :
  subGo m raw ready k out emp paste=subGo m raw ready nx (out++part) (decide (part.length=0) && (emp || !paste)) false:=by
 rw [subGo,dif_pos hk,if_neg h1,if_neg (by rw [hp];simp),if_neg (by rw [hp];exact h2),hp]
end
def Zas (m:DMacro) (a:List (List Tok)):Bool:=decide (a.length=m.params.length) && a.all Zaj
def Zap (m:DMacro) (raw ready:List (List Tok)):List Tok × Bool:=
 if macOk m=true/\Zas m raw=true/\Zas m ready=true then
  (if (subGo m raw ready 0 [] true false).2=false\/240<(subGo m raw ready 0 [] true false).1.length then ([],false) else subGo m raw ready 0 [] true false)
 else ([],false)
theorem ZbG {m:DMacro} {raw ready:List (List Tok)} (h:¬ (macOk m=true/\Zas m raw=true/\Zas m ready=true)):Zap m raw ready=([],false):=by unfold Zap;rw [if_neg h]
theorem Zed {m:DMacro} {raw ready:List (List Tok)} {l:List Tok} (h:subGo m raw ready 0 [] true false=(l,false)):Zap m raw ready=([],false):=by
 unfold Zap;split
 ·rw [if_pos (by rw [h];exact .inl rfl)]
 ·rfl
theorem ZgF {m:DMacro} {raw ready:List (List Tok)} {l:List Tok} {o:Bool} (h:subGo m raw ready 0 [] true false=(l,o)) (hl:240<l.length):Zap m raw ready=([],false):=by
 unfold Zap;split
 ·rw [if_pos (by rw [h];exact .inr hl)]
 ·rfl
theorem ZhP {m:DMacro} {raw ready:List (List Tok)} {l:List Tok} (h0:macOk m=true/\Zas m raw=true/\Zas m ready=true) (h:subGo m raw ready 0 [] true false=(l,true)) (hl:¬ 240<l.length):Zap m raw ready=(l,true):=by
 unfold Zap;rw [if_pos h0,if_neg (by rw [h];simpa using hl),h]
def Zba (a b:List ByteArray):List ByteArray:=b.foldl ins a
def putT (h:List ByteArray) (t:Tok):Tok:=⟨t.kind,t.text,t.spaced,Zba t.hidden h⟩
def putL (l:List Tok) (h:List ByteArray) (sp:Bool):List Tok:=spc sp (l.map (putT h))
def findM (T:List DMacro) (t:Tok):Option DMacro:=if t.kind=1/\hasN t.hidden t.text=false/\0<=place T t.text then T[(place T t.text).toNat]? else none
def ZeI:List Tok->Bool
 | []=>false
 | u::_=>isM u [40]
def goM (T:List DMacro):List Tok->Option DMacro
 | []=>none
 |
  t::r=>match findM T t with
  | none=>none
  | some m=>if m.function=true/\ZeI r=false then none else some m
def opnK (t:Tok):Int:=if isM t [40]=true then 1 else if isM t [41]=true then -1 else 0
def splK:List Tok->Int->Args->List Tok->Nat->Args × Nat × Bool
 | [],_,args,_,_=>(args,0,false)
 |
  t::r,d,args,arg,k =>
  if d+opnK t=0 then (args++[arg],k+1,true)
  else if d+opnK t=1/\isM t [44]=true then splK r (d+opnK t) (args++[arg]) [] (k+1)
  else splK r (d+opnK t) args (arg++[t]) (k+1)
abbrev XRes:=List Tok × Nat × Int
def argsX (f:List Tok->Nat->XRes):List (List Tok)->Nat->List (List Tok) × Nat × Int
 | [],s=>([],s,0)
 |
  a::r,s =>
  if (f a s).2.2=0 then (if (argsX f r (f a s).2.1).2.2=0 then ((f a s).1::(argsX f r (f a s).2.1).1,(argsX f r (f a s).2.1).2) else ([],(argsX f r (f a s).2.1).2))
  else ([],(f a s).2)
def callX (f:List Tok->Nat->XRes) (m:DMacro) (work:List Tok) (s:Nat):List Tok × Nat × Nat × Int:=
 if (splK (work.drop 2) 1 [] [] 2).2.2=true/\argN m.params.length (splK (work.drop 2) 1 [] [] 2).1=m.params.length then
  (if (argsX f ((splK (work.drop 2) 1 [] [] 2).1.take m.params.length) s).2.2=0 then
   (if (Zap m ((splK (work.drop 2) 1 [] [] 2).1.take m.params.length) (argsX f ((splK (work.drop 2) 1 [] [] 2).1.take m.params.length) s).1).2=true then
    (putL (Zap m ((splK (work.drop 2) 1 [] [] 2).1.take m.params.length) (argsX f ((splK (work.drop 2) 1 [] [] 2).1.take m.params.length) s).1).1
     (ins (both (work.headD zTok).hidden (work.getD ((splK (work.drop 2) 1 [] [] 2).2.1-1) zTok).hidden) m.name) (work.headD zTok).spaced,
    (splK (work.drop 2) 1 [] [] 2).2.1,(argsX f ((splK (work.drop 2) 1 [] [] 2).1.take m.params.length) s).2.1,0)
   else ([],0,(argsX f ((splK (work.drop 2) 1 [] [] 2).1.take m.params.length) s).2.1,2))
  else ([],0,(argsX f ((splK (work.drop 2) 1 [] [] 2).1.take m.params.length) s).2))
 else ([],0,s,1)
def expG (T:List DMacro):Nat->Nat->List Tok->List Tok->XRes
 | _,s,out,[]=>(out,s,0)
 |
  n,s,out,t::r =>
  match goM T (t::r) with
  | none=>if 60<out.length+1 then ([],s,3) else expG T n s (out++[t]) r
  |
   some m =>
   match n,s with
   | 0,_=>([],0,3)
   | _+1,0=>([],0,3)
   |
    n+1,s+1 =>
    if m.function=true then
     (if (callX (λ a k=>expG T n k [] a) m (t::r) s).2.2.2=0 then
      (
      if 60<((callX (λ a k=>expG T n k [] a) m (t::r) s).1++(t::r).drop (callX (λ a k=>expG T n k [] a) m (t::r) s).2.1).length then ([],(callX (λ a k=>expG T n k [] a) m (t::r) s).2.2.1,3)
      else expG T n (callX (λ a k=>expG T n k [] a) m (t::r) s).2.2.1 out ((callX (λ a k=>expG T n k [] a) m (t::r) s).1++(t::r).drop (callX (λ a k=>expG T n k [] a) m (t::r) s).2.1))
     else ([],(callX (λ a k=>expG T n k [] a) m (t::r) s).2.2))
    else
     (if (Zap m [] []).2=true then
      (if 60<(putL (Zap m [] []).1 (ins t.hidden m.name) t.spaced++r).length then ([],s,3) else expG T n s out (putL (Zap m [] []).1 (ins t.hidden m.name) t.spaced++r))
     else ([],s,2))
termination_by n _ _ w=>(n,w.length)
def expRes (T:List DMacro) (l:List Tok):List Tok × Int:=
 if tabOk T=true/\Zaj l=true then (if (expG T 100 100 [] l).2.2=0 then ((expG T 100 100 [] l).1,0) else ([],(expG T 100 100 [] l).2.2)) else ([],-1)
section
variable {T:List DMacro} {n s:Nat} {out r:List Tok} {t:Tok} {m:DMacro}
theorem Zb8:expG T n s out []=(out,s,0):=by rw [expG]
theorem Zbv (h:goM T (t::r)=none) (hl:¬ 60<out.length+1):expG T n s out (t::r)=expG T n s (out++[t]) r:=by rw [expG,h];simp only;rw [if_neg hl]
theorem Zbw (h:goM T (t::r)=none) (hl:60<out.length+1):expG T n s out (t::r)=([],s,3):=by rw [expG,h];simp only;rw [if_pos hl]
theorem Zc8 (h:goM T (t::r)=some m):expG T n 0 out (t::r)=([],0,3):=by
 rw [expG,h]
 cases n <;> rfl
theorem ZdZ (h:goM T (t::r)=some m) (hf:m.function=true) {b:List Tok} {e l:Nat} (hc:callX (λ a k=>expG T n k [] a) m (t::r) s=(b,e,l,0)) (hl:¬ 60<(b++(t::r).drop e).length):expG T (n+1) (s+1) out (t::r)=expG T n l out (b++(t::r).drop e):=by
 rw [expG,h];simp only;rw [if_pos hf,hc,if_pos rfl,if_neg hl]
theorem Zds (h:goM T (t::r)=some m) (hf:m.function=true) {b:List Tok} {e l:Nat} (hc:callX (λ a k=>expG T n k [] a) m (t::r) s=(b,e,l,0)) (hl:60<(b++(t::r).drop e).length):expG T (n+1) (s+1) out (t::r)=([],l,3):=by
 rw [expG,h];simp only;rw [if_pos hf,hc,if_pos rfl,if_pos hl]
theorem ZbX (h:goM T (t::r)=some m) (hf:m.function=true) {b:List Tok} {e l:Nat} {c:Int} (hc:callX (λ a k=>expG T n k [] a) m (t::r) s=(b,e,l,c)) (h0:c≠0):expG T (n+1) (s+1) out (t::r)=([],l,c):=by
 rw [expG,h];simp only;rw [if_pos hf,hc,if_neg h0]
theorem ZeJ (h:goM T (t::r)=some m) (hf:m.function=false) {b:List Tok} (hc:Zap m [] []=(b,true)) (hl:¬ 60<(putL b (ins t.hidden m.name) t.spaced++r).length):expG T (n+1) (s+1) out (t::r)=expG T n s out (putL b (ins t.hidden m.name) t.spaced++r):=by
 rw [expG,h];simp only;rw [if_neg (by simp [hf]),hc,if_pos rfl,if_neg hl]
theorem Zd0 (h:goM T (t::r)=some m) (hf:m.function=false) {b:List Tok} (hc:Zap m [] []=(b,true)) (hl:60<(putL b (ins t.hidden m.name) t.spaced++r).length):expG T (n+1) (s+1) out (t::r)=([],s,3):=by
 rw [expG,h];simp only;rw [if_neg (by simp [hf]),hc,if_pos rfl,if_pos hl]
theorem Zd1 (h:goM T (t::r)=some m) (hf:m.function=false) {b:List Tok} (hc:Zap m [] []=(b,false)):expG T (n+1) (s+1) out (t::r)=([],s,2):=by
 rw [expG,h];simp only;rw [if_neg (by simp [hf]),hc,if_neg (by simp)]
end
theorem Zir {f:List Tok->Nat->XRes} (hf:∀ a k,(f a k).2.1<=k):∀ (A:List (List Tok)) (s:Nat),(argsX f A s).2.1<=s
 | [],s=>Nat.le_refl s
 |
  a::r,s=>by
  have h1:=hf a s
  have h2:=Zir hf r (f a s).2.1
  unfold argsX
  split
  ·split
   ·show (argsX f r (f a s).2.1).2.1<=s;omega
   ·show (argsX f r (f a s).2.1).2.1<=s;omega
  ·show (f a s).2.1<=s;omega
theorem Zlh {f:List Tok->Nat->XRes} (hf:∀ a k,(f a k).2.1<=k) (m:DMacro) (w:List Tok) (s:Nat):(callX f m w s).2.2.1<=s:=by
 have h1:=Zir hf ((splK (w.drop 2) 1 [] [] 2).1.take m.params.length) s
 unfold callX
 split
 ·split
  ·split
   ·exact h1
   ·exact h1
  ·exact h1
 ·exact Nat.le_refl s
theorem ZhQ (T:List DMacro):∀ (n:Nat) (w:List Tok) (s:Nat) (out:List Tok),(expG T n s out w).2.1<=s:=by
 intro n
 induction n with
 |
  zero =>
  intro w
  induction w with
  | nil=>intro s out;rw [Zb8];exact Nat.le_refl s
  |
   cons t r ih =>
   intro s out
   cases hg:goM T (t::r) with
   |
    none =>
    by_cases hl:60<out.length+1
    ·rw [Zbw hg hl];exact Nat.le_refl s
    ·rw [Zbv hg hl];exact ih s _
   | some m=>rw [expG,hg];exact Nat.zero_le s
 |
  succ n ihn =>
  intro w
  induction w with
  | nil=>intro s out;rw [Zb8];exact Nat.le_refl s
  |
   cons t r ih =>
   intro s out
   cases hg:goM T (t::r) with
   |
    none =>
    by_cases hl:60<out.length+1
    ·rw [Zbw hg hl];exact Nat.le_refl s
    ·rw [Zbv hg hl];exact ih s _
   |
    some m =>
    cases s with
    | zero=>rw [Zc8 hg];exact Nat.zero_le 0
    |
     succ s =>
     cases hf:m.function
     ·rcases hc:Zap m [] [] with⟨b,ok⟩
      cases ok
      ·rw [Zd1 hg hf hc];exact Nat.le_succ s
      ·by_cases hl:60<(putL b (ins t.hidden m.name) t.spaced++r).length
       ·rw [Zd0 hg hf hc hl];exact Nat.le_succ s
       ·rw [ZeJ hg hf hc hl];exact Nat.le_succ_of_le (ihn _ _ _)
     ·have hcl:=Zlh (f:=λ a k=>expG T n k [] a) (λ a k=>ihn a k []) m (t::r) s
      rcases hc:callX (λ a k=>expG T n k [] a) m (t::r) s with⟨b,e,l,c⟩
      rw [hc] at hcl
      have hcl':l<=s:=hcl
      by_cases h0:c=0
      ·subst h0
       by_cases hl:60<(b++(t::r).drop e).length
       ·rw [Zds hg hf hc hl];exact Nat.le_succ_of_le hcl'
       ·rw [ZdZ hg hf hc hl];have:=ihn (b++(t::r).drop e) l out;omega
      ·rw [ZbX hg hf hc h0];exact Nat.le_succ_of_le hcl'
def OutAt (s:ByteArray) (k:Nat) (out:ByteArray):Prop:=out++outTo s k=outTo s 1/\tClose s k=some s.size/\1<=k/\out.size<=k
theorem OutAt.byte {s:ByteArray} {k:Nat} {out:ByteArray} (h:OutAt s k out) (hk:k+1<s.size) (hc:¬ s[k].toNat=92):OutAt s (k+1) (out++s.extract k (k+1)):=by
 obtain⟨h1,h2,h3,h4⟩:=h
 by_cases hq:s[k].toNat=34
 ·rw [Za8 (by omega) hq,Qi] at h2;omega
 rw [Zbf (by omega) hq hc] at h2
 refine ⟨?_,h2,by omega,by rw [ByteArray.size_append,ByteArray.size_extract];omega⟩
 rw [← h1,ZhK hk hc,ByteArray.append_assoc]
theorem OutAt.done {s:ByteArray} {k:Nat} {out:ByteArray} (h:OutAt s k out) (hk:s.size<=k+1):out=outTo s 1:=by
 rw [← h.1,Zi0 hk];exact ByteArray.append_empty.symm
end Go.Proofs.YtiaiggjfepoahaaGreat
