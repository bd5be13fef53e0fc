/- Texts that the proof of P stands on, in one file. -/
import Derived.Test.YtiaiggjfepoahaaGreatZP12
set_option linter.unusedVariables false
set_option maxHeartbeats 16000000
set_option maxRecDepth 100000
set_option linter.unusedSimpArgs false
/- Texts of tokens: no program. -/
namespace Go.Proofs.YtiaiggjfepoahaaGreat
open Go.RowKit
def bs (s:ByteArray):List UInt8:=s.data.toList
theorem ZdR (s:ByteArray):(bs s).length=s.size:=rfl
theorem Zb3 (a b:ByteArray):bs (a++b)=bs a++bs b:=by simp [bs]
theorem bs_ext {a b:ByteArray} (h:bs a=bs b):a=b:=ByteArray.ext (Array.ext' h)
theorem ZkQ {s:ByteArray} {k:Nat} (h:k<s.size):(bs s)[k]'(by rw [ZdR];exact h)=s[k]:=by simp [bs,ByteArray.getElem_eq_getElem_data]
theorem bs_at {s:ByteArray} {k:Nat} {c:UInt8} {r:List UInt8} (h:(bs s).drop k=c::r):∃ hk:k<s.size,s[k]=c/\(bs s).drop (k+1)=r:=by
 have hk:k<s.size:=by
  apply Nat.lt_of_not_le;intro hn
  rw [List.drop_eq_nil_of_le (by rw [ZdR];exact hn)] at h
  exact absurd h (by simp)
 rw [List.drop_eq_getElem_cons (by rw [ZdR];exact hk),List.cons.injEq,ZkQ hk] at h
 exact⟨hk,h⟩
theorem Zep {s:ByteArray} {k:Nat} (h:k<s.size):s.extract k (k+1)=⟨#[s[k]]⟩:=by
 have hz:(s.extract k (k+1)).size=1:=by rw [ByteArray.size_extract];omega
 refine Ziv (by rw [hz];rfl) λ j hj=>?_
 obtain rfl:j=0:=by omega
 rw [ZeZ (by omega) (by omega),Nat.add_zero,ZaT h];rfl
inductive Esc:List UInt8->List UInt8->Prop
 | nil:Esc [] []
 | back (c:UInt8) {a b:List UInt8}:Esc a b->Esc (92::c::a) (c::b)
 | byte {c:UInt8} {a b:List UInt8}:c.toNat≠34->c.toNat≠92->Esc a b->Esc (c::a) (c::b)
theorem Esc.app {a b c d:List UInt8} (h:Esc a b) (h2:Esc c d):Esc (a++c) (b++d):=by
 induction h with
 | nil=>exact h2
 | back c _ ih=>exact .back c ih
 | byte h1 h3 _ ih=>exact .byte h1 h3 ih
theorem Esc.plain {a:List UInt8} (h:∀ c∈a,c.toNat≠34/\c.toNat≠92):Esc a a:=by
 induction a with
 | nil=>exact .nil
 | cons c a ih=>exact .byte (h c (by simp)).1 (h c (by simp)).2 (ih λ d hd=>h d (by simp [hd]))
def outTo (s:ByteArray) (k:Nat):ByteArray:=
 if h:k+1<s.size then (if s[k].toNat=92 then s.extract (k+1) (k+2)++outTo s (k+2) else s.extract k (k+1)++outTo s (k+1)) else ⟨#[]⟩
termination_by s.size-k
theorem ZmS {s:ByteArray} {k:Nat} (h:k+1<s.size) (hc:s[k].toNat=92):outTo s k=s.extract (k+1) (k+2)++outTo s (k+2):=by rw [outTo,dif_pos h,if_pos hc]
theorem Zh4 {s:ByteArray} {k:Nat} (h:k+1<s.size) (hc:¬ s[k].toNat=92):outTo s k=s.extract k (k+1)++outTo s (k+1):=by rw [outTo,dif_pos h,if_neg hc]
theorem Zjy {s:ByteArray} {k:Nat} (h:s.size<=k+1):outTo s k=⟨#[]⟩:=by rw [outTo,dif_neg (by omega)]
theorem esc_scan {a b:List UInt8} (h:Esc a b):∀ {s:ByteArray} {k:Nat},(bs s).drop k=a++[34]->tClose s k=some s.size/\bs (outTo s k)=b:=by
 induction h with
 |
  nil =>
  intro s k hd
  obtain⟨hk,hc,hr⟩:=bs_at hd
  have hz:s.size<=k+1:=by rw [List.drop_eq_nil_iff,ZdR] at hr;exact hr
  refine ⟨?_,by rw [Zjy hz];rfl⟩
  rw [Za7 hk (by rw [hc];rfl)];congr 1;omega
 |
  @back c a b _ ih =>
  intro s k hd
  obtain⟨hk,hc,hr⟩:=bs_at hd
  obtain⟨hk1,hc1,hr1⟩:=bs_at hr
  obtain⟨i1,i2⟩:=ih hr1
  refine ⟨?_,?_⟩
  ·rw [Zbx hk (by rw [hc];rfl)];exact i1
  ·rw [ZmS hk1 (by rw [hc];rfl),Zb3,i2,Zep hk1,hc1];rfl
 |
  @byte c a b h1 h2 _ ih =>
  intro s k hd
  obtain⟨hk,hc,hr⟩:=bs_at hd
  obtain⟨i1,i2⟩:=ih hr
  have hk1:k+1<s.size:=by
   have:=congrArg List.length hr
   rw [List.length_drop,ZdR] at this
   simp at this;omega
  refine ⟨?_,?_⟩
  ·rw [Zbi hk (by rw [hc];exact h1) (by rw [hc];exact h2)];exact i1
  ·rw [Zh4 hk1 (by rw [hc];exact h2),Zb3,i2,Zep hk,hc];rfl
def isQ (c:UInt8):Bool:=decide (c.toNat=34) || decide (c.toNat=92)
def escTo (s:ByteArray):Nat->ByteArray
 | 0=>⟨#[]⟩
 | k+1=>if h:k<s.size then (if isQ s[k]=true then escTo s k++⟨#[92]⟩ else escTo s k)++s.extract k (k+1) else escTo s k
theorem Zdv {s:ByteArray} {k:Nat} (h:k<s.size) (hc:isQ s[k]=true):escTo s (k+1)=escTo s k++⟨#[92]⟩++s.extract k (k+1):=by rw [escTo,dif_pos h,if_pos hc]
theorem Ze8 {s:ByteArray} {k:Nat} (h:k<s.size) (hc:isQ s[k]=false):escTo s (k+1)=escTo s k++s.extract k (k+1):=by rw [escTo,dif_pos h,if_neg (by simp [hc])]
theorem Zjz (s:ByteArray):∀ k,k<=s.size->Esc (bs (escTo s k)) ((bs s).take k)
 | 0,_=>by rw [List.take_zero];exact .nil
 |
  k+1,hk=>by
  have ih:=Zjz s k (by omega)
  have hk':k<s.size:=by omega
  rw [List.take_succ_eq_append_getElem (by rw [ZdR];exact hk'),ZkQ hk']
  cases hc:isQ s[k]
  ·rw [Ze8 hk' hc,Zb3,Zep hk']
   unfold isQ at hc
   simp only [Bool.or_eq_false_iff,decide_eq_false_iff_not] at hc
   exact ih.app (.byte hc.1 hc.2 .nil)
  ·rw [Zdv hk' hc,Zb3,Zb3,Zep hk',List.append_assoc]
   exact ih.app (.back _ .nil)
theorem Zc9 (s:ByteArray):∀ k,(escTo s k).size<=2 * k
 | 0=>by show (0:Nat)<=_;omega
 |
  k+1=>by
  have ih:=Zc9 s k
  by_cases hk:k<s.size
  ·have h1:(⟨#[92]⟩:ByteArray).size=1:=rfl
   cases hc:isQ s[k]
   ·rw [Ze8 hk hc,ByteArray.size_append,ByteArray.size_extract];omega
   ·rw [Zdv hk hc,ByteArray.size_append,ByteArray.size_append,ByteArray.size_extract];omega
  ·rw [escTo,dif_neg hk];omega
theorem Zgc {c:UInt8} (h:ZcW c=true):AllOk ⟨#[c]⟩:=λ j d hd=>by
 obtain⟨hj,rfl⟩:=Za1 hd
 obtain rfl:j=0:=by have:j<1:=hj;omega
 exact h
theorem ZkR {s:ByteArray} (h:AllOk s):∀ k,k<=s.size->AllOk (escTo s k)
 | 0,_=>λ j c hc=>by obtain⟨hj,_⟩:=Za1 hc;exact absurd hj (by show ¬ j<0;omega)
 |
  k+1,hk=>by
  have ih:=ZkR h k (by omega)
  have hk':k<s.size:=by omega
  have hx:AllOk (s.extract k (k+1)):=by rw [Zep hk'];exact Zgc (h k _ (ZaT hk'))
  cases hc:isQ s[k]
  ·rw [Ze8 hk' hc];exact ih.app hx
  ·rw [Zdv hk' hc];exact(ih.app (Zgc (by decide))).app hx
def bit (t:Tok):ByteArray:=if t.kind=3 then escTo t.text t.text.size else t.text
def Zax (l:List Tok):Nat->ByteArray
 | 0=>⟨#[]⟩
 | k+1=>if h:k<l.length then (if 0<k/\l[k].spaced=true then Zax l k++⟨#[32]⟩ else Zax l k)++bit l[k] else Zax l k
def rawTo (l:List Tok):Nat->ByteArray
 | 0=>⟨#[]⟩
 | k+1=>if h:k<l.length then (if 0<k/\l[k].spaced=true then rawTo l k++⟨#[32]⟩ else rawTo l k)++l[k].text else rawTo l k
theorem ZcS {l:List Tok} {k:Nat} (hk:k<l.length) (h0:0<k) (h:l[k].spaced=true):Zax l (k+1)=Zax l k++⟨#[32]⟩++bit l[k]:=by rw [Zax,dif_pos hk,if_pos ⟨h0,h⟩]
theorem Zb6 {l:List Tok} {k:Nat} (hk:k<l.length) (h:¬ (0<k/\l[k].spaced=true)):Zax l (k+1)=Zax l k++bit l[k]:=by rw [Zax,dif_pos hk,if_neg h]
theorem rawTo_sp {l:List Tok} {k:Nat} (hk:k<l.length) (h0:0<k) (h:l[k].spaced=true):rawTo l (k+1)=rawTo l k++⟨#[32]⟩++l[k].text:=by rw [rawTo,dif_pos hk,if_pos ⟨h0,h⟩]
theorem rawTo_no {l:List Tok} {k:Nat} (hk:k<l.length) (h:¬ (0<k/\l[k].spaced=true)):rawTo l (k+1)=rawTo l k++l[k].text:=by rw [rawTo,dif_pos hk,if_neg h]
theorem ZmT {s:ByteArray} (d:Nat):∀ k,wEnd s k=k+d->∀ j,(h:j<s.size)->k<=j->j<k+d->Zal s[j]=true:=by
 induction d with
 | zero=>intro k _ j _ h1 h2;omega
 |
  succ d ih =>
  intro k h j hj h1 h2
  have hk:k<s.size:=by omega
  have hw:Zal s[k]=true:=by
   cases hw:Zal s[k]
   ·rw [Zbw hk hw] at h;omega
   ·rfl
  by_cases e:j=k
  ·subst e;exact hw
  ·rw [Zbf hk hw] at h
   exact ih (k+1) (by omega) j hj (by omega) (by omega)
theorem ZmU {c:UInt8} (h:Zal c=true):c.toNat≠34/\c.toNat≠92:=by rw [Zff] at h;omega
theorem ZlJ {c:UInt8} (h:c∈marks1):c.toNat≠34/\c.toNat≠92:=by
 have:∀ d∈marks1,d.toNat≠34/\d.toNat≠92:=by decide
 exact this c h
theorem ZnE {s:ByteArray} {k:Nat} (h:twoAt s k=true):∀ j,(hj:j<s.size)->k<=j->j<k+2->s[j].toNat≠34/\s[j].toNat≠92:=by
 intro j hj h1 h2
 unfold twoAt at h
 simp only [Ziw,Bool.or_eq_true,Bool.and_eq_true,decide_eq_true_eq] at h
 by_cases e:j=k
 ·subst e
  rw [ZaT hj] at h
  simp only [Qi] at h
  rcases h with(((((h | h) | h) | h) | h) | h) | h <;> (rw [h.1];decide)
 ·obtain rfl:j=k+1:=by omega
  rw [ZaT hj] at h
  simp only [Qi] at h
  rcases h with(((((h | h) | h) | h) | h) | h) | h <;> (rw [h.2];decide)
theorem ZnF {t:Tok} (h:tokOk t=true) (h3:t.kind≠3):∀ c∈bs t.text,c.toNat≠34/\c.toNat≠92:=by
 obtain⟨h0,_,hc,_⟩:=ZbM h
 obtain⟨⟨_,hk⟩,_⟩:=Zaz h
 intro c hm
 obtain⟨j,hj,rfl⟩:=List.getElem_of_mem hm
 rw [ZdR] at hj
 rw [ZkQ hj]
 cases hw:Zal t.text[0]
 ·by_cases hq:t.text[0].toNat=34
  ·refine absurd ?_ h3
   rw [hk]
   unfold Zal at hw
   rw [Bool.or_eq_false_iff] at hw
   unfold cutKind
   rw [hw.1,hw.2,if_neg (by simp),if_neg (by simp),if_pos hq]
  ·rw [ZbU h0 hw hq] at hc
   split at hc
   ·omega
   ·rename_i hm0
    have hms:mLen t.text 0=t.text.size:=by omega
    unfold mLen at hms
    split at hms
    ·rename_i ht
     exact ZnE ht j hj (by omega) (by omega)
    ·skip
     split at hms
     ·rename_i hin
      obtain rfl:j=0:=by omega
      exact ZlJ hin
     ·omega
 ·rw [Zby h0 hw] at hc
  split at hc
  ·omega
  ·exact ZmU (ZmT (t.text.size) 0 (by omega) j hj (by omega) (by omega))
theorem tok_esc {t:Tok} (h:tokOk t=true):Esc (bs (bit t)) (bs t.text):=by
 unfold bit
 split
 ·have:=Zjz t.text t.text.size (Nat.le_refl _)
  rwa [List.take_of_length_le (by rw [ZdR];exact Nat.le_refl _)] at this
 ·rename_i h3;exact .plain (ZnF h h3)
theorem ZnG:Esc (bs ⟨#[32]⟩) (bs ⟨#[32]⟩):=.plain (by
                                intro c hc;have:c=32:=by simpa [bs] using hc
                                subst this;decide)
theorem ZkS {l:List Tok} (h:Zaj l=true):∀ k,k<=l.length->Esc (bs (Zax l k)) (bs (rawTo l k))
 | 0,_=>.nil
 |
  k+1,hk=>by
  have ih:=ZkS h k (by omega)
  have hk':k<l.length:=by omega
  have ht:=tok_esc ((Zam h).2 k hk')
  by_cases hs:0<k/\l[k].spaced=true
  ·rw [ZcS hk' hs.1 hs.2,rawTo_sp hk' hs.1 hs.2,Zb3,Zb3,Zb3,Zb3]
   exact(ih.app ZnG).app ht
  ·rw [Zb6 hk' hs,rawTo_no hk' hs,Zb3,Zb3]
   exact ih.app ht
theorem ZkT (t:Tok):(bit t).size<=2 * t.text.size:=by
 unfold bit;split
 ·exact Zc9 _ _
 ·omega
theorem ZdK {l:List Tok} (h:Zaj l=true):∀ k,k<=l.length->(Zax l k).size<=401 * k
 | 0,_=>by show (0:Nat)<=_;omega
 |
  k+1,hk=>by
  have ih:=ZdK h k (by omega)
  have hk':k<l.length:=by omega
  have h2:=(Zaz ((Zam h).2 k hk')).2
  have h3:=ZkT l[k]
  have h1:(⟨#[32]⟩:ByteArray).size=1:=rfl
  by_cases hs:0<k/\l[k].spaced=true
  ·rw [ZcS hk' hs.1 hs.2,ByteArray.size_append,ByteArray.size_append];omega
  ·rw [Zb6 hk' hs,ByteArray.size_append];omega
theorem bit_ok {t:Tok} (h:tokOk t=true):AllOk (bit t):=by
 have hx:=AllOk.of (ZbM h).2.2.2
 unfold bit;split
 ·exact ZkR hx _ (Nat.le_refl _)
 ·exact hx
theorem Zmd {l:List Tok} (h:Zaj l=true):∀ k,k<=l.length->AllOk (Zax l k)
 | 0,_=>λ j c hc=>by obtain⟨hj,_⟩:=Za1 hc;exact absurd hj (by show ¬ j<0;omega)
 |
  k+1,hk=>by
  have ih:=Zmd h k (by omega)
  have hk':k<l.length:=by omega
  have hx:=bit_ok ((Zam h).2 k hk')
  by_cases hs:0<k/\l[k].spaced=true
  ·rw [ZcS hk' hs.1 hs.2];exact(ih.app (Zgc (by decide))).app hx
  ·rw [Zb6 hk' hs];exact ih.app hx
def quoted (x:ByteArray):ByteArray:=⟨#[34]⟩++x++⟨#[34]⟩
theorem ZeS (x:ByteArray):(quoted x).size=x.size+2:=by
 have h1:(⟨#[34]⟩:ByteArray).size=1:=rfl
 unfold quoted;rw [ByteArray.size_append,ByteArray.size_append];omega
theorem ZnH (x:ByteArray):bs (quoted x)=34::(bs x++[34]):=by unfold quoted;rw [Zb3,Zb3];rfl
def zTok:Tok:=⟨0,⟨#[]⟩,false,[]⟩
def ZaN (l:List Tok):Tok × Bool:=if Zaj l=true then (if 200<(quoted (Zax l l.length)).size then (zTok,false) else (⟨3,quoted (Zax l l.length),false,[]⟩,true)) else (zTok,false)
theorem ZjA {l:List Tok} (h:Zaj l=false):ZaN l=(zTok,false):=by unfold ZaN;rw [if_neg (by simp [h])]
theorem ZgW {l:List Tok} {k:Nat} (h:Zaj l=true) (hk:l.length=k) (h2:200<(quoted (Zax l k)).size):ZaN l=(zTok,false):=by unfold ZaN;rw [if_pos h,hk,if_pos h2]
theorem Zh5 {l:List Tok} {k:Nat} (h:Zaj l=true) (hk:l.length=k) (h2:¬ 200<(quoted (Zax l k)).size):ZaN l=(⟨3,quoted (Zax l k),false,[]⟩,true):=by unfold ZaN;rw [if_pos h,hk,if_neg h2]
def Zhl (t:Tok):ByteArray × Bool:=if tokOk t=true/\t.kind=3 then (outTo t.text 1,true) else (⟨#[]⟩,false)
theorem ZkU {t:Tok} (h:tokOk t=true) (h3:t.kind=3):Zhl t=(outTo t.text 1,true):=by unfold Zhl;rw [if_pos ⟨h,h3⟩]
theorem ZlK {l:List Tok} {t:Tok} (h:ZaN l=(t,true)):Zaj l=true/\(quoted (Zax l l.length)).size<=200/\t=⟨3,quoted (Zax l l.length),false,[]⟩:=by
 unfold ZaN at h
 split at h
 ·rename_i hv
  split at h
  ·simp at h
  ·simp at h;exact⟨hv,by omega,h.symm⟩
 ·simp at h
theorem txt_back {l:List Tok} {t:Tok} (h:ZaN l=(t,true)):tokOk t=true/\Zhl t=(rawTo l l.length,true):=by
 obtain⟨hv,hz,rfl⟩:=ZlK h
 have hE:=ZkS hv l.length (Nat.le_refl _)
 generalize hJ:Zax l l.length=J at hE hz
 have hb:=ZnH J
 obtain⟨hc,ho⟩:=esc_scan hE (s:=quoted J) (k:=1) (by rw [hb];rfl)
 have h0:0<(quoted J).size:=by rw [ZeS];omega
 obtain⟨_,hq,_⟩:=bs_at (s:=quoted J) (k:=0) hb
 have hw:Zal (quoted J)[0]=false:=by rw [hq];decide
 have hq':(quoted J)[0].toNat=34:=by rw [hq];rfl
 have hcut:Zav (quoted J) 0=((quoted J).size:Nat):=by rw [ZbT h0 hw hq',hc]
 have hl:ZaC (quoted J)=true:=by
  refine AllOk.line ?_ hz
  unfold quoted
  exact((Zgc (by decide)).app (by rw [← hJ];exact Zmd hv _ (Nat.le_refl _))).app (Zgc (by decide))
 have ht:=Zix hl h0 (by omega) hcut false
 have hx:(quoted J).extract 0 (quoted J).size=quoted J:=ByteArray.extract_zero_size
 have hk:cutKind (quoted J)[0]=3:=by rw [hq];decide
 rw [hx,hk] at ht
 refine ⟨ht,?_⟩
 rw [ZkU ht rfl]
 congr 1
 exact bs_ext ho
/-! ### Lists of names -/
def Up (l:List ByteArray):Prop:=l.Pairwise λ a b=>sLess a b=true
theorem ZdS {l:List ByteArray} (h:hidOk l=true):l.length<=60/\∀ i,i<l.length->ZaO l i=true:=by
 unfold hidOk at h
 rw [Bool.and_eq_true,decide_eq_true_eq,List.all_eq_true] at h
 exact⟨h.1,λ i hi=>h.2 i (by simpa using hi)⟩
theorem ZkV {l:List ByteArray} (h:hidOk l=true) {i:Nat} (hi:i+1<l.length):sLess (l[i]'(by omega)) l[i+1]=true:=by
 have:=(ZdS h).2 (i+1) hi
 unfold ZaO at this
 rw [dif_pos hi,Bool.and_eq_true,Bool.or_eq_true,decide_eq_true_eq] at this
 rcases this.2 with h0 | h0
 ·omega
 ·exact h0
theorem Zme {l:List ByteArray} (h:hidOk l=true):∀ d i:Nat,(hj:i+d+1<l.length)->sLess (l[i]'(by omega)) (l[i+d+1]'hj)=true
 | 0,i,hj=>ZkV h hj
 | d+1,i,hj=>ZcG (Zme h d i (by omega)) (ZkV h hj)
theorem ZcT {l:List ByteArray} (h:hidOk l=true):l.length<=60/\(∀ x∈l,Zak x 1=true)/\Up l:=by
 refine ⟨(ZdS h).1,λ x hx=>?_,?_⟩
 ·obtain⟨i,hi,rfl⟩:=List.getElem_of_mem hx
  have:=(ZdS h).2 i hi
  unfold ZaO at this
  rw [dif_pos hi,Bool.and_eq_true] at this
  exact this.1
 ·unfold Up
  rw [List.pairwise_iff_getElem]
  intro i j hi hj hij
  have:=Zme h (j-i-1) i (by omega)
  have e:i+(j-i-1)+1=j:=by omega
  simpa only [e] using this
theorem asc_hid {l:List ByteArray} (h1:l.length<=60) (h2:∀ x∈l,Zak x 1=true) (h3:Up l):hidOk l=true:=by
 refine ZfY (k:=l.length) (λ j hj=>?_) (Nat.le_refl _) h1
 unfold ZaO
 rw [dif_pos hj,h2 _ (List.getElem_mem hj),Bool.true_and,Bool.or_eq_true,decide_eq_true_eq]
 by_cases h0:j=0
 ·exact .inl h0
 ·unfold Up at h3
  rw [List.pairwise_iff_getElem] at h3
  exact .inr (h3 (j-1) j (by omega) hj (by omega))
theorem ZmV {l:List ByteArray} (h:hidOk l=true) (p:ByteArray->Bool):hidOk (l.filter p)=true:=by
 obtain⟨h1,h2,h3⟩:=ZcT h
 exact asc_hid (Nat.le_trans (List.length_filter_le _ _) h1) (λ x hx=>h2 x (List.mem_filter.1 hx).1) (List.Pairwise.filter _ h3)
def hasN (l:List ByteArray) (s:ByteArray):Bool:=l.any λ x=>x.toList==s.toList
theorem ZkW {l:List ByteArray} {s:ByteArray} {k:Nat} (hk:k<l.length) (h:(l[k].toList==s.toList)=true):hasN l s=true:=by
 unfold hasN;rw [List.any_eq_true];exact⟨_,List.getElem_mem hk,h⟩
theorem Zmf {l:List ByteArray} {s:ByteArray} (h:∀ j,(hj:j<l.length)->(l[j].toList==s.toList)=false):hasN l s=false:=by
 unfold hasN;rw [List.any_eq_false]
 intro x hx
 obtain⟨j,hj,rfl⟩:=List.getElem_of_mem hx
 rw [h j hj];simp
def both (a b:List ByteArray):List ByteArray:=a.filter (hasN b)
theorem ZkX {a b:List ByteArray} {k:Nat} (hk:k<a.length) (h:hasN b a[k]=true):both (a.take (k+1)) b=both (a.take k) b++[a[k]]:=by
 unfold both
 rw [List.take_succ_eq_append_getElem hk,List.filter_append,List.filter_cons_of_pos h];rfl
theorem Zmg {a b:List ByteArray} {k:Nat} (hk:k<a.length) (h:hasN b a[k]=false):both (a.take (k+1)) b=both (a.take k) b:=by
 unfold both
 rw [List.take_succ_eq_append_getElem hk,List.filter_append,List.filter_cons_of_neg (by simp [h])];simp
theorem ZkY {a b:List ByteArray} {k:Nat} (hk:a.length<=k):both (a.take k) b=both a b:=by rw [List.take_of_length_le hk]
theorem Zft (a b:List ByteArray):(both a b).length<=a.length:=List.length_filter_le _ _
def ins:List ByteArray->ByteArray->List ByteArray
 | [],n=>[n]
 | x::r,n=>if sLess x n=true then x::ins r n else if (x.toList==n.toList)=true then x::r else n::x::r
theorem Zfu (n:ByteArray):∀ l,(ins l n).length<=l.length+1
 | []=>by simp [ins]
 |
  x::r=>by
  unfold ins
  have:=Zfu n r
  split
  ·simp;omega
  ·split <;> simp
theorem Zh6 (n:ByteArray):∀ (l:List ByteArray) (k:Nat),k<=l.length->(∀ j,(hj:j<l.length)->j<k->sLess l[j] n=true)->(∀ h:k<l.length,sLess l[k] n=false/\(l[k].toList==n.toList)=false)->ins l n=l.take k++n::l.drop k
 | [],k,hk,_,_=>by simp [ins]
 |
  x::r,0,_,_,h=>by
  obtain⟨h1,h2⟩:=h (by simp)
  simp only [List.getElem_cons_zero] at h1 h2
  rw [ins,if_neg (by simp [h1]),if_neg (by simp [h2])];rfl
 |
  x::r,k+1,hk,ha,h=>by
  have h0:=ha 0 (by simp) (by omega)
  simp only [List.getElem_cons_zero] at h0
  rw [ins,if_pos h0,Zh6 n r k (by simpa using hk) (λ j hj hjk=>by have:=ha (j+1) (by simpa using hj) (by omega);simpa using this) (λ hh=>by have:=h (by simpa using hh);simpa using this)]
  rfl
theorem ZkZ (n:ByteArray):∀ (l:List ByteArray) (k:Nat),(hk:k<l.length)->(∀ j,(hj:j<l.length)->j<k->sLess l[j] n=true)->(l[k].toList==n.toList)=true->ins l n=l
 |
  x::r,0,_,_,h=>by
  simp only [List.getElem_cons_zero] at h
  have e:=Zcz h
  rw [ins,if_neg (by rw [e,Zc3];simp),if_pos h]
 |
  x::r,k+1,hk,ha,h=>by
  have h0:=ha 0 (by simp) (by omega)
  simp only [List.getElem_cons_zero] at h0
  rw [ins,if_pos h0,ZkZ n r k (by simpa using hk) (λ j hj hjk=>by have:=ha (j+1) (by simpa using hj) (by omega);simpa using this) (by simpa using h)]
/-! ### Pasting -/
theorem ZmW (s:ByteArray) (k:Nat):∀ j,(h:j<s.size)->k<=j->j<wEnd s k->Zal s[j]=true:=by
 induction k using wEnd.induct (s:=s) with
 |
  case1 k h hc ih =>
  intro j hj hkj hje
  rw [Zbf h hc] at hje
  by_cases e:j=k
  ·subst e;exact hc
  ·exact ih j hj (by omega) hje
 | case2 k h hc=>intro j hj hkj hje;rw [Zbw h (by simpa using hc)] at hje;omega
 | case3 k h=>intro j hj hkj hje;rw [Zcm (by omega)] at hje;omega
theorem ZlL:∀ c∈marks1,c.toNat≠32:=by decide
theorem ZnI {s:ByteArray} {k:Nat} {a b:UInt8} (h:two s k a b=true):s[k+1]'(Zd9 h)=b:=by
 have hr:=Zd9 h
 unfold two at h
 rw [List.isPrefixOf_iff_prefix] at h
 obtain⟨t,ht⟩:=h
 have h1:(s.data.toList.drop k)[1]?=some b:=by rw [← ht];rfl
 rw [List.getElem?_drop] at h1
 have h2:s.data.toList[k+1]?=some s[k+1]:=by
  rw [List.getElem?_eq_getElem (by simpa using hr)];simp [ByteArray.getElem_eq_getElem_data]
 rw [h2] at h1
 simpa using h1
theorem ZmX {s:ByteArray} {k:Nat} (h:twoAt s k=true):∃ hk:k+1<s.size,s[k+1].toNat≠32:=by
 have hk:=Zfh h
 refine ⟨hk,?_⟩
 unfold twoAt at h
 simp only [Bool.or_eq_true] at h
 rcases h with(((((h | h) | h) | h) | h) | h) | h <;> (rw [ZnI h];decide)
theorem ZmY {s:ByteArray} {k:Nat} (hk:k<s.size) (h:Zav s k=s.size):(s[s.size-1]'(by omega)).toNat≠32:=by
 cases hw:Zal s[k]
 ·by_cases hq:s[k].toNat=34
  ·rw [ZbT hk hw hq] at h
   cases hc:tClose s (k+1) with
   | none=>rw [hc] at h;simp only at h;omega
   |
    some e =>
    rw [hc] at h
    simp only at h
    obtain⟨_,_,_,h1,h2⟩:=ZaX hc
    have e1:e=s.size:=by omega
    subst e1
    omega
  ·rw [ZbU hk hw hq] at h
   split at h
   ·omega
   ·rename_i h0
    cases ht:twoAt s k
    ·by_cases hm:s[k]∈marks1
     ·rw [Zg5 ht hk hm] at h
      have e:k=s.size-1:=by omega
      subst e
      exact ZlL _ hm
     ·exact absurd (ZfZ ht hk hm) h0
    ·obtain⟨h1,h2⟩:=ZmX ht
     have e2:mLen s k=2:=by unfold mLen;rw [if_pos ht]
     rw [e2] at h
     have e:k+1=s.size-1:=by omega
     intro hh
     apply h2
     have:s[k+1]=s[s.size-1]'(by omega):=by congr 1
     rw [this];exact hh
 ·rw [Zby hk hw] at h
  split at h
  ·omega
  ·have:=ZmW s k (s.size-1) (by omega) (by omega) (by omega)
   rw [Zff] at this
   omega
theorem ZnJ (s:ByteArray):∀ (k:Nat) (sp:Bool) (n:Nat),toks s k sp n=some []->∀ j,(h:j<s.size)->k<=j->s[j].toNat=32:=by
 intro k sp n
 induction k,sp,n using toks.induct (s:=s) with
 |
  case1 k sp n hk h32 ih =>
  intro h j hj hkj
  rw [toks,dif_pos hk,if_pos h32] at h
  by_cases e:j=k
  ·subst e;exact h32
  ·exact ih h j hj (by omega)
 |
  case2 k sp n hk h32 hb =>
  intro h
  rw [toks,dif_pos hk,if_neg h32,if_pos hb] at h
  exact absurd h (by simp)
 |
  case3 k sp n hk h32 hb ih =>
  intro h
  rw [toks,dif_pos hk,if_neg h32,if_neg hb,Option.map_eq_some_iff] at h
  obtain⟨l',_,h2⟩:=h
  exact absurd h2 (by simp)
 | case4 k sp n hk=>intro h j hj hkj;omega
theorem ZnK {s:ByteArray} {t:Tok} (h:Zai s=([t],true)) (h0:0<s.size) (hf:¬ s[0].toNat=32) (hl:¬ (s[s.size-1]'(by omega)).toNat=32):t=⟨cutKind s[0],s,false,[]⟩/\tokOk t=true:=by
 obtain⟨h1,h2⟩:=Za5 h
 rw [toks,dif_pos h0,if_neg hf] at h1
 split at h1
 ·exact absurd h1 (by simp)
 ·rename_i hb
  rw [Option.map_eq_some_iff] at h1
  obtain⟨l',h3,h4⟩:=h1
  simp only [List.cons.injEq] at h4
  obtain⟨h4,rfl⟩:=h4
  have hr:=ZaY (s:=s) (k:=0) (by omega)
  have hc:Zav s 0=(s.size:Nat):=by
   by_cases e:Zav s 0=(s.size:Nat)
   ·exact e
   ·exact absurd (ZnJ s _ _ _ h3 (s.size-1) (by omega) (by omega)) hl
  have hv:=Zix h2 h0 hf hc false
  have hx:s.extract 0 s.size=s:=ByteArray.extract_zero_size
  have hx2:s.extract 0 (Zav s 0).toNat=s:=by rw [hc];exact hx
  rw [hx] at hv
  rw [hx2] at h4
  subst h4
  exact⟨rfl,hv⟩
theorem Zk0 {t:Tok} (h:tokOk t=true):∃ h0:0<t.text.size,t.text[0].toNat≠32/\(t.text[t.text.size-1]'(by omega)).toNat≠32/\t.kind=cutKind t.text[0]:=by
 obtain⟨h0,h1,h2,_⟩:=ZbM h
 obtain⟨⟨_,hk⟩,_⟩:=Zaz h
 exact⟨h0,h1,ZmY h0 h2,hk⟩
def Zas (a b:Tok):Tok × Bool:=
 if tokOk a=true/\tokOk b=true then
  (
  match Zai (a.text++b.text) with
  | ([t],true)=>(⟨t.kind,t.text,a.spaced,both a.hidden b.hidden⟩,true)
  | _=>(zTok,false))
 else (zTok,false)
theorem ZjB {a b:Tok} (h:tokOk a=false):Zas a b=(zTok,false):=by unfold Zas;rw [if_neg (by simp [h])]
theorem ZjC {a b:Tok} (h:tokOk b=false):Zas a b=(zTok,false):=by unfold Zas;rw [if_neg (by simp [h])]
theorem ZjD {a b:Tok} {l:List Tok} (h:Zai (a.text++b.text)=(l,false)):Zas a b=(zTok,false):=by
 unfold Zas;rw [h];split
 ·split
  ·rename_i e;simp at e
  ·rfl
 ·rfl
theorem ZjE {a b:Tok} {l:List Tok} {o:Bool} (h:Zai (a.text++b.text)=(l,o)) (hl:l.length≠1):Zas a b=(zTok,false):=by
 unfold Zas;rw [h];split
 ·split
  ·rename_i e;simp only [Prod.mk.injEq] at e;rw [e.1] at hl;exact absurd rfl hl
  ·rfl
 ·rfl
theorem ZjF {a b t:Tok} (ha:tokOk a=true) (hb:tokOk b=true) (h:Zai (a.text++b.text)=([t],true)):Zas a b=(⟨t.kind,t.text,a.spaced,both a.hidden b.hidden⟩,true):=by
 unfold Zas;rw [if_pos ⟨ha,hb⟩,h]
theorem Zh7 {a b u:Tok} (h:Zas a b=(u,true)):tokOk a=true/\tokOk b=true/\∃ t,Zai (a.text++b.text)=([t],true)/\u=⟨t.kind,t.text,a.spaced,both a.hidden b.hidden⟩:=by
 unfold Zas at h
 split at h
 ·rename_i hv
  split at h
  ·rename_i t e;simp only [Prod.mk.injEq,and_true] at h;exact⟨hv.1,hv.2,t,e,h.symm⟩
  ·simp at h
 ·simp at h
theorem ZlM {a b u:Tok} (h:Zas a b=(u,false)):u=zTok:=by
 unfold Zas at h
 split at h
 ·split at h
  ·simp at h
  ·simp only [Prod.mk.injEq,and_true] at h;exact h.symm
 ·simp only [Prod.mk.injEq,and_true] at h;exact h.symm
theorem ZnL {a b:Tok} (ha:tokOk a=true) (hb:tokOk b=true):∃ h0:0<(a.text++b.text).size,(a.text++b.text)[0].toNat≠32/\((a.text++b.text)[(a.text++b.text).size-1]'(by omega)).toNat≠32/\a.kind=cutKind (a.text++b.text)[0]:=by
 obtain⟨a0,a1,_,ak⟩:=Zk0 ha
 obtain⟨b0,_,b2,_⟩:=Zk0 hb
 have hz:(a.text++b.text).size=a.text.size+b.text.size:=ByteArray.size_append
 have h0:0<(a.text++b.text).size:=by omega
 have e0:(a.text++b.text)[0]=a.text[0]:=ByteArray.getElem_append_left a0
 have e1:(a.text++b.text)[(a.text++b.text).size-1]'(by omega)=b.text[b.text.size-1]'(by omega):=by
  rw [ByteArray.getElem_append_right (by omega)]
  congr 1;omega
 exact⟨h0,by rw [e0];exact a1,by rw [e1];exact b2,by rw [e0];exact ak⟩
theorem Zfv {a b u:Tok} (h:Zas a b=(u,true)):tokOk u=true/\u.text=a.text++b.text/\u.kind=a.kind/\u.spaced=a.spaced/\u.hidden=both a.hidden b.hidden/\u.hidden.length<=a.hidden.length:=by
 obtain⟨ha,hb,t,ht,rfl⟩:=Zh7 h
 obtain⟨h0,h1,h2,hk⟩:=ZnL ha hb
 obtain⟨rfl,hv⟩:=ZnK ht h0 h1 h2
 refine ⟨?_,rfl,hk.symm,rfl,rfl,Zft _ _⟩
 unfold tokOk at hv ha ⊢
 rw [Bool.and_eq_true] at hv ha ⊢
 exact⟨hv.1,ZmV ha.2 _⟩
/-! ### Hiding -/
def spc (b:Bool):List Tok->List Tok
 | []=>[]
 | t::r=>⟨t.kind,t.text,b,t.hidden⟩::r
theorem ZiR (b:Bool) (l:List Tok):(spc b l).length=l.length:=by cases l <;> rfl
def isM (t:Tok) (s:List UInt8):Bool:=decide (t.kind=4) && (t.text.toList==s)
def argAt (a:List (List Tok)) (n:Int):List Tok:=a.getD n.toNat []
theorem Zdw {a:List (List Tok)} {n:Int} {k:Nat} (h:n=k) (hk:k<a.length):argAt a n=a[k]:=by
 unfold argAt
 subst h
 simp [List.getD_eq_getElem?_getD,List.getElem?_eq_getElem hk]
def glueL (m:DMacro) (k:Nat):Bool:=if h:0<k/\k-1<m.body.length then isM m.body[k-1] [35,35] else false
def glueR (m:DMacro) (k:Nat):Bool:=if h:k+1<m.body.length then isM m.body[k+1] [35,35] else false
def ZaA (m:DMacro) (raw ready:List (List Tok)) (k:Nat):List Tok × Nat × Bool:=
 if h:k<m.body.length then
  (if m.function=true/\isM m.body[k] [35]=true then
   (if h2:k+1<m.body.length then
    ([⟨(ZaN (argAt raw (parOf m.params m.body[k+1]))).1.kind,(ZaN (argAt raw (parOf m.params m.body[k+1]))).1.text,m.body[k].spaced,(ZaN (argAt raw (parOf m.params m.body[k+1]))).1.hidden⟩],k+2,(ZaN (argAt raw (parOf m.params m.body[k+1]))).2)
   else ([],k+2,false))
  else if parOf m.params m.body[k]<0 then ([m.body[k]],k+1,true)
  else if (glueL m k || glueR m k)=true then (spc m.body[k].spaced (argAt raw (parOf m.params m.body[k])),k+1,true)
  else (spc m.body[k].spaced (argAt ready (parOf m.params m.body[k])),k+1,true))
 else ([],k+1,true)
section
variable {m:DMacro} {raw ready:List (List Tok)} {k:Nat}
theorem Zgd (hk:k+1<m.body.length) (h1:m.function=true) (h2:isM (m.body[k]'(by omega)) [35]=true) {u:Tok} {o:Bool} (h:ZaN (argAt raw (parOf m.params m.body[k+1]))=(u,o)) :
  ZaA m raw ready k=([⟨u.kind,u.text,(m.body[k]'(by omega)).spaced,u.hidden⟩],k+2,o):=by
 unfold ZaA;rw [dif_pos (by omega),if_pos ⟨h1,h2⟩,dif_pos hk,h]
theorem Zge (hk:k<m.body.length) (h1:¬ (m.function=true/\isM m.body[k] [35]=true)) (h2:parOf m.params m.body[k]<0):ZaA m raw ready k=([m.body[k]],k+1,true):=by
 unfold ZaA;rw [dif_pos hk,if_neg h1,if_pos h2]
theorem Zhm (hk:k<m.body.length) (h1:¬ (m.function=true/\isM m.body[k] [35]=true)) (h2:¬ parOf m.params m.body[k]<0) (h3:(glueL m k || glueR m k)=true):ZaA m raw ready k=(spc m.body[k].spaced (argAt raw (parOf m.params m.body[k])),k+1,true):=by
 unfold ZaA;rw [dif_pos hk,if_neg h1,if_neg h2,if_pos h3]
theorem Zfw (hk:k<m.body.length) (h1:¬ (m.function=true/\isM m.body[k] [35]=true)) (h2:¬ parOf m.params m.body[k]<0) (h3:(glueL m k || glueR m k)=false):ZaA m raw ready k=(spc m.body[k].spaced (argAt ready (parOf m.params m.body[k])),k+1,true):=by
 unfold ZaA;rw [dif_pos hk,if_neg h1,if_neg h2,if_neg (by simp [h3])]
theorem ZeC (m:DMacro) (raw ready:List (List Tok)) (k:Nat):k<(ZaA m raw ready k).2.1:=by
 unfold ZaA
 split
 ·split
  ·split <;> (show k<k+2;omega)
  ·split
   ·show k<k+1;omega
   ·split <;> (show k<k+1;omega)
 ·show k<k+1;omega
end
def subGo (m:DMacro) (raw ready:List (List Tok)) (k:Nat) (out:List Tok) (emp paste:Bool):List Tok × Bool:=
 if h:k<m.body.length then
  (
  if isM m.body[k] [35,35]=true/\paste=false then subGo m raw ready (k+1) out emp true
  else if (ZaA m raw ready k).2.2=false then ([],false)
  else if paste=true/\emp=false/\0<(ZaA m raw ready k).1.length then
   (if (Zas (out.getLastD zTok) ((ZaA m raw ready k).1.headD zTok)).2=true then
    subGo m raw ready (ZaA m raw ready k).2.1 (out.dropLast++(Zas (out.getLastD zTok) ((ZaA m raw ready k).1.headD zTok)).1::(ZaA m raw ready k).1.tail) emp false
    else ([],false))
  else subGo m raw ready (ZaA m raw ready k).2.1 (out++(ZaA m raw ready k).1) (decide ((ZaA m raw ready k).1.length=0) && (emp || !paste)) false)
 else (out,true)
termination_by m.body.length-k
decreasing_by
 all_goals first | omega | (refine Nat.sub_lt_sub_left h ?_;exact ZeC _ _ _ _)
section
variable {m:DMacro} {raw ready:List (List Tok)} {k:Nat} {out part:List Tok} {emp paste:Bool} {nx:Nat} {ok:Bool}
theorem Zd4 (h:m.body.length<=k):subGo m raw ready k out emp paste=(out,true):=by rw [subGo,dif_neg (by omega)]
theorem Zfx (hk:k<m.body.length) (h1:isM m.body[k] [35,35]=true):subGo m raw ready k out emp false=subGo m raw ready (k+1) out emp true:=by
 rw [subGo,dif_pos hk,if_pos ⟨h1,rfl⟩]
theorem Ze9 (hk:k<m.body.length) (h1:¬ (isM m.body[k] [35,35]=true/\paste=false)) (hp:ZaA m raw ready k=(part,nx,false)):subGo m raw ready k out emp paste=([],false):=by
 rw [subGo,dif_pos hk,if_neg h1,if_pos (by rw [hp])]
theorem Zh8 (hk:k<m.body.length) (h1:¬ (isM m.body[k] [35,35]=true/\paste=false)) (hp:ZaA m raw ready k=(part,nx,true)) (h2:paste=true/\emp=false/\0<part.length) {x:Tok} (h3:Zas (out.getLastD zTok) (part.headD zTok)=(x,false)):subGo m raw ready k out emp paste=([],false):=by
 rw [subGo,dif_pos hk,if_neg h1,if_neg (by rw [hp];simp),if_pos (by rw [hp];exact h2),hp]
 simp only [h3]
 rw [if_neg (by simp)]
theorem Zgy (hk:k<m.body.length) (h1:¬ (isM m.body[k] [35,35]=true/\paste=false)) (hp:ZaA m raw ready k=(part,nx,true)) (h2:paste=true/\emp=false/\0<part.length) {x:Tok} (h3:Zas (out.getLastD zTok) (part.headD zTok)=(x,true)) :
  subGo m raw ready k out emp paste=subGo m raw ready nx (out.dropLast++x::part.tail) emp false:=by
 rw [subGo,dif_pos hk,if_neg h1,if_neg (by rw [hp];simp),if_pos (by rw [hp];exact h2),hp]
 simp only [h3,if_true]
theorem Zd5 (hk:k<m.body.length) (h1:¬ (isM m.body[k] [35,35]=true/\paste=false)) (hp:ZaA m raw ready k=(part,nx,true)) (h2:¬ (paste=true/\emp=false/\0<part.length)) :
  subGo m raw ready k out emp paste=subGo m raw ready nx (out++part) (decide (part.length=0) && (emp || !paste)) false:=by
 rw [subGo,dif_pos hk,if_neg h1,if_neg (by rw [hp];simp),if_neg (by rw [hp];exact h2),hp]
end
def Zau (m:DMacro) (a:List (List Tok)):Bool:=decide (a.length=m.params.length) && a.all Zaj
def Zar (m:DMacro) (raw ready:List (List Tok)):List Tok × Bool:=
 if macOk m=true/\Zau m raw=true/\Zau m ready=true then
  (if (subGo m raw ready 0 [] true false).2=false\/240<(subGo m raw ready 0 [] true false).1.length then ([],false) else subGo m raw ready 0 [] true false)
 else ([],false)
theorem ZbR {m:DMacro} {raw ready:List (List Tok)} (h:¬ (macOk m=true/\Zau m raw=true/\Zau m ready=true)):Zar m raw ready=([],false):=by unfold Zar;rw [if_neg h]
theorem ZeD {m:DMacro} {raw ready:List (List Tok)} {l:List Tok} (h:subGo m raw ready 0 [] true false=(l,false)):Zar m raw ready=([],false):=by
 unfold Zar;split
 ·rw [if_pos (by rw [h];exact .inl rfl)]
 ·rfl
theorem ZgX {m:DMacro} {raw ready:List (List Tok)} {l:List Tok} {o:Bool} (h:subGo m raw ready 0 [] true false=(l,o)) (hl:240<l.length):Zar m raw ready=([],false):=by
 unfold Zar;split
 ·rw [if_pos (by rw [h];exact .inr hl)]
 ·rfl
theorem Zh9 {m:DMacro} {raw ready:List (List Tok)} {l:List Tok} (h0:macOk m=true/\Zau m raw=true/\Zau m ready=true) (h:subGo m raw ready 0 [] true false=(l,true)) (hl:¬ 240<l.length):Zar m raw ready=(l,true):=by
 unfold Zar;rw [if_pos h0,if_neg (by rw [h];simpa using hl),h]
def Zbc (a b:List ByteArray):List ByteArray:=b.foldl ins a
def putT (h:List ByteArray) (t:Tok):Tok:=⟨t.kind,t.text,t.spaced,Zbc t.hidden h⟩
def putL (l:List Tok) (h:List ByteArray) (sp:Bool):List Tok:=spc sp (l.map (putT h))
def findM (T:List DMacro) (t:Tok):Option DMacro:=if t.kind=1/\hasN t.hidden t.text=false/\0<=place T t.text then T[(place T t.text).toNat]? else none
def Zfa:List Tok->Bool
 | []=>false
 | u::_=>isM u [40]
def goM (T:List DMacro):List Tok->Option DMacro
 | []=>none
 |
  t::r=>match findM T t with
  | none=>none
  | some m=>if m.function=true/\Zfa r=false then none else some m
def opnK (t:Tok):Int:=if isM t [40]=true then 1 else if isM t [41]=true then -1 else 0
def splK:List Tok->Int->Args->List Tok->Nat->Args × Nat × Bool
 | [],_,args,_,_=>(args,0,false)
 |
  t::r,d,args,arg,k =>
  if d+opnK t=0 then (args++[arg],k+1,true)
  else if d+opnK t=1/\isM t [44]=true then splK r (d+opnK t) (args++[arg]) [] (k+1)
  else splK r (d+opnK t) args (arg++[t]) (k+1)
abbrev XRes:=List Tok × Nat × Int
def argsX (f:List Tok->Nat->XRes):List (List Tok)->Nat->List (List Tok) × Nat × Int
 | [],s=>([],s,0)
 |
  a::r,s =>
  if (f a s).2.2=0 then (if (argsX f r (f a s).2.1).2.2=0 then ((f a s).1::(argsX f r (f a s).2.1).1,(argsX f r (f a s).2.1).2) else ([],(argsX f r (f a s).2.1).2))
  else ([],(f a s).2)
def callX (f:List Tok->Nat->XRes) (m:DMacro) (work:List Tok) (s:Nat):List Tok × Nat × Nat × Int:=
 if (splK (work.drop 2) 1 [] [] 2).2.2=true/\argN m.params.length (splK (work.drop 2) 1 [] [] 2).1=m.params.length then
  (if (argsX f ((splK (work.drop 2) 1 [] [] 2).1.take m.params.length) s).2.2=0 then
   (if (Zar m ((splK (work.drop 2) 1 [] [] 2).1.take m.params.length) (argsX f ((splK (work.drop 2) 1 [] [] 2).1.take m.params.length) s).1).2=true then
    (putL (Zar m ((splK (work.drop 2) 1 [] [] 2).1.take m.params.length) (argsX f ((splK (work.drop 2) 1 [] [] 2).1.take m.params.length) s).1).1
     (ins (both (work.headD zTok).hidden (work.getD ((splK (work.drop 2) 1 [] [] 2).2.1-1) zTok).hidden) m.name) (work.headD zTok).spaced,
    (splK (work.drop 2) 1 [] [] 2).2.1,(argsX f ((splK (work.drop 2) 1 [] [] 2).1.take m.params.length) s).2.1,0)
   else ([],0,(argsX f ((splK (work.drop 2) 1 [] [] 2).1.take m.params.length) s).2.1,2))
  else ([],0,(argsX f ((splK (work.drop 2) 1 [] [] 2).1.take m.params.length) s).2))
 else ([],0,s,1)
def expG (T:List DMacro):Nat->Nat->List Tok->List Tok->XRes
 | _,s,out,[]=>(out,s,0)
 |
  n,s,out,t::r =>
  match goM T (t::r) with
  | none=>if 60<out.length+1 then ([],s,3) else expG T n s (out++[t]) r
  |
   some m =>
   match n,s with
   | 0,_=>([],0,3)
   | _+1,0=>([],0,3)
   |
    n+1,s+1 =>
    if m.function=true then
     (if (callX (λ a k=>expG T n k [] a) m (t::r) s).2.2.2=0 then
      (
      if 60<((callX (λ a k=>expG T n k [] a) m (t::r) s).1++(t::r).drop (callX (λ a k=>expG T n k [] a) m (t::r) s).2.1).length then ([],(callX (λ a k=>expG T n k [] a) m (t::r) s).2.2.1,3)
      else expG T n (callX (λ a k=>expG T n k [] a) m (t::r) s).2.2.1 out ((callX (λ a k=>expG T n k [] a) m (t::r) s).1++(t::r).drop (callX (λ a k=>expG T n k [] a) m (t::r) s).2.1))
     else ([],(callX (λ a k=>expG T n k [] a) m (t::r) s).2.2))
    else
     (if (Zar m [] []).2=true then
      (if 60<(putL (Zar m [] []).1 (ins t.hidden m.name) t.spaced++r).length then ([],s,3) else expG T n s out (putL (Zar m [] []).1 (ins t.hidden m.name) t.spaced++r))
     else ([],s,2))
termination_by n _ _ w=>(n,w.length)
def Za4 (T:List DMacro) (l:List Tok):List Tok × Int:=
 if tabOk T=true/\Zaj l=true then (if (expG T 100 100 [] l).2.2=0 then ((expG T 100 100 [] l).1,0) else ([],(expG T 100 100 [] l).2.2)) else ([],-1)
section
variable {T:List DMacro} {n s:Nat} {out r:List Tok} {t:Tok} {m:DMacro}
theorem Zb4:expG T n s out []=(out,s,0):=by rw [expG]
theorem Zbs (h:goM T (t::r)=none) (hl:¬ 60<out.length+1):expG T n s out (t::r)=expG T n s (out++[t]) r:=by rw [expG,h];simp only;rw [if_neg hl]
theorem ZbE (h:goM T (t::r)=none) (hl:60<out.length+1):expG T n s out (t::r)=([],s,3):=by rw [expG,h];simp only;rw [if_pos hl]
theorem Zdx (h:goM T (t::r)=some m):expG T n 0 out (t::r)=([],0,3):=by
 rw [expG,h]
 cases n <;> rfl
theorem Zeq (h:goM T (t::r)=some m) (hf:m.function=true) {b:List Tok} {e l:Nat} (hc:callX (λ a k=>expG T n k [] a) m (t::r) s=(b,e,l,0)) (hl:¬ 60<(b++(t::r).drop e).length):expG T (n+1) (s+1) out (t::r)=expG T n l out (b++(t::r).drop e):=by
 rw [expG,h];simp only;rw [if_pos hf,hc,if_pos rfl,if_neg hl]
theorem ZdT (h:goM T (t::r)=some m) (hf:m.function=true) {b:List Tok} {e l:Nat} (hc:callX (λ a k=>expG T n k [] a) m (t::r) s=(b,e,l,0)) (hl:60<(b++(t::r).drop e).length):expG T (n+1) (s+1) out (t::r)=([],l,3):=by
 rw [expG,h];simp only;rw [if_pos hf,hc,if_pos rfl,if_pos hl]
theorem Zb7 (h:goM T (t::r)=some m) (hf:m.function=true) {b:List Tok} {e l:Nat} {c:Int} (hc:callX (λ a k=>expG T n k [] a) m (t::r) s=(b,e,l,c)) (h0:c≠0):expG T (n+1) (s+1) out (t::r)=([],l,c):=by
 rw [expG,h];simp only;rw [if_pos hf,hc,if_neg h0]
theorem Zfb (h:goM T (t::r)=some m) (hf:m.function=false) {b:List Tok} (hc:Zar m [] []=(b,true)) (hl:¬ 60<(putL b (ins t.hidden m.name) t.spaced++r).length):expG T (n+1) (s+1) out (t::r)=expG T n s out (putL b (ins t.hidden m.name) t.spaced++r):=by
 rw [expG,h];simp only;rw [if_neg (by simp [hf]),hc,if_pos rfl,if_neg hl]
theorem Zer (h:goM T (t::r)=some m) (hf:m.function=false) {b:List Tok} (hc:Zar m [] []=(b,true)) (hl:60<(putL b (ins t.hidden m.name) t.spaced++r).length):expG T (n+1) (s+1) out (t::r)=([],s,3):=by
 rw [expG,h];simp only;rw [if_neg (by simp [hf]),hc,if_pos rfl,if_pos hl]
theorem Zes (h:goM T (t::r)=some m) (hf:m.function=false) {b:List Tok} (hc:Zar m [] []=(b,false)):expG T (n+1) (s+1) out (t::r)=([],s,2):=by
 rw [expG,h];simp only;rw [if_neg (by simp [hf]),hc,if_neg (by simp)]
end
theorem ZiS {f:List Tok->Nat->XRes} (hf:∀ a k,(f a k).2.1<=k):∀ (A:List (List Tok)) (s:Nat),(argsX f A s).2.1<=s
 | [],s=>Nat.le_refl s
 |
  a::r,s=>by
  have h1:=hf a s
  have h2:=ZiS hf r (f a s).2.1
  unfold argsX
  split
  ·split
   ·show (argsX f r (f a s).2.1).2.1<=s;omega
   ·show (argsX f r (f a s).2.1).2.1<=s;omega
  ·show (f a s).2.1<=s;omega
theorem Zmh {f:List Tok->Nat->XRes} (hf:∀ a k,(f a k).2.1<=k) (m:DMacro) (w:List Tok) (s:Nat):(callX f m w s).2.2.1<=s:=by
 have h1:=ZiS hf ((splK (w.drop 2) 1 [] [] 2).1.take m.params.length) s
 unfold callX
 split
 ·split
  ·split
   ·exact h1
   ·exact h1
  ·exact h1
 ·exact Nat.le_refl s
theorem Zia (T:List DMacro):∀ (n:Nat) (w:List Tok) (s:Nat) (out:List Tok),(expG T n s out w).2.1<=s:=by
 intro n
 induction n with
 |
  zero =>
  intro w
  induction w with
  | nil=>intro s out;rw [Zb4];exact Nat.le_refl s
  |
   cons t r ih =>
   intro s out
   cases hg:goM T (t::r) with
   |
    none =>
    by_cases hl:60<out.length+1
    ·rw [ZbE hg hl];exact Nat.le_refl s
    ·rw [Zbs hg hl];exact ih s _
   | some m=>rw [expG,hg];exact Nat.zero_le s
 |
  succ n ihn =>
  intro w
  induction w with
  | nil=>intro s out;rw [Zb4];exact Nat.le_refl s
  |
   cons t r ih =>
   intro s out
   cases hg:goM T (t::r) with
   |
    none =>
    by_cases hl:60<out.length+1
    ·rw [ZbE hg hl];exact Nat.le_refl s
    ·rw [Zbs hg hl];exact ih s _
   |
    some m =>
    cases s with
    | zero=>rw [Zdx hg];exact Nat.zero_le 0
    |
     succ s =>
     cases hf:m.function
     ·rcases hc:Zar m [] [] with⟨b,ok⟩
      cases ok
      ·rw [Zes hg hf hc];exact Nat.le_succ s
      ·by_cases hl:60<(putL b (ins t.hidden m.name) t.spaced++r).length
       ·rw [Zer hg hf hc hl];exact Nat.le_succ s
       ·rw [Zfb hg hf hc hl];exact Nat.le_succ_of_le (ihn _ _ _)
     ·have hcl:=Zmh (f:=λ a k=>expG T n k [] a) (λ a k=>ihn a k []) m (t::r) s
      rcases hc:callX (λ a k=>expG T n k [] a) m (t::r) s with⟨b,e,l,c⟩
      rw [hc] at hcl
      have hcl':l<=s:=hcl
      by_cases h0:c=0
      ·subst h0
       by_cases hl:60<(b++(t::r).drop e).length
       ·rw [ZdT hg hf hc hl];exact Nat.le_succ_of_le hcl'
       ·rw [Zeq hg hf hc hl];have:=ihn (b++(t::r).drop e) l out;omega
      ·rw [Zb7 hg hf hc h0];exact Nat.le_succ_of_le hcl'
def OutAt (s:ByteArray) (k:Nat) (out:ByteArray):Prop:=out++outTo s k=outTo s 1/\tClose s k=some s.size/\1<=k/\out.size<=k
theorem OutAt.byte {s:ByteArray} {k:Nat} {out:ByteArray} (h:OutAt s k out) (hk:k+1<s.size) (hc:¬ s[k].toNat=92):OutAt s (k+1) (out++s.extract k (k+1)):=by
 obtain⟨h1,h2,h3,h4⟩:=h
 by_cases hq:s[k].toNat=34
 ·rw [Za7 (by omega) hq,Qi] at h2;omega
 rw [Zbi (by omega) hq hc] at h2
 refine ⟨?_,h2,by omega,by rw [ByteArray.size_append,ByteArray.size_extract];omega⟩
 rw [← h1,Zh4 hk hc,ByteArray.append_assoc]
theorem OutAt.done {s:ByteArray} {k:Nat} {out:ByteArray} (h:OutAt s k out) (hk:s.size<=k+1):out=outTo s 1:=by
 rw [← h.1,Zjy hk];exact ByteArray.append_empty.symm
def StrOf (s:ByteArray) (w:World) (e:Ending) (w':World):Prop:=e=.returned (.string s)/\Below w.heap.size w w'
theorem Zfy {a b:ByteArray} (h:a=b):Ending.returned (.string a)=.returned (.string b):=by rw [h]
theorem q_ways (c:UInt8):(((c.toNat:Int)==34)=true/\Hid (isQ c=true))\/(((c.toNat:Int)==34)=false/\((c.toNat:Int)==92)=true/\Hid (isQ c=true))\/(((c.toNat:Int)==34)=false/\((c.toNat:Int)==92)=false/\Hid (isQ c=false)):=by
 by_cases h1:c.toNat=34
 ·exact .inl ⟨by simp [h1],by show _=_;unfold isQ;simp [h1]⟩
 ·by_cases h2:c.toNat=92
  ·exact .inr (.inl ⟨by simp;omega,by simp [h2],by show _=_;unfold isQ;simp [h2]⟩)
  ·exact .inr (.inr ⟨by simp;omega,by simp;omega,by show _=_;unfold isQ;simp [h1,h2]⟩)
theorem ZjZ (s:ByteArray) (w:World) (hs:s.size<=1000000) :
  Calls Tryz.prog 151 #[.string s] w (StrOf (escTo s s.size) w):=by
 go_enter Tryz.func151,Tryz.ntmps151
 go_wp2
 go_loopw [3,4] (λ o i wr=>∃ (k:Nat) (out:ByteArray),k<=s.size/\i=.int .i64 k/\o=.string out/\Hid (out=escTo s k)/\Below w.heap.size w wr) (λ _ i _=>s.size-(intOf i).toNat)
 case atStart=>exact⟨0,_,by omega,rfl,rfl,rfl,Below.refl _ _⟩
 case round =>
  obtain⟨k,out,hk,rfl,rfl,HO,hb⟩:=hrel
  by_cases hlt:k<s.size
  ·have hso:out.size<=2 * k:=by rw [HO.out];exact Zc9 s k
   have h1z:(⟨#[92]⟩:ByteArray).size=1:=rfl
   have hsl:=λ W=>(ZeW s (k:Int) ((k:Int)+1) k (k+1) rfl rfl (by omega) (by omega) W)
   have ad1:=λ W=>run_string_add_sum (P:=Tryz.prog) W out (⟨#[92]⟩:ByteArray) (by omega)
   have ad2:=λ W=>run_string_add_sum (P:=Tryz.prog) W (out++(⟨#[92]⟩:ByteArray)) (s.extract k (k+1)) (by rw [ByteArray.size_append,ByteArray.size_extract];omega)
   have ad3:=λ W=>run_string_add_sum (P:=Tryz.prog) W out (s.extract k (k+1)) (by rw [ByteArray.size_extract];omega)
   clear h1z
   rcases q_ways s[k] with⟨e1,HQ⟩ | ⟨e1,e2,HQ⟩ | ⟨e1,e2,HQ⟩
   ·have HN:Hid (out++⟨#[92]⟩++s.extract k (k+1)=escTo s (k+1)):=by show _=_;rw [Zdv hlt HQ.out,HO.out]
    clear HO HQ hso
    go_wp2
    go_roundw
    case rel=>exact⟨k+1,_,by omega,by go_num,rfl,HN.out,hb⟩
    case measure=>simp [intOf];omega
   ·have HN:Hid (out++⟨#[92]⟩++s.extract k (k+1)=escTo s (k+1)):=by show _=_;rw [Zdv hlt HQ.out,HO.out]
    clear HO HQ hso
    go_wp2
    go_roundw
    case rel=>exact⟨k+1,_,by omega,by go_num,rfl,HN.out,hb⟩
    case measure=>simp [intOf];omega
   ·have HN:Hid (out++s.extract k (k+1)=escTo s (k+1)):=by show _=_;rw [Ze8 hlt HQ.out,HO.out]
    clear HO HQ hso
    go_wp2
    go_roundw
    case rel=>exact⟨k+1,_,by omega,by go_num,rfl,HN.out,hb⟩
    case measure=>simp [intOf];omega
  ·have HF:Hid (out=escTo s s.size):=by show _=_;rw [HO.out,show k=s.size by omega]
   clear HO
   go_wp2
   go_ret
   exact⟨Zfy HF.out,hb⟩
theorem Y13A1 {g:Prop} (h:g:=by
 rw [hsp] at c12
 clear h3 HBT HO hso
 go_wp2_with (go_at_call 151;refine (HE.out _).mono ?_;rintro e w3 ⟨rfl,hb3⟩)
 go_roundw
 case rel=>exact⟨k+1,_,by omega,by go_num,rfl,HN.out,hb.trans (hb3.mono hb.size)⟩
 case measure=>simp [intOf];omega):g:=h
theorem ZlN (v:Value) (l:List Tok) (fp:List Nat) (w:World) (hv:Zaj l=true) (H:(Zaa sTok).R w [v] l fp) :
  Calls Tryz.prog 141 #[v] w (StrOf (Zax l l.length) w):=by
 obtain⟨a,cap,rfl,hc,hm,hrow⟩:=Zac H
 unfold maxLen at hm
 clear H
 have HOK:=Qh (Zam hv)
 have hlen:=HOK.out.1
 have HSZ:=Qh (ZdK hv)
 clear hv
 go_enter Tryz.func141,Tryz.ntmps141
 go_wp2
 go_loopw [3,4] (λ o i wr=>∃ (k:Nat) (out:ByteArray),k<=l.length/\i=.int .i64 k/\o=.string out/\Hid (out=Zax l k)/\Below w.heap.size w wr) (λ _ i _=>l.length-(intOf i).toNat)
 case atStart=>exact⟨0,_,by omega,rfl,rfl,rfl,Below.refl _ _⟩
 case round =>
  obtain⟨k,out,hk,rfl,rfl,HO,hb⟩:=hrel
  by_cases hlt:k<l.length
  ·obtain⟨b1,off1,fps1,rfl,hb1',-,he1⟩:=hrow (by omega)
   obtain⟨es1,hE1,hR1⟩:=he1 k hlt
   obtain⟨h1,rfl,-,-,-⟩:=hR1
   replace hE1:=hE1.frame (hb.block b1 hb1')
   have c10:wr.cell? ⟨b1,off1+k * 4,none⟩=some _:=Zao hE1 (by decide) rfl
   have c11:wr.cell? ⟨b1,off1+k * 4+1,none⟩=some _:=Zae (j:=1) hE1 (by decide) rfl
   have c12:wr.cell? ⟨b1,off1+k * 4+2,none⟩=some _:=Zae (j:=2) hE1 (by decide) rfl
   have hsz1:=(Zaz (HOK.out.2 k hlt)).2
   have hso:out.size<=401 * k:=by rw [HO.out];exact HSZ.out k hk
   have hes:=Zc9 l[k].text l[k].text.size
   have HE:Hid (∀ W,Calls Tryz.prog 151 #[.string l[k].text] W (StrOf (escTo l[k].text l[k].text.size) W)):=λ W=>ZjZ _ W (by omega)
   have h1z:(⟨#[32]⟩:ByteArray).size=1:=rfl
   have ad1:=λ W=>run_string_add_sum (P:=Tryz.prog) W out (⟨#[32]⟩:ByteArray) (by omega)
   have ad2:=λ W=>run_string_add_sum (P:=Tryz.prog) W (out++(⟨#[32]⟩:ByteArray)) (escTo l[k].text l[k].text.size) (by rw [ByteArray.size_append];omega)
   have ad3:=λ W=>run_string_add_sum (P:=Tryz.prog) W (out++(⟨#[32]⟩:ByteArray)) l[k].text (by rw [ByteArray.size_append];omega)
   have ad4:=λ W=>run_string_add_sum (P:=Tryz.prog) W out (escTo l[k].text l[k].text.size) (by omega)
   have ad5:=λ W=>run_string_add_sum (P:=Tryz.prog) W out l[k].text (by omega)
   clear h1z hes he1 hrow hE1
   by_cases h0:k=0
   ·have h00:¬ (0:Int)<(k:Int):=by omega
    have h01:decide ((0:Int)<(k:Int))=false:=by simp;omega
    have h02:decide (0<k)=false:=by simp;omega
    have HNS:Hid (¬ (0<k/\l[k].spaced=true)):=λ h=>by omega
    clear h0
    by_cases h3:l[k].kind=3
    ·have hk3:(l[k].kind==3)=true:=by simp [h3]
     have HBT:Hid (bit l[k]=escTo l[k].text l[k].text.size):=by show _=_;unfold bit;rw [if_pos h3]
     have HN:Hid (out++escTo l[k].text l[k].text.size=Zax l (k+1)):=by show _=_;rw [Zb6 hlt HNS.out,HBT.out,HO.out]
     clear h3 HBT HO hso
     go_wp2_with (go_at_call 151;refine (HE.out _).mono ?_;rintro e w3 ⟨rfl,hb3⟩)
     go_roundw
     case rel=>exact⟨k+1,_,by omega,by go_num,rfl,HN.out,hb.trans (hb3.mono hb.size)⟩
     case measure=>simp [intOf];omega
    ·have hk3:(l[k].kind==3)=false:=by simp;exact h3
     have HBT:Hid (bit l[k]=l[k].text):=by show _=_;unfold bit;rw [if_neg h3]
     have HN:Hid (out++l[k].text=Zax l (k+1)):=by show _=_;rw [Zb6 hlt HNS.out,HBT.out,HO.out]
     clear h3 HBT HO hso
     go_wp2
     go_roundw
     case rel=>exact⟨k+1,_,by omega,by go_num,rfl,HN.out,hb⟩
     case measure=>simp [intOf];omega
   ·have h00:(0:Int)<(k:Int):=by omega
    have h01:decide ((0:Int)<(k:Int))=true:=by simp;omega
    have h02:decide (0<k)=true:=by simp;omega
    cases hsp:l[k].spaced
    ·have HNS:Hid (¬ (0<k/\l[k].spaced=true)):=λ h=>by rw [hsp] at h;exact absurd h.2 (by simp)
     by_cases h3:l[k].kind=3
     ·have hk3:(l[k].kind==3)=true:=by simp [h3]
      have HBT:Hid (bit l[k]=escTo l[k].text l[k].text.size):=by show _=_;unfold bit;rw [if_pos h3]
      have HN:Hid (out++escTo l[k].text l[k].text.size=Zax l (k+1)):=by show _=_;rw [Zb6 hlt HNS.out,HBT.out,HO.out]
      exact Y13A1
     ·have hk3:(l[k].kind==3)=false:=by simp;exact h3
      have HBT:Hid (bit l[k]=l[k].text):=by show _=_;unfold bit;rw [if_neg h3]
      have HN:Hid (out++l[k].text=Zax l (k+1)):=by show _=_;rw [Zb6 hlt HNS.out,HBT.out,HO.out]
      rw [hsp] at c12
      clear h3 HBT HO hso
      go_wp2
      go_roundw
      case rel=>exact⟨k+1,_,by omega,by go_num,rfl,HN.out,hb⟩
      case measure=>simp [intOf];omega
    ·skip
     by_cases h3:l[k].kind=3
     ·have hk3:(l[k].kind==3)=true:=by simp [h3]
      have HBT:Hid (bit l[k]=escTo l[k].text l[k].text.size):=by show _=_;unfold bit;rw [if_pos h3]
      have HN:Hid (out++⟨#[32]⟩++escTo l[k].text l[k].text.size=Zax l (k+1)):=by show _=_;rw [ZcS hlt (by omega) hsp,HBT.out,HO.out]
      exact Y13A1
     ·have hk3:(l[k].kind==3)=false:=by simp;exact h3
      have HBT:Hid (bit l[k]=l[k].text):=by show _=_;unfold bit;rw [if_neg h3]
      have HN:Hid (out++⟨#[32]⟩++l[k].text=Zax l (k+1)):=by show _=_;rw [ZcS hlt (by omega) hsp,HBT.out,HO.out]
      rw [hsp] at c12
      clear h3 HBT HO hso
      go_wp2
      go_roundw
      case rel=>exact⟨k+1,_,by omega,by go_num,rfl,HN.out,hb⟩
      case measure=>simp [intOf];omega
  ·have HF:Hid (out=Zax l l.length):=by show _=_;rw [HO.out,show k=l.length by omega]
   clear HO
   go_wp2
   go_ret
   exact⟨Zfy HF.out,hb⟩
def TextOf (l:List Tok) (w:World) (e:Ending) (w':World):Prop:=
 ∃ (cs:List Value) (fp:List Nat),e=.returned (.tuple #[.agg cs.toArray,.bool (ZaN l).2])/\sTok.R w' cs (ZaN l).1 fp/\Own w' w.heap.size fp/\Below w.heap.size w w'
theorem Zk1 (k:Int) (s:ByteArray) (w:World) (h1:okInt k) (h2:s.size<=maxLen):sTok.R w [.int .i64 k,.string s,.bool false,.slice none 0 0] ⟨k,s,false,[]⟩ []:=⟨_,rfl,h1,h2,Zan sStr _ _ _ (by simp)⟩
theorem ZeE {l:List Tok} {w w':World} (h:ZaN l=(zTok,false)) (hb:Below w.heap.size w w'):TextOf l w (.returned (.tuple #[.agg #[.int .i64 0,.string ⟨#[]⟩,.bool false,.slice none 0 0],.bool false])) w':=
 ⟨[.int .i64 0,.string ⟨#[]⟩,.bool false,.slice none 0 0],[],by rw [h],by rw [h];exact Zk1 0 ⟨#[]⟩ w' (by unfold okInt;omega) (by show (0:Nat)<=_;simp [maxLen]),Own.nil _ _,hb⟩
theorem Zib {l:List Tok} {s:ByteArray} {w w':World} (h:ZaN l=(⟨3,s,false,[]⟩,true)) (hb:Below w.heap.size w w') (hs:s.size<=1000000):TextOf l w (.returned (.tuple #[.agg #[.int .i64 3,.string s,.bool false,.slice none 0 0],.bool true])) w':=
 ⟨[.int .i64 3,.string s,.bool false,.slice none 0 0],[],by rw [h],by rw [h];exact Zk1 3 s w' (by unfold okInt;omega) (by unfold maxLen;omega),Own.nil _ _,hb⟩
theorem ZgY {l:List Tok} (h:Zaj l=true):(quoted (Zax l l.length)).size<=50000:=by
 have h1:=ZdK h l.length (Nat.le_refl _)
 have h2:=(Zam h).1
 rw [ZeS];omega
theorem ZiT (v:Value) (l:List Tok) (fp:List Nat) (w:World) (hl:l.length<=1048576) (hx:∀ k,(hk:k<l.length)->l[k].hidden.length<=2000000) (H:(Zaa sTok).R w [v] l fp) :
  Calls Tryz.prog 132 #[v] w (TextOf l w):=by
 have hz0:=Zab w (.cells #[.int .i64 0,.string ⟨#[]⟩,.bool false,.slice none 0 0] 57)
 have HZ:=Qh (heap_alloc_new w (.cells #[.int .i64 0,.string ⟨#[]⟩,.bool false,.slice none 0 0] 57))
 have HCP:=Qh (ZaS v l fp _ hl hx ((Zaa sTok).below H hz0))
 clear H hx
 go_enter Tryz.func132,Tryz.ntmps132
 go_wp2_with fail
 refine HCP.out.mono ?_
 rintro e w1 ⟨v1,fp1,rfl,HL,-,-,hb1⟩
 have hB1:=hz0.trans (hb1.mono hz0.size)
 replace HZ:=Qh (mbox HZ.out hb1)
 clear hb1 hz0 HCP
 have HV:=Qh (Zbg v1 l fp1 w1 HL)
 have HL1:=Qh HL
 obtain⟨a,cap,rfl,hc,hm,-⟩:=Zac HL
 clear HL
 unfold maxLen at hm
 go_wp2_with fail
 refine HV.out.mono ?_
 rintro e w2 ⟨rfl,hb2⟩
 have hB2:=hB1.trans (hb2.mono hB1.size)
 replace HZ:=Qh (mbox HZ.out hb2)
 have HLL:=Qh ((Zaa sTok).below HL1.out hb2)
 clear HL1 HV hb2 hB1
 cases hv:Zaj l
 ·have HF:=Qh (ZjA hv)
  clear hv
  have z0:=Qc 0 HZ.out
  have zf0:=Qf 0 HZ.out
  have z1:=Qc 1 HZ.out
  have zf1:=Qf 1 HZ.out
  have z2:=Qc 2 HZ.out
  have zf2:=Qf 2 HZ.out
  have z3:=Qc 3 HZ.out
  have zf3:=Qf 3 HZ.out
  have HS:=Qh (Zah (Zah (Zah (Zah HZ.out 0 (.int .i64 0)) 1 (.string ⟨#[]⟩)) 2 (.bool false)) 3 (.slice none 0 0))
  have HBF:=Qh ((((hB2.setCell (p:=⟨w.heap.size,0,none⟩) (Nat.le_refl _) (.int .i64 0)).setCell (p:=⟨w.heap.size,1,none⟩) (Nat.le_refl _) (.string ⟨#[]⟩)).setCell (p:=⟨w.heap.size,2,none⟩) (Nat.le_refl _) (.bool false)).setCell (p:=⟨w.heap.size,3,none⟩) (Nat.le_refl _) (.slice none 0 0))
  go_wp2
  refine bodyPost_ret (Zap rfl _ _ w.heap.size _ _ _ _ rfl HS.out Tryz.underlying57 rfl (by kernel_rfl)) rfl ?_
  exact ZeE HF.out HBF.out
 have HJ:=Qh (ZlN _ l fp1 w2 hv HLL.out)
 have HVD:=Qh hv
 have hq:=ZgY hv
 have hj:=ZeS (Zax l l.length)
 clear hv HLL
 go_wp2_with fail
 refine HJ.out.mono ?_
 rintro e w3 ⟨rfl,hb3⟩
 have hB3:=hB2.trans (hb3.mono hB2.size)
 replace HZ:=Qh (mbox HZ.out hb3)
 clear HJ hb3 hB2
 have HY:=Qh (λ h=>Zh5 (l:=l) HVD.out rfl h)
 have HG:=Qh (λ h=>ZgW (l:=l) HVD.out rfl h)
 have h1z:(⟨#[34]⟩:ByteArray).size=1:=rfl
 have ad1:=λ W=>run_string_add_sum (P:=Tryz.prog) W (⟨#[34]⟩:ByteArray) (Zax l l.length) (by omega)
 have ad2:∀ W,(Op.stringOp .add ((⟨#[34]⟩:ByteArray)++Zax l l.length) (⟨#[34]⟩:ByteArray)).run Tryz.prog W=.ok (.string (quoted (Zax l l.length))) W:=λ W=>run_string_add_sum (P:=Tryz.prog) W ((⟨#[34]⟩:ByteArray)++Zax l l.length) (⟨#[34]⟩:ByteArray) (by rw [ByteArray.size_append];omega)
 clear h1z hj
 generalize quoted (Zax l l.length)=Q at *
 by_cases hbig:200<Q.size
 ·have HF:=Qh (HG.out hbig)
  clear HG HY
  have z0:=Qc 0 HZ.out
  have zf0:=Qf 0 HZ.out
  have z1:=Qc 1 HZ.out
  have zf1:=Qf 1 HZ.out
  have z2:=Qc 2 HZ.out
  have zf2:=Qf 2 HZ.out
  have z3:=Qc 3 HZ.out
  have zf3:=Qf 3 HZ.out
  have HS:=Qh (Zah (Zah (Zah (Zah HZ.out 0 (.int .i64 0)) 1 (.string ⟨#[]⟩)) 2 (.bool false)) 3 (.slice none 0 0))
  have HBF:=Qh ((((hB3.setCell (p:=⟨w.heap.size,0,none⟩) (Nat.le_refl _) (.int .i64 0)).setCell (p:=⟨w.heap.size,1,none⟩) (Nat.le_refl _) (.string ⟨#[]⟩)).setCell (p:=⟨w.heap.size,2,none⟩) (Nat.le_refl _) (.bool false)).setCell (p:=⟨w.heap.size,3,none⟩) (Nat.le_refl _) (.slice none 0 0))
  go_wp2
  refine bodyPost_ret (Zap rfl _ _ w.heap.size _ _ _ _ rfl HS.out Tryz.underlying57 rfl (by kernel_rfl)) rfl ?_
  exact ZeE HF.out HBF.out
 ·have HF:=Qh (HY.out hbig)
  clear HG HY
  have z0:=Qc 0 HZ.out
  have zf0:=Qf 0 HZ.out
  have z1:=Qc 1 HZ.out
  have zf1:=Qf 1 HZ.out
  have z2:=Qc 2 HZ.out
  have zf2:=Qf 2 HZ.out
  have z3:=Qc 3 HZ.out
  have zf3:=Qf 3 HZ.out
  have HS:=Qh (Zah (Zah (Zah (Zah HZ.out 0 (.int .i64 3)) 1 (.string Q)) 2 (.bool false)) 3 (.slice none 0 0))
  have HBF:=Qh ((((hB3.setCell (p:=⟨w.heap.size,0,none⟩) (Nat.le_refl _) (.int .i64 3)).setCell (p:=⟨w.heap.size,1,none⟩) (Nat.le_refl _) (.string Q)).setCell (p:=⟨w.heap.size,2,none⟩) (Nat.le_refl _) (.bool false)).setCell (p:=⟨w.heap.size,3,none⟩) (Nat.le_refl _) (.slice none 0 0))
  go_wp2
  refine bodyPost_ret (Zap rfl _ _ w.heap.size _ _ _ _ rfl HS.out Tryz.underlying57 rfl (by kernel_rfl)) rfl ?_
  exact Zib HF.out HBF.out (by omega)
theorem Zdy (l:List Tok):∃ k s b,ZaN l=(⟨k,s,false,[]⟩,b)/\0<=k/\k<=4/\s.size<=200:=by
 rcases h:ZaN l with⟨t,b⟩
 unfold ZaN at h
 split at h
 ·split at h
  ·simp only [Prod.mk.injEq] at h;exact⟨0,⟨#[]⟩,b,by rw [← h.1];rfl,by omega,by omega,by decide⟩
  ·simp only [Prod.mk.injEq] at h;exact⟨3,quoted (Zax l l.length),b,by rw [← h.1],by omega,by omega,by omega⟩
 ·simp only [Prod.mk.injEq] at h;exact⟨0,⟨#[]⟩,b,by rw [← h.1];rfl,by omega,by omega,by decide⟩
theorem TextOf.bare {l:List Tok} {w w':World} {e:Ending} (h:TextOf l w e w'):∃ (k:Int) (s:ByteArray) (b:Bool) (ao:Option Addr) (c:Nat),ZaN l=(⟨k,s,false,[]⟩,b)/\e=.returned (.tuple #[.agg #[.int .i64 k,.string s,.bool false,.slice ao 0 c],.bool b])/\0<=k/\k<=4/\s.size<=200/\c<=maxLen/\Below w.heap.size w w':=by
 obtain⟨cs,fp,rfl,hR,-,hb⟩:=h
 obtain⟨k,s,b,e,h1,h2,h3⟩:=Zdy l
 rw [e] at hR ⊢
 obtain⟨h',rfl,-,-,K⟩:=hR
 obtain⟨ao,c,rfl,-,hc,-⟩:=Zac K
 exact⟨k,s,b,ao,c,rfl,rfl,h1,h2,h3,hc,hb⟩
theorem ZjG (k:Int) (s:ByteArray) (b:Bool) (ao:Option Addr) (c:Nat) (w:World) (h0:0<=k) (h1:k<=4) (h2:s.size<=1000) (h3:c<=maxLen):sTok.R w [.int .i64 k,.string s,.bool b,.slice ao 0 c] ⟨k,s,b,[]⟩ []:=
 ⟨_,rfl,(show okInt k from⟨by omega,by omega⟩),(show s.size<=maxLen by unfold maxLen;omega),Zan sStr _ _ _ h3⟩
end Go.Proofs.YtiaiggjfepoahaaGreat
