/- Lemmas. -/
import Derived.Test.YtipfpppcbmpjiaaGreatZC12
set_option linter.unusedVariables false
set_option maxHeartbeats 16000000
set_option maxRecDepth 100000
set_option linter.unusedSimpArgs false
namespace Go.Proofs.YtipfpppcbmpjiaaGreat
open Go.RowKit
def Up (l:List ByteArray):Prop:=l.Pairwise λa b=>ZaF a b=true
variable {l:List ByteArray}
theorem ZfM (h:ZbO l=true):l.length<=60/\∀i,i<l.length->Zbn l i=true:=by
 unfold ZbO at h;rw[QI,JT,Qk]at h;exact⟨h.1,λi hi=>h.2 i (by simpa using hi)⟩
theorem Znt (h:ZbO l=true){i:Nat}(hi:i+1<l.length):ZaF (l[i]'(by omega)) l[i+1]=true:=by
 have:=(ZfM h).2 (i+1) hi;unfold Zbn at this;rw[dif_pos hi,QI,Q6,JT]at this;rcases this.2 with h0 | h0
 ·omega
 ·exact h0
theorem Zo4 (h:ZbO l=true):∀d i:Nat,(hj:i+d+1<l.length)->ZaF (l[i]'(by omega)) (l[i+d+1]'hj)=true
 | 0,i,hj=>Znt h hj
 | d+1,i,hj=>Zek (Zo4 h d i (by omega)) (Znt h hj)
theorem ZdR (h:ZbO l=true):l.length<=60/\(∀x∈l,Zap x 1=true)/\Up l:=by
 refine⟨(ZfM h).1,λx hx=>?_,?_⟩
 ·obtain⟨i,hi,rfl⟩:=QY hx;have:=(ZfM h).2 i hi;unfold Zbn at this;rw[dif_pos hi,QI]at this;exact this.1
 ·unfold Up;rw[List.pairwise_iff_getElem];intro i j hi hj hij;have:=Zo4 h (j-i-1) i (by omega);have e:i+(j-i-1)+1=j:=by omega
  simpa only[e]using this
theorem asc_hid (h1:l.length<=60)(h2:∀x∈l,Zap x 1=true)(h3:Up l):ZbO l=true:=by
 refine Zie (k:=l.length) (λj hj=>?_) (QA _) h1;unfold Zbn;rw[dif_pos hj,h2 _ (QE hj),Bool.true_and,Q6,JT];by_cases h0:j=0
 ·exact .inl h0
 ·unfold Up at h3;rw[List.pairwise_iff_getElem]at h3;exact .inr (h3 (j-1) j (by omega) hj (by omega))
theorem ZpL (h:ZbO l=true)(p:ByteArray->Bool):ZbO (l.filter p)=true:=by
 obtain⟨h1,h2,h3⟩:=ZdR h;exact asc_hid (QZ (List.length_filter_le _ _) h1) (λx hx=>h2 x (List.mem_filter.1 hx).1) (List.Pairwise.filter _ h3)
def Zdc (l:List ByteArray)(s:ByteArray):Bool:=l.any λx=>x.toList==s.toList
variable {k:Nat}{s:ByteArray}
theorem Znu (hk:k<l.length)(h:(l[k].toList==s.toList)=true):Zdc l s=true:=by
 unfold Zdc;rw[List.any_eq_true];exact⟨_,QE hk,h⟩
theorem Zo5 (h:∀j,(hj:j<l.length)->(l[j].toList==s.toList)=false):Zdc l s=false:=by
 unfold Zdc;rw[List.any_eq_false];intro x hx;obtain⟨j,hj,rfl⟩:=QY hx;rw[h j hj];simp
def both (a b:List ByteArray):List ByteArray:=a.filter (Zdc b)
theorem Znv {a b:List ByteArray}(hk:k<a.length)(h:Zdc b a[k]=true):both (a.take (k+1)) b=both (a.take k) b++[a[k]]:=by
 unfold both;rw[Qb hk,List.filter_append,List.filter_cons_of_pos h];rfl
theorem Zo6 {a b:List ByteArray}(hk:k<a.length)(h:Zdc b a[k]=false):both (a.take (k+1)) b=both (a.take k) b:=by
 unfold both;rw[Qb hk,List.filter_append,List.filter_cons_of_neg (by simp[h])];simp
theorem Znw {a b:List ByteArray}(hk:a.length<=k):both (a.take k) b=both a b:=by rw[Qe hk]
theorem ZhA (a b:List ByteArray):(both a b).length<=a.length:=List.length_filter_le _ _
def ins:List ByteArray->ByteArray->List ByteArray
 | [],n=>[n]
 | x::r,n=>if ZaF x n=true then x::ins r n else if (x.toList==n.toList)=true then x::r else n::x::r
theorem ZhB (n:ByteArray):∀l,(ins l n).length<=l.length+1
 | []=>by simp[ins]
 |
  x::r=>by
  unfold ins;have:=ZhB n r;split
  ·simp;omega
  ·split <;> simp
theorem Zkv (n:ByteArray):∀(l:List ByteArray) (k:Nat),k<=l.length->(∀j,(hj:j<l.length)->j<k->ZaF l[j] n=true)->(∀h:k<l.length,ZaF l[k] n=false/\(l[k].toList==n.toList)=false)->ins l n=l.take k++n::l.drop k
 | [],k,hk,_,_=>by simp[ins]
 |
  x::r,0,_,_,h=>by
  obtain⟨h1,h2⟩:=h (by simp);simp only[List.getElem_cons_zero]at h1 h2;rw[ins,if_neg (by simp[h1]),if_neg (by simp[h2])];rfl
 |
  x::r,k+1,hk,ha,h=>by
  have h0:=ha 0 (by simp) (by omega);simp only[List.getElem_cons_zero]at h0;rw[ins,if_pos h0,Zkv n r k (by simpa using hk) (λj hj my=>by have:=ha (j+1) (by simpa using hj) (by omega);simpa using this) (λhh=>by have:=h (by simpa using hh);simpa using this)];rfl
theorem Znx (n:ByteArray):∀(l:List ByteArray) (k:Nat),(hk:k<l.length)->(∀j,(hj:j<l.length)->j<k->ZaF l[j] n=true)->(l[k].toList==n.toList)=true->ins l n=l
 |
  x::r,0,_,_,h=>by
  simp only[List.getElem_cons_zero]at h;have e:=Zd7 h;rw[ins,if_neg (by rw[e,ZeU];simp),if_pos h]
 |
  x::r,k+1,hk,ha,h=>by
  have h0:=ha 0 (by simp) (by omega);simp only[List.getElem_cons_zero]at h0;rw[ins,if_pos h0,Znx n r k (by simpa using hk) (λj hj my=>by have:=ha (j+1) (by simpa using hj) (by omega);simpa using this) (by simpa using h)]
theorem ZpM (s:ByteArray)(k:Nat):∀j,(h:j<s.size)->k<=j->j<wEnd s k->Zar s[j]=true:=by
 induction k using wEnd.induct (s:=s) with
 |
  case1 k h hc ih =>
  intro j hj wh oI;rw[ZbY h hc]at oI;by_cases e:j=k
  ·subst e;exact hc
  ·exact ih j hj (by omega) oI
 | case2 k h hc=>intro j hj wh oI;rw[Zcr h (by simpa using hc)]at oI;omega
 | case3 k h=>intro j hj wh oI;rw[ZdJ (by omega)]at oI;omega
theorem Zoq:∀c∈marks1,c.toNat≠32:=by decide
theorem ZqJ {a b:UInt8}(h:two s k a b=true):s[k+1]'(Zga h)=b:=by
 have hr:=Zga h;unfold two at h;rw[List.isPrefixOf_iff_prefix]at h;obtain⟨t,ht⟩:=h;have h1:(s.data.toList.drop k)[1]?=some b:=by rw[←ht];rfl
 rw[List.getElem?_drop]at h1;have h2:s.data.toList[k+1]?=some s[k+1]:=by
  rw[QJ (by simpa using hr)];simp[Qx]
 rw[h2]at h1;simpa using h1
theorem ZpN (h:Zbg s k=true):∃hk:k+1<s.size,s[k+1].toNat≠32:=by
 have hk:=Zhm h;refine⟨hk,?_⟩;unfold Zbg at h;simp only[Q6]at h;rcases h with(((((h | h) | h) | h) | h) | h) | h <;> (rw[ZqJ h];decide)
theorem ZpO (hk:k<s.size)(h:ZaI s k=s.size):(s[s.size-1]'(by omega)).toNat≠32:=by
 cases hw:Zar s[k]
 ·by_cases hq:s[k].toNat=34
  ·rw[ZcY hk hw hq]at h;cases hc:tClose s (k+1) with
   | none=>rw[hc]at h;simp only at h;omega
   |
    some e =>
    rw[hc]at h;simp only at h;obtain⟨_,_,_,h1,h2⟩:=ZbA hc;have e1:e=s.size:=(by omega);subst e1;omega
  ·rw[ZcZ hk hw hq]at h;split at h
   ·omega
   ·rename_i h0;cases ht:Zbg s k
    ·by_cases hm:s[k]∈marks1
     ·rw[Zjs ht hk hm]at h;have e:k=s.size-1:=(by omega);subst e;exact Zoq _ hm
     ·exact absurd (Zif ht hk hm) h0
    ·obtain⟨h1,h2⟩:=ZpN ht;have e2:ZbK s k=2:=(by unfold ZbK;rw[if_pos ht]);rw[e2]at h;have e:k+1=s.size-1:=(by omega);intro hh;apply h2;have:s[k+1]=s[s.size-1]'(by omega):=(by congr 1);rw[this];exact hh
 ·rw[Zct hk hw]at h;split at h
  ·omega
  ·have:=ZpM s k (s.size-1) (by omega) (by omega) (by omega);rw[Zhk]at this;omega
theorem ZqK (s:ByteArray):∀(k:Nat) (sp:Bool) (n:Nat),toks s k sp n=some []->∀j,(h:j<s.size)->k<=j->s[j].toNat=32:=by
 intro k sp n;induction k,sp,n using toks.induct (s:=s) with
 |
  case1 k sp n hk h32 ih =>
  intro h j hj wh;rw[toks,dif_pos hk,if_pos h32]at h;by_cases e:j=k
  ·subst e;exact h32
  ·exact ih h j hj (by omega)
 |
  case2 k sp n hk h32 hb =>
  intro h;rw[toks,dif_pos hk,if_neg h32,if_pos hb]at h;exact absurd h (by simp)
 |
  case3 k sp n hk h32 hb ih =>
  intro h;rw[toks,dif_pos hk,if_neg h32,if_neg hb,Option.map_eq_some_iff]at h;obtain⟨l',_,h2⟩:=h;exact absurd h2 (by simp)
 | case4 k sp n hk=>intro h j hj wh;omega
theorem ZqL {t:Tok}(h:Zau s=([t],true))(h0:0<s.size)(hf:¬s[0].toNat=32)(hl:¬(s[s.size-1]'(by omega)).toNat=32):t=⟨cutKind s[0],s,false,[]⟩/\Zaj t=true:=by
 obtain⟨h1,h2⟩:=Zdt h;rw[toks,dif_pos h0,if_neg hf]at h1;split at h1
 ·exact absurd h1 (by simp)
 ·rename_i hb;rw[Option.map_eq_some_iff]at h1;obtain⟨l',h3,h4⟩:=h1;simp only[JH]at h4;obtain⟨h4,rfl⟩:=h4;have hr:=Zb7 (s:=s) (k:=0) (by omega);have hc:ZaI s 0=(s.size:Nat):=by
   by_cases e:ZaI s 0=(s.size:Nat)
   ·exact e
   ·exact absurd (ZqK s _ _ _ h3 (s.size-1) (by omega) (by omega)) hl
  have hv:=ZoO h2 h0 hf hc false;have hx:s.extract 0 s.size=s:=ByteArray.extract_zero_size;have dp:s.extract 0 (ZaI s 0).toNat=s:=by rw[hc];exact hx
  rw[hx]at hv;rw[dp]at h4;subst h4;exact⟨rfl,hv⟩
theorem Zny {t:Tok}(h:Zaj t=true):∃h0:0<t.text.size,t.text[0].toNat≠32/\(t.text[t.text.size-1]'(by omega)).toNat≠32/\t.kind=cutKind t.text[0]:=by
 obtain⟨h0,h1,h2,_⟩:=ZgD h;obtain⟨⟨_,hk⟩,_⟩:=Za9 h;exact⟨h0,h1,ZpO h0 h2,hk⟩
def ZaD (a b:Tok):Tok × Bool:=
 if Zaj a=true/\Zaj b=true then
  (
  match Zau (a.text++b.text) with
  | ([t],true)=>(⟨t.kind,t.text,a.spaced,both a.hidden b.hidden⟩,true)
  | _=>(Zaw,false))
 else (Zaw,false)
variable {a b:Tok}
theorem Zl9 (h:Zaj a=false):ZaD a b=(Zaw,false):=by unfold ZaD;rw[if_neg (by simp[h])]
theorem Zma (h:Zaj b=false):ZaD a b=(Zaw,false):=by unfold ZaD;rw[if_neg (by simp[h])]
theorem Zmb {l:List Tok}(h:Zau (a.text++b.text)=(l,false)):ZaD a b=(Zaw,false):=by
 unfold ZaD;rw[h];split
 ·split
  ·rename_i e;simp at e
  ·rfl
 ·rfl
theorem Zmc {l:List Tok}{o:Bool}(h:Zau (a.text++b.text)=(l,o))(hl:l.length≠1):ZaD a b=(Zaw,false):=by
 unfold ZaD;rw[h];split
 ·split
  ·rename_i e;simp only[QS]at e;rw[e.1]at hl;exact absurd rfl hl
  ·rfl
 ·rfl
theorem Zmd {a b t:Tok}(ha:Zaj a=true)(hb:Zaj b=true)(h:Zau (a.text++b.text)=([t],true)):ZaD a b=(⟨t.kind,t.text,a.spaced,both a.hidden b.hidden⟩,true):=by
 unfold ZaD;rw[if_pos ⟨ha,hb⟩,h]
theorem Zkw {a b u:Tok}(h:ZaD a b=(u,true)):Zaj a=true/\Zaj b=true/\∃t,Zau (a.text++b.text)=([t],true)/\u=⟨t.kind,t.text,a.spaced,both a.hidden b.hidden⟩:=by
 unfold ZaD at h;split at h
 ·rename_i hv;split at h
  ·rename_i t e;simp only[QS,and_true]at h;exact⟨hv.1,hv.2,t,e,h.symm⟩
  ·simp at h
 ·simp at h
theorem Zor {a b u:Tok}(h:ZaD a b=(u,false)):u=Zaw:=by
 unfold ZaD at h;split at h
 ·split at h
  ·simp at h
  ·simp only[QS,and_true]at h;exact h.symm
 ·simp only[QS,and_true]at h;exact h.symm
theorem ZqM (ha:Zaj a=true)(hb:Zaj b=true):∃h0:0<(a.text++b.text).size,(a.text++b.text)[0].toNat≠32/\((a.text++b.text)[(a.text++b.text).size-1]'(by omega)).toNat≠32/\a.kind=cutKind (a.text++b.text)[0]:=by
 obtain⟨a0,a1,_,ak⟩:=Zny ha;obtain⟨b0,_,b2,_⟩:=Zny hb;have hz:(a.text++b.text).size=a.text.size+b.text.size:=QK;have h0:0<(a.text++b.text).size:=by omega
 have e0:(a.text++b.text)[0]=a.text[0]:=ByteArray.getElem_append_left a0;have e1:(a.text++b.text)[(a.text++b.text).size-1]'(by omega)=b.text[b.text.size-1]'(by omega):=by
  rw[ByteArray.getElem_append_right (by omega)];congr 1;omega
 exact⟨h0,by rw[e0];exact a1,by rw[e1];exact b2,by rw[e0];exact ak⟩
theorem ZhC {a b u:Tok}(h:ZaD a b=(u,true)):Zaj u=true/\u.text=a.text++b.text/\u.kind=a.kind/\u.spaced=a.spaced/\u.hidden=both a.hidden b.hidden/\u.hidden.length<=a.hidden.length:=by
 obtain⟨ha,hb,t,ht,rfl⟩:=Zkw h;obtain⟨h0,h1,h2,hk⟩:=ZqM ha hb;obtain⟨rfl,hv⟩:=ZqL ht h0 h1 h2;refine⟨?_,rfl,hk.symm,rfl,rfl,ZhA _ _⟩;unfold Zaj at hv ha ⊢;rw[QI]at hv ha ⊢;exact⟨hv.1,ZpL ha.2 _⟩
def spc (b:Bool):List Tok->List Tok
 | []=>[]
 | t::r=>⟨t.kind,t.text,b,t.hidden⟩::r
theorem Zli (b:Bool)(l:List Tok):(spc b l).length=l.length:=by cases l <;> rfl
def isM (t:Tok)(s:List UInt8):Bool:=decide (t.kind=4) && (t.text.toList==s)
def Zcj (a:List (List Tok))(n:Int):List Tok:=a.getD n.toNat []
theorem Zfm {a:List (List Tok)}{n:Int}{k:Nat}(h:n=k)(hk:k<a.length):Zcj a n=a[k]:=by
 unfold Zcj;subst h;simp[Qv,QJ hk]
def Zc7 (m:DMacro)(k:Nat):Bool:=if h:0<k/\k-1<m.body.length then isM m.body[k-1] [35,35] else false
def ZcG (m:DMacro)(k:Nat):Bool:=if h:k+1<m.body.length then isM m.body[k+1] [35,35] else false
def ZaP (m:DMacro)(raw ready:List (List Tok))(k:Nat):List Tok × Nat × Bool:=
 if h:k<m.body.length then
  (if m.function=true/\isM m.body[k] [35]=true then
   (if h2:k+1<m.body.length then
    ([⟨(Zbl (Zcj raw (parOf m.params m.body[k+1]))).1.kind,(Zbl (Zcj raw (parOf m.params m.body[k+1]))).1.text,m.body[k].spaced,(Zbl (Zcj raw (parOf m.params m.body[k+1]))).1.hidden⟩],k+2,(Zbl (Zcj raw (parOf m.params m.body[k+1]))).2)
   else ([],k+2,false))
  else if parOf m.params m.body[k]<0 then ([m.body[k]],k+1,true)
  else if (Zc7 m k || ZcG m k)=true then (spc m.body[k].spaced (Zcj raw (parOf m.params m.body[k])),k+1,true)
  else (spc m.body[k].spaced (Zcj ready (parOf m.params m.body[k])),k+1,true))
 else ([],k+1,true)
section
variable {m:DMacro}{raw ready:List (List Tok)}{k:Nat}
theorem Zip (hk:k+1<m.body.length)(h1:m.function=true)(h2:isM (m.body[k]'(by omega)) [35]=true){u:Tok}{o:Bool}(h:Zbl (Zcj raw (parOf m.params m.body[k+1]))=(u,o)):
  ZaP m raw ready k=([⟨u.kind,u.text,(m.body[k]'(by omega)).spaced,u.hidden⟩],k+2,o):=by
 unfold ZaP;rw[dif_pos (by omega),if_pos ⟨h1,h2⟩,dif_pos hk,h]
theorem Ziq (hk:k<m.body.length)(h1:¬(m.function=true/\isM m.body[k] [35]=true))(h2:parOf m.params m.body[k]<0):ZaP m raw ready k=([m.body[k]],k+1,true):=by
 unfold ZaP;rw[dif_pos hk,if_neg h1,if_pos h2]
theorem ZjH (hk:k<m.body.length)(h1:¬(m.function=true/\isM m.body[k] [35]=true))(h2:¬parOf m.params m.body[k]<0)(h3:(Zc7 m k || ZcG m k)=true):ZaP m raw ready k=(spc m.body[k].spaced (Zcj raw (parOf m.params m.body[k])),k+1,true):=by
 unfold ZaP;rw[dif_pos hk,if_neg h1,if_neg h2,if_pos h3]
theorem ZhD (hk:k<m.body.length)(h1:¬(m.function=true/\isM m.body[k] [35]=true))(h2:¬parOf m.params m.body[k]<0)(h3:(Zc7 m k || ZcG m k)=false):ZaP m raw ready k=(spc m.body[k].spaced (Zcj ready (parOf m.params m.body[k])),k+1,true):=by
 unfold ZaP;rw[dif_pos hk,if_neg h1,if_neg h2,if_neg (by simp[h3])]
theorem ZgI (m:DMacro)(raw ready:List (List Tok))(k:Nat):k<(ZaP m raw ready k).2.1:=by
 unfold ZaP;split
 ·split
  ·split <;> (show k<k+2;omega)
  ·split
   ·show k<k+1;omega
   ·split <;> (show k<k+1;omega)
 ·show k<k+1;omega
end
def ZaQ (m:DMacro)(raw ready:List (List Tok))(k:Nat)(out:List Tok)(emp paste:Bool):List Tok × Bool:=
 if h:k<m.body.length then
  (
  if isM m.body[k] [35,35]=true/\paste=false then ZaQ m raw ready (k+1) out emp true
  else if (ZaP m raw ready k).2.2=false then ([],false)
  else if paste=true/\emp=false/\0<(ZaP m raw ready k).1.length then
   (if (ZaD (out.getLastD Zaw) ((ZaP m raw ready k).1.headD Zaw)).2=true then
    ZaQ m raw ready (ZaP m raw ready k).2.1 (out.dropLast++(ZaD (out.getLastD Zaw) ((ZaP m raw ready k).1.headD Zaw)).1::(ZaP m raw ready k).1.tail) emp false
    else ([],false))
  else ZaQ m raw ready (ZaP m raw ready k).2.1 (out++(ZaP m raw ready k).1) (decide ((ZaP m raw ready k).1.length=0) && (emp || !paste)) false)
 else (out,true)
termination_by m.body.length-k
decreasing_by
 all_goals first | omega | (refine Nat.sub_lt_sub_left h ?_;exact ZgI _ _ _ _)
section
variable {m:DMacro}{raw ready:List (List Tok)}{k:Nat}{out part:List Tok}{emp paste:Bool}{nx:Nat}{ok:Bool}
theorem Zf5 (h:m.body.length<=k):ZaQ m raw ready k out emp paste=(out,true):=by rw[ZaQ,dif_neg (by omega)]
theorem ZhE (hk:k<m.body.length)(h1:isM m.body[k] [35,35]=true):ZaQ m raw ready k out emp false=ZaQ m raw ready (k+1) out emp true:=by
 rw[ZaQ,dif_pos hk,if_pos ⟨h1,rfl⟩]
theorem Zhg (hk:k<m.body.length)(h1:¬(isM m.body[k] [35,35]=true/\paste=false))(hp:ZaP m raw ready k=(part,nx,false)):ZaQ m raw ready k out emp paste=([],false):=by
 rw[ZaQ,dif_pos hk,if_neg h1,if_pos (by rw[hp])]
theorem Zkx (hk:k<m.body.length)(h1:¬(isM m.body[k] [35,35]=true/\paste=false))(hp:ZaP m raw ready k=(part,nx,true))(h2:paste=true/\emp=false/\0<part.length){x:Tok}(h3:ZaD (out.getLastD Zaw) (part.headD Zaw)=(x,false)):ZaQ m raw ready k out emp paste=([],false):=by
 rw[ZaQ,dif_pos hk,if_neg h1,if_neg (by rw[hp];simp),if_pos (by rw[hp];exact h2),hp];simp only[h3];rw[if_neg (by simp)]
theorem ZiT (hk:k<m.body.length)(h1:¬(isM m.body[k] [35,35]=true/\paste=false))(hp:ZaP m raw ready k=(part,nx,true))(h2:paste=true/\emp=false/\0<part.length){x:Tok}(h3:ZaD (out.getLastD Zaw) (part.headD Zaw)=(x,true)):
  ZaQ m raw ready k out emp paste=ZaQ m raw ready nx (out.dropLast++x::part.tail) emp false:=by
 rw[ZaQ,dif_pos hk,if_neg h1,if_neg (by rw[hp];simp),if_pos (by rw[hp];exact h2),hp];simp only[h3,if_true]
theorem Zf6 (hk:k<m.body.length)(h1:¬(isM m.body[k] [35,35]=true/\paste=false))(hp:ZaP m raw ready k=(part,nx,true))(h2:¬(paste=true/\emp=false/\0<part.length)):
  ZaQ m raw ready k out emp paste=ZaQ m raw ready nx (out++part) (decide (part.length=0) && (emp || !paste)) false:=by
 rw[ZaQ,dif_pos hk,if_neg h1,if_neg (by rw[hp];simp),if_neg (by rw[hp];exact h2),hp]
end
def ZaG (m:DMacro)(a:List (List Tok)):Bool:=decide (a.length=m.params.length) && a.all Zam
def Zaz (m:DMacro)(raw ready:List (List Tok)):List Tok × Bool:=
 if Zaq m=true/\ZaG m raw=true/\ZaG m ready=true then
  (if (ZaQ m raw ready 0 [] true false).2=false\/240<(ZaQ m raw ready 0 [] true false).1.length then ([],false) else ZaQ m raw ready 0 [] true false)
 else ([],false)
variable {m:DMacro}
theorem ZcW {raw ready:List (List Tok)}(h:¬(Zaq m=true/\ZaG m raw=true/\ZaG m ready=true)):Zaz m raw ready=([],false):=by unfold Zaz;rw[if_neg h]
theorem ZgJ {raw ready:List (List Tok)}{l:List Tok}(h:ZaQ m raw ready 0 [] true false=(l,false)):Zaz m raw ready=([],false):=by
 unfold Zaz;split
 ·rw[if_pos (by rw[h];exact .inl rfl)]
 ·rfl
theorem Zjj {raw ready:List (List Tok)}{l:List Tok}{o:Bool}(h:ZaQ m raw ready 0 [] true false=(l,o))(hl:240<l.length):Zaz m raw ready=([],false):=by
 unfold Zaz;split
 ·rw[if_pos (by rw[h];exact .inr hl)]
 ·rfl
theorem Zky {raw ready:List (List Tok)}{l:List Tok}(h0:Zaq m=true/\ZaG m raw=true/\ZaG m ready=true)(h:ZaQ m raw ready 0 [] true false=(l,true))(hl:¬240<l.length):Zaz m raw ready=(l,true):=by
 unfold Zaz;rw[if_pos h0,if_neg (by rw[h];simpa using hl),h]
theorem Zce (b:Nat):∀(vs:List Value) (w:World) (o:Nat),Zgc w b o vs=w.setCells b o vs
 | [],_,_=>rfl
 | v::vs,w,o=>Zce b vs _ (o+1)
theorem ZqN {base e g n cap size:Nat}{xs:List Value}{w:World}(h:w.ownsRow base e size (.slice (some ⟨g,0,none⟩) n cap) n xs)(hn:n+1<=cap):
  ∃Z,Z.length=size/\w.ownsRow base e size (.slice (some ⟨g,0,none⟩) (n+1) cap) (n+1) (xs++Z):=by
 rcases h.2 with⟨h',_⟩ | ⟨g',dF,cur,h',q2,q3,q4,q5,q6,q7⟩
 ·cases h'
 ·simp only[QT,Qi,Addr.mk.injEq,and_true,true_and]at h';obtain⟨rfl,rfl⟩:=h';have cC:(n+1)*size<=cap*size:=Nat.mul_le_mul_right _ hn;have hsn:(n+1)*size=n*size+size:=Nat.succ_mul _ _;refine⟨(cur.toList.drop (n*size)).take size,?_,?_,.inr ⟨g,cap,cur,rfl,q2,q3,hn,q5,q6,?_⟩⟩
  ·rw[Qd,QM,Array.length_toList,q6];omega
  ·rw[QC,h.1,Qd,QM,Array.length_toList,q6];omega
  ·rw[hsn,List.take_add,q7]
theorem Zos {A D X Z:List Value}(hz:Z.length=X.length)(hy:(A++D++Z).length=A.length+X.length+D.length):Zch (Zch (A++D++Z) (A.length+X.length) D) A.length X=A++(X++D):=by
 have h1:A++D++Z=A++((D++Z).take X.length++(D++Z).drop X.length):=by rw[List.take_append_drop,Qn]
 have ht:((D++Z).take X.length).length=X.length:=by rw[Qd,QC];omega
 have hd:((D++Z).drop X.length).length=D.length:=by rw[QM,QC];omega
 have h2:A++D++Z=(A++(D++Z).take X.length)++((D++Z).drop X.length++[]):=by rw[h1,Q5,Qn]
 have h3:(A++(D++Z).take X.length).length=A.length+X.length:=by rw[QC,ht]
 rw[h2,←h3,Zcu _ _ _ _ hd,Q5,Qn];exact Zcu X A _ D ht
theorem Zot {A X D Z1 Z2:List Value}(h1:Z1.length=X.length)(h2:Z2.length=D.length):Zch (Zch (A++(Z1++Z2)) A.length X) (A.length+X.length) D=A++(X++D):=by
 rw[Zcu X A Z1 Z2 h1,←Qn,←QC];have:=Zcu D (A++X) Z2 [] h2;rw[Q5,Q5]at this;rw[this,Qn]
theorem ZjI {P:Program}(w:World)(base:Nat)(t ty e:TypeId)(i:TypeInfo)(z:Value)(size bytes:Nat)(ht:P.underlying t=some (.slice e))(hi:P.info? e=some i)(hz:i.zero=some z)
  (uO:i.size=size) (hby:i.bytes=bytes) (ev:z.cells.size=size) (cC:0<size)
  (v:Value) (n:Nat) (xs:List Value) (ag:w.ownsRow base e size v n xs)
  (a:Addr) (m c:Nat) (kQ:List Value) (hl:kQ.length=m*size) (oc:∀j u,kQ[j]?=some u->w.cell? (a.add j)=some u) (h1:∀u∈kQ,u.oneCell'=true)
  (dz:n+m<=maxLen) (aO:(n+m)*bytes<=140737488355328) (aK:base<=w.heap.size) :
  ∃v' w',(Builtin.append_ #[t,t] ty #[v,.slice (some a) m c]).run P w=.ok v' w'/\w'.ownsRow base e size v' (n+m) (xs++kQ)/\w.grownBy w' v.ownBlock/\(v'.ownBlock=v.ownBlock\/v'.ownBlock=some w.heap.size):=by
 obtain⟨v',w',hr,h2,h3,h4⟩:=Go.run_append_own (P:=P) w base t ty e i z size bytes ht hi hz uO hby ev cC v n xs ag a m c kQ hl oc h1 dz aO aK;refine⟨v',w',hr,h2,h3,?_⟩;have hsmall:n+m<=9223372036854775807:=by simp only[maxLen]at dz;omega
 subst uO;subst hby;rcases ag.2 with⟨rfl,rfl⟩ | ⟨g,cap,cur,rfl,wW,hg,j7,gL,aS,lx⟩
 ·have hx:xs=[]:=List.eq_nil_of_length_eq_zero (by simpa using ag.1);subst hx;by_cases hm:m=0
  ·exact .inl (by rw[h4.2 ⟨rfl,hm⟩])
  ·have jE:=_root_.Go.run_append_nil (P:=P) w t ty e i z ht hi hz a m c kQ hl oc (by omega) (by omega) (by have hb:=aO;simp only[QX]at hb;omega);rw[jE]at hr;obtain⟨rfl,_⟩:=Result.ok.inj hr;exact .inr rfl
 ·by_cases kz:n+m<=cap
  ·have gv:n*i.size+kQ.length<=cur.size:=(by rw[hl,aS,←Nat.add_mul];exact Nat.mul_le_mul_right _ kz);have jE:=Go.run_append_room (P:=P) w t ty e i ht hi g n cap cur hg a m c kQ hl oc h1 kz gv;rw[jE]at hr;obtain⟨rfl,_⟩:=Result.ok.inj hr;exact .inl rfl
  ·have holds:∀j u,xs[j]?=some u->w.cell? ((⟨g,0,none⟩:Addr).add j)=some u:=ag.cells (g:=g) rfl;have jE:=_root_.Go.run_append_grow (P:=P) w t ty e i z ht hi hz ⟨g,0,none⟩ n cap xs ag.1 holds a m c kQ hl oc (by omega) (by omega) (growslice_fits (by omega) aO);rw[jE]at hr;obtain⟨rfl,_⟩:=Result.ok.inj hr;exact .inr rfl
structure RowN {α:Type}(S:Shape α)(base:Nat)(e:TypeId)(v:Value)(L:List (Elem α))(w:World):Prop where
 row:w.ownsRow base e S.m v L.length (L.flatMap (·.cells))
 len:∀x∈L,x.cells.length=S.m
 el:∀x∈L,S.R w x.cells x.d x.fp
 ap:∀x∈L,∀b∈x.fp,v.ownBlock≠some b
section
variable {α:Type}{S:Shape α}{base:Nat}{e:TypeId}{v v':Value}{L:List (Elem α)}{w w':World}
theorem RowN.nil (S:Shape α)(base:Nat)(e:TypeId)(w:World):RowN S base e (.slice none 0 0) [] w:=⟨World.ownsRow_nil _ _ _ _,by simp,by simp,by simp⟩
theorem RowN.lit0 (S:Shape α)(e:TypeId)(w:World){base:Nat}(hb:base<=w.heap.size):RowN S base e (.slice (some ⟨w.heap.size,0,none⟩) 0 0) [] (w.alloc (.cells #[] e)) where
 row:=Q1 (base:=base) (e:=e) (size:=S.m) w #[] 0 hb (by unfold maxLen;omega) (by simp)
 len:=by simp
 el:=by simp
 ap:=by simp
theorem RowN.lit1 {x:Elem α}{base:Nat}(hb:base<=w.heap.size)(hl:x.cells.length=S.m)(hR:S.R w x.cells x.d x.fp):RowN S base e (.slice (some ⟨w.heap.size,0,none⟩) 1 1) [x] (w.alloc (.cells x.cells.toArray e)) where
 row:=by
  have:=Q1 (base:=base) (e:=e) (size:=S.m) w x.cells.toArray 1 hb (by unfold maxLen;omega) (by simpa using hl);simpa using this
 len:=λy hy=>by obtain rfl:=Qm hy;exact hl
 el:=λy hy=>by obtain rfl:=Qm hy;exact S.below hR (Zab w _)
 ap:=λy hy b aE h=>by
  obtain rfl:=Qm hy;have:=S.lt hR b aE;simp only[Value.ownBlock,Qi]at h;omega
theorem RowN.same (h:RowN S base e v L w)(hv:∀g,v.ownBlock=some g->w'.heap[g]?=w.heap[g]?)(hb:∀x∈L,∀b∈x.fp,w'.heap[b]?=w.heap[b]?):RowN S base e v L w' where
 row:=ZbR h.row hv
 len:=h.len
 el:=λx hx=>S.frame (λb aE=>hb x hx b aE) (h.el x hx)
 ap:=h.ap
theorem RowN.below (h:RowN S base e v L w)(hb:Below w.heap.size w w'):RowN S base e v L w':=
 h.same (λg hg=>hb.block g (h.row.lt g hg).2) (λx hx b aE=>hb.block b (S.lt (h.el x hx) b aE))
theorem RowN.kept {K:List Nat}(h:RowN S base e v L w)(hk:Kept K w w')(hv:∀g,v.ownBlock=some g->g∉K)(hb:∀x∈L,∀b∈x.fp,b∉K):RowN S base e v L w':=
 h.same (λg hg=>hk.block g (h.row.lt g hg).2 (hv g hg)) (λx hx b aE=>hk.block b (S.lt (h.el x hx) b aE) (hb x hx b aE))
theorem RowN.lower {base':Nat}(h:RowN S base e v L w)(hl:base'<=base):RowN S base' e v L w where
 row:=⟨h.row.1,by
  rcases h.row.2 with h0 | ⟨g,cap,cur,h1,h2,h3⟩
  ·exact .inl h0
  ·exact .inr ⟨g,cap,cur,h1,QZ hl h2,h3⟩⟩
 len:=h.len
 el:=h.el
 ap:=h.ap
theorem RowN.val (h:RowN S base e v L w):∃a cap,v=.slice a L.length cap/\L.length<=cap/\cap<=maxLen/\(0<L.length->∃g,a=some ⟨g,0,none⟩/\base<=g/\g<w.heap.size):=by
 rcases h.row.2 with⟨rfl,h0⟩ | ⟨g,cap,cur,rfl,hb,hg,hn,hc,_⟩
 ·exact⟨none,0,by rw[h0],by omega,by simp,λh=>by omega⟩
 ·exact⟨_,cap,rfl,hn,hc,λ_=>⟨g,rfl,hb,(Qg hg).1⟩⟩
theorem RowN.mine (h:RowN S base e v L w):∀b,v.ownBlock=some b->base<=b/\b<w.heap.size:=λb hb=>h.row.lt b hb
theorem RowN.read (h:RowN S base e v L w):∃fp,(Zaa S).R w [v] (L.map (·.d)) fp/\(∀b∈fp,v.ownBlock=some b\/∃x∈L,b∈x.fp)/\(Own w base (L.flatMap (·.fp))->Own w base fp):=by
 obtain⟨fp,h1,h2,h3⟩:=Zbt h.row λx hx=>⟨h.len x hx,h.el x hx⟩;refine⟨fp,h1,λb hb=>?_,λho=>h3 ho λg hg hm=>?_⟩
 ·rcases h2 b hb with h | h
  ·exact .inl h
  ·obtain⟨x,hx,aE⟩:=QO.1 h;exact .inr ⟨x,hx,aE⟩
 ·obtain⟨x,hx,aE⟩:=QO.1 hm;exact h.ap x hx g aE hg
theorem RowN.len_eq {g n cap:Nat}(h:RowN S base e (.slice (some ⟨g,0,none⟩) n cap) L w):L.length=n:=by
 rcases h.row.2 with⟨h',_⟩ | ⟨g',dF,cur,h',_⟩
 ·cases h'
 ·simp only[QT]at h';exact h'.2.1.symm
theorem RowN.frozen {g n cap:Nat}(h:RowN S base e (.slice (some ⟨g,0,none⟩) n cap) L w)(o:Nat):w.frozen? ⟨g,o,none⟩=false:=by
 rcases h.row.2 with⟨h',_⟩ | ⟨g',dF,cur,h',_,hg,_⟩
 ·cases h'
 ·simp only[QT,Qi,Addr.mk.injEq,and_true]at h';obtain⟨rfl,_⟩:=h';exact frozen_of_row w g o cur e hg
theorem RowN.cellAt {g n cap:Nat}(h:RowN S base e (.slice (some ⟨g,0,none⟩) n cap) L w){k:Nat}(hk:k<L.length){j:Nat}(hj:j<S.m){u:Value}(hu:L[k].cells[j]?=some u):w.cell? ⟨g,k*S.m+j,none⟩=some u:=by
 have hn:L.length=n:=h.len_eq;subst hn;rw[h.row.cellAt (k*S.m+j) (by have:(k+1)*S.m<=L.length*S.m:=Nat.mul_le_mul_right _ hk;rw[Nat.succ_mul]at this;omega)];exact(Zb4 (f:=Elem.cells) h.len hk hj).trans hu
theorem RowN.set {g n cap:Nat}(h:RowN S base e (.slice (some ⟨g,0,none⟩) n cap) L w){k:Nat}(hk:k<L.length){j:Nat}(hj:j<S.m)(u:Value)(x':Elem α)(hx:x'.cells=L[k].cells.set j u)
  (hR:S.R w x'.cells x'.d x'.fp) (lg:g∉x'.fp):RowN S base e (.slice (some ⟨g,0,none⟩) n cap) (L.set k x') (w.setCell ⟨g,k*S.m+j,none⟩ u):=by
 have hn:L.length=n:=h.len_eq;have jj:∀b,b≠g->(w.setCell ⟨g,k*S.m+j,none⟩ u).heap[b]?=w.heap[b]?:=λb hb=>QV _ _ _ _ hb;have di:∀x∈L.set k x',x=x'\/x∈L:=λx hx=>by
  rcases List.mem_or_eq_of_mem_set hx with h | h
  ·exact .inr h
  ·exact .inl h
 have cD:∀x∈L.set k x',∀b∈x.fp,b≠g:=λx bJ b hb e=>by
  subst e;rcases di x bJ with rfl | bJ
  ·exact lg hb
  ·exact h.ap x bJ b hb rfl
 refine⟨?_,λx bJ=>?_,λx bJ=>S.frame (λb hb=>jj b (cD x bJ b hb)) ?_,λx bJ b hb hv=>?_⟩
 ·have ai:=h.row;rw[hn]at ai;have:=(ai.stored (k*S.m+j) u).1;rw[Zfx h.len hk hj u x' hx]at this;rw[List.length_set,hn];exact this
 ·rcases di x bJ with rfl | bJ
  ·rw[hx,List.length_set];exact h.len _ (QE hk)
  ·exact h.len x bJ
 ·rcases di x bJ with rfl | bJ
  ·exact hR
  ·exact h.el x bJ
 ·simp only[Value.ownBlock,Qi]at hv;exact cD x bJ b hb hv.symm
theorem RowN.put {g n cap:Nat}(h:RowN S base e (.slice (some ⟨g,0,none⟩) n cap) L w){k:Nat}(hk:k<L.length)(x':Elem α)(hl:x'.cells.length=S.m)(hR:S.R w x'.cells x'.d x'.fp)(lg:g∉x'.fp):
  RowN S base e (.slice (some ⟨g,0,none⟩) n cap) (L.set k x') (Zgc w g (k*S.m) x'.cells):=by
 have hn:L.length=n:=h.len_eq;have hK:=Zcv (g:=g) x'.cells w (k*S.m);have di:∀x∈L.set k x',x=x'\/x∈L:=λx hx=>by
  rcases List.mem_or_eq_of_mem_set hx with h | h
  ·exact .inr h
  ·exact .inl h
 have cD:∀x∈L.set k x',∀b∈x.fp,b≠g:=λx bJ b hb e=>by
  subst e;rcases di x bJ with rfl | bJ
  ·exact lg hb
  ·exact h.ap x bJ b hb rfl
 have oF:∀x∈L.set k x',x.cells.length=S.m/\S.R w x.cells x.d x.fp:=λx bJ=>by
  rcases di x bJ with rfl | bJ
  ·exact⟨hl,hR⟩
  ·exact⟨h.len x bJ,h.el x bJ⟩
 refine⟨?_,λx bJ=>(oF x bJ).1,λx bJ=>S.frame (λb hb=>hK.block b (S.lt (oF x bJ).2 b hb) (by simp;exact cD x bJ b hb)) (oF x bJ).2,λx bJ b hb hv=>?_⟩
 ·have ai:=h.row;rw[hn]at ai;have r1:=ZcM x'.cells w _ (k*S.m) ai;have wX:L.flatMap (·.cells)=(L.take k).flatMap (·.cells)++(L[k].cells++(L.drop (k+1)).flatMap (·.cells)):=by
   have e0:L=L.take k++(L[k]::L.drop (k+1)):=by rw[←Qj hk,List.take_append_drop]
   conv=>lhs;rw[e0]
   rw[Qo,Qw]
  have tG:(L.set k x').flatMap (·.cells)=(L.take k).flatMap (·.cells)++(x'.cells++(L.drop (k+1)).flatMap (·.cells)):=by
   rw[List.set_eq_take_append_cons_drop,if_pos hk,Qo,Qw]
  have hA:((L.take k).flatMap (·.cells)).length=k*S.m:=by rw[ZaR (f:=Elem.cells) (m:=S.m) (λy hy=>h.len y (JC hy)),Qd];congr 1;omega
  have e1:=Zcu x'.cells ((L.take k).flatMap (·.cells)) L[k].cells ((L.drop (k+1)).flatMap (·.cells)) (by rw[hl];exact h.len _ (QE hk));rw[hA,←wX,←tG]at e1;rw[e1]at r1;rw[List.length_set,hn];exact r1
 ·simp only[Value.ownBlock,Qi]at hv;exact cD x bJ b hb hv.symm
theorem RowN.appended (h:RowN S base e v L w){X:List (Elem α)}(ai:w'.ownsRow base e S.m v' (L++X).length ((L++X).flatMap (·.cells)))(hg:w.grownBy w' v.ownBlock)(hp:v'.ownBlock=v.ownBlock\/v'.ownBlock=some w.heap.size)
  (hX:∀x∈X,x.cells.length=S.m/\S.R w x.cells x.d x.fp/\∀b∈x.fp,v.ownBlock≠some b):RowN S base e v' (L++X) w':=by
 have az:∀x∈L++X,x.cells.length=S.m/\S.R w x.cells x.d x.fp/\∀b∈x.fp,v.ownBlock≠some b:=λx hx=>by
  rcases Qa hx with hx | hx
  ·exact⟨h.len x hx,h.el x hx,h.ap x hx⟩
  ·exact hX x hx
 refine⟨ai,λx hx=>(az x hx).1,λx hx=>?_,λx hx b hb=>?_⟩
 ·exact S.frame (λb hb=>hg.block b (S.lt (az x hx).2.1 b hb) λhv=>(az x hx).2.2 b hb hv.symm) (az x hx).2.1
 ·rcases hp with hp | hp
  ·rw[hp];exact(az x hx).2.2 b hb
  ·rw[hp];intro h2;simp only[Qi]at h2;have:=S.lt (az x hx).2.1 b hb;omega
end
variable {α:Type}{S:Shape α}{P:Program}{t e:TypeId}{z:Value}{bytes:Nat}
theorem ZcC (ti:TI P t e z S.m bytes)(ev:z.cells.size=S.m)(h0:0<S.m)(w:World){L X:List (Elem α)}{o:Oper}{a:Act}{K:Act->World->Prop}{Q:Exit->Act->World->Prop}
  (s y:Operand) (ho:o.op=.call { callee:=.builtin .append,args:=#[s,y],argTypes:=#[t,t] })
  (base:Nat) (v:Value) (hs:a.eval s=v) (ag:RowN S base e v L w) (ad:Addr) (m c:Nat) (hy:a.eval y=.slice (some ad) m c) (hm:X.length=m)
  (hX:∀x∈X,x.cells.length=S.m/\S.R w x.cells x.d x.fp/\∀b∈x.fp,v.ownBlock≠some b) (h1:∀x∈X,∀u∈x.cells,u.oneCell'=true) (aJ:∀j u,(X.flatMap (·.cells))[j]?=some u->w.cell? (ad.add j)=some u)
  (dz:L.length+m<=maxLen) (aO:(L.length+m)*bytes<=140737488355328) (aK:base<=w.heap.size)
  (h:∀v' w',RowN S base e v' (L++X) w'->w.grownBy w' v.ownBlock->(v'.ownBlock=v.ownBlock\/v'.ownBlock=some w.heap.size)->K (a.put o.dst v') w'):o.wp P a w K Q:=by
 obtain⟨i,hi,cI,dQ,dZ⟩:=info_parts ti.2;subst hm;obtain⟨v',w',hr,r1,r2,r3⟩:=ZjI (P:=P) w base t o.type e i z S.m bytes ti.1 hi cI dQ dZ ev h0 v L.length _ ag.row ad X.length c (X.flatMap (·.cells)) (ZaR (f:=Elem.cells) λx hx=>(hX x hx).1) aJ
  (λu hu=>by obtain⟨x,hx,hu⟩:=QO.1 hu;exact h1 x hx u hu) dz aO aK
 unfold Oper.wp execOp;simp only[ho,resolve,invoke,builtin,Sem.run_bind,Sem.run_pure,Result.andThen_ok,List.map_toArray,QL,QN,hs,hy,hr];refine h v' w' (ag.appended ?_ r2 r3 hX) r2 r3;rw[QC,Qo];exact r1
theorem ZaT (ti:TI P t e z S.m bytes)(ev:z.cells.size=S.m)(h0:0<S.m)(w:World){L X:List (Elem α)}{ops:Array Oper}{rest:List Oper}{o:Oper}{a:Act}{Q:Exit->Act->World->Prop}
  (hg:o.guard=none) (s y:Operand) (ho:o.op=.call { callee:=.builtin .append,args:=#[s,y],argTypes:=#[t,t] })
  (base:Nat) (v:Value) (hs:a.eval s=v) (ag:RowN S base e v L w) (ad:Addr) (m c:Nat) (hy:a.eval y=.slice (some ad) m c) (hm:X.length=m)
  (hX:∀x∈X,x.cells.length=S.m/\S.R w x.cells x.d x.fp/\∀b∈x.fp,v.ownBlock≠some b) (h1:∀x∈X,∀u∈x.cells,u.oneCell'=true) (aJ:∀j u,(X.flatMap (·.cells))[j]?=some u->w.cell? (ad.add j)=some u)
  (dz:L.length+m<=maxLen) (aO:(L.length+m)*bytes<=140737488355328) (aK:base<=w.heap.size)
  (h:∀v' w',RowN S base e v' (L++X) w'->w.grownBy w' v.ownBlock->(v'.ownBlock=v.ownBlock\/v'.ownBlock=some w.heap.size)->wpList P ops Q rest (a.put o.dst v') w'):wpList P ops Q (o::rest) a w:=
 wpList_plain hg λ_ hK=>ZcC ti ev h0 w s y ho base v hs ag ad m c hy hm hX h1 aJ dz aO aK λv' w' h2 h3 h4=>hK _ _ (h v' w' h2 h3 h4)
theorem ZgK {w:World}(base:Nat)(t ty e:TypeId)(i:TypeInfo)(size c:Nat)(ht:P.underlying t=some (.slice e))(hi:P.info? e=some i)
  (v:Value) (n:Nat) (xs:List Value) (ag:w.ownsRow base e size v n xs):(Builtin.append_ #[t,t] ty #[v,.slice none 0 c]).run P w=.ok v w:=by
 rcases ag.2 with⟨rfl,rfl⟩ | ⟨g,cap,cur,rfl,_,_,j7,_⟩
 ·simp[Builtin.append_,run_underlying ht,sizeOf,typeInfo,hi,Builtin.lenOf,Builtin.firstCells]
 ·simp[Builtin.append_,run_underlying ht,sizeOf,typeInfo,hi,Builtin.lenOf,Builtin.firstCells,j7,storeCells]
theorem elems_in {w:World}{u:Value}{M:List α}{fp:List Nat}(H:(Zaa S).R w [u] M fp):
  ∃(X:List (Elem α)) (a:Option Addr) (cap:Nat),X.map (·.d)=M/\X.length=M.length/\u=.slice a M.length cap/\M.length<=maxLen/\(∀x∈X,x.cells.length=S.m/\S.R w x.cells x.d x.fp/\∀b∈x.fp,b∈fp) /\
   (0<M.length->∃b off,a=some ⟨b,off,none⟩/\b<w.heap.size/\∀k,(hk:k<X.length)->ElemAt w b off S.m k X[k].cells):=by
 obtain⟨a,cap,rfl,hc,hm,ai⟩:=Zac H;by_cases h0:0<M.length
 ·obtain⟨b,off,bA,rfl,hb,eY,he⟩:=ai h0;have eg:∀k:Fin M.length,∃x:Elem α,x.d=M[k.1]/\x.fp=bA k.1/\ElemAt w b off S.m k.1 x.cells/\S.R w x.cells x.d x.fp:=λk=>by
   obtain⟨es,hE,hR⟩:=he k.1 k.2;exact⟨⟨es,M[k.1],bA k.1⟩,rfl,rfl,hE,hR⟩
  let X:List (Elem α):=List.ofFn λk:Fin M.length=>(eg k).choose
  have eH:X.length=M.length:=by simp[X]
  have hX:∀k,(hk:k<X.length)->∃hk':k<M.length,X[k]=(eg ⟨k,hk'⟩).choose:=λk hk=>⟨by omega,by simp[X]⟩;refine⟨X,_,cap,?_,eH,rfl,by omega,λx hx=>?_,λ_=>⟨b,off,rfl,hb,λk hk=>?_⟩⟩
  ·apply List.ext_getElem
   ·simp[eH]
   ·intro k h1 h2;rw[JF];obtain⟨hk',e⟩:=hX k (by simpa using h1);rw[e];exact(eg ⟨k,hk'⟩).choose_spec.1
  ·obtain⟨k,hk,rfl⟩:=QY hx;obtain⟨hk',e⟩:=hX k hk;obtain⟨s1,s2,s3,s4⟩:=(eg ⟨k,hk'⟩).choose_spec;rw[e];refine⟨s3.1,s4,λc hc=>?_⟩;rw[s2]at hc;rw[eY];exact List.mem_cons_of_mem _ (QO.2 ⟨k,List.mem_range.2 hk',hc⟩)
  ·obtain⟨hk',e⟩:=hX k hk;rw[e];exact(eg ⟨k,hk'⟩).choose_spec.2.2.1
 ·have hM:M=[]:=QU.1 (by omega);subst hM;exact⟨[],a,cap,rfl,rfl,rfl,by unfold maxLen;simp,by simp,λh=>absurd h (by simp)⟩
theorem Zgt (ti:TI P t e z S.m bytes)(ev:z.cells.size=S.m)(h0:0<S.m)(cY:∀w cs x fp,S.R w cs x fp->∀u∈cs,u.oneCell'=true)(w:World){L:List (Elem α)}{o:Oper}{a:Act}{K:Act->World->Prop}{Q:Exit->Act->World->Prop}
  (s y:Operand) (ho:o.op=.call { callee:=.builtin .append,args:=#[s,y],argTypes:=#[t,t] })
  (base:Nat) (v u:Value) (M:List α) (fp:List Nat) (hs:a.eval s=v) (ag:RowN S base e v L w) (hy:a.eval y=u) (HM:(Zaa S).R w [u] M fp) (eY:∀b∈fp,v.ownBlock≠some b)
  (dz:L.length+M.length<=maxLen) (aO:(L.length+M.length)*bytes<=140737488355328) (aK:base<=w.heap.size)
  (h:∀v' X w',X.map (·.d)=M->(∀x∈X,∀b∈x.fp,b∈fp)->RowN S base e v' (L++X) w'->w.grownBy w' v.ownBlock->(v'.ownBlock=v.ownBlock\/v'.ownBlock=some w.heap.size)->K (a.put o.dst v') w'):o.wp P a w K Q:=by
 obtain⟨X,ad,cap,qm,eH,rfl,hmm,hX,df⟩:=elems_in HM;rw[←eH]at dz aO;have hX2:∀x∈X,x.cells.length=S.m/\S.R w x.cells x.d x.fp/\∀b∈x.fp,v.ownBlock≠some b:=λx hx=>⟨(hX x hx).1,(hX x hx).2.1,λc hc=>eY c ((hX x hx).2.2 c hc)⟩;by_cases hM:0<M.length
 ·obtain⟨b,off,rfl,hb,hE⟩:=df hM;refine ZcC ti ev h0 w (X:=X) s y ho base v hs ag ⟨b,off,none⟩ M.length cap hy eH hX2 (λx hx=>cY _ _ _ _ (hX x hx).2.1) ?_ (by rw[←eH];exact dz) (by rw[←eH];exact aO) aK λv' w' r1 r2 r3=>h v' X w' qm (λx hx=>(hX x hx).2.2) r1 r2 r3;intro j u hj;have lj:j<X.length*S.m:=by
   have:=(Qq.1 hj).1
   rwa [ZaR (f:=Elem.cells) λx hx=>(hX x hx).1]at this
  have hk:j / S.m<X.length:=Nat.div_lt_of_lt_mul (by rw[Nat.mul_comm];exact lj);have hr:j % S.m<S.m:=Nat.mod_lt _ h0;have iF:j / S.m*S.m+j % S.m=j:=Nat.div_add_mod' _ _;rw[←iF,Zb4 (f:=Elem.cells) (λx hx=>(hX x hx).1) hk hr]at hj;have:=(hE (j / S.m) hk).2 (j % S.m) hr;rw[Nat.add_assoc,iF]at this;rw[JN,this];exact hj
 ·have qg:X=[]:=QU.1 (by omega);have zQ:M.length=0:=by omega
  subst qg;obtain⟨i,hi,cI,dQ,dZ⟩:=info_parts ti.2;have gn:K (a.put o.dst v) w:=h v [] w (by simpa using qm) (by simp) (by simpa using ag) ⟨rfl,rfl,rfl,QA _,λ_ _ _=>rfl⟩ (.inl rfl);rw[zQ]at hy;cases ad with
  |
   none =>
   have gQ:=ZgK (P:=P) (w:=w) base _ o.type _ i S.m cap ti.1 hi v L.length _ ag.row;unfold Oper.wp;simp[execOp,ho,resolve,invoke,builtin,hs,hy,gQ,Result.andThen];exact gn
  |
   some ad =>
   exact ZcC ti ev h0 w (X:=[]) s y ho base v hs ag ad 0 cap hy rfl (by simp) (by simp) (by simp) (by simpa using dz) (by simpa using aO) aK λv' w' r1 r2 r3=>h v' [] w' (by simpa using qm) (by simp) r1 r2 r3
theorem ZbF (ti:TI P t e z S.m bytes)(ev:z.cells.size=S.m)(h0:0<S.m)(cY:∀w cs x fp,S.R w cs x fp->∀u∈cs,u.oneCell'=true)(w:World){L:List (Elem α)}{ops:Array Oper}{rest:List Oper}{o:Oper}{a:Act}{Q:Exit->Act->World->Prop}
  (hg:o.guard=none) (s y:Operand) (ho:o.op=.call { callee:=.builtin .append,args:=#[s,y],argTypes:=#[t,t] })
  (base:Nat) (v u:Value) (M:List α) (fp:List Nat) (hs:a.eval s=v) (ag:RowN S base e v L w) (hy:a.eval y=u) (HM:(Zaa S).R w [u] M fp) (eY:∀b∈fp,v.ownBlock≠some b)
  (dz:L.length+M.length<=maxLen) (aO:(L.length+M.length)*bytes<=140737488355328) (aK:base<=w.heap.size)
  (h:∀v' X w',X.map (·.d)=M->(∀x∈X,∀b∈x.fp,b∈fp)->RowN S base e v' (L++X) w'->w.grownBy w' v.ownBlock->(v'.ownBlock=v.ownBlock\/v'.ownBlock=some w.heap.size)->wpList P ops Q rest (a.put o.dst v') w'):wpList P ops Q (o::rest) a w:=
 wpList_plain hg λ_ hK=>Zgt ti ev h0 cY w s y ho base v u M fp hs ag hy HM eY dz aO aK λv' X w' q1 q2 h2 h3 h4=>hK _ _ (h v' X w' q1 q2 h2 h3 h4)
def OutAt (s:ByteArray)(k:Nat)(out:ByteArray):Prop:=out++ZcV s k=ZcV s 1/\tClose s k=some s.size/\1<=k/\out.size<=k
variable {s:ByteArray}
theorem OutAt.byte {k:Nat}{out:ByteArray}(h:OutAt s k out)(hk:k+1<s.size)(hc:¬s[k].toNat=92):OutAt s (k+1) (out++s.extract k (k+1)):=by
 obtain⟨h1,h2,h3,h4⟩:=h;by_cases hq:s[k].toNat=34
 ·rw[ZbN (by omega) hq,Qi]at h2;omega
 rw[Zb6 (by omega) hq hc]at h2;refine⟨?_,h2,by omega,by rw[QK,Ql];omega⟩;rw[←h1,Zkt hk hc,ByteArray.append_assoc]
theorem OutAt.done {k:Nat}{out:ByteArray}(h:OutAt s k out)(hk:s.size<=k+1):out=ZcV s 1:=by
 rw[←h.1,Zl6 hk];exact ByteArray.append_empty.symm
def Zkz (s:ByteArray)(w:World)(e:Ending)(w':World):Prop:=e=.returned (.string s)/\Below w.heap.size w w'
theorem ZhF {a b:ByteArray}(h:a=b):Ending.returned (.string a)=.returned (.string b):=by rw[h]
theorem q_ways (c:UInt8):(((c.toNat:Int)==34)=true/\Hid (isQ c=true))\/(((c.toNat:Int)==34)=false/\((c.toNat:Int)==92)=true/\Hid (isQ c=true))\/(((c.toNat:Int)==34)=false/\((c.toNat:Int)==92)=false/\Hid (isQ c=false)):=by
 by_cases h1:c.toNat=34
 ·exact .inl ⟨by simp[h1],by show _=_;unfold isQ;simp[h1]⟩
 ·by_cases h2:c.toNat=92
  ·exact .inr (.inl ⟨by simp;omega,by simp[h2],by show _=_;unfold isQ;simp[h2]⟩)
  ·exact .inr (.inr ⟨by simp;omega,by simp;omega,by show _=_;unfold isQ;simp[h1,h2]⟩)
theorem ZmC (s:ByteArray)(w:World)(hs:s.size<=1000000):
  Calls Tryz.prog 167 #[.string s] w (Zkz (Zbb s s.size) w):=by
 go_enter Tryz.func167,Tryz.ntmps167;go_wp2;go_loopw [3,4] (λo i wr=>∃(k:Nat) (out:ByteArray),k<=s.size/\i=.int .i64 k/\o=.string out/\Hid (out=Zbb s k)/\Below w.heap.size w wr) (λ_ i _=>s.size-(intOf i).toNat)
 case atStart=>exact⟨0,_,by omega,rfl,rfl,rfl,QD _ _⟩
 case round =>
  obtain⟨k,out,hk,rfl,rfl,HO,hb⟩:=hrel;by_cases af:k<s.size
  ·have ra:out.size<=2*k:=(by rw[HO.out];exact Ze1 s k);have AL:(⟨#[92]⟩:ByteArray).size=1:=rfl;have yu:=λW=>(Zg4 s (k:Int) ((k:Int)+1) k (k+1) rfl rfl (by omega) (by omega) W);have ad1:=λW=>run_string_add_sum (P:=Tryz.prog) W out (⟨#[92]⟩:ByteArray) (by omega);have ad2:=λW=>run_string_add_sum (P:=Tryz.prog) W (out++(⟨#[92]⟩:ByteArray)) (s.extract k (k+1)) (by rw[QK,Ql];omega);have ad3:=λW=>run_string_add_sum (P:=Tryz.prog) W out (s.extract k (k+1)) (by rw[Ql];omega);clear AL;rcases q_ways s[k]with⟨e1,HQ⟩ | ⟨e1,e2,HQ⟩ | ⟨e1,e2,HQ⟩
   ·have HN:Hid (out++⟨#[92]⟩++s.extract k (k+1)=Zbb s (k+1)):=(by show _=_;rw[Zfl af HQ.out,HO.out]);clear HO HQ ra;go_wp2;go_roundw;case rel=>exact⟨k+1,_,by omega,by go_num,rfl,HN.out,hb⟩
    case measure=>simp[intOf];omega
   ·have HN:Hid (out++⟨#[92]⟩++s.extract k (k+1)=Zbb s (k+1)):=(by show _=_;rw[Zfl af HQ.out,HO.out]);clear HO HQ ra;go_wp2;go_roundw;case rel=>exact⟨k+1,_,by omega,by go_num,rfl,HN.out,hb⟩
    case measure=>simp[intOf];omega
   ·have HN:Hid (out++s.extract k (k+1)=Zbb s (k+1)):=(by show _=_;rw[Zhf af HQ.out,HO.out]);clear HO HQ ra;go_wp2;go_roundw;case rel=>exact⟨k+1,_,by omega,by go_num,rfl,HN.out,hb⟩
    case measure=>simp[intOf];omega
  ·have HF:Hid (out=Zbb s s.size):=(by show _=_;rw[HO.out,show k=s.size by omega]);clear HO;go_wp2;go_ret;exact⟨ZhF HF.out,hb⟩
theorem Y13A1 {g:Prop}(h:g:=by
 rw[iD]at dh;clear h3 mI HO ra;go_wp2_with (go_at_call 167;refine(HE.out _).mono ?_;rintro e w3⟨rfl,aC⟩)
 go_roundw;case rel=>exact⟨k+1,_,by omega,by go_num,rfl,HN.out,hb.trans (aC.mono hb.size)⟩
 case measure=>simp[intOf];omega):g:=h
theorem Zou (v:Value)(l:List Tok)(fp:List Nat)(w:World)(hv:Zam l=true)(H:(Zaa sTok).R w [v] l fp):
  Calls Tryz.prog 157 #[v] w (Zkz (ZaN l l.length) w):=by
 obtain⟨a,cap,rfl,hc,hm,ai⟩:=Zac H;unfold maxLen at hm;clear H;have bC:=Qh (Zay hv);have bE:=bC.out.1;have fL:=Qh (ZfB hv);clear hv;go_enter Tryz.func157,Tryz.ntmps157;go_wp2;go_loopw [3,4] (λo i wr=>∃(k:Nat) (out:ByteArray),k<=l.length/\i=.int .i64 k/\o=.string out/\Hid (out=ZaN l k)/\Below w.heap.size w wr) (λ_ i _=>l.length-(intOf i).toNat)
 case atStart=>exact⟨0,_,by omega,rfl,rfl,rfl,QD _ _⟩
 case round =>
  obtain⟨k,out,hk,rfl,rfl,HO,hb⟩:=hrel;by_cases af:k<l.length
  ·obtain⟨b1,ae,dt,rfl,du,-,bj⟩:=ai (by omega);obtain⟨lA,bf,bR⟩:=bj k af;obtain⟨h1,rfl,-,-,-⟩:=bR;replace bf:=bf.frame (hb.block b1 du);have dg:wr.cell? ⟨b1,ae+k*4,none⟩=some _:=ZaB bf (by decide) rfl;have dL:wr.cell? ⟨b1,ae+k*4+1,none⟩=some _:=Zae (j:=1) bf (by decide) rfl;have dh:wr.cell? ⟨b1,ae+k*4+2,none⟩=some _:=Zae (j:=2) bf (by decide) rfl;have wY:=(Za9 (bC.out.2 k af)).2;have ra:out.size<=401*k:=(by rw[HO.out];exact fL.out k hk);have zw:=Ze1 l[k].text l[k].text.size;have HE:Hid (∀W,Calls Tryz.prog 167 #[.string l[k].text] W (Zkz (Zbb l[k].text l[k].text.size) W)):=λW=>ZmC _ W (by omega);have AL:(⟨#[32]⟩:ByteArray).size=1:=rfl;have ad1:=λW=>run_string_add_sum (P:=Tryz.prog) W out (⟨#[32]⟩:ByteArray) (by omega);have ad2:=λW=>run_string_add_sum (P:=Tryz.prog) W (out++(⟨#[32]⟩:ByteArray)) (Zbb l[k].text l[k].text.size) (by rw[QK];omega);have ad3:=λW=>run_string_add_sum (P:=Tryz.prog) W (out++(⟨#[32]⟩:ByteArray)) l[k].text (by rw[QK];omega);have ad4:=λW=>run_string_add_sum (P:=Tryz.prog) W out (Zbb l[k].text l[k].text.size) (by omega);have ad5:=λW=>run_string_add_sum (P:=Tryz.prog) W out l[k].text (by omega);clear AL zw bj ai bf;by_cases h0:k=0
   ·have yw:¬(0:Int)<(k:Int):=(by omega);have yx:decide ((0:Int)<(k:Int))=false:=(by simp;omega);have h02:decide (0<k)=false:=(by simp;omega);have tH:Hid (¬(0<k/\l[k].spaced=true)):=λh=>(by omega);clear h0;by_cases h3:l[k].kind=3
    ·have ka:(l[k].kind==3)=true:=(by simp[h3]);have mI:Hid (bit l[k]=Zbb l[k].text l[k].text.size):=(by show _=_;unfold bit;rw[if_pos h3]);have HN:Hid (out++Zbb l[k].text l[k].text.size=ZaN l (k+1)):=(by show _=_;rw[Zdg af tH.out,mI.out,HO.out]);clear h3 mI HO ra;go_wp2_with (go_at_call 167;refine(HE.out _).mono ?_;rintro e w3⟨rfl,aC⟩)
     go_roundw;case rel=>exact⟨k+1,_,by omega,by go_num,rfl,HN.out,hb.trans (aC.mono hb.size)⟩
     case measure=>simp[intOf];omega
    ·have ka:(l[k].kind==3)=false:=(by simp;exact h3);have mI:Hid (bit l[k]=l[k].text):=(by show _=_;unfold bit;rw[if_neg h3]);have HN:Hid (out++l[k].text=ZaN l (k+1)):=(by show _=_;rw[Zdg af tH.out,mI.out,HO.out]);clear h3 mI HO ra;go_wp2;go_roundw;case rel=>exact⟨k+1,_,by omega,by go_num,rfl,HN.out,hb⟩
     case measure=>simp[intOf];omega
   ·have yw:(0:Int)<(k:Int):=(by omega);have yx:decide ((0:Int)<(k:Int))=true:=(by simp;omega);have h02:decide (0<k)=true:=(by simp;omega);cases iD:l[k].spaced
    ·have tH:Hid (¬(0<k/\l[k].spaced=true)):=λh=>(by rw[iD]at h;exact absurd h.2 (by simp));by_cases h3:l[k].kind=3
     ·have ka:(l[k].kind==3)=true:=(by simp[h3]);have mI:Hid (bit l[k]=Zbb l[k].text l[k].text.size):=(by show _=_;unfold bit;rw[if_pos h3]);have HN:Hid (out++Zbb l[k].text l[k].text.size=ZaN l (k+1)):=(by show _=_;rw[Zdg af tH.out,mI.out,HO.out]);exact Y13A1
     ·have ka:(l[k].kind==3)=false:=(by simp;exact h3);have mI:Hid (bit l[k]=l[k].text):=(by show _=_;unfold bit;rw[if_neg h3]);have HN:Hid (out++l[k].text=ZaN l (k+1)):=(by show _=_;rw[Zdg af tH.out,mI.out,HO.out]);rw[iD]at dh;clear h3 mI HO ra;go_wp2;go_roundw;case rel=>exact⟨k+1,_,by omega,by go_num,rfl,HN.out,hb⟩
      case measure=>simp[intOf];omega
    ·skip
     by_cases h3:l[k].kind=3
     ·have ka:(l[k].kind==3)=true:=(by simp[h3]);have mI:Hid (bit l[k]=Zbb l[k].text l[k].text.size):=(by show _=_;unfold bit;rw[if_pos h3]);have HN:Hid (out++⟨#[32]⟩++Zbb l[k].text l[k].text.size=ZaN l (k+1)):=(by show _=_;rw[ZeH af (by omega) iD,mI.out,HO.out]);exact Y13A1
     ·have ka:(l[k].kind==3)=false:=(by simp;exact h3);have mI:Hid (bit l[k]=l[k].text):=(by show _=_;unfold bit;rw[if_neg h3]);have HN:Hid (out++⟨#[32]⟩++l[k].text=ZaN l (k+1)):=(by show _=_;rw[ZeH af (by omega) iD,mI.out,HO.out]);rw[iD]at dh;clear h3 mI HO ra;go_wp2;go_roundw;case rel=>exact⟨k+1,_,by omega,by go_num,rfl,HN.out,hb⟩
      case measure=>simp[intOf];omega
  ·have HF:Hid (out=ZaN l l.length):=(by show _=_;rw[HO.out,show k=l.length by omega]);clear HO;go_wp2;go_ret;exact⟨ZhF HF.out,hb⟩
def TextOf (l:List Tok)(w:World)(e:Ending)(w':World):Prop:=
 ∃(cs:List Value) (fp:List Nat),e=.returned (.tuple #[.agg cs.toArray,.bool (Zbl l).2])/\sTok.R w' cs (Zbl l).1 fp/\Own w' w.heap.size fp/\Below w.heap.size w w'
theorem Znz (k:Int)(s:ByteArray)(w:World)(h1:Zb3 k)(h2:s.size<=maxLen):sTok.R w [.int .i64 k,.string s,.bool false,.slice none 0 0] ⟨k,s,false,[]⟩ []:=⟨_,rfl,h1,h2,Zao sStr _ _ _ (by simp)⟩
variable {l:List Tok}
theorem ZgL {w w':World}(h:Zbl l=(Zaw,false))(hb:Below w.heap.size w w'):TextOf l w (.returned (.tuple #[.agg #[.int .i64 0,.string ⟨#[]⟩,.bool false,.slice none 0 0],.bool false])) w':=
 ⟨[.int .i64 0,.string ⟨#[]⟩,.bool false,.slice none 0 0],[],by rw[h],by rw[h];exact Znz 0 ⟨#[]⟩ w' (by unfold Zb3;omega) (by show(0:Nat)<=_;simp[maxLen]),Own.nil _ _,hb⟩
theorem ZkA {w w':World}(h:Zbl l=(⟨3,s,false,[]⟩,true))(hb:Below w.heap.size w w')(hs:s.size<=1000000):TextOf l w (.returned (.tuple #[.agg #[.int .i64 3,.string s,.bool false,.slice none 0 0],.bool true])) w':=
 ⟨[.int .i64 3,.string s,.bool false,.slice none 0 0],[],by rw[h],by rw[h];exact Znz 3 s w' (by unfold Zb3;omega) (by unfold maxLen;omega),Own.nil _ _,hb⟩
theorem Zjk (h:Zam l=true):(quoted (ZaN l l.length)).size<=50000:=by
 have h1:=ZfB h l.length (QA _);have h2:=(Zay h).1;rw[Zg0];omega
theorem Zlj (v:Value)(l:List Tok)(fp:List Nat)(w:World)(hl:l.length<=1048576)(hx:∀k,(hk:k<l.length)->l[k].hidden.length<=2000000)(H:(Zaa sTok).R w [v] l fp):
  Calls Tryz.prog 143 #[v] w (TextOf l w):=by
 have cI:=Zab w (.cells #[.int .i64 0,.string ⟨#[]⟩,.bool false,.slice none 0 0] 32);have HZ:=Qh (JS w (.cells #[.int .i64 0,.string ⟨#[]⟩,.bool false,.slice none 0 0] 32));have uF:=Qh (Zbd v l fp _ hl hx ((Zaa sTok).below H cI));clear H hx;go_enter Tryz.func143,Tryz.ntmps143;go_wp2_with fail
 refine uF.out.mono ?_;rintro e w1⟨v1,de,rfl,HL,-,-,aG⟩;have cq:=cI.trans (aG.mono cI.size);replace HZ:=Qh (Zag HZ.out aG);clear aG cI uF;have HV:=Qh (ZbC v1 l de w1 HL);have kj:=Qh HL;obtain⟨a,cap,rfl,hc,hm,-⟩:=Zac HL;clear HL;unfold maxLen at hm;go_wp2_with fail
 refine HV.out.mono ?_;rintro e w2⟨rfl,aF⟩;have aY:=cq.trans (aF.mono cq.size);replace HZ:=Qh (Zag HZ.out aF);have gR:=Qh ((Zaa sTok).below kj.out aF);clear kj HV aF cq;cases hv:Zam l
 ·have HF:=Qh (Zl8 hv);clear hv;obtain⟨z0,dT,z1,dU,z2,dV,z3,dW⟩:=Q8 HZ.out;have HS:=Qh (Zai (Zai (Zai (Zai HZ.out 0 (.int .i64 0)) 1 (.string ⟨#[]⟩)) 2 (.bool false)) 3 (.slice none 0 0));have dM:=Qh ((((aY.setCell (p:=⟨w.heap.size,0,none⟩) (QA _) (.int .i64 0)).setCell (p:=⟨w.heap.size,1,none⟩) (QA _) (.string ⟨#[]⟩)).setCell (p:=⟨w.heap.size,2,none⟩) (QA _) (.bool false)).setCell (p:=⟨w.heap.size,3,none⟩) (QA _) (.slice none 0 0));go_wp2;refine JV (Zat rfl _ _ w.heap.size _ _ _ _ rfl HS.out Tryz.underlying32 rfl (by kernel_rfl)) rfl ?_;exact ZgL HF.out dM.out
 have HJ:=Qh (Zou _ l de w2 hv gR.out);have mE:=Qh hv;have hq:=Zjk hv;have hj:=Zg0 (ZaN l l.length);clear hv gR;go_wp2_with fail
 refine HJ.out.mono ?_;rintro e w3⟨rfl,aC⟩;have aQ:=aY.trans (aC.mono aY.size);replace HZ:=Qh (Zag HZ.out aC);clear HJ aC aY;have HY:=Qh (λh=>Zku (l:=l) mE.out rfl h);have HG:=Qh (λh=>Zji (l:=l) mE.out rfl h);have AL:(⟨#[34]⟩:ByteArray).size=1:=rfl;have ad1:=λW=>run_string_add_sum (P:=Tryz.prog) W (⟨#[34]⟩:ByteArray) (ZaN l l.length) (by omega);have ad2:∀W,(Op.stringOp .add ((⟨#[34]⟩:ByteArray)++ZaN l l.length) (⟨#[34]⟩:ByteArray)).run Tryz.prog W=.ok (.string (quoted (ZaN l l.length))) W:=λW=>run_string_add_sum (P:=Tryz.prog) W ((⟨#[34]⟩:ByteArray)++ZaN l l.length) (⟨#[34]⟩:ByteArray) (by rw[QK];omega);clear AL hj;generalize quoted (ZaN l l.length)=Q at *;by_cases pb:200<Q.size
 ·have HF:=Qh (HG.out pb);clear HG HY;obtain⟨z0,dT,z1,dU,z2,dV,z3,dW⟩:=Q8 HZ.out;have HS:=Qh (Zai (Zai (Zai (Zai HZ.out 0 (.int .i64 0)) 1 (.string ⟨#[]⟩)) 2 (.bool false)) 3 (.slice none 0 0));have dM:=Qh ((((aQ.setCell (p:=⟨w.heap.size,0,none⟩) (QA _) (.int .i64 0)).setCell (p:=⟨w.heap.size,1,none⟩) (QA _) (.string ⟨#[]⟩)).setCell (p:=⟨w.heap.size,2,none⟩) (QA _) (.bool false)).setCell (p:=⟨w.heap.size,3,none⟩) (QA _) (.slice none 0 0));go_wp2;refine JV (Zat rfl _ _ w.heap.size _ _ _ _ rfl HS.out Tryz.underlying32 rfl (by kernel_rfl)) rfl ?_;exact ZgL HF.out dM.out
 ·have HF:=Qh (HY.out pb);clear HG HY;obtain⟨z0,dT,z1,dU,z2,dV,z3,dW⟩:=Q8 HZ.out;have HS:=Qh (Zai (Zai (Zai (Zai HZ.out 0 (.int .i64 3)) 1 (.string Q)) 2 (.bool false)) 3 (.slice none 0 0));have dM:=Qh ((((aQ.setCell (p:=⟨w.heap.size,0,none⟩) (QA _) (.int .i64 3)).setCell (p:=⟨w.heap.size,1,none⟩) (QA _) (.string Q)).setCell (p:=⟨w.heap.size,2,none⟩) (QA _) (.bool false)).setCell (p:=⟨w.heap.size,3,none⟩) (QA _) (.slice none 0 0));go_wp2;refine JV (Zat rfl _ _ w.heap.size _ _ _ _ rfl HS.out Tryz.underlying32 rfl (by kernel_rfl)) rfl ?_;exact ZkA HF.out dM.out (by omega)
def lowS (l:List ByteArray)(nm:ByteArray):Nat:=(l.takeWhile λx=>ZaF x nm).length
theorem Zlk (l:List ByteArray)(nm:ByteArray):lowS l nm<=l.length:=(List.takeWhile_prefix _).length_le
theorem Zey (nm:ByteArray):∀{l:List ByteArray},Up l->∀j,(hj:j<l.length)->ZaF l[j] nm=decide (j<lowS l nm)
 | [],_,j,hj=>by simp at hj
 |
  x::r,h,j,hj=>by
  obtain⟨h1,h2⟩:=List.pairwise_cons.1 h;by_cases hx:ZaF x nm=true
  ·have e:lowS (x::r) nm=lowS r nm+1:=(by unfold lowS;rw[List.takeWhile_cons_of_pos (p:=λx=>ZaF x nm) hx];rfl);rw[e];cases j with
   | zero=>simp[hx]
   | succ j=>simp only[List.getElem_cons_succ];rw[Zey nm h2 j (by simpa using hj)];exact decide_eq_decide.2 (by omega)
  ·have e:lowS (x::r) nm=0:=(by unfold lowS;rw[List.takeWhile_cons_of_neg (p:=λx=>ZaF x nm) hx];rfl);rw[e];cases j with
   | zero=>simp at hx ⊢;exact hx
   |
    succ j =>
    simp only[List.getElem_cons_succ];have le:j<r.length:=(by simpa using hj);cases hs:ZaF r[j] nm
    ·simp
    ·exact absurd (Zek (h1 _ (QE le)) hs) hx
def isS (l:List ByteArray)(nm:ByteArray):Bool:=if h:lowS l nm<l.length then (l[lowS l nm].toList==nm.toList) else false
theorem isS_has {l:List ByteArray}(h:Up l)(nm:ByteArray):isS l nm=Zdc l nm:=by
 cases hs:isS l nm
 ·refine(Zo5 λj hj=>?_).symm;cases iF:(l[j].toList==nm.toList)
  ·rfl
  ·exfalso;have e:=Zd7 iF;have h1:=Zey nm h j hj;rw[e,ZeU]at h1;have h2:=of_decide_eq_false h1.symm;unfold isS at hs;by_cases h3:j=lowS l nm
   ·subst h3;rw[dif_pos hj,iF]at hs;exact absurd hs (by simp)
   ·have h4:lowS l nm<j:=(by omega);have h5:=(List.pairwise_iff_getElem.1 h) (lowS l nm) j (by omega) hj h4;rw[e,Zey nm h (lowS l nm) (by omega)]at h5;simp at h5
 ·unfold isS at hs;split at hs
  ·rename_i h1;exact(Znu h1 hs).symm
  ·exact absurd hs (by simp)
theorem ins_yes {l:List ByteArray}(h:Up l){nm:ByteArray}(hs:isS l nm=true):ins l nm=l:=by
 unfold isS at hs;split at hs
 ·rename_i h1;exact Znx nm l (lowS l nm) h1 (λj hj my=>by rw[Zey nm h j hj];simpa using my) hs
 ·exact absurd hs (by simp)
theorem ins_no {l:List ByteArray}(h:Up l){nm:ByteArray}(hs:isS l nm=false):ins l nm=l.take (lowS l nm)++nm::l.drop (lowS l nm):=by
 refine Zkv nm l (lowS l nm) (Zlk l nm) (λj hj my=>by rw[Zey nm h j hj];simpa using my) λh1=>⟨?_,?_⟩
 ·rw[Zey nm h _ h1];simp
 ·unfold isS at hs;rw[dif_pos h1]at hs;exact hs
theorem ZpP (a:ByteArray)(w:World):Calls Tryz.prog 160 #[.string a] w λe w'=>e=.returned (.bool false)/\w'=w:=by
 go_enter Tryz.func160,Tryz.ntmps160;go_wp2;go_ret;exact⟨rfl,rfl⟩
theorem ZqO (a:ByteArray)(w:World):Calls Tryz.prog 150 #[.string a] w λe w'=>e=.returned (.bool false)/\w'=w:=by
 go_enter Tryz.func150,Tryz.ntmps150;go_wp2;go_ret;exact⟨rfl,rfl⟩
theorem lib_Less (a b:ByteArray)(w:World):Calls Tryz.prog 149 #[.string a,.string b] w λe w'=>e=.returned (.bool (ZaF a b))/\w'=w:=by
 go_enter Tryz.func149,Tryz.ntmps149;go_wp2_with (go_at_call 160;refine(ZpP _ _).mono ?_;rintro e w2⟨rfl,rfl⟩)
 go_ret;exact⟨rfl,rfl⟩
theorem Zg1 (v:Value)(l:List ByteArray)(nm:ByteArray)(fp:List Nat)(w:World)(hu:Up l)(hn:l.length<=1000000)(H:(Zaa sStr).R w [v] l fp):
  Calls Tryz.prog 134 #[v,.string nm] w λe w'=>e=.returned (.tuple #[.int .i64 (lowS l nm:Nat),.bool (isS l nm)])/\w'=w:=by
 obtain⟨a,cap,rfl,hc,hm,aJ,-⟩:=Zaf H;unfold maxLen at hm;clear H;have te:=Qh (Zlk l nm);have kJ:Hid (∀j,(hj:j<l.length)->ZaF l[j] nm=decide (j<lowS l nm)):=Zey nm hu;have cZ:Hid (∀h:lowS l nm<l.length,isS l nm=(l[lowS l nm].toList==nm.toList)):=λh=>by unfold isS;rw[dif_pos h]
 have m5:Hid (¬lowS l nm<l.length->isS l nm=false):=λh=>by unfold isS;rw[dif_neg h]
 clear hu;go_enter Tryz.func134,Tryz.ntmps134;go_wp2;go_loopw [7,8] (λs9 s10 wr=>∃lo hi:Nat,s9=.int .i64 lo/\s10=.int .i64 hi/\lo<=hi/\hi<=l.length/\Hid (lo<=lowS l nm/\lowS l nm<=hi)/\wr=w) (λs9 s10 _=>(intOf s10).toNat-(intOf s9).toNat)
 case atStart=>exact⟨0,l.length,rfl,rfl,by omega,by omega,⟨by omega,te.out⟩,rfl⟩
 case round =>
  obtain⟨lo,hi,rfl,rfl,hlh,bO,HW,rfl⟩:=hrel;by_cases af:lo<hi
  ·obtain⟨b1,ae,rfl,aG,-,bj⟩:=aJ (by omega);have dg:wr.cell? ⟨b1,ae+(lo+hi) / 2,none⟩=some _:=bj ((lo+hi) / 2) (by omega);have HC:=Qh (lib_Less (l[(lo+hi) / 2]'(by omega)) nm wr);clear bj aJ;cases kg:ZaF (l[(lo+hi) / 2]'(by omega)) nm
   ·have HL:Hid (lo<=lowS l nm/\lowS l nm<=(lo+hi) / 2):=by
     have h1:=kJ.out ((lo+hi) / 2) (by omega);rw[kg]at h1;have h2:=of_decide_eq_false h1.symm;exact⟨HW.out.1,by omega⟩
    rw[kg]at HC;clear kg;go_wp2_with (go_at_call 149;refine HC.out.mono ?_;rintro e w2⟨rfl,rfl⟩)
    go_roundw;case rel=>exact⟨lo,(lo+hi) / 2,rfl,by first | rfl | rw[show((lo:Int)+(hi:Int)) / 2=(((lo+hi) / 2:Nat):Int) by omega],by omega,by omega,HL,by trivial⟩
    case measure=>simp[intOf];omega
   ·have HL:Hid ((lo+hi) / 2+1<=lowS l nm/\lowS l nm<=hi):=by
     have h1:=kJ.out ((lo+hi) / 2) (by omega);rw[kg]at h1;have h2:=JW h1.symm;exact⟨h2,HW.out.2⟩
    rw[kg]at HC;clear kg;go_wp2_with (go_at_call 149;refine HC.out.mono ?_;rintro e w2⟨rfl,rfl⟩)
    go_roundw;case rel=>exact⟨(lo+hi) / 2+1,hi,by first | rfl | rw[show((lo:Int)+(hi:Int)) / 2+1=(((lo+hi) / 2+1:Nat):Int) by omega],rfl,by omega,bO,HL,by trivial⟩
    case measure=>simp[intOf];omega
  ·obtain rfl:hi=lo:=(by omega);have eG:lowS l nm=hi:=(by have:=HW.out;omega);by_cases jB:hi<l.length
   ·have HD:Hid (isS l nm=(l[hi].toList==nm.toList)):=by
     subst eG;exact cZ.out jB
    have HA:=Qh eG;clear eG cZ m5 kJ HW te;obtain⟨b1,ae,rfl,aG,-,bj⟩:=aJ (by omega);have dg:wr.cell? ⟨b1,ae+hi,none⟩=some _:=bj hi jB;clear bj aJ;cases kg:(l[hi].toList==nm.toList)
    ·have HF:=Qh (HD.out.trans kg);clear HD;go_wp2_with (go_at_call 150;refine(ZqO _ _).mono ?_;rintro e w2⟨rfl,rfl⟩)
     go_ret2;exact⟨by rw[HA.out,HF.out];rfl,rfl⟩
    ·have HF:=Qh (HD.out.trans kg);clear HD;go_wp2;go_ret2;exact⟨by rw[HA.out,HF.out];rfl,rfl⟩
   ·have HF:=Qh (m5.out (by omega));have HA:=Qh eG;clear eG cZ m5 kJ HW te;go_wp2;go_ret2;exact⟨by rw[HA.out,HF.out];rfl,rfl⟩
theorem ZkB (v:Value)(l:List ByteArray)(s:ByteArray)(fp:List Nat)(w:World)(H:(Zaa sStr).R w [v] l fp):
  Calls Tryz.prog 97 #[v,.string s] w (Zbu (Zdc l s) w):=by
 obtain⟨a,cap,rfl,hc,hm,aJ,-⟩:=Zaf H;unfold maxLen at hm;clear H;go_enter Tryz.func97,Tryz.ntmps97;go_wp2;go_loopw [5] (λi wr=>∃k:Nat,k<=l.length/\i=.int .i64 k/\Hid (∀j,(hj:j<l.length)->j<k->(l[j].toList==s.toList)=false)/\Below w.heap.size w wr) (λi _=>l.length-(intOf i).toNat)
 case atStart=>exact⟨0,by omega,rfl,λj _ h=>by omega,QD _ _⟩
 case round =>
  obtain⟨k,hk,rfl,HP,hb⟩:=hrel;by_cases af:k<l.length
  ·obtain⟨b1,ae,rfl,aG,-,bj⟩:=aJ (by omega);have dg:wr.cell? ⟨b1,ae+k,none⟩=some _:=(hb.cell (p:=⟨b1,ae+k,none⟩) aG).trans (bj k af);clear bj aJ;cases g:(l[k].toList==s.toList)
   ·have HF:Hid (∀j,(hj:j<l.length)->j<k+1->(l[j].toList==s.toList)=false):=λj hj h=>by
     by_cases e:j=k
     ·subst e;exact g
     ·exact HP.out j hj (by omega)
    clear HP;go_wp2;go_roundw;case rel=>exact⟨k+1,by omega,by go_num,HF,hb⟩
    case measure=>simp[intOf];omega
   ·have HF:=Qh (Znu af g);clear HP;go_wp2;go_ret;exact⟨Zad HF.out.symm,hb⟩
  ·have HF:=Qh (Zo5 (l:=l) (s:=s) λj hj=>HP.out j hj (by omega));clear HP;go_wp2;go_ret;exact⟨Zad HF.out.symm,hb⟩
theorem Zo7 {a b:List ByteArray}(h:∀i,(hi:i<a.length)->a[i].size<=maxLen):∀i,(hi:i<(both a b).length)->ZaC (both a b)[i]:=λi hi=>by
 have hm:(both a b)[i]∈a:=(List.mem_filter.1 (QE hi)).1;obtain⟨j,hj,e⟩:=QY hm;rw[←e];exact h j hj
theorem Zjl (va vb:Value)(a b:List ByteArray)(mJ jf:List Nat)(w:World)(ha:a.length<=1000000)(Ha:(Zaa sStr).R w [va] a mJ)(Hb:(Zaa sStr).R w [vb] b jf):
  Calls Tryz.prog 100 #[va,vb] w (Made (Zaa sStr) (both a b) w):=by
 obtain⟨aa,ca,rfl,m7,AM,aJ,cC⟩:=Zaf Ha;unfold maxLen at AM;have fL:=Qh (Zo7 (b:=b) cC);have HB:=Qh Hb;have bo:Hid ((w.alloc (.cells #[] 9)).ownsRow w.heap.size 9 1 (.slice (some ⟨w.heap.size,0,none⟩) 0 0) (both (a.take 0) b).length ((both (a.take 0) b).map Value.string)):=
  Q1 (base:=w.heap.size) (e:=9) (size:=1) w #[] 0 (QA _) (by simp) rfl
 have bH:=Zab w (.cells #[] 9);clear Ha Hb cC;go_enter Tryz.func100,Tryz.ntmps100;go_wp2;go_loopw [5,6] (λo i wr=>∃(k:Nat),k<=a.length/\i=.int .i64 k/\Hid (wr.ownsRow w.heap.size 9 1 o (both (a.take k) b).length ((both (a.take k) b).map Value.string))/\Below w.heap.size w wr) (λ_ i _=>a.length-(intOf i).toNat)
 case atStart=>exact⟨0,by omega,rfl,bo,bH⟩
 case round =>
  clear bo bH;obtain⟨k,hk,rfl,HO,hb⟩:=hrel;by_cases af:k<a.length
  ·obtain⟨b1,ae,rfl,aG,-,bj⟩:=aJ (by omega);have dg:wr.cell? ⟨b1,ae+k,none⟩=some _:=(hb.cell (p:=⟨b1,ae+k,none⟩) aG).trans (bj k af);have HC:=Qh (ZkB vb b a[k] jf wr ((Zaa sStr).below HB.out hb));clear bj aJ;cases g:Zdc b a[k]
   ·have HN:=Qh (Zo6 af g);rw[g]at HC;clear g;go_wp2_with (go_at_call 97;refine HC.out.mono ?_;rintro e w2⟨rfl,aF⟩)
    go_roundw;case rel=>exact⟨k+1,by omega,by go_num,by show World.ownsRow _ _ _ _ _ _ _;rw[HN.out];exact ZbR HO.out λg hg=>aF.block g (HO.out.lt g hg).2,hb.trans (aF.mono hb.size)⟩
    case measure=>simp[intOf];omega
   ·have HN:=Qh (Znv af g);rw[g]at HC;clear g;have bE:(both (a.take k) b).length<=k:=QZ (ZhA _ _) (by simp;omega);go_wp2_with fail
    refine HC.out.mono ?_;rintro e w2⟨rfl,aF⟩;have aD:=hb.trans (aF.mono hb.size);have dL:w2.cell? ⟨b1,ae+k,none⟩=some _:=(aF.cell (p:=⟨b1,ae+k,none⟩) (QW aG hb.size)).trans dg;have uP:=Qh (ZbR (w':=w2) HO.out λg hg=>aF.block g (HO.out.lt g hg).2);clear HO aF dg HC;go_wp2_with (at_builtin;refine Zck ti27 rfl _ (.string a[k]) rfl rfl (.tmp 20) (.tmp 25) rfl w.heap.size _ (both (a.take k) b).length ((both (a.take k) b).map Value.string) rfl uP.out rfl (by unfold maxLen;omega) (by omega) aD.size ?_;intro v3 w3 fy cX)
    have aC:=aD.grown cX aD.size (λb hb=>(uP.out.lt b hb).1);have AH:Hid (w3.ownsRow w.heap.size 9 1 v3 (both (a.take (k+1)) b).length ((both (a.take (k+1)) b).map Value.string)):=by
     show World.ownsRow _ _ _ _ _ _ _;rw[HN.out];simpa using fy
    clear fy cX dL bE uP;go_roundw;case rel=>exact⟨k+1,by omega,by go_num,AH,aC⟩
    case measure=>simp[intOf];omega
  ·have hO:=HO.out;rw[Znw (by omega)]at hO;obtain⟨gm,hR,AN,-⟩:=ZbM (ok:=ZaC) hO fL.out;have HR:=Qh (And.intro hR AN);clear hO hR AN HO;go_wp2;go_ret;exact⟨_,gm,rfl,HR.out.1,HR.out.2,hb⟩
theorem Zgu (va vb:Value)(a b:List ByteArray)(mJ jf:List Nat)(w:World)(ha:a.length<=1000000)(bK:b.length<=1000000)(hu:Up b)(Ha:(Zaa sStr).R w [va] a mJ)(Hb:(Zaa sStr).R w [vb] b jf):
  Calls Tryz.prog 120 #[va,vb] w (Made (Zaa sStr) (both a b) w):=by
 obtain⟨aa,ca,rfl,m7,AM,aJ,cC⟩:=Zaf Ha;unfold maxLen at AM;have fL:=Qh (Zo7 (b:=b) cC);have HB:=Qh Hb;have HU:=Qh hu;have bo:Hid (w.ownsRow w.heap.size 9 1 (.slice none 0 0) (both (a.take 0) b).length ((both (a.take 0) b).map Value.string)):=⟨rfl,.inl ⟨rfl,rfl⟩⟩;clear Ha Hb cC hu;go_enter Tryz.func120,Tryz.ntmps120;go_wp2;go_loopw [5,12] (λo i wr=>∃(k:Nat),k<=a.length/\i=.int .i64 k/\Hid (wr.ownsRow w.heap.size 9 1 o (both (a.take k) b).length ((both (a.take k) b).map Value.string))/\Below w.heap.size w wr) (λ_ i _=>a.length-(intOf i).toNat)
 case atStart=>exact⟨0,by omega,rfl,bo,QD _ _⟩
 case round =>
  clear bo;obtain⟨k,hk,rfl,HO,hb⟩:=hrel;by_cases af:k<a.length
  ·obtain⟨b1,ae,rfl,aG,-,bj⟩:=aJ (by omega);have dg:wr.cell? ⟨b1,ae+k,none⟩=some _:=(hb.cell (p:=⟨b1,ae+k,none⟩) aG).trans (bj k af);have HC:=Qh (Zg1 vb b a[k] jf wr HU.out bK ((Zaa sStr).below HB.out hb));have HI:=Qh (isS_has HU.out a[k]);clear bj aJ;generalize lowS b a[k]=lo at HC;cases g:Zdc b a[k]
   ·have HN:=Qh (Zo6 af g);rw[HI.out,g]at HC;clear g HI;go_wp2_with (go_at_call 134;refine HC.out.mono ?_;rintro e w2⟨rfl,rfl⟩)
    go_roundw;case rel=>exact⟨k+1,by omega,by go_num,by show World.ownsRow _ _ _ _ _ _ _;rw[HN.out];exact HO.out,hb⟩
    case measure=>simp[intOf];omega
   ·have HN:=Qh (Znv af g);rw[HI.out,g]at HC;clear g HI;have bE:(both (a.take k) b).length<=k:=QZ (ZhA _ _) (by simp;omega)
    go_wp2_with (first
     | (go_at_call 134;refine HC.out.mono ?_;rintro e w2⟨rfl,rfl⟩)
     | (
      at_builtin;refine Zck ti27 rfl _ (.string a[k]) rfl rfl (.tmp 23) (.tmp 25) rfl w.heap.size _ (both (a.take k) b).length ((both (a.take k) b).map Value.string) rfl HO.out rfl (by unfold maxLen;omega) (by omega) hb.size ?_;intro v3 w3 fy cX;have aC:=hb.grown cX hb.size (λb hb=>(HO.out.lt b hb).1);have AH:Hid (w3.ownsRow w.heap.size 9 1 v3 (both (a.take (k+1)) b).length ((both (a.take (k+1)) b).map Value.string)):=by
       show World.ownsRow _ _ _ _ _ _ _;rw[HN.out];simpa using fy
      clear fy cX dg bE HO))
    go_roundw;case rel=>exact⟨k+1,by omega,by go_num,AH,aC⟩
    case measure=>simp[intOf];omega
  ·have hO:=HO.out;rw[Znw (by omega)]at hO;obtain⟨gm,hR,AN,-⟩:=ZbM (ok:=ZaC) hO fL.out;have HR:=Qh (And.intro hR AN);clear hO hR AN HO;go_wp2;go_ret;exact⟨_,gm,rfl,HR.out.1,HR.out.2,hb⟩
end Go.Proofs.YtipfpppcbmpjiaaGreat
