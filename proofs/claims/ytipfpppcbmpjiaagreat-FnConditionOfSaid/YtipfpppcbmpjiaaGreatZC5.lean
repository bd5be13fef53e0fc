/- Lemmas. -/
import Derived.Test.YtipfpppcbmpjiaaGreatZC4
set_option linter.unusedVariables false
set_option maxHeartbeats 16000000
set_option maxRecDepth 100000
set_option linter.unusedSimpArgs false
namespace Go.Proofs.YtipfpppcbmpjiaaGreat
open Go.RowKit Go.ChangeShapes Go.WideShapes Go.Deep
def sMacro:Shape DMacro where
 m:=4
 R w cs d fp:=∃(h2:Value) (h3:Value) (bv:List Nat) (dI:List Nat),cs=[.string d.name,.bool d.function,h2,h3]/\ZaC d.name/\(Zaa sStr).R w [h2] d.params bv/\(Zaa sTok).R w [h3] d.body dI/\fp=bv++dI
 frame:=by
  rintro w w' cs d fp hf⟨h2,h3,bv,dI,rfl,k0,K2,K3,rfl⟩;exact⟨h2,h3,bv,dI,rfl,k0,(Zaa sStr).frame (λb hb=>hf b (by simp[hb])) K2,(Zaa sTok).frame (λb hb=>hf b (by simp[hb])) K3,rfl⟩
 lt:=by
  rintro w cs d fp⟨h2,h3,bv,dI,rfl,k0,K2,K3,rfl⟩ b hb;rcases Qa hb with hb | hb
  ·exact(Zaa sStr).lt K2 b hb
  ·exact(Zaa sTok).lt K3 b hb
section
variable {H:Type}{enc:TypeId × Value->H}{P:Program}{w:World}{base:Nat}{spare:Nat->Bool}{held:Bool}
end
section
variable {H:Type}{enc:TypeId × Value->H}{w:World}{base:Nat}{spare:Nat->Bool}{held:Bool}
end
open Go.RowKit
def begins (x y:UInt8):Bool:=decide (x.toNat=47) && (decide (y.toNat=47) || decide (y.toNat=42))
theorem ZgW (x:ByteArray)(w:World)(hs:x.size<=maxLen):
  Calls Tryz.prog 95 #[.string x] w (Zbu (Zap x 1) w):=by
 have HT:Hid (∀W,Calls Tryz.prog 56 #[.string x] W (Zd3 (Zau x) W)):=λW=>ZcI x W hs;go_enter Tryz.func95,Tryz.ntmps95;rcases Zes x 1 with⟨hr,HF⟩ | ⟨l,hr,hl,HF⟩ | ⟨t,hr,hk,HF⟩ | ⟨t,hr,hk,hx,HF⟩ | ⟨t,hr,hk,hx,_,HF⟩
 ·rw[hr]at HT;clear hr;go_wp2_with (go_at_call 56;refine(HT.out _).mono ?_;rintro e w'⟨v,fp,rfl,hR,hO,hB⟩)
  go_ret;exact⟨Zad HF.out.symm,hB⟩
 ·rw[hr]at HT;have un:((l.length:Int)==1)=false:=by simp;omega
  clear hr hl;go_wp2_with (go_at_call 56;refine(HT.out _).mono ?_;rintro e w'⟨v,fp,rfl,hR,hO,hB⟩;obtain⟨a,cap,rfl,_,_,_⟩:=Zac hR)
  go_ret;exact⟨Zad HF.out.symm,hB⟩
 ·rw[hr]at HT;have hk':(t.kind==1)=false:=by simp[hk]
  clear hr hk;go_wp2_with (go_at_call 56;refine(HT.out _).mono ?_;rintro e w'⟨v,fp,rfl,hR,hO,hB⟩;obtain⟨b,off,cap,h,rfl,fJ,dA,hb,h0,h1,h2,h3,_,_⟩:=ZbQ hR)
  go_ret;exact⟨Zad HF.out.symm,hB⟩
 ·rw[hr]at HT;have hk':(t.kind==1)=true:=by simp[hk]
  have bJ:(t.text.toList==x.toList)=false:=Zcb hx;clear hr hk hx;go_wp2_with (go_at_call 56;refine(HT.out _).mono ?_;rintro e w'⟨v,fp,rfl,hR,hO,hB⟩;obtain⟨b,off,cap,h,rfl,fJ,dA,hb,h0,h1,h2,h3,_,_⟩:=ZbQ hR)
  go_ret;exact⟨Zad HF.out.symm,hB⟩
 ·rw[hr]at HT;have hk':(t.kind==1)=true:=by simp[hk]
  have bJ:(t.text.toList==x.toList)=true:=Zca hx;clear hr hk hx;go_wp2_with (go_at_call 56;refine(HT.out _).mono ?_;rintro e w'⟨v,fp,rfl,hR,hO,hB⟩;obtain⟨b,off,cap,h,rfl,fJ,dA,hb,h0,h1,h2,h3,_,_⟩:=ZbQ hR)
  go_ret;exact⟨Zad HF.out.symm,hB⟩
variable {k:Nat}{ps:List ByteArray}{t:Tok}
theorem ZoP (h:ps.length<=k):parFrom ps t k=-1:=by rw[parFrom,dif_neg (by omega)]
theorem ZoQ (h:k<ps.length)(h1:t.kind=1)(h2:ps[k]=t.text):parFrom ps t k=k:=by rw[parFrom,dif_pos h,if_pos ⟨h1,h2⟩]
theorem Zju (h:k<ps.length)(h1:¬(t.kind=1/\ps[k]=t.text)):parFrom ps t k=parFrom ps t (k+1):=by rw[parFrom,dif_pos h,if_neg h1]
theorem Zgi (eE csT:List Value)(m:DMacro)(t:Tok)(eV cE:List Nat)(w:World)(HM:sMacro.R w eE m eV)(HT:sTok.R w csT t cE):
  Calls Tryz.prog 96 #[.agg eE.toArray,.agg csT.toArray] w λe w'=>e=.returned (.int .i64 (parOf m.params t))/\Below w.heap.size w w':=by
 obtain⟨h2,h3,bv,dI,rfl,-,K2,K3,rfl⟩:=HM;obtain⟨hh,rfl,-,-,-⟩:=HT;obtain⟨a,cap,rfl,hc,hm,aJ,cC⟩:=Zaf K2;unfold maxLen at hm;clear K2 K3;have b0:=Zab w (.cells #[.string m.name,.bool m.function,.slice a m.params.length cap,h3] 56);have b1:=b0.trans ((Zab (w.alloc (.cells #[.string m.name,.bool m.function,.slice a m.params.length cap,h3] 56)) (.cells #[.int .i64 t.kind,.string t.text,.bool t.spaced,hh] 32)).mono b0.size);have HX:=Qh (Zdj w #[.string m.name,.bool m.function,.slice a m.params.length cap,h3] #[.int .i64 t.kind,.string t.text,.bool t.spaced,hh] 56 32);go_enter Tryz.func96,Tryz.ntmps96;go_wp2;generalize (w.alloc (.cells #[.string m.name,.bool m.function,.slice a m.params.length cap,h3] 56)).alloc (.cells #[.int .i64 t.kind,.string t.text,.bool t.spaced,hh] 32)=W at *;clear b0;go_loopw [5] (λi wr=>∃k:Nat,k<=m.params.length/\i=.int .i64 k/\Hid (parOf m.params t=parFrom m.params t k)/\Below W.heap.size W wr) (λi _=>m.params.length-(intOf i).toNat)
 case atStart=>exact⟨0,by omega,rfl,rfl,QD _ _⟩
 case round =>
  obtain⟨k,hk,rfl,HP,hb⟩:=hrel;have dG:=Qh (And.intro ((hb.block _ (Qg HX.out.1).1).trans HX.out.1) ((hb.block _ (Qg HX.out.2).1).trans HX.out.2));have q2:=Qc 2 dG.out.1;have p0:=Qc 0 dG.out.2;have p1:=Qc 1 dG.out.2;by_cases af:k<m.params.length
  ·obtain⟨b,off,rfl,bK,_,dA⟩:=aJ (by omega);have kF:=((b1.trans (hb.mono b1.size)).cell (p:=⟨b,off+k,none⟩) bK).trans (dA k af);clear aJ dA;by_cases e1:t.kind=1
   ·have g1:(t.kind==1)=true:=(by simp[e1]);by_cases e2:m.params[k]=t.text
    ·have g2:=Zca e2;have HF:=Qh (ZoQ af e1 e2);clear e1 e2;go_wp2
     go_quiet (fail)
     go_wp2;go_ret;exact⟨ZbE (by rw[HP.out,HF.out]),b1.trans ((Zah hb _).mono b1.size)⟩
    ·have g2:(m.params[k].toList==t.text.toList)=false:=Zcb e2;have HF:=Qh (Zju af (λh=>e2 h.2));clear e1 e2;go_wp2
     go_quiet (fail)
     go_wp2;go_roundw;case rel=>exact⟨k+1,by omega,by go_num,by show _=_;rw[HP.out,HF.out],Zah hb _⟩
     case measure=>simp[intOf];omega
   ·have g1:(t.kind==1)=false:=(by simp[e1]);have HF:=Qh (Zju af (λh=>e1 h.1));clear e1;go_wp2
    go_quiet (fail)
    go_wp2;go_roundw;case rel=>exact⟨k+1,by omega,by go_num,by show _=_;rw[HP.out,HF.out],Zah hb _⟩
    case measure=>simp[intOf];omega
  ·have HF:=Qh (ZoP (t:=t) (by omega:m.params.length<=k));go_wp2;go_ret;exact⟨ZbE (by rw[HP.out,HF.out]),b1.trans (hb.mono b1.size)⟩
def markT (c:UInt8):Tok:=⟨4,⟨#[c]⟩,false,[]⟩
def nameT (s:ByteArray):Tok:=⟨1,s,false,[]⟩
theorem ZmP {s:ByteArray}(h:Zap s 1=true):Zaj (nameT s)=true:=by
 unfold Zaj nameT;rw[QI];exact⟨h,by show ZbO []=true;decide⟩
theorem Zpt (s:ByteArray)(k:Nat):∀j,(h:j<s.size)->k<=j->j<wEnd s k->Zar s[j]=true:=by
 induction k using wEnd.induct (s:=s) with
 |
  case1 k h hc ih =>
  intro j hj wh oI;rw[ZbY h hc]at oI;by_cases e:j=k
  ·subst e;exact hc
  ·exact ih j hj (by omega) oI
 | case2 k h hc=>intro j hj wh oI;rw[Zcr h (by simpa using hc)]at oI;omega
 | case3 k h=>intro j hj wh oI;rw[ZdJ (by omega)]at oI;omega
theorem Zpu {s:ByteArray}(h:Zap s 1=true):0<s.size/\s.size<=12/\∀j,(hj:j<s.size)->Zar s[j]=true:=by
 obtain⟨h0,_,hc,_⟩:=ZgD (ZmP h);obtain⟨_,hk⟩:=(Za9 (ZmP h)).1;have gM:0<s.size:=h0;have hc':ZaI s 0=(s.size:Nat):=hc;have hk':(1:Int)=cutKind s[0]:=hk;have hw:Zar s[0]=true:=by
  unfold cutKind at hk';unfold Zar;split at hk'
  ·omega
  ·split at hk'
   ·rename_i h;rw[h];rfl
   ·split at hk' <;> omega
 rw[Zct gM hw]at hc';split at hc'
 ·omega
 ·exact⟨gM,by omega,λj hj=>Zpt s 0 j hj (by omega) (by omega)⟩
def hL (m:DMacro):Nat->List Tok
 | 0=>[nameT m.name,markT 40]
 | k+1=>(if 0<k then hL m k++[markT 44] else hL m k)++[nameT (if h:k<m.params.length then m.params[k] else ⟨#[]⟩)]
theorem ZdK (l:List Tok)(k:Nat):(Zbh l k).length=l.length-k:=by simp[Zbh]
theorem ZmQ (l:List Tok)(k i:Nat)(h:i<(Zbh l k).length):(Zbh l k)[i]=⟨(l[k+i]'(by rw[ZdK]at h;omega)).kind,(l[k+i]'(by rw[ZdK]at h;omega)).text,(l[k+i]'(by rw[ZdK]at h;omega)).spaced && decide (0<i),[]⟩:=by simp[Zbh]
variable {m:DMacro}
theorem macOf_ok {l:List Tok}(h:macOf l=(m,true)):Zaq m=true:=by
 have hc:∀x:DMacro,Zda x=(m,true)->Zaq m=true:=λx hx=>by
  unfold Zda at hx;split at hx
  ·rename_i h1;simp only[QS,and_true]at hx;rw[←hx];exact h1
  ·simp at hx
 unfold macOf at h;split at h
 ·split at h
  ·split at h
   ·exact hc _ h
   ·simp at h
  ·exact hc _ h
 ·simp at h
theorem macOf_no {l:List Tok}(h:macOf l=(m,false)):m=Zc9:=by
 have hc:∀x:DMacro,Zda x=(m,false)->m=Zc9:=λx hx=>by
  unfold Zda at hx;split at hx
  ·simp at hx
  ·simp only[QS,and_true]at hx;exact hx.symm
 unfold macOf at h;split at h
 ·split at h
  ·split at h
   ·exact hc _ h
   ·simp only[QS,and_true]at h;exact h.symm
  ·exact hc _ h
 ·simp only[QS,and_true]at h;exact h.symm
theorem Zfd (x:ByteArray)(l:List UInt8):(x.toList==l)=decide (x=⟨l.toArray⟩):=by
 rw[QB];by_cases h:x=⟨l.toArray⟩
 ·subst h;simp
 ·rw[JQ h,beq_eq_false_iff_ne];intro e;apply h;rw[←e]
variable {x:ByteArray}
theorem ZbH {l:List UInt8}(h:x=⟨l.toArray⟩):(x.toList==l)=true:=by rw[Zfd,JR h]
theorem ZbI {l:List UInt8}(h:x≠⟨l.toArray⟩):(x.toList==l)=false:=by rw[Zfd,JQ h]
def ParUpto (ps:List ByteArray)(k:Nat):Prop:=∀j,j<k->ZcP ps j=true
theorem ParUpto.zero (ps:List ByteArray):ParUpto ps 0:=by intro j h;omega
theorem ParUpto.succ (h:ParUpto ps k)(h1:ZcP ps k=true):ParUpto ps (k+1):=by
 intro j hj;by_cases e:j=k
 ·subst e;exact h1
 ·exact h j (by omega)
def NotUpto (ps:List ByteArray)(x:ByteArray)(j:Nat):Prop:=∀i,i<j->ps[i]?≠some x
theorem NotUpto.zero (ps:List ByteArray)(x:ByteArray):NotUpto ps x 0:=by intro i h;omega
theorem NotUpto.succ {j:Nat}(h:NotUpto ps x j)(hj:j<ps.length)(hn:ps[j]≠x):NotUpto ps x (j+1):=by
 intro i hi;by_cases e:i=j
 ·subst e;rw[QJ hj];intro h';exact hn (JL h')
 ·exact h i (by omega)
theorem par_name (hk:k<ps.length)(h:Zap ps[k] 1=false):ZcP ps k=false:=by unfold ZcP;rw[dif_pos hk,h];rfl
theorem Zqf {k j:Nat}(hk:k<ps.length)(hj:j<k)(h:ps[j]'(by omega)=ps[k]):ZcP ps k=false:=by
 unfold ZcP;rw[dif_pos hk];have:(List.range k).all (λj=>!decide (ps[j]?=some ps[k]))=false:=by
  rw[List.all_eq_false];exact⟨j,by simpa using hj,by simp[QJ (show j<ps.length by omega),h]⟩
 rw[this,JB]
theorem par_yes (hk:k<ps.length)(h:Zap ps[k] 1=true)(hn:NotUpto ps ps[k] k):ZcP ps k=true:=by
 unfold ZcP;rw[dif_pos hk,h,Bool.true_and,Qk];intro j hj;have:=hn j (by simpa using hj);simp[this]
def ZdL (b:List Tok)(k:Nat):Bool:=
 if h:k<b.length then
  decide (b[k].hidden.length=0) && !(decide (k=0) && b[k].spaced) && !(decide (b[k].text=ZcE) && (decide (k=0) || decide (k+1=b.length) || decide ((b[k-1]'(by omega)).text=ZcE)))
 else true
def Zb8 (ps:List ByteArray)(x:ByteArray):Bool:=ps.any λp=>decide (p=x)
theorem hasTx_iff:Zb8 ps x=true ↔ x∈ps:=by
 unfold Zb8;rw[List.any_eq_true];exact⟨λ⟨p,h1,h2⟩=>by rw[←JW h2];exact h1,λh=>⟨x,h,by simp⟩⟩
def ZcR (m:DMacro)(k:Nat):Bool:=if h:k<m.body.length then !(decide (m.body[k].text=ZdF) && (if h2:k+1<m.body.length then decide (parOf m.params m.body[k+1]<0) else true)) else true
def Zd5 (m:DMacro)(k:Nat):Bool:=if h:k<m.body.length then !(decide (m.body[k].text=ZdF) && (if h2:k+1<m.body.length then !Zb8 m.params m.body[k+1].text else true)) else true
theorem Zej (m:DMacro)(k:Nat)(hk:k<m.body.length):Zd4 m k=(Zaj m.body[k] && ZdL m.body k && (!m.function || ZcR m k)):=by
 unfold Zd4 ZdL ZcR;rw[dif_pos hk,dif_pos hk,dif_pos hk];cases Zaj m.body[k] <;> cases decide (m.body[k].hidden.length=0) <;> cases (decide (k=0) && m.body[k].spaced) <;> cases m.function <;> simp
theorem Zii {b:List Tok}(hk:k<b.length):
  (b[k].hidden.length≠0/\Hid (ZdL b k=false)) \/
  (b[k].hidden.length=0/\k=0/\b[k].spaced=true/\Hid (ZdL b k=false)) \/
  (b[k].hidden.length=0/\k=0/\b[k].spaced=false/\b[k].text=ZcE/\Hid (ZdL b k=false)) \/
  (b[k].hidden.length=0/\k=0/\b[k].spaced=false/\b[k].text≠ZcE/\Hid (ZdL b k=true)) \/
  (b[k].hidden.length=0/\k≠0/\b[k].text=ZcE/\k+1=b.length/\Hid (ZdL b k=false)) \/
  (b[k].hidden.length=0/\k≠0/\b[k].text=ZcE/\k+1≠b.length/\(b[k-1]'(by omega)).text=ZcE/\Hid (ZdL b k=false)) \/
  (b[k].hidden.length=0/\k≠0/\b[k].text=ZcE/\k+1≠b.length/\(b[k-1]'(by omega)).text≠ZcE/\Hid (ZdL b k=true)) \/
  (b[k].hidden.length=0/\k≠0/\b[k].text≠ZcE/\Hid (ZdL b k=true)):=by
 have e:ZdL b k=(decide (b[k].hidden.length=0) && !(decide (k=0) && b[k].spaced) && !(decide (b[k].text=ZcE) && (decide (k=0) || decide (k+1=b.length) || decide ((b[k-1]'(by omega)).text=ZcE)))):=by
  unfold ZdL;rw[dif_pos hk]
 by_cases h1:b[k].hidden.length=0
 ·by_cases h2:k=0
  ·subst h2;cases h3:b[0].spaced
   ·by_cases h4:b[0].text=ZcE
    ·exact .inr (.inr (.inl ⟨h1,rfl,rfl,h4,by show _=_;rw[e,h3,JR h4];simp⟩))
    ·exact .inr (.inr (.inr (.inl ⟨h1,rfl,rfl,h4,by show _=_;rw[e,h3,JR h1,JQ h4];simp⟩)))
   ·exact .inr (.inl ⟨h1,rfl,rfl,by show _=_;rw[e,h3];simp⟩)
  ·by_cases h4:b[k].text=ZcE
   ·by_cases h5:k+1=b.length
    ·exact .inr (.inr (.inr (.inr (.inl ⟨h1,h2,h4,h5,by show _=_;rw[e];simp[h4,h5]⟩))))
    ·by_cases h6:(b[k-1]'(by omega)).text=ZcE
     ·exact .inr (.inr (.inr (.inr (.inr (.inl ⟨h1,h2,h4,h5,h6,by show _=_;rw[e];simp[h4,h6]⟩)))))
     ·exact .inr (.inr (.inr (.inr (.inr (.inr (.inl ⟨h1,h2,h4,h5,h6,by show _=_;rw[e];simp[h1,h2,h5,h6]⟩))))))
   ·exact .inr (.inr (.inr (.inr (.inr (.inr (.inr ⟨h1,h2,h4,by show _=_;rw[e];simp[h1,h2,h4]⟩))))))
 ·exact .inl ⟨h1,by show _=_;rw[e];simp[h1]⟩
def BodUpto (p:Nat->Bool)(k:Nat):Prop:=∀j,j<k->p j=true
theorem BodUpto.zero (p:Nat->Bool):BodUpto p 0:=by intro j h;omega
variable {p:Nat->Bool}
theorem BodUpto.succ (h:BodUpto p k)(h1:p k=true):BodUpto p (k+1):=by
 intro j hj;by_cases e:j=k
 ·subst e;exact h1
 ·exact h j (by omega)
theorem Zfe {n k:Nat}(hk:k<n)(h:p k=false):(List.range n).all p=false:=by
 rw[List.all_eq_false];exact⟨k,by simpa using hk,by simp[h]⟩
theorem ZdM {n:Nat}(h:∀j,j<n->p j=true):(List.range n).all p=true:=by
 rw[Qk];intro j hj;exact h j (by simpa using hj)
theorem Zjd (hk:k<m.body.length)(h:m.body[k].text≠ZdF):ZcR m k=true:=by unfold ZcR;rw[dif_pos hk,JQ h];rfl
theorem Zpv (hk:k<m.body.length)(h:m.body[k].text=ZdF)(hl:k+1=m.body.length):ZcR m k=false:=by unfold ZcR;rw[dif_pos hk,JR h,dif_neg (by omega)];rfl
theorem signS_no (hk:k+1<m.body.length)(h:(m.body[k]'(by omega)).text=ZdF)(hp:parOf m.params m.body[k+1]<0):ZcR m k=false:=by unfold ZcR;rw[dif_pos (by omega),JR h,dif_pos hk,JR hp];rfl
theorem Zqg (hk:k+1<m.body.length)(h:(m.body[k]'(by omega)).text=ZdF)(hp:¬parOf m.params m.body[k+1]<0):ZcR m k=true:=by unfold ZcR;rw[dif_pos (by omega),JR h,dif_pos hk,JQ hp];rfl
theorem Zd6 (h:Zfc m=false):Zaq m=false:=by unfold Zaq;rw[h];rfl
theorem ZlO (hk:k<m.params.length)(h:ZcP m.params k=false):Zaq m=false:=by unfold Zaq;rw[Zfe hk h];simp
theorem Zby (hk:k<m.body.length)(h:Zd4 m k=false):Zaq m=false:=by unfold Zaq;rw[Zfe hk h];simp
theorem ZlP (h:Zfc m=true)(h1:ParUpto m.params m.params.length)(h2:BodUpto (Zd4 m) m.body.length):Zaq m=true:=by unfold Zaq;rw[h,ZdM h1,ZdM h2];rfl
theorem ZlQ (m:DMacro):
  (Zap m.name 1=false/\Hid (Zaq m=false)) \/
  (Zap m.name 1=true/\m.name=ZbD/\Hid (Zaq m=false)) \/
  (Zap m.name 1=true/\m.name≠ZbD/\4<m.params.length/\Hid (Zaq m=false)) \/
  (Zap m.name 1=true/\m.name≠ZbD/\m.params.length<=4/\m.function=false/\0<m.params.length/\Hid (Zaq m=false)) \/
  (Zap m.name 1=true/\m.name≠ZbD/\m.params.length<=4/\(m.function=true\/m.params.length=0)/\20<m.body.length/\Hid (Zaq m=false)) \/
  (Zap m.name 1=true/\m.name≠ZbD/\m.params.length<=4/\(m.function=true\/m.params.length=0)/\m.body.length<=20/\Hid (Zfc m=true)):=by
 have hd:Zfc m=(Zap m.name 1 && !decide (m.name=ZbD) && decide (m.params.length<=4) && (m.function || decide (m.params.length=0)) && decide (m.body.length<=20)):=rfl;cases h1:Zap m.name 1
 ·exact .inl ⟨rfl,Zd6 (by rw[hd,h1];rfl)⟩
 by_cases h2:m.name=ZbD
 ·exact .inr (.inl ⟨rfl,h2,Zd6 (by rw[hd,h1];simp[h2])⟩)
 by_cases h3:m.params.length<=4
 ·cases h4:m.function
  ·by_cases h5:m.params.length=0
   ·by_cases h6:m.body.length<=20
    ·exact .inr (.inr (.inr (.inr (.inr ⟨rfl,h2,h3,.inr h5,h6,by show _=_;rw[hd,h1];simp[h2,h5,h6]⟩))))
    ·exact .inr (.inr (.inr (.inr (.inl ⟨rfl,h2,h3,.inr h5,by omega,Zd6 (by rw[hd];simp[h6])⟩))))
   ·exact .inr (.inr (.inr (.inl ⟨rfl,h2,h3,rfl,by omega,Zd6 (by rw[hd,h4];simp[h5])⟩)))
  ·by_cases h6:m.body.length<=20
   ·exact .inr (.inr (.inr (.inr (.inr ⟨rfl,h2,h3,.inl rfl,h6,by show _=_;rw[hd,h1,h4];simp[h2,h3,h6]⟩))))
   ·exact .inr (.inr (.inr (.inr (.inl ⟨rfl,h2,h3,.inl rfl,by omega,Zd6 (by rw[hd];simp[h6])⟩))))
 ·exact .inr (.inr (.inl ⟨rfl,h2,by omega,Zd6 (by rw[hd];simp[h3])⟩))
def ZdN (ps:List ByteArray):Bool:=decide (ps.length<=4) && (List.range ps.length).all (ZcP ps)
def Zbr (b:List Tok):Bool:=decide (b.length<=20) && Zam b && (List.range b.length).all (ZdL b)
def Zf2 (m:DMacro):Bool:=(List.range m.body.length).all (Zd5 m)
theorem Zjv {k k':Int}(h:Zap x k=true)(h':Zap x k'=true):k=k':=by
 rcases Zes x k with⟨_,H⟩ | ⟨_,_,_,H⟩ | ⟨_,_,_,H⟩ | ⟨_,_,_,_,H⟩ | ⟨t,hr,hk,_,_,_⟩
 ·exact absurd (H.out.symm.trans h) (by simp)
 ·exact absurd (H.out.symm.trans h) (by simp)
 ·exact absurd (H.out.symm.trans h) (by simp)
 ·exact absurd (H.out.symm.trans h) (by simp)
 ·unfold Zap at h';rw[hr]at h';simp at h';rw[←hk,←h'.1]
theorem Zod (hk:t.kind=1)(k:Nat):parFrom ps t k<0 ↔ t.text∉ps.drop k:=by
 induction k using parFrom.induct (ps:=ps) (t:=t) with
 |
  case1 k h hc =>
  rw[parFrom,dif_pos h,if_pos hc,Qj h];simp[hc.2]
 |
  case2 k h hc ih =>
  rw[parFrom,dif_pos h,if_neg hc,ih,Qj h];have hn:¬t.text=ps[k]:=λe=>hc ⟨hk,e.symm⟩;rw[Q7,not_or];exact⟨λh=>⟨hn,h⟩,λh=>h.2⟩
 | case3 k h=>rw[parFrom,dif_neg h,List.drop_eq_nil_iff.2 (by omega)];simp
theorem ZmR (hk:t.kind≠1)(k:Nat):parFrom ps t k<0:=by
 induction k using parFrom.induct (ps:=ps) (t:=t) with
 | case1 k h hc=>exact absurd hc.1 hk
 | case2 k h hc ih=>rw[parFrom,dif_pos h,if_neg hc];exact ih
 | case3 k h=>rw[parFrom,dif_neg h];omega
theorem Zqh (hp:∀k,(hk:k<m.params.length)->Zap m.params[k] 1=true)(hb:∀k,(hk:k<m.body.length)->Zaj m.body[k]=true)(k:Nat):Zd5 m k=ZcR m k:=by
 unfold Zd5 ZcR;by_cases h:k<m.body.length
 ·rw[dif_pos h,dif_pos h];by_cases h2:k+1<m.body.length
  ·rw[dif_pos h2,dif_pos h2];have e:(!Zb8 m.params m.body[k+1].text)=decide (parOf m.params m.body[k+1]<0):=by
    by_cases hk:m.body[k+1].kind=1
    ·have:=Zod (ps:=m.params) hk 0;rw[List.drop_zero]at this;unfold parOf;by_cases hm:m.body[k+1].text∈m.params
     ·have h3:¬parFrom m.params m.body[k+1] 0<0:=λh=>this.1 h hm;rw[hasTx_iff.2 hm,JQ h3];rfl
     ·have h4:Zb8 m.params m.body[k+1].text=false:=by
       cases h:Zb8 m.params m.body[k+1].text
       ·rfl
       ·exact absurd (hasTx_iff.1 h) hm
      rw[h4,JR (this.2 hm)];rfl
    ·have h3:=ZmR (ps:=m.params) hk 0;have hm:m.body[k+1].text∉m.params:=λhm=>by
      obtain⟨i,hi,he⟩:=QY hm;have h4:=hp i hi;rw[he]at h4;have h5:=hb (k+1) h2;unfold Zaj at h5;rw[QI]at h5;exact hk (Zjv h5.1 h4)
     have h4:Zb8 m.params m.body[k+1].text=false:=by
      cases h:Zb8 m.params m.body[k+1].text
      ·rfl
      ·exact absurd (hasTx_iff.1 h) hm
     unfold parOf;rw[h4,JR h3];rfl
   rw[e]
  ·rw[dif_neg h2,dif_neg h2]
 ·rw[dif_neg h,dif_neg h]
theorem ZoR (n:Nat)(p q:Nat->Bool):(List.range n).all (λk=>p k && q k)=((List.range n).all p && (List.range n).all q):=by
 induction n with
 | zero=>rfl
 |
  succ n ih =>
  simp only[List.range_succ,List.all_append,ih,List.all_cons,List.all_nil,Bool.and_true];cases (List.range n).all p <;> cases (List.range n).all q <;> cases p n <;> cases q n <;> rfl
theorem ZkY {n:Nat}{p q:Nat->Bool}(h:∀k,k<n->p k=q k):(List.range n).all p=(List.range n).all q:=by
 cases hq:(List.range n).all q
 ·rw[List.all_eq_false]at hq;obtain⟨k,hk,h2⟩:=hq;have hk':k<n:=by simpa using hk
  exact Zfe hk' (by rw[h k hk'];simpa using h2)
 ·rw[Qk]at hq;exact ZdM λj hj=>by rw[h j hj];exact hq j (by simpa using hj)
theorem Zkg {b:List Tok}(h:b.length<=20):Zam b=(List.range b.length).all (λk=>if h:k<b.length then Zaj b[k] else true):=by
 unfold Zam;rw[JR (by omega:b.length<=60),Bool.true_and];cases hr:(List.range b.length).all (λk=>if h:k<b.length then Zaj b[k] else true)
 ·rw[List.all_eq_false]at hr ⊢;obtain⟨k,hk,h2⟩:=hr;have hk':k<b.length:=by simpa using hk
  rw[dif_pos hk']at h2;exact⟨b[k],QE hk',h2⟩
 ·rw[Qk]at hr ⊢;intro t ht;obtain⟨i,hi,rfl⟩:=QY ht;have:=hr i (by simpa using hi);rw[dif_pos hi]at this;exact this
theorem Zhs (m:DMacro):Zaq m=(Zap m.name 1 && !decide (m.name=ZbD) && (if m.function=true then ZdN m.params && Zbr m.body && Zf2 m else decide (m.params.length=0) && Zbr m.body)):=by
 have hd:Zfc m=(Zap m.name 1 && !decide (m.name=ZbD) && decide (m.params.length<=4) && (m.function || decide (m.params.length=0)) && decide (m.body.length<=20)):=rfl;have hB:m.body.length<=20->(List.range m.body.length).all (Zd4 m)=(Zam m.body && (List.range m.body.length).all (ZdL m.body) && (List.range m.body.length).all (λk=>!m.function || ZcR m k)):=by
  intro hl;rw[Zkg hl,←ZoR,←ZoR];exact ZkY λk hk=>by rw[dif_pos hk];exact Zej m k hk
 unfold Zaq;rw[hd];by_cases hl:m.body.length<=20
 ·rw[hB hl,JR hl];cases hf:m.function
  ·rw[if_neg (by simp)];have e1:(List.range m.body.length).all (λk=>!false || ZcR m k)=true:=ZdM λ_ _=>rfl;rw[e1];unfold Zbr;rw[JR hl];by_cases h0:m.params.length=0
   ·rw[h0];simp
   ·rw[JQ h0];simp
  ·rw[if_pos rfl];unfold ZdN Zbr Zf2;rw[JR hl];have e1:(List.range m.body.length).all (λk=>!true || ZcR m k)=(List.range m.body.length).all (ZcR m):=ZkY λ_ _=>(by simp);rw[e1];cases hp:(List.range m.params.length).all (ZcP m.params)
   ·simp
   cases ht:Zam m.body
   ·simp
   have e2:(List.range m.body.length).all (Zd5 m)=(List.range m.body.length).all (ZcR m):=ZkY λk _=>by
    refine Zqh (λk hk=>?_) (λk hk=>?_) k
    ·rw[Qk]at hp;have:=hp k (by simpa using hk);unfold ZcP at this;rw[dif_pos hk,QI]at this;exact this.1
    ·rw[Zkg hl,Qk]at ht;have:=ht k (by simpa using hk);rw[dif_pos hk]at this;exact this
   rw[e2];simp only[Bool.true_or,Bool.and_true,Bool.true_and,Bool.and_assoc]
 ·have e1:Zbr m.body=false:=by unfold Zbr;rw[JQ hl];rfl
  rw[JQ hl,e1];simp
theorem Zij (m:DMacro)(h2 h3:Value)(bv dI:List Nat)(w:World)(k0:ZaC m.name)(K2:(Zaa sStr).R w [h2] m.params bv)(K3:(Zaa sTok).R w [h3] m.body dI)(hf:m.function=false):
  Calls Tryz.prog 67 #[.agg #[.string m.name,.bool m.function,h2,h3]] w (Zbu (Zaq m) w):=by
 obtain⟨a2,fK,rfl,dA,sg,qe,zB⟩:=Zaf K2;have K3':=K3;obtain⟨a3,gi,rfl,wj,jK,dw⟩:=Zac K3;unfold maxLen at sg jK;rw[hf];have HN:=Qh (λW=>ZgW m.name W k0);have bD:=Zab w (.cells #[.string m.name,.bool false,.slice a2 m.params.length fK,.slice a3 m.body.length gi] 56);have HX:=Qh (JS w (.cells #[.string m.name,.bool false,.slice a2 m.params.length fK,.slice a3 m.body.length gi] 56));go_enter Tryz.func67,Tryz.ntmps67;rcases ZlQ m with⟨g1,HF⟩ | ⟨g1,g2,HF⟩ | ⟨g1,g2,g3,HF⟩ | ⟨g1,g2,g3,g4,g5,HF⟩ | ⟨g1,g2,g3,g4,g5,HF⟩ | ⟨g1,g2,g3,g4,g5,HH⟩
 ·rw[g1]at HN;clear g1;go_wp2_with (go_at_call 95;refine(HN.out _).mono ?_;rintro e w1⟨rfl,aG⟩)
  go_ret;exact⟨Zad HF.out.symm,bD.trans (aG.mono bD.size)⟩
 ·rw[g1]at HN;have e2:=ZbH (l:=[100,101,102,105,110,101,100]) g2;clear g1 g2;go_wp2_with (go_at_call 95;refine(HN.out _).mono ?_;rintro e w1⟨rfl,aG⟩;have q0:=Qc 0 ((aG.block _ (Qg HX.out).1).trans HX.out))
  go_ret;exact⟨Zad HF.out.symm,bD.trans (aG.mono bD.size)⟩
 ·rw[g1]at HN;have e2:=ZbI (l:=[100,101,102,105,110,101,100]) g2;clear g1 g2;go_wp2_with (go_at_call 95;refine(HN.out _).mono ?_;rintro e w1⟨rfl,aG⟩;have q0:=Qc 0 ((aG.block _ (Qg HX.out).1).trans HX.out);have q2:=Qc 2 ((aG.block _ (Qg HX.out).1).trans HX.out))
  go_ret;exact⟨Zad HF.out.symm,bD.trans (aG.mono bD.size)⟩
 ·rw[g1]at HN;have e2:=ZbI (l:=[100,101,102,105,110,101,100]) g2;clear g1 g2;go_wp2_with (go_at_call 95;refine(HN.out _).mono ?_;rintro e w1⟨rfl,aG⟩;have q0:=Qc 0 ((aG.block _ (Qg HX.out).1).trans HX.out);have q1:=Qc 1 ((aG.block _ (Qg HX.out).1).trans HX.out);have q2:=Qc 2 ((aG.block _ (Qg HX.out).1).trans HX.out))
  go_ret;exact⟨Zad HF.out.symm,bD.trans (aG.mono bD.size)⟩
 ·rw[g1]at HN;have e2:=ZbI (l:=[100,101,102,105,110,101,100]) g2;have g6:¬(0:Int)<(m.params.length:Int):=by rcases g4 with h | h;rw[hf]at h;simp at h;omega
  have g7:¬0<m.params.length:=by omega
  clear g1 g2 g4;go_wp2_with (go_at_call 95;refine(HN.out _).mono ?_;rintro e w1⟨rfl,aG⟩;have q0:=Qc 0 ((aG.block _ (Qg HX.out).1).trans HX.out);have q1:=Qc 1 ((aG.block _ (Qg HX.out).1).trans HX.out);have q2:=Qc 2 ((aG.block _ (Qg HX.out).1).trans HX.out);have q3:=Qc 3 ((aG.block _ (Qg HX.out).1).trans HX.out))
  go_ret;exact⟨Zad HF.out.symm,bD.trans (aG.mono bD.size)⟩
 ·rw[g1]at HN;have e2:=ZbI (l:=[100,101,102,105,110,101,100]) g2;have g6:¬(0:Int)<(m.params.length:Int):=by rcases g4 with h | h;rw[hf]at h;simp at h;omega
  have g7:¬0<m.params.length:=by omega
  clear g1 g2 g4;go_wp2_with (go_at_call 95;refine(HN.out _).mono ?_;rintro e w1⟨rfl,aG⟩;have q0:=Qc 0 ((aG.block _ (Qg HX.out).1).trans HX.out);have q1:=Qc 1 ((aG.block _ (Qg HX.out).1).trans HX.out);have q2:=Qc 2 ((aG.block _ (Qg HX.out).1).trans HX.out);have q3:=Qc 3 ((aG.block _ (Qg HX.out).1).trans HX.out))
  have cq:=bD.trans (aG.mono bD.size);have dG:=Qh ((aG.block _ (Qg HX.out).1).trans HX.out);have HM:=Qh (λW (hb:Below w.heap.size w W)=>sMacro.below (show sMacro.R w [.string m.name,.bool false,.slice a2 m.params.length fK,.slice a3 m.body.length gi] m (bv++dI) from⟨_,_,bv,dI,by rw[hf],k0,K2,K3,rfl⟩) hb);clear q0 q1 q2 q3 HN bD HX aG K3' K2 K3;go_loopw [3] (λi wr=>∃k:Nat,k<=m.params.length/\i=.int .i64 k/\ParUpto m.params k/\Below w1.heap.size w1 wr) (λi _=>m.params.length-(intOf i).toNat)
  case atStart=>exact⟨0,by omega,rfl,ParUpto.zero _,QD _ _⟩
  case round =>
   obtain⟨k,hk,rfl,az,hb⟩:=hrel;have cJ:=Qh ((hb.block _ (Qg dG.out).1).trans dG.out);have q2:=Qc 2 cJ.out;have q3:=Qc 3 cJ.out;have aD:=cq.trans (hb.mono cq.size);by_cases af:k<m.params.length
   ·omega
   ·have HP:=Qh (show ParUpto m.params m.params.length from λj hj=>az j (by omega));have hz:decide (k<m.params.length)=false:=JQ af;clear az hk;go_wp2;try rw[hz]
    clear q2 q3 cJ aD af hz;go_loopw [6] (λi wr=>∃k:Nat,k<=m.body.length/\i=.int .i64 k/\BodUpto (Zd4 m) k/\Below w1.heap.size w1 wr) (λi _=>m.body.length-(intOf i).toNat)
    case atStart=>exact⟨0,by omega,rfl,BodUpto.zero _,hb⟩
    case round =>
     clear hb;obtain⟨k,hk,rfl,az,hb⟩:=hrel;have bB:=Qh ((hb.block _ (Qg dG.out).1).trans dG.out);have q3:=Qc 3 bB.out;have aD:=cq.trans (hb.mono cq.size);by_cases af:k<m.body.length
     ·obtain⟨b1,ae,dt,rfl,du,-,bj⟩:=dw (by omega);obtain⟨lA,bf,bR⟩:=bj k af;have mZ:=bR;obtain⟨hh,rfl,-,-,K1⟩:=bR;obtain⟨ah,bV,rfl,-⟩:=Zac K1;replace bf:=bf.frame (aD.block b1 du);have dg:wr.cell? ⟨b1,ae+k*4,none⟩=some _:=ZaB bf (by decide) rfl;have dL:wr.cell? ⟨b1,ae+k*4+1,none⟩=some _:=Zae (j:=1) bf (by decide) rfl;have dh:wr.cell? ⟨b1,ae+k*4+2,none⟩=some _:=Zae (j:=2) bf (by decide) rfl;have ew:wr.cell? ⟨b1,ae+k*4+3,none⟩=some _:=Zae (j:=3) bf (by decide) rfl;have bW:Below wr.heap.size wr (wr.alloc (.cells #[.int .i64 m.body[k].kind,.string m.body[k].text,.bool m.body[k].spaced,.slice ah m.body[k].hidden.length bV] 32)):=Zab _ _;have HT:=Qh (JS wr (.cells #[.int .i64 m.body[k].kind,.string m.body[k].text,.bool m.body[k].spaced,.slice ah m.body[k].hidden.length bV] 32));have HV:=Qh (λW (hW:Below (wr.alloc (.cells #[.int .i64 m.body[k].kind,.string m.body[k].text,.bool m.body[k].spaced,.slice ah m.body[k].hidden.length bV] 32)).heap.size (wr.alloc (.cells #[.int .i64 m.body[k].kind,.string m.body[k].text,.bool m.body[k].spaced,.slice ah m.body[k].hidden.length bV] 32)) W)=>ZcO _ _ _ W (sTok.below (sTok.below (sTok.below mZ aD) bW) hW));clear K1 mZ bf;go_wp2_with fail
      refine(HV.out _ (QD _ _)).mono ?_;rintro e w2⟨rfl,aF⟩;have gC:=Qh ((aF.block _ (Qg HT.out).1).trans HT.out);have m4:=bW.trans (aF.mono bW.size);have cc:=hb.trans (m4.mono hb.size);have bX:=cq.trans (cc.mono cq.size);have dJ:=Qh ((m4.block _ (Qg bB.out).1).trans bB.out);have p1:=Qc 1 gC.out;have p2:=Qc 2 gC.out;have p3:=Qc 3 gC.out;clear q3 dg dL dh ew HV HT aF bB bW m4 aD hb;have q0:=Qc 0 dJ.out;have q1:=Qc 1 dJ.out;have q2:=Qc 2 dJ.out;have q3:=Qc 3 dJ.out;cases hv:Zaj m.body[k]
      ·have HF:=Qh (Zby af (by rw[Zej _ _ af,hv];rfl));clear hv az;go_wp2;go_ret;exact⟨Zad HF.out.symm,bX⟩
      have HS:=Qh (Zej m k af);rw[hv]at HS;clear hv;have iN:((k:Int)==0)=decide (k=0):=(by rw[Bool.eq_iff_iff];simp);have mB:((k:Int)==(m.body.length:Int)-1)=decide (k+1=m.body.length):=(by rw[Bool.eq_iff_iff];simp;omega);rcases Zii af with⟨e1,HI⟩ | ⟨e1,e2,e3,HI⟩ | ⟨e1,e2,e3,e4,HI⟩ | ⟨e1,e2,e3,e4,HI⟩ | ⟨e1,e2,e4,e5,HI⟩ | ⟨e1,e2,e4,e5,e6,HI⟩ | ⟨e1,e2,e4,e5,e6,HI⟩ | ⟨e1,e2,e4,HI⟩
      ·have HF:=Qh (Zby af (by rw[HS.out,HI.out];simp));have f0:(0:Int)<(m.body[k].hidden.length:Int):=(by omega);have iO:0<m.body[k].hidden.length:=(by omega);have f02:decide ((0:Int)<(m.body[k].hidden.length:Int))=true:=JR f0;clear e1 az;go_wp2;go_ret;exact⟨Zad HF.out.symm,bX⟩
      ·have HF:=Qh (Zby af (by rw[HS.out,HI.out];simp));have f0:¬(0:Int)<(m.body[k].hidden.length:Int):=(by omega);have iO:¬0<m.body[k].hidden.length:=(by omega);rw[JR e2]at iN;rw[e3]at p2;clear e2 e3;clear e1 az;go_wp2;go_ret;exact⟨Zad HF.out.symm,bX⟩
      ·have HF:=Qh (Zby af (by rw[HS.out,HI.out];simp));have f0:¬(0:Int)<(m.body[k].hidden.length:Int):=(by omega);have iO:¬0<m.body[k].hidden.length:=(by omega);rw[JR e2]at iN;rw[e3]at p2;have f4:=ZbH (l:=[35,35]) e4;have E4:=Qh e4;clear e4;clear e2 e3;clear e1 az;go_wp2;go_ret;exact⟨Zad HF.out.symm,bX⟩
      ·have f0:¬(0:Int)<(m.body[k].hidden.length:Int):=(by omega);have iO:¬0<m.body[k].hidden.length:=(by omega);rw[JR e2]at iN;rw[e3]at p2;have f4:=ZbI (l:=[35,35]) e4;have E4:=Qh e4;clear e4;clear e1 e2 e3;have HN:=Qh (az.succ (by rw[HS.out,HI.out,hf];rfl));clear az;go_wp2
       go_quiet (fail)
       go_wp2;go_roundw;case rel=>first | exact⟨k+1,by omega,by go_num,HN.out,Zah cc _⟩ | ((repeat apply Exists.intro);exact⟨⟨k+1,by omega,by go_num,HN.out,Zah cc _⟩,rfl⟩)
       case measure=>simp[intOf];omega
      ·have HF:=Qh (Zby af (by rw[HS.out,HI.out];simp));have f0:¬(0:Int)<(m.body[k].hidden.length:Int):=(by omega);have iO:¬0<m.body[k].hidden.length:=(by omega);rw[JQ e2]at iN;have f4:=ZbH (l:=[35,35]) e4;have E4:=Qh e4;clear e4;rw[JR e5]at mB;clear e2 e5;clear e1 az;go_wp2;go_ret;exact⟨Zad HF.out.symm,bX⟩
      ·have HF:=Qh (Zby af (by rw[HS.out,HI.out];simp));have f0:¬(0:Int)<(m.body[k].hidden.length:Int):=(by omega);have iO:¬0<m.body[k].hidden.length:=(by omega);rw[JQ e2]at iN;have f4:=ZbH (l:=[35,35]) e4;have E4:=Qh e4;clear e4;rw[JQ e5]at mB;obtain⟨up,cQ,bN⟩:=bj (k-1) (by omega);obtain⟨h9,rfl,-,-,-⟩:=bN;replace cQ:=cQ.frame (bX.block b1 du);have uq:w2.cell? ⟨b1,ae+(k-1)*4+1,none⟩=some _:=Zae (j:=1) cQ (by decide) rfl;have h6:((k:Int)-1).toNat=k-1:=(by omega);have sZ:IntKind.i64.wrap ((k:Int)-1)=(k:Int)-1:=QF _ (by omega);have jJ:(0:Int)<=(k:Int)-1:=(by omega);have kc:(k:Int)-1<(m.body.length:Int):=(by omega);clear cQ;have f6:=ZbH (l:=[35,35]) e6;clear e2 e5 e6;clear e1 az;go_wp2;go_ret;exact⟨Zad HF.out.symm,bX⟩
      ·have f0:¬(0:Int)<(m.body[k].hidden.length:Int):=(by omega);have iO:¬0<m.body[k].hidden.length:=(by omega);rw[JQ e2]at iN;have f4:=ZbH (l:=[35,35]) e4;have E4:=Qh e4;clear e4;rw[JQ e5]at mB;obtain⟨up,cQ,bN⟩:=bj (k-1) (by omega);obtain⟨h9,rfl,-,-,-⟩:=bN;replace cQ:=cQ.frame (bX.block b1 du);have uq:w2.cell? ⟨b1,ae+(k-1)*4+1,none⟩=some _:=Zae (j:=1) cQ (by decide) rfl;have h6:((k:Int)-1).toNat=k-1:=(by omega);have sZ:IntKind.i64.wrap ((k:Int)-1)=(k:Int)-1:=QF _ (by omega);have jJ:(0:Int)<=(k:Int)-1:=(by omega);have kc:(k:Int)-1<(m.body.length:Int):=(by omega);clear cQ;have f6:=ZbI (l:=[35,35]) e6;clear e1 e2 e5 e6;have HN:=Qh (az.succ (by rw[HS.out,HI.out,hf];rfl));clear az;go_wp2
       go_quiet (fail)
       go_wp2;go_roundw;case rel=>first | exact⟨k+1,by omega,by go_num,HN.out,Zah cc _⟩ | ((repeat apply Exists.intro);exact⟨⟨k+1,by omega,by go_num,HN.out,Zah cc _⟩,rfl⟩)
       case measure=>simp[intOf];omega
      ·have f0:¬(0:Int)<(m.body[k].hidden.length:Int):=(by omega);have iO:¬0<m.body[k].hidden.length:=(by omega);rw[JQ e2]at iN;have f4:=ZbI (l:=[35,35]) e4;have E4:=Qh e4;clear e4;clear e1 e2;have HN:=Qh (az.succ (by rw[HS.out,HI.out,hf];rfl));clear az;go_wp2
       go_quiet (fail)
       go_wp2;go_roundw;case rel=>first | exact⟨k+1,by omega,by go_num,HN.out,Zah cc _⟩ | ((repeat apply Exists.intro);exact⟨⟨k+1,by omega,by go_num,HN.out,Zah cc _⟩,rfl⟩)
       case measure=>simp[intOf];omega
     ·have HF:=Qh (ZlP HH.out HP.out (λj hj=>az j (by omega)));clear az;go_wp2;go_ret;exact⟨Zad HF.out.symm,aD⟩
theorem Y5A1 {g:Prop}(h:g:=by
 by_cases e7:m.body[k].text=ZdF
 ·have f7:=ZbH (l:=[35]) e7;have E7:=Qh e7;clear e7;by_cases e8:k+1=m.body.length
  ·have HF:=Qh (Zby af (by rw[HS.out,HI.out,hf,Zpv af E7.out e8];rfl));rw[JR e8]at mB;clear e8 az;go_wp2
   go_quiet (fail)
   go_wp2;go_ret;exact⟨Zad HF.out.symm,Zah bX _⟩
  ·have bG:k+1<m.body.length:=(by omega);obtain⟨es3,fy,gj⟩:=bj (k+1) bG;have hR3':=gj;obtain⟨h9,rfl,-,-,-⟩:=gj;replace fy:=fy.frame (bX.block b1 du);have c30:w2.cell? ⟨b1,ae+(k+1)*4,none⟩=some _:=ZaB fy (by decide) rfl;have c31:w2.cell? ⟨b1,ae+(k+1)*4+1,none⟩=some _:=Zae (j:=1) fy (by decide) rfl;have c32:w2.cell? ⟨b1,ae+(k+1)*4+2,none⟩=some _:=Zae (j:=2) fy (by decide) rfl;have c33:w2.cell? ⟨b1,ae+(k+1)*4+3,none⟩=some _:=Zae (j:=3) fy (by decide) rfl;have HC:=Qh (λW (hW:Below w2.heap.size w2 W)=>Zgi _ _ m m.body[k+1] _ _ W (HM.out W (bX.trans (hW.mono bX.size))) (sTok.below (sTok.below hR3' bX) hW));have h6:((k:Int)+1).toNat=k+1:=(by omega);have sZ:IntKind.i64.wrap ((k:Int)+1)=(k:Int)+1:=QF _ (by omega);have jJ:(0:Int)<=(k:Int)+1:=(by omega);have kc:(k:Int)+1<(m.body.length:Int):=(by omega);rw[JQ e8]at mB;clear fy hR3' e8 bj dw;go_wp2
   go_still_tail 19,(by kernel_rfl)
   change wpList _ _ _ _ _ w2.drew;have hd:Below w2.heap.size w2 w2.drew:=Zah (QD _ _) 1;generalize w2.drew=w3 at *;by_cases e9:parOf m.params m.body[k+1]<0
   ·have HF:=Qh (Zby af (by rw[HS.out,HI.out,hf,signS_no bG E7.out e9];rfl));clear az;go_wp2_with (go_at_call 96;refine(HC.out _ hd).mono ?_;rintro e w4⟨rfl,aM⟩)
    go_ret;exact⟨Zad HF.out.symm,(bX.trans (hd.mono bX.size)).trans (aM.mono (QZ bX.size hd.size))⟩
   ·have HN:=Qh (az.succ (by rw[HS.out,HI.out,hf,Zqg bG E7.out e9];rfl));clear az;go_wp2_with (go_at_call 96;refine(HC.out _ hd).mono ?_;rintro e w4⟨rfl,aM⟩)
    go_roundw;case rel=>first | exact⟨k+1,by omega,by go_num,HN.out,(cc.trans (hd.mono cc.size)).trans (aM.mono (QZ cc.size hd.size))⟩ | ((repeat apply Exists.intro);exact⟨⟨k+1,by omega,by go_num,HN.out,(cc.trans (hd.mono cc.size)).trans (aM.mono (QZ cc.size hd.size))⟩,rfl⟩)
    case measure=>simp[intOf];omega
 ·have f7:=ZbI (l:=[35]) e7;have HN:=Qh (az.succ (by rw[HS.out,HI.out,hf,Zjd af e7];rfl));clear e7 az;go_wp2
  go_quiet (fail)
  go_wp2;go_roundw;case rel=>first | exact⟨k+1,by omega,by go_num,HN.out,Zah cc _⟩ | ((repeat apply Exists.intro);exact⟨⟨k+1,by omega,by go_num,HN.out,Zah cc _⟩,rfl⟩)
  case measure=>simp[intOf];omega):g:=h
theorem Zh3 (m:DMacro)(h2 h3:Value)(bv dI:List Nat)(w:World)(k0:ZaC m.name)(K2:(Zaa sStr).R w [h2] m.params bv)(K3:(Zaa sTok).R w [h3] m.body dI)(hf:m.function=true):
  Calls Tryz.prog 67 #[.agg #[.string m.name,.bool m.function,h2,h3]] w (Zbu (Zaq m) w):=by
 obtain⟨a2,fK,rfl,dA,sg,qe,zB⟩:=Zaf K2;have K3':=K3;obtain⟨a3,gi,rfl,wj,jK,dw⟩:=Zac K3;unfold maxLen at sg jK;rw[hf];have HN:=Qh (λW=>ZgW m.name W k0);have bD:=Zab w (.cells #[.string m.name,.bool true,.slice a2 m.params.length fK,.slice a3 m.body.length gi] 56);have HX:=Qh (JS w (.cells #[.string m.name,.bool true,.slice a2 m.params.length fK,.slice a3 m.body.length gi] 56));go_enter Tryz.func67,Tryz.ntmps67;rcases ZlQ m with⟨g1,HF⟩ | ⟨g1,g2,HF⟩ | ⟨g1,g2,g3,HF⟩ | ⟨g1,g2,g3,g4,g5,HF⟩ | ⟨g1,g2,g3,g4,g5,HF⟩ | ⟨g1,g2,g3,g4,g5,HH⟩
 ·rw[g1]at HN;clear g1;go_wp2_with (go_at_call 95;refine(HN.out _).mono ?_;rintro e w1⟨rfl,aG⟩)
  go_ret;exact⟨Zad HF.out.symm,bD.trans (aG.mono bD.size)⟩
 ·rw[g1]at HN;have e2:=ZbH (l:=[100,101,102,105,110,101,100]) g2;clear g1 g2;go_wp2_with (go_at_call 95;refine(HN.out _).mono ?_;rintro e w1⟨rfl,aG⟩;have q0:=Qc 0 ((aG.block _ (Qg HX.out).1).trans HX.out))
  go_ret;exact⟨Zad HF.out.symm,bD.trans (aG.mono bD.size)⟩
 ·rw[g1]at HN;have e2:=ZbI (l:=[100,101,102,105,110,101,100]) g2;clear g1 g2;go_wp2_with (go_at_call 95;refine(HN.out _).mono ?_;rintro e w1⟨rfl,aG⟩;have q0:=Qc 0 ((aG.block _ (Qg HX.out).1).trans HX.out);have q2:=Qc 2 ((aG.block _ (Qg HX.out).1).trans HX.out))
  go_ret;exact⟨Zad HF.out.symm,bD.trans (aG.mono bD.size)⟩
 ·rw[hf]at g4;exact absurd g4 (by simp)
 ·rw[g1]at HN;have e2:=ZbI (l:=[100,101,102,105,110,101,100]) g2;clear g1 g2 g4;go_wp2_with (go_at_call 95;refine(HN.out _).mono ?_;rintro e w1⟨rfl,aG⟩;have q0:=Qc 0 ((aG.block _ (Qg HX.out).1).trans HX.out);have q1:=Qc 1 ((aG.block _ (Qg HX.out).1).trans HX.out);have q2:=Qc 2 ((aG.block _ (Qg HX.out).1).trans HX.out);have q3:=Qc 3 ((aG.block _ (Qg HX.out).1).trans HX.out))
  go_ret;exact⟨Zad HF.out.symm,bD.trans (aG.mono bD.size)⟩
 ·rw[g1]at HN;have e2:=ZbI (l:=[100,101,102,105,110,101,100]) g2;clear g1 g2 g4;go_wp2_with (go_at_call 95;refine(HN.out _).mono ?_;rintro e w1⟨rfl,aG⟩;have q0:=Qc 0 ((aG.block _ (Qg HX.out).1).trans HX.out);have q1:=Qc 1 ((aG.block _ (Qg HX.out).1).trans HX.out);have q2:=Qc 2 ((aG.block _ (Qg HX.out).1).trans HX.out);have q3:=Qc 3 ((aG.block _ (Qg HX.out).1).trans HX.out))
  have cq:=bD.trans (aG.mono bD.size);have dG:=Qh ((aG.block _ (Qg HX.out).1).trans HX.out);have HM:=Qh (λW (hb:Below w.heap.size w W)=>sMacro.below (show sMacro.R w [.string m.name,.bool true,.slice a2 m.params.length fK,.slice a3 m.body.length gi] m (bv++dI) from⟨_,_,bv,dI,by rw[hf],k0,K2,K3,rfl⟩) hb);clear q0 q1 q2 q3 HN bD HX aG K3' K2 K3;go_loopw [3] (λi wr=>∃k:Nat,k<=m.params.length/\i=.int .i64 k/\ParUpto m.params k/\Below w1.heap.size w1 wr) (λi _=>m.params.length-(intOf i).toNat)
  case atStart=>exact⟨0,by omega,rfl,ParUpto.zero _,QD _ _⟩
  case round =>
   obtain⟨k,hk,rfl,az,hb⟩:=hrel;have cJ:=Qh ((hb.block _ (Qg dG.out).1).trans dG.out);have q2:=Qc 2 cJ.out;have q3:=Qc 3 cJ.out;have aD:=cq.trans (hb.mono cq.size);by_cases af:k<m.params.length
   ·obtain⟨b,off,rfl,bK,_,mY⟩:=qe (by omega);have kF:=(aD.cell (p:=⟨b,off+k,none⟩) bK).trans (mY k af);have HN:=Qh (λW=>ZgW m.params[k] W (zB k af));cases h1:Zap m.params[k] 1
    ·rw[h1]at HN;have HF:=Qh (ZlO af (par_name af h1));clear h1 mY az;go_wp2_with (go_at_call 95;refine(HN.out _).mono ?_;rintro e w2⟨rfl,aF⟩)
     go_ret;exact⟨Zad HF.out.symm,aD.trans (aF.mono aD.size)⟩
    ·rw[h1]at HN;have H1:=Qh h1;clear h1;go_wp2_with (go_at_call 95;refine(HN.out _).mono ?_;rintro e w2⟨rfl,aF⟩)
     have bB:=Qh ((aF.block _ (Qg cJ.out).1).trans cJ.out);have zC:=hb.trans (aF.mono hb.size);clear q2 q3 kF cJ;go_loopw [4] (λi wr=>∃j:Nat,j<=k/\i=.int .i64 j/\NotUpto m.params m.params[k] j/\Below w2.heap.size w2 wr) (λi _=>k-(intOf i).toNat)
     case atStart=>exact⟨0,by omega,rfl,NotUpto.zero _ _,QD _ _⟩
     case round =>
      obtain⟨j,hj,rfl,qf,aC⟩:=hrel;have dJ:=Qh ((aC.block _ (Qg bB.out).1).trans bB.out);have dv:=zC.trans (aC.mono zC.size);have eF:=cq.trans (dv.mono cq.size);have q2:=Qc 2 dJ.out;by_cases my:j<k
      ·have hcj:=(eF.cell (p:=⟨b,off+j,none⟩) bK).trans (mY j (by omega));have kF:=(eF.cell (p:=⟨b,off+k,none⟩) bK).trans (mY k af);by_cases e:m.params[j]=m.params[k]
       ·have e':=Zca e;have HF:=Qh (ZlO af (Zqf af my e));clear e mY az qf;go_wp2
        go_quiet (fail)
        go_wp2;go_ret;exact⟨Zad HF.out.symm,Zah eF _⟩
       ·have e':(m.params[j].toList==m.params[k].toList)=false:=Zcb e;have HG:=Qh (qf.succ (by omega) e);clear e mY az qf;go_wp2
        go_quiet (fail)
        go_wp2;go_roundw;case rel=>exact⟨j+1,by omega,by go_num,HG.out,Zah aC _⟩
        case measure=>simp[intOf];omega
      ·have hjk':j=k:=(by omega);subst hjk';have HG:=Qh (az.succ (par_yes af H1.out qf));clear mY az qf;go_wp2;go_roundw;case rel=>exact⟨j+1,by omega,by go_num,HG.out,dv⟩
       case measure=>simp[intOf];omega
   ·have HP:=Qh (show ParUpto m.params m.params.length from λj hj=>az j (by omega));have hz:decide (k<m.params.length)=false:=JQ af;clear az hk;go_wp2;try rw[hz]
    clear q2 q3 cJ aD af hz;go_loopw [6] (λi wr=>∃k:Nat,k<=m.body.length/\i=.int .i64 k/\BodUpto (Zd4 m) k/\Below w1.heap.size w1 wr) (λi _=>m.body.length-(intOf i).toNat)
    case atStart=>exact⟨0,by omega,rfl,BodUpto.zero _,hb⟩
    case round =>
     clear hb;obtain⟨k,hk,rfl,az,hb⟩:=hrel;have bB:=Qh ((hb.block _ (Qg dG.out).1).trans dG.out);have q3:=Qc 3 bB.out;have aD:=cq.trans (hb.mono cq.size);by_cases af:k<m.body.length
     ·obtain⟨b1,ae,dt,rfl,du,-,bj⟩:=dw (by omega);obtain⟨lA,bf,bR⟩:=bj k af;have mZ:=bR;obtain⟨hh,rfl,-,-,K1⟩:=bR;obtain⟨ah,bV,rfl,-⟩:=Zac K1;replace bf:=bf.frame (aD.block b1 du);have dg:wr.cell? ⟨b1,ae+k*4,none⟩=some _:=ZaB bf (by decide) rfl;have dL:wr.cell? ⟨b1,ae+k*4+1,none⟩=some _:=Zae (j:=1) bf (by decide) rfl;have dh:wr.cell? ⟨b1,ae+k*4+2,none⟩=some _:=Zae (j:=2) bf (by decide) rfl;have ew:wr.cell? ⟨b1,ae+k*4+3,none⟩=some _:=Zae (j:=3) bf (by decide) rfl;have bW:Below wr.heap.size wr (wr.alloc (.cells #[.int .i64 m.body[k].kind,.string m.body[k].text,.bool m.body[k].spaced,.slice ah m.body[k].hidden.length bV] 32)):=Zab _ _;have HT:=Qh (JS wr (.cells #[.int .i64 m.body[k].kind,.string m.body[k].text,.bool m.body[k].spaced,.slice ah m.body[k].hidden.length bV] 32));have HV:=Qh (λW (hW:Below (wr.alloc (.cells #[.int .i64 m.body[k].kind,.string m.body[k].text,.bool m.body[k].spaced,.slice ah m.body[k].hidden.length bV] 32)).heap.size (wr.alloc (.cells #[.int .i64 m.body[k].kind,.string m.body[k].text,.bool m.body[k].spaced,.slice ah m.body[k].hidden.length bV] 32)) W)=>ZcO _ _ _ W (sTok.below (sTok.below (sTok.below mZ aD) bW) hW));clear K1 mZ bf;go_wp2_with fail
      refine(HV.out _ (QD _ _)).mono ?_;rintro e w2⟨rfl,aF⟩;have gC:=Qh ((aF.block _ (Qg HT.out).1).trans HT.out);have m4:=bW.trans (aF.mono bW.size);have cc:=hb.trans (m4.mono hb.size);have bX:=cq.trans (cc.mono cq.size);have dJ:=Qh ((m4.block _ (Qg bB.out).1).trans bB.out);have p1:=Qc 1 gC.out;have p2:=Qc 2 gC.out;have p3:=Qc 3 gC.out;clear q3 dg dL dh ew HV HT aF bB bW m4 aD hb;have q0:=Qc 0 dJ.out;have q1:=Qc 1 dJ.out;have q2:=Qc 2 dJ.out;have q3:=Qc 3 dJ.out;cases hv:Zaj m.body[k]
      ·have HF:=Qh (Zby af (by rw[Zej _ _ af,hv];rfl));clear hv az;go_wp2;go_ret;exact⟨Zad HF.out.symm,bX⟩
      have HS:=Qh (Zej m k af);rw[hv]at HS;clear hv;have iN:((k:Int)==0)=decide (k=0):=(by rw[Bool.eq_iff_iff];simp);have mB:((k:Int)==(m.body.length:Int)-1)=decide (k+1=m.body.length):=(by rw[Bool.eq_iff_iff];simp;omega);rcases Zii af with⟨e1,HI⟩ | ⟨e1,e2,e3,HI⟩ | ⟨e1,e2,e3,e4,HI⟩ | ⟨e1,e2,e3,e4,HI⟩ | ⟨e1,e2,e4,e5,HI⟩ | ⟨e1,e2,e4,e5,e6,HI⟩ | ⟨e1,e2,e4,e5,e6,HI⟩ | ⟨e1,e2,e4,HI⟩
      ·have HF:=Qh (Zby af (by rw[HS.out,HI.out];simp));have f0:(0:Int)<(m.body[k].hidden.length:Int):=(by omega);have iO:0<m.body[k].hidden.length:=(by omega);have f02:decide ((0:Int)<(m.body[k].hidden.length:Int))=true:=JR f0;clear e1 az;go_wp2;go_ret;exact⟨Zad HF.out.symm,bX⟩
      ·have HF:=Qh (Zby af (by rw[HS.out,HI.out];simp));have f0:¬(0:Int)<(m.body[k].hidden.length:Int):=(by omega);have iO:¬0<m.body[k].hidden.length:=(by omega);rw[JR e2]at iN;rw[e3]at p2;clear e2 e3;clear e1 az;go_wp2;go_ret;exact⟨Zad HF.out.symm,bX⟩
      ·have HF:=Qh (Zby af (by rw[HS.out,HI.out];simp));have f0:¬(0:Int)<(m.body[k].hidden.length:Int):=(by omega);have iO:¬0<m.body[k].hidden.length:=(by omega);rw[JR e2]at iN;rw[e3]at p2;have f4:=ZbH (l:=[35,35]) e4;have E4:=Qh e4;clear e4;clear e2 e3;clear e1 az;go_wp2;go_ret;exact⟨Zad HF.out.symm,bX⟩
      ·have f0:¬(0:Int)<(m.body[k].hidden.length:Int):=(by omega);have iO:¬0<m.body[k].hidden.length:=(by omega);rw[JR e2]at iN;rw[e3]at p2;have f4:=ZbI (l:=[35,35]) e4;have E4:=Qh e4;clear e4;clear e1 e2 e3;exact Y5A1
      ·have HF:=Qh (Zby af (by rw[HS.out,HI.out];simp));have f0:¬(0:Int)<(m.body[k].hidden.length:Int):=(by omega);have iO:¬0<m.body[k].hidden.length:=(by omega);rw[JQ e2]at iN;have f4:=ZbH (l:=[35,35]) e4;have E4:=Qh e4;clear e4;rw[JR e5]at mB;clear e2 e5;clear e1 az;go_wp2;go_ret;exact⟨Zad HF.out.symm,bX⟩
      ·have HF:=Qh (Zby af (by rw[HS.out,HI.out];simp));have f0:¬(0:Int)<(m.body[k].hidden.length:Int):=(by omega);have iO:¬0<m.body[k].hidden.length:=(by omega);rw[JQ e2]at iN;have f4:=ZbH (l:=[35,35]) e4;have E4:=Qh e4;clear e4;rw[JQ e5]at mB;obtain⟨up,cQ,bN⟩:=bj (k-1) (by omega);obtain⟨h9,rfl,-,-,-⟩:=bN;replace cQ:=cQ.frame (bX.block b1 du);have uq:w2.cell? ⟨b1,ae+(k-1)*4+1,none⟩=some _:=Zae (j:=1) cQ (by decide) rfl;have h6:((k:Int)-1).toNat=k-1:=(by omega);have sZ:IntKind.i64.wrap ((k:Int)-1)=(k:Int)-1:=QF _ (by omega);have jJ:(0:Int)<=(k:Int)-1:=(by omega);have kc:(k:Int)-1<(m.body.length:Int):=(by omega);clear cQ;have f6:=ZbH (l:=[35,35]) e6;clear e2 e5 e6;clear e1 az;go_wp2;go_ret;exact⟨Zad HF.out.symm,bX⟩
      ·have f0:¬(0:Int)<(m.body[k].hidden.length:Int):=(by omega);have iO:¬0<m.body[k].hidden.length:=(by omega);rw[JQ e2]at iN;have f4:=ZbH (l:=[35,35]) e4;have E4:=Qh e4;clear e4;rw[JQ e5]at mB;obtain⟨up,cQ,bN⟩:=bj (k-1) (by omega);obtain⟨h9,rfl,-,-,-⟩:=bN;replace cQ:=cQ.frame (bX.block b1 du);have uq:w2.cell? ⟨b1,ae+(k-1)*4+1,none⟩=some _:=Zae (j:=1) cQ (by decide) rfl;have h6:((k:Int)-1).toNat=k-1:=(by omega);have sZ:IntKind.i64.wrap ((k:Int)-1)=(k:Int)-1:=QF _ (by omega);have jJ:(0:Int)<=(k:Int)-1:=(by omega);have kc:(k:Int)-1<(m.body.length:Int):=(by omega);clear cQ;have f6:=ZbI (l:=[35,35]) e6;clear e1 e2 e5 e6;by_cases e7:m.body[k].text=ZdF
       ·exact absurd (e7.symm.trans E4.out) (by decide)
       ·have f7:=ZbI (l:=[35]) e7;have HN:=Qh (az.succ (by rw[HS.out,HI.out,hf,Zjd af e7];rfl));clear e7 az;go_wp2
        go_quiet (fail)
        go_wp2;go_roundw;case rel=>first | exact⟨k+1,by omega,by go_num,HN.out,Zah cc _⟩ | ((repeat apply Exists.intro);exact⟨⟨k+1,by omega,by go_num,HN.out,Zah cc _⟩,rfl⟩)
        case measure=>simp[intOf];omega
      ·have f0:¬(0:Int)<(m.body[k].hidden.length:Int):=(by omega);have iO:¬0<m.body[k].hidden.length:=(by omega);rw[JQ e2]at iN;have f4:=ZbI (l:=[35,35]) e4;have E4:=Qh e4;clear e4;clear e1 e2;exact Y5A1
     ·have HF:=Qh (ZlP HH.out HP.out (λj hj=>az j (by omega)));clear az;go_wp2;go_ret;exact⟨Zad HF.out.symm,aD⟩
end Go.Proofs.YtipfpppcbmpjiaaGreat
