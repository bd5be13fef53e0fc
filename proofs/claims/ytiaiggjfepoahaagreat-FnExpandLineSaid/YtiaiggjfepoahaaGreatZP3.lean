/- Texts that the proof of P stands on, in one file. -/
import Derived.Test.YtiaiggjfepoahaaGreatZP2
import Derived.Deep.RegionHeld3
import Derived.Deep.QuietTactic
import Derived.BigQuiet
import Derived.Outline
import Derived.StillTailTactics
import Derived.Laws.Cover1
import Derived.IntWalk
import Derived.Laws.Strings2
import Derived.Laws.Concat
import Derived.Test.YtiaiggjfepoahaaGreatShelf
set_option linter.unusedVariables false
set_option maxHeartbeats 16000000
set_option maxRecDepth 100000
set_option linter.unusedSimpArgs false
/- Tokens and the law's own helpers. -/
namespace Go.Proofs.YtiaiggjfepoahaaGreat
open Go.RowKit
section
variable {H:Type} {enc:TypeId × Value->H} {w:World} {base:Nat} {spare:Nat->Bool} {held:Bool}
end
theorem Zdi:∀ (x y:List UInt8),Op.bytesLess x y=!(Op.bytesLess y x || y==x)
 | [],[]=>rfl
 | _::_,[]=>by simp [Op.bytesLess]
 | [],_::_=>by simp [Op.bytesLess]
 |
  a::x,b::y=>by
  have ih:=Zdi x y
  simp only [Op.bytesLess,ih]
  by_cases h:a=b
  ·subst h
   have h1:decide (a<a)=false:=by simp [UInt8.lt_irrefl]
   rw [h1]
   cases hL:Op.bytesLess y x <;> by_cases hE:y=x <;> simp [hE]
  ·have h2:(a==b)=false:=by simp [h]
   have h3:(b==a)=false:=by simp [Ne.symm h]
   have h4:((b::y)==(a::x))=false:=by simp [Ne.symm h]
   rw [h2,h3,h4]
   have:decide (a<b)=!decide (b<a):=by
    by_cases hl:a<b
    ·have:=UInt8.lt_asymm hl;simp [hl,this]
    ·have:b<a:=by
      rw [UInt8.lt_iff_toNat_lt] at hl ⊢
      have:a.toNat≠b.toNat:=λ e=>h (UInt8.toNat_inj.1 e)
      omega
     simp [hl,this]
   rw [this];simp
def sLess (a b:ByteArray):Bool:=Op.bytesLess a.toList b.toList
theorem sLess_no {a b:ByteArray} (h:sLess a b=false):(Op.bytesLess b.toList a.toList || b.toList==a.toList)=true:=by
 unfold sLess at h;rw [Zdi] at h;cases hx:(Op.bytesLess b.toList a.toList || b.toList==a.toList)
 ·rw [hx] at h;exact absurd h (by decide)
 ·rfl
theorem Zm8 {a b:ByteArray} (h:sLess a b=true):(Op.bytesLess b.toList a.toList || b.toList==a.toList)=false:=by
 unfold sLess at h;rw [Zdi] at h;simpa using h
theorem Zj9 (s:ByteArray):∀ (k:Nat) (sp:Bool) (n:Nat) (l:List Tok),toks s k sp n=some l->k<=s.size->∀ t∈l,t.text.size<=s.size-k:=by
 intro k sp n
 induction k,sp,n using toks.induct (s:=s) with
 |
  case1 k sp n hk h32 ih =>
  intro l h hks t ht
  rw [toks,dif_pos hk,if_pos h32] at h
  have:=ih l h (by omega) t ht
  omega
 |
  case2 k sp n hk h32 hb =>
  intro l h hks t ht
  rw [toks,dif_pos hk,if_neg h32,if_pos hb] at h
  exact absurd h (by simp)
 |
  case3 k sp n hk h32 hb ih =>
  intro l h hks t ht
  rw [toks,dif_pos hk,if_neg h32,if_neg hb] at h
  have hr:=ZaY (s:=s) (k:=k) (by omega)
  rw [Option.map_eq_some_iff] at h
  obtain⟨l',h1,rfl⟩:=h
  rcases List.mem_cons.1 ht with rfl | ht
  ·show (s.extract k (Zav s k).toNat).size<=_;rw [ByteArray.size_extract];omega
  ·have:=ih l' h1 (by omega) t ht
   omega
 |
  case4 k sp n hk =>
  intro l h hks t ht
  rw [toks,dif_neg hk] at h
  simp only [Qi] at h
  subst h;simp at ht
theorem Zmw {s:ByteArray} {t:Tok} {l:List Tok} (h:toks s 0 false 0=some (t::l)) (ht:t.text=s):t.spaced=false:=by
 by_cases h0:0<s.size
 ·by_cases h32:s[0].toNat=32
  ·rw [toks,dif_pos h0,if_pos h32] at h
   have:=Zj9 s 1 true 0 _ h (by omega) t (by simp)
   rw [ht] at this
   omega
  ·rw [toks,dif_pos h0,if_neg h32] at h
   split at h
   ·simp at h
   ·rw [Option.map_eq_some_iff] at h
    obtain⟨l',_,h2⟩:=h
    simp only [List.cons.injEq] at h2
    rw [← h2.1]
 ·rw [toks,dif_neg h0] at h;simp at h
theorem Za5 {s:ByteArray} {l:List Tok} (h:Zai s=(l,true)):toks s 0 false 0=some l/\ZaC s=true:=by
 unfold Zai at h
 cases h0:ZaC s
 ·rw [h0,if_neg (by simp)] at h;simp at h
 ·rw [h0,if_pos rfl] at h
  cases h1:toks s 0 false 0 with
  | none=>rw [h1] at h;simp at h
  | some l'=>rw [h1] at h;simp at h;rw [h];exact⟨rfl,rfl⟩
theorem ZcZ {s:ByteArray} {l:List Tok} (h:Zai s=(l,false)):l=[]:=by
 unfold Zai at h
 split at h
 ·split at h
  ·simp at h
  ·simp at h;exact h
 ·simp at h;exact h
def Zak (x:ByteArray) (k:Int):Bool:=(Zai x).2 && decide ((Zai x).1.length=1) && (Zai x).1.all (λ t=>decide (t.kind=k) && decide (t.text=x))
theorem ZcJ (x:ByteArray) (k:Int) :
  (Zai x=([],false)/\Hid (Zak x k=false)) \/
  (∃ l,Zai x=(l,true)/\l.length≠1/\Hid (Zak x k=false)) \/
  (∃ t,Zai x=([t],true)/\t.kind≠k/\Hid (Zak x k=false)) \/
  (∃ t,Zai x=([t],true)/\t.kind=k/\t.text≠x/\Hid (Zak x k=false)) \/
  (∃ t,Zai x=([t],true)/\t.kind=k/\t.text=x/\t.spaced=false/\Hid (Zak x k=true)):=by
 rcases hr:Zai x with⟨l,ok⟩
 cases ok
 ·obtain rfl:=ZcZ hr
  exact .inl ⟨rfl,by simp [Hid,Zak,hr]⟩
 ·by_cases h1:l.length=1
  ·obtain⟨t,rfl⟩:=List.length_eq_one_iff.1 h1
   by_cases h2:t.kind=k
   ·by_cases h3:t.text=x
    ·exact .inr (.inr (.inr (.inr ⟨t,rfl,h2,h3,Zmw (Za5 hr).1 h3,by simp [Hid,Zak,hr,h2,h3]⟩)))
    ·exact .inr (.inr (.inr (.inl ⟨t,rfl,h2,h3,by simp [Hid,Zak,hr,h2,h3]⟩)))
   ·exact .inr (.inr (.inl ⟨t,rfl,h2,by simp [Hid,Zak,hr,h2]⟩))
  ·exact .inr (.inl ⟨l,rfl,h1,by simp [Hid,Zak,hr,h1]⟩)
def ZaO (l:List ByteArray) (i:Nat):Bool:=if h:i<l.length then Zak l[i] 1 && (decide (i=0) || sLess (l[i-1]'(by omega)) l[i]) else true
def hidOk (l:List ByteArray):Bool:=decide (l.length<=60) && (List.range l.length).all (ZaO l)
def HidUpto (l:List ByteArray) (k:Nat):Prop:=∀ j,j<k->ZaO l j=true
theorem HidUpto.zero (l:List ByteArray):HidUpto l 0:=by intro j h;omega
theorem HidUpto.succ {l:List ByteArray} {k:Nat} (h:HidUpto l k) (h1:ZaO l k=true):HidUpto l (k+1):=by
 intro j hj
 by_cases e:j=k
 ·subst e;exact h1
 ·exact h j (by omega)
theorem ZhG {l:List ByteArray} (h:60<l.length):hidOk l=false:=by unfold hidOk;rw [decide_eq_false (by omega)];rfl
theorem ZcK {l:List ByteArray} {k:Nat} (hk:k<l.length) (h:ZaO l k=false):hidOk l=false:=by
 unfold hidOk
 have:(List.range l.length).all (ZaO l)=false:=by
  rw [List.all_eq_false];exact⟨k,by simpa using hk,by simp [h]⟩
 rw [this,Bool.and_false]
theorem ZfY {l:List ByteArray} {k:Nat} (h:HidUpto l k) (hk:l.length<=k) (hl:l.length<=60):hidOk l=true:=by
 unfold hidOk
 rw [decide_eq_true hl,Bool.true_and,List.all_eq_true]
 intro i hi
 have:i<l.length:=by simpa using hi
 exact h i (by omega)
theorem Zc0 {l:List ByteArray} {k:Nat} (hk:k<l.length) (h:Zak l[k] 1=false):ZaO l k=false:=by unfold ZaO;rw [dif_pos hk,h];rfl
theorem ZhH {l:List ByteArray} {k:Nat} (hk:k<l.length) (h0:0<k) (h:sLess (l[k-1]'(by omega)) l[k]=false):ZaO l k=false:=by
 unfold ZaO;rw [dif_pos hk,h,decide_eq_false (by omega)];simp
theorem ZgL {l:List ByteArray} (hk:0<l.length) (h:Zak l[0] 1=true):ZaO l 0=true:=by unfold ZaO;rw [dif_pos hk,h];simp
theorem ZgM {l:List ByteArray} {k:Nat} (hk:k<l.length) (h0:0<k) (h:Zak l[k] 1=true) (h2:sLess (l[k-1]'(by omega)) l[k]=true):ZaO l k=true:=by
 unfold ZaO;rw [dif_pos hk,h,h2];simp
theorem hid_ways {l:List ByteArray} {k:Nat} (hk:k<l.length) :
  (Zak l[k] 1=false/\Hid (ZaO l k=false))\/(Zak l[k] 1=true/\k=0/\Hid (ZaO l k=true)) \/
  (∃ hp:0<k,Zak l[k] 1=true/\sLess (l[k-1]'(by omega)) l[k]=false/\Hid (ZaO l k=false)) \/
  (∃ hp:0<k,Zak l[k] 1=true/\sLess (l[k-1]'(by omega)) l[k]=true/\Hid (ZaO l k=true)):=by
 cases h:Zak l[k] 1
 ·exact .inl ⟨rfl,Zc0 hk h⟩
 ·by_cases h0:k=0
  ·subst h0;exact .inr (.inl ⟨rfl,rfl,ZgL hk h⟩)
  ·cases h2:sLess (l[k-1]'(by omega)) l[k]
   ·exact .inr (.inr (.inl ⟨by omega,rfl,h2,ZhH hk (by omega) h2⟩))
   ·exact .inr (.inr (.inr ⟨by omega,rfl,h2,ZgM hk (by omega) h h2⟩))
def tokOk (t:Tok):Bool:=Zak t.text t.kind && hidOk t.hidden
theorem ZeW (s:ByteArray) (i j:Int) (a b:Nat) (hi:i=a) (hj:j=b) (h:a<=b) (h2:b<=s.size) (W:World) :
  (Instr.slice 9 (.string s) (some (.int .i64 i)) (some (.int .i64 j)) none).run Tryz.prog W=.ok (.string (s.extract a b)) W:=by
 subst hi;subst hj
 rw [run_slice_string W 9 s .i64 .i64 a b Tryz.underlying9 (by omega) (by omega) (by omega)]
 simp
theorem Za3 {a b:Int} (h:a=b):Ending.returned (.int .i64 a)=.returned (.int .i64 b):=by rw [h]
theorem ZgN (s:ByteArray) (k0:Nat) (w:World) (hs:s.size<=1000000) (hk0:k0<s.size) :
  Calls Tryz.prog 90 #[.string s,.int .i64 k0] w λ e w'=>e=.returned (.int .i64 (tEnd s (k0+1):Nat))/\w'=w:=by
 go_enter Tryz.func90,Tryz.ntmps90
 go_wp2
 go_loop [5] (λ i=>∃ k:Nat,k<=s.size+1/\i=.int .i64 k/\tEnd s k=tEnd s (k0+1)) (λ i=>s.size+1-(intOf i).toNat)
 case atStart=>exact⟨k0+1,by omega,by go_num,rfl⟩
 case round =>
  obtain⟨k,hk,rfl,he⟩:=hrel
  by_cases hlt:k<s.size
  ·by_cases h34:s[k].toNat=34
   ·have HF:=Qh ((ZcX hlt h34).symm.trans he)
    have h34':((s[k].toNat:Int) != 34)=false:=by simp;omega
    clear he
    go_wp2
    all_goals (go_ret;exact⟨Za3 (by have:=HF.out;omega),rfl⟩)
   ·have h34':((s[k].toNat:Int) != 34)=true:=by simp;omega
    by_cases h92:s[k].toNat=92
    ·have HF:=Qh ((ZcO hlt h92).symm.trans he)
     have h92':((s[k].toNat:Int)==92)=true:=by simp;omega
     clear he
     go_wp2
     go_round
     case rel=>exact⟨k+2,by omega,by go_num,HF.out⟩
     case measure=>simp [intOf];omega
    ·have HF:=Qh ((Zcl hlt h34 h92).symm.trans he)
     have h92':((s[k].toNat:Int)==92)=false:=by simp;omega
     clear he
     go_wp2
     go_round
     case rel=>exact⟨k+1,by omega,by go_num,HF.out⟩
     case measure=>simp [intOf];omega
  ·have HF:=Qh ((ZcI (s:=s) (k:=k) (by omega)).symm.trans he)
   clear he
   go_wp2
   all_goals (go_ret;exact⟨Za3 (by have:=HF.out;omega),rfl⟩)
theorem ZhI (s:ByteArray) (k0:Nat) (w:World) (hs:s.size<=1000000) (hk0:k0<s.size) :
  Calls Tryz.prog 93 #[.string s,.int .i64 k0] w λ e w'=>e=.returned (.int .i64 (tEnd s (k0+1):Nat))/\w'=w:=by
 go_enter Tryz.func93,Tryz.ntmps93
 go_wp2
 go_loop [5] (λ i=>∃ k:Nat,k<=s.size+1/\i=.int .i64 k/\tEnd s k=tEnd s (k0+1)) (λ i=>s.size+1-(intOf i).toNat)
 case atStart=>exact⟨k0+1,by omega,by go_num,rfl⟩
 case round =>
  obtain⟨k,hk,rfl,he⟩:=hrel
  by_cases hlt:k<s.size
  ·by_cases h34:s[k].toNat=34
   ·have HF:=Qh ((ZcX hlt h34).symm.trans he)
    have h34':((s[k].toNat:Int)==34)=true:=by simp;omega
    have h92':((s[k].toNat:Int)==92)=false:=by simp;omega
    clear he
    go_wp2
    go_ret
    exact⟨Za3 (by have:=HF.out;omega),rfl⟩
   ·have h34':((s[k].toNat:Int)==34)=false:=by simp;omega
    by_cases h92:s[k].toNat=92
    ·have HF:=Qh ((ZcO hlt h92).symm.trans he)
     have h92':((s[k].toNat:Int)==92)=true:=by simp;omega
     clear he
     go_wp2
     go_round
     case rel=>exact⟨k+2,by omega,by go_num,HF.out⟩
     case measure=>simp [intOf];omega
    ·have HF:=Qh ((Zcl hlt h34 h92).symm.trans he)
     have h92':((s[k].toNat:Int)==92)=false:=by simp;omega
     clear he
     go_wp2
     go_round
     case rel=>exact⟨k+1,by omega,by go_num,HF.out⟩
     case measure=>simp [intOf];omega
  ·have HF:=Qh ((ZcI (s:=s) (k:=k) (by omega)).symm.trans he)
   clear he
   go_wp2
   go_ret
   exact⟨Za3 (by have:=HF.out;omega),rfl⟩
def Ways (s:ByteArray) (k:Nat) (out:ByteArray) (hk:k<s.size):Prop:=
 (two s k 47 47=true/\Hid (strip1 s 0=some out)) \/
 (two s k 47 47=false/\two s k 47 42=true/\cEnd s (k+2)<0/\Hid (strip1 s 0=none)) \/
 (∃ c:Nat,two s k 47 47=false/\two s k 47 42=true/\cEnd s (k+2)=c/\k<c/\c<=s.size/\Hid (At1 s c (out++⟨#[32]⟩))) \/
 (∃ t:Nat,two s k 47 47=false/\two s k 47 42=false/\((s[k].toNat:Int)==34)=true/\tEnd s (k+1)=t/\k<t/\t<=s.size/\Hid (At1 s t (out++s.extract k t))) \/
 (two s k 47 47=false/\two s k 47 42=false/\((s[k].toNat:Int)==34)=false/\Hid (At1 s (k+1) (out++s.extract k (k+1))))
theorem ways {s:ByteArray} {k:Nat} {out:ByteArray} (hat:At1 s k out) (hk:k<s.size):Ways s k out hk:=by
 unfold Ways
 cases h1:two s k 47 47
 ·cases h2:two s k 47 42
  ·by_cases h3:s[k].toNat=34
   ·have hb:=ZgJ s (k+1)
    have:=hb.2 (by omega)
    exact .inr (.inr (.inr (.inl ⟨_,rfl,rfl,by simp;omega,rfl,by omega,by omega,hat.text hk h1 h2 h3⟩)))
   ·exact .inr (.inr (.inr (.inr ⟨rfl,rfl,by simp;omega,hat.byte hk h1 h2 h3⟩)))
  ·by_cases h3:cEnd s (k+2)<0
   ·exact .inr (.inl ⟨rfl,rfl,h3,hat.open_ hk h1 h2 h3⟩)
   ·have:=Zjd (s:=s) (k:=k+2) (by omega) (by have:=Zd9 h2;omega)
    exact .inr (.inr (.inl ⟨(cEnd s (k+2)).toNat,rfl,rfl,by omega,by omega,by omega,hat.comment hk h1 h2 h3⟩))
 ·exact .inl ⟨rfl,hat.line hk h1⟩
theorem Zfj {a b a' b':Int} (h:a=a') (h':b=b'):Ending.returned (.tuple #[.int .i64 a,.int .i64 b])=.returned (.tuple #[.int .i64 a',.int .i64 b']):=by rw [h,h']
theorem Zcn (c:UInt8) (w:World) :
  Calls Tryz.prog 60 #[.int .u8 (c.toNat:Int)] w λ e w'=>e=.returned (.bool (isDig c))/\w=w':=by
 go_enter Tryz.func60,Tryz.ntmps60
 go_wp2
 all_goals
  go_ret
  exact⟨Zad (by rw [Bool.eq_iff_iff,ZdN];simp <;> omega),rfl⟩
theorem ZbK (c:UInt8) (w:World) :
  Calls Tryz.prog 62 #[.int .u8 (c.toNat:Int)] w λ e w'=>e=.returned (.bool (Zal c))/\w=w':=by
 go_enter Tryz.func62,Tryz.ntmps62
 go_wp2_with (go_at_call 60;refine (Zcn _ _).mono ?_;rintro e w' ⟨rfl,rfl⟩)
 all_goals
  go_ret
  exact⟨Zad (by rw [Bool.eq_iff_iff,Zff];simp [ZdN] <;> omega),rfl⟩
theorem Zez (s:ByteArray) (k0:Nat) (w:World) (hs:s.size<=1000000) (hk0:k0<=s.size) :
  Calls Tryz.prog 61 #[.string s,.int .i64 k0] w λ e w'=>e=.returned (.int .i64 (Zea s k0))/\w=w':=by
 go_enter Tryz.func61,Tryz.ntmps61
 go_wp2
 go_loop [5] (λ i=>∃ k:Nat,k0<=k/\k<=s.size/\i=.int .i64 k/\wEnd s k=wEnd s k0) (λ i=>s.size-(intOf i).toNat)
 case atStart=>exact⟨k0,by omega,by omega,rfl,rfl⟩
 case round =>
  obtain⟨k,hk0,hk,rfl,he⟩:=hrel
  have HE:=Qh he;clear he
  by_cases hlt:k<s.size
  ·cases hw:Zal s[k]
   ·have HF:=Qh ((Zbw hlt hw).symm.trans HE.out)
    go_wp2_with (go_at_call 62;refine (ZbK _ _).mono ?_;rw [hw];rintro e w' ⟨rfl,rfl⟩)
    all_goals
     go_ret
     exact⟨Za3 (by first | exact ZgK HF.out (by omega) | exact ZfV HF.out (by omega)),rfl⟩
   ·have HF:=Qh ((Zbf hlt hw).symm.trans HE.out)
    go_wp2_with (go_at_call 62;refine (ZbK _ _).mono ?_;rw [hw];rintro e w' ⟨rfl,rfl⟩)
    go_round
    case rel=>exact⟨k+1,by omega,by omega,by go_num,HF.out⟩
    case measure=>simp [intOf];omega
  ·have HF:=Qh ((Zcm (s:=s) (k:=k) (by omega)).symm.trans HE.out)
   go_wp2
   all_goals
    go_ret
    exact⟨Za3 (by first | exact ZgK HF.out (by omega) | exact ZfV HF.out (by omega)),rfl⟩
theorem ZeX (s:ByteArray) (k0:Nat) (w:World) (hs:s.size<=999000) (hk0:k0<s.size) :
  Calls Tryz.prog 63 #[.string s,.int .i64 k0] w λ e w'=>e=.returned (.int .i64 (Zdh s (k0+1)))/\w=w':=by
 have hadd:=λ W=>run_string_add_sum (P:=Tryz.prog) W s ⟨#[32]⟩ (by show s.size+1<=_;omega)
 have HP:=Qh (Zm5 s (k0+1) (by omega))
 have HS:=Qh (Zbj s)
 have HT:Hid (∀ W,Calls Tryz.prog 93 #[.string (plus s),.int .i64 k0] W λ e w'=>e=.returned (.int .i64 (tEnd (plus s) (k0+1):Nat))/\w'=W):=λ W=>ZhI (plus s) k0 W (by rw [HS.out];omega) (by rw [HS.out];omega)
 cases hc:tClose s (k0+1) with
 |
  none =>
  have HV:Hid (tEnd (plus s) (k0+1)=s.size+1):=by show _=_;rw [HP.out,hc]
  go_enter Tryz.func63,Tryz.ntmps63
  go_wp2_with (go_at_call 93;refine (HT.out _).mono ?_;rw [HV.out];rintro e w' ⟨rfl,rfl⟩)
  go_ret
  exact⟨Za3 (Zj8 hc).symm,rfl⟩
 |
  some e =>
  have hb:=ZaX hc
  have hb1:=hb.1
  have hb2:=hb.2.1
  clear hb
  have HV:Hid (tEnd (plus s) (k0+1)=e):=by show _=_;rw [HP.out,hc]
  go_enter Tryz.func63,Tryz.ntmps63
  go_wp2_with (go_at_call 93;refine (HT.out _).mono ?_;rw [HV.out];rintro e w' ⟨rfl,rfl⟩)
  go_ret
  exact⟨Za3 (Zj7 hc).symm,rfl⟩
theorem ZfL:∀ (l:List UInt8) (c:UInt8),Lib.indexByte l c<0 ↔ ¬ c∈l
 | [],c=>by simp [Lib.indexByte]
 |
  b::l,c=>by
  have ih:=ZfL l c
  have hg:=Lib.indexByte_ge l c
  unfold Lib.indexByte
  by_cases hb:(b==c)=true
  ·rw [if_pos hb];simp at hb;subst hb;simp
  ·rw [if_neg hb]
   have hne:¬ c=b:=λ e=>hb (by rw [e];simp)
   by_cases h1:(Lib.indexByte l c==-1)=true
   ·rw [if_pos h1]
    have:Lib.indexByte l c=-1:=by simpa using h1
    simp only [List.mem_cons,not_or]
    exact⟨λ _=>⟨hne,ih.1 (by omega)⟩,λ _=>by omega⟩
   ·rw [if_neg h1]
    have:¬ Lib.indexByte l c=-1:=by simpa using h1
    simp only [List.mem_cons,not_or]
    exact⟨λ h=>absurd h (by omega),λ h=>absurd (ih.2 h.2) (by omega)⟩
theorem ZlX (c:UInt8) (w:World) :
  Calls Tryz.prog 94 #[.string ⟨#[43,45,42,47,37,60,62,61,33,38,124,40,41,44,35,59,63,58,123,125,91,93,46]⟩,.int .u8 (c.toNat:Int)] w λ e w'=>(∃ r:Int,e=.returned (.int .i64 r)/\(r<0 ↔ ¬ c∈marks1))/\w=w':=by
 refine (Tryz.strings_IndexByte _ _ w).mono ?_
 rintro e w' ⟨rfl,rfl⟩
 refine ⟨⟨_,rfl,?_⟩,rfl⟩
 rw [ZfL]
 have:((c.toNat:Int)).toNat.toUInt8=c:=by simp
 rw [this]
 exact Iff.rfl
theorem eight (s:ByteArray) (k:Nat) :
  (two s k 61 61=true/\Hid (twoAt s k=true)) \/
  (two s k 61 61=false/\two s k 33 61=true/\Hid (twoAt s k=true)) \/
  (two s k 61 61=false/\two s k 33 61=false/\two s k 60 61=true/\Hid (twoAt s k=true)) \/
  (two s k 61 61=false/\two s k 33 61=false/\two s k 60 61=false/\two s k 62 61=true/\Hid (twoAt s k=true)) \/
  (two s k 61 61=false/\two s k 33 61=false/\two s k 60 61=false/\two s k 62 61=false/\two s k 38 38=true/\Hid (twoAt s k=true)) \/
  (two s k 61 61=false/\two s k 33 61=false/\two s k 60 61=false/\two s k 62 61=false/\two s k 38 38=false/\two s k 124 124=true/\Hid (twoAt s k=true)) \/
  (two s k 61 61=false/\two s k 33 61=false/\two s k 60 61=false/\two s k 62 61=false/\two s k 38 38=false/\two s k 124 124=false/\two s k 35 35=true/\Hid (twoAt s k=true)) \/
  (two s k 61 61=false/\two s k 33 61=false/\two s k 60 61=false/\two s k 62 61=false/\two s k 38 38=false/\two s k 124 124=false/\two s k 35 35=false/\Hid (twoAt s k=false)):=by
 simp only [Hid,twoAt]
 cases two s k 61 61 <;> cases two s k 33 61 <;> cases two s k 60 61 <;> cases two s k 62 61 <;> cases two s k 38 38 <;> cases two s k 124 124 <;> cases two s k 35 35 <;> simp
theorem Zmx {s:ByteArray} {k:Nat} (h:twoAt s k=true):((k:Int)+2)=ZcY s k:=by unfold ZcY mLen;rw [if_pos h];simp
theorem Zg5 {s:ByteArray} {k:Nat} (h:twoAt s k=false) (hk:k<s.size) (hm:s[k]∈marks1):mLen s k=1:=by unfold mLen;rw [h];simp [hk,hm]
theorem ZfZ {s:ByteArray} {k:Nat} (h:twoAt s k=false) (hk:k<s.size) (hm:¬ s[k]∈marks1):mLen s k=0:=by unfold mLen;rw [h];simp [hk,hm]
theorem ZhJ {s:ByteArray} {k:Nat} (h:twoAt s k=false) (hk:k<s.size) (hm:s[k]∈marks1):((k:Int)+1)=ZcY s k:=by unfold ZcY;rw [Zg5 h hk hm];simp
theorem ZgO {s:ByteArray} {k:Nat} (h:twoAt s k=false) (hk:k<s.size) (hm:¬ s[k]∈marks1):(-1:Int)=ZcY s k:=by unfold ZcY;rw [ZfZ h hk hm];simp
theorem ZhK (s:ByteArray) (k:Nat) (w:World) (hs:s.size<=1000000) (hk:k<s.size) :
  Calls Tryz.prog 64 #[.string s,.int .i64 k] w λ e w'=>e=.returned (.int .i64 (ZcY s k))/\w=w':=by
 by_cases hr:k+2<=s.size
 ·have hsl:=ZeW s (k:Int) ((k:Int)+2) k (k+2) rfl (by omega) (by omega) (by omega)
  have e1:=Zbn s k 61 61
  have e2:=Zbn s k 33 61
  have e3:=Zbn s k 60 61
  have e4:=Zbn s k 62 61
  have e5:=Zbn s k 38 38
  have e6:=Zbn s k 124 124
  have e7:=Zbn s k 35 35
  rcases eight s k with⟨h1,HT⟩ | ⟨h1,h2,HT⟩ | ⟨h1,h2,h3,HT⟩ | ⟨h1,h2,h3,h4,HT⟩ | ⟨h1,h2,h3,h4,h5,HT⟩ | ⟨h1,h2,h3,h4,h5,h6,HT⟩ | ⟨h1,h2,h3,h4,h5,h6,h7,HT⟩ | ⟨h1,h2,h3,h4,h5,h6,h7,HT⟩
  all_goals
   (try rw [h1] at e1);(try rw [h2] at e2);(try rw [h3] at e3);(try rw [h4] at e4);(try rw [h5] at e5);(try rw [h6] at e6);(try rw [h7] at e7)
   go_enter Tryz.func64,Tryz.ntmps64
   go_wp2_with (go_at_call 94;refine (ZlX _ _).mono ?_;rintro e w' ⟨⟨r,rfl,hr⟩,rfl⟩;have HR:=Qh hr;clear hr)
   all_goals
    go_ret
    exact⟨Za3 (by first | exact Zmx HT.out | exact ZhJ HT.out hk (Decidable.byContradiction λ h=>absurd (HR.out.2 h) (by omega)) | exact ZgO HT.out hk (HR.out.1 (by omega))),rfl⟩
 ·have HT:Hid (twoAt s k=false):=by
   show _=_
   cases h:twoAt s k
   ·rfl
   ·have:=Zfh h;omega
  go_enter Tryz.func64,Tryz.ntmps64
  go_wp2_with (go_at_call 94;refine (ZlX _ _).mono ?_;rintro e w' ⟨⟨r,rfl,hr⟩,rfl⟩;have HR:=Qh hr;clear hr)
  all_goals
   go_ret
   exact⟨Za3 (by first | exact ZhJ HT.out hk (Decidable.byContradiction λ h=>absurd (HR.out.2 h) (by omega)) | exact ZgO HT.out hk (HR.out.1 (by omega))),rfl⟩
theorem kind_dig {c:UInt8} (h:isDig c=true):(2:Int)=cutKind c:=by unfold cutKind;rw [if_pos h]
theorem Zm9 {c:UInt8} (h:isDig c=false) (hw:Zal c=true):(1:Int)=cutKind c:=by
 unfold cutKind;unfold Zal at hw;rw [h,Bool.or_false] at hw;rw [if_neg (by simp [h]),if_pos hw]
theorem Zna {c:UInt8} (hw:Zal c=false) (hq:c.toNat=34):(3:Int)=cutKind c:=by
 unfold Zal at hw;rw [Bool.or_eq_false_iff] at hw;unfold cutKind;rw [if_neg (by simp [hw.2]),if_neg (by simp [hw.1]),if_pos hq]
theorem Znb {c:UInt8} (hw:Zal c=false) (hq:¬ c.toNat=34):(4:Int)=cutKind c:=by
 unfold Zal at hw;rw [Bool.or_eq_false_iff] at hw;unfold cutKind;rw [if_neg (by simp [hw.2]),if_neg (by simp [hw.1]),if_neg hq]
theorem Zfk {c:UInt8} (h:isDig c=true):Zal c=true:=by unfold Zal;rw [h,Bool.or_true]
theorem Zka {s:ByteArray} {k:Nat} (h:k<s.size) (hw:Zal s[k]=true):Zea s k=Zav s k:=by rw [Zav,dif_pos h,if_pos hw]
theorem cutEnd_t {s:ByteArray} {k:Nat} (h:k<s.size) (hw:Zal s[k]=false) (hq:s[k].toNat=34):Zdh s (k+1)=Zav s k:=by rw [Zav,dif_pos h,if_neg (by simp [hw]),if_pos hq]
theorem cutEnd_m {s:ByteArray} {k:Nat} (h:k<s.size) (hw:Zal s[k]=false) (hq:¬ s[k].toNat=34):ZcY s k=Zav s k:=by rw [Zav,dif_pos h,if_neg (by simp [hw]),if_neg hq]
theorem Zed (s:ByteArray) (k:Nat) (w:World) (hs:s.size<=999000) (hk:k<s.size) :
  Calls Tryz.prog 30 #[.string s,.int .i64 k] w λ e w'=>e=.returned (.tuple #[.int .i64 (cutKind s[k]),.int .i64 (Zav s k)])/\w=w':=by
 cases hd:isDig s[k]
 ·cases hw:Zal s[k]
  ·by_cases hq:s[k].toNat=34
   ·have h34:((s[k].toNat:Int)==34)=true:=by simp;omega
    have HF:=Qh (cutEnd_t hk hw hq)
    have HK:=Qh (Zna hw hq)
    clear hq
    go_enter Tryz.func30,Tryz.ntmps30
    go_wp2_with (first
     | (go_at_call 60;refine (Zcn _ _).mono ?_;rw [hd];rintro e w' ⟨rfl,rfl⟩)
     | (go_at_call 62;refine (ZbK _ _).mono ?_;rw [hw];rintro e w' ⟨rfl,rfl⟩)
     | (go_at_call 63;refine (ZeX s k _ hs hk).mono ?_;rintro e w' ⟨rfl,rfl⟩))
    go_ret2
    exact⟨Zfj HK.out HF.out,rfl⟩
   ·have h34:((s[k].toNat:Int)==34)=false:=by simp;omega
    have HF:=Qh (cutEnd_m hk hw hq)
    have HK:=Qh (Znb hw hq)
    clear hq
    go_enter Tryz.func30,Tryz.ntmps30
    go_wp2_with (first
     | (go_at_call 60;refine (Zcn _ _).mono ?_;rw [hd];rintro e w' ⟨rfl,rfl⟩)
     | (go_at_call 62;refine (ZbK _ _).mono ?_;rw [hw];rintro e w' ⟨rfl,rfl⟩)
     | (go_at_call 64;refine (ZhK s k _ (by omega) hk).mono ?_;rintro e w' ⟨rfl,rfl⟩))
    go_ret2
    exact⟨Zfj HK.out HF.out,rfl⟩
  ·have HF:=Qh (Zka hk hw)
   have HK:=Qh (Zm9 hd hw)
   go_enter Tryz.func30,Tryz.ntmps30
   go_wp2_with (first
    | (go_at_call 60;refine (Zcn _ _).mono ?_;rw [hd];rintro e w' ⟨rfl,rfl⟩)
    | (go_at_call 62;refine (ZbK _ _).mono ?_;rw [hw];rintro e w' ⟨rfl,rfl⟩)
    | (go_at_call 61;refine (Zez s k _ (by omega) (by omega)).mono ?_;rintro e w' ⟨rfl,rfl⟩))
   go_ret2
   exact⟨Zfj HK.out HF.out,rfl⟩
 ·have HF:=Qh (Zka hk (Zfk hd))
  have HK:=Qh (kind_dig hd)
  go_enter Tryz.func30,Tryz.ntmps30
  go_wp2_with (first
   | (go_at_call 60;refine (Zcn _ _).mono ?_;rw [hd];rintro e w' ⟨rfl,rfl⟩)
   | (go_at_call 61;refine (Zez s k _ (by omega) (by omega)).mono ?_;rintro e w' ⟨rfl,rfl⟩))
  go_ret2
  exact⟨Zfj HK.out HF.out,rfl⟩
theorem Zee {s:ByteArray} (h:ZaC s=true):s.size<=200:=by
 unfold ZaC at h;rw [Bool.and_eq_true,decide_eq_true_eq] at h;exact h.1
theorem ret_toks {v:Value} {l:List Tok} {b:Bool} {s:ByteArray} (h:Zai s=(l,b)) {B:Nat} {w w':World} {fp:List Nat} (hr:(Zaa sTok).R w' [v] l fp) (ho:Own w' w.heap.size fp) (hb:Below w.heap.size w w') :
  Zbd (Zai s) w (.returned (.tuple #[v,.bool b])) w':=by
 rw [h];exact⟨v,fp,rfl,hr,ho,hb⟩
theorem Zkb {s:ByteArray} (h:Zai s=([],false)) {w w':World} {a:Option Addr} {cap:Nat} (hc:cap<=maxLen) (hb:Below w.heap.size w w') :
  Zbd (Zai s) w (.returned (.tuple #[.slice a 0 cap,.bool false])) w':=by
 rw [h];exact⟨_,[],rfl,Zan _ _ _ _ hc,Own.nil _ _,hb⟩
theorem Zbr (s:ByteArray) (w:World) (hs:s.size<=maxLen) :
  Calls Tryz.prog 9 #[.string s] w (Zbd (Zai s) w):=by
 have hm:=hs
 unfold maxLen at hm
 cases h0:ZaC s
 ·have HF:=Qh (Zfi h0)
  go_enter Tryz.func9,Tryz.ntmps9
  go_wp2_with (go_at_call 11;refine (ZbB _ _ hs).mono ?_;rw [h0];rintro e w' ⟨rfl,rfl⟩)
  go_ret2
  exact Zkb HF.out (by simp) (Below.refl _ _)
 have hsz:=Zee h0
 have H0:=Qh h0
 go_enter Tryz.func9,Tryz.ntmps9
 go_wp2_with (go_at_call 11;refine (ZbB _ _ hs).mono ?_;rw [h0];rintro e w' ⟨rfl,rfl⟩)
 clear h0
 go_loopw [4,5,6] (λ v sp i wr=>∃ (k:Nat) (b:Bool) (out:List Tok),k<=s.size/\i=.int .i64 k/\sp=.bool b/\AtT s k b out/\Fresh s.size out/\TokRow w.heap.size v out wr/\Below w.heap.size w wr) (λ _ _ i _=>s.size-(intOf i).toNat)
 case atStart=>exact⟨0,false,[],by omega,rfl,rfl,AtT.zero s,Fresh.nil _,TokRow.nil _ _,Below.refl _ _⟩
 case round =>
  obtain⟨k,b,out,hk,rfl,rfl,hat,hfr,hown,hbel⟩:=hrel
  have ho:out.length<=60:=hat.2
  have hbs:=hbel.size
  by_cases hlt:k<s.size
  ·by_cases h32:s[k].toNat=32
   ·have HN:=Qh (hat.space hlt h32)
    have h32':((s[k].toNat:Int)==32)=true:=by simp;omega
    clear hat h32
    go_wp2
    go_roundw
    case rel=>exact⟨k+1,true,out,by omega,by go_num,rfl,HN.out,hfr,hown,hbel⟩
    case measure=>simp [intOf];omega
   ·have h32':((s[k].toNat:Int)==32)=false:=by simp;omega
    rcases Zje s k with hneg | ⟨e,he,hke,hes⟩
    ·have HF:=Qh (ZdG (hat.bad hlt h32 (.inl hneg)))
     clear hat h32
     go_wp2_with (go_at_call 30;refine (Zed s k _ (by omega) hlt).mono ?_;rintro e w' ⟨rfl,rfl⟩)
     go_ret2
     exact Zkb HF.out (by simp) hbel
    ·obtain⟨a,cap,rfl,hcm⟩:=hown.slice
     by_cases h60:out.length=60
     ·have HF:=Qh (ZdG (hat.bad hlt h32 (.inr h60)))
      have h60':((out.length:Int)==60)=true:=by simp;omega
      clear hat h32 h60
      go_wp2_with (go_at_call 30;refine (Zed s k _ (by omega) hlt).mono ?_;rw [he];rintro e w' ⟨rfl,rfl⟩)
      go_ret2
      exact Zkb HF.out (by simp) hbel
     ·have HN:=Qh (hat.tok hlt h32 he h60)
      have HR:=Qh (hfr.snoc (k:=k) (e:=e) (sp:=b) (c:=s[k]) (Nat.le_refl s.size))
      have h60':((out.length:Int)==60)=false:=by simp;omega
      have hsl2:=λ W=>(ZeW s (k:Int) (e:Int) k e rfl rfl (by omega) (by omega) W)
      clear hat h32 h60
      go_wp2_with (first
       | (go_at_call 30;refine (Zed s k _ (by omega) hlt).mono ?_;rw [he];rintro e w' ⟨rfl,rfl⟩)
       | (at_builtin;refine ZfK rfl (.tmp 35) (.tmp 43) rfl w.heap.size _ out _ _ _ rfl hown rfl (by omega) hbs ?_;intro v1 w1 hown1 hg1))
      have hbel1:=hbel.grown hg1 hbs hown.mine
      go_roundw
      case rel=>exact⟨e,false,_,hes,rfl,rfl,HN.out,HR.out,hown1,hbel1⟩
      case measure=>simp [intOf];omega
  ·have HF:=Qh (ZdH H0.out (hat.done (by omega)))
   clear hat
   go_wp2
   go_ret2
   obtain⟨fp,h1,h2,_⟩:=Zg4 hown hfr (by omega)
   exact ret_toks (B:=0) HF.out h1 h2 hbel
theorem Zbk (c:UInt8) (w:World) :
  Calls Tryz.prog 89 #[.int .u8 (c.toNat:Int)] w λ e w'=>e=.returned (.bool (isDig c))/\w=w':=by
 go_enter Tryz.func89,Tryz.ntmps89
 go_wp2
 all_goals
  go_ret
  exact⟨Zad (by rw [Bool.eq_iff_iff,ZdN];simp <;> omega),rfl⟩
theorem ZaF (c:UInt8) (w:World) :
  Calls Tryz.prog 88 #[.int .u8 (c.toNat:Int)] w λ e w'=>e=.returned (.bool (isLet c))/\w=w':=by
 go_enter Tryz.func88,Tryz.ntmps88
 go_wp2
 all_goals
  go_ret
  exact⟨Zad (by rw [Bool.eq_iff_iff,ZfT];simp <;> omega),rfl⟩
theorem ZeM {c:UInt8} (h:isLet c=true):Zal c=true:=by unfold Zal;rw [h,Bool.true_or]
theorem ZhL {c:UInt8} (h:isLet c=false) (h2:isDig c=false):Zal c=false:=by unfold Zal;rw [h,h2];rfl
theorem ZgP (s:ByteArray) (k0 e:Nat) (w:World) (hs:s.size<=1000000) (he:e<=s.size) (h1:1<=e) (hk0:k0<s.size) :
  Calls Tryz.prog 91 #[.string s,.int .i64 k0,.int .i64 e] w λ r w'=>r=.returned (.bool (decide (bk s (k0+1) (e-1)≠e-1)))/\w=w':=by
 go_enter Tryz.func91,Tryz.ntmps91
 go_wp2
 go_loop [7] (λ i=>∃ k:Nat,k<=s.size+1/\i=.int .i64 k/\bk s k (e-1)=bk s (k0+1) (e-1)) (λ i=>s.size+1-(intOf i).toNat)
 case atStart=>exact⟨k0+1,by omega,by go_num,rfl⟩
 case round =>
  obtain⟨k,hk,rfl,hb⟩:=hrel
  by_cases hlt:k<e-1
  ·have hlt':(k:Int)<(e:Int)-1:=by omega
   have hks:k<s.size:=by omega
   by_cases h92:s[k].toNat=92
   ·have HF:=Qh ((Zis hlt hks h92).symm.trans hb)
    have h92':((s[k].toNat:Int)==92)=true:=by simp;omega
    clear hb h92
    go_wp2
    go_round
    case rel=>exact⟨k+2,by omega,by go_num,HF.out⟩
    case measure=>simp [intOf];omega
   ·have HF:=Qh ((Zit hlt hks h92).symm.trans hb)
    have h92':((s[k].toNat:Int)==92)=false:=by simp;omega
    clear hb h92
    go_wp2
    go_round
    case rel=>exact⟨k+1,by omega,by go_num,HF.out⟩
    case measure=>simp [intOf];omega
  ·have HF:=Qh ((Zj6 (s:=s) (k:=k) (e:=e-1) (by omega)).symm.trans hb)
   have hge:¬ (k:Int)<(e:Int)-1:=by omega
   clear hb
   go_wp2
   go_ret
   exact⟨Zad (by rw [← HF.out,Bool.eq_iff_iff];simp;omega),rfl⟩
def NoMark (c:UInt8) (k:Nat):Prop:=∀ j,(h:j<marks1.length)->j<k->marks1[j]≠c
theorem NoMark.zero (c:UInt8):NoMark c 0:=by intro j h hj;omega
theorem NoMark.succ {c:UInt8} {k:Nat} (h:NoMark c k) (hk:k<marks1.length) (hc:marks1[k]≠c):NoMark c (k+1):=by
 intro j hj hjk
 by_cases e:j=k
 ·subst e;exact hc
 ·exact h j hj (by omega)
theorem NoMark.none {c:UInt8} (h:NoMark c 23):¬ c∈marks1:=by
 intro hc
 obtain⟨i,hi,rfl⟩:=List.getElem_of_mem hc
 exact h i hi hi rfl
theorem Zlu (s:ByteArray) (k:Nat) (w:World) (hs:s.size<=1000000) (hk:k<s.size) :
  Calls Tryz.prog 92 #[.string s,.int .i64 k] w λ e w'=>e=.returned (.int .i64 (mLen s k:Nat))/\∃ n,w'=w.drewN n:=by
 have hsl:∀ W,(Instr.slice 9 (.string s) (some (.int .i64 (k:Int))) (some (.int .i64 (min (s.size:Int) ((k:Int)+2)))) none).run Tryz.prog W=.ok (.string (s.extract k (k+2))) W:=by
  intro W
  rw [ZeW s _ _ k (min s.size (k+2)) rfl (by omega) (by omega) (by omega) W,ext_min]
 have e1:=Zbn s k 61 61
 have e2:=Zbn s k 33 61
 have e3:=Zbn s k 60 61
 have e4:=Zbn s k 62 61
 have e5:=Zbn s k 38 38
 have e6:=Zbn s k 124 124
 have e7:=Zbn s k 35 35
 rcases eight s k with⟨h1,HT⟩ | ⟨h1,h2,HT⟩ | ⟨h1,h2,h3,HT⟩ | ⟨h1,h2,h3,h4,HT⟩ | ⟨h1,h2,h3,h4,h5,HT⟩ | ⟨h1,h2,h3,h4,h5,h6,HT⟩ | ⟨h1,h2,h3,h4,h5,h6,h7,HT⟩ | ⟨h1,h2,h3,h4,h5,h6,h7,HT⟩
 iterate 7
  ·(try rw [h1] at e1);(try rw [h2] at e2);(try rw [h3] at e3);(try rw [h4] at e4);(try rw [h5] at e5);(try rw [h6] at e6);(try rw [h7] at e7)
   have HF:Hid (mLen s k=2):=by show _=_;unfold mLen;rw [if_pos HT.out]
   go_enter Tryz.func92,Tryz.ntmps92
   go_wp2
   go_ret
   exact⟨Za3 (by rw [HF.out];rfl),0,rfl⟩
 ·rw [h1] at e1;rw [h2] at e2;rw [h3] at e3;rw [h4] at e4;rw [h5] at e5;rw [h6] at e6;rw [h7] at e7
  go_enter Tryz.func92,Tryz.ntmps92
  go_wp2
  go_loopw [7] (λ i wr=>∃ j:Nat,j<=23/\i=.int .i64 j/\NoMark s[k] j/\∃ n,wr=w.drewN n) (λ i _=>23-(intOf i).toNat)
  case atStart=>exact⟨0,by omega,rfl,NoMark.zero _,0,rfl⟩
  case round =>
   obtain⟨j,hj,rfl,hno,n,rfl⟩:=hrel
   by_cases hlt:j<23
   ·have hix:∀ W,(Instr.index 9 (.string ⟨#[43,45,42,47,37,60,62,61,33,38,124,40,41,44,35,59,63,58,123,125,91,93,46]⟩) (.int .i64 (j:Int))).run Tryz.prog W=.ok (.int .u8 ((marks1[j]'hlt).toNat:Int)) W:=by
     intro W
     have h1:(0:Int)<=(j:Int)/\(j:Int)<((⟨#[43,45,42,47,37,60,62,61,33,38,124,40,41,44,35,59,63,58,123,125,91,93,46]⟩:ByteArray).size:Int):=⟨by omega,by show (j:Int)<23;omega⟩
     rw [run_index_string W _ _ .i64 (j:Int) Tryz.underlying9,dif_pos h1]
     rfl
    by_cases hc:marks1[j]'hlt=s[k]
    ·have HF:Hid (mLen s k=1):=Zg5 HT.out hk (hc ▸ List.getElem_mem hlt)
     have hce:(((marks1[j]'hlt).toNat:Int)==(s[k].toNat:Int))=true:=by rw [hc];simp
     clear hc
     go_wp2
     go_quiet (fail)
     go_wp2
     go_ret
     exact⟨Za3 (by rw [HF.out];rfl),_,World.drewN_drewN _ _ _⟩
    ·have HN:=Qh (hno.succ hlt hc)
     have hce:(((marks1[j]'hlt).toNat:Int)==(s[k].toNat:Int))=false:=by
      rw [beq_eq_false_iff_ne];intro h;exact hc (UInt8.toNat_inj.1 (by omega))
     clear hc hno
     go_wp2
     go_quiet (fail)
     go_wp2
     go_roundw
     case rel=>exact⟨j+1,by omega,by go_num,HN.out,_,rfl⟩
     case measure=>simp [intOf];omega
   ·obtain rfl:j=23:=by omega
    have HF:Hid (mLen s k=0):=ZfZ HT.out hk hno.none
    go_wp2
    go_ret
    exact⟨Za3 (by rw [HF.out];rfl),_,rfl⟩
theorem sCut_w {s:ByteArray} {k:Nat} (h:k<s.size) (hl:isLet s[k]=true):sCut s k=(1,(wEnd s (k+1):Int)):=by rw [ZdO h (ZeM hl),if_pos hl]
theorem sCut_d {s:ByteArray} {k:Nat} (h:k<s.size) (hl:isLet s[k]=false) (hd:isDig s[k]=true):sCut s k=(2,(wEnd s (k+1):Int)):=by rw [ZdO h (Zfk hd),if_neg (by simp [hl])]
theorem Zdj {s:ByteArray} {k:Nat} {a b:Int} (h:sCut s k=(a,b)):Ending.returned (.tuple #[.int .i64 a,.int .i64 b])=.returned (.tuple #[.int .i64 (sCut s k).1,.int .i64 (sCut s k).2]):=by rw [h]
theorem cut_let (s:ByteArray) (k0:Nat) (w:World) (hs:s.size<=1000000) (hk0:k0<s.size) (hl:isLet s[k0]=true) :
  Calls Tryz.prog 58 #[.string s,.int .i64 k0] w λ e w'=>e=.returned (.tuple #[.int .i64 (sCut s k0).1,.int .i64 (sCut s k0).2])/\∃ n,w'=w.drewN n:=by
 have HF:=Qh (sCut_w hk0 hl)
 go_enter Tryz.func58,Tryz.ntmps58
 go_wp2_with (first
  | (go_at_call 88;refine (ZaF _ _).mono ?_;rw [hl];rintro e w' ⟨rfl,rfl⟩))
 go_loop [6] (λ i=>∃ k:Nat,k0+1<=k/\k<=s.size/\i=.int .i64 k/\wEnd s k=wEnd s (k0+1)) (λ i=>s.size-(intOf i).toNat)
 case atStart=>exact⟨k0+1,by omega,by omega,by go_num,rfl⟩
 case round =>
  obtain⟨k,hk1,hk,rfl,he⟩:=hrel
  have HE:=Qh he;clear he
  by_cases hlt:k<s.size
  ·cases hl2:isLet s[k]
   ·cases hd2:isDig s[k]
    ·have HG:=Qh ((Zbw hlt (ZhL hl2 hd2)).symm.trans HE.out)
     go_wp2_with (first
      | (go_at_call 88;refine (ZaF _ _).mono ?_;(first | rw [hl2] | rw [hl]);rintro e w' ⟨rfl,rfl⟩)
      | (go_at_call 89;refine (Zbk _ _).mono ?_;rw [hd2];rintro e w' ⟨rfl,rfl⟩))
     go_ret2
     exact⟨Zdj (by rw [HF.out,← HG.out]),0,rfl⟩
    ·have HG:=Qh ((Zbf hlt (Zfk hd2)).symm.trans HE.out)
     go_wp2_with (first
      | (go_at_call 88;refine (ZaF _ _).mono ?_;rw [hl2];rintro e w' ⟨rfl,rfl⟩)
      | (go_at_call 89;refine (Zbk _ _).mono ?_;rw [hd2];rintro e w' ⟨rfl,rfl⟩))
     go_round
     case rel=>exact⟨k+1,by omega,by omega,by go_num,HG.out⟩
     case measure=>simp [intOf];omega
   ·have HG:=Qh ((Zbf hlt (ZeM hl2)).symm.trans HE.out)
    go_wp2_with (first
     | (go_at_call 88;refine (ZaF _ _).mono ?_;rw [hl2];rintro e w' ⟨rfl,rfl⟩))
    go_round
    case rel=>exact⟨k+1,by omega,by omega,by go_num,HG.out⟩
    case measure=>simp [intOf];omega
  ·have HG:=Qh ((Zcm (s:=s) (k:=k) (by omega)).symm.trans HE.out)
   go_wp2_with (first
    | (go_at_call 88;refine (ZaF _ _).mono ?_;rw [hl];rintro e w' ⟨rfl,rfl⟩))
   go_ret2
   exact⟨Zdj (by rw [HF.out,← HG.out]),0,rfl⟩
theorem cut_dig (s:ByteArray) (k0:Nat) (w:World) (hs:s.size<=1000000) (hk0:k0<s.size) (hl:isLet s[k0]=false) (hd:isDig s[k0]=true) :
  Calls Tryz.prog 58 #[.string s,.int .i64 k0] w λ e w'=>e=.returned (.tuple #[.int .i64 (sCut s k0).1,.int .i64 (sCut s k0).2])/\∃ n,w'=w.drewN n:=by
 have HF:=Qh (sCut_d hk0 hl hd)
 go_enter Tryz.func58,Tryz.ntmps58
 go_wp2_with (first
  | (go_at_call 88;refine (ZaF _ _).mono ?_;rw [hl];rintro e w' ⟨rfl,rfl⟩)
  | (go_at_call 89;refine (Zbk _ _).mono ?_;rw [hd];rintro e w' ⟨rfl,rfl⟩))
 go_loop [6] (λ i=>∃ k:Nat,k0+1<=k/\k<=s.size/\i=.int .i64 k/\wEnd s k=wEnd s (k0+1)) (λ i=>s.size-(intOf i).toNat)
 case atStart=>exact⟨k0+1,by omega,by omega,by go_num,rfl⟩
 case round =>
  obtain⟨k,hk1,hk,rfl,he⟩:=hrel
  have HE:=Qh he;clear he
  by_cases hlt:k<s.size
  ·cases hl2:isLet s[k]
   ·cases hd2:isDig s[k]
    ·have HG:=Qh ((Zbw hlt (ZhL hl2 hd2)).symm.trans HE.out)
     go_wp2_with (first
      | (go_at_call 88;refine (ZaF _ _).mono ?_;(first | rw [hl2] | rw [hl]);rintro e w' ⟨rfl,rfl⟩)
      | (go_at_call 89;refine (Zbk _ _).mono ?_;rw [hd2];rintro e w' ⟨rfl,rfl⟩))
     go_ret2
     exact⟨Zdj (by rw [HF.out,← HG.out]),0,rfl⟩
    ·have HG:=Qh ((Zbf hlt (Zfk hd2)).symm.trans HE.out)
     go_wp2_with (first
      | (go_at_call 88;refine (ZaF _ _).mono ?_;rw [hl2];rintro e w' ⟨rfl,rfl⟩)
      | (go_at_call 89;refine (Zbk _ _).mono ?_;rw [hd2];rintro e w' ⟨rfl,rfl⟩))
     go_round
     case rel=>exact⟨k+1,by omega,by omega,by go_num,HG.out⟩
     case measure=>simp [intOf];omega
   ·have HG:=Qh ((Zbf hlt (ZeM hl2)).symm.trans HE.out)
    go_wp2_with (first
     | (go_at_call 88;refine (ZaF _ _).mono ?_;rw [hl2];rintro e w' ⟨rfl,rfl⟩))
    go_round
    case rel=>exact⟨k+1,by omega,by omega,by go_num,HG.out⟩
    case measure=>simp [intOf];omega
  ·have HG:=Qh ((Zcm (s:=s) (k:=k) (by omega)).symm.trans HE.out)
   go_wp2_with (first
    | (go_at_call 88;refine (ZaF _ _).mono ?_;rw [hl];rintro e w' ⟨rfl,rfl⟩))
   go_ret2
   exact⟨Zdj (by rw [HF.out,← HG.out]),0,rfl⟩
theorem cut_no (s:ByteArray) (k0:Nat) (w:World) (hs:s.size<=1000000) (hk0:k0<s.size) (hw:Zal s[k0]=false) :
  Calls Tryz.prog 58 #[.string s,.int .i64 k0] w λ e w'=>e=.returned (.tuple #[.int .i64 (sCut s k0).1,.int .i64 (sCut s k0).2])/\∃ n,w'=w.drewN n:=by
 have hl:isLet s[k0]=false:=by unfold Zal at hw;rw [Bool.or_eq_false_iff] at hw;exact hw.1
 have hd:isDig s[k0]=false:=by unfold Zal at hw;rw [Bool.or_eq_false_iff] at hw;exact hw.2
 by_cases hq:s[k0].toNat=34
 ·have h34:((s[k0].toNat:Int)==34)=true:=by simp;omega
  cases hc:tClose s (k0+1) with
  |
   some e =>
   have HF:=Qh (ZeL hk0 hw hq hc)
   obtain⟨c1,c2,c3,c4,c5⟩:=ZaX hc
   have hb:=Zm6 hc
   have hB:decide (bk s (k0+1) (e-1)≠e-1)=false:=by simp [hb]
   have h5:((s[e-1].toNat:Int) != 34)=false:=by simp;omega
   have h6:((e:Int)-1).toNat=e-1:=by omega
   clear hb hc hq
   go_enter Tryz.func58,Tryz.ntmps58
   go_wp2_with (first
    | (go_at_call 88;refine (ZaF _ _).mono ?_;rw [hl];rintro e w' ⟨rfl,rfl⟩)
    | (go_at_call 89;refine (Zbk _ _).mono ?_;rw [hd];rintro e w' ⟨rfl,rfl⟩)
    | (go_at_call 90;refine (ZgN s k0 _ hs hk0).mono ?_;rw [c3];rintro e w' ⟨rfl,rfl⟩)
    | (go_at_call 91;refine (ZgP s k0 e _ hs c2 (by omega) hk0).mono ?_;rw [hB];rintro e w' ⟨rfl,rfl⟩))
   go_ret2
   exact⟨Zdj HF.out,0,rfl⟩
  |
   none =>
   have HF:=Qh (ZfW hk0 hw hq hc)
   have c3:=Zlt hc
   have hord:k0+1=s.size\/(k0+1<s.size/\((s[s.size-1].toNat:Int) != 34)=true)\/(k0+1<s.size/\((s[s.size-1].toNat:Int) != 34)=false/\decide (bk s (k0+1) (s.size-1)≠s.size-1)=true):=by
    by_cases h1:k0+1<s.size
    ·by_cases h2:s[s.size-1].toNat=34
     ·exact .inr (.inr ⟨h1,by simp;omega,by simpa using bk_open hc h1 h2⟩)
     ·exact .inr (.inl ⟨h1,by simp;omega⟩)
    ·exact .inl (by omega)
   clear hc hq
   have h6:((s.size:Int)-1).toNat=s.size-1:=by omega
   go_enter Tryz.func58,Tryz.ntmps58
   rcases hord with h7 | ⟨h7,h5⟩ | ⟨h7,h5,hB⟩
   all_goals
    go_wp2_with (first
     | (go_at_call 88;refine (ZaF _ _).mono ?_;rw [hl];rintro e w' ⟨rfl,rfl⟩)
     | (go_at_call 89;refine (Zbk _ _).mono ?_;rw [hd];rintro e w' ⟨rfl,rfl⟩)
     | (go_at_call 90;refine (ZgN s k0 _ hs hk0).mono ?_;rw [c3];rintro e w' ⟨rfl,rfl⟩)
     | (go_at_call 91;refine (ZgP s k0 s.size _ hs (Nat.le_refl _) (by omega) hk0).mono ?_;rw [hB];rintro e w' ⟨rfl,rfl⟩))
    go_ret2
    exact⟨Zdj HF.out,0,rfl⟩
 ·have h34:((s[k0].toNat:Int)==34)=false:=by simp;omega
  have HF:=Qh (Zey hk0 hw hq)
  have hml:=(ZfU (s:=s) hk0).2
  clear hq
  go_enter Tryz.func58,Tryz.ntmps58
  go_wp2_with (first
   | (go_at_call 88;refine (ZaF _ _).mono ?_;rw [hl];rintro e w' ⟨rfl,rfl⟩)
   | (go_at_call 89;refine (Zbk _ _).mono ?_;rw [hd];rintro e w' ⟨rfl,rfl⟩)
   | (go_at_call 92;refine (Zlu s k0 _ hs hk0).mono ?_;rintro e w' ⟨rfl,n,rfl⟩))
  go_ret2
  exact⟨Zdj (by rw [HF.out];simp),_,rfl⟩
theorem ZhM (s:ByteArray) (k0:Nat) (w:World) (hs:s.size<=1000000) (hk0:k0<s.size) :
  Calls Tryz.prog 58 #[.string s,.int .i64 k0] w λ e w'=>e=.returned (.tuple #[.int .i64 (sCut s k0).1,.int .i64 (sCut s k0).2])/\∃ n,w'=w.drewN n:=by
 cases hw:Zal s[k0]
 ·exact cut_no s k0 w hs hk0 hw
 ·cases h:isLet s[k0]
  ·unfold Zal at hw
   rw [h,Bool.false_or] at hw
   exact cut_dig s k0 w hs hk0 h hw
  ·exact cut_let s k0 w hs hk0 h
end Go.Proofs.YtiaiggjfepoahaaGreat
