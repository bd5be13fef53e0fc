/- Lemmas. -/
import Derived.Test.YtipfpppcbmpjiaaGreatZC2
import Derived.StillTailTactics
import Derived.Laws.Cover1
import Derived.IntWalk
import Derived.Laws.Strings2
import Derived.Laws.Concat
import Derived.Test.YtipfpppcbmpjiaaGreatShelf
set_option linter.unusedVariables false
set_option maxHeartbeats 16000000
set_option maxRecDepth 100000
set_option linter.unusedSimpArgs false
namespace Go.Proofs.YtipfpppcbmpjiaaGreat
open Go.RowKit
section
variable {H:Type}{enc:TypeId × Value->H}{w:World}{base:Nat}{spare:Nat->Bool}{held:Bool}
end
theorem Zfa:∀(x y:List UInt8),Op.bytesLess x y=!(Op.bytesLess y x || y==x)
 | [],[]=>rfl
 | _::_,[]=>by simp[Op.bytesLess]
 | [],_::_=>by simp[Op.bytesLess]
 |
  a::x,b::y=>by
  have ih:=Zfa x y;simp only[Op.bytesLess,ih];by_cases h:a=b
  ·subst h;have h1:decide (a<a)=false:=(by simp[UInt8.lt_irrefl]);rw[h1];cases hL:Op.bytesLess y x <;> by_cases hE:y=x <;> simp[hE]
  ·have h2:(a==b)=false:=(by simp[h]);have h3:(b==a)=false:=(by simp[Ne.symm h]);have h4:((b::y)==(a::x))=false:=(by simp[Ne.symm h]);rw[h2,h3,h4];have:decide (a<b)=!decide (b<a):=by
    by_cases hl:a<b
    ·have:=UInt8.lt_asymm hl;simp[hl,this]
    ·have:b<a:=by
      rw[UInt8.lt_iff_toNat_lt]at hl ⊢;have:a.toNat≠b.toNat:=λe=>h (UInt8.toNat_inj.1 e);omega
     simp[hl,this]
   rw[this];simp
def ZaF (a b:ByteArray):Bool:=Op.bytesLess a.toList b.toList
theorem sLess_no {a b:ByteArray}(h:ZaF a b=false):(Op.bytesLess b.toList a.toList || b.toList==a.toList)=true:=by
 unfold ZaF at h;rw[Zfa]at h;cases hx:(Op.bytesLess b.toList a.toList || b.toList==a.toList)
 ·rw[hx]at h;exact absurd h (by decide)
 ·rfl
theorem Zp4 {a b:ByteArray}(h:ZaF a b=true):(Op.bytesLess b.toList a.toList || b.toList==a.toList)=false:=by
 unfold ZaF at h;rw[Zfa]at h;simpa using h
theorem ZmK (s:ByteArray):∀(k:Nat) (sp:Bool) (n:Nat) (l:List Tok),toks s k sp n=some l->k<=s.size->∀t∈l,t.text.size<=s.size-k:=by
 intro k sp n;induction k,sp,n using toks.induct (s:=s) with
 |
  case1 k sp n hk h32 ih =>
  intro l h yt t ht;rw[toks,dif_pos hk,if_pos h32]at h;have:=ih l h (by omega) t ht;omega
 |
  case2 k sp n hk h32 hb =>
  intro l h yt t ht;rw[toks,dif_pos hk,if_neg h32,if_pos hb]at h;exact absurd h (by simp)
 |
  case3 k sp n hk h32 hb ih =>
  intro l h yt t ht;rw[toks,dif_pos hk,if_neg h32,if_neg hb]at h;have hr:=Zb7 (s:=s) (k:=k) (by omega);rw[Option.map_eq_some_iff]at h;obtain⟨l',h1,rfl⟩:=h;rcases Q7.1 ht with rfl | ht
  ·show(s.extract k (ZaI s k).toNat).size<=_;rw[Ql];omega
  ·have:=ih l' h1 (by omega) t ht;omega
 |
  case4 k sp n hk =>
  intro l h yt t ht;rw[toks,dif_neg hk]at h;simp only[Qi]at h;subst h;simp at ht
variable {s:ByteArray}
theorem Zpq {t:Tok}{l:List Tok}(h:toks s 0 false 0=some (t::l))(ht:t.text=s):t.spaced=false:=by
 by_cases h0:0<s.size
 ·by_cases h32:s[0].toNat=32
  ·rw[toks,dif_pos h0,if_pos h32]at h;have:=ZmK s 1 true 0 _ h (by omega) t (by simp);rw[ht]at this;omega
  ·rw[toks,dif_pos h0,if_neg h32]at h;split at h
   ·simp at h
   ·rw[Option.map_eq_some_iff]at h;obtain⟨l',_,h2⟩:=h;simp only[JH]at h2;rw[←h2.1]
 ·rw[toks,dif_neg h0]at h;simp at h
theorem Zdt {l:List Tok}(h:Zau s=(l,true)):toks s 0 false 0=some l/\Za8 s=true:=by
 unfold Zau at h;cases h0:Za8 s
 ·rw[h0,if_neg (by simp)]at h;simp at h
 ·rw[h0,if_pos rfl]at h;cases h1:toks s 0 false 0 with
  | none=>rw[h1]at h;simp at h
  | some l'=>rw[h1]at h;simp at h;rw[h];exact⟨rfl,rfl⟩
theorem Zge {l:List Tok}(h:Zau s=(l,false)):l=[]:=by
 unfold Zau at h;split at h
 ·split at h
  ·simp at h
  ·simp at h;exact h
 ·simp at h;exact h
def Zap (x:ByteArray)(k:Int):Bool:=(Zau x).2 && decide ((Zau x).1.length=1) && (Zau x).1.all (λt=>decide (t.kind=k) && decide (t.text=x))
theorem Zes (x:ByteArray)(k:Int):
  (Zau x=([],false)/\Hid (Zap x k=false)) \/
  (∃l,Zau x=(l,true)/\l.length≠1/\Hid (Zap x k=false)) \/
  (∃t,Zau x=([t],true)/\t.kind≠k/\Hid (Zap x k=false)) \/
  (∃t,Zau x=([t],true)/\t.kind=k/\t.text≠x/\Hid (Zap x k=false)) \/
  (∃t,Zau x=([t],true)/\t.kind=k/\t.text=x/\t.spaced=false/\Hid (Zap x k=true)):=by
 rcases hr:Zau x with⟨l,ok⟩;cases ok
 ·obtain rfl:=Zge hr;exact .inl ⟨rfl,by simp[Hid,Zap,hr]⟩
 ·by_cases h1:l.length=1
  ·obtain⟨t,rfl⟩:=List.length_eq_one_iff.1 h1;by_cases h2:t.kind=k
   ·by_cases h3:t.text=x
    ·exact .inr (.inr (.inr (.inr ⟨t,rfl,h2,h3,Zpq (Zdt hr).1 h3,by simp[Hid,Zap,hr,h2,h3]⟩)))
    ·exact .inr (.inr (.inr (.inl ⟨t,rfl,h2,h3,by simp[Hid,Zap,hr,h2,h3]⟩)))
   ·exact .inr (.inr (.inl ⟨t,rfl,h2,by simp[Hid,Zap,hr,h2]⟩))
  ·exact .inr (.inl ⟨l,rfl,h1,by simp[Hid,Zap,hr,h1]⟩)
def Zbn (l:List ByteArray)(i:Nat):Bool:=if h:i<l.length then Zap l[i] 1 && (decide (i=0) || ZaF (l[i-1]'(by omega)) l[i]) else true
def ZbO (l:List ByteArray):Bool:=decide (l.length<=60) && (List.range l.length).all (Zbn l)
def HidUpto (l:List ByteArray)(k:Nat):Prop:=∀j,j<k->Zbn l j=true
theorem HidUpto.zero (l:List ByteArray):HidUpto l 0:=by intro j h;omega
variable {k:Nat}{l:List ByteArray}
theorem HidUpto.succ (h:HidUpto l k)(h1:Zbn l k=true):HidUpto l (k+1):=by
 intro j hj;by_cases e:j=k
 ·subst e;exact h1
 ·exact h j (by omega)
theorem Zj4 (h:60<l.length):ZbO l=false:=by unfold ZbO;rw[JQ (by omega)];rfl
theorem Zet (hk:k<l.length)(h:Zbn l k=false):ZbO l=false:=by
 unfold ZbO;have:(List.range l.length).all (Zbn l)=false:=by
  rw[List.all_eq_false];exact⟨k,by simpa using hk,by simp[h]⟩
 rw[this,JB]
theorem Zie (h:HidUpto l k)(hk:l.length<=k)(hl:l.length<=60):ZbO l=true:=by
 unfold ZbO;rw[JR hl,Bool.true_and,Qk];intro i hi;have:i<l.length:=by simpa using hi
 exact h i (by omega)
theorem ZeP (hk:k<l.length)(h:Zap l[k] 1=false):Zbn l k=false:=by unfold Zbn;rw[dif_pos hk,h];rfl
theorem Zj5 (hk:k<l.length)(h0:0<k)(h:ZaF (l[k-1]'(by omega)) l[k]=false):Zbn l k=false:=by
 unfold Zbn;rw[dif_pos hk,h,JQ (by omega)];simp
theorem Zi7 (hk:0<l.length)(h:Zap l[0] 1=true):Zbn l 0=true:=by unfold Zbn;rw[dif_pos hk,h];simp
theorem Zi8 (hk:k<l.length)(h0:0<k)(h:Zap l[k] 1=true)(h2:ZaF (l[k-1]'(by omega)) l[k]=true):Zbn l k=true:=by
 unfold Zbn;rw[dif_pos hk,h,h2];simp
theorem hid_ways (hk:k<l.length):
  (Zap l[k] 1=false/\Hid (Zbn l k=false))\/(Zap l[k] 1=true/\k=0/\Hid (Zbn l k=true)) \/
  (∃hp:0<k,Zap l[k] 1=true/\ZaF (l[k-1]'(by omega)) l[k]=false/\Hid (Zbn l k=false)) \/
  (∃hp:0<k,Zap l[k] 1=true/\ZaF (l[k-1]'(by omega)) l[k]=true/\Hid (Zbn l k=true)):=by
 cases h:Zap l[k] 1
 ·exact .inl ⟨rfl,ZeP hk h⟩
 ·by_cases h0:k=0
  ·subst h0;exact .inr (.inl ⟨rfl,rfl,Zi7 hk h⟩)
  ·cases h2:ZaF (l[k-1]'(by omega)) l[k]
   ·exact .inr (.inr (.inl ⟨by omega,rfl,h2,Zj5 hk (by omega) h2⟩))
   ·exact .inr (.inr (.inr ⟨by omega,rfl,h2,Zi8 hk (by omega) h h2⟩))
def Zaj (t:Tok):Bool:=Zap t.text t.kind && ZbO t.hidden
theorem Zg4 (s:ByteArray)(i j:Int)(a b:Nat)(hi:i=a)(hj:j=b)(h:a<=b)(h2:b<=s.size)(W:World):
  (Instr.slice 9 (.string s) (some (.int .i64 i)) (some (.int .i64 j)) none).run Tryz.prog W=.ok (.string (s.extract a b)) W:=by
 subst hi;subst hj;rw[run_slice_string W 9 s .i64 .i64 a b Tryz.underlying9 (by omega) (by omega) (by omega)];simp
theorem ZbE {a b:Int}(h:a=b):Ending.returned (.int .i64 a)=.returned (.int .i64 b):=by rw[h]
theorem Zi9 (s:ByteArray)(k0:Nat)(w:World)(hs:s.size<=1000000)(ek:k0<s.size):
  Calls Tryz.prog 111 #[.string s,.int .i64 k0] w λe w'=>e=.returned (.int .i64 (tEnd s (k0+1):Nat))/\w'=w:=by
 go_enter Tryz.func111,Tryz.ntmps111;go_wp2
 go_loop [5] (λi=>∃k:Nat,k<=s.size+1/\i=.int .i64 k/\tEnd s k=tEnd s (k0+1)) (λi=>s.size+1-(intOf i).toNat)
 case atStart=>exact⟨k0+1,by omega,by go_num,rfl⟩
 case round =>
  obtain⟨k,hk,rfl,he⟩:=hrel;by_cases af:k<s.size
  ·by_cases nR:s[k].toNat=34
   ·have HF:=Qh ((ZeM af nR).symm.trans he);have vV:((s[k].toNat:Int) != 34)=false:=(by simp;omega);clear he;go_wp2;all_goals (go_ret;exact⟨ZbE (by have:=HF.out;omega),rfl⟩)
   ·have vV:((s[k].toNat:Int) != 34)=true:=(by simp;omega);by_cases mX:s[k].toNat=92
    ·have HF:=Qh ((ZeC af mX).symm.trans he);have oG:((s[k].toNat:Int)==92)=true:=(by simp;omega);clear he;go_wp2
     go_round
     case rel=>exact⟨k+2,by omega,by go_num,HF.out⟩
     case measure=>simp[intOf];omega
    ·have HF:=Qh ((ZdI af nR mX).symm.trans he);have oG:((s[k].toNat:Int)==92)=false:=(by simp;omega);clear he;go_wp2
     go_round
     case rel=>exact⟨k+1,by omega,by go_num,HF.out⟩
     case measure=>simp[intOf];omega
  ·have HF:=Qh ((Zer (s:=s) (k:=k) (by omega)).symm.trans he);clear he;go_wp2;all_goals (go_ret;exact⟨ZbE (by have:=HF.out;omega),rfl⟩)
theorem Zj6 (s:ByteArray)(k0:Nat)(w:World)(hs:s.size<=1000000)(ek:k0<s.size):
  Calls Tryz.prog 158 #[.string s,.int .i64 k0] w λe w'=>e=.returned (.int .i64 (tEnd s (k0+1):Nat))/\w'=w:=by
 go_enter Tryz.func158,Tryz.ntmps158;go_wp2
 go_loop [5] (λi=>∃k:Nat,k<=s.size+1/\i=.int .i64 k/\tEnd s k=tEnd s (k0+1)) (λi=>s.size+1-(intOf i).toNat)
 case atStart=>exact⟨k0+1,by omega,by go_num,rfl⟩
 case round =>
  obtain⟨k,hk,rfl,he⟩:=hrel;by_cases af:k<s.size
  ·by_cases nR:s[k].toNat=34
   ·have HF:=Qh ((ZeM af nR).symm.trans he);have vV:((s[k].toNat:Int)==34)=true:=(by simp;omega);have oG:((s[k].toNat:Int)==92)=false:=(by simp;omega);clear he;go_wp2;go_ret;exact⟨ZbE (by have:=HF.out;omega),rfl⟩
   ·have vV:((s[k].toNat:Int)==34)=false:=(by simp;omega);by_cases mX:s[k].toNat=92
    ·have HF:=Qh ((ZeC af mX).symm.trans he);have oG:((s[k].toNat:Int)==92)=true:=(by simp;omega);clear he;go_wp2
     go_round
     case rel=>exact⟨k+2,by omega,by go_num,HF.out⟩
     case measure=>simp[intOf];omega
    ·have HF:=Qh ((ZdI af nR mX).symm.trans he);have oG:((s[k].toNat:Int)==92)=false:=(by simp;omega);clear he;go_wp2
     go_round
     case rel=>exact⟨k+1,by omega,by go_num,HF.out⟩
     case measure=>simp[intOf];omega
  ·have HF:=Qh ((Zer (s:=s) (k:=k) (by omega)).symm.trans he);clear he;go_wp2;go_ret;exact⟨ZbE (by have:=HF.out;omega),rfl⟩
def Ways (s:ByteArray)(k:Nat)(out:ByteArray)(hk:k<s.size):Prop:=
 (two s k 47 47=true/\Hid (strip1 s 0=some out)) \/
 (two s k 47 47=false/\two s k 47 42=true/\Ze8 s (k+2)<0/\Hid (strip1 s 0=none)) \/
 (∃c:Nat,two s k 47 47=false/\two s k 47 42=true/\Ze8 s (k+2)=c/\k<c/\c<=s.size/\Hid (At1 s c (out++⟨#[32]⟩))) \/
 (∃t:Nat,two s k 47 47=false/\two s k 47 42=false/\((s[k].toNat:Int)==34)=true/\tEnd s (k+1)=t/\k<t/\t<=s.size/\Hid (At1 s t (out++s.extract k t))) \/
 (two s k 47 47=false/\two s k 47 42=false/\((s[k].toNat:Int)==34)=false/\Hid (At1 s (k+1) (out++s.extract k (k+1))))
theorem ways {out:ByteArray}(df:At1 s k out)(hk:k<s.size):Ways s k out hk:=by
 unfold Ways;cases h1:two s k 47 47
 ·cases h2:two s k 47 42
  ·by_cases h3:s[k].toNat=34
   ·have hb:=Zi3 s (k+1);have:=hb.2 (by omega);exact .inr (.inr (.inr (.inl ⟨_,rfl,rfl,by simp;omega,rfl,by omega,by omega,df.text hk h1 h2 h3⟩)))
   ·exact .inr (.inr (.inr (.inr ⟨rfl,rfl,by simp;omega,df.byte hk h1 h2 h3⟩)))
  ·by_cases h3:Ze8 s (k+2)<0
   ·exact .inr (.inl ⟨rfl,rfl,h3,df.open_ hk h1 h2 h3⟩)
   ·have:=ZlK (s:=s) (k:=k+2) (by omega) (by have:=Zga h2;omega);exact .inr (.inr (.inl ⟨(Ze8 s (k+2)).toNat,rfl,rfl,by omega,by omega,by omega,df.comment hk h1 h2 h3⟩))
 ·exact .inl ⟨rfl,df.line hk h1⟩
theorem Zhp {a b a' b':Int}(h:a=a')(h':b=b'):Ending.returned (.tuple #[.int .i64 a,.int .i64 b])=.returned (.tuple #[.int .i64 a',.int .i64 b']):=by rw[h,h']
theorem Zc8 (c:UInt8)(w:World):
  Calls Tryz.prog 144 #[.int .u8 (c.toNat:Int)] w λe w'=>e=.returned (.bool (Za3 c))/\w=w':=by
 go_enter Tryz.func144,Tryz.ntmps144;go_wp2;all_goals
  go_ret;exact⟨Zad (by rw[Bool.eq_iff_iff,ZfG];simp <;> omega),rfl⟩
theorem ZcN (c:UInt8)(w:World):
  Calls Tryz.prog 146 #[.int .u8 (c.toNat:Int)] w λe w'=>e=.returned (.bool (Zar c))/\w=w':=by
 go_enter Tryz.func146,Tryz.ntmps146;go_wp2_with (go_at_call 144;refine(Zc8 _ _).mono ?_;rintro e w'⟨rfl,rfl⟩)
 all_goals
  go_ret;exact⟨Zad (by rw[Bool.eq_iff_iff,Zhk];simp[ZfG] <;> omega),rfl⟩
theorem ZgC (s:ByteArray)(k0:Nat)(w:World)(hs:s.size<=1000000)(ek:k0<=s.size):
  Calls Tryz.prog 145 #[.string s,.int .i64 k0] w λe w'=>e=.returned (.int .i64 (Zgb s k0))/\w=w':=by
 go_enter Tryz.func145,Tryz.ntmps145;go_wp2
 go_loop [5] (λi=>∃k:Nat,k0<=k/\k<=s.size/\i=.int .i64 k/\wEnd s k=wEnd s k0) (λi=>s.size-(intOf i).toNat)
 case atStart=>exact⟨k0,by omega,by omega,rfl,rfl⟩
 case round =>
  obtain⟨k,ek,hk,rfl,he⟩:=hrel;have HE:=Qh he;clear he;by_cases af:k<s.size
  ·cases hw:Zar s[k]
   ·have HF:=Qh ((Zcr af hw).symm.trans HE.out);go_wp2_with (go_at_call 146;refine(ZcN _ _).mono ?_;rw[hw];rintro e w'⟨rfl,rfl⟩)
    all_goals
     go_ret;exact⟨ZbE (by first | exact Zi5 HF.out (by omega) | exact Zib HF.out (by omega)),rfl⟩
   ·have HF:=Qh ((ZbY af hw).symm.trans HE.out);go_wp2_with (go_at_call 146;refine(ZcN _ _).mono ?_;rw[hw];rintro e w'⟨rfl,rfl⟩)
    go_round
    case rel=>exact⟨k+1,by omega,by omega,by go_num,HF.out⟩
    case measure=>simp[intOf];omega
  ·have HF:=Qh ((ZdJ (s:=s) (k:=k) (by omega)).symm.trans HE.out);go_wp2;all_goals
    go_ret;exact⟨ZbE (by first | exact Zi5 HF.out (by omega) | exact Zib HF.out (by omega)),rfl⟩
theorem Zg5 (s:ByteArray)(k0:Nat)(w:World)(hs:s.size<=999000)(ek:k0<s.size):
  Calls Tryz.prog 147 #[.string s,.int .i64 k0] w λe w'=>e=.returned (.int .i64 (Ze9 s (k0+1)))/\w=w':=by
 have oH:=λW=>run_string_add_sum (P:=Tryz.prog) W s ⟨#[32]⟩ (by show s.size+1<=_;omega);have HP:=Qh (Zp1 s (k0+1) (by omega));have HS:=Qh (Zcc s);have HT:Hid (∀W,Calls Tryz.prog 158 #[.string (ZfR s),.int .i64 k0] W λe w'=>e=.returned (.int .i64 (tEnd (ZfR s) (k0+1):Nat))/\w'=W):=λW=>Zj6 (ZfR s) k0 W (by rw[HS.out];omega) (by rw[HS.out];omega);cases hc:tClose s (k0+1) with
 |
  none =>
  have HV:Hid (tEnd (ZfR s) (k0+1)=s.size+1):=by show _=_;rw[HP.out,hc]
  go_enter Tryz.func147,Tryz.ntmps147;go_wp2_with (go_at_call 158;refine(HT.out _).mono ?_;rw[HV.out];rintro e w'⟨rfl,rfl⟩)
  go_ret;exact⟨ZbE (ZmJ hc).symm,rfl⟩
 |
  some e =>
  have hb:=ZbA hc;have aG:=hb.1;have aF:=hb.2.1;clear hb;have HV:Hid (tEnd (ZfR s) (k0+1)=e):=by show _=_;rw[HP.out,hc]
  go_enter Tryz.func147,Tryz.ntmps147;go_wp2_with (go_at_call 158;refine(HT.out _).mono ?_;rw[HV.out];rintro e w'⟨rfl,rfl⟩)
  go_ret;exact⟨ZbE (ZmI hc).symm,rfl⟩
theorem ZhY:∀(l:List UInt8) (c:UInt8),Lib.indexByte l c<0 ↔ ¬c∈l
 | [],c=>by simp[Lib.indexByte]
 |
  b::l,c=>by
  have ih:=ZhY l c;have hg:=Lib.indexByte_ge l c;unfold Lib.indexByte;by_cases hb:(b==c)=true
  ·rw[if_pos hb];simp at hb;subst hb;simp
  ·rw[if_neg hb];have cD:¬c=b:=λe=>hb (by rw[e];simp);by_cases h1:(Lib.indexByte l c==-1)=true
   ·rw[if_pos h1];have:Lib.indexByte l c=-1:=(by simpa using h1);simp only[Q7,not_or];exact⟨λ_=>⟨cD,ih.1 (by omega)⟩,λ_=>by omega⟩
   ·rw[if_neg h1];have:¬Lib.indexByte l c=-1:=(by simpa using h1);simp only[Q7,not_or];exact⟨λh=>absurd h (by omega),λh=>absurd (ih.2 h.2) (by omega)⟩
theorem ZoL (c:UInt8)(w:World):
  Calls Tryz.prog 159 #[.string ⟨#[43,45,42,47,37,60,62,61,33,38,124,40,41,44,35,59,63,58,123,125,91,93,46]⟩,.int .u8 (c.toNat:Int)] w λe w'=>(∃r:Int,e=.returned (.int .i64 r)/\(r<0 ↔ ¬c∈marks1))/\w=w':=by
 refine(Tryz.strings_IndexByte _ _ w).mono ?_;rintro e w'⟨rfl,rfl⟩;refine⟨⟨_,rfl,?_⟩,rfl⟩;rw[ZhY];have:((c.toNat:Int)).toNat.toUInt8=c:=by simp
 rw[this];exact Iff.rfl
theorem eight (s:ByteArray)(k:Nat):
  (two s k 61 61=true/\Hid (Zbg s k=true)) \/
  (two s k 61 61=false/\two s k 33 61=true/\Hid (Zbg s k=true)) \/
  (two s k 61 61=false/\two s k 33 61=false/\two s k 60 61=true/\Hid (Zbg s k=true)) \/
  (two s k 61 61=false/\two s k 33 61=false/\two s k 60 61=false/\two s k 62 61=true/\Hid (Zbg s k=true)) \/
  (two s k 61 61=false/\two s k 33 61=false/\two s k 60 61=false/\two s k 62 61=false/\two s k 38 38=true/\Hid (Zbg s k=true)) \/
  (two s k 61 61=false/\two s k 33 61=false/\two s k 60 61=false/\two s k 62 61=false/\two s k 38 38=false/\two s k 124 124=true/\Hid (Zbg s k=true)) \/
  (two s k 61 61=false/\two s k 33 61=false/\two s k 60 61=false/\two s k 62 61=false/\two s k 38 38=false/\two s k 124 124=false/\two s k 35 35=true/\Hid (Zbg s k=true)) \/
  (two s k 61 61=false/\two s k 33 61=false/\two s k 60 61=false/\two s k 62 61=false/\two s k 38 38=false/\two s k 124 124=false/\two s k 35 35=false/\Hid (Zbg s k=false)):=by
 simp only[Hid,Zbg];cases two s k 61 61 <;> cases two s k 33 61 <;> cases two s k 60 61 <;> cases two s k 62 61 <;> cases two s k 38 38 <;> cases two s k 124 124 <;> cases two s k 35 35 <;> simp
theorem Zpr (h:Zbg s k=true):((k:Int)+2)=ZeN s k:=by unfold ZeN ZbK;rw[if_pos h];simp
theorem Zjs (h:Zbg s k=false)(hk:k<s.size)(hm:s[k]∈marks1):ZbK s k=1:=by unfold ZbK;rw[h];simp[hk,hm]
theorem Zif (h:Zbg s k=false)(hk:k<s.size)(hm:¬s[k]∈marks1):ZbK s k=0:=by unfold ZbK;rw[h];simp[hk,hm]
theorem Zj7 (h:Zbg s k=false)(hk:k<s.size)(hm:s[k]∈marks1):((k:Int)+1)=ZeN s k:=by unfold ZeN;rw[Zjs h hk hm];simp
theorem Zja (h:Zbg s k=false)(hk:k<s.size)(hm:¬s[k]∈marks1):(-1:Int)=ZeN s k:=by unfold ZeN;rw[Zif h hk hm];simp
theorem Zj8 (s:ByteArray)(k:Nat)(w:World)(hs:s.size<=1000000)(hk:k<s.size):
  Calls Tryz.prog 148 #[.string s,.int .i64 k] w λe w'=>e=.returned (.int .i64 (ZeN s k))/\w=w':=by
 by_cases hr:k+2<=s.size
 ·have yu:=Zg4 s (k:Int) ((k:Int)+2) k (k+2) rfl (by omega) (by omega) (by omega);have e1:=Zcg s k 61 61;have e2:=Zcg s k 33 61;have e3:=Zcg s k 60 61;have e4:=Zcg s k 62 61;have e5:=Zcg s k 38 38;have e6:=Zcg s k 124 124;have e7:=Zcg s k 35 35;rcases eight s k with⟨h1,HT⟩ | ⟨h1,h2,HT⟩ | ⟨h1,h2,h3,HT⟩ | ⟨h1,h2,h3,h4,HT⟩ | ⟨h1,h2,h3,h4,h5,HT⟩ | ⟨h1,h2,h3,h4,h5,h6,HT⟩ | ⟨h1,h2,h3,h4,h5,h6,h7,HT⟩ | ⟨h1,h2,h3,h4,h5,h6,h7,HT⟩;all_goals
   (try rw[h1]at e1);(try rw[h2]at e2);(try rw[h3]at e3);(try rw[h4]at e4);(try rw[h5]at e5);(try rw[h6]at e6);(try rw[h7]at e7)
   go_enter Tryz.func148,Tryz.ntmps148;go_wp2_with (go_at_call 159;refine(ZoL _ _).mono ?_;rintro e w'⟨⟨r,rfl,hr⟩,rfl⟩;have HR:=Qh hr;clear hr)
   all_goals
    go_ret;exact⟨ZbE (by first | exact Zpr HT.out | exact Zj7 HT.out hk (Decidable.byContradiction λh=>absurd (HR.out.2 h) (by omega)) | exact Zja HT.out hk (HR.out.1 (by omega))),rfl⟩
 ·have HT:Hid (Zbg s k=false):=by
   show _=_;cases h:Zbg s k
   ·rfl
   ·have:=Zhm h;omega
  go_enter Tryz.func148,Tryz.ntmps148;go_wp2_with (go_at_call 159;refine(ZoL _ _).mono ?_;rintro e w'⟨⟨r,rfl,hr⟩,rfl⟩;have HR:=Qh hr;clear hr)
  all_goals
   go_ret;exact⟨ZbE (by first | exact Zj7 HT.out hk (Decidable.byContradiction λh=>absurd (HR.out.2 h) (by omega)) | exact Zja HT.out hk (HR.out.1 (by omega))),rfl⟩
variable {c:UInt8}
theorem kind_dig (h:Za3 c=true):(2:Int)=cutKind c:=by unfold cutKind;rw[if_pos h]
theorem Zp5 (h:Za3 c=false)(hw:Zar c=true):(1:Int)=cutKind c:=by
 unfold cutKind;unfold Zar at hw;rw[h,Bool.or_false]at hw;rw[if_neg (by simp[h]),if_pos hw]
theorem Zp6 (hw:Zar c=false)(hq:c.toNat=34):(3:Int)=cutKind c:=by
 unfold Zar at hw;rw[JD]at hw;unfold cutKind;rw[if_neg (by simp[hw.2]),if_neg (by simp[hw.1]),if_pos hq]
theorem Zp7 (hw:Zar c=false)(hq:¬c.toNat=34):(4:Int)=cutKind c:=by
 unfold Zar at hw;rw[JD]at hw;unfold cutKind;rw[if_neg (by simp[hw.2]),if_neg (by simp[hw.1]),if_neg hq]
theorem Zhq (h:Za3 c=true):Zar c=true:=by unfold Zar;rw[h,Bool.or_true]
theorem ZmL (h:k<s.size)(hw:Zar s[k]=true):Zgb s k=ZaI s k:=by rw[ZaI,dif_pos h,if_pos hw]
theorem cutEnd_t (h:k<s.size)(hw:Zar s[k]=false)(hq:s[k].toNat=34):Ze9 s (k+1)=ZaI s k:=by rw[ZaI,dif_pos h,if_neg (by simp[hw]),if_pos hq]
theorem cutEnd_m (h:k<s.size)(hw:Zar s[k]=false)(hq:¬s[k].toNat=34):ZeN s k=ZaI s k:=by rw[ZaI,dif_pos h,if_neg (by simp[hw]),if_neg hq]
theorem Zgf (s:ByteArray)(k:Nat)(w:World)(hs:s.size<=999000)(hk:k<s.size):
  Calls Tryz.prog 132 #[.string s,.int .i64 k] w λe w'=>e=.returned (.tuple #[.int .i64 (cutKind s[k]),.int .i64 (ZaI s k)])/\w=w':=by
 cases hd:Za3 s[k]
 ·cases hw:Zar s[k]
  ·by_cases hq:s[k].toNat=34
   ·have nR:((s[k].toNat:Int)==34)=true:=(by simp;omega);have HF:=Qh (cutEnd_t hk hw hq);have HK:=Qh (Zp6 hw hq);clear hq;go_enter Tryz.func132,Tryz.ntmps132
    go_wp2_with (first
     | (go_at_call 144;refine(Zc8 _ _).mono ?_;rw[hd];rintro e w'⟨rfl,rfl⟩)
     | (go_at_call 146;refine(ZcN _ _).mono ?_;rw[hw];rintro e w'⟨rfl,rfl⟩)
     | (go_at_call 147;refine(Zg5 s k _ hs hk).mono ?_;rintro e w'⟨rfl,rfl⟩))
    go_ret2;exact⟨Zhp HK.out HF.out,rfl⟩
   ·have nR:((s[k].toNat:Int)==34)=false:=(by simp;omega);have HF:=Qh (cutEnd_m hk hw hq);have HK:=Qh (Zp7 hw hq);clear hq;go_enter Tryz.func132,Tryz.ntmps132
    go_wp2_with (first
     | (go_at_call 144;refine(Zc8 _ _).mono ?_;rw[hd];rintro e w'⟨rfl,rfl⟩)
     | (go_at_call 146;refine(ZcN _ _).mono ?_;rw[hw];rintro e w'⟨rfl,rfl⟩)
     | (go_at_call 148;refine(Zj8 s k _ (by omega) hk).mono ?_;rintro e w'⟨rfl,rfl⟩))
    go_ret2;exact⟨Zhp HK.out HF.out,rfl⟩
  ·have HF:=Qh (ZmL hk hw);have HK:=Qh (Zp5 hd hw);go_enter Tryz.func132,Tryz.ntmps132
   go_wp2_with (first
    | (go_at_call 144;refine(Zc8 _ _).mono ?_;rw[hd];rintro e w'⟨rfl,rfl⟩)
    | (go_at_call 146;refine(ZcN _ _).mono ?_;rw[hw];rintro e w'⟨rfl,rfl⟩)
    | (go_at_call 145;refine(ZgC s k _ (by omega) (by omega)).mono ?_;rintro e w'⟨rfl,rfl⟩))
   go_ret2;exact⟨Zhp HK.out HF.out,rfl⟩
 ·have HF:=Qh (ZmL hk (Zhq hd));have HK:=Qh (kind_dig hd);go_enter Tryz.func132,Tryz.ntmps132
  go_wp2_with (first
   | (go_at_call 144;refine(Zc8 _ _).mono ?_;rw[hd];rintro e w'⟨rfl,rfl⟩)
   | (go_at_call 145;refine(ZgC s k _ (by omega) (by omega)).mono ?_;rintro e w'⟨rfl,rfl⟩))
  go_ret2;exact⟨Zhp HK.out HF.out,rfl⟩
theorem Zgg (h:Za8 s=true):s.size<=200:=by
 unfold Za8 at h;rw[QI,JT]at h;exact h.1
theorem ret_toks {v:Value}{l:List Tok}{b:Bool}(h:Zau s=(l,b)){B:Nat}{w w':World}{fp:List Nat}(hr:(Zaa sTok).R w' [v] l fp)(ho:Own w' w.heap.size fp)(hb:Below w.heap.size w w'):
  Zd3 (Zau s) w (.returned (.tuple #[v,.bool b])) w':=by
 rw[h];exact⟨v,fp,rfl,hr,ho,hb⟩
theorem ZmM (h:Zau s=([],false)){w w':World}{a:Option Addr}{cap:Nat}(hc:cap<=maxLen)(hb:Below w.heap.size w w'):
  Zd3 (Zau s) w (.returned (.tuple #[.slice a 0 cap,.bool false])) w':=by
 rw[h];exact⟨_,[],rfl,Zao _ _ _ _ hc,Own.nil _ _,hb⟩
theorem ZhZ (s:ByteArray)(w:World)(hs:s.size<=maxLen):
  Calls Tryz.prog 114 #[.string s] w (Zd3 (Zau s) w):=by
 have hm:=hs;unfold maxLen at hm;cases h0:Za8 s
 ·have HF:=Qh (Zhn h0);go_enter Tryz.func114,Tryz.ntmps114;go_wp2_with (go_at_call 22;refine(Zd2 _ _ hs).mono ?_;rw[h0];rintro e w'⟨rfl,rfl⟩)
  go_ret2;exact ZmM HF.out (by simp) (QD _ _)
 have cC:=Zgg h0;have H0:=Qh h0;go_enter Tryz.func114,Tryz.ntmps114;go_wp2_with (go_at_call 22;refine(Zd2 _ _ hs).mono ?_;rw[h0];rintro e w'⟨rfl,rfl⟩)
 clear h0;go_loopw [4,5,6] (λv sp i wr=>∃(k:Nat) (b:Bool) (out:List Tok),k<=s.size/\i=.int .i64 k/\sp=.bool b/\AtT s k b out/\Fresh s.size out/\TokRow w.heap.size v out wr/\Below w.heap.size w wr) (λ_ _ i _=>s.size-(intOf i).toNat)
 case atStart=>exact⟨0,false,[],by omega,rfl,rfl,AtT.zero s,Fresh.nil _,TokRow.nil _ _,QD _ _⟩
 case round =>
  obtain⟨k,b,out,hk,rfl,rfl,df,nP,ag,bL⟩:=hrel;have ho:out.length<=60:=df.2;have jC:=bL.size;by_cases af:k<s.size
  ·by_cases h32:s[k].toNat=32
   ·have HN:=Qh (df.space af h32);have vW:((s[k].toNat:Int)==32)=true:=(by simp;omega);clear df h32;go_wp2;go_roundw;case rel=>exact⟨k+1,true,out,by omega,by go_num,rfl,HN.out,nP,ag,bL⟩
    case measure=>simp[intOf];omega
   ·have vW:((s[k].toNat:Int)==32)=false:=(by simp;omega);rcases ZlL s k with ly | ⟨e,he,lh,zw⟩
    ·have HF:=Qh (Zfv (df.bad af h32 (.inl ly)));clear df h32;go_wp2_with (go_at_call 132;refine(Zgf s k _ (by omega) af).mono ?_;rintro e w'⟨rfl,rfl⟩)
     go_ret2;exact ZmM HF.out (by simp) bL
    ·obtain⟨a,cap,rfl,gL⟩:=ag.slice;by_cases nS:out.length=60
     ·have HF:=Qh (Zfv (df.bad af h32 (.inr nS)));have vX:((out.length:Int)==60)=true:=(by simp;omega);clear df h32 nS;go_wp2_with (go_at_call 132;refine(Zgf s k _ (by omega) af).mono ?_;rw[he];rintro e w'⟨rfl,rfl⟩)
      go_ret2;exact ZmM HF.out (by simp) bL
     ·have HN:=Qh (df.tok af h32 he nS);have HR:=Qh (nP.snoc (k:=k) (e:=e) (sp:=b) (c:=s[k]) (QA s.size));have vX:((out.length:Int)==60)=false:=(by simp;omega);have hsl2:=λW=>(Zg4 s (k:Int) (e:Int) k e rfl rfl (by omega) (by omega) W);clear df h32 nS
      go_wp2_with (first
       | (go_at_call 132;refine(Zgf s k _ (by omega) af).mono ?_;rw[he];rintro e w'⟨rfl,rfl⟩)
       | (at_builtin;refine ZhX rfl (.tmp 35) (.tmp 43) rfl w.heap.size _ out _ _ _ rfl ag rfl (by omega) jC ?_;intro v1 w1 j9 nU))
      have ii:=bL.grown nU jC ag.mine;go_roundw;case rel=>exact⟨e,false,_,zw,rfl,rfl,HN.out,HR.out,j9,ii⟩
      case measure=>simp[intOf];omega
  ·have HF:=Qh (ZgT H0.out (df.done (by omega)));clear df;go_wp2;go_ret2;obtain⟨fp,h1,h2,_⟩:=Zjr ag nP (by omega);exact ret_toks (B:=0) HF.out h1 h2 bL
theorem ZbP (c:UInt8)(w:World):
  Calls Tryz.prog 110 #[.int .u8 (c.toNat:Int)] w λe w'=>e=.returned (.bool (Za3 c))/\w=w':=by
 go_enter Tryz.func110,Tryz.ntmps110;go_wp2;all_goals
  go_ret;exact⟨Zad (by rw[Bool.eq_iff_iff,ZfG];simp <;> omega),rfl⟩
theorem Za7 (c:UInt8)(w:World):
  Calls Tryz.prog 109 #[.int .u8 (c.toNat:Int)] w λe w'=>e=.returned (.bool (Zb5 c))/\w=w':=by
 go_enter Tryz.func109,Tryz.ntmps109;go_wp2;all_goals
  go_ret;exact⟨Zad (by rw[Bool.eq_iff_iff,Zh9];simp <;> omega),rfl⟩
theorem ZgV (h:Zb5 c=true):Zar c=true:=by unfold Zar;rw[h,Bool.true_or]
theorem Zj9 (h:Zb5 c=false)(h2:Za3 c=false):Zar c=false:=by unfold Zar;rw[h,h2];rfl
theorem Zjb (s:ByteArray)(k0 e:Nat)(w:World)(hs:s.size<=1000000)(he:e<=s.size)(h1:1<=e)(ek:k0<s.size):
  Calls Tryz.prog 112 #[.string s,.int .i64 k0,.int .i64 e] w λr w'=>r=.returned (.bool (decide (bk s (k0+1) (e-1)≠e-1)))/\w=w':=by
 go_enter Tryz.func112,Tryz.ntmps112;go_wp2
 go_loop [7] (λi=>∃k:Nat,k<=s.size+1/\i=.int .i64 k/\bk s k (e-1)=bk s (k0+1) (e-1)) (λi=>s.size+1-(intOf i).toNat)
 case atStart=>exact⟨k0+1,by omega,by go_num,rfl⟩
 case round =>
  obtain⟨k,hk,rfl,hb⟩:=hrel;by_cases af:k<e-1
  ·have vY:(k:Int)<(e:Int)-1:=(by omega);have yt:k<s.size:=(by omega);by_cases mX:s[k].toNat=92
   ·have HF:=Qh ((ZkU af yt mX).symm.trans hb);have oG:((s[k].toNat:Int)==92)=true:=(by simp;omega);clear hb mX;go_wp2
    go_round
    case rel=>exact⟨k+2,by omega,by go_num,HF.out⟩
    case measure=>simp[intOf];omega
   ·have HF:=Qh ((ZkV af yt mX).symm.trans hb);have oG:((s[k].toNat:Int)==92)=false:=(by simp;omega);clear hb mX;go_wp2
    go_round
    case rel=>exact⟨k+1,by omega,by go_num,HF.out⟩
    case measure=>simp[intOf];omega
  ·have HF:=Qh ((ZmH (s:=s) (k:=k) (e:=e-1) (by omega)).symm.trans hb);have eD:¬(k:Int)<(e:Int)-1:=(by omega);clear hb;go_wp2;go_ret;exact⟨Zad (by rw[←HF.out,Bool.eq_iff_iff];simp;omega),rfl⟩
def NoMark (c:UInt8)(k:Nat):Prop:=∀j,(h:j<marks1.length)->j<k->marks1[j]≠c
theorem NoMark.zero (c:UInt8):NoMark c 0:=by intro j h hj;omega
theorem NoMark.succ (h:NoMark c k)(hk:k<marks1.length)(hc:marks1[k]≠c):NoMark c (k+1):=by
 intro j hj my;by_cases e:j=k
 ·subst e;exact hc
 ·exact h j hj (by omega)
theorem NoMark.none (h:NoMark c 23):¬c∈marks1:=by
 intro hc;obtain⟨i,hi,rfl⟩:=QY hc;exact h i hi hi rfl
theorem Zob (s:ByteArray)(k:Nat)(w:World)(hs:s.size<=1000000)(hk:k<s.size):
  Calls Tryz.prog 113 #[.string s,.int .i64 k] w λe w'=>e=.returned (.int .i64 (ZbK s k:Nat))/\∃n,w'=w.drewN n:=by
 have yu:∀W,(Instr.slice 9 (.string s) (some (.int .i64 (k:Int))) (some (.int .i64 (min (s.size:Int) ((k:Int)+2)))) none).run Tryz.prog W=.ok (.string (s.extract k (k+2))) W:=by
  intro W;rw[Zg4 s _ _ k (min s.size (k+2)) rfl (by omega) (by omega) (by omega) W,ext_min]
 have e1:=Zcg s k 61 61;have e2:=Zcg s k 33 61;have e3:=Zcg s k 60 61;have e4:=Zcg s k 62 61;have e5:=Zcg s k 38 38;have e6:=Zcg s k 124 124;have e7:=Zcg s k 35 35;rcases eight s k with⟨h1,HT⟩ | ⟨h1,h2,HT⟩ | ⟨h1,h2,h3,HT⟩ | ⟨h1,h2,h3,h4,HT⟩ | ⟨h1,h2,h3,h4,h5,HT⟩ | ⟨h1,h2,h3,h4,h5,h6,HT⟩ | ⟨h1,h2,h3,h4,h5,h6,h7,HT⟩ | ⟨h1,h2,h3,h4,h5,h6,h7,HT⟩;iterate 7
  ·(try rw[h1]at e1);(try rw[h2]at e2);(try rw[h3]at e3);(try rw[h4]at e4);(try rw[h5]at e5);(try rw[h6]at e6);(try rw[h7]at e7)
   have HF:Hid (ZbK s k=2):=(by show _=_;unfold ZbK;rw[if_pos HT.out]);go_enter Tryz.func113,Tryz.ntmps113;go_wp2;go_ret;exact⟨ZbE (by rw[HF.out];rfl),0,rfl⟩
 ·rw[h1]at e1;rw[h2]at e2;rw[h3]at e3;rw[h4]at e4;rw[h5]at e5;rw[h6]at e6;rw[h7]at e7;go_enter Tryz.func113,Tryz.ntmps113;go_wp2;go_loopw [7] (λi wr=>∃j:Nat,j<=23/\i=.int .i64 j/\NoMark s[k] j/\∃n,wr=w.drewN n) (λi _=>23-(intOf i).toNat)
  case atStart=>exact⟨0,by omega,rfl,NoMark.zero _,0,rfl⟩
  case round =>
   obtain⟨j,hj,rfl,yv,n,rfl⟩:=hrel;by_cases af:j<23
   ·have hix:∀W,(Instr.index 9 (.string ⟨#[43,45,42,47,37,60,62,61,33,38,124,40,41,44,35,59,63,58,123,125,91,93,46]⟩) (.int .i64 (j:Int))).run Tryz.prog W=.ok (.int .u8 ((marks1[j]'af).toNat:Int)) W:=by
     intro W;have h1:(0:Int)<=(j:Int)/\(j:Int)<((⟨#[43,45,42,47,37,60,62,61,33,38,124,40,41,44,35,59,63,58,123,125,91,93,46]⟩:ByteArray).size:Int):=⟨by omega,by show(j:Int)<23;omega⟩;rw[run_index_string W _ _ .i64 (j:Int) Tryz.underlying9,dif_pos h1];rfl
    by_cases hc:marks1[j]'af=s[k]
    ·have HF:Hid (ZbK s k=1):=Zjs HT.out hk (hc ▸ QE af);have mY:(((marks1[j]'af).toNat:Int)==(s[k].toNat:Int))=true:=(by rw[hc];simp);clear hc;go_wp2
     go_quiet (fail)
     go_wp2;go_ret;exact⟨ZbE (by rw[HF.out];rfl),_,World.drewN_drewN _ _ _⟩
    ·have HN:=Qh (yv.succ af hc);have mY:(((marks1[j]'af).toNat:Int)==(s[k].toNat:Int))=false:=by
      rw[beq_eq_false_iff_ne];intro h;exact hc (UInt8.toNat_inj.1 (by omega))
     clear hc yv;go_wp2
     go_quiet (fail)
     go_wp2;go_roundw;case rel=>exact⟨j+1,by omega,by go_num,HN.out,_,rfl⟩
     case measure=>simp[intOf];omega
   ·obtain rfl:j=23:=(by omega);have HF:Hid (ZbK s k=0):=Zif HT.out hk yv.none;go_wp2;go_ret;exact⟨ZbE (by rw[HF.out];rfl),_,rfl⟩
theorem sCut_w (h:k<s.size)(hl:Zb5 s[k]=true):ZbL s k=(1,(wEnd s (k+1):Int)):=by rw[ZfH h (ZgV hl),if_pos hl]
theorem sCut_d (h:k<s.size)(hl:Zb5 s[k]=false)(hd:Za3 s[k]=true):ZbL s k=(2,(wEnd s (k+1):Int)):=by rw[ZfH h (Zhq hd),if_neg (by simp[hl])]
theorem Zfb {a b:Int}(h:ZbL s k=(a,b)):Ending.returned (.tuple #[.int .i64 a,.int .i64 b])=.returned (.tuple #[.int .i64 (ZbL s k).1,.int .i64 (ZbL s k).2]):=by rw[h]
theorem cut_let (s:ByteArray)(k0:Nat)(w:World)(hs:s.size<=1000000)(ek:k0<s.size)(hl:Zb5 s[k0]=true):
  Calls Tryz.prog 78 #[.string s,.int .i64 k0] w λe w'=>e=.returned (.tuple #[.int .i64 (ZbL s k0).1,.int .i64 (ZbL s k0).2])/\∃n,w'=w.drewN n:=by
 have HF:=Qh (sCut_w ek hl);go_enter Tryz.func78,Tryz.ntmps78
 go_wp2_with (first
  | (go_at_call 109;refine(Za7 _ _).mono ?_;rw[hl];rintro e w'⟨rfl,rfl⟩))
 go_loop [6] (λi=>∃k:Nat,k0+1<=k/\k<=s.size/\i=.int .i64 k/\wEnd s k=wEnd s (k0+1)) (λi=>s.size-(intOf i).toNat)
 case atStart=>exact⟨k0+1,by omega,by omega,by go_num,rfl⟩
 case round =>
  obtain⟨k,bG,hk,rfl,he⟩:=hrel;have HE:=Qh he;clear he;by_cases af:k<s.size
  ·cases gA:Zb5 s[k]
   ·cases jD:Za3 s[k]
    ·have HG:=Qh ((Zcr af (Zj9 gA jD)).symm.trans HE.out)
     go_wp2_with (first
      | (go_at_call 109;refine(Za7 _ _).mono ?_;(first | rw[gA] | rw[hl]);rintro e w'⟨rfl,rfl⟩)
      | (go_at_call 110;refine(ZbP _ _).mono ?_;rw[jD];rintro e w'⟨rfl,rfl⟩))
     go_ret2;exact⟨Zfb (by rw[HF.out,←HG.out]),0,rfl⟩
    ·have HG:=Qh ((ZbY af (Zhq jD)).symm.trans HE.out)
     go_wp2_with (first
      | (go_at_call 109;refine(Za7 _ _).mono ?_;rw[gA];rintro e w'⟨rfl,rfl⟩)
      | (go_at_call 110;refine(ZbP _ _).mono ?_;rw[jD];rintro e w'⟨rfl,rfl⟩))
     go_round
     case rel=>exact⟨k+1,by omega,by omega,by go_num,HG.out⟩
     case measure=>simp[intOf];omega
   ·have HG:=Qh ((ZbY af (ZgV gA)).symm.trans HE.out)
    go_wp2_with (first
     | (go_at_call 109;refine(Za7 _ _).mono ?_;rw[gA];rintro e w'⟨rfl,rfl⟩))
    go_round
    case rel=>exact⟨k+1,by omega,by omega,by go_num,HG.out⟩
    case measure=>simp[intOf];omega
  ·have HG:=Qh ((ZdJ (s:=s) (k:=k) (by omega)).symm.trans HE.out)
   go_wp2_with (first
    | (go_at_call 109;refine(Za7 _ _).mono ?_;rw[hl];rintro e w'⟨rfl,rfl⟩))
   go_ret2;exact⟨Zfb (by rw[HF.out,←HG.out]),0,rfl⟩
theorem cut_dig (s:ByteArray)(k0:Nat)(w:World)(hs:s.size<=1000000)(ek:k0<s.size)(hl:Zb5 s[k0]=false)(hd:Za3 s[k0]=true):
  Calls Tryz.prog 78 #[.string s,.int .i64 k0] w λe w'=>e=.returned (.tuple #[.int .i64 (ZbL s k0).1,.int .i64 (ZbL s k0).2])/\∃n,w'=w.drewN n:=by
 have HF:=Qh (sCut_d ek hl hd);go_enter Tryz.func78,Tryz.ntmps78
 go_wp2_with (first
  | (go_at_call 109;refine(Za7 _ _).mono ?_;rw[hl];rintro e w'⟨rfl,rfl⟩)
  | (go_at_call 110;refine(ZbP _ _).mono ?_;rw[hd];rintro e w'⟨rfl,rfl⟩))
 go_loop [6] (λi=>∃k:Nat,k0+1<=k/\k<=s.size/\i=.int .i64 k/\wEnd s k=wEnd s (k0+1)) (λi=>s.size-(intOf i).toNat)
 case atStart=>exact⟨k0+1,by omega,by omega,by go_num,rfl⟩
 case round =>
  obtain⟨k,bG,hk,rfl,he⟩:=hrel;have HE:=Qh he;clear he;by_cases af:k<s.size
  ·cases gA:Zb5 s[k]
   ·cases jD:Za3 s[k]
    ·have HG:=Qh ((Zcr af (Zj9 gA jD)).symm.trans HE.out)
     go_wp2_with (first
      | (go_at_call 109;refine(Za7 _ _).mono ?_;(first | rw[gA] | rw[hl]);rintro e w'⟨rfl,rfl⟩)
      | (go_at_call 110;refine(ZbP _ _).mono ?_;rw[jD];rintro e w'⟨rfl,rfl⟩))
     go_ret2;exact⟨Zfb (by rw[HF.out,←HG.out]),0,rfl⟩
    ·have HG:=Qh ((ZbY af (Zhq jD)).symm.trans HE.out)
     go_wp2_with (first
      | (go_at_call 109;refine(Za7 _ _).mono ?_;rw[gA];rintro e w'⟨rfl,rfl⟩)
      | (go_at_call 110;refine(ZbP _ _).mono ?_;rw[jD];rintro e w'⟨rfl,rfl⟩))
     go_round
     case rel=>exact⟨k+1,by omega,by omega,by go_num,HG.out⟩
     case measure=>simp[intOf];omega
   ·have HG:=Qh ((ZbY af (ZgV gA)).symm.trans HE.out)
    go_wp2_with (first
     | (go_at_call 109;refine(Za7 _ _).mono ?_;rw[gA];rintro e w'⟨rfl,rfl⟩))
    go_round
    case rel=>exact⟨k+1,by omega,by omega,by go_num,HG.out⟩
    case measure=>simp[intOf];omega
  ·have HG:=Qh ((ZdJ (s:=s) (k:=k) (by omega)).symm.trans HE.out)
   go_wp2_with (first
    | (go_at_call 109;refine(Za7 _ _).mono ?_;rw[hl];rintro e w'⟨rfl,rfl⟩))
   go_ret2;exact⟨Zfb (by rw[HF.out,←HG.out]),0,rfl⟩
theorem cut_no (s:ByteArray)(k0:Nat)(w:World)(hs:s.size<=1000000)(ek:k0<s.size)(hw:Zar s[k0]=false):
  Calls Tryz.prog 78 #[.string s,.int .i64 k0] w λe w'=>e=.returned (.tuple #[.int .i64 (ZbL s k0).1,.int .i64 (ZbL s k0).2])/\∃n,w'=w.drewN n:=by
 have hl:Zb5 s[k0]=false:=by unfold Zar at hw;rw[JD]at hw;exact hw.1
 have hd:Za3 s[k0]=false:=by unfold Zar at hw;rw[JD]at hw;exact hw.2
 by_cases hq:s[k0].toNat=34
 ·have nR:((s[k0].toNat:Int)==34)=true:=by simp;omega
  cases hc:tClose s (k0+1) with
  |
   some e =>
   have HF:=Qh (ZgS ek hw hq hc);obtain⟨c1,c2,c3,c4,c5⟩:=ZbA hc;have hb:=Zp2 hc;have hB:decide (bk s (k0+1) (e-1)≠e-1)=false:=(by simp[hb]);have h5:((s[e-1].toNat:Int) != 34)=false:=(by simp;omega);have h6:((e:Int)-1).toNat=e-1:=(by omega);clear hb hc hq;go_enter Tryz.func78,Tryz.ntmps78
   go_wp2_with (first
    | (go_at_call 109;refine(Za7 _ _).mono ?_;rw[hl];rintro e w'⟨rfl,rfl⟩)
    | (go_at_call 110;refine(ZbP _ _).mono ?_;rw[hd];rintro e w'⟨rfl,rfl⟩)
    | (go_at_call 111;refine(Zi9 s k0 _ hs ek).mono ?_;rw[c3];rintro e w'⟨rfl,rfl⟩)
    | (go_at_call 112;refine(Zjb s k0 e _ hs c2 (by omega) ek).mono ?_;rw[hB];rintro e w'⟨rfl,rfl⟩))
   go_ret2;exact⟨Zfb HF.out,0,rfl⟩
  |
   none =>
   have HF:=Qh (Zic ek hw hq hc);have c3:=Zoa hc;have hord:k0+1=s.size\/(k0+1<s.size/\((s[s.size-1].toNat:Int) != 34)=true)\/(k0+1<s.size/\((s[s.size-1].toNat:Int) != 34)=false/\decide (bk s (k0+1) (s.size-1)≠s.size-1)=true):=by
    by_cases h1:k0+1<s.size
    ·by_cases h2:s[s.size-1].toNat=34
     ·exact .inr (.inr ⟨h1,by simp;omega,by simpa using bk_open hc h1 h2⟩)
     ·exact .inr (.inl ⟨h1,by simp;omega⟩)
    ·exact .inl (by omega)
   clear hc hq;have h6:((s.size:Int)-1).toNat=s.size-1:=(by omega);go_enter Tryz.func78,Tryz.ntmps78;rcases hord with h7 | ⟨h7,h5⟩ | ⟨h7,h5,hB⟩;all_goals
    go_wp2_with (first
     | (go_at_call 109;refine(Za7 _ _).mono ?_;rw[hl];rintro e w'⟨rfl,rfl⟩)
     | (go_at_call 110;refine(ZbP _ _).mono ?_;rw[hd];rintro e w'⟨rfl,rfl⟩)
     | (go_at_call 111;refine(Zi9 s k0 _ hs ek).mono ?_;rw[c3];rintro e w'⟨rfl,rfl⟩)
     | (go_at_call 112;refine(Zjb s k0 s.size _ hs (QA _) (by omega) ek).mono ?_;rw[hB];rintro e w'⟨rfl,rfl⟩))
    go_ret2;exact⟨Zfb HF.out,0,rfl⟩
 ·have nR:((s[k0].toNat:Int)==34)=false:=by simp;omega
  have HF:=Qh (ZgB ek hw hq);have iu:=(Zia (s:=s) ek).2;clear hq;go_enter Tryz.func78,Tryz.ntmps78
  go_wp2_with (first
   | (go_at_call 109;refine(Za7 _ _).mono ?_;rw[hl];rintro e w'⟨rfl,rfl⟩)
   | (go_at_call 110;refine(ZbP _ _).mono ?_;rw[hd];rintro e w'⟨rfl,rfl⟩)
   | (go_at_call 113;refine(Zob s k0 _ hs ek).mono ?_;rintro e w'⟨rfl,n,rfl⟩))
  go_ret2;exact⟨Zfb (by rw[HF.out];simp),_,rfl⟩
theorem Zka (s:ByteArray)(k0:Nat)(w:World)(hs:s.size<=1000000)(ek:k0<s.size):
  Calls Tryz.prog 78 #[.string s,.int .i64 k0] w λe w'=>e=.returned (.tuple #[.int .i64 (ZbL s k0).1,.int .i64 (ZbL s k0).2])/\∃n,w'=w.drewN n:=by
 cases hw:Zar s[k0]
 ·exact cut_no s k0 w hs ek hw
 ·cases h:Zb5 s[k0]
  ·unfold Zar at hw;rw[h,Bool.false_or]at hw;exact cut_dig s k0 w hs ek h hw
  ·exact cut_let s k0 w hs ek h
end Go.Proofs.YtipfpppcbmpjiaaGreat
