/- Texts that the proof of EConditionOf stands on, in one file. -/
import Derived.Test.YtipfpppcbmpjiaaGreatZEConditionOf1
import Derived.Deep.RegionHeld3
import Derived.Outline
import Derived.IntWalk
import Derived.Laws.Strings2
import Derived.Laws.Concat
import Derived.Test.YtipfpppcbmpjiaaGreatShelf
import Derived.Deep.Slices
import Derived.Deep.Fields
import Derived.ChangeSame
import Derived.Lib.SmallJoins
set_option linter.unusedVariables false
set_option maxHeartbeats 16000000
set_option maxRecDepth 100000
set_option linter.unusedSimpArgs false
/- Marks in slices of texts and of numbers. -/
namespace Go.Proofs.YtipfpppcbmpjiaaGreat
open Go.RowKit
def marks {α:Type} (f:Int->α) (k:Int) (n:Nat):List α:=(List.range n).map λ (i:Nat)=>f (k+(i:Int))
structure Seen {α:Type} (S:Shape α) (w:World) (cs:List Value) (d:α) (fp:List Nat) (hi:Nat):Prop where
 r:S.R w cs d fp
 hi:Under hi fp
structure Live {α:Type} (S:Shape α) (w:World) (cs:List Value) (d:α) (fp:List Nat) (lo hi:Nat):Prop where
 r:S.R w cs d fp
 o:Own w lo fp
 hi:Under hi fp
section
variable {α:Type} {S:Shape α} {w w':World} {cs:List Value} {d:α} {fp fp':List Nat} {lo hi lo':Nat}
theorem Seen.of (h:S.R w cs d fp):Seen S w cs d fp w.heap.size:=⟨h,S.lt h⟩
theorem Seen.below (h:Seen S w cs d fp hi) (hb:Below w.heap.size w w'):Seen S w' cs d fp hi:=⟨S.below h.r hb,h.hi⟩
theorem Live.of (h:S.R w cs d fp) (o:Own w lo fp):Live S w cs d fp lo w.heap.size:=⟨h,o,o.lt⟩
theorem Live.below (h:Live S w cs d fp lo hi) (hb:Below w.heap.size w w'):Live S w' cs d fp lo hi:=⟨S.below h.r hb,h.o.grow hb,h.hi⟩
theorem Seen.kept (h:Seen S w cs d fp hi) (hk:Kept fp' w w') (ho:Own w lo' fp') (hle:hi<=lo'):Seen S w' cs d fp hi:=
 ⟨S.kept h.r (λ b hb hx=>by have h1:=h.hi b hb;have h2:=(ho.2 b hx).1;omega) hk,h.hi⟩
theorem Live.kept (h:Live S w cs d fp lo hi) (hk:Kept fp' w w') (ho:Own w lo' fp') (hle:hi<=lo'):Live S w' cs d fp lo hi:=
 have hd:∀ b∈fp,b∉fp':=λ b hb hx=>by have h1:=h.hi b hb;have h2:=(ho.2 b hx).1;omega
 ⟨S.kept h.r hd hk,h.o.kept hd hk,h.hi⟩
end
def Apart (fp fp':List Nat):Prop:=∀ b∈fp,b∉fp'
theorem Apart.symm {fp fp':List Nat} (h:Apart fp fp'):Apart fp' fp:=λ b h1 h2=>h b h2 h1
theorem Own.split {w:World} {lo:Nat} {fp1 fp2:List Nat} (h:Own w lo (fp1++fp2)):Own w lo fp1/\Own w lo fp2/\Apart fp1 fp2:=by
 obtain⟨h1,h2⟩:=h
 obtain⟨a,b,c⟩:=List.nodup_append.1 h1
 exact⟨⟨a,λ x hx=>h2 x (by simp [hx])⟩,⟨b,λ x hx=>h2 x (by simp [hx])⟩,λ x hx hy=>c x hx x hy rfl⟩
theorem Apart.split {fp fp1 fp2:List Nat} (h:Apart fp (fp1++fp2)):Apart fp fp1/\Apart fp fp2:=
 ⟨λ b hb hx=>h b hb (by simp [hx]),λ b hb hx=>h b hb (by simp [hx])⟩
theorem ZeI (v1 v2:Value) (l:List ByteArray) (fp1 fp2:List Nat) (w:World) (H1:(Zaa sStr).R w [v1] l fp1) (H2:(Zaa sStr).R w [v2] l fp2) :
  Calls Tryz.prog 52 #[v1,v2] w λ e w'=>e=.returned (.bool true)/\Below w.heap.size w w':=
 (ZmM v1 v2 l l fp1 fp2 w H1 H2).mono λ e w' ⟨h1,n,h2⟩=>⟨by rw [h1];simp,by rw [h2];exact Zag (Below.refl _ _) n⟩
theorem ZeJ (s:ByteArray) (i j:Int) (a b:Nat) (hi:i=a) (hj:j=b) (h:a<=b) (h2:b<=s.size) (W:World) :
  (Instr.slice 9 (.string s) (some (.int .i64 i)) (some (.int .i64 j)) none).run Tryz.prog W=.ok (.string (s.extract a b)) W:=by
 subst hi;subst hj
 rw [run_slice_string W 9 s .i64 .i64 a b Tryz.underlying9 (by omega) (by omega) (by omega)]
 simp
theorem Za5 {a b:Int} (h:a=b):Ending.returned (.int .i64 a)=.returned (.int .i64 b):=by rw [h]
theorem ZgI (s:ByteArray) (k0:Nat) (w:World) (hs:s.size<=1000000) (hk0:k0<s.size) :
  Calls Tryz.prog 111 #[.string s,.int .i64 k0] w λ e w'=>e=.returned (.int .i64 (tEnd s (k0+1):Nat))/\w'=w:=by
 go_enter Tryz.func111,Tryz.ntmps111
 go_wp2
 go_loop [5] (λ i=>∃ k:Nat,k<=s.size+1/\i=.int .i64 k/\tEnd s k=tEnd s (k0+1)) (λ i=>s.size+1-(intOf i).toNat)
 case atStart=>exact⟨k0+1,by omega,by go_num,rfl⟩
 case round =>
  obtain⟨k,hk,rfl,he⟩:=hrel
  by_cases hlt:k<s.size
  ·by_cases h34:s[k].toNat=34
   ·have HF:=Qh ((ZcO hlt h34).symm.trans he)
    have h34':((s[k].toNat:Int) != 34)=false:=by simp;omega
    clear he
    go_wp2
    all_goals (go_ret;exact⟨Za5 (by have:=HF.out;omega),rfl⟩)
   ·have h34':((s[k].toNat:Int) != 34)=true:=by simp;omega
    by_cases h92:s[k].toNat=92
    ·have HF:=Qh ((ZcI hlt h92).symm.trans he)
     have h92':((s[k].toNat:Int)==92)=true:=by simp;omega
     clear he
     go_wp2
     go_round
     case rel=>exact⟨k+2,by omega,by go_num,HF.out⟩
     case measure=>simp [intOf];omega
    ·have HF:=Qh ((Zcd hlt h34 h92).symm.trans he)
     have h92':((s[k].toNat:Int)==92)=false:=by simp;omega
     clear he
     go_wp2
     go_round
     case rel=>exact⟨k+1,by omega,by go_num,HF.out⟩
     case measure=>simp [intOf];omega
  ·have HF:=Qh ((ZcB (s:=s) (k:=k) (by omega)).symm.trans he)
   clear he
   go_wp2
   all_goals (go_ret;exact⟨Za5 (by have:=HF.out;omega),rfl⟩)
theorem ZhD (s:ByteArray) (k0:Nat) (w:World) (hs:s.size<=1000000) (hk0:k0<s.size) :
  Calls Tryz.prog 158 #[.string s,.int .i64 k0] w λ e w'=>e=.returned (.int .i64 (tEnd s (k0+1):Nat))/\w'=w:=by
 go_enter Tryz.func158,Tryz.ntmps158
 go_wp2
 go_loop [5] (λ i=>∃ k:Nat,k<=s.size+1/\i=.int .i64 k/\tEnd s k=tEnd s (k0+1)) (λ i=>s.size+1-(intOf i).toNat)
 case atStart=>exact⟨k0+1,by omega,by go_num,rfl⟩
 case round =>
  obtain⟨k,hk,rfl,he⟩:=hrel
  by_cases hlt:k<s.size
  ·by_cases h34:s[k].toNat=34
   ·have HF:=Qh ((ZcO hlt h34).symm.trans he)
    have h34':((s[k].toNat:Int)==34)=true:=by simp;omega
    have h92':((s[k].toNat:Int)==92)=false:=by simp;omega
    clear he
    go_wp2
    go_ret
    exact⟨Za5 (by have:=HF.out;omega),rfl⟩
   ·have h34':((s[k].toNat:Int)==34)=false:=by simp;omega
    by_cases h92:s[k].toNat=92
    ·have HF:=Qh ((ZcI hlt h92).symm.trans he)
     have h92':((s[k].toNat:Int)==92)=true:=by simp;omega
     clear he
     go_wp2
     go_round
     case rel=>exact⟨k+2,by omega,by go_num,HF.out⟩
     case measure=>simp [intOf];omega
    ·have HF:=Qh ((Zcd hlt h34 h92).symm.trans he)
     have h92':((s[k].toNat:Int)==92)=false:=by simp;omega
     clear he
     go_wp2
     go_round
     case rel=>exact⟨k+1,by omega,by go_num,HF.out⟩
     case measure=>simp [intOf];omega
  ·have HF:=Qh ((ZcB (s:=s) (k:=k) (by omega)).symm.trans he)
   clear he
   go_wp2
   go_ret
   exact⟨Za5 (by have:=HF.out;omega),rfl⟩
def Ways (s:ByteArray) (k:Nat) (out:ByteArray) (hk:k<s.size):Prop:=
 (two s k 47 47=true/\Hid (strip1 s 0=some out)) \/
 (two s k 47 47=false/\two s k 47 42=true/\cEnd s (k+2)<0/\Hid (strip1 s 0=none)) \/
 (∃ c:Nat,two s k 47 47=false/\two s k 47 42=true/\cEnd s (k+2)=c/\k<c/\c<=s.size/\Hid (At1 s c (out++⟨#[32]⟩))) \/
 (∃ t:Nat,two s k 47 47=false/\two s k 47 42=false/\((s[k].toNat:Int)==34)=true/\tEnd s (k+1)=t/\k<t/\t<=s.size/\Hid (At1 s t (out++s.extract k t))) \/
 (two s k 47 47=false/\two s k 47 42=false/\((s[k].toNat:Int)==34)=false/\Hid (At1 s (k+1) (out++s.extract k (k+1))))
theorem ways {s:ByteArray} {k:Nat} {out:ByteArray} (hat:At1 s k out) (hk:k<s.size):Ways s k out hk:=by
 unfold Ways
 cases h1:two s k 47 47
 ·cases h2:two s k 47 42
  ·by_cases h3:s[k].toNat=34
   ·have hb:=ZgE s (k+1)
    have:=hb.2 (by omega)
    exact .inr (.inr (.inr (.inl ⟨_,rfl,rfl,by simp;omega,rfl,by omega,by omega,hat.text hk h1 h2 h3⟩)))
   ·exact .inr (.inr (.inr (.inr ⟨rfl,rfl,by simp;omega,hat.byte hk h1 h2 h3⟩)))
  ·by_cases h3:cEnd s (k+2)<0
   ·exact .inr (.inl ⟨rfl,rfl,h3,hat.open_ hk h1 h2 h3⟩)
   ·have:=Zi0 (s:=s) (k:=k+2) (by omega) (by have:=ZdS h2;omega)
    exact .inr (.inr (.inl ⟨(cEnd s (k+2)).toNat,rfl,rfl,by omega,by omega,by omega,hat.comment hk h1 h2 h3⟩))
 ·exact .inl ⟨rfl,hat.line hk h1⟩
theorem Ze4 {a b a' b':Int} (h:a=a') (h':b=b'):Ending.returned (.tuple #[.int .i64 a,.int .i64 b])=.returned (.tuple #[.int .i64 a',.int .i64 b']):=by rw [h,h']
theorem ZbU (c:UInt8) (w:World) :
  Calls Tryz.prog 144 #[.int .u8 (c.toNat:Int)] w λ e w'=>e=.returned (.bool (isDig c))/\w=w':=by
 go_enter Tryz.func144,Tryz.ntmps144
 go_wp2
 all_goals
  go_ret
  exact⟨Zad (by rw [Bool.eq_iff_iff,Zdq];simp <;> omega),rfl⟩
theorem ZbI (c:UInt8) (w:World) :
  Calls Tryz.prog 146 #[.int .u8 (c.toNat:Int)] w λ e w'=>e=.returned (.bool (Zal c))/\w=w':=by
 go_enter Tryz.func146,Tryz.ntmps146
 go_wp2_with (go_at_call 144;refine (ZbU _ _).mono ?_;rintro e w' ⟨rfl,rfl⟩)
 all_goals
  go_ret
  exact⟨Zad (by rw [Bool.eq_iff_iff,Ze0];simp [Zdq] <;> omega),rfl⟩
theorem Zeg (s:ByteArray) (k0:Nat) (w:World) (hs:s.size<=1000000) (hk0:k0<=s.size) :
  Calls Tryz.prog 145 #[.string s,.int .i64 k0] w λ e w'=>e=.returned (.int .i64 (ZdT s k0))/\w=w':=by
 go_enter Tryz.func145,Tryz.ntmps145
 go_wp2
 go_loop [5] (λ i=>∃ k:Nat,k0<=k/\k<=s.size/\i=.int .i64 k/\wEnd s k=wEnd s k0) (λ i=>s.size-(intOf i).toNat)
 case atStart=>exact⟨k0,by omega,by omega,rfl,rfl⟩
 case round =>
  obtain⟨k,hk0,hk,rfl,he⟩:=hrel
  have HE:=Qh he;clear he
  by_cases hlt:k<s.size
  ·cases hw:Zal s[k]
   ·have HF:=Qh ((ZbG hlt hw).symm.trans HE.out)
    go_wp2_with (go_at_call 146;refine (ZbI _ _).mono ?_;rw [hw];rintro e w' ⟨rfl,rfl⟩)
    all_goals
     go_ret
     exact⟨Za5 (by first | exact ZgG HF.out (by omega) | exact ZfM HF.out (by omega)),rfl⟩
   ·have HF:=Qh ((Zbq hlt hw).symm.trans HE.out)
    go_wp2_with (go_at_call 146;refine (ZbI _ _).mono ?_;rw [hw];rintro e w' ⟨rfl,rfl⟩)
    go_round
    case rel=>exact⟨k+1,by omega,by omega,by go_num,HF.out⟩
    case measure=>simp [intOf];omega
  ·have HF:=Qh ((ZcC (s:=s) (k:=k) (by omega)).symm.trans HE.out)
   go_wp2
   all_goals
    go_ret
    exact⟨Za5 (by first | exact ZgG HF.out (by omega) | exact ZfM HF.out (by omega)),rfl⟩
theorem ZeK (s:ByteArray) (k0:Nat) (w:World) (hs:s.size<=999000) (hk0:k0<s.size) :
  Calls Tryz.prog 147 #[.string s,.int .i64 k0] w λ e w'=>e=.returned (.int .i64 (Zc4 s (k0+1)))/\w=w':=by
 have hadd:=λ W=>run_string_add_sum (P:=Tryz.prog) W s ⟨#[32]⟩ (by show s.size+1<=_;omega)
 have HP:=Qh (ZmI s (k0+1) (by omega))
 have HS:=Qh (Zbl s)
 have HT:Hid (∀ W,Calls Tryz.prog 158 #[.string (plus s),.int .i64 k0] W λ e w'=>e=.returned (.int .i64 (tEnd (plus s) (k0+1):Nat))/\w'=W):=λ W=>ZhD (plus s) k0 W (by rw [HS.out];omega) (by rw [HS.out];omega)
 cases hc:tClose s (k0+1) with
 |
  none =>
  have HV:Hid (tEnd (plus s) (k0+1)=s.size+1):=by show _=_;rw [HP.out,hc]
  go_enter Tryz.func147,Tryz.ntmps147
  go_wp2_with (go_at_call 158;refine (HT.out _).mono ?_;rw [HV.out];rintro e w' ⟨rfl,rfl⟩)
  go_ret
  exact⟨Za5 (ZjR hc).symm,rfl⟩
 |
  some e =>
  have hb:=Za1 hc
  have hb1:=hb.1
  have hb2:=hb.2.1
  clear hb
  have HV:Hid (tEnd (plus s) (k0+1)=e):=by show _=_;rw [HP.out,hc]
  go_enter Tryz.func147,Tryz.ntmps147
  go_wp2_with (go_at_call 158;refine (HT.out _).mono ?_;rw [HV.out];rintro e w' ⟨rfl,rfl⟩)
  go_ret
  exact⟨Za5 (ZjQ hc).symm,rfl⟩
theorem Zfz:∀ (l:List UInt8) (c:UInt8),Lib.indexByte l c<0 ↔ ¬ c∈l
 | [],c=>by simp [Lib.indexByte]
 |
  b::l,c=>by
  have ih:=Zfz l c
  have hg:=Lib.indexByte_ge l c
  unfold Lib.indexByte
  by_cases hb:(b==c)=true
  ·rw [if_pos hb];simp at hb;subst hb;simp
  ·rw [if_neg hb]
   have hne:¬ c=b:=λ e=>hb (by rw [e];simp)
   by_cases h1:(Lib.indexByte l c==-1)=true
   ·rw [if_pos h1]
    have:Lib.indexByte l c=-1:=by simpa using h1
    simp only [List.mem_cons,not_or]
    exact⟨λ _=>⟨hne,ih.1 (by omega)⟩,λ _=>by omega⟩
   ·rw [if_neg h1]
    have:¬ Lib.indexByte l c=-1:=by simpa using h1
    simp only [List.mem_cons,not_or]
    exact⟨λ h=>absurd h (by omega),λ h=>absurd (ih.2 h.2) (by omega)⟩
theorem ZlB (c:UInt8) (w:World) :
  Calls Tryz.prog 159 #[.string ⟨#[43,45,42,47,37,60,62,61,33,38,124,40,41,44,35,59,63,58,123,125,91,93,46]⟩,.int .u8 (c.toNat:Int)] w λ e w'=>(∃ r:Int,e=.returned (.int .i64 r)/\(r<0 ↔ ¬ c∈marks1))/\w=w':=by
 refine (Tryz.strings_IndexByte _ _ w).mono ?_
 rintro e w' ⟨rfl,rfl⟩
 refine ⟨⟨_,rfl,?_⟩,rfl⟩
 rw [Zfz]
 have:((c.toNat:Int)).toNat.toUInt8=c:=by simp
 rw [this]
 exact Iff.rfl
theorem eight (s:ByteArray) (k:Nat) :
  (two s k 61 61=true/\Hid (twoAt s k=true)) \/
  (two s k 61 61=false/\two s k 33 61=true/\Hid (twoAt s k=true)) \/
  (two s k 61 61=false/\two s k 33 61=false/\two s k 60 61=true/\Hid (twoAt s k=true)) \/
  (two s k 61 61=false/\two s k 33 61=false/\two s k 60 61=false/\two s k 62 61=true/\Hid (twoAt s k=true)) \/
  (two s k 61 61=false/\two s k 33 61=false/\two s k 60 61=false/\two s k 62 61=false/\two s k 38 38=true/\Hid (twoAt s k=true)) \/
  (two s k 61 61=false/\two s k 33 61=false/\two s k 60 61=false/\two s k 62 61=false/\two s k 38 38=false/\two s k 124 124=true/\Hid (twoAt s k=true)) \/
  (two s k 61 61=false/\two s k 33 61=false/\two s k 60 61=false/\two s k 62 61=false/\two s k 38 38=false/\two s k 124 124=false/\two s k 35 35=true/\Hid (twoAt s k=true)) \/
  (two s k 61 61=false/\two s k 33 61=false/\two s k 60 61=false/\two s k 62 61=false/\two s k 38 38=false/\two s k 124 124=false/\two s k 35 35=false/\Hid (twoAt s k=false)):=by
 simp only [Hid,twoAt]
 cases two s k 61 61 <;> cases two s k 33 61 <;> cases two s k 60 61 <;> cases two s k 62 61 <;> cases two s k 38 38 <;> cases two s k 124 124 <;> cases two s k 35 35 <;> simp
theorem Zl8 {s:ByteArray} {k:Nat} (h:twoAt s k=true):((k:Int)+2)=ZcP s k:=by unfold ZcP mLen;rw [if_pos h];simp
theorem Zg6 {s:ByteArray} {k:Nat} (h:twoAt s k=false) (hk:k<s.size) (hm:s[k]∈marks1):mLen s k=1:=by unfold mLen;rw [h];simp [hk,hm]
theorem ZfO {s:ByteArray} {k:Nat} (h:twoAt s k=false) (hk:k<s.size) (hm:¬ s[k]∈marks1):mLen s k=0:=by unfold mLen;rw [h];simp [hk,hm]
theorem ZhE {s:ByteArray} {k:Nat} (h:twoAt s k=false) (hk:k<s.size) (hm:s[k]∈marks1):((k:Int)+1)=ZcP s k:=by unfold ZcP;rw [Zg6 h hk hm];simp
theorem ZgJ {s:ByteArray} {k:Nat} (h:twoAt s k=false) (hk:k<s.size) (hm:¬ s[k]∈marks1):(-1:Int)=ZcP s k:=by unfold ZcP;rw [ZfO h hk hm];simp
theorem ZhF (s:ByteArray) (k:Nat) (w:World) (hs:s.size<=1000000) (hk:k<s.size) :
  Calls Tryz.prog 148 #[.string s,.int .i64 k] w λ e w'=>e=.returned (.int .i64 (ZcP s k))/\w=w':=by
 by_cases hr:k+2<=s.size
 ·have hsl:=ZeJ s (k:Int) ((k:Int)+2) k (k+2) rfl (by omega) (by omega) (by omega)
  have e1:=Zbp s k 61 61
  have e2:=Zbp s k 33 61
  have e3:=Zbp s k 60 61
  have e4:=Zbp s k 62 61
  have e5:=Zbp s k 38 38
  have e6:=Zbp s k 124 124
  have e7:=Zbp s k 35 35
  rcases eight s k with⟨h1,HT⟩ | ⟨h1,h2,HT⟩ | ⟨h1,h2,h3,HT⟩ | ⟨h1,h2,h3,h4,HT⟩ | ⟨h1,h2,h3,h4,h5,HT⟩ | ⟨h1,h2,h3,h4,h5,h6,HT⟩ | ⟨h1,h2,h3,h4,h5,h6,h7,HT⟩ | ⟨h1,h2,h3,h4,h5,h6,h7,HT⟩
  all_goals
   (try rw [h1] at e1);(try rw [h2] at e2);(try rw [h3] at e3);(try rw [h4] at e4);(try rw [h5] at e5);(try rw [h6] at e6);(try rw [h7] at e7)
   go_enter Tryz.func148,Tryz.ntmps148
   go_wp2_with (go_at_call 159;refine (ZlB _ _).mono ?_;rintro e w' ⟨⟨r,rfl,hr⟩,rfl⟩;have HR:=Qh hr;clear hr)
   all_goals
    go_ret
    exact⟨Za5 (by first | exact Zl8 HT.out | exact ZhE HT.out hk (Decidable.byContradiction λ h=>absurd (HR.out.2 h) (by omega)) | exact ZgJ HT.out hk (HR.out.1 (by omega))),rfl⟩
 ·have HT:Hid (twoAt s k=false):=by
   show _=_
   cases h:twoAt s k
   ·rfl
   ·have:=Ze2 h;omega
  go_enter Tryz.func148,Tryz.ntmps148
  go_wp2_with (go_at_call 159;refine (ZlB _ _).mono ?_;rintro e w' ⟨⟨r,rfl,hr⟩,rfl⟩;have HR:=Qh hr;clear hr)
  all_goals
   go_ret
   exact⟨Za5 (by first | exact ZhE HT.out hk (Decidable.byContradiction λ h=>absurd (HR.out.2 h) (by omega)) | exact ZgJ HT.out hk (HR.out.1 (by omega))),rfl⟩
theorem kind_dig {c:UInt8} (h:isDig c=true):(2:Int)=cutKind c:=by unfold cutKind;rw [if_pos h]
theorem ZmN {c:UInt8} (h:isDig c=false) (hw:Zal c=true):(1:Int)=cutKind c:=by
 unfold cutKind;unfold Zal at hw;rw [h,Bool.or_false] at hw;rw [if_neg (by simp [h]),if_pos hw]
theorem ZmO {c:UInt8} (hw:Zal c=false) (hq:c.toNat=34):(3:Int)=cutKind c:=by
 unfold Zal at hw;rw [Bool.or_eq_false_iff] at hw;unfold cutKind;rw [if_neg (by simp [hw.2]),if_neg (by simp [hw.1]),if_pos hq]
theorem ZmP {c:UInt8} (hw:Zal c=false) (hq:¬ c.toNat=34):(4:Int)=cutKind c:=by
 unfold Zal at hw;rw [Bool.or_eq_false_iff] at hw;unfold cutKind;rw [if_neg (by simp [hw.2]),if_neg (by simp [hw.1]),if_neg hq]
theorem Ze5 {c:UInt8} (h:isDig c=true):Zal c=true:=by unfold Zal;rw [h,Bool.or_true]
theorem ZjS {s:ByteArray} {k:Nat} (h:k<s.size) (hw:Zal s[k]=true):ZdT s k=Zaw s k:=by rw [Zaw,dif_pos h,if_pos hw]
theorem cutEnd_t {s:ByteArray} {k:Nat} (h:k<s.size) (hw:Zal s[k]=false) (hq:s[k].toNat=34):Zc4 s (k+1)=Zaw s k:=by rw [Zaw,dif_pos h,if_neg (by simp [hw]),if_pos hq]
theorem cutEnd_m {s:ByteArray} {k:Nat} (h:k<s.size) (hw:Zal s[k]=false) (hq:¬ s[k].toNat=34):ZcP s k=Zaw s k:=by rw [Zaw,dif_pos h,if_neg (by simp [hw]),if_neg hq]
theorem ZdU (s:ByteArray) (k:Nat) (w:World) (hs:s.size<=999000) (hk:k<s.size) :
  Calls Tryz.prog 132 #[.string s,.int .i64 k] w λ e w'=>e=.returned (.tuple #[.int .i64 (cutKind s[k]),.int .i64 (Zaw s k)])/\w=w':=by
 cases hd:isDig s[k]
 ·cases hw:Zal s[k]
  ·by_cases hq:s[k].toNat=34
   ·have h34:((s[k].toNat:Int)==34)=true:=by simp;omega
    have HF:=Qh (cutEnd_t hk hw hq)
    have HK:=Qh (ZmO hw hq)
    clear hq
    go_enter Tryz.func132,Tryz.ntmps132
    go_wp2_with (first
     | (go_at_call 144;refine (ZbU _ _).mono ?_;rw [hd];rintro e w' ⟨rfl,rfl⟩)
     | (go_at_call 146;refine (ZbI _ _).mono ?_;rw [hw];rintro e w' ⟨rfl,rfl⟩)
     | (go_at_call 147;refine (ZeK s k _ hs hk).mono ?_;rintro e w' ⟨rfl,rfl⟩))
    go_ret2
    exact⟨Ze4 HK.out HF.out,rfl⟩
   ·have h34:((s[k].toNat:Int)==34)=false:=by simp;omega
    have HF:=Qh (cutEnd_m hk hw hq)
    have HK:=Qh (ZmP hw hq)
    clear hq
    go_enter Tryz.func132,Tryz.ntmps132
    go_wp2_with (first
     | (go_at_call 144;refine (ZbU _ _).mono ?_;rw [hd];rintro e w' ⟨rfl,rfl⟩)
     | (go_at_call 146;refine (ZbI _ _).mono ?_;rw [hw];rintro e w' ⟨rfl,rfl⟩)
     | (go_at_call 148;refine (ZhF s k _ (by omega) hk).mono ?_;rintro e w' ⟨rfl,rfl⟩))
    go_ret2
    exact⟨Ze4 HK.out HF.out,rfl⟩
  ·have HF:=Qh (ZjS hk hw)
   have HK:=Qh (ZmN hd hw)
   go_enter Tryz.func132,Tryz.ntmps132
   go_wp2_with (first
    | (go_at_call 144;refine (ZbU _ _).mono ?_;rw [hd];rintro e w' ⟨rfl,rfl⟩)
    | (go_at_call 146;refine (ZbI _ _).mono ?_;rw [hw];rintro e w' ⟨rfl,rfl⟩)
    | (go_at_call 145;refine (Zeg s k _ (by omega) (by omega)).mono ?_;rintro e w' ⟨rfl,rfl⟩))
   go_ret2
   exact⟨Ze4 HK.out HF.out,rfl⟩
 ·have HF:=Qh (ZjS hk (Ze5 hd))
  have HK:=Qh (kind_dig hd)
  go_enter Tryz.func132,Tryz.ntmps132
  go_wp2_with (first
   | (go_at_call 144;refine (ZbU _ _).mono ?_;rw [hd];rintro e w' ⟨rfl,rfl⟩)
   | (go_at_call 145;refine (Zeg s k _ (by omega) (by omega)).mono ?_;rintro e w' ⟨rfl,rfl⟩))
  go_ret2
  exact⟨Ze4 HK.out HF.out,rfl⟩
open Go.ChangeShapes Go.WideShapes Go.RowKit
section
variable {H:Type} {enc:TypeId × Value->H} {P:Program} {w:World} {base:Nat} {spare:Nat->Bool} {held:Bool}
def Opens (enc:TypeId × Value->H) (P:Program) (w:World) (base:Nat) (spare:Nat->Bool) (held:Bool) (t:TypeId) {α:Type} (S:Shape α):Prop:=
 ∀ fuel cs x,DataW.trod enc P w base spare held fuel t cs=some x->∃ d fp,S.R w cs d fp
theorem Zeh {t:TypeId} (ht:P.underlying t=some .string):Opens enc P w base spare held t sStr:=by
 intro fuel cs x h
 obtain⟨s,rfl,_,hs⟩:=DataW.trod_string ht h
 exact⟨s,[],rfl,hs,rfl⟩
theorem ZhG {t:TypeId} (ht:P.underlying t=some .bool):Opens enc P w base spare held t sBool:=by
 intro fuel cs x h
 obtain⟨b,rfl,_⟩:=DataW.trod_bool ht h
 exact⟨b,[],rfl,trivial,rfl⟩
theorem ZmQ {t:TypeId} (ht:P.underlying t=some (.int .i64)):Opens enc P w base spare held t sInt:=by
 intro fuel cs x h
 obtain⟨n,rfl,_,hw⟩:=DataW.trod_int ht h
 have:-9223372036854775808<=n/\n<=9223372036854775807:=by simpa [Lit.wf,IntKind.min,IntKind.max,IntKind.signed,IntKind.bits] using hw
 exact⟨n,[],rfl,this,rfl⟩
theorem ZaI (b off n:Nat):Addr.add ⟨b,off,none⟩ n=⟨b,off+n,none⟩:=by
 unfold Addr.add;split
 ·rename_i h;subst h;rfl
 ·rfl
theorem Zcw {t e:TypeId} {α:Type} {S:Shape α} (ht:P.underlying t=some (.slice e)) (hm:P.cellsOf e=S.m) (h0:0<S.m) (he:Opens enc P w base spare held e S):Opens enc P w base spare held t (Zaa S):=by
 intro fuel cs x h
 rcases DataW.trod_slice ht h with⟨rfl,_⟩ | ⟨a,len,cap,elems,rest,n,_,rfl,_,hb,hl,hc,hlen,hel,_,_⟩
 ·exact⟨[],[],none,0,rfl,by simp,by simp,.inl ⟨rfl,rfl⟩⟩
 ·have each:∀ i,i<len->∃ es d fp,(es.length=S.m/\∀ j,j<S.m->w.cell? (a.add (i * S.m+j))=es[j]?)/\S.R w es d fp:=by
   intro i hi
   have h1:=hel i hi
   rw [List.getElem?_eq_getElem (by omega),Option.bind_eq_some_iff] at h1
   obtain⟨es,h2,h3⟩:=h1
   rw [hm] at h2
   obtain⟨_,h4,h5⟩:=World.cells?_some h2
   obtain⟨d,fp,h6⟩:=he _ _ _ h3
   refine ⟨es,d,fp,⟨h4,λ j hj=>?_⟩,h6⟩
   rw [← h5 j hj,Go.Deep.add_add]
  by_cases hz:len=0
  ·subst hz
   exact⟨[],[],some a,cap,rfl,hl,hc,.inl ⟨rfl,rfl⟩⟩
  ·have hsp:a.spot=none:=by
    obtain⟨es,d,fp,⟨h1,h2⟩,_⟩:=each 0 (by omega)
    have h3:=h2 0 h0
    rw [List.getElem?_eq_getElem (by omega)] at h3
    have e0:a.add (0 * S.m+0)=a:=by simp [Addr.add]
    rw [e0] at h3
    unfold World.cell? at h3
    split at h3
    ·split at h3
     ·simp at h3
     ·rename_i hh;simpa using hh
    ·simp at h3
   obtain⟨b,off,sp⟩:=a
   simp at hsp
   subst hsp
   have hblk:b<w.heap.size:=by
    obtain⟨es,d,fp,⟨h1,h2⟩,_⟩:=each 0 (by omega)
    have h3:=h2 0 h0
    rw [List.getElem?_eq_getElem (by omega),ZaI] at h3
    exact World.block_lt_of_cell? w _ h3
   have hch:∀ i:Nat,∃ y:α × List Nat,i<len->∃ es,ElemAt w b off S.m i es/\S.R w es y.1 y.2:=by
    intro i
    by_cases hi:i<len
    ·obtain⟨es,d,fp,⟨h1,h2⟩,h3⟩:=each i hi
     refine ⟨(d,fp),λ _=>⟨es,⟨h1,λ j hj=>?_⟩,h3⟩⟩
     rw [← h2 j hj,ZaI,Nat.add_assoc]
    ·obtain⟨es,d,fp,_,_⟩:=each 0 (by omega)
     exact⟨(d,fp),λ h=>absurd h hi⟩
   let Y:=λ i=>Classical.choose (hch i)
   have hY:∀ i,i<len->∃ es,ElemAt w b off S.m i es/\S.R w es (Y i).1 (Y i).2:=λ i hi=>Classical.choose_spec (hch i) hi
   have hL:((List.range len).map λ i=>(Y i).1).length=len:=by simp
   refine ⟨(List.range len).map λ i=>(Y i).1,b::(List.range len).flatMap λ i=>(Y i).2,some ⟨b,off,none⟩,cap,by rw [hL],by rw [hL];exact hl,hc,.inr ⟨by rw [hL];omega,b,off,λ i=>(Y i).2,rfl,by rw [hL],hblk,λ i hi=>?_⟩⟩
   rw [hL] at hi
   obtain⟨es,h1,h2⟩:=hY i hi
   exact⟨es,h1,by simpa using h2⟩
theorem ZjT {t:TypeId} {α:Type} {S:Shape α} {v:Value} {d:DataW H} {p:List MemPlace} (ho:Opens enc P w base spare held t S) (h:DataW.Trod enc P w base spare held t v d p):∃ x fp,S.R w v.cells.toList x fp:=by
 obtain⟨fuel,hf⟩:=h
 exact ho fuel _ _ hf
end
theorem Zei {P:Program} {t e:TypeId} {z:Value} {size bytes:Nat} (ti:TI P t e z size bytes) (hzs:z.cells.size=size) (h0:0<size) (w0:World) (xs:List Value) (x:List Value) (hxl:x.length=size) (hx1:∀ u∈x,u.oneCell'=true) {ops:Array Oper} {rest:List Oper} {o:Oper} {a:Act} {Q:Exit->Act->World->Prop}
  (hg:o.guard=none) (s y:Operand) (ho:o.op=.call { callee:=.builtin .append,args:=#[s,y],argTypes:=#[t,t] })
  (base:Nat) (v:Value) (n:Nat) (hs:a.eval s=v) (hown:w0.ownsRow base e size v n xs)
  (hy:a.eval y=.slice (some ⟨w0.heap.size,0,none⟩) 1 1)
  (h63:n+1<=maxLen) (hbytes:(n+1) * bytes<=140737488355328) (hbase:base<=w0.heap.size)
  (h:∀ v' w',w'.ownsRow base e size v' (n+1) (xs++x)->w0.grownBy w' v.ownBlock->wpList P ops Q rest (a.put o.dst v') w'):wpList P ops Q (o::rest) a (w0.alloc (.cells x.toArray e)):=by
 obtain⟨i,hi,hz0,hz1,hz2⟩:=info_parts ti.2
 refine wpList_append_own _ hg s y t ho base e i z size bytes ti.1 hi hz0 hz1 hz2 hzs h0 v n xs hs (hown.alloc _) ⟨w0.heap.size,0,none⟩ 1 1 x hy (by omega) ?_ hx1 h63 hbytes (by simp;omega) λ v' w' a b _=>h v' w' a (Zb7 (World.grownBy_alloc _ _ _) b)
 intro j u hj
 rw [ZaI,Nat.zero_add]
 rw [World.cell?_alloc_at _ _ _ _ rfl]
 simpa using hj
theorem ZdG {α:Type} {f:α->List Value} {m:Nat}:∀ {L:List α} (_:∀ x∈L,(f x).length=m) {i:Nat} (hi:i<L.length) {j:Nat} (_:j<m),(L.flatMap f)[i * m+j]?=(f L[i])[j]?
 | [],_,i,hi,_,_=>by simp at hi
 |
  x::L,hL,0,_,j,hj=>by
  rw [List.flatMap_cons,List.getElem?_append_left (by rw [hL x (by simp)];omega)]
  simp
 |
  x::L,hL,i+1,hi,j,hj=>by
  have hx:=hL x (by simp)
  have e:(i+1) * m+j=m+(i * m+j):=by rw [Nat.succ_mul];omega
  rw [List.flatMap_cons,List.getElem?_append_right (by rw [hx,e];omega),hx,e,Nat.add_sub_cancel_left]
  exact ZdG (λ y hy=>hL y (by simp [hy])) (by simpa using hi) hj
theorem ZaU {α:Type} {f:α->List Value} {m:Nat}:∀ {L:List α},(∀ x∈L,(f x).length=m)->(L.flatMap f).length=L.length * m
 | [],_=>by simp
 | x::L,hL=>by rw [List.flatMap_cons,List.length_append,hL x (by simp),ZaU (λ y hy=>hL y (by simp [hy])),List.length_cons,Nat.succ_mul,Nat.add_comm]
structure Elem (α:Type) where
 cells:List Value
 d:α
 fp:List Nat
theorem Zl9 {L:List (List Nat)}:(List.range L.length).flatMap (λ i=>L.getD i [])=L.flatten:=by
 have:(List.range L.length).map (λ i=>L.getD i [])=L:=by
  apply List.ext_getElem (by simp)
  intro i h1 h2
  simp [List.getD_eq_getElem?_getD,List.getElem?_eq_getElem h2]
 rw [List.flatMap_def,this]
theorem Za7 {α:Type} {S:Shape α} {w:World} {base e:Nat} {v:Value} {L:List (Elem α)} (h:w.ownsRow base e S.m v L.length (L.flatMap (·.cells))) (hR:∀ x∈L,x.cells.length=S.m/\S.R w x.cells x.d x.fp) :
  ∃ fp,(Zaa S).R w [v] (L.map (·.d)) fp/\(∀ b∈fp,v.ownBlock=some b\/b∈L.flatMap (·.fp)) /\
   (Own w base (L.flatMap (·.fp))->(∀ g,v.ownBlock=some g->g∉L.flatMap (·.fp))->Own w base fp):=by
 by_cases h0:L=[]
 ·subst h0
  rcases h.2 with⟨rfl,_⟩ | ⟨g,cap,cur,rfl,hb,hg,hnc,hcm,hcs,htake⟩
  ·exact⟨[],⟨none,0,rfl,by simp,by simp,.inl ⟨rfl,rfl⟩⟩,by simp,λ _ _=>Own.nil _ _⟩
  ·exact⟨[],⟨_,cap,rfl,by simp,hcm,.inl ⟨rfl,rfl⟩⟩,by simp,λ _ _=>Own.nil _ _⟩
 ·have hpos:0<L.length:=List.length_pos_iff.2 h0
  rcases h.2 with⟨_,h1⟩ | ⟨g,cap,cur,rfl,hb,hg,hnc,hcm,hcs,htake⟩
  ·omega
  ·have hlt:g<w.heap.size:=(Qg hg).1
   have e1:(List.range L.length).flatMap (λ i=>(L.map (·.fp)).getD i [])=L.flatMap (·.fp):=by
    have:=Zl9 (L:=L.map (·.fp))
    rw [List.length_map] at this
    rw [this,List.flatMap_def]
   refine ⟨g::L.flatMap (·.fp),⟨_,cap,by simp,by simpa using hnc,hcm,.inr ⟨by simpa using hpos,g,0,λ i=>(L.map (·.fp)).getD i [],rfl,by rw [List.length_map,e1],hlt,λ i hi=>?_⟩⟩,?_,?_⟩
   ·have hi':i<L.length:=by simpa using hi
    have hx:=hR L[i] (List.getElem_mem hi')
    refine ⟨L[i].cells,⟨hx.1,λ j hj=>?_⟩,?_⟩
    ·rw [Nat.zero_add,h.cellAt (i * S.m+j) (by have:(i+1) * S.m<=L.length * S.m:=Nat.mul_le_mul_right _ hi';rw [Nat.succ_mul] at this;omega)]
     exact ZdG (f:=Elem.cells) (λ x hx=>(hR x hx).1) hi' hj
    ·have e2:(L.map (·.fp)).getD i []=L[i].fp:=by simp [List.getD_eq_getElem?_getD,List.getElem?_eq_getElem hi']
     show S.R w L[i].cells (L.map (·.d))[i] ((L.map (·.fp)).getD i [])
     rw [e2]
     simpa using hx.2
   ·intro b hb'
    rcases List.mem_cons.1 hb' with rfl | hb'
    ·exact .inl rfl
    ·exact .inr hb'
   ·intro ho hn
    exact⟨List.nodup_cons.2 ⟨hn g rfl,ho.1⟩,λ b hb'=>by
     rcases List.mem_cons.1 hb' with rfl | hb'
     ·exact⟨hb,cur,e,hg⟩
     ·exact ho.2 b hb'⟩
theorem Zac {α:Type} {S:Shape α} {w:World} {v:Value} {l:List α} {fp:List Nat} (H:(Zaa S).R w [v] l fp) :
  ∃ a cap,v=.slice a l.length cap/\l.length<=cap/\cap<=maxLen/\(0<l.length->∃ b off fps,a=some ⟨b,off,none⟩/\b<w.heap.size/\fp=b::(List.range l.length).flatMap fps/\∀ i,(hi:i<l.length)->∃ es,ElemAt w b off S.m i es/\S.R w es l[i] (fps i)):=by
 obtain⟨a,cap,hv,hc,hm,h⟩:=H
 refine ⟨a,cap,by simpa using hv,hc,hm,λ h0=>?_⟩
 rcases h with⟨rfl,_⟩ | ⟨_,b,off,fps,rfl,rfl,hb,he⟩
 ·simp at h0
 ·exact⟨b,off,fps,rfl,hb,rfl,he⟩
open Go.RowKit Go.ChangeShapes Go.WideShapes Go.Deep Go.Joins
def sTok:Shape Tok where
 m:=4
 R w cs d fp:=∃ h,cs=[.int .i64 d.kind,.string d.text,.bool d.spaced,h]/\okInt d.kind/\okStr d.text/\(Zaa sStr).R w [h] d.hidden fp
 frame:=by
  rintro w w' cs d fp hf ⟨h,h1,h2,h3,h4⟩
  exact⟨h,h1,h2,h3,(Zaa sStr).frame hf h4⟩
 lt:=by
  rintro w cs d fp ⟨h,h1,h2,h3,h4⟩
  exact(Zaa sStr).lt h4
theorem ZaG:TI Tryz.prog 24 32 (.agg #[.int .i64 0,.string ⟨#[]⟩,.bool false,.slice none 0 0]) 4 56:=⟨by kernel_rfl,by kernel_rfl⟩
def Zb1 (t:Tok):List Value:=[.int .i64 t.kind,.string t.text,.bool t.spaced,.slice none 0 0]
def TokRow (base:Nat) (v:Value) (l:List Tok) (w:World):Prop:=w.ownsRow base 32 4 v l.length (l.flatMap Zb1)
theorem TokRow.nil (base:Nat) (w:World):TokRow base (.slice none 0 0) [] w:=World.ownsRow_nil _ _ _ _
theorem TokRow.drew {base:Nat} {v:Value} {l:List Tok} {w:World} (h:TokRow base v l w) (n:Nat):TokRow base v l (w.drewN n):=h
theorem TokRow.slice {base:Nat} {v:Value} {l:List Tok} {w:World} (h:TokRow base v l w):∃ a cap,v=.slice a l.length cap/\cap<=maxLen:=by
 rcases h.2 with⟨rfl,h0⟩ | ⟨g,cap,cur,rfl,_,_,_,hc,_⟩
 ·exact⟨none,0,by rw [h0],by simp⟩
 ·exact⟨_,cap,rfl,hc⟩
theorem TokRow.mine {base:Nat} {v:Value} {l:List Tok} {w:World} (h:TokRow base v l w):∀ b,v.ownBlock=some b->base<=b:=λ b hb=>(h.lt b hb).1
theorem ZfA {w0:World} {ops:Array Oper} {rest:List Oper} {o:Oper} {a:Act} {Q:Exit->Act->World->Prop} (hg:o.guard=none) (s y:Operand)
  (ho:o.op=.call { callee:=.builtin .append,args:=#[s,y],argTypes:=#[24,24] })
  (base:Nat) (v:Value) (l:List Tok) (k:Int) (x:ByteArray) (b:Bool) (hs:a.eval s=v) (hown:TokRow base v l w0) (hy:a.eval y=.slice (some ⟨w0.heap.size,0,none⟩) 1 1) (h63:l.length<=1000000) (hbase:base<=w0.heap.size)
  (h:∀ v' w',TokRow base v' (l++[⟨k,x,b,[]⟩]) w'->w0.grownBy w' v.ownBlock->wpList Tryz.prog ops Q rest (a.put o.dst v') w'):wpList Tryz.prog ops Q (o::rest) a (w0.alloc (.cells #[.int .i64 k,.string x,.bool b,.slice none 0 0] 32)):=by
 refine Zei ZaG rfl (by decide) w0 (l.flatMap Zb1) [.int .i64 k,.string x,.bool b,.slice none 0 0] rfl (by simp [Value.oneCell']) hg s y ho base v l.length hs hown hy (by unfold maxLen;omega) (by omega) hbase λ v' w' h1 h2=>h v' w' ?_ h2
 unfold TokRow
 rw [List.length_append,List.flatMap_append]
 exact h1
theorem Zg7 {w:World} {base:Nat} {v:Value} {l:List Tok} {B:Nat} (h:TokRow base v l w) (hf:Fresh B l) (hB:B<=1000000) :
  ∃ fp,(Zaa sTok).R w [v] l fp/\Own w base fp/\∀ b∈fp,v.ownBlock=some b:=by
 have hL:(l.map λ t=>(⟨Zb1 t,t,[]⟩:Elem Tok)).flatMap (·.cells)=l.flatMap Zb1:=by rw [List.flatMap_map]
 have hF:(l.map λ t=>(⟨Zb1 t,t,[]⟩:Elem Tok)).flatMap (·.fp)=[]:=by rw [List.flatMap_map];simp
 have hD:(l.map λ t=>(⟨Zb1 t,t,[]⟩:Elem Tok)).map (·.d)=l:=by rw [List.map_map];exact List.map_id _
 obtain⟨fp,h1,h2,h3⟩:=Za7 (S:=sTok) (w:=w) (base:=base) (e:=32) (v:=v) (L:=l.map λ t=>⟨Zb1 t,t,[]⟩) (by rw [hL,List.length_map];exact h) (by
  intro x hx
  obtain⟨t,ht,rfl⟩:=List.mem_map.1 hx
  obtain⟨a1,a2,a3,a4⟩:=hf t ht
  have b1:okInt t.kind:=⟨by omega,by omega⟩
  have b2:okStr t.text:=by unfold okStr maxLen;omega
  have b3:(Zaa sStr).R w [.slice none 0 0] t.hidden []:=by rw [a2];exact Zay sStr w none 0 (by simp)
  exact⟨rfl,_,rfl,b1,b2,b3⟩)
 rw [hD] at h1
 rw [hF] at h2 h3
 exact⟨fp,h1,h3 (Own.nil _ _) (by simp),λ b hb=>by rcases h2 b hb with h | h;exact h;simp at h⟩
def Zco (r:List Tok × Bool) (w:World) (e:Ending) (w':World):Prop:=
 ∃ v fp,e=.returned (.tuple #[v,.bool r.2])/\(Zaa sTok).R w' [v] r.1 fp/\Own w' w.heap.size fp/\Below w.heap.size w w'
section
variable {H:Type} {enc:TypeId × Value->H} {P:Program} {w:World} {base:Nat} {spare:Nat->Bool} {held:Bool}
theorem ZmR {t:TypeId} {f0 f1 f2 f3:Field} (hs:P.underlying t=some (.struct #[f0,f1,f2,f3])) (hone:oneCellFields P #[f0,f1,f2,f3]=true) (hC:P.cellsOf t=4)
  (h0:Opens enc P w base spare held f0.type sInt) (h1:Opens enc P w base spare held f1.type sStr) (h2:Opens enc P w base spare held f2.type sBool) (h3:Opens enc P w base spare held f3.type (Zaa sStr)):Opens enc P w base spare held t sTok:=by
 intro fuel cs x h
 obtain⟨xs,n,_,hx,hcl,hlen,hg⟩:=DataW.trod_struct hs h
 rw [hC] at hcl
 match cs,hcl with
 |
  [c0,c1,c2,c3],_ =>
  obtain⟨o0,k0⟩:=hone_of hone 0 f0 rfl
  obtain⟨o1,k1⟩:=hone_of hone 1 f1 rfl
  obtain⟨o2,k2⟩:=hone_of hone 2 f2 rfl
  obtain⟨o3,k3⟩:=hone_of hone 3 f3 rfl
  have g0:=hg 0 f0 rfl
  have g1:=hg 1 f1 rfl
  have g2:=hg 2 f2 rfl
  have g3:=hg 3 f3 rfl
  rw [o0,k0] at g0;rw [o1,k1] at g1;rw [o2,k2] at g2;rw [o3,k3] at g3
  match xs,hlen with
  |
   [y0,y1,y2,y3],_ =>
   obtain⟨d0,p0,hc0,hok0,rfl⟩:=h0 n _ _ g0
   obtain⟨d1,p1,hc1,hok1,rfl⟩:=h1 n _ _ g1
   obtain⟨d2,p2,hc2,_,rfl⟩:=h2 n _ _ g2
   obtain⟨d3,p3,hc3⟩:=h3 n _ _ g3
   simp at hc0 hc1 hc2 hc3
   subst hc0;subst hc1;subst hc2
   exact⟨⟨d0,d1,d2,d3⟩,p3,c3,rfl,hok0,hok1,hc3⟩
end
theorem ZdV {s:ByteArray} (h:ZaL s=true):s.size<=200:=by
 unfold ZaL at h;rw [Bool.and_eq_true,decide_eq_true_eq] at h;exact h.1
theorem ret_toks {v:Value} {l:List Tok} {b:Bool} {s:ByteArray} (h:Zar s=(l,b)) {B:Nat} {w w':World} {fp:List Nat} (hr:(Zaa sTok).R w' [v] l fp) (ho:Own w' w.heap.size fp) (hb:Below w.heap.size w w') :
  Zco (Zar s) w (.returned (.tuple #[v,.bool b])) w':=by
 rw [h];exact⟨v,fp,rfl,hr,ho,hb⟩
theorem ZjU {s:ByteArray} (h:Zar s=([],false)) {w w':World} {a:Option Addr} {cap:Nat} (hc:cap<=maxLen) (hb:Below w.heap.size w w') :
  Zco (Zar s) w (.returned (.tuple #[.slice a 0 cap,.bool false])) w':=by
 rw [h];exact⟨_,[],rfl,Zay _ _ _ _ hc,Own.nil _ _,hb⟩
theorem ZfB (s:ByteArray) (w:World) (hs:s.size<=maxLen) :
  Calls Tryz.prog 114 #[.string s] w (Zco (Zar s) w):=by
 have hm:=hs
 unfold maxLen at hm
 cases h0:ZaL s
 ·have HF:=Qh (Ze3 h0)
  go_enter Tryz.func114,Tryz.ntmps114
  go_wp2_with (go_at_call 22;refine (ZeH _ _ hs).mono ?_;rw [h0];rintro e w' ⟨rfl,rfl⟩)
  go_ret2
  exact ZjU HF.out (by simp) (Below.refl _ _)
 have hsz:=ZdV h0
 have H0:=Qh h0
 go_enter Tryz.func114,Tryz.ntmps114
 go_wp2_with (go_at_call 22;refine (ZeH _ _ hs).mono ?_;rw [h0];rintro e w' ⟨rfl,rfl⟩)
 clear h0
 go_loopw [4,5,6] (λ v sp i wr=>∃ (k:Nat) (b:Bool) (out:List Tok),k<=s.size/\i=.int .i64 k/\sp=.bool b/\AtT s k b out/\Fresh s.size out/\TokRow w.heap.size v out wr/\Below w.heap.size w wr) (λ _ _ i _=>s.size-(intOf i).toNat)
 case atStart=>exact⟨0,false,[],by omega,rfl,rfl,AtT.zero s,Fresh.nil _,TokRow.nil _ _,Below.refl _ _⟩
 case round =>
  obtain⟨k,b,out,hk,rfl,rfl,hat,hfr,hown,hbel⟩:=hrel
  have ho:out.length<=60:=hat.2
  have hbs:=hbel.size
  by_cases hlt:k<s.size
  ·by_cases h32:s[k].toNat=32
   ·have HN:=Qh (hat.space hlt h32)
    have h32':((s[k].toNat:Int)==32)=true:=by simp;omega
    clear hat h32
    go_wp2
    go_roundw
    case rel=>exact⟨k+1,true,out,by omega,by go_num,rfl,HN.out,hfr,hown,hbel⟩
    case measure=>simp [intOf];omega
   ·have h32':((s[k].toNat:Int)==32)=false:=by simp;omega
    rcases Zi1 s k with hneg | ⟨e,he,hke,hes⟩
    ·have HF:=Qh (Zdm (hat.bad hlt h32 (.inl hneg)))
     clear hat h32
     go_wp2_with (go_at_call 132;refine (ZdU s k _ (by omega) hlt).mono ?_;rintro e w' ⟨rfl,rfl⟩)
     go_ret2
     exact ZjU HF.out (by simp) hbel
    ·obtain⟨a,cap,rfl,hcm⟩:=hown.slice
     by_cases h60:out.length=60
     ·have HF:=Qh (Zdm (hat.bad hlt h32 (.inr h60)))
      have h60':((out.length:Int)==60)=true:=by simp;omega
      clear hat h32 h60
      go_wp2_with (go_at_call 132;refine (ZdU s k _ (by omega) hlt).mono ?_;rw [he];rintro e w' ⟨rfl,rfl⟩)
      go_ret2
      exact ZjU HF.out (by simp) hbel
     ·have HN:=Qh (hat.tok hlt h32 he h60)
      have HR:=Qh (hfr.snoc (k:=k) (e:=e) (sp:=b) (c:=s[k]) (Nat.le_refl s.size))
      have h60':((out.length:Int)==60)=false:=by simp;omega
      have hsl2:=λ W=>(ZeJ s (k:Int) (e:Int) k e rfl rfl (by omega) (by omega) W)
      clear hat h32 h60
      go_wp2_with (first
       | (go_at_call 132;refine (ZdU s k _ (by omega) hlt).mono ?_;rw [he];rintro e w' ⟨rfl,rfl⟩)
       | (at_builtin;refine ZfA rfl (.tmp 35) (.tmp 43) rfl w.heap.size _ out _ _ _ rfl hown rfl (by omega) hbs ?_;intro v1 w1 hown1 hg1))
      have hbel1:=hbel.grown hg1 hbs hown.mine
      go_roundw
      case rel=>exact⟨e,false,_,hes,rfl,rfl,HN.out,HR.out,hown1,hbel1⟩
      case measure=>simp [intOf];omega
  ·have HF:=Qh (ZeA H0.out (hat.done (by omega)))
   clear hat
   go_wp2
   go_ret2
   obtain⟨fp,h1,h2,_⟩:=Zg7 hown hfr (by omega)
   exact ret_toks (B:=0) HF.out h1 h2 hbel
end Go.Proofs.YtipfpppcbmpjiaaGreat
