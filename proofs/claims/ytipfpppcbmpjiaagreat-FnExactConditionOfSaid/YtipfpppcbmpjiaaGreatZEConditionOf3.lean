/- Texts that the proof of EConditionOf stands on, in one file. -/
import Derived.Test.YtipfpppcbmpjiaaGreatZEConditionOf2
import Derived.Deep.QuietTactic
import Derived.BigQuiet
import Derived.Laws.Cover1
import Derived.Outline
set_option linter.unusedVariables false
set_option maxHeartbeats 16000000
set_option maxRecDepth 100000
set_option linter.unusedSimpArgs false
/- The model's tokens. -/
namespace Go.Proofs.YtipfpppcbmpjiaaGreat
open Go.RowKit
theorem Za8 (c:UInt8) (w:World) :
  Calls Tryz.prog 110 #[.int .u8 (c.toNat:Int)] w λ e w'=>e=.returned (.bool (isDig c))/\w=w':=by
 go_enter Tryz.func110,Tryz.ntmps110
 go_wp2
 all_goals
  go_ret
  exact⟨Zad (by rw [Bool.eq_iff_iff,Zdq];simp <;> omega),rfl⟩
theorem ZaK (c:UInt8) (w:World) :
  Calls Tryz.prog 109 #[.int .u8 (c.toNat:Int)] w λ e w'=>e=.returned (.bool (isLet c))/\w=w':=by
 go_enter Tryz.func109,Tryz.ntmps109
 go_wp2
 all_goals
  go_ret
  exact⟨Zad (by rw [Bool.eq_iff_iff,ZfK];simp <;> omega),rfl⟩
theorem ZeB {c:UInt8} (h:isLet c=true):Zal c=true:=by unfold Zal;rw [h,Bool.true_or]
theorem ZhH {c:UInt8} (h:isLet c=false) (h2:isDig c=false):Zal c=false:=by unfold Zal;rw [h,h2];rfl
theorem ZgK (s:ByteArray) (k0 e:Nat) (w:World) (hs:s.size<=1000000) (he:e<=s.size) (h1:1<=e) (hk0:k0<s.size) :
  Calls Tryz.prog 112 #[.string s,.int .i64 k0,.int .i64 e] w λ r w'=>r=.returned (.bool (decide (bk s (k0+1) (e-1)≠e-1)))/\w=w':=by
 go_enter Tryz.func112,Tryz.ntmps112
 go_wp2
 go_loop [7] (λ i=>∃ k:Nat,k<=s.size+1/\i=.int .i64 k/\bk s k (e-1)=bk s (k0+1) (e-1)) (λ i=>s.size+1-(intOf i).toNat)
 case atStart=>exact⟨k0+1,by omega,by go_num,rfl⟩
 case round =>
  obtain⟨k,hk,rfl,hb⟩:=hrel
  by_cases hlt:k<e-1
  ·have hlt':(k:Int)<(e:Int)-1:=by omega
   have hks:k<s.size:=by omega
   by_cases h92:s[k].toNat=92
   ·have HF:=Qh ((Zii hlt hks h92).symm.trans hb)
    have h92':((s[k].toNat:Int)==92)=true:=by simp;omega
    clear hb h92
    go_wp2
    go_round
    case rel=>exact⟨k+2,by omega,by go_num,HF.out⟩
    case measure=>simp [intOf];omega
   ·have HF:=Qh ((Zij hlt hks h92).symm.trans hb)
    have h92':((s[k].toNat:Int)==92)=false:=by simp;omega
    clear hb h92
    go_wp2
    go_round
    case rel=>exact⟨k+1,by omega,by go_num,HF.out⟩
    case measure=>simp [intOf];omega
  ·have HF:=Qh ((ZjP (s:=s) (k:=k) (e:=e-1) (by omega)).symm.trans hb)
   have hge:¬ (k:Int)<(e:Int)-1:=by omega
   clear hb
   go_wp2
   go_ret
   exact⟨Zad (by rw [← HF.out,Bool.eq_iff_iff];simp;omega),rfl⟩
def NoMark (c:UInt8) (k:Nat):Prop:=∀ j,(h:j<marks1.length)->j<k->marks1[j]≠c
theorem NoMark.zero (c:UInt8):NoMark c 0:=by intro j h hj;omega
theorem NoMark.succ {c:UInt8} {k:Nat} (h:NoMark c k) (hk:k<marks1.length) (hc:marks1[k]≠c):NoMark c (k+1):=by
 intro j hj hjk
 by_cases e:j=k
 ·subst e;exact hc
 ·exact h j hj (by omega)
theorem NoMark.none {c:UInt8} (h:NoMark c 23):¬ c∈marks1:=by
 intro hc
 obtain⟨i,hi,rfl⟩:=List.getElem_of_mem hc
 exact h i hi hi rfl
theorem Zk3 (s:ByteArray) (k:Nat) (w:World) (hs:s.size<=1000000) (hk:k<s.size) :
  Calls Tryz.prog 113 #[.string s,.int .i64 k] w λ e w'=>e=.returned (.int .i64 (mLen s k:Nat))/\∃ n,w'=w.drewN n:=by
 have hsl:∀ W,(Instr.slice 9 (.string s) (some (.int .i64 (k:Int))) (some (.int .i64 (min (s.size:Int) ((k:Int)+2)))) none).run Tryz.prog W=.ok (.string (s.extract k (k+2))) W:=by
  intro W
  rw [ZeJ s _ _ k (min s.size (k+2)) rfl (by omega) (by omega) (by omega) W,ext_min]
 have e1:=Zbp s k 61 61
 have e2:=Zbp s k 33 61
 have e3:=Zbp s k 60 61
 have e4:=Zbp s k 62 61
 have e5:=Zbp s k 38 38
 have e6:=Zbp s k 124 124
 have e7:=Zbp s k 35 35
 rcases eight s k with⟨h1,HT⟩ | ⟨h1,h2,HT⟩ | ⟨h1,h2,h3,HT⟩ | ⟨h1,h2,h3,h4,HT⟩ | ⟨h1,h2,h3,h4,h5,HT⟩ | ⟨h1,h2,h3,h4,h5,h6,HT⟩ | ⟨h1,h2,h3,h4,h5,h6,h7,HT⟩ | ⟨h1,h2,h3,h4,h5,h6,h7,HT⟩
 iterate 7
  ·(try rw [h1] at e1);(try rw [h2] at e2);(try rw [h3] at e3);(try rw [h4] at e4);(try rw [h5] at e5);(try rw [h6] at e6);(try rw [h7] at e7)
   have HF:Hid (mLen s k=2):=by show _=_;unfold mLen;rw [if_pos HT.out]
   go_enter Tryz.func113,Tryz.ntmps113
   go_wp2
   go_ret
   exact⟨Za5 (by rw [HF.out];rfl),0,rfl⟩
 ·rw [h1] at e1;rw [h2] at e2;rw [h3] at e3;rw [h4] at e4;rw [h5] at e5;rw [h6] at e6;rw [h7] at e7
  go_enter Tryz.func113,Tryz.ntmps113
  go_wp2
  go_loopw [7] (λ i wr=>∃ j:Nat,j<=23/\i=.int .i64 j/\NoMark s[k] j/\∃ n,wr=w.drewN n) (λ i _=>23-(intOf i).toNat)
  case atStart=>exact⟨0,by omega,rfl,NoMark.zero _,0,rfl⟩
  case round =>
   obtain⟨j,hj,rfl,hno,n,rfl⟩:=hrel
   by_cases hlt:j<23
   ·have hix:∀ W,(Instr.index 9 (.string ⟨#[43,45,42,47,37,60,62,61,33,38,124,40,41,44,35,59,63,58,123,125,91,93,46]⟩) (.int .i64 (j:Int))).run Tryz.prog W=.ok (.int .u8 ((marks1[j]'hlt).toNat:Int)) W:=by
     intro W
     have h1:(0:Int)<=(j:Int)/\(j:Int)<((⟨#[43,45,42,47,37,60,62,61,33,38,124,40,41,44,35,59,63,58,123,125,91,93,46]⟩:ByteArray).size:Int):=⟨by omega,by show (j:Int)<23;omega⟩
     rw [run_index_string W _ _ .i64 (j:Int) Tryz.underlying9,dif_pos h1]
     rfl
    by_cases hc:marks1[j]'hlt=s[k]
    ·have HF:Hid (mLen s k=1):=Zg6 HT.out hk (hc ▸ List.getElem_mem hlt)
     have hce:(((marks1[j]'hlt).toNat:Int)==(s[k].toNat:Int))=true:=by rw [hc];simp
     clear hc
     go_wp2
     go_quiet (fail)
     go_wp2
     go_ret
     exact⟨Za5 (by rw [HF.out];rfl),_,World.drewN_drewN _ _ _⟩
    ·have HN:=Qh (hno.succ hlt hc)
     have hce:(((marks1[j]'hlt).toNat:Int)==(s[k].toNat:Int))=false:=by
      rw [beq_eq_false_iff_ne];intro h;exact hc (UInt8.toNat_inj.1 (by omega))
     clear hc hno
     go_wp2
     go_quiet (fail)
     go_wp2
     go_roundw
     case rel=>exact⟨j+1,by omega,by go_num,HN.out,_,rfl⟩
     case measure=>simp [intOf];omega
   ·obtain rfl:j=23:=by omega
    have HF:Hid (mLen s k=0):=ZfO HT.out hk hno.none
    go_wp2
    go_ret
    exact⟨Za5 (by rw [HF.out];rfl),_,rfl⟩
theorem sCut_w {s:ByteArray} {k:Nat} (h:k<s.size) (hl:isLet s[k]=true):sCut s k=(1,(wEnd s (k+1):Int)):=by rw [Zdr h (ZeB hl),if_pos hl]
theorem sCut_d {s:ByteArray} {k:Nat} (h:k<s.size) (hl:isLet s[k]=false) (hd:isDig s[k]=true):sCut s k=(2,(wEnd s (k+1):Int)):=by rw [Zdr h (Ze5 hd),if_neg (by simp [hl])]
theorem Zc5 {s:ByteArray} {k:Nat} {a b:Int} (h:sCut s k=(a,b)):Ending.returned (.tuple #[.int .i64 a,.int .i64 b])=.returned (.tuple #[.int .i64 (sCut s k).1,.int .i64 (sCut s k).2]):=by rw [h]
theorem cut_let (s:ByteArray) (k0:Nat) (w:World) (hs:s.size<=1000000) (hk0:k0<s.size) (hl:isLet s[k0]=true) :
  Calls Tryz.prog 78 #[.string s,.int .i64 k0] w λ e w'=>e=.returned (.tuple #[.int .i64 (sCut s k0).1,.int .i64 (sCut s k0).2])/\∃ n,w'=w.drewN n:=by
 have HF:=Qh (sCut_w hk0 hl)
 go_enter Tryz.func78,Tryz.ntmps78
 go_wp2_with (first
  | (go_at_call 109;refine (ZaK _ _).mono ?_;rw [hl];rintro e w' ⟨rfl,rfl⟩))
 go_loop [6] (λ i=>∃ k:Nat,k0+1<=k/\k<=s.size/\i=.int .i64 k/\wEnd s k=wEnd s (k0+1)) (λ i=>s.size-(intOf i).toNat)
 case atStart=>exact⟨k0+1,by omega,by omega,by go_num,rfl⟩
 case round =>
  obtain⟨k,hk1,hk,rfl,he⟩:=hrel
  have HE:=Qh he;clear he
  by_cases hlt:k<s.size
  ·cases hl2:isLet s[k]
   ·cases hd2:isDig s[k]
    ·have HG:=Qh ((ZbG hlt (ZhH hl2 hd2)).symm.trans HE.out)
     go_wp2_with (first
      | (go_at_call 109;refine (ZaK _ _).mono ?_;(first | rw [hl2] | rw [hl]);rintro e w' ⟨rfl,rfl⟩)
      | (go_at_call 110;refine (Za8 _ _).mono ?_;rw [hd2];rintro e w' ⟨rfl,rfl⟩))
     go_ret2
     exact⟨Zc5 (by rw [HF.out,← HG.out]),0,rfl⟩
    ·have HG:=Qh ((Zbq hlt (Ze5 hd2)).symm.trans HE.out)
     go_wp2_with (first
      | (go_at_call 109;refine (ZaK _ _).mono ?_;rw [hl2];rintro e w' ⟨rfl,rfl⟩)
      | (go_at_call 110;refine (Za8 _ _).mono ?_;rw [hd2];rintro e w' ⟨rfl,rfl⟩))
     go_round
     case rel=>exact⟨k+1,by omega,by omega,by go_num,HG.out⟩
     case measure=>simp [intOf];omega
   ·have HG:=Qh ((Zbq hlt (ZeB hl2)).symm.trans HE.out)
    go_wp2_with (first
     | (go_at_call 109;refine (ZaK _ _).mono ?_;rw [hl2];rintro e w' ⟨rfl,rfl⟩))
    go_round
    case rel=>exact⟨k+1,by omega,by omega,by go_num,HG.out⟩
    case measure=>simp [intOf];omega
  ·have HG:=Qh ((ZcC (s:=s) (k:=k) (by omega)).symm.trans HE.out)
   go_wp2_with (first
    | (go_at_call 109;refine (ZaK _ _).mono ?_;rw [hl];rintro e w' ⟨rfl,rfl⟩))
   go_ret2
   exact⟨Zc5 (by rw [HF.out,← HG.out]),0,rfl⟩
theorem cut_dig (s:ByteArray) (k0:Nat) (w:World) (hs:s.size<=1000000) (hk0:k0<s.size) (hl:isLet s[k0]=false) (hd:isDig s[k0]=true) :
  Calls Tryz.prog 78 #[.string s,.int .i64 k0] w λ e w'=>e=.returned (.tuple #[.int .i64 (sCut s k0).1,.int .i64 (sCut s k0).2])/\∃ n,w'=w.drewN n:=by
 have HF:=Qh (sCut_d hk0 hl hd)
 go_enter Tryz.func78,Tryz.ntmps78
 go_wp2_with (first
  | (go_at_call 109;refine (ZaK _ _).mono ?_;rw [hl];rintro e w' ⟨rfl,rfl⟩)
  | (go_at_call 110;refine (Za8 _ _).mono ?_;rw [hd];rintro e w' ⟨rfl,rfl⟩))
 go_loop [6] (λ i=>∃ k:Nat,k0+1<=k/\k<=s.size/\i=.int .i64 k/\wEnd s k=wEnd s (k0+1)) (λ i=>s.size-(intOf i).toNat)
 case atStart=>exact⟨k0+1,by omega,by omega,by go_num,rfl⟩
 case round =>
  obtain⟨k,hk1,hk,rfl,he⟩:=hrel
  have HE:=Qh he;clear he
  by_cases hlt:k<s.size
  ·cases hl2:isLet s[k]
   ·cases hd2:isDig s[k]
    ·have HG:=Qh ((ZbG hlt (ZhH hl2 hd2)).symm.trans HE.out)
     go_wp2_with (first
      | (go_at_call 109;refine (ZaK _ _).mono ?_;(first | rw [hl2] | rw [hl]);rintro e w' ⟨rfl,rfl⟩)
      | (go_at_call 110;refine (Za8 _ _).mono ?_;rw [hd2];rintro e w' ⟨rfl,rfl⟩))
     go_ret2
     exact⟨Zc5 (by rw [HF.out,← HG.out]),0,rfl⟩
    ·have HG:=Qh ((Zbq hlt (Ze5 hd2)).symm.trans HE.out)
     go_wp2_with (first
      | (go_at_call 109;refine (ZaK _ _).mono ?_;rw [hl2];rintro e w' ⟨rfl,rfl⟩)
      | (go_at_call 110;refine (Za8 _ _).mono ?_;rw [hd2];rintro e w' ⟨rfl,rfl⟩))
     go_round
     case rel=>exact⟨k+1,by omega,by omega,by go_num,HG.out⟩
     case measure=>simp [intOf];omega
   ·have HG:=Qh ((Zbq hlt (ZeB hl2)).symm.trans HE.out)
    go_wp2_with (first
     | (go_at_call 109;refine (ZaK _ _).mono ?_;rw [hl2];rintro e w' ⟨rfl,rfl⟩))
    go_round
    case rel=>exact⟨k+1,by omega,by omega,by go_num,HG.out⟩
    case measure=>simp [intOf];omega
  ·have HG:=Qh ((ZcC (s:=s) (k:=k) (by omega)).symm.trans HE.out)
   go_wp2_with (first
    | (go_at_call 109;refine (ZaK _ _).mono ?_;rw [hl];rintro e w' ⟨rfl,rfl⟩))
   go_ret2
   exact⟨Zc5 (by rw [HF.out,← HG.out]),0,rfl⟩
theorem cut_no (s:ByteArray) (k0:Nat) (w:World) (hs:s.size<=1000000) (hk0:k0<s.size) (hw:Zal s[k0]=false) :
  Calls Tryz.prog 78 #[.string s,.int .i64 k0] w λ e w'=>e=.returned (.tuple #[.int .i64 (sCut s k0).1,.int .i64 (sCut s k0).2])/\∃ n,w'=w.drewN n:=by
 have hl:isLet s[k0]=false:=by unfold Zal at hw;rw [Bool.or_eq_false_iff] at hw;exact hw.1
 have hd:isDig s[k0]=false:=by unfold Zal at hw;rw [Bool.or_eq_false_iff] at hw;exact hw.2
 by_cases hq:s[k0].toNat=34
 ·have h34:((s[k0].toNat:Int)==34)=true:=by simp;omega
  cases hc:tClose s (k0+1) with
  |
   some e =>
   have HF:=Qh (Zez hk0 hw hq hc)
   obtain⟨c1,c2,c3,c4,c5⟩:=Za1 hc
   have hb:=ZmJ hc
   have hB:decide (bk s (k0+1) (e-1)≠e-1)=false:=by simp [hb]
   have h5:((s[e-1].toNat:Int) != 34)=false:=by simp;omega
   have h6:((e:Int)-1).toNat=e-1:=by omega
   clear hb hc hq
   go_enter Tryz.func78,Tryz.ntmps78
   go_wp2_with (first
    | (go_at_call 109;refine (ZaK _ _).mono ?_;rw [hl];rintro e w' ⟨rfl,rfl⟩)
    | (go_at_call 110;refine (Za8 _ _).mono ?_;rw [hd];rintro e w' ⟨rfl,rfl⟩)
    | (go_at_call 111;refine (ZgI s k0 _ hs hk0).mono ?_;rw [c3];rintro e w' ⟨rfl,rfl⟩)
    | (go_at_call 112;refine (ZgK s k0 e _ hs c2 (by omega) hk0).mono ?_;rw [hB];rintro e w' ⟨rfl,rfl⟩))
   go_ret2
   exact⟨Zc5 HF.out,0,rfl⟩
  |
   none =>
   have HF:=Qh (ZfN hk0 hw hq hc)
   have c3:=Zk1 hc
   have hord:k0+1=s.size\/(k0+1<s.size/\((s[s.size-1].toNat:Int) != 34)=true)\/(k0+1<s.size/\((s[s.size-1].toNat:Int) != 34)=false/\decide (bk s (k0+1) (s.size-1)≠s.size-1)=true):=by
    by_cases h1:k0+1<s.size
    ·by_cases h2:s[s.size-1].toNat=34
     ·exact .inr (.inr ⟨h1,by simp;omega,by simpa using bk_open hc h1 h2⟩)
     ·exact .inr (.inl ⟨h1,by simp;omega⟩)
    ·exact .inl (by omega)
   clear hc hq
   have h6:((s.size:Int)-1).toNat=s.size-1:=by omega
   go_enter Tryz.func78,Tryz.ntmps78
   rcases hord with h7 | ⟨h7,h5⟩ | ⟨h7,h5,hB⟩
   all_goals
    go_wp2_with (first
     | (go_at_call 109;refine (ZaK _ _).mono ?_;rw [hl];rintro e w' ⟨rfl,rfl⟩)
     | (go_at_call 110;refine (Za8 _ _).mono ?_;rw [hd];rintro e w' ⟨rfl,rfl⟩)
     | (go_at_call 111;refine (ZgI s k0 _ hs hk0).mono ?_;rw [c3];rintro e w' ⟨rfl,rfl⟩)
     | (go_at_call 112;refine (ZgK s k0 s.size _ hs (Nat.le_refl _) (by omega) hk0).mono ?_;rw [hB];rintro e w' ⟨rfl,rfl⟩))
    go_ret2
    exact⟨Zc5 HF.out,0,rfl⟩
 ·have h34:((s[k0].toNat:Int)==34)=false:=by simp;omega
  have HF:=Qh (Zef hk0 hw hq)
  have hml:=(ZfL (s:=s) hk0).2
  clear hq
  go_enter Tryz.func78,Tryz.ntmps78
  go_wp2_with (first
   | (go_at_call 109;refine (ZaK _ _).mono ?_;rw [hl];rintro e w' ⟨rfl,rfl⟩)
   | (go_at_call 110;refine (Za8 _ _).mono ?_;rw [hd];rintro e w' ⟨rfl,rfl⟩)
   | (go_at_call 113;refine (Zk3 s k0 _ hs hk0).mono ?_;rintro e w' ⟨rfl,n,rfl⟩))
  go_ret2
  exact⟨Zc5 (by rw [HF.out];simp),_,rfl⟩
theorem ZhI (s:ByteArray) (k0:Nat) (w:World) (hs:s.size<=1000000) (hk0:k0<s.size) :
  Calls Tryz.prog 78 #[.string s,.int .i64 k0] w λ e w'=>e=.returned (.tuple #[.int .i64 (sCut s k0).1,.int .i64 (sCut s k0).2])/\∃ n,w'=w.drewN n:=by
 cases hw:Zal s[k0]
 ·exact cut_no s k0 w hs hk0 hw
 ·cases h:isLet s[k0]
  ·unfold Zal at hw
   rw [h,Bool.false_or] at hw
   exact cut_dig s k0 w hs hk0 h hw
  ·exact cut_let s k0 w hs hk0 h
theorem TokRow.below {base:Nat} {v:Value} {l:List Tok} {w w':World} (h:TokRow base v l w) (hb:Below w.heap.size w w'):TokRow base v l w':=by
 refine ⟨h.1,?_⟩
 rcases h.2 with h0 | ⟨g,cap,cur,h1,h2,h3,h4⟩
 ·exact .inl h0
 ·exact .inr ⟨g,cap,cur,h1,h2,(hb.block g (Qg h3).1).trans h3,h4⟩
theorem TokRow.empty (w:World):TokRow w.heap.size (.slice (some ⟨w.heap.size,0,none⟩) 0 0) [] (w.alloc (.cells #[] 32)):=
 ⟨rfl,.inr ⟨w.heap.size,0,#[],rfl,Nat.le_refl _,by show (w.heap.push _)[w.heap.size]?=_;simp,Nat.le_refl _,by simp,rfl,rfl⟩⟩
theorem cutGood {s:ByteArray} {k e:Nat} (hk:k<s.size) (he:Zaw s k=e):sCut s k=(cutKind s[k],(e:Int))/\1<=cutKind s[k]/\cutKind s[k]<=4/\(cutKind s[k]<=2->(e:Int)-(k:Int)<=12):=by
 have h:=ZmK hk (by omega)
 rw [he] at h
 obtain⟨h1,h2⟩:=h
 have h3:=ZhC s[k]
 refine ⟨h2,h3.1,h3.2,λ h=>?_⟩
 rw [h2] at h1
 unfold SBad at h1
 simp only at h1
 omega
theorem cutBad {s:ByteArray} {k:Nat} (hk:k<s.size) (h:Zaw s k<0):∃ a b:Int,sCut s k=(a,b)/\(b=k\/b≠k/\a=0\/b≠k/\a=1/\12<b-k\/b≠k/\a=2/\12<b-k):=by
 have h1:=sCut_bad hk h
 unfold SBad at h1
 exact⟨(sCut s k).1,(sCut s k).2,rfl,by omega⟩
theorem ZmS {s:ByteArray} {k:Nat} (hk:k<s.size):0<=(sCut s k).2/\(sCut s k).2<=1000000+s.size:=by
 cases hw:Zal s[k]
 ·by_cases hq:s[k].toNat=34
  ·cases hc:tClose s (k+1) with
   | none=>rw [ZfN hk hw hq hc];constructor <;> simp only <;> omega
   | some e=>have:=Za1 hc;rw [Zez hk hw hq hc];constructor <;> simp only <;> omega
  ·have:=ZfL hk;rw [Zef hk hw hq];constructor <;> simp only <;> omega
 ·have:=(Zey s (k+1)).2 (by omega)
  rw [Zdr hk hw];constructor <;> simp only <;> omega
def ZdW (s:ByteArray) (w:World) (e:Ending) (w':World):Prop:=
 ∃ v,e=.returned (.tuple #[v,.bool (Zar s).2])/\TokRow w.heap.size v (Zar s).1 w'/\Fresh s.size (Zar s).1/\Below w.heap.size w w'
theorem TokRow.emptyAt {base:Nat} (w:World) (h:base<=w.heap.size):TokRow base (.slice (some ⟨w.heap.size,0,none⟩) 0 0) [] (w.alloc (.cells #[] 32)):=
 ⟨rfl,.inr ⟨w.heap.size,0,#[],rfl,h,by show (w.heap.push _)[w.heap.size]?=_;simp,Nat.le_refl _,by simp,rfl,rfl⟩⟩
theorem Zgo {s:ByteArray} (h:Zar s=([],false)) {w W:World} (hb:Below w.heap.size w W) (hs:w.heap.size<=W.heap.size) :
  ZdW s w (.returned (.tuple #[.slice (some ⟨W.heap.size,0,none⟩) 0 0,.bool false])) (W.alloc (.cells #[] 32)):=by
 unfold ZdW;rw [h];exact⟨_,rfl,TokRow.emptyAt W hs,Fresh.nil _,hb.alloc hs _⟩
theorem ZmT {v:Value} {l:List Tok} {s:ByteArray} (h:Zar s=(l,true)) {w w':World} (hr:TokRow w.heap.size v l w') (hf:Fresh s.size l) (hb:Below w.heap.size w w') :
  ZdW s w (.returned (.tuple #[v,.bool true])) w':=by
 unfold ZdW;rw [h];exact⟨v,rfl,hr,hf,hb⟩
theorem Zgz (s:ByteArray) (w:World) (hs:s.size<=maxLen) :
  Calls Tryz.prog 56 #[.string s] w (ZdW s w):=by
 have hm:=hs
 unfold maxLen at hm
 cases h0:ZaL s
 ·have HF:=Qh (Ze3 h0)
  go_enter Tryz.func56,Tryz.ntmps56
  go_wp2_with (go_at_call 77;refine (ZeG _ _ hs).mono ?_;rw [h0];rintro e w' ⟨rfl,rfl⟩)
  go_ret2
  exact Zgo HF.out (Below.refl _ _) (Nat.le_refl _)
 have hsz:=ZdV h0
 have H0:=Qh h0
 go_enter Tryz.func56,Tryz.ntmps56
 go_wp2_with (go_at_call 77;refine (ZeG _ _ hs).mono ?_;rw [h0];rintro e w' ⟨rfl,rfl⟩)
 clear h0
 go_loopw [4,5,6] (λ v sp i wr=>∃ (k:Nat) (b:Bool) (out:List Tok),k<=s.size/\i=.int .i64 k/\sp=.bool b/\AtT s k b out/\Fresh s.size out/\TokRow w.heap.size v out wr/\Below w.heap.size w wr) (λ _ _ i _=>s.size-(intOf i).toNat)
 case atStart=>exact⟨0,false,[],by omega,rfl,rfl,AtT.zero s,Fresh.nil _,TokRow.empty _,(Below.refl _ _).alloc (Nat.le_refl _) _⟩
 case round =>
  obtain⟨k,b,out,hk,rfl,rfl,hat,hfr,hown,hbel⟩:=hrel
  have ho:out.length<=60:=hat.2
  have hbs:=hbel.size
  by_cases hlt:k<s.size
  ·by_cases h32:s[k].toNat=32
   ·have HN:=Qh (hat.space hlt h32)
    have h32':((s[k].toNat:Int)==32)=true:=by simp;omega
    clear hat h32
    go_wp2
    go_roundw
    case rel=>exact⟨k+1,true,out,by omega,by go_num,rfl,HN.out,hfr,hown,hbel⟩
    case measure=>simp [intOf];omega
   ·have h32':((s[k].toNat:Int)==32)=false:=by simp;omega
    have hro:=ZmS hlt
    rcases Zi1 s k with hneg | ⟨e,he,hke,hes⟩
    ·have HF:=Qh (Zdm (hat.bad hlt h32 (.inl hneg)))
     obtain⟨a,b2,hab,hways⟩:=cutBad hlt hneg
     rw [hab] at hro
     have HC:Hid (∀ W,Calls Tryz.prog 78 #[.string s,.int .i64 k] W λ e w'=>e=.returned (.tuple #[.int .i64 a,.int .i64 b2])/\∃ n,w'=W.drewN n):=λ W=>by have:=ZhI s k W (by omega) hlt;rw [hab] at this;exact this
     clear hat h32 hab
     obtain⟨ho1,ho2⟩:=hro
     simp only at ho1 ho2
     rcases hways with h1 | ⟨h1,h2⟩ | ⟨h1,h2,h3⟩ | ⟨h1,h2,h3⟩
     ·subst h1
      go_wp2_with (go_at_call 78;refine (HC.out _).mono ?_;rintro e w' ⟨rfl,n,rfl⟩)
      go_ret2
      exact Zgo HF.out (Zag hbel n) hbs
     all_goals
      subst h2
      have h1':(b2==(k:Int))=false:=by simp;omega
      clear h1
      go_wp2_with (go_at_call 78;refine (HC.out _).mono ?_;rintro e w' ⟨rfl,n,rfl⟩)
      go_ret2
      exact Zgo HF.out (Zag hbel n) hbs
    ·obtain⟨a,cap,rfl,hcm⟩:=hown.slice
     obtain⟨hab,hk1,hk2,hk3⟩:=cutGood hlt he
     have HC:Hid (∀ W,Calls Tryz.prog 78 #[.string s,.int .i64 k] W λ r w'=>r=.returned (.tuple #[.int .i64 (cutKind s[k]),.int .i64 e])/\∃ n,w'=W.drewN n):=λ W=>by have:=ZhI s k W (by omega) hlt;rw [hab] at this;exact this
     have hek:((e:Int)==(k:Int))=false:=by simp;omega
     clear hro hab
     by_cases h60:out.length=60
     ·have HF:=Qh (Zdm (hat.bad hlt h32 (.inr h60)))
      have h60':((out.length:Int)==60)=true:=by simp;omega
      clear hat h32 h60
      generalize cutKind s[k]=K at *
      have hK:(K=1/\(e:Int)-(k:Int)<=12)\/(K=2/\(e:Int)-(k:Int)<=12)\/(K=3/\k<e)\/(K=4/\k<e):=by omega
      clear hk3
      rcases hK with⟨rfl,hk5⟩ | ⟨rfl,hk5⟩ | ⟨rfl,hk5⟩ | ⟨rfl,hk5⟩
      all_goals
       go_wp2_with (go_at_call 78;refine (HC.out _).mono ?_;rintro e w' ⟨rfl,n,rfl⟩)
       go_ret2
       exact Zgo HF.out (Zag hbel n) hbs
     ·have HN:=Qh (hat.tok hlt h32 he h60)
      have HR:=Qh (hfr.snoc (k:=k) (e:=e) (sp:=b) (c:=s[k]) (Nat.le_refl s.size))
      have h60':((out.length:Int)==60)=false:=by simp;omega
      have hsl2:=λ W=>(ZeJ s (k:Int) (e:Int) k e rfl rfl (by omega) (by omega) W)
      clear hat h32 h60
      generalize cutKind s[k]=K at *
      have hK:(K=1/\(e:Int)-(k:Int)<=12)\/(K=2/\(e:Int)-(k:Int)<=12)\/(K=3/\k<e)\/(K=4/\k<e):=by omega
      clear hk3
      rcases hK with⟨rfl,hk5⟩ | ⟨rfl,hk5⟩ | ⟨rfl,hk5⟩ | ⟨rfl,hk5⟩
      all_goals
       go_wp2_with (first
        | (go_at_call 78;refine (HC.out _).mono ?_;rintro e w' ⟨rfl,n,rfl⟩)
        | (at_builtin;refine ZfA rfl (.tmp 57) (.tmp 65) rfl w.heap.size _ out _ _ _ rfl (hown.drew _) rfl (by omega) hbs ?_;intro v1 w1 hown1 hg1))
       have hbel1:=(Zag hbel _).grown hg1 hbs hown.mine
       go_roundw
       case rel=>exact⟨e,false,_,hes,rfl,rfl,HN.out,HR.out,hown1,hbel1⟩
       case measure=>simp [intOf];omega
  ·have HF:=Qh (ZeA H0.out (hat.done (by omega)))
   clear hat
   go_wp2
   go_ret2
   exact ZmT HF.out hown hfr hbel
theorem Zb4 (s:ByteArray) (w:World) (hs:s.size<=maxLen) :
  Calls Tryz.prog 56 #[.string s] w (Zco (Zar s) w):=by
 refine (Zgz s w hs).mono ?_
 rintro e w' ⟨v,rfl,h1,h2,h3⟩
 have hsz:(Zar s).1=[]\/s.size<=200:=by
  cases h0:ZaL s
  ·left;rw [Ze3 h0]
  ·right;exact ZdV h0
 rcases hsz with h | h
 ·rw [h] at h1 h2
  obtain⟨fp,a,b,_⟩:=Zg7 (B:=0) h1 (Fresh.nil _) (by omega)
  exact⟨v,fp,rfl,by rw [h];exact a,b,h3⟩
 ·obtain⟨fp,a,b,_⟩:=Zg7 h1 h2 (by omega)
  exact⟨v,fp,rfl,a,b,h3⟩
theorem Zc6:∀ (x y:List UInt8),Op.bytesLess x y=!(Op.bytesLess y x || y==x)
 | [],[]=>rfl
 | _::_,[]=>by simp [Op.bytesLess]
 | [],_::_=>by simp [Op.bytesLess]
 |
  a::x,b::y=>by
  have ih:=Zc6 x y
  simp only [Op.bytesLess,ih]
  by_cases h:a=b
  ·subst h
   have h1:decide (a<a)=false:=by simp [UInt8.lt_irrefl]
   rw [h1]
   cases hL:Op.bytesLess y x <;> by_cases hE:y=x <;> simp [hE]
  ·have h2:(a==b)=false:=by simp [h]
   have h3:(b==a)=false:=by simp [Ne.symm h]
   have h4:((b::y)==(a::x))=false:=by simp [Ne.symm h]
   rw [h2,h3,h4]
   have:decide (a<b)=!decide (b<a):=by
    by_cases hl:a<b
    ·have:=UInt8.lt_asymm hl;simp [hl,this]
    ·have:b<a:=by
      rw [UInt8.lt_iff_toNat_lt] at hl ⊢
      have:a.toNat≠b.toNat:=λ e=>h (UInt8.toNat_inj.1 e)
      omega
     simp [hl,this]
   rw [this];simp
def sLess (a b:ByteArray):Bool:=Op.bytesLess a.toList b.toList
theorem sLess_no {a b:ByteArray} (h:sLess a b=false):(Op.bytesLess b.toList a.toList || b.toList==a.toList)=true:=by
 unfold sLess at h;rw [Zc6] at h;cases hx:(Op.bytesLess b.toList a.toList || b.toList==a.toList)
 ·rw [hx] at h;exact absurd h (by decide)
 ·rfl
theorem ZmU {a b:ByteArray} (h:sLess a b=true):(Op.bytesLess b.toList a.toList || b.toList==a.toList)=false:=by
 unfold sLess at h;rw [Zc6] at h;simpa using h
theorem ZjV (s:ByteArray):∀ (k:Nat) (sp:Bool) (n:Nat) (l:List Tok),toks s k sp n=some l->k<=s.size->∀ t∈l,t.text.size<=s.size-k:=by
 intro k sp n
 induction k,sp,n using toks.induct (s:=s) with
 |
  case1 k sp n hk h32 ih =>
  intro l h hks t ht
  rw [toks,dif_pos hk,if_pos h32] at h
  have:=ih l h (by omega) t ht
  omega
 |
  case2 k sp n hk h32 hb =>
  intro l h hks t ht
  rw [toks,dif_pos hk,if_neg h32,if_pos hb] at h
  exact absurd h (by simp)
 |
  case3 k sp n hk h32 hb ih =>
  intro l h hks t ht
  rw [toks,dif_pos hk,if_neg h32,if_neg hb] at h
  have hr:=Zbj (s:=s) (k:=k) (by omega)
  rw [Option.map_eq_some_iff] at h
  obtain⟨l',h1,rfl⟩:=h
  rcases List.mem_cons.1 ht with rfl | ht
  ·show (s.extract k (Zaw s k).toNat).size<=_;rw [ByteArray.size_extract];omega
  ·have:=ih l' h1 (by omega) t ht
   omega
 |
  case4 k sp n hk =>
  intro l h hks t ht
  rw [toks,dif_neg hk] at h
  simp only [Qi] at h
  subst h;simp at ht
theorem Zma {s:ByteArray} {t:Tok} {l:List Tok} (h:toks s 0 false 0=some (t::l)) (ht:t.text=s):t.spaced=false:=by
 by_cases h0:0<s.size
 ·by_cases h32:s[0].toNat=32
  ·rw [toks,dif_pos h0,if_pos h32] at h
   have:=ZjV s 1 true 0 _ h (by omega) t (by simp)
   rw [ht] at this
   omega
  ·rw [toks,dif_pos h0,if_neg h32] at h
   split at h
   ·simp at h
   ·rw [Option.map_eq_some_iff] at h
    obtain⟨l',_,h2⟩:=h
    simp only [List.cons.injEq] at h2
    rw [← h2.1]
 ·rw [toks,dif_neg h0] at h;simp at h
theorem Zcx {s:ByteArray} {l:List Tok} (h:Zar s=(l,true)):toks s 0 false 0=some l/\ZaL s=true:=by
 unfold Zar at h
 cases h0:ZaL s
 ·rw [h0,if_neg (by simp)] at h;simp at h
 ·rw [h0,if_pos rfl] at h
  cases h1:toks s 0 false 0 with
  | none=>rw [h1] at h;simp at h
  | some l'=>rw [h1] at h;simp at h;rw [h];exact⟨rfl,rfl⟩
theorem ZfP {s:ByteArray} {l:List Tok} (h:Zar s=(l,false)):l=[]:=by
 unfold Zar at h
 split at h
 ·split at h
  ·simp at h
  ·simp at h;exact h
 ·simp at h;exact h
def Zak (x:ByteArray) (k:Int):Bool:=(Zar x).2 && decide ((Zar x).1.length=1) && (Zar x).1.all (λ t=>decide (t.kind=k) && decide (t.text=x))
theorem ZcD (x:ByteArray) (k:Int) :
  (Zar x=([],false)/\Hid (Zak x k=false)) \/
  (∃ l,Zar x=(l,true)/\l.length≠1/\Hid (Zak x k=false)) \/
  (∃ t,Zar x=([t],true)/\t.kind≠k/\Hid (Zak x k=false)) \/
  (∃ t,Zar x=([t],true)/\t.kind=k/\t.text≠x/\Hid (Zak x k=false)) \/
  (∃ t,Zar x=([t],true)/\t.kind=k/\t.text=x/\t.spaced=false/\Hid (Zak x k=true)):=by
 rcases hr:Zar x with⟨l,ok⟩
 cases ok
 ·obtain rfl:=ZfP hr
  exact .inl ⟨rfl,by simp [Hid,Zak,hr]⟩
 ·by_cases h1:l.length=1
  ·obtain⟨t,rfl⟩:=List.length_eq_one_iff.1 h1
   by_cases h2:t.kind=k
   ·by_cases h3:t.text=x
    ·exact .inr (.inr (.inr (.inr ⟨t,rfl,h2,h3,Zma (Zcx hr).1 h3,by simp [Hid,Zak,hr,h2,h3]⟩)))
    ·exact .inr (.inr (.inr (.inl ⟨t,rfl,h2,h3,by simp [Hid,Zak,hr,h2,h3]⟩)))
   ·exact .inr (.inr (.inl ⟨t,rfl,h2,by simp [Hid,Zak,hr,h2]⟩))
  ·exact .inr (.inl ⟨l,rfl,h1,by simp [Hid,Zak,hr,h1]⟩)
def ZaV (l:List ByteArray) (i:Nat):Bool:=if h:i<l.length then Zak l[i] 1 && (decide (i=0) || sLess (l[i-1]'(by omega)) l[i]) else true
def hidOk (l:List ByteArray):Bool:=decide (l.length<=60) && (List.range l.length).all (ZaV l)
def HidUpto (l:List ByteArray) (k:Nat):Prop:=∀ j,j<k->ZaV l j=true
theorem HidUpto.zero (l:List ByteArray):HidUpto l 0:=by intro j h;omega
theorem HidUpto.succ {l:List ByteArray} {k:Nat} (h:HidUpto l k) (h1:ZaV l k=true):HidUpto l (k+1):=by
 intro j hj
 by_cases e:j=k
 ·subst e;exact h1
 ·exact h j (by omega)
theorem ZhJ {l:List ByteArray} (h:60<l.length):hidOk l=false:=by unfold hidOk;rw [decide_eq_false (by omega)];rfl
theorem ZcE {l:List ByteArray} {k:Nat} (hk:k<l.length) (h:ZaV l k=false):hidOk l=false:=by
 unfold hidOk
 have:(List.range l.length).all (ZaV l)=false:=by
  rw [List.all_eq_false];exact⟨k,by simpa using hk,by simp [h]⟩
 rw [this,Bool.and_false]
theorem ZfQ {l:List ByteArray} {k:Nat} (h:HidUpto l k) (hk:l.length<=k) (hl:l.length<=60):hidOk l=true:=by
 unfold hidOk
 rw [decide_eq_true hl,Bool.true_and,List.all_eq_true]
 intro i hi
 have:i<l.length:=by simpa using hi
 exact h i (by omega)
theorem ZcR {l:List ByteArray} {k:Nat} (hk:k<l.length) (h:Zak l[k] 1=false):ZaV l k=false:=by unfold ZaV;rw [dif_pos hk,h];rfl
theorem ZhK {l:List ByteArray} {k:Nat} (hk:k<l.length) (h0:0<k) (h:sLess (l[k-1]'(by omega)) l[k]=false):ZaV l k=false:=by
 unfold ZaV;rw [dif_pos hk,h,decide_eq_false (by omega)];simp
theorem ZgL {l:List ByteArray} (hk:0<l.length) (h:Zak l[0] 1=true):ZaV l 0=true:=by unfold ZaV;rw [dif_pos hk,h];simp
theorem ZgM {l:List ByteArray} {k:Nat} (hk:k<l.length) (h0:0<k) (h:Zak l[k] 1=true) (h2:sLess (l[k-1]'(by omega)) l[k]=true):ZaV l k=true:=by
 unfold ZaV;rw [dif_pos hk,h,h2];simp
theorem hid_ways {l:List ByteArray} {k:Nat} (hk:k<l.length) :
  (Zak l[k] 1=false/\Hid (ZaV l k=false))\/(Zak l[k] 1=true/\k=0/\Hid (ZaV l k=true)) \/
  (∃ hp:0<k,Zak l[k] 1=true/\sLess (l[k-1]'(by omega)) l[k]=false/\Hid (ZaV l k=false)) \/
  (∃ hp:0<k,Zak l[k] 1=true/\sLess (l[k-1]'(by omega)) l[k]=true/\Hid (ZaV l k=true)):=by
 cases h:Zak l[k] 1
 ·exact .inl ⟨rfl,ZcR hk h⟩
 ·by_cases h0:k=0
  ·subst h0;exact .inr (.inl ⟨rfl,rfl,ZgL hk h⟩)
  ·cases h2:sLess (l[k-1]'(by omega)) l[k]
   ·exact .inr (.inr (.inl ⟨by omega,rfl,h2,ZhK hk (by omega) h2⟩))
   ·exact .inr (.inr (.inr ⟨by omega,rfl,h2,ZgM hk (by omega) h h2⟩))
def tokOk (t:Tok):Bool:=Zak t.text t.kind && hidOk t.hidden
theorem Zab (w:World) (o:Obj):Below w.heap.size w (w.alloc o):=(Below.refl _ _).alloc (Nat.le_refl _) _
theorem Zae {w:World} {b off m i j:Nat} {es:List Value} {v:Value} (h:ElemAt w b off m i es) (hj:j<m) (hv:es[j]?=some v):w.cell? ⟨b,off+i * m+j,none⟩=some v:=(h.2 j hj).trans hv
theorem Zam {w:World} {b off m i:Nat} {es:List Value} {v:Value} (h:ElemAt w b off m i es) (hj:0<m) (hv:es[0]?=some v):w.cell? ⟨b,off+i * m,none⟩=some v:=(h.2 0 hj).trans hv
theorem Zai {w:World} {g:Nat} {cs:Array Value} {t:TypeId} {fr:Nat × Nat} (h:w.heap[g]?=some (.cells cs t fr)) (j:Nat) (v:Value):(w.setCell ⟨g,j,none⟩ v).heap[g]?=some (.cells (cs.setIfInBounds j v) t fr):=by
 simp [World.setCell,Array.getElem?_modify,h]
theorem Zaz {w:World} {g g':Nat} {o:Obj} (h:w.heap[g]?=some o) (hn:g≠g') (j:Nat) (v:Value):(w.setCell ⟨g',j,none⟩ v).heap[g]?=some o:=
 (Below.heap_setCell _ _ _ _ hn).trans h
def Zb5 (w:World) (os:List Obj):World:=os.foldl World.alloc w
theorem ZgN (os:List Obj):∀ w:World,(Zb5 w os).heap.toList=w.heap.toList++os:=by
 induction os with
 | nil=>intro w;simp [Zb5]
 |
  cons o os ih =>
  intro w
  show (Zb5 (w.alloc o) os).heap.toList=_
  rw [ih]
  show (w.heap.push o).toList++os=_
  simp
theorem Zk4 (w:World) (os:List Obj):(Zb5 w os).heap.size=w.heap.size+os.length:=by
 have:=congrArg List.length (ZgN os w)
 simpa using this
theorem Zmb (w:World) (os:List Obj) (j:Nat) (hj:j<os.length):(Zb5 w os).heap[w.heap.size+j]?=some os[j]:=by
 rw [← Array.getElem?_toList,ZgN,List.getElem?_append_right (by simp)]
 simp [List.getElem?_eq_getElem hj]
theorem ZfR {B:Nat} {w0:World} (os:List Obj):∀ w:World,Below B w0 w->B<=w.heap.size->Below B w0 (Zb5 w os):=by
 induction os with
 | nil=>intro w h _;exact h
 |
  cons o os ih =>
  intro w h hs
  exact ih (w.alloc o) (h.alloc hs o) (by show B<=(w.heap.push o).size;simp;omega)
theorem Zcp (w:World) (c0 c1 c2:Array Value) (t0 t1 t2:TypeId) :
  (((w.alloc (.cells c0 t0)).alloc (.cells c1 t1)).alloc (.cells c2 t2)).heap[w.heap.size+1]?=some (.cells c1 t1 (0,0)) /\
  (((w.alloc (.cells c0 t0)).alloc (.cells c1 t1)).alloc (.cells c2 t2)).heap[w.heap.size+1+1]?=some (.cells c2 t2 (0,0)) /\
  (((w.alloc (.cells c0 t0)).alloc (.cells c1 t1)).alloc (.cells c2 t2)).heap.size=w.heap.size+1+1+1:=by
 refine ⟨?_,?_,?_⟩
 ·show (((w.heap.push _).push _).push _)[_]?=_
  rw [Array.getElem?_push,if_neg (by simp),Array.getElem?_push,if_pos (by simp)]
 ·show (((w.heap.push _).push _).push _)[_]?=_
  rw [Array.getElem?_push,if_pos (by simp)]
 ·show (((w.heap.push _).push _).push _).size=_
  simp
theorem ZeL (w:World) (c0 c1 c2:Array Value) (t0 t1 t2:TypeId):Below w.heap.size w (((w.alloc (.cells c0 t0)).alloc (.cells c1 t1)).alloc (.cells c2 t2)):=
 (((Below.refl _ _).alloc (Nat.le_refl _) _).alloc (by simp) _).alloc (by simp;omega) _
structure Turned (b lo hi:Nat) (fp:List Nat) (w w':World):Prop where
 kept:Kept (b::fp) w w'
 cells:∀ o,(o<lo\/hi<=o)->w'.cell? ⟨b,o,none⟩=w.cell? ⟨b,o,none⟩
section
variable {b lo hi:Nat} {fp:List Nat} {w w1 w2:World}
theorem Turned.refl (b lo hi:Nat) (fp:List Nat) (w:World):Turned b lo hi fp w w:=⟨Kept.refl _ _,λ _ _=>rfl⟩
theorem Turned.set (h:Turned b lo hi fp w w1) {o:Nat} (h1:lo<=o) (h2:o<hi) (v:Value):Turned b lo hi fp w (w1.setCell ⟨b,o,none⟩ v):=
 ⟨h.kept.setCell (p:=⟨b,o,none⟩) (by simp) v,λ o' ho=>by
  rw [World.cell?_setCell_other _ _ _ _ (by intro hh;simp only [Addr.mk.injEq] at hh;omega)]
  exact h.cells o' ho⟩
theorem Turned.below (h:Turned b lo hi fp w w1) (hb:b<w.heap.size) (hB:Below w1.heap.size w1 w2):Turned b lo hi fp w w2:=
 ⟨h.kept.trans (Kept.of_below hB),λ o ho=>(hB.cell (p:=⟨b,o,none⟩) (Nat.lt_of_lt_of_le hb h.kept.size)).trans (h.cells o ho)⟩
theorem Turned.sub (h:Turned b lo hi fp w w1) (hb:b<w.heap.size) (hk:Kept fp w1 w2) (hn:b∉fp):Turned b lo hi fp w w2:=
 ⟨h.kept.trans (hk.mono λ x hx=>by simp [hx]),λ o ho=>(World.cell?_of_block (a:=⟨b,o,none⟩) (hk.block b (Nat.lt_of_lt_of_le hb h.kept.size) hn)).trans (h.cells o ho)⟩
theorem Turned.sub' {fp':List Nat} (h:Turned b lo hi fp w w1) (hb:b<w.heap.size) (hk:Kept fp' w1 w2) (hs:∀ x∈fp',x∈fp) (hn:b∉fp):Turned b lo hi fp w w2:=
 h.sub hb (hk.mono hs) hn
end
theorem Own.part {w w':World} {lo:Nat} {fp fp':List Nat} (h:Own w lo fp) (hk:Kept fp' w w') (h':Own w' lo fp'):Own w' lo fp:=
 ⟨h.1,λ b hb=>by
  by_cases hx:b∈fp'
  ·exact h'.2 b hx
  ·obtain⟨h1,cur,e,h2⟩:=h.2 b hb
   exact⟨h1,cur,e,(hk.block b (Qg h2).1 hx).trans h2⟩⟩
theorem Own.lower {w:World} {lo lo':Nat} {fp:List Nat} (h:Own w lo fp) (hl:lo'<=lo):Own w lo' fp:=⟨h.1,λ b hb=>⟨Nat.le_trans hl (h.2 b hb).1,(h.2 b hb).2⟩⟩
theorem Own.sub {w:World} {lo:Nat} {fp fp':List Nat} (h:Own w lo fp) (hn:fp'.Nodup) (hs:∀ x∈fp',x∈fp):Own w lo fp':=⟨hn,λ b hb=>h.2 b (hs b hb)⟩
theorem ElemAt.set {w:World} {b off m i:Nat} {es:List Value} (h:ElemAt w b off m i es) {j:Nat} (hj:j<m) (v:Value):ElemAt (w.setCell ⟨b,off+i * m+j,none⟩ v) b off m i (es.set j v):=by
 refine ⟨by simpa using h.1,λ x hx=>?_⟩
 by_cases e:x=j
 ·subst e
  rw [List.getElem?_set_self (by have:=h.1;omega)]
  obtain⟨u,hu⟩:∃ u,w.cell? ⟨b,off+i * m+x,none⟩=some u:=⟨es[x]'(by have:=h.1;omega),by rw [h.2 x hx,List.getElem?_eq_getElem]⟩
  exact World.cell?_setCell_same _ _ _ hu
 ·rw [List.getElem?_set_ne (λ h=>e h.symm),World.cell?_setCell_other _ _ _ _ (by intro hh;simp only [Addr.mk.injEq] at hh;omega)]
  exact h.2 x hx
structure Wr (b off m j lo:Nat) (fpj fpA:List Nat) (wr W:World) (es:List Value):Prop where
 t:Turned b (off+j * m) (off+j * m+m) fpj wr W
 e:ElemAt W b off m j es
 o:Own W lo fpA
 hb:b<wr.heap.size
 hA:b∈fpA
 hN:b∉fpj
section
variable {b off m j lo:Nat} {fpj fpA:List Nat} {wr W W':World} {es:List Value}
theorem Wr.set (h:Wr b off m j lo fpj fpA wr W es) (i:Nat) (hi:i<m) (v:Value):Wr b off m j lo fpj fpA wr (W.setCell ⟨b,off+j * m+i,none⟩ v) (es.set i v):=
 ⟨h.t.set (by omega) (by omega) v,h.e.set hi v,h.o.setCell _ _,h.hb,h.hA,h.hN⟩
theorem Wr.below (h:Wr b off m j lo fpj fpA wr W es) (hB:Below W.heap.size W W'):Wr b off m j lo fpj fpA wr W' es:=
 ⟨h.t.below h.hb hB,h.e.frame (hB.block b (Nat.lt_of_lt_of_le h.hb h.t.kept.size)),h.o.grow hB,h.hb,h.hA,h.hN⟩
theorem Wr.sub {fp':List Nat} (h:Wr b off m j lo fpj fpA wr W es) (hk:Kept fp' W W') (ho:Own W' lo fp') (hs:∀ x∈fp',x∈fpj):Wr b off m j lo fpj fpA wr W' es:=
 ⟨h.t.sub' h.hb hk hs h.hN,h.e.frame (hk.block b (Nat.lt_of_lt_of_le h.hb h.t.kept.size) λ hx=>h.hN (hs b hx)),h.o.part hk ho,h.hb,h.hA,h.hN⟩
theorem Wr.cell (h:Wr b off m j lo fpj fpA wr W es) (i:Nat) {v:Value} (hi:i<m) (hv:es[i]?=some v):W.cell? ⟨b,off+j * m+i,none⟩=some v:=Zae h.e hi hv
theorem Shape.setB {α:Type} (S:Shape α) {cs:List Value} {d:α} {fp:List Nat} {b:Nat} (h:S.R W cs d fp) (hn:b∉fp) (o:Nat) (v:Value):S.R (W.setCell ⟨b,o,none⟩ v) cs d fp:=
 S.kept (fp:=[b]) h (λ x hx he=>by rw [List.mem_singleton] at he;exact hn (he ▸ hx)) ((Kept.refl _ _).setCell (p:=⟨b,o,none⟩) (by simp) v)
end
def mkAll {α:Type} (f:Int->α->α) (c:α->Nat):Int->List α->List α
 | _,[]=>[]
 | k,x::l=>f k x::mkAll f c (k+c x) l
def ZeM {α:Type} (c:α->Nat) (l:List α):Nat:=(l.map c).sum
section
variable {α:Type} {f:Int->α->α} {c:α->Nat}
theorem ZfS:∀ (k:Int) (l:List α),(mkAll f c k l).length=l.length
 | _,[]=>rfl
 | k,x::l=>by simp [mkAll,ZfS (k+c x) l]
theorem Zi4:∀ {l:List α} (k:Int) (j:Nat) (h:j<l.length),(mkAll f c k l)[j]'(by rw [ZfS];exact h)=f (k+ZeM c (l.take j)) l[j]
 | [],_,_,h=>by simp at h
 | x::l,k,0,_=>by simp [mkAll,ZeM]
 |
  x::l,k,j+1,h=>by
  have ih:=Zi4 (l:=l) (k+c x) j (by simpa using h)
  have e:k+(c x:Int)+(ZeM c (l.take j):Int)=k+(ZeM c ((x::l).take (j+1)):Int):=by
   simp only [ZeM,List.take_succ_cons,List.map_cons,List.sum_cons];omega
  rw [e] at ih
  exact ih
def MkUpto (f:Int->α->α) (c:α->Nat) (k:Int) (l:List α) (j:Nat) (L:List α):Prop:=
 L.length=l.length/\∀ i,(h:i<L.length)->(h':i<l.length)->L[i]=if i<j then f (k+ZeM c (l.take i)) l[i] else l[i]
theorem MkUpto.len {k:Int} {l L:List α} {j:Nat} (h:MkUpto f c k l j L):L.length=l.length:=h.1
theorem MkUpto.at {k:Int} {l L:List α} {j:Nat} (h:MkUpto f c k l j L) (hj:j<l.length):L[j]'(by rw [h.1];exact hj)=l[j]:=by
 rw [h.2 j (by rw [h.1];exact hj) hj,if_neg (by omega)]
theorem MkUpto.done {k:Int} {l L:List α} {j:Nat} (h:MkUpto f c k l j L) (hj:l.length<=j):L=mkAll f c k l:=by
 refine List.ext_getElem (by rw [ZfS,h.1]) λ i h1 h2=>?_
 have hl:i<l.length:=by rw [← h.1];exact h1
 rw [h.2 i h1 hl,if_pos (by omega),Zi4 k i hl]
end
theorem Za9 {w:World} {v:Value} {t:Tok} {fp:List Nat} (H:(Zaa sTok).R w [v] [t] fp) :
  ∃ b off cap h,v=.slice (some ⟨b,off,none⟩) 1 cap/\cap<=maxLen/\1<=cap/\b<w.heap.size/\w.cell? ⟨b,off,none⟩=some (.int .i64 t.kind)/\w.cell? ⟨b,off+1,none⟩=some (.string t.text)/\w.cell? ⟨b,off+2,none⟩=some (.bool t.spaced)/\w.cell? ⟨b,off+3,none⟩=some h/\okInt t.kind/\okStr t.text:=by
 obtain⟨a,cap,rfl,hc,hm,h⟩:=Zac H
 obtain⟨b,off,fps,rfl,hb,_,he⟩:=h (by simp)
 obtain⟨es,⟨h1,h2⟩,hh,h3,h4,h5,h6⟩:=he 0 (by simp)
 subst h3
 have g:=λ j (hj:j<4)=>h2 j hj
 refine ⟨b,off,cap,hh,rfl,hm,by simpa using hc,hb,?_,?_,?_,?_,h4,h5⟩
 ·simpa using g 0 (by omega)
 ·simpa [Nat.add_assoc] using g 1 (by omega)
 ·simpa [Nat.add_assoc] using g 2 (by omega)
 ·simpa [Nat.add_assoc] using g 3 (by omega)
def Says (b:Bool) (w:World) (e:Ending) (w':World):Prop:=e=.returned (.bool b)/\Below w.heap.size w w'
theorem Zcb (x:ByteArray) (k:Int) (w:World) (hs:x.size<=maxLen) :
  Calls Tryz.prog 79 #[.string x,.int .i64 k] w (Says (Zak x k) w):=by
 have HT:Hid (∀ W,Calls Tryz.prog 114 #[.string x] W (Zco (Zar x) W)):=λ W=>ZfB x W hs
 go_enter Tryz.func79,Tryz.ntmps79
 rcases ZcD x k with⟨hr,HF⟩ | ⟨l,hr,hl,HF⟩ | ⟨t,hr,hk,HF⟩ | ⟨t,hr,hk,hx,HF⟩ | ⟨t,hr,hk,hx,_,HF⟩
 ·rw [hr] at HT
  clear hr
  go_wp2_with (go_at_call 114;refine (HT.out _).mono ?_;rintro e w' ⟨v,fp,rfl,hR,hO,hB⟩)
  go_ret
  exact⟨Zad HF.out.symm,hB⟩
 ·rw [hr] at HT
  have hl':((l.length:Int) != 1)=true:=by simp;omega
  clear hr hl
  go_wp2_with (go_at_call 114;refine (HT.out _).mono ?_;rintro e w' ⟨v,fp,rfl,hR,hO,hB⟩;obtain⟨a,cap,rfl,_,_,_⟩:=Zac hR)
  go_ret
  exact⟨Zad HF.out.symm,hB⟩
 ·rw [hr] at HT
  have hk':(t.kind==k)=false:=by simp [hk]
  clear hr hk
  go_wp2_with (go_at_call 114;refine (HT.out _).mono ?_;rintro e w' ⟨v,fp,rfl,hR,hO,hB⟩;obtain⟨b,off,cap,h,rfl,hc1,hc2,hb,h0,h1,h2,h3,_,_⟩:=Za9 hR)
  go_ret
  exact⟨Zad HF.out.symm,hB⟩
 ·rw [hr] at HT
  have hk':(t.kind==k)=true:=by simp [hk]
  have hx':(t.text.toList==x.toList)=false:=ZbH hx
  clear hr hk hx
  go_wp2_with (go_at_call 114;refine (HT.out _).mono ?_;rintro e w' ⟨v,fp,rfl,hR,hO,hB⟩;obtain⟨b,off,cap,h,rfl,hc1,hc2,hb,h0,h1,h2,h3,_,_⟩:=Za9 hR)
  go_ret
  exact⟨Zad HF.out.symm,hB⟩
 ·rw [hr] at HT
  have hk':(t.kind==k)=true:=by simp [hk]
  have hx':(t.text.toList==x.toList)=true:=Zbm hx
  clear hr hk hx
  go_wp2_with (go_at_call 114;refine (HT.out _).mono ?_;rintro e w' ⟨v,fp,rfl,hR,hO,hB⟩;obtain⟨b,off,cap,h,rfl,hc1,hc2,hb,h0,h1,h2,h3,_,_⟩:=Za9 hR)
  go_ret
  exact⟨Zad HF.out.symm,hB⟩
theorem Zg8 (v:Value) (l:List ByteArray) (fp:List Nat) (w:World) (H:(Zaa sStr).R w [v] l fp) :
  Calls Tryz.prog 83 #[v] w (Says (hidOk l) w):=by
 obtain⟨a,cap,rfl,hc,hm,hcell,hsz⟩:=Zaf H
 unfold maxLen at hm
 by_cases hl:60<l.length
 ·have HF:=Qh (ZhJ hl)
  go_enter Tryz.func83,Tryz.ntmps83
  go_wp2
  go_ret
  exact⟨Zad HF.out.symm,Below.refl _ _⟩
 ·go_enter Tryz.func83,Tryz.ntmps83
  go_wp2
  go_loopw [10] (λ i wr=>∃ k:Nat,k<=l.length/\i=.int .i64 k/\HidUpto l k/\Below w.heap.size w wr) (λ i _=>l.length-(intOf i).toNat)
  case atStart=>exact⟨0,by omega,rfl,HidUpto.zero _,Below.refl _ _⟩
  case round =>
   obtain⟨k,hk,rfl,hall,hbel⟩:=hrel
   by_cases hlt:k<l.length
   ·obtain⟨b,off,rfl,hb,_,hc2⟩:=hcell (by omega)
    have hck:=(hbel.cell (p:=⟨b,off+k,none⟩) hb).trans (hc2 k hlt)
    have hsk:=hsz k hlt
    have hbr:b<wr.heap.size:=Nat.lt_of_lt_of_le hb hbel.size
    have HC:Hid (∀ W,Calls Tryz.prog 79 #[.string l[k],.int .i64 1] W (Says (Zak l[k] 1) W)):=λ W=>Zcb l[k] 1 W hsk
    rcases hid_ways hlt with⟨h1,HF⟩ | ⟨h1,h0,HN⟩ | ⟨hp,h1,h2,HF⟩ | ⟨hp,h1,h2,HN⟩
    ·rw [h1] at HC
     have HG:=Qh (ZcE hlt HF.out)
     clear h1 hc2 hall
     go_wp2_with (go_at_call 79;refine (HC.out _).mono ?_;rintro e w1 ⟨rfl,hb1⟩)
     go_ret
     exact⟨Zad HG.out.symm,hbel.trans (hb1.mono hbel.size)⟩
    ·rw [h1] at HC
     have HG:=Qh (hall.succ HN.out)
     have h0':¬ (0:Int)<(k:Int):=by omega
     clear h1 h0 hc2 hall
     go_wp2_with (go_at_call 79;refine (HC.out _).mono ?_;rintro e w1 ⟨rfl,hb1⟩)
     go_roundw
     case rel=>exact⟨k+1,by omega,by go_num,HG.out,hbel.trans (hb1.mono hbel.size)⟩
     case measure=>simp [intOf];omega
    ·rw [h1] at HC
     have HG:=Qh (ZcE hlt HF.out)
     have hcp:=(hbel.cell (p:=⟨b,off+(k-1),none⟩) hb).trans (hc2 (k-1) (by omega))
     have h6:((k:Int)-1).toNat=k-1:=by omega
     have h0':(0:Int)<(k:Int):=by omega
     have h2':Op.bytesLess (l[k-1]'(by omega)).toList l[k].toList=false:=h2
     clear h1 h2 hc2 hall
     go_wp2_with (go_at_call 79;refine (HC.out _).mono ?_;rintro e w1 ⟨rfl,hb1⟩;have hcp1:=(hb1.cell (p:=⟨b,off+(k-1),none⟩) hbr).trans hcp)
     go_ret
     exact⟨Zad HG.out.symm,hbel.trans (hb1.mono hbel.size)⟩
    ·rw [h1] at HC
     have HG:=Qh (hall.succ HN.out)
     have hcp:=(hbel.cell (p:=⟨b,off+(k-1),none⟩) hb).trans (hc2 (k-1) (by omega))
     have h6:((k:Int)-1).toNat=k-1:=by omega
     have h0':(0:Int)<(k:Int):=by omega
     have h2':Op.bytesLess (l[k-1]'(by omega)).toList l[k].toList=true:=h2
     clear h1 h2 hc2 hall
     go_wp2_with (go_at_call 79;refine (HC.out _).mono ?_;rintro e w1 ⟨rfl,hb1⟩;have hcp1:=(hb1.cell (p:=⟨b,off+(k-1),none⟩) hbr).trans hcp)
     go_roundw
     case rel=>exact⟨k+1,by omega,by go_num,HG.out,hbel.trans (hb1.mono hbel.size)⟩
     case measure=>simp [intOf];omega
   ·have HG:=Qh (ZfQ hall (by omega) (by omega))
    clear hall
    go_wp2
    go_ret
    exact⟨Zad HG.out.symm,hbel⟩
theorem ZgA (t:Tok) (h:Value) (fp:List Nat) (w:World) (ht:okStr t.text) (H:(Zaa sStr).R w [h] t.hidden fp) :
  Calls Tryz.prog 59 #[.agg #[.int .i64 t.kind,.string t.text,.bool t.spaced,h]] w (Says (tokOk t) w):=by
 have HF:Hid (tokOk t=(Zak t.text t.kind && hidOk t.hidden)):=rfl
 have HC:Hid (∀ W,Calls Tryz.prog 79 #[.string t.text,.int .i64 t.kind] W (Says (Zak t.text t.kind) W)):=λ W=>Zcb t.text t.kind W ht
 have HD:Hid (∀ W,Below w.heap.size w W->Calls Tryz.prog 83 #[h] W (Says (hidOk t.hidden) W)):=λ W hb=>Zg8 h t.hidden fp W ((Zaa sStr).below H hb)
 go_enter Tryz.func59,Tryz.ntmps59
 have hb0:=Zab w (.cells #[.int .i64 t.kind,.string t.text,.bool t.spaced,h] 32)
 cases h1:Zak t.text t.kind
 ·rw [h1] at HC HF
  clear h1
  go_wp2_with (go_at_call 79;refine (HC.out _).mono ?_;rintro e w1 ⟨rfl,hb1⟩)
  go_ret
  exact⟨Zad (by rw [HF.out];rfl),hb0.trans (hb1.mono hb0.size)⟩
 ·rw [h1] at HC HF
  clear h1
  go_wp2_with (first
   | (go_at_call 79;refine (HC.out _).mono ?_;rintro e w1 ⟨rfl,hb1⟩;have hcd:=(hb1.cell (p:=⟨w.heap.size,3,none⟩) (by simp)))
   | (go_at_call 83;refine (HD.out _ (hb0.trans (hb1.mono hb0.size))).mono ?_;rintro e w2 ⟨rfl,hb2⟩))
  go_ret
  exact⟨Zad (by rw [HF.out];rfl),hb0.trans ((hb1.trans (hb2.mono hb1.size)).mono hb0.size)⟩
theorem ZcS (cs:List Value) (x:Tok) (fp:List Nat) (w:World) (H:sTok.R w cs x fp):Calls Tryz.prog 59 #[.agg cs.toArray] w (Says (tokOk x) w):=by
 obtain⟨h,rfl,_,hok,K⟩:=H
 exact ZgA x h fp w hok K
theorem tokOk_a {t:Tok} (h:Zak t.text t.kind=false):tokOk t=false:=by unfold tokOk;rw [h];rfl
theorem ZdJ {t:Tok} (h:hidOk t.hidden=false):tokOk t=false:=by unfold tokOk;rw [h,Bool.and_false]
theorem tokOk_c {t:Tok} (h:Zak t.text t.kind=true) (h':hidOk t.hidden=true):tokOk t=true:=by unfold tokOk;rw [h,h'];rfl
section
variable {w w1:World} {ty:TypeId} {v0 v1 v2 v3:Value}
theorem box0 (hB:Below (w.alloc (.cells #[v0,v1,v2,v3] ty)).heap.size (w.alloc (.cells #[v0,v1,v2,v3] ty)) w1):w1.cell? ⟨w.heap.size,0,none⟩=some v0:=(hB.cell (by simp)).trans (by rw [World.cell?_alloc_at _ _ _ _ rfl];rfl)
theorem box1 (hB:Below (w.alloc (.cells #[v0,v1,v2,v3] ty)).heap.size (w.alloc (.cells #[v0,v1,v2,v3] ty)) w1):w1.cell? ⟨w.heap.size,1,none⟩=some v1:=(hB.cell (by simp)).trans (by rw [World.cell?_alloc_at _ _ _ _ rfl];rfl)
theorem box3 (hB:Below (w.alloc (.cells #[v0,v1,v2,v3] ty)).heap.size (w.alloc (.cells #[v0,v1,v2,v3] ty)) w1):w1.cell? ⟨w.heap.size,3,none⟩=some v3:=(hB.cell (by simp)).trans (by rw [World.cell?_alloc_at _ _ _ _ rfl];rfl)
end
theorem ZfT (t:Tok) (h:Value) (fp:List Nat) (w:World) (ht:okStr t.text) (H:(Zaa sStr).R w [h] t.hidden fp) (hone:Zak t.text t.kind=false) :
  Calls Tryz.prog 68 #[.agg #[.int .i64 t.kind,.string t.text,.bool t.spaced,h]] w (Says (tokOk t) w):=by
 have HT:Hid (∀ W,Calls Tryz.prog 56 #[.string t.text] W (Zco (Zar t.text) W)):=λ W=>Zb4 t.text W ht
 have HF:=Qh (tokOk_a hone)
 have hb0:=Zab w (.cells #[.int .i64 t.kind,.string t.text,.bool t.spaced,h] 32)
 rcases ZcD t.text t.kind with⟨hr,HG⟩ | ⟨l,hr,hl,HG⟩ | ⟨t',hr,hk,HG⟩ | ⟨t',hr,hk,hx,HG⟩ | ⟨t',hr,hk,hx,_,HG⟩
 ·rw [hr] at HT
  clear hr hone
  go_enter Tryz.func68,Tryz.ntmps68
  go_wp2_with (go_at_call 56;refine (HT.out _).mono ?_;rintro e w' ⟨v,fp,rfl,hR,hO,hB⟩)
  go_quiet (fail)
  go_wp2
  go_ret
  exact⟨Zad HF.out.symm,Zag (hb0.trans (hB.mono hb0.size)) _⟩
 ·rw [hr] at HT
  have hl':((l.length:Int) != 1)=true:=by simp;omega
  clear hr hone hl
  go_enter Tryz.func68,Tryz.ntmps68
  go_wp2_with (go_at_call 56;refine (HT.out _).mono ?_;rintro e w' ⟨v,fp,rfl,hR,hO,hB⟩;obtain⟨a,cap,rfl,_,_,_⟩:=Zac hR)
  go_quiet (fail)
  go_wp2
  go_ret
  exact⟨Zad HF.out.symm,Zag (hb0.trans (hB.mono hb0.size)) _⟩
 ·rw [hr] at HT
  have hk':(t'.kind != t.kind)=true:=by simp [hk]
  clear hr hone hk
  go_enter Tryz.func68,Tryz.ntmps68
  go_wp2_with (go_at_call 56;refine (HT.out _).mono ?_;rintro e w' ⟨v,fp,rfl,hR,hO,hB⟩;obtain⟨b,off,cap,h',rfl,hc1,hc2,hb,h0,h1,h2,h3,_,_⟩:=Za9 hR;have a0:=box0 hB)
  go_quiet (fail)
  go_wp2
  go_ret
  exact⟨Zad HF.out.symm,Zag (hb0.trans (hB.mono hb0.size)) _⟩
 ·rw [hr] at HT
  have hk':(t'.kind != t.kind)=false:=by simp [hk]
  have hx':(t'.text.toList==t.text.toList)=false:=ZbH hx
  clear hr hone hk hx
  go_enter Tryz.func68,Tryz.ntmps68
  go_wp2_with (go_at_call 56;refine (HT.out _).mono ?_;rintro e w' ⟨v,fp,rfl,hR,hO,hB⟩;obtain⟨b,off,cap,h',rfl,hc1,hc2,hb,h0,h1,h2,h3,_,_⟩:=Za9 hR;have a0:=box0 hB;have a1:=box1 hB)
  go_quiet (fail)
  go_wp2
  go_ret
  exact⟨Zad HF.out.symm,Zag (hb0.trans (hB.mono hb0.size)) _⟩
 ·exact absurd (HG.out.symm.trans hone) (by simp)
theorem ZhL {a b:ByteArray}:(sLess a b=true/\Op.bytesLess b.toList a.toList=false/\(b.toList==a.toList)=false)\/(sLess a b=false/\Op.bytesLess b.toList a.toList=true)\/(sLess a b=false/\Op.bytesLess b.toList a.toList=false/\(b.toList==a.toList)=true):=by
 cases h:sLess a b
 ·have:=sLess_no h
  cases h1:Op.bytesLess b.toList a.toList
  ·rw [h1,Bool.false_or] at this;exact .inr (.inr ⟨rfl,rfl,this⟩)
  ·exact .inr (.inl ⟨rfl,rfl⟩)
 ·have:=ZmU h
  rw [Bool.or_eq_false_iff] at this
  exact .inl ⟨rfl,this.1,this.2⟩
theorem Y3A1 {g:Prop} (h:g:=by
 clear hr HG hc2 hall hcell
 go_wp2_with (go_at_call 56;refine (HT.out _).mono ?_;rintro e w' ⟨v,fp,rfl,hR,hO,hB2⟩;obtain⟨b1,off1,cap1,h1,rfl,hc11,hc21,hb1,g0,g1,g2,g3,_,_⟩:=Za9 hR;have a3':=(hB2.cell (p:=⟨w.heap.size,3,none⟩) hwr).trans a3;have hck':=(hB2.cell (p:=⟨b,off+k,none⟩) hbr).trans hck)
 go_quiet (fail)
 go_wp2
 go_ret
 exact⟨Zad HF.out.symm,Zag (hbw.trans (hB2.mono hbw.size)) _⟩):g:=h
theorem ZfE (t:Tok) (h:Value) (fp:List Nat) (w:World) (ht:okStr t.text) (H:(Zaa sStr).R w [h] t.hidden fp) (hone:Zak t.text t.kind=true) :
  Calls Tryz.prog 68 #[.agg #[.int .i64 t.kind,.string t.text,.bool t.spaced,h]] w (Says (tokOk t) w):=by
 have HT:Hid (∀ W,Calls Tryz.prog 56 #[.string t.text] W (Zco (Zar t.text) W)):=λ W=>Zb4 t.text W ht
 have HO:=Qh hone
 have hb0:=Zab w (.cells #[.int .i64 t.kind,.string t.text,.bool t.spaced,h] 32)
 obtain⟨ah,caph,rfl,hch,hmh,hcell,hsz⟩:=Zaf H
 unfold maxLen at hmh
 rcases ZcD t.text t.kind with⟨hr,HG⟩ | ⟨l,hr,hl,HG⟩ | ⟨t',hr,hk,HG⟩ | ⟨t',hr,hk,hx,HG⟩ | ⟨t',hr,hk,hx,hsp,HG⟩
 ·exact absurd (HG.out.symm.trans hone) (by simp)
 ·exact absurd (HG.out.symm.trans hone) (by simp)
 ·exact absurd (HG.out.symm.trans hone) (by simp)
 ·exact absurd (HG.out.symm.trans hone) (by simp)
 rw [hr] at HT
 have hk':(t'.kind != t.kind)=false:=by simp [hk]
 have hx':(t'.text.toList==t.text.toList)=true:=Zbm hx
 clear hr hone hk hx HG
 by_cases hl:60<t.hidden.length
 ·have HF:=Qh (ZdJ (t:=t) (ZhJ hl))
  go_enter Tryz.func68,Tryz.ntmps68
  go_wp2_with (go_at_call 56;refine (HT.out _).mono ?_;rintro e w' ⟨v,fp,rfl,hR,hO,hB⟩;obtain⟨b,off,cap,h',rfl,hc1,hc2,hb,h0,h1,h2,h3,_,_⟩:=Za9 hR;have a0:=box0 hB;have a1:=box1 hB;have a3:=box3 hB;rw [hsp] at h2)
  go_quiet (fail)
  go_wp2
  go_ret
  exact⟨Zad HF.out.symm,Zag (hb0.trans (hB.mono hb0.size)) _⟩
 ·have hl':¬ (60:Int)<(t.hidden.length:Int):=by omega
  have hl2:decide ((60:Int)<(t.hidden.length:Int))=false:=by simpa using hl'
  go_enter Tryz.func68,Tryz.ntmps68
  go_wp2_with (go_at_call 56;refine (HT.out _).mono ?_;rintro e w' ⟨v,fp,rfl,hR,hO,hB⟩;obtain⟨b,off,cap,h',rfl,hc1,hc2,hb,h0,h1,h2,h3,_,_⟩:=Za9 hR;have a0:=box0 hB;have a1:=box1 hB;have a3:=box3 hB;rw [hsp] at h2)
  go_quiet (fail)
  go_wp2
  have hB':=Zag hB nq
  clear a0 a1 a3 h0 h1 h2 h3 hR hO hc1 hc2 hb hB
  go_loopw [5] (λ i wr=>∃ k:Nat,k<=t.hidden.length/\i=.int .i64 k/\HidUpto t.hidden k/\Below (w.alloc (.cells #[.int .i64 t.kind,.string t.text,.bool t.spaced,.slice ah t.hidden.length caph] 32)).heap.size (w.alloc (.cells #[.int .i64 t.kind,.string t.text,.bool t.spaced,.slice ah t.hidden.length caph] 32)) wr) (λ i _=>t.hidden.length-(intOf i).toNat)
  case atStart=>exact⟨0,by omega,rfl,HidUpto.zero _,hB'⟩
  case round =>
   obtain⟨k,hk,rfl,hall,hbel⟩:=hrel
   have hbw:=hb0.trans (hbel.mono hb0.size)
   have hsl:(w.alloc (.cells #[.int .i64 t.kind,.string t.text,.bool t.spaced,.slice ah t.hidden.length caph] 32)).heap.size=w.heap.size+1:=Array.size_push _
   have hwr:w.heap.size<wr.heap.size:=by have:=hbel.size;omega
   have a3:=box3 hbel
   by_cases hlt:k<t.hidden.length
   ·obtain⟨b,off,rfl,hb,_,hc2⟩:=hcell (by omega)
    have hck:=(hbw.cell (p:=⟨b,off+k,none⟩) hb).trans (hc2 k hlt)
    have hbr:b<wr.heap.size:=Nat.lt_of_lt_of_le hb hbw.size
    have hsk:=hsz k hlt
    have HT:Hid (∀ W,Calls Tryz.prog 56 #[.string t.hidden[k]] W (Zco (Zar t.hidden[k]) W)):=λ W=>Zb4 t.hidden[k] W hsk
    rcases ZcD t.hidden[k] 1 with⟨hr,HG⟩ | ⟨l,hr,hl,HG⟩ | ⟨t',hr,hk,HG⟩ | ⟨t',hr,hk,hx,HG⟩ | ⟨t',hr,hk,hx,_,HG⟩
    ·rw [hr] at HT
     have HF:=Qh (ZdJ (t:=t) (ZcE hlt (ZcR hlt HG.out)))
     clear hr HG hc2 hall hcell
     go_wp2_with (go_at_call 56;refine (HT.out _).mono ?_;rintro e w' ⟨v,fp,rfl,hR,hO,hB2⟩;have a3':=(hB2.cell (p:=⟨w.heap.size,3,none⟩) hwr).trans a3;have hck':=(hB2.cell (p:=⟨b,off+k,none⟩) hbr).trans hck)
     go_quiet (fail)
     go_wp2
     go_ret
     exact⟨Zad HF.out.symm,Zag (hbw.trans (hB2.mono hbw.size)) _⟩
    ·rw [hr] at HT
     have HF:=Qh (ZdJ (t:=t) (ZcE hlt (ZcR hlt HG.out)))
     have hl'':((l.length:Int) != 1)=true:=by simp;omega
     clear hr HG hc2 hall hcell
     go_wp2_with (go_at_call 56;refine (HT.out _).mono ?_;rintro e w' ⟨v,fp,rfl,hR,hO,hB2⟩;obtain⟨a,cap,rfl,_,_,_⟩:=Zac hR;have a3':=(hB2.cell (p:=⟨w.heap.size,3,none⟩) hwr).trans a3;have hck':=(hB2.cell (p:=⟨b,off+k,none⟩) hbr).trans hck)
     go_quiet (fail)
     go_wp2
     go_ret
     exact⟨Zad HF.out.symm,Zag (hbw.trans (hB2.mono hbw.size)) _⟩
    ·rw [hr] at HT
     have HF:=Qh (ZdJ (t:=t) (ZcE hlt (ZcR hlt HG.out)))
     have hk'':(t'.kind != 1)=true:=by simp [hk]
     exact Y3A1
    ·rw [hr] at HT
     have HF:=Qh (ZdJ (t:=t) (ZcE hlt (ZcR hlt HG.out)))
     have hk'':(t'.kind != 1)=false:=by simp [hk]
     have hx'':(t'.text.toList==t.hidden[k].toList)=false:=ZbH hx
     exact Y3A1
    ·rw [hr] at HT
     have hk'':(t'.kind != 1)=false:=by simp [hk]
     have hx'':(t'.text.toList==t.hidden[k].toList)=true:=Zbm hx
     by_cases h0:k=0
     ·have h0':decide ((0:Int)<(k:Int))=false:=by simp;omega
      have HN:Hid (HidUpto t.hidden (k+1)):=by subst h0;exact hall.succ (ZgL hlt HG.out)
      have h00:¬ (0:Int)<(k:Int):=by omega
      have h01:decide (0<k)=false:=by simp;omega
      clear h0
      clear hr HG hc2 hall hcell
      go_wp2_with (go_at_call 56;refine (HT.out _).mono ?_;rintro e w' ⟨v,fp,rfl,hR,hO,hB2⟩;obtain⟨b1,off1,cap1,h1,rfl,hc11,hc21,hb1,g0,g1,g2,g3,_,_⟩:=Za9 hR;have a3':=(hB2.cell (p:=⟨w.heap.size,3,none⟩) hwr).trans a3;have hck':=(hB2.cell (p:=⟨b,off+k,none⟩) hbr).trans hck)
      go_quiet (fail)
      go_wp2
      go_roundw
      case rel=>exact⟨k+1,by omega,by go_num,HN.out,Zag (hbel.trans (hB2.mono hbel.size)) _⟩
      case measure=>simp [intOf];omega
     ·have hcp:=(hbw.cell (p:=⟨b,off+(k-1),none⟩) hb).trans (hc2 (k-1) (by omega))
      have h6:((k:Int)-1).toNat=k-1:=by omega
      have h0':(0:Int)<(k:Int):=by omega
      have h0'':decide ((0:Int)<(k:Int))=true:=by simpa using h0'
      have h0n:decide (0<k)=true:=by simp;omega
      have hi1:(0:Int)<=(k:Int)-1:=by omega
      have hi2:(k:Int)-1<(t.hidden.length:Int):=by omega
      rcases ZhL (a:=t.hidden[k-1]'(by omega)) (b:=t.hidden[k]) with⟨hw,hw1,hw2⟩ | ⟨hw,hw1⟩ | ⟨hw,hw1,hw2⟩
      ·have HN:=Qh (hall.succ (ZgM hlt (by omega) HG.out hw))
       clear hr HG hc2 hall hcell hw
       go_wp2_with (go_at_call 56;refine (HT.out _).mono ?_;rintro e w' ⟨v,fp,rfl,hR,hO,hB2⟩;obtain⟨b1,off1,cap1,h1,rfl,hc11,hc21,hb1,g0,g1,g2,g3,_,_⟩:=Za9 hR;have a3':=(hB2.cell (p:=⟨w.heap.size,3,none⟩) hwr).trans a3;have hck':=(hB2.cell (p:=⟨b,off+k,none⟩) hbr).trans hck;have hcp':=(hB2.cell (p:=⟨b,off+(k-1),none⟩) hbr).trans hcp)
       go_quiet (fail)
       go_wp2
       go_roundw
       case rel=>exact⟨k+1,by omega,by go_num,HN.out,Zag (hbel.trans (hB2.mono hbel.size)) _⟩
       case measure=>simp [intOf];omega
      all_goals
       have HF:=Qh (ZdJ (t:=t) (ZcE hlt (ZhK hlt (by omega) hw)))
       clear hr HG hc2 hall hcell hw
       go_wp2_with (go_at_call 56;refine (HT.out _).mono ?_;rintro e w' ⟨v,fp,rfl,hR,hO,hB2⟩;obtain⟨b1,off1,cap1,h1,rfl,hc11,hc21,hb1,g0,g1,g2,g3,_,_⟩:=Za9 hR;have a3':=(hB2.cell (p:=⟨w.heap.size,3,none⟩) hwr).trans a3;have hck':=(hB2.cell (p:=⟨b,off+k,none⟩) hbr).trans hck;have hcp':=(hB2.cell (p:=⟨b,off+(k-1),none⟩) hbr).trans hcp)
       go_quiet (fail)
       go_wp2
       go_ret
       exact⟨Zad HF.out.symm,Zag (hbw.trans (hB2.mono hbw.size)) _⟩
   ·have HF:=Qh (tokOk_c HO.out (ZfQ hall (by omega) (by omega)))
    clear hall
    go_wp2
    go_ret
    exact⟨Zad HF.out.symm,hbw⟩
theorem ZgB (t:Tok) (h:Value) (fp:List Nat) (w:World) (ht:okStr t.text) (H:(Zaa sStr).R w [h] t.hidden fp) :
  Calls Tryz.prog 68 #[.agg #[.int .i64 t.kind,.string t.text,.bool t.spaced,h]] w (Says (tokOk t) w):=by
 cases ho:Zak t.text t.kind
 ·exact ZfT t h fp w ht H ho
 ·exact ZfE t h fp w ht H ho
theorem ZbJ (cs:List Value) (x:Tok) (fp:List Nat) (w:World) (H:sTok.R w cs x fp):Calls Tryz.prog 68 #[.agg cs.toArray] w (Says (tokOk x) w):=by
 obtain⟨h,rfl,_,hok,K⟩:=H
 exact ZgB x h fp w hok K
def Zaj (l:List Tok):Bool:=decide (l.length<=60) && l.all tokOk
theorem Zbf (v:Value) (l:List Tok) (fp:List Nat) (w:World) (H:(Zaa sTok).R w [v] l fp) :
  Calls Tryz.prog 44 #[v] w (Says (Zaj l) w):=by
 obtain⟨a,cap,rfl,hc,hm,hrow⟩:=Zac H
 unfold maxLen at hm
 clear H
 go_enter Tryz.func44,Tryz.ntmps44
 go_wp2
 go_loopw [3] (λ i wr=>∃ k:Nat,k<=l.length/\i=.int .i64 k/\AllUpto tokOk l k/\Below w.heap.size w wr) (λ i _=>l.length-(intOf i).toNat)
 case atStart=>exact⟨0,by omega,rfl,AllUpto.zero _ _,Below.refl _ _⟩
 case round =>
  obtain⟨k,hk,rfl,hall,hb⟩:=hrel
  by_cases hlt:k<l.length
  ·obtain⟨b1,off1,fps1,rfl,hb1,-,he1⟩:=hrow (by omega)
   obtain⟨es1,hE1,hR1⟩:=he1 k hlt
   clear hrow he1
   have hR2:=sTok.below hR1 hb
   obtain⟨h1,rfl,_,_,_⟩:=hR1
   have HC:=Qh (ZbJ _ _ _ wr hR2)
   clear hR2
   replace hE1:=hE1.frame (hb.block b1 hb1)
   have c10:wr.cell? ⟨b1,off1+k * 4,none⟩=some _:=Zam hE1 (by decide) rfl
   have c11:wr.cell? ⟨b1,off1+k * 4+1,none⟩=some _:=Zae (j:=1) hE1 (by decide) rfl
   have c12:wr.cell? ⟨b1,off1+k * 4+2,none⟩=some _:=Zae (j:=2) hE1 (by decide) rfl
   have c13:wr.cell? ⟨b1,off1+k * 4+3,none⟩=some _:=Zae (j:=3) hE1 (by decide) rfl
   clear hE1
   cases hv:tokOk l[k]
   ·have HF:=Qh (all_no (p:=tokOk) hlt hv)
    rw [hv] at HC
    clear hv hall
    go_wp2_with (go_at_call 68;refine (HC.out).mono ?_;rintro e w1 ⟨rfl,hb2⟩)
    go_ret
    exact⟨Zad (by unfold Zaj;rw [HF.out];simp),hb.trans (hb2.mono hb.size)⟩
   ·have HN:=Qh (hall.succ hlt hv)
    rw [hv] at HC
    clear hv hall
    go_wp2_with (go_at_call 68;refine (HC.out).mono ?_;rintro e w1 ⟨rfl,hb2⟩)
    go_roundw
    case rel=>exact⟨k+1,by omega,by go_num,HN.out,hb.trans (hb2.mono hb.size)⟩
    case measure=>simp [intOf];omega
  ·have HF:=Qh (Zlz (p:=tokOk) hall (by omega))
   clear hall
   go_wp2
   go_ret
   exact⟨Zad (by unfold Zaj;rw [HF.out,Bool.and_true];exact decide_eq_decide.2 (by omega)),hb⟩
theorem Zbg (v:Value) (l:List Tok) (fp:List Nat) (w:World) (H:(Zaa sTok).R w [v] l fp) :
  Calls Tryz.prog 35 #[v] w (Says (Zaj l) w):=by
 obtain⟨a,cap,rfl,hc,hm,hrow⟩:=Zac H
 unfold maxLen at hm
 clear H
 by_cases hl:60<l.length
 ·go_enter Tryz.func35,Tryz.ntmps35
  go_wp2
  go_ret
  exact⟨Zad (by unfold Zaj;rw [decide_eq_false (by omega)];rfl),Below.refl _ _⟩
 go_enter Tryz.func35,Tryz.ntmps35
 go_wp2
 go_loopw [10] (λ i wr=>∃ k:Nat,k<=l.length/\i=.int .i64 k/\AllUpto tokOk l k/\Below w.heap.size w wr) (λ i _=>l.length-(intOf i).toNat)
 case atStart=>exact⟨0,by omega,rfl,AllUpto.zero _ _,Below.refl _ _⟩
 case round =>
  obtain⟨k,hk,rfl,hall,hb⟩:=hrel
  by_cases hlt:k<l.length
  ·obtain⟨b1,off1,fps1,rfl,hb1,-,he1⟩:=hrow (by omega)
   obtain⟨es1,hE1,hR1⟩:=he1 k hlt
   clear hrow he1
   have hR2:=sTok.below hR1 hb
   obtain⟨h1,rfl,_,_,K1⟩:=hR1
   obtain⟨ah,caph,rfl,-⟩:=Zac K1
   clear K1
   have HC:Hid (∀ W,Below wr.heap.size wr W->Calls Tryz.prog 59 #[.agg #[.int .i64 l[k].kind,.string l[k].text,.bool l[k].spaced,.slice ah l[k].hidden.length caph]] W (Says (tokOk l[k]) W)):=λ W hW=>ZcS _ _ _ W (sTok.below hR2 hW)
   clear hR2
   replace hE1:=hE1.frame (hb.block b1 hb1)
   have c10:wr.cell? ⟨b1,off1+k * 4,none⟩=some _:=Zam hE1 (by decide) rfl
   have c11:wr.cell? ⟨b1,off1+k * 4+1,none⟩=some _:=Zae (j:=1) hE1 (by decide) rfl
   have c12:wr.cell? ⟨b1,off1+k * 4+2,none⟩=some _:=Zae (j:=2) hE1 (by decide) rfl
   have c13:wr.cell? ⟨b1,off1+k * 4+3,none⟩=some _:=Zae (j:=3) hE1 (by decide) rfl
   clear hE1
   cases hv:tokOk l[k]
   ·have HF:=Qh (all_no (p:=tokOk) hlt hv)
    rw [hv] at HC
    clear hv hall
    go_wp2_with (go_at_call 59;refine (HC.out _ (Zab _ _)).mono ?_;rintro e w1 ⟨rfl,hb2⟩)
    go_ret
    have hb3:=(Zab wr (.cells #[.int .i64 l[k].kind,.string l[k].text,.bool l[k].spaced,.slice ah l[k].hidden.length caph] 32))
    exact⟨Zad (by unfold Zaj;rw [HF.out];simp),hb.trans ((hb3.trans (hb2.mono hb3.size)).mono hb.size)⟩
   ·have HN:=Qh (hall.succ hlt hv)
    rw [hv] at HC
    clear hv hall
    go_wp2_with (go_at_call 59;refine (HC.out _ (Zab _ _)).mono ?_;rintro e w1 ⟨rfl,hb2⟩)
    have hb3:=(Zab wr (.cells #[.int .i64 l[k].kind,.string l[k].text,.bool l[k].spaced,.slice ah l[k].hidden.length caph] 32))
    go_roundw
    case rel=>exact⟨k+1,by omega,by go_num,HN.out,hb.trans ((hb3.trans (hb2.mono hb3.size)).mono hb.size)⟩
    case measure=>simp [intOf];omega
  ·have HF:=Qh (Zlz (p:=tokOk) hall (by omega))
   clear hall
   go_wp2
   go_ret
   exact⟨Zad (by unfold Zaj;rw [HF.out,Bool.and_true];exact(decide_eq_true (by omega)).symm),hb⟩
def isMk (t:Tok) (s:List UInt8):Bool:=decide (t.kind=4) && (t.text.toList==s)
def rankT (s:List UInt8):Nat:=
 if s=[124,124] then 1 else if s=[38,38] then 2 else if s=[61,61]\/s=[33,61] then 3
 else if s=[60]\/s=[62]\/s=[60,61]\/s=[62,61] then 4 else if s=[43]\/s=[45] then 5 else if s=[42]\/s=[47]\/s=[37] then 6 else 0
def rankM (t:Tok):Nat:=if t.kind=4 then rankT t.text.toList else 0
def inR (n:Int):Bool:=decide (-1000000<=n) && decide (n<=1000000)
def bit1 (b:Bool):Int:=if b=true then 1 else 0
def opM (s:List UInt8) (a b:Int):Int:=
 if s=[43] then a+b else if s=[45] then a-b else if s=[42] then a * b else if s=[47] then a.tdiv b else if s=[37] then a.tmod b
 else if s=[61,61] then bit1 (decide (a=b)) else if s=[33,61] then bit1 (decide (a≠b)) else if s=[60] then bit1 (decide (a<b)) else if s=[62] then bit1 (decide (b<a))
 else if s=[60,61] then bit1 (decide (a<=b)) else if s=[62,61] then bit1 (decide (b<=a)) else if s=[38,38] then bit1 (decide (a≠0) && decide (b≠0)) else bit1 (decide (a≠0) || decide (b≠0))
def Zah (s:List UInt8) (a b:Int):Int × Int:=
 if rankT s=0\/inR a=false\/inR b=false then (0,1)
 else if (s=[47]\/s=[37])/\b=0 then (0,2)
 else if inR (opM s a b)=true then (opM s a b,0) else (0,3)
def digs (s:List UInt8):Int:=s.foldl (λ n c=>10 * n+((c.toNat:Int)-48)) 0
def Zax (s:List UInt8):Int:=
 if s=[]\/7<s.length\/s.all isDig=false then -1 else if 1000000<digs s then -1 else digs s
inductive Ask where
 | one (k:Nat)
 | marks (k rank:Nat)
 | more (rank:Nat) (n:Int) (e:Nat) (f:Int)
 | choice (k:Nat)
abbrev VRes:=Int × Nat × Int
def mkAt (l:List Tok) (k:Nat) (s:List UInt8):Bool:=if h:k<l.length then isMk l[k] s else false
def pv (l:List Tok):Nat->Ask->Option VRes
 | 0,_=>none
 |
  d+1,.one k =>
  if h:k<l.length then
   if isMk l[k] [33]=true then (pv l d (.one (k+1))).bind λ r=>some (bit1 (decide (r.1=0)),r.2.1,r.2.2)
   else if isMk l[k] [45]=true then (pv l d (.one (k+1))).bind λ r=>some (-r.1,r.2.1,r.2.2)
   else if isMk l[k] [40]=true then (pv l d (.choice (k+1))).bind λ r=>some (r.1,r.2.1+1,if r.2.2=0/\mkAt l r.2.1 [41]=false then 1 else r.2.2)
   else if l[k].kind=1 then some (0,k+1,0)
   else if l[k].kind=2/\0<=Zax l[k].text.toList then some (Zax l[k].text.toList,k+1,0)
   else some (0,k,1)
  else some (0,k,1)
 | d+1,.marks k rank=>(pv l d (.one k)).bind λ r=>pv l d (.more rank r.1 r.2.1 r.2.2)
 |
  d+1,.more rank n e f =>
  if h:f=0/\e<l.length then
   if rankM l[e]<rank then some (n,e,f)
   else (pv l d (.marks (e+1) (rankM l[e]+1))).bind λ r =>
    if r.2.2≠0 then some (0,r.2.1,r.2.2) else pv l d (.more rank (Zah l[e].text.toList n r.1).1 r.2.1 (Zah l[e].text.toList n r.1).2)
  else some (n,e,f)
 |
  d+1,.choice k=>(pv l d (.marks k 1)).bind λ r =>
  if r.2.2=0/\mkAt l r.2.1 [63]=true then
   (pv l d (.choice (r.2.1+1))).bind λ a =>
    if a.2.2≠0 then some (0,a.2.1,a.2.2)
    else if mkAt l a.2.1 [58]=true then (pv l d (.choice (a.2.1+1))).bind λ b=>some (if r.1≠0 then a.1 else b.1,b.2.1,b.2.2)
    else some (0,a.2.1,1)
  else some r
def Zba (l:List Tok):Int × Int:=
 if Zaj l=true then
  (
  match pv l (4 * l.length+4) (.choice 0) with
  | some (n,e,f)=>if f≠0 then (0,f) else if e≠l.length then (0,1) else (n,0)
  | none=>(0,1))
 else (0,1)
theorem bind_some {α β:Type} {o:Option α} {f:α->Option β} {r:β} (h:o.bind f=some r):∃ a,o=some a/\f a=some r:=by
 cases o with
 | none=>simp at h
 | some a=>exact⟨a,rfl,h⟩
end Go.Proofs.YtipfpppcbmpjiaaGreat
