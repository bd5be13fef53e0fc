/- Texts that the proof of EConditionOf stands on, in one file. -/
import Derived.Test.YtipfpppcbmpjiaaGreatZEConditionOf11
import Derived.Deep.Cut
import Derived.Deep.CutRange
set_option linter.unusedVariables false
set_option maxHeartbeats 16000000
set_option maxRecDepth 100000
set_option linter.unusedSimpArgs false
/- A token by value: its marks. -/
namespace Go.Proofs.YtipfpppcbmpjiaaGreat
open Go.RowKit
def StrOf (s:ByteArray) (w:World) (e:Ending) (w':World):Prop:=e=.returned (.string s)/\Below w.heap.size w w'
theorem Zfj {a b:ByteArray} (h:a=b):Ending.returned (.string a)=.returned (.string b):=by rw [h]
theorem q_ways (c:UInt8):(((c.toNat:Int)==34)=true/\Hid (isQ c=true))\/(((c.toNat:Int)==34)=false/\((c.toNat:Int)==92)=true/\Hid (isQ c=true))\/(((c.toNat:Int)==34)=false/\((c.toNat:Int)==92)=false/\Hid (isQ c=false)):=by
 by_cases h1:c.toNat=34
 ·exact .inl ⟨by simp [h1],by show _=_;unfold isQ;simp [h1]⟩
 ·by_cases h2:c.toNat=92
  ·exact .inr (.inl ⟨by simp;omega,by simp [h2],by show _=_;unfold isQ;simp [h2]⟩)
  ·exact .inr (.inr ⟨by simp;omega,by simp;omega,by show _=_;unfold isQ;simp [h1,h2]⟩)
theorem ZjK (s:ByteArray) (w:World) (hs:s.size<=1000000) :
  Calls Tryz.prog 167 #[.string s] w (StrOf (escTo s s.size) w):=by
 go_enter Tryz.func167,Tryz.ntmps167
 go_wp2
 go_loopw [3,4] (λ o i wr=>∃ (k:Nat) (out:ByteArray),k<=s.size/\i=.int .i64 k/\o=.string out/\Hid (out=escTo s k)/\Below w.heap.size w wr) (λ _ i _=>s.size-(intOf i).toNat)
 case atStart=>exact⟨0,_,by omega,rfl,rfl,rfl,Below.refl _ _⟩
 case round =>
  obtain⟨k,out,hk,rfl,rfl,HO,hb⟩:=hrel
  by_cases hlt:k<s.size
  ·have hso:out.size<=2 * k:=by rw [HO.out];exact ZcX s k
   have h1z:(⟨#[92]⟩:ByteArray).size=1:=rfl
   have hsl:=λ W=>(ZeJ s (k:Int) ((k:Int)+1) k (k+1) rfl rfl (by omega) (by omega) W)
   have ad1:=λ W=>run_string_add_sum (P:=Tryz.prog) W out (⟨#[92]⟩:ByteArray) (by omega)
   have ad2:=λ W=>run_string_add_sum (P:=Tryz.prog) W (out++(⟨#[92]⟩:ByteArray)) (s.extract k (k+1)) (by rw [ByteArray.size_append,ByteArray.size_extract];omega)
   have ad3:=λ W=>run_string_add_sum (P:=Tryz.prog) W out (s.extract k (k+1)) (by rw [ByteArray.size_extract];omega)
   clear h1z
   rcases q_ways s[k] with⟨e1,HQ⟩ | ⟨e1,e2,HQ⟩ | ⟨e1,e2,HQ⟩
   ·have HN:Hid (out++⟨#[92]⟩++s.extract k (k+1)=escTo s (k+1)):=by show _=_;rw [Zdc hlt HQ.out,HO.out]
    clear HO HQ hso
    go_wp2
    go_roundw
    case rel=>exact⟨k+1,_,by omega,by go_num,rfl,HN.out,hb⟩
    case measure=>simp [intOf];omega
   ·have HN:Hid (out++⟨#[92]⟩++s.extract k (k+1)=escTo s (k+1)):=by show _=_;rw [Zdc hlt HQ.out,HO.out]
    clear HO HQ hso
    go_wp2
    go_roundw
    case rel=>exact⟨k+1,_,by omega,by go_num,rfl,HN.out,hb⟩
    case measure=>simp [intOf];omega
   ·have HN:Hid (out++s.extract k (k+1)=escTo s (k+1)):=by show _=_;rw [ZeT hlt HQ.out,HO.out]
    clear HO HQ hso
    go_wp2
    go_roundw
    case rel=>exact⟨k+1,_,by omega,by go_num,rfl,HN.out,hb⟩
    case measure=>simp [intOf];omega
  ·have HF:Hid (out=escTo s s.size):=by show _=_;rw [HO.out,show k=s.size by omega]
   clear HO
   go_wp2
   go_ret
   exact⟨Zfj HF.out,hb⟩
theorem Y12A1 {g:Prop} (h:g:=by
 rw [hsp] at c12
 clear h3 HBT HO hso
 go_wp2_with (go_at_call 167;refine (HE.out _).mono ?_;rintro e w3 ⟨rfl,hb3⟩)
 go_roundw
 case rel=>exact⟨k+1,_,by omega,by go_num,rfl,HN.out,hb.trans (hb3.mono hb.size)⟩
 case measure=>simp [intOf];omega):g:=h
theorem Zli (v:Value) (l:List Tok) (fp:List Nat) (w:World) (hv:Zaj l=true) (H:(Zaa sTok).R w [v] l fp) :
  Calls Tryz.prog 157 #[v] w (StrOf (ZaA l l.length) w):=by
 obtain⟨a,cap,rfl,hc,hm,hrow⟩:=Zac H
 unfold maxLen at hm
 clear H
 have HOK:=Qh (Zan hv)
 have hlen:=HOK.out.1
 have HSZ:=Qh (Zdo hv)
 clear hv
 go_enter Tryz.func157,Tryz.ntmps157
 go_wp2
 go_loopw [3,4] (λ o i wr=>∃ (k:Nat) (out:ByteArray),k<=l.length/\i=.int .i64 k/\o=.string out/\Hid (out=ZaA l k)/\Below w.heap.size w wr) (λ _ i _=>l.length-(intOf i).toNat)
 case atStart=>exact⟨0,_,by omega,rfl,rfl,rfl,Below.refl _ _⟩
 case round =>
  obtain⟨k,out,hk,rfl,rfl,HO,hb⟩:=hrel
  by_cases hlt:k<l.length
  ·obtain⟨b1,off1,fps1,rfl,hb1',-,he1⟩:=hrow (by omega)
   obtain⟨es1,hE1,hR1⟩:=he1 k hlt
   obtain⟨h1,rfl,-,-,-⟩:=hR1
   replace hE1:=hE1.frame (hb.block b1 hb1')
   have c10:wr.cell? ⟨b1,off1+k * 4,none⟩=some _:=Zam hE1 (by decide) rfl
   have c11:wr.cell? ⟨b1,off1+k * 4+1,none⟩=some _:=Zae (j:=1) hE1 (by decide) rfl
   have c12:wr.cell? ⟨b1,off1+k * 4+2,none⟩=some _:=Zae (j:=2) hE1 (by decide) rfl
   have hsz1:=(ZaP (HOK.out.2 k hlt)).2
   have hso:out.size<=401 * k:=by rw [HO.out];exact HSZ.out k hk
   have hes:=ZcX l[k].text l[k].text.size
   have HE:Hid (∀ W,Calls Tryz.prog 167 #[.string l[k].text] W (StrOf (escTo l[k].text l[k].text.size) W)):=λ W=>ZjK _ W (by omega)
   have h1z:(⟨#[32]⟩:ByteArray).size=1:=rfl
   have ad1:=λ W=>run_string_add_sum (P:=Tryz.prog) W out (⟨#[32]⟩:ByteArray) (by omega)
   have ad2:=λ W=>run_string_add_sum (P:=Tryz.prog) W (out++(⟨#[32]⟩:ByteArray)) (escTo l[k].text l[k].text.size) (by rw [ByteArray.size_append];omega)
   have ad3:=λ W=>run_string_add_sum (P:=Tryz.prog) W (out++(⟨#[32]⟩:ByteArray)) l[k].text (by rw [ByteArray.size_append];omega)
   have ad4:=λ W=>run_string_add_sum (P:=Tryz.prog) W out (escTo l[k].text l[k].text.size) (by omega)
   have ad5:=λ W=>run_string_add_sum (P:=Tryz.prog) W out l[k].text (by omega)
   clear h1z hes he1 hrow hE1
   by_cases h0:k=0
   ·have h00:¬ (0:Int)<(k:Int):=by omega
    have h01:decide ((0:Int)<(k:Int))=false:=by simp;omega
    have h02:decide (0<k)=false:=by simp;omega
    have HNS:Hid (¬ (0<k/\l[k].spaced=true)):=λ h=>by omega
    clear h0
    by_cases h3:l[k].kind=3
    ·have hk3:(l[k].kind==3)=true:=by simp [h3]
     have HBT:Hid (bit l[k]=escTo l[k].text l[k].text.size):=by show _=_;unfold bit;rw [if_pos h3]
     have HN:Hid (out++escTo l[k].text l[k].text.size=ZaA l (k+1)):=by show _=_;rw [ZbY hlt HNS.out,HBT.out,HO.out]
     clear h3 HBT HO hso
     go_wp2_with (go_at_call 167;refine (HE.out _).mono ?_;rintro e w3 ⟨rfl,hb3⟩)
     go_roundw
     case rel=>exact⟨k+1,_,by omega,by go_num,rfl,HN.out,hb.trans (hb3.mono hb.size)⟩
     case measure=>simp [intOf];omega
    ·have hk3:(l[k].kind==3)=false:=by simp;exact h3
     have HBT:Hid (bit l[k]=l[k].text):=by show _=_;unfold bit;rw [if_neg h3]
     have HN:Hid (out++l[k].text=ZaA l (k+1)):=by show _=_;rw [ZbY hlt HNS.out,HBT.out,HO.out]
     clear h3 HBT HO hso
     go_wp2
     go_roundw
     case rel=>exact⟨k+1,_,by omega,by go_num,rfl,HN.out,hb⟩
     case measure=>simp [intOf];omega
   ·have h00:(0:Int)<(k:Int):=by omega
    have h01:decide ((0:Int)<(k:Int))=true:=by simp;omega
    have h02:decide (0<k)=true:=by simp;omega
    cases hsp:l[k].spaced
    ·have HNS:Hid (¬ (0<k/\l[k].spaced=true)):=λ h=>by rw [hsp] at h;exact absurd h.2 (by simp)
     by_cases h3:l[k].kind=3
     ·have hk3:(l[k].kind==3)=true:=by simp [h3]
      have HBT:Hid (bit l[k]=escTo l[k].text l[k].text.size):=by show _=_;unfold bit;rw [if_pos h3]
      have HN:Hid (out++escTo l[k].text l[k].text.size=ZaA l (k+1)):=by show _=_;rw [ZbY hlt HNS.out,HBT.out,HO.out]
      exact Y12A1
     ·have hk3:(l[k].kind==3)=false:=by simp;exact h3
      have HBT:Hid (bit l[k]=l[k].text):=by show _=_;unfold bit;rw [if_neg h3]
      have HN:Hid (out++l[k].text=ZaA l (k+1)):=by show _=_;rw [ZbY hlt HNS.out,HBT.out,HO.out]
      rw [hsp] at c12
      clear h3 HBT HO hso
      go_wp2
      go_roundw
      case rel=>exact⟨k+1,_,by omega,by go_num,rfl,HN.out,hb⟩
      case measure=>simp [intOf];omega
    ·skip
     by_cases h3:l[k].kind=3
     ·have hk3:(l[k].kind==3)=true:=by simp [h3]
      have HBT:Hid (bit l[k]=escTo l[k].text l[k].text.size):=by show _=_;unfold bit;rw [if_pos h3]
      have HN:Hid (out++⟨#[32]⟩++escTo l[k].text l[k].text.size=ZaA l (k+1)):=by show _=_;rw [ZcJ hlt (by omega) hsp,HBT.out,HO.out]
      exact Y12A1
     ·have hk3:(l[k].kind==3)=false:=by simp;exact h3
      have HBT:Hid (bit l[k]=l[k].text):=by show _=_;unfold bit;rw [if_neg h3]
      have HN:Hid (out++⟨#[32]⟩++l[k].text=ZaA l (k+1)):=by show _=_;rw [ZcJ hlt (by omega) hsp,HBT.out,HO.out]
      rw [hsp] at c12
      clear h3 HBT HO hso
      go_wp2
      go_roundw
      case rel=>exact⟨k+1,_,by omega,by go_num,rfl,HN.out,hb⟩
      case measure=>simp [intOf];omega
  ·have HF:Hid (out=ZaA l l.length):=by show _=_;rw [HO.out,show k=l.length by omega]
   clear HO
   go_wp2
   go_ret
   exact⟨Zfj HF.out,hb⟩
def TextOf (l:List Tok) (w:World) (e:Ending) (w':World):Prop:=
 ∃ (cs:List Value) (fp:List Nat),e=.returned (.tuple #[.agg cs.toArray,.bool (ZaT l).2])/\sTok.R w' cs (ZaT l).1 fp/\Own w' w.heap.size fp/\Below w.heap.size w w'
theorem Zks (k:Int) (s:ByteArray) (w:World) (h1:okInt k) (h2:s.size<=maxLen):sTok.R w [.int .i64 k,.string s,.bool false,.slice none 0 0] ⟨k,s,false,[]⟩ []:=⟨_,rfl,h1,h2,Zay sStr _ _ _ (by simp)⟩
theorem Zes {l:List Tok} {w w':World} (h:ZaT l=(zTok,false)) (hb:Below w.heap.size w w'):TextOf l w (.returned (.tuple #[.agg #[.int .i64 0,.string ⟨#[]⟩,.bool false,.slice none 0 0],.bool false])) w':=
 ⟨[.int .i64 0,.string ⟨#[]⟩,.bool false,.slice none 0 0],[],by rw [h],by rw [h];exact Zks 0 ⟨#[]⟩ w' (by unfold okInt;omega) (by show (0:Nat)<=_;simp [maxLen]),Own.nil _ _,hb⟩
theorem ZhZ {l:List Tok} {s:ByteArray} {w w':World} (h:ZaT l=(⟨3,s,false,[]⟩,true)) (hb:Below w.heap.size w w') (hs:s.size<=1000000):TextOf l w (.returned (.tuple #[.agg #[.int .i64 3,.string s,.bool false,.slice none 0 0],.bool true])) w':=
 ⟨[.int .i64 3,.string s,.bool false,.slice none 0 0],[],by rw [h],by rw [h];exact Zks 3 s w' (by unfold okInt;omega) (by unfold maxLen;omega),Own.nil _ _,hb⟩
theorem ZgV {l:List Tok} (h:Zaj l=true):(quoted (ZaA l l.length)).size<=50000:=by
 have h1:=Zdo h l.length (Nat.le_refl _)
 have h2:=(Zan h).1
 rw [ZeE];omega
theorem Ziz (v:Value) (l:List Tok) (fp:List Nat) (w:World) (hl:l.length<=1048576) (hx:∀ k,(hk:k<l.length)->l[k].hidden.length<=2000000) (H:(Zaa sTok).R w [v] l fp) :
  Calls Tryz.prog 143 #[v] w (TextOf l w):=by
 have hz0:=Zab w (.cells #[.int .i64 0,.string ⟨#[]⟩,.bool false,.slice none 0 0] 32)
 have HZ:=Qh (heap_alloc_new w (.cells #[.int .i64 0,.string ⟨#[]⟩,.bool false,.slice none 0 0] 32))
 have HCP:=Qh (ZaO v l fp _ hl hx ((Zaa sTok).below H hz0))
 clear H hx
 go_enter Tryz.func143,Tryz.ntmps143
 go_wp2_with fail
 refine HCP.out.mono ?_
 rintro e w1 ⟨v1,fp1,rfl,HL,-,-,hb1⟩
 have hB1:=hz0.trans (hb1.mono hz0.size)
 replace HZ:=Qh (mbox HZ.out hb1)
 clear hb1 hz0 HCP
 have HV:=Qh (Zbf v1 l fp1 w1 HL)
 have HL1:=Qh HL
 obtain⟨a,cap,rfl,hc,hm,-⟩:=Zac HL
 clear HL
 unfold maxLen at hm
 go_wp2_with fail
 refine HV.out.mono ?_
 rintro e w2 ⟨rfl,hb2⟩
 have hB2:=hB1.trans (hb2.mono hB1.size)
 replace HZ:=Qh (mbox HZ.out hb2)
 have HLL:=Qh ((Zaa sTok).below HL1.out hb2)
 clear HL1 HV hb2 hB1
 cases hv:Zaj l
 ·have HF:=Qh (Zjg hv)
  clear hv
  have z0:=Qc 0 HZ.out
  have zf0:=Qf 0 HZ.out
  have z1:=Qc 1 HZ.out
  have zf1:=Qf 1 HZ.out
  have z2:=Qc 2 HZ.out
  have zf2:=Qf 2 HZ.out
  have z3:=Qc 3 HZ.out
  have zf3:=Qf 3 HZ.out
  have HS:=Qh (Zai (Zai (Zai (Zai HZ.out 0 (.int .i64 0)) 1 (.string ⟨#[]⟩)) 2 (.bool false)) 3 (.slice none 0 0))
  have HBF:=Qh ((((hB2.setCell (p:=⟨w.heap.size,0,none⟩) (Nat.le_refl _) (.int .i64 0)).setCell (p:=⟨w.heap.size,1,none⟩) (Nat.le_refl _) (.string ⟨#[]⟩)).setCell (p:=⟨w.heap.size,2,none⟩) (Nat.le_refl _) (.bool false)).setCell (p:=⟨w.heap.size,3,none⟩) (Nat.le_refl _) (.slice none 0 0))
  go_wp2
  refine bodyPost_ret (Zat rfl _ _ w.heap.size _ _ _ _ rfl HS.out Tryz.underlying32 rfl (by kernel_rfl)) rfl ?_
  exact Zes HF.out HBF.out
 have HJ:=Qh (Zli _ l fp1 w2 hv HLL.out)
 have HVD:=Qh hv
 have hq:=ZgV hv
 have hj:=ZeE (ZaA l l.length)
 clear hv HLL
 go_wp2_with fail
 refine HJ.out.mono ?_
 rintro e w3 ⟨rfl,hb3⟩
 have hB3:=hB2.trans (hb3.mono hB2.size)
 replace HZ:=Qh (mbox HZ.out hb3)
 clear HJ hb3 hB2
 have HY:=Qh (λ h=>ZhU (l:=l) HVD.out rfl h)
 have HG:=Qh (λ h=>ZgT (l:=l) HVD.out rfl h)
 have h1z:(⟨#[34]⟩:ByteArray).size=1:=rfl
 have ad1:=λ W=>run_string_add_sum (P:=Tryz.prog) W (⟨#[34]⟩:ByteArray) (ZaA l l.length) (by omega)
 have ad2:∀ W,(Op.stringOp .add ((⟨#[34]⟩:ByteArray)++ZaA l l.length) (⟨#[34]⟩:ByteArray)).run Tryz.prog W=.ok (.string (quoted (ZaA l l.length))) W:=λ W=>run_string_add_sum (P:=Tryz.prog) W ((⟨#[34]⟩:ByteArray)++ZaA l l.length) (⟨#[34]⟩:ByteArray) (by rw [ByteArray.size_append];omega)
 clear h1z hj
 generalize quoted (ZaA l l.length)=Q at *
 by_cases hbig:200<Q.size
 ·have HF:=Qh (HG.out hbig)
  clear HG HY
  have z0:=Qc 0 HZ.out
  have zf0:=Qf 0 HZ.out
  have z1:=Qc 1 HZ.out
  have zf1:=Qf 1 HZ.out
  have z2:=Qc 2 HZ.out
  have zf2:=Qf 2 HZ.out
  have z3:=Qc 3 HZ.out
  have zf3:=Qf 3 HZ.out
  have HS:=Qh (Zai (Zai (Zai (Zai HZ.out 0 (.int .i64 0)) 1 (.string ⟨#[]⟩)) 2 (.bool false)) 3 (.slice none 0 0))
  have HBF:=Qh ((((hB3.setCell (p:=⟨w.heap.size,0,none⟩) (Nat.le_refl _) (.int .i64 0)).setCell (p:=⟨w.heap.size,1,none⟩) (Nat.le_refl _) (.string ⟨#[]⟩)).setCell (p:=⟨w.heap.size,2,none⟩) (Nat.le_refl _) (.bool false)).setCell (p:=⟨w.heap.size,3,none⟩) (Nat.le_refl _) (.slice none 0 0))
  go_wp2
  refine bodyPost_ret (Zat rfl _ _ w.heap.size _ _ _ _ rfl HS.out Tryz.underlying32 rfl (by kernel_rfl)) rfl ?_
  exact Zes HF.out HBF.out
 ·have HF:=Qh (HY.out hbig)
  clear HG HY
  have z0:=Qc 0 HZ.out
  have zf0:=Qf 0 HZ.out
  have z1:=Qc 1 HZ.out
  have zf1:=Qf 1 HZ.out
  have z2:=Qc 2 HZ.out
  have zf2:=Qf 2 HZ.out
  have z3:=Qc 3 HZ.out
  have zf3:=Qf 3 HZ.out
  have HS:=Qh (Zai (Zai (Zai (Zai HZ.out 0 (.int .i64 3)) 1 (.string Q)) 2 (.bool false)) 3 (.slice none 0 0))
  have HBF:=Qh ((((hB3.setCell (p:=⟨w.heap.size,0,none⟩) (Nat.le_refl _) (.int .i64 3)).setCell (p:=⟨w.heap.size,1,none⟩) (Nat.le_refl _) (.string Q)).setCell (p:=⟨w.heap.size,2,none⟩) (Nat.le_refl _) (.bool false)).setCell (p:=⟨w.heap.size,3,none⟩) (Nat.le_refl _) (.slice none 0 0))
  go_wp2
  refine bodyPost_ret (Zat rfl _ _ w.heap.size _ _ _ _ rfl HS.out Tryz.underlying32 rfl (by kernel_rfl)) rfl ?_
  exact ZhZ HF.out HBF.out (by omega)
/-! ### Places of names -/
def lowS (l:List ByteArray) (nm:ByteArray):Nat:=(l.takeWhile λ x=>sLess x nm).length
theorem ZiA (l:List ByteArray) (nm:ByteArray):lowS l nm<=l.length:=(List.takeWhile_prefix _).length_le
theorem ZcF (nm:ByteArray):∀ {l:List ByteArray},Up l->∀ j,(hj:j<l.length)->sLess l[j] nm=decide (j<lowS l nm)
 | [],_,j,hj=>by simp at hj
 |
  x::r,h,j,hj=>by
  obtain⟨h1,h2⟩:=List.pairwise_cons.1 h
  by_cases hx:sLess x nm=true
  ·have e:lowS (x::r) nm=lowS r nm+1:=by unfold lowS;rw [List.takeWhile_cons_of_pos (p:=λ x=>sLess x nm) hx];rfl
   rw [e]
   cases j with
   | zero=>simp [hx]
   | succ j=>simp only [List.getElem_cons_succ];rw [ZcF nm h2 j (by simpa using hj)];exact decide_eq_decide.2 (by omega)
  ·have e:lowS (x::r) nm=0:=by unfold lowS;rw [List.takeWhile_cons_of_neg (p:=λ x=>sLess x nm) hx];rfl
   rw [e]
   cases j with
   | zero=>simp at hx ⊢;exact hx
   |
    succ j =>
    simp only [List.getElem_cons_succ]
    have hj':j<r.length:=by simpa using hj
    cases hs:sLess r[j] nm
    ·simp
    ·exact absurd (ZcA (h1 _ (List.getElem_mem hj')) hs) hx
def isS (l:List ByteArray) (nm:ByteArray):Bool:=if h:lowS l nm<l.length then (l[lowS l nm].toList==nm.toList) else false
theorem isS_has {l:List ByteArray} (h:Up l) (nm:ByteArray):isS l nm=hasN l nm:=by
 cases hs:isS l nm
 ·refine (ZlO λ j hj=>?_).symm
  cases hj2:(l[j].toList==nm.toList)
  ·rfl
  ·exfalso
   have e:=Zcs hj2
   have h1:=ZcF nm h j hj
   rw [e,ZcU] at h1
   have h2:=of_decide_eq_false h1.symm
   unfold isS at hs
   by_cases h3:j=lowS l nm
   ·subst h3;rw [dif_pos hj,hj2] at hs;exact absurd hs (by simp)
   ·have h4:lowS l nm<j:=by omega
    have h5:=(List.pairwise_iff_getElem.1 h) (lowS l nm) j (by omega) hj h4
    rw [e,ZcF nm h (lowS l nm) (by omega)] at h5
    simp at h5
 ·unfold isS at hs
  split at hs
  ·rename_i h1;exact(Zkn h1 hs).symm
  ·exact absurd hs (by simp)
theorem ins_yes {l:List ByteArray} (h:Up l) {nm:ByteArray} (hs:isS l nm=true):ins l nm=l:=by
 unfold isS at hs
 split at hs
 ·rename_i h1
  exact Zkq nm l (lowS l nm) h1 (λ j hj hjk=>by rw [ZcF nm h j hj];simpa using hjk) hs
 ·exact absurd hs (by simp)
theorem ins_no {l:List ByteArray} (h:Up l) {nm:ByteArray} (hs:isS l nm=false):ins l nm=l.take (lowS l nm)++nm::l.drop (lowS l nm):=by
 refine ZhV nm l (lowS l nm) (ZiA l nm) (λ j hj hjk=>by rw [ZcF nm h j hj];simpa using hjk) λ h1=>⟨?_,?_⟩
 ·rw [ZcF nm h _ h1];simp
 ·unfold isS at hs;rw [dif_pos h1] at hs;exact hs
/-! ### The library's -/
theorem Zmx (a:ByteArray) (w:World):Calls Tryz.prog 160 #[.string a] w λ e w'=>e=.returned (.bool false)/\w'=w:=by
 go_enter Tryz.func160,Tryz.ntmps160
 go_wp2
 go_ret
 exact⟨rfl,rfl⟩
theorem Znk (a:ByteArray) (w:World):Calls Tryz.prog 150 #[.string a] w λ e w'=>e=.returned (.bool false)/\w'=w:=by
 go_enter Tryz.func150,Tryz.ntmps150
 go_wp2
 go_ret
 exact⟨rfl,rfl⟩
theorem lib_Less (a b:ByteArray) (w:World):Calls Tryz.prog 149 #[.string a,.string b] w λ e w'=>e=.returned (.bool (sLess a b))/\w'=w:=by
 go_enter Tryz.func149,Tryz.ntmps149
 go_wp2_with (go_at_call 160;refine (Zmx _ _).mono ?_;rintro e w2 ⟨rfl,rfl⟩)
 go_ret
 exact⟨rfl,rfl⟩
theorem ZeF (v:Value) (l:List ByteArray) (nm:ByteArray) (fp:List Nat) (w:World) (hu:Up l) (hn:l.length<=1000000) (H:(Zaa sStr).R w [v] l fp) :
  Calls Tryz.prog 134 #[v,.string nm] w λ e w'=>e=.returned (.tuple #[.int .i64 (lowS l nm:Nat),.bool (isS l nm)])/\w'=w:=by
 obtain⟨a,cap,rfl,hc,hm,hcell,-⟩:=Zaf H
 unfold maxLen at hm
 clear H
 have HLE:=Qh (ZiA l nm)
 have HIFF:Hid (∀ j,(hj:j<l.length)->sLess l[j] nm=decide (j<lowS l nm)):=ZcF nm hu
 have HIN:Hid (∀ h:lowS l nm<l.length,isS l nm=(l[lowS l nm].toList==nm.toList)):=λ h=>by unfold isS;rw [dif_pos h]
 have HOUT:Hid (¬ lowS l nm<l.length->isS l nm=false):=λ h=>by unfold isS;rw [dif_neg h]
 clear hu
 go_enter Tryz.func134,Tryz.ntmps134
 go_wp2
 go_loopw [7,8] (λ s9 s10 wr=>∃ lo hi:Nat,s9=.int .i64 lo/\s10=.int .i64 hi/\lo<=hi/\hi<=l.length/\Hid (lo<=lowS l nm/\lowS l nm<=hi)/\wr=w) (λ s9 s10 _=>(intOf s10).toNat-(intOf s9).toNat)
 case atStart=>exact⟨0,l.length,rfl,rfl,by omega,by omega,⟨by omega,HLE.out⟩,rfl⟩
 case round =>
  obtain⟨lo,hi,rfl,rfl,hlh,hin,HW,rfl⟩:=hrel
  by_cases hlt:lo<hi
  ·obtain⟨b1,off1,rfl,hb1,-,he1⟩:=hcell (by omega)
   have c10:wr.cell? ⟨b1,off1+(lo+hi) / 2,none⟩=some _:=he1 ((lo+hi) / 2) (by omega)
   have HC:=Qh (lib_Less (l[(lo+hi) / 2]'(by omega)) nm wr)
   clear he1 hcell
   cases hyx:sLess (l[(lo+hi) / 2]'(by omega)) nm
   ·have HL:Hid (lo<=lowS l nm/\lowS l nm<=(lo+hi) / 2):=by
     have h1:=HIFF.out ((lo+hi) / 2) (by omega)
     rw [hyx] at h1
     have h2:=of_decide_eq_false h1.symm
     exact⟨HW.out.1,by omega⟩
    rw [hyx] at HC
    clear hyx
    go_wp2_with (go_at_call 149;refine HC.out.mono ?_;rintro e w2 ⟨rfl,rfl⟩)
    go_roundw
    case rel=>exact⟨lo,(lo+hi) / 2,rfl,by first | rfl | rw [show ((lo:Int)+(hi:Int)) / 2=(((lo+hi) / 2:Nat):Int) by omega],by omega,by omega,HL,by trivial⟩
    case measure=>simp [intOf];omega
   ·have HL:Hid ((lo+hi) / 2+1<=lowS l nm/\lowS l nm<=hi):=by
     have h1:=HIFF.out ((lo+hi) / 2) (by omega)
     rw [hyx] at h1
     have h2:=of_decide_eq_true h1.symm
     exact⟨h2,HW.out.2⟩
    rw [hyx] at HC
    clear hyx
    go_wp2_with (go_at_call 149;refine HC.out.mono ?_;rintro e w2 ⟨rfl,rfl⟩)
    go_roundw
    case rel=>exact⟨(lo+hi) / 2+1,hi,by first | rfl | rw [show ((lo:Int)+(hi:Int)) / 2+1=(((lo+hi) / 2+1:Nat):Int) by omega],rfl,by omega,hin,HL,by trivial⟩
    case measure=>simp [intOf];omega
  ·obtain rfl:hi=lo:=by omega
   have hlow:lowS l nm=hi:=by have:=HW.out;omega
   by_cases hn2:hi<l.length
   ·have HD:Hid (isS l nm=(l[hi].toList==nm.toList)):=by
     subst hlow
     exact HIN.out hn2
    have HA:=Qh hlow
    clear hlow HIN HOUT HIFF HW HLE
    obtain⟨b1,off1,rfl,hb1,-,he1⟩:=hcell (by omega)
    have c10:wr.cell? ⟨b1,off1+hi,none⟩=some _:=he1 hi hn2
    clear he1 hcell
    cases hyx:(l[hi].toList==nm.toList)
    ·have HF:=Qh (HD.out.trans hyx)
     clear HD
     go_wp2_with (go_at_call 150;refine (Znk _ _).mono ?_;rintro e w2 ⟨rfl,rfl⟩)
     go_ret2
     exact⟨by rw [HA.out,HF.out];rfl,rfl⟩
    ·have HF:=Qh (HD.out.trans hyx)
     clear HD
     go_wp2
     go_ret2
     exact⟨by rw [HA.out,HF.out];rfl,rfl⟩
   ·have HF:=Qh (HOUT.out (by omega))
    have HA:=Qh hlow
    clear hlow HIN HOUT HIFF HW HLE
    go_wp2
    go_ret2
    exact⟨by rw [HA.out,HF.out];rfl,rfl⟩
/-! ### Names that are in both -/
theorem Zh0 (v:Value) (l:List ByteArray) (s:ByteArray) (fp:List Nat) (w:World) (H:(Zaa sStr).R w [v] l fp) :
  Calls Tryz.prog 97 #[v,.string s] w (Says (hasN l s) w):=by
 obtain⟨a,cap,rfl,hc,hm,hcell,-⟩:=Zaf H
 unfold maxLen at hm
 clear H
 go_enter Tryz.func97,Tryz.ntmps97
 go_wp2
 go_loopw [5] (λ i wr=>∃ k:Nat,k<=l.length/\i=.int .i64 k/\Hid (∀ j,(hj:j<l.length)->j<k->(l[j].toList==s.toList)=false)/\Below w.heap.size w wr) (λ i _=>l.length-(intOf i).toNat)
 case atStart=>exact⟨0,by omega,rfl,λ j _ h=>by omega,Below.refl _ _⟩
 case round =>
  obtain⟨k,hk,rfl,HP,hb⟩:=hrel
  by_cases hlt:k<l.length
  ·obtain⟨b1,off1,rfl,hb1,-,he1⟩:=hcell (by omega)
   have c10:wr.cell? ⟨b1,off1+k,none⟩=some _:=(hb.cell (p:=⟨b1,off1+k,none⟩) hb1).trans (he1 k hlt)
   clear he1 hcell
   cases g:(l[k].toList==s.toList)
   ·have HF:Hid (∀ j,(hj:j<l.length)->j<k+1->(l[j].toList==s.toList)=false):=λ j hj h=>by
     by_cases e:j=k
     ·subst e;exact g
     ·exact HP.out j hj (by omega)
    clear HP
    go_wp2
    go_roundw
    case rel=>exact⟨k+1,by omega,by go_num,HF,hb⟩
    case measure=>simp [intOf];omega
   ·have HF:=Qh (Zkn hlt g)
    clear HP
    go_wp2
    go_ret
    exact⟨Zad HF.out.symm,hb⟩
  ·have HF:=Qh (ZlO (l:=l) (s:=s) λ j hj=>HP.out j hj (by omega))
   clear HP
   go_wp2
   go_ret
   exact⟨Zad HF.out.symm,hb⟩
theorem ZlQ {a b:List ByteArray} (h:∀ i,(hi:i<a.length)->a[i].size<=maxLen):∀ i,(hi:i<(both a b).length)->okStr (both a b)[i]:=λ i hi=>by
 have hm:(both a b)[i]∈a:=(List.mem_filter.1 (List.getElem_mem hi)).1
 obtain⟨j,hj,e⟩:=List.getElem_of_mem hm
 rw [← e];exact h j hj
theorem ZgW (va vb:Value) (a b:List ByteArray) (fpa fpb:List Nat) (w:World) (ha:a.length<=1000000) (Ha:(Zaa sStr).R w [va] a fpa) (Hb:(Zaa sStr).R w [vb] b fpb) :
  Calls Tryz.prog 100 #[va,vb] w (Made (Zaa sStr) (both a b) w):=by
 obtain⟨aa,ca,rfl,hca,hma,hcell,hsz⟩:=Zaf Ha
 unfold maxLen at hma
 have HSZ:=Qh (ZlQ (b:=b) hsz)
 have HB:=Qh Hb
 have hlit:Hid ((w.alloc (.cells #[] 9)).ownsRow w.heap.size 9 1 (.slice (some ⟨w.heap.size,0,none⟩) 0 0) (both (a.take 0) b).length ((both (a.take 0) b).map Value.string)):=
  World.ownsRow_lit (base:=w.heap.size) (e:=9) (size:=1) w #[] 0 (Nat.le_refl _) (by simp) rfl
 have hba:=Zab w (.cells #[] 9)
 clear Ha Hb hsz
 go_enter Tryz.func100,Tryz.ntmps100
 go_wp2
 go_loopw [5,6] (λ o i wr=>∃ (k:Nat),k<=a.length/\i=.int .i64 k/\Hid (wr.ownsRow w.heap.size 9 1 o (both (a.take k) b).length ((both (a.take k) b).map Value.string))/\Below w.heap.size w wr) (λ _ i _=>a.length-(intOf i).toNat)
 case atStart=>exact⟨0,by omega,rfl,hlit,hba⟩
 case round =>
  clear hlit hba
  obtain⟨k,hk,rfl,HO,hb⟩:=hrel
  by_cases hlt:k<a.length
  ·obtain⟨b1,off1,rfl,hb1,-,he1⟩:=hcell (by omega)
   have c10:wr.cell? ⟨b1,off1+k,none⟩=some _:=(hb.cell (p:=⟨b1,off1+k,none⟩) hb1).trans (he1 k hlt)
   have HC:=Qh (Zh0 vb b a[k] fpb wr ((Zaa sStr).below HB.out hb))
   clear he1 hcell
   cases g:hasN b a[k]
   ·have HN:=Qh (ZlP hlt g)
    rw [g] at HC
    clear g
    go_wp2_with (go_at_call 97;refine HC.out.mono ?_;rintro e w2 ⟨rfl,hb2⟩)
    go_roundw
    case rel=>exact⟨k+1,by omega,by go_num,by show World.ownsRow _ _ _ _ _ _ _;rw [HN.out];exact Zbb HO.out λ g hg=>hb2.block g (HO.out.lt g hg).2,hb.trans (hb2.mono hb.size)⟩
    case measure=>simp [intOf];omega
   ·have HN:=Qh (Zko hlt g)
    rw [g] at HC
    clear g
    have hlen:(both (a.take k) b).length<=k:=Nat.le_trans (Zfe _ _) (by simp;omega)
    go_wp2_with fail
    refine HC.out.mono ?_
    rintro e w2 ⟨rfl,hb2⟩
    have hbw:=hb.trans (hb2.mono hb.size)
    have c11:w2.cell? ⟨b1,off1+k,none⟩=some _:=(hb2.cell (p:=⟨b1,off1+k,none⟩) (Nat.lt_of_lt_of_le hb1 hb.size)).trans c10
    have HO2:=Qh (Zbb (w':=w2) HO.out λ g hg=>hb2.block g (HO.out.lt g hg).2)
    clear HO hb2 c10 HC
    go_wp2_with (at_builtin;refine ZdC ti27 rfl _ (.string a[k]) rfl rfl (.tmp 20) (.tmp 25) rfl w.heap.size _ (both (a.take k) b).length ((both (a.take k) b).map Value.string) rfl HO2.out rfl (by unfold maxLen;omega) (by omega) hbw.size ?_;intro v3 w3 hE3 hg3)
    have hb3:Below w.heap.size w w3:=hbw.grown hg3 hbw.size (λ b hb=>(HO2.out.lt b hb).1)
    have HO3:Hid (w3.ownsRow w.heap.size 9 1 v3 (both (a.take (k+1)) b).length ((both (a.take (k+1)) b).map Value.string)):=by
     show World.ownsRow _ _ _ _ _ _ _
     rw [HN.out];simpa using hE3
    clear hE3 hg3 c11 hlen HO2
    go_roundw
    case rel=>exact⟨k+1,by omega,by go_num,HO3,hb3⟩
    case measure=>simp [intOf];omega
  ·have hO:=HO.out
   rw [Zkp (by omega)] at hO
   obtain⟨fpr,hR,hOw,-⟩:=Zb0 (ok:=okStr) hO HSZ.out
   have HR:=Qh (And.intro hR hOw)
   clear hO hR hOw HO
   go_wp2
   go_ret
   exact⟨_,fpr,rfl,HR.out.1,HR.out.2,hb⟩
theorem Zd7 (va vb:Value) (a b:List ByteArray) (fpa fpb:List Nat) (w:World) (ha:a.length<=1000000) (hbl:b.length<=1000000) (hu:Up b) (Ha:(Zaa sStr).R w [va] a fpa) (Hb:(Zaa sStr).R w [vb] b fpb) :
  Calls Tryz.prog 120 #[va,vb] w (Made (Zaa sStr) (both a b) w):=by
 obtain⟨aa,ca,rfl,hca,hma,hcell,hsz⟩:=Zaf Ha
 unfold maxLen at hma
 have HSZ:=Qh (ZlQ (b:=b) hsz)
 have HB:=Qh Hb
 have HU:=Qh hu
 have hlit:Hid (w.ownsRow w.heap.size 9 1 (.slice none 0 0) (both (a.take 0) b).length ((both (a.take 0) b).map Value.string)):=⟨rfl,.inl ⟨rfl,rfl⟩⟩
 clear Ha Hb hsz hu
 go_enter Tryz.func120,Tryz.ntmps120
 go_wp2
 go_loopw [5,12] (λ o i wr=>∃ (k:Nat),k<=a.length/\i=.int .i64 k/\Hid (wr.ownsRow w.heap.size 9 1 o (both (a.take k) b).length ((both (a.take k) b).map Value.string))/\Below w.heap.size w wr) (λ _ i _=>a.length-(intOf i).toNat)
 case atStart=>exact⟨0,by omega,rfl,hlit,Below.refl _ _⟩
 case round =>
  clear hlit
  obtain⟨k,hk,rfl,HO,hb⟩:=hrel
  by_cases hlt:k<a.length
  ·obtain⟨b1,off1,rfl,hb1,-,he1⟩:=hcell (by omega)
   have c10:wr.cell? ⟨b1,off1+k,none⟩=some _:=(hb.cell (p:=⟨b1,off1+k,none⟩) hb1).trans (he1 k hlt)
   have HC:=Qh (ZeF vb b a[k] fpb wr HU.out hbl ((Zaa sStr).below HB.out hb))
   have HI:=Qh (isS_has HU.out a[k])
   clear he1 hcell
   generalize lowS b a[k]=lo at HC
   cases g:hasN b a[k]
   ·have HN:=Qh (ZlP hlt g)
    rw [HI.out,g] at HC
    clear g HI
    go_wp2_with (go_at_call 134;refine HC.out.mono ?_;rintro e w2 ⟨rfl,rfl⟩)
    go_roundw
    case rel=>exact⟨k+1,by omega,by go_num,by show World.ownsRow _ _ _ _ _ _ _;rw [HN.out];exact HO.out,hb⟩
    case measure=>simp [intOf];omega
   ·have HN:=Qh (Zko hlt g)
    rw [HI.out,g] at HC
    clear g HI
    have hlen:(both (a.take k) b).length<=k:=Nat.le_trans (Zfe _ _) (by simp;omega)
    go_wp2_with (first
     | (go_at_call 134;refine HC.out.mono ?_;rintro e w2 ⟨rfl,rfl⟩)
     | (
      at_builtin;refine ZdC ti27 rfl _ (.string a[k]) rfl rfl (.tmp 23) (.tmp 25) rfl w.heap.size _ (both (a.take k) b).length ((both (a.take k) b).map Value.string) rfl HO.out rfl (by unfold maxLen;omega) (by omega) hb.size ?_;intro v3 w3 hE3 hg3
      have hb3:Below w.heap.size w w3:=hb.grown hg3 hb.size (λ b hb=>(HO.out.lt b hb).1)
      have HO3:Hid (w3.ownsRow w.heap.size 9 1 v3 (both (a.take (k+1)) b).length ((both (a.take (k+1)) b).map Value.string)):=by
       show World.ownsRow _ _ _ _ _ _ _
       rw [HN.out];simpa using hE3
      clear hE3 hg3 c10 hlen HO))
    go_roundw
    case rel=>exact⟨k+1,by omega,by go_num,HO3,hb3⟩
    case measure=>simp [intOf];omega
  ·have hO:=HO.out
   rw [Zkp (by omega)] at hO
   obtain⟨fpr,hR,hOw,-⟩:=Zb0 (ok:=okStr) hO HSZ.out
   have HR:=Qh (And.intro hR hOw)
   clear hO hR hOw HO
   go_wp2
   go_ret
   exact⟨_,fpr,rfl,HR.out.1,HR.out.2,hb⟩
def ZdP (a b:Tok) (w:World) (e:Ending) (w':World):Prop:=
 ∃ (cs:List Value) (fp:List Nat),e=.returned (.tuple #[.agg cs.toArray,.bool (Zaq a b).2])/\sTok.R w' cs (Zaq a b).1 fp/\Own w' w.heap.size fp/\Below w.heap.size w w'
theorem Zct {a b:Tok} {w w':World} (h:Zaq a b=(zTok,false)) (hb:Below w.heap.size w w'):ZdP a b w (.returned (.tuple #[.agg #[.int .i64 0,.string ⟨#[]⟩,.bool false,.slice none 0 0],.bool false])) w':=
 ⟨[.int .i64 0,.string ⟨#[]⟩,.bool false,.slice none 0 0],[],by rw [h],by rw [h];exact⟨_,rfl,by unfold okInt zTok;simp,by show (0:Nat)<=_;simp [maxLen],Zay sStr _ _ _ (by simp)⟩,Own.nil _ _,hb⟩
theorem ZgX {a b t:Tok} {hv:Value} {fp:List Nat} {w w':World} (h:Zaq a b=(⟨t.kind,t.text,a.spaced,both a.hidden b.hidden⟩,true)) (hk:okInt t.kind) (hs:okStr t.text) (HR:(Zaa sStr).R w' [hv] (both a.hidden b.hidden) fp) (HO:Own w' w.heap.size fp) (hb:Below w.heap.size w w') :
  ZdP a b w (.returned (.tuple #[.agg #[.int .i64 t.kind,.string t.text,.bool a.spaced,hv],.bool true])) w':=
 ⟨[.int .i64 t.kind,.string t.text,.bool a.spaced,hv],fp,by rw [h],by rw [h];exact⟨_,rfl,hk,hs,HR⟩,HO,hb⟩
theorem ZcK {w:World} {k:Int} {s:ByteArray} {p:Bool} {h:Value} {x:Tok} {fp:List Nat} (H:sTok.R w [.int .i64 k,.string s,.bool p,h] x fp):(Zaa sStr).R w [h] x.hidden fp:=by
 obtain⟨h',e,-,-,K⟩:=H
 simp only [List.cons.injEq,and_true] at e
 rw [e.2.2.2];exact K
theorem Zby {t:Tok} (h:tokOk t=true):hidOk t.hidden=true:=by unfold tokOk at h;exact(Bool.and_eq_true_iff.1 h).2
theorem Zjm {w:World} {v:Value} {t:Tok} {fp:List Nat} (h:(Zaa sTok).R w [v] [t] fp) :
  ∃ (b off cap:Nat) (ah:Option Addr) (ch:Nat),v=.slice (some ⟨b,off,none⟩) 1 cap/\1<=cap/\cap<=maxLen/\b<w.heap.size/\b∈fp/\w.cell? ⟨b,off,none⟩=some (.int .i64 t.kind)/\w.cell? ⟨b,off+1,none⟩=some (.string t.text)/\w.cell? ⟨b,off+2,none⟩=some (.bool t.spaced)/\w.cell? ⟨b,off+3,none⟩=some (.slice ah t.hidden.length ch)/\okInt t.kind/\okStr t.text:=by
 obtain⟨a,cap,rfl,hc,hm,hrow⟩:=Zac h
 obtain⟨b,off,fps,rfl,hb,hfp,he⟩:=hrow (by simp)
 obtain⟨es,hE,hR⟩:=he 0 (by simp)
 obtain⟨hv,rfl,hk,hs,K⟩:=hR
 obtain⟨ah,ch,rfl,-⟩:=Zaf K
 have c0:w.cell? ⟨b,off+0 * 4,none⟩=some _:=Zam hE (by decide) rfl
 have c1:w.cell? ⟨b,off+0 * 4+1,none⟩=some _:=Zae (j:=1) hE (by decide) rfl
 have c2:w.cell? ⟨b,off+0 * 4+2,none⟩=some _:=Zae (j:=2) hE (by decide) rfl
 have c3:w.cell? ⟨b,off+0 * 4+3,none⟩=some _:=Zae (j:=3) hE (by decide) rfl
 simp only [Nat.zero_mul,Nat.add_zero] at c0 c1 c2 c3
 exact⟨b,off,cap,ah,ch,rfl,by simpa using hc,hm,hb,by rw [hfp];simp,c0,c1,c2,c3,hk,hs⟩
theorem Y12A2 {g:Prop} (h:g:=by
 have z0:=Qc 0 HZ.out
 have zz0:=Qf 0 HZ.out
 have z1:=Qc 1 HZ.out
 have zz1:=Qf 1 HZ.out
 have z2:=Qc 2 HZ.out
 have zz2:=Qf 2 HZ.out
 have z3:=Qc 3 HZ.out
 have zz3:=Qf 3 HZ.out
 have HS:=Qh (ZaH HZ.out (.int .i64 0) (.string ⟨#[]⟩) (.bool false) (.slice none 0 0))
 have HBF:=Qh (Zav hB8 (g:=w.heap.size+1+1) (by omega) (.int .i64 0) (.string ⟨#[]⟩) (.bool false) (.slice none 0 0))
 unfold set4 at HS HBF
 go_wp2
 refine bodyPost_ret (Zat rfl _ _ (w.heap.size+1+1) _ _ _ _ rfl HS.out Tryz.underlying32 rfl (by kernel_rfl)) rfl ?_
 exact Zct HF.out HBF.out):g:=h
theorem Zhj (ca cb:List Value) (a b:Tok) (fpa fpb:List Nat) (w:World) (hla:a.hidden.length<=2000000) (hlb:b.hidden.length<=2000000) (HA0:sTok.R w ca a fpa) (HB0:sTok.R w cb b fpb) :
  Calls Tryz.prog 129 #[.agg ca.toArray,.agg cb.toArray] w (ZdP a b w):=by
 have HA0':=HA0
 have HB0':=HB0
 obtain⟨ha,rfl,-,-,-⟩:=HA0'
 obtain⟨hb,rfl,-,-,-⟩:=HB0'
 have hb3:=ZeL w #[.int .i64 a.kind,.string a.text,.bool a.spaced,ha] #[.int .i64 b.kind,.string b.text,.bool b.spaced,hb] #[.int .i64 0,.string ⟨#[]⟩,.bool false,.slice none 0 0] 32 32 32
 have HA:=Qh (Zcy w #[.int .i64 a.kind,.string a.text,.bool a.spaced,ha] #[.int .i64 b.kind,.string b.text,.bool b.spaced,hb] #[.int .i64 0,.string ⟨#[]⟩,.bool false,.slice none 0 0] 32 32 32)
 obtain⟨g1,g2,hs3⟩:=Zcp w #[.int .i64 a.kind,.string a.text,.bool a.spaced,ha] #[.int .i64 b.kind,.string b.text,.bool b.spaced,hb] #[.int .i64 0,.string ⟨#[]⟩,.bool false,.slice none 0 0] 32 32 32
 have HB:=Qh g1
 have HZ:=Qh g2
 have HRA:=Qh (sTok.below HA0 hb3)
 have HRB:=Qh (sTok.below HB0 hb3)
 have HNB:Hid (w.heap.size∉fpb/\w.heap.size+1∉fpb):=⟨λ hx=>by have:=sTok.lt HB0 _ hx;omega,λ hx=>by have:=sTok.lt HB0 _ hx;omega⟩
 have hB3:=hb3
 clear HA0 HB0 g1 g2 hb3
 go_enter Tryz.func129,Tryz.ntmps129
 go_upto_region 1 with fail
 generalize (((w.alloc (.cells #[.int .i64 a.kind,.string a.text,.bool a.spaced,ha] 32)).alloc (.cells #[.int .i64 b.kind,.string b.text,.bool b.spaced,hb] 32)).alloc (.cells #[.int .i64 0,.string ⟨#[]⟩,.bool false,.slice none 0 0] 32))=W3 at *
 have HCa:=Qh (ZcV _ _ _ W3 hla HRA.out)
 obtain⟨c0,c1,c2,c3⟩:=Q4 HA.out
 go_wp2_with fail
 refine HCa.out.mono ?_
 rintro e w4 ⟨aoa,coa,foa,rfl,Ra,loa,tya,b4⟩
 clear c0 c1 c2 c3 HCa
 replace HA:=Qh (mbox HA.out b4)
 replace HB:=Qh (mbox HB.out b4)
 replace HZ:=Qh (mbox HZ.out b4)
 have c0:=Qc 0 HA.out
 have cz0:=Qf 0 HA.out
 have c1:=Qc 1 HA.out
 have cz1:=Qf 1 HA.out
 have c2:=Qc 2 HA.out
 have cz2:=Qf 2 HA.out
 have c3:=Qc 3 HA.out
 have cz3:=Qf 3 HA.out
 have hsz4:w.heap.size+3<=w4.heap.size:=by have:=b4.size;omega
 have hB4:=Zav (hB3.trans (b4.mono hB3.size)) (g:=w.heap.size) (by omega) (.int .i64 a.kind) (.string a.text) (.bool a.spaced) (.slice aoa a.hidden.length coa)
 replace HRA:=Qh (sTok.set4R Ra (g:=w.heap.size) (λ hx=>by have:=loa _ hx;omega) (.int .i64 a.kind) (.string a.text) (.bool a.spaced) (.slice aoa a.hidden.length coa))
 replace HRB:=Qh (sTok.set4R (sTok.below HRB.out b4) (g:=w.heap.size) (HNB.out.1) (.int .i64 a.kind) (.string a.text) (.bool a.spaced) (.slice aoa a.hidden.length coa))
 replace HA:=Qh (ZaH HA.out (.int .i64 a.kind) (.string a.text) (.bool a.spaced) (.slice aoa a.hidden.length coa))
 replace HB:=Qh ((Zdb (g:=w.heap.size) (by omega) (.int .i64 a.kind) (.string a.text) (.bool a.spaced) (.slice aoa a.hidden.length coa)).trans HB.out)
 replace HZ:=Qh ((Zdb (g:=w.heap.size) (by omega) (.int .i64 a.kind) (.string a.text) (.bool a.spaced) (.slice aoa a.hidden.length coa)).trans HZ.out)
 have hs4:w.heap.size+3<=(set4 w4 (w.heap.size) (.int .i64 a.kind) (.string a.text) (.bool a.spaced) (.slice aoa a.hidden.length coa)).heap.size:=by rw [ZbM];omega
 have HNA:Hid (w.heap.size+1∉foa):=λ hx=>by have:=loa _ hx;omega
 unfold set4 at hB4 HRA HRB HA HB HZ hs4
 go_upto_region 2 with fail
 clear c0 c1 c2 c3 cz0 cz1 cz2 cz3 Ra loa tya b4 hsz4
 generalize ((((w4.setCell ⟨w.heap.size,0,none⟩ (.int .i64 a.kind)).setCell ⟨w.heap.size,1,none⟩ (.string a.text)).setCell ⟨w.heap.size,2,none⟩ (.bool a.spaced)).setCell ⟨w.heap.size,3,none⟩ (.slice aoa a.hidden.length coa))=W4 at *
 have HCb:=Qh (ZcV _ _ _ W4 hlb HRB.out)
 obtain⟨c0,c1,c2,c3⟩:=Q4 HB.out
 go_wp2_with fail
 refine HCb.out.mono ?_
 rintro e w5 ⟨aob,cob,fob,rfl,Rb,lob,tyb,b5⟩
 clear c0 c1 c2 c3 HCb
 replace HA:=Qh (mbox HA.out b5)
 replace HB:=Qh (mbox HB.out b5)
 replace HZ:=Qh (mbox HZ.out b5)
 have c0:=Qc 0 HB.out
 have cz0:=Qf 0 HB.out
 have c1:=Qc 1 HB.out
 have cz1:=Qf 1 HB.out
 have c2:=Qc 2 HB.out
 have cz2:=Qf 2 HB.out
 have c3:=Qc 3 HB.out
 have cz3:=Qf 3 HB.out
 have hsz5:w.heap.size+3<=w5.heap.size:=by have:=b5.size;omega
 have hB5:=Zav (hB4.trans (b5.mono hB4.size)) (g:=w.heap.size+1) (by omega) (.int .i64 b.kind) (.string b.text) (.bool b.spaced) (.slice aob b.hidden.length cob)
 replace HRB:=Qh (sTok.set4R Rb (g:=w.heap.size+1) (λ hx=>by have:=lob _ hx;omega) (.int .i64 b.kind) (.string b.text) (.bool b.spaced) (.slice aob b.hidden.length cob))
 replace HRA:=Qh (sTok.set4R (sTok.below HRA.out b5) (g:=w.heap.size+1) (HNA.out) (.int .i64 b.kind) (.string b.text) (.bool b.spaced) (.slice aob b.hidden.length cob))
 replace HA:=Qh ((Zdb (g:=w.heap.size+1) (by omega) (.int .i64 b.kind) (.string b.text) (.bool b.spaced) (.slice aob b.hidden.length cob)).trans HA.out)
 replace HB:=Qh (ZaH HB.out (.int .i64 b.kind) (.string b.text) (.bool b.spaced) (.slice aob b.hidden.length cob))
 replace HZ:=Qh ((Zdb (g:=w.heap.size+1) (by omega) (.int .i64 b.kind) (.string b.text) (.bool b.spaced) (.slice aob b.hidden.length cob)).trans HZ.out)
 have hs5:w.heap.size+3<=(set4 w5 (w.heap.size+1) (.int .i64 b.kind) (.string b.text) (.bool b.spaced) (.slice aob b.hidden.length cob)).heap.size:=by rw [ZbM];omega
 unfold set4 at hB5 HRA HRB HA HB HZ hs5
 go_upto_region 3 with fail
 clear c0 c1 c2 c3 cz0 cz1 cz2 cz3 Rb lob tyb b5 hsz5
 generalize ((((w5.setCell ⟨w.heap.size+1,0,none⟩ (.int .i64 b.kind)).setCell ⟨w.heap.size+1,1,none⟩ (.string b.text)).setCell ⟨w.heap.size+1,2,none⟩ (.bool b.spaced)).setCell ⟨w.heap.size+1,3,none⟩ (.slice aob b.hidden.length cob))=W5 at *
 have HVA:=Qh (ZbJ _ _ _ W5 HRA.out)
 obtain⟨c0,c1,c2,c3⟩:=Q4 HA.out
 cases hva:tokOk a
 ·rw [hva] at HVA
  have HF:=Qh (Zjh (b:=b) hva)
  clear hva
  go_wp2_with fail
  refine HVA.out.mono ?_
  rintro e w6 ⟨rfl,b6⟩
  replace HZ:=Qh (mbox HZ.out b6)
  have hB6:=hB5.trans (b6.mono hB5.size)
  have z0:=Qc 0 HZ.out
  have zz0:=Qf 0 HZ.out
  have z1:=Qc 1 HZ.out
  have zz1:=Qf 1 HZ.out
  have z2:=Qc 2 HZ.out
  have zz2:=Qf 2 HZ.out
  have z3:=Qc 3 HZ.out
  have zz3:=Qf 3 HZ.out
  have HS:=Qh (ZaH HZ.out (.int .i64 0) (.string ⟨#[]⟩) (.bool false) (.slice none 0 0))
  have HBF:=Qh (Zav hB6 (g:=w.heap.size+1+1) (by omega) (.int .i64 0) (.string ⟨#[]⟩) (.bool false) (.slice none 0 0))
  unfold set4 at HS HBF
  go_wp2
  refine bodyPost_ret (Zat rfl _ _ (w.heap.size+1+1) _ _ _ _ rfl HS.out Tryz.underlying32 rfl (by kernel_rfl)) rfl ?_
  exact Zct HF.out HBF.out
 rw [hva] at HVA
 go_wp2_with fail
 refine HVA.out.mono ?_
 rintro e w6 ⟨rfl,b6⟩
 clear c0 c1 c2 c3 HVA
 replace HA:=Qh (mbox HA.out b6)
 replace HB:=Qh (mbox HB.out b6)
 replace HZ:=Qh (mbox HZ.out b6)
 replace HRA:=Qh (sTok.below HRA.out b6)
 replace HRB:=Qh (sTok.below HRB.out b6)
 have hB6:=hB5.trans (b6.mono hB5.size)
 clear b6
 have HVB:=Qh (ZbJ _ _ _ w6 HRB.out)
 obtain⟨c0,c1,c2,c3⟩:=Q4 HB.out
 cases hvb:tokOk b
 ·rw [hvb] at HVB
  have HF:=Qh (Zji (a:=a) hvb)
  clear hva hvb
  go_wp2_with fail
  refine HVB.out.mono ?_
  rintro e w7 ⟨rfl,b7⟩
  replace HZ:=Qh (mbox HZ.out b7)
  have hB7:=hB6.trans (b7.mono hB6.size)
  have z0:=Qc 0 HZ.out
  have zz0:=Qf 0 HZ.out
  have z1:=Qc 1 HZ.out
  have zz1:=Qf 1 HZ.out
  have z2:=Qc 2 HZ.out
  have zz2:=Qf 2 HZ.out
  have z3:=Qc 3 HZ.out
  have zz3:=Qf 3 HZ.out
  have HS:=Qh (ZaH HZ.out (.int .i64 0) (.string ⟨#[]⟩) (.bool false) (.slice none 0 0))
  have HBF:=Qh (Zav hB7 (g:=w.heap.size+1+1) (by omega) (.int .i64 0) (.string ⟨#[]⟩) (.bool false) (.slice none 0 0))
  unfold set4 at HS HBF
  go_wp2
  refine bodyPost_ret (Zat rfl _ _ (w.heap.size+1+1) _ _ _ _ rfl HS.out Tryz.underlying32 rfl (by kernel_rfl)) rfl ?_
  exact Zct HF.out HBF.out
 rw [hvb] at HVB
 go_wp2_with fail
 refine HVB.out.mono ?_
 rintro e w7 ⟨rfl,b7⟩
 clear c0 c1 c2 c3 HVB
 replace HA:=Qh (mbox HA.out b7)
 replace HB:=Qh (mbox HB.out b7)
 replace HZ:=Qh (mbox HZ.out b7)
 replace HRA:=Qh (sTok.below HRA.out b7)
 replace HRB:=Qh (sTok.below HRB.out b7)
 have hB7:=hB6.trans (b7.mono hB6.size)
 clear b7
 have hzt:=mlt HZ.out
 have hsa:=(ZaP hva).2
 have hsb:=(ZaP hvb).2
 have HT:=Qh (λ W=>Zb4 (a.text++b.text) W (by rw [ByteArray.size_append];unfold maxLen;omega))
 have ad:=λ W=>run_string_add_sum (P:=Tryz.prog) W a.text b.text (by omega)
 obtain⟨l,ok,htr⟩:∃ l ok,Zar (a.text++b.text)=(l,ok):=⟨_,_,rfl⟩
 have HTR:=Qh htr
 rw [htr] at HT
 clear htr
 have HVV:=Qh (And.intro hva hvb)
 clear hva hvb
 obtain⟨c0,c1,c2,c3⟩:=Q4 HA.out
 obtain⟨d0,d1,d2,d3⟩:=Q4 HB.out
 go_wp2_with fail
 refine (HT.out _).mono ?_
 rintro e w8 ⟨vt,fpt,rfl,RT,OT,b8⟩
 clear c0 c1 c2 c3 d0 d1 d2 d3 HT ad
 replace HA:=Qh (mbox HA.out b8)
 replace HB:=Qh (mbox HB.out b8)
 replace HZ:=Qh (mbox HZ.out b8)
 replace HRA:=Qh (sTok.below HRA.out b8)
 replace HRB:=Qh (sTok.below HRB.out b8)
 have hB8:=hB7.trans (b8.mono hB7.size)
 clear b8
 cases ok
 ·have HF:=Qh (Zjj HTR.out)
  clear HTR RT OT
  exact Y12A2
 by_cases hl1:l.length=1
 rotate_left
 ·have HF:=Qh (Zjk HTR.out hl1)
  obtain⟨at_,ct_,rfl,-⟩:=Zac RT
  have hl2:((l.length:Int) != 1)=true:=by simp;omega
  clear HTR RT hl1 OT
  exact Y12A2
 obtain⟨t,rfl⟩:∃ t,l=[t]:=List.length_eq_one_iff.1 hl1
 clear hl1
 have HF:=Qh (Zjl HVV.out.1 HVV.out.2 HTR.out)
 obtain⟨bt,ot,ct,ath,cth,rfl,hc1,hcm,hbt,hmem,t0,t1,t2,t3,okk,oks⟩:=Zjm RT
 have hbt2:=(OT.2 bt hmem).1
 unfold maxLen at hcm
 clear RT HTR OT hmem
 have hla2:a.hidden.length<=1000000:=by have:=(Zdw (Zby HVV.out.1)).1;omega
 have HL:=Qh (λ U (hU:Below w8.heap.size w8 U)=>ZgW _ _ a.hidden b.hidden _ _ U hla2 (ZcK (sTok.below HRA.out hU)) (ZcK (sTok.below HRB.out hU)))
 obtain⟨c0,c1,c2,c3⟩:=Q4 HA.out
 obtain⟨d0,d1,d2,d3⟩:=Q4 HB.out
 have hz9:w.heap.size+3<=w8.heap.size:=by have:=hB8.size;have:=mlt HZ.out;omega
 have hcs:Below w8.heap.size w8 w8.drew:=Zag (Below.refl _ _) 1
 replace c2:w8.drew.cell? ⟨w.heap.size,2,none⟩=some (.bool a.spaced):=c2
 replace c3:w8.drew.cell? ⟨w.heap.size,3,none⟩=some (.slice aoa a.hidden.length coa):=c3
 replace d3:w8.drew.cell? ⟨w.heap.size+1,3,none⟩=some (.slice aob b.hidden.length cob):=d3
 replace t0:w8.drew.cell? ⟨bt,ot,none⟩=some (.int .i64 t.kind):=t0
 replace t1:w8.drew.cell? ⟨bt,ot+1,none⟩=some (.string t.text):=t1
 have HK1:∀ U:World,Below w8.drew.heap.size w8.drew U->U.cell? ⟨w.heap.size,2,none⟩=some (.bool a.spaced)/\U.cell? ⟨w.heap.size,3,none⟩=some (.slice aoa a.hidden.length coa)/\U.cell? ⟨w.heap.size+1,3,none⟩=some (.slice aob b.hidden.length cob)/\U.cell? ⟨bt,ot,none⟩=some (.int .i64 t.kind)/\U.cell? ⟨bt,ot+1,none⟩=some (.string t.text):=λ U hU=>⟨(hU.cell (by show _<w8.heap.size;simp only;omega)).trans c2,(hU.cell (by show _<w8.heap.size;simp only;omega)).trans c3,(hU.cell (by show _<w8.heap.size;simp only;omega)).trans d3,(hU.cell (by show _<w8.heap.size;simp only;omega)).trans t0,(hU.cell (by show _<w8.heap.size;simp only;omega)).trans t1⟩
 have HK2:∀ U:World,Below w8.drew.heap.size w8.drew U->∀ v0 v1 v2 v3:Value,((((U.setCell ⟨w.heap.size+1+1,0,none⟩ v0).setCell ⟨w.heap.size+1+1,1,none⟩ v1).setCell ⟨w.heap.size+1+1,2,none⟩ v2).setCell ⟨w.heap.size+1+1,3,none⟩ v3).cell? ⟨w.heap.size,2,none⟩=some (.bool a.spaced)/\((((U.setCell ⟨w.heap.size+1+1,0,none⟩ v0).setCell ⟨w.heap.size+1+1,1,none⟩ v1).setCell ⟨w.heap.size+1+1,2,none⟩ v2).setCell ⟨w.heap.size+1+1,3,none⟩ v3).cell? ⟨w.heap.size,3,none⟩=some (.slice aoa a.hidden.length coa)/\((((U.setCell ⟨w.heap.size+1+1,0,none⟩ v0).setCell ⟨w.heap.size+1+1,1,none⟩ v1).setCell ⟨w.heap.size+1+1,2,none⟩ v2).setCell ⟨w.heap.size+1+1,3,none⟩ v3).cell? ⟨w.heap.size+1,3,none⟩=some (.slice aob b.hidden.length cob)/\((((U.setCell ⟨w.heap.size+1+1,0,none⟩ v0).setCell ⟨w.heap.size+1+1,1,none⟩ v1).setCell ⟨w.heap.size+1+1,2,none⟩ v2).setCell ⟨w.heap.size+1+1,3,none⟩ v3).cell? ⟨bt,ot,none⟩=some (.int .i64 t.kind)/\((((U.setCell ⟨w.heap.size+1+1,0,none⟩ v0).setCell ⟨w.heap.size+1+1,1,none⟩ v1).setCell ⟨w.heap.size+1+1,2,none⟩ v2).setCell ⟨w.heap.size+1+1,3,none⟩ v3).cell? ⟨bt,ot+1,none⟩=some (.string t.text):=λ U hU v0 v1 v2 v3=>by
  obtain⟨k1,k2,k3,k4,k5⟩:=HK1 U hU
  exact⟨(ZcW (by omega) _ _ _ _ _).trans k1,(ZcW (by omega) _ _ _ _ _).trans k2,(ZcW (by omega) _ _ _ _ _).trans k3,(ZcW (by omega) _ _ _ _ _).trans k4,(ZcW (by omega) _ _ _ _ _).trans k5⟩
 have HZD:Hid (w8.drew.heap[w.heap.size+1+1]?=_):=HZ
 clear c0 c1 d0 d1 d2
 go_wp2_with fail
 go_region_held3 (λ w'=>w'.cell? ⟨w.heap.size,2,none⟩=some (.bool a.spaced)/\w'.cell? ⟨w.heap.size,3,none⟩=some (.slice aoa a.hidden.length coa)/\w'.cell? ⟨w.heap.size+1,3,none⟩=some (.slice aob b.hidden.length cob)/\w'.cell? ⟨bt,ot,none⟩=some (.int .i64 t.kind)/\w'.cell? ⟨bt,ot+1,none⟩=some (.string t.text))
  (first | (with_reducible exact⟨c2,c3,d3,t0,t1⟩) | (with_reducible exact HK1 _ b9) | (with_reducible exact HK2 _ b9 _ _ _ _))
  (first | (go_at_call 100;(with_reducible refine (HL.out _ hcs).mono ?_);rintro e w9 ⟨vv,fv,rfl,RV,OV,b9⟩;obtain⟨av,cv,rfl,-⟩:=Zaf RV;have HZN:=mbox HZD.out b9;have z0:=Qc 0 HZN;have zz0:=Qf 0 HZN;have z1:=Qc 1 HZN;have zz1:=Qf 1 HZN;have z2:=Qc 2 HZN;have zz2:=Qf 2 HZN;have z3:=Qc 3 HZN;have zz3:=Qf 3 HZN))
 have HS:=Qh (ZaH (mbox HZD.out b9) (.int .i64 t.kind) (.string t.text) (.bool a.spaced) (.slice av (both a.hidden b.hidden).length cv))
 have hbk:=hB8.trans ((hcs.trans (b9.mono (Nat.le_refl _))).mono hB8.size)
 have HBF:=Qh (Zav hbk (g:=w.heap.size+1+1) (by omega) (.int .i64 t.kind) (.string t.text) (.bool a.spaced) (.slice av (both a.hidden b.hidden).length cv))
 have hfv:w.heap.size+1+1∉fv:=λ hx=>by have h1:=(OV.2 _ hx).1;have h2:w8.heap.size<=w.heap.size+1+1:=h1;omega
 have HRF:=Qh ((Zaa sStr).set4R RV hfv (.int .i64 t.kind) (.string t.text) (.bool a.spaced) (.slice av (both a.hidden b.hidden).length cv))
 have HOF:=Qh (Own.set4 (g:=w.heap.size+1+1) (OV.lower (show w.heap.size<=w8.heap.size by omega)) (.int .i64 t.kind) (.string t.text) (.bool a.spaced) (.slice av (both a.hidden b.hidden).length cv))
 unfold set4 at HS HBF HRF HOF
 go_wp2
 refine bodyPost_ret (Zat rfl _ _ (w.heap.size+1+1) _ _ _ _ rfl HS.out Tryz.underlying32 rfl (by kernel_rfl)) rfl ?_
 exact ZgX HF.out okk oks HRF.out HOF.out HBF.out
theorem Y12A3 {g:Prop} (h:g:=by
 have z0:=Qc 0 HZ.out
 have zz0:=Qf 0 HZ.out
 have z1:=Qc 1 HZ.out
 have zz1:=Qf 1 HZ.out
 have z2:=Qc 2 HZ.out
 have zz2:=Qf 2 HZ.out
 have z3:=Qc 3 HZ.out
 have zz3:=Qf 3 HZ.out
 have HS:=Qh (ZaH HZ.out (.int .i64 0) (.string ⟨#[]⟩) (.bool false) (.slice none 0 0))
 have HBF:=Qh (Zav hB8 (g:=w.heap.size+1+1) (by omega) (.int .i64 0) (.string ⟨#[]⟩) (.bool false) (.slice none 0 0))
 unfold set4 at HS HBF
 go_wp2
 refine bodyPost_ret (Zat rfl _ _ (w.heap.size+1+1) _ _ _ _ rfl HS.out Tryz.underlying32 rfl (by kernel_rfl)) rfl ?_
 exact Zct HF.out HBF.out):g:=h
theorem Zhk (ca cb:List Value) (a b:Tok) (fpa fpb:List Nat) (w:World) (hla:a.hidden.length<=2000000) (hlb:b.hidden.length<=2000000) (HA0:sTok.R w ca a fpa) (HB0:sTok.R w cb b fpb) :
  Calls Tryz.prog 156 #[.agg ca.toArray,.agg cb.toArray] w (ZdP a b w):=by
 have HA0':=HA0
 have HB0':=HB0
 obtain⟨ha,rfl,-,-,-⟩:=HA0'
 obtain⟨hb,rfl,-,-,-⟩:=HB0'
 have hb3:=ZeL w #[.int .i64 a.kind,.string a.text,.bool a.spaced,ha] #[.int .i64 b.kind,.string b.text,.bool b.spaced,hb] #[.int .i64 0,.string ⟨#[]⟩,.bool false,.slice none 0 0] 32 32 32
 have HA:=Qh (Zcy w #[.int .i64 a.kind,.string a.text,.bool a.spaced,ha] #[.int .i64 b.kind,.string b.text,.bool b.spaced,hb] #[.int .i64 0,.string ⟨#[]⟩,.bool false,.slice none 0 0] 32 32 32)
 obtain⟨g1,g2,hs3⟩:=Zcp w #[.int .i64 a.kind,.string a.text,.bool a.spaced,ha] #[.int .i64 b.kind,.string b.text,.bool b.spaced,hb] #[.int .i64 0,.string ⟨#[]⟩,.bool false,.slice none 0 0] 32 32 32
 have HB:=Qh g1
 have HZ:=Qh g2
 have HRA:=Qh (sTok.below HA0 hb3)
 have HRB:=Qh (sTok.below HB0 hb3)
 have HNB:Hid (w.heap.size∉fpb/\w.heap.size+1∉fpb):=⟨λ hx=>by have:=sTok.lt HB0 _ hx;omega,λ hx=>by have:=sTok.lt HB0 _ hx;omega⟩
 have hB3:=hb3
 clear HA0 HB0 g1 g2 hb3
 go_enter Tryz.func156,Tryz.ntmps156
 go_upto_region 1 with fail
 generalize (((w.alloc (.cells #[.int .i64 a.kind,.string a.text,.bool a.spaced,ha] 32)).alloc (.cells #[.int .i64 b.kind,.string b.text,.bool b.spaced,hb] 32)).alloc (.cells #[.int .i64 0,.string ⟨#[]⟩,.bool false,.slice none 0 0] 32))=W3 at *
 have HVA:=Qh (ZcS _ _ _ W3 HRA.out)
 obtain⟨c0,c1,c2,c3⟩:=Q4 HA.out
 cases hva:tokOk a
 ·rw [hva] at HVA
  have HF:=Qh (Zjh (b:=b) hva)
  clear hva
  go_wp2_with fail
  refine HVA.out.mono ?_
  rintro e w6 ⟨rfl,b6⟩
  replace HZ:=Qh (mbox HZ.out b6)
  have hB6:=hB3.trans (b6.mono hB3.size)
  have z0:=Qc 0 HZ.out
  have zz0:=Qf 0 HZ.out
  have z1:=Qc 1 HZ.out
  have zz1:=Qf 1 HZ.out
  have z2:=Qc 2 HZ.out
  have zz2:=Qf 2 HZ.out
  have z3:=Qc 3 HZ.out
  have zz3:=Qf 3 HZ.out
  have HS:=Qh (ZaH HZ.out (.int .i64 0) (.string ⟨#[]⟩) (.bool false) (.slice none 0 0))
  have HBF:=Qh (Zav hB6 (g:=w.heap.size+1+1) (by omega) (.int .i64 0) (.string ⟨#[]⟩) (.bool false) (.slice none 0 0))
  unfold set4 at HS HBF
  go_wp2
  refine bodyPost_ret (Zat rfl _ _ (w.heap.size+1+1) _ _ _ _ rfl HS.out Tryz.underlying32 rfl (by kernel_rfl)) rfl ?_
  exact Zct HF.out HBF.out
 rw [hva] at HVA
 go_wp2_with fail
 refine HVA.out.mono ?_
 rintro e w6 ⟨rfl,b6⟩
 clear c0 c1 c2 c3 HVA
 replace HA:=Qh (mbox HA.out b6)
 replace HB:=Qh (mbox HB.out b6)
 replace HZ:=Qh (mbox HZ.out b6)
 replace HRA:=Qh (sTok.below HRA.out b6)
 replace HRB:=Qh (sTok.below HRB.out b6)
 have hB6:=hB3.trans (b6.mono hB3.size)
 clear b6
 have HVB:=Qh (ZcS _ _ _ w6 HRB.out)
 obtain⟨c0,c1,c2,c3⟩:=Q4 HB.out
 cases hvb:tokOk b
 ·rw [hvb] at HVB
  have HF:=Qh (Zji (a:=a) hvb)
  clear hva hvb
  go_wp2_with fail
  refine HVB.out.mono ?_
  rintro e w7 ⟨rfl,b7⟩
  replace HZ:=Qh (mbox HZ.out b7)
  have hB7:=hB6.trans (b7.mono hB6.size)
  have z0:=Qc 0 HZ.out
  have zz0:=Qf 0 HZ.out
  have z1:=Qc 1 HZ.out
  have zz1:=Qf 1 HZ.out
  have z2:=Qc 2 HZ.out
  have zz2:=Qf 2 HZ.out
  have z3:=Qc 3 HZ.out
  have zz3:=Qf 3 HZ.out
  have HS:=Qh (ZaH HZ.out (.int .i64 0) (.string ⟨#[]⟩) (.bool false) (.slice none 0 0))
  have HBF:=Qh (Zav hB7 (g:=w.heap.size+1+1) (by omega) (.int .i64 0) (.string ⟨#[]⟩) (.bool false) (.slice none 0 0))
  unfold set4 at HS HBF
  go_wp2
  refine bodyPost_ret (Zat rfl _ _ (w.heap.size+1+1) _ _ _ _ rfl HS.out Tryz.underlying32 rfl (by kernel_rfl)) rfl ?_
  exact Zct HF.out HBF.out
 rw [hvb] at HVB
 go_wp2_with fail
 refine HVB.out.mono ?_
 rintro e w7 ⟨rfl,b7⟩
 clear c0 c1 c2 c3 HVB
 replace HA:=Qh (mbox HA.out b7)
 replace HB:=Qh (mbox HB.out b7)
 replace HZ:=Qh (mbox HZ.out b7)
 replace HRA:=Qh (sTok.below HRA.out b7)
 replace HRB:=Qh (sTok.below HRB.out b7)
 have hB7:=hB6.trans (b7.mono hB6.size)
 clear b7
 have hzt:=mlt HZ.out
 have hsa:=(ZaP hva).2
 have hsb:=(ZaP hvb).2
 have HT:=Qh (λ W=>ZfB (a.text++b.text) W (by rw [ByteArray.size_append];unfold maxLen;omega))
 have ad:=λ W=>run_string_add_sum (P:=Tryz.prog) W a.text b.text (by omega)
 obtain⟨l,ok,htr⟩:∃ l ok,Zar (a.text++b.text)=(l,ok):=⟨_,_,rfl⟩
 have HTR:=Qh htr
 rw [htr] at HT
 clear htr
 have HVV:=Qh (And.intro hva hvb)
 clear hva hvb
 obtain⟨c0,c1,c2,c3⟩:=Q4 HA.out
 obtain⟨d0,d1,d2,d3⟩:=Q4 HB.out
 go_wp2_with fail
 refine (HT.out _).mono ?_
 rintro e w8 ⟨vt,fpt,rfl,RT,OT,b8⟩
 clear c0 c1 c2 c3 d0 d1 d2 d3 HT ad
 replace HA:=Qh (mbox HA.out b8)
 replace HB:=Qh (mbox HB.out b8)
 replace HZ:=Qh (mbox HZ.out b8)
 replace HRA:=Qh (sTok.below HRA.out b8)
 replace HRB:=Qh (sTok.below HRB.out b8)
 have hB8:=hB7.trans (b8.mono hB7.size)
 clear b8
 cases ok
 ·have HF:=Qh (Zjj HTR.out)
  clear HTR RT OT
  exact Y12A3
 by_cases hl1:l.length=1
 rotate_left
 ·have HF:=Qh (Zjk HTR.out hl1)
  obtain⟨at_,ct_,rfl,-⟩:=Zac RT
  have hl2:((l.length:Int) != 1)=true:=by simp;omega
  clear HTR RT hl1 OT
  exact Y12A3
 obtain⟨t,rfl⟩:∃ t,l=[t]:=List.length_eq_one_iff.1 hl1
 clear hl1
 have HF:=Qh (Zjl HVV.out.1 HVV.out.2 HTR.out)
 obtain⟨bt,ot,ct,ath,cth,rfl,hc1,hcm,hbt,hmem,t0,t1,t2,t3,okk,oks⟩:=Zjm RT
 have hbt2:=(OT.2 bt hmem).1
 unfold maxLen at hcm
 clear RT HTR OT hmem
 have hpa:=Zch (Zby HVV.out.1)
 have hpb:=Zch (Zby HVV.out.2)
 have HL:=Qh (λ (U:World) (hU:Below w8.heap.size w8 U)=>Zd7 _ _ a.hidden b.hidden _ _ U (by omega) (by omega) hpb.2.2 (ZcK (sTok.below HRA.out hU)) (ZcK (sTok.below HRB.out hU)))
 clear hpa hpb
 obtain⟨c0,c1,c2,c3⟩:=Q4 HA.out
 obtain⟨d0,d1,d2,d3⟩:=Q4 HB.out
 have hzz:w.heap.size+1+1<w8.heap.size:=mlt HZ.out
 have hal0:=Zab w8 (.cells #[.int .i64 t.kind,.string t.text,.bool t.spaced,.slice ath t.hidden.length cth] 32)
 have c2_0:(w8.alloc (.cells #[.int .i64 t.kind,.string t.text,.bool t.spaced,.slice ath t.hidden.length cth] 32)).cell? ⟨w.heap.size,2,none⟩=some (.bool a.spaced):=(hal0.cell (by show _<w8.heap.size;simp only;omega)).trans c2
 have c3_0:(w8.alloc (.cells #[.int .i64 t.kind,.string t.text,.bool t.spaced,.slice ath t.hidden.length cth] 32)).cell? ⟨w.heap.size,3,none⟩=some (ha):=(hal0.cell (by show _<w8.heap.size;simp only;omega)).trans c3
 have d3_0:(w8.alloc (.cells #[.int .i64 t.kind,.string t.text,.bool t.spaced,.slice ath t.hidden.length cth] 32)).cell? ⟨w.heap.size+1,3,none⟩=some (hb):=(hal0.cell (by show _<w8.heap.size;simp only;omega)).trans d3
 have hal1:=Zab w8 (.cells #[.int .i64 t.kind,.string t.text,.bool a.spaced,.slice ath t.hidden.length cth] 32)
 have c2_1:(w8.alloc (.cells #[.int .i64 t.kind,.string t.text,.bool a.spaced,.slice ath t.hidden.length cth] 32)).cell? ⟨w.heap.size,2,none⟩=some (.bool a.spaced):=(hal1.cell (by show _<w8.heap.size;simp only;omega)).trans c2
 have c3_1:(w8.alloc (.cells #[.int .i64 t.kind,.string t.text,.bool a.spaced,.slice ath t.hidden.length cth] 32)).cell? ⟨w.heap.size,3,none⟩=some (ha):=(hal1.cell (by show _<w8.heap.size;simp only;omega)).trans c3
 have d3_1:(w8.alloc (.cells #[.int .i64 t.kind,.string t.text,.bool a.spaced,.slice ath t.hidden.length cth] 32)).cell? ⟨w.heap.size+1,3,none⟩=some (hb):=(hal1.cell (by show _<w8.heap.size;simp only;omega)).trans d3
 clear c0 c1 c2 c3 d0 d1 d2 d3
 have HX:=Qh (show (w8.alloc (.cells #[.int .i64 t.kind,.string t.text,.bool a.spaced,.slice ath t.hidden.length cth] 32)).heap[w8.heap.size]?=some (.cells #[.int .i64 t.kind,.string t.text,.bool a.spaced,.slice ath t.hidden.length cth] 32 (0,0)) by show (w8.heap.push _)[_]?=_;simp)
 go_wp2_with fail
 refine (HL.out _ hal1).mono ?_
 rintro e w9 ⟨vv,fv,rfl,RV,OV,b9⟩
 obtain⟨av,cv,rfl,-⟩:=Zaf RV
 clear t0 t1 t2 t3 HL c2_0 c3_0 d3_0 c2_1 c3_1 d3_1
 have hbk:=hB8.trans ((hal1.trans (b9.mono hal1.size)).mono hB8.size)
 have hox:w8.heap.size∉fv:=λ hx=>by have h1:=(OV.2 _ hx).1;have h2:(w8.alloc (.cells #[.int .i64 t.kind,.string t.text,.bool a.spaced,.slice ath t.hidden.length cth] 32)).heap.size=w8.heap.size+1:=(by simp);omega
 have hoz:w.heap.size+1+1∉fv:=λ hx=>by have h1:=(OV.2 _ hx).1;have h2:(w8.alloc (.cells #[.int .i64 t.kind,.string t.text,.bool a.spaced,.slice ath t.hidden.length cth] 32)).heap.size=w8.heap.size+1:=(by simp);omega
 replace HX:=Qh (mbox HX.out b9)
 replace HZ:=Qh (mbox HZ.out (hal1.trans (b9.mono hal1.size)))
 have x0:=Qc 0 HX.out
 have xz0:=Qf 0 HX.out
 have x1:=Qc 1 HX.out
 have xz1:=Qf 1 HX.out
 have x2:=Qc 2 HX.out
 have xz2:=Qf 2 HX.out
 have x3:=Qc 3 HX.out
 have xz3:=Qf 3 HX.out
 have hb10:=hbk.setCell (p:=⟨w8.heap.size,3,none⟩) (by show w.heap.size<=w8.heap.size;omega) (.slice av (both a.hidden b.hidden).length cv)
 have HR:=Qh ((Zaa sStr).setB RV hox 3 (.slice av (both a.hidden b.hidden).length cv))
 have HO:=Qh (OV.setCell ⟨w8.heap.size,3,none⟩ (.slice av (both a.hidden b.hidden).length cv))
 replace HX:=Qh (Zai HX.out 3 (.slice av (both a.hidden b.hidden).length cv))
 replace HZ:=Qh (Zaz HZ.out (by omega:w.heap.size+1+1≠w8.heap.size) 3 (.slice av (both a.hidden b.hidden).length cv))
 go_upto_region 9 with fail
 clear x0 x1 x2 x3 xz0 xz1 xz2 xz3 RV OV b9 hbk
 generalize w9.setCell ⟨w8.heap.size,3,none⟩ (.slice av (both a.hidden b.hidden).length cv)=w9' at *
 obtain⟨x0,x1,x2,x3⟩:=Q4 HX.out
 have z0:=Qc 0 HZ.out
 have zz0:=Qf 0 HZ.out
 have z1:=Qc 1 HZ.out
 have zz1:=Qf 1 HZ.out
 have z2:=Qc 2 HZ.out
 have zz2:=Qf 2 HZ.out
 have z3:=Qc 3 HZ.out
 have zz3:=Qf 3 HZ.out
 have HS:=Qh (ZaH HZ.out (.int .i64 t.kind) (.string t.text) (.bool a.spaced) (.slice av (both a.hidden b.hidden).length cv))
 have HBF:=Qh (Zav hb10 (g:=w.heap.size+1+1) (by omega) (.int .i64 t.kind) (.string t.text) (.bool a.spaced) (.slice av (both a.hidden b.hidden).length cv))
 have HRF:=Qh ((Zaa sStr).set4R HR.out hoz (.int .i64 t.kind) (.string t.text) (.bool a.spaced) (.slice av (both a.hidden b.hidden).length cv))
 have HOF:=Qh (Own.set4 (g:=w.heap.size+1+1) (HO.out.lower (show w.heap.size<=(w8.alloc (.cells #[.int .i64 t.kind,.string t.text,.bool a.spaced,.slice ath t.hidden.length cth] 32)).heap.size by simp;omega)) (.int .i64 t.kind) (.string t.text) (.bool a.spaced) (.slice av (both a.hidden b.hidden).length cv))
 unfold set4 at HS HBF HRF HOF
 go_wp2
 refine bodyPost_ret (Zat rfl _ _ (w.heap.size+1+1) _ _ _ _ rfl HS.out Tryz.underlying32 rfl (by kernel_rfl)) rfl ?_
 exact ZgX HF.out okk oks HRF.out HOF.out HBF.out
theorem ZaF (w:World) (cs:List Value) (x:Tok) (fp:List Nat) (h:sTok.R w cs x fp):∀ u∈cs,u.oneCell'=true:=by
 obtain⟨hv,rfl,-,-,K⟩:=h
 obtain⟨a,c,rfl,-⟩:=Zaf K
 intro u hu
 simp only [List.mem_cons,List.not_mem_nil,or_false] at hu
 rcases hu with rfl | rfl | rfl | rfl <;> rfl
theorem Zcu (cs:List Value) (x:Tok) (fp:List Nat) (w:World) (s:ByteArray) (H:sTok.R w cs x fp) :
  Calls Tryz.prog 45 #[.agg cs.toArray,.string s] w (Says (decide (x.kind=4) && (x.text.toList==s.toList)) w):=by
 obtain⟨h,rfl,hk,hok,K⟩:=H
 obtain⟨a0,cap0,rfl,-⟩:=Zaf K
 have hb:=Zab w (.cells #[.int .i64 x.kind,.string x.text,.bool x.spaced,.slice a0 x.hidden.length cap0] 32)
 clear K
 go_enter Tryz.func45,Tryz.ntmps45
 by_cases h4:x.kind=4
 ·have e0:(x.kind==4)=true:=by simp [h4]
  have HF:Hid ((decide (x.kind=4) && (x.text.toList==s.toList))=(x.text.toList==s.toList)):=by show _=_;rw [decide_eq_true h4];rfl
  clear h4
  go_wp2
  go_ret
  exact⟨Zad (by rw [HF.out]),hb⟩
 ·have e0:(x.kind==4)=false:=by simpa using h4
  have HF:Hid ((decide (x.kind=4) && (x.text.toList==s.toList))=false):=by show _=_;rw [decide_eq_false h4];rfl
  clear h4
  go_wp2
  go_ret
  exact⟨Zad (by rw [HF.out]),hb⟩
def SpcOf (l:List Tok) (fp:List Nat) (w:World) (e:Ending) (w':World):Prop:=
 ∃ (v:Value) (L:List (Elem Tok)),e=.returned v/\RowN sTok w.heap.size 32 v L w'/\L.map (·.d)=l/\(∀ x∈L,∀ b∈x.fp,b∈fp)/\Below w.heap.size w w'
theorem Zde (v:Value) (l:List Tok) (fp:List Nat) (w:World) (b:Bool) (hl:l.length<=1000000) (H:(Zaa sTok).R w [v] l fp) :
  Calls Tryz.prog 103 #[v,.bool b] w (SpcOf (spc b l) fp w):=by
 have hlt:=(Zaa sTok).lt H
 obtain⟨a,cap,rfl,hc,hm,-⟩:=Zac H
 have hba:=Zab w (.cells #[] 32)
 have HA:=Qh ((Zaa sTok).below H hba)
 have HG:=Qh (RowN.lit0 sTok 32 w (Nat.le_refl _))
 have HLT:=Qh hlt
 have hbs:=hba.size
 clear H hlt
 go_enter Tryz.func103,Tryz.ntmps103
 go_upto_region 2 with(
            at_builtin;refine Zbh ZaG rfl (by decide) ZaF _ rfl (.tmp 6) (.tmp 7) rfl w.heap.size (.slice (some ⟨w.heap.size,0,none⟩) 0 0) (.slice a l.length cap) l fp rfl HG.out rfl HA.out (λ b hb e=>by simp only [Value.ownBlock,Qi] at e;have:=HLT.out b hb;omega) (by simp [maxLen];omega) (by simp;omega) hbs ?_;intro v5 X w1 hX hXf hR hg _
            have hb1:Below w.heap.size w w1:=hba.grown hg hbs (λ b hb=>by simp [Value.ownBlock] at hb;omega)
            rw [List.nil_append] at hR
            have HR:=Qh hR
            have HXX:=Qh (And.intro hX hXf)
            obtain⟨a1,c1,rfl,-⟩:=hR.val
            have hXl:Hid (X.length=l.length):=by show _=_;rw [← hX,List.length_map]
            obtain⟨n,HN⟩:∃ n:Nat,Hid (n=X.length):=⟨X.length,Qh rfl⟩
            rw [show X.length=n from HN.out.symm] at ⊢
            clear hX hXf hR hg)
 by_cases h0:n=0
 ·have hl0:l=[]:=List.length_eq_zero_iff.1 (by have:=HN.out;have:=hXl.out;omega)
  have HF:Hid (X.map (·.d)=spc b l):=by show _=_;rw [HXX.out.1,hl0];rfl
  have e0:¬ (0:Int)<(n:Int):=by omega
  clear h0 hl0
  go_wp2
  go_ret
  refine ⟨_,X,rfl,?_,HF.out,HXX.out.2,hb1⟩
  rw [HN.out];exact HR.out
 ·obtain⟨x,X',rfl⟩:∃ x X',X=x::X':=by
   cases X with
   | nil=>exact absurd HN.out h0
   | cons x X'=>exact⟨x,X',rfl⟩
  obtain⟨g,hg1,hg2,hg3⟩:∃ g,a1=some ⟨g,0,none⟩/\w.heap.size<=g/\g<w1.heap.size:=by
   obtain⟨a9,c9,e,-,-,h⟩:=HR.out.val
   simp only [Value.slice.injEq] at e
   obtain⟨rfl,-,-⟩:=e
   exact h (by simp)
  subst hg1
  obtain⟨h,hcs,okk,oks,K⟩:=HR.out.el x (by simp)
  obtain⟨ah,ch,rfl,-⟩:=Zaf K
  have hgx:g∉x.fp:=λ hx=>HR.out.ap x (by simp) g hx rfl
  have HR2:=HR.out
  rw [show (x::X').length=n from HN.out.symm] at HR2
  have c2:w1.cell? ⟨g,2,none⟩=some (.bool x.d.spaced):=by
   have:=HR2.cellAt (k:=0) (by simp) (j:=2) (by decide) (u:=.bool x.d.spaced) (by show x.cells[2]?=_;rw [hcs];rfl)
   simpa using this
  have f2:w1.frozen? ⟨g,2,none⟩=false:=HR2.frozen 2
  have HS:Hid (RowN sTok w.heap.size 32 (.slice (some ⟨g,0,none⟩) n c1) (⟨[.int .i64 x.d.kind,.string x.d.text,.bool b,.slice ah x.d.hidden.length ch],⟨x.d.kind,x.d.text,b,x.d.hidden⟩,x.fp⟩::X') (w1.setCell ⟨g,2,none⟩ (.bool b))):=by
   show RowN _ _ _ _ _ _
   have:=HR2.set (k:=0) (by simp) (j:=2) (by decide) (.bool b) ⟨[.int .i64 x.d.kind,.string x.d.text,.bool b,.slice ah x.d.hidden.length ch],⟨x.d.kind,x.d.text,b,x.d.hidden⟩,x.fp⟩ (by show _=x.cells.set 2 _;rw [hcs];rfl) ⟨_,rfl,okk,oks,K⟩ hgx
   simpa using this
  have HF:Hid (((⟨[.int .i64 x.d.kind,.string x.d.text,.bool b,.slice ah x.d.hidden.length ch],⟨x.d.kind,x.d.text,b,x.d.hidden⟩,x.fp⟩:Elem Tok)::X').map (·.d)=spc b l):=by
   show _=_;rw [← HXX.out.1];rfl
  have HFF:Hid (∀ y∈((⟨[.int .i64 x.d.kind,.string x.d.text,.bool b,.slice ah x.d.hidden.length ch],⟨x.d.kind,x.d.text,b,x.d.hidden⟩,x.fp⟩:Elem Tok)::X'),∀ b∈y.fp,b∈fp):=λ y hy=>by
   rcases List.mem_cons.1 hy with rfl | hy
   ·exact HXX.out.2 x (by simp)
   ·exact HXX.out.2 y (by simp [hy])
  have hb2:=hb1.setCell (p:=⟨g,2,none⟩) hg2 (.bool b)
  have e0:(0:Int)<(n:Int):=by omega
  have e1:0<n:=by omega
  clear K hcs HR2 HR h0 hg2 hg3
  go_wp2
  go_ret
  exact⟨_,_,rfl,HS.out,HF.out,HFF.out,hb2⟩
theorem Zdf (l:List Tok):∃ k s b,ZaT l=(⟨k,s,false,[]⟩,b)/\0<=k/\k<=4/\s.size<=200:=by
 rcases h:ZaT l with⟨t,b⟩
 unfold ZaT at h
 split at h
 ·split at h
  ·simp only [Prod.mk.injEq] at h;exact⟨0,⟨#[]⟩,b,by rw [← h.1];rfl,by omega,by omega,by decide⟩
  ·simp only [Prod.mk.injEq] at h;exact⟨3,quoted (ZaA l l.length),b,by rw [← h.1],by omega,by omega,by omega⟩
 ·simp only [Prod.mk.injEq] at h;exact⟨0,⟨#[]⟩,b,by rw [← h.1];rfl,by omega,by omega,by decide⟩
theorem TextOf.bare {l:List Tok} {w w':World} {e:Ending} (h:TextOf l w e w'):∃ (k:Int) (s:ByteArray) (b:Bool) (ao:Option Addr) (c:Nat),ZaT l=(⟨k,s,false,[]⟩,b)/\e=.returned (.tuple #[.agg #[.int .i64 k,.string s,.bool false,.slice ao 0 c],.bool b])/\0<=k/\k<=4/\s.size<=200/\c<=maxLen/\Below w.heap.size w w':=by
 obtain⟨cs,fp,rfl,hR,-,hb⟩:=h
 obtain⟨k,s,b,e,h1,h2,h3⟩:=Zdf l
 rw [e] at hR ⊢
 obtain⟨h',rfl,-,-,K⟩:=hR
 obtain⟨ao,c,rfl,-,hc,-⟩:=Zac K
 exact⟨k,s,b,ao,c,rfl,rfl,h1,h2,h3,hc,hb⟩
theorem Zjn (k:Int) (s:ByteArray) (b:Bool) (ao:Option Addr) (c:Nat) (w:World) (h0:0<=k) (h1:k<=4) (h2:s.size<=1000) (h3:c<=maxLen):sTok.R w [.int .i64 k,.string s,.bool b,.slice ao 0 c] ⟨k,s,b,[]⟩ []:=
 ⟨_,rfl,(show okInt k from⟨by omega,by omega⟩),(show s.size<=maxLen by unfold maxLen;omega),Zay sStr _ _ _ h3⟩
theorem Znl (ps:List ByteArray) (t:Tok):∀ d k,ps.length-k=d->-1<=parFrom ps t k/\parFrom ps t k<(ps.length:Int):=by
 intro d
 induction d with
 | zero=>intro k hk;rw [parFrom,dif_neg (by omega)];omega
 |
  succ d ih =>
  intro k hk
  rw [parFrom,dif_pos (by omega:k<ps.length)]
  split
  ·omega
  ·exact ih (k+1) (by omega)
theorem ZiB {ps:List ByteArray} {t:Tok} (h:¬ parOf ps t<0):∃ n:Nat,parOf ps t=n/\n<ps.length:=by
 have:=Znl ps t _ 0 rfl
 have h2:-1<=parOf ps t/\parOf ps t<(ps.length:Int):=this
 exact⟨(parOf ps t).toNat,by omega,by omega⟩
theorem Zfk {t:Tok} {l:List UInt8} (h:isM t l=true):t.text=⟨l.toArray⟩:=by
 unfold isM at h
 rw [Bool.and_eq_true,Zc8,decide_eq_true_eq] at h
 exact of_decide_eq_true h.2
theorem Zf5 {m:DMacro} (h:macOk m=true) {k:Nat} (hk:k<m.body.length) (hf:m.function=true) (hi:isM m.body[k] [35]=true):∃ hk1:k+1<m.body.length,∃ n:Nat,parOf m.params m.body[k+1]=n/\n<m.params.length:=by
 have hb:=(ZaJ h).2.2 k hk
 have ht:m.body[k].text=hash1:=Zfk hi
 unfold bodOk at hb
 rw [dif_pos hk,Bool.and_eq_true] at hb
 have h2:=hb.2
 rw [hf,ht,decide_eq_true rfl] at h2
 by_cases hk1:k+1<m.body.length
 ·rw [dif_pos hk1] at h2
  refine ⟨hk1,ZiB λ hh=>?_⟩
  rw [decide_eq_true hh] at h2
  exact absurd h2 (by decide)
 ·rw [dif_neg hk1] at h2
  exact absurd h2 (by decide)
theorem ZaB {w:World} {b off n cap:Nat} {l:List Tok} {fp:List Nat} (H:(Zaa sTok).R w [.slice (some ⟨b,off,none⟩) n cap] l fp) {j:Nat} (hj:j<l.length) :
  ∃ (aj:Option Addr) (cj:Nat) (fj:List Nat),w.cell? ⟨b,off+j * 4,none⟩=some (.int .i64 l[j].kind)/\w.cell? ⟨b,off+j * 4+1,none⟩=some (.string l[j].text)/\w.cell? ⟨b,off+j * 4+2,none⟩=some (.bool l[j].spaced)/\w.cell? ⟨b,off+j * 4+3,none⟩=some (.slice aj l[j].hidden.length cj) /\
   sTok.R w [.int .i64 l[j].kind,.string l[j].text,.bool l[j].spaced,.slice aj l[j].hidden.length cj] l[j] fj/\b<w.heap.size/\∀ x∈fj,x∈fp:=by
 obtain⟨a,cap',hv,hc,hm,hrow⟩:=Zac H
 obtain⟨b',off',fps,ha,hb,hfp,he⟩:=hrow (by omega)
 simp only [Value.slice.injEq] at hv
 obtain⟨rfl,rfl,rfl⟩:=hv
 simp only [Qi,Addr.mk.injEq,and_true] at ha
 obtain⟨rfl,rfl⟩:=ha
 obtain⟨es,hE,hR⟩:=he j hj
 have hR2:=hR
 obtain⟨hh,rfl,-,-,K⟩:=hR2
 obtain⟨aj,cj,rfl,-⟩:=Zaf K
 have c0:w.cell? ⟨b,off+j * 4,none⟩=some _:=Zam hE (by decide) rfl
 have c1:w.cell? ⟨b,off+j * 4+1,none⟩=some _:=Zae (j:=1) hE (by decide) rfl
 have c2:w.cell? ⟨b,off+j * 4+2,none⟩=some _:=Zae (j:=2) hE (by decide) rfl
 have c3:w.cell? ⟨b,off+j * 4+3,none⟩=some _:=Zae (j:=3) hE (by decide) rfl
 exact⟨aj,cj,fps j,c0,c1,c2,c3,hR,hb,λ x hx=>by rw [hfp];exact List.mem_cons_of_mem _ (List.mem_flatMap.2 ⟨j,List.mem_range.2 hj,hx⟩)⟩
theorem ZbX {w:World} {b off n cap:Nat} {l:List (List Tok)} {fp:List Nat} (H:(Zaa (Zaa sTok)).R w [.slice (some ⟨b,off,none⟩) n cap] l fp) {j:Nat} (hj:j<l.length) :
  ∃ (aj:Option Addr) (cj:Nat) (fj:List Nat),w.cell? ⟨b,off+j,none⟩=some (.slice aj l[j].length cj)/\(Zaa sTok).R w [.slice aj l[j].length cj] l[j] fj/\b<w.heap.size/\∀ x∈fj,x∈fp:=by
 obtain⟨a,cap',hv,hc,hm,hrow⟩:=Zac H
 obtain⟨b',off',fps,ha,hb,hfp,he⟩:=hrow (by omega)
 simp only [Value.slice.injEq] at hv
 obtain⟨rfl,rfl,rfl⟩:=hv
 simp only [Qi,Addr.mk.injEq,and_true] at ha
 obtain⟨rfl,rfl⟩:=ha
 obtain⟨es,hE,hR⟩:=he j hj
 obtain⟨aj,cj,rfl⟩:=ZeD hR
 have c0:w.cell? ⟨b,off+j * 1,none⟩=some _:=Zam hE (by decide) rfl
 rw [Nat.mul_one] at c0
 exact⟨aj,cj,fps j,c0,hR,hb,λ x hx=>by rw [hfp];exact List.mem_cons_of_mem _ (List.mem_flatMap.2 ⟨j,List.mem_range.2 hj,hx⟩)⟩
def PartOf (P:List Tok × Nat × Bool) (B:Nat) (w:World) (e:Ending) (w':World):Prop:=
 ∃ (v:Value) (L:List (Elem Tok)),e=.returned (.tuple #[v,.int .i64 (P.2.1:Nat),.bool P.2.2])/\RowN sTok w.heap.size 32 v L w'/\L.map (·.d)=P.1/\(∀ x∈L,∀ b∈x.fp,b<B)/\Below w.heap.size w w'
theorem Zlj:(⟨#[35]⟩:ByteArray).toList=[35]:=by rw [ByteArray.toList_eq]
theorem Zf6:(⟨#[35,35]⟩:ByteArray).toList=[35,35]:=by rw [ByteArray.toList_eq]
theorem Y12A4 {g:Prop} (h:g:=by
 have hbx:=(b2.trans (hbe.mono b2.size)).trans ((hcs.trans (hb9.mono (Nat.le_refl _))).mono (b2.trans (hbe.mono b2.size)).size)
 have HRF:=Qh (HR9.lower (base':=w.heap.size) (by show w.heap.size<=W5.heap.size;omega))
 have HDF:Hid (L9.map (·.d)=(ZaC m raw ready k).1):=by show _=_;rw [HD9,HF.out,HAR.out]
 have HFF:Hid (∀ x∈L9,∀ b∈x.fp,b<B):=λ x hx b hb=>HFJ.out b (HF9 x hx b hb)
 clear HR9 HD9 HF9 hb9 HSP
 go_wp2
 go_ret3
 exact⟨.slice a9 L9.length c9,L9,by rw [HF.out];rfl,HRF.out,HDF.out,HFF.out,hbx⟩):g:=h
theorem Zkt (csM:List Value) (m:DMacro) (fpM:List Nat) (vr vy:Value) (raw ready:List (List Tok)) (fpr fpy:List Nat) (k:Nat) (w:World) (hv:macOk m=true) (ha:Zas m raw=true) (hy:Zas m ready=true) (hk:k<m.body.length)
  (B:Nat) (hBm:∀ b∈fpM,b<B) (hBr:∀ b∈fpr,b<B) (hBy:∀ b∈fpy,b<B) (HM:sMacro.R w csM m fpM) (Hr:(Zaa (Zaa sTok)).R w [vr] raw fpr) (Hy:(Zaa (Zaa sTok)).R w [vy] ready fpy) :
  Calls Tryz.prog 128 #[.agg csM.toArray,vr,vy,.int .i64 k] w (PartOf (ZaC m raw ready k) B w):=by
 have HM0:=HM
 obtain⟨h2,h3,q2,q3,rfl,-,K2,K3,hfpM⟩:=HM
 obtain⟨a2,c2,rfl,-⟩:=Zaf K2
 obtain⟨a3,c3,rfl,hc3,hm3,hrow3⟩:=Zac K3
 obtain⟨bb,ob,-,rfl,-,-,-⟩:=hrow3 (by omega)
 unfold maxLen at hm3
 have hmlt:∀ b∈q3,b<B:=λ b hb=>hBm b (by rw [hfpM];exact List.mem_append_right _ hb)
 have hlen20:m.body.length<=20:=(ZaJ hv).1.2.2.2.2
 have hraw:Hid (raw.length=m.params.length):=by show _=_;unfold Zas at ha;rw [Bool.and_eq_true,decide_eq_true_eq] at ha;exact ha.1
 have hrdy:Hid (ready.length=m.params.length):=by show _=_;unfold Zas at hy;rw [Bool.and_eq_true,decide_eq_true_eq] at hy;exact hy.1
 have HRA:Hid (∀ l∈raw,Zaj l=true):=by show ∀ l∈raw,_;unfold Zas at ha;rw [Bool.and_eq_true,List.all_eq_true] at ha;exact ha.2
 have HYA:Hid (∀ l∈ready,Zaj l=true):=by show ∀ l∈ready,_;unfold Zas at hy;rw [Bool.and_eq_true,List.all_eq_true] at hy;exact hy.2
 have HLr:=Qh hBr
 have HLy:=Qh hBy
 obtain⟨ak,ck,fk,e0,e1,e2,e3,Rk,hbb,hfk⟩:=ZaB K3 hk
 have HB3:=Qh K3
 have HV:=Qh hv
 have b0:=Zab w (.cells #[.string m.name,.bool m.function,.slice a2 m.params.length c2,.slice (some ⟨bb,ob,none⟩) m.body.length c3] 56)
 have b1:=Zab (w.alloc (.cells #[.string m.name,.bool m.function,.slice a2 m.params.length c2,.slice (some ⟨bb,ob,none⟩) m.body.length c3] 56)) (.cells #[.int .i64 m.body[k].kind,.string m.body[k].text,.bool m.body[k].spaced,.slice ak m.body[k].hidden.length ck] 32)
 have b2:Below w.heap.size w ((w.alloc (.cells #[.string m.name,.bool m.function,.slice a2 m.params.length c2,.slice (some ⟨bb,ob,none⟩) m.body.length c3] 56)).alloc (.cells #[.int .i64 m.body[k].kind,.string m.body[k].text,.bool m.body[k].spaced,.slice ak m.body[k].hidden.length ck] 32)):=b0.trans (b1.mono b0.size)
 have HX:=Qh (Zb2 w #[.string m.name,.bool m.function,.slice a2 m.params.length c2,.slice (some ⟨bb,ob,none⟩) m.body.length c3] #[.int .i64 m.body[k].kind,.string m.body[k].text,.bool m.body[k].spaced,.slice ak m.body[k].hidden.length ck] 56 32)
 have g0:(w.alloc (.cells #[.string m.name,.bool m.function,.slice a2 m.params.length c2,.slice (some ⟨bb,ob,none⟩) m.body.length c3] 56)).cell? ⟨bb,ob+k * 4,none⟩=some _:=(b0.cell (p:=⟨bb,ob+k * 4,none⟩) hbb).trans e0
 have g1:(w.alloc (.cells #[.string m.name,.bool m.function,.slice a2 m.params.length c2,.slice (some ⟨bb,ob,none⟩) m.body.length c3] 56)).cell? ⟨bb,ob+k * 4+1,none⟩=some _:=(b0.cell (p:=⟨bb,ob+k * 4+1,none⟩) hbb).trans e1
 have g2:(w.alloc (.cells #[.string m.name,.bool m.function,.slice a2 m.params.length c2,.slice (some ⟨bb,ob,none⟩) m.body.length c3] 56)).cell? ⟨bb,ob+k * 4+2,none⟩=some _:=(b0.cell (p:=⟨bb,ob+k * 4+2,none⟩) hbb).trans e2
 have g3:(w.alloc (.cells #[.string m.name,.bool m.function,.slice a2 m.params.length c2,.slice (some ⟨bb,ob,none⟩) m.body.length c3] 56)).cell? ⟨bb,ob+k * 4+3,none⟩=some _:=(b0.cell (p:=⟨bb,ob+k * 4+3,none⟩) hbb).trans e3
 have HRk:=Qh (sTok.below Rk b2)
 have HMr:=Qh (sMacro.below HM0 b2)
 have HRR:=Qh ((Zaa (Zaa sTok)).below Hr b2)
 have HYY:=Qh ((Zaa (Zaa sTok)).below Hy b2)
 have HB2:=Qh ((Zaa sTok).below K3 b2)
 have hi0:(0:Int)<=(k:Int):=by omega
 have hi1:(k:Int)<(m.body.length:Int):=by omega
 have hs2:((w.alloc (.cells #[.string m.name,.bool m.function,.slice a2 m.params.length c2,.slice (some ⟨bb,ob,none⟩) m.body.length c3] 56)).alloc (.cells #[.int .i64 m.body[k].kind,.string m.body[k].text,.bool m.body[k].spaced,.slice ak m.body[k].hidden.length ck] 32)).heap.size=w.heap.size+2:=by show ((w.heap.push _).push _).size=_;simp
 have HFK:Hid (∀ b∈fk,b<B):=λ b hb=>hmlt b (hfk b hb)
 clear HM0 K2 K3 Hr Hy Rk b0 b1 e0 e1 e2 e3 hv ha hy hfk hfpM hrow3
 go_enter Tryz.func128,Tryz.ntmps128
 go_upto_region 2 with fail
 clear g0 g1 g2 g3
 have hbs:=b2.size
 generalize ((w.alloc (.cells #[.string m.name,.bool m.function,.slice a2 m.params.length c2,.slice (some ⟨bb,ob,none⟩) m.body.length c3] 56)).alloc (.cells #[.int .i64 m.body[k].kind,.string m.body[k].text,.bool m.body[k].spaced,.slice ak m.body[k].hidden.length ck] 32))=W2 at *
 go_cut [26] from 16 (λ d wr=>d=.bool (m.function && isM m.body[k] [35])/\Below W2.heap.size W2 wr)
 case first =>
  obtain⟨p0,p1,p2,p3⟩:=Q4 HX.out.1
  rcases Bool.eq_false_or_eq_true m.function with hf | hf
  ·have HFN:=Qh hf
   rw [hf] at p1
   clear hf
   obtain⟨q0,q1,q2,q3⟩:=Q4 HX.out.2
   have HIS:=Qh (Zcu _ m.body[k] fk W2 ⟨#[35]⟩ HRk.out)
   rw [Zlj] at HIS
   have HE:Hid ((decide (m.body[k].kind=4) && (m.body[k].text.toList==[35]))=isM m.body[k] [35]):=rfl
   rw [HE.out] at HIS
   go_wp2_with fail
   refine HIS.out.mono ?_
   rintro e w3 ⟨rfl,hb3⟩
   go_wp2
   go_meet
   case rel=>exact⟨by rw [HFN.out];simp,hb3⟩
  ·have HFN:=Qh hf
   rw [hf] at p1
   clear hf
   go_wp2
   go_meet
   case rel=>exact⟨by rw [HFN.out];rfl,Below.refl _ _⟩
 obtain⟨rfl,hbc⟩:=hcut
 generalize wc=W3 at *
 have HX3:=Qh (And.intro (mbox HX.out.1 hbc) (mbox HX.out.2 hbc))
 cases hfi:(m.function && isM m.body[k] [35])
 rotate_left
 ·skip
  obtain⟨hft,hmt⟩:=Bool.and_eq_true_iff.1 hfi
  obtain⟨hk1,n,hn,hnp⟩:=Zf5 HV.out hk hft hmt
  have hnr:n<raw.length:=by have:=hraw.out;omega
  have HAR:=Qh (Zdd (a:=raw) hn hnr)
  have HPN:=Qh hn
  obtain⟨kk,s,okb,hx,hkk0,hkk4,hsz⟩:=Zdf raw[n]
  have HX0:=Qh hx
  have HF:=Qh (Zf3 (raw:=raw) (ready:=ready) hk1 hft hmt (u:=⟨kk,s,false,[]⟩) (o:=okb) (by rw [HAR.out];exact hx))
  obtain⟨ya,yc,yf,yq0,yq1,yq2,yq3,yR,ybb,-⟩:=ZaB HB2.out (j:=k+1) hk1
  have y0:W3.cell? ⟨bb,ob+(k+1) * 4,none⟩=some _:=(hbc.cell (p:=⟨bb,ob+(k+1) * 4,none⟩) ybb).trans yq0
  have y1:W3.cell? ⟨bb,ob+(k+1) * 4+1,none⟩=some _:=(hbc.cell (p:=⟨bb,ob+(k+1) * 4+1,none⟩) ybb).trans yq1
  have y2:W3.cell? ⟨bb,ob+(k+1) * 4+2,none⟩=some _:=(hbc.cell (p:=⟨bb,ob+(k+1) * 4+2,none⟩) ybb).trans yq2
  have y3:W3.cell? ⟨bb,ob+(k+1) * 4+3,none⟩=some _:=(hbc.cell (p:=⟨bb,ob+(k+1) * 4+3,none⟩) ybb).trans yq3
  obtain⟨ar,cr,rfl,-,-,hrowR⟩:=Zac HRR.out
  obtain⟨br,orr,-,rfl,-,-,-⟩:=hrowR (by omega)
  obtain⟨aj,cj,fj,dq,Rj,hbr,-⟩:=ZbX HRR.out hnr
  have hTV:=Zan (HRA.out _ (List.getElem_mem hnr))
  have HLP:=Qh (λ (U:World) (hU:Below W3.heap.size W3 U)=>ZdY _ _ m (m.body[k+1]'hk1) _ _ U (sMacro.below (sMacro.below HMr.out hbc) hU) (sTok.below (sTok.below yR hbc) hU))
  rw [hn] at HLP
  have HTT:=Qh (λ (U:World) (hU:Below W3.heap.size W3 U)=>Ziz _ raw[n] fj U (by omega) (λ j hj=>by have:=(Zdw (Zby (hTV.2 j hj))).1;omega) ((Zaa sTok).below ((Zaa sTok).below Rj hbc) hU))
  have hz3:W2.heap.size<=W3.heap.size:=hbc.size
  have HS:Hid (∀ U:World,Below W3.heap.size W3 U->U.heap[w.heap.size]?=some (.cells #[.string m.name,.bool m.function,.slice a2 m.params.length c2,.slice (some ⟨bb,ob,none⟩) m.body.length c3] 56 (0,0))/\U.cell? ⟨bb,ob+(k+1) * 4,none⟩=some (.int .i64 (m.body[k+1]'hk1).kind)/\U.cell? ⟨bb,ob+(k+1) * 4+1,none⟩=some (.string (m.body[k+1]'hk1).text)/\U.cell? ⟨bb,ob+(k+1) * 4+2,none⟩=some (.bool (m.body[k+1]'hk1).spaced)/\U.cell? ⟨bb,ob+(k+1) * 4+3,none⟩=some (.slice ya (m.body[k+1]'hk1).hidden.length yc)/\U.cell? ⟨br,orr+n,none⟩=some (.slice aj raw[n].length cj)):=λ U hU=>⟨mbox HX3.out.1 hU,(hU.cell (by show bb<W3.heap.size;omega)).trans y0,(hU.cell (by show bb<W3.heap.size;omega)).trans y1,(hU.cell (by show bb<W3.heap.size;omega)).trans y2,(hU.cell (by show bb<W3.heap.size;omega)).trans y3,(hU.cell (by show br<W3.heap.size;omega)).trans ((hbc.cell (p:=⟨br,orr+n,none⟩) hbr).trans dq)⟩
  have hcs:Below W3.heap.size W3 W3.drew:=Zag (Below.refl _ _) 1
  have hw1:IntKind.i64.wrap ((k:Int)+1)=(k:Int)+1:=IntWalk.i64_in _ (by omega)
  have j1:(0:Int)<=(k:Int)+1:=by omega
  have j2:(k:Int)+1<(m.body.length:Int):=by omega
  have j3:((k:Int)+1).toNat=k+1:=by omega
  have j4:(0:Int)<=(n:Int):=by omega
  have j5:(n:Int)<(raw.length:Int):=by omega
  have hbmm:0<m.body.length:=by omega
  clear hx hn hft hmt hfi yq0 yq1 yq2 yq3 yR y0 y1 y2 y3 dq Rj hrowR hTV
  go_upto_region 3 with fail
  go_cut [12,13] from 16 (λ d b wr=>∃ (gB:Nat) (ax:Option Addr) (cx:Nat),d=.pointer (some ⟨gB,0,none⟩)/\b=.bool okb/\wr.heap[gB]?=some (.cells #[.int .i64 kk,.string s,.bool false,.slice ax 0 cx] 32 (0,0))/\W3.heap.size<=gB/\gB<wr.heap.size/\cx<=maxLen/\Below W3.heap.size W3 wr)
  case first =>
   refine wp_region_noPanic ?_
   refine wp_region_held_drew (S:=λ w'=>w'.heap[w.heap.size]?=some (.cells #[.string m.name,.bool m.function,.slice a2 m.params.length c2,.slice (some ⟨bb,ob,none⟩) m.body.length c3] 56 (0,0))/\w'.cell? ⟨bb,ob+(k+1) * 4,none⟩=some (.int .i64 (m.body[k+1]'hk1).kind)/\w'.cell? ⟨bb,ob+(k+1) * 4+1,none⟩=some (.string (m.body[k+1]'hk1).text)/\w'.cell? ⟨bb,ob+(k+1) * 4+2,none⟩=some (.bool (m.body[k+1]'hk1).spaced)/\w'.cell? ⟨bb,ob+(k+1) * 4+3,none⟩=some (.slice ya (m.body[k+1]'hk1).hidden.length yc)/\w'.cell? ⟨br,orr+n,none⟩=some (.slice aj raw[n].length cj)) (by kernel_rfl) (by exact HS.out _ hcs) (λ hHeld=>?_)
   generalize W3.drew=wd at *
   refine Qt 0 28 rfl rfl ?_
   try simp only [Qp]
   refine Qt 1 29 rfl rfl ?_ (by intro w hSw;obtain⟨sm,s0,s1,s2,s3,sr⟩:=hSw;obtain⟨m0,m1,m2,m3⟩:=Q4 sm;go_simp;(first | done | with_reducible rfl | rfl))
   try simp only [Qp]
   refine Qt 2 30 rfl rfl ?_
   try simp only [Qp]
   refine Qt 3 31 rfl rfl ?_ (by intro w hSw;obtain⟨sm,s0,s1,s2,s3,sr⟩:=hSw;obtain⟨m0,m1,m2,m3⟩:=Q4 sm;go_simp;(first | done | with_reducible rfl | rfl))
   try simp only [Qp]
   refine Qt 4 32 rfl rfl ?_
   try simp only [Qp]
   refine Qt 5 33 rfl rfl ?_
   try simp only [Qp]
   refine Qt 6 34 rfl rfl ?_
   try simp only [Qp]
   refine Qt 7 35 rfl rfl ?_ (by intro w hSw;obtain⟨sm,s0,s1,s2,s3,sr⟩:=hSw;obtain⟨m0,m1,m2,m3⟩:=Q4 sm;go_simp;(first | done | with_reducible rfl | rfl))
   try simp only [Qp]
   refine wpAnyH_ready (rs:=[8,15]) (by kernel_rfl) (by simp) ?_
   refine AllReadyH.cons rfl (λ K hK=>?_) ?_
   ·skip
    go_simp
    refine (HLP.out _ hcs).mono ?_
    rintro e wx1 ⟨rfl,br1⟩
    have hx1:=hcs.trans (br1.mono hcs.size)
    refine hK.out _ _ (HS.out _ hx1) (λ hHeld=>?_)
    clear hK K
    try simp only [Qp]
    refine Qt 9 37 rfl rfl ?_
    try simp only [Qp]
    refine Qt 10 38 rfl rfl ?_ (by intro w hSw;obtain⟨sm,s0,s1,s2,s3,sr⟩:=hSw;obtain⟨m0,m1,m2,m3⟩:=Q4 sm;go_simp;(first | done | with_reducible rfl | rfl))
    try simp only [Qp]
    refine wpAnyH_ready (rs:=[11,15]) (by kernel_rfl) (by simp) ?_
    refine AllReadyH.cons rfl (λ K hK=>?_) ?_
    ·skip
     go_simp
     refine (HTT.out _ hx1).mono ?_
     rintro e wx2 hT2
     obtain⟨k9,s9,b9,ax,cx,e9,rfl,-,-,-,hcx,br2⟩:=hT2.bare
     rw [HX0.out] at e9
     simp only [Prod.mk.injEq,Tok.mk.injEq,and_true] at e9
     obtain⟨⟨rfl,rfl⟩,rfl⟩:=e9
     have hx2:=hx1.trans (br2.mono hx1.size)
     refine hK.out _ _ (HS.out _ hx2) (λ hHeld=>?_)
     clear hK K
     try simp only [Qp]
     refine Qt 12 27 rfl rfl ?_
     try simp only [Qp]
     refine Qt 13 40 rfl rfl ?_
     try simp only [Qp]
     refine Qt 14 41 rfl rfl ?_
     try simp only [Qp]
     refine Qr 15 rfl (λ K hK=>?_)
     go_simp
     have bk:=Zab wx2 (.cells #[.int .i64 0,.string ⟨#[]⟩,.bool false,.slice none 0 0] 32)
     have HB:=Qh (heap_alloc_new wx2 (.cells #[.int .i64 0,.string ⟨#[]⟩,.bool false,.slice none 0 0] 32))
     have hx3:=hx2.trans (bk.mono hx2.size)
     have hge:=hx2.size
     refine hK.out _ _ (HS.out _ hx3) (λ hHeld=>?_)
     clear hK K bk
     try simp only [Qp]
     generalize (wx2.alloc (.cells #[.int .i64 0,.string ⟨#[]⟩,.bool false,.slice none 0 0] 32))=wx3 at *
     have zc0:=Qc 0 HB.out
     have zf0:=Qf 0 HB.out
     have zc1:=Qc 1 HB.out
     have zf1:=Qf 1 HB.out
     have zc2:=Qc 2 HB.out
     have zf2:=Qf 2 HB.out
     have zc3:=Qc 3 HB.out
     have zf3:=Qf 3 HB.out
     have HD1:=Qh (ZaH HB.out (.int .i64 kk) (.string s) (.bool false) (.slice ax 0 cx))
     have HD2:=Qh (Zav (g:=wx2.heap.size) hx3 hge (.int .i64 kk) (.string s) (.bool false) (.slice ax 0 cx))
     have HD3:Hid (wx2.heap.size<(set4 wx3 (wx2.heap.size) (.int .i64 kk) (.string s) (.bool false) (.slice ax 0 cx)).heap.size):=by show _<_;rw [ZbM];exact mlt HB.out
     refine Qr 16 rfl (λ K hK=>?_)
     go_simp
     change K _ (set4 wx3 (wx2.heap.size) (.int .i64 kk) (.string s) (.bool false) (.slice ax 0 cx))
     refine hK.out _ _ (HS.out _ HD2.out) (λ hHeld=>?_)
     clear hK K
     try simp only [Qp]
     refine Qt 17 13 rfl rfl ?_
     try simp only [Qp]
     refine wpAnyH_done (by kernel_rfl) ?_ _
     refine NoPanic.normal ?_
     clear hHeld
     go_wp2
     go_meet
     case rel=>exact⟨_,ax,cx,rfl,rfl,HD1.out,hge,HD3.out,hcx,HD2.out⟩
    refine AllReadyH.cons rfl (λ K hK=>?_) AllReadyH.nil
    go_simp
    have bk:=Zab wx1 (.cells #[.int .i64 0,.string ⟨#[]⟩,.bool false,.slice none 0 0] 32)
    have HB:=Qh (heap_alloc_new wx1 (.cells #[.int .i64 0,.string ⟨#[]⟩,.bool false,.slice none 0 0] 32))
    have hx4:=hx1.trans (bk.mono hx1.size)
    have hge:=hx1.size
    refine hK.out _ _ (HS.out _ hx4) (λ hHeld=>?_)
    clear hK K bk
    try simp only [Qp]
    generalize (wx1.alloc (.cells #[.int .i64 0,.string ⟨#[]⟩,.bool false,.slice none 0 0] 32))=wx4 at *
    refine Qr 11 rfl (λ K hK=>?_)
    go_simp
    refine (HTT.out _ hx4).mono ?_
    rintro e wx5 hT5
    obtain⟨k9,s9,b9,ax,cx,e9,rfl,-,-,-,hcx,br5⟩:=hT5.bare
    rw [HX0.out] at e9
    simp only [Prod.mk.injEq,Tok.mk.injEq,and_true] at e9
    obtain⟨⟨rfl,rfl⟩,rfl⟩:=e9
    have hx5:=hx4.trans (br5.mono hx4.size)
    have HB5:=Qh (mbox HB.out br5)
    refine hK.out _ _ (HS.out _ hx5) (λ hHeld=>?_)
    clear hK K
    try simp only [Qp]
    refine Qt 12 27 rfl rfl ?_
    try simp only [Qp]
    refine Qt 13 40 rfl rfl ?_
    try simp only [Qp]
    refine Qt 14 41 rfl rfl ?_
    try simp only [Qp]
    have zc0:=Qc 0 HB5.out
    have zf0:=Qf 0 HB5.out
    have zc1:=Qc 1 HB5.out
    have zf1:=Qf 1 HB5.out
    have zc2:=Qc 2 HB5.out
    have zf2:=Qf 2 HB5.out
    have zc3:=Qc 3 HB5.out
    have zf3:=Qf 3 HB5.out
    have HD1:=Qh (ZaH HB5.out (.int .i64 kk) (.string s) (.bool false) (.slice ax 0 cx))
    have HD2:=Qh (Zav (g:=wx1.heap.size) hx5 hge (.int .i64 kk) (.string s) (.bool false) (.slice ax 0 cx))
    have HD3:Hid (wx1.heap.size<(set4 wx5 (wx1.heap.size) (.int .i64 kk) (.string s) (.bool false) (.slice ax 0 cx)).heap.size):=by show _<_;rw [ZbM];exact mlt HB5.out
    refine Qr 16 rfl (λ K hK=>?_)
    go_simp
    change K _ (set4 wx5 (wx1.heap.size) (.int .i64 kk) (.string s) (.bool false) (.slice ax 0 cx))
    refine hK.out _ _ (HS.out _ HD2.out) (λ hHeld=>?_)
    clear hK K
    try simp only [Qp]
    refine Qt 17 13 rfl rfl ?_
    try simp only [Qp]
    refine wpAnyH_done (by kernel_rfl) ?_ _
    refine NoPanic.normal ?_
    clear hHeld
    go_wp2
    go_meet
    case rel=>exact⟨_,ax,cx,rfl,rfl,HD1.out,hge,HD3.out,hcx,HD2.out⟩
   refine AllReadyH.cons rfl (λ K hK=>?_) AllReadyH.nil
   go_simp
   have bk:=Zab wd (.cells #[.int .i64 0,.string ⟨#[]⟩,.bool false,.slice none 0 0] 32)
   have HB:=Qh (heap_alloc_new wd (.cells #[.int .i64 0,.string ⟨#[]⟩,.bool false,.slice none 0 0] 32))
   have hx6:=hcs.trans (bk.mono hcs.size)
   have hge:=hcs.size
   refine hK.out _ _ (HS.out _ hx6) (λ hHeld=>?_)
   clear hK K bk
   try simp only [Qp]
   generalize (wd.alloc (.cells #[.int .i64 0,.string ⟨#[]⟩,.bool false,.slice none 0 0] 32))=wx6 at *
   refine Qr 8 rfl (λ K hK=>?_)
   go_simp
   refine (HLP.out _ hx6).mono ?_
   rintro e wx7 ⟨rfl,br7⟩
   have hx7:=hx6.trans (br7.mono hx6.size)
   have HB7:=Qh (mbox HB.out br7)
   refine hK.out _ _ (HS.out _ hx7) (λ hHeld=>?_)
   clear hK K
   try simp only [Qp]
   refine Qt 9 37 rfl rfl ?_
   try simp only [Qp]
   refine Qt 10 38 rfl rfl ?_ (by intro w hSw;obtain⟨sm,s0,s1,s2,s3,sr⟩:=hSw;obtain⟨m0,m1,m2,m3⟩:=Q4 sm;go_simp;(first | done | with_reducible rfl | rfl))
   try simp only [Qp]
   refine Qr 11 rfl (λ K hK=>?_)
   go_simp
   refine (HTT.out _ hx7).mono ?_
   rintro e wx8 hT8
   obtain⟨k9,s9,b9,ax,cx,e9,rfl,-,-,-,hcx,br8⟩:=hT8.bare
   rw [HX0.out] at e9
   simp only [Prod.mk.injEq,Tok.mk.injEq,and_true] at e9
   obtain⟨⟨rfl,rfl⟩,rfl⟩:=e9
   have hx8:=hx7.trans (br8.mono hx7.size)
   have HB8:=Qh (mbox HB7.out br8)
   refine hK.out _ _ (HS.out _ hx8) (λ hHeld=>?_)
   clear hK K
   try simp only [Qp]
   refine Qt 12 27 rfl rfl ?_
   try simp only [Qp]
   refine Qt 13 40 rfl rfl ?_
   try simp only [Qp]
   refine Qt 14 41 rfl rfl ?_
   try simp only [Qp]
   have zc0:=Qc 0 HB8.out
   have zf0:=Qf 0 HB8.out
   have zc1:=Qc 1 HB8.out
   have zf1:=Qf 1 HB8.out
   have zc2:=Qc 2 HB8.out
   have zf2:=Qf 2 HB8.out
   have zc3:=Qc 3 HB8.out
   have zf3:=Qf 3 HB8.out
   have HD1:=Qh (ZaH HB8.out (.int .i64 kk) (.string s) (.bool false) (.slice ax 0 cx))
   have HD2:=Qh (Zav (g:=wd.heap.size) hx8 hge (.int .i64 kk) (.string s) (.bool false) (.slice ax 0 cx))
   have HD3:Hid (wd.heap.size<(set4 wx8 (wd.heap.size) (.int .i64 kk) (.string s) (.bool false) (.slice ax 0 cx)).heap.size):=by show _<_;rw [ZbM];exact mlt HB8.out
   refine Qr 16 rfl (λ K hK=>?_)
   go_simp
   change K _ (set4 wx8 (wd.heap.size) (.int .i64 kk) (.string s) (.bool false) (.slice ax 0 cx))
   refine hK.out _ _ (HS.out _ HD2.out) (λ hHeld=>?_)
   clear hK K
   try simp only [Qp]
   refine Qt 17 13 rfl rfl ?_
   try simp only [Qp]
   refine wpAnyH_done (by kernel_rfl) ?_ _
   refine NoPanic.normal ?_
   clear hHeld
   go_wp2
   go_meet
   case rel=>exact⟨_,ax,cx,rfl,rfl,HD1.out,hge,HD3.out,hcx,HD2.out⟩
  obtain⟨gB,ax,cx,rfl,rfl,HG0,hg1,hg2,hcx,hbg⟩:=hcut
  generalize wc=W4 at *
  have HG:=Qh HG0
  have HTB:=Qh (mbox HX3.out.2 hbg)
  clear HG0 HS HLP HTT hcs
  have hx2:w.heap.size+1<W3.heap.size:=mlt HX3.out.2
  have t2:=Qc 2 HTB.out
  obtain⟨g0,g1,g2,g3⟩:=Q4 HG.out
  have gf2:=Qf 2 HG.out
  have hb4:=(b2.trans (hbc.mono b2.size)).trans (hbg.mono (b2.trans (hbc.mono b2.size)).size)
  have hb5:=hb4.setCell (p:=⟨gB,2,none⟩) (by show w.heap.size<=gB;omega) (.bool m.body[k].spaced)
  have HG2:=Qh (Zai HG.out 2 (.bool m.body[k].spaced))
  go_upto_region 5 with fail
  clear t2 g0 g1 g2 g3 gf2 HG HTB hb4
  generalize W4.setCell ⟨gB,2,none⟩ (.bool m.body[k].spaced)=W5 at *
  obtain⟨g0,g1,g2,g3⟩:=Q4 HG2.out
  have hw2:IntKind.i64.wrap ((k:Int)+2)=(k:Int)+2:=IntWalk.i64_in _ (by omega)
  have HL:=Qh (RowN.lit1 (S:=sTok) (e:=32) (w:=W5) (base:=w.heap.size) (x:=⟨[.int .i64 kk,.string s,.bool m.body[k].spaced,.slice ax 0 cx],⟨kk,s,m.body[k].spaced,[]⟩,[]⟩) hb5.size rfl (Zjn kk s _ ax cx W5 hkk0 hkk4 (by omega) hcx))
  have hbe:=hb5.trans ((Zab W5 (.cells #[.int .i64 kk,.string s,.bool m.body[k].spaced,.slice ax 0 cx] 32)).mono hb5.size)
  go_wp2
  go_ret3
  exact⟨.slice (some ⟨W5.heap.size,0,none⟩) 1 1,_,by rw [HF.out];rfl,HL.out,by rw [HF.out];rfl,λ x hx=>by obtain rfl:=Qm hx;intro b hb;simp at hb,hbe⟩
 have HNF:Hid (¬ (m.function=true/\isM m.body[k] [35]=true)):=λ h=>by rw [h.1,h.2] at hfi;exact absurd hfi (by simp)
 clear hfi
 obtain⟨p0,p1,p2,p3⟩:=Q4 HX3.out.1
 obtain⟨q0,q1,q2,q3⟩:=Q4 HX3.out.2
 have HP:=Qh (ZdY _ _ m m.body[k] _ _ W3 (sMacro.below HMr.out hbc) (sTok.below HRk.out hbc))
 go_wp2_with fail
 refine HP.out.mono ?_
 rintro e W4 ⟨rfl,hb4⟩
 clear p0 p1 p2 p3 q0 q1 q2 q3 HP
 have hbd:=hbc.trans (hb4.mono hbc.size)
 have HX4:=Qh (And.intro (mbox HX.out.1 hbd) (mbox HX.out.2 hbd))
 have hk1:IntKind.i64.wrap ((k:Int)+1)=(k:Int)+1:=IntWalk.i64_in _ (by omega)
 by_cases hp:parOf m.params m.body[k]<0
 ·have HF:=Qh (Zf4 (raw:=raw) (ready:=ready) hk HNF.out hp)
  obtain⟨q0,q1,q2,q3⟩:=Q4 HX4.out.2
  have HL:=Qh (RowN.lit1 (S:=sTok) (e:=32) (w:=W4) (base:=w.heap.size) (x:=⟨[.int .i64 m.body[k].kind,.string m.body[k].text,.bool m.body[k].spaced,.slice ak m.body[k].hidden.length ck],m.body[k],fk⟩) (by have:=hbd.size;omega) rfl (sTok.below HRk.out hbd))
  have hbe:=(b2.trans (hbd.mono b2.size)).trans ((Zab W4 (.cells #[.int .i64 m.body[k].kind,.string m.body[k].text,.bool m.body[k].spaced,.slice ak m.body[k].hidden.length ck] 32)).mono (b2.trans (hbd.mono b2.size)).size)
  generalize parOf m.params m.body[k]=pn at *
  go_wp2
  go_ret3
  exact⟨.slice (some ⟨W4.heap.size,0,none⟩) 1 1,_,by rw [HF.out];rfl,HL.out,by rw [HF.out];rfl,λ x hx=>by obtain rfl:=Qm hx;exact HFK.out,hbe⟩
 obtain⟨n,hn,hnp⟩:=ZiB hp
 have HPN:=Qh hn
 have HPP:=Qh hp
 rw [hn]
 clear hn hp
 have hn0:¬ ((n:Int)<0):=by omega
 have HI2:Hid (∀ (cs:List Value) (x:Tok) (fp:List Nat) (W:World),sTok.R W cs x fp->Calls Tryz.prog 45 #[.agg cs.toArray,.string ⟨#[35,35]⟩] W (Says (isM x [35,35]) W)):=λ cs x fp W h=>by have:=Zcu cs x fp W ⟨#[35,35]⟩ h;rw [Zf6] at this;exact this
 go_upto_region 9 with fail
 go_cut [15] from 16 (λ d wr=>d=.bool (glueL m k || glueR m k)/\Below W2.heap.size W2 wr)
 case first =>
  obtain⟨p0,p1,p2,p3⟩:=Q4 HX4.out.1
  by_cases hk0:0<k
  ·have i0:(0:Int)<(k:Int):=by omega
   have i1:IntKind.i64.wrap ((k:Int)-1)=(k:Int)-1:=IntWalk.i64_in _ (by omega)
   have i2:(0:Int)<=(k:Int)-1:=by omega
   have i3:(k:Int)-1<(m.body.length:Int):=by omega
   have i4:((k:Int)-1).toNat=k-1:=by omega
   have i5:(1:Int)<=(k:Int):=by omega
   obtain⟨xa,xc,xf,xq0,xq1,xq2,xq3,xR,xbb,-⟩:=ZaB HB2.out (j:=k-1) (by omega)
   have x0:W4.cell? ⟨bb,ob+(k-1) * 4,none⟩=some _:=(hbd.cell (p:=⟨bb,ob+(k-1) * 4,none⟩) xbb).trans xq0
   have x1:W4.cell? ⟨bb,ob+(k-1) * 4+1,none⟩=some _:=(hbd.cell (p:=⟨bb,ob+(k-1) * 4+1,none⟩) xbb).trans xq1
   have x2:W4.cell? ⟨bb,ob+(k-1) * 4+2,none⟩=some _:=(hbd.cell (p:=⟨bb,ob+(k-1) * 4+2,none⟩) xbb).trans xq2
   have x3:W4.cell? ⟨bb,ob+(k-1) * 4+3,none⟩=some _:=(hbd.cell (p:=⟨bb,ob+(k-1) * 4+3,none⟩) xbb).trans xq3
   have HC:=Qh (HI2.out _ (m.body[k-1]'(by omega)) _ W4 (sTok.below xR hbd))
   have HG0:Hid (glueL m k=isM (m.body[k-1]'(by omega)) [35,35]):=by show _=_;unfold glueL;rw [dif_pos ⟨hk0,by omega⟩]
   clear xq0 xq1 xq2 xq3 xR
   rcases Bool.eq_false_or_eq_true (isM (m.body[k-1]'(by omega)) [35,35]) with hg | hg
   ·have HGT:Hid (glueL m k=true):=HG0.out.trans hg
    rw [hg] at HC
    clear hg HG0
    go_wp2_with fail
    refine HC.out.mono ?_
    rintro e w8 ⟨rfl,hb8⟩
    go_wp2
    go_meet
    case rel=>exact⟨by rw [HGT.out];rfl,hbd.trans (hb8.mono hbd.size)⟩
   ·have HGF:Hid (glueL m k=false):=HG0.out.trans hg
    rw [hg] at HC
    clear hg HG0
    go_wp2_with fail
    refine HC.out.mono ?_
    rintro e w8 ⟨rfl,hb8⟩
    have hbf:=hbd.trans (hb8.mono hbd.size)
    clear p0 p1 p2 p3 x0 x1 x2 x3
    have HXr:=Qh (mbox HX.out.1 hbf)
    obtain⟨r0,r1,r2,r3⟩:=Q4 HXr.out
    by_cases hk2:k+1<m.body.length
    ·have i1:(0:Int)<=(k:Int)+1:=by omega
     have i2:(k:Int)+1<(m.body.length:Int):=by omega
     have i3:((k:Int)+1).toNat=k+1:=by omega
     obtain⟨ya,yc,yf,yq0,yq1,yq2,yq3,yR,ybb,-⟩:=ZaB HB2.out (j:=k+1) hk2
     have y0:w8.cell? ⟨bb,ob+(k+1) * 4,none⟩=some _:=(hbf.cell (p:=⟨bb,ob+(k+1) * 4,none⟩) ybb).trans yq0
     have y1:w8.cell? ⟨bb,ob+(k+1) * 4+1,none⟩=some _:=(hbf.cell (p:=⟨bb,ob+(k+1) * 4+1,none⟩) ybb).trans yq1
     have y2:w8.cell? ⟨bb,ob+(k+1) * 4+2,none⟩=some _:=(hbf.cell (p:=⟨bb,ob+(k+1) * 4+2,none⟩) ybb).trans yq2
     have y3:w8.cell? ⟨bb,ob+(k+1) * 4+3,none⟩=some _:=(hbf.cell (p:=⟨bb,ob+(k+1) * 4+3,none⟩) ybb).trans yq3
     have HC:=Qh (HI2.out _ (m.body[k+1]'hk2) _ w8 (sTok.below yR hbf))
     have HG:Hid (glueR m k=isM (m.body[k+1]'hk2) [35,35]):=by show _=_;unfold glueR;rw [dif_pos hk2]
     clear yq0 yq1 yq2 yq3 yR
     go_wp2_with fail
     refine HC.out.mono ?_
     rintro e w9 ⟨rfl,hb9⟩
     go_wp2
     go_meet
     case rel=>exact⟨by rw [HGF.out,HG.out];simp,hbf.trans (hb9.mono hbf.size)⟩
    ·have i2:¬ ((k:Int)+1<(m.body.length:Int)):=by omega
     have HG:Hid (glueR m k=false):=by show _=_;unfold glueR;rw [dif_neg hk2]
     go_wp2
     go_meet
     case rel=>exact⟨by rw [HGF.out,HG.out];rfl,hbf⟩
  ·have i0:¬ (0:Int)<(k:Int):=by omega
   have HGF:Hid (glueL m k=false):=by show _=_;unfold glueL;rw [dif_neg (λ h=>hk0 h.1)]
   clear p0 p1 p2 p3
   have HXr:=Qh (mbox HX.out.1 hbd)
   obtain⟨r0,r1,r2,r3⟩:=Q4 HXr.out
   by_cases hk2:k+1<m.body.length
   ·have i1:(0:Int)<=(k:Int)+1:=by omega
    have i2:(k:Int)+1<(m.body.length:Int):=by omega
    have i3:((k:Int)+1).toNat=k+1:=by omega
    obtain⟨ya,yc,yf,yq0,yq1,yq2,yq3,yR,ybb,-⟩:=ZaB HB2.out (j:=k+1) hk2
    have y0:W4.cell? ⟨bb,ob+(k+1) * 4,none⟩=some _:=(hbd.cell (p:=⟨bb,ob+(k+1) * 4,none⟩) ybb).trans yq0
    have y1:W4.cell? ⟨bb,ob+(k+1) * 4+1,none⟩=some _:=(hbd.cell (p:=⟨bb,ob+(k+1) * 4+1,none⟩) ybb).trans yq1
    have y2:W4.cell? ⟨bb,ob+(k+1) * 4+2,none⟩=some _:=(hbd.cell (p:=⟨bb,ob+(k+1) * 4+2,none⟩) ybb).trans yq2
    have y3:W4.cell? ⟨bb,ob+(k+1) * 4+3,none⟩=some _:=(hbd.cell (p:=⟨bb,ob+(k+1) * 4+3,none⟩) ybb).trans yq3
    have HC:=Qh (HI2.out _ (m.body[k+1]'hk2) _ W4 (sTok.below yR hbd))
    have HG:Hid (glueR m k=isM (m.body[k+1]'hk2) [35,35]):=by show _=_;unfold glueR;rw [dif_pos hk2]
    clear yq0 yq1 yq2 yq3 yR
    go_wp2_with fail
    refine HC.out.mono ?_
    rintro e w9 ⟨rfl,hb9⟩
    go_wp2
    go_meet
    case rel=>exact⟨by rw [HGF.out,HG.out];simp,hbd.trans (hb9.mono hbd.size)⟩
   ·have i2:¬ ((k:Int)+1<(m.body.length:Int)):=by omega
    have HG:Hid (glueR m k=false):=by show _=_;unfold glueR;rw [dif_neg hk2]
    go_wp2
    go_meet
    case rel=>exact⟨by rw [HGF.out,HG.out];rfl,hbd⟩
 obtain⟨rfl,hbe⟩:=hcut
 generalize wc=W5 at *
 have HX5:=Qh (And.intro (mbox HX.out.1 hbe) (mbox HX.out.2 hbe))
 clear HX4 hbd HX3 hbc HI2
 cases hg:(glueL m k || glueR m k)
 ·skip
  have HF:=Qh (Zfh (raw:=raw) (ready:=ready) hk HNF.out (by have:=HPP.out;omega) hg)
  have hnr:n<ready.length:=by have:=hraw.out;have:=hrdy.out;omega
  have HAR:=Qh (Zdd (a:=ready) HPN.out hnr)
  obtain⟨ar,cr,rfl,-,-,hrowR⟩:=Zac HYY.out
  obtain⟨br,orr,-,rfl,-,-,-⟩:=hrowR (by omega)
  obtain⟨aj,cj,fj,dq,Rj,hbr,hfj⟩:=ZbX HYY.out hnr
  have hjl:(ready[n]).length<=60:=(Zan (HYA.out _ (List.getElem_mem hnr))).1
  have HSP:=Qh (λ (U:World) (hU:Below W5.heap.size W5 U)=>Zde _ ready[n] fj U m.body[k].spaced (by omega) ((Zaa sTok).below ((Zaa sTok).below Rj hbe) hU))
  have HFJ:Hid (∀ b∈fj,b<B):=λ b hb=>HLy.out b (hfj b hb)
  have d0:W5.drew.cell? ⟨br,orr+n,none⟩=some (.slice aj (ready[n]).length cj):=(hbe.cell (p:=⟨br,orr+n,none⟩) hbr).trans dq
  have t2:W5.drew.cell? ⟨w.heap.size+1,2,none⟩=some (.bool m.body[k].spaced):=Qc 2 HX5.out.2
  have hcs:Below W5.heap.size W5 W5.drew:=Zag (Below.refl _ _) 1
  have hz:W2.heap.size<=W5.heap.size:=hbe.size
  have HK1:∀ U:World,Below W5.drew.heap.size W5.drew U->U.cell? ⟨br,orr+n,none⟩=some (.slice aj (ready[n]).length cj)/\U.cell? ⟨w.heap.size+1,2,none⟩=some (.bool m.body[k].spaced):=λ U hU=>⟨(hU.cell (by show _<W5.heap.size;simp only;omega)).trans d0,(hU.cell (by show _<W5.heap.size;simp only;omega)).trans t2⟩
  have i6:(0:Int)<=(n:Int):=by omega
  have i7:(n:Int)<(ready.length:Int):=by omega
  have i8:n<ready.length:=hnr
  clear dq Rj hfj hrowR hg
  go_wp2_with fail
  go_region_held3 (λ w'=>w'.cell? ⟨br,orr+n,none⟩=some (.slice aj (ready[n]).length cj)/\w'.cell? ⟨w.heap.size+1,2,none⟩=some (.bool m.body[k].spaced))
   (first | (with_reducible exact⟨d0,t2⟩) | (with_reducible exact HK1 _ hb9))
   (first | (go_at_call 103;(with_reducible refine (HSP.out _ hcs).mono ?_);rintro e w9 ⟨v9,L9,rfl,HR9,HD9,HF9,hb9⟩;obtain⟨a9,c9,rfl,-⟩:=HR9.val))
  exact Y12A4
 ·skip
  have HF:=Qh (Zhh (raw:=raw) (ready:=ready) hk HNF.out (by have:=HPP.out;omega) hg)
  have hnr:n<raw.length:=by have:=hraw.out;have:=hrdy.out;omega
  have HAR:=Qh (Zdd (a:=raw) HPN.out hnr)
  obtain⟨ar,cr,rfl,-,-,hrowR⟩:=Zac HRR.out
  obtain⟨br,orr,-,rfl,-,-,-⟩:=hrowR (by omega)
  obtain⟨aj,cj,fj,dq,Rj,hbr,hfj⟩:=ZbX HRR.out hnr
  have hjl:(raw[n]).length<=60:=(Zan (HRA.out _ (List.getElem_mem hnr))).1
  have HSP:=Qh (λ (U:World) (hU:Below W5.heap.size W5 U)=>Zde _ raw[n] fj U m.body[k].spaced (by omega) ((Zaa sTok).below ((Zaa sTok).below Rj hbe) hU))
  have HFJ:Hid (∀ b∈fj,b<B):=λ b hb=>HLr.out b (hfj b hb)
  have d0:W5.drew.cell? ⟨br,orr+n,none⟩=some (.slice aj (raw[n]).length cj):=(hbe.cell (p:=⟨br,orr+n,none⟩) hbr).trans dq
  have t2:W5.drew.cell? ⟨w.heap.size+1,2,none⟩=some (.bool m.body[k].spaced):=Qc 2 HX5.out.2
  have hcs:Below W5.heap.size W5 W5.drew:=Zag (Below.refl _ _) 1
  have hz:W2.heap.size<=W5.heap.size:=hbe.size
  have HK1:∀ U:World,Below W5.drew.heap.size W5.drew U->U.cell? ⟨br,orr+n,none⟩=some (.slice aj (raw[n]).length cj)/\U.cell? ⟨w.heap.size+1,2,none⟩=some (.bool m.body[k].spaced):=λ U hU=>⟨(hU.cell (by show _<W5.heap.size;simp only;omega)).trans d0,(hU.cell (by show _<W5.heap.size;simp only;omega)).trans t2⟩
  have i6:(0:Int)<=(n:Int):=by omega
  have i7:(n:Int)<(raw.length:Int):=by omega
  have i8:n<raw.length:=hnr
  clear dq Rj hfj hrowR hg
  go_wp2_with fail
  go_region_held3 (λ w'=>w'.cell? ⟨br,orr+n,none⟩=some (.slice aj (raw[n]).length cj)/\w'.cell? ⟨w.heap.size+1,2,none⟩=some (.bool m.body[k].spaced))
   (first | (with_reducible exact⟨d0,t2⟩) | (with_reducible exact HK1 _ hb9))
   (first | (go_at_call 103;(with_reducible refine (HSP.out _ hcs).mono ?_);rintro e w9 ⟨v9,L9,rfl,HR9,HD9,HF9,hb9⟩;obtain⟨a9,c9,rfl,-⟩:=HR9.val))
  exact Y12A4
theorem Zku {a:List (List Tok)} (h:∀ l∈a,Zaj l=true) (n:Int):Zaj (argAt a n)=true:=by
 unfold argAt
 by_cases hn:n.toNat<a.length
 ·rw [List.getD_eq_getElem?_getD,List.getElem?_eq_getElem hn]
  exact h _ (List.getElem_mem hn)
 ·rw [List.getD_eq_getElem?_getD,List.getElem?_eq_none (by omega)]
  rfl
theorem ZlR {b:Bool} {l:List Tok} (h:Zaj l=true):(spc b l).length<=60/\∀ t∈spc b l,t.hidden.length<=60:=by
 have hf:=Zan h
 refine ⟨by rw [Ziy];exact hf.1,λ t ht=>?_⟩
 have key:∀ u∈l,u.hidden.length<=60:=λ u hu=>by
  obtain⟨j,hj,rfl⟩:=List.getElem_of_mem hu
  exact(Zdw (Zby (hf.2 j hj))).1
 cases l with
 | nil=>simp [spc] at ht
 |
  cons x r =>
  rcases List.mem_cons.1 ht with rfl | ht
  ·exact key x (by simp)
  ·exact key t (by simp [ht])
theorem Zfl {m:DMacro} {a:List (List Tok)} (h:Zas m a=true):∀ l∈a,Zaj l=true:=by
 unfold Zas at h;rw [Bool.and_eq_true,List.all_eq_true] at h;exact h.2
theorem Zh1 {m:DMacro} {raw ready:List (List Tok)} (hv:macOk m=true) (ha:Zas m raw=true) (hy:Zas m ready=true) {k:Nat} (hk:k<m.body.length) {P:List Tok} {nx:Nat} {ok:Bool} (h:ZaC m raw ready k=(P,nx,ok)) :
  P.length<=60/\nx<=m.body.length/\k<nx/\∀ t∈P,t.hidden.length<=60:=by
 have hnx:=Zep m raw ready k
 rw [h] at hnx
 by_cases h1:m.function=true/\isM m.body[k] [35]=true
 ·obtain⟨hk1,-⟩:=Zf5 hv hk h1.1 h1.2
  obtain⟨kk,s,b,hx,-⟩:=Zdf (argAt raw (parOf m.params m.body[k+1]))
  rw [Zf3 hk1 h1.1 h1.2 hx] at h
  simp only [Prod.mk.injEq] at h
  obtain⟨rfl,rfl,-⟩:=h
  exact⟨by simp,by omega,hnx,λ t ht=>by rw [Qm ht];exact Nat.zero_le _⟩
 ·by_cases h2:parOf m.params m.body[k]<0
  ·rw [Zf4 hk h1 h2] at h
   simp only [Prod.mk.injEq] at h
   obtain⟨rfl,rfl,-⟩:=h
   refine ⟨by simp,by omega,hnx,λ t ht=>?_⟩
   rw [Qm ht,(Zb8 hk ((ZaJ hv).2.2 k hk)).2.1]
   exact Nat.zero_le _
  ·cases h3:(glueL m k || glueR m k)
   ·rw [Zfh hk h1 h2 h3] at h
    simp only [Prod.mk.injEq] at h
    obtain⟨rfl,rfl,-⟩:=h
    have:=ZlR (b:=m.body[k].spaced) (Zku (Zfl hy) (parOf m.params m.body[k]))
    exact⟨this.1,by omega,hnx,this.2⟩
   ·rw [Zhh hk h1 h2 h3] at h
    simp only [Prod.mk.injEq] at h
    obtain⟨rfl,rfl,-⟩:=h
    have:=ZlR (b:=m.body[k].spaced) (Zku (Zfl ha) (parOf m.params m.body[k]))
    exact⟨this.1,by omega,hnx,this.2⟩
theorem set_last {α:Type} {l:List α} (h:l≠[]) (z:α):l.set (l.length-1) z=l.dropLast++[z]:=by
 have hl:0<l.length:=List.length_pos_iff.2 h
 rw [List.set_eq_take_append_cons_drop,if_pos (by omega),List.dropLast_eq_take,List.drop_of_length_le (by omega)]
def BodyOf (P:List Tok × Bool) (w:World) (e:Ending) (w':World):Prop:=
 ∃ (v:Value) (L:List (Elem Tok)),e=.returned (.tuple #[v,.bool P.2])/\RowN sTok w.heap.size 32 v L w'/\L.map (·.d)=P.1/\L.length<=5000/\(∀ x∈L,x.d.hidden.length<=60)/\Below w.heap.size w w'
theorem Zjo {P:List Tok × Bool} {w W:World} (h:P=([],false)) (hb:Below w.heap.size w W):BodyOf P w (.returned (.tuple #[.slice (some ⟨W.heap.size,0,none⟩) 0 0,.bool false])) (W.alloc (.cells #[] 32)):=
 ⟨_,[],by rw [h],RowN.lit0 sTok 32 W hb.size,by rw [h];rfl,by simp,by simp,hb.alloc hb.size _⟩
theorem Zkv (csM:List Value) (m:DMacro) (fpM:List Nat) (vr vy:Value) (raw ready:List (List Tok)) (fpr fpy:List Nat) (w:World) (hv:macOk m=true) (ha:Zas m raw=true) (hy:Zas m ready=true)
  (HM:sMacro.R w csM m fpM) (Hr:(Zaa (Zaa sTok)).R w [vr] raw fpr) (Hy:(Zaa (Zaa sTok)).R w [vy] ready fpy) :
  Calls Tryz.prog 102 #[.agg csM.toArray,vr,vy] w (BodyOf (subGo m raw ready 0 [] true false) w):=by
 have HM0:=HM
 obtain⟨h2,h3,q2,q3,rfl,-,K2,K3,hfpM⟩:=HM
 obtain⟨a2,c2,rfl,-⟩:=Zaf K2
 obtain⟨a3,c3,rfl,hc3,hm3,hrow3⟩:=Zac K3
 obtain⟨ar,cr,rfl,-⟩:=Zac Hr
 obtain⟨ay,cy,rfl,-⟩:=Zac Hy
 unfold maxLen at hm3
 have hlen20:m.body.length<=20:=(ZaJ hv).1.2.2.2.2
 have b0:=Zab w (.cells #[.string m.name,.bool m.function,.slice a2 m.params.length c2,.slice a3 m.body.length c3] 56)
 have HX:=Qh (heap_alloc_new w (.cells #[.string m.name,.bool m.function,.slice a2 m.params.length c2,.slice a3 m.body.length c3] 56))
 have HPT:=Qh (λ (k:Nat) (hk:k<m.body.length) (U:World) (hU:Below w.heap.size w U)=>Zkt _ m fpM _ _ raw ready fpr fpy k U hv ha hy hk w.heap.size (λ b hb=>sMacro.lt HM0 b hb) (λ b hb=>(Zaa (Zaa sTok)).lt Hr b hb) (λ b hb=>(Zaa (Zaa sTok)).lt Hy b hb) (sMacro.below HM0 hU) ((Zaa (Zaa sTok)).below Hr hU) ((Zaa (Zaa sTok)).below Hy hU))
 unfold PartOf at HPT
 have HSM:=Qh (λ (k:Nat) (hk:k<m.body.length) (P:List Tok) (nx:Nat) (ok:Bool) (h:ZaC m raw ready k=(P,nx,ok))=>Zh1 hv ha hy hk h)
 have HB3:=Qh K3
 have hs1:(w.alloc (.cells #[.string m.name,.bool m.function,.slice a2 m.params.length c2,.slice a3 m.body.length c3] 56)).heap.size=w.heap.size+1:=by show (w.heap.push _).size=_;simp
 have HG0:=Qh (RowN.lit0 sTok 32 (w.alloc (.cells #[.string m.name,.bool m.function,.slice a2 m.params.length c2,.slice a3 m.body.length c3] 56)) (base:=w.heap.size) (by omega))
 rw [hs1] at HG0
 have b1:=b0.trans ((Zab (w.alloc (.cells #[.string m.name,.bool m.function,.slice a2 m.params.length c2,.slice a3 m.body.length c3] 56)) (.cells #[] 32)).mono b0.size)
 have HX1:=Qh (mbox HX.out (Zab (w.alloc (.cells #[.string m.name,.bool m.function,.slice a2 m.params.length c2,.slice a3 m.body.length c3] 56)) (.cells #[] 32)))
 have HI2:Hid (∀ (cs:List Value) (x:Tok) (fp:List Nat) (W:World),sTok.R W cs x fp->Calls Tryz.prog 45 #[.agg cs.toArray,.string ⟨#[35,35]⟩] W (Says (isM x [35,35]) W)):=λ cs x fp W h=>by have:=Zcu cs x fp W ⟨#[35,35]⟩ h;rw [Zf6] at this;exact this
 clear HM0 K2 K3 Hr Hy hv ha hy hfpM b0 HX
 go_enter Tryz.func102,Tryz.ntmps102
 go_upto_region 2 with fail
 clear hs1
 generalize ((w.alloc (.cells #[.string m.name,.bool m.function,.slice a2 m.params.length c2,.slice a3 m.body.length c3] 56)).alloc (.cells #[] 32))=W1 at *
 go_wp2
 go_loopw [8,9,10,11] (λ vo ve vp va wr=>∃ (k:Nat) (L:List (Elem Tok)) (emp paste:Bool),k<=m.body.length/\va=.int .i64 k/\ve=.bool emp/\vp=.bool paste/\Hid (RowN sTok w.heap.size 32 vo L wr)/\Hid (vo.ownBlock≠some w.heap.size)/\Hid (subGo m raw ready 0 [] true false=subGo m raw ready k (L.map (·.d)) emp paste)/\Hid (emp=false->0<L.length)/\Hid (L.length<=61 * k)/\Hid (∀ x∈L,x.d.hidden.length<=60)/\Hid (wr.heap[w.heap.size]?=some (.cells #[.string m.name,.bool m.function,.slice a2 m.params.length c2,.slice a3 m.body.length c3] 56 (0,0)))/\Below w.heap.size w wr) (λ _ _ _ va _=>m.body.length-(intOf va).toNat)
 case atStart=>exact⟨0,[],true,false,by omega,rfl,rfl,rfl,HG0.out,(λ h=>by simp only [Value.ownBlock,Qi] at h;omega),rfl,(λ h=>by simp at h),(show (0:Nat)<=_ by omega),(λ x hx=>by simp at hx),HX1.out,b1⟩
 case round =>
  clear HG0 HX1 b1
  obtain⟨k,L,emp,paste,hk,rfl,rfl,rfl,HR,HNB,HGO,HEM,HLL,HHD,HXr,hb⟩:=hrel
  obtain⟨ao,co,rfl,-⟩:=HR.out.val
  obtain⟨N,HN⟩:∃ N:Nat,Hid (N=L.length):=⟨L.length,Qh rfl⟩
  rw [show L.length=N from HN.out.symm] at HR HNB HEM HLL ⊢
  obtain⟨p0,p1,p2,p3⟩:=Q4 HXr.out
  by_cases hlt:k<m.body.length
  ·obtain⟨bb,ob,-,rfl,-,-,-⟩:=hrow3 (by omega)
   obtain⟨xa,xc,xf,xq0,xq1,xq2,xq3,xR,hbb,-⟩:=ZaB HB3.out hlt
   have x0:wr.cell? ⟨bb,ob+k * 4,none⟩=some _:=(hb.cell (p:=⟨bb,ob+k * 4,none⟩) hbb).trans xq0
   have x1:wr.cell? ⟨bb,ob+k * 4+1,none⟩=some _:=(hb.cell (p:=⟨bb,ob+k * 4+1,none⟩) hbb).trans xq1
   have x2:wr.cell? ⟨bb,ob+k * 4+2,none⟩=some _:=(hb.cell (p:=⟨bb,ob+k * 4+2,none⟩) hbb).trans xq2
   have x3:wr.cell? ⟨bb,ob+k * 4+3,none⟩=some _:=(hb.cell (p:=⟨bb,ob+k * 4+3,none⟩) hbb).trans xq3
   have HC:=Qh (HI2.out _ m.body[k] _ wr (sTok.below xR hb))
   have HPK:=Qh (HPT.out k hlt)
   have HSK:=Qh (HSM.out k hlt)
   have i0:(0:Int)<=(k:Int):=by omega
   have i1:(k:Int)<(m.body.length:Int):=by omega
   have hk1:IntKind.i64.wrap ((k:Int)+1)=(k:Int)+1:=IntWalk.i64_in _ (by omega)
   clear xq0 xq1 xq2 xq3 xR hrow3
   go_upto_region 6 with fail
   go_cut [10,32] from 18 to 94 (λ p d wx=>p=.bool paste/\d=.bool (isM m.body[k] [35,35] && !paste)/\Below wr.heap.size wr wx)
   case first =>
    go_wp2_with fail
    refine HC.out.mono ?_
    rintro e w2 ⟨rfl,hb2⟩
    clear HC
    rcases Bool.eq_false_or_eq_true (isM m.body[k] [35,35]) with hq | hq
    ·have HQ:=Qh hq
     rw [hq]
     clear hq
     go_wp2
     go_meet
     case rel=>exact⟨rfl,by rw [HQ.out];simp,hb2⟩
    ·have HQ:=Qh hq
     rw [hq]
     clear hq
     go_wp2
     go_meet
     case rel=>exact⟨rfl,by rw [HQ.out];rfl,hb2⟩
   obtain⟨rfl,rfl,hb2⟩:=hcut
   generalize wc=w2 at *
   replace HR:=Qh (HR.out.below hb2)
   replace HXr:=Qh (mbox HXr.out hb2)
   have hB:=hb.trans (hb2.mono hb.size)
   clear x0 x1 x2 x3 p0 p1 p2 p3 HC hb2 hb
   cases hbm:(isM m.body[k] [35,35] && !paste)
   rotate_left
   ·obtain⟨hm1,hm2⟩:=Bool.and_eq_true_iff.1 hbm
    obtain rfl:paste=false:=by simpa using hm2
    have HN1:=Qh (HGO.out.trans (Zfi hlt hm1))
    have HLL1:Hid (L.length<=61 * (k+1)):=by show _<=_;have:=HLL.out;have:=HN.out;omega
    have HEM1:Hid (emp=false->0<L.length):=λ h=>by have:=HEM.out h;have:=HN.out;omega
    clear hm1 hm2 hbm HGO
    go_wp2
    go_roundw
    case rel=>exact⟨k+1,L,emp,true,by omega,by go_num,rfl,by trivial,HR.out,HNB.out,HN1.out,HEM1.out,HLL1.out,HHD.out,HXr.out,hB⟩
    case measure=>simp [intOf];omega
   have HMK:Hid (¬ (isM m.body[k] [35,35]=true/\paste=false)):=λ h=>by rw [h.1,h.2] at hbm;exact absurd hbm (by simp)
   clear hbm
   rcases hP:ZaC m raw ready k with⟨P,nx,ok⟩
   have HS:=Qh (HSK.out P nx ok hP)
   have HPP:=Qh hP
   have HC:=Qh (HPK.out _ hB)
   rw [hP] at HC
   try dsimp only at HC
   clear hP HSK HPK
   obtain⟨p0,p1,p2,p3⟩:=Q4 HXr.out
   go_wp2_with fail
   refine HC.out.mono ?_
   rintro e w3 ⟨v9,L9,rfl,HR9,HD9,HF9,hb3⟩
   have hmine:=HR.out.mine
   replace HR:=Qh (HR.out.below hb3)
   replace HXr:=Qh (mbox HXr.out hb3)
   have hB3:=hB.trans (hb3.mono hB.size)
   obtain⟨a9,c9,rfl,hc9,hm9,hv9⟩:=HR9.val
   have HR9':=Qh HR9
   have HD9':=Qh HD9
   have HF9':=Qh HF9
   have HPL:Hid (P.length=L9.length):=by show _=_;rw [← HD9,List.length_map]
   obtain⟨fp9,r9,hf9,-⟩:=HR9.read
   have HMI:Hid (∀ b∈fp9,(Value.slice ao N co).ownBlock≠some b):=λ b hb h=>by
    have h1:=hmine b h
    rcases hf9 b hb with h2 | ⟨x,hx,h2⟩
    ·have:=(HR9.mine b h2).1;omega
    ·have:=HF9 x hx b h2;omega
   rw [HD9] at r9
   have HRD:=Qh r9
   obtain⟨N9,HN9⟩:∃ N9:Nat,Hid (N9=L9.length):=⟨L9.length,Qh rfl⟩
   rw [show L9.length=N9 from HN9.out.symm] at HRD HR9' hc9 ⊢
   have h960:N9<=60:=by have:=HS.out.1;have:=HPL.out;have:=HN9.out;omega
   clear p0 p1 p2 p3 HC hb3 HR9 HD9 HF9 r9 hf9 hmine hv9 hB
   cases ok
   ·have HF:=Qh (HGO.out.trans (ZeU hlt HMK.out HPP.out))
    go_wp2
    go_ret2
    exact Zjo HF.out hB3
   go_upto_region 12 with fail
   go_cut [9,10,56] from 18 to 94 (λ e p d wx=>e=.bool emp/\p=.bool paste/\d=.bool (paste && !emp && decide (0<N9))/\wx=w3)
   case first =>
    have hn9:decide (0<N9)=decide ((0:Int)<(N9:Int)):=decide_eq_decide.2 (by omega)
    obtain⟨bp,HBP⟩:∃ b,Hid (b=paste):=⟨paste,Qh rfl⟩
    obtain⟨be,HBE⟩:∃ b,Hid (b=emp):=⟨emp,Qh rfl⟩
    rw [show emp=be from HBE.out.symm,show paste=bp from HBP.out.symm]
    cases bp
    ·go_wp2
     go_meet
     case rel=>exact⟨by rw [HBE.out],by rw [← HBP.out],by rw [← HBP.out];rfl,by trivial⟩
    ·cases be
     ·by_cases h9:0<N9
      ·have h9':(0:Int)<(N9:Int):=by omega
       go_wp2
       go_meet
       case rel=>exact⟨by rw [← HBE.out],by rw [← HBP.out],by rw [← HBP.out,← HBE.out];simp [h9],by trivial⟩
      ·have h9':¬ (0:Int)<(N9:Int):=by omega
       go_wp2
       go_meet
       case rel=>exact⟨by rw [← HBE.out],by rw [← HBP.out],by rw [← HBP.out,← HBE.out];simp [h9],by trivial⟩
     ·go_wp2
      go_meet
      case rel=>exact⟨by rw [← HBE.out],by rw [← HBP.out],by rw [← HBP.out,← HBE.out];rfl,by trivial⟩
   obtain⟨rfl,rfl,rfl,rfl⟩:=hcut
   cases hcd:(paste && !emp && decide (0<N9))
   ·have HCD:Hid (¬ (paste=true/\emp=false/\0<P.length)):=λ h=>by
     rw [h.1,h.2.1,show decide (0<N9)=true from decide_eq_true (by have:=h.2.2;have:=HPL.out;have:=HN9.out;omega)] at hcd
     exact absurd hcd (by simp)
    have HNX:=Qh (HGO.out.trans (ZdO hlt HMK.out HPP.out HCD.out))
    have HDP:Hid (decide (P.length=0)=decide (N9=0)):=decide_eq_decide.2 (by have:=HPL.out;have:=HN9.out;omega)
    clear hcd
    go_upto_region 18 with fail
    go_cut [9,10] from 18 to 94 (λ e p wx=>e=.bool (decide (N9=0) && (emp || !paste))/\p=.bool paste/\wx=wc)
    case first =>
     obtain⟨bp,HBP⟩:∃ b,Hid (b=paste):=⟨paste,Qh rfl⟩
     obtain⟨be,HBE⟩:∃ b,Hid (b=emp):=⟨emp,Qh rfl⟩
     rw [show emp=be from HBE.out.symm,show paste=bp from HBP.out.symm]
     by_cases h9:N9=0
     ·have h9':((N9:Int)==0)=true:=by simp [h9]
      have H9:=Qh h9
      clear h9
      cases be
      ·cases bp
       ·go_wp2
        go_meet
        case rel=>exact⟨by rw [← HBP.out,← HBE.out,H9.out];rfl,by rw [← HBP.out],by trivial⟩
       ·go_wp2
        go_meet
        case rel=>exact⟨by rw [← HBP.out,← HBE.out,H9.out];rfl,by rw [← HBP.out],by trivial⟩
      ·go_wp2
       go_meet
       case rel=>exact⟨by rw [← HBE.out,H9.out];rfl,by rw [HBP.out],by trivial⟩
     ·have h9':((N9:Int)==0)=false:=by rw [beq_eq_false_iff_ne];omega
      have H9:=Qh h9
      clear h9
      go_wp2
      go_meet
      case rel=>exact⟨by rw [decide_eq_false H9.out];rfl,by rw [HBP.out],by trivial⟩
    obtain⟨rfl,rfl,rfl⟩:=hcut
    have hNL:N<=61 * k:=by have:=HLL.out;exact this
    have hk20:k<=20:=by omega
    go_wp2_with (at_builtin;refine Zbh ZaG rfl (by decide) ZaF wc rfl (.tmp 91) (.tmp 92) rfl w.heap.size (.slice ao N co) (.slice a9 N9 c9) (P) fp9 rfl HR.out rfl HRD.out HMI.out (by have:=HPL.out;have:=HN9.out;have:=HN.out;simp [maxLen];omega) (by have:=HPL.out;have:=HN9.out;have:=HN.out;simp;omega) hB3.size ?_;intro v5 X w5 hX hXf hR5 hg5 hp5)
    have hb5:Below w.heap.size w w5:=hB3.grown hg5 hB3.size (λ b hb=>(HR.out.mine b hb).1)
    have HX5:=Qh ((hg5.block w.heap.size (mlt HXr.out) (λ e=>HNB.out e.symm)).trans HXr.out)
    have HNB5:Hid (v5.ownBlock≠some w.heap.size):=λ e=>by
     rcases hp5 with h | h
     ·rw [h] at e;exact HNB.out e
     ·rw [h] at e;have:=mlt HXr.out;simp only [Qi] at e;omega
    have HGO5:Hid (subGo m raw ready 0 [] true false=subGo m raw ready nx ((L++X).map (·.d)) (decide (N9=0) && (emp || !paste)) false):=by
     show _=_
     rw [HNX.out,HDP.out,List.map_append,hX]
    have hXl:X.length=N9:=by have:=congrArg List.length hX;rw [List.length_map] at this;have:=HPL.out;have:=HN9.out;omega
    have HEM5:Hid ((decide (N9=0) && (emp || !paste))=false->0<(L++X).length):=λ h=>by
     rw [List.length_append,hXl]
     by_cases h9:N9=0
     ·rw [h9] at h
      have he:emp=false:=by
       have h2:(emp || !paste)=false:=by simpa using h
       exact(Bool.or_eq_false_iff.1 h2).1
      have:=HEM.out he;have:=HN.out;omega
     ·omega
    have HLL5:Hid ((L++X).length<=61 * nx):=by show _<=_;rw [List.length_append,hXl];have:=HS.out.2.2.1;have:=HN.out;omega
    have HHD5:Hid (∀ x∈L++X,x.d.hidden.length<=60):=λ x hx=>by
     rcases Qa hx with hx | hx
     ·exact HHD.out x hx
     ·have hm:x.d∈P:=by rw [← hX];exact List.mem_map.2 ⟨x,hx,rfl⟩
      exact HS.out.2.2.2 x.d hm
    have HR5:=Qh hR5
    have hnx:=HS.out.2.1
    have hnk:=HS.out.2.2.1
    clear hX hXf hR5 hg5 hp5
    go_wp2
    go_roundw
    case rel=>exact⟨nx,L++X,_,false,hnx,by trivial,rfl,by trivial,HR5.out,HNB5.out,HGO5.out,HEM5.out,HLL5.out,HHD5.out,HX5.out,hb5⟩
    case measure=>simp [intOf];omega
   ·skip
    obtain⟨h12,h9b⟩:=Bool.and_eq_true_iff.1 hcd
    obtain⟨h1p,h2e⟩:=Bool.and_eq_true_iff.1 h12
    obtain rfl:paste=true:=h1p
    obtain rfl:emp=false:=by simpa using h2e
    have h90:0<N9:=of_decide_eq_true h9b
    have hN0:0<N:=HEM.out rfl
    have HCD:Hid (true=true/\false=false/\0<P.length):=⟨rfl,rfl,by have:=HPL.out;have:=HN9.out;omega⟩
    clear hcd h12 h9b
    obtain⟨g,rfl,hgw,hg3⟩:∃ g,ao=some ⟨g,0,none⟩/\w.heap.size<=g/\g<wc.heap.size:=by
     obtain⟨a8,c8,e8,-,-,h8⟩:=HR.out.val
     simp only [Value.slice.injEq] at e8
     obtain⟨rfl,-,-⟩:=e8
     exact h8 (by have:=HN.out;omega)
    obtain⟨g9,rfl,hg9w,hg93⟩:∃ g9,a9=some ⟨g9,0,none⟩/\w2.heap.size<=g9/\g9<wc.heap.size:=by
     obtain⟨a8,c8,e8,-,-,h8⟩:=HR9'.out.val
     simp only [Value.slice.injEq] at e8
     obtain⟨rfl,-,-⟩:=e8
     exact h8 (by have:=HN9.out;omega)
    have hNl:N-1<L.length:=by have:=HN.out;omega
    have hN9l:0<L9.length:=by have:=HN9.out;omega
    obtain⟨y,hyd⟩:∃ y:Elem Tok,Hid (y=L[N-1]'hNl):=⟨L[N-1]'hNl,Qh rfl⟩
    obtain⟨x,hxd⟩:∃ x:Elem Tok,Hid (x=L9[0]'hN9l):=⟨L9[0]'hN9l,Qh rfl⟩
    have hym:y∈L:=by rw [hyd.out];exact List.getElem_mem hNl
    have hxm:x∈L9:=by rw [hxd.out];exact List.getElem_mem hN9l
    obtain⟨hyv,hyc,-,-,KY⟩:=HR.out.el y hym
    obtain⟨ya,yc,rfl,-⟩:=Zaf KY
    obtain⟨hxv,hxc,-,-,KX⟩:=HR9'.out.el x hxm
    obtain⟨xa,xc,rfl,-⟩:=Zaf KX
    clear KY KX
    have RY:=HR.out.el y hym
    have RX:=HR9'.out.el x hxm
    rw [hyc] at RY
    rw [hxc] at RX
    have y0:wc.cell? ⟨g,(N-1) * 4,none⟩=some (.int .i64 y.d.kind):=HR.out.cellAt hNl (j:=0) (by decide) (by rw [← hyd.out,hyc];rfl)
    have y1:wc.cell? ⟨g,(N-1) * 4+1,none⟩=some (.string y.d.text):=HR.out.cellAt hNl (j:=1) (by decide) (by rw [← hyd.out,hyc];rfl)
    have y2:wc.cell? ⟨g,(N-1) * 4+2,none⟩=some (.bool y.d.spaced):=HR.out.cellAt hNl (j:=2) (by decide) (by rw [← hyd.out,hyc];rfl)
    have y3:wc.cell? ⟨g,(N-1) * 4+3,none⟩=some (.slice ya y.d.hidden.length yc):=HR.out.cellAt hNl (j:=3) (by decide) (by rw [← hyd.out,hyc];rfl)
    have x0:wc.cell? ⟨g9,0,none⟩=some (.int .i64 x.d.kind):=by have:=HR9'.out.cellAt hN9l (j:=0) (by decide) (u:=.int .i64 x.d.kind) (by rw [← hxd.out,hxc];rfl);simpa using this
    have x1:wc.cell? ⟨g9,1,none⟩=some (.string x.d.text):=by have:=HR9'.out.cellAt hN9l (j:=1) (by decide) (u:=.string x.d.text) (by rw [← hxd.out,hxc];rfl);simpa using this
    have x2:wc.cell? ⟨g9,2,none⟩=some (.bool x.d.spaced):=by have:=HR9'.out.cellAt hN9l (j:=2) (by decide) (u:=.bool x.d.spaced) (by rw [← hxd.out,hxc];rfl);simpa using this
    have x3:wc.cell? ⟨g9,3,none⟩=some (.slice xa x.d.hidden.length xc):=by have:=HR9'.out.cellAt hN9l (j:=3) (by decide) (u:=.slice xa x.d.hidden.length xc) (by rw [← hxd.out,hxc];rfl);simpa using this
    have HYX:Hid ((L.map (·.d)).getLastD zTok=y.d/\P.headD zTok=x.d):=by
     refine ⟨?_,?_⟩
     ·have hne:L.map (·.d)≠[]:=λ h=>by have:=congrArg List.length h;rw [List.length_map] at this;simp at this;rw [this] at hNl;simp at hNl
      rw [List.getLastD_eq_getLast?,List.getLast?_eq_some_getLast hne,Option.getD_some,List.getLast_eq_getElem,List.getElem_map,hyd.out]
      congr 2
      rw [List.length_map];have:=HN.out;omega
     ·rw [← HD9'.out,hxd.out]
      cases L9 with
      | nil=>simp at hN9l
      | cons q r=>rfl
    have hyh:y.d.hidden.length<=60:=HHD.out y hym
    have hxh:x.d.hidden.length<=60:=HS.out.2.2.2 x.d (by rw [← HD9'.out];exact List.mem_map.2 ⟨x,hxm,rfl⟩)
    rcases hpr:Zaq y.d x.d with⟨z,fine⟩
    have HPR:=Qh hpr
    have HPT2:=Qh (λ (U:World) (hU:Below wc.heap.size wc U)=>Zhj [.int .i64 y.d.kind,.string y.d.text,.bool y.d.spaced,.slice ya y.d.hidden.length yc] [.int .i64 x.d.kind,.string x.d.text,.bool x.d.spaced,.slice xa x.d.hidden.length xc] y.d x.d y.fp x.fp U (by omega) (by omega) (sTok.below RY hU) (sTok.below RX hU))
    unfold ZdP at HPT2
    rw [hpr] at HPT2
    try dsimp only at HPT2
    have HSS:Hid (∀ U:World,Below wc.heap.size wc U->U.cell? ⟨g,(N-1) * 4,none⟩=some (.int .i64 y.d.kind)/\U.cell? ⟨g,(N-1) * 4+1,none⟩=some (.string y.d.text)/\U.cell? ⟨g,(N-1) * 4+2,none⟩=some (.bool y.d.spaced)/\U.cell? ⟨g,(N-1) * 4+3,none⟩=some (.slice ya y.d.hidden.length yc)/\U.cell? ⟨g9,0,none⟩=some (.int .i64 x.d.kind)/\U.cell? ⟨g9,1,none⟩=some (.string x.d.text)/\U.cell? ⟨g9,2,none⟩=some (.bool x.d.spaced)/\U.cell? ⟨g9,3,none⟩=some (.slice xa x.d.hidden.length xc)):=λ U hU=>⟨(hU.cell hg3).trans y0,(hU.cell hg3).trans y1,(hU.cell hg3).trans y2,(hU.cell hg3).trans y3,(hU.cell hg93).trans x0,(hU.cell hg93).trans x1,(hU.cell hg93).trans x2,(hU.cell hg93).trans x3⟩
    have hcs:Below wc.heap.size wc wc.drew:=Zag (Below.refl _ _) 1
    have hwn:IntKind.i64.wrap ((N:Int)-1)=(N:Int)-1:=IntWalk.i64_in _ (by have:=HLL.out;have:N<=61 * k:=this;omega)
    have n1:(0:Int)<=(N:Int)-1:=by omega
    have n2:(N:Int)-1<(N:Int):=by omega
    have n3:((N:Int)-1).toNat=N-1:=by omega
    have n4:(1:Int)<=(N:Int):=by omega
    have n5:(0:Int)<(N9:Int):=by omega
    clear y0 y1 y2 y3 x0 x1 x2 x3 hpr RY RX hxc
    generalize wc=wa at *
    go_upto_region 13 with fail
    go_cut [15,16] from 18 to 94 (λ d e wx=>∃ (gB:Nat) (za:Option Addr) (zc:Nat) (fz:List Nat),d=.pointer (some ⟨gB,0,none⟩)/\e=.bool fine/\wx.heap[gB]?=some (.cells #[.int .i64 z.kind,.string z.text,.bool z.spaced,.slice za z.hidden.length zc] 32 (0,0))/\wa.heap.size<=gB/\gB<wx.heap.size/\sTok.R wx [.int .i64 z.kind,.string z.text,.bool z.spaced,.slice za z.hidden.length zc] z fz/\(∀ b∈fz,wa.heap.size<=b)/\Below wa.heap.size wa wx)
    case first =>
     refine wp_region_noPanic ?_
     refine wp_region_held_drew (S:=λ w'=>w'.cell? ⟨g,(N-1) * 4,none⟩=some (.int .i64 y.d.kind)/\w'.cell? ⟨g,(N-1) * 4+1,none⟩=some (.string y.d.text)/\w'.cell? ⟨g,(N-1) * 4+2,none⟩=some (.bool y.d.spaced)/\w'.cell? ⟨g,(N-1) * 4+3,none⟩=some (.slice ya y.d.hidden.length yc)/\w'.cell? ⟨g9,0,none⟩=some (.int .i64 x.d.kind)/\w'.cell? ⟨g9,1,none⟩=some (.string x.d.text)/\w'.cell? ⟨g9,2,none⟩=some (.bool x.d.spaced)/\w'.cell? ⟨g9,3,none⟩=some (.slice xa x.d.hidden.length xc)) (by kernel_rfl) (by exact HSS.out _ hcs) (λ hHeld=>?_)
     generalize wa.drew=wd at *
     refine Qt 0 58 rfl rfl ?_
     try simp only [Qp]
     refine Qt 1 59 rfl rfl ?_
     try simp only [Qp]
     refine Qt 2 60 rfl rfl ?_
     try simp only [Qp]
     refine Qt 3 61 rfl rfl ?_
     try simp only [Qp]
     refine Qt 4 62 rfl rfl ?_
     try simp only [Qp]
     refine Qt 5 63 rfl rfl ?_ (by intro w hSw;obtain⟨s0,s1,s2,s3,t0,t1,t2,t3⟩:=hSw;go_simp;(first | done | with_reducible rfl | rfl))
     try simp only [Qp]
     refine Qt 6 64 rfl rfl ?_
     try simp only [Qp]
     refine Qt 7 65 rfl rfl ?_
     try simp only [Qp]
     refine Qt 8 66 rfl rfl ?_ (by intro w hSw;obtain⟨s0,s1,s2,s3,t0,t1,t2,t3⟩:=hSw;go_simp;(first | done | with_reducible rfl | rfl))
     try simp only [Qp]
     refine wpAnyH_ready (rs:=[9,13]) (by kernel_rfl) (by simp) ?_
     refine AllReadyH.cons rfl (λ K hK=>?_) ?_
     ·skip
      go_simp
      refine (HPT2.out _ hcs).mono ?_
      rintro e wx1 ⟨czs,fz,rfl,rZ,oZ,brz⟩
      obtain⟨hz,rfl,-,-,KZ⟩:=id rZ
      obtain⟨za,zc,rfl,-⟩:=Zaf KZ
      clear KZ
      have hx1:=hcs.trans (brz.mono hcs.size)
      replace oZ:=oZ.lower hcs.size
      refine hK.out _ _ (HSS.out _ hx1) (λ hHeld=>?_)
      clear hK K
      try simp only [Qp]
      refine Qt 10 57 rfl rfl ?_
      try simp only [Qp]
      refine Qt 11 68 rfl rfl ?_
      try simp only [Qp]
      refine Qt 12 69 rfl rfl ?_
      try simp only [Qp]
      refine Qr 13 rfl (λ K hK=>?_)
      go_simp
      have bk:=Zab wx1 (.cells #[.int .i64 0,.string ⟨#[]⟩,.bool false,.slice none 0 0] 32)
      have HBX:=Qh (heap_alloc_new wx1 (.cells #[.int .i64 0,.string ⟨#[]⟩,.bool false,.slice none 0 0] 32))
      have hx2:=hx1.trans (bk.mono hx1.size)
      have hge:=hx1.size
      replace rZ:=sTok.below rZ bk
      have hnz:wx1.heap.size∉fz:=λ h=>Nat.lt_irrefl _ (oZ.lt _ h)
      replace oZ:=oZ.grow bk
      refine hK.out _ _ (HSS.out _ hx2) (λ hHeld=>?_)
      clear hK K bk
      try simp only [Qp]
      generalize (wx1.alloc (.cells #[.int .i64 0,.string ⟨#[]⟩,.bool false,.slice none 0 0] 32))=wx2 at *
      have zc0:=Qc 0 HBX.out
      have zf0:=Qf 0 HBX.out
      have zc1:=Qc 1 HBX.out
      have zf1:=Qf 1 HBX.out
      have zc2:=Qc 2 HBX.out
      have zf2:=Qf 2 HBX.out
      have zc3:=Qc 3 HBX.out
      have zf3:=Qf 3 HBX.out
      have HDN:=Qh (Zfd HBX.out hge rZ oZ hnz hx2 (.int .i64 z.kind) (.string z.text) (.bool z.spaced) (.slice za z.hidden.length zc))
      refine Qr 14 rfl (λ K hK=>?_)
      go_simp
      change K _ (set4 wx2 (wx1.heap.size) (.int .i64 z.kind) (.string z.text) (.bool z.spaced) (.slice za z.hidden.length zc))
      refine hK.out _ _ (HSS.out _ HDN.out.2.2.2.2.2) (λ hHeld=>?_)
      clear hK K
      try simp only [Qp]
      refine Qt 15 16 rfl rfl ?_
      try simp only [Qp]
      refine wpAnyH_done (by kernel_rfl) ?_ _
      refine NoPanic.normal ?_
      clear hHeld
      go_wp2
      go_meet
      case rel=>exact⟨_,za,zc,_,rfl,rfl,HDN.out.1,HDN.out.2.1,HDN.out.2.2.1,HDN.out.2.2.2.1,λ b hb=>(HDN.out.2.2.2.2.1.2 b hb).1,HDN.out.2.2.2.2.2⟩
     refine AllReadyH.cons rfl (λ K hK=>?_) AllReadyH.nil
     go_simp
     have bk:=Zab wd (.cells #[.int .i64 0,.string ⟨#[]⟩,.bool false,.slice none 0 0] 32)
     have HBX:=Qh (heap_alloc_new wd (.cells #[.int .i64 0,.string ⟨#[]⟩,.bool false,.slice none 0 0] 32))
     have hx3:=hcs.trans (bk.mono hcs.size)
     have hge:=hcs.size
     refine hK.out _ _ (HSS.out _ hx3) (λ hHeld=>?_)
     clear hK K bk
     try simp only [Qp]
     generalize (wd.alloc (.cells #[.int .i64 0,.string ⟨#[]⟩,.bool false,.slice none 0 0] 32))=wx3 at *
     refine Qr 9 rfl (λ K hK=>?_)
     go_simp
     refine (HPT2.out _ hx3).mono ?_
     rintro e wx4 ⟨czs,fz,rfl,rZ,oZ,brz⟩
     obtain⟨hz,rfl,-,-,KZ⟩:=id rZ
     obtain⟨za,zc,rfl,-⟩:=Zaf KZ
     clear KZ
     have hx4:=hx3.trans (brz.mono hx3.size)
     have hnz:wd.heap.size∉fz:=λ h=>by have h1:=(oZ.2 _ h).1;have h2:=mlt HBX.out;omega
     replace HBX:=Qh (mbox HBX.out brz)
     replace oZ:=oZ.lower hx3.size
     refine hK.out _ _ (HSS.out _ hx4) (λ hHeld=>?_)
     clear hK K
     try simp only [Qp]
     refine Qt 10 57 rfl rfl ?_
     try simp only [Qp]
     refine Qt 11 68 rfl rfl ?_
     try simp only [Qp]
     refine Qt 12 69 rfl rfl ?_
     try simp only [Qp]
     have zc0:=Qc 0 HBX.out
     have zf0:=Qf 0 HBX.out
     have zc1:=Qc 1 HBX.out
     have zf1:=Qf 1 HBX.out
     have zc2:=Qc 2 HBX.out
     have zf2:=Qf 2 HBX.out
     have zc3:=Qc 3 HBX.out
     have zf3:=Qf 3 HBX.out
     have HDN:=Qh (Zfd HBX.out hge rZ oZ hnz hx4 (.int .i64 z.kind) (.string z.text) (.bool z.spaced) (.slice za z.hidden.length zc))
     refine Qr 14 rfl (λ K hK=>?_)
     go_simp
     change K _ (set4 wx4 (wd.heap.size) (.int .i64 z.kind) (.string z.text) (.bool z.spaced) (.slice za z.hidden.length zc))
     refine hK.out _ _ (HSS.out _ HDN.out.2.2.2.2.2) (λ hHeld=>?_)
     clear hK K
     try simp only [Qp]
     refine Qt 15 16 rfl rfl ?_
     try simp only [Qp]
     refine wpAnyH_done (by kernel_rfl) ?_ _
     refine NoPanic.normal ?_
     clear hHeld
     go_wp2
     go_meet
     case rel=>exact⟨_,za,zc,_,rfl,rfl,HDN.out.1,HDN.out.2.1,HDN.out.2.2.1,HDN.out.2.2.2.1,λ b hb=>(HDN.out.2.2.2.2.1.2 b hb).1,HDN.out.2.2.2.2.2⟩
    obtain⟨gB,za,zc,fz,rfl,rfl,HZB0,hgB1,hgB2,RZ,hfz,hbz⟩:=hcut
    generalize wc=wb at *
    have HZB:=Qh HZB0
    have hBb:=hB3.trans (hbz.mono hB3.size)
    replace HR:=Qh (HR.out.below hbz)
    replace HXr:=Qh (mbox HXr.out hbz)
    have HRDb:=Qh ((Zaa sTok).below HRD.out hbz)
    have HP3:Hid (Zaq ((L.map (·.d)).getLastD zTok) (P.headD zTok)=(z,fine)):=by show _=_;rw [HYX.out.1,HYX.out.2];exact HPR.out
    clear HZB0 HPT2 HSS hcs HRD
    cases fine
    ·have HF:=Qh (HGO.out.trans (ZhX hlt HMK.out HPP.out HCD.out HP3.out))
     go_wp2
     go_ret2
     exact Zjo HF.out hBb
    have HNX:=Qh (HGO.out.trans (Zgu hlt HMK.out HPP.out HCD.out HP3.out))
    have HZH:Hid (z.hidden.length<=60):=by show _<=_;have:=(Zfg HPR.out).2.2.2.2.2;omega
    have hgx:g∉fz:=λ h=>by have:=hfz _ h;omega
    have hgf:g∉fp9:=λ h=>HMI.out g h rfl
    have hgw2:w.heap.size≠g:=λ h=>HNB.out (by rw [h];rfl)
    obtain⟨z0,z1,z2,z3⟩:=Q4 HZB.out
    have y0:wb.cell? ⟨g,(N-1) * 4,none⟩=some (.int .i64 y.d.kind):=HR.out.cellAt hNl (j:=0) (by decide) (by rw [← hyd.out,hyc];rfl)
    have y1:wb.cell? ⟨g,(N-1) * 4+1,none⟩=some (.string y.d.text):=HR.out.cellAt hNl (j:=1) (by decide) (by rw [← hyd.out,hyc];rfl)
    have y2:wb.cell? ⟨g,(N-1) * 4+2,none⟩=some (.bool y.d.spaced):=HR.out.cellAt hNl (j:=2) (by decide) (by rw [← hyd.out,hyc];rfl)
    have y3:wb.cell? ⟨g,(N-1) * 4+3,none⟩=some (.slice ya y.d.hidden.length yc):=HR.out.cellAt hNl (j:=3) (by decide) (by rw [← hyd.out,hyc];rfl)
    have f0:wb.frozen? ⟨g,(N-1) * 4,none⟩=false:=HR.out.frozen _
    have f1:wb.frozen? ⟨g,(N-1) * 4+1,none⟩=false:=HR.out.frozen _
    have f2:wb.frozen? ⟨g,(N-1) * 4+2,none⟩=false:=HR.out.frozen _
    have f3:wb.frozen? ⟨g,(N-1) * 4+3,none⟩=false:=HR.out.frozen _
    have HPUT:Hid (RowN sTok w.heap.size 32 (.slice (some ⟨g,0,none⟩) N co) (L.set (N-1) ⟨[.int .i64 z.kind,.string z.text,.bool z.spaced,.slice za z.hidden.length zc],z,fz⟩) ((((wb.setCell ⟨g,(N-1) * 4,none⟩ (.int .i64 z.kind)).setCell ⟨g,(N-1) * 4+1,none⟩ (.string z.text)).setCell ⟨g,(N-1) * 4+2,none⟩ (.bool z.spaced)).setCell ⟨g,(N-1) * 4+3,none⟩ (.slice za z.hidden.length zc))):=HR.out.put hNl ⟨[.int .i64 z.kind,.string z.text,.bool z.spaced,.slice za z.hidden.length zc],z,fz⟩ rfl RZ hgx
    have HRQ:Hid ((Zaa sTok).R ((((wb.setCell ⟨g,(N-1) * 4,none⟩ (.int .i64 z.kind)).setCell ⟨g,(N-1) * 4+1,none⟩ (.string z.text)).setCell ⟨g,(N-1) * 4+2,none⟩ (.bool z.spaced)).setCell ⟨g,(N-1) * 4+3,none⟩ (.slice za z.hidden.length zc)) [.slice (some ⟨g9,0,none⟩) N9 c9] P fp9):=(Zaa sTok).setB ((Zaa sTok).setB ((Zaa sTok).setB ((Zaa sTok).setB HRDb.out hgf _ _) hgf _ _) hgf _ _) hgf _ _
    have HXQ:=Qh (Zaz (Zaz (Zaz (Zaz HXr.out hgw2 ((N-1) * 4) (.int .i64 z.kind)) hgw2 ((N-1) * 4+1) (.string z.text)) hgw2 ((N-1) * 4+2) (.bool z.spaced)) hgw2 ((N-1) * 4+3) (.slice za z.hidden.length zc))
    have hBQ:Below w.heap.size w ((((wb.setCell ⟨g,(N-1) * 4,none⟩ (.int .i64 z.kind)).setCell ⟨g,(N-1) * 4+1,none⟩ (.string z.text)).setCell ⟨g,(N-1) * 4+2,none⟩ (.bool z.spaced)).setCell ⟨g,(N-1) * 4+3,none⟩ (.slice za z.hidden.length zc)):=(((hBb.setCell (p:=⟨g,(N-1) * 4,none⟩) hgw (.int .i64 z.kind)).setCell (p:=⟨g,(N-1) * 4+1,none⟩) hgw (.string z.text)).setCell (p:=⟨g,(N-1) * 4+2,none⟩) hgw (.bool z.spaced)).setCell (p:=⟨g,(N-1) * 4+3,none⟩) hgw (.slice za z.hidden.length zc)
    go_upto_region 17 with fail
    clear z0 z1 z2 z3 y0 y1 y2 y3 f0 f1 f2 f3 HZB HR HXr HRDb hBb RZ
    generalize ((((wb.setCell ⟨g,(N-1) * 4,none⟩ (.int .i64 z.kind)).setCell ⟨g,(N-1) * 4+1,none⟩ (.string z.text)).setCell ⟨g,(N-1) * 4+2,none⟩ (.bool z.spaced)).setCell ⟨g,(N-1) * 4+3,none⟩ (.slice za z.hidden.length zc))=wq at *
    obtain⟨sv,HSV⟩:∃ sv:Value,Hid (sv=.slice (if c9=1 then some ⟨g9,0,none⟩ else some ⟨g9,4,none⟩) (N9-1) (c9-1)):=⟨_,Qh rfl⟩
    have o1:(1:Int)<=(N9:Int):=by omega
    have o2:1<=N9:=h90
    have o3:1<=c9:=by omega
    have o4:(1:Int)<=(c9:Int):=by omega
    go_cut [12] from 18 to 94 (λ d wx=>d=sv/\wx=wq)
    case first =>
     by_cases h1:c9=1
     ·have HSV1:Hid (sv=.slice (some ⟨g9,0,none⟩) (N9-1) (c9-1)):=by show _=_;rw [HSV.out,if_pos h1]
      have HC1:=Qh h1
      go_wp2
      go_meet
      case rel=>exact⟨by rw [HSV1.out];simp [HC1.out],by trivial⟩
     ·have HSV1:Hid (sv=.slice (some ⟨g9,4,none⟩) (N9-1) (c9-1)):=by show _=_;rw [HSV.out,if_neg h1]
      go_wp2
      go_meet
      case rel=>exact⟨by rw [HSV1.out],by trivial⟩
    obtain⟨rfl,rfl⟩:=hcut
    obtain⟨fps,RS0,hfs⟩:=Za3 1 (by have:=HPL.out;have:=HN9.out;omega:1<=P.length) HRQ.out
    have HRS:Hid ((Zaa sTok).R wc [u12] (P.drop 1) fps):=by show (Zaa sTok).R _ _ _ _;rw [HSV.out];exact RS0
    have HMS:Hid (∀ b∈fps,(Value.slice (some ⟨g,0,none⟩) N co).ownBlock≠some b):=λ b hb=>HMI.out b (hfs b hb)
    have hPd:(P.drop 1).length=N9-1:=by rw [List.length_drop];have:=HPL.out;have:=HN9.out;omega
    have HPD:=Qh hPd
    have hNk:N<=61 * k:=HLL.out
    have hls:Hid ((L.set (N-1) ⟨[.int .i64 z.kind,.string z.text,.bool z.spaced,.slice za z.hidden.length zc],z,fz⟩).length=N):=by show _=_;rw [List.length_set];exact HN.out.symm
    obtain⟨M,HM⟩:∃ M,Hid (M=L.set (N-1) ⟨[.int .i64 z.kind,.string z.text,.bool z.spaced,.slice za z.hidden.length zc],z,fz⟩):=⟨L.set (N-1) ⟨[.int .i64 z.kind,.string z.text,.bool z.spaced,.slice za z.hidden.length zc],z,fz⟩,Qh rfl⟩
    rw [show L.set (N-1) ⟨[.int .i64 z.kind,.string z.text,.bool z.spaced,.slice za z.hidden.length zc],z,fz⟩=M from HM.out.symm] at HPUT hls
    clear hPd RS0 hfs HRQ
    go_wp2_with (at_builtin;refine Zbh ZaG rfl (by decide) ZaF wc rfl (.tmp 91) (.tmp 92) rfl w.heap.size (.slice (some ⟨g,0,none⟩) N co) (u12) (P.drop 1) fps rfl HPUT.out rfl HRS.out HMS.out (by rw [hls.out,HPD.out];unfold maxLen;omega) (by rw [hls.out,HPD.out];omega) hBQ.size ?_;intro v5 X w5 hX hXf hR5 hg5 hp5)
    have hb5:Below w.heap.size w w5:=hBQ.grown hg5 hBQ.size (λ b hb=>(HPUT.out.mine b hb).1)
    have HX5:=Qh ((hg5.block w.heap.size (mlt HXQ.out) (λ e=>HNB.out e.symm)).trans HXQ.out)
    have HNB5:Hid (v5.ownBlock≠some w.heap.size):=λ e=>by
     rcases hp5 with h | h
     ·rw [h] at e;exact HNB.out e
     ·rw [h] at e;have:=mlt HXQ.out;simp only [Qi] at e;omega
    have hXl:X.length=N9-1:=by have:=congrArg List.length hX;rw [List.length_map] at this;rw [this];exact HPD.out
    have HGO5:Hid (subGo m raw ready 0 [] true false=subGo m raw ready nx ((M++X).map (·.d)) false false):=by
     show _=_
     rw [HNX.out]
     congr 1
     rw [List.map_append,hX,HM.out,List.map_set,show N-1=(L.map (·.d)).length-1 by rw [List.length_map];have:=HN.out;omega,set_last (by intro h;have:=congrArg List.length h;rw [List.length_map] at this;rw [List.length_nil] at this;omega),List.append_assoc,List.drop_one];rfl
    have HEM5:Hid (false=false->0<(M++X).length):=λ _=>by rw [List.length_append,hls.out];omega
    have HLL5:Hid ((M++X).length<=61 * nx):=by show _<=_;rw [List.length_append,hls.out,hXl];have:=HS.out.2.2.1;omega
    have HHD5:Hid (∀ x∈M++X,x.d.hidden.length<=60):=λ x hx=>by
     rcases Qa hx with hx | hx
     ·rw [HM.out] at hx
      rcases List.mem_or_eq_of_mem_set hx with hx | rfl
      ·exact HHD.out x hx
      ·exact HZH.out
     ·have hm:x.d∈P.drop 1:=by rw [← hX];exact List.mem_map.2 ⟨x,hx,rfl⟩
      exact HS.out.2.2.2 x.d (List.mem_of_mem_drop hm)
    have HR5:=Qh hR5
    have hnx:=HS.out.2.1
    have hnk:=HS.out.2.2.1
    clear hX hXf hR5 hg5 hp5
    go_wp2
    go_roundw
    case rel=>exact⟨nx,M++X,false,false,hnx,by trivial,by trivial,by trivial,HR5.out,HNB5.out,HGO5.out,HEM5.out,HLL5.out,HHD5.out,HX5.out,hb5⟩
    case measure=>simp [intOf];omega
  ·have HF:Hid (subGo m raw ready 0 [] true false=(L.map (·.d),true)):=by show _=_;rw [HGO.out,ZdN (by omega)]
   have HLB:Hid (L.length<=5000):=by show _<=_;have:=HLL.out;have:=HN.out;omega
   go_wp2
   go_ret2
   exact⟨.slice ao N co,L,by rw [HF.out];rfl,HR.out,by rw [HF.out],HLB.out,HHD.out,hb⟩
end Go.Proofs.YtipfpppcbmpjiaaGreat
