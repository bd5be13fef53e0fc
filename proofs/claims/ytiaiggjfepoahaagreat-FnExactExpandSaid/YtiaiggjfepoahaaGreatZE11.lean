/- Texts that the proof of E stands on, in one file. -/
import Derived.Test.YtiaiggjfepoahaaGreatZE10
import Derived.Deep.RegionHeld3
set_option linter.unusedVariables false
set_option maxHeartbeats 16000000
set_option maxRecDepth 100000
set_option linter.unusedSimpArgs false
/- TextToken of the model. (Made by gen_txt.py.) -/
namespace Go.Proofs.YtiaiggjfepoahaaGreat
open Go.RowKit
def StrOf (s:ByteArray) (w:World) (e:Ending) (w':World):Prop:=e=.returned (.string s)/\Below w.heap.size w w'
theorem Ze6 {a b:ByteArray} (h:a=b):Ending.returned (.string a)=.returned (.string b):=by rw [h]
theorem q_ways (c:UInt8):(((c.toNat:Int)==34)=true/\Hid (isQ c=true))\/(((c.toNat:Int)==34)=false/\((c.toNat:Int)==92)=true/\Hid (isQ c=true))\/(((c.toNat:Int)==34)=false/\((c.toNat:Int)==92)=false/\Hid (isQ c=false)):=by
 by_cases h1:c.toNat=34
 ·exact .inl ⟨by simp [h1],by show _=_;unfold isQ;simp [h1]⟩
 ·by_cases h2:c.toNat=92
  ·exact .inr (.inl ⟨by simp;omega,by simp [h2],by show _=_;unfold isQ;simp [h2]⟩)
  ·exact .inr (.inr ⟨by simp;omega,by simp;omega,by show _=_;unfold isQ;simp [h1,h2]⟩)
theorem Zjp (s:ByteArray) (w:World) (hs:s.size<=1000000) :
  Calls Tryz.prog 151 #[.string s] w (StrOf (escTo s s.size) w):=by
 go_enter Tryz.func151,Tryz.ntmps151
 go_wp2
 go_loopw [3,4] (λ o i wr=>∃ (k:Nat) (out:ByteArray),k<=s.size/\i=.int .i64 k/\o=.string out/\Hid (out=escTo s k)/\Below w.heap.size w wr) (λ _ i _=>s.size-(intOf i).toNat)
 case atStart=>exact⟨0,_,by omega,rfl,rfl,rfl,Below.refl _ _⟩
 case round =>
  obtain⟨k,out,hk,rfl,rfl,HO,hb⟩:=hrel
  by_cases hlt:k<s.size
  ·have hso:out.size<=2 * k:=by rw [HO.out];exact ZcT s k
   have h1z:(⟨#[92]⟩:ByteArray).size=1:=rfl
   have hsl:=λ W=>(Zez s (k:Int) ((k:Int)+1) k (k+1) rfl rfl (by omega) (by omega) W)
   have ad1:=λ W=>run_string_add_sum (P:=Tryz.prog) W out (⟨#[92]⟩:ByteArray) (by omega)
   have ad2:=λ W=>run_string_add_sum (P:=Tryz.prog) W (out++(⟨#[92]⟩:ByteArray)) (s.extract k (k+1)) (by rw [ByteArray.size_append,ByteArray.size_extract];omega)
   have ad3:=λ W=>run_string_add_sum (P:=Tryz.prog) W out (s.extract k (k+1)) (by rw [ByteArray.size_extract];omega)
   clear h1z
   rcases q_ways s[k] with⟨e1,HQ⟩ | ⟨e1,e2,HQ⟩ | ⟨e1,e2,HQ⟩
   ·have HN:Hid (out++⟨#[92]⟩++s.extract k (k+1)=escTo s (k+1)):=by show _=_;rw [Zc6 hlt HQ.out,HO.out]
    clear HO HQ hso
    go_wp2
    go_roundw
    case rel=>exact⟨k+1,_,by omega,by go_num,rfl,HN.out,hb⟩
    case measure=>simp [intOf];omega
   ·have HN:Hid (out++⟨#[92]⟩++s.extract k (k+1)=escTo s (k+1)):=by show _=_;rw [Zc6 hlt HQ.out,HO.out]
    clear HO HQ hso
    go_wp2
    go_roundw
    case rel=>exact⟨k+1,_,by omega,by go_num,rfl,HN.out,hb⟩
    case measure=>simp [intOf];omega
   ·have HN:Hid (out++s.extract k (k+1)=escTo s (k+1)):=by show _=_;rw [ZeG hlt HQ.out,HO.out]
    clear HO HQ hso
    go_wp2
    go_roundw
    case rel=>exact⟨k+1,_,by omega,by go_num,rfl,HN.out,hb⟩
    case measure=>simp [intOf];omega
  ·have HF:Hid (out=escTo s s.size):=by show _=_;rw [HO.out,show k=s.size by omega]
   clear HO
   go_wp2
   go_ret
   exact⟨Ze6 HF.out,hb⟩
theorem ZkS (v:Value) (l:List Tok) (fp:List Nat) (w:World) (hv:Zaj l=true) (H:(Zaa sTok).R w [v] l fp) :
  Calls Tryz.prog 141 #[v] w (StrOf (Zax l l.length) w):=by
 obtain⟨a,cap,rfl,hc,hm,hrow⟩:=Zac H
 unfold maxLen at hm
 clear H
 have HOK:=Qh (Zau hv)
 have hlen:=HOK.out.1
 have HSZ:=Qh (Zdj hv)
 clear hv
 go_enter Tryz.func141,Tryz.ntmps141
 go_wp2
 go_loopw [3,4] (λ o i wr=>∃ (k:Nat) (out:ByteArray),k<=l.length/\i=.int .i64 k/\o=.string out/\Hid (out=Zax l k)/\Below w.heap.size w wr) (λ _ i _=>l.length-(intOf i).toNat)
 case atStart=>exact⟨0,_,by omega,rfl,rfl,rfl,Below.refl _ _⟩
 case round =>
  obtain⟨k,out,hk,rfl,rfl,HO,hb⟩:=hrel
  by_cases hlt:k<l.length
  ·obtain⟨b1,off1,fps1,rfl,hb1',-,he1⟩:=hrow (by omega)
   obtain⟨es1,hE1,hR1⟩:=he1 k hlt
   obtain⟨h1,rfl,-,-,-⟩:=hR1
   replace hE1:=hE1.frame (hb.block b1 hb1')
   have c10:wr.cell? ⟨b1,off1+k * 4,none⟩=some _:=Zam hE1 (by decide) rfl
   have c11:wr.cell? ⟨b1,off1+k * 4+1,none⟩=some _:=Zae (j:=1) hE1 (by decide) rfl
   have c12:wr.cell? ⟨b1,off1+k * 4+2,none⟩=some _:=Zae (j:=2) hE1 (by decide) rfl
   have hsz1:=(ZaA (HOK.out.2 k hlt)).2
   have hso:out.size<=401 * k:=by rw [HO.out];exact HSZ.out k hk
   have hes:=ZcT l[k].text l[k].text.size
   have HE:Hid (∀ W,Calls Tryz.prog 151 #[.string l[k].text] W (StrOf (escTo l[k].text l[k].text.size) W)):=λ W=>Zjp _ W (by omega)
   have h1z:(⟨#[32]⟩:ByteArray).size=1:=rfl
   have ad1:=λ W=>run_string_add_sum (P:=Tryz.prog) W out (⟨#[32]⟩:ByteArray) (by omega)
   have ad2:=λ W=>run_string_add_sum (P:=Tryz.prog) W (out++(⟨#[32]⟩:ByteArray)) (escTo l[k].text l[k].text.size) (by rw [ByteArray.size_append];omega)
   have ad3:=λ W=>run_string_add_sum (P:=Tryz.prog) W (out++(⟨#[32]⟩:ByteArray)) l[k].text (by rw [ByteArray.size_append];omega)
   have ad4:=λ W=>run_string_add_sum (P:=Tryz.prog) W out (escTo l[k].text l[k].text.size) (by omega)
   have ad5:=λ W=>run_string_add_sum (P:=Tryz.prog) W out l[k].text (by omega)
   clear h1z hes he1 hrow hE1
   by_cases h0:k=0
   ·have h00:¬ (0:Int)<(k:Int):=by omega
    have h01:decide ((0:Int)<(k:Int))=false:=by simp;omega
    have h02:decide (0<k)=false:=by simp;omega
    have HNS:Hid (¬ (0<k/\l[k].spaced=true)):=λ h=>by omega
    clear h0
    by_cases h3:l[k].kind=3
    ·have hk3:(l[k].kind==3)=true:=by simp [h3]
     have HBT:Hid (bit l[k]=escTo l[k].text l[k].text.size):=by show _=_;unfold bit;rw [if_pos h3]
     have HN:Hid (out++escTo l[k].text l[k].text.size=Zax l (k+1)):=by show _=_;rw [ZbW hlt HNS.out,HBT.out,HO.out]
     clear h3 HBT HO hso
     go_wp2_with (go_at_call 151;refine (HE.out _).mono ?_;rintro e w3 ⟨rfl,hb3⟩)
     go_roundw
     case rel=>exact⟨k+1,_,by omega,by go_num,rfl,HN.out,hb.trans (hb3.mono hb.size)⟩
     case measure=>simp [intOf];omega
    ·have hk3:(l[k].kind==3)=false:=by simp;exact h3
     have HBT:Hid (bit l[k]=l[k].text):=by show _=_;unfold bit;rw [if_neg h3]
     have HN:Hid (out++l[k].text=Zax l (k+1)):=by show _=_;rw [ZbW hlt HNS.out,HBT.out,HO.out]
     clear h3 HBT HO hso
     go_wp2
     go_roundw
     case rel=>exact⟨k+1,_,by omega,by go_num,rfl,HN.out,hb⟩
     case measure=>simp [intOf];omega
   ·have h00:(0:Int)<(k:Int):=by omega
    have h01:decide ((0:Int)<(k:Int))=true:=by simp;omega
    have h02:decide (0<k)=true:=by simp;omega
    cases hsp:l[k].spaced
    ·have HNS:Hid (¬ (0<k/\l[k].spaced=true)):=λ h=>by rw [hsp] at h;exact absurd h.2 (by simp)
     by_cases h3:l[k].kind=3
     ·have hk3:(l[k].kind==3)=true:=by simp [h3]
      have HBT:Hid (bit l[k]=escTo l[k].text l[k].text.size):=by show _=_;unfold bit;rw [if_pos h3]
      have HN:Hid (out++escTo l[k].text l[k].text.size=Zax l (k+1)):=by show _=_;rw [ZbW hlt HNS.out,HBT.out,HO.out]
      rw [hsp] at c12
      clear h3 HBT HO hso
      go_wp2_with (go_at_call 151;refine (HE.out _).mono ?_;rintro e w3 ⟨rfl,hb3⟩)
      go_roundw
      case rel=>exact⟨k+1,_,by omega,by go_num,rfl,HN.out,hb.trans (hb3.mono hb.size)⟩
      case measure=>simp [intOf];omega
     ·have hk3:(l[k].kind==3)=false:=by simp;exact h3
      have HBT:Hid (bit l[k]=l[k].text):=by show _=_;unfold bit;rw [if_neg h3]
      have HN:Hid (out++l[k].text=Zax l (k+1)):=by show _=_;rw [ZbW hlt HNS.out,HBT.out,HO.out]
      rw [hsp] at c12
      clear h3 HBT HO hso
      go_wp2
      go_roundw
      case rel=>exact⟨k+1,_,by omega,by go_num,rfl,HN.out,hb⟩
      case measure=>simp [intOf];omega
    ·skip
     by_cases h3:l[k].kind=3
     ·have hk3:(l[k].kind==3)=true:=by simp [h3]
      have HBT:Hid (bit l[k]=escTo l[k].text l[k].text.size):=by show _=_;unfold bit;rw [if_pos h3]
      have HN:Hid (out++⟨#[32]⟩++escTo l[k].text l[k].text.size=Zax l (k+1)):=by show _=_;rw [ZcD hlt (by omega) hsp,HBT.out,HO.out]
      rw [hsp] at c12
      clear h3 HBT HO hso
      go_wp2_with (go_at_call 151;refine (HE.out _).mono ?_;rintro e w3 ⟨rfl,hb3⟩)
      go_roundw
      case rel=>exact⟨k+1,_,by omega,by go_num,rfl,HN.out,hb.trans (hb3.mono hb.size)⟩
      case measure=>simp [intOf];omega
     ·have hk3:(l[k].kind==3)=false:=by simp;exact h3
      have HBT:Hid (bit l[k]=l[k].text):=by show _=_;unfold bit;rw [if_neg h3]
      have HN:Hid (out++⟨#[32]⟩++l[k].text=Zax l (k+1)):=by show _=_;rw [ZcD hlt (by omega) hsp,HBT.out,HO.out]
      rw [hsp] at c12
      clear h3 HBT HO hso
      go_wp2
      go_roundw
      case rel=>exact⟨k+1,_,by omega,by go_num,rfl,HN.out,hb⟩
      case measure=>simp [intOf];omega
  ·have HF:Hid (out=Zax l l.length):=by show _=_;rw [HO.out,show k=l.length by omega]
   clear HO
   go_wp2
   go_ret
   exact⟨Ze6 HF.out,hb⟩
def TextOf (l:List Tok) (w:World) (e:Ending) (w':World):Prop:=
 ∃ (cs:List Value) (fp:List Nat),e=.returned (.tuple #[.agg cs.toArray,.bool (ZaS l).2])/\sTok.R w' cs (ZaS l).1 fp/\Own w' w.heap.size fp/\Below w.heap.size w w'
theorem Zkc (k:Int) (s:ByteArray) (w:World) (h1:okInt k) (h2:s.size<=maxLen):sTok.R w [.int .i64 k,.string s,.bool false,.slice none 0 0] ⟨k,s,false,[]⟩ []:=⟨_,rfl,h1,h2,ZaC sStr _ _ _ (by simp)⟩
theorem Zee {l:List Tok} {w w':World} (h:ZaS l=(zTok,false)) (hb:Below w.heap.size w w'):TextOf l w (.returned (.tuple #[.agg #[.int .i64 0,.string ⟨#[]⟩,.bool false,.slice none 0 0],.bool false])) w':=
 ⟨[.int .i64 0,.string ⟨#[]⟩,.bool false,.slice none 0 0],[],by rw [h],by rw [h];exact Zkc 0 ⟨#[]⟩ w' (by unfold okInt;omega) (by show (0:Nat)<=_;simp [maxLen]),Own.nil _ _,hb⟩
theorem ZhR {l:List Tok} {s:ByteArray} {w w':World} (h:ZaS l=(⟨3,s,false,[]⟩,true)) (hb:Below w.heap.size w w') (hs:s.size<=1000000):TextOf l w (.returned (.tuple #[.agg #[.int .i64 3,.string s,.bool false,.slice none 0 0],.bool true])) w':=
 ⟨[.int .i64 3,.string s,.bool false,.slice none 0 0],[],by rw [h],by rw [h];exact Zkc 3 s w' (by unfold okInt;omega) (by unfold maxLen;omega),Own.nil _ _,hb⟩
theorem ZgG {l:List Tok} (h:Zaj l=true):(quoted (Zax l l.length)).size<=50000:=by
 have h1:=Zdj h l.length (Nat.le_refl _)
 have h2:=(Zau h).1
 rw [Zes];omega
theorem Zis (v:Value) (l:List Tok) (fp:List Nat) (w:World) (hl:l.length<=1048576) (hx:∀ k,(hk:k<l.length)->l[k].hidden.length<=2000000) (H:(Zaa sTok).R w [v] l fp) :
  Calls Tryz.prog 132 #[v] w (TextOf l w):=by
 have hz0:=Zab w (.cells #[.int .i64 0,.string ⟨#[]⟩,.bool false,.slice none 0 0] 57)
 have HZ:=Qh (heap_alloc_new w (.cells #[.int .i64 0,.string ⟨#[]⟩,.bool false,.slice none 0 0] 57))
 have HCP:=Qh (ZaX v l fp _ hl hx ((Zaa sTok).below H hz0))
 clear H hx
 go_enter Tryz.func132,Tryz.ntmps132
 go_wp2_with fail
 refine HCP.out.mono ?_
 rintro e w1 ⟨v1,fp1,rfl,HL,-,-,hb1⟩
 have hB1:=hz0.trans (hb1.mono hz0.size)
 replace HZ:=Qh (mbox HZ.out hb1)
 clear hb1 hz0 HCP
 have HV:=Qh (Zbt v1 l fp1 w1 HL)
 have HL1:=Qh HL
 obtain⟨a,cap,rfl,hc,hm,-⟩:=Zac HL
 clear HL
 unfold maxLen at hm
 go_wp2_with fail
 refine HV.out.mono ?_
 rintro e w2 ⟨rfl,hb2⟩
 have hB2:=hB1.trans (hb2.mono hB1.size)
 replace HZ:=Qh (mbox HZ.out hb2)
 have HLL:=Qh ((Zaa sTok).below HL1.out hb2)
 clear HL1 HV hb2 hB1
 cases hv:Zaj l
 ·have HF:=Qh (Zi2 hv)
  clear hv
  have z0:=Qc 0 HZ.out
  have zf0:=Qf 0 HZ.out
  have z1:=Qc 1 HZ.out
  have zf1:=Qf 1 HZ.out
  have z2:=Qc 2 HZ.out
  have zf2:=Qf 2 HZ.out
  have z3:=Qc 3 HZ.out
  have zf3:=Qf 3 HZ.out
  have HS:=Qh (Zai (Zai (Zai (Zai HZ.out 0 (.int .i64 0)) 1 (.string ⟨#[]⟩)) 2 (.bool false)) 3 (.slice none 0 0))
  have HBF:=Qh ((((hB2.setCell (p:=⟨w.heap.size,0,none⟩) (Nat.le_refl _) (.int .i64 0)).setCell (p:=⟨w.heap.size,1,none⟩) (Nat.le_refl _) (.string ⟨#[]⟩)).setCell (p:=⟨w.heap.size,2,none⟩) (Nat.le_refl _) (.bool false)).setCell (p:=⟨w.heap.size,3,none⟩) (Nat.le_refl _) (.slice none 0 0))
  go_wp2
  refine bodyPost_ret (Zak rfl _ _ w.heap.size _ _ _ _ rfl HS.out Tryz.underlying57 rfl (by kernel_rfl)) rfl ?_
  exact Zee HF.out HBF.out
 have HJ:=Qh (ZkS _ l fp1 w2 hv HLL.out)
 have HVD:=Qh hv
 have hq:=ZgG hv
 have hj:=Zes (Zax l l.length)
 clear hv HLL
 go_wp2_with fail
 refine HJ.out.mono ?_
 rintro e w3 ⟨rfl,hb3⟩
 have hB3:=hB2.trans (hb3.mono hB2.size)
 replace HZ:=Qh (mbox HZ.out hb3)
 clear HJ hb3 hB2
 have HY:=Qh (λ h=>ZhL (l:=l) HVD.out rfl h)
 have HG:=Qh (λ h=>ZgE (l:=l) HVD.out rfl h)
 have h1z:(⟨#[34]⟩:ByteArray).size=1:=rfl
 have ad1:=λ W=>run_string_add_sum (P:=Tryz.prog) W (⟨#[34]⟩:ByteArray) (Zax l l.length) (by omega)
 have ad2:∀ W,(Op.stringOp .add ((⟨#[34]⟩:ByteArray)++Zax l l.length) (⟨#[34]⟩:ByteArray)).run Tryz.prog W=.ok (.string (quoted (Zax l l.length))) W:=λ W=>run_string_add_sum (P:=Tryz.prog) W ((⟨#[34]⟩:ByteArray)++Zax l l.length) (⟨#[34]⟩:ByteArray) (by rw [ByteArray.size_append];omega)
 clear h1z hj
 generalize quoted (Zax l l.length)=Q at *
 by_cases hbig:200<Q.size
 ·have HF:=Qh (HG.out hbig)
  clear HG HY
  have z0:=Qc 0 HZ.out
  have zf0:=Qf 0 HZ.out
  have z1:=Qc 1 HZ.out
  have zf1:=Qf 1 HZ.out
  have z2:=Qc 2 HZ.out
  have zf2:=Qf 2 HZ.out
  have z3:=Qc 3 HZ.out
  have zf3:=Qf 3 HZ.out
  have HS:=Qh (Zai (Zai (Zai (Zai HZ.out 0 (.int .i64 0)) 1 (.string ⟨#[]⟩)) 2 (.bool false)) 3 (.slice none 0 0))
  have HBF:=Qh ((((hB3.setCell (p:=⟨w.heap.size,0,none⟩) (Nat.le_refl _) (.int .i64 0)).setCell (p:=⟨w.heap.size,1,none⟩) (Nat.le_refl _) (.string ⟨#[]⟩)).setCell (p:=⟨w.heap.size,2,none⟩) (Nat.le_refl _) (.bool false)).setCell (p:=⟨w.heap.size,3,none⟩) (Nat.le_refl _) (.slice none 0 0))
  go_wp2
  refine bodyPost_ret (Zak rfl _ _ w.heap.size _ _ _ _ rfl HS.out Tryz.underlying57 rfl (by kernel_rfl)) rfl ?_
  exact Zee HF.out HBF.out
 ·have HF:=Qh (HY.out hbig)
  clear HG HY
  have z0:=Qc 0 HZ.out
  have zf0:=Qf 0 HZ.out
  have z1:=Qc 1 HZ.out
  have zf1:=Qf 1 HZ.out
  have z2:=Qc 2 HZ.out
  have zf2:=Qf 2 HZ.out
  have z3:=Qc 3 HZ.out
  have zf3:=Qf 3 HZ.out
  have HS:=Qh (Zai (Zai (Zai (Zai HZ.out 0 (.int .i64 3)) 1 (.string Q)) 2 (.bool false)) 3 (.slice none 0 0))
  have HBF:=Qh ((((hB3.setCell (p:=⟨w.heap.size,0,none⟩) (Nat.le_refl _) (.int .i64 3)).setCell (p:=⟨w.heap.size,1,none⟩) (Nat.le_refl _) (.string Q)).setCell (p:=⟨w.heap.size,2,none⟩) (Nat.le_refl _) (.bool false)).setCell (p:=⟨w.heap.size,3,none⟩) (Nat.le_refl _) (.slice none 0 0))
  go_wp2
  refine bodyPost_ret (Zak rfl _ _ w.heap.size _ _ _ _ rfl HS.out Tryz.underlying57 rfl (by kernel_rfl)) rfl ?_
  exact ZhR HF.out HBF.out (by omega)
theorem Zc9 (l:List Tok):∃ k s b,ZaS l=(⟨k,s,false,[]⟩,b)/\0<=k/\k<=4/\s.size<=200:=by
 rcases h:ZaS l with⟨t,b⟩
 unfold ZaS at h
 split at h
 ·split at h
  ·simp only [Prod.mk.injEq] at h;exact⟨0,⟨#[]⟩,b,by rw [← h.1];rfl,by omega,by omega,by decide⟩
  ·simp only [Prod.mk.injEq] at h;exact⟨3,quoted (Zax l l.length),b,by rw [← h.1],by omega,by omega,by omega⟩
 ·simp only [Prod.mk.injEq] at h;exact⟨0,⟨#[]⟩,b,by rw [← h.1];rfl,by omega,by omega,by decide⟩
theorem TextOf.bare {l:List Tok} {w w':World} {e:Ending} (h:TextOf l w e w'):∃ (k:Int) (s:ByteArray) (b:Bool) (ao:Option Addr) (c:Nat),ZaS l=(⟨k,s,false,[]⟩,b)/\e=.returned (.tuple #[.agg #[.int .i64 k,.string s,.bool false,.slice ao 0 c],.bool b])/\0<=k/\k<=4/\s.size<=200/\c<=maxLen/\Below w.heap.size w w':=by
 obtain⟨cs,fp,rfl,hR,-,hb⟩:=h
 obtain⟨k,s,b,e,h1,h2,h3⟩:=Zc9 l
 rw [e] at hR ⊢
 obtain⟨h',rfl,-,-,K⟩:=hR
 obtain⟨ao,c,rfl,-,hc,-⟩:=Zac K
 exact⟨k,s,b,ao,c,rfl,rfl,h1,h2,h3,hc,hb⟩
theorem Zi8 (k:Int) (s:ByteArray) (b:Bool) (ao:Option Addr) (c:Nat) (w:World) (h0:0<=k) (h1:k<=4) (h2:s.size<=1000) (h3:c<=maxLen):sTok.R w [.int .i64 k,.string s,.bool b,.slice ao 0 c] ⟨k,s,b,[]⟩ []:=
 ⟨_,rfl,(show okInt k from⟨by omega,by omega⟩),(show s.size<=maxLen by unfold maxLen;omega),ZaC sStr _ _ _ h3⟩
theorem Zi9:∀ x y:List UInt8,Op.bytesLess x y=false->(x==y)=false->Op.bytesLess y x=true
 | [],[],_,h=>by simp at h
 | [],_::_,h,_=>by simp [Op.bytesLess] at h
 | _::_,[],_,_=>by simp [Op.bytesLess]
 |
  a::x,b::y,h,h2=>by
  have ih:=Zi9 x y
  simp only [Op.bytesLess,Bool.or_eq_false_iff,decide_eq_false_iff_not,Bool.and_eq_false_iff] at h
  obtain⟨h3,h4⟩:=h
  by_cases hab:a=b
  ·subst hab
   have h5:Op.bytesLess x y=false:=by
    rcases h4 with h4 | h4
    ·simp at h4
    ·exact h4
   have h6:(x==y)=false:=by
    rw [beq_eq_false_iff_ne] at h2 ⊢
    intro e;exact h2 (by rw [e])
   simp [Op.bytesLess,ih h5 h6]
  ·have h7:b<a:=by
    rcases UInt8.lt_or_lt_of_ne hab with h | h
    ·exact absurd h h3
    ·exact h
   simp [Op.bytesLess,h7]
theorem ZmD {a b:ByteArray} (h:sLess a b=false) (h2:(a.toList==b.toList)=false):sLess b a=true:=Zi9 _ _ h h2
theorem ZcF {x n:ByteArray}:∀ {l:List ByteArray},x∈ins l n->x=n\/x∈l
 | [],h=>by simp only [ins,List.mem_singleton] at h;exact .inl h
 |
  y::r,h=>by
  unfold ins at h
  split at h
  ·rcases List.mem_cons.1 h with rfl | h
   ·exact .inr (by simp)
   ·rcases ZcF h with h | h
    ·exact .inl h
    ·exact .inr (by simp [h])
  ·split at h
   ·exact .inr h
   ·rcases List.mem_cons.1 h with rfl | h
    ·exact .inl rfl
    ·exact .inr h
theorem ins_up {n:ByteArray}:∀ {l:List ByteArray},Up l->Up (ins l n)
 | [],_=>by unfold ins Up;simp
 |
  y::r,h=>by
  have h':=h
  unfold Up at h'
  rw [List.pairwise_cons] at h'
  unfold ins
  split
  ·rename_i hs
   unfold Up
   rw [List.pairwise_cons]
   refine ⟨λ z hz=>?_,ins_up h'.2⟩
   rcases ZcF hz with rfl | hz
   ·exact hs
   ·exact h'.1 z hz
  ·rename_i hs
   split
   ·exact h
   ·rename_i he
    have hn:sLess n y=true:=ZmD (by simpa using hs) (by simpa using he)
    unfold Up
    rw [List.pairwise_cons]
    refine ⟨λ z hz=>?_,h⟩
    rcases List.mem_cons.1 hz with rfl | hz
    ·exact hn
    ·exact Zcu hn (h'.1 z hz)
theorem Zg3:∀ {b a:List ByteArray},Up a->Up (Zba a b)
 | [],_,h=>h
 | _::r,_,h=>Zg3 (b:=r) (ins_up h)
theorem Zja {x:ByteArray}:∀ {b a:List ByteArray},x∈Zba a b->x∈a\/x∈b
 | [],_,h=>.inl h
 |
  y::r,a,h=>by
  rcases Zja (b:=r) (a:=ins a y) h with h | h
  ·rcases ZcF h with rfl | h
   ·exact .inr (by simp)
   ·exact .inl h
  ·exact .inr (by simp [h])
theorem Zjb {α:Type} [DecidableEq α]:∀ {l N:List α},l.Nodup->(∀ x∈l,x∈N)->l.length<=N.length
 | [],_,_,_=>Nat.zero_le _
 |
  a::r,N,h,hs=>by
  rw [List.nodup_cons] at h
  have hm:a∈N:=hs a (by simp)
  have h1:=Zjb (l:=r) (N:=N.erase a) h.2 λ x hx=>by
   have hne:x≠a:=λ e=>h.1 (e ▸ hx)
   exact(List.mem_erase_of_ne hne).2 (hs x (by simp [hx]))
  rw [List.length_erase_of_mem hm] at h1
  have:=List.length_pos_of_mem hm
  rw [List.length_cons];omega
theorem up_nodup {l:List ByteArray} (h:Up l):l.Nodup:=List.Pairwise.imp (λ {a b} hab e=>by subst e;rw [ZcQ] at hab;exact absurd hab (by simp)) h
def HidIn (N:List ByteArray) (t:Tok):Prop:=Up t.hidden/\∀ x∈t.hidden,x∈N
theorem HidIn.len {N:List ByteArray} {t:Tok} (h:HidIn N t):t.hidden.length<=N.length:=Zjb (up_nodup h.1) h.2
theorem HidIn.bare (N:List ByteArray) {t:Tok} (h:t.hidden=[]):HidIn N t:=by
 unfold HidIn;rw [h];exact⟨List.Pairwise.nil,by simp⟩
theorem HidIn.of {N:List ByteArray} {t u:Tok} (h:HidIn N t) (e:u.hidden=t.hidden):HidIn N u:=by unfold HidIn;rw [e];exact h
theorem HidIn.put {N:List ByteArray} {t:Tok} {h:List ByteArray} (ht:HidIn N t) (hh:∀ x∈h,x∈N):HidIn N (putT h t):=
 ⟨Zg3 ht.1,λ x hx=>by
  rcases Zja hx with hx | hx
  ·exact ht.2 x hx
  ·exact hh x hx⟩
theorem HidIn.both {N:List ByteArray} {a b:Tok} (h:HidIn N a) {k:Int} {s:ByteArray} {sp:Bool}:HidIn N ⟨k,s,sp,both a.hidden b.hidden⟩:=
 ⟨List.Pairwise.filter _ h.1,λ x hx=>h.2 x (List.mem_filter.1 hx).1⟩
theorem HidIn.paste {N:List ByteArray} {a b:Tok} (h:HidIn N a):HidIn N (Zaq a b).1:=by
 rcases hp:Zaq a b with⟨u,ok⟩
 cases ok
 ·rw [ZkR hp];exact HidIn.bare N rfl
 ·obtain⟨-,-,t,-,rfl⟩:=ZhN hp;exact h.both
theorem Zkd {N:List ByteArray} {b:Bool}:∀ {l:List Tok},(∀ t∈l,HidIn N t)->∀ t∈spc b l,HidIn N t
 | [],_,t,ht=>by simp [spc] at ht
 |
  x::r,h,t,ht=>by
  rcases List.mem_cons.1 ht with rfl | ht
  ·exact(h x (by simp)).of rfl
  ·exact h t (by simp [ht])
theorem Zgd {N:List ByteArray} {l:List Tok} {h:List ByteArray} {sp:Bool} (hl:∀ t∈l,HidIn N t) (hh:∀ x∈h,x∈N):∀ t∈putL l h sp,HidIn N t:=by
 refine Zkd λ t ht=>?_
 obtain⟨u,hu,rfl⟩:=List.mem_map.1 ht
 exact(hl u hu).put hh
theorem Zef {a:List (List Tok)} {P:Tok->Prop} (h:∀ l∈a,∀ t∈l,P t) (n:Int):∀ t∈argAt a n,P t:=by
 unfold argAt
 by_cases hn:n.toNat<a.length
 ·rw [List.getD_eq_getElem?_getD,List.getElem?_eq_getElem hn]
  exact h _ (List.getElem_mem hn)
 ·rw [List.getD_eq_getElem?_getD,List.getElem?_eq_none (by omega)]
  simp
theorem part_in {N:List ByteArray} {m:DMacro} {raw ready:List (List Tok)} (hv:macOk m=true) (ha:∀ l∈raw,∀ t∈l,HidIn N t) (hy:∀ l∈ready,∀ t∈l,HidIn N t) (k:Nat):∀ t∈(Zay m raw ready k).1,HidIn N t:=by
 intro t ht
 unfold Zay at ht
 split at ht
 ·rename_i hk
  split at ht
  ·split at ht
   ·rw [Qm ht]
    rename_i hk2
    obtain⟨kk,s,b,hx,-⟩:=Zc9 (argAt raw (parOf m.params m.body[k+1]))
    exact HidIn.bare N (by show (ZaS _).1.hidden=[];rw [hx])
   ·simp at ht
  ·split at ht
   ·rw [Qm ht];exact HidIn.bare N (Zb6 hk ((ZaH hv).2.2 k hk)).2.1
   ·split at ht
    ·exact Zkd (Zef ha _) t ht
    ·exact Zkd (Zef hy _) t ht
 ·simp at ht
theorem subGo_in {N:List ByteArray} {m:DMacro} {raw ready:List (List Tok)} (hv:macOk m=true) (ha:∀ l∈raw,∀ t∈l,HidIn N t) (hy:∀ l∈ready,∀ t∈l,HidIn N t):∀ (d k:Nat) (out:List Tok) (emp paste:Bool),m.body.length-k<=d->(∀ t∈out,HidIn N t)->∀ t∈(subGo m raw ready k out emp paste).1,HidIn N t:=by
 intro d
 induction d with
 | zero=>intro k out emp paste hd ho;rw [ZdD (by omega)];exact ho
 |
  succ d ih =>
  intro k out emp paste hd ho
  by_cases hk:k<m.body.length
  rotate_left
  ·rw [ZdD (by omega)];exact ho
  by_cases h1:isM m.body[k] [35,35]=true/\paste=false
  ·obtain⟨h1,rfl⟩:=h1
   rw [Ze5 hk h1]
   exact ih _ _ _ _ (by omega) ho
  have hP2:=part_in hv ha hy k
  have hnx:=Zec m raw ready k
  rcases hP:Zay m raw ready k with⟨P,nx,ok⟩
  rw [hP] at hP2 hnx
  have hnx':k<nx:=hnx
  have hP2':∀ t∈P,HidIn N t:=hP2
  cases ok
  ·rw [ZeH hk h1 hP];simp
  by_cases h2:paste=true/\emp=false/\0<P.length
  ·rcases hz:Zaq (out.getLastD zTok) (P.headD zTok) with⟨z,fine⟩
   cases fine
   ·rw [ZhO hk h1 hP h2 hz];simp
   ·rw [Zgc hk h1 hP h2 hz]
    refine ih _ _ _ _ (by omega) λ t ht=>?_
    rcases Qa ht with ht | ht
    ·exact ho t ((List.dropLast_sublist out).subset ht)
    ·rcases List.mem_cons.1 ht with rfl | ht
     ·have hl:HidIn N (out.getLastD zTok):=by
       rcases List.eq_nil_or_concat out with rfl | ⟨a,b,rfl⟩
       ·exact HidIn.bare N rfl
       ·rw [List.concat_eq_append,List.getLastD_concat];exact ho b (by simp)
      have:=hl.paste (b:=P.headD zTok)
      rw [hz] at this;exact this
     ·exact hP2' t (List.mem_of_mem_tail ht)
  ·rw [ZdE hk h1 hP h2]
   refine ih _ _ _ _ (by omega) λ t ht=>?_
   rcases Qa ht with ht | ht
   ·exact ho t ht
   ·exact hP2' t ht
theorem ZfR {N:List ByteArray} {m:DMacro} {raw ready:List (List Tok)} (ha:∀ l∈raw,∀ t∈l,HidIn N t) (hy:∀ l∈ready,∀ t∈l,HidIn N t):∀ t∈(Zap m raw ready).1,HidIn N t:=by
 unfold Zap
 split
 ·rename_i h
  split
  ·simp
  ·exact subGo_in h.1 ha hy _ 0 [] true false (Nat.le_refl _) (by simp)
 ·simp
theorem Zd2 {P:Tok->Prop}:∀ (l:List Tok) (d:Int) (A:Args) (M:List Tok) (k:Nat),(∀ t∈l,P t)->(∀ a∈A,∀ t∈a,P t)->(∀ t∈M,P t)->∀ a∈(splK l d A M k).1,∀ t∈a,P t
 | [],d,A,M,k,_,hA,_=>by unfold splK;exact hA
 |
  t::r,d,A,M,k,hl,hA,hM=>by
  have hr:∀ u∈r,P u:=λ u hu=>hl u (by simp [hu])
  have hAM:∀ a∈A++[M],∀ u∈a,P u:=λ a ha=>by
   rcases Qa ha with ha | ha
   ·exact hA a ha
   ·rw [Qm ha];exact hM
  unfold splK
  split
  ·exact hAM
  ·split
   ·exact Zd2 r _ _ _ _ hr hAM (by simp)
   ·exact Zd2 r _ _ _ _ hr hA λ u hu=>by
     rcases Qa hu with hu | hu
     ·exact hM u hu
     ·rw [Qm hu];exact hl t (by simp)
theorem ZfS {P:Tok->Prop} {f:List Tok->Nat->XRes} (hf:∀ a k,(∀ t∈a,P t)->∀ t∈(f a k).1,P t):∀ (A:List (List Tok)) (s:Nat),(∀ a∈A,∀ t∈a,P t)->∀ a∈(argsX f A s).1,∀ t∈a,P t
 | [],s,_=>by unfold argsX;simp
 |
  a::r,s,h=>by
  unfold argsX
  split
  ·split
   ·intro b hb
    rcases List.mem_cons.1 hb with rfl | hb
    ·exact hf a s (h a (by simp))
    ·exact ZfS hf r _ (λ c hc=>h c (by simp [hc])) b hb
   ·simp
  ·simp
theorem Zit {T:List DMacro} {t:Tok} {m:DMacro} (h:findM T t=some m):m∈T:=by
 unfold findM at h
 split at h
 ·exact List.mem_of_getElem? h
 ·simp at h
theorem go_in {T:List DMacro} {w:List Tok} {m:DMacro} (h:goM T w=some m):m∈T:=by
 cases w with
 | nil=>simp [goM] at h
 |
  cons t r =>
  unfold goM at h
  dsimp only at h
  cases hf:findM T t with
  | none=>rw [hf] at h;simp at h
  |
   some m' =>
   rw [hf] at h
   dsimp only at h
   split at h
   ·simp at h
   ·simp only [Qi] at h;subst h;exact Zit hf
section
variable {N:List ByteArray} {T:List DMacro}
theorem headD_in {w:List Tok} (h:∀ t∈w,HidIn N t):HidIn N (w.headD zTok):=by
 cases w with
 | nil=>exact HidIn.bare N rfl
 | cons t r=>exact h t (by simp)
theorem Zke {f:List Tok->Nat->XRes} (hf:∀ a k,(∀ t∈a,HidIn N t)->∀ t∈(f a k).1,HidIn N t) {m:DMacro} (hm:m.name∈N) {w:List Tok} (hw:∀ t∈w,HidIn N t) (s:Nat):∀ t∈(callX f m w s).1,HidIn N t:=by
 have hA:=Zd2 (P:=HidIn N) (w.drop 2) 1 [] [] 2 (λ t ht=>hw t (List.mem_of_mem_drop ht)) (by simp) (by simp)
 have hA':∀ a∈(splK (w.drop 2) 1 [] [] 2).1.take m.params.length,∀ t∈a,HidIn N t:=λ a ha=>hA a (List.mem_of_mem_take ha)
 unfold callX
 split
 ·split
  ·split
   ·refine Zgd (ZfR hA' (ZfS hf _ s hA')) λ x hx=>?_
    rcases ZcF hx with rfl | hx
    ·exact hm
    ·exact(headD_in hw).2 x (List.mem_filter.1 hx).1
   ·simp
  ·simp
 ·simp
theorem ZfT (hT:∀ m∈T,m.name∈N):∀ (n:Nat) (w:List Tok) (s:Nat) (out:List Tok),(∀ t∈out,HidIn N t)->(∀ t∈w,HidIn N t)->∀ t∈(expG T n s out w).1,HidIn N t:=by
 intro n
 have app:∀ {a b:List Tok},(∀ t∈a,HidIn N t)->(∀ t∈b,HidIn N t)->∀ t∈a++b,HidIn N t:=λ h1 h2 t ht=>by
  rcases Qa ht with h | h
  ·exact h1 t h
  ·exact h2 t h
 induction n with
 |
  zero =>
  intro w
  induction w with
  | nil=>intro s out ho _;rw [Zb8];exact ho
  |
   cons t r ih =>
   intro s out ho hw
   have hr:∀ u∈r,HidIn N u:=λ u hu=>hw u (by simp [hu])
   cases hg:goM T (t::r) with
   |
    none =>
    by_cases hl:60<out.length+1
    ·rw [Zbw hg hl];simp
    ·rw [Zbv hg hl];exact ih s _ (app ho (λ u hu=>by rw [Qm hu];exact hw t (by simp))) hr
   | some m=>rw [expG,hg];simp
 |
  succ n ihn =>
  intro w
  induction w with
  | nil=>intro s out ho _;rw [Zb8];exact ho
  |
   cons t r ih =>
   intro s out ho hw
   have hr:∀ u∈r,HidIn N u:=λ u hu=>hw u (by simp [hu])
   cases hg:goM T (t::r) with
   |
    none =>
    by_cases hl:60<out.length+1
    ·rw [Zbw hg hl];simp
    ·rw [Zbv hg hl];exact ih s _ (app ho (λ u hu=>by rw [Qm hu];exact hw t (by simp))) hr
   |
    some m =>
    have hmN:=hT m (go_in hg)
    cases s with
    | zero=>rw [Zc8 hg];simp
    |
     succ s =>
     cases hf:m.function
     ·have hs:=ZfR (N:=N) (m:=m) (raw:=[]) (ready:=[]) (by simp) (by simp)
      rcases hc:Zap m [] [] with⟨b,ok⟩
      rw [hc] at hs
      cases ok
      ·rw [Zd1 hg hf hc];simp
      ·by_cases hl:60<(putL b (ins t.hidden m.name) t.spaced++r).length
       ·rw [Zd0 hg hf hc hl];simp
       ·rw [ZeJ hg hf hc hl]
        refine ihn _ _ _ ho (app (Zgd hs λ x hx=>?_) hr)
        rcases ZcF hx with rfl | hx
        ·exact hmN
        ·exact(hw t (by simp)).2 x hx
     ·have hci:=Zke (f:=λ a k=>expG T n k [] a) (λ a k ha=>ihn a k [] (by simp) ha) hmN hw s
      rcases hc:callX (λ a k=>expG T n k [] a) m (t::r) s with⟨b,e,l,c⟩
      rw [hc] at hci
      by_cases h0:c=0
      ·subst h0
       by_cases hl:60<(b++(t::r).drop e).length
       ·rw [Zds hg hf hc hl];simp
       ·rw [ZdZ hg hf hc hl]
        exact ihn _ _ _ ho (app hci λ u hu=>hw u (List.mem_of_mem_drop hu))
      ·rw [ZbX hg hf hc h0];simp
theorem Ziu (T:List DMacro):∀ (n:Nat) (w:List Tok) (s:Nat) (out:List Tok),out.length<=60->(expG T n s out w).1.length<=60:=by
 intro n
 induction n with
 |
  zero =>
  intro w
  induction w with
  | nil=>intro s out ho;rw [Zb8];exact ho
  |
   cons t r ih =>
   intro s out ho
   cases hg:goM T (t::r) with
   |
    none =>
    by_cases hl:60<out.length+1
    ·rw [Zbw hg hl];simp
    ·rw [Zbv hg hl];exact ih s _ (by simp;omega)
   | some m=>rw [expG,hg];simp
 |
  succ n ihn =>
  intro w
  induction w with
  | nil=>intro s out ho;rw [Zb8];exact ho
  |
   cons t r ih =>
   intro s out ho
   cases hg:goM T (t::r) with
   |
    none =>
    by_cases hl:60<out.length+1
    ·rw [Zbw hg hl];simp
    ·rw [Zbv hg hl];exact ih s _ (by simp;omega)
   |
    some m =>
    cases s with
    | zero=>rw [Zc8 hg];simp
    |
     succ s =>
     cases hf:m.function
     ·rcases hc:Zap m [] [] with⟨b,ok⟩
      cases ok
      ·rw [Zd1 hg hf hc];simp
      ·by_cases hl:60<(putL b (ins t.hidden m.name) t.spaced++r).length
       ·rw [Zd0 hg hf hc hl];simp
       ·rw [ZeJ hg hf hc hl];exact ihn _ _ _ ho
     ·rcases hc:callX (λ a k=>expG T n k [] a) m (t::r) s with⟨b,e,l,c⟩
      by_cases h0:c=0
      ·subst h0
       by_cases hl:60<(b++(t::r).drop e).length
       ·rw [Zds hg hf hc hl];simp
       ·rw [ZdZ hg hf hc hl];exact ihn _ _ _ ho
      ·rw [ZbX hg hf hc h0];simp
end
theorem Zbj (b:Nat):∀ (vs:List Value) (w:World) (o:Nat),Zdp w b o vs=w.setCells b o vs
 | [],_,_=>rfl
 | v::vs,w,o=>Zbj b vs _ (o+1)
theorem ZmE {base e g n cap size:Nat} {xs:List Value} {w:World} (h:w.ownsRow base e size (.slice (some ⟨g,0,none⟩) n cap) n xs) (hn:n+1<=cap) :
  ∃ Z,Z.length=size/\w.ownsRow base e size (.slice (some ⟨g,0,none⟩) (n+1) cap) (n+1) (xs++Z):=by
 rcases h.2 with⟨h',_⟩ | ⟨g',cap',cur,h',q2,q3,q4,q5,q6,q7⟩
 ·cases h'
 ·simp only [Value.slice.injEq,Qi,Addr.mk.injEq,and_true,true_and] at h'
  obtain⟨rfl,rfl⟩:=h'
  have hsz:(n+1) * size<=cap * size:=Nat.mul_le_mul_right _ hn
  have hsn:(n+1) * size=n * size+size:=Nat.succ_mul _ _
  refine ⟨(cur.toList.drop (n * size)).take size,?_,?_,.inr ⟨g,cap,cur,rfl,q2,q3,hn,q5,q6,?_⟩⟩
  ·rw [List.length_take,List.length_drop,Array.length_toList,q6];omega
  ·rw [List.length_append,h.1,List.length_take,List.length_drop,Array.length_toList,q6];omega
  ·rw [hsn,List.take_add,q7]
theorem ZkT {A D X Z:List Value} (hz:Z.length=X.length) (hy:(A++D++Z).length=A.length+X.length+D.length):Zbm (Zbm (A++D++Z) (A.length+X.length) D) A.length X=A++(X++D):=by
 have h1:A++D++Z=A++((D++Z).take X.length++(D++Z).drop X.length):=by rw [List.take_append_drop,List.append_assoc]
 have ht:((D++Z).take X.length).length=X.length:=by rw [List.length_take,List.length_append];omega
 have hd:((D++Z).drop X.length).length=D.length:=by rw [List.length_drop,List.length_append];omega
 have h2:A++D++Z=(A++(D++Z).take X.length)++((D++Z).drop X.length++[]):=by rw [h1,List.append_nil,List.append_assoc]
 have h3:(A++(D++Z).take X.length).length=A.length+X.length:=by rw [List.length_append,ht]
 rw [h2,← h3,Zbq _ _ _ _ hd,List.append_nil,List.append_assoc]
 exact Zbq X A _ D ht
theorem ZkU {A X D Z1 Z2:List Value} (h1:Z1.length=X.length) (h2:Z2.length=D.length):Zbm (Zbm (A++(Z1++Z2)) A.length X) (A.length+X.length) D=A++(X++D):=by
 rw [Zbq X A Z1 Z2 h1,← List.append_assoc,← List.length_append]
 have:=Zbq D (A++X) Z2 [] h2
 rw [List.append_nil,List.append_nil] at this
 rw [this,List.append_assoc]
theorem Zg4 {P:Program} (w:World) (base:Nat) (t ty e:TypeId) (i:TypeInfo) (z:Value) (size bytes:Nat) (ht:P.underlying t=some (.slice e)) (hi:P.info? e=some i) (hz:i.zero=some z)
  (hsize:i.size=size) (hby:i.bytes=bytes) (hzs:z.cells.size=size) (hsz:0<size)
  (v:Value) (n:Nat) (xs:List Value) (hown:w.ownsRow base e size v n xs)
  (a:Addr) (m c:Nat) (news:List Value) (hl:news.length=m * size) (hnews:∀ j u,news[j]?=some u->w.cell? (a.add j)=some u) (h1:∀ u∈news,u.oneCell'=true)
  (h63:n+m<=maxLen) (hbytes:(n+m) * bytes<=140737488355328) (hbase:base<=w.heap.size) :
  ∃ v' w',(Builtin.append_ #[t,t] ty #[v,.slice (some a) m c]).run P w=.ok v' w'/\w'.ownsRow base e size v' (n+m) (xs++news)/\w.grownBy w' v.ownBlock/\(v'.ownBlock=v.ownBlock\/v'.ownBlock=some w.heap.size):=by
 obtain⟨v',w',hr,h2,h3,h4⟩:=Go.run_append_own (P:=P) w base t ty e i z size bytes ht hi hz hsize hby hzs hsz v n xs hown a m c news hl hnews h1 h63 hbytes hbase
 refine ⟨v',w',hr,h2,h3,?_⟩
 have hsmall:n+m<=9223372036854775807:=by simp only [maxLen] at h63;omega
 subst hsize
 subst hby
 rcases hown.2 with⟨rfl,rfl⟩ | ⟨g,cap,cur,rfl,hbg,hg,hnc,hcm,hcs,htake⟩
 ·have hx:xs=[]:=List.eq_nil_of_length_eq_zero (by simpa using hown.1)
  subst hx
  by_cases hm:m=0
  ·exact .inl (by rw [h4.2 ⟨rfl,hm⟩])
  ·have hr2:=_root_.Go.run_append_nil (P:=P) w t ty e i z ht hi hz a m c news hl hnews (by omega) (by omega) (by have hb:=hbytes;simp only [Nat.zero_add] at hb;omega)
   rw [hr2] at hr
   obtain⟨rfl,_⟩:=Result.ok.inj hr
   exact .inr rfl
 ·by_cases hroom:n+m<=cap
  ·have hfit:n * i.size+news.length<=cur.size:=by rw [hl,hcs,← Nat.add_mul];exact Nat.mul_le_mul_right _ hroom
   have hr2:=Go.run_append_room (P:=P) w t ty e i ht hi g n cap cur hg a m c news hl hnews h1 hroom hfit
   rw [hr2] at hr
   obtain⟨rfl,_⟩:=Result.ok.inj hr
   exact .inl rfl
  ·have holds:∀ j u,xs[j]?=some u->w.cell? ((⟨g,0,none⟩:Addr).add j)=some u:=hown.cells (g:=g) rfl
   have hr2:=_root_.Go.run_append_grow (P:=P) w t ty e i z ht hi hz ⟨g,0,none⟩ n cap xs hown.1 holds a m c news hl hnews (by omega) (by omega) (growslice_fits (by omega) hbytes)
   rw [hr2] at hr
   obtain⟨rfl,_⟩:=Result.ok.inj hr
   exact .inr rfl
structure RowN {α:Type} (S:Shape α) (base:Nat) (e:TypeId) (v:Value) (L:List (Elem α)) (w:World):Prop where
 row:w.ownsRow base e S.m v L.length (L.flatMap (·.cells))
 len:∀ x∈L,x.cells.length=S.m
 el:∀ x∈L,S.R w x.cells x.d x.fp
 ap:∀ x∈L,∀ b∈x.fp,v.ownBlock≠some b
section
variable {α:Type} {S:Shape α} {base:Nat} {e:TypeId} {v v':Value} {L:List (Elem α)} {w w':World}
theorem RowN.nil (S:Shape α) (base:Nat) (e:TypeId) (w:World):RowN S base e (.slice none 0 0) [] w:=⟨World.ownsRow_nil _ _ _ _,by simp,by simp,by simp⟩
theorem RowN.lit0 (S:Shape α) (e:TypeId) (w:World) {base:Nat} (hb:base<=w.heap.size):RowN S base e (.slice (some ⟨w.heap.size,0,none⟩) 0 0) [] (w.alloc (.cells #[] e)) where
 row:=World.ownsRow_lit (base:=base) (e:=e) (size:=S.m) w #[] 0 hb (by unfold maxLen;omega) (by simp)
 len:=by simp
 el:=by simp
 ap:=by simp
theorem RowN.lit1 {x:Elem α} {base:Nat} (hb:base<=w.heap.size) (hl:x.cells.length=S.m) (hR:S.R w x.cells x.d x.fp):RowN S base e (.slice (some ⟨w.heap.size,0,none⟩) 1 1) [x] (w.alloc (.cells x.cells.toArray e)) where
 row:=by
  have:=World.ownsRow_lit (base:=base) (e:=e) (size:=S.m) w x.cells.toArray 1 hb (by unfold maxLen;omega) (by simpa using hl)
  simpa using this
 len:=λ y hy=>by obtain rfl:=Qm hy;exact hl
 el:=λ y hy=>by obtain rfl:=Qm hy;exact S.below hR (Zab w _)
 ap:=λ y hy b hb' h=>by
  obtain rfl:=Qm hy
  have:=S.lt hR b hb'
  simp only [Value.ownBlock,Qi] at h
  omega
theorem RowN.same (h:RowN S base e v L w) (hv:∀ g,v.ownBlock=some g->w'.heap[g]?=w.heap[g]?) (hb:∀ x∈L,∀ b∈x.fp,w'.heap[b]?=w.heap[b]?):RowN S base e v L w' where
 row:=Za9 h.row hv
 len:=h.len
 el:=λ x hx=>S.frame (λ b hb'=>hb x hx b hb') (h.el x hx)
 ap:=h.ap
theorem RowN.below (h:RowN S base e v L w) (hb:Below w.heap.size w w'):RowN S base e v L w':=
 h.same (λ g hg=>hb.block g (h.row.lt g hg).2) (λ x hx b hb'=>hb.block b (S.lt (h.el x hx) b hb'))
theorem RowN.kept {K:List Nat} (h:RowN S base e v L w) (hk:Kept K w w') (hv:∀ g,v.ownBlock=some g->g∉K) (hb:∀ x∈L,∀ b∈x.fp,b∉K):RowN S base e v L w':=
 h.same (λ g hg=>hk.block g (h.row.lt g hg).2 (hv g hg)) (λ x hx b hb'=>hk.block b (S.lt (h.el x hx) b hb') (hb x hx b hb'))
theorem RowN.lower {base':Nat} (h:RowN S base e v L w) (hl:base'<=base):RowN S base' e v L w where
 row:=⟨h.row.1,by
  rcases h.row.2 with h0 | ⟨g,cap,cur,h1,h2,h3⟩
  ·exact .inl h0
  ·exact .inr ⟨g,cap,cur,h1,Nat.le_trans hl h2,h3⟩⟩
 len:=h.len
 el:=h.el
 ap:=h.ap
theorem RowN.val (h:RowN S base e v L w):∃ a cap,v=.slice a L.length cap/\L.length<=cap/\cap<=maxLen/\(0<L.length->∃ g,a=some ⟨g,0,none⟩/\base<=g/\g<w.heap.size):=by
 rcases h.row.2 with⟨rfl,h0⟩ | ⟨g,cap,cur,rfl,hb,hg,hn,hc,_⟩
 ·exact⟨none,0,by rw [h0],by omega,by simp,λ h=>by omega⟩
 ·exact⟨_,cap,rfl,hn,hc,λ _=>⟨g,rfl,hb,(Qg hg).1⟩⟩
theorem RowN.mine (h:RowN S base e v L w):∀ b,v.ownBlock=some b->base<=b/\b<w.heap.size:=λ b hb=>h.row.lt b hb
theorem RowN.read (h:RowN S base e v L w):∃ fp,(Zaa S).R w [v] (L.map (·.d)) fp/\(∀ b∈fp,v.ownBlock=some b\/∃ x∈L,b∈x.fp)/\(Own w base (L.flatMap (·.fp))->Own w base fp):=by
 obtain⟨fp,h1,h2,h3⟩:=Za7 h.row λ x hx=>⟨h.len x hx,h.el x hx⟩
 refine ⟨fp,h1,λ b hb=>?_,λ ho=>h3 ho λ g hg hm=>?_⟩
 ·rcases h2 b hb with h | h
  ·exact .inl h
  ·obtain⟨x,hx,hb'⟩:=List.mem_flatMap.1 h
   exact .inr ⟨x,hx,hb'⟩
 ·obtain⟨x,hx,hb'⟩:=List.mem_flatMap.1 hm
  exact h.ap x hx g hb' hg
theorem RowN.len_eq {g n cap:Nat} (h:RowN S base e (.slice (some ⟨g,0,none⟩) n cap) L w):L.length=n:=by
 rcases h.row.2 with⟨h',_⟩ | ⟨g',cap',cur,h',_⟩
 ·cases h'
 ·simp only [Value.slice.injEq] at h';exact h'.2.1.symm
theorem RowN.frozen {g n cap:Nat} (h:RowN S base e (.slice (some ⟨g,0,none⟩) n cap) L w) (o:Nat):w.frozen? ⟨g,o,none⟩=false:=by
 rcases h.row.2 with⟨h',_⟩ | ⟨g',cap',cur,h',_,hg,_⟩
 ·cases h'
 ·simp only [Value.slice.injEq,Qi,Addr.mk.injEq,and_true] at h'
  obtain⟨rfl,_⟩:=h'
  exact frozen_of_row w g o cur e hg
theorem RowN.cellAt {g n cap:Nat} (h:RowN S base e (.slice (some ⟨g,0,none⟩) n cap) L w) {k:Nat} (hk:k<L.length) {j:Nat} (hj:j<S.m) {u:Value} (hu:L[k].cells[j]?=some u):w.cell? ⟨g,k * S.m+j,none⟩=some u:=by
 have hn:L.length=n:=h.len_eq
 subst hn
 rw [h.row.cellAt (k * S.m+j) (by have:(k+1) * S.m<=L.length * S.m:=Nat.mul_le_mul_right _ hk;rw [Nat.succ_mul] at this;omega)]
 exact(Zdw (f:=Elem.cells) h.len hk hj).trans hu
theorem RowN.set {g n cap:Nat} (h:RowN S base e (.slice (some ⟨g,0,none⟩) n cap) L w) {k:Nat} (hk:k<L.length) {j:Nat} (hj:j<S.m) (u:Value) (x':Elem α) (hx:x'.cells=L[k].cells.set j u)
  (hR:S.R w x'.cells x'.d x'.fp) (hap:g∉x'.fp):RowN S base e (.slice (some ⟨g,0,none⟩) n cap) (L.set k x') (w.setCell ⟨g,k * S.m+j,none⟩ u):=by
 have hn:L.length=n:=h.len_eq
 have hfar:∀ b,b≠g->(w.setCell ⟨g,k * S.m+j,none⟩ u).heap[b]?=w.heap[b]?:=λ b hb=>Below.heap_setCell _ _ _ _ hb
 have hmem:∀ x∈L.set k x',x=x'\/x∈L:=λ x hx=>by
  rcases List.mem_or_eq_of_mem_set hx with h | h
  ·exact .inr h
  ·exact .inl h
 have hne:∀ x∈L.set k x',∀ b∈x.fp,b≠g:=λ x hx' b hb e=>by
  subst e
  rcases hmem x hx' with rfl | hx'
  ·exact hap hb
  ·exact h.ap x hx' b hb rfl
 refine ⟨?_,λ x hx'=>?_,λ x hx'=>S.frame (λ b hb=>hfar b (hne x hx' b hb)) ?_,λ x hx' b hb hv=>?_⟩
 ·have hrow:=h.row
  rw [hn] at hrow
  have:=(hrow.stored (k * S.m+j) u).1
  rw [Zdi h.len hk hj u x' hx] at this
  rw [List.length_set,hn]
  exact this
 ·rcases hmem x hx' with rfl | hx'
  ·rw [hx,List.length_set];exact h.len _ (List.getElem_mem hk)
  ·exact h.len x hx'
 ·rcases hmem x hx' with rfl | hx'
  ·exact hR
  ·exact h.el x hx'
 ·simp only [Value.ownBlock,Qi] at hv
  exact hne x hx' b hb hv.symm
theorem RowN.put {g n cap:Nat} (h:RowN S base e (.slice (some ⟨g,0,none⟩) n cap) L w) {k:Nat} (hk:k<L.length) (x':Elem α) (hl:x'.cells.length=S.m) (hR:S.R w x'.cells x'.d x'.fp) (hap:g∉x'.fp) :
  RowN S base e (.slice (some ⟨g,0,none⟩) n cap) (L.set k x') (Zdp w g (k * S.m) x'.cells):=by
 have hn:L.length=n:=h.len_eq
 have hK:=Zbr (g:=g) x'.cells w (k * S.m)
 have hmem:∀ x∈L.set k x',x=x'\/x∈L:=λ x hx=>by
  rcases List.mem_or_eq_of_mem_set hx with h | h
  ·exact .inr h
  ·exact .inl h
 have hne:∀ x∈L.set k x',∀ b∈x.fp,b≠g:=λ x hx' b hb e=>by
  subst e
  rcases hmem x hx' with rfl | hx'
  ·exact hap hb
  ·exact h.ap x hx' b hb rfl
 have hel:∀ x∈L.set k x',x.cells.length=S.m/\S.R w x.cells x.d x.fp:=λ x hx'=>by
  rcases hmem x hx' with rfl | hx'
  ·exact⟨hl,hR⟩
  ·exact⟨h.len x hx',h.el x hx'⟩
 refine ⟨?_,λ x hx'=>(hel x hx').1,λ x hx'=>S.frame (λ b hb=>hK.block b (S.lt (hel x hx').2 b hb) (by simp;exact hne x hx' b hb)) (hel x hx').2,λ x hx' b hb hv=>?_⟩
 ·have hrow:=h.row
  rw [hn] at hrow
  have r1:=ZbC x'.cells w _ (k * S.m) hrow
  have hsplit:L.flatMap (·.cells)=(L.take k).flatMap (·.cells)++(L[k].cells++(L.drop (k+1)).flatMap (·.cells)):=by
   have e0:L=L.take k++(L[k]::L.drop (k+1)):=by rw [← List.drop_eq_getElem_cons hk,List.take_append_drop]
   conv=>lhs;rw [e0]
   rw [List.flatMap_append,List.flatMap_cons]
  have hsplit2:(L.set k x').flatMap (·.cells)=(L.take k).flatMap (·.cells)++(x'.cells++(L.drop (k+1)).flatMap (·.cells)):=by
   rw [List.set_eq_take_append_cons_drop,if_pos hk,List.flatMap_append,List.flatMap_cons]
  have hA:((L.take k).flatMap (·.cells)).length=k * S.m:=by rw [ZaT (f:=Elem.cells) (m:=S.m) (λ y hy=>h.len y (List.mem_of_mem_take hy)),List.length_take];congr 1;omega
  have e1:=Zbq x'.cells ((L.take k).flatMap (·.cells)) L[k].cells ((L.drop (k+1)).flatMap (·.cells)) (by rw [hl];exact h.len _ (List.getElem_mem hk))
  rw [hA,← hsplit,← hsplit2] at e1
  rw [e1] at r1
  rw [List.length_set,hn]
  exact r1
 ·simp only [Value.ownBlock,Qi] at hv
  exact hne x hx' b hb hv.symm
theorem RowN.appended (h:RowN S base e v L w) {X:List (Elem α)} (hrow:w'.ownsRow base e S.m v' (L++X).length ((L++X).flatMap (·.cells))) (hg:w.grownBy w' v.ownBlock) (hp:v'.ownBlock=v.ownBlock\/v'.ownBlock=some w.heap.size)
  (hX:∀ x∈X,x.cells.length=S.m/\S.R w x.cells x.d x.fp/\∀ b∈x.fp,v.ownBlock≠some b):RowN S base e v' (L++X) w':=by
 have hall:∀ x∈L++X,x.cells.length=S.m/\S.R w x.cells x.d x.fp/\∀ b∈x.fp,v.ownBlock≠some b:=λ x hx=>by
  rcases Qa hx with hx | hx
  ·exact⟨h.len x hx,h.el x hx,h.ap x hx⟩
  ·exact hX x hx
 refine ⟨hrow,λ x hx=>(hall x hx).1,λ x hx=>?_,λ x hx b hb=>?_⟩
 ·exact S.frame (λ b hb=>hg.block b (S.lt (hall x hx).2.1 b hb) λ hv=>(hall x hx).2.2 b hb hv.symm) (hall x hx).2.1
 ·rcases hp with hp | hp
  ·rw [hp];exact(hall x hx).2.2 b hb
  ·rw [hp]
   intro h2
   simp only [Qi] at h2
   have:=S.lt (hall x hx).2.1 b hb
   omega
end
theorem Zbx {α:Type} {S:Shape α} {P:Program} {t e:TypeId} {z:Value} {bytes:Nat} (ti:TI P t e z S.m bytes) (hzs:z.cells.size=S.m) (h0:0<S.m) (w:World) {L X:List (Elem α)} {o:Oper} {a:Act} {K:Act->World->Prop} {Q:Exit->Act->World->Prop}
  (s y:Operand) (ho:o.op=.call { callee:=.builtin .append,args:=#[s,y],argTypes:=#[t,t] })
  (base:Nat) (v:Value) (hs:a.eval s=v) (hown:RowN S base e v L w) (ad:Addr) (m c:Nat) (hy:a.eval y=.slice (some ad) m c) (hm:X.length=m)
  (hX:∀ x∈X,x.cells.length=S.m/\S.R w x.cells x.d x.fp/\∀ b∈x.fp,v.ownBlock≠some b) (h1:∀ x∈X,∀ u∈x.cells,u.oneCell'=true) (hcell:∀ j u,(X.flatMap (·.cells))[j]?=some u->w.cell? (ad.add j)=some u)
  (h63:L.length+m<=maxLen) (hbytes:(L.length+m) * bytes<=140737488355328) (hbase:base<=w.heap.size)
  (h:∀ v' w',RowN S base e v' (L++X) w'->w.grownBy w' v.ownBlock->(v'.ownBlock=v.ownBlock\/v'.ownBlock=some w.heap.size)->K (a.put o.dst v') w'):o.wp P a w K Q:=by
 obtain⟨i,hi,hz0,hz1,hz2⟩:=info_parts ti.2
 subst hm
 obtain⟨v',w',hr,r1,r2,r3⟩:=Zg4 (P:=P) w base t o.type e i z S.m bytes ti.1 hi hz0 hz1 hz2 hzs h0 v L.length _ hown.row ad X.length c (X.flatMap (·.cells)) (ZaT (f:=Elem.cells) λ x hx=>(hX x hx).1) hcell
  (λ u hu=>by obtain⟨x,hx,hu⟩:=List.mem_flatMap.1 hu;exact h1 x hx u hu) h63 hbytes hbase
 unfold Oper.wp execOp
 simp only [ho,resolve,invoke,builtin,Sem.run_bind,Sem.run_pure,Result.andThen_ok,List.map_toArray,List.map_cons,List.map_nil,hs,hy,hr]
 refine h v' w' (hown.appended ?_ r2 r3 hX) r2 r3
 rw [List.length_append,List.flatMap_append]
 exact r1
theorem ZaK {α:Type} {S:Shape α} {P:Program} {t e:TypeId} {z:Value} {bytes:Nat} (ti:TI P t e z S.m bytes) (hzs:z.cells.size=S.m) (h0:0<S.m) (w:World) {L X:List (Elem α)} {ops:Array Oper} {rest:List Oper} {o:Oper} {a:Act} {Q:Exit->Act->World->Prop}
  (hg:o.guard=none) (s y:Operand) (ho:o.op=.call { callee:=.builtin .append,args:=#[s,y],argTypes:=#[t,t] })
  (base:Nat) (v:Value) (hs:a.eval s=v) (hown:RowN S base e v L w) (ad:Addr) (m c:Nat) (hy:a.eval y=.slice (some ad) m c) (hm:X.length=m)
  (hX:∀ x∈X,x.cells.length=S.m/\S.R w x.cells x.d x.fp/\∀ b∈x.fp,v.ownBlock≠some b) (h1:∀ x∈X,∀ u∈x.cells,u.oneCell'=true) (hcell:∀ j u,(X.flatMap (·.cells))[j]?=some u->w.cell? (ad.add j)=some u)
  (h63:L.length+m<=maxLen) (hbytes:(L.length+m) * bytes<=140737488355328) (hbase:base<=w.heap.size)
  (h:∀ v' w',RowN S base e v' (L++X) w'->w.grownBy w' v.ownBlock->(v'.ownBlock=v.ownBlock\/v'.ownBlock=some w.heap.size)->wpList P ops Q rest (a.put o.dst v') w'):wpList P ops Q (o::rest) a w:=
 wpList_plain hg λ _ hK=>Zbx ti hzs h0 w s y ho base v hs hown ad m c hy hm hX h1 hcell h63 hbytes hbase λ v' w' h2 h3 h4=>hK _ _ (h v' w' h2 h3 h4)
theorem Zeg {P:Program} {w:World} (base:Nat) (t ty e:TypeId) (i:TypeInfo) (size c:Nat) (ht:P.underlying t=some (.slice e)) (hi:P.info? e=some i)
  (v:Value) (n:Nat) (xs:List Value) (hown:w.ownsRow base e size v n xs):(Builtin.append_ #[t,t] ty #[v,.slice none 0 c]).run P w=.ok v w:=by
 rcases hown.2 with⟨rfl,rfl⟩ | ⟨g,cap,cur,rfl,_,_,hnc,_⟩
 ·simp [Builtin.append_,run_underlying ht,sizeOf,typeInfo,hi,Builtin.lenOf,Builtin.firstCells]
 ·simp [Builtin.append_,run_underlying ht,sizeOf,typeInfo,hi,Builtin.lenOf,Builtin.firstCells,hnc,storeCells]
theorem elems_in {α:Type} {S:Shape α} {w:World} {u:Value} {M:List α} {fp:List Nat} (H:(Zaa S).R w [u] M fp) :
  ∃ (X:List (Elem α)) (a:Option Addr) (cap:Nat),X.map (·.d)=M/\X.length=M.length/\u=.slice a M.length cap/\M.length<=maxLen/\(∀ x∈X,x.cells.length=S.m/\S.R w x.cells x.d x.fp/\∀ b∈x.fp,b∈fp) /\
   (0<M.length->∃ b off,a=some ⟨b,off,none⟩/\b<w.heap.size/\∀ k,(hk:k<X.length)->ElemAt w b off S.m k X[k].cells):=by
 obtain⟨a,cap,rfl,hc,hm,hrow⟩:=Zac H
 by_cases h0:0<M.length
 ·obtain⟨b,off,fps,rfl,hb,hfp,he⟩:=hrow h0
  have key:∀ k:Fin M.length,∃ x:Elem α,x.d=M[k.1]/\x.fp=fps k.1/\ElemAt w b off S.m k.1 x.cells/\S.R w x.cells x.d x.fp:=λ k=>by
   obtain⟨es,hE,hR⟩:=he k.1 k.2
   exact⟨⟨es,M[k.1],fps k.1⟩,rfl,rfl,hE,hR⟩
  let X:List (Elem α):=List.ofFn λ k:Fin M.length=>(key k).choose
  have hXl:X.length=M.length:=by simp [X]
  have hX:∀ k,(hk:k<X.length)->∃ hk':k<M.length,X[k]=(key ⟨k,hk'⟩).choose:=λ k hk=>⟨by omega,by simp [X]⟩
  refine ⟨X,_,cap,?_,hXl,rfl,by omega,λ x hx=>?_,λ _=>⟨b,off,rfl,hb,λ k hk=>?_⟩⟩
  ·apply List.ext_getElem
   ·simp [hXl]
   ·intro k h1 h2
    rw [List.getElem_map]
    obtain⟨hk',e⟩:=hX k (by simpa using h1)
    rw [e]
    exact(key ⟨k,hk'⟩).choose_spec.1
  ·obtain⟨k,hk,rfl⟩:=List.getElem_of_mem hx
   obtain⟨hk',e⟩:=hX k hk
   obtain⟨s1,s2,s3,s4⟩:=(key ⟨k,hk'⟩).choose_spec
   rw [e]
   refine ⟨s3.1,s4,λ c hc=>?_⟩
   rw [s2] at hc
   rw [hfp]
   exact List.mem_cons_of_mem _ (List.mem_flatMap.2 ⟨k,List.mem_range.2 hk',hc⟩)
  ·obtain⟨hk',e⟩:=hX k hk
   rw [e]
   exact(key ⟨k,hk'⟩).choose_spec.2.2.1
 ·have hM:M=[]:=List.length_eq_zero_iff.1 (by omega)
  subst hM
  exact⟨[],a,cap,rfl,rfl,rfl,by unfold maxLen;simp,by simp,λ h=>absurd h (by simp)⟩
theorem Zd3 {α:Type} {S:Shape α} {P:Program} {t e:TypeId} {z:Value} {bytes:Nat} (ti:TI P t e z S.m bytes) (hzs:z.cells.size=S.m) (h0:0<S.m) (hone:∀ w cs x fp,S.R w cs x fp->∀ u∈cs,u.oneCell'=true) (w:World) {L:List (Elem α)} {o:Oper} {a:Act} {K:Act->World->Prop} {Q:Exit->Act->World->Prop}
  (s y:Operand) (ho:o.op=.call { callee:=.builtin .append,args:=#[s,y],argTypes:=#[t,t] })
  (base:Nat) (v u:Value) (M:List α) (fp:List Nat) (hs:a.eval s=v) (hown:RowN S base e v L w) (hy:a.eval y=u) (HM:(Zaa S).R w [u] M fp) (hfp:∀ b∈fp,v.ownBlock≠some b)
  (h63:L.length+M.length<=maxLen) (hbytes:(L.length+M.length) * bytes<=140737488355328) (hbase:base<=w.heap.size)
  (h:∀ v' X w',X.map (·.d)=M->(∀ x∈X,∀ b∈x.fp,b∈fp)->RowN S base e v' (L++X) w'->w.grownBy w' v.ownBlock->(v'.ownBlock=v.ownBlock\/v'.ownBlock=some w.heap.size)->K (a.put o.dst v') w'):o.wp P a w K Q:=by
 obtain⟨X,ad,cap,hXM,hXl,rfl,hmm,hX,hat⟩:=elems_in HM
 rw [← hXl] at h63 hbytes
 have hX2:∀ x∈X,x.cells.length=S.m/\S.R w x.cells x.d x.fp/\∀ b∈x.fp,v.ownBlock≠some b:=λ x hx=>⟨(hX x hx).1,(hX x hx).2.1,λ c hc=>hfp c ((hX x hx).2.2 c hc)⟩
 by_cases hM:0<M.length
 ·obtain⟨b,off,rfl,hb,hE⟩:=hat hM
  refine Zbx ti hzs h0 w (X:=X) s y ho base v hs hown ⟨b,off,none⟩ M.length cap hy hXl hX2 (λ x hx=>hone _ _ _ _ (hX x hx).2.1) ?_ (by rw [← hXl];exact h63) (by rw [← hXl];exact hbytes) hbase λ v' w' r1 r2 r3=>h v' X w' hXM (λ x hx=>(hX x hx).2.2) r1 r2 r3
  intro j u hj
  have hjl:j<X.length * S.m:=by
   have:=(List.getElem?_eq_some_iff.1 hj).1
   rwa [ZaT (f:=Elem.cells) λ x hx=>(hX x hx).1] at this
  have hk:j / S.m<X.length:=Nat.div_lt_of_lt_mul (by rw [Nat.mul_comm];exact hjl)
  have hr:j % S.m<S.m:=Nat.mod_lt _ h0
  have hj2:j / S.m * S.m+j % S.m=j:=Nat.div_add_mod' _ _
  rw [← hj2,Zdw (f:=Elem.cells) (λ x hx=>(hX x hx).1) hk hr] at hj
  have:=(hE (j / S.m) hk).2 (j % S.m) hr
  rw [Nat.add_assoc,hj2] at this
  rw [Addr.add_lit,this]
  exact hj
 ·have hX0:X=[]:=List.length_eq_zero_iff.1 (by omega)
  have hM0:M.length=0:=by omega
  subst hX0
  obtain⟨i,hi,hz0,hz1,hz2⟩:=info_parts ti.2
  have hdone:K (a.put o.dst v) w:=h v [] w (by simpa using hXM) (by simp) (by simpa using hown) ⟨rfl,rfl,rfl,Nat.le_refl _,λ _ _ _=>rfl⟩ (.inl rfl)
  rw [hM0] at hy
  cases ad with
  |
   none =>
   have hrun:=Zeg (P:=P) (w:=w) base _ o.type _ i S.m cap ti.1 hi v L.length _ hown.row
   unfold Oper.wp
   simp [execOp,ho,resolve,invoke,builtin,hs,hy,hrun,Result.andThen]
   exact hdone
  |
   some ad =>
   exact Zbx ti hzs h0 w (X:=[]) s y ho base v hs hown ad 0 cap hy rfl (by simp) (by simp) (by simp) (by simpa using h63) (by simpa using hbytes) hbase λ v' w' r1 r2 r3=>h v' [] w' (by simpa using hXM) (by simp) r1 r2 r3
theorem Zbd {α:Type} {S:Shape α} {P:Program} {t e:TypeId} {z:Value} {bytes:Nat} (ti:TI P t e z S.m bytes) (hzs:z.cells.size=S.m) (h0:0<S.m) (hone:∀ w cs x fp,S.R w cs x fp->∀ u∈cs,u.oneCell'=true) (w:World) {L:List (Elem α)} {ops:Array Oper} {rest:List Oper} {o:Oper} {a:Act} {Q:Exit->Act->World->Prop}
  (hg:o.guard=none) (s y:Operand) (ho:o.op=.call { callee:=.builtin .append,args:=#[s,y],argTypes:=#[t,t] })
  (base:Nat) (v u:Value) (M:List α) (fp:List Nat) (hs:a.eval s=v) (hown:RowN S base e v L w) (hy:a.eval y=u) (HM:(Zaa S).R w [u] M fp) (hfp:∀ b∈fp,v.ownBlock≠some b)
  (h63:L.length+M.length<=maxLen) (hbytes:(L.length+M.length) * bytes<=140737488355328) (hbase:base<=w.heap.size)
  (h:∀ v' X w',X.map (·.d)=M->(∀ x∈X,∀ b∈x.fp,b∈fp)->RowN S base e v' (L++X) w'->w.grownBy w' v.ownBlock->(v'.ownBlock=v.ownBlock\/v'.ownBlock=some w.heap.size)->wpList P ops Q rest (a.put o.dst v') w'):wpList P ops Q (o::rest) a w:=
 wpList_plain hg λ _ hK=>Zd3 ti hzs h0 hone w s y ho base v u M fp hs hown hy HM hfp h63 hbytes hbase λ v' X w' q1 q2 h2 h3 h4=>hK _ _ (h v' X w' q1 q2 h2 h3 h4)
def set4 (w:World) (g:Nat) (v0 v1 v2 v3:Value):World:=(((w.setCell ⟨g,0,none⟩ v0).setCell ⟨g,1,none⟩ v1).setCell ⟨g,2,none⟩ v2).setCell ⟨g,3,none⟩ v3
section
variable {P:Program} {ops:Array Oper} {Q:Exit->Act->World->Prop} {md:Region.Mode} {S:World->Prop}
theorem ZhS (i d:Nat) {oi:Oper} {v:Value} {fuel:Nat} {listed:Array Bool} {a:Act} {w:World} (hi:ops[i]?=some oi) (hd:oi.dst=some d)
  (hs:Region.noSelect ops=true) (hf:Region.free md ops listed i=true) (hr:(Region.ready md ops listed).contains i=true)
  (hQ:∀ c a w,Q (.panic c) (a.put (some d) v) w->Q (.panic c) a w) (hw:Region.wanted oi (yielded ops a.tmps)=true) (hS:S w)
  (hy:∀ w,S w->(execOp a.eval oi).run P w=.ok (.value v) w)
  (h:wpAnyH P md ops Q S fuel (listed.setIfInBounds i true) (a.put (some d) v) w):wpAnyH P md ops Q S (fuel+1) listed a w:=
 wpAnyH_take hi hs hf hr (by rw [hd];exact hQ) (.inl ⟨hw,hy⟩) hS (by rw [hd];exact h)
end
theorem ZaB {w:World} {g:Nat} {z0 z1 z2 z3:Value} {ty:TypeId} (h:w.heap[g]?=some (.cells #[z0,z1,z2,z3] ty (0,0))) (v0 v1 v2 v3:Value) :
  (set4 w g v0 v1 v2 v3).heap[g]?=some (.cells #[v0,v1,v2,v3] ty (0,0)):=Zai (Zai (Zai (Zai h 0 _) 1 _) 2 _) 3 _
theorem Zda {w:World} {g b:Nat} (h:b≠g) (v0 v1 v2 v3:Value):(set4 w g v0 v1 v2 v3).heap[b]?=w.heap[b]?:=by
 unfold set4
 rw [Below.heap_setCell _ _ _ _ h,Below.heap_setCell _ _ _ _ h,Below.heap_setCell _ _ _ _ h,Below.heap_setCell _ _ _ _ h]
theorem ZbH (w:World) (g:Nat) (v0 v1 v2 v3:Value):(set4 w g v0 v1 v2 v3).heap.size=w.heap.size:=by
 unfold set4
 simp
theorem Zar {B:Nat} {w0 w:World} (hB:Below B w0 w) {g:Nat} (hg:B<=g) (v0 v1 v2 v3:Value):Below B w0 (set4 w g v0 v1 v2 v3):=
 ((((hB).setCell (p:=⟨g,0,none⟩) hg v0).setCell (p:=⟨g,1,none⟩) hg v1).setCell (p:=⟨g,2,none⟩) hg v2).setCell (p:=⟨g,3,none⟩) hg v3
theorem Shape.set4R {α:Type} (S:Shape α) {w:World} {g:Nat} {cs:List Value} {d:α} {fp:List Nat} (h:S.R w cs d fp) (hn:g∉fp) (v0 v1 v2 v3:Value):S.R (set4 w g v0 v1 v2 v3) cs d fp:=
 S.frame (λ b hb=>Zda (λ e:b=g=>hn (by rw [← e];exact hb)) _ _ _ _) h
theorem ZmF {w:World} {g b:Nat} (h:b≠g) (j:Nat) (v0 v1 v2 v3:Value):(set4 w g v0 v1 v2 v3).cell? ⟨b,j,none⟩=w.cell? ⟨b,j,none⟩:=
 World.cell?_of_block (Zda h v0 v1 v2 v3)
theorem ZcU {w:World} {g b:Nat} (h:b≠g) (j:Nat) (v0 v1 v2 v3:Value):((((w.setCell ⟨g,0,none⟩ v0).setCell ⟨g,1,none⟩ v1).setCell ⟨g,2,none⟩ v2).setCell ⟨g,3,none⟩ v3).cell? ⟨b,j,none⟩=w.cell? ⟨b,j,none⟩:=ZmF h j v0 v1 v2 v3
theorem Own.set4 {w:World} {lo g:Nat} {fp:List Nat} (h:Own w lo fp) (v0 v1 v2 v3:Value):Own (set4 w g v0 v1 v2 v3) lo fp:=
 (((h.setCell ⟨g,0,none⟩ v0).setCell ⟨g,1,none⟩ v1).setCell ⟨g,2,none⟩ v2).setCell ⟨g,3,none⟩ v3
theorem Ze7 {α:Type} {S:Shape α} {w0 w:World} {g:Nat} {z0 z1 z2 z3:Value} {T:TypeId} {cs:List Value} {d:α} {fp:List Nat} (HX:w.heap[g]?=some (.cells #[z0,z1,z2,z3] T (0,0))) (hg:w0.heap.size<=g)
  (R:S.R w cs d fp) (O:Own w w0.heap.size fp) (hn:g∉fp) (hb:Below w0.heap.size w0 w) (v0 v1 v2 v3:Value) :
  (set4 w g v0 v1 v2 v3).heap[g]?=some (.cells #[v0,v1,v2,v3] T (0,0))/\w0.heap.size<=g/\g<(set4 w g v0 v1 v2 v3).heap.size/\S.R (set4 w g v0 v1 v2 v3) cs d fp/\Own (set4 w g v0 v1 v2 v3) w0.heap.size fp/\Below w0.heap.size w0 (set4 w g v0 v1 v2 v3):=
 ⟨ZaB HX _ _ _ _,hg,by rw [ZbH];exact(Qg HX).1,S.set4R R hn _ _ _ _,O.set4 _ _ _ _,Zar hb hg _ _ _ _⟩
section
variable {α:Type} {S:Shape α} {w w7:World} {g2 g3:Nat} {T:TypeId} {z0 z1 z2 z3 y0 y1 y2 y3:Value} {cs cs':List Value} {d d':α} {fp fp':List Nat}
end
/-! ### Places of names -/
def lowS (l:List ByteArray) (nm:ByteArray):Nat:=(l.takeWhile λ x=>sLess x nm).length
theorem Ziv (l:List ByteArray) (nm:ByteArray):lowS l nm<=l.length:=(List.takeWhile_prefix _).length_le
theorem ZcB (nm:ByteArray):∀ {l:List ByteArray},Up l->∀ j,(hj:j<l.length)->sLess l[j] nm=decide (j<lowS l nm)
 | [],_,j,hj=>by simp at hj
 |
  x::r,h,j,hj=>by
  obtain⟨h1,h2⟩:=List.pairwise_cons.1 h
  by_cases hx:sLess x nm=true
  ·have e:lowS (x::r) nm=lowS r nm+1:=by unfold lowS;rw [List.takeWhile_cons_of_pos (p:=λ x=>sLess x nm) hx];rfl
   rw [e]
   cases j with
   | zero=>simp [hx]
   | succ j=>simp only [List.getElem_cons_succ];rw [ZcB nm h2 j (by simpa using hj)];exact decide_eq_decide.2 (by omega)
  ·have e:lowS (x::r) nm=0:=by unfold lowS;rw [List.takeWhile_cons_of_neg (p:=λ x=>sLess x nm) hx];rfl
   rw [e]
   cases j with
   | zero=>simp at hx ⊢;exact hx
   |
    succ j =>
    simp only [List.getElem_cons_succ]
    have hj':j<r.length:=by simpa using hj
    cases hs:sLess r[j] nm
    ·simp
    ·exact absurd (Zcu (h1 _ (List.getElem_mem hj')) hs) hx
def isS (l:List ByteArray) (nm:ByteArray):Bool:=if h:lowS l nm<l.length then (l[lowS l nm].toList==nm.toList) else false
theorem isS_has {l:List ByteArray} (h:Up l) (nm:ByteArray):isS l nm=hasN l nm:=by
 cases hs:isS l nm
 ·refine (Zlf λ j hj=>?_).symm
  cases hj2:(l[j].toList==nm.toList)
  ·rfl
  ·exfalso
   have e:=Zcq hj2
   have h1:=ZcB nm h j hj
   rw [e,ZcQ] at h1
   have h2:=of_decide_eq_false h1.symm
   unfold isS at hs
   by_cases h3:j=lowS l nm
   ·subst h3;rw [dif_pos hj,hj2] at hs;exact absurd hs (by simp)
   ·have h4:lowS l nm<j:=by omega
    have h5:=(List.pairwise_iff_getElem.1 h) (lowS l nm) j (by omega) hj h4
    rw [e,ZcB nm h (lowS l nm) (by omega)] at h5
    simp at h5
 ·unfold isS at hs
  split at hs
  ·rename_i h1;exact(Zj7 h1 hs).symm
  ·exact absurd hs (by simp)
theorem ins_yes {l:List ByteArray} (h:Up l) {nm:ByteArray} (hs:isS l nm=true):ins l nm=l:=by
 unfold isS at hs
 split at hs
 ·rename_i h1
  exact Zka nm l (lowS l nm) h1 (λ j hj hjk=>by rw [ZcB nm h j hj];simpa using hjk) hs
 ·exact absurd hs (by simp)
theorem ins_no {l:List ByteArray} (h:Up l) {nm:ByteArray} (hs:isS l nm=false):ins l nm=l.take (lowS l nm)++nm::l.drop (lowS l nm):=by
 refine ZhM nm l (lowS l nm) (Ziv l nm) (λ j hj hjk=>by rw [ZcB nm h j hj];simpa using hjk) λ h1=>⟨?_,?_⟩
 ·rw [ZcB nm h _ h1];simp
 ·unfold isS at hs;rw [dif_pos h1] at hs;exact hs
/-! ### The library's -/
theorem ZlU (a:ByteArray) (w:World):Calls Tryz.prog 152 #[.string a] w λ e w'=>e=.returned (.bool false)/\w'=w:=by
 go_enter Tryz.func152,Tryz.ntmps152
 go_wp2
 go_ret
 exact⟨rfl,rfl⟩
theorem ZmG (a:ByteArray) (w:World):Calls Tryz.prog 144 #[.string a] w λ e w'=>e=.returned (.bool false)/\w'=w:=by
 go_enter Tryz.func144,Tryz.ntmps144
 go_wp2
 go_ret
 exact⟨rfl,rfl⟩
theorem lib_Less (a b:ByteArray) (w:World):Calls Tryz.prog 143 #[.string a,.string b] w λ e w'=>e=.returned (.bool (sLess a b))/\w'=w:=by
 go_enter Tryz.func143,Tryz.ntmps143
 go_wp2_with (go_at_call 152;refine (ZlU _ _).mono ?_;rintro e w2 ⟨rfl,rfl⟩)
 go_ret
 exact⟨rfl,rfl⟩
theorem Zet (v:Value) (l:List ByteArray) (nm:ByteArray) (fp:List Nat) (w:World) (hu:Up l) (hn:l.length<=1000000) (H:(Zaa sStr).R w [v] l fp) :
  Calls Tryz.prog 134 #[v,.string nm] w λ e w'=>e=.returned (.tuple #[.int .i64 (lowS l nm:Nat),.bool (isS l nm)])/\w'=w:=by
 obtain⟨a,cap,rfl,hc,hm,hcell,-⟩:=Zaf H
 unfold maxLen at hm
 clear H
 have HLE:=Qh (Ziv l nm)
 have HIFF:Hid (∀ j,(hj:j<l.length)->sLess l[j] nm=decide (j<lowS l nm)):=ZcB nm hu
 have HIN:Hid (∀ h:lowS l nm<l.length,isS l nm=(l[lowS l nm].toList==nm.toList)):=λ h=>by unfold isS;rw [dif_pos h]
 have HOUT:Hid (¬ lowS l nm<l.length->isS l nm=false):=λ h=>by unfold isS;rw [dif_neg h]
 clear hu
 go_enter Tryz.func134,Tryz.ntmps134
 go_wp2
 go_loopw [7,8] (λ s9 s10 wr=>∃ lo hi:Nat,s9=.int .i64 lo/\s10=.int .i64 hi/\lo<=hi/\hi<=l.length/\Hid (lo<=lowS l nm/\lowS l nm<=hi)/\wr=w) (λ s9 s10 _=>(intOf s10).toNat-(intOf s9).toNat)
 case atStart=>exact⟨0,l.length,rfl,rfl,by omega,by omega,⟨by omega,HLE.out⟩,rfl⟩
 case round =>
  obtain⟨lo,hi,rfl,rfl,hlh,hin,HW,rfl⟩:=hrel
  by_cases hlt:lo<hi
  ·obtain⟨b1,off1,rfl,hb1,-,he1⟩:=hcell (by omega)
   have c10:wr.cell? ⟨b1,off1+(lo+hi) / 2,none⟩=some _:=he1 ((lo+hi) / 2) (by omega)
   have HC:=Qh (lib_Less (l[(lo+hi) / 2]'(by omega)) nm wr)
   clear he1 hcell
   cases hyx:sLess (l[(lo+hi) / 2]'(by omega)) nm
   ·have HL:Hid (lo<=lowS l nm/\lowS l nm<=(lo+hi) / 2):=by
     have h1:=HIFF.out ((lo+hi) / 2) (by omega)
     rw [hyx] at h1
     have h2:=of_decide_eq_false h1.symm
     exact⟨HW.out.1,by omega⟩
    rw [hyx] at HC
    clear hyx
    go_wp2_with (go_at_call 143;refine HC.out.mono ?_;rintro e w2 ⟨rfl,rfl⟩)
    go_roundw
    case rel=>exact⟨lo,(lo+hi) / 2,rfl,by first | rfl | rw [show ((lo:Int)+(hi:Int)) / 2=(((lo+hi) / 2:Nat):Int) by omega],by omega,by omega,HL,by trivial⟩
    case measure=>simp [intOf];omega
   ·have HL:Hid ((lo+hi) / 2+1<=lowS l nm/\lowS l nm<=hi):=by
     have h1:=HIFF.out ((lo+hi) / 2) (by omega)
     rw [hyx] at h1
     have h2:=of_decide_eq_true h1.symm
     exact⟨h2,HW.out.2⟩
    rw [hyx] at HC
    clear hyx
    go_wp2_with (go_at_call 143;refine HC.out.mono ?_;rintro e w2 ⟨rfl,rfl⟩)
    go_roundw
    case rel=>exact⟨(lo+hi) / 2+1,hi,by first | rfl | rw [show ((lo:Int)+(hi:Int)) / 2+1=(((lo+hi) / 2+1:Nat):Int) by omega],rfl,by omega,hin,HL,by trivial⟩
    case measure=>simp [intOf];omega
  ·obtain rfl:hi=lo:=by omega
   have hlow:lowS l nm=hi:=by have:=HW.out;omega
   by_cases hn2:hi<l.length
   ·have HD:Hid (isS l nm=(l[hi].toList==nm.toList)):=by
     subst hlow
     exact HIN.out hn2
    have HA:=Qh hlow
    clear hlow HIN HOUT HIFF HW HLE
    obtain⟨b1,off1,rfl,hb1,-,he1⟩:=hcell (by omega)
    have c10:wr.cell? ⟨b1,off1+hi,none⟩=some _:=he1 hi hn2
    clear he1 hcell
    cases hyx:(l[hi].toList==nm.toList)
    ·have HF:=Qh (HD.out.trans hyx)
     clear HD
     go_wp2_with (go_at_call 144;refine (ZmG _ _).mono ?_;rintro e w2 ⟨rfl,rfl⟩)
     go_ret2
     exact⟨by rw [HA.out,HF.out];rfl,rfl⟩
    ·have HF:=Qh (HD.out.trans hyx)
     clear HD
     go_wp2
     go_ret2
     exact⟨by rw [HA.out,HF.out];rfl,rfl⟩
   ·have HF:=Qh (HOUT.out (by omega))
    have HA:=Qh hlow
    clear hlow HIN HOUT HIFF HW HLE
    go_wp2
    go_ret2
    exact⟨by rw [HA.out,HF.out];rfl,rfl⟩
/-! ### Names that are in both -/
theorem ZhT (v:Value) (l:List ByteArray) (s:ByteArray) (fp:List Nat) (w:World) (H:(Zaa sStr).R w [v] l fp) :
  Calls Tryz.prog 97 #[v,.string s] w (Says (hasN l s) w):=by
 obtain⟨a,cap,rfl,hc,hm,hcell,-⟩:=Zaf H
 unfold maxLen at hm
 clear H
 go_enter Tryz.func97,Tryz.ntmps97
 go_wp2
 go_loopw [5] (λ i wr=>∃ k:Nat,k<=l.length/\i=.int .i64 k/\Hid (∀ j,(hj:j<l.length)->j<k->(l[j].toList==s.toList)=false)/\Below w.heap.size w wr) (λ i _=>l.length-(intOf i).toNat)
 case atStart=>exact⟨0,by omega,rfl,λ j _ h=>by omega,Below.refl _ _⟩
 case round =>
  obtain⟨k,hk,rfl,HP,hb⟩:=hrel
  by_cases hlt:k<l.length
  ·obtain⟨b1,off1,rfl,hb1,-,he1⟩:=hcell (by omega)
   have c10:wr.cell? ⟨b1,off1+k,none⟩=some _:=(hb.cell (p:=⟨b1,off1+k,none⟩) hb1).trans (he1 k hlt)
   clear he1 hcell
   cases g:(l[k].toList==s.toList)
   ·have HF:Hid (∀ j,(hj:j<l.length)->j<k+1->(l[j].toList==s.toList)=false):=λ j hj h=>by
     by_cases e:j=k
     ·subst e;exact g
     ·exact HP.out j hj (by omega)
    clear HP
    go_wp2
    go_roundw
    case rel=>exact⟨k+1,by omega,by go_num,HF,hb⟩
    case measure=>simp [intOf];omega
   ·have HF:=Qh (Zj7 hlt g)
    clear HP
    go_wp2
    go_ret
    exact⟨Zad HF.out.symm,hb⟩
  ·have HF:=Qh (Zlf (l:=l) (s:=s) λ j hj=>HP.out j hj (by omega))
   clear HP
   go_wp2
   go_ret
   exact⟨Zad HF.out.symm,hb⟩
theorem Zli {a b:List ByteArray} (h:∀ i,(hi:i<a.length)->a[i].size<=maxLen):∀ i,(hi:i<(both a b).length)->okStr (both a b)[i]:=λ i hi=>by
 have hm:(both a b)[i]∈a:=(List.mem_filter.1 (List.getElem_mem hi)).1
 obtain⟨j,hj,e⟩:=List.getElem_of_mem hm
 rw [← e];exact h j hj
theorem ZgH (va vb:Value) (a b:List ByteArray) (fpa fpb:List Nat) (w:World) (ha:a.length<=1000000) (Ha:(Zaa sStr).R w [va] a fpa) (Hb:(Zaa sStr).R w [vb] b fpb) :
  Calls Tryz.prog 100 #[va,vb] w (Made (Zaa sStr) (both a b) w):=by
 obtain⟨aa,ca,rfl,hca,hma,hcell,hsz⟩:=Zaf Ha
 unfold maxLen at hma
 have HSZ:=Qh (Zli (b:=b) hsz)
 have HB:=Qh Hb
 have hlit:Hid ((w.alloc (.cells #[] 9)).ownsRow w.heap.size 9 1 (.slice (some ⟨w.heap.size,0,none⟩) 0 0) (both (a.take 0) b).length ((both (a.take 0) b).map Value.string)):=
  World.ownsRow_lit (base:=w.heap.size) (e:=9) (size:=1) w #[] 0 (Nat.le_refl _) (by simp) rfl
 have hba:=Zab w (.cells #[] 9)
 clear Ha Hb hsz
 go_enter Tryz.func100,Tryz.ntmps100
 go_wp2
 go_loopw [5,6] (λ o i wr=>∃ (k:Nat),k<=a.length/\i=.int .i64 k/\Hid (wr.ownsRow w.heap.size 9 1 o (both (a.take k) b).length ((both (a.take k) b).map Value.string))/\Below w.heap.size w wr) (λ _ i _=>a.length-(intOf i).toNat)
 case atStart=>exact⟨0,by omega,rfl,hlit,hba⟩
 case round =>
  clear hlit hba
  obtain⟨k,hk,rfl,HO,hb⟩:=hrel
  by_cases hlt:k<a.length
  ·obtain⟨b1,off1,rfl,hb1,-,he1⟩:=hcell (by omega)
   have c10:wr.cell? ⟨b1,off1+k,none⟩=some _:=(hb.cell (p:=⟨b1,off1+k,none⟩) hb1).trans (he1 k hlt)
   have HC:=Qh (ZhT vb b a[k] fpb wr ((Zaa sStr).below HB.out hb))
   clear he1 hcell
   cases g:hasN b a[k]
   ·have HN:=Qh (Zlg hlt g)
    rw [g] at HC
    clear g
    go_wp2_with (go_at_call 97;refine HC.out.mono ?_;rintro e w2 ⟨rfl,hb2⟩)
    go_roundw
    case rel=>exact⟨k+1,by omega,by go_num,by show World.ownsRow _ _ _ _ _ _ _;rw [HN.out];exact Za9 HO.out λ g hg=>hb2.block g (HO.out.lt g hg).2,hb.trans (hb2.mono hb.size)⟩
    case measure=>simp [intOf];omega
   ·have HN:=Qh (Zj8 hlt g)
    rw [g] at HC
    clear g
    have hlen:(both (a.take k) b).length<=k:=Nat.le_trans (Ze1 _ _) (by simp;omega)
    go_wp2_with fail
    refine HC.out.mono ?_
    rintro e w2 ⟨rfl,hb2⟩
    have hbw:=hb.trans (hb2.mono hb.size)
    have c11:w2.cell? ⟨b1,off1+k,none⟩=some _:=(hb2.cell (p:=⟨b1,off1+k,none⟩) (Nat.lt_of_lt_of_le hb1 hb.size)).trans c10
    have HO2:=Qh (Za9 (w':=w2) HO.out λ g hg=>hb2.block g (HO.out.lt g hg).2)
    clear HO hb2 c10 HC
    go_wp2_with (at_builtin;refine Zdt ti27 rfl _ (.string a[k]) rfl rfl (.tmp 20) (.tmp 25) rfl w.heap.size _ (both (a.take k) b).length ((both (a.take k) b).map Value.string) rfl HO2.out rfl (by unfold maxLen;omega) (by omega) hbw.size ?_;intro v3 w3 hE3 hg3)
    have hb3:Below w.heap.size w w3:=hbw.grown hg3 hbw.size (λ b hb=>(HO2.out.lt b hb).1)
    have HO3:Hid (w3.ownsRow w.heap.size 9 1 v3 (both (a.take (k+1)) b).length ((both (a.take (k+1)) b).map Value.string)):=by
     show World.ownsRow _ _ _ _ _ _ _
     rw [HN.out];simpa using hE3
    clear hE3 hg3 c11 hlen HO2
    go_roundw
    case rel=>exact⟨k+1,by omega,by go_num,HO3,hb3⟩
    case measure=>simp [intOf];omega
  ·have hO:=HO.out
   rw [Zj9 (by omega)] at hO
   obtain⟨fpr,hR,hOw,-⟩:=ZbY (ok:=okStr) hO HSZ.out
   have HR:=Qh (And.intro hR hOw)
   clear hO hR hOw HO
   go_wp2
   go_ret
   exact⟨_,fpr,rfl,HR.out.1,HR.out.2,hb⟩
theorem Zd4 (va vb:Value) (a b:List ByteArray) (fpa fpb:List Nat) (w:World) (ha:a.length<=1000000) (hbl:b.length<=1000000) (hu:Up b) (Ha:(Zaa sStr).R w [va] a fpa) (Hb:(Zaa sStr).R w [vb] b fpb) :
  Calls Tryz.prog 127 #[va,vb] w (Made (Zaa sStr) (both a b) w):=by
 obtain⟨aa,ca,rfl,hca,hma,hcell,hsz⟩:=Zaf Ha
 unfold maxLen at hma
 have HSZ:=Qh (Zli (b:=b) hsz)
 have HB:=Qh Hb
 have HU:=Qh hu
 have hlit:Hid (w.ownsRow w.heap.size 9 1 (.slice none 0 0) (both (a.take 0) b).length ((both (a.take 0) b).map Value.string)):=⟨rfl,.inl ⟨rfl,rfl⟩⟩
 clear Ha Hb hsz hu
 go_enter Tryz.func127,Tryz.ntmps127
 go_wp2
 go_loopw [5,12] (λ o i wr=>∃ (k:Nat),k<=a.length/\i=.int .i64 k/\Hid (wr.ownsRow w.heap.size 9 1 o (both (a.take k) b).length ((both (a.take k) b).map Value.string))/\Below w.heap.size w wr) (λ _ i _=>a.length-(intOf i).toNat)
 case atStart=>exact⟨0,by omega,rfl,hlit,Below.refl _ _⟩
 case round =>
  clear hlit
  obtain⟨k,hk,rfl,HO,hb⟩:=hrel
  by_cases hlt:k<a.length
  ·obtain⟨b1,off1,rfl,hb1,-,he1⟩:=hcell (by omega)
   have c10:wr.cell? ⟨b1,off1+k,none⟩=some _:=(hb.cell (p:=⟨b1,off1+k,none⟩) hb1).trans (he1 k hlt)
   have HC:=Qh (Zet vb b a[k] fpb wr HU.out hbl ((Zaa sStr).below HB.out hb))
   have HI:=Qh (isS_has HU.out a[k])
   clear he1 hcell
   generalize lowS b a[k]=lo at HC
   cases g:hasN b a[k]
   ·have HN:=Qh (Zlg hlt g)
    rw [HI.out,g] at HC
    clear g HI
    go_wp2_with (go_at_call 134;refine HC.out.mono ?_;rintro e w2 ⟨rfl,rfl⟩)
    go_roundw
    case rel=>exact⟨k+1,by omega,by go_num,by show World.ownsRow _ _ _ _ _ _ _;rw [HN.out];exact HO.out,hb⟩
    case measure=>simp [intOf];omega
   ·have HN:=Qh (Zj8 hlt g)
    rw [HI.out,g] at HC
    clear g HI
    have hlen:(both (a.take k) b).length<=k:=Nat.le_trans (Ze1 _ _) (by simp;omega)
    go_wp2_with (first
     | (go_at_call 134;refine HC.out.mono ?_;rintro e w2 ⟨rfl,rfl⟩)
     | (
      at_builtin;refine Zdt ti27 rfl _ (.string a[k]) rfl rfl (.tmp 23) (.tmp 25) rfl w.heap.size _ (both (a.take k) b).length ((both (a.take k) b).map Value.string) rfl HO.out rfl (by unfold maxLen;omega) (by omega) hb.size ?_;intro v3 w3 hE3 hg3
      have hb3:Below w.heap.size w w3:=hb.grown hg3 hb.size (λ b hb=>(HO.out.lt b hb).1)
      have HO3:Hid (w3.ownsRow w.heap.size 9 1 v3 (both (a.take (k+1)) b).length ((both (a.take (k+1)) b).map Value.string)):=by
       show World.ownsRow _ _ _ _ _ _ _
       rw [HN.out];simpa using hE3
      clear hE3 hg3 c10 hlen HO))
    go_roundw
    case rel=>exact⟨k+1,by omega,by go_num,HO3,hb3⟩
    case measure=>simp [intOf];omega
  ·have hO:=HO.out
   rw [Zj9 (by omega)] at hO
   obtain⟨fpr,hR,hOw,-⟩:=ZbY (ok:=okStr) hO HSZ.out
   have HR:=Qh (And.intro hR hOw)
   clear hO hR hOw HO
   go_wp2
   go_ret
   exact⟨_,fpr,rfl,HR.out.1,HR.out.2,hb⟩
def ZdF (a b:Tok) (w:World) (e:Ending) (w':World):Prop:=
 ∃ (cs:List Value) (fp:List Nat),e=.returned (.tuple #[.agg cs.toArray,.bool (Zaq a b).2])/\sTok.R w' cs (Zaq a b).1 fp/\Own w' w.heap.size fp/\Below w.heap.size w w'
theorem ZbI {a b:Tok} {w w':World} (h:Zaq a b=(zTok,false)) (hb:Below w.heap.size w w'):ZdF a b w (.returned (.tuple #[.agg #[.int .i64 0,.string ⟨#[]⟩,.bool false,.slice none 0 0],.bool false])) w':=
 ⟨[.int .i64 0,.string ⟨#[]⟩,.bool false,.slice none 0 0],[],by rw [h],by rw [h];exact⟨_,rfl,by unfold okInt zTok;simp,by show (0:Nat)<=_;simp [maxLen],ZaC sStr _ _ _ (by simp)⟩,Own.nil _ _,hb⟩
theorem ZgI {a b t:Tok} {hv:Value} {fp:List Nat} {w w':World} (h:Zaq a b=(⟨t.kind,t.text,a.spaced,both a.hidden b.hidden⟩,true)) (hk:okInt t.kind) (hs:okStr t.text) (HR:(Zaa sStr).R w' [hv] (both a.hidden b.hidden) fp) (HO:Own w' w.heap.size fp) (hb:Below w.heap.size w w') :
  ZdF a b w (.returned (.tuple #[.agg #[.int .i64 t.kind,.string t.text,.bool a.spaced,hv],.bool true])) w':=
 ⟨[.int .i64 t.kind,.string t.text,.bool a.spaced,hv],fp,by rw [h],by rw [h];exact⟨_,rfl,hk,hs,HR⟩,HO,hb⟩
theorem ZcG {w:World} {k:Int} {s:ByteArray} {p:Bool} {h:Value} {x:Tok} {fp:List Nat} (H:sTok.R w [.int .i64 k,.string s,.bool p,h] x fp):(Zaa sStr).R w [h] x.hidden fp:=by
 obtain⟨h',e,-,-,K⟩:=H
 simp only [List.cons.injEq,and_true] at e
 rw [e.2.2.2];exact K
theorem ZbJ {t:Tok} (h:tokOk t=true):hidOk t.hidden=true:=by unfold tokOk at h;exact(Bool.and_eq_true_iff.1 h).2
theorem Zjc {w:World} {v:Value} {t:Tok} {fp:List Nat} (h:(Zaa sTok).R w [v] [t] fp) :
  ∃ (b off cap:Nat) (ah:Option Addr) (ch:Nat),v=.slice (some ⟨b,off,none⟩) 1 cap/\1<=cap/\cap<=maxLen/\b<w.heap.size/\b∈fp/\w.cell? ⟨b,off,none⟩=some (.int .i64 t.kind)/\w.cell? ⟨b,off+1,none⟩=some (.string t.text)/\w.cell? ⟨b,off+2,none⟩=some (.bool t.spaced)/\w.cell? ⟨b,off+3,none⟩=some (.slice ah t.hidden.length ch)/\okInt t.kind/\okStr t.text:=by
 obtain⟨a,cap,rfl,hc,hm,hrow⟩:=Zac h
 obtain⟨b,off,fps,rfl,hb,hfp,he⟩:=hrow (by simp)
 obtain⟨es,hE,hR⟩:=he 0 (by simp)
 obtain⟨hv,rfl,hk,hs,K⟩:=hR
 obtain⟨ah,ch,rfl,-⟩:=Zaf K
 have c0:w.cell? ⟨b,off+0 * 4,none⟩=some _:=Zam hE (by decide) rfl
 have c1:w.cell? ⟨b,off+0 * 4+1,none⟩=some _:=Zae (j:=1) hE (by decide) rfl
 have c2:w.cell? ⟨b,off+0 * 4+2,none⟩=some _:=Zae (j:=2) hE (by decide) rfl
 have c3:w.cell? ⟨b,off+0 * 4+3,none⟩=some _:=Zae (j:=3) hE (by decide) rfl
 simp only [Nat.zero_mul,Nat.add_zero] at c0 c1 c2 c3
 exact⟨b,off,cap,ah,ch,rfl,by simpa using hc,hm,hb,by rw [hfp];simp,c0,c1,c2,c3,hk,hs⟩
theorem Zg5 (ca cb:List Value) (a b:Tok) (fpa fpb:List Nat) (w:World) (hla:a.hidden.length<=2000000) (hlb:b.hidden.length<=2000000) (HA0:sTok.R w ca a fpa) (HB0:sTok.R w cb b fpb) :
  Calls Tryz.prog 119 #[.agg ca.toArray,.agg cb.toArray] w (ZdF a b w):=by
 have HA0':=HA0
 have HB0':=HB0
 obtain⟨ha,rfl,-,-,-⟩:=HA0'
 obtain⟨hb,rfl,-,-,-⟩:=HB0'
 have hb3:=Zex w #[.int .i64 a.kind,.string a.text,.bool a.spaced,ha] #[.int .i64 b.kind,.string b.text,.bool b.spaced,hb] #[.int .i64 0,.string ⟨#[]⟩,.bool false,.slice none 0 0] 57 57 57
 have HA:=Qh (Zcr w #[.int .i64 a.kind,.string a.text,.bool a.spaced,ha] #[.int .i64 b.kind,.string b.text,.bool b.spaced,hb] #[.int .i64 0,.string ⟨#[]⟩,.bool false,.slice none 0 0] 57 57 57)
 obtain⟨g1,g2,hs3⟩:=Zcn w #[.int .i64 a.kind,.string a.text,.bool a.spaced,ha] #[.int .i64 b.kind,.string b.text,.bool b.spaced,hb] #[.int .i64 0,.string ⟨#[]⟩,.bool false,.slice none 0 0] 57 57 57
 have HB:=Qh g1
 have HZ:=Qh g2
 have HRA:=Qh (sTok.below HA0 hb3)
 have HRB:=Qh (sTok.below HB0 hb3)
 have HNB:Hid (w.heap.size∉fpb/\w.heap.size+1∉fpb):=⟨λ hx=>by have:=sTok.lt HB0 _ hx;omega,λ hx=>by have:=sTok.lt HB0 _ hx;omega⟩
 have hB3:=hb3
 clear HA0 HB0 g1 g2 hb3
 go_enter Tryz.func119,Tryz.ntmps119
 go_upto_region 1 with fail
 generalize (((w.alloc (.cells #[.int .i64 a.kind,.string a.text,.bool a.spaced,ha] 57)).alloc (.cells #[.int .i64 b.kind,.string b.text,.bool b.spaced,hb] 57)).alloc (.cells #[.int .i64 0,.string ⟨#[]⟩,.bool false,.slice none 0 0] 57))=W3 at *
 have HCa:=Qh (ZcR _ _ _ W3 hla HRA.out)
 obtain⟨c0,c1,c2,c3⟩:=Q4 HA.out
 go_wp2_with fail
 refine HCa.out.mono ?_
 rintro e w4 ⟨aoa,coa,foa,rfl,Ra,loa,tya,b4⟩
 clear c0 c1 c2 c3 HCa
 replace HA:=Qh (mbox HA.out b4)
 replace HB:=Qh (mbox HB.out b4)
 replace HZ:=Qh (mbox HZ.out b4)
 have c0:=Qc 0 HA.out
 have cz0:=Qf 0 HA.out
 have c1:=Qc 1 HA.out
 have cz1:=Qf 1 HA.out
 have c2:=Qc 2 HA.out
 have cz2:=Qf 2 HA.out
 have c3:=Qc 3 HA.out
 have cz3:=Qf 3 HA.out
 have hsz4:w.heap.size+3<=w4.heap.size:=by have:=b4.size;omega
 have hB4:=Zar (hB3.trans (b4.mono hB3.size)) (g:=w.heap.size) (by omega) (.int .i64 a.kind) (.string a.text) (.bool a.spaced) (.slice aoa a.hidden.length coa)
 replace HRA:=Qh (sTok.set4R Ra (g:=w.heap.size) (λ hx=>by have:=loa _ hx;omega) (.int .i64 a.kind) (.string a.text) (.bool a.spaced) (.slice aoa a.hidden.length coa))
 replace HRB:=Qh (sTok.set4R (sTok.below HRB.out b4) (g:=w.heap.size) (HNB.out.1) (.int .i64 a.kind) (.string a.text) (.bool a.spaced) (.slice aoa a.hidden.length coa))
 replace HA:=Qh (ZaB HA.out (.int .i64 a.kind) (.string a.text) (.bool a.spaced) (.slice aoa a.hidden.length coa))
 replace HB:=Qh ((Zda (g:=w.heap.size) (by omega) (.int .i64 a.kind) (.string a.text) (.bool a.spaced) (.slice aoa a.hidden.length coa)).trans HB.out)
 replace HZ:=Qh ((Zda (g:=w.heap.size) (by omega) (.int .i64 a.kind) (.string a.text) (.bool a.spaced) (.slice aoa a.hidden.length coa)).trans HZ.out)
 have hs4:w.heap.size+3<=(set4 w4 (w.heap.size) (.int .i64 a.kind) (.string a.text) (.bool a.spaced) (.slice aoa a.hidden.length coa)).heap.size:=by rw [ZbH];omega
 have HNA:Hid (w.heap.size+1∉foa):=λ hx=>by have:=loa _ hx;omega
 unfold set4 at hB4 HRA HRB HA HB HZ hs4
 go_upto_region 2 with fail
 clear c0 c1 c2 c3 cz0 cz1 cz2 cz3 Ra loa tya b4 hsz4
 generalize ((((w4.setCell ⟨w.heap.size,0,none⟩ (.int .i64 a.kind)).setCell ⟨w.heap.size,1,none⟩ (.string a.text)).setCell ⟨w.heap.size,2,none⟩ (.bool a.spaced)).setCell ⟨w.heap.size,3,none⟩ (.slice aoa a.hidden.length coa))=W4 at *
 have HCb:=Qh (ZcR _ _ _ W4 hlb HRB.out)
 obtain⟨c0,c1,c2,c3⟩:=Q4 HB.out
 go_wp2_with fail
 refine HCb.out.mono ?_
 rintro e w5 ⟨aob,cob,fob,rfl,Rb,lob,tyb,b5⟩
 clear c0 c1 c2 c3 HCb
 replace HA:=Qh (mbox HA.out b5)
 replace HB:=Qh (mbox HB.out b5)
 replace HZ:=Qh (mbox HZ.out b5)
 have c0:=Qc 0 HB.out
 have cz0:=Qf 0 HB.out
 have c1:=Qc 1 HB.out
 have cz1:=Qf 1 HB.out
 have c2:=Qc 2 HB.out
 have cz2:=Qf 2 HB.out
 have c3:=Qc 3 HB.out
 have cz3:=Qf 3 HB.out
 have hsz5:w.heap.size+3<=w5.heap.size:=by have:=b5.size;omega
 have hB5:=Zar (hB4.trans (b5.mono hB4.size)) (g:=w.heap.size+1) (by omega) (.int .i64 b.kind) (.string b.text) (.bool b.spaced) (.slice aob b.hidden.length cob)
 replace HRB:=Qh (sTok.set4R Rb (g:=w.heap.size+1) (λ hx=>by have:=lob _ hx;omega) (.int .i64 b.kind) (.string b.text) (.bool b.spaced) (.slice aob b.hidden.length cob))
 replace HRA:=Qh (sTok.set4R (sTok.below HRA.out b5) (g:=w.heap.size+1) (HNA.out) (.int .i64 b.kind) (.string b.text) (.bool b.spaced) (.slice aob b.hidden.length cob))
 replace HA:=Qh ((Zda (g:=w.heap.size+1) (by omega) (.int .i64 b.kind) (.string b.text) (.bool b.spaced) (.slice aob b.hidden.length cob)).trans HA.out)
 replace HB:=Qh (ZaB HB.out (.int .i64 b.kind) (.string b.text) (.bool b.spaced) (.slice aob b.hidden.length cob))
 replace HZ:=Qh ((Zda (g:=w.heap.size+1) (by omega) (.int .i64 b.kind) (.string b.text) (.bool b.spaced) (.slice aob b.hidden.length cob)).trans HZ.out)
 have hs5:w.heap.size+3<=(set4 w5 (w.heap.size+1) (.int .i64 b.kind) (.string b.text) (.bool b.spaced) (.slice aob b.hidden.length cob)).heap.size:=by rw [ZbH];omega
 unfold set4 at hB5 HRA HRB HA HB HZ hs5
 go_upto_region 3 with fail
 clear c0 c1 c2 c3 cz0 cz1 cz2 cz3 Rb lob tyb b5 hsz5
 generalize ((((w5.setCell ⟨w.heap.size+1,0,none⟩ (.int .i64 b.kind)).setCell ⟨w.heap.size+1,1,none⟩ (.string b.text)).setCell ⟨w.heap.size+1,2,none⟩ (.bool b.spaced)).setCell ⟨w.heap.size+1,3,none⟩ (.slice aob b.hidden.length cob))=W5 at *
 have HVA:=Qh (ZbE _ _ _ W5 HRA.out)
 obtain⟨c0,c1,c2,c3⟩:=Q4 HA.out
 cases hva:tokOk a
 ·rw [hva] at HVA
  have HF:=Qh (Zi3 (b:=b) hva)
  clear hva
  go_wp2_with fail
  refine HVA.out.mono ?_
  rintro e w6 ⟨rfl,b6⟩
  replace HZ:=Qh (mbox HZ.out b6)
  have hB6:=hB5.trans (b6.mono hB5.size)
  have z0:=Qc 0 HZ.out
  have zz0:=Qf 0 HZ.out
  have z1:=Qc 1 HZ.out
  have zz1:=Qf 1 HZ.out
  have z2:=Qc 2 HZ.out
  have zz2:=Qf 2 HZ.out
  have z3:=Qc 3 HZ.out
  have zz3:=Qf 3 HZ.out
  have HS:=Qh (ZaB HZ.out (.int .i64 0) (.string ⟨#[]⟩) (.bool false) (.slice none 0 0))
  have HBF:=Qh (Zar hB6 (g:=w.heap.size+1+1) (by omega) (.int .i64 0) (.string ⟨#[]⟩) (.bool false) (.slice none 0 0))
  unfold set4 at HS HBF
  go_wp2
  refine bodyPost_ret (Zak rfl _ _ (w.heap.size+1+1) _ _ _ _ rfl HS.out Tryz.underlying57 rfl (by kernel_rfl)) rfl ?_
  exact ZbI HF.out HBF.out
 rw [hva] at HVA
 go_wp2_with fail
 refine HVA.out.mono ?_
 rintro e w6 ⟨rfl,b6⟩
 clear c0 c1 c2 c3 HVA
 replace HA:=Qh (mbox HA.out b6)
 replace HB:=Qh (mbox HB.out b6)
 replace HZ:=Qh (mbox HZ.out b6)
 replace HRA:=Qh (sTok.below HRA.out b6)
 replace HRB:=Qh (sTok.below HRB.out b6)
 have hB6:=hB5.trans (b6.mono hB5.size)
 clear b6
 have HVB:=Qh (ZbE _ _ _ w6 HRB.out)
 obtain⟨c0,c1,c2,c3⟩:=Q4 HB.out
 cases hvb:tokOk b
 ·rw [hvb] at HVB
  have HF:=Qh (Zi4 (a:=a) hvb)
  clear hva hvb
  go_wp2_with fail
  refine HVB.out.mono ?_
  rintro e w7 ⟨rfl,b7⟩
  replace HZ:=Qh (mbox HZ.out b7)
  have hB7:=hB6.trans (b7.mono hB6.size)
  have z0:=Qc 0 HZ.out
  have zz0:=Qf 0 HZ.out
  have z1:=Qc 1 HZ.out
  have zz1:=Qf 1 HZ.out
  have z2:=Qc 2 HZ.out
  have zz2:=Qf 2 HZ.out
  have z3:=Qc 3 HZ.out
  have zz3:=Qf 3 HZ.out
  have HS:=Qh (ZaB HZ.out (.int .i64 0) (.string ⟨#[]⟩) (.bool false) (.slice none 0 0))
  have HBF:=Qh (Zar hB7 (g:=w.heap.size+1+1) (by omega) (.int .i64 0) (.string ⟨#[]⟩) (.bool false) (.slice none 0 0))
  unfold set4 at HS HBF
  go_wp2
  refine bodyPost_ret (Zak rfl _ _ (w.heap.size+1+1) _ _ _ _ rfl HS.out Tryz.underlying57 rfl (by kernel_rfl)) rfl ?_
  exact ZbI HF.out HBF.out
 rw [hvb] at HVB
 go_wp2_with fail
 refine HVB.out.mono ?_
 rintro e w7 ⟨rfl,b7⟩
 clear c0 c1 c2 c3 HVB
 replace HA:=Qh (mbox HA.out b7)
 replace HB:=Qh (mbox HB.out b7)
 replace HZ:=Qh (mbox HZ.out b7)
 replace HRA:=Qh (sTok.below HRA.out b7)
 replace HRB:=Qh (sTok.below HRB.out b7)
 have hB7:=hB6.trans (b7.mono hB6.size)
 clear b7
 have hzt:=mlt HZ.out
 have hsa:=(ZaA hva).2
 have hsb:=(ZaA hvb).2
 have HT:=Qh (λ W=>Zbo (a.text++b.text) W (by rw [ByteArray.size_append];unfold maxLen;omega))
 have ad:=λ W=>run_string_add_sum (P:=Tryz.prog) W a.text b.text (by omega)
 obtain⟨l,ok,htr⟩:∃ l ok,Zah (a.text++b.text)=(l,ok):=⟨_,_,rfl⟩
 have HTR:=Qh htr
 rw [htr] at HT
 clear htr
 have HVV:=Qh (And.intro hva hvb)
 clear hva hvb
 obtain⟨c0,c1,c2,c3⟩:=Q4 HA.out
 obtain⟨d0,d1,d2,d3⟩:=Q4 HB.out
 go_wp2_with fail
 refine (HT.out _).mono ?_
 rintro e w8 ⟨vt,fpt,rfl,RT,OT,b8⟩
 clear c0 c1 c2 c3 d0 d1 d2 d3 HT ad
 replace HA:=Qh (mbox HA.out b8)
 replace HB:=Qh (mbox HB.out b8)
 replace HZ:=Qh (mbox HZ.out b8)
 replace HRA:=Qh (sTok.below HRA.out b8)
 replace HRB:=Qh (sTok.below HRB.out b8)
 have hB8:=hB7.trans (b8.mono hB7.size)
 clear b8
 cases ok
 ·have HF:=Qh (Zi5 HTR.out)
  clear HTR RT OT
  have z0:=Qc 0 HZ.out
  have zz0:=Qf 0 HZ.out
  have z1:=Qc 1 HZ.out
  have zz1:=Qf 1 HZ.out
  have z2:=Qc 2 HZ.out
  have zz2:=Qf 2 HZ.out
  have z3:=Qc 3 HZ.out
  have zz3:=Qf 3 HZ.out
  have HS:=Qh (ZaB HZ.out (.int .i64 0) (.string ⟨#[]⟩) (.bool false) (.slice none 0 0))
  have HBF:=Qh (Zar hB8 (g:=w.heap.size+1+1) (by omega) (.int .i64 0) (.string ⟨#[]⟩) (.bool false) (.slice none 0 0))
  unfold set4 at HS HBF
  go_wp2
  refine bodyPost_ret (Zak rfl _ _ (w.heap.size+1+1) _ _ _ _ rfl HS.out Tryz.underlying57 rfl (by kernel_rfl)) rfl ?_
  exact ZbI HF.out HBF.out
 by_cases hl1:l.length=1
 rotate_left
 ·have HF:=Qh (Zi6 HTR.out hl1)
  obtain⟨at_,ct_,rfl,-⟩:=Zac RT
  have hl2:((l.length:Int) != 1)=true:=by simp;omega
  clear HTR RT hl1 OT
  have z0:=Qc 0 HZ.out
  have zz0:=Qf 0 HZ.out
  have z1:=Qc 1 HZ.out
  have zz1:=Qf 1 HZ.out
  have z2:=Qc 2 HZ.out
  have zz2:=Qf 2 HZ.out
  have z3:=Qc 3 HZ.out
  have zz3:=Qf 3 HZ.out
  have HS:=Qh (ZaB HZ.out (.int .i64 0) (.string ⟨#[]⟩) (.bool false) (.slice none 0 0))
  have HBF:=Qh (Zar hB8 (g:=w.heap.size+1+1) (by omega) (.int .i64 0) (.string ⟨#[]⟩) (.bool false) (.slice none 0 0))
  unfold set4 at HS HBF
  go_wp2
  refine bodyPost_ret (Zak rfl _ _ (w.heap.size+1+1) _ _ _ _ rfl HS.out Tryz.underlying57 rfl (by kernel_rfl)) rfl ?_
  exact ZbI HF.out HBF.out
 obtain⟨t,rfl⟩:∃ t,l=[t]:=List.length_eq_one_iff.1 hl1
 clear hl1
 have HF:=Qh (Zi7 HVV.out.1 HVV.out.2 HTR.out)
 obtain⟨bt,ot,ct,ath,cth,rfl,hc1,hcm,hbt,hmem,t0,t1,t2,t3,okk,oks⟩:=Zjc RT
 have hbt2:=(OT.2 bt hmem).1
 unfold maxLen at hcm
 clear RT HTR OT hmem
 have hla2:a.hidden.length<=1000000:=by have:=(Zdr (ZbJ HVV.out.1)).1;omega
 have HL:=Qh (λ U (hU:Below w8.heap.size w8 U)=>ZgH _ _ a.hidden b.hidden _ _ U hla2 (ZcG (sTok.below HRA.out hU)) (ZcG (sTok.below HRB.out hU)))
 obtain⟨c0,c1,c2,c3⟩:=Q4 HA.out
 obtain⟨d0,d1,d2,d3⟩:=Q4 HB.out
 have hz9:w.heap.size+3<=w8.heap.size:=by have:=hB8.size;have:=mlt HZ.out;omega
 have hcs:Below w8.heap.size w8 w8.drew:=Zag (Below.refl _ _) 1
 replace c2:w8.drew.cell? ⟨w.heap.size,2,none⟩=some (.bool a.spaced):=c2
 replace c3:w8.drew.cell? ⟨w.heap.size,3,none⟩=some (.slice aoa a.hidden.length coa):=c3
 replace d3:w8.drew.cell? ⟨w.heap.size+1,3,none⟩=some (.slice aob b.hidden.length cob):=d3
 replace t0:w8.drew.cell? ⟨bt,ot,none⟩=some (.int .i64 t.kind):=t0
 replace t1:w8.drew.cell? ⟨bt,ot+1,none⟩=some (.string t.text):=t1
 have HK1:∀ U:World,Below w8.drew.heap.size w8.drew U->U.cell? ⟨w.heap.size,2,none⟩=some (.bool a.spaced)/\U.cell? ⟨w.heap.size,3,none⟩=some (.slice aoa a.hidden.length coa)/\U.cell? ⟨w.heap.size+1,3,none⟩=some (.slice aob b.hidden.length cob)/\U.cell? ⟨bt,ot,none⟩=some (.int .i64 t.kind)/\U.cell? ⟨bt,ot+1,none⟩=some (.string t.text):=λ U hU=>⟨(hU.cell (by show _<w8.heap.size;simp only;omega)).trans c2,(hU.cell (by show _<w8.heap.size;simp only;omega)).trans c3,(hU.cell (by show _<w8.heap.size;simp only;omega)).trans d3,(hU.cell (by show _<w8.heap.size;simp only;omega)).trans t0,(hU.cell (by show _<w8.heap.size;simp only;omega)).trans t1⟩
 have HK2:∀ U:World,Below w8.drew.heap.size w8.drew U->∀ v0 v1 v2 v3:Value,((((U.setCell ⟨w.heap.size+1+1,0,none⟩ v0).setCell ⟨w.heap.size+1+1,1,none⟩ v1).setCell ⟨w.heap.size+1+1,2,none⟩ v2).setCell ⟨w.heap.size+1+1,3,none⟩ v3).cell? ⟨w.heap.size,2,none⟩=some (.bool a.spaced)/\((((U.setCell ⟨w.heap.size+1+1,0,none⟩ v0).setCell ⟨w.heap.size+1+1,1,none⟩ v1).setCell ⟨w.heap.size+1+1,2,none⟩ v2).setCell ⟨w.heap.size+1+1,3,none⟩ v3).cell? ⟨w.heap.size,3,none⟩=some (.slice aoa a.hidden.length coa)/\((((U.setCell ⟨w.heap.size+1+1,0,none⟩ v0).setCell ⟨w.heap.size+1+1,1,none⟩ v1).setCell ⟨w.heap.size+1+1,2,none⟩ v2).setCell ⟨w.heap.size+1+1,3,none⟩ v3).cell? ⟨w.heap.size+1,3,none⟩=some (.slice aob b.hidden.length cob)/\((((U.setCell ⟨w.heap.size+1+1,0,none⟩ v0).setCell ⟨w.heap.size+1+1,1,none⟩ v1).setCell ⟨w.heap.size+1+1,2,none⟩ v2).setCell ⟨w.heap.size+1+1,3,none⟩ v3).cell? ⟨bt,ot,none⟩=some (.int .i64 t.kind)/\((((U.setCell ⟨w.heap.size+1+1,0,none⟩ v0).setCell ⟨w.heap.size+1+1,1,none⟩ v1).setCell ⟨w.heap.size+1+1,2,none⟩ v2).setCell ⟨w.heap.size+1+1,3,none⟩ v3).cell? ⟨bt,ot+1,none⟩=some (.string t.text):=λ U hU v0 v1 v2 v3=>by
  obtain⟨k1,k2,k3,k4,k5⟩:=HK1 U hU
  exact⟨(ZcU (by omega) _ _ _ _ _).trans k1,(ZcU (by omega) _ _ _ _ _).trans k2,(ZcU (by omega) _ _ _ _ _).trans k3,(ZcU (by omega) _ _ _ _ _).trans k4,(ZcU (by omega) _ _ _ _ _).trans k5⟩
 have HZD:Hid (w8.drew.heap[w.heap.size+1+1]?=_):=HZ
 clear c0 c1 d0 d1 d2
 go_wp2_with fail
 go_region_held3 (λ w'=>w'.cell? ⟨w.heap.size,2,none⟩=some (.bool a.spaced)/\w'.cell? ⟨w.heap.size,3,none⟩=some (.slice aoa a.hidden.length coa)/\w'.cell? ⟨w.heap.size+1,3,none⟩=some (.slice aob b.hidden.length cob)/\w'.cell? ⟨bt,ot,none⟩=some (.int .i64 t.kind)/\w'.cell? ⟨bt,ot+1,none⟩=some (.string t.text))
  (first | (with_reducible exact⟨c2,c3,d3,t0,t1⟩) | (with_reducible exact HK1 _ b9) | (with_reducible exact HK2 _ b9 _ _ _ _))
  (first | (go_at_call 100;(with_reducible refine (HL.out _ hcs).mono ?_);rintro e w9 ⟨vv,fv,rfl,RV,OV,b9⟩;obtain⟨av,cv,rfl,-⟩:=Zaf RV;have HZN:=mbox HZD.out b9;have z0:=Qc 0 HZN;have zz0:=Qf 0 HZN;have z1:=Qc 1 HZN;have zz1:=Qf 1 HZN;have z2:=Qc 2 HZN;have zz2:=Qf 2 HZN;have z3:=Qc 3 HZN;have zz3:=Qf 3 HZN))
 have HS:=Qh (ZaB (mbox HZD.out b9) (.int .i64 t.kind) (.string t.text) (.bool a.spaced) (.slice av (both a.hidden b.hidden).length cv))
 have hbk:=hB8.trans ((hcs.trans (b9.mono (Nat.le_refl _))).mono hB8.size)
 have HBF:=Qh (Zar hbk (g:=w.heap.size+1+1) (by omega) (.int .i64 t.kind) (.string t.text) (.bool a.spaced) (.slice av (both a.hidden b.hidden).length cv))
 have hfv:w.heap.size+1+1∉fv:=λ hx=>by have h1:=(OV.2 _ hx).1;have h2:w8.heap.size<=w.heap.size+1+1:=h1;omega
 have HRF:=Qh ((Zaa sStr).set4R RV hfv (.int .i64 t.kind) (.string t.text) (.bool a.spaced) (.slice av (both a.hidden b.hidden).length cv))
 have HOF:=Qh (Own.set4 (g:=w.heap.size+1+1) (OV.lower (show w.heap.size<=w8.heap.size by omega)) (.int .i64 t.kind) (.string t.text) (.bool a.spaced) (.slice av (both a.hidden b.hidden).length cv))
 unfold set4 at HS HBF HRF HOF
 go_wp2
 refine bodyPost_ret (Zak rfl _ _ (w.heap.size+1+1) _ _ _ _ rfl HS.out Tryz.underlying57 rfl (by kernel_rfl)) rfl ?_
 exact ZgI HF.out okk oks HRF.out HOF.out HBF.out
theorem Zg6 (ca cb:List Value) (a b:Tok) (fpa fpb:List Nat) (w:World) (hla:a.hidden.length<=2000000) (hlb:b.hidden.length<=2000000) (HA0:sTok.R w ca a fpa) (HB0:sTok.R w cb b fpb) :
  Calls Tryz.prog 150 #[.agg ca.toArray,.agg cb.toArray] w (ZdF a b w):=by
 have HA0':=HA0
 have HB0':=HB0
 obtain⟨ha,rfl,-,-,-⟩:=HA0'
 obtain⟨hb,rfl,-,-,-⟩:=HB0'
 have hb3:=Zex w #[.int .i64 a.kind,.string a.text,.bool a.spaced,ha] #[.int .i64 b.kind,.string b.text,.bool b.spaced,hb] #[.int .i64 0,.string ⟨#[]⟩,.bool false,.slice none 0 0] 57 57 57
 have HA:=Qh (Zcr w #[.int .i64 a.kind,.string a.text,.bool a.spaced,ha] #[.int .i64 b.kind,.string b.text,.bool b.spaced,hb] #[.int .i64 0,.string ⟨#[]⟩,.bool false,.slice none 0 0] 57 57 57)
 obtain⟨g1,g2,hs3⟩:=Zcn w #[.int .i64 a.kind,.string a.text,.bool a.spaced,ha] #[.int .i64 b.kind,.string b.text,.bool b.spaced,hb] #[.int .i64 0,.string ⟨#[]⟩,.bool false,.slice none 0 0] 57 57 57
 have HB:=Qh g1
 have HZ:=Qh g2
 have HRA:=Qh (sTok.below HA0 hb3)
 have HRB:=Qh (sTok.below HB0 hb3)
 have HNB:Hid (w.heap.size∉fpb/\w.heap.size+1∉fpb):=⟨λ hx=>by have:=sTok.lt HB0 _ hx;omega,λ hx=>by have:=sTok.lt HB0 _ hx;omega⟩
 have hB3:=hb3
 clear HA0 HB0 g1 g2 hb3
 go_enter Tryz.func150,Tryz.ntmps150
 go_upto_region 1 with fail
 generalize (((w.alloc (.cells #[.int .i64 a.kind,.string a.text,.bool a.spaced,ha] 57)).alloc (.cells #[.int .i64 b.kind,.string b.text,.bool b.spaced,hb] 57)).alloc (.cells #[.int .i64 0,.string ⟨#[]⟩,.bool false,.slice none 0 0] 57))=W3 at *
 have HVA:=Qh (ZcN _ _ _ W3 HRA.out)
 obtain⟨c0,c1,c2,c3⟩:=Q4 HA.out
 cases hva:tokOk a
 ·rw [hva] at HVA
  have HF:=Qh (Zi3 (b:=b) hva)
  clear hva
  go_wp2_with fail
  refine HVA.out.mono ?_
  rintro e w6 ⟨rfl,b6⟩
  replace HZ:=Qh (mbox HZ.out b6)
  have hB6:=hB3.trans (b6.mono hB3.size)
  have z0:=Qc 0 HZ.out
  have zz0:=Qf 0 HZ.out
  have z1:=Qc 1 HZ.out
  have zz1:=Qf 1 HZ.out
  have z2:=Qc 2 HZ.out
  have zz2:=Qf 2 HZ.out
  have z3:=Qc 3 HZ.out
  have zz3:=Qf 3 HZ.out
  have HS:=Qh (ZaB HZ.out (.int .i64 0) (.string ⟨#[]⟩) (.bool false) (.slice none 0 0))
  have HBF:=Qh (Zar hB6 (g:=w.heap.size+1+1) (by omega) (.int .i64 0) (.string ⟨#[]⟩) (.bool false) (.slice none 0 0))
  unfold set4 at HS HBF
  go_wp2
  refine bodyPost_ret (Zak rfl _ _ (w.heap.size+1+1) _ _ _ _ rfl HS.out Tryz.underlying57 rfl (by kernel_rfl)) rfl ?_
  exact ZbI HF.out HBF.out
 rw [hva] at HVA
 go_wp2_with fail
 refine HVA.out.mono ?_
 rintro e w6 ⟨rfl,b6⟩
 clear c0 c1 c2 c3 HVA
 replace HA:=Qh (mbox HA.out b6)
 replace HB:=Qh (mbox HB.out b6)
 replace HZ:=Qh (mbox HZ.out b6)
 replace HRA:=Qh (sTok.below HRA.out b6)
 replace HRB:=Qh (sTok.below HRB.out b6)
 have hB6:=hB3.trans (b6.mono hB3.size)
 clear b6
 have HVB:=Qh (ZcN _ _ _ w6 HRB.out)
 obtain⟨c0,c1,c2,c3⟩:=Q4 HB.out
 cases hvb:tokOk b
 ·rw [hvb] at HVB
  have HF:=Qh (Zi4 (a:=a) hvb)
  clear hva hvb
  go_wp2_with fail
  refine HVB.out.mono ?_
  rintro e w7 ⟨rfl,b7⟩
  replace HZ:=Qh (mbox HZ.out b7)
  have hB7:=hB6.trans (b7.mono hB6.size)
  have z0:=Qc 0 HZ.out
  have zz0:=Qf 0 HZ.out
  have z1:=Qc 1 HZ.out
  have zz1:=Qf 1 HZ.out
  have z2:=Qc 2 HZ.out
  have zz2:=Qf 2 HZ.out
  have z3:=Qc 3 HZ.out
  have zz3:=Qf 3 HZ.out
  have HS:=Qh (ZaB HZ.out (.int .i64 0) (.string ⟨#[]⟩) (.bool false) (.slice none 0 0))
  have HBF:=Qh (Zar hB7 (g:=w.heap.size+1+1) (by omega) (.int .i64 0) (.string ⟨#[]⟩) (.bool false) (.slice none 0 0))
  unfold set4 at HS HBF
  go_wp2
  refine bodyPost_ret (Zak rfl _ _ (w.heap.size+1+1) _ _ _ _ rfl HS.out Tryz.underlying57 rfl (by kernel_rfl)) rfl ?_
  exact ZbI HF.out HBF.out
 rw [hvb] at HVB
 go_wp2_with fail
 refine HVB.out.mono ?_
 rintro e w7 ⟨rfl,b7⟩
 clear c0 c1 c2 c3 HVB
 replace HA:=Qh (mbox HA.out b7)
 replace HB:=Qh (mbox HB.out b7)
 replace HZ:=Qh (mbox HZ.out b7)
 replace HRA:=Qh (sTok.below HRA.out b7)
 replace HRB:=Qh (sTok.below HRB.out b7)
 have hB7:=hB6.trans (b7.mono hB6.size)
 clear b7
 have hzt:=mlt HZ.out
 have hsa:=(ZaA hva).2
 have hsb:=(ZaA hvb).2
 have HT:=Qh (λ W=>Zcv (a.text++b.text) W (by rw [ByteArray.size_append];unfold maxLen;omega))
 have ad:=λ W=>run_string_add_sum (P:=Tryz.prog) W a.text b.text (by omega)
 obtain⟨l,ok,htr⟩:∃ l ok,Zah (a.text++b.text)=(l,ok):=⟨_,_,rfl⟩
 have HTR:=Qh htr
 rw [htr] at HT
 clear htr
 have HVV:=Qh (And.intro hva hvb)
 clear hva hvb
 obtain⟨c0,c1,c2,c3⟩:=Q4 HA.out
 obtain⟨d0,d1,d2,d3⟩:=Q4 HB.out
 go_wp2_with fail
 refine (HT.out _).mono ?_
 rintro e w8 ⟨vt,fpt,rfl,RT,OT,b8⟩
 clear c0 c1 c2 c3 d0 d1 d2 d3 HT ad
 replace HA:=Qh (mbox HA.out b8)
 replace HB:=Qh (mbox HB.out b8)
 replace HZ:=Qh (mbox HZ.out b8)
 replace HRA:=Qh (sTok.below HRA.out b8)
 replace HRB:=Qh (sTok.below HRB.out b8)
 have hB8:=hB7.trans (b8.mono hB7.size)
 clear b8
 cases ok
 ·have HF:=Qh (Zi5 HTR.out)
  clear HTR RT OT
  have z0:=Qc 0 HZ.out
  have zz0:=Qf 0 HZ.out
  have z1:=Qc 1 HZ.out
  have zz1:=Qf 1 HZ.out
  have z2:=Qc 2 HZ.out
  have zz2:=Qf 2 HZ.out
  have z3:=Qc 3 HZ.out
  have zz3:=Qf 3 HZ.out
  have HS:=Qh (ZaB HZ.out (.int .i64 0) (.string ⟨#[]⟩) (.bool false) (.slice none 0 0))
  have HBF:=Qh (Zar hB8 (g:=w.heap.size+1+1) (by omega) (.int .i64 0) (.string ⟨#[]⟩) (.bool false) (.slice none 0 0))
  unfold set4 at HS HBF
  go_wp2
  refine bodyPost_ret (Zak rfl _ _ (w.heap.size+1+1) _ _ _ _ rfl HS.out Tryz.underlying57 rfl (by kernel_rfl)) rfl ?_
  exact ZbI HF.out HBF.out
 by_cases hl1:l.length=1
 rotate_left
 ·have HF:=Qh (Zi6 HTR.out hl1)
  obtain⟨at_,ct_,rfl,-⟩:=Zac RT
  have hl2:((l.length:Int) != 1)=true:=by simp;omega
  clear HTR RT hl1 OT
  have z0:=Qc 0 HZ.out
  have zz0:=Qf 0 HZ.out
  have z1:=Qc 1 HZ.out
  have zz1:=Qf 1 HZ.out
  have z2:=Qc 2 HZ.out
  have zz2:=Qf 2 HZ.out
  have z3:=Qc 3 HZ.out
  have zz3:=Qf 3 HZ.out
  have HS:=Qh (ZaB HZ.out (.int .i64 0) (.string ⟨#[]⟩) (.bool false) (.slice none 0 0))
  have HBF:=Qh (Zar hB8 (g:=w.heap.size+1+1) (by omega) (.int .i64 0) (.string ⟨#[]⟩) (.bool false) (.slice none 0 0))
  unfold set4 at HS HBF
  go_wp2
  refine bodyPost_ret (Zak rfl _ _ (w.heap.size+1+1) _ _ _ _ rfl HS.out Tryz.underlying57 rfl (by kernel_rfl)) rfl ?_
  exact ZbI HF.out HBF.out
 obtain⟨t,rfl⟩:∃ t,l=[t]:=List.length_eq_one_iff.1 hl1
 clear hl1
 have HF:=Qh (Zi7 HVV.out.1 HVV.out.2 HTR.out)
 obtain⟨bt,ot,ct,ath,cth,rfl,hc1,hcm,hbt,hmem,t0,t1,t2,t3,okk,oks⟩:=Zjc RT
 have hbt2:=(OT.2 bt hmem).1
 unfold maxLen at hcm
 clear RT HTR OT hmem
 have hpa:=ZcE (ZbJ HVV.out.1)
 have hpb:=ZcE (ZbJ HVV.out.2)
 have HL:=Qh (λ (U:World) (hU:Below w8.heap.size w8 U)=>Zd4 _ _ a.hidden b.hidden _ _ U (by omega) (by omega) hpb.2.2 (ZcG (sTok.below HRA.out hU)) (ZcG (sTok.below HRB.out hU)))
 clear hpa hpb
 obtain⟨c0,c1,c2,c3⟩:=Q4 HA.out
 obtain⟨d0,d1,d2,d3⟩:=Q4 HB.out
 have hzz:w.heap.size+1+1<w8.heap.size:=mlt HZ.out
 have hal0:=Zab w8 (.cells #[.int .i64 t.kind,.string t.text,.bool t.spaced,.slice ath t.hidden.length cth] 57)
 have c2_0:(w8.alloc (.cells #[.int .i64 t.kind,.string t.text,.bool t.spaced,.slice ath t.hidden.length cth] 57)).cell? ⟨w.heap.size,2,none⟩=some (.bool a.spaced):=(hal0.cell (by show _<w8.heap.size;simp only;omega)).trans c2
 have c3_0:(w8.alloc (.cells #[.int .i64 t.kind,.string t.text,.bool t.spaced,.slice ath t.hidden.length cth] 57)).cell? ⟨w.heap.size,3,none⟩=some (ha):=(hal0.cell (by show _<w8.heap.size;simp only;omega)).trans c3
 have d3_0:(w8.alloc (.cells #[.int .i64 t.kind,.string t.text,.bool t.spaced,.slice ath t.hidden.length cth] 57)).cell? ⟨w.heap.size+1,3,none⟩=some (hb):=(hal0.cell (by show _<w8.heap.size;simp only;omega)).trans d3
 have hal1:=Zab w8 (.cells #[.int .i64 t.kind,.string t.text,.bool a.spaced,.slice ath t.hidden.length cth] 57)
 have c2_1:(w8.alloc (.cells #[.int .i64 t.kind,.string t.text,.bool a.spaced,.slice ath t.hidden.length cth] 57)).cell? ⟨w.heap.size,2,none⟩=some (.bool a.spaced):=(hal1.cell (by show _<w8.heap.size;simp only;omega)).trans c2
 have c3_1:(w8.alloc (.cells #[.int .i64 t.kind,.string t.text,.bool a.spaced,.slice ath t.hidden.length cth] 57)).cell? ⟨w.heap.size,3,none⟩=some (ha):=(hal1.cell (by show _<w8.heap.size;simp only;omega)).trans c3
 have d3_1:(w8.alloc (.cells #[.int .i64 t.kind,.string t.text,.bool a.spaced,.slice ath t.hidden.length cth] 57)).cell? ⟨w.heap.size+1,3,none⟩=some (hb):=(hal1.cell (by show _<w8.heap.size;simp only;omega)).trans d3
 clear c0 c1 c2 c3 d0 d1 d2 d3
 have HX:=Qh (show (w8.alloc (.cells #[.int .i64 t.kind,.string t.text,.bool a.spaced,.slice ath t.hidden.length cth] 57)).heap[w8.heap.size]?=some (.cells #[.int .i64 t.kind,.string t.text,.bool a.spaced,.slice ath t.hidden.length cth] 57 (0,0)) by show (w8.heap.push _)[_]?=_;simp)
 go_wp2_with fail
 refine (HL.out _ hal1).mono ?_
 rintro e w9 ⟨vv,fv,rfl,RV,OV,b9⟩
 obtain⟨av,cv,rfl,-⟩:=Zaf RV
 clear t0 t1 t2 t3 HL c2_0 c3_0 d3_0 c2_1 c3_1 d3_1
 have hbk:=hB8.trans ((hal1.trans (b9.mono hal1.size)).mono hB8.size)
 have hox:w8.heap.size∉fv:=λ hx=>by have h1:=(OV.2 _ hx).1;have h2:(w8.alloc (.cells #[.int .i64 t.kind,.string t.text,.bool a.spaced,.slice ath t.hidden.length cth] 57)).heap.size=w8.heap.size+1:=(by simp);omega
 have hoz:w.heap.size+1+1∉fv:=λ hx=>by have h1:=(OV.2 _ hx).1;have h2:(w8.alloc (.cells #[.int .i64 t.kind,.string t.text,.bool a.spaced,.slice ath t.hidden.length cth] 57)).heap.size=w8.heap.size+1:=(by simp);omega
 replace HX:=Qh (mbox HX.out b9)
 replace HZ:=Qh (mbox HZ.out (hal1.trans (b9.mono hal1.size)))
 have x0:=Qc 0 HX.out
 have xz0:=Qf 0 HX.out
 have x1:=Qc 1 HX.out
 have xz1:=Qf 1 HX.out
 have x2:=Qc 2 HX.out
 have xz2:=Qf 2 HX.out
 have x3:=Qc 3 HX.out
 have xz3:=Qf 3 HX.out
 have hb10:=hbk.setCell (p:=⟨w8.heap.size,3,none⟩) (by show w.heap.size<=w8.heap.size;omega) (.slice av (both a.hidden b.hidden).length cv)
 have HR:=Qh ((Zaa sStr).setB RV hox 3 (.slice av (both a.hidden b.hidden).length cv))
 have HO:=Qh (OV.setCell ⟨w8.heap.size,3,none⟩ (.slice av (both a.hidden b.hidden).length cv))
 replace HX:=Qh (Zai HX.out 3 (.slice av (both a.hidden b.hidden).length cv))
 replace HZ:=Qh (Zav HZ.out (by omega:w.heap.size+1+1≠w8.heap.size) 3 (.slice av (both a.hidden b.hidden).length cv))
 go_upto_region 9 with fail
 clear x0 x1 x2 x3 xz0 xz1 xz2 xz3 RV OV b9 hbk
 generalize w9.setCell ⟨w8.heap.size,3,none⟩ (.slice av (both a.hidden b.hidden).length cv)=w9' at *
 obtain⟨x0,x1,x2,x3⟩:=Q4 HX.out
 have z0:=Qc 0 HZ.out
 have zz0:=Qf 0 HZ.out
 have z1:=Qc 1 HZ.out
 have zz1:=Qf 1 HZ.out
 have z2:=Qc 2 HZ.out
 have zz2:=Qf 2 HZ.out
 have z3:=Qc 3 HZ.out
 have zz3:=Qf 3 HZ.out
 have HS:=Qh (ZaB HZ.out (.int .i64 t.kind) (.string t.text) (.bool a.spaced) (.slice av (both a.hidden b.hidden).length cv))
 have HBF:=Qh (Zar hb10 (g:=w.heap.size+1+1) (by omega) (.int .i64 t.kind) (.string t.text) (.bool a.spaced) (.slice av (both a.hidden b.hidden).length cv))
 have HRF:=Qh ((Zaa sStr).set4R HR.out hoz (.int .i64 t.kind) (.string t.text) (.bool a.spaced) (.slice av (both a.hidden b.hidden).length cv))
 have HOF:=Qh (Own.set4 (g:=w.heap.size+1+1) (HO.out.lower (show w.heap.size<=(w8.alloc (.cells #[.int .i64 t.kind,.string t.text,.bool a.spaced,.slice ath t.hidden.length cth] 57)).heap.size by simp;omega)) (.int .i64 t.kind) (.string t.text) (.bool a.spaced) (.slice av (both a.hidden b.hidden).length cv))
 unfold set4 at HS HBF HRF HOF
 go_wp2
 refine bodyPost_ret (Zak rfl _ _ (w.heap.size+1+1) _ _ _ _ rfl HS.out Tryz.underlying57 rfl (by kernel_rfl)) rfl ?_
 exact ZgI HF.out okk oks HRF.out HOF.out HBF.out
end Go.Proofs.YtiaiggjfepoahaaGreat
