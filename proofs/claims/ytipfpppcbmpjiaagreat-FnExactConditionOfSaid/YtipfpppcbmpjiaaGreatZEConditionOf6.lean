/- Texts that the proof of EConditionOf stands on, in one file. -/
import Derived.Test.YtipfpppcbmpjiaaGreatZEConditionOf5
import Derived.IntWalk
import Derived.Outline
import Derived.Laws.BitsAllLaws
import Derived.Deep.QuietTactic
import Derived.BigQuiet
import Derived.Laws.Concat
set_option linter.unusedVariables false
set_option maxHeartbeats 16000000
set_option maxRecDepth 100000
set_option linter.unusedSimpArgs false
/- MacroValid of the model. (Made by gen_mac3.py.) -/
namespace Go.Proofs.YtipfpppcbmpjiaaGreat
open Go.RowKit
theorem ZfY (m:DMacro) (h2 h3:Value) (fp2 fp3:List Nat) (w:World) (k0:okStr m.name) (K2:(Zaa sStr).R w [h2] m.params fp2) (K3:(Zaa sTok).R w [h3] m.body fp3) (hf:m.function=false) :
  Calls Tryz.prog 67 #[.agg #[.string m.name,.bool m.function,h2,h3]] w (Says (macOk m) w):=by
 obtain⟨a2,cap2,rfl,hc2,hm2,hcell2,hsz2⟩:=Zaf K2
 have K3':=K3
 obtain⟨a3,cap3,rfl,hc3,hm3,hrow3⟩:=Zac K3
 unfold maxLen at hm2 hm3
 rw [hf]
 have HN:=Qh (λ W=>ZeC m.name W k0)
 have hb0:=Zab w (.cells #[.string m.name,.bool false,.slice a2 m.params.length cap2,.slice a3 m.body.length cap3] 56)
 have HX:=Qh (heap_alloc_new w (.cells #[.string m.name,.bool false,.slice a2 m.params.length cap2,.slice a3 m.body.length cap3] 56))
 go_enter Tryz.func67,Tryz.ntmps67
 rcases Zi8 m with⟨g1,HF⟩ | ⟨g1,g2,HF⟩ | ⟨g1,g2,g3,HF⟩ | ⟨g1,g2,g3,g4,g5,HF⟩ | ⟨g1,g2,g3,g4,g5,HF⟩ | ⟨g1,g2,g3,g4,g5,HH⟩
 ·rw [g1] at HN
  clear g1
  go_wp2_with (go_at_call 95;refine (HN.out _).mono ?_;rintro e w1 ⟨rfl,hb1⟩)
  go_ret
  exact⟨Zad HF.out.symm,hb0.trans (hb1.mono hb0.size)⟩
 ·rw [g1] at HN
  have e2:=txt_t (l:=[100,101,102,105,110,101,100]) g2
  clear g1 g2
  go_wp2_with (go_at_call 95;refine (HN.out _).mono ?_;rintro e w1 ⟨rfl,hb1⟩;have q0:=Qc 0 ((hb1.block _ (Qg HX.out).1).trans HX.out))
  go_ret
  exact⟨Zad HF.out.symm,hb0.trans (hb1.mono hb0.size)⟩
 ·rw [g1] at HN
  have e2:=txt_f (l:=[100,101,102,105,110,101,100]) g2
  clear g1 g2
  go_wp2_with (go_at_call 95;refine (HN.out _).mono ?_;rintro e w1 ⟨rfl,hb1⟩;have q0:=Qc 0 ((hb1.block _ (Qg HX.out).1).trans HX.out);have q2:=Qc 2 ((hb1.block _ (Qg HX.out).1).trans HX.out))
  go_ret
  exact⟨Zad HF.out.symm,hb0.trans (hb1.mono hb0.size)⟩
 ·rw [g1] at HN
  have e2:=txt_f (l:=[100,101,102,105,110,101,100]) g2
  clear g1 g2
  go_wp2_with (go_at_call 95;refine (HN.out _).mono ?_;rintro e w1 ⟨rfl,hb1⟩;have q0:=Qc 0 ((hb1.block _ (Qg HX.out).1).trans HX.out);have q1:=Qc 1 ((hb1.block _ (Qg HX.out).1).trans HX.out);have q2:=Qc 2 ((hb1.block _ (Qg HX.out).1).trans HX.out))
  go_ret
  exact⟨Zad HF.out.symm,hb0.trans (hb1.mono hb0.size)⟩
 ·rw [g1] at HN
  have e2:=txt_f (l:=[100,101,102,105,110,101,100]) g2
  have g6:¬ (0:Int)<(m.params.length:Int):=by rcases g4 with h | h;rw [hf] at h;simp at h;omega
  have g7:¬ 0<m.params.length:=by omega
  clear g1 g2 g4
  go_wp2_with (go_at_call 95;refine (HN.out _).mono ?_;rintro e w1 ⟨rfl,hb1⟩;have q0:=Qc 0 ((hb1.block _ (Qg HX.out).1).trans HX.out);have q1:=Qc 1 ((hb1.block _ (Qg HX.out).1).trans HX.out);have q2:=Qc 2 ((hb1.block _ (Qg HX.out).1).trans HX.out);have q3:=Qc 3 ((hb1.block _ (Qg HX.out).1).trans HX.out))
  go_ret
  exact⟨Zad HF.out.symm,hb0.trans (hb1.mono hb0.size)⟩
 ·rw [g1] at HN
  have e2:=txt_f (l:=[100,101,102,105,110,101,100]) g2
  have g6:¬ (0:Int)<(m.params.length:Int):=by rcases g4 with h | h;rw [hf] at h;simp at h;omega
  have g7:¬ 0<m.params.length:=by omega
  clear g1 g2 g4
  go_wp2_with (go_at_call 95;refine (HN.out _).mono ?_;rintro e w1 ⟨rfl,hb1⟩;have q0:=Qc 0 ((hb1.block _ (Qg HX.out).1).trans HX.out);have q1:=Qc 1 ((hb1.block _ (Qg HX.out).1).trans HX.out);have q2:=Qc 2 ((hb1.block _ (Qg HX.out).1).trans HX.out);have q3:=Qc 3 ((hb1.block _ (Qg HX.out).1).trans HX.out))
  have hB1:=hb0.trans (hb1.mono hb0.size)
  have HX1:=Qh ((hb1.block _ (Qg HX.out).1).trans HX.out)
  have HM:=Qh (λ W (hb:Below w.heap.size w W)=>sMacro.below (show sMacro.R w [.string m.name,.bool false,.slice a2 m.params.length cap2,.slice a3 m.body.length cap3] m (fp2++fp3) from⟨_,_,fp2,fp3,by rw [hf],k0,K2,K3,rfl⟩) hb)
  clear q0 q1 q2 q3 HN hb0 HX hb1 K3' K2 K3
  go_loopw [3] (λ i wr=>∃ k:Nat,k<=m.params.length/\i=.int .i64 k/\ParUpto m.params k/\Below w1.heap.size w1 wr) (λ i _=>m.params.length-(intOf i).toNat)
  case atStart=>exact⟨0,by omega,rfl,ParUpto.zero _,Below.refl _ _⟩
  case round =>
   obtain⟨k,hk,rfl,hall,hb⟩:=hrel
   have HX2:=Qh ((hb.block _ (Qg HX1.out).1).trans HX1.out)
   have q2:=Qc 2 HX2.out
   have q3:=Qc 3 HX2.out
   have hbw:=hB1.trans (hb.mono hB1.size)
   by_cases hlt:k<m.params.length
   ·omega
   ·have HP:=Qh (show ParUpto m.params m.params.length from λ j hj=>hall j (by omega))
    have hz:decide (k<m.params.length)=false:=decide_eq_false hlt
    clear hall hk
    go_wp2
    try rw [hz]
    clear q2 q3 HX2 hbw hlt hz
    go_loopw [6] (λ i wr=>∃ k:Nat,k<=m.body.length/\i=.int .i64 k/\BodUpto (bodOk m) k/\Below w1.heap.size w1 wr) (λ i _=>m.body.length-(intOf i).toNat)
    case atStart=>exact⟨0,by omega,rfl,BodUpto.zero _,hb⟩
    case round =>
     clear hb
     obtain⟨k,hk,rfl,hall,hb⟩:=hrel
     have HX3:=Qh ((hb.block _ (Qg HX1.out).1).trans HX1.out)
     have q3:=Qc 3 HX3.out
     have hbw:=hB1.trans (hb.mono hB1.size)
     by_cases hlt:k<m.body.length
     ·obtain⟨b1,off1,fps1,rfl,hb1',-,he1⟩:=hrow3 (by omega)
      obtain⟨es1,hE1,hR1⟩:=he1 k hlt
      have hR1':=hR1
      obtain⟨hh,rfl,-,-,K1⟩:=hR1
      obtain⟨ah,caph,rfl,-⟩:=Zac K1
      replace hE1:=hE1.frame (hbw.block b1 hb1')
      have c10:wr.cell? ⟨b1,off1+k * 4,none⟩=some _:=Zam hE1 (by decide) rfl
      have c11:wr.cell? ⟨b1,off1+k * 4+1,none⟩=some _:=Zae (j:=1) hE1 (by decide) rfl
      have c12:wr.cell? ⟨b1,off1+k * 4+2,none⟩=some _:=Zae (j:=2) hE1 (by decide) rfl
      have c13:wr.cell? ⟨b1,off1+k * 4+3,none⟩=some _:=Zae (j:=3) hE1 (by decide) rfl
      have hbx:Below wr.heap.size wr (wr.alloc (.cells #[.int .i64 m.body[k].kind,.string m.body[k].text,.bool m.body[k].spaced,.slice ah m.body[k].hidden.length caph] 32)):=Zab _ _
      have HT:=Qh (heap_alloc_new wr (.cells #[.int .i64 m.body[k].kind,.string m.body[k].text,.bool m.body[k].spaced,.slice ah m.body[k].hidden.length caph] 32))
      have HV:=Qh (λ W (hW:Below (wr.alloc (.cells #[.int .i64 m.body[k].kind,.string m.body[k].text,.bool m.body[k].spaced,.slice ah m.body[k].hidden.length caph] 32)).heap.size (wr.alloc (.cells #[.int .i64 m.body[k].kind,.string m.body[k].text,.bool m.body[k].spaced,.slice ah m.body[k].hidden.length caph] 32)) W)=>ZbJ _ _ _ W (sTok.below (sTok.below (sTok.below hR1' hbw) hbx) hW))
      clear K1 hR1' hE1
      go_wp2_with fail
      refine (HV.out _ (Below.refl _ _)).mono ?_
      rintro e w2 ⟨rfl,hb2⟩
      have HT2:=Qh ((hb2.block _ (Qg HT.out).1).trans HT.out)
      have hb02:=hbx.trans (hb2.mono hbx.size)
      have hbq:=hb.trans (hb02.mono hb.size)
      have hbw2:=hB1.trans (hbq.mono hB1.size)
      have HX4:=Qh ((hb02.block _ (Qg HX3.out).1).trans HX3.out)
      have p1:=Qc 1 HT2.out
      have p2:=Qc 2 HT2.out
      have p3:=Qc 3 HT2.out
      clear q3 c10 c11 c12 c13 HV HT hb2 HX3 hbx hb02 hbw hb
      have q0:=Qc 0 HX4.out
      have q1:=Qc 1 HX4.out
      have q2:=Qc 2 HX4.out
      have q3:=Qc 3 HX4.out
      cases hv:tokOk m.body[k]
      ·have HF:=Qh (ZaZ hlt (by rw [Zcz _ _ hlt,hv];rfl))
       clear hv hall
       go_wp2
       go_ret
       exact⟨Zad HF.out.symm,hbw2⟩
      have HS:=Qh (Zcz m k hlt)
      rw [hv] at HS
      clear hv
      have g00:((k:Int)==0)=decide (k=0):=by rw [Bool.eq_iff_iff];simp
      have g01:((k:Int)==(m.body.length:Int)-1)=decide (k+1=m.body.length):=by rw [Bool.eq_iff_iff];simp;omega
      rcases ZfX hlt with⟨e1,HI⟩ | ⟨e1,e2,e3,HI⟩ | ⟨e1,e2,e3,e4,HI⟩ | ⟨e1,e2,e3,e4,HI⟩ | ⟨e1,e2,e4,e5,HI⟩ | ⟨e1,e2,e4,e5,e6,HI⟩ | ⟨e1,e2,e4,e5,e6,HI⟩ | ⟨e1,e2,e4,HI⟩
      ·have HF:=Qh (ZaZ hlt (by rw [HS.out,HI.out];simp))
       have f0:(0:Int)<(m.body[k].hidden.length:Int):=by omega
       have f01:0<m.body[k].hidden.length:=by omega
       have f02:decide ((0:Int)<(m.body[k].hidden.length:Int))=true:=decide_eq_true f0
       clear e1 hall
       go_wp2
       go_ret
       exact⟨Zad HF.out.symm,hbw2⟩
      ·have HF:=Qh (ZaZ hlt (by rw [HS.out,HI.out];simp))
       have f0:¬ (0:Int)<(m.body[k].hidden.length:Int):=by omega
       have f01:¬ 0<m.body[k].hidden.length:=by omega
       rw [decide_eq_true e2] at g00
       rw [e3] at p2
       clear e2 e3
       clear e1 hall
       go_wp2
       go_ret
       exact⟨Zad HF.out.symm,hbw2⟩
      ·have HF:=Qh (ZaZ hlt (by rw [HS.out,HI.out];simp))
       have f0:¬ (0:Int)<(m.body[k].hidden.length:Int):=by omega
       have f01:¬ 0<m.body[k].hidden.length:=by omega
       rw [decide_eq_true e2] at g00
       rw [e3] at p2
       have f4:=txt_t (l:=[35,35]) e4
       have E4:=Qh e4
       clear e4
       clear e2 e3
       clear e1 hall
       go_wp2
       go_ret
       exact⟨Zad HF.out.symm,hbw2⟩
      ·have f0:¬ (0:Int)<(m.body[k].hidden.length:Int):=by omega
       have f01:¬ 0<m.body[k].hidden.length:=by omega
       rw [decide_eq_true e2] at g00
       rw [e3] at p2
       have f4:=txt_f (l:=[35,35]) e4
       have E4:=Qh e4
       clear e4
       clear e1 e2 e3
       have HN:=Qh (hall.succ (by rw [HS.out,HI.out,hf];rfl))
       clear hall
       go_wp2
       go_quiet (fail)
       go_wp2
       go_roundw
       case rel=>first | exact⟨k+1,by omega,by go_num,HN.out,Zag hbq _⟩ | ((repeat apply Exists.intro);exact⟨⟨k+1,by omega,by go_num,HN.out,Zag hbq _⟩,rfl⟩)
       case measure=>simp [intOf];omega
      ·have HF:=Qh (ZaZ hlt (by rw [HS.out,HI.out];simp))
       have f0:¬ (0:Int)<(m.body[k].hidden.length:Int):=by omega
       have f01:¬ 0<m.body[k].hidden.length:=by omega
       rw [decide_eq_false e2] at g00
       have f4:=txt_t (l:=[35,35]) e4
       have E4:=Qh e4
       clear e4
       rw [decide_eq_true e5] at g01
       clear e2 e5
       clear e1 hall
       go_wp2
       go_ret
       exact⟨Zad HF.out.symm,hbw2⟩
      ·have HF:=Qh (ZaZ hlt (by rw [HS.out,HI.out];simp))
       have f0:¬ (0:Int)<(m.body[k].hidden.length:Int):=by omega
       have f01:¬ 0<m.body[k].hidden.length:=by omega
       rw [decide_eq_false e2] at g00
       have f4:=txt_t (l:=[35,35]) e4
       have E4:=Qh e4
       clear e4
       rw [decide_eq_false e5] at g01
       obtain⟨es2,hE2,hR2⟩:=he1 (k-1) (by omega)
       obtain⟨h9,rfl,-,-,-⟩:=hR2
       replace hE2:=hE2.frame (hbw2.block b1 hb1')
       have c21:w2.cell? ⟨b1,off1+(k-1) * 4+1,none⟩=some _:=Zae (j:=1) hE2 (by decide) rfl
       have h6:((k:Int)-1).toNat=k-1:=by omega
       have hwl:IntKind.i64.wrap ((k:Int)-1)=(k:Int)-1:=IntWalk.i64_in _ (by omega)
       have hi1:(0:Int)<=(k:Int)-1:=by omega
       have hi2:(k:Int)-1<(m.body.length:Int):=by omega
       clear hE2
       have f6:=txt_t (l:=[35,35]) e6
       clear e2 e5 e6
       clear e1 hall
       go_wp2
       go_ret
       exact⟨Zad HF.out.symm,hbw2⟩
      ·have f0:¬ (0:Int)<(m.body[k].hidden.length:Int):=by omega
       have f01:¬ 0<m.body[k].hidden.length:=by omega
       rw [decide_eq_false e2] at g00
       have f4:=txt_t (l:=[35,35]) e4
       have E4:=Qh e4
       clear e4
       rw [decide_eq_false e5] at g01
       obtain⟨es2,hE2,hR2⟩:=he1 (k-1) (by omega)
       obtain⟨h9,rfl,-,-,-⟩:=hR2
       replace hE2:=hE2.frame (hbw2.block b1 hb1')
       have c21:w2.cell? ⟨b1,off1+(k-1) * 4+1,none⟩=some _:=Zae (j:=1) hE2 (by decide) rfl
       have h6:((k:Int)-1).toNat=k-1:=by omega
       have hwl:IntKind.i64.wrap ((k:Int)-1)=(k:Int)-1:=IntWalk.i64_in _ (by omega)
       have hi1:(0:Int)<=(k:Int)-1:=by omega
       have hi2:(k:Int)-1<(m.body.length:Int):=by omega
       clear hE2
       have f6:=txt_f (l:=[35,35]) e6
       clear e1 e2 e5 e6
       have HN:=Qh (hall.succ (by rw [HS.out,HI.out,hf];rfl))
       clear hall
       go_wp2
       go_quiet (fail)
       go_wp2
       go_roundw
       case rel=>first | exact⟨k+1,by omega,by go_num,HN.out,Zag hbq _⟩ | ((repeat apply Exists.intro);exact⟨⟨k+1,by omega,by go_num,HN.out,Zag hbq _⟩,rfl⟩)
       case measure=>simp [intOf];omega
      ·have f0:¬ (0:Int)<(m.body[k].hidden.length:Int):=by omega
       have f01:¬ 0<m.body[k].hidden.length:=by omega
       rw [decide_eq_false e2] at g00
       have f4:=txt_f (l:=[35,35]) e4
       have E4:=Qh e4
       clear e4
       clear e1 e2
       have HN:=Qh (hall.succ (by rw [HS.out,HI.out,hf];rfl))
       clear hall
       go_wp2
       go_quiet (fail)
       go_wp2
       go_roundw
       case rel=>first | exact⟨k+1,by omega,by go_num,HN.out,Zag hbq _⟩ | ((repeat apply Exists.intro);exact⟨⟨k+1,by omega,by go_num,HN.out,Zag hbq _⟩,rfl⟩)
       case measure=>simp [intOf];omega
     ·have HF:=Qh (Zi7 HH.out HP.out (λ j hj=>hall j (by omega)))
      clear hall
      go_wp2
      go_ret
      exact⟨Zad HF.out.symm,hbw⟩
theorem Y6A1 {g:Prop} (h:g:=by
 by_cases e7:m.body[k].text=hash1
 ·have f7:=txt_t (l:=[35]) e7
  have E7:=Qh e7
  clear e7
  by_cases e8:k+1=m.body.length
  ·have HF:=Qh (ZaZ hlt (by rw [HS.out,HI.out,hf,Zmd hlt E7.out e8];rfl))
   rw [decide_eq_true e8] at g01
   clear e8 hall
   go_wp2
   go_quiet (fail)
   go_wp2
   go_ret
   exact⟨Zad HF.out.symm,Zag hbw2 _⟩
  ·have hk1:k+1<m.body.length:=by omega
   obtain⟨es3,hE3,hR3⟩:=he1 (k+1) hk1
   have hR3':=hR3
   obtain⟨h9,rfl,-,-,-⟩:=hR3
   replace hE3:=hE3.frame (hbw2.block b1 hb1')
   have c30:w2.cell? ⟨b1,off1+(k+1) * 4,none⟩=some _:=Zam hE3 (by decide) rfl
   have c31:w2.cell? ⟨b1,off1+(k+1) * 4+1,none⟩=some _:=Zae (j:=1) hE3 (by decide) rfl
   have c32:w2.cell? ⟨b1,off1+(k+1) * 4+2,none⟩=some _:=Zae (j:=2) hE3 (by decide) rfl
   have c33:w2.cell? ⟨b1,off1+(k+1) * 4+3,none⟩=some _:=Zae (j:=3) hE3 (by decide) rfl
   have HC:=Qh (λ W (hW:Below w2.heap.size w2 W)=>ZdY _ _ m m.body[k+1] _ _ W (HM.out W (hbw2.trans (hW.mono hbw2.size))) (sTok.below (sTok.below hR3' hbw2) hW))
   have h6:((k:Int)+1).toNat=k+1:=by omega
   have hwl:IntKind.i64.wrap ((k:Int)+1)=(k:Int)+1:=IntWalk.i64_in _ (by omega)
   have hi1:(0:Int)<=(k:Int)+1:=by omega
   have hi2:(k:Int)+1<(m.body.length:Int):=by omega
   rw [decide_eq_false e8] at g01
   clear hE3 hR3' e8 he1 hrow3
   go_wp2
   go_still_tail 19,(by kernel_rfl)
   change wpList _ _ _ _ _ w2.drew
   have hd:Below w2.heap.size w2 w2.drew:=Zag (Below.refl _ _) 1
   generalize w2.drew=w3 at *
   by_cases e9:parOf m.params m.body[k+1]<0
   ·have HF:=Qh (ZaZ hlt (by rw [HS.out,HI.out,hf,signS_no hk1 E7.out e9];rfl))
    clear hall
    go_wp2_with (go_at_call 96;refine (HC.out _ hd).mono ?_;rintro e w4 ⟨rfl,hb4⟩)
    go_ret
    exact⟨Zad HF.out.symm,(hbw2.trans (hd.mono hbw2.size)).trans (hb4.mono (Nat.le_trans hbw2.size hd.size))⟩
   ·have HN:=Qh (hall.succ (by rw [HS.out,HI.out,hf,Zm1 hk1 E7.out e9];rfl))
    clear hall
    go_wp2_with (go_at_call 96;refine (HC.out _ hd).mono ?_;rintro e w4 ⟨rfl,hb4⟩)
    go_roundw
    case rel=>first | exact⟨k+1,by omega,by go_num,HN.out,(hbq.trans (hd.mono hbq.size)).trans (hb4.mono (Nat.le_trans hbq.size hd.size))⟩ | ((repeat apply Exists.intro);exact⟨⟨k+1,by omega,by go_num,HN.out,(hbq.trans (hd.mono hbq.size)).trans (hb4.mono (Nat.le_trans hbq.size hd.size))⟩,rfl⟩)
    case measure=>simp [intOf];omega
 ·have f7:=txt_f (l:=[35]) e7
  have HN:=Qh (hall.succ (by rw [HS.out,HI.out,hf,ZgQ hlt e7];rfl))
  clear e7 hall
  go_wp2
  go_quiet (fail)
  go_wp2
  go_roundw
  case rel=>first | exact⟨k+1,by omega,by go_num,HN.out,Zag hbq _⟩ | ((repeat apply Exists.intro);exact⟨⟨k+1,by omega,by go_num,HN.out,Zag hbq _⟩,rfl⟩)
  case measure=>simp [intOf];omega):g:=h
theorem ZfF (m:DMacro) (h2 h3:Value) (fp2 fp3:List Nat) (w:World) (k0:okStr m.name) (K2:(Zaa sStr).R w [h2] m.params fp2) (K3:(Zaa sTok).R w [h3] m.body fp3) (hf:m.function=true) :
  Calls Tryz.prog 67 #[.agg #[.string m.name,.bool m.function,h2,h3]] w (Says (macOk m) w):=by
 obtain⟨a2,cap2,rfl,hc2,hm2,hcell2,hsz2⟩:=Zaf K2
 have K3':=K3
 obtain⟨a3,cap3,rfl,hc3,hm3,hrow3⟩:=Zac K3
 unfold maxLen at hm2 hm3
 rw [hf]
 have HN:=Qh (λ W=>ZeC m.name W k0)
 have hb0:=Zab w (.cells #[.string m.name,.bool true,.slice a2 m.params.length cap2,.slice a3 m.body.length cap3] 56)
 have HX:=Qh (heap_alloc_new w (.cells #[.string m.name,.bool true,.slice a2 m.params.length cap2,.slice a3 m.body.length cap3] 56))
 go_enter Tryz.func67,Tryz.ntmps67
 rcases Zi8 m with⟨g1,HF⟩ | ⟨g1,g2,HF⟩ | ⟨g1,g2,g3,HF⟩ | ⟨g1,g2,g3,g4,g5,HF⟩ | ⟨g1,g2,g3,g4,g5,HF⟩ | ⟨g1,g2,g3,g4,g5,HH⟩
 ·rw [g1] at HN
  clear g1
  go_wp2_with (go_at_call 95;refine (HN.out _).mono ?_;rintro e w1 ⟨rfl,hb1⟩)
  go_ret
  exact⟨Zad HF.out.symm,hb0.trans (hb1.mono hb0.size)⟩
 ·rw [g1] at HN
  have e2:=txt_t (l:=[100,101,102,105,110,101,100]) g2
  clear g1 g2
  go_wp2_with (go_at_call 95;refine (HN.out _).mono ?_;rintro e w1 ⟨rfl,hb1⟩;have q0:=Qc 0 ((hb1.block _ (Qg HX.out).1).trans HX.out))
  go_ret
  exact⟨Zad HF.out.symm,hb0.trans (hb1.mono hb0.size)⟩
 ·rw [g1] at HN
  have e2:=txt_f (l:=[100,101,102,105,110,101,100]) g2
  clear g1 g2
  go_wp2_with (go_at_call 95;refine (HN.out _).mono ?_;rintro e w1 ⟨rfl,hb1⟩;have q0:=Qc 0 ((hb1.block _ (Qg HX.out).1).trans HX.out);have q2:=Qc 2 ((hb1.block _ (Qg HX.out).1).trans HX.out))
  go_ret
  exact⟨Zad HF.out.symm,hb0.trans (hb1.mono hb0.size)⟩
 ·rw [hf] at g4;exact absurd g4 (by simp)
 ·rw [g1] at HN
  have e2:=txt_f (l:=[100,101,102,105,110,101,100]) g2
  clear g1 g2 g4
  go_wp2_with (go_at_call 95;refine (HN.out _).mono ?_;rintro e w1 ⟨rfl,hb1⟩;have q0:=Qc 0 ((hb1.block _ (Qg HX.out).1).trans HX.out);have q1:=Qc 1 ((hb1.block _ (Qg HX.out).1).trans HX.out);have q2:=Qc 2 ((hb1.block _ (Qg HX.out).1).trans HX.out);have q3:=Qc 3 ((hb1.block _ (Qg HX.out).1).trans HX.out))
  go_ret
  exact⟨Zad HF.out.symm,hb0.trans (hb1.mono hb0.size)⟩
 ·rw [g1] at HN
  have e2:=txt_f (l:=[100,101,102,105,110,101,100]) g2
  clear g1 g2 g4
  go_wp2_with (go_at_call 95;refine (HN.out _).mono ?_;rintro e w1 ⟨rfl,hb1⟩;have q0:=Qc 0 ((hb1.block _ (Qg HX.out).1).trans HX.out);have q1:=Qc 1 ((hb1.block _ (Qg HX.out).1).trans HX.out);have q2:=Qc 2 ((hb1.block _ (Qg HX.out).1).trans HX.out);have q3:=Qc 3 ((hb1.block _ (Qg HX.out).1).trans HX.out))
  have hB1:=hb0.trans (hb1.mono hb0.size)
  have HX1:=Qh ((hb1.block _ (Qg HX.out).1).trans HX.out)
  have HM:=Qh (λ W (hb:Below w.heap.size w W)=>sMacro.below (show sMacro.R w [.string m.name,.bool true,.slice a2 m.params.length cap2,.slice a3 m.body.length cap3] m (fp2++fp3) from⟨_,_,fp2,fp3,by rw [hf],k0,K2,K3,rfl⟩) hb)
  clear q0 q1 q2 q3 HN hb0 HX hb1 K3' K2 K3
  go_loopw [3] (λ i wr=>∃ k:Nat,k<=m.params.length/\i=.int .i64 k/\ParUpto m.params k/\Below w1.heap.size w1 wr) (λ i _=>m.params.length-(intOf i).toNat)
  case atStart=>exact⟨0,by omega,rfl,ParUpto.zero _,Below.refl _ _⟩
  case round =>
   obtain⟨k,hk,rfl,hall,hb⟩:=hrel
   have HX2:=Qh ((hb.block _ (Qg HX1.out).1).trans HX1.out)
   have q2:=Qc 2 HX2.out
   have q3:=Qc 3 HX2.out
   have hbw:=hB1.trans (hb.mono hB1.size)
   by_cases hlt:k<m.params.length
   ·obtain⟨b,off,rfl,hbl,_,hce⟩:=hcell2 (by omega)
    have hck:=(hbw.cell (p:=⟨b,off+k,none⟩) hbl).trans (hce k hlt)
    have HN:=Qh (λ W=>ZeC m.params[k] W (hsz2 k hlt))
    cases h1:Zak m.params[k] 1
    ·rw [h1] at HN
     have HF:=Qh (Zi6 hlt (par_name hlt h1))
     clear h1 hce hall
     go_wp2_with (go_at_call 95;refine (HN.out _).mono ?_;rintro e w2 ⟨rfl,hb2⟩)
     go_ret
     exact⟨Zad HF.out.symm,hbw.trans (hb2.mono hbw.size)⟩
    ·rw [h1] at HN
     have H1:=Qh h1
     clear h1
     go_wp2_with (go_at_call 95;refine (HN.out _).mono ?_;rintro e w2 ⟨rfl,hb2⟩)
     have HX3:=Qh ((hb2.block _ (Qg HX2.out).1).trans HX2.out)
     have hb12:=hb.trans (hb2.mono hb.size)
     clear q2 q3 hck HX2
     go_loopw [4] (λ i wr=>∃ j:Nat,j<=k/\i=.int .i64 j/\NotUpto m.params m.params[k] j/\Below w2.heap.size w2 wr) (λ i _=>k-(intOf i).toNat)
     case atStart=>exact⟨0,by omega,rfl,NotUpto.zero _ _,Below.refl _ _⟩
     case round =>
      obtain⟨j,hj,rfl,hnot,hb3⟩:=hrel
      have HX4:=Qh ((hb3.block _ (Qg HX3.out).1).trans HX3.out)
      have hb13:=hb12.trans (hb3.mono hb12.size)
      have hbw3:=hB1.trans (hb13.mono hB1.size)
      have q2:=Qc 2 HX4.out
      by_cases hjk:j<k
      ·have hcj:=(hbw3.cell (p:=⟨b,off+j,none⟩) hbl).trans (hce j (by omega))
       have hck:=(hbw3.cell (p:=⟨b,off+k,none⟩) hbl).trans (hce k hlt)
       by_cases e:m.params[j]=m.params[k]
       ·have e':=Zbm e
        have HF:=Qh (Zi6 hlt (Zm0 hlt hjk e))
        clear e hce hall hnot
        go_wp2
        go_quiet (fail)
        go_wp2
        go_ret
        exact⟨Zad HF.out.symm,Zag hbw3 _⟩
       ·have e':(m.params[j].toList==m.params[k].toList)=false:=ZbH e
        have HG:=Qh (hnot.succ (by omega) e)
        clear e hce hall hnot
        go_wp2
        go_quiet (fail)
        go_wp2
        go_roundw
        case rel=>exact⟨j+1,by omega,by go_num,HG.out,Zag hb3 _⟩
        case measure=>simp [intOf];omega
      ·have hjk':j=k:=by omega
       subst hjk'
       have HG:=Qh (hall.succ (par_yes hlt H1.out hnot))
       clear hce hall hnot
       go_wp2
       go_roundw
       case rel=>exact⟨j+1,by omega,by go_num,HG.out,hb13⟩
       case measure=>simp [intOf];omega
   ·have HP:=Qh (show ParUpto m.params m.params.length from λ j hj=>hall j (by omega))
    have hz:decide (k<m.params.length)=false:=decide_eq_false hlt
    clear hall hk
    go_wp2
    try rw [hz]
    clear q2 q3 HX2 hbw hlt hz
    go_loopw [6] (λ i wr=>∃ k:Nat,k<=m.body.length/\i=.int .i64 k/\BodUpto (bodOk m) k/\Below w1.heap.size w1 wr) (λ i _=>m.body.length-(intOf i).toNat)
    case atStart=>exact⟨0,by omega,rfl,BodUpto.zero _,hb⟩
    case round =>
     clear hb
     obtain⟨k,hk,rfl,hall,hb⟩:=hrel
     have HX3:=Qh ((hb.block _ (Qg HX1.out).1).trans HX1.out)
     have q3:=Qc 3 HX3.out
     have hbw:=hB1.trans (hb.mono hB1.size)
     by_cases hlt:k<m.body.length
     ·obtain⟨b1,off1,fps1,rfl,hb1',-,he1⟩:=hrow3 (by omega)
      obtain⟨es1,hE1,hR1⟩:=he1 k hlt
      have hR1':=hR1
      obtain⟨hh,rfl,-,-,K1⟩:=hR1
      obtain⟨ah,caph,rfl,-⟩:=Zac K1
      replace hE1:=hE1.frame (hbw.block b1 hb1')
      have c10:wr.cell? ⟨b1,off1+k * 4,none⟩=some _:=Zam hE1 (by decide) rfl
      have c11:wr.cell? ⟨b1,off1+k * 4+1,none⟩=some _:=Zae (j:=1) hE1 (by decide) rfl
      have c12:wr.cell? ⟨b1,off1+k * 4+2,none⟩=some _:=Zae (j:=2) hE1 (by decide) rfl
      have c13:wr.cell? ⟨b1,off1+k * 4+3,none⟩=some _:=Zae (j:=3) hE1 (by decide) rfl
      have hbx:Below wr.heap.size wr (wr.alloc (.cells #[.int .i64 m.body[k].kind,.string m.body[k].text,.bool m.body[k].spaced,.slice ah m.body[k].hidden.length caph] 32)):=Zab _ _
      have HT:=Qh (heap_alloc_new wr (.cells #[.int .i64 m.body[k].kind,.string m.body[k].text,.bool m.body[k].spaced,.slice ah m.body[k].hidden.length caph] 32))
      have HV:=Qh (λ W (hW:Below (wr.alloc (.cells #[.int .i64 m.body[k].kind,.string m.body[k].text,.bool m.body[k].spaced,.slice ah m.body[k].hidden.length caph] 32)).heap.size (wr.alloc (.cells #[.int .i64 m.body[k].kind,.string m.body[k].text,.bool m.body[k].spaced,.slice ah m.body[k].hidden.length caph] 32)) W)=>ZbJ _ _ _ W (sTok.below (sTok.below (sTok.below hR1' hbw) hbx) hW))
      clear K1 hR1' hE1
      go_wp2_with fail
      refine (HV.out _ (Below.refl _ _)).mono ?_
      rintro e w2 ⟨rfl,hb2⟩
      have HT2:=Qh ((hb2.block _ (Qg HT.out).1).trans HT.out)
      have hb02:=hbx.trans (hb2.mono hbx.size)
      have hbq:=hb.trans (hb02.mono hb.size)
      have hbw2:=hB1.trans (hbq.mono hB1.size)
      have HX4:=Qh ((hb02.block _ (Qg HX3.out).1).trans HX3.out)
      have p1:=Qc 1 HT2.out
      have p2:=Qc 2 HT2.out
      have p3:=Qc 3 HT2.out
      clear q3 c10 c11 c12 c13 HV HT hb2 HX3 hbx hb02 hbw hb
      have q0:=Qc 0 HX4.out
      have q1:=Qc 1 HX4.out
      have q2:=Qc 2 HX4.out
      have q3:=Qc 3 HX4.out
      cases hv:tokOk m.body[k]
      ·have HF:=Qh (ZaZ hlt (by rw [Zcz _ _ hlt,hv];rfl))
       clear hv hall
       go_wp2
       go_ret
       exact⟨Zad HF.out.symm,hbw2⟩
      have HS:=Qh (Zcz m k hlt)
      rw [hv] at HS
      clear hv
      have g00:((k:Int)==0)=decide (k=0):=by rw [Bool.eq_iff_iff];simp
      have g01:((k:Int)==(m.body.length:Int)-1)=decide (k+1=m.body.length):=by rw [Bool.eq_iff_iff];simp;omega
      rcases ZfX hlt with⟨e1,HI⟩ | ⟨e1,e2,e3,HI⟩ | ⟨e1,e2,e3,e4,HI⟩ | ⟨e1,e2,e3,e4,HI⟩ | ⟨e1,e2,e4,e5,HI⟩ | ⟨e1,e2,e4,e5,e6,HI⟩ | ⟨e1,e2,e4,e5,e6,HI⟩ | ⟨e1,e2,e4,HI⟩
      ·have HF:=Qh (ZaZ hlt (by rw [HS.out,HI.out];simp))
       have f0:(0:Int)<(m.body[k].hidden.length:Int):=by omega
       have f01:0<m.body[k].hidden.length:=by omega
       have f02:decide ((0:Int)<(m.body[k].hidden.length:Int))=true:=decide_eq_true f0
       clear e1 hall
       go_wp2
       go_ret
       exact⟨Zad HF.out.symm,hbw2⟩
      ·have HF:=Qh (ZaZ hlt (by rw [HS.out,HI.out];simp))
       have f0:¬ (0:Int)<(m.body[k].hidden.length:Int):=by omega
       have f01:¬ 0<m.body[k].hidden.length:=by omega
       rw [decide_eq_true e2] at g00
       rw [e3] at p2
       clear e2 e3
       clear e1 hall
       go_wp2
       go_ret
       exact⟨Zad HF.out.symm,hbw2⟩
      ·have HF:=Qh (ZaZ hlt (by rw [HS.out,HI.out];simp))
       have f0:¬ (0:Int)<(m.body[k].hidden.length:Int):=by omega
       have f01:¬ 0<m.body[k].hidden.length:=by omega
       rw [decide_eq_true e2] at g00
       rw [e3] at p2
       have f4:=txt_t (l:=[35,35]) e4
       have E4:=Qh e4
       clear e4
       clear e2 e3
       clear e1 hall
       go_wp2
       go_ret
       exact⟨Zad HF.out.symm,hbw2⟩
      ·have f0:¬ (0:Int)<(m.body[k].hidden.length:Int):=by omega
       have f01:¬ 0<m.body[k].hidden.length:=by omega
       rw [decide_eq_true e2] at g00
       rw [e3] at p2
       have f4:=txt_f (l:=[35,35]) e4
       have E4:=Qh e4
       clear e4
       clear e1 e2 e3
       exact Y6A1
      ·have HF:=Qh (ZaZ hlt (by rw [HS.out,HI.out];simp))
       have f0:¬ (0:Int)<(m.body[k].hidden.length:Int):=by omega
       have f01:¬ 0<m.body[k].hidden.length:=by omega
       rw [decide_eq_false e2] at g00
       have f4:=txt_t (l:=[35,35]) e4
       have E4:=Qh e4
       clear e4
       rw [decide_eq_true e5] at g01
       clear e2 e5
       clear e1 hall
       go_wp2
       go_ret
       exact⟨Zad HF.out.symm,hbw2⟩
      ·have HF:=Qh (ZaZ hlt (by rw [HS.out,HI.out];simp))
       have f0:¬ (0:Int)<(m.body[k].hidden.length:Int):=by omega
       have f01:¬ 0<m.body[k].hidden.length:=by omega
       rw [decide_eq_false e2] at g00
       have f4:=txt_t (l:=[35,35]) e4
       have E4:=Qh e4
       clear e4
       rw [decide_eq_false e5] at g01
       obtain⟨es2,hE2,hR2⟩:=he1 (k-1) (by omega)
       obtain⟨h9,rfl,-,-,-⟩:=hR2
       replace hE2:=hE2.frame (hbw2.block b1 hb1')
       have c21:w2.cell? ⟨b1,off1+(k-1) * 4+1,none⟩=some _:=Zae (j:=1) hE2 (by decide) rfl
       have h6:((k:Int)-1).toNat=k-1:=by omega
       have hwl:IntKind.i64.wrap ((k:Int)-1)=(k:Int)-1:=IntWalk.i64_in _ (by omega)
       have hi1:(0:Int)<=(k:Int)-1:=by omega
       have hi2:(k:Int)-1<(m.body.length:Int):=by omega
       clear hE2
       have f6:=txt_t (l:=[35,35]) e6
       clear e2 e5 e6
       clear e1 hall
       go_wp2
       go_ret
       exact⟨Zad HF.out.symm,hbw2⟩
      ·have f0:¬ (0:Int)<(m.body[k].hidden.length:Int):=by omega
       have f01:¬ 0<m.body[k].hidden.length:=by omega
       rw [decide_eq_false e2] at g00
       have f4:=txt_t (l:=[35,35]) e4
       have E4:=Qh e4
       clear e4
       rw [decide_eq_false e5] at g01
       obtain⟨es2,hE2,hR2⟩:=he1 (k-1) (by omega)
       obtain⟨h9,rfl,-,-,-⟩:=hR2
       replace hE2:=hE2.frame (hbw2.block b1 hb1')
       have c21:w2.cell? ⟨b1,off1+(k-1) * 4+1,none⟩=some _:=Zae (j:=1) hE2 (by decide) rfl
       have h6:((k:Int)-1).toNat=k-1:=by omega
       have hwl:IntKind.i64.wrap ((k:Int)-1)=(k:Int)-1:=IntWalk.i64_in _ (by omega)
       have hi1:(0:Int)<=(k:Int)-1:=by omega
       have hi2:(k:Int)-1<(m.body.length:Int):=by omega
       clear hE2
       have f6:=txt_f (l:=[35,35]) e6
       clear e1 e2 e5 e6
       by_cases e7:m.body[k].text=hash1
       ·exact absurd (e7.symm.trans E4.out) (by decide)
       ·have f7:=txt_f (l:=[35]) e7
        have HN:=Qh (hall.succ (by rw [HS.out,HI.out,hf,ZgQ hlt e7];rfl))
        clear e7 hall
        go_wp2
        go_quiet (fail)
        go_wp2
        go_roundw
        case rel=>first | exact⟨k+1,by omega,by go_num,HN.out,Zag hbq _⟩ | ((repeat apply Exists.intro);exact⟨⟨k+1,by omega,by go_num,HN.out,Zag hbq _⟩,rfl⟩)
        case measure=>simp [intOf];omega
      ·have f0:¬ (0:Int)<(m.body[k].hidden.length:Int):=by omega
       have f01:¬ 0<m.body[k].hidden.length:=by omega
       rw [decide_eq_false e2] at g00
       have f4:=txt_f (l:=[35,35]) e4
       have E4:=Qh e4
       clear e4
       clear e1 e2
       exact Y6A1
     ·have HF:=Qh (Zi7 HH.out HP.out (λ j hj=>hall j (by omega)))
      clear hall
      go_wp2
      go_ret
      exact⟨Zad HF.out.symm,hbw⟩
structure Rd (w:World) (rb:Nat) (p:Nat):Prop where
 mk ::
 ex:∃ (a:Option Addr) (l:List UInt8) (cap:Nat) (fp:List Nat),w.heap[rb]?=some (.cells #[.slice a l.length cap,.int .i64 p] 92 (0,0))/\(Zaa sByte).R w [.slice a l.length cap] l fp/\Under rb fp/\l.length<=2000
 hp:p<=1000000
theorem Rd.step {w:World} {rb p:Nat} (H:Rd w rb p) (hp:p<1000000):Rd (w.setCell ⟨rb,1,none⟩ (.int .i64 ((p:Int)+1))) rb (p+1)/\Kept [rb] w (w.setCell ⟨rb,1,none⟩ (.int .i64 ((p:Int)+1))):=by
 obtain⟨⟨a,l,cap,fp,hb,hr,hu,hl⟩,hp'⟩:=H
 have hk:Kept [rb] w (w.setCell ⟨rb,1,none⟩ (.int .i64 ((p:Int)+1))):=(Kept.refl _ _).setCell (by simp) _
 refine ⟨⟨⟨a,l,cap,fp,?_,(Zaa sByte).kept hr (λ b hb'=>by have:=hu b hb';simp;omega) hk,hu,hl⟩,by omega⟩,hk⟩
 simp [World.setCell,Array.getElem?_modify,hb]
def Picked (rb p:Nat) (n:Int) (w:World) (e:Ending) (w':World):Prop:=
 ∃ r:Int,e=.returned (.int .i64 r)/\0<=r/\(r<n\/n<1/\r=0)/\Rd w' rb (p+1)/\Kept [rb] w w'
theorem Picked.of {rb p:Nat} {n r:Int} {w:World} (H:Rd w rb p) (hp:p<1000000) (h0:0<=r) (h1:r<n\/n<1/\r=0) (m:Nat) :
  Picked rb p n w (.returned (.int .i64 r)) ((w.setCell ⟨rb,1,none⟩ (.int .i64 ((p:Int)+1))).drewN m):=
 ⟨r,rfl,h0,h1,⟨(H.step hp).1.ex,(H.step hp).1.hp⟩,(H.step hp).2.drewN m⟩
theorem Rd.grow {w w':World} {rb p:Nat} (H:Rd w rb p) (hb:Below w.heap.size w w'):Rd w' rb p:=by
 obtain⟨⟨a,l,cap,fp,h1,h2,h3,h4⟩,h5⟩:=H
 exact⟨⟨a,l,cap,fp,(hb.block rb (Qg h1).1).trans h1,(Zaa sByte).below h2 hb,h3,h4⟩,h5⟩
theorem Rd.lt {w:World} {rb p:Nat} (H:Rd w rb p):rb<w.heap.size:=by
 obtain⟨⟨a,l,cap,fp,h1,h2,h3,h4⟩,h5⟩:=H
 exact(Qg h1).1
theorem Zme {B rb:Nat} {w0 w w':World} (hb:Below B w0 w) (hk:Kept [rb] w w') (hr:B<=rb) (hs:B<=w.heap.size):Below B w0 w':=
 hb.trans (hk.below (λ b hb=>by
  obtain rfl:b=rb:=by simpa using hb
  exact hr) hs)
theorem Kept.cell {fp:List Nat} {w w':World} (hk:Kept fp w w') {p:Addr} (h1:p.block<w.heap.size) (h2:p.block∉fp):w'.cell? p=w.cell? p:=
 World.cell?_of_block (hk.block p.block h1 h2)
def Opened (B:Nat) (w0:World) (e:Ending) (w':World):Prop:=∃ rb,e=.returned (.pointer (some ⟨rb,0,none⟩))/\B<=rb/\Rd w' rb 0/\Below B w0 w'
theorem Zcr {α:Type} {S:Shape α} {w:World} {a:Option Addr} {cap:Nat} {l:List α} {fp:List Nat} (n:Nat) (hn:n<=l.length) (H:(Zaa S).R w [.slice a l.length cap] l fp) :
  ∃ fp',(Zaa S).R w [.slice a n cap] (l.take n) fp'/\∀ b∈fp',b∈fp:=by
 obtain⟨a',cap',hv,hc,hm,h⟩:=H
 simp only [List.cons.injEq,Value.slice.injEq,and_true,true_and] at hv
 obtain⟨rfl,rfl⟩:=hv
 have hl:(l.take n).length=n:=by simp;omega
 by_cases h0:n=0
 ·subst h0
  exact⟨[],⟨a,cap,by simp,by simp,hm,.inl ⟨by simp,rfl⟩⟩,by simp⟩
 ·rcases h with⟨rfl,_⟩ | ⟨_,b,off,fps,ha,rfl,hb,he⟩
  ·simp at hn;omega
  ·refine ⟨b::(List.range n).flatMap fps,⟨a,cap,by rw [hl],by omega,hm,.inr ⟨by omega,b,off,fps,ha,by rw [hl],hb,λ i hi=>?_⟩⟩,?_⟩
   ·rw [hl] at hi
    obtain⟨es,h1,h2⟩:=he i (by omega)
    exact⟨es,h1,by rw [List.getElem_take];exact h2⟩
   ·intro x hx
    rcases List.mem_cons.1 hx with rfl | hx
    ·simp
    ·obtain⟨i,hi,hx⟩:=List.mem_flatMap.1 hx
     refine List.mem_cons_of_mem _ (List.mem_flatMap.2 ⟨i,?_,hx⟩)
     simp only [List.mem_range] at hi ⊢
     omega
theorem Opened.of {v:Value} {l:List UInt8} {a:Option Addr} {cap:Nat} {fp:List Nat} {w:World} (hv:v=.slice a l.length cap) (H:(Zaa sByte).R w [v] l fp) (hl:l.length<=2000) :
  Opened w.heap.size w (.returned (.pointer (some ⟨w.heap.size,0,none⟩))) (w.alloc (.cells #[v,.int .i64 0] 92)):=by
 subst hv
 have hb:Below w.heap.size w (w.alloc (.cells #[.slice a l.length cap,.int .i64 0] 92)):=(Below.refl _ _).alloc (Nat.le_refl _) _
 refine ⟨w.heap.size,rfl,Nat.le_refl _,⟨⟨a,l,cap,fp,?_,(Zaa sByte).below H hb,(Zaa sByte).lt H,hl⟩,by omega⟩,hb⟩
 show (w.heap.push _)[w.heap.size]?=_
 simp
def idxTx (ps:List ByteArray) (x:ByteArray) (k:Nat):Int:=if h:k<ps.length then (if x=ps[k] then (k:Int) else idxTx ps x (k+1)) else -1
termination_by ps.length-k
theorem Zin {ps:List ByteArray} {x:ByteArray} {k:Nat} (h:ps.length<=k):idxTx ps x k=-1:=by rw [idxTx,dif_neg (by omega)]
theorem Zio {ps:List ByteArray} {x:ByteArray} {k:Nat} (h:k<ps.length) (h1:x=ps[k]):idxTx ps x k=k:=by rw [idxTx,dif_pos h,if_pos h1]
theorem Zhc {ps:List ByteArray} {x:ByteArray} {k:Nat} (h:k<ps.length) (h1:x≠ps[k]):idxTx ps x k=idxTx ps x (k+1):=by rw [idxTx,dif_pos h,if_neg h1]
theorem idx_has (ps:List ByteArray) (x:ByteArray) (k:Nat):decide (0<=idxTx ps x k)=hasTx (ps.drop k) x:=by
 induction k using idxTx.induct (ps:=ps) (x:=x) with
 |
  case1 k h hc =>
  rw [Zio h hc,List.drop_eq_getElem_cons h]
  unfold hasTx
  rw [List.any_cons,decide_eq_true hc.symm,Bool.true_or,decide_eq_true (by omega)]
 |
  case2 k h hc ih =>
  have hc':¬ ps[k]=x:=λ e=>hc e.symm
  rw [Zhc h hc,ih,List.drop_eq_getElem_cons h]
  unfold hasTx
  rw [List.any_cons,decide_eq_false hc',Bool.false_or]
 | case3 k h=>rw [Zin (by omega),List.drop_eq_nil_iff.2 (by omega)];rfl
theorem idx_has0 (ps:List ByteArray) (x:ByteArray):decide (0<=idxTx ps x 0)=hasTx ps x:=idx_has ps x 0
theorem ZfZ (v:Value) (l:List ByteArray) (fp:List Nat) (x:ByteArray) (w:World) (H:(Zaa sStr).R w [v] l fp) :
  Calls Tryz.prog 116 #[v,.string x] w λ e w'=>e=.returned (.int .i64 (idxTx l x 0))/\w'=w:=by
 obtain⟨a,cap,rfl,hc,hm,hcell,hsz⟩:=Zaf H
 unfold maxLen at hm
 clear H
 go_enter Tryz.func116,Tryz.ntmps116
 go_wp2
 go_loopw [8] (λ i wr=>∃ k:Nat,k<=l.length/\i=.int .i64 k/\Hid (idxTx l x 0=idxTx l x k)/\wr=w) (λ i _=>l.length-(intOf i).toNat)
 case atStart=>exact⟨0,by omega,rfl,rfl,rfl⟩
 case round =>
  obtain⟨k,hk,rfl,HP,rfl⟩:=hrel
  by_cases hlt:k<l.length
  ·obtain⟨b,off,rfl,hbl,_,hc2⟩:=hcell (by omega)
   have hck:=hc2 k hlt
   clear hcell hc2
   by_cases e:x=l[k]
   ·have g:=Zbm e
    have HF:=Qh (Zio hlt e)
    clear e
    go_wp2
    go_ret
    exact⟨Za5 (by rw [HP.out,HF.out]),by first | rfl | trivial⟩
   ·have g:(x.toList==l[k].toList)=false:=ZbH e
    have HF:=Qh (Zhc hlt e)
    clear e
    go_wp2
    go_roundw
    case rel=>exact⟨k+1,by omega,by go_num,by show _=_;rw [HP.out,HF.out],by first | rfl | trivial⟩
    case measure=>simp [intOf];omega
  ·have HF:=Qh (Zin (x:=x) (by omega:l.length<=k))
   go_wp2
   go_ret
   exact⟨Za5 (by rw [HP.out,HF.out]),by first | rfl | trivial⟩
theorem ZdZ (v:Value) (l:List ByteArray) (fp:List Nat) (x:ByteArray) (w:World) (H:(Zaa sStr).R w [v] l fp) :
  Calls Tryz.prog 87 #[v,.string x] w λ e w'=>e=.returned (.bool (hasTx l x))/\w'=w:=by
 have HC:=Qh (ZfZ v l fp x w H)
 have HF:=Qh (idx_has0 l x)
 clear H
 go_enter Tryz.func87,Tryz.ntmps87
 go_wp2_with (go_at_call 116;refine HC.out.mono ?_;rintro e w' ⟨rfl,rfl⟩)
 go_ret
 exact⟨Zad HF.out,by first | rfl | trivial⟩
theorem par_take {ps:List ByteArray} {k:Nat} (hk:k<ps.length):parOk ps k=(Zak ps[k] 1 && !hasTx (ps.take k) ps[k]):=by
 unfold parOk
 rw [dif_pos hk]
 congr 1
 cases h:hasTx (ps.take k) ps[k]
 ·rw [Bool.not_false,List.all_eq_true]
  intro j hj
  have hj':j<k:=by simpa using hj
  rw [List.getElem?_eq_getElem (by omega),Bool.not_eq_true',decide_eq_false_iff_not]
  intro e
  have:hasTx (ps.take k) ps[k]=true:=hasTx_iff.2 (by rw [← Option.some.inj e];exact List.mem_take_iff_getElem.2 ⟨j,by omega,rfl⟩)
  rw [h] at this
  exact absurd this (by simp)
 ·rw [Bool.not_true,List.all_eq_false]
  obtain⟨j,hj,he⟩:=List.mem_take_iff_getElem.1 (hasTx_iff.1 h)
  exact⟨j,by simp;omega,by rw [List.getElem?_eq_getElem (by omega),he];simp⟩
theorem Zk8 {ps:List ByteArray} (h:4<ps.length):Zcf ps=false:=by unfold Zcf;rw [decide_eq_false (by omega)];rfl
theorem Zi9 {ps:List ByteArray} {k:Nat} (hk:k<ps.length) (h:parOk ps k=false):Zcf ps=false:=by unfold Zcf;rw [Zc9 hk h,Bool.and_false]
theorem Zmf {ps:List ByteArray} (hl:ps.length<=4) (h:ParUpto ps ps.length):Zcf ps=true:=by unfold Zcf;rw [Zce h,decide_eq_true hl];rfl
theorem Zhd (v:Value) (l:List ByteArray) (fp:List Nat) (w:World) (H:(Zaa sStr).R w [v] l fp) :
  Calls Tryz.prog 81 #[v] w (Says (Zcf l) w):=by
 have H':=H
 obtain⟨a,cap,rfl,hc,hm,hcell,hsz⟩:=Zaf H
 unfold maxLen at hm
 clear H
 by_cases hl:4<l.length
 ·have HF:=Qh (Zk8 hl)
  go_enter Tryz.func81,Tryz.ntmps81
  go_wp2
  go_ret
  exact⟨Zad HF.out.symm,Below.refl _ _⟩
 go_enter Tryz.func81,Tryz.ntmps81
 go_wp2
 go_loopw [10] (λ i wr=>∃ k:Nat,k<=l.length/\i=.int .i64 k/\ParUpto l k/\Below w.heap.size w wr) (λ i _=>l.length-(intOf i).toNat)
 case atStart=>exact⟨0,by omega,rfl,ParUpto.zero _,Below.refl _ _⟩
 case round =>
  obtain⟨k,hk,rfl,hall,hb⟩:=hrel
  by_cases hlt:k<l.length
  ·obtain⟨b,off,rfl,hbl,_,hc2⟩:=hcell (by omega)
   have hck:=(hb.cell (p:=⟨b,off+k,none⟩) hbl).trans (hc2 k hlt)
   have HC:=Qh (λ W=>Zcb l[k] 1 W (hsz k hlt))
   obtain⟨fpt,HT,-⟩:=Zcr k hk H'
   have HD:=Qh (λ W (hW:Below wr.heap.size wr W)=>ZdZ _ _ _ l[k] W ((Zaa sStr).below ((Zaa sStr).below HT hb) hW))
   have hpk:=par_take hlt
   clear hcell hc2 HT H'
   cases h1:Zak l[k] 1
   ·rw [h1] at HC hpk
    have HF:=Qh (Zi9 hlt (hpk.trans rfl))
    clear h1 hpk hall HD
    go_wp2_with (go_at_call 79;refine (HC.out _).mono ?_;rintro e w1 ⟨rfl,hb1⟩)
    go_ret
    exact⟨Zad HF.out.symm,hb.trans (hb1.mono hb.size)⟩
   ·rw [h1] at HC hpk
    clear h1
    go_wp2_with fail
    refine (HC.out _).mono ?_
    rintro e w1 ⟨rfl,hb1⟩
    go_wp2_with fail
    refine (HD.out _ hb1).mono ?_
    rintro e w2 ⟨rfl,rfl⟩
    have hbq:=hb.trans (hb1.mono hb.size)
    cases h2:hasTx (l.take k) l[k]
    ·rw [h2] at hpk
     have HN:=Qh (hall.succ (hpk.trans rfl))
     clear h2 hpk hall hck HD HC hb1
     go_wp2
     go_roundw
     case rel=>exact⟨k+1,by omega,by go_num,HN.out,hbq⟩
     case measure=>simp [intOf];omega
    ·rw [h2] at hpk
     have HF:=Qh (Zi9 hlt (hpk.trans rfl))
     clear h2 hpk hall hck HD HC hb1
     go_wp2
     go_ret
     exact⟨Zad HF.out.symm,hbq⟩
  ·have HF:=Qh (Zmf (by omega) (λ j hj=>hall j (by omega)))
   clear hall
   go_wp2
   go_ret
   exact⟨Zad HF.out.symm,hb⟩
theorem Zmg {b:List Tok} (h:20<b.length):ZaW b=false:=by unfold ZaW;rw [decide_eq_false (by omega)];rfl
theorem Zmh {b:List Tok} (h:Zaj b=false):ZaW b=false:=by unfold ZaW;rw [h];simp
theorem Zd0 {b:List Tok} {k:Nat} (hk:k<b.length) (h:bodI b k=false):ZaW b=false:=by unfold ZaW;rw [Zc9 hk h,Bool.and_false]
theorem Zm3 {b:List Tok} (h1:b.length<=20) (h2:Zaj b=true) (h3:BodUpto (bodI b) b.length):ZaW b=true:=by unfold ZaW;rw [Zce h3,decide_eq_true h1,h2];rfl
theorem Zip (v:Value) (l:List Tok) (fp:List Nat) (w:World) (H:(Zaa sTok).R w [v] l fp) :
  Calls Tryz.prog 80 #[v] w (Says (ZaW l) w):=by
 have HV:=Qh (Zbg v l fp w H)
 obtain⟨a,cap,rfl,hc,hm,hrow⟩:=Zac H
 unfold maxLen at hm
 clear H
 by_cases hl:20<l.length
 ·have HF:=Qh (Zmg hl)
  go_enter Tryz.func80,Tryz.ntmps80
  go_wp2
  go_ret
  exact⟨Zad HF.out.symm,Below.refl _ _⟩
 cases hv:Zaj l
 ·rw [hv] at HV
  have HF:=Qh (Zmh hv)
  clear hv
  go_enter Tryz.func80,Tryz.ntmps80
  go_wp2_with (go_at_call 35;refine HV.out.mono ?_;rintro e w1 ⟨rfl,hb1⟩)
  go_ret
  exact⟨Zad HF.out.symm,hb1⟩
 rw [hv] at HV
 have HTV:=Qh hv
 clear hv
 go_enter Tryz.func80,Tryz.ntmps80
 go_wp2_with (go_at_call 35;refine HV.out.mono ?_;rintro e w1 ⟨rfl,hb1⟩)
 go_loopw [15] (λ i wr=>∃ k:Nat,k<=l.length/\i=.int .i64 k/\BodUpto (bodI l) k/\Below w.heap.size w wr) (λ i _=>l.length-(intOf i).toNat)
 case atStart=>exact⟨0,by omega,rfl,BodUpto.zero _,hb1⟩
 case round =>
  clear hb1
  obtain⟨k,hk,rfl,hall,hb⟩:=hrel
  by_cases hlt:k<l.length
  ·obtain⟨b1,off1,fps1,rfl,hb1',-,he1⟩:=hrow (by omega)
   obtain⟨es1,hE1,hR1⟩:=he1 k hlt
   obtain⟨hh,rfl,-,-,K1⟩:=hR1
   obtain⟨ah,caph,rfl,-⟩:=Zac K1
   replace hE1:=hE1.frame (hb.block b1 hb1')
   have c10:wr.cell? ⟨b1,off1+k * 4,none⟩=some _:=Zam hE1 (by decide) rfl
   have c11:wr.cell? ⟨b1,off1+k * 4+1,none⟩=some _:=Zae (j:=1) hE1 (by decide) rfl
   have c12:wr.cell? ⟨b1,off1+k * 4+2,none⟩=some _:=Zae (j:=2) hE1 (by decide) rfl
   have c13:wr.cell? ⟨b1,off1+k * 4+3,none⟩=some _:=Zae (j:=3) hE1 (by decide) rfl
   have hbx:Below wr.heap.size wr (wr.alloc (.cells #[.int .i64 l[k].kind,.string l[k].text,.bool l[k].spaced,.slice ah l[k].hidden.length caph] 32)):=Zab _ _
   have HT:=Qh (heap_alloc_new wr (.cells #[.int .i64 l[k].kind,.string l[k].text,.bool l[k].spaced,.slice ah l[k].hidden.length caph] 32))
   have hbq:=hb.trans (hbx.mono hb.size)
   clear K1 hE1
   have g00:((k:Int)==0)=decide (k=0):=by rw [Bool.eq_iff_iff];simp
   have g01:((k:Int)==(l.length:Int)-1)=decide (k+1=l.length):=by rw [Bool.eq_iff_iff];simp;omega
   rcases ZfX hlt with⟨e1,HI⟩ | ⟨e1,e2,e3,HI⟩ | ⟨e1,e2,e3,e4,HI⟩ | ⟨e1,e2,e3,e4,HI⟩ | ⟨e1,e2,e4,e5,HI⟩ | ⟨e1,e2,e4,e5,e6,HI⟩ | ⟨e1,e2,e4,e5,e6,HI⟩ | ⟨e1,e2,e4,HI⟩
   ·have HF:=Qh (Zd0 hlt HI.out)
    have f0:(0:Int)<(l[k].hidden.length:Int):=by omega
    have f01:0<l[k].hidden.length:=by omega
    have f02:decide ((0:Int)<(l[k].hidden.length:Int))=true:=decide_eq_true f0
    clear e1
    clear hall
    go_wp2
    go_ret
    exact⟨Zad HF.out.symm,hb.trans ((Zab wr _).mono hb.size)⟩
   ·have HF:=Qh (Zd0 hlt HI.out)
    have f0:¬ (0:Int)<(l[k].hidden.length:Int):=by omega
    have f01:¬ 0<l[k].hidden.length:=by omega
    rw [decide_eq_true e2] at g00
    rw [e3] at c12
    clear e1 e2 e3
    clear hall
    go_wp2
    go_ret
    exact⟨Zad HF.out.symm,hb.trans ((Zab wr _).mono hb.size)⟩
   ·have HF:=Qh (Zd0 hlt HI.out)
    have f0:¬ (0:Int)<(l[k].hidden.length:Int):=by omega
    have f01:¬ 0<l[k].hidden.length:=by omega
    rw [decide_eq_true e2] at g00
    rw [e3] at c12
    have f4:=txt_t (l:=[35,35]) e4
    clear e4
    clear e1 e2 e3
    clear hall
    go_wp2
    go_ret
    exact⟨Zad HF.out.symm,hb.trans ((Zab wr _).mono hb.size)⟩
   ·have HN:=Qh (hall.succ HI.out)
    have f0:¬ (0:Int)<(l[k].hidden.length:Int):=by omega
    have f01:¬ 0<l[k].hidden.length:=by omega
    rw [decide_eq_true e2] at g00
    rw [e3] at c12
    have f4:=txt_f (l:=[35,35]) e4
    clear e4
    clear e1 e2 e3
    clear hall
    go_wp2
    go_roundw
    case rel=>first | exact⟨k+1,by omega,by go_num,HN.out,hb.trans ((Zab wr _).mono hb.size)⟩ | ((repeat apply Exists.intro);exact⟨⟨k+1,by omega,by go_num,HN.out,hb.trans ((Zab wr _).mono hb.size)⟩,rfl⟩)
    case measure=>simp [intOf];omega
   ·have HF:=Qh (Zd0 hlt HI.out)
    have f0:¬ (0:Int)<(l[k].hidden.length:Int):=by omega
    have f01:¬ 0<l[k].hidden.length:=by omega
    rw [decide_eq_false e2] at g00
    have f4:=txt_t (l:=[35,35]) e4
    clear e4
    rw [decide_eq_true e5] at g01
    clear e1 e2 e5
    clear hall
    go_wp2
    go_ret
    exact⟨Zad HF.out.symm,hb.trans ((Zab wr _).mono hb.size)⟩
   ·have HF:=Qh (Zd0 hlt HI.out)
    have f0:¬ (0:Int)<(l[k].hidden.length:Int):=by omega
    have f01:¬ 0<l[k].hidden.length:=by omega
    rw [decide_eq_false e2] at g00
    have f4:=txt_t (l:=[35,35]) e4
    clear e4
    rw [decide_eq_false e5] at g01
    obtain⟨es2,hE2,hR2⟩:=he1 (k-1) (by omega)
    obtain⟨h9,rfl,-,-,-⟩:=hR2
    replace hE2:=hE2.frame (hbq.block b1 hb1')
    have c21:(wr.alloc (.cells #[.int .i64 l[k].kind,.string l[k].text,.bool l[k].spaced,.slice ah l[k].hidden.length caph] 32)).cell? ⟨b1,off1+(k-1) * 4+1,none⟩=some _:=Zae (j:=1) hE2 (by decide) rfl
    have h6:((k:Int)-1).toNat=k-1:=by omega
    have hwl:IntKind.i64.wrap ((k:Int)-1)=(k:Int)-1:=IntWalk.i64_in _ (by omega)
    have hi1:(0:Int)<=(k:Int)-1:=by omega
    have hi2:(k:Int)-1<(l.length:Int):=by omega
    clear hE2
    have f6:=txt_t (l:=[35,35]) e6
    clear e1 e2 e5 e6
    clear hall
    go_wp2
    go_ret
    exact⟨Zad HF.out.symm,hb.trans ((Zab wr _).mono hb.size)⟩
   ·have HN:=Qh (hall.succ HI.out)
    have f0:¬ (0:Int)<(l[k].hidden.length:Int):=by omega
    have f01:¬ 0<l[k].hidden.length:=by omega
    rw [decide_eq_false e2] at g00
    have f4:=txt_t (l:=[35,35]) e4
    clear e4
    rw [decide_eq_false e5] at g01
    obtain⟨es2,hE2,hR2⟩:=he1 (k-1) (by omega)
    obtain⟨h9,rfl,-,-,-⟩:=hR2
    replace hE2:=hE2.frame (hbq.block b1 hb1')
    have c21:(wr.alloc (.cells #[.int .i64 l[k].kind,.string l[k].text,.bool l[k].spaced,.slice ah l[k].hidden.length caph] 32)).cell? ⟨b1,off1+(k-1) * 4+1,none⟩=some _:=Zae (j:=1) hE2 (by decide) rfl
    have h6:((k:Int)-1).toNat=k-1:=by omega
    have hwl:IntKind.i64.wrap ((k:Int)-1)=(k:Int)-1:=IntWalk.i64_in _ (by omega)
    have hi1:(0:Int)<=(k:Int)-1:=by omega
    have hi2:(k:Int)-1<(l.length:Int):=by omega
    clear hE2
    have f6:=txt_f (l:=[35,35]) e6
    clear e1 e2 e5 e6
    clear hall
    go_wp2
    go_roundw
    case rel=>first | exact⟨k+1,by omega,by go_num,HN.out,hb.trans ((Zab wr _).mono hb.size)⟩ | ((repeat apply Exists.intro);exact⟨⟨k+1,by omega,by go_num,HN.out,hb.trans ((Zab wr _).mono hb.size)⟩,rfl⟩)
    case measure=>simp [intOf];omega
   ·have HN:=Qh (hall.succ HI.out)
    have f0:¬ (0:Int)<(l[k].hidden.length:Int):=by omega
    have f01:¬ 0<l[k].hidden.length:=by omega
    rw [decide_eq_false e2] at g00
    have f4:=txt_f (l:=[35,35]) e4
    clear e4
    clear e1 e2
    clear hall
    go_wp2
    go_roundw
    case rel=>first | exact⟨k+1,by omega,by go_num,HN.out,hb.trans ((Zab wr _).mono hb.size)⟩ | ((repeat apply Exists.intro);exact⟨⟨k+1,by omega,by go_num,HN.out,hb.trans ((Zab wr _).mono hb.size)⟩,rfl⟩)
    case measure=>simp [intOf];omega
  ·have HF:=Qh (Zm3 (by omega) HTV.out (λ j hj=>hall j (by omega)))
   clear hall
   go_wp2
   go_ret
   exact⟨Zad HF.out.symm,hb⟩
/-! ### Number signs -/
theorem Zk9 {m:DMacro} {k:Nat} (hk:k<m.body.length) (h:m.body[k].text≠hash1):signI m k=true:=by unfold signI;rw [dif_pos hk,decide_eq_false h];rfl
theorem Zmi {m:DMacro} {k:Nat} (hk:k<m.body.length) (h:m.body[k].text=hash1) (hl:k+1=m.body.length):signI m k=false:=by unfold signI;rw [dif_pos hk,decide_eq_true h,dif_neg (by omega)];rfl
theorem signI_in {m:DMacro} {k:Nat} (hk:k+1<m.body.length) (h:(m.body[k]'(by omega)).text=hash1):signI m k=hasTx m.params m.body[k+1].text:=by unfold signI;rw [dif_pos (by omega),decide_eq_true h,dif_pos hk];simp
theorem Zj3 {m:DMacro} {k:Nat} (hk:k<m.body.length) (h:signI m k=false):ZdK m=false:=Zc9 hk h
theorem Zm4 {m:DMacro} (h:BodUpto (signI m) m.body.length):ZdK m=true:=Zce h
theorem ZfG (m:DMacro) (h2 h3:Value) (fp2 fp3:List Nat) (w:World) (K2:(Zaa sStr).R w [h2] m.params fp2) (K3:(Zaa sTok).R w [h3] m.body fp3) (hl:m.body.length<=1000) :
  Calls Tryz.prog 82 #[.agg #[.string m.name,.bool m.function,h2,h3]] w (Says (ZdK m) w):=by
 obtain⟨a2,cap2,rfl,-⟩:=Zaf K2
 obtain⟨a3,cap3,rfl,hc3,hm3,hrow⟩:=Zac K3
 unfold maxLen at hm3
 clear K3
 have hb0:=Zab w (.cells #[.string m.name,.bool m.function,.slice a2 m.params.length cap2,.slice a3 m.body.length cap3] 56)
 have HX:=Qh (heap_alloc_new w (.cells #[.string m.name,.bool m.function,.slice a2 m.params.length cap2,.slice a3 m.body.length cap3] 56))
 go_enter Tryz.func82,Tryz.ntmps82
 go_wp2
 generalize (w.alloc (.cells #[.string m.name,.bool m.function,.slice a2 m.params.length cap2,.slice a3 m.body.length cap3] 56))=W1 at *
 go_loopw [8] (λ i wr=>∃ k:Nat,k<=m.body.length/\i=.int .i64 k/\BodUpto (signI m) k/\Below W1.heap.size W1 wr) (λ i _=>m.body.length-(intOf i).toNat)
 case atStart=>exact⟨0,by omega,rfl,BodUpto.zero _,Below.refl _ _⟩
 case round =>
  obtain⟨k,hk,rfl,hall,hb⟩:=hrel
  have hbw:=hb0.trans (hb.mono hb0.size)
  by_cases hlt:k<m.body.length
  ·obtain⟨b1,off1,fps1,rfl,hb1',-,he1⟩:=hrow (by omega)
   obtain⟨es1,hE1,hR1⟩:=he1 k hlt
   obtain⟨hh,rfl,-,-,K1⟩:=hR1
   obtain⟨ah,caph,rfl,-⟩:=Zac K1
   replace hE1:=hE1.frame (hbw.block b1 hb1')
   have c10:wr.cell? ⟨b1,off1+k * 4,none⟩=some _:=Zam hE1 (by decide) rfl
   have c11:wr.cell? ⟨b1,off1+k * 4+1,none⟩=some _:=Zae (j:=1) hE1 (by decide) rfl
   have c12:wr.cell? ⟨b1,off1+k * 4+2,none⟩=some _:=Zae (j:=2) hE1 (by decide) rfl
   have c13:wr.cell? ⟨b1,off1+k * 4+3,none⟩=some _:=Zae (j:=3) hE1 (by decide) rfl
   have hbx:Below wr.heap.size wr (wr.alloc (.cells #[.int .i64 m.body[k].kind,.string m.body[k].text,.bool m.body[k].spaced,.slice ah m.body[k].hidden.length caph] 32)):=Zab _ _
   have HT:=Qh (heap_alloc_new wr (.cells #[.int .i64 m.body[k].kind,.string m.body[k].text,.bool m.body[k].spaced,.slice ah m.body[k].hidden.length caph] 32))
   have hbq:=hb.trans (hbx.mono hb.size)
   have hbw2:=hbw.trans (hbx.mono hbw.size)
   have HX2:=Qh ((hbq.block _ (Qg HX.out).1).trans HX.out)
   have HC:=Qh (λ x W (hW:Below (wr.alloc (.cells #[.int .i64 m.body[k].kind,.string m.body[k].text,.bool m.body[k].spaced,.slice ah m.body[k].hidden.length caph] 32)).heap.size (wr.alloc (.cells #[.int .i64 m.body[k].kind,.string m.body[k].text,.bool m.body[k].spaced,.slice ah m.body[k].hidden.length caph] 32)) W)=>ZdZ _ _ _ x W ((Zaa sStr).below ((Zaa sStr).below K2 hbw2) hW))
   clear K1 hE1 hbx
   by_cases e7:m.body[k].text=hash1
   ·have f7:=txt_t (l:=[35]) e7
    have E7:=Qh e7
    clear e7
    go_wp2
    generalize wr.alloc (.cells #[.int .i64 m.body[k].kind,.string m.body[k].text,.bool m.body[k].spaced,.slice ah m.body[k].hidden.length caph] 32)=W2 at *
    have p1:=Qc 1 HT.out
    clear c10 c11 c12 c13
    have q2:=Qc 2 HX2.out
    have q3:=Qc 3 HX2.out
    have g01:((k:Int)==(m.body.length:Int)-1)=decide (k+1=m.body.length):=by rw [Bool.eq_iff_iff];simp;omega
    have hwm:IntKind.i64.wrap ((m.body.length:Int)-1)=(m.body.length:Int)-1:=IntWalk.i64_in _ (by omega)
    by_cases e8:k+1=m.body.length
    ·have HF:=Qh (Zj3 hlt (Zmi hlt E7.out e8))
     rw [decide_eq_true e8] at g01
     clear e8 hall
     go_quiet (fail)
     go_wp2
     go_ret
     exact⟨Zad HF.out.symm,Zag hbw2 _⟩
    ·have hk1:k+1<m.body.length:=by omega
     obtain⟨es3,hE3,hR3⟩:=he1 (k+1) hk1
     obtain⟨h9,rfl,-,-,-⟩:=hR3
     replace hE3:=hE3.frame (hbw2.block b1 hb1')
     have c31:W2.cell? ⟨b1,off1+(k+1) * 4+1,none⟩=some _:=Zae (j:=1) hE3 (by decide) rfl
     have h6:((k:Int)+1).toNat=k+1:=by omega
     have hwl:IntKind.i64.wrap ((k:Int)+1)=(k:Int)+1:=IntWalk.i64_in _ (by omega)
     have hi1:(0:Int)<=(k:Int)+1:=by omega
     have hi2:(k:Int)+1<(m.body.length:Int):=by omega
     have hs:=signI_in hk1 E7.out
     rw [decide_eq_false e8] at g01
     clear hE3 e8 he1 hrow
     go_still_tail 16,(by kernel_rfl)
     change wpList _ _ _ _ _ W2.drew
     have hd:Below W2.heap.size W2 W2.drew:=Zag (Below.refl _ _) 1
     generalize W2.drew=w3 at *
     have hbw3:=hbw2.trans (hd.mono hbw2.size)
     have hbq3:=hbq.trans (hd.mono hbq.size)
     cases e9:hasTx m.params m.body[k+1].text
     ·rw [e9] at hs
      have HF:=Qh (Zj3 hlt hs)
      clear hall hs
      go_wp2_with (go_at_call 87;refine (HC.out _ _ hd).mono ?_;rintro e w4 ⟨rfl,rfl⟩;rw [e9];clear e9)
      go_ret
      exact⟨Zad HF.out.symm,hbw3⟩
     ·rw [e9] at hs
      have HN:=Qh (hall.succ hs)
      clear hall hs
      go_wp2_with (go_at_call 87;refine (HC.out _ _ hd).mono ?_;rintro e w4 ⟨rfl,rfl⟩;rw [e9];clear e9)
      go_roundw
      case rel=>first | exact⟨k+1,by omega,by go_num,HN.out,hbq3⟩ | ((repeat apply Exists.intro);exact⟨⟨k+1,by omega,by go_num,HN.out,hbq3⟩,rfl⟩)
      case measure=>simp [intOf];omega
   ·have f7:=txt_f (l:=[35]) e7
    have HN:=Qh (hall.succ (Zk9 hlt e7))
    clear e7 hall
    go_wp2
    go_roundw
    case rel=>first | exact⟨k+1,by omega,by go_num,HN.out,hbq⟩ | ((repeat apply Exists.intro);exact⟨⟨k+1,by omega,by go_num,HN.out,hbq⟩,rfl⟩)
    case measure=>simp [intOf];omega
  ·have HF:=Qh (Zm4 (λ j hj=>hall j (by omega)))
   clear hall
   go_wp2
   go_ret
   exact⟨Zad HF.out.symm,hbw⟩
theorem Zej (cs:List Value) (m:DMacro) (fp:List Nat) (w:World) (H:sMacro.R w cs m fp):Calls Tryz.prog 67 #[.agg cs.toArray] w (Says (macOk m) w):=by
 obtain⟨h2,h3,fp2,fp3,rfl,k0,K2,K3,rfl⟩:=H
 cases hf:m.function
 ·have:=ZfY m h2 h3 fp2 fp3 w k0 K2 K3 hf
  rw [hf] at this
  exact this
 ·have:=ZfF m h2 h3 fp2 fp3 w k0 K2 K3 hf
  rw [hf] at this
  exact this
theorem mi_name {m:DMacro} (h:Zak m.name 1=false):macOk m=false:=by rw [Ze7,h];rfl
theorem mi_def {m:DMacro} (h:m.name=Za4):macOk m=false:=by rw [Ze7,decide_eq_true h];simp
theorem mi_no {m:DMacro} (h1:Zak m.name 1=true) (h2:m.name≠Za4) (hf:m.function=false):macOk m=(decide (m.params.length=0) && ZaW m.body):=by rw [Ze7,h1,decide_eq_false h2,hf];rfl
theorem mi_yes {m:DMacro} (h1:Zak m.name 1=true) (h2:m.name≠Za4) (hf:m.function=true):macOk m=(Zcf m.params && ZaW m.body && ZdK m):=by rw [Ze7,h1,decide_eq_false h2,hf];rfl
theorem mi_big {m:DMacro} (h:ZaW m.body=true):m.body.length<=20:=by unfold ZaW at h;rw [Bool.and_eq_true,Bool.and_eq_true] at h;simpa using h.1.1
theorem ZcT (cs:List Value) (m:DMacro) (fp:List Nat) (w:World) (H:sMacro.R w cs m fp):Calls Tryz.prog 58 #[.agg cs.toArray] w (Says (macOk m) w):=by
 obtain⟨h2,h3,fp2,fp3,rfl,k0,K2,K3,rfl⟩:=H
 obtain⟨a2,cap2,rfl,-⟩:=Zaf K2
 obtain⟨a3,cap3,rfl,-⟩:=Zac K3
 have HN:=Qh (λ W=>Zcb m.name 1 W k0)
 have HP:=Qh (λ W (hW:Below w.heap.size w W)=>Zhd _ _ _ W ((Zaa sStr).below K2 hW))
 have HB:=Qh (λ W (hW:Below w.heap.size w W)=>Zip _ _ _ W ((Zaa sTok).below K3 hW))
 have HS:=Qh (λ W (hl:m.body.length<=1000) (hW:Below w.heap.size w W)=>ZfG m _ _ _ _ W ((Zaa sStr).below K2 hW) ((Zaa sTok).below K3 hW) hl)
 have hb0:=Zab w (.cells #[.string m.name,.bool m.function,.slice a2 m.params.length cap2,.slice a3 m.body.length cap3] 56)
 have HX:=Qh (heap_alloc_new w (.cells #[.string m.name,.bool m.function,.slice a2 m.params.length cap2,.slice a3 m.body.length cap3] 56))
 clear K2 K3
 cases h1:Zak m.name 1
 ·rw [h1] at HN
  have HF:=Qh (mi_name h1)
  clear h1
  go_enter Tryz.func58,Tryz.ntmps58
  go_wp2_with (go_at_call 79;refine (HN.out _).mono ?_;rintro e w1 ⟨rfl,hb1⟩)
  go_ret
  exact⟨Zad HF.out.symm,hb0.trans (hb1.mono hb0.size)⟩
 rw [h1] at HN
 go_enter Tryz.func58,Tryz.ntmps58
 go_wp2_with fail
 refine (HN.out _).mono ?_
 rintro e w1 ⟨rfl,hb1⟩
 have hB1:=hb0.trans (hb1.mono hb0.size)
 replace HX:=Qh ((hb1.block _ (Qg HX.out).1).trans HX.out)
 have q0:=Qc 0 HX.out
 by_cases hd:m.name=Za4
 ·have e2:=txt_t (l:=[100,101,102,105,110,101,100]) hd
  have HF:=Qh (mi_def hd)
  clear h1 hd
  go_wp2
  go_ret
  exact⟨Zad HF.out.symm,hB1⟩
 have e2:=txt_f (l:=[100,101,102,105,110,101,100]) hd
 have q1:=Qc 1 HX.out
 have q2:=Qc 2 HX.out
 have q3:=Qc 3 HX.out
 cases hf:m.function
 ·have HM:=Qh (mi_no h1 hd hf)
  rw [hf] at q1
  clear h1 hd hf
  by_cases hz:m.params.length=0
  ·have hz1:((m.params.length:Int)==0)=true:=by rw [hz];rfl
   rw [decide_eq_true hz,Bool.true_and] at HM
   clear hz
   go_wp2_with fail
   refine (HB.out _ hB1).mono ?_
   rintro e w2 ⟨rfl,hb2⟩
   go_wp2
   go_ret
   exact⟨Zad HM.out.symm,hB1.trans (hb2.mono hB1.size)⟩
  ·have hz1:((m.params.length:Int)==0)=false:=by simp;intro h;exact hz (by simp [h])
   rw [decide_eq_false hz,Bool.false_and] at HM
   clear hz
   go_wp2
   go_ret
   exact⟨Zad HM.out.symm,hB1⟩
 ·have HM:=Qh (mi_yes h1 hd hf)
  have HF:=Qh hf
  rw [hf] at q1
  clear h1 hd hf
  go_wp2_with fail
  refine (HP.out _ hB1).mono ?_
  rintro e w2 ⟨rfl,hb2⟩
  have hB2:=hB1.trans (hb2.mono hB1.size)
  cases hp:Zcf m.params
  ·rw [hp,Bool.false_and,Bool.false_and] at HM
   clear hp q0 q1 q2 q3
   go_wp2
   go_ret
   exact⟨Zad HM.out.symm,hB2⟩
  ·rw [hp,Bool.true_and] at HM
   replace HX:=Qh ((hb2.block _ (Qg HX.out).1).trans HX.out)
   clear hp q0 q1 q2 q3
   have q3:=Qc 3 HX.out
   go_wp2_with fail
   refine (HB.out _ hB2).mono ?_
   rintro e w3 ⟨rfl,hb3⟩
   have hB3:=hB2.trans (hb3.mono hB2.size)
   cases hb:ZaW m.body
   ·rw [hb,Bool.false_and] at HM
    clear hb q3
    go_wp2
    go_ret
    exact⟨Zad HM.out.symm,hB3⟩
   ·have hl:=mi_big hb
    rw [hb,Bool.true_and] at HM
    replace HX:=Qh ((hb3.block _ (Qg HX.out).1).trans HX.out)
    clear hb q3
    have q0:=Qc 0 HX.out
    have q1:=Qc 1 HX.out
    have q2:=Qc 2 HX.out
    have q3:=Qc 3 HX.out
    have HS':=Qh (λ W hW=>HS.out W (by omega) hW)
    clear hl
    go_wp2_with fail
    refine (HS'.out _ hB3).mono ?_
    rintro e w4 ⟨rfl,hb4⟩
    go_wp2
    go_ret
    exact⟨Zad HM.out.symm,hB3.trans (hb4.mono hB3.size)⟩
end Go.Proofs.YtipfpppcbmpjiaaGreat
