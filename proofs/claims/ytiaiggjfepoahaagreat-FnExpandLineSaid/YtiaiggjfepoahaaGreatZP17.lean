/- Texts that the proof of P stands on, in one file. -/
import Derived.Test.YtiaiggjfepoahaaGreatZP16
set_option linter.unusedVariables false
set_option maxHeartbeats 16000000
set_option maxRecDepth 100000
set_option linter.unusedSimpArgs false
/- Substitute of the model. (Made by gen_sub5.py.) -/
namespace Go.Proofs.YtiaiggjfepoahaaGreat
open Go.RowKit
def Zik (m:DMacro) (raw ready:List (List Tok)) (w:World) (e:Ending) (w':World):Prop:=
 ∃ (v:Value) (fp:List Nat),e=.returned (.tuple #[v,.bool (Zar m raw ready).2])/\(Zaa sTok).R w' [v] (Zar m raw ready).1 fp/\(∀ b∈fp,w.heap.size<=b)/\Below w.heap.size w w'
theorem Zcv {m:DMacro} {raw ready:List (List Tok)} {w W:World} (h:Zar m raw ready=([],false)) (hb:Below w.heap.size w W):Zik m raw ready w (.returned (.tuple #[.slice (some ⟨W.heap.size,0,none⟩) 0 0,.bool false])) (W.alloc (.cells #[] 57)):=
 ⟨_,[],by rw [h],by rw [h];exact Zan _ _ _ _ (by simp),by simp,hb.alloc hb.size _⟩
theorem Zht {m:DMacro} {a:List (List Tok)} (h:a.length≠m.params.length):Zau m a=false:=by unfold Zau;rw [decide_eq_false h];rfl
theorem Zhu {m:DMacro} {a:List (List Tok)} {k:Nat} (hk:k<a.length) (h:Zaj a[k]=false):Zau m a=false:=by
 unfold Zau;rw [Bool.and_eq_false_iff];exact .inr (List.all_eq_false.2 ⟨_,List.getElem_mem hk,by simp [h]⟩)
theorem Zhv {m:DMacro} {a:List (List Tok)} (hl:a.length=m.params.length) (h:∀ k,(hk:k<a.length)->Zaj a[k]=true):Zau m a=true:=by
 unfold Zau;rw [Bool.and_eq_true,decide_eq_true_eq,List.all_eq_true]
 exact⟨hl,λ l hl=>by obtain⟨k,hk,rfl⟩:=List.getElem_of_mem hl;exact h k hk⟩
theorem ZeI (csM:List Value) (m:DMacro) (fpM:List Nat) (vr vy:Value) (raw ready:List (List Tok)) (fpr fpy:List Nat) (w:World) (hm:MacSm m) (hlr:raw.length<=1048576) (hly:ready.length<=1048576) (hsr:Zgo raw) (hsy:Zgo ready)
  (HM:sMacro.R w csM m fpM) (Hr:(Zaa (Zaa sTok)).R w [vr] raw fpr) (Hy:(Zaa (Zaa sTok)).R w [vy] ready fpy) :
  Calls Tryz.prog 73 #[.agg csM.toArray,vr,vy] w (Zik m raw ready w):=by
 have HM0:=HM
 obtain⟨h2,h3,q2,q3,rfl,-,K2,K3,-⟩:=HM
 obtain⟨a2,c2,rfl,-⟩:=Zaf K2
 obtain⟨a3,c3,rfl,-⟩:=Zac K3
 have hrl:=(Zaa (Zaa sTok)).lt Hr
 have hyl:=(Zaa (Zaa sTok)).lt Hy
 have b0:=Zab w (.cells #[.string m.name,.bool m.function,.slice a2 m.params.length c2,.slice a3 m.body.length c3] 70)
 have HX:=Qh (heap_alloc_new w (.cells #[.string m.name,.bool m.function,.slice a2 m.params.length c2,.slice a3 m.body.length c3] 70))
 have HM1:=Qh (sMacro.below HM0 b0)
 have Hr1:=Qh ((Zaa (Zaa sTok)).below Hr b0)
 have Hy1:=Qh ((Zaa (Zaa sTok)).below Hy b0)
 have hs1:(w.alloc (.cells #[.string m.name,.bool m.function,.slice a2 m.params.length c2,.slice a3 m.body.length c3] 70)).heap.size=w.heap.size+1:=Array.size_push _
 have HS1:=Qh hs1
 have hrn:w.heap.size∉fpr:=λ h=>Nat.lt_irrefl _ (hrl _ h)
 have hyn:w.heap.size∉fpy:=λ h=>Nat.lt_irrefl _ (hyl _ h)
 clear K2 K3 HM0 Hr Hy hs1 hrl hyl
 go_enter Tryz.func73,Tryz.ntmps73
 go_upto_region 1 with fail
 generalize (w.alloc (.cells #[.string m.name,.bool m.function,.slice a2 m.params.length c2,.slice a3 m.body.length c3] 70))=W1 at *
 obtain⟨p0,p1,p2,p3⟩:=Q4 HX.out
 go_wp2_with fail
 refine (Zc5 _ m _ W1 hm.1 hm.2.1 hm.2.2 HM1.out).mono ?_
 rintro e w2 ⟨b2,b3,d2,d3,f2,rfl,R2,lo2,-,hb2⟩
 clear p0 p1 p2 p3
 have HX2:=Qh (mbox HX.out hb2)
 have p0:=Qc 0 HX2.out
 have pf0:=Qf 0 HX2.out
 have p1:=Qc 1 HX2.out
 have pf1:=Qf 1 HX2.out
 have p2:=Qc 2 HX2.out
 have pf2:=Qf 2 HX2.out
 have p3:=Qc 3 HX2.out
 have pf3:=Qf 3 HX2.out
 have hs2:=HS1.out
 have hs3:=hb2.size
 have hn2:w.heap.size∉f2:=λ h=>by have:=lo2 _ h;omega
 have HM3:=Qh (sMacro.set4R R2 hn2 (.string m.name) (.bool m.function) (.slice b2 m.params.length d2) (.slice b3 m.body.length d3))
 have Hr3:=Qh ((Zaa (Zaa sTok)).set4R ((Zaa (Zaa sTok)).below Hr1.out hb2) hrn (.string m.name) (.bool m.function) (.slice b2 m.params.length d2) (.slice b3 m.body.length d3))
 have Hy3:=Qh ((Zaa (Zaa sTok)).set4R ((Zaa (Zaa sTok)).below Hy1.out hb2) hyn (.string m.name) (.bool m.function) (.slice b2 m.params.length d2) (.slice b3 m.body.length d3))
 have HX3:=Qh (ZaH HX2.out (.string m.name) (.bool m.function) (.slice b2 m.params.length d2) (.slice b3 m.body.length d3))
 have hB3:=Zay (b0.trans (hb2.mono b0.size)) (Nat.le_refl w.heap.size) (.string m.name) (.bool m.function) (.slice b2 m.params.length d2) (.slice b3 m.body.length d3)
 unfold set4 at HM3 Hr3 Hy3 HX3 hB3
 go_upto_region 2 with fail
 clear p0 p1 p2 p3 pf0 pf1 pf2 pf3 R2 lo2 hb2 HX2 HX HM1 Hr1 Hy1 b0 hs2 hs3 hn2 HS1
 generalize ((((w2.setCell ⟨w.heap.size,0,none⟩ (.string m.name)).setCell ⟨w.heap.size,1,none⟩ (.bool m.function)).setCell ⟨w.heap.size,2,none⟩ (.slice b2 m.params.length d2)).setCell ⟨w.heap.size,3,none⟩ (.slice b3 m.body.length d3))=W3 at *
 go_wp2_with fail
 refine (Zdf _ raw _ W3 hlr hsr Hr3.out).mono ?_
 rintro e w4 ⟨vr2,fr2,rfl,RR4,-,hb4⟩
 obtain⟨ar,cr,rfl,-⟩:=Zac RR4
 have hB4:=hB3.trans (hb4.mono hB3.size)
 go_wp2_with fail
 refine (Zdf _ ready _ w4 hly hsy ((Zaa (Zaa sTok)).below Hy3.out hb4)).mono ?_
 rintro e w5 ⟨vy2,fy2,rfl,RY5,-,hb5⟩
 obtain⟨ay,cy,rfl,hcy,hmy,hrowY⟩:=Zac RY5
 have HRR:=Qh ((Zaa (Zaa sTok)).below RR4 hb5)
 have HYY:=Qh RY5
 have hb35:=hb4.trans (hb5.mono hb4.size)
 have HM5:=Qh (sMacro.below HM3.out hb35)
 have HX5:=Qh (mbox HX3.out hb35)
 have hB5:=hB4.trans (hb5.mono hB4.size)
 clear RR4 RY5 hb4 hb5 hb35 hB4 hB3 HM3 Hr3 Hy3 HX3 hrn hyn
 have HMV:=Qh (Zck _ m f2 w5 HM5.out)
 obtain⟨p0,p1,p2,p3⟩:=Q4 HX5.out
 cases hv:macOk m
 ·have HF:=Qh (ZbR (raw:=raw) (ready:=ready) (λ h=>by rw [hv] at h;exact absurd h.1 (by simp):¬ (macOk m=true/\Zau m raw=true/\Zau m ready=true)))
  rw [hv] at HMV
  clear hv
  go_wp2_with fail
  refine HMV.out.mono ?_
  rintro e w6 ⟨rfl,hb6⟩
  go_wp2
  go_ret2
  exact Zcv HF.out (hB5.trans (hb6.mono hB5.size))
 have HVD:=Qh hv
 rw [hv] at HMV
 clear hv
 go_wp2_with fail
 refine HMV.out.mono ?_
 rintro e w6 ⟨rfl,hb6⟩
 replace HRR:=Qh ((Zaa (Zaa sTok)).below HRR.out hb6)
 replace HYY:=Qh ((Zaa (Zaa sTok)).below HYY.out hb6)
 have HM6:=Qh (sMacro.below HM5.out hb6)
 have HX6:=Qh (mbox HX5.out hb6)
 have hB6:=hB5.trans (hb6.mono hB5.size)
 clear p0 p1 p2 p3 hb6 HM5 HX5 hB5 HMV
 obtain⟨p0,p1,p2,p3⟩:=Q4 HX6.out
 by_cases h1:raw.length=m.params.length
 rotate_left
 ·have HF:=Qh (ZbR (ready:=ready) (λ h=>by rw [Zht h1] at h;exact absurd h.2.1 (by simp):¬ (macOk m=true/\Zau m raw=true/\Zau m ready=true)))
  have e1:((raw.length:Int) != (m.params.length:Int))=true:=by simp;omega
  clear h1
  go_wp2
  go_ret2
  exact Zcv HF.out hB6
 by_cases h2:ready.length=m.params.length
 rotate_left
 ·have HF:=Qh (ZbR (raw:=raw) (λ h=>by rw [Zht h2] at h;exact absurd h.2.2 (by simp):¬ (macOk m=true/\Zau m raw=true/\Zau m ready=true)))
  have e1:((raw.length:Int) != (m.params.length:Int))=false:=by simp;omega
  have e2:((ready.length:Int) != (m.params.length:Int))=true:=by simp;omega
  clear h1 h2
  go_wp2
  go_ret2
  exact Zcv HF.out hB6
 have e1:((raw.length:Int) != (m.params.length:Int))=false:=by simp;omega
 have e2:((ready.length:Int) != (m.params.length:Int))=false:=by simp;omega
 clear hcy hmy hrowY hm hly hsr hsy
 have H1:=Qh h1
 have H2:=Qh h2
 clear h1 h2
 go_wp2
 clear p0 p1 p2 p3
 go_loopw [8] (λ i wr=>∃ k:Nat,k<=raw.length/\i=.int .i64 k/\Hid (∀ j,(hj:j<raw.length)->(hj2:j<ready.length)->j<k->Zaj raw[j]=true/\Zaj ready[j]=true)/\Below w6.heap.size w6 wr) (λ i _=>raw.length-(intOf i).toNat)
 case atStart=>exact⟨0,by omega,rfl,Qh (λ j _ _ h=>absurd h (by omega)),Below.refl _ _⟩
 case round =>
  obtain⟨k,hk,rfl,HA,hb⟩:=hrel
  have h1:=H1.out
  have h2:=H2.out
  have hBr:=hB6.trans (hb.mono hB6.size)
  by_cases hlt:k<raw.length
  ·have hlt2:k<ready.length:=by omega
   obtain⟨x1,y1,z1,-,-,u1⟩:=Zac HRR.out
   obtain⟨x2,y2,z2,-,-,u2⟩:=Zac HYY.out
   simp only [Value.slice.injEq,true_and] at z1 z2
   obtain⟨rfl,rfl⟩:=z1
   obtain⟨rfl,rfl⟩:=z2
   obtain⟨b1,o1,-,rfl,-,-⟩:=u1 (by omega)
   obtain⟨b2,o2,-,rfl,-,-⟩:=u2 (by omega)
   clear u1 u2 h1 h2
   obtain⟨aj1,cj1,f1,q1,R1,l1,-⟩:=Zb5 HRR.out hlt
   obtain⟨aj2,cj2,f2',q2',R2',l2,-⟩:=Zb5 HYY.out hlt2
   replace q1:=(hb.cell (p:=⟨b1,o1+k,none⟩) l1).trans q1
   replace q2':=(hb.cell (p:=⟨b2,o2+k,none⟩) l2).trans q2'
   have HT1:=Qh (Zbg _ raw[k] f1 wr ((Zaa sTok).below R1 hb))
   cases hv1:Zaj raw[k]
   ·have HF:=Qh (ZbR (ready:=ready) (λ h=>by rw [Zhu hlt hv1] at h;exact absurd h.2.1 (by simp):¬ (macOk m=true/\Zau m raw=true/\Zau m ready=true)))
    rw [hv1] at HT1
    clear hv1 HA
    go_wp2_with (go_at_call 36;refine (HT1.out).mono ?_;rintro e w7 ⟨rfl,hb7⟩)
    go_ret2
    exact Zcv HF.out (hBr.trans (hb7.mono hBr.size))
   ·have HV1:=Qh hv1
    rw [hv1] at HT1
    clear hv1
    go_wp2_with fail
    refine (HT1.out).mono ?_
    rintro e w7 ⟨rfl,hb7⟩
    replace q1:=(hb7.cell (p:=⟨b1,o1+k,none⟩) (Nat.lt_of_lt_of_le l1 hb.size)).trans q1
    replace q2':=(hb7.cell (p:=⟨b2,o2+k,none⟩) (Nat.lt_of_lt_of_le l2 hb.size)).trans q2'
    have hb77:=hb.trans (hb7.mono hb.size)
    have HT2:=Qh (Zbg _ ready[k] f2' w7 ((Zaa sTok).below R2' hb77))
    have hB7:=hB6.trans (hb77.mono hB6.size)
    cases hv2:Zaj ready[k]
    ·have HF:=Qh (ZbR (raw:=raw) (λ h=>by rw [Zhu hlt2 hv2] at h;exact absurd h.2.2 (by simp):¬ (macOk m=true/\Zau m raw=true/\Zau m ready=true)))
     rw [hv2] at HT2
     clear hv2 HA
     go_wp2_with fail
     refine (HT2.out).mono ?_
     rintro e w8 ⟨rfl,hb8⟩
     go_wp2
     go_ret2
     exact Zcv HF.out (hB7.trans (hb8.mono hB7.size))
    ·have HV2:=Qh hv2
     rw [hv2] at HT2
     clear hv2
     go_wp2_with (go_at_call 36;refine (HT2.out).mono ?_;rintro e w8 ⟨rfl,hb8⟩)
     have HN:Hid (∀ j,(hj:j<raw.length)->(hj2:j<ready.length)->j<k+1->Zaj raw[j]=true/\Zaj ready[j]=true):=Qh (λ j hj hj2 hjk=>by
      rcases Nat.lt_succ_iff_lt_or_eq.1 hjk with h | rfl
      ·exact HA.out j hj hj2 h
      ·exact⟨HV1.out,HV2.out⟩)
     go_roundw
     case rel=>first | exact⟨k+1,by omega,by go_num,HN,hb77.trans (hb8.mono hb77.size)⟩ | ((repeat apply Exists.intro);exact⟨⟨k+1,by omega,by go_num,HN,hb77.trans (hb8.mono hb77.size)⟩,rfl⟩)
     case measure=>simp [intOf];omega
  ·have HYr:=Qh (Zhv h1 λ j hj=>(HA.out j hj (by omega) (by omega)).1)
   have HYy:=Qh (Zhv h2 λ j hj=>(HA.out j (by omega) hj (by omega)).2)
   have HX8:=Qh (mbox HX6.out hb)
   have HM8:=Qh (sMacro.below HM6.out hb)
   have HR8:=Qh ((Zaa (Zaa sTok)).below HRR.out hb)
   have HY8:=Qh ((Zaa (Zaa sTok)).below HYY.out hb)
   have HBD:=Qh (Zk6 _ m _ _ _ raw ready _ _ wr HVD.out HYr.out HYy.out HM8.out HR8.out HY8.out)
   obtain⟨p0,p1,p2,p3⟩:=Q4 HX8.out
   clear HA h1 h2
   go_wp2_with fail
   refine (HBD.out).mono ?_
   rintro e w9 ⟨v,L,rfl,RL,hmap,hlen,hsm,hb9⟩
   have hB9:=hBr.trans (hb9.mono hBr.size)
   obtain⟨fpL,RF,-⟩:=RL.read
   obtain⟨aL,cL,rfl,-⟩:=Zac RF
   rw [hmap] at RF
   have hPlen:(subGo m raw ready 0 [] true false).1.length=L.length:=by rw [← hmap,List.length_map]
   rcases hP:subGo m raw ready 0 [] true false with⟨l,ok⟩
   rw [hP] at hmap hPlen RF
   dsimp only at hmap hPlen RF
   have HW:=Qh (ZaS _ l fpL w9 (by show l.length<=_;omega) (λ k hk=>by
    have hk':k<L.length:=by rw [← hPlen];exact hk
    have:=hsm L[k] (List.getElem_mem hk')
    have e:(L.map (·.d))[k]'(by simpa using hk')=l[k]:=List.getElem_of_eq hmap _
    rw [← e,List.getElem_map];omega) RF)
   have e3:(L.map (·.d)).length=l.length:=by rw [hmap]
   rw [e3]
   cases ok
   ·have HF:=Qh (ZeD hP)
    clear HW
    go_wp2
    go_ret2
    exact Zcv HF.out hB9
   ·by_cases h9:240<l.length
    ·have HF:=Qh (ZgX hP h9)
     clear HW
     go_wp2
     go_ret2
     exact Zcv HF.out hB9
    ·have HF:=Qh (Zh9 ⟨HVD.out,HYr.out,HYy.out⟩ hP h9)
     have h9':¬ (240:Int)<(l.length:Int):=by omega
     clear h9 hP hPlen hmap hsm hlen e3 RL RF HBD HYr HYy HX8 HM8 HR8 HY8 HVD p0 p1 p2 p3
     go_wp2_with fail
     refine (HW.out).mono ?_
     rintro e w10 ⟨v,fpo,rfl,RO,lo,-,hb10⟩
     go_wp2
     go_ret2
     exact⟨v,fpo,by rw [HF.out];rfl,by rw [HF.out];exact RO,λ b hb=>Nat.le_trans hB9.size (lo b hb),hB9.trans (hb10.mono hB9.size)⟩
theorem Zcw {fn:Func} {t u v x:Tmp} (h:fn.results=#[.tmp t,.tmp u,.tmp v,.tmp x]) (tmps:Array Value) (P:Program) (w:World) :
  (results fn tmps).run P w=.ok (.tuple #[tmps.getD t undef,tmps.getD u undef,tmps.getD v undef,tmps.getD x undef]) w:=by
 simp [results,h]
/-! ### Arguments, one by one -/
theorem ZnZ {f:List Tok->Nat->XRes}:∀ (A:List (List Tok)) (s:Nat),(argsX f A s).2.2≠0->(argsX f A s).1=[]
 | [],s,h=>absurd rfl h
 |
  a::r,s,h=>by
  unfold argsX at h ⊢
  split at h
  ·rename_i h1
   rw [if_pos h1]
   split at h
   ·rename_i h2;exact absurd h2 h
   ·rename_i h2;rw [if_neg h2]
  ·rename_i h1;rw [if_neg h1]
def AccA (f:List Tok->Nat->XRes) (P:List (List Tok)) (s k s':Nat) (R:List (List Tok)):Prop:=
 argsX f P s=if (argsX f (P.drop k) s').2.2=0 then (R++(argsX f (P.drop k) s').1,(argsX f (P.drop k) s').2) else ([],(argsX f (P.drop k) s').2)
section
variable {f:List Tok->Nat->XRes} {P:List (List Tok)} {s k s' l:Nat} {R:List (List Tok)} {x:List Tok} {c:Int}
theorem AccA.start (f:List Tok->Nat->XRes) (P:List (List Tok)) (s:Nat):AccA f P s 0 s []:=by
 unfold AccA
 rw [List.drop_zero]
 split
 ·rfl
 ·rename_i h
  have:=ZnZ P s h
  exact Prod.ext this rfl
theorem AccA.step (h:AccA f P s k s' R) (hk:k<P.length) (hf:f P[k] s'=(x,l,0)):AccA f P s (k+1) l (R++[x]):=by
 unfold AccA at h ⊢
 rw [h,List.drop_eq_getElem_cons hk]
 have e:argsX f (P[k]::P.drop (k+1)) s'=if (argsX f (P.drop (k+1)) l).2.2=0 then (x::(argsX f (P.drop (k+1)) l).1,(argsX f (P.drop (k+1)) l).2) else ([],(argsX f (P.drop (k+1)) l).2):=by
  rw [argsX];simp only [hf];rfl
 rw [e]
 split
 ·rw [List.append_assoc];rfl
 ·rfl
theorem AccA.stop (h:AccA f P s k s' R) (hk:k<P.length) (hf:f P[k] s'=(x,l,c)) (hc:c≠0):argsX f P s=([],l,c):=by
 unfold AccA at h
 rw [h,List.drop_eq_getElem_cons hk]
 have e:argsX f (P[k]::P.drop (k+1)) s'=([],l,c):=by
  rw [argsX];simp only [hf];rw [if_neg hc]
 rw [e,if_neg hc]
theorem AccA.done (h:AccA f P s k s' R) (hk:P.length<=k):argsX f P s=(R,s',0):=by
 unfold AccA at h
 rw [h,List.drop_of_length_le hk]
 show (if (0:Int)=0 then (R++[],s',(0:Int)) else _)=_
 rw [if_pos rfl,List.append_nil]
end
section
variable {f:List Tok->Nat->XRes} {m:DMacro} {work:List Tok} {s e l:Nat} {A R:List (List Tok)} {b:List Tok} {c:Int}
theorem Zmn (h:splK (work.drop 2) 1 [] [] 2=(A,e,false)):callX f m work s=([],0,s,1):=by unfold callX;rw [h,if_neg (by simp)]
theorem Zld (h:splK (work.drop 2) 1 [] [] 2=(A,e,true)) (hn:argN m.params.length A≠m.params.length):callX f m work s=([],0,s,1):=by unfold callX;rw [h,if_neg (λ h'=>hn h'.2)]
theorem ZjP (h:splK (work.drop 2) 1 [] [] 2=(A,e,true)) (hn:argN m.params.length A=m.params.length) (ha:argsX f (A.take m.params.length) s=(R,l,c)) (hc:c≠0):callX f m work s=([],0,l,c):=by
 unfold callX;simp only [h];rw [if_pos ⟨trivial,hn⟩];simp only [ha];rw [if_neg hc]
theorem Zil (h:splK (work.drop 2) 1 [] [] 2=(A,e,true)) (hn:argN m.params.length A=m.params.length) (ha:argsX f (A.take m.params.length) s=(R,l,0)) (hs:Zar m (A.take m.params.length) R=(b,false)):callX f m work s=([],0,l,2):=by
 unfold callX;simp only [h];rw [if_pos ⟨trivial,hn⟩];simp only [ha];rw [if_pos trivial];simp only [hs];rw [if_neg (by simp)]
theorem Zle (h:splK (work.drop 2) 1 [] [] 2=(A,e,true)) (hn:argN m.params.length A=m.params.length) (ha:argsX f (A.take m.params.length) s=(R,l,0)) (hs:Zar m (A.take m.params.length) R=(b,true)):callX f m work s=(putL b (ins (both (work.headD zTok).hidden (work.getD (e-1) zTok).hidden) m.name) (work.headD zTok).spaced,e,l,0):=by
 unfold callX;simp only [h];rw [if_pos ⟨trivial,hn⟩];simp only [ha];rw [if_pos trivial];simp only [hs];rw [if_pos trivial]
end
theorem Zci:∀ (l:List Tok) (d:Int) (A:Args) (M:List Tok) (k:Nat) {R:Args} {e:Nat},splK l d A M k=(R,e,true)->k<e/\e<=k+l.length
 | [],d,A,M,k,R,e,h=>by unfold splK at h;simp at h
 |
  t::r,d,A,M,k,R,e,h=>by
  unfold splK at h
  split at h
  ·simp only [Prod.mk.injEq] at h;rw [List.length_cons];omega
  ·split at h
   ·have:=Zci r _ _ _ _ h;rw [List.length_cons];omega
   ·have:=Zci r _ _ _ _ h;rw [List.length_cons];omega
theorem ZfF:∀ (l:List Tok) (d:Int) (A:Args) (M:List Tok) (k:Nat) {B:Nat},(∀ a∈A,a.length<=B)->M.length+l.length<=B->(∀ a∈(splK l d A M k).1,a.length<=B)/\(splK l d A M k).1.length<=A.length+l.length
 | [],d,A,M,k,B,hA,hM=>by unfold splK;exact⟨hA,by simp⟩
 |
  t::r,d,A,M,k,B,hA,hM=>by
  rw [List.length_cons] at hM
  have hA1:∀ a∈A++[M],a.length<=B:=λ a ha=>by
   rcases Qa ha with ha | ha
   ·exact hA a ha
   ·rw [Qm ha];omega
  unfold splK
  split
  ·exact⟨hA1,by simp⟩
  ·split
   ·have:=ZfF r (d+opnK t) (A++[M]) [] (k+1) hA1 (by simp;omega)
    refine ⟨this.1,?_⟩
    have h2:=this.2
    rw [List.length_append,List.length_singleton] at h2
    rw [List.length_cons];omega
   ·have:=ZfF r (d+opnK t) A (M++[t]) (k+1) hA (by simp;omega)
    refine ⟨this.1,?_⟩
    have h2:=this.2
    rw [List.length_cons];omega
theorem Zhw:∀ (l:List Tok) (d:Int) (A:Args) (M:List Tok) (k:Nat) {R:Args} {e:Nat},splK l d A M k=(R,e,true)->0<R.length
 | [],d,A,M,k,R,e,h=>by unfold splK at h;simp at h
 |
  t::r,d,A,M,k,R,e,h=>by
  unfold splK at h
  split at h
  ·simp only [Prod.mk.injEq] at h;rw [← h.1,List.length_append];simp
  ·split at h
   ·exact Zhw r _ _ _ _ h
   ·exact Zhw r _ _ _ _ h
theorem Zmo {p:Nat} {A:List (List Tok)} (h:argN p A=p):p<=A.length:=by
 by_cases h1:A.length=1
 ·rw [Zeo h1] at h
  split at h <;> omega
 ·rw [Zc8 h1] at h;omega
def XpOf (fp:List Nat) (r:XRes) (w:World) (e:Ending) (w':World):Prop:=
 ∃ (v:Value) (L:List (Elem Tok)),e=.returned (.tuple #[v,.int .i64 (r.2.1:Nat),.int .i64 r.2.2])/\RowN sTok w.heap.size 57 v L w'/\L.map (·.d)=r.1/\(∀ x∈L,∀ b∈x.fp,b∈fp\/w.heap.size<=b)/\Below w.heap.size w w'
def ExpC (T:List DMacro) (N:List ByteArray) (n:Nat):Prop:=
 ∀ (vT:Value) (fpT:List Nat) (v:Value) (l:List Tok) (fp:List Nat) (s:Nat) (w:World),s<=n->l.length<=100->(∀ t∈l,HidIn N t)->(Zaa sMacro).R w [vT] T fpT->(Zaa sTok).R w [v] l fp ->
  Calls Tryz.prog 37 #[vT,v,.int .i64 s] w (XpOf fp (expG T n s [] l) w)
def CallOf (r:List Tok × Nat × Nat × Int) (w:World) (e:Ending) (w':World):Prop:=
 ∃ (v:Value) (L:List (Elem Tok)),e=.returned (.tuple #[v,.int .i64 (r.2.1:Nat),.int .i64 (r.2.2.1:Nat),.int .i64 r.2.2.2])/\RowN sTok w.heap.size 57 v L w'/\L.map (·.d)=r.1/\(∀ x∈L,∀ b∈x.fp,w.heap.size<=b)/\Below w.heap.size w w'
theorem CallOf.none {r:List Tok × Nat × Nat × Int} {l:Nat} {c:Int} {w W:World} (h:r=([],0,l,c)) (hb:Below w.heap.size w W):CallOf r w (.returned (.tuple #[.slice (some ⟨W.heap.size,0,none⟩) 0 0,.int .i64 0,.int .i64 (l:Nat),.int .i64 c])) (W.alloc (.cells #[] 57)):=
 ⟨_,[],by rw [h];rfl,RowN.lit0 sTok 57 W hb.size,by rw [h];rfl,by simp,hb.alloc hb.size _⟩
theorem ZjQ {m:DMacro} (h:macOk m=true):MacSm m:=by
 have h1:=(ZaD h).1
 exact⟨by omega,by omega,λ k hk=>by rw [(ZbW hk ((ZaD h).2.2 k hk)).2.1];simp⟩
theorem Zlf {T:List DMacro} {N:List ByteArray} {n:Nat} (HE:ExpC T N n) (hn:n<=1000) (hT:∀ m∈T,m.name∈N) (hN:N.length<=5000) (vT:Value) (fpT:List Nat) (csM:List Value) (m:DMacro) (fpM:List Nat) (v:Value) (work:List Tok) (fp:List Nat) (s:Nat) (w:World) (hm:macOk m=true) (hmN:m.name∈N) (hs:s<=n)
  (hwl:work.length<=100) (h1w:1<work.length) (ho:isM work[1] [40]=true) (hH:∀ t∈work,HidIn N t) (HT:(Zaa sMacro).R w [vT] T fpT) (HM:sMacro.R w csM m fpM) (H:(Zaa sTok).R w [v] work fp) :
  Calls Tryz.prog 72 #[vT,.agg csM.toArray,v,.int .i64 s] w (CallOf (callX (λ a k=>expG T n k [] a) m work s) w):=by
 have HM0:=HM
 obtain⟨h2,h3,q2,q3,rfl,knm,K2,K3,-⟩:=HM
 obtain⟨a2,c2,rfl,-⟩:=Zaf K2
 obtain⟨a3,c3,rfl,-⟩:=Zac K3
 obtain⟨aw,cw,rfl,-,-,hroww⟩:=Zac H
 obtain⟨bw,ow,-,rfl,-,-,-⟩:=hroww (by omega)
 clear hroww K2 K3
 have b0:=Zab w (.cells #[.string m.name,.bool m.function,.slice a2 m.params.length c2,.slice a3 m.body.length c3] 70)
 have HX:=Qh (heap_alloc_new w (.cells #[.string m.name,.bool m.function,.slice a2 m.params.length c2,.slice a3 m.body.length c3] 70))
 have HM1:=Qh (sMacro.below HM0 b0)
 have HT1:=Qh ((Zaa sMacro).below HT b0)
 have HW1:=Qh ((Zaa sTok).below H b0)
 have HLT:=Qh ((Zaa sTok).lt H)
 clear HM0 HT H
 go_enter Tryz.func72,Tryz.ntmps72
 go_upto_region 1 with fail
 generalize (w.alloc (.cells #[.string m.name,.bool m.function,.slice a2 m.params.length c2,.slice a3 m.body.length c3] 70))=W1 at *
 have hs1:w.heap.size<W1.heap.size:=mlt HX.out
 have HSPL:Hid (Calls Tryz.prog 98 #[.slice (some ⟨bw,ow,none⟩) work.length cw,.int .i64 1] W1 (ZiZ fp (splK (work.drop 2) 1 [] [] 2) W1)):=Zj0 _ work fp 1 W1 (by omega) h1w ho HW1.out
 have HAin:=Zet (P:=HidIn N) (work.drop 2) 1 [] [] 2 (λ t ht=>hH t (List.mem_of_mem_drop ht)) (by simp) (by simp)
 have HAlen:=ZfF (work.drop 2) 1 [] [] 2 (B:=100) (by simp) (by rw [List.length_drop];simp;omega)
 have HEN:=λ R e h=>Zci (work.drop 2) 1 [] [] 2 (R:=R) (e:=e) h
 rcases hS:splK (work.drop 2) 1 [] [] 2 with⟨AA,en,ok⟩
 rw [hS] at HSPL HAin HAlen
 have HSS:=Qh hS
 have HAI:Hid (∀ a∈AA,∀ t∈a,HidIn N t):=HAin
 have HAL:Hid ((∀ a∈AA,a.length<=100)/\AA.length<=100):=⟨HAlen.1,by have:=HAlen.2;rw [List.length_drop] at this;simp at this;omega⟩
 clear HAin HAlen hS
 unfold ZiZ at HSPL
 try dsimp only at HSPL
 go_wp2_with fail
 refine HSPL.out.mono ?_
 rintro e w2 ⟨vA,A,rfl,RA,hAd,hAlo,hb2⟩
 have hB2:=b0.trans (hb2.mono b0.size)
 have HX2:=Qh (mbox HX.out hb2)
 have HM2:=Qh (sMacro.below HM1.out hb2)
 have HT2:=Qh ((Zaa sMacro).below HT1.out hb2)
 have HW2:=Qh ((Zaa sTok).below HW1.out hb2)
 obtain⟨aA,cA,hvA,-⟩:=RA.val
 subst hvA
 have hAl:A.length=AA.length:=by rw [← hAd,List.length_map]
 obtain⟨fpA,rA,hfA,-⟩:=RA.read
 rw [hAd,hAl] at rA
 rw [hAl] at RA ⊢
 have HRA:=Qh RA
 have HRR:=Qh rA
 have HAD:=Qh hAd
 have HALO:Hid (∀ x∈A,∀ b∈x.fp,b<w2.heap.size):=λ x hx b hb=>sToks.lt (RA.el x hx) b hb
 have HAE:=Qh hAl
 clear HSPL HM1 HT1 HW1 hAlo RA rA hAd hAl hb2 hfA HX
 cases ok
 ·have HF:=Qh (Zmn (f:=λ a k=>expG T n k [] a) (m:=m) (s:=s) HSS.out)
  have hBd:=Zag hB2 1
  go_wp2_with fail
  go_quiet (fail)
  have hbq:=Zag hB2 nq
  generalize w2.drewN nq=wq at *
  go_wp2
  (try simp only [Exit.inBlock,Exit.then]);refine bodyPost_ret (Zcw rfl _ _ _) rfl ?_
  exact CallOf.none HF.out hbq
 have HEE:Hid (2<en/\en<=work.length):=by
  have:=HEN _ _ HSS.out
  show _/\_
  rw [List.length_drop] at this
  omega
 clear HEN
 have hApos:0<AA.length:=Zhw _ _ _ _ _ HSS.out
 obtain⟨g,rfl,hcA⟩:∃ g,aA=some ⟨g,0,none⟩/\AA.length<=cA:=by
  obtain⟨a8,c8,e8,h9,-,h8⟩:=HRA.out.val
  simp only [Value.slice.injEq] at e8
  obtain⟨rfl,-,rfl⟩:=e8
  have hl:=HAE.out
  obtain⟨g,hg,-,-⟩:=h8 (by omega)
  exact⟨g,hg,by omega⟩
 have HCN:=Qh (λ (U:World) (hU:Below w2.heap.size w2 U)=>ZkP _ m fpM _ AA fpA U (sMacro.below HM2.out hU) ((Zaa sToks).below HRR.out hU))
 have HSM:Hid (∀ U:World,Below w2.heap.size w2 U->U.heap[w.heap.size]?=some (.cells #[.string m.name,.bool m.function,.slice a2 m.params.length c2,.slice a3 m.body.length c3] 70 (0,0))):=λ U hU=>mbox HX2.out hU
 have hcs:Below w2.heap.size w2 w2.drew:=Zag (Below.refl _ _) 1
 obtain⟨an,HAN⟩:∃ an,Hid (an=argN m.params.length AA):=⟨argN m.params.length AA,Qh rfl⟩
 rw [show argN m.params.length AA=an from HAN.out.symm] at HCN
 go_upto_region 2 with fail
 go_cut [39] from 23 (λ d wx=>d=.bool ((an:Int) != (m.params.length:Int))/\Below w2.heap.size w2 wx)
 case first =>
  refine wp_region_noPanic ?_
  refine wp_region_held_drew (S:=λ w'=>w'.heap[w.heap.size]?=some (.cells #[.string m.name,.bool m.function,.slice a2 m.params.length c2,.slice a3 m.body.length c3] 70 (0,0))) (by kernel_rfl) (by exact HSM.out _ hcs) (λ hHeld=>?_)
  generalize w2.drew=wd at *
  refine Qt 0 29 rfl rfl ?_
  try simp only [Qp]
  refine Qt 1 30 rfl rfl ?_
  try simp only [Qp]
  refine Qt 2 31 rfl rfl ?_
  try simp only [Qp]
  refine Qt 3 32 rfl rfl ?_ (by intro w hSw;obtain⟨m0,m1,m2,m3⟩:=Q4 hSw;go_simp;(first | done | with_reducible rfl | rfl))
  try simp only [Qp]
  refine Qt 4 33 rfl rfl ?_
  try simp only [Qp]
  refine Qt 6 35 rfl rfl ?_
  try simp only [Qp]
  refine Qt 7 36 rfl rfl ?_ (by intro w hSw;obtain⟨m0,m1,m2,m3⟩:=Q4 hSw;go_simp;(first | done | with_reducible rfl | rfl))
  try simp only [Qp]
  refine Qt 8 37 rfl rfl ?_
  try simp only [Qp]
  refine Qr 5 rfl (λ K hK=>?_)
  go_simp
  refine (HCN.out _ hcs).mono ?_
  rintro e w9 ⟨rfl,hb9⟩
  have hx9:=hcs.trans (hb9.mono hcs.size)
  refine hK.out _ _ (HSM.out _ hx9) (λ hHeld=>?_)
  clear hK K
  try simp only [Qp]
  refine Qt 9 38 rfl rfl ?_
  try simp only [Qp]
  refine Qt 10 39 rfl rfl ?_
  try simp only [Qp]
  refine wpAnyH_done (by kernel_rfl) ?_ _
  refine NoPanic.normal ?_
  clear hHeld
  go_wp2
  go_meet
  case rel=>exact⟨rfl,hx9⟩
 obtain⟨rfl,hbc⟩:=hcut
 generalize wc=w3 at *
 have hB3:=hB2.trans (hbc.mono hB2.size)
 by_cases hfit:an=m.params.length
 rotate_left
 ·have HF:=Qh (Zld (f:=λ a k=>expG T n k [] a) (m:=m) (s:=s) HSS.out (by rw [← HAN.out];exact hfit))
  have e1:((an:Int) != (m.params.length:Int))=true:=by simp;omega
  clear hfit
  go_wp2
  (try simp only [Exit.inBlock,Exit.then]);refine bodyPost_ret (Zcw rfl _ _ _) rfl ?_
  exact CallOf.none HF.out hB3
 have HFIT:Hid (argN m.params.length AA=m.params.length):=by show _=_;rw [← HAN.out];exact hfit
 have e1:((an:Int) != (m.params.length:Int))=false:=by simp;omega
 rw [e1]
 have HPL:Hid (m.params.length<=AA.length):=Zmo HFIT.out
 have hp4:m.params.length<=4:=(ZaD hm).1.2.2.1
 have hbl:=Zab w3 (.cells #[] 28)
 have HR0:=Qh (RowN.lit0 sToks 28 w3 (Nat.le_refl _))
 have hb24:=hbc
 have hs23:=hbc.size
 have HX4:=Qh (mbox HX2.out hb24)
 have HM4:=Qh (sMacro.below HM2.out hb24)
 have HT4:=Qh ((Zaa sMacro).below HT2.out hb24)
 have HW4:=Qh ((Zaa sTok).below HW2.out hb24)
 have HRR4:=Qh ((Zaa sToks).below HRR.out hb24)
 have HRA4:=Qh (HRA.out.below hb24)
 have hB4:=hB2.trans (hb24.mono hB2.size)
 clear hfit HM2 HT2 HW2 HRR HRA hbc hb24 HCN HSM hcs HX2
 go_upto_region 5 with fail
 clear e1
 have hs34:=hbl.size
 generalize (w3.alloc (.cells #[] 28))=w4 at *
 go_wp2
 go_loopw [3,15,16] (λ vs vr i wr=>∃ (k s':Nat) (R:List (Elem (List Tok))),k<=m.params.length/\i=.int .i64 k/\vs=.int .i64 s'/\s'<=s/\Hid (AccA (λ a k=>expG T n k [] a) (AA.take m.params.length) s k s' (R.map (·.d)))/\Hid (RowN sToks w3.heap.size 28 vr R wr)/\Hid (R.length=k)/\Hid (∀ x∈R,x.d.length<=60/\∀ t∈x.d,HidIn N t)/\Below w3.heap.size w3 wr) (λ _ _ i _=>m.params.length-(intOf i).toNat)
 case atStart=>exact⟨0,s,[],by omega,rfl,rfl,Nat.le_refl _,AccA.start _ _ _,HR0.out,rfl,(λ x hx=>by simp at hx),hbl⟩
 case round =>
  clear HR0
  obtain⟨k,s',R,hk,rfl,rfl,hss,HACC,HRN,HRK,HSM,hb⟩:=hrel
  obtain⟨ar,cr,hvr,-⟩:=HRN.out.val
  rw [HRK.out] at hvr
  subst hvr
  have HXr:=Qh (mbox HX4.out hb)
  have hBr:=hB4.trans (hb.mono hB4.size)
  have m2:=Qc 2 HXr.out
  by_cases hlt:k<m.params.length
  ·have hkA:k<A.length:=by have:=HPL.out;have:=HAE.out;omega
   have hkAA:k<AA.length:=by have:=HPL.out;omega
   have hkP:k<(AA.take m.params.length).length:=by rw [List.length_take];omega
   have HPK:Hid ((AA.take m.params.length)[k]=AA[k]):=List.getElem_take
   have HDK:Hid ((A[k]'hkA).d=AA[k]):=by
    have:=List.getElem_of_eq HAD.out (i:=k) (by rw [List.length_map];exact hkA)
    rw [List.getElem_map] at this
    exact this
   have RX:=HRA4.out.el (A[k]'hkA) (List.getElem_mem hkA)
   have hxlen:=HRA4.out.len (A[k]'hkA) (List.getElem_mem hkA)
   have RX0:=RX
   obtain⟨ak,ck,hck,-⟩:=Zac (S:=sTok) (by
    have:(A[k]'hkA).cells=[(A[k]'hkA).cells[0]'(by rw [hxlen];decide)]:=by
     match hc:(A[k]'hkA).cells,hxlen with
     | [u],_=>rfl
    rw [this] at RX
    exact RX)
   have hcell:(A[k]'hkA).cells=[.slice ak (A[k]'hkA).d.length ck]:=by
    match hc:(A[k]'hkA).cells,hxlen with
    | [u],_=>simp only [hc,List.getElem_cons_zero] at hck;rw [hck]
   rw [hcell] at RX0
   have q0:w3.cell? ⟨g,k,none⟩=some (.slice ak (A[k]'hkA).d.length ck):=by
    have:=HRA4.out.cellAt hkA (j:=0) (by decide) (u:=.slice ak (A[k]'hkA).d.length ck) (by rw [hcell];rfl)
    rw [show k * sToks.m+0=k from by show k * 1+0=k;omega] at this
    exact this
   have q1:wr.cell? ⟨g,k,none⟩=some (.slice ak (A[k]'hkA).d.length ck):=(hb.cell (p:=⟨g,k,none⟩) (HRA4.out.mine g rfl).2).trans q0
   have HXF:Hid (∀ b∈(A[k]'hkA).fp,b<w2.heap.size):=HALO.out _ (List.getElem_mem hkA)
   rw [HDK.out] at q1 RX0
   have hal:=HAL.out.1 _ (List.getElem_mem hkAA)
   have HEX:=Qh (HE vT fpT _ AA[k] _ s' wr (by omega) hal (HAI.out _ (List.getElem_mem hkAA)) ((Zaa sMacro).below HT4.out hb) (sToks.below RX0 hb))
   have HXL:=Qh (Zmi T n AA[k] s' [] (by simp))
   have HXI:=Qh (Zic hT n AA[k] s' [] (by simp) (HAI.out _ (List.getElem_mem hkAA)))
   have HXS:=Qh (Zia T n AA[k] s' [])
   rcases hx:expG T n s' [] AA[k] with⟨x,lf,c⟩
   rw [hx] at HEX HXL HXI HXS
   have HFX:Hid ((λ a k=>expG T n k [] a) ((AA.take m.params.length)[k]'hkP) s'=(x,lf,c)):=by show expG T n s' [] _=_;rw [HPK.out];exact hx
   unfold XpOf at HEX
   try dsimp only at HEX
   have i0:(0:Int)<=(k:Int):=by omega
   have i1:(k:Int)<(AA.length:Int):=by omega
   clear hx q0 hck hcell RX RX0 hxlen
   generalize AA[k]=ak_ at *
   go_wp2_with fail
   refine HEX.out.mono ?_
   rintro e w5 ⟨vx,L,rfl,RL,hLd,hLf,hb5⟩
   clear m2 q1 HEX
   have hB5:=hBr.trans (hb5.mono hBr.size)
   have hb45:=hb.trans (hb5.mono hb.size)
   obtain⟨ax,cx,hvx,-⟩:=RL.val
   subst hvx
   obtain⟨fx,rx,hfx,-⟩:=RL.read
   rw [hLd] at rx
   have hLx:L.length=x.length:=by rw [← hLd,List.length_map]
   rw [hLx] at rx ⊢
   by_cases hc0:c=0
   rotate_left
   ·have HF:=Qh (ZjP (f:=λ a k=>expG T n k [] a) (m:=m) HSS.out HFIT.out (HACC.out.stop hkP HFX.out hc0) hc0)
    have e2:(c != 0)=true:=by simp [hc0]
    clear hc0
    go_wp2
    (try simp only [Exit.inBlock,Exit.then]);refine bodyPost_ret (Zcw rfl _ _ _) rfl ?_
    exact CallOf.none HF.out hB5
   subst hc0
   have HN:=Qh (HACC.out.step hkP HFX.out)
   have HRN5:=Qh (HRN.out.below hb5)
   have bl:=Zab w5 (.cells #[.slice ax x.length cx] 28)
   have HL6:=Qh (heap_alloc_new w5 (.cells #[.slice ax x.length cx] 28))
   have HRN6:=Qh (HRN5.out.below bl)
   have RX6:=Qh (sToks.below rx bl)
   have hb46:=hb45.trans (bl.mono hb45.size)
   have hwr4:=hb.size
   have HVX:Hid (∀ b∈fx,(Value.slice ar k cr).ownBlock≠some b):=λ b hb' h=>by
    have h1:=(HRN.out.mine b h)
    rcases hfx b hb' with h2 | ⟨y,hy,h2⟩
    ·have:=(RL.mine b h2).1;omega
    ·rcases hLf y hy b h2 with h3 | h3
     ·have:=HXF.out b h3;omega
     ·omega
   have hlx:Hid (x.length<=60/\(∀ t∈x,HidIn N t)/\lf<=s'):=⟨HXL.out,HXI.out,HXS.out⟩
   clear RL hLd hLf hfx rx hLx HXL HXI HXS HRN5 bl
   go_upto_region 7 with(at_builtin;refine ZaG (X:=[(⟨[.slice ax x.length cx],x,fx⟩:Elem (List Tok))]) Zd3 rfl (by decide) _ rfl (.tmp 67) (.tmp 69) rfl w3.heap.size (.slice ar k cr) rfl HRN6.out ⟨w5.heap.size,0,none⟩ 1 1 rfl rfl (λ y hy=>by obtain rfl:=Qm hy;exact⟨rfl,RX6.out,HVX.out⟩) (λ y hy u hu=>by obtain rfl:=Qm hy;rw [Qm hu];rfl) (λ j u hj=>by rw [ZaI,Nat.zero_add,cell_of_row _ _ _ _ _ _ HL6.out];simpa using hj) (by have:=HRK.out;unfold maxLen;omega) (by have:=HRK.out;omega) (by have:=hb46.size;omega) ?_;intro v7 w7 hR7 hg7 hp7)
   have hmine:=HRN6.out.mine
   have HB7:=Qh (hb46.grown hg7 hb46.size (λ b hb'=>(hmine b hb').1))
   have HR7:=Qh hR7
   have HS7:Hid (∀ y∈R++[(⟨[.slice ax x.length cx],x,fx⟩:Elem (List Tok))],y.d.length<=60/\∀ t∈y.d,HidIn N t):=λ y hy=>by
    rcases Qa hy with hy | hy
    ·exact HSM.out y hy
    ·rw [Qm hy];exact⟨hlx.out.1,hlx.out.2.1⟩
   clear hR7 hg7 hp7
   go_wp2
   go_roundw
   have HN7:Hid (AccA (λ a k=>expG T n k [] a) (AA.take m.params.length) s (k+1) lf ((R++[(⟨[.slice ax x.length cx],x,fx⟩:Elem (List Tok))]).map (·.d))):=by show AccA _ _ _ _ _ _;rw [List.map_append];exact HN.out
   have HK7:Hid ((R++[(⟨[.slice ax x.length cx],x,fx⟩:Elem (List Tok))]).length=k+1):=by show _=_;rw [List.length_append,HRK.out];rfl
   have hlf:lf<=s:=by have:=hlx.out.2.2;omega
   case rel=>first | exact⟨k+1,lf,_,by omega,by go_num,rfl,hlf,HN7,HR7,HK7,HS7,HB7.out⟩ | ((repeat apply Exists.intro);exact⟨⟨k+1,lf,_,by omega,by go_num,rfl,hlf,HN7,HR7,HK7,HS7,HB7.out⟩,rfl⟩)
   case measure=>simp [intOf];omega
  ·have hke:k=m.params.length:=by omega
   have HAR:=Qh (HACC.out.done (by rw [List.length_take];omega))
   obtain⟨fr,rr,-,-⟩:=HRN.out.read
   obtain⟨fT,rT,-⟩:=Zbv (S:=sToks) m.params.length HPL.out HRR4.out
   have hRl:(R.map (·.d)).length<=1048576:=by rw [List.length_map,HRK.out];omega
   have hTl:(AA.take m.params.length).length<=1048576:=by rw [List.length_take];omega
   have hTs:Zgo (AA.take m.params.length):=λ j hj=>by
    have hmem:=List.mem_of_mem_take (List.getElem_mem hj)
    refine ⟨by have:=HAL.out.1 _ hmem;omega,λ q hq=>?_⟩
    have:=(HAI.out _ hmem _ (List.getElem_mem hq)).len
    omega
   have hRs:Zgo (R.map (·.d)):=λ j hj=>by
    obtain⟨y,hy,e⟩:=List.mem_map.1 (List.getElem_mem hj)
    rw [← e]
    obtain⟨h1,h2⟩:=HSM.out y hy
    refine ⟨by omega,λ q hq=>?_⟩
    have:=(h2 _ (List.getElem_mem hq)).len
    omega
   have HSB:=Qh (λ (U:World) (hU:Below wr.heap.size wr U)=>ZeI _ m fpM (.slice (some ⟨g,0,none⟩) m.params.length cA) (.slice ar k cr) (AA.take m.params.length) (R.map (·.d)) fT fr U (ZjQ hm) hTl hRl hTs hRs (sMacro.below (sMacro.below HM4.out hb) hU) ((Zaa sToks).below ((Zaa sToks).below rT hb) hU) ((Zaa sToks).below rr hU))
   have HSIN:Hid (∀ t∈(Zar m (AA.take m.params.length) (R.map (·.d))).1,HidIn N t):=Zgf (λ l hl=>HAI.out l (List.mem_of_mem_take hl)) (λ l hl=>by obtain⟨y,hy,rfl⟩:=List.mem_map.1 hl;exact(HSM.out y hy).2)
   have HSLN:Hid ((Zar m (AA.take m.params.length) (R.map (·.d))).1.length<=240):=by
    show _<=_
    unfold Zar
    split
    ·split
     ·simp
     ·rename_i h;omega
    ·simp
   rcases hsub:Zar m (AA.take m.params.length) (R.map (·.d)) with⟨bd,okb⟩
   unfold Zik at HSB
   rw [hsub] at HSB HSIN HSLN
   try dsimp only at HSB
   have HSUB:=Qh hsub
   have HSX:Hid (∀ U:World,Below wr.heap.size wr U->U.heap[w.heap.size]?=some (.cells #[.string m.name,.bool m.function,.slice a2 m.params.length c2,.slice a3 m.body.length c3] 70 (0,0))):=λ U hU=>mbox HXr.out hU
   have hcs:Below wr.heap.size wr wr.drew:=Zag (Below.refl _ _) 1
   have p1:(0:Int)<=(m.params.length:Int):=by omega
   have p2:(m.params.length:Int)<=(AA.length:Int):=by have:=HPL.out;omega
   have p3:m.params.length<=AA.length:=HPL.out
   have p4:m.params.length<=cA:=by omega
   have p5:(m.params.length:Int)<=(cA:Int):=by omega
   clear hsub rr rT hRl hTl hTs hRs hke
   go_upto_region 13 with fail
   clear m2
   go_cut [20,21] from 23 (λ b o wx=>∃ (v:Value) (fb:List Nat),b=v/\o=.bool okb/\(Zaa sTok).R wx [v] bd fb/\(∀ b∈fb,wr.heap.size<=b)/\Below wr.heap.size wr wx)
   case first =>
    refine wp_region_noPanic ?_
    refine wp_region_held_drew (S:=λ w'=>w'.heap[w.heap.size]?=some (.cells #[.string m.name,.bool m.function,.slice a2 m.params.length c2,.slice a3 m.body.length c3] 70 (0,0))) (by kernel_rfl) (by exact HSX.out _ hcs) (λ hHeld=>?_)
    generalize wr.drew=wd at *
    refine Qt 0 72 rfl rfl ?_ (by intro w hSw;obtain⟨m0,m1,m2,m3⟩:=Q4 hSw;go_simp;(first | done | with_reducible rfl | rfl))
    try simp only [Qp]
    refine Qt 1 73 rfl rfl ?_
    try simp only [Qp]
    refine Qt 2 74 rfl rfl ?_
    try simp only [Qp]
    refine Qt 3 75 rfl rfl ?_ (by intro w hSw;obtain⟨m0,m1,m2,m3⟩:=Q4 hSw;go_simp;(first | done | with_reducible rfl | rfl))
    try simp only [Qp]
    refine Qt 4 76 rfl rfl ?_
    try simp only [Qp]
    refine Qt 5 77 rfl rfl ?_
    try simp only [Qp]
    refine Qt 6 78 rfl rfl ?_
    try simp only [Qp]
    refine Qr 7 rfl (λ K hK=>?_)
    go_simp
    refine (HSB.out _ hcs).mono ?_
    rintro e w9 ⟨vb,fb,rfl,Rb,hfb,hb9⟩
    have hx9:=hcs.trans (hb9.mono hcs.size)
    have hfb2:∀ b∈fb,wr.heap.size<=b:=λ b hb=>Nat.le_trans hcs.size (hfb b hb)
    refine hK.out _ _ (HSX.out _ hx9) (λ hHeld=>?_)
    clear hK K
    try simp only [Qp]
    refine Qt 8 71 rfl rfl ?_
    try simp only [Qp]
    refine Qt 9 80 rfl rfl ?_
    try simp only [Qp]
    refine Qt 10 81 rfl rfl ?_
    try simp only [Qp]
    refine Qt 11 20 rfl rfl ?_
    try simp only [Qp]
    refine Qt 12 21 rfl rfl ?_
    try simp only [Qp]
    refine wpAnyH_done (by kernel_rfl) ?_ _
    refine NoPanic.normal ?_
    clear hHeld
    go_wp2
    go_meet
    case rel=>exact⟨vb,fb,rfl,rfl,Rb,hfb2,hx9⟩
   obtain⟨vb,fb,rfl,rfl,Rb,hfb,hb6⟩:=hcut
   generalize wc=w6 at *
   have hBr6:=hBr.trans (hb6.mono hBr.size)
   have hb36:=hb.trans (hb6.mono hb.size)
   cases okb
   ·have HF:=Qh (Zil (f:=λ a k=>expG T n k [] a) (m:=m) HSS.out HFIT.out HAR.out HSUB.out)
    go_wp2
    (try simp only [Exit.inBlock,Exit.then]);refine bodyPost_ret (Zcw rfl _ _ _) rfl ?_
    exact CallOf.none HF.out hBr6
   obtain⟨ab,cb,rfl,-⟩:=Zac Rb
   have HF0:=Qh (Zle (f:=λ a k=>expG T n k [] a) (m:=m) HSS.out HFIT.out HAR.out HSUB.out)
   have h0w:0<work.length:=by omega
   have hew:en-1<work.length:=by have:=HEE.out;omega
   have HF:Hid (callX (λ a k=>expG T n k [] a) m work s=(putL bd (ins (both (work[0]'h0w).hidden (work[en-1]'hew).hidden) m.name) (work[0]'h0w).spaced,en,s',0)):=by
    show _=_
    rw [HF0.out]
    have e1:work.headD zTok=work[0]'h0w:=by
     cases work with
     | nil=>simp at h0w
     | cons t r=>rfl
    have e2:work.getD (en-1) zTok=work[en-1]'hew:=by rw [List.getD_eq_getElem?_getD,List.getElem?_eq_getElem hew];rfl
    rw [e1,e2]
   obtain⟨xa,xc,xf,-,-,x2,x3,xR,hbbw,-⟩:=ZaJ HW4.out h0w
   obtain⟨ya,yc,yf,-,-,-,y3,yR,-,-⟩:=ZaJ HW4.out hew
   have HI0:=Qh (hH _ (List.getElem_mem h0w)).len
   have HI1:=Qh (hH _ (List.getElem_mem hew)).len
   generalize work[0]'h0w=t0 at *
   generalize work[en-1]'hew=t1 at *
   have KX:(Zaa sStr).R w3 [.slice xa t0.hidden.length xc] t0.hidden xf:=by
    obtain⟨hv,hcs,-,-,K⟩:=xR
    simp only [List.cons.injEq,and_true,true_and] at hcs
    subst hcs;exact K
   have KY:(Zaa sStr).R w3 [.slice ya t1.hidden.length yc] t1.hidden yf:=by
    obtain⟨hv,hcs,-,-,K⟩:=yR
    simp only [List.cons.injEq,and_true,true_and] at hcs
    subst hcs;exact K
   have HXU:Hid (∀ U:World,Below w6.heap.size w6 U->U.heap[w.heap.size]?=some (.cells #[.string m.name,.bool m.function,.slice a2 m.params.length c2,.slice a3 m.body.length c3] 70 (0,0))/\U.cell? ⟨bw,ow+3,none⟩=some (.slice xa t0.hidden.length xc)/\U.cell? ⟨bw,ow+(en-1) * 4+3,none⟩=some (.slice ya t1.hidden.length yc)):=λ U hU=>by
    have hbU:=hb36.trans (hU.mono hb36.size)
    refine ⟨mbox HX4.out hbU,(hbU.cell (p:=⟨bw,ow+3,none⟩) hbbw).trans ?_,(hbU.cell (p:=⟨bw,ow+(en-1) * 4+3,none⟩) hbbw).trans y3⟩
    simpa using x3
   have hx2:Hid (∀ U:World,Below w6.heap.size w6 U->U.cell? ⟨bw,ow+2,none⟩=some (.bool t0.spaced)):=λ U hU=>by
    have hbU:=hb36.trans (hU.mono hb36.size)
    refine (hbU.cell (p:=⟨bw,ow+2,none⟩) hbbw).trans ?_
    simpa using x2
   have hbl9:(both t0.hidden t1.hidden).length<=5000:=by have:=Zft t0.hidden t1.hidden;have:=HI0.out;omega
   have HBO:=Qh (λ (U:World) (hU:Below w6.heap.size w6 U)=>ZgZ (.slice xa t0.hidden.length xc) (.slice ya t1.hidden.length yc) t0.hidden t1.hidden _ _ U (by have:=HI0.out;omega) ((Zaa sStr).below KX (hb36.trans (hU.mono hb36.size))) ((Zaa sStr).below KY (hb36.trans (hU.mono hb36.size))))
   have HUN:=Qh (λ (U:World) (vu vn:Value) (fu fn:List Nat) (h1:(Zaa sStr).R U [vu] (both t0.hidden t1.hidden) fu) (h2:(Zaa sStr).R U [vn] [m.name] fn)=>Zgl vu vn (both t0.hidden t1.hidden) m.name fu fn U (by omega) h1 h2)
   have hcs6:Below w6.heap.size w6 w6.drew:=Zag (Below.refl _ _) 1
   have n1:IntKind.i64.wrap ((en:Int)-1)=(en:Int)-1:=IntWalk.i64_in _ (by have:=HEE.out;omega)
   have n2:(0:Int)<=(en:Int)-1:=by have:=HEE.out;omega
   have n3:(en:Int)-1<(work.length:Int):=by have:=HEE.out;omega
   have n4:((en:Int)-1).toNat=en-1:=by have:=HEE.out;omega
   have n5:(1:Int)<=(en:Int):=by have:=HEE.out;omega
   have n6:(0:Int)<(work.length:Int):=by omega
   have knm2:m.name.size<=maxLen:=knm
   clear x2 x3 y3 xR yR KX KY HSB HSX hcs p1 p2 p3 p4 p5
   go_upto_region 16 with fail
   go_cut [22] from 23 (λ d wx=>∃ (au:Option Addr) (cu:Nat) (fh:List Nat),d=.slice au (ins (both t0.hidden t1.hidden) m.name).length cu/\(Zaa sStr).R wx [.slice au (ins (both t0.hidden t1.hidden) m.name).length cu] (ins (both t0.hidden t1.hidden) m.name) fh/\Below w6.heap.size w6 wx)
   case first =>
    refine wp_region_noPanic ?_
    refine wp_region_held_drew (S:=λ w'=>w'.heap[w.heap.size]?=some (.cells #[.string m.name,.bool m.function,.slice a2 m.params.length c2,.slice a3 m.body.length c3] 70 (0,0))/\w'.cell? ⟨bw,ow+3,none⟩=some (.slice xa t0.hidden.length xc)/\w'.cell? ⟨bw,ow+(en-1) * 4+3,none⟩=some (.slice ya t1.hidden.length yc)) (by kernel_rfl) (by exact HXU.out _ hcs6) (λ hHeld=>?_)
    generalize w6.drew=wd at *
    refine Qt 0 86 rfl rfl ?_
    try simp only [Qp]
    refine Qt 1 87 rfl rfl ?_
    try simp only [Qp]
    refine Qt 2 88 rfl rfl ?_
    try simp only [Qp]
    refine Qt 3 89 rfl rfl ?_ (by intro w hSw;obtain⟨sm,sx,sy⟩:=hSw;have m0:=Qc 0 sm;go_simp;(first | done | with_reducible rfl | rfl))
    try simp only [Qp]
    refine Qt 4 90 rfl rfl ?_
    try simp only [Qp]
    refine Qt 5 91 rfl rfl ?_
    try simp only [Qp]
    refine Qt 6 92 rfl rfl ?_
    try simp only [Qp]
    refine Qt 7 93 rfl rfl ?_
    try simp only [Qp]
    refine Qt 8 94 rfl rfl ?_
    try simp only [Qp]
    refine Qt 9 95 rfl rfl ?_ (by intro w hSw;obtain⟨sm,sx,sy⟩:=hSw;have m0:=Qc 0 sm;go_simp;(first | done | with_reducible rfl | rfl))
    try simp only [Qp]
    refine Qt 11 97 rfl rfl ?_
    try simp only [Qp]
    refine Qt 12 98 rfl rfl ?_ (by intro w hSw;obtain⟨sm,sx,sy⟩:=hSw;have m0:=Qc 0 sm;go_simp;(first | done | with_reducible rfl | rfl))
    try simp only [Qp]
    refine wpAnyH_ready (rs:=[10,13]) (by kernel_rfl) (by simp) ?_
    refine AllReadyH.cons rfl (λ K hK=>?_) ?_
    ·skip
     go_simp
     refine (HBO.out _ hcs6).mono ?_
     rintro e wx1 ⟨vb_,fb_,rfl,RB,-,br⟩
     have hx1:=hcs6.trans (br.mono hcs6.size)
     refine hK.out _ _ (HXU.out _ hx1) (λ hHeld=>?_)
     clear hK K
     try simp only [Qp]
     refine Qr 13 rfl (λ K hK=>?_)
     go_simp
     have bk:=Zab wx1 (.cells #[.string m.name] 9)
     have RL:=ZbX (heap_alloc_new wx1 (.cells #[.string m.name] 9)) knm2
     have hx2:=hx1.trans (bk.mono hx1.size)
     replace RB:=(Zaa sStr).below RB bk
     refine hK.out _ _ (HXU.out _ hx2) (λ hHeld=>?_)
     clear hK K bk
     try simp only [Qp]
     generalize (wx1.alloc (.cells #[.string m.name] 9))=wx2 at *
     refine Qr 14 rfl (λ K hK=>?_)
     go_simp
     refine (HUN.out wx2 _ _ _ _ RB RL).mono ?_
     rintro e wz ⟨an_,cn_,fn_,rfl,Rn_,-,-,hbz⟩
     have hxz:=hx2.trans (hbz.mono hx2.size)
     refine hK.out _ _ (HXU.out _ hxz) (λ hHeld=>?_)
     clear hK K
     try simp only [Qp]
     refine Qt 15 22 rfl rfl ?_
     try simp only [Qp]
     refine wpAnyH_done (by kernel_rfl) ?_ _
     refine NoPanic.normal ?_
     clear hHeld
     go_wp2
     go_meet
     case rel=>exact⟨an_,cn_,fn_,rfl,Rn_,hxz⟩
    refine AllReadyH.cons rfl (λ K hK=>?_) AllReadyH.nil
    go_simp
    have bk:=Zab wd (.cells #[.string m.name] 9)
    have RL:=ZbX (heap_alloc_new wd (.cells #[.string m.name] 9)) knm2
    have hx3:=hcs6.trans (bk.mono hcs6.size)
    refine hK.out _ _ (HXU.out _ hx3) (λ hHeld=>?_)
    clear hK K bk
    try simp only [Qp]
    generalize (wd.alloc (.cells #[.string m.name] 9))=wx3 at *
    refine Qr 10 rfl (λ K hK=>?_)
    go_simp
    refine (HBO.out _ hx3).mono ?_
    rintro e wx4 ⟨vb_,fb_,rfl,RB,-,br⟩
    have hx4:=hx3.trans (br.mono hx3.size)
    replace RL:=(Zaa sStr).below RL br
    refine hK.out _ _ (HXU.out _ hx4) (λ hHeld=>?_)
    clear hK K
    try simp only [Qp]
    refine Qr 14 rfl (λ K hK=>?_)
    go_simp
    refine (HUN.out wx4 _ _ _ _ RB RL).mono ?_
    rintro e wz ⟨an_,cn_,fn_,rfl,Rn_,-,-,hbz⟩
    have hxz:=hx4.trans (hbz.mono hx4.size)
    refine hK.out _ _ (HXU.out _ hxz) (λ hHeld=>?_)
    clear hK K
    try simp only [Qp]
    refine Qt 15 22 rfl rfl ?_
    try simp only [Qp]
    refine wpAnyH_done (by kernel_rfl) ?_ _
    refine NoPanic.normal ?_
    clear hHeld
    go_wp2
    go_meet
    case rel=>exact⟨an_,cn_,fn_,rfl,Rn_,hxz⟩
   obtain⟨au,cu,fh,rfl,Rh,hb7⟩:=hcut
   generalize wc=w7 at *
   have hBr7:=hBr6.trans (hb7.mono hBr6.size)
   have x2:=hx2.out _ hb7
   have hil:(ins (both t0.hidden t1.hidden) m.name).length<=5001:=by have:=Zfu m.name (both t0.hidden t1.hidden);omega
   have HPUT:=Qh (Zg3 (.slice ab bd.length cb) bd fb _ _ fh t0.spaced w7 (by have h240:bd.length<=240:=HSLN.out;omega) (λ q hq=>by have hq2:HidIn N bd[q]:=HSIN.out _ (List.getElem_mem hq);have:=hq2.len;omega) ((Zaa sTok).below Rb hb7) Rh)
   clear HBO HUN hcs6 Rb
   go_wp2_with fail
   refine HPUT.out.mono ?_
   rintro e w8 ⟨v8,L8,rfl,R8,D8,F8,hb8⟩
   have hBr8:=hBr7.trans (hb8.mono hBr7.size)
   have R8F:=Qh (R8.lower (base':=w.heap.size) hBr7.size)
   have D8F:=Qh D8
   have F8F:Hid (∀ x∈L8,∀ b∈x.fp,w.heap.size<=b):=λ x hx b hb'=>Nat.le_trans hBr7.size (F8 x hx b hb')
   obtain⟨a8,c8,hv8,-⟩:=R8.val
   subst hv8
   clear R8 D8 F8 HPUT
   go_wp2
   (try simp only [Exit.inBlock,Exit.then]);refine bodyPost_ret (Zcw rfl _ _ _) rfl ?_
   exact⟨_,L8,by rw [HF.out];rfl,R8F.out,by rw [HF.out];exact D8F.out,F8F.out,hBr8⟩
def set7 (w:World) (g:Nat) (v0 v1 v2 v3 v4 v5 v6:Value):World:=((((((w.setCell ⟨g,0,none⟩ v0).setCell ⟨g,1,none⟩ v1).setCell ⟨g,2,none⟩ v2).setCell ⟨g,3,none⟩ v3).setCell ⟨g,4,none⟩ v4).setCell ⟨g,5,none⟩ v5).setCell ⟨g,6,none⟩ v6
theorem Zi0 {w:World} {g:Nat} {z0 z1 z2 z3 z4 z5 z6:Value} {ty:TypeId} (h:w.heap[g]?=some (.cells #[z0,z1,z2,z3,z4,z5,z6] ty (0,0))) (v0 v1 v2 v3 v4 v5 v6:Value) :
  (set7 w g v0 v1 v2 v3 v4 v5 v6).heap[g]?=some (.cells #[v0,v1,v2,v3,v4,v5,v6] ty (0,0)):=by
 have h0:(w.setCell ⟨g,0,none⟩ v0).heap[g]?=some (.cells #[v0,z1,z2,z3,z4,z5,z6] ty (0,0)):=Zah h 0 v0
 have h1:((w.setCell ⟨g,0,none⟩ v0).setCell ⟨g,1,none⟩ v1).heap[g]?=some (.cells #[v0,v1,z2,z3,z4,z5,z6] ty (0,0)):=Zah h0 1 v1
 have h2:(((w.setCell ⟨g,0,none⟩ v0).setCell ⟨g,1,none⟩ v1).setCell ⟨g,2,none⟩ v2).heap[g]?=some (.cells #[v0,v1,v2,z3,z4,z5,z6] ty (0,0)):=Zah h1 2 v2
 have h3:((((w.setCell ⟨g,0,none⟩ v0).setCell ⟨g,1,none⟩ v1).setCell ⟨g,2,none⟩ v2).setCell ⟨g,3,none⟩ v3).heap[g]?=some (.cells #[v0,v1,v2,v3,z4,z5,z6] ty (0,0)):=Zah h2 3 v3
 have h4:(((((w.setCell ⟨g,0,none⟩ v0).setCell ⟨g,1,none⟩ v1).setCell ⟨g,2,none⟩ v2).setCell ⟨g,3,none⟩ v3).setCell ⟨g,4,none⟩ v4).heap[g]?=some (.cells #[v0,v1,v2,v3,v4,z5,z6] ty (0,0)):=Zah h3 4 v4
 have h5:((((((w.setCell ⟨g,0,none⟩ v0).setCell ⟨g,1,none⟩ v1).setCell ⟨g,2,none⟩ v2).setCell ⟨g,3,none⟩ v3).setCell ⟨g,4,none⟩ v4).setCell ⟨g,5,none⟩ v5).heap[g]?=some (.cells #[v0,v1,v2,v3,v4,v5,z6] ty (0,0)):=Zah h4 5 v5
 have h6:(((((((w.setCell ⟨g,0,none⟩ v0).setCell ⟨g,1,none⟩ v1).setCell ⟨g,2,none⟩ v2).setCell ⟨g,3,none⟩ v3).setCell ⟨g,4,none⟩ v4).setCell ⟨g,5,none⟩ v5).setCell ⟨g,6,none⟩ v6).heap[g]?=some (.cells #[v0,v1,v2,v3,v4,v5,v6] ty (0,0)):=Zah h5 6 v6
 exact h6
theorem ZfG {w:World} {g b:Nat} (h:b≠g) (v0 v1 v2 v3 v4 v5 v6:Value):(set7 w g v0 v1 v2 v3 v4 v5 v6).heap[b]?=w.heap[b]?:=by
 unfold set7
 rw [Below.heap_setCell _ _ _ _ h,Below.heap_setCell _ _ _ _ h,Below.heap_setCell _ _ _ _ h,Below.heap_setCell _ _ _ _ h,Below.heap_setCell _ _ _ _ h,Below.heap_setCell _ _ _ _ h,Below.heap_setCell _ _ _ _ h]
theorem ZfH {B:Nat} {w0 w:World} (hB:Below B w0 w) {g:Nat} (hg:B<=g) (v0 v1 v2 v3 v4 v5 v6:Value):Below B w0 (set7 w g v0 v1 v2 v3 v4 v5 v6):=
 ((((((hB.setCell (p:=⟨g,0,none⟩) hg v0).setCell (p:=⟨g,1,none⟩) hg v1).setCell (p:=⟨g,2,none⟩) hg v2).setCell (p:=⟨g,3,none⟩) hg v3).setCell (p:=⟨g,4,none⟩) hg v4).setCell (p:=⟨g,5,none⟩) hg v5).setCell (p:=⟨g,6,none⟩) hg v6
theorem Shape.set7R {α:Type} (S:Shape α) {w:World} {g:Nat} {cs:List Value} {d:α} {fp:List Nat} (h:S.R w cs d fp) (hn:g∉fp) (v0 v1 v2 v3 v4 v5 v6:Value):S.R (set7 w g v0 v1 v2 v3 v4 v5 v6) cs d fp:=
 S.frame (λ b hb=>ZfG (λ e:b=g=>hn (by rw [← e];exact hb)) v0 v1 v2 v3 v4 v5 v6) h
def useR (m:DMacro) (l:List Tok):Option (Args × Nat × List ByteArray):=
 if m.function=false then some ([],1,ins (l.headD zTok).hidden m.name)
 else if (splK (l.drop 2) 1 [] [] 2).2.2=true/\argN m.params.length (splK (l.drop 2) 1 [] [] 2).1=m.params.length then
  some ((splK (l.drop 2) 1 [] [] 2).1.take m.params.length,(splK (l.drop 2) 1 [] [] 2).2.1,ins (both (l.headD zTok).hidden (l.getD ((splK (l.drop 2) 1 [] [] 2).2.1-1) zTok).hidden) m.name)
 else none
theorem Zlg {m:DMacro} {l:List Tok} (h0:0<l.length) (h:m.function=false):useR m l=some ([],1,ins l[0].hidden m.name):=by
 unfold useR
 rw [if_pos h]
 cases l with
 | nil=>simp at h0
 | cons t r=>rfl
theorem Zmp {m:DMacro} {l:List Tok} (h:m.function=true) {A:Args} {e:Nat} (hs:splK (l.drop 2) 1 [] [] 2=(A,e,false)):useR m l=none:=by
 unfold useR
 rw [if_neg (by simp [h]),hs,if_neg (by simp)]
theorem Zlh {m:DMacro} {l:List Tok} (h:m.function=true) {A:Args} {e:Nat} {b:Bool} (hs:splK (l.drop 2) 1 [] [] 2=(A,e,b)) (hn:argN m.params.length A≠m.params.length):useR m l=none:=by
 unfold useR
 rw [if_neg (by simp [h]),hs,if_neg (λ h=>hn h.2)]
theorem useR_yes {m:DMacro} {l:List Tok} (h0:0<l.length) (h:m.function=true) {A:Args} {e:Nat} (he:e-1<l.length) (hs:splK (l.drop 2) 1 [] [] 2=(A,e,true)) (hn:argN m.params.length A=m.params.length):useR m l=some (A.take m.params.length,e,ins (both l[0].hidden l[e-1].hidden) m.name):=by
 unfold useR
 rw [if_neg (by simp [h]),hs,if_pos ⟨rfl,hn⟩]
 have e2:l.getD (e-1) zTok=l[e-1]:=by rw [List.getD_eq_getElem?_getD,List.getElem?_eq_getElem he];rfl
 simp only [e2]
 cases l with
 | nil=>simp at h0
 | cons t r=>rfl
def UseOf (m:DMacro) (csM:List Value) (l:List Tok) (w:World) (e:Ending) (w':World):Prop:=
 (useR m l=none/\e=.returned (.tuple #[.agg #[.string ⟨#[]⟩,.bool false,.slice none 0 0,.slice none 0 0,.slice none 0 0,.int .i64 0,.slice none 0 0],.bool false])/\Below w.heap.size w w') \/
 ∃ (A:Args) (en:Nat) (hs:List ByteArray) (vA vH:Value) (fA fH:List Nat),useR m l=some (A,en,hs)/\e=.returned (.tuple #[.agg (csM++[vA,.int .i64 en,vH]).toArray,.bool true]) /\
  (Zaa sToks).R w' [vA] A fA/\(∀ b∈fA,w.heap.size<=b)/\(Zaa sStr).R w' [vH] hs fH/\(∀ b∈fH,w.heap.size<=b)/\Below w.heap.size w w'
theorem Y17A1 {g:Prop} (h:g:=by
 have HZX:=HZ4.out
 have z0:=Qc 0 HZX
 have zf0:=Qf 0 HZX
 have z1:=Qc 1 HZX
 have zf1:=Qf 1 HZX
 have z2:=Qc 2 HZX
 have zf2:=Qf 2 HZX
 have z3:=Qc 3 HZX
 have zf3:=Qf 3 HZX
 have z4:=Qc 4 HZX
 have zf4:=Qf 4 HZX
 have z5:=Qc 5 HZX
 have zf5:=Qf 5 HZX
 have z6:=Qc 6 HZX
 have zf6:=Qf 6 HZX
 have HS:=Qh (Zi0 HZX (.string ⟨#[]⟩) (.bool false) (.slice none 0 0) (.slice none 0 0) (.slice none 0 0) (.int .i64 0) (.slice none 0 0))
 have HB:=Qh (ZfH (g:=w.heap.size+1) hB4 (by omega) (.string ⟨#[]⟩) (.bool false) (.slice none 0 0) (.slice none 0 0) (.slice none 0 0) (.int .i64 0) (.slice none 0 0))
 unfold set7 at HS HB
 go_wp2
 refine bodyPost_ret (Zap rfl _ _ (w.heap.size+1) _ _ _ _ rfl HS.out Tryz.underlying136 rfl (by kernel_rfl)) rfl ?_
 exact .inl ⟨HF.out,rfl,HB.out⟩):g:=h
theorem Zm3 (csM:List Value) (m:DMacro) (fpM:List Nat) (v:Value) (l:List Tok) (fp:List Nat) (w:World) (hv:macOk m=true) (h0:0<l.length) (hl60:l.length<=60) (htx:∀ t∈l,Tx t) (hu:∀ t∈l,Up t.hidden) (hh:∀ t∈l,t.hidden.length<=100000) (hop:m.function=true->∃ h1:1<l.length,isM l[1] [40]=true)
  (HM:sMacro.R w csM m fpM) (H:(Zaa sTok).R w [v] l fp):Calls Tryz.prog 111 #[.agg csM.toArray,v] w (UseOf m csM l w):=by
 have HM0:=HM
 obtain⟨h2,h3,q2,q3,rfl,knm,K2,K3,-⟩:=HM
 obtain⟨a2,c2,rfl,-⟩:=Zaf K2
 obtain⟨a3,c3,rfl,-⟩:=Zac K3
 have H00:=H
 obtain⟨al,cl,rfl,hcl,hml,hrow⟩:=Zac H
 unfold maxLen at hml
 obtain⟨bw,ow,-,rfl,-,-,-⟩:=hrow h0
 have HX:=Qh (ZbI w #[.string m.name,.bool m.function,.slice a2 m.params.length c2,.slice a3 m.body.length c3] #[.string ⟨#[]⟩,.bool false,.slice none 0 0,.slice none 0 0,.slice none 0 0,.int .i64 0,.slice none 0 0] 70 136)
 have b0:=Zab w (.cells #[.string m.name,.bool m.function,.slice a2 m.params.length c2,.slice a3 m.body.length c3] 70)
 have b2:=b0.trans ((Zab (w.alloc (.cells #[.string m.name,.bool m.function,.slice a2 m.params.length c2,.slice a3 m.body.length c3] 70)) (.cells #[.string ⟨#[]⟩,.bool false,.slice none 0 0,.slice none 0 0,.slice none 0 0,.int .i64 0,.slice none 0 0] 136)).mono b0.size)
 have hs2:((w.alloc (.cells #[.string m.name,.bool m.function,.slice a2 m.params.length c2,.slice a3 m.body.length c3] 70)).alloc (.cells #[.string ⟨#[]⟩,.bool false,.slice none 0 0,.slice none 0 0,.slice none 0 0,.int .i64 0,.slice none 0 0] 136)).heap.size=w.heap.size+2:=by show ((w.heap.push _).push _).size=_;simp
 have HM2:=Qh (sMacro.below HM0 b2)
 have HL2:=Qh ((Zaa sTok).below H00 b2)
 have HVV:=Qh hv
 have HTX:=Qh htx
 have HUP:=Qh hu
 have HHH:=Qh hh
 have HOP:=Qh hop
 have HNM:Hid (m.name.size<=maxLen):=knm
 clear HM0 K2 K3 H H00 hrow htx hu hh hv hop
 go_enter Tryz.func111,Tryz.ntmps111
 go_upto_region 1 with fail
 generalize ((w.alloc (.cells #[.string m.name,.bool m.function,.slice a2 m.params.length c2,.slice a3 m.body.length c3] 70)).alloc (.cells #[.string ⟨#[]⟩,.bool false,.slice none 0 0,.slice none 0 0,.slice none 0 0,.int .i64 0,.slice none 0 0] 136))=W2 at *
 obtain⟨xa,xc,xf,c0,c1,c2',c3',xR,hbb,hxf⟩:=ZaJ HL2.out h0
 simp only [Nat.zero_mul,Nat.add_zero] at c0 c1 c2' c3'
 have bt:=Zab W2 (.cells #[.int .i64 l[0].kind,.string l[0].text,.bool l[0].spaced,.slice xa l[0].hidden.length xc] 57)
 have HT0:=Qh (heap_alloc_new W2 (.cells #[.int .i64 l[0].kind,.string l[0].text,.bool l[0].spaced,.slice xa l[0].hidden.length xc] 57))
 rw [hs2] at HT0
 go_upto_region 2 with fail
 have hs3:(W2.alloc (.cells #[.int .i64 l[0].kind,.string l[0].text,.bool l[0].spaced,.slice xa l[0].hidden.length xc] 57)).heap.size=w.heap.size+3:=by show (W2.heap.push _).size=_;simp [hs2]
 have HX3:=Qh (And.intro (mbox HX.out.1 bt) (mbox HX.out.2 bt))
 have HM3:=Qh (sMacro.below HM2.out bt)
 have HL3:=Qh ((Zaa sTok).below HL2.out bt)
 have HXR:=Qh (ZcV (sTok.below xR bt))
 have b3:=b2.trans (bt.mono b2.size)
 clear c0 c1 c2' c3' HM2 HL2 xR hxf HX hbb bt b2 b0
 generalize (W2.alloc (.cells #[.int .i64 l[0].kind,.string l[0].text,.bool l[0].spaced,.slice xa l[0].hidden.length xc] 57))=W3 at *
 have p1:=Qc 1 HX3.out.1
 cases hf:m.function
 ·have HF:=Qh (Zlg h0 hf)
  rw [hf] at p1
  have HWN:=Qh (λ (Q:World) (hQ:Below W3.heap.size W3 Q)=>ZdV _ l[0].hidden m.name xf Q (HUP.out _ (List.getElem_mem h0)) (by have:=HHH.out _ (List.getElem_mem h0);omega) HNM.out ((Zaa sStr).below HXR.out hQ))
  have HSM:Hid (∀ Q:World,Below W3.heap.size W3 Q->Q.heap[w.heap.size]?=some (.cells #[.string m.name,.bool m.function,.slice a2 m.params.length c2,.slice a3 m.body.length c3] 70 (0,0))/\Q.heap[w.heap.size+2]?=some (.cells #[.int .i64 l[0].kind,.string l[0].text,.bool l[0].spaced,.slice xa l[0].hidden.length xc] 57 (0,0))):=λ Q hQ=>⟨mbox HX3.out.1 hQ,mbox HT0.out hQ⟩
  obtain⟨fu,HFU⟩:∃ fu:Bool,Hid (fu=m.function):=⟨_,Qh rfl⟩
  clear hf
  go_upto_region 3 with fail
  clear p1
  have hcs:Below W3.heap.size W3 W3.drew:=Zag (Below.refl _ _) 1
  refine wp_region_noPanic ?_
  refine wp_region_held_drew (S:=λ w'=>w'.heap[w.heap.size]?=some (.cells #[.string m.name,.bool m.function,.slice a2 m.params.length c2,.slice a3 m.body.length c3] 70 (0,0))/\w'.heap[w.heap.size+2]?=some (.cells #[.int .i64 l[0].kind,.string l[0].text,.bool l[0].spaced,.slice xa l[0].hidden.length xc] 57 (0,0))) (by kernel_rfl) (by exact HSM.out _ hcs) (λ hHeld=>?_)
  -- MARK1
  generalize hwd:W3.drew=wd at *
  refine Qt 0 17 rfl rfl ?_ (by intro w hSw;obtain⟨m0,m1,m2,m3⟩:=Q4 hSw.1;have t3:=Qc 3 hSw.2;go_simp;(first | done | with_reducible rfl | rfl))
  try simp only [Qp]
  refine Qt 1 18 rfl rfl ?_
  try simp only [Qp]
  refine Qt 2 19 rfl rfl ?_ (by intro w hSw;obtain⟨m0,m1,m2,m3⟩:=Q4 hSw.1;have t3:=Qc 3 hSw.2;go_simp;(first | done | with_reducible rfl | rfl))
  try simp only [Qp]
  refine Qt 3 20 rfl rfl ?_
  try simp only [Qp]
  refine Qt 4 21 rfl rfl ?_ (by intro w hSw;obtain⟨m0,m1,m2,m3⟩:=Q4 hSw.1;have t3:=Qc 3 hSw.2;go_simp;(first | done | with_reducible rfl | rfl))
  try simp only [Qp]
  -- MARK2
  refine Qr 5 rfl (λ K hK=>?_)
  go_simp
  refine (HWN.out _ hcs).mono ?_
  rintro e w9 ⟨ao,co,f9,rfl,R9,O9,-,hb9⟩
  have hx9:=hcs.trans (hb9.mono hcs.size)
  refine hK.out _ _ (HSM.out _ hx9) (λ hHeld=>?_)
  clear hK K
  try simp only [Qp]
  -- MARK3
  refine Qt 6 23 rfl rfl ?_
  try simp only [Qp]
  have HZ9:=mbox HX3.out.2 hx9
  have hB9:=b3.trans (hx9.mono b3.size)
  have hn9:w.heap.size+1∉f9:=λ hx=>by have h1:=(O9.2 _ hx).1;have h2:=hcs.size;omega
  have z0:=Qc 0 HZ9
  have zf0:=Qf 0 HZ9
  have z1:=Qc 1 HZ9
  have zf1:=Qf 1 HZ9
  have z2:=Qc 2 HZ9
  have zf2:=Qf 2 HZ9
  have z3:=Qc 3 HZ9
  have zf3:=Qf 3 HZ9
  have z4:=Qc 4 HZ9
  have zf4:=Qf 4 HZ9
  have z5:=Qc 5 HZ9
  have zf5:=Qf 5 HZ9
  have z6:=Qc 6 HZ9
  have zf6:=Qf 6 HZ9
  have HS:=Qh (Zi0 HZ9 (.string m.name) (.bool m.function) (.slice a2 m.params.length c2) (.slice a3 m.body.length c3) (.slice none 0 0) (.int .i64 1) (.slice ao (ins l[0].hidden m.name).length co))
  have HB:=Qh (ZfH (g:=w.heap.size+1) hB9 (by omega) (.string m.name) (.bool m.function) (.slice a2 m.params.length c2) (.slice a3 m.body.length c3) (.slice none 0 0) (.int .i64 1) (.slice ao (ins l[0].hidden m.name).length co))
  have HRF:=Qh ((Zaa sStr).set7R R9 hn9 (.string m.name) (.bool m.function) (.slice a2 m.params.length c2) (.slice a3 m.body.length c3) (.slice none 0 0) (.int .i64 1) (.slice ao (ins l[0].hidden m.name).length co))
  have HH7:Hid ((set7 w9 (w.heap.size+1) (.string m.name) (.bool m.function) (.slice a2 m.params.length c2) (.slice a3 m.body.length c3) (.slice none 0 0) (.int .i64 1) (.slice ao (ins l[0].hidden m.name).length co)).heap[w.heap.size]?=some (.cells #[.string m.name,.bool m.function,.slice a2 m.params.length c2,.slice a3 m.body.length c3] 70 (0,0))/\(set7 w9 (w.heap.size+1) (.string m.name) (.bool m.function) (.slice a2 m.params.length c2) (.slice a3 m.body.length c3) (.slice none 0 0) (.int .i64 1) (.slice ao (ins l[0].hidden m.name).length co)).heap[w.heap.size+2]?=some (.cells #[.int .i64 l[0].kind,.string l[0].text,.bool l[0].spaced,.slice xa l[0].hidden.length xc] 57 (0,0))):=⟨(ZfG (by omega) _ _ _ _ _ _ _).trans hHeld.1,(ZfG (by omega) _ _ _ _ _ _ _).trans hHeld.2⟩
  unfold set7 at HS HB HRF HH7
  -- MARK4
  refine Qr 7 rfl (λ K hK=>?_)
  go_simp
  refine hK.out _ _ (HH7.out) (λ hHeld=>?_)
  clear hK K
  try simp only [Qp]
  -- MARK5
  refine Qt 8 5 rfl rfl ?_
  try simp only [Qp]
  refine wpAnyH_done (by kernel_rfl) ?_ _
  refine NoPanic.normal ?_
  clear hHeld
  go_wp2
  refine bodyPost_ret (Zap rfl _ _ (w.heap.size+1) _ _ _ _ rfl HS.out Tryz.underlying136 rfl (by kernel_rfl)) rfl ?_
  exact .inr ⟨[],1,ins l[0].hidden m.name,_,_,[],f9,HF.out,rfl,Zan sToks _ _ 0 (by simp),by simp,HRF.out,λ b hb=>by have h1:=(O9.2 _ hb).1;have h2:=hcs.size;omega,HB.out⟩
 rw [hf] at p1
 have HFT:=Qh hf
 obtain⟨h1l,ho1⟩:=HOP.out hf
 have HO1:Zcs l[1]=true:=by rw [← Zmm (HTX.out _ (List.getElem_mem h1l))];exact ho1
 have HAA:=Qh (Zhs _ l fp 1 W3 hl60 h1l HO1 (λ k hk=>by have:=HHH.out _ (List.getElem_mem hk);omega) HL3.out)
 have HEN:=λ R e h=>Zci (l.drop 2) 1 [] [] 2 (R:=R) (e:=e) h
 rcases hS:splK (l.drop 2) 1 [] [] 2 with⟨AA,en,ok⟩
 have HSS:=Qh hS
 clear HO1 ho1 hf
 cases ok
 ·have HF:=Qh (Zmp HFT.out hS)
  rw [ZnQ HTX.out hS] at HAA
  unfold ZfE at HAA
  try dsimp only at HAA
  clear hS HEN
  go_wp2_with fail
  refine HAA.out.mono ?_
  rintro e w4 ⟨vA,fA,rfl,RA,-,hb4⟩
  obtain⟨aA,cA,rfl,-⟩:=Zac RA
  have HZ4:=Qh (mbox HX3.out.2 hb4)
  have hB4:=b3.trans (hb4.mono b3.size)
  clear RA HAA p1
  exact Y17A1
 have HEE:2<en/\en<=l.length:=by
  have:=HEN _ _ hS
  rw [List.length_drop] at this
  omega
 rw [Zm0 HTX.out hS] at HAA
 unfold ZfE at HAA
 try dsimp only at HAA
 clear HEN hS
 go_wp2_with fail
 refine HAA.out.mono ?_
 rintro e w3 ⟨vA,fA,rfl,RA,OA,hb4⟩
 obtain⟨aA,cA,rfl,hcA,hmA,-⟩:=Zac RA
 unfold maxLen at hmA
 have HRA:=Qh RA
 have HFA:=Qh (λ b hb=>(OA.2 b hb).1)
 have hs34:=b3.size
 have HZ3:=Qh (mbox HX3.out.2 hb4)
 have HX4:=Qh (mbox HX3.out.1 hb4)
 have HT4:=Qh (mbox HT0.out hb4)
 have hB3:=b3.trans (hb4.mono b3.size)
 have HL4:=Qh ((Zaa sTok).below HL3.out hb4)
 have HXR4:=Qh ((Zaa sStr).below HXR.out hb4)
 have p0:=Qc 0 HX4.out
 replace p1:=Qc 1 HX4.out
 have p2:=Qc 2 HX4.out
 have p3:=Qc 3 HX4.out
 have HFI:=Qh (ZgH _ m fpM _ AA fA w3 (sMacro.below HM3.out hb4) HRA.out)
 rw [Zmc HVV.out HFT.out] at HFI
 clear RA OA HAA hb4 b3 HX3 HT0 HL3 HM3 HXR
 by_cases hfit:argN m.params.length AA=m.params.length
 rotate_left
 ·have HF:=Qh (Zlh HFT.out HSS.out hfit)
  rw [decide_eq_false hfit] at HFI
  clear hfit
  go_wp2_with fail
  refine HFI.out.mono ?_
  rintro e w4 ⟨rfl,hb4⟩
  have HZ4:=Qh (mbox HZ3.out hb4)
  have hB4:=hB3.trans (hb4.mono hB3.size)
  clear HFI p0 p1 p2 p3
  exact Y17A1
 have HF0:=useR_yes h0 HFT.out (by omega:en-1<l.length) HSS.out hfit
 have HPL:m.params.length<=AA.length:=Zmo hfit
 rw [decide_eq_true hfit] at HFI
 obtain⟨j,hj⟩:∃ j,en-1=j:=⟨_,rfl⟩
 have hjl:j<l.length:=by omega
 have HF:Hid (useR m l=some (AA.take m.params.length,en,ins (both l[0].hidden l[j].hidden) m.name)):=by show _=_;subst hj;exact HF0
 have hwr:IntKind.i64.wrap ((en:Int)-1)=(j:Int):=by rw [IntWalk.i64_in _ (by omega)];omega
 clear HF0 hfit
 obtain⟨np,HNP⟩:∃ np:Nat,Hid (np=m.params.length):=⟨_,Qh rfl⟩
 go_wp2_with fail
 refine HFI.out.mono ?_
 rintro e w4 ⟨rfl,hb4⟩
 clear p0 p1 p2 p3 HFI
 have hB4:=hB3.trans (hb4.mono hB3.size)
 have HX5:=Qh (mbox HX4.out hb4)
 have HT5:=Qh (mbox HT4.out hb4)
 have HZ5:=Qh (mbox HZ3.out hb4)
 have HL5:=Qh ((Zaa sTok).below HL4.out hb4)
 have HXR5:=Qh ((Zaa sStr).below HXR4.out hb4)
 obtain⟨ft,RT,hft⟩:=Zbv m.params.length HPL ((Zaa sToks).below HRA.out hb4)
 have HRT:=Qh RT
 have HFT3:Hid (∀ b∈ft,w.heap.size+3<=b):=λ b hb=>by have:=HFA.out b (hft b hb);omega
 have HFT2:Hid (∀ b∈ft,w.heap.size<=b):=λ b hb=>by have:=HFA.out b (hft b hb);omega
 have p2:=Qc 2 HX5.out
 have k0:(0:Int)<=(m.params.length:Int):=by omega
 have k1:(m.params.length:Int)<=(cA:Int):=by omega
 have k2:m.params.length<=cA:=by omega
 obtain⟨ya,yc,yf,-,-,-,y3,yR,ybb,-⟩:=ZaJ HL5.out hjl
 have HYR:=Qh (ZcV yR)
 have HY3:=Qh y3
 clear HX4 HT4 HZ3 HL4 HXR4 HRA RT hft y3 yR hB3
 go_upto_region 8 with fail
 clear p2 k0 k1 k2
 have HSM:Hid (∀ Q:World,Below w4.heap.size w4 Q->Q.heap[w.heap.size+2]?=some (.cells #[.int .i64 l[0].kind,.string l[0].text,.bool l[0].spaced,.slice xa l[0].hidden.length xc] 57 (0,0))/\Q.cell? ⟨bw,ow+j * 4+3,none⟩=some (.slice ya l[j].hidden.length yc)):=λ Q hQ=>⟨mbox HT5.out hQ,(hQ.cell (p:=⟨bw,ow+j * 4+3,none⟩) ybb).trans HY3.out⟩
 have HNB:=Qh (λ (Q:World) (hQ:Below w4.heap.size w4 Q)=>Zev _ _ l[0].hidden l[j].hidden xf yf Q (by have:=HHH.out _ (List.getElem_mem h0);omega) (by have:=HHH.out _ (List.getElem_mem hjl);omega) (HUP.out _ (List.getElem_mem hjl)) ((Zaa sStr).below HXR5.out hQ) ((Zaa sStr).below HYR.out hQ))
 have hcs:Below w4.heap.size w4 w4.drew:=Zag (Below.refl _ _) 1
 have i0:(0:Int)<=(j:Int):=by omega
 have i1:(j:Int)<(l.length:Int):=by omega
 refine wp_region_noPanic ?_
 refine wp_region_held_drew (S:=λ w'=>w'.heap[w.heap.size+2]?=some (.cells #[.int .i64 l[0].kind,.string l[0].text,.bool l[0].spaced,.slice xa l[0].hidden.length xc] 57 (0,0))/\w'.cell? ⟨bw,ow+j * 4+3,none⟩=some (.slice ya l[j].hidden.length yc)) (by kernel_rfl) (by exact HSM.out _ hcs) (λ hHeld=>?_)
 -- MARK6
 generalize hwd:w4.drew=wd at *
 refine Qt 0 44 rfl rfl ?_
 try simp only [Qp]
 refine Qt 1 45 rfl rfl ?_ (by intro w hSw;have t3:=Qc 3 hSw.1;have y3:=hSw.2;go_simp;(first | done | with_reducible rfl | rfl))
 try simp only [Qp]
 refine Qt 2 46 rfl rfl ?_
 try simp only [Qp]
 refine Qt 3 47 rfl rfl ?_
 try simp only [Qp]
 refine Qt 4 48 rfl rfl ?_
 try simp only [Qp]
 refine Qt 5 49 rfl rfl ?_
 try simp only [Qp]
 refine Qt 6 50 rfl rfl ?_
 try simp only [Qp]
 refine Qt 7 51 rfl rfl ?_ (by intro w hSw;have t3:=Qc 3 hSw.1;have y3:=hSw.2;go_simp;(first | done | with_reducible rfl | rfl))
 try simp only [Qp]
 -- MARK7
 refine Qr 8 rfl (λ K hK=>?_)
 go_simp
 refine (HNB.out _ hcs).mono ?_
 rintro e w5 ⟨v5,f5,rfl,R5,O5,hb5⟩
 have hx5:=hcs.trans (hb5.mono hcs.size)
 refine hK.out _ _ (HSM.out _ hx5) (λ hHeld=>?_)
 clear hK K
 try simp only [Qp]
 refine Qt 9 10 rfl rfl ?_
 try simp only [Qp]
 refine wpAnyH_done (by kernel_rfl) ?_ _
 refine NoPanic.normal ?_
 clear hHeld
 have HR5:=Qh R5
 have hB5:=hB4.trans (hx5.mono hB4.size)
 have HX6:=Qh (mbox HX5.out hx5)
 have HZ6:=Qh (mbox HZ5.out hx5)
 have HRT5:=Qh ((Zaa sToks).below HRT.out hx5)
 obtain⟨a5,c5,rfl,-⟩:=Zaf R5
 have HWN:=Qh (λ (Q:World) (hQ:Below w5.heap.size w5 Q)=>ZdV _ (both l[0].hidden l[j].hidden) m.name f5 Q (List.Pairwise.filter _ (HUP.out _ (List.getElem_mem h0))) (by have h1:=HHH.out _ (List.getElem_mem h0);have h2:=List.length_filter_le (λ x=>hasN l[j].hidden x) l[0].hidden;have h3:(both l[0].hidden l[j].hidden).length<=l[0].hidden.length:=h2;omega) HNM.out ((Zaa sStr).below HR5.out hQ))
 have HSN:Hid (∀ Q:World,Below w5.heap.size w5 Q->Q.heap[w.heap.size]?=some (.cells #[.string m.name,.bool m.function,.slice a2 m.params.length c2,.slice a3 m.body.length c3] 70 (0,0))):=λ Q hQ=>mbox HX6.out hQ
 clear R5 O5 hb5 HSM HNB hx5 hcs HX5 HZ5 hwd HRT HYR HY3
 go_upto_region 9 with fail
 have hcs:Below w5.heap.size w5 w5.drew:=Zag (Below.refl _ _) 1
 refine wp_region_noPanic ?_
 refine wp_region_held_drew (S:=λ w'=>w'.heap[w.heap.size]?=some (.cells #[.string m.name,.bool m.function,.slice a2 m.params.length c2,.slice a3 m.body.length c3] 70 (0,0))) (by kernel_rfl) (by exact HSN.out _ hcs) (λ hHeld=>?_)
 -- MARK8
 generalize hwd:w5.drew=wd at *
 refine Qt 0 53 rfl rfl ?_ (by intro w hSw;obtain⟨m0,m1,m2,m3⟩:=Q4 hSw;go_simp;(first | done | with_reducible rfl | rfl))
 try simp only [Qp]
 refine Qt 1 54 rfl rfl ?_
 try simp only [Qp]
 refine Qt 2 55 rfl rfl ?_
 try simp only [Qp]
 refine Qt 3 56 rfl rfl ?_
 try simp only [Qp]
 refine Qt 4 57 rfl rfl ?_
 try simp only [Qp]
 refine Qt 5 58 rfl rfl ?_ (by intro w hSw;obtain⟨m0,m1,m2,m3⟩:=Q4 hSw;go_simp;(first | done | with_reducible rfl | rfl))
 try simp only [Qp]
 -- MARK9
 refine Qr 6 rfl (λ K hK=>?_)
 go_simp
 refine (HWN.out _ hcs).mono ?_
 rintro e w9 ⟨ao,co,f9,rfl,R9,O9,-,hb9⟩
 have hx9:=hcs.trans (hb9.mono hcs.size)
 refine hK.out _ _ (HSN.out _ hx9) (λ hHeld=>?_)
 clear hK K
 try simp only [Qp]
 refine Qt 7 60 rfl rfl ?_
 try simp only [Qp]
 have HZ9:=mbox HZ6.out hx9
 have hB9:=hB5.trans (hx9.mono hB5.size)
 have hn9:w.heap.size+1∉f9:=λ hx=>by have h1:=(O9.2 _ hx).1;have h2:=hcs.size;have h3:=mlt HZ6.out;omega
 have HRT9:=(Zaa sToks).below HRT5.out hx9
 have hnt:w.heap.size+1∉ft:=λ hx=>by have:=HFT3.out _ hx;omega
 have z0:=Qc 0 HZ9
 have zf0:=Qf 0 HZ9
 have z1:=Qc 1 HZ9
 have zf1:=Qf 1 HZ9
 have z2:=Qc 2 HZ9
 have zf2:=Qf 2 HZ9
 have z3:=Qc 3 HZ9
 have zf3:=Qf 3 HZ9
 have z4:=Qc 4 HZ9
 have zf4:=Qf 4 HZ9
 have z5:=Qc 5 HZ9
 have zf5:=Qf 5 HZ9
 have z6:=Qc 6 HZ9
 have zf6:=Qf 6 HZ9
 have HS:=Qh (Zi0 HZ9 (.string m.name) (.bool m.function) (.slice a2 m.params.length c2) (.slice a3 m.body.length c3) (.slice aA m.params.length cA) (.int .i64 (en:Nat)) (.slice ao (ins (both l[0].hidden l[j].hidden) m.name).length co))
 have HB:=Qh (ZfH (g:=w.heap.size+1) hB9 (by omega) (.string m.name) (.bool m.function) (.slice a2 m.params.length c2) (.slice a3 m.body.length c3) (.slice aA m.params.length cA) (.int .i64 (en:Nat)) (.slice ao (ins (both l[0].hidden l[j].hidden) m.name).length co))
 have HRF:=Qh ((Zaa sStr).set7R R9 hn9 (.string m.name) (.bool m.function) (.slice a2 m.params.length c2) (.slice a3 m.body.length c3) (.slice aA m.params.length cA) (.int .i64 (en:Nat)) (.slice ao (ins (both l[0].hidden l[j].hidden) m.name).length co))
 have HRG:=Qh ((Zaa sToks).set7R HRT9 hnt (.string m.name) (.bool m.function) (.slice a2 m.params.length c2) (.slice a3 m.body.length c3) (.slice aA m.params.length cA) (.int .i64 (en:Nat)) (.slice ao (ins (both l[0].hidden l[j].hidden) m.name).length co))
 have HH7:Hid ((set7 w9 (w.heap.size+1) (.string m.name) (.bool m.function) (.slice a2 m.params.length c2) (.slice a3 m.body.length c3) (.slice aA m.params.length cA) (.int .i64 (en:Nat)) (.slice ao (ins (both l[0].hidden l[j].hidden) m.name).length co)).heap[w.heap.size]?=some (.cells #[.string m.name,.bool m.function,.slice a2 m.params.length c2,.slice a3 m.body.length c3] 70 (0,0))):=(ZfG (by omega) _ _ _ _ _ _ _).trans hHeld
 unfold set7 at HS HB HRF HRG HH7
 refine Qr 8 rfl (λ K hK=>?_)
 go_simp
 refine hK.out _ _ (HH7.out) (λ hHeld=>?_)
 clear hK K
 try simp only [Qp]
 refine Qt 9 5 rfl rfl ?_
 try simp only [Qp]
 refine wpAnyH_done (by kernel_rfl) ?_ _
 refine NoPanic.normal ?_
 clear hHeld
 go_wp2
 refine bodyPost_ret (Zap rfl _ _ (w.heap.size+1) _ _ _ _ rfl HS.out Tryz.underlying136 rfl (by kernel_rfl)) rfl ?_
 exact .inr ⟨_,en,_,_,_,ft,f9,HF.out,rfl,HRG.out,HFT2.out,HRF.out,λ b hb=>by have h1:=(O9.2 _ hb).1;have h2:=hcs.size;have h3:=mlt HX6.out;omega,HB.out⟩
def lenOf:Value->Nat
 | .slice _ n _=>n
 | _=>0
theorem call_end {f:List Tok->Nat->XRes} {m:DMacro} {work:List Tok} {s e l:Nat} {b:List Tok} (h:callX f m work s=(b,e,l,0)):2<e/\e<=2+(work.drop 2).length:=by
 unfold callX at h
 split at h
 ·rename_i h1
  split at h
  ·split at h
   ·simp only [Prod.mk.injEq] at h
    have h2:=Zci (work.drop 2) 1 [] [] 2 (R:=(splK (work.drop 2) 1 [] [] 2).1) (e:=(splK (work.drop 2) 1 [] [] 2).2.1) (by rw [← h1.1])
    omega
   ·simp at h
  ·rename_i h2
   simp only [Prod.mk.injEq] at h
   exact absurd (by rw [h.2.2]:(argsX f (List.take m.params.length (splK (List.drop 2 work) 1 [] [] 2).1) s).2.2=0) h2
 ·simp at h
theorem Zmq {T:List DMacro} {t:Tok} {r:List Tok} {m:DMacro} (h:goM T (t::r)=some m) (hf:m.function=true):∃ hr:0<r.length,isM r[0] [40]=true:=by
 unfold goM at h
 dsimp only at h
 cases hm:findM T t with
 | none=>rw [hm] at h;simp at h
 |
  some m' =>
  rw [hm] at h
  dsimp only at h
  split at h
  ·simp at h
  ·rename_i hh
   simp only [Qi] at h
   subst h
   cases r with
   | nil=>exact absurd ⟨hf,rfl⟩ hh
   |
    cons u q =>
    refine ⟨by simp,?_⟩
    cases e:isM u [40]
    ·exact absurd ⟨hf,e⟩ hh
    ·exact e
theorem Zi1 (m:DMacro) (a b:List (List Tok)):(Zar m a b).1.length<=240:=by
 unfold Zar
 split
 ·split
  ·simp
  ·omega
 ·simp
theorem ZdB (l:List Tok) (h:List ByteArray) (sp:Bool):(putL l h sp).length=l.length:=by unfold putL;rw [ZiR,List.length_map]
theorem Zn0 (f:List Tok->Nat->XRes) (m:DMacro) (w:List Tok) (s:Nat):(callX f m w s).1.length<=240:=by
 unfold callX
 split
 ·split
  ·split
   ·show (putL _ _ _).length<=240
    rw [ZdB];exact Zi1 _ _ _
   ·simp
  ·simp
 ·simp
theorem Zmr {T:List DMacro} {t:Tok} {r:List Tok} (h:findM T t=none):goM T (t::r)=none:=by unfold goM;dsimp only;rw [h]
theorem go_shut {T:List DMacro} {t:Tok} {r:List Tok} {m:DMacro} (h:findM T t=some m) (hf:m.function=true) (ho:Zfa r=false):goM T (t::r)=none:=by unfold goM;dsimp only;rw [h];dsimp only;rw [if_pos ⟨hf,ho⟩]
theorem go_take {T:List DMacro} {t:Tok} {r:List Tok} {m:DMacro} (h:findM T t=some m) (hf:¬ (m.function=true/\Zfa r=false)):goM T (t::r)=some m:=by unfold goM;dsimp only;rw [h];dsimp only;rw [if_neg hf]
theorem ZdW {α:Type} {S:Shape α} {P:Program} {t e:TypeId} {z:Value} {bytes:Nat} (ti:TI P t e z S.m bytes) (hzs:z.cells.size=S.m) (h0:0<S.m) (hone:∀ w cs x fp,S.R w cs x fp->∀ u∈cs,u.oneCell'=true) (w:World) {L:List (Elem α)} {ops:Array Oper} {o:Oper} {a:Act} {K:Act->World->Prop} {Q:Exit->Act->World->Prop} {E:Prop}
  (d:Nat) (hdst:o.dst=some d) (hg:o.guard=none) (s y:Operand) (ho:o.op=.call { callee:=.builtin .append,args:=#[s,y],argTypes:=#[t,t] })
  (base:Nat) (v u:Value) (M:List α) (fp:List Nat) (hs:a.eval s=v) (hown:RowN S base e v L w) (hy:a.eval y=u) (HM:(Zaa S).R w [u] M fp) (hfp:∀ b∈fp,v.ownBlock≠some b)
  (h63:L.length+M.length<=maxLen) (hbytes:(L.length+M.length) * bytes<=140737488355328) (hbase:base<=w.heap.size)
  (h:∀ v' X w',X.map (·.d)=M->(∀ x∈X,∀ b∈x.fp,b∈fp)->RowN S base e v' (L++X) w'->w.grownBy w' v.ownBlock->(v'.ownBlock=v.ownBlock\/v'.ownBlock=some w.heap.size)->K (a.put (some d) v') w'):if Region.wanted o (yielded ops a.tmps)=true then Oper.wp P o a w K Q else E:=by
 rw [← hdst] at h
 have hwt:Region.wanted o (yielded ops a.tmps)=true:=by simp [Region.wanted,hg]
 rw [if_pos hwt]
 exact Zeu ti hzs h0 hone w s y ho base v u M fp hs hown hy HM hfp h63 hbytes hbase h
theorem XpOf.none {fp:List Nat} {r:XRes} {l:Nat} {c:Int} {w W:World} (h:r=([],l,c)) (hb:Below w.heap.size w W):XpOf fp r w (.returned (.tuple #[.slice (some ⟨W.heap.size,0,none⟩) 0 0,.int .i64 (l:Nat),.int .i64 c])) (W.alloc (.cells #[] 57)):=
 ⟨_,[],by rw [h],RowN.lit0 sTok 57 W hb.size,by rw [h];rfl,by simp,hb.alloc hb.size _⟩
structure ToDo (base:Nat) (fp:List Nat) (vo:Value) (vw:Value) (W:List Tok) (fpw:List Nat) (w:World):Prop where
 r:(Zaa sTok).R w [vw] W fpw
 o:∀ b∈fpw,vo.ownBlock≠some b
 l:∀ b∈fpw,b∈fp\/base<=b
theorem ToDo.below {base:Nat} {fp fpw:List Nat} {vo vw:Value} {W:List Tok} {w w':World} (h:ToDo base fp vo vw W fpw w) (hb:Below w.heap.size w w'):ToDo base fp vo vw W fpw w':=⟨(Zaa sTok).below h.r hb,h.o,h.l⟩
theorem ToDo.lt {base:Nat} {fp fpw:List Nat} {vo vw:Value} {W:List Tok} {w:World} (h:ToDo base fp vo vw W fpw w):∀ b∈fpw,b<w.heap.size:=(Zaa sTok).lt h.r
theorem ToDo.next {base:Nat} {fp fpw:List Nat} {vo vw vn:Value} {W:List Tok} {w w6:World} {L X:List (Elem Tok)} {lo:Nat} (h:ToDo base fp vo vw W fpw w) (hlo:base<=lo) (hvo:∀ b,vo.ownBlock=some b->b<lo) (hr:RowN sTok lo 57 vn (L++X) w6) (hL:∀ x∈L,∀ b∈x.fp,lo<=b) (hX:∀ x∈X,∀ b∈x.fp,b∈fpw) :
  ∃ fp',ToDo base fp vo vn ((L++X).map (·.d)) fp' w6:=by
 obtain⟨f,r1,r2,-⟩:=hr.read
 refine ⟨f,r1,λ b hb hv=>?_,λ b hb=>?_⟩
 ·have h1:=hvo b hv
  rcases r2 b hb with h0 | ⟨x,hx,h0⟩
  ·have:=(hr.mine b h0).1;omega
  ·rcases Qa hx with hx | hx
   ·have:=hL x hx b h0;omega
   ·exact h.o b (hX x hx b h0) hv
 ·rcases r2 b hb with h0 | ⟨x,hx,h0⟩
  ·have:=(hr.mine b h0).1;right;omega
  ·rcases Qa hx with hx | hx
   ·have:=hL x hx b h0;right;omega
   ·exact h.l b (hX x hx b h0)
theorem Zi2 {T:List DMacro} {N:List ByteArray} {n:Nat} (IH:∀ j,j<n->ExpC T N j) (hn:n<=1000) (hTab:∀ m∈T,macOk m=true) (hT:∀ m∈T,m.name∈N) (hN:N.length<=5000):ExpC T N n:=by
 intro vT fpT v l fp s w hs hl hH HT H
 have HTBL:=Qh HT
 have HLT:=Qh ((Zaa sTok).lt H)
 obtain⟨a,cap,rfl,-⟩:=Zac H
 obtain⟨aT,cT,rfl,-⟩:=Zac HT
 have b1:=Zab w (.cells #[] 57)
 have b2:=Zab (w.alloc (.cells #[] 57)) (.cells #[] 57)
 have b12:=b1.trans (b2.mono b1.size)
 have hs1:(w.alloc (.cells #[] 57)).heap.size=w.heap.size+1:=Array.size_push _
 have hs2:((w.alloc (.cells #[] 57)).alloc (.cells #[] 57)).heap.size=w.heap.size+2:=by show ((w.heap.push _).push _).size=_;simp
 have HO0:=Qh ((RowN.lit0 sTok 57 w (Nat.le_refl _)).below b2)
 have HW0:=Qh (RowN.lit0 sTok 57 (w.alloc (.cells #[] 57)) (base:=w.heap.size) b1.size)
 rw [hs1] at HW0
 have HL2:=Qh ((Zaa sTok).below H b12)
 have HHI:=Qh hH
 clear H HT hH b2 hs1
 go_enter Tryz.func37,Tryz.ntmps37
 go_upto_region 3 with(at_builtin;refine Zbh ti_tok rfl (by decide) ZaE _ rfl (.tmp 20) (.tmp 21) rfl w.heap.size (.slice (some ⟨w.heap.size+1,0,none⟩) 0 0) (.slice a l.length cap) l fp rfl HW0.out rfl HL2.out (λ b hb e=>by simp only [Value.ownBlock,Qi] at e;have:=HLT.out b hb;omega) (by unfold maxLen;simp;omega) (by simp;omega) b12.size ?_;intro v5 X w5 hX hXf hR5 hg5 hp5)
 have hb5:Below w.heap.size w w5:=b12.grown hg5 b12.size (λ b hb=>by simp only [Value.ownBlock,Qi] at hb;omega)
 have HO5:=Qh (HO0.out.same (λ g hg=>hg5.block g (HO0.out.mine g hg).2 (λ e=>by simp only [Value.ownBlock,Qi] at hg e;omega)) (λ x hx=>by simp at hx))
 rw [List.nil_append] at hR5
 obtain⟨fpw,rw5,rwf,-⟩:=hR5.read
 rw [hX] at rw5
 have HTD:Hid (ToDo w.heap.size fp (.slice (some ⟨w.heap.size,0,none⟩) 0 0) v5 l fpw w5):=⟨rw5,λ b hb hv=>by
   simp only [Value.ownBlock,Qi] at hv
   rcases rwf b hb with h | ⟨x,hx,h⟩
   ·rcases hp5 with e | e
    ·rw [e] at h;simp only [Value.ownBlock,Qi] at h;omega
    ·rw [e,Qi] at h;have:=hs2;omega
   ·have:=HLT.out b (hXf x hx b h);omega,λ b hb=>by
   rcases rwf b hb with h | ⟨x,hx,h⟩
   ·exact .inr (hR5.mine b h).1
   ·exact .inl (hXf x hx b h)⟩
 clear HO0 HW0 HL2 b1 b12 hX hXf hR5 hg5 hp5 rw5 rwf hs2
 go_wp2
 go_loopw [2,9,10] (λ vs vo vw wr=>∃ (j s':Nat) (O:List (Elem Tok)) (W:List Tok) (fpw:List Nat),s'<=j/\j<=n/\vs=.int .i64 s'/\W.length<=100/\O.length<=60/\Hid (RowN sTok w.heap.size 57 vo O wr)/\Hid (∀ x∈O,∀ b∈x.fp,b∈fp\/w.heap.size<=b)/\Hid (ToDo w.heap.size fp vo vw W fpw wr)/\Hid (expG T n s [] l=expG T j s' (O.map (·.d)) W)/\Hid (∀ t∈W,HidIn N t)/\Below w.heap.size w wr) (λ vs _ vw _=>(intOf vs).toNat * 1000+lenOf vw)
 case atStart=>exact⟨n,s,[],l,fpw,hs,Nat.le_refl _,rfl,hl,by simp,HO5,(λ x hx=>by simp at hx),HTD,rfl,HHI,hb5⟩
 case round =>
  clear HO5 HTD hb5
  obtain⟨j,s',O,W,fpw,hsj,hjn,rfl,hW,hO,HRO,HOL,HTD,HGO,HHW,hb⟩:=hrel
  obtain⟨ao,co,hvo,-⟩:=HRO.out.val
  subst hvo
  obtain⟨aw,cw,rfl,hcw,hmw,hroww⟩:=Zac HTD.out.r
  unfold maxLen at hmw
  have hs'n:s'<=1000:=by omega
  cases W with
  |
   nil =>
   have HF:=Qh (HGO.out.trans Zb4)
   clear hroww
   go_wp2
   go_ret3
   exact⟨.slice ao O.length co,O,by rw [HF.out];rfl,HRO.out,by rw [HF.out],HOL.out,hb⟩
  |
   cons t r =>
   obtain⟨bw,ow,-,rfl,-,-,-⟩:=hroww (by simp)
   obtain⟨xa,xc,xf,c0,c1,c2,c3,xR,hbb,hxf⟩:=ZaJ HTD.out.r (j:=0) (by simp)
   simp only [List.getElem_cons_zero,Nat.zero_mul,Nat.add_zero] at c0 c1 c2 c3 xR
   have HXF:=Qh hxf
   have XR:=Qh xR
   have HCE:Hid (∀ U:World,Below wr.heap.size wr U->U.cell? ⟨bw,ow,none⟩=some (.int .i64 t.kind)/\U.cell? ⟨bw,ow+1,none⟩=some (.string t.text)/\U.cell? ⟨bw,ow+2,none⟩=some (.bool t.spaced)/\U.cell? ⟨bw,ow+3,none⟩=some (.slice xa t.hidden.length xc)):=λ U hU=>⟨(hU.cell (p:=⟨bw,ow,none⟩) hbb).trans c0,(hU.cell (p:=⟨bw,ow+1,none⟩) hbb).trans c1,(hU.cell (p:=⟨bw,ow+2,none⟩) hbb).trans c2,(hU.cell (p:=⟨bw,ow+3,none⟩) hbb).trans c3⟩
   have HFD:=Qh (Zk9 _ T fpT _ t xf wr ((Zaa sMacro).below HTBL.out hb) xR)
   have HT1:Hid (∀ hr:0<r.length,∃ (ya:Option Addr) (yc:Nat) (yf:List Nat),(∀ U:World,Below wr.heap.size wr U->U.cell? ⟨bw,ow+4,none⟩=some (.int .i64 r[0].kind)/\U.cell? ⟨bw,ow+4+1,none⟩=some (.string r[0].text)/\U.cell? ⟨bw,ow+4+2,none⟩=some (.bool r[0].spaced)/\U.cell? ⟨bw,ow+4+3,none⟩=some (.slice ya r[0].hidden.length yc))/\sTok.R wr [.int .i64 r[0].kind,.string r[0].text,.bool r[0].spaced,.slice ya r[0].hidden.length yc] r[0] yf):=λ hr=>by
    obtain⟨ya,yc,yf,d0,d1,d2,d3,yR,-,-⟩:=ZaJ HTD.out.r (j:=1) (by simpa using hr)
    simp only [List.getElem_cons_succ,Nat.one_mul] at d0 d1 d2 d3 yR
    exact⟨ya,yc,yf,λ U hU=>⟨(hU.cell (p:=⟨bw,ow+4,none⟩) hbb).trans d0,(hU.cell (p:=⟨bw,ow+4+1,none⟩) hbb).trans d1,(hU.cell (p:=⟨bw,ow+4+2,none⟩) hbb).trans d2,(hU.cell (p:=⟨bw,ow+4+3,none⟩) hbb).trans d3⟩,yR⟩
   obtain⟨NW,HNW⟩:∃ NW:Nat,Hid (NW=(t::r).length):=⟨(t::r).length,Qh rfl⟩
   rw [show (t::r).length=NW from HNW.out.symm] at HTD hcw hW ⊢
   have hNW:0<NW:=by have:=HNW.out;rw [List.length_cons] at this;omega
   have hNWi:(0:Int)<(NW:Int):=by omega
   obtain⟨NO,HNO⟩:∃ NO:Nat,Hid (NO=O.length):=⟨O.length,Qh rfl⟩
   rw [show O.length=NO from HNO.out.symm] at HRO HTD hO ⊢
   have hwr:=hb.size
   clear xR hxf hroww
   go_wp2_with fail
   refine HFD.out.mono ?_
   rintro e w3 (⟨hf,rfl,hb3⟩ | ⟨m,a2,a3,c2_,c3_,fm,hf,rfl,RM,hfm,hb3⟩)
   ·have HG:=Qh (Zmr (r:=r) hf)
    have bm:=Zab w3 (.cells #[.string ⟨#[]⟩,.bool false,.slice none 0 0,.slice none 0 0] 70)
    have hb4:=hb3.trans (bm.mono hb3.size)
    clear HFD
    go_upto_region 6 with fail
    clear c0 c1 c2 c3 hf
    generalize (w3.alloc (.cells #[.string ⟨#[]⟩,.bool false,.slice none 0 0,.slice none 0 0] 70))=w4 at *
    obtain⟨c0,c1,c2,c3⟩:=HCE.out w4 hb4
    have bl:=Zab w4 (.cells #[.int .i64 t.kind,.string t.text,.bool t.spaced,.slice xa t.hidden.length xc] 57)
    have HL5:=Qh (heap_alloc_new w4 (.cells #[.int .i64 t.kind,.string t.text,.bool t.spaced,.slice xa t.hidden.length xc] 57))
    have hb5:=hb4.trans (bl.mono hb4.size)
    have HRO5:=Qh (HRO.out.below hb5)
    have HTD5:=Qh (HTD.out.below hb5)
    have XR5:=Qh (sTok.below XR.out hb5)
    have hbw5:=hb.trans (hb5.mono hb.size)
    have HOM:=Qh HRO.out.mine
    have HTL:=Qh HTD.out.lt
    have HXO:Hid (∀ b∈xf,(Value.slice ao NO co).ownBlock≠some b):=λ b hb h=>HTD.out.o b (HXF.out b hb) h
    clear bl
    go_upto_region 7 with(at_builtin;refine ZaG (X:=[(⟨[.int .i64 t.kind,.string t.text,.bool t.spaced,.slice xa t.hidden.length xc],t,xf⟩:Elem Tok)]) ti_tok rfl (by decide) _ rfl (.tmp 52) (.tmp 56) rfl w.heap.size (.slice ao NO co) rfl HRO5.out ⟨w4.heap.size,0,none⟩ 1 1 rfl rfl (λ x hx=>by obtain rfl:=Qm hx;exact⟨rfl,XR5.out,HXO.out⟩) (λ x hx=>by obtain rfl:=Qm hx;exact ZaE _ _ _ _ XR5.out) (λ j u hj=>by rw [ZaI,Nat.zero_add,cell_of_row _ _ _ _ _ _ HL5.out];simpa using hj) (by have:=HNO.out;unfold maxLen;omega) (by have:=HNO.out;omega) hbw5.size ?_;intro v7 w7 hR7 hg7 hp7)
    have hb7:Below w.heap.size w w7:=hbw5.grown hg7 hbw5.size (λ b hb=>(HOM.out b hb).1)
    have HR7:=Qh hR7
    have HTD7:Hid (ToDo w.heap.size fp v7 (.slice (some ⟨bw,ow,none⟩) NW cw) (t::r) fpw w7):=⟨(Zaa sTok).frame (λ b hb'=>hg7.block b (HTD5.out.lt b hb') (λ e=>HTD.out.o b hb' e.symm)) HTD5.out.r,λ b hb' hv=>by
      rcases hp7 with e | e
      ·exact HTD.out.o b hb' (by rw [← e];exact hv)
      ·rw [e,Qi] at hv;have:=HTD5.out.lt b hb';omega,HTD.out.l⟩
    have HOL7:Hid (∀ x∈O++[(⟨[.int .i64 t.kind,.string t.text,.bool t.spaced,.slice xa t.hidden.length xc],t,xf⟩:Elem Tok)],∀ b∈x.fp,b∈fp\/w.heap.size<=b):=λ x hx b hb'=>by
     rcases Qa hx with hx | hx
     ·exact HOL.out x hx b hb'
     ·rw [Qm hx] at hb';exact HTD.out.l b (HXF.out b hb')
    obtain⟨a7,c7,hv7,-⟩:=hR7.val
    rw [show (O++[(⟨[.int .i64 t.kind,.string t.text,.bool t.spaced,.slice xa t.hidden.length xc],t,xf⟩:Elem Tok)]).length=NO+1 by rw [List.length_append,HNO.out];rfl] at hv7
    subst hv7
    clear hR7 hg7 hp7 HRO5 HTD5 XR5 HL5 hb5 hbw5
    obtain⟨sv,HSV⟩:∃ sv:Value,Hid (sv=.slice (if cw=1 then some ⟨bw,ow,none⟩ else some ⟨bw,ow+4,none⟩) (NW-1) (cw-1)):=⟨_,Qh rfl⟩
    have o1:(1:Int)<=(NW:Int):=by omega
    have o2:1<=NW:=hNW
    have o3:1<=cw:=by omega
    have o4:(1:Int)<=(cw:Int):=by omega
    clear c0 c1 c2 c3
    go_cut [10] from 23 to 125 (λ d wx=>d=sv/\wx=w7)
    case first =>
     by_cases h1:cw=1
     ·have HSV1:Hid (sv=.slice (some ⟨bw,ow,none⟩) (NW-1) (cw-1)):=by show _=_;rw [HSV.out,if_pos h1]
      have HC1:=Qh h1
      go_wp2
      go_meet
      case rel=>exact⟨by rw [HSV1.out];simp [HC1.out],by trivial⟩
     ·have HSV1:Hid (sv=.slice (some ⟨bw,ow+4,none⟩) (NW-1) (cw-1)):=by show _=_;rw [HSV.out,if_neg h1]
      go_wp2
      go_meet
      case rel=>exact⟨by rw [HSV1.out],by trivial⟩
    obtain⟨rfl,rfl⟩:=hcut
    try generalize wc=w7 at *
    obtain⟨fps,RS0,hfs⟩:=Za0 1 (by have:=HNW.out;omega:1<=(t::r).length) HTD7.out.r
    have HRS:Hid (ToDo w.heap.size fp (.slice a7 (NO+1) c7) u10 r fps w7):=⟨by rw [HSV.out];exact RS0,λ b hb'=>HTD7.out.o b (hfs b hb'),λ b hb'=>HTD7.out.l b (hfs b hb')⟩
    have HLN:Hid (lenOf u10=NW-1):=by show _=_;rw [HSV.out];rfl
    clear RS0 hfs
    by_cases hfl:60<NO+1
    ·have HF:=Qh (HGO.out.trans (ZbE HG.out (by rw [List.length_map,← HNO.out];exact hfl)))
     have e6:(60:Int)<((NO:Nat):Int)+1:=by omega
     go_wp2
     go_ret3
     exact XpOf.none HF.out hb7
    ·have HGN:Hid (expG T n s [] l=expG T j s' ((O++[(⟨[.int .i64 t.kind,.string t.text,.bool t.spaced,.slice xa t.hidden.length xc],t,xf⟩:Elem Tok)]).map (·.d)) r):=by show _=_;rw [HGO.out,Zbs HG.out (by rw [List.length_map,← HNO.out];exact hfl),List.map_append];rfl
     have e6:¬ (60:Int)<((NO:Nat):Int)+1:=by omega
     have HHR:Hid (∀ u∈r,HidIn N u):=λ u hu=>HHW.out u (by simp [hu])
     have hrl:r.length<=100:=by have:=HNW.out;rw [List.length_cons] at this;omega
     have hol:(O++[(⟨[.int .i64 t.kind,.string t.text,.bool t.spaced,.slice xa t.hidden.length xc],t,xf⟩:Elem Tok)]).length<=60:=by rw [List.length_append,← HNO.out];simp;omega
     go_wp2
     go_roundw
     case rel=>first | exact⟨j,s',_,r,fps,hsj,hjn,rfl,hrl,hol,HR7,HOL7,HRS,HGN,HHR,hb7⟩ | ((repeat apply Exists.intro);exact⟨⟨j,s',_,r,fps,hsj,hjn,rfl,hrl,hol,HR7,HOL7,HRS,HGN,HHR,hb7⟩,rfl⟩)
     case measure=>rw [HLN.out];simp [intOf,lenOf];omega
   ·have bm:=Zab w3 (.cells #[.string m.name,.bool m.function,.slice a2 m.params.length c2_,.slice a3 m.body.length c3_] 70)
    have hbk:=hb3.trans (bm.mono hb3.size)
    have HXk:=Qh (heap_alloc_new w3 (.cells #[.string m.name,.bool m.function,.slice a2 m.params.length c2_,.slice a3 m.body.length c3_] 70))
    have RMk:=Qh (sMacro.below RM bm)
    have HFM:=Qh hf
    have HMN:Hid (macOk m=true/\m.name∈N):=⟨hTab _ (ZiU hf),hT _ (ZiU hf)⟩
    clear HFD RM hf
    go_upto_region 5 with fail
    clear c0 c1 c2 c3
    have hwb:w.heap.size<=w3.heap.size:=Nat.le_trans hwr hb3.size
    obtain⟨mb,HMB⟩:∃ mb:Nat,Hid (mb=w3.heap.size):=⟨_,Qh rfl⟩
    generalize (w3.alloc (.cells #[.string m.name,.bool m.function,.slice a2 m.params.length c2_,.slice a3 m.body.length c3_] 70))=wk at *
    rw [show w3.heap.size=mb from HMB.out.symm] at HXk ⊢
    obtain⟨op,HOP⟩:∃ op:Bool,Hid (op=Zfa r):=⟨_,Qh rfl⟩
    obtain⟨fu,HFU⟩:∃ fu:Bool,Hid (fu=m.function):=⟨_,Qh rfl⟩
    rw [show m.function=fu from HFU.out.symm] at HXk
    go_cut [51] from 23 to 125 (λ d wx=>d=.bool (fu && !op)/\Below wk.heap.size wk wx)
    case first =>
     have m1:=Qc 1 HXk.out
     cases fu
     ·go_wp2
      go_meet
      case rel=>exact⟨rfl,Below.refl _ _⟩
     ·by_cases h1:NW=1
      ·subst h1
       have HOF:Hid (op=false):=by
        have h2:=HNW.out
        cases r with
        | nil=>exact HOP.out
        | cons u q=>simp at h2
       go_wp2
       go_meet
       case rel=>exact⟨by rw [HOF.out];rfl,Below.refl _ _⟩
      ·have hr:0<r.length:=by have:=HNW.out;rw [List.length_cons] at this;omega
       have e1:((NW:Int)==1)=false:=by simp;omega
       have e2:¬ (NW:Int)=1:=by omega
       have e3:(1:Int)<(NW:Int):=by omega
       have e4:1<NW:=by omega
       obtain⟨ya,yc,yf,hd,yR⟩:=HT1.out hr
       obtain⟨d0,d1,d2,d3⟩:=hd wk hbk
       have HQ:=Qh (Zda _ r[0] yf wk ⟨#[40]⟩ (sTok.below yR hbk))
       have HL40:Hid ((decide (r[0].kind=4) && (r[0].text.toList==(⟨#[40]⟩:ByteArray).toList))=op):=by
        show _=_
        rw [show (⟨#[40]⟩:ByteArray).toList=[40] by rw [ByteArray.toList_eq],HOP.out]
        cases r with
        | nil=>simp at hr
        | cons u q=>rfl
       rw [HL40.out] at HQ
       clear HL40 hd yR h1
       go_wp2_with fail
       refine HQ.out.mono ?_
       rintro e u1 ⟨rfl,g1⟩
       go_wp2
       go_meet
       case rel=>exact⟨rfl,g1⟩
    obtain⟨rfl,hbc⟩:=hcut
    generalize wc=w4 at *
    have hb4:=hbk.trans (hbc.mono hbk.size)
    have HX4:=Qh (mbox HXk.out hbc)
    have RM4:=Qh (sMacro.below RMk.out hbc)
    clear RMk HXk hbc bm hb3 hbk
    cases hfo:(fu && !op)
    rotate_left
    ·have HG:Hid (goM T (t::r)=none):=by
      simp only [Bool.and_eq_true,Bool.not_eq_true'] at hfo
      exact go_shut (r:=r) HFM.out (by rw [← HFU.out];exact hfo.1) (by rw [← HOP.out];exact hfo.2)
     clear HX4 RM4 HFM HMN HMB HOP HFU hfo hfm hwb
     go_upto_region 6 with fail
     obtain⟨c0,c1,c2,c3⟩:=HCE.out w4 hb4
     have bl:=Zab w4 (.cells #[.int .i64 t.kind,.string t.text,.bool t.spaced,.slice xa t.hidden.length xc] 57)
     have HL5:=Qh (heap_alloc_new w4 (.cells #[.int .i64 t.kind,.string t.text,.bool t.spaced,.slice xa t.hidden.length xc] 57))
     have hb5:=hb4.trans (bl.mono hb4.size)
     have HRO5:=Qh (HRO.out.below hb5)
     have HTD5:=Qh (HTD.out.below hb5)
     have XR5:=Qh (sTok.below XR.out hb5)
     have hbw5:=hb.trans (hb5.mono hb.size)
     have HOM:=Qh HRO.out.mine
     have HTL:=Qh HTD.out.lt
     have HXO:Hid (∀ b∈xf,(Value.slice ao NO co).ownBlock≠some b):=λ b hb h=>HTD.out.o b (HXF.out b hb) h
     clear bl
     go_upto_region 7 with(at_builtin;refine ZaG (X:=[(⟨[.int .i64 t.kind,.string t.text,.bool t.spaced,.slice xa t.hidden.length xc],t,xf⟩:Elem Tok)]) ti_tok rfl (by decide) _ rfl (.tmp 52) (.tmp 56) rfl w.heap.size (.slice ao NO co) rfl HRO5.out ⟨w4.heap.size,0,none⟩ 1 1 rfl rfl (λ x hx=>by obtain rfl:=Qm hx;exact⟨rfl,XR5.out,HXO.out⟩) (λ x hx=>by obtain rfl:=Qm hx;exact ZaE _ _ _ _ XR5.out) (λ j u hj=>by rw [ZaI,Nat.zero_add,cell_of_row _ _ _ _ _ _ HL5.out];simpa using hj) (by have:=HNO.out;unfold maxLen;omega) (by have:=HNO.out;omega) hbw5.size ?_;intro v7 w7 hR7 hg7 hp7)
     have hb7:Below w.heap.size w w7:=hbw5.grown hg7 hbw5.size (λ b hb=>(HOM.out b hb).1)
     have HR7:=Qh hR7
     have HTD7:Hid (ToDo w.heap.size fp v7 (.slice (some ⟨bw,ow,none⟩) NW cw) (t::r) fpw w7):=⟨(Zaa sTok).frame (λ b hb'=>hg7.block b (HTD5.out.lt b hb') (λ e=>HTD.out.o b hb' e.symm)) HTD5.out.r,λ b hb' hv=>by
       rcases hp7 with e | e
       ·exact HTD.out.o b hb' (by rw [← e];exact hv)
       ·rw [e,Qi] at hv;have:=HTD5.out.lt b hb';omega,HTD.out.l⟩
     have HOL7:Hid (∀ x∈O++[(⟨[.int .i64 t.kind,.string t.text,.bool t.spaced,.slice xa t.hidden.length xc],t,xf⟩:Elem Tok)],∀ b∈x.fp,b∈fp\/w.heap.size<=b):=λ x hx b hb'=>by
      rcases Qa hx with hx | hx
      ·exact HOL.out x hx b hb'
      ·rw [Qm hx] at hb';exact HTD.out.l b (HXF.out b hb')
     obtain⟨a7,c7,hv7,-⟩:=hR7.val
     rw [show (O++[(⟨[.int .i64 t.kind,.string t.text,.bool t.spaced,.slice xa t.hidden.length xc],t,xf⟩:Elem Tok)]).length=NO+1 by rw [List.length_append,HNO.out];rfl] at hv7
     subst hv7
     clear hR7 hg7 hp7 HRO5 HTD5 XR5 HL5 hb5 hbw5
     obtain⟨sv,HSV⟩:∃ sv:Value,Hid (sv=.slice (if cw=1 then some ⟨bw,ow,none⟩ else some ⟨bw,ow+4,none⟩) (NW-1) (cw-1)):=⟨_,Qh rfl⟩
     have o1:(1:Int)<=(NW:Int):=by omega
     have o2:1<=NW:=hNW
     have o3:1<=cw:=by omega
     have o4:(1:Int)<=(cw:Int):=by omega
     clear c0 c1 c2 c3
     go_cut [10] from 23 to 125 (λ d wx=>d=sv/\wx=w7)
     case first =>
      by_cases h1:cw=1
      ·have HSV1:Hid (sv=.slice (some ⟨bw,ow,none⟩) (NW-1) (cw-1)):=by show _=_;rw [HSV.out,if_pos h1]
       have HC1:=Qh h1
       go_wp2
       go_meet
       case rel=>exact⟨by rw [HSV1.out];simp [HC1.out],by trivial⟩
      ·have HSV1:Hid (sv=.slice (some ⟨bw,ow+4,none⟩) (NW-1) (cw-1)):=by show _=_;rw [HSV.out,if_neg h1]
       go_wp2
       go_meet
       case rel=>exact⟨by rw [HSV1.out],by trivial⟩
     obtain⟨rfl,rfl⟩:=hcut
     try generalize wc=w7 at *
     obtain⟨fps,RS0,hfs⟩:=Za0 1 (by have:=HNW.out;omega:1<=(t::r).length) HTD7.out.r
     have HRS:Hid (ToDo w.heap.size fp (.slice a7 (NO+1) c7) u10 r fps w7):=⟨by rw [HSV.out];exact RS0,λ b hb'=>HTD7.out.o b (hfs b hb'),λ b hb'=>HTD7.out.l b (hfs b hb')⟩
     have HLN:Hid (lenOf u10=NW-1):=by show _=_;rw [HSV.out];rfl
     clear RS0 hfs
     by_cases hfl:60<NO+1
     ·have HF:=Qh (HGO.out.trans (ZbE HG.out (by rw [List.length_map,← HNO.out];exact hfl)))
      have e6:(60:Int)<((NO:Nat):Int)+1:=by omega
      go_wp2
      go_ret3
      exact XpOf.none HF.out hb7
     ·have HGN:Hid (expG T n s [] l=expG T j s' ((O++[(⟨[.int .i64 t.kind,.string t.text,.bool t.spaced,.slice xa t.hidden.length xc],t,xf⟩:Elem Tok)]).map (·.d)) r):=by show _=_;rw [HGO.out,Zbs HG.out (by rw [List.length_map,← HNO.out];exact hfl),List.map_append];rfl
      have e6:¬ (60:Int)<((NO:Nat):Int)+1:=by omega
      have HHR:Hid (∀ u∈r,HidIn N u):=λ u hu=>HHW.out u (by simp [hu])
      have hrl:r.length<=100:=by have:=HNW.out;rw [List.length_cons] at this;omega
      have hol:(O++[(⟨[.int .i64 t.kind,.string t.text,.bool t.spaced,.slice xa t.hidden.length xc],t,xf⟩:Elem Tok)]).length<=60:=by rw [List.length_append,← HNO.out];simp;omega
      go_wp2
      go_roundw
      case rel=>first | exact⟨j,s',_,r,fps,hsj,hjn,rfl,hrl,hol,HR7,HOL7,HRS,HGN,HHR,hb7⟩ | ((repeat apply Exists.intro);exact⟨⟨j,s',_,r,fps,hsj,hjn,rfl,hrl,hol,HR7,HOL7,HRS,HGN,HHR,hb7⟩,rfl⟩)
      case measure=>rw [HLN.out];simp [intOf,lenOf];omega
    have HG:Hid (goM T (t::r)=some m):=go_take (r:=r) HFM.out (λ h=>by rw [HFU.out,HOP.out,h.1,h.2] at hfo;simp at hfo)
    clear HFM hfo HOP HT1
    have hB4:=hb.trans (hb4.mono hb.size)
    by_cases hz:s'=0
    ·subst hz
     have HF:=Qh (HGO.out.trans (Zdx HG.out))
     go_wp2
     go_ret3
     exact XpOf.none HF.out hB4
    obtain⟨s1,HS1⟩:∃ s1,Hid (s'=s1+1):=⟨s'-1,by show _=_;omega⟩
    obtain⟨j1,HJ1⟩:∃ j1,Hid (j=j1+1):=⟨j-1,by show _=_;omega⟩
    have hwz:IntKind.i64.wrap ((s':Int)-1)=(s1:Int):=by rw [IntWalk.i64_in _ (by omega)];have:=HS1.out;omega
    have hzi:¬ (s':Int)=0:=by omega
    have hzb:((s':Int)==0)=false:=by simp;omega
    rw [HS1.out,HJ1.out] at HGO
    obtain⟨m0,m1,m2,m3⟩:=Q4 HX4.out
    go_upto_region 13 with fail
    clear hwz hzi hzb
    have hl1:s1<=j1:=by have:=HS1.out;have:=HJ1.out;omega
    have hj1:j1<n:=by have:=HJ1.out;omega
    have RM5:=RM4.out
    rw [show m.function=fu from HFU.out.symm] at RM5
    clear RM4
    have hlen:(t::r).length<=100:=by rw [← HNW.out];exact hW
    cases fu
    rotate_left
    ·obtain⟨hr,hop⟩:=Zmq HG.out HFU.out.symm
     have HCL:=Qh (Zlf (IH j1 hj1) (by omega) hT hN _ fpT _ m fm _ (t::r) fpw s1 w4 HMN.out.1 HMN.out.2 hl1 hlen (by simpa using hr) (by simpa using hop) HHW.out ((Zaa sMacro).below HTBL.out hB4) RM5 ((Zaa sTok).below HTD.out.r hb4))
     have HLF:=Qh (Zmh (f:=λ a k=>expG T j1 k [] a) (λ a k=>Zia T j1 a k []) m (t::r) s1)
     have HCI:=Qh (Zk3 (f:=λ a k=>expG T j1 k [] a) (λ a k ha=>Zic hT j1 a k [] (by simp) ha) HMN.out.2 HHW.out s1)
     have HCK:=Qh (Zn0 (λ a k=>expG T j1 k [] a) m (t::r) s1)
     rcases hq:callX (λ a k=>expG T j1 k [] a) m (t::r) s1 with⟨bd,en,lf,c⟩
     rw [hq] at HCL HLF HCI HCK
     unfold CallOf at HCL
     try dsimp only at HCL HLF HCI HCK
     have HCQ:=Qh hq
     have hN2:2<=NW:=by have:=HNW.out;rw [List.length_cons] at this;omega
     clear hq RM5 hr hop hlen
     go_wp2_with fail
     refine HCL.out.mono ?_
     rintro e w5 ⟨vb,L,rfl,RL,hLd,hLf,hb5⟩
     clear m0 m1 m2 m3 HCL
     have hB5:=hB4.trans (hb5.mono hB4.size)
     obtain⟨ab,cb,hvb,-⟩:=RL.val
     subst hvb
     by_cases hc0:c=0
     rotate_left
     ·have HF:=Qh (HGO.out.trans (Zb7 HG.out HFU.out.symm HCQ.out hc0))
      have e2:(c != 0)=true:=by simp [hc0]
      clear hc0
      go_wp2
      go_ret3
      exact XpOf.none HF.out hB5
     subst hc0
     have HEN:Hid (2<en/\en<=NW):=by
      have:=call_end HCQ.out
      rw [List.length_drop,show (t::r).length=NW from HNW.out.symm] at this
      show _/\_
      omega
     have e2:=HEN.out.2
     have e3:(en:Int)<=(NW:Int):=by omega
     have e4:(0:Int)<=(en:Int):=by omega
     have e5:en<=cw:=by omega
     have e7:(en:Int)<=(cw:Int):=by omega
     have hLn:L.length=bd.length:=by rw [← hLd,List.length_map]
     have HLn:=Qh hLn
     have HLd:=Qh hLd
     have HLf:=Qh hLf
     have HRL:=Qh RL
     have HMI:=Qh HRO.out.mine
     have HTL:=Qh HTD.out.lt
     have HTR:=Qh ((Zaa sTok).below HTD.out.r (hb4.trans (hb5.mono hb4.size)))
     clear hLn hLd hLf RL
     obtain⟨NL,HNL⟩:∃ NL:Nat,Hid (NL=L.length):=⟨_,Qh rfl⟩
     rw [show L.length=NL from HNL.out.symm] at HRL ⊢
     have hwb4:w.heap.size<=w4.heap.size:=hB4.size
     go_upto_region 18 with fail
     go_cut [10] from 23 to 125 (λ d wx=>∃ (fp':List Nat),Hid (ToDo w.heap.size fp (.slice ao NO co) d (bd++(t::r).drop en) fp' wx)/\Below w4.heap.size w4 wx)
     case first =>
      obtain⟨fps,RS0,hfs⟩:=Za0 en (by rw [← HNW.out];exact e2:en<=(t::r).length) HTR.out
      have HRS:=Qh RS0
      have HFS:=Qh hfs
      clear RS0 hfs
      by_cases hce:cw=en
      ·have HRS1:Hid ((Zaa sTok).R w5 [.slice (some ⟨bw,ow,none⟩) (NW-en) 0] ((t::r).drop en) fps):=by have h9:=HRS.out;rw [if_pos hce,show cw-en=0 by omega] at h9;exact h9
       clear HRS
       go_wp2_with (at_builtin;refine Zbh ti_tok rfl (by decide) ZaE _ rfl (.tmp 88) (.tmp 91) rfl w4.heap.size (.slice ab NL cb) (.slice (some ⟨bw,ow,none⟩) (NW-en) 0) ((t::r).drop en) fps rfl HRL.out rfl HRS1.out (λ b hb' h=>by have h1:=HRL.out.mine b h;have h2:=HTL.out b (HFS.out b hb');have:=hb4.size;omega) (by have h1:bd.length<=240:=HCK.out;have:=HLn.out;have:=HNW.out;rw [List.length_drop];unfold maxLen;omega) (by have h1:bd.length<=240:=HCK.out;have:=HLn.out;have:=HNW.out;rw [List.length_drop];omega) hb5.size ?_;intro v7 X7 w7 hX7 hXf7 hR7 hg7 hp7)
       have hb7:Below w4.heap.size w4 w7:=hb5.grown hg7 hb5.size (λ b hb'=>(HRL.out.mine b hb').1)
       have HT7:Hid (∃ fp',ToDo w.heap.size fp (.slice ao NO co) v7 (bd++(t::r).drop en) fp' w7):=by
        obtain⟨fp',h'⟩:=ToDo.next HTD.out hwb4 (λ b h=>by have:=(HMI.out b h).2;have:=hb4.size;omega) hR7 HLf.out (λ x hx b hb'=>HFS.out b (hXf7 x hx b hb'))
        rw [List.map_append,HLd.out,hX7] at h'
        exact⟨fp',h'⟩
       clear hX7 hXf7 hR7 hg7 hp7
       go_wp2
       go_meet
       case rel=>obtain⟨fp',h'⟩:=HT7.out;exact⟨fp',h',hb7⟩
      ·have HRS1:Hid ((Zaa sTok).R w5 [.slice (some ⟨bw,ow+en * 4,none⟩) (NW-en) (cw-en)] ((t::r).drop en) fps):=by have h9:=HRS.out;rw [if_neg hce,Option.map_some,ZaI] at h9;exact Qh h9
       clear HRS
       go_wp2_with (at_builtin;refine Zbh ti_tok rfl (by decide) ZaE _ rfl (.tmp 88) (.tmp 91) rfl w4.heap.size (.slice ab NL cb) (.slice (some ⟨bw,ow+en * 4,none⟩) (NW-en) (cw-en)) ((t::r).drop en) fps rfl HRL.out rfl HRS1.out (λ b hb' h=>by have h1:=HRL.out.mine b h;have h2:=HTL.out b (HFS.out b hb');have:=hb4.size;omega) (by have h1:bd.length<=240:=HCK.out;have:=HLn.out;have:=HNW.out;rw [List.length_drop];unfold maxLen;omega) (by have h1:bd.length<=240:=HCK.out;have:=HLn.out;have:=HNW.out;rw [List.length_drop];omega) hb5.size ?_;intro v7 X7 w7 hX7 hXf7 hR7 hg7 hp7)
       have hb7:Below w4.heap.size w4 w7:=hb5.grown hg7 hb5.size (λ b hb'=>(HRL.out.mine b hb').1)
       have HT7:Hid (∃ fp',ToDo w.heap.size fp (.slice ao NO co) v7 (bd++(t::r).drop en) fp' w7):=by
        obtain⟨fp',h'⟩:=ToDo.next HTD.out hwb4 (λ b h=>by have:=(HMI.out b h).2;have:=hb4.size;omega) hR7 HLf.out (λ x hx b hb'=>HFS.out b (hXf7 x hx b hb'))
        rw [List.map_append,HLd.out,hX7] at h'
        exact⟨fp',h'⟩
       clear hX7 hXf7 hR7 hg7 hp7
       go_wp2
       go_meet
       case rel=>obtain⟨fp',h'⟩:=HT7.out;exact⟨fp',h',hb7⟩
     obtain⟨fp9,HT9,hbc⟩:=hcut
     generalize wc=w6 at *
     obtain⟨a9,c9,hv9,-⟩:=Zac HT9.out.r
     subst hv9
     have hB6:=hB4.trans (hbc.mono hB4.size)
     have hb6:=hb4.trans (hbc.mono hb4.size)
     obtain⟨N9,HN9⟩:∃ N9:Nat,Hid (N9=(bd++(t::r).drop en).length):=⟨_,Qh rfl⟩
     rw [show (bd++(t::r).drop en).length=N9 from HN9.out.symm] at HT9 ⊢
     clear HRL HTR HTL HMI HLd HLf HLn HNL e2 e3 e4 e5 e7 hb5 hB5
     by_cases hfl:60<N9
     ·have HF:=Qh (HGO.out.trans (ZdT HG.out HFU.out.symm HCQ.out (by rw [← HN9.out];exact hfl)))
      have e6:(60:Int)<(N9:Int):=by omega
      go_wp2
      go_ret3
      exact XpOf.none HF.out hB6
     ·have HGN:=Qh (HGO.out.trans (Zeq HG.out HFU.out.symm HCQ.out (by rw [← HN9.out];exact hfl)))
      have e6:¬ (60:Int)<(N9:Int):=by omega
      have HHR:Hid (∀ u∈bd++(t::r).drop en,HidIn N u):=λ u hu=>by
       rcases Qa hu with h | h
       ·exact HCI.out u h
       ·exact HHW.out u (List.mem_of_mem_drop h)
      have hrl:(bd++(t::r).drop en).length<=100:=by rw [← HN9.out];omega
      have hol:O.length<=60:=by rw [← HNO.out];exact hO
      have hlj:lf<=j1:=Nat.le_trans HLF.out hl1
      have hjn1:j1<=n:=by omega
      have HR6:=Qh (HRO.out.below hb6)
      have hms:lf * 1000+N9<s' * 1000+NW:=by have h1:lf<=s1:=HLF.out;have:=HS1.out;omega
      go_wp2
      go_roundw
      case rel=>first | exact⟨j1,lf,O,_,fp9,hlj,hjn1,rfl,hrl,hol,HR6,HOL,HT9,HGN,HHR,hB6⟩ | ((repeat apply Exists.intro);exact⟨⟨j1,lf,O,_,fp9,hlj,hjn1,rfl,hrl,hol,HR6,HOL,HT9,HGN,HHR,hB6⟩,rfl⟩)
      case measure=>simp [intOf,lenOf];omega
    ·have HSB:=Qh (λ (U:World) (hU:Below w4.heap.size w4 U)=>ZeI _ m fm (.slice (some ⟨w4.heap.size,0,none⟩) 0 0) (.slice (some ⟨w4.heap.size+1,0,none⟩) 0 0) [] [] [] [] U (ZjQ HMN.out.1) (by simp) (by simp) (λ k hk=>by simp at hk) (λ k hk=>by simp at hk) (sMacro.below RM5 hU) (Zan _ _ _ _ (by simp)) (Zan _ _ _ _ (by simp)))
     have HSLN:=Qh (Zi1 m [] [])
     have HSIN:Hid (∀ t∈(Zar m [] []).1,HidIn N t):=Zgf (λ l hl=>by simp at hl) (λ l hl=>by simp at hl)
     have knm2:m.name.size<=maxLen:=by obtain⟨_,_,_,_,_,knm,_⟩:=RM5;exact knm
     rcases hsub:Zar m [] [] with⟨bd,okb⟩
     unfold Zik at HSB
     rw [hsub] at HSB HSLN HSIN
     try dsimp only at HSB
     have HSUB:=Qh hsub
     have HBLN:Hid (bd.length<=240):=HSLN.out
     have HBIN:Hid (∀ t∈bd,HidIn N t):=HSIN.out
     have bl1:=Zab w4 (.cells #[] 28)
     have bl2:=Zab (w4.alloc (.cells #[] 28)) (.cells #[] 28)
     have b2:=bl1.trans (bl2.mono bl1.size)
     clear hsub hlen RM5 HSLN HSIN bl1 bl2
     go_wp2_with fail
     refine (HSB.out _ b2).mono ?_
     rintro e w5 ⟨vb,fb,rfl,Rb,hfb,hb5⟩
     clear m0 m1 m2 m3 HSB
     have hb45:=b2.trans (hb5.mono b2.size)
     have hfb2:∀ b∈fb,w4.heap.size<=b:=λ b hb'=>Nat.le_trans b2.size (hfb b hb')
     clear hfb hb5 b2
     have hB5:=hB4.trans (hb45.mono hB4.size)
     have hbr5:=hb4.trans (hb45.mono hb4.size)
     cases okb
     ·have HF:=Qh (HGO.out.trans (Zes HG.out HFU.out.symm HSUB.out))
      go_wp2
      go_ret3
      exact XpOf.none HF.out hB5
     obtain⟨ab,cb,rfl,-⟩:=Zac Rb
     have HRb:=Qh Rb
     have KX:(Zaa sStr).R wr [.slice xa t.hidden.length xc] t.hidden xf:=by
      obtain⟨hv,hcs,-,-,K⟩:=XR.out
      simp only [List.cons.injEq,and_true,true_and] at hcs
      subst hcs;exact K
     have HTHN:Hid (t.hidden.length<=5000):=by have:=(HHW.out t (by simp)).len;show _<=_;omega
     have HXU:Hid (∀ U:World,Below w5.heap.size w5 U->U.heap[mb]?=some (.cells #[.string m.name,.bool false,.slice a2 m.params.length c2_,.slice a3 m.body.length c3_] 70 (0,0))/\U.cell? ⟨bw,ow+2,none⟩=some (.bool t.spaced)/\U.cell? ⟨bw,ow+3,none⟩=some (.slice xa t.hidden.length xc)):=λ U hU=>by
      obtain⟨-,-,h2,h3⟩:=HCE.out U (hbr5.trans (hU.mono hbr5.size))
      exact⟨mbox HX4.out (hb45.trans (hU.mono hb45.size)),h2,h3⟩
     have HUN:=Qh (λ (U:World) (vn:Value) (fn:List Nat) (hU:Below w5.heap.size w5 U) (h2:(Zaa sStr).R U [vn] [m.name] fn)=>Zgl (.slice xa t.hidden.length xc) vn t.hidden m.name xf fn U (by have:=HTHN.out;omega) ((Zaa sStr).below KX (hbr5.trans (hU.mono hbr5.size))) h2)
     have HPUT:=Qh (λ (U:World) (vn:Value) (fn:List Nat) (hU:Below w5.heap.size w5 U) (h2:(Zaa sStr).R U [vn] (ins t.hidden m.name) fn)=>Zg3 (.slice ab bd.length cb) bd fb vn _ fn t.spaced U (by have:=HBLN.out;omega) (λ q hq=>by have hq2:HidIn N bd[q]:=HBIN.out _ (List.getElem_mem hq);have:=hq2.len;have:=HTHN.out;have:=Zfu m.name t.hidden;omega) ((Zaa sTok).below HRb.out hU) h2)
     have HMI:=Qh HRO.out.mine
     have HTL:=Qh HTD.out.lt
     have HTR:=Qh (λ (U:World) (hU:Below w5.heap.size w5 U)=>(Zaa sTok).below HTD.out.r (hbr5.trans (hU.mono hbr5.size)))
     have hcs5:Below w5.heap.size w5 w5.drew:=Zag (Below.refl _ _) 1
     have hwb4:w.heap.size<=w5.heap.size:=hB5.size
     have hwr5:wr.heap.size<=w5.heap.size:=hbr5.size
     have o1:(1:Int)<=(NW:Int):=by omega
     have o2:1<=NW:=hNW
     have o3:1<=cw:=by omega
     have o4:(1:Int)<=(cw:Int):=by omega
     clear KX Rb
     go_upto_region 22 with fail
     go_cut [10] from 23 to 125 (λ d wx=>∃ (fp':List Nat),Hid (ToDo w.heap.size fp (.slice ao NO co) d (putL bd (ins t.hidden m.name) t.spaced++r) fp' wx)/\Below w4.heap.size w4 wx)
     case first =>
      obtain⟨fps,HSD⟩:∃ fps,Hid ((∀ U:World,Below w5.heap.size w5 U->(Zaa sTok).R U [.slice (if cw=1 then some ⟨bw,ow,none⟩ else some ⟨bw,ow+4,none⟩) (NW-1) (cw-1)] r fps)/\∀ b∈fps,b∈fpw):=by
       obtain⟨fps,RS0,hfs⟩:=Za0 1 (by rw [← HNW.out];exact o2:1<=(t::r).length) (HTR.out w5 (Below.refl _ _))
       exact⟨fps,λ U hU=>(Zaa sTok).below RS0 hU,hfs⟩
      by_cases hce:cw=1
      ·have HRS:Hid ((∀ U:World,Below w5.heap.size w5 U->(Zaa sTok).R U [.slice (some ⟨bw,ow,none⟩) (NW-1) 0] r fps)/\∀ b∈fps,b∈fpw):=by
        have h9:=HSD.out;rw [if_pos hce,show cw-1=0 by omega] at h9;exact Qh h9
       clear HSD
       refine wp_region_noPanic ?_
       refine wp_region_held_drew (S:=λ w'=>w'.heap[mb]?=some (.cells #[.string m.name,.bool false,.slice a2 m.params.length c2_,.slice a3 m.body.length c3_] 70 (0,0))/\w'.cell? ⟨bw,ow+2,none⟩=some (.bool t.spaced)/\w'.cell? ⟨bw,ow+3,none⟩=some (.slice xa t.hidden.length xc)) (by kernel_rfl) (by exact HXU.out _ hcs5) (λ hHeld=>?_)
       generalize w5.drew=wd at *
       refine Qt 0 104 rfl rfl ?_
       try simp only [Qp]
       refine Qt 1 105 rfl rfl ?_
       try simp only [Qp]
       refine Qt 2 106 rfl rfl ?_
       try simp only [Qp]
       refine Qt 3 107 rfl rfl ?_
       try simp only [Qp]
       refine Qt 4 108 rfl rfl ?_ (by intro w hSw;obtain⟨sm,sp,sh⟩:=hSw;have m0:=Qc 0 sm;go_simp;(first | done | with_reducible rfl | rfl))
       try simp only [Qp]
       refine Qt 5 109 rfl rfl ?_
       try simp only [Qp]
       refine Qt 6 110 rfl rfl ?_ (by intro w hSw;obtain⟨sm,sp,sh⟩:=hSw;have m0:=Qc 0 sm;go_simp;(first | done | with_reducible rfl | rfl))
       try simp only [Qp]
       refine Qt 9 113 rfl rfl ?_
       try simp only [Qp]
       refine Qt 10 114 rfl rfl ?_
       try simp only [Qp]
       refine Qt 11 115 rfl rfl ?_
       try simp only [Qp]
       refine Qt 12 116 rfl rfl ?_ (by intro w hSw;obtain⟨sm,sp,sh⟩:=hSw;have m0:=Qc 0 sm;go_simp;(first | done | with_reducible rfl | rfl))
       try simp only [Qp]
       refine Qt 14 118 rfl rfl ?_
       try simp only [Qp]
       refine Qt 15 119 rfl rfl ?_
       try simp only [Qp]
       refine Qr 7 rfl (λ K hK=>?_)
       go_simp
       have bk:=Zab wd (.cells #[.string m.name] 9)
       have RL:=ZbX (heap_alloc_new wd (.cells #[.string m.name] 9)) knm2
       have hx1:=hcs5.trans (bk.mono hcs5.size)
       refine hK.out _ _ (HXU.out _ hx1) (λ hHeld=>?_)
       clear hK K bk
       try simp only [Qp]
       generalize (wd.alloc (.cells #[.string m.name] 9))=wx1 at *
       refine Qr 8 rfl (λ K hK=>?_)
       go_simp
       refine (HUN.out wx1 _ _ hx1 RL).mono ?_
       rintro e wx2 ⟨an_,cn_,fn_,rfl,Rn_,-,-,bz2⟩
       have hx2:=hx1.trans (bz2.mono hx1.size)
       refine hK.out _ _ (HXU.out _ hx2) (λ hHeld=>?_)
       clear hK K RL
       try simp only [Qp]
       refine Qr 13 rfl (λ K hK=>?_)
       go_simp
       refine (HPUT.out wx2 _ _ hx2 Rn_).mono ?_
       rintro e wx3 ⟨v8,L8,rfl,R8,D8,F8,hb8⟩
       have hx3:=hx2.trans (hb8.mono hx2.size)
       obtain⟨a8,c8,hv8,-⟩:=R8.val
       subst hv8
       refine hK.out _ _ (HXU.out _ hx3) (λ hHeld=>?_)
       clear hK K Rn_
       try simp only [Qp]
       have h8l:L8.length=bd.length:=by rw [← List.length_map (f:=λ x:Elem Tok=>x.d),D8,ZdB]
       have hx2s:=hx2.size
       have hx3s:=hb8.size
       refine Qr 16 rfl (λ K hK=>?_)
       refine ZdW ti_tok rfl (by decide) ZaE _ 120 rfl rfl (.tmp 117) (.tmp 119) rfl wx2.heap.size (.slice a8 L8.length c8) (.slice (some ⟨bw,ow,none⟩) (NW-1) 0) r fps rfl R8 rfl (HRS.out.1 _ hx3) (λ b hb' h=>by have h1:=R8.mine b h;have h2:=HTL.out b (HRS.out.2 b hb');omega) (by have:=HBLN.out;have:=HNW.out;rw [List.length_cons] at this;unfold maxLen;omega) (by have:=HBLN.out;have:=HNW.out;rw [List.length_cons] at this;omega) hx3s ?_
       intro v7 X7 w7 hX7 hXf7 hR7 hg7 hp7
       have hb43:=hb45.trans (hx3.mono hb45.size)
       have hb7:Below w4.heap.size w4 w7:=hb43.grown hg7 hb43.size (λ b hb'=>by have:=(R8.mine b hb').1;have:=hb45.size;omega)
       have hx7:Below w5.heap.size w5 w7:=hx3.grown hg7 hx3.size (λ b hb'=>by have:=(R8.mine b hb').1;omega)
       have HT7:Hid (∃ fp',ToDo w.heap.size fp (.slice ao NO co) v7 (putL bd (ins t.hidden m.name) t.spaced++r) fp' w7):=by
        obtain⟨fp',h'⟩:=ToDo.next HTD.out (by omega:w.heap.size<=wx2.heap.size) (λ b h=>by have:=(HMI.out b h).2;omega) hR7 F8 (λ x hx b hb'=>HRS.out.2 b (hXf7 x hx b hb'))
        rw [List.map_append,D8,hX7] at h'
        exact⟨fp',h'⟩
       refine hK.out _ _ (HXU.out _ hx7) (λ hHeld=>?_)
       clear hK K R8 D8 F8 hX7 hXf7 hR7 hg7 hp7 HRS
       try simp only [Qp]
       refine Qt 17 10 rfl rfl ?_
       try simp only [Qp]
       refine wpAnyH_done (by kernel_rfl) ?_ _
       refine NoPanic.normal ?_
       clear hHeld
       go_wp2
       go_meet
       case rel=>obtain⟨fp',h'⟩:=HT7.out;exact⟨fp',h',hb7⟩
      ·have HRS:Hid ((∀ U:World,Below w5.heap.size w5 U->(Zaa sTok).R U [.slice (some ⟨bw,ow+4,none⟩) (NW-1) (cw-1)] r fps)/\∀ b∈fps,b∈fpw):=by
        have h9:=HSD.out;rw [if_neg hce] at h9;exact Qh h9
       clear HSD
       refine wp_region_noPanic ?_
       refine wp_region_held_drew (S:=λ w'=>w'.heap[mb]?=some (.cells #[.string m.name,.bool false,.slice a2 m.params.length c2_,.slice a3 m.body.length c3_] 70 (0,0))/\w'.cell? ⟨bw,ow+2,none⟩=some (.bool t.spaced)/\w'.cell? ⟨bw,ow+3,none⟩=some (.slice xa t.hidden.length xc)) (by kernel_rfl) (by exact HXU.out _ hcs5) (λ hHeld=>?_)
       generalize w5.drew=wd at *
       refine Qt 0 104 rfl rfl ?_
       try simp only [Qp]
       refine Qt 1 105 rfl rfl ?_
       try simp only [Qp]
       refine Qt 2 106 rfl rfl ?_
       try simp only [Qp]
       refine Qt 3 107 rfl rfl ?_
       try simp only [Qp]
       refine Qt 4 108 rfl rfl ?_ (by intro w hSw;obtain⟨sm,sp,sh⟩:=hSw;have m0:=Qc 0 sm;go_simp;(first | done | with_reducible rfl | rfl))
       try simp only [Qp]
       refine Qt 5 109 rfl rfl ?_
       try simp only [Qp]
       refine Qt 6 110 rfl rfl ?_ (by intro w hSw;obtain⟨sm,sp,sh⟩:=hSw;have m0:=Qc 0 sm;go_simp;(first | done | with_reducible rfl | rfl))
       try simp only [Qp]
       refine Qt 9 113 rfl rfl ?_
       try simp only [Qp]
       refine Qt 10 114 rfl rfl ?_
       try simp only [Qp]
       refine Qt 11 115 rfl rfl ?_
       try simp only [Qp]
       refine Qt 12 116 rfl rfl ?_ (by intro w hSw;obtain⟨sm,sp,sh⟩:=hSw;have m0:=Qc 0 sm;go_simp;(first | done | with_reducible rfl | rfl))
       try simp only [Qp]
       refine Qt 14 118 rfl rfl ?_
       try simp only [Qp]
       refine Qt 15 119 rfl rfl ?_
       try simp only [Qp]
       refine Qr 7 rfl (λ K hK=>?_)
       go_simp
       have bk:=Zab wd (.cells #[.string m.name] 9)
       have RL:=ZbX (heap_alloc_new wd (.cells #[.string m.name] 9)) knm2
       have hx1:=hcs5.trans (bk.mono hcs5.size)
       refine hK.out _ _ (HXU.out _ hx1) (λ hHeld=>?_)
       clear hK K bk
       try simp only [Qp]
       generalize (wd.alloc (.cells #[.string m.name] 9))=wx1 at *
       refine Qr 8 rfl (λ K hK=>?_)
       go_simp
       refine (HUN.out wx1 _ _ hx1 RL).mono ?_
       rintro e wx2 ⟨an_,cn_,fn_,rfl,Rn_,-,-,bz2⟩
       have hx2:=hx1.trans (bz2.mono hx1.size)
       refine hK.out _ _ (HXU.out _ hx2) (λ hHeld=>?_)
       clear hK K RL
       try simp only [Qp]
       refine Qr 13 rfl (λ K hK=>?_)
       go_simp
       refine (HPUT.out wx2 _ _ hx2 Rn_).mono ?_
       rintro e wx3 ⟨v8,L8,rfl,R8,D8,F8,hb8⟩
       have hx3:=hx2.trans (hb8.mono hx2.size)
       obtain⟨a8,c8,hv8,-⟩:=R8.val
       subst hv8
       refine hK.out _ _ (HXU.out _ hx3) (λ hHeld=>?_)
       clear hK K Rn_
       try simp only [Qp]
       have h8l:L8.length=bd.length:=by rw [← List.length_map (f:=λ x:Elem Tok=>x.d),D8,ZdB]
       have hx2s:=hx2.size
       have hx3s:=hb8.size
       refine Qr 16 rfl (λ K hK=>?_)
       refine ZdW ti_tok rfl (by decide) ZaE _ 120 rfl rfl (.tmp 117) (.tmp 119) rfl wx2.heap.size (.slice a8 L8.length c8) (.slice (some ⟨bw,ow+4,none⟩) (NW-1) (cw-1)) r fps rfl R8 rfl (HRS.out.1 _ hx3) (λ b hb' h=>by have h1:=R8.mine b h;have h2:=HTL.out b (HRS.out.2 b hb');omega) (by have:=HBLN.out;have:=HNW.out;rw [List.length_cons] at this;unfold maxLen;omega) (by have:=HBLN.out;have:=HNW.out;rw [List.length_cons] at this;omega) hx3s ?_
       intro v7 X7 w7 hX7 hXf7 hR7 hg7 hp7
       have hb43:=hb45.trans (hx3.mono hb45.size)
       have hb7:Below w4.heap.size w4 w7:=hb43.grown hg7 hb43.size (λ b hb'=>by have:=(R8.mine b hb').1;have:=hb45.size;omega)
       have hx7:Below w5.heap.size w5 w7:=hx3.grown hg7 hx3.size (λ b hb'=>by have:=(R8.mine b hb').1;omega)
       have HT7:Hid (∃ fp',ToDo w.heap.size fp (.slice ao NO co) v7 (putL bd (ins t.hidden m.name) t.spaced++r) fp' w7):=by
        obtain⟨fp',h'⟩:=ToDo.next HTD.out (by omega:w.heap.size<=wx2.heap.size) (λ b h=>by have:=(HMI.out b h).2;omega) hR7 F8 (λ x hx b hb'=>HRS.out.2 b (hXf7 x hx b hb'))
        rw [List.map_append,D8,hX7] at h'
        exact⟨fp',h'⟩
       refine hK.out _ _ (HXU.out _ hx7) (λ hHeld=>?_)
       clear hK K R8 D8 F8 hX7 hXf7 hR7 hg7 hp7 HRS
       try simp only [Qp]
       refine Qt 17 10 rfl rfl ?_
       try simp only [Qp]
       refine wpAnyH_done (by kernel_rfl) ?_ _
       refine NoPanic.normal ?_
       clear hHeld
       go_wp2
       go_meet
       case rel=>obtain⟨fp',h'⟩:=HT7.out;exact⟨fp',h',hb7⟩
     obtain⟨fp9,HT9,hbc⟩:=hcut
     generalize wc=w6 at *
     obtain⟨a9,c9,hv9,-⟩:=Zac HT9.out.r
     subst hv9
     have hB6:=hB4.trans (hbc.mono hB4.size)
     have hb6:=hb4.trans (hbc.mono hb4.size)
     obtain⟨N9,HN9⟩:∃ N9:Nat,Hid (N9=(putL bd (ins t.hidden m.name) t.spaced++r).length):=⟨_,Qh rfl⟩
     rw [show (putL bd (ins t.hidden m.name) t.spaced++r).length=N9 from HN9.out.symm] at HT9 ⊢
     clear HXU HUN HPUT HMI HTL HTR hcs5 o1 o2 o3 o4 HRb hfb2
     by_cases hfl:60<N9
     ·have HF:=Qh (HGO.out.trans (Zer HG.out HFU.out.symm HSUB.out (by rw [← HN9.out];exact hfl)))
      have e6:(60:Int)<(N9:Int):=by omega
      go_wp2
      go_ret3
      exact XpOf.none HF.out hB6
     ·have HGN:=Qh (HGO.out.trans (Zfb HG.out HFU.out.symm HSUB.out (by rw [← HN9.out];exact hfl)))
      have e6:¬ (60:Int)<(N9:Int):=by omega
      have HHR:Hid (∀ u∈putL bd (ins t.hidden m.name) t.spaced++r,HidIn N u):=λ u hu=>by
       rcases Qa hu with h | h
       ·refine Zgz HBIN.out (λ x hx=>?_) u h
        rcases ZcU hx with rfl | hx
        ·exact HMN.out.2
        ·exact(HHW.out t (by simp)).2 x hx
       ·exact HHW.out u (by simp [h])
      have hrl:(putL bd (ins t.hidden m.name) t.spaced++r).length<=100:=by rw [← HN9.out];omega
      have hol:O.length<=60:=by rw [← HNO.out];exact hO
      have hjn1:j1<=n:=by omega
      have HR6:=Qh (HRO.out.below hb6)
      have hms:s1 * 1000+N9<s' * 1000+NW:=by have:=HS1.out;omega
      go_wp2
      go_roundw
      case rel=>first | exact⟨j1,s1,O,_,fp9,hl1,hjn1,rfl,hrl,hol,HR6,HOL,HT9,HGN,HHR,hB6⟩ | ((repeat apply Exists.intro);exact⟨⟨j1,s1,O,_,fp9,hl1,hjn1,rfl,hrl,hol,HR6,HOL,HT9,HGN,HHR,hB6⟩,rfl⟩)
      case measure=>simp [intOf,lenOf];omega
theorem Zdg (csM:List Value) (m:DMacro) (fpM:List Nat) (v:Value) (a:List (List Tok)) (fp:List Nat) (w:World) (HM:sMacro.R w csM m fpM) (H:(Zaa (Zaa sTok)).R w [v] a fp) :
  Calls Tryz.prog 138 #[.agg csM.toArray,v] w (Says (Zau m a) w):=by
 obtain⟨h2,h3,q2,q3,rfl,-,K2,K3,-⟩:=HM
 obtain⟨a2,c2,rfl,-⟩:=Zaf K2
 obtain⟨a3,c3,rfl,-⟩:=Zac K3
 obtain⟨aa,ca,rfl,hca,hma,hrow⟩:=Zac H
 unfold maxLen at hma
 have b0:=Zab w (.cells #[.string m.name,.bool m.function,.slice a2 m.params.length c2,.slice a3 m.body.length c3] 70)
 have HX:=Qh (heap_alloc_new w (.cells #[.string m.name,.bool m.function,.slice a2 m.params.length c2,.slice a3 m.body.length c3] 70))
 have HA:=Qh ((Zaa (Zaa sTok)).below H b0)
 clear K2 K3 H
 go_enter Tryz.func138,Tryz.ntmps138
 go_upto_region 1 with fail
 generalize (w.alloc (.cells #[.string m.name,.bool m.function,.slice a2 m.params.length c2,.slice a3 m.body.length c3] 70))=W1 at *
 have p2:=Qc 2 HX.out
 by_cases h1:a.length=m.params.length
 rotate_left
 ·have HF:=Qh (Zht h1)
  have e1:((a.length:Int) != (m.params.length:Int))=true:=by simp;omega
  clear h1
  go_wp2
  go_ret
  exact⟨Zad HF.out.symm,b0⟩
 have e1:((a.length:Int) != (m.params.length:Int))=false:=by simp;omega
 have H1:=Qh h1
 clear h1
 go_wp2
 clear p2 e1
 go_loopw [15] (λ i wr=>∃ k:Nat,k<=a.length/\i=.int .i64 k/\Hid (∀ j,(hj:j<a.length)->j<k->Zaj a[j]=true)/\Below W1.heap.size W1 wr) (λ i _=>a.length-(intOf i).toNat)
 case atStart=>exact⟨0,by omega,rfl,Qh (λ j _ h=>absurd h (by omega)),Below.refl _ _⟩
 case round =>
  obtain⟨k,hk,rfl,HV,hb⟩:=hrel
  have hBr:=b0.trans (hb.mono b0.size)
  by_cases hlt:k<a.length
  ·obtain⟨b1,o1,-,rfl,-,-,-⟩:=hrow (by omega)
   obtain⟨aj,cj,f1,q1,R1,l1,-⟩:=Zb5 HA.out hlt
   replace q1:=(hb.cell (p:=⟨b1,o1+k,none⟩) l1).trans q1
   have HT:=Qh (ZbD _ a[k] f1 wr ((Zaa sTok).below R1 hb))
   clear R1 hrow
   cases hv:Zaj a[k]
   ·have HF:=Qh (Zhu (m:=m) hlt hv)
    rw [hv] at HT
    clear hv HV
    go_wp2_with (go_at_call 41;refine (HT.out).mono ?_;rintro e w7 ⟨rfl,hb7⟩)
    go_ret
    exact⟨Zad HF.out.symm,hBr.trans (hb7.mono hBr.size)⟩
   ·have HV1:=Qh hv
    rw [hv] at HT
    clear hv
    have HN:Hid (∀ j,(hj:j<a.length)->j<k+1->Zaj a[j]=true):=Qh (λ j hj hjk=>by
     rcases Nat.lt_succ_iff_lt_or_eq.1 hjk with h | rfl
     ·exact HV.out j hj h
     ·exact HV1.out)
    go_wp2_with (go_at_call 41;refine (HT.out).mono ?_;rintro e w7 ⟨rfl,hb7⟩)
    go_roundw
    case rel=>exact⟨k+1,by omega,by go_num,HN,hb.trans (hb7.mono hb.size)⟩
    case measure=>simp [intOf];omega
  ·have HF:=Qh (Zhv H1.out λ j hj=>HV.out j hj (by omega))
   go_wp2
   go_ret
   exact⟨Zad HF.out.symm,hBr⟩
theorem Zhx (v:Value) (l:List Tok) (fp:List Nat) (k:Nat) (w:World) (hl:l.length<=1000000) (hk:k<l.length) (H:(Zaa sTok).R w [v] l fp) :
  Calls Tryz.prog 149 #[v,.int .i64 k] w λ e w'=>e=.returned (.bool (besL l k || besR l k))/\w'=w:=by
 obtain⟨a,cap,rfl,hc,hm,hrow⟩:=Zac H
 obtain⟨bb,ob,-,rfl,-,-,-⟩:=hrow (by omega)
 unfold maxLen at hm
 have HK:=Qh H
 clear H hrow
 obtain⟨r,HR⟩:∃ r,Hid (r=(besL l k || besR l k)):=⟨_,Qh rfl⟩
 rw [← HR.out]
 have i1:(0:Int)<=(k:Int)+1:=by omega
 have i2:((k:Int)+1).toNat=k+1:=by omega
 have i3:IntKind.i64.wrap ((k:Int)+1)=(k:Int)+1:=IntWalk.i64_in _ (by omega)
 have HRR:Hid (∀ hk2:k+1<l.length,besR l k=(l[k+1].text.toList==[35,35])):=λ hk2=>by unfold besR;rw [dif_pos hk2]
 have HRN:Hid (¬ k+1<l.length->besR l k=false):=λ hk2=>by unfold besR;rw [dif_neg hk2]
 go_enter Tryz.func149,Tryz.ntmps149
 by_cases hk0:0<k
 ·have j0:(0:Int)<(k:Int):=by omega
  have j1:IntKind.i64.wrap ((k:Int)-1)=(k:Int)-1:=IntWalk.i64_in _ (by omega)
  have j2:(0:Int)<=(k:Int)-1:=by omega
  have j3:(k:Int)-1<(l.length:Int):=by omega
  have j4:((k:Int)-1).toNat=k-1:=by omega
  have j5:(1:Int)<=(k:Int):=by omega
  obtain⟨xa,xc,xf,-,x1,-,-,-,-,-⟩:=ZaJ HK.out (j:=k-1) (by omega)
  have HL:Hid (besL l k=((l[k-1]'(by omega)).text.toList==[35,35])):=by show _=_;unfold besL;rw [dif_pos ⟨hk0,by omega⟩]
  generalize (l[k-1]'(by omega)).text=tx at *
  cases hg:(tx.toList==[35,35])
  ·by_cases hk2:k+1<l.length
   ·obtain⟨ya,yc,yf,-,y1,-,-,-,-,-⟩:=ZaJ HK.out (j:=k+1) hk2
    have HF:Hid (r=(l[k+1].text.toList==[35,35])):=by show _=_;rw [HR.out,HL.out,hg,HRR.out hk2];rfl
    have j6:(k:Int)+1<(l.length:Int):=by omega
    go_wp2
    go_ret
    exact⟨by rw [HF.out];rfl,by trivial⟩
   ·have HF:Hid (r=false):=by show _=_;rw [HR.out,HL.out,hg,HRN.out hk2];rfl
    have j6:¬ (k:Int)+1<(l.length:Int):=by omega
    go_wp2
    go_ret
    exact⟨by rw [HF.out];rfl,by trivial⟩
  ·have HF:Hid (r=true):=by show _=_;rw [HR.out,HL.out,hg];rfl
   go_wp2
   go_ret
   exact⟨by rw [HF.out];rfl,by trivial⟩
 ·have j0:¬ (0:Int)<(k:Int):=by omega
  have HL:Hid (besL l k=false):=by show _=_;unfold besL;rw [dif_neg (λ h=>hk0 h.1)]
  by_cases hk2:k+1<l.length
  ·obtain⟨ya,yc,yf,-,y1,-,-,-,-,-⟩:=ZaJ HK.out (j:=k+1) hk2
   have HF:Hid (r=(l[k+1].text.toList==[35,35])):=by show _=_;rw [HR.out,HL.out,HRR.out hk2];rfl
   have j6:(k:Int)+1<(l.length:Int):=by omega
   go_wp2
   go_ret
   exact⟨by rw [HF.out];rfl,by trivial⟩
  ·have HF:Hid (r=false):=by show _=_;rw [HR.out,HL.out,HRN.out hk2];rfl
   have j6:¬ (k:Int)+1<(l.length:Int):=by omega
   go_wp2
   go_ret
   exact⟨by rw [HF.out];rfl,by trivial⟩
theorem Zcf (ct:List Value) (t:Tok) (fpt:List Nat) (v:Value) (l:List Tok) (fp:List Nat) (w:World) (hl:l.length<=1000000) (hh:∀ k,(hk:k<l.length)->l[k].hidden.length<=2000000) (HT:sTok.R w ct t fpt) (H:(Zaa sTok).R w [v] l fp) :
  Calls Tryz.prog 130 #[.agg ct.toArray,v] w (MineN (spc t.spaced l) w):=by
 obtain⟨ht,rfl,-,-,KT⟩:=HT
 obtain⟨at_,ct_,rfl,-⟩:=Zaf KT
 clear KT
 obtain⟨a,cap,rfl,hc,hm,hrow⟩:=Zac H
 unfold maxLen at hm
 have b0:=Zab w (.cells #[.int .i64 t.kind,.string t.text,.bool t.spaced,.slice at_ t.hidden.length ct_] 57)
 have HX:=Qh (heap_alloc_new w (.cells #[.int .i64 t.kind,.string t.text,.bool t.spaced,.slice at_ t.hidden.length ct_] 57))
 have HK:=Qh ((Zaa sTok).below H b0)
 have HH:=Qh hh
 clear H hh
 go_enter Tryz.func130,Tryz.ntmps130
 go_upto_region 1 with fail
 generalize (w.alloc (.cells #[.int .i64 t.kind,.string t.text,.bool t.spaced,.slice at_ t.hidden.length ct_] 57))=W1 at *
 have hsw:w.heap.size<W1.heap.size:=mlt HX.out
 go_wp2
 go_loopw [5,10] (λ vo i wr=>∃ (k:Nat) (L:List (Elem Tok)),k<=l.length/\i=.int .i64 k/\Hid (L.map (·.d)=l.take k)/\Hid (RowN sTok W1.heap.size 57 vo L wr)/\Hid (Own wr W1.heap.size (L.flatMap (·.fp)))/\Below W1.heap.size W1 wr) (λ _ i _=>l.length-(intOf i).toNat)
 case atStart=>exact⟨0,[],by omega,rfl,rfl,RowN.nil _ _ _ _,Own.nil _ _,Below.refl _ _⟩
 case round =>
  obtain⟨k,L,hk,rfl,HD,HR,HO,hb⟩:=hrel
  have hLk:L.length=k:=by have:=congrArg List.length HD.out;rw [List.length_map,List.length_take] at this;omega
  have HLK:=Qh hLk
  obtain⟨ao,co,hvo,-⟩:=HR.out.val
  rw [hLk] at hvo
  subst hvo
  clear hLk
  by_cases hlt:k<l.length
  ·obtain⟨b1,o1,-,rfl,-,-,-⟩:=hrow (by omega)
   obtain⟨xa,xc,xf,x0,x1,x2,x3,xR,hbb,-⟩:=ZaJ HK.out hlt
   replace x0:=(hb.cell (p:=⟨b1,o1+k * 4,none⟩) hbb).trans x0
   replace x1:=(hb.cell (p:=⟨b1,o1+k * 4+1,none⟩) hbb).trans x1
   replace x2:=(hb.cell (p:=⟨b1,o1+k * 4+2,none⟩) hbb).trans x2
   replace x3:=(hb.cell (p:=⟨b1,o1+k * 4+3,none⟩) hbb).trans x3
   have XR:=Qh (sTok.below xR hb)
   have bx:=Zab wr (.cells #[.int .i64 l[k].kind,.string l[k].text,.bool l[k].spaced,.slice xa l[k].hidden.length xc] 57)
   have HX2:=Qh (heap_alloc_new wr (.cells #[.int .i64 l[k].kind,.string l[k].text,.bool l[k].spaced,.slice xa l[k].hidden.length xc] 57))
   clear xR hrow
   go_upto_region 5 with fail
   clear x0 x1 x2 x3
   generalize (wr.alloc (.cells #[.int .i64 l[k].kind,.string l[k].text,.bool l[k].spaced,.slice xa l[k].hidden.length xc] 57))=W2 at *
   obtain⟨p0,p1,p2,p3⟩:=Q4 HX2.out
   have HC:=Qh (ZdA _ l[k] _ W2 (HH.out k hlt) (sTok.below XR.out bx))
   have hrl:wr.heap.size<=W2.heap.size:=bx.size
   go_wp2_with fail
   refine (HC.out).mono ?_
   rintro e w3 ⟨a3,c3,f3,rfl,R3,O3,-,hb3⟩
   clear p0 p1 p2 p3 HC
   have hb23:=bx.trans (hb3.mono bx.size)
   have hW3:=hb23.size
   have hW1:=hb.size
   have hb13:=hb.trans (hb23.mono hb.size)
   have bl:=Zab w3 (.cells #[.int .i64 l[k].kind,.string l[k].text,.bool l[k].spaced,.slice a3 l[k].hidden.length c3] 57)
   have HL4:=Qh (heap_alloc_new w3 (.cells #[.int .i64 l[k].kind,.string l[k].text,.bool l[k].spaced,.slice a3 l[k].hidden.length c3] 57))
   have HR4:=Qh ((HR.out.below hb23).below bl)
   have HO4:=Qh ((HO.out.grow hb23).grow bl)
   have RX:=Qh (sTok.below R3 bl)
   have OX:=Qh (O3.grow bl)
   have hb14:=hb13.trans (bl.mono hb13.size)
   have HLO:=Qh (λ b hb=>HO.out.lt b hb)
   have HMI:=Qh HR.out.mine
   have HXN:Hid (∀ b∈f3,(Value.slice ao k co).ownBlock≠some b):=λ b hb h=>by
    have h1:=(HMI.out b h).2
    have h2:=(O3.2 b hb).1
    omega
   clear R3 O3 HR HO bx hb3 XR HX2 hb23 hb
   go_wp2_with (at_builtin;refine ZaG (X:=[(⟨[.int .i64 l[k].kind,.string l[k].text,.bool l[k].spaced,.slice a3 l[k].hidden.length c3],l[k],f3⟩:Elem Tok)]) ti_tok rfl (by decide) _ rfl (.tmp 14) (.tmp 17) rfl W1.heap.size (.slice ao k co) rfl HR4.out ⟨w3.heap.size,0,none⟩ 1 1 rfl rfl (λ x hx=>by obtain rfl:=Qm hx;exact⟨rfl,RX.out,HXN.out⟩) (λ x hx=>by obtain rfl:=Qm hx;exact ZaE _ _ _ _ RX.out) (λ j u hj=>by rw [ZaI,Nat.zero_add,cell_of_row _ _ _ _ _ _ HL4.out];simpa using hj) (by have:=HLK.out;unfold maxLen;omega) (by have:=HLK.out;omega) hb14.size ?_;intro v5 w5 hR5 hg5 hp5)
   have hb5:Below W1.heap.size W1 w5:=hb14.grown hg5 hb14.size (λ b hb=>(HMI.out b hb).1)
   have HO5:Hid (Own w5 W1.heap.size ((L++[(⟨[.int .i64 l[k].kind,.string l[k].text,.bool l[k].spaced,.slice a3 l[k].hidden.length c3],l[k],f3⟩:Elem Tok)]).flatMap (·.fp))):=by
    show Own _ _ _
    rw [Zgj]
    have e1:([(⟨[.int .i64 l[k].kind,.string l[k].text,.bool l[k].spaced,.slice a3 l[k].hidden.length c3],l[k],f3⟩:Elem Tok)]).flatMap (·.fp)=f3:=by simp
    rw [e1]
    refine Zcd (HO4.out.app (OX.out.lower (by omega)) λ b hb hx=>?_) (λ b hb=>?_) hg5
    ·have h1:=HLO.out b hb
     have h2:=(OX.out.2 b hx).1
     omega
    ·rcases Qa hb with hb | hb
     ·obtain⟨x,hx,hb'⟩:=List.mem_flatMap.1 hb
      exact HR4.out.ap x hx b hb'
     ·exact HXN.out b hb
   have HD5:Hid ((L++[(⟨[.int .i64 l[k].kind,.string l[k].text,.bool l[k].spaced,.slice a3 l[k].hidden.length c3],l[k],f3⟩:Elem Tok)]).map (·.d)=l.take (k+1)):=by
    show _=_
    rw [List.map_append,HD.out,List.take_succ_eq_append_getElem hlt];rfl
   have HR5:=Qh hR5
   clear hR5 hg5 hp5
   go_wp2
   go_roundw
   case rel=>exact⟨k+1,_,by omega,by go_num,HD5,HR5,HO5,hb5⟩
   case measure=>simp [intOf];omega
  ·have hkl:k=l.length:=by omega
   have HXr:=Qh (mbox HX.out hb)
   have hbw:=b0.trans (hb.mono b0.size)
   have HDL:Hid (L.map (·.d)=l):=by show _=_;rw [HD.out,List.take_of_length_le (by omega)]
   have HRW:=Qh (HR.out.lower (base':=w.heap.size) b0.size)
   have HOW:=Qh (HO.out.lower (lo':=w.heap.size) b0.size)
   have p2:=Qc 2 HXr.out
   clear HD HR HO hkl
   by_cases h0:k=0
   ·have HF:Hid (L.map (·.d)=spc t.spaced l):=by
     show _=_
     have hl0:l=[]:=List.length_eq_zero_iff.1 (by have:=congrArg List.length HDL.out;rw [List.length_map] at this;have:=HLK.out;omega)
     rw [HDL.out,hl0];rfl
    have e0:¬ (0:Int)<(k:Int):=by omega
    clear h0
    go_wp2
    go_ret
    refine ⟨_,L,rfl,?_,HF.out,HOW.out,hbw⟩
    exact HRW.out
   ·obtain⟨x,X',rfl⟩:∃ x X',L=x::X':=by
     cases L with
     | nil=>exact absurd HLK.out.symm h0
     | cons x X'=>exact⟨x,X',rfl⟩
    obtain⟨g,hg1,hg2,hg3⟩:∃ g,ao=some ⟨g,0,none⟩/\w.heap.size<=g/\g<wr.heap.size:=by
     obtain⟨a9,c9,e,-,-,h⟩:=HRW.out.val
     simp only [Value.slice.injEq] at e
     obtain⟨rfl,-,-⟩:=e
     exact h (by simp)
    subst hg1
    obtain⟨hx,hcs,okk,oks,K⟩:=HRW.out.el x (by simp)
    obtain⟨ah,ch,rfl,-⟩:=Zaf K
    have hgx:g∉x.fp:=λ hx=>HRW.out.ap x (by simp) g hx rfl
    have HR2:=HRW.out
    have c2:wr.cell? ⟨g,2,none⟩=some (.bool x.d.spaced):=by
     have:=HR2.cellAt (k:=0) (by simp) (j:=2) (by decide) (u:=.bool x.d.spaced) (by show x.cells[2]?=_;rw [hcs];rfl)
     simpa using this
    have f2:wr.frozen? ⟨g,2,none⟩=false:=HR2.frozen 2
    have HS:Hid (RowN sTok w.heap.size 57 (.slice (some ⟨g,0,none⟩) k co) (⟨[.int .i64 x.d.kind,.string x.d.text,.bool t.spaced,.slice ah x.d.hidden.length ch],⟨x.d.kind,x.d.text,t.spaced,x.d.hidden⟩,x.fp⟩::X') (wr.setCell ⟨g,2,none⟩ (.bool t.spaced))):=by
     show RowN _ _ _ _ _ _
     have:=HR2.set (k:=0) (by simp) (j:=2) (by decide) (.bool t.spaced) ⟨[.int .i64 x.d.kind,.string x.d.text,.bool t.spaced,.slice ah x.d.hidden.length ch],⟨x.d.kind,x.d.text,t.spaced,x.d.hidden⟩,x.fp⟩ (by show _=x.cells.set 2 _;rw [hcs];rfl) ⟨_,rfl,okk,oks,K⟩ hgx
     simpa using this
    have HF:Hid (((⟨[.int .i64 x.d.kind,.string x.d.text,.bool t.spaced,.slice ah x.d.hidden.length ch],⟨x.d.kind,x.d.text,t.spaced,x.d.hidden⟩,x.fp⟩:Elem Tok)::X').map (·.d)=spc t.spaced l):=by
     show _=_;rw [← HDL.out];rfl
    have HOS:Hid (Own (wr.setCell ⟨g,2,none⟩ (.bool t.spaced)) w.heap.size (((⟨[.int .i64 x.d.kind,.string x.d.text,.bool t.spaced,.slice ah x.d.hidden.length ch],⟨x.d.kind,x.d.text,t.spaced,x.d.hidden⟩,x.fp⟩:Elem Tok)::X').flatMap (·.fp))):=HOW.out.setCell ⟨g,2,none⟩ (.bool t.spaced)
    have hb2:=hbw.setCell (p:=⟨g,2,none⟩) hg2 (.bool t.spaced)
    have e0:(0:Int)<(k:Int):=by omega
    have e1:0<k:=by omega
    clear K hcs HR2 HRW h0 hg2 hg3
    go_wp2
    go_ret
    exact⟨_,_,rfl,HS.out,HF.out,HOS.out,hb2⟩
end Go.Proofs.YtiaiggjfepoahaaGreat
