/- Texts that the proof of EConditionOf stands on, in one file. -/
import Derived.Test.YtipfpppcbmpjiaaGreatZEConditionOf15
set_option linter.unusedVariables false
set_option maxHeartbeats 16000000
set_option maxRecDepth 100000
set_option linter.unusedSimpArgs false
/- Substitute of the model. (Made by gen_sub5.py.) -/
namespace Go.Proofs.YtipfpppcbmpjiaaGreat
open Go.RowKit
def Zia (m:DMacro) (raw ready:List (List Tok)) (w:World) (e:Ending) (w':World):Prop:=
 ∃ (v:Value) (fp:List Nat),e=.returned (.tuple #[v,.bool (Zap m raw ready).2])/\(Zaa sTok).R w' [v] (Zap m raw ready).1 fp/\(∀ b∈fp,w.heap.size<=b)/\Below w.heap.size w w'
theorem Zcj {m:DMacro} {raw ready:List (List Tok)} {w W:World} (h:Zap m raw ready=([],false)) (hb:Below w.heap.size w W):Zia m raw ready w (.returned (.tuple #[.slice (some ⟨W.heap.size,0,none⟩) 0 0,.bool false])) (W.alloc (.cells #[] 32)):=
 ⟨_,[],by rw [h],by rw [h];exact Zay _ _ _ _ (by simp),by simp,hb.alloc hb.size _⟩
theorem Zho {m:DMacro} {a:List (List Tok)} (h:a.length≠m.params.length):Zas m a=false:=by unfold Zas;rw [decide_eq_false h];rfl
theorem Zhp {m:DMacro} {a:List (List Tok)} {k:Nat} (hk:k<a.length) (h:Zaj a[k]=false):Zas m a=false:=by
 unfold Zas;rw [Bool.and_eq_false_iff];exact .inr (List.all_eq_false.2 ⟨_,List.getElem_mem hk,by simp [h]⟩)
theorem Zhq {m:DMacro} {a:List (List Tok)} (hl:a.length=m.params.length) (h:∀ k,(hk:k<a.length)->Zaj a[k]=true):Zas m a=true:=by
 unfold Zas;rw [Bool.and_eq_true,decide_eq_true_eq,List.all_eq_true]
 exact⟨hl,λ l hl=>by obtain⟨k,hk,rfl⟩:=List.getElem_of_mem hl;exact h k hk⟩
theorem Zeu (csM:List Value) (m:DMacro) (fpM:List Nat) (vr vy:Value) (raw ready:List (List Tok)) (fpr fpy:List Nat) (w:World) (hm:MacSm m) (hlr:raw.length<=1048576) (hly:ready.length<=1048576) (hsr:Zge raw) (hsy:Zge ready)
  (HM:sMacro.R w csM m fpM) (Hr:(Zaa (Zaa sTok)).R w [vr] raw fpr) (Hy:(Zaa (Zaa sTok)).R w [vy] ready fpy) :
  Calls Tryz.prog 71 #[.agg csM.toArray,vr,vy] w (Zia m raw ready w):=by
 have HM0:=HM
 obtain⟨h2,h3,q2,q3,rfl,-,K2,K3,-⟩:=HM
 obtain⟨a2,c2,rfl,-⟩:=Zaf K2
 obtain⟨a3,c3,rfl,-⟩:=Zac K3
 have hrl:=(Zaa (Zaa sTok)).lt Hr
 have hyl:=(Zaa (Zaa sTok)).lt Hy
 have b0:=Zab w (.cells #[.string m.name,.bool m.function,.slice a2 m.params.length c2,.slice a3 m.body.length c3] 56)
 have HX:=Qh (heap_alloc_new w (.cells #[.string m.name,.bool m.function,.slice a2 m.params.length c2,.slice a3 m.body.length c3] 56))
 have HM1:=Qh (sMacro.below HM0 b0)
 have Hr1:=Qh ((Zaa (Zaa sTok)).below Hr b0)
 have Hy1:=Qh ((Zaa (Zaa sTok)).below Hy b0)
 have hs1:(w.alloc (.cells #[.string m.name,.bool m.function,.slice a2 m.params.length c2,.slice a3 m.body.length c3] 56)).heap.size=w.heap.size+1:=Array.size_push _
 have HS1:=Qh hs1
 have hrn:w.heap.size∉fpr:=λ h=>Nat.lt_irrefl _ (hrl _ h)
 have hyn:w.heap.size∉fpy:=λ h=>Nat.lt_irrefl _ (hyl _ h)
 clear K2 K3 HM0 Hr Hy hs1 hrl hyl
 go_enter Tryz.func71,Tryz.ntmps71
 go_upto_region 1 with fail
 generalize (w.alloc (.cells #[.string m.name,.bool m.function,.slice a2 m.params.length c2,.slice a3 m.body.length c3] 56))=W1 at *
 obtain⟨p0,p1,p2,p3⟩:=Q4 HX.out
 go_wp2_with fail
 refine (Zeo _ m _ W1 hm.1 hm.2.1 hm.2.2 HM1.out).mono ?_
 rintro e w2 ⟨b2,b3,d2,d3,f2,rfl,R2,lo2,-,hb2⟩
 clear p0 p1 p2 p3
 have HX2:=Qh (mbox HX.out hb2)
 have p0:=Qc 0 HX2.out
 have pf0:=Qf 0 HX2.out
 have p1:=Qc 1 HX2.out
 have pf1:=Qf 1 HX2.out
 have p2:=Qc 2 HX2.out
 have pf2:=Qf 2 HX2.out
 have p3:=Qc 3 HX2.out
 have pf3:=Qf 3 HX2.out
 have hs2:=HS1.out
 have hs3:=hb2.size
 have hn2:w.heap.size∉f2:=λ h=>by have:=lo2 _ h;omega
 have HM3:=Qh (sMacro.set4R R2 hn2 (.string m.name) (.bool m.function) (.slice b2 m.params.length d2) (.slice b3 m.body.length d3))
 have Hr3:=Qh ((Zaa (Zaa sTok)).set4R ((Zaa (Zaa sTok)).below Hr1.out hb2) hrn (.string m.name) (.bool m.function) (.slice b2 m.params.length d2) (.slice b3 m.body.length d3))
 have Hy3:=Qh ((Zaa (Zaa sTok)).set4R ((Zaa (Zaa sTok)).below Hy1.out hb2) hyn (.string m.name) (.bool m.function) (.slice b2 m.params.length d2) (.slice b3 m.body.length d3))
 have HX3:=Qh (ZaH HX2.out (.string m.name) (.bool m.function) (.slice b2 m.params.length d2) (.slice b3 m.body.length d3))
 have hB3:=Zav (b0.trans (hb2.mono b0.size)) (Nat.le_refl w.heap.size) (.string m.name) (.bool m.function) (.slice b2 m.params.length d2) (.slice b3 m.body.length d3)
 unfold set4 at HM3 Hr3 Hy3 HX3 hB3
 go_upto_region 2 with fail
 clear p0 p1 p2 p3 pf0 pf1 pf2 pf3 R2 lo2 hb2 HX2 HX HM1 Hr1 Hy1 b0 hs2 hs3 hn2 HS1
 generalize ((((w2.setCell ⟨w.heap.size,0,none⟩ (.string m.name)).setCell ⟨w.heap.size,1,none⟩ (.bool m.function)).setCell ⟨w.heap.size,2,none⟩ (.slice b2 m.params.length d2)).setCell ⟨w.heap.size,3,none⟩ (.slice b3 m.body.length d3))=W3 at *
 go_wp2_with fail
 refine (Zc2 _ raw _ W3 hlr hsr Hr3.out).mono ?_
 rintro e w4 ⟨vr2,fr2,rfl,RR4,-,hb4⟩
 obtain⟨ar,cr,rfl,-⟩:=Zac RR4
 have hB4:=hB3.trans (hb4.mono hB3.size)
 go_wp2_with fail
 refine (Zc2 _ ready _ w4 hly hsy ((Zaa (Zaa sTok)).below Hy3.out hb4)).mono ?_
 rintro e w5 ⟨vy2,fy2,rfl,RY5,-,hb5⟩
 obtain⟨ay,cy,rfl,hcy,hmy,hrowY⟩:=Zac RY5
 have HRR:=Qh ((Zaa (Zaa sTok)).below RR4 hb5)
 have HYY:=Qh RY5
 have hb35:=hb4.trans (hb5.mono hb4.size)
 have HM5:=Qh (sMacro.below HM3.out hb35)
 have HX5:=Qh (mbox HX3.out hb35)
 have hB5:=hB4.trans (hb5.mono hB4.size)
 clear RR4 RY5 hb4 hb5 hb35 hB4 hB3 HM3 Hr3 Hy3 HX3 hrn hyn
 have HMV:=Qh (Zej _ m f2 w5 HM5.out)
 obtain⟨p0,p1,p2,p3⟩:=Q4 HX5.out
 cases hv:macOk m
 ·have HF:=Qh (ZbN (raw:=raw) (ready:=ready) (λ h=>by rw [hv] at h;exact absurd h.1 (by simp):¬ (macOk m=true/\Zas m raw=true/\Zas m ready=true)))
  rw [hv] at HMV
  clear hv
  go_wp2_with fail
  refine HMV.out.mono ?_
  rintro e w6 ⟨rfl,hb6⟩
  go_wp2
  go_ret2
  exact Zcj HF.out (hB5.trans (hb6.mono hB5.size))
 have HVD:=Qh hv
 rw [hv] at HMV
 clear hv
 go_wp2_with fail
 refine HMV.out.mono ?_
 rintro e w6 ⟨rfl,hb6⟩
 replace HRR:=Qh ((Zaa (Zaa sTok)).below HRR.out hb6)
 replace HYY:=Qh ((Zaa (Zaa sTok)).below HYY.out hb6)
 have HM6:=Qh (sMacro.below HM5.out hb6)
 have HX6:=Qh (mbox HX5.out hb6)
 have hB6:=hB5.trans (hb6.mono hB5.size)
 clear p0 p1 p2 p3 hb6 HM5 HX5 hB5 HMV
 obtain⟨p0,p1,p2,p3⟩:=Q4 HX6.out
 by_cases h1:raw.length=m.params.length
 rotate_left
 ·have HF:=Qh (ZbN (ready:=ready) (λ h=>by rw [Zho h1] at h;exact absurd h.2.1 (by simp):¬ (macOk m=true/\Zas m raw=true/\Zas m ready=true)))
  have e1:((raw.length:Int) != (m.params.length:Int))=true:=by simp;omega
  clear h1
  go_wp2
  go_ret2
  exact Zcj HF.out hB6
 by_cases h2:ready.length=m.params.length
 rotate_left
 ·have HF:=Qh (ZbN (raw:=raw) (λ h=>by rw [Zho h2] at h;exact absurd h.2.2 (by simp):¬ (macOk m=true/\Zas m raw=true/\Zas m ready=true)))
  have e1:((raw.length:Int) != (m.params.length:Int))=false:=by simp;omega
  have e2:((ready.length:Int) != (m.params.length:Int))=true:=by simp;omega
  clear h1 h2
  go_wp2
  go_ret2
  exact Zcj HF.out hB6
 have e1:((raw.length:Int) != (m.params.length:Int))=false:=by simp;omega
 have e2:((ready.length:Int) != (m.params.length:Int))=false:=by simp;omega
 clear hcy hmy hrowY hm hly hsr hsy
 have H1:=Qh h1
 have H2:=Qh h2
 clear h1 h2
 go_wp2
 clear p0 p1 p2 p3
 go_loopw [8] (λ i wr=>∃ k:Nat,k<=raw.length/\i=.int .i64 k/\Hid (∀ j,(hj:j<raw.length)->(hj2:j<ready.length)->j<k->Zaj raw[j]=true/\Zaj ready[j]=true)/\Below w6.heap.size w6 wr) (λ i _=>raw.length-(intOf i).toNat)
 case atStart=>exact⟨0,by omega,rfl,Qh (λ j _ _ h=>absurd h (by omega)),Below.refl _ _⟩
 case round =>
  obtain⟨k,hk,rfl,HA,hb⟩:=hrel
  have h1:=H1.out
  have h2:=H2.out
  have hBr:=hB6.trans (hb.mono hB6.size)
  by_cases hlt:k<raw.length
  ·have hlt2:k<ready.length:=by omega
   obtain⟨x1,y1,z1,-,-,u1⟩:=Zac HRR.out
   obtain⟨x2,y2,z2,-,-,u2⟩:=Zac HYY.out
   simp only [Value.slice.injEq,true_and] at z1 z2
   obtain⟨rfl,rfl⟩:=z1
   obtain⟨rfl,rfl⟩:=z2
   obtain⟨b1,o1,-,rfl,-,-⟩:=u1 (by omega)
   obtain⟨b2,o2,-,rfl,-,-⟩:=u2 (by omega)
   clear u1 u2 h1 h2
   obtain⟨aj1,cj1,f1,q1,R1,l1,-⟩:=ZbX HRR.out hlt
   obtain⟨aj2,cj2,f2',q2',R2',l2,-⟩:=ZbX HYY.out hlt2
   replace q1:=(hb.cell (p:=⟨b1,o1+k,none⟩) l1).trans q1
   replace q2':=(hb.cell (p:=⟨b2,o2+k,none⟩) l2).trans q2'
   have HT1:=Qh (Zbf _ raw[k] f1 wr ((Zaa sTok).below R1 hb))
   cases hv1:Zaj raw[k]
   ·have HF:=Qh (ZbN (ready:=ready) (λ h=>by rw [Zhp hlt hv1] at h;exact absurd h.2.1 (by simp):¬ (macOk m=true/\Zas m raw=true/\Zas m ready=true)))
    rw [hv1] at HT1
    clear hv1 HA
    go_wp2_with (go_at_call 44;refine (HT1.out).mono ?_;rintro e w7 ⟨rfl,hb7⟩)
    go_ret2
    exact Zcj HF.out (hBr.trans (hb7.mono hBr.size))
   ·have HV1:=Qh hv1
    rw [hv1] at HT1
    clear hv1
    go_wp2_with fail
    refine (HT1.out).mono ?_
    rintro e w7 ⟨rfl,hb7⟩
    replace q1:=(hb7.cell (p:=⟨b1,o1+k,none⟩) (Nat.lt_of_lt_of_le l1 hb.size)).trans q1
    replace q2':=(hb7.cell (p:=⟨b2,o2+k,none⟩) (Nat.lt_of_lt_of_le l2 hb.size)).trans q2'
    have hb77:=hb.trans (hb7.mono hb.size)
    have HT2:=Qh (Zbf _ ready[k] f2' w7 ((Zaa sTok).below R2' hb77))
    have hB7:=hB6.trans (hb77.mono hB6.size)
    cases hv2:Zaj ready[k]
    ·have HF:=Qh (ZbN (raw:=raw) (λ h=>by rw [Zhp hlt2 hv2] at h;exact absurd h.2.2 (by simp):¬ (macOk m=true/\Zas m raw=true/\Zas m ready=true)))
     rw [hv2] at HT2
     clear hv2 HA
     go_wp2_with fail
     refine (HT2.out).mono ?_
     rintro e w8 ⟨rfl,hb8⟩
     go_wp2
     go_ret2
     exact Zcj HF.out (hB7.trans (hb8.mono hB7.size))
    ·have HV2:=Qh hv2
     rw [hv2] at HT2
     clear hv2
     go_wp2_with (go_at_call 44;refine (HT2.out).mono ?_;rintro e w8 ⟨rfl,hb8⟩)
     have HN:Hid (∀ j,(hj:j<raw.length)->(hj2:j<ready.length)->j<k+1->Zaj raw[j]=true/\Zaj ready[j]=true):=Qh (λ j hj hj2 hjk=>by
      rcases Nat.lt_succ_iff_lt_or_eq.1 hjk with h | rfl
      ·exact HA.out j hj hj2 h
      ·exact⟨HV1.out,HV2.out⟩)
     go_roundw
     case rel=>first | exact⟨k+1,by omega,by go_num,HN,hb77.trans (hb8.mono hb77.size)⟩ | ((repeat apply Exists.intro);exact⟨⟨k+1,by omega,by go_num,HN,hb77.trans (hb8.mono hb77.size)⟩,rfl⟩)
     case measure=>simp [intOf];omega
  ·have HYr:=Qh (Zhq h1 λ j hj=>(HA.out j hj (by omega) (by omega)).1)
   have HYy:=Qh (Zhq h2 λ j hj=>(HA.out j (by omega) hj (by omega)).2)
   have HX8:=Qh (mbox HX6.out hb)
   have HM8:=Qh (sMacro.below HM6.out hb)
   have HR8:=Qh ((Zaa (Zaa sTok)).below HRR.out hb)
   have HY8:=Qh ((Zaa (Zaa sTok)).below HYY.out hb)
   have HBD:=Qh (Zkv _ m _ _ _ raw ready _ _ wr HVD.out HYr.out HYy.out HM8.out HR8.out HY8.out)
   obtain⟨p0,p1,p2,p3⟩:=Q4 HX8.out
   clear HA h1 h2
   go_wp2_with fail
   refine (HBD.out).mono ?_
   rintro e w9 ⟨v,L,rfl,RL,hmap,hlen,hsm,hb9⟩
   have hB9:=hBr.trans (hb9.mono hBr.size)
   obtain⟨fpL,RF,-⟩:=RL.read
   obtain⟨aL,cL,rfl,-⟩:=Zac RF
   rw [hmap] at RF
   have hPlen:(subGo m raw ready 0 [] true false).1.length=L.length:=by rw [← hmap,List.length_map]
   rcases hP:subGo m raw ready 0 [] true false with⟨l,ok⟩
   rw [hP] at hmap hPlen RF
   dsimp only at hmap hPlen RF
   have HW:=Qh (ZaO _ l fpL w9 (by show l.length<=_;omega) (λ k hk=>by
    have hk':k<L.length:=by rw [← hPlen];exact hk
    have:=hsm L[k] (List.getElem_mem hk')
    have e:(L.map (·.d))[k]'(by simpa using hk')=l[k]:=List.getElem_of_eq hmap _
    rw [← e,List.getElem_map];omega) RF)
   have e3:(L.map (·.d)).length=l.length:=by rw [hmap]
   rw [e3]
   cases ok
   ·have HF:=Qh (Zeq hP)
    clear HW
    go_wp2
    go_ret2
    exact Zcj HF.out hB9
   ·by_cases h9:240<l.length
    ·have HF:=Qh (ZgU hP h9)
     clear HW
     go_wp2
     go_ret2
     exact Zcj HF.out hB9
    ·have HF:=Qh (ZhY ⟨HVD.out,HYr.out,HYy.out⟩ hP h9)
     have h9':¬ (240:Int)<(l.length:Int):=by omega
     clear h9 hP hPlen hmap hsm hlen e3 RL RF HBD HYr HYy HX8 HM8 HR8 HY8 HVD p0 p1 p2 p3
     go_wp2_with fail
     refine (HW.out).mono ?_
     rintro e w10 ⟨v,fpo,rfl,RO,lo,-,hb10⟩
     go_wp2
     go_ret2
     exact⟨v,fpo,by rw [HF.out];rfl,by rw [HF.out];exact RO,λ b hb=>Nat.le_trans hB9.size (lo b hb),hB9.trans (hb10.mono hB9.size)⟩
theorem Zck {fn:Func} {t u v x:Tmp} (h:fn.results=#[.tmp t,.tmp u,.tmp v,.tmp x]) (tmps:Array Value) (P:Program) (w:World) :
  (results fn tmps).run P w=.ok (.tuple #[tmps.getD t undef,tmps.getD u undef,tmps.getD v undef,tmps.getD x undef]) w:=by
 simp [results,h]
/-! ### Arguments, one by one -/
theorem Znu {f:List Tok->Nat->XRes}:∀ (A:List (List Tok)) (s:Nat),(argsX f A s).2.2≠0->(argsX f A s).1=[]
 | [],s,h=>absurd rfl h
 |
  a::r,s,h=>by
  unfold argsX at h ⊢
  split at h
  ·rename_i h1
   rw [if_pos h1]
   split at h
   ·rename_i h2;exact absurd h2 h
   ·rename_i h2;rw [if_neg h2]
  ·rename_i h1;rw [if_neg h1]
def AccA (f:List Tok->Nat->XRes) (P:List (List Tok)) (s k s':Nat) (R:List (List Tok)):Prop:=
 argsX f P s=if (argsX f (P.drop k) s').2.2=0 then (R++(argsX f (P.drop k) s').1,(argsX f (P.drop k) s').2) else ([],(argsX f (P.drop k) s').2)
section
variable {f:List Tok->Nat->XRes} {P:List (List Tok)} {s k s' l:Nat} {R:List (List Tok)} {x:List Tok} {c:Int}
theorem AccA.start (f:List Tok->Nat->XRes) (P:List (List Tok)) (s:Nat):AccA f P s 0 s []:=by
 unfold AccA
 rw [List.drop_zero]
 split
 ·rfl
 ·rename_i h
  have:=Znu P s h
  exact Prod.ext this rfl
theorem AccA.step (h:AccA f P s k s' R) (hk:k<P.length) (hf:f P[k] s'=(x,l,0)):AccA f P s (k+1) l (R++[x]):=by
 unfold AccA at h ⊢
 rw [h,List.drop_eq_getElem_cons hk]
 have e:argsX f (P[k]::P.drop (k+1)) s'=if (argsX f (P.drop (k+1)) l).2.2=0 then (x::(argsX f (P.drop (k+1)) l).1,(argsX f (P.drop (k+1)) l).2) else ([],(argsX f (P.drop (k+1)) l).2):=by
  rw [argsX];simp only [hf];rfl
 rw [e]
 split
 ·rw [List.append_assoc];rfl
 ·rfl
theorem AccA.stop (h:AccA f P s k s' R) (hk:k<P.length) (hf:f P[k] s'=(x,l,c)) (hc:c≠0):argsX f P s=([],l,c):=by
 unfold AccA at h
 rw [h,List.drop_eq_getElem_cons hk]
 have e:argsX f (P[k]::P.drop (k+1)) s'=([],l,c):=by
  rw [argsX];simp only [hf];rw [if_neg hc]
 rw [e,if_neg hc]
theorem AccA.done (h:AccA f P s k s' R) (hk:P.length<=k):argsX f P s=(R,s',0):=by
 unfold AccA at h
 rw [h,List.drop_of_length_le hk]
 show (if (0:Int)=0 then (R++[],s',(0:Int)) else _)=_
 rw [if_pos rfl,List.append_nil]
end
section
variable {f:List Tok->Nat->XRes} {m:DMacro} {work:List Tok} {s e l:Nat} {A R:List (List Tok)} {b:List Tok} {c:Int}
theorem ZlY (h:splK (work.drop 2) 1 [] [] 2=(A,e,false)):callX f m work s=([],0,s,1):=by unfold callX;rw [h,if_neg (by simp)]
theorem ZkD (h:splK (work.drop 2) 1 [] [] 2=(A,e,true)) (hn:argN m.params.length A≠m.params.length):callX f m work s=([],0,s,1):=by unfold callX;rw [h,if_neg (λ h'=>hn h'.2)]
theorem Zjw (h:splK (work.drop 2) 1 [] [] 2=(A,e,true)) (hn:argN m.params.length A=m.params.length) (ha:argsX f (A.take m.params.length) s=(R,l,c)) (hc:c≠0):callX f m work s=([],0,l,c):=by
 unfold callX;simp only [h];rw [if_pos ⟨trivial,hn⟩];simp only [ha];rw [if_neg hc]
theorem Zib (h:splK (work.drop 2) 1 [] [] 2=(A,e,true)) (hn:argN m.params.length A=m.params.length) (ha:argsX f (A.take m.params.length) s=(R,l,0)) (hs:Zap m (A.take m.params.length) R=(b,false)):callX f m work s=([],0,l,2):=by
 unfold callX;simp only [h];rw [if_pos ⟨trivial,hn⟩];simp only [ha];rw [if_pos trivial];simp only [hs];rw [if_neg (by simp)]
theorem ZkE (h:splK (work.drop 2) 1 [] [] 2=(A,e,true)) (hn:argN m.params.length A=m.params.length) (ha:argsX f (A.take m.params.length) s=(R,l,0)) (hs:Zap m (A.take m.params.length) R=(b,true)):callX f m work s=(putL b (ins (both (work.headD zTok).hidden (work.getD (e-1) zTok).hidden) m.name) (work.headD zTok).spaced,e,l,0):=by
 unfold callX;simp only [h];rw [if_pos ⟨trivial,hn⟩];simp only [ha];rw [if_pos trivial];simp only [hs];rw [if_pos trivial]
end
theorem Zca:∀ (l:List Tok) (d:Int) (A:Args) (M:List Tok) (k:Nat) {R:Args} {e:Nat},splK l d A M k=(R,e,true)->k<e/\e<=k+l.length
 | [],d,A,M,k,R,e,h=>by unfold splK at h;simp at h
 |
  t::r,d,A,M,k,R,e,h=>by
  unfold splK at h
  split at h
  ·simp only [Prod.mk.injEq] at h;rw [List.length_cons];omega
  ·split at h
   ·have:=Zca r _ _ _ _ h;rw [List.length_cons];omega
   ·have:=Zca r _ _ _ _ h;rw [List.length_cons];omega
theorem Zfp:∀ (l:List Tok) (d:Int) (A:Args) (M:List Tok) (k:Nat) {B:Nat},(∀ a∈A,a.length<=B)->M.length+l.length<=B->(∀ a∈(splK l d A M k).1,a.length<=B)/\(splK l d A M k).1.length<=A.length+l.length
 | [],d,A,M,k,B,hA,hM=>by unfold splK;exact⟨hA,by simp⟩
 |
  t::r,d,A,M,k,B,hA,hM=>by
  rw [List.length_cons] at hM
  have hA1:∀ a∈A++[M],a.length<=B:=λ a ha=>by
   rcases Qa ha with ha | ha
   ·exact hA a ha
   ·rw [Qm ha];omega
  unfold splK
  split
  ·exact⟨hA1,by simp⟩
  ·split
   ·have:=Zfp r (d+opnK t) (A++[M]) [] (k+1) hA1 (by simp;omega)
    refine ⟨this.1,?_⟩
    have h2:=this.2
    rw [List.length_append,List.length_singleton] at h2
    rw [List.length_cons];omega
   ·have:=Zfp r (d+opnK t) A (M++[t]) (k+1) hA (by simp;omega)
    refine ⟨this.1,?_⟩
    have h2:=this.2
    rw [List.length_cons];omega
theorem Zhr:∀ (l:List Tok) (d:Int) (A:Args) (M:List Tok) (k:Nat) {R:Args} {e:Nat},splK l d A M k=(R,e,true)->0<R.length
 | [],d,A,M,k,R,e,h=>by unfold splK at h;simp at h
 |
  t::r,d,A,M,k,R,e,h=>by
  unfold splK at h
  split at h
  ·simp only [Prod.mk.injEq] at h;rw [← h.1,List.length_append];simp
  ·split at h
   ·exact Zhr r _ _ _ _ h
   ·exact Zhr r _ _ _ _ h
theorem ZlZ {p:Nat} {A:List (List Tok)} (h:argN p A=p):p<=A.length:=by
 by_cases h1:A.length=1
 ·rw [Zd9 h1] at h
  split at h <;> omega
 ·rw [ZcY h1] at h;omega
def XpOf (fp:List Nat) (r:XRes) (w:World) (e:Ending) (w':World):Prop:=
 ∃ (v:Value) (L:List (Elem Tok)),e=.returned (.tuple #[v,.int .i64 (r.2.1:Nat),.int .i64 r.2.2])/\RowN sTok w.heap.size 32 v L w'/\L.map (·.d)=r.1/\(∀ x∈L,∀ b∈x.fp,b∈fp\/w.heap.size<=b)/\Below w.heap.size w w'
def ExpC (T:List DMacro) (N:List ByteArray) (n:Nat):Prop:=
 ∀ (vT:Value) (fpT:List Nat) (v:Value) (l:List Tok) (fp:List Nat) (s:Nat) (w:World),s<=n->l.length<=100->(∀ t∈l,HidIn N t)->(Zaa sMacro).R w [vT] T fpT->(Zaa sTok).R w [v] l fp ->
  Calls Tryz.prog 48 #[vT,v,.int .i64 s] w (XpOf fp (expG T n s [] l) w)
def CallOf (r:List Tok × Nat × Nat × Int) (w:World) (e:Ending) (w':World):Prop:=
 ∃ (v:Value) (L:List (Elem Tok)),e=.returned (.tuple #[v,.int .i64 (r.2.1:Nat),.int .i64 (r.2.2.1:Nat),.int .i64 r.2.2.2])/\RowN sTok w.heap.size 32 v L w'/\L.map (·.d)=r.1/\(∀ x∈L,∀ b∈x.fp,w.heap.size<=b)/\Below w.heap.size w w'
theorem CallOf.none {r:List Tok × Nat × Nat × Int} {l:Nat} {c:Int} {w W:World} (h:r=([],0,l,c)) (hb:Below w.heap.size w W):CallOf r w (.returned (.tuple #[.slice (some ⟨W.heap.size,0,none⟩) 0 0,.int .i64 0,.int .i64 (l:Nat),.int .i64 c])) (W.alloc (.cells #[] 32)):=
 ⟨_,[],by rw [h];rfl,RowN.lit0 sTok 32 W hb.size,by rw [h];rfl,by simp,hb.alloc hb.size _⟩
theorem Zjx {m:DMacro} (h:macOk m=true):MacSm m:=by
 have h1:=(ZaJ h).1
 exact⟨by omega,by omega,λ k hk=>by rw [(Zb8 hk ((ZaJ h).2.2 k hk)).2.1];simp⟩
theorem ZkF {T:List DMacro} {N:List ByteArray} {n:Nat} (HE:ExpC T N n) (hn:n<=1000) (hT:∀ m∈T,m.name∈N) (hN:N.length<=5000) (vT:Value) (fpT:List Nat) (csM:List Value) (m:DMacro) (fpM:List Nat) (v:Value) (work:List Tok) (fp:List Nat) (s:Nat) (w:World) (hm:macOk m=true) (hmN:m.name∈N) (hs:s<=n)
  (hwl:work.length<=100) (h1w:1<work.length) (ho:isM work[1] [40]=true) (hH:∀ t∈work,HidIn N t) (HT:(Zaa sMacro).R w [vT] T fpT) (HM:sMacro.R w csM m fpM) (H:(Zaa sTok).R w [v] work fp) :
  Calls Tryz.prog 70 #[vT,.agg csM.toArray,v,.int .i64 s] w (CallOf (callX (λ a k=>expG T n k [] a) m work s) w):=by
 have HM0:=HM
 obtain⟨h2,h3,q2,q3,rfl,knm,K2,K3,-⟩:=HM
 obtain⟨a2,c2,rfl,-⟩:=Zaf K2
 obtain⟨a3,c3,rfl,-⟩:=Zac K3
 obtain⟨aw,cw,rfl,-,-,hroww⟩:=Zac H
 obtain⟨bw,ow,-,rfl,-,-,-⟩:=hroww (by omega)
 clear hroww K2 K3
 have b0:=Zab w (.cells #[.string m.name,.bool m.function,.slice a2 m.params.length c2,.slice a3 m.body.length c3] 56)
 have HX:=Qh (heap_alloc_new w (.cells #[.string m.name,.bool m.function,.slice a2 m.params.length c2,.slice a3 m.body.length c3] 56))
 have HM1:=Qh (sMacro.below HM0 b0)
 have HT1:=Qh ((Zaa sMacro).below HT b0)
 have HW1:=Qh ((Zaa sTok).below H b0)
 have HLT:=Qh ((Zaa sTok).lt H)
 clear HM0 HT H
 go_enter Tryz.func70,Tryz.ntmps70
 go_upto_region 1 with fail
 generalize (w.alloc (.cells #[.string m.name,.bool m.function,.slice a2 m.params.length c2,.slice a3 m.body.length c3] 56))=W1 at *
 have hs1:w.heap.size<W1.heap.size:=mlt HX.out
 have HSPL:Hid (Calls Tryz.prog 98 #[.slice (some ⟨bw,ow,none⟩) work.length cw,.int .i64 1] W1 (ZiG fp (splK (work.drop 2) 1 [] [] 2) W1)):=ZjL _ work fp 1 W1 (by omega) h1w ho HW1.out
 have HAin:=Zed (P:=HidIn N) (work.drop 2) 1 [] [] 2 (λ t ht=>hH t (List.mem_of_mem_drop ht)) (by simp) (by simp)
 have HAlen:=Zfp (work.drop 2) 1 [] [] 2 (B:=100) (by simp) (by rw [List.length_drop];simp;omega)
 have HEN:=λ R e h=>Zca (work.drop 2) 1 [] [] 2 (R:=R) (e:=e) h
 rcases hS:splK (work.drop 2) 1 [] [] 2 with⟨AA,en,ok⟩
 rw [hS] at HSPL HAin HAlen
 have HSS:=Qh hS
 have HAI:Hid (∀ a∈AA,∀ t∈a,HidIn N t):=HAin
 have HAL:Hid ((∀ a∈AA,a.length<=100)/\AA.length<=100):=⟨HAlen.1,by have:=HAlen.2;rw [List.length_drop] at this;simp at this;omega⟩
 clear HAin HAlen hS
 unfold ZiG at HSPL
 try dsimp only at HSPL
 go_wp2_with fail
 refine HSPL.out.mono ?_
 rintro e w2 ⟨vA,A,rfl,RA,hAd,hAlo,hb2⟩
 have hB2:=b0.trans (hb2.mono b0.size)
 have HX2:=Qh (mbox HX.out hb2)
 have HM2:=Qh (sMacro.below HM1.out hb2)
 have HT2:=Qh ((Zaa sMacro).below HT1.out hb2)
 have HW2:=Qh ((Zaa sTok).below HW1.out hb2)
 obtain⟨aA,cA,hvA,-⟩:=RA.val
 subst hvA
 have hAl:A.length=AA.length:=by rw [← hAd,List.length_map]
 obtain⟨fpA,rA,hfA,-⟩:=RA.read
 rw [hAd,hAl] at rA
 rw [hAl] at RA ⊢
 have HRA:=Qh RA
 have HRR:=Qh rA
 have HAD:=Qh hAd
 have HALO:Hid (∀ x∈A,∀ b∈x.fp,b<w2.heap.size):=λ x hx b hb=>sToks.lt (RA.el x hx) b hb
 have HAE:=Qh hAl
 clear HSPL HM1 HT1 HW1 hAlo RA rA hAd hAl hb2 hfA HX
 cases ok
 ·have HF:=Qh (ZlY (f:=λ a k=>expG T n k [] a) (m:=m) (s:=s) HSS.out)
  have hBd:=Zag hB2 1
  go_wp2_with fail
  go_quiet (fail)
  have hbq:=Zag hB2 nq
  generalize w2.drewN nq=wq at *
  go_wp2
  (try simp only [Exit.inBlock,Exit.then]);refine bodyPost_ret (Zck rfl _ _ _) rfl ?_
  exact CallOf.none HF.out hbq
 have HEE:Hid (2<en/\en<=work.length):=by
  have:=HEN _ _ HSS.out
  show _/\_
  rw [List.length_drop] at this
  omega
 clear HEN
 have hApos:0<AA.length:=Zhr _ _ _ _ _ HSS.out
 obtain⟨g,rfl,hcA⟩:∃ g,aA=some ⟨g,0,none⟩/\AA.length<=cA:=by
  obtain⟨a8,c8,e8,h9,-,h8⟩:=HRA.out.val
  simp only [Value.slice.injEq] at e8
  obtain⟨rfl,-,rfl⟩:=e8
  have hl:=HAE.out
  obtain⟨g,hg,-,-⟩:=h8 (by omega)
  exact⟨g,hg,by omega⟩
 have HCN:=Qh (λ (U:World) (hU:Below w2.heap.size w2 U)=>Zky _ m fpM _ AA fpA U (sMacro.below HM2.out hU) ((Zaa sToks).below HRR.out hU))
 have HSM:Hid (∀ U:World,Below w2.heap.size w2 U->U.heap[w.heap.size]?=some (.cells #[.string m.name,.bool m.function,.slice a2 m.params.length c2,.slice a3 m.body.length c3] 56 (0,0))):=λ U hU=>mbox HX2.out hU
 have hcs:Below w2.heap.size w2 w2.drew:=Zag (Below.refl _ _) 1
 obtain⟨an,HAN⟩:∃ an,Hid (an=argN m.params.length AA):=⟨argN m.params.length AA,Qh rfl⟩
 rw [show argN m.params.length AA=an from HAN.out.symm] at HCN
 go_upto_region 2 with fail
 go_cut [39] from 23 (λ d wx=>d=.bool ((an:Int) != (m.params.length:Int))/\Below w2.heap.size w2 wx)
 case first =>
  refine wp_region_noPanic ?_
  refine wp_region_held_drew (S:=λ w'=>w'.heap[w.heap.size]?=some (.cells #[.string m.name,.bool m.function,.slice a2 m.params.length c2,.slice a3 m.body.length c3] 56 (0,0))) (by kernel_rfl) (by exact HSM.out _ hcs) (λ hHeld=>?_)
  generalize w2.drew=wd at *
  refine Qt 0 29 rfl rfl ?_
  try simp only [Qp]
  refine Qt 1 30 rfl rfl ?_
  try simp only [Qp]
  refine Qt 2 31 rfl rfl ?_
  try simp only [Qp]
  refine Qt 3 32 rfl rfl ?_ (by intro w hSw;obtain⟨m0,m1,m2,m3⟩:=Q4 hSw;go_simp;(first | done | with_reducible rfl | rfl))
  try simp only [Qp]
  refine Qt 4 33 rfl rfl ?_
  try simp only [Qp]
  refine Qt 6 35 rfl rfl ?_
  try simp only [Qp]
  refine Qt 7 36 rfl rfl ?_ (by intro w hSw;obtain⟨m0,m1,m2,m3⟩:=Q4 hSw;go_simp;(first | done | with_reducible rfl | rfl))
  try simp only [Qp]
  refine Qt 8 37 rfl rfl ?_
  try simp only [Qp]
  refine Qr 5 rfl (λ K hK=>?_)
  go_simp
  refine (HCN.out _ hcs).mono ?_
  rintro e w9 ⟨rfl,hb9⟩
  have hx9:=hcs.trans (hb9.mono hcs.size)
  refine hK.out _ _ (HSM.out _ hx9) (λ hHeld=>?_)
  clear hK K
  try simp only [Qp]
  refine Qt 9 38 rfl rfl ?_
  try simp only [Qp]
  refine Qt 10 39 rfl rfl ?_
  try simp only [Qp]
  refine wpAnyH_done (by kernel_rfl) ?_ _
  refine NoPanic.normal ?_
  clear hHeld
  go_wp2
  go_meet
  case rel=>exact⟨rfl,hx9⟩
 obtain⟨rfl,hbc⟩:=hcut
 generalize wc=w3 at *
 have hB3:=hB2.trans (hbc.mono hB2.size)
 by_cases hfit:an=m.params.length
 rotate_left
 ·have HF:=Qh (ZkD (f:=λ a k=>expG T n k [] a) (m:=m) (s:=s) HSS.out (by rw [← HAN.out];exact hfit))
  have e1:((an:Int) != (m.params.length:Int))=true:=by simp;omega
  clear hfit
  go_wp2
  (try simp only [Exit.inBlock,Exit.then]);refine bodyPost_ret (Zck rfl _ _ _) rfl ?_
  exact CallOf.none HF.out hB3
 have HFIT:Hid (argN m.params.length AA=m.params.length):=by show _=_;rw [← HAN.out];exact hfit
 have e1:((an:Int) != (m.params.length:Int))=false:=by simp;omega
 rw [e1]
 have HPL:Hid (m.params.length<=AA.length):=ZlZ HFIT.out
 have hp4:m.params.length<=4:=(ZaJ hm).1.2.2.1
 have hbl:=Zab w3 (.cells #[] 24)
 have HR0:=Qh (RowN.lit0 sToks 24 w3 (Nat.le_refl _))
 have hb24:=hbc
 have hs23:=hbc.size
 have HX4:=Qh (mbox HX2.out hb24)
 have HM4:=Qh (sMacro.below HM2.out hb24)
 have HT4:=Qh ((Zaa sMacro).below HT2.out hb24)
 have HW4:=Qh ((Zaa sTok).below HW2.out hb24)
 have HRR4:=Qh ((Zaa sToks).below HRR.out hb24)
 have HRA4:=Qh (HRA.out.below hb24)
 have hB4:=hB2.trans (hb24.mono hB2.size)
 clear hfit HM2 HT2 HW2 HRR HRA hbc hb24 HCN HSM hcs HX2
 go_upto_region 5 with fail
 clear e1
 have hs34:=hbl.size
 generalize (w3.alloc (.cells #[] 24))=w4 at *
 go_wp2
 go_loopw [3,15,16] (λ vs vr i wr=>∃ (k s':Nat) (R:List (Elem (List Tok))),k<=m.params.length/\i=.int .i64 k/\vs=.int .i64 s'/\s'<=s/\Hid (AccA (λ a k=>expG T n k [] a) (AA.take m.params.length) s k s' (R.map (·.d)))/\Hid (RowN sToks w3.heap.size 24 vr R wr)/\Hid (R.length=k)/\Hid (∀ x∈R,x.d.length<=60/\∀ t∈x.d,HidIn N t)/\Below w3.heap.size w3 wr) (λ _ _ i _=>m.params.length-(intOf i).toNat)
 case atStart=>exact⟨0,s,[],by omega,rfl,rfl,Nat.le_refl _,AccA.start _ _ _,HR0.out,rfl,(λ x hx=>by simp at hx),hbl⟩
 case round =>
  clear HR0
  obtain⟨k,s',R,hk,rfl,rfl,hss,HACC,HRN,HRK,HSM,hb⟩:=hrel
  obtain⟨ar,cr,hvr,-⟩:=HRN.out.val
  rw [HRK.out] at hvr
  subst hvr
  have HXr:=Qh (mbox HX4.out hb)
  have hBr:=hB4.trans (hb.mono hB4.size)
  have m2:=Qc 2 HXr.out
  by_cases hlt:k<m.params.length
  ·have hkA:k<A.length:=by have:=HPL.out;have:=HAE.out;omega
   have hkAA:k<AA.length:=by have:=HPL.out;omega
   have hkP:k<(AA.take m.params.length).length:=by rw [List.length_take];omega
   have HPK:Hid ((AA.take m.params.length)[k]=AA[k]):=List.getElem_take
   have HDK:Hid ((A[k]'hkA).d=AA[k]):=by
    have:=List.getElem_of_eq HAD.out (i:=k) (by rw [List.length_map];exact hkA)
    rw [List.getElem_map] at this
    exact this
   have RX:=HRA4.out.el (A[k]'hkA) (List.getElem_mem hkA)
   have hxlen:=HRA4.out.len (A[k]'hkA) (List.getElem_mem hkA)
   have RX0:=RX
   obtain⟨ak,ck,hck,-⟩:=Zac (S:=sTok) (by
    have:(A[k]'hkA).cells=[(A[k]'hkA).cells[0]'(by rw [hxlen];decide)]:=by
     match hc:(A[k]'hkA).cells,hxlen with
     | [u],_=>rfl
    rw [this] at RX
    exact RX)
   have hcell:(A[k]'hkA).cells=[.slice ak (A[k]'hkA).d.length ck]:=by
    match hc:(A[k]'hkA).cells,hxlen with
    | [u],_=>simp only [hc,List.getElem_cons_zero] at hck;rw [hck]
   rw [hcell] at RX0
   have q0:w3.cell? ⟨g,k,none⟩=some (.slice ak (A[k]'hkA).d.length ck):=by
    have:=HRA4.out.cellAt hkA (j:=0) (by decide) (u:=.slice ak (A[k]'hkA).d.length ck) (by rw [hcell];rfl)
    rw [show k * sToks.m+0=k from by show k * 1+0=k;omega] at this
    exact this
   have q1:wr.cell? ⟨g,k,none⟩=some (.slice ak (A[k]'hkA).d.length ck):=(hb.cell (p:=⟨g,k,none⟩) (HRA4.out.mine g rfl).2).trans q0
   have HXF:Hid (∀ b∈(A[k]'hkA).fp,b<w2.heap.size):=HALO.out _ (List.getElem_mem hkA)
   rw [HDK.out] at q1 RX0
   have hal:=HAL.out.1 _ (List.getElem_mem hkAA)
   have HEX:=Qh (HE vT fpT _ AA[k] _ s' wr (by omega) hal (HAI.out _ (List.getElem_mem hkAA)) ((Zaa sMacro).below HT4.out hb) (sToks.below RX0 hb))
   have HXL:=Qh (ZlX T n AA[k] s' [] (by simp))
   have HXI:=Qh (Zh7 hT n AA[k] s' [] (by simp) (HAI.out _ (List.getElem_mem hkAA)))
   have HXS:=Qh (Zh6 T n AA[k] s' [])
   rcases hx:expG T n s' [] AA[k] with⟨x,lf,c⟩
   rw [hx] at HEX HXL HXI HXS
   have HFX:Hid ((λ a k=>expG T n k [] a) ((AA.take m.params.length)[k]'hkP) s'=(x,lf,c)):=by show expG T n s' [] _=_;rw [HPK.out];exact hx
   unfold XpOf at HEX
   try dsimp only at HEX
   have i0:(0:Int)<=(k:Int):=by omega
   have i1:(k:Int)<(AA.length:Int):=by omega
   clear hx q0 hck hcell RX RX0 hxlen
   generalize AA[k]=ak_ at *
   go_wp2_with fail
   refine HEX.out.mono ?_
   rintro e w5 ⟨vx,L,rfl,RL,hLd,hLf,hb5⟩
   clear m2 q1 HEX
   have hB5:=hBr.trans (hb5.mono hBr.size)
   have hb45:=hb.trans (hb5.mono hb.size)
   obtain⟨ax,cx,hvx,-⟩:=RL.val
   subst hvx
   obtain⟨fx,rx,hfx,-⟩:=RL.read
   rw [hLd] at rx
   have hLx:L.length=x.length:=by rw [← hLd,List.length_map]
   rw [hLx] at rx ⊢
   by_cases hc0:c=0
   rotate_left
   ·have HF:=Qh (Zjw (f:=λ a k=>expG T n k [] a) (m:=m) HSS.out HFIT.out (HACC.out.stop hkP HFX.out hc0) hc0)
    have e2:(c != 0)=true:=by simp [hc0]
    clear hc0
    go_wp2
    (try simp only [Exit.inBlock,Exit.then]);refine bodyPost_ret (Zck rfl _ _ _) rfl ?_
    exact CallOf.none HF.out hB5
   subst hc0
   have HN:=Qh (HACC.out.step hkP HFX.out)
   have HRN5:=Qh (HRN.out.below hb5)
   have bl:=Zab w5 (.cells #[.slice ax x.length cx] 24)
   have HL6:=Qh (heap_alloc_new w5 (.cells #[.slice ax x.length cx] 24))
   have HRN6:=Qh (HRN5.out.below bl)
   have RX6:=Qh (sToks.below rx bl)
   have hb46:=hb45.trans (bl.mono hb45.size)
   have hwr4:=hb.size
   have HVX:Hid (∀ b∈fx,(Value.slice ar k cr).ownBlock≠some b):=λ b hb' h=>by
    have h1:=(HRN.out.mine b h)
    rcases hfx b hb' with h2 | ⟨y,hy,h2⟩
    ·have:=(RL.mine b h2).1;omega
    ·rcases hLf y hy b h2 with h3 | h3
     ·have:=HXF.out b h3;omega
     ·omega
   have hlx:Hid (x.length<=60/\(∀ t∈x,HidIn N t)/\lf<=s'):=⟨HXL.out,HXI.out,HXS.out⟩
   clear RL hLd hLf hfx rx hLx HXL HXI HXS HRN5 bl
   go_upto_region 7 with(at_builtin;refine ZaE (X:=[(⟨[.slice ax x.length cx],x,fx⟩:Elem (List Tok))]) ZdM rfl (by decide) _ rfl (.tmp 67) (.tmp 69) rfl w3.heap.size (.slice ar k cr) rfl HRN6.out ⟨w5.heap.size,0,none⟩ 1 1 rfl rfl (λ y hy=>by obtain rfl:=Qm hy;exact⟨rfl,RX6.out,HVX.out⟩) (λ y hy u hu=>by obtain rfl:=Qm hy;rw [Qm hu];rfl) (λ j u hj=>by rw [ZaI,Nat.zero_add,cell_of_row _ _ _ _ _ _ HL6.out];simpa using hj) (by have:=HRK.out;unfold maxLen;omega) (by have:=HRK.out;omega) (by have:=hb46.size;omega) ?_;intro v7 w7 hR7 hg7 hp7)
   have hmine:=HRN6.out.mine
   have HB7:=Qh (hb46.grown hg7 hb46.size (λ b hb'=>(hmine b hb').1))
   have HR7:=Qh hR7
   have HS7:Hid (∀ y∈R++[(⟨[.slice ax x.length cx],x,fx⟩:Elem (List Tok))],y.d.length<=60/\∀ t∈y.d,HidIn N t):=λ y hy=>by
    rcases Qa hy with hy | hy
    ·exact HSM.out y hy
    ·rw [Qm hy];exact⟨hlx.out.1,hlx.out.2.1⟩
   clear hR7 hg7 hp7
   go_wp2
   go_roundw
   have HN7:Hid (AccA (λ a k=>expG T n k [] a) (AA.take m.params.length) s (k+1) lf ((R++[(⟨[.slice ax x.length cx],x,fx⟩:Elem (List Tok))]).map (·.d))):=by show AccA _ _ _ _ _ _;rw [List.map_append];exact HN.out
   have HK7:Hid ((R++[(⟨[.slice ax x.length cx],x,fx⟩:Elem (List Tok))]).length=k+1):=by show _=_;rw [List.length_append,HRK.out];rfl
   have hlf:lf<=s:=by have:=hlx.out.2.2;omega
   case rel=>first | exact⟨k+1,lf,_,by omega,by go_num,rfl,hlf,HN7,HR7,HK7,HS7,HB7.out⟩ | ((repeat apply Exists.intro);exact⟨⟨k+1,lf,_,by omega,by go_num,rfl,hlf,HN7,HR7,HK7,HS7,HB7.out⟩,rfl⟩)
   case measure=>simp [intOf];omega
  ·have hke:k=m.params.length:=by omega
   have HAR:=Qh (HACC.out.done (by rw [List.length_take];omega))
   obtain⟨fr,rr,-,-⟩:=HRN.out.read
   obtain⟨fT,rT,-⟩:=Zcr (S:=sToks) m.params.length HPL.out HRR4.out
   have hRl:(R.map (·.d)).length<=1048576:=by rw [List.length_map,HRK.out];omega
   have hTl:(AA.take m.params.length).length<=1048576:=by rw [List.length_take];omega
   have hTs:Zge (AA.take m.params.length):=λ j hj=>by
    have hmem:=List.mem_of_mem_take (List.getElem_mem hj)
    refine ⟨by have:=HAL.out.1 _ hmem;omega,λ q hq=>?_⟩
    have:=(HAI.out _ hmem _ (List.getElem_mem hq)).len
    omega
   have hRs:Zge (R.map (·.d)):=λ j hj=>by
    obtain⟨y,hy,e⟩:=List.mem_map.1 (List.getElem_mem hj)
    rw [← e]
    obtain⟨h1,h2⟩:=HSM.out y hy
    refine ⟨by omega,λ q hq=>?_⟩
    have:=(h2 _ (List.getElem_mem hq)).len
    omega
   have HSB:=Qh (λ (U:World) (hU:Below wr.heap.size wr U)=>Zeu _ m fpM (.slice (some ⟨g,0,none⟩) m.params.length cA) (.slice ar k cr) (AA.take m.params.length) (R.map (·.d)) fT fr U (Zjx hm) hTl hRl hTs hRs (sMacro.below (sMacro.below HM4.out hb) hU) ((Zaa sToks).below ((Zaa sToks).below rT hb) hU) ((Zaa sToks).below rr hU))
   have HSIN:Hid (∀ t∈(Zap m (AA.take m.params.length) (R.map (·.d))).1,HidIn N t):=Zf9 (λ l hl=>HAI.out l (List.mem_of_mem_take hl)) (λ l hl=>by obtain⟨y,hy,rfl⟩:=List.mem_map.1 hl;exact(HSM.out y hy).2)
   have HSLN:Hid ((Zap m (AA.take m.params.length) (R.map (·.d))).1.length<=240):=by
    show _<=_
    unfold Zap
    split
    ·split
     ·simp
     ·rename_i h;omega
    ·simp
   rcases hsub:Zap m (AA.take m.params.length) (R.map (·.d)) with⟨bd,okb⟩
   unfold Zia at HSB
   rw [hsub] at HSB HSIN HSLN
   try dsimp only at HSB
   have HSUB:=Qh hsub
   have HSX:Hid (∀ U:World,Below wr.heap.size wr U->U.heap[w.heap.size]?=some (.cells #[.string m.name,.bool m.function,.slice a2 m.params.length c2,.slice a3 m.body.length c3] 56 (0,0))):=λ U hU=>mbox HXr.out hU
   have hcs:Below wr.heap.size wr wr.drew:=Zag (Below.refl _ _) 1
   have p1:(0:Int)<=(m.params.length:Int):=by omega
   have p2:(m.params.length:Int)<=(AA.length:Int):=by have:=HPL.out;omega
   have p3:m.params.length<=AA.length:=HPL.out
   have p4:m.params.length<=cA:=by omega
   have p5:(m.params.length:Int)<=(cA:Int):=by omega
   clear hsub rr rT hRl hTl hTs hRs hke
   go_upto_region 13 with fail
   clear m2
   go_cut [20,21] from 23 (λ b o wx=>∃ (v:Value) (fb:List Nat),b=v/\o=.bool okb/\(Zaa sTok).R wx [v] bd fb/\(∀ b∈fb,wr.heap.size<=b)/\Below wr.heap.size wr wx)
   case first =>
    refine wp_region_noPanic ?_
    refine wp_region_held_drew (S:=λ w'=>w'.heap[w.heap.size]?=some (.cells #[.string m.name,.bool m.function,.slice a2 m.params.length c2,.slice a3 m.body.length c3] 56 (0,0))) (by kernel_rfl) (by exact HSX.out _ hcs) (λ hHeld=>?_)
    generalize wr.drew=wd at *
    refine Qt 0 72 rfl rfl ?_ (by intro w hSw;obtain⟨m0,m1,m2,m3⟩:=Q4 hSw;go_simp;(first | done | with_reducible rfl | rfl))
    try simp only [Qp]
    refine Qt 1 73 rfl rfl ?_
    try simp only [Qp]
    refine Qt 2 74 rfl rfl ?_
    try simp only [Qp]
    refine Qt 3 75 rfl rfl ?_ (by intro w hSw;obtain⟨m0,m1,m2,m3⟩:=Q4 hSw;go_simp;(first | done | with_reducible rfl | rfl))
    try simp only [Qp]
    refine Qt 4 76 rfl rfl ?_
    try simp only [Qp]
    refine Qt 5 77 rfl rfl ?_
    try simp only [Qp]
    refine Qt 6 78 rfl rfl ?_
    try simp only [Qp]
    refine Qr 7 rfl (λ K hK=>?_)
    go_simp
    refine (HSB.out _ hcs).mono ?_
    rintro e w9 ⟨vb,fb,rfl,Rb,hfb,hb9⟩
    have hx9:=hcs.trans (hb9.mono hcs.size)
    have hfb2:∀ b∈fb,wr.heap.size<=b:=λ b hb=>Nat.le_trans hcs.size (hfb b hb)
    refine hK.out _ _ (HSX.out _ hx9) (λ hHeld=>?_)
    clear hK K
    try simp only [Qp]
    refine Qt 8 71 rfl rfl ?_
    try simp only [Qp]
    refine Qt 9 80 rfl rfl ?_
    try simp only [Qp]
    refine Qt 10 81 rfl rfl ?_
    try simp only [Qp]
    refine Qt 11 20 rfl rfl ?_
    try simp only [Qp]
    refine Qt 12 21 rfl rfl ?_
    try simp only [Qp]
    refine wpAnyH_done (by kernel_rfl) ?_ _
    refine NoPanic.normal ?_
    clear hHeld
    go_wp2
    go_meet
    case rel=>exact⟨vb,fb,rfl,rfl,Rb,hfb2,hx9⟩
   obtain⟨vb,fb,rfl,rfl,Rb,hfb,hb6⟩:=hcut
   generalize wc=w6 at *
   have hBr6:=hBr.trans (hb6.mono hBr.size)
   have hb36:=hb.trans (hb6.mono hb.size)
   cases okb
   ·have HF:=Qh (Zib (f:=λ a k=>expG T n k [] a) (m:=m) HSS.out HFIT.out HAR.out HSUB.out)
    go_wp2
    (try simp only [Exit.inBlock,Exit.then]);refine bodyPost_ret (Zck rfl _ _ _) rfl ?_
    exact CallOf.none HF.out hBr6
   obtain⟨ab,cb,rfl,-⟩:=Zac Rb
   have HF0:=Qh (ZkE (f:=λ a k=>expG T n k [] a) (m:=m) HSS.out HFIT.out HAR.out HSUB.out)
   have h0w:0<work.length:=by omega
   have hew:en-1<work.length:=by have:=HEE.out;omega
   have HF:Hid (callX (λ a k=>expG T n k [] a) m work s=(putL bd (ins (both (work[0]'h0w).hidden (work[en-1]'hew).hidden) m.name) (work[0]'h0w).spaced,en,s',0)):=by
    show _=_
    rw [HF0.out]
    have e1:work.headD zTok=work[0]'h0w:=by
     cases work with
     | nil=>simp at h0w
     | cons t r=>rfl
    have e2:work.getD (en-1) zTok=work[en-1]'hew:=by rw [List.getD_eq_getElem?_getD,List.getElem?_eq_getElem hew];rfl
    rw [e1,e2]
   obtain⟨xa,xc,xf,-,-,x2,x3,xR,hbbw,-⟩:=ZaB HW4.out h0w
   obtain⟨ya,yc,yf,-,-,-,y3,yR,-,-⟩:=ZaB HW4.out hew
   have HI0:=Qh (hH _ (List.getElem_mem h0w)).len
   have HI1:=Qh (hH _ (List.getElem_mem hew)).len
   generalize work[0]'h0w=t0 at *
   generalize work[en-1]'hew=t1 at *
   have KX:(Zaa sStr).R w3 [.slice xa t0.hidden.length xc] t0.hidden xf:=by
    obtain⟨hv,hcs,-,-,K⟩:=xR
    simp only [List.cons.injEq,and_true,true_and] at hcs
    subst hcs;exact K
   have KY:(Zaa sStr).R w3 [.slice ya t1.hidden.length yc] t1.hidden yf:=by
    obtain⟨hv,hcs,-,-,K⟩:=yR
    simp only [List.cons.injEq,and_true,true_and] at hcs
    subst hcs;exact K
   have HXU:Hid (∀ U:World,Below w6.heap.size w6 U->U.heap[w.heap.size]?=some (.cells #[.string m.name,.bool m.function,.slice a2 m.params.length c2,.slice a3 m.body.length c3] 56 (0,0))/\U.cell? ⟨bw,ow+3,none⟩=some (.slice xa t0.hidden.length xc)/\U.cell? ⟨bw,ow+(en-1) * 4+3,none⟩=some (.slice ya t1.hidden.length yc)):=λ U hU=>by
    have hbU:=hb36.trans (hU.mono hb36.size)
    refine ⟨mbox HX4.out hbU,(hbU.cell (p:=⟨bw,ow+3,none⟩) hbbw).trans ?_,(hbU.cell (p:=⟨bw,ow+(en-1) * 4+3,none⟩) hbbw).trans y3⟩
    simpa using x3
   have hx2:Hid (∀ U:World,Below w6.heap.size w6 U->U.cell? ⟨bw,ow+2,none⟩=some (.bool t0.spaced)):=λ U hU=>by
    have hbU:=hb36.trans (hU.mono hb36.size)
    refine (hbU.cell (p:=⟨bw,ow+2,none⟩) hbbw).trans ?_
    simpa using x2
   have hbl9:(both t0.hidden t1.hidden).length<=5000:=by have:=Zfe t0.hidden t1.hidden;have:=HI0.out;omega
   have HBO:=Qh (λ (U:World) (hU:Below w6.heap.size w6 U)=>ZgW (.slice xa t0.hidden.length xc) (.slice ya t1.hidden.length yc) t0.hidden t1.hidden _ _ U (by have:=HI0.out;omega) ((Zaa sStr).below KX (hb36.trans (hU.mono hb36.size))) ((Zaa sStr).below KY (hb36.trans (hU.mono hb36.size))))
   have HUN:=Qh (λ (U:World) (vu vn:Value) (fu fn:List Nat) (h1:(Zaa sStr).R U [vu] (both t0.hidden t1.hidden) fu) (h2:(Zaa sStr).R U [vn] [m.name] fn)=>Zgc vu vn (both t0.hidden t1.hidden) m.name fu fn U (by omega) h1 h2)
   have hcs6:Below w6.heap.size w6 w6.drew:=Zag (Below.refl _ _) 1
   have n1:IntKind.i64.wrap ((en:Int)-1)=(en:Int)-1:=IntWalk.i64_in _ (by have:=HEE.out;omega)
   have n2:(0:Int)<=(en:Int)-1:=by have:=HEE.out;omega
   have n3:(en:Int)-1<(work.length:Int):=by have:=HEE.out;omega
   have n4:((en:Int)-1).toNat=en-1:=by have:=HEE.out;omega
   have n5:(1:Int)<=(en:Int):=by have:=HEE.out;omega
   have n6:(0:Int)<(work.length:Int):=by omega
   have knm2:m.name.size<=maxLen:=knm
   clear x2 x3 y3 xR yR KX KY HSB HSX hcs p1 p2 p3 p4 p5
   go_upto_region 16 with fail
   go_cut [22] from 23 (λ d wx=>∃ (au:Option Addr) (cu:Nat) (fh:List Nat),d=.slice au (ins (both t0.hidden t1.hidden) m.name).length cu/\(Zaa sStr).R wx [.slice au (ins (both t0.hidden t1.hidden) m.name).length cu] (ins (both t0.hidden t1.hidden) m.name) fh/\Below w6.heap.size w6 wx)
   case first =>
    refine wp_region_noPanic ?_
    refine wp_region_held_drew (S:=λ w'=>w'.heap[w.heap.size]?=some (.cells #[.string m.name,.bool m.function,.slice a2 m.params.length c2,.slice a3 m.body.length c3] 56 (0,0))/\w'.cell? ⟨bw,ow+3,none⟩=some (.slice xa t0.hidden.length xc)/\w'.cell? ⟨bw,ow+(en-1) * 4+3,none⟩=some (.slice ya t1.hidden.length yc)) (by kernel_rfl) (by exact HXU.out _ hcs6) (λ hHeld=>?_)
    generalize w6.drew=wd at *
    refine Qt 0 86 rfl rfl ?_
    try simp only [Qp]
    refine Qt 1 87 rfl rfl ?_
    try simp only [Qp]
    refine Qt 2 88 rfl rfl ?_
    try simp only [Qp]
    refine Qt 3 89 rfl rfl ?_ (by intro w hSw;obtain⟨sm,sx,sy⟩:=hSw;have m0:=Qc 0 sm;go_simp;(first | done | with_reducible rfl | rfl))
    try simp only [Qp]
    refine Qt 4 90 rfl rfl ?_
    try simp only [Qp]
    refine Qt 5 91 rfl rfl ?_
    try simp only [Qp]
    refine Qt 6 92 rfl rfl ?_
    try simp only [Qp]
    refine Qt 7 93 rfl rfl ?_
    try simp only [Qp]
    refine Qt 8 94 rfl rfl ?_
    try simp only [Qp]
    refine Qt 9 95 rfl rfl ?_ (by intro w hSw;obtain⟨sm,sx,sy⟩:=hSw;have m0:=Qc 0 sm;go_simp;(first | done | with_reducible rfl | rfl))
    try simp only [Qp]
    refine Qt 11 97 rfl rfl ?_
    try simp only [Qp]
    refine Qt 12 98 rfl rfl ?_ (by intro w hSw;obtain⟨sm,sx,sy⟩:=hSw;have m0:=Qc 0 sm;go_simp;(first | done | with_reducible rfl | rfl))
    try simp only [Qp]
    refine wpAnyH_ready (rs:=[10,13]) (by kernel_rfl) (by simp) ?_
    refine AllReadyH.cons rfl (λ K hK=>?_) ?_
    ·skip
     go_simp
     refine (HBO.out _ hcs6).mono ?_
     rintro e wx1 ⟨vb_,fb_,rfl,RB,-,br⟩
     have hx1:=hcs6.trans (br.mono hcs6.size)
     refine hK.out _ _ (HXU.out _ hx1) (λ hHeld=>?_)
     clear hK K
     try simp only [Qp]
     refine Qr 13 rfl (λ K hK=>?_)
     go_simp
     have bk:=Zab wx1 (.cells #[.string m.name] 9)
     have RL:=ZbT (heap_alloc_new wx1 (.cells #[.string m.name] 9)) knm2
     have hx2:=hx1.trans (bk.mono hx1.size)
     replace RB:=(Zaa sStr).below RB bk
     refine hK.out _ _ (HXU.out _ hx2) (λ hHeld=>?_)
     clear hK K bk
     try simp only [Qp]
     generalize (wx1.alloc (.cells #[.string m.name] 9))=wx2 at *
     refine Qr 14 rfl (λ K hK=>?_)
     go_simp
     refine (HUN.out wx2 _ _ _ _ RB RL).mono ?_
     rintro e wz ⟨an_,cn_,fn_,rfl,Rn_,-,-,hbz⟩
     have hxz:=hx2.trans (hbz.mono hx2.size)
     refine hK.out _ _ (HXU.out _ hxz) (λ hHeld=>?_)
     clear hK K
     try simp only [Qp]
     refine Qt 15 22 rfl rfl ?_
     try simp only [Qp]
     refine wpAnyH_done (by kernel_rfl) ?_ _
     refine NoPanic.normal ?_
     clear hHeld
     go_wp2
     go_meet
     case rel=>exact⟨an_,cn_,fn_,rfl,Rn_,hxz⟩
    refine AllReadyH.cons rfl (λ K hK=>?_) AllReadyH.nil
    go_simp
    have bk:=Zab wd (.cells #[.string m.name] 9)
    have RL:=ZbT (heap_alloc_new wd (.cells #[.string m.name] 9)) knm2
    have hx3:=hcs6.trans (bk.mono hcs6.size)
    refine hK.out _ _ (HXU.out _ hx3) (λ hHeld=>?_)
    clear hK K bk
    try simp only [Qp]
    generalize (wd.alloc (.cells #[.string m.name] 9))=wx3 at *
    refine Qr 10 rfl (λ K hK=>?_)
    go_simp
    refine (HBO.out _ hx3).mono ?_
    rintro e wx4 ⟨vb_,fb_,rfl,RB,-,br⟩
    have hx4:=hx3.trans (br.mono hx3.size)
    replace RL:=(Zaa sStr).below RL br
    refine hK.out _ _ (HXU.out _ hx4) (λ hHeld=>?_)
    clear hK K
    try simp only [Qp]
    refine Qr 14 rfl (λ K hK=>?_)
    go_simp
    refine (HUN.out wx4 _ _ _ _ RB RL).mono ?_
    rintro e wz ⟨an_,cn_,fn_,rfl,Rn_,-,-,hbz⟩
    have hxz:=hx4.trans (hbz.mono hx4.size)
    refine hK.out _ _ (HXU.out _ hxz) (λ hHeld=>?_)
    clear hK K
    try simp only [Qp]
    refine Qt 15 22 rfl rfl ?_
    try simp only [Qp]
    refine wpAnyH_done (by kernel_rfl) ?_ _
    refine NoPanic.normal ?_
    clear hHeld
    go_wp2
    go_meet
    case rel=>exact⟨an_,cn_,fn_,rfl,Rn_,hxz⟩
   obtain⟨au,cu,fh,rfl,Rh,hb7⟩:=hcut
   generalize wc=w7 at *
   have hBr7:=hBr6.trans (hb7.mono hBr6.size)
   have x2:=hx2.out _ hb7
   have hil:(ins (both t0.hidden t1.hidden) m.name).length<=5001:=by have:=Zff m.name (both t0.hidden t1.hidden);omega
   have HPUT:=Qh (Zg2 (.slice ab bd.length cb) bd fb _ _ fh t0.spaced w7 (by have h240:bd.length<=240:=HSLN.out;omega) (λ q hq=>by have hq2:HidIn N bd[q]:=HSIN.out _ (List.getElem_mem hq);have:=hq2.len;omega) ((Zaa sTok).below Rb hb7) Rh)
   clear HBO HUN hcs6 Rb
   go_wp2_with fail
   refine HPUT.out.mono ?_
   rintro e w8 ⟨v8,L8,rfl,R8,D8,F8,hb8⟩
   have hBr8:=hBr7.trans (hb8.mono hBr7.size)
   have R8F:=Qh (R8.lower (base':=w.heap.size) hBr7.size)
   have D8F:=Qh D8
   have F8F:Hid (∀ x∈L8,∀ b∈x.fp,w.heap.size<=b):=λ x hx b hb'=>Nat.le_trans hBr7.size (F8 x hx b hb')
   obtain⟨a8,c8,hv8,-⟩:=R8.val
   subst hv8
   clear R8 D8 F8 HPUT
   go_wp2
   (try simp only [Exit.inBlock,Exit.then]);refine bodyPost_ret (Zck rfl _ _ _) rfl ?_
   exact⟨_,L8,by rw [HF.out];rfl,R8F.out,by rw [HF.out];exact D8F.out,F8F.out,hBr8⟩
def lenOf:Value->Nat
 | .slice _ n _=>n
 | _=>0
theorem call_end {f:List Tok->Nat->XRes} {m:DMacro} {work:List Tok} {s e l:Nat} {b:List Tok} (h:callX f m work s=(b,e,l,0)):2<e/\e<=2+(work.drop 2).length:=by
 unfold callX at h
 split at h
 ·rename_i h1
  split at h
  ·split at h
   ·simp only [Prod.mk.injEq] at h
    have h2:=Zca (work.drop 2) 1 [] [] 2 (R:=(splK (work.drop 2) 1 [] [] 2).1) (e:=(splK (work.drop 2) 1 [] [] 2).2.1) (by rw [← h1.1])
    omega
   ·simp at h
  ·rename_i h2
   simp only [Prod.mk.injEq] at h
   exact absurd (by rw [h.2.2]:(argsX f (List.take m.params.length (splK (List.drop 2 work) 1 [] [] 2).1) s).2.2=0) h2
 ·simp at h
theorem Zl0 {T:List DMacro} {t:Tok} {r:List Tok} {m:DMacro} (h:goM T (t::r)=some m) (hf:m.function=true):∃ hr:0<r.length,isM r[0] [40]=true:=by
 unfold goM at h
 dsimp only at h
 cases hm:findM T t with
 | none=>rw [hm] at h;simp at h
 |
  some m' =>
  rw [hm] at h
  dsimp only at h
  split at h
  ·simp at h
  ·rename_i hh
   simp only [Qi] at h
   subst h
   cases r with
   | nil=>exact absurd ⟨hf,rfl⟩ hh
   |
    cons u q =>
    refine ⟨by simp,?_⟩
    cases e:isM u [40]
    ·exact absurd ⟨hf,e⟩ hh
    ·exact e
theorem ZiH (m:DMacro) (a b:List (List Tok)):(Zap m a b).1.length<=240:=by
 unfold Zap
 split
 ·split
  ·simp
  ·omega
 ·simp
theorem Zdi (l:List Tok) (h:List ByteArray) (sp:Bool):(putL l h sp).length=l.length:=by unfold putL;rw [Ziy,List.length_map]
theorem Znv (f:List Tok->Nat->XRes) (m:DMacro) (w:List Tok) (s:Nat):(callX f m w s).1.length<=240:=by
 unfold callX
 split
 ·split
  ·split
   ·show (putL _ _ _).length<=240
    rw [Zdi];exact ZiH _ _ _
   ·simp
  ·simp
 ·simp
theorem go_none {T:List DMacro} {t:Tok} {r:List Tok} (h:findM T t=none):goM T (t::r)=none:=by unfold goM;dsimp only;rw [h]
theorem go_shut {T:List DMacro} {t:Tok} {r:List Tok} {m:DMacro} (h:findM T t=some m) (hf:m.function=true) (ho:ZeV r=false):goM T (t::r)=none:=by unfold goM;dsimp only;rw [h];dsimp only;rw [if_pos ⟨hf,ho⟩]
theorem go_take {T:List DMacro} {t:Tok} {r:List Tok} {m:DMacro} (h:findM T t=some m) (hf:¬ (m.function=true/\ZeV r=false)):goM T (t::r)=some m:=by unfold goM;dsimp only;rw [h];dsimp only;rw [if_neg hf]
theorem ZdF {α:Type} {S:Shape α} {P:Program} {t e:TypeId} {z:Value} {bytes:Nat} (ti:TI P t e z S.m bytes) (hzs:z.cells.size=S.m) (h0:0<S.m) (hone:∀ w cs x fp,S.R w cs x fp->∀ u∈cs,u.oneCell'=true) (w:World) {L:List (Elem α)} {ops:Array Oper} {o:Oper} {a:Act} {K:Act->World->Prop} {Q:Exit->Act->World->Prop} {E:Prop}
  (d:Nat) (hdst:o.dst=some d) (hg:o.guard=none) (s y:Operand) (ho:o.op=.call { callee:=.builtin .append,args:=#[s,y],argTypes:=#[t,t] })
  (base:Nat) (v u:Value) (M:List α) (fp:List Nat) (hs:a.eval s=v) (hown:RowN S base e v L w) (hy:a.eval y=u) (HM:(Zaa S).R w [u] M fp) (hfp:∀ b∈fp,v.ownBlock≠some b)
  (h63:L.length+M.length<=maxLen) (hbytes:(L.length+M.length) * bytes<=140737488355328) (hbase:base<=w.heap.size)
  (h:∀ v' X w',X.map (·.d)=M->(∀ x∈X,∀ b∈x.fp,b∈fp)->RowN S base e v' (L++X) w'->w.grownBy w' v.ownBlock->(v'.ownBlock=v.ownBlock\/v'.ownBlock=some w.heap.size)->K (a.put (some d) v') w'):if Region.wanted o (yielded ops a.tmps)=true then Oper.wp P o a w K Q else E:=by
 rw [← hdst] at h
 have hwt:Region.wanted o (yielded ops a.tmps)=true:=by simp [Region.wanted,hg]
 rw [if_pos hwt]
 exact Zd6 ti hzs h0 hone w s y ho base v u M fp hs hown hy HM hfp h63 hbytes hbase h
theorem XpOf.none {fp:List Nat} {r:XRes} {l:Nat} {c:Int} {w W:World} (h:r=([],l,c)) (hb:Below w.heap.size w W):XpOf fp r w (.returned (.tuple #[.slice (some ⟨W.heap.size,0,none⟩) 0 0,.int .i64 (l:Nat),.int .i64 c])) (W.alloc (.cells #[] 32)):=
 ⟨_,[],by rw [h],RowN.lit0 sTok 32 W hb.size,by rw [h];rfl,by simp,hb.alloc hb.size _⟩
structure ToDo (base:Nat) (fp:List Nat) (vo:Value) (vw:Value) (W:List Tok) (fpw:List Nat) (w:World):Prop where
 r:(Zaa sTok).R w [vw] W fpw
 o:∀ b∈fpw,vo.ownBlock≠some b
 l:∀ b∈fpw,b∈fp\/base<=b
theorem ToDo.below {base:Nat} {fp fpw:List Nat} {vo vw:Value} {W:List Tok} {w w':World} (h:ToDo base fp vo vw W fpw w) (hb:Below w.heap.size w w'):ToDo base fp vo vw W fpw w':=⟨(Zaa sTok).below h.r hb,h.o,h.l⟩
theorem ToDo.lt {base:Nat} {fp fpw:List Nat} {vo vw:Value} {W:List Tok} {w:World} (h:ToDo base fp vo vw W fpw w):∀ b∈fpw,b<w.heap.size:=(Zaa sTok).lt h.r
theorem ToDo.next {base:Nat} {fp fpw:List Nat} {vo vw vn:Value} {W:List Tok} {w w6:World} {L X:List (Elem Tok)} {lo:Nat} (h:ToDo base fp vo vw W fpw w) (hlo:base<=lo) (hvo:∀ b,vo.ownBlock=some b->b<lo) (hr:RowN sTok lo 32 vn (L++X) w6) (hL:∀ x∈L,∀ b∈x.fp,lo<=b) (hX:∀ x∈X,∀ b∈x.fp,b∈fpw) :
  ∃ fp',ToDo base fp vo vn ((L++X).map (·.d)) fp' w6:=by
 obtain⟨f,r1,r2,-⟩:=hr.read
 refine ⟨f,r1,λ b hb hv=>?_,λ b hb=>?_⟩
 ·have h1:=hvo b hv
  rcases r2 b hb with h0 | ⟨x,hx,h0⟩
  ·have:=(hr.mine b h0).1;omega
  ·rcases Qa hx with hx | hx
   ·have:=hL x hx b h0;omega
   ·exact h.o b (hX x hx b h0) hv
 ·rcases r2 b hb with h0 | ⟨x,hx,h0⟩
  ·have:=(hr.mine b h0).1;right;omega
  ·rcases Qa hx with hx | hx
   ·have:=hL x hx b h0;right;omega
   ·exact h.l b (hX x hx b h0)
theorem ZiI {T:List DMacro} {N:List ByteArray} {n:Nat} (IH:∀ j,j<n->ExpC T N j) (hn:n<=1000) (hTab:∀ m∈T,macOk m=true) (hT:∀ m∈T,m.name∈N) (hN:N.length<=5000):ExpC T N n:=by
 intro vT fpT v l fp s w hs hl hH HT H
 have HTBL:=Qh HT
 have HLT:=Qh ((Zaa sTok).lt H)
 obtain⟨a,cap,rfl,-⟩:=Zac H
 obtain⟨aT,cT,rfl,-⟩:=Zac HT
 have b1:=Zab w (.cells #[] 32)
 have b2:=Zab (w.alloc (.cells #[] 32)) (.cells #[] 32)
 have b12:=b1.trans (b2.mono b1.size)
 have hs1:(w.alloc (.cells #[] 32)).heap.size=w.heap.size+1:=Array.size_push _
 have hs2:((w.alloc (.cells #[] 32)).alloc (.cells #[] 32)).heap.size=w.heap.size+2:=by show ((w.heap.push _).push _).size=_;simp
 have HO0:=Qh ((RowN.lit0 sTok 32 w (Nat.le_refl _)).below b2)
 have HW0:=Qh (RowN.lit0 sTok 32 (w.alloc (.cells #[] 32)) (base:=w.heap.size) b1.size)
 rw [hs1] at HW0
 have HL2:=Qh ((Zaa sTok).below H b12)
 have HHI:=Qh hH
 clear H HT hH b2 hs1
 go_enter Tryz.func48,Tryz.ntmps48
 go_upto_region 3 with(at_builtin;refine Zbh ZaG rfl (by decide) ZaF _ rfl (.tmp 20) (.tmp 21) rfl w.heap.size (.slice (some ⟨w.heap.size+1,0,none⟩) 0 0) (.slice a l.length cap) l fp rfl HW0.out rfl HL2.out (λ b hb e=>by simp only [Value.ownBlock,Qi] at e;have:=HLT.out b hb;omega) (by unfold maxLen;simp;omega) (by simp;omega) b12.size ?_;intro v5 X w5 hX hXf hR5 hg5 hp5)
 have hb5:Below w.heap.size w w5:=b12.grown hg5 b12.size (λ b hb=>by simp only [Value.ownBlock,Qi] at hb;omega)
 have HO5:=Qh (HO0.out.same (λ g hg=>hg5.block g (HO0.out.mine g hg).2 (λ e=>by simp only [Value.ownBlock,Qi] at hg e;omega)) (λ x hx=>by simp at hx))
 rw [List.nil_append] at hR5
 obtain⟨fpw,rw5,rwf,-⟩:=hR5.read
 rw [hX] at rw5
 have HTD:Hid (ToDo w.heap.size fp (.slice (some ⟨w.heap.size,0,none⟩) 0 0) v5 l fpw w5):=⟨rw5,λ b hb hv=>by
   simp only [Value.ownBlock,Qi] at hv
   rcases rwf b hb with h | ⟨x,hx,h⟩
   ·rcases hp5 with e | e
    ·rw [e] at h;simp only [Value.ownBlock,Qi] at h;omega
    ·rw [e,Qi] at h;have:=hs2;omega
   ·have:=HLT.out b (hXf x hx b h);omega,λ b hb=>by
   rcases rwf b hb with h | ⟨x,hx,h⟩
   ·exact .inr (hR5.mine b h).1
   ·exact .inl (hXf x hx b h)⟩
 clear HO0 HW0 HL2 b1 b12 hX hXf hR5 hg5 hp5 rw5 rwf hs2
 go_wp2
 go_loopw [2,9,10] (λ vs vo vw wr=>∃ (j s':Nat) (O:List (Elem Tok)) (W:List Tok) (fpw:List Nat),s'<=j/\j<=n/\vs=.int .i64 s'/\W.length<=100/\O.length<=60/\Hid (RowN sTok w.heap.size 32 vo O wr)/\Hid (∀ x∈O,∀ b∈x.fp,b∈fp\/w.heap.size<=b)/\Hid (ToDo w.heap.size fp vo vw W fpw wr)/\Hid (expG T n s [] l=expG T j s' (O.map (·.d)) W)/\Hid (∀ t∈W,HidIn N t)/\Below w.heap.size w wr) (λ vs _ vw _=>(intOf vs).toNat * 1000+lenOf vw)
 case atStart=>exact⟨n,s,[],l,fpw,hs,Nat.le_refl _,rfl,hl,by simp,HO5,(λ x hx=>by simp at hx),HTD,rfl,HHI,hb5⟩
 case round =>
  clear HO5 HTD hb5
  obtain⟨j,s',O,W,fpw,hsj,hjn,rfl,hW,hO,HRO,HOL,HTD,HGO,HHW,hb⟩:=hrel
  obtain⟨ao,co,hvo,-⟩:=HRO.out.val
  subst hvo
  obtain⟨aw,cw,rfl,hcw,hmw,hroww⟩:=Zac HTD.out.r
  unfold maxLen at hmw
  have hs'n:s'<=1000:=by omega
  cases W with
  |
   nil =>
   have HF:=Qh (HGO.out.trans Zb9)
   clear hroww
   go_wp2
   go_ret3
   exact⟨.slice ao O.length co,O,by rw [HF.out];rfl,HRO.out,by rw [HF.out],HOL.out,hb⟩
  |
   cons t r =>
   obtain⟨bw,ow,-,rfl,-,-,-⟩:=hroww (by simp)
   obtain⟨xa,xc,xf,c0,c1,c2,c3,xR,hbb,hxf⟩:=ZaB HTD.out.r (j:=0) (by simp)
   simp only [List.getElem_cons_zero,Nat.zero_mul,Nat.add_zero] at c0 c1 c2 c3 xR
   have HXF:=Qh hxf
   have XR:=Qh xR
   have HCE:Hid (∀ U:World,Below wr.heap.size wr U->U.cell? ⟨bw,ow,none⟩=some (.int .i64 t.kind)/\U.cell? ⟨bw,ow+1,none⟩=some (.string t.text)/\U.cell? ⟨bw,ow+2,none⟩=some (.bool t.spaced)/\U.cell? ⟨bw,ow+3,none⟩=some (.slice xa t.hidden.length xc)):=λ U hU=>⟨(hU.cell (p:=⟨bw,ow,none⟩) hbb).trans c0,(hU.cell (p:=⟨bw,ow+1,none⟩) hbb).trans c1,(hU.cell (p:=⟨bw,ow+2,none⟩) hbb).trans c2,(hU.cell (p:=⟨bw,ow+3,none⟩) hbb).trans c3⟩
   have HFD:=Qh (ZkC _ T fpT _ t xf wr ((Zaa sMacro).below HTBL.out hb) xR)
   have HT1:Hid (∀ hr:0<r.length,∃ (ya:Option Addr) (yc:Nat) (yf:List Nat),(∀ U:World,Below wr.heap.size wr U->U.cell? ⟨bw,ow+4,none⟩=some (.int .i64 r[0].kind)/\U.cell? ⟨bw,ow+4+1,none⟩=some (.string r[0].text)/\U.cell? ⟨bw,ow+4+2,none⟩=some (.bool r[0].spaced)/\U.cell? ⟨bw,ow+4+3,none⟩=some (.slice ya r[0].hidden.length yc))/\sTok.R wr [.int .i64 r[0].kind,.string r[0].text,.bool r[0].spaced,.slice ya r[0].hidden.length yc] r[0] yf):=λ hr=>by
    obtain⟨ya,yc,yf,d0,d1,d2,d3,yR,-,-⟩:=ZaB HTD.out.r (j:=1) (by simpa using hr)
    simp only [List.getElem_cons_succ,Nat.one_mul] at d0 d1 d2 d3 yR
    exact⟨ya,yc,yf,λ U hU=>⟨(hU.cell (p:=⟨bw,ow+4,none⟩) hbb).trans d0,(hU.cell (p:=⟨bw,ow+4+1,none⟩) hbb).trans d1,(hU.cell (p:=⟨bw,ow+4+2,none⟩) hbb).trans d2,(hU.cell (p:=⟨bw,ow+4+3,none⟩) hbb).trans d3⟩,yR⟩
   obtain⟨NW,HNW⟩:∃ NW:Nat,Hid (NW=(t::r).length):=⟨(t::r).length,Qh rfl⟩
   rw [show (t::r).length=NW from HNW.out.symm] at HTD hcw hW ⊢
   have hNW:0<NW:=by have:=HNW.out;rw [List.length_cons] at this;omega
   have hNWi:(0:Int)<(NW:Int):=by omega
   obtain⟨NO,HNO⟩:∃ NO:Nat,Hid (NO=O.length):=⟨O.length,Qh rfl⟩
   rw [show O.length=NO from HNO.out.symm] at HRO HTD hO ⊢
   have hwr:=hb.size
   clear xR hxf hroww
   go_wp2_with fail
   refine HFD.out.mono ?_
   rintro e w3 (⟨hf,rfl,hb3⟩ | ⟨m,a2,a3,c2_,c3_,fm,hf,rfl,RM,hfm,hb3⟩)
   ·have HG:=Qh (go_none (r:=r) hf)
    have bm:=Zab w3 (.cells #[.string ⟨#[]⟩,.bool false,.slice none 0 0,.slice none 0 0] 56)
    have hb4:=hb3.trans (bm.mono hb3.size)
    clear HFD
    go_upto_region 6 with fail
    clear c0 c1 c2 c3 hf
    generalize (w3.alloc (.cells #[.string ⟨#[]⟩,.bool false,.slice none 0 0,.slice none 0 0] 56))=w4 at *
    obtain⟨c0,c1,c2,c3⟩:=HCE.out w4 hb4
    have bl:=Zab w4 (.cells #[.int .i64 t.kind,.string t.text,.bool t.spaced,.slice xa t.hidden.length xc] 32)
    have HL5:=Qh (heap_alloc_new w4 (.cells #[.int .i64 t.kind,.string t.text,.bool t.spaced,.slice xa t.hidden.length xc] 32))
    have hb5:=hb4.trans (bl.mono hb4.size)
    have HRO5:=Qh (HRO.out.below hb5)
    have HTD5:=Qh (HTD.out.below hb5)
    have XR5:=Qh (sTok.below XR.out hb5)
    have hbw5:=hb.trans (hb5.mono hb.size)
    have HOM:=Qh HRO.out.mine
    have HTL:=Qh HTD.out.lt
    have HXO:Hid (∀ b∈xf,(Value.slice ao NO co).ownBlock≠some b):=λ b hb h=>HTD.out.o b (HXF.out b hb) h
    clear bl
    go_upto_region 7 with(at_builtin;refine ZaE (X:=[(⟨[.int .i64 t.kind,.string t.text,.bool t.spaced,.slice xa t.hidden.length xc],t,xf⟩:Elem Tok)]) ZaG rfl (by decide) _ rfl (.tmp 52) (.tmp 56) rfl w.heap.size (.slice ao NO co) rfl HRO5.out ⟨w4.heap.size,0,none⟩ 1 1 rfl rfl (λ x hx=>by obtain rfl:=Qm hx;exact⟨rfl,XR5.out,HXO.out⟩) (λ x hx=>by obtain rfl:=Qm hx;exact ZaF _ _ _ _ XR5.out) (λ j u hj=>by rw [ZaI,Nat.zero_add,cell_of_row _ _ _ _ _ _ HL5.out];simpa using hj) (by have:=HNO.out;unfold maxLen;omega) (by have:=HNO.out;omega) hbw5.size ?_;intro v7 w7 hR7 hg7 hp7)
    have hb7:Below w.heap.size w w7:=hbw5.grown hg7 hbw5.size (λ b hb=>(HOM.out b hb).1)
    have HR7:=Qh hR7
    have HTD7:Hid (ToDo w.heap.size fp v7 (.slice (some ⟨bw,ow,none⟩) NW cw) (t::r) fpw w7):=⟨(Zaa sTok).frame (λ b hb'=>hg7.block b (HTD5.out.lt b hb') (λ e=>HTD.out.o b hb' e.symm)) HTD5.out.r,λ b hb' hv=>by
      rcases hp7 with e | e
      ·exact HTD.out.o b hb' (by rw [← e];exact hv)
      ·rw [e,Qi] at hv;have:=HTD5.out.lt b hb';omega,HTD.out.l⟩
    have HOL7:Hid (∀ x∈O++[(⟨[.int .i64 t.kind,.string t.text,.bool t.spaced,.slice xa t.hidden.length xc],t,xf⟩:Elem Tok)],∀ b∈x.fp,b∈fp\/w.heap.size<=b):=λ x hx b hb'=>by
     rcases Qa hx with hx | hx
     ·exact HOL.out x hx b hb'
     ·rw [Qm hx] at hb';exact HTD.out.l b (HXF.out b hb')
    obtain⟨a7,c7,hv7,-⟩:=hR7.val
    rw [show (O++[(⟨[.int .i64 t.kind,.string t.text,.bool t.spaced,.slice xa t.hidden.length xc],t,xf⟩:Elem Tok)]).length=NO+1 by rw [List.length_append,HNO.out];rfl] at hv7
    subst hv7
    clear hR7 hg7 hp7 HRO5 HTD5 XR5 HL5 hb5 hbw5
    obtain⟨sv,HSV⟩:∃ sv:Value,Hid (sv=.slice (if cw=1 then some ⟨bw,ow,none⟩ else some ⟨bw,ow+4,none⟩) (NW-1) (cw-1)):=⟨_,Qh rfl⟩
    have o1:(1:Int)<=(NW:Int):=by omega
    have o2:1<=NW:=hNW
    have o3:1<=cw:=by omega
    have o4:(1:Int)<=(cw:Int):=by omega
    clear c0 c1 c2 c3
    go_cut [10] from 23 to 125 (λ d wx=>d=sv/\wx=w7)
    case first =>
     by_cases h1:cw=1
     ·have HSV1:Hid (sv=.slice (some ⟨bw,ow,none⟩) (NW-1) (cw-1)):=by show _=_;rw [HSV.out,if_pos h1]
      have HC1:=Qh h1
      go_wp2
      go_meet
      case rel=>exact⟨by rw [HSV1.out];simp [HC1.out],by trivial⟩
     ·have HSV1:Hid (sv=.slice (some ⟨bw,ow+4,none⟩) (NW-1) (cw-1)):=by show _=_;rw [HSV.out,if_neg h1]
      go_wp2
      go_meet
      case rel=>exact⟨by rw [HSV1.out],by trivial⟩
    obtain⟨rfl,rfl⟩:=hcut
    try generalize wc=w7 at *
    obtain⟨fps,RS0,hfs⟩:=Za3 1 (by have:=HNW.out;omega:1<=(t::r).length) HTD7.out.r
    have HRS:Hid (ToDo w.heap.size fp (.slice a7 (NO+1) c7) u10 r fps w7):=⟨by rw [HSV.out];exact RS0,λ b hb'=>HTD7.out.o b (hfs b hb'),λ b hb'=>HTD7.out.l b (hfs b hb')⟩
    have HLN:Hid (lenOf u10=NW-1):=by show _=_;rw [HSV.out];rfl
    clear RS0 hfs
    by_cases hfl:60<NO+1
    ·have HF:=Qh (HGO.out.trans (ZbB HG.out (by rw [List.length_map,← HNO.out];exact hfl)))
     have e6:(60:Int)<((NO:Nat):Int)+1:=by omega
     go_wp2
     go_ret3
     exact XpOf.none HF.out hb7
    ·have HGN:Hid (expG T n s [] l=expG T j s' ((O++[(⟨[.int .i64 t.kind,.string t.text,.bool t.spaced,.slice xa t.hidden.length xc],t,xf⟩:Elem Tok)]).map (·.d)) r):=by show _=_;rw [HGO.out,ZbA HG.out (by rw [List.length_map,← HNO.out];exact hfl),List.map_append];rfl
     have e6:¬ (60:Int)<((NO:Nat):Int)+1:=by omega
     have HHR:Hid (∀ u∈r,HidIn N u):=λ u hu=>HHW.out u (by simp [hu])
     have hrl:r.length<=100:=by have:=HNW.out;rw [List.length_cons] at this;omega
     have hol:(O++[(⟨[.int .i64 t.kind,.string t.text,.bool t.spaced,.slice xa t.hidden.length xc],t,xf⟩:Elem Tok)]).length<=60:=by rw [List.length_append,← HNO.out];simp;omega
     go_wp2
     go_roundw
     case rel=>first | exact⟨j,s',_,r,fps,hsj,hjn,rfl,hrl,hol,HR7,HOL7,HRS,HGN,HHR,hb7⟩ | ((repeat apply Exists.intro);exact⟨⟨j,s',_,r,fps,hsj,hjn,rfl,hrl,hol,HR7,HOL7,HRS,HGN,HHR,hb7⟩,rfl⟩)
     case measure=>rw [HLN.out];simp [intOf,lenOf];omega
   ·have bm:=Zab w3 (.cells #[.string m.name,.bool m.function,.slice a2 m.params.length c2_,.slice a3 m.body.length c3_] 56)
    have hbk:=hb3.trans (bm.mono hb3.size)
    have HXk:=Qh (heap_alloc_new w3 (.cells #[.string m.name,.bool m.function,.slice a2 m.params.length c2_,.slice a3 m.body.length c3_] 56))
    have RMk:=Qh (sMacro.below RM bm)
    have HFM:=Qh hf
    have HMN:Hid (macOk m=true/\m.name∈N):=⟨hTab _ (ZiF hf),hT _ (ZiF hf)⟩
    clear HFD RM hf
    go_upto_region 5 with fail
    clear c0 c1 c2 c3
    have hwb:w.heap.size<=w3.heap.size:=Nat.le_trans hwr hb3.size
    obtain⟨mb,HMB⟩:∃ mb:Nat,Hid (mb=w3.heap.size):=⟨_,Qh rfl⟩
    generalize (w3.alloc (.cells #[.string m.name,.bool m.function,.slice a2 m.params.length c2_,.slice a3 m.body.length c3_] 56))=wk at *
    rw [show w3.heap.size=mb from HMB.out.symm] at HXk ⊢
    obtain⟨op,HOP⟩:∃ op:Bool,Hid (op=ZeV r):=⟨_,Qh rfl⟩
    obtain⟨fu,HFU⟩:∃ fu:Bool,Hid (fu=m.function):=⟨_,Qh rfl⟩
    rw [show m.function=fu from HFU.out.symm] at HXk
    go_cut [51] from 23 to 125 (λ d wx=>d=.bool (fu && !op)/\Below wk.heap.size wk wx)
    case first =>
     have m1:=Qc 1 HXk.out
     cases fu
     ·go_wp2
      go_meet
      case rel=>exact⟨rfl,Below.refl _ _⟩
     ·by_cases h1:NW=1
      ·subst h1
       have HOF:Hid (op=false):=by
        have h2:=HNW.out
        cases r with
        | nil=>exact HOP.out
        | cons u q=>simp at h2
       go_wp2
       go_meet
       case rel=>exact⟨by rw [HOF.out];rfl,Below.refl _ _⟩
      ·have hr:0<r.length:=by have:=HNW.out;rw [List.length_cons] at this;omega
       have e1:((NW:Int)==1)=false:=by simp;omega
       have e2:¬ (NW:Int)=1:=by omega
       have e3:(1:Int)<(NW:Int):=by omega
       have e4:1<NW:=by omega
       obtain⟨ya,yc,yf,hd,yR⟩:=HT1.out hr
       obtain⟨d0,d1,d2,d3⟩:=hd wk hbk
       have HQ:=Qh (Zcu _ r[0] yf wk ⟨#[40]⟩ (sTok.below yR hbk))
       have HL40:Hid ((decide (r[0].kind=4) && (r[0].text.toList==(⟨#[40]⟩:ByteArray).toList))=op):=by
        show _=_
        rw [show (⟨#[40]⟩:ByteArray).toList=[40] by rw [ByteArray.toList_eq],HOP.out]
        cases r with
        | nil=>simp at hr
        | cons u q=>rfl
       rw [HL40.out] at HQ
       clear HL40 hd yR h1
       go_wp2_with fail
       refine HQ.out.mono ?_
       rintro e u1 ⟨rfl,g1⟩
       go_wp2
       go_meet
       case rel=>exact⟨rfl,g1⟩
    obtain⟨rfl,hbc⟩:=hcut
    generalize wc=w4 at *
    have hb4:=hbk.trans (hbc.mono hbk.size)
    have HX4:=Qh (mbox HXk.out hbc)
    have RM4:=Qh (sMacro.below RMk.out hbc)
    clear RMk HXk hbc bm hb3 hbk
    cases hfo:(fu && !op)
    rotate_left
    ·have HG:Hid (goM T (t::r)=none):=by
      simp only [Bool.and_eq_true,Bool.not_eq_true'] at hfo
      exact go_shut (r:=r) HFM.out (by rw [← HFU.out];exact hfo.1) (by rw [← HOP.out];exact hfo.2)
     clear HX4 RM4 HFM HMN HMB HOP HFU hfo hfm hwb
     go_upto_region 6 with fail
     obtain⟨c0,c1,c2,c3⟩:=HCE.out w4 hb4
     have bl:=Zab w4 (.cells #[.int .i64 t.kind,.string t.text,.bool t.spaced,.slice xa t.hidden.length xc] 32)
     have HL5:=Qh (heap_alloc_new w4 (.cells #[.int .i64 t.kind,.string t.text,.bool t.spaced,.slice xa t.hidden.length xc] 32))
     have hb5:=hb4.trans (bl.mono hb4.size)
     have HRO5:=Qh (HRO.out.below hb5)
     have HTD5:=Qh (HTD.out.below hb5)
     have XR5:=Qh (sTok.below XR.out hb5)
     have hbw5:=hb.trans (hb5.mono hb.size)
     have HOM:=Qh HRO.out.mine
     have HTL:=Qh HTD.out.lt
     have HXO:Hid (∀ b∈xf,(Value.slice ao NO co).ownBlock≠some b):=λ b hb h=>HTD.out.o b (HXF.out b hb) h
     clear bl
     go_upto_region 7 with(at_builtin;refine ZaE (X:=[(⟨[.int .i64 t.kind,.string t.text,.bool t.spaced,.slice xa t.hidden.length xc],t,xf⟩:Elem Tok)]) ZaG rfl (by decide) _ rfl (.tmp 52) (.tmp 56) rfl w.heap.size (.slice ao NO co) rfl HRO5.out ⟨w4.heap.size,0,none⟩ 1 1 rfl rfl (λ x hx=>by obtain rfl:=Qm hx;exact⟨rfl,XR5.out,HXO.out⟩) (λ x hx=>by obtain rfl:=Qm hx;exact ZaF _ _ _ _ XR5.out) (λ j u hj=>by rw [ZaI,Nat.zero_add,cell_of_row _ _ _ _ _ _ HL5.out];simpa using hj) (by have:=HNO.out;unfold maxLen;omega) (by have:=HNO.out;omega) hbw5.size ?_;intro v7 w7 hR7 hg7 hp7)
     have hb7:Below w.heap.size w w7:=hbw5.grown hg7 hbw5.size (λ b hb=>(HOM.out b hb).1)
     have HR7:=Qh hR7
     have HTD7:Hid (ToDo w.heap.size fp v7 (.slice (some ⟨bw,ow,none⟩) NW cw) (t::r) fpw w7):=⟨(Zaa sTok).frame (λ b hb'=>hg7.block b (HTD5.out.lt b hb') (λ e=>HTD.out.o b hb' e.symm)) HTD5.out.r,λ b hb' hv=>by
       rcases hp7 with e | e
       ·exact HTD.out.o b hb' (by rw [← e];exact hv)
       ·rw [e,Qi] at hv;have:=HTD5.out.lt b hb';omega,HTD.out.l⟩
     have HOL7:Hid (∀ x∈O++[(⟨[.int .i64 t.kind,.string t.text,.bool t.spaced,.slice xa t.hidden.length xc],t,xf⟩:Elem Tok)],∀ b∈x.fp,b∈fp\/w.heap.size<=b):=λ x hx b hb'=>by
      rcases Qa hx with hx | hx
      ·exact HOL.out x hx b hb'
      ·rw [Qm hx] at hb';exact HTD.out.l b (HXF.out b hb')
     obtain⟨a7,c7,hv7,-⟩:=hR7.val
     rw [show (O++[(⟨[.int .i64 t.kind,.string t.text,.bool t.spaced,.slice xa t.hidden.length xc],t,xf⟩:Elem Tok)]).length=NO+1 by rw [List.length_append,HNO.out];rfl] at hv7
     subst hv7
     clear hR7 hg7 hp7 HRO5 HTD5 XR5 HL5 hb5 hbw5
     obtain⟨sv,HSV⟩:∃ sv:Value,Hid (sv=.slice (if cw=1 then some ⟨bw,ow,none⟩ else some ⟨bw,ow+4,none⟩) (NW-1) (cw-1)):=⟨_,Qh rfl⟩
     have o1:(1:Int)<=(NW:Int):=by omega
     have o2:1<=NW:=hNW
     have o3:1<=cw:=by omega
     have o4:(1:Int)<=(cw:Int):=by omega
     clear c0 c1 c2 c3
     go_cut [10] from 23 to 125 (λ d wx=>d=sv/\wx=w7)
     case first =>
      by_cases h1:cw=1
      ·have HSV1:Hid (sv=.slice (some ⟨bw,ow,none⟩) (NW-1) (cw-1)):=by show _=_;rw [HSV.out,if_pos h1]
       have HC1:=Qh h1
       go_wp2
       go_meet
       case rel=>exact⟨by rw [HSV1.out];simp [HC1.out],by trivial⟩
      ·have HSV1:Hid (sv=.slice (some ⟨bw,ow+4,none⟩) (NW-1) (cw-1)):=by show _=_;rw [HSV.out,if_neg h1]
       go_wp2
       go_meet
       case rel=>exact⟨by rw [HSV1.out],by trivial⟩
     obtain⟨rfl,rfl⟩:=hcut
     try generalize wc=w7 at *
     obtain⟨fps,RS0,hfs⟩:=Za3 1 (by have:=HNW.out;omega:1<=(t::r).length) HTD7.out.r
     have HRS:Hid (ToDo w.heap.size fp (.slice a7 (NO+1) c7) u10 r fps w7):=⟨by rw [HSV.out];exact RS0,λ b hb'=>HTD7.out.o b (hfs b hb'),λ b hb'=>HTD7.out.l b (hfs b hb')⟩
     have HLN:Hid (lenOf u10=NW-1):=by show _=_;rw [HSV.out];rfl
     clear RS0 hfs
     by_cases hfl:60<NO+1
     ·have HF:=Qh (HGO.out.trans (ZbB HG.out (by rw [List.length_map,← HNO.out];exact hfl)))
      have e6:(60:Int)<((NO:Nat):Int)+1:=by omega
      go_wp2
      go_ret3
      exact XpOf.none HF.out hb7
     ·have HGN:Hid (expG T n s [] l=expG T j s' ((O++[(⟨[.int .i64 t.kind,.string t.text,.bool t.spaced,.slice xa t.hidden.length xc],t,xf⟩:Elem Tok)]).map (·.d)) r):=by show _=_;rw [HGO.out,ZbA HG.out (by rw [List.length_map,← HNO.out];exact hfl),List.map_append];rfl
      have e6:¬ (60:Int)<((NO:Nat):Int)+1:=by omega
      have HHR:Hid (∀ u∈r,HidIn N u):=λ u hu=>HHW.out u (by simp [hu])
      have hrl:r.length<=100:=by have:=HNW.out;rw [List.length_cons] at this;omega
      have hol:(O++[(⟨[.int .i64 t.kind,.string t.text,.bool t.spaced,.slice xa t.hidden.length xc],t,xf⟩:Elem Tok)]).length<=60:=by rw [List.length_append,← HNO.out];simp;omega
      go_wp2
      go_roundw
      case rel=>first | exact⟨j,s',_,r,fps,hsj,hjn,rfl,hrl,hol,HR7,HOL7,HRS,HGN,HHR,hb7⟩ | ((repeat apply Exists.intro);exact⟨⟨j,s',_,r,fps,hsj,hjn,rfl,hrl,hol,HR7,HOL7,HRS,HGN,HHR,hb7⟩,rfl⟩)
      case measure=>rw [HLN.out];simp [intOf,lenOf];omega
    have HG:Hid (goM T (t::r)=some m):=go_take (r:=r) HFM.out (λ h=>by rw [HFU.out,HOP.out,h.1,h.2] at hfo;simp at hfo)
    clear HFM hfo HOP HT1
    have hB4:=hb.trans (hb4.mono hb.size)
    by_cases hz:s'=0
    ·subst hz
     have HF:=Qh (HGO.out.trans (Zdh HG.out))
     go_wp2
     go_ret3
     exact XpOf.none HF.out hB4
    obtain⟨s1,HS1⟩:∃ s1,Hid (s'=s1+1):=⟨s'-1,by show _=_;omega⟩
    obtain⟨j1,HJ1⟩:∃ j1,Hid (j=j1+1):=⟨j-1,by show _=_;omega⟩
    have hwz:IntKind.i64.wrap ((s':Int)-1)=(s1:Int):=by rw [IntWalk.i64_in _ (by omega)];have:=HS1.out;omega
    have hzi:¬ (s':Int)=0:=by omega
    have hzb:((s':Int)==0)=false:=by simp;omega
    rw [HS1.out,HJ1.out] at HGO
    obtain⟨m0,m1,m2,m3⟩:=Q4 HX4.out
    go_upto_region 13 with fail
    clear hwz hzi hzb
    have hl1:s1<=j1:=by have:=HS1.out;have:=HJ1.out;omega
    have hj1:j1<n:=by have:=HJ1.out;omega
    have RM5:=RM4.out
    rw [show m.function=fu from HFU.out.symm] at RM5
    clear RM4
    have hlen:(t::r).length<=100:=by rw [← HNW.out];exact hW
    cases fu
    rotate_left
    ·obtain⟨hr,hop⟩:=Zl0 HG.out HFU.out.symm
     have HCL:=Qh (ZkF (IH j1 hj1) (by omega) hT hN _ fpT _ m fm _ (t::r) fpw s1 w4 HMN.out.1 HMN.out.2 hl1 hlen (by simpa using hr) (by simpa using hop) HHW.out ((Zaa sMacro).below HTBL.out hB4) RM5 ((Zaa sTok).below HTD.out.r hb4))
     have HLF:=Qh (ZlW (f:=λ a k=>expG T j1 k [] a) (λ a k=>Zh6 T j1 a k []) m (t::r) s1)
     have HCI:=Qh (ZkA (f:=λ a k=>expG T j1 k [] a) (λ a k ha=>Zh7 hT j1 a k [] (by simp) ha) HMN.out.2 HHW.out s1)
     have HCK:=Qh (Znv (λ a k=>expG T j1 k [] a) m (t::r) s1)
     rcases hq:callX (λ a k=>expG T j1 k [] a) m (t::r) s1 with⟨bd,en,lf,c⟩
     rw [hq] at HCL HLF HCI HCK
     unfold CallOf at HCL
     try dsimp only at HCL HLF HCI HCK
     have HCQ:=Qh hq
     have hN2:2<=NW:=by have:=HNW.out;rw [List.length_cons] at this;omega
     clear hq RM5 hr hop hlen
     go_wp2_with fail
     refine HCL.out.mono ?_
     rintro e w5 ⟨vb,L,rfl,RL,hLd,hLf,hb5⟩
     clear m0 m1 m2 m3 HCL
     have hB5:=hB4.trans (hb5.mono hB4.size)
     obtain⟨ab,cb,hvb,-⟩:=RL.val
     subst hvb
     by_cases hc0:c=0
     rotate_left
     ·have HF:=Qh (HGO.out.trans (ZbZ HG.out HFU.out.symm HCQ.out hc0))
      have e2:(c != 0)=true:=by simp [hc0]
      clear hc0
      go_wp2
      go_ret3
      exact XpOf.none HF.out hB5
     subst hc0
     have HEN:Hid (2<en/\en<=NW):=by
      have:=call_end HCQ.out
      rw [List.length_drop,show (t::r).length=NW from HNW.out.symm] at this
      show _/\_
      omega
     have e2:=HEN.out.2
     have e3:(en:Int)<=(NW:Int):=by omega
     have e4:(0:Int)<=(en:Int):=by omega
     have e5:en<=cw:=by omega
     have e7:(en:Int)<=(cw:Int):=by omega
     have hLn:L.length=bd.length:=by rw [← hLd,List.length_map]
     have HLn:=Qh hLn
     have HLd:=Qh hLd
     have HLf:=Qh hLf
     have HRL:=Qh RL
     have HMI:=Qh HRO.out.mine
     have HTL:=Qh HTD.out.lt
     have HTR:=Qh ((Zaa sTok).below HTD.out.r (hb4.trans (hb5.mono hb4.size)))
     clear hLn hLd hLf RL
     obtain⟨NL,HNL⟩:∃ NL:Nat,Hid (NL=L.length):=⟨_,Qh rfl⟩
     rw [show L.length=NL from HNL.out.symm] at HRL ⊢
     have hwb4:w.heap.size<=w4.heap.size:=hB4.size
     go_upto_region 18 with fail
     go_cut [10] from 23 to 125 (λ d wx=>∃ (fp':List Nat),Hid (ToDo w.heap.size fp (.slice ao NO co) d (bd++(t::r).drop en) fp' wx)/\Below w4.heap.size w4 wx)
     case first =>
      obtain⟨fps,RS0,hfs⟩:=Za3 en (by rw [← HNW.out];exact e2:en<=(t::r).length) HTR.out
      have HRS:=Qh RS0
      have HFS:=Qh hfs
      clear RS0 hfs
      by_cases hce:cw=en
      ·have HRS1:Hid ((Zaa sTok).R w5 [.slice (some ⟨bw,ow,none⟩) (NW-en) 0] ((t::r).drop en) fps):=by have h9:=HRS.out;rw [if_pos hce,show cw-en=0 by omega] at h9;exact h9
       clear HRS
       go_wp2_with (at_builtin;refine Zbh ZaG rfl (by decide) ZaF _ rfl (.tmp 88) (.tmp 91) rfl w4.heap.size (.slice ab NL cb) (.slice (some ⟨bw,ow,none⟩) (NW-en) 0) ((t::r).drop en) fps rfl HRL.out rfl HRS1.out (λ b hb' h=>by have h1:=HRL.out.mine b h;have h2:=HTL.out b (HFS.out b hb');have:=hb4.size;omega) (by have h1:bd.length<=240:=HCK.out;have:=HLn.out;have:=HNW.out;rw [List.length_drop];unfold maxLen;omega) (by have h1:bd.length<=240:=HCK.out;have:=HLn.out;have:=HNW.out;rw [List.length_drop];omega) hb5.size ?_;intro v7 X7 w7 hX7 hXf7 hR7 hg7 hp7)
       have hb7:Below w4.heap.size w4 w7:=hb5.grown hg7 hb5.size (λ b hb'=>(HRL.out.mine b hb').1)
       have HT7:Hid (∃ fp',ToDo w.heap.size fp (.slice ao NO co) v7 (bd++(t::r).drop en) fp' w7):=by
        obtain⟨fp',h'⟩:=ToDo.next HTD.out hwb4 (λ b h=>by have:=(HMI.out b h).2;have:=hb4.size;omega) hR7 HLf.out (λ x hx b hb'=>HFS.out b (hXf7 x hx b hb'))
        rw [List.map_append,HLd.out,hX7] at h'
        exact⟨fp',h'⟩
       clear hX7 hXf7 hR7 hg7 hp7
       go_wp2
       go_meet
       case rel=>obtain⟨fp',h'⟩:=HT7.out;exact⟨fp',h',hb7⟩
      ·have HRS1:Hid ((Zaa sTok).R w5 [.slice (some ⟨bw,ow+en * 4,none⟩) (NW-en) (cw-en)] ((t::r).drop en) fps):=by have h9:=HRS.out;rw [if_neg hce,Option.map_some,ZaI] at h9;exact Qh h9
       clear HRS
       go_wp2_with (at_builtin;refine Zbh ZaG rfl (by decide) ZaF _ rfl (.tmp 88) (.tmp 91) rfl w4.heap.size (.slice ab NL cb) (.slice (some ⟨bw,ow+en * 4,none⟩) (NW-en) (cw-en)) ((t::r).drop en) fps rfl HRL.out rfl HRS1.out (λ b hb' h=>by have h1:=HRL.out.mine b h;have h2:=HTL.out b (HFS.out b hb');have:=hb4.size;omega) (by have h1:bd.length<=240:=HCK.out;have:=HLn.out;have:=HNW.out;rw [List.length_drop];unfold maxLen;omega) (by have h1:bd.length<=240:=HCK.out;have:=HLn.out;have:=HNW.out;rw [List.length_drop];omega) hb5.size ?_;intro v7 X7 w7 hX7 hXf7 hR7 hg7 hp7)
       have hb7:Below w4.heap.size w4 w7:=hb5.grown hg7 hb5.size (λ b hb'=>(HRL.out.mine b hb').1)
       have HT7:Hid (∃ fp',ToDo w.heap.size fp (.slice ao NO co) v7 (bd++(t::r).drop en) fp' w7):=by
        obtain⟨fp',h'⟩:=ToDo.next HTD.out hwb4 (λ b h=>by have:=(HMI.out b h).2;have:=hb4.size;omega) hR7 HLf.out (λ x hx b hb'=>HFS.out b (hXf7 x hx b hb'))
        rw [List.map_append,HLd.out,hX7] at h'
        exact⟨fp',h'⟩
       clear hX7 hXf7 hR7 hg7 hp7
       go_wp2
       go_meet
       case rel=>obtain⟨fp',h'⟩:=HT7.out;exact⟨fp',h',hb7⟩
     obtain⟨fp9,HT9,hbc⟩:=hcut
     generalize wc=w6 at *
     obtain⟨a9,c9,hv9,-⟩:=Zac HT9.out.r
     subst hv9
     have hB6:=hB4.trans (hbc.mono hB4.size)
     have hb6:=hb4.trans (hbc.mono hb4.size)
     obtain⟨N9,HN9⟩:∃ N9:Nat,Hid (N9=(bd++(t::r).drop en).length):=⟨_,Qh rfl⟩
     rw [show (bd++(t::r).drop en).length=N9 from HN9.out.symm] at HT9 ⊢
     clear HRL HTR HTL HMI HLd HLf HLn HNL e2 e3 e4 e5 e7 hb5 hB5
     by_cases hfl:60<N9
     ·have HF:=Qh (HGO.out.trans (ZdA HG.out HFU.out.symm HCQ.out (by rw [← HN9.out];exact hfl)))
      have e6:(60:Int)<(N9:Int):=by omega
      go_wp2
      go_ret3
      exact XpOf.none HF.out hB6
     ·have HGN:=Qh (HGO.out.trans (Zea HG.out HFU.out.symm HCQ.out (by rw [← HN9.out];exact hfl)))
      have e6:¬ (60:Int)<(N9:Int):=by omega
      have HHR:Hid (∀ u∈bd++(t::r).drop en,HidIn N u):=λ u hu=>by
       rcases Qa hu with h | h
       ·exact HCI.out u h
       ·exact HHW.out u (List.mem_of_mem_drop h)
      have hrl:(bd++(t::r).drop en).length<=100:=by rw [← HN9.out];omega
      have hol:O.length<=60:=by rw [← HNO.out];exact hO
      have hlj:lf<=j1:=Nat.le_trans HLF.out hl1
      have hjn1:j1<=n:=by omega
      have HR6:=Qh (HRO.out.below hb6)
      have hms:lf * 1000+N9<s' * 1000+NW:=by have h1:lf<=s1:=HLF.out;have:=HS1.out;omega
      go_wp2
      go_roundw
      case rel=>first | exact⟨j1,lf,O,_,fp9,hlj,hjn1,rfl,hrl,hol,HR6,HOL,HT9,HGN,HHR,hB6⟩ | ((repeat apply Exists.intro);exact⟨⟨j1,lf,O,_,fp9,hlj,hjn1,rfl,hrl,hol,HR6,HOL,HT9,HGN,HHR,hB6⟩,rfl⟩)
      case measure=>simp [intOf,lenOf];omega
    ·have HSB:=Qh (λ (U:World) (hU:Below w4.heap.size w4 U)=>Zeu _ m fm (.slice (some ⟨w4.heap.size,0,none⟩) 0 0) (.slice (some ⟨w4.heap.size+1,0,none⟩) 0 0) [] [] [] [] U (Zjx HMN.out.1) (by simp) (by simp) (λ k hk=>by simp at hk) (λ k hk=>by simp at hk) (sMacro.below RM5 hU) (Zay _ _ _ _ (by simp)) (Zay _ _ _ _ (by simp)))
     have HSLN:=Qh (ZiH m [] [])
     have HSIN:Hid (∀ t∈(Zap m [] []).1,HidIn N t):=Zf9 (λ l hl=>by simp at hl) (λ l hl=>by simp at hl)
     have knm2:m.name.size<=maxLen:=by obtain⟨_,_,_,_,_,knm,_⟩:=RM5;exact knm
     rcases hsub:Zap m [] [] with⟨bd,okb⟩
     unfold Zia at HSB
     rw [hsub] at HSB HSLN HSIN
     try dsimp only at HSB
     have HSUB:=Qh hsub
     have HBLN:Hid (bd.length<=240):=HSLN.out
     have HBIN:Hid (∀ t∈bd,HidIn N t):=HSIN.out
     have bl1:=Zab w4 (.cells #[] 24)
     have bl2:=Zab (w4.alloc (.cells #[] 24)) (.cells #[] 24)
     have b2:=bl1.trans (bl2.mono bl1.size)
     clear hsub hlen RM5 HSLN HSIN bl1 bl2
     go_wp2_with fail
     refine (HSB.out _ b2).mono ?_
     rintro e w5 ⟨vb,fb,rfl,Rb,hfb,hb5⟩
     clear m0 m1 m2 m3 HSB
     have hb45:=b2.trans (hb5.mono b2.size)
     have hfb2:∀ b∈fb,w4.heap.size<=b:=λ b hb'=>Nat.le_trans b2.size (hfb b hb')
     clear hfb hb5 b2
     have hB5:=hB4.trans (hb45.mono hB4.size)
     have hbr5:=hb4.trans (hb45.mono hb4.size)
     cases okb
     ·have HF:=Qh (HGO.out.trans (Zec HG.out HFU.out.symm HSUB.out))
      go_wp2
      go_ret3
      exact XpOf.none HF.out hB5
     obtain⟨ab,cb,rfl,-⟩:=Zac Rb
     have HRb:=Qh Rb
     have KX:(Zaa sStr).R wr [.slice xa t.hidden.length xc] t.hidden xf:=by
      obtain⟨hv,hcs,-,-,K⟩:=XR.out
      simp only [List.cons.injEq,and_true,true_and] at hcs
      subst hcs;exact K
     have HTHN:Hid (t.hidden.length<=5000):=by have:=(HHW.out t (by simp)).len;show _<=_;omega
     have HXU:Hid (∀ U:World,Below w5.heap.size w5 U->U.heap[mb]?=some (.cells #[.string m.name,.bool false,.slice a2 m.params.length c2_,.slice a3 m.body.length c3_] 56 (0,0))/\U.cell? ⟨bw,ow+2,none⟩=some (.bool t.spaced)/\U.cell? ⟨bw,ow+3,none⟩=some (.slice xa t.hidden.length xc)):=λ U hU=>by
      obtain⟨-,-,h2,h3⟩:=HCE.out U (hbr5.trans (hU.mono hbr5.size))
      exact⟨mbox HX4.out (hb45.trans (hU.mono hb45.size)),h2,h3⟩
     have HUN:=Qh (λ (U:World) (vn:Value) (fn:List Nat) (hU:Below w5.heap.size w5 U) (h2:(Zaa sStr).R U [vn] [m.name] fn)=>Zgc (.slice xa t.hidden.length xc) vn t.hidden m.name xf fn U (by have:=HTHN.out;omega) ((Zaa sStr).below KX (hbr5.trans (hU.mono hbr5.size))) h2)
     have HPUT:=Qh (λ (U:World) (vn:Value) (fn:List Nat) (hU:Below w5.heap.size w5 U) (h2:(Zaa sStr).R U [vn] (ins t.hidden m.name) fn)=>Zg2 (.slice ab bd.length cb) bd fb vn _ fn t.spaced U (by have:=HBLN.out;omega) (λ q hq=>by have hq2:HidIn N bd[q]:=HBIN.out _ (List.getElem_mem hq);have:=hq2.len;have:=HTHN.out;have:=Zff m.name t.hidden;omega) ((Zaa sTok).below HRb.out hU) h2)
     have HMI:=Qh HRO.out.mine
     have HTL:=Qh HTD.out.lt
     have HTR:=Qh (λ (U:World) (hU:Below w5.heap.size w5 U)=>(Zaa sTok).below HTD.out.r (hbr5.trans (hU.mono hbr5.size)))
     have hcs5:Below w5.heap.size w5 w5.drew:=Zag (Below.refl _ _) 1
     have hwb4:w.heap.size<=w5.heap.size:=hB5.size
     have hwr5:wr.heap.size<=w5.heap.size:=hbr5.size
     have o1:(1:Int)<=(NW:Int):=by omega
     have o2:1<=NW:=hNW
     have o3:1<=cw:=by omega
     have o4:(1:Int)<=(cw:Int):=by omega
     clear KX Rb
     go_upto_region 22 with fail
     go_cut [10] from 23 to 125 (λ d wx=>∃ (fp':List Nat),Hid (ToDo w.heap.size fp (.slice ao NO co) d (putL bd (ins t.hidden m.name) t.spaced++r) fp' wx)/\Below w4.heap.size w4 wx)
     case first =>
      obtain⟨fps,HSD⟩:∃ fps,Hid ((∀ U:World,Below w5.heap.size w5 U->(Zaa sTok).R U [.slice (if cw=1 then some ⟨bw,ow,none⟩ else some ⟨bw,ow+4,none⟩) (NW-1) (cw-1)] r fps)/\∀ b∈fps,b∈fpw):=by
       obtain⟨fps,RS0,hfs⟩:=Za3 1 (by rw [← HNW.out];exact o2:1<=(t::r).length) (HTR.out w5 (Below.refl _ _))
       exact⟨fps,λ U hU=>(Zaa sTok).below RS0 hU,hfs⟩
      by_cases hce:cw=1
      ·have HRS:Hid ((∀ U:World,Below w5.heap.size w5 U->(Zaa sTok).R U [.slice (some ⟨bw,ow,none⟩) (NW-1) 0] r fps)/\∀ b∈fps,b∈fpw):=by
        have h9:=HSD.out;rw [if_pos hce,show cw-1=0 by omega] at h9;exact Qh h9
       clear HSD
       refine wp_region_noPanic ?_
       refine wp_region_held_drew (S:=λ w'=>w'.heap[mb]?=some (.cells #[.string m.name,.bool false,.slice a2 m.params.length c2_,.slice a3 m.body.length c3_] 56 (0,0))/\w'.cell? ⟨bw,ow+2,none⟩=some (.bool t.spaced)/\w'.cell? ⟨bw,ow+3,none⟩=some (.slice xa t.hidden.length xc)) (by kernel_rfl) (by exact HXU.out _ hcs5) (λ hHeld=>?_)
       generalize w5.drew=wd at *
       refine Qt 0 104 rfl rfl ?_
       try simp only [Qp]
       refine Qt 1 105 rfl rfl ?_
       try simp only [Qp]
       refine Qt 2 106 rfl rfl ?_
       try simp only [Qp]
       refine Qt 3 107 rfl rfl ?_
       try simp only [Qp]
       refine Qt 4 108 rfl rfl ?_ (by intro w hSw;obtain⟨sm,sp,sh⟩:=hSw;have m0:=Qc 0 sm;go_simp;(first | done | with_reducible rfl | rfl))
       try simp only [Qp]
       refine Qt 5 109 rfl rfl ?_
       try simp only [Qp]
       refine Qt 6 110 rfl rfl ?_ (by intro w hSw;obtain⟨sm,sp,sh⟩:=hSw;have m0:=Qc 0 sm;go_simp;(first | done | with_reducible rfl | rfl))
       try simp only [Qp]
       refine Qt 9 113 rfl rfl ?_
       try simp only [Qp]
       refine Qt 10 114 rfl rfl ?_
       try simp only [Qp]
       refine Qt 11 115 rfl rfl ?_
       try simp only [Qp]
       refine Qt 12 116 rfl rfl ?_ (by intro w hSw;obtain⟨sm,sp,sh⟩:=hSw;have m0:=Qc 0 sm;go_simp;(first | done | with_reducible rfl | rfl))
       try simp only [Qp]
       refine Qt 14 118 rfl rfl ?_
       try simp only [Qp]
       refine Qt 15 119 rfl rfl ?_
       try simp only [Qp]
       refine Qr 7 rfl (λ K hK=>?_)
       go_simp
       have bk:=Zab wd (.cells #[.string m.name] 9)
       have RL:=ZbT (heap_alloc_new wd (.cells #[.string m.name] 9)) knm2
       have hx1:=hcs5.trans (bk.mono hcs5.size)
       refine hK.out _ _ (HXU.out _ hx1) (λ hHeld=>?_)
       clear hK K bk
       try simp only [Qp]
       generalize (wd.alloc (.cells #[.string m.name] 9))=wx1 at *
       refine Qr 8 rfl (λ K hK=>?_)
       go_simp
       refine (HUN.out wx1 _ _ hx1 RL).mono ?_
       rintro e wx2 ⟨an_,cn_,fn_,rfl,Rn_,-,-,bz2⟩
       have hx2:=hx1.trans (bz2.mono hx1.size)
       refine hK.out _ _ (HXU.out _ hx2) (λ hHeld=>?_)
       clear hK K RL
       try simp only [Qp]
       refine Qr 13 rfl (λ K hK=>?_)
       go_simp
       refine (HPUT.out wx2 _ _ hx2 Rn_).mono ?_
       rintro e wx3 ⟨v8,L8,rfl,R8,D8,F8,hb8⟩
       have hx3:=hx2.trans (hb8.mono hx2.size)
       obtain⟨a8,c8,hv8,-⟩:=R8.val
       subst hv8
       refine hK.out _ _ (HXU.out _ hx3) (λ hHeld=>?_)
       clear hK K Rn_
       try simp only [Qp]
       have h8l:L8.length=bd.length:=by rw [← List.length_map (f:=λ x:Elem Tok=>x.d),D8,Zdi]
       have hx2s:=hx2.size
       have hx3s:=hb8.size
       refine Qr 16 rfl (λ K hK=>?_)
       refine ZdF ZaG rfl (by decide) ZaF _ 120 rfl rfl (.tmp 117) (.tmp 119) rfl wx2.heap.size (.slice a8 L8.length c8) (.slice (some ⟨bw,ow,none⟩) (NW-1) 0) r fps rfl R8 rfl (HRS.out.1 _ hx3) (λ b hb' h=>by have h1:=R8.mine b h;have h2:=HTL.out b (HRS.out.2 b hb');omega) (by have:=HBLN.out;have:=HNW.out;rw [List.length_cons] at this;unfold maxLen;omega) (by have:=HBLN.out;have:=HNW.out;rw [List.length_cons] at this;omega) hx3s ?_
       intro v7 X7 w7 hX7 hXf7 hR7 hg7 hp7
       have hb43:=hb45.trans (hx3.mono hb45.size)
       have hb7:Below w4.heap.size w4 w7:=hb43.grown hg7 hb43.size (λ b hb'=>by have:=(R8.mine b hb').1;have:=hb45.size;omega)
       have hx7:Below w5.heap.size w5 w7:=hx3.grown hg7 hx3.size (λ b hb'=>by have:=(R8.mine b hb').1;omega)
       have HT7:Hid (∃ fp',ToDo w.heap.size fp (.slice ao NO co) v7 (putL bd (ins t.hidden m.name) t.spaced++r) fp' w7):=by
        obtain⟨fp',h'⟩:=ToDo.next HTD.out (by omega:w.heap.size<=wx2.heap.size) (λ b h=>by have:=(HMI.out b h).2;omega) hR7 F8 (λ x hx b hb'=>HRS.out.2 b (hXf7 x hx b hb'))
        rw [List.map_append,D8,hX7] at h'
        exact⟨fp',h'⟩
       refine hK.out _ _ (HXU.out _ hx7) (λ hHeld=>?_)
       clear hK K R8 D8 F8 hX7 hXf7 hR7 hg7 hp7 HRS
       try simp only [Qp]
       refine Qt 17 10 rfl rfl ?_
       try simp only [Qp]
       refine wpAnyH_done (by kernel_rfl) ?_ _
       refine NoPanic.normal ?_
       clear hHeld
       go_wp2
       go_meet
       case rel=>obtain⟨fp',h'⟩:=HT7.out;exact⟨fp',h',hb7⟩
      ·have HRS:Hid ((∀ U:World,Below w5.heap.size w5 U->(Zaa sTok).R U [.slice (some ⟨bw,ow+4,none⟩) (NW-1) (cw-1)] r fps)/\∀ b∈fps,b∈fpw):=by
        have h9:=HSD.out;rw [if_neg hce] at h9;exact Qh h9
       clear HSD
       refine wp_region_noPanic ?_
       refine wp_region_held_drew (S:=λ w'=>w'.heap[mb]?=some (.cells #[.string m.name,.bool false,.slice a2 m.params.length c2_,.slice a3 m.body.length c3_] 56 (0,0))/\w'.cell? ⟨bw,ow+2,none⟩=some (.bool t.spaced)/\w'.cell? ⟨bw,ow+3,none⟩=some (.slice xa t.hidden.length xc)) (by kernel_rfl) (by exact HXU.out _ hcs5) (λ hHeld=>?_)
       generalize w5.drew=wd at *
       refine Qt 0 104 rfl rfl ?_
       try simp only [Qp]
       refine Qt 1 105 rfl rfl ?_
       try simp only [Qp]
       refine Qt 2 106 rfl rfl ?_
       try simp only [Qp]
       refine Qt 3 107 rfl rfl ?_
       try simp only [Qp]
       refine Qt 4 108 rfl rfl ?_ (by intro w hSw;obtain⟨sm,sp,sh⟩:=hSw;have m0:=Qc 0 sm;go_simp;(first | done | with_reducible rfl | rfl))
       try simp only [Qp]
       refine Qt 5 109 rfl rfl ?_
       try simp only [Qp]
       refine Qt 6 110 rfl rfl ?_ (by intro w hSw;obtain⟨sm,sp,sh⟩:=hSw;have m0:=Qc 0 sm;go_simp;(first | done | with_reducible rfl | rfl))
       try simp only [Qp]
       refine Qt 9 113 rfl rfl ?_
       try simp only [Qp]
       refine Qt 10 114 rfl rfl ?_
       try simp only [Qp]
       refine Qt 11 115 rfl rfl ?_
       try simp only [Qp]
       refine Qt 12 116 rfl rfl ?_ (by intro w hSw;obtain⟨sm,sp,sh⟩:=hSw;have m0:=Qc 0 sm;go_simp;(first | done | with_reducible rfl | rfl))
       try simp only [Qp]
       refine Qt 14 118 rfl rfl ?_
       try simp only [Qp]
       refine Qt 15 119 rfl rfl ?_
       try simp only [Qp]
       refine Qr 7 rfl (λ K hK=>?_)
       go_simp
       have bk:=Zab wd (.cells #[.string m.name] 9)
       have RL:=ZbT (heap_alloc_new wd (.cells #[.string m.name] 9)) knm2
       have hx1:=hcs5.trans (bk.mono hcs5.size)
       refine hK.out _ _ (HXU.out _ hx1) (λ hHeld=>?_)
       clear hK K bk
       try simp only [Qp]
       generalize (wd.alloc (.cells #[.string m.name] 9))=wx1 at *
       refine Qr 8 rfl (λ K hK=>?_)
       go_simp
       refine (HUN.out wx1 _ _ hx1 RL).mono ?_
       rintro e wx2 ⟨an_,cn_,fn_,rfl,Rn_,-,-,bz2⟩
       have hx2:=hx1.trans (bz2.mono hx1.size)
       refine hK.out _ _ (HXU.out _ hx2) (λ hHeld=>?_)
       clear hK K RL
       try simp only [Qp]
       refine Qr 13 rfl (λ K hK=>?_)
       go_simp
       refine (HPUT.out wx2 _ _ hx2 Rn_).mono ?_
       rintro e wx3 ⟨v8,L8,rfl,R8,D8,F8,hb8⟩
       have hx3:=hx2.trans (hb8.mono hx2.size)
       obtain⟨a8,c8,hv8,-⟩:=R8.val
       subst hv8
       refine hK.out _ _ (HXU.out _ hx3) (λ hHeld=>?_)
       clear hK K Rn_
       try simp only [Qp]
       have h8l:L8.length=bd.length:=by rw [← List.length_map (f:=λ x:Elem Tok=>x.d),D8,Zdi]
       have hx2s:=hx2.size
       have hx3s:=hb8.size
       refine Qr 16 rfl (λ K hK=>?_)
       refine ZdF ZaG rfl (by decide) ZaF _ 120 rfl rfl (.tmp 117) (.tmp 119) rfl wx2.heap.size (.slice a8 L8.length c8) (.slice (some ⟨bw,ow+4,none⟩) (NW-1) (cw-1)) r fps rfl R8 rfl (HRS.out.1 _ hx3) (λ b hb' h=>by have h1:=R8.mine b h;have h2:=HTL.out b (HRS.out.2 b hb');omega) (by have:=HBLN.out;have:=HNW.out;rw [List.length_cons] at this;unfold maxLen;omega) (by have:=HBLN.out;have:=HNW.out;rw [List.length_cons] at this;omega) hx3s ?_
       intro v7 X7 w7 hX7 hXf7 hR7 hg7 hp7
       have hb43:=hb45.trans (hx3.mono hb45.size)
       have hb7:Below w4.heap.size w4 w7:=hb43.grown hg7 hb43.size (λ b hb'=>by have:=(R8.mine b hb').1;have:=hb45.size;omega)
       have hx7:Below w5.heap.size w5 w7:=hx3.grown hg7 hx3.size (λ b hb'=>by have:=(R8.mine b hb').1;omega)
       have HT7:Hid (∃ fp',ToDo w.heap.size fp (.slice ao NO co) v7 (putL bd (ins t.hidden m.name) t.spaced++r) fp' w7):=by
        obtain⟨fp',h'⟩:=ToDo.next HTD.out (by omega:w.heap.size<=wx2.heap.size) (λ b h=>by have:=(HMI.out b h).2;omega) hR7 F8 (λ x hx b hb'=>HRS.out.2 b (hXf7 x hx b hb'))
        rw [List.map_append,D8,hX7] at h'
        exact⟨fp',h'⟩
       refine hK.out _ _ (HXU.out _ hx7) (λ hHeld=>?_)
       clear hK K R8 D8 F8 hX7 hXf7 hR7 hg7 hp7 HRS
       try simp only [Qp]
       refine Qt 17 10 rfl rfl ?_
       try simp only [Qp]
       refine wpAnyH_done (by kernel_rfl) ?_ _
       refine NoPanic.normal ?_
       clear hHeld
       go_wp2
       go_meet
       case rel=>obtain⟨fp',h'⟩:=HT7.out;exact⟨fp',h',hb7⟩
     obtain⟨fp9,HT9,hbc⟩:=hcut
     generalize wc=w6 at *
     obtain⟨a9,c9,hv9,-⟩:=Zac HT9.out.r
     subst hv9
     have hB6:=hB4.trans (hbc.mono hB4.size)
     have hb6:=hb4.trans (hbc.mono hb4.size)
     obtain⟨N9,HN9⟩:∃ N9:Nat,Hid (N9=(putL bd (ins t.hidden m.name) t.spaced++r).length):=⟨_,Qh rfl⟩
     rw [show (putL bd (ins t.hidden m.name) t.spaced++r).length=N9 from HN9.out.symm] at HT9 ⊢
     clear HXU HUN HPUT HMI HTL HTR hcs5 o1 o2 o3 o4 HRb hfb2
     by_cases hfl:60<N9
     ·have HF:=Qh (HGO.out.trans (Zeb HG.out HFU.out.symm HSUB.out (by rw [← HN9.out];exact hfl)))
      have e6:(60:Int)<(N9:Int):=by omega
      go_wp2
      go_ret3
      exact XpOf.none HF.out hB6
     ·have HGN:=Qh (HGO.out.trans (ZeW HG.out HFU.out.symm HSUB.out (by rw [← HN9.out];exact hfl)))
      have e6:¬ (60:Int)<(N9:Int):=by omega
      have HHR:Hid (∀ u∈putL bd (ins t.hidden m.name) t.spaced++r,HidIn N u):=λ u hu=>by
       rcases Qa hu with h | h
       ·refine Zgv HBIN.out (λ x hx=>?_) u h
        rcases ZcM hx with rfl | hx
        ·exact HMN.out.2
        ·exact(HHW.out t (by simp)).2 x hx
       ·exact HHW.out u (by simp [h])
      have hrl:(putL bd (ins t.hidden m.name) t.spaced++r).length<=100:=by rw [← HN9.out];omega
      have hol:O.length<=60:=by rw [← HNO.out];exact hO
      have hjn1:j1<=n:=by omega
      have HR6:=Qh (HRO.out.below hb6)
      have hms:s1 * 1000+N9<s' * 1000+NW:=by have:=HS1.out;omega
      go_wp2
      go_roundw
      case rel=>first | exact⟨j1,s1,O,_,fp9,hl1,hjn1,rfl,hrl,hol,HR6,HOL,HT9,HGN,HHR,hB6⟩ | ((repeat apply Exists.intro);exact⟨⟨j1,s1,O,_,fp9,hl1,hjn1,rfl,hrl,hol,HR6,HOL,HT9,HGN,HHR,hB6⟩,rfl⟩)
      case measure=>simp [intOf,lenOf];omega
def Asc (l:List DMacro):Prop:=l.Pairwise λ a b=>sLess a.name b.name=true
theorem Zev {l:List DMacro} (h:tabOk l=true):l.length<=10/\(∀ m∈l,macOk m=true)/\Asc l:=by
 refine ⟨(Ze9 h).1,λ m hm=>?_,?_⟩
 ·obtain⟨j,hj,rfl⟩:=List.getElem_of_mem hm
  have:=(Ze9 h).2 j hj
  unfold tabAt at this
  rw [dif_pos hj] at this
  exact(Bool.and_eq_true_iff.1 this).1
 ·unfold Asc
  rw [List.pairwise_iff_getElem]
  exact λ i j hi hj hij=>Zj6 h hij hj
theorem ZiJ {T:List DMacro} {N:List ByteArray} (hTab:∀ m∈T,macOk m=true) (hT:∀ m∈T,m.name∈N) (hN:N.length<=5000):∀ n,n<=1000->ExpC T N n:=by
 intro n
 induction n using Nat.strongRecOn with
 | _ n ih=>exact λ hn=>ZiI (λ j hj=>ih j hj (by omega)) hn hTab hT hN
def Zdj (T:List DMacro) (l:List Tok):List ByteArray:=T.map (·.name)++l.flatMap (·.hidden)
theorem ZkG:∀ {l:List Tok},(∀ t∈l,t.hidden.length<=60)->(l.flatMap (·.hidden)).length<=60 * l.length
 | [],_=>by simp
 |
  t::r,h=>by
  have h1:=h t (by simp)
  have h2:=ZkG (l:=r) (λ t ht=>h t (by simp [ht]))
  rw [List.flatMap_cons,List.length_append,List.length_cons]
  omega
theorem Zhs {l:List Tok} (h:Zaj l=true):∀ t∈l,t.hidden.length<=60/\Up t.hidden:=λ t ht=>by
 obtain⟨k,hk,rfl⟩:=List.getElem_of_mem ht
 have h1:=(Zan h).2 k hk
 unfold tokOk at h1
 rw [Bool.and_eq_true] at h1
 have h2:=Zch h1.2
 exact⟨h2.1,h2.2.2⟩
theorem Zgf {T:List DMacro} {l:List Tok} (hT:tabOk T=true) (hl:Zaj l=true):(Zdj T l).length<=5000:=by
 unfold Zdj
 rw [List.length_append,List.length_map]
 have h1:=(Zev hT).1
 have h2:=ZkG (λ t ht=>(Zhs hl t ht).1)
 have h3:=(Zan hl).1
 omega
theorem Zht {T:List DMacro} {l:List Tok} (hl:Zaj l=true):∀ t∈l,HidIn (Zdj T l) t:=λ t ht=>⟨(Zhs hl t ht).2,λ x hx=>List.mem_append.2 (.inr (List.mem_flatMap.2 ⟨t,ht,hx⟩))⟩
def ZkH (r:List Tok × Int) (w:World) (e:Ending) (w':World):Prop:=
 ∃ (v:Value) (fp:List Nat),e=.returned (.tuple #[v,.int .i64 r.2])/\(Zaa sTok).R w' [v] r.1 fp/\(∀ b∈fp,w.heap.size<=b)/\Below w.heap.size w w'
theorem Zgg {r:List Tok × Int} {c:Int} {w W:World} (h:r=([],c)) (hb:Below w.heap.size w W):ZkH r w (.returned (.tuple #[.slice (some ⟨W.heap.size,0,none⟩) 0 0,.int .i64 c])) (W.alloc (.cells #[] 32)):=
 ⟨_,[],by rw [h],by rw [h];exact Zay _ _ _ _ (by simp),by simp,hb.alloc hb.size _⟩
theorem ZdI {T:List DMacro} {l:List Tok} (h:¬ (tabOk T=true/\Zaj l=true)):Zbo T l=([],-1):=by unfold Zbo;rw [if_neg h]
theorem Zlm (vT:Value) (T:List DMacro) (fpT:List Nat) (v:Value) (l:List Tok) (fp:List Nat) (w:World) (hTl:T.length<=1048576) (hTs:∀ k,(hk:k<T.length)->MacSm T[k]) (hl:l.length<=1048576) (hx:∀ k,(hk:k<l.length)->l[k].hidden.length<=2000000)
  (HT:(Zaa sMacro).R w [vT] T fpT) (H:(Zaa sTok).R w [v] l fp):Calls Tryz.prog 20 #[vT,v] w (ZkH (Zbo T l) w):=by
 have HCT:=Qh (Zc1 vT T fpT w hTl hTs HT)
 have HCL:=Qh (λ (U:World) (hU:Below w.heap.size w U)=>ZaO v l fp U hl hx ((Zaa sTok).below H hU))
 clear HT H hTs hx hTl hl
 go_enter Tryz.func20,Tryz.ntmps20
 go_wp2_with fail
 refine HCT.out.mono ?_
 rintro e w1 ⟨v1,f1,rfl,hR1,hlo1,hB1⟩
 clear HCT
 go_wp2_with fail
 refine (HCL.out w1 hB1).mono ?_
 rintro e w2 ⟨v2,f2,rfl,hR2,hlo2,-,hb2⟩
 have hB2:=hB1.trans (hb2.mono hB1.size)
 have HT2:=Qh ((Zaa sMacro).below hR1 hb2)
 have HR2:=Qh hR2
 have HVT:=Qh (Zel v1 T f1 w2 HT2.out)
 have HVL:=Qh (λ (U:World) (hU:Below w2.heap.size w2 U)=>Zbf v2 l f2 U ((Zaa sTok).below HR2.out hU))
 clear HCL hR1 hR2 hlo1 hlo2 hb2 hB1
 cases ht:tabOk T
 ·have HF:=Qh (ZdI (T:=T) (l:=l) (λ h=>by rw [ht] at h;exact absurd h.1 (by simp)))
  rw [ht] at HVT
  clear ht HVL
  go_wp2_with fail
  refine HVT.out.mono ?_
  rintro e w3 ⟨rfl,hb3⟩
  have hB3:=hB2.trans (hb3.mono hB2.size)
  go_wp2
  go_ret2
  exact Zgg HF.out hB3
 cases hv:Zaj l
 ·have HF:=Qh (ZdI (T:=T) (l:=l) (λ h=>by rw [hv] at h;exact absurd h.2 (by simp)))
  rw [ht] at HVT
  rw [hv] at HVL
  clear ht hv
  go_wp2_with fail
  refine HVT.out.mono ?_
  rintro e w3 ⟨rfl,hb3⟩
  have hB3:=hB2.trans (hb3.mono hB2.size)
  go_wp2_with fail
  refine (HVL.out w3 hb3).mono ?_
  rintro e w4 ⟨rfl,hb4⟩
  have hB4:=hB3.trans (hb4.mono hB3.size)
  go_wp2
  go_ret2
  exact Zgg HF.out hB4
 have HX:=Qh (λ (U:World) (hU:Below w2.heap.size w2 U)=>ZiJ (T:=T) (N:=Zdj T l) (Zev ht).2.1 (λ m hm=>List.mem_append.2 (.inl (List.mem_map.2 ⟨m,hm,rfl⟩))) (Zgf ht hv) 100 (by omega) v1 f1 v2 l f2 100 U (Nat.le_refl _) (by have:=(Zan hv).1;omega) (Zht hv) ((Zaa sMacro).below HT2.out hU) ((Zaa sTok).below HR2.out hU))
 have HIN:=Qh (Zh7 (T:=T) (N:=Zdj T l) (λ m hm=>List.mem_append.2 (.inl (List.mem_map.2 ⟨m,hm,rfl⟩))) 100 l 100 [] (by simp) (Zht hv))
 have HLN:=Qh (ZlX T 100 l 100 [] (by simp))
 have HNL:=Qh (Zgf ht hv)
 have HEX:Hid (Zbo T l=if (expG T 100 100 [] l).2.2=0 then ((expG T 100 100 [] l).1,0) else ([],(expG T 100 100 [] l).2.2)):=by show _=_;unfold Zbo;rw [if_pos ⟨ht,hv⟩]
 rw [ht] at HVT
 rw [hv] at HVL
 rcases hq:expG T 100 100 [] l with⟨x,lf,c⟩
 unfold XpOf at HX
 rw [hq] at HX HIN HLN HEX
 try dsimp only at HX HIN HLN HEX
 clear ht hv hq
 go_wp2_with fail
 refine HVT.out.mono ?_
 rintro e w3 ⟨rfl,hb3⟩
 have hB3:=hB2.trans (hb3.mono hB2.size)
 go_wp2_with fail
 refine (HVL.out w3 hb3).mono ?_
 rintro e w4 ⟨rfl,hb4⟩
 have hB4:=hB3.trans (hb4.mono hB3.size)
 have hb24:=hb3.trans (hb4.mono hb3.size)
 go_wp2_with fail
 refine (HX.out w4 hb24).mono ?_
 rintro e w5 ⟨vx,L,rfl,RL,hLd,hLf,hb5⟩
 have hB5:=hB4.trans (hb5.mono hB4.size)
 by_cases hc0:c=0
 rotate_left
 ·have HF:Hid (Zbo T l=([],c)):=by show _=_;rw [HEX.out,if_neg hc0]
  have e2:(c != 0)=true:=by simp [hc0]
  clear hc0
  obtain⟨ax,cx,hvx,-⟩:=RL.val
  subst hvx
  go_wp2
  go_ret2
  exact Zgg HF.out hB5
 subst hc0
 have HF:Hid (Zbo T l=(x,0)):=by show _=_;rw [HEX.out];simp
 obtain⟨fx,rx,-,-⟩:=RL.read
 rw [hLd] at rx
 have HOW:=Qh (ZaO vx x fx w5 (by have h60:x.length<=60:=HLN.out;omega) (λ k hk=>by have hh:HidIn (Zdj T l) x[k]:=HIN.out _ (List.getElem_mem hk);have:=hh.len;have:=HNL.out;omega) rx)
 clear RL hLd hLf rx HX HIN HLN HEX
 go_wp2_with fail
 refine HOW.out.mono ?_
 rintro e w6 ⟨v6,f6,rfl,hR6,hlo6,-,hb6⟩
 have hB6:=hB5.trans (hb6.mono hB5.size)
 have HR6:=Qh hR6
 clear hR6
 go_wp2
 go_ret2
 exact⟨v6,f6,by rw [HF.out];rfl,by rw [HF.out];exact HR6.out,λ b hb=>Nat.le_trans hB5.size (hlo6 b hb),hB6⟩
def rowsM:List (List (List UInt8)):=[[[124,124]],[[38,38]],[[61,61],[33,61]],[[60],[62],[60,61],[62,61]],[[43],[45]],[[42],[47],[37]]]
def rowM (k:Nat):List (List UInt8):=rowsM.getD k []
def mkM (k j:Nat):List UInt8:=(rowM k).getD j []
theorem rank_at:∀ k,k<6->∀ j,j<(rowM k).length->rankT (mkM k j)=k+1:=by decide
theorem rank_hit {t:Tok} {k j:Nat} (hk:k<6) (hj:j<(rowM k).length) (h:isMk t (mkM k j)=true):rankM t=k+1:=by
 unfold isMk at h
 rw [Bool.and_eq_true,decide_eq_true_eq,beq_iff_eq] at h
 unfold rankM
 rw [if_pos h.1,h.2]
 exact rank_at k hk j hj
theorem Znw {t:Tok} (h:∀ k,k<6->∀ j,j<(rowM k).length->isMk t (mkM k j)=false):rankM t=0:=by
 unfold rankM
 split
 ·rename_i h4
  have key:∀ k j,k<6->j<(rowM k).length->t.text.toList≠mkM k j:=λ k j hk hj e=>by
   have:=h k hk j hj
   unfold isMk at this
   rw [decide_eq_true h4,e] at this
   simp at this
  have k00:t.text.toList≠[124,124]:=key 0 0 (by decide) (by decide)
  have k10:t.text.toList≠[38,38]:=key 1 0 (by decide) (by decide)
  have k20:t.text.toList≠[61,61]:=key 2 0 (by decide) (by decide)
  have k21:t.text.toList≠[33,61]:=key 2 1 (by decide) (by decide)
  have k30:t.text.toList≠[60]:=key 3 0 (by decide) (by decide)
  have k31:t.text.toList≠[62]:=key 3 1 (by decide) (by decide)
  have k32:t.text.toList≠[60,61]:=key 3 2 (by decide) (by decide)
  have k33:t.text.toList≠[62,61]:=key 3 3 (by decide) (by decide)
  have k40:t.text.toList≠[43]:=key 4 0 (by decide) (by decide)
  have k41:t.text.toList≠[45]:=key 4 1 (by decide) (by decide)
  have k50:t.text.toList≠[42]:=key 5 0 (by decide) (by decide)
  have k51:t.text.toList≠[47]:=key 5 1 (by decide) (by decide)
  have k52:t.text.toList≠[37]:=key 5 2 (by decide) (by decide)
  unfold rankT
  rw [if_neg k00,if_neg k10,if_neg (λ e=>e.elim k20 k21),if_neg (λ e=>e.elim k30 λ e=>e.elim k31 λ e=>e.elim k32 k33),if_neg (λ e=>e.elim k40 k41),if_neg (λ e=>e.elim k50 λ e=>e.elim k51 k52)]
 ·rfl
def litO (n:Nat):List Obj:=[.cells #[.string ⟨#[124,124]⟩] 9 (0,0),.cells #[.string ⟨#[38,38]⟩] 9 (0,0),.cells #[.string ⟨#[61,61]⟩,.string ⟨#[33,61]⟩] 9 (0,0),.cells #[.string ⟨#[60]⟩,.string ⟨#[62]⟩,.string ⟨#[60,61]⟩,.string ⟨#[62,61]⟩] 9 (0,0),
 .cells #[.string ⟨#[43]⟩,.string ⟨#[45]⟩] 9 (0,0),.cells #[.string ⟨#[42]⟩,.string ⟨#[47]⟩,.string ⟨#[37]⟩] 9 (0,0),
 .cells #[.slice (some ⟨n+1,0,none⟩) 1 1,.slice (some ⟨n+2,0,none⟩) 1 1,.slice (some ⟨n+3,0,none⟩) 2 2,.slice (some ⟨n+4,0,none⟩) 4 4,.slice (some ⟨n+5,0,none⟩) 2 2,.slice (some ⟨n+6,0,none⟩) 3 3] 30 (0,0)]
structure RowsIn (n:Nat) (w:World):Prop where
 tab:w.heap[n+7]?=some (.cells #[.slice (some ⟨n+1,0,none⟩) 1 1,.slice (some ⟨n+2,0,none⟩) 1 1,.slice (some ⟨n+3,0,none⟩) 2 2,.slice (some ⟨n+4,0,none⟩) 4 4,.slice (some ⟨n+5,0,none⟩) 2 2,.slice (some ⟨n+6,0,none⟩) 3 3] 30 (0,0))
 row:∀ k,(hk:k<6)->∃ arr,w.heap[n+1+k]?=some (.cells arr 9 (0,0))/\∀ j,j<(rowM k).length->arr[j]?=some (.string ⟨(mkM k j).toArray⟩)
theorem RowsIn.below {n:Nat} {w w':World} (h:RowsIn n w) (hb:Below w.heap.size w w'):RowsIn n w':=
 ⟨mbox h.tab hb,λ k hk=>by obtain⟨arr,h1,h2⟩:=h.row k hk;exact⟨arr,mbox h1 hb,h2⟩⟩
theorem RowsIn.cellT {n:Nat} {w:World} (h:RowsIn n w) {k:Nat} (hk:k<6):w.cell? ⟨n+7,k,none⟩=some (.slice (some ⟨n+1+k,0,none⟩) (rowM k).length (rowM k).length):=by
 have hc:∀ k,k<6->(#[Value.slice (some ⟨n+1,0,none⟩) 1 1,.slice (some ⟨n+2,0,none⟩) 1 1,.slice (some ⟨n+3,0,none⟩) 2 2,.slice (some ⟨n+4,0,none⟩) 4 4,.slice (some ⟨n+5,0,none⟩) 2 2,.slice (some ⟨n+6,0,none⟩) 3 3]:Array Value)[k]?=some (.slice (some ⟨n+1+k,0,none⟩) (rowM k).length (rowM k).length):=by
  intro k hk
  match k,hk with
  | 0,_=>rfl
  | 1,_=>rfl
  | 2,_=>rfl
  | 3,_=>rfl
  | 4,_=>rfl
  | 5,_=>rfl
 rw [cell_of_row _ _ k _ _ _ h.tab]
 exact hc k hk
theorem RowsIn.cellM {n:Nat} {w:World} (h:RowsIn n w) {k j:Nat} (hk:k<6) (hj:j<(rowM k).length):w.cell? ⟨n+1+k,j,none⟩=some (.string ⟨(mkM k j).toArray⟩):=by
 obtain⟨arr,h1,h2⟩:=h.row k hk
 rw [cell_of_row _ _ j _ _ _ h1]
 exact h2 j hj
theorem Znx (w:World) (o:Obj):RowsIn w.heap.size (Zb5 (w.alloc o) (litO w.heap.size)):=by
 have hs:(w.alloc o).heap.size=w.heap.size+1:=Array.size_push _
 have hb:=λ j hj=>Zmb (w.alloc o) (litO w.heap.size) j hj
 rw [hs] at hb
 refine ⟨hb 6 (show (6:Nat)<7 by decide),λ k hk=>?_⟩
 match k,hk with
 |
  0,_=>exact⟨_,hb 0 (show (0:Nat)<7 by decide),λ j hj=>match j,hj with
  | 0,_=>rfl⟩
 |
  1,_=>exact⟨_,hb 1 (show (1:Nat)<7 by decide),λ j hj=>match j,hj with
  | 0,_=>rfl⟩
 |
  2,_=>exact⟨_,hb 2 (show (2:Nat)<7 by decide),λ j hj=>match j,hj with
  | 0,_=>rfl
  | 1,_=>rfl⟩
 |
  3,_=>exact⟨_,hb 3 (show (3:Nat)<7 by decide),λ j hj=>match j,hj with
  | 0,_=>rfl
  | 1,_=>rfl
  | 2,_=>rfl
  | 3,_=>rfl⟩
 |
  4,_=>exact⟨_,hb 4 (show (4:Nat)<7 by decide),λ j hj=>match j,hj with
  | 0,_=>rfl
  | 1,_=>rfl⟩
 |
  5,_=>exact⟨_,hb 5 (show (5:Nat)<7 by decide),λ j hj=>match j,hj with
  | 0,_=>rfl
  | 1,_=>rfl
  | 2,_=>rfl⟩
theorem Zl1 (k:Nat):(rowM k).length<=4:=by
 match k with
 | 0=>decide
 | 1=>decide
 | 2=>decide
 | 3=>decide
 | 4=>decide
 | 5=>decide
 | k+6=>exact Nat.zero_le 4
theorem Zgh (cs:List Value) (t:Tok) (fp:List Nat) (w:World) (H:sTok.R w cs t fp) :
  Calls Tryz.prog 105 #[.agg cs.toArray] w λ e w'=>e=.returned (.int .i64 (rankM t:Nat))/\Below w.heap.size w w':=by
 have H0:=H
 obtain⟨hv,rfl,-,-,KT⟩:=H
 obtain⟨ah,ch,rfl,-⟩:=Zaf KT
 clear KT
 have b0:=Zab w (.cells #[.int .i64 t.kind,.string t.text,.bool t.spaced,.slice ah t.hidden.length ch] 32)
 have HRI:=Qh (Znx w (.cells #[.int .i64 t.kind,.string t.text,.bool t.spaced,.slice ah t.hidden.length ch] 32 (0,0)))
 have HB:Hid (Below w.heap.size w (Zb5 (w.alloc (.cells #[.int .i64 t.kind,.string t.text,.bool t.spaced,.slice ah t.hidden.length ch] 32)) (litO w.heap.size))):=ZfR _ _ b0 b0.size
 have HX:Hid ((Zb5 (w.alloc (.cells #[.int .i64 t.kind,.string t.text,.bool t.spaced,.slice ah t.hidden.length ch] 32)) (litO w.heap.size)).heap[w.heap.size]?=some (.cells #[.int .i64 t.kind,.string t.text,.bool t.spaced,.slice ah t.hidden.length ch] 32 (0,0))):=by
  have h1:=heap_alloc_new w (.cells #[.int .i64 t.kind,.string t.text,.bool t.spaced,.slice ah t.hidden.length ch] 32)
  exact mbox h1 (ZfR _ _ (Below.refl _ _) (Nat.le_refl _))
 have HSZ:Hid ((Zb5 (w.alloc (.cells #[.int .i64 t.kind,.string t.text,.bool t.spaced,.slice ah t.hidden.length ch] 32)) (litO w.heap.size)).heap.size=w.heap.size+8):=by
  show _=_
  rw [Zk4,show (w.alloc (.cells #[.int .i64 t.kind,.string t.text,.bool t.spaced,.slice ah t.hidden.length ch] 32)).heap.size=w.heap.size+1 from Array.size_push _];rfl
 go_enter Tryz.func105,Tryz.ntmps105
 go_upto_region 2 with fail
 rw [show w.heap.size+1+1+1+1+1+1+1=w.heap.size+7 from rfl]
 show Code.wp _ _ _ _ (Zb5 (w.alloc (.cells #[.int .i64 t.kind,.string t.text,.bool t.spaced,.slice ah t.hidden.length ch] 32)) (litO w.heap.size))
 generalize (Zb5 (w.alloc (.cells #[.int .i64 t.kind,.string t.text,.bool t.spaced,.slice ah t.hidden.length ch] 32)) (litO w.heap.size))=W at *
 have HS:Hid (sTok.R W [.int .i64 t.kind,.string t.text,.bool t.spaced,.slice ah t.hidden.length ch] t fp):=sTok.below H0 HB.out
 clear H0 b0
 go_wp2
 go_loopw [4] (λ i wr=>∃ k:Nat,k<=6/\i=.int .i64 k/\Hid (∀ k',k'<k->∀ j,j<(rowM k').length->isMk t (mkM k' j)=false)/\Below W.heap.size W wr) (λ i _=>6-(intOf i).toNat)
 case atStart=>exact⟨0,by omega,rfl,(λ k h=>by omega),Below.refl _ _⟩
 case round =>
  obtain⟨k,hk,rfl,HM,hb⟩:=hrel
  by_cases hlt:k<6
  ·have hlti:(k:Int)<6:=by omega
   have hk0:(0:Int)<=(k:Int):=by omega
   have hlen:=Zl1 k
   go_wp2
   obtain⟨wo,hwo⟩:∃ x:World,x=wr:=⟨_,rfl⟩
   subst hwo
   go_loopw [5] (λ i wr=>∃ j:Nat,j<=(rowM k).length/\i=.int .i64 j/\Hid (∀ j',j'<j->isMk t (mkM k j')=false)/\Below W.heap.size W wr) (λ i _=>(rowM k).length-(intOf i).toNat)
   case atStart=>exact⟨0,by omega,rfl,(λ j h=>by omega),hb⟩
   case round =>
    obtain⟨j,hj,rfl,HJ,hbj⟩:=hrel
    have HRW:=Qh (HRI.out.below hbj)
    have q0:=HRW.out.cellT hlt
    obtain⟨RL,HRL⟩:∃ RL:Nat,Hid (RL=(rowM k).length):=⟨_,Qh rfl⟩
    rw [show (rowM k).length=RL from HRL.out.symm] at q0 hj
    have hRL4:RL<=4:=by rw [HRL.out];exact Zl1 k
    by_cases hj2:j<RL
    ·skip
     have q1:=HRW.out.cellM hlt (j:=j) (by rw [← HRL.out];exact hj2)
     have hj0:(0:Int)<=(j:Int):=by omega
     have hji:(j:Int)<(RL:Int):=by omega
     have HBX:=Qh (mbox HX.out hbj)
     have HSM:Hid (∀ Q:World,Below wr.heap.size wr Q->(λ w'=>w'.heap[w.heap.size]?=some (.cells #[.int .i64 t.kind,.string t.text,.bool t.spaced,.slice ah t.hidden.length ch] 32 (0,0))/\w'.cell? ⟨w.heap.size+7,k,none⟩=some (.slice (some ⟨w.heap.size+1+k,0,none⟩) RL RL)/\w'.cell? ⟨w.heap.size+1+k,j,none⟩=some (.string ⟨(mkM k j).toArray⟩)) Q):=λ Q hQ=>⟨mbox HBX.out hQ,by rw [HRL.out];exact(HRW.out.below hQ).cellT hlt,(HRW.out.below hQ).cellM hlt (by rw [← HRL.out];exact hj2)⟩
     have HCL:Hid (∀ Q:World,Below wr.heap.size wr Q->Calls Tryz.prog 45 #[.agg [.int .i64 t.kind,.string t.text,.bool t.spaced,.slice ah t.hidden.length ch].toArray,.string ⟨(mkM k j).toArray⟩] Q (Says (isMk t (mkM k j)) Q)):=λ Q hQ=>by
      have h9:=Zcu _ t fp Q ⟨(mkM k j).toArray⟩ (sTok.below HS.out (hbj.trans (hQ.mono hbj.size)))
      rw [show (⟨(mkM k j).toArray⟩:ByteArray).toList=mkM k j by rw [ByteArray.toList_eq]] at h9
      exact h9
     have hcs:Below wr.heap.size wr wr.drew:=Zag (Below.refl _ _) 1
     generalize hmm:mkM k j=mm at *
     go_upto_region 8 with fail
     clear q0 q1
     refine wp_region_noPanic ?_
     refine wp_region_held_drew (S:=λ w'=>w'.heap[w.heap.size]?=some (.cells #[.int .i64 t.kind,.string t.text,.bool t.spaced,.slice ah t.hidden.length ch] 32 (0,0))/\w'.cell? ⟨w.heap.size+7,k,none⟩=some (.slice (some ⟨w.heap.size+1+k,0,none⟩) RL RL)/\w'.cell? ⟨w.heap.size+1+k,j,none⟩=some (.string ⟨mm.toArray⟩)) (by kernel_rfl) (by exact HSM.out _ hcs) (λ hHeld=>?_)
     generalize hwd:wr.drew=wd at *
     refine Qt 0 28 rfl rfl ?_ (by intro w hSw;obtain⟨b0,b1,b2,b3⟩:=Q4 hSw.1;go_simp;(first | done | with_reducible rfl | rfl))
     try simp only [Qp]
     refine Qt 1 29 rfl rfl ?_
     try simp only [Qp]
     refine Qt 2 30 rfl rfl ?_
     try simp only [Qp]
     refine Qt 3 31 rfl rfl ?_
     try simp only [Qp]
     refine Qt 4 32 rfl rfl ?_ (by intro w hSw;obtain⟨-,r0,r1⟩:=hSw;go_simp;(first | done | with_reducible rfl | rfl))
     try simp only [Qp]
     refine Qt 5 33 rfl rfl ?_
     try simp only [Qp]
     refine Qt 6 34 rfl rfl ?_
     try simp only [Qp]
     refine Qt 7 35 rfl rfl ?_ (by intro w hSw;obtain⟨-,r0,r1⟩:=hSw;go_simp;(first | done | with_reducible rfl | rfl))
     try simp only [Qp]
     refine Qr 8 rfl (λ K hK=>?_)
     go_simp
     refine (HCL.out _ hcs).mono ?_
     rintro e w5 ⟨rfl,hb5⟩
     have hx5:=hcs.trans (hb5.mono hcs.size)
     refine hK.out _ _ (HSM.out _ hx5) (λ hHeld=>?_)
     clear hK K
     try simp only [Qp]
     refine wpAnyH_done (by kernel_rfl) ?_ _
     refine NoPanic.normal ?_
     clear hHeld
     have hb6:=hbj.trans (hx5.mono hbj.size)
     clear HSM HCL hx5 hb5 hcs hwd HBX HRW
     cases hm:isMk t mm
     ·have HJ2:Hid (∀ j',j'<j+1->isMk t (mkM k j')=false):=λ j' h=>by
       by_cases e:j'=j
       ·subst e;rw [hmm];exact hm
       ·exact HJ.out j' (by omega)
      go_wp2
      go_roundw
      case rel=>exact⟨j+1,by rw [← HRL.out];omega,by go_num,HJ2,hb6⟩
      case measure=>rw [← HRL.out];simp [intOf];omega
     ·have HF:Hid (rankM t=k+1):=rank_hit hlt (by rw [← HRL.out];exact hj2) (by rw [hmm];exact hm)
      go_wp2
      go_ret
      exact⟨by rw [HF.out];rfl,HB.out.trans (hb6.mono HB.out.size)⟩
    ·have HM2:Hid (∀ k',k'<k+1->∀ j,j<(rowM k').length->isMk t (mkM k' j)=false):=λ k' h j' hj'=>by
      by_cases e:k'=k
      ·subst e;exact HJ.out j' (by rw [← HRL.out] at hj';omega)
      ·exact HM.out k' (by omega) j' hj'
     have hji:¬ (j:Int)<(RL:Int):=by omega
     go_wp2
     go_roundw
     case rel=>exact⟨k+1,by omega,by go_num,HM2,hbj⟩
     case measure=>simp [intOf];omega
  ·have hk6:k=6:=by omega
   subst hk6
   have HF:Hid (rankM t=0):=Znw HM.out
   go_wp2
   go_ret
   exact⟨by rw [HF.out];rfl,HB.out.trans (hb.mono HB.out.size)⟩
theorem Zew {s:List UInt8} (h:rankT s≠0):s=[43]\/s=[45]\/s=[42]\/s=[47]\/s=[37]\/s=[61,61]\/s=[33,61]\/s=[60]\/s=[62]\/s=[60,61]\/s=[62,61]\/s=[38,38]\/s=[124,124]:=by
 unfold rankT at h
 split at h
 ·rename_i h1;simp [h1]
 split at h
 ·rename_i h1;simp [h1]
 split at h
 ·rename_i h1;rcases h1 with h1 | h1 <;> simp [h1]
 split at h
 ·rename_i h1;rcases h1 with h1 | h1 | h1 | h1 <;> simp [h1]
 split at h
 ·rename_i h1;rcases h1 with h1 | h1 <;> simp [h1]
 split at h
 ·rename_i h1;rcases h1 with h1 | h1 | h1 <;> simp [h1]
 ·exact absurd rfl h
theorem app0 {a b:Int} (ha:inR a=true) (hb:inR b=true):Zah [43] a b=if inR (a+b)=true then (a+b,0) else (0,3):=by
 have e:opM [43] a b=a+b:=rfl
 unfold Zah
 rw [if_neg (by rw [ha,hb];decide),if_neg (λ h=>absurd h.1 (by decide)),e]
theorem app1 {a b:Int} (ha:inR a=true) (hb:inR b=true):Zah [45] a b=if inR (a-b)=true then (a-b,0) else (0,3):=by
 have e:opM [45] a b=a-b:=rfl
 unfold Zah
 rw [if_neg (by rw [ha,hb];decide),if_neg (λ h=>absurd h.1 (by decide)),e]
theorem app2 {a b:Int} (ha:inR a=true) (hb:inR b=true):Zah [42] a b=if inR (a * b)=true then (a * b,0) else (0,3):=by
 have e:opM [42] a b=a * b:=rfl
 unfold Zah
 rw [if_neg (by rw [ha,hb];decide),if_neg (λ h=>absurd h.1 (by decide)),e]
theorem app3 {a b:Int} (ha:inR a=true) (hb:inR b=true) (h0:b≠0):Zah [47] a b=if inR (a.tdiv b)=true then (a.tdiv b,0) else (0,3):=by
 have e:opM [47] a b=a.tdiv b:=rfl
 unfold Zah
 rw [if_neg (by rw [ha,hb];decide),if_neg (λ h=>h0 h.2),e]
theorem app4 {a b:Int} (ha:inR a=true) (hb:inR b=true) (h0:b≠0):Zah [37] a b=if inR (a.tmod b)=true then (a.tmod b,0) else (0,3):=by
 have e:opM [37] a b=a.tmod b:=rfl
 unfold Zah
 rw [if_neg (by rw [ha,hb];decide),if_neg (λ h=>h0 h.2),e]
theorem app5 {a b:Int} (ha:inR a=true) (hb:inR b=true):Zah [61,61] a b=if inR (bit1 (decide (a=b)))=true then (bit1 (decide (a=b)),0) else (0,3):=by
 have e:opM [61,61] a b=bit1 (decide (a=b)):=rfl
 unfold Zah
 rw [if_neg (by rw [ha,hb];decide),if_neg (λ h=>absurd h.1 (by decide)),e]
theorem app6 {a b:Int} (ha:inR a=true) (hb:inR b=true):Zah [33,61] a b=if inR (bit1 (decide (a≠b)))=true then (bit1 (decide (a≠b)),0) else (0,3):=by
 have e:opM [33,61] a b=bit1 (decide (a≠b)):=rfl
 unfold Zah
 rw [if_neg (by rw [ha,hb];decide),if_neg (λ h=>absurd h.1 (by decide)),e]
theorem app7 {a b:Int} (ha:inR a=true) (hb:inR b=true):Zah [60] a b=if inR (bit1 (decide (a<b)))=true then (bit1 (decide (a<b)),0) else (0,3):=by
 have e:opM [60] a b=bit1 (decide (a<b)):=rfl
 unfold Zah
 rw [if_neg (by rw [ha,hb];decide),if_neg (λ h=>absurd h.1 (by decide)),e]
theorem app8 {a b:Int} (ha:inR a=true) (hb:inR b=true):Zah [62] a b=if inR (bit1 (decide (b<a)))=true then (bit1 (decide (b<a)),0) else (0,3):=by
 have e:opM [62] a b=bit1 (decide (b<a)):=rfl
 unfold Zah
 rw [if_neg (by rw [ha,hb];decide),if_neg (λ h=>absurd h.1 (by decide)),e]
theorem app9 {a b:Int} (ha:inR a=true) (hb:inR b=true):Zah [60,61] a b=if inR (bit1 (decide (a<=b)))=true then (bit1 (decide (a<=b)),0) else (0,3):=by
 have e:opM [60,61] a b=bit1 (decide (a<=b)):=rfl
 unfold Zah
 rw [if_neg (by rw [ha,hb];decide),if_neg (λ h=>absurd h.1 (by decide)),e]
theorem app10 {a b:Int} (ha:inR a=true) (hb:inR b=true):Zah [62,61] a b=if inR (bit1 (decide (b<=a)))=true then (bit1 (decide (b<=a)),0) else (0,3):=by
 have e:opM [62,61] a b=bit1 (decide (b<=a)):=rfl
 unfold Zah
 rw [if_neg (by rw [ha,hb];decide),if_neg (λ h=>absurd h.1 (by decide)),e]
theorem app11 {a b:Int} (ha:inR a=true) (hb:inR b=true):Zah [38,38] a b=if inR (bit1 (decide (a≠0) && decide (b≠0)))=true then (bit1 (decide (a≠0) && decide (b≠0)),0) else (0,3):=by
 have e:opM [38,38] a b=bit1 (decide (a≠0) && decide (b≠0)):=rfl
 unfold Zah
 rw [if_neg (by rw [ha,hb];decide),if_neg (λ h=>absurd h.1 (by decide)),e]
theorem app12 {a b:Int} (ha:inR a=true) (hb:inR b=true):Zah [124,124] a b=if inR (bit1 (decide (a≠0) || decide (b≠0)))=true then (bit1 (decide (a≠0) || decide (b≠0)),0) else (0,3):=by
 have e:opM [124,124] a b=bit1 (decide (a≠0) || decide (b≠0)):=rfl
 unfold Zah
 rw [if_neg (by rw [ha,hb];decide),if_neg (λ h=>absurd h.1 (by decide)),e]
theorem app3z {a b:Int} (ha:inR a=true) (hb:inR b=true) (h0:b=0):Zah [47] a b=(0,2):=by
 unfold Zah
 rw [if_neg (by rw [ha,hb];decide),if_pos ⟨by decide,h0⟩]
theorem app4z {a b:Int} (ha:inR a=true) (hb:inR b=true) (h0:b=0):Zah [37] a b=(0,2):=by
 unfold Zah
 rw [if_neg (by rw [ha,hb];decide),if_pos ⟨by decide,h0⟩]
theorem Zjy {a b:Int} (ha:-1000000<=a/\a<=1000000) (hb:-1000000<=b/\b<=1000000):-1000000000000<=a * b/\a * b<=1000000000000:=by
 have h1:(a * b).natAbs<=1000000 * 1000000:=by
  rw [Int.natAbs_mul]
  exact Nat.mul_le_mul (by omega) (by omega)
 omega
theorem Zjz {a b:Int} (ha:-1000000<=a/\a<=1000000) (hb:-1000000<=b/\b<=1000000) (h0:b≠0):-1000000<=a.tdiv b/\a.tdiv b<=1000000:=by
 have h1:(a.tdiv b).natAbs<=1000000:=by
  rw [Int.natAbs_tdiv]
  exact Nat.le_trans (Nat.div_le_self _ _) (by omega)
 omega
theorem ZjA {a b:Int} (ha:-1000000<=a/\a<=1000000) (hb:-1000000<=b/\b<=1000000) (h0:b≠0):-1000000<=a.tmod b/\a.tmod b<=1000000:=by
 have h1:(a.tmod b).natAbs<=1000000:=by
  rw [Int.natAbs_tmod]
  exact Nat.le_trans (Nat.mod_le _ _) (by omega)
 omega
theorem ZkI {s:List UInt8} {a b:Int} (h:rankT s=0):Zah s a b=(0,1):=by unfold Zah;rw [if_pos (.inl h)]
theorem app_a {s:List UInt8} {a b:Int} (h:inR a=false):Zah s a b=(0,1):=by unfold Zah;rw [if_pos (.inr (.inl h))]
theorem app_b {s:List UInt8} {a b:Int} (h:inR b=false):Zah s a b=(0,1):=by unfold Zah;rw [if_pos (.inr (.inr h))]
theorem Zau {x:ByteArray} {l:List UInt8} (h:x.toList=l):x=⟨l.toArray⟩:=by
 rw [ByteArray.toList_eq] at h
 subst h
 simp
def AppOf (s:List UInt8) (a b:Int) (w:World) (e:Ending) (w':World):Prop:=e=.returned (.tuple #[.int .i64 (Zah s a b).1,.int .i64 (Zah s a b).2])/\Below w.heap.size w w'
theorem ZaR {s:List UInt8} {a b n c:Int} {w w':World} (h:Zah s a b=(n,c)) (hb:Below w.heap.size w w'):AppOf s a b w (.returned (.tuple #[.int .i64 n,.int .i64 c])) w':=⟨by rw [h],hb⟩
theorem Y16A1 {g:Prop} (h:g:=by
 clear HF hop
 go_wp2_with fail
 refine (Zbd false _).mono ?_
 rintro e w5 ⟨rfl,rfl⟩
 rw [show bit1 false=0 from rfl]
 go_wp2_with fail
 refine (ZbL 0 (-1000000) 1000000 _).mono ?_
 rintro e w6 ⟨rfl,hb6⟩
 have hB6:=hB4.trans (hb6.mono hB4.size)
 go_wp2
 go_ret2
 exact ZaR (by rw [ByteArray.toList_eq];exact HT.out) hB6):g:=h
theorem Y16A2 {g:Prop} (h:g:=by
 clear HF hop
 go_wp2_with fail
 refine (Zbd true _).mono ?_
 rintro e w5 ⟨rfl,rfl⟩
 rw [show bit1 true=1 from rfl]
 go_wp2_with fail
 refine (ZbL 1 (-1000000) 1000000 _).mono ?_
 rintro e w6 ⟨rfl,hb6⟩
 have hB6:=hB4.trans (hb6.mono hB4.size)
 go_wp2
 go_ret2
 exact ZaR (by rw [ByteArray.toList_eq];exact HT.out) hB6):g:=h
theorem ZiK (s:ByteArray) (a b:Int) (w:World) (hs:s.size<=maxLen) (hra:okInt a) (hrb:okInt b) :
  Calls Tryz.prog 106 #[.string s,.int .i64 a,.int .i64 b] w (AppOf s.toList a b w):=by
 have HRK:=Qh (Zgh [.int .i64 4,.string s,.bool false,.slice none 0 0] ⟨4,s,false,[]⟩ [] w ⟨_,rfl,(show okInt 4 from⟨by decide,by decide⟩),hs,Zay sStr _ _ 0 (by simp)⟩)
 have HIA:=Qh (λ (Q:World)=>ZbL a (-1000000) 1000000 Q)
 have HIB:=Qh (λ (Q:World)=>ZbL b (-1000000) 1000000 Q)
 rw [show rankM ⟨4,s,false,[]⟩=rankT s.toList from rfl] at HRK
 rw [show (decide (-1000000<=a) && decide (a<=1000000))=inR a from rfl] at HIA
 rw [show (decide (-1000000<=b) && decide (b<=1000000))=inR b from rfl] at HIB
 go_enter Tryz.func106,Tryz.ntmps106
 by_cases hrk:rankT s.toList=0
 ·have HF:=Qh (ZkI (a:=a) (b:=b) hrk)
  rw [hrk] at HRK
  clear hrk
  go_wp2_with fail
  refine HRK.out.mono ?_
  rintro e w2 ⟨rfl,hb2⟩
  go_wp2
  go_ret2
  exact ZaR HF.out hb2
 have HW:=Qh (Zew hrk)
 obtain⟨rk,HK⟩:∃ rk:Nat,Hid (rk=rankT s.toList):=⟨_,Qh rfl⟩
 rw [show rankT s.toList=rk from HK.out.symm] at HRK hrk
 have hrk2:((rk:Int)==0)=false:=by simp;omega
 go_wp2_with fail
 refine HRK.out.mono ?_
 rintro e w2 ⟨rfl,hb2⟩
 cases ha:inR a
 ·have HF:=Qh (app_a (s:=s.toList) (b:=b) ha)
  rw [ha] at HIA
  clear ha
  go_wp2_with fail
  refine (HIA.out _).mono ?_
  rintro e w3 ⟨rfl,hb3⟩
  go_wp2
  go_ret2
  exact ZaR HF.out (hb2.trans (hb3.mono hb2.size))
 rw [ha] at HIA
 have HA1:=Qh ha
 clear ha
 go_wp2_with fail
 refine (HIA.out _).mono ?_
 rintro e w3 ⟨rfl,hb3⟩
 have hB3:=hb2.trans (hb3.mono hb2.size)
 cases hbb:inR b
 ·have HF:=Qh (app_b (s:=s.toList) (a:=a) hbb)
  rw [hbb] at HIB
  clear hbb
  go_wp2_with fail
  refine (HIB.out _).mono ?_
  rintro e w4 ⟨rfl,hb4⟩
  go_wp2
  go_ret2
  exact ZaR HF.out (hB3.trans (hb4.mono hB3.size))
 rw [hbb] at HIB
 have HB1:=Qh hbb
 clear hbb
 go_wp2_with fail
 refine (HIB.out _).mono ?_
 rintro e w4 ⟨rfl,hb4⟩
 have hB4:=hB3.trans (hb4.mono hB3.size)
 clear hb2 hb3 hb4 HRK HIA HIB hrk hrk2 hB3
 have hai:=inR_iff.1 HA1.out
 have hbi:=inR_iff.1 HB1.out
 clear hra hrb
 rcases HW.out with h | h | h | h | h | h | h | h | h | h | h | h | h
 ·have hs2:=Zau h
  subst hs2
  clear h HW HK hs
  have HF:=Qh (app0 HA1.out HB1.out)
  have HIN:=Qh (λ (Q:World)=>ZbL (a+b) (-1000000) 1000000 Q)
  rw [show (decide (-1000000<=a+b) && decide (a+b<=1000000))=inR (a+b) from rfl] at HIN
  cases hin:inR (a+b)
  ·have HG:Hid (Zah [43] a b=(0,3)):=by show _=_;rw [HF.out,hin];rfl
   rw [hin] at HIN
   clear hin
   go_wp2_with fail
   refine (HIN.out _).mono ?_
   rintro e w6 ⟨rfl,hb6⟩
   have hB6:=hB4.trans (hb6.mono hB4.size)
   go_wp2
   go_ret2
   exact ZaR (by rw [ByteArray.toList_eq];exact HG.out) hB6
  ·have HG:Hid (Zah [43] a b=(a+b,0)):=by show _=_;rw [HF.out,hin];rfl
   rw [hin] at HIN
   clear hin
   go_wp2_with fail
   refine (HIN.out _).mono ?_
   rintro e w6 ⟨rfl,hb6⟩
   have hB6:=hB4.trans (hb6.mono hB4.size)
   go_wp2
   go_ret2
   exact ZaR (by rw [ByteArray.toList_eq];exact HG.out) hB6
 ·have hs2:=Zau h
  subst hs2
  clear h HW HK hs
  have HF:=Qh (app1 HA1.out HB1.out)
  have HIN:=Qh (λ (Q:World)=>ZbL (a-b) (-1000000) 1000000 Q)
  rw [show (decide (-1000000<=a-b) && decide (a-b<=1000000))=inR (a-b) from rfl] at HIN
  cases hin:inR (a-b)
  ·have HG:Hid (Zah [45] a b=(0,3)):=by show _=_;rw [HF.out,hin];rfl
   rw [hin] at HIN
   clear hin
   go_wp2_with fail
   refine (HIN.out _).mono ?_
   rintro e w6 ⟨rfl,hb6⟩
   have hB6:=hB4.trans (hb6.mono hB4.size)
   go_wp2
   go_ret2
   exact ZaR (by rw [ByteArray.toList_eq];exact HG.out) hB6
  ·have HG:Hid (Zah [45] a b=(a-b,0)):=by show _=_;rw [HF.out,hin];rfl
   rw [hin] at HIN
   clear hin
   go_wp2_with fail
   refine (HIN.out _).mono ?_
   rintro e w6 ⟨rfl,hb6⟩
   have hB6:=hB4.trans (hb6.mono hB4.size)
   go_wp2
   go_ret2
   exact ZaR (by rw [ByteArray.toList_eq];exact HG.out) hB6
 ·have hs2:=Zau h
  subst hs2
  clear h HW HK hs
  have HF:=Qh (app2 HA1.out HB1.out)
  have hm1:-1000000000000<=a * b/\a * b<=1000000000000:=Zjy hai hbi
  have HIN:=Qh (λ (Q:World)=>ZbL (a * b) (-1000000) 1000000 Q)
  rw [show (decide (-1000000<=a * b) && decide (a * b<=1000000))=inR (a * b) from rfl] at HIN
  cases hin:inR (a * b)
  ·have HG:Hid (Zah [42] a b=(0,3)):=by show _=_;rw [HF.out,hin];rfl
   rw [hin] at HIN
   clear hin
   go_wp2_with fail
   refine (HIN.out _).mono ?_
   rintro e w6 ⟨rfl,hb6⟩
   have hB6:=hB4.trans (hb6.mono hB4.size)
   go_wp2
   go_ret2
   exact ZaR (by rw [ByteArray.toList_eq];exact HG.out) hB6
  ·have HG:Hid (Zah [42] a b=(a * b,0)):=by show _=_;rw [HF.out,hin];rfl
   rw [hin] at HIN
   clear hin
   go_wp2_with fail
   refine (HIN.out _).mono ?_
   rintro e w6 ⟨rfl,hb6⟩
   have hB6:=hB4.trans (hb6.mono hB4.size)
   go_wp2
   go_ret2
   exact ZaR (by rw [ByteArray.toList_eq];exact HG.out) hB6
 ·have hs2:=Zau h
  subst hs2
  clear h HW HK hs
  by_cases h0:b=0
  ·have HG:=Qh (app3z HA1.out HB1.out h0)
   have e0:(b==0)=true:=by simp [h0]
   clear h0
   go_wp2
   go_ret2
   exact ZaR (by rw [ByteArray.toList_eq];exact HG.out) hB4
  ·have HF:=Qh (app3 HA1.out HB1.out h0)
   have e0:(b==0)=false:=by simp [h0]
   have hq:=Zjz hai hbi h0
   have HIN:=Qh (λ (Q:World)=>ZbL (a.tdiv b) (-1000000) 1000000 Q)
   rw [show (decide (-1000000<=a.tdiv b) && decide (a.tdiv b<=1000000))=inR (a.tdiv b) from rfl] at HIN
   cases hin:inR (a.tdiv b)
   ·have HG:Hid (Zah [47] a b=(0,3)):=by show _=_;rw [HF.out,hin];rfl
    rw [hin] at HIN
    clear hin
    go_wp2_with fail
    refine (HIN.out _).mono ?_
    rintro e w6 ⟨rfl,hb6⟩
    have hB6:=hB4.trans (hb6.mono hB4.size)
    go_wp2
    go_ret2
    exact ZaR (by rw [ByteArray.toList_eq];exact HG.out) hB6
   ·have HG:Hid (Zah [47] a b=(a.tdiv b,0)):=by show _=_;rw [HF.out,hin];rfl
    rw [hin] at HIN
    clear hin
    go_wp2_with fail
    refine (HIN.out _).mono ?_
    rintro e w6 ⟨rfl,hb6⟩
    have hB6:=hB4.trans (hb6.mono hB4.size)
    go_wp2
    go_ret2
    exact ZaR (by rw [ByteArray.toList_eq];exact HG.out) hB6
 ·have hs2:=Zau h
  subst hs2
  clear h HW HK hs
  by_cases h0:b=0
  ·have HG:=Qh (app4z HA1.out HB1.out h0)
   have e0:(b==0)=true:=by simp [h0]
   clear h0
   go_wp2
   go_ret2
   exact ZaR (by rw [ByteArray.toList_eq];exact HG.out) hB4
  ·have HF:=Qh (app4 HA1.out HB1.out h0)
   have e0:(b==0)=false:=by simp [h0]
   have hq:=ZjA hai hbi h0
   have HIN:=Qh (λ (Q:World)=>ZbL (a.tmod b) (-1000000) 1000000 Q)
   rw [show (decide (-1000000<=a.tmod b) && decide (a.tmod b<=1000000))=inR (a.tmod b) from rfl] at HIN
   cases hin:inR (a.tmod b)
   ·have HG:Hid (Zah [37] a b=(0,3)):=by show _=_;rw [HF.out,hin];rfl
    rw [hin] at HIN
    clear hin
    go_wp2_with fail
    refine (HIN.out _).mono ?_
    rintro e w6 ⟨rfl,hb6⟩
    have hB6:=hB4.trans (hb6.mono hB4.size)
    go_wp2
    go_ret2
    exact ZaR (by rw [ByteArray.toList_eq];exact HG.out) hB6
   ·have HG:Hid (Zah [37] a b=(a.tmod b,0)):=by show _=_;rw [HF.out,hin];rfl
    rw [hin] at HIN
    clear hin
    go_wp2_with fail
    refine (HIN.out _).mono ?_
    rintro e w6 ⟨rfl,hb6⟩
    have hB6:=hB4.trans (hb6.mono hB4.size)
    go_wp2
    go_ret2
    exact ZaR (by rw [ByteArray.toList_eq];exact HG.out) hB6
 ·have hs2:=Zau h
  subst hs2
  clear h HW HK hs
  have HF:=Qh (app5 HA1.out HB1.out)
  by_cases hq:a=b
  ·skip
   have hop:(decide (a=b))=true:=by simp [hq]
   have e1:(a==b)=true:=by simp [hq]
   have e2:(a != b)=false:=by simp [hq]
   have HT:Hid (Zah [61,61] a b=(1,0)):=by show _=_;rw [HF.out,hop];rfl
   exact Y16A2
  ·skip
   have hop:(decide (a=b))=false:=by simp [hq]
   have e1:(a==b)=false:=by simp [hq]
   have e2:(a != b)=true:=by simp [hq]
   have HT:Hid (Zah [61,61] a b=(0,0)):=by show _=_;rw [HF.out,hop];rfl
   exact Y16A1
 ·have hs2:=Zau h
  subst hs2
  clear h HW HK hs
  have HF:=Qh (app6 HA1.out HB1.out)
  by_cases hq:a=b
  ·skip
   have hop:(decide (a≠b))=false:=by simp [hq]
   have e1:(a==b)=true:=by simp [hq]
   have e2:(a != b)=false:=by simp [hq]
   have HT:Hid (Zah [33,61] a b=(0,0)):=by show _=_;rw [HF.out,hop];rfl
   exact Y16A1
  ·skip
   have hop:(decide (a≠b))=true:=by simp [hq]
   have e1:(a==b)=false:=by simp [hq]
   have e2:(a != b)=true:=by simp [hq]
   have HT:Hid (Zah [33,61] a b=(1,0)):=by show _=_;rw [HF.out,hop];rfl
   exact Y16A2
 ·have hs2:=Zau h
  subst hs2
  clear h HW HK hs
  have HF:=Qh (app7 HA1.out HB1.out)
  by_cases hq:a<b
  ·skip
   have hop:(decide (a<b))=true:=by simp [hq]
   have e1:decide (a<b)=true:=by simp [hq]
   have HT:Hid (Zah [60] a b=(1,0)):=by show _=_;rw [HF.out,hop];rfl
   exact Y16A2
  ·skip
   have hop:(decide (a<b))=false:=by simp [hq]
   have e1:decide (a<b)=false:=by simp [hq]
   have HT:Hid (Zah [60] a b=(0,0)):=by show _=_;rw [HF.out,hop];rfl
   exact Y16A1
 ·have hs2:=Zau h
  subst hs2
  clear h HW HK hs
  have HF:=Qh (app8 HA1.out HB1.out)
  by_cases hq:b<a
  ·skip
   have hop:(decide (b<a))=true:=by simp [hq]
   have e1:decide (b<a)=true:=by simp [hq]
   have HT:Hid (Zah [62] a b=(1,0)):=by show _=_;rw [HF.out,hop];rfl
   exact Y16A2
  ·skip
   have hop:(decide (b<a))=false:=by simp [hq]
   have e1:decide (b<a)=false:=by simp [hq]
   have HT:Hid (Zah [62] a b=(0,0)):=by show _=_;rw [HF.out,hop];rfl
   exact Y16A1
 ·have hs2:=Zau h
  subst hs2
  clear h HW HK hs
  have HF:=Qh (app9 HA1.out HB1.out)
  by_cases hq:a<=b
  ·skip
   have hop:(decide (a<=b))=true:=by simp [hq]
   have e1:decide (a<=b)=true:=by simp [hq]
   have HT:Hid (Zah [60,61] a b=(1,0)):=by show _=_;rw [HF.out,hop];rfl
   exact Y16A2
  ·skip
   have hop:(decide (a<=b))=false:=by simp [hq]
   have e1:decide (a<=b)=false:=by simp [hq]
   have HT:Hid (Zah [60,61] a b=(0,0)):=by show _=_;rw [HF.out,hop];rfl
   exact Y16A1
 ·have hs2:=Zau h
  subst hs2
  clear h HW HK hs
  have HF:=Qh (app10 HA1.out HB1.out)
  by_cases hq:b<=a
  ·skip
   have hop:(decide (b<=a))=true:=by simp [hq]
   have e1:decide (b<=a)=true:=by simp [hq]
   have HT:Hid (Zah [62,61] a b=(1,0)):=by show _=_;rw [HF.out,hop];rfl
   exact Y16A2
  ·skip
   have hop:(decide (b<=a))=false:=by simp [hq]
   have e1:decide (b<=a)=false:=by simp [hq]
   have HT:Hid (Zah [62,61] a b=(0,0)):=by show _=_;rw [HF.out,hop];rfl
   exact Y16A1
 ·have hs2:=Zau h
  subst hs2
  clear h HW HK hs
  have HF:=Qh (app11 HA1.out HB1.out)
  by_cases hq:a=0
  ·by_cases hq2:b=0
   ·skip
    have hop:(decide (a≠0) && decide (b≠0))=false:=by simp [hq,hq2]
    have e1:(a != 0)=false:=by simp [hq]
    have e2:(b != 0)=false:=by simp [hq2]
    have HT:Hid (Zah [38,38] a b=(0,0)):=by show _=_;rw [HF.out,hop];rfl
    exact Y16A1
   ·skip
    have hop:(decide (a≠0) && decide (b≠0))=false:=by simp [hq,hq2]
    have e1:(a != 0)=false:=by simp [hq]
    have e2:(b != 0)=true:=by simp [hq2]
    have HT:Hid (Zah [38,38] a b=(0,0)):=by show _=_;rw [HF.out,hop];rfl
    exact Y16A1
  ·by_cases hq2:b=0
   ·skip
    have hop:(decide (a≠0) && decide (b≠0))=false:=by simp [hq,hq2]
    have e1:(a != 0)=true:=by simp [hq]
    have e2:(b != 0)=false:=by simp [hq2]
    have HT:Hid (Zah [38,38] a b=(0,0)):=by show _=_;rw [HF.out,hop];rfl
    exact Y16A1
   ·skip
    have hop:(decide (a≠0) && decide (b≠0))=true:=by simp [hq,hq2]
    have e1:(a != 0)=true:=by simp [hq]
    have e2:(b != 0)=true:=by simp [hq2]
    have HT:Hid (Zah [38,38] a b=(1,0)):=by show _=_;rw [HF.out,hop];rfl
    exact Y16A2
 ·have hs2:=Zau h
  subst hs2
  clear h HW HK hs
  have HF:=Qh (app12 HA1.out HB1.out)
  by_cases hq:a=0
  ·by_cases hq2:b=0
   ·skip
    have hop:(decide (a≠0) || decide (b≠0))=false:=by simp [hq,hq2]
    have e1:(a != 0)=false:=by simp [hq]
    have e2:(b != 0)=false:=by simp [hq2]
    have HT:Hid (Zah [124,124] a b=(0,0)):=by show _=_;rw [HF.out,hop];rfl
    exact Y16A1
   ·skip
    have hop:(decide (a≠0) || decide (b≠0))=true:=by simp [hq,hq2]
    have e1:(a != 0)=false:=by simp [hq]
    have e2:(b != 0)=true:=by simp [hq2]
    have HT:Hid (Zah [124,124] a b=(1,0)):=by show _=_;rw [HF.out,hop];rfl
    exact Y16A2
  ·by_cases hq2:b=0
   ·skip
    have hop:(decide (a≠0) || decide (b≠0))=true:=by simp [hq,hq2]
    have e1:(a != 0)=true:=by simp [hq]
    have e2:(b != 0)=false:=by simp [hq2]
    have HT:Hid (Zah [124,124] a b=(1,0)):=by show _=_;rw [HF.out,hop];rfl
    exact Y16A2
   ·skip
    have hop:(decide (a≠0) || decide (b≠0))=true:=by simp [hq,hq2]
    have e1:(a != 0)=true:=by simp [hq]
    have e2:(b != 0)=true:=by simp [hq2]
    have HT:Hid (Zah [124,124] a b=(1,0)):=by show _=_;rw [HF.out,hop];rfl
    exact Y16A2
def VOf (r:VRes) (w:World) (e:Ending) (w':World):Prop:=e=.returned (.tuple #[.int .i64 r.1,.int .i64 (r.2.1:Nat),.int .i64 r.2.2])/\Below w.heap.size w w'
theorem vof {r:VRes} {n:Int} {e:Nat} {f:Int} {w w':World} (h:r=(n,e,f)) (hb:Below w.heap.size w w'):VOf r w (.returned (.tuple #[.int .i64 n,.int .i64 (e:Nat),.int .i64 f])) w':=⟨by rw [h],hb⟩
structure VC (l:List Tok) (d:Nat):Prop where
 one:∀ (k:Nat) (r:VRes),k<=l.length->pv l d (.one k)=some r->∀ (v:Value) (fp:List Nat) (w:World),(Zaa sTok).R w [v] l fp->Calls Tryz.prog 104 #[v,.int .i64 k] w (VOf r w)
 marks:∀ (k rank:Nat) (r:VRes),k<=l.length->rank<=7->pv l d (.marks k rank)=some r->∀ (v:Value) (fp:List Nat) (w:World),(Zaa sTok).R w [v] l fp->Calls Tryz.prog 74 #[v,.int .i64 k,.int .i64 rank] w (VOf r w)
 choice:∀ (k:Nat) (r:VRes),k<=l.length->pv l d (.choice k)=some r->∀ (v:Value) (fp:List Nat) (w:World),(Zaa sTok).R w [v] l fp->Calls Tryz.prog 49 #[v,.int .i64 k] w (VOf r w)
theorem Zdk (t:Tok) (c:UInt8):(decide (t.kind=4) && (t.text.toList==[c]))=isMk t [c]:=rfl
theorem Zdl {l:List Tok} {k:Nat} {s:List UInt8} (hk:k<l.length):mkAt l k s=isMk l[k] s:=by unfold mkAt;rw [dif_pos hk]
theorem Zfq {l:List Tok} {k:Nat} {s:List UInt8} (hk:¬ k<l.length):mkAt l k s=false:=by unfold mkAt;rw [dif_neg hk]
theorem one_walk {l:List Tok} {d:Nat} (hl:l.length<=100) (hd:d<=1000) (IH:∀ d',d'<d->VC l d') (k:Nat) (r:VRes) (hk:k<=l.length) (h:pv l d (.one k)=some r) (v:Value) (fp:List Nat) (w:World) (H:(Zaa sTok).R w [v] l fp) :
  Calls Tryz.prog 104 #[v,.int .i64 k] w (VOf r w):=by
 have H0:=Qh H
 obtain⟨al,cl,rfl,hcl,hml,hrow⟩:=Zac H
 unfold maxLen at hml
 clear H
 cases d with
 | zero=>simp [pv] at h
 | succ d =>
 unfold pv at h
 go_enter Tryz.func104,Tryz.ntmps104
 by_cases hlt:k<l.length
 rotate_left
 ·rw [dif_neg hlt] at h
  simp only [Qi] at h
  have HF:=Qh h.symm
  have e1:(l.length:Int)<=(k:Int):=by omega
  clear h hlt hrow
  go_wp2
  go_ret3
  exact vof HF.out (Below.refl _ _)
 rw [dif_pos hlt] at h
 obtain⟨b1,o1,-,rfl,-,-,-⟩:=hrow (by omega)
 obtain⟨xa,xc,xf,x0,x1,x2,x3,xR,hbb,-⟩:=ZaB H0.out hlt
 obtain⟨tk,HTK⟩:∃ tk:Tok,Hid (tk=l[k]):=⟨_,Qh rfl⟩
 rw [show l[k]=tk from HTK.out.symm] at x0 x1 x2 x3 xR h
 have HH:=Qh h
 have bx:=Zab w (.cells #[.int .i64 tk.kind,.string tk.text,.bool tk.spaced,.slice xa tk.hidden.length xc] 32)
 have HX:=Qh (heap_alloc_new w (.cells #[.int .i64 tk.kind,.string tk.text,.bool tk.spaced,.slice xa tk.hidden.length xc] 32))
 have HL1:=Qh ((Zaa sTok).below H0.out bx)
 have HR1:=Qh (sTok.below xR bx)
 have e1:¬ (l.length:Int)<=(k:Int):=by omega
 have i0:(0:Int)<=(k:Int):=by omega
 have i1:(k:Int)<(l.length:Int):=by omega
 have hkw:IntKind.i64.wrap ((k:Int)+1)=((k+1:Nat):Int):=by rw [IntWalk.i64_in _ (by omega)];omega
 have hok:okStr tk.text:=xR.choose_spec.2.2.1
 have HOK:=Qh hok
 clear hrow xR h hbb hok
 go_upto_region 4 with fail
 clear x0 x1 x2 x3 e1
 generalize (w.alloc (.cells #[.int .i64 tk.kind,.string tk.text,.bool tk.spaced,.slice xa tk.hidden.length xc] 32))=W1 at *
 have HIS:=Qh (λ (Q:World) (hQ:Below W1.heap.size W1 Q) (c:UInt8)=>Zdu _ tk xf Q c (sTok.below HR1.out hQ))
 obtain⟨q0,q1,q2,q3⟩:=Q4 HX.out
 have Ha:=HIS.out W1 (Below.refl _ _) 33
 rw [Zdk] at Ha
 have Hah:=Qh Ha
 clear Ha
 cases ha:isMk tk [33]
 rotate_left
 ·skip
  rw [ha] at Hah
  go_wp2_with fail
  refine Hah.out.mono ?_
  rintro e w2 ⟨rfl,hbw2⟩
  have hQw2:=hbw2
  clear Hah q0 q1 q2 q3
  have HXw2:=Qh (mbox HX.out hQw2)
  have h9:=HH.out
  rw [if_pos ha] at h9
  obtain⟨a,ha1,ha2⟩:=bind_some h9
  simp only [Qi] at ha2
  have HF:=Qh ha2.symm
  have HC:=Qh ((IH d (by omega)).one (k+1) a hlt ha1 _ fp w2 ((Zaa sTok).below HL1.out hQw2))
  clear h9 ha1 ha2 ha HH
  unfold VOf at HC
  go_wp2_with fail
  refine HC.out.mono ?_
  rintro e w3 ⟨rfl,hb3⟩
  have hB3:=bx.trans ((hQw2.trans (hb3.mono hQw2.size)).mono bx.size)
  clear HC
  obtain⟨n,en,ft⟩:=a
  by_cases hn:n=0
  ·have e0:(n==0)=true:=by simp [hn]
   have HG:Hid (r=(bit1 true,en,ft)):=by show _=_;rw [HF.out];simp [hn]
   clear HF hn
   go_wp2_with fail
   refine (Zbd true _).mono ?_
   rintro e w4 ⟨rfl,rfl⟩
   go_wp2
   go_ret3
   exact vof HG.out hB3
  ·have e0:(n==0)=false:=by simp [hn]
   have HG:Hid (r=(bit1 false,en,ft)):=by show _=_;rw [HF.out];simp [hn]
   clear HF hn
   go_wp2_with fail
   refine (Zbd false _).mono ?_
   rintro e w4 ⟨rfl,rfl⟩
   go_wp2
   go_ret3
   exact vof HG.out hB3
 rw [ha] at Hah
 go_wp2_with fail
 refine Hah.out.mono ?_
 rintro e w2 ⟨rfl,hbw2⟩
 have hQw2:=hbw2
 clear Hah q0 q1 q2 q3
 have HXw2:=Qh (mbox HX.out hQw2)
 obtain⟨q0,q1,q2,q3⟩:=Q4 HXw2.out
 have Hb:=HIS.out w2 (hQw2) 45
 rw [Zdk] at Hb
 have Hbh:=Qh Hb
 clear Hb
 cases hb:isMk tk [45]
 rotate_left
 ·skip
  rw [hb] at Hbh
  go_wp2_with fail
  refine Hbh.out.mono ?_
  rintro e w3 ⟨rfl,hbw3⟩
  have hQw3:=hQw2.trans (hbw3.mono hQw2.size)
  clear Hbh q0 q1 q2 q3
  have HXw3:=Qh (mbox HX.out hQw3)
  have h9:=HH.out
  rw [if_neg (by rw [ha];simp),if_pos hb] at h9
  obtain⟨a,ha1,ha2⟩:=bind_some h9
  simp only [Qi] at ha2
  have HF:=Qh ha2.symm
  have HFN:=ZbD l d _ _ (show okQ l (.one (k+1)) from hlt) ha1
  have hin:=inR_iff.1 HFN.1
  have HC:=Qh ((IH d (by omega)).one (k+1) a hlt ha1 _ fp w3 ((Zaa sTok).below HL1.out hQw3))
  clear h9 ha1 ha2 ha hb HH HFN
  unfold VOf at HC
  go_wp2_with fail
  refine HC.out.mono ?_
  rintro e w4 ⟨rfl,hb4⟩
  have hB4:=bx.trans ((hQw3.trans (hb4.mono hQw3.size)).mono bx.size)
  clear HC
  obtain⟨n,en,ft⟩:=a
  have hin2:-1000000<=n/\n<=1000000:=hin
  have hng:IntKind.i64.wrap (-n)=-n:=IntWalk.i64_in _ (by omega)
  clear hin
  go_wp2
  go_ret3
  exact vof HF.out hB4
 rw [hb] at Hbh
 go_wp2_with fail
 refine Hbh.out.mono ?_
 rintro e w3 ⟨rfl,hbw3⟩
 have hQw3:=hQw2.trans (hbw3.mono hQw2.size)
 clear Hbh q0 q1 q2 q3
 have HXw3:=Qh (mbox HX.out hQw3)
 obtain⟨q0,q1,q2,q3⟩:=Q4 HXw3.out
 have Hc:=HIS.out w3 (hQw3) 40
 rw [Zdk] at Hc
 have Hch:=Qh Hc
 clear Hc
 cases hc:isMk tk [40]
 rotate_left
 ·skip
  rw [hc] at Hch
  go_wp2_with fail
  refine Hch.out.mono ?_
  rintro e w4 ⟨rfl,hbw4⟩
  have hQw4:=hQw3.trans (hbw4.mono hQw3.size)
  clear Hch q0 q1 q2 q3
  have HXw4:=Qh (mbox HX.out hQw4)
  have h9:=HH.out
  rw [if_neg (by rw [ha];simp),if_neg (by rw [hb];simp),if_pos hc] at h9
  obtain⟨a,ha1,ha2⟩:=bind_some h9
  simp only [Qi] at ha2
  have HF:=Qh ha2.symm
  have HFN:=ZbD l d _ _ (show okQ l (.choice (k+1)) from hlt) ha1
  have HC:=Qh ((IH d (by omega)).choice (k+1) a hlt ha1 _ fp w4 ((Zaa sTok).below HL1.out hQw4))
  clear h9 ha1 ha2 ha hb hc HH
  unfold VOf at HC
  obtain⟨n,en,ft⟩:=a
  obtain⟨-,f2,f3,f4,f5⟩:=HFN
  have f2':en<=l.length+d:=f2
  have f3':ft=0->en<=l.length:=λ h=>(f3 h).1
  have hew:IntKind.i64.wrap ((en:Int)+1)=((en+1:Nat):Int):=by rw [IntWalk.i64_in _ (by omega)];omega
  clear f2 f3 f4 f5
  try dsimp only at HF HC
  go_wp2_with fail
  refine HC.out.mono ?_
  rintro e w5 ⟨rfl,hb5⟩
  have hQ5:=hQw4.trans (hb5.mono hQw4.size)
  have hB5:=bx.trans (hQ5.mono bx.size)
  clear HC
  by_cases hft:ft=0
  rotate_left
  ·have e0:(ft==0)=false:=by simp [hft]
   have HG:Hid (r=(n,en+1,ft)):=by show _=_;rw [HF.out,if_neg (λ h=>hft h.1)]
   clear HF hft
   go_wp2
   go_ret3
   exact vof HG.out hB5
  subst hft
  have e0:((0:Int)==0)=true:=rfl
  by_cases hel:en<l.length
  rotate_left
  ·have HG:Hid (r=(n,en+1,1)):=by show _=_;rw [HF.out,if_pos ⟨rfl,Zfq hel⟩]
   have e2:(l.length:Int)<=(en:Int):=by omega
   clear HF hel
   go_wp2
   go_ret3
   exact vof HG.out hB5
  have HL5:=Qh ((Zaa sTok).below HL1.out hQ5)
  obtain⟨ya,yc,yf,y0,y1,y2,y3,yR,-,-⟩:=ZaB HL5.out hel
  have e2:¬ (l.length:Int)<=(en:Int):=by omega
  have j0:(0:Int)<=(en:Int):=by omega
  have j1:(en:Int)<(l.length:Int):=by omega
  have HM:=Zdu _ l[en] yf w5 41 yR
  rw [Zdk,← Zdl hel] at HM
  have HMH:=Qh HM
  clear HM yR
  cases hm:mkAt l en [41]
  ·rw [hm] at HMH
   have HG:Hid (r=(n,en+1,1)):=by show _=_;rw [HF.out,if_pos ⟨rfl,hm⟩]
   clear HF hm
   go_wp2_with fail
   refine HMH.out.mono ?_
   rintro e w6 ⟨rfl,hb6⟩
   go_wp2
   go_ret3
   exact vof HG.out (hB5.trans (hb6.mono hB5.size))
  ·rw [hm] at HMH
   have HG:Hid (r=(n,en+1,0)):=by show _=_;rw [HF.out,if_neg (λ h=>by rw [hm] at h;exact absurd h.2 (by simp))]
   clear HF hm
   go_wp2_with fail
   refine HMH.out.mono ?_
   rintro e w6 ⟨rfl,hb6⟩
   go_wp2
   go_ret3
   exact vof HG.out (hB5.trans (hb6.mono hB5.size))
 rw [hc] at Hch
 go_wp2_with fail
 refine Hch.out.mono ?_
 rintro e w4 ⟨rfl,hbw4⟩
 have hQw4:=hQw3.trans (hbw4.mono hQw3.size)
 clear Hch q0 q1 q2 q3
 have HXw4:=Qh (mbox HX.out hQw4)
 obtain⟨q0,q1,q2,q3⟩:=Q4 HXw4.out
 have hB4:=bx.trans (hQw4.mono bx.size)
 have h9:=HH.out
 rw [if_neg (by rw [ha];simp),if_neg (by rw [hb];simp),if_neg (by rw [hc];simp)] at h9
 clear ha hb hc HH
 by_cases hk1:tk.kind=1
 ·rw [if_pos hk1] at h9
  simp only [Qi] at h9
  have HF:=Qh h9.symm
  have e2:(tk.kind==1)=true:=by simp [hk1]
  clear h9 hk1
  go_wp2
  go_ret3
  exact vof HF.out hB4
 rw [if_neg hk1] at h9
 have e2:(tk.kind==1)=false:=by simp [hk1]
 clear hk1
 have HNU:=Qh (λ (Q:World)=>ZjJ tk.text Q HOK.out)
 obtain⟨nu,HNN⟩:∃ nu:Int,Hid (nu=Zax tk.text.toList):=⟨_,Qh rfl⟩
 rw [show Zax tk.text.toList=nu from HNN.out.symm] at HNU h9
 by_cases hk2:tk.kind=2
 rotate_left
 ·rw [if_neg (λ h=>hk2 h.1)] at h9
  simp only [Qi] at h9
  have HF:=Qh h9.symm
  have e3:(tk.kind==2)=false:=by simp [hk2]
  clear h9 hk2
  go_wp2
  go_ret3
  exact vof HF.out hB4
 have e3:(tk.kind==2)=true:=by simp [hk2]
 go_wp2_with fail
 refine (HNU.out _).mono ?_
 rintro e w5 ⟨rfl,hb5⟩
 have hQ5:=hQw4.trans (hb5.mono hQw4.size)
 have hB5:=bx.trans (hQ5.mono bx.size)
 clear q0 q1 q2 q3
 have HX5:=Qh (mbox HX.out hQ5)
 have q1:=Qc 1 HX5.out
 by_cases hnu:0<=nu
 rotate_left
 ·rw [if_neg (λ h=>hnu h.2)] at h9
  simp only [Qi] at h9
  have HF:=Qh h9.symm
  clear h9 hk2
  go_wp2
  go_ret3
  exact vof HF.out hB5
 rw [if_pos ⟨hk2,hnu⟩] at h9
 simp only [Qi] at h9
 have HF:=Qh h9.symm
 clear h9 hk2
 go_wp2_with fail
 refine (HNU.out _).mono ?_
 rintro e w6 ⟨rfl,hb6⟩
 go_wp2
 go_ret3
 exact vof HF.out (hB5.trans (hb6.mono hB5.size))
end Go.Proofs.YtipfpppcbmpjiaaGreat
