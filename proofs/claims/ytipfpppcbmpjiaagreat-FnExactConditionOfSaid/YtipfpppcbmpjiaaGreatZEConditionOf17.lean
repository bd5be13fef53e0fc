/- Texts that the proof of EConditionOf stands on, in one file. -/
import Derived.Test.YtipfpppcbmpjiaaGreatZEConditionOf16
set_option linter.unusedVariables false
set_option maxHeartbeats 16000000
set_option maxRecDepth 100000
set_option linter.unusedSimpArgs false
/- Of the model: values with marks between, choices, ValueOf. -/
namespace Go.Proofs.YtipfpppcbmpjiaaGreat
open Go.RowKit
theorem rankM_le (t:Tok):rankM t<=6:=by
 unfold rankM rankT
 split
 ·repeat' split
  all_goals omega
 ·omega
theorem ZkJ {l:List Tok} {d rank e:Nat} {n f:Int} {r:VRes} (h:pv l d (.more rank n e f)=some r) (hf:¬ (f=0/\e<l.length)):r=(n,e,f):=by
 cases d with
 | zero=>simp [pv] at h
 |
  succ d =>
  unfold pv at h
  rw [dif_neg hf] at h
  simpa using h.symm
theorem Zmy {l:List Tok} {d:Nat} (hl:l.length<=100) (hd:d<=1000) (IH:∀ d',d'<d->VC l d') (k rank:Nat) (r:VRes) (hk:k<=l.length) (hr7:rank<=7) (h:pv l d (.marks k rank)=some r) (v:Value) (fp:List Nat) (w:World) (H:(Zaa sTok).R w [v] l fp) :
  Calls Tryz.prog 74 #[v,.int .i64 k,.int .i64 rank] w (VOf r w):=by
 have H0:=Qh H
 obtain⟨al,cl,rfl,hcl,hml,hrow⟩:=Zac H
 unfold maxLen at hml
 have HROW:Hid (0<l.length->∃ bb ob,al=some ⟨bb,ob,none⟩):=λ h=>by obtain⟨b,o,-,e,-⟩:=hrow h;exact⟨b,o,e⟩
 clear H hrow
 cases d with
 | zero=>simp [pv] at h
 | succ d =>
 unfold pv at h
 obtain⟨a,ha1,ha2⟩:=bind_some h
 have HFN:=ZbD l d _ _ (show okQ l (.one k) from hk) ha1
 have HC:=Qh ((IH d (by omega)).one k a hk ha1 _ fp w H0.out)
 unfold VOf at HC
 obtain⟨n0,e0,f0⟩:=a
 have HM:=Qh ha2
 have HG0:Hid (f0=0->e0<=l.length/\inR n0=true):=λ h=>⟨(HFN.2.2.1 h).1,HFN.1⟩
 try dsimp only at HC HM
 clear h ha1 ha2 HFN
 go_enter Tryz.func74,Tryz.ntmps74
 go_wp2_with fail
 refine HC.out.mono ?_
 rintro e w1 ⟨rfl,hb1⟩
 clear HC
 go_wp2
 go_loopw [9,10,11] (λ vn ve vf wr=>∃ (d' e:Nat) (n f:Int),d'<=d/\vn=.int .i64 n/\ve=.int .i64 e/\vf=.int .i64 f/\Hid (pv l d' (.more rank n e f)=some r)/\Hid (f=0->e<=l.length/\inR n=true)/\Below w.heap.size w wr) (λ _ ve _ _=>l.length-(intOf ve).toNat)
 case atStart=>exact⟨d,e0,n0,f0,Nat.le_refl _,rfl,rfl,rfl,HM.out,HG0.out,hb1⟩
 case round =>
  clear HM HG0 hb1
  obtain⟨d',e,n,f,hd',rfl,rfl,rfl,HP,HG,hb⟩:=hrel
  by_cases hf:f=0
  rotate_left
  ·have HF:=Qh (Zd2 HP.out hf)
   have g1:(f==0)=false:=by simp [hf]
   clear hf
   go_wp2
   go_ret3
   exact vof HF.out hb
  subst hf
  obtain⟨hel,hin⟩:=HG.out rfl
  by_cases hlt:e<l.length
  rotate_left
  ·have HF:=Qh (ZkJ HP.out (λ h=>hlt h.2))
   have g1:¬ (e:Int)<(l.length:Int):=by omega
   clear hlt
   go_wp2
   go_ret3
   exact vof HF.out hb
  cases d' with
  | zero=>have:=HP.out;simp [pv] at this
  | succ d' =>
  have hp:=HP.out
  unfold pv at hp
  rw [dif_pos ⟨rfl,hlt⟩] at hp
  obtain⟨b1,o1,rfl⟩:=HROW.out (by omega)
  obtain⟨xa,xc,xf,x0,x1,x2,x3,xR,hbb,-⟩:=ZaB H0.out hlt
  obtain⟨tk,HTK⟩:∃ tk:Tok,Hid (tk=l[e]):=⟨_,Qh rfl⟩
  rw [show l[e]=tk from HTK.out.symm] at x0 x1 x2 x3 xR hp
  replace x0:=(hb.cell (p:=⟨b1,o1+e * 4,none⟩) hbb).trans x0
  have hx1:=x1
  replace x1:=(hb.cell (p:=⟨b1,o1+e * 4+1,none⟩) hbb).trans x1
  replace x2:=(hb.cell (p:=⟨b1,o1+e * 4+2,none⟩) hbb).trans x2
  replace x3:=(hb.cell (p:=⟨b1,o1+e * 4+3,none⟩) hbb).trans x3
  have HX1:Hid (∀ Q:World,Below w.heap.size w Q->Q.cell? ⟨b1,o1+e * 4+1,none⟩=some (.string tk.text)):=λ Q hQ=>(hQ.cell (p:=⟨b1,o1+e * 4+1,none⟩) hbb).trans hx1
  have HRK:=Qh (Zgh _ tk xf wr (sTok.below xR hb))
  have HOK:Hid (okStr tk.text):=xR.choose_spec.2.2.1
  have hr6:=rankM_le tk
  obtain⟨rk,HK⟩:∃ rk:Nat,Hid (rk=rankM tk):=⟨_,Qh rfl⟩
  rw [show rankM tk=rk from HK.out.symm] at HRK hp hr6
  have i0:(0:Int)<=(e:Int):=by omega
  have i1:(e:Int)<(l.length:Int):=by omega
  have HPP:=Qh hp
  clear hx1 xR hp hbb
  go_wp2_with fail
  refine HRK.out.mono ?_
  rintro ee w2 ⟨rfl,hb2⟩
  have hB2:=hb.trans (hb2.mono hb.size)
  clear x0 x1 x2 x3 HRK
  by_cases hlr:rk<rank
  ·have h9:=HPP.out
   rw [if_pos hlr] at h9
   simp only [Qi] at h9
   have HF:=Qh h9.symm
   have g1:(rk:Int)<(rank:Int):=by omega
   clear h9 hlr
   go_wp2
   go_ret3
   exact vof HF.out hB2
  have h9:=HPP.out
  rw [if_neg hlr] at h9
  have g1:¬ (rk:Int)<(rank:Int):=by omega
  obtain⟨a,ha1,ha2⟩:=bind_some h9
  have HFN:=ZbD l d' _ _ (show okQ l (.marks (e+1) (rk+1)) from hlt) ha1
  have HC:=Qh ((IH d' (by omega)).marks (e+1) (rk+1) a hlt (by omega) ha1 _ fp w2 ((Zaa sTok).below H0.out hB2))
  unfold VOf at HC
  obtain⟨m,nx,o⟩:=a
  have HA2:=Qh ha2
  obtain⟨f1,-,f3,-,-⟩:=HFN
  have HNX:Hid (o=0->nx<=l.length/\e+1<nx):=λ h=>⟨(f3 h).1,((f3 h).2.2).resolve_left (λ h=>h)⟩
  have hm1:inR m=true:=f1
  have w1':IntKind.i64.wrap ((e:Int)+1)=((e+1:Nat):Int):=by rw [IntWalk.i64_in _ (by omega)];omega
  have w2':IntKind.i64.wrap ((rk:Int)+1)=((rk+1:Nat):Int):=by rw [IntWalk.i64_in _ (by omega)];omega
  try dsimp only at HC HA2
  clear h9 ha1 ha2 f1 f3 hlr HPP
  go_wp2_with fail
  refine HC.out.mono ?_
  rintro ee w3 ⟨rfl,hb3⟩
  have hB3:=hB2.trans (hb3.mono hB2.size)
  clear HC w1' w2'
  by_cases ho:o=0
  rotate_left
  ·have h8:=HA2.out
   rw [if_pos ho] at h8
   simp only [Qi] at h8
   have HF:=Qh h8.symm
   have g2:(o != 0)=true:=by simp [ho]
   clear h8 ho
   go_wp2
   go_ret3
   exact vof HF.out hB3
  subst ho
  have h8:=HA2.out
  rw [if_neg (by simp)] at h8
  have HPN:=Qh h8
  have y1:=HX1.out w3 hB3
  have hni:=inR_iff.1 hin
  have hmi:=inR_iff.1 hm1
  have HAP:=Qh (ZiK tk.text n m w3 HOK.out (by unfold okInt;omega) (by unfold okInt;omega))
  unfold AppOf at HAP
  have HAI:=Qh (Zen tk.text.toList n m)
  obtain⟨hnx1,hnx2⟩:=HNX.out rfl
  rcases hap:Zah tk.text.toList n m with⟨x,wf⟩
  rw [hap] at HAP HPN HAI
  try dsimp only at HAP HPN HAI
  clear h8 hap HA2 HNX
  go_wp2_with fail
  refine HAP.out.mono ?_
  rintro ee w4 ⟨rfl,hb4⟩
  have hB4:=hB3.trans (hb4.mono hB3.size)
  have HG4:Hid (wf=0->nx<=l.length/\inR x=true):=λ _=>⟨hnx1,HAI.out.1⟩
  clear HAP y1
  go_wp2
  go_roundw
  case rel=>exact⟨d',nx,x,wf,by omega,rfl,rfl,rfl,HPN.out,HG4.out,hB4⟩
  case measure=>simp [intOf];omega
theorem Zln {l:List Tok} {d:Nat} (hl:l.length<=100) (hd:d<=1000) (IH:∀ d',d'<d->VC l d') (k:Nat) (r:VRes) (hk:k<=l.length) (h:pv l d (.choice k)=some r) (v:Value) (fp:List Nat) (w:World) (H:(Zaa sTok).R w [v] l fp) :
  Calls Tryz.prog 49 #[v,.int .i64 k] w (VOf r w):=by
 have H0:=Qh H
 obtain⟨al,cl,rfl,hcl,hml,hrow⟩:=Zac H
 unfold maxLen at hml
 have HROW:Hid (0<l.length->∃ bb ob,al=some ⟨bb,ob,none⟩):=λ h=>by obtain⟨b,o,-,e,-⟩:=hrow h;exact⟨b,o,e⟩
 clear H hrow
 cases d with
 | zero=>simp [pv] at h
 | succ d =>
 unfold pv at h
 obtain⟨a,ha1,ha2⟩:=bind_some h
 have HFN:=ZbD l d _ _ (show okQ l (.marks k 1) from hk) ha1
 have HC:=Qh ((IH d (by omega)).marks k 1 a hk (by omega) ha1 _ fp w H0.out)
 unfold VOf at HC
 obtain⟨n,en,ft⟩:=a
 have HM:=Qh ha2
 have HEN:Hid (ft=0->en<=l.length):=λ h=>(HFN.2.2.1 h).1
 try dsimp only at HC HM
 rw [show ((1:Nat):Int)=1 from rfl] at HC
 clear h ha1 ha2 HFN
 go_enter Tryz.func49,Tryz.ntmps49
 go_wp2_with fail
 refine HC.out.mono ?_
 rintro e w1 ⟨rfl,hb1⟩
 clear HC
 by_cases hf:ft=0
 rotate_left
 ·have h9:=HM.out
  rw [if_neg (λ h=>hf h.1)] at h9
  simp only [Qi] at h9
  have HF:=Qh h9.symm
  have g1:(ft != 0)=true:=by simp [hf]
  clear h9 hf
  go_wp2
  go_ret3
  exact vof HF.out hb1
 subst hf
 have hel:=HEN.out rfl
 by_cases hlt:en<l.length
 rotate_left
 ·have h9:=HM.out
  rw [if_neg (λ h=>by rw [Zfq hlt] at h;exact absurd h.2 (by simp))] at h9
  simp only [Qi] at h9
  have HF:=Qh h9.symm
  have g1:(l.length:Int)<=(en:Int):=by omega
  clear h9 hlt
  go_wp2
  go_ret3
  exact vof HF.out hb1
 obtain⟨b1,o1,rfl⟩:=HROW.out (by omega)
 have HL1:=Qh ((Zaa sTok).below H0.out hb1)
 obtain⟨xa,xc,xf,x0,x1,x2,x3,xR,-,-⟩:=ZaB HL1.out hlt
 have HQ:=Zdu _ l[en] xf w1 63 xR
 rw [Zdk,← Zdl hlt] at HQ
 have HQH:=Qh HQ
 have g1:¬ (l.length:Int)<=(en:Int):=by omega
 have i0:(0:Int)<=(en:Int):=by omega
 have i1:(en:Int)<(l.length:Int):=by omega
 clear HQ xR
 cases hq:mkAt l en [63]
 ·have h9:=HM.out
  rw [if_neg (λ h=>by rw [hq] at h;exact absurd h.2 (by simp))] at h9
  simp only [Qi] at h9
  have HF:=Qh h9.symm
  rw [hq] at HQH
  clear h9 hq
  go_wp2_with fail
  refine HQH.out.mono ?_
  rintro e w2 ⟨rfl,hb2⟩
  go_wp2
  go_ret3
  exact vof HF.out (hb1.trans (hb2.mono hb1.size))
 have h9:=HM.out
 rw [if_pos ⟨rfl,hq⟩] at h9
 rw [hq] at HQH
 obtain⟨a,ha1,ha2⟩:=bind_some h9
 have HFN:=ZbD l d _ _ (show okQ l (.choice (en+1)) from hlt) ha1
 have HCA:=Qh (λ (Q:World) (hQ:Below w.heap.size w Q)=>(IH d (by omega)).choice (en+1) a hlt ha1 _ fp Q ((Zaa sTok).below H0.out hQ))
 unfold VOf at HCA
 obtain⟨na,ea,fa⟩:=a
 have HA2:=Qh ha2
 have HEA:Hid (fa=0->ea<=l.length):=λ h=>(HFN.2.2.1 h).1
 have w1':IntKind.i64.wrap ((en:Int)+1)=((en+1:Nat):Int):=by rw [IntWalk.i64_in _ (by omega)];omega
 try dsimp only at HCA HA2
 clear h9 ha1 ha2 HFN hq HM
 go_wp2_with fail
 refine HQH.out.mono ?_
 rintro e w2 ⟨rfl,hb2⟩
 have hB2:=hb1.trans (hb2.mono hb1.size)
 clear x0 x1 x2 x3 HQH
 go_wp2_with fail
 refine (HCA.out _ hB2).mono ?_
 rintro e w3 ⟨rfl,hb3⟩
 have hB3:=hB2.trans (hb3.mono hB2.size)
 clear HCA w1'
 by_cases hfa:fa=0
 rotate_left
 ·have h9:=HA2.out
  rw [if_pos hfa] at h9
  simp only [Qi] at h9
  have HF:=Qh h9.symm
  have g2:(fa != 0)=true:=by simp [hfa]
  clear h9 hfa
  go_wp2
  go_ret3
  exact vof HF.out hB3
 subst hfa
 have hea:=HEA.out rfl
 have h8:=HA2.out
 rw [if_neg (by simp)] at h8
 by_cases hla:ea<l.length
 rotate_left
 ·rw [if_neg (by rw [Zfq hla];simp)] at h8
  simp only [Qi] at h8
  have HF:=Qh h8.symm
  have g2:(l.length:Int)<=(ea:Int):=by omega
  clear h8 hla
  go_wp2
  go_ret3
  exact vof HF.out hB3
 have HL3:=Qh ((Zaa sTok).below H0.out hB3)
 obtain⟨ya,yc,yf,y0,y1,y2,y3,yR,-,-⟩:=ZaB HL3.out hla
 have HQ2:=Zdu _ l[ea] yf w3 58 yR
 rw [Zdk,← Zdl hla] at HQ2
 have HQH:=Qh HQ2
 have g2:¬ (l.length:Int)<=(ea:Int):=by omega
 have j0:(0:Int)<=(ea:Int):=by omega
 have j1:(ea:Int)<(l.length:Int):=by omega
 clear HQ2 yR
 cases hq:mkAt l ea [58]
 ·rw [if_neg (by rw [hq];simp)] at h8
  simp only [Qi] at h8
  have HF:=Qh h8.symm
  rw [hq] at HQH
  clear h8 hq
  go_wp2_with fail
  refine HQH.out.mono ?_
  rintro e w4 ⟨rfl,hb4⟩
  go_wp2
  go_ret3
  exact vof HF.out (hB3.trans (hb4.mono hB3.size))
 rw [if_pos hq] at h8
 rw [hq] at HQH
 obtain⟨b,hb1',hb2'⟩:=bind_some h8
 have HCB:=Qh (λ (Q:World) (hQ:Below w.heap.size w Q)=>(IH d (by omega)).choice (ea+1) b hla hb1' _ fp Q ((Zaa sTok).below H0.out hQ))
 unfold VOf at HCB
 obtain⟨nb,eb,fb⟩:=b
 simp only [Qi] at hb2'
 have HF:=Qh hb2'.symm
 have w2':IntKind.i64.wrap ((ea:Int)+1)=((ea+1:Nat):Int):=by rw [IntWalk.i64_in _ (by omega)];omega
 try dsimp only at HCB HF
 clear h8 hb1' hb2' hq HA2
 go_wp2_with fail
 refine HQH.out.mono ?_
 rintro e w4 ⟨rfl,hb4⟩
 have hB4:=hB3.trans (hb4.mono hB3.size)
 clear y0 y1 y2 y3 HQH
 go_wp2_with fail
 refine (HCB.out _ hB4).mono ?_
 rintro e w5 ⟨rfl,hb5⟩
 have hB5:=hB4.trans (hb5.mono hB4.size)
 clear HCB w2'
 by_cases hn:n=0
 ·have HG:Hid (r=(nb,eb,fb)):=by show _=_;rw [HF.out,if_neg (by simp [hn])]
  have g3:(n != 0)=false:=by simp [hn]
  clear HF hn
  go_wp2
  go_ret3
  exact vof HG.out hB5
 ·have HG:Hid (r=(na,eb,fb)):=by show _=_;rw [HF.out,if_pos hn]
  have g3:(n != 0)=true:=by simp [hn]
  clear HF hn
  go_wp2
  go_ret3
  exact vof HG.out hB5
theorem spec_VC {l:List Tok} (hl:l.length<=100):∀ d,d<=1000->VC l d:=by
 intro d
 induction d using Nat.strongRecOn with
 |
  ind d ih =>
  intro hd
  have IH:∀ d',d'<d->VC l d':=λ d' h=>ih d' h (by omega)
  exact⟨λ k r h1 h2 v fp w H=>one_walk hl hd IH k r h1 h2 v fp w H,λ k rank r h1 h3 h2 v fp w H=>Zmy hl hd IH k rank r h1 h3 h2 v fp w H,λ k r h1 h2 v fp w H=>Zln hl hd IH k r h1 h2 v fp w H⟩
theorem Zl2 {l:List Tok} (h:Zaj l=false):Zba l=(0,1):=by unfold Zba;rw [h];rfl
theorem val_go {l:List Tok} {n:Int} {e:Nat} {f:Int} (h:Zaj l=true) (hp:pv l (4 * l.length+4) (.choice 0)=some (n,e,f)):Zba l=if f≠0 then (0,f) else if e≠l.length then (0,1) else (n,0):=by
 unfold Zba;rw [if_pos h,hp]
def ValOf (r:Int × Int) (w:World) (e:Ending) (w':World):Prop:=e=.returned (.tuple #[.int .i64 r.1,.int .i64 r.2])/\Below w.heap.size w w'
theorem ZcN {r:Int × Int} {n c:Int} {w w':World} (h:r=(n,c)) (hb:Below w.heap.size w w'):ValOf r w (.returned (.tuple #[.int .i64 n,.int .i64 c])) w':=⟨by rw [h],hb⟩
theorem ZkK (v:Value) (l:List Tok) (fp:List Nat) (w:World) (H:(Zaa sTok).R w [v] l fp):Calls Tryz.prog 21 #[v] w (ValOf (Zba l) w):=by
 have H0:=Qh H
 have HV:=Qh (Zbf v l fp w H)
 obtain⟨al,cl,rfl,hcl,hml,-⟩:=Zac H
 unfold maxLen at hml
 clear H
 go_enter Tryz.func21,Tryz.ntmps21
 cases hv:Zaj l
 ·have HF:=Qh (Zl2 hv)
  rw [hv] at HV
  clear hv
  go_wp2_with fail
  refine HV.out.mono ?_
  rintro e w2 ⟨rfl,hb2⟩
  go_wp2
  go_ret2
  exact ZcN HF.out hb2
 have hl60:=(Zan hv).1
 obtain⟨⟨n,e,f⟩,hp⟩:=Zkb l (4 * l.length+4) (.choice 0) (Nat.zero_le _) (by show 4 * (l.length-0)+4<=_;omega)
 have HGO:=Qh (val_go hv hp)
 have HFN:=ZbD l _ _ _ (show okQ l (.choice 0) from Nat.zero_le _) hp
 have HC:=Qh (λ (Q:World) (hQ:Below w.heap.size w Q)=>(spec_VC (l:=l) (by omega) (4 * l.length+4) (by omega)).choice 0 _ (Nat.zero_le _) hp _ fp Q ((Zaa sTok).below H0.out hQ))
 unfold VOf at HC
 try dsimp only at HC
 rw [show ((0:Nat):Int)=0 from rfl] at HC
 rw [hv] at HV
 clear hv hp HFN
 go_wp2_with fail
 refine HV.out.mono ?_
 rintro ee w2 ⟨rfl,hb2⟩
 go_wp2_with fail
 refine (HC.out _ hb2).mono ?_
 rintro ee w3 ⟨rfl,hb3⟩
 have hB3:=hb2.trans (hb3.mono hb2.size)
 clear HV HC
 by_cases hf:f=0
 rotate_left
 ·have HF:Hid (Zba l=(0,f)):=by show _=_;rw [HGO.out,if_pos hf]
  have g1:(f != 0)=true:=by simp [hf]
  clear hf
  go_wp2
  go_ret2
  exact ZcN HF.out hB3
 subst hf
 by_cases he:e=l.length
 ·have HF:Hid (Zba l=(n,0)):=by show _=_;rw [HGO.out,if_neg (by simp),if_neg (by simp [he])]
  have g1:((e:Int) != (l.length:Int))=false:=by simp [he]
  clear he
  go_wp2
  go_ret2
  exact ZcN HF.out hB3
 ·have HF:Hid (Zba l=(0,1)):=by show _=_;rw [HGO.out,if_neg (by simp),if_pos he]
  have g1:((e:Int) != (l.length:Int))=true:=by simp;omega
  clear he
  go_wp2
  go_ret2
  exact ZcN HF.out hB3
def ZeX (T:List DMacro) (l:List Tok) (w:World) (e:Ending) (w':World):Prop:=e=.returned (.tuple #[.bool (condRes T l).1,.bool (condRes T l).2])/\Below w.heap.size w w'
theorem ZcG {T:List DMacro} {l:List Tok} {a b:Bool} {w w':World} (h:condRes T l=(a,b)) (hb:Below w.heap.size w w'):ZeX T l w (.returned (.tuple #[.bool a,.bool b])) w':=⟨by rw [h],hb⟩
theorem Zlo {T:List DMacro} {l x:List Tok} (h:ZaN T l=(x,true)):Zaj x=true:=by
 unfold ZaN at h
 split at h
 ·rename_i hv
  have:=Zm6 (T:=T) hv.2
  rw [h] at this
  exact this
 ·simp at h
theorem Zhu (vT:Value) (T:List DMacro) (fpT:List Nat) (v:Value) (l:List Tok) (fp:List Nat) (w:World) (hTl:T.length<=1048576) (hTs:∀ k,(hk:k<T.length)->MacSm T[k]) (hl:l.length<=1048576) (hx:∀ k,(hk:k<l.length)->l[k].hidden.length<=2000000)
  (HT:(Zaa sMacro).R w [vT] T fpT) (H:(Zaa sTok).R w [v] l fp):Calls Tryz.prog 7 #[vT,v] w (ZeX T l w):=by
 have HC:=Qh (ZfH vT T fpT v l fp w hTl hTs hl hx HT H)
 rcases hq:ZaN T l with⟨x,ok⟩
 unfold Zh5 at HC
 rw [hq] at HC
 try dsimp only at HC
 have HQ:=Qh hq
 clear hq hx hl H
 go_enter Tryz.func7,Tryz.ntmps7
 go_wp2_with fail
 refine HC.out.mono ?_
 rintro e w1 ⟨v1,f1,rfl,hR1,-,hB1⟩
 clear HC
 cases ok
 ·have HF:=Qh (ZgZ HQ.out)
  go_wp2
  go_ret2
  exact ZcG HF.out hB1
 have hv:=Zlo HQ.out
 have HE:=Qh (Zlm vT T fpT v1 x f1 w1 hTl hTs (by have:=(Zan hv).1;omega) (λ k hk=>by have:=(Zhs hv _ (List.getElem_mem hk)).1;omega) ((Zaa sMacro).below HT hB1) hR1)
 rcases hxx:Zbo T x with⟨y,c⟩
 unfold ZkH at HE
 rw [hxx] at HE
 try dsimp only at HE
 have HX:=Qh hxx
 clear hxx hR1 hv HT hTs hTl
 go_wp2_with fail
 refine HE.out.mono ?_
 rintro e w2 ⟨v2,f2,rfl,hR2,-,hb2⟩
 have hB2:=hB1.trans (hb2.mono hB1.size)
 clear HE
 by_cases hc0:c=0
 rotate_left
 ·have HF:=Qh (Zg0 HQ.out HX.out hc0)
  have e2:(c != 0)=true:=by simp [hc0]
  clear hc0
  go_wp2
  go_ret2
  exact ZcG HF.out hB2
 subst hc0
 rcases hp:Zba y with⟨n,f⟩
 have HF:=Qh (Zg1 HQ.out HX.out hp)
 have HP:=Qh (ZkK v2 y f2 w2 hR2)
 unfold ValOf at HP
 rw [hp] at HP
 try dsimp only at HP
 clear hp hR2
 go_wp2_with fail
 refine HP.out.mono ?_
 rintro e w3 ⟨rfl,hb3⟩
 have hB3:=hB2.trans (hb3.mono hB2.size)
 go_wp2
 go_ret2
 exact ZcG (by rw [HF.out];by_cases h1:n=0 <;> by_cases h2:f=0 <;> simp [h1,h2]) hB3
theorem Zgi (vT:Value) (T:List DMacro) (fpT:List Nat) (v:Value) (l:List Tok) (fp:List Nat) (w:World) (hT:ZaS T<=1048576) (hl:ZaD l<=1048576) (HT:(Zaa sMacro).R w [vT] T fpT) (H:(Zaa sTok).R w [v] l fp) :
  Calls Tryz.prog 7 #[vT,v] w (ZeX T l w):=Zhu vT T fpT v l fp w (ZgY hT).1 (ZgY hT).2 (Zkc hl) (Zkd hl) HT H
theorem Zic (T:List DMacro) (l:List Tok):(condRes T l).2=(condRes T l).2:=rfl
theorem ZcH {α:Type} {S:Shape α} {P:Program} {t e:TypeId} {z:Value} {bytes:Nat} (ti:TI P t e z S.m bytes) (hzs:z.cells.size=S.m) (h0:0<S.m) (w:World) {L X:List (Elem α)} {ops:Array Oper} {o:Oper} {a:Act} {K:Act->World->Prop} {Q:Exit->Act->World->Prop} {E:Prop}
  (d:Nat) (hdst:o.dst=some d) (hg:o.guard=none) (s y:Operand) (ho:o.op=.call { callee:=.builtin .append,args:=#[s,y],argTypes:=#[t,t] })
  (base:Nat) (v:Value) (hs:a.eval s=v) (hown:RowE S base e v L w) (g m c:Nat) (hy:a.eval y=.slice (some ⟨g,0,none⟩) m c) (hm:X.length=m)
  (hlen:∀ x∈X,x.cells.length=S.m) (h1:∀ x∈X,∀ u∈x.cells,u.oneCell'=true) (hcell:∀ j u,(X.flatMap (·.cells))[j]?=some u->w.cell? ⟨g,j,none⟩=some u)
  (hR:∀ x∈X,S.R w x.cells x.d x.fp) (hlo:∀ x∈X,∀ b∈x.fp,base<=b) (hty:∀ x∈X,∀ b∈x.fp,∃ cur t fr,w.heap[b]?=some (.cells cur t fr)/\t≠e)
  (h63:L.length+m<=maxLen) (hbytes:(L.length+m) * bytes<=140737488355328) (hbase:base<=w.heap.size)
  (h:∀ v' w',RowE S base e v' (L++X) w'->w.grownBy w' v.ownBlock->K (a.put (some d) v') w'):if Region.wanted o (yielded ops a.tmps)=true then Oper.wp P o a w K Q else E:=by
 rw [← hdst] at h
 have hwt:Region.wanted o (yielded ops a.tmps)=true:=by simp [Region.wanted,hg]
 obtain⟨i,hi,hz0,hz1,hz2⟩:=info_parts ti.2
 subst hm
 rw [if_pos hwt]
 refine wp_append_own w s y t ho base e i z S.m bytes ti.1 hi hz0 hz1 hz2 hzs h0 v L.length _ hs hown.row ⟨g,0,none⟩ X.length c (X.flatMap (·.cells)) hy (ZaU hlen) ?_ ?_ h63 hbytes hbase λ v' w' r1 r2 _=>h v' w' ?_ r2
 ·intro j u hj
  rw [ZaI,Nat.zero_add]
  exact hcell j u hj
 ·intro u hu
  obtain⟨x,hx,hu⟩:=List.mem_flatMap.1 hu
  exact h1 x hx u hu
 ·refine hown.appended ?_ r2 hlen hR hlo hty
  rw [List.length_append,List.flatMap_append]
  exact r1
structure DivSt (B:Nat) (va u:Value) (A:List (Elem (List Tok))) (M:List (Elem Tok)) (w:World):Prop where
 row:w.ownsRow B 24 1 va (A.length+1) (A.flatMap (·.cells)++[u])
 len:∀ x∈A,x.cells.length=1
 el:∀ x∈A,sToks.R w x.cells x.d x.fp
 inn:∃ top,RowE sTok top 32 u M w/\B<=top/\top<=w.heap.size/\∀ x∈A,∀ b∈x.fp,b<top
 ownA:Own w B (A.flatMap (·.fp))
 ownM:Own w B (M.flatMap (·.fp))
 tyA:TokTy w (A.flatMap (·.fp))
 tyM:TokTy w (M.flatMap (·.fp))
section
variable {B:Nat} {va u:Value} {A:List (Elem (List Tok))} {M:List (Elem Tok)} {w w':World}
theorem DivSt.same (h:DivSt B va u A M w) (hs:w.heap.size<=w'.heap.size) (hr:∀ g,va.ownBlock=some g->w'.heap[g]?=w.heap[g]?) (hu:∀ g,u.ownBlock=some g->w'.heap[g]?=w.heap[g]?) (hA:∀ b∈A.flatMap (·.fp),w'.heap[b]?=w.heap[b]?) (hM:∀ b∈M.flatMap (·.fp),w'.heap[b]?=w.heap[b]?):DivSt B va u A M w':=by
 obtain⟨top,g1,g2,g3,g4⟩:=h.inn
 have mA:∀ x∈A,∀ b∈x.fp,w'.heap[b]?=w.heap[b]?:=λ x hx b hb=>hA b (List.mem_flatMap.2 ⟨x,hx,hb⟩)
 have mM:∀ x∈M,∀ b∈x.fp,w'.heap[b]?=w.heap[b]?:=λ x hx b hb=>hM b (List.mem_flatMap.2 ⟨x,hx,hb⟩)
 refine ⟨Zbb h.row hr,h.len,λ x hx=>sToks.frame (mA x hx) (h.el x hx),⟨top,g1.same2 hu mM,g2,Nat.le_trans g3 hs,g4⟩,⟨h.ownA.1,λ b hb=>?_⟩,⟨h.ownM.1,λ b hb=>?_⟩,h.tyA.same λ b hb _=>hA b hb,h.tyM.same λ b hb _=>hM b hb⟩
 ·obtain⟨q1,cur,e,q2⟩:=h.ownA.2 b hb
  exact⟨q1,cur,e,(hA b hb).trans q2⟩
 ·obtain⟨q1,cur,e,q2⟩:=h.ownM.2 b hb
  exact⟨q1,cur,e,(hM b hb).trans q2⟩
theorem DivSt.ult (h:DivSt B va u A M w):∀ g,u.ownBlock=some g->g<w.heap.size:=λ g hg=>by
 obtain⟨top,g1,-⟩:=h.inn
 exact(g1.row.lt g hg).2
theorem DivSt.umine (h:DivSt B va u A M w):∀ g,u.ownBlock=some g->B<=g:=λ g hg=>by
 obtain⟨top,g1,g2,-⟩:=h.inn
 have:=(g1.row.lt g hg).1
 omega
theorem DivSt.below (h:DivSt B va u A M w) (hb:Below w.heap.size w w'):DivSt B va u A M w':=
 h.same hb.size (λ g hg=>hb.block g (h.row.lt g hg).2) (λ g hg=>hb.block g (h.ult g hg)) (λ b hb'=>hb.block b (h.ownA.lt b hb')) (λ b hb'=>hb.block b (h.ownM.lt b hb'))
theorem DivSt.val (h:DivSt B va u A M w):∃ g cap,va=.slice (some ⟨g,0,none⟩) (A.length+1) cap/\B<=g/\g<w.heap.size/\A.length+1<=cap/\cap<=maxLen:=by
 rcases h.row.2 with⟨_,h0⟩ | ⟨g,cap,cur,rfl,hb,hg,hn,hc,_⟩
 ·omega
 ·exact⟨g,cap,rfl,hb,(Qg hg).1,hn,hc⟩
theorem DivSt.uval (h:DivSt B va u A M w):∃ a c,u=.slice a M.length c:=by
 obtain⟨top,g1,-⟩:=h.inn
 obtain⟨a,c,h1,-⟩:=g1.val
 exact⟨a,c,h1⟩
theorem DivSt.flen (h:DivSt B va u A M w):(A.flatMap (·.cells)).length=A.length:=by
 have:=ZaU (f:=Elem.cells) h.len
 rwa [Nat.mul_one] at this
theorem DivSt.cell {g n cap:Nat} (h:DivSt B (.slice (some ⟨g,0,none⟩) n cap) u A M w):w.cell? ⟨g,A.length,none⟩=some u:=by
 have hn:A.length+1=n:=by
  rcases h.row.2 with⟨h',_⟩ | ⟨g',cap',cur,h',_⟩
  ·cases h'
  ·simp only [Value.slice.injEq] at h';exact h'.2.1.symm
 have hrow:=h.row
 rw [hn] at hrow
 rw [hrow.cellAt A.length (by omega),List.getElem?_append_right (by rw [h.flen];omega),h.flen,Nat.sub_self];rfl
theorem DivSt.frozen {g n cap:Nat} (h:DivSt B (.slice (some ⟨g,0,none⟩) n cap) u A M w) (o:Nat):w.frozen? ⟨g,o,none⟩=false:=by
 rcases h.row.2 with⟨h',_⟩ | ⟨g',cap',cur,h',_,hg,_⟩
 ·cases h'
 ·simp only [Value.slice.injEq,Qi,Addr.mk.injEq,and_true] at h'
  obtain⟨rfl,_⟩:=h'
  exact frozen_of_row w g o cur _ hg
theorem DivSt.rowne (h:DivSt B va u A M w) {fp:List Nat} (ht:TokTy w fp):∀ b∈fp,some b≠va.ownBlock:=λ b hb e=>by
 obtain⟨cur,t,fr,h1,h2⟩:=ht b hb
 rcases h.row.2 with⟨h',_⟩ | ⟨g,cap,cur',h',_,hg,_⟩
 ·rw [h'] at e;simp [Value.ownBlock] at e
 ·rw [h'] at e
  simp only [Value.ownBlock,Qi] at e
  subst e
  rw [h1] at hg
  simp only [Qi,Obj.cells.injEq] at hg
  have:=hg.2.1
  rcases h2 with rfl | rfl <;> exact absurd this (by decide)
theorem DivSt.arg (h:DivSt B va u A M w):∃ fp,sToks.R w [u] (M.map (·.d)) fp/\Own w B fp/\TokTy w fp/\(∀ b∈fp,b∉A.flatMap (·.fp)):=by
 obtain⟨top,g1,g2,g3,g4⟩:=h.inn
 obtain⟨fp,h1,h2,h3⟩:=Za7 g1.row λ x hx=>⟨g1.len x hx,g1.el x hx⟩
 have hM:Own w top (M.flatMap (·.fp)):=⟨h.ownM.1,λ b hb=>by
  obtain⟨x,hx,hb'⟩:=List.mem_flatMap.1 hb
  exact⟨g1.lo x hx b hb',(h.ownM.2 b hb).2⟩⟩
 have hO:=h3 hM λ g hg hm=>by
  obtain⟨x,hx,hb'⟩:=List.mem_flatMap.1 hm
  exact g1.ap hx hb' hg
 refine ⟨fp,h1,hO.lower g2,λ b hb=>?_,λ b hb hx=>?_⟩
 ·rcases h2 b hb with h0 | h0
  ·rcases g1.row.2 with⟨h',_⟩ | ⟨g,cap,cur,q1,q2,q3,-⟩
   ·rw [h'] at h0;simp [Value.ownBlock] at h0
   ·rw [q1] at h0
    simp only [Value.ownBlock,Qi] at h0
    subst h0
    exact⟨_,_,_,q3,.inl rfl⟩
  ·exact h.tyM b h0
 ·obtain⟨x,hx',hb'⟩:=List.mem_flatMap.1 hx
  have:=g4 x hx' b hb'
  have:=(hO.2 b hb).1
  omega
theorem TokTy.app {fp fp':List Nat} (h:TokTy w fp) (h':TokTy w fp'):TokTy w (fp++fp'):=λ b hb=>by
 rcases Qa hb with hb | hb
 ·exact h b hb
 ·exact h' b hb
theorem Zcl {α:Type} (A:List (Elem α)) (x:Elem α):(A++[x]).flatMap (·.fp)=A.flatMap (·.fp)++x.fp:=by rw [List.flatMap_append];simp
theorem DivSt.next {va':Value} (h:DivSt B va u A M w) {fp:List Nat} (h1:sToks.R w [u] (M.map (·.d)) fp) (h2:Own w B fp) (h3:TokTy w fp) (h4:∀ b∈fp,b∉A.flatMap (·.fp)) (hB:B<=w.heap.size)
  (hrow:w'.ownsRow B 24 1 va' (A.length+1+1) (A.flatMap (·.cells)++[u]++[.slice none 0 0])) (hg:w.grownBy w' va.ownBlock):DivSt B va' (.slice none 0 0) (A++[⟨[u],M.map (·.d),fp⟩]) [] w':=by
 have hA:∀ b∈A.flatMap (·.fp),w'.heap[b]?=w.heap[b]?:=λ b hb=>hg.block b (h.ownA.lt b hb) (h.rowne h.tyA b hb)
 have hF:∀ b∈fp,w'.heap[b]?=w.heap[b]?:=λ b hb=>hg.block b (h2.lt b hb) (h.rowne h3 b hb)
 have hO:Own w B (A.flatMap (·.fp)++fp):=h.ownA.app h2 λ b hb hx=>h4 b hx hb
 refine ⟨?_,λ x hx=>?_,λ x hx=>?_,⟨w'.heap.size,RowE.nil _ _ _ _,Nat.le_trans hB hg.size,Nat.le_refl _,λ x hx b hb=>?_⟩,⟨?_,λ b hb=>?_⟩,Own.nil _ _,?_,(show TokTy w' [] from λ b hb=>by simp at hb)⟩
 ·rw [List.length_append,List.flatMap_append]
  simpa using hrow
 ·rcases Qa hx with hx | hx
  ·exact h.len x hx
  ·obtain rfl:=Qm hx;rfl
 ·rcases Qa hx with hx | hx
  ·exact sToks.frame (λ b hb=>hA b (List.mem_flatMap.2 ⟨x,hx,hb⟩)) (h.el x hx)
  ·obtain rfl:=Qm hx;exact sToks.frame hF h1
 ·have:b<w.heap.size:=by
   rcases Qa hx with hx | hx
   ·exact sToks.lt (h.el x hx) b hb
   ·obtain rfl:=Qm hx;exact sToks.lt h1 b hb
  exact Nat.lt_of_lt_of_le this hg.size
 ·rw [Zcl];exact hO.1
 ·rw [Zcl] at hb
  obtain⟨q1,cur,e,q2⟩:=hO.2 b hb
  refine ⟨q1,cur,e,?_⟩
  rcases Qa hb with hb | hb
  ·exact(hA b hb).trans q2
  ·exact(hF b hb).trans q2
 ·rw [Zcl]
  exact(h.tyA.app h3).same λ b hb _=>by
   rcases Qa hb with hb | hb
   ·exact hA b hb
   ·exact hF b hb
theorem DivSt.more {g n cap top:Nat} {u':Value} {x:Elem Tok} (h:DivSt B (.slice (some ⟨g,0,none⟩) n cap) u A M w) (g1:RowE sTok top 32 u M w) (g2:B<=top) (g3:top<=w.heap.size) (g4:∀ x∈A,∀ b∈x.fp,b<top)
  (hx1:Own w top x.fp) (hx2:∀ b∈x.fp,∃ cur t fr,w.heap[b]?=some (.cells cur t fr)/\t=9) (hx3:∀ b∈x.fp,b∉M.flatMap (·.fp))
  (hG:RowE sTok top 32 u' (M++[x]) w') (hg:w.grownBy w' u.ownBlock):DivSt B (.slice (some ⟨g,0,none⟩) n cap) u' A (M++[x]) (w'.setCell ⟨g,A.length,none⟩ u'):=by
 have hn:A.length+1=n:=by
  rcases h.row.2 with⟨h',_⟩ | ⟨g',cap',cur,h',_⟩
  ·cases h'
  ·simp only [Value.slice.injEq] at h';exact h'.2.1.symm
 have hgl:g<w.heap.size:=(h.row.lt g rfl).2
 have hgu:some g≠u.ownBlock:=λ e=>by
  rcases Zds h.row g1.row (by decide) with h0 | h0
  ·cases h0
  ·exact h0 (by rw [← e];rfl)
 have hA1:∀ b∈A.flatMap (·.fp),w'.heap[b]?=w.heap[b]?:=λ b hb=>hg.block b (h.ownA.lt b hb) λ e=>by
  obtain⟨y,hy,hb'⟩:=List.mem_flatMap.1 hb
  have:=g4 y hy b hb'
  have:=g1.mine b e.symm
  omega
 have hM1:∀ b∈M.flatMap (·.fp),w'.heap[b]?=w.heap[b]?:=λ b hb=>hg.block b (h.ownM.lt b hb) λ e=>by
  obtain⟨y,hy,hb'⟩:=List.mem_flatMap.1 hb
  exact g1.ap hy hb' e.symm
 have hX1:∀ b∈x.fp,w'.heap[b]?=w.heap[b]?:=λ b hb=>hg.block b (hx1.lt b hb) λ e=>by
  obtain⟨cur,t,fr,q1,q2⟩:=hx2 b hb
  rcases g1.row.2 with⟨h',_⟩ | ⟨g',cap',cur',h',_,hg',_⟩
  ·rw [h'] at e;simp [Value.ownBlock] at e
  ·rw [h'] at e
   simp only [Value.ownBlock,Qi] at e
   subst e
   rw [q1] at hg'
   simp only [Qi,Obj.cells.injEq] at hg'
   exact absurd (q2.symm.trans hg'.2.1) (by decide)
 have hTX:TokTy w x.fp:=λ b hb=>by obtain⟨cur,t,fr,q1,q2⟩:=hx2 b hb;exact⟨cur,t,fr,q1,.inr q2⟩
 have hne:∀ fp,TokTy w fp->∀ b∈fp,b≠g:=λ fp ht b hb e=>h.rowne ht b hb (by rw [e];rfl)
 have hfar:∀ b,b≠g->(w'.setCell ⟨g,A.length,none⟩ u').heap[b]?=w'.heap[b]?:=λ b hb=>Below.heap_setCell _ _ _ _ hb
 have hgb:w'.heap[g]?=w.heap[g]?:=hg.block g hgl hgu
 have hrow':w'.ownsRow B 24 1 (.slice (some ⟨g,0,none⟩) n cap) n (A.flatMap (·.cells)++[u]):=by
  have:=Zbb (w':=w') h.row λ g' hg'=>by
   simp only [Value.ownBlock,Qi] at hg';subst hg';exact hgb
  rwa [hn] at this
 have hOM:Own w B (M.flatMap (·.fp)++x.fp):=h.ownM.app (hx1.lower g2) λ b hb hx=>hx3 b hx hb
 have hug:∀ b,u'.ownBlock=some b->b≠g:=λ b hb e=>by
  subst e
  rcases Zds hrow' hG.row (by decide) with h0 | h0
  ·cases h0
  ·exact h0 (by rw [hb];rfl)
 refine ⟨?_,h.len,λ y hy=>?_,⟨top,?_,g2,by rw [ZjW];exact Nat.le_trans g3 hg.size,g4⟩,⟨h.ownA.1,λ b hb=>?_⟩,⟨by rw [Zcl];exact hOM.1,λ b hb=>?_⟩,?_,?_⟩
 ·have:=(hrow'.stored A.length u').1
  rw [List.set_append_right _ _ (by rw [h.flen];omega),h.flen,Nat.sub_self] at this
  rw [hn]
  exact this
 ·refine sToks.frame (λ b hb=>?_) (h.el y hy)
  have hm:b∈A.flatMap (·.fp):=List.mem_flatMap.2 ⟨y,hy,hb⟩
  exact(hfar b (hne _ h.tyA b hm)).trans (hA1 b hm)
 ·refine hG.same2 (λ b hb=>hfar b (hug b hb)) (λ y hy b hb=>hfar b ?_)
  rcases Qa hy with hy | hy
  ·exact hne _ h.tyM b (List.mem_flatMap.2 ⟨y,hy,hb⟩)
  ·obtain rfl:=Qm hy;exact hne _ hTX b hb
 ·obtain⟨q1,cur,e,q2⟩:=h.ownA.2 b hb
  exact⟨q1,cur,e,((hfar b (hne _ h.tyA b hb)).trans (hA1 b hb)).trans q2⟩
 ·rw [Zcl] at hb
  obtain⟨q1,cur,e,q2⟩:=hOM.2 b hb
  refine ⟨q1,cur,e,?_⟩
  rcases Qa hb with hb | hb
  ·exact((hfar b (hne _ h.tyM b hb)).trans (hM1 b hb)).trans q2
  ·exact((hfar b (hne _ hTX b hb)).trans (hX1 b hb)).trans q2
 ·exact h.tyA.same λ b hb _=>(hfar b (hne _ h.tyA b hb)).trans (hA1 b hb)
 ·rw [Zcl]
  exact(h.tyM.app hTX).same λ b hb _=>by
   rcases Qa hb with hb | hb
   ·exact(hfar b (hne _ h.tyM b hb)).trans (hM1 b hb)
   ·exact(hfar b (hne _ hTX b hb)).trans (hX1 b hb)
theorem DivSt.done (h:DivSt B va u A M w):∃ fp,(Zaa sToks).R w [va] (A.map (·.d)++[M.map (·.d)]) fp/\Own w B fp:=by
 obtain⟨fpu,h1,h2,h3,h4⟩:=h.arg
 have hO:Own w B ((A++[(⟨[u],M.map (·.d),fpu⟩:Elem (List Tok))]).flatMap (·.fp)):=by rw [Zcl];exact h.ownA.app h2 λ b hb hx=>h4 b hx hb
 have hT:TokTy w ((A++[(⟨[u],M.map (·.d),fpu⟩:Elem (List Tok))]).flatMap (·.fp)):=by rw [Zcl];exact h.tyA.app h3
 obtain⟨fp,r1,-,r3⟩:=Za7 (S:=sToks) (w:=w) (base:=B) (e:=24) (v:=va) (L:=A++[⟨[u],M.map (·.d),fpu⟩]) (by
  rw [List.length_append,List.flatMap_append]
  change w.ownsRow B 24 1 va _ _
  simpa using h.row) (λ x hx=>by
  rcases Qa hx with hx | hx
  ·exact⟨h.len x hx,h.el x hx⟩
  ·obtain rfl:=Qm hx;exact⟨rfl,h1⟩)
 refine ⟨fp,by rw [List.map_append] at r1;exact r1,r3 hO λ g hg hm=>?_⟩
 exact h.rowne hT g hm hg.symm
end
theorem Zny {l:List Tok} {k:Nat} (hk:k<l.length) (d:Int) (A:Args) (M:List Tok) :
  dvGo (l.drop k) d A M=if d=0/\isCom l[k]=true then dvGo (l.drop (k+1)) d (A++[M]) [] else dvGo (l.drop (k+1)) (d+opn l[k]) A (M++[l[k]]):=by
 rw [List.drop_eq_getElem_cons hk];rfl
theorem dvGo_end {l:List Tok} {k:Nat} (hk:l.length<=k) (d:Int) (A:Args) (M:List Tok):dvGo (l.drop k) d A M=A++[M]:=by rw [List.drop_of_length_le hk];rfl
theorem Y17A1 {g:Prop} (h:g:=by
 go_wp2_with fail
 refine (HOP.out _ hbx).mono ?_
 rintro e w2 ⟨rfl,g2⟩
 have hc2:=hbx.trans (g2.mono hbx.size)
 have HX2:=Qh ((g2.block _ (Qg HX0.out).1).trans HX0.out)
 have HS2:=Qh (HS1.out.below g2)
 have hb2:=hbw.trans (g2.mono hbw.size)
 have hi1:(0:Int)<=(A.length:Int):=by omega
 have hi2:(A.length:Int)<(A.length:Int)+1:=by omega
 have hgs2:=hc2.size
 clear c10 c11 c12 c13 HOP HS1 HX0 hbw hbx g2 hb
 go_wp2_with fail
 refine wp_region_noPanic ?_
 refine wp_region_held_drew (S:=λ w'=>w'.heap[wr.heap.size]?=some (.cells #[.int .i64 l[k].kind,.string l[k].text,.bool l[k].spaced,.slice ah l[k].hidden.length ch] 32 (0,0))) (by kernel_rfl) (by exact HX2.out) (λ hHeld=>?_)
 have hdr:Below w2.heap.size w2 w2.drew:=Zag (Below.refl _ _) 1
 have HSd:=Qh (HS2.out.below hdr)
 have hbd:=hb2.trans (hdr.mono hb2.size)
 have hcd:=hc2.trans (hdr.mono hc2.size)
 have hwd:=hcd.size
 obtain⟨top,t1,t2,t3,t4⟩:=HSd.out.inn
 have HTD:=Qh t1
 have HTOP:=Qh t4
 clear t1 t4
 clear HS2 HX2 hdr
 generalize w2.drew=wd at *
 refine Qt 0 32 rfl rfl ?_ (by intro w hSw;obtain⟨s0,s1,s2,s3⟩:=Q4 hSw;go_simp;(first | done | with_reducible rfl | rfl))
 try simp only [Qp]
 refine Qt 1 33 rfl rfl ?_ (by intro w hSw;obtain⟨s0,s1,s2,s3⟩:=Q4 hSw;go_simp;(first | done | with_reducible rfl | rfl))
 try simp only [Qp]
 refine Qt 2 34 rfl rfl ?_ (by intro w hSw;obtain⟨s0,s1,s2,s3⟩:=Q4 hSw;go_simp;(first | done | with_reducible rfl | rfl))
 try simp only [Qp]
 refine Qt 3 35 rfl rfl ?_ (by intro w hSw;obtain⟨s0,s1,s2,s3⟩:=Q4 hSw;go_simp;(first | done | with_reducible rfl | rfl))
 try simp only [Qp]
 refine Qt 4 36 rfl rfl ?_ (by intro w hSw;obtain⟨s0,s1,s2,s3⟩:=Q4 hSw;go_simp;(first | done | with_reducible rfl | rfl))
 try simp only [Qp]
 refine Qt 6 38 rfl rfl ?_ (by intro w hSw;obtain⟨s0,s1,s2,s3⟩:=Q4 hSw;go_simp;(first | done | with_reducible rfl | rfl))
 try simp only [Qp]
 refine wpAnyH_ready (rs:=[5,7]) (by decide +kernel) (by simp) ?_
 refine AllReadyH.cons rfl (λ K hK=>?_) ?_
 ·have hcell:=HSd.out.cell
  go_simp
  refine hK.out _ _ hHeld (λ hHeld=>?_)
  clear hK K
  try simp only [Qp]
  refine Qr 7 rfl (λ K hK=>?_) (by decide +kernel)
  go_simp
  refine (HCP.out _ hcd).mono ?_
  rintro e w4 ⟨ao,c2,fp2,rfl,R2,O2,T2,hb4⟩
  have HS4:=Qh (HSd.out.below hb4)
  have hb4t:=hbd.trans (hb4.mono hbd.size)
  have hs4:=hb4.size
  have HTE:=Qh (HTD.out.below hb4)
  have HT4:=Qh (And.intro R2 (And.intro O2 T2))
  clear R2 O2 T2
  refine hK.out _ _ ((hb4.block _ (Qg hHeld).1).trans hHeld) (λ hHeld=>?_)
  clear hK K
  try simp only [Qp]
  refine Qr 8 rfl (λ K hK=>?_) (by decide +kernel)
  have bl:=Zab w4 (.cells #[.int .i64 l[k].kind,.string l[k].text,.bool l[k].spaced,.slice ao l[k].hidden.length c2] 32)
  have HL5:=Qh (heap_alloc_new w4 (.cells #[.int .i64 l[k].kind,.string l[k].text,.bool l[k].spaced,.slice ao l[k].hidden.length c2] 32))
  have HS5:=Qh (HS4.out.below bl)
  have HT1:=Qh (HTE.out.below bl)
  have hb5t:=hb4t.trans (bl.mono hb4t.size)
  have hs5:(w4.alloc (.cells #[.int .i64 l[k].kind,.string l[k].text,.bool l[k].spaced,.slice ao l[k].hidden.length c2] 32)).heap.size=w4.heap.size+1:=Array.size_push _
  have HT5:=Qh (And.intro (sTok.below HT4.out.1 bl) (And.intro (HT4.out.2.1.grow bl) (show ∀ b∈fp2,∃ cur t fr,(w4.alloc (.cells #[.int .i64 l[k].kind,.string l[k].text,.bool l[k].spaced,.slice ao l[k].hidden.length c2] 32)).heap[b]?=some (.cells cur t fr)/\t=9 from λ b hb=>by obtain⟨cur,t,fr,z1,z2⟩:=HT4.out.2.2 b hb;exact⟨cur,t,fr,(bl.block b (Qg z1).1).trans z1,z2⟩)))
  have hH5:=(bl.block _ (Qg hHeld).1).trans hHeld
  go_simp
  refine hK.out _ _ hH5 (λ hHeld=>?_)
  clear hK K bl
  try simp only [Qp]
  generalize hw5:(w4.alloc (.cells #[.int .i64 l[k].kind,.string l[k].text,.bool l[k].spaced,.slice ao l[k].hidden.length c2] 32))=w5 at *
  clear hw5
  refine Qr 9 rfl (λ K hK=>?_) (by decide +kernel)
  refine ZcH (X:=[(⟨[.int .i64 l[k].kind,.string l[k].text,.bool l[k].spaced,.slice ao l[k].hidden.length c2],l[k],fp2⟩:Elem Tok)]) ZaG rfl (by decide) _ 41 rfl rfl (.tmp 37) (.tmp 40) rfl top (.slice au M.length cu) rfl HT1.out w4.heap.size 1 1 rfl rfl (λ x hx=>by obtain rfl:=Qm hx;rfl) (λ x hx=>by obtain rfl:=Qm hx;simp [Value.oneCell']) (λ j u hj=>by rw [cell_of_row _ _ _ _ _ _ HL5.out];simpa using hj) (λ x hx=>by obtain rfl:=Qm hx;exact HT5.out.1) (λ x hx b hb=>by obtain rfl:=Qm hx;have:=(HT5.out.2.1.2 b hb).1;omega) (λ x hx b hb=>by obtain rfl:=Qm hx;obtain⟨cur,t,fr,z1,z2⟩:=HT5.out.2.2 b hb;exact⟨cur,t,fr,z1,by rw [z2];decide⟩) (by unfold maxLen;omega) (by omega) (by omega) ?_
  intro v6 w6 hG6 hg6
  have HN:=Qh (HS5.out.more (x:=⟨[.int .i64 l[k].kind,.string l[k].text,.bool l[k].spaced,.slice ao l[k].hidden.length c2],l[k],fp2⟩) HT1.out t2 (by omega) HTOP.out (HT5.out.2.1.lower (by omega)) HT5.out.2.2 (λ b hb hx=>by have h1:=(HT5.out.2.1.2 b hb).1;have h2:=HOLD.out b hx;omega) hG6 hg6)
  have hb6:=hb5t.grown hg6 hb5t.size HS5.out.umine
  have hH6:=(hg6.block _ (Qg hHeld).1 (λ e=>by have:=HULT.out _ e.symm;omega)).trans hHeld
  have hcell6:w6.cell? ⟨ga,A.length,none⟩=some (.slice au M.length cu):=(World.cell?_of_block (hg6.block ga (by have:=hb5t.size;omega) (λ e=>by rcases Zds HS5.out.row HT1.out.row (by decide) with h0 | h0;cases h0;exact h0 (by rw [← e];rfl)))).trans HS5.out.cell
  have hfr6:w6.frozen? ⟨ga,A.length,none⟩=false:=(World.frozen?_of_block (hg6.block ga (by have:=hb5t.size;omega) (λ e=>by rcases Zds HS5.out.row HT1.out.row (by decide) with h0 | h0;cases h0;exact h0 (by rw [← e];rfl)))).trans (HS5.out.frozen _)
  obtain⟨a6,c6,rfl,-⟩:=hG6.val
  clear hG6 hg6
  refine hK.out _ _ hH6 (λ hHeld=>?_)
  clear hK K
  try simp only [Qp]
  refine Qt 10 42 rfl rfl ?_ (by intro w hSw;obtain⟨s0,s1,s2,s3⟩:=Q4 hSw;go_simp;(first | done | with_reducible rfl | rfl))
  try simp only [Qp]
  refine Qr 11 rfl (λ K hK=>?_) (by decide +kernel)
  have hbne:wr.heap.size≠ga:=by omega
  have hb7:=hb6.setCell (p:=⟨ga,A.length,none⟩) (by show w.heap.size<=ga;omega) (.slice a6 (M++[(⟨[.int .i64 l[k].kind,.string l[k].text,.bool l[k].spaced,.slice ao l[k].hidden.length c2],l[k],fp2⟩:Elem Tok)]).length c6)
  have hH7:=Zaz hHeld hbne A.length (.slice a6 (M++[(⟨[.int .i64 l[k].kind,.string l[k].text,.bool l[k].spaced,.slice ao l[k].hidden.length c2],l[k],fp2⟩:Elem Tok)]).length c6)
  simp only [List.length_append,List.length_cons,List.length_nil,Nat.zero_add] at hb7 hH7 HN ⊢
  go_simp
  refine hK.out _ _ hH7 (λ hHeld=>?_)
  clear hK K
  try simp only [Qp]
  refine wpAnyH_done (by kernel_rfl) ?_ _
  refine NoPanic.normal ?_
  clear hHeld
  go_wp2
  go_roundw
  case rel=>exact⟨k+1,_,_,A,M++[(⟨[.int .i64 l[k].kind,.string l[k].text,.bool l[k].spaced,.slice ao l[k].hidden.length c2],l[k],fp2⟩:Elem Tok)],by omega,by go_num,rfl,by omega,by omega,by omega,by simp;omega,HN,by show _=_;rw [← HF.out,List.map_append];rfl,hb7⟩
  case measure=>simp [intOf];omega
 refine AllReadyH.cons rfl (λ K hK=>?_) AllReadyH.nil
 go_simp
 refine (HCP.out _ hcd).mono ?_
 rintro e w4 ⟨ao,c2,fp2,rfl,R2,O2,T2,hb4⟩
 have HS4:=Qh (HSd.out.below hb4)
 have hb4t:=hbd.trans (hb4.mono hbd.size)
 have hs4:=hb4.size
 have HTE:=Qh (HTD.out.below hb4)
 have HT4:=Qh (And.intro R2 (And.intro O2 T2))
 clear R2 O2 T2
 refine hK.out _ _ ((hb4.block _ (Qg hHeld).1).trans hHeld) (λ hHeld=>?_)
 clear hK K
 try simp only [Qp]
 refine wpAnyH_ready (rs:=[5,8]) (by decide +kernel) (by simp) ?_
 refine AllReadyH.cons rfl (λ K hK=>?_) ?_
 ·have hcell:=HS4.out.cell
  go_simp
  refine hK.out _ _ hHeld (λ hHeld=>?_)
  clear hK K
  try simp only [Qp]
  refine Qr 8 rfl (λ K hK=>?_) (by decide +kernel)
  have bl:=Zab w4 (.cells #[.int .i64 l[k].kind,.string l[k].text,.bool l[k].spaced,.slice ao l[k].hidden.length c2] 32)
  have HL5:=Qh (heap_alloc_new w4 (.cells #[.int .i64 l[k].kind,.string l[k].text,.bool l[k].spaced,.slice ao l[k].hidden.length c2] 32))
  have HS5:=Qh (HS4.out.below bl)
  have HT1:=Qh (HTE.out.below bl)
  have hb5t:=hb4t.trans (bl.mono hb4t.size)
  have hs5:(w4.alloc (.cells #[.int .i64 l[k].kind,.string l[k].text,.bool l[k].spaced,.slice ao l[k].hidden.length c2] 32)).heap.size=w4.heap.size+1:=Array.size_push _
  have HT5:=Qh (And.intro (sTok.below HT4.out.1 bl) (And.intro (HT4.out.2.1.grow bl) (show ∀ b∈fp2,∃ cur t fr,(w4.alloc (.cells #[.int .i64 l[k].kind,.string l[k].text,.bool l[k].spaced,.slice ao l[k].hidden.length c2] 32)).heap[b]?=some (.cells cur t fr)/\t=9 from λ b hb=>by obtain⟨cur,t,fr,z1,z2⟩:=HT4.out.2.2 b hb;exact⟨cur,t,fr,(bl.block b (Qg z1).1).trans z1,z2⟩)))
  have hH5:=(bl.block _ (Qg hHeld).1).trans hHeld
  go_simp
  refine hK.out _ _ hH5 (λ hHeld=>?_)
  clear hK K bl
  try simp only [Qp]
  generalize hw5:(w4.alloc (.cells #[.int .i64 l[k].kind,.string l[k].text,.bool l[k].spaced,.slice ao l[k].hidden.length c2] 32))=w5 at *
  clear hw5
  refine Qr 9 rfl (λ K hK=>?_) (by decide +kernel)
  refine ZcH (X:=[(⟨[.int .i64 l[k].kind,.string l[k].text,.bool l[k].spaced,.slice ao l[k].hidden.length c2],l[k],fp2⟩:Elem Tok)]) ZaG rfl (by decide) _ 41 rfl rfl (.tmp 37) (.tmp 40) rfl top (.slice au M.length cu) rfl HT1.out w4.heap.size 1 1 rfl rfl (λ x hx=>by obtain rfl:=Qm hx;rfl) (λ x hx=>by obtain rfl:=Qm hx;simp [Value.oneCell']) (λ j u hj=>by rw [cell_of_row _ _ _ _ _ _ HL5.out];simpa using hj) (λ x hx=>by obtain rfl:=Qm hx;exact HT5.out.1) (λ x hx b hb=>by obtain rfl:=Qm hx;have:=(HT5.out.2.1.2 b hb).1;omega) (λ x hx b hb=>by obtain rfl:=Qm hx;obtain⟨cur,t,fr,z1,z2⟩:=HT5.out.2.2 b hb;exact⟨cur,t,fr,z1,by rw [z2];decide⟩) (by unfold maxLen;omega) (by omega) (by omega) ?_
  intro v6 w6 hG6 hg6
  have HN:=Qh (HS5.out.more (x:=⟨[.int .i64 l[k].kind,.string l[k].text,.bool l[k].spaced,.slice ao l[k].hidden.length c2],l[k],fp2⟩) HT1.out t2 (by omega) HTOP.out (HT5.out.2.1.lower (by omega)) HT5.out.2.2 (λ b hb hx=>by have h1:=(HT5.out.2.1.2 b hb).1;have h2:=HOLD.out b hx;omega) hG6 hg6)
  have hb6:=hb5t.grown hg6 hb5t.size HS5.out.umine
  have hH6:=(hg6.block _ (Qg hHeld).1 (λ e=>by have:=HULT.out _ e.symm;omega)).trans hHeld
  have hcell6:w6.cell? ⟨ga,A.length,none⟩=some (.slice au M.length cu):=(World.cell?_of_block (hg6.block ga (by have:=hb5t.size;omega) (λ e=>by rcases Zds HS5.out.row HT1.out.row (by decide) with h0 | h0;cases h0;exact h0 (by rw [← e];rfl)))).trans HS5.out.cell
  have hfr6:w6.frozen? ⟨ga,A.length,none⟩=false:=(World.frozen?_of_block (hg6.block ga (by have:=hb5t.size;omega) (λ e=>by rcases Zds HS5.out.row HT1.out.row (by decide) with h0 | h0;cases h0;exact h0 (by rw [← e];rfl)))).trans (HS5.out.frozen _)
  obtain⟨a6,c6,rfl,-⟩:=hG6.val
  clear hG6 hg6
  refine hK.out _ _ hH6 (λ hHeld=>?_)
  clear hK K
  try simp only [Qp]
  refine Qt 10 42 rfl rfl ?_ (by intro w hSw;obtain⟨s0,s1,s2,s3⟩:=Q4 hSw;go_simp;(first | done | with_reducible rfl | rfl))
  try simp only [Qp]
  refine Qr 11 rfl (λ K hK=>?_) (by decide +kernel)
  have hbne:wr.heap.size≠ga:=by omega
  have hb7:=hb6.setCell (p:=⟨ga,A.length,none⟩) (by show w.heap.size<=ga;omega) (.slice a6 (M++[(⟨[.int .i64 l[k].kind,.string l[k].text,.bool l[k].spaced,.slice ao l[k].hidden.length c2],l[k],fp2⟩:Elem Tok)]).length c6)
  have hH7:=Zaz hHeld hbne A.length (.slice a6 (M++[(⟨[.int .i64 l[k].kind,.string l[k].text,.bool l[k].spaced,.slice ao l[k].hidden.length c2],l[k],fp2⟩:Elem Tok)]).length c6)
  simp only [List.length_append,List.length_cons,List.length_nil,Nat.zero_add] at hb7 hH7 HN ⊢
  go_simp
  refine hK.out _ _ hH7 (λ hHeld=>?_)
  clear hK K
  try simp only [Qp]
  refine wpAnyH_done (by kernel_rfl) ?_ _
  refine NoPanic.normal ?_
  clear hHeld
  go_wp2
  go_roundw
  case rel=>exact⟨k+1,_,_,A,M++[(⟨[.int .i64 l[k].kind,.string l[k].text,.bool l[k].spaced,.slice ao l[k].hidden.length c2],l[k],fp2⟩:Elem Tok)],by omega,by go_num,rfl,by omega,by omega,by omega,by simp;omega,HN,by show _=_;rw [← HF.out,List.map_append];rfl,hb7⟩
  case measure=>simp [intOf];omega
 refine AllReadyH.cons rfl (λ K hK=>?_) AllReadyH.nil
 have bl:=Zab w4 (.cells #[.int .i64 l[k].kind,.string l[k].text,.bool l[k].spaced,.slice ao l[k].hidden.length c2] 32)
 have HL5:=Qh (heap_alloc_new w4 (.cells #[.int .i64 l[k].kind,.string l[k].text,.bool l[k].spaced,.slice ao l[k].hidden.length c2] 32))
 have HS5:=Qh (HS4.out.below bl)
 have HT1:=Qh (HTE.out.below bl)
 have hb5t:=hb4t.trans (bl.mono hb4t.size)
 have hs5:(w4.alloc (.cells #[.int .i64 l[k].kind,.string l[k].text,.bool l[k].spaced,.slice ao l[k].hidden.length c2] 32)).heap.size=w4.heap.size+1:=Array.size_push _
 have HT5:=Qh (And.intro (sTok.below HT4.out.1 bl) (And.intro (HT4.out.2.1.grow bl) (show ∀ b∈fp2,∃ cur t fr,(w4.alloc (.cells #[.int .i64 l[k].kind,.string l[k].text,.bool l[k].spaced,.slice ao l[k].hidden.length c2] 32)).heap[b]?=some (.cells cur t fr)/\t=9 from λ b hb=>by obtain⟨cur,t,fr,z1,z2⟩:=HT4.out.2.2 b hb;exact⟨cur,t,fr,(bl.block b (Qg z1).1).trans z1,z2⟩)))
 have hH5:=(bl.block _ (Qg hHeld).1).trans hHeld
 go_simp
 refine hK.out _ _ hH5 (λ hHeld=>?_)
 clear hK K bl
 try simp only [Qp]
 generalize hw5:(w4.alloc (.cells #[.int .i64 l[k].kind,.string l[k].text,.bool l[k].spaced,.slice ao l[k].hidden.length c2] 32))=w5 at *
 clear hw5
 refine Qr 5 rfl (λ K hK=>?_) (by decide +kernel)
 have hcell:=HS5.out.cell
 go_simp
 refine hK.out _ _ hHeld (λ hHeld=>?_)
 clear hK K
 try simp only [Qp]
 refine Qr 9 rfl (λ K hK=>?_) (by decide +kernel)
 refine ZcH (X:=[(⟨[.int .i64 l[k].kind,.string l[k].text,.bool l[k].spaced,.slice ao l[k].hidden.length c2],l[k],fp2⟩:Elem Tok)]) ZaG rfl (by decide) _ 41 rfl rfl (.tmp 37) (.tmp 40) rfl top (.slice au M.length cu) rfl HT1.out w4.heap.size 1 1 rfl rfl (λ x hx=>by obtain rfl:=Qm hx;rfl) (λ x hx=>by obtain rfl:=Qm hx;simp [Value.oneCell']) (λ j u hj=>by rw [cell_of_row _ _ _ _ _ _ HL5.out];simpa using hj) (λ x hx=>by obtain rfl:=Qm hx;exact HT5.out.1) (λ x hx b hb=>by obtain rfl:=Qm hx;have:=(HT5.out.2.1.2 b hb).1;omega) (λ x hx b hb=>by obtain rfl:=Qm hx;obtain⟨cur,t,fr,z1,z2⟩:=HT5.out.2.2 b hb;exact⟨cur,t,fr,z1,by rw [z2];decide⟩) (by unfold maxLen;omega) (by omega) (by omega) ?_
 intro v6 w6 hG6 hg6
 have HN:=Qh (HS5.out.more (x:=⟨[.int .i64 l[k].kind,.string l[k].text,.bool l[k].spaced,.slice ao l[k].hidden.length c2],l[k],fp2⟩) HT1.out t2 (by omega) HTOP.out (HT5.out.2.1.lower (by omega)) HT5.out.2.2 (λ b hb hx=>by have h1:=(HT5.out.2.1.2 b hb).1;have h2:=HOLD.out b hx;omega) hG6 hg6)
 have hb6:=hb5t.grown hg6 hb5t.size HS5.out.umine
 have hH6:=(hg6.block _ (Qg hHeld).1 (λ e=>by have:=HULT.out _ e.symm;omega)).trans hHeld
 have hcell6:w6.cell? ⟨ga,A.length,none⟩=some (.slice au M.length cu):=(World.cell?_of_block (hg6.block ga (by have:=hb5t.size;omega) (λ e=>by rcases Zds HS5.out.row HT1.out.row (by decide) with h0 | h0;cases h0;exact h0 (by rw [← e];rfl)))).trans HS5.out.cell
 have hfr6:w6.frozen? ⟨ga,A.length,none⟩=false:=(World.frozen?_of_block (hg6.block ga (by have:=hb5t.size;omega) (λ e=>by rcases Zds HS5.out.row HT1.out.row (by decide) with h0 | h0;cases h0;exact h0 (by rw [← e];rfl)))).trans (HS5.out.frozen _)
 obtain⟨a6,c6,rfl,-⟩:=hG6.val
 clear hG6 hg6
 refine hK.out _ _ hH6 (λ hHeld=>?_)
 clear hK K
 try simp only [Qp]
 refine Qt 10 42 rfl rfl ?_ (by intro w hSw;obtain⟨s0,s1,s2,s3⟩:=Q4 hSw;go_simp;(first | done | with_reducible rfl | rfl))
 try simp only [Qp]
 refine Qr 11 rfl (λ K hK=>?_) (by decide +kernel)
 have hbne:wr.heap.size≠ga:=by omega
 have hb7:=hb6.setCell (p:=⟨ga,A.length,none⟩) (by show w.heap.size<=ga;omega) (.slice a6 (M++[(⟨[.int .i64 l[k].kind,.string l[k].text,.bool l[k].spaced,.slice ao l[k].hidden.length c2],l[k],fp2⟩:Elem Tok)]).length c6)
 have hH7:=Zaz hHeld hbne A.length (.slice a6 (M++[(⟨[.int .i64 l[k].kind,.string l[k].text,.bool l[k].spaced,.slice ao l[k].hidden.length c2],l[k],fp2⟩:Elem Tok)]).length c6)
 simp only [List.length_append,List.length_cons,List.length_nil,Nat.zero_add] at hb7 hH7 HN ⊢
 go_simp
 refine hK.out _ _ hH7 (λ hHeld=>?_)
 clear hK K
 try simp only [Qp]
 refine wpAnyH_done (by kernel_rfl) ?_ _
 refine NoPanic.normal ?_
 clear hHeld
 go_wp2
 go_roundw
 case rel=>exact⟨k+1,_,_,A,M++[(⟨[.int .i64 l[k].kind,.string l[k].text,.bool l[k].spaced,.slice ao l[k].hidden.length c2],l[k],fp2⟩:Elem Tok)],by omega,by go_num,rfl,by omega,by omega,by omega,by simp;omega,HN,by show _=_;rw [← HF.out,List.map_append];rfl,hb7⟩
 case measure=>simp [intOf];omega):g:=h
theorem Zfr (v:Value) (l:List Tok) (fp:List Nat) (w:World) (hl:l.length<=60) (hx:∀ k,(hk:k<l.length)->l[k].hidden.length<=2000000) (H:(Zaa sTok).R w [v] l fp) :
  Calls Tryz.prog 137 #[v] w λ e w'=>∃ v' fp',e=.returned v'/\(Zaa sToks).R w' [v'] (dvGo l 0 [] []) fp'/\Own w' w.heap.size fp'/\Below w.heap.size w w':=by
 obtain⟨a,cap,rfl,hc,hm,hrow⟩:=Zac H
 unfold maxLen at hm
 clear H
 have HX:=Qh hx
 clear hx
 obtain⟨r,HR⟩:∃ r,Hid (r=dvGo l 0 [] []):=⟨_,rfl⟩
 rw [← HR.out]
 go_enter Tryz.func137,Tryz.ntmps137
 go_wp2_with (at_make;refine ZcQ ZdM _ rfl _ _ rfl w.heap.size 1 rfl rfl (by omega) (by unfold maxLen;omega) (Nat.le_refl _) ?_;intro w1 hown hgrow)
 have hbel:=(Below.refl w.heap.size w).grown hgrow (Nat.le_refl _) (by simp)
 rw [show (madeCells (Value.slice none 0 0).cells (1 * 1)).toList=[.slice none 0 0] by kernel_rfl] at hown
 have HS0:Hid (DivSt w.heap.size (.slice (some ⟨w.heap.size,0,none⟩) 1 1) (.slice none 0 0) [] [] w1):=
  ⟨hown,by simp,by simp,⟨w1.heap.size,RowE.nil _ _ _ _,hgrow.size,Nat.le_refl _,by simp⟩,Own.nil _ _,Own.nil _ _,(show TokTy w1 [] from λ b hb=>by simp at hb),(show TokTy w1 [] from λ b hb=>by simp at hb)⟩
 clear hgrow hown
 go_loopw [3,4,11] (λ va d i wr=>∃ (k:Nat) (dd:Int) (u:Value) (A:List (Elem (List Tok))) (M:List (Elem Tok)),k<=l.length/\i=.int .i64 k/\d=.int .i64 dd/\-(k:Int)<=dd/\dd<=k/\A.length<=k/\M.length<=k/\Hid (DivSt w.heap.size va u A M wr)/\Hid (dvGo (l.drop k) dd (A.map (·.d)) (M.map (·.d))=r)/\Below w.heap.size w wr) (λ _ _ i _=>l.length-(intOf i).toNat)
 case atStart=>exact⟨0,0,_,[],[],by omega,rfl,rfl,by omega,by omega,by simp,by simp,HS0,HR.out.symm,hbel⟩
 case round =>
  clear HS0 hbel HR
  obtain⟨k,dd,u,A,M,hk,rfl,rfl,hd1,hd2,hAk,hMk,HS,HI,hb⟩:=hrel
  obtain⟨ga,ca,rfl,hga,hgs,hca,hcm⟩:=HS.out.val
  unfold maxLen at hcm
  obtain⟨au,cu,rfl⟩:=HS.out.uval
  by_cases hlt:k<l.length
  ·obtain⟨b1,off1,fps1,rfl,hb1,-,he1⟩:=hrow (by omega)
   obtain⟨es1,hE1,hR1⟩:=he1 k hlt
   clear hrow he1
   have hR2:=sTok.below hR1 hb
   obtain⟨h1',rfl,_,_,hK1⟩:=hR1
   obtain⟨ah,ch,rfl,-⟩:=Zaf hK1
   clear hK1
   replace hE1:=hE1.frame (hb.block b1 hb1)
   have c10:wr.cell? ⟨b1,off1+k * 4,none⟩=some _:=Zam hE1 (by decide) rfl
   have c11:wr.cell? ⟨b1,off1+k * 4+1,none⟩=some _:=Zae (j:=1) hE1 (by decide) rfl
   have c12:wr.cell? ⟨b1,off1+k * 4+2,none⟩=some _:=Zae (j:=2) hE1 (by decide) rfl
   have c13:wr.cell? ⟨b1,off1+k * 4+3,none⟩=some _:=Zae (j:=3) hE1 (by decide) rfl
   clear hE1
   have hbx:=Zab wr (.cells #[.int .i64 l[k].kind,.string l[k].text,.bool l[k].spaced,.slice ah l[k].hidden.length ch] 32)
   have HX0:=Qh (heap_alloc_new wr (.cells #[.int .i64 l[k].kind,.string l[k].text,.bool l[k].spaced,.slice ah l[k].hidden.length ch] 32))
   have HS1:=Qh (HS.out.below hbx)
   have HRT:=Qh hR2
   have hbw:=hb.trans (hbx.mono hb.size)
   have hst:=HI.out
   rw [Zny hlt] at hst
   have hsz:(wr.alloc (.cells #[.int .i64 l[k].kind,.string l[k].text,.bool l[k].spaced,.slice ah l[k].hidden.length ch] 32)).heap.size=wr.heap.size+1:=Array.size_push _
   have HUL:=Qh HS.out.ult
   have HML:=Qh HS.out.ownM.lt
   clear hR2 HI HS
   by_cases hcomma:dd=0/\isCom l[k]=true
   ·
    rw [if_pos hcomma] at hst
    obtain⟨hd0,hcm2⟩:=hcomma
    have e0:(dd==0)=true:=by simpa using hd0
    have e1:(l[k].text.toList==[44])=true:=hcm2
    have HF:=Qh hst
    obtain⟨fpu,q1,q2,q3,q4⟩:=HS1.out.arg
    have HQ:=Qh (And.intro q1 (And.intro q2 (And.intro q3 q4)))
    have hrow1:=Qh HS1.out.row
    clear hst hcm2 q1 q2 q3 q4
    subst hd0
    go_wp2_with (at_builtin;refine Zei ZdM rfl (by decide) _ (A.flatMap (·.cells)++[.slice au M.length cu]) [.slice none 0 0] rfl (by simp [Value.oneCell']) rfl (.tmp 22) (.tmp 23) rfl w.heap.size (.slice (some ⟨ga,0,none⟩) (A.length+1) ca) (A.length+1) rfl hrow1.out (by rw [hsz];rfl) (by unfold maxLen;omega) (by omega) hbw.size ?_;intro v3 w3 hown3 hg3;have hb3:=hbw.grown hg3 hbw.size (λ b hb=>by simp only [Value.ownBlock,Qi] at hb;omega);have HN:=Qh (HS1.out.next HQ.out.1 HQ.out.2.1 HQ.out.2.2.1 HQ.out.2.2.2 hbw.size hown3 hg3);clear hown3 hg3)
    go_roundw
    case rel=>exact⟨k+1,0,_,A++[(⟨[.slice au M.length cu],M.map (·.d),fpu⟩:Elem (List Tok))],[],by omega,by go_num,rfl,by omega,by omega,by simp;omega,by simp,HN,by show _=_;rw [← HF.out,List.map_append];rfl,hb3⟩
    case measure=>simp [intOf];omega
   ·rw [if_neg hcomma] at hst
    have HF:=Qh hst
    have ho:=opn_ge l[k]
    have hwr:IntKind.i64.wrap (dd+opn l[k])=dd+opn l[k]:=IntWalk.i64_in _ (by omega)
    have hwl:IntKind.i64.wrap (((A.length+1:Nat):Int)-1)=(A.length:Int):=by rw [IntWalk.i64_in _ (by omega)];omega
    have hwl2:IntKind.i64.wrap ((A.length:Int)+1-1)=(A.length:Int):=by rw [IntWalk.i64_in _ (by omega)];omega
    have HOP:=Qh (λ W (hW:Below wr.heap.size wr W)=>Zf8 _ l[k] _ W (sTok.below HRT.out hW))
    have HCP:=Qh (λ W (hW:Below wr.heap.size wr W)=>Zcv _ l[k] _ W (HX.out k hlt) (sTok.below HRT.out hW))
    clear hst HRT
    obtain⟨cm,HCM⟩:∃ cm:Bool,Hid (cm=isCom l[k]):=⟨isCom l[k],rfl⟩
    generalize hon:opn l[k]=on at *
    have hnc:∀ b:Bool,b=(decide (dd=0) && cm)->b=false:=by
     rintro b rfl
     rw [Bool.and_eq_false_iff]
     by_cases h0:dd=0
     ·right
      rw [HCM.out]
      cases e:isCom l[k]
      ·rfl
      ·exact absurd ⟨h0,e⟩ hcomma
     ·left;exact decide_eq_false h0
    have HULT:Hid (∀ g,(Value.slice au M.length cu).ownBlock=some g->g<wr.heap.size):=HUL.out
    have HOLD:Hid (∀ b∈M.flatMap (·.fp),b<wr.heap.size):=HML.out
    by_cases h0:dd=0
    ·have e0:(dd==0)=true:=by simpa using h0
     have hcf:cm=false:=hnc cm (by rw [decide_eq_true h0];rfl)
     have e1:(l[k].text.toList==[44])=false:=by rw [hcf] at HCM;exact HCM.out.symm
     clear hcomma hnc hcf HCM hsz HUL HML
     subst h0
     rw [Int.zero_add] at HF
     exact Y17A1
    ·have e0:(dd==0)=false:=by simpa using h0
     clear hcomma hnc HCM hsz HUL HML
     exact Y17A1
  ·have HF:=Qh ((dvGo_end (by omega:l.length<=k) dd _ _).symm.trans HI.out)
   obtain⟨fpr,hr,ho⟩:=HS.out.done
   have HRR:=Qh hr
   have HOO:=Qh ho
   clear HI hr ho
   go_wp2
   go_ret
   exact⟨_,fpr,rfl,by rw [← HF.out];exact HRR.out,HOO.out,hb⟩
def Zfs (r:Args × Int × Bool) (w:World) (e:Ending) (w':World):Prop:=
 ∃ (v:Value) (fp:List Nat),e=.returned (.tuple #[v,.int .i64 r.2.1,.bool r.2.2])/\(Zaa sToks).R w' [v] r.1 fp/\Own w' w.heap.size fp/\Below w.heap.size w w'
theorem Zmz {l:List Tok} {n:Nat} (hn:n<l.length) (h:Zcg l[n]=true):clGo (l.drop n) 0 n=clGo (l.drop (n+1)) 1 (n+1):=by
 rw [Zjr hn,Zkf h,if_neg (by omega)];rfl
def Zc0 (l:List Tok) (n:Nat):Args × Int × Bool:=
 match clGo (l.drop (n+1)) 1 (n+1) with
 | none=>([],0,false)
 | some e=>(dvGo ((l.drop (n+1)).take (e-(n+1))) 0 [] [],((e+1:Nat):Int),true)
theorem Zg3 {l:List Tok} {n:Nat} (h:clGo (l.drop (n+1)) 1 (n+1)=none):Zc0 l n=([],0,false):=by unfold Zc0;rw [h]
theorem Zg4 {l:List Tok} {n e:Nat} (h:clGo (l.drop (n+1)) 1 (n+1)=some e):Zc0 l n=(dvGo ((l.drop (n+1)).take (e-(n+1))) 0 [] [],((e+1:Nat):Int),true):=by unfold Zc0;rw [h]
theorem Zhv (v:Value) (l:List Tok) (fp:List Nat) (n:Nat) (w:World) (hl60:l.length<=60) (hn:n<l.length) (ho:Zcg l[n]=true) (hx:∀ k,(hk:k<l.length)->l[k].hidden.length<=2000000) (H:(Zaa sTok).R w [v] l fp) :
  Calls Tryz.prog 118 #[v,.int .i64 n] w (Zfs (Zc0 l n) w):=by
 have HR1:=Qh H
 obtain⟨a1,c1,rfl,hc1,hm1,hrow⟩:=Zac H
 unfold maxLen at hm1
 obtain⟨b1,off1,fps1,rfl,hb1,-,he1⟩:=hrow (by omega)
 clear H hrow he1
 have hNo:∀ (W:World),Below w.heap.size w W->Zc0 l n=([],0,false)->Zfs (Zc0 l n) w (.returned (.tuple #[.slice none 0 0,.int .i64 0,.bool false])) W:=λ W hW h=>by
  rw [h]
  exact⟨_,[],rfl,Zay sToks _ _ 0 (by simp),Own.nil _ _,hW⟩
 have HNO:=Qh hNo
 clear hNo
 go_enter Tryz.func118,Tryz.ntmps118
 have HCL:=Qh (ZgC _ l fp n w hl60 (by omega) HR1.out)
 rw [Zmz hn ho] at HCL
 cases hcl:clGo (l.drop (n+1)) 1 (n+1) with
 |
  none =>
  have HF:=Qh (Zg3 hcl)
  rw [hcl] at HCL
  clear hcl ho
  go_wp2_with fail
  refine HCL.out.mono ?_
  rintro e w3 ⟨rfl,hb3⟩
  unfold clRes
  go_wp2
  go_ret3
  exact HNO.out _ hb3 HF.out
 |
  some e =>
  have HF:=Qh (Zg4 hcl)
  have hge:=ZeS _ _ _ _ hcl
  rw [List.length_drop] at hge
  rw [hcl] at HCL
  clear hcl ho
  obtain⟨hge1,hge2⟩:=hge
  have hel:e<l.length:=by omega
  go_wp2_with fail
  refine HCL.out.mono ?_
  rintro ee w3 ⟨rfl,hb3⟩
  have hbx:=hb3
  have hcr:clRes (some e)=(e:Int):=rfl
  rw [hcr]
  obtain⟨ft,RT,-⟩:=Zcr e (by omega) HR1.out
  obtain⟨fd,RD,-⟩:=Za3 (n+1) (by rw [List.length_take];omega) RT
  rw [if_neg (by omega),Option.map_some,Addr.add_lit,List.drop_take] at RD
  have HLX:Hid (∀ k,(hk:k<((l.drop (n+1)).take (e-(n+1))).length)->((l.drop (n+1)).take (e-(n+1)))[k].hidden.length<=2000000):=λ k hk=>by
   rw [List.getElem_take,List.getElem_drop]
   exact hx _ _
  have HDV:=Qh (Zfr _ ((l.drop (n+1)).take (e-(n+1))) fd w3 (by rw [List.length_take,List.length_drop];omega) HLX.out ((Zaa sTok).below RD hbx))
  have hwr:IntKind.i64.wrap ((n:Int)+1)=(n:Int)+1:=IntWalk.i64_in _ (by omega)
  have hwr2:IntKind.i64.wrap ((e:Int)+1)=(e:Int)+1:=IntWalk.i64_in _ (by omega)
  have hne:¬ c1=n+1:=by omega
  have hp0:¬ (e:Int)<0:=by omega
  have hp1:(0:Int)<=(n:Int)+1:=by omega
  have hp2:(n:Int)+1<=(e:Int):=by omega
  have hp3:(e:Int)<=(c1:Int):=by omega
  have hp4:n+1<=c1:=by omega
  have hp5:((n:Int)+1).toNat=n+1:=by omega
  have hm4:sTok.m=4:=rfl
  rw [hm4] at HDV
  clear RT RD HLX
  go_wp2_with fail
  refine HDV.out.mono ?_
  rintro ee w4 ⟨v4,fp4,rfl,hR4,hO4,hb4⟩
  have HRR:=Qh hR4
  have HOO:=Qh hO4
  have hb5:=hbx.trans (hb4.mono hbx.size)
  have hs5:=hbx.size
  clear hR4 hO4
  go_wp2
  go_ret3
  rw [HF.out]
  exact⟨_,fp4,rfl,HRR.out,HOO.out.lower hs5,hb5⟩
def Tx (t:Tok):Prop:=Zak t.text t.kind=true
theorem Tx.bare {t:Tok} (h:Tx t):tokOk ⟨t.kind,t.text,t.spaced,[]⟩=true:=by
 unfold tokOk
 rw [show Zak t.text t.kind=true from h]
 rfl
theorem Tx.of {t:Tok} (h:tokOk t=true):Tx t:=by
 unfold tokOk at h
 exact(Bool.and_eq_true_iff.1 h).1
theorem Tx.toks {l:List Tok} (h:Zaj l=true):∀ t∈l,Tx t:=λ t ht=>by
 obtain⟨k,hk,rfl⟩:=List.getElem_of_mem ht
 exact Tx.of ((Zan h).2 k hk)
theorem tx_kind {t:Tok} (h:Tx t) {c:UInt8} {l:List UInt8} (e:t.text=⟨(c::l).toArray⟩):t.kind=cutKind c:=Zm7 (t:=⟨t.kind,t.text,t.spaced,[]⟩) h.bare e
theorem Zgw {t:Tok} (h:Tx t) {c:UInt8} (hc:cutKind c=4):isM t [c]=(t.text.toList==[c]):=by
 unfold isM
 cases e:(t.text.toList==[c])
 ·rw [Bool.and_false]
 ·rw [tx_kind h (txt_eq e),hc];rfl
theorem Zl3 {t:Tok} (h:Tx t):isM t [40]=Zcg t:=Zgw h (by decide)
theorem tx_opn {t:Tok} (h:Tx t):opnK t=opn t:=by
 unfold opnK opn
 rw [Zl3 h,show isM t [41]=Zd3 t from Zgw h (by decide)]
theorem Zgx:∀ (l:List Tok) (d:Int) (A:Args) (M:List Tok) (k:Nat),(∀ t∈l,Tx t)->splK l d A M k=spGo l d A M k
 | [],_,_,_,_,_=>rfl
 |
  t::r,d,A,M,k,h=>by
  have hr:∀ u∈r,Tx u:=λ u hu=>h u (by simp [hu])
  unfold splK spGo
  rw [tx_opn (h t (by simp)),show isM t [44]=isCom t from Zgw (h t (by simp)) (by decide),Zgx r _ _ _ _ hr,Zgx r _ _ _ _ hr]
theorem Znz {l:List Tok} (h:∀ t∈l,Tx t) {A:Args} {e:Nat} (hs:splK (l.drop 2) 1 [] [] 2=(A,e,false)):Zc0 l 1=([],0,false):=by
 rw [Zgx _ _ _ _ _ (λ t ht=>h t (List.mem_of_mem_drop ht))] at hs
 have:=sp_dv (l.drop 2) 0 [] [] 2
 rw [show (0:Int)+1=1 from rfl] at this
 cases hc:clGo (l.drop 2) 1 2 with
 | none=>exact Zg3 hc
 | some e'=>rw [hc] at this;simp only at this;rw [this] at hs;simp at hs
theorem ZmA {l:List Tok} (h:∀ t∈l,Tx t) {A:Args} {e:Nat} (hs:splK (l.drop 2) 1 [] [] 2=(A,e,true)):Zc0 l 1=(A,(e:Int),true):=by
 rw [Zgx _ _ _ _ _ (λ t ht=>h t (List.mem_of_mem_drop ht))] at hs
 have:=sp_dv (l.drop 2) 0 [] [] 2
 rw [show (0:Int)+1=1 from rfl] at this
 cases hc:clGo (l.drop 2) 1 2 with
 | none=>rw [hc] at this;simp only at this;rw [hs] at this;simp at this
 |
  some e' =>
  rw [hc] at this;simp only at this
  rw [this] at hs
  simp only [Prod.mk.injEq,and_true] at hs
  obtain⟨rfl,rfl⟩:=hs
  exact Zg4 hc
/-! ### What is put in are tokens -/
theorem Zid {b:Bool}:∀ {l:List Tok},(∀ t∈l,tokOk t=true)->∀ t∈spc b l,tokOk t=true
 | [],_,t,ht=>by simp [spc] at ht
 |
  x::r,h,t,ht=>by
  rcases List.mem_cons.1 ht with rfl | ht
  ·exact h x (by simp)
  ·exact h t (by simp [ht])
theorem ZjB {m:DMacro} {a:List (List Tok)} (h:Zas m a=true):∀ l∈a,∀ t∈l,tokOk t=true:=λ l hl t ht=>by
 unfold Zas at h
 rw [Bool.and_eq_true,List.all_eq_true] at h
 have:=h.2 l hl
 obtain⟨k,hk,rfl⟩:=List.getElem_of_mem ht
 exact(Zan this).2 k hk
theorem part_ok {m:DMacro} {raw ready:List (List Tok)} (hv:macOk m=true) (ha:∀ l∈raw,∀ t∈l,tokOk t=true) (hy:∀ l∈ready,∀ t∈l,tokOk t=true) (k:Nat) (hok:(ZaC m raw ready k).2.2=true):∀ t∈(ZaC m raw ready k).1,tokOk t=true:=by
 intro t ht
 unfold ZaC at ht hok
 split at ht
 ·rename_i hk
  rw [dif_pos hk] at hok
  split at ht
  ·rename_i hf
   rw [if_pos hf] at hok
   split at ht
   ·rename_i hk2
    rw [dif_pos hk2] at hok
    rw [Qm ht]
    obtain⟨kk,s,b,hx,-⟩:=Zdf (argAt raw (parOf m.params m.body[k+1]))
    have hok':(ZaT (argAt raw (parOf m.params m.body[k+1]))).2=true:=hok
    rcases hz:ZaT (argAt raw (parOf m.params m.body[k+1])) with⟨z,o⟩
    rw [hz] at hok'
    have hok2:o=true:=hok'
    subst hok2
    exact(txt_back hz).1
   ·simp at ht
  ·split at ht
   ·rw [Qm ht];exact(Zb8 hk ((ZaJ hv).2.2 k hk)).1
   ·split at ht
    ·exact Zid (Zet ha _) t ht
    ·exact Zid (Zet hy _) t ht
 ·simp at ht
theorem subGo_ok {m:DMacro} {raw ready:List (List Tok)} (hv:macOk m=true) (ha:∀ l∈raw,∀ t∈l,tokOk t=true) (hy:∀ l∈ready,∀ t∈l,tokOk t=true):∀ (d k:Nat) (out:List Tok) (emp paste:Bool),m.body.length-k<=d->(∀ t∈out,tokOk t=true)->∀ t∈(subGo m raw ready k out emp paste).1,tokOk t=true:=by
 intro d
 induction d with
 | zero=>intro k out emp paste hd ho;rw [ZdN (by omega)];exact ho
 |
  succ d ih =>
  intro k out emp paste hd ho
  by_cases hk:k<m.body.length
  rotate_left
  ·rw [ZdN (by omega)];exact ho
  by_cases h1:isM m.body[k] [35,35]=true/\paste=false
  ·obtain⟨h1,rfl⟩:=h1
   rw [Zfi hk h1]
   exact ih _ _ _ _ (by omega) ho
  have hP2:=part_ok hv ha hy k
  have hnx:=Zep m raw ready k
  rcases hP:ZaC m raw ready k with⟨P,nx,ok⟩
  rw [hP] at hP2 hnx
  have hnx':k<nx:=hnx
  cases ok
  ·rw [ZeU hk h1 hP];simp
  have hP2':∀ t∈P,tokOk t=true:=hP2 rfl
  by_cases h2:paste=true/\emp=false/\0<P.length
  ·rcases hz:Zaq (out.getLastD zTok) (P.headD zTok) with⟨z,fine⟩
   cases fine
   ·rw [ZhX hk h1 hP h2 hz];simp
   ·rw [Zgu hk h1 hP h2 hz]
    refine ih _ _ _ _ (by omega) λ t ht=>?_
    rcases Qa ht with ht | ht
    ·exact ho t ((List.dropLast_sublist out).subset ht)
    ·rcases List.mem_cons.1 ht with rfl | ht
     ·exact(Zfg hz).1
     ·exact hP2' t (List.mem_of_mem_tail ht)
  ·rw [ZdO hk h1 hP h2]
   refine ih _ _ _ _ (by omega) λ t ht=>?_
   rcases Qa ht with ht | ht
   ·exact ho t ht
   ·exact hP2' t ht
theorem sub_ok {m:DMacro} {raw ready:List (List Tok)}:∀ t∈(Zap m raw ready).1,tokOk t=true:=by
 unfold Zap
 split
 ·rename_i h
  split
  ·simp
  ·exact subGo_ok h.1 (ZjB h.2.1) (ZjB h.2.2) _ 0 [] true false (Nat.le_refl _) (by simp)
 ·simp
theorem spc_tx {b:Bool}:∀ {l:List Tok},(∀ t∈l,Tx t)->∀ t∈spc b l,Tx t
 | [],_,t,ht=>by simp [spc] at ht
 |
  x::r,h,t,ht=>by
  rcases List.mem_cons.1 ht with rfl | ht
  ·exact h x (by simp)
  ·exact h t (by simp [ht])
theorem putL_tx {l:List Tok} {h:List ByteArray} {sp:Bool} (hl:∀ t∈l,Tx t):∀ t∈putL l h sp,Tx t:=by
 refine spc_tx λ t ht=>?_
 obtain⟨u,hu,rfl⟩:=List.mem_map.1 ht
 exact hl u hu
theorem sub_tx {m:DMacro} {raw ready:List (List Tok)}:∀ t∈(Zap m raw ready).1,Tx t:=λ t ht=>Tx.of (sub_ok t ht)
theorem put_spc {h:List ByteArray} {b:Bool}:∀ {l:List Tok},(spc b l).map (putT h)=putL l h b
 | []=>rfl
 | _::_=>rfl
/-! ### The macro that is used -/
theorem ZnA {T:List DMacro} (hT:tabOk T=true) {t:Tok} (ht:Tx t) (h:isIn T t.text=true):t.kind=1:=by
 unfold isIn at h
 split at h
 ·rename_i hl
  have e:=Zcs h
  have hn:=(ZaJ ((Zev hT).2.1 _ (List.getElem_mem hl))).1.1
  rw [e] at hn
  exact Zhb ht hn
 ·simp at h
theorem tx_has (l:List ByteArray) (x:ByteArray):hasTx l x=hasN l x:=by
 unfold hasTx hasN
 induction l with
 | nil=>rfl
 |
  cons y r ih =>
  rw [List.any_cons,List.any_cons,ih]
  congr 1
  cases e:(y.toList==x.toList)
  ·simp only [decide_eq_false_iff_not]
   intro h;rw [Zbm h] at e;exact absurd e (by simp)
  ·simp only [decide_eq_true_eq]
   exact Zcs e
theorem find_out {T:List DMacro} (hT:tabOk T=true) {t:Tok} (h:isIn T t.text=false):findM T t=none:=by
 unfold findM
 rw [if_neg]
 intro h'
 have:=h'.2.2
 rw [Zfa hT,h] at this
 simp at this
theorem find_at {T:List DMacro} (hT:tabOk T=true) {t:Tok} (ht:Tx t) (h:isIn T t.text=true) (hh:hasN t.hidden t.text=false):∃ hl:lowAt T t.text<T.length,findM T t=some T[lowAt T t.text]:=by
 have hl:lowAt T t.text<T.length:=by
  unfold isIn at h
  split at h
  ·rename_i hl;exact hl
  ·simp at h
 refine ⟨hl,?_⟩
 unfold findM
 rw [if_pos ⟨ZnA hT ht h,hh,by rw [Zfa hT,if_pos h];omega⟩,Zfa hT,if_pos h]
 exact List.getElem?_eq_getElem hl
theorem goM_none {T:List DMacro} {t:Tok} {r:List Tok} (h:findM T t=none):goM T (t::r)=none:=by unfold goM;dsimp only;rw [h]
theorem goM_shut {T:List DMacro} {t:Tok} {r:List Tok} {m:DMacro} (h:findM T t=some m) (hf:m.function=true) (ho:ZeV r=false):goM T (t::r)=none:=by unfold goM;dsimp only;rw [h];dsimp only;rw [if_pos ⟨hf,ho⟩]
theorem goM_some {T:List DMacro} {t:Tok} {r:List Tok} {m:DMacro} (h:findM T t=some m) (hf:¬ (m.function=true/\ZeV r=false)):goM T (t::r)=some m:=by unfold goM;dsimp only;rw [h];dsimp only;rw [if_neg hf]
theorem ZkL {T:List DMacro} {l:List Tok} (h0:0<l.length) (h:findM T l[0]=none):goM T l=none:=by
 cases l with
 | nil=>simp at h0
 | cons t r=>exact goM_none h
theorem ZkM {T:List DMacro} {l:List Tok} (h0:0<l.length) {m:DMacro} (h:findM T l[0]=some m) (hf:m.function=true) (ho:∀ h1:1<l.length,isM l[1] [40]=false):goM T l=none:=by
 cases l with
 | nil=>simp at h0
 |
  cons t r =>
  refine goM_shut h hf ?_
  cases r with
  | nil=>rfl
  | cons u q=>exact ho (by simp)
theorem ZkN {T:List DMacro} {l:List Tok} (h0:0<l.length) {m:DMacro} (h:findM T l[0]=some m) (hf:m.function=true->∃ h1:1<l.length,isM l[1] [40]=true):goM T l=some m:=by
 cases l with
 | nil=>simp at h0
 |
  cons t r =>
  refine goM_some h λ ⟨h1,h2⟩=>?_
  obtain⟨h3,h4⟩:=hf h1
  cases r with
  | nil=>simp at h3
  |
   cons u q =>
   have h5:isM u [40]=true:=h4
   have h6:isM u [40]=false:=h2
   rw [h5] at h6;exact absurd h6 (by simp)
def UsedOf (T:List DMacro) (fpT:List Nat) (l:List Tok) (w:World) (e:Ending) (w':World):Prop:=
 (goM T l=none/\e=.returned (.tuple #[.agg #[.string ⟨#[]⟩,.bool false,.slice none 0 0,.slice none 0 0],.bool false])/\Below w.heap.size w w') \/
 ∃ (m:DMacro) (a2 a3:Option Addr) (c2 c3:Nat) (fp:List Nat),goM T l=some m/\e=.returned (.tuple #[.agg #[.string m.name,.bool m.function,.slice a2 m.params.length c2,.slice a3 m.body.length c3],.bool true]) /\
  sMacro.R w' [.string m.name,.bool m.function,.slice a2 m.params.length c2,.slice a3 m.body.length c3] m fp/\(∀ b∈fp,b∈fpT)/\Below w.heap.size w w'
theorem Y17A2 {g:Prop} (h:g:=by
 obtain⟨z0,z1,z2,z3⟩:=Q4 HX3.out
 have zf0:=Qf 0 HX3.out
 have zf1:=Qf 1 HX3.out
 have zf2:=Qf 2 HX3.out
 have zf3:=Qf 3 HX3.out
 have HS:=Qh (ZaH HX3.out (.string ⟨#[]⟩) (.bool false) (.slice none 0 0) (.slice none 0 0))
 have HB:=Qh (Zav (g:=w.heap.size) hB3 (Nat.le_refl _) (.string ⟨#[]⟩) (.bool false) (.slice none 0 0) (.slice none 0 0))
 unfold set4 at HS HB
 go_wp2
 refine bodyPost_ret (Zat rfl _ _ (w.heap.size) _ _ _ _ rfl HS.out Tryz.underlying56 rfl (by kernel_rfl)) rfl ?_
 exact .inl ⟨HF.out,rfl,HB.out⟩):g:=h
theorem Y17A3 {g:Prop} (h:g:=by
 unfold set4 at HS HB HRM2
 go_wp2
 refine bodyPost_ret (Zat rfl _ _ (w.heap.size) _ _ _ _ rfl HS.out Tryz.underlying56 rfl (by kernel_rfl)) rfl ?_
 exact .inr ⟨M,a2,a3,d2,d3,fm,HF.out,by rw [← HFU.out];rfl,HRM2.out,HFMM.out,HB.out⟩):g:=h
theorem ZiL (vT:Value) (T:List DMacro) (fpT:List Nat) (v:Value) (l:List Tok) (fp:List Nat) (w:World) (hT:tabOk T=true) (h0:0<l.length) (hl:l.length<=1000000) (htx:∀ u∈l,Tx u) (HT:(Zaa sMacro).R w [vT] T fpT) (H:(Zaa sTok).R w [v] l fp) :
  Calls Tryz.prog 61 #[vT,v] w (UsedOf T fpT l w):=by
 have HT0:=Qh HT
 have HLT:=Qh ((Zaa sMacro).lt HT)
 obtain⟨aT,cT,rfl,-,hcm,hrowT⟩:=Zac HT
 unfold maxLen at hcm
 have HROW:Hid (0<T.length->∃ bb ob,aT=some ⟨bb,ob,none⟩):=λ h=>by obtain⟨b,o,-,e,-⟩:=hrowT h;exact⟨b,o,e⟩
 have H0:=H
 obtain⟨al,cl,rfl,hcl,hml,hrow⟩:=Zac H
 unfold maxLen at hml
 obtain⟨bw,ow,-,rfl,-,-,-⟩:=hrow h0
 have b0:=Zab w (.cells #[.string ⟨#[]⟩,.bool false,.slice none 0 0,.slice none 0 0] 56)
 have HX:=Qh (heap_alloc_new w (.cells #[.string ⟨#[]⟩,.bool false,.slice none 0 0,.slice none 0 0] 56))
 obtain⟨xa,xc,xf,c0,c1,c2,c3,xR,hbb,-⟩:=ZaB H0 h0
 simp only [Nat.zero_mul,Nat.add_zero] at c0 c1 c2 c3
 have HCE:Hid (∀ U:World,Below w.heap.size w U->U.cell? ⟨bw,ow+1,none⟩=some (.string l[0].text)/\U.cell? ⟨bw,ow+3,none⟩=some (.slice xa l[0].hidden.length xc)):=λ U hU=>⟨(hU.cell (p:=⟨bw,ow+1,none⟩) hbb).trans c1,(hU.cell (p:=⟨bw,ow+3,none⟩) hbb).trans c3⟩
 have HHD:Hid (∀ U:World,Below w.heap.size w U->(Zaa sStr).R U [.slice xa l[0].hidden.length xc] l[0].hidden xf):=λ U hU=>ZcK (sTok.below xR hU)
 have HT1:Hid (∀ h1:1<l.length,∀ U:World,Below w.heap.size w U->U.cell? ⟨bw,ow+4+1,none⟩=some (.string l[1].text)):=λ h1 U hU=>by
  obtain⟨ya,yc,yf,-,d1,-,-,-,hbb,-⟩:=ZaB H0 h1
  simp only [Nat.one_mul] at d1
  exact(hU.cell (p:=⟨bw,ow+4+1,none⟩) hbb).trans d1
 have HTX:=Qh htx
 have HTAB:=Qh hT
 clear HT H H0 hrow hrowT xR c0 c1 c2 c3 htx hT
 go_enter Tryz.func61,Tryz.ntmps61
 go_upto_region 1 with fail
 generalize (w.alloc (.cells #[.string ⟨#[]⟩,.bool false,.slice none 0 0,.slice none 0 0] 56))=W1 at *
 have h0i:(0:Int)<(l.length:Int):=by omega
 obtain⟨c1,c3⟩:=HCE.out W1 b0
 have HPL:=Qh (Zf1 _ T l[0].text fpT W1 HTAB.out ((Zaa sMacro).below HT0.out b0))
 obtain⟨tx,HTXT⟩:∃ tx:ByteArray,Hid (tx=l[0].text):=⟨_,Qh rfl⟩
 obtain⟨lo,HLO⟩:∃ lo:Nat,Hid (lo=lowAt T l[0].text):=⟨_,Qh rfl⟩
 rw [show lowAt T l[0].text=lo from HLO.out.symm] at HPL
 rw [show l[0].text=tx from HTXT.out.symm] at HPL c1
 cases hin:isIn T tx
 ·rw [hin] at HPL
  have HF:Hid (goM T l=none):=ZkL h0 (find_out HTAB.out (by rw [← HTXT.out];exact hin))
  clear hin
  go_wp2_with fail
  refine HPL.out.mono ?_
  rintro e w3 ⟨rfl,hb3⟩
  have HX3:=Qh (mbox HX.out hb3)
  have hB3:=b0.trans (hb3.mono b0.size)
  clear HPL c1 c3
  exact Y17A2
 rw [hin] at HPL
 have HIN:=Qh hin
 clear hin
 go_wp2_with fail
 refine HPL.out.mono ?_
 rintro e w3 ⟨rfl,hb3⟩
 have HX3:=Qh (mbox HX.out hb3)
 have hB3:=b0.trans (hb3.mono b0.size)
 clear HPL c1 c3
 obtain⟨c1,c3⟩:=HCE.out w3 hB3
 rw [show l[0].text=tx from HTXT.out.symm] at c1
 have HCT:=Qh (ZdZ _ l[0].hidden xf tx w3 (HHD.out w3 hB3))
 rw [tx_has] at HCT
 cases hh:hasN l[0].hidden tx
 rotate_left
 ·rw [hh] at HCT
  have HF:Hid (goM T l=none):=ZkL h0 (ZkB (by rw [← HTXT.out];exact hh))
  clear hh
  go_wp2_with fail
  refine HCT.out.mono ?_
  rintro e w4 ⟨rfl,rfl⟩
  clear HCT c1 c3
  exact Y17A2
 rw [hh] at HCT
 have HFI:=find_at HTAB.out (HTX.out _ (List.getElem_mem h0)) (by rw [← HTXT.out];exact HIN.out) (by rw [← HTXT.out];exact hh)
 rw [show lowAt T l[0].text=lo from HLO.out.symm] at HFI
 obtain⟨hlo,HFD⟩:=HFI
 have HFD':findM T l[0]=some T[lo]:=HFD
 have HFM:=Qh HFD'
 clear hh HFD HFD'
 obtain⟨bb,ob,rfl⟩:=HROW.out (by omega)
 obtain⟨a2,a3,d2,d3,fm,m0,m1,m2,m3,RM,hbm,hfm⟩:=mac_at ((Zaa sMacro).below HT0.out hB3) hlo
 have HRM:=Qh RM
 have HLM:Hid (w.heap.size∉fm):=λ h=>by have:=HLT.out _ (hfm _ h);omega
 have HFMM:=Qh hfm
 generalize hM:T[lo]=M at *
 obtain⟨fu,HFU⟩:∃ fu:Bool,Hid (fu=M.function):=⟨_,Qh rfl⟩
 rw [show M.function=fu from HFU.out.symm] at m1
 have i0:(0:Int)<=(lo:Int):=by omega
 have i1:(lo:Int)<(T.length:Int):=by omega
 clear hM RM hfm
 go_wp2_with fail
 refine HCT.out.mono ?_
 rintro e w4 ⟨rfl,rfl⟩
 clear HCT c1 c3
 cases fu
 rotate_left
 ·by_cases h1:l.length=1
  ·have HF:Hid (goM T l=none):=ZkM h0 HFM.out HFU.out.symm (λ h=>by omega)
   have e1:((l.length:Int)==1)=true:=by simp;omega
   have e2:(l.length:Int)=1:=by omega
   clear h1
   clear m0 m2 m3
   exact Y17A2
  have h1l:1<l.length:=by omega
  have e1:((l.length:Int)==1)=false:=by simp;omega
  have e2:¬ (l.length:Int)=1:=by omega
  have e3:(1:Int)<(l.length:Int):=by omega
  have d1:=HT1.out h1l w4 hB3
  have HO:Hid (isM l[1] [40]=(l[1].text.toList==[40])):=Zgw (HTX.out _ (List.getElem_mem h1l)) (by decide)
  cases ho:(l[1].text.toList==[40])
  ·have HF:Hid (goM T l=none):=ZkM h0 HFM.out HFU.out.symm (λ h=>by rw [HO.out];exact ho)
   have e4:(l[1].text.toList != [40])=true:=by rw [bne,ho];rfl
   clear HO
   clear m0 m2 m3
   exact Y17A2
  have HF:Hid (goM T l=some M):=ZkN h0 HFM.out (λ _=>⟨h1l,by rw [HO.out];exact ho⟩)
  have e4:(l[1].text.toList != [40])=false:=by rw [bne,ho];rfl
  clear HO
  obtain⟨z0,z1,z2,z3⟩:=Q4 HX3.out
  have zf0:=Qf 0 HX3.out
  have zf1:=Qf 1 HX3.out
  have zf2:=Qf 2 HX3.out
  have zf3:=Qf 3 HX3.out
  have HS:=Qh (ZaH HX3.out (.string M.name) (.bool true) (.slice a2 M.params.length d2) (.slice a3 M.body.length d3))
  have HB:=Qh (Zav (g:=w.heap.size) hB3 (Nat.le_refl _) (.string M.name) (.bool true) (.slice a2 M.params.length d2) (.slice a3 M.body.length d3))
  have HRM2:=Qh (sMacro.set4R HRM.out HLM.out (.string M.name) (.bool true) (.slice a2 M.params.length d2) (.slice a3 M.body.length d3))
  exact Y17A3
 have HF:Hid (goM T l=some M):=ZkN h0 HFM.out (λ h=>by rw [← HFU.out] at h;exact absurd h (by simp))
 obtain⟨z0,z1,z2,z3⟩:=Q4 HX3.out
 have zf0:=Qf 0 HX3.out
 have zf1:=Qf 1 HX3.out
 have zf2:=Qf 2 HX3.out
 have zf3:=Qf 3 HX3.out
 have HS:=Qh (ZaH HX3.out (.string M.name) (.bool false) (.slice a2 M.params.length d2) (.slice a3 M.body.length d3))
 have HB:=Qh (Zav (g:=w.heap.size) hB3 (Nat.le_refl _) (.string M.name) (.bool false) (.slice a2 M.params.length d2) (.slice a3 M.body.length d3))
 have HRM2:=Qh (sMacro.set4R HRM.out HLM.out (.string M.name) (.bool false) (.slice a2 M.params.length d2) (.slice a3 M.body.length d3))
 exact Y17A3
theorem Zft (n:ByteArray):∀ l:List ByteArray,(ins l n).length<=l.length+1
 | []=>by simp [ins]
 |
  x::r=>by
  have:=Zft n r
  unfold ins
  split
  ·simp;omega
  ·split <;> simp
theorem Zie:∀ (b a:List ByteArray),(Zbc a b).length<=a.length+b.length
 | [],a=>by simp [Zbc]
 |
  x::r,a=>by
  have h1:=Zie r (ins a x)
  have h2:=Zft x a
  show (Zbc (ins a x) r).length<=_
  rw [List.length_cons];omega
theorem ZmB {a h:List ByteArray} {i:Nat} (hi:i<h.length):Zbc a (h.take (i+1))=ins (Zbc a (h.take i)) h[i]:=by
 unfold Zbc
 rw [List.take_succ_eq_append_getElem hi,List.foldl_append]
 rfl
def HidOf (h:List ByteArray) (l:List Tok) (fp:List Nat) (w:World) (e:Ending) (w':World):Prop:=
 ∃ (v:Value) (L:List (Elem Tok)),e=.returned v/\RowN sTok w.heap.size 32 v L w'/\L.map (·.d)=l.map (putT h)/\(∀ x∈L,∀ b∈x.fp,b∈fp\/w.heap.size<=b)/\Below w.heap.size w w'
theorem ZiM (v:Value) (l:List Tok) (fp:List Nat) (vh:Value) (h:List ByteArray) (fph:List Nat) (w:World) (hl:l.length<=100000) (hu:∀ t∈l,Up t.hidden) (hh:∀ t∈l,t.hidden.length<=100000) (hhl:h.length<=100000) (H:(Zaa sTok).R w [v] l fp) (HH:(Zaa sStr).R w [vh] h fph) :
  Calls Tryz.prog 122 #[v,vh] w (HidOf h l fp w):=by
 have HLT:=Qh ((Zaa sTok).lt H)
 have H0:=Qh H
 obtain⟨al,cl,rfl,hcl,hml,hrow⟩:=Zac H
 unfold maxLen at hml
 obtain⟨ah,ch,rfl,hch,hmh,hrowh,hszh⟩:=Zaf HH
 unfold maxLen at hmh
 have HSZ:=Qh hszh
 have HU:=Qh hu
 have HHL:=Qh hh
 clear H HH hszh hu hh
 go_enter Tryz.func122,Tryz.ntmps122
 go_wp2
 go_loopw [5,12] (λ vo i wr=>∃ (k:Nat) (L:List (Elem Tok)),k<=l.length/\i=.int .i64 k/\Hid (L.map (·.d)=(l.take k).map (putT h))/\Hid (RowN sTok w.heap.size 32 vo L wr)/\Hid (∀ x∈L,∀ b∈x.fp,b∈fp\/w.heap.size<=b)/\Below w.heap.size w wr) (λ _ i _=>l.length-(intOf i).toNat)
 case atStart=>exact⟨0,[],by omega,rfl,rfl,RowN.nil _ _ _ _,(λ x hx=>by simp at hx),Below.refl _ _⟩
 case round =>
  obtain⟨k,L,hk,rfl,HD,HR,HF0,hb⟩:=hrel
  have hLk:L.length=k:=by have:=congrArg List.length HD.out;rw [List.length_map,List.length_map,List.length_take] at this;omega
  have HLK:=Qh hLk
  obtain⟨ao,co,hvo,-⟩:=HR.out.val
  rw [hLk] at hvo
  subst hvo
  clear hLk
  by_cases hlt:k<l.length
  ·obtain⟨b1,o1,-,rfl,-,-,-⟩:=hrow (by omega)
   obtain⟨xa,xc,xf,x0,x1,x2,x3,xR,hbb,hxf⟩:=ZaB H0.out hlt
   replace x0:=(hb.cell (p:=⟨b1,o1+k * 4,none⟩) hbb).trans x0
   replace x1:=(hb.cell (p:=⟨b1,o1+k * 4+1,none⟩) hbb).trans x1
   replace x2:=(hb.cell (p:=⟨b1,o1+k * 4+2,none⟩) hbb).trans x2
   replace x3:=(hb.cell (p:=⟨b1,o1+k * 4+3,none⟩) hbb).trans x3
   have XR:=Qh (sTok.below xR hb)
   have HXF:=Qh hxf
   have bx:=Zab wr (.cells #[.int .i64 l[k].kind,.string l[k].text,.bool l[k].spaced,.slice xa l[k].hidden.length xc] 32)
   have HX2:=Qh (heap_alloc_new wr (.cells #[.int .i64 l[k].kind,.string l[k].text,.bool l[k].spaced,.slice xa l[k].hidden.length xc] 32))
   have HHK:=HHL.out _ (List.getElem_mem hlt)
   have HUK:=Qh (HU.out _ (List.getElem_mem hlt))
   clear xR hrow hxf
   go_upto_region 5 with fail
   clear x0 x1 x2 x3
   have hszo:=hb.size
   generalize hW2:(wr.alloc (.cells #[.int .i64 l[k].kind,.string l[k].text,.bool l[k].spaced,.slice xa l[k].hidden.length xc] 32))=W2 at *
   clear hW2
   obtain⟨g,HG⟩:∃ g:Nat,Hid (g=wr.heap.size):=⟨_,Qh rfl⟩
   rw [show wr.heap.size=g from HG.out.symm] at HX2 bx hszo ⊢
   have HFLT:=HLT
   have HXIN:Hid (∀ b∈xf,b∈fp):=HXF.out
   have HBW:=Qh hb
   have HXFL:Hid (∀ b∈xf,b<w.heap.size):=λ b hb'=>HLT.out b (HXF.out b hb')
   have HKR:Hid ((Zaa sStr).R W2 [.slice xa l[k].hidden.length xc] l[k].hidden xf):=by
    have:=sTok.below XR.out (by rw [← HG.out];exact bx:Below wr.heap.size wr W2)
    exact ZcK this
   obtain⟨-,-,okk,oks,-⟩:=XR.out
   have HOKK:=Qh okk
   have HOKS:=Qh oks
   have HRO:=Qh (λ (U:World) (hU:Below g wr U)=>HR.out.below (by rw [← HG.out];exact hU))
   have HMI:=Qh HR.out.mine
   have hbo:=Qh (λ (U:World) (hU:Below g wr U)=>hb.trans (hU.mono hszo))
   obtain⟨tk,HTK⟩:∃ tk:Tok,Hid (tk=l[k]):=⟨_,Qh rfl⟩
   rw [show l[k]=tk from HTK.out.symm] at HX2 HHK HUK HKR HOKK HOKS
   clear okk oks XR HR hb HLT HXF
   obtain⟨wo,hwo⟩:∃ x:World,x=wr:=⟨_,rfl⟩
   subst hwo
   obtain⟨N0,HN0⟩:∃ N:Nat,Hid (N=tk.hidden.length):=⟨_,Qh rfl⟩
   rw [show tk.hidden.length=N0 from HN0.out.symm] at HX2 HKR
   go_wp2
   go_loopw [18] (λ j wr=>∃ (i N:Nat) (hd:Option Addr) (c:Nat) (fj:List Nat),i<=h.length/\j=.int .i64 i/\Hid (N=(Zbc tk.hidden (h.take i)).length)/\Hid (wr.heap[g]?=some (.cells #[.int .i64 tk.kind,.string tk.text,.bool tk.spaced,.slice hd N c] 32 (0,0)))/\Hid ((Zaa sStr).R wr [.slice hd N c] (Zbc tk.hidden (h.take i)) fj)/\Hid (∀ b∈fj,b∈fp\/g<b)/\Hid (g∉fj)/\Below g wo wr) (λ j _=>h.length-(intOf j).toNat)
   case atStart=>exact⟨0,N0,xa,xc,xf,by omega,rfl,HN0.out,HX2.out,HKR.out,(λ b hb'=>.inl (HXIN.out b hb')),(λ hx=>by have:=HXFL.out _ hx;omega),bx⟩
   case round =>
    clear HX2 HKR bx
    obtain⟨i,N,hd,c,fj,hi,rfl,HN,HBX,HJR,HJF,HGJ,hbj⟩:=hrel
    by_cases hlti:i<h.length
    ·obtain⟨b2,o2,rfl,hb2,-,hcell⟩:=hrowh (by omega)
     have y0:=(hbj.cell (p:=⟨b2,o2+i,none⟩) (show b2<g by omega)).trans ((HBW.out.cell (p:=⟨b2,o2+i,none⟩) hb2).trans (hcell i hlti))
     have p3:=Qc 3 HBX.out
     have hul:=Zie (h.take i) tk.hidden
     rw [List.length_take] at hul
     have HWN:=Qh (ZdD (.slice hd N c) (Zbc tk.hidden (h.take i)) h[i] fj wr (Zhm HUK.out) (by omega) (HSZ.out i hlti) HJR.out)
     rw [← ZmB hlti] at HWN
     have i0:(0:Int)<=(i:Int):=by omega
     have i1:(i:Int)<(h.length:Int):=by omega
     have hgl:g<wr.heap.size:=mlt HBX.out
     clear hcell hul
     go_wp2_with fail
     refine HWN.out.mono ?_
     rintro e w3 ⟨a3,c3,f3,rfl,R3,O3,-,hb3⟩
     have HX3:=Qh (mbox HBX.out hb3)
     have HB3:=Qh (hbj.trans (hb3.mono (Nat.le_of_lt hgl)))
     have hlo3:∀ b∈f3,wr.heap.size<=b:=λ b hb=>(O3.2 b hb).1
     have hn3:g∉f3:=λ hx=>by have:=hlo3 g hx;omega
     obtain⟨N3,HN3⟩:∃ N3:Nat,Hid (N3=(Zbc tk.hidden (h.take (i+1))).length):=⟨_,Qh rfl⟩
     rw [show (Zbc tk.hidden (h.take (i+1))).length=N3 from HN3.out.symm] at R3 ⊢
     have q3:=Qc 3 HX3.out
     have xz3:=Qf 3 HX3.out
     have HX4:=Qh (Zai HX3.out 3 (.slice a3 N3 c3))
     have HR4:=Qh ((Zaa sStr).setB R3 hn3 3 (.slice a3 N3 c3))
     have HB4:=Qh (HB3.out.setCell (p:=⟨g,3,none⟩) (Nat.le_refl _) (.slice a3 N3 c3))
     have HF4:Hid (∀ b∈f3,b∈fp\/g<b):=λ b hb=>.inr (by have:=hlo3 b hb;omega)
     have HG4:=Qh hn3
     clear HWN HBX HJR HJF hb3 R3 O3 hlo3 hn3 y0 p3
     go_wp2
     go_roundw
     case rel=>exact⟨i+1,N3,a3,c3,f3,by omega,by go_num,HN3.out,HX4.out,HR4.out,HF4.out,HG4.out,HB4.out⟩
     case measure=>simp [intOf];omega
    ·have hih:i=h.length:=by omega
     have HUN:Hid (Zbc tk.hidden (h.take i)=Zbc tk.hidden h):=by show _=_;rw [List.take_of_length_le (by omega)]
     rw [show Zbc tk.hidden (h.take i)=Zbc tk.hidden h from HUN.out] at HJR
     clear hih
     obtain⟨p0,p1,p2,p3⟩:=Q4 HBX.out
     have bl:=Zab wr (.cells #[.int .i64 tk.kind,.string tk.text,.bool tk.spaced,.slice hd N c] 32)
     have HL4:=Qh (heap_alloc_new wr (.cells #[.int .i64 tk.kind,.string tk.text,.bool tk.spaced,.slice hd N c] 32))
     have hb14:Below w.heap.size w (wr.alloc (.cells #[.int .i64 tk.kind,.string tk.text,.bool tk.spaced,.slice hd N c] 32)):=hbo.out _ (hbj.trans (bl.mono (Nat.le_of_lt (mlt HBX.out))))
     have HNL:Hid (N=(Zbc tk.hidden h).length):=by show _=_;rw [HN.out,HUN.out]
     have RX:Hid (sTok.R (wr.alloc (.cells #[.int .i64 tk.kind,.string tk.text,.bool tk.spaced,.slice hd N c] 32)) [.int .i64 tk.kind,.string tk.text,.bool tk.spaced,.slice hd N c] (putT h tk) fj):=⟨_,rfl,HOKK.out,HOKS.out,(Zaa sStr).below HJR.out bl⟩
     have HR4:=Qh (HRO.out _ (hbj.trans (bl.mono (Nat.le_of_lt (mlt HBX.out)))))
     have HXN:Hid (∀ b∈fj,(Value.slice ao k co).ownBlock≠some b):=λ b hb h=>by
      have h1:=HMI.out b h
      rcases HJF.out b hb with h2 | h2
      ·have:=HFLT.out b h2;omega
      ·have:=HG.out;omega
     clear bl HJR HN HUN HBX hbj
     go_wp2_with (at_builtin;refine ZaE (X:=[(⟨[.int .i64 tk.kind,.string tk.text,.bool tk.spaced,.slice hd N c],putT h tk,fj⟩:Elem Tok)]) ZaG rfl (by decide) _ rfl (.tmp 28) (.tmp 30) rfl w.heap.size (.slice ao k co) rfl HR4.out ⟨wr.heap.size,0,none⟩ 1 1 rfl rfl (λ x hx=>by obtain rfl:=Qm hx;exact⟨rfl,RX.out,HXN.out⟩) (λ x hx=>by obtain rfl:=Qm hx;exact ZaF _ _ _ _ RX.out) (λ j u hj=>by rw [ZaI,Nat.zero_add,cell_of_row _ _ _ _ _ _ HL4.out];simpa using hj) (by have:=HLK.out;unfold maxLen;omega) (by have:=HLK.out;omega) hb14.size ?_;intro v5 w5 hR5 hg5 hp5)
     have hb5:Below w.heap.size w w5:=hb14.grown hg5 hb14.size (λ b hb=>(HMI.out b hb).1)
     have HF5:Hid (∀ x∈L++[(⟨[.int .i64 tk.kind,.string tk.text,.bool tk.spaced,.slice hd N c],putT h tk,fj⟩:Elem Tok)],∀ b∈x.fp,b∈fp\/w.heap.size<=b):=λ x hx b hb'=>by
      rcases Qa hx with hx | hx
      ·exact HF0.out x hx b hb'
      ·rw [Qm hx] at hb'
       exact(HJF.out b hb').imp id λ h=>by omega
     have HD5:Hid ((L++[(⟨[.int .i64 tk.kind,.string tk.text,.bool tk.spaced,.slice hd N c],putT h tk,fj⟩:Elem Tok)]).map (·.d)=(l.take (k+1)).map (putT h)):=by
      show _=_
      rw [List.map_append,HD.out,List.take_succ_eq_append_getElem hlt,List.map_append,HTK.out];rfl
     have HR5:=Qh hR5
     clear hR5 hg5 hp5
     go_wp2
     go_roundw
     case rel=>exact⟨k+1,_,by omega,by go_num,HD5,HR5,HF5,hb5⟩
     case measure=>simp [intOf];omega
  ·have hkl:k=l.length:=by omega
   have HF:Hid (L.map (·.d)=l.map (putT h)):=by show _=_;rw [HD.out,List.take_of_length_le (by omega)]
   go_wp2
   go_ret
   exact⟨_,L,rfl,HR.out,HF.out,HF0.out,hb⟩
end Go.Proofs.YtipfpppcbmpjiaaGreat
