/- Texts that the proof of E stands on, in one file. -/
import Derived.Test.YtiaiggjfepoahaaGreatZE11
import Derived.Deep.Cut
import Derived.Deep.CutRange
set_option linter.unusedVariables false
set_option maxHeartbeats 16000000
set_option maxRecDepth 100000
set_option linter.unusedSimpArgs false
/- What stands for a place of a body: helpers of the model. -/
namespace Go.Proofs.YtiaiggjfepoahaaGreat
open Go.RowKit
theorem ZaI (w:World) (cs:List Value) (x:Tok) (fp:List Nat) (h:sTok.R w cs x fp):∀ u∈cs,u.oneCell'=true:=by
 obtain⟨hv,rfl,-,-,K⟩:=h
 obtain⟨a,c,rfl,-⟩:=Zaf K
 intro u hu
 simp only [List.mem_cons,List.not_mem_nil,or_false] at hu
 rcases hu with rfl | rfl | rfl | rfl <;> rfl
theorem ZcV (cs:List Value) (x:Tok) (fp:List Nat) (w:World) (s:ByteArray) (H:sTok.R w cs x fp) :
  Calls Tryz.prog 71 #[.agg cs.toArray,.string s] w (Says (decide (x.kind=4) && (x.text.toList==s.toList)) w):=by
 obtain⟨h,rfl,hk,hok,K⟩:=H
 obtain⟨a0,cap0,rfl,-⟩:=Zaf K
 have hb:=Zab w (.cells #[.int .i64 x.kind,.string x.text,.bool x.spaced,.slice a0 x.hidden.length cap0] 57)
 clear K
 go_enter Tryz.func71,Tryz.ntmps71
 by_cases h4:x.kind=4
 ·have e0:(x.kind==4)=true:=by simp [h4]
  have HF:Hid ((decide (x.kind=4) && (x.text.toList==s.toList))=(x.text.toList==s.toList)):=by show _=_;rw [decide_eq_true h4];rfl
  clear h4
  go_wp2
  go_ret
  exact⟨Zad (by rw [HF.out]),hb⟩
 ·have e0:(x.kind==4)=false:=by simpa using h4
  have HF:Hid ((decide (x.kind=4) && (x.text.toList==s.toList))=false):=by show _=_;rw [decide_eq_false h4];rfl
  clear h4
  go_wp2
  go_ret
  exact⟨Zad (by rw [HF.out]),hb⟩
def SpcOf (l:List Tok) (fp:List Nat) (w:World) (e:Ending) (w':World):Prop:=
 ∃ (v:Value) (L:List (Elem Tok)),e=.returned v/\RowN sTok w.heap.size 57 v L w'/\L.map (·.d)=l/\(∀ x∈L,∀ b∈x.fp,b∈fp)/\Below w.heap.size w w'
theorem Zdb (v:Value) (l:List Tok) (fp:List Nat) (w:World) (b:Bool) (hl:l.length<=1000000) (H:(Zaa sTok).R w [v] l fp) :
  Calls Tryz.prog 103 #[v,.bool b] w (SpcOf (spc b l) fp w):=by
 have hlt:=(Zaa sTok).lt H
 obtain⟨a,cap,rfl,hc,hm,-⟩:=Zac H
 have hba:=Zab w (.cells #[] 57)
 have HA:=Qh ((Zaa sTok).below H hba)
 have HG:=Qh (RowN.lit0 sTok 57 w (Nat.le_refl _))
 have HLT:=Qh hlt
 have hbs:=hba.size
 clear H hlt
 go_enter Tryz.func103,Tryz.ntmps103
 go_upto_region 2 with(
            at_builtin;refine Zbd ZaE rfl (by decide) ZaI _ rfl (.tmp 6) (.tmp 7) rfl w.heap.size (.slice (some ⟨w.heap.size,0,none⟩) 0 0) (.slice a l.length cap) l fp rfl HG.out rfl HA.out (λ b hb e=>by simp only [Value.ownBlock,Qi] at e;have:=HLT.out b hb;omega) (by simp [maxLen];omega) (by simp;omega) hbs ?_;intro v5 X w1 hX hXf hR hg _
            have hb1:Below w.heap.size w w1:=hba.grown hg hbs (λ b hb=>by simp [Value.ownBlock] at hb;omega)
            rw [List.nil_append] at hR
            have HR:=Qh hR
            have HXX:=Qh (And.intro hX hXf)
            obtain⟨a1,c1,rfl,-⟩:=hR.val
            have hXl:Hid (X.length=l.length):=by show _=_;rw [← hX,List.length_map]
            obtain⟨n,HN⟩:∃ n:Nat,Hid (n=X.length):=⟨X.length,Qh rfl⟩
            rw [show X.length=n from HN.out.symm] at ⊢
            clear hX hXf hR hg)
 by_cases h0:n=0
 ·have hl0:l=[]:=List.length_eq_zero_iff.1 (by have:=HN.out;have:=hXl.out;omega)
  have HF:Hid (X.map (·.d)=spc b l):=by show _=_;rw [HXX.out.1,hl0];rfl
  have e0:¬ (0:Int)<(n:Int):=by omega
  clear h0 hl0
  go_wp2
  go_ret
  refine ⟨_,X,rfl,?_,HF.out,HXX.out.2,hb1⟩
  rw [HN.out];exact HR.out
 ·obtain⟨x,X',rfl⟩:∃ x X',X=x::X':=by
   cases X with
   | nil=>exact absurd HN.out h0
   | cons x X'=>exact⟨x,X',rfl⟩
  obtain⟨g,hg1,hg2,hg3⟩:∃ g,a1=some ⟨g,0,none⟩/\w.heap.size<=g/\g<w1.heap.size:=by
   obtain⟨a9,c9,e,-,-,h⟩:=HR.out.val
   simp only [Value.slice.injEq] at e
   obtain⟨rfl,-,-⟩:=e
   exact h (by simp)
  subst hg1
  obtain⟨h,hcs,okk,oks,K⟩:=HR.out.el x (by simp)
  obtain⟨ah,ch,rfl,-⟩:=Zaf K
  have hgx:g∉x.fp:=λ hx=>HR.out.ap x (by simp) g hx rfl
  have HR2:=HR.out
  rw [show (x::X').length=n from HN.out.symm] at HR2
  have c2:w1.cell? ⟨g,2,none⟩=some (.bool x.d.spaced):=by
   have:=HR2.cellAt (k:=0) (by simp) (j:=2) (by decide) (u:=.bool x.d.spaced) (by show x.cells[2]?=_;rw [hcs];rfl)
   simpa using this
  have f2:w1.frozen? ⟨g,2,none⟩=false:=HR2.frozen 2
  have HS:Hid (RowN sTok w.heap.size 57 (.slice (some ⟨g,0,none⟩) n c1) (⟨[.int .i64 x.d.kind,.string x.d.text,.bool b,.slice ah x.d.hidden.length ch],⟨x.d.kind,x.d.text,b,x.d.hidden⟩,x.fp⟩::X') (w1.setCell ⟨g,2,none⟩ (.bool b))):=by
   show RowN _ _ _ _ _ _
   have:=HR2.set (k:=0) (by simp) (j:=2) (by decide) (.bool b) ⟨[.int .i64 x.d.kind,.string x.d.text,.bool b,.slice ah x.d.hidden.length ch],⟨x.d.kind,x.d.text,b,x.d.hidden⟩,x.fp⟩ (by show _=x.cells.set 2 _;rw [hcs];rfl) ⟨_,rfl,okk,oks,K⟩ hgx
   simpa using this
  have HF:Hid (((⟨[.int .i64 x.d.kind,.string x.d.text,.bool b,.slice ah x.d.hidden.length ch],⟨x.d.kind,x.d.text,b,x.d.hidden⟩,x.fp⟩:Elem Tok)::X').map (·.d)=spc b l):=by
   show _=_;rw [← HXX.out.1];rfl
  have HFF:Hid (∀ y∈((⟨[.int .i64 x.d.kind,.string x.d.text,.bool b,.slice ah x.d.hidden.length ch],⟨x.d.kind,x.d.text,b,x.d.hidden⟩,x.fp⟩:Elem Tok)::X'),∀ b∈y.fp,b∈fp):=λ y hy=>by
   rcases List.mem_cons.1 hy with rfl | hy
   ·exact HXX.out.2 x (by simp)
   ·exact HXX.out.2 y (by simp [hy])
  have hb2:=hb1.setCell (p:=⟨g,2,none⟩) hg2 (.bool b)
  have e0:(0:Int)<(n:Int):=by omega
  have e1:0<n:=by omega
  clear K hcs HR2 HR h0 hg2 hg3
  go_wp2
  go_ret
  exact⟨_,_,rfl,HS.out,HF.out,HFF.out,hb2⟩
theorem ZmH (ps:List ByteArray) (t:Tok):∀ d k,ps.length-k=d->-1<=parFrom ps t k/\parFrom ps t k<(ps.length:Int):=by
 intro d
 induction d with
 | zero=>intro k hk;rw [parFrom,dif_neg (by omega)];omega
 |
  succ d ih =>
  intro k hk
  rw [parFrom,dif_pos (by omega:k<ps.length)]
  split
  ·omega
  ·exact ih (k+1) (by omega)
theorem Ziw {ps:List ByteArray} {t:Tok} (h:¬ parOf ps t<0):∃ n:Nat,parOf ps t=n/\n<ps.length:=by
 have:=ZmH ps t _ 0 rfl
 have h2:-1<=parOf ps t/\parOf ps t<(ps.length:Int):=this
 exact⟨(parOf ps t).toNat,by omega,by omega⟩
theorem Ze8 {t:Tok} {l:List UInt8} (h:isM t l=true):t.text=⟨l.toArray⟩:=by
 unfold isM at h
 rw [Bool.and_eq_true,Zc4,decide_eq_true_eq] at h
 exact of_decide_eq_true h.2
theorem ZfU {m:DMacro} (h:macOk m=true) {k:Nat} (hk:k<m.body.length) (hf:m.function=true) (hi:isM m.body[k] [35]=true):∃ hk1:k+1<m.body.length,∃ n:Nat,parOf m.params m.body[k+1]=n/\n<m.params.length:=by
 have hb:=(ZaH h).2.2 k hk
 have ht:m.body[k].text=hash1:=Ze8 hi
 unfold bodOk at hb
 rw [dif_pos hk,Bool.and_eq_true] at hb
 have h2:=hb.2
 rw [hf,ht,decide_eq_true rfl] at h2
 by_cases hk1:k+1<m.body.length
 ·rw [dif_pos hk1] at h2
  refine ⟨hk1,Ziw λ hh=>?_⟩
  rw [decide_eq_true hh] at h2
  exact absurd h2 (by decide)
 ·rw [dif_neg hk1] at h2
  exact absurd h2 (by decide)
theorem ZaQ {w:World} {b off n cap:Nat} {l:List Tok} {fp:List Nat} (H:(Zaa sTok).R w [.slice (some ⟨b,off,none⟩) n cap] l fp) {j:Nat} (hj:j<l.length) :
  ∃ (aj:Option Addr) (cj:Nat) (fj:List Nat),w.cell? ⟨b,off+j * 4,none⟩=some (.int .i64 l[j].kind)/\w.cell? ⟨b,off+j * 4+1,none⟩=some (.string l[j].text)/\w.cell? ⟨b,off+j * 4+2,none⟩=some (.bool l[j].spaced)/\w.cell? ⟨b,off+j * 4+3,none⟩=some (.slice aj l[j].hidden.length cj) /\
   sTok.R w [.int .i64 l[j].kind,.string l[j].text,.bool l[j].spaced,.slice aj l[j].hidden.length cj] l[j] fj/\b<w.heap.size/\∀ x∈fj,x∈fp:=by
 obtain⟨a,cap',hv,hc,hm,hrow⟩:=Zac H
 obtain⟨b',off',fps,ha,hb,hfp,he⟩:=hrow (by omega)
 simp only [Value.slice.injEq] at hv
 obtain⟨rfl,rfl,rfl⟩:=hv
 simp only [Qi,Addr.mk.injEq,and_true] at ha
 obtain⟨rfl,rfl⟩:=ha
 obtain⟨es,hE,hR⟩:=he j hj
 have hR2:=hR
 obtain⟨hh,rfl,-,-,K⟩:=hR2
 obtain⟨aj,cj,rfl,-⟩:=Zaf K
 have c0:w.cell? ⟨b,off+j * 4,none⟩=some _:=Zam hE (by decide) rfl
 have c1:w.cell? ⟨b,off+j * 4+1,none⟩=some _:=Zae (j:=1) hE (by decide) rfl
 have c2:w.cell? ⟨b,off+j * 4+2,none⟩=some _:=Zae (j:=2) hE (by decide) rfl
 have c3:w.cell? ⟨b,off+j * 4+3,none⟩=some _:=Zae (j:=3) hE (by decide) rfl
 exact⟨aj,cj,fps j,c0,c1,c2,c3,hR,hb,λ x hx=>by rw [hfp];exact List.mem_cons_of_mem _ (List.mem_flatMap.2 ⟨j,List.mem_range.2 hj,hx⟩)⟩
theorem ZbV {w:World} {b off n cap:Nat} {l:List (List Tok)} {fp:List Nat} (H:(Zaa (Zaa sTok)).R w [.slice (some ⟨b,off,none⟩) n cap] l fp) {j:Nat} (hj:j<l.length) :
  ∃ (aj:Option Addr) (cj:Nat) (fj:List Nat),w.cell? ⟨b,off+j,none⟩=some (.slice aj l[j].length cj)/\(Zaa sTok).R w [.slice aj l[j].length cj] l[j] fj/\b<w.heap.size/\∀ x∈fj,x∈fp:=by
 obtain⟨a,cap',hv,hc,hm,hrow⟩:=Zac H
 obtain⟨b',off',fps,ha,hb,hfp,he⟩:=hrow (by omega)
 simp only [Value.slice.injEq] at hv
 obtain⟨rfl,rfl,rfl⟩:=hv
 simp only [Qi,Addr.mk.injEq,and_true] at ha
 obtain⟨rfl,rfl⟩:=ha
 obtain⟨es,hE,hR⟩:=he j hj
 obtain⟨aj,cj,rfl⟩:=Zer hR
 have c0:w.cell? ⟨b,off+j * 1,none⟩=some _:=Zam hE (by decide) rfl
 rw [Nat.mul_one] at c0
 exact⟨aj,cj,fps j,c0,hR,hb,λ x hx=>by rw [hfp];exact List.mem_cons_of_mem _ (List.mem_flatMap.2 ⟨j,List.mem_range.2 hj,hx⟩)⟩
def PartOf (P:List Tok × Nat × Bool) (B:Nat) (w:World) (e:Ending) (w':World):Prop:=
 ∃ (v:Value) (L:List (Elem Tok)),e=.returned (.tuple #[v,.int .i64 (P.2.1:Nat),.bool P.2.2])/\RowN sTok w.heap.size 57 v L w'/\L.map (·.d)=P.1/\(∀ x∈L,∀ b∈x.fp,b<B)/\Below w.heap.size w w'
theorem ZkV:(⟨#[35]⟩:ByteArray).toList=[35]:=by rw [ByteArray.toList_eq]
theorem ZfV:(⟨#[35,35]⟩:ByteArray).toList=[35,35]:=by rw [ByteArray.toList_eq]
theorem Zkf (csM:List Value) (m:DMacro) (fpM:List Nat) (vr vy:Value) (raw ready:List (List Tok)) (fpr fpy:List Nat) (k:Nat) (w:World) (hv:macOk m=true) (ha:Zas m raw=true) (hy:Zas m ready=true) (hk:k<m.body.length)
  (B:Nat) (hBm:∀ b∈fpM,b<B) (hBr:∀ b∈fpr,b<B) (hBy:∀ b∈fpy,b<B) (HM:sMacro.R w csM m fpM) (Hr:(Zaa (Zaa sTok)).R w [vr] raw fpr) (Hy:(Zaa (Zaa sTok)).R w [vy] ready fpy) :
  Calls Tryz.prog 118 #[.agg csM.toArray,vr,vy,.int .i64 k] w (PartOf (Zay m raw ready k) B w):=by
 have HM0:=HM
 obtain⟨h2,h3,q2,q3,rfl,-,K2,K3,hfpM⟩:=HM
 obtain⟨a2,c2,rfl,-⟩:=Zaf K2
 obtain⟨a3,c3,rfl,hc3,hm3,hrow3⟩:=Zac K3
 obtain⟨bb,ob,-,rfl,-,-,-⟩:=hrow3 (by omega)
 unfold maxLen at hm3
 have hmlt:∀ b∈q3,b<B:=λ b hb=>hBm b (by rw [hfpM];exact List.mem_append_right _ hb)
 have hlen20:m.body.length<=20:=(ZaH hv).1.2.2.2.2
 have hraw:Hid (raw.length=m.params.length):=by show _=_;unfold Zas at ha;rw [Bool.and_eq_true,decide_eq_true_eq] at ha;exact ha.1
 have hrdy:Hid (ready.length=m.params.length):=by show _=_;unfold Zas at hy;rw [Bool.and_eq_true,decide_eq_true_eq] at hy;exact hy.1
 have HRA:Hid (∀ l∈raw,Zaj l=true):=by show ∀ l∈raw,_;unfold Zas at ha;rw [Bool.and_eq_true,List.all_eq_true] at ha;exact ha.2
 have HYA:Hid (∀ l∈ready,Zaj l=true):=by show ∀ l∈ready,_;unfold Zas at hy;rw [Bool.and_eq_true,List.all_eq_true] at hy;exact hy.2
 have HLr:=Qh hBr
 have HLy:=Qh hBy
 obtain⟨ak,ck,fk,e0,e1,e2,e3,Rk,hbb,hfk⟩:=ZaQ K3 hk
 have HB3:=Qh K3
 have HV:=Qh hv
 have b0:=Zab w (.cells #[.string m.name,.bool m.function,.slice a2 m.params.length c2,.slice (some ⟨bb,ob,none⟩) m.body.length c3] 70)
 have b1:=Zab (w.alloc (.cells #[.string m.name,.bool m.function,.slice a2 m.params.length c2,.slice (some ⟨bb,ob,none⟩) m.body.length c3] 70)) (.cells #[.int .i64 m.body[k].kind,.string m.body[k].text,.bool m.body[k].spaced,.slice ak m.body[k].hidden.length ck] 57)
 have b2:Below w.heap.size w ((w.alloc (.cells #[.string m.name,.bool m.function,.slice a2 m.params.length c2,.slice (some ⟨bb,ob,none⟩) m.body.length c3] 70)).alloc (.cells #[.int .i64 m.body[k].kind,.string m.body[k].text,.bool m.body[k].spaced,.slice ak m.body[k].hidden.length ck] 57)):=b0.trans (b1.mono b0.size)
 have HX:=Qh (ZbB w #[.string m.name,.bool m.function,.slice a2 m.params.length c2,.slice (some ⟨bb,ob,none⟩) m.body.length c3] #[.int .i64 m.body[k].kind,.string m.body[k].text,.bool m.body[k].spaced,.slice ak m.body[k].hidden.length ck] 70 57)
 have g0:(w.alloc (.cells #[.string m.name,.bool m.function,.slice a2 m.params.length c2,.slice (some ⟨bb,ob,none⟩) m.body.length c3] 70)).cell? ⟨bb,ob+k * 4,none⟩=some _:=(b0.cell (p:=⟨bb,ob+k * 4,none⟩) hbb).trans e0
 have g1:(w.alloc (.cells #[.string m.name,.bool m.function,.slice a2 m.params.length c2,.slice (some ⟨bb,ob,none⟩) m.body.length c3] 70)).cell? ⟨bb,ob+k * 4+1,none⟩=some _:=(b0.cell (p:=⟨bb,ob+k * 4+1,none⟩) hbb).trans e1
 have g2:(w.alloc (.cells #[.string m.name,.bool m.function,.slice a2 m.params.length c2,.slice (some ⟨bb,ob,none⟩) m.body.length c3] 70)).cell? ⟨bb,ob+k * 4+2,none⟩=some _:=(b0.cell (p:=⟨bb,ob+k * 4+2,none⟩) hbb).trans e2
 have g3:(w.alloc (.cells #[.string m.name,.bool m.function,.slice a2 m.params.length c2,.slice (some ⟨bb,ob,none⟩) m.body.length c3] 70)).cell? ⟨bb,ob+k * 4+3,none⟩=some _:=(b0.cell (p:=⟨bb,ob+k * 4+3,none⟩) hbb).trans e3
 have HRk:=Qh (sTok.below Rk b2)
 have HMr:=Qh (sMacro.below HM0 b2)
 have HRR:=Qh ((Zaa (Zaa sTok)).below Hr b2)
 have HYY:=Qh ((Zaa (Zaa sTok)).below Hy b2)
 have HB2:=Qh ((Zaa sTok).below K3 b2)
 have hi0:(0:Int)<=(k:Int):=by omega
 have hi1:(k:Int)<(m.body.length:Int):=by omega
 have hs2:((w.alloc (.cells #[.string m.name,.bool m.function,.slice a2 m.params.length c2,.slice (some ⟨bb,ob,none⟩) m.body.length c3] 70)).alloc (.cells #[.int .i64 m.body[k].kind,.string m.body[k].text,.bool m.body[k].spaced,.slice ak m.body[k].hidden.length ck] 57)).heap.size=w.heap.size+2:=by show ((w.heap.push _).push _).size=_;simp
 have HFK:Hid (∀ b∈fk,b<B):=λ b hb=>hmlt b (hfk b hb)
 clear HM0 K2 K3 Hr Hy Rk b0 b1 e0 e1 e2 e3 hv ha hy hfk hfpM hrow3
 go_enter Tryz.func118,Tryz.ntmps118
 go_upto_region 2 with fail
 clear g0 g1 g2 g3
 have hbs:=b2.size
 generalize ((w.alloc (.cells #[.string m.name,.bool m.function,.slice a2 m.params.length c2,.slice (some ⟨bb,ob,none⟩) m.body.length c3] 70)).alloc (.cells #[.int .i64 m.body[k].kind,.string m.body[k].text,.bool m.body[k].spaced,.slice ak m.body[k].hidden.length ck] 57))=W2 at *
 go_cut [26] from 16 (λ d wr=>d=.bool (m.function && isM m.body[k] [35])/\Below W2.heap.size W2 wr)
 case first =>
  obtain⟨p0,p1,p2,p3⟩:=Q4 HX.out.1
  rcases Bool.eq_false_or_eq_true m.function with hf | hf
  ·have HFN:=Qh hf
   rw [hf] at p1
   clear hf
   obtain⟨q0,q1,q2,q3⟩:=Q4 HX.out.2
   have HIS:=Qh (ZcV _ m.body[k] fk W2 ⟨#[35]⟩ HRk.out)
   rw [ZkV] at HIS
   have HE:Hid ((decide (m.body[k].kind=4) && (m.body[k].text.toList==[35]))=isM m.body[k] [35]):=rfl
   rw [HE.out] at HIS
   go_wp2_with fail
   refine HIS.out.mono ?_
   rintro e w3 ⟨rfl,hb3⟩
   go_wp2
   go_meet
   case rel=>exact⟨by rw [HFN.out];simp,hb3⟩
  ·have HFN:=Qh hf
   rw [hf] at p1
   clear hf
   go_wp2
   go_meet
   case rel=>exact⟨by rw [HFN.out];rfl,Below.refl _ _⟩
 obtain⟨rfl,hbc⟩:=hcut
 generalize wc=W3 at *
 have HX3:=Qh (And.intro (mbox HX.out.1 hbc) (mbox HX.out.2 hbc))
 cases hfi:(m.function && isM m.body[k] [35])
 rotate_left
 ·skip
  obtain⟨hft,hmt⟩:=Bool.and_eq_true_iff.1 hfi
  obtain⟨hk1,n,hn,hnp⟩:=ZfU HV.out hk hft hmt
  have hnr:n<raw.length:=by have:=hraw.out;omega
  have HAR:=Qh (Zc7 (a:=raw) hn hnr)
  have HPN:=Qh hn
  obtain⟨kk,s,okb,hx,hkk0,hkk4,hsz⟩:=Zc9 raw[n]
  have HX0:=Qh hx
  have HF:=Qh (ZfP (raw:=raw) (ready:=ready) hk1 hft hmt (u:=⟨kk,s,false,[]⟩) (o:=okb) (by rw [HAR.out];exact hx))
  obtain⟨ya,yc,yf,yq0,yq1,yq2,yq3,yR,ybb,-⟩:=ZaQ HB2.out (j:=k+1) hk1
  have y0:W3.cell? ⟨bb,ob+(k+1) * 4,none⟩=some _:=(hbc.cell (p:=⟨bb,ob+(k+1) * 4,none⟩) ybb).trans yq0
  have y1:W3.cell? ⟨bb,ob+(k+1) * 4+1,none⟩=some _:=(hbc.cell (p:=⟨bb,ob+(k+1) * 4+1,none⟩) ybb).trans yq1
  have y2:W3.cell? ⟨bb,ob+(k+1) * 4+2,none⟩=some _:=(hbc.cell (p:=⟨bb,ob+(k+1) * 4+2,none⟩) ybb).trans yq2
  have y3:W3.cell? ⟨bb,ob+(k+1) * 4+3,none⟩=some _:=(hbc.cell (p:=⟨bb,ob+(k+1) * 4+3,none⟩) ybb).trans yq3
  obtain⟨ar,cr,rfl,-,-,hrowR⟩:=Zac HRR.out
  obtain⟨br,orr,-,rfl,-,-,-⟩:=hrowR (by omega)
  obtain⟨aj,cj,fj,dq,Rj,hbr,-⟩:=ZbV HRR.out hnr
  have hTV:=Zau (HRA.out _ (List.getElem_mem hnr))
  have HLP:=Qh (λ (U:World) (hU:Below W3.heap.size W3 U)=>ZcO _ _ m (m.body[k+1]'hk1) _ _ U (sMacro.below (sMacro.below HMr.out hbc) hU) (sTok.below (sTok.below yR hbc) hU))
  rw [hn] at HLP
  have HTT:=Qh (λ (U:World) (hU:Below W3.heap.size W3 U)=>Zis _ raw[n] fj U (by omega) (λ j hj=>by have:=(Zdr (ZbJ (hTV.2 j hj))).1;omega) ((Zaa sTok).below ((Zaa sTok).below Rj hbc) hU))
  have hz3:W2.heap.size<=W3.heap.size:=hbc.size
  have HS:Hid (∀ U:World,Below W3.heap.size W3 U->U.heap[w.heap.size]?=some (.cells #[.string m.name,.bool m.function,.slice a2 m.params.length c2,.slice (some ⟨bb,ob,none⟩) m.body.length c3] 70 (0,0))/\U.cell? ⟨bb,ob+(k+1) * 4,none⟩=some (.int .i64 (m.body[k+1]'hk1).kind)/\U.cell? ⟨bb,ob+(k+1) * 4+1,none⟩=some (.string (m.body[k+1]'hk1).text)/\U.cell? ⟨bb,ob+(k+1) * 4+2,none⟩=some (.bool (m.body[k+1]'hk1).spaced)/\U.cell? ⟨bb,ob+(k+1) * 4+3,none⟩=some (.slice ya (m.body[k+1]'hk1).hidden.length yc)/\U.cell? ⟨br,orr+n,none⟩=some (.slice aj raw[n].length cj)):=λ U hU=>⟨mbox HX3.out.1 hU,(hU.cell (by show bb<W3.heap.size;omega)).trans y0,(hU.cell (by show bb<W3.heap.size;omega)).trans y1,(hU.cell (by show bb<W3.heap.size;omega)).trans y2,(hU.cell (by show bb<W3.heap.size;omega)).trans y3,(hU.cell (by show br<W3.heap.size;omega)).trans ((hbc.cell (p:=⟨br,orr+n,none⟩) hbr).trans dq)⟩
  have hcs:Below W3.heap.size W3 W3.drew:=Zag (Below.refl _ _) 1
  have hw1:IntKind.i64.wrap ((k:Int)+1)=(k:Int)+1:=IntWalk.i64_in _ (by omega)
  have j1:(0:Int)<=(k:Int)+1:=by omega
  have j2:(k:Int)+1<(m.body.length:Int):=by omega
  have j3:((k:Int)+1).toNat=k+1:=by omega
  have j4:(0:Int)<=(n:Int):=by omega
  have j5:(n:Int)<(raw.length:Int):=by omega
  have hbmm:0<m.body.length:=by omega
  clear hx hn hft hmt hfi yq0 yq1 yq2 yq3 yR y0 y1 y2 y3 dq Rj hrowR hTV
  go_upto_region 3 with fail
  go_cut [12,13] from 16 (λ d b wr=>∃ (gB:Nat) (ax:Option Addr) (cx:Nat),d=.pointer (some ⟨gB,0,none⟩)/\b=.bool okb/\wr.heap[gB]?=some (.cells #[.int .i64 kk,.string s,.bool false,.slice ax 0 cx] 57 (0,0))/\W3.heap.size<=gB/\gB<wr.heap.size/\cx<=maxLen/\Below W3.heap.size W3 wr)
  case first =>
   refine wp_region_noPanic ?_
   refine wp_region_held_drew (S:=λ w'=>w'.heap[w.heap.size]?=some (.cells #[.string m.name,.bool m.function,.slice a2 m.params.length c2,.slice (some ⟨bb,ob,none⟩) m.body.length c3] 70 (0,0))/\w'.cell? ⟨bb,ob+(k+1) * 4,none⟩=some (.int .i64 (m.body[k+1]'hk1).kind)/\w'.cell? ⟨bb,ob+(k+1) * 4+1,none⟩=some (.string (m.body[k+1]'hk1).text)/\w'.cell? ⟨bb,ob+(k+1) * 4+2,none⟩=some (.bool (m.body[k+1]'hk1).spaced)/\w'.cell? ⟨bb,ob+(k+1) * 4+3,none⟩=some (.slice ya (m.body[k+1]'hk1).hidden.length yc)/\w'.cell? ⟨br,orr+n,none⟩=some (.slice aj raw[n].length cj)) (by kernel_rfl) (by exact HS.out _ hcs) (λ hHeld=>?_)
   generalize W3.drew=wd at *
   refine Qt 0 28 rfl rfl ?_
   try simp only [Qp]
   refine Qt 1 29 rfl rfl ?_ (by intro w hSw;obtain⟨sm,s0,s1,s2,s3,sr⟩:=hSw;obtain⟨m0,m1,m2,m3⟩:=Q4 sm;go_simp;(first | done | with_reducible rfl | rfl))
   try simp only [Qp]
   refine Qt 2 30 rfl rfl ?_
   try simp only [Qp]
   refine Qt 3 31 rfl rfl ?_ (by intro w hSw;obtain⟨sm,s0,s1,s2,s3,sr⟩:=hSw;obtain⟨m0,m1,m2,m3⟩:=Q4 sm;go_simp;(first | done | with_reducible rfl | rfl))
   try simp only [Qp]
   refine Qt 4 32 rfl rfl ?_
   try simp only [Qp]
   refine Qt 5 33 rfl rfl ?_
   try simp only [Qp]
   refine Qt 6 34 rfl rfl ?_
   try simp only [Qp]
   refine Qt 7 35 rfl rfl ?_ (by intro w hSw;obtain⟨sm,s0,s1,s2,s3,sr⟩:=hSw;obtain⟨m0,m1,m2,m3⟩:=Q4 sm;go_simp;(first | done | with_reducible rfl | rfl))
   try simp only [Qp]
   refine wpAnyH_ready (rs:=[8,15]) (by kernel_rfl) (by simp) ?_
   refine AllReadyH.cons rfl (λ K hK=>?_) ?_
   ·skip
    go_simp
    refine (HLP.out _ hcs).mono ?_
    rintro e wx1 ⟨rfl,br1⟩
    have hx1:=hcs.trans (br1.mono hcs.size)
    refine hK.out _ _ (HS.out _ hx1) (λ hHeld=>?_)
    clear hK K
    try simp only [Qp]
    refine Qt 9 37 rfl rfl ?_
    try simp only [Qp]
    refine Qt 10 38 rfl rfl ?_ (by intro w hSw;obtain⟨sm,s0,s1,s2,s3,sr⟩:=hSw;obtain⟨m0,m1,m2,m3⟩:=Q4 sm;go_simp;(first | done | with_reducible rfl | rfl))
    try simp only [Qp]
    refine wpAnyH_ready (rs:=[11,15]) (by kernel_rfl) (by simp) ?_
    refine AllReadyH.cons rfl (λ K hK=>?_) ?_
    ·skip
     go_simp
     refine (HTT.out _ hx1).mono ?_
     rintro e wx2 hT2
     obtain⟨k9,s9,b9,ax,cx,e9,rfl,-,-,-,hcx,br2⟩:=hT2.bare
     rw [HX0.out] at e9
     simp only [Prod.mk.injEq,Tok.mk.injEq,and_true] at e9
     obtain⟨⟨rfl,rfl⟩,rfl⟩:=e9
     have hx2:=hx1.trans (br2.mono hx1.size)
     refine hK.out _ _ (HS.out _ hx2) (λ hHeld=>?_)
     clear hK K
     try simp only [Qp]
     refine Qt 12 27 rfl rfl ?_
     try simp only [Qp]
     refine Qt 13 40 rfl rfl ?_
     try simp only [Qp]
     refine Qt 14 41 rfl rfl ?_
     try simp only [Qp]
     refine Qr 15 rfl (λ K hK=>?_)
     go_simp
     have bk:=Zab wx2 (.cells #[.int .i64 0,.string ⟨#[]⟩,.bool false,.slice none 0 0] 57)
     have HB:=Qh (heap_alloc_new wx2 (.cells #[.int .i64 0,.string ⟨#[]⟩,.bool false,.slice none 0 0] 57))
     have hx3:=hx2.trans (bk.mono hx2.size)
     have hge:=hx2.size
     refine hK.out _ _ (HS.out _ hx3) (λ hHeld=>?_)
     clear hK K bk
     try simp only [Qp]
     generalize (wx2.alloc (.cells #[.int .i64 0,.string ⟨#[]⟩,.bool false,.slice none 0 0] 57))=wx3 at *
     have zc0:=Qc 0 HB.out
     have zf0:=Qf 0 HB.out
     have zc1:=Qc 1 HB.out
     have zf1:=Qf 1 HB.out
     have zc2:=Qc 2 HB.out
     have zf2:=Qf 2 HB.out
     have zc3:=Qc 3 HB.out
     have zf3:=Qf 3 HB.out
     have HD1:=Qh (ZaB HB.out (.int .i64 kk) (.string s) (.bool false) (.slice ax 0 cx))
     have HD2:=Qh (Zar (g:=wx2.heap.size) hx3 hge (.int .i64 kk) (.string s) (.bool false) (.slice ax 0 cx))
     have HD3:Hid (wx2.heap.size<(set4 wx3 (wx2.heap.size) (.int .i64 kk) (.string s) (.bool false) (.slice ax 0 cx)).heap.size):=by show _<_;rw [ZbH];exact mlt HB.out
     refine Qr 16 rfl (λ K hK=>?_)
     go_simp
     change K _ (set4 wx3 (wx2.heap.size) (.int .i64 kk) (.string s) (.bool false) (.slice ax 0 cx))
     refine hK.out _ _ (HS.out _ HD2.out) (λ hHeld=>?_)
     clear hK K
     try simp only [Qp]
     refine Qt 17 13 rfl rfl ?_
     try simp only [Qp]
     refine wpAnyH_done (by kernel_rfl) ?_ _
     refine NoPanic.normal ?_
     clear hHeld
     go_wp2
     go_meet
     case rel=>exact⟨_,ax,cx,rfl,rfl,HD1.out,hge,HD3.out,hcx,HD2.out⟩
    refine AllReadyH.cons rfl (λ K hK=>?_) AllReadyH.nil
    go_simp
    have bk:=Zab wx1 (.cells #[.int .i64 0,.string ⟨#[]⟩,.bool false,.slice none 0 0] 57)
    have HB:=Qh (heap_alloc_new wx1 (.cells #[.int .i64 0,.string ⟨#[]⟩,.bool false,.slice none 0 0] 57))
    have hx4:=hx1.trans (bk.mono hx1.size)
    have hge:=hx1.size
    refine hK.out _ _ (HS.out _ hx4) (λ hHeld=>?_)
    clear hK K bk
    try simp only [Qp]
    generalize (wx1.alloc (.cells #[.int .i64 0,.string ⟨#[]⟩,.bool false,.slice none 0 0] 57))=wx4 at *
    refine Qr 11 rfl (λ K hK=>?_)
    go_simp
    refine (HTT.out _ hx4).mono ?_
    rintro e wx5 hT5
    obtain⟨k9,s9,b9,ax,cx,e9,rfl,-,-,-,hcx,br5⟩:=hT5.bare
    rw [HX0.out] at e9
    simp only [Prod.mk.injEq,Tok.mk.injEq,and_true] at e9
    obtain⟨⟨rfl,rfl⟩,rfl⟩:=e9
    have hx5:=hx4.trans (br5.mono hx4.size)
    have HB5:=Qh (mbox HB.out br5)
    refine hK.out _ _ (HS.out _ hx5) (λ hHeld=>?_)
    clear hK K
    try simp only [Qp]
    refine Qt 12 27 rfl rfl ?_
    try simp only [Qp]
    refine Qt 13 40 rfl rfl ?_
    try simp only [Qp]
    refine Qt 14 41 rfl rfl ?_
    try simp only [Qp]
    have zc0:=Qc 0 HB5.out
    have zf0:=Qf 0 HB5.out
    have zc1:=Qc 1 HB5.out
    have zf1:=Qf 1 HB5.out
    have zc2:=Qc 2 HB5.out
    have zf2:=Qf 2 HB5.out
    have zc3:=Qc 3 HB5.out
    have zf3:=Qf 3 HB5.out
    have HD1:=Qh (ZaB HB5.out (.int .i64 kk) (.string s) (.bool false) (.slice ax 0 cx))
    have HD2:=Qh (Zar (g:=wx1.heap.size) hx5 hge (.int .i64 kk) (.string s) (.bool false) (.slice ax 0 cx))
    have HD3:Hid (wx1.heap.size<(set4 wx5 (wx1.heap.size) (.int .i64 kk) (.string s) (.bool false) (.slice ax 0 cx)).heap.size):=by show _<_;rw [ZbH];exact mlt HB5.out
    refine Qr 16 rfl (λ K hK=>?_)
    go_simp
    change K _ (set4 wx5 (wx1.heap.size) (.int .i64 kk) (.string s) (.bool false) (.slice ax 0 cx))
    refine hK.out _ _ (HS.out _ HD2.out) (λ hHeld=>?_)
    clear hK K
    try simp only [Qp]
    refine Qt 17 13 rfl rfl ?_
    try simp only [Qp]
    refine wpAnyH_done (by kernel_rfl) ?_ _
    refine NoPanic.normal ?_
    clear hHeld
    go_wp2
    go_meet
    case rel=>exact⟨_,ax,cx,rfl,rfl,HD1.out,hge,HD3.out,hcx,HD2.out⟩
   refine AllReadyH.cons rfl (λ K hK=>?_) AllReadyH.nil
   go_simp
   have bk:=Zab wd (.cells #[.int .i64 0,.string ⟨#[]⟩,.bool false,.slice none 0 0] 57)
   have HB:=Qh (heap_alloc_new wd (.cells #[.int .i64 0,.string ⟨#[]⟩,.bool false,.slice none 0 0] 57))
   have hx6:=hcs.trans (bk.mono hcs.size)
   have hge:=hcs.size
   refine hK.out _ _ (HS.out _ hx6) (λ hHeld=>?_)
   clear hK K bk
   try simp only [Qp]
   generalize (wd.alloc (.cells #[.int .i64 0,.string ⟨#[]⟩,.bool false,.slice none 0 0] 57))=wx6 at *
   refine Qr 8 rfl (λ K hK=>?_)
   go_simp
   refine (HLP.out _ hx6).mono ?_
   rintro e wx7 ⟨rfl,br7⟩
   have hx7:=hx6.trans (br7.mono hx6.size)
   have HB7:=Qh (mbox HB.out br7)
   refine hK.out _ _ (HS.out _ hx7) (λ hHeld=>?_)
   clear hK K
   try simp only [Qp]
   refine Qt 9 37 rfl rfl ?_
   try simp only [Qp]
   refine Qt 10 38 rfl rfl ?_ (by intro w hSw;obtain⟨sm,s0,s1,s2,s3,sr⟩:=hSw;obtain⟨m0,m1,m2,m3⟩:=Q4 sm;go_simp;(first | done | with_reducible rfl | rfl))
   try simp only [Qp]
   refine Qr 11 rfl (λ K hK=>?_)
   go_simp
   refine (HTT.out _ hx7).mono ?_
   rintro e wx8 hT8
   obtain⟨k9,s9,b9,ax,cx,e9,rfl,-,-,-,hcx,br8⟩:=hT8.bare
   rw [HX0.out] at e9
   simp only [Prod.mk.injEq,Tok.mk.injEq,and_true] at e9
   obtain⟨⟨rfl,rfl⟩,rfl⟩:=e9
   have hx8:=hx7.trans (br8.mono hx7.size)
   have HB8:=Qh (mbox HB7.out br8)
   refine hK.out _ _ (HS.out _ hx8) (λ hHeld=>?_)
   clear hK K
   try simp only [Qp]
   refine Qt 12 27 rfl rfl ?_
   try simp only [Qp]
   refine Qt 13 40 rfl rfl ?_
   try simp only [Qp]
   refine Qt 14 41 rfl rfl ?_
   try simp only [Qp]
   have zc0:=Qc 0 HB8.out
   have zf0:=Qf 0 HB8.out
   have zc1:=Qc 1 HB8.out
   have zf1:=Qf 1 HB8.out
   have zc2:=Qc 2 HB8.out
   have zf2:=Qf 2 HB8.out
   have zc3:=Qc 3 HB8.out
   have zf3:=Qf 3 HB8.out
   have HD1:=Qh (ZaB HB8.out (.int .i64 kk) (.string s) (.bool false) (.slice ax 0 cx))
   have HD2:=Qh (Zar (g:=wd.heap.size) hx8 hge (.int .i64 kk) (.string s) (.bool false) (.slice ax 0 cx))
   have HD3:Hid (wd.heap.size<(set4 wx8 (wd.heap.size) (.int .i64 kk) (.string s) (.bool false) (.slice ax 0 cx)).heap.size):=by show _<_;rw [ZbH];exact mlt HB8.out
   refine Qr 16 rfl (λ K hK=>?_)
   go_simp
   change K _ (set4 wx8 (wd.heap.size) (.int .i64 kk) (.string s) (.bool false) (.slice ax 0 cx))
   refine hK.out _ _ (HS.out _ HD2.out) (λ hHeld=>?_)
   clear hK K
   try simp only [Qp]
   refine Qt 17 13 rfl rfl ?_
   try simp only [Qp]
   refine wpAnyH_done (by kernel_rfl) ?_ _
   refine NoPanic.normal ?_
   clear hHeld
   go_wp2
   go_meet
   case rel=>exact⟨_,ax,cx,rfl,rfl,HD1.out,hge,HD3.out,hcx,HD2.out⟩
  obtain⟨gB,ax,cx,rfl,rfl,HG0,hg1,hg2,hcx,hbg⟩:=hcut
  generalize wc=W4 at *
  have HG:=Qh HG0
  have HTB:=Qh (mbox HX3.out.2 hbg)
  clear HG0 HS HLP HTT hcs
  have hx2:w.heap.size+1<W3.heap.size:=mlt HX3.out.2
  have t2:=Qc 2 HTB.out
  obtain⟨g0,g1,g2,g3⟩:=Q4 HG.out
  have gf2:=Qf 2 HG.out
  have hb4:=(b2.trans (hbc.mono b2.size)).trans (hbg.mono (b2.trans (hbc.mono b2.size)).size)
  have hb5:=hb4.setCell (p:=⟨gB,2,none⟩) (by show w.heap.size<=gB;omega) (.bool m.body[k].spaced)
  have HG2:=Qh (Zai HG.out 2 (.bool m.body[k].spaced))
  go_upto_region 5 with fail
  clear t2 g0 g1 g2 g3 gf2 HG HTB hb4
  generalize W4.setCell ⟨gB,2,none⟩ (.bool m.body[k].spaced)=W5 at *
  obtain⟨g0,g1,g2,g3⟩:=Q4 HG2.out
  have hw2:IntKind.i64.wrap ((k:Int)+2)=(k:Int)+2:=IntWalk.i64_in _ (by omega)
  have HL:=Qh (RowN.lit1 (S:=sTok) (e:=57) (w:=W5) (base:=w.heap.size) (x:=⟨[.int .i64 kk,.string s,.bool m.body[k].spaced,.slice ax 0 cx],⟨kk,s,m.body[k].spaced,[]⟩,[]⟩) hb5.size rfl (Zi8 kk s _ ax cx W5 hkk0 hkk4 (by omega) hcx))
  have hbe:=hb5.trans ((Zab W5 (.cells #[.int .i64 kk,.string s,.bool m.body[k].spaced,.slice ax 0 cx] 57)).mono hb5.size)
  go_wp2
  go_ret3
  exact⟨.slice (some ⟨W5.heap.size,0,none⟩) 1 1,_,by rw [HF.out];rfl,HL.out,by rw [HF.out];rfl,λ x hx=>by obtain rfl:=Qm hx;intro b hb;simp at hb,hbe⟩
 have HNF:Hid (¬ (m.function=true/\isM m.body[k] [35]=true)):=λ h=>by rw [h.1,h.2] at hfi;exact absurd hfi (by simp)
 clear hfi
 obtain⟨p0,p1,p2,p3⟩:=Q4 HX3.out.1
 obtain⟨q0,q1,q2,q3⟩:=Q4 HX3.out.2
 have HP:=Qh (ZcO _ _ m m.body[k] _ _ W3 (sMacro.below HMr.out hbc) (sTok.below HRk.out hbc))
 go_wp2_with fail
 refine HP.out.mono ?_
 rintro e W4 ⟨rfl,hb4⟩
 clear p0 p1 p2 p3 q0 q1 q2 q3 HP
 have hbd:=hbc.trans (hb4.mono hbc.size)
 have HX4:=Qh (And.intro (mbox HX.out.1 hbd) (mbox HX.out.2 hbd))
 have hk1:IntKind.i64.wrap ((k:Int)+1)=(k:Int)+1:=IntWalk.i64_in _ (by omega)
 by_cases hp:parOf m.params m.body[k]<0
 ·have HF:=Qh (ZfQ (raw:=raw) (ready:=ready) hk HNF.out hp)
  obtain⟨q0,q1,q2,q3⟩:=Q4 HX4.out.2
  have HL:=Qh (RowN.lit1 (S:=sTok) (e:=57) (w:=W4) (base:=w.heap.size) (x:=⟨[.int .i64 m.body[k].kind,.string m.body[k].text,.bool m.body[k].spaced,.slice ak m.body[k].hidden.length ck],m.body[k],fk⟩) (by have:=hbd.size;omega) rfl (sTok.below HRk.out hbd))
  have hbe:=(b2.trans (hbd.mono b2.size)).trans ((Zab W4 (.cells #[.int .i64 m.body[k].kind,.string m.body[k].text,.bool m.body[k].spaced,.slice ak m.body[k].hidden.length ck] 57)).mono (b2.trans (hbd.mono b2.size)).size)
  generalize parOf m.params m.body[k]=pn at *
  go_wp2
  go_ret3
  exact⟨.slice (some ⟨W4.heap.size,0,none⟩) 1 1,_,by rw [HF.out];rfl,HL.out,by rw [HF.out];rfl,λ x hx=>by obtain rfl:=Qm hx;exact HFK.out,hbe⟩
 obtain⟨n,hn,hnp⟩:=Ziw hp
 have HPN:=Qh hn
 have HPP:=Qh hp
 rw [hn]
 clear hn hp
 have hn0:¬ ((n:Int)<0):=by omega
 have HI2:Hid (∀ (cs:List Value) (x:Tok) (fp:List Nat) (W:World),sTok.R W cs x fp->Calls Tryz.prog 71 #[.agg cs.toArray,.string ⟨#[35,35]⟩] W (Says (isM x [35,35]) W)):=λ cs x fp W h=>by have:=ZcV cs x fp W ⟨#[35,35]⟩ h;rw [ZfV] at this;exact this
 go_upto_region 9 with fail
 go_cut [15] from 16 (λ d wr=>d=.bool (glueL m k || glueR m k)/\Below W2.heap.size W2 wr)
 case first =>
  obtain⟨p0,p1,p2,p3⟩:=Q4 HX4.out.1
  by_cases hk0:0<k
  ·have i0:(0:Int)<(k:Int):=by omega
   have i1:IntKind.i64.wrap ((k:Int)-1)=(k:Int)-1:=IntWalk.i64_in _ (by omega)
   have i2:(0:Int)<=(k:Int)-1:=by omega
   have i3:(k:Int)-1<(m.body.length:Int):=by omega
   have i4:((k:Int)-1).toNat=k-1:=by omega
   have i5:(1:Int)<=(k:Int):=by omega
   obtain⟨xa,xc,xf,xq0,xq1,xq2,xq3,xR,xbb,-⟩:=ZaQ HB2.out (j:=k-1) (by omega)
   have x0:W4.cell? ⟨bb,ob+(k-1) * 4,none⟩=some _:=(hbd.cell (p:=⟨bb,ob+(k-1) * 4,none⟩) xbb).trans xq0
   have x1:W4.cell? ⟨bb,ob+(k-1) * 4+1,none⟩=some _:=(hbd.cell (p:=⟨bb,ob+(k-1) * 4+1,none⟩) xbb).trans xq1
   have x2:W4.cell? ⟨bb,ob+(k-1) * 4+2,none⟩=some _:=(hbd.cell (p:=⟨bb,ob+(k-1) * 4+2,none⟩) xbb).trans xq2
   have x3:W4.cell? ⟨bb,ob+(k-1) * 4+3,none⟩=some _:=(hbd.cell (p:=⟨bb,ob+(k-1) * 4+3,none⟩) xbb).trans xq3
   have HC:=Qh (HI2.out _ (m.body[k-1]'(by omega)) _ W4 (sTok.below xR hbd))
   have HG0:Hid (glueL m k=isM (m.body[k-1]'(by omega)) [35,35]):=by show _=_;unfold glueL;rw [dif_pos ⟨hk0,by omega⟩]
   clear xq0 xq1 xq2 xq3 xR
   rcases Bool.eq_false_or_eq_true (isM (m.body[k-1]'(by omega)) [35,35]) with hg | hg
   ·have HGT:Hid (glueL m k=true):=HG0.out.trans hg
    rw [hg] at HC
    clear hg HG0
    go_wp2_with fail
    refine HC.out.mono ?_
    rintro e w8 ⟨rfl,hb8⟩
    go_wp2
    go_meet
    case rel=>exact⟨by rw [HGT.out];rfl,hbd.trans (hb8.mono hbd.size)⟩
   ·have HGF:Hid (glueL m k=false):=HG0.out.trans hg
    rw [hg] at HC
    clear hg HG0
    go_wp2_with fail
    refine HC.out.mono ?_
    rintro e w8 ⟨rfl,hb8⟩
    have hbf:=hbd.trans (hb8.mono hbd.size)
    clear p0 p1 p2 p3 x0 x1 x2 x3
    have HXr:=Qh (mbox HX.out.1 hbf)
    obtain⟨r0,r1,r2,r3⟩:=Q4 HXr.out
    by_cases hk2:k+1<m.body.length
    ·have i1:(0:Int)<=(k:Int)+1:=by omega
     have i2:(k:Int)+1<(m.body.length:Int):=by omega
     have i3:((k:Int)+1).toNat=k+1:=by omega
     obtain⟨ya,yc,yf,yq0,yq1,yq2,yq3,yR,ybb,-⟩:=ZaQ HB2.out (j:=k+1) hk2
     have y0:w8.cell? ⟨bb,ob+(k+1) * 4,none⟩=some _:=(hbf.cell (p:=⟨bb,ob+(k+1) * 4,none⟩) ybb).trans yq0
     have y1:w8.cell? ⟨bb,ob+(k+1) * 4+1,none⟩=some _:=(hbf.cell (p:=⟨bb,ob+(k+1) * 4+1,none⟩) ybb).trans yq1
     have y2:w8.cell? ⟨bb,ob+(k+1) * 4+2,none⟩=some _:=(hbf.cell (p:=⟨bb,ob+(k+1) * 4+2,none⟩) ybb).trans yq2
     have y3:w8.cell? ⟨bb,ob+(k+1) * 4+3,none⟩=some _:=(hbf.cell (p:=⟨bb,ob+(k+1) * 4+3,none⟩) ybb).trans yq3
     have HC:=Qh (HI2.out _ (m.body[k+1]'hk2) _ w8 (sTok.below yR hbf))
     have HG:Hid (glueR m k=isM (m.body[k+1]'hk2) [35,35]):=by show _=_;unfold glueR;rw [dif_pos hk2]
     clear yq0 yq1 yq2 yq3 yR
     go_wp2_with fail
     refine HC.out.mono ?_
     rintro e w9 ⟨rfl,hb9⟩
     go_wp2
     go_meet
     case rel=>exact⟨by rw [HGF.out,HG.out];simp,hbf.trans (hb9.mono hbf.size)⟩
    ·have i2:¬ ((k:Int)+1<(m.body.length:Int)):=by omega
     have HG:Hid (glueR m k=false):=by show _=_;unfold glueR;rw [dif_neg hk2]
     go_wp2
     go_meet
     case rel=>exact⟨by rw [HGF.out,HG.out];rfl,hbf⟩
  ·have i0:¬ (0:Int)<(k:Int):=by omega
   have HGF:Hid (glueL m k=false):=by show _=_;unfold glueL;rw [dif_neg (λ h=>hk0 h.1)]
   clear p0 p1 p2 p3
   have HXr:=Qh (mbox HX.out.1 hbd)
   obtain⟨r0,r1,r2,r3⟩:=Q4 HXr.out
   by_cases hk2:k+1<m.body.length
   ·have i1:(0:Int)<=(k:Int)+1:=by omega
    have i2:(k:Int)+1<(m.body.length:Int):=by omega
    have i3:((k:Int)+1).toNat=k+1:=by omega
    obtain⟨ya,yc,yf,yq0,yq1,yq2,yq3,yR,ybb,-⟩:=ZaQ HB2.out (j:=k+1) hk2
    have y0:W4.cell? ⟨bb,ob+(k+1) * 4,none⟩=some _:=(hbd.cell (p:=⟨bb,ob+(k+1) * 4,none⟩) ybb).trans yq0
    have y1:W4.cell? ⟨bb,ob+(k+1) * 4+1,none⟩=some _:=(hbd.cell (p:=⟨bb,ob+(k+1) * 4+1,none⟩) ybb).trans yq1
    have y2:W4.cell? ⟨bb,ob+(k+1) * 4+2,none⟩=some _:=(hbd.cell (p:=⟨bb,ob+(k+1) * 4+2,none⟩) ybb).trans yq2
    have y3:W4.cell? ⟨bb,ob+(k+1) * 4+3,none⟩=some _:=(hbd.cell (p:=⟨bb,ob+(k+1) * 4+3,none⟩) ybb).trans yq3
    have HC:=Qh (HI2.out _ (m.body[k+1]'hk2) _ W4 (sTok.below yR hbd))
    have HG:Hid (glueR m k=isM (m.body[k+1]'hk2) [35,35]):=by show _=_;unfold glueR;rw [dif_pos hk2]
    clear yq0 yq1 yq2 yq3 yR
    go_wp2_with fail
    refine HC.out.mono ?_
    rintro e w9 ⟨rfl,hb9⟩
    go_wp2
    go_meet
    case rel=>exact⟨by rw [HGF.out,HG.out];simp,hbd.trans (hb9.mono hbd.size)⟩
   ·have i2:¬ ((k:Int)+1<(m.body.length:Int)):=by omega
    have HG:Hid (glueR m k=false):=by show _=_;unfold glueR;rw [dif_neg hk2]
    go_wp2
    go_meet
    case rel=>exact⟨by rw [HGF.out,HG.out];rfl,hbd⟩
 obtain⟨rfl,hbe⟩:=hcut
 generalize wc=W5 at *
 have HX5:=Qh (And.intro (mbox HX.out.1 hbe) (mbox HX.out.2 hbe))
 clear HX4 hbd HX3 hbc HI2
 cases hg:(glueL m k || glueR m k)
 ·skip
  have HF:=Qh (Ze4 (raw:=raw) (ready:=ready) hk HNF.out (by have:=HPP.out;omega) hg)
  have hnr:n<ready.length:=by have:=hraw.out;have:=hrdy.out;omega
  have HAR:=Qh (Zc7 (a:=ready) HPN.out hnr)
  obtain⟨ar,cr,rfl,-,-,hrowR⟩:=Zac HYY.out
  obtain⟨br,orr,-,rfl,-,-,-⟩:=hrowR (by omega)
  obtain⟨aj,cj,fj,dq,Rj,hbr,hfj⟩:=ZbV HYY.out hnr
  have hjl:(ready[n]).length<=60:=(Zau (HYA.out _ (List.getElem_mem hnr))).1
  have HSP:=Qh (λ (U:World) (hU:Below W5.heap.size W5 U)=>Zdb _ ready[n] fj U m.body[k].spaced (by omega) ((Zaa sTok).below ((Zaa sTok).below Rj hbe) hU))
  have HFJ:Hid (∀ b∈fj,b<B):=λ b hb=>HLy.out b (hfj b hb)
  have d0:W5.drew.cell? ⟨br,orr+n,none⟩=some (.slice aj (ready[n]).length cj):=(hbe.cell (p:=⟨br,orr+n,none⟩) hbr).trans dq
  have t2:W5.drew.cell? ⟨w.heap.size+1,2,none⟩=some (.bool m.body[k].spaced):=Qc 2 HX5.out.2
  have hcs:Below W5.heap.size W5 W5.drew:=Zag (Below.refl _ _) 1
  have hz:W2.heap.size<=W5.heap.size:=hbe.size
  have HK1:∀ U:World,Below W5.drew.heap.size W5.drew U->U.cell? ⟨br,orr+n,none⟩=some (.slice aj (ready[n]).length cj)/\U.cell? ⟨w.heap.size+1,2,none⟩=some (.bool m.body[k].spaced):=λ U hU=>⟨(hU.cell (by show _<W5.heap.size;simp only;omega)).trans d0,(hU.cell (by show _<W5.heap.size;simp only;omega)).trans t2⟩
  have i6:(0:Int)<=(n:Int):=by omega
  have i7:(n:Int)<(ready.length:Int):=by omega
  have i8:n<ready.length:=hnr
  clear dq Rj hfj hrowR hg
  go_wp2_with fail
  go_region_held3 (λ w'=>w'.cell? ⟨br,orr+n,none⟩=some (.slice aj (ready[n]).length cj)/\w'.cell? ⟨w.heap.size+1,2,none⟩=some (.bool m.body[k].spaced))
   (first | (with_reducible exact⟨d0,t2⟩) | (with_reducible exact HK1 _ hb9))
   (first | (go_at_call 103;(with_reducible refine (HSP.out _ hcs).mono ?_);rintro e w9 ⟨v9,L9,rfl,HR9,HD9,HF9,hb9⟩;obtain⟨a9,c9,rfl,-⟩:=HR9.val))
  have hbx:=(b2.trans (hbe.mono b2.size)).trans ((hcs.trans (hb9.mono (Nat.le_refl _))).mono (b2.trans (hbe.mono b2.size)).size)
  have HRF:=Qh (HR9.lower (base':=w.heap.size) (by show w.heap.size<=W5.heap.size;omega))
  have HDF:Hid (L9.map (·.d)=(Zay m raw ready k).1):=by show _=_;rw [HD9,HF.out,HAR.out]
  have HFF:Hid (∀ x∈L9,∀ b∈x.fp,b<B):=λ x hx b hb=>HFJ.out b (HF9 x hx b hb)
  clear HR9 HD9 HF9 hb9 HSP
  go_wp2
  go_ret3
  exact⟨.slice a9 L9.length c9,L9,by rw [HF.out];rfl,HRF.out,HDF.out,HFF.out,hbx⟩
 ·skip
  have HF:=Qh (Zg2 (raw:=raw) (ready:=ready) hk HNF.out (by have:=HPP.out;omega) hg)
  have hnr:n<raw.length:=by have:=hraw.out;have:=hrdy.out;omega
  have HAR:=Qh (Zc7 (a:=raw) HPN.out hnr)
  obtain⟨ar,cr,rfl,-,-,hrowR⟩:=Zac HRR.out
  obtain⟨br,orr,-,rfl,-,-,-⟩:=hrowR (by omega)
  obtain⟨aj,cj,fj,dq,Rj,hbr,hfj⟩:=ZbV HRR.out hnr
  have hjl:(raw[n]).length<=60:=(Zau (HRA.out _ (List.getElem_mem hnr))).1
  have HSP:=Qh (λ (U:World) (hU:Below W5.heap.size W5 U)=>Zdb _ raw[n] fj U m.body[k].spaced (by omega) ((Zaa sTok).below ((Zaa sTok).below Rj hbe) hU))
  have HFJ:Hid (∀ b∈fj,b<B):=λ b hb=>HLr.out b (hfj b hb)
  have d0:W5.drew.cell? ⟨br,orr+n,none⟩=some (.slice aj (raw[n]).length cj):=(hbe.cell (p:=⟨br,orr+n,none⟩) hbr).trans dq
  have t2:W5.drew.cell? ⟨w.heap.size+1,2,none⟩=some (.bool m.body[k].spaced):=Qc 2 HX5.out.2
  have hcs:Below W5.heap.size W5 W5.drew:=Zag (Below.refl _ _) 1
  have hz:W2.heap.size<=W5.heap.size:=hbe.size
  have HK1:∀ U:World,Below W5.drew.heap.size W5.drew U->U.cell? ⟨br,orr+n,none⟩=some (.slice aj (raw[n]).length cj)/\U.cell? ⟨w.heap.size+1,2,none⟩=some (.bool m.body[k].spaced):=λ U hU=>⟨(hU.cell (by show _<W5.heap.size;simp only;omega)).trans d0,(hU.cell (by show _<W5.heap.size;simp only;omega)).trans t2⟩
  have i6:(0:Int)<=(n:Int):=by omega
  have i7:(n:Int)<(raw.length:Int):=by omega
  have i8:n<raw.length:=hnr
  clear dq Rj hfj hrowR hg
  go_wp2_with fail
  go_region_held3 (λ w'=>w'.cell? ⟨br,orr+n,none⟩=some (.slice aj (raw[n]).length cj)/\w'.cell? ⟨w.heap.size+1,2,none⟩=some (.bool m.body[k].spaced))
   (first | (with_reducible exact⟨d0,t2⟩) | (with_reducible exact HK1 _ hb9))
   (first | (go_at_call 103;(with_reducible refine (HSP.out _ hcs).mono ?_);rintro e w9 ⟨v9,L9,rfl,HR9,HD9,HF9,hb9⟩;obtain⟨a9,c9,rfl,-⟩:=HR9.val))
  have hbx:=(b2.trans (hbe.mono b2.size)).trans ((hcs.trans (hb9.mono (Nat.le_refl _))).mono (b2.trans (hbe.mono b2.size)).size)
  have HRF:=Qh (HR9.lower (base':=w.heap.size) (by show w.heap.size<=W5.heap.size;omega))
  have HDF:Hid (L9.map (·.d)=(Zay m raw ready k).1):=by show _=_;rw [HD9,HF.out,HAR.out]
  have HFF:Hid (∀ x∈L9,∀ b∈x.fp,b<B):=λ x hx b hb=>HFJ.out b (HF9 x hx b hb)
  clear HR9 HD9 HF9 hb9 HSP
  go_wp2
  go_ret3
  exact⟨.slice a9 L9.length c9,L9,by rw [HF.out];rfl,HRF.out,HDF.out,HFF.out,hbx⟩
theorem Zkg {a:List (List Tok)} (h:∀ l∈a,Zaj l=true) (n:Int):Zaj (argAt a n)=true:=by
 unfold argAt
 by_cases hn:n.toNat<a.length
 ·rw [List.getD_eq_getElem?_getD,List.getElem?_eq_getElem hn]
  exact h _ (List.getElem_mem hn)
 ·rw [List.getD_eq_getElem?_getD,List.getElem?_eq_none (by omega)]
  rfl
theorem Zlj {b:Bool} {l:List Tok} (h:Zaj l=true):(spc b l).length<=60/\∀ t∈spc b l,t.hidden.length<=60:=by
 have hf:=Zau h
 refine ⟨by rw [Ziq];exact hf.1,λ t ht=>?_⟩
 have key:∀ u∈l,u.hidden.length<=60:=λ u hu=>by
  obtain⟨j,hj,rfl⟩:=List.getElem_of_mem hu
  exact(Zdr (ZbJ (hf.2 j hj))).1
 cases l with
 | nil=>simp [spc] at ht
 |
  cons x r =>
  rcases List.mem_cons.1 ht with rfl | ht
  ·exact key x (by simp)
  ·exact key t (by simp [ht])
theorem Ze9 {m:DMacro} {a:List (List Tok)} (h:Zas m a=true):∀ l∈a,Zaj l=true:=by
 unfold Zas at h;rw [Bool.and_eq_true,List.all_eq_true] at h;exact h.2
theorem ZhU {m:DMacro} {raw ready:List (List Tok)} (hv:macOk m=true) (ha:Zas m raw=true) (hy:Zas m ready=true) {k:Nat} (hk:k<m.body.length) {P:List Tok} {nx:Nat} {ok:Bool} (h:Zay m raw ready k=(P,nx,ok)) :
  P.length<=60/\nx<=m.body.length/\k<nx/\∀ t∈P,t.hidden.length<=60:=by
 have hnx:=Zec m raw ready k
 rw [h] at hnx
 by_cases h1:m.function=true/\isM m.body[k] [35]=true
 ·obtain⟨hk1,-⟩:=ZfU hv hk h1.1 h1.2
  obtain⟨kk,s,b,hx,-⟩:=Zc9 (argAt raw (parOf m.params m.body[k+1]))
  rw [ZfP hk1 h1.1 h1.2 hx] at h
  simp only [Prod.mk.injEq] at h
  obtain⟨rfl,rfl,-⟩:=h
  exact⟨by simp,by omega,hnx,λ t ht=>by rw [Qm ht];exact Nat.zero_le _⟩
 ·by_cases h2:parOf m.params m.body[k]<0
  ·rw [ZfQ hk h1 h2] at h
   simp only [Prod.mk.injEq] at h
   obtain⟨rfl,rfl,-⟩:=h
   refine ⟨by simp,by omega,hnx,λ t ht=>?_⟩
   rw [Qm ht,(Zb6 hk ((ZaH hv).2.2 k hk)).2.1]
   exact Nat.zero_le _
  ·cases h3:(glueL m k || glueR m k)
   ·rw [Ze4 hk h1 h2 h3] at h
    simp only [Prod.mk.injEq] at h
    obtain⟨rfl,rfl,-⟩:=h
    have:=Zlj (b:=m.body[k].spaced) (Zkg (Ze9 hy) (parOf m.params m.body[k]))
    exact⟨this.1,by omega,hnx,this.2⟩
   ·rw [Zg2 hk h1 h2 h3] at h
    simp only [Prod.mk.injEq] at h
    obtain⟨rfl,rfl,-⟩:=h
    have:=Zlj (b:=m.body[k].spaced) (Zkg (Ze9 ha) (parOf m.params m.body[k]))
    exact⟨this.1,by omega,hnx,this.2⟩
theorem set_last {α:Type} {l:List α} (h:l≠[]) (z:α):l.set (l.length-1) z=l.dropLast++[z]:=by
 have hl:0<l.length:=List.length_pos_iff.2 h
 rw [List.set_eq_take_append_cons_drop,if_pos (by omega),List.dropLast_eq_take,List.drop_of_length_le (by omega)]
def BodyOf (P:List Tok × Bool) (w:World) (e:Ending) (w':World):Prop:=
 ∃ (v:Value) (L:List (Elem Tok)),e=.returned (.tuple #[v,.bool P.2])/\RowN sTok w.heap.size 57 v L w'/\L.map (·.d)=P.1/\L.length<=5000/\(∀ x∈L,x.d.hidden.length<=60)/\Below w.heap.size w w'
theorem Zjd {P:List Tok × Bool} {w W:World} (h:P=([],false)) (hb:Below w.heap.size w W):BodyOf P w (.returned (.tuple #[.slice (some ⟨W.heap.size,0,none⟩) 0 0,.bool false])) (W.alloc (.cells #[] 57)):=
 ⟨_,[],by rw [h],RowN.lit0 sTok 57 W hb.size,by rw [h];rfl,by simp,by simp,hb.alloc hb.size _⟩
theorem Zkh (csM:List Value) (m:DMacro) (fpM:List Nat) (vr vy:Value) (raw ready:List (List Tok)) (fpr fpy:List Nat) (w:World) (hv:macOk m=true) (ha:Zas m raw=true) (hy:Zas m ready=true)
  (HM:sMacro.R w csM m fpM) (Hr:(Zaa (Zaa sTok)).R w [vr] raw fpr) (Hy:(Zaa (Zaa sTok)).R w [vy] ready fpy) :
  Calls Tryz.prog 102 #[.agg csM.toArray,vr,vy] w (BodyOf (subGo m raw ready 0 [] true false) w):=by
 have HM0:=HM
 obtain⟨h2,h3,q2,q3,rfl,-,K2,K3,hfpM⟩:=HM
 obtain⟨a2,c2,rfl,-⟩:=Zaf K2
 obtain⟨a3,c3,rfl,hc3,hm3,hrow3⟩:=Zac K3
 obtain⟨ar,cr,rfl,-⟩:=Zac Hr
 obtain⟨ay,cy,rfl,-⟩:=Zac Hy
 unfold maxLen at hm3
 have hlen20:m.body.length<=20:=(ZaH hv).1.2.2.2.2
 have b0:=Zab w (.cells #[.string m.name,.bool m.function,.slice a2 m.params.length c2,.slice a3 m.body.length c3] 70)
 have HX:=Qh (heap_alloc_new w (.cells #[.string m.name,.bool m.function,.slice a2 m.params.length c2,.slice a3 m.body.length c3] 70))
 have HPT:=Qh (λ (k:Nat) (hk:k<m.body.length) (U:World) (hU:Below w.heap.size w U)=>Zkf _ m fpM _ _ raw ready fpr fpy k U hv ha hy hk w.heap.size (λ b hb=>sMacro.lt HM0 b hb) (λ b hb=>(Zaa (Zaa sTok)).lt Hr b hb) (λ b hb=>(Zaa (Zaa sTok)).lt Hy b hb) (sMacro.below HM0 hU) ((Zaa (Zaa sTok)).below Hr hU) ((Zaa (Zaa sTok)).below Hy hU))
 unfold PartOf at HPT
 have HSM:=Qh (λ (k:Nat) (hk:k<m.body.length) (P:List Tok) (nx:Nat) (ok:Bool) (h:Zay m raw ready k=(P,nx,ok))=>ZhU hv ha hy hk h)
 have HB3:=Qh K3
 have hs1:(w.alloc (.cells #[.string m.name,.bool m.function,.slice a2 m.params.length c2,.slice a3 m.body.length c3] 70)).heap.size=w.heap.size+1:=by show (w.heap.push _).size=_;simp
 have HG0:=Qh (RowN.lit0 sTok 57 (w.alloc (.cells #[.string m.name,.bool m.function,.slice a2 m.params.length c2,.slice a3 m.body.length c3] 70)) (base:=w.heap.size) (by omega))
 rw [hs1] at HG0
 have b1:=b0.trans ((Zab (w.alloc (.cells #[.string m.name,.bool m.function,.slice a2 m.params.length c2,.slice a3 m.body.length c3] 70)) (.cells #[] 57)).mono b0.size)
 have HX1:=Qh (mbox HX.out (Zab (w.alloc (.cells #[.string m.name,.bool m.function,.slice a2 m.params.length c2,.slice a3 m.body.length c3] 70)) (.cells #[] 57)))
 have HI2:Hid (∀ (cs:List Value) (x:Tok) (fp:List Nat) (W:World),sTok.R W cs x fp->Calls Tryz.prog 71 #[.agg cs.toArray,.string ⟨#[35,35]⟩] W (Says (isM x [35,35]) W)):=λ cs x fp W h=>by have:=ZcV cs x fp W ⟨#[35,35]⟩ h;rw [ZfV] at this;exact this
 clear HM0 K2 K3 Hr Hy hv ha hy hfpM b0 HX
 go_enter Tryz.func102,Tryz.ntmps102
 go_upto_region 2 with fail
 clear hs1
 generalize ((w.alloc (.cells #[.string m.name,.bool m.function,.slice a2 m.params.length c2,.slice a3 m.body.length c3] 70)).alloc (.cells #[] 57))=W1 at *
 go_wp2
 go_loopw [8,9,10,11] (λ vo ve vp va wr=>∃ (k:Nat) (L:List (Elem Tok)) (emp paste:Bool),k<=m.body.length/\va=.int .i64 k/\ve=.bool emp/\vp=.bool paste/\Hid (RowN sTok w.heap.size 57 vo L wr)/\Hid (vo.ownBlock≠some w.heap.size)/\Hid (subGo m raw ready 0 [] true false=subGo m raw ready k (L.map (·.d)) emp paste)/\Hid (emp=false->0<L.length)/\Hid (L.length<=61 * k)/\Hid (∀ x∈L,x.d.hidden.length<=60)/\Hid (wr.heap[w.heap.size]?=some (.cells #[.string m.name,.bool m.function,.slice a2 m.params.length c2,.slice a3 m.body.length c3] 70 (0,0)))/\Below w.heap.size w wr) (λ _ _ _ va _=>m.body.length-(intOf va).toNat)
 case atStart=>exact⟨0,[],true,false,by omega,rfl,rfl,rfl,HG0.out,(λ h=>by simp only [Value.ownBlock,Qi] at h;omega),rfl,(λ h=>by simp at h),(show (0:Nat)<=_ by omega),(λ x hx=>by simp at hx),HX1.out,b1⟩
 case round =>
  clear HG0 HX1 b1
  obtain⟨k,L,emp,paste,hk,rfl,rfl,rfl,HR,HNB,HGO,HEM,HLL,HHD,HXr,hb⟩:=hrel
  obtain⟨ao,co,rfl,-⟩:=HR.out.val
  obtain⟨N,HN⟩:∃ N:Nat,Hid (N=L.length):=⟨L.length,Qh rfl⟩
  rw [show L.length=N from HN.out.symm] at HR HNB HEM HLL ⊢
  obtain⟨p0,p1,p2,p3⟩:=Q4 HXr.out
  by_cases hlt:k<m.body.length
  ·obtain⟨bb,ob,-,rfl,-,-,-⟩:=hrow3 (by omega)
   obtain⟨xa,xc,xf,xq0,xq1,xq2,xq3,xR,hbb,-⟩:=ZaQ HB3.out hlt
   have x0:wr.cell? ⟨bb,ob+k * 4,none⟩=some _:=(hb.cell (p:=⟨bb,ob+k * 4,none⟩) hbb).trans xq0
   have x1:wr.cell? ⟨bb,ob+k * 4+1,none⟩=some _:=(hb.cell (p:=⟨bb,ob+k * 4+1,none⟩) hbb).trans xq1
   have x2:wr.cell? ⟨bb,ob+k * 4+2,none⟩=some _:=(hb.cell (p:=⟨bb,ob+k * 4+2,none⟩) hbb).trans xq2
   have x3:wr.cell? ⟨bb,ob+k * 4+3,none⟩=some _:=(hb.cell (p:=⟨bb,ob+k * 4+3,none⟩) hbb).trans xq3
   have HC:=Qh (HI2.out _ m.body[k] _ wr (sTok.below xR hb))
   have HPK:=Qh (HPT.out k hlt)
   have HSK:=Qh (HSM.out k hlt)
   have i0:(0:Int)<=(k:Int):=by omega
   have i1:(k:Int)<(m.body.length:Int):=by omega
   have hk1:IntKind.i64.wrap ((k:Int)+1)=(k:Int)+1:=IntWalk.i64_in _ (by omega)
   clear xq0 xq1 xq2 xq3 xR hrow3
   go_upto_region 6 with fail
   go_cut [10,32] from 18 to 94 (λ p d wx=>p=.bool paste/\d=.bool (isM m.body[k] [35,35] && !paste)/\Below wr.heap.size wr wx)
   case first =>
    go_wp2_with fail
    refine HC.out.mono ?_
    rintro e w2 ⟨rfl,hb2⟩
    clear HC
    rcases Bool.eq_false_or_eq_true (isM m.body[k] [35,35]) with hq | hq
    ·have HQ:=Qh hq
     rw [hq]
     clear hq
     go_wp2
     go_meet
     case rel=>exact⟨rfl,by rw [HQ.out];simp,hb2⟩
    ·have HQ:=Qh hq
     rw [hq]
     clear hq
     go_wp2
     go_meet
     case rel=>exact⟨rfl,by rw [HQ.out];rfl,hb2⟩
   obtain⟨rfl,rfl,hb2⟩:=hcut
   generalize wc=w2 at *
   replace HR:=Qh (HR.out.below hb2)
   replace HXr:=Qh (mbox HXr.out hb2)
   have hB:=hb.trans (hb2.mono hb.size)
   clear x0 x1 x2 x3 p0 p1 p2 p3 HC hb2 hb
   cases hbm:(isM m.body[k] [35,35] && !paste)
   rotate_left
   ·obtain⟨hm1,hm2⟩:=Bool.and_eq_true_iff.1 hbm
    obtain rfl:paste=false:=by simpa using hm2
    have HN1:=Qh (HGO.out.trans (Ze5 hlt hm1))
    have HLL1:Hid (L.length<=61 * (k+1)):=by show _<=_;have:=HLL.out;have:=HN.out;omega
    have HEM1:Hid (emp=false->0<L.length):=λ h=>by have:=HEM.out h;have:=HN.out;omega
    clear hm1 hm2 hbm HGO
    go_wp2
    go_roundw
    case rel=>exact⟨k+1,L,emp,true,by omega,by go_num,rfl,by trivial,HR.out,HNB.out,HN1.out,HEM1.out,HLL1.out,HHD.out,HXr.out,hB⟩
    case measure=>simp [intOf];omega
   have HMK:Hid (¬ (isM m.body[k] [35,35]=true/\paste=false)):=λ h=>by rw [h.1,h.2] at hbm;exact absurd hbm (by simp)
   clear hbm
   rcases hP:Zay m raw ready k with⟨P,nx,ok⟩
   have HS:=Qh (HSK.out P nx ok hP)
   have HPP:=Qh hP
   have HC:=Qh (HPK.out _ hB)
   rw [hP] at HC
   try dsimp only at HC
   clear hP HSK HPK
   obtain⟨p0,p1,p2,p3⟩:=Q4 HXr.out
   go_wp2_with fail
   refine HC.out.mono ?_
   rintro e w3 ⟨v9,L9,rfl,HR9,HD9,HF9,hb3⟩
   have hmine:=HR.out.mine
   replace HR:=Qh (HR.out.below hb3)
   replace HXr:=Qh (mbox HXr.out hb3)
   have hB3:=hB.trans (hb3.mono hB.size)
   obtain⟨a9,c9,rfl,hc9,hm9,hv9⟩:=HR9.val
   have HR9':=Qh HR9
   have HD9':=Qh HD9
   have HF9':=Qh HF9
   have HPL:Hid (P.length=L9.length):=by show _=_;rw [← HD9,List.length_map]
   obtain⟨fp9,r9,hf9,-⟩:=HR9.read
   have HMI:Hid (∀ b∈fp9,(Value.slice ao N co).ownBlock≠some b):=λ b hb h=>by
    have h1:=hmine b h
    rcases hf9 b hb with h2 | ⟨x,hx,h2⟩
    ·have:=(HR9.mine b h2).1;omega
    ·have:=HF9 x hx b h2;omega
   rw [HD9] at r9
   have HRD:=Qh r9
   obtain⟨N9,HN9⟩:∃ N9:Nat,Hid (N9=L9.length):=⟨L9.length,Qh rfl⟩
   rw [show L9.length=N9 from HN9.out.symm] at HRD HR9' hc9 ⊢
   have h960:N9<=60:=by have:=HS.out.1;have:=HPL.out;have:=HN9.out;omega
   clear p0 p1 p2 p3 HC hb3 HR9 HD9 HF9 r9 hf9 hmine hv9 hB
   cases ok
   ·have HF:=Qh (HGO.out.trans (ZeH hlt HMK.out HPP.out))
    go_wp2
    go_ret2
    exact Zjd HF.out hB3
   go_upto_region 12 with fail
   go_cut [9,10,56] from 18 to 94 (λ e p d wx=>e=.bool emp/\p=.bool paste/\d=.bool (paste && !emp && decide (0<N9))/\wx=w3)
   case first =>
    have hn9:decide (0<N9)=decide ((0:Int)<(N9:Int)):=decide_eq_decide.2 (by omega)
    obtain⟨bp,HBP⟩:∃ b,Hid (b=paste):=⟨paste,Qh rfl⟩
    obtain⟨be,HBE⟩:∃ b,Hid (b=emp):=⟨emp,Qh rfl⟩
    rw [show emp=be from HBE.out.symm,show paste=bp from HBP.out.symm]
    cases bp
    ·go_wp2
     go_meet
     case rel=>exact⟨by rw [HBE.out],by rw [← HBP.out],by rw [← HBP.out];rfl,by trivial⟩
    ·cases be
     ·by_cases h9:0<N9
      ·have h9':(0:Int)<(N9:Int):=by omega
       go_wp2
       go_meet
       case rel=>exact⟨by rw [← HBE.out],by rw [← HBP.out],by rw [← HBP.out,← HBE.out];simp [h9],by trivial⟩
      ·have h9':¬ (0:Int)<(N9:Int):=by omega
       go_wp2
       go_meet
       case rel=>exact⟨by rw [← HBE.out],by rw [← HBP.out],by rw [← HBP.out,← HBE.out];simp [h9],by trivial⟩
     ·go_wp2
      go_meet
      case rel=>exact⟨by rw [← HBE.out],by rw [← HBP.out],by rw [← HBP.out,← HBE.out];rfl,by trivial⟩
   obtain⟨rfl,rfl,rfl,rfl⟩:=hcut
   cases hcd:(paste && !emp && decide (0<N9))
   ·have HCD:Hid (¬ (paste=true/\emp=false/\0<P.length)):=λ h=>by
     rw [h.1,h.2.1,show decide (0<N9)=true from decide_eq_true (by have:=h.2.2;have:=HPL.out;have:=HN9.out;omega)] at hcd
     exact absurd hcd (by simp)
    have HNX:=Qh (HGO.out.trans (ZdE hlt HMK.out HPP.out HCD.out))
    have HDP:Hid (decide (P.length=0)=decide (N9=0)):=decide_eq_decide.2 (by have:=HPL.out;have:=HN9.out;omega)
    clear hcd
    go_upto_region 18 with fail
    go_cut [9,10] from 18 to 94 (λ e p wx=>e=.bool (decide (N9=0) && (emp || !paste))/\p=.bool paste/\wx=wc)
    case first =>
     obtain⟨bp,HBP⟩:∃ b,Hid (b=paste):=⟨paste,Qh rfl⟩
     obtain⟨be,HBE⟩:∃ b,Hid (b=emp):=⟨emp,Qh rfl⟩
     rw [show emp=be from HBE.out.symm,show paste=bp from HBP.out.symm]
     by_cases h9:N9=0
     ·have h9':((N9:Int)==0)=true:=by simp [h9]
      have H9:=Qh h9
      clear h9
      cases be
      ·cases bp
       ·go_wp2
        go_meet
        case rel=>exact⟨by rw [← HBP.out,← HBE.out,H9.out];rfl,by rw [← HBP.out],by trivial⟩
       ·go_wp2
        go_meet
        case rel=>exact⟨by rw [← HBP.out,← HBE.out,H9.out];rfl,by rw [← HBP.out],by trivial⟩
      ·go_wp2
       go_meet
       case rel=>exact⟨by rw [← HBE.out,H9.out];rfl,by rw [HBP.out],by trivial⟩
     ·have h9':((N9:Int)==0)=false:=by rw [beq_eq_false_iff_ne];omega
      have H9:=Qh h9
      clear h9
      go_wp2
      go_meet
      case rel=>exact⟨by rw [decide_eq_false H9.out];rfl,by rw [HBP.out],by trivial⟩
    obtain⟨rfl,rfl,rfl⟩:=hcut
    have hNL:N<=61 * k:=by have:=HLL.out;exact this
    have hk20:k<=20:=by omega
    go_wp2_with (at_builtin;refine Zbd ZaE rfl (by decide) ZaI wc rfl (.tmp 91) (.tmp 92) rfl w.heap.size (.slice ao N co) (.slice a9 N9 c9) (P) fp9 rfl HR.out rfl HRD.out HMI.out (by have:=HPL.out;have:=HN9.out;have:=HN.out;simp [maxLen];omega) (by have:=HPL.out;have:=HN9.out;have:=HN.out;simp;omega) hB3.size ?_;intro v5 X w5 hX hXf hR5 hg5 hp5)
    have hb5:Below w.heap.size w w5:=hB3.grown hg5 hB3.size (λ b hb=>(HR.out.mine b hb).1)
    have HX5:=Qh ((hg5.block w.heap.size (mlt HXr.out) (λ e=>HNB.out e.symm)).trans HXr.out)
    have HNB5:Hid (v5.ownBlock≠some w.heap.size):=λ e=>by
     rcases hp5 with h | h
     ·rw [h] at e;exact HNB.out e
     ·rw [h] at e;have:=mlt HXr.out;simp only [Qi] at e;omega
    have HGO5:Hid (subGo m raw ready 0 [] true false=subGo m raw ready nx ((L++X).map (·.d)) (decide (N9=0) && (emp || !paste)) false):=by
     show _=_
     rw [HNX.out,HDP.out,List.map_append,hX]
    have hXl:X.length=N9:=by have:=congrArg List.length hX;rw [List.length_map] at this;have:=HPL.out;have:=HN9.out;omega
    have HEM5:Hid ((decide (N9=0) && (emp || !paste))=false->0<(L++X).length):=λ h=>by
     rw [List.length_append,hXl]
     by_cases h9:N9=0
     ·rw [h9] at h
      have he:emp=false:=by
       have h2:(emp || !paste)=false:=by simpa using h
       exact(Bool.or_eq_false_iff.1 h2).1
      have:=HEM.out he;have:=HN.out;omega
     ·omega
    have HLL5:Hid ((L++X).length<=61 * nx):=by show _<=_;rw [List.length_append,hXl];have:=HS.out.2.2.1;have:=HN.out;omega
    have HHD5:Hid (∀ x∈L++X,x.d.hidden.length<=60):=λ x hx=>by
     rcases Qa hx with hx | hx
     ·exact HHD.out x hx
     ·have hm:x.d∈P:=by rw [← hX];exact List.mem_map.2 ⟨x,hx,rfl⟩
      exact HS.out.2.2.2 x.d hm
    have HR5:=Qh hR5
    have hnx:=HS.out.2.1
    have hnk:=HS.out.2.2.1
    clear hX hXf hR5 hg5 hp5
    go_wp2
    go_roundw
    case rel=>exact⟨nx,L++X,_,false,hnx,by trivial,rfl,by trivial,HR5.out,HNB5.out,HGO5.out,HEM5.out,HLL5.out,HHD5.out,HX5.out,hb5⟩
    case measure=>simp [intOf];omega
   ·skip
    obtain⟨h12,h9b⟩:=Bool.and_eq_true_iff.1 hcd
    obtain⟨h1p,h2e⟩:=Bool.and_eq_true_iff.1 h12
    obtain rfl:paste=true:=h1p
    obtain rfl:emp=false:=by simpa using h2e
    have h90:0<N9:=of_decide_eq_true h9b
    have hN0:0<N:=HEM.out rfl
    have HCD:Hid (true=true/\false=false/\0<P.length):=⟨rfl,rfl,by have:=HPL.out;have:=HN9.out;omega⟩
    clear hcd h12 h9b
    obtain⟨g,rfl,hgw,hg3⟩:∃ g,ao=some ⟨g,0,none⟩/\w.heap.size<=g/\g<wc.heap.size:=by
     obtain⟨a8,c8,e8,-,-,h8⟩:=HR.out.val
     simp only [Value.slice.injEq] at e8
     obtain⟨rfl,-,-⟩:=e8
     exact h8 (by have:=HN.out;omega)
    obtain⟨g9,rfl,hg9w,hg93⟩:∃ g9,a9=some ⟨g9,0,none⟩/\w2.heap.size<=g9/\g9<wc.heap.size:=by
     obtain⟨a8,c8,e8,-,-,h8⟩:=HR9'.out.val
     simp only [Value.slice.injEq] at e8
     obtain⟨rfl,-,-⟩:=e8
     exact h8 (by have:=HN9.out;omega)
    have hNl:N-1<L.length:=by have:=HN.out;omega
    have hN9l:0<L9.length:=by have:=HN9.out;omega
    obtain⟨y,hyd⟩:∃ y:Elem Tok,Hid (y=L[N-1]'hNl):=⟨L[N-1]'hNl,Qh rfl⟩
    obtain⟨x,hxd⟩:∃ x:Elem Tok,Hid (x=L9[0]'hN9l):=⟨L9[0]'hN9l,Qh rfl⟩
    have hym:y∈L:=by rw [hyd.out];exact List.getElem_mem hNl
    have hxm:x∈L9:=by rw [hxd.out];exact List.getElem_mem hN9l
    obtain⟨hyv,hyc,-,-,KY⟩:=HR.out.el y hym
    obtain⟨ya,yc,rfl,-⟩:=Zaf KY
    obtain⟨hxv,hxc,-,-,KX⟩:=HR9'.out.el x hxm
    obtain⟨xa,xc,rfl,-⟩:=Zaf KX
    clear KY KX
    have RY:=HR.out.el y hym
    have RX:=HR9'.out.el x hxm
    rw [hyc] at RY
    rw [hxc] at RX
    have y0:wc.cell? ⟨g,(N-1) * 4,none⟩=some (.int .i64 y.d.kind):=HR.out.cellAt hNl (j:=0) (by decide) (by rw [← hyd.out,hyc];rfl)
    have y1:wc.cell? ⟨g,(N-1) * 4+1,none⟩=some (.string y.d.text):=HR.out.cellAt hNl (j:=1) (by decide) (by rw [← hyd.out,hyc];rfl)
    have y2:wc.cell? ⟨g,(N-1) * 4+2,none⟩=some (.bool y.d.spaced):=HR.out.cellAt hNl (j:=2) (by decide) (by rw [← hyd.out,hyc];rfl)
    have y3:wc.cell? ⟨g,(N-1) * 4+3,none⟩=some (.slice ya y.d.hidden.length yc):=HR.out.cellAt hNl (j:=3) (by decide) (by rw [← hyd.out,hyc];rfl)
    have x0:wc.cell? ⟨g9,0,none⟩=some (.int .i64 x.d.kind):=by have:=HR9'.out.cellAt hN9l (j:=0) (by decide) (u:=.int .i64 x.d.kind) (by rw [← hxd.out,hxc];rfl);simpa using this
    have x1:wc.cell? ⟨g9,1,none⟩=some (.string x.d.text):=by have:=HR9'.out.cellAt hN9l (j:=1) (by decide) (u:=.string x.d.text) (by rw [← hxd.out,hxc];rfl);simpa using this
    have x2:wc.cell? ⟨g9,2,none⟩=some (.bool x.d.spaced):=by have:=HR9'.out.cellAt hN9l (j:=2) (by decide) (u:=.bool x.d.spaced) (by rw [← hxd.out,hxc];rfl);simpa using this
    have x3:wc.cell? ⟨g9,3,none⟩=some (.slice xa x.d.hidden.length xc):=by have:=HR9'.out.cellAt hN9l (j:=3) (by decide) (u:=.slice xa x.d.hidden.length xc) (by rw [← hxd.out,hxc];rfl);simpa using this
    have HYX:Hid ((L.map (·.d)).getLastD zTok=y.d/\P.headD zTok=x.d):=by
     refine ⟨?_,?_⟩
     ·have hne:L.map (·.d)≠[]:=λ h=>by have:=congrArg List.length h;rw [List.length_map] at this;simp at this;rw [this] at hNl;simp at hNl
      rw [List.getLastD_eq_getLast?,List.getLast?_eq_some_getLast hne,Option.getD_some,List.getLast_eq_getElem,List.getElem_map,hyd.out]
      congr 2
      rw [List.length_map];have:=HN.out;omega
     ·rw [← HD9'.out,hxd.out]
      cases L9 with
      | nil=>simp at hN9l
      | cons q r=>rfl
    have hyh:y.d.hidden.length<=60:=HHD.out y hym
    have hxh:x.d.hidden.length<=60:=HS.out.2.2.2 x.d (by rw [← HD9'.out];exact List.mem_map.2 ⟨x,hxm,rfl⟩)
    rcases hpr:Zaq y.d x.d with⟨z,fine⟩
    have HPR:=Qh hpr
    have HPT2:=Qh (λ (U:World) (hU:Below wc.heap.size wc U)=>Zg5 [.int .i64 y.d.kind,.string y.d.text,.bool y.d.spaced,.slice ya y.d.hidden.length yc] [.int .i64 x.d.kind,.string x.d.text,.bool x.d.spaced,.slice xa x.d.hidden.length xc] y.d x.d y.fp x.fp U (by omega) (by omega) (sTok.below RY hU) (sTok.below RX hU))
    unfold ZdF at HPT2
    rw [hpr] at HPT2
    try dsimp only at HPT2
    have HSS:Hid (∀ U:World,Below wc.heap.size wc U->U.cell? ⟨g,(N-1) * 4,none⟩=some (.int .i64 y.d.kind)/\U.cell? ⟨g,(N-1) * 4+1,none⟩=some (.string y.d.text)/\U.cell? ⟨g,(N-1) * 4+2,none⟩=some (.bool y.d.spaced)/\U.cell? ⟨g,(N-1) * 4+3,none⟩=some (.slice ya y.d.hidden.length yc)/\U.cell? ⟨g9,0,none⟩=some (.int .i64 x.d.kind)/\U.cell? ⟨g9,1,none⟩=some (.string x.d.text)/\U.cell? ⟨g9,2,none⟩=some (.bool x.d.spaced)/\U.cell? ⟨g9,3,none⟩=some (.slice xa x.d.hidden.length xc)):=λ U hU=>⟨(hU.cell hg3).trans y0,(hU.cell hg3).trans y1,(hU.cell hg3).trans y2,(hU.cell hg3).trans y3,(hU.cell hg93).trans x0,(hU.cell hg93).trans x1,(hU.cell hg93).trans x2,(hU.cell hg93).trans x3⟩
    have hcs:Below wc.heap.size wc wc.drew:=Zag (Below.refl _ _) 1
    have hwn:IntKind.i64.wrap ((N:Int)-1)=(N:Int)-1:=IntWalk.i64_in _ (by have:=HLL.out;have:N<=61 * k:=this;omega)
    have n1:(0:Int)<=(N:Int)-1:=by omega
    have n2:(N:Int)-1<(N:Int):=by omega
    have n3:((N:Int)-1).toNat=N-1:=by omega
    have n4:(1:Int)<=(N:Int):=by omega
    have n5:(0:Int)<(N9:Int):=by omega
    clear y0 y1 y2 y3 x0 x1 x2 x3 hpr RY RX hxc
    generalize wc=wa at *
    go_upto_region 13 with fail
    go_cut [15,16] from 18 to 94 (λ d e wx=>∃ (gB:Nat) (za:Option Addr) (zc:Nat) (fz:List Nat),d=.pointer (some ⟨gB,0,none⟩)/\e=.bool fine/\wx.heap[gB]?=some (.cells #[.int .i64 z.kind,.string z.text,.bool z.spaced,.slice za z.hidden.length zc] 57 (0,0))/\wa.heap.size<=gB/\gB<wx.heap.size/\sTok.R wx [.int .i64 z.kind,.string z.text,.bool z.spaced,.slice za z.hidden.length zc] z fz/\(∀ b∈fz,wa.heap.size<=b)/\Below wa.heap.size wa wx)
    case first =>
     refine wp_region_noPanic ?_
     refine wp_region_held_drew (S:=λ w'=>w'.cell? ⟨g,(N-1) * 4,none⟩=some (.int .i64 y.d.kind)/\w'.cell? ⟨g,(N-1) * 4+1,none⟩=some (.string y.d.text)/\w'.cell? ⟨g,(N-1) * 4+2,none⟩=some (.bool y.d.spaced)/\w'.cell? ⟨g,(N-1) * 4+3,none⟩=some (.slice ya y.d.hidden.length yc)/\w'.cell? ⟨g9,0,none⟩=some (.int .i64 x.d.kind)/\w'.cell? ⟨g9,1,none⟩=some (.string x.d.text)/\w'.cell? ⟨g9,2,none⟩=some (.bool x.d.spaced)/\w'.cell? ⟨g9,3,none⟩=some (.slice xa x.d.hidden.length xc)) (by kernel_rfl) (by exact HSS.out _ hcs) (λ hHeld=>?_)
     generalize wa.drew=wd at *
     refine Qt 0 58 rfl rfl ?_
     try simp only [Qp]
     refine Qt 1 59 rfl rfl ?_
     try simp only [Qp]
     refine Qt 2 60 rfl rfl ?_
     try simp only [Qp]
     refine Qt 3 61 rfl rfl ?_
     try simp only [Qp]
     refine Qt 4 62 rfl rfl ?_
     try simp only [Qp]
     refine Qt 5 63 rfl rfl ?_ (by intro w hSw;obtain⟨s0,s1,s2,s3,t0,t1,t2,t3⟩:=hSw;go_simp;(first | done | with_reducible rfl | rfl))
     try simp only [Qp]
     refine Qt 6 64 rfl rfl ?_
     try simp only [Qp]
     refine Qt 7 65 rfl rfl ?_
     try simp only [Qp]
     refine Qt 8 66 rfl rfl ?_ (by intro w hSw;obtain⟨s0,s1,s2,s3,t0,t1,t2,t3⟩:=hSw;go_simp;(first | done | with_reducible rfl | rfl))
     try simp only [Qp]
     refine wpAnyH_ready (rs:=[9,13]) (by kernel_rfl) (by simp) ?_
     refine AllReadyH.cons rfl (λ K hK=>?_) ?_
     ·skip
      go_simp
      refine (HPT2.out _ hcs).mono ?_
      rintro e wx1 ⟨czs,fz,rfl,rZ,oZ,brz⟩
      obtain⟨hz,rfl,-,-,KZ⟩:=id rZ
      obtain⟨za,zc,rfl,-⟩:=Zaf KZ
      clear KZ
      have hx1:=hcs.trans (brz.mono hcs.size)
      replace oZ:=oZ.lower hcs.size
      refine hK.out _ _ (HSS.out _ hx1) (λ hHeld=>?_)
      clear hK K
      try simp only [Qp]
      refine Qt 10 57 rfl rfl ?_
      try simp only [Qp]
      refine Qt 11 68 rfl rfl ?_
      try simp only [Qp]
      refine Qt 12 69 rfl rfl ?_
      try simp only [Qp]
      refine Qr 13 rfl (λ K hK=>?_)
      go_simp
      have bk:=Zab wx1 (.cells #[.int .i64 0,.string ⟨#[]⟩,.bool false,.slice none 0 0] 57)
      have HBX:=Qh (heap_alloc_new wx1 (.cells #[.int .i64 0,.string ⟨#[]⟩,.bool false,.slice none 0 0] 57))
      have hx2:=hx1.trans (bk.mono hx1.size)
      have hge:=hx1.size
      replace rZ:=sTok.below rZ bk
      have hnz:wx1.heap.size∉fz:=λ h=>Nat.lt_irrefl _ (oZ.lt _ h)
      replace oZ:=oZ.grow bk
      refine hK.out _ _ (HSS.out _ hx2) (λ hHeld=>?_)
      clear hK K bk
      try simp only [Qp]
      generalize (wx1.alloc (.cells #[.int .i64 0,.string ⟨#[]⟩,.bool false,.slice none 0 0] 57))=wx2 at *
      have zc0:=Qc 0 HBX.out
      have zf0:=Qf 0 HBX.out
      have zc1:=Qc 1 HBX.out
      have zf1:=Qf 1 HBX.out
      have zc2:=Qc 2 HBX.out
      have zf2:=Qf 2 HBX.out
      have zc3:=Qc 3 HBX.out
      have zf3:=Qf 3 HBX.out
      have HDN:=Qh (Ze7 HBX.out hge rZ oZ hnz hx2 (.int .i64 z.kind) (.string z.text) (.bool z.spaced) (.slice za z.hidden.length zc))
      refine Qr 14 rfl (λ K hK=>?_)
      go_simp
      change K _ (set4 wx2 (wx1.heap.size) (.int .i64 z.kind) (.string z.text) (.bool z.spaced) (.slice za z.hidden.length zc))
      refine hK.out _ _ (HSS.out _ HDN.out.2.2.2.2.2) (λ hHeld=>?_)
      clear hK K
      try simp only [Qp]
      refine Qt 15 16 rfl rfl ?_
      try simp only [Qp]
      refine wpAnyH_done (by kernel_rfl) ?_ _
      refine NoPanic.normal ?_
      clear hHeld
      go_wp2
      go_meet
      case rel=>exact⟨_,za,zc,_,rfl,rfl,HDN.out.1,HDN.out.2.1,HDN.out.2.2.1,HDN.out.2.2.2.1,λ b hb=>(HDN.out.2.2.2.2.1.2 b hb).1,HDN.out.2.2.2.2.2⟩
     refine AllReadyH.cons rfl (λ K hK=>?_) AllReadyH.nil
     go_simp
     have bk:=Zab wd (.cells #[.int .i64 0,.string ⟨#[]⟩,.bool false,.slice none 0 0] 57)
     have HBX:=Qh (heap_alloc_new wd (.cells #[.int .i64 0,.string ⟨#[]⟩,.bool false,.slice none 0 0] 57))
     have hx3:=hcs.trans (bk.mono hcs.size)
     have hge:=hcs.size
     refine hK.out _ _ (HSS.out _ hx3) (λ hHeld=>?_)
     clear hK K bk
     try simp only [Qp]
     generalize (wd.alloc (.cells #[.int .i64 0,.string ⟨#[]⟩,.bool false,.slice none 0 0] 57))=wx3 at *
     refine Qr 9 rfl (λ K hK=>?_)
     go_simp
     refine (HPT2.out _ hx3).mono ?_
     rintro e wx4 ⟨czs,fz,rfl,rZ,oZ,brz⟩
     obtain⟨hz,rfl,-,-,KZ⟩:=id rZ
     obtain⟨za,zc,rfl,-⟩:=Zaf KZ
     clear KZ
     have hx4:=hx3.trans (brz.mono hx3.size)
     have hnz:wd.heap.size∉fz:=λ h=>by have h1:=(oZ.2 _ h).1;have h2:=mlt HBX.out;omega
     replace HBX:=Qh (mbox HBX.out brz)
     replace oZ:=oZ.lower hx3.size
     refine hK.out _ _ (HSS.out _ hx4) (λ hHeld=>?_)
     clear hK K
     try simp only [Qp]
     refine Qt 10 57 rfl rfl ?_
     try simp only [Qp]
     refine Qt 11 68 rfl rfl ?_
     try simp only [Qp]
     refine Qt 12 69 rfl rfl ?_
     try simp only [Qp]
     have zc0:=Qc 0 HBX.out
     have zf0:=Qf 0 HBX.out
     have zc1:=Qc 1 HBX.out
     have zf1:=Qf 1 HBX.out
     have zc2:=Qc 2 HBX.out
     have zf2:=Qf 2 HBX.out
     have zc3:=Qc 3 HBX.out
     have zf3:=Qf 3 HBX.out
     have HDN:=Qh (Ze7 HBX.out hge rZ oZ hnz hx4 (.int .i64 z.kind) (.string z.text) (.bool z.spaced) (.slice za z.hidden.length zc))
     refine Qr 14 rfl (λ K hK=>?_)
     go_simp
     change K _ (set4 wx4 (wd.heap.size) (.int .i64 z.kind) (.string z.text) (.bool z.spaced) (.slice za z.hidden.length zc))
     refine hK.out _ _ (HSS.out _ HDN.out.2.2.2.2.2) (λ hHeld=>?_)
     clear hK K
     try simp only [Qp]
     refine Qt 15 16 rfl rfl ?_
     try simp only [Qp]
     refine wpAnyH_done (by kernel_rfl) ?_ _
     refine NoPanic.normal ?_
     clear hHeld
     go_wp2
     go_meet
     case rel=>exact⟨_,za,zc,_,rfl,rfl,HDN.out.1,HDN.out.2.1,HDN.out.2.2.1,HDN.out.2.2.2.1,λ b hb=>(HDN.out.2.2.2.2.1.2 b hb).1,HDN.out.2.2.2.2.2⟩
    obtain⟨gB,za,zc,fz,rfl,rfl,HZB0,hgB1,hgB2,RZ,hfz,hbz⟩:=hcut
    generalize wc=wb at *
    have HZB:=Qh HZB0
    have hBb:=hB3.trans (hbz.mono hB3.size)
    replace HR:=Qh (HR.out.below hbz)
    replace HXr:=Qh (mbox HXr.out hbz)
    have HRDb:=Qh ((Zaa sTok).below HRD.out hbz)
    have HP3:Hid (Zaq ((L.map (·.d)).getLastD zTok) (P.headD zTok)=(z,fine)):=by show _=_;rw [HYX.out.1,HYX.out.2];exact HPR.out
    clear HZB0 HPT2 HSS hcs HRD
    cases fine
    ·have HF:=Qh (HGO.out.trans (ZhO hlt HMK.out HPP.out HCD.out HP3.out))
     go_wp2
     go_ret2
     exact Zjd HF.out hBb
    have HNX:=Qh (HGO.out.trans (Zgc hlt HMK.out HPP.out HCD.out HP3.out))
    have HZH:Hid (z.hidden.length<=60):=by show _<=_;have:=(Ze3 HPR.out).2.2.2.2.2;omega
    have hgx:g∉fz:=λ h=>by have:=hfz _ h;omega
    have hgf:g∉fp9:=λ h=>HMI.out g h rfl
    have hgw2:w.heap.size≠g:=λ h=>HNB.out (by rw [h];rfl)
    obtain⟨z0,z1,z2,z3⟩:=Q4 HZB.out
    have y0:wb.cell? ⟨g,(N-1) * 4,none⟩=some (.int .i64 y.d.kind):=HR.out.cellAt hNl (j:=0) (by decide) (by rw [← hyd.out,hyc];rfl)
    have y1:wb.cell? ⟨g,(N-1) * 4+1,none⟩=some (.string y.d.text):=HR.out.cellAt hNl (j:=1) (by decide) (by rw [← hyd.out,hyc];rfl)
    have y2:wb.cell? ⟨g,(N-1) * 4+2,none⟩=some (.bool y.d.spaced):=HR.out.cellAt hNl (j:=2) (by decide) (by rw [← hyd.out,hyc];rfl)
    have y3:wb.cell? ⟨g,(N-1) * 4+3,none⟩=some (.slice ya y.d.hidden.length yc):=HR.out.cellAt hNl (j:=3) (by decide) (by rw [← hyd.out,hyc];rfl)
    have f0:wb.frozen? ⟨g,(N-1) * 4,none⟩=false:=HR.out.frozen _
    have f1:wb.frozen? ⟨g,(N-1) * 4+1,none⟩=false:=HR.out.frozen _
    have f2:wb.frozen? ⟨g,(N-1) * 4+2,none⟩=false:=HR.out.frozen _
    have f3:wb.frozen? ⟨g,(N-1) * 4+3,none⟩=false:=HR.out.frozen _
    have HPUT:Hid (RowN sTok w.heap.size 57 (.slice (some ⟨g,0,none⟩) N co) (L.set (N-1) ⟨[.int .i64 z.kind,.string z.text,.bool z.spaced,.slice za z.hidden.length zc],z,fz⟩) ((((wb.setCell ⟨g,(N-1) * 4,none⟩ (.int .i64 z.kind)).setCell ⟨g,(N-1) * 4+1,none⟩ (.string z.text)).setCell ⟨g,(N-1) * 4+2,none⟩ (.bool z.spaced)).setCell ⟨g,(N-1) * 4+3,none⟩ (.slice za z.hidden.length zc))):=HR.out.put hNl ⟨[.int .i64 z.kind,.string z.text,.bool z.spaced,.slice za z.hidden.length zc],z,fz⟩ rfl RZ hgx
    have HRQ:Hid ((Zaa sTok).R ((((wb.setCell ⟨g,(N-1) * 4,none⟩ (.int .i64 z.kind)).setCell ⟨g,(N-1) * 4+1,none⟩ (.string z.text)).setCell ⟨g,(N-1) * 4+2,none⟩ (.bool z.spaced)).setCell ⟨g,(N-1) * 4+3,none⟩ (.slice za z.hidden.length zc)) [.slice (some ⟨g9,0,none⟩) N9 c9] P fp9):=(Zaa sTok).setB ((Zaa sTok).setB ((Zaa sTok).setB ((Zaa sTok).setB HRDb.out hgf _ _) hgf _ _) hgf _ _) hgf _ _
    have HXQ:=Qh (Zav (Zav (Zav (Zav HXr.out hgw2 ((N-1) * 4) (.int .i64 z.kind)) hgw2 ((N-1) * 4+1) (.string z.text)) hgw2 ((N-1) * 4+2) (.bool z.spaced)) hgw2 ((N-1) * 4+3) (.slice za z.hidden.length zc))
    have hBQ:Below w.heap.size w ((((wb.setCell ⟨g,(N-1) * 4,none⟩ (.int .i64 z.kind)).setCell ⟨g,(N-1) * 4+1,none⟩ (.string z.text)).setCell ⟨g,(N-1) * 4+2,none⟩ (.bool z.spaced)).setCell ⟨g,(N-1) * 4+3,none⟩ (.slice za z.hidden.length zc)):=(((hBb.setCell (p:=⟨g,(N-1) * 4,none⟩) hgw (.int .i64 z.kind)).setCell (p:=⟨g,(N-1) * 4+1,none⟩) hgw (.string z.text)).setCell (p:=⟨g,(N-1) * 4+2,none⟩) hgw (.bool z.spaced)).setCell (p:=⟨g,(N-1) * 4+3,none⟩) hgw (.slice za z.hidden.length zc)
    go_upto_region 17 with fail
    clear z0 z1 z2 z3 y0 y1 y2 y3 f0 f1 f2 f3 HZB HR HXr HRDb hBb RZ
    generalize ((((wb.setCell ⟨g,(N-1) * 4,none⟩ (.int .i64 z.kind)).setCell ⟨g,(N-1) * 4+1,none⟩ (.string z.text)).setCell ⟨g,(N-1) * 4+2,none⟩ (.bool z.spaced)).setCell ⟨g,(N-1) * 4+3,none⟩ (.slice za z.hidden.length zc))=wq at *
    obtain⟨sv,HSV⟩:∃ sv:Value,Hid (sv=.slice (if c9=1 then some ⟨g9,0,none⟩ else some ⟨g9,4,none⟩) (N9-1) (c9-1)):=⟨_,Qh rfl⟩
    have o1:(1:Int)<=(N9:Int):=by omega
    have o2:1<=N9:=h90
    have o3:1<=c9:=by omega
    have o4:(1:Int)<=(c9:Int):=by omega
    go_cut [12] from 18 to 94 (λ d wx=>d=sv/\wx=wq)
    case first =>
     by_cases h1:c9=1
     ·have HSV1:Hid (sv=.slice (some ⟨g9,0,none⟩) (N9-1) (c9-1)):=by show _=_;rw [HSV.out,if_pos h1]
      have HC1:=Qh h1
      go_wp2
      go_meet
      case rel=>exact⟨by rw [HSV1.out];simp [HC1.out],by trivial⟩
     ·have HSV1:Hid (sv=.slice (some ⟨g9,4,none⟩) (N9-1) (c9-1)):=by show _=_;rw [HSV.out,if_neg h1]
      go_wp2
      go_meet
      case rel=>exact⟨by rw [HSV1.out],by trivial⟩
    obtain⟨rfl,rfl⟩:=hcut
    obtain⟨fps,RS0,hfs⟩:=Zbg 1 (by have:=HPL.out;have:=HN9.out;omega:1<=P.length) HRQ.out
    have HRS:Hid ((Zaa sTok).R wc [u12] (P.drop 1) fps):=by show (Zaa sTok).R _ _ _ _;rw [HSV.out];exact RS0
    have HMS:Hid (∀ b∈fps,(Value.slice (some ⟨g,0,none⟩) N co).ownBlock≠some b):=λ b hb=>HMI.out b (hfs b hb)
    have hPd:(P.drop 1).length=N9-1:=by rw [List.length_drop];have:=HPL.out;have:=HN9.out;omega
    have HPD:=Qh hPd
    have hNk:N<=61 * k:=HLL.out
    have hls:Hid ((L.set (N-1) ⟨[.int .i64 z.kind,.string z.text,.bool z.spaced,.slice za z.hidden.length zc],z,fz⟩).length=N):=by show _=_;rw [List.length_set];exact HN.out.symm
    obtain⟨M,HM⟩:∃ M,Hid (M=L.set (N-1) ⟨[.int .i64 z.kind,.string z.text,.bool z.spaced,.slice za z.hidden.length zc],z,fz⟩):=⟨L.set (N-1) ⟨[.int .i64 z.kind,.string z.text,.bool z.spaced,.slice za z.hidden.length zc],z,fz⟩,Qh rfl⟩
    rw [show L.set (N-1) ⟨[.int .i64 z.kind,.string z.text,.bool z.spaced,.slice za z.hidden.length zc],z,fz⟩=M from HM.out.symm] at HPUT hls
    clear hPd RS0 hfs HRQ
    go_wp2_with (at_builtin;refine Zbd ZaE rfl (by decide) ZaI wc rfl (.tmp 91) (.tmp 92) rfl w.heap.size (.slice (some ⟨g,0,none⟩) N co) (u12) (P.drop 1) fps rfl HPUT.out rfl HRS.out HMS.out (by rw [hls.out,HPD.out];unfold maxLen;omega) (by rw [hls.out,HPD.out];omega) hBQ.size ?_;intro v5 X w5 hX hXf hR5 hg5 hp5)
    have hb5:Below w.heap.size w w5:=hBQ.grown hg5 hBQ.size (λ b hb=>(HPUT.out.mine b hb).1)
    have HX5:=Qh ((hg5.block w.heap.size (mlt HXQ.out) (λ e=>HNB.out e.symm)).trans HXQ.out)
    have HNB5:Hid (v5.ownBlock≠some w.heap.size):=λ e=>by
     rcases hp5 with h | h
     ·rw [h] at e;exact HNB.out e
     ·rw [h] at e;have:=mlt HXQ.out;simp only [Qi] at e;omega
    have hXl:X.length=N9-1:=by have:=congrArg List.length hX;rw [List.length_map] at this;rw [this];exact HPD.out
    have HGO5:Hid (subGo m raw ready 0 [] true false=subGo m raw ready nx ((M++X).map (·.d)) false false):=by
     show _=_
     rw [HNX.out]
     congr 1
     rw [List.map_append,hX,HM.out,List.map_set,show N-1=(L.map (·.d)).length-1 by rw [List.length_map];have:=HN.out;omega,set_last (by intro h;have:=congrArg List.length h;rw [List.length_map] at this;rw [List.length_nil] at this;omega),List.append_assoc,List.drop_one];rfl
    have HEM5:Hid (false=false->0<(M++X).length):=λ _=>by rw [List.length_append,hls.out];omega
    have HLL5:Hid ((M++X).length<=61 * nx):=by show _<=_;rw [List.length_append,hls.out,hXl];have:=HS.out.2.2.1;omega
    have HHD5:Hid (∀ x∈M++X,x.d.hidden.length<=60):=λ x hx=>by
     rcases Qa hx with hx | hx
     ·rw [HM.out] at hx
      rcases List.mem_or_eq_of_mem_set hx with hx | rfl
      ·exact HHD.out x hx
      ·exact HZH.out
     ·have hm:x.d∈P.drop 1:=by rw [← hX];exact List.mem_map.2 ⟨x,hx,rfl⟩
      exact HS.out.2.2.2 x.d (List.mem_of_mem_drop hm)
    have HR5:=Qh hR5
    have hnx:=HS.out.2.1
    have hnk:=HS.out.2.2.1
    clear hX hXf hR5 hg5 hp5
    go_wp2
    go_roundw
    case rel=>exact⟨nx,M++X,false,false,hnx,by trivial,by trivial,by trivial,HR5.out,HNB5.out,HGO5.out,HEM5.out,HLL5.out,HHD5.out,HX5.out,hb5⟩
    case measure=>simp [intOf];omega
  ·have HF:Hid (subGo m raw ready 0 [] true false=(L.map (·.d),true)):=by show _=_;rw [HGO.out,ZdD (by omega)]
   have HLB:Hid (L.length<=5000):=by show _<=_;have:=HLL.out;have:=HN.out;omega
   go_wp2
   go_ret2
   exact⟨.slice ao N co,L,by rw [HF.out];rfl,HR.out,by rw [HF.out],HLB.out,HHD.out,hb⟩
/-! ### Marks and parameters in a valid body -/
theorem ZmI {t:Tok} (h:tokOk t=true) {r:List UInt8} (ht:t.text=⟨(35::r).toArray⟩):t.kind=4:=by
 obtain⟨⟨h0,hk⟩,-⟩:=ZaA h
 have e0:t.text[0]=35:=by
  have:∀ (s:ByteArray) (hs:0<s.size),s=⟨(35::r).toArray⟩->s[0]=35:=by rintro s hs rfl;rfl
  exact this _ h0 ht
 rw [hk,e0]
 decide
theorem isM_is {t:Tok} (h:tokOk t=true) (r:List UInt8):isM t (35::r)=(t.text.toList==35::r):=by
 unfold isM
 cases e:(t.text.toList==35::r)
 ·rw [Bool.and_false]
 ·rw [Zc4] at e
  rw [ZmI h (of_decide_eq_true e)];rfl
theorem Zlk {m:DMacro} (h:macOk m=true) {k:Nat} (hk:k<m.body.length):tokOk m.body[k]=true:=(Zb6 hk ((ZaH h).2.2 k hk)).1
theorem Zfa {m:DMacro} (h:macOk m=true) {k:Nat} (hk:k<m.body.length) (r:List UInt8):isM m.body[k] (35::r)=(m.body[k].text.toList==35::r):=isM_is (Zlk h hk) r
theorem mark_in {m:DMacro} (h:macOk m=true) {k:Nat} (hk:k<m.body.length) (hi:isM m.body[k] [35,35]=true):k+1<m.body.length:=by
 have hb:=(ZaH h).2.2 k hk
 have ht:m.body[k].text=hash2:=Ze8 hi
 unfold bodOk at hb
 rw [dif_pos hk,Bool.and_eq_true,Bool.and_eq_true] at hb
 have h2:=hb.1.2
 rw [ht,decide_eq_true rfl] at h2
 by_cases e:k+1=m.body.length
 ·rw [decide_eq_true e] at h2;simp at h2
 ·omega
theorem idx_par {ps:List ByteArray} {t:Tok} (hp:∀ k,(hk:k<ps.length)->Zal ps[k] 1=true) (ht:tokOk t=true) (k:Nat):idxTx ps t.text k=parFrom ps t k:=by
 induction k using idxTx.induct (ps:=ps) (x:=t.text) with
 |
  case1 k h hc =>
  have h5:=ht
  unfold tokOk at h5
  rw [Bool.and_eq_true] at h5
  have hk:t.kind=1:=ZgW h5.1 (by rw [hc];exact hp k h)
  rw [Zik h hc,Zk9 h hk hc.symm]
 |
  case2 k h hc ih =>
  rw [ZgX h hc,ih,ZgV h λ e=>hc e.2.symm]
 | case3 k h=>rw [Zij (by omega),Zk8 (by omega)]
theorem Zki {m:DMacro} (h:macOk m=true) {k:Nat} (hk:k<m.body.length):idxTx m.params m.body[k].text 0=parOf m.params m.body[k]:=idx_par (ZaH h).2.1 (Zlk h hk) 0
def besL (l:List Tok) (k:Nat):Bool:=if h:0<k/\k-1<l.length then (l[k-1].text.toList==[35,35]) else false
def besR (l:List Tok) (k:Nat):Bool:=if h:k+1<l.length then (l[k+1].text.toList==[35,35]) else false
theorem bes_glue {m:DMacro} (h:macOk m=true) (k:Nat):(besL m.body k || besR m.body k)=(glueL m k || glueR m k):=by
 have e1:besL m.body k=glueL m k:=by
  unfold besL glueL
  by_cases hk:0<k/\k-1<m.body.length
  ·rw [dif_pos hk,dif_pos hk,Zfa h hk.2]
  ·rw [dif_neg hk,dif_neg hk]
 have e2:besR m.body k=glueR m k:=by
  unfold besR glueR
  by_cases hk:k+1<m.body.length
  ·rw [dif_pos hk,dif_pos hk,Zfa h hk]
  ·rw [dif_neg hk,dif_neg hk]
 rw [e1,e2]
/-! ### Rows that are the call's own, elements and all -/
theorem ZfW {α:Type} (A X:List (Elem α)):(A++X).flatMap (·.fp)=A.flatMap (·.fp)++X.flatMap (·.fp):=List.flatMap_append
theorem ZbK {w w':World} {lo:Nat} {fp:List Nat} {o:Option Nat} (h:Own w lo fp) (hn:∀ b∈fp,o≠some b) (hg:w.grownBy w' o):Own w' lo fp:=
 ⟨h.1,λ b hb=>by
  obtain⟨q1,cur,e,q2⟩:=h.2 b hb
  exact⟨q1,cur,e,(hg.block b (h.lt b hb) λ e=>hn b hb e.symm).trans q2⟩⟩
theorem Zje {α:Type} {L M:List (Elem α)} (h:M.Sublist L):(M.flatMap (·.fp)).Sublist (L.flatMap (·.fp)):=by
 induction h with
 | slnil=>exact List.Sublist.refl _
 | cons a _ ih=>rw [List.flatMap_cons];exact ih.trans (List.sublist_append_right _ _)
 | cons_cons a _ ih=>rw [List.flatMap_cons,List.flatMap_cons];exact(List.Sublist.refl _).append ih
theorem ZhV {w w':World} {o:Option Nat} (hg:w.grownBy w' o):Kept o.toList w w':=⟨hg.os,hg.tape,hg.output,hg.size,λ k hk hn=>hg.block k hk λ e=>hn (by rw [← e];simp)⟩
def MineN (l:List Tok) (w:World) (e:Ending) (w':World):Prop:=
 ∃ (v:Value) (L:List (Elem Tok)),e=.returned v/\RowN sTok w.heap.size 57 v L w'/\L.map (·.d)=l/\Own w' w.heap.size (L.flatMap (·.fp))/\Below w.heap.size w w'
def cmpI (a b:ByteArray):Int:=Lib.compareBytes a.data.toList b.data.toList
theorem ZmJ (a b:ByteArray):decide (cmpI a b<0)=sLess a b:=by
 unfold cmpI sLess
 rw [ZjR,ByteArray.toList_eq,ByteArray.toList_eq]
theorem ZmK (a b:ByteArray):decide (cmpI a b=0)=(a.toList==b.toList):=by
 unfold cmpI
 rw [ZjS,ByteArray.toList_eq,ByteArray.toList_eq]
theorem Zll (cs:List Value) (x:DMacro) (nm:ByteArray) (fp:List Nat) (w:World) (H:sMacro.R w cs x fp) :
  Calls Tryz.prog 121 #[.agg cs.toArray,.string nm] w λ e w'=>e=.returned (.int .i64 (cmpI x.name nm))/\Below w.heap.size w w':=by
 obtain⟨h2,h3,p2,p3,rfl,-,K2,K3,rfl⟩:=H
 obtain⟨a2,ca2,rfl,-⟩:=Zaf K2
 obtain⟨a3,ca3,rfl,-⟩:=Zac K3
 clear K2 K3
 have hb:=Zab w (.cells #[.string x.name,.bool x.function,.slice a2 x.params.length ca2,.slice a3 x.body.length ca3] 70)
 go_enter Tryz.func121,Tryz.ntmps121
 go_wp2_with (go_at_call 122;refine (Tryz.strings_Compare _ _ _).mono ?_;rintro e w2 ⟨rfl,rfl⟩)
 go_ret
 exact⟨rfl,hb⟩
theorem ZlV (v:Value) (l:List DMacro) (nm:ByteArray) (fp:List Nat) (w:World) (ht:tabOk l=true) (H:(Zaa sMacro).R w [v] l fp) :
  Calls Tryz.prog 120 #[v,.string nm,.func (.func 121) #[] #[]] w λ e w'=>e=.returned (.tuple #[.int .i64 (lowAt l nm:Nat),.bool (isIn l nm)])/\Below w.heap.size w w':=by
 obtain⟨a,cap,rfl,hc,hm,hrow⟩:=Zac H
 unfold maxLen at hm
 clear H
 have hn10:l.length<=10:=(Ze0 ht).1
 have HLE:=Qh (low_le l nm)
 have HIFF:Hid (∀ j,(hj:j<l.length)->decide (cmpI l[j].name nm<0)=decide (j<lowAt l nm)):=λ j hj=>by rw [ZmJ,Zin ht nm hj]
 have HIN:Hid (∀ h:lowAt l nm<l.length,isIn l nm=decide (cmpI l[lowAt l nm].name nm=0)):=λ h=>by unfold isIn;rw [dif_pos h,ZmK]
 have HOUT:Hid (¬ lowAt l nm<l.length->isIn l nm=false):=λ h=>by unfold isIn;rw [dif_neg h]
 clear ht
 go_enter Tryz.func120,Tryz.ntmps120
 go_wp2
 go_loopw [9,10] (λ s9 s10 wr=>∃ lo hi:Nat,s9=.int .i64 lo/\s10=.int .i64 hi/\lo<=hi/\hi<=l.length/\Hid (lo<=lowAt l nm/\lowAt l nm<=hi)/\Below w.heap.size w wr) (λ s9 s10 _=>(intOf s10).toNat-(intOf s9).toNat)
 case atStart=>exact⟨0,l.length,rfl,rfl,by omega,by omega,⟨by omega,HLE.out⟩,Below.refl _ _⟩
 case round =>
  obtain⟨lo,hi,rfl,rfl,hlh,hin,HW,hb⟩:=hrel
  by_cases hlt:lo<hi
  ·obtain⟨b1,off1,fps1,rfl,hb1,-,he1⟩:=hrow (by omega)
   obtain⟨es,hE,hR⟩:=he1 ((lo+hi) / 2) (by omega)
   have HC:=Qh (Zll _ _ nm _ _ (sMacro.below hR hb))
   obtain⟨h2,h3,p2,p3,rfl,-,-,-,-⟩:=hR
   replace hE:=hE.frame (hb.block b1 hb1)
   have c10:wr.cell? ⟨b1,off1+(lo+hi) / 2 * 4,none⟩=some _:=Zam hE (by decide) rfl
   have c11:wr.cell? ⟨b1,off1+(lo+hi) / 2 * 4+1,none⟩=some _:=Zae (j:=1) hE (by decide) rfl
   have c12:wr.cell? ⟨b1,off1+(lo+hi) / 2 * 4+2,none⟩=some _:=Zae (j:=2) hE (by decide) rfl
   have c13:wr.cell? ⟨b1,off1+(lo+hi) / 2 * 4+3,none⟩=some _:=Zae (j:=3) hE (by decide) rfl
   clear hE he1 hrow
   by_cases hyx:cmpI (l[(lo+hi) / 2]'(by omega)).name nm<0
   ·have HL:Hid ((lo+hi) / 2+1<=lowAt l nm/\lowAt l nm<=hi):=by
     have h1:=HIFF.out ((lo+hi) / 2) (by omega)
     rw [decide_eq_true hyx] at h1
     have h2:=of_decide_eq_true h1.symm
     exact⟨h2,HW.out.2⟩
    go_wp2_with fail
    refine HC.out.mono ?_
    rintro e w2 ⟨rfl,hb2⟩
    have hb':=hb.trans (hb2.mono hb.size)
    generalize cmpI (l[(lo+hi) / 2]'(by omega)).name nm=c at *
    go_wp2
    go_roundw
    case rel=>exact⟨(lo+hi) / 2+1,hi,by first | rfl | rw [show ((lo:Int)+(hi:Int)) / 2+1=(((lo+hi) / 2+1:Nat):Int) by omega],rfl,by omega,hin,HL,hb'⟩
    case measure=>simp [intOf];omega
   ·have HL:Hid (lo<=lowAt l nm/\lowAt l nm<=(lo+hi) / 2):=by
     have h1:=HIFF.out ((lo+hi) / 2) (by omega)
     rw [decide_eq_false hyx] at h1
     have h2:=of_decide_eq_false h1.symm
     exact⟨HW.out.1,by omega⟩
    go_wp2_with fail
    refine HC.out.mono ?_
    rintro e w2 ⟨rfl,hb2⟩
    have hb':=hb.trans (hb2.mono hb.size)
    generalize cmpI (l[(lo+hi) / 2]'(by omega)).name nm=c at *
    go_wp2
    go_roundw
    case rel=>exact⟨lo,(lo+hi) / 2,rfl,by first | rfl | rw [show ((lo:Int)+(hi:Int)) / 2=(((lo+hi) / 2:Nat):Int) by omega],by omega,by omega,HL,hb'⟩
    case measure=>simp [intOf];omega
  ·obtain rfl:hi=lo:=by omega
   have hlow:lowAt l nm=hi:=by have:=HW.out;omega
   by_cases hn:hi<l.length
   ·have HD:Hid (isIn l nm=decide (cmpI l[hi].name nm=0)):=by
     subst hlow
     exact HIN.out hn
    have HA:=Qh hlow
    clear hlow HIN HOUT HIFF HW HLE
    obtain⟨b1,off1,fps1,rfl,hb1,-,he1⟩:=hrow (by omega)
    obtain⟨es,hE,hR⟩:=he1 (hi) (by omega)
    have HC:=Qh (Zll _ _ nm _ _ (sMacro.below hR hb))
    obtain⟨h2,h3,p2,p3,rfl,-,-,-,-⟩:=hR
    replace hE:=hE.frame (hb.block b1 hb1)
    have c10:wr.cell? ⟨b1,off1+hi * 4,none⟩=some _:=Zam hE (by decide) rfl
    have c11:wr.cell? ⟨b1,off1+hi * 4+1,none⟩=some _:=Zae (j:=1) hE (by decide) rfl
    have c12:wr.cell? ⟨b1,off1+hi * 4+2,none⟩=some _:=Zae (j:=2) hE (by decide) rfl
    have c13:wr.cell? ⟨b1,off1+hi * 4+3,none⟩=some _:=Zae (j:=3) hE (by decide) rfl
    clear hE he1 hrow
    by_cases hyx:cmpI l[hi].name nm=0
    ·have HF:=Qh (HD.out.trans (decide_eq_true hyx))
     rw [hyx] at HC
     clear hyx HD
     go_wp2_with fail
     refine HC.out.mono ?_
     rintro e w2 ⟨rfl,hb2⟩
     go_wp2
     go_ret2
     exact⟨by rw [HA.out,HF.out];rfl,hb.trans (hb2.mono hb.size)⟩
    ·have HF:=Qh (HD.out.trans (decide_eq_false hyx))
     generalize cmpI l[hi].name nm=c at *
     have hc0:(c==0)=false:=by simpa using hyx
     clear HD
     go_wp2_with fail
     refine HC.out.mono ?_
     rintro e w2 ⟨rfl,hb2⟩
     go_wp2
     go_ret2
     exact⟨by rw [HA.out,HF.out];rfl,hb.trans (hb2.mono hb.size)⟩
   ·have HF:=Qh (HOUT.out (by omega))
    have HA:=Qh hlow
    clear hlow HIN HOUT HIFF HW HLE
    go_wp2
    go_ret2
    exact⟨by rw [HA.out,HF.out];rfl,hb⟩
theorem Zkj (v:Value) (l:List DMacro) (nm:ByteArray) (fp:List Nat) (w:World) (ht:tabOk l=true) (H:(Zaa sMacro).R w [v] l fp) :
  Calls Tryz.prog 109 #[v,.string nm] w λ e w'=>e=.returned (.tuple #[.int .i64 (lowAt l nm:Nat),.bool (isIn l nm)])/\Below w.heap.size w w':=by
 have HC:=Qh (ZlV v l nm fp w ht H)
 clear H ht
 go_enter Tryz.func109,Tryz.ntmps109
 go_wp2_with fail
 refine HC.out.mono ?_
 rintro e w2 ⟨rfl,hb⟩
 go_wp2
 go_ret2
 exact⟨rfl,hb⟩
theorem Zkk (v:Value) (l:List DMacro) (nm:ByteArray) (fp:List Nat) (w:World) (H:(Zaa sMacro).R w [v] l fp) :
  Calls Tryz.prog 83 #[v,.string nm] w λ e w'=>e=.returned (.int .i64 (place l nm))/\Below w.heap.size w w':=by
 obtain⟨a,cap,rfl,hc,hm,hrow⟩:=Zac H
 unfold maxLen at hm
 clear H
 go_enter Tryz.func83,Tryz.ntmps83
 go_wp2
 go_loopw [5] (λ i wr=>∃ k:Nat,k<=l.length/\i=.int .i64 k/\Hid (place l nm=plFrom l nm k)/\Below w.heap.size w wr) (λ i _=>l.length-(intOf i).toNat)
 case atStart=>exact⟨0,by omega,rfl,rfl,Below.refl _ _⟩
 case round =>
  obtain⟨k,hk,rfl,HP,hb⟩:=hrel
  by_cases hlt:k<l.length
  ·obtain⟨b1,off1,fps1,rfl,hb1,-,he1⟩:=hrow (by omega)
   obtain⟨es,hE,hR⟩:=he1 k hlt
   obtain⟨h2,h3,p2,p3,rfl,-,-,-,-⟩:=hR
   replace hE:=hE.frame (hb.block b1 hb1)
   have c10:wr.cell? ⟨b1,off1+k * 4,none⟩=some _:=Zam hE (by decide) rfl
   clear hE he1 hrow
   cases g:(l[k].name.toList==nm.toList)
   ·have HF:=Qh (HP.out.trans (Zgb hlt g))
    clear HP
    go_wp2
    go_roundw
    case rel=>exact⟨k+1,by omega,by go_num,HF,hb⟩
    case measure=>simp [intOf];omega
   ·have HF:=Qh (HP.out.trans (ZjV hlt g))
    clear HP
    go_wp2
    go_ret
    exact⟨by rw [HF.out];rfl,hb⟩
  ·have HF:=Qh (HP.out.trans (ZhI (by omega)))
   clear HP
   go_wp2
   go_ret
   exact⟨by rw [HF.out];rfl,hb⟩
structure RowG {α:Type} (S:Shape α) (base:Nat) (e:TypeId) (v:Value) (L:List (Elem α)) (w:World):Prop where
 row:w.ownsRow base e S.m v L.length (L.flatMap (·.cells))
 len:∀ x∈L,x.cells.length=S.m
 el:∀ x∈L,S.R w x.cells x.d x.fp
 hi:∀ x∈L,∀ b∈x.fp,b<base
section
variable {α:Type} {S:Shape α} {base:Nat} {e:TypeId} {v v':Value} {L:List (Elem α)} {w w':World}
theorem RowG.nil (S:Shape α) (base:Nat) (e:TypeId) (w:World):RowG S base e (.slice none 0 0) [] w:=⟨World.ownsRow_nil _ _ _ _,by simp,by simp,by simp⟩
theorem RowG.ap (h:RowG S base e v L w):∀ x∈L,∀ b∈x.fp,v.ownBlock≠some b:=λ x hx b hb hv=>by
 have h1:=h.hi x hx b hb
 have h2:=(h.row.lt b hv).1
 omega
theorem RowG.lit0 (S:Shape α) (e:TypeId) (w:World):RowG S w.heap.size e (.slice (some ⟨w.heap.size,0,none⟩) 0 0) [] (w.alloc (.cells #[] e)) where
 row:=World.ownsRow_lit (base:=w.heap.size) (e:=e) (size:=S.m) w #[] 0 (Nat.le_refl _) (by unfold maxLen;omega) (by simp)
 len:=by simp
 el:=by simp
 hi:=by simp
theorem RowG.same (h:RowG S base e v L w) (hv:∀ g,v.ownBlock=some g->w'.heap[g]?=w.heap[g]?) (hb:∀ x∈L,∀ b∈x.fp,w'.heap[b]?=w.heap[b]?):RowG S base e v L w' where
 row:=Za9 h.row hv
 len:=h.len
 el:=λ x hx=>S.frame (λ b hb'=>hb x hx b hb') (h.el x hx)
 hi:=h.hi
theorem RowG.below (h:RowG S base e v L w) (hb:Below w.heap.size w w'):RowG S base e v L w':=
 h.same (λ g hg=>hb.block g (h.row.lt g hg).2) (λ x hx b hb'=>hb.block b (S.lt (h.el x hx) b hb'))
theorem RowG.kept {K:List Nat} (h:RowG S base e v L w) (hk:Kept K w w') (hv:∀ g,v.ownBlock=some g->g∉K) (hb:∀ x∈L,∀ b∈x.fp,b∉K):RowG S base e v L w':=
 h.same (λ g hg=>hk.block g (h.row.lt g hg).2 (hv g hg)) (λ x hx b hb'=>hk.block b (S.lt (h.el x hx) b hb') (hb x hx b hb'))
theorem RowG.len_eq {g n cap:Nat} (h:RowG S base e (.slice (some ⟨g,0,none⟩) n cap) L w):L.length=n:=by
 rcases h.row.2 with⟨h',_⟩ | ⟨g',cap',cur,h',_⟩
 ·cases h'
 ·simp only [Value.slice.injEq] at h';exact h'.2.1.symm
theorem RowG.set {g n cap:Nat} (h:RowG S base e (.slice (some ⟨g,0,none⟩) n cap) L w) {k:Nat} (hk:k<L.length) {j:Nat} (hj:j<S.m) (u:Value) (x':Elem α) (hx:x'.cells=L[k].cells.set j u)
  (hR:S.R w x'.cells x'.d x'.fp) (hn:∀ b∈x'.fp,b<base) :
  RowG S base e (.slice (some ⟨g,0,none⟩) n cap) (L.set k x') (w.setCell ⟨g,k * S.m+j,none⟩ u):=by
 have hblk:∀ b:Nat,b≠g->(w.setCell ⟨g,k * S.m+j,none⟩ u).heap[b]?=w.heap[b]?:=λ b hb=>Below.heap_setCell _ _ _ _ hb
 have hmem:∀ x∈L.set k x',x=x'\/x∈L:=λ x hx=>by
  rcases List.mem_or_eq_of_mem_set hx with h | h
  ·exact .inr h
  ·exact .inl h
 have hne:∀ x∈L,∀ b∈x.fp,b≠g:=λ x hx b hb e=>h.ap x hx b hb (by rw [e];rfl)
 refine ⟨?_,λ x hx'=>?_,λ x hx'=>?_,λ x hx'=>?_⟩
 ·have hn:=h.len_eq
  have hrow:=h.row
  rw [hn] at hrow
  have:=(hrow.stored (k * S.m+j) u).1
  rw [Zdi h.len hk hj u x' hx] at this
  rw [List.length_set,hn]
  exact this
 ·rcases hmem x hx' with rfl | hx'
  ·rw [hx,List.length_set];exact h.len _ (List.getElem_mem hk)
  ·exact h.len x hx'
 ·rcases hmem x hx' with rfl | hx'
  ·exact S.frame (λ b hb=>hblk b (λ e=>by have h1:=hn b hb;have h2:=(h.row.lt g rfl).1;omega)) hR
  ·exact S.frame (λ b hb=>hblk b (hne x hx' b hb)) (h.el x hx')
 ·rcases hmem x hx' with rfl | hx'
  ·exact hn
  ·exact h.hi x hx'
end
def OwnMac (x:DMacro) (w:World) (e:Ending) (w':World):Prop:=
 ∃ (a2 a3:Option Addr) (c2 c3:Nat) (fp:List Nat),e=.returned (.agg #[.string x.name,.bool x.function,.slice a2 x.params.length c2,.slice a3 x.body.length c3])/\sMacro.R w' [.string x.name,.bool x.function,.slice a2 x.params.length c2,.slice a3 x.body.length c3] x fp /\
  (∀ b∈fp,w.heap.size<=b)/\NoMac w' fp/\Below w.heap.size w w'
def setM (w:World) (g:Nat) (v0 v1 v2 v3:Value):World:=(((w.setCell ⟨g,0,none⟩ v0).setCell ⟨g,1,none⟩ v1).setCell ⟨g,2,none⟩ v2).setCell ⟨g,3,none⟩ v3
theorem setM_at {w:World} {g:Nat} {z0 z1 z2 z3:Value} {ty:TypeId} (h:w.heap[g]?=some (.cells #[z0,z1,z2,z3] ty (0,0))) (v0 v1 v2 v3:Value) :
  (setM w g v0 v1 v2 v3).heap[g]?=some (.cells #[v0,v1,v2,v3] ty (0,0)):=Zai (Zai (Zai (Zai h 0 _) 1 _) 2 _) 3 _
theorem Zfb {w:World} {g b:Nat} (h:b≠g) (v0 v1 v2 v3:Value):(setM w g v0 v1 v2 v3).heap[b]?=w.heap[b]?:=by
 unfold setM
 rw [Below.heap_setCell _ _ _ _ h,Below.heap_setCell _ _ _ _ h,Below.heap_setCell _ _ _ _ h,Below.heap_setCell _ _ _ _ h]
theorem ZlW {B:Nat} {w0 w:World} (hB:Below B w0 w) {g:Nat} (hg:B<=g) (v0 v1 v2 v3:Value):Below B w0 (setM w g v0 v1 v2 v3):=
 ((((hB).setCell (p:=⟨g,0,none⟩) hg v0).setCell (p:=⟨g,1,none⟩) hg v1).setCell (p:=⟨g,2,none⟩) hg v2).setCell (p:=⟨g,3,none⟩) hg v3
theorem NoMac.app {w:World} {a b:List Nat} (h1:NoMac w a) (h2:NoMac w b):NoMac w (a++b):=λ c hc=>by
 rcases Qa hc with h | h
 ·exact h1 c h
 ·exact h2 c h
theorem Zeh (cs:List Value) (x:DMacro) (fp:List Nat) (w:World) (hp:x.params.length<=2000000) (hl:x.body.length<=1048576) (hx:∀ k,(hk:k<x.body.length)->x.body[k].hidden.length<=2000000) (H:sMacro.R w cs x fp) :
  Calls Tryz.prog 66 #[.agg cs.toArray] w (OwnMac x w):=by
 obtain⟨h2,h3,p2,p3,rfl,hok,K2,K3,rfl⟩:=H
 obtain⟨a2,c2,rfl,-,-,-,hsz⟩:=Zaf K2
 obtain⟨a3,c3,rfl,-⟩:=Zac K3
 have hb3:=Zex w #[.string x.name,.bool x.function,.slice a2 x.params.length c2,.slice a3 x.body.length c3] #[.string ⟨#[]⟩,.bool false,.slice none 0 0,.slice none 0 0] #[.string x.name,.bool x.function,.slice a2 x.params.length c2,.slice a3 x.body.length c3] 70 70 70
 have g0:=Zcr w #[.string x.name,.bool x.function,.slice a2 x.params.length c2,.slice a3 x.body.length c3] #[.string ⟨#[]⟩,.bool false,.slice none 0 0,.slice none 0 0] #[.string x.name,.bool x.function,.slice a2 x.params.length c2,.slice a3 x.body.length c3] 70 70 70
 obtain⟨g1,g2,hs3⟩:=Zcn w #[.string x.name,.bool x.function,.slice a2 x.params.length c2,.slice a3 x.body.length c3] #[.string ⟨#[]⟩,.bool false,.slice none 0 0,.slice none 0 0] #[.string x.name,.bool x.function,.slice a2 x.params.length c2,.slice a3 x.body.length c3] 70 70 70
 have HK2:=Qh ((Zaa sStr).below K2 hb3)
 have HK3:=Qh ((Zaa sTok).below K3 hb3)
 have HSZ:=Qh hsz
 have HX:=Qh hx
 have HPL:Hid (∀ b∈p3,b<w.heap.size):=λ b hb=>(Zaa sTok).lt K3 b hb
 clear K2 K3 hsz hx
 obtain⟨hv,HV⟩:∃ hv:Value,Hid (hv=Value.slice a2 x.params.length c2):=⟨_,rfl⟩
 go_enter Tryz.func66,Tryz.ntmps66
 go_upto_region 2 with fail
 generalize (((w.alloc (.cells #[.string x.name,.bool x.function,.slice a2 x.params.length c2,.slice a3 x.body.length c3] 70)).alloc (.cells #[.string ⟨#[]⟩,.bool false,.slice none 0 0,.slice none 0 0] 70)).alloc (.cells #[.string x.name,.bool x.function,.slice a2 x.params.length c2,.slice a3 x.body.length c3] 70))=W3 at *
 have hba:=Zab W3 (.cells #[] 9)
 have c02:(W3.alloc (.cells #[] 9)).cell? ⟨w.heap.size,2,none⟩=some hv:=by
  rw [HV.out]
  exact(hba.cell (p:=⟨w.heap.size,2,none⟩) (by show w.heap.size<_;omega)).trans (Qc 2 g0)
 have hlit:Hid ((W3.alloc (.cells #[] 9)).ownsRow W3.heap.size 9 1 (.slice (some ⟨W3.heap.size,0,none⟩) 0 0) ([]:List ByteArray).length (([]:List ByteArray).map Value.string)):=
  World.ownsRow_lit (base:=W3.heap.size) (e:=9) (size:=1) W3 #[] 0 (Nat.le_refl _) (by simp) rfl
 have HKV:Hid ((Zaa sStr).R (W3.alloc (.cells #[] 9)) [hv] x.params p2):=by show (Zaa sStr).R _ _ _ _;rw [HV.out];exact(Zaa sStr).below HK2.out hba
 have HG:=Qh (And.intro g0 (And.intro g1 (And.intro g2 hs3)))
 have hb4:=Qh (hb3.trans (hba.mono hb3.size))
 clear g0 g1 g2 hb3 hs3 hba
 go_wp2_with (
  at_builtin
  refine Zbn rfl (.tmp 5) (.tmp 7) rfl W3.heap.size (.slice (some ⟨W3.heap.size,0,none⟩) 0 0) hv [] x.params _ rfl hlit.out rfl HKV.out (by simp;omega) (by simp) ?_
  intro v5 w1 hown hgrow
  rw [List.nil_append] at hown
  obtain⟨fp1,R1,O1,hfp⟩:=ZbY (ok:=okStr) hown HSZ.out
  have hs3:=HG.out.2.2.2
  have hblk:∀ k,k<W3.heap.size->w1.heap[k]?=W3.heap[k]?:=λ k hk=>(hgrow.block k (by simp;omega) (by simp [Value.ownBlock];omega)).trans ((Zab W3 _).block k hk)
  have HG1:Hid (w1.heap[w.heap.size]?=some (.cells #[.string x.name,.bool x.function,.slice a2 x.params.length c2,.slice a3 x.body.length c3] 70 (0,0))/\w1.heap[w.heap.size+1]?=some (.cells #[.string ⟨#[]⟩,.bool false,.slice none 0 0,.slice none 0 0] 70 (0,0))/\w1.heap[w.heap.size+1+1]?=some (.cells #[.string x.name,.bool x.function,.slice a2 x.params.length c2,.slice a3 x.body.length c3] 70 (0,0))):=
   ⟨(hblk _ (by omega)).trans HG.out.1,(hblk _ (by omega)).trans HG.out.2.1,(hblk _ (by omega)).trans HG.out.2.2.1⟩
  have hb:Below w.heap.size w w1:=hb4.out.grown hgrow (by simp;omega) (λ b hb=>by simp [Value.ownBlock] at hb;omega)
  have hbW:Below W3.heap.size W3 w1:=((Below.refl W3.heap.size W3).alloc (Nat.le_refl _) (.cells #[] 9)).grown hgrow (by simp) (λ b hb=>by simp [Value.ownBlock] at hb;omega)
  have hty:NoMac w1 fp1:=λ b hb'=>by
   have hv:=hfp b hb'
   rcases hown.2 with⟨rfl,_⟩ | ⟨g,cap,cur,rfl,_,hg,_⟩
   ·simp [Value.ownBlock] at hv
   ·simp only [Value.ownBlock,Qi] at hv
    subst hv
    exact⟨_,_,_,hg,by decide⟩
  have hlo:∀ b∈fp1,w.heap.size+3<=b:=λ b hb=>by have:=(O1.2 b hb).1;omega
  have hK3':=(Zaa sTok).below HK3.out hbW
  have hW1:w.heap.size+3<=w1.heap.size:=by have:=hbW.size;omega
  clear HG hblk hgrow hown hfp O1 c02 hb4 HKV hlit hs3 hbW
  obtain⟨a1,cap1,rfl,hq⟩:=Zac R1
  clear hq
  have c22:=Qc 2 HG1.out.2.2
  have f22:=Qf 2 HG1.out.2.2
  have e03:=Qc 3 HG1.out.1
  have far:∀ b,b≠w.heap.size+1+1->(w1.setCell ⟨w.heap.size+1+1,2,none⟩ (.slice a1 x.params.length cap1)).heap[b]?=w1.heap[b]?:=λ b hb=>Below.heap_setCell _ _ _ _ hb
  have e03':(w1.setCell ⟨w.heap.size+1+1,2,none⟩ (.slice a1 x.params.length cap1)).cell? ⟨w.heap.size,3,none⟩=some (.slice a3 x.body.length c3):=Qc 3 ((far _ (by omega)).trans HG1.out.1)
  have HG2:Hid ((w1.setCell ⟨w.heap.size+1+1,2,none⟩ (.slice a1 x.params.length cap1)).heap[w.heap.size+1]?=some (.cells #[.string ⟨#[]⟩,.bool false,.slice none 0 0,.slice none 0 0] 70 (0,0))/\(w1.setCell ⟨w.heap.size+1+1,2,none⟩ (.slice a1 x.params.length cap1)).heap[w.heap.size+1+1]?=some (.cells #[.string x.name,.bool x.function,.slice a1 x.params.length cap1,.slice a3 x.body.length c3] 70 (0,0))):=
   ⟨(far _ (by omega)).trans HG1.out.2.1,Zai HG1.out.2.2 2 _⟩
  have HR2:Hid ((Zaa sStr).R (w1.setCell ⟨w.heap.size+1+1,2,none⟩ (.slice a1 x.params.length cap1)) [.slice a1 x.params.length cap1] x.params fp1):=(Zaa sStr).frame (λ b hb=>far b (by have:=hlo b hb;omega)) R1
  have HNM2:Hid (NoMac (w1.setCell ⟨w.heap.size+1+1,2,none⟩ (.slice a1 x.params.length cap1)) fp1):=hty.same λ b hb _=>far b (by have:=hlo b hb;omega)
  have HP3:Hid (∀ b∈p3,b≠w.heap.size+1+1):=λ b hb=>by have:=HPL.out b hb;omega
  have HK4:Hid ((Zaa sTok).R (w1.setCell ⟨w.heap.size+1+1,2,none⟩ (.slice a1 x.params.length cap1)) [.slice a3 x.body.length c3] x.body p3):=(Zaa sTok).frame (λ b hb=>far b (HP3.out b hb)) hK3'
  have HB2:=Qh (hb.setCell (p:=⟨w.heap.size+1+1,2,none⟩) (by show w.heap.size<=w.heap.size+1+1;omega) (.slice a1 x.params.length cap1))
  have HLO1:=Qh hlo
  have HS2:Hid ((w1.setCell ⟨w.heap.size+1+1,2,none⟩ (.slice a1 x.params.length cap1)).heap.size=w1.heap.size):=by show _=_;simp
  clear HG1 hty hlo hb R1 far hK3' HK3)
 have hs2:=HS2.out
 generalize (w1.setCell ⟨w.heap.size+1+1,2,none⟩ (.slice a1 x.params.length cap1))=w2 at *
 clear c22 f22 e03
 refine (ZeE _ x.body p3 w2 hl HX.out HK4.out).mono ?_
 rintro e w3 ⟨v3,fp3,rfl,R3,hlo3,hn3,hb3⟩
 obtain⟨a4,c4,rfl,-⟩:=Zac R3
 have hs3:=hb3.size
 have HG3:Hid (w3.heap[w.heap.size+1]?=some (.cells #[.string ⟨#[]⟩,.bool false,.slice none 0 0,.slice none 0 0] 70 (0,0))/\w3.heap[w.heap.size+1+1]?=some (.cells #[.string x.name,.bool x.function,.slice a1 x.params.length cap1,.slice a3 x.body.length c3] 70 (0,0))):=
  ⟨(hb3.block _ (by omega)).trans HG2.out.1,(hb3.block _ (by omega)).trans HG2.out.2⟩
 have far:∀ b,b≠w.heap.size+1+1->(w3.setCell ⟨w.heap.size+1+1,3,none⟩ (.slice a4 x.body.length c4)).heap[b]?=w3.heap[b]?:=λ b hb=>Below.heap_setCell _ _ _ _ hb
 have HG4:Hid ((w3.setCell ⟨w.heap.size+1+1,3,none⟩ (.slice a4 x.body.length c4)).heap[w.heap.size+1]?=some (.cells #[.string ⟨#[]⟩,.bool false,.slice none 0 0,.slice none 0 0] 70 (0,0))/\(w3.setCell ⟨w.heap.size+1+1,3,none⟩ (.slice a4 x.body.length c4)).heap[w.heap.size+1+1]?=some (.cells #[.string x.name,.bool x.function,.slice a1 x.params.length cap1,.slice a4 x.body.length c4] 70 (0,0))):=
  ⟨(far _ (by omega)).trans HG3.out.1,Zai HG3.out.2 3 _⟩
 have HRF:Hid (sMacro.R (setM (w3.setCell ⟨w.heap.size+1+1,3,none⟩ (.slice a4 x.body.length c4)) (w.heap.size+1) (.string x.name) (.bool x.function) (.slice a1 x.params.length cap1) (.slice a4 x.body.length c4)) [.string x.name,.bool x.function,.slice a1 x.params.length cap1,.slice a4 x.body.length c4] x (fp1++fp3)):=
  ⟨_,_,fp1,fp3,rfl,hok,(Zaa sStr).frame (λ b hb=>(Zfb (by have:=HLO1.out b hb;omega) _ _ _ _).trans (far b (by have:=HLO1.out b hb;omega))) ((Zaa sStr).below HR2.out hb3),(Zaa sTok).frame (λ b hb=>(Zfb (by have:=hlo3 b hb;omega) _ _ _ _).trans (far b (by have:=hlo3 b hb;omega))) R3,rfl⟩
 have HNF:Hid (NoMac (setM (w3.setCell ⟨w.heap.size+1+1,3,none⟩ (.slice a4 x.body.length c4)) (w.heap.size+1) (.string x.name) (.bool x.function) (.slice a1 x.params.length cap1) (.slice a4 x.body.length c4)) (fp1++fp3)):=
  NoMac.app ((HNM2.out.below hb3).same λ b hb _=>(Zfb (by have:=HLO1.out b hb;omega) _ _ _ _).trans (far b (by have:=HLO1.out b hb;omega))) (hn3.same λ b hb _=>(Zfb (by have:=hlo3 b hb;omega) _ _ _ _).trans (far b (by have:=hlo3 b hb;omega)))
 have HLF:Hid (∀ b∈fp1++fp3,w.heap.size<=b):=λ b hb=>by
  rcases Qa hb with h | h
  ·have:=HLO1.out b h;omega
  ·have:=hlo3 b h;omega
 have HBF:=Qh (ZlW (g:=w.heap.size+1) ((HB2.out.trans (hb3.mono HB2.out.size)).setCell (p:=⟨w.heap.size+1+1,3,none⟩) (by show w.heap.size<=w.heap.size+1+1;omega) (.slice a4 x.body.length c4)) (by omega) (.string x.name) (.bool x.function) (.slice a1 x.params.length cap1) (.slice a4 x.body.length c4))
 have HSF:=Qh (setM_at HG4.out.1 (.string x.name) (.bool x.function) (.slice a1 x.params.length cap1) (.slice a4 x.body.length c4))
 have d3:=Qc 3 HG3.out.2
 have df3:=Qf 3 HG3.out.2
 clear far HG2 HG3 HR2 HNM2 HK4 HB2 HLO1 hb3 hn3 hlo3 R3 HP3
 have y0:(w3.setCell ⟨w.heap.size+1+1,3,none⟩ (.slice a4 x.body.length c4)).cell? ⟨w.heap.size+1+1,0,none⟩=some (.string x.name):=Qc 0 HG4.out.2
 have z0:(w3.setCell ⟨w.heap.size+1+1,3,none⟩ (.slice a4 x.body.length c4)).cell? ⟨w.heap.size+1,0,none⟩=some (.string ⟨#[]⟩):=Qc 0 HG4.out.1
 have zf0:(w3.setCell ⟨w.heap.size+1+1,3,none⟩ (.slice a4 x.body.length c4)).frozen? ⟨w.heap.size+1,0,none⟩=false:=frozen_of_row _ _ 0 _ _ HG4.out.1
 have y1:(w3.setCell ⟨w.heap.size+1+1,3,none⟩ (.slice a4 x.body.length c4)).cell? ⟨w.heap.size+1+1,1,none⟩=some (.bool x.function):=Qc 1 HG4.out.2
 have z1:(w3.setCell ⟨w.heap.size+1+1,3,none⟩ (.slice a4 x.body.length c4)).cell? ⟨w.heap.size+1,1,none⟩=some (.bool false):=Qc 1 HG4.out.1
 have zf1:(w3.setCell ⟨w.heap.size+1+1,3,none⟩ (.slice a4 x.body.length c4)).frozen? ⟨w.heap.size+1,1,none⟩=false:=frozen_of_row _ _ 1 _ _ HG4.out.1
 have y2:(w3.setCell ⟨w.heap.size+1+1,3,none⟩ (.slice a4 x.body.length c4)).cell? ⟨w.heap.size+1+1,2,none⟩=some (.slice a1 x.params.length cap1):=Qc 2 HG4.out.2
 have z2:(w3.setCell ⟨w.heap.size+1+1,3,none⟩ (.slice a4 x.body.length c4)).cell? ⟨w.heap.size+1,2,none⟩=some (.slice none 0 0):=Qc 2 HG4.out.1
 have zf2:(w3.setCell ⟨w.heap.size+1+1,3,none⟩ (.slice a4 x.body.length c4)).frozen? ⟨w.heap.size+1,2,none⟩=false:=frozen_of_row _ _ 2 _ _ HG4.out.1
 have y3:(w3.setCell ⟨w.heap.size+1+1,3,none⟩ (.slice a4 x.body.length c4)).cell? ⟨w.heap.size+1+1,3,none⟩=some (.slice a4 x.body.length c4):=Qc 3 HG4.out.2
 have z3:(w3.setCell ⟨w.heap.size+1+1,3,none⟩ (.slice a4 x.body.length c4)).cell? ⟨w.heap.size+1,3,none⟩=some (.slice none 0 0):=Qc 3 HG4.out.1
 have zf3:(w3.setCell ⟨w.heap.size+1+1,3,none⟩ (.slice a4 x.body.length c4)).frozen? ⟨w.heap.size+1,3,none⟩=false:=frozen_of_row _ _ 3 _ _ HG4.out.1
 go_wp2
 refine bodyPost_ret (results_cell_row rfl _ _ (w.heap.size+1) _ _ _ _ rfl HSF.out Tryz.underlying70 rfl (by kernel_rfl)) rfl ?_
 exact⟨a1,a4,cap1,c4,fp1++fp3,rfl,HRF.out,HLF.out,HNF.out,HBF.out⟩
theorem ti_mac:TI Tryz.prog 23 70 (.agg #[.string ⟨#[]⟩,.bool false,.slice none 0 0,.slice none 0 0]) 4 72:=⟨by kernel_rfl,by kernel_rfl⟩
theorem Zix {w:World} {ops:Array Oper} {rest:List Oper} {o:Oper} {a:Act} {Q:Exit->Act->World->Prop} (hg:o.guard=none) (s y:Operand)
  (ho:o.op=.call { callee:=.builtin .append,args:=#[s,y],argTypes:=#[23,23] })
  (base:Nat) (v:Value) (L:List (Elem DMacro)) (hs:a.eval s=v) (hown:RowE sMacro base 70 v L w) (nm:ByteArray) (f:Bool) (a2 a3:Option Addr) (n2 c2 n3 c3:Nat) (d:DMacro) (fp:List Nat)
  (hy:a.eval y=.slice (some ⟨w.heap.size,0,none⟩) 1 1) (hR:sMacro.R w [.string nm,.bool f,.slice a2 n2 c2,.slice a3 n3 c3] d fp) (hlo:∀ b∈fp,base<=b) (hty:NoMac w fp)
  (h63:L.length<=1500000) (hbase:base<=w.heap.size)
  (h:∀ v' w',RowE sMacro base 70 v' (L++[⟨[.string nm,.bool f,.slice a2 n2 c2,.slice a3 n3 c3],d,fp⟩]) w'->w.grownBy w' v.ownBlock->wpList Tryz.prog ops Q rest (a.put o.dst v') w') :
  wpList Tryz.prog ops Q (o::rest) a (w.alloc (.cells #[.string nm,.bool f,.slice a2 n2 c2,.slice a3 n3 c3] 70)):=by
 have hb:=Zab w (.cells #[.string nm,.bool f,.slice a2 n2 c2,.slice a3 n3 c3] 70)
 refine ZeD (S:=sMacro) ti_mac rfl (by decide) _ (X:=[⟨[.string nm,.bool f,.slice a2 n2 c2,.slice a3 n3 c3],d,fp⟩]) hg s y ho base v hs (hown.below hb) w.heap.size 1 1 hy rfl ?_ ?_ ?_ ?_ ?_ ?_ (by unfold maxLen;omega) (by omega) (by simp;omega) λ v' w' a b=>h v' w' a (Zdg (World.grownBy_alloc _ _ _) b)
 ·intro x hx;obtain rfl:=Qm hx;rfl
 ·intro x hx;obtain rfl:=Qm hx;simp [Value.oneCell']
 ·intro j u hj
  rw [World.cell?_alloc_at _ _ _ _ rfl]
  simpa using hj
 ·intro x hx;obtain rfl:=Qm hx;exact sMacro.below hR hb
 ·intro x hx;obtain rfl:=Qm hx;exact hlo
 ·intro x hx b' hb'
  obtain rfl:=Qm hx
  obtain⟨cur,t,fr,h1,h2⟩:=hty b' hb'
  exact⟨cur,t,fr,(hb.block b' (Qg h1).1).trans h1,h2⟩
def MacSm (x:DMacro):Prop:=x.params.length<=2000000/\x.body.length<=1048576/\∀ k,(hk:k<x.body.length)->x.body[k].hidden.length<=2000000
def OwnTab (l:List DMacro) (w:World) (e:Ending) (w':World):Prop:=∃ v fp,e=.returned v/\(Zaa sMacro).R w' [v] l fp/\(∀ b∈fp,w.heap.size<=b)/\Below w.heap.size w w'
theorem Zfs (v:Value) (l:List DMacro) (fp:List Nat) (w:World) (hl:l.length<=1048576) (hx:∀ k,(hk:k<l.length)->MacSm l[k]) (H:(Zaa sMacro).R w [v] l fp) :
  Calls Tryz.prog 33 #[v] w (OwnTab l w):=by
 obtain⟨a,cap,rfl,hc,hm,hrow⟩:=Zac H
 unfold maxLen at hm
 clear H
 have HX:=Qh hx
 clear hx
 have hlit:Hid (RowE sMacro w.heap.size 70 (.slice (some ⟨w.heap.size,0,none⟩) 0 0) [] (w.alloc (.cells #[] 70))):=RowE.lit [] (by simp) (by simp) (by simp) (by simp) (Nat.le_refl _) (by simp)
 have hba:=Zab w (.cells #[] 70)
 go_enter Tryz.func33,Tryz.ntmps33
 go_wp2
 go_loopw [3,4] (λ o i wr=>∃ (k:Nat) (L:List (Elem DMacro)),k<=l.length/\i=.int .i64 k/\Hid (RowE sMacro w.heap.size 70 o L wr)/\Hid (L.map (·.d)=l.take k)/\Below w.heap.size w wr) (λ _ i _=>l.length-(intOf i).toNat)
 case atStart=>exact⟨0,[],by omega,rfl,hlit,rfl,hba⟩
 case round =>
  clear hlit hba
  obtain⟨k,L,hk,rfl,HE,HD,hb⟩:=hrel
  by_cases hlt:k<l.length
  ·obtain⟨b1,off1,fps1,rfl,hb1,-,he1⟩:=hrow (by omega)
   obtain⟨es1,hE1,hR1⟩:=he1 k hlt
   clear hrow he1
   have HC:=Qh (Zeh _ _ _ wr (HX.out k hlt).1 (HX.out k hlt).2.1 (HX.out k hlt).2.2 (sMacro.below hR1 hb))
   obtain⟨h2,h3,p2,p3,rfl,_,_,_,_⟩:=hR1
   replace hE1:=hE1.frame (hb.block b1 hb1)
   have c10:wr.cell? ⟨b1,off1+k * 4,none⟩=some _:=Zam hE1 (by decide) rfl
   have c11:wr.cell? ⟨b1,off1+k * 4+1,none⟩=some _:=Zae (j:=1) hE1 (by decide) rfl
   have c12:wr.cell? ⟨b1,off1+k * 4+2,none⟩=some _:=Zae (j:=2) hE1 (by decide) rfl
   have c13:wr.cell? ⟨b1,off1+k * 4+3,none⟩=some _:=Zae (j:=3) hE1 (by decide) rfl
   clear hE1
   have HLl:Hid (L.length=k):=by have:=congrArg List.length HD.out;simp at this;show _=_;omega
   go_wp2_with fail
   refine HC.out.mono ?_
   rintro e w2 ⟨a2,a3,c2,c3,fp2,rfl,hR2,hlo2,hty2,hb2⟩
   obtain⟨ar,capr,rfl,-⟩:=HE.out.val
   have hE2:=HE.out.below hb2
   have hbw:=hb.trans (hb2.mono hb.size)
   have hlo3:∀ b∈fp2,w.heap.size<=b:=λ b hx=>Nat.le_trans hb.size (hlo2 b hx)
   clear c10 c11 c12 c13 HC HE
   go_wp2_with (at_builtin;refine Zix rfl (.tmp 12) (.tmp 18) rfl w.heap.size (.slice ar L.length capr) L rfl hE2 l[k].name l[k].function a2 a3 l[k].params.length c2 l[k].body.length c3 l[k] fp2 rfl hR2 hlo3 hty2 (by have:=HLl.out;omega) hbw.size ?_;intro v3 w3 hE3 hg3)
   have hb3:Below w.heap.size w w3:=hbw.grown hg3 hbw.size (λ b hb=>(hE2.row.lt b hb).1)
   have HE3:=Qh hE3
   have HD3:Hid ((L++[(⟨[.string l[k].name,.bool l[k].function,.slice a2 l[k].params.length c2,.slice a3 l[k].body.length c3],l[k],fp2⟩:Elem DMacro)]).map (·.d)=l.take (k+1)):=by
    show _=_
    rw [List.map_append,HD.out,List.take_succ_eq_append_getElem hlt];rfl
   clear hE2 hE3 hg3 hR2 hty2 hlo2 hlo3 hb2
   go_roundw
   case rel=>exact⟨k+1,_,by omega,by go_num,HE3,HD3,hb3⟩
   case measure=>simp [intOf];omega
  ·obtain⟨fpr,hr,hlo⟩:=HE.out.read
   have hd:=HD.out
   rw [List.take_of_length_le (by omega)] at hd
   rw [hd] at hr
   have HR:=Qh hr
   have HLO:=Qh hlo
   clear hr hd HE HD hlo
   go_wp2
   go_ret
   exact⟨_,fpr,rfl,HR.out,HLO.out,hb⟩
end Go.Proofs.YtiaiggjfepoahaaGreat
