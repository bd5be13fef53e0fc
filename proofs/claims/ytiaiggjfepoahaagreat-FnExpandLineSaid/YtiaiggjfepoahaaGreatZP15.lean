/- Texts that the proof of P stands on, in one file. -/
import Derived.Test.YtiaiggjfepoahaaGreatZP14
import Derived.Deep.CutRange
import Derived.Shelf.Spec.SlicesInsertGrow
set_option linter.unusedVariables false
set_option maxHeartbeats 16000000
set_option maxRecDepth 100000
set_option linter.unusedSimpArgs false
/- Arguments put into a body (spec l10Body). (Made by gen_sub3.py.) -/
namespace Go.Proofs.YtiaiggjfepoahaaGreat
open Go.RowKit
theorem Zk5 {a:List (List Tok)} (h:∀ l∈a,Zaj l=true) (n:Int):Zaj (argAt a n)=true:=by
 unfold argAt
 by_cases hn:n.toNat<a.length
 ·rw [List.getD_eq_getElem?_getD,List.getElem?_eq_getElem hn]
  exact h _ (List.getElem_mem hn)
 ·rw [List.getD_eq_getElem?_getD,List.getElem?_eq_none (by omega)]
  rfl
theorem Zmk {b:Bool} {l:List Tok} (h:Zaj l=true):(spc b l).length<=60/\∀ t∈spc b l,t.hidden.length<=60:=by
 have hf:=Zam h
 refine ⟨by rw [ZiR];exact hf.1,λ t ht=>?_⟩
 have key:∀ u∈l,u.hidden.length<=60:=λ u hu=>by
  obtain⟨j,hj,rfl⟩:=List.getElem_of_mem hu
  exact(ZdS (ZbS (hf.2 j hj))).1
 cases l with
 | nil=>simp [spc] at ht
 |
  cons x r =>
  rcases List.mem_cons.1 ht with rfl | ht
  ·exact key x (by simp)
  ·exact key t (by simp [ht])
theorem ZfA {m:DMacro} {a:List (List Tok)} (h:Zau m a=true):∀ l∈a,Zaj l=true:=by
 unfold Zau at h;rw [Bool.and_eq_true,List.all_eq_true] at h;exact h.2
theorem Zie {m:DMacro} {raw ready:List (List Tok)} (hv:macOk m=true) (ha:Zau m raw=true) (hy:Zau m ready=true) {k:Nat} (hk:k<m.body.length) {P:List Tok} {nx:Nat} {ok:Bool} (h:ZaA m raw ready k=(P,nx,ok)) :
  P.length<=60/\nx<=m.body.length/\k<nx/\∀ t∈P,t.hidden.length<=60:=by
 have hnx:=ZeC m raw ready k
 rw [h] at hnx
 by_cases h1:m.function=true/\isM m.body[k] [35]=true
 ·obtain⟨hk1,-⟩:=Zgh hv hk h1.1 h1.2
  obtain⟨kk,s,b,hx,-⟩:=Zdy (argAt raw (parOf m.params m.body[k+1]))
  rw [Zgd hk1 h1.1 h1.2 hx] at h
  simp only [Prod.mk.injEq] at h
  obtain⟨rfl,rfl,-⟩:=h
  exact⟨by simp,by omega,hnx,λ t ht=>by rw [Qm ht];exact Nat.zero_le _⟩
 ·by_cases h2:parOf m.params m.body[k]<0
  ·rw [Zge hk h1 h2] at h
   simp only [Prod.mk.injEq] at h
   obtain⟨rfl,rfl,-⟩:=h
   refine ⟨by simp,by omega,hnx,λ t ht=>?_⟩
   rw [Qm ht,(ZbW hk ((ZaD hv).2.2 k hk)).2.1]
   exact Nat.zero_le _
  ·cases h3:(glueL m k || glueR m k)
   ·rw [Zfw hk h1 h2 h3] at h
    simp only [Prod.mk.injEq] at h
    obtain⟨rfl,rfl,-⟩:=h
    have:=Zmk (b:=m.body[k].spaced) (Zk5 (ZfA hy) (parOf m.params m.body[k]))
    exact⟨this.1,by omega,hnx,this.2⟩
   ·rw [Zhm hk h1 h2 h3] at h
    simp only [Prod.mk.injEq] at h
    obtain⟨rfl,rfl,-⟩:=h
    have:=Zmk (b:=m.body[k].spaced) (Zk5 (ZfA ha) (parOf m.params m.body[k]))
    exact⟨this.1,by omega,hnx,this.2⟩
theorem set_last {α:Type} {l:List α} (h:l≠[]) (z:α):l.set (l.length-1) z=l.dropLast++[z]:=by
 have hl:0<l.length:=List.length_pos_iff.2 h
 rw [List.set_eq_take_append_cons_drop,if_pos (by omega),List.dropLast_eq_take,List.drop_of_length_le (by omega)]
def BodyOf (P:List Tok × Bool) (w:World) (e:Ending) (w':World):Prop:=
 ∃ (v:Value) (L:List (Elem Tok)),e=.returned (.tuple #[v,.bool P.2])/\RowN sTok w.heap.size 57 v L w'/\L.map (·.d)=P.1/\L.length<=5000/\(∀ x∈L,x.d.hidden.length<=60)/\Below w.heap.size w w'
theorem ZjL {P:List Tok × Bool} {w W:World} (h:P=([],false)) (hb:Below w.heap.size w W):BodyOf P w (.returned (.tuple #[.slice (some ⟨W.heap.size,0,none⟩) 0 0,.bool false])) (W.alloc (.cells #[] 57)):=
 ⟨_,[],by rw [h],RowN.lit0 sTok 57 W hb.size,by rw [h];rfl,by simp,by simp,hb.alloc hb.size _⟩
theorem Zk6 (csM:List Value) (m:DMacro) (fpM:List Nat) (vr vy:Value) (raw ready:List (List Tok)) (fpr fpy:List Nat) (w:World) (hv:macOk m=true) (ha:Zau m raw=true) (hy:Zau m ready=true)
  (HM:sMacro.R w csM m fpM) (Hr:(Zaa (Zaa sTok)).R w [vr] raw fpr) (Hy:(Zaa (Zaa sTok)).R w [vy] ready fpy) :
  Calls Tryz.prog 102 #[.agg csM.toArray,vr,vy] w (BodyOf (subGo m raw ready 0 [] true false) w):=by
 have HM0:=HM
 obtain⟨h2,h3,q2,q3,rfl,-,K2,K3,hfpM⟩:=HM
 obtain⟨a2,c2,rfl,-⟩:=Zaf K2
 obtain⟨a3,c3,rfl,hc3,hm3,hrow3⟩:=Zac K3
 obtain⟨ar,cr,rfl,-⟩:=Zac Hr
 obtain⟨ay,cy,rfl,-⟩:=Zac Hy
 unfold maxLen at hm3
 have hlen20:m.body.length<=20:=(ZaD hv).1.2.2.2.2
 have b0:=Zab w (.cells #[.string m.name,.bool m.function,.slice a2 m.params.length c2,.slice a3 m.body.length c3] 70)
 have HX:=Qh (heap_alloc_new w (.cells #[.string m.name,.bool m.function,.slice a2 m.params.length c2,.slice a3 m.body.length c3] 70))
 have HPT:=Qh (λ (k:Nat) (hk:k<m.body.length) (U:World) (hU:Below w.heap.size w U)=>Zk4 _ m fpM _ _ raw ready fpr fpy k U hv ha hy hk w.heap.size (λ b hb=>sMacro.lt HM0 b hb) (λ b hb=>(Zaa (Zaa sTok)).lt Hr b hb) (λ b hb=>(Zaa (Zaa sTok)).lt Hy b hb) (sMacro.below HM0 hU) ((Zaa (Zaa sTok)).below Hr hU) ((Zaa (Zaa sTok)).below Hy hU))
 unfold PartOf at HPT
 have HSM:=Qh (λ (k:Nat) (hk:k<m.body.length) (P:List Tok) (nx:Nat) (ok:Bool) (h:ZaA m raw ready k=(P,nx,ok))=>Zie hv ha hy hk h)
 have HB3:=Qh K3
 have hs1:(w.alloc (.cells #[.string m.name,.bool m.function,.slice a2 m.params.length c2,.slice a3 m.body.length c3] 70)).heap.size=w.heap.size+1:=by show (w.heap.push _).size=_;simp
 have HG0:=Qh (RowN.lit0 sTok 57 (w.alloc (.cells #[.string m.name,.bool m.function,.slice a2 m.params.length c2,.slice a3 m.body.length c3] 70)) (base:=w.heap.size) (by omega))
 rw [hs1] at HG0
 have b1:=b0.trans ((Zab (w.alloc (.cells #[.string m.name,.bool m.function,.slice a2 m.params.length c2,.slice a3 m.body.length c3] 70)) (.cells #[] 57)).mono b0.size)
 have HX1:=Qh (mbox HX.out (Zab (w.alloc (.cells #[.string m.name,.bool m.function,.slice a2 m.params.length c2,.slice a3 m.body.length c3] 70)) (.cells #[] 57)))
 have HI2:Hid (∀ (cs:List Value) (x:Tok) (fp:List Nat) (W:World),sTok.R W cs x fp->Calls Tryz.prog 71 #[.agg cs.toArray,.string ⟨#[35,35]⟩] W (Says (isM x [35,35]) W)):=λ cs x fp W h=>by have:=Zda cs x fp W ⟨#[35,35]⟩ h;rw [Zgi] at this;exact this
 clear HM0 K2 K3 Hr Hy hv ha hy hfpM b0 HX
 go_enter Tryz.func102,Tryz.ntmps102
 go_upto_region 2 with fail
 clear hs1
 generalize ((w.alloc (.cells #[.string m.name,.bool m.function,.slice a2 m.params.length c2,.slice a3 m.body.length c3] 70)).alloc (.cells #[] 57))=W1 at *
 go_wp2
 go_loopw [8,9,10,11] (λ vo ve vp va wr=>∃ (k:Nat) (L:List (Elem Tok)) (emp paste:Bool),k<=m.body.length/\va=.int .i64 k/\ve=.bool emp/\vp=.bool paste/\Hid (RowN sTok w.heap.size 57 vo L wr)/\Hid (vo.ownBlock≠some w.heap.size)/\Hid (subGo m raw ready 0 [] true false=subGo m raw ready k (L.map (·.d)) emp paste)/\Hid (emp=false->0<L.length)/\Hid (L.length<=61 * k)/\Hid (∀ x∈L,x.d.hidden.length<=60)/\Hid (wr.heap[w.heap.size]?=some (.cells #[.string m.name,.bool m.function,.slice a2 m.params.length c2,.slice a3 m.body.length c3] 70 (0,0)))/\Below w.heap.size w wr) (λ _ _ _ va _=>m.body.length-(intOf va).toNat)
 case atStart=>exact⟨0,[],true,false,by omega,rfl,rfl,rfl,HG0.out,(λ h=>by simp only [Value.ownBlock,Qi] at h;omega),rfl,(λ h=>by simp at h),(show (0:Nat)<=_ by omega),(λ x hx=>by simp at hx),HX1.out,b1⟩
 case round =>
  clear HG0 HX1 b1
  obtain⟨k,L,emp,paste,hk,rfl,rfl,rfl,HR,HNB,HGO,HEM,HLL,HHD,HXr,hb⟩:=hrel
  obtain⟨ao,co,rfl,-⟩:=HR.out.val
  obtain⟨N,HN⟩:∃ N:Nat,Hid (N=L.length):=⟨L.length,Qh rfl⟩
  rw [show L.length=N from HN.out.symm] at HR HNB HEM HLL ⊢
  obtain⟨p0,p1,p2,p3⟩:=Q4 HXr.out
  by_cases hlt:k<m.body.length
  ·obtain⟨bb,ob,-,rfl,-,-,-⟩:=hrow3 (by omega)
   obtain⟨xa,xc,xf,xq0,xq1,xq2,xq3,xR,hbb,-⟩:=ZaJ HB3.out hlt
   have x0:wr.cell? ⟨bb,ob+k * 4,none⟩=some _:=(hb.cell (p:=⟨bb,ob+k * 4,none⟩) hbb).trans xq0
   have x1:wr.cell? ⟨bb,ob+k * 4+1,none⟩=some _:=(hb.cell (p:=⟨bb,ob+k * 4+1,none⟩) hbb).trans xq1
   have x2:wr.cell? ⟨bb,ob+k * 4+2,none⟩=some _:=(hb.cell (p:=⟨bb,ob+k * 4+2,none⟩) hbb).trans xq2
   have x3:wr.cell? ⟨bb,ob+k * 4+3,none⟩=some _:=(hb.cell (p:=⟨bb,ob+k * 4+3,none⟩) hbb).trans xq3
   have HC:=Qh (HI2.out _ m.body[k] _ wr (sTok.below xR hb))
   have HPK:=Qh (HPT.out k hlt)
   have HSK:=Qh (HSM.out k hlt)
   have i0:(0:Int)<=(k:Int):=by omega
   have i1:(k:Int)<(m.body.length:Int):=by omega
   have hk1:IntKind.i64.wrap ((k:Int)+1)=(k:Int)+1:=IntWalk.i64_in _ (by omega)
   clear xq0 xq1 xq2 xq3 xR hrow3
   go_upto_region 6 with fail
   go_cut [10,32] from 18 to 94 (λ p d wx=>p=.bool paste/\d=.bool (isM m.body[k] [35,35] && !paste)/\Below wr.heap.size wr wx)
   case first =>
    go_wp2_with fail
    refine HC.out.mono ?_
    rintro e w2 ⟨rfl,hb2⟩
    clear HC
    rcases Bool.eq_false_or_eq_true (isM m.body[k] [35,35]) with hq | hq
    ·have HQ:=Qh hq
     rw [hq]
     clear hq
     go_wp2
     go_meet
     case rel=>exact⟨rfl,by rw [HQ.out];simp,hb2⟩
    ·have HQ:=Qh hq
     rw [hq]
     clear hq
     go_wp2
     go_meet
     case rel=>exact⟨rfl,by rw [HQ.out];rfl,hb2⟩
   obtain⟨rfl,rfl,hb2⟩:=hcut
   generalize wc=w2 at *
   replace HR:=Qh (HR.out.below hb2)
   replace HXr:=Qh (mbox HXr.out hb2)
   have hB:=hb.trans (hb2.mono hb.size)
   clear x0 x1 x2 x3 p0 p1 p2 p3 HC hb2 hb
   cases hbm:(isM m.body[k] [35,35] && !paste)
   rotate_left
   ·obtain⟨hm1,hm2⟩:=Bool.and_eq_true_iff.1 hbm
    obtain rfl:paste=false:=by simpa using hm2
    have HN1:=Qh (HGO.out.trans (Zfx hlt hm1))
    have HLL1:Hid (L.length<=61 * (k+1)):=by show _<=_;have:=HLL.out;have:=HN.out;omega
    have HEM1:Hid (emp=false->0<L.length):=λ h=>by have:=HEM.out h;have:=HN.out;omega
    clear hm1 hm2 hbm HGO
    go_wp2
    go_roundw
    case rel=>exact⟨k+1,L,emp,true,by omega,by go_num,rfl,by trivial,HR.out,HNB.out,HN1.out,HEM1.out,HLL1.out,HHD.out,HXr.out,hB⟩
    case measure=>simp [intOf];omega
   have HMK:Hid (¬ (isM m.body[k] [35,35]=true/\paste=false)):=λ h=>by rw [h.1,h.2] at hbm;exact absurd hbm (by simp)
   clear hbm
   rcases hP:ZaA m raw ready k with⟨P,nx,ok⟩
   have HS:=Qh (HSK.out P nx ok hP)
   have HPP:=Qh hP
   have HC:=Qh (HPK.out _ hB)
   rw [hP] at HC
   try dsimp only at HC
   clear hP HSK HPK
   obtain⟨p0,p1,p2,p3⟩:=Q4 HXr.out
   go_wp2_with fail
   refine HC.out.mono ?_
   rintro e w3 ⟨v9,L9,rfl,HR9,HD9,HF9,hb3⟩
   have hmine:=HR.out.mine
   replace HR:=Qh (HR.out.below hb3)
   replace HXr:=Qh (mbox HXr.out hb3)
   have hB3:=hB.trans (hb3.mono hB.size)
   obtain⟨a9,c9,rfl,hc9,hm9,hv9⟩:=HR9.val
   have HR9':=Qh HR9
   have HD9':=Qh HD9
   have HF9':=Qh HF9
   have HPL:Hid (P.length=L9.length):=by show _=_;rw [← HD9,List.length_map]
   obtain⟨fp9,r9,hf9,-⟩:=HR9.read
   have HMI:Hid (∀ b∈fp9,(Value.slice ao N co).ownBlock≠some b):=λ b hb h=>by
    have h1:=hmine b h
    rcases hf9 b hb with h2 | ⟨x,hx,h2⟩
    ·have:=(HR9.mine b h2).1;omega
    ·have:=HF9 x hx b h2;omega
   rw [HD9] at r9
   have HRD:=Qh r9
   obtain⟨N9,HN9⟩:∃ N9:Nat,Hid (N9=L9.length):=⟨L9.length,Qh rfl⟩
   rw [show L9.length=N9 from HN9.out.symm] at HRD HR9' hc9 ⊢
   have h960:N9<=60:=by have:=HS.out.1;have:=HPL.out;have:=HN9.out;omega
   clear p0 p1 p2 p3 HC hb3 HR9 HD9 HF9 r9 hf9 hmine hv9 hB
   cases ok
   ·have HF:=Qh (HGO.out.trans (Ze9 hlt HMK.out HPP.out))
    go_wp2
    go_ret2
    exact ZjL HF.out hB3
   go_upto_region 12 with fail
   go_cut [9,10,56] from 18 to 94 (λ e p d wx=>e=.bool emp/\p=.bool paste/\d=.bool (paste && !emp && decide (0<N9))/\wx=w3)
   case first =>
    have hn9:decide (0<N9)=decide ((0:Int)<(N9:Int)):=decide_eq_decide.2 (by omega)
    obtain⟨bp,HBP⟩:∃ b,Hid (b=paste):=⟨paste,Qh rfl⟩
    obtain⟨be,HBE⟩:∃ b,Hid (b=emp):=⟨emp,Qh rfl⟩
    rw [show emp=be from HBE.out.symm,show paste=bp from HBP.out.symm]
    cases bp
    ·go_wp2
     go_meet
     case rel=>exact⟨by rw [HBE.out],by rw [← HBP.out],by rw [← HBP.out];rfl,by trivial⟩
    ·cases be
     ·by_cases h9:0<N9
      ·have h9':(0:Int)<(N9:Int):=by omega
       go_wp2
       go_meet
       case rel=>exact⟨by rw [← HBE.out],by rw [← HBP.out],by rw [← HBP.out,← HBE.out];simp [h9],by trivial⟩
      ·have h9':¬ (0:Int)<(N9:Int):=by omega
       go_wp2
       go_meet
       case rel=>exact⟨by rw [← HBE.out],by rw [← HBP.out],by rw [← HBP.out,← HBE.out];simp [h9],by trivial⟩
     ·go_wp2
      go_meet
      case rel=>exact⟨by rw [← HBE.out],by rw [← HBP.out],by rw [← HBP.out,← HBE.out];rfl,by trivial⟩
   obtain⟨rfl,rfl,rfl,rfl⟩:=hcut
   cases hcd:(paste && !emp && decide (0<N9))
   ·have HCD:Hid (¬ (paste=true/\emp=false/\0<P.length)):=λ h=>by
     rw [h.1,h.2.1,show decide (0<N9)=true from decide_eq_true (by have:=h.2.2;have:=HPL.out;have:=HN9.out;omega)] at hcd
     exact absurd hcd (by simp)
    have HNX:=Qh (HGO.out.trans (Zd5 hlt HMK.out HPP.out HCD.out))
    have HDP:Hid (decide (P.length=0)=decide (N9=0)):=decide_eq_decide.2 (by have:=HPL.out;have:=HN9.out;omega)
    clear hcd
    go_upto_region 18 with fail
    go_cut [9,10] from 18 to 94 (λ e p wx=>e=.bool (decide (N9=0) && (emp || !paste))/\p=.bool paste/\wx=wc)
    case first =>
     obtain⟨bp,HBP⟩:∃ b,Hid (b=paste):=⟨paste,Qh rfl⟩
     obtain⟨be,HBE⟩:∃ b,Hid (b=emp):=⟨emp,Qh rfl⟩
     rw [show emp=be from HBE.out.symm,show paste=bp from HBP.out.symm]
     by_cases h9:N9=0
     ·have h9':((N9:Int)==0)=true:=by simp [h9]
      have H9:=Qh h9
      clear h9
      cases be
      ·cases bp
       ·go_wp2
        go_meet
        case rel=>exact⟨by rw [← HBP.out,← HBE.out,H9.out];rfl,by rw [← HBP.out],by trivial⟩
       ·go_wp2
        go_meet
        case rel=>exact⟨by rw [← HBP.out,← HBE.out,H9.out];rfl,by rw [← HBP.out],by trivial⟩
      ·go_wp2
       go_meet
       case rel=>exact⟨by rw [← HBE.out,H9.out];rfl,by rw [HBP.out],by trivial⟩
     ·have h9':((N9:Int)==0)=false:=by rw [beq_eq_false_iff_ne];omega
      have H9:=Qh h9
      clear h9
      go_wp2
      go_meet
      case rel=>exact⟨by rw [decide_eq_false H9.out];rfl,by rw [HBP.out],by trivial⟩
    obtain⟨rfl,rfl,rfl⟩:=hcut
    have hNL:N<=61 * k:=by have:=HLL.out;exact this
    have hk20:k<=20:=by omega
    go_wp2_with (at_builtin;refine Zbh ti_tok rfl (by decide) ZaE wc rfl (.tmp 91) (.tmp 92) rfl w.heap.size (.slice ao N co) (.slice a9 N9 c9) (P) fp9 rfl HR.out rfl HRD.out HMI.out (by have:=HPL.out;have:=HN9.out;have:=HN.out;simp [maxLen];omega) (by have:=HPL.out;have:=HN9.out;have:=HN.out;simp;omega) hB3.size ?_;intro v5 X w5 hX hXf hR5 hg5 hp5)
    have hb5:Below w.heap.size w w5:=hB3.grown hg5 hB3.size (λ b hb=>(HR.out.mine b hb).1)
    have HX5:=Qh ((hg5.block w.heap.size (mlt HXr.out) (λ e=>HNB.out e.symm)).trans HXr.out)
    have HNB5:Hid (v5.ownBlock≠some w.heap.size):=λ e=>by
     rcases hp5 with h | h
     ·rw [h] at e;exact HNB.out e
     ·rw [h] at e;have:=mlt HXr.out;simp only [Qi] at e;omega
    have HGO5:Hid (subGo m raw ready 0 [] true false=subGo m raw ready nx ((L++X).map (·.d)) (decide (N9=0) && (emp || !paste)) false):=by
     show _=_
     rw [HNX.out,HDP.out,List.map_append,hX]
    have hXl:X.length=N9:=by have:=congrArg List.length hX;rw [List.length_map] at this;have:=HPL.out;have:=HN9.out;omega
    have HEM5:Hid ((decide (N9=0) && (emp || !paste))=false->0<(L++X).length):=λ h=>by
     rw [List.length_append,hXl]
     by_cases h9:N9=0
     ·rw [h9] at h
      have he:emp=false:=by
       have h2:(emp || !paste)=false:=by simpa using h
       exact(Bool.or_eq_false_iff.1 h2).1
      have:=HEM.out he;have:=HN.out;omega
     ·omega
    have HLL5:Hid ((L++X).length<=61 * nx):=by show _<=_;rw [List.length_append,hXl];have:=HS.out.2.2.1;have:=HN.out;omega
    have HHD5:Hid (∀ x∈L++X,x.d.hidden.length<=60):=λ x hx=>by
     rcases Qa hx with hx | hx
     ·exact HHD.out x hx
     ·have hm:x.d∈P:=by rw [← hX];exact List.mem_map.2 ⟨x,hx,rfl⟩
      exact HS.out.2.2.2 x.d hm
    have HR5:=Qh hR5
    have hnx:=HS.out.2.1
    have hnk:=HS.out.2.2.1
    clear hX hXf hR5 hg5 hp5
    go_wp2
    go_roundw
    case rel=>exact⟨nx,L++X,_,false,hnx,by trivial,rfl,by trivial,HR5.out,HNB5.out,HGO5.out,HEM5.out,HLL5.out,HHD5.out,HX5.out,hb5⟩
    case measure=>simp [intOf];omega
   ·skip
    obtain⟨h12,h9b⟩:=Bool.and_eq_true_iff.1 hcd
    obtain⟨h1p,h2e⟩:=Bool.and_eq_true_iff.1 h12
    obtain rfl:paste=true:=h1p
    obtain rfl:emp=false:=by simpa using h2e
    have h90:0<N9:=of_decide_eq_true h9b
    have hN0:0<N:=HEM.out rfl
    have HCD:Hid (true=true/\false=false/\0<P.length):=⟨rfl,rfl,by have:=HPL.out;have:=HN9.out;omega⟩
    clear hcd h12 h9b
    obtain⟨g,rfl,hgw,hg3⟩:∃ g,ao=some ⟨g,0,none⟩/\w.heap.size<=g/\g<wc.heap.size:=by
     obtain⟨a8,c8,e8,-,-,h8⟩:=HR.out.val
     simp only [Value.slice.injEq] at e8
     obtain⟨rfl,-,-⟩:=e8
     exact h8 (by have:=HN.out;omega)
    obtain⟨g9,rfl,hg9w,hg93⟩:∃ g9,a9=some ⟨g9,0,none⟩/\w2.heap.size<=g9/\g9<wc.heap.size:=by
     obtain⟨a8,c8,e8,-,-,h8⟩:=HR9'.out.val
     simp only [Value.slice.injEq] at e8
     obtain⟨rfl,-,-⟩:=e8
     exact h8 (by have:=HN9.out;omega)
    have hNl:N-1<L.length:=by have:=HN.out;omega
    have hN9l:0<L9.length:=by have:=HN9.out;omega
    obtain⟨y,hyd⟩:∃ y:Elem Tok,Hid (y=L[N-1]'hNl):=⟨L[N-1]'hNl,Qh rfl⟩
    obtain⟨x,hxd⟩:∃ x:Elem Tok,Hid (x=L9[0]'hN9l):=⟨L9[0]'hN9l,Qh rfl⟩
    have hym:y∈L:=by rw [hyd.out];exact List.getElem_mem hNl
    have hxm:x∈L9:=by rw [hxd.out];exact List.getElem_mem hN9l
    obtain⟨hyv,hyc,-,-,KY⟩:=HR.out.el y hym
    obtain⟨ya,yc,rfl,-⟩:=Zaf KY
    obtain⟨hxv,hxc,-,-,KX⟩:=HR9'.out.el x hxm
    obtain⟨xa,xc,rfl,-⟩:=Zaf KX
    clear KY KX
    have RY:=HR.out.el y hym
    have RX:=HR9'.out.el x hxm
    rw [hyc] at RY
    rw [hxc] at RX
    have y0:wc.cell? ⟨g,(N-1) * 4,none⟩=some (.int .i64 y.d.kind):=HR.out.cellAt hNl (j:=0) (by decide) (by rw [← hyd.out,hyc];rfl)
    have y1:wc.cell? ⟨g,(N-1) * 4+1,none⟩=some (.string y.d.text):=HR.out.cellAt hNl (j:=1) (by decide) (by rw [← hyd.out,hyc];rfl)
    have y2:wc.cell? ⟨g,(N-1) * 4+2,none⟩=some (.bool y.d.spaced):=HR.out.cellAt hNl (j:=2) (by decide) (by rw [← hyd.out,hyc];rfl)
    have y3:wc.cell? ⟨g,(N-1) * 4+3,none⟩=some (.slice ya y.d.hidden.length yc):=HR.out.cellAt hNl (j:=3) (by decide) (by rw [← hyd.out,hyc];rfl)
    have x0:wc.cell? ⟨g9,0,none⟩=some (.int .i64 x.d.kind):=by have:=HR9'.out.cellAt hN9l (j:=0) (by decide) (u:=.int .i64 x.d.kind) (by rw [← hxd.out,hxc];rfl);simpa using this
    have x1:wc.cell? ⟨g9,1,none⟩=some (.string x.d.text):=by have:=HR9'.out.cellAt hN9l (j:=1) (by decide) (u:=.string x.d.text) (by rw [← hxd.out,hxc];rfl);simpa using this
    have x2:wc.cell? ⟨g9,2,none⟩=some (.bool x.d.spaced):=by have:=HR9'.out.cellAt hN9l (j:=2) (by decide) (u:=.bool x.d.spaced) (by rw [← hxd.out,hxc];rfl);simpa using this
    have x3:wc.cell? ⟨g9,3,none⟩=some (.slice xa x.d.hidden.length xc):=by have:=HR9'.out.cellAt hN9l (j:=3) (by decide) (u:=.slice xa x.d.hidden.length xc) (by rw [← hxd.out,hxc];rfl);simpa using this
    have HYX:Hid ((L.map (·.d)).getLastD zTok=y.d/\P.headD zTok=x.d):=by
     refine ⟨?_,?_⟩
     ·have hne:L.map (·.d)≠[]:=λ h=>by have:=congrArg List.length h;rw [List.length_map] at this;simp at this;rw [this] at hNl;simp at hNl
      rw [List.getLastD_eq_getLast?,List.getLast?_eq_some_getLast hne,Option.getD_some,List.getLast_eq_getElem,List.getElem_map,hyd.out]
      congr 2
      rw [List.length_map];have:=HN.out;omega
     ·rw [← HD9'.out,hxd.out]
      cases L9 with
      | nil=>simp at hN9l
      | cons q r=>rfl
    have hyh:y.d.hidden.length<=60:=HHD.out y hym
    have hxh:x.d.hidden.length<=60:=HS.out.2.2.2 x.d (by rw [← HD9'.out];exact List.mem_map.2 ⟨x,hxm,rfl⟩)
    rcases hpr:Zas y.d x.d with⟨z,fine⟩
    have HPR:=Qh hpr
    have HPT2:=Qh (λ (U:World) (hU:Below wc.heap.size wc U)=>Zhp [.int .i64 y.d.kind,.string y.d.text,.bool y.d.spaced,.slice ya y.d.hidden.length yc] [.int .i64 x.d.kind,.string x.d.text,.bool x.d.spaced,.slice xa x.d.hidden.length xc] y.d x.d y.fp x.fp U (by omega) (by omega) (sTok.below RY hU) (sTok.below RX hU))
    unfold Zd6 at HPT2
    rw [hpr] at HPT2
    try dsimp only at HPT2
    have HSS:Hid (∀ U:World,Below wc.heap.size wc U->U.cell? ⟨g,(N-1) * 4,none⟩=some (.int .i64 y.d.kind)/\U.cell? ⟨g,(N-1) * 4+1,none⟩=some (.string y.d.text)/\U.cell? ⟨g,(N-1) * 4+2,none⟩=some (.bool y.d.spaced)/\U.cell? ⟨g,(N-1) * 4+3,none⟩=some (.slice ya y.d.hidden.length yc)/\U.cell? ⟨g9,0,none⟩=some (.int .i64 x.d.kind)/\U.cell? ⟨g9,1,none⟩=some (.string x.d.text)/\U.cell? ⟨g9,2,none⟩=some (.bool x.d.spaced)/\U.cell? ⟨g9,3,none⟩=some (.slice xa x.d.hidden.length xc)):=λ U hU=>⟨(hU.cell hg3).trans y0,(hU.cell hg3).trans y1,(hU.cell hg3).trans y2,(hU.cell hg3).trans y3,(hU.cell hg93).trans x0,(hU.cell hg93).trans x1,(hU.cell hg93).trans x2,(hU.cell hg93).trans x3⟩
    have hcs:Below wc.heap.size wc wc.drew:=Zag (Below.refl _ _) 1
    have hwn:IntKind.i64.wrap ((N:Int)-1)=(N:Int)-1:=IntWalk.i64_in _ (by have:=HLL.out;have:N<=61 * k:=this;omega)
    have n1:(0:Int)<=(N:Int)-1:=by omega
    have n2:(N:Int)-1<(N:Int):=by omega
    have n3:((N:Int)-1).toNat=N-1:=by omega
    have n4:(1:Int)<=(N:Int):=by omega
    have n5:(0:Int)<(N9:Int):=by omega
    clear y0 y1 y2 y3 x0 x1 x2 x3 hpr RY RX hxc
    generalize wc=wa at *
    go_upto_region 13 with fail
    go_cut [15,16] from 18 to 94 (λ d e wx=>∃ (gB:Nat) (za:Option Addr) (zc:Nat) (fz:List Nat),d=.pointer (some ⟨gB,0,none⟩)/\e=.bool fine/\wx.heap[gB]?=some (.cells #[.int .i64 z.kind,.string z.text,.bool z.spaced,.slice za z.hidden.length zc] 57 (0,0))/\wa.heap.size<=gB/\gB<wx.heap.size/\sTok.R wx [.int .i64 z.kind,.string z.text,.bool z.spaced,.slice za z.hidden.length zc] z fz/\(∀ b∈fz,wa.heap.size<=b)/\Below wa.heap.size wa wx)
    case first =>
     refine wp_region_noPanic ?_
     refine wp_region_held_drew (S:=λ w'=>w'.cell? ⟨g,(N-1) * 4,none⟩=some (.int .i64 y.d.kind)/\w'.cell? ⟨g,(N-1) * 4+1,none⟩=some (.string y.d.text)/\w'.cell? ⟨g,(N-1) * 4+2,none⟩=some (.bool y.d.spaced)/\w'.cell? ⟨g,(N-1) * 4+3,none⟩=some (.slice ya y.d.hidden.length yc)/\w'.cell? ⟨g9,0,none⟩=some (.int .i64 x.d.kind)/\w'.cell? ⟨g9,1,none⟩=some (.string x.d.text)/\w'.cell? ⟨g9,2,none⟩=some (.bool x.d.spaced)/\w'.cell? ⟨g9,3,none⟩=some (.slice xa x.d.hidden.length xc)) (by kernel_rfl) (by exact HSS.out _ hcs) (λ hHeld=>?_)
     generalize wa.drew=wd at *
     refine Qt 0 58 rfl rfl ?_
     try simp only [Qp]
     refine Qt 1 59 rfl rfl ?_
     try simp only [Qp]
     refine Qt 2 60 rfl rfl ?_
     try simp only [Qp]
     refine Qt 3 61 rfl rfl ?_
     try simp only [Qp]
     refine Qt 4 62 rfl rfl ?_
     try simp only [Qp]
     refine Qt 5 63 rfl rfl ?_ (by intro w hSw;obtain⟨s0,s1,s2,s3,t0,t1,t2,t3⟩:=hSw;go_simp;(first | done | with_reducible rfl | rfl))
     try simp only [Qp]
     refine Qt 6 64 rfl rfl ?_
     try simp only [Qp]
     refine Qt 7 65 rfl rfl ?_
     try simp only [Qp]
     refine Qt 8 66 rfl rfl ?_ (by intro w hSw;obtain⟨s0,s1,s2,s3,t0,t1,t2,t3⟩:=hSw;go_simp;(first | done | with_reducible rfl | rfl))
     try simp only [Qp]
     refine wpAnyH_ready (rs:=[9,13]) (by kernel_rfl) (by simp) ?_
     refine AllReadyH.cons rfl (λ K hK=>?_) ?_
     ·skip
      go_simp
      refine (HPT2.out _ hcs).mono ?_
      rintro e wx1 ⟨czs,fz,rfl,rZ,oZ,brz⟩
      obtain⟨hz,rfl,-,-,KZ⟩:=id rZ
      obtain⟨za,zc,rfl,-⟩:=Zaf KZ
      clear KZ
      have hx1:=hcs.trans (brz.mono hcs.size)
      replace oZ:=oZ.lower hcs.size
      refine hK.out _ _ (HSS.out _ hx1) (λ hHeld=>?_)
      clear hK K
      try simp only [Qp]
      refine Qt 10 57 rfl rfl ?_
      try simp only [Qp]
      refine Qt 11 68 rfl rfl ?_
      try simp only [Qp]
      refine Qt 12 69 rfl rfl ?_
      try simp only [Qp]
      refine Qr 13 rfl (λ K hK=>?_)
      go_simp
      have bk:=Zab wx1 (.cells #[.int .i64 0,.string ⟨#[]⟩,.bool false,.slice none 0 0] 57)
      have HBX:=Qh (heap_alloc_new wx1 (.cells #[.int .i64 0,.string ⟨#[]⟩,.bool false,.slice none 0 0] 57))
      have hx2:=hx1.trans (bk.mono hx1.size)
      have hge:=hx1.size
      replace rZ:=sTok.below rZ bk
      have hnz:wx1.heap.size∉fz:=λ h=>Nat.lt_irrefl _ (oZ.lt _ h)
      replace oZ:=oZ.grow bk
      refine hK.out _ _ (HSS.out _ hx2) (λ hHeld=>?_)
      clear hK K bk
      try simp only [Qp]
      generalize (wx1.alloc (.cells #[.int .i64 0,.string ⟨#[]⟩,.bool false,.slice none 0 0] 57))=wx2 at *
      have zc0:=Qc 0 HBX.out
      have zf0:=Qf 0 HBX.out
      have zc1:=Qc 1 HBX.out
      have zf1:=Qf 1 HBX.out
      have zc2:=Qc 2 HBX.out
      have zf2:=Qf 2 HBX.out
      have zc3:=Qc 3 HBX.out
      have zf3:=Qf 3 HBX.out
      have HDN:=Qh (Zfs HBX.out hge rZ oZ hnz hx2 (.int .i64 z.kind) (.string z.text) (.bool z.spaced) (.slice za z.hidden.length zc))
      refine Qr 14 rfl (λ K hK=>?_)
      go_simp
      change K _ (set4 wx2 (wx1.heap.size) (.int .i64 z.kind) (.string z.text) (.bool z.spaced) (.slice za z.hidden.length zc))
      refine hK.out _ _ (HSS.out _ HDN.out.2.2.2.2.2) (λ hHeld=>?_)
      clear hK K
      try simp only [Qp]
      refine Qt 15 16 rfl rfl ?_
      try simp only [Qp]
      refine wpAnyH_done (by kernel_rfl) ?_ _
      refine NoPanic.normal ?_
      clear hHeld
      go_wp2
      go_meet
      case rel=>exact⟨_,za,zc,_,rfl,rfl,HDN.out.1,HDN.out.2.1,HDN.out.2.2.1,HDN.out.2.2.2.1,λ b hb=>(HDN.out.2.2.2.2.1.2 b hb).1,HDN.out.2.2.2.2.2⟩
     refine AllReadyH.cons rfl (λ K hK=>?_) AllReadyH.nil
     go_simp
     have bk:=Zab wd (.cells #[.int .i64 0,.string ⟨#[]⟩,.bool false,.slice none 0 0] 57)
     have HBX:=Qh (heap_alloc_new wd (.cells #[.int .i64 0,.string ⟨#[]⟩,.bool false,.slice none 0 0] 57))
     have hx3:=hcs.trans (bk.mono hcs.size)
     have hge:=hcs.size
     refine hK.out _ _ (HSS.out _ hx3) (λ hHeld=>?_)
     clear hK K bk
     try simp only [Qp]
     generalize (wd.alloc (.cells #[.int .i64 0,.string ⟨#[]⟩,.bool false,.slice none 0 0] 57))=wx3 at *
     refine Qr 9 rfl (λ K hK=>?_)
     go_simp
     refine (HPT2.out _ hx3).mono ?_
     rintro e wx4 ⟨czs,fz,rfl,rZ,oZ,brz⟩
     obtain⟨hz,rfl,-,-,KZ⟩:=id rZ
     obtain⟨za,zc,rfl,-⟩:=Zaf KZ
     clear KZ
     have hx4:=hx3.trans (brz.mono hx3.size)
     have hnz:wd.heap.size∉fz:=λ h=>by have h1:=(oZ.2 _ h).1;have h2:=mlt HBX.out;omega
     replace HBX:=Qh (mbox HBX.out brz)
     replace oZ:=oZ.lower hx3.size
     refine hK.out _ _ (HSS.out _ hx4) (λ hHeld=>?_)
     clear hK K
     try simp only [Qp]
     refine Qt 10 57 rfl rfl ?_
     try simp only [Qp]
     refine Qt 11 68 rfl rfl ?_
     try simp only [Qp]
     refine Qt 12 69 rfl rfl ?_
     try simp only [Qp]
     have zc0:=Qc 0 HBX.out
     have zf0:=Qf 0 HBX.out
     have zc1:=Qc 1 HBX.out
     have zf1:=Qf 1 HBX.out
     have zc2:=Qc 2 HBX.out
     have zf2:=Qf 2 HBX.out
     have zc3:=Qc 3 HBX.out
     have zf3:=Qf 3 HBX.out
     have HDN:=Qh (Zfs HBX.out hge rZ oZ hnz hx4 (.int .i64 z.kind) (.string z.text) (.bool z.spaced) (.slice za z.hidden.length zc))
     refine Qr 14 rfl (λ K hK=>?_)
     go_simp
     change K _ (set4 wx4 (wd.heap.size) (.int .i64 z.kind) (.string z.text) (.bool z.spaced) (.slice za z.hidden.length zc))
     refine hK.out _ _ (HSS.out _ HDN.out.2.2.2.2.2) (λ hHeld=>?_)
     clear hK K
     try simp only [Qp]
     refine Qt 15 16 rfl rfl ?_
     try simp only [Qp]
     refine wpAnyH_done (by kernel_rfl) ?_ _
     refine NoPanic.normal ?_
     clear hHeld
     go_wp2
     go_meet
     case rel=>exact⟨_,za,zc,_,rfl,rfl,HDN.out.1,HDN.out.2.1,HDN.out.2.2.1,HDN.out.2.2.2.1,λ b hb=>(HDN.out.2.2.2.2.1.2 b hb).1,HDN.out.2.2.2.2.2⟩
    obtain⟨gB,za,zc,fz,rfl,rfl,HZB0,hgB1,hgB2,RZ,hfz,hbz⟩:=hcut
    generalize wc=wb at *
    have HZB:=Qh HZB0
    have hBb:=hB3.trans (hbz.mono hB3.size)
    replace HR:=Qh (HR.out.below hbz)
    replace HXr:=Qh (mbox HXr.out hbz)
    have HRDb:=Qh ((Zaa sTok).below HRD.out hbz)
    have HP3:Hid (Zas ((L.map (·.d)).getLastD zTok) (P.headD zTok)=(z,fine)):=by show _=_;rw [HYX.out.1,HYX.out.2];exact HPR.out
    clear HZB0 HPT2 HSS hcs HRD
    cases fine
    ·have HF:=Qh (HGO.out.trans (Zh8 hlt HMK.out HPP.out HCD.out HP3.out))
     go_wp2
     go_ret2
     exact ZjL HF.out hBb
    have HNX:=Qh (HGO.out.trans (Zgy hlt HMK.out HPP.out HCD.out HP3.out))
    have HZH:Hid (z.hidden.length<=60):=by show _<=_;have:=(Zfv HPR.out).2.2.2.2.2;omega
    have hgx:g∉fz:=λ h=>by have:=hfz _ h;omega
    have hgf:g∉fp9:=λ h=>HMI.out g h rfl
    have hgw2:w.heap.size≠g:=λ h=>HNB.out (by rw [h];rfl)
    obtain⟨z0,z1,z2,z3⟩:=Q4 HZB.out
    have y0:wb.cell? ⟨g,(N-1) * 4,none⟩=some (.int .i64 y.d.kind):=HR.out.cellAt hNl (j:=0) (by decide) (by rw [← hyd.out,hyc];rfl)
    have y1:wb.cell? ⟨g,(N-1) * 4+1,none⟩=some (.string y.d.text):=HR.out.cellAt hNl (j:=1) (by decide) (by rw [← hyd.out,hyc];rfl)
    have y2:wb.cell? ⟨g,(N-1) * 4+2,none⟩=some (.bool y.d.spaced):=HR.out.cellAt hNl (j:=2) (by decide) (by rw [← hyd.out,hyc];rfl)
    have y3:wb.cell? ⟨g,(N-1) * 4+3,none⟩=some (.slice ya y.d.hidden.length yc):=HR.out.cellAt hNl (j:=3) (by decide) (by rw [← hyd.out,hyc];rfl)
    have f0:wb.frozen? ⟨g,(N-1) * 4,none⟩=false:=HR.out.frozen _
    have f1:wb.frozen? ⟨g,(N-1) * 4+1,none⟩=false:=HR.out.frozen _
    have f2:wb.frozen? ⟨g,(N-1) * 4+2,none⟩=false:=HR.out.frozen _
    have f3:wb.frozen? ⟨g,(N-1) * 4+3,none⟩=false:=HR.out.frozen _
    have HPUT:Hid (RowN sTok w.heap.size 57 (.slice (some ⟨g,0,none⟩) N co) (L.set (N-1) ⟨[.int .i64 z.kind,.string z.text,.bool z.spaced,.slice za z.hidden.length zc],z,fz⟩) ((((wb.setCell ⟨g,(N-1) * 4,none⟩ (.int .i64 z.kind)).setCell ⟨g,(N-1) * 4+1,none⟩ (.string z.text)).setCell ⟨g,(N-1) * 4+2,none⟩ (.bool z.spaced)).setCell ⟨g,(N-1) * 4+3,none⟩ (.slice za z.hidden.length zc))):=HR.out.put hNl ⟨[.int .i64 z.kind,.string z.text,.bool z.spaced,.slice za z.hidden.length zc],z,fz⟩ rfl RZ hgx
    have HRQ:Hid ((Zaa sTok).R ((((wb.setCell ⟨g,(N-1) * 4,none⟩ (.int .i64 z.kind)).setCell ⟨g,(N-1) * 4+1,none⟩ (.string z.text)).setCell ⟨g,(N-1) * 4+2,none⟩ (.bool z.spaced)).setCell ⟨g,(N-1) * 4+3,none⟩ (.slice za z.hidden.length zc)) [.slice (some ⟨g9,0,none⟩) N9 c9] P fp9):=(Zaa sTok).setB ((Zaa sTok).setB ((Zaa sTok).setB ((Zaa sTok).setB HRDb.out hgf _ _) hgf _ _) hgf _ _) hgf _ _
    have HXQ:=Qh (Zaw (Zaw (Zaw (Zaw HXr.out hgw2 ((N-1) * 4) (.int .i64 z.kind)) hgw2 ((N-1) * 4+1) (.string z.text)) hgw2 ((N-1) * 4+2) (.bool z.spaced)) hgw2 ((N-1) * 4+3) (.slice za z.hidden.length zc))
    have hBQ:Below w.heap.size w ((((wb.setCell ⟨g,(N-1) * 4,none⟩ (.int .i64 z.kind)).setCell ⟨g,(N-1) * 4+1,none⟩ (.string z.text)).setCell ⟨g,(N-1) * 4+2,none⟩ (.bool z.spaced)).setCell ⟨g,(N-1) * 4+3,none⟩ (.slice za z.hidden.length zc)):=(((hBb.setCell (p:=⟨g,(N-1) * 4,none⟩) hgw (.int .i64 z.kind)).setCell (p:=⟨g,(N-1) * 4+1,none⟩) hgw (.string z.text)).setCell (p:=⟨g,(N-1) * 4+2,none⟩) hgw (.bool z.spaced)).setCell (p:=⟨g,(N-1) * 4+3,none⟩) hgw (.slice za z.hidden.length zc)
    go_upto_region 17 with fail
    clear z0 z1 z2 z3 y0 y1 y2 y3 f0 f1 f2 f3 HZB HR HXr HRDb hBb RZ
    generalize ((((wb.setCell ⟨g,(N-1) * 4,none⟩ (.int .i64 z.kind)).setCell ⟨g,(N-1) * 4+1,none⟩ (.string z.text)).setCell ⟨g,(N-1) * 4+2,none⟩ (.bool z.spaced)).setCell ⟨g,(N-1) * 4+3,none⟩ (.slice za z.hidden.length zc))=wq at *
    obtain⟨sv,HSV⟩:∃ sv:Value,Hid (sv=.slice (if c9=1 then some ⟨g9,0,none⟩ else some ⟨g9,4,none⟩) (N9-1) (c9-1)):=⟨_,Qh rfl⟩
    have o1:(1:Int)<=(N9:Int):=by omega
    have o2:1<=N9:=h90
    have o3:1<=c9:=by omega
    have o4:(1:Int)<=(c9:Int):=by omega
    go_cut [12] from 18 to 94 (λ d wx=>d=sv/\wx=wq)
    case first =>
     by_cases h1:c9=1
     ·have HSV1:Hid (sv=.slice (some ⟨g9,0,none⟩) (N9-1) (c9-1)):=by show _=_;rw [HSV.out,if_pos h1]
      have HC1:=Qh h1
      go_wp2
      go_meet
      case rel=>exact⟨by rw [HSV1.out];simp [HC1.out],by trivial⟩
     ·have HSV1:Hid (sv=.slice (some ⟨g9,4,none⟩) (N9-1) (c9-1)):=by show _=_;rw [HSV.out,if_neg h1]
      go_wp2
      go_meet
      case rel=>exact⟨by rw [HSV1.out],by trivial⟩
    obtain⟨rfl,rfl⟩:=hcut
    obtain⟨fps,RS0,hfs⟩:=Za0 1 (by have:=HPL.out;have:=HN9.out;omega:1<=P.length) HRQ.out
    have HRS:Hid ((Zaa sTok).R wc [u12] (P.drop 1) fps):=by show (Zaa sTok).R _ _ _ _;rw [HSV.out];exact RS0
    have HMS:Hid (∀ b∈fps,(Value.slice (some ⟨g,0,none⟩) N co).ownBlock≠some b):=λ b hb=>HMI.out b (hfs b hb)
    have hPd:(P.drop 1).length=N9-1:=by rw [List.length_drop];have:=HPL.out;have:=HN9.out;omega
    have HPD:=Qh hPd
    have hNk:N<=61 * k:=HLL.out
    have hls:Hid ((L.set (N-1) ⟨[.int .i64 z.kind,.string z.text,.bool z.spaced,.slice za z.hidden.length zc],z,fz⟩).length=N):=by show _=_;rw [List.length_set];exact HN.out.symm
    obtain⟨M,HM⟩:∃ M,Hid (M=L.set (N-1) ⟨[.int .i64 z.kind,.string z.text,.bool z.spaced,.slice za z.hidden.length zc],z,fz⟩):=⟨L.set (N-1) ⟨[.int .i64 z.kind,.string z.text,.bool z.spaced,.slice za z.hidden.length zc],z,fz⟩,Qh rfl⟩
    rw [show L.set (N-1) ⟨[.int .i64 z.kind,.string z.text,.bool z.spaced,.slice za z.hidden.length zc],z,fz⟩=M from HM.out.symm] at HPUT hls
    clear hPd RS0 hfs HRQ
    go_wp2_with (at_builtin;refine Zbh ti_tok rfl (by decide) ZaE wc rfl (.tmp 91) (.tmp 92) rfl w.heap.size (.slice (some ⟨g,0,none⟩) N co) (u12) (P.drop 1) fps rfl HPUT.out rfl HRS.out HMS.out (by rw [hls.out,HPD.out];unfold maxLen;omega) (by rw [hls.out,HPD.out];omega) hBQ.size ?_;intro v5 X w5 hX hXf hR5 hg5 hp5)
    have hb5:Below w.heap.size w w5:=hBQ.grown hg5 hBQ.size (λ b hb=>(HPUT.out.mine b hb).1)
    have HX5:=Qh ((hg5.block w.heap.size (mlt HXQ.out) (λ e=>HNB.out e.symm)).trans HXQ.out)
    have HNB5:Hid (v5.ownBlock≠some w.heap.size):=λ e=>by
     rcases hp5 with h | h
     ·rw [h] at e;exact HNB.out e
     ·rw [h] at e;have:=mlt HXQ.out;simp only [Qi] at e;omega
    have hXl:X.length=N9-1:=by have:=congrArg List.length hX;rw [List.length_map] at this;rw [this];exact HPD.out
    have HGO5:Hid (subGo m raw ready 0 [] true false=subGo m raw ready nx ((M++X).map (·.d)) false false):=by
     show _=_
     rw [HNX.out]
     congr 1
     rw [List.map_append,hX,HM.out,List.map_set,show N-1=(L.map (·.d)).length-1 by rw [List.length_map];have:=HN.out;omega,set_last (by intro h;have:=congrArg List.length h;rw [List.length_map] at this;rw [List.length_nil] at this;omega),List.append_assoc,List.drop_one];rfl
    have HEM5:Hid (false=false->0<(M++X).length):=λ _=>by rw [List.length_append,hls.out];omega
    have HLL5:Hid ((M++X).length<=61 * nx):=by show _<=_;rw [List.length_append,hls.out,hXl];have:=HS.out.2.2.1;omega
    have HHD5:Hid (∀ x∈M++X,x.d.hidden.length<=60):=λ x hx=>by
     rcases Qa hx with hx | hx
     ·rw [HM.out] at hx
      rcases List.mem_or_eq_of_mem_set hx with hx | rfl
      ·exact HHD.out x hx
      ·exact HZH.out
     ·have hm:x.d∈P.drop 1:=by rw [← hX];exact List.mem_map.2 ⟨x,hx,rfl⟩
      exact HS.out.2.2.2 x.d (List.mem_of_mem_drop hm)
    have HR5:=Qh hR5
    have hnx:=HS.out.2.1
    have hnk:=HS.out.2.2.1
    clear hX hXf hR5 hg5 hp5
    go_wp2
    go_roundw
    case rel=>exact⟨nx,M++X,false,false,hnx,by trivial,by trivial,by trivial,HR5.out,HNB5.out,HGO5.out,HEM5.out,HLL5.out,HHD5.out,HX5.out,hb5⟩
    case measure=>simp [intOf];omega
  ·have HF:Hid (subGo m raw ready 0 [] true false=(L.map (·.d),true)):=by show _=_;rw [HGO.out,Zd4 (by omega)]
   have HLB:Hid (L.length<=5000):=by show _<=_;have:=HLL.out;have:=HN.out;omega
   go_wp2
   go_ret2
   exact⟨.slice ao N co,L,by rw [HF.out];rfl,HR.out,by rw [HF.out],HLB.out,HHD.out,hb⟩
/-! ### Marks and parameters in a valid body -/
theorem ZnP {t:Tok} (h:tokOk t=true) {r:List UInt8} (ht:t.text=⟨(35::r).toArray⟩):t.kind=4:=by
 obtain⟨⟨h0,hk⟩,-⟩:=Zaz h
 have e0:t.text[0]=35:=by
  have:∀ (s:ByteArray) (hs:0<s.size),s=⟨(35::r).toArray⟩->s[0]=35:=by rintro s hs rfl;rfl
  exact this _ h0 ht
 rw [hk,e0]
 decide
theorem isM_is {t:Tok} (h:tokOk t=true) (r:List UInt8):isM t (35::r)=(t.text.toList==35::r):=by
 unfold isM
 cases e:(t.text.toList==35::r)
 ·rw [Bool.and_false]
 ·rw [Zdo] at e
  rw [ZnP h (of_decide_eq_true e)];rfl
theorem Zml {m:DMacro} (h:macOk m=true) {k:Nat} (hk:k<m.body.length):tokOk m.body[k]=true:=(ZbW hk ((ZaD h).2.2 k hk)).1
theorem ZfB {m:DMacro} (h:macOk m=true) {k:Nat} (hk:k<m.body.length) (r:List UInt8):isM m.body[k] (35::r)=(m.body[k].text.toList==35::r):=isM_is (Zml h hk) r
theorem mark_in {m:DMacro} (h:macOk m=true) {k:Nat} (hk:k<m.body.length) (hi:isM m.body[k] [35,35]=true):k+1<m.body.length:=by
 have hb:=(ZaD h).2.2 k hk
 have ht:m.body[k].text=hash2:=Zfz hi
 unfold bodOk at hb
 rw [dif_pos hk,Bool.and_eq_true,Bool.and_eq_true] at hb
 have h2:=hb.1.2
 rw [ht,decide_eq_true rfl] at h2
 by_cases e:k+1=m.body.length
 ·rw [decide_eq_true e] at h2;simp at h2
 ·omega
theorem idx_par {ps:List ByteArray} {t:Tok} (hp:∀ k,(hk:k<ps.length)->Zak ps[k] 1=true) (ht:tokOk t=true) (k:Nat):idxTx ps t.text k=parFrom ps t k:=by
 induction k using idxTx.induct (ps:=ps) (x:=t.text) with
 |
  case1 k h hc =>
  have h5:=ht
  unfold tokOk at h5
  rw [Bool.and_eq_true] at h5
  have hk:t.kind=1:=Zhb h5.1 (by rw [hc];exact hp k h)
  rw [ZiC h hc,Zl2 h hk hc.symm]
 |
  case2 k h hc ih =>
  rw [Zhc h hc,ih,Zha h λ e=>hc e.2.symm]
 | case3 k h=>rw [ZiB (by omega),Zl1 (by omega)]
theorem Zk7 {m:DMacro} (h:macOk m=true) {k:Nat} (hk:k<m.body.length):idxTx m.params m.body[k].text 0=parOf m.params m.body[k]:=idx_par (ZaD h).2.1 (Zml h hk) 0
def besL (l:List Tok) (k:Nat):Bool:=if h:0<k/\k-1<l.length then (l[k-1].text.toList==[35,35]) else false
def besR (l:List Tok) (k:Nat):Bool:=if h:k+1<l.length then (l[k+1].text.toList==[35,35]) else false
theorem bes_glue {m:DMacro} (h:macOk m=true) (k:Nat):(besL m.body k || besR m.body k)=(glueL m k || glueR m k):=by
 have e1:besL m.body k=glueL m k:=by
  unfold besL glueL
  by_cases hk:0<k/\k-1<m.body.length
  ·rw [dif_pos hk,dif_pos hk,ZfB h hk.2]
  ·rw [dif_neg hk,dif_neg hk]
 have e2:besR m.body k=glueR m k:=by
  unfold besR glueR
  by_cases hk:k+1<m.body.length
  ·rw [dif_pos hk,dif_pos hk,ZfB h hk]
  ·rw [dif_neg hk,dif_neg hk]
 rw [e1,e2]
/-! ### Rows that are the call's own, elements and all -/
theorem Zgj {α:Type} (A X:List (Elem α)):(A++X).flatMap (·.fp)=A.flatMap (·.fp)++X.flatMap (·.fp):=List.flatMap_append
theorem Zcd {w w':World} {lo:Nat} {fp:List Nat} {o:Option Nat} (h:Own w lo fp) (hn:∀ b∈fp,o≠some b) (hg:w.grownBy w' o):Own w' lo fp:=
 ⟨h.1,λ b hb=>by
  obtain⟨q1,cur,e,q2⟩:=h.2 b hb
  exact⟨q1,cur,e,(hg.block b (h.lt b hb) λ e=>hn b hb e.symm).trans q2⟩⟩
theorem ZjM {α:Type} {L M:List (Elem α)} (h:M.Sublist L):(M.flatMap (·.fp)).Sublist (L.flatMap (·.fp)):=by
 induction h with
 | slnil=>exact List.Sublist.refl _
 | cons a _ ih=>rw [List.flatMap_cons];exact ih.trans (List.sublist_append_right _ _)
 | cons_cons a _ ih=>rw [List.flatMap_cons,List.flatMap_cons];exact(List.Sublist.refl _).append ih
theorem Zif {w w':World} {o:Option Nat} (hg:w.grownBy w' o):Kept o.toList w w':=⟨hg.os,hg.tape,hg.output,hg.size,λ k hk hn=>hg.block k hk λ e=>hn (by rw [← e];simp)⟩
def MineN (l:List Tok) (w:World) (e:Ending) (w':World):Prop:=
 ∃ (v:Value) (L:List (Elem Tok)),e=.returned v/\RowN sTok w.heap.size 57 v L w'/\L.map (·.d)=l/\Own w' w.heap.size (L.flatMap (·.fp))/\Below w.heap.size w w'
def Asc (l:List DMacro):Prop:=l.Pairwise λ a b=>sLess a.name b.name=true
theorem ZeH {l:List DMacro} (h:tabOk l=true):l.length<=10/\(∀ m∈l,macOk m=true)/\Asc l:=by
 refine ⟨(Zek h).1,λ m hm=>?_,?_⟩
 ·obtain⟨j,hj,rfl⟩:=List.getElem_of_mem hm
  have:=(Zek h).2 j hj
  unfold tabAt at this
  rw [dif_pos hj] at this
  exact(Bool.and_eq_true_iff.1 this).1
 ·unfold Asc
  rw [List.pairwise_iff_getElem]
  exact λ i j hi hj hij=>Zko h hij hj
def Tx (t:Tok):Prop:=Zak t.text t.kind=true
theorem Tx.bare {t:Tok} (h:Tx t):tokOk ⟨t.kind,t.text,t.spaced,[]⟩=true:=by
 unfold tokOk
 rw [show Zak t.text t.kind=true from h]
 rfl
theorem Tx.of {t:Tok} (h:tokOk t=true):Tx t:=by
 unfold tokOk at h
 exact(Bool.and_eq_true_iff.1 h).1
theorem Tx.toks {l:List Tok} (h:Zaj l=true):∀ t∈l,Tx t:=λ t ht=>by
 obtain⟨k,hk,rfl⟩:=List.getElem_of_mem ht
 exact Tx.of ((Zam h).2 k hk)
theorem tx_kind {t:Tok} (h:Tx t) {c:UInt8} {l:List UInt8} (e:t.text=⟨(c::l).toArray⟩):t.kind=cutKind c:=ZnD (t:=⟨t.kind,t.text,t.spaced,[]⟩) h.bare e
theorem ZgA {t:Tok} (h:Tx t) {c:UInt8} (hc:cutKind c=4):isM t [c]=(t.text.toList==[c]):=by
 unfold isM
 cases e:(t.text.toList==[c])
 ·rw [Bool.and_false]
 ·rw [tx_kind h (txt_eq e),hc];rfl
theorem Zmm {t:Tok} (h:Tx t):isM t [40]=Zcs t:=ZgA h (by decide)
theorem tx_opn {t:Tok} (h:Tx t):opnK t=opn t:=by
 unfold opnK opn
 rw [Zmm h,show isM t [41]=Zen t from ZgA h (by decide)]
theorem ZgB:∀ (l:List Tok) (d:Int) (A:Args) (M:List Tok) (k:Nat),(∀ t∈l,Tx t)->splK l d A M k=spGo l d A M k
 | [],_,_,_,_,_=>rfl
 |
  t::r,d,A,M,k,h=>by
  have hr:∀ u∈r,Tx u:=λ u hu=>h u (by simp [hu])
  unfold splK spGo
  rw [tx_opn (h t (by simp)),show isM t [44]=isCom t from ZgA (h t (by simp)) (by decide),ZgB r _ _ _ _ hr,ZgB r _ _ _ _ hr]
def Zdb (l:List Tok) (n:Nat):Args × Int × Bool:=
 match clGo (l.drop (n+1)) 1 (n+1) with
 | none=>([],0,false)
 | some e=>(dvGo ((l.drop (n+1)).take (e-(n+1))) 0 [] [],((e+1:Nat):Int),true)
theorem Zg1 {l:List Tok} {n:Nat} (h:clGo (l.drop (n+1)) 1 (n+1)=none):Zdb l n=([],0,false):=by unfold Zdb;rw [h]
theorem Zg2 {l:List Tok} {n e:Nat} (h:clGo (l.drop (n+1)) 1 (n+1)=some e):Zdb l n=(dvGo ((l.drop (n+1)).take (e-(n+1))) 0 [] [],((e+1:Nat):Int),true):=by unfold Zdb;rw [h]
theorem ZnQ {l:List Tok} (h:∀ t∈l,Tx t) {A:Args} {e:Nat} (hs:splK (l.drop 2) 1 [] [] 2=(A,e,false)):Zdb l 1=([],0,false):=by
 rw [ZgB _ _ _ _ _ (λ t ht=>h t (List.mem_of_mem_drop ht))] at hs
 have:=sp_dv (l.drop 2) 0 [] [] 2
 rw [show (0:Int)+1=1 from rfl] at this
 cases hc:clGo (l.drop 2) 1 2 with
 | none=>exact Zg1 hc
 | some e'=>rw [hc] at this;simp only at this;rw [this] at hs;simp at hs
theorem Zm0 {l:List Tok} (h:∀ t∈l,Tx t) {A:Args} {e:Nat} (hs:splK (l.drop 2) 1 [] [] 2=(A,e,true)):Zdb l 1=(A,(e:Int),true):=by
 rw [ZgB _ _ _ _ _ (λ t ht=>h t (List.mem_of_mem_drop ht))] at hs
 have:=sp_dv (l.drop 2) 0 [] [] 2
 rw [show (0:Int)+1=1 from rfl] at this
 cases hc:clGo (l.drop 2) 1 2 with
 | none=>rw [hc] at this;simp only at this;rw [hs] at this;simp at this
 |
  some e' =>
  rw [hc] at this;simp only at this
  rw [this] at hs
  simp only [Prod.mk.injEq,and_true] at hs
  obtain⟨rfl,rfl⟩:=hs
  exact Zg2 hc
/-! ### What is put in are tokens -/
theorem Zig {b:Bool}:∀ {l:List Tok},(∀ t∈l,tokOk t=true)->∀ t∈spc b l,tokOk t=true
 | [],_,t,ht=>by simp [spc] at ht
 |
  x::r,h,t,ht=>by
  rcases List.mem_cons.1 ht with rfl | ht
  ·exact h x (by simp)
  ·exact h t (by simp [ht])
theorem ZjN {m:DMacro} {a:List (List Tok)} (h:Zau m a=true):∀ l∈a,∀ t∈l,tokOk t=true:=λ l hl t ht=>by
 unfold Zau at h
 rw [Bool.and_eq_true,List.all_eq_true] at h
 have:=h.2 l hl
 obtain⟨k,hk,rfl⟩:=List.getElem_of_mem ht
 exact(Zam this).2 k hk
theorem part_ok {m:DMacro} {raw ready:List (List Tok)} (hv:macOk m=true) (ha:∀ l∈raw,∀ t∈l,tokOk t=true) (hy:∀ l∈ready,∀ t∈l,tokOk t=true) (k:Nat) (hok:(ZaA m raw ready k).2.2=true):∀ t∈(ZaA m raw ready k).1,tokOk t=true:=by
 intro t ht
 unfold ZaA at ht hok
 split at ht
 ·rename_i hk
  rw [dif_pos hk] at hok
  split at ht
  ·rename_i hf
   rw [if_pos hf] at hok
   split at ht
   ·rename_i hk2
    rw [dif_pos hk2] at hok
    rw [Qm ht]
    obtain⟨kk,s,b,hx,-⟩:=Zdy (argAt raw (parOf m.params m.body[k+1]))
    have hok':(ZaN (argAt raw (parOf m.params m.body[k+1]))).2=true:=hok
    rcases hz:ZaN (argAt raw (parOf m.params m.body[k+1])) with⟨z,o⟩
    rw [hz] at hok'
    have hok2:o=true:=hok'
    subst hok2
    exact(txt_back hz).1
   ·simp at ht
  ·split at ht
   ·rw [Qm ht];exact(ZbW hk ((ZaD hv).2.2 k hk)).1
   ·split at ht
    ·exact Zig (ZeF ha _) t ht
    ·exact Zig (ZeF hy _) t ht
 ·simp at ht
theorem subGo_ok {m:DMacro} {raw ready:List (List Tok)} (hv:macOk m=true) (ha:∀ l∈raw,∀ t∈l,tokOk t=true) (hy:∀ l∈ready,∀ t∈l,tokOk t=true):∀ (d k:Nat) (out:List Tok) (emp paste:Bool),m.body.length-k<=d->(∀ t∈out,tokOk t=true)->∀ t∈(subGo m raw ready k out emp paste).1,tokOk t=true:=by
 intro d
 induction d with
 | zero=>intro k out emp paste hd ho;rw [Zd4 (by omega)];exact ho
 |
  succ d ih =>
  intro k out emp paste hd ho
  by_cases hk:k<m.body.length
  rotate_left
  ·rw [Zd4 (by omega)];exact ho
  by_cases h1:isM m.body[k] [35,35]=true/\paste=false
  ·obtain⟨h1,rfl⟩:=h1
   rw [Zfx hk h1]
   exact ih _ _ _ _ (by omega) ho
  have hP2:=part_ok hv ha hy k
  have hnx:=ZeC m raw ready k
  rcases hP:ZaA m raw ready k with⟨P,nx,ok⟩
  rw [hP] at hP2 hnx
  have hnx':k<nx:=hnx
  cases ok
  ·rw [Ze9 hk h1 hP];simp
  have hP2':∀ t∈P,tokOk t=true:=hP2 rfl
  by_cases h2:paste=true/\emp=false/\0<P.length
  ·rcases hz:Zas (out.getLastD zTok) (P.headD zTok) with⟨z,fine⟩
   cases fine
   ·rw [Zh8 hk h1 hP h2 hz];simp
   ·rw [Zgy hk h1 hP h2 hz]
    refine ih _ _ _ _ (by omega) λ t ht=>?_
    rcases Qa ht with ht | ht
    ·exact ho t ((List.dropLast_sublist out).subset ht)
    ·rcases List.mem_cons.1 ht with rfl | ht
     ·exact(Zfv hz).1
     ·exact hP2' t (List.mem_of_mem_tail ht)
  ·rw [Zd5 hk h1 hP h2]
   refine ih _ _ _ _ (by omega) λ t ht=>?_
   rcases Qa ht with ht | ht
   ·exact ho t ht
   ·exact hP2' t ht
theorem sub_ok {m:DMacro} {raw ready:List (List Tok)}:∀ t∈(Zar m raw ready).1,tokOk t=true:=by
 unfold Zar
 split
 ·rename_i h
  split
  ·simp
  ·exact subGo_ok h.1 (ZjN h.2.1) (ZjN h.2.2) _ 0 [] true false (Nat.le_refl _) (by simp)
 ·simp
theorem spc_tx {b:Bool}:∀ {l:List Tok},(∀ t∈l,Tx t)->∀ t∈spc b l,Tx t
 | [],_,t,ht=>by simp [spc] at ht
 |
  x::r,h,t,ht=>by
  rcases List.mem_cons.1 ht with rfl | ht
  ·exact h x (by simp)
  ·exact h t (by simp [ht])
theorem putL_tx {l:List Tok} {h:List ByteArray} {sp:Bool} (hl:∀ t∈l,Tx t):∀ t∈putL l h sp,Tx t:=by
 refine spc_tx λ t ht=>?_
 obtain⟨u,hu,rfl⟩:=List.mem_map.1 ht
 exact hl u hu
theorem sub_tx {m:DMacro} {raw ready:List (List Tok)}:∀ t∈(Zar m raw ready).1,Tx t:=λ t ht=>Tx.of (sub_ok t ht)
theorem put_spc {h:List ByteArray} {b:Bool}:∀ {l:List Tok},(spc b l).map (putT h)=putL l h b
 | []=>rfl
 | _::_=>rfl
/-! ### The macro that is used -/
theorem ZnR {T:List DMacro} (hT:tabOk T=true) {t:Tok} (ht:Tx t) (h:isIn T t.text=true):t.kind=1:=by
 unfold isIn at h
 split at h
 ·rename_i hl
  have e:=Zcz h
  have hn:=(ZaD ((ZeH hT).2.1 _ (List.getElem_mem hl))).1.1
  rw [e] at hn
  exact Zhb ht hn
 ·simp at h
theorem tx_has (l:List ByteArray) (x:ByteArray):hasTx l x=hasN l x:=by
 unfold hasTx hasN
 induction l with
 | nil=>rfl
 |
  cons y r ih =>
  rw [List.any_cons,List.any_cons,ih]
  congr 1
  cases e:(y.toList==x.toList)
  ·simp only [decide_eq_false_iff_not]
   intro h;rw [ZaP h] at e;exact absurd e (by simp)
  ·simp only [decide_eq_true_eq]
   exact Zcz e
theorem find_out {T:List DMacro} (hT:tabOk T=true) {t:Tok} (h:isIn T t.text=false):findM T t=none:=by
 unfold findM
 rw [if_neg]
 intro h'
 have:=h'.2.2
 rw [Zfq hT,h] at this
 simp at this
theorem find_at {T:List DMacro} (hT:tabOk T=true) {t:Tok} (ht:Tx t) (h:isIn T t.text=true) (hh:hasN t.hidden t.text=false):∃ hl:lowAt T t.text<T.length,findM T t=some T[lowAt T t.text]:=by
 have hl:lowAt T t.text<T.length:=by
  unfold isIn at h
  split at h
  ·rename_i hl;exact hl
  ·simp at h
 refine ⟨hl,?_⟩
 unfold findM
 rw [if_pos ⟨ZnR hT ht h,hh,by rw [Zfq hT,if_pos h];omega⟩,Zfq hT,if_pos h]
 exact List.getElem?_eq_getElem hl
theorem goM_none {T:List DMacro} {t:Tok} {r:List Tok} (h:findM T t=none):goM T (t::r)=none:=by unfold goM;dsimp only;rw [h]
theorem goM_shut {T:List DMacro} {t:Tok} {r:List Tok} {m:DMacro} (h:findM T t=some m) (hf:m.function=true) (ho:Zfa r=false):goM T (t::r)=none:=by unfold goM;dsimp only;rw [h];dsimp only;rw [if_pos ⟨hf,ho⟩]
theorem goM_some {T:List DMacro} {t:Tok} {r:List Tok} {m:DMacro} (h:findM T t=some m) (hf:¬ (m.function=true/\Zfa r=false)):goM T (t::r)=some m:=by unfold goM;dsimp only;rw [h];dsimp only;rw [if_neg hf]
open Go.RowKit Go.Shelf
def insLay_ren:Go.Shelf.Ren:=⟨fun | 17=>155 | 22=>135 | 29=>145 | 30=>146 | 36=>153 | n=>n,fun | 0=>0 | 3=>3 | 4=>4 | 9=>9 | 24=>55 | n=>n,fun | n=>n⟩
theorem Zgk:Go.Proofs.Lays2.n22 Tryz.prog insLay_ren:={
 mixed:=by kernel_rfl
 f17:=Tryz.func155.trans (congrArg some (by kernel_rfl))
 f22:=Tryz.func135.trans (congrArg some (by kernel_rfl))
 f29:=Tryz.func145.trans (congrArg some (by kernel_rfl))
 f30:=Tryz.func146.trans (congrArg some (by kernel_rfl))
 f36:=Tryz.func153.trans (congrArg some (by kernel_rfl))
 t0:=Tryz.underlying0
 a0:=Tryz.isAgg0
 z0:=Tryz.sizeOf0
 v0:=Tryz.zeroValue0
 t3:=Tryz.underlying3
 a3:=Tryz.isAgg3
 z3:=Tryz.sizeOf3
 v3:=Tryz.zeroValue3
 t4:=Tryz.underlying4
 a4:=Tryz.isAgg4
 z4:=Tryz.sizeOf4
 v4:=Tryz.zeroValue4
 t9:=Tryz.underlying9
 a9:=Tryz.isAgg9
 z9:=Tryz.sizeOf9
 v9:=Tryz.zeroValue9
 t24:=Tryz.underlying55
 a24:=Tryz.isAgg55
 z24:=Tryz.sizeOf55
 v24:=Tryz.zeroValue55
 i9:=by kernel_rfl }
def InsPostS (base k:Nat) (v:Value) (l:List ByteArray) (x:ByteArray) (w:World) (e:Ending) (w':World):Prop:=
 ∃ v',e=.returned v'/\w'.ownsRow base 9 1 v' (l.take k++x::l.drop k).length ((l.take k++x::l.drop k).map Value.string)/\w.grownBy w' v.ownBlock
theorem Zdc (w:World) (arr:Array Value) (T:TypeId):(w.alloc (.cells arr T)).heap[w.heap.size]?=some (.cells arr T (0,0)):=by show (w.heap.push _)[_]?=_;simp
theorem Zih {g:Nat} {w w':World} (hK:Kept [g] w w'):w.grownBy w' (some g):=
 ⟨hK.os,hK.tape,hK.output,hK.size,λ b hb hn=>hK.block b hb (by simp;intro e;exact hn (by rw [e]))⟩
theorem one_str (l:List ByteArray):∀ u∈l.map Value.string,u.oneCell'=true:=λ u hu=>by
 obtain⟨s,_,rfl⟩:=List.mem_map.1 hu;rfl
theorem ZlP (base vb:Nat) (v:Value) (l:List ByteArray) (x:ByteArray) (k:Nat) (w:World) (hn:l.length<=1000000) (hk:k<=l.length) (H:w.ownsRow base 9 1 v l.length (l.map Value.string))
  (hvb:w.heap[vb]?=some (.cells #[.string x] 9 (0,0))) (hne:v.ownBlock≠some vb) (hbase:base<=w.heap.size) :
  Calls Tryz.prog 135 #[v,.int .i64 k,.slice (some ⟨vb,0,none⟩) 1 1] w (InsPostS base k v l x w):=by
 have hvs:∀ j u,([Value.string x]:List Value)[j]?=some u->w.cell? ⟨vb,0+j,none⟩=some u:=λ j u hj=>by rw [Nat.zero_add,cell_of_row w vb j _ _ _ hvb];simpa using hj
 have h1v:∀ u∈([Value.string x]:List Value),u.oneCell'=true:=by simp [Value.oneCell']
 have hlen:(l.take k++x::l.drop k).length=l.length+1:=by simp;omega
 have hmap:(l.take k++x::l.drop k).map Value.string=(l.take k).map Value.string++(Value.string x::(l.drop k).map Value.string):=by simp
 obtain⟨cs,hcs⟩:∃ cs,cs=l.map Value.string:=⟨_,rfl⟩
 have hcl:cs.length=l.length:=by rw [hcs];simp
 have htk:(l.take k).map Value.string=cs.take k:=by rw [hcs,List.map_take]
 have hdk:(l.drop k).map Value.string=cs.drop k:=by rw [hcs,List.map_drop]
 have h1c:∀ u∈cs,u.oneCell'=true:=by rw [hcs];exact one_str l
 rw [← hcs] at H
 have hg63:∀ c,grownCap w (l.length+1) c 9<=maxLen:=λ c=>grownCap_le_maxLen w (l.length+1) c 9 (by unfold maxLen;omega)
 have hgge:∀ c,l.length+1<=grownCap w (l.length+1) c 9:=λ c=>grownCap_ge w _ _ _
 -- a new row
 have newrow:∀ (W:World) (G:Nat) (cur:Array Value) (rest:List Value),W.heap[w.heap.size]?=some (.cells cur 9 (0,0))->l.length+1<=G->G<=maxLen->cur.size=G->cur.toList.take (l.length+1)=(l.take k++x::l.drop k).map Value.string ->
   W.ownsRow base 9 1 (.slice (some ⟨w.heap.size,0,none⟩) (l.length+1) G) (l.take k++x::l.drop k).length ((l.take k++x::l.drop k).map Value.string):=by
  intro W G cur _ h1 h2 h3 h4 h5
  rw [hlen]
  exact⟨by simp;omega,.inr ⟨w.heap.size,G,cur,rfl,hbase,h1,h2,h3,by rw [h4];omega,by rw [Nat.mul_one];exact h5⟩⟩
 rcases H.2 with⟨hv0,h0⟩ | ⟨g,c,cur0,hv0,q2,q3,q4,q5,q6,q7⟩
 ·
  subst hv0
  have hl0:l.length=0:=h0
  have hk0:k=0:=by omega
  subst hk0
  have C:=Any2.slices_Insert_string_end_grow Zgk (none:Option Addr) 0 0 vb 0 1 1 [] [Value.string x] w (by omega) (by omega) (by omega) (by omega) rfl rfl (λ _=>rfl) (λ a h=>by cases h) hvs h1v
  simp only [show insLay_ren.t 9=9 from rfl] at C
  refine C.mono ?_
  rintro e w' ⟨rfl,rfl⟩
  have hl:l=[]:=List.length_eq_zero_iff.1 hl0
  subst hl
  have hG:0+1<=grownCap w (0+1) 0 9:=grownCap_ge w _ _ _
  have hG2:grownCap w (0+1) 0 9<=maxLen:=grownCap_le_maxLen w (0+1) 0 9 (by unfold maxLen;omega)
  generalize grownCap w (0+1) 0 9=G at *
  refine ⟨_,rfl,newrow _ _ _ [] (Zdc w.drew _ _) hG hG2 (by simp [Builtin.zeroCells,Value.cells];omega) (by simp),?_⟩
  have hK:Kept [] w (w.drew.alloc (.cells (([]++[Value.string x]).toArray++Builtin.zeroCells (Value.string ⟨#[]⟩).cells (G-(0+1))) 9)):=
   (Kept.of_below (Zag (Below.refl _ _) 1)).trans (Kept.of_below (Zab _ _))
  exact⟨hK.os,hK.tape,hK.output,hK.size,λ b hb hn=>hK.block b hb (by simp)⟩
 ·subst hv0
  have hown:(Value.slice (some ⟨g,0,none⟩) l.length c).ownBlock=some g:=rfl
  have hne':vb≠g:=λ e=>hne (by rw [e];rfl)
  have hgl:g<w.heap.size:=(Qg q3).1
  have q6':cur0.size=c:=by simpa using q6
  have q7':cur0.toList.take l.length=cs:=by simpa using q7
  have hcell:∀ j u,cs[j]?=some u->w.cell? ⟨g,0+j,none⟩=some u:=λ j u hj=>by
   have hjl:j<cs.length:=(List.getElem?_eq_some_iff.1 hj).1
   rw [Nat.zero_add,H.cellAt j (by omega)];exact hj
  have hsome:∀ j,j<c->(w.cell? ⟨g,0+j,none⟩).isSome=true:=λ j hj=>by
   rw [Nat.zero_add,cell_of_row w g j _ _ _ q3,Array.getElem?_eq_getElem (show j<cur0.size by omega)];rfl
  have hfz:∀ j,w.frozen? ⟨g,0+j,none⟩=false:=λ j=>frozen_of_row w g _ _ _ q3
  have hc63:c<=9223372036854775807:=by unfold maxLen at q5;omega
  by_cases hroom:l.length+1<=c
  ·obtain⟨Z,hZ,hrowZ⟩:=ZnC H hroom
   by_cases hkn:k<l.length
   ·have C:=Any2.slices_Insert_string_shift Zgk g 0 l.length c k vb 0 1 1 cs [Value.string x] w hkn (by omega) hroom hc63 hne' hcl rfl hcell (λ j hj=>hsome j (by omega)) (λ j _=>hfz j) hvs h1c h1v 9 9 1 c (by simp [World.shape?,hvb]) (by simp [World.shape?,q3,q6']) (by omega) (frozen_of_row w vb 0 _ _ hvb) (frozen_of_row w vb 1 _ _ hvb)
    refine C.mono ?_
    rintro e w' ⟨rfl,rfl⟩
    have r1:=ZbJ (cs.drop k) w.drew (cs++Z) (0+(k+1)) hrowZ
    have r2:=ZbJ [Value.string x] _ _ (0+k) r1
    rw [Zbm,Zbm] at r2
    have e1:Zbo (Zbo (cs++Z) (0+(k+1)) (cs.drop k)) (0+k) [Value.string x]=cs.take k++([Value.string x]++cs.drop k):=by
     have:=ZlH (A:=cs.take k) (D:=cs.drop k) (X:=[Value.string x]) (Z:=Z) (by rw [hZ];rfl) (by simp [hZ];omega)
     rw [List.take_append_drop,List.length_take,Nat.min_eq_left (by omega)] at this
     simpa using this
    rw [e1] at r2
    refine ⟨_,rfl,?_,Zih ?_⟩
    ·rw [hlen,hmap,htk,hdk];exact r2
    ·rw [← Zbm,← Zbm]
     exact((Kept.of_below (Zag (Below.refl _ _) 1)).trans (ZbA _ _ _)).trans (ZbA _ _ _)
   ·have hke:k=l.length:=by omega
    subst hke
    have C:=Any2.slices_Insert_string_end_room Zgk g 0 l.length c vb 0 1 1 [Value.string x] w (by omega) hroom hc63 rfl (λ j hj=>by have:=hsome (l.length+j) (by omega);rwa [Nat.zero_add] at this ⊢) (λ j _=>by have:=hfz (l.length+j);rwa [Nat.zero_add] at this ⊢) hvs h1v
    refine C.mono ?_
    rintro e w' ⟨rfl,rfl⟩
    have r1:=ZbJ [Value.string x] w (cs++Z) (0+l.length) hrowZ
    rw [Zbm] at r1
    have e1:Zbo (cs++Z) (0+l.length) [Value.string x]=cs++([Value.string x]++[]):=by
     have:=Zbz [Value.string x] cs Z [] (by rw [hZ];rfl)
     rw [List.append_nil,hcl] at this
     rw [Nat.zero_add];exact this
    rw [e1] at r1
    refine ⟨_,rfl,?_,Zih ?_⟩
    ·rw [hlen,hmap,htk,hdk,List.take_of_length_le (by omega),List.drop_eq_nil_of_le (by omega)];exact r1
    ·rw [← Zbm];exact ZbA _ _ _
  ·have hG:=hgge c
   have hG2:=hg63 c
   by_cases hkn:k<l.length
   ·have C:=Any2.slices_Insert_string_grow Zgk g 0 l.length c k vb 0 1 1 cs [Value.string x] w hkn (by omega) q4 (by omega) (by omega) hcl rfl hcell hvs h1c h1v
    simp only [show insLay_ren.t 9=9 from rfl] at C
    refine C.mono ?_
    rintro e w' ⟨rfl,rfl⟩
    obtain⟨ROW,hROW⟩:∃ ROW:Array Value,ROW=(cs.take k).toArray++Builtin.zeroCells (Value.string ⟨#[]⟩).cells (l.length+1-k)++Builtin.zeroCells (Value.string ⟨#[]⟩).cells (grownCap w (l.length+1) c 9-(l.length+1)):=⟨_,rfl⟩
    have hzc:∀ m,(Builtin.zeroCells (Value.string ⟨#[]⟩).cells m).size=m:=λ m=>by simp [Builtin.zeroCells,Value.cells]
    have hRs:ROW.size=grownCap w (l.length+1) c 9:=by rw [hROW,Array.size_append,Array.size_append,hzc,hzc];simp;omega
    have hrow1:(w.alloc (.cells ROW 9)).ownsRow base 9 1 (.slice (some ⟨w.heap.size,0,none⟩) (l.length+1) (grownCap w (l.length+1) c 9)) (l.length+1) (cs.take k++((ROW.toList.drop k).take (l.length+1-k))):=by
     refine ⟨by simp [hRs];omega,.inr ⟨w.heap.size,_,ROW,rfl,hbase,by show (w.heap.push _)[_]?=_;simp,hG,hG2,by rw [hRs];omega,?_⟩⟩
     have ht:ROW.toList.take k=cs.take k:=by
      rw [hROW,Array.append_assoc,Array.toList_append,List.take_append_of_le_length (by simp;omega)]
      simp [List.take_take]
     rw [Nat.mul_one]
     conv=>lhs;rw [show l.length+1=k+(l.length+1-k) by omega,List.take_add,ht]
    have r1:=ZbJ [Value.string x] _ _ k (by exact hrow1:((w.alloc (.cells ROW 9)).drew).ownsRow base 9 1 _ _ _)
    have r2:=ZbJ (cs.drop k) _ _ (k+1) (by exact r1:((Zeb (w.alloc (.cells ROW 9)).drew w.heap.size k [Value.string x]).drew).ownsRow base 9 1 _ _ _)
    rw [Zbm,Zbm] at r2
    have hZl:((ROW.toList.drop k).take (l.length+1-k)).length=l.length+1-k:=by simp [hRs];omega
    have e1:Zbo (Zbo (cs.take k++((ROW.toList.drop k).take (l.length+1-k))) k [Value.string x]) (k+1) (cs.drop k)=cs.take k++([Value.string x]++cs.drop k):=by
     have h1:=List.take_append_drop 1 ((ROW.toList.drop k).take (l.length+1-k))
     rw [← h1]
     have:=ZlI (A:=cs.take k) (X:=[Value.string x]) (D:=cs.drop k) (Z1:=((ROW.toList.drop k).take (l.length+1-k)).take 1) (Z2:=((ROW.toList.drop k).take (l.length+1-k)).drop 1) (by rw [List.length_take,hZl];simp;omega) (by rw [List.length_drop,hZl];simp;omega)
     rw [List.length_take,Nat.min_eq_left (by omega)] at this
     simpa using this
    rw [e1] at r2
    refine ⟨_,rfl,?_,?_⟩
    ·rw [hlen,hmap,htk,hdk]
     rw [hROW] at r2
     exact r2
    ·have hK:Kept [w.heap.size] w ((((w.alloc (.cells ROW 9)).drew.setCells w.heap.size k [Value.string x]).drew).setCells w.heap.size (k+1) (cs.drop k)):=by
      rw [← Zbm,← Zbm]
      exact((((Kept.of_below (Zab _ _)).drewN 1).trans (ZbA _ _ _)).drewN 1).trans (ZbA _ _ _)
     rw [hROW] at hK
     exact⟨hK.os,hK.tape,hK.output,hK.size,λ b hb _=>hK.block b hb (by simp;omega)⟩
   ·have hke:k=l.length:=by omega
    subst hke
    have C:=Any2.slices_Insert_string_end_grow Zgk (some ⟨g,0,none⟩) l.length c vb 0 1 1 cs [Value.string x] w (by omega) q4 (by omega) (by omega) hcl rfl (λ h=>by cases h) (λ a h j u hj=>by
     simp only [Qi] at h
     subst h
     rw [Addr.add_lit];exact hcell j u hj) hvs h1v
    simp only [show insLay_ren.t 9=9 from rfl] at C
    refine C.mono ?_
    rintro e w' ⟨rfl,rfl⟩
    refine ⟨_,rfl,newrow _ _ _ [] (Zdc w.drew _ _) hG hG2 (by simp [Builtin.zeroCells,Value.cells,hcl];omega) ?_,?_⟩
    ·rw [hmap,htk,hdk,List.take_of_length_le (l:=cs) (by omega),List.drop_eq_nil_of_le (by omega)]
     rw [Array.toList_append,List.take_append_of_le_length (by simp;omega),List.take_of_length_le (by simp;omega)]
    ·have hK:Kept [] w (w.drew.alloc (.cells ((cs++[Value.string x]).toArray++Builtin.zeroCells (Value.string ⟨#[]⟩).cells (grownCap w (l.length+1) c 9-(l.length+1))) 9)):=
      (Kept.of_below (Zag (Below.refl _ _) 1)).trans (Kept.of_below (Zab _ _))
     exact⟨hK.os,hK.tape,hK.output,hK.size,λ b hb hn=>hK.block b hb (by simp)⟩
theorem Zaq {w:World} {ops:Array Oper} {o:Oper} {a:Act} {K:Act->World->Prop} {Q:Exit->Act->World->Prop} {E:Prop} (d:Nat) (hdst:o.dst=some d) (hg:o.guard=none) (s y:Operand)
  (ho:o.op=.call { callee:=.builtin .append,args:=#[s,y],argTypes:=#[55,55] })
  (base:Nat) (v u:Value) (L M:List ByteArray) (fp:List Nat) (hs:a.eval s=v) (hown:w.ownsRow base 9 1 v L.length (L.map Value.string)) (hy:a.eval y=u) (HM:(Zaa sStr).R w [u] M fp)
  (h63:L.length+M.length<=4000000) (hbase:base<=w.heap.size)
  (h:∀ v' w',w'.ownsRow base 9 1 v' (L++M).length ((L++M).map Value.string)->w.grownBy w' v.ownBlock->K (a.put (some d) v') w'):if Region.wanted o (yielded ops a.tmps)=true then Oper.wp Tryz.prog o a w K Q else E:=by
 have hwt:Region.wanted o (yielded ops a.tmps)=true:=by simp [Region.wanted,hg]
 rw [if_pos hwt]
 rw [← hdst] at h
 obtain⟨i,hi,hz0,hz1,hz2⟩:=info_parts ti27.2
 obtain⟨ad,cap,rfl,hc,hm,hcell,hsz⟩:=Zaf HM
 have key:∀ (b off:Nat),(0<M.length->∀ j,(hj:j<M.length)->w.cell? ⟨b,off+j,none⟩=some (.string M[j]))->a.eval y=.slice (some ⟨b,off,none⟩) M.length cap->Oper.wp Tryz.prog o a w K Q:=by
  intro b off hat hy'
  refine wp_append_own w s y 55 ho base 9 i _ 1 16 ti27.1 hi hz0 hz1 hz2 rfl (by decide) v L.length (L.map Value.string) hs hown ⟨b,off,none⟩ M.length cap (M.map Value.string) hy' (by simp) ?_ ?_ (by unfold maxLen;omega) (by omega) hbase λ v' w' h1 h2 _=>h v' w' ?_ h2
  ·intro j x hj
   have hj':j<M.length:=by have:=(List.getElem?_eq_some_iff.1 hj).1;simpa using this
   rw [Addr.add_lit,hat (by omega) j hj',← hj]
   simp [List.getElem?_eq_getElem hj']
  ·intro x hx
   obtain⟨s,_,rfl⟩:=List.mem_map.1 hx
   rfl
  ·simpa using h1
 by_cases h0:0<M.length
 ·obtain⟨b,off,rfl,_,_,hc2⟩:=hcell h0
  exact key b off (λ _ j hj=>hc2 j hj) hy
 ·have hM:M=[]:=List.length_eq_zero_iff.1 (by omega)
  subst hM
  cases ad with
  |
   none =>
   have hrun:=run_append_nil (P:=Tryz.prog) (w:=w) base 55 o.type 9 i 1 cap ti27.1 hi v L.length _ hown
   have hK:=h v w (by simpa using hown) ⟨rfl,rfl,rfl,Nat.le_refl _,λ _ _ _=>rfl⟩
   unfold Oper.wp
   simp only [List.length_nil] at hy
   simp [execOp,ho,resolve,invoke,builtin,hs,hy,hrun,Result.andThen]
   exact hK
  |
   some ad =>
   refine wp_append_own w s y 55 ho base 9 i _ 1 16 ti27.1 hi hz0 hz1 hz2 rfl (by decide) v L.length (L.map Value.string) hs hown ad 0 cap [] hy rfl (by simp) (by simp) (by unfold maxLen;omega) (by omega) hbase λ v' w' h1 h2 _=>h v' w' (by simpa using h1) h2
theorem ZbX {w:World} {g:Nat} {s:ByteArray} (h:w.heap[g]?=some (.cells #[.string s] 9 (0,0))) (hs:s.size<=maxLen):(Zaa sStr).R w [.slice (some ⟨g,0,none⟩) 1 1] [s] [g]:=by
 refine ⟨_,_,rfl,Nat.le_refl _,by unfold maxLen;omega,.inr ⟨by simp,g,0,λ _=>[],rfl,by simp,(Qg h).1,λ i hi=>?_⟩⟩
 have hi0:i=0:=by simpa using hi
 subst hi0
 refine ⟨[.string s],⟨rfl,λ j hj=>?_⟩,rfl,hs,rfl⟩
 have hj0:j=0:=by simp [sStr,sFlat] at hj;exact hj
 subst hj0
 exact Qc 0 h
theorem ZbH {w:World} {base base':Nat} {e:TypeId} {m n:Nat} {v:Value} {xs:List Value} (h:w.ownsRow base e m v n xs) (hl:base'<=base):w.ownsRow base' e m v n xs:=by
 refine ⟨h.1,?_⟩
 rcases h.2 with h0 | ⟨g,cap,cur,h1,h2,h3⟩
 ·exact .inl h0
 ·exact .inr ⟨g,cap,cur,h1,Nat.le_trans hl h2,h3⟩
theorem Zct {w w':World} {base:Nat} {e:TypeId} {m n:Nat} {v:Value} {xs:List Value} (h:w.ownsRow base e m v n xs) (hb:Below w.heap.size w w'):w'.ownsRow base e m v n xs:=
 Zba h λ g hg=>hb.block g (h.lt g hg).2
def Zd7 (l:List ByteArray) (w:World) (e:Ending) (w':World):Prop:=
 ∃ (ao:Option Addr) (c:Nat) (fp:List Nat),e=.returned (.slice ao l.length c)/\(Zaa sStr).R w' [.slice ao l.length c] l fp/\Own w' w.heap.size fp/\(∀ b∈fp,∃ cur t fr,w'.heap[b]?=some (.cells cur t fr)/\t=9)/\Below w.heap.size w w'
theorem Zhr {l:List ByteArray} {w w':World} {v:Value} (h:w'.ownsRow w.heap.size 9 1 v l.length (l.map Value.string)) (hs:∀ x∈l,x.size<=maxLen) (hb:Below w.heap.size w w'):Zd7 l w (.returned v) w':=by
 obtain⟨fp,R,O,hfp⟩:=Za6 (ok:=okStr) h λ i hi=>hs _ (List.getElem_mem hi)
 obtain⟨a,cap,rfl,-⟩:=Zaf R
 refine ⟨a,cap,fp,rfl,R,O,λ b hb'=>?_,hb⟩
 have hv:=hfp b hb'
 rcases h.2 with⟨h',_⟩ | ⟨g,capg,cur,h',_,hg,_⟩
 ·rw [h'] at hv;simp [Value.ownBlock] at hv
 ·rw [h'] at hv
  simp only [Value.ownBlock,Qi] at hv
  subst hv
  exact⟨_,_,_,hg,rfl⟩
theorem ins_ok {l:List ByteArray} {nm:ByteArray} (h:∀ x∈l,x.size<=maxLen) (hn:nm.size<=maxLen):∀ x∈ins l nm,x.size<=maxLen:=by
 induction l with
 | nil=>intro x hx;rw [ins] at hx;rw [Qm hx];exact hn
 |
  cons y r ih =>
  intro x hx
  rw [ins] at hx
  split at hx
  ·rcases List.mem_cons.1 hx with rfl | hx
   ·exact h _ (by simp)
   ·exact ih (λ z hz=>h z (by simp [hz])) x hx
  ·split at hx
   ·exact h x hx
   ·rcases List.mem_cons.1 hx with rfl | hx
    ·exact hn
    ·exact h x hx
theorem Zii {l:List ByteArray} (h:∀ i,(hi:i<l.length)->l[i].size<=maxLen):∀ x∈l,x.size<=maxLen:=λ x hx=>by
 obtain⟨i,hi,rfl⟩:=List.getElem_of_mem hx;exact h i hi
theorem ZdV (v:Value) (l:List ByteArray) (nm:ByteArray) (fp:List Nat) (w:World) (hu:Up l) (hl:l.length<=1000000) (hnm:nm.size<=maxLen) (H:(Zaa sStr).R w [v] l fp) :
  Calls Tryz.prog 124 #[v,.string nm] w (Zd7 (ins l nm) w):=by
 obtain⟨a0,cap0,rfl,-,-,-,hsz⟩:=Zaf H
 have HSZ:=Qh (ins_ok (nm:=nm) (Zii hsz) hnm)
 have HOK:=Qh (Zii hsz)
 have HU:=Qh hu
 have HLE:=Qh (ZiV l nm)
 clear hsz hu
 cases hs:isS l nm
 ·have HI:=Qh (ins_no HU.out hs)
  go_enter Tryz.func124,Tryz.ntmps124
  go_wp2_with (
        at_builtin;refine Zbb rfl (.tmp 8) (.tmp 9) rfl w.heap.size (.slice none 0 0) (.slice a0 l.length cap0) [] l _ rfl (World.ownsRow_nil _ _ _ _) rfl H (by simp;omega) (Nat.le_refl _) ?_;intro v5 w1 hown hgrow
        rw [List.nil_append] at hown
        have hb1:Below w.heap.size w w1:=(Below.refl _ _).grown hgrow (Nat.le_refl _) (λ b hb=>by simp [Value.ownBlock] at hb)
        obtain⟨fp1,R1,O1,-⟩:=Za6 (ok:=okStr) hown (λ i hi=>HOK.out _ (List.getElem_mem hi))
        have HC:=Qh (ZeT _ l nm fp1 w1 HU.out hl R1)
        rw [hs] at HC
        obtain⟨a1,cap1,rfl,-⟩:=Zaf R1
        have HO:=Qh hown
        clear hown hgrow R1 O1)
  refine HC.out.mono ?_
  rintro e w2 ⟨rfl,rfl⟩
  clear HC
  have hba:=Zab w2 (.cells #[.string nm] 9)
  have hne:(Value.slice a1 l.length cap1).ownBlock≠some w2.heap.size:=λ h=>by have:=(HO.out.lt _ h).2;omega
  have HINS:=Qh (ZlP w.heap.size w2.heap.size _ l nm (lowS l nm) (w2.alloc (.cells #[.string nm] 9)) hl HLE.out (Zct HO.out hba) (Zdc w2 _ _) hne (by have:=hb1.size;simp;omega))
  have HR:=Qh (Zct HO.out hba)
  have hlo:∀ b,(Value.slice a1 l.length cap1).ownBlock=some b->w.heap.size<=b:=λ b hb=>(HO.out.lt b hb).1
  generalize lowS l nm=lo at *
  clear hs hne
  go_wp2_with fail
  refine HINS.out.mono ?_
  rintro e w3 ⟨v3,rfl,hr3,hg3⟩
  have hb3:Below w.heap.size w w3:=(hb1.trans (hba.mono hb1.size)).grown hg3 (by have:=hb1.size;simp;omega) hlo
  have HF:=Qh (Zhr (l:=ins l nm) (w:=w) (by rw [HI.out];exact hr3) HSZ.out hb3)
  clear hr3 hg3 hb3
  go_wp2
  go_ret
  exact HF.out
 ·have HI:=Qh (ins_yes HU.out hs)
  go_enter Tryz.func124,Tryz.ntmps124
  go_wp2_with (
        at_builtin;refine Zbb rfl (.tmp 8) (.tmp 9) rfl w.heap.size (.slice none 0 0) (.slice a0 l.length cap0) [] l _ rfl (World.ownsRow_nil _ _ _ _) rfl H (by simp;omega) (Nat.le_refl _) ?_;intro v5 w1 hown hgrow
        rw [List.nil_append] at hown
        have hb1:Below w.heap.size w w1:=(Below.refl _ _).grown hgrow (Nat.le_refl _) (λ b hb=>by simp [Value.ownBlock] at hb)
        obtain⟨fp1,R1,O1,-⟩:=Za6 (ok:=okStr) hown (λ i hi=>HOK.out _ (List.getElem_mem hi))
        have HC:=Qh (ZeT _ l nm fp1 w1 HU.out hl R1)
        rw [hs] at HC
        obtain⟨a1,cap1,rfl,-⟩:=Zaf R1
        have HO:=Qh hown
        clear hown hgrow R1 O1)
  refine HC.out.mono ?_
  rintro e w2 ⟨rfl,rfl⟩
  have HF:=Qh (Zhr (l:=ins l nm) (w:=w) (by rw [HI.out];exact HO.out) HSZ.out hb1)
  clear HC HO
  generalize lowS l nm=lo at *
  go_wp2
  go_ret
  exact HF.out
theorem ZaW {w:World} {base:Nat} {e:TypeId} {m n:Nat} {v:Value} {xs:List Value} (h:w.ownsRow base e m v n xs):∃ a c,v=.slice a n c:=by
 rcases h.2 with⟨rfl,h0⟩ | ⟨g,cap,cur,rfl,_⟩
 ·exact⟨none,0,by rw [h0]⟩
 ·exact⟨_,_,rfl⟩
theorem ZfN (va vb:Value) (z b:List ByteArray) (fpa fpb:List Nat) (w:World) (hl:z.length+b.length<=1000000) (Ha:(Zaa sStr).R w [va] z fpa) (Hb:(Zaa sStr).R w [vb] b fpb) :
  Calls Tryz.prog 75 #[va,vb] w (Zd7 (b.foldl ins z) w):=by
 obtain⟨a0,cap0,rfl,-,-,-,hsz⟩:=Zaf Ha
 obtain⟨ab,capb,rfl,hcb,hmb,hcellb,hszb⟩:=Zaf Hb
 have HOK:=Qh (Zii hsz)
 have HOB:=Qh (Zii hszb)
 have HCB0:Hid (∀ h:0<b.length,∃ bb offb,ab=some ⟨bb,offb,none⟩/\bb<w.heap.size/\∀ j,(hj:j<b.length)->w.cell? ⟨bb,offb+j,none⟩=some (.string b[j])):=λ h=>by
  obtain⟨bb,offb,e,hbb,-,hc⟩:=hcellb h
  exact⟨bb,offb,e,hbb,hc⟩
 have hlit:Hid ((w.alloc (.cells #[] 9)).ownsRow w.heap.size 9 1 (.slice (some ⟨w.heap.size,0,none⟩) 0 0) ([]:List ByteArray).length (([]:List ByteArray).map Value.string)):=
  World.ownsRow_lit (base:=w.heap.size) (e:=9) (size:=1) w #[] 0 (Nat.le_refl _) (by simp) rfl
 have hba:=Zab w (.cells #[] 9)
 have HA:=Qh ((Zaa sStr).below Ha hba)
 have hbs:=hba.size
 unfold maxLen at hmb
 clear Ha Hb hsz hszb hcellb
 go_enter Tryz.func75,Tryz.ntmps75
 go_upto_region 2 with(
            at_builtin;refine Zbb rfl (.tmp 8) (.tmp 9) rfl w.heap.size (.slice (some ⟨w.heap.size,0,none⟩) 0 0) (.slice a0 z.length cap0) [] z _ rfl hlit.out rfl HA.out (by simp;omega) hbs ?_;intro v5 w1 hown hgrow
            rw [List.nil_append] at hown
            have hb1:Below w.heap.size w w1:=hba.grown hgrow hbs (λ b hb=>by simp [Value.ownBlock] at hb;omega)
            obtain⟨a8,c8,rfl⟩:=ZaW hown
            have HO:=Qh hown
            clear hown hgrow)
 clear hlit HA hba hbs
 go_wp2
 go_loopw [5,6] (λ o i wr=>∃ (k:Nat) (a:List ByteArray),k<=b.length/\i=.int .i64 k/\Hid (b.foldl ins z=(b.drop k).foldl ins a)/\Hid (wr.ownsRow w.heap.size 9 1 o a.length (a.map Value.string))/\Hid (∀ x∈a,x.size<=maxLen)/\a.length<=z.length+k/\Below w.heap.size w wr) (λ _ i _=>b.length-(intOf i).toNat)
 case atStart=>exact⟨0,z,by omega,rfl,rfl,HO.out,HOK.out,by omega,hb1⟩
 case round =>
  clear HO hb1
  obtain⟨k0,a,hk0,rfl,HFD,HE,HOKa,hla,hb1⟩:=hrel
  obtain⟨a1,cap1,hov⟩:=ZaW HE.out
  subst hov
  by_cases hkb:k0<b.length
  rotate_left
  ·have HF:Hid (Zd7 (b.foldl ins z) w (.returned (.slice a1 a.length cap1)) wr):=by
    show Zd7 _ _ _ _
    rw [HFD.out,List.drop_of_length_le (by omega)]
    exact Zhr HE.out HOKa.out hb1
   go_wp2
   go_ret
   exact HF.out
  ·obtain⟨bb,offb,rfl,hbb,hcb2⟩:=HCB0.out (by omega)
   obtain⟨nm,HNM⟩:∃ nm,Hid (nm=b[k0]):=⟨b[k0],Qh rfl⟩
   have cb0:w.cell? ⟨bb,offb+k0,none⟩=some (.string nm):=by rw [HNM.out];exact hcb2 k0 hkb
   have hnm:nm.size<=maxLen:=HOB.out nm (by rw [HNM.out];exact List.getElem_mem hkb)
   have HFD2:Hid (b.foldl ins z=(b.drop (k0+1)).foldl ins (ins a nm)):=by show _=_;rw [HFD.out,List.drop_eq_getElem_cons hkb,List.foldl_cons,HNM.out]
   have HSZ:=Qh (ins_ok HOKa.out hnm)
   have hlen2:(ins a nm).length<=z.length+(k0+1):=by have:=Zfu nm a;omega
   have hl1:a.length<=1000000:=by omega
   have j0:(0:Int)<=(k0:Int):=by omega
   have j1:(k0:Int)<(b.length:Int):=by omega
   obtain⟨fp1,R1,O1,-⟩:=Za6 (ok:=okStr) HE.out (λ i hi=>HOKa.out _ (List.getElem_mem hi))
   have HR1:=Qh R1
   have HU1:=Qh ((Zaa sStr).lt R1)
   obtain⟨a9,cap9,ha9,hc1,hm1,hcell1,-⟩:=Zaf R1
   simp only [Value.slice.injEq,true_and] at ha9
   obtain⟨rfl,rfl⟩:=ha9
   unfold maxLen at hm1
   have HO:=HE
   clear R1 O1 hcb2
   go_wp2
   generalize wr=w1 at *
   go_loopw [7] (λ i wi=>∃ n:Nat,n<=a.length/\i=.int .i64 n/\Hid (∀ j,(hj:j<a.length)->j<n->sLess a[j] nm=true)/\Below w1.heap.size w1 wi) (λ i _=>a.length-(intOf i).toNat)
   case atStart=>exact⟨0,by omega,rfl,λ j _ h=>by omega,Below.refl _ _⟩
   case round =>
    obtain⟨n,hn,rfl,HLT,hbi⟩:=hrel
    have hb1r:Below w.heap.size w wr:=hb1.trans (hbi.mono hb1.size)
    have cbr:wr.cell? ⟨bb,offb+k0,none⟩=some (.string nm):=(hb1r.cell (p:=⟨bb,offb+k0,none⟩) hbb).trans cb0
    have hi1:(0:Int)<=(n:Int):=by omega
    by_cases hlt:n<a.length
    ·obtain⟨b1,off1,rfl,hbl1,-,he1⟩:=hcell1 (by omega)
     have c10:wr.cell? ⟨b1,off1+n,none⟩=some (.string a[n]):=(hbi.cell (p:=⟨b1,off1+n,none⟩) hbl1).trans (he1 n hlt)
     have h0:decide ((n:Int)<(a.length:Int))=true:=decide_eq_true (by omega)
     have h1:decide (n<a.length)=true:=decide_eq_true hlt
     have hi2:(n:Int)<(a.length:Int):=by omega
     clear he1 hcell1
     cases hs:sLess a[n] nm
     ·have hs':Op.bytesLess a[n].toList nm.toList=false:=hs
      go_wp2_with fail
      go_quiet (fail)
      have hbq0:=Zag hbi nq
      have cbq:(wr.drewN nq).cell? ⟨bb,offb+k0,none⟩=some (.string nm):=cbr
      have c1q:(wr.drewN nq).cell? ⟨b1,off1+n,none⟩=some (.string a[n]):=c10
      clear c10 cbr hb1r hbi
      generalize wr.drewN nq=wq0 at *
      have e0:((n:Int)==(a.length:Int))=false:=by simp;omega
      have e1:(n==a.length)=false:=by simp;omega
      cases he:(a[n].toList==nm.toList)
      ·have HI:=Qh (Zh6 nm a n hn HLT.out (λ _=>⟨hs,he⟩))
       go_wp2_with fail
       go_quiet (fail)
       have hbq1:=Zag hbq0 nq
       have cb:(wq0.drewN nq).cell? ⟨bb,offb+k0,none⟩=some (.string nm):=cbq
       clear hbq0 cbq c1q hs hs' he h0 h1 e0 e1
       generalize wq0.drewN nq=wq at *
       have hbq:Below w.heap.size w wq:=hb1.trans (hbq1.mono hb1.size)
       have HRq:=Qh ((Zaa sStr).below HR1.out hbq1)
       have HUq:Hid (∀ b∈fp1,b<wq.heap.size):=λ b hb=>by have:=HU1.out b hb;have:=hbq1.size;omega
       have hbb2:bb<wq.heap.size:=by have:=hbq.size;omega
       go_wp2_with fail
       obtain⟨fa,RA,hfa⟩:=Zbv n (by omega) HRq.out
       obtain⟨fb,RB,hfb⟩:=Za0 n (by omega) HRq.out
       rw [show n * sStr.m=n from Nat.mul_one n] at RB
       obtain⟨M1,HM1⟩:∃ M1:List ByteArray,Hid (M1=a.take n):=⟨_,rfl⟩
       have HM1l:Hid (M1.length=n):=by show _=_;rw [HM1.out,List.length_take];omega
       have hd:Below wq.heap.size wq wq.drew:=Zag (Below.refl _ _) 1
       have HRAwd:Hid ((Zaa sStr).R wq.drew [.slice (some ⟨b1,off1,none⟩) n cap1] M1 fa):=by show (Zaa sStr).R _ _ _ _;rw [HM1.out];exact(Zaa sStr).below RA hd
       obtain⟨sv,HSV⟩:∃ sv:Value,Hid (sv=.slice (if cap1=n then (some ⟨b1,off1,none⟩) else ((some ⟨b1,off1,none⟩):Option Addr).map (·.add n)) (a.length-n) (cap1-n)):=⟨_,rfl⟩
       have HRBwd:Hid ((Zaa sStr).R wq.drew [sv] (a.drop n) fb):=by show (Zaa sStr).R _ _ _ _;rw [HSV.out];exact(Zaa sStr).below RB hd
       have HFP:Hid ((∀ b∈fa,b<wq.drew.heap.size)/\(∀ b∈fb,b<wq.drew.heap.size)):=⟨λ b hb=>HUq.out b (hfa b hb),λ b hb=>HUq.out b (hfb b hb)⟩
       have HBwd:=Qh (hbq.trans (hd.mono hbq.size))
       have hsd:w.heap.size<=wq.drew.heap.size:=HBwd.out.size
       have HCB:Hid (wq.drew.cell? ⟨bb,offb+k0,none⟩=some (.string nm)):=cb
       have hbb3:bb<wq.drew.heap.size:=hbb2
       have HTL:Hid ((a.take n).length=n/\(a.drop n).length=a.length-n):=⟨by rw [List.length_take];omega,List.length_drop⟩
       clear RA RB hfa hfb hd HRq HUq
       refine wp_region_noPanic ?_
       refine wp_region_held_drew (S:=λ w'=>w'.cell? ⟨bb,offb+k0,none⟩=some (.string nm)) (by kernel_rfl) (by exact HCB.out) (λ hHeld=>?_)
       generalize wq.drew=wd at *
       have hp1:(0:Int)<=(n:Int):=by omega
       have hp2:(n:Int)<=(a.length:Int):=by omega
       have hp3:n<=a.length:=by omega
       have hp4:n<=cap1:=by omega
       have hp5:(n:Int)<=(cap1:Int):=by omega
       refine Qt 1 50 rfl rfl ?_
       try simp only [Qp]
       refine Qt 2 51 rfl rfl ?_
       try simp only [Qp]
       refine Zh3 3 52 (v:=.slice (some ⟨b1,off1,none⟩) n cap1) rfl rfl (by kernel_rfl) (by kernel_rfl) (by kernel_rfl) (λ _ _ _ h=>h) (by rfl) (by assumption) ?_ ?_
       ·intro w hSw;go_simp;(first | done | with_reducible rfl | rfl)
       try simp only [Qp]
       refine Qt 5 54 rfl rfl ?_
       try simp only [Qp]
       refine Qt 6 55 rfl rfl ?_
       try simp only [Qp]
       refine Qt 7 56 rfl rfl ?_
       try simp only [Qp]
       refine Qt 8 57 rfl rfl ?_
       try simp only [Qp]
       refine Qt 11 60 rfl rfl ?_
       try simp only [Qp]
       refine Qt 12 61 rfl rfl ?_
       try simp only [Qp]
       refine Zh3 13 62 (v:=sv) rfl rfl (by kernel_rfl) (by kernel_rfl) (by kernel_rfl) (λ _ _ _ h=>h) (by rfl) (by assumption) ?_ ?_
       ·intro w hSw;rw [HSV.out];go_simp;(first | done | with_reducible rfl | rfl)
       try simp only [Qp]
       have HCBwd:=HCB
       refine wpAnyH_ready (rs:=[0,9]) (by decide +kernel) (by simp) ?_
       refine AllReadyH.cons rfl (λ K hK=>?_) (AllReadyH.cons rfl (λ K hK=>?_) AllReadyH.nil)
       ·have bl:=Zab wd (.cells #[] 9)
        have hyx0:wd.heap.size+1<=(wd.alloc (.cells #[] 9)).heap.size:=Nat.le_of_eq (Array.size_push _).symm
        have HGx0:Hid ((wd.alloc (.cells #[] 9)).ownsRow wd.heap.size 9 1 (.slice (some ⟨wd.heap.size,0,none⟩) 0 0) ([]:List ByteArray).length (([]:List ByteArray).map Value.string)):=World.ownsRow_lit (base:=wd.heap.size) (e:=9) (size:=1) wd #[] 0 (by omega) (by simp) rfl
        go_simp
        have HCXx0:Hid ((wd.alloc (.cells #[] 9)).cell? ⟨bb,offb+k0,none⟩=some (.string nm)):=(bl.cell (p:=⟨bb,offb+k0,none⟩) (by show bb<_;omega)).trans HCB.out
        have HRAx0:=Qh ((Zaa sStr).below HRAwd.out bl)
        have HRBx0:=Qh ((Zaa sStr).below HRBwd.out bl)
        have HBx0:=Qh (HBwd.out.trans (bl.mono HBwd.out.size))
        refine hK.out _ _ HCXx0.out (λ hHeld=>?_)
        clear hK K bl
        try simp only [Qp]
        generalize (wd.alloc (.cells #[] 9))=x0 at *
        refine wpAnyH_ready (rs:=[4,9]) (by decide +kernel) (by simp) ?_
        refine AllReadyH.cons rfl (λ K hK=>?_) (AllReadyH.cons rfl (λ K hK=>?_) AllReadyH.nil)
        ·refine Zaq 53 rfl rfl (.tmp 49) (.tmp 52) rfl wd.heap.size (.slice (some ⟨wd.heap.size,0,none⟩) 0 0) (.slice (some ⟨b1,off1,none⟩) n cap1) [] M1 fa rfl HGx0.out rfl HRAx0.out (by rw [HM1l.out];simp;omega) (by omega) ?_
         intro vqx1 x1 hG hgr
         have hbw:Below wd.heap.size x0 x1:=(Below.refl wd.heap.size x0).grown hgr (by omega) (λ b hb=>(HGx0.out.lt b hb).1)
         have hyx1:=hbw.size
         have HCXx1:=Qh ((hbw.cell (p:=⟨bb,offb+k0,none⟩) (by show bb<_;omega)).trans HCXx0.out)
         have HRBx1:=Qh ((Zaa sStr).frame (w':=x1) (λ b hb=>hbw.block b (HFP.out.2 b hb)) HRBx0.out)
         have HBx1:=Qh (HBx0.out.trans (hbw.mono (by omega)))
         rw [List.nil_append] at hG
         have HGx1:=Qh hG
         obtain⟨aqx1,cqx1,rfl⟩:=ZaW HGx1.out
         refine hK.out _ _ HCXx1.out (λ hHeld=>?_)
         clear hK K hgr hG hbw
         try simp only [Qp]
         refine Qr 9 rfl (λ K hK=>?_) (by decide +kernel)
         have bl:=Zab x1 (.cells #[.string nm] 9)
         have hyx2:x1.heap.size+1<=(x1.alloc (.cells #[.string nm] 9)).heap.size:=Nat.le_of_eq (Array.size_push _).symm
         have HLx2:=Qh (Zdc x1 #[.string nm] 9)
         have HGx2:=Qh (Zct HGx1.out bl)
         go_simp
         have HCXx2:Hid ((x1.alloc (.cells #[.string nm] 9)).cell? ⟨bb,offb+k0,none⟩=some (.string nm)):=(bl.cell (p:=⟨bb,offb+k0,none⟩) (by show bb<_;omega)).trans HCXx1.out
         have HRBx2:=Qh ((Zaa sStr).below HRBx1.out bl)
         have HBx2:=Qh (HBx1.out.trans (bl.mono HBx1.out.size))
         refine hK.out _ _ HCXx2.out (λ hHeld=>?_)
         clear hK K bl
         try simp only [Qp]
         generalize (x1.alloc (.cells #[.string nm] 9))=x2 at *
         refine Qr 10 rfl (λ K hK=>?_) (by decide +kernel)
         refine Zaq 59 rfl rfl (.tmp 53) (.tmp 58) rfl wd.heap.size (.slice aqx1 M1.length cqx1) (.slice (some ⟨x1.heap.size,0,none⟩) 1 1) M1 [nm] _ rfl HGx2.out rfl (ZbX HLx2.out hnm) (by rw [HM1l.out];simp;omega) (by omega) ?_
         intro vqx3 x3 hG hgr
         have hbw:Below wd.heap.size x2 x3:=(Below.refl wd.heap.size x2).grown hgr (by omega) (λ b hb=>(HGx2.out.lt b hb).1)
         have hyx3:=hbw.size
         have HCXx3:=Qh ((hbw.cell (p:=⟨bb,offb+k0,none⟩) (by show bb<_;omega)).trans HCXx2.out)
         have HRBx3:=Qh ((Zaa sStr).frame (w':=x3) (λ b hb=>hbw.block b (HFP.out.2 b hb)) HRBx2.out)
         have HBx3:=Qh (HBx2.out.trans (hbw.mono (by omega)))
         have HGx3:=Qh hG
         obtain⟨aqx3,cqx3,rfl⟩:=ZaW HGx3.out
         refine hK.out _ _ HCXx3.out (λ hHeld=>?_)
         clear hK K hgr hG hbw
         try simp only [Qp]
         refine Qr 14 rfl (λ K hK=>?_) (by decide +kernel)
         refine Zaq 63 rfl rfl (.tmp 59) (.tmp 62) rfl wd.heap.size (.slice aqx3 (M1++[nm]).length cqx3) sv (M1++[nm]) (a.drop n) fb rfl HGx3.out rfl HRBx3.out (by rw [List.length_append,HM1l.out,HTL.out.2];simp;omega) (by omega) ?_
         intro vqx4 x4 hG hgr
         have hbw:Below wd.heap.size x3 x4:=(Below.refl wd.heap.size x3).grown hgr (by omega) (λ b hb=>(HGx3.out.lt b hb).1)
         have hyx4:=hbw.size
         have HCXx4:=Qh ((hbw.cell (p:=⟨bb,offb+k0,none⟩) (by show bb<_;omega)).trans HCXx3.out)
         have HBx4:=Qh (HBx3.out.trans (hbw.mono (by omega)))
         have HGx4:=Qh hG
         refine hK.out _ _ HCXx4.out (λ hHeld=>?_)
         clear hK K hgr hG hbw
         try simp only [Qp]
         refine Qt 15 5 rfl rfl ?_
         try simp only [Qp]
         refine wpAnyH_done (by kernel_rfl) ?_ _
         refine NoPanic.normal ?_
         clear hHeld
         have HFN:Hid (x4.ownsRow w.heap.size 9 1 vqx4 (ins a nm).length ((ins a nm).map Value.string)):=by
          show World.ownsRow _ _ _ _ _ _ _
          rw [HI.out];have:=ZbH HGx4.out hsd;rw [HM1.out] at this;simpa using this
         go_wp2
         go_roundw
         case rel=>exact⟨k0+1,ins a nm,by omega,by go_num,HFD2.out,HFN.out,HSZ.out,hlen2,HBx4.out⟩
         case measure=>simp [intOf];omega
        ·have bl:=Zab x0 (.cells #[.string nm] 9)
         have hyx5:x0.heap.size+1<=(x0.alloc (.cells #[.string nm] 9)).heap.size:=Nat.le_of_eq (Array.size_push _).symm
         have HLx5:=Qh (Zdc x0 #[.string nm] 9)
         have HGx5:=Qh (Zct HGx0.out bl)
         go_simp
         have HCXx5:Hid ((x0.alloc (.cells #[.string nm] 9)).cell? ⟨bb,offb+k0,none⟩=some (.string nm)):=(bl.cell (p:=⟨bb,offb+k0,none⟩) (by show bb<_;omega)).trans HCXx0.out
         have HRAx5:=Qh ((Zaa sStr).below HRAx0.out bl)
         have HRBx5:=Qh ((Zaa sStr).below HRBx0.out bl)
         have HBx5:=Qh (HBx0.out.trans (bl.mono HBx0.out.size))
         refine hK.out _ _ HCXx5.out (λ hHeld=>?_)
         clear hK K bl
         try simp only [Qp]
         generalize (x0.alloc (.cells #[.string nm] 9))=x5 at *
         refine Qr 4 rfl (λ K hK=>?_) (by decide +kernel)
         refine Zaq 53 rfl rfl (.tmp 49) (.tmp 52) rfl wd.heap.size (.slice (some ⟨wd.heap.size,0,none⟩) 0 0) (.slice (some ⟨b1,off1,none⟩) n cap1) [] M1 fa rfl HGx5.out rfl HRAx5.out (by rw [HM1l.out];simp;omega) (by omega) ?_
         intro vqx6 x6 hG hgr
         have hbw:Below wd.heap.size x5 x6:=(Below.refl wd.heap.size x5).grown hgr (by omega) (λ b hb=>(HGx5.out.lt b hb).1)
         have hyx6:=hbw.size
         have HCXx6:=Qh ((hbw.cell (p:=⟨bb,offb+k0,none⟩) (by show bb<_;omega)).trans HCXx5.out)
         have HRBx6:=Qh ((Zaa sStr).frame (w':=x6) (λ b hb=>hbw.block b (HFP.out.2 b hb)) HRBx5.out)
         have HLx6:=Qh ((hgr.block (x0.heap.size) (by omega) (by simp [Value.ownBlock];omega)).trans HLx5.out)
         have HBx6:=Qh (HBx5.out.trans (hbw.mono (by omega)))
         rw [List.nil_append] at hG
         have HGx6:=Qh hG
         obtain⟨aqx6,cqx6,rfl⟩:=ZaW HGx6.out
         refine hK.out _ _ HCXx6.out (λ hHeld=>?_)
         clear hK K hgr hG hbw
         try simp only [Qp]
         refine Qr 10 rfl (λ K hK=>?_) (by decide +kernel)
         refine Zaq 59 rfl rfl (.tmp 53) (.tmp 58) rfl wd.heap.size (.slice aqx6 M1.length cqx6) (.slice (some ⟨x0.heap.size,0,none⟩) 1 1) M1 [nm] _ rfl HGx6.out rfl (ZbX HLx6.out hnm) (by rw [HM1l.out];simp;omega) (by omega) ?_
         intro vqx7 x7 hG hgr
         have hbw:Below wd.heap.size x6 x7:=(Below.refl wd.heap.size x6).grown hgr (by omega) (λ b hb=>(HGx6.out.lt b hb).1)
         have hyx7:=hbw.size
         have HCXx7:=Qh ((hbw.cell (p:=⟨bb,offb+k0,none⟩) (by show bb<_;omega)).trans HCXx6.out)
         have HRBx7:=Qh ((Zaa sStr).frame (w':=x7) (λ b hb=>hbw.block b (HFP.out.2 b hb)) HRBx6.out)
         have HBx7:=Qh (HBx6.out.trans (hbw.mono (by omega)))
         have HGx7:=Qh hG
         obtain⟨aqx7,cqx7,rfl⟩:=ZaW HGx7.out
         refine hK.out _ _ HCXx7.out (λ hHeld=>?_)
         clear hK K hgr hG hbw
         try simp only [Qp]
         refine Qr 14 rfl (λ K hK=>?_) (by decide +kernel)
         refine Zaq 63 rfl rfl (.tmp 59) (.tmp 62) rfl wd.heap.size (.slice aqx7 (M1++[nm]).length cqx7) sv (M1++[nm]) (a.drop n) fb rfl HGx7.out rfl HRBx7.out (by rw [List.length_append,HM1l.out,HTL.out.2];simp;omega) (by omega) ?_
         intro vqx8 x8 hG hgr
         have hbw:Below wd.heap.size x7 x8:=(Below.refl wd.heap.size x7).grown hgr (by omega) (λ b hb=>(HGx7.out.lt b hb).1)
         have hyx8:=hbw.size
         have HCXx8:=Qh ((hbw.cell (p:=⟨bb,offb+k0,none⟩) (by show bb<_;omega)).trans HCXx7.out)
         have HBx8:=Qh (HBx7.out.trans (hbw.mono (by omega)))
         have HGx8:=Qh hG
         refine hK.out _ _ HCXx8.out (λ hHeld=>?_)
         clear hK K hgr hG hbw
         try simp only [Qp]
         refine Qt 15 5 rfl rfl ?_
         try simp only [Qp]
         refine wpAnyH_done (by kernel_rfl) ?_ _
         refine NoPanic.normal ?_
         clear hHeld
         have HFN:Hid (x8.ownsRow w.heap.size 9 1 vqx8 (ins a nm).length ((ins a nm).map Value.string)):=by
          show World.ownsRow _ _ _ _ _ _ _
          rw [HI.out];have:=ZbH HGx8.out hsd;rw [HM1.out] at this;simpa using this
         go_wp2
         go_roundw
         case rel=>exact⟨k0+1,ins a nm,by omega,by go_num,HFD2.out,HFN.out,HSZ.out,hlen2,HBx8.out⟩
         case measure=>simp [intOf];omega
       ·have bl:=Zab wd (.cells #[.string nm] 9)
        have hyx9:wd.heap.size+1<=(wd.alloc (.cells #[.string nm] 9)).heap.size:=Nat.le_of_eq (Array.size_push _).symm
        have HLx9:=Qh (Zdc wd #[.string nm] 9)
        go_simp
        have HCXx9:Hid ((wd.alloc (.cells #[.string nm] 9)).cell? ⟨bb,offb+k0,none⟩=some (.string nm)):=(bl.cell (p:=⟨bb,offb+k0,none⟩) (by show bb<_;omega)).trans HCB.out
        have HRAx9:=Qh ((Zaa sStr).below HRAwd.out bl)
        have HRBx9:=Qh ((Zaa sStr).below HRBwd.out bl)
        have HBx9:=Qh (HBwd.out.trans (bl.mono HBwd.out.size))
        refine hK.out _ _ HCXx9.out (λ hHeld=>?_)
        clear hK K bl
        try simp only [Qp]
        generalize (wd.alloc (.cells #[.string nm] 9))=x9 at *
        refine Qr 0 rfl (λ K hK=>?_) (by decide +kernel)
        have bl:=Zab x9 (.cells #[] 9)
        have hyx10:x9.heap.size+1<=(x9.alloc (.cells #[] 9)).heap.size:=Nat.le_of_eq (Array.size_push _).symm
        have HGx10:Hid ((x9.alloc (.cells #[] 9)).ownsRow wd.heap.size 9 1 (.slice (some ⟨x9.heap.size,0,none⟩) 0 0) ([]:List ByteArray).length (([]:List ByteArray).map Value.string)):=World.ownsRow_lit (base:=wd.heap.size) (e:=9) (size:=1) x9 #[] 0 (by omega) (by simp) rfl
        have HLx10:=Qh ((bl.block _ (by omega)).trans HLx9.out)
        go_simp
        have HCXx10:Hid ((x9.alloc (.cells #[] 9)).cell? ⟨bb,offb+k0,none⟩=some (.string nm)):=(bl.cell (p:=⟨bb,offb+k0,none⟩) (by show bb<_;omega)).trans HCXx9.out
        have HRAx10:=Qh ((Zaa sStr).below HRAx9.out bl)
        have HRBx10:=Qh ((Zaa sStr).below HRBx9.out bl)
        have HBx10:=Qh (HBx9.out.trans (bl.mono HBx9.out.size))
        refine hK.out _ _ HCXx10.out (λ hHeld=>?_)
        clear hK K bl
        try simp only [Qp]
        generalize (x9.alloc (.cells #[] 9))=x10 at *
        refine Qr 4 rfl (λ K hK=>?_) (by decide +kernel)
        refine Zaq 53 rfl rfl (.tmp 49) (.tmp 52) rfl wd.heap.size (.slice (some ⟨x9.heap.size,0,none⟩) 0 0) (.slice (some ⟨b1,off1,none⟩) n cap1) [] M1 fa rfl HGx10.out rfl HRAx10.out (by rw [HM1l.out];simp;omega) (by omega) ?_
        intro vqx11 x11 hG hgr
        have hbw:Below wd.heap.size x10 x11:=(Below.refl wd.heap.size x10).grown hgr (by omega) (λ b hb=>(HGx10.out.lt b hb).1)
        have hyx11:=hbw.size
        have HCXx11:=Qh ((hbw.cell (p:=⟨bb,offb+k0,none⟩) (by show bb<_;omega)).trans HCXx10.out)
        have HRBx11:=Qh ((Zaa sStr).frame (w':=x11) (λ b hb=>hbw.block b (HFP.out.2 b hb)) HRBx10.out)
        have HLx11:=Qh ((hgr.block (wd.heap.size) (by omega) (by simp [Value.ownBlock];omega)).trans HLx10.out)
        have HBx11:=Qh (HBx10.out.trans (hbw.mono (by omega)))
        rw [List.nil_append] at hG
        have HGx11:=Qh hG
        obtain⟨aqx11,cqx11,rfl⟩:=ZaW HGx11.out
        refine hK.out _ _ HCXx11.out (λ hHeld=>?_)
        clear hK K hgr hG hbw
        try simp only [Qp]
        refine Qr 10 rfl (λ K hK=>?_) (by decide +kernel)
        refine Zaq 59 rfl rfl (.tmp 53) (.tmp 58) rfl wd.heap.size (.slice aqx11 M1.length cqx11) (.slice (some ⟨wd.heap.size,0,none⟩) 1 1) M1 [nm] _ rfl HGx11.out rfl (ZbX HLx11.out hnm) (by rw [HM1l.out];simp;omega) (by omega) ?_
        intro vqx12 x12 hG hgr
        have hbw:Below wd.heap.size x11 x12:=(Below.refl wd.heap.size x11).grown hgr (by omega) (λ b hb=>(HGx11.out.lt b hb).1)
        have hyx12:=hbw.size
        have HCXx12:=Qh ((hbw.cell (p:=⟨bb,offb+k0,none⟩) (by show bb<_;omega)).trans HCXx11.out)
        have HRBx12:=Qh ((Zaa sStr).frame (w':=x12) (λ b hb=>hbw.block b (HFP.out.2 b hb)) HRBx11.out)
        have HBx12:=Qh (HBx11.out.trans (hbw.mono (by omega)))
        have HGx12:=Qh hG
        obtain⟨aqx12,cqx12,rfl⟩:=ZaW HGx12.out
        refine hK.out _ _ HCXx12.out (λ hHeld=>?_)
        clear hK K hgr hG hbw
        try simp only [Qp]
        refine Qr 14 rfl (λ K hK=>?_) (by decide +kernel)
        refine Zaq 63 rfl rfl (.tmp 59) (.tmp 62) rfl wd.heap.size (.slice aqx12 (M1++[nm]).length cqx12) sv (M1++[nm]) (a.drop n) fb rfl HGx12.out rfl HRBx12.out (by rw [List.length_append,HM1l.out,HTL.out.2];simp;omega) (by omega) ?_
        intro vqx13 x13 hG hgr
        have hbw:Below wd.heap.size x12 x13:=(Below.refl wd.heap.size x12).grown hgr (by omega) (λ b hb=>(HGx12.out.lt b hb).1)
        have hyx13:=hbw.size
        have HCXx13:=Qh ((hbw.cell (p:=⟨bb,offb+k0,none⟩) (by show bb<_;omega)).trans HCXx12.out)
        have HBx13:=Qh (HBx12.out.trans (hbw.mono (by omega)))
        have HGx13:=Qh hG
        refine hK.out _ _ HCXx13.out (λ hHeld=>?_)
        clear hK K hgr hG hbw
        try simp only [Qp]
        refine Qt 15 5 rfl rfl ?_
        try simp only [Qp]
        refine wpAnyH_done (by kernel_rfl) ?_ _
        refine NoPanic.normal ?_
        clear hHeld
        have HFN:Hid (x13.ownsRow w.heap.size 9 1 vqx13 (ins a nm).length ((ins a nm).map Value.string)):=by
         show World.ownsRow _ _ _ _ _ _ _
         rw [HI.out];have:=ZbH HGx13.out hsd;rw [HM1.out] at this;simpa using this
        go_wp2
        go_roundw
        case rel=>exact⟨k0+1,ins a nm,by omega,by go_num,HFD2.out,HFN.out,HSZ.out,hlen2,HBx13.out⟩
        case measure=>simp [intOf];omega
      ·have HI:=Qh (ZkZ nm a n hlt (λ j hj h=>HLT.out j hj h) he)
       go_wp2_with fail
       go_quiet (fail)
       have hbq1:=Zag hbq0 nq
       go_wp2
       go_roundw
       case rel=>exact⟨k0+1,ins a nm,by omega,by go_num,HFD2.out,(by show World.ownsRow _ _ _ _ _ _ _;rw [HI.out];exact Zct HO.out hbq1),HSZ.out,hlen2,hb1.trans (hbq1.mono hb1.size)⟩
       case measure=>simp [intOf];omega
     ·have HLT2:Hid (∀ j,(hj:j<a.length)->j<n+1->sLess a[j] nm=true):=λ j hj h=>by
       by_cases e:j=n
       ·subst e;exact hs
       ·exact HLT.out j hj (by omega)
      have hs':Op.bytesLess a[n].toList nm.toList=true:=hs
      go_wp2_with fail
      go_quiet (fail)
      go_wp2
      go_roundw
      case rel=>exact⟨n+1,by omega,by go_num,HLT2,Zag hbi _⟩
      case measure=>simp [intOf];omega
    ·have HI:=Qh (Zh6 nm a n hn HLT.out (λ h=>absurd h hlt))
     have h0:decide ((n:Int)<(a.length:Int))=false:=decide_eq_false (by omega)
     have h1:decide (n<a.length)=false:=decide_eq_false hlt
     have e0:((n:Int)==(a.length:Int))=true:=by simp;omega
     have e1:(n==a.length)=true:=by simp;omega
     clear hcell1
     go_wp2_with fail
     go_quiet (fail)
     have hbq0:=Zag hbi nq
     have cbq:(wr.drewN nq).cell? ⟨bb,offb+k0,none⟩=some (.string nm):=cbr
     clear cbr hb1r hbi
     generalize wr.drewN nq=wq0 at *
     go_wp2_with fail
     go_quiet (fail)
     have hbq1:=Zag hbq0 nq
     have cb:(wq0.drewN nq).cell? ⟨bb,offb+k0,none⟩=some (.string nm):=cbq
     clear hbq0 cbq h0 h1 e0 e1
     generalize wq0.drewN nq=wq at *
     have hbq:Below w.heap.size w wq:=hb1.trans (hbq1.mono hb1.size)
     have HRq:=Qh ((Zaa sStr).below HR1.out hbq1)
     have HUq:Hid (∀ b∈fp1,b<wq.heap.size):=λ b hb=>by have:=HU1.out b hb;have:=hbq1.size;omega
     have hbb2:bb<wq.heap.size:=by have:=hbq.size;omega
     go_wp2_with fail
     obtain⟨fa,RA,hfa⟩:=Zbv n (by omega) HRq.out
     obtain⟨fb,RB,hfb⟩:=Za0 n (by omega) HRq.out
     rw [show n * sStr.m=n from Nat.mul_one n] at RB
     obtain⟨M1,HM1⟩:∃ M1:List ByteArray,Hid (M1=a.take n):=⟨_,rfl⟩
     have HM1l:Hid (M1.length=n):=by show _=_;rw [HM1.out,List.length_take];omega
     have hd:Below wq.heap.size wq wq.drew:=Zag (Below.refl _ _) 1
     have HRAwd:Hid ((Zaa sStr).R wq.drew [.slice a1 n cap1] M1 fa):=by show (Zaa sStr).R _ _ _ _;rw [HM1.out];exact(Zaa sStr).below RA hd
     obtain⟨sv,HSV⟩:∃ sv:Value,Hid (sv=.slice (if cap1=n then a1 else (a1:Option Addr).map (·.add n)) (a.length-n) (cap1-n)):=⟨_,rfl⟩
     have HRBwd:Hid ((Zaa sStr).R wq.drew [sv] (a.drop n) fb):=by show (Zaa sStr).R _ _ _ _;rw [HSV.out];exact(Zaa sStr).below RB hd
     have HFP:Hid ((∀ b∈fa,b<wq.drew.heap.size)/\(∀ b∈fb,b<wq.drew.heap.size)):=⟨λ b hb=>HUq.out b (hfa b hb),λ b hb=>HUq.out b (hfb b hb)⟩
     have HBwd:=Qh (hbq.trans (hd.mono hbq.size))
     have hsd:w.heap.size<=wq.drew.heap.size:=HBwd.out.size
     have HCB:Hid (wq.drew.cell? ⟨bb,offb+k0,none⟩=some (.string nm)):=cb
     have hbb3:bb<wq.drew.heap.size:=hbb2
     have HTL:Hid ((a.take n).length=n/\(a.drop n).length=a.length-n):=⟨by rw [List.length_take];omega,List.length_drop⟩
     clear RA RB hfa hfb hd HRq HUq
     refine wp_region_noPanic ?_
     refine wp_region_held_drew (S:=λ w'=>w'.cell? ⟨bb,offb+k0,none⟩=some (.string nm)) (by kernel_rfl) (by exact HCB.out) (λ hHeld=>?_)
     generalize wq.drew=wd at *
     have hp1:(0:Int)<=(n:Int):=by omega
     have hp2:(n:Int)<=(a.length:Int):=by omega
     have hp3:n<=a.length:=by omega
     have hp4:n<=cap1:=by omega
     have hp5:(n:Int)<=(cap1:Int):=by omega
     refine Qt 1 50 rfl rfl ?_
     try simp only [Qp]
     refine Qt 2 51 rfl rfl ?_
     try simp only [Qp]
     refine Zh3 3 52 (v:=.slice a1 n cap1) rfl rfl (by kernel_rfl) (by kernel_rfl) (by kernel_rfl) (λ _ _ _ h=>h) (by rfl) (by assumption) ?_ ?_
     ·intro w hSw;go_simp;(first | done | with_reducible rfl | rfl)
     try simp only [Qp]
     refine Qt 5 54 rfl rfl ?_
     try simp only [Qp]
     refine Qt 6 55 rfl rfl ?_
     try simp only [Qp]
     refine Qt 7 56 rfl rfl ?_
     try simp only [Qp]
     refine Qt 8 57 rfl rfl ?_
     try simp only [Qp]
     refine Qt 11 60 rfl rfl ?_
     try simp only [Qp]
     refine Qt 12 61 rfl rfl ?_
     try simp only [Qp]
     refine Zh3 13 62 (v:=sv) rfl rfl (by kernel_rfl) (by kernel_rfl) (by kernel_rfl) (λ _ _ _ h=>h) (by rfl) (by assumption) ?_ ?_
     ·intro w hSw;rw [HSV.out];go_simp;(first | done | with_reducible rfl | rfl)
     try simp only [Qp]
     have HCBwd:=HCB
     refine wpAnyH_ready (rs:=[0,9]) (by decide +kernel) (by simp) ?_
     refine AllReadyH.cons rfl (λ K hK=>?_) (AllReadyH.cons rfl (λ K hK=>?_) AllReadyH.nil)
     ·have bl:=Zab wd (.cells #[] 9)
      have hyx0:wd.heap.size+1<=(wd.alloc (.cells #[] 9)).heap.size:=Nat.le_of_eq (Array.size_push _).symm
      have HGx0:Hid ((wd.alloc (.cells #[] 9)).ownsRow wd.heap.size 9 1 (.slice (some ⟨wd.heap.size,0,none⟩) 0 0) ([]:List ByteArray).length (([]:List ByteArray).map Value.string)):=World.ownsRow_lit (base:=wd.heap.size) (e:=9) (size:=1) wd #[] 0 (by omega) (by simp) rfl
      go_simp
      have HCXx0:Hid ((wd.alloc (.cells #[] 9)).cell? ⟨bb,offb+k0,none⟩=some (.string nm)):=(bl.cell (p:=⟨bb,offb+k0,none⟩) (by show bb<_;omega)).trans HCB.out
      have HRAx0:=Qh ((Zaa sStr).below HRAwd.out bl)
      have HRBx0:=Qh ((Zaa sStr).below HRBwd.out bl)
      have HBx0:=Qh (HBwd.out.trans (bl.mono HBwd.out.size))
      refine hK.out _ _ HCXx0.out (λ hHeld=>?_)
      clear hK K bl
      try simp only [Qp]
      generalize (wd.alloc (.cells #[] 9))=x0 at *
      refine wpAnyH_ready (rs:=[4,9]) (by decide +kernel) (by simp) ?_
      refine AllReadyH.cons rfl (λ K hK=>?_) (AllReadyH.cons rfl (λ K hK=>?_) AllReadyH.nil)
      ·refine Zaq 53 rfl rfl (.tmp 49) (.tmp 52) rfl wd.heap.size (.slice (some ⟨wd.heap.size,0,none⟩) 0 0) (.slice a1 n cap1) [] M1 fa rfl HGx0.out rfl HRAx0.out (by rw [HM1l.out];simp;omega) (by omega) ?_
       intro vqx1 x1 hG hgr
       have hbw:Below wd.heap.size x0 x1:=(Below.refl wd.heap.size x0).grown hgr (by omega) (λ b hb=>(HGx0.out.lt b hb).1)
       have hyx1:=hbw.size
       have HCXx1:=Qh ((hbw.cell (p:=⟨bb,offb+k0,none⟩) (by show bb<_;omega)).trans HCXx0.out)
       have HRBx1:=Qh ((Zaa sStr).frame (w':=x1) (λ b hb=>hbw.block b (HFP.out.2 b hb)) HRBx0.out)
       have HBx1:=Qh (HBx0.out.trans (hbw.mono (by omega)))
       rw [List.nil_append] at hG
       have HGx1:=Qh hG
       obtain⟨aqx1,cqx1,rfl⟩:=ZaW HGx1.out
       refine hK.out _ _ HCXx1.out (λ hHeld=>?_)
       clear hK K hgr hG hbw
       try simp only [Qp]
       refine Qr 9 rfl (λ K hK=>?_) (by decide +kernel)
       have bl:=Zab x1 (.cells #[.string nm] 9)
       have hyx2:x1.heap.size+1<=(x1.alloc (.cells #[.string nm] 9)).heap.size:=Nat.le_of_eq (Array.size_push _).symm
       have HLx2:=Qh (Zdc x1 #[.string nm] 9)
       have HGx2:=Qh (Zct HGx1.out bl)
       go_simp
       have HCXx2:Hid ((x1.alloc (.cells #[.string nm] 9)).cell? ⟨bb,offb+k0,none⟩=some (.string nm)):=(bl.cell (p:=⟨bb,offb+k0,none⟩) (by show bb<_;omega)).trans HCXx1.out
       have HRBx2:=Qh ((Zaa sStr).below HRBx1.out bl)
       have HBx2:=Qh (HBx1.out.trans (bl.mono HBx1.out.size))
       refine hK.out _ _ HCXx2.out (λ hHeld=>?_)
       clear hK K bl
       try simp only [Qp]
       generalize (x1.alloc (.cells #[.string nm] 9))=x2 at *
       refine Qr 10 rfl (λ K hK=>?_) (by decide +kernel)
       refine Zaq 59 rfl rfl (.tmp 53) (.tmp 58) rfl wd.heap.size (.slice aqx1 M1.length cqx1) (.slice (some ⟨x1.heap.size,0,none⟩) 1 1) M1 [nm] _ rfl HGx2.out rfl (ZbX HLx2.out hnm) (by rw [HM1l.out];simp;omega) (by omega) ?_
       intro vqx3 x3 hG hgr
       have hbw:Below wd.heap.size x2 x3:=(Below.refl wd.heap.size x2).grown hgr (by omega) (λ b hb=>(HGx2.out.lt b hb).1)
       have hyx3:=hbw.size
       have HCXx3:=Qh ((hbw.cell (p:=⟨bb,offb+k0,none⟩) (by show bb<_;omega)).trans HCXx2.out)
       have HRBx3:=Qh ((Zaa sStr).frame (w':=x3) (λ b hb=>hbw.block b (HFP.out.2 b hb)) HRBx2.out)
       have HBx3:=Qh (HBx2.out.trans (hbw.mono (by omega)))
       have HGx3:=Qh hG
       obtain⟨aqx3,cqx3,rfl⟩:=ZaW HGx3.out
       refine hK.out _ _ HCXx3.out (λ hHeld=>?_)
       clear hK K hgr hG hbw
       try simp only [Qp]
       refine Qr 14 rfl (λ K hK=>?_) (by decide +kernel)
       refine Zaq 63 rfl rfl (.tmp 59) (.tmp 62) rfl wd.heap.size (.slice aqx3 (M1++[nm]).length cqx3) sv (M1++[nm]) (a.drop n) fb rfl HGx3.out rfl HRBx3.out (by rw [List.length_append,HM1l.out,HTL.out.2];simp;omega) (by omega) ?_
       intro vqx4 x4 hG hgr
       have hbw:Below wd.heap.size x3 x4:=(Below.refl wd.heap.size x3).grown hgr (by omega) (λ b hb=>(HGx3.out.lt b hb).1)
       have hyx4:=hbw.size
       have HCXx4:=Qh ((hbw.cell (p:=⟨bb,offb+k0,none⟩) (by show bb<_;omega)).trans HCXx3.out)
       have HBx4:=Qh (HBx3.out.trans (hbw.mono (by omega)))
       have HGx4:=Qh hG
       refine hK.out _ _ HCXx4.out (λ hHeld=>?_)
       clear hK K hgr hG hbw
       try simp only [Qp]
       refine Qt 15 5 rfl rfl ?_
       try simp only [Qp]
       refine wpAnyH_done (by kernel_rfl) ?_ _
       refine NoPanic.normal ?_
       clear hHeld
       have HFN:Hid (x4.ownsRow w.heap.size 9 1 vqx4 (ins a nm).length ((ins a nm).map Value.string)):=by
        show World.ownsRow _ _ _ _ _ _ _
        rw [HI.out];have:=ZbH HGx4.out hsd;rw [HM1.out] at this;simpa using this
       go_wp2
       go_roundw
       case rel=>exact⟨k0+1,ins a nm,by omega,by go_num,HFD2.out,HFN.out,HSZ.out,hlen2,HBx4.out⟩
       case measure=>simp [intOf];omega
      ·have bl:=Zab x0 (.cells #[.string nm] 9)
       have hyx5:x0.heap.size+1<=(x0.alloc (.cells #[.string nm] 9)).heap.size:=Nat.le_of_eq (Array.size_push _).symm
       have HLx5:=Qh (Zdc x0 #[.string nm] 9)
       have HGx5:=Qh (Zct HGx0.out bl)
       go_simp
       have HCXx5:Hid ((x0.alloc (.cells #[.string nm] 9)).cell? ⟨bb,offb+k0,none⟩=some (.string nm)):=(bl.cell (p:=⟨bb,offb+k0,none⟩) (by show bb<_;omega)).trans HCXx0.out
       have HRAx5:=Qh ((Zaa sStr).below HRAx0.out bl)
       have HRBx5:=Qh ((Zaa sStr).below HRBx0.out bl)
       have HBx5:=Qh (HBx0.out.trans (bl.mono HBx0.out.size))
       refine hK.out _ _ HCXx5.out (λ hHeld=>?_)
       clear hK K bl
       try simp only [Qp]
       generalize (x0.alloc (.cells #[.string nm] 9))=x5 at *
       refine Qr 4 rfl (λ K hK=>?_) (by decide +kernel)
       refine Zaq 53 rfl rfl (.tmp 49) (.tmp 52) rfl wd.heap.size (.slice (some ⟨wd.heap.size,0,none⟩) 0 0) (.slice a1 n cap1) [] M1 fa rfl HGx5.out rfl HRAx5.out (by rw [HM1l.out];simp;omega) (by omega) ?_
       intro vqx6 x6 hG hgr
       have hbw:Below wd.heap.size x5 x6:=(Below.refl wd.heap.size x5).grown hgr (by omega) (λ b hb=>(HGx5.out.lt b hb).1)
       have hyx6:=hbw.size
       have HCXx6:=Qh ((hbw.cell (p:=⟨bb,offb+k0,none⟩) (by show bb<_;omega)).trans HCXx5.out)
       have HRBx6:=Qh ((Zaa sStr).frame (w':=x6) (λ b hb=>hbw.block b (HFP.out.2 b hb)) HRBx5.out)
       have HLx6:=Qh ((hgr.block (x0.heap.size) (by omega) (by simp [Value.ownBlock];omega)).trans HLx5.out)
       have HBx6:=Qh (HBx5.out.trans (hbw.mono (by omega)))
       rw [List.nil_append] at hG
       have HGx6:=Qh hG
       obtain⟨aqx6,cqx6,rfl⟩:=ZaW HGx6.out
       refine hK.out _ _ HCXx6.out (λ hHeld=>?_)
       clear hK K hgr hG hbw
       try simp only [Qp]
       refine Qr 10 rfl (λ K hK=>?_) (by decide +kernel)
       refine Zaq 59 rfl rfl (.tmp 53) (.tmp 58) rfl wd.heap.size (.slice aqx6 M1.length cqx6) (.slice (some ⟨x0.heap.size,0,none⟩) 1 1) M1 [nm] _ rfl HGx6.out rfl (ZbX HLx6.out hnm) (by rw [HM1l.out];simp;omega) (by omega) ?_
       intro vqx7 x7 hG hgr
       have hbw:Below wd.heap.size x6 x7:=(Below.refl wd.heap.size x6).grown hgr (by omega) (λ b hb=>(HGx6.out.lt b hb).1)
       have hyx7:=hbw.size
       have HCXx7:=Qh ((hbw.cell (p:=⟨bb,offb+k0,none⟩) (by show bb<_;omega)).trans HCXx6.out)
       have HRBx7:=Qh ((Zaa sStr).frame (w':=x7) (λ b hb=>hbw.block b (HFP.out.2 b hb)) HRBx6.out)
       have HBx7:=Qh (HBx6.out.trans (hbw.mono (by omega)))
       have HGx7:=Qh hG
       obtain⟨aqx7,cqx7,rfl⟩:=ZaW HGx7.out
       refine hK.out _ _ HCXx7.out (λ hHeld=>?_)
       clear hK K hgr hG hbw
       try simp only [Qp]
       refine Qr 14 rfl (λ K hK=>?_) (by decide +kernel)
       refine Zaq 63 rfl rfl (.tmp 59) (.tmp 62) rfl wd.heap.size (.slice aqx7 (M1++[nm]).length cqx7) sv (M1++[nm]) (a.drop n) fb rfl HGx7.out rfl HRBx7.out (by rw [List.length_append,HM1l.out,HTL.out.2];simp;omega) (by omega) ?_
       intro vqx8 x8 hG hgr
       have hbw:Below wd.heap.size x7 x8:=(Below.refl wd.heap.size x7).grown hgr (by omega) (λ b hb=>(HGx7.out.lt b hb).1)
       have hyx8:=hbw.size
       have HCXx8:=Qh ((hbw.cell (p:=⟨bb,offb+k0,none⟩) (by show bb<_;omega)).trans HCXx7.out)
       have HBx8:=Qh (HBx7.out.trans (hbw.mono (by omega)))
       have HGx8:=Qh hG
       refine hK.out _ _ HCXx8.out (λ hHeld=>?_)
       clear hK K hgr hG hbw
       try simp only [Qp]
       refine Qt 15 5 rfl rfl ?_
       try simp only [Qp]
       refine wpAnyH_done (by kernel_rfl) ?_ _
       refine NoPanic.normal ?_
       clear hHeld
       have HFN:Hid (x8.ownsRow w.heap.size 9 1 vqx8 (ins a nm).length ((ins a nm).map Value.string)):=by
        show World.ownsRow _ _ _ _ _ _ _
        rw [HI.out];have:=ZbH HGx8.out hsd;rw [HM1.out] at this;simpa using this
       go_wp2
       go_roundw
       case rel=>exact⟨k0+1,ins a nm,by omega,by go_num,HFD2.out,HFN.out,HSZ.out,hlen2,HBx8.out⟩
       case measure=>simp [intOf];omega
     ·have bl:=Zab wd (.cells #[.string nm] 9)
      have hyx9:wd.heap.size+1<=(wd.alloc (.cells #[.string nm] 9)).heap.size:=Nat.le_of_eq (Array.size_push _).symm
      have HLx9:=Qh (Zdc wd #[.string nm] 9)
      go_simp
      have HCXx9:Hid ((wd.alloc (.cells #[.string nm] 9)).cell? ⟨bb,offb+k0,none⟩=some (.string nm)):=(bl.cell (p:=⟨bb,offb+k0,none⟩) (by show bb<_;omega)).trans HCB.out
      have HRAx9:=Qh ((Zaa sStr).below HRAwd.out bl)
      have HRBx9:=Qh ((Zaa sStr).below HRBwd.out bl)
      have HBx9:=Qh (HBwd.out.trans (bl.mono HBwd.out.size))
      refine hK.out _ _ HCXx9.out (λ hHeld=>?_)
      clear hK K bl
      try simp only [Qp]
      generalize (wd.alloc (.cells #[.string nm] 9))=x9 at *
      refine Qr 0 rfl (λ K hK=>?_) (by decide +kernel)
      have bl:=Zab x9 (.cells #[] 9)
      have hyx10:x9.heap.size+1<=(x9.alloc (.cells #[] 9)).heap.size:=Nat.le_of_eq (Array.size_push _).symm
      have HGx10:Hid ((x9.alloc (.cells #[] 9)).ownsRow wd.heap.size 9 1 (.slice (some ⟨x9.heap.size,0,none⟩) 0 0) ([]:List ByteArray).length (([]:List ByteArray).map Value.string)):=World.ownsRow_lit (base:=wd.heap.size) (e:=9) (size:=1) x9 #[] 0 (by omega) (by simp) rfl
      have HLx10:=Qh ((bl.block _ (by omega)).trans HLx9.out)
      go_simp
      have HCXx10:Hid ((x9.alloc (.cells #[] 9)).cell? ⟨bb,offb+k0,none⟩=some (.string nm)):=(bl.cell (p:=⟨bb,offb+k0,none⟩) (by show bb<_;omega)).trans HCXx9.out
      have HRAx10:=Qh ((Zaa sStr).below HRAx9.out bl)
      have HRBx10:=Qh ((Zaa sStr).below HRBx9.out bl)
      have HBx10:=Qh (HBx9.out.trans (bl.mono HBx9.out.size))
      refine hK.out _ _ HCXx10.out (λ hHeld=>?_)
      clear hK K bl
      try simp only [Qp]
      generalize (x9.alloc (.cells #[] 9))=x10 at *
      refine Qr 4 rfl (λ K hK=>?_) (by decide +kernel)
      refine Zaq 53 rfl rfl (.tmp 49) (.tmp 52) rfl wd.heap.size (.slice (some ⟨x9.heap.size,0,none⟩) 0 0) (.slice a1 n cap1) [] M1 fa rfl HGx10.out rfl HRAx10.out (by rw [HM1l.out];simp;omega) (by omega) ?_
      intro vqx11 x11 hG hgr
      have hbw:Below wd.heap.size x10 x11:=(Below.refl wd.heap.size x10).grown hgr (by omega) (λ b hb=>(HGx10.out.lt b hb).1)
      have hyx11:=hbw.size
      have HCXx11:=Qh ((hbw.cell (p:=⟨bb,offb+k0,none⟩) (by show bb<_;omega)).trans HCXx10.out)
      have HRBx11:=Qh ((Zaa sStr).frame (w':=x11) (λ b hb=>hbw.block b (HFP.out.2 b hb)) HRBx10.out)
      have HLx11:=Qh ((hgr.block (wd.heap.size) (by omega) (by simp [Value.ownBlock];omega)).trans HLx10.out)
      have HBx11:=Qh (HBx10.out.trans (hbw.mono (by omega)))
      rw [List.nil_append] at hG
      have HGx11:=Qh hG
      obtain⟨aqx11,cqx11,rfl⟩:=ZaW HGx11.out
      refine hK.out _ _ HCXx11.out (λ hHeld=>?_)
      clear hK K hgr hG hbw
      try simp only [Qp]
      refine Qr 10 rfl (λ K hK=>?_) (by decide +kernel)
      refine Zaq 59 rfl rfl (.tmp 53) (.tmp 58) rfl wd.heap.size (.slice aqx11 M1.length cqx11) (.slice (some ⟨wd.heap.size,0,none⟩) 1 1) M1 [nm] _ rfl HGx11.out rfl (ZbX HLx11.out hnm) (by rw [HM1l.out];simp;omega) (by omega) ?_
      intro vqx12 x12 hG hgr
      have hbw:Below wd.heap.size x11 x12:=(Below.refl wd.heap.size x11).grown hgr (by omega) (λ b hb=>(HGx11.out.lt b hb).1)
      have hyx12:=hbw.size
      have HCXx12:=Qh ((hbw.cell (p:=⟨bb,offb+k0,none⟩) (by show bb<_;omega)).trans HCXx11.out)
      have HRBx12:=Qh ((Zaa sStr).frame (w':=x12) (λ b hb=>hbw.block b (HFP.out.2 b hb)) HRBx11.out)
      have HBx12:=Qh (HBx11.out.trans (hbw.mono (by omega)))
      have HGx12:=Qh hG
      obtain⟨aqx12,cqx12,rfl⟩:=ZaW HGx12.out
      refine hK.out _ _ HCXx12.out (λ hHeld=>?_)
      clear hK K hgr hG hbw
      try simp only [Qp]
      refine Qr 14 rfl (λ K hK=>?_) (by decide +kernel)
      refine Zaq 63 rfl rfl (.tmp 59) (.tmp 62) rfl wd.heap.size (.slice aqx12 (M1++[nm]).length cqx12) sv (M1++[nm]) (a.drop n) fb rfl HGx12.out rfl HRBx12.out (by rw [List.length_append,HM1l.out,HTL.out.2];simp;omega) (by omega) ?_
      intro vqx13 x13 hG hgr
      have hbw:Below wd.heap.size x12 x13:=(Below.refl wd.heap.size x12).grown hgr (by omega) (λ b hb=>(HGx12.out.lt b hb).1)
      have hyx13:=hbw.size
      have HCXx13:=Qh ((hbw.cell (p:=⟨bb,offb+k0,none⟩) (by show bb<_;omega)).trans HCXx12.out)
      have HBx13:=Qh (HBx12.out.trans (hbw.mono (by omega)))
      have HGx13:=Qh hG
      refine hK.out _ _ HCXx13.out (λ hHeld=>?_)
      clear hK K hgr hG hbw
      try simp only [Qp]
      refine Qt 15 5 rfl rfl ?_
      try simp only [Qp]
      refine wpAnyH_done (by kernel_rfl) ?_ _
      refine NoPanic.normal ?_
      clear hHeld
      have HFN:Hid (x13.ownsRow w.heap.size 9 1 vqx13 (ins a nm).length ((ins a nm).map Value.string)):=by
       show World.ownsRow _ _ _ _ _ _ _
       rw [HI.out];have:=ZbH HGx13.out hsd;rw [HM1.out] at this;simpa using this
      go_wp2
      go_roundw
      case rel=>exact⟨k0+1,ins a nm,by omega,by go_num,HFD2.out,HFN.out,HSZ.out,hlen2,HBx13.out⟩
      case measure=>simp [intOf];omega
theorem Zgl (va vb:Value) (a:List ByteArray) (nm:ByteArray) (fpa fpb:List Nat) (w:World) (hl:a.length<=900000) (Ha:(Zaa sStr).R w [va] a fpa) (Hb:(Zaa sStr).R w [vb] [nm] fpb) :
  Calls Tryz.prog 75 #[va,vb] w (Zd7 (ins a nm) w):=ZfN va vb a [nm] fpa fpb w (by simp;omega) Ha Hb
theorem ZnS {T:List DMacro} {x:ByteArray} (h:0<=place T x):∃ k:Nat,place T x=k/\k<T.length:=by
 have key:∀ d k,T.length-k=d->-1<=plFrom T x k/\plFrom T x k<(T.length:Int):=by
  intro d
  induction d with
  | zero=>intro k hk;rw [ZhX (by omega)];omega
  |
   succ d ih =>
   intro k hk
   have hlt:k<T.length:=by omega
   cases e:(T[k].name.toList==x.toList)
   ·rw [Zgx hlt e];exact ih (k+1) (by omega)
   ·rw [Zkr hlt e];omega
 have:=key _ 0 rfl
 have h2:-1<=place T x/\place T x<(T.length:Int):=this
 exact⟨(place T x).toNat,by omega,by omega⟩
theorem mac_at {w:World} {b off n cap:Nat} {l:List DMacro} {fp:List Nat} (H:(Zaa sMacro).R w [.slice (some ⟨b,off,none⟩) n cap] l fp) {j:Nat} (hj:j<l.length) :
  ∃ (a2 a3:Option Addr) (c2 c3:Nat) (fj:List Nat),w.cell? ⟨b,off+j * 4,none⟩=some (.string l[j].name)/\w.cell? ⟨b,off+j * 4+1,none⟩=some (.bool l[j].function)/\w.cell? ⟨b,off+j * 4+2,none⟩=some (.slice a2 l[j].params.length c2)/\w.cell? ⟨b,off+j * 4+3,none⟩=some (.slice a3 l[j].body.length c3) /\
   sMacro.R w [.string l[j].name,.bool l[j].function,.slice a2 l[j].params.length c2,.slice a3 l[j].body.length c3] l[j] fj/\b<w.heap.size/\∀ x∈fj,x∈fp:=by
 obtain⟨a,cap',hv,hc,hm,hrow⟩:=Zac H
 obtain⟨b',off',fps,ha,hb,hfp,he⟩:=hrow (by omega)
 simp only [Value.slice.injEq] at hv
 obtain⟨rfl,rfl,rfl⟩:=hv
 simp only [Qi,Addr.mk.injEq,and_true] at ha
 obtain⟨rfl,rfl⟩:=ha
 obtain⟨es,hE,hR⟩:=he j hj
 have hR2:=hR
 obtain⟨h2,h3,q2,q3,rfl,-,K2,K3,-⟩:=hR2
 obtain⟨a2,c2,rfl,-⟩:=Zaf K2
 obtain⟨a3,c3,rfl,-⟩:=Zac K3
 have c0:w.cell? ⟨b,off+j * 4,none⟩=some _:=Zao hE (by decide) rfl
 have c1':w.cell? ⟨b,off+j * 4+1,none⟩=some _:=Zae (j:=1) hE (by decide) rfl
 have c2':w.cell? ⟨b,off+j * 4+2,none⟩=some _:=Zae (j:=2) hE (by decide) rfl
 have c3':w.cell? ⟨b,off+j * 4+3,none⟩=some _:=Zae (j:=3) hE (by decide) rfl
 exact⟨a2,a3,c2,c3,fps j,c0,c1',c2',c3',hR,hb,λ x hx=>by rw [hfp];exact List.mem_cons_of_mem _ (List.mem_flatMap.2 ⟨j,List.mem_range.2 hj,hx⟩)⟩
theorem ZnT {T:List DMacro} {t:Tok} (h:t.kind≠1):findM T t=none:=by unfold findM;rw [if_neg (λ h'=>h h'.1)]
theorem ZnU {T:List DMacro} {t:Tok} (h:place T t.text<0):findM T t=none:=by unfold findM;rw [if_neg (λ h'=>by have:=h'.2.2;omega)]
theorem Zk8 {T:List DMacro} {t:Tok} (h:hasN t.hidden t.text=true):findM T t=none:=by unfold findM;rw [if_neg (λ h'=>by rw [h] at h';exact absurd h'.2.1 (by simp))]
theorem find_yes {T:List DMacro} {t:Tok} {k:Nat} (h1:t.kind=1) (h2:hasN t.hidden t.text=false) (h3:place T t.text=k) (hk:k<T.length):findM T t=some T[k]:=by
 unfold findM
 rw [if_pos ⟨h1,h2,by omega⟩,h3]
 exact List.getElem?_eq_getElem hk
def FindOf (T:List DMacro) (fpT:List Nat) (t:Tok) (w:World) (e:Ending) (w':World):Prop:=
 (findM T t=none/\e=.returned (.tuple #[.agg #[.string ⟨#[]⟩,.bool false,.slice none 0 0,.slice none 0 0],.bool false])/\Below w.heap.size w w') \/
 ∃ (m:DMacro) (a2 a3:Option Addr) (c2 c3:Nat) (fp:List Nat),findM T t=some m/\e=.returned (.tuple #[.agg #[.string m.name,.bool m.function,.slice a2 m.params.length c2,.slice a3 m.body.length c3],.bool true]) /\
  sMacro.R w' [.string m.name,.bool m.function,.slice a2 m.params.length c2,.slice a3 m.body.length c3] m fp/\(∀ b∈fp,b∈fpT)/\Below w.heap.size w w'
theorem Y15A1 {g:Prop} (h:g:=by
 generalize place T t.text=pl at *
 obtain⟨z0,z1,z2,z3⟩:=Q4 HX3.out.2
 have zf0:=Qf 0 HX3.out.2
 have zf1:=Qf 1 HX3.out.2
 have zf2:=Qf 2 HX3.out.2
 have zf3:=Qf 3 HX3.out.2
 have HS:=Qh (ZaH HX3.out.2 (.string ⟨#[]⟩) (.bool false) (.slice none 0 0) (.slice none 0 0))
 have HB:=Qh (Zay (g:=w.heap.size+1) hB3 (by omega) (.string ⟨#[]⟩) (.bool false) (.slice none 0 0) (.slice none 0 0))
 unfold set4 at HS HB
 clear h1
 go_wp2
 refine bodyPost_ret (Zap rfl _ _ (w.heap.size+1) _ _ _ _ rfl HS.out Tryz.underlying70 rfl (by kernel_rfl)) rfl ?_
 exact .inl ⟨HF.out,rfl,HB.out⟩):g:=h
theorem Zk9 (vT:Value) (T:List DMacro) (fpT:List Nat) (ct:List Value) (t:Tok) (fpt:List Nat) (w:World) (HT:(Zaa sMacro).R w [vT] T fpT) (H:sTok.R w ct t fpt) :
  Calls Tryz.prog 70 #[vT,.agg ct.toArray] w (FindOf T fpT t w):=by
 have HT0:=HT
 have htlt:=(Zaa sMacro).lt HT
 obtain⟨aT,cT,rfl,-,hcm,hrowT⟩:=Zac HT
 unfold maxLen at hcm
 obtain⟨hv,rfl,-,-,KT⟩:=H
 obtain⟨ah,ch,rfl,-⟩:=Zaf KT
 have b0:=Zab w (.cells #[.int .i64 t.kind,.string t.text,.bool t.spaced,.slice ah t.hidden.length ch] 57)
 have b2:=b0.trans ((Zab (w.alloc (.cells #[.int .i64 t.kind,.string t.text,.bool t.spaced,.slice ah t.hidden.length ch] 57)) (.cells #[.string ⟨#[]⟩,.bool false,.slice none 0 0,.slice none 0 0] 70)).mono b0.size)
 have HX:=Qh (ZbI w #[.int .i64 t.kind,.string t.text,.bool t.spaced,.slice ah t.hidden.length ch] #[.string ⟨#[]⟩,.bool false,.slice none 0 0,.slice none 0 0] 57 70)
 have HT2:=Qh ((Zaa sMacro).below HT0 b2)
 have HK2:=Qh ((Zaa sStr).below KT b2)
 have HLT:=Qh htlt
 have HROW:Hid (0<T.length->∃ bb ob,aT=some ⟨bb,ob,none⟩):=λ h=>by obtain⟨b,o,-,e,-⟩:=hrowT h;exact⟨b,o,e⟩
 clear HT0 htlt KT hrowT b0
 go_enter Tryz.func70,Tryz.ntmps70
 go_upto_region 1 with fail
 generalize ((w.alloc (.cells #[.int .i64 t.kind,.string t.text,.bool t.spaced,.slice ah t.hidden.length ch] 57)).alloc (.cells #[.string ⟨#[]⟩,.bool false,.slice none 0 0,.slice none 0 0] 70))=W2 at *
 have p1:=Qc 1 HX.out.1
 have HPL:=Qh (Zf9 _ T t.text fpT W2 HT2.out)
 go_wp2_with fail
 refine HPL.out.mono ?_
 rintro e W3 ⟨rfl,hb3⟩
 clear p1 HPL
 have HX3:=Qh (And.intro (mbox HX.out.1 hb3) (mbox HX.out.2 hb3))
 have hB3:=b2.trans (hb3.mono b2.size)
 have HT3:=Qh ((Zaa sMacro).below HT2.out hb3)
 have HK3:=Qh ((Zaa sStr).below HK2.out hb3)
 have q0:=Qc 0 HX3.out.1
 have q1:=Qc 1 HX3.out.1
 have q3:=Qc 3 HX3.out.1
 clear HT2 HK2 HX hb3 b2
 by_cases h1:t.kind=1
 rotate_left
 ·have HF:=Qh (ZnT (T:=T) h1)
  have e1:(t.kind != 1)=true:=by simp [h1]
  exact Y15A1
 have e1:(t.kind != 1)=false:=by simp [h1]
 by_cases h2:place T t.text<0
 ·have HF:=Qh (ZnU h2)
  exact Y15A1
 obtain⟨n,hn,hnl⟩:=ZnS (by omega:0<=place T t.text)
 have HN:=Qh hn
 have H1:=Qh h1
 rw [hn]
 have hn0:¬ ((n:Int)<0):=by omega
 clear h1 h2 hn
 have HHS:=Qh (Zid _ t.hidden t.text _ W3 HK3.out)
 cases hh:hasN t.hidden t.text
 rotate_left
 ·have HF:=Qh (Zk8 (T:=T) hh)
  rw [hh] at HHS
  clear hh
  go_wp2_with fail
  refine HHS.out.mono ?_
  rintro e W4 ⟨rfl,hb4⟩
  have HX4:=Qh (mbox HX3.out.2 hb4)
  have hB4:=hB3.trans (hb4.mono hB3.size)
  obtain⟨z0,z1,z2,z3⟩:=Q4 HX4.out
  have zf0:=Qf 0 HX4.out
  have zf1:=Qf 1 HX4.out
  have zf2:=Qf 2 HX4.out
  have zf3:=Qf 3 HX4.out
  have HS:=Qh (ZaH HX4.out (.string ⟨#[]⟩) (.bool false) (.slice none 0 0) (.slice none 0 0))
  have HB:=Qh (Zay (g:=w.heap.size+1) hB4 (by omega) (.string ⟨#[]⟩) (.bool false) (.slice none 0 0) (.slice none 0 0))
  unfold set4 at HS HB
  clear q0 q1 q3 HHS
  go_wp2
  refine bodyPost_ret (Zap rfl _ _ (w.heap.size+1) _ _ _ _ rfl HS.out Tryz.underlying70 rfl (by kernel_rfl)) rfl ?_
  exact .inl ⟨HF.out,rfl,HB.out⟩
 have HF:=Qh (find_yes H1.out hh HN.out hnl)
 rw [hh] at HHS
 clear hh
 obtain⟨bb,ob,rfl⟩:=HROW.out (by omega)
 go_wp2_with fail
 refine HHS.out.mono ?_
 rintro e W4 ⟨rfl,hb4⟩
 have HX4:=Qh (mbox HX3.out.2 hb4)
 have hB4:=hB3.trans (hb4.mono hB3.size)
 obtain⟨a2,a3,c2,c3,fm,m0,m1,m2,m3,RM,hbb,hfm⟩:=mac_at ((Zaa sMacro).below HT3.out hb4) hnl
 have HLM:Hid (w.heap.size+1∉fm):=λ h=>by have:=HLT.out _ (hfm _ h);omega
 have HFM:=Qh hfm
 generalize hM:T[n]=M at *
 obtain⟨z0,z1,z2,z3⟩:=Q4 HX4.out
 have zf0:=Qf 0 HX4.out
 have zf1:=Qf 1 HX4.out
 have zf2:=Qf 2 HX4.out
 have zf3:=Qf 3 HX4.out
 have HS:=Qh (ZaH HX4.out (.string M.name) (.bool M.function) (.slice a2 M.params.length c2) (.slice a3 M.body.length c3))
 have HB:=Qh (Zay (g:=w.heap.size+1) hB4 (by omega) (.string M.name) (.bool M.function) (.slice a2 M.params.length c2) (.slice a3 M.body.length c3))
 have HRM:=Qh (sMacro.set4R RM HLM.out (.string M.name) (.bool M.function) (.slice a2 M.params.length c2) (.slice a3 M.body.length c3))
 unfold set4 at HS HB HRM
 have i0:(0:Int)<=(n:Int):=by omega
 have i1:(n:Int)<(T.length:Int):=by omega
 clear q0 q1 q3 HHS hM RM hfm
 go_wp2
 refine bodyPost_ret (Zap rfl _ _ (w.heap.size+1) _ _ _ _ rfl HS.out Tryz.underlying70 rfl (by kernel_rfl)) rfl ?_
 exact .inr ⟨M,a2,a3,c2,c3,fm,HF.out,rfl,HRM.out,HFM.out,HB.out⟩
def NewN (l:List Tok) (w:World) (e:Ending) (w':World):Prop:=
 ∃ (v:Value) (L:List (Elem Tok)),e=.returned v/\RowN sTok w.heap.size 57 v L w'/\L.map (·.d)=l/\(∀ x∈L,∀ b∈x.fp,w.heap.size<=b)/\Below w.heap.size w w'
theorem Zg3 (v:Value) (l:List Tok) (fp:List Nat) (vh:Value) (h:List ByteArray) (fph:List Nat) (sp:Bool) (w:World) (hl:l.length<=100000) (hh:∀ k,(hk:k<l.length)->l[k].hidden.length+h.length<=1000000) (H:(Zaa sTok).R w [v] l fp) (HH:(Zaa sStr).R w [vh] h fph) :
  Calls Tryz.prog 74 #[v,vh,.bool sp] w (NewN (putL l h sp) w):=by
 obtain⟨a,cap,rfl,hc,hm,hrow⟩:=Zac H
 unfold maxLen at hm
 have HK:=Qh H
 have HHH:=Qh HH
 have HHN:=Qh hh
 have hba:=Zab w (.cells #[] 57)
 have HG:=Qh (RowN.lit0 sTok 57 w (Nat.le_refl _))
 clear H HH hh
 go_enter Tryz.func74,Tryz.ntmps74
 go_upto_region 3 with fail
 generalize (w.alloc (.cells #[] 57))=W1 at *
 go_wp2
 go_loopw [7,8] (λ vo i wr=>∃ (k:Nat) (O:List (Elem Tok)),k<=l.length/\i=.int .i64 k/\Hid (O.map (·.d)=(l.take k).map (putT h))/\Hid (RowN sTok w.heap.size 57 vo O wr)/\Hid (∀ x∈O,∀ b∈x.fp,w.heap.size<=b)/\Below w.heap.size w wr) (λ _ i _=>l.length-(intOf i).toNat)
 case atStart=>exact⟨0,[],by omega,rfl,rfl,HG.out,(λ x hx=>by simp at hx),hba⟩
 case round =>
  clear HG hba
  obtain⟨k,O,hk,rfl,HD,HR,HLO,hb⟩:=hrel
  have hOk:O.length=k:=by have:=congrArg List.length HD.out;rw [List.length_map,List.length_map,List.length_take] at this;omega
  have HOK:=Qh hOk
  obtain⟨ao,co,hvo,-⟩:=HR.out.val
  rw [hOk] at hvo
  subst hvo
  clear hOk
  by_cases hlt:k<l.length
  ·obtain⟨b1,o1,-,rfl,-,-,-⟩:=hrow (by omega)
   obtain⟨xa,xc,xf,x0,x1,x2,x3,xR,hbb,-⟩:=ZaJ HK.out hlt
   replace x0:=(hb.cell (p:=⟨b1,o1+k * 4,none⟩) hbb).trans x0
   replace x1:=(hb.cell (p:=⟨b1,o1+k * 4+1,none⟩) hbb).trans x1
   replace x2:=(hb.cell (p:=⟨b1,o1+k * 4+2,none⟩) hbb).trans x2
   replace x3:=(hb.cell (p:=⟨b1,o1+k * 4+3,none⟩) hbb).trans x3
   have XR:=Qh (sTok.below xR hb)
   have bx:=Zab wr (.cells #[.int .i64 l[k].kind,.string l[k].text,.bool l[k].spaced,.slice xa l[k].hidden.length xc] 57)
   have HX2:=Qh (heap_alloc_new wr (.cells #[.int .i64 l[k].kind,.string l[k].text,.bool l[k].spaced,.slice xa l[k].hidden.length xc] 57))
   have HHK:=Qh (HHN.out k hlt)
   have hwr:=hb.size
   clear xR hrow
   go_upto_region 6 with fail
   clear x0 x1 x2 x3
   generalize (wr.alloc (.cells #[.int .i64 l[k].kind,.string l[k].text,.bool l[k].spaced,.slice xa l[k].hidden.length xc] 57))=W2 at *
   obtain⟨y,HY⟩:∃ y,Hid (y=l[k]):=⟨l[k],Qh rfl⟩
   rw [show l[k]=y from HY.out.symm] at XR HX2 HHK
   have p3:=Qc 3 HX2.out
   have hb2:=hb.trans (bx.mono hb.size)
   obtain⟨hv',hcs,okk,oks,KH⟩:=XR.out
   simp only [List.cons.injEq,and_true,true_and] at hcs
   subst hcs
   have HOKS:=Qh (And.intro okk oks)
   have HU:=Qh (ZfN _ _ y.hidden h _ _ W2 HHK.out ((Zaa sStr).below KH bx) ((Zaa sStr).below HHH.out hb2))
   clear KH okk oks XR
   go_upto_region 7 with(
              go_at_call 75;refine (HU.out).mono ?_;rintro e w3 ⟨an,cn,fn,rfl,Rn,On,-,hb3⟩
              have HX3:=Qh (mbox HX2.out hb3)
              have p0':=Qc 0 HX3.out
              have pf3:=Qf 3 HX3.out
              have p3':=Qc 3 HX3.out)
   have hwn:wr.heap.size∉fn:=λ h=>by have:=(On.2 _ h).1;have:=mlt HX2.out;omega
   have HN4:=Qh ((Zaa sStr).setB Rn hwn 3 (.slice an (h.foldl ins y.hidden).length cn))
   have hbr3:Below wr.heap.size wr w3:=bx.trans (hb3.mono bx.size)
   have hbr4:=hbr3.setCell (p:=⟨wr.heap.size,3,none⟩) (Nat.le_refl _) (.slice an (h.foldl ins y.hidden).length cn)
   have HX4:=Qh (Zah HX3.out 3 (.slice an (h.foldl ins y.hidden).length cn))
   have HFN:Hid (∀ b∈fn,W2.heap.size<=b):=λ b hb=>(On.2 b hb).1
   have hW2:wr.heap.size<W2.heap.size:=mlt HX2.out
   clear p3 p0' pf3 p3' HU HX2 HX3 Rn On hb3 hbr3
   generalize w3.setCell ⟨wr.heap.size,3,none⟩ (.slice an (h.foldl ins y.hidden).length cn)=w4 at *
   obtain⟨t0,t1,t2,t3⟩:=Q4 HX4.out
   have bl:=Zab w4 (.cells #[.int .i64 y.kind,.string y.text,.bool y.spaced,.slice an (h.foldl ins y.hidden).length cn] 57)
   have HL5:=Qh (heap_alloc_new w4 (.cells #[.int .i64 y.kind,.string y.text,.bool y.spaced,.slice an (h.foldl ins y.hidden).length cn] 57))
   have HR5:=Qh ((HR.out.below hbr4).below bl)
   have HMI:=Qh HR.out.mine
   have RX:Hid (sTok.R (w4.alloc (.cells #[.int .i64 y.kind,.string y.text,.bool y.spaced,.slice an (h.foldl ins y.hidden).length cn] 57)) [.int .i64 y.kind,.string y.text,.bool y.spaced,.slice an (h.foldl ins y.hidden).length cn] (putT h y) fn):=⟨_,rfl,HOKS.out.1,HOKS.out.2,(Zaa sStr).below HN4.out bl⟩
   have hb5:=(hb.trans (hbr4.mono hb.size)).trans (bl.mono (hb.trans (hbr4.mono hb.size)).size)
   have HXN:Hid (∀ b∈fn,(Value.slice ao k co).ownBlock≠some b):=λ b hb h=>by
    have h1:=(HMI.out b h).2
    have h2:=HFN.out b hb
    omega
   clear HR HN4 bx hbr4 bl
   go_wp2_with (at_builtin;refine ZaG (X:=[(⟨[.int .i64 y.kind,.string y.text,.bool y.spaced,.slice an (h.foldl ins y.hidden).length cn],putT h y,fn⟩:Elem Tok)]) ti_tok rfl (by decide) _ rfl (.tmp 26) (.tmp 28) rfl w.heap.size (.slice ao k co) rfl HR5.out ⟨w4.heap.size,0,none⟩ 1 1 rfl rfl (λ x hx=>by obtain rfl:=Qm hx;exact⟨rfl,RX.out,HXN.out⟩) (λ x hx=>by obtain rfl:=Qm hx;exact ZaE _ _ _ _ RX.out) (λ j u hj=>by rw [ZaI,Nat.zero_add,cell_of_row _ _ _ _ _ _ HL5.out];simpa using hj) (by have:=HOK.out;unfold maxLen;omega) (by have:=HOK.out;omega) hb5.size ?_;intro v6 w6 hR6 hg6 hp6)
   have hb6:Below w.heap.size w w6:=hb5.grown hg6 hb5.size (λ b hb=>(HMI.out b hb).1)
   have HR6:=Qh hR6
   have HLO6:Hid (∀ x∈O++[(⟨[.int .i64 y.kind,.string y.text,.bool y.spaced,.slice an (h.foldl ins y.hidden).length cn],putT h y,fn⟩:Elem Tok)],∀ b∈x.fp,w.heap.size<=b):=λ x hx b hb'=>by
    rcases Qa hx with hx | hx
    ·exact HLO.out x hx b hb'
    ·rw [Qm hx] at hb';have:=HFN.out b hb';omega
   have HD6:Hid ((O++[(⟨[.int .i64 y.kind,.string y.text,.bool y.spaced,.slice an (h.foldl ins y.hidden).length cn],putT h y,fn⟩:Elem Tok)]).map (·.d)=(l.take (k+1)).map (putT h)):=by
    show _=_
    rw [List.map_append,HD.out,List.take_succ_eq_append_getElem hlt,List.map_append,HY.out];rfl
   clear hR6 hg6 hp6
   go_roundw
   case rel=>exact⟨k+1,_,by omega,by go_num,HD6,HR6,HLO6,hb6⟩
   case measure=>simp [intOf];omega
  ·have hkl:k=l.length:=by omega
   obtain⟨fpo,rO,hfo,-⟩:=HR.out.read
   have HDL:Hid (O.map (·.d)=l.map (putT h)):=by show _=_;rw [HD.out,List.take_of_length_le (by omega)]
   have HLF:Hid (∀ b∈fpo,w.heap.size<=b):=λ b hb'=>by
    rcases hfo b hb' with h1 | ⟨x,hx,h1⟩
    ·exact(HR.out.mine b h1).1
    ·exact HLO.out x hx b h1
   have hsl:=Zdz _ _ fpo wr sp (by rw [List.length_map];have:=HOK.out;omega) rO
   have HSP:=Qh hsl
   clear hsl rO hfo hkl HR HD HLO
   go_wp2_with fail
   refine HSP.out.mono ?_
   rintro e w5 ⟨v5,L5,rfl,HR5,HD5,HF5,hb5⟩
   have HRF:=Qh (HR5.lower (base':=w.heap.size) hb.size)
   have HDF:Hid (L5.map (·.d)=putL l h sp):=by show _=_;rw [HD5,HDL.out];rfl
   have HFF:Hid (∀ x∈L5,∀ b∈x.fp,w.heap.size<=b):=λ x hx b hb'=>HLF.out b (HF5 x hx b hb')
   have hbf:=hb.trans (hb5.mono hb.size)
   obtain⟨a5,c5,hv5,-⟩:=HR5.val
   subst hv5
   clear HR5 HD5 HF5 HSP
   go_wp2
   go_ret
   exact⟨_,L5,rfl,HRF.out,HDF.out,HFF.out,hbf⟩
end Go.Proofs.YtiaiggjfepoahaaGreat
