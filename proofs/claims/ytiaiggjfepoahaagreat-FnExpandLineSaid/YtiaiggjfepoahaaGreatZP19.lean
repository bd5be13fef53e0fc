/- Texts that the proof of P stands on, in one file. -/
import Derived.Test.YtiaiggjfepoahaaGreatZP18
set_option linter.unusedVariables false
set_option maxHeartbeats 16000000
set_option maxRecDepth 100000
set_option linter.unusedSimpArgs false
/- Of the program: one step. -/
namespace Go.Proofs.YtiaiggjfepoahaaGreat
open Go.RowKit
theorem head_mem {l:List Tok} (h0:0<l.length):l.headD zTok∈l:=by
 cases l with
 | nil=>simp at h0
 | cons t r=>simp
theorem Zn3 (a b:List ByteArray):(both a b).length<=a.length:=List.length_filter_le _ _
theorem ZjS {N:List ByteArray} {m:DMacro} {l:List Tok} {A:Args} {en:Nat} {hs:List ByteArray} (h:useR m l=some (A,en,hs)) (hl:l.length<=60) (h0:0<l.length) (hg:∀ t∈l,Good N t) (hN:N.length<=5000) (hm:m.name∈N) :
  A.length<=60/\(∀ a∈A,a.length<=60/\∀ t∈a,Good N t)/\en<=l.length/\hs.length<=100000/\∀ x∈hs,x∈N:=by
 have hh:=(hg _ (head_mem h0)).2
 have hhl:=hh.len
 unfold useR at h
 split at h
 ·simp only [Qi,Prod.mk.injEq] at h
  obtain⟨rfl,rfl,rfl⟩:=h
  have:=ZfC m.name (l.headD zTok).hidden
  refine ⟨by simp,by simp,h0,by omega,λ x hx=>?_⟩
  rcases ZcU hx with rfl | hx
  ·exact hm
  ·exact hh.2 x hx
 ·split at h
  ·rename_i h1
   simp only [Qi,Prod.mk.injEq] at h
   obtain⟨rfl,rfl,rfl⟩:=h
   have h2:=ZfF (l.drop 2) 1 [] [] 2 (B:=60) (by simp) (by rw [List.length_drop];simp;omega)
   have h3:=Zet (P:=Good N) (l.drop 2) 1 [] [] 2 (λ t ht=>hg t (List.mem_of_mem_drop ht)) (by simp) (by simp)
   have h4:=Zci (l.drop 2) 1 [] [] 2 (R:=(splK (l.drop 2) 1 [] [] 2).1) (e:=(splK (l.drop 2) 1 [] [] 2).2.1) (by rw [← h1.1])
   rw [List.length_drop] at h4
   have h5:=h2.2
   rw [List.length_drop] at h5
   have h6:=ZfC m.name (both (l.headD zTok).hidden (l.getD ((splK (l.drop 2) 1 [] [] 2).2.1-1) zTok).hidden)
   have h7:=Zn3 (l.headD zTok).hidden (l.getD ((splK (l.drop 2) 1 [] [] 2).2.1-1) zTok).hidden
   refine ⟨?_,λ a ha=>⟨h2.1 a (List.mem_of_mem_take ha),h3 a (List.mem_of_mem_take ha)⟩,by omega,by omega,λ x hx=>?_⟩
   ·rw [List.length_take];simp at h5;omega
   ·rcases ZcU hx with rfl | hx
    ·exact hm
    ·exact hh.2 x (List.mem_filter.1 hx).1
  ·simp at h
theorem Zn4 {N:List ByteArray} {m:DMacro} {A:Args} {en:Nat} {hs:List ByteArray} {l:List Tok} {R:Args} (hA:∀ a∈A,∀ t∈a,HidIn N t) (hR:∀ a∈R,∀ t∈a,HidIn N t) (hh:∀ x∈hs,x∈N) (hg:∀ t∈l,Good N t):(∀ t∈(repR m A en hs l R).1,Good N t)/\(repR m A en hs l R).1.length<=60:=by
 unfold repR
 split
 ·split
  ·simp
  ·rename_i h
   refine ⟨λ t ht=>?_,Nat.not_lt.1 h⟩
   rcases Qa ht with ht | ht
   ·exact⟨putL_tx sub_tx t ht,Zgz (Zgf hA hR) hh t ht⟩
   ·exact hg t (List.mem_of_mem_drop ht)
 ·simp
theorem Zn5 {N:List ByteArray} {T:List DMacro} (hT:∀ m∈T,m.name∈N) (hN:N.length<=5000) {m:DMacro} (hm:m.name∈N) {l:List Tok} (hl:l.length<=60) (h0:0<l.length) (hg:∀ t∈l,Good N t) (n s:Nat) :
  (∀ t∈(stepX (λ a k=>expG T n k [] a) m l s).1,Good N t)/\(stepX (λ a k=>expG T n k [] a) m l s).1.length<=60/\(stepX (λ a k=>expG T n k [] a) m l s).2.1<=s-1:=by
 cases s with
 | zero=>unfold stepX;simp
 |
  succ s =>
  cases hu:useR m l with
  | none=>rw [ZgC hu];simp
  |
   some q =>
   obtain⟨A,en,hs⟩:=q
   obtain⟨f1,f2,f3,f4,f5⟩:=ZjS hu hl h0 hg hN hm
   have hA:∀ a∈A,∀ t∈a,HidIn N t:=λ a ha t ht=>((f2 a ha).2 t ht).2
   have hR:=Zgg (P:=HidIn N) (f:=λ a k=>expG T n k [] a) (λ a k ha=>Zic hT n a k [] (by simp) ha) A s hA
   have hle:=ZiS (f:=λ a k=>expG T n k [] a) (λ a k=>Zia T n a k []) A s
   rcases ha:argsX (λ a k=>expG T n k [] a) A s with⟨R,q,c⟩
   rw [ha] at hR hle
   by_cases hc:c=0
   ·subst hc
    rcases hr:repR m A en hs l R with⟨x,c⟩
    rw [Zcx hu ha hr]
    have:=Zn4 (N:=N) (m:=m) (en:=en) hA hR f5 hg
    rw [hr] at this
    exact⟨this.1,this.2,by show q<=s+1-1;have h9:q<=s:=hle;omega⟩
   ·rw [Zgp hu ha hc]
    exact⟨by simp,by simp,by show q<=s+1-1;have h9:q<=s:=hle;omega⟩
theorem Zn6 {T:List DMacro} {N:List ByteArray} {n:Nat} (hN:N.length<=5000) (eb:Nat) (vT:Value) (fpT:List Nat) (csM:List Value) (m:DMacro) (fpM:List Nat) (v:Value) (l:List Tok) (fp:List Nat) (s k:Nat) (w:World) (HE:0<s->ExpI T N n) (hs:s<=n+1) (hk:k+s=100) (h0:0<l.length) (hl:l.length<=60) (hg:∀ t∈l,Good N t) (hv:macOk m=true) (hm:m.name∈N) (hop:m.function=true->∃ h1:1<l.length,isM l[1] [40]=true)
  (HB:EBox eb vT k w) (HT:(Zaa sMacro).R w [vT] T fpT) (heT:eb∉fpT) (HM:sMacro.R w csM m fpM) (heM:eb∉fpM) (H:(Zaa sTok).R w [v] l fp) (he:eb∉fp) :
  Calls Tryz.prog 80 #[.pointer (some ⟨eb,0,none⟩),.agg csM.toArray,v] w (StepOf eb vT fp (stepX (λ a k=>expG T n k [] a) m l s) w):=by
 have HM0:=HM
 obtain⟨h2,h3,q2,q3,rfl,-,K2,K3,-⟩:=HM
 obtain⟨a2,c2,rfl,-⟩:=Zaf K2
 obtain⟨a3,c3,rfl,-⟩:=Zac K3
 have H00:=H
 have HLT:=Qh ((Zaa sTok).lt H)
 obtain⟨al,cl,rfl,-⟩:=Zac H
 have heb:eb<w.heap.size:=mlt HB
 have b0:=Zab w (.cells #[.string m.name,.bool m.function,.slice a2 m.params.length c2,.slice a3 m.body.length c3] 70)
 have HX:=Qh (heap_alloc_new w (.cells #[.string m.name,.bool m.function,.slice a2 m.params.length c2,.slice a3 m.body.length c3] 70))
 have HB1:=Qh (HB.below b0)
 have HM1:=Qh (sMacro.below HM0 b0)
 have HT1:=Qh ((Zaa sMacro).below HT b0)
 have HL1:=Qh ((Zaa sTok).below H00 b0)
 have HG:=Qh hg
 have HOP:=Qh hop
 have HVV:=Qh hv
 have HEX:=Qh HE
 clear HM0 K2 K3 HT H H00 HB hg hop hv HE
 go_enter Tryz.func80,Tryz.ntmps80
 go_upto_region 1 with fail
 have hmlt:=mlt HX.out
 generalize (w.alloc (.cells #[.string m.name,.bool m.function,.slice a2 m.params.length c2,.slice a3 m.body.length c3] 70))=W1 at *
 have e0:=Qc 0 HB1.out
 have e1:=Qc 1 HB1.out
 cases s with
 |
  zero =>
  have hk1:k=100:=by omega
  subst hk1
  go_wp2
  go_ret2
  exact⟨_,[],100,rfl,Zan _ _ _ _ (by simp),by simp,HB1.out,λ h=>absurd (show (3:Int)=0 from h) (by decide),Kept.of_below b0⟩
 |
  succ s =>
  have hne:((k:Int)==100)=false:=by simp;omega
  have hwr:IntKind.i64.wrap ((k:Int)+1)=(k:Int)+1:=IntWalk.i64_in _ (by omega)
  have f1:=Qf 1 HB1.out
  have HB2:Hid (EBox eb vT (k+1) (W1.setCell ⟨eb,1,none⟩ (.int .i64 ((k:Int)+1)))):=Zah HB1.out 1 (.int .i64 ((k:Int)+1))
  have HK2:Hid (Kept [eb] w (W1.setCell ⟨eb,1,none⟩ (.int .i64 ((k:Int)+1)))):=(Kept.of_below b0).setCell (p:=⟨eb,1,none⟩) (by simp) _
  have HX2:=Qh (Zaw HX.out (by omega:w.heap.size≠eb) 1 (.int .i64 ((k:Int)+1)))
  have HM2:=Qh (sMacro.setB HM1.out heM 1 (.int .i64 ((k:Int)+1)))
  have HT2:=Qh ((Zaa sMacro).setB HT1.out heT 1 (.int .i64 ((k:Int)+1)))
  have HL2:=Qh ((Zaa sTok).setB HL1.out he 1 (.int .i64 ((k:Int)+1)))
  go_upto_region 4 with fail
  clear e0 e1 f1 hne hwr HX HB1 HM1 HT1 HL1 b0
  generalize (W1.setCell ⟨eb,1,none⟩ (.int .i64 ((k:Int)+1)))=W2 at *
  obtain⟨p0,p1,p2,p3⟩:=Q4 HX2.out
  have hw2:w.heap.size<=W2.heap.size:=HK2.out.size
  have HUS:=Qh (Zm3 _ m fpM _ l fp W2 HVV.out h0 hl (λ t ht=>(HG.out t ht).1) (λ t ht=>(HG.out t ht).2.1) (λ t ht=>by have:=(HG.out t ht).2.len;omega) HOP.out HM2.out HL2.out)
  go_wp2_with fail
  refine HUS.out.mono ?_
  rintro e w3 (⟨hu,rfl,hb3⟩ | ⟨A,en,hs',vA,vH,fA,fH,hu,rfl,RA,hfA,RH,hfH,hb3⟩)
  ·have HF:=Qh (ZgC (f:=λ a k=>expG T n k [] a) (s:=s) hu)
   have HK3:=HK2.out.after hb3
   have ba:=Zab w3 (.cells #[.string ⟨#[]⟩,.bool false,.slice none 0 0,.slice none 0 0,.slice none 0 0,.int .i64 0,.slice none 0 0] 136)
   have HK4:=Qh (HK3.after ba)
   have HB4:=Qh ((HB2.out.below hb3).below ba)
   clear HUS hu p0 p1 p2 p3
   go_wp2
   go_ret2
   exact⟨_,[],k+1,by rw [HF.out];rfl,by rw [HF.out];exact Zan _ _ _ _ (by simp),by simp,HB4.out,λ h=>by rw [HF.out] at h;exact absurd (show (1:Int)=0 from h) (by decide),HK4.out⟩
  obtain⟨u1,u2,u3,u4,-⟩:=ZjS hu hl h0 HG.out hN hm
  obtain⟨aA,cA,rfl,-⟩:=Zac RA
  obtain⟨aH,cH,rfl,-⟩:=Zaf RH
  have HU:=Qh hu
  have HU2:=Qh u2
  have HX7:=Qh (heap_alloc_new w3 (.cells #[.string m.name,.bool m.function,.slice a2 m.params.length c2,.slice a3 m.body.length c3,.slice aA A.length cA,.int .i64 (en:Nat),.slice aH hs'.length cH] 136))
  have ba:=Zab w3 (.cells #[.string m.name,.bool m.function,.slice a2 m.params.length c2,.slice a3 m.body.length c3,.slice aA A.length cA,.int .i64 (en:Nat),.slice aH hs'.length cH] 136)
  have hb24:=hb3.trans (ba.mono hb3.size)
  have HK4:=Qh (HK2.out.after hb24)
  have HB4:=Qh (HB2.out.below hb24)
  have HT4:=Qh ((Zaa sMacro).below HT2.out hb24)
  have HL4:=Qh ((Zaa sTok).below HL2.out hb24)
  have HM4:=Qh (sMacro.below HM2.out hb24)
  have RA4:=Qh ((Zaa sToks).below RA ba)
  have RH4:=Qh ((Zaa sStr).below RH ba)
  have hw3:=hb3.size
  have HEA:Hid (eb∉fA):=λ h=>by have:=hfA _ h;omega
  have HEH:Hid (eb∉fH):=λ h=>by have:=hfH _ h;omega
  clear HUS hu u2 p0 p1 p2 p3 RA RH hfA hfH hb24 hb3 ba HX2 HM2 HT2 HL2 HB2 HK2
  go_upto_region 7 with fail
  obtain⟨ub,HUB⟩:∃ ub:Nat,Hid (ub=w3.heap.size):=⟨_,Qh rfl⟩
  generalize (w3.alloc (.cells #[.string m.name,.bool m.function,.slice a2 m.params.length c2,.slice a3 m.body.length c3,.slice aA A.length cA,.int .i64 (en:Nat),.slice aH hs'.length cH] 136))=w4 at *
  rw [show w3.heap.size=ub from HUB.out.symm] at HX7 hw3 ⊢
  have q4:=Qc 4 HX7.out
  have HALL:=Qh (Zi7 (HEX.out (by omega)) eb vT fpT _ A fA s (k+1) w4 (by omega) (by omega) u1 HU2.out HB4.out HT4.out heT RA4.out HEA.out)
  rcases ha:argsX (λ a k=>expG T n k [] a) A s with⟨R,q,c⟩
  unfold AllOf at HALL
  rw [ha] at HALL
  try dsimp only at HALL
  have HAR:=Qh ha
  clear ha HEX HB4 HT4
  go_wp2_with fail
  refine HALL.out.mono ?_
  rintro e w5 ⟨vR,fR,k5,rfl,RR,hfR,EB5,hk5,K5⟩
  obtain⟨aR,cR,rfl,-⟩:=Zac RR
  have HK5:=Qh (HK4.out.trans K5)
  have HEB5:=Qh EB5
  clear q4 HALL EB5
  by_cases hc0:c=0
  rotate_left
  ·have HF:=Qh (Zgp HU.out HAR.out hc0)
   have e2:(c != 0)=true:=by simp [hc0]
   have HC0:=Qh hc0
   clear hc0 hk5 RR hfR K5
   go_wp2
   go_ret2
   exact⟨_,[],k5,by rw [HF.out];rfl,by rw [HF.out];exact Zan _ _ _ _ (by simp),by simp,HEB5.out,λ h=>by rw [HF.out] at h;exact absurd h HC0.out,HK5.out⟩
  subst hc0
  have hk6:k5+q=100:=hk5 rfl
  have heu:ub≠eb:=by omega
  have HX5:=Qh ((K5.block ub (mlt HX7.out) (by simpa using heu)).trans HX7.out)
  have kin:∀ {f:List Nat},eb∉f->∀ b∈f,b∉[eb]:=λ h b hb=>by simp only [List.mem_singleton];rintro rfl;exact h hb
  have HRP:=Qh (Zj1 _ m fpM _ _ A fA en hs' fH _ l fp _ R fR w5 h0 hl u3 u4 (sMacro.kept HM4.out (kin heM) K5) ((Zaa sToks).kept RA4.out (kin HEA.out) K5) ((Zaa sStr).kept RH4.out (kin HEH.out) K5) ((Zaa sTok).kept HL4.out (kin he) K5) RR)
  rcases hr:repR m A en hs' l R with⟨x,c⟩
  unfold AfterOf at HRP
  rw [hr] at HRP
  try dsimp only at HRP
  have HF:=Qh (Zcx HU.out HAR.out hr)
  clear hr hk5 RR hfR K5 kin HX7 HM4 RA4 RH4 HL4 HK4
  have q0:=Qc 0 HX5.out
  have q1:=Qc 1 HX5.out
  have q2':=Qc 2 HX5.out
  have q3':=Qc 3 HX5.out
  have q4:=Qc 4 HX5.out
  have q5:=Qc 5 HX5.out
  have q6:=Qc 6 HX5.out
  go_wp2_with fail
  refine HRP.out.mono ?_
  rintro e w6 ⟨v6,f6,rfl,R6,g6,hb6⟩
  have HR6:=Qh R6
  have HG6:Hid (∀ b∈f6,b∈fp\/w.heap.size<=b):=λ b hb=>(g6 b hb).imp id λ h=>by have:=HK5.out.size;omega
  have HK6:=Qh (HK5.out.after hb6)
  have HB6:=Qh (HEB5.out.below hb6)
  clear R6 g6 hb6 HRP q0 q1 q2' q3' q4 q5 q6
  go_wp2
  go_ret2
  exact⟨v6,f6,k5,by rw [HF.out];rfl,by rw [HF.out];exact HR6.out,HG6.out,HB6.out,λ _=>by rw [HF.out];exact hk6,HK6.out⟩
theorem Zi8 {T:List DMacro} {N:List ByteArray} (hTab:∀ m∈T,macOk m=true) (hT:∀ m∈T,m.name∈N) (hN:N.length<=5000):∀ n,n<=1000->ExpC T N n:=by
 intro n
 induction n using Nat.strongRecOn with
 | _ n ih=>exact λ hn=>Zi2 (λ j hj=>ih j hj (by omega)) hn hTab hT hN
def ZdC (T:List DMacro) (l:List Tok):List ByteArray:=T.map (·.name)++l.flatMap (·.hidden)
theorem Zlm:∀ {l:List Tok},(∀ t∈l,t.hidden.length<=60)->(l.flatMap (·.hidden)).length<=60 * l.length
 | [],_=>by simp
 |
  t::r,h=>by
  have h1:=h t (by simp)
  have h2:=Zlm (l:=r) (λ t ht=>h t (by simp [ht]))
  rw [List.flatMap_cons,List.length_append,List.length_cons]
  omega
theorem ZhA {l:List Tok} (h:Zaj l=true):∀ t∈l,t.hidden.length<=60/\Up t.hidden:=λ t ht=>by
 obtain⟨k,hk,rfl⟩:=List.getElem_of_mem ht
 have h1:=(Zam h).2 k hk
 unfold tokOk at h1
 rw [Bool.and_eq_true] at h1
 have h2:=ZcT h1.2
 exact⟨h2.1,h2.2.2⟩
theorem Zgq {T:List DMacro} {l:List Tok} (hT:tabOk T=true) (hl:Zaj l=true):(ZdC T l).length<=5000:=by
 unfold ZdC
 rw [List.length_append,List.length_map]
 have h1:=(ZeH hT).1
 have h2:=Zlm (λ t ht=>(ZhA hl t ht).1)
 have h3:=(Zam hl).1
 omega
theorem ZhB {T:List DMacro} {l:List Tok} (hl:Zaj l=true):∀ t∈l,HidIn (ZdC T l) t:=λ t ht=>⟨(ZhA hl t ht).2,λ x hx=>List.mem_append.2 (.inr (List.mem_flatMap.2 ⟨t,ht,hx⟩))⟩
def Zln (r:List Tok × Int) (w:World) (e:Ending) (w':World):Prop:=
 ∃ (v:Value) (fp:List Nat),e=.returned (.tuple #[v,.int .i64 r.2])/\(Zaa sTok).R w' [v] r.1 fp/\(∀ b∈fp,w.heap.size<=b)/\Below w.heap.size w w'
theorem Zgr {r:List Tok × Int} {c:Int} {w W:World} (h:r=([],c)) (hb:Below w.heap.size w W):Zln r w (.returned (.tuple #[.slice (some ⟨W.heap.size,0,none⟩) 0 0,.int .i64 c])) (W.alloc (.cells #[] 57)):=
 ⟨_,[],by rw [h],by rw [h];exact Zan _ _ _ _ (by simp),by simp,hb.alloc hb.size _⟩
theorem ZdY {T:List DMacro} {l:List Tok} (h:¬ (tabOk T=true/\Zaj l=true)):Za4 T l=([],-1):=by unfold Za4;rw [if_neg h]
theorem ZlQ (vT:Value) (T:List DMacro) (fpT:List Nat) (v:Value) (l:List Tok) (fp:List Nat) (w:World) (hTl:T.length<=1048576) (hTs:∀ k,(hk:k<T.length)->MacSm T[k]) (hl:l.length<=1048576) (hx:∀ k,(hk:k<l.length)->l[k].hidden.length<=2000000)
  (HT:(Zaa sMacro).R w [vT] T fpT) (H:(Zaa sTok).R w [v] l fp):Calls Tryz.prog 15 #[vT,v] w (Zln (Za4 T l) w):=by
 have HCT:=Qh (Zde vT T fpT w hTl hTs HT)
 have HCL:=Qh (λ (U:World) (hU:Below w.heap.size w U)=>ZaS v l fp U hl hx ((Zaa sTok).below H hU))
 clear HT H hTs hx hTl hl
 go_enter Tryz.func15,Tryz.ntmps15
 go_wp2_with fail
 refine HCT.out.mono ?_
 rintro e w1 ⟨v1,f1,rfl,hR1,hlo1,hB1⟩
 clear HCT
 go_wp2_with fail
 refine (HCL.out w1 hB1).mono ?_
 rintro e w2 ⟨v2,f2,rfl,hR2,hlo2,-,hb2⟩
 have hB2:=hB1.trans (hb2.mono hB1.size)
 have HT2:=Qh ((Zaa sMacro).below hR1 hb2)
 have HR2:=Qh hR2
 have HVT:=Qh (ZeA v1 T f1 w2 HT2.out)
 have HVL:=Qh (λ (U:World) (hU:Below w2.heap.size w2 U)=>Zbg v2 l f2 U ((Zaa sTok).below HR2.out hU))
 clear HCL hR1 hR2 hlo1 hlo2 hb2 hB1
 cases ht:tabOk T
 ·have HF:=Qh (ZdY (T:=T) (l:=l) (λ h=>by rw [ht] at h;exact absurd h.1 (by simp)))
  rw [ht] at HVT
  clear ht HVL
  go_wp2_with fail
  refine HVT.out.mono ?_
  rintro e w3 ⟨rfl,hb3⟩
  have hB3:=hB2.trans (hb3.mono hB2.size)
  go_wp2
  go_ret2
  exact Zgr HF.out hB3
 cases hv:Zaj l
 ·have HF:=Qh (ZdY (T:=T) (l:=l) (λ h=>by rw [hv] at h;exact absurd h.2 (by simp)))
  rw [ht] at HVT
  rw [hv] at HVL
  clear ht hv
  go_wp2_with fail
  refine HVT.out.mono ?_
  rintro e w3 ⟨rfl,hb3⟩
  have hB3:=hB2.trans (hb3.mono hB2.size)
  go_wp2_with fail
  refine (HVL.out w3 hb3).mono ?_
  rintro e w4 ⟨rfl,hb4⟩
  have hB4:=hB3.trans (hb4.mono hB3.size)
  go_wp2
  go_ret2
  exact Zgr HF.out hB4
 have HX:=Qh (λ (U:World) (hU:Below w2.heap.size w2 U)=>Zi8 (T:=T) (N:=ZdC T l) (ZeH ht).2.1 (λ m hm=>List.mem_append.2 (.inl (List.mem_map.2 ⟨m,hm,rfl⟩))) (Zgq ht hv) 100 (by omega) v1 f1 v2 l f2 100 U (Nat.le_refl _) (by have:=(Zam hv).1;omega) (ZhB hv) ((Zaa sMacro).below HT2.out hU) ((Zaa sTok).below HR2.out hU))
 have HIN:=Qh (Zic (T:=T) (N:=ZdC T l) (λ m hm=>List.mem_append.2 (.inl (List.mem_map.2 ⟨m,hm,rfl⟩))) 100 l 100 [] (by simp) (ZhB hv))
 have HLN:=Qh (Zmi T 100 l 100 [] (by simp))
 have HNL:=Qh (Zgq ht hv)
 have HEX:Hid (Za4 T l=if (expG T 100 100 [] l).2.2=0 then ((expG T 100 100 [] l).1,0) else ([],(expG T 100 100 [] l).2.2)):=by show _=_;unfold Za4;rw [if_pos ⟨ht,hv⟩]
 rw [ht] at HVT
 rw [hv] at HVL
 rcases hq:expG T 100 100 [] l with⟨x,lf,c⟩
 unfold XpOf at HX
 rw [hq] at HX HIN HLN HEX
 try dsimp only at HX HIN HLN HEX
 clear ht hv hq
 go_wp2_with fail
 refine HVT.out.mono ?_
 rintro e w3 ⟨rfl,hb3⟩
 have hB3:=hB2.trans (hb3.mono hB2.size)
 go_wp2_with fail
 refine (HVL.out w3 hb3).mono ?_
 rintro e w4 ⟨rfl,hb4⟩
 have hB4:=hB3.trans (hb4.mono hB3.size)
 have hb24:=hb3.trans (hb4.mono hb3.size)
 go_wp2_with fail
 refine (HX.out w4 hb24).mono ?_
 rintro e w5 ⟨vx,L,rfl,RL,hLd,hLf,hb5⟩
 have hB5:=hB4.trans (hb5.mono hB4.size)
 by_cases hc0:c=0
 rotate_left
 ·have HF:Hid (Za4 T l=([],c)):=by show _=_;rw [HEX.out,if_neg hc0]
  have e2:(c != 0)=true:=by simp [hc0]
  clear hc0
  obtain⟨ax,cx,hvx,-⟩:=RL.val
  subst hvx
  go_wp2
  go_ret2
  exact Zgr HF.out hB5
 subst hc0
 have HF:Hid (Za4 T l=(x,0)):=by show _=_;rw [HEX.out];simp
 obtain⟨fx,rx,-,-⟩:=RL.read
 rw [hLd] at rx
 have HOW:=Qh (ZaS vx x fx w5 (by have h60:x.length<=60:=HLN.out;omega) (λ k hk=>by have hh:HidIn (ZdC T l) x[k]:=HIN.out _ (List.getElem_mem hk);have:=hh.len;have:=HNL.out;omega) rx)
 clear RL hLd hLf rx HX HIN HLN HEX
 go_wp2_with fail
 refine HOW.out.mono ?_
 rintro e w6 ⟨v6,f6,rfl,hR6,hlo6,-,hb6⟩
 have hB6:=hB5.trans (hb6.mono hB5.size)
 have HR6:=Qh hR6
 clear hR6
 go_wp2
 go_ret2
 exact⟨v6,f6,by rw [HF.out];rfl,by rw [HF.out];exact HR6.out,λ b hb=>Nat.le_trans hB5.size (hlo6 b hb),hB6⟩
def Zi9 (eb:Nat) (w:World):Nat:=
 match w.heap[eb]? with
 | some (.cells cs _ _)=>(intOf (cs.getD 1 undef)).toNat
 | _=>0
theorem EBox.steps {eb:Nat} {vT:Value} {k:Nat} {w:World} (h:EBox eb vT k w):Zi9 eb w=k:=by
 unfold Zi9
 rw [show w.heap[eb]?=some (.cells #[vT,.int .i64 (k:Nat)] 74 (0,0)) from h]
 simp [intOf]
theorem exp_go {T:List DMacro} {j s q:Nat} {out r x:List Tok} {t:Tok} {m:DMacro} {c:Int} (h:goM T (t::r)=some m) (hsj:s<=j) (hx:stepX (λ a k=>expG T (j-1) k [] a) m (t::r) s=(x,q,c)) :
  expG T j s out (t::r)=(if c=0 then expG T (j-1) q out x else ([],q,c))/\(c=0->0<s):=by
 cases s with
 |
  zero =>
  unfold stepX at hx
  simp only [Prod.mk.injEq] at hx
  obtain⟨rfl,rfl,rfl⟩:=hx
  exact⟨by rw [Zdx h,if_neg (by simp)],λ h=>absurd h (by simp)⟩
 |
  succ s =>
  obtain⟨i,rfl⟩:∃ i,j=i+1:=⟨j-1,by omega⟩
  rw [Nat.add_sub_cancel] at hx ⊢
  refine ⟨?_,λ _=>by omega⟩
  rw [Zll h,hx]
theorem ZlR {T:List DMacro} {N:List ByteArray} {n:Nat} (IH:∀ j,j<n->ExpI T N j) (hn:n<=1000) (hTab:tabOk T=true) (hT:∀ m∈T,m.name∈N) (hN:N.length<=5000):ExpI T N n:=by
 intro eb vT fpT v l fp s k w hs hk hl hg HB HT heT H he
 have HTB:=Qh HT
 have heb:eb<w.heap.size:=mlt HB
 have HTAB:=Qh hTab
 have HTD0:Hid (ToDo w.heap.size fp (.slice none 0 0) v l fp w):=⟨H,by simp [Value.ownBlock],λ b hb=>.inl hb⟩
 have HG0:=Qh hg
 have HB0:=Qh HB
 obtain⟨al,cl,rfl,-⟩:=Zac H
 clear HT H hg HB hTab
 go_enter Tryz.func42,Tryz.ntmps42
 go_wp2
 go_loopw [6,7] (λ vo vw wr=>∃ (j s' kk:Nat) (O:List (Elem Tok)) (W:List Tok) (fpw:List Nat),s'<=j/\j<=n/\kk+s'=100/\W.length<=60/\O.length<=60/\Hid (RowN sTok w.heap.size 57 vo O wr)/\Hid (Own wr w.heap.size (O.flatMap (·.fp)))/\Hid (ToDo w.heap.size fp vo vw W fpw wr)/\Hid (expG T n s [] l=expG T j s' (O.map (·.d)) W)/\Hid (∀ t∈W,Good N t)/\Hid (EBox eb vT kk wr)/\Hid (Kept [eb] w wr)) (λ _ vw wr=>(100-Zi9 eb wr) * 1000+lenOf vw)
 case atStart=>exact⟨n,s,k,[],l,fp,hs,Nat.le_refl _,hk,hl,by simp,RowN.nil _ _ _ _,Own.nil _ _,HTD0.out,rfl,HG0.out,HB0.out,Kept.refl _ _⟩
 case round =>
  clear HTD0 HB0
  obtain⟨j,s',kk,O,W,fpw,hsj,hjn,hkk,hW,hO,HRO,HOO,HTD,HGO,HGW,HBX,HK⟩:=hrel
  obtain⟨ao,co,hvo,-⟩:=HRO.out.val
  subst hvo
  obtain⟨aw,cw,rfl,hcw,hmw,hroww⟩:=Zac HTD.out.r
  unfold maxLen at hmw
  cases W with
  |
   nil =>
   have HF:=Qh (HGO.out.trans Zb4)
   clear hroww
   go_wp2
   go_ret2
   exact⟨.slice ao O.length co,O,kk,by rw [HF.out];rfl,HRO.out,by rw [HF.out],HOO.out,HBX.out,λ _=>by rw [HF.out];exact hkk,HK.out⟩
  |
   cons t r =>
   obtain⟨bw,ow,-,rfl,-,-,-⟩:=hroww (by simp)
   obtain⟨xa,xc,xf,c0,c1,c2,c3,xR,hbb,hxf⟩:=ZaJ HTD.out.r (j:=0) (by simp)
   simp only [List.getElem_cons_zero,Nat.zero_mul,Nat.add_zero] at c0 c1 c2 c3 xR
   have HXF:=Qh hxf
   have XR:=Qh xR
   have HCE:Hid (∀ U:World,Below wr.heap.size wr U->U.cell? ⟨bw,ow,none⟩=some (.int .i64 t.kind)/\U.cell? ⟨bw,ow+1,none⟩=some (.string t.text)/\U.cell? ⟨bw,ow+2,none⟩=some (.bool t.spaced)/\U.cell? ⟨bw,ow+3,none⟩=some (.slice xa t.hidden.length xc)):=λ U hU=>⟨(hU.cell (p:=⟨bw,ow,none⟩) hbb).trans c0,(hU.cell (p:=⟨bw,ow+1,none⟩) hbb).trans c1,(hU.cell (p:=⟨bw,ow+2,none⟩) hbb).trans c2,(hU.cell (p:=⟨bw,ow+3,none⟩) hbb).trans c3⟩
   have HUS:=Qh (ZiX vT T fpT _ (t::r) fpw wr HTAB.out (by simp) (by omega) (λ u hu=>(HGW.out u hu).1) ((Zaa sMacro).kept HTB.out (λ b hb=>by simp only [List.mem_singleton];rintro rfl;exact heT hb) HK.out) HTD.out.r)
   have HTR:=Qh HTD.out.r
   obtain⟨NW,HNW⟩:∃ NW:Nat,Hid (NW=(t::r).length):=⟨(t::r).length,Qh rfl⟩
   rw [show (t::r).length=NW from HNW.out.symm] at HTD hcw hW HUS HTR ⊢
   have hNW:0<NW:=by have:=HNW.out;rw [List.length_cons] at this;omega
   have hNWi:(0:Int)<(NW:Int):=by omega
   obtain⟨NO,HNO⟩:∃ NO:Nat,Hid (NO=O.length):=⟨O.length,Qh rfl⟩
   rw [show O.length=NO from HNO.out.symm] at HRO HTD hO ⊢
   have hwr:=HK.out.size
   have e0:=Qc 0 HBX.out
   clear xR hxf hroww c0 c1 c2 c3
   go_wp2_with fail
   refine HUS.out.mono ?_
   rintro e w3 (⟨hg,rfl,hb3⟩ | ⟨m,a2,a3,c2_,c3_,fm,hg,rfl,RM,hfm,hb3⟩)
   ·have HG:=Qh hg
    have bm:=Zab w3 (.cells #[.string ⟨#[]⟩,.bool false,.slice none 0 0,.slice none 0 0] 70)
    have hb4:=hb3.trans (bm.mono hb3.size)
    clear HUS e0 hg
    go_upto_region 10 with fail
    generalize (w3.alloc (.cells #[.string ⟨#[]⟩,.bool false,.slice none 0 0,.slice none 0 0] 70))=w4 at *
    by_cases hfl:NO=60
    ·have HF:=Qh (HGO.out.trans (ZbE HG.out (by rw [List.length_map,← HNO.out];omega)))
     have e6:((NO:Int)==60)=true:=by simp;omega
     have HK4:=Qh (HK.out.after hb4)
     have HB4:=Qh (HBX.out.below hb4)
     clear hfl
     go_wp2
     go_ret2
     exact⟨_,[],kk,by rw [HF.out];rfl,RowN.nil _ _ _ _,by rw [HF.out];rfl,Own.nil _ _,HB4.out,λ h=>by rw [HF.out] at h;exact absurd (show (3:Int)=0 from h) (by decide),HK4.out⟩
    have e6:((NO:Int)==60)=false:=by simp;omega
    have hNO:NO+1<=60:=by omega
    clear hfl
    obtain⟨c0,c1,c2,c3⟩:=HCE.out w4 hb4
    have htl:t.hidden.length<=2000000:=by have:=(HGW.out t (by simp)).2.len;omega
    have HCT:=Qh (ZdA _ t xf w4 htl (sTok.below XR.out hb4))
    go_wp2_with fail
    refine HCT.out.mono ?_
    rintro e w5 ⟨a3,c3_,f3,rfl,R3,O3,-,hb5⟩
    have hb45:=hb4.trans (hb5.mono hb4.size)
    have hw45:=hb45.size
    have bl:=Zab w5 (.cells #[.int .i64 t.kind,.string t.text,.bool t.spaced,.slice a3 t.hidden.length c3_] 57)
    have HL6:=Qh (heap_alloc_new w5 (.cells #[.int .i64 t.kind,.string t.text,.bool t.spaced,.slice a3 t.hidden.length c3_] 57))
    have hb46:=hb45.trans (bl.mono hb45.size)
    have HRO6:=Qh (HRO.out.below hb46)
    have HOO6:=Qh (HOO.out.grow hb46)
    have HTD6:=Qh (HTD.out.below hb46)
    have XR6:=Qh (sTok.below R3 bl)
    have OX6:=Qh (O3.grow bl)
    have HW4:=Qh hb4.size
    have HF3:Hid (∀ b∈f3,wr.heap.size<=b):=λ b hb=>by have:=(O3.2 b hb).1;have:=hb4.size;omega
    have HOM:=Qh HRO.out.mine
    have HXN:Hid (∀ b∈f3,(Value.slice ao NO co).ownBlock≠some b):=λ b hb h=>by have:=(HOM.out b h).2;have:=HF3.out b hb;omega
    have HK6:=Qh (HK.out.after hb46)
    have HB6:=Qh (HBX.out.below hb46)
    have hw6:=hb46.size
    clear c0 c1 c2 c3 HCT R3 O3 hb5 bl hb45 hb46 bm hb3 hb4
    go_upto_region 13 with(at_builtin;refine ZaG (X:=[(⟨[.int .i64 t.kind,.string t.text,.bool t.spaced,.slice a3 t.hidden.length c3_],t,f3⟩:Elem Tok)]) ti_tok rfl (by decide) _ rfl (.tmp 40) (.tmp 45) rfl w.heap.size (.slice ao NO co) rfl HRO6.out ⟨w5.heap.size,0,none⟩ 1 1 rfl rfl (λ x hx=>by obtain rfl:=Qm hx;exact⟨rfl,XR6.out,HXN.out⟩) (λ x hx=>by obtain rfl:=Qm hx;exact ZaE _ _ _ _ XR6.out) (λ j u hj=>by rw [ZaI,Nat.zero_add,cell_of_row _ _ _ _ _ _ HL6.out];simpa using hj) (by have:=HNO.out;unfold maxLen;omega) (by have:=HNO.out;omega) (by have:=HK6.out.size;omega) ?_;intro v7 w7 hR7 hg7 hp7)
    have HK7:Hid (Kept [eb] w w7):=⟨hg7.os.trans HK6.out.os,hg7.tape.trans HK6.out.tape,hg7.output.trans HK6.out.output,Nat.le_trans HK6.out.size hg7.size,λ b hb hn=>(hg7.block b (by have:=HK6.out.size;omega) (λ e=>by have:=(HOM.out b e.symm).1;omega)).trans (HK6.out.block b hb hn)⟩
    have HB7:Hid (EBox eb vT kk w7):=(hg7.block eb (by have:=HK6.out.size;omega) (λ e=>by have:=(HOM.out eb e.symm).1;omega)).trans HB6.out
    have HR7:=Qh hR7
    have HO7:Hid (Own w7 w.heap.size ((O++[(⟨[.int .i64 t.kind,.string t.text,.bool t.spaced,.slice a3 t.hidden.length c3_],t,f3⟩:Elem Tok)]).flatMap (·.fp))):=by
     show Own _ _ _
     rw [Zgj]
     have e1:([(⟨[.int .i64 t.kind,.string t.text,.bool t.spaced,.slice a3 t.hidden.length c3_],t,f3⟩:Elem Tok)]).flatMap (·.fp)=f3:=by simp
     rw [e1]
     refine Zcd (HOO6.out.app (OX6.out.lower (Nat.le_trans hwr HW4.out)) λ b hb hx=>?_) (λ b hb=>?_) hg7
     ·have h1:=HOO.out.lt b hb
      have h2:=HF3.out b hx
      omega
     ·rcases Qa hb with hb | hb
      ·obtain⟨x,hx,hb'⟩:=List.mem_flatMap.1 hb
       exact HRO.out.ap x hx b hb'
      ·exact HXN.out b hb
    have HTD7:Hid (ToDo w.heap.size fp v7 (.slice (some ⟨bw,ow,none⟩) NW cw) (t::r) fpw w7):=⟨(Zaa sTok).frame (λ b hb'=>hg7.block b (HTD6.out.lt b hb') (λ e=>HTD.out.o b hb' e.symm)) HTD6.out.r,λ b hb' hv=>by
      rcases hp7 with e | e
      ·exact HTD.out.o b hb' (by rw [← e];exact hv)
      ·rw [e,Qi] at hv;have:=HTD6.out.lt b hb';omega,HTD.out.l⟩
    obtain⟨a7,c7,hv7,-⟩:=hR7.val
    rw [show (O++[(⟨[.int .i64 t.kind,.string t.text,.bool t.spaced,.slice a3 t.hidden.length c3_],t,f3⟩:Elem Tok)]).length=NO+1 by rw [List.length_append,HNO.out];rfl] at hv7
    subst hv7
    clear hR7 hg7 hp7 HRO6 HOO6 HTD6 XR6 OX6 HL6
    have o1:(1:Int)<=(NW:Int):=by omega
    have o2:1<=NW:=hNW
    have o3:1<=cw:=by omega
    have o4:(1:Int)<=(cw:Int):=by omega
    obtain⟨fps,RS0,hfs⟩:=Za0 1 (by have:=HNW.out;omega:1<=(t::r).length) HTD7.out.r
    rw [Option.map_some,Addr.add_lit,show sTok.m=4 from rfl,Nat.one_mul,List.drop_succ_cons,List.drop_zero] at RS0
    have HRS0:Hid (ToDo w.heap.size fp (.slice a7 (NO+1) c7) (.slice (if cw=1 then some ⟨bw,ow,none⟩ else some ⟨bw,ow+4,none⟩) (NW-1) (cw-1)) r fps w7):=⟨RS0,λ b hb'=>HTD7.out.o b (hfs b hb'),λ b hb'=>HTD7.out.l b (hfs b hb')⟩
    clear RS0 hfs
    have HGN:Hid (expG T n s [] l=expG T j s' ((O++[(⟨[.int .i64 t.kind,.string t.text,.bool t.spaced,.slice a3 t.hidden.length c3_],t,f3⟩:Elem Tok)]).map (·.d)) r):=by show _=_;rw [HGO.out,Zbs HG.out (by rw [List.length_map,← HNO.out];omega),List.map_append];rfl
    have HGR:Hid (∀ u∈r,Good N u):=λ u hu=>HGW.out u (by simp [hu])
    have hrl:r.length<=60:=by have:=HNW.out;rw [List.length_cons] at this;omega
    have hol:(O++[(⟨[.int .i64 t.kind,.string t.text,.bool t.spaced,.slice a3 t.hidden.length c3_],t,f3⟩:Elem Tok)]).length<=60:=by rw [List.length_append,← HNO.out];simp;omega
    have HST1:=Qh HB7.out.steps
    have HST2:=Qh HBX.out.steps
    by_cases h1:cw=1
    ·subst h1
     rw [if_pos rfl] at HRS0
     obtain rfl:NW=1:=by omega
     clear o3 o4
     go_wp2
     go_roundw
     case rel=>exact⟨j,s',kk,_,r,fps,hsj,hjn,hkk,hrl,hol,HR7,HO7,HRS0,HGN,HGR,HB7,HK7⟩
     case measure=>rw [HST1.out,HST2.out];simp [lenOf] <;> omega
    ·rw [if_neg h1] at HRS0
     go_wp2
     go_roundw
     case rel=>exact⟨j,s',kk,_,r,fps,hsj,hjn,hkk,hrl,hol,HR7,HO7,HRS0,HGN,HGR,HB7,HK7⟩
     case measure=>rw [HST1.out,HST2.out];simp [lenOf] <;> omega
   ·have bm:=Zab w3 (.cells #[.string m.name,.bool m.function,.slice a2 m.params.length c2_,.slice a3 m.body.length c3_] 70)
    have hbk:=hb3.trans (bm.mono hb3.size)
    have HXk:=Qh (heap_alloc_new w3 (.cells #[.string m.name,.bool m.function,.slice a2 m.params.length c2_,.slice a3 m.body.length c3_] 70))
    have RMk:=Qh (sMacro.below RM bm)
    have HG:=Qh hg
    have hmT:=go_in hg
    have HMN:Hid (macOk m=true/\m.name∈N):=⟨(ZeH HTAB.out).2.1 m hmT,hT m hmT⟩
    have HOP:Hid (m.function=true->∃ h1:1<(t::r).length,isM (t::r)[1] [40]=true):=λ hf=>by
     obtain⟨hr,h2⟩:=Zmq hg hf
     exact⟨by simpa using hr,h2⟩
    have HEM:Hid (eb∉fm):=λ h=>heT (hfm _ h)
    have HK4:=Qh (HK.out.after hbk)
    have HB4:=Qh (HBX.out.below hbk)
    have HTD4:=Qh (HTD.out.below hbk)
    have HRO4:=Qh (HRO.out.below hbk)
    have HOO4:=Qh (HOO.out.grow hbk)
    have hw4:=hbk.size
    clear HUS e0 hg hmT RM hfm bm hb3 hbk
    go_upto_region 6 with fail
    obtain⟨mb,HMB⟩:∃ mb:Nat,Hid (mb=w3.heap.size):=⟨_,Qh rfl⟩
    generalize (w3.alloc (.cells #[.string m.name,.bool m.function,.slice a2 m.params.length c2_,.slice a3 m.body.length c3_] 70))=w4 at *
    rw [show w3.heap.size=mb from HMB.out.symm] at HXk ⊢
    obtain⟨m0,m1,m2,m3⟩:=Q4 HXk.out
    have HEB:Hid (eb∉fpw):=λ h=>by
     rcases HTD.out.l _ h with h | h
     ·exact he h
     ·omega
    have HSTP:=Qh (Zn6 (T:=T) (N:=N) (n:=j-1) hN eb vT fpT _ m fm _ (t::r) fpw s' kk w4 (λ h=>IH (j-1) (by omega)) (by omega) hkk (by simp) (by rw [← HNW.out];exact hW) HGW.out HMN.out.1 HMN.out.2 HOP.out HB4.out ((Zaa sMacro).kept HTB.out (λ b hb=>by simp only [List.mem_singleton];rintro rfl;exact heT hb) HK4.out) heT RMk.out HEM.out HTD4.out.r HEB.out)
    have HGD:=Qh (Zn5 (T:=T) hT hN HMN.out.2 (by rw [← HNW.out];exact hW) (by simp) HGW.out (j-1) s')
    rcases hx:stepX (λ a k=>expG T (j-1) k [] a) m (t::r) s' with⟨x,q,c⟩
    unfold StepOf at HSTP
    rw [hx] at HSTP HGD
    try dsimp only at HSTP
    have HXG:=Qh (exp_go (out:=O.map (·.d)) HG.out hsj hx)
    clear hx HTD4 RMk HXk
    go_wp2_with fail
    refine HSTP.out.mono ?_
    rintro e w5 ⟨v5,f5,k5,rfl,R5,g5,EB5,hk5,K5⟩
    obtain⟨a5,c5,rfl,-⟩:=Zac R5
    have HK5:=Qh (HK4.out.trans K5)
    have HEB5:=Qh EB5
    clear m0 m1 m2 m3 HSTP EB5
    by_cases hc0:c=0
    rotate_left
    ·have HF:Hid (expG T n s [] l=([],q,c)):=by show _=_;rw [HGO.out,HXG.out.1,if_neg hc0]
     have e2:(c != 0)=true:=by simp [hc0]
     have HC0:=Qh hc0
     clear hc0 hk5 R5 g5 K5
     go_wp2
     go_ret2
     exact⟨_,[],k5,by rw [HF.out];rfl,RowN.nil _ _ _ _,by rw [HF.out];rfl,Own.nil _ _,HEB5.out,λ h=>by rw [HF.out] at h;exact absurd h HC0.out,HK5.out⟩
    subst hc0
    have hk6:k5+q=100:=hk5 rfl
    have hsp:=HXG.out.2 rfl
    have hq1:q<=s'-1:=HGD.out.2.2
    have hx60:x.length<=60:=HGD.out.2.1
    have HGX:Hid (∀ u∈x,Good N u):=HGD.out.1
    have HGN:Hid (expG T n s [] l=expG T (j-1) q (O.map (·.d)) x):=by show _=_;rw [HGO.out,HXG.out.1,if_pos rfl]
    have HRO5:=Qh (HRO4.out.kept K5 (λ g hg=>by simp only [List.mem_singleton];have:=(HRO4.out.mine g hg).1;omega) (λ y hy b hb=>by simp only [List.mem_singleton];have:=(HOO4.out.2 b (List.mem_flatMap.2 ⟨y,hy,hb⟩)).1;omega))
    have HOO5:=Qh (HOO4.out.kept (λ b hb=>by simp only [List.mem_singleton];have:=(HOO4.out.2 b hb).1;omega) K5)
    have HTD5:Hid (ToDo w.heap.size fp (.slice ao NO co) (.slice a5 x.length c5) x f5 w5):=⟨R5,λ b hb hv=>by
      rcases g5 b hb with h | h
      ·exact HTD.out.o b h hv
      ·have:=(HRO.out.mine b hv).2;omega,λ b hb=>by
      rcases g5 b hb with h | h
      ·exact HTD.out.l b h
      ·exact .inr (by omega)⟩
    have HST1:=Qh HEB5.out.steps
    have HST2:=Qh HBX.out.steps
    have hO5:O.length<=60:=by rw [← HNO.out];exact hO
    clear R5 g5 K5 hk5 HGD HXG HRO4 HOO4
    go_wp2
    go_roundw
    case rel=>exact⟨j-1,q,k5,O,x,f5,by omega,by omega,hk6,hx60,hO5,HRO5,HOO5,HTD5,HGN,HGX,HEB5,HK5⟩
    case measure=>rw [HST1.out,HST2.out];simp [lenOf];omega
theorem ZlS {T:List DMacro} {N:List ByteArray} (hTab:tabOk T=true) (hT:∀ m∈T,m.name∈N) (hN:N.length<=5000):∀ n,n<=1000->ExpI T N n:=by
 intro n
 induction n using Nat.strongRecOn with
 | ind n ih=>exact λ hn=>ZlR (λ j hj=>ih j hj (by omega)) hn hTab hT hN
def ZbC (T:List DMacro) (s:ByteArray):ByteArray × Bool:=
 if (Zai s).2=true then (if (Za4 T (Zai s).1).2=0 then ZaQ (Za4 T (Zai s).1).1 else (⟨#[]⟩,false)) else (⟨#[]⟩,false)
theorem Zdd {T:List DMacro} {s:ByteArray} {l:List Tok} (h:Zai s=(l,false)):ZbC T s=(⟨#[]⟩,false):=by unfold ZbC;rw [h];simp
theorem ZdL {T:List DMacro} {s:ByteArray} {l x:List Tok} {c:Int} (h:Zai s=(l,true)) (hx:Za4 T l=(x,c)) (hc:c≠0):ZbC T s=(⟨#[]⟩,false):=by
 unfold ZbC;rw [h];simp only [if_true];rw [hx];simp only;rw [if_neg hc]
theorem ZcH {T:List DMacro} {s:ByteArray} {l x:List Tok} (h:Zai s=(l,true)) (hx:Za4 T l=(x,0)):ZbC T s=ZaQ x:=by
 unfold ZbC;rw [h];simp only [if_true];rw [hx];simp only [if_true]
def ZdD (T:List DMacro) (s:ByteArray) (w:World) (e:Ending) (w':World):Prop:=e=.returned (.tuple #[.string (ZbC T s).1,.bool (ZbC T s).2])/\Below w.heap.size w w'
theorem ZdE {T:List DMacro} {s x:ByteArray} {b:Bool} {w w':World} (h:ZbC T s=(x,b)) (hb:Below w.heap.size w w'):ZdD T s w (.returned (.tuple #[.string x,.bool b])) w':=⟨by rw [h],hb⟩
theorem Ziq (vT:Value) (T:List DMacro) (fpT:List Nat) (s:ByteArray) (w:World) (hTl:T.length<=1048576) (hTs:∀ k,(hk:k<T.length)->MacSm T[k]) (hs:s.size<=maxLen) (HT:(Zaa sMacro).R w [vT] T fpT) :
  Calls Tryz.prog 8 #[vT,.string s] w (ZdD T s w):=by
 have HC:=Qh (Zbe s w hs)
 rcases hq:Zai s with⟨l,ok⟩
 unfold Zbd at HC
 rw [hq] at HC
 try dsimp only at HC
 have HQ:=Qh hq
 clear hq
 go_enter Tryz.func8,Tryz.ntmps8
 go_wp2_with fail
 refine HC.out.mono ?_
 rintro e w1 ⟨v1,f1,rfl,hR1,-,hB1⟩
 clear HC
 cases ok
 ·have HF:=Qh (Zdd (T:=T) HQ.out)
  go_wp2
  go_ret2
  exact ZdE HF.out hB1
 have hv:=Zf3 HQ.out
 have HE:=Qh (ZlQ vT T fpT v1 l f1 w1 hTl hTs (by have:=(Zam hv).1;omega) (λ k hk=>by have:=(ZhA hv _ (List.getElem_mem hk)).1;omega) ((Zaa sMacro).below HT hB1) hR1)
 rcases hx:Za4 T l with⟨x,c⟩
 unfold Zln at HE
 rw [hx] at HE
 try dsimp only at HE
 have HX:=Qh hx
 clear hx hR1 hv
 go_wp2_with fail
 refine HE.out.mono ?_
 rintro e w2 ⟨v2,f2,rfl,hR2,-,hb2⟩
 have hB2:=hB1.trans (hb2.mono hB1.size)
 by_cases hc0:c=0
 rotate_left
 ·have HF:=Qh (ZdL HQ.out HX.out hc0)
  have e2:(c != 0)=true:=by simp [hc0]
  clear hc0
  go_wp2
  go_ret2
  exact ZdE HF.out hB2
 subst hc0
 have HF:=Qh (ZcH HQ.out HX.out)
 have HP:=Qh (Zg9 v2 x f2 w2 hR2)
 unfold Ze0 at HP
 rcases hp:ZaQ x with⟨y,b⟩
 rw [hp] at HP HF
 try dsimp only at HP
 clear hp hR2 HE
 go_wp2_with fail
 refine HP.out.mono ?_
 rintro e w3 ⟨rfl,hb3⟩
 go_wp2
 go_ret2
 exact ZdE HF.out (hB2.trans (hb3.mono hB2.size))
theorem Zm4 (t:Tok):findM [] t=none:=by
 unfold findM
 split
 ·simp
 ·rfl
theorem ZjT (n s:Nat):∀ (l out:List Tok),out.length+l.length<=60->expG [] n s out l=(out++l,s,0)
 | [],out,_=>by rw [Zb4,List.append_nil]
 |
  t::r,out,h=>by
  rw [List.length_cons] at h
  rw [Zbs (Zmr (Zm4 t)) (by omega),ZjT n s r (out++[t]) (by rw [List.length_append,List.length_singleton];omega),List.append_assoc]
  rfl
theorem Zlo {l:List Tok} (h:Zaj l=true):Za4 [] l=(l,0):=by
 unfold Za4
 rw [if_pos ⟨rfl,h⟩,ZjT 100 100 l [] (by have:=(Zam h).1;simpa using this)]
 simp
theorem Zj2 {s:ByteArray} {l:List Tok} (h:Zai s=(l,true)):ZbC [] s=ZaQ l:=ZcH h (Zlo (Zf3 h))
theorem Zlp {T:List DMacro} {s x:ByteArray} (h:ZbC T s=(x,true)):(∃ l,Zai s=(l,true))/\ZaC x=true:=by
 rcases hq:Zai s with⟨l,ok⟩
 cases ok
 ·rw [Zdd hq] at h;simp at h
 ·refine ⟨⟨l,rfl⟩,?_⟩
  rcases hx:Za4 T l with⟨y,c⟩
  by_cases hc:c=0
  ·subst hc
   rw [ZcH hq hx] at h
   obtain⟨out,h1,-⟩:=ZgQ h
   exact(Za5 h1).2
  ·rw [ZdL hq hx hc] at h;simp at h
theorem Zfd {l:List Tok} {x:ByteArray} (h:ZaQ l=(x,false)):x=⟨#[]⟩:=by
 unfold ZaQ at h
 split at h
 ·split at h
  ·simp only [Prod.mk.injEq,and_true] at h;exact h.symm
  ·simp at h
 ·simp only [Prod.mk.injEq,and_true] at h;exact h.symm
theorem Zj3 {T:List DMacro} {s x:ByteArray} (h:ZbC T s=(x,false)):x=⟨#[]⟩:=by
 rcases hq:Zai s with⟨l,ok⟩
 cases ok
 ·rw [Zdd hq] at h;simp only [Prod.mk.injEq,and_true] at h;exact h.symm
 ·rcases hx:Za4 T l with⟨y,c⟩
  by_cases hc:c=0
  ·subst hc
   rw [ZcH hq hx] at h
   exact Zfd h
  ·rw [ZdL hq hx hc] at h;simp only [Prod.mk.injEq,and_true] at h;exact h.symm
theorem exp_bad (T:List DMacro):∀ (n:Nat) (w:List Tok) (s:Nat) (out:List Tok),(expG T n s out w).2.2≠0->(expG T n s out w).1=[]:=by
 intro n
 induction n with
 |
  zero =>
  intro w
  induction w with
  | nil=>intro s out h;rw [Zb4] at h;exact absurd rfl h
  |
   cons t r ih =>
   intro s out h
   cases hg:goM T (t::r) with
   |
    none =>
    by_cases hl:60<out.length+1
    ·rw [ZbE hg hl]
    ·rw [Zbs hg hl] at h ⊢;exact ih s _ h
   | some m=>rw [expG,hg]
 |
  succ n ihn =>
  intro w
  induction w with
  | nil=>intro s out h;rw [Zb4] at h;exact absurd rfl h
  |
   cons t r ih =>
   intro s out h
   cases hg:goM T (t::r) with
   |
    none =>
    by_cases hl:60<out.length+1
    ·rw [ZbE hg hl]
    ·rw [Zbs hg hl] at h ⊢;exact ih s _ h
   |
    some m =>
    cases s with
    | zero=>rw [Zdx hg]
    |
     succ s =>
     rw [Zll hg] at h ⊢
     split
     ·rename_i h2
      rw [if_pos h2] at h
      exact ihn _ _ _ h
     ·rfl
def Zja (r:List Tok × Int) (w:World) (e:Ending) (w':World):Prop:=
 ∃ (v:Value) (fp:List Nat),e=.returned (.tuple #[v,.int .i64 r.2])/\(Zaa sTok).R w' [v] r.1 fp/\Own w' w.heap.size fp/\Below w.heap.size w w'
theorem Zir {r:List Tok × Int} {c:Int} {w W:World} (h:r=([],c)) (hb:Below w.heap.size w W):Zja r w (.returned (.tuple #[.slice none 0 0,.int .i64 c])) W:=
 ⟨_,[],by rw [h],by rw [h];exact Zan _ _ _ _ (by simp),Own.nil _ _,hb⟩
theorem ZlT (vT:Value) (T:List DMacro) (fpT:List Nat) (v:Value) (l:List Tok) (fp:List Nat) (w:World) (HT:(Zaa sMacro).R w [vT] T fpT) (H:(Zaa sTok).R w [v] l fp):Calls Tryz.prog 18 #[vT,v] w (Zja (Za4 T l) w):=by
 have HVT:=Qh (ZhW vT T fpT w HT)
 have HVL:=Qh (λ (U:World) (hU:Below w.heap.size w U)=>ZbD v l fp U ((Zaa sTok).below H hU))
 have HT0:=Qh HT
 have HL0:=Qh H
 have HLT:=Qh ((Zaa sMacro).lt HT)
 have HLL:=Qh ((Zaa sTok).lt H)
 obtain⟨aT,cT,rfl,-⟩:=Zac HT
 obtain⟨al,cl,rfl,-⟩:=Zac H
 clear HT H
 go_enter Tryz.func18,Tryz.ntmps18
 cases ht:tabOk T
 ·have HF:=Qh (ZdY (T:=T) (l:=l) (λ h=>by rw [ht] at h;exact absurd h.1 (by simp)))
  rw [ht] at HVT
  clear ht HVL
  go_wp2_with fail
  refine HVT.out.mono ?_
  rintro e w3 ⟨rfl,hb3⟩
  go_wp2
  go_ret2
  exact Zir HF.out hb3
 cases hv:Zaj l
 ·have HF:=Qh (ZdY (T:=T) (l:=l) (λ h=>by rw [hv] at h;exact absurd h.2 (by simp)))
  rw [ht] at HVT
  rw [hv] at HVL
  clear ht hv
  go_wp2_with fail
  refine HVT.out.mono ?_
  rintro e w3 ⟨rfl,hb3⟩
  go_wp2_with fail
  refine (HVL.out w3 hb3).mono ?_
  rintro e w4 ⟨rfl,hb4⟩
  go_wp2
  go_ret2
  exact Zir HF.out (hb3.trans (hb4.mono hb3.size))
 have HEX:Hid (∀ (eb:Nat) (W:World),Below w.heap.size w W->w.heap.size<=eb->EBox eb (.slice aT T.length cT) 0 W->Calls Tryz.prog 42 #[.pointer (some ⟨eb,0,none⟩),.slice al l.length cl] W (MineX eb (.slice aT T.length cT) (expG T 100 100 [] l) W)):=λ eb W hW hge hB =>
  ZlS (T:=T) (N:=ZdC T l) ht (λ m hm=>List.mem_append.2 (.inl (List.mem_map.2 ⟨m,hm,rfl⟩))) (Zgq ht hv) 100 (by omega) eb _ fpT _ l fp 100 0 W (Nat.le_refl _) (by omega) (Zam hv).1 (λ t ht'=>⟨Tx.toks hv t ht',ZhB hv t ht'⟩) hB ((Zaa sMacro).below HT0.out hW) (λ h=>by have:=HLT.out _ h;omega) ((Zaa sTok).below HL0.out hW) (λ h=>by have:=HLL.out _ h;omega)
 have HXR:Hid (Za4 T l=((expG T 100 100 [] l).1,(expG T 100 100 [] l).2.2)):=by
  show _=_
  unfold Za4
  rw [if_pos ⟨ht,hv⟩]
  split
  ·rename_i h;rw [h]
  ·rename_i h;rw [exp_bad T 100 l 100 [] h]
 rw [ht] at HVT
 rw [hv] at HVL
 rcases hq:expG T 100 100 [] l with⟨x,lf,c⟩
 unfold MineX at HEX
 rw [hq] at HEX HXR
 try dsimp only at HEX HXR
 clear ht hv hq
 go_wp2_with fail
 refine HVT.out.mono ?_
 rintro e w3 ⟨rfl,hb3⟩
 go_wp2_with fail
 refine (HVL.out w3 hb3).mono ?_
 rintro e w4 ⟨rfl,hb4⟩
 have hb:=hb3.trans (hb4.mono hb3.size)
 have ba:=Zab w4 (.cells #[.slice aT T.length cT,.int .i64 0] 74)
 have HB5:=Qh (heap_alloc_new w4 (.cells #[.slice aT T.length cT,.int .i64 0] 74))
 have hb5:=hb.trans (ba.mono hb.size)
 have HC:=Qh (HEX.out w4.heap.size _ hb5 hb.size HB5.out)
 clear HEX HVT HVL hb3 hb4 ba
 go_wp2_with fail
 refine HC.out.mono ?_
 rintro e w6 ⟨vx,L,k6,rfl,RL,hLd,OL,-,-,K6⟩
 obtain⟨fx,rx,-,ox⟩:=RL.read
 rw [hLd] at rx
 have HRX:=Qh rx
 have HOX:=Qh ((ox OL).lower (lo':=w.heap.size) hb5.size)
 have hb6:Below w.heap.size w w6:=hb5.trans (K6.below (λ b hb'=>by rw [Qm hb'];exact hb.size) hb5.size)
 obtain⟨ax,cx,rfl,-⟩:=Zac rx
 clear RL hLd OL K6 rx ox HC HB5
 go_wp2
 go_ret2
 exact⟨_,fx,by rw [HXR.out];rfl,by rw [HXR.out];exact HRX.out,HOX.out,hb6⟩
theorem ZeJ (vT:Value) (T:List DMacro) (fpT:List Nat) (s:ByteArray) (w:World) (hs:s.size<=maxLen) (HT:(Zaa sMacro).R w [vT] T fpT) :
  Calls Tryz.prog 7 #[vT,.string s] w (ZdD T s w):=by
 have HC:=Qh (Zbr s w hs)
 rcases hq:Zai s with⟨l,ok⟩
 unfold Zbd at HC
 rw [hq] at HC
 try dsimp only at HC
 have HQ:=Qh hq
 clear hq
 go_enter Tryz.func7,Tryz.ntmps7
 go_wp2_with fail
 refine HC.out.mono ?_
 rintro e w1 ⟨v1,f1,rfl,hR1,-,hB1⟩
 clear HC
 cases ok
 ·have HF:=Qh (Zdd (T:=T) HQ.out)
  go_wp2
  go_ret2
  exact ZdE HF.out hB1
 have HE:=Qh (ZlT vT T fpT v1 l f1 w1 ((Zaa sMacro).below HT hB1) hR1)
 rcases hx:Za4 T l with⟨x,c⟩
 unfold Zja at HE
 rw [hx] at HE
 try dsimp only at HE
 have HX:=Qh hx
 clear hx hR1
 go_wp2_with fail
 refine HE.out.mono ?_
 rintro e w2 ⟨v2,f2,rfl,hR2,-,hb2⟩
 have hB2:=hB1.trans (hb2.mono hB1.size)
 by_cases hc0:c=0
 rotate_left
 ·have HF:=Qh (ZdL HQ.out HX.out hc0)
  have e2:(c != 0)=true:=by simp [hc0]
  clear hc0
  go_wp2
  go_ret2
  exact ZdE HF.out hB2
 subst hc0
 have HF:=Qh (ZcH HQ.out HX.out)
 have HP:=Qh (Zhj v2 x f2 w2 hR2)
 unfold Ze0 at HP
 rcases hp:ZaQ x with⟨y,b⟩
 rw [hp] at HP HF
 try dsimp only at HP
 clear hp hR2 HE
 go_wp2_with fail
 refine HP.out.mono ?_
 rintro e w3 ⟨rfl,hb3⟩
 go_wp2
 go_ret2
 exact ZdE HF.out (hB2.trans (hb3.mono hB2.size))
theorem ZbY {s:ByteArray} (h:s.size<=1000000):s.size<=maxLen:=by unfold maxLen;omega
theorem line_ab (w:World):Calls Tryz.prog 11 #[.string ⟨#[97,32,98]⟩] w λ e w'=>e=.returned (.bool true)/\w=w':=by
 have:=ZbB ⟨#[97,32,98]⟩ w (ZbY (by decide))
 rwa [show ZaC ⟨#[97,32,98]⟩=true from by decide] at this
theorem line_nl (w:World):Calls Tryz.prog 11 #[.string ⟨#[10]⟩] w λ e w'=>e=.returned (.bool false)/\w=w':=by
 have:=ZbB ⟨#[10]⟩ w (ZbY (by decide))
 rwa [show ZaC ⟨#[10]⟩=false from by decide] at this
theorem alive (w:World):Calls Tryz.prog 12 #[] w λ e w'=>e=.returned (.bool true)/\w=w':=by
 go_enter Tryz.func12,Tryz.ntmps12
 go_wp2_with fail
 refine (line_ab _).mono ?_
 rintro e w' ⟨rfl,rfl⟩
 go_wp2_with fail
 refine (line_nl _).mono ?_
 rintro e w' ⟨rfl,rfl⟩
 go_wp2
 go_ret
 exact⟨rfl,rfl⟩
end Go.Proofs.YtiaiggjfepoahaaGreat
