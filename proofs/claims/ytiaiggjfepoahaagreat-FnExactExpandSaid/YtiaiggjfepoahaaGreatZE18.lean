/- Texts that the proof of E stands on, in one file. -/
import Derived.Test.YtiaiggjfepoahaaGreatZE17
set_option linter.unusedVariables false
set_option maxHeartbeats 16000000
set_option maxRecDepth 100000
set_option linter.unusedSimpArgs false
/- Expand of the model: under a table any tokens. -/
namespace Go.Proofs.YtiaiggjfepoahaaGreat
open Go.RowKit
theorem ZiJ {T:List DMacro} {N:List ByteArray} (hTab:∀ m∈T,macOk m=true) (hT:∀ m∈T,m.name∈N) (hN:N.length<=5000):∀ n,n<=1000->ExpC T N n:=by
 intro n
 induction n using Nat.strongRecOn with
 | _ n ih=>exact λ hn=>ZiC (λ j hj=>ih j hj (by omega)) hn hTab hT hN
def ZcH (T:List DMacro) (l:List Tok):List ByteArray:=T.map (·.name)++l.flatMap (·.hidden)
theorem ZkB:∀ {l:List Tok},(∀ t∈l,t.hidden.length<=60)->(l.flatMap (·.hidden)).length<=60 * l.length
 | [],_=>by simp
 |
  t::r,h=>by
  have h1:=h t (by simp)
  have h2:=ZkB (l:=r) (λ t ht=>h t (by simp [ht]))
  rw [List.flatMap_cons,List.length_append,List.length_cons]
  omega
theorem Zhi {l:List Tok} (h:Zaj l=true):∀ t∈l,t.hidden.length<=60/\Up t.hidden:=λ t ht=>by
 obtain⟨k,hk,rfl⟩:=List.getElem_of_mem ht
 have h1:=(Zau h).2 k hk
 unfold tokOk at h1
 rw [Bool.and_eq_true] at h1
 have h2:=ZcE h1.2
 exact⟨h2.1,h2.2.2⟩
theorem Zek {T:List DMacro} {l:List Tok} (hT:tabOk T=true) (hl:Zaj l=true):(ZcH T l).length<=5000:=by
 unfold ZcH
 rw [List.length_append,List.length_map]
 have h1:=(Zei hT).1
 have h2:=ZkB (λ t ht=>(Zhi hl t ht).1)
 have h3:=(Zau hl).1
 omega
theorem Zfi {T:List DMacro} {l:List Tok} (hl:Zaj l=true):∀ t∈l,HidIn (ZcH T l) t:=λ t ht=>⟨(Zhi hl t ht).2,λ x hx=>List.mem_append.2 (.inr (List.mem_flatMap.2 ⟨t,ht,hx⟩))⟩
def Zf4 (r:List Tok × Int) (w:World) (e:Ending) (w':World):Prop:=
 ∃ (v:Value) (fp:List Nat),e=.returned (.tuple #[v,.int .i64 r.2])/\(Zaa sTok).R w' [v] r.1 fp/\(∀ b∈fp,w.heap.size<=b)/\Below w.heap.size w w'
theorem Zf5 {r:List Tok × Int} {c:Int} {w W:World} (h:r=([],c)) (hb:Below w.heap.size w W):Zf4 r w (.returned (.tuple #[.slice (some ⟨W.heap.size,0,none⟩) 0 0,.int .i64 c])) (W.alloc (.cells #[] 57)):=
 ⟨_,[],by rw [h],by rw [h];exact ZaC _ _ _ _ (by simp),by simp,hb.alloc hb.size _⟩
theorem Zdz {T:List DMacro} {l:List Tok} (h:¬ (tabOk T=true/\Zaj l=true)):expRes T l=([],-1):=by unfold expRes;rw [if_neg h]
theorem ZgM (vT:Value) (T:List DMacro) (fpT:List Nat) (v:Value) (l:List Tok) (fp:List Nat) (w:World) (hTl:T.length<=1048576) (hTs:∀ k,(hk:k<T.length)->MacSm T[k]) (hl:l.length<=1048576) (hx:∀ k,(hk:k<l.length)->l[k].hidden.length<=2000000)
  (HT:(Zaa sMacro).R w [vT] T fpT) (H:(Zaa sTok).R w [v] l fp):Calls Tryz.prog 15 #[vT,v] w (Zf4 (expRes T l) w):=by
 have HCT:=Qh (Zfs vT T fpT w hTl hTs HT)
 have HCL:=Qh (λ (U:World) (hU:Below w.heap.size w U)=>ZaX v l fp U hl hx ((Zaa sTok).below H hU))
 clear HT H hTs hx hTl hl
 go_enter Tryz.func15,Tryz.ntmps15
 go_wp2_with fail
 refine HCT.out.mono ?_
 rintro e w1 ⟨v1,f1,rfl,hR1,hlo1,hB1⟩
 clear HCT
 go_wp2_with fail
 refine (HCL.out w1 hB1).mono ?_
 rintro e w2 ⟨v2,f2,rfl,hR2,hlo2,-,hb2⟩
 have hB2:=hB1.trans (hb2.mono hB1.size)
 have HT2:=Qh ((Zaa sMacro).below hR1 hb2)
 have HR2:=Qh hR2
 have HVT:=Qh (ZhH v1 T f1 w2 HT2.out)
 have HVL:=Qh (λ (U:World) (hU:Below w2.heap.size w2 U)=>Zbt v2 l f2 U ((Zaa sTok).below HR2.out hU))
 clear HCL hR1 hR2 hlo1 hlo2 hb2 hB1
 cases ht:tabOk T
 ·have HF:=Qh (Zdz (T:=T) (l:=l) (λ h=>by rw [ht] at h;exact absurd h.1 (by simp)))
  rw [ht] at HVT
  clear ht HVL
  go_wp2_with fail
  refine HVT.out.mono ?_
  rintro e w3 ⟨rfl,hb3⟩
  have hB3:=hB2.trans (hb3.mono hB2.size)
  go_wp2
  go_ret2
  exact Zf5 HF.out hB3
 cases hv:Zaj l
 ·have HF:=Qh (Zdz (T:=T) (l:=l) (λ h=>by rw [hv] at h;exact absurd h.2 (by simp)))
  rw [ht] at HVT
  rw [hv] at HVL
  clear ht hv
  go_wp2_with fail
  refine HVT.out.mono ?_
  rintro e w3 ⟨rfl,hb3⟩
  have hB3:=hB2.trans (hb3.mono hB2.size)
  go_wp2_with fail
  refine (HVL.out w3 hb3).mono ?_
  rintro e w4 ⟨rfl,hb4⟩
  have hB4:=hB3.trans (hb4.mono hB3.size)
  go_wp2
  go_ret2
  exact Zf5 HF.out hB4
 have HX:=Qh (λ (U:World) (hU:Below w2.heap.size w2 U)=>ZiJ (T:=T) (N:=ZcH T l) (Zei ht).2.1 (λ m hm=>List.mem_append.2 (.inl (List.mem_map.2 ⟨m,hm,rfl⟩))) (Zek ht hv) 100 (by omega) v1 f1 v2 l f2 100 U (Nat.le_refl _) (by have:=(Zau hv).1;omega) (Zfi hv) ((Zaa sMacro).below HT2.out hU) ((Zaa sTok).below HR2.out hU))
 have HIN:=Qh (ZfT (T:=T) (N:=ZcH T l) (λ m hm=>List.mem_append.2 (.inl (List.mem_map.2 ⟨m,hm,rfl⟩))) 100 l 100 [] (by simp) (Zfi hv))
 have HLN:=Qh (Ziu T 100 l 100 [] (by simp))
 have HNL:=Qh (Zek ht hv)
 have HEX:Hid (expRes T l=if (expG T 100 100 [] l).2.2=0 then ((expG T 100 100 [] l).1,0) else ([],(expG T 100 100 [] l).2.2)):=by show _=_;unfold expRes;rw [if_pos ⟨ht,hv⟩]
 rw [ht] at HVT
 rw [hv] at HVL
 rcases hq:expG T 100 100 [] l with⟨x,lf,c⟩
 unfold XpOf at HX
 rw [hq] at HX HIN HLN HEX
 try dsimp only at HX HIN HLN HEX
 clear ht hv hq
 go_wp2_with fail
 refine HVT.out.mono ?_
 rintro e w3 ⟨rfl,hb3⟩
 have hB3:=hB2.trans (hb3.mono hB2.size)
 go_wp2_with fail
 refine (HVL.out w3 hb3).mono ?_
 rintro e w4 ⟨rfl,hb4⟩
 have hB4:=hB3.trans (hb4.mono hB3.size)
 have hb24:=hb3.trans (hb4.mono hb3.size)
 go_wp2_with fail
 refine (HX.out w4 hb24).mono ?_
 rintro e w5 ⟨vx,L,rfl,RL,hLd,hLf,hb5⟩
 have hB5:=hB4.trans (hb5.mono hB4.size)
 by_cases hc0:c=0
 rotate_left
 ·have HF:Hid (expRes T l=([],c)):=by show _=_;rw [HEX.out,if_neg hc0]
  have e2:(c != 0)=true:=by simp [hc0]
  clear hc0
  obtain⟨ax,cx,hvx,-⟩:=RL.val
  subst hvx
  go_wp2
  go_ret2
  exact Zf5 HF.out hB5
 subst hc0
 have HF:Hid (expRes T l=(x,0)):=by show _=_;rw [HEX.out];simp
 obtain⟨fx,rx,-,-⟩:=RL.read
 rw [hLd] at rx
 have HOW:=Qh (ZaX vx x fx w5 (by have h60:x.length<=60:=HLN.out;omega) (λ k hk=>by have hh:HidIn (ZcH T l) x[k]:=HIN.out _ (List.getElem_mem hk);have:=hh.len;have:=HNL.out;omega) rx)
 clear RL hLd hLf rx HX HIN HLN HEX
 go_wp2_with fail
 refine HOW.out.mono ?_
 rintro e w6 ⟨v6,f6,rfl,hR6,hlo6,-,hb6⟩
 have hB6:=hB5.trans (hb6.mono hB5.size)
 have HR6:=Qh hR6
 clear hR6
 go_wp2
 go_ret2
 exact⟨v6,f6,by rw [HF.out];rfl,by rw [HF.out];exact HR6.out,λ b hb=>Nat.le_trans hB5.size (hlo6 b hb),hB6⟩
def ZiK (eb:Nat) (w:World):Nat:=
 match w.heap[eb]? with
 | some (.cells cs _ _)=>(intOf (cs.getD 1 undef)).toNat
 | _=>0
theorem EBox.steps {eb:Nat} {vT:Value} {k:Nat} {w:World} (h:EBox eb vT k w):ZiK eb w=k:=by
 unfold ZiK
 rw [show w.heap[eb]?=some (.cells #[vT,.int .i64 (k:Nat)] 74 (0,0)) from h]
 simp [intOf]
theorem exp_go {T:List DMacro} {j s q:Nat} {out r x:List Tok} {t:Tok} {m:DMacro} {c:Int} (h:goM T (t::r)=some m) (hsj:s<=j) (hx:stepX (λ a k=>expG T (j-1) k [] a) m (t::r) s=(x,q,c)) :
  expG T j s out (t::r)=(if c=0 then expG T (j-1) q out x else ([],q,c))/\(c=0->0<s):=by
 cases s with
 |
  zero =>
  unfold stepX at hx
  simp only [Prod.mk.injEq] at hx
  obtain⟨rfl,rfl,rfl⟩:=hx
  exact⟨by rw [Zc8 h,if_neg (by simp)],λ h=>absurd h (by simp)⟩
 |
  succ s =>
  obtain⟨i,rfl⟩:∃ i,j=i+1:=⟨j-1,by omega⟩
  rw [Nat.add_sub_cancel] at hx ⊢
  refine ⟨?_,λ _=>by omega⟩
  rw [ZkA h,hx]
theorem ZkZ {T:List DMacro} {N:List ByteArray} {n:Nat} (IH:∀ j,j<n->ExpI T N j) (hn:n<=1000) (hTab:tabOk T=true) (hT:∀ m∈T,m.name∈N) (hN:N.length<=5000):ExpI T N n:=by
 intro eb vT fpT v l fp s k w hs hk hl hg HB HT heT H he
 have HTB:=Qh HT
 have heb:eb<w.heap.size:=mlt HB
 have HTAB:=Qh hTab
 have HTD0:Hid (ToDo w.heap.size fp (.slice none 0 0) v l fp w):=⟨H,by simp [Value.ownBlock],λ b hb=>.inl hb⟩
 have HG0:=Qh hg
 have HB0:=Qh HB
 obtain⟨al,cl,rfl,-⟩:=Zac H
 clear HT H hg HB hTab
 go_enter Tryz.func42,Tryz.ntmps42
 go_wp2
 go_loopw [6,7] (λ vo vw wr=>∃ (j s' kk:Nat) (O:List (Elem Tok)) (W:List Tok) (fpw:List Nat),s'<=j/\j<=n/\kk+s'=100/\W.length<=60/\O.length<=60/\Hid (RowN sTok w.heap.size 57 vo O wr)/\Hid (Own wr w.heap.size (O.flatMap (·.fp)))/\Hid (ToDo w.heap.size fp vo vw W fpw wr)/\Hid (expG T n s [] l=expG T j s' (O.map (·.d)) W)/\Hid (∀ t∈W,Good N t)/\Hid (EBox eb vT kk wr)/\Hid (Kept [eb] w wr)) (λ _ vw wr=>(100-ZiK eb wr) * 1000+lenOf vw)
 case atStart=>exact⟨n,s,k,[],l,fp,hs,Nat.le_refl _,hk,hl,by simp,RowN.nil _ _ _ _,Own.nil _ _,HTD0.out,rfl,HG0.out,HB0.out,Kept.refl _ _⟩
 case round =>
  clear HTD0 HB0
  obtain⟨j,s',kk,O,W,fpw,hsj,hjn,hkk,hW,hO,HRO,HOO,HTD,HGO,HGW,HBX,HK⟩:=hrel
  obtain⟨ao,co,hvo,-⟩:=HRO.out.val
  subst hvo
  obtain⟨aw,cw,rfl,hcw,hmw,hroww⟩:=Zac HTD.out.r
  unfold maxLen at hmw
  cases W with
  |
   nil =>
   have HF:=Qh (HGO.out.trans Zb8)
   clear hroww
   go_wp2
   go_ret2
   exact⟨.slice ao O.length co,O,kk,by rw [HF.out];rfl,HRO.out,by rw [HF.out],HOO.out,HBX.out,λ _=>by rw [HF.out];exact hkk,HK.out⟩
  |
   cons t r =>
   obtain⟨bw,ow,-,rfl,-,-,-⟩:=hroww (by simp)
   obtain⟨xa,xc,xf,c0,c1,c2,c3,xR,hbb,hxf⟩:=ZaQ HTD.out.r (j:=0) (by simp)
   simp only [List.getElem_cons_zero,Nat.zero_mul,Nat.add_zero] at c0 c1 c2 c3 xR
   have HXF:=Qh hxf
   have XR:=Qh xR
   have HCE:Hid (∀ U:World,Below wr.heap.size wr U->U.cell? ⟨bw,ow,none⟩=some (.int .i64 t.kind)/\U.cell? ⟨bw,ow+1,none⟩=some (.string t.text)/\U.cell? ⟨bw,ow+2,none⟩=some (.bool t.spaced)/\U.cell? ⟨bw,ow+3,none⟩=some (.slice xa t.hidden.length xc)):=λ U hU=>⟨(hU.cell (p:=⟨bw,ow,none⟩) hbb).trans c0,(hU.cell (p:=⟨bw,ow+1,none⟩) hbb).trans c1,(hU.cell (p:=⟨bw,ow+2,none⟩) hbb).trans c2,(hU.cell (p:=⟨bw,ow+3,none⟩) hbb).trans c3⟩
   have HUS:=Qh (Ziy vT T fpT _ (t::r) fpw wr HTAB.out (by simp) (by omega) (λ u hu=>(HGW.out u hu).1) ((Zaa sMacro).kept HTB.out (λ b hb=>by simp only [List.mem_singleton];rintro rfl;exact heT hb) HK.out) HTD.out.r)
   have HTR:=Qh HTD.out.r
   obtain⟨NW,HNW⟩:∃ NW:Nat,Hid (NW=(t::r).length):=⟨(t::r).length,Qh rfl⟩
   rw [show (t::r).length=NW from HNW.out.symm] at HTD hcw hW HUS HTR ⊢
   have hNW:0<NW:=by have:=HNW.out;rw [List.length_cons] at this;omega
   have hNWi:(0:Int)<(NW:Int):=by omega
   obtain⟨NO,HNO⟩:∃ NO:Nat,Hid (NO=O.length):=⟨O.length,Qh rfl⟩
   rw [show O.length=NO from HNO.out.symm] at HRO HTD hO ⊢
   have hwr:=HK.out.size
   have e0:=Qc 0 HBX.out
   clear xR hxf hroww c0 c1 c2 c3
   go_wp2_with fail
   refine HUS.out.mono ?_
   rintro e w3 (⟨hg,rfl,hb3⟩ | ⟨m,a2,a3,c2_,c3_,fm,hg,rfl,RM,hfm,hb3⟩)
   ·have HG:=Qh hg
    have bm:=Zab w3 (.cells #[.string ⟨#[]⟩,.bool false,.slice none 0 0,.slice none 0 0] 70)
    have hb4:=hb3.trans (bm.mono hb3.size)
    clear HUS e0 hg
    go_upto_region 10 with fail
    generalize (w3.alloc (.cells #[.string ⟨#[]⟩,.bool false,.slice none 0 0,.slice none 0 0] 70))=w4 at *
    by_cases hfl:NO=60
    ·have HF:=Qh (HGO.out.trans (Zbw HG.out (by rw [List.length_map,← HNO.out];omega)))
     have e6:((NO:Int)==60)=true:=by simp;omega
     have HK4:=Qh (HK.out.after hb4)
     have HB4:=Qh (HBX.out.below hb4)
     clear hfl
     go_wp2
     go_ret2
     exact⟨_,[],kk,by rw [HF.out];rfl,RowN.nil _ _ _ _,by rw [HF.out];rfl,Own.nil _ _,HB4.out,λ h=>by rw [HF.out] at h;exact absurd (show (3:Int)=0 from h) (by decide),HK4.out⟩
    have e6:((NO:Int)==60)=false:=by simp;omega
    have hNO:NO+1<=60:=by omega
    clear hfl
    obtain⟨c0,c1,c2,c3⟩:=HCE.out w4 hb4
    have htl:t.hidden.length<=2000000:=by have:=(HGW.out t (by simp)).2.len;omega
    have HCT:=Qh (Zdc _ t xf w4 htl (sTok.below XR.out hb4))
    go_wp2_with fail
    refine HCT.out.mono ?_
    rintro e w5 ⟨a3,c3_,f3,rfl,R3,O3,-,hb5⟩
    have hb45:=hb4.trans (hb5.mono hb4.size)
    have hw45:=hb45.size
    have bl:=Zab w5 (.cells #[.int .i64 t.kind,.string t.text,.bool t.spaced,.slice a3 t.hidden.length c3_] 57)
    have HL6:=Qh (heap_alloc_new w5 (.cells #[.int .i64 t.kind,.string t.text,.bool t.spaced,.slice a3 t.hidden.length c3_] 57))
    have hb46:=hb45.trans (bl.mono hb45.size)
    have HRO6:=Qh (HRO.out.below hb46)
    have HOO6:=Qh (HOO.out.grow hb46)
    have HTD6:=Qh (HTD.out.below hb46)
    have XR6:=Qh (sTok.below R3 bl)
    have OX6:=Qh (O3.grow bl)
    have HW4:=Qh hb4.size
    have HF3:Hid (∀ b∈f3,wr.heap.size<=b):=λ b hb=>by have:=(O3.2 b hb).1;have:=hb4.size;omega
    have HOM:=Qh HRO.out.mine
    have HXN:Hid (∀ b∈f3,(Value.slice ao NO co).ownBlock≠some b):=λ b hb h=>by have:=(HOM.out b h).2;have:=HF3.out b hb;omega
    have HK6:=Qh (HK.out.after hb46)
    have HB6:=Qh (HBX.out.below hb46)
    have hw6:=hb46.size
    clear c0 c1 c2 c3 HCT R3 O3 hb5 bl hb45 hb46 bm hb3 hb4
    go_upto_region 13 with(at_builtin;refine ZaK (X:=[(⟨[.int .i64 t.kind,.string t.text,.bool t.spaced,.slice a3 t.hidden.length c3_],t,f3⟩:Elem Tok)]) ZaE rfl (by decide) _ rfl (.tmp 40) (.tmp 45) rfl w.heap.size (.slice ao NO co) rfl HRO6.out ⟨w5.heap.size,0,none⟩ 1 1 rfl rfl (λ x hx=>by obtain rfl:=Qm hx;exact⟨rfl,XR6.out,HXN.out⟩) (λ x hx=>by obtain rfl:=Qm hx;exact ZaI _ _ _ _ XR6.out) (λ j u hj=>by rw [ZaN,Nat.zero_add,cell_of_row _ _ _ _ _ _ HL6.out];simpa using hj) (by have:=HNO.out;unfold maxLen;omega) (by have:=HNO.out;omega) (by have:=HK6.out.size;omega) ?_;intro v7 w7 hR7 hg7 hp7)
    have HK7:Hid (Kept [eb] w w7):=⟨hg7.os.trans HK6.out.os,hg7.tape.trans HK6.out.tape,hg7.output.trans HK6.out.output,Nat.le_trans HK6.out.size hg7.size,λ b hb hn=>(hg7.block b (by have:=HK6.out.size;omega) (λ e=>by have:=(HOM.out b e.symm).1;omega)).trans (HK6.out.block b hb hn)⟩
    have HB7:Hid (EBox eb vT kk w7):=(hg7.block eb (by have:=HK6.out.size;omega) (λ e=>by have:=(HOM.out eb e.symm).1;omega)).trans HB6.out
    have HR7:=Qh hR7
    have HO7:Hid (Own w7 w.heap.size ((O++[(⟨[.int .i64 t.kind,.string t.text,.bool t.spaced,.slice a3 t.hidden.length c3_],t,f3⟩:Elem Tok)]).flatMap (·.fp))):=by
     show Own _ _ _
     rw [ZfW]
     have e1:([(⟨[.int .i64 t.kind,.string t.text,.bool t.spaced,.slice a3 t.hidden.length c3_],t,f3⟩:Elem Tok)]).flatMap (·.fp)=f3:=by simp
     rw [e1]
     refine ZbK (HOO6.out.app (OX6.out.lower (Nat.le_trans hwr HW4.out)) λ b hb hx=>?_) (λ b hb=>?_) hg7
     ·have h1:=HOO.out.lt b hb
      have h2:=HF3.out b hx
      omega
     ·rcases Qa hb with hb | hb
      ·obtain⟨x,hx,hb'⟩:=List.mem_flatMap.1 hb
       exact HRO.out.ap x hx b hb'
      ·exact HXN.out b hb
    have HTD7:Hid (ToDo w.heap.size fp v7 (.slice (some ⟨bw,ow,none⟩) NW cw) (t::r) fpw w7):=⟨(Zaa sTok).frame (λ b hb'=>hg7.block b (HTD6.out.lt b hb') (λ e=>HTD.out.o b hb' e.symm)) HTD6.out.r,λ b hb' hv=>by
      rcases hp7 with e | e
      ·exact HTD.out.o b hb' (by rw [← e];exact hv)
      ·rw [e,Qi] at hv;have:=HTD6.out.lt b hb';omega,HTD.out.l⟩
    obtain⟨a7,c7,hv7,-⟩:=hR7.val
    rw [show (O++[(⟨[.int .i64 t.kind,.string t.text,.bool t.spaced,.slice a3 t.hidden.length c3_],t,f3⟩:Elem Tok)]).length=NO+1 by rw [List.length_append,HNO.out];rfl] at hv7
    subst hv7
    clear hR7 hg7 hp7 HRO6 HOO6 HTD6 XR6 OX6 HL6
    have o1:(1:Int)<=(NW:Int):=by omega
    have o2:1<=NW:=hNW
    have o3:1<=cw:=by omega
    have o4:(1:Int)<=(cw:Int):=by omega
    obtain⟨fps,RS0,hfs⟩:=Zbg 1 (by have:=HNW.out;omega:1<=(t::r).length) HTD7.out.r
    rw [Option.map_some,Addr.add_lit,show sTok.m=4 from rfl,Nat.one_mul,List.drop_succ_cons,List.drop_zero] at RS0
    have HRS0:Hid (ToDo w.heap.size fp (.slice a7 (NO+1) c7) (.slice (if cw=1 then some ⟨bw,ow,none⟩ else some ⟨bw,ow+4,none⟩) (NW-1) (cw-1)) r fps w7):=⟨RS0,λ b hb'=>HTD7.out.o b (hfs b hb'),λ b hb'=>HTD7.out.l b (hfs b hb')⟩
    clear RS0 hfs
    have HGN:Hid (expG T n s [] l=expG T j s' ((O++[(⟨[.int .i64 t.kind,.string t.text,.bool t.spaced,.slice a3 t.hidden.length c3_],t,f3⟩:Elem Tok)]).map (·.d)) r):=by show _=_;rw [HGO.out,Zbv HG.out (by rw [List.length_map,← HNO.out];omega),List.map_append];rfl
    have HGR:Hid (∀ u∈r,Good N u):=λ u hu=>HGW.out u (by simp [hu])
    have hrl:r.length<=60:=by have:=HNW.out;rw [List.length_cons] at this;omega
    have hol:(O++[(⟨[.int .i64 t.kind,.string t.text,.bool t.spaced,.slice a3 t.hidden.length c3_],t,f3⟩:Elem Tok)]).length<=60:=by rw [List.length_append,← HNO.out];simp;omega
    have HST1:=Qh HB7.out.steps
    have HST2:=Qh HBX.out.steps
    by_cases h1:cw=1
    ·subst h1
     rw [if_pos rfl] at HRS0
     obtain rfl:NW=1:=by omega
     clear o3 o4
     go_wp2
     go_roundw
     case rel=>exact⟨j,s',kk,_,r,fps,hsj,hjn,hkk,hrl,hol,HR7,HO7,HRS0,HGN,HGR,HB7,HK7⟩
     case measure=>rw [HST1.out,HST2.out];simp [lenOf] <;> omega
    ·rw [if_neg h1] at HRS0
     go_wp2
     go_roundw
     case rel=>exact⟨j,s',kk,_,r,fps,hsj,hjn,hkk,hrl,hol,HR7,HO7,HRS0,HGN,HGR,HB7,HK7⟩
     case measure=>rw [HST1.out,HST2.out];simp [lenOf] <;> omega
   ·have bm:=Zab w3 (.cells #[.string m.name,.bool m.function,.slice a2 m.params.length c2_,.slice a3 m.body.length c3_] 70)
    have hbk:=hb3.trans (bm.mono hb3.size)
    have HXk:=Qh (heap_alloc_new w3 (.cells #[.string m.name,.bool m.function,.slice a2 m.params.length c2_,.slice a3 m.body.length c3_] 70))
    have RMk:=Qh (sMacro.below RM bm)
    have HG:=Qh hg
    have hmT:=go_in hg
    have HMN:Hid (macOk m=true/\m.name∈N):=⟨(Zei HTAB.out).2.1 m hmT,hT m hmT⟩
    have HOP:Hid (m.function=true->∃ h1:1<(t::r).length,isM (t::r)[1] [40]=true):=λ hf=>by
     obtain⟨hr,h2⟩:=Zlq hg hf
     exact⟨by simpa using hr,h2⟩
    have HEM:Hid (eb∉fm):=λ h=>heT (hfm _ h)
    have HK4:=Qh (HK.out.after hbk)
    have HB4:=Qh (HBX.out.below hbk)
    have HTD4:=Qh (HTD.out.below hbk)
    have HRO4:=Qh (HRO.out.below hbk)
    have HOO4:=Qh (HOO.out.grow hbk)
    have hw4:=hbk.size
    clear HUS e0 hg hmT RM hfm bm hb3 hbk
    go_upto_region 6 with fail
    obtain⟨mb,HMB⟩:∃ mb:Nat,Hid (mb=w3.heap.size):=⟨_,Qh rfl⟩
    generalize (w3.alloc (.cells #[.string m.name,.bool m.function,.slice a2 m.params.length c2_,.slice a3 m.body.length c3_] 70))=w4 at *
    rw [show w3.heap.size=mb from HMB.out.symm] at HXk ⊢
    obtain⟨m0,m1,m2,m3⟩:=Q4 HXk.out
    have HEB:Hid (eb∉fpw):=λ h=>by
     rcases HTD.out.l _ h with h | h
     ·exact he h
     ·omega
    have HSTP:=Qh (Zm3 (T:=T) (N:=N) (n:=j-1) hN eb vT fpT _ m fm _ (t::r) fpw s' kk w4 (λ h=>IH (j-1) (by omega)) (by omega) hkk (by simp) (by rw [← HNW.out];exact hW) HGW.out HMN.out.1 HMN.out.2 HOP.out HB4.out ((Zaa sMacro).kept HTB.out (λ b hb=>by simp only [List.mem_singleton];rintro rfl;exact heT hb) HK4.out) heT RMk.out HEM.out HTD4.out.r HEB.out)
    have HGD:=Qh (Zm2 (T:=T) hT hN HMN.out.2 (by rw [← HNW.out];exact hW) (by simp) HGW.out (j-1) s')
    rcases hx:stepX (λ a k=>expG T (j-1) k [] a) m (t::r) s' with⟨x,q,c⟩
    unfold StepOf at HSTP
    rw [hx] at HSTP HGD
    try dsimp only at HSTP
    have HXG:=Qh (exp_go (out:=O.map (·.d)) HG.out hsj hx)
    clear hx HTD4 RMk HXk
    go_wp2_with fail
    refine HSTP.out.mono ?_
    rintro e w5 ⟨v5,f5,k5,rfl,R5,g5,EB5,hk5,K5⟩
    obtain⟨a5,c5,rfl,-⟩:=Zac R5
    have HK5:=Qh (HK4.out.trans K5)
    have HEB5:=Qh EB5
    clear m0 m1 m2 m3 HSTP EB5
    by_cases hc0:c=0
    rotate_left
    ·have HF:Hid (expG T n s [] l=([],q,c)):=by show _=_;rw [HGO.out,HXG.out.1,if_neg hc0]
     have e2:(c != 0)=true:=by simp [hc0]
     have HC0:=Qh hc0
     clear hc0 hk5 R5 g5 K5
     go_wp2
     go_ret2
     exact⟨_,[],k5,by rw [HF.out];rfl,RowN.nil _ _ _ _,by rw [HF.out];rfl,Own.nil _ _,HEB5.out,λ h=>by rw [HF.out] at h;exact absurd h HC0.out,HK5.out⟩
    subst hc0
    have hk6:k5+q=100:=hk5 rfl
    have hsp:=HXG.out.2 rfl
    have hq1:q<=s'-1:=HGD.out.2.2
    have hx60:x.length<=60:=HGD.out.2.1
    have HGX:Hid (∀ u∈x,Good N u):=HGD.out.1
    have HGN:Hid (expG T n s [] l=expG T (j-1) q (O.map (·.d)) x):=by show _=_;rw [HGO.out,HXG.out.1,if_pos rfl]
    have HRO5:=Qh (HRO4.out.kept K5 (λ g hg=>by simp only [List.mem_singleton];have:=(HRO4.out.mine g hg).1;omega) (λ y hy b hb=>by simp only [List.mem_singleton];have:=(HOO4.out.2 b (List.mem_flatMap.2 ⟨y,hy,hb⟩)).1;omega))
    have HOO5:=Qh (HOO4.out.kept (λ b hb=>by simp only [List.mem_singleton];have:=(HOO4.out.2 b hb).1;omega) K5)
    have HTD5:Hid (ToDo w.heap.size fp (.slice ao NO co) (.slice a5 x.length c5) x f5 w5):=⟨R5,λ b hb hv=>by
      rcases g5 b hb with h | h
      ·exact HTD.out.o b h hv
      ·have:=(HRO.out.mine b hv).2;omega,λ b hb=>by
      rcases g5 b hb with h | h
      ·exact HTD.out.l b h
      ·exact .inr (by omega)⟩
    have HST1:=Qh HEB5.out.steps
    have HST2:=Qh HBX.out.steps
    have hO5:O.length<=60:=by rw [← HNO.out];exact hO
    clear R5 g5 K5 hk5 HGD HXG HRO4 HOO4
    go_wp2
    go_roundw
    case rel=>exact⟨j-1,q,k5,O,x,f5,by omega,by omega,hk6,hx60,hO5,HRO5,HOO5,HTD5,HGN,HGX,HEB5,HK5⟩
    case measure=>rw [HST1.out,HST2.out];simp [lenOf];omega
theorem Zk0 {T:List DMacro} {N:List ByteArray} (hTab:tabOk T=true) (hT:∀ m∈T,m.name∈N) (hN:N.length<=5000):∀ n,n<=1000->ExpI T N n:=by
 intro n
 induction n using Nat.strongRecOn with
 | ind n ih=>exact λ hn=>ZkZ (λ j hj=>ih j hj (by omega)) hn hTab hT hN
def lineRes (T:List DMacro) (s:ByteArray):ByteArray × Bool:=
 if (Zah s).2=true then (if (expRes T (Zah s).1).2=0 then Zbc (expRes T (Zah s).1).1 else (⟨#[]⟩,false)) else (⟨#[]⟩,false)
theorem Zh6 {T:List DMacro} {s:ByteArray} {l:List Tok} (h:Zah s=(l,false)):lineRes T s=(⟨#[]⟩,false):=by unfold lineRes;rw [h];simp
theorem ZgN {T:List DMacro} {s:ByteArray} {l x:List Tok} {c:Int} (h:Zah s=(l,true)) (hx:expRes T l=(x,c)) (hc:c≠0):lineRes T s=(⟨#[]⟩,false):=by
 unfold lineRes;rw [h];simp only [if_true];rw [hx];simp only;rw [if_neg hc]
theorem ZgO {T:List DMacro} {s:ByteArray} {l x:List Tok} (h:Zah s=(l,true)) (hx:expRes T l=(x,0)):lineRes T s=Zbc x:=by
 unfold lineRes;rw [h];simp only [if_true];rw [hx];simp only [if_true]
def ZdH (T:List DMacro) (s:ByteArray) (w:World) (e:Ending) (w':World):Prop:=e=.returned (.tuple #[.string (lineRes T s).1,.bool (lineRes T s).2])/\Below w.heap.size w w'
theorem Zdf {T:List DMacro} {s x:ByteArray} {b:Bool} {w w':World} (h:lineRes T s=(x,b)) (hb:Below w.heap.size w w'):ZdH T s w (.returned (.tuple #[.string x,.bool b])) w':=⟨by rw [h],hb⟩
theorem Zh7 (vT:Value) (T:List DMacro) (fpT:List Nat) (s:ByteArray) (w:World) (hTl:T.length<=1048576) (hTs:∀ k,(hk:k<T.length)->MacSm T[k]) (hs:s.size<=maxLen) (HT:(Zaa sMacro).R w [vT] T fpT) :
  Calls Tryz.prog 8 #[vT,.string s] w (ZdH T s w):=by
 have HC:=Qh (Zbo s w hs)
 rcases hq:Zah s with⟨l,ok⟩
 unfold Zbs at HC
 rw [hq] at HC
 try dsimp only at HC
 have HQ:=Qh hq
 clear hq
 go_enter Tryz.func8,Tryz.ntmps8
 go_wp2_with fail
 refine HC.out.mono ?_
 rintro e w1 ⟨v1,f1,rfl,hR1,-,hB1⟩
 clear HC
 cases ok
 ·have HF:=Qh (Zh6 (T:=T) HQ.out)
  go_wp2
  go_ret2
  exact Zdf HF.out hB1
 have hv:=ZjJ HQ.out
 have HE:=Qh (ZgM vT T fpT v1 l f1 w1 hTl hTs (by have:=(Zau hv).1;omega) (λ k hk=>by have:=(Zhi hv _ (List.getElem_mem hk)).1;omega) ((Zaa sMacro).below HT hB1) hR1)
 rcases hx:expRes T l with⟨x,c⟩
 unfold Zf4 at HE
 rw [hx] at HE
 try dsimp only at HE
 have HX:=Qh hx
 clear hx hR1 hv
 go_wp2_with fail
 refine HE.out.mono ?_
 rintro e w2 ⟨v2,f2,rfl,hR2,-,hb2⟩
 have hB2:=hB1.trans (hb2.mono hB1.size)
 by_cases hc0:c=0
 rotate_left
 ·have HF:=Qh (ZgN HQ.out HX.out hc0)
  have e2:(c != 0)=true:=by simp [hc0]
  clear hc0
  go_wp2
  go_ret2
  exact Zdf HF.out hB2
 subst hc0
 have HF:=Qh (ZgO HQ.out HX.out)
 have HP:=Qh (ZgU v2 x f2 w2 hR2)
 unfold ZeC at HP
 rcases hp:Zbc x with⟨y,b⟩
 rw [hp] at HP HF
 try dsimp only at HP
 clear hp hR2 HE
 go_wp2_with fail
 refine HP.out.mono ?_
 rintro e w3 ⟨rfl,hb3⟩
 go_wp2
 go_ret2
 exact Zdf HF.out (hB2.trans (hb3.mono hB2.size))
theorem Zlu {B:Nat}:∀ {l:List Tok},(∀ t∈l,t.hidden.length<=B)->ZaF l<=(B+3) * l.length
 | [],_=>Nat.le_refl _
 |
  t::r,h=>by
  have h1:=h t (by simp)
  have h2:=Zlu (l:=r) λ u hu=>h u (by simp [hu])
  have e:ZaF (t::r)=(3+t.hidden.length)+ZaF r:=rfl
  rw [e,List.length_cons,Nat.mul_add,Nat.mul_one]
  omega
theorem Zl2 (T:List DMacro) (l:List Tok):ZaF (expRes T l).1<=310000:=by
 unfold expRes
 split
 ·rename_i h
  have h1:=ZfT (T:=T) (N:=ZcH T l) (λ m hm=>List.mem_append.2 (.inl (List.mem_map.2 ⟨m,hm,rfl⟩))) 100 l 100 [] (by simp) (Zfi h.2)
  have h2:=Ziu T 100 l 100 [] (by simp)
  have h3:=Zek h.1 h.2
  split
  ·show ZaF (expG T 100 100 [] l).1<=310000
   have h4:=Zlu (B:=5000) (λ t ht=>Nat.le_trans (h1 t ht).len h3)
   omega
  ·exact Nat.zero_le _
 ·exact Nat.zero_le _
theorem Zjt (vT:Value) (T:List DMacro) (fpT:List Nat) (v:Value) (l:List Tok) (fp:List Nat) (w:World) (hT:Zaz T<=1048576) (hl:Zaw l<=1048576) (HT:(Zaa sMacro).R w [vT] T fpT) (H:(Zaa sTok).R w [v] l fp) :
  Calls Tryz.prog 15 #[vT,v] w (Zf4 (expRes T l) w):=ZgM vT T fpT v l fp w (Zdk hT).1 (Zdk hT).2 (ZjX hl) (ZjY hl) HT H
theorem Zgn (vT:Value) (T:List DMacro) (fpT:List Nat) (s:ByteArray) (w:World) (hT:Zaz T<=1048576) (HT:(Zaa sMacro).R w [vT] T fpT) (hs:okStr s) :
  Calls Tryz.prog 8 #[vT,.string s] w (ZdH T s w):=Zh7 vT T fpT s w (Zdk hT).1 (Zdk hT).2 hs HT
theorem exp_bad (T:List DMacro):∀ (n:Nat) (w:List Tok) (s:Nat) (out:List Tok),(expG T n s out w).2.2≠0->(expG T n s out w).1=[]:=by
 intro n
 induction n with
 |
  zero =>
  intro w
  induction w with
  | nil=>intro s out h;rw [Zb8] at h;exact absurd rfl h
  |
   cons t r ih =>
   intro s out h
   cases hg:goM T (t::r) with
   |
    none =>
    by_cases hl:60<out.length+1
    ·rw [Zbw hg hl]
    ·rw [Zbv hg hl] at h ⊢;exact ih s _ h
   | some m=>rw [expG,hg]
 |
  succ n ihn =>
  intro w
  induction w with
  | nil=>intro s out h;rw [Zb8] at h;exact absurd rfl h
  |
   cons t r ih =>
   intro s out h
   cases hg:goM T (t::r) with
   |
    none =>
    by_cases hl:60<out.length+1
    ·rw [Zbw hg hl]
    ·rw [Zbv hg hl] at h ⊢;exact ih s _ h
   |
    some m =>
    cases s with
    | zero=>rw [Zc8 hg]
    |
     succ s =>
     rw [ZkA hg] at h ⊢
     split
     ·rename_i h2
      rw [if_pos h2] at h
      exact ihn _ _ _ h
     ·rfl
def ZeL (r:List Tok × Int) (w:World) (e:Ending) (w':World):Prop:=
 ∃ (v:Value) (fp:List Nat),e=.returned (.tuple #[v,.int .i64 r.2])/\(Zaa sTok).R w' [v] r.1 fp/\Own w' w.heap.size fp/\Below w.heap.size w w'
theorem Zh8 {r:List Tok × Int} {c:Int} {w W:World} (h:r=([],c)) (hb:Below w.heap.size w W):ZeL r w (.returned (.tuple #[.slice none 0 0,.int .i64 c])) W:=
 ⟨_,[],by rw [h],by rw [h];exact ZaC _ _ _ _ (by simp),Own.nil _ _,hb⟩
theorem ZgP (vT:Value) (T:List DMacro) (fpT:List Nat) (v:Value) (l:List Tok) (fp:List Nat) (w:World) (HT:(Zaa sMacro).R w [vT] T fpT) (H:(Zaa sTok).R w [v] l fp):Calls Tryz.prog 18 #[vT,v] w (ZeL (expRes T l) w):=by
 have HVT:=Qh (ZhG vT T fpT w HT)
 have HVL:=Qh (λ (U:World) (hU:Below w.heap.size w U)=>Zbu v l fp U ((Zaa sTok).below H hU))
 have HT0:=Qh HT
 have HL0:=Qh H
 have HLT:=Qh ((Zaa sMacro).lt HT)
 have HLL:=Qh ((Zaa sTok).lt H)
 obtain⟨aT,cT,rfl,-⟩:=Zac HT
 obtain⟨al,cl,rfl,-⟩:=Zac H
 clear HT H
 go_enter Tryz.func18,Tryz.ntmps18
 cases ht:tabOk T
 ·have HF:=Qh (Zdz (T:=T) (l:=l) (λ h=>by rw [ht] at h;exact absurd h.1 (by simp)))
  rw [ht] at HVT
  clear ht HVL
  go_wp2_with fail
  refine HVT.out.mono ?_
  rintro e w3 ⟨rfl,hb3⟩
  go_wp2
  go_ret2
  exact Zh8 HF.out hb3
 cases hv:Zaj l
 ·have HF:=Qh (Zdz (T:=T) (l:=l) (λ h=>by rw [hv] at h;exact absurd h.2 (by simp)))
  rw [ht] at HVT
  rw [hv] at HVL
  clear ht hv
  go_wp2_with fail
  refine HVT.out.mono ?_
  rintro e w3 ⟨rfl,hb3⟩
  go_wp2_with fail
  refine (HVL.out w3 hb3).mono ?_
  rintro e w4 ⟨rfl,hb4⟩
  go_wp2
  go_ret2
  exact Zh8 HF.out (hb3.trans (hb4.mono hb3.size))
 have HEX:Hid (∀ (eb:Nat) (W:World),Below w.heap.size w W->w.heap.size<=eb->EBox eb (.slice aT T.length cT) 0 W->Calls Tryz.prog 42 #[.pointer (some ⟨eb,0,none⟩),.slice al l.length cl] W (MineX eb (.slice aT T.length cT) (expG T 100 100 [] l) W)):=λ eb W hW hge hB =>
  Zk0 (T:=T) (N:=ZcH T l) ht (λ m hm=>List.mem_append.2 (.inl (List.mem_map.2 ⟨m,hm,rfl⟩))) (Zek ht hv) 100 (by omega) eb _ fpT _ l fp 100 0 W (Nat.le_refl _) (by omega) (Zau hv).1 (λ t ht'=>⟨Tx.toks hv t ht',Zfi hv t ht'⟩) hB ((Zaa sMacro).below HT0.out hW) (λ h=>by have:=HLT.out _ h;omega) ((Zaa sTok).below HL0.out hW) (λ h=>by have:=HLL.out _ h;omega)
 have HXR:Hid (expRes T l=((expG T 100 100 [] l).1,(expG T 100 100 [] l).2.2)):=by
  show _=_
  unfold expRes
  rw [if_pos ⟨ht,hv⟩]
  split
  ·rename_i h;rw [h]
  ·rename_i h;rw [exp_bad T 100 l 100 [] h]
 rw [ht] at HVT
 rw [hv] at HVL
 rcases hq:expG T 100 100 [] l with⟨x,lf,c⟩
 unfold MineX at HEX
 rw [hq] at HEX HXR
 try dsimp only at HEX HXR
 clear ht hv hq
 go_wp2_with fail
 refine HVT.out.mono ?_
 rintro e w3 ⟨rfl,hb3⟩
 go_wp2_with fail
 refine (HVL.out w3 hb3).mono ?_
 rintro e w4 ⟨rfl,hb4⟩
 have hb:=hb3.trans (hb4.mono hb3.size)
 have ba:=Zab w4 (.cells #[.slice aT T.length cT,.int .i64 0] 74)
 have HB5:=Qh (heap_alloc_new w4 (.cells #[.slice aT T.length cT,.int .i64 0] 74))
 have hb5:=hb.trans (ba.mono hb.size)
 have HC:=Qh (HEX.out w4.heap.size _ hb5 hb.size HB5.out)
 clear HEX HVT HVL hb3 hb4 ba
 go_wp2_with fail
 refine HC.out.mono ?_
 rintro e w6 ⟨vx,L,k6,rfl,RL,hLd,OL,-,-,K6⟩
 obtain⟨fx,rx,-,ox⟩:=RL.read
 rw [hLd] at rx
 have HRX:=Qh rx
 have HOX:=Qh ((ox OL).lower (lo':=w.heap.size) hb5.size)
 have hb6:Below w.heap.size w w6:=hb5.trans (K6.below (λ b hb'=>by rw [Qm hb'];exact hb.size) hb5.size)
 obtain⟨ax,cx,rfl,-⟩:=Zac rx
 clear RL hLd OL K6 rx ox HC HB5
 go_wp2
 go_ret2
 exact⟨_,fx,by rw [HXR.out];rfl,by rw [HXR.out];exact HRX.out,HOX.out,hb6⟩
theorem Zh9 (vT:Value) (T:List DMacro) (fpT:List Nat) (s:ByteArray) (w:World) (hs:s.size<=maxLen) (HT:(Zaa sMacro).R w [vT] T fpT) :
  Calls Tryz.prog 7 #[vT,.string s] w (ZdH T s w):=by
 have HC:=Qh (Zcv s w hs)
 rcases hq:Zah s with⟨l,ok⟩
 unfold Zbs at HC
 rw [hq] at HC
 try dsimp only at HC
 have HQ:=Qh hq
 clear hq
 go_enter Tryz.func7,Tryz.ntmps7
 go_wp2_with fail
 refine HC.out.mono ?_
 rintro e w1 ⟨v1,f1,rfl,hR1,-,hB1⟩
 clear HC
 cases ok
 ·have HF:=Qh (Zh6 (T:=T) HQ.out)
  go_wp2
  go_ret2
  exact Zdf HF.out hB1
 have HE:=Qh (ZgP vT T fpT v1 l f1 w1 ((Zaa sMacro).below HT hB1) hR1)
 rcases hx:expRes T l with⟨x,c⟩
 unfold ZeL at HE
 rw [hx] at HE
 try dsimp only at HE
 have HX:=Qh hx
 clear hx hR1
 go_wp2_with fail
 refine HE.out.mono ?_
 rintro e w2 ⟨v2,f2,rfl,hR2,-,hb2⟩
 have hB2:=hB1.trans (hb2.mono hB1.size)
 by_cases hc0:c=0
 rotate_left
 ·have HF:=Qh (ZgN HQ.out HX.out hc0)
  have e2:(c != 0)=true:=by simp [hc0]
  clear hc0
  go_wp2
  go_ret2
  exact Zdf HF.out hB2
 subst hc0
 have HF:=Qh (ZgO HQ.out HX.out)
 have HP:=Qh (Zhf v2 x f2 w2 hR2)
 unfold ZeC at HP
 rcases hp:Zbc x with⟨y,b⟩
 rw [hp] at HP HF
 try dsimp only at HP
 clear hp hR2 HE
 go_wp2_with fail
 refine HP.out.mono ?_
 rintro e w3 ⟨rfl,hb3⟩
 go_wp2
 go_ret2
 exact Zdf HF.out (hB2.trans (hb3.mono hB2.size))
theorem Zju (vT:Value) (T:List DMacro) (fpT:List Nat) (v:Value) (l:List Tok) (fp:List Nat) (w:World) (hT:Zaz T<=1048576) (hl:Zaw l<=1048576) (HT:(Zaa sMacro).R w [vT] T fpT) (H:(Zaa sTok).R w [v] l fp) :
  Calls Tryz.prog 18 #[vT,v] w (ZeL (expRes T l) w):=ZgP vT T fpT v l fp w HT H
theorem ZiL (T:List DMacro) (s:ByteArray):(lineRes T s).1.size=(lineRes T s).1.size:=rfl
theorem Zgo (vT:Value) (T:List DMacro) (fpT:List Nat) (s:ByteArray) (w:World) (hT:Zaz T<=1048576) (HT:(Zaa sMacro).R w [vT] T fpT) (hs:okStr s) :
  Calls Tryz.prog 7 #[vT,.string s] w (ZdH T s w):=Zh9 vT T fpT s w hs HT
end Go.Proofs.YtiaiggjfepoahaaGreat
