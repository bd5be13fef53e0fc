/- Texts that the proof of EConditionOf stands on, in one file. -/
import Derived.Test.YtipfpppcbmpjiaaGreatZEConditionOf17
import Derived.Lib.FrozenHead2
import Derived.Lib.OthersKept
import Derived.Lib.Builder
import Derived.Laws.Externs
set_option linter.unusedVariables false
set_option maxHeartbeats 16000000
set_option maxRecDepth 100000
set_option linter.unusedSimpArgs false
/- Of the program: the use of a macro. (Made by gen_exi4.py.) -/
namespace Go.Proofs.YtipfpppcbmpjiaaGreat
open Go.RowKit
def set7 (w:World) (g:Nat) (v0 v1 v2 v3 v4 v5 v6:Value):World:=((((((w.setCell ⟨g,0,none⟩ v0).setCell ⟨g,1,none⟩ v1).setCell ⟨g,2,none⟩ v2).setCell ⟨g,3,none⟩ v3).setCell ⟨g,4,none⟩ v4).setCell ⟨g,5,none⟩ v5).setCell ⟨g,6,none⟩ v6
theorem ZiN {w:World} {g:Nat} {z0 z1 z2 z3 z4 z5 z6:Value} {ty:TypeId} (h:w.heap[g]?=some (.cells #[z0,z1,z2,z3,z4,z5,z6] ty (0,0))) (v0 v1 v2 v3 v4 v5 v6:Value) :
  (set7 w g v0 v1 v2 v3 v4 v5 v6).heap[g]?=some (.cells #[v0,v1,v2,v3,v4,v5,v6] ty (0,0)):=by
 have h0:(w.setCell ⟨g,0,none⟩ v0).heap[g]?=some (.cells #[v0,z1,z2,z3,z4,z5,z6] ty (0,0)):=Zai h 0 v0
 have h1:((w.setCell ⟨g,0,none⟩ v0).setCell ⟨g,1,none⟩ v1).heap[g]?=some (.cells #[v0,v1,z2,z3,z4,z5,z6] ty (0,0)):=Zai h0 1 v1
 have h2:(((w.setCell ⟨g,0,none⟩ v0).setCell ⟨g,1,none⟩ v1).setCell ⟨g,2,none⟩ v2).heap[g]?=some (.cells #[v0,v1,v2,z3,z4,z5,z6] ty (0,0)):=Zai h1 2 v2
 have h3:((((w.setCell ⟨g,0,none⟩ v0).setCell ⟨g,1,none⟩ v1).setCell ⟨g,2,none⟩ v2).setCell ⟨g,3,none⟩ v3).heap[g]?=some (.cells #[v0,v1,v2,v3,z4,z5,z6] ty (0,0)):=Zai h2 3 v3
 have h4:(((((w.setCell ⟨g,0,none⟩ v0).setCell ⟨g,1,none⟩ v1).setCell ⟨g,2,none⟩ v2).setCell ⟨g,3,none⟩ v3).setCell ⟨g,4,none⟩ v4).heap[g]?=some (.cells #[v0,v1,v2,v3,v4,z5,z6] ty (0,0)):=Zai h3 4 v4
 have h5:((((((w.setCell ⟨g,0,none⟩ v0).setCell ⟨g,1,none⟩ v1).setCell ⟨g,2,none⟩ v2).setCell ⟨g,3,none⟩ v3).setCell ⟨g,4,none⟩ v4).setCell ⟨g,5,none⟩ v5).heap[g]?=some (.cells #[v0,v1,v2,v3,v4,v5,z6] ty (0,0)):=Zai h4 5 v5
 have h6:(((((((w.setCell ⟨g,0,none⟩ v0).setCell ⟨g,1,none⟩ v1).setCell ⟨g,2,none⟩ v2).setCell ⟨g,3,none⟩ v3).setCell ⟨g,4,none⟩ v4).setCell ⟨g,5,none⟩ v5).setCell ⟨g,6,none⟩ v6).heap[g]?=some (.cells #[v0,v1,v2,v3,v4,v5,v6] ty (0,0)):=Zai h5 6 v6
 exact h6
theorem Zfu {w:World} {g b:Nat} (h:b≠g) (v0 v1 v2 v3 v4 v5 v6:Value):(set7 w g v0 v1 v2 v3 v4 v5 v6).heap[b]?=w.heap[b]?:=by
 unfold set7
 rw [Below.heap_setCell _ _ _ _ h,Below.heap_setCell _ _ _ _ h,Below.heap_setCell _ _ _ _ h,Below.heap_setCell _ _ _ _ h,Below.heap_setCell _ _ _ _ h,Below.heap_setCell _ _ _ _ h,Below.heap_setCell _ _ _ _ h]
theorem Zfv {B:Nat} {w0 w:World} (hB:Below B w0 w) {g:Nat} (hg:B<=g) (v0 v1 v2 v3 v4 v5 v6:Value):Below B w0 (set7 w g v0 v1 v2 v3 v4 v5 v6):=
 ((((((hB.setCell (p:=⟨g,0,none⟩) hg v0).setCell (p:=⟨g,1,none⟩) hg v1).setCell (p:=⟨g,2,none⟩) hg v2).setCell (p:=⟨g,3,none⟩) hg v3).setCell (p:=⟨g,4,none⟩) hg v4).setCell (p:=⟨g,5,none⟩) hg v5).setCell (p:=⟨g,6,none⟩) hg v6
theorem Shape.set7R {α:Type} (S:Shape α) {w:World} {g:Nat} {cs:List Value} {d:α} {fp:List Nat} (h:S.R w cs d fp) (hn:g∉fp) (v0 v1 v2 v3 v4 v5 v6:Value):S.R (set7 w g v0 v1 v2 v3 v4 v5 v6) cs d fp:=
 S.frame (λ b hb=>Zfu (λ e:b=g=>hn (by rw [← e];exact hb)) v0 v1 v2 v3 v4 v5 v6) h
def useR (m:DMacro) (l:List Tok):Option (Args × Nat × List ByteArray):=
 if m.function=false then some ([],1,ins (l.headD zTok).hidden m.name)
 else if (splK (l.drop 2) 1 [] [] 2).2.2=true/\argN m.params.length (splK (l.drop 2) 1 [] [] 2).1=m.params.length then
  some ((splK (l.drop 2) 1 [] [] 2).1.take m.params.length,(splK (l.drop 2) 1 [] [] 2).2.1,ins (both (l.headD zTok).hidden (l.getD ((splK (l.drop 2) 1 [] [] 2).2.1-1) zTok).hidden) m.name)
 else none
theorem ZkO {m:DMacro} {l:List Tok} (h0:0<l.length) (h:m.function=false):useR m l=some ([],1,ins l[0].hidden m.name):=by
 unfold useR
 rw [if_pos h]
 cases l with
 | nil=>simp at h0
 | cons t r=>rfl
theorem Zl4 {m:DMacro} {l:List Tok} (h:m.function=true) {A:Args} {e:Nat} (hs:splK (l.drop 2) 1 [] [] 2=(A,e,false)):useR m l=none:=by
 unfold useR
 rw [if_neg (by simp [h]),hs,if_neg (by simp)]
theorem ZkP {m:DMacro} {l:List Tok} (h:m.function=true) {A:Args} {e:Nat} {b:Bool} (hs:splK (l.drop 2) 1 [] [] 2=(A,e,b)) (hn:argN m.params.length A≠m.params.length):useR m l=none:=by
 unfold useR
 rw [if_neg (by simp [h]),hs,if_neg (λ h=>hn h.2)]
theorem useR_yes {m:DMacro} {l:List Tok} (h0:0<l.length) (h:m.function=true) {A:Args} {e:Nat} (he:e-1<l.length) (hs:splK (l.drop 2) 1 [] [] 2=(A,e,true)) (hn:argN m.params.length A=m.params.length):useR m l=some (A.take m.params.length,e,ins (both l[0].hidden l[e-1].hidden) m.name):=by
 unfold useR
 rw [if_neg (by simp [h]),hs,if_pos ⟨rfl,hn⟩]
 have e2:l.getD (e-1) zTok=l[e-1]:=by rw [List.getD_eq_getElem?_getD,List.getElem?_eq_getElem he];rfl
 simp only [e2]
 cases l with
 | nil=>simp at h0
 | cons t r=>rfl
def UseOf (m:DMacro) (csM:List Value) (l:List Tok) (w:World) (e:Ending) (w':World):Prop:=
 (useR m l=none/\e=.returned (.tuple #[.agg #[.string ⟨#[]⟩,.bool false,.slice none 0 0,.slice none 0 0,.slice none 0 0,.int .i64 0,.slice none 0 0],.bool false])/\Below w.heap.size w w') \/
 ∃ (A:Args) (en:Nat) (hs:List ByteArray) (vA vH:Value) (fA fH:List Nat),useR m l=some (A,en,hs)/\e=.returned (.tuple #[.agg (csM++[vA,.int .i64 en,vH]).toArray,.bool true]) /\
  (Zaa sToks).R w' [vA] A fA/\(∀ b∈fA,w.heap.size<=b)/\(Zaa sStr).R w' [vH] hs fH/\(∀ b∈fH,w.heap.size<=b)/\Below w.heap.size w w'
theorem Y18A1 {g:Prop} (h:g:=by
 have HZX:=HZ4.out
 have z0:=Qc 0 HZX
 have zf0:=Qf 0 HZX
 have z1:=Qc 1 HZX
 have zf1:=Qf 1 HZX
 have z2:=Qc 2 HZX
 have zf2:=Qf 2 HZX
 have z3:=Qc 3 HZX
 have zf3:=Qf 3 HZX
 have z4:=Qc 4 HZX
 have zf4:=Qf 4 HZX
 have z5:=Qc 5 HZX
 have zf5:=Qf 5 HZX
 have z6:=Qc 6 HZX
 have zf6:=Qf 6 HZX
 have HS:=Qh (ZiN HZX (.string ⟨#[]⟩) (.bool false) (.slice none 0 0) (.slice none 0 0) (.slice none 0 0) (.int .i64 0) (.slice none 0 0))
 have HB:=Qh (Zfv (g:=w.heap.size+1) hB4 (by omega) (.string ⟨#[]⟩) (.bool false) (.slice none 0 0) (.slice none 0 0) (.slice none 0 0) (.int .i64 0) (.slice none 0 0))
 unfold set7 at HS HB
 go_wp2
 refine bodyPost_ret (Zat rfl _ _ (w.heap.size+1) _ _ _ _ rfl HS.out Tryz.underlying129 rfl (by kernel_rfl)) rfl ?_
 exact .inl ⟨HF.out,rfl,HB.out⟩):g:=h
theorem ZmC (csM:List Value) (m:DMacro) (fpM:List Nat) (v:Value) (l:List Tok) (fp:List Nat) (w:World) (hv:macOk m=true) (h0:0<l.length) (hl60:l.length<=60) (htx:∀ t∈l,Tx t) (hu:∀ t∈l,Up t.hidden) (hh:∀ t∈l,t.hidden.length<=100000) (hop:m.function=true->∃ h1:1<l.length,isM l[1] [40]=true)
  (HM:sMacro.R w csM m fpM) (H:(Zaa sTok).R w [v] l fp):Calls Tryz.prog 88 #[.agg csM.toArray,v] w (UseOf m csM l w):=by
 have HM0:=HM
 obtain⟨h2,h3,q2,q3,rfl,knm,K2,K3,-⟩:=HM
 obtain⟨a2,c2,rfl,-⟩:=Zaf K2
 obtain⟨a3,c3,rfl,-⟩:=Zac K3
 have H00:=H
 obtain⟨al,cl,rfl,hcl,hml,hrow⟩:=Zac H
 unfold maxLen at hml
 obtain⟨bw,ow,-,rfl,-,-,-⟩:=hrow h0
 have HX:=Qh (Zb2 w #[.string m.name,.bool m.function,.slice a2 m.params.length c2,.slice a3 m.body.length c3] #[.string ⟨#[]⟩,.bool false,.slice none 0 0,.slice none 0 0,.slice none 0 0,.int .i64 0,.slice none 0 0] 56 129)
 have b0:=Zab w (.cells #[.string m.name,.bool m.function,.slice a2 m.params.length c2,.slice a3 m.body.length c3] 56)
 have b2:=b0.trans ((Zab (w.alloc (.cells #[.string m.name,.bool m.function,.slice a2 m.params.length c2,.slice a3 m.body.length c3] 56)) (.cells #[.string ⟨#[]⟩,.bool false,.slice none 0 0,.slice none 0 0,.slice none 0 0,.int .i64 0,.slice none 0 0] 129)).mono b0.size)
 have hs2:((w.alloc (.cells #[.string m.name,.bool m.function,.slice a2 m.params.length c2,.slice a3 m.body.length c3] 56)).alloc (.cells #[.string ⟨#[]⟩,.bool false,.slice none 0 0,.slice none 0 0,.slice none 0 0,.int .i64 0,.slice none 0 0] 129)).heap.size=w.heap.size+2:=by show ((w.heap.push _).push _).size=_;simp
 have HM2:=Qh (sMacro.below HM0 b2)
 have HL2:=Qh ((Zaa sTok).below H00 b2)
 have HVV:=Qh hv
 have HTX:=Qh htx
 have HUP:=Qh hu
 have HHH:=Qh hh
 have HOP:=Qh hop
 have HNM:Hid (m.name.size<=maxLen):=knm
 clear HM0 K2 K3 H H00 hrow htx hu hh hv hop
 go_enter Tryz.func88,Tryz.ntmps88
 go_upto_region 1 with fail
 generalize ((w.alloc (.cells #[.string m.name,.bool m.function,.slice a2 m.params.length c2,.slice a3 m.body.length c3] 56)).alloc (.cells #[.string ⟨#[]⟩,.bool false,.slice none 0 0,.slice none 0 0,.slice none 0 0,.int .i64 0,.slice none 0 0] 129))=W2 at *
 obtain⟨xa,xc,xf,c0,c1,c2',c3',xR,hbb,hxf⟩:=ZaB HL2.out h0
 simp only [Nat.zero_mul,Nat.add_zero] at c0 c1 c2' c3'
 have bt:=Zab W2 (.cells #[.int .i64 l[0].kind,.string l[0].text,.bool l[0].spaced,.slice xa l[0].hidden.length xc] 32)
 have HT0:=Qh (heap_alloc_new W2 (.cells #[.int .i64 l[0].kind,.string l[0].text,.bool l[0].spaced,.slice xa l[0].hidden.length xc] 32))
 rw [hs2] at HT0
 go_upto_region 2 with fail
 have hs3:(W2.alloc (.cells #[.int .i64 l[0].kind,.string l[0].text,.bool l[0].spaced,.slice xa l[0].hidden.length xc] 32)).heap.size=w.heap.size+3:=by show (W2.heap.push _).size=_;simp [hs2]
 have HX3:=Qh (And.intro (mbox HX.out.1 bt) (mbox HX.out.2 bt))
 have HM3:=Qh (sMacro.below HM2.out bt)
 have HL3:=Qh ((Zaa sTok).below HL2.out bt)
 have HXR:=Qh (ZcK (sTok.below xR bt))
 have b3:=b2.trans (bt.mono b2.size)
 clear c0 c1 c2' c3' HM2 HL2 xR hxf HX hbb bt b2 b0
 generalize (W2.alloc (.cells #[.int .i64 l[0].kind,.string l[0].text,.bool l[0].spaced,.slice xa l[0].hidden.length xc] 32))=W3 at *
 have p1:=Qc 1 HX3.out.1
 cases hf:m.function
 ·have HF:=Qh (ZkO h0 hf)
  rw [hf] at p1
  have HWN:=Qh (λ (Q:World) (hQ:Below W3.heap.size W3 Q)=>ZdD _ l[0].hidden m.name xf Q (HUP.out _ (List.getElem_mem h0)) (by have:=HHH.out _ (List.getElem_mem h0);omega) HNM.out ((Zaa sStr).below HXR.out hQ))
  have HSM:Hid (∀ Q:World,Below W3.heap.size W3 Q->Q.heap[w.heap.size]?=some (.cells #[.string m.name,.bool m.function,.slice a2 m.params.length c2,.slice a3 m.body.length c3] 56 (0,0))/\Q.heap[w.heap.size+2]?=some (.cells #[.int .i64 l[0].kind,.string l[0].text,.bool l[0].spaced,.slice xa l[0].hidden.length xc] 32 (0,0))):=λ Q hQ=>⟨mbox HX3.out.1 hQ,mbox HT0.out hQ⟩
  obtain⟨fu,HFU⟩:∃ fu:Bool,Hid (fu=m.function):=⟨_,Qh rfl⟩
  clear hf
  go_upto_region 3 with fail
  clear p1
  have hcs:Below W3.heap.size W3 W3.drew:=Zag (Below.refl _ _) 1
  refine wp_region_noPanic ?_
  refine wp_region_held_drew (S:=λ w'=>w'.heap[w.heap.size]?=some (.cells #[.string m.name,.bool m.function,.slice a2 m.params.length c2,.slice a3 m.body.length c3] 56 (0,0))/\w'.heap[w.heap.size+2]?=some (.cells #[.int .i64 l[0].kind,.string l[0].text,.bool l[0].spaced,.slice xa l[0].hidden.length xc] 32 (0,0))) (by kernel_rfl) (by exact HSM.out _ hcs) (λ hHeld=>?_)
  generalize hwd:W3.drew=wd at *
  refine Qt 0 17 rfl rfl ?_ (by intro w hSw;obtain⟨m0,m1,m2,m3⟩:=Q4 hSw.1;have t3:=Qc 3 hSw.2;go_simp;(first | done | with_reducible rfl | rfl))
  try simp only [Qp]
  refine Qt 1 18 rfl rfl ?_
  try simp only [Qp]
  refine Qt 2 19 rfl rfl ?_ (by intro w hSw;obtain⟨m0,m1,m2,m3⟩:=Q4 hSw.1;have t3:=Qc 3 hSw.2;go_simp;(first | done | with_reducible rfl | rfl))
  try simp only [Qp]
  refine Qt 3 20 rfl rfl ?_
  try simp only [Qp]
  refine Qt 4 21 rfl rfl ?_ (by intro w hSw;obtain⟨m0,m1,m2,m3⟩:=Q4 hSw.1;have t3:=Qc 3 hSw.2;go_simp;(first | done | with_reducible rfl | rfl))
  try simp only [Qp]
  refine Qr 5 rfl (λ K hK=>?_)
  go_simp
  refine (HWN.out _ hcs).mono ?_
  rintro e w9 ⟨ao,co,f9,rfl,R9,O9,-,hb9⟩
  have hx9:=hcs.trans (hb9.mono hcs.size)
  refine hK.out _ _ (HSM.out _ hx9) (λ hHeld=>?_)
  clear hK K
  try simp only [Qp]
  refine Qt 6 23 rfl rfl ?_
  try simp only [Qp]
  have HZ9:=mbox HX3.out.2 hx9
  have hB9:=b3.trans (hx9.mono b3.size)
  have hn9:w.heap.size+1∉f9:=λ hx=>by have h1:=(O9.2 _ hx).1;have h2:=hcs.size;omega
  have z0:=Qc 0 HZ9
  have zf0:=Qf 0 HZ9
  have z1:=Qc 1 HZ9
  have zf1:=Qf 1 HZ9
  have z2:=Qc 2 HZ9
  have zf2:=Qf 2 HZ9
  have z3:=Qc 3 HZ9
  have zf3:=Qf 3 HZ9
  have z4:=Qc 4 HZ9
  have zf4:=Qf 4 HZ9
  have z5:=Qc 5 HZ9
  have zf5:=Qf 5 HZ9
  have z6:=Qc 6 HZ9
  have zf6:=Qf 6 HZ9
  have HS:=Qh (ZiN HZ9 (.string m.name) (.bool m.function) (.slice a2 m.params.length c2) (.slice a3 m.body.length c3) (.slice none 0 0) (.int .i64 1) (.slice ao (ins l[0].hidden m.name).length co))
  have HB:=Qh (Zfv (g:=w.heap.size+1) hB9 (by omega) (.string m.name) (.bool m.function) (.slice a2 m.params.length c2) (.slice a3 m.body.length c3) (.slice none 0 0) (.int .i64 1) (.slice ao (ins l[0].hidden m.name).length co))
  have HRF:=Qh ((Zaa sStr).set7R R9 hn9 (.string m.name) (.bool m.function) (.slice a2 m.params.length c2) (.slice a3 m.body.length c3) (.slice none 0 0) (.int .i64 1) (.slice ao (ins l[0].hidden m.name).length co))
  have HH7:Hid ((set7 w9 (w.heap.size+1) (.string m.name) (.bool m.function) (.slice a2 m.params.length c2) (.slice a3 m.body.length c3) (.slice none 0 0) (.int .i64 1) (.slice ao (ins l[0].hidden m.name).length co)).heap[w.heap.size]?=some (.cells #[.string m.name,.bool m.function,.slice a2 m.params.length c2,.slice a3 m.body.length c3] 56 (0,0))/\(set7 w9 (w.heap.size+1) (.string m.name) (.bool m.function) (.slice a2 m.params.length c2) (.slice a3 m.body.length c3) (.slice none 0 0) (.int .i64 1) (.slice ao (ins l[0].hidden m.name).length co)).heap[w.heap.size+2]?=some (.cells #[.int .i64 l[0].kind,.string l[0].text,.bool l[0].spaced,.slice xa l[0].hidden.length xc] 32 (0,0))):=⟨(Zfu (by omega) _ _ _ _ _ _ _).trans hHeld.1,(Zfu (by omega) _ _ _ _ _ _ _).trans hHeld.2⟩
  unfold set7 at HS HB HRF HH7
  refine Qr 7 rfl (λ K hK=>?_)
  go_simp
  refine hK.out _ _ (HH7.out) (λ hHeld=>?_)
  clear hK K
  try simp only [Qp]
  refine Qt 8 5 rfl rfl ?_
  try simp only [Qp]
  refine wpAnyH_done (by kernel_rfl) ?_ _
  refine NoPanic.normal ?_
  clear hHeld
  go_wp2
  refine bodyPost_ret (Zat rfl _ _ (w.heap.size+1) _ _ _ _ rfl HS.out Tryz.underlying129 rfl (by kernel_rfl)) rfl ?_
  exact .inr ⟨[],1,ins l[0].hidden m.name,_,_,[],f9,HF.out,rfl,Zay sToks _ _ 0 (by simp),by simp,HRF.out,λ b hb=>by have h1:=(O9.2 _ hb).1;have h2:=hcs.size;omega,HB.out⟩
 rw [hf] at p1
 have HFT:=Qh hf
 obtain⟨h1l,ho1⟩:=HOP.out hf
 have HO1:Zcg l[1]=true:=by rw [← Zl3 (HTX.out _ (List.getElem_mem h1l))];exact ho1
 have HAA:=Qh (Zhv _ l fp 1 W3 hl60 h1l HO1 (λ k hk=>by have:=HHH.out _ (List.getElem_mem hk);omega) HL3.out)
 have HEN:=λ R e h=>Zca (l.drop 2) 1 [] [] 2 (R:=R) (e:=e) h
 rcases hS:splK (l.drop 2) 1 [] [] 2 with⟨AA,en,ok⟩
 have HSS:=Qh hS
 clear HO1 ho1 hf
 cases ok
 ·have HF:=Qh (Zl4 HFT.out hS)
  rw [Znz HTX.out hS] at HAA
  unfold Zfs at HAA
  try dsimp only at HAA
  clear hS HEN
  go_wp2_with fail
  refine HAA.out.mono ?_
  rintro e w4 ⟨vA,fA,rfl,RA,-,hb4⟩
  obtain⟨aA,cA,rfl,-⟩:=Zac RA
  have HZ4:=Qh (mbox HX3.out.2 hb4)
  have hB4:=b3.trans (hb4.mono b3.size)
  clear RA HAA p1
  exact Y18A1
 have HEE:2<en/\en<=l.length:=by
  have:=HEN _ _ hS
  rw [List.length_drop] at this
  omega
 rw [ZmA HTX.out hS] at HAA
 unfold Zfs at HAA
 try dsimp only at HAA
 clear HEN hS
 go_wp2_with fail
 refine HAA.out.mono ?_
 rintro e w3 ⟨vA,fA,rfl,RA,OA,hb4⟩
 obtain⟨aA,cA,rfl,hcA,hmA,-⟩:=Zac RA
 unfold maxLen at hmA
 have HRA:=Qh RA
 have HFA:=Qh (λ b hb=>(OA.2 b hb).1)
 have hs34:=b3.size
 have HZ3:=Qh (mbox HX3.out.2 hb4)
 have HX4:=Qh (mbox HX3.out.1 hb4)
 have HT4:=Qh (mbox HT0.out hb4)
 have hB3:=b3.trans (hb4.mono b3.size)
 have HL4:=Qh ((Zaa sTok).below HL3.out hb4)
 have HXR4:=Qh ((Zaa sStr).below HXR.out hb4)
 have p0:=Qc 0 HX4.out
 replace p1:=Qc 1 HX4.out
 have p2:=Qc 2 HX4.out
 have p3:=Qc 3 HX4.out
 have HFI:=Qh (ZgD _ m fpM _ AA fA w3 (sMacro.below HM3.out hb4) HRA.out)
 rw [ZlV HVV.out HFT.out] at HFI
 clear RA OA HAA hb4 b3 HX3 HT0 HL3 HM3 HXR
 by_cases hfit:argN m.params.length AA=m.params.length
 rotate_left
 ·have HF:=Qh (ZkP HFT.out HSS.out hfit)
  rw [decide_eq_false hfit] at HFI
  clear hfit
  go_wp2_with fail
  refine HFI.out.mono ?_
  rintro e w4 ⟨rfl,hb4⟩
  have HZ4:=Qh (mbox HZ3.out hb4)
  have hB4:=hB3.trans (hb4.mono hB3.size)
  clear HFI p0 p1 p2 p3
  exact Y18A1
 have HF0:=useR_yes h0 HFT.out (by omega:en-1<l.length) HSS.out hfit
 have HPL:m.params.length<=AA.length:=ZlZ hfit
 rw [decide_eq_true hfit] at HFI
 obtain⟨j,hj⟩:∃ j,en-1=j:=⟨_,rfl⟩
 have hjl:j<l.length:=by omega
 have HF:Hid (useR m l=some (AA.take m.params.length,en,ins (both l[0].hidden l[j].hidden) m.name)):=by show _=_;subst hj;exact HF0
 have hwr:IntKind.i64.wrap ((en:Int)-1)=(j:Int):=by rw [IntWalk.i64_in _ (by omega)];omega
 clear HF0 hfit
 obtain⟨np,HNP⟩:∃ np:Nat,Hid (np=m.params.length):=⟨_,Qh rfl⟩
 go_wp2_with fail
 refine HFI.out.mono ?_
 rintro e w4 ⟨rfl,hb4⟩
 clear p0 p1 p2 p3 HFI
 have hB4:=hB3.trans (hb4.mono hB3.size)
 have HX5:=Qh (mbox HX4.out hb4)
 have HT5:=Qh (mbox HT4.out hb4)
 have HZ5:=Qh (mbox HZ3.out hb4)
 have HL5:=Qh ((Zaa sTok).below HL4.out hb4)
 have HXR5:=Qh ((Zaa sStr).below HXR4.out hb4)
 obtain⟨ft,RT,hft⟩:=Zcr m.params.length HPL ((Zaa sToks).below HRA.out hb4)
 have HRT:=Qh RT
 have HFT3:Hid (∀ b∈ft,w.heap.size+3<=b):=λ b hb=>by have:=HFA.out b (hft b hb);omega
 have HFT2:Hid (∀ b∈ft,w.heap.size<=b):=λ b hb=>by have:=HFA.out b (hft b hb);omega
 have p2:=Qc 2 HX5.out
 have k0:(0:Int)<=(m.params.length:Int):=by omega
 have k1:(m.params.length:Int)<=(cA:Int):=by omega
 have k2:m.params.length<=cA:=by omega
 obtain⟨ya,yc,yf,-,-,-,y3,yR,ybb,-⟩:=ZaB HL5.out hjl
 have HYR:=Qh (ZcK yR)
 have HY3:=Qh y3
 clear HX4 HT4 HZ3 HL4 HXR4 HRA RT hft y3 yR hB3
 go_upto_region 8 with fail
 clear p2 k0 k1 k2
 have HSM:Hid (∀ Q:World,Below w4.heap.size w4 Q->Q.heap[w.heap.size+2]?=some (.cells #[.int .i64 l[0].kind,.string l[0].text,.bool l[0].spaced,.slice xa l[0].hidden.length xc] 32 (0,0))/\Q.cell? ⟨bw,ow+j * 4+3,none⟩=some (.slice ya l[j].hidden.length yc)):=λ Q hQ=>⟨mbox HT5.out hQ,(hQ.cell (p:=⟨bw,ow+j * 4+3,none⟩) ybb).trans HY3.out⟩
 have HNB:=Qh (λ (Q:World) (hQ:Below w4.heap.size w4 Q)=>Zd7 _ _ l[0].hidden l[j].hidden xf yf Q (by have:=HHH.out _ (List.getElem_mem h0);omega) (by have:=HHH.out _ (List.getElem_mem hjl);omega) (HUP.out _ (List.getElem_mem hjl)) ((Zaa sStr).below HXR5.out hQ) ((Zaa sStr).below HYR.out hQ))
 have hcs:Below w4.heap.size w4 w4.drew:=Zag (Below.refl _ _) 1
 have i0:(0:Int)<=(j:Int):=by omega
 have i1:(j:Int)<(l.length:Int):=by omega
 refine wp_region_noPanic ?_
 refine wp_region_held_drew (S:=λ w'=>w'.heap[w.heap.size+2]?=some (.cells #[.int .i64 l[0].kind,.string l[0].text,.bool l[0].spaced,.slice xa l[0].hidden.length xc] 32 (0,0))/\w'.cell? ⟨bw,ow+j * 4+3,none⟩=some (.slice ya l[j].hidden.length yc)) (by kernel_rfl) (by exact HSM.out _ hcs) (λ hHeld=>?_)
 generalize hwd:w4.drew=wd at *
 refine Qt 0 44 rfl rfl ?_
 try simp only [Qp]
 refine Qt 1 45 rfl rfl ?_ (by intro w hSw;have t3:=Qc 3 hSw.1;have y3:=hSw.2;go_simp;(first | done | with_reducible rfl | rfl))
 try simp only [Qp]
 refine Qt 2 46 rfl rfl ?_
 try simp only [Qp]
 refine Qt 3 47 rfl rfl ?_
 try simp only [Qp]
 refine Qt 4 48 rfl rfl ?_
 try simp only [Qp]
 refine Qt 5 49 rfl rfl ?_
 try simp only [Qp]
 refine Qt 6 50 rfl rfl ?_
 try simp only [Qp]
 refine Qt 7 51 rfl rfl ?_ (by intro w hSw;have t3:=Qc 3 hSw.1;have y3:=hSw.2;go_simp;(first | done | with_reducible rfl | rfl))
 try simp only [Qp]
 refine Qr 8 rfl (λ K hK=>?_)
 go_simp
 refine (HNB.out _ hcs).mono ?_
 rintro e w5 ⟨v5,f5,rfl,R5,O5,hb5⟩
 have hx5:=hcs.trans (hb5.mono hcs.size)
 refine hK.out _ _ (HSM.out _ hx5) (λ hHeld=>?_)
 clear hK K
 try simp only [Qp]
 refine Qt 9 10 rfl rfl ?_
 try simp only [Qp]
 refine wpAnyH_done (by kernel_rfl) ?_ _
 refine NoPanic.normal ?_
 clear hHeld
 have HR5:=Qh R5
 have hB5:=hB4.trans (hx5.mono hB4.size)
 have HX6:=Qh (mbox HX5.out hx5)
 have HZ6:=Qh (mbox HZ5.out hx5)
 have HRT5:=Qh ((Zaa sToks).below HRT.out hx5)
 obtain⟨a5,c5,rfl,-⟩:=Zaf R5
 have HWN:=Qh (λ (Q:World) (hQ:Below w5.heap.size w5 Q)=>ZdD _ (both l[0].hidden l[j].hidden) m.name f5 Q (List.Pairwise.filter _ (HUP.out _ (List.getElem_mem h0))) (by have h1:=HHH.out _ (List.getElem_mem h0);have h2:=List.length_filter_le (λ x=>hasN l[j].hidden x) l[0].hidden;have h3:(both l[0].hidden l[j].hidden).length<=l[0].hidden.length:=h2;omega) HNM.out ((Zaa sStr).below HR5.out hQ))
 have HSN:Hid (∀ Q:World,Below w5.heap.size w5 Q->Q.heap[w.heap.size]?=some (.cells #[.string m.name,.bool m.function,.slice a2 m.params.length c2,.slice a3 m.body.length c3] 56 (0,0))):=λ Q hQ=>mbox HX6.out hQ
 clear R5 O5 hb5 HSM HNB hx5 hcs HX5 HZ5 hwd HRT HYR HY3
 go_upto_region 9 with fail
 have hcs:Below w5.heap.size w5 w5.drew:=Zag (Below.refl _ _) 1
 refine wp_region_noPanic ?_
 refine wp_region_held_drew (S:=λ w'=>w'.heap[w.heap.size]?=some (.cells #[.string m.name,.bool m.function,.slice a2 m.params.length c2,.slice a3 m.body.length c3] 56 (0,0))) (by kernel_rfl) (by exact HSN.out _ hcs) (λ hHeld=>?_)
 generalize hwd:w5.drew=wd at *
 refine Qt 0 53 rfl rfl ?_ (by intro w hSw;obtain⟨m0,m1,m2,m3⟩:=Q4 hSw;go_simp;(first | done | with_reducible rfl | rfl))
 try simp only [Qp]
 refine Qt 1 54 rfl rfl ?_
 try simp only [Qp]
 refine Qt 2 55 rfl rfl ?_
 try simp only [Qp]
 refine Qt 3 56 rfl rfl ?_
 try simp only [Qp]
 refine Qt 4 57 rfl rfl ?_
 try simp only [Qp]
 refine Qt 5 58 rfl rfl ?_ (by intro w hSw;obtain⟨m0,m1,m2,m3⟩:=Q4 hSw;go_simp;(first | done | with_reducible rfl | rfl))
 try simp only [Qp]
 refine Qr 6 rfl (λ K hK=>?_)
 go_simp
 refine (HWN.out _ hcs).mono ?_
 rintro e w9 ⟨ao,co,f9,rfl,R9,O9,-,hb9⟩
 have hx9:=hcs.trans (hb9.mono hcs.size)
 refine hK.out _ _ (HSN.out _ hx9) (λ hHeld=>?_)
 clear hK K
 try simp only [Qp]
 refine Qt 7 60 rfl rfl ?_
 try simp only [Qp]
 have HZ9:=mbox HZ6.out hx9
 have hB9:=hB5.trans (hx9.mono hB5.size)
 have hn9:w.heap.size+1∉f9:=λ hx=>by have h1:=(O9.2 _ hx).1;have h2:=hcs.size;have h3:=mlt HZ6.out;omega
 have HRT9:=(Zaa sToks).below HRT5.out hx9
 have hnt:w.heap.size+1∉ft:=λ hx=>by have:=HFT3.out _ hx;omega
 have z0:=Qc 0 HZ9
 have zf0:=Qf 0 HZ9
 have z1:=Qc 1 HZ9
 have zf1:=Qf 1 HZ9
 have z2:=Qc 2 HZ9
 have zf2:=Qf 2 HZ9
 have z3:=Qc 3 HZ9
 have zf3:=Qf 3 HZ9
 have z4:=Qc 4 HZ9
 have zf4:=Qf 4 HZ9
 have z5:=Qc 5 HZ9
 have zf5:=Qf 5 HZ9
 have z6:=Qc 6 HZ9
 have zf6:=Qf 6 HZ9
 have HS:=Qh (ZiN HZ9 (.string m.name) (.bool m.function) (.slice a2 m.params.length c2) (.slice a3 m.body.length c3) (.slice aA m.params.length cA) (.int .i64 (en:Nat)) (.slice ao (ins (both l[0].hidden l[j].hidden) m.name).length co))
 have HB:=Qh (Zfv (g:=w.heap.size+1) hB9 (by omega) (.string m.name) (.bool m.function) (.slice a2 m.params.length c2) (.slice a3 m.body.length c3) (.slice aA m.params.length cA) (.int .i64 (en:Nat)) (.slice ao (ins (both l[0].hidden l[j].hidden) m.name).length co))
 have HRF:=Qh ((Zaa sStr).set7R R9 hn9 (.string m.name) (.bool m.function) (.slice a2 m.params.length c2) (.slice a3 m.body.length c3) (.slice aA m.params.length cA) (.int .i64 (en:Nat)) (.slice ao (ins (both l[0].hidden l[j].hidden) m.name).length co))
 have HRG:=Qh ((Zaa sToks).set7R HRT9 hnt (.string m.name) (.bool m.function) (.slice a2 m.params.length c2) (.slice a3 m.body.length c3) (.slice aA m.params.length cA) (.int .i64 (en:Nat)) (.slice ao (ins (both l[0].hidden l[j].hidden) m.name).length co))
 have HH7:Hid ((set7 w9 (w.heap.size+1) (.string m.name) (.bool m.function) (.slice a2 m.params.length c2) (.slice a3 m.body.length c3) (.slice aA m.params.length cA) (.int .i64 (en:Nat)) (.slice ao (ins (both l[0].hidden l[j].hidden) m.name).length co)).heap[w.heap.size]?=some (.cells #[.string m.name,.bool m.function,.slice a2 m.params.length c2,.slice a3 m.body.length c3] 56 (0,0))):=(Zfu (by omega) _ _ _ _ _ _ _).trans hHeld
 unfold set7 at HS HB HRF HRG HH7
 refine Qr 8 rfl (λ K hK=>?_)
 go_simp
 refine hK.out _ _ (HH7.out) (λ hHeld=>?_)
 clear hK K
 try simp only [Qp]
 refine Qt 9 5 rfl rfl ?_
 try simp only [Qp]
 refine wpAnyH_done (by kernel_rfl) ?_ _
 refine NoPanic.normal ?_
 clear hHeld
 go_wp2
 refine bodyPost_ret (Zat rfl _ _ (w.heap.size+1) _ _ _ _ rfl HS.out Tryz.underlying129 rfl (by kernel_rfl)) rfl ?_
 exact .inr ⟨_,en,_,_,_,ft,f9,HF.out,rfl,HRG.out,HFT2.out,HRF.out,λ b hb=>by have h1:=(O9.2 _ hb).1;have h2:=hcs.size;have h3:=mlt HX6.out;omega,HB.out⟩
theorem Zc3 (csM:List Value) (m:DMacro) (fpM:List Nat) (v:Value) (a:List (List Tok)) (fp:List Nat) (w:World) (HM:sMacro.R w csM m fpM) (H:(Zaa (Zaa sTok)).R w [v] a fp) :
  Calls Tryz.prog 138 #[.agg csM.toArray,v] w (Says (Zas m a) w):=by
 obtain⟨h2,h3,q2,q3,rfl,-,K2,K3,-⟩:=HM
 obtain⟨a2,c2,rfl,-⟩:=Zaf K2
 obtain⟨a3,c3,rfl,-⟩:=Zac K3
 obtain⟨aa,ca,rfl,hca,hma,hrow⟩:=Zac H
 unfold maxLen at hma
 have b0:=Zab w (.cells #[.string m.name,.bool m.function,.slice a2 m.params.length c2,.slice a3 m.body.length c3] 56)
 have HX:=Qh (heap_alloc_new w (.cells #[.string m.name,.bool m.function,.slice a2 m.params.length c2,.slice a3 m.body.length c3] 56))
 have HA:=Qh ((Zaa (Zaa sTok)).below H b0)
 clear K2 K3 H
 go_enter Tryz.func138,Tryz.ntmps138
 go_upto_region 1 with fail
 generalize (w.alloc (.cells #[.string m.name,.bool m.function,.slice a2 m.params.length c2,.slice a3 m.body.length c3] 56))=W1 at *
 have p2:=Qc 2 HX.out
 by_cases h1:a.length=m.params.length
 rotate_left
 ·have HF:=Qh (Zho h1)
  have e1:((a.length:Int) != (m.params.length:Int))=true:=by simp;omega
  clear h1
  go_wp2
  go_ret
  exact⟨Zad HF.out.symm,b0⟩
 have e1:((a.length:Int) != (m.params.length:Int))=false:=by simp;omega
 have H1:=Qh h1
 clear h1
 go_wp2
 clear p2 e1
 go_loopw [15] (λ i wr=>∃ k:Nat,k<=a.length/\i=.int .i64 k/\Hid (∀ j,(hj:j<a.length)->j<k->Zaj a[j]=true)/\Below W1.heap.size W1 wr) (λ i _=>a.length-(intOf i).toNat)
 case atStart=>exact⟨0,by omega,rfl,Qh (λ j _ h=>absurd h (by omega)),Below.refl _ _⟩
 case round =>
  obtain⟨k,hk,rfl,HV,hb⟩:=hrel
  have hBr:=b0.trans (hb.mono b0.size)
  by_cases hlt:k<a.length
  ·obtain⟨b1,o1,-,rfl,-,-,-⟩:=hrow (by omega)
   obtain⟨aj,cj,f1,q1,R1,l1,-⟩:=ZbX HA.out hlt
   replace q1:=(hb.cell (p:=⟨b1,o1+k,none⟩) l1).trans q1
   have HT:=Qh (Zbg _ a[k] f1 wr ((Zaa sTok).below R1 hb))
   clear R1 hrow
   cases hv:Zaj a[k]
   ·have HF:=Qh (Zhp (m:=m) hlt hv)
    rw [hv] at HT
    clear hv HV
    go_wp2_with (go_at_call 35;refine (HT.out).mono ?_;rintro e w7 ⟨rfl,hb7⟩)
    go_ret
    exact⟨Zad HF.out.symm,hBr.trans (hb7.mono hBr.size)⟩
   ·have HV1:=Qh hv
    rw [hv] at HT
    clear hv
    have HN:Hid (∀ j,(hj:j<a.length)->j<k+1->Zaj a[j]=true):=Qh (λ j hj hjk=>by
     rcases Nat.lt_succ_iff_lt_or_eq.1 hjk with h | rfl
     ·exact HV.out j hj h
     ·exact HV1.out)
    go_wp2_with (go_at_call 35;refine (HT.out).mono ?_;rintro e w7 ⟨rfl,hb7⟩)
    go_roundw
    case rel=>exact⟨k+1,by omega,by go_num,HN,hb.trans (hb7.mono hb.size)⟩
    case measure=>simp [intOf];omega
  ·have HF:=Qh (Zhq H1.out λ j hj=>HV.out j hj (by omega))
   go_wp2
   go_ret
   exact⟨Zad HF.out.symm,hBr⟩
theorem Zhw (v:Value) (l:List Tok) (fp:List Nat) (k:Nat) (w:World) (hl:l.length<=1000000) (hk:k<l.length) (H:(Zaa sTok).R w [v] l fp) :
  Calls Tryz.prog 155 #[v,.int .i64 k] w λ e w'=>e=.returned (.bool (besL l k || besR l k))/\w'=w:=by
 obtain⟨a,cap,rfl,hc,hm,hrow⟩:=Zac H
 obtain⟨bb,ob,-,rfl,-,-,-⟩:=hrow (by omega)
 unfold maxLen at hm
 have HK:=Qh H
 clear H hrow
 obtain⟨r,HR⟩:∃ r,Hid (r=(besL l k || besR l k)):=⟨_,Qh rfl⟩
 rw [← HR.out]
 have i1:(0:Int)<=(k:Int)+1:=by omega
 have i2:((k:Int)+1).toNat=k+1:=by omega
 have i3:IntKind.i64.wrap ((k:Int)+1)=(k:Int)+1:=IntWalk.i64_in _ (by omega)
 have HRR:Hid (∀ hk2:k+1<l.length,besR l k=(l[k+1].text.toList==[35,35])):=λ hk2=>by unfold besR;rw [dif_pos hk2]
 have HRN:Hid (¬ k+1<l.length->besR l k=false):=λ hk2=>by unfold besR;rw [dif_neg hk2]
 go_enter Tryz.func155,Tryz.ntmps155
 by_cases hk0:0<k
 ·have j0:(0:Int)<(k:Int):=by omega
  have j1:IntKind.i64.wrap ((k:Int)-1)=(k:Int)-1:=IntWalk.i64_in _ (by omega)
  have j2:(0:Int)<=(k:Int)-1:=by omega
  have j3:(k:Int)-1<(l.length:Int):=by omega
  have j4:((k:Int)-1).toNat=k-1:=by omega
  have j5:(1:Int)<=(k:Int):=by omega
  obtain⟨xa,xc,xf,-,x1,-,-,-,-,-⟩:=ZaB HK.out (j:=k-1) (by omega)
  have HL:Hid (besL l k=((l[k-1]'(by omega)).text.toList==[35,35])):=by show _=_;unfold besL;rw [dif_pos ⟨hk0,by omega⟩]
  generalize (l[k-1]'(by omega)).text=tx at *
  cases hg:(tx.toList==[35,35])
  ·by_cases hk2:k+1<l.length
   ·obtain⟨ya,yc,yf,-,y1,-,-,-,-,-⟩:=ZaB HK.out (j:=k+1) hk2
    have HF:Hid (r=(l[k+1].text.toList==[35,35])):=by show _=_;rw [HR.out,HL.out,hg,HRR.out hk2];rfl
    have j6:(k:Int)+1<(l.length:Int):=by omega
    go_wp2
    go_ret
    exact⟨by rw [HF.out];rfl,by trivial⟩
   ·have HF:Hid (r=false):=by show _=_;rw [HR.out,HL.out,hg,HRN.out hk2];rfl
    have j6:¬ (k:Int)+1<(l.length:Int):=by omega
    go_wp2
    go_ret
    exact⟨by rw [HF.out];rfl,by trivial⟩
  ·have HF:Hid (r=true):=by show _=_;rw [HR.out,HL.out,hg];rfl
   go_wp2
   go_ret
   exact⟨by rw [HF.out];rfl,by trivial⟩
 ·have j0:¬ (0:Int)<(k:Int):=by omega
  have HL:Hid (besL l k=false):=by show _=_;unfold besL;rw [dif_neg (λ h=>hk0 h.1)]
  by_cases hk2:k+1<l.length
  ·obtain⟨ya,yc,yf,-,y1,-,-,-,-,-⟩:=ZaB HK.out (j:=k+1) hk2
   have HF:Hid (r=(l[k+1].text.toList==[35,35])):=by show _=_;rw [HR.out,HL.out,HRR.out hk2];rfl
   have j6:(k:Int)+1<(l.length:Int):=by omega
   go_wp2
   go_ret
   exact⟨by rw [HF.out];rfl,by trivial⟩
  ·have HF:Hid (r=false):=by show _=_;rw [HR.out,HL.out,HRN.out hk2];rfl
   have j6:¬ (k:Int)+1<(l.length:Int):=by omega
   go_wp2
   go_ret
   exact⟨by rw [HF.out];rfl,by trivial⟩
theorem Zb6 (ct:List Value) (t:Tok) (fpt:List Nat) (v:Value) (l:List Tok) (fp:List Nat) (w:World) (hl:l.length<=1000000) (hh:∀ k,(hk:k<l.length)->l[k].hidden.length<=2000000) (HT:sTok.R w ct t fpt) (H:(Zaa sTok).R w [v] l fp) :
  Calls Tryz.prog 123 #[.agg ct.toArray,v] w (MineN (spc t.spaced l) w):=by
 obtain⟨ht,rfl,-,-,KT⟩:=HT
 obtain⟨at_,ct_,rfl,-⟩:=Zaf KT
 clear KT
 obtain⟨a,cap,rfl,hc,hm,hrow⟩:=Zac H
 unfold maxLen at hm
 have b0:=Zab w (.cells #[.int .i64 t.kind,.string t.text,.bool t.spaced,.slice at_ t.hidden.length ct_] 32)
 have HX:=Qh (heap_alloc_new w (.cells #[.int .i64 t.kind,.string t.text,.bool t.spaced,.slice at_ t.hidden.length ct_] 32))
 have HK:=Qh ((Zaa sTok).below H b0)
 have HH:=Qh hh
 clear H hh
 go_enter Tryz.func123,Tryz.ntmps123
 go_upto_region 1 with fail
 generalize (w.alloc (.cells #[.int .i64 t.kind,.string t.text,.bool t.spaced,.slice at_ t.hidden.length ct_] 32))=W1 at *
 have hsw:w.heap.size<W1.heap.size:=mlt HX.out
 go_wp2
 go_loopw [5,10] (λ vo i wr=>∃ (k:Nat) (L:List (Elem Tok)),k<=l.length/\i=.int .i64 k/\Hid (L.map (·.d)=l.take k)/\Hid (RowN sTok W1.heap.size 32 vo L wr)/\Hid (Own wr W1.heap.size (L.flatMap (·.fp)))/\Below W1.heap.size W1 wr) (λ _ i _=>l.length-(intOf i).toNat)
 case atStart=>exact⟨0,[],by omega,rfl,rfl,RowN.nil _ _ _ _,Own.nil _ _,Below.refl _ _⟩
 case round =>
  obtain⟨k,L,hk,rfl,HD,HR,HO,hb⟩:=hrel
  have hLk:L.length=k:=by have:=congrArg List.length HD.out;rw [List.length_map,List.length_take] at this;omega
  have HLK:=Qh hLk
  obtain⟨ao,co,hvo,-⟩:=HR.out.val
  rw [hLk] at hvo
  subst hvo
  clear hLk
  by_cases hlt:k<l.length
  ·obtain⟨b1,o1,-,rfl,-,-,-⟩:=hrow (by omega)
   obtain⟨xa,xc,xf,x0,x1,x2,x3,xR,hbb,-⟩:=ZaB HK.out hlt
   replace x0:=(hb.cell (p:=⟨b1,o1+k * 4,none⟩) hbb).trans x0
   replace x1:=(hb.cell (p:=⟨b1,o1+k * 4+1,none⟩) hbb).trans x1
   replace x2:=(hb.cell (p:=⟨b1,o1+k * 4+2,none⟩) hbb).trans x2
   replace x3:=(hb.cell (p:=⟨b1,o1+k * 4+3,none⟩) hbb).trans x3
   have XR:=Qh (sTok.below xR hb)
   have bx:=Zab wr (.cells #[.int .i64 l[k].kind,.string l[k].text,.bool l[k].spaced,.slice xa l[k].hidden.length xc] 32)
   have HX2:=Qh (heap_alloc_new wr (.cells #[.int .i64 l[k].kind,.string l[k].text,.bool l[k].spaced,.slice xa l[k].hidden.length xc] 32))
   clear xR hrow
   go_upto_region 5 with fail
   clear x0 x1 x2 x3
   generalize (wr.alloc (.cells #[.int .i64 l[k].kind,.string l[k].text,.bool l[k].spaced,.slice xa l[k].hidden.length xc] 32))=W2 at *
   obtain⟨p0,p1,p2,p3⟩:=Q4 HX2.out
   have HC:=Qh (Zcv _ l[k] _ W2 (HH.out k hlt) (sTok.below XR.out bx))
   have hrl:wr.heap.size<=W2.heap.size:=bx.size
   go_wp2_with fail
   refine (HC.out).mono ?_
   rintro e w3 ⟨a3,c3,f3,rfl,R3,O3,-,hb3⟩
   clear p0 p1 p2 p3 HC
   have hb23:=bx.trans (hb3.mono bx.size)
   have hW3:=hb23.size
   have hW1:=hb.size
   have hb13:=hb.trans (hb23.mono hb.size)
   have bl:=Zab w3 (.cells #[.int .i64 l[k].kind,.string l[k].text,.bool l[k].spaced,.slice a3 l[k].hidden.length c3] 32)
   have HL4:=Qh (heap_alloc_new w3 (.cells #[.int .i64 l[k].kind,.string l[k].text,.bool l[k].spaced,.slice a3 l[k].hidden.length c3] 32))
   have HR4:=Qh ((HR.out.below hb23).below bl)
   have HO4:=Qh ((HO.out.grow hb23).grow bl)
   have RX:=Qh (sTok.below R3 bl)
   have OX:=Qh (O3.grow bl)
   have hb14:=hb13.trans (bl.mono hb13.size)
   have HLO:=Qh (λ b hb=>HO.out.lt b hb)
   have HMI:=Qh HR.out.mine
   have HXN:Hid (∀ b∈f3,(Value.slice ao k co).ownBlock≠some b):=λ b hb h=>by
    have h1:=(HMI.out b h).2
    have h2:=(O3.2 b hb).1
    omega
   clear R3 O3 HR HO bx hb3 XR HX2 hb23 hb
   go_wp2_with (at_builtin;refine ZaE (X:=[(⟨[.int .i64 l[k].kind,.string l[k].text,.bool l[k].spaced,.slice a3 l[k].hidden.length c3],l[k],f3⟩:Elem Tok)]) ZaG rfl (by decide) _ rfl (.tmp 14) (.tmp 17) rfl W1.heap.size (.slice ao k co) rfl HR4.out ⟨w3.heap.size,0,none⟩ 1 1 rfl rfl (λ x hx=>by obtain rfl:=Qm hx;exact⟨rfl,RX.out,HXN.out⟩) (λ x hx=>by obtain rfl:=Qm hx;exact ZaF _ _ _ _ RX.out) (λ j u hj=>by rw [ZaI,Nat.zero_add,cell_of_row _ _ _ _ _ _ HL4.out];simpa using hj) (by have:=HLK.out;unfold maxLen;omega) (by have:=HLK.out;omega) hb14.size ?_;intro v5 w5 hR5 hg5 hp5)
   have hb5:Below W1.heap.size W1 w5:=hb14.grown hg5 hb14.size (λ b hb=>(HMI.out b hb).1)
   have HO5:Hid (Own w5 W1.heap.size ((L++[(⟨[.int .i64 l[k].kind,.string l[k].text,.bool l[k].spaced,.slice a3 l[k].hidden.length c3],l[k],f3⟩:Elem Tok)]).flatMap (·.fp))):=by
    show Own _ _ _
    rw [Zdx]
    have e1:([(⟨[.int .i64 l[k].kind,.string l[k].text,.bool l[k].spaced,.slice a3 l[k].hidden.length c3],l[k],f3⟩:Elem Tok)]).flatMap (·.fp)=f3:=by simp
    rw [e1]
    refine Zbu (HO4.out.app (OX.out.lower (by omega)) λ b hb hx=>?_) (λ b hb=>?_) hg5
    ·have h1:=HLO.out b hb
     have h2:=(OX.out.2 b hx).1
     omega
    ·rcases Qa hb with hb | hb
     ·obtain⟨x,hx,hb'⟩:=List.mem_flatMap.1 hb
      exact HR4.out.ap x hx b hb'
     ·exact HXN.out b hb
   have HD5:Hid ((L++[(⟨[.int .i64 l[k].kind,.string l[k].text,.bool l[k].spaced,.slice a3 l[k].hidden.length c3],l[k],f3⟩:Elem Tok)]).map (·.d)=l.take (k+1)):=by
    show _=_
    rw [List.map_append,HD.out,List.take_succ_eq_append_getElem hlt];rfl
   have HR5:=Qh hR5
   clear hR5 hg5 hp5
   go_wp2
   go_roundw
   case rel=>exact⟨k+1,_,by omega,by go_num,HD5,HR5,HO5,hb5⟩
   case measure=>simp [intOf];omega
  ·have hkl:k=l.length:=by omega
   have HXr:=Qh (mbox HX.out hb)
   have hbw:=b0.trans (hb.mono b0.size)
   have HDL:Hid (L.map (·.d)=l):=by show _=_;rw [HD.out,List.take_of_length_le (by omega)]
   have HRW:=Qh (HR.out.lower (base':=w.heap.size) b0.size)
   have HOW:=Qh (HO.out.lower (lo':=w.heap.size) b0.size)
   have p2:=Qc 2 HXr.out
   clear HD HR HO hkl
   by_cases h0:k=0
   ·have HF:Hid (L.map (·.d)=spc t.spaced l):=by
     show _=_
     have hl0:l=[]:=List.length_eq_zero_iff.1 (by have:=congrArg List.length HDL.out;rw [List.length_map] at this;have:=HLK.out;omega)
     rw [HDL.out,hl0];rfl
    have e0:¬ (0:Int)<(k:Int):=by omega
    clear h0
    go_wp2
    go_ret
    refine ⟨_,L,rfl,?_,HF.out,HOW.out,hbw⟩
    exact HRW.out
   ·obtain⟨x,X',rfl⟩:∃ x X',L=x::X':=by
     cases L with
     | nil=>exact absurd HLK.out.symm h0
     | cons x X'=>exact⟨x,X',rfl⟩
    obtain⟨g,hg1,hg2,hg3⟩:∃ g,ao=some ⟨g,0,none⟩/\w.heap.size<=g/\g<wr.heap.size:=by
     obtain⟨a9,c9,e,-,-,h⟩:=HRW.out.val
     simp only [Value.slice.injEq] at e
     obtain⟨rfl,-,-⟩:=e
     exact h (by simp)
    subst hg1
    obtain⟨hx,hcs,okk,oks,K⟩:=HRW.out.el x (by simp)
    obtain⟨ah,ch,rfl,-⟩:=Zaf K
    have hgx:g∉x.fp:=λ hx=>HRW.out.ap x (by simp) g hx rfl
    have HR2:=HRW.out
    have c2:wr.cell? ⟨g,2,none⟩=some (.bool x.d.spaced):=by
     have:=HR2.cellAt (k:=0) (by simp) (j:=2) (by decide) (u:=.bool x.d.spaced) (by show x.cells[2]?=_;rw [hcs];rfl)
     simpa using this
    have f2:wr.frozen? ⟨g,2,none⟩=false:=HR2.frozen 2
    have HS:Hid (RowN sTok w.heap.size 32 (.slice (some ⟨g,0,none⟩) k co) (⟨[.int .i64 x.d.kind,.string x.d.text,.bool t.spaced,.slice ah x.d.hidden.length ch],⟨x.d.kind,x.d.text,t.spaced,x.d.hidden⟩,x.fp⟩::X') (wr.setCell ⟨g,2,none⟩ (.bool t.spaced))):=by
     show RowN _ _ _ _ _ _
     have:=HR2.set (k:=0) (by simp) (j:=2) (by decide) (.bool t.spaced) ⟨[.int .i64 x.d.kind,.string x.d.text,.bool t.spaced,.slice ah x.d.hidden.length ch],⟨x.d.kind,x.d.text,t.spaced,x.d.hidden⟩,x.fp⟩ (by show _=x.cells.set 2 _;rw [hcs];rfl) ⟨_,rfl,okk,oks,K⟩ hgx
     simpa using this
    have HF:Hid (((⟨[.int .i64 x.d.kind,.string x.d.text,.bool t.spaced,.slice ah x.d.hidden.length ch],⟨x.d.kind,x.d.text,t.spaced,x.d.hidden⟩,x.fp⟩:Elem Tok)::X').map (·.d)=spc t.spaced l):=by
     show _=_;rw [← HDL.out];rfl
    have HOS:Hid (Own (wr.setCell ⟨g,2,none⟩ (.bool t.spaced)) w.heap.size (((⟨[.int .i64 x.d.kind,.string x.d.text,.bool t.spaced,.slice ah x.d.hidden.length ch],⟨x.d.kind,x.d.text,t.spaced,x.d.hidden⟩,x.fp⟩:Elem Tok)::X').flatMap (·.fp))):=HOW.out.setCell ⟨g,2,none⟩ (.bool t.spaced)
    have hb2:=hbw.setCell (p:=⟨g,2,none⟩) hg2 (.bool t.spaced)
    have e0:(0:Int)<(k:Int):=by omega
    have e1:0<k:=by omega
    clear K hcs HR2 HRW h0 hg2 hg3
    go_wp2
    go_ret
    exact⟨_,_,rfl,HS.out,HF.out,HOS.out,hb2⟩
abbrev BldAt (B b:Nat) (p:Value) (bs:List Value) (w:World):Prop:=Lib.BuilderAtF 175 5 B b p bs w
abbrev IsBld (B b:Nat) (bs:List Value) (w:World):Prop:=Lib.IsBuilderF 175 5 B b bs w
def BldTo (B b:Nat) (bs:List Value) (w w':World):Prop:=
 BldAt B b (.pointer (some ⟨b,0,none⟩)) bs w'/\Below B w w'/\Lib.OthersKept 5 (some b) w w'
theorem Zhx:∃ j,Tryz.prog.info? 175=some j/\j.size=2:=by
 have h:(Tryz.prog.info? 175).map (·.size)=some 2:=by kernel_rfl
 exact Option.map_eq_some_iff.1 h
theorem bld_lies:liesAt Tryz.prog Tryz.prog.depth 175 (2 / Tryz.prog.cellsOf 175) 0 175 1=true:=by kernel_rfl
theorem ZjC:∃ i,Tryz.prog.info? 5=some i/\i.zero=some (.int .u8 0)/\i.size=1/\i.bytes=1:=by
 have h:(Tryz.prog.info? 5).map (λ i=>(i.zero,i.size,i.bytes))=some (some (.int .u8 0),1,1):=by kernel_rfl
 obtain⟨i,h1,h2⟩:=Option.map_eq_some_iff.1 h
 simp only [Prod.mk.injEq] at h2
 exact⟨i,h1,h2.1,h2.2.1,h2.2.2⟩
theorem Zl5 (b:Nat) (w:World):(binOp .neq 173 (.pointer (some ⟨b,0,none⟩)) (.pointer (some ⟨b,0,none⟩))).run Tryz.prog w=.ok (.bool false) w:=by
 obtain⟨j,hj,_⟩:=Zhx
 exact Lib.run_neq_ptr_same w _ Tryz.underlying173 hj
theorem ZnB (b:Nat) (w:World) (hsh:w.shape? b=some (175,2)):(convert 173 186 (.pointer (some ⟨b,0,none⟩))).run Tryz.prog w=.ok (.pointer (some ⟨b,0,none⟩)) w:=by
 obtain⟨j,hj,hjs⟩:=Zhx
 exact Lib.run_to_unsafe w ⟨b,0,none⟩ Tryz.underlying173 Tryz.underlying186 hj (by rw [hjs];decide) hsh (Nat.zero_lt_succ 1)
theorem Zlp (b:Nat) (w:World) (hsh:w.shape? b=some (175,2)):(convert 186 173 (.pointer (some ⟨b,0,none⟩))).run Tryz.prog w=.ok (.pointer (some ⟨b,0,none⟩)) w:=by
 obtain⟨j,hj,hjs⟩:=Zhx
 exact Lib.run_from_unsafe w ⟨b,0,none⟩ Tryz.underlying186 Tryz.underlying173 hj hsh bld_lies
theorem ZnC (b:Nat) (w:World):(callFunc 172 #[.pointer (some ⟨b,0,none⟩)]).run Tryz.prog w=.ok (.value (.pointer (some ⟨b,0,none⟩))) w:=by
 rw [run_callFunc_extern Tryz.func172 (by kernel_rfl) (by kernel_rfl) (by kernel_rfl) (e:=Extern.AbiNoEscape.same) (by kernel_rfl),Lib.run_noEscape]
 rfl
theorem ZmD (b:Nat) (w:World) (h0:w.cell? ⟨b,0,none⟩=some (.pointer (some ⟨b,0,none⟩))) :
  Calls Tryz.prog 170 #[.pointer (some ⟨b,0,none⟩)] w λ e w'=>e=.returned (.tuple #[])/\w'=w:=by
 have r1:=Zl5 b w
 go_enter Tryz.func170,Tryz.ntmps170
 go_wp2
 go_end0
 exact⟨rfl,rfl⟩
theorem Zlq (b:Nat) (w:World) (h0:w.cell? ⟨b,0,none⟩=some (.pointer none)) (hsh:w.shape? b=some (175,2)) (hfz:w.frozen? ⟨b,0,none⟩=false) :
  Calls Tryz.prog 170 #[.pointer (some ⟨b,0,none⟩)] w λ e w'=>e=.returned (.tuple #[])/\w'=w.setCell ⟨b,0,none⟩ (.pointer (some ⟨b,0,none⟩)):=by
 have r1:=ZnB b w hsh
 have r2:=ZnC b w
 have r3:=Zlp b w hsh
 have c0:(w.setCell ⟨b,0,none⟩ (.pointer (some ⟨b,0,none⟩))).cell? ⟨b,0,none⟩=some (.pointer (some ⟨b,0,none⟩)):=World.cell?_setCell_same _ _ _ h0
 have r4:=Zl5 b (w.setCell ⟨b,0,none⟩ (.pointer (some ⟨b,0,none⟩)))
 go_enter Tryz.func170,Tryz.ntmps170
 go_wp2
 go_end0
 exact⟨rfl,rfl⟩
theorem ZjD (B b:Nat) (bs:List Value) (w:World) (h:IsBld B b bs w) :
  Calls Tryz.prog 170 #[.pointer (some ⟨b,0,none⟩)] w λ e w'=>e=.returned (.tuple #[])/\BldTo B b bs w w':=by
 rcases h with h | h
 ·refine (Zlq b w h.cell0 h.shape h.frozen0).mono ?_
  rintro e w' ⟨rfl,rfl⟩
  exact⟨rfl,h.used _,(Below.refl B w).setCell (p:=⟨b,0,none⟩) h.1 _,(Lib.OthersKept.refl _ _ w).setCell ⟨b,0,none⟩ rfl _⟩
 ·refine (ZmD b w h.cell0).mono ?_
  rintro e w' ⟨rfl,rfl⟩
  exact⟨rfl,h,Below.refl B _,Lib.OthersKept.refl _ _ _⟩
theorem ZkQ (B b:Nat) (bs:List Value) (c:Int) (w:World) (h:IsBld B b bs w) (hlen:bs.length<=1048576) (hBw:B<=w.heap.size) :
  Calls Tryz.prog 162 #[.pointer (some ⟨b,0,none⟩),.int .u8 c] w λ e w'=>e=.returned .nilIface/\BldTo B b (bs++[.int .u8 c]) w w':=by
 obtain⟨i0,hi,hz0,hz1,hz2⟩:=ZjC
 go_enter Tryz.func162,Tryz.ntmps162
 go_wp2_with fail
 refine (ZjD B b bs _ h).mono ?_
 rintro e w1 ⟨rfl,⟨hB,v,hbk,hown,hne⟩,hb1,hk1⟩
 have c0:w1.cell? ⟨b,0,none⟩=some (.pointer (some ⟨b,0,none⟩)):=by rw [Lib.cell_of_heap hbk];rfl
 have c1:w1.cell? ⟨b,1,none⟩=some v:=by rw [Lib.cell_of_heap hbk];rfl
 have hs1:=hb1.size
 go_wp2_with (at_builtin;refine wpList_append_ownF _ rfl _ _ 22 rfl B 5 i0 (.int .u8 0) 1 1 Tryz.underlying22 hi hz0 hz1 hz2 rfl (by decide) v bs.length bs rfl (hown.alloc _) ⟨w1.heap.size,0,none⟩ 1 1 [.int .u8 c] rfl rfl ?c1 ?c2 ?c3 ?c4 ?c5 ?_)
 case c1 =>
  intro j u hj
  match j,hj with
  | 0,hj=>simp at hj;subst hj;simp [Addr.add]
 case c2=>intro u hu;simp at hu;subst hu;rfl
 case c3=>unfold maxLen;omega
 case c4=>omega
 case c5=>simp;omega
 intro v' w2 hown' hgrow _
 have hlt:b<w1.heap.size:=(Qg hbk).1
 have hb2:w2.heap[b]?=some (.cells #[.pointer (some ⟨b,0,none⟩),v] 175 (0,0)):=by
  rw [hgrow.block b (by simp;omega) (λ e=>hne e.symm),Lib.alloc_old w1 _ b hlt]
  exact hbk
 have d0:w2.cell? ⟨b,0,none⟩=some (.pointer (some ⟨b,0,none⟩)):=by rw [Lib.cell_of_heap hb2];rfl
 have d1:w2.cell? ⟨b,1,none⟩=some v:=by rw [Lib.cell_of_heap hb2];rfl
 have f1:w2.frozen? ⟨b,1,none⟩=false:=Lib.frozen_of_heap hb2 1
 obtain⟨g,cap,rfl⟩:∃ g cap,v'=.slice (some ⟨g,0,none⟩) (bs.length+1) cap:=by
  rcases hown'.2 with⟨_,h0⟩ | ⟨g,cap,cur,fz,hv,_⟩
  ·omega
  ·exact⟨g,cap,hv⟩
 have HA:Hid (BldTo B b (bs++[.int .u8 c]) w (w2.setCell ⟨b,1,none⟩ (.slice (some ⟨g,0,none⟩) (bs.length+1) cap))):=by
  refine ⟨Lib.BuilderAtF.put (T:=175) (e:=5) hB hb2 (bs':=bs++[.int .u8 c]) (by simpa using hown') (by decide),?_,((hk1.alloc _).grown hgrow (Lib.ownsRowF_kind (hown.alloc _))).setCell ⟨b,1,none⟩ rfl _⟩
  exact((hb1.alloc (by omega) _).grown hgrow (by simp;omega) (λ k hk=>(hown.lt k hk).1)).setCell (p:=⟨b,1,none⟩) hB _
 clear hown hown' hgrow hbk hb2 hb1 hk1
 go_wp2
 go_ret
 exact⟨rfl,HA.out⟩
theorem bld_text (B b:Nat) (bs:List Value) (s:ByteArray) (w:World) (h:IsBld B b bs w) (hlen:bs.length+s.size<=140737488355328) (hBw:B<=w.heap.size) :
  Calls Tryz.prog 163 #[.pointer (some ⟨b,0,none⟩),.string s] w λ e w'=>e=.returned (.tuple #[.int .i64 s.size,.nilIface])/\BldTo B b (bs++Lib.strCells s) w w':=by
 obtain⟨i0,hi,hz0,hz1,hz2⟩:=ZjC
 go_enter Tryz.func163,Tryz.ntmps163
 go_wp2_with fail
 refine (ZjD B b bs _ h).mono ?_
 rintro e w1 ⟨rfl,⟨hB,v,hbk,hown,hne⟩,hb1,hk1⟩
 have c0:w1.cell? ⟨b,0,none⟩=some (.pointer (some ⟨b,0,none⟩)):=by rw [Lib.cell_of_heap hbk];rfl
 have c1:w1.cell? ⟨b,1,none⟩=some v:=by rw [Lib.cell_of_heap hbk];rfl
 have hs1:=hb1.size
 go_wp2_with (at_builtin;refine Lib.wpList_append_own_stringF _ rfl _ _ 22 9 rfl B 5 i0 Tryz.underlying22 Tryz.underlying9 hi hz0 hz1 hz2 v bs.length bs rfl hown s rfl ?c3 ?c4 ?c5 ?_)
 case c3=>unfold maxLen;omega
 case c4=>omega
 case c5=>omega
 intro v' w2 hown' hgrow _
 have hlt:b<w1.heap.size:=(Qg hbk).1
 have hb2:w2.heap[b]?=some (.cells #[.pointer (some ⟨b,0,none⟩),v] 175 (0,0)):=by
  rw [hgrow.block b hlt (λ e=>hne e.symm)]
  exact hbk
 have d0:w2.cell? ⟨b,0,none⟩=some (.pointer (some ⟨b,0,none⟩)):=by rw [Lib.cell_of_heap hb2];rfl
 have d1:w2.cell? ⟨b,1,none⟩=some v:=by rw [Lib.cell_of_heap hb2];rfl
 have f1:w2.frozen? ⟨b,1,none⟩=false:=Lib.frozen_of_heap hb2 1
 obtain⟨ao,n',cap,rfl⟩:∃ ao n' cap,v'=.slice ao n' cap:=by
  rcases hown'.2 with⟨hv,_⟩ | ⟨g,cap,cur,fz,hv,_⟩
  ·exact⟨_,_,_,hv⟩
  ·exact⟨_,_,_,hv⟩
 have HA:Hid (BldTo B b (bs++Lib.strCells s) w (w2.setCell ⟨b,1,none⟩ (.slice ao n' cap))):=by
  refine ⟨Lib.BuilderAtF.put (T:=175) (e:=5) hB hb2 (bs':=bs++Lib.strCells s) (by simpa [Lib.strCells_length] using hown') (by decide),?_,(hk1.grown hgrow (Lib.ownsRowF_kind hown)).setCell ⟨b,1,none⟩ rfl _⟩
  exact(hb1.grown hgrow (by omega) (λ k hk=>(hown.lt k hk).1)).setCell (p:=⟨b,1,none⟩) hB _
 clear hown hown' hgrow hbk hb2 hb1 hk1
 go_wp2
 go_ret2
 exact⟨rfl,HA.out⟩
def Bld (b:Nat) (s:ByteArray) (w:World):Prop:=IsBld b b (Lib.strCells s) w
theorem BldAt.below {B b:Nat} {p:Value} {bs:List Value} {w w':World} (h:BldAt B b p bs w) (hb:Below w.heap.size w w'):BldAt B b p bs w':=by
 have hlt:=h.lt
 obtain⟨hB,v,hbk,hown,hne⟩:=h
 refine ⟨hB,v,(hb.block b hlt).trans hbk,⟨hown.1,?_⟩,hne⟩
 rcases hown.2 with h0 | ⟨g,cap,cur,fz,h1,h2,h3,h4⟩
 ·exact .inl h0
 ·exact .inr ⟨g,cap,cur,fz,h1,h2,(hb.block g (Qg h3).1).trans h3,h4⟩
theorem Bld.below {b:Nat} {s:ByteArray} {w w':World} (h:Bld b s w) (hb:Below w.heap.size w w'):Bld b s w':=h.elim (λ h=>.inl (BldAt.below h hb)) (λ h=>.inr (BldAt.below h hb))
theorem Bld.fresh (w:World):Bld w.heap.size ⟨#[]⟩ (w.alloc (.cells #[.pointer none,.slice none 0 0] 175)):=
 .inl ⟨Nat.le_refl _,.slice none 0 0,heap_alloc_new w _,World.ownsRowF_nil _ _ _ _,by simp [Value.ownBlock]⟩
theorem Bld.lt {b:Nat} {s:ByteArray} {w:World} (h:Bld b s w):b<w.heap.size:=h.elim (λ h=>h.lt) (λ h=>h.lt)
theorem Bld.of {b:Nat} {bs:List Value} {s:ByteArray} {w w':World} (h:BldTo b b bs w w') (e:bs=Lib.strCells s):Bld b s w':=.inr (e ▸ h.1)
theorem ZjM (s:ByteArray):Lib.strCells s++[.int .u8 32]=Lib.strCells (s++⟨#[32]⟩):=by
 unfold Lib.strCells;rw [ByteArray.data_append,Array.toList_append,List.map_append];rfl
theorem ZkR (s t:ByteArray):Lib.strCells s++Lib.strCells t=Lib.strCells (s++t):=by
 unfold Lib.strCells;rw [ByteArray.data_append,Array.toList_append,List.map_append]
theorem bldByte {b:Nat} {s:ByteArray} {w:World} (h:Bld b s w) (hs:s.size<=1048576) :
  Calls Tryz.prog 162 #[.pointer (some ⟨b,0,none⟩),.int .u8 32] w λ e w'=>e=.returned .nilIface/\Bld b (s++⟨#[32]⟩) w'/\Below b w w'/\Lib.OthersKept 5 (some b) w w':=
 (ZkQ b b _ 32 w h (by rw [Lib.strCells_length];exact hs) (Nat.le_of_lt h.lt)).mono λ e w' ⟨h1,h2⟩=>⟨h1,Bld.of h2 (ZjM s),h2.2.1,h2.2.2⟩
theorem ZiO {b:Nat} {s t:ByteArray} {w:World} (h:Bld b s w) (hs:s.size+t.size<=1048576) :
  Calls Tryz.prog 163 #[.pointer (some ⟨b,0,none⟩),.string t] w λ e w'=>e=.returned (.tuple #[.int .i64 t.size,.nilIface])/\Bld b (s++t) w'/\Below b w w'/\Lib.OthersKept 5 (some b) w w':=
 (bld_text b b _ t w h (by rw [Lib.strCells_length];omega) (Nat.le_of_lt h.lt)).mono λ e w' ⟨h1,h2⟩=>⟨h1,Bld.of h2 (ZkR s t),h2.2.1,h2.2.2⟩
theorem bldLen {b:Nat} {s:ByteArray} {w:World} (h:Bld b s w) :
  Calls Tryz.prog 165 #[.pointer (some ⟨b,0,none⟩)] w λ e w'=>e=.returned (.int .i64 s.size)/\w'=w:=by
 have:=Tryz.Builder_Len_f b b _ w h
 rw [Lib.strCells_length] at this
 exact this
theorem ZnD {b:Nat} {s:ByteArray} {w:World} (h:Bld b s w) :
  Calls Tryz.prog 166 #[.pointer (some ⟨b,0,none⟩)] w λ e w'=>e=.returned (.string s)/\Below b w w':=
 (Tryz.Builder_String_any_k b b s.data.toList w h (Nat.le_of_lt h.lt)).mono λ e w' ⟨h1,h2⟩=>⟨h1,h2.2.1⟩
theorem ZnE {b g:Nat} {arr:Array Value} {ty:TypeId} {fr:Nat × Nat} {w w':World} (hk:Lib.OthersKept 5 (some b) w w') (h:w.heap[g]?=some (.cells arr ty fr)) (hg:g≠b) (hty:ty≠5):w'.heap[g]?=some (.cells arr ty fr):=
 hk g _ h (λ e=>hg (Option.some.inj e)) (λ c fz e=>hty (by simp only [Obj.cells.injEq] at e;exact e.2.1))
/-! ### What stands between the quotes -/
def mid (s:ByteArray):ByteArray:=s.extract 1 (s.size-1)
theorem Zee (s:ByteArray):(mid s).size=s.size-2:=by unfold mid;rw [ByteArray.size_extract];omega
theorem Zl6 {s:ByteArray} {i:Nat} (h:i<(mid s).size):(mid s)[i]=s[i+1]'(by rw [Zee] at h;omega):=by
 have h2:i+1<s.size:=by rw [Zee] at h;omega
 have:(mid s)[i]=s[1+i]'(by omega):=Zgp s 1 (s.size-1) i h
 rw [this]
 have e:1+i=i+1:=by omega
 simp only [e]
theorem mid_one {s:ByteArray} {i:Nat} (h:i<(mid s).size):(mid s).extract i (i+1)=s.extract (i+1) (i+2):=by
 have h2:i+1<s.size:=by rw [Zee] at h;omega
 rw [Zd5 h,Zd5 h2,Zl6 h]
def MidAt (s:ByteArray) (i:Nat) (out:ByteArray):Prop:=OutAt s (i+1) out
theorem MidAt.byte {s:ByteArray} {i:Nat} {out:ByteArray} (h:MidAt s i out) (hi:i<(mid s).size) (hc:¬ (mid s)[i].toNat=92):MidAt s (i+1) (out++(mid s).extract i (i+1)):=by
 have hz:=Zee s
 rw [Zl6 hi] at hc
 rw [mid_one hi]
 exact OutAt.byte h (by omega) hc
theorem MidAt.done {s:ByteArray} {i:Nat} {out:ByteArray} (h:MidAt s i out) (hi:(mid s).size<=i):out=outTo s 1:=OutAt.done h (by have:=Zee s;omega)
theorem MidAt.size {s:ByteArray} {i:Nat} {out:ByteArray} (h:MidAt s i out):out.size<=i+1:=h.2.2.2
theorem Y18A2 {g:Prop} (h:g:=by
 clear HO HQ
 go_wp2_with (first
  | (at_builtin;refine Zda rfl (.tmp 28) (.tmp 29) rfl W1.heap.size _ out ⟨#[92]⟩ 92 rfl hown rfl rfl (by omega) hbs ?_;intro v1 w1 hown1 hg1;have hbel1:=hb.grown hg1 hbs (λ b hb=>(hown.lt b hb).1);have c2:w1.cell? ⟨w.heap.size,1,none⟩=some (.string x.text):=(hbel1.cell (p:=⟨w.heap.size,1,none⟩) hlt1).trans (Qc 1 HX.out))
  | (at_builtin;refine Zda rfl (.tmp 31) (.tmp 36) rfl W1.heap.size _ (out++⟨#[92]⟩) (x.text.extract k (k+1)) _ rfl hown1 rfl hb1 (by rw [ByteArray.size_append];have:(⟨#[92]⟩:ByteArray).size=1:=rfl;omega) hbel1.size ?_;intro v2 w2 hown2 hg2))
 have hbel2:=hbel1.grown hg2 hbel1.size (λ b hb=>(hown1.lt b hb).1)
 go_roundw
 case rel=>exact⟨k+1,_,by go_num,by omega,HN.out,hown2,hbel2⟩
 case measure=>simp [intOf];omega):g:=h
theorem Zif (cs:List Value) (x:Tok) (fp:List Nat) (w:World) (hz:x.text.size<=200) (H:sTok.R w cs x fp) :
  Calls Tryz.prog 164 #[.agg cs.toArray] w (StrOf (bit x) w):=by
 obtain⟨h,rfl,-,-,-⟩:=H
 have hb0:=Zab w (.cells #[.int .i64 x.kind,.string x.text,.bool x.spaced,h] 32)
 have HX:=Qh (heap_alloc_new w (.cells #[.int .i64 x.kind,.string x.text,.bool x.spaced,h] 32))
 by_cases h3:x.kind=3
 rotate_left
 ·have HF:Hid (x.text=bit x):=by show _=_;unfold bit;rw [if_neg h3]
  have hk':(x.kind != 3)=true:=by simp [h3]
  clear h3
  go_enter Tryz.func164,Tryz.ntmps164
  go_wp2
  go_ret
  exact⟨Zfj HF.out,hb0⟩
 have HF:Hid (escTo x.text x.text.size=bit x):=by show _=_;unfold bit;rw [if_pos h3]
 have hk':(x.kind != 3)=false:=by simp [h3]
 clear h3
 go_enter Tryz.func164,Tryz.ntmps164
 go_wp2
 have hs0:(w.alloc (.cells #[.int .i64 x.kind,.string x.text,.bool x.spaced,h] 32)).heap.size=w.heap.size+1:=by show (w.heap.push _).size=_;simp
 have HS0:=Qh hs0
 clear hs0
 generalize (w.alloc (.cells #[.int .i64 x.kind,.string x.text,.bool x.spaced,h] 32))=W1 at *
 go_loopw [3,13] (λ o i wr=>∃ (k:Nat) (out:ByteArray),i=.int .i64 k/\k<=x.text.size/\Hid (out=escTo x.text k)/\Bytes W1.heap.size o out wr/\Below W1.heap.size W1 wr) (λ _ i _=>x.text.size-(intOf i).toNat)
 case atStart=>exact⟨0,_,rfl,by omega,rfl,Bytes.none _ _,Below.refl _ _⟩
 case round =>
  obtain⟨k,out,rfl,hk,HO,hown,hb⟩:=hrel
  have ho:out.size<=2 * k:=by rw [HO.out];exact ZcX _ k
  have hbs:=hb.size
  have hcv:=Zis hown
  have hlt1:w.heap.size<W1.heap.size:=by have:=HS0.out;omega
  have c1:wr.cell? ⟨w.heap.size,1,none⟩=some (.string x.text):=(hb.cell (p:=⟨w.heap.size,1,none⟩) hlt1).trans (Qc 1 HX.out)
  by_cases hlt:k<x.text.size
  ·have hb1:=Zlb x.text k hlt
   rcases q_ways x.text[k] with⟨e1,HQ⟩ | ⟨e1,e2,HQ⟩ | ⟨e1,e2,HQ⟩
   ·have HN:Hid (out++⟨#[92]⟩++x.text.extract k (k+1)=escTo x.text (k+1)):=by show _=_;rw [Zdc hlt HQ.out,HO.out]
    exact Y18A2
   ·have HN:Hid (out++⟨#[92]⟩++x.text.extract k (k+1)=escTo x.text (k+1)):=by show _=_;rw [Zdc hlt HQ.out,HO.out]
    exact Y18A2
   ·have HN:Hid (out++x.text.extract k (k+1)=escTo x.text (k+1)):=by show _=_;rw [ZeT hlt HQ.out,HO.out]
    clear HO HQ
    go_wp2_with (at_builtin;refine Zda rfl (.tmp 31) (.tmp 36) rfl W1.heap.size _ out (x.text.extract k (k+1)) _ rfl hown rfl hb1 (by omega) hbs ?_;intro v2 w2 hown2 hg2)
    have hbel2:=hb.grown hg2 hbs (λ b hb=>(hown.lt b hb).1)
    go_roundw
    case rel=>exact⟨k+1,_,by go_num,by omega,HN.out,hown2,hbel2⟩
    case measure=>simp [intOf];omega
  ·have HD:Hid (out=bit x):=by show _=_;rw [← HF.out,HO.out,show k=x.text.size by omega]
   clear HO
   go_wp2
   go_ret
   exact⟨Zfj HD.out,hb0.trans (hb.mono (by have:=HS0.out;omega))⟩
/-! ### TextToken -/
theorem ZiP (s:ByteArray):Lib.strCells s++[.int .u8 34]=Lib.strCells (s++⟨#[34]⟩):=by
 unfold Lib.strCells;rw [ByteArray.data_append,Array.toList_append,List.map_append];rfl
theorem ZkS {b:Nat} {s:ByteArray} {w:World} (h:Bld b s w) (hs:s.size<=1048576) :
  Calls Tryz.prog 162 #[.pointer (some ⟨b,0,none⟩),.int .u8 34] w λ e w'=>e=.returned .nilIface/\Bld b (s++⟨#[34]⟩) w'/\Below b w w'/\Lib.OthersKept 5 (some b) w w':=
 (ZkQ b b _ 34 w h (by rw [Lib.strCells_length];exact hs) (Nat.le_of_lt h.lt)).mono λ e w' ⟨h1,h2⟩=>⟨h1,Bld.of h2 (ZiP s),h2.2.1,h2.2.2⟩
def qTo (l:List Tok) (k:Nat):ByteArray:=⟨#[34]⟩++ZaA l k
theorem qTo_size {l:List Tok} (h:Zaj l=true) {k:Nat} (hk:k<=l.length):(qTo l k).size<=401 * k+1:=by
 have:=Zdo h k hk
 have h1:(⟨#[34]⟩:ByteArray).size=1:=rfl
 unfold qTo;rw [ByteArray.size_append];omega
theorem qTo_sp {l:List Tok} {k:Nat} (hk:k<l.length) (h0:0<k) (h:l[k].spaced=true):qTo l (k+1)=qTo l k++⟨#[32]⟩++bit l[k]:=by
 unfold qTo;rw [ZcJ hk h0 h,ByteArray.append_assoc,ByteArray.append_assoc,ByteArray.append_assoc]
theorem qTo_no {l:List Tok} {k:Nat} (hk:k<l.length) (h:¬ (0<k/\l[k].spaced=true)):qTo l (k+1)=qTo l k++bit l[k]:=by
 unfold qTo;rw [ZbY hk h,ByteArray.append_assoc]
theorem qTo_zero (l:List Tok):(⟨#[]⟩:ByteArray)++⟨#[34]⟩=qTo l 0:=rfl
theorem qTo_end (l:List Tok):qTo l l.length++⟨#[34]⟩=quoted (ZaA l l.length):=rfl
theorem ZiQ (v:Value) (l:List Tok) (fp:List Nat) (w:World) (H:(Zaa sTok).R w [v] l fp) :
  Calls Tryz.prog 154 #[v] w (TextOf l w):=by
 have hz0:=Zab w (.cells #[.int .i64 0,.string ⟨#[]⟩,.bool false,.slice none 0 0] 32)
 have HZ:=Qh (heap_alloc_new w (.cells #[.int .i64 0,.string ⟨#[]⟩,.bool false,.slice none 0 0] 32))
 have hs0:(w.alloc (.cells #[.int .i64 0,.string ⟨#[]⟩,.bool false,.slice none 0 0] 32)).heap.size=w.heap.size+1:=by show (w.heap.push _).size=_;simp
 have HL0:=(Zaa sTok).below H hz0
 have HV:=Qh (Zbg v l fp _ HL0)
 obtain⟨a,cap,rfl,hc,hm,hrow⟩:=Zac HL0
 unfold maxLen at hm
 clear H HL0
 cases hv:Zaj l
 ·have HF:=Qh (Zjg hv)
  rw [hv] at HV
  clear hv hs0
  go_enter Tryz.func154,Tryz.ntmps154
  go_wp2_with fail
  refine HV.out.mono ?_
  rintro e w2 ⟨rfl,hb2⟩
  have hB2:=hz0.trans (hb2.mono hz0.size)
  replace HZ:=Qh (mbox HZ.out hb2)
  clear HV hb2 hz0
  have z0:=Qc 0 HZ.out
  have zf0:=Qf 0 HZ.out
  have z1:=Qc 1 HZ.out
  have zf1:=Qf 1 HZ.out
  have z2:=Qc 2 HZ.out
  have zf2:=Qf 2 HZ.out
  have z3:=Qc 3 HZ.out
  have zf3:=Qf 3 HZ.out
  have HS:=Qh (Zai (Zai (Zai (Zai HZ.out 0 (.int .i64 0)) 1 (.string ⟨#[]⟩)) 2 (.bool false)) 3 (.slice none 0 0))
  have HBF:=Qh ((((hB2.setCell (p:=⟨w.heap.size,0,none⟩) (Nat.le_refl _) (.int .i64 0)).setCell (p:=⟨w.heap.size,1,none⟩) (Nat.le_refl _) (.string ⟨#[]⟩)).setCell (p:=⟨w.heap.size,2,none⟩) (Nat.le_refl _) (.bool false)).setCell (p:=⟨w.heap.size,3,none⟩) (Nat.le_refl _) (.slice none 0 0))
  go_wp2
  refine bodyPost_ret (Zat rfl _ _ w.heap.size _ _ _ _ rfl HS.out Tryz.underlying32 rfl (by kernel_rfl)) rfl ?_
  exact Zes HF.out HBF.out
 rw [hv] at HV
 have HOK:=Qh (Zan hv)
 have hlen:=HOK.out.1
 have HSZ:=Qh (λ k hk=>qTo_size hv (k:=k) hk)
 have HY:=Qh (λ h=>ZhU (l:=l) hv rfl h)
 have HG:=Qh (λ h=>ZgT (l:=l) hv rfl h)
 have HQL:=Qh (ZgV hv)
 have HVD:=Qh hv
 clear hv
 go_enter Tryz.func154,Tryz.ntmps154
 go_wp2_with fail
 refine HV.out.mono ?_
 rintro e w1 ⟨rfl,hb1⟩
 have hB1:=hz0.trans (hb1.mono hz0.size)
 replace HZ:=Qh (mbox HZ.out hb1)
 have hgz:w.heap.size<w1.heap.size:=by have:=hb1.size;omega
 have HROW:Hid (∀ k,(hk:k<l.length)->∃ b1 off1 h1 fpk,a=some ⟨b1,off1,none⟩/\b1<w1.heap.size/\ElemAt w1 b1 off1 4 k [.int .i64 l[k].kind,.string l[k].text,.bool l[k].spaced,h1]/\sTok.R w1 [.int .i64 l[k].kind,.string l[k].text,.bool l[k].spaced,h1] l[k] fpk):=λ k hk=>by
  obtain⟨b1,off1,fps1,rfl,hb1',-,he1⟩:=hrow (by omega)
  obtain⟨es1,hE1,hR1⟩:=he1 k hk
  have hR1':=hR1
  obtain⟨h1,rfl,-,-,-⟩:=hR1
  exact⟨b1,off1,h1,_,rfl,Nat.lt_of_lt_of_le hb1' hb1.size,hE1.frame (hb1.block b1 hb1'),sTok.below hR1' hb1⟩
 clear hrow HV hb1 hz0 hs0
 have HB0:=Qh (Bld.fresh w1)
 have hb2:=Zab w1 (.cells #[.pointer none,.slice none 0 0] 175)
 go_wp2_with fail
 refine (ZkS HB0.out (by show (0:Nat)<=_;omega)).mono ?_
 rintro e w2 ⟨rfl,hB2,hb3,-⟩
 have hb4:=hb2.trans (hb3.mono (Nat.le_refl _))
 rw [qTo_zero l] at hB2
 replace HB0:=Qh hB2
 clear hb2 hb3 hB2
 go_wp2_with fail
 go_loopw [14] (λ i wr=>∃ (k:Nat),k<=l.length/\i=.int .i64 k/\Hid (Bld w1.heap.size (qTo l k) wr)/\Below w1.heap.size w1 wr) (λ i _=>l.length-(intOf i).toNat)
 case atStart=>exact⟨0,by omega,rfl,HB0,hb4⟩
 case round =>
  obtain⟨k,hk,rfl,HB,hb⟩:=hrel
  clear HB0 hb4
  by_cases hlt:k<l.length
  ·obtain⟨b1,off1,h1,fpk,rfl,hb1',hE1,hR1⟩:=HROW.out k hlt
   replace hE1:=hE1.frame (hb.block b1 hb1')
   have c10:wr.cell? ⟨b1,off1+k * 4,none⟩=some _:=Zam hE1 (by decide) rfl
   have c11:wr.cell? ⟨b1,off1+k * 4+1,none⟩=some _:=Zae (j:=1) hE1 (by decide) rfl
   have c12:wr.cell? ⟨b1,off1+k * 4+2,none⟩=some _:=Zae (j:=2) hE1 (by decide) rfl
   have c13:wr.cell? ⟨b1,off1+k * 4+3,none⟩=some _:=Zae (j:=3) hE1 (by decide) rfl
   have hsz1:=(ZaP (HOK.out.2 k hlt)).2
   have hbz:=Zkk l[k]
   have hso:=HSZ.out k hk
   have HT:Hid (∀ W,Below w1.heap.size w1 W->Calls Tryz.prog 164 #[.agg #[.int .i64 l[k].kind,.string l[k].text,.bool l[k].spaced,h1]] W (StrOf (bit l[k]) W)):=λ W hW=>Zif _ l[k] _ W hsz1 (sTok.below hR1 hW)
   obtain⟨ah,caph,rfl⟩:∃ ah caph,h1=.slice ah l[k].hidden.length caph:=by
    obtain⟨h',e',-,-,K⟩:=hR1
    obtain⟨ah,caph,e2,-⟩:=Zac K
    simp only [List.cons.injEq,and_true,true_and] at e'
    exact⟨ah,caph,by rw [e',e2]⟩
   have hbx:Below wr.heap.size wr (wr.alloc (.cells #[.int .i64 l[k].kind,.string l[k].text,.bool l[k].spaced,.slice ah l[k].hidden.length caph] 32)):=Zab _ _
   have HX:=Qh (heap_alloc_new wr (.cells #[.int .i64 l[k].kind,.string l[k].text,.bool l[k].spaced,.slice ah l[k].hidden.length caph] 32))
   have HB1:=Qh (HB.out.below hbx)
   have hlw:=HB.out.lt
   have hbw:=hb.trans (hbx.mono hb.size)
   have hne:wr.heap.size≠w1.heap.size:=by omega
   clear hE1 hR1 hbx
   by_cases h0:k=0
   ·have h00:¬ (0:Int)<(k:Int):=by omega
    have h01:decide ((0:Int)<(k:Int))=false:=by simp;omega
    have h02:decide (0<k)=false:=by simp;omega
    have HNS:Hid (¬ (0<k/\l[k].spaced=true)):=λ h=>by omega
    clear h0
    have HN:=Qh (qTo_no hlt HNS.out)
    go_wp2_with fail
    refine (HT.out _ hbw).mono ?_
    rintro e w3 ⟨rfl,hb3⟩
    have HB3:=Qh (HB1.out.below hb3)
    have hbw3:=hbw.trans (hb3.mono hbw.size)
    clear c10 c11 c12 c13 hb3
    go_wp2_with fail
    refine (ZiO HB3.out (by omega)).mono ?_
    rintro e w4 ⟨rfl,hB4,hb4,-⟩
    rw [← HN.out] at hB4
    have hbw4:=hbw3.trans (hb4.mono (Nat.le_refl _))
    go_wp2
    go_roundw
    case rel=>exact⟨k+1,by omega,by go_num,hB4,hbw4⟩
    case measure=>simp [intOf];omega
   ·have h00:(0:Int)<(k:Int):=by omega
    have h01:decide ((0:Int)<(k:Int))=true:=by simp;omega
    have h02:decide (0<k)=true:=by simp;omega
    cases hsp:l[k].spaced
    ·have HNS:Hid (¬ (0<k/\l[k].spaced=true)):=λ h=>by rw [hsp] at h;exact absurd h.2 (by simp)
     rw [hsp] at c12 HT HX HB1 hbw
     have HN:=Qh (qTo_no hlt HNS.out)
     go_wp2_with fail
     refine (HT.out _ hbw).mono ?_
     rintro e w3 ⟨rfl,hb3⟩
     have HB3:=Qh (HB1.out.below hb3)
     have hbw3:=hbw.trans (hb3.mono hbw.size)
     clear c10 c11 c12 c13 hb3
     go_wp2_with fail
     refine (ZiO HB3.out (by omega)).mono ?_
     rintro e w4 ⟨rfl,hB4,hb4,-⟩
     rw [← HN.out] at hB4
     have hbw4:=hbw3.trans (hb4.mono (Nat.le_refl _))
     go_wp2
     go_roundw
     case rel=>exact⟨k+1,by omega,by go_num,hB4,hbw4⟩
     case measure=>simp [intOf];omega
    ·have HN:=Qh (qTo_sp hlt (by omega) hsp)
     rw [hsp] at c12 HT HX HB1 hbw
     go_wp2_with fail
     refine (bldByte HB1.out (by omega)).mono ?_
     rintro e w3 ⟨rfl,hB3,hb3,hk3⟩
     have hbw3:=hbw.trans (hb3.mono (Nat.le_refl _))
     have HX3:=Qh (ZnE hk3 HX.out hne (by decide))
     have q0:=Qc 0 HX3.out
     have q1:=Qc 1 HX3.out
     have q2:=Qc 2 HX3.out
     have q3:=Qc 3 HX3.out
     have HB3:=Qh hB3
     have h32:(qTo l k++(⟨#[32]⟩:ByteArray)).size<=401 * k+2:=by rw [ByteArray.size_append];have:(⟨#[32]⟩:ByteArray).size=1:=rfl;omega
     have H32:=Qh h32
     clear c10 c11 c12 c13 hb3 hk3 hB3 h32
     go_wp2_with fail
     refine (HT.out _ hbw3).mono ?_
     rintro e w4 ⟨rfl,hb4⟩
     have HB4:=Qh (HB3.out.below hb4)
     have hbw4:=hbw3.trans (hb4.mono hbw3.size)
     clear q0 q1 q2 q3 hb4
     go_wp2_with fail
     refine (ZiO HB4.out (by have:=H32.out;omega)).mono ?_
     rintro e w5 ⟨rfl,hB5,hb5,-⟩
     rw [← HN.out] at hB5
     have hbw5:=hbw4.trans (hb5.mono (Nat.le_refl _))
     go_wp2
     go_roundw
     case rel=>exact⟨k+1,by omega,by go_num,hB5,hbw5⟩
     case measure=>simp [intOf];omega
  ·have hso:=HSZ.out k hk
   have hkl:k=l.length:=by omega
   have HE:Hid (qTo l k++⟨#[34]⟩=quoted (ZaA l l.length)):=by show _=_;rw [hkl];exact qTo_end l
   clear hkl
   go_wp2_with fail
   refine (ZkS HB.out (by omega)).mono ?_
   rintro e w3 ⟨rfl,hB3,hb3,-⟩
   rw [HE.out] at hB3
   have HQL2:=HQL.out
   generalize quoted (ZaA l l.length)=Q at *
   have HL:=Qh (bldLen hB3)
   have HS:=Qh (ZnD hB3)
   have hb5:=hb.trans (hb3.mono (Nat.le_refl _))
   have hbB:=hB1.trans (hb5.mono hB1.size)
   replace HZ:=Qh (mbox HZ.out hb5)
   have hQ:Q.size<=50000:=HQL2
   clear hb3 hB3 HQL2
   by_cases hbig:200<Q.size
   ·have HF:=Qh (HG.out hbig)
    clear HG HY
    go_wp2_with fail
    refine HL.out.mono ?_
    rintro e w4 ⟨rfl,rfl⟩
    clear HL HS
    have z0:=Qc 0 HZ.out
    have zf0:=Qf 0 HZ.out
    have z1:=Qc 1 HZ.out
    have zf1:=Qf 1 HZ.out
    have z2:=Qc 2 HZ.out
    have zf2:=Qf 2 HZ.out
    have z3:=Qc 3 HZ.out
    have zf3:=Qf 3 HZ.out
    have HS:=Qh (Zai (Zai (Zai (Zai HZ.out 0 (.int .i64 0)) 1 (.string ⟨#[]⟩)) 2 (.bool false)) 3 (.slice none 0 0))
    have HBF:=Qh ((((hbB.setCell (p:=⟨w.heap.size,0,none⟩) (Nat.le_refl _) (.int .i64 0)).setCell (p:=⟨w.heap.size,1,none⟩) (Nat.le_refl _) (.string ⟨#[]⟩)).setCell (p:=⟨w.heap.size,2,none⟩) (Nat.le_refl _) (.bool false)).setCell (p:=⟨w.heap.size,3,none⟩) (Nat.le_refl _) (.slice none 0 0))
    go_wp2
    refine bodyPost_ret (Zat rfl _ _ w.heap.size _ _ _ _ rfl HS.out Tryz.underlying32 rfl (by kernel_rfl)) rfl ?_
    exact Zes HF.out HBF.out
   ·have HF:=Qh (HY.out hbig)
    clear HG HY
    go_wp2_with fail
    refine HL.out.mono ?_
    rintro e w4 ⟨rfl,rfl⟩
    go_wp2_with fail
    refine HS.out.mono ?_
    rintro e w5 ⟨rfl,hb6⟩
    have hbC:=hbB.trans (hb6.mono (by omega))
    replace HZ:=Qh ((hb6.block _ hgz).trans HZ.out)
    clear HL HS hb6
    have z0:=Qc 0 HZ.out
    have zf0:=Qf 0 HZ.out
    have z1:=Qc 1 HZ.out
    have zf1:=Qf 1 HZ.out
    have z2:=Qc 2 HZ.out
    have zf2:=Qf 2 HZ.out
    have z3:=Qc 3 HZ.out
    have zf3:=Qf 3 HZ.out
    have HS:=Qh (Zai (Zai (Zai (Zai HZ.out 0 (.int .i64 3)) 1 (.string Q)) 2 (.bool false)) 3 (.slice none 0 0))
    have HBF:=Qh ((((hbC.setCell (p:=⟨w.heap.size,0,none⟩) (Nat.le_refl _) (.int .i64 3)).setCell (p:=⟨w.heap.size,1,none⟩) (Nat.le_refl _) (.string Q)).setCell (p:=⟨w.heap.size,2,none⟩) (Nat.le_refl _) (.bool false)).setCell (p:=⟨w.heap.size,3,none⟩) (Nat.le_refl _) (.slice none 0 0))
    go_wp2
    refine bodyPost_ret (Zat rfl _ _ w.heap.size _ _ _ _ rfl HS.out Tryz.underlying32 rfl (by kernel_rfl)) rfl ?_
    exact ZhZ HF.out HBF.out (by omega)
def Zl7 (P:List Tok × Nat × Bool) (w:World) (e:Ending) (w':World):Prop:=
 ∃ (v:Value) (L:List (Elem Tok)),e=.returned (.tuple #[v,.int .i64 (P.2.1:Nat),.bool P.2.2])/\RowN sTok w.heap.size 32 v L w'/\L.map (·.d)=P.1/\Own w' w.heap.size (L.flatMap (·.fp))/\Below w.heap.size w w'
theorem Y18A3 {g:Prop} (h:g:=by
 try simp only [Qp]
 refine Qr 5 rfl (λ K hK=>?_)
 go_simp
 refine (HSP.out _ hcs).mono ?_
 rintro e w9 ⟨v9,L9,rfl,HR9,HD9,HO9,hb9⟩
 have hx9:=hcs.trans (hb9.mono hcs.size)
 have hbx:=b2.trans (hx9.mono b2.size)
 have HRF:=Qh (HR9.lower (base':=w.heap.size) (Nat.le_trans b2.size hcs.size))
 have HOF:=Qh (HO9.lower (lo':=w.heap.size) (Nat.le_trans b2.size hcs.size))
 have HDF:=Qh HD9
 clear HR9 HD9 HO9
 refine hK.out _ _ (HS.out _ hx9) (λ hHeld=>?_)
 clear hK K
 try simp only [Qp]
 refine Qt 8 8 rfl rfl ?_
 try simp only [Qp]
 refine Qt 9 9 rfl rfl ?_
 try simp only [Qp]
 refine Qt 10 10 rfl rfl ?_
 try simp only [Qp]
 refine wpAnyH_done (by kernel_rfl) ?_ _
 refine NoPanic.normal ?_
 clear hHeld HS HSP
 go_wp2
 go_ret3
 exact⟨v9,L9,by rw [HF.out];rfl,HRF.out,by rw [HDF.out,HF.out,HAR.out],HOF.out,hbx⟩):g:=h
theorem Y18A4 {g:Prop} (h:g:=by
 clear RL bl
 go_wp2_with fail
 refine HC.out.mono ?_
 rintro e w9 ⟨v9,L9,rfl,HR9,HD9,HO9,hb9⟩
 have HRF:=Qh (HR9.lower (base':=w.heap.size) hbl.size)
 have HOF:=Qh (HO9.lower (lo':=w.heap.size) hbl.size)
 have HDF:=Qh HD9
 have hbx:=hbl.trans (hb9.mono hbl.size)
 clear HR9 HD9 HO9 HC hb9 hbl
 go_wp2
 go_ret3
 exact⟨v9,L9,by rw [HF.out];rfl,HRF.out,by rw [HDF.out,HF.out];rfl,HOF.out,hbx⟩):g:=h
theorem ZkT (csM:List Value) (m:DMacro) (fpM:List Nat) (vr vy:Value) (raw ready:List (List Tok)) (fpr fpy:List Nat) (k:Nat) (w:World) (hv:macOk m=true) (ha:Zas m raw=true) (hy:Zas m ready=true) (hk:k<m.body.length)
  (HM:sMacro.R w csM m fpM) (Hr:(Zaa (Zaa sTok)).R w [vr] raw fpr) (Hy:(Zaa (Zaa sTok)).R w [vy] ready fpy) :
  Calls Tryz.prog 139 #[.agg csM.toArray,vr,vy,.int .i64 k] w (Zl7 (ZaC m raw ready k) w):=by
 have HM0:=HM
 obtain⟨h2,h3,q2,q3,rfl,-,K2,K3,hfpM⟩:=HM
 obtain⟨a2,c2,rfl,-⟩:=Zaf K2
 obtain⟨a3,c3,rfl,hc3,hm3,hrow3⟩:=Zac K3
 obtain⟨bb,ob,-,rfl,-,-,-⟩:=hrow3 (by omega)
 unfold maxLen at hm3
 have hlen20:m.body.length<=20:=(ZaJ hv).1.2.2.2.2
 have hraw:Hid (raw.length=m.params.length):=by show _=_;unfold Zas at ha;rw [Bool.and_eq_true,decide_eq_true_eq] at ha;exact ha.1
 have hrdy:Hid (ready.length=m.params.length):=by show _=_;unfold Zas at hy;rw [Bool.and_eq_true,decide_eq_true_eq] at hy;exact hy.1
 have HRA:Hid (∀ l∈raw,Zaj l=true):=Zfl ha
 have HYA:Hid (∀ l∈ready,Zaj l=true):=Zfl hy
 obtain⟨ak,ck,fk,e0,e1,e2,e3,Rk,hbb,hfk⟩:=ZaB K3 hk
 have HV:=Qh hv
 have HIM:Hid (isM m.body[k] [35]=(m.body[k].text.toList==[35])):=Zfm hv hk []
 have HIX:Hid (idxTx m.params m.body[k].text 0=parOf m.params m.body[k]):=Zkw hv hk
 have HHK:Hid (m.body[k].hidden.length<=2000000):=by show _<=_;rw [(Zb8 hk ((ZaJ hv).2.2 k hk)).2.1];simp
 have b0:=Zab w (.cells #[.string m.name,.bool m.function,.slice a2 m.params.length c2,.slice (some ⟨bb,ob,none⟩) m.body.length c3] 56)
 have b1:=Zab (w.alloc (.cells #[.string m.name,.bool m.function,.slice a2 m.params.length c2,.slice (some ⟨bb,ob,none⟩) m.body.length c3] 56)) (.cells #[.int .i64 m.body[k].kind,.string m.body[k].text,.bool m.body[k].spaced,.slice ak m.body[k].hidden.length ck] 32)
 have b2:Below w.heap.size w ((w.alloc (.cells #[.string m.name,.bool m.function,.slice a2 m.params.length c2,.slice (some ⟨bb,ob,none⟩) m.body.length c3] 56)).alloc (.cells #[.int .i64 m.body[k].kind,.string m.body[k].text,.bool m.body[k].spaced,.slice ak m.body[k].hidden.length ck] 32)):=b0.trans (b1.mono b0.size)
 have HX:=Qh (Zb2 w #[.string m.name,.bool m.function,.slice a2 m.params.length c2,.slice (some ⟨bb,ob,none⟩) m.body.length c3] #[.int .i64 m.body[k].kind,.string m.body[k].text,.bool m.body[k].spaced,.slice ak m.body[k].hidden.length ck] 56 32)
 have g0:(w.alloc (.cells #[.string m.name,.bool m.function,.slice a2 m.params.length c2,.slice (some ⟨bb,ob,none⟩) m.body.length c3] 56)).cell? ⟨bb,ob+k * 4,none⟩=some _:=(b0.cell (p:=⟨bb,ob+k * 4,none⟩) hbb).trans e0
 have g1:(w.alloc (.cells #[.string m.name,.bool m.function,.slice a2 m.params.length c2,.slice (some ⟨bb,ob,none⟩) m.body.length c3] 56)).cell? ⟨bb,ob+k * 4+1,none⟩=some _:=(b0.cell (p:=⟨bb,ob+k * 4+1,none⟩) hbb).trans e1
 have g2:(w.alloc (.cells #[.string m.name,.bool m.function,.slice a2 m.params.length c2,.slice (some ⟨bb,ob,none⟩) m.body.length c3] 56)).cell? ⟨bb,ob+k * 4+2,none⟩=some _:=(b0.cell (p:=⟨bb,ob+k * 4+2,none⟩) hbb).trans e2
 have g3:(w.alloc (.cells #[.string m.name,.bool m.function,.slice a2 m.params.length c2,.slice (some ⟨bb,ob,none⟩) m.body.length c3] 56)).cell? ⟨bb,ob+k * 4+3,none⟩=some _:=(b0.cell (p:=⟨bb,ob+k * 4+3,none⟩) hbb).trans e3
 have HRk:=Qh (sTok.below Rk b2)
 have HMr:=Qh (sMacro.below HM0 b2)
 have HRR:=Qh ((Zaa (Zaa sTok)).below Hr b2)
 have HYY:=Qh ((Zaa (Zaa sTok)).below Hy b2)
 have HB2:=Qh ((Zaa sTok).below K3 b2)
 have HP2:=Qh ((Zaa sStr).below K2 b2)
 have hi0:(0:Int)<=(k:Int):=by omega
 have hi1:(k:Int)<(m.body.length:Int):=by omega
 have hs2:((w.alloc (.cells #[.string m.name,.bool m.function,.slice a2 m.params.length c2,.slice (some ⟨bb,ob,none⟩) m.body.length c3] 56)).alloc (.cells #[.int .i64 m.body[k].kind,.string m.body[k].text,.bool m.body[k].spaced,.slice ak m.body[k].hidden.length ck] 32)).heap.size=w.heap.size+2:=by show ((w.heap.push _).push _).size=_;simp
 clear HM0 K2 K3 Hr Hy Rk b0 b1 e0 e1 e2 e3 hv ha hy hfk hfpM hrow3
 go_enter Tryz.func139,Tryz.ntmps139
 go_upto_region 2 with fail
 clear g0 g1 g2 g3
 have hbs:=b2.size
 clear hs2
 generalize ((w.alloc (.cells #[.string m.name,.bool m.function,.slice a2 m.params.length c2,.slice (some ⟨bb,ob,none⟩) m.body.length c3] 56)).alloc (.cells #[.int .i64 m.body[k].kind,.string m.body[k].text,.bool m.body[k].spaced,.slice ak m.body[k].hidden.length ck] 32))=W2 at *
 go_cut [26] from 15 (λ d wr=>d=.bool (m.function && isM m.body[k] [35])/\wr=W2)
 case first =>
  obtain⟨p0,p1,p2,p3⟩:=Q4 HX.out.1
  rcases Bool.eq_false_or_eq_true m.function with hf | hf
  ·have HFN:=Qh hf
   rw [hf] at p1
   clear hf
   obtain⟨q0,q1,q2,q3⟩:=Q4 HX.out.2
   go_wp2
   go_meet
   case rel=>exact⟨by rw [HFN.out,HIM.out];rfl,by trivial⟩
  ·have HFN:=Qh hf
   rw [hf] at p1
   clear hf
   go_wp2
   go_meet
   case rel=>exact⟨by rw [HFN.out];rfl,by trivial⟩
 obtain⟨rfl,rfl⟩:=hcut
 generalize wc=W2 at *
 cases hfi:(m.function && isM m.body[k] [35])
 rotate_left
 ·skip
  obtain⟨hft,hmt⟩:=Bool.and_eq_true_iff.1 hfi
  obtain⟨hk1,n,hn,hnp⟩:=Zf5 HV.out hk hft hmt
  have hnr:n<raw.length:=by have:=hraw.out;omega
  have HAR:=Qh (Zdd (a:=raw) hn hnr)
  have HPN:=Qh hn
  obtain⟨kk,s,okb,hx,hkk0,hkk4,hsz⟩:=Zdf raw[n]
  have HX0:=Qh hx
  have HF:=Qh (Zf3 (raw:=raw) (ready:=ready) hk1 hft hmt (u:=⟨kk,s,false,[]⟩) (o:=okb) (by rw [HAR.out];exact hx))
  obtain⟨ya,yc,yf,-,y1,-,-,-,ybb,-⟩:=ZaB HB2.out hk1
  obtain⟨ar,cr,rfl,-,-,hrowR⟩:=Zac HRR.out
  obtain⟨br,orr,-,rfl,-,-,-⟩:=hrowR (by omega)
  obtain⟨aj,cj,fj,dq,Rj,hbr,-⟩:=ZbX HRR.out hnr
  have HLP:Hid (∀ (U:World),Below W2.heap.size W2 U->Calls Tryz.prog 116 #[.slice a2 m.params.length c2,.string (m.body[k+1]'hk1).text] U λ e w'=>e=.returned (.int .i64 (n:Nat))/\w'=U):=λ U hU=>by have:=ZfZ _ m.params q2 (m.body[k+1]'hk1).text U ((Zaa sStr).below HP2.out hU);rw [Zkw HV.out hk1,hn] at this;exact this
  have HTT:=Qh (λ (U:World) (hU:Below W2.heap.size W2 U)=>ZiQ _ raw[n] fj U ((Zaa sTok).below Rj hU))
  have HS:Hid (∀ U:World,Below W2.heap.size W2 U->U.heap[w.heap.size]?=some (.cells #[.string m.name,.bool m.function,.slice a2 m.params.length c2,.slice (some ⟨bb,ob,none⟩) m.body.length c3] 56 (0,0))/\U.cell? ⟨bb,ob+(k+1) * 4+1,none⟩=some (.string (m.body[k+1]'hk1).text)/\U.cell? ⟨br,orr+n,none⟩=some (.slice aj raw[n].length cj)):=λ U hU=>⟨mbox HX.out.1 hU,(hU.cell (by show bb<W2.heap.size;omega)).trans y1,(hU.cell (by show br<W2.heap.size;omega)).trans dq⟩
  have hcs:Below W2.heap.size W2 W2.drew:=Zag (Below.refl _ _) 1
  have hw1:IntKind.i64.wrap ((k:Int)+1)=(k:Int)+1:=IntWalk.i64_in _ (by omega)
  have j1:(0:Int)<=(k:Int)+1:=by omega
  have j2:(k:Int)+1<(m.body.length:Int):=by omega
  have j3:((k:Int)+1).toNat=k+1:=by omega
  have j4:(0:Int)<=(n:Int):=by omega
  have j5:(n:Int)<(raw.length:Int):=by omega
  have hbmm:0<m.body.length:=by omega
  clear hx hn hft hmt hfi y1 dq Rj hrowR
  go_upto_region 3 with fail
  go_cut [12,13] from 15 (λ d b wr=>∃ (gB:Nat) (ax:Option Addr) (cx:Nat),d=.pointer (some ⟨gB,0,none⟩)/\b=.bool okb/\wr.heap[gB]?=some (.cells #[.int .i64 kk,.string s,.bool false,.slice ax 0 cx] 32 (0,0))/\W2.heap.size<=gB/\gB<wr.heap.size/\cx<=maxLen/\Below W2.heap.size W2 wr)
  case first =>
   refine wp_region_noPanic ?_
   refine wp_region_held_drew (S:=λ w'=>w'.heap[w.heap.size]?=some (.cells #[.string m.name,.bool m.function,.slice a2 m.params.length c2,.slice (some ⟨bb,ob,none⟩) m.body.length c3] 56 (0,0))/\w'.cell? ⟨bb,ob+(k+1) * 4+1,none⟩=some (.string (m.body[k+1]'hk1).text)/\w'.cell? ⟨br,orr+n,none⟩=some (.slice aj raw[n].length cj)) (by kernel_rfl) (by exact HS.out _ hcs) (λ hHeld=>?_)
   generalize W2.drew=wd at *
   refine Qt 0 28 rfl rfl ?_
   try simp only [Qp]
   refine Qt 1 29 rfl rfl ?_
   try simp only [Qp]
   refine Qt 2 30 rfl rfl ?_ (by intro w hSw;obtain⟨sm,s1,sr⟩:=hSw;have m2:=Qc 2 sm;have m3:=Qc 3 sm;go_simp;(first | done | with_reducible rfl | rfl))
   try simp only [Qp]
   refine Qt 3 31 rfl rfl ?_
   try simp only [Qp]
   refine Qt 4 32 rfl rfl ?_ (by intro w hSw;obtain⟨sm,s1,sr⟩:=hSw;have m2:=Qc 2 sm;have m3:=Qc 3 sm;go_simp;(first | done | with_reducible rfl | rfl))
   try simp only [Qp]
   refine Qt 5 33 rfl rfl ?_
   try simp only [Qp]
   refine Qt 6 34 rfl rfl ?_
   try simp only [Qp]
   refine Qt 7 35 rfl rfl ?_
   try simp only [Qp]
   refine Qt 8 36 rfl rfl ?_
   try simp only [Qp]
   refine Qt 9 37 rfl rfl ?_ (by intro w hSw;obtain⟨sm,s1,sr⟩:=hSw;have m2:=Qc 2 sm;have m3:=Qc 3 sm;go_simp;(first | done | with_reducible rfl | rfl))
   try simp only [Qp]
   refine wpAnyH_ready (rs:=[10,17]) (by kernel_rfl) (by simp) ?_
   refine AllReadyH.cons rfl (λ K hK=>?_) ?_
   ·skip
    go_simp
    refine (HLP.out _ hcs).mono ?_
    rintro e wx1 ⟨rfl,rfl⟩
    have hx1:=hcs
    refine hK.out _ _ (HS.out _ hx1) (λ hHeld=>?_)
    clear hK K
    try simp only [Qp]
    refine Qt 11 39 rfl rfl ?_
    try simp only [Qp]
    refine Qt 12 40 rfl rfl ?_ (by intro w hSw;obtain⟨sm,s1,sr⟩:=hSw;have m2:=Qc 2 sm;have m3:=Qc 3 sm;go_simp;(first | done | with_reducible rfl | rfl))
    try simp only [Qp]
    refine wpAnyH_ready (rs:=[13,17]) (by kernel_rfl) (by simp) ?_
    refine AllReadyH.cons rfl (λ K hK=>?_) ?_
    ·skip
     go_simp
     refine (HTT.out _ hx1).mono ?_
     rintro e wx2 hT2
     obtain⟨k9,s9,b9,ax,cx,e9,rfl,-,-,-,hcx,br2⟩:=hT2.bare
     rw [HX0.out] at e9
     simp only [Prod.mk.injEq,Tok.mk.injEq,and_true] at e9
     obtain⟨⟨rfl,rfl⟩,rfl⟩:=e9
     have hx2:=hx1.trans (br2.mono hx1.size)
     refine hK.out _ _ (HS.out _ hx2) (λ hHeld=>?_)
     clear hK K
     try simp only [Qp]
     refine Qt 14 27 rfl rfl ?_
     try simp only [Qp]
     refine Qt 15 42 rfl rfl ?_
     try simp only [Qp]
     refine Qt 16 43 rfl rfl ?_
     try simp only [Qp]
     refine Qr 17 rfl (λ K hK=>?_)
     go_simp
     have bk:=Zab wx2 (.cells #[.int .i64 0,.string ⟨#[]⟩,.bool false,.slice none 0 0] 32)
     have HB:=Qh (heap_alloc_new wx2 (.cells #[.int .i64 0,.string ⟨#[]⟩,.bool false,.slice none 0 0] 32))
     have hx3:=hx2.trans (bk.mono hx2.size)
     have hge:=hx2.size
     refine hK.out _ _ (HS.out _ hx3) (λ hHeld=>?_)
     clear hK K bk
     try simp only [Qp]
     generalize (wx2.alloc (.cells #[.int .i64 0,.string ⟨#[]⟩,.bool false,.slice none 0 0] 32))=wx3 at *
     have zc0:=Qc 0 HB.out
     have zf0:=Qf 0 HB.out
     have zc1:=Qc 1 HB.out
     have zf1:=Qf 1 HB.out
     have zc2:=Qc 2 HB.out
     have zf2:=Qf 2 HB.out
     have zc3:=Qc 3 HB.out
     have zf3:=Qf 3 HB.out
     have HD1:=Qh (ZaH HB.out (.int .i64 kk) (.string s) (.bool false) (.slice ax 0 cx))
     have HD2:=Qh (Zav (g:=wx2.heap.size) hx3 hge (.int .i64 kk) (.string s) (.bool false) (.slice ax 0 cx))
     have HD3:Hid (wx2.heap.size<(set4 wx3 (wx2.heap.size) (.int .i64 kk) (.string s) (.bool false) (.slice ax 0 cx)).heap.size):=by show _<_;rw [ZbM];exact mlt HB.out
     refine Qr 18 rfl (λ K hK=>?_)
     go_simp
     change K _ (set4 wx3 (wx2.heap.size) (.int .i64 kk) (.string s) (.bool false) (.slice ax 0 cx))
     refine hK.out _ _ (HS.out _ HD2.out) (λ hHeld=>?_)
     clear hK K
     try simp only [Qp]
     refine Qt 19 13 rfl rfl ?_
     try simp only [Qp]
     refine wpAnyH_done (by kernel_rfl) ?_ _
     refine NoPanic.normal ?_
     clear hHeld
     go_wp2
     go_meet
     case rel=>exact⟨_,ax,cx,rfl,rfl,HD1.out,hge,HD3.out,hcx,HD2.out⟩
    refine AllReadyH.cons rfl (λ K hK=>?_) AllReadyH.nil
    go_simp
    have bk:=Zab wx1 (.cells #[.int .i64 0,.string ⟨#[]⟩,.bool false,.slice none 0 0] 32)
    have HB:=Qh (heap_alloc_new wx1 (.cells #[.int .i64 0,.string ⟨#[]⟩,.bool false,.slice none 0 0] 32))
    have hx4:=hx1.trans (bk.mono hx1.size)
    have hge:=hx1.size
    refine hK.out _ _ (HS.out _ hx4) (λ hHeld=>?_)
    clear hK K bk
    try simp only [Qp]
    generalize (wx1.alloc (.cells #[.int .i64 0,.string ⟨#[]⟩,.bool false,.slice none 0 0] 32))=wx4 at *
    refine Qr 13 rfl (λ K hK=>?_)
    go_simp
    refine (HTT.out _ hx4).mono ?_
    rintro e wx5 hT5
    obtain⟨k9,s9,b9,ax,cx,e9,rfl,-,-,-,hcx,br5⟩:=hT5.bare
    rw [HX0.out] at e9
    simp only [Prod.mk.injEq,Tok.mk.injEq,and_true] at e9
    obtain⟨⟨rfl,rfl⟩,rfl⟩:=e9
    have hx5:=hx4.trans (br5.mono hx4.size)
    have HB5:=Qh (mbox HB.out br5)
    refine hK.out _ _ (HS.out _ hx5) (λ hHeld=>?_)
    clear hK K
    try simp only [Qp]
    refine Qt 14 27 rfl rfl ?_
    try simp only [Qp]
    refine Qt 15 42 rfl rfl ?_
    try simp only [Qp]
    refine Qt 16 43 rfl rfl ?_
    try simp only [Qp]
    have zc0:=Qc 0 HB5.out
    have zf0:=Qf 0 HB5.out
    have zc1:=Qc 1 HB5.out
    have zf1:=Qf 1 HB5.out
    have zc2:=Qc 2 HB5.out
    have zf2:=Qf 2 HB5.out
    have zc3:=Qc 3 HB5.out
    have zf3:=Qf 3 HB5.out
    have HD1:=Qh (ZaH HB5.out (.int .i64 kk) (.string s) (.bool false) (.slice ax 0 cx))
    have HD2:=Qh (Zav (g:=wx1.heap.size) hx5 hge (.int .i64 kk) (.string s) (.bool false) (.slice ax 0 cx))
    have HD3:Hid (wx1.heap.size<(set4 wx5 (wx1.heap.size) (.int .i64 kk) (.string s) (.bool false) (.slice ax 0 cx)).heap.size):=by show _<_;rw [ZbM];exact mlt HB5.out
    refine Qr 18 rfl (λ K hK=>?_)
    go_simp
    change K _ (set4 wx5 (wx1.heap.size) (.int .i64 kk) (.string s) (.bool false) (.slice ax 0 cx))
    refine hK.out _ _ (HS.out _ HD2.out) (λ hHeld=>?_)
    clear hK K
    try simp only [Qp]
    refine Qt 19 13 rfl rfl ?_
    try simp only [Qp]
    refine wpAnyH_done (by kernel_rfl) ?_ _
    refine NoPanic.normal ?_
    clear hHeld
    go_wp2
    go_meet
    case rel=>exact⟨_,ax,cx,rfl,rfl,HD1.out,hge,HD3.out,hcx,HD2.out⟩
   refine AllReadyH.cons rfl (λ K hK=>?_) AllReadyH.nil
   go_simp
   have bk:=Zab wd (.cells #[.int .i64 0,.string ⟨#[]⟩,.bool false,.slice none 0 0] 32)
   have HB:=Qh (heap_alloc_new wd (.cells #[.int .i64 0,.string ⟨#[]⟩,.bool false,.slice none 0 0] 32))
   have hx6:=hcs.trans (bk.mono hcs.size)
   have hge:=hcs.size
   refine hK.out _ _ (HS.out _ hx6) (λ hHeld=>?_)
   clear hK K bk
   try simp only [Qp]
   generalize (wd.alloc (.cells #[.int .i64 0,.string ⟨#[]⟩,.bool false,.slice none 0 0] 32))=wx6 at *
   refine Qr 10 rfl (λ K hK=>?_)
   go_simp
   refine (HLP.out _ hx6).mono ?_
   rintro e wx7 ⟨rfl,rfl⟩
   have hx7:=hx6
   refine hK.out _ _ (HS.out _ hx7) (λ hHeld=>?_)
   clear hK K
   try simp only [Qp]
   refine Qt 11 39 rfl rfl ?_
   try simp only [Qp]
   refine Qt 12 40 rfl rfl ?_ (by intro w hSw;obtain⟨sm,s1,sr⟩:=hSw;have m2:=Qc 2 sm;have m3:=Qc 3 sm;go_simp;(first | done | with_reducible rfl | rfl))
   try simp only [Qp]
   refine Qr 13 rfl (λ K hK=>?_)
   go_simp
   refine (HTT.out _ hx7).mono ?_
   rintro e wx8 hT8
   obtain⟨k9,s9,b9,ax,cx,e9,rfl,-,-,-,hcx,br8⟩:=hT8.bare
   rw [HX0.out] at e9
   simp only [Prod.mk.injEq,Tok.mk.injEq,and_true] at e9
   obtain⟨⟨rfl,rfl⟩,rfl⟩:=e9
   have hx8:=hx7.trans (br8.mono hx7.size)
   have HB8:=Qh (mbox HB.out br8)
   refine hK.out _ _ (HS.out _ hx8) (λ hHeld=>?_)
   clear hK K
   try simp only [Qp]
   refine Qt 14 27 rfl rfl ?_
   try simp only [Qp]
   refine Qt 15 42 rfl rfl ?_
   try simp only [Qp]
   refine Qt 16 43 rfl rfl ?_
   try simp only [Qp]
   have zc0:=Qc 0 HB8.out
   have zf0:=Qf 0 HB8.out
   have zc1:=Qc 1 HB8.out
   have zf1:=Qf 1 HB8.out
   have zc2:=Qc 2 HB8.out
   have zf2:=Qf 2 HB8.out
   have zc3:=Qc 3 HB8.out
   have zf3:=Qf 3 HB8.out
   have HD1:=Qh (ZaH HB8.out (.int .i64 kk) (.string s) (.bool false) (.slice ax 0 cx))
   have HD2:=Qh (Zav (g:=wd.heap.size) hx8 hge (.int .i64 kk) (.string s) (.bool false) (.slice ax 0 cx))
   have HD3:Hid (wd.heap.size<(set4 wx8 (wd.heap.size) (.int .i64 kk) (.string s) (.bool false) (.slice ax 0 cx)).heap.size):=by show _<_;rw [ZbM];exact mlt HB8.out
   refine Qr 18 rfl (λ K hK=>?_)
   go_simp
   change K _ (set4 wx8 (wd.heap.size) (.int .i64 kk) (.string s) (.bool false) (.slice ax 0 cx))
   refine hK.out _ _ (HS.out _ HD2.out) (λ hHeld=>?_)
   clear hK K
   try simp only [Qp]
   refine Qt 19 13 rfl rfl ?_
   try simp only [Qp]
   refine wpAnyH_done (by kernel_rfl) ?_ _
   refine NoPanic.normal ?_
   clear hHeld
   go_wp2
   go_meet
   case rel=>exact⟨_,ax,cx,rfl,rfl,HD1.out,hge,HD3.out,hcx,HD2.out⟩
  obtain⟨gB,ax,cx,rfl,rfl,HG0,hg1,hg2,hcx,hbg⟩:=hcut
  generalize wc=W4 at *
  have HG:=Qh HG0
  have HTB:=Qh (mbox HX.out.2 hbg)
  have HRk4:=Qh (sTok.below HRk.out hbg)
  clear HG0 HS HLP HTT hcs
  obtain⟨t0,t1,t2,t3⟩:=Q4 HTB.out
  obtain⟨g0,g1,g2,g3⟩:=Q4 HG.out
  have hb4:=b2.trans (hbg.mono b2.size)
  have hw2:IntKind.i64.wrap ((k:Int)+2)=(k:Int)+2:=IntWalk.i64_in _ (by omega)
  have HL:=Qh (RowN.lit1 (S:=sTok) (e:=32) (w:=W4) (base:=W4.heap.size) (x:=⟨[.int .i64 kk,.string s,.bool false,.slice ax 0 cx],⟨kk,s,false,[]⟩,[]⟩) (Nat.le_refl _) rfl (Zjn kk s _ ax cx W4 hkk0 hkk4 (by omega) hcx))
  obtain⟨fpl,RL,-,-⟩:=HL.out.read
  have bl:=Zab W4 (.cells #[.int .i64 kk,.string s,.bool false,.slice ax 0 cx] 32)
  have HC:=Qh (Zb6 _ m.body[k] fk (.slice (some ⟨W4.heap.size,0,none⟩) 1 1) [⟨kk,s,false,[]⟩] fpl (W4.alloc (.cells #[.int .i64 kk,.string s,.bool false,.slice ax 0 cx] 32)) (by simp) (λ j hj=>by have:j=0:=(by simpa using hj);subst this;exact(Nat.zero_le _)) (sTok.below HRk4.out bl) RL)
  have hbl:=hb4.trans (bl.mono hb4.size)
  exact Y18A4
 have HNF:Hid (¬ (m.function=true/\isM m.body[k] [35]=true)):=λ h=>by rw [h.1,h.2] at hfi;exact absurd hfi (by simp)
 clear hfi HIM
 have p2:=Qc 2 HX.out.1
 have q1:=Qc 1 HX.out.2
 have HP:=Qh (ZfZ _ m.params q2 m.body[k].text W2 HP2.out)
 rw [HIX.out] at HP
 go_upto_region 6 with(go_at_call 116;refine HP.out.mono ?_;rintro e w3 ⟨rfl,rfl⟩)
 clear p2 q1 HP HIX
 try generalize w3=W2 at *
 have hk1:IntKind.i64.wrap ((k:Int)+1)=(k:Int)+1:=IntWalk.i64_in _ (by omega)
 by_cases hp:parOf m.params m.body[k]<0
 ·have HF:=Qh (Zf4 (raw:=raw) (ready:=ready) hk HNF.out hp)
  have hpd:decide (parOf m.params m.body[k]<0)=true:=decide_eq_true hp
  obtain⟨t0,t1,t2,t3⟩:=Q4 HX.out.2
  generalize parOf m.params m.body[k]=pn at *
  have HL:=Qh (RowN.lit1 (S:=sTok) (e:=32) (w:=W2) (base:=W2.heap.size) (x:=⟨[.int .i64 m.body[k].kind,.string m.body[k].text,.bool m.body[k].spaced,.slice ak m.body[k].hidden.length ck],m.body[k],fk⟩) (Nat.le_refl _) rfl HRk.out)
  obtain⟨fpl,RL,-,-⟩:=HL.out.read
  have bl:=Zab W2 (.cells #[.int .i64 m.body[k].kind,.string m.body[k].text,.bool m.body[k].spaced,.slice ak m.body[k].hidden.length ck] 32)
  have HC:=Qh (Zb6 _ m.body[k] fk (.slice (some ⟨W2.heap.size,0,none⟩) 1 1) [m.body[k]] fpl (W2.alloc (.cells #[.int .i64 m.body[k].kind,.string m.body[k].text,.bool m.body[k].spaced,.slice ak m.body[k].hidden.length ck] 32)) (by simp) (λ j hj=>by have:j=0:=(by simpa using hj);subst this;exact HHK.out) (sTok.below HRk.out bl) RL)
  have hbl:=b2.trans (bl.mono b2.size)
  exact Y18A4
 obtain⟨n,hn,hnp⟩:=ZiB hp
 have HPN:=Qh hn
 have HPP:=Qh hp
 rw [hn]
 clear hn hp
 have hn0:¬ ((n:Int)<0):=by omega
 have p3:=Qc 3 HX.out.1
 have HBP:=Qh (Zhw _ m.body q3 k W2 (by omega) hk HB2.out)
 rw [bes_glue HV.out k] at HBP
 go_wp2_with fail
 refine HBP.out.mono ?_
 rintro e w5 ⟨rfl,rfl⟩
 clear p3 HBP
 try generalize w5=W2 at *
 cases hg:(glueL m k || glueR m k)
 ·skip
  have HF:=Qh (Zfh (raw:=raw) (ready:=ready) hk HNF.out (by have:=HPP.out;omega) hg)
  have hnr:n<ready.length:=by have:=hraw.out;have:=hrdy.out;omega
  have HAR:=Qh (Zdd (a:=ready) HPN.out hnr)
  obtain⟨ar,cr,rfl,-,-,hrowR⟩:=Zac HYY.out
  obtain⟨br,orr,-,rfl,-,-,-⟩:=hrowR (by omega)
  obtain⟨aj,cj,fj,dq,Rj,hbr,hfj⟩:=ZbX HYY.out hnr
  have hTV:=Zan (HYA.out _ (List.getElem_mem hnr))
  have hjl:(ready[n]).length<=60:=hTV.1
  have HJH:Hid (∀ j,(hj:j<(ready[n]).length)->(ready[n])[j].hidden.length<=2000000):=λ j hj=>by have:=(Zdw (Zby (hTV.2 j hj))).1;omega
  have HSP:=Qh (λ (U:World) (hU:Below W2.heap.size W2 U)=>Zb6 _ m.body[k] fk _ ready[n] fj U (by omega) HJH.out (sTok.below HRk.out hU) ((Zaa sTok).below Rj hU))
  have d0:W2.drew.heap[w.heap.size+1]?=some (.cells #[.int .i64 m.body[k].kind,.string m.body[k].text,.bool m.body[k].spaced,.slice ak m.body[k].hidden.length ck] 32 (0,0)):=HX.out.2
  have d1:W2.drew.cell? ⟨br,orr+n,none⟩=some (.slice aj (ready[n]).length cj):=dq
  have hcs:Below W2.heap.size W2 W2.drew:=Zag (Below.refl _ _) 1
  have HS:Hid (∀ U:World,Below W2.heap.size W2 U->U.heap[w.heap.size+1]?=some (.cells #[.int .i64 m.body[k].kind,.string m.body[k].text,.bool m.body[k].spaced,.slice ak m.body[k].hidden.length ck] 32 (0,0))/\U.cell? ⟨br,orr+n,none⟩=some (.slice aj (ready[n]).length cj)):=λ U hU=>⟨mbox HX.out.2 hU,(hU.cell (by show br<W2.heap.size;omega)).trans dq⟩
  have i6:(0:Int)<=(n:Int):=by omega
  have i7:(n:Int)<(ready.length:Int):=by omega
  have i8:n<ready.length:=hnr
  clear dq Rj hfj hrowR hg hTV
  go_wp2_with fail
  refine wp_region_noPanic ?_
  refine wp_region_held_drew (S:=λ w'=>w'.heap[w.heap.size+1]?=some (.cells #[.int .i64 m.body[k].kind,.string m.body[k].text,.bool m.body[k].spaced,.slice ak m.body[k].hidden.length ck] 32 (0,0))/\w'.cell? ⟨br,orr+n,none⟩=some (.slice aj (ready[n]).length cj)) (by kernel_rfl) (by exact HS.out _ hcs) (λ hHeld=>?_)
  generalize W2.drew=wd at *
  refine Qt 0 78 rfl rfl ?_ (by intro w hSw;obtain⟨st,sr⟩:=hSw;obtain⟨t0,t1,t2,t3⟩:=Q4 st;go_simp;(first | done | with_reducible rfl | rfl))
  try simp only [Qp]
  refine Qt 1 79 rfl rfl ?_
  try simp only [Qp]
  refine Qt 2 80 rfl rfl ?_
  try simp only [Qp]
  refine Qt 3 81 rfl rfl ?_
  try simp only [Qp]
  refine Qt 4 82 rfl rfl ?_ (by intro w hSw;obtain⟨st,sr⟩:=hSw;obtain⟨t0,t1,t2,t3⟩:=Q4 st;go_simp;(first | done | with_reducible rfl | rfl))
  try simp only [Qp]
  refine Qt 6 84 rfl rfl ?_
  try simp only [Qp]
  refine Qt 7 85 rfl rfl ?_
  exact Y18A3
 ·skip
  have HF:=Qh (Zhh (raw:=raw) (ready:=ready) hk HNF.out (by have:=HPP.out;omega) hg)
  have hnr:n<raw.length:=by have:=hraw.out;have:=hrdy.out;omega
  have HAR:=Qh (Zdd (a:=raw) HPN.out hnr)
  obtain⟨ar,cr,rfl,-,-,hrowR⟩:=Zac HRR.out
  obtain⟨br,orr,-,rfl,-,-,-⟩:=hrowR (by omega)
  obtain⟨aj,cj,fj,dq,Rj,hbr,hfj⟩:=ZbX HRR.out hnr
  have hTV:=Zan (HRA.out _ (List.getElem_mem hnr))
  have hjl:(raw[n]).length<=60:=hTV.1
  have HJH:Hid (∀ j,(hj:j<(raw[n]).length)->(raw[n])[j].hidden.length<=2000000):=λ j hj=>by have:=(Zdw (Zby (hTV.2 j hj))).1;omega
  have HSP:=Qh (λ (U:World) (hU:Below W2.heap.size W2 U)=>Zb6 _ m.body[k] fk _ raw[n] fj U (by omega) HJH.out (sTok.below HRk.out hU) ((Zaa sTok).below Rj hU))
  have d0:W2.drew.heap[w.heap.size+1]?=some (.cells #[.int .i64 m.body[k].kind,.string m.body[k].text,.bool m.body[k].spaced,.slice ak m.body[k].hidden.length ck] 32 (0,0)):=HX.out.2
  have d1:W2.drew.cell? ⟨br,orr+n,none⟩=some (.slice aj (raw[n]).length cj):=dq
  have hcs:Below W2.heap.size W2 W2.drew:=Zag (Below.refl _ _) 1
  have HS:Hid (∀ U:World,Below W2.heap.size W2 U->U.heap[w.heap.size+1]?=some (.cells #[.int .i64 m.body[k].kind,.string m.body[k].text,.bool m.body[k].spaced,.slice ak m.body[k].hidden.length ck] 32 (0,0))/\U.cell? ⟨br,orr+n,none⟩=some (.slice aj (raw[n]).length cj)):=λ U hU=>⟨mbox HX.out.2 hU,(hU.cell (by show br<W2.heap.size;omega)).trans dq⟩
  have i6:(0:Int)<=(n:Int):=by omega
  have i7:(n:Int)<(raw.length:Int):=by omega
  have i8:n<raw.length:=hnr
  clear dq Rj hfj hrowR hg hTV
  go_wp2_with fail
  refine wp_region_noPanic ?_
  refine wp_region_held_drew (S:=λ w'=>w'.heap[w.heap.size+1]?=some (.cells #[.int .i64 m.body[k].kind,.string m.body[k].text,.bool m.body[k].spaced,.slice ak m.body[k].hidden.length ck] 32 (0,0))/\w'.cell? ⟨br,orr+n,none⟩=some (.slice aj (raw[n]).length cj)) (by kernel_rfl) (by exact HS.out _ hcs) (λ hHeld=>?_)
  generalize W2.drew=wd at *
  refine Qt 0 70 rfl rfl ?_ (by intro w hSw;obtain⟨st,sr⟩:=hSw;obtain⟨t0,t1,t2,t3⟩:=Q4 st;go_simp;(first | done | with_reducible rfl | rfl))
  try simp only [Qp]
  refine Qt 1 71 rfl rfl ?_
  try simp only [Qp]
  refine Qt 2 72 rfl rfl ?_
  try simp only [Qp]
  refine Qt 3 73 rfl rfl ?_
  try simp only [Qp]
  refine Qt 4 74 rfl rfl ?_ (by intro w hSw;obtain⟨st,sr⟩:=hSw;obtain⟨t0,t1,t2,t3⟩:=Q4 st;go_simp;(first | done | with_reducible rfl | rfl))
  try simp only [Qp]
  refine Qt 6 76 rfl rfl ?_
  try simp only [Qp]
  refine Qt 7 77 rfl rfl ?_
  exact Y18A3
theorem Zhy {α:Type} {S:Shape α} {P:Program} {t e:TypeId} {z:Value} {bytes:Nat} (ti:TI P t e z S.m bytes) (hzs:z.cells.size=S.m) (h0:0<S.m) (hone:∀ w cs x fp,S.R w cs x fp->∀ u∈cs,u.oneCell'=true) (w:World) {L X:List (Elem α)} {o:Oper} {a:Act} {K:Act->World->Prop} {Q:Exit->Act->World->Prop}
  (s y:Operand) (ho:o.op=.call { callee:=.builtin .append,args:=#[s,y],argTypes:=#[t,t] })
  (base base':Nat) (v u:Value) (hs:a.eval s=v) (hown:RowN S base e v L w) (hy:a.eval y=u) (hX:RowN S base' e u X w) (hap:∀ x∈X,∀ b∈x.fp,v.ownBlock≠some b)
  (h63:L.length+X.length<=maxLen) (hbytes:(L.length+X.length) * bytes<=140737488355328) (hbase:base<=w.heap.size)
  (h:∀ v' w',RowN S base e v' (L++X) w'->w.grownBy w' v.ownBlock->(v'.ownBlock=v.ownBlock\/v'.ownBlock=some w.heap.size)->K (a.put o.dst v') w'):o.wp P a w K Q:=by
 rcases hX.row.2 with⟨rfl,hx0⟩ | ⟨g,cap,cur,rfl,-,-,-,-,-,-⟩
 ·have hX0:X=[]:=List.length_eq_zero_iff.1 hx0
  subst hX0
  obtain⟨i,hi,hz0,hz1,hz2⟩:=info_parts ti.2
  have hdone:K (a.put o.dst v) w:=h v w (by simpa using hown) ⟨rfl,rfl,rfl,Nat.le_refl _,λ _ _ _=>rfl⟩ (.inl rfl)
  have hrun:=Zer (P:=P) (w:=w) base _ o.type _ i S.m 0 ti.1 hi v L.length _ hown.row
  unfold Oper.wp
  simp [execOp,ho,resolve,invoke,builtin,hs,hy,hrun,Result.andThen]
  exact hdone
 ·refine Zbz ti hzs h0 w (X:=X) s y ho base v hs hown ⟨g,0,none⟩ X.length cap hy rfl (λ x hx=>⟨hX.len x hx,hX.el x hx,hap x hx⟩) (λ x hx=>hone _ _ _ _ (hX.el x hx)) ?_ h63 hbytes hbase h
  intro j u hj
  have hjl:=(List.getElem?_eq_some_iff.1 hj).1
  rw [ZaU (f:=Elem.cells) hX.len] at hjl
  rw [Addr.add_lit,Nat.zero_add,hX.row.cellAt j hjl]
  exact hj
theorem ZeY {α:Type} {S:Shape α} {P:Program} {t e:TypeId} {z:Value} {bytes:Nat} (ti:TI P t e z S.m bytes) (hzs:z.cells.size=S.m) (h0:0<S.m) (hone:∀ w cs x fp,S.R w cs x fp->∀ u∈cs,u.oneCell'=true) (w:World) {L X:List (Elem α)} {ops:Array Oper} {rest:List Oper} {o:Oper} {a:Act} {Q:Exit->Act->World->Prop}
  (hg:o.guard=none) (s y:Operand) (ho:o.op=.call { callee:=.builtin .append,args:=#[s,y],argTypes:=#[t,t] })
  (base base':Nat) (v u:Value) (hs:a.eval s=v) (hown:RowN S base e v L w) (hy:a.eval y=u) (hX:RowN S base' e u X w) (hap:∀ x∈X,∀ b∈x.fp,v.ownBlock≠some b)
  (h63:L.length+X.length<=maxLen) (hbytes:(L.length+X.length) * bytes<=140737488355328) (hbase:base<=w.heap.size)
  (h:∀ v' w',RowN S base e v' (L++X) w'->w.grownBy w' v.ownBlock->(v'.ownBlock=v.ownBlock\/v'.ownBlock=some w.heap.size)->wpList P ops Q rest (a.put o.dst v') w'):wpList P ops Q (o::rest) a w:=
 wpList_plain hg λ _ hK=>Zhy ti hzs h0 hone w s y ho base base' v u hs hown hy hX hap h63 hbytes hbase λ v' w' h2 h3 h4=>hK _ _ (h v' w' h2 h3 h4)
def ZiR (m:DMacro) (raw ready:List (List Tok)) (w:World) (e:Ending) (w':World):Prop:=
 ∃ (v:Value) (fp:List Nat),e=.returned (.tuple #[v,.bool (Zap m raw ready).2])/\(Zaa sTok).R w' [v] (Zap m raw ready).1 fp/\Own w' w.heap.size fp/\Below w.heap.size w w'
theorem Zb3 {m:DMacro} {raw ready:List (List Tok)} {w W:World} (h:Zap m raw ready=([],false)) (hb:Below w.heap.size w W):ZiR m raw ready w (.returned (.tuple #[.slice none 0 0,.bool false])) W:=
 ⟨_,[],by rw [h],by rw [h];exact Zay _ _ _ _ (by simp),Own.nil _ _,hb⟩
theorem last_app {D L:List Tok} (h:L≠[]):(D++L).getLastD zTok=L.getLastD zTok:=by
 rw [List.getLastD_eq_getLast?,List.getLastD_eq_getLast?,List.getLast?_append,List.getLast?_eq_some_getLast h];rfl
theorem drop_app {D L:List Tok} (h:L≠[]):(D++L).dropLast=D++L.dropLast:=List.dropLast_append_of_ne_nil h
theorem map_ne {L:List (Elem Tok)} (h:0<L.length):L.map (·.d)≠[]:=λ e=>absurd (List.map_eq_nil_iff.1 e) (List.ne_nil_of_length_pos h)
theorem Zig (csM:List Value) (m:DMacro) (fpM:List Nat) (vr vy:Value) (raw ready:List (List Tok)) (fpr fpy:List Nat) (w:World)
  (HM:sMacro.R w csM m fpM) (Hr:(Zaa (Zaa sTok)).R w [vr] raw fpr) (Hy:(Zaa (Zaa sTok)).R w [vy] ready fpy) :
  Calls Tryz.prog 121 #[.agg csM.toArray,vr,vy] w (ZiR m raw ready w):=by
 have HM0:=HM
 obtain⟨h2,h3,q2,q3,rfl,-,K2,K3,-⟩:=HM
 obtain⟨a2,c2,rfl,-⟩:=Zaf K2
 obtain⟨a3,c3,rfl,hc3,hm3,hrow3⟩:=Zac K3
 obtain⟨ar,cr,rfl,-⟩:=Zac Hr
 obtain⟨ay,cy,rfl,-⟩:=Zac Hy
 unfold maxLen at hm3
 have b0:=Zab w (.cells #[.string m.name,.bool m.function,.slice a2 m.params.length c2,.slice a3 m.body.length c3] 56)
 have HX:=Qh (heap_alloc_new w (.cells #[.string m.name,.bool m.function,.slice a2 m.params.length c2,.slice a3 m.body.length c3] 56))
 have HM1:=Qh (sMacro.below HM0 b0)
 have Hr1:=Qh ((Zaa (Zaa sTok)).below Hr b0)
 have Hy1:=Qh ((Zaa (Zaa sTok)).below Hy b0)
 have HB3:=Qh ((Zaa sTok).below K3 b0)
 have HROW:Hid (∀ hlt:0<m.body.length,∃ bb ob,a3=some ⟨bb,ob,none⟩):=λ h=>by obtain⟨b,o,-,e,-⟩:=hrow3 h;exact⟨b,o,e⟩
 clear K2 K3 HM0 Hr Hy hrow3
 go_enter Tryz.func121,Tryz.ntmps121
 go_upto_region 1 with fail
 generalize (w.alloc (.cells #[.string m.name,.bool m.function,.slice a2 m.params.length c2,.slice a3 m.body.length c3] 56))=W1 at *
 have HMV:=Qh (ZcT _ m fpM W1 HM1.out)
 have HAR:=Qh (λ (U:World) (hU:Below W1.heap.size W1 U)=>Zc3 _ m fpM _ raw fpr U (sMacro.below HM1.out hU) ((Zaa (Zaa sTok)).below Hr1.out hU))
 have HAY:=Qh (λ (U:World) (hU:Below W1.heap.size W1 U)=>Zc3 _ m fpM _ ready fpy U (sMacro.below HM1.out hU) ((Zaa (Zaa sTok)).below Hy1.out hU))
 obtain⟨p0,p1,p2,p3⟩:=Q4 HX.out
 cases hv:macOk m
 ·have HF:=Qh (ZbN (m:=m) (raw:=raw) (ready:=ready) (λ h=>by rw [hv] at h;exact absurd h.1 (by simp):¬ (macOk m=true/\Zas m raw=true/\Zas m ready=true)))
  rw [hv] at HMV
  clear hv
  go_wp2_with fail
  refine (HMV.out).mono ?_
  rintro e w2 ⟨rfl,hb2⟩
  go_wp2
  go_ret2
  exact Zb3 HF.out (b0.trans (hb2.mono b0.size))
 have HVv:=Qh hv
 rw [hv] at HMV
 clear hv
 go_wp2_with fail
 refine (HMV.out).mono ?_
 rintro e w2 ⟨rfl,hb2⟩
 clear p0 p1 p2 p3
 have hB2:=hb2
 have HX2:=Qh (mbox HX.out hB2)
 obtain⟨p0,p1,p2,p3⟩:=Q4 HX2.out
 cases ha:Zas m raw
 ·have HF:=Qh (ZbN (m:=m) (raw:=raw) (ready:=ready) (λ h=>by rw [ha] at h;exact absurd h.2.1 (by simp):¬ (macOk m=true/\Zas m raw=true/\Zas m ready=true)))
  rw [ha] at HAR
  clear ha
  go_wp2_with fail
  refine (HAR.out _ hB2).mono ?_
  rintro e w3 ⟨rfl,hb3⟩
  go_wp2
  go_ret2
  exact Zb3 HF.out (b0.trans ((hB2.trans (hb3.mono hB2.size)).mono b0.size))
 have HVa:=Qh ha
 rw [ha] at HAR
 clear ha
 go_wp2_with fail
 refine (HAR.out _ hB2).mono ?_
 rintro e w3 ⟨rfl,hb3⟩
 clear p0 p1 p2 p3
 have hB3:=hB2.trans (hb3.mono hB2.size)
 have HX3:=Qh (mbox HX.out hB3)
 obtain⟨p0,p1,p2,p3⟩:=Q4 HX3.out
 cases hy:Zas m ready
 ·have HF:=Qh (ZbN (m:=m) (raw:=raw) (ready:=ready) (λ h=>by rw [hy] at h;exact absurd h.2.2 (by simp):¬ (macOk m=true/\Zas m raw=true/\Zas m ready=true)))
  rw [hy] at HAY
  clear hy
  go_wp2_with fail
  refine (HAY.out _ hB3).mono ?_
  rintro e w4 ⟨rfl,hb4⟩
  go_wp2
  go_ret2
  exact Zb3 HF.out (b0.trans ((hB3.trans (hb4.mono hB3.size)).mono b0.size))
 have HVy:=Qh hy
 rw [hy] at HAY
 clear hy
 go_wp2_with fail
 refine (HAY.out _ hB3).mono ?_
 rintro e w4 ⟨rfl,hb4⟩
 clear p0 p1 p2 p3
 have hB4:=hB3.trans (hb4.mono hB3.size)
 clear HMV HAR HAY HX2 HX3 hb2 hb3 hb4 hB2 hB3
 have hlen20:m.body.length<=20:=(ZaJ HVv.out).1.2.2.2.2
 have HPT:=Qh (λ (k:Nat) (hk:k<m.body.length) (U:World) (hU:Below W1.heap.size W1 U)=>ZkT _ m fpM _ _ raw ready fpr fpy k U HVv.out HVa.out HVy.out hk (sMacro.below HM1.out hU) ((Zaa (Zaa sTok)).below Hr1.out hU) ((Zaa (Zaa sTok)).below Hy1.out hU))
 unfold Zl7 at HPT
 have HSM:=Qh (λ (k:Nat) (hk:k<m.body.length) (P:List Tok) (nx:Nat) (ok:Bool) (h:ZaC m raw ready k=(P,nx,ok))=>Zh1 HVv.out HVa.out HVy.out hk h)
 have HBM:=Qh (λ (k:Nat) (hk:k<m.body.length)=>Zfm HVv.out hk [35])
 have HMI:=Qh (λ (k:Nat) (hk:k<m.body.length) (h:isM m.body[k] [35,35]=true)=>mark_in HVv.out hk h)
 have hsz1:w.heap.size<W1.heap.size:=mlt HX.out
 clear HM1 Hr1 Hy1
 go_wp2
 go_loopw [8,9,10] (λ vd vl va wr=>∃ (k:Nat) (D L:List (Elem Tok)),k<=m.body.length/\va=.int .i64 k/\Hid (TwoN W1.heap.size vd D vl L wr)/\Hid (subGo m raw ready 0 [] true false=subGo m raw ready k ((D++L).map (·.d)) (decide (L.length=0)) false)/\Hid (D.length+L.length<=61 * k)/\Hid (∀ x∈D++L,x.d.hidden.length<=60)/\Below W1.heap.size W1 wr) (λ _ _ va _=>m.body.length-(intOf va).toNat)
 case atStart=>exact⟨0,[],[],by omega,rfl,TwoN.start _ _,rfl,(show (0:Nat)<=_ by omega),(λ x hx=>by simp at hx),hB4⟩
 case round =>
  clear hB4
  obtain⟨k,D,L,hk,rfl,HT,HGO,HLL,HHD,hb⟩:=hrel
  have HXr:=Qh (mbox HX.out hb)
  obtain⟨ad,cd,hvd,-⟩:=HT.out.d.val
  obtain⟨al,cl,hvl,hcl,-,-⟩:=HT.out.l.val
  subst hvd hvl
  obtain⟨N,HN⟩:∃ N:Nat,Hid (N=L.length):=⟨L.length,Qh rfl⟩
  obtain⟨ND,HND⟩:∃ N:Nat,Hid (N=D.length):=⟨D.length,Qh rfl⟩
  rw [show L.length=N from HN.out.symm] at HT hcl ⊢
  rw [show D.length=ND from HND.out.symm] at HT ⊢
  have hbw:=b0.trans (hb.mono b0.size)
  obtain⟨p0,p1,p2,p3⟩:=Q4 HXr.out
  by_cases hlt:k<m.body.length
  ·obtain⟨bb,ob,rfl⟩:=HROW.out (by omega)
   obtain⟨xa,xc,xf,-,xq1,-,-,-,hbb,-⟩:=ZaB HB3.out hlt
   have x1:wr.cell? ⟨bb,ob+k * 4+1,none⟩=some _:=(hb.cell (p:=⟨bb,ob+k * 4+1,none⟩) hbb).trans xq1
   clear xq1
   have i0:(0:Int)<=(k:Int):=by omega
   have i1:(k:Int)<(m.body.length:Int):=by omega
   cases hmk:isM m.body[k] [35,35]
   ·have e1:(m.body[k].text.toList==[35,35])=false:=by rw [← HBM.out k hlt];exact hmk
    have HMK:=Qh hmk
    clear hmk
    rcases hP:ZaC m raw ready k with⟨P,nx,ok⟩
    have HS:=Qh (HSM.out k hlt P nx ok hP)
    have HPP:=Qh hP
    have HC:=Qh (HPT.out k hlt _ hb)
    rw [hP] at HC
    try dsimp only at HC
    clear hP
    go_wp2_with fail
    refine HC.out.mono ?_
    rintro e w3 ⟨v9,L9,rfl,HR9,HD9,HO9,hb3⟩
    have hB3:=hbw.trans (hb3.mono hbw.size)
    clear p0 p1 p2 p3 x1 e1 HC
    cases ok
    ·have HF:=Qh (Zeq (HGO.out.trans (ZeU hlt (λ h=>by rw [HMK.out] at h;exact absurd h.1 (by simp)) HPP.out)))
     go_wp2
     go_ret2
     exact Zb3 HF.out hB3
    have hb13:=hb.trans (hb3.mono hb.size)
    have HT3:=Qh (HT.out.below hb3)
    have HLT:=Qh HT.out.lt
    have HR9':=Qh HR9
    have HO9':=Qh HO9
    have HD9':=Qh HD9
    obtain⟨a9,c9,hv9,-⟩:=HR9.val
    subst hv9
    have hk20:k<=20:=by omega
    have hNL:ND+N<=61 * k:=by have:=HLL.out;have:=HN.out;have:=HND.out;omega
    have hWr:=hb.size
    clear HR9 HO9 HD9 HT
    go_wp2_with (at_builtin;refine ZeY ZaG rfl (by decide) ZaF w3 rfl (.tmp 59) (.tmp 60) rfl W1.heap.size W1.heap.size (.slice ad ND cd) (.slice al N cl) rfl HT3.out.d rfl HT3.out.l HT3.out.ld (by have:=HN.out;have:=HND.out;unfold maxLen;omega) (by have:=HN.out;have:=HND.out;omega) hb13.size ?_;intro v5 w5 hR5 hg5 hp5)
    have hb5:Below W1.heap.size W1 w5:=hb13.grown hg5 hb13.size (λ b hb=>(HT3.out.d.mine b hb).1)
    have h9g:∀ b,(Value.slice ad ND cd).ownBlock=some b->b<wr.heap.size:=HLT.out.1
    have HT5:Hid (TwoN W1.heap.size v5 (D++L) (.slice a9 L9.length c9) L9 w5):=by
     have ho5:=HT3.out.flushed hR5 hg5
     have hr9:RowN sTok wr.heap.size 32 (.slice a9 L9.length c9) L9 w5:=HR9'.out.same (λ g hg=>hg5.block g (HR9'.out.mine g hg).2 (λ e=>by have:=h9g g e.symm;have:=(HR9'.out.mine g hg).1;omega)) (λ x hx b hb=>hg5.block b (sTok.lt (HR9'.out.el x hx) b hb) (λ e=>by have:=h9g b e.symm;have:=(HO9'.out.2 b (List.mem_flatMap.2 ⟨x,hx,hb⟩)).1;omega))
     have ho9:Own w5 wr.heap.size (L9.flatMap (·.fp)):=Zbu HO9'.out (λ b hb e=>by have:=h9g b e;have:=(HO9'.out.2 b hb).1;omega) hg5
     show TwoN _ _ _ _ _ _
     have h3s:=hb3.size
     rcases hp5 with hp5 | hp5
     ·refine TwoN.fresh hR5 ho5 hr9 ho9 hWr (λ b hb=>h9g b (by rw [← hp5];exact hb)) (λ x hx b hb=>?_)
      rcases Qa hx with hx | hx
      ·exact HLT.out.2.2.1 x hx b hb
      ·exact HLT.out.2.2.2 x hx b hb
     ·refine ⟨hR5,hr9.lower hWr,ho5.app (ho9.lower hWr) (λ b hb hx=>?_),(λ b hb hv=>?_),(λ x hx b hb hv=>?_),(λ x hx b hb hv=>?_)⟩
      ·have h1:=(ho9.2 b hx).1
       obtain⟨x,hx1,hx2⟩:=List.mem_flatMap.1 hb
       rcases Qa hx1 with hx1 | hx1
       ·have:=HLT.out.2.2.1 x hx1 b hx2;omega
       ·have:=HLT.out.2.2.2 x hx1 b hx2;omega
      ·rw [hp5,Qi] at hb
       have:=(HR9'.out.mine b hv).2;omega
      ·have h1:=(HR9'.out.mine b hv).1
       rcases Qa hx with hx | hx
       ·have:=HLT.out.2.2.1 x hx b hb;omega
       ·have:=HLT.out.2.2.2 x hx b hb;omega
      ·rw [hp5,Qi] at hv
       have:=sTok.lt (HR9'.out.el x hx) b hb;omega
    have hPl:P.length=L9.length:=by rw [← HD9'.out,List.length_map]
    have HGO5:Hid (subGo m raw ready 0 [] true false=subGo m raw ready nx (((D++L)++L9).map (·.d)) (decide (L9.length=0)) false):=by
     show _=_
     rw [HGO.out,ZdO hlt (λ h=>by rw [HMK.out] at h;exact absurd h.1 (by simp)) HPP.out (λ h=>absurd h.1 (by simp)),List.map_append (l₁:=D++L),HD9'.out,hPl]
     simp
    have HLL5:Hid ((D++L).length+L9.length<=61 * nx):=by show _<=_;rw [List.length_append,← hPl];have:=HS.out.1;have:=HS.out.2.2.1;have:=HN.out;have:=HND.out;omega
    have HHD5:Hid (∀ x∈(D++L)++L9,x.d.hidden.length<=60):=λ x hx=>by
     rcases Qa hx with hx | hx
     ·exact HHD.out x hx
     ·have hm:x.d∈P:=by rw [← HD9'.out];exact List.mem_map.2 ⟨x,hx,rfl⟩
      exact HS.out.2.2.2 x.d hm
    have hnx:=HS.out.2.1
    have hnk:=HS.out.2.2.1
    clear hR5 hg5 hp5 h9g HR9' HO9' hPl
    go_wp2
    go_roundw
    case rel=>exact⟨nx,D++L,L9,hnx,by trivial,HT5,HGO5,HLL5,HHD5,hb5⟩
    case measure=>simp [intOf];omega
   ·have e1:(m.body[k].text.toList==[35,35])=true:=by rw [← HBM.out k hlt];exact hmk
    have hk1:k+1<m.body.length:=HMI.out k hlt hmk
    have HGO1:=Qh (HGO.out.trans (by rw [Zfi hlt hmk]))
    have hw1:IntKind.i64.wrap ((k:Int)+1)=(k:Int)+1:=IntWalk.i64_in _ (by omega)
    clear hmk HGO
    rcases hP:ZaC m raw ready (k+1) with⟨P,nx,ok⟩
    have HS:=Qh (HSM.out (k+1) hk1 P nx ok hP)
    have HPP:=Qh hP
    have HC:=Qh (HPT.out (k+1) hk1 _ hb)
    rw [hP] at HC
    try dsimp only at HC
    clear hP
    go_wp2_with fail
    refine HC.out.mono ?_
    rintro e w3 ⟨v9,L9,rfl,HR9,HD9,HO9,hb3⟩
    have hB3:=hbw.trans (hb3.mono hbw.size)
    clear p0 p1 p2 p3 x1 e1 HC
    cases ok
    ·have HF:=Qh (Zeq (HGO1.out.trans (ZeU hk1 (λ h=>absurd h.2 (by simp)) HPP.out)))
     go_wp2
     go_ret2
     exact Zb3 HF.out hB3
    have hb13:=hb.trans (hb3.mono hb.size)
    have HT3:=Qh (HT.out.below hb3)
    have HLT:=Qh HT.out.lt
    have HR9':=Qh HR9
    have HO9':=Qh HO9
    have HD9':=Qh HD9
    obtain⟨a9,c9,hv9,-⟩:=HR9.val
    subst hv9
    have hk20:k<=20:=by omega
    have hNL:ND+N<=61 * k:=by have:=HLL.out;have:=HN.out;have:=HND.out;omega
    have hWr:=hb.size
    have hPl:Hid (P.length=L9.length):=by show _=_;rw [← HD9'.out,List.length_map]
    have HFR:Hid (TwoN W1.heap.size (.slice ad ND cd) D (.slice a9 L9.length c9) L9 w3):=TwoN.fresh HT3.out.d (HT3.out.own.split.1) HR9 HO9 hWr HLT.out.1 HLT.out.2.2.1
    have HFL:Hid (TwoN W1.heap.size (.slice al N cl) L (.slice a9 L9.length c9) L9 w3):=TwoN.fresh HT3.out.l (HT3.out.own.split.2.1) HR9 HO9 hWr HLT.out.2.1 HLT.out.2.2.2
    have hnx:=HS.out.2.1
    have hnk:=HS.out.2.2.1
    obtain⟨N9,HN9⟩:∃ N9:Nat,Hid (N9=L9.length):=⟨L9.length,Qh rfl⟩
    rw [show L9.length=N9 from HN9.out.symm] at HFR HFL ⊢
    clear HR9 HO9 HD9 HT
    by_cases hN0:N=0
    ·have hL0:L=[]:=List.length_eq_zero_iff.1 (by have:=HN.out;omega)
     subst hN0
     subst hL0
     have HGO5:Hid (subGo m raw ready 0 [] true false=subGo m raw ready nx ((D++L9).map (·.d)) (decide (L9.length=0)) false):=by
      show _=_
      rw [HGO1.out,ZdO hk1 (λ h=>absurd h.2 (by simp)) HPP.out (λ h=>absurd h.2.1 (by simp)),List.append_nil,List.map_append,HD9'.out,hPl.out]
      simp
     have HLL5:Hid (D.length+L9.length<=61 * nx):=by show _<=_;have:=hPl.out;have:=HS.out.1;have:=HND.out;omega
     have HHD5:Hid (∀ x∈D++L9,x.d.hidden.length<=60):=λ x hx=>by
      rcases Qa hx with hx | hx
      ·exact HHD.out x (by simpa using hx)
      ·have hm:x.d∈P:=by rw [← HD9'.out];exact List.mem_map.2 ⟨x,hx,rfl⟩
       exact HS.out.2.2.2 x.d hm
     go_wp2_with fail
     refine (Zh3 al cl (.slice a9 N9 c9) w3).mono ?_
     rintro e w4 ⟨rfl,rfl⟩
     go_wp2
     go_roundw
     case rel=>exact⟨nx,D,L9,hnx,by trivial,HFR,HGO5,HLL5,HHD5,hb13⟩
     case measure=>simp [intOf];omega
    by_cases hN9:N9=0
    ·have hL0:L9=[]:=List.length_eq_zero_iff.1 (by have:=HN9.out;omega)
     have HP0:Hid (P=[]):=by show _=_;rw [← HD9'.out,hL0];rfl
     subst hN9
     have HNE:Hid (decide (L.length=0)=false):=decide_eq_false (by have:=HN.out;omega)
     have HGO5:Hid (subGo m raw ready 0 [] true false=subGo m raw ready nx ((D++L).map (·.d)) (decide (L.length=0)) false):=by
      show _=_
      rw [HGO1.out,ZdO hk1 (λ h=>absurd h.2 (by simp)) HPP.out (λ h=>by rw [HP0.out] at h;exact absurd h.2.2 (by simp)),HP0.out,List.append_nil,HNE.out]
      rfl
     have HLL5:Hid (D.length+L.length<=61 * nx):=by show _<=_;have:=HLL.out;omega
     have hNp:0<N:=by omega
     clear hL0
     go_wp2_with fail
     refine (Zh4 al a9 N cl c9 w3 hNp).mono ?_
     rintro e w4 ⟨rfl,rfl⟩
     go_wp2
     go_roundw
     case rel=>exact⟨nx,D,L,hnx,by trivial,HT3,HGO5,HLL5,HHD,hb13⟩
     case measure=>simp [intOf];omega
    have hNp:0<N:=by omega
    have hN9p:0<N9:=by omega
    have HNE:Hid (decide (L.length=0)=false):=decide_eq_false (by have:=HN.out;omega)
    have HLN:=Qh (map_ne (L:=L) (by have:=HN.out;omega))
    have HPZ:Hid (P.headD zTok=(L9.map (·.d)).headD zTok):=by show _=_;rw [HD9'.out]
    have HPp:Hid (0<P.length):=by show _<_;have:=hPl.out;have:=HN9.out;omega
    have hN960:N9<=60:=by have:=hPl.out;have:=HN9.out;have:=HS.out.1;omega
    have HG:=Qh (Zhl W1.heap.size (.slice al N cl) (.slice a9 N9 c9) L L9 w3 hb13.size HFL.out (by have:=HN.out;omega) (by have:=HN9.out;omega) (by have:=HN.out;omega) (by have:=HN9.out;omega) (λ x hx=>HHD.out x (by simp [hx])) (λ x hx=>HS.out.2.2.2 x.d (by rw [← HD9'.out];exact List.mem_map.2 ⟨x,hx,rfl⟩)))
    unfold GlueOf at HG
    rcases hpr:Zaq ((L.map (·.d)).getLastD zTok) ((L9.map (·.d)).headD zTok) with⟨z,fine⟩
    rw [hpr] at HG
    try dsimp only at HG
    have HP3:Hid (Zaq (((D++L).map (·.d)).getLastD zTok) (P.headD zTok)=(z,fine)):=by show _=_;rw [List.map_append,last_app HLN.out,HPZ.out];exact hpr
    have HPF:=Qh hpr
    have HLA:Hid (((L.map (·.d)).getLastD zTok).hidden.length<=60):=by
     show _<=_
     rw [List.getLastD_eq_getLast?,List.getLast?_eq_some_getLast HLN.out,Option.getD_some]
     obtain⟨x,hx,e⟩:=List.mem_map.1 (List.getLast_mem HLN.out)
     rw [← e]
     exact HHD.out x (by simp [hx])
    clear hpr
    cases fine
    ·have HF:=Qh (Zeq (HGO1.out.trans (ZhX hk1 (λ h=>absurd h.2 (by simp)) HPP.out ⟨rfl,HNE.out,HPp.out⟩ HP3.out)))
     go_wp2_with fail
     refine HG.out.mono ?_
     rintro e w4 (⟨-,rfl,hb4⟩ | ⟨h,-⟩)
     rotate_left
     ·exact absurd h (by simp)
     go_wp2
     go_ret2
     exact Zb3 HF.out (hB3.trans (hb4.mono hB3.size))
    have HNX:=Qh (HGO1.out.trans (Zgu hk1 (λ h=>absurd h.2 (by simp)) HPP.out ⟨rfl,HNE.out,HPp.out⟩ HP3.out))
    have hDL:Hid (∀ b∈D.flatMap (·.fp),b∉L9.flatMap (·.fp)):=λ b hb hx=>(List.nodup_append.1 HFR.out.own.1).2.2 b hb b hx rfl
    go_wp2_with fail
    refine HG.out.mono ?_
    rintro e w4 (⟨h,-⟩ | ⟨-,v4,X,rfl,HR4,hXz,HO4,HK4,hv4⟩)
    ·exact absurd h (by simp)
    have HT5:=Qh (TwoN.glued HT3.out HFL.out (λ b hb x hx h=>HFR.out.ld x hx b h hb) hDL.out hb13.size HR4 HO4 HK4 hv4)
    have hb5:Below W1.heap.size W1 w4:=hb13.trans (HK4.below (λ b hb=>by simp only [Option.mem_toList] at hb;exact(HT3.out.l.mine b hb).1) hb13.size)
    have HGO5:Hid (subGo m raw ready 0 [] true false=subGo m raw ready nx ((D++(L.dropLast++X::L9.tail)).map (·.d)) (decide ((L.dropLast++X::L9.tail).length=0)) false):=by
     show _=_
     rw [HNX.out,decide_eq_false (by rw [List.length_append,List.length_cons];omega:¬ (L.dropLast++X::L9.tail).length=0),List.map_append,drop_app HLN.out,List.map_append,List.map_append,List.map_cons,List.map_tail,List.map_dropLast,HD9'.out,hXz,List.append_assoc,HNE.out]
    have hlen5:Hid ((L.dropLast++X::L9.tail).length=N+N9-1):=by show _=_;rw [List.length_append,List.length_cons,List.length_dropLast,List.length_tail];have:=HN.out;have:=HN9.out;omega
    have HLL5:Hid (D.length+(L.dropLast++X::L9.tail).length<=61 * nx):=by show _<=_;rw [hlen5.out];have:=HND.out;omega
    have HHD5:Hid (∀ x∈D++(L.dropLast++X::L9.tail),x.d.hidden.length<=60):=λ x hx=>by
     have hP9:∀ y∈L9,y.d.hidden.length<=60:=λ y hy=>HS.out.2.2.2 y.d (by rw [← HD9'.out];exact List.mem_map.2 ⟨y,hy,rfl⟩)
     rcases Qa hx with hx | hx
     ·exact HHD.out x (by simp [hx])
     ·rcases Qa hx with hx | hx
      ·exact HHD.out x (by simp [(List.dropLast_sublist L).subset hx])
      ·rcases List.mem_cons.1 hx with rfl | hx
       ·rw [hXz]
        have h1:=(Zfg HPF.out).2.2.2.2.2
        have h2:=HLA.out
        omega
       ·exact hP9 x (List.mem_of_mem_tail hx)
    clear HR4 HO4 HK4 hv4 hXz
    go_wp2
    go_roundw
    case rel=>exact⟨nx,D,_,hnx,by trivial,HT5,HGO5,HLL5,HHD5,hb5⟩
    case measure=>simp [intOf];omega
  ·have hkl:k=m.body.length:=by omega
   have HSG:Hid (subGo m raw ready 0 [] true false=((D++L).map (·.d),true)):=by show _=_;rw [HGO.out,ZdN (by omega)]
   have hNL:ND+N<=61 * k:=by have:=HLL.out;have:=HN.out;have:=HND.out;omega
   clear hkl
   go_upto_region 20 with(at_builtin;refine ZeY ZaG rfl (by decide) ZaF wr rfl (.tmp 71) (.tmp 72) rfl W1.heap.size W1.heap.size (.slice ad ND cd) (.slice al N cl) rfl HT.out.d rfl HT.out.l HT.out.ld (by have:=HN.out;have:=HND.out;unfold maxLen;omega) (by have:=HN.out;have:=HND.out;omega) hb.size ?_;intro v5 w5 hR5 hg5 hp5;have ho5:=HT.out.flushed hR5 hg5;have hb5:Below W1.heap.size W1 w5:=hb.grown hg5 hb.size (λ b hb=>(HT.out.d.mine b hb).1);obtain⟨fp5,r5,-,f5⟩:=hR5.read;have o5:=f5 ho5;obtain⟨a5,c5,hv5,-⟩:=hR5.val;have hl5:(D++L).length=ND+N:=(by rw [List.length_append];have:=HN.out;have:=HND.out;omega);rw [hl5] at hv5;subst hv5;have HR5:=Qh r5;have HO5:=Qh (o5.lower (lo':=w.heap.size) b0.size);have HL5:=Qh hl5;clear hR5 hg5 hp5 ho5 f5 r5 o5 hl5)
   have hbf:=b0.trans (hb5.mono b0.size)
   by_cases h9:240<ND+N
   ·have HF:=Qh (ZgU (raw:=raw) (ready:=ready) HSG.out (by rw [List.length_map,HL5.out];exact h9))
    have e9:(240:Int)<((ND+N:Nat):Int):=by omega
    have e8:(240:Int)<(ND:Int)+(N:Int):=by omega
    go_wp2
    go_ret2
    exact Zb3 HF.out hbf
   ·have HF:=Qh (ZhY ⟨HVv.out,HVa.out,HVy.out⟩ HSG.out (by rw [List.length_map,HL5.out];exact h9))
    have e9:¬ (240:Int)<((ND+N:Nat):Int):=by omega
    have e8:¬ (240:Int)<(ND:Int)+(N:Int):=by omega
    go_wp2
    go_ret2
    exact⟨_,fp5,by rw [HF.out];rfl,by rw [HF.out];exact HR5.out,HO5.out,hbf⟩
end Go.Proofs.YtipfpppcbmpjiaaGreat
