/- Texts that the proof of E stands on, in one file. -/
import Derived.Test.YtiaiggjfepoahaaGreatZE15
import Derived.Lib.FrozenHead2
import Derived.Lib.OthersKept
import Derived.Lib.Builder
import Derived.Laws.Externs
set_option linter.unusedVariables false
set_option maxHeartbeats 16000000
set_option maxRecDepth 100000
set_option linter.unusedSimpArgs false
/- Of the program: the use of a macro. (Made by gen_exi4.py.) -/
namespace Go.Proofs.YtiaiggjfepoahaaGreat
open Go.RowKit
def set7 (w:World) (g:Nat) (v0 v1 v2 v3 v4 v5 v6:Value):World:=((((((w.setCell ⟨g,0,none⟩ v0).setCell ⟨g,1,none⟩ v1).setCell ⟨g,2,none⟩ v2).setCell ⟨g,3,none⟩ v3).setCell ⟨g,4,none⟩ v4).setCell ⟨g,5,none⟩ v5).setCell ⟨g,6,none⟩ v6
theorem Zgg {w:World} {g:Nat} {z0 z1 z2 z3 z4 z5 z6:Value} {ty:TypeId} (h:w.heap[g]?=some (.cells #[z0,z1,z2,z3,z4,z5,z6] ty (0,0))) (v0 v1 v2 v3 v4 v5 v6:Value) :
  (set7 w g v0 v1 v2 v3 v4 v5 v6).heap[g]?=some (.cells #[v0,v1,v2,v3,v4,v5,v6] ty (0,0)):=by
 have h0:(w.setCell ⟨g,0,none⟩ v0).heap[g]?=some (.cells #[v0,z1,z2,z3,z4,z5,z6] ty (0,0)):=Zai h 0 v0
 have h1:((w.setCell ⟨g,0,none⟩ v0).setCell ⟨g,1,none⟩ v1).heap[g]?=some (.cells #[v0,v1,z2,z3,z4,z5,z6] ty (0,0)):=Zai h0 1 v1
 have h2:(((w.setCell ⟨g,0,none⟩ v0).setCell ⟨g,1,none⟩ v1).setCell ⟨g,2,none⟩ v2).heap[g]?=some (.cells #[v0,v1,v2,z3,z4,z5,z6] ty (0,0)):=Zai h1 2 v2
 have h3:((((w.setCell ⟨g,0,none⟩ v0).setCell ⟨g,1,none⟩ v1).setCell ⟨g,2,none⟩ v2).setCell ⟨g,3,none⟩ v3).heap[g]?=some (.cells #[v0,v1,v2,v3,z4,z5,z6] ty (0,0)):=Zai h2 3 v3
 have h4:(((((w.setCell ⟨g,0,none⟩ v0).setCell ⟨g,1,none⟩ v1).setCell ⟨g,2,none⟩ v2).setCell ⟨g,3,none⟩ v3).setCell ⟨g,4,none⟩ v4).heap[g]?=some (.cells #[v0,v1,v2,v3,v4,z5,z6] ty (0,0)):=Zai h3 4 v4
 have h5:((((((w.setCell ⟨g,0,none⟩ v0).setCell ⟨g,1,none⟩ v1).setCell ⟨g,2,none⟩ v2).setCell ⟨g,3,none⟩ v3).setCell ⟨g,4,none⟩ v4).setCell ⟨g,5,none⟩ v5).heap[g]?=some (.cells #[v0,v1,v2,v3,v4,v5,z6] ty (0,0)):=Zai h4 5 v5
 have h6:(((((((w.setCell ⟨g,0,none⟩ v0).setCell ⟨g,1,none⟩ v1).setCell ⟨g,2,none⟩ v2).setCell ⟨g,3,none⟩ v3).setCell ⟨g,4,none⟩ v4).setCell ⟨g,5,none⟩ v5).setCell ⟨g,6,none⟩ v6).heap[g]?=some (.cells #[v0,v1,v2,v3,v4,v5,v6] ty (0,0)):=Zai h5 6 v6
 exact h6
theorem Zfg {w:World} {g b:Nat} (h:b≠g) (v0 v1 v2 v3 v4 v5 v6:Value):(set7 w g v0 v1 v2 v3 v4 v5 v6).heap[b]?=w.heap[b]?:=by
 unfold set7
 rw [Below.heap_setCell _ _ _ _ h,Below.heap_setCell _ _ _ _ h,Below.heap_setCell _ _ _ _ h,Below.heap_setCell _ _ _ _ h,Below.heap_setCell _ _ _ _ h,Below.heap_setCell _ _ _ _ h,Below.heap_setCell _ _ _ _ h]
theorem Zdy {B:Nat} {w0 w:World} (hB:Below B w0 w) {g:Nat} (hg:B<=g) (v0 v1 v2 v3 v4 v5 v6:Value):Below B w0 (set7 w g v0 v1 v2 v3 v4 v5 v6):=
 ((((((hB.setCell (p:=⟨g,0,none⟩) hg v0).setCell (p:=⟨g,1,none⟩) hg v1).setCell (p:=⟨g,2,none⟩) hg v2).setCell (p:=⟨g,3,none⟩) hg v3).setCell (p:=⟨g,4,none⟩) hg v4).setCell (p:=⟨g,5,none⟩) hg v5).setCell (p:=⟨g,6,none⟩) hg v6
theorem Shape.set7R {α:Type} (S:Shape α) {w:World} {g:Nat} {cs:List Value} {d:α} {fp:List Nat} (h:S.R w cs d fp) (hn:g∉fp) (v0 v1 v2 v3 v4 v5 v6:Value):S.R (set7 w g v0 v1 v2 v3 v4 v5 v6) cs d fp:=
 S.frame (λ b hb=>Zfg (λ e:b=g=>hn (by rw [← e];exact hb)) v0 v1 v2 v3 v4 v5 v6) h
def useR (m:DMacro) (l:List Tok):Option (Args × Nat × List ByteArray):=
 if m.function=false then some ([],1,ins (l.headD zTok).hidden m.name)
 else if (splK (l.drop 2) 1 [] [] 2).2.2=true/\argN m.params.length (splK (l.drop 2) 1 [] [] 2).1=m.params.length then
  some ((splK (l.drop 2) 1 [] [] 2).1.take m.params.length,(splK (l.drop 2) 1 [] [] 2).2.1,ins (both (l.headD zTok).hidden (l.getD ((splK (l.drop 2) 1 [] [] 2).2.1-1) zTok).hidden) m.name)
 else none
theorem Zkt {m:DMacro} {l:List Tok} (h0:0<l.length) (h:m.function=false):useR m l=some ([],1,ins l[0].hidden m.name):=by
 unfold useR
 rw [if_pos h]
 cases l with
 | nil=>simp at h0
 | cons t r=>rfl
theorem Zlp {m:DMacro} {l:List Tok} (h:m.function=true) {A:Args} {e:Nat} (hs:splK (l.drop 2) 1 [] [] 2=(A,e,false)):useR m l=none:=by
 unfold useR
 rw [if_neg (by simp [h]),hs,if_neg (by simp)]
theorem Zku {m:DMacro} {l:List Tok} (h:m.function=true) {A:Args} {e:Nat} {b:Bool} (hs:splK (l.drop 2) 1 [] [] 2=(A,e,b)) (hn:argN m.params.length A≠m.params.length):useR m l=none:=by
 unfold useR
 rw [if_neg (by simp [h]),hs,if_neg (λ h=>hn h.2)]
theorem useR_yes {m:DMacro} {l:List Tok} (h0:0<l.length) (h:m.function=true) {A:Args} {e:Nat} (he:e-1<l.length) (hs:splK (l.drop 2) 1 [] [] 2=(A,e,true)) (hn:argN m.params.length A=m.params.length):useR m l=some (A.take m.params.length,e,ins (both l[0].hidden l[e-1].hidden) m.name):=by
 unfold useR
 rw [if_neg (by simp [h]),hs,if_pos ⟨rfl,hn⟩]
 have e2:l.getD (e-1) zTok=l[e-1]:=by rw [List.getD_eq_getElem?_getD,List.getElem?_eq_getElem he];rfl
 simp only [e2]
 cases l with
 | nil=>simp at h0
 | cons t r=>rfl
def UseOf (m:DMacro) (csM:List Value) (l:List Tok) (w:World) (e:Ending) (w':World):Prop:=
 (useR m l=none/\e=.returned (.tuple #[.agg #[.string ⟨#[]⟩,.bool false,.slice none 0 0,.slice none 0 0,.slice none 0 0,.int .i64 0,.slice none 0 0],.bool false])/\Below w.heap.size w w') \/
 ∃ (A:Args) (en:Nat) (hs:List ByteArray) (vA vH:Value) (fA fH:List Nat),useR m l=some (A,en,hs)/\e=.returned (.tuple #[.agg (csM++[vA,.int .i64 en,vH]).toArray,.bool true]) /\
  (Zaa sToks).R w' [vA] A fA/\(∀ b∈fA,w.heap.size<=b)/\(Zaa sStr).R w' [vH] hs fH/\(∀ b∈fH,w.heap.size<=b)/\Below w.heap.size w w'
theorem Zl0 (csM:List Value) (m:DMacro) (fpM:List Nat) (v:Value) (l:List Tok) (fp:List Nat) (w:World) (hv:macOk m=true) (h0:0<l.length) (hl60:l.length<=60) (htx:∀ t∈l,Tx t) (hu:∀ t∈l,Up t.hidden) (hh:∀ t∈l,t.hidden.length<=100000) (hop:m.function=true->∃ h1:1<l.length,isM l[1] [40]=true)
  (HM:sMacro.R w csM m fpM) (H:(Zaa sTok).R w [v] l fp):Calls Tryz.prog 111 #[.agg csM.toArray,v] w (UseOf m csM l w):=by
 have HM0:=HM
 obtain⟨h2,h3,q2,q3,rfl,knm,K2,K3,-⟩:=HM
 obtain⟨a2,c2,rfl,-⟩:=Zaf K2
 obtain⟨a3,c3,rfl,-⟩:=Zac K3
 have H00:=H
 obtain⟨al,cl,rfl,hcl,hml,hrow⟩:=Zac H
 unfold maxLen at hml
 obtain⟨bw,ow,-,rfl,-,-,-⟩:=hrow h0
 have HX:=Qh (ZbB w #[.string m.name,.bool m.function,.slice a2 m.params.length c2,.slice a3 m.body.length c3] #[.string ⟨#[]⟩,.bool false,.slice none 0 0,.slice none 0 0,.slice none 0 0,.int .i64 0,.slice none 0 0] 70 136)
 have b0:=Zab w (.cells #[.string m.name,.bool m.function,.slice a2 m.params.length c2,.slice a3 m.body.length c3] 70)
 have b2:=b0.trans ((Zab (w.alloc (.cells #[.string m.name,.bool m.function,.slice a2 m.params.length c2,.slice a3 m.body.length c3] 70)) (.cells #[.string ⟨#[]⟩,.bool false,.slice none 0 0,.slice none 0 0,.slice none 0 0,.int .i64 0,.slice none 0 0] 136)).mono b0.size)
 have hs2:((w.alloc (.cells #[.string m.name,.bool m.function,.slice a2 m.params.length c2,.slice a3 m.body.length c3] 70)).alloc (.cells #[.string ⟨#[]⟩,.bool false,.slice none 0 0,.slice none 0 0,.slice none 0 0,.int .i64 0,.slice none 0 0] 136)).heap.size=w.heap.size+2:=by show ((w.heap.push _).push _).size=_;simp
 have HM2:=Qh (sMacro.below HM0 b2)
 have HL2:=Qh ((Zaa sTok).below H00 b2)
 have HVV:=Qh hv
 have HTX:=Qh htx
 have HUP:=Qh hu
 have HHH:=Qh hh
 have HOP:=Qh hop
 have HNM:Hid (m.name.size<=maxLen):=knm
 clear HM0 K2 K3 H H00 hrow htx hu hh hv hop
 go_enter Tryz.func111,Tryz.ntmps111
 go_upto_region 1 with fail
 generalize ((w.alloc (.cells #[.string m.name,.bool m.function,.slice a2 m.params.length c2,.slice a3 m.body.length c3] 70)).alloc (.cells #[.string ⟨#[]⟩,.bool false,.slice none 0 0,.slice none 0 0,.slice none 0 0,.int .i64 0,.slice none 0 0] 136))=W2 at *
 obtain⟨xa,xc,xf,c0,c1,c2',c3',xR,hbb,hxf⟩:=ZaQ HL2.out h0
 simp only [Nat.zero_mul,Nat.add_zero] at c0 c1 c2' c3'
 have bt:=Zab W2 (.cells #[.int .i64 l[0].kind,.string l[0].text,.bool l[0].spaced,.slice xa l[0].hidden.length xc] 57)
 have HT0:=Qh (heap_alloc_new W2 (.cells #[.int .i64 l[0].kind,.string l[0].text,.bool l[0].spaced,.slice xa l[0].hidden.length xc] 57))
 rw [hs2] at HT0
 go_upto_region 2 with fail
 have hs3:(W2.alloc (.cells #[.int .i64 l[0].kind,.string l[0].text,.bool l[0].spaced,.slice xa l[0].hidden.length xc] 57)).heap.size=w.heap.size+3:=by show (W2.heap.push _).size=_;simp [hs2]
 have HX3:=Qh (And.intro (mbox HX.out.1 bt) (mbox HX.out.2 bt))
 have HM3:=Qh (sMacro.below HM2.out bt)
 have HL3:=Qh ((Zaa sTok).below HL2.out bt)
 have HXR:=Qh (ZcG (sTok.below xR bt))
 have b3:=b2.trans (bt.mono b2.size)
 clear c0 c1 c2' c3' HM2 HL2 xR hxf HX hbb bt b2 b0
 generalize (W2.alloc (.cells #[.int .i64 l[0].kind,.string l[0].text,.bool l[0].spaced,.slice xa l[0].hidden.length xc] 57))=W3 at *
 have p1:=Qc 1 HX3.out.1
 cases hf:m.function
 ·have HF:=Qh (Zkt h0 hf)
  rw [hf] at p1
  have HWN:=Qh (λ (Q:World) (hQ:Below W3.heap.size W3 Q)=>Zdu _ l[0].hidden m.name xf Q (HUP.out _ (List.getElem_mem h0)) (by have:=HHH.out _ (List.getElem_mem h0);omega) HNM.out ((Zaa sStr).below HXR.out hQ))
  have HSM:Hid (∀ Q:World,Below W3.heap.size W3 Q->Q.heap[w.heap.size]?=some (.cells #[.string m.name,.bool m.function,.slice a2 m.params.length c2,.slice a3 m.body.length c3] 70 (0,0))/\Q.heap[w.heap.size+2]?=some (.cells #[.int .i64 l[0].kind,.string l[0].text,.bool l[0].spaced,.slice xa l[0].hidden.length xc] 57 (0,0))):=λ Q hQ=>⟨mbox HX3.out.1 hQ,mbox HT0.out hQ⟩
  obtain⟨fu,HFU⟩:∃ fu:Bool,Hid (fu=m.function):=⟨_,Qh rfl⟩
  clear hf
  go_upto_region 3 with fail
  clear p1
  have hcs:Below W3.heap.size W3 W3.drew:=Zag (Below.refl _ _) 1
  refine wp_region_noPanic ?_
  refine wp_region_held_drew (S:=λ w'=>w'.heap[w.heap.size]?=some (.cells #[.string m.name,.bool m.function,.slice a2 m.params.length c2,.slice a3 m.body.length c3] 70 (0,0))/\w'.heap[w.heap.size+2]?=some (.cells #[.int .i64 l[0].kind,.string l[0].text,.bool l[0].spaced,.slice xa l[0].hidden.length xc] 57 (0,0))) (by kernel_rfl) (by exact HSM.out _ hcs) (λ hHeld=>?_)
  -- MARK1
  generalize hwd:W3.drew=wd at *
  refine Qt 0 17 rfl rfl ?_ (by intro w hSw;obtain⟨m0,m1,m2,m3⟩:=Q4 hSw.1;have t3:=Qc 3 hSw.2;go_simp;(first | done | with_reducible rfl | rfl))
  try simp only [Qp]
  refine Qt 1 18 rfl rfl ?_
  try simp only [Qp]
  refine Qt 2 19 rfl rfl ?_ (by intro w hSw;obtain⟨m0,m1,m2,m3⟩:=Q4 hSw.1;have t3:=Qc 3 hSw.2;go_simp;(first | done | with_reducible rfl | rfl))
  try simp only [Qp]
  refine Qt 3 20 rfl rfl ?_
  try simp only [Qp]
  refine Qt 4 21 rfl rfl ?_ (by intro w hSw;obtain⟨m0,m1,m2,m3⟩:=Q4 hSw.1;have t3:=Qc 3 hSw.2;go_simp;(first | done | with_reducible rfl | rfl))
  try simp only [Qp]
  -- MARK2
  refine Qr 5 rfl (λ K hK=>?_)
  go_simp
  refine (HWN.out _ hcs).mono ?_
  rintro e w9 ⟨ao,co,f9,rfl,R9,O9,-,hb9⟩
  have hx9:=hcs.trans (hb9.mono hcs.size)
  refine hK.out _ _ (HSM.out _ hx9) (λ hHeld=>?_)
  clear hK K
  try simp only [Qp]
  -- MARK3
  refine Qt 6 23 rfl rfl ?_
  try simp only [Qp]
  have HZ9:=mbox HX3.out.2 hx9
  have hB9:=b3.trans (hx9.mono b3.size)
  have hn9:w.heap.size+1∉f9:=λ hx=>by have h1:=(O9.2 _ hx).1;have h2:=hcs.size;omega
  have z0:=Qc 0 HZ9
  have zf0:=Qf 0 HZ9
  have z1:=Qc 1 HZ9
  have zf1:=Qf 1 HZ9
  have z2:=Qc 2 HZ9
  have zf2:=Qf 2 HZ9
  have z3:=Qc 3 HZ9
  have zf3:=Qf 3 HZ9
  have z4:=Qc 4 HZ9
  have zf4:=Qf 4 HZ9
  have z5:=Qc 5 HZ9
  have zf5:=Qf 5 HZ9
  have z6:=Qc 6 HZ9
  have zf6:=Qf 6 HZ9
  have HS:=Qh (Zgg HZ9 (.string m.name) (.bool m.function) (.slice a2 m.params.length c2) (.slice a3 m.body.length c3) (.slice none 0 0) (.int .i64 1) (.slice ao (ins l[0].hidden m.name).length co))
  have HB:=Qh (Zdy (g:=w.heap.size+1) hB9 (by omega) (.string m.name) (.bool m.function) (.slice a2 m.params.length c2) (.slice a3 m.body.length c3) (.slice none 0 0) (.int .i64 1) (.slice ao (ins l[0].hidden m.name).length co))
  have HRF:=Qh ((Zaa sStr).set7R R9 hn9 (.string m.name) (.bool m.function) (.slice a2 m.params.length c2) (.slice a3 m.body.length c3) (.slice none 0 0) (.int .i64 1) (.slice ao (ins l[0].hidden m.name).length co))
  have HH7:Hid ((set7 w9 (w.heap.size+1) (.string m.name) (.bool m.function) (.slice a2 m.params.length c2) (.slice a3 m.body.length c3) (.slice none 0 0) (.int .i64 1) (.slice ao (ins l[0].hidden m.name).length co)).heap[w.heap.size]?=some (.cells #[.string m.name,.bool m.function,.slice a2 m.params.length c2,.slice a3 m.body.length c3] 70 (0,0))/\(set7 w9 (w.heap.size+1) (.string m.name) (.bool m.function) (.slice a2 m.params.length c2) (.slice a3 m.body.length c3) (.slice none 0 0) (.int .i64 1) (.slice ao (ins l[0].hidden m.name).length co)).heap[w.heap.size+2]?=some (.cells #[.int .i64 l[0].kind,.string l[0].text,.bool l[0].spaced,.slice xa l[0].hidden.length xc] 57 (0,0))):=⟨(Zfg (by omega) _ _ _ _ _ _ _).trans hHeld.1,(Zfg (by omega) _ _ _ _ _ _ _).trans hHeld.2⟩
  unfold set7 at HS HB HRF HH7
  -- MARK4
  refine Qr 7 rfl (λ K hK=>?_)
  go_simp
  refine hK.out _ _ (HH7.out) (λ hHeld=>?_)
  clear hK K
  try simp only [Qp]
  -- MARK5
  refine Qt 8 5 rfl rfl ?_
  try simp only [Qp]
  refine wpAnyH_done (by kernel_rfl) ?_ _
  refine NoPanic.normal ?_
  clear hHeld
  go_wp2
  refine bodyPost_ret (Zak rfl _ _ (w.heap.size+1) _ _ _ _ rfl HS.out Tryz.underlying136 rfl (by kernel_rfl)) rfl ?_
  exact .inr ⟨[],1,ins l[0].hidden m.name,_,_,[],f9,HF.out,rfl,ZaC sToks _ _ 0 (by simp),by simp,HRF.out,λ b hb=>by have h1:=(O9.2 _ hb).1;have h2:=hcs.size;omega,HB.out⟩
 rw [hf] at p1
 have HFT:=Qh hf
 obtain⟨h1l,ho1⟩:=HOP.out hf
 have HO1:Zch l[1]=true:=by rw [← Zlm (HTX.out _ (List.getElem_mem h1l))];exact ho1
 have HAA:=Qh (Zg8 _ l fp 1 W3 hl60 h1l HO1 (λ k hk=>by have:=HHH.out _ (List.getElem_mem hk);omega) HL3.out)
 have HEN:=λ R e h=>Zb9 (l.drop 2) 1 [] [] 2 (R:=R) (e:=e) h
 rcases hS:splK (l.drop 2) 1 [] [] 2 with⟨AA,en,ok⟩
 have HSS:=Qh hS
 clear HO1 ho1 hf
 cases ok
 ·have HF:=Qh (Zlp HFT.out hS)
  rw [ZmL HTX.out hS] at HAA
  unfold Zfe at HAA
  try dsimp only at HAA
  clear hS HEN
  go_wp2_with fail
  refine HAA.out.mono ?_
  rintro e w4 ⟨vA,fA,rfl,RA,-,hb4⟩
  obtain⟨aA,cA,rfl,-⟩:=Zac RA
  have HZ4:=Qh (mbox HX3.out.2 hb4)
  have hB4:=b3.trans (hb4.mono b3.size)
  clear RA HAA p1
  have HZX:=HZ4.out
  have z0:=Qc 0 HZX
  have zf0:=Qf 0 HZX
  have z1:=Qc 1 HZX
  have zf1:=Qf 1 HZX
  have z2:=Qc 2 HZX
  have zf2:=Qf 2 HZX
  have z3:=Qc 3 HZX
  have zf3:=Qf 3 HZX
  have z4:=Qc 4 HZX
  have zf4:=Qf 4 HZX
  have z5:=Qc 5 HZX
  have zf5:=Qf 5 HZX
  have z6:=Qc 6 HZX
  have zf6:=Qf 6 HZX
  have HS:=Qh (Zgg HZX (.string ⟨#[]⟩) (.bool false) (.slice none 0 0) (.slice none 0 0) (.slice none 0 0) (.int .i64 0) (.slice none 0 0))
  have HB:=Qh (Zdy (g:=w.heap.size+1) hB4 (by omega) (.string ⟨#[]⟩) (.bool false) (.slice none 0 0) (.slice none 0 0) (.slice none 0 0) (.int .i64 0) (.slice none 0 0))
  unfold set7 at HS HB
  go_wp2
  refine bodyPost_ret (Zak rfl _ _ (w.heap.size+1) _ _ _ _ rfl HS.out Tryz.underlying136 rfl (by kernel_rfl)) rfl ?_
  exact .inl ⟨HF.out,rfl,HB.out⟩
 have HEE:2<en/\en<=l.length:=by
  have:=HEN _ _ hS
  rw [List.length_drop] at this
  omega
 rw [ZlX HTX.out hS] at HAA
 unfold Zfe at HAA
 try dsimp only at HAA
 clear HEN hS
 go_wp2_with fail
 refine HAA.out.mono ?_
 rintro e w3 ⟨vA,fA,rfl,RA,OA,hb4⟩
 obtain⟨aA,cA,rfl,hcA,hmA,-⟩:=Zac RA
 unfold maxLen at hmA
 have HRA:=Qh RA
 have HFA:=Qh (λ b hb=>(OA.2 b hb).1)
 have hs34:=b3.size
 have HZ3:=Qh (mbox HX3.out.2 hb4)
 have HX4:=Qh (mbox HX3.out.1 hb4)
 have HT4:=Qh (mbox HT0.out hb4)
 have hB3:=b3.trans (hb4.mono b3.size)
 have HL4:=Qh ((Zaa sTok).below HL3.out hb4)
 have HXR4:=Qh ((Zaa sStr).below HXR.out hb4)
 have p0:=Qc 0 HX4.out
 replace p1:=Qc 1 HX4.out
 have p2:=Qc 2 HX4.out
 have p3:=Qc 3 HX4.out
 have HFI:=Qh (Zgl _ m fpM _ AA fA w3 (sMacro.below HM3.out hb4) HRA.out)
 rw [Zlc HVV.out HFT.out] at HFI
 clear RA OA HAA hb4 b3 HX3 HT0 HL3 HM3 HXR
 by_cases hfit:argN m.params.length AA=m.params.length
 rotate_left
 ·have HF:=Qh (Zku HFT.out HSS.out hfit)
  rw [decide_eq_false hfit] at HFI
  clear hfit
  go_wp2_with fail
  refine HFI.out.mono ?_
  rintro e w4 ⟨rfl,hb4⟩
  have HZ4:=Qh (mbox HZ3.out hb4)
  have hB4:=hB3.trans (hb4.mono hB3.size)
  clear HFI p0 p1 p2 p3
  have HZX:=HZ4.out
  have z0:=Qc 0 HZX
  have zf0:=Qf 0 HZX
  have z1:=Qc 1 HZX
  have zf1:=Qf 1 HZX
  have z2:=Qc 2 HZX
  have zf2:=Qf 2 HZX
  have z3:=Qc 3 HZX
  have zf3:=Qf 3 HZX
  have z4:=Qc 4 HZX
  have zf4:=Qf 4 HZX
  have z5:=Qc 5 HZX
  have zf5:=Qf 5 HZX
  have z6:=Qc 6 HZX
  have zf6:=Qf 6 HZX
  have HS:=Qh (Zgg HZX (.string ⟨#[]⟩) (.bool false) (.slice none 0 0) (.slice none 0 0) (.slice none 0 0) (.int .i64 0) (.slice none 0 0))
  have HB:=Qh (Zdy (g:=w.heap.size+1) hB4 (by omega) (.string ⟨#[]⟩) (.bool false) (.slice none 0 0) (.slice none 0 0) (.slice none 0 0) (.int .i64 0) (.slice none 0 0))
  unfold set7 at HS HB
  go_wp2
  refine bodyPost_ret (Zak rfl _ _ (w.heap.size+1) _ _ _ _ rfl HS.out Tryz.underlying136 rfl (by kernel_rfl)) rfl ?_
  exact .inl ⟨HF.out,rfl,HB.out⟩
 have HF0:=useR_yes h0 HFT.out (by omega:en-1<l.length) HSS.out hfit
 have HPL:m.params.length<=AA.length:=Zlo hfit
 rw [decide_eq_true hfit] at HFI
 obtain⟨j,hj⟩:∃ j,en-1=j:=⟨_,rfl⟩
 have hjl:j<l.length:=by omega
 have HF:Hid (useR m l=some (AA.take m.params.length,en,ins (both l[0].hidden l[j].hidden) m.name)):=by show _=_;subst hj;exact HF0
 have hwr:IntKind.i64.wrap ((en:Int)-1)=(j:Int):=by rw [IntWalk.i64_in _ (by omega)];omega
 clear HF0 hfit
 obtain⟨np,HNP⟩:∃ np:Nat,Hid (np=m.params.length):=⟨_,Qh rfl⟩
 go_wp2_with fail
 refine HFI.out.mono ?_
 rintro e w4 ⟨rfl,hb4⟩
 clear p0 p1 p2 p3 HFI
 have hB4:=hB3.trans (hb4.mono hB3.size)
 have HX5:=Qh (mbox HX4.out hb4)
 have HT5:=Qh (mbox HT4.out hb4)
 have HZ5:=Qh (mbox HZ3.out hb4)
 have HL5:=Qh ((Zaa sTok).below HL4.out hb4)
 have HXR5:=Qh ((Zaa sStr).below HXR4.out hb4)
 obtain⟨ft,RT,hft⟩:=Zcp m.params.length HPL ((Zaa sToks).below HRA.out hb4)
 have HRT:=Qh RT
 have HFT3:Hid (∀ b∈ft,w.heap.size+3<=b):=λ b hb=>by have:=HFA.out b (hft b hb);omega
 have HFT2:Hid (∀ b∈ft,w.heap.size<=b):=λ b hb=>by have:=HFA.out b (hft b hb);omega
 have p2:=Qc 2 HX5.out
 have k0:(0:Int)<=(m.params.length:Int):=by omega
 have k1:(m.params.length:Int)<=(cA:Int):=by omega
 have k2:m.params.length<=cA:=by omega
 obtain⟨ya,yc,yf,-,-,-,y3,yR,ybb,-⟩:=ZaQ HL5.out hjl
 have HYR:=Qh (ZcG yR)
 have HY3:=Qh y3
 clear HX4 HT4 HZ3 HL4 HXR4 HRA RT hft y3 yR hB3
 go_upto_region 8 with fail
 clear p2 k0 k1 k2
 have HSM:Hid (∀ Q:World,Below w4.heap.size w4 Q->Q.heap[w.heap.size+2]?=some (.cells #[.int .i64 l[0].kind,.string l[0].text,.bool l[0].spaced,.slice xa l[0].hidden.length xc] 57 (0,0))/\Q.cell? ⟨bw,ow+j * 4+3,none⟩=some (.slice ya l[j].hidden.length yc)):=λ Q hQ=>⟨mbox HT5.out hQ,(hQ.cell (p:=⟨bw,ow+j * 4+3,none⟩) ybb).trans HY3.out⟩
 have HNB:=Qh (λ (Q:World) (hQ:Below w4.heap.size w4 Q)=>Zd4 _ _ l[0].hidden l[j].hidden xf yf Q (by have:=HHH.out _ (List.getElem_mem h0);omega) (by have:=HHH.out _ (List.getElem_mem hjl);omega) (HUP.out _ (List.getElem_mem hjl)) ((Zaa sStr).below HXR5.out hQ) ((Zaa sStr).below HYR.out hQ))
 have hcs:Below w4.heap.size w4 w4.drew:=Zag (Below.refl _ _) 1
 have i0:(0:Int)<=(j:Int):=by omega
 have i1:(j:Int)<(l.length:Int):=by omega
 refine wp_region_noPanic ?_
 refine wp_region_held_drew (S:=λ w'=>w'.heap[w.heap.size+2]?=some (.cells #[.int .i64 l[0].kind,.string l[0].text,.bool l[0].spaced,.slice xa l[0].hidden.length xc] 57 (0,0))/\w'.cell? ⟨bw,ow+j * 4+3,none⟩=some (.slice ya l[j].hidden.length yc)) (by kernel_rfl) (by exact HSM.out _ hcs) (λ hHeld=>?_)
 -- MARK6
 generalize hwd:w4.drew=wd at *
 refine Qt 0 44 rfl rfl ?_
 try simp only [Qp]
 refine Qt 1 45 rfl rfl ?_ (by intro w hSw;have t3:=Qc 3 hSw.1;have y3:=hSw.2;go_simp;(first | done | with_reducible rfl | rfl))
 try simp only [Qp]
 refine Qt 2 46 rfl rfl ?_
 try simp only [Qp]
 refine Qt 3 47 rfl rfl ?_
 try simp only [Qp]
 refine Qt 4 48 rfl rfl ?_
 try simp only [Qp]
 refine Qt 5 49 rfl rfl ?_
 try simp only [Qp]
 refine Qt 6 50 rfl rfl ?_
 try simp only [Qp]
 refine Qt 7 51 rfl rfl ?_ (by intro w hSw;have t3:=Qc 3 hSw.1;have y3:=hSw.2;go_simp;(first | done | with_reducible rfl | rfl))
 try simp only [Qp]
 -- MARK7
 refine Qr 8 rfl (λ K hK=>?_)
 go_simp
 refine (HNB.out _ hcs).mono ?_
 rintro e w5 ⟨v5,f5,rfl,R5,O5,hb5⟩
 have hx5:=hcs.trans (hb5.mono hcs.size)
 refine hK.out _ _ (HSM.out _ hx5) (λ hHeld=>?_)
 clear hK K
 try simp only [Qp]
 refine Qt 9 10 rfl rfl ?_
 try simp only [Qp]
 refine wpAnyH_done (by kernel_rfl) ?_ _
 refine NoPanic.normal ?_
 clear hHeld
 have HR5:=Qh R5
 have hB5:=hB4.trans (hx5.mono hB4.size)
 have HX6:=Qh (mbox HX5.out hx5)
 have HZ6:=Qh (mbox HZ5.out hx5)
 have HRT5:=Qh ((Zaa sToks).below HRT.out hx5)
 obtain⟨a5,c5,rfl,-⟩:=Zaf R5
 have HWN:=Qh (λ (Q:World) (hQ:Below w5.heap.size w5 Q)=>Zdu _ (both l[0].hidden l[j].hidden) m.name f5 Q (List.Pairwise.filter _ (HUP.out _ (List.getElem_mem h0))) (by have h1:=HHH.out _ (List.getElem_mem h0);have h2:=List.length_filter_le (λ x=>hasN l[j].hidden x) l[0].hidden;have h3:(both l[0].hidden l[j].hidden).length<=l[0].hidden.length:=h2;omega) HNM.out ((Zaa sStr).below HR5.out hQ))
 have HSN:Hid (∀ Q:World,Below w5.heap.size w5 Q->Q.heap[w.heap.size]?=some (.cells #[.string m.name,.bool m.function,.slice a2 m.params.length c2,.slice a3 m.body.length c3] 70 (0,0))):=λ Q hQ=>mbox HX6.out hQ
 clear R5 O5 hb5 HSM HNB hx5 hcs HX5 HZ5 hwd HRT HYR HY3
 go_upto_region 9 with fail
 have hcs:Below w5.heap.size w5 w5.drew:=Zag (Below.refl _ _) 1
 refine wp_region_noPanic ?_
 refine wp_region_held_drew (S:=λ w'=>w'.heap[w.heap.size]?=some (.cells #[.string m.name,.bool m.function,.slice a2 m.params.length c2,.slice a3 m.body.length c3] 70 (0,0))) (by kernel_rfl) (by exact HSN.out _ hcs) (λ hHeld=>?_)
 -- MARK8
 generalize hwd:w5.drew=wd at *
 refine Qt 0 53 rfl rfl ?_ (by intro w hSw;obtain⟨m0,m1,m2,m3⟩:=Q4 hSw;go_simp;(first | done | with_reducible rfl | rfl))
 try simp only [Qp]
 refine Qt 1 54 rfl rfl ?_
 try simp only [Qp]
 refine Qt 2 55 rfl rfl ?_
 try simp only [Qp]
 refine Qt 3 56 rfl rfl ?_
 try simp only [Qp]
 refine Qt 4 57 rfl rfl ?_
 try simp only [Qp]
 refine Qt 5 58 rfl rfl ?_ (by intro w hSw;obtain⟨m0,m1,m2,m3⟩:=Q4 hSw;go_simp;(first | done | with_reducible rfl | rfl))
 try simp only [Qp]
 -- MARK9
 refine Qr 6 rfl (λ K hK=>?_)
 go_simp
 refine (HWN.out _ hcs).mono ?_
 rintro e w9 ⟨ao,co,f9,rfl,R9,O9,-,hb9⟩
 have hx9:=hcs.trans (hb9.mono hcs.size)
 refine hK.out _ _ (HSN.out _ hx9) (λ hHeld=>?_)
 clear hK K
 try simp only [Qp]
 refine Qt 7 60 rfl rfl ?_
 try simp only [Qp]
 have HZ9:=mbox HZ6.out hx9
 have hB9:=hB5.trans (hx9.mono hB5.size)
 have hn9:w.heap.size+1∉f9:=λ hx=>by have h1:=(O9.2 _ hx).1;have h2:=hcs.size;have h3:=mlt HZ6.out;omega
 have HRT9:=(Zaa sToks).below HRT5.out hx9
 have hnt:w.heap.size+1∉ft:=λ hx=>by have:=HFT3.out _ hx;omega
 have z0:=Qc 0 HZ9
 have zf0:=Qf 0 HZ9
 have z1:=Qc 1 HZ9
 have zf1:=Qf 1 HZ9
 have z2:=Qc 2 HZ9
 have zf2:=Qf 2 HZ9
 have z3:=Qc 3 HZ9
 have zf3:=Qf 3 HZ9
 have z4:=Qc 4 HZ9
 have zf4:=Qf 4 HZ9
 have z5:=Qc 5 HZ9
 have zf5:=Qf 5 HZ9
 have z6:=Qc 6 HZ9
 have zf6:=Qf 6 HZ9
 have HS:=Qh (Zgg HZ9 (.string m.name) (.bool m.function) (.slice a2 m.params.length c2) (.slice a3 m.body.length c3) (.slice aA m.params.length cA) (.int .i64 (en:Nat)) (.slice ao (ins (both l[0].hidden l[j].hidden) m.name).length co))
 have HB:=Qh (Zdy (g:=w.heap.size+1) hB9 (by omega) (.string m.name) (.bool m.function) (.slice a2 m.params.length c2) (.slice a3 m.body.length c3) (.slice aA m.params.length cA) (.int .i64 (en:Nat)) (.slice ao (ins (both l[0].hidden l[j].hidden) m.name).length co))
 have HRF:=Qh ((Zaa sStr).set7R R9 hn9 (.string m.name) (.bool m.function) (.slice a2 m.params.length c2) (.slice a3 m.body.length c3) (.slice aA m.params.length cA) (.int .i64 (en:Nat)) (.slice ao (ins (both l[0].hidden l[j].hidden) m.name).length co))
 have HRG:=Qh ((Zaa sToks).set7R HRT9 hnt (.string m.name) (.bool m.function) (.slice a2 m.params.length c2) (.slice a3 m.body.length c3) (.slice aA m.params.length cA) (.int .i64 (en:Nat)) (.slice ao (ins (both l[0].hidden l[j].hidden) m.name).length co))
 have HH7:Hid ((set7 w9 (w.heap.size+1) (.string m.name) (.bool m.function) (.slice a2 m.params.length c2) (.slice a3 m.body.length c3) (.slice aA m.params.length cA) (.int .i64 (en:Nat)) (.slice ao (ins (both l[0].hidden l[j].hidden) m.name).length co)).heap[w.heap.size]?=some (.cells #[.string m.name,.bool m.function,.slice a2 m.params.length c2,.slice a3 m.body.length c3] 70 (0,0))):=(Zfg (by omega) _ _ _ _ _ _ _).trans hHeld
 unfold set7 at HS HB HRF HRG HH7
 refine Qr 8 rfl (λ K hK=>?_)
 go_simp
 refine hK.out _ _ (HH7.out) (λ hHeld=>?_)
 clear hK K
 try simp only [Qp]
 refine Qt 9 5 rfl rfl ?_
 try simp only [Qp]
 refine wpAnyH_done (by kernel_rfl) ?_ _
 refine NoPanic.normal ?_
 clear hHeld
 go_wp2
 refine bodyPost_ret (Zak rfl _ _ (w.heap.size+1) _ _ _ _ rfl HS.out Tryz.underlying136 rfl (by kernel_rfl)) rfl ?_
 exact .inr ⟨_,en,_,_,_,ft,f9,HF.out,rfl,HRG.out,HFT2.out,HRF.out,λ b hb=>by have h1:=(O9.2 _ hb).1;have h2:=hcs.size;have h3:=mlt HX6.out;omega,HB.out⟩
def lenOf:Value->Nat
 | .slice _ n _=>n
 | _=>0
theorem call_end {f:List Tok->Nat->XRes} {m:DMacro} {work:List Tok} {s e l:Nat} {b:List Tok} (h:callX f m work s=(b,e,l,0)):2<e/\e<=2+(work.drop 2).length:=by
 unfold callX at h
 split at h
 ·rename_i h1
  split at h
  ·split at h
   ·simp only [Prod.mk.injEq] at h
    have h2:=Zb9 (work.drop 2) 1 [] [] 2 (R:=(splK (work.drop 2) 1 [] [] 2).1) (e:=(splK (work.drop 2) 1 [] [] 2).2.1) (by rw [← h1.1])
    omega
   ·simp at h
  ·rename_i h2
   simp only [Prod.mk.injEq] at h
   exact absurd (by rw [h.2.2]:(argsX f (List.take m.params.length (splK (List.drop 2 work) 1 [] [] 2).1) s).2.2=0) h2
 ·simp at h
theorem Zlq {T:List DMacro} {t:Tok} {r:List Tok} {m:DMacro} (h:goM T (t::r)=some m) (hf:m.function=true):∃ hr:0<r.length,isM r[0] [40]=true:=by
 unfold goM at h
 dsimp only at h
 cases hm:findM T t with
 | none=>rw [hm] at h;simp at h
 |
  some m' =>
  rw [hm] at h
  dsimp only at h
  split at h
  ·simp at h
  ·rename_i hh
   simp only [Qi] at h
   subst h
   cases r with
   | nil=>exact absurd ⟨hf,rfl⟩ hh
   |
    cons u q =>
    refine ⟨by simp,?_⟩
    cases e:isM u [40]
    ·exact absurd ⟨hf,e⟩ hh
    ·exact e
theorem ZiB (m:DMacro) (a b:List (List Tok)):(Zap m a b).1.length<=240:=by
 unfold Zap
 split
 ·split
  ·simp
  ·omega
 ·simp
theorem Zdd (l:List Tok) (h:List ByteArray) (sp:Bool):(putL l h sp).length=l.length:=by unfold putL;rw [Ziq,List.length_map]
theorem ZmV (f:List Tok->Nat->XRes) (m:DMacro) (w:List Tok) (s:Nat):(callX f m w s).1.length<=240:=by
 unfold callX
 split
 ·split
  ·split
   ·show (putL _ _ _).length<=240
    rw [Zdd];exact ZiB _ _ _
   ·simp
  ·simp
 ·simp
theorem go_none {T:List DMacro} {t:Tok} {r:List Tok} (h:findM T t=none):goM T (t::r)=none:=by unfold goM;dsimp only;rw [h]
theorem go_shut {T:List DMacro} {t:Tok} {r:List Tok} {m:DMacro} (h:findM T t=some m) (hf:m.function=true) (ho:ZeI r=false):goM T (t::r)=none:=by unfold goM;dsimp only;rw [h];dsimp only;rw [if_pos ⟨hf,ho⟩]
theorem go_take {T:List DMacro} {t:Tok} {r:List Tok} {m:DMacro} (h:findM T t=some m) (hf:¬ (m.function=true/\ZeI r=false)):goM T (t::r)=some m:=by unfold goM;dsimp only;rw [h];dsimp only;rw [if_neg hf]
theorem Zdv {α:Type} {S:Shape α} {P:Program} {t e:TypeId} {z:Value} {bytes:Nat} (ti:TI P t e z S.m bytes) (hzs:z.cells.size=S.m) (h0:0<S.m) (hone:∀ w cs x fp,S.R w cs x fp->∀ u∈cs,u.oneCell'=true) (w:World) {L:List (Elem α)} {ops:Array Oper} {o:Oper} {a:Act} {K:Act->World->Prop} {Q:Exit->Act->World->Prop} {E:Prop}
  (d:Nat) (hdst:o.dst=some d) (hg:o.guard=none) (s y:Operand) (ho:o.op=.call { callee:=.builtin .append,args:=#[s,y],argTypes:=#[t,t] })
  (base:Nat) (v u:Value) (M:List α) (fp:List Nat) (hs:a.eval s=v) (hown:RowN S base e v L w) (hy:a.eval y=u) (HM:(Zaa S).R w [u] M fp) (hfp:∀ b∈fp,v.ownBlock≠some b)
  (h63:L.length+M.length<=maxLen) (hbytes:(L.length+M.length) * bytes<=140737488355328) (hbase:base<=w.heap.size)
  (h:∀ v' X w',X.map (·.d)=M->(∀ x∈X,∀ b∈x.fp,b∈fp)->RowN S base e v' (L++X) w'->w.grownBy w' v.ownBlock->(v'.ownBlock=v.ownBlock\/v'.ownBlock=some w.heap.size)->K (a.put (some d) v') w'):if Region.wanted o (yielded ops a.tmps)=true then Oper.wp P o a w K Q else E:=by
 rw [← hdst] at h
 have hwt:Region.wanted o (yielded ops a.tmps)=true:=by simp [Region.wanted,hg]
 rw [if_pos hwt]
 exact Zd3 ti hzs h0 hone w s y ho base v u M fp hs hown hy HM hfp h63 hbytes hbase h
theorem XpOf.none {fp:List Nat} {r:XRes} {l:Nat} {c:Int} {w W:World} (h:r=([],l,c)) (hb:Below w.heap.size w W):XpOf fp r w (.returned (.tuple #[.slice (some ⟨W.heap.size,0,none⟩) 0 0,.int .i64 (l:Nat),.int .i64 c])) (W.alloc (.cells #[] 57)):=
 ⟨_,[],by rw [h],RowN.lit0 sTok 57 W hb.size,by rw [h];rfl,by simp,hb.alloc hb.size _⟩
structure ToDo (base:Nat) (fp:List Nat) (vo:Value) (vw:Value) (W:List Tok) (fpw:List Nat) (w:World):Prop where
 r:(Zaa sTok).R w [vw] W fpw
 o:∀ b∈fpw,vo.ownBlock≠some b
 l:∀ b∈fpw,b∈fp\/base<=b
theorem ToDo.below {base:Nat} {fp fpw:List Nat} {vo vw:Value} {W:List Tok} {w w':World} (h:ToDo base fp vo vw W fpw w) (hb:Below w.heap.size w w'):ToDo base fp vo vw W fpw w':=⟨(Zaa sTok).below h.r hb,h.o,h.l⟩
theorem ToDo.lt {base:Nat} {fp fpw:List Nat} {vo vw:Value} {W:List Tok} {w:World} (h:ToDo base fp vo vw W fpw w):∀ b∈fpw,b<w.heap.size:=(Zaa sTok).lt h.r
theorem ToDo.next {base:Nat} {fp fpw:List Nat} {vo vw vn:Value} {W:List Tok} {w w6:World} {L X:List (Elem Tok)} {lo:Nat} (h:ToDo base fp vo vw W fpw w) (hlo:base<=lo) (hvo:∀ b,vo.ownBlock=some b->b<lo) (hr:RowN sTok lo 57 vn (L++X) w6) (hL:∀ x∈L,∀ b∈x.fp,lo<=b) (hX:∀ x∈X,∀ b∈x.fp,b∈fpw) :
  ∃ fp',ToDo base fp vo vn ((L++X).map (·.d)) fp' w6:=by
 obtain⟨f,r1,r2,-⟩:=hr.read
 refine ⟨f,r1,λ b hb hv=>?_,λ b hb=>?_⟩
 ·have h1:=hvo b hv
  rcases r2 b hb with h0 | ⟨x,hx,h0⟩
  ·have:=(hr.mine b h0).1;omega
  ·rcases Qa hx with hx | hx
   ·have:=hL x hx b h0;omega
   ·exact h.o b (hX x hx b h0) hv
 ·rcases r2 b hb with h0 | ⟨x,hx,h0⟩
  ·have:=(hr.mine b h0).1;right;omega
  ·rcases Qa hx with hx | hx
   ·have:=hL x hx b h0;right;omega
   ·exact h.l b (hX x hx b h0)
theorem ZiC {T:List DMacro} {N:List ByteArray} {n:Nat} (IH:∀ j,j<n->ExpC T N j) (hn:n<=1000) (hTab:∀ m∈T,macOk m=true) (hT:∀ m∈T,m.name∈N) (hN:N.length<=5000):ExpC T N n:=by
 intro vT fpT v l fp s w hs hl hH HT H
 have HTBL:=Qh HT
 have HLT:=Qh ((Zaa sTok).lt H)
 obtain⟨a,cap,rfl,-⟩:=Zac H
 obtain⟨aT,cT,rfl,-⟩:=Zac HT
 have b1:=Zab w (.cells #[] 57)
 have b2:=Zab (w.alloc (.cells #[] 57)) (.cells #[] 57)
 have b12:=b1.trans (b2.mono b1.size)
 have hs1:(w.alloc (.cells #[] 57)).heap.size=w.heap.size+1:=Array.size_push _
 have hs2:((w.alloc (.cells #[] 57)).alloc (.cells #[] 57)).heap.size=w.heap.size+2:=by show ((w.heap.push _).push _).size=_;simp
 have HO0:=Qh ((RowN.lit0 sTok 57 w (Nat.le_refl _)).below b2)
 have HW0:=Qh (RowN.lit0 sTok 57 (w.alloc (.cells #[] 57)) (base:=w.heap.size) b1.size)
 rw [hs1] at HW0
 have HL2:=Qh ((Zaa sTok).below H b12)
 have HHI:=Qh hH
 clear H HT hH b2 hs1
 go_enter Tryz.func37,Tryz.ntmps37
 go_upto_region 3 with(at_builtin;refine Zbd ZaE rfl (by decide) ZaI _ rfl (.tmp 20) (.tmp 21) rfl w.heap.size (.slice (some ⟨w.heap.size+1,0,none⟩) 0 0) (.slice a l.length cap) l fp rfl HW0.out rfl HL2.out (λ b hb e=>by simp only [Value.ownBlock,Qi] at e;have:=HLT.out b hb;omega) (by unfold maxLen;simp;omega) (by simp;omega) b12.size ?_;intro v5 X w5 hX hXf hR5 hg5 hp5)
 have hb5:Below w.heap.size w w5:=b12.grown hg5 b12.size (λ b hb=>by simp only [Value.ownBlock,Qi] at hb;omega)
 have HO5:=Qh (HO0.out.same (λ g hg=>hg5.block g (HO0.out.mine g hg).2 (λ e=>by simp only [Value.ownBlock,Qi] at hg e;omega)) (λ x hx=>by simp at hx))
 rw [List.nil_append] at hR5
 obtain⟨fpw,rw5,rwf,-⟩:=hR5.read
 rw [hX] at rw5
 have HTD:Hid (ToDo w.heap.size fp (.slice (some ⟨w.heap.size,0,none⟩) 0 0) v5 l fpw w5):=⟨rw5,λ b hb hv=>by
   simp only [Value.ownBlock,Qi] at hv
   rcases rwf b hb with h | ⟨x,hx,h⟩
   ·rcases hp5 with e | e
    ·rw [e] at h;simp only [Value.ownBlock,Qi] at h;omega
    ·rw [e,Qi] at h;have:=hs2;omega
   ·have:=HLT.out b (hXf x hx b h);omega,λ b hb=>by
   rcases rwf b hb with h | ⟨x,hx,h⟩
   ·exact .inr (hR5.mine b h).1
   ·exact .inl (hXf x hx b h)⟩
 clear HO0 HW0 HL2 b1 b12 hX hXf hR5 hg5 hp5 rw5 rwf hs2
 go_wp2
 go_loopw [2,9,10] (λ vs vo vw wr=>∃ (j s':Nat) (O:List (Elem Tok)) (W:List Tok) (fpw:List Nat),s'<=j/\j<=n/\vs=.int .i64 s'/\W.length<=100/\O.length<=60/\Hid (RowN sTok w.heap.size 57 vo O wr)/\Hid (∀ x∈O,∀ b∈x.fp,b∈fp\/w.heap.size<=b)/\Hid (ToDo w.heap.size fp vo vw W fpw wr)/\Hid (expG T n s [] l=expG T j s' (O.map (·.d)) W)/\Hid (∀ t∈W,HidIn N t)/\Below w.heap.size w wr) (λ vs _ vw _=>(intOf vs).toNat * 1000+lenOf vw)
 case atStart=>exact⟨n,s,[],l,fpw,hs,Nat.le_refl _,rfl,hl,by simp,HO5,(λ x hx=>by simp at hx),HTD,rfl,HHI,hb5⟩
 case round =>
  clear HO5 HTD hb5
  obtain⟨j,s',O,W,fpw,hsj,hjn,rfl,hW,hO,HRO,HOL,HTD,HGO,HHW,hb⟩:=hrel
  obtain⟨ao,co,hvo,-⟩:=HRO.out.val
  subst hvo
  obtain⟨aw,cw,rfl,hcw,hmw,hroww⟩:=Zac HTD.out.r
  unfold maxLen at hmw
  have hs'n:s'<=1000:=by omega
  cases W with
  |
   nil =>
   have HF:=Qh (HGO.out.trans Zb8)
   clear hroww
   go_wp2
   go_ret3
   exact⟨.slice ao O.length co,O,by rw [HF.out];rfl,HRO.out,by rw [HF.out],HOL.out,hb⟩
  |
   cons t r =>
   obtain⟨bw,ow,-,rfl,-,-,-⟩:=hroww (by simp)
   obtain⟨xa,xc,xf,c0,c1,c2,c3,xR,hbb,hxf⟩:=ZaQ HTD.out.r (j:=0) (by simp)
   simp only [List.getElem_cons_zero,Nat.zero_mul,Nat.add_zero] at c0 c1 c2 c3 xR
   have HXF:=Qh hxf
   have XR:=Qh xR
   have HCE:Hid (∀ U:World,Below wr.heap.size wr U->U.cell? ⟨bw,ow,none⟩=some (.int .i64 t.kind)/\U.cell? ⟨bw,ow+1,none⟩=some (.string t.text)/\U.cell? ⟨bw,ow+2,none⟩=some (.bool t.spaced)/\U.cell? ⟨bw,ow+3,none⟩=some (.slice xa t.hidden.length xc)):=λ U hU=>⟨(hU.cell (p:=⟨bw,ow,none⟩) hbb).trans c0,(hU.cell (p:=⟨bw,ow+1,none⟩) hbb).trans c1,(hU.cell (p:=⟨bw,ow+2,none⟩) hbb).trans c2,(hU.cell (p:=⟨bw,ow+3,none⟩) hbb).trans c3⟩
   have HFD:=Qh (Zkm _ T fpT _ t xf wr ((Zaa sMacro).below HTBL.out hb) xR)
   have HT1:Hid (∀ hr:0<r.length,∃ (ya:Option Addr) (yc:Nat) (yf:List Nat),(∀ U:World,Below wr.heap.size wr U->U.cell? ⟨bw,ow+4,none⟩=some (.int .i64 r[0].kind)/\U.cell? ⟨bw,ow+4+1,none⟩=some (.string r[0].text)/\U.cell? ⟨bw,ow+4+2,none⟩=some (.bool r[0].spaced)/\U.cell? ⟨bw,ow+4+3,none⟩=some (.slice ya r[0].hidden.length yc))/\sTok.R wr [.int .i64 r[0].kind,.string r[0].text,.bool r[0].spaced,.slice ya r[0].hidden.length yc] r[0] yf):=λ hr=>by
    obtain⟨ya,yc,yf,d0,d1,d2,d3,yR,-,-⟩:=ZaQ HTD.out.r (j:=1) (by simpa using hr)
    simp only [List.getElem_cons_succ,Nat.one_mul] at d0 d1 d2 d3 yR
    exact⟨ya,yc,yf,λ U hU=>⟨(hU.cell (p:=⟨bw,ow+4,none⟩) hbb).trans d0,(hU.cell (p:=⟨bw,ow+4+1,none⟩) hbb).trans d1,(hU.cell (p:=⟨bw,ow+4+2,none⟩) hbb).trans d2,(hU.cell (p:=⟨bw,ow+4+3,none⟩) hbb).trans d3⟩,yR⟩
   obtain⟨NW,HNW⟩:∃ NW:Nat,Hid (NW=(t::r).length):=⟨(t::r).length,Qh rfl⟩
   rw [show (t::r).length=NW from HNW.out.symm] at HTD hcw hW ⊢
   have hNW:0<NW:=by have:=HNW.out;rw [List.length_cons] at this;omega
   have hNWi:(0:Int)<(NW:Int):=by omega
   obtain⟨NO,HNO⟩:∃ NO:Nat,Hid (NO=O.length):=⟨O.length,Qh rfl⟩
   rw [show O.length=NO from HNO.out.symm] at HRO HTD hO ⊢
   have hwr:=hb.size
   clear xR hxf hroww
   go_wp2_with fail
   refine HFD.out.mono ?_
   rintro e w3 (⟨hf,rfl,hb3⟩ | ⟨m,a2,a3,c2_,c3_,fm,hf,rfl,RM,hfm,hb3⟩)
   ·have HG:=Qh (go_none (r:=r) hf)
    have bm:=Zab w3 (.cells #[.string ⟨#[]⟩,.bool false,.slice none 0 0,.slice none 0 0] 70)
    have hb4:=hb3.trans (bm.mono hb3.size)
    clear HFD
    go_upto_region 6 with fail
    clear c0 c1 c2 c3 hf
    generalize (w3.alloc (.cells #[.string ⟨#[]⟩,.bool false,.slice none 0 0,.slice none 0 0] 70))=w4 at *
    obtain⟨c0,c1,c2,c3⟩:=HCE.out w4 hb4
    have bl:=Zab w4 (.cells #[.int .i64 t.kind,.string t.text,.bool t.spaced,.slice xa t.hidden.length xc] 57)
    have HL5:=Qh (heap_alloc_new w4 (.cells #[.int .i64 t.kind,.string t.text,.bool t.spaced,.slice xa t.hidden.length xc] 57))
    have hb5:=hb4.trans (bl.mono hb4.size)
    have HRO5:=Qh (HRO.out.below hb5)
    have HTD5:=Qh (HTD.out.below hb5)
    have XR5:=Qh (sTok.below XR.out hb5)
    have hbw5:=hb.trans (hb5.mono hb.size)
    have HOM:=Qh HRO.out.mine
    have HTL:=Qh HTD.out.lt
    have HXO:Hid (∀ b∈xf,(Value.slice ao NO co).ownBlock≠some b):=λ b hb h=>HTD.out.o b (HXF.out b hb) h
    clear bl
    go_upto_region 7 with(at_builtin;refine ZaK (X:=[(⟨[.int .i64 t.kind,.string t.text,.bool t.spaced,.slice xa t.hidden.length xc],t,xf⟩:Elem Tok)]) ZaE rfl (by decide) _ rfl (.tmp 52) (.tmp 56) rfl w.heap.size (.slice ao NO co) rfl HRO5.out ⟨w4.heap.size,0,none⟩ 1 1 rfl rfl (λ x hx=>by obtain rfl:=Qm hx;exact⟨rfl,XR5.out,HXO.out⟩) (λ x hx=>by obtain rfl:=Qm hx;exact ZaI _ _ _ _ XR5.out) (λ j u hj=>by rw [ZaN,Nat.zero_add,cell_of_row _ _ _ _ _ _ HL5.out];simpa using hj) (by have:=HNO.out;unfold maxLen;omega) (by have:=HNO.out;omega) hbw5.size ?_;intro v7 w7 hR7 hg7 hp7)
    have hb7:Below w.heap.size w w7:=hbw5.grown hg7 hbw5.size (λ b hb=>(HOM.out b hb).1)
    have HR7:=Qh hR7
    have HTD7:Hid (ToDo w.heap.size fp v7 (.slice (some ⟨bw,ow,none⟩) NW cw) (t::r) fpw w7):=⟨(Zaa sTok).frame (λ b hb'=>hg7.block b (HTD5.out.lt b hb') (λ e=>HTD.out.o b hb' e.symm)) HTD5.out.r,λ b hb' hv=>by
      rcases hp7 with e | e
      ·exact HTD.out.o b hb' (by rw [← e];exact hv)
      ·rw [e,Qi] at hv;have:=HTD5.out.lt b hb';omega,HTD.out.l⟩
    have HOL7:Hid (∀ x∈O++[(⟨[.int .i64 t.kind,.string t.text,.bool t.spaced,.slice xa t.hidden.length xc],t,xf⟩:Elem Tok)],∀ b∈x.fp,b∈fp\/w.heap.size<=b):=λ x hx b hb'=>by
     rcases Qa hx with hx | hx
     ·exact HOL.out x hx b hb'
     ·rw [Qm hx] at hb';exact HTD.out.l b (HXF.out b hb')
    obtain⟨a7,c7,hv7,-⟩:=hR7.val
    rw [show (O++[(⟨[.int .i64 t.kind,.string t.text,.bool t.spaced,.slice xa t.hidden.length xc],t,xf⟩:Elem Tok)]).length=NO+1 by rw [List.length_append,HNO.out];rfl] at hv7
    subst hv7
    clear hR7 hg7 hp7 HRO5 HTD5 XR5 HL5 hb5 hbw5
    obtain⟨sv,HSV⟩:∃ sv:Value,Hid (sv=.slice (if cw=1 then some ⟨bw,ow,none⟩ else some ⟨bw,ow+4,none⟩) (NW-1) (cw-1)):=⟨_,Qh rfl⟩
    have o1:(1:Int)<=(NW:Int):=by omega
    have o2:1<=NW:=hNW
    have o3:1<=cw:=by omega
    have o4:(1:Int)<=(cw:Int):=by omega
    clear c0 c1 c2 c3
    go_cut [10] from 23 to 125 (λ d wx=>d=sv/\wx=w7)
    case first =>
     by_cases h1:cw=1
     ·have HSV1:Hid (sv=.slice (some ⟨bw,ow,none⟩) (NW-1) (cw-1)):=by show _=_;rw [HSV.out,if_pos h1]
      have HC1:=Qh h1
      go_wp2
      go_meet
      case rel=>exact⟨by rw [HSV1.out];simp [HC1.out],by trivial⟩
     ·have HSV1:Hid (sv=.slice (some ⟨bw,ow+4,none⟩) (NW-1) (cw-1)):=by show _=_;rw [HSV.out,if_neg h1]
      go_wp2
      go_meet
      case rel=>exact⟨by rw [HSV1.out],by trivial⟩
    obtain⟨rfl,rfl⟩:=hcut
    try generalize wc=w7 at *
    obtain⟨fps,RS0,hfs⟩:=Zbg 1 (by have:=HNW.out;omega:1<=(t::r).length) HTD7.out.r
    have HRS:Hid (ToDo w.heap.size fp (.slice a7 (NO+1) c7) u10 r fps w7):=⟨by rw [HSV.out];exact RS0,λ b hb'=>HTD7.out.o b (hfs b hb'),λ b hb'=>HTD7.out.l b (hfs b hb')⟩
    have HLN:Hid (lenOf u10=NW-1):=by show _=_;rw [HSV.out];rfl
    clear RS0 hfs
    by_cases hfl:60<NO+1
    ·have HF:=Qh (HGO.out.trans (Zbw HG.out (by rw [List.length_map,← HNO.out];exact hfl)))
     have e6:(60:Int)<((NO:Nat):Int)+1:=by omega
     go_wp2
     go_ret3
     exact XpOf.none HF.out hb7
    ·have HGN:Hid (expG T n s [] l=expG T j s' ((O++[(⟨[.int .i64 t.kind,.string t.text,.bool t.spaced,.slice xa t.hidden.length xc],t,xf⟩:Elem Tok)]).map (·.d)) r):=by show _=_;rw [HGO.out,Zbv HG.out (by rw [List.length_map,← HNO.out];exact hfl),List.map_append];rfl
     have e6:¬ (60:Int)<((NO:Nat):Int)+1:=by omega
     have HHR:Hid (∀ u∈r,HidIn N u):=λ u hu=>HHW.out u (by simp [hu])
     have hrl:r.length<=100:=by have:=HNW.out;rw [List.length_cons] at this;omega
     have hol:(O++[(⟨[.int .i64 t.kind,.string t.text,.bool t.spaced,.slice xa t.hidden.length xc],t,xf⟩:Elem Tok)]).length<=60:=by rw [List.length_append,← HNO.out];simp;omega
     go_wp2
     go_roundw
     case rel=>first | exact⟨j,s',_,r,fps,hsj,hjn,rfl,hrl,hol,HR7,HOL7,HRS,HGN,HHR,hb7⟩ | ((repeat apply Exists.intro);exact⟨⟨j,s',_,r,fps,hsj,hjn,rfl,hrl,hol,HR7,HOL7,HRS,HGN,HHR,hb7⟩,rfl⟩)
     case measure=>rw [HLN.out];simp [intOf,lenOf];omega
   ·have bm:=Zab w3 (.cells #[.string m.name,.bool m.function,.slice a2 m.params.length c2_,.slice a3 m.body.length c3_] 70)
    have hbk:=hb3.trans (bm.mono hb3.size)
    have HXk:=Qh (heap_alloc_new w3 (.cells #[.string m.name,.bool m.function,.slice a2 m.params.length c2_,.slice a3 m.body.length c3_] 70))
    have RMk:=Qh (sMacro.below RM bm)
    have HFM:=Qh hf
    have HMN:Hid (macOk m=true/\m.name∈N):=⟨hTab _ (Zit hf),hT _ (Zit hf)⟩
    clear HFD RM hf
    go_upto_region 5 with fail
    clear c0 c1 c2 c3
    have hwb:w.heap.size<=w3.heap.size:=Nat.le_trans hwr hb3.size
    obtain⟨mb,HMB⟩:∃ mb:Nat,Hid (mb=w3.heap.size):=⟨_,Qh rfl⟩
    generalize (w3.alloc (.cells #[.string m.name,.bool m.function,.slice a2 m.params.length c2_,.slice a3 m.body.length c3_] 70))=wk at *
    rw [show w3.heap.size=mb from HMB.out.symm] at HXk ⊢
    obtain⟨op,HOP⟩:∃ op:Bool,Hid (op=ZeI r):=⟨_,Qh rfl⟩
    obtain⟨fu,HFU⟩:∃ fu:Bool,Hid (fu=m.function):=⟨_,Qh rfl⟩
    rw [show m.function=fu from HFU.out.symm] at HXk
    go_cut [51] from 23 to 125 (λ d wx=>d=.bool (fu && !op)/\Below wk.heap.size wk wx)
    case first =>
     have m1:=Qc 1 HXk.out
     cases fu
     ·go_wp2
      go_meet
      case rel=>exact⟨rfl,Below.refl _ _⟩
     ·by_cases h1:NW=1
      ·subst h1
       have HOF:Hid (op=false):=by
        have h2:=HNW.out
        cases r with
        | nil=>exact HOP.out
        | cons u q=>simp at h2
       go_wp2
       go_meet
       case rel=>exact⟨by rw [HOF.out];rfl,Below.refl _ _⟩
      ·have hr:0<r.length:=by have:=HNW.out;rw [List.length_cons] at this;omega
       have e1:((NW:Int)==1)=false:=by simp;omega
       have e2:¬ (NW:Int)=1:=by omega
       have e3:(1:Int)<(NW:Int):=by omega
       have e4:1<NW:=by omega
       obtain⟨ya,yc,yf,hd,yR⟩:=HT1.out hr
       obtain⟨d0,d1,d2,d3⟩:=hd wk hbk
       have HQ:=Qh (ZcV _ r[0] yf wk ⟨#[40]⟩ (sTok.below yR hbk))
       have HL40:Hid ((decide (r[0].kind=4) && (r[0].text.toList==(⟨#[40]⟩:ByteArray).toList))=op):=by
        show _=_
        rw [show (⟨#[40]⟩:ByteArray).toList=[40] by rw [ByteArray.toList_eq],HOP.out]
        cases r with
        | nil=>simp at hr
        | cons u q=>rfl
       rw [HL40.out] at HQ
       clear HL40 hd yR h1
       go_wp2_with fail
       refine HQ.out.mono ?_
       rintro e u1 ⟨rfl,g1⟩
       go_wp2
       go_meet
       case rel=>exact⟨rfl,g1⟩
    obtain⟨rfl,hbc⟩:=hcut
    generalize wc=w4 at *
    have hb4:=hbk.trans (hbc.mono hbk.size)
    have HX4:=Qh (mbox HXk.out hbc)
    have RM4:=Qh (sMacro.below RMk.out hbc)
    clear RMk HXk hbc bm hb3 hbk
    cases hfo:(fu && !op)
    rotate_left
    ·have HG:Hid (goM T (t::r)=none):=by
      simp only [Bool.and_eq_true,Bool.not_eq_true'] at hfo
      exact go_shut (r:=r) HFM.out (by rw [← HFU.out];exact hfo.1) (by rw [← HOP.out];exact hfo.2)
     clear HX4 RM4 HFM HMN HMB HOP HFU hfo hfm hwb
     go_upto_region 6 with fail
     obtain⟨c0,c1,c2,c3⟩:=HCE.out w4 hb4
     have bl:=Zab w4 (.cells #[.int .i64 t.kind,.string t.text,.bool t.spaced,.slice xa t.hidden.length xc] 57)
     have HL5:=Qh (heap_alloc_new w4 (.cells #[.int .i64 t.kind,.string t.text,.bool t.spaced,.slice xa t.hidden.length xc] 57))
     have hb5:=hb4.trans (bl.mono hb4.size)
     have HRO5:=Qh (HRO.out.below hb5)
     have HTD5:=Qh (HTD.out.below hb5)
     have XR5:=Qh (sTok.below XR.out hb5)
     have hbw5:=hb.trans (hb5.mono hb.size)
     have HOM:=Qh HRO.out.mine
     have HTL:=Qh HTD.out.lt
     have HXO:Hid (∀ b∈xf,(Value.slice ao NO co).ownBlock≠some b):=λ b hb h=>HTD.out.o b (HXF.out b hb) h
     clear bl
     go_upto_region 7 with(at_builtin;refine ZaK (X:=[(⟨[.int .i64 t.kind,.string t.text,.bool t.spaced,.slice xa t.hidden.length xc],t,xf⟩:Elem Tok)]) ZaE rfl (by decide) _ rfl (.tmp 52) (.tmp 56) rfl w.heap.size (.slice ao NO co) rfl HRO5.out ⟨w4.heap.size,0,none⟩ 1 1 rfl rfl (λ x hx=>by obtain rfl:=Qm hx;exact⟨rfl,XR5.out,HXO.out⟩) (λ x hx=>by obtain rfl:=Qm hx;exact ZaI _ _ _ _ XR5.out) (λ j u hj=>by rw [ZaN,Nat.zero_add,cell_of_row _ _ _ _ _ _ HL5.out];simpa using hj) (by have:=HNO.out;unfold maxLen;omega) (by have:=HNO.out;omega) hbw5.size ?_;intro v7 w7 hR7 hg7 hp7)
     have hb7:Below w.heap.size w w7:=hbw5.grown hg7 hbw5.size (λ b hb=>(HOM.out b hb).1)
     have HR7:=Qh hR7
     have HTD7:Hid (ToDo w.heap.size fp v7 (.slice (some ⟨bw,ow,none⟩) NW cw) (t::r) fpw w7):=⟨(Zaa sTok).frame (λ b hb'=>hg7.block b (HTD5.out.lt b hb') (λ e=>HTD.out.o b hb' e.symm)) HTD5.out.r,λ b hb' hv=>by
       rcases hp7 with e | e
       ·exact HTD.out.o b hb' (by rw [← e];exact hv)
       ·rw [e,Qi] at hv;have:=HTD5.out.lt b hb';omega,HTD.out.l⟩
     have HOL7:Hid (∀ x∈O++[(⟨[.int .i64 t.kind,.string t.text,.bool t.spaced,.slice xa t.hidden.length xc],t,xf⟩:Elem Tok)],∀ b∈x.fp,b∈fp\/w.heap.size<=b):=λ x hx b hb'=>by
      rcases Qa hx with hx | hx
      ·exact HOL.out x hx b hb'
      ·rw [Qm hx] at hb';exact HTD.out.l b (HXF.out b hb')
     obtain⟨a7,c7,hv7,-⟩:=hR7.val
     rw [show (O++[(⟨[.int .i64 t.kind,.string t.text,.bool t.spaced,.slice xa t.hidden.length xc],t,xf⟩:Elem Tok)]).length=NO+1 by rw [List.length_append,HNO.out];rfl] at hv7
     subst hv7
     clear hR7 hg7 hp7 HRO5 HTD5 XR5 HL5 hb5 hbw5
     obtain⟨sv,HSV⟩:∃ sv:Value,Hid (sv=.slice (if cw=1 then some ⟨bw,ow,none⟩ else some ⟨bw,ow+4,none⟩) (NW-1) (cw-1)):=⟨_,Qh rfl⟩
     have o1:(1:Int)<=(NW:Int):=by omega
     have o2:1<=NW:=hNW
     have o3:1<=cw:=by omega
     have o4:(1:Int)<=(cw:Int):=by omega
     clear c0 c1 c2 c3
     go_cut [10] from 23 to 125 (λ d wx=>d=sv/\wx=w7)
     case first =>
      by_cases h1:cw=1
      ·have HSV1:Hid (sv=.slice (some ⟨bw,ow,none⟩) (NW-1) (cw-1)):=by show _=_;rw [HSV.out,if_pos h1]
       have HC1:=Qh h1
       go_wp2
       go_meet
       case rel=>exact⟨by rw [HSV1.out];simp [HC1.out],by trivial⟩
      ·have HSV1:Hid (sv=.slice (some ⟨bw,ow+4,none⟩) (NW-1) (cw-1)):=by show _=_;rw [HSV.out,if_neg h1]
       go_wp2
       go_meet
       case rel=>exact⟨by rw [HSV1.out],by trivial⟩
     obtain⟨rfl,rfl⟩:=hcut
     try generalize wc=w7 at *
     obtain⟨fps,RS0,hfs⟩:=Zbg 1 (by have:=HNW.out;omega:1<=(t::r).length) HTD7.out.r
     have HRS:Hid (ToDo w.heap.size fp (.slice a7 (NO+1) c7) u10 r fps w7):=⟨by rw [HSV.out];exact RS0,λ b hb'=>HTD7.out.o b (hfs b hb'),λ b hb'=>HTD7.out.l b (hfs b hb')⟩
     have HLN:Hid (lenOf u10=NW-1):=by show _=_;rw [HSV.out];rfl
     clear RS0 hfs
     by_cases hfl:60<NO+1
     ·have HF:=Qh (HGO.out.trans (Zbw HG.out (by rw [List.length_map,← HNO.out];exact hfl)))
      have e6:(60:Int)<((NO:Nat):Int)+1:=by omega
      go_wp2
      go_ret3
      exact XpOf.none HF.out hb7
     ·have HGN:Hid (expG T n s [] l=expG T j s' ((O++[(⟨[.int .i64 t.kind,.string t.text,.bool t.spaced,.slice xa t.hidden.length xc],t,xf⟩:Elem Tok)]).map (·.d)) r):=by show _=_;rw [HGO.out,Zbv HG.out (by rw [List.length_map,← HNO.out];exact hfl),List.map_append];rfl
      have e6:¬ (60:Int)<((NO:Nat):Int)+1:=by omega
      have HHR:Hid (∀ u∈r,HidIn N u):=λ u hu=>HHW.out u (by simp [hu])
      have hrl:r.length<=100:=by have:=HNW.out;rw [List.length_cons] at this;omega
      have hol:(O++[(⟨[.int .i64 t.kind,.string t.text,.bool t.spaced,.slice xa t.hidden.length xc],t,xf⟩:Elem Tok)]).length<=60:=by rw [List.length_append,← HNO.out];simp;omega
      go_wp2
      go_roundw
      case rel=>first | exact⟨j,s',_,r,fps,hsj,hjn,rfl,hrl,hol,HR7,HOL7,HRS,HGN,HHR,hb7⟩ | ((repeat apply Exists.intro);exact⟨⟨j,s',_,r,fps,hsj,hjn,rfl,hrl,hol,HR7,HOL7,HRS,HGN,HHR,hb7⟩,rfl⟩)
      case measure=>rw [HLN.out];simp [intOf,lenOf];omega
    have HG:Hid (goM T (t::r)=some m):=go_take (r:=r) HFM.out (λ h=>by rw [HFU.out,HOP.out,h.1,h.2] at hfo;simp at hfo)
    clear HFM hfo HOP HT1
    have hB4:=hb.trans (hb4.mono hb.size)
    by_cases hz:s'=0
    ·subst hz
     have HF:=Qh (HGO.out.trans (Zc8 HG.out))
     go_wp2
     go_ret3
     exact XpOf.none HF.out hB4
    obtain⟨s1,HS1⟩:∃ s1,Hid (s'=s1+1):=⟨s'-1,by show _=_;omega⟩
    obtain⟨j1,HJ1⟩:∃ j1,Hid (j=j1+1):=⟨j-1,by show _=_;omega⟩
    have hwz:IntKind.i64.wrap ((s':Int)-1)=(s1:Int):=by rw [IntWalk.i64_in _ (by omega)];have:=HS1.out;omega
    have hzi:¬ (s':Int)=0:=by omega
    have hzb:((s':Int)==0)=false:=by simp;omega
    rw [HS1.out,HJ1.out] at HGO
    obtain⟨m0,m1,m2,m3⟩:=Q4 HX4.out
    go_upto_region 13 with fail
    clear hwz hzi hzb
    have hl1:s1<=j1:=by have:=HS1.out;have:=HJ1.out;omega
    have hj1:j1<n:=by have:=HJ1.out;omega
    have RM5:=RM4.out
    rw [show m.function=fu from HFU.out.symm] at RM5
    clear RM4
    have hlen:(t::r).length<=100:=by rw [← HNW.out];exact hW
    cases fu
    rotate_left
    ·obtain⟨hr,hop⟩:=Zlq HG.out HFU.out.symm
     have HCL:=Qh (Zks (IH j1 hj1) (by omega) hT hN _ fpT _ m fm _ (t::r) fpw s1 w4 HMN.out.1 HMN.out.2 hl1 hlen (by simpa using hr) (by simpa using hop) HHW.out ((Zaa sMacro).below HTBL.out hB4) RM5 ((Zaa sTok).below HTD.out.r hb4))
     have HLF:=Qh (Zlh (f:=λ a k=>expG T j1 k [] a) (λ a k=>ZhQ T j1 a k []) m (t::r) s1)
     have HCI:=Qh (Zke (f:=λ a k=>expG T j1 k [] a) (λ a k ha=>ZfT hT j1 a k [] (by simp) ha) HMN.out.2 HHW.out s1)
     have HCK:=Qh (ZmV (λ a k=>expG T j1 k [] a) m (t::r) s1)
     rcases hq:callX (λ a k=>expG T j1 k [] a) m (t::r) s1 with⟨bd,en,lf,c⟩
     rw [hq] at HCL HLF HCI HCK
     unfold CallOf at HCL
     try dsimp only at HCL HLF HCI HCK
     have HCQ:=Qh hq
     have hN2:2<=NW:=by have:=HNW.out;rw [List.length_cons] at this;omega
     clear hq RM5 hr hop hlen
     go_wp2_with fail
     refine HCL.out.mono ?_
     rintro e w5 ⟨vb,L,rfl,RL,hLd,hLf,hb5⟩
     clear m0 m1 m2 m3 HCL
     have hB5:=hB4.trans (hb5.mono hB4.size)
     obtain⟨ab,cb,hvb,-⟩:=RL.val
     subst hvb
     by_cases hc0:c=0
     rotate_left
     ·have HF:=Qh (HGO.out.trans (ZbX HG.out HFU.out.symm HCQ.out hc0))
      have e2:(c != 0)=true:=by simp [hc0]
      clear hc0
      go_wp2
      go_ret3
      exact XpOf.none HF.out hB5
     subst hc0
     have HEN:Hid (2<en/\en<=NW):=by
      have:=call_end HCQ.out
      rw [List.length_drop,show (t::r).length=NW from HNW.out.symm] at this
      show _/\_
      omega
     have e2:=HEN.out.2
     have e3:(en:Int)<=(NW:Int):=by omega
     have e4:(0:Int)<=(en:Int):=by omega
     have e5:en<=cw:=by omega
     have e7:(en:Int)<=(cw:Int):=by omega
     have hLn:L.length=bd.length:=by rw [← hLd,List.length_map]
     have HLn:=Qh hLn
     have HLd:=Qh hLd
     have HLf:=Qh hLf
     have HRL:=Qh RL
     have HMI:=Qh HRO.out.mine
     have HTL:=Qh HTD.out.lt
     have HTR:=Qh ((Zaa sTok).below HTD.out.r (hb4.trans (hb5.mono hb4.size)))
     clear hLn hLd hLf RL
     obtain⟨NL,HNL⟩:∃ NL:Nat,Hid (NL=L.length):=⟨_,Qh rfl⟩
     rw [show L.length=NL from HNL.out.symm] at HRL ⊢
     have hwb4:w.heap.size<=w4.heap.size:=hB4.size
     go_upto_region 18 with fail
     go_cut [10] from 23 to 125 (λ d wx=>∃ (fp':List Nat),Hid (ToDo w.heap.size fp (.slice ao NO co) d (bd++(t::r).drop en) fp' wx)/\Below w4.heap.size w4 wx)
     case first =>
      obtain⟨fps,RS0,hfs⟩:=Zbg en (by rw [← HNW.out];exact e2:en<=(t::r).length) HTR.out
      have HRS:=Qh RS0
      have HFS:=Qh hfs
      clear RS0 hfs
      by_cases hce:cw=en
      ·have HRS1:Hid ((Zaa sTok).R w5 [.slice (some ⟨bw,ow,none⟩) (NW-en) 0] ((t::r).drop en) fps):=by have h9:=HRS.out;rw [if_pos hce,show cw-en=0 by omega] at h9;exact h9
       clear HRS
       go_wp2_with (at_builtin;refine Zbd ZaE rfl (by decide) ZaI _ rfl (.tmp 88) (.tmp 91) rfl w4.heap.size (.slice ab NL cb) (.slice (some ⟨bw,ow,none⟩) (NW-en) 0) ((t::r).drop en) fps rfl HRL.out rfl HRS1.out (λ b hb' h=>by have h1:=HRL.out.mine b h;have h2:=HTL.out b (HFS.out b hb');have:=hb4.size;omega) (by have h1:bd.length<=240:=HCK.out;have:=HLn.out;have:=HNW.out;rw [List.length_drop];unfold maxLen;omega) (by have h1:bd.length<=240:=HCK.out;have:=HLn.out;have:=HNW.out;rw [List.length_drop];omega) hb5.size ?_;intro v7 X7 w7 hX7 hXf7 hR7 hg7 hp7)
       have hb7:Below w4.heap.size w4 w7:=hb5.grown hg7 hb5.size (λ b hb'=>(HRL.out.mine b hb').1)
       have HT7:Hid (∃ fp',ToDo w.heap.size fp (.slice ao NO co) v7 (bd++(t::r).drop en) fp' w7):=by
        obtain⟨fp',h'⟩:=ToDo.next HTD.out hwb4 (λ b h=>by have:=(HMI.out b h).2;have:=hb4.size;omega) hR7 HLf.out (λ x hx b hb'=>HFS.out b (hXf7 x hx b hb'))
        rw [List.map_append,HLd.out,hX7] at h'
        exact⟨fp',h'⟩
       clear hX7 hXf7 hR7 hg7 hp7
       go_wp2
       go_meet
       case rel=>obtain⟨fp',h'⟩:=HT7.out;exact⟨fp',h',hb7⟩
      ·have HRS1:Hid ((Zaa sTok).R w5 [.slice (some ⟨bw,ow+en * 4,none⟩) (NW-en) (cw-en)] ((t::r).drop en) fps):=by have h9:=HRS.out;rw [if_neg hce,Option.map_some,ZaN] at h9;exact Qh h9
       clear HRS
       go_wp2_with (at_builtin;refine Zbd ZaE rfl (by decide) ZaI _ rfl (.tmp 88) (.tmp 91) rfl w4.heap.size (.slice ab NL cb) (.slice (some ⟨bw,ow+en * 4,none⟩) (NW-en) (cw-en)) ((t::r).drop en) fps rfl HRL.out rfl HRS1.out (λ b hb' h=>by have h1:=HRL.out.mine b h;have h2:=HTL.out b (HFS.out b hb');have:=hb4.size;omega) (by have h1:bd.length<=240:=HCK.out;have:=HLn.out;have:=HNW.out;rw [List.length_drop];unfold maxLen;omega) (by have h1:bd.length<=240:=HCK.out;have:=HLn.out;have:=HNW.out;rw [List.length_drop];omega) hb5.size ?_;intro v7 X7 w7 hX7 hXf7 hR7 hg7 hp7)
       have hb7:Below w4.heap.size w4 w7:=hb5.grown hg7 hb5.size (λ b hb'=>(HRL.out.mine b hb').1)
       have HT7:Hid (∃ fp',ToDo w.heap.size fp (.slice ao NO co) v7 (bd++(t::r).drop en) fp' w7):=by
        obtain⟨fp',h'⟩:=ToDo.next HTD.out hwb4 (λ b h=>by have:=(HMI.out b h).2;have:=hb4.size;omega) hR7 HLf.out (λ x hx b hb'=>HFS.out b (hXf7 x hx b hb'))
        rw [List.map_append,HLd.out,hX7] at h'
        exact⟨fp',h'⟩
       clear hX7 hXf7 hR7 hg7 hp7
       go_wp2
       go_meet
       case rel=>obtain⟨fp',h'⟩:=HT7.out;exact⟨fp',h',hb7⟩
     obtain⟨fp9,HT9,hbc⟩:=hcut
     generalize wc=w6 at *
     obtain⟨a9,c9,hv9,-⟩:=Zac HT9.out.r
     subst hv9
     have hB6:=hB4.trans (hbc.mono hB4.size)
     have hb6:=hb4.trans (hbc.mono hb4.size)
     obtain⟨N9,HN9⟩:∃ N9:Nat,Hid (N9=(bd++(t::r).drop en).length):=⟨_,Qh rfl⟩
     rw [show (bd++(t::r).drop en).length=N9 from HN9.out.symm] at HT9 ⊢
     clear HRL HTR HTL HMI HLd HLf HLn HNL e2 e3 e4 e5 e7 hb5 hB5
     by_cases hfl:60<N9
     ·have HF:=Qh (HGO.out.trans (Zds HG.out HFU.out.symm HCQ.out (by rw [← HN9.out];exact hfl)))
      have e6:(60:Int)<(N9:Int):=by omega
      go_wp2
      go_ret3
      exact XpOf.none HF.out hB6
     ·have HGN:=Qh (HGO.out.trans (ZdZ HG.out HFU.out.symm HCQ.out (by rw [← HN9.out];exact hfl)))
      have e6:¬ (60:Int)<(N9:Int):=by omega
      have HHR:Hid (∀ u∈bd++(t::r).drop en,HidIn N u):=λ u hu=>by
       rcases Qa hu with h | h
       ·exact HCI.out u h
       ·exact HHW.out u (List.mem_of_mem_drop h)
      have hrl:(bd++(t::r).drop en).length<=100:=by rw [← HN9.out];omega
      have hol:O.length<=60:=by rw [← HNO.out];exact hO
      have hlj:lf<=j1:=Nat.le_trans HLF.out hl1
      have hjn1:j1<=n:=by omega
      have HR6:=Qh (HRO.out.below hb6)
      have hms:lf * 1000+N9<s' * 1000+NW:=by have h1:lf<=s1:=HLF.out;have:=HS1.out;omega
      go_wp2
      go_roundw
      case rel=>first | exact⟨j1,lf,O,_,fp9,hlj,hjn1,rfl,hrl,hol,HR6,HOL,HT9,HGN,HHR,hB6⟩ | ((repeat apply Exists.intro);exact⟨⟨j1,lf,O,_,fp9,hlj,hjn1,rfl,hrl,hol,HR6,HOL,HT9,HGN,HHR,hB6⟩,rfl⟩)
      case measure=>simp [intOf,lenOf];omega
    ·have HSB:=Qh (λ (U:World) (hU:Below w4.heap.size w4 U)=>Zej _ m fm (.slice (some ⟨w4.heap.size,0,none⟩) 0 0) (.slice (some ⟨w4.heap.size+1,0,none⟩) 0 0) [] [] [] [] U (Zji HMN.out.1) (by simp) (by simp) (λ k hk=>by simp at hk) (λ k hk=>by simp at hk) (sMacro.below RM5 hU) (ZaC _ _ _ _ (by simp)) (ZaC _ _ _ _ (by simp)))
     have HSLN:=Qh (ZiB m [] [])
     have HSIN:Hid (∀ t∈(Zap m [] []).1,HidIn N t):=ZfR (λ l hl=>by simp at hl) (λ l hl=>by simp at hl)
     have knm2:m.name.size<=maxLen:=by obtain⟨_,_,_,_,_,knm,_⟩:=RM5;exact knm
     rcases hsub:Zap m [] [] with⟨bd,okb⟩
     unfold Zh0 at HSB
     rw [hsub] at HSB HSLN HSIN
     try dsimp only at HSB
     have HSUB:=Qh hsub
     have HBLN:Hid (bd.length<=240):=HSLN.out
     have HBIN:Hid (∀ t∈bd,HidIn N t):=HSIN.out
     have bl1:=Zab w4 (.cells #[] 28)
     have bl2:=Zab (w4.alloc (.cells #[] 28)) (.cells #[] 28)
     have b2:=bl1.trans (bl2.mono bl1.size)
     clear hsub hlen RM5 HSLN HSIN bl1 bl2
     go_wp2_with fail
     refine (HSB.out _ b2).mono ?_
     rintro e w5 ⟨vb,fb,rfl,Rb,hfb,hb5⟩
     clear m0 m1 m2 m3 HSB
     have hb45:=b2.trans (hb5.mono b2.size)
     have hfb2:∀ b∈fb,w4.heap.size<=b:=λ b hb'=>Nat.le_trans b2.size (hfb b hb')
     clear hfb hb5 b2
     have hB5:=hB4.trans (hb45.mono hB4.size)
     have hbr5:=hb4.trans (hb45.mono hb4.size)
     cases okb
     ·have HF:=Qh (HGO.out.trans (Zd1 HG.out HFU.out.symm HSUB.out))
      go_wp2
      go_ret3
      exact XpOf.none HF.out hB5
     obtain⟨ab,cb,rfl,-⟩:=Zac Rb
     have HRb:=Qh Rb
     have KX:(Zaa sStr).R wr [.slice xa t.hidden.length xc] t.hidden xf:=by
      obtain⟨hv,hcs,-,-,K⟩:=XR.out
      simp only [List.cons.injEq,and_true,true_and] at hcs
      subst hcs;exact K
     have HTHN:Hid (t.hidden.length<=5000):=by have:=(HHW.out t (by simp)).len;show _<=_;omega
     have HXU:Hid (∀ U:World,Below w5.heap.size w5 U->U.heap[mb]?=some (.cells #[.string m.name,.bool false,.slice a2 m.params.length c2_,.slice a3 m.body.length c3_] 70 (0,0))/\U.cell? ⟨bw,ow+2,none⟩=some (.bool t.spaced)/\U.cell? ⟨bw,ow+3,none⟩=some (.slice xa t.hidden.length xc)):=λ U hU=>by
      obtain⟨-,-,h2,h3⟩:=HCE.out U (hbr5.trans (hU.mono hbr5.size))
      exact⟨mbox HX4.out (hb45.trans (hU.mono hb45.size)),h2,h3⟩
     have HUN:=Qh (λ (U:World) (vn:Value) (fn:List Nat) (hU:Below w5.heap.size w5 U) (h2:(Zaa sStr).R U [vn] [m.name] fn)=>ZfY (.slice xa t.hidden.length xc) vn t.hidden m.name xf fn U (by have:=HTHN.out;omega) ((Zaa sStr).below KX (hbr5.trans (hU.mono hbr5.size))) h2)
     have HPUT:=Qh (λ (U:World) (vn:Value) (fn:List Nat) (hU:Below w5.heap.size w5 U) (h2:(Zaa sStr).R U [vn] (ins t.hidden m.name) fn)=>ZgL (.slice ab bd.length cb) bd fb vn _ fn t.spaced U (by have:=HBLN.out;omega) (λ q hq=>by have hq2:HidIn N bd[q]:=HBIN.out _ (List.getElem_mem hq);have:=hq2.len;have:=HTHN.out;have:=Ze2 m.name t.hidden;omega) ((Zaa sTok).below HRb.out hU) h2)
     have HMI:=Qh HRO.out.mine
     have HTL:=Qh HTD.out.lt
     have HTR:=Qh (λ (U:World) (hU:Below w5.heap.size w5 U)=>(Zaa sTok).below HTD.out.r (hbr5.trans (hU.mono hbr5.size)))
     have hcs5:Below w5.heap.size w5 w5.drew:=Zag (Below.refl _ _) 1
     have hwb4:w.heap.size<=w5.heap.size:=hB5.size
     have hwr5:wr.heap.size<=w5.heap.size:=hbr5.size
     have o1:(1:Int)<=(NW:Int):=by omega
     have o2:1<=NW:=hNW
     have o3:1<=cw:=by omega
     have o4:(1:Int)<=(cw:Int):=by omega
     clear KX Rb
     go_upto_region 22 with fail
     go_cut [10] from 23 to 125 (λ d wx=>∃ (fp':List Nat),Hid (ToDo w.heap.size fp (.slice ao NO co) d (putL bd (ins t.hidden m.name) t.spaced++r) fp' wx)/\Below w4.heap.size w4 wx)
     case first =>
      obtain⟨fps,HSD⟩:∃ fps,Hid ((∀ U:World,Below w5.heap.size w5 U->(Zaa sTok).R U [.slice (if cw=1 then some ⟨bw,ow,none⟩ else some ⟨bw,ow+4,none⟩) (NW-1) (cw-1)] r fps)/\∀ b∈fps,b∈fpw):=by
       obtain⟨fps,RS0,hfs⟩:=Zbg 1 (by rw [← HNW.out];exact o2:1<=(t::r).length) (HTR.out w5 (Below.refl _ _))
       exact⟨fps,λ U hU=>(Zaa sTok).below RS0 hU,hfs⟩
      by_cases hce:cw=1
      ·have HRS:Hid ((∀ U:World,Below w5.heap.size w5 U->(Zaa sTok).R U [.slice (some ⟨bw,ow,none⟩) (NW-1) 0] r fps)/\∀ b∈fps,b∈fpw):=by
        have h9:=HSD.out;rw [if_pos hce,show cw-1=0 by omega] at h9;exact Qh h9
       clear HSD
       refine wp_region_noPanic ?_
       refine wp_region_held_drew (S:=λ w'=>w'.heap[mb]?=some (.cells #[.string m.name,.bool false,.slice a2 m.params.length c2_,.slice a3 m.body.length c3_] 70 (0,0))/\w'.cell? ⟨bw,ow+2,none⟩=some (.bool t.spaced)/\w'.cell? ⟨bw,ow+3,none⟩=some (.slice xa t.hidden.length xc)) (by kernel_rfl) (by exact HXU.out _ hcs5) (λ hHeld=>?_)
       generalize w5.drew=wd at *
       refine Qt 0 104 rfl rfl ?_
       try simp only [Qp]
       refine Qt 1 105 rfl rfl ?_
       try simp only [Qp]
       refine Qt 2 106 rfl rfl ?_
       try simp only [Qp]
       refine Qt 3 107 rfl rfl ?_
       try simp only [Qp]
       refine Qt 4 108 rfl rfl ?_ (by intro w hSw;obtain⟨sm,sp,sh⟩:=hSw;have m0:=Qc 0 sm;go_simp;(first | done | with_reducible rfl | rfl))
       try simp only [Qp]
       refine Qt 5 109 rfl rfl ?_
       try simp only [Qp]
       refine Qt 6 110 rfl rfl ?_ (by intro w hSw;obtain⟨sm,sp,sh⟩:=hSw;have m0:=Qc 0 sm;go_simp;(first | done | with_reducible rfl | rfl))
       try simp only [Qp]
       refine Qt 9 113 rfl rfl ?_
       try simp only [Qp]
       refine Qt 10 114 rfl rfl ?_
       try simp only [Qp]
       refine Qt 11 115 rfl rfl ?_
       try simp only [Qp]
       refine Qt 12 116 rfl rfl ?_ (by intro w hSw;obtain⟨sm,sp,sh⟩:=hSw;have m0:=Qc 0 sm;go_simp;(first | done | with_reducible rfl | rfl))
       try simp only [Qp]
       refine Qt 14 118 rfl rfl ?_
       try simp only [Qp]
       refine Qt 15 119 rfl rfl ?_
       try simp only [Qp]
       refine Qr 7 rfl (λ K hK=>?_)
       go_simp
       have bk:=Zab wd (.cells #[.string m.name] 9)
       have RL:=ZbR (heap_alloc_new wd (.cells #[.string m.name] 9)) knm2
       have hx1:=hcs5.trans (bk.mono hcs5.size)
       refine hK.out _ _ (HXU.out _ hx1) (λ hHeld=>?_)
       clear hK K bk
       try simp only [Qp]
       generalize (wd.alloc (.cells #[.string m.name] 9))=wx1 at *
       refine Qr 8 rfl (λ K hK=>?_)
       go_simp
       refine (HUN.out wx1 _ _ hx1 RL).mono ?_
       rintro e wx2 ⟨an_,cn_,fn_,rfl,Rn_,-,-,bz2⟩
       have hx2:=hx1.trans (bz2.mono hx1.size)
       refine hK.out _ _ (HXU.out _ hx2) (λ hHeld=>?_)
       clear hK K RL
       try simp only [Qp]
       refine Qr 13 rfl (λ K hK=>?_)
       go_simp
       refine (HPUT.out wx2 _ _ hx2 Rn_).mono ?_
       rintro e wx3 ⟨v8,L8,rfl,R8,D8,F8,hb8⟩
       have hx3:=hx2.trans (hb8.mono hx2.size)
       obtain⟨a8,c8,hv8,-⟩:=R8.val
       subst hv8
       refine hK.out _ _ (HXU.out _ hx3) (λ hHeld=>?_)
       clear hK K Rn_
       try simp only [Qp]
       have h8l:L8.length=bd.length:=by rw [← List.length_map (f:=λ x:Elem Tok=>x.d),D8,Zdd]
       have hx2s:=hx2.size
       have hx3s:=hb8.size
       refine Qr 16 rfl (λ K hK=>?_)
       refine Zdv ZaE rfl (by decide) ZaI _ 120 rfl rfl (.tmp 117) (.tmp 119) rfl wx2.heap.size (.slice a8 L8.length c8) (.slice (some ⟨bw,ow,none⟩) (NW-1) 0) r fps rfl R8 rfl (HRS.out.1 _ hx3) (λ b hb' h=>by have h1:=R8.mine b h;have h2:=HTL.out b (HRS.out.2 b hb');omega) (by have:=HBLN.out;have:=HNW.out;rw [List.length_cons] at this;unfold maxLen;omega) (by have:=HBLN.out;have:=HNW.out;rw [List.length_cons] at this;omega) hx3s ?_
       intro v7 X7 w7 hX7 hXf7 hR7 hg7 hp7
       have hb43:=hb45.trans (hx3.mono hb45.size)
       have hb7:Below w4.heap.size w4 w7:=hb43.grown hg7 hb43.size (λ b hb'=>by have:=(R8.mine b hb').1;have:=hb45.size;omega)
       have hx7:Below w5.heap.size w5 w7:=hx3.grown hg7 hx3.size (λ b hb'=>by have:=(R8.mine b hb').1;omega)
       have HT7:Hid (∃ fp',ToDo w.heap.size fp (.slice ao NO co) v7 (putL bd (ins t.hidden m.name) t.spaced++r) fp' w7):=by
        obtain⟨fp',h'⟩:=ToDo.next HTD.out (by omega:w.heap.size<=wx2.heap.size) (λ b h=>by have:=(HMI.out b h).2;omega) hR7 F8 (λ x hx b hb'=>HRS.out.2 b (hXf7 x hx b hb'))
        rw [List.map_append,D8,hX7] at h'
        exact⟨fp',h'⟩
       refine hK.out _ _ (HXU.out _ hx7) (λ hHeld=>?_)
       clear hK K R8 D8 F8 hX7 hXf7 hR7 hg7 hp7 HRS
       try simp only [Qp]
       refine Qt 17 10 rfl rfl ?_
       try simp only [Qp]
       refine wpAnyH_done (by kernel_rfl) ?_ _
       refine NoPanic.normal ?_
       clear hHeld
       go_wp2
       go_meet
       case rel=>obtain⟨fp',h'⟩:=HT7.out;exact⟨fp',h',hb7⟩
      ·have HRS:Hid ((∀ U:World,Below w5.heap.size w5 U->(Zaa sTok).R U [.slice (some ⟨bw,ow+4,none⟩) (NW-1) (cw-1)] r fps)/\∀ b∈fps,b∈fpw):=by
        have h9:=HSD.out;rw [if_neg hce] at h9;exact Qh h9
       clear HSD
       refine wp_region_noPanic ?_
       refine wp_region_held_drew (S:=λ w'=>w'.heap[mb]?=some (.cells #[.string m.name,.bool false,.slice a2 m.params.length c2_,.slice a3 m.body.length c3_] 70 (0,0))/\w'.cell? ⟨bw,ow+2,none⟩=some (.bool t.spaced)/\w'.cell? ⟨bw,ow+3,none⟩=some (.slice xa t.hidden.length xc)) (by kernel_rfl) (by exact HXU.out _ hcs5) (λ hHeld=>?_)
       generalize w5.drew=wd at *
       refine Qt 0 104 rfl rfl ?_
       try simp only [Qp]
       refine Qt 1 105 rfl rfl ?_
       try simp only [Qp]
       refine Qt 2 106 rfl rfl ?_
       try simp only [Qp]
       refine Qt 3 107 rfl rfl ?_
       try simp only [Qp]
       refine Qt 4 108 rfl rfl ?_ (by intro w hSw;obtain⟨sm,sp,sh⟩:=hSw;have m0:=Qc 0 sm;go_simp;(first | done | with_reducible rfl | rfl))
       try simp only [Qp]
       refine Qt 5 109 rfl rfl ?_
       try simp only [Qp]
       refine Qt 6 110 rfl rfl ?_ (by intro w hSw;obtain⟨sm,sp,sh⟩:=hSw;have m0:=Qc 0 sm;go_simp;(first | done | with_reducible rfl | rfl))
       try simp only [Qp]
       refine Qt 9 113 rfl rfl ?_
       try simp only [Qp]
       refine Qt 10 114 rfl rfl ?_
       try simp only [Qp]
       refine Qt 11 115 rfl rfl ?_
       try simp only [Qp]
       refine Qt 12 116 rfl rfl ?_ (by intro w hSw;obtain⟨sm,sp,sh⟩:=hSw;have m0:=Qc 0 sm;go_simp;(first | done | with_reducible rfl | rfl))
       try simp only [Qp]
       refine Qt 14 118 rfl rfl ?_
       try simp only [Qp]
       refine Qt 15 119 rfl rfl ?_
       try simp only [Qp]
       refine Qr 7 rfl (λ K hK=>?_)
       go_simp
       have bk:=Zab wd (.cells #[.string m.name] 9)
       have RL:=ZbR (heap_alloc_new wd (.cells #[.string m.name] 9)) knm2
       have hx1:=hcs5.trans (bk.mono hcs5.size)
       refine hK.out _ _ (HXU.out _ hx1) (λ hHeld=>?_)
       clear hK K bk
       try simp only [Qp]
       generalize (wd.alloc (.cells #[.string m.name] 9))=wx1 at *
       refine Qr 8 rfl (λ K hK=>?_)
       go_simp
       refine (HUN.out wx1 _ _ hx1 RL).mono ?_
       rintro e wx2 ⟨an_,cn_,fn_,rfl,Rn_,-,-,bz2⟩
       have hx2:=hx1.trans (bz2.mono hx1.size)
       refine hK.out _ _ (HXU.out _ hx2) (λ hHeld=>?_)
       clear hK K RL
       try simp only [Qp]
       refine Qr 13 rfl (λ K hK=>?_)
       go_simp
       refine (HPUT.out wx2 _ _ hx2 Rn_).mono ?_
       rintro e wx3 ⟨v8,L8,rfl,R8,D8,F8,hb8⟩
       have hx3:=hx2.trans (hb8.mono hx2.size)
       obtain⟨a8,c8,hv8,-⟩:=R8.val
       subst hv8
       refine hK.out _ _ (HXU.out _ hx3) (λ hHeld=>?_)
       clear hK K Rn_
       try simp only [Qp]
       have h8l:L8.length=bd.length:=by rw [← List.length_map (f:=λ x:Elem Tok=>x.d),D8,Zdd]
       have hx2s:=hx2.size
       have hx3s:=hb8.size
       refine Qr 16 rfl (λ K hK=>?_)
       refine Zdv ZaE rfl (by decide) ZaI _ 120 rfl rfl (.tmp 117) (.tmp 119) rfl wx2.heap.size (.slice a8 L8.length c8) (.slice (some ⟨bw,ow+4,none⟩) (NW-1) (cw-1)) r fps rfl R8 rfl (HRS.out.1 _ hx3) (λ b hb' h=>by have h1:=R8.mine b h;have h2:=HTL.out b (HRS.out.2 b hb');omega) (by have:=HBLN.out;have:=HNW.out;rw [List.length_cons] at this;unfold maxLen;omega) (by have:=HBLN.out;have:=HNW.out;rw [List.length_cons] at this;omega) hx3s ?_
       intro v7 X7 w7 hX7 hXf7 hR7 hg7 hp7
       have hb43:=hb45.trans (hx3.mono hb45.size)
       have hb7:Below w4.heap.size w4 w7:=hb43.grown hg7 hb43.size (λ b hb'=>by have:=(R8.mine b hb').1;have:=hb45.size;omega)
       have hx7:Below w5.heap.size w5 w7:=hx3.grown hg7 hx3.size (λ b hb'=>by have:=(R8.mine b hb').1;omega)
       have HT7:Hid (∃ fp',ToDo w.heap.size fp (.slice ao NO co) v7 (putL bd (ins t.hidden m.name) t.spaced++r) fp' w7):=by
        obtain⟨fp',h'⟩:=ToDo.next HTD.out (by omega:w.heap.size<=wx2.heap.size) (λ b h=>by have:=(HMI.out b h).2;omega) hR7 F8 (λ x hx b hb'=>HRS.out.2 b (hXf7 x hx b hb'))
        rw [List.map_append,D8,hX7] at h'
        exact⟨fp',h'⟩
       refine hK.out _ _ (HXU.out _ hx7) (λ hHeld=>?_)
       clear hK K R8 D8 F8 hX7 hXf7 hR7 hg7 hp7 HRS
       try simp only [Qp]
       refine Qt 17 10 rfl rfl ?_
       try simp only [Qp]
       refine wpAnyH_done (by kernel_rfl) ?_ _
       refine NoPanic.normal ?_
       clear hHeld
       go_wp2
       go_meet
       case rel=>obtain⟨fp',h'⟩:=HT7.out;exact⟨fp',h',hb7⟩
     obtain⟨fp9,HT9,hbc⟩:=hcut
     generalize wc=w6 at *
     obtain⟨a9,c9,hv9,-⟩:=Zac HT9.out.r
     subst hv9
     have hB6:=hB4.trans (hbc.mono hB4.size)
     have hb6:=hb4.trans (hbc.mono hb4.size)
     obtain⟨N9,HN9⟩:∃ N9:Nat,Hid (N9=(putL bd (ins t.hidden m.name) t.spaced++r).length):=⟨_,Qh rfl⟩
     rw [show (putL bd (ins t.hidden m.name) t.spaced++r).length=N9 from HN9.out.symm] at HT9 ⊢
     clear HXU HUN HPUT HMI HTL HTR hcs5 o1 o2 o3 o4 HRb hfb2
     by_cases hfl:60<N9
     ·have HF:=Qh (HGO.out.trans (Zd0 HG.out HFU.out.symm HSUB.out (by rw [← HN9.out];exact hfl)))
      have e6:(60:Int)<(N9:Int):=by omega
      go_wp2
      go_ret3
      exact XpOf.none HF.out hB6
     ·have HGN:=Qh (HGO.out.trans (ZeJ HG.out HFU.out.symm HSUB.out (by rw [← HN9.out];exact hfl)))
      have e6:¬ (60:Int)<(N9:Int):=by omega
      have HHR:Hid (∀ u∈putL bd (ins t.hidden m.name) t.spaced++r,HidIn N u):=λ u hu=>by
       rcases Qa hu with h | h
       ·refine Zgd HBIN.out (λ x hx=>?_) u h
        rcases ZcF hx with rfl | hx
        ·exact HMN.out.2
        ·exact(HHW.out t (by simp)).2 x hx
       ·exact HHW.out u (by simp [h])
      have hrl:(putL bd (ins t.hidden m.name) t.spaced++r).length<=100:=by rw [← HN9.out];omega
      have hol:O.length<=60:=by rw [← HNO.out];exact hO
      have hjn1:j1<=n:=by omega
      have HR6:=Qh (HRO.out.below hb6)
      have hms:s1 * 1000+N9<s' * 1000+NW:=by have:=HS1.out;omega
      go_wp2
      go_roundw
      case rel=>first | exact⟨j1,s1,O,_,fp9,hl1,hjn1,rfl,hrl,hol,HR6,HOL,HT9,HGN,HHR,hB6⟩ | ((repeat apply Exists.intro);exact⟨⟨j1,s1,O,_,fp9,hl1,hjn1,rfl,hrl,hol,HR6,HOL,HT9,HGN,HHR,hB6⟩,rfl⟩)
      case measure=>simp [intOf,lenOf];omega
theorem ZcZ (csM:List Value) (m:DMacro) (fpM:List Nat) (v:Value) (a:List (List Tok)) (fp:List Nat) (w:World) (HM:sMacro.R w csM m fpM) (H:(Zaa (Zaa sTok)).R w [v] a fp) :
  Calls Tryz.prog 138 #[.agg csM.toArray,v] w (Says (Zas m a) w):=by
 obtain⟨h2,h3,q2,q3,rfl,-,K2,K3,-⟩:=HM
 obtain⟨a2,c2,rfl,-⟩:=Zaf K2
 obtain⟨a3,c3,rfl,-⟩:=Zac K3
 obtain⟨aa,ca,rfl,hca,hma,hrow⟩:=Zac H
 unfold maxLen at hma
 have b0:=Zab w (.cells #[.string m.name,.bool m.function,.slice a2 m.params.length c2,.slice a3 m.body.length c3] 70)
 have HX:=Qh (heap_alloc_new w (.cells #[.string m.name,.bool m.function,.slice a2 m.params.length c2,.slice a3 m.body.length c3] 70))
 have HA:=Qh ((Zaa (Zaa sTok)).below H b0)
 clear K2 K3 H
 go_enter Tryz.func138,Tryz.ntmps138
 go_upto_region 1 with fail
 generalize (w.alloc (.cells #[.string m.name,.bool m.function,.slice a2 m.params.length c2,.slice a3 m.body.length c3] 70))=W1 at *
 have p2:=Qc 2 HX.out
 by_cases h1:a.length=m.params.length
 rotate_left
 ·have HF:=Qh (Zg9 h1)
  have e1:((a.length:Int) != (m.params.length:Int))=true:=by simp;omega
  clear h1
  go_wp2
  go_ret
  exact⟨Zad HF.out.symm,b0⟩
 have e1:((a.length:Int) != (m.params.length:Int))=false:=by simp;omega
 have H1:=Qh h1
 clear h1
 go_wp2
 clear p2 e1
 go_loopw [15] (λ i wr=>∃ k:Nat,k<=a.length/\i=.int .i64 k/\Hid (∀ j,(hj:j<a.length)->j<k->Zaj a[j]=true)/\Below W1.heap.size W1 wr) (λ i _=>a.length-(intOf i).toNat)
 case atStart=>exact⟨0,by omega,rfl,Qh (λ j _ h=>absurd h (by omega)),Below.refl _ _⟩
 case round =>
  obtain⟨k,hk,rfl,HV,hb⟩:=hrel
  have hBr:=b0.trans (hb.mono b0.size)
  by_cases hlt:k<a.length
  ·obtain⟨b1,o1,-,rfl,-,-,-⟩:=hrow (by omega)
   obtain⟨aj,cj,f1,q1,R1,l1,-⟩:=ZbV HA.out hlt
   replace q1:=(hb.cell (p:=⟨b1,o1+k,none⟩) l1).trans q1
   have HT:=Qh (Zbu _ a[k] f1 wr ((Zaa sTok).below R1 hb))
   clear R1 hrow
   cases hv:Zaj a[k]
   ·have HF:=Qh (Zha (m:=m) hlt hv)
    rw [hv] at HT
    clear hv HV
    go_wp2_with (go_at_call 41;refine (HT.out).mono ?_;rintro e w7 ⟨rfl,hb7⟩)
    go_ret
    exact⟨Zad HF.out.symm,hBr.trans (hb7.mono hBr.size)⟩
   ·have HV1:=Qh hv
    rw [hv] at HT
    clear hv
    have HN:Hid (∀ j,(hj:j<a.length)->j<k+1->Zaj a[j]=true):=Qh (λ j hj hjk=>by
     rcases Nat.lt_succ_iff_lt_or_eq.1 hjk with h | rfl
     ·exact HV.out j hj h
     ·exact HV1.out)
    go_wp2_with (go_at_call 41;refine (HT.out).mono ?_;rintro e w7 ⟨rfl,hb7⟩)
    go_roundw
    case rel=>exact⟨k+1,by omega,by go_num,HN,hb.trans (hb7.mono hb.size)⟩
    case measure=>simp [intOf];omega
  ·have HF:=Qh (Zhb H1.out λ j hj=>HV.out j hj (by omega))
   go_wp2
   go_ret
   exact⟨Zad HF.out.symm,hBr⟩
theorem Zhd (v:Value) (l:List Tok) (fp:List Nat) (k:Nat) (w:World) (hl:l.length<=1000000) (hk:k<l.length) (H:(Zaa sTok).R w [v] l fp) :
  Calls Tryz.prog 149 #[v,.int .i64 k] w λ e w'=>e=.returned (.bool (besL l k || besR l k))/\w'=w:=by
 obtain⟨a,cap,rfl,hc,hm,hrow⟩:=Zac H
 obtain⟨bb,ob,-,rfl,-,-,-⟩:=hrow (by omega)
 unfold maxLen at hm
 have HK:=Qh H
 clear H hrow
 obtain⟨r,HR⟩:∃ r,Hid (r=(besL l k || besR l k)):=⟨_,Qh rfl⟩
 rw [← HR.out]
 have i1:(0:Int)<=(k:Int)+1:=by omega
 have i2:((k:Int)+1).toNat=k+1:=by omega
 have i3:IntKind.i64.wrap ((k:Int)+1)=(k:Int)+1:=IntWalk.i64_in _ (by omega)
 have HRR:Hid (∀ hk2:k+1<l.length,besR l k=(l[k+1].text.toList==[35,35])):=λ hk2=>by unfold besR;rw [dif_pos hk2]
 have HRN:Hid (¬ k+1<l.length->besR l k=false):=λ hk2=>by unfold besR;rw [dif_neg hk2]
 go_enter Tryz.func149,Tryz.ntmps149
 by_cases hk0:0<k
 ·have j0:(0:Int)<(k:Int):=by omega
  have j1:IntKind.i64.wrap ((k:Int)-1)=(k:Int)-1:=IntWalk.i64_in _ (by omega)
  have j2:(0:Int)<=(k:Int)-1:=by omega
  have j3:(k:Int)-1<(l.length:Int):=by omega
  have j4:((k:Int)-1).toNat=k-1:=by omega
  have j5:(1:Int)<=(k:Int):=by omega
  obtain⟨xa,xc,xf,-,x1,-,-,-,-,-⟩:=ZaQ HK.out (j:=k-1) (by omega)
  have HL:Hid (besL l k=((l[k-1]'(by omega)).text.toList==[35,35])):=by show _=_;unfold besL;rw [dif_pos ⟨hk0,by omega⟩]
  generalize (l[k-1]'(by omega)).text=tx at *
  cases hg:(tx.toList==[35,35])
  ·by_cases hk2:k+1<l.length
   ·obtain⟨ya,yc,yf,-,y1,-,-,-,-,-⟩:=ZaQ HK.out (j:=k+1) hk2
    have HF:Hid (r=(l[k+1].text.toList==[35,35])):=by show _=_;rw [HR.out,HL.out,hg,HRR.out hk2];rfl
    have j6:(k:Int)+1<(l.length:Int):=by omega
    go_wp2
    go_ret
    exact⟨by rw [HF.out];rfl,by trivial⟩
   ·have HF:Hid (r=false):=by show _=_;rw [HR.out,HL.out,hg,HRN.out hk2];rfl
    have j6:¬ (k:Int)+1<(l.length:Int):=by omega
    go_wp2
    go_ret
    exact⟨by rw [HF.out];rfl,by trivial⟩
  ·have HF:Hid (r=true):=by show _=_;rw [HR.out,HL.out,hg];rfl
   go_wp2
   go_ret
   exact⟨by rw [HF.out];rfl,by trivial⟩
 ·have j0:¬ (0:Int)<(k:Int):=by omega
  have HL:Hid (besL l k=false):=by show _=_;unfold besL;rw [dif_neg (λ h=>hk0 h.1)]
  by_cases hk2:k+1<l.length
  ·obtain⟨ya,yc,yf,-,y1,-,-,-,-,-⟩:=ZaQ HK.out (j:=k+1) hk2
   have HF:Hid (r=(l[k+1].text.toList==[35,35])):=by show _=_;rw [HR.out,HL.out,HRR.out hk2];rfl
   have j6:(k:Int)+1<(l.length:Int):=by omega
   go_wp2
   go_ret
   exact⟨by rw [HF.out];rfl,by trivial⟩
  ·have HF:Hid (r=false):=by show _=_;rw [HR.out,HL.out,HRN.out hk2];rfl
   have j6:¬ (k:Int)+1<(l.length:Int):=by omega
   go_wp2
   go_ret
   exact⟨by rw [HF.out];rfl,by trivial⟩
theorem Zb3 (ct:List Value) (t:Tok) (fpt:List Nat) (v:Value) (l:List Tok) (fp:List Nat) (w:World) (hl:l.length<=1000000) (hh:∀ k,(hk:k<l.length)->l[k].hidden.length<=2000000) (HT:sTok.R w ct t fpt) (H:(Zaa sTok).R w [v] l fp) :
  Calls Tryz.prog 130 #[.agg ct.toArray,v] w (MineN (spc t.spaced l) w):=by
 obtain⟨ht,rfl,-,-,KT⟩:=HT
 obtain⟨at_,ct_,rfl,-⟩:=Zaf KT
 clear KT
 obtain⟨a,cap,rfl,hc,hm,hrow⟩:=Zac H
 unfold maxLen at hm
 have b0:=Zab w (.cells #[.int .i64 t.kind,.string t.text,.bool t.spaced,.slice at_ t.hidden.length ct_] 57)
 have HX:=Qh (heap_alloc_new w (.cells #[.int .i64 t.kind,.string t.text,.bool t.spaced,.slice at_ t.hidden.length ct_] 57))
 have HK:=Qh ((Zaa sTok).below H b0)
 have HH:=Qh hh
 clear H hh
 go_enter Tryz.func130,Tryz.ntmps130
 go_upto_region 1 with fail
 generalize (w.alloc (.cells #[.int .i64 t.kind,.string t.text,.bool t.spaced,.slice at_ t.hidden.length ct_] 57))=W1 at *
 have hsw:w.heap.size<W1.heap.size:=mlt HX.out
 go_wp2
 go_loopw [5,10] (λ vo i wr=>∃ (k:Nat) (L:List (Elem Tok)),k<=l.length/\i=.int .i64 k/\Hid (L.map (·.d)=l.take k)/\Hid (RowN sTok W1.heap.size 57 vo L wr)/\Hid (Own wr W1.heap.size (L.flatMap (·.fp)))/\Below W1.heap.size W1 wr) (λ _ i _=>l.length-(intOf i).toNat)
 case atStart=>exact⟨0,[],by omega,rfl,rfl,RowN.nil _ _ _ _,Own.nil _ _,Below.refl _ _⟩
 case round =>
  obtain⟨k,L,hk,rfl,HD,HR,HO,hb⟩:=hrel
  have hLk:L.length=k:=by have:=congrArg List.length HD.out;rw [List.length_map,List.length_take] at this;omega
  have HLK:=Qh hLk
  obtain⟨ao,co,hvo,-⟩:=HR.out.val
  rw [hLk] at hvo
  subst hvo
  clear hLk
  by_cases hlt:k<l.length
  ·obtain⟨b1,o1,-,rfl,-,-,-⟩:=hrow (by omega)
   obtain⟨xa,xc,xf,x0,x1,x2,x3,xR,hbb,-⟩:=ZaQ HK.out hlt
   replace x0:=(hb.cell (p:=⟨b1,o1+k * 4,none⟩) hbb).trans x0
   replace x1:=(hb.cell (p:=⟨b1,o1+k * 4+1,none⟩) hbb).trans x1
   replace x2:=(hb.cell (p:=⟨b1,o1+k * 4+2,none⟩) hbb).trans x2
   replace x3:=(hb.cell (p:=⟨b1,o1+k * 4+3,none⟩) hbb).trans x3
   have XR:=Qh (sTok.below xR hb)
   have bx:=Zab wr (.cells #[.int .i64 l[k].kind,.string l[k].text,.bool l[k].spaced,.slice xa l[k].hidden.length xc] 57)
   have HX2:=Qh (heap_alloc_new wr (.cells #[.int .i64 l[k].kind,.string l[k].text,.bool l[k].spaced,.slice xa l[k].hidden.length xc] 57))
   clear xR hrow
   go_upto_region 5 with fail
   clear x0 x1 x2 x3
   generalize (wr.alloc (.cells #[.int .i64 l[k].kind,.string l[k].text,.bool l[k].spaced,.slice xa l[k].hidden.length xc] 57))=W2 at *
   obtain⟨p0,p1,p2,p3⟩:=Q4 HX2.out
   have HC:=Qh (Zdc _ l[k] _ W2 (HH.out k hlt) (sTok.below XR.out bx))
   have hrl:wr.heap.size<=W2.heap.size:=bx.size
   go_wp2_with fail
   refine (HC.out).mono ?_
   rintro e w3 ⟨a3,c3,f3,rfl,R3,O3,-,hb3⟩
   clear p0 p1 p2 p3 HC
   have hb23:=bx.trans (hb3.mono bx.size)
   have hW3:=hb23.size
   have hW1:=hb.size
   have hb13:=hb.trans (hb23.mono hb.size)
   have bl:=Zab w3 (.cells #[.int .i64 l[k].kind,.string l[k].text,.bool l[k].spaced,.slice a3 l[k].hidden.length c3] 57)
   have HL4:=Qh (heap_alloc_new w3 (.cells #[.int .i64 l[k].kind,.string l[k].text,.bool l[k].spaced,.slice a3 l[k].hidden.length c3] 57))
   have HR4:=Qh ((HR.out.below hb23).below bl)
   have HO4:=Qh ((HO.out.grow hb23).grow bl)
   have RX:=Qh (sTok.below R3 bl)
   have OX:=Qh (O3.grow bl)
   have hb14:=hb13.trans (bl.mono hb13.size)
   have HLO:=Qh (λ b hb=>HO.out.lt b hb)
   have HMI:=Qh HR.out.mine
   have HXN:Hid (∀ b∈f3,(Value.slice ao k co).ownBlock≠some b):=λ b hb h=>by
    have h1:=(HMI.out b h).2
    have h2:=(O3.2 b hb).1
    omega
   clear R3 O3 HR HO bx hb3 XR HX2 hb23 hb
   go_wp2_with (at_builtin;refine ZaK (X:=[(⟨[.int .i64 l[k].kind,.string l[k].text,.bool l[k].spaced,.slice a3 l[k].hidden.length c3],l[k],f3⟩:Elem Tok)]) ZaE rfl (by decide) _ rfl (.tmp 14) (.tmp 17) rfl W1.heap.size (.slice ao k co) rfl HR4.out ⟨w3.heap.size,0,none⟩ 1 1 rfl rfl (λ x hx=>by obtain rfl:=Qm hx;exact⟨rfl,RX.out,HXN.out⟩) (λ x hx=>by obtain rfl:=Qm hx;exact ZaI _ _ _ _ RX.out) (λ j u hj=>by rw [ZaN,Nat.zero_add,cell_of_row _ _ _ _ _ _ HL4.out];simpa using hj) (by have:=HLK.out;unfold maxLen;omega) (by have:=HLK.out;omega) hb14.size ?_;intro v5 w5 hR5 hg5 hp5)
   have hb5:Below W1.heap.size W1 w5:=hb14.grown hg5 hb14.size (λ b hb=>(HMI.out b hb).1)
   have HO5:Hid (Own w5 W1.heap.size ((L++[(⟨[.int .i64 l[k].kind,.string l[k].text,.bool l[k].spaced,.slice a3 l[k].hidden.length c3],l[k],f3⟩:Elem Tok)]).flatMap (·.fp))):=by
    show Own _ _ _
    rw [ZfW]
    have e1:([(⟨[.int .i64 l[k].kind,.string l[k].text,.bool l[k].spaced,.slice a3 l[k].hidden.length c3],l[k],f3⟩:Elem Tok)]).flatMap (·.fp)=f3:=by simp
    rw [e1]
    refine ZbK (HO4.out.app (OX.out.lower (by omega)) λ b hb hx=>?_) (λ b hb=>?_) hg5
    ·have h1:=HLO.out b hb
     have h2:=(OX.out.2 b hx).1
     omega
    ·rcases Qa hb with hb | hb
     ·obtain⟨x,hx,hb'⟩:=List.mem_flatMap.1 hb
      exact HR4.out.ap x hx b hb'
     ·exact HXN.out b hb
   have HD5:Hid ((L++[(⟨[.int .i64 l[k].kind,.string l[k].text,.bool l[k].spaced,.slice a3 l[k].hidden.length c3],l[k],f3⟩:Elem Tok)]).map (·.d)=l.take (k+1)):=by
    show _=_
    rw [List.map_append,HD.out,List.take_succ_eq_append_getElem hlt];rfl
   have HR5:=Qh hR5
   clear hR5 hg5 hp5
   go_wp2
   go_roundw
   case rel=>exact⟨k+1,_,by omega,by go_num,HD5,HR5,HO5,hb5⟩
   case measure=>simp [intOf];omega
  ·have hkl:k=l.length:=by omega
   have HXr:=Qh (mbox HX.out hb)
   have hbw:=b0.trans (hb.mono b0.size)
   have HDL:Hid (L.map (·.d)=l):=by show _=_;rw [HD.out,List.take_of_length_le (by omega)]
   have HRW:=Qh (HR.out.lower (base':=w.heap.size) b0.size)
   have HOW:=Qh (HO.out.lower (lo':=w.heap.size) b0.size)
   have p2:=Qc 2 HXr.out
   clear HD HR HO hkl
   by_cases h0:k=0
   ·have HF:Hid (L.map (·.d)=spc t.spaced l):=by
     show _=_
     have hl0:l=[]:=List.length_eq_zero_iff.1 (by have:=congrArg List.length HDL.out;rw [List.length_map] at this;have:=HLK.out;omega)
     rw [HDL.out,hl0];rfl
    have e0:¬ (0:Int)<(k:Int):=by omega
    clear h0
    go_wp2
    go_ret
    refine ⟨_,L,rfl,?_,HF.out,HOW.out,hbw⟩
    exact HRW.out
   ·obtain⟨x,X',rfl⟩:∃ x X',L=x::X':=by
     cases L with
     | nil=>exact absurd HLK.out.symm h0
     | cons x X'=>exact⟨x,X',rfl⟩
    obtain⟨g,hg1,hg2,hg3⟩:∃ g,ao=some ⟨g,0,none⟩/\w.heap.size<=g/\g<wr.heap.size:=by
     obtain⟨a9,c9,e,-,-,h⟩:=HRW.out.val
     simp only [Value.slice.injEq] at e
     obtain⟨rfl,-,-⟩:=e
     exact h (by simp)
    subst hg1
    obtain⟨hx,hcs,okk,oks,K⟩:=HRW.out.el x (by simp)
    obtain⟨ah,ch,rfl,-⟩:=Zaf K
    have hgx:g∉x.fp:=λ hx=>HRW.out.ap x (by simp) g hx rfl
    have HR2:=HRW.out
    have c2:wr.cell? ⟨g,2,none⟩=some (.bool x.d.spaced):=by
     have:=HR2.cellAt (k:=0) (by simp) (j:=2) (by decide) (u:=.bool x.d.spaced) (by show x.cells[2]?=_;rw [hcs];rfl)
     simpa using this
    have f2:wr.frozen? ⟨g,2,none⟩=false:=HR2.frozen 2
    have HS:Hid (RowN sTok w.heap.size 57 (.slice (some ⟨g,0,none⟩) k co) (⟨[.int .i64 x.d.kind,.string x.d.text,.bool t.spaced,.slice ah x.d.hidden.length ch],⟨x.d.kind,x.d.text,t.spaced,x.d.hidden⟩,x.fp⟩::X') (wr.setCell ⟨g,2,none⟩ (.bool t.spaced))):=by
     show RowN _ _ _ _ _ _
     have:=HR2.set (k:=0) (by simp) (j:=2) (by decide) (.bool t.spaced) ⟨[.int .i64 x.d.kind,.string x.d.text,.bool t.spaced,.slice ah x.d.hidden.length ch],⟨x.d.kind,x.d.text,t.spaced,x.d.hidden⟩,x.fp⟩ (by show _=x.cells.set 2 _;rw [hcs];rfl) ⟨_,rfl,okk,oks,K⟩ hgx
     simpa using this
    have HF:Hid (((⟨[.int .i64 x.d.kind,.string x.d.text,.bool t.spaced,.slice ah x.d.hidden.length ch],⟨x.d.kind,x.d.text,t.spaced,x.d.hidden⟩,x.fp⟩:Elem Tok)::X').map (·.d)=spc t.spaced l):=by
     show _=_;rw [← HDL.out];rfl
    have HOS:Hid (Own (wr.setCell ⟨g,2,none⟩ (.bool t.spaced)) w.heap.size (((⟨[.int .i64 x.d.kind,.string x.d.text,.bool t.spaced,.slice ah x.d.hidden.length ch],⟨x.d.kind,x.d.text,t.spaced,x.d.hidden⟩,x.fp⟩:Elem Tok)::X').flatMap (·.fp))):=HOW.out.setCell ⟨g,2,none⟩ (.bool t.spaced)
    have hb2:=hbw.setCell (p:=⟨g,2,none⟩) hg2 (.bool t.spaced)
    have e0:(0:Int)<(k:Int):=by omega
    have e1:0<k:=by omega
    clear K hcs HR2 HRW h0 hg2 hg3
    go_wp2
    go_ret
    exact⟨_,_,rfl,HS.out,HF.out,HOS.out,hb2⟩
abbrev BldAt (B b:Nat) (p:Value) (bs:List Value) (w:World):Prop:=Lib.BuilderAtF 89 5 B b p bs w
abbrev IsBld (B b:Nat) (bs:List Value) (w:World):Prop:=Lib.IsBuilderF 89 5 B b bs w
def BldTo (B b:Nat) (bs:List Value) (w w':World):Prop:=
 BldAt B b (.pointer (some ⟨b,0,none⟩)) bs w'/\Below B w w'/\Lib.OthersKept 5 (some b) w w'
theorem Zhe:∃ j,Tryz.prog.info? 89=some j/\j.size=2:=by
 have h:(Tryz.prog.info? 89).map (·.size)=some 2:=by kernel_rfl
 exact Option.map_eq_some_iff.1 h
theorem bld_lies:liesAt Tryz.prog Tryz.prog.depth 89 (2 / Tryz.prog.cellsOf 89) 0 89 1=true:=by kernel_rfl
theorem Zjj:∃ i,Tryz.prog.info? 5=some i/\i.zero=some (.int .u8 0)/\i.size=1/\i.bytes=1:=by
 have h:(Tryz.prog.info? 5).map (λ i=>(i.zero,i.size,i.bytes))=some (some (.int .u8 0),1,1):=by kernel_rfl
 obtain⟨i,h1,h2⟩:=Option.map_eq_some_iff.1 h
 simp only [Prod.mk.injEq] at h2
 exact⟨i,h1,h2.1,h2.2.1,h2.2.2⟩
theorem Zlr (b:Nat) (w:World):(binOp .neq 87 (.pointer (some ⟨b,0,none⟩)) (.pointer (some ⟨b,0,none⟩))).run Tryz.prog w=.ok (.bool false) w:=by
 obtain⟨j,hj,_⟩:=Zhe
 exact Lib.run_neq_ptr_same w _ Tryz.underlying87 hj
theorem ZmW (b:Nat) (w:World) (hsh:w.shape? b=some (89,2)):(convert 87 144 (.pointer (some ⟨b,0,none⟩))).run Tryz.prog w=.ok (.pointer (some ⟨b,0,none⟩)) w:=by
 obtain⟨j,hj,hjs⟩:=Zhe
 exact Lib.run_to_unsafe w ⟨b,0,none⟩ Tryz.underlying87 Tryz.underlying144 hj (by rw [hjs];decide) hsh (Nat.zero_lt_succ 1)
theorem ZkX (b:Nat) (w:World) (hsh:w.shape? b=some (89,2)):(convert 144 87 (.pointer (some ⟨b,0,none⟩))).run Tryz.prog w=.ok (.pointer (some ⟨b,0,none⟩)) w:=by
 obtain⟨j,hj,hjs⟩:=Zhe
 exact Lib.run_from_unsafe w ⟨b,0,none⟩ Tryz.underlying144 Tryz.underlying87 hj hsh bld_lies
theorem ZmX (b:Nat) (w:World):(callFunc 116 #[.pointer (some ⟨b,0,none⟩)]).run Tryz.prog w=.ok (.value (.pointer (some ⟨b,0,none⟩))) w:=by
 rw [run_callFunc_extern Tryz.func116 (by kernel_rfl) (by kernel_rfl) (by kernel_rfl) (e:=Extern.AbiNoEscape.same) (by kernel_rfl),Lib.run_noEscape]
 rfl
theorem Zl1 (b:Nat) (w:World) (h0:w.cell? ⟨b,0,none⟩=some (.pointer (some ⟨b,0,none⟩))) :
  Calls Tryz.prog 87 #[.pointer (some ⟨b,0,none⟩)] w λ e w'=>e=.returned (.tuple #[])/\w'=w:=by
 have r1:=Zlr b w
 go_enter Tryz.func87,Tryz.ntmps87
 go_wp2
 go_end0
 exact⟨rfl,rfl⟩
theorem ZkY (b:Nat) (w:World) (h0:w.cell? ⟨b,0,none⟩=some (.pointer none)) (hsh:w.shape? b=some (89,2)) (hfz:w.frozen? ⟨b,0,none⟩=false) :
  Calls Tryz.prog 87 #[.pointer (some ⟨b,0,none⟩)] w λ e w'=>e=.returned (.tuple #[])/\w'=w.setCell ⟨b,0,none⟩ (.pointer (some ⟨b,0,none⟩)):=by
 have r1:=ZmW b w hsh
 have r2:=ZmX b w
 have r3:=ZkX b w hsh
 have c0:(w.setCell ⟨b,0,none⟩ (.pointer (some ⟨b,0,none⟩))).cell? ⟨b,0,none⟩=some (.pointer (some ⟨b,0,none⟩)):=World.cell?_setCell_same _ _ _ h0
 have r4:=Zlr b (w.setCell ⟨b,0,none⟩ (.pointer (some ⟨b,0,none⟩)))
 go_enter Tryz.func87,Tryz.ntmps87
 go_wp2
 go_end0
 exact⟨rfl,rfl⟩
theorem Zjk (B b:Nat) (bs:List Value) (w:World) (h:IsBld B b bs w) :
  Calls Tryz.prog 87 #[.pointer (some ⟨b,0,none⟩)] w λ e w'=>e=.returned (.tuple #[])/\BldTo B b bs w w':=by
 rcases h with h | h
 ·refine (ZkY b w h.cell0 h.shape h.frozen0).mono ?_
  rintro e w' ⟨rfl,rfl⟩
  exact⟨rfl,h.used _,(Below.refl B w).setCell (p:=⟨b,0,none⟩) h.1 _,(Lib.OthersKept.refl _ _ w).setCell ⟨b,0,none⟩ rfl _⟩
 ·refine (Zl1 b w h.cell0).mono ?_
  rintro e w' ⟨rfl,rfl⟩
  exact⟨rfl,h,Below.refl B _,Lib.OthersKept.refl _ _ _⟩
theorem Zkv (B b:Nat) (bs:List Value) (c:Int) (w:World) (h:IsBld B b bs w) (hlen:bs.length<=1048576) (hBw:B<=w.heap.size) :
  Calls Tryz.prog 53 #[.pointer (some ⟨b,0,none⟩),.int .u8 c] w λ e w'=>e=.returned .nilIface/\BldTo B b (bs++[.int .u8 c]) w w':=by
 obtain⟨i0,hi,hz0,hz1,hz2⟩:=Zjj
 go_enter Tryz.func53,Tryz.ntmps53
 go_wp2_with fail
 refine (Zjk B b bs _ h).mono ?_
 rintro e w1 ⟨rfl,⟨hB,v,hbk,hown,hne⟩,hb1,hk1⟩
 have c0:w1.cell? ⟨b,0,none⟩=some (.pointer (some ⟨b,0,none⟩)):=by rw [Lib.cell_of_heap hbk];rfl
 have c1:w1.cell? ⟨b,1,none⟩=some v:=by rw [Lib.cell_of_heap hbk];rfl
 have hs1:=hb1.size
 go_wp2_with (at_builtin;refine wpList_append_ownF _ rfl _ _ 22 rfl B 5 i0 (.int .u8 0) 1 1 Tryz.underlying22 hi hz0 hz1 hz2 rfl (by decide) v bs.length bs rfl (hown.alloc _) ⟨w1.heap.size,0,none⟩ 1 1 [.int .u8 c] rfl rfl ?c1 ?c2 ?c3 ?c4 ?c5 ?_)
 case c1 =>
  intro j u hj
  match j,hj with
  | 0,hj=>simp at hj;subst hj;simp [Addr.add]
 case c2=>intro u hu;simp at hu;subst hu;rfl
 case c3=>unfold maxLen;omega
 case c4=>omega
 case c5=>simp;omega
 intro v' w2 hown' hgrow _
 have hlt:b<w1.heap.size:=(Qg hbk).1
 have hb2:w2.heap[b]?=some (.cells #[.pointer (some ⟨b,0,none⟩),v] 89 (0,0)):=by
  rw [hgrow.block b (by simp;omega) (λ e=>hne e.symm),Lib.alloc_old w1 _ b hlt]
  exact hbk
 have d0:w2.cell? ⟨b,0,none⟩=some (.pointer (some ⟨b,0,none⟩)):=by rw [Lib.cell_of_heap hb2];rfl
 have d1:w2.cell? ⟨b,1,none⟩=some v:=by rw [Lib.cell_of_heap hb2];rfl
 have f1:w2.frozen? ⟨b,1,none⟩=false:=Lib.frozen_of_heap hb2 1
 obtain⟨g,cap,rfl⟩:∃ g cap,v'=.slice (some ⟨g,0,none⟩) (bs.length+1) cap:=by
  rcases hown'.2 with⟨_,h0⟩ | ⟨g,cap,cur,fz,hv,_⟩
  ·omega
  ·exact⟨g,cap,hv⟩
 have HA:Hid (BldTo B b (bs++[.int .u8 c]) w (w2.setCell ⟨b,1,none⟩ (.slice (some ⟨g,0,none⟩) (bs.length+1) cap))):=by
  refine ⟨Lib.BuilderAtF.put (T:=89) (e:=5) hB hb2 (bs':=bs++[.int .u8 c]) (by simpa using hown') (by decide),?_,((hk1.alloc _).grown hgrow (Lib.ownsRowF_kind (hown.alloc _))).setCell ⟨b,1,none⟩ rfl _⟩
  exact((hb1.alloc (by omega) _).grown hgrow (by simp;omega) (λ k hk=>(hown.lt k hk).1)).setCell (p:=⟨b,1,none⟩) hB _
 clear hown hown' hgrow hbk hb2 hb1 hk1
 go_wp2
 go_ret
 exact⟨rfl,HA.out⟩
theorem bld_text (B b:Nat) (bs:List Value) (s:ByteArray) (w:World) (h:IsBld B b bs w) (hlen:bs.length+s.size<=140737488355328) (hBw:B<=w.heap.size) :
  Calls Tryz.prog 54 #[.pointer (some ⟨b,0,none⟩),.string s] w λ e w'=>e=.returned (.tuple #[.int .i64 s.size,.nilIface])/\BldTo B b (bs++Lib.strCells s) w w':=by
 obtain⟨i0,hi,hz0,hz1,hz2⟩:=Zjj
 go_enter Tryz.func54,Tryz.ntmps54
 go_wp2_with fail
 refine (Zjk B b bs _ h).mono ?_
 rintro e w1 ⟨rfl,⟨hB,v,hbk,hown,hne⟩,hb1,hk1⟩
 have c0:w1.cell? ⟨b,0,none⟩=some (.pointer (some ⟨b,0,none⟩)):=by rw [Lib.cell_of_heap hbk];rfl
 have c1:w1.cell? ⟨b,1,none⟩=some v:=by rw [Lib.cell_of_heap hbk];rfl
 have hs1:=hb1.size
 go_wp2_with (at_builtin;refine Lib.wpList_append_own_stringF _ rfl _ _ 22 9 rfl B 5 i0 Tryz.underlying22 Tryz.underlying9 hi hz0 hz1 hz2 v bs.length bs rfl hown s rfl ?c3 ?c4 ?c5 ?_)
 case c3=>unfold maxLen;omega
 case c4=>omega
 case c5=>omega
 intro v' w2 hown' hgrow _
 have hlt:b<w1.heap.size:=(Qg hbk).1
 have hb2:w2.heap[b]?=some (.cells #[.pointer (some ⟨b,0,none⟩),v] 89 (0,0)):=by
  rw [hgrow.block b hlt (λ e=>hne e.symm)]
  exact hbk
 have d0:w2.cell? ⟨b,0,none⟩=some (.pointer (some ⟨b,0,none⟩)):=by rw [Lib.cell_of_heap hb2];rfl
 have d1:w2.cell? ⟨b,1,none⟩=some v:=by rw [Lib.cell_of_heap hb2];rfl
 have f1:w2.frozen? ⟨b,1,none⟩=false:=Lib.frozen_of_heap hb2 1
 obtain⟨ao,n',cap,rfl⟩:∃ ao n' cap,v'=.slice ao n' cap:=by
  rcases hown'.2 with⟨hv,_⟩ | ⟨g,cap,cur,fz,hv,_⟩
  ·exact⟨_,_,_,hv⟩
  ·exact⟨_,_,_,hv⟩
 have HA:Hid (BldTo B b (bs++Lib.strCells s) w (w2.setCell ⟨b,1,none⟩ (.slice ao n' cap))):=by
  refine ⟨Lib.BuilderAtF.put (T:=89) (e:=5) hB hb2 (bs':=bs++Lib.strCells s) (by simpa [Lib.strCells_length] using hown') (by decide),?_,(hk1.grown hgrow (Lib.ownsRowF_kind hown)).setCell ⟨b,1,none⟩ rfl _⟩
  exact(hb1.grown hgrow (by omega) (λ k hk=>(hown.lt k hk).1)).setCell (p:=⟨b,1,none⟩) hB _
 clear hown hown' hgrow hbk hb2 hb1 hk1
 go_wp2
 go_ret2
 exact⟨rfl,HA.out⟩
def Bld (b:Nat) (s:ByteArray) (w:World):Prop:=IsBld b b (Lib.strCells s) w
theorem BldAt.below {B b:Nat} {p:Value} {bs:List Value} {w w':World} (h:BldAt B b p bs w) (hb:Below w.heap.size w w'):BldAt B b p bs w':=by
 have hlt:=h.lt
 obtain⟨hB,v,hbk,hown,hne⟩:=h
 refine ⟨hB,v,(hb.block b hlt).trans hbk,⟨hown.1,?_⟩,hne⟩
 rcases hown.2 with h0 | ⟨g,cap,cur,fz,h1,h2,h3,h4⟩
 ·exact .inl h0
 ·exact .inr ⟨g,cap,cur,fz,h1,h2,(hb.block g (Qg h3).1).trans h3,h4⟩
theorem Bld.below {b:Nat} {s:ByteArray} {w w':World} (h:Bld b s w) (hb:Below w.heap.size w w'):Bld b s w':=h.elim (λ h=>.inl (BldAt.below h hb)) (λ h=>.inr (BldAt.below h hb))
theorem Bld.fresh (w:World):Bld w.heap.size ⟨#[]⟩ (w.alloc (.cells #[.pointer none,.slice none 0 0] 89)):=
 .inl ⟨Nat.le_refl _,.slice none 0 0,heap_alloc_new w _,World.ownsRowF_nil _ _ _ _,by simp [Value.ownBlock]⟩
theorem Bld.lt {b:Nat} {s:ByteArray} {w:World} (h:Bld b s w):b<w.heap.size:=h.elim (λ h=>h.lt) (λ h=>h.lt)
theorem Bld.of {b:Nat} {bs:List Value} {s:ByteArray} {w w':World} (h:BldTo b b bs w w') (e:bs=Lib.strCells s):Bld b s w':=.inr (e ▸ h.1)
theorem Zjr (s:ByteArray):Lib.strCells s++[.int .u8 32]=Lib.strCells (s++⟨#[32]⟩):=by
 unfold Lib.strCells;rw [ByteArray.data_append,Array.toList_append,List.map_append];rfl
theorem Zkw (s t:ByteArray):Lib.strCells s++Lib.strCells t=Lib.strCells (s++t):=by
 unfold Lib.strCells;rw [ByteArray.data_append,Array.toList_append,List.map_append]
theorem ZiD {b:Nat} {s:ByteArray} {w:World} (h:Bld b s w) (hs:s.size<=1048576) :
  Calls Tryz.prog 53 #[.pointer (some ⟨b,0,none⟩),.int .u8 32] w λ e w'=>e=.returned .nilIface/\Bld b (s++⟨#[32]⟩) w'/\Below b w w'/\Lib.OthersKept 5 (some b) w w':=
 (Zkv b b _ 32 w h (by rw [Lib.strCells_length];exact hs) (Nat.le_of_lt h.lt)).mono λ e w' ⟨h1,h2⟩=>⟨h1,Bld.of h2 (Zjr s),h2.2.1,h2.2.2⟩
theorem Zde {b:Nat} {s t:ByteArray} {w:World} (h:Bld b s w) (hs:s.size+t.size<=1048576) :
  Calls Tryz.prog 54 #[.pointer (some ⟨b,0,none⟩),.string t] w λ e w'=>e=.returned (.tuple #[.int .i64 t.size,.nilIface])/\Bld b (s++t) w'/\Below b w w'/\Lib.OthersKept 5 (some b) w w':=
 (bld_text b b _ t w h (by rw [Lib.strCells_length];omega) (Nat.le_of_lt h.lt)).mono λ e w' ⟨h1,h2⟩=>⟨h1,Bld.of h2 (Zkw s t),h2.2.1,h2.2.2⟩
theorem bldLen {b:Nat} {s:ByteArray} {w:World} (h:Bld b s w) :
  Calls Tryz.prog 55 #[.pointer (some ⟨b,0,none⟩)] w λ e w'=>e=.returned (.int .i64 s.size)/\w'=w:=by
 have:=Tryz.Builder_Len_f b b _ w h
 rw [Lib.strCells_length] at this
 exact this
theorem Zjl {b:Nat} {s:ByteArray} {w:World} (h:Bld b s w) :
  Calls Tryz.prog 56 #[.pointer (some ⟨b,0,none⟩)] w λ e w'=>e=.returned (.string s)/\Below b w w':=
 (Tryz.Builder_String_any_k b b s.data.toList w h (Nat.le_of_lt h.lt)).mono λ e w' ⟨h1,h2⟩=>⟨h1,h2.2.1⟩
theorem Zf2 {b g:Nat} {arr:Array Value} {ty:TypeId} {fr:Nat × Nat} {w w':World} (hk:Lib.OthersKept 5 (some b) w w') (h:w.heap[g]?=some (.cells arr ty fr)) (hg:g≠b) (hty:ty≠5):w'.heap[g]?=some (.cells arr ty fr):=
 hk g _ h (λ e=>hg (Option.some.inj e)) (λ c fz e=>hty (by simp only [Obj.cells.injEq] at e;exact e.2.1))
theorem Zhf (v:Value) (l:List Tok) (fp:List Nat) (w:World) (H:(Zaa sTok).R w [v] l fp) :
  Calls Tryz.prog 27 #[v] w (ZeC l w):=by
 have HV:=Qh (Zbu v l fp w H)
 obtain⟨a,cap,rfl,hc,hm,hrow⟩:=Zac H
 unfold maxLen at hm
 clear H
 cases hv:Zaj l
 ·have HF:=Qh (ZgA hv)
  rw [hv] at HV
  clear hv
  go_enter Tryz.func27,Tryz.ntmps27
  go_wp2_with (go_at_call 41;refine (HV.out).mono ?_;rintro e w1 ⟨rfl,hb1⟩)
  go_ret2
  exact Zb7 HF.out hb1
 ·rw [hv] at HV
  have HOK:=Qh (Zau hv)
  have hlen:=HOK.out.1
  have HSZ:=Qh (ZfG hv)
  have HVD:=Qh hv
  clear hv
  go_enter Tryz.func27,Tryz.ntmps27
  go_wp2_with fail
  refine (HV.out).mono ?_
  rintro e w1 ⟨rfl,hb1⟩
  have HB0:=Qh (Bld.fresh w1)
  have hb2:=hb1.trans ((Zab w1 (.cells #[.pointer none,.slice none 0 0] 89)).mono hb1.size)
  go_wp2_with fail
  go_loopw [12] (λ i wr=>∃ (k:Nat),k<=l.length/\i=.int .i64 k/\Hid (Bld w1.heap.size (prTo l k) wr)/\Below w.heap.size w wr) (λ i _=>l.length-(intOf i).toNat)
  case atStart=>exact⟨0,by omega,rfl,HB0,hb2⟩
  case round =>
   obtain⟨k,hk,rfl,HB,hb⟩:=hrel
   clear HB0 hb2
   by_cases hlt:k<l.length
   ·obtain⟨b1,off1,fps1,rfl,hb1',-,he1⟩:=hrow (by omega)
    obtain⟨es1,hE1,hR1⟩:=he1 k hlt
    have hR1':=hR1
    obtain⟨h1,rfl,-,-,K1⟩:=hR1
    obtain⟨ah,caph,rfl,-⟩:=Zac K1
    replace hE1:=hE1.frame (hb.block b1 hb1')
    have c10:wr.cell? ⟨b1,off1+k * 4,none⟩=some _:=Zam hE1 (by decide) rfl
    have c11:wr.cell? ⟨b1,off1+k * 4+1,none⟩=some _:=Zae (j:=1) hE1 (by decide) rfl
    have c12:wr.cell? ⟨b1,off1+k * 4+2,none⟩=some _:=Zae (j:=2) hE1 (by decide) rfl
    have c13:wr.cell? ⟨b1,off1+k * 4+3,none⟩=some _:=Zae (j:=3) hE1 (by decide) rfl
    have hsz1:=(ZaA (HOK.out.2 k hlt)).2
    have hso:=HSZ.out k hk
    have hbx:Below wr.heap.size wr (wr.alloc (.cells #[.int .i64 l[k].kind,.string l[k].text,.bool l[k].spaced,.slice ah l[k].hidden.length caph] 57)):=Zab _ _
    have HX:=Qh (heap_alloc_new wr (.cells #[.int .i64 l[k].kind,.string l[k].text,.bool l[k].spaced,.slice ah l[k].hidden.length caph] 57))
    have HB1:=Qh (HB.out.below hbx)
    have hlw:=HB.out.lt
    have hlo:=hb1.size
    have hbr:b1<wr.heap.size:=Nat.lt_of_lt_of_le hb1' hb.size
    have HR1:=Qh (sTok.below (sTok.below hR1' hb) hbx)
    clear hE1 K1 hR1'
    go_wp2
    generalize (wr.alloc (.cells #[.int .i64 l[k].kind,.string l[k].text,.bool l[k].spaced,.slice ah l[k].hidden.length caph] 57))=W2 at *
    have p0:=Qc 0 HX.out
    have p1:=Qc 1 HX.out
    have p2:=Qc 2 HX.out
    have p3:=Qc 3 HX.out
    have hbw:=hb.trans (hbx.mono hb.size)
    have hne:wr.heap.size≠w1.heap.size:=by omega
    clear c10 c11 c12 c13
    by_cases h0:k=0
    ·have h00:¬ (0:Int)<(k:Int):=by omega
     have h01:decide ((0:Int)<(k:Int))=false:=by simp;omega
     have h02:decide (0<k)=false:=by simp;omega
     have HN:=Qh (ZeB hlt (by subst h0;exact ZjI l))
     clear h0 he1 hrow
     go_quiet (fail)
     have HBq:=Qh (HB1.out.below (Zag (Below.refl _ _) nq))
     have hbq:=hbw.trans ((Zag (Below.refl W2.heap.size W2) nq).mono hbw.size)
     go_wp2_with fail
     refine (Zde HBq.out (by omega)).mono ?_
     rintro e w3 ⟨rfl,hB3,hb3,-⟩
     rw [← HN.out] at hB3
     go_wp2
     go_roundw
     case rel=>exact⟨k+1,by omega,by go_num,hB3,hbq.trans (hb3.mono hlo)⟩
     case measure=>simp [intOf];omega
    ·have h00:(0:Int)<(k:Int):=by omega
     have h01:decide ((0:Int)<(k:Int))=true:=by simp;omega
     have h02:decide (0<k)=true:=by simp;omega
     cases hsp:l[k].spaced
     ·obtain⟨es2,hE2,hR2⟩:=he1 (k-1) (by omega)
      have HR2:=Qh (sTok.below (sTok.below hR2 hb) hbx)
      obtain⟨h2,rfl,-,-,-⟩:=hR2
      replace hE2:=hE2.frame ((hbx.block b1 hbr).trans (hb.block b1 hb1'))
      have c20:W2.cell? ⟨b1,off1+(k-1) * 4,none⟩=some _:=Zam hE2 (by decide) rfl
      have c21:W2.cell? ⟨b1,off1+(k-1) * 4+1,none⟩=some _:=Zae (j:=1) hE2 (by decide) rfl
      have c22:W2.cell? ⟨b1,off1+(k-1) * 4+2,none⟩=some _:=Zae (j:=2) hE2 (by decide) rfl
      have c23:W2.cell? ⟨b1,off1+(k-1) * 4+3,none⟩=some _:=Zae (j:=3) hE2 (by decide) rfl
      have h6:((k:Int)-1).toNat=k-1:=by omega
      have hwl:IntKind.i64.wrap ((k:Int)-1)=(k:Int)-1:=IntWalk.i64_in _ (by omega)
      have hi1:(0:Int)<=(k:Int)-1:=by omega
      have hi0:(1:Int)<=(k:Int):=by omega
      have hi2:(k:Int)-1<(l.length:Int):=by omega
      have HC:Hid (∀ W,Below W2.heap.size W2 W->Calls Tryz.prog 52 #[.agg #[.int .i64 (l[k-1]'(by omega)).kind,.string (l[k-1]'(by omega)).text,.bool (l[k-1]'(by omega)).spaced,h2],.agg #[.int .i64 l[k].kind,.string l[k].text,.bool l[k].spaced,.slice ah l[k].hidden.length caph]] W (Says (glued (l[k-1]'(by omega)).text l[k].text) W)):=
       λ W hW=>Zih _ _ _ _ _ _ W (sTok.below HR2.out hW) (sTok.below HR1.out hW) (HOK.out.2 _ (by omega)) (HOK.out.2 _ hlt)
      have HG:=ZiS (by omega) hlt hsp
      rw [hsp] at p2 HC
      clear hE2 he1 hrow
      go_wp2_with fail
      go_still_tail 12,(by kernel_rfl)
      change wpList _ _ _ _ _ W2.drew
      have hd:Below W2.heap.size W2 W2.drew:=Zag (Below.refl _ _) 1
      have HXd:Hid (W2.drew.heap[wr.heap.size]?=some (.cells #[.int .i64 l[k].kind,.string l[k].text,.bool l[k].spaced,.slice ah l[k].hidden.length caph] 57)):=HX
      generalize W2.drew=w2 at *
      have hgx:wr.heap.size<w2.heap.size:=(Qg HXd.out).1
      cases hg:glued (l[k-1]'(by omega)).text l[k].text
      ·rw [hg] at HC HG
       have HN:=Qh (ZeB hlt HG)
       clear hg HG
       go_wp2_with fail
       refine (HC.out _ hd).mono ?_
       rintro e w3 ⟨rfl,hb3⟩
       have hb4:=hd.trans (hb3.mono hd.size)
       have HX3:=(hb3.block _ hgx).trans HXd.out
       have q1:=Qc 1 HX3
       have HB3:=Qh (HB1.out.below hb4)
       have hbq:=hbw.trans (hb4.mono hbw.size)
       clear p0 p1 p2 p3 c20 c21 c22 c23 HX3 hb3 hd hb4
       go_wp2_with fail
       refine (Zde HB3.out (by omega)).mono ?_
       rintro e w4 ⟨rfl,hB4,hb5,-⟩
       rw [← HN.out] at hB4
       go_wp2
       go_roundw
       case rel=>exact⟨k+1,by omega,by go_num,hB4,hbq.trans (hb5.mono hlo)⟩
       case measure=>simp [intOf];omega
      ·rw [hg] at HC HG
       have HN:=Qh (ZdS hlt HG)
       clear hg HG
       go_wp2_with fail
       refine (HC.out _ hd).mono ?_
       rintro e w3 ⟨rfl,hb3⟩
       have hb4:=hd.trans (hb3.mono hd.size)
       have HX3:=(hb3.block _ hgx).trans HXd.out
       have HB3:=Qh (HB1.out.below hb4)
       have hbq:=hbw.trans (hb4.mono hbw.size)
       clear p0 p1 p2 p3 c20 c21 c22 c23 hb3 hd hb4
       go_wp2_with fail
       refine (ZiD HB3.out (by omega)).mono ?_
       rintro e w4 ⟨rfl,hB4,hb5,hk5⟩
       have hbq3:=hbq.trans (hb5.mono hlo)
       have HX4:=Zf2 hk5 HX3 hne (by decide)
       have q1:=Qc 1 HX4
       clear HX3 HX4
       go_wp2_with fail
       refine (Zde hB4 (by rw [ByteArray.size_append];have:(⟨#[32]⟩:ByteArray).size=1:=rfl;omega)).mono ?_
       rintro e w5 ⟨rfl,hB5,hb6,-⟩
       rw [← HN.out] at hB5
       go_wp2
       go_roundw
       case rel=>exact⟨k+1,by omega,by go_num,hB5,hbq3.trans (hb6.mono hlo)⟩
       case measure=>simp [intOf];omega
     ·have HN:=Qh (ZdS hlt (ZhB (by omega) hlt hsp))
      rw [hsp] at p2
      clear he1 hrow
      go_quiet (fail)
      have HBq:=Qh (HB1.out.below (Zag (Below.refl _ _) nq))
      have hbq:=hbw.trans ((Zag (Below.refl W2.heap.size W2) nq).mono hbw.size)
      go_wp2_with fail
      refine (ZiD HBq.out (by omega)).mono ?_
      rintro e w3 ⟨rfl,hB3,hb3,hk3⟩
      have hbq3:=hbq.trans (hb3.mono hlo)
      have HX3:=Zf2 (w:=W2.drewN nq) hk3 HX.out hne (by decide)
      have q1:=Qc 1 HX3
      clear HX3 p0 p1 p2 p3
      go_wp2_with fail
      refine (Zde hB3 (by rw [ByteArray.size_append];have:(⟨#[32]⟩:ByteArray).size=1:=rfl;omega)).mono ?_
      rintro e w4 ⟨rfl,hB4,hb4,-⟩
      rw [← HN.out] at hB4
      go_wp2
      go_roundw
      case rel=>exact⟨k+1,by omega,by go_num,hB4,hbq3.trans (hb4.mono hlo)⟩
      case measure=>simp [intOf];omega
   ·have hkl:l.length=k:=by omega
    have HL:=Qh (bldLen HB.out)
    have HS:=Qh (Zjl HB.out)
    have hlo:=hb1.size
    by_cases hbig:200<(prTo l k).size
    ·have HF:=Qh (Zfm HVD.out hkl hbig)
     clear hkl
     go_wp2_with (go_at_call 55;refine (HL.out).mono ?_;rintro e w2 ⟨rfl,rfl⟩)
     go_ret2
     exact Zb7 HF.out hb
    ·have HF:=Qh (ZfF HVD.out hkl hbig)
     clear hkl
     go_wp2_with (first
      | (go_at_call 55;refine (HL.out).mono ?_;rintro e w2 ⟨rfl,rfl⟩)
      | (go_at_call 56;refine (HS.out).mono ?_;rintro e w2 ⟨rfl,hb3⟩))
     go_ret2
     exact Zb7 HF.out (hb.trans (hb3.mono hlo))
/-! ### What stands between the quotes -/
def mid (s:ByteArray):ByteArray:=s.extract 1 (s.size-1)
theorem Zd5 (s:ByteArray):(mid s).size=s.size-2:=by unfold mid;rw [ByteArray.size_extract];omega
theorem Zls {s:ByteArray} {i:Nat} (h:i<(mid s).size):(mid s)[i]=s[i+1]'(by rw [Zd5] at h;omega):=by
 have h2:i+1<s.size:=by rw [Zd5] at h;omega
 have:(mid s)[i]=s[1+i]'(by omega):=Zf9 s 1 (s.size-1) i h
 rw [this]
 have e:1+i=i+1:=by omega
 simp only [e]
theorem mid_one {s:ByteArray} {i:Nat} (h:i<(mid s).size):(mid s).extract i (i+1)=s.extract (i+1) (i+2):=by
 have h2:i+1<s.size:=by rw [Zd5] at h;omega
 rw [ZdY h,ZdY h2,Zls h]
def MidAt (s:ByteArray) (i:Nat) (out:ByteArray):Prop:=OutAt s (i+1) out
theorem MidAt.byte {s:ByteArray} {i:Nat} {out:ByteArray} (h:MidAt s i out) (hi:i<(mid s).size) (hc:¬ (mid s)[i].toNat=92):MidAt s (i+1) (out++(mid s).extract i (i+1)):=by
 have hz:=Zd5 s
 rw [Zls hi] at hc
 rw [mid_one hi]
 exact OutAt.byte h (by omega) hc
theorem MidAt.done {s:ByteArray} {i:Nat} {out:ByteArray} (h:MidAt s i out) (hi:(mid s).size<=i):out=outTo s 1:=OutAt.done h (by have:=Zd5 s;omega)
theorem MidAt.size {s:ByteArray} {i:Nat} {out:ByteArray} (h:MidAt s i out):out.size<=i+1:=h.2.2.2
theorem Zh2 (cs:List Value) (x:Tok) (fp:List Nat) (w:World) (hz:x.text.size<=200) (H:sTok.R w cs x fp) :
  Calls Tryz.prog 154 #[.agg cs.toArray] w (StrOf (bit x) w):=by
 obtain⟨h,rfl,-,-,-⟩:=H
 have hb0:=Zab w (.cells #[.int .i64 x.kind,.string x.text,.bool x.spaced,h] 57)
 have HX:=Qh (heap_alloc_new w (.cells #[.int .i64 x.kind,.string x.text,.bool x.spaced,h] 57))
 by_cases h3:x.kind=3
 rotate_left
 ·have HF:Hid (x.text=bit x):=by show _=_;unfold bit;rw [if_neg h3]
  have hk':(x.kind != 3)=true:=by simp [h3]
  clear h3
  go_enter Tryz.func154,Tryz.ntmps154
  go_wp2
  go_ret
  exact⟨Ze6 HF.out,hb0⟩
 have HF:Hid (escTo x.text x.text.size=bit x):=by show _=_;unfold bit;rw [if_pos h3]
 have hk':(x.kind != 3)=false:=by simp [h3]
 clear h3
 go_enter Tryz.func154,Tryz.ntmps154
 go_wp2
 have hs0:(w.alloc (.cells #[.int .i64 x.kind,.string x.text,.bool x.spaced,h] 57)).heap.size=w.heap.size+1:=by show (w.heap.push _).size=_;simp
 have HS0:=Qh hs0
 clear hs0
 generalize (w.alloc (.cells #[.int .i64 x.kind,.string x.text,.bool x.spaced,h] 57))=W1 at *
 go_loopw [3,13] (λ o i wr=>∃ (k:Nat) (out:ByteArray),i=.int .i64 k/\k<=x.text.size/\Hid (out=escTo x.text k)/\Bytes W1.heap.size o out wr/\Below W1.heap.size W1 wr) (λ _ i _=>x.text.size-(intOf i).toNat)
 case atStart=>exact⟨0,_,rfl,by omega,rfl,Bytes.none _ _,Below.refl _ _⟩
 case round =>
  obtain⟨k,out,rfl,hk,HO,hown,hb⟩:=hrel
  have ho:out.size<=2 * k:=by rw [HO.out];exact ZcT _ k
  have hbs:=hb.size
  have hcv:=Zio hown
  have hlt1:w.heap.size<W1.heap.size:=by have:=HS0.out;omega
  have c1:wr.cell? ⟨w.heap.size,1,none⟩=some (.string x.text):=(hb.cell (p:=⟨w.heap.size,1,none⟩) hlt1).trans (Qc 1 HX.out)
  by_cases hlt:k<x.text.size
  ·have hb1:=ZkM x.text k hlt
   rcases q_ways x.text[k] with⟨e1,HQ⟩ | ⟨e1,e2,HQ⟩ | ⟨e1,e2,HQ⟩
   ·have HN:Hid (out++⟨#[92]⟩++x.text.extract k (k+1)=escTo x.text (k+1)):=by show _=_;rw [Zc6 hlt HQ.out,HO.out]
    clear HO HQ
    go_wp2_with (first
     | (at_builtin;refine ZbT rfl (.tmp 28) (.tmp 29) rfl W1.heap.size _ out ⟨#[92]⟩ 92 rfl hown rfl rfl (by omega) hbs ?_;intro v1 w1 hown1 hg1;have hbel1:=hb.grown hg1 hbs (λ b hb=>(hown.lt b hb).1);have c2:w1.cell? ⟨w.heap.size,1,none⟩=some (.string x.text):=(hbel1.cell (p:=⟨w.heap.size,1,none⟩) hlt1).trans (Qc 1 HX.out))
     | (at_builtin;refine ZbT rfl (.tmp 31) (.tmp 36) rfl W1.heap.size _ (out++⟨#[92]⟩) (x.text.extract k (k+1)) _ rfl hown1 rfl hb1 (by rw [ByteArray.size_append];have:(⟨#[92]⟩:ByteArray).size=1:=rfl;omega) hbel1.size ?_;intro v2 w2 hown2 hg2))
    have hbel2:=hbel1.grown hg2 hbel1.size (λ b hb=>(hown1.lt b hb).1)
    go_roundw
    case rel=>exact⟨k+1,_,by go_num,by omega,HN.out,hown2,hbel2⟩
    case measure=>simp [intOf];omega
   ·have HN:Hid (out++⟨#[92]⟩++x.text.extract k (k+1)=escTo x.text (k+1)):=by show _=_;rw [Zc6 hlt HQ.out,HO.out]
    clear HO HQ
    go_wp2_with (first
     | (at_builtin;refine ZbT rfl (.tmp 28) (.tmp 29) rfl W1.heap.size _ out ⟨#[92]⟩ 92 rfl hown rfl rfl (by omega) hbs ?_;intro v1 w1 hown1 hg1;have hbel1:=hb.grown hg1 hbs (λ b hb=>(hown.lt b hb).1);have c2:w1.cell? ⟨w.heap.size,1,none⟩=some (.string x.text):=(hbel1.cell (p:=⟨w.heap.size,1,none⟩) hlt1).trans (Qc 1 HX.out))
     | (at_builtin;refine ZbT rfl (.tmp 31) (.tmp 36) rfl W1.heap.size _ (out++⟨#[92]⟩) (x.text.extract k (k+1)) _ rfl hown1 rfl hb1 (by rw [ByteArray.size_append];have:(⟨#[92]⟩:ByteArray).size=1:=rfl;omega) hbel1.size ?_;intro v2 w2 hown2 hg2))
    have hbel2:=hbel1.grown hg2 hbel1.size (λ b hb=>(hown1.lt b hb).1)
    go_roundw
    case rel=>exact⟨k+1,_,by go_num,by omega,HN.out,hown2,hbel2⟩
    case measure=>simp [intOf];omega
   ·have HN:Hid (out++x.text.extract k (k+1)=escTo x.text (k+1)):=by show _=_;rw [ZeG hlt HQ.out,HO.out]
    clear HO HQ
    go_wp2_with (at_builtin;refine ZbT rfl (.tmp 31) (.tmp 36) rfl W1.heap.size _ out (x.text.extract k (k+1)) _ rfl hown rfl hb1 (by omega) hbs ?_;intro v2 w2 hown2 hg2)
    have hbel2:=hb.grown hg2 hbs (λ b hb=>(hown.lt b hb).1)
    go_roundw
    case rel=>exact⟨k+1,_,by go_num,by omega,HN.out,hown2,hbel2⟩
    case measure=>simp [intOf];omega
  ·have HD:Hid (out=bit x):=by show _=_;rw [← HF.out,HO.out,show k=x.text.size by omega]
   clear HO
   go_wp2
   go_ret
   exact⟨Ze6 HD.out,hb0.trans (hb.mono (by have:=HS0.out;omega))⟩
/-! ### TextToken -/
theorem ZiE (s:ByteArray):Lib.strCells s++[.int .u8 34]=Lib.strCells (s++⟨#[34]⟩):=by
 unfold Lib.strCells;rw [ByteArray.data_append,Array.toList_append,List.map_append];rfl
theorem Zkx {b:Nat} {s:ByteArray} {w:World} (h:Bld b s w) (hs:s.size<=1048576) :
  Calls Tryz.prog 53 #[.pointer (some ⟨b,0,none⟩),.int .u8 34] w λ e w'=>e=.returned .nilIface/\Bld b (s++⟨#[34]⟩) w'/\Below b w w'/\Lib.OthersKept 5 (some b) w w':=
 (Zkv b b _ 34 w h (by rw [Lib.strCells_length];exact hs) (Nat.le_of_lt h.lt)).mono λ e w' ⟨h1,h2⟩=>⟨h1,Bld.of h2 (ZiE s),h2.2.1,h2.2.2⟩
def qTo (l:List Tok) (k:Nat):ByteArray:=⟨#[34]⟩++Zax l k
theorem qTo_size {l:List Tok} (h:Zaj l=true) {k:Nat} (hk:k<=l.length):(qTo l k).size<=401 * k+1:=by
 have:=Zdj h k hk
 have h1:(⟨#[34]⟩:ByteArray).size=1:=rfl
 unfold qTo;rw [ByteArray.size_append];omega
theorem qTo_sp {l:List Tok} {k:Nat} (hk:k<l.length) (h0:0<k) (h:l[k].spaced=true):qTo l (k+1)=qTo l k++⟨#[32]⟩++bit l[k]:=by
 unfold qTo;rw [ZcD hk h0 h,ByteArray.append_assoc,ByteArray.append_assoc,ByteArray.append_assoc]
theorem qTo_no {l:List Tok} {k:Nat} (hk:k<l.length) (h:¬ (0<k/\l[k].spaced=true)):qTo l (k+1)=qTo l k++bit l[k]:=by
 unfold qTo;rw [ZbW hk h,ByteArray.append_assoc]
theorem qTo_zero (l:List Tok):(⟨#[]⟩:ByteArray)++⟨#[34]⟩=qTo l 0:=rfl
theorem qTo_end (l:List Tok):qTo l l.length++⟨#[34]⟩=quoted (Zax l l.length):=rfl
theorem ZiF (v:Value) (l:List Tok) (fp:List Nat) (w:World) (H:(Zaa sTok).R w [v] l fp) :
  Calls Tryz.prog 148 #[v] w (TextOf l w):=by
 have hz0:=Zab w (.cells #[.int .i64 0,.string ⟨#[]⟩,.bool false,.slice none 0 0] 57)
 have HZ:=Qh (heap_alloc_new w (.cells #[.int .i64 0,.string ⟨#[]⟩,.bool false,.slice none 0 0] 57))
 have hs0:(w.alloc (.cells #[.int .i64 0,.string ⟨#[]⟩,.bool false,.slice none 0 0] 57)).heap.size=w.heap.size+1:=by show (w.heap.push _).size=_;simp
 have HL0:=(Zaa sTok).below H hz0
 have HV:=Qh (Zbu v l fp _ HL0)
 obtain⟨a,cap,rfl,hc,hm,hrow⟩:=Zac HL0
 unfold maxLen at hm
 clear H HL0
 cases hv:Zaj l
 ·have HF:=Qh (Zi2 hv)
  rw [hv] at HV
  clear hv hs0
  go_enter Tryz.func148,Tryz.ntmps148
  go_wp2_with fail
  refine HV.out.mono ?_
  rintro e w2 ⟨rfl,hb2⟩
  have hB2:=hz0.trans (hb2.mono hz0.size)
  replace HZ:=Qh (mbox HZ.out hb2)
  clear HV hb2 hz0
  have z0:=Qc 0 HZ.out
  have zf0:=Qf 0 HZ.out
  have z1:=Qc 1 HZ.out
  have zf1:=Qf 1 HZ.out
  have z2:=Qc 2 HZ.out
  have zf2:=Qf 2 HZ.out
  have z3:=Qc 3 HZ.out
  have zf3:=Qf 3 HZ.out
  have HS:=Qh (Zai (Zai (Zai (Zai HZ.out 0 (.int .i64 0)) 1 (.string ⟨#[]⟩)) 2 (.bool false)) 3 (.slice none 0 0))
  have HBF:=Qh ((((hB2.setCell (p:=⟨w.heap.size,0,none⟩) (Nat.le_refl _) (.int .i64 0)).setCell (p:=⟨w.heap.size,1,none⟩) (Nat.le_refl _) (.string ⟨#[]⟩)).setCell (p:=⟨w.heap.size,2,none⟩) (Nat.le_refl _) (.bool false)).setCell (p:=⟨w.heap.size,3,none⟩) (Nat.le_refl _) (.slice none 0 0))
  go_wp2
  refine bodyPost_ret (Zak rfl _ _ w.heap.size _ _ _ _ rfl HS.out Tryz.underlying57 rfl (by kernel_rfl)) rfl ?_
  exact Zee HF.out HBF.out
 rw [hv] at HV
 have HOK:=Qh (Zau hv)
 have hlen:=HOK.out.1
 have HSZ:=Qh (λ k hk=>qTo_size hv (k:=k) hk)
 have HY:=Qh (λ h=>ZhL (l:=l) hv rfl h)
 have HG:=Qh (λ h=>ZgE (l:=l) hv rfl h)
 have HQL:=Qh (ZgG hv)
 have HVD:=Qh hv
 clear hv
 go_enter Tryz.func148,Tryz.ntmps148
 go_wp2_with fail
 refine HV.out.mono ?_
 rintro e w1 ⟨rfl,hb1⟩
 have hB1:=hz0.trans (hb1.mono hz0.size)
 replace HZ:=Qh (mbox HZ.out hb1)
 have hgz:w.heap.size<w1.heap.size:=by have:=hb1.size;omega
 have HROW:Hid (∀ k,(hk:k<l.length)->∃ b1 off1 h1 fpk,a=some ⟨b1,off1,none⟩/\b1<w1.heap.size/\ElemAt w1 b1 off1 4 k [.int .i64 l[k].kind,.string l[k].text,.bool l[k].spaced,h1]/\sTok.R w1 [.int .i64 l[k].kind,.string l[k].text,.bool l[k].spaced,h1] l[k] fpk):=λ k hk=>by
  obtain⟨b1,off1,fps1,rfl,hb1',-,he1⟩:=hrow (by omega)
  obtain⟨es1,hE1,hR1⟩:=he1 k hk
  have hR1':=hR1
  obtain⟨h1,rfl,-,-,-⟩:=hR1
  exact⟨b1,off1,h1,_,rfl,Nat.lt_of_lt_of_le hb1' hb1.size,hE1.frame (hb1.block b1 hb1'),sTok.below hR1' hb1⟩
 clear hrow HV hb1 hz0 hs0
 have HB0:=Qh (Bld.fresh w1)
 have hb2:=Zab w1 (.cells #[.pointer none,.slice none 0 0] 89)
 go_wp2_with fail
 refine (Zkx HB0.out (by show (0:Nat)<=_;omega)).mono ?_
 rintro e w2 ⟨rfl,hB2,hb3,-⟩
 have hb4:=hb2.trans (hb3.mono (Nat.le_refl _))
 rw [qTo_zero l] at hB2
 replace HB0:=Qh hB2
 clear hb2 hb3 hB2
 go_wp2_with fail
 go_loopw [14] (λ i wr=>∃ (k:Nat),k<=l.length/\i=.int .i64 k/\Hid (Bld w1.heap.size (qTo l k) wr)/\Below w1.heap.size w1 wr) (λ i _=>l.length-(intOf i).toNat)
 case atStart=>exact⟨0,by omega,rfl,HB0,hb4⟩
 case round =>
  obtain⟨k,hk,rfl,HB,hb⟩:=hrel
  clear HB0 hb4
  by_cases hlt:k<l.length
  ·obtain⟨b1,off1,h1,fpk,rfl,hb1',hE1,hR1⟩:=HROW.out k hlt
   replace hE1:=hE1.frame (hb.block b1 hb1')
   have c10:wr.cell? ⟨b1,off1+k * 4,none⟩=some _:=Zam hE1 (by decide) rfl
   have c11:wr.cell? ⟨b1,off1+k * 4+1,none⟩=some _:=Zae (j:=1) hE1 (by decide) rfl
   have c12:wr.cell? ⟨b1,off1+k * 4+2,none⟩=some _:=Zae (j:=2) hE1 (by decide) rfl
   have c13:wr.cell? ⟨b1,off1+k * 4+3,none⟩=some _:=Zae (j:=3) hE1 (by decide) rfl
   have hsz1:=(ZaA (HOK.out.2 k hlt)).2
   have hbz:=Zj4 l[k]
   have hso:=HSZ.out k hk
   have HT:Hid (∀ W,Below w1.heap.size w1 W->Calls Tryz.prog 154 #[.agg #[.int .i64 l[k].kind,.string l[k].text,.bool l[k].spaced,h1]] W (StrOf (bit l[k]) W)):=λ W hW=>Zh2 _ l[k] _ W hsz1 (sTok.below hR1 hW)
   obtain⟨ah,caph,rfl⟩:∃ ah caph,h1=.slice ah l[k].hidden.length caph:=by
    obtain⟨h',e',-,-,K⟩:=hR1
    obtain⟨ah,caph,e2,-⟩:=Zac K
    simp only [List.cons.injEq,and_true,true_and] at e'
    exact⟨ah,caph,by rw [e',e2]⟩
   have hbx:Below wr.heap.size wr (wr.alloc (.cells #[.int .i64 l[k].kind,.string l[k].text,.bool l[k].spaced,.slice ah l[k].hidden.length caph] 57)):=Zab _ _
   have HX:=Qh (heap_alloc_new wr (.cells #[.int .i64 l[k].kind,.string l[k].text,.bool l[k].spaced,.slice ah l[k].hidden.length caph] 57))
   have HB1:=Qh (HB.out.below hbx)
   have hlw:=HB.out.lt
   have hbw:=hb.trans (hbx.mono hb.size)
   have hne:wr.heap.size≠w1.heap.size:=by omega
   clear hE1 hR1 hbx
   by_cases h0:k=0
   ·have h00:¬ (0:Int)<(k:Int):=by omega
    have h01:decide ((0:Int)<(k:Int))=false:=by simp;omega
    have h02:decide (0<k)=false:=by simp;omega
    have HNS:Hid (¬ (0<k/\l[k].spaced=true)):=λ h=>by omega
    clear h0
    have HN:=Qh (qTo_no hlt HNS.out)
    go_wp2_with fail
    refine (HT.out _ hbw).mono ?_
    rintro e w3 ⟨rfl,hb3⟩
    have HB3:=Qh (HB1.out.below hb3)
    have hbw3:=hbw.trans (hb3.mono hbw.size)
    clear c10 c11 c12 c13 hb3
    go_wp2_with fail
    refine (Zde HB3.out (by omega)).mono ?_
    rintro e w4 ⟨rfl,hB4,hb4,-⟩
    rw [← HN.out] at hB4
    have hbw4:=hbw3.trans (hb4.mono (Nat.le_refl _))
    go_wp2
    go_roundw
    case rel=>exact⟨k+1,by omega,by go_num,hB4,hbw4⟩
    case measure=>simp [intOf];omega
   ·have h00:(0:Int)<(k:Int):=by omega
    have h01:decide ((0:Int)<(k:Int))=true:=by simp;omega
    have h02:decide (0<k)=true:=by simp;omega
    cases hsp:l[k].spaced
    ·have HNS:Hid (¬ (0<k/\l[k].spaced=true)):=λ h=>by rw [hsp] at h;exact absurd h.2 (by simp)
     rw [hsp] at c12 HT HX HB1 hbw
     have HN:=Qh (qTo_no hlt HNS.out)
     go_wp2_with fail
     refine (HT.out _ hbw).mono ?_
     rintro e w3 ⟨rfl,hb3⟩
     have HB3:=Qh (HB1.out.below hb3)
     have hbw3:=hbw.trans (hb3.mono hbw.size)
     clear c10 c11 c12 c13 hb3
     go_wp2_with fail
     refine (Zde HB3.out (by omega)).mono ?_
     rintro e w4 ⟨rfl,hB4,hb4,-⟩
     rw [← HN.out] at hB4
     have hbw4:=hbw3.trans (hb4.mono (Nat.le_refl _))
     go_wp2
     go_roundw
     case rel=>exact⟨k+1,by omega,by go_num,hB4,hbw4⟩
     case measure=>simp [intOf];omega
    ·have HN:=Qh (qTo_sp hlt (by omega) hsp)
     rw [hsp] at c12 HT HX HB1 hbw
     go_wp2_with fail
     refine (ZiD HB1.out (by omega)).mono ?_
     rintro e w3 ⟨rfl,hB3,hb3,hk3⟩
     have hbw3:=hbw.trans (hb3.mono (Nat.le_refl _))
     have HX3:=Qh (Zf2 hk3 HX.out hne (by decide))
     have q0:=Qc 0 HX3.out
     have q1:=Qc 1 HX3.out
     have q2:=Qc 2 HX3.out
     have q3:=Qc 3 HX3.out
     have HB3:=Qh hB3
     have h32:(qTo l k++(⟨#[32]⟩:ByteArray)).size<=401 * k+2:=by rw [ByteArray.size_append];have:(⟨#[32]⟩:ByteArray).size=1:=rfl;omega
     have H32:=Qh h32
     clear c10 c11 c12 c13 hb3 hk3 hB3 h32
     go_wp2_with fail
     refine (HT.out _ hbw3).mono ?_
     rintro e w4 ⟨rfl,hb4⟩
     have HB4:=Qh (HB3.out.below hb4)
     have hbw4:=hbw3.trans (hb4.mono hbw3.size)
     clear q0 q1 q2 q3 hb4
     go_wp2_with fail
     refine (Zde HB4.out (by have:=H32.out;omega)).mono ?_
     rintro e w5 ⟨rfl,hB5,hb5,-⟩
     rw [← HN.out] at hB5
     have hbw5:=hbw4.trans (hb5.mono (Nat.le_refl _))
     go_wp2
     go_roundw
     case rel=>exact⟨k+1,by omega,by go_num,hB5,hbw5⟩
     case measure=>simp [intOf];omega
  ·have hso:=HSZ.out k hk
   have hkl:k=l.length:=by omega
   have HE:Hid (qTo l k++⟨#[34]⟩=quoted (Zax l l.length)):=by show _=_;rw [hkl];exact qTo_end l
   clear hkl
   go_wp2_with fail
   refine (Zkx HB.out (by omega)).mono ?_
   rintro e w3 ⟨rfl,hB3,hb3,-⟩
   rw [HE.out] at hB3
   have HQL2:=HQL.out
   generalize quoted (Zax l l.length)=Q at *
   have HL:=Qh (bldLen hB3)
   have HS:=Qh (Zjl hB3)
   have hb5:=hb.trans (hb3.mono (Nat.le_refl _))
   have hbB:=hB1.trans (hb5.mono hB1.size)
   replace HZ:=Qh (mbox HZ.out hb5)
   have hQ:Q.size<=50000:=HQL2
   clear hb3 hB3 HQL2
   by_cases hbig:200<Q.size
   ·have HF:=Qh (HG.out hbig)
    clear HG HY
    go_wp2_with fail
    refine HL.out.mono ?_
    rintro e w4 ⟨rfl,rfl⟩
    clear HL HS
    have z0:=Qc 0 HZ.out
    have zf0:=Qf 0 HZ.out
    have z1:=Qc 1 HZ.out
    have zf1:=Qf 1 HZ.out
    have z2:=Qc 2 HZ.out
    have zf2:=Qf 2 HZ.out
    have z3:=Qc 3 HZ.out
    have zf3:=Qf 3 HZ.out
    have HS:=Qh (Zai (Zai (Zai (Zai HZ.out 0 (.int .i64 0)) 1 (.string ⟨#[]⟩)) 2 (.bool false)) 3 (.slice none 0 0))
    have HBF:=Qh ((((hbB.setCell (p:=⟨w.heap.size,0,none⟩) (Nat.le_refl _) (.int .i64 0)).setCell (p:=⟨w.heap.size,1,none⟩) (Nat.le_refl _) (.string ⟨#[]⟩)).setCell (p:=⟨w.heap.size,2,none⟩) (Nat.le_refl _) (.bool false)).setCell (p:=⟨w.heap.size,3,none⟩) (Nat.le_refl _) (.slice none 0 0))
    go_wp2
    refine bodyPost_ret (Zak rfl _ _ w.heap.size _ _ _ _ rfl HS.out Tryz.underlying57 rfl (by kernel_rfl)) rfl ?_
    exact Zee HF.out HBF.out
   ·have HF:=Qh (HY.out hbig)
    clear HG HY
    go_wp2_with fail
    refine HL.out.mono ?_
    rintro e w4 ⟨rfl,rfl⟩
    go_wp2_with fail
    refine HS.out.mono ?_
    rintro e w5 ⟨rfl,hb6⟩
    have hbC:=hbB.trans (hb6.mono (by omega))
    replace HZ:=Qh ((hb6.block _ hgz).trans HZ.out)
    clear HL HS hb6
    have z0:=Qc 0 HZ.out
    have zf0:=Qf 0 HZ.out
    have z1:=Qc 1 HZ.out
    have zf1:=Qf 1 HZ.out
    have z2:=Qc 2 HZ.out
    have zf2:=Qf 2 HZ.out
    have z3:=Qc 3 HZ.out
    have zf3:=Qf 3 HZ.out
    have HS:=Qh (Zai (Zai (Zai (Zai HZ.out 0 (.int .i64 3)) 1 (.string Q)) 2 (.bool false)) 3 (.slice none 0 0))
    have HBF:=Qh ((((hbC.setCell (p:=⟨w.heap.size,0,none⟩) (Nat.le_refl _) (.int .i64 3)).setCell (p:=⟨w.heap.size,1,none⟩) (Nat.le_refl _) (.string Q)).setCell (p:=⟨w.heap.size,2,none⟩) (Nat.le_refl _) (.bool false)).setCell (p:=⟨w.heap.size,3,none⟩) (Nat.le_refl _) (.slice none 0 0))
    go_wp2
    refine bodyPost_ret (Zak rfl _ _ w.heap.size _ _ _ _ rfl HS.out Tryz.underlying57 rfl (by kernel_rfl)) rfl ?_
    exact ZhR HF.out HBF.out (by omega)
end Go.Proofs.YtiaiggjfepoahaaGreat
