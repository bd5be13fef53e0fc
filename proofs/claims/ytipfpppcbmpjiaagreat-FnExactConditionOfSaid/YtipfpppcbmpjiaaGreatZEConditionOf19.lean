/- Texts that the proof of EConditionOf stands on, in one file. -/
import Derived.Test.YtipfpppcbmpjiaaGreatZEConditionOf18
set_option linter.unusedVariables false
set_option maxHeartbeats 16000000
set_option maxRecDepth 100000
set_option linter.unusedSimpArgs false
/- Of the program: what is in place of a use. (Made by gen_exi5.py.) -/
namespace Go.Proofs.YtipfpppcbmpjiaaGreat
open Go.RowKit
def repR (m:DMacro) (A:Args) (en:Nat) (hs:List ByteArray) (l:List Tok) (R:Args):List Tok × Int:=
 if (Zap m A R).2=true then (if 60<(putL (Zap m A R).1 hs (l.headD zTok).spaced++l.drop en).length then ([],3) else (putL (Zap m A R).1 hs (l.headD zTok).spaced++l.drop en,0)) else ([],2)
theorem ZiS {m:DMacro} {A:Args} {en:Nat} {hs:List ByteArray} {l:List Tok} {R:Args} {b:List Tok} (h:Zap m A R=(b,false)):repR m A en hs l R=([],2):=by unfold repR;rw [h,if_neg (by simp)]
theorem ZnF {m:DMacro} {A:Args} {en:Nat} {hs:List ByteArray} {l:List Tok} {R:Args} {b:List Tok} (h0:0<l.length) (h:Zap m A R=(b,true)) (hl:60<b.length+(l.length-en)):repR m A en hs l R=([],3):=by
 unfold repR;rw [h,if_pos rfl,if_pos (by rw [List.length_append,Zdi,List.length_drop];exact hl)]
theorem repR_yes {m:DMacro} {A:Args} {en:Nat} {hs:List ByteArray} {l:List Tok} {R:Args} {b:List Tok} (h0:0<l.length) (h:Zap m A R=(b,true)) (hl:¬ 60<b.length+(l.length-en)):repR m A en hs l R=(putL b hs l[0].spaced++l.drop en,0):=by
 unfold repR;rw [h,if_pos rfl,if_neg (by rw [List.length_append,Zdi,List.length_drop];exact hl)]
 cases l with
 | nil=>simp at h0
 | cons t r=>rfl
def AfterOf (r:List Tok × Int) (fp:List Nat) (w:World) (e:Ending) (w':World):Prop:=
 ∃ (v:Value) (fp':List Nat),e=.returned (.tuple #[v,.int .i64 r.2])/\(Zaa sTok).R w' [v] r.1 fp'/\(∀ b∈fp',b∈fp\/w.heap.size<=b)/\Below w.heap.size w w'
theorem AfterOf.none {r:List Tok × Int} {fp:List Nat} {c:Int} {w W:World} (h:r=([],c)) (hb:Below w.heap.size w W):AfterOf r fp w (.returned (.tuple #[.slice none 0 0,.int .i64 c])) W:=
 ⟨_,[],by rw [h],by rw [h];exact Zay _ _ _ _ (by simp),by simp,hb⟩
theorem Zfw {t:Tok} (h:tokOk t=true):t.hidden.length<=60/\Up t.hidden:=⟨(Zch (Zby h)).1,(Zch (Zby h)).2.2⟩
theorem ZjN (csM:List Value) (m:DMacro) (fpM:List Nat) (vA vH:Value) (A:Args) (fA:List Nat) (en:Nat) (hs:List ByteArray) (fH:List Nat) (v:Value) (l:List Tok) (fp:List Nat) (vR:Value) (R:Args) (fR:List Nat) (w:World) (h0:0<l.length) (hl60:l.length<=60) (hen:en<=l.length) (hhs:hs.length<=100000)
  (HM:sMacro.R w csM m fpM) (HA:(Zaa sToks).R w [vA] A fA) (HH:(Zaa sStr).R w [vH] hs fH) (H:(Zaa sTok).R w [v] l fp) (HR:(Zaa sToks).R w [vR] R fR) :
  Calls Tryz.prog 90 #[.agg (csM++[vA,.int .i64 en,vH]).toArray,v,vR] w (AfterOf (repR m A en hs l R) fp w):=by
 have HM0:=HM
 obtain⟨h2,h3,q2,q3,rfl,-,K2,K3,-⟩:=HM
 obtain⟨a2,c2,rfl,-⟩:=Zaf K2
 obtain⟨a3,c3,rfl,-⟩:=Zac K3
 have HA0:=HA
 obtain⟨aA,cA,rfl,-⟩:=Zac HA
 have HH0:=HH
 obtain⟨aH,cH,rfl,-⟩:=Zaf HH
 have H00:=H
 have HLT:=Qh ((Zaa sTok).lt H)
 obtain⟨al,cl,rfl,hcl,hml,hrow⟩:=Zac H
 unfold maxLen at hml
 obtain⟨bw,ow,-,rfl,-,-,-⟩:=hrow h0
 have HX:=Qh (heap_alloc_new w (.cells #[.string m.name,.bool m.function,.slice a2 m.params.length c2,.slice a3 m.body.length c3,.slice aA A.length cA,.int .i64 (en:Nat),.slice aH hs.length cH] 129))
 have b0:=Zab w (.cells #[.string m.name,.bool m.function,.slice a2 m.params.length c2,.slice a3 m.body.length c3,.slice aA A.length cA,.int .i64 (en:Nat),.slice aH hs.length cH] 129)
 have HM1:=Qh (sMacro.below HM0 b0)
 have HA1:=Qh ((Zaa sToks).below HA0 b0)
 have HH1:=Qh ((Zaa sStr).below HH0 b0)
 have HL1:=Qh ((Zaa sTok).below H00 b0)
 have HR1:=Qh ((Zaa sToks).below HR b0)
 clear HM0 K2 K3 HA HA0 HH HH0 H H00 HR hrow
 go_enter Tryz.func90,Tryz.ntmps90
 go_upto_region 1 with fail
 generalize (w.alloc (.cells #[.string m.name,.bool m.function,.slice a2 m.params.length c2,.slice a3 m.body.length c3,.slice aA A.length cA,.int .i64 (en:Nat),.slice aH hs.length cH] 129))=W1 at *
 have p0:=Qc 0 HX.out
 have p1:=Qc 1 HX.out
 have p2:=Qc 2 HX.out
 have p3:=Qc 3 HX.out
 have p4:=Qc 4 HX.out
 have p5:=Qc 5 HX.out
 have p6:=Qc 6 HX.out
 have HSB:=Qh (Zig _ m fpM _ _ A R fA fR W1 HM1.out HA1.out HR1.out)
 unfold ZiR at HSB
 have HSO:Hid (∀ t∈(Zap m A R).1,tokOk t=true):=sub_ok
 have HSL:Hid ((Zap m A R).1.length<=240):=ZiH m A R
 rcases hsr:Zap m A R with⟨b,ok⟩
 rw [hsr] at HSB HSO HSL
 try dsimp only at HSB HSO HSL
 have HSR:=Qh hsr
 clear hsr
 cases ok
 ·have HF:=Qh (ZiS (en:=en) (hs:=hs) (l:=l) HSR.out)
  go_wp2_with fail
  refine HSB.out.mono ?_
  rintro e w2 ⟨vB,fB,rfl,RB,-,hb2⟩
  obtain⟨aB,cB,rfl,-⟩:=Zac RB
  clear RB
  go_wp2
  go_ret2
  exact AfterOf.none HF.out (b0.trans (hb2.mono b0.size))
 go_wp2_with fail
 refine HSB.out.mono ?_
 rintro e w2 ⟨vB,fB,rfl,RB,OB,hb2⟩
 obtain⟨aB,cB,rfl,-⟩:=Zac RB
 clear p0 p1 p2 p3 p4 p5 p6 HSB
 have hB2:=b0.trans (hb2.mono b0.size)
 have HX2:=Qh (mbox HX.out hb2)
 have HL2:=Qh ((Zaa sTok).below HL1.out hb2)
 have HH2:=Qh ((Zaa sStr).below HH1.out hb2)
 have HRB:=Qh RB
 have hbl:b.length<=240:=HSL.out
 obtain⟨nb,HNB⟩:∃ nb:Nat,Hid (nb=b.length):=⟨_,Qh rfl⟩
 rw [show b.length=nb from HNB.out.symm] at HRB hbl ⊢
 clear RB OB hb2 b0 HX HM1 HA1 HH1 HL1 HR1
 go_upto_region 4 with fail
 obtain⟨xa,xc,xf,x0,x1,x2,x3,xR,hbb,-⟩:=ZaB HL2.out h0
 simp only [Nat.zero_mul,Nat.add_zero] at x0 x1 x2 x3
 have HXX:=Qh (And.intro x0 (And.intro x1 (And.intro x2 x3)))
 have HXR:=Qh xR
 have HSM:Hid (∀ Q:World,Below w2.heap.size w2 Q->(λ w'=>w'.heap[w.heap.size]?=some (.cells #[.string m.name,.bool m.function,.slice a2 m.params.length c2,.slice a3 m.body.length c3,.slice aA A.length cA,.int .i64 (en:Nat),.slice aH hs.length cH] 129 (0,0))/\w'.cell? ⟨bw,ow,none⟩=some (.int .i64 l[0].kind)/\w'.cell? ⟨bw,ow+1,none⟩=some (.string l[0].text)/\w'.cell? ⟨bw,ow+2,none⟩=some (.bool l[0].spaced)/\w'.cell? ⟨bw,ow+3,none⟩=some (.slice xa l[0].hidden.length xc)) Q):=λ Q hQ=>⟨mbox HX2.out hQ,(hQ.cell (p:=⟨bw,ow,none⟩) hbb).trans HXX.out.1,(hQ.cell (p:=⟨bw,ow+1,none⟩) hbb).trans HXX.out.2.1,(hQ.cell (p:=⟨bw,ow+2,none⟩) hbb).trans HXX.out.2.2.1,(hQ.cell (p:=⟨bw,ow+3,none⟩) hbb).trans HXX.out.2.2.2⟩
 have HSP:=Qh (λ (Q:World) (hQ:Below w2.heap.size w2 Q)=>Zb6 _ l[0] xf (.slice aB nb cB) b fB Q (by have:=HSL.out;omega) (λ k hk=>by have:=(Zfw (HSO.out _ (List.getElem_mem hk))).1;omega) (sTok.below HXR.out hQ) ((Zaa sTok).below HRB.out hQ))
 clear x0 x1 x2 x3 xR
 have hcs:Below w2.heap.size w2 w2.drew:=Zag (Below.refl _ _) 1
 refine wp_region_noPanic ?_
 refine wp_region_held_drew (S:=λ w'=>w'.heap[w.heap.size]?=some (.cells #[.string m.name,.bool m.function,.slice a2 m.params.length c2,.slice a3 m.body.length c3,.slice aA A.length cA,.int .i64 (en:Nat),.slice aH hs.length cH] 129 (0,0))/\w'.cell? ⟨bw,ow,none⟩=some (.int .i64 l[0].kind)/\w'.cell? ⟨bw,ow+1,none⟩=some (.string l[0].text)/\w'.cell? ⟨bw,ow+2,none⟩=some (.bool l[0].spaced)/\w'.cell? ⟨bw,ow+3,none⟩=some (.slice xa l[0].hidden.length xc)) (by kernel_rfl) (by exact HSM.out _ hcs) (λ hHeld=>?_)
 generalize hwd:w2.drew=wd at *
 refine Qt 0 22 rfl rfl ?_
 try simp only [Qp]
 refine Qt 1 23 rfl rfl ?_
 try simp only [Qp]
 refine Qt 2 24 rfl rfl ?_ (by intro w hSw;obtain⟨-,t0,t1,t2,t3⟩:=hSw;go_simp;(first | done | with_reducible rfl | rfl))
 try simp only [Qp]
 refine Qt 3 25 rfl rfl ?_
 try simp only [Qp]
 refine Qt 5 27 rfl rfl ?_
 try simp only [Qp]
 refine Qt 6 28 rfl rfl ?_ (by intro w hSw;have p6:=Qc 6 hSw.1;go_simp;(first | done | with_reducible rfl | rfl))
 try simp only [Qp]
 refine Qr 4 rfl (λ K hK=>?_)
 go_simp
 refine (HSP.out _ hcs).mono ?_
 rintro e w3 ⟨v3,L3,rfl,R3,D3,O3,hb3⟩
 obtain⟨f3,r3,g3,-⟩:=R3.read
 rw [D3] at r3
 obtain⟨a3_,c3_,rfl,-⟩:=Zac r3
 have hx3:=hcs.trans (hb3.mono hcs.size)
 refine hK.out _ _ (HSM.out _ hx3) (λ hHeld=>?_)
 clear hK K
 try simp only [Qp]
 refine Qr 7 rfl (λ K hK=>?_)
 go_simp
 have HHN:=Qh (ZiM _ (spc l[0].spaced b) f3 _ hs fH w3 (by rw [Ziy];have:=HSL.out;omega) (λ t ht=>(Zfw (Zid HSO.out t ht)).2) (λ t ht=>by have:=(Zfw (Zid HSO.out t ht)).1;omega) hhs r3 ((Zaa sStr).below HH2.out hx3))
 refine HHN.out.mono ?_
 rintro e w4 ⟨v4,L4,rfl,R4,D4,F4,hb4⟩
 rw [put_spc] at D4
 have hx4:=hx3.trans (hb4.mono hx3.size)
 refine hK.out _ _ (HSM.out _ hx4) (λ hHeld=>?_)
 clear hK K
 try simp only [Qp]
 refine Qt 8 8 rfl rfl ?_
 try simp only [Qp]
 refine wpAnyH_done (by kernel_rfl) ?_ _
 refine NoPanic.normal ?_
 clear hHeld
 have hB4:=hB2.trans (hx4.mono hB2.size)
 have HX4:=Qh (mbox HX2.out hx4)
 have HL4:=Qh ((Zaa sTok).below HL2.out hx4)
 have h24:w.heap.size<=w3.heap.size:=by have:=hB2.size;have:=hx3.size;omega
 have HR4:=Qh (R4.lower (base':=w.heap.size) h24)
 have HD4:=Qh D4
 have HF4:Hid (∀ x∈L4,∀ b∈x.fp,w.heap.size<=b):=λ x hx c hc=>by
  rcases F4 x hx c hc with h | h
  ·rcases g3 c h with h1 | ⟨y,hy,h1⟩
   ·have:=(R3.mine c h1).1;have:=hB2.size;have:=hcs.size;omega
   ·have:=(O3.2 c (List.mem_flatMap.2 ⟨y,hy,h1⟩)).1;have:=hB2.size;have:=hcs.size;omega
  ·omega
 have hL4:L4.length=nb:=by have:=congrArg List.length D4;rw [List.length_map,Zdi] at this;rw [this,HNB.out]
 obtain⟨a4,c4,hv4,-⟩:=R4.val
 rw [hL4] at hv4
 subst hv4
 have HL4n:=Qh hL4
 clear R3 D3 O3 r3 g3 hb3 R4 D4 F4 hb4 hL4 HXX HXR HSM HSP HX2 HL2 HH2 HRB hcs hwd
 have p5:=Qc 5 HX4.out
 obtain⟨sv,HSV⟩:∃ sv:Value,Hid (sv=.slice (if cl=en then some ⟨bw,ow,none⟩ else some ⟨bw,ow+en * 4,none⟩) (l.length-en) (cl-en)):=⟨_,Qh rfl⟩
 have o1:(0:Int)<=(en:Int):=by omega
 have o2:(en:Int)<=(l.length:Int):=by omega
 have o3:(en:Int)<=(cl:Int):=by omega
 have o4:en<=cl:=by omega
 go_upto_region 5 with fail
 go_cut [10] from 11 to 43 (λ d wx=>d=sv/\wx=w4)
 case first =>
  by_cases h1:cl=en
  ·have HSV1:Hid (sv=.slice (some ⟨bw,ow,none⟩) (l.length-en) (cl-en)):=by show _=_;rw [HSV.out,if_pos h1]
   have HC1:=Qh h1
   go_wp2
   go_meet
   case rel=>exact⟨by rw [HSV1.out];simp [HC1.out],by trivial⟩
  ·have HSV1:Hid (sv=.slice (some ⟨bw,ow+en * 4,none⟩) (l.length-en) (cl-en)):=by show _=_;rw [HSV.out,if_neg h1]
   go_wp2
   go_meet
   case rel=>exact⟨by rw [HSV1.out],by trivial⟩
 obtain⟨rfl,rfl⟩:=hcut
 generalize wc=w4 at *
 obtain⟨fps,RS0,hfs⟩:=Za3 en hen HL4.out
 rw [Option.map_some,Addr.add_lit,show sTok.m=4 from rfl] at RS0
 have HRS:Hid ((Zaa sTok).R w4 [u10] (l.drop en) fps):=by show (Zaa sTok).R _ _ _ _;rw [HSV.out];exact RS0
 obtain⟨nr,HNR⟩:∃ nr:Nat,Hid (nr=l.length-en):=⟨_,Qh rfl⟩
 obtain⟨ar,cr,hvr,-⟩:=Zac RS0
 have HU:Hid (u10=.slice (if cl=en then some ⟨bw,ow,none⟩ else some ⟨bw,ow+en * 4,none⟩) nr (cl-en)):=by show _=_;rw [HSV.out,HNR.out]
 obtain⟨au,hau⟩:∃ au:Option Addr,au=(if cl=en then some ⟨bw,ow,none⟩ else some ⟨bw,ow+en * 4,none⟩):=⟨_,rfl⟩
 rw [← hau] at HU
 have HU2:=HU.out
 subst HU2
 clear hau HU HSV hvr RS0 p5 o1 o2 o3 o4
 have hnr60:nr<=60:=by have:=HNR.out;omega
 have HFS:=Qh hfs
 by_cases hlong:60<nb+nr
 ·have HF:=Qh (ZnF (en:=en) (hs:=hs) h0 HSR.out (by rw [← HNB.out,← HNR.out];exact hlong))
  have e1:(60:Int)<(nb:Int)+(nr:Int):=by omega
  clear hlong
  go_wp2
  go_ret2
  exact AfterOf.none HF.out hB4
 have HF:=Qh (repR_yes (en:=en) (hs:=hs) h0 HSR.out (by rw [← HNB.out,← HNR.out];exact hlong))
 have e1:¬ (60:Int)<(nb:Int)+(nr:Int):=by omega
 have hlo:Hid (∀ b∈fps,(Value.slice a4 nb c4).ownBlock≠some b):=λ c hc h=>by
  have h1:=(HR4.out.mine c h).1
  have h2:=HLT.out c (HFS.out c hc)
  omega
 have hdl:Hid ((l.drop en).length<=60):=by show _<=_;rw [List.length_drop];omega
 clear hlong
 go_wp2_with (at_builtin;refine Zbh ZaG rfl (by decide) ZaF _ rfl (.tmp 40) (.tmp 41) rfl w.heap.size (.slice a4 nb c4) _ (l.drop en) fps rfl HR4.out rfl HRS.out hlo.out (by have:=HL4n.out;have:=hdl.out;unfold maxLen;omega) (by have:=HL4n.out;have:=hdl.out;omega) hB4.size ?_;intro v5 X w5 hX hXf hR5 hg5 hp5)
 have hb5:Below w.heap.size w w5:=hB4.grown hg5 hB4.size (λ b hb=>(HR4.out.mine b hb).1)
 obtain⟨f5,r5,g5,-⟩:=hR5.read
 have HRR:Hid ((Zaa sTok).R w5 [v5] (putL b hs l[0].spaced++l.drop en) f5):=by
  show (Zaa sTok).R _ _ _ _
  rw [List.map_append,HD4.out,hX] at r5;exact r5
 have HGG:Hid (∀ c∈f5,c∈fp\/w.heap.size<=c):=λ c hc=>by
  rcases g5 c hc with h1 | ⟨x,hx,h1⟩
  ·exact .inr (hR5.mine c h1).1
  ·rcases Qa hx with hx | hx
   ·exact .inr (HF4.out x hx c h1)
   ·exact .inl (HFS.out c (hXf x hx c h1))
 clear hX hXf hR5 hg5 hp5 r5 g5
 go_wp2
 go_ret2
 exact⟨v5,f5,by rw [HF.out];rfl,by rw [HF.out];exact HRR.out,HGG.out,hb5⟩
def stepX (f:List Tok->Nat->XRes) (m:DMacro) (l:List Tok):Nat->List Tok × Nat × Int
 | 0=>([],0,3)
 |
  s+1 =>
  match useR m l with
  | none=>([],s,1)
  |
   some (A,en,hs) =>
   if (argsX f A s).2.2=0 then ((repR m A en hs l (argsX f A s).1).1,(argsX f A s).2.1,(repR m A en hs l (argsX f A s).1).2) else ([],(argsX f A s).2)
section
variable {f:List Tok->Nat->XRes} {m:DMacro} {l:List Tok} {s en q:Nat} {A R:Args} {hs:List ByteArray} {c:Int} {x:List Tok}
theorem Zgy (h:useR m l=none):stepX f m l (s+1)=([],s,1):=by unfold stepX;rw [h]
theorem Zgj (h:useR m l=some (A,en,hs)) (ha:argsX f A s=(R,q,c)) (hc:c≠0):stepX f m l (s+1)=([],q,c):=by
 unfold stepX;rw [h];simp only [ha];rw [if_neg hc]
theorem Zcm (h:useR m l=some (A,en,hs)) (ha:argsX f A s=(R,q,0)) (hr:repR m A en hs l R=(x,c)):stepX f m l (s+1)=(x,q,c):=by
 unfold stepX;rw [h];simp only [ha];rw [if_pos trivial,hr]
end
theorem ZnG {m:DMacro} {l:List Tok} (h:m.function=true) {A:Args} {e:Nat} (hs:splK (l.drop 2) 1 [] [] 2=(A,e,true)) (hn:argN m.params.length A=m.params.length) :
  useR m l=some (A.take m.params.length,e,ins (both (l.headD zTok).hidden (l.getD (e-1) zTok).hidden) m.name):=by
 unfold useR
 rw [if_neg (by simp [h]),hs,if_pos ⟨rfl,hn⟩]
theorem ZkU {m:DMacro} {A:Args} {en:Nat} {hs:List ByteArray} {l:List Tok} {R:Args} {b:List Tok} (h:Zap m A R=(b,true)) :
  repR m A en hs l R=if 60<(putL b hs (l.headD zTok).spaced++l.drop en).length then ([],3) else (putL b hs (l.headD zTok).spaced++l.drop en,0):=by unfold repR;rw [h,if_pos rfl]
theorem ZkV {T:List DMacro} {n s:Nat} {out r:List Tok} {t:Tok} {m:DMacro} (h:goM T (t::r)=some m) :
  expG T (n+1) (s+1) out (t::r)=if (stepX (λ a k=>expG T n k [] a) m (t::r) (s+1)).2.2=0 then expG T n (stepX (λ a k=>expG T n k [] a) m (t::r) (s+1)).2.1 out (stepX (λ a k=>expG T n k [] a) m (t::r) (s+1)).1 else ([],(stepX (λ a k=>expG T n k [] a) m (t::r) (s+1)).2):=by
 cases hf:m.function
 ·have hu:=ZkO (m:=m) (l:=t::r) (by simp) hf
  rcases hc:Zap m [] [] with⟨b,ok⟩
  cases ok
  ·rw [Zec h hf hc,Zcm hu (show argsX _ [] s=([],s,0) from rfl) (ZiS hc),if_neg (by simp)]
  ·have hg:=ZkU (en:=1) (hs:=ins (t::r)[0].hidden m.name) (l:=t::r) hc
   have e1:putL b (ins (t::r)[0].hidden m.name) ((t::r).headD zTok).spaced++(t::r).drop 1=putL b (ins t.hidden m.name) t.spaced++r:=rfl
   rw [e1] at hg
   by_cases hl:60<(putL b (ins t.hidden m.name) t.spaced++r).length
   ·rw [if_pos hl] at hg
    rw [Zeb h hf hc hl,Zcm hu (show argsX _ [] s=([],s,0) from rfl) hg,if_neg (by simp)]
   ·rw [if_neg hl] at hg
    rw [ZeW h hf hc hl,Zcm hu (show argsX _ [] s=([],s,0) from rfl) hg,if_pos rfl]
 ·rcases hS:splK ((t::r).drop 2) 1 [] [] 2 with⟨A,e,ok⟩
  cases ok
  ·rw [ZbZ h hf (ZlY hS) (by simp),Zgy (Zl4 hf hS),if_neg (by simp)]
  by_cases hn:argN m.params.length A=m.params.length
  rotate_left
  ·rw [ZbZ h hf (ZkD hS hn) (by simp),Zgy (ZkP hf hS hn),if_neg (by simp)]
  have hu:=ZnG hf hS hn
  rcases ha:argsX (λ a k=>expG T n k [] a) (A.take m.params.length) s with⟨R,l,c⟩
  by_cases hc:c=0
  rotate_left
  ·rw [ZbZ h hf (Zjw hS hn ha hc) hc,Zgj hu ha hc,if_neg hc]
  subst hc
  rcases hb:Zap m (A.take m.params.length) R with⟨b,fine⟩
  cases fine
  ·rw [ZbZ h hf (Zib hS hn ha hb) (by simp),Zcm hu ha (ZiS hb),if_neg (by simp)]
  ·have hg:=ZkU (en:=e) (hs:=ins (both ((t::r).headD zTok).hidden ((t::r).getD (e-1) zTok).hidden) m.name) (l:=t::r) hb
   have hy:=ZkE hS hn ha hb
   split at hg
   ·rename_i hl
    rw [ZdA h hf hy hl,Zcm hu ha hg,if_neg (by simp)]
   ·rename_i hl
    rw [Zea h hf hy hl,Zcm hu ha hg,if_pos rfl]
def EBox (eb:Nat) (vT:Value) (k:Nat) (w:World):Prop:=w.heap[eb]?=some (.cells #[vT,.int .i64 (k:Nat)] 74 (0,0))
theorem EBox.below {eb:Nat} {vT:Value} {k:Nat} {w w':World} (h:EBox eb vT k w) (hb:Below w.heap.size w w'):EBox eb vT k w':=mbox h hb
def MineX (eb:Nat) (vT:Value) (r:XRes) (w:World) (e:Ending) (w':World):Prop:=
 ∃ (v:Value) (L:List (Elem Tok)) (k':Nat),e=.returned (.tuple #[v,.int .i64 r.2.2])/\RowN sTok w.heap.size 32 v L w'/\L.map (·.d)=r.1/\Own w' w.heap.size (L.flatMap (·.fp))/\EBox eb vT k' w'/\(r.2.2=0->k'+r.2.1=100)/\Kept [eb] w w'
def AllOf (eb:Nat) (vT:Value) (r:List (List Tok) × Nat × Int) (w:World) (e:Ending) (w':World):Prop:=
 ∃ (v:Value) (fp:List Nat) (k':Nat),e=.returned (.tuple #[v,.int .i64 r.2.2])/\(Zaa sToks).R w' [v] r.1 fp/\(∀ b∈fp,w.heap.size<=b)/\EBox eb vT k' w'/\(r.2.2=0->k'+r.2.1=100)/\Kept [eb] w w'
def StepOf (eb:Nat) (vT:Value) (fp:List Nat) (r:List Tok × Nat × Int) (w:World) (e:Ending) (w':World):Prop:=
 ∃ (v:Value) (fp':List Nat) (k':Nat),e=.returned (.tuple #[v,.int .i64 r.2.2])/\(Zaa sTok).R w' [v] r.1 fp'/\(∀ b∈fp',b∈fp\/w.heap.size<=b)/\EBox eb vT k' w'/\(r.2.2=0->k'+r.2.1=100)/\Kept [eb] w w'
def Good (N:List ByteArray) (t:Tok):Prop:=Tx t/\HidIn N t
def ExpI (T:List DMacro) (N:List ByteArray) (n:Nat):Prop:=
 ∀ (eb:Nat) (vT:Value) (fpT:List Nat) (v:Value) (l:List Tok) (fp:List Nat) (s k:Nat) (w:World),s<=n->k+s=100->l.length<=60->(∀ t∈l,Good N t)->EBox eb vT k w->(Zaa sMacro).R w [vT] T fpT->eb∉fpT->(Zaa sTok).R w [v] l fp->eb∉fp ->
  Calls Tryz.prog 39 #[.pointer (some ⟨eb,0,none⟩),v] w (MineX eb vT (expG T n s [] l) w)
theorem Kept.after {K:List Nat} {w w1 w2:World} (h:Kept K w w1) (hb:Below w1.heap.size w1 w2):Kept K w w2:=h.trans (Kept.of_below hb)
theorem ZiT {T:List DMacro} {N:List ByteArray} {n:Nat} (HE:ExpI T N n) (eb:Nat) (vT:Value) (fpT:List Nat) (vA:Value) (A:List (List Tok)) (fA:List Nat) (s k0:Nat) (w:World) (hs:s<=n) (hk:k0+s=100) (hAl:A.length<=60) (hA:∀ a∈A,a.length<=60/\∀ t∈a,Good N t)
  (HB:EBox eb vT k0 w) (HT:(Zaa sMacro).R w [vT] T fpT) (heT:eb∉fpT) (H:(Zaa sToks).R w [vA] A fA) (heA:eb∉fA) :
  Calls Tryz.prog 89 #[.pointer (some ⟨eb,0,none⟩),vA] w (AllOf eb vT (argsX (λ a k=>expG T n k [] a) A s) w):=by
 have H0:=Qh H
 have HT0:=Qh HT
 have HAA:=Qh hA
 have heb:eb<w.heap.size:=mlt HB
 obtain⟨aA,cA,rfl,hcA,hmA,hrow⟩:=Zac H
 unfold maxLen at hmA
 clear H HT hA
 go_enter Tryz.func89,Tryz.ntmps89
 go_wp2
 go_loopw [6,13] (λ vr i wr=>∃ (k s' kk:Nat) (R:List (Elem (List Tok))),k<=A.length/\i=.int .i64 k/\s'<=s/\kk+s'=100/\Hid (AccA (λ a k=>expG T n k [] a) A s k s' (R.map (·.d)))/\Hid (RowN sToks w.heap.size 24 vr R wr)/\Hid (R.length=k)/\Hid (∀ x∈R,∀ b∈x.fp,w.heap.size<=b)/\Hid (EBox eb vT kk wr)/\Hid (Kept [eb] w wr)) (λ _ i _=>A.length-(intOf i).toNat)
 case atStart=>exact⟨0,s,k0,[],by omega,rfl,Nat.le_refl _,hk,AccA.start _ _ _,RowN.nil _ _ _ _,rfl,(λ x hx=>by simp at hx),HB,Kept.refl _ _⟩
 case round =>
  obtain⟨k,s',kk,R,hk2,rfl,hss,hkk,HACC,HRN,HRK,HRF,HBX,HK⟩:=hrel
  obtain⟨ar,cr,hvr,-⟩:=HRN.out.val
  rw [HRK.out] at hvr
  subst hvr
  have hwr:=HK.out.size
  by_cases hlt:k<A.length
  ·obtain⟨ba,oa,-,rfl,-,-,-⟩:=hrow (by omega)
   have HRr:=Qh ((Zaa sToks).kept H0.out (λ b hb=>by simp only [List.mem_singleton];rintro rfl;exact heA hb) HK.out)
   obtain⟨aj,cj,fj,q1,RX,hbl,hfj⟩:=ZbX HRr.out hlt
   have hga:=HAA.out _ (List.getElem_mem hlt)
   have HEX:=Qh (HE eb vT fpT _ A[k] fj s' kk wr (by omega) hkk hga.1 hga.2 HBX.out ((Zaa sMacro).kept HT0.out (λ b hb=>by simp only [List.mem_singleton];rintro rfl;exact heT hb) HK.out) heT RX (λ h=>heA (hfj _ h)))
   have HXS:=Qh (Zh6 T n A[k] s' [])
   rcases hx:expG T n s' [] A[k] with⟨x,lf,c⟩
   rw [hx] at HEX HXS
   have HFX:Hid ((λ a k=>expG T n k [] a) A[k] s'=(x,lf,c)):=hx
   unfold MineX at HEX
   try dsimp only at HEX
   have hlf:lf<=s':=HXS.out
   have i0:(0:Int)<=(k:Int):=by omega
   have i1:(k:Int)<(A.length:Int):=by omega
   clear hx hga HRr RX hbl hfj hrow
   go_wp2_with fail
   refine HEX.out.mono ?_
   rintro e w5 ⟨vx,L,k5,rfl,RL,hLd,OL,EB5,hk5,K5⟩
   have HKS:=Qh K5
   have HK5:=Qh (HK.out.trans K5)
   have HEB5:=Qh EB5
   obtain⟨fx,rx,gx,ox⟩:=RL.read
   have hox:=ox OL
   rw [hLd] at rx
   obtain⟨ax,cx,rfl,-⟩:=Zac rx
   clear q1 HEX EB5 K5
   by_cases hc0:c=0
   rotate_left
   ·have HF:=Qh (HACC.out.stop hlt HFX.out hc0)
    have e2:(c != 0)=true:=by simp [hc0]
    have HC0:=Qh hc0
    clear hc0 hk5
    go_wp2
    go_ret2
    exact⟨_,[],k5,by rw [HF.out];rfl,by rw [HF.out];exact Zay _ _ _ _ (by simp),by simp,HEB5.out,λ h=>by rw [HF.out] at h;exact absurd h HC0.out,HK5.out⟩
   subst hc0
   have hk6:k5+lf=100:=hk5 rfl
   have HN:=Qh (HACC.out.step hlt HFX.out)
   have HRN5:=Qh (HRN.out.kept HKS.out (λ g hg=>by simp only [List.mem_singleton];have:=(HRN.out.mine g hg).1;omega) (λ x hx b hb=>by simp only [List.mem_singleton];have:=HRF.out x hx b hb;omega))
   have hw5:=HKS.out.size
   have bl:=Zab w5 (.cells #[.slice ax x.length cx] 24)
   have HL6:=Qh (heap_alloc_new w5 (.cells #[.slice ax x.length cx] 24))
   have HRN6:=Qh (HRN5.out.below bl)
   have RX6:=Qh (sToks.below rx bl)
   have HFXL:Hid (∀ b∈fx,wr.heap.size<=b):=λ b hb=>(hox.2 b hb).1
   have HVX:Hid (∀ b∈fx,(Value.slice ar k cr).ownBlock≠some b):=λ b hb h=>by
    have h1:=(HRN.out.mine b h).2
    have:=HFXL.out b hb;omega
   have HEB6:=Qh (HEB5.out.below bl)
   have HK6:=Qh (HK5.out.after bl)
   clear RL OL gx ox hox rx hLd bl hk5
   go_wp2_with (at_builtin;refine ZaE (X:=[(⟨[.slice ax x.length cx],x,fx⟩:Elem (List Tok))]) ZdM rfl (by decide) _ rfl (.tmp 26) (.tmp 28) rfl w.heap.size (.slice ar k cr) rfl HRN6.out ⟨w5.heap.size,0,none⟩ 1 1 rfl rfl (λ y hy=>by obtain rfl:=Qm hy;exact⟨rfl,RX6.out,HVX.out⟩) (λ y hy u hu=>by obtain rfl:=Qm hy;rw [Qm hu];rfl) (λ j u hj=>by rw [ZaI,Nat.zero_add,cell_of_row _ _ _ _ _ _ HL6.out];simpa using hj) (by have:=HRK.out;unfold maxLen;omega) (by have:=HRK.out;omega) (by have:=HK6.out.size;omega) ?_;intro v7 w7 hR7 hg7 hp7)
   have HK7:Hid (Kept [eb] w w7):=⟨hg7.os.trans HK6.out.os,hg7.tape.trans HK6.out.tape,hg7.output.trans HK6.out.output,Nat.le_trans HK6.out.size hg7.size,λ b hb hn=>(hg7.block b (by have:=HK6.out.size;omega) (λ e=>by have:=(HRN6.out.mine b e.symm).1;omega)).trans (HK6.out.block b hb hn)⟩
   have HEB7:Hid (EBox eb vT k5 w7):=(hg7.block eb (by have:=HK6.out.size;omega) (λ e=>by have:=(HRN6.out.mine eb e.symm).1;omega)).trans HEB6.out
   have HR7:=Qh hR7
   have HF7:Hid (∀ y∈R++[(⟨[.slice ax x.length cx],x,fx⟩:Elem (List Tok))],∀ b∈y.fp,w.heap.size<=b):=λ y hy b hb=>by
    rcases Qa hy with hy | hy
    ·exact HRF.out y hy b hb
    ·rw [Qm hy] at hb;have:=HFXL.out b hb;omega
   have HN7:Hid (AccA (λ a k=>expG T n k [] a) A s (k+1) lf ((R++[(⟨[.slice ax x.length cx],x,fx⟩:Elem (List Tok))]).map (·.d))):=by show AccA _ _ _ _ _ _;rw [List.map_append];exact HN.out
   have HL7:Hid ((R++[(⟨[.slice ax x.length cx],x,fx⟩:Elem (List Tok))]).length=k+1):=by show _=_;rw [List.length_append,HRK.out];rfl
   clear hR7 hg7 hp7
   go_wp2
   go_roundw
   case rel=>exact⟨k+1,lf,k5,_,by omega,by go_num,by omega,hk6,HN7,HR7,HL7,HF7,HEB7,HK7⟩
   case measure=>simp [intOf];omega
  ·have hke:k=A.length:=by omega
   have HAR:=Qh (HACC.out.done (by omega))
   obtain⟨fr,rr,gr,-⟩:=HRN.out.read
   have HRR:=Qh rr
   have HG:=Qh (λ b hb=>(show w.heap.size<=b from by
    rcases gr b hb with h | ⟨x,hx,h⟩
    ·exact(HRN.out.mine b h).1
    ·exact HRF.out x hx b h))
   clear rr gr hke
   go_wp2
   go_ret2
   exact⟨_,fr,kk,by rw [HAR.out];rfl,by rw [HAR.out];exact HRR.out,HG.out,HBX.out,λ _=>by rw [HAR.out];exact hkk,HK.out⟩
theorem head_mem {l:List Tok} (h0:0<l.length):l.headD zTok∈l:=by
 cases l with
 | nil=>simp at h0
 | cons t r=>simp
theorem ZnH (a b:List ByteArray):(both a b).length<=a.length:=List.length_filter_le _ _
theorem ZjE {N:List ByteArray} {m:DMacro} {l:List Tok} {A:Args} {en:Nat} {hs:List ByteArray} (h:useR m l=some (A,en,hs)) (hl:l.length<=60) (h0:0<l.length) (hg:∀ t∈l,Good N t) (hN:N.length<=5000) (hm:m.name∈N) :
  A.length<=60/\(∀ a∈A,a.length<=60/\∀ t∈a,Good N t)/\en<=l.length/\hs.length<=100000/\∀ x∈hs,x∈N:=by
 have hh:=(hg _ (head_mem h0)).2
 have hhl:=hh.len
 unfold useR at h
 split at h
 ·simp only [Qi,Prod.mk.injEq] at h
  obtain⟨rfl,rfl,rfl⟩:=h
  have:=Zft m.name (l.headD zTok).hidden
  refine ⟨by simp,by simp,h0,by omega,λ x hx=>?_⟩
  rcases ZcM hx with rfl | hx
  ·exact hm
  ·exact hh.2 x hx
 ·split at h
  ·rename_i h1
   simp only [Qi,Prod.mk.injEq] at h
   obtain⟨rfl,rfl,rfl⟩:=h
   have h2:=Zfp (l.drop 2) 1 [] [] 2 (B:=60) (by simp) (by rw [List.length_drop];simp;omega)
   have h3:=Zed (P:=Good N) (l.drop 2) 1 [] [] 2 (λ t ht=>hg t (List.mem_of_mem_drop ht)) (by simp) (by simp)
   have h4:=Zca (l.drop 2) 1 [] [] 2 (R:=(splK (l.drop 2) 1 [] [] 2).1) (e:=(splK (l.drop 2) 1 [] [] 2).2.1) (by rw [← h1.1])
   rw [List.length_drop] at h4
   have h5:=h2.2
   rw [List.length_drop] at h5
   have h6:=Zft m.name (both (l.headD zTok).hidden (l.getD ((splK (l.drop 2) 1 [] [] 2).2.1-1) zTok).hidden)
   have h7:=ZnH (l.headD zTok).hidden (l.getD ((splK (l.drop 2) 1 [] [] 2).2.1-1) zTok).hidden
   refine ⟨?_,λ a ha=>⟨h2.1 a (List.mem_of_mem_take ha),h3 a (List.mem_of_mem_take ha)⟩,by omega,by omega,λ x hx=>?_⟩
   ·rw [List.length_take];simp at h5;omega
   ·rcases ZcM hx with rfl | hx
    ·exact hm
    ·exact hh.2 x (List.mem_filter.1 hx).1
  ·simp at h
theorem ZnI {N:List ByteArray} {m:DMacro} {A:Args} {en:Nat} {hs:List ByteArray} {l:List Tok} {R:Args} (hA:∀ a∈A,∀ t∈a,HidIn N t) (hR:∀ a∈R,∀ t∈a,HidIn N t) (hh:∀ x∈hs,x∈N) (hg:∀ t∈l,Good N t):(∀ t∈(repR m A en hs l R).1,Good N t)/\(repR m A en hs l R).1.length<=60:=by
 unfold repR
 split
 ·split
  ·simp
  ·rename_i h
   refine ⟨λ t ht=>?_,Nat.not_lt.1 h⟩
   rcases Qa ht with ht | ht
   ·exact⟨putL_tx sub_tx t ht,Zgv (Zf9 hA hR) hh t ht⟩
   ·exact hg t (List.mem_of_mem_drop ht)
 ·simp
theorem ZnJ {N:List ByteArray} {T:List DMacro} (hT:∀ m∈T,m.name∈N) (hN:N.length<=5000) {m:DMacro} (hm:m.name∈N) {l:List Tok} (hl:l.length<=60) (h0:0<l.length) (hg:∀ t∈l,Good N t) (n s:Nat) :
  (∀ t∈(stepX (λ a k=>expG T n k [] a) m l s).1,Good N t)/\(stepX (λ a k=>expG T n k [] a) m l s).1.length<=60/\(stepX (λ a k=>expG T n k [] a) m l s).2.1<=s-1:=by
 cases s with
 | zero=>unfold stepX;simp
 |
  succ s =>
  cases hu:useR m l with
  | none=>rw [Zgy hu];simp
  |
   some q =>
   obtain⟨A,en,hs⟩:=q
   obtain⟨f1,f2,f3,f4,f5⟩:=ZjE hu hl h0 hg hN hm
   have hA:∀ a∈A,∀ t∈a,HidIn N t:=λ a ha t ht=>((f2 a ha).2 t ht).2
   have hR:=Zga (P:=HidIn N) (f:=λ a k=>expG T n k [] a) (λ a k ha=>Zh7 hT n a k [] (by simp) ha) A s hA
   have hle:=ZiE (f:=λ a k=>expG T n k [] a) (λ a k=>Zh6 T n a k []) A s
   rcases ha:argsX (λ a k=>expG T n k [] a) A s with⟨R,q,c⟩
   rw [ha] at hR hle
   by_cases hc:c=0
   ·subst hc
    rcases hr:repR m A en hs l R with⟨x,c⟩
    rw [Zcm hu ha hr]
    have:=ZnI (N:=N) (m:=m) (en:=en) hA hR f5 hg
    rw [hr] at this
    exact⟨this.1,this.2,by show q<=s+1-1;have h9:q<=s:=hle;omega⟩
   ·rw [Zgj hu ha hc]
    exact⟨by simp,by simp,by show q<=s+1-1;have h9:q<=s:=hle;omega⟩
theorem ZnK {T:List DMacro} {N:List ByteArray} {n:Nat} (hN:N.length<=5000) (eb:Nat) (vT:Value) (fpT:List Nat) (csM:List Value) (m:DMacro) (fpM:List Nat) (v:Value) (l:List Tok) (fp:List Nat) (s k:Nat) (w:World) (HE:0<s->ExpI T N n) (hs:s<=n+1) (hk:k+s=100) (h0:0<l.length) (hl:l.length<=60) (hg:∀ t∈l,Good N t) (hv:macOk m=true) (hm:m.name∈N) (hop:m.function=true->∃ h1:1<l.length,isM l[1] [40]=true)
  (HB:EBox eb vT k w) (HT:(Zaa sMacro).R w [vT] T fpT) (heT:eb∉fpT) (HM:sMacro.R w csM m fpM) (heM:eb∉fpM) (H:(Zaa sTok).R w [v] l fp) (he:eb∉fp) :
  Calls Tryz.prog 62 #[.pointer (some ⟨eb,0,none⟩),.agg csM.toArray,v] w (StepOf eb vT fp (stepX (λ a k=>expG T n k [] a) m l s) w):=by
 have HM0:=HM
 obtain⟨h2,h3,q2,q3,rfl,-,K2,K3,-⟩:=HM
 obtain⟨a2,c2,rfl,-⟩:=Zaf K2
 obtain⟨a3,c3,rfl,-⟩:=Zac K3
 have H00:=H
 have HLT:=Qh ((Zaa sTok).lt H)
 obtain⟨al,cl,rfl,-⟩:=Zac H
 have heb:eb<w.heap.size:=mlt HB
 have b0:=Zab w (.cells #[.string m.name,.bool m.function,.slice a2 m.params.length c2,.slice a3 m.body.length c3] 56)
 have HX:=Qh (heap_alloc_new w (.cells #[.string m.name,.bool m.function,.slice a2 m.params.length c2,.slice a3 m.body.length c3] 56))
 have HB1:=Qh (HB.below b0)
 have HM1:=Qh (sMacro.below HM0 b0)
 have HT1:=Qh ((Zaa sMacro).below HT b0)
 have HL1:=Qh ((Zaa sTok).below H00 b0)
 have HG:=Qh hg
 have HOP:=Qh hop
 have HVV:=Qh hv
 have HEX:=Qh HE
 clear HM0 K2 K3 HT H H00 HB hg hop hv HE
 go_enter Tryz.func62,Tryz.ntmps62
 go_upto_region 1 with fail
 have hmlt:=mlt HX.out
 generalize (w.alloc (.cells #[.string m.name,.bool m.function,.slice a2 m.params.length c2,.slice a3 m.body.length c3] 56))=W1 at *
 have e0:=Qc 0 HB1.out
 have e1:=Qc 1 HB1.out
 cases s with
 |
  zero =>
  have hk1:k=100:=by omega
  subst hk1
  go_wp2
  go_ret2
  exact⟨_,[],100,rfl,Zay _ _ _ _ (by simp),by simp,HB1.out,λ h=>absurd (show (3:Int)=0 from h) (by decide),Kept.of_below b0⟩
 |
  succ s =>
  have hne:((k:Int)==100)=false:=by simp;omega
  have hwr:IntKind.i64.wrap ((k:Int)+1)=(k:Int)+1:=IntWalk.i64_in _ (by omega)
  have f1:=Qf 1 HB1.out
  have HB2:Hid (EBox eb vT (k+1) (W1.setCell ⟨eb,1,none⟩ (.int .i64 ((k:Int)+1)))):=Zai HB1.out 1 (.int .i64 ((k:Int)+1))
  have HK2:Hid (Kept [eb] w (W1.setCell ⟨eb,1,none⟩ (.int .i64 ((k:Int)+1)))):=(Kept.of_below b0).setCell (p:=⟨eb,1,none⟩) (by simp) _
  have HX2:=Qh (Zaz HX.out (by omega:w.heap.size≠eb) 1 (.int .i64 ((k:Int)+1)))
  have HM2:=Qh (sMacro.setB HM1.out heM 1 (.int .i64 ((k:Int)+1)))
  have HT2:=Qh ((Zaa sMacro).setB HT1.out heT 1 (.int .i64 ((k:Int)+1)))
  have HL2:=Qh ((Zaa sTok).setB HL1.out he 1 (.int .i64 ((k:Int)+1)))
  go_upto_region 4 with fail
  clear e0 e1 f1 hne hwr HX HB1 HM1 HT1 HL1 b0
  generalize (W1.setCell ⟨eb,1,none⟩ (.int .i64 ((k:Int)+1)))=W2 at *
  obtain⟨p0,p1,p2,p3⟩:=Q4 HX2.out
  have hw2:w.heap.size<=W2.heap.size:=HK2.out.size
  have HUS:=Qh (ZmC _ m fpM _ l fp W2 HVV.out h0 hl (λ t ht=>(HG.out t ht).1) (λ t ht=>(HG.out t ht).2.1) (λ t ht=>by have:=(HG.out t ht).2.len;omega) HOP.out HM2.out HL2.out)
  go_wp2_with fail
  refine HUS.out.mono ?_
  rintro e w3 (⟨hu,rfl,hb3⟩ | ⟨A,en,hs',vA,vH,fA,fH,hu,rfl,RA,hfA,RH,hfH,hb3⟩)
  ·have HF:=Qh (Zgy (f:=λ a k=>expG T n k [] a) (s:=s) hu)
   have HK3:=HK2.out.after hb3
   have ba:=Zab w3 (.cells #[.string ⟨#[]⟩,.bool false,.slice none 0 0,.slice none 0 0,.slice none 0 0,.int .i64 0,.slice none 0 0] 129)
   have HK4:=Qh (HK3.after ba)
   have HB4:=Qh ((HB2.out.below hb3).below ba)
   clear HUS hu p0 p1 p2 p3
   go_wp2
   go_ret2
   exact⟨_,[],k+1,by rw [HF.out];rfl,by rw [HF.out];exact Zay _ _ _ _ (by simp),by simp,HB4.out,λ h=>by rw [HF.out] at h;exact absurd (show (1:Int)=0 from h) (by decide),HK4.out⟩
  obtain⟨u1,u2,u3,u4,-⟩:=ZjE hu hl h0 HG.out hN hm
  obtain⟨aA,cA,rfl,-⟩:=Zac RA
  obtain⟨aH,cH,rfl,-⟩:=Zaf RH
  have HU:=Qh hu
  have HU2:=Qh u2
  have HX7:=Qh (heap_alloc_new w3 (.cells #[.string m.name,.bool m.function,.slice a2 m.params.length c2,.slice a3 m.body.length c3,.slice aA A.length cA,.int .i64 (en:Nat),.slice aH hs'.length cH] 129))
  have ba:=Zab w3 (.cells #[.string m.name,.bool m.function,.slice a2 m.params.length c2,.slice a3 m.body.length c3,.slice aA A.length cA,.int .i64 (en:Nat),.slice aH hs'.length cH] 129)
  have hb24:=hb3.trans (ba.mono hb3.size)
  have HK4:=Qh (HK2.out.after hb24)
  have HB4:=Qh (HB2.out.below hb24)
  have HT4:=Qh ((Zaa sMacro).below HT2.out hb24)
  have HL4:=Qh ((Zaa sTok).below HL2.out hb24)
  have HM4:=Qh (sMacro.below HM2.out hb24)
  have RA4:=Qh ((Zaa sToks).below RA ba)
  have RH4:=Qh ((Zaa sStr).below RH ba)
  have hw3:=hb3.size
  have HEA:Hid (eb∉fA):=λ h=>by have:=hfA _ h;omega
  have HEH:Hid (eb∉fH):=λ h=>by have:=hfH _ h;omega
  clear HUS hu u2 p0 p1 p2 p3 RA RH hfA hfH hb24 hb3 ba HX2 HM2 HT2 HL2 HB2 HK2
  go_upto_region 7 with fail
  obtain⟨ub,HUB⟩:∃ ub:Nat,Hid (ub=w3.heap.size):=⟨_,Qh rfl⟩
  generalize (w3.alloc (.cells #[.string m.name,.bool m.function,.slice a2 m.params.length c2,.slice a3 m.body.length c3,.slice aA A.length cA,.int .i64 (en:Nat),.slice aH hs'.length cH] 129))=w4 at *
  rw [show w3.heap.size=ub from HUB.out.symm] at HX7 hw3 ⊢
  have q4:=Qc 4 HX7.out
  have HALL:=Qh (ZiT (HEX.out (by omega)) eb vT fpT _ A fA s (k+1) w4 (by omega) (by omega) u1 HU2.out HB4.out HT4.out heT RA4.out HEA.out)
  rcases ha:argsX (λ a k=>expG T n k [] a) A s with⟨R,q,c⟩
  unfold AllOf at HALL
  rw [ha] at HALL
  try dsimp only at HALL
  have HAR:=Qh ha
  clear ha HEX HB4 HT4
  go_wp2_with fail
  refine HALL.out.mono ?_
  rintro e w5 ⟨vR,fR,k5,rfl,RR,hfR,EB5,hk5,K5⟩
  obtain⟨aR,cR,rfl,-⟩:=Zac RR
  have HK5:=Qh (HK4.out.trans K5)
  have HEB5:=Qh EB5
  clear q4 HALL EB5
  by_cases hc0:c=0
  rotate_left
  ·have HF:=Qh (Zgj HU.out HAR.out hc0)
   have e2:(c != 0)=true:=by simp [hc0]
   have HC0:=Qh hc0
   clear hc0 hk5 RR hfR K5
   go_wp2
   go_ret2
   exact⟨_,[],k5,by rw [HF.out];rfl,by rw [HF.out];exact Zay _ _ _ _ (by simp),by simp,HEB5.out,λ h=>by rw [HF.out] at h;exact absurd h HC0.out,HK5.out⟩
  subst hc0
  have hk6:k5+q=100:=hk5 rfl
  have heu:ub≠eb:=by omega
  have HX5:=Qh ((K5.block ub (mlt HX7.out) (by simpa using heu)).trans HX7.out)
  have kin:∀ {f:List Nat},eb∉f->∀ b∈f,b∉[eb]:=λ h b hb=>by simp only [List.mem_singleton];rintro rfl;exact h hb
  have HRP:=Qh (ZjN _ m fpM _ _ A fA en hs' fH _ l fp _ R fR w5 h0 hl u3 u4 (sMacro.kept HM4.out (kin heM) K5) ((Zaa sToks).kept RA4.out (kin HEA.out) K5) ((Zaa sStr).kept RH4.out (kin HEH.out) K5) ((Zaa sTok).kept HL4.out (kin he) K5) RR)
  rcases hr:repR m A en hs' l R with⟨x,c⟩
  unfold AfterOf at HRP
  rw [hr] at HRP
  try dsimp only at HRP
  have HF:=Qh (Zcm HU.out HAR.out hr)
  clear hr hk5 RR hfR K5 kin HX7 HM4 RA4 RH4 HL4 HK4
  have q0:=Qc 0 HX5.out
  have q1:=Qc 1 HX5.out
  have q2':=Qc 2 HX5.out
  have q3':=Qc 3 HX5.out
  have q4:=Qc 4 HX5.out
  have q5:=Qc 5 HX5.out
  have q6:=Qc 6 HX5.out
  go_wp2_with fail
  refine HRP.out.mono ?_
  rintro e w6 ⟨v6,f6,rfl,R6,g6,hb6⟩
  have HR6:=Qh R6
  have HG6:Hid (∀ b∈f6,b∈fp\/w.heap.size<=b):=λ b hb=>(g6 b hb).imp id λ h=>by have:=HK5.out.size;omega
  have HK6:=Qh (HK5.out.after hb6)
  have HB6:=Qh (HEB5.out.below hb6)
  clear R6 g6 hb6 HRP q0 q1 q2' q3' q4 q5 q6
  go_wp2
  go_ret2
  exact⟨v6,f6,k5,by rw [HF.out];rfl,by rw [HF.out];exact HR6.out,HG6.out,HB6.out,λ _=>by rw [HF.out];exact hk6,HK6.out⟩
def ZiU (eb:Nat) (w:World):Nat:=
 match w.heap[eb]? with
 | some (.cells cs _ _)=>(intOf (cs.getD 1 undef)).toNat
 | _=>0
theorem EBox.steps {eb:Nat} {vT:Value} {k:Nat} {w:World} (h:EBox eb vT k w):ZiU eb w=k:=by
 unfold ZiU
 rw [show w.heap[eb]?=some (.cells #[vT,.int .i64 (k:Nat)] 74 (0,0)) from h]
 simp [intOf]
theorem exp_go {T:List DMacro} {j s q:Nat} {out r x:List Tok} {t:Tok} {m:DMacro} {c:Int} (h:goM T (t::r)=some m) (hsj:s<=j) (hx:stepX (λ a k=>expG T (j-1) k [] a) m (t::r) s=(x,q,c)) :
  expG T j s out (t::r)=(if c=0 then expG T (j-1) q out x else ([],q,c))/\(c=0->0<s):=by
 cases s with
 |
  zero =>
  unfold stepX at hx
  simp only [Prod.mk.injEq] at hx
  obtain⟨rfl,rfl,rfl⟩:=hx
  exact⟨by rw [Zdh h,if_neg (by simp)],λ h=>absurd h (by simp)⟩
 |
  succ s =>
  obtain⟨i,rfl⟩:∃ i,j=i+1:=⟨j-1,by omega⟩
  rw [Nat.add_sub_cancel] at hx ⊢
  refine ⟨?_,λ _=>by omega⟩
  rw [ZkV h,hx]
theorem Zlr {T:List DMacro} {N:List ByteArray} {n:Nat} (IH:∀ j,j<n->ExpI T N j) (hn:n<=1000) (hTab:tabOk T=true) (hT:∀ m∈T,m.name∈N) (hN:N.length<=5000):ExpI T N n:=by
 intro eb vT fpT v l fp s k w hs hk hl hg HB HT heT H he
 have HTB:=Qh HT
 have heb:eb<w.heap.size:=mlt HB
 have HTAB:=Qh hTab
 have HTD0:Hid (ToDo w.heap.size fp (.slice none 0 0) v l fp w):=⟨H,by simp [Value.ownBlock],λ b hb=>.inl hb⟩
 have HG0:=Qh hg
 have HB0:=Qh HB
 obtain⟨al,cl,rfl,-⟩:=Zac H
 clear HT H hg HB hTab
 go_enter Tryz.func39,Tryz.ntmps39
 go_wp2
 go_loopw [6,7] (λ vo vw wr=>∃ (j s' kk:Nat) (O:List (Elem Tok)) (W:List Tok) (fpw:List Nat),s'<=j/\j<=n/\kk+s'=100/\W.length<=60/\O.length<=60/\Hid (RowN sTok w.heap.size 32 vo O wr)/\Hid (Own wr w.heap.size (O.flatMap (·.fp)))/\Hid (ToDo w.heap.size fp vo vw W fpw wr)/\Hid (expG T n s [] l=expG T j s' (O.map (·.d)) W)/\Hid (∀ t∈W,Good N t)/\Hid (EBox eb vT kk wr)/\Hid (Kept [eb] w wr)) (λ _ vw wr=>(100-ZiU eb wr) * 1000+lenOf vw)
 case atStart=>exact⟨n,s,k,[],l,fp,hs,Nat.le_refl _,hk,hl,by simp,RowN.nil _ _ _ _,Own.nil _ _,HTD0.out,rfl,HG0.out,HB0.out,Kept.refl _ _⟩
 case round =>
  clear HTD0 HB0
  obtain⟨j,s',kk,O,W,fpw,hsj,hjn,hkk,hW,hO,HRO,HOO,HTD,HGO,HGW,HBX,HK⟩:=hrel
  obtain⟨ao,co,hvo,-⟩:=HRO.out.val
  subst hvo
  obtain⟨aw,cw,rfl,hcw,hmw,hroww⟩:=Zac HTD.out.r
  unfold maxLen at hmw
  cases W with
  |
   nil =>
   have HF:=Qh (HGO.out.trans Zb9)
   clear hroww
   go_wp2
   go_ret2
   exact⟨.slice ao O.length co,O,kk,by rw [HF.out];rfl,HRO.out,by rw [HF.out],HOO.out,HBX.out,λ _=>by rw [HF.out];exact hkk,HK.out⟩
  |
   cons t r =>
   obtain⟨bw,ow,-,rfl,-,-,-⟩:=hroww (by simp)
   obtain⟨xa,xc,xf,c0,c1,c2,c3,xR,hbb,hxf⟩:=ZaB HTD.out.r (j:=0) (by simp)
   simp only [List.getElem_cons_zero,Nat.zero_mul,Nat.add_zero] at c0 c1 c2 c3 xR
   have HXF:=Qh hxf
   have XR:=Qh xR
   have HCE:Hid (∀ U:World,Below wr.heap.size wr U->U.cell? ⟨bw,ow,none⟩=some (.int .i64 t.kind)/\U.cell? ⟨bw,ow+1,none⟩=some (.string t.text)/\U.cell? ⟨bw,ow+2,none⟩=some (.bool t.spaced)/\U.cell? ⟨bw,ow+3,none⟩=some (.slice xa t.hidden.length xc)):=λ U hU=>⟨(hU.cell (p:=⟨bw,ow,none⟩) hbb).trans c0,(hU.cell (p:=⟨bw,ow+1,none⟩) hbb).trans c1,(hU.cell (p:=⟨bw,ow+2,none⟩) hbb).trans c2,(hU.cell (p:=⟨bw,ow+3,none⟩) hbb).trans c3⟩
   have HUS:=Qh (ZiL vT T fpT _ (t::r) fpw wr HTAB.out (by simp) (by omega) (λ u hu=>(HGW.out u hu).1) ((Zaa sMacro).kept HTB.out (λ b hb=>by simp only [List.mem_singleton];rintro rfl;exact heT hb) HK.out) HTD.out.r)
   have HTR:=Qh HTD.out.r
   obtain⟨NW,HNW⟩:∃ NW:Nat,Hid (NW=(t::r).length):=⟨(t::r).length,Qh rfl⟩
   rw [show (t::r).length=NW from HNW.out.symm] at HTD hcw hW HUS HTR ⊢
   have hNW:0<NW:=by have:=HNW.out;rw [List.length_cons] at this;omega
   have hNWi:(0:Int)<(NW:Int):=by omega
   obtain⟨NO,HNO⟩:∃ NO:Nat,Hid (NO=O.length):=⟨O.length,Qh rfl⟩
   rw [show O.length=NO from HNO.out.symm] at HRO HTD hO ⊢
   have hwr:=HK.out.size
   have e0:=Qc 0 HBX.out
   clear xR hxf hroww c0 c1 c2 c3
   go_wp2_with fail
   refine HUS.out.mono ?_
   rintro e w3 (⟨hg,rfl,hb3⟩ | ⟨m,a2,a3,c2_,c3_,fm,hg,rfl,RM,hfm,hb3⟩)
   ·have HG:=Qh hg
    have bm:=Zab w3 (.cells #[.string ⟨#[]⟩,.bool false,.slice none 0 0,.slice none 0 0] 56)
    have hb4:=hb3.trans (bm.mono hb3.size)
    clear HUS e0 hg
    go_upto_region 10 with fail
    generalize (w3.alloc (.cells #[.string ⟨#[]⟩,.bool false,.slice none 0 0,.slice none 0 0] 56))=w4 at *
    by_cases hfl:NO=60
    ·have HF:=Qh (HGO.out.trans (ZbB HG.out (by rw [List.length_map,← HNO.out];omega)))
     have e6:((NO:Int)==60)=true:=by simp;omega
     have HK4:=Qh (HK.out.after hb4)
     have HB4:=Qh (HBX.out.below hb4)
     clear hfl
     go_wp2
     go_ret2
     exact⟨_,[],kk,by rw [HF.out];rfl,RowN.nil _ _ _ _,by rw [HF.out];rfl,Own.nil _ _,HB4.out,λ h=>by rw [HF.out] at h;exact absurd (show (3:Int)=0 from h) (by decide),HK4.out⟩
    have e6:((NO:Int)==60)=false:=by simp;omega
    have hNO:NO+1<=60:=by omega
    clear hfl
    obtain⟨c0,c1,c2,c3⟩:=HCE.out w4 hb4
    have htl:t.hidden.length<=2000000:=by have:=(HGW.out t (by simp)).2.len;omega
    have HCT:=Qh (Zcv _ t xf w4 htl (sTok.below XR.out hb4))
    go_wp2_with fail
    refine HCT.out.mono ?_
    rintro e w5 ⟨a3,c3_,f3,rfl,R3,O3,-,hb5⟩
    have hb45:=hb4.trans (hb5.mono hb4.size)
    have hw45:=hb45.size
    have bl:=Zab w5 (.cells #[.int .i64 t.kind,.string t.text,.bool t.spaced,.slice a3 t.hidden.length c3_] 32)
    have HL6:=Qh (heap_alloc_new w5 (.cells #[.int .i64 t.kind,.string t.text,.bool t.spaced,.slice a3 t.hidden.length c3_] 32))
    have hb46:=hb45.trans (bl.mono hb45.size)
    have HRO6:=Qh (HRO.out.below hb46)
    have HOO6:=Qh (HOO.out.grow hb46)
    have HTD6:=Qh (HTD.out.below hb46)
    have XR6:=Qh (sTok.below R3 bl)
    have OX6:=Qh (O3.grow bl)
    have HW4:=Qh hb4.size
    have HF3:Hid (∀ b∈f3,wr.heap.size<=b):=λ b hb=>by have:=(O3.2 b hb).1;have:=hb4.size;omega
    have HOM:=Qh HRO.out.mine
    have HXN:Hid (∀ b∈f3,(Value.slice ao NO co).ownBlock≠some b):=λ b hb h=>by have:=(HOM.out b h).2;have:=HF3.out b hb;omega
    have HK6:=Qh (HK.out.after hb46)
    have HB6:=Qh (HBX.out.below hb46)
    have hw6:=hb46.size
    clear c0 c1 c2 c3 HCT R3 O3 hb5 bl hb45 hb46 bm hb3 hb4
    go_upto_region 13 with(at_builtin;refine ZaE (X:=[(⟨[.int .i64 t.kind,.string t.text,.bool t.spaced,.slice a3 t.hidden.length c3_],t,f3⟩:Elem Tok)]) ZaG rfl (by decide) _ rfl (.tmp 40) (.tmp 45) rfl w.heap.size (.slice ao NO co) rfl HRO6.out ⟨w5.heap.size,0,none⟩ 1 1 rfl rfl (λ x hx=>by obtain rfl:=Qm hx;exact⟨rfl,XR6.out,HXN.out⟩) (λ x hx=>by obtain rfl:=Qm hx;exact ZaF _ _ _ _ XR6.out) (λ j u hj=>by rw [ZaI,Nat.zero_add,cell_of_row _ _ _ _ _ _ HL6.out];simpa using hj) (by have:=HNO.out;unfold maxLen;omega) (by have:=HNO.out;omega) (by have:=HK6.out.size;omega) ?_;intro v7 w7 hR7 hg7 hp7)
    have HK7:Hid (Kept [eb] w w7):=⟨hg7.os.trans HK6.out.os,hg7.tape.trans HK6.out.tape,hg7.output.trans HK6.out.output,Nat.le_trans HK6.out.size hg7.size,λ b hb hn=>(hg7.block b (by have:=HK6.out.size;omega) (λ e=>by have:=(HOM.out b e.symm).1;omega)).trans (HK6.out.block b hb hn)⟩
    have HB7:Hid (EBox eb vT kk w7):=(hg7.block eb (by have:=HK6.out.size;omega) (λ e=>by have:=(HOM.out eb e.symm).1;omega)).trans HB6.out
    have HR7:=Qh hR7
    have HO7:Hid (Own w7 w.heap.size ((O++[(⟨[.int .i64 t.kind,.string t.text,.bool t.spaced,.slice a3 t.hidden.length c3_],t,f3⟩:Elem Tok)]).flatMap (·.fp))):=by
     show Own _ _ _
     rw [Zdx]
     have e1:([(⟨[.int .i64 t.kind,.string t.text,.bool t.spaced,.slice a3 t.hidden.length c3_],t,f3⟩:Elem Tok)]).flatMap (·.fp)=f3:=by simp
     rw [e1]
     refine Zbu (HOO6.out.app (OX6.out.lower (Nat.le_trans hwr HW4.out)) λ b hb hx=>?_) (λ b hb=>?_) hg7
     ·have h1:=HOO.out.lt b hb
      have h2:=HF3.out b hx
      omega
     ·rcases Qa hb with hb | hb
      ·obtain⟨x,hx,hb'⟩:=List.mem_flatMap.1 hb
       exact HRO.out.ap x hx b hb'
      ·exact HXN.out b hb
    have HTD7:Hid (ToDo w.heap.size fp v7 (.slice (some ⟨bw,ow,none⟩) NW cw) (t::r) fpw w7):=⟨(Zaa sTok).frame (λ b hb'=>hg7.block b (HTD6.out.lt b hb') (λ e=>HTD.out.o b hb' e.symm)) HTD6.out.r,λ b hb' hv=>by
      rcases hp7 with e | e
      ·exact HTD.out.o b hb' (by rw [← e];exact hv)
      ·rw [e,Qi] at hv;have:=HTD6.out.lt b hb';omega,HTD.out.l⟩
    obtain⟨a7,c7,hv7,-⟩:=hR7.val
    rw [show (O++[(⟨[.int .i64 t.kind,.string t.text,.bool t.spaced,.slice a3 t.hidden.length c3_],t,f3⟩:Elem Tok)]).length=NO+1 by rw [List.length_append,HNO.out];rfl] at hv7
    subst hv7
    clear hR7 hg7 hp7 HRO6 HOO6 HTD6 XR6 OX6 HL6
    have o1:(1:Int)<=(NW:Int):=by omega
    have o2:1<=NW:=hNW
    have o3:1<=cw:=by omega
    have o4:(1:Int)<=(cw:Int):=by omega
    obtain⟨fps,RS0,hfs⟩:=Za3 1 (by have:=HNW.out;omega:1<=(t::r).length) HTD7.out.r
    rw [Option.map_some,Addr.add_lit,show sTok.m=4 from rfl,Nat.one_mul,List.drop_succ_cons,List.drop_zero] at RS0
    have HRS0:Hid (ToDo w.heap.size fp (.slice a7 (NO+1) c7) (.slice (if cw=1 then some ⟨bw,ow,none⟩ else some ⟨bw,ow+4,none⟩) (NW-1) (cw-1)) r fps w7):=⟨RS0,λ b hb'=>HTD7.out.o b (hfs b hb'),λ b hb'=>HTD7.out.l b (hfs b hb')⟩
    clear RS0 hfs
    have HGN:Hid (expG T n s [] l=expG T j s' ((O++[(⟨[.int .i64 t.kind,.string t.text,.bool t.spaced,.slice a3 t.hidden.length c3_],t,f3⟩:Elem Tok)]).map (·.d)) r):=by show _=_;rw [HGO.out,ZbA HG.out (by rw [List.length_map,← HNO.out];omega),List.map_append];rfl
    have HGR:Hid (∀ u∈r,Good N u):=λ u hu=>HGW.out u (by simp [hu])
    have hrl:r.length<=60:=by have:=HNW.out;rw [List.length_cons] at this;omega
    have hol:(O++[(⟨[.int .i64 t.kind,.string t.text,.bool t.spaced,.slice a3 t.hidden.length c3_],t,f3⟩:Elem Tok)]).length<=60:=by rw [List.length_append,← HNO.out];simp;omega
    have HST1:=Qh HB7.out.steps
    have HST2:=Qh HBX.out.steps
    by_cases h1:cw=1
    ·subst h1
     rw [if_pos rfl] at HRS0
     obtain rfl:NW=1:=by omega
     clear o3 o4
     go_wp2
     go_roundw
     case rel=>exact⟨j,s',kk,_,r,fps,hsj,hjn,hkk,hrl,hol,HR7,HO7,HRS0,HGN,HGR,HB7,HK7⟩
     case measure=>rw [HST1.out,HST2.out];simp [lenOf] <;> omega
    ·rw [if_neg h1] at HRS0
     go_wp2
     go_roundw
     case rel=>exact⟨j,s',kk,_,r,fps,hsj,hjn,hkk,hrl,hol,HR7,HO7,HRS0,HGN,HGR,HB7,HK7⟩
     case measure=>rw [HST1.out,HST2.out];simp [lenOf] <;> omega
   ·have bm:=Zab w3 (.cells #[.string m.name,.bool m.function,.slice a2 m.params.length c2_,.slice a3 m.body.length c3_] 56)
    have hbk:=hb3.trans (bm.mono hb3.size)
    have HXk:=Qh (heap_alloc_new w3 (.cells #[.string m.name,.bool m.function,.slice a2 m.params.length c2_,.slice a3 m.body.length c3_] 56))
    have RMk:=Qh (sMacro.below RM bm)
    have HG:=Qh hg
    have hmT:=go_in hg
    have HMN:Hid (macOk m=true/\m.name∈N):=⟨(Zev HTAB.out).2.1 m hmT,hT m hmT⟩
    have HOP:Hid (m.function=true->∃ h1:1<(t::r).length,isM (t::r)[1] [40]=true):=λ hf=>by
     obtain⟨hr,h2⟩:=Zl0 hg hf
     exact⟨by simpa using hr,h2⟩
    have HEM:Hid (eb∉fm):=λ h=>heT (hfm _ h)
    have HK4:=Qh (HK.out.after hbk)
    have HB4:=Qh (HBX.out.below hbk)
    have HTD4:=Qh (HTD.out.below hbk)
    have HRO4:=Qh (HRO.out.below hbk)
    have HOO4:=Qh (HOO.out.grow hbk)
    have hw4:=hbk.size
    clear HUS e0 hg hmT RM hfm bm hb3 hbk
    go_upto_region 6 with fail
    obtain⟨mb,HMB⟩:∃ mb:Nat,Hid (mb=w3.heap.size):=⟨_,Qh rfl⟩
    generalize (w3.alloc (.cells #[.string m.name,.bool m.function,.slice a2 m.params.length c2_,.slice a3 m.body.length c3_] 56))=w4 at *
    rw [show w3.heap.size=mb from HMB.out.symm] at HXk ⊢
    obtain⟨m0,m1,m2,m3⟩:=Q4 HXk.out
    have HEB:Hid (eb∉fpw):=λ h=>by
     rcases HTD.out.l _ h with h | h
     ·exact he h
     ·omega
    have HSTP:=Qh (ZnK (T:=T) (N:=N) (n:=j-1) hN eb vT fpT _ m fm _ (t::r) fpw s' kk w4 (λ h=>IH (j-1) (by omega)) (by omega) hkk (by simp) (by rw [← HNW.out];exact hW) HGW.out HMN.out.1 HMN.out.2 HOP.out HB4.out ((Zaa sMacro).kept HTB.out (λ b hb=>by simp only [List.mem_singleton];rintro rfl;exact heT hb) HK4.out) heT RMk.out HEM.out HTD4.out.r HEB.out)
    have HGD:=Qh (ZnJ (T:=T) hT hN HMN.out.2 (by rw [← HNW.out];exact hW) (by simp) HGW.out (j-1) s')
    rcases hx:stepX (λ a k=>expG T (j-1) k [] a) m (t::r) s' with⟨x,q,c⟩
    unfold StepOf at HSTP
    rw [hx] at HSTP HGD
    try dsimp only at HSTP
    have HXG:=Qh (exp_go (out:=O.map (·.d)) HG.out hsj hx)
    clear hx HTD4 RMk HXk
    go_wp2_with fail
    refine HSTP.out.mono ?_
    rintro e w5 ⟨v5,f5,k5,rfl,R5,g5,EB5,hk5,K5⟩
    obtain⟨a5,c5,rfl,-⟩:=Zac R5
    have HK5:=Qh (HK4.out.trans K5)
    have HEB5:=Qh EB5
    clear m0 m1 m2 m3 HSTP EB5
    by_cases hc0:c=0
    rotate_left
    ·have HF:Hid (expG T n s [] l=([],q,c)):=by show _=_;rw [HGO.out,HXG.out.1,if_neg hc0]
     have e2:(c != 0)=true:=by simp [hc0]
     have HC0:=Qh hc0
     clear hc0 hk5 R5 g5 K5
     go_wp2
     go_ret2
     exact⟨_,[],k5,by rw [HF.out];rfl,RowN.nil _ _ _ _,by rw [HF.out];rfl,Own.nil _ _,HEB5.out,λ h=>by rw [HF.out] at h;exact absurd h HC0.out,HK5.out⟩
    subst hc0
    have hk6:k5+q=100:=hk5 rfl
    have hsp:=HXG.out.2 rfl
    have hq1:q<=s'-1:=HGD.out.2.2
    have hx60:x.length<=60:=HGD.out.2.1
    have HGX:Hid (∀ u∈x,Good N u):=HGD.out.1
    have HGN:Hid (expG T n s [] l=expG T (j-1) q (O.map (·.d)) x):=by show _=_;rw [HGO.out,HXG.out.1,if_pos rfl]
    have HRO5:=Qh (HRO4.out.kept K5 (λ g hg=>by simp only [List.mem_singleton];have:=(HRO4.out.mine g hg).1;omega) (λ y hy b hb=>by simp only [List.mem_singleton];have:=(HOO4.out.2 b (List.mem_flatMap.2 ⟨y,hy,hb⟩)).1;omega))
    have HOO5:=Qh (HOO4.out.kept (λ b hb=>by simp only [List.mem_singleton];have:=(HOO4.out.2 b hb).1;omega) K5)
    have HTD5:Hid (ToDo w.heap.size fp (.slice ao NO co) (.slice a5 x.length c5) x f5 w5):=⟨R5,λ b hb hv=>by
      rcases g5 b hb with h | h
      ·exact HTD.out.o b h hv
      ·have:=(HRO.out.mine b hv).2;omega,λ b hb=>by
      rcases g5 b hb with h | h
      ·exact HTD.out.l b h
      ·exact .inr (by omega)⟩
    have HST1:=Qh HEB5.out.steps
    have HST2:=Qh HBX.out.steps
    have hO5:O.length<=60:=by rw [← HNO.out];exact hO
    clear R5 g5 K5 hk5 HGD HXG HRO4 HOO4
    go_wp2
    go_roundw
    case rel=>exact⟨j-1,q,k5,O,x,f5,by omega,by omega,hk6,hx60,hO5,HRO5,HOO5,HTD5,HGN,HGX,HEB5,HK5⟩
    case measure=>rw [HST1.out,HST2.out];simp [lenOf];omega
theorem Zls {T:List DMacro} {N:List ByteArray} (hTab:tabOk T=true) (hT:∀ m∈T,m.name∈N) (hN:N.length<=5000):∀ n,n<=1000->ExpI T N n:=by
 intro n
 induction n using Nat.strongRecOn with
 | ind n ih=>exact λ hn=>Zlr (λ j hj=>ih j hj (by omega)) hn hTab hT hN
end Go.Proofs.YtipfpppcbmpjiaaGreat
