/- Texts that the proof of EConditionOf stands on, in one file. -/
import Derived.Test.YtipfpppcbmpjiaaGreatZEConditionOf4
import Derived.Deep.RegionHeld3
import Derived.Deep.QuietTactic
import Derived.BigQuiet
import Derived.Outline
import Derived.StillTailTactics
import Derived.Deep.Fields
import Derived.ChangeSame
set_option linter.unusedVariables false
set_option maxHeartbeats 16000000
set_option maxRecDepth 100000
set_option linter.unusedSimpArgs false
/- Macros: their validity, their texts, and how they are read: no program. -/
namespace Go.Proofs.YtipfpppcbmpjiaaGreat
open Go.RowKit
structure DMacro where
 name:ByteArray
 function:Bool
 params:List ByteArray
 body:List Tok
def Za4:ByteArray:=⟨#[100,101,102,105,110,101,100]⟩
def hash1:ByteArray:=⟨#[35]⟩
def hash2:ByteArray:=⟨#[35,35]⟩
def parFrom (ps:List ByteArray) (t:Tok) (k:Nat):Int:=if h:k<ps.length then (if t.kind=1/\ps[k]=t.text then (k:Int) else parFrom ps t (k+1)) else -1
termination_by ps.length-k
def parOf (ps:List ByteArray) (t:Tok):Int:=parFrom ps t 0
def Zc7 (m:DMacro):Bool:=Zak m.name 1 && !decide (m.name=Za4) && decide (m.params.length<=4) && (m.function || decide (m.params.length=0)) && decide (m.body.length<=20)
def parOk (ps:List ByteArray) (k:Nat):Bool:=if h:k<ps.length then Zak ps[k] 1 && (List.range k).all (λ j=>!decide (ps[j]?=some ps[k])) else true
def bodOk (m:DMacro) (k:Nat):Bool:=
 if h:k<m.body.length then
  tokOk m.body[k] && decide (m.body[k].hidden.length=0) && !(decide (k=0) && m.body[k].spaced) &&
  !(decide (m.body[k].text=hash2) && (decide (k=0) || decide (k+1=m.body.length) || decide ((m.body[k-1]'(by omega)).text=hash2))) &&
  !(m.function && decide (m.body[k].text=hash1) && (if h2:k+1<m.body.length then decide (parOf m.params m.body[k+1]<0) else true))
 else true
def macOk (m:DMacro):Bool:=Zc7 m && (List.range m.params.length).all (parOk m.params) && (List.range m.body.length).all (bodOk m)
/-! ### Valid macros -/
theorem ZaJ {m:DMacro} (h:macOk m=true):(Zak m.name 1=true/\m.name≠Za4/\m.params.length<=4/\(m.function=true\/m.params=[])/\m.body.length<=20)/\(∀ k,(hk:k<m.params.length)->Zak m.params[k] 1=true)/\(∀ k,k<m.body.length->bodOk m k=true):=by
 unfold macOk Zc7 at h
 simp only [Bool.and_eq_true,Bool.not_eq_true',decide_eq_false_iff_not,decide_eq_true_eq,Bool.or_eq_true,List.all_eq_true,List.mem_range,List.length_eq_zero_iff] at h
 obtain⟨⟨⟨⟨⟨⟨h1,h2⟩,h3⟩,h4⟩,h5⟩,h6⟩,h7⟩:=h
 refine ⟨⟨h1,h2,h3,h4,h5⟩,λ k hk=>?_,h7⟩
 have:=h6 k hk
 unfold parOk at this
 rw [dif_pos hk,Bool.and_eq_true] at this
 exact this.1
theorem Zb8 {m:DMacro} {k:Nat} (hk:k<m.body.length) (h:bodOk m k=true):tokOk m.body[k]=true/\m.body[k].hidden=[]/\(k=0->m.body[k].spaced=false):=by
 unfold bodOk at h
 rw [dif_pos hk] at h
 simp only [Bool.and_eq_true,decide_eq_true_eq,List.length_eq_zero_iff,Bool.not_eq_true',Bool.and_eq_false_iff,decide_eq_false_iff_not] at h
 obtain⟨⟨⟨⟨h1,h2⟩,h3⟩,_⟩,_⟩:=h
 exact⟨h1,h2,λ h=>h3.resolve_left (λ h'=>h' h)⟩
open Go.RowKit Go.ChangeShapes Go.WideShapes Go.Deep
def sMacro:Shape DMacro where
 m:=4
 R w cs d fp:=∃ (h2:Value) (h3:Value) (fp2:List Nat) (fp3:List Nat),cs=[.string d.name,.bool d.function,h2,h3]/\okStr d.name/\(Zaa sStr).R w [h2] d.params fp2/\(Zaa sTok).R w [h3] d.body fp3/\fp=fp2++fp3
 frame:=by
  rintro w w' cs d fp hf ⟨h2,h3,fp2,fp3,rfl,k0,K2,K3,rfl⟩
  exact⟨h2,h3,fp2,fp3,rfl,k0,(Zaa sStr).frame (λ b hb=>hf b (by simp [hb])) K2,(Zaa sTok).frame (λ b hb=>hf b (by simp [hb])) K3,rfl⟩
 lt:=by
  rintro w cs d fp ⟨h2,h3,fp2,fp3,rfl,k0,K2,K3,rfl⟩ b hb
  rcases Qa hb with hb | hb
  ·exact(Zaa sStr).lt K2 b hb
  ·exact(Zaa sTok).lt K3 b hb
theorem ti_Macro:TI Tryz.prog 23 56 (.agg #[.string ⟨#[]⟩,.bool false,.slice none 0 0,.slice none 0 0]) 4 72:=⟨by kernel_rfl,by kernel_rfl⟩
def ZaM (x:DMacro):Nat:=x.name.size+ZaY x.params+ZaD x.body
def ZaS (l:List DMacro):Nat:=l.length+(l.map ZaM).sum
section
variable {H:Type} {enc:TypeId × Value->H} {P:Program} {w:World} {base:Nat} {spare:Nat->Bool} {held:Bool}
theorem Zj0 {t:TypeId} {f0 f1 f2 f3:Field} (hs:P.underlying t=some (.struct #[f0,f1,f2,f3])) (hone:oneCellFields P #[f0,f1,f2,f3]=true) (hC:P.cellsOf t=4) (h0:Opens enc P w base spare held f0.type sStr) (h1:Opens enc P w base spare held f1.type sBool) (h2:Opens enc P w base spare held f2.type (Zaa sStr)) (h3:Opens enc P w base spare held f3.type (Zaa sTok)):Opens enc P w base spare held t sMacro:=by
 intro fuel cs x h
 obtain⟨xs,n,_,hx,hcl,hlen,hg⟩:=DataW.trod_struct hs h
 rw [hC] at hcl
 match cs,hcl with
 |
  [c0,c1,c2,c3],_ =>
  obtain⟨o0,k0⟩:=hone_of hone 0 f0 rfl
  have g0:=hg 0 f0 rfl
  rw [o0,k0] at g0
  obtain⟨o1,k1⟩:=hone_of hone 1 f1 rfl
  have g1:=hg 1 f1 rfl
  rw [o1,k1] at g1
  obtain⟨o2,k2⟩:=hone_of hone 2 f2 rfl
  have g2:=hg 2 f2 rfl
  rw [o2,k2] at g2
  obtain⟨o3,k3⟩:=hone_of hone 3 f3 rfl
  have g3:=hg 3 f3 rfl
  rw [o3,k3] at g3
  match xs,hlen with
  |
   [y0,y1,y2,y3],_ =>
   obtain⟨d0,p0,hc0,hok0,rfl⟩:=h0 n _ _ g0
   obtain⟨d1,p1,hc1,hok1,rfl⟩:=h1 n _ _ g1
   obtain⟨d2,p2,hc2⟩:=h2 n _ _ g2
   obtain⟨d3,p3,hc3⟩:=h3 n _ _ g3
   simp at hc0 hc1 hc2 hc3
   subst hc0
   subst hc1
   exact⟨⟨d0,d1,d2,d3⟩,p2++p3,c2,c3,p2,p3,rfl,hok0,hc2,hc3,rfl⟩
end
section
variable {H:Type} {enc:TypeId × Value->H} {w:World} {base:Nat} {spare:Nat->Bool} {held:Bool}
theorem Zk6:Opens enc Tryz.prog w base spare held 52 sMacro:=
 Zj0 Tryz.underlying52 (by kernel_rfl) (by kernel_rfl) (Zeh Tryz.underlying9) (ZhG Tryz.underlying4) (Zcw Tryz.underlying30 (by kernel_rfl) (by decide) (Zeh Tryz.underlying9)) (Zcw Tryz.underlying35 (by kernel_rfl) (by decide) ZgO)
end
theorem Zj1 (cs1 cs2:List Value) (x:DMacro) (fp1 fp2:List Nat) (w:World) (H1:sMacro.R w cs1 x fp1) (H2:sMacro.R w cs2 x fp2) :
  Calls Tryz.prog 27 #[.agg cs1.toArray,.agg cs2.toArray] w λ e w'=>e=.returned (.bool true)/\Below w.heap.size w w':=by
 obtain⟨h2,h3,fpa2,fpa3,rfl,-,K2,K3,rfl⟩:=H1
 obtain⟨g2,g3,fpb2,fpb3,rfl,-,L2,L3,rfl⟩:=H2
 have b0:=Zab w (.cells #[.string x.name,.bool x.function,h2,h3] 56)
 have b1:=b0.trans ((Zab (w.alloc (.cells #[.string x.name,.bool x.function,h2,h3] 56)) (.cells #[.string x.name,.bool x.function,g2,g3] 56)).mono b0.size)
 have HC2:Hid (∀ W,Below w.heap.size w W->Calls Tryz.prog 52 #[h2,g2] W λ e w'=>e=.returned (.bool true)/\Below W.heap.size W w'):=λ W hb=>ZeI h2 g2 x.params _ _ W ((Zaa sStr).below K2 hb) ((Zaa sStr).below L2 hb)
 have HC3:Hid (∀ W,Below w.heap.size w W->Calls Tryz.prog 14 #[h3,g3] W λ e w'=>e=.returned (.bool true)/\Below W.heap.size W w'):=λ W hb=>ZfC h3 g3 x.body _ _ W ((Zaa sTok).below K3 hb) ((Zaa sTok).below L3 hb)
 have HX:=Qh (Zb2 w #[.string x.name,.bool x.function,h2,h3] #[.string x.name,.bool x.function,g2,g3] 56 56)
 have e0:=Zbm (rfl:x.name=x.name)
 have e1:(x.function != x.function)=false:=by simp
 go_enter Tryz.func27,Tryz.ntmps27
 go_wp2_with fail
 refine (HC2.out _ b1).mono ?_
 rintro e w2 ⟨rfl,c2⟩
 have d2:=b1.trans (c2.mono b1.size)
 replace HX:=Qh (And.intro ((c2.block _ (Qg HX.out.1).1).trans HX.out.1) ((c2.block _ (Qg HX.out.2).1).trans HX.out.2))
 have qa3:=Qc 3 HX.out.1
 have qb3:=Qc 3 HX.out.2
 clear c2
 go_wp2_with fail
 refine (HC3.out _ d2).mono ?_
 rintro e w3 ⟨rfl,c3⟩
 have d3:=d2.trans (c3.mono d2.size)
 go_wp2
 go_ret
 exact⟨rfl,d3⟩
theorem ZjI (v1 v2:Value) (l:List DMacro) (fp1 fp2:List Nat) (w:World) (H1:(Zaa sMacro).R w [v1] l fp1) (H2:(Zaa sMacro).R w [v2] l fp2) :
  Calls Tryz.prog 13 #[v1,v2] w λ e w'=>e=.returned (.bool true)/\Below w.heap.size w w':=by
 obtain⟨a1,cap1,rfl,hc1,hm1,hrow1⟩:=Zac H1
 obtain⟨a2,cap2,rfl,hc2,hm2,hrow2⟩:=Zac H2
 unfold maxLen at hm1 hm2
 have hnb:((l.length:Int) != (l.length:Int))=false:=by simp
 go_enter Tryz.func13,Tryz.ntmps13
 go_wp2
 go_loopw [5] (λ i wr=>∃ k:Nat,k<=l.length/\i=.int .i64 k/\Below w.heap.size w wr) (λ i _=>l.length-(intOf i).toNat)
 case atStart=>exact⟨0,by omega,rfl,Below.refl _ _⟩
 case round =>
  obtain⟨k,hk,rfl,hb⟩:=hrel
  by_cases hlt:k<l.length
  ·obtain⟨b1,off1,fps1,rfl,hb1,rfl,he1⟩:=hrow1 (by omega)
   obtain⟨b2,off2,fps2,rfl,hb2,rfl,he2⟩:=hrow2 (by omega)
   obtain⟨es1,hE1,hR1⟩:=he1 k hlt
   obtain⟨es2,hE2,hR2⟩:=he2 k hlt
   clear hrow1 hrow2 he1 he2 H1 H2
   replace hE1:=hE1.frame (hb.block b1 hb1)
   replace hE2:=hE2.frame (hb.block b2 hb2)
   have HC:Hid (∀ W,Below wr.heap.size wr W->Calls Tryz.prog 27 #[.agg es1.toArray,.agg es2.toArray] W λ e w'=>e=.returned (.bool true)/\Below W.heap.size W w'):=λ W hW=>Zj1 _ _ l[k] _ _ W (sMacro.below (sMacro.below hR1 hb) hW) (sMacro.below (sMacro.below hR2 hb) hW)
   obtain⟨h2,h3,fpa2,fpa3,rfl,-,K2,K3,-⟩:=hR1
   obtain⟨g2,g3,fpb2,fpb3,rfl,-,L2,L3,-⟩:=hR2
   have c1_0:wr.cell? ⟨b1,off1+k * 4,none⟩=some _:=Zam hE1 (by decide) rfl
   have c1_1:wr.cell? ⟨b1,off1+k * 4+1,none⟩=some _:=Zae (j:=1) hE1 (by decide) rfl
   have c1_2:wr.cell? ⟨b1,off1+k * 4+2,none⟩=some _:=Zae (j:=2) hE1 (by decide) rfl
   have c1_3:wr.cell? ⟨b1,off1+k * 4+3,none⟩=some _:=Zae (j:=3) hE1 (by decide) rfl
   have c2_0:wr.cell? ⟨b2,off2+k * 4,none⟩=some _:=Zam hE2 (by decide) rfl
   have c2_1:wr.cell? ⟨b2,off2+k * 4+1,none⟩=some _:=Zae (j:=1) hE2 (by decide) rfl
   have c2_2:wr.cell? ⟨b2,off2+k * 4+2,none⟩=some _:=Zae (j:=2) hE2 (by decide) rfl
   have c2_3:wr.cell? ⟨b2,off2+k * 4+3,none⟩=some _:=Zae (j:=3) hE2 (by decide) rfl
   go_wp2_with fail
   go_still_tail 8,(by kernel_rfl)
   change wpList _ _ _ _ _ wr.drew
   have hd:Below wr.heap.size wr wr.drew:=Zag (Below.refl _ _) 1
   generalize wr.drew=w2 at *
   go_wp2_with (go_at_call 27;refine (HC.out _ hd).mono ?_;rintro e w3 ⟨rfl,hb3⟩)
   go_roundw
   case rel=>exact⟨k+1,by omega,by go_num,(hb.trans (hd.mono hb.size)).trans (hb3.mono (Nat.le_trans hb.size hd.size))⟩
   case measure=>simp [intOf];omega
  ·go_wp2
   go_ret
   exact⟨rfl,hb⟩
theorem szMacro (cs:List Value) (x:DMacro) (fp:List Nat) (w:World) (B:Int) (h0:0<=B) (h1:B<=1048576) (H:sMacro.R w cs x fp) :
  Calls Tryz.prog 23 #[.agg cs.toArray,.int .i64 B] w λ e w'=>∃ r:Int,e=.returned (.int .i64 r)/\SzR B r (ZaM x)/\Below w.heap.size w w':=by
 obtain⟨v2,v3,fp2,fp3,rfl,k0,K2,K3,rfl⟩:=H
 unfold okStr maxLen at k0
 have b0:=Zab w (.cells #[.string x.name,.bool x.function,v2,v3] 52)
 have HC2:Hid (∀ W r,Below w.heap.size w W->0<=r->r<=1048576->Calls Tryz.prog 50 #[v2,.int .i64 r] W λ e w'=>∃ r':Int,e=.returned (.int .i64 r')/\SzR r r' (ZaY x.params)/\Below W.heap.size W w'):=λ W r hb hr0 hr1=>(Zi2 v2 x.params _ W r hr0 hr1 ((Zaa sStr).below K2 hb)).mono λ e w' ⟨r,a,b,c⟩=>⟨r,a,b,c ▸ Below.refl _ _⟩
 have HC3:Hid (∀ W r,Below w.heap.size w W->0<=r->r<=1048576->Calls Tryz.prog 10 #[v3,.int .i64 r] W λ e w'=>∃ r':Int,e=.returned (.int .i64 r')/\SzR r r' (ZaD x.body)/\Below W.heap.size W w'):=λ W r hb hr0 hr1=>(ZjY v3 x.body _ W r hr0 hr1 ((Zaa sTok).below K3 hb)).mono λ e w' ⟨r,a,b,c⟩=>⟨r,a,b,c⟩
 have HX:=Qh (heap_alloc_new w (.cells #[.string x.name,.bool x.function,v2,v3] 52))
 clear K2
 clear K3
 go_enter Tryz.func23,Tryz.ntmps23
 by_cases ht0:B<x.name.size
 ·have HN:Hid (SzR B (-1) (ZaM x)):=SzR.no (by unfold ZaM;omega)
  go_wp2
  go_ret
  exact⟨-1,rfl,HN.out,b0⟩
 go_wp2_with fail
 refine (HC2.out _ _ b0 (by omega) (by omega)).mono ?_
 rintro e u2 ⟨r2,rfl,hr2,c2⟩
 have e2:=b0.trans (c2.mono b0.size)
 replace HX:=Qh ((c2.block _ (Qg HX.out).1).trans HX.out)
 have q2_3:=Qc 3 HX.out
 clear c2
 by_cases hn2:r2<0
 ·have HN:Hid (SzR B (-1) (ZaM x)):=by
   refine SzR.no ?_
   unfold SzR at hr2;unfold ZaM;split at hr2 <;> omega
  go_wp2
  go_ret
  exact⟨-1,rfl,HN.out,e2⟩
 have hg2:=hr2.good hn2
 have hl2:=hr2.le (by omega)
 clear hr2
 go_wp2_with fail
 refine (HC3.out _ _ e2 (by omega) (by omega)).mono ?_
 rintro e u3 ⟨r3,rfl,hr3,c3⟩
 have e3:=e2.trans (c3.mono e2.size)
 clear c3
 by_cases hn3:r3<0
 ·have HN:Hid (SzR B (-1) (ZaM x)):=by
   refine SzR.no ?_
   unfold SzR at hr3;unfold ZaM;split at hr3 <;> omega
  go_wp2
  go_ret
  exact⟨-1,rfl,HN.out,e3⟩
 have hg3:=hr3.good hn3
 have hl3:=hr3.le (by omega)
 clear hr3
 have HN:Hid (SzR B r3 (ZaM x)):=SzR.yes (by unfold ZaM;omega) (by unfold ZaM;omega)
 clear hg2 hg3
 go_wp2
 go_ret
 exact⟨r3,rfl,HN.out,e3⟩
theorem toMacro (cs:List Value) (x:DMacro) (fp:List Nat) (w:World) (hW:ZaM x<=1048576) (H:sMacro.R w cs x fp) :
  Calls Tryz.prog 25 #[.agg cs.toArray] w (MadeC sMacro x w):=by
 obtain⟨v2,v3,fp2,fp3,rfl,k0,K2,K3,rfl⟩:=H
 have HC2:Hid (∀ W,Below w.heap.size w W->Calls Tryz.prog 51 #[v2] W (Made (Zaa sStr) x.params W)):=λ W hb=>Zi3 v2 x.params _ W (by unfold ZaM at hW;omega) ((Zaa sStr).below K2 hb)
 have HC3:Hid (∀ W,Below w.heap.size w W->Calls Tryz.prog 12 #[v3] W (Made (Zaa sTok) x.body W)):=λ W hb=>Ze6 v3 x.body _ W (by unfold ZaM at hW;omega) ((Zaa sTok).below K3 hb)
 clear K2
 clear K3
 go_enter Tryz.func25,Tryz.ntmps25
 have b3:=ZeL w #[.string x.name,.bool x.function,v2,v3] #[.string ⟨#[]⟩,.bool false,.slice none 0 0,.slice none 0 0] #[.string x.name,.bool x.function,.slice none 0 0,.slice none 0 0] 52 56 56
 have HA:=Qh (Zcy w #[.string x.name,.bool x.function,v2,v3] #[.string ⟨#[]⟩,.bool false,.slice none 0 0,.slice none 0 0] #[.string x.name,.bool x.function,.slice none 0 0,.slice none 0 0] 52 56 56)
 obtain⟨g1_,g2_,g3_⟩:=Zcp w #[.string x.name,.bool x.function,v2,v3] #[.string ⟨#[]⟩,.bool false,.slice none 0 0,.slice none 0 0] #[.string x.name,.bool x.function,.slice none 0 0,.slice none 0 0] 52 56 56
 have HG:=Qh (And.intro g1_ g2_)
 have HS:=Qh g3_
 clear g1_ g2_ g3_
 go_wp2_with fail
 refine (HC2.out _ b3).mono ?_
 rintro e u2 ⟨h2,fp2,rfl,R2,O2,c2⟩
 have lo2:∀ b∈fp2,w.heap.size+3<=b:=λ b hb=>by have:=(O2.2 b hb).1;rw [HS.out] at this;omega
 replace HA:=Qh ((c2.block _ (Qg HA.out).1).trans HA.out)
 replace HG:=Qh (And.intro ((c2.block _ (Qg HG.out.1).1).trans HG.out.1) ((c2.block _ (Qg HG.out.2).1).trans HG.out.2))
 have e2:=b3.trans (c2.mono b3.size)
 clear c2
 obtain⟨a2,cap2,rfl,-⟩:=Zac R2
 have hn1_2:w.heap.size+1∉fp2:=λ hx=>by have:=lo2 _ hx;omega
 have hn2_2:w.heap.size+1+1∉fp2:=λ hx=>by have:=lo2 _ hx;omega
 have d2:=Qc 2 HG.out.2
 have f2:=Qf 2 HG.out.2
 replace HA:=Qh (Zaz HA.out (by omega:w.heap.size≠w.heap.size+1+1) 2 (.slice a2 x.params.length cap2))
 replace HG:=Qh (And.intro (Zaz HG.out.1 (by omega:w.heap.size+1≠w.heap.size+1+1) 2 (.slice a2 x.params.length cap2)) (Zai HG.out.2 2 (.slice a2 x.params.length cap2)))
 replace R2:=Qh ((Zaa sStr).setB R2 hn2_2 2 (.slice a2 x.params.length cap2))
 replace O2:=Qh (O2.setCell ⟨w.heap.size+1+1,2,none⟩ (.slice a2 x.params.length cap2))
 replace e2:=e2.setCell (p:=⟨w.heap.size+1+1,2,none⟩) (by simp;omega) (.slice a2 x.params.length cap2)
 have U2:Hid (∀ b∈fp2,b<(u2.setCell ⟨w.heap.size+1+1,2,none⟩ (.slice a2 x.params.length cap2)).heap.size):=λ b hb=>(O2.out.lt b hb)
 have Z2:Hid (w.heap.size+1+1<(u2.setCell ⟨w.heap.size+1+1,2,none⟩ (.slice a2 x.params.length cap2)).heap.size):=(Qg HG.out.2).1
 have p3:(u2.setCell ⟨w.heap.size+1+1,2,none⟩ (.slice a2 x.params.length cap2)).cell? ⟨w.heap.size,3,none⟩=some v3:=Qc 3 HA.out
 go_wp2_with fail
 refine (HC3.out _ e2).mono ?_
 rintro e u3 ⟨h3,fp3,rfl,R3,O3,c3⟩
 have lo3:=Qh (show ∀ b∈fp3,_<=b from λ b hb=>(O3.2 b hb).1)
 replace HA:=Qh ((c3.block _ (Qg HA.out).1).trans HA.out)
 replace HG:=Qh (And.intro ((c3.block _ (Qg HG.out.1).1).trans HG.out.1) ((c3.block _ (Qg HG.out.2).1).trans HG.out.2))
 have e3:=e2.trans (c3.mono e2.size)
 replace R2:=Qh ((Zaa sStr).below R2.out c3)
 replace O2:=Qh (O2.out.grow c3)
 have ap3:Hid (∀ b∈fp2,b∉fp3):=λ b h1 h2=>by have:=lo3.out b h2;have:=U2.out b h1;omega
 clear c3
 obtain⟨a3,cap3,rfl,-⟩:=Zac R3
 have hn1_3:w.heap.size+1∉fp3:=λ hx=>by have:=lo3.out _ hx;have:=Z2.out;omega
 have hn2_3:w.heap.size+1+1∉fp3:=λ hx=>by have:=lo3.out _ hx;have:=Z2.out;omega
 have d3:=Qc 3 HG.out.2
 have f3:=Qf 3 HG.out.2
 replace HA:=Qh (Zaz HA.out (by omega:w.heap.size≠w.heap.size+1+1) 3 (.slice a3 x.body.length cap3))
 replace HG:=Qh (And.intro (Zaz HG.out.1 (by omega:w.heap.size+1≠w.heap.size+1+1) 3 (.slice a3 x.body.length cap3)) (Zai HG.out.2 3 (.slice a3 x.body.length cap3)))
 replace R3:=Qh ((Zaa sTok).setB R3 hn2_3 3 (.slice a3 x.body.length cap3))
 replace O3:=Qh (O3.setCell ⟨w.heap.size+1+1,3,none⟩ (.slice a3 x.body.length cap3))
 replace R2:=Qh ((Zaa sStr).setB R2.out hn2_2 3 (.slice a3 x.body.length cap3))
 replace O2:=Qh (O2.out.setCell ⟨w.heap.size+1+1,3,none⟩ (.slice a3 x.body.length cap3))
 replace e3:=e3.setCell (p:=⟨w.heap.size+1+1,3,none⟩) (by simp;omega) (.slice a3 x.body.length cap3)
 have U3:Hid (∀ b∈fp3,b<(u3.setCell ⟨w.heap.size+1+1,3,none⟩ (.slice a3 x.body.length cap3)).heap.size):=λ b hb=>(O3.out.lt b hb)
 have Z3:Hid (w.heap.size+1+1<(u3.setCell ⟨w.heap.size+1+1,3,none⟩ (.slice a3 x.body.length cap3)).heap.size):=(Qg HG.out.2).1
 have y0:(u3.setCell ⟨w.heap.size+1+1,3,none⟩ (.slice a3 x.body.length cap3)).cell? ⟨w.heap.size+1,0,none⟩=some (.string ⟨#[]⟩):=Qc 0 HG.out.1
 have z0:(u3.setCell ⟨w.heap.size+1+1,3,none⟩ (.slice a3 x.body.length cap3)).cell? ⟨w.heap.size+1+1,0,none⟩=some (.string x.name):=Qc 0 HG.out.2
 have w0:(u3.setCell ⟨w.heap.size+1+1,3,none⟩ (.slice a3 x.body.length cap3)).frozen? ⟨w.heap.size+1,0,none⟩=false:=frozen_of_row _ _ 0 _ _ HG.out.1
 have y1:(u3.setCell ⟨w.heap.size+1+1,3,none⟩ (.slice a3 x.body.length cap3)).cell? ⟨w.heap.size+1,1,none⟩=some (.bool false):=Qc 1 HG.out.1
 have z1:(u3.setCell ⟨w.heap.size+1+1,3,none⟩ (.slice a3 x.body.length cap3)).cell? ⟨w.heap.size+1+1,1,none⟩=some (.bool x.function):=Qc 1 HG.out.2
 have w1:(u3.setCell ⟨w.heap.size+1+1,3,none⟩ (.slice a3 x.body.length cap3)).frozen? ⟨w.heap.size+1,1,none⟩=false:=frozen_of_row _ _ 1 _ _ HG.out.1
 have y2:(u3.setCell ⟨w.heap.size+1+1,3,none⟩ (.slice a3 x.body.length cap3)).cell? ⟨w.heap.size+1,2,none⟩=some (.slice none 0 0):=Qc 2 HG.out.1
 have z2:(u3.setCell ⟨w.heap.size+1+1,3,none⟩ (.slice a3 x.body.length cap3)).cell? ⟨w.heap.size+1+1,2,none⟩=some (.slice a2 x.params.length cap2):=Qc 2 HG.out.2
 have w2:(u3.setCell ⟨w.heap.size+1+1,3,none⟩ (.slice a3 x.body.length cap3)).frozen? ⟨w.heap.size+1,2,none⟩=false:=frozen_of_row _ _ 2 _ _ HG.out.1
 have y3:(u3.setCell ⟨w.heap.size+1+1,3,none⟩ (.slice a3 x.body.length cap3)).cell? ⟨w.heap.size+1,3,none⟩=some (.slice none 0 0):=Qc 3 HG.out.1
 have z3:(u3.setCell ⟨w.heap.size+1+1,3,none⟩ (.slice a3 x.body.length cap3)).cell? ⟨w.heap.size+1+1,3,none⟩=some (.slice a3 x.body.length cap3):=Qc 3 HG.out.2
 have w3:(u3.setCell ⟨w.heap.size+1+1,3,none⟩ (.slice a3 x.body.length cap3)).frozen? ⟨w.heap.size+1,3,none⟩=false:=frozen_of_row _ _ 3 _ _ HG.out.1
 have RF2:=Qh ((Zaa sStr).setB ((Zaa sStr).setB ((Zaa sStr).setB ((Zaa sStr).setB (R2.out) hn1_2 0 (.string x.name)) hn1_2 1 (.bool x.function)) hn1_2 2 (.slice a2 x.params.length cap2)) hn1_2 3 (.slice a3 x.body.length cap3))
 have OF2:=Qh (((((O2.out).setCell ⟨w.heap.size+1,0,none⟩ (.string x.name)).setCell ⟨w.heap.size+1,1,none⟩ (.bool x.function)).setCell ⟨w.heap.size+1,2,none⟩ (.slice a2 x.params.length cap2)).setCell ⟨w.heap.size+1,3,none⟩ (.slice a3 x.body.length cap3))
 have RF3:=Qh ((Zaa sTok).setB ((Zaa sTok).setB ((Zaa sTok).setB ((Zaa sTok).setB (R3.out) hn1_3 0 (.string x.name)) hn1_3 1 (.bool x.function)) hn1_3 2 (.slice a2 x.params.length cap2)) hn1_3 3 (.slice a3 x.body.length cap3))
 have OF3:=Qh (((((O3.out).setCell ⟨w.heap.size+1,0,none⟩ (.string x.name)).setCell ⟨w.heap.size+1,1,none⟩ (.bool x.function)).setCell ⟨w.heap.size+1,2,none⟩ (.slice a2 x.params.length cap2)).setCell ⟨w.heap.size+1,3,none⟩ (.slice a3 x.body.length cap3))
 have BF:=Qh (((((e3).setCell (p:=⟨w.heap.size+1,0,none⟩) (by simp) (.string x.name)).setCell (p:=⟨w.heap.size+1,1,none⟩) (by simp) (.bool x.function)).setCell (p:=⟨w.heap.size+1,2,none⟩) (by simp) (.slice a2 x.params.length cap2)).setCell (p:=⟨w.heap.size+1,3,none⟩) (by simp) (.slice a3 x.body.length cap3))
 have HF:=Qh (Zai (Zai (Zai (Zai (HG.out.1) 0 (.string x.name)) 1 (.bool x.function)) 2 (.slice a2 x.params.length cap2)) 3 (.slice a3 x.body.length cap3))
 clear HG HA
 go_wp2
 refine bodyPost_ret (results_cell_row rfl _ _ (w.heap.size+1) _ _ _ _ rfl HF.out Tryz.underlying56 rfl (by kernel_rfl)) rfl ?_
 exact⟨[.string x.name,.bool x.function,.slice a2 x.params.length cap2,.slice a3 x.body.length cap3],fp2++fp3,rfl,⟨_,_,fp2,fp3,rfl,k0,RF2.out,RF3.out,rfl⟩,Own.app (OF2.out.lower (by rw [HS.out];omega)) (OF3.out.lower (by have:=Z2.out;omega)) ap3.out,BF.out⟩
theorem szMacroS (v:Value) (l:List DMacro) (fp:List Nat) (w:World) (B:Int) (h0:0<=B) (h1:B<=1048576) (H:(Zaa sMacro).R w [v] l fp) :
  Calls Tryz.prog 9 #[v,.int .i64 B] w λ e w'=>∃ r:Int,e=.returned (.int .i64 r)/\SzR B r (ZaS l)/\Below w.heap.size w w':=by
 obtain⟨a,cap,rfl,hc,hm,hrow⟩:=Zac H
 unfold maxLen at hm
 clear H
 by_cases hl:B<l.length
 ·have HN:Hid (SzR B (-1) (ZaS l)):=SzR.no (by unfold ZaS;omega)
  go_enter Tryz.func9,Tryz.ntmps9
  go_wp2
  go_ret
  exact⟨-1,rfl,HN.out,Below.refl _ _⟩
 ·go_enter Tryz.func9,Tryz.ntmps9
  go_wp2
  go_loopw [1,5] (λ t i wr=>∃ (k:Nat) (r:Int),k<=l.length/\i=.int .i64 k/\t=.int .i64 r/\0<=r/\r<=B/\Hid (r=B-l.length-(((l.take k).map ZaM).sum:Nat))/\Below w.heap.size w wr) (λ _ i _=>l.length-(intOf i).toNat)
  case atStart=>exact⟨0,_,by omega,rfl,rfl,by omega,by omega,by show _=_;simp,Below.refl _ _⟩
  case round =>
   obtain⟨k,r,hk,rfl,rfl,hr0,hr1,HA,hb⟩:=hrel
   by_cases hlt:k<l.length
   ·obtain⟨b1,off1,fps1,rfl,hb1,-,he1⟩:=hrow (by omega)
    obtain⟨es1,hE1,hR1⟩:=he1 k hlt
    clear hrow he1
    have hR2:=sMacro.below hR1 hb
    obtain⟨h2,h3,_fp2,_fp3,rfl,_k0,_K2,_K3,-⟩:=hR1
    have HC:=Qh (szMacro _ _ _ wr r hr0 (by omega) hR2)
    clear hR2
    replace hE1:=hE1.frame (hb.block b1 hb1)
    have c10:wr.cell? ⟨b1,off1+k * 4,none⟩=some _:=Zam hE1 (by decide) rfl
    have c11:wr.cell? ⟨b1,off1+k * 4+1,none⟩=some _:=Zae (j:=1) hE1 (by decide) rfl
    have c12:wr.cell? ⟨b1,off1+k * 4+2,none⟩=some _:=Zae (j:=2) hE1 (by decide) rfl
    have c13:wr.cell? ⟨b1,off1+k * 4+3,none⟩=some _:=Zae (j:=3) hE1 (by decide) rfl
    clear hE1
    have HT:=Qh (ZfU ZaM l k hlt)
    have HT2:=Qh (Zik ZaM l (k+1))
    go_wp2_with fail
    refine (HC.out).mono ?_
    rintro e w1 ⟨r',rfl,hr',hb2⟩
    clear c10 c11 c12 c13
    by_cases hn:r'<0
    ·have HN:Hid (SzR B (-1) (ZaS l)):=SzR.no (by
      have hx:r<ZaM l[k]:=by unfold SzR at hr';split at hr' <;> omega
      have:=HT2.out;have:=HT.out;have:=HA.out;unfold ZaS;omega)
     go_wp2
     go_ret
     exact⟨-1,rfl,HN.out,hb.trans (hb2.mono hb.size)⟩
    ·have hg:=hr'.good hn
     have hle:=hr'.le hr0
     have HA':Hid (r'=B-l.length-(((l.take (k+1)).map ZaM).sum:Nat)):=by
      show _=_
      have:=HT.out;have:=HA.out
      omega
     clear hr' hg
     go_wp2
     go_roundw
     case rel=>exact⟨k+1,_,by omega,by go_num,rfl,by omega,by omega,HA'.out,hb.trans (hb2.mono hb.size)⟩
     case measure=>simp [intOf];omega
   ·have HN:Hid (SzR B r (ZaS l)):=by
     have h:=HA.out
     rw [List.take_of_length_le (by omega)] at h
     exact SzR.yes (by unfold ZaS;omega) (by unfold ZaS;omega)
    go_wp2
    go_ret
    exact⟨r,rfl,HN.out,hb⟩
theorem Zg9 (v:Value) (l:List DMacro) (fp:List Nat) (w:World) (hW:ZaS l<=1048576) (H:(Zaa sMacro).R w [v] l fp) :
  Calls Tryz.prog 11 #[v] w (Made (Zaa sMacro) l w):=by
 have hB:l.length<=1048576:=by unfold ZaS at hW;omega
 have HW:Hid (∀ k,(hk:k<l.length)->ZaM l[k]<=1048576):=λ k hk=>by have:=ZeN ZaM l k hk;unfold ZaS at hW;omega
 obtain⟨a,cap,rfl,hc,hm,hrow⟩:=Zac H
 unfold maxLen at hm
 clear H hW
 go_enter Tryz.func11,Tryz.ntmps11
 go_wp2_with (at_make;refine ZcQ ti_Macro _ rfl _ _ rfl w.heap.size l.length rfl rfl (by omega) (by unfold maxLen;omega) (Nat.le_refl _) ?_;intro w1 hown hgrow)
 have hbel:=(Below.refl w.heap.size w).grown hgrow (Nat.le_refl _) (by simp)
 have HF0:=Filling.start (S:=sMacro) (l:=l) hown
 clear hgrow hown
 go_loopw [4] (λ i wr=>∃ (k:Nat) (L:List (Elem DMacro)) (R:List Value),k<=l.length/\i=.int .i64 k/\Hid (Filling sMacro w.heap.size 56 l k wr L R)/\Below w.heap.size w wr) (λ i _=>l.length-(intOf i).toNat)
 case atStart=>exact⟨0,_,_,by omega,rfl,HF0,hbel⟩
 case round =>
  obtain⟨k,L,R,hk,rfl,HF,hb⟩:=hrel
  clear HF0 hbel
  by_cases hlt:k<l.length
  ·obtain⟨b1,off1,fps1,rfl,hb1,-,he1⟩:=hrow (by omega)
   obtain⟨es1,hE1,hR1⟩:=he1 k hlt
   clear hrow he1
   have hR2:=sMacro.below hR1 hb
   obtain⟨h2,h3,_fp2,_fp3,rfl,_k0,_K2,_K3,-⟩:=hR1
   have HC:=Qh (toMacro _ _ _ wr (HW.out k hlt) hR2)
   clear hR2
   replace hE1:=hE1.frame (hb.block b1 hb1)
   have c10:wr.cell? ⟨b1,off1+k * 4,none⟩=some _:=Zam hE1 (by decide) rfl
   have c11:wr.cell? ⟨b1,off1+k * 4+1,none⟩=some _:=Zae (j:=1) hE1 (by decide) rfl
   have c12:wr.cell? ⟨b1,off1+k * 4+2,none⟩=some _:=Zae (j:=2) hE1 (by decide) rfl
   have c13:wr.cell? ⟨b1,off1+k * 4+3,none⟩=some _:=Zae (j:=3) hE1 (by decide) rfl
   clear hE1
   go_wp2_with fail
   refine (HC.out).mono ?_
   rintro e w2 ⟨cs,fp2,rfl,hR2,hO2,hb2⟩
   have HN:=Qh (HF.out.next (cs:=cs) hlt hb2 (by obtain⟨y2,y3,_fp2,_fp3,rfl,_k0,K2,K3,rfl⟩:=hR2;rfl) hR2 hO2)
   obtain⟨y2,y3,_fp2,_fp3,rfl,_k0,K2,K3,rfl⟩:=hR2
   obtain⟨ah2,caph2,rfl,-⟩:=Zac K2
   obtain⟨ah3,caph3,rfl,-⟩:=Zac K3
   have HF2:=Qh (HF.out.below hb2)
   obtain⟨u0,d0⟩:∃ u,w2.cell? ⟨w.heap.size,k * 4,none⟩=some u:=HF2.out.cell hlt (j:=0) (by decide)
   obtain⟨u1,d1⟩:∃ u,w2.cell? ⟨w.heap.size,k * 4+1,none⟩=some u:=HF2.out.cell hlt (j:=1) (by decide)
   obtain⟨u2,d2⟩:∃ u,w2.cell? ⟨w.heap.size,k * 4+2,none⟩=some u:=HF2.out.cell hlt (j:=2) (by decide)
   obtain⟨u3,d3⟩:∃ u,w2.cell? ⟨w.heap.size,k * 4+3,none⟩=some u:=HF2.out.cell hlt (j:=3) (by decide)
   have f0:=HF2.out.frozen (k * 4)
   have f1:=HF2.out.frozen (k * 4+1)
   have f2:=HF2.out.frozen (k * 4+2)
   have f3:=HF2.out.frozen (k * 4+3)
   clear c10 c11 c12 c13 K2 K3 hO2
   go_wp2
   obtain⟨R',HN⟩:=HN.out
   go_roundw
   case rel=>exact⟨k+1,_,R',by omega,by go_num,HN,ZdX (Nat.le_refl _) [_,_,_,_] _ (k * 4) (hb.trans (hb2.mono hb.size))⟩
   case measure=>simp [intOf];omega
  ·obtain⟨fp',h1,h2⟩:=HF.out.done (by omega)
   go_wp2
   go_ret
   exact⟨_,fp',rfl,h1,h2,hb⟩
def begins (x y:UInt8):Bool:=decide (x.toNat=47) && (decide (y.toNat=47) || decide (y.toNat=42))
theorem ZeC (x:ByteArray) (w:World) (hs:x.size<=maxLen) :
  Calls Tryz.prog 95 #[.string x] w (Says (Zak x 1) w):=by
 have HT:Hid (∀ W,Calls Tryz.prog 56 #[.string x] W (Zco (Zar x) W)):=λ W=>Zb4 x W hs
 go_enter Tryz.func95,Tryz.ntmps95
 rcases ZcD x 1 with⟨hr,HF⟩ | ⟨l,hr,hl,HF⟩ | ⟨t,hr,hk,HF⟩ | ⟨t,hr,hk,hx,HF⟩ | ⟨t,hr,hk,hx,_,HF⟩
 ·rw [hr] at HT
  clear hr
  go_wp2_with (go_at_call 56;refine (HT.out _).mono ?_;rintro e w' ⟨v,fp,rfl,hR,hO,hB⟩)
  go_ret
  exact⟨Zad HF.out.symm,hB⟩
 ·rw [hr] at HT
  have hl':((l.length:Int)==1)=false:=by simp;omega
  clear hr hl
  go_wp2_with (go_at_call 56;refine (HT.out _).mono ?_;rintro e w' ⟨v,fp,rfl,hR,hO,hB⟩;obtain⟨a,cap,rfl,_,_,_⟩:=Zac hR)
  go_ret
  exact⟨Zad HF.out.symm,hB⟩
 ·rw [hr] at HT
  have hk':(t.kind==1)=false:=by simp [hk]
  clear hr hk
  go_wp2_with (go_at_call 56;refine (HT.out _).mono ?_;rintro e w' ⟨v,fp,rfl,hR,hO,hB⟩;obtain⟨b,off,cap,h,rfl,hc1,hc2,hb,h0,h1,h2,h3,_,_⟩:=Za9 hR)
  go_ret
  exact⟨Zad HF.out.symm,hB⟩
 ·rw [hr] at HT
  have hk':(t.kind==1)=true:=by simp [hk]
  have hx':(t.text.toList==x.toList)=false:=ZbH hx
  clear hr hk hx
  go_wp2_with (go_at_call 56;refine (HT.out _).mono ?_;rintro e w' ⟨v,fp,rfl,hR,hO,hB⟩;obtain⟨b,off,cap,h,rfl,hc1,hc2,hb,h0,h1,h2,h3,_,_⟩:=Za9 hR)
  go_ret
  exact⟨Zad HF.out.symm,hB⟩
 ·rw [hr] at HT
  have hk':(t.kind==1)=true:=by simp [hk]
  have hx':(t.text.toList==x.toList)=true:=Zbm hx
  clear hr hk hx
  go_wp2_with (go_at_call 56;refine (HT.out _).mono ?_;rintro e w' ⟨v,fp,rfl,hR,hO,hB⟩;obtain⟨b,off,cap,h,rfl,hc1,hc2,hb,h0,h1,h2,h3,_,_⟩:=Za9 hR)
  go_ret
  exact⟨Zad HF.out.symm,hB⟩
theorem ZlE {ps:List ByteArray} {t:Tok} {k:Nat} (h:ps.length<=k):parFrom ps t k=-1:=by rw [parFrom,dif_neg (by omega)]
theorem ZlF {ps:List ByteArray} {t:Tok} {k:Nat} (h:k<ps.length) (h1:t.kind=1) (h2:ps[k]=t.text):parFrom ps t k=k:=by rw [parFrom,dif_pos h,if_pos ⟨h1,h2⟩]
theorem Zha {ps:List ByteArray} {t:Tok} {k:Nat} (h:k<ps.length) (h1:¬ (t.kind=1/\ps[k]=t.text)):parFrom ps t k=parFrom ps t (k+1):=by rw [parFrom,dif_pos h,if_neg h1]
theorem ZdY (csM csT:List Value) (m:DMacro) (t:Tok) (fpM fpT:List Nat) (w:World) (HM:sMacro.R w csM m fpM) (HT:sTok.R w csT t fpT) :
  Calls Tryz.prog 96 #[.agg csM.toArray,.agg csT.toArray] w λ e w'=>e=.returned (.int .i64 (parOf m.params t))/\Below w.heap.size w w':=by
 obtain⟨h2,h3,fp2,fp3,rfl,-,K2,K3,rfl⟩:=HM
 obtain⟨hh,rfl,-,-,-⟩:=HT
 obtain⟨a,cap,rfl,hc,hm,hcell,hsz⟩:=Zaf K2
 unfold maxLen at hm
 clear K2 K3
 have b0:=Zab w (.cells #[.string m.name,.bool m.function,.slice a m.params.length cap,h3] 56)
 have b1:=b0.trans ((Zab (w.alloc (.cells #[.string m.name,.bool m.function,.slice a m.params.length cap,h3] 56)) (.cells #[.int .i64 t.kind,.string t.text,.bool t.spaced,hh] 32)).mono b0.size)
 have HX:=Qh (Zb2 w #[.string m.name,.bool m.function,.slice a m.params.length cap,h3] #[.int .i64 t.kind,.string t.text,.bool t.spaced,hh] 56 32)
 go_enter Tryz.func96,Tryz.ntmps96
 go_wp2
 generalize (w.alloc (.cells #[.string m.name,.bool m.function,.slice a m.params.length cap,h3] 56)).alloc (.cells #[.int .i64 t.kind,.string t.text,.bool t.spaced,hh] 32)=W at *
 clear b0
 go_loopw [5] (λ i wr=>∃ k:Nat,k<=m.params.length/\i=.int .i64 k/\Hid (parOf m.params t=parFrom m.params t k)/\Below W.heap.size W wr) (λ i _=>m.params.length-(intOf i).toNat)
 case atStart=>exact⟨0,by omega,rfl,rfl,Below.refl _ _⟩
 case round =>
  obtain⟨k,hk,rfl,HP,hb⟩:=hrel
  have HX1:=Qh (And.intro ((hb.block _ (Qg HX.out.1).1).trans HX.out.1) ((hb.block _ (Qg HX.out.2).1).trans HX.out.2))
  have q2:=Qc 2 HX1.out.1
  have p0:=Qc 0 HX1.out.2
  have p1:=Qc 1 HX1.out.2
  by_cases hlt:k<m.params.length
  ·obtain⟨b,off,rfl,hbl,_,hc2⟩:=hcell (by omega)
   have hck:=((b1.trans (hb.mono b1.size)).cell (p:=⟨b,off+k,none⟩) hbl).trans (hc2 k hlt)
   clear hcell hc2
   by_cases e1:t.kind=1
   ·have g1:(t.kind==1)=true:=by simp [e1]
    by_cases e2:m.params[k]=t.text
    ·have g2:=Zbm e2
     have HF:=Qh (ZlF hlt e1 e2)
     clear e1 e2
     go_wp2
     go_quiet (fail)
     go_wp2
     go_ret
     exact⟨Za5 (by rw [HP.out,HF.out]),b1.trans ((Zag hb _).mono b1.size)⟩
    ·have g2:(m.params[k].toList==t.text.toList)=false:=ZbH e2
     have HF:=Qh (Zha hlt (λ h=>e2 h.2))
     clear e1 e2
     go_wp2
     go_quiet (fail)
     go_wp2
     go_roundw
     case rel=>exact⟨k+1,by omega,by go_num,by show _=_;rw [HP.out,HF.out],Zag hb _⟩
     case measure=>simp [intOf];omega
   ·have g1:(t.kind==1)=false:=by simp [e1]
    have HF:=Qh (Zha hlt (λ h=>e1 h.1))
    clear e1
    go_wp2
    go_quiet (fail)
    go_wp2
    go_roundw
    case rel=>exact⟨k+1,by omega,by go_num,by show _=_;rw [HP.out,HF.out],Zag hb _⟩
    case measure=>simp [intOf];omega
  ·have HF:=Qh (ZlE (t:=t) (by omega:m.params.length<=k))
   go_wp2
   go_ret
   exact⟨Za5 (by rw [HP.out,HF.out]),b1.trans (hb.mono b1.size)⟩
/-! ### Tokens that need no space between them -/
def markT (c:UInt8):Tok:=⟨4,⟨#[c]⟩,false,[]⟩
def nameT (s:ByteArray):Tok:=⟨1,s,false,[]⟩
/-! ### Printing token by token -/
/-! ### The tokens of a macro's text -/
def hL (m:DMacro):Nat->List Tok
 | 0=>[nameT m.name,markT 40]
 | k+1=>(if 0<k then hL m k++[markT 44] else hL m k)++[nameT (if h:k<m.params.length then m.params[k] else ⟨#[]⟩)]
/-! ### Reading it -/
/-! ### What the other promises ask -/
theorem Zc8 (x:ByteArray) (l:List UInt8):(x.toList==l)=decide (x=⟨l.toArray⟩):=by
 rw [ByteArray.toList_eq]
 by_cases h:x=⟨l.toArray⟩
 ·subst h;simp
 ·rw [decide_eq_false h,beq_eq_false_iff_ne]
  intro e
  apply h
  rw [← e]
theorem txt_t {x:ByteArray} {l:List UInt8} (h:x=⟨l.toArray⟩):(x.toList==l)=true:=by rw [Zc8,decide_eq_true h]
theorem txt_f {x:ByteArray} {l:List UInt8} (h:x≠⟨l.toArray⟩):(x.toList==l)=false:=by rw [Zc8,decide_eq_false h]
/-! ### Parameters -/
def ParUpto (ps:List ByteArray) (k:Nat):Prop:=∀ j,j<k->parOk ps j=true
theorem ParUpto.zero (ps:List ByteArray):ParUpto ps 0:=by intro j h;omega
theorem ParUpto.succ {ps:List ByteArray} {k:Nat} (h:ParUpto ps k) (h1:parOk ps k=true):ParUpto ps (k+1):=by
 intro j hj
 by_cases e:j=k
 ·subst e;exact h1
 ·exact h j (by omega)
def NotUpto (ps:List ByteArray) (x:ByteArray) (j:Nat):Prop:=∀ i,i<j->ps[i]?≠some x
theorem NotUpto.zero (ps:List ByteArray) (x:ByteArray):NotUpto ps x 0:=by intro i h;omega
theorem NotUpto.succ {ps:List ByteArray} {x:ByteArray} {j:Nat} (h:NotUpto ps x j) (hj:j<ps.length) (hn:ps[j]≠x):NotUpto ps x (j+1):=by
 intro i hi
 by_cases e:i=j
 ·subst e;rw [List.getElem?_eq_getElem hj];intro h';exact hn (Option.some.inj h')
 ·exact h i (by omega)
theorem par_name {ps:List ByteArray} {k:Nat} (hk:k<ps.length) (h:Zak ps[k] 1=false):parOk ps k=false:=by unfold parOk;rw [dif_pos hk,h];rfl
theorem Zm0 {ps:List ByteArray} {k j:Nat} (hk:k<ps.length) (hj:j<k) (h:ps[j]'(by omega)=ps[k]):parOk ps k=false:=by
 unfold parOk
 rw [dif_pos hk]
 have:(List.range k).all (λ j=>!decide (ps[j]?=some ps[k]))=false:=by
  rw [List.all_eq_false]
  exact⟨j,by simpa using hj,by simp [List.getElem?_eq_getElem (show j<ps.length by omega),h]⟩
 rw [this,Bool.and_false]
theorem par_yes {ps:List ByteArray} {k:Nat} (hk:k<ps.length) (h:Zak ps[k] 1=true) (hn:NotUpto ps ps[k] k):parOk ps k=true:=by
 unfold parOk
 rw [dif_pos hk,h,Bool.true_and,List.all_eq_true]
 intro j hj
 have:=hn j (by simpa using hj)
 simp [this]
/-! ### The body -/
def bodI (b:List Tok) (k:Nat):Bool:=
 if h:k<b.length then
  decide (b[k].hidden.length=0) && !(decide (k=0) && b[k].spaced) && !(decide (b[k].text=hash2) && (decide (k=0) || decide (k+1=b.length) || decide ((b[k-1]'(by omega)).text=hash2)))
 else true
def hasTx (ps:List ByteArray) (x:ByteArray):Bool:=ps.any λ p=>decide (p=x)
theorem hasTx_iff {ps:List ByteArray} {x:ByteArray}:hasTx ps x=true ↔ x∈ps:=by
 unfold hasTx
 rw [List.any_eq_true]
 exact⟨λ ⟨p,h1,h2⟩=>by rw [← of_decide_eq_true h2];exact h1,λ h=>⟨x,h,by simp⟩⟩
def signS (m:DMacro) (k:Nat):Bool:=if h:k<m.body.length then !(decide (m.body[k].text=hash1) && (if h2:k+1<m.body.length then decide (parOf m.params m.body[k+1]<0) else true)) else true
def signI (m:DMacro) (k:Nat):Bool:=if h:k<m.body.length then !(decide (m.body[k].text=hash1) && (if h2:k+1<m.body.length then !hasTx m.params m.body[k+1].text else true)) else true
theorem Zcz (m:DMacro) (k:Nat) (hk:k<m.body.length):bodOk m k=(tokOk m.body[k] && bodI m.body k && (!m.function || signS m k)):=by
 unfold bodOk bodI signS
 rw [dif_pos hk,dif_pos hk,dif_pos hk]
 cases tokOk m.body[k] <;> cases decide (m.body[k].hidden.length=0) <;> cases (decide (k=0) && m.body[k].spaced) <;> cases m.function <;> simp
theorem ZfX {b:List Tok} {k:Nat} (hk:k<b.length) :
  (b[k].hidden.length≠0/\Hid (bodI b k=false)) \/
  (b[k].hidden.length=0/\k=0/\b[k].spaced=true/\Hid (bodI b k=false)) \/
  (b[k].hidden.length=0/\k=0/\b[k].spaced=false/\b[k].text=hash2/\Hid (bodI b k=false)) \/
  (b[k].hidden.length=0/\k=0/\b[k].spaced=false/\b[k].text≠hash2/\Hid (bodI b k=true)) \/
  (b[k].hidden.length=0/\k≠0/\b[k].text=hash2/\k+1=b.length/\Hid (bodI b k=false)) \/
  (b[k].hidden.length=0/\k≠0/\b[k].text=hash2/\k+1≠b.length/\(b[k-1]'(by omega)).text=hash2/\Hid (bodI b k=false)) \/
  (b[k].hidden.length=0/\k≠0/\b[k].text=hash2/\k+1≠b.length/\(b[k-1]'(by omega)).text≠hash2/\Hid (bodI b k=true)) \/
  (b[k].hidden.length=0/\k≠0/\b[k].text≠hash2/\Hid (bodI b k=true)):=by
 have e:bodI b k=(decide (b[k].hidden.length=0) && !(decide (k=0) && b[k].spaced) && !(decide (b[k].text=hash2) && (decide (k=0) || decide (k+1=b.length) || decide ((b[k-1]'(by omega)).text=hash2)))):=by
  unfold bodI;rw [dif_pos hk]
 by_cases h1:b[k].hidden.length=0
 ·by_cases h2:k=0
  ·subst h2
   cases h3:b[0].spaced
   ·by_cases h4:b[0].text=hash2
    ·exact .inr (.inr (.inl ⟨h1,rfl,rfl,h4,by show _=_;rw [e,h3,decide_eq_true h4];simp⟩))
    ·exact .inr (.inr (.inr (.inl ⟨h1,rfl,rfl,h4,by show _=_;rw [e,h3,decide_eq_true h1,decide_eq_false h4];simp⟩)))
   ·exact .inr (.inl ⟨h1,rfl,rfl,by show _=_;rw [e,h3];simp⟩)
  ·by_cases h4:b[k].text=hash2
   ·by_cases h5:k+1=b.length
    ·exact .inr (.inr (.inr (.inr (.inl ⟨h1,h2,h4,h5,by show _=_;rw [e];simp [h4,h5]⟩))))
    ·by_cases h6:(b[k-1]'(by omega)).text=hash2
     ·exact .inr (.inr (.inr (.inr (.inr (.inl ⟨h1,h2,h4,h5,h6,by show _=_;rw [e];simp [h4,h6]⟩)))))
     ·exact .inr (.inr (.inr (.inr (.inr (.inr (.inl ⟨h1,h2,h4,h5,h6,by show _=_;rw [e];simp [h1,h2,h5,h6]⟩))))))
   ·exact .inr (.inr (.inr (.inr (.inr (.inr (.inr ⟨h1,h2,h4,by show _=_;rw [e];simp [h1,h2,h4]⟩))))))
 ·exact .inl ⟨h1,by show _=_;rw [e];simp [h1]⟩
def BodUpto (p:Nat->Bool) (k:Nat):Prop:=∀ j,j<k->p j=true
theorem BodUpto.zero (p:Nat->Bool):BodUpto p 0:=by intro j h;omega
theorem BodUpto.succ {p:Nat->Bool} {k:Nat} (h:BodUpto p k) (h1:p k=true):BodUpto p (k+1):=by
 intro j hj
 by_cases e:j=k
 ·subst e;exact h1
 ·exact h j (by omega)
theorem Zc9 {p:Nat->Bool} {n k:Nat} (hk:k<n) (h:p k=false):(List.range n).all p=false:=by
 rw [List.all_eq_false];exact⟨k,by simpa using hk,by simp [h]⟩
theorem Zce {p:Nat->Bool} {n:Nat} (h:∀ j,j<n->p j=true):(List.range n).all p=true:=by
 rw [List.all_eq_true];intro j hj;exact h j (by simpa using hj)
theorem ZgQ {m:DMacro} {k:Nat} (hk:k<m.body.length) (h:m.body[k].text≠hash1):signS m k=true:=by unfold signS;rw [dif_pos hk,decide_eq_false h];rfl
theorem Zmd {m:DMacro} {k:Nat} (hk:k<m.body.length) (h:m.body[k].text=hash1) (hl:k+1=m.body.length):signS m k=false:=by unfold signS;rw [dif_pos hk,decide_eq_true h,dif_neg (by omega)];rfl
theorem signS_no {m:DMacro} {k:Nat} (hk:k+1<m.body.length) (h:(m.body[k]'(by omega)).text=hash1) (hp:parOf m.params m.body[k+1]<0):signS m k=false:=by unfold signS;rw [dif_pos (by omega),decide_eq_true h,dif_pos hk,decide_eq_true hp];rfl
theorem Zm1 {m:DMacro} {k:Nat} (hk:k+1<m.body.length) (h:(m.body[k]'(by omega)).text=hash1) (hp:¬ parOf m.params m.body[k+1]<0):signS m k=true:=by unfold signS;rw [dif_pos (by omega),decide_eq_true h,dif_pos hk,decide_eq_false hp];rfl
/-! ### Macros of the model -/
theorem Zcq {m:DMacro} (h:Zc7 m=false):macOk m=false:=by unfold macOk;rw [h];rfl
theorem Zi6 {m:DMacro} {k:Nat} (hk:k<m.params.length) (h:parOk m.params k=false):macOk m=false:=by unfold macOk;rw [Zc9 hk h];simp
theorem ZaZ {m:DMacro} {k:Nat} (hk:k<m.body.length) (h:bodOk m k=false):macOk m=false:=by unfold macOk;rw [Zc9 hk h];simp
theorem Zi7 {m:DMacro} (h:Zc7 m=true) (h1:ParUpto m.params m.params.length) (h2:BodUpto (bodOk m) m.body.length):macOk m=true:=by unfold macOk;rw [h,Zce h1,Zce h2];rfl
theorem Zi8 (m:DMacro) :
  (Zak m.name 1=false/\Hid (macOk m=false)) \/
  (Zak m.name 1=true/\m.name=Za4/\Hid (macOk m=false)) \/
  (Zak m.name 1=true/\m.name≠Za4/\4<m.params.length/\Hid (macOk m=false)) \/
  (Zak m.name 1=true/\m.name≠Za4/\m.params.length<=4/\m.function=false/\0<m.params.length/\Hid (macOk m=false)) \/
  (Zak m.name 1=true/\m.name≠Za4/\m.params.length<=4/\(m.function=true\/m.params.length=0)/\20<m.body.length/\Hid (macOk m=false)) \/
  (Zak m.name 1=true/\m.name≠Za4/\m.params.length<=4/\(m.function=true\/m.params.length=0)/\m.body.length<=20/\Hid (Zc7 m=true)):=by
 have hd:Zc7 m=(Zak m.name 1 && !decide (m.name=Za4) && decide (m.params.length<=4) && (m.function || decide (m.params.length=0)) && decide (m.body.length<=20)):=rfl
 cases h1:Zak m.name 1
 ·exact .inl ⟨rfl,Zcq (by rw [hd,h1];rfl)⟩
 by_cases h2:m.name=Za4
 ·exact .inr (.inl ⟨rfl,h2,Zcq (by rw [hd,h1];simp [h2])⟩)
 by_cases h3:m.params.length<=4
 ·cases h4:m.function
  ·by_cases h5:m.params.length=0
   ·by_cases h6:m.body.length<=20
    ·exact .inr (.inr (.inr (.inr (.inr ⟨rfl,h2,h3,.inr h5,h6,by show _=_;rw [hd,h1];simp [h2,h5,h6]⟩))))
    ·exact .inr (.inr (.inr (.inr (.inl ⟨rfl,h2,h3,.inr h5,by omega,Zcq (by rw [hd];simp [h6])⟩))))
   ·exact .inr (.inr (.inr (.inl ⟨rfl,h2,h3,rfl,by omega,Zcq (by rw [hd,h4];simp [h5])⟩)))
  ·by_cases h6:m.body.length<=20
   ·exact .inr (.inr (.inr (.inr (.inr ⟨rfl,h2,h3,.inl rfl,h6,by show _=_;rw [hd,h1,h4];simp [h2,h3,h6]⟩))))
   ·exact .inr (.inr (.inr (.inr (.inl ⟨rfl,h2,h3,.inl rfl,by omega,Zcq (by rw [hd];simp [h6])⟩))))
 ·exact .inr (.inr (.inl ⟨rfl,h2,by omega,Zcq (by rw [hd];simp [h3])⟩))
/-! ### Macros of the program -/
def Zcf (ps:List ByteArray):Bool:=decide (ps.length<=4) && (List.range ps.length).all (parOk ps)
def ZaW (b:List Tok):Bool:=decide (b.length<=20) && Zaj b && (List.range b.length).all (bodI b)
def ZdK (m:DMacro):Bool:=(List.range m.body.length).all (signI m)
theorem Zhb {x:ByteArray} {k k':Int} (h:Zak x k=true) (h':Zak x k'=true):k=k':=by
 rcases ZcD x k with⟨_,H⟩ | ⟨_,_,_,H⟩ | ⟨_,_,_,H⟩ | ⟨_,_,_,_,H⟩ | ⟨t,hr,hk,_,_,_⟩
 ·exact absurd (H.out.symm.trans h) (by simp)
 ·exact absurd (H.out.symm.trans h) (by simp)
 ·exact absurd (H.out.symm.trans h) (by simp)
 ·exact absurd (H.out.symm.trans h) (by simp)
 ·unfold Zak at h'
  rw [hr] at h'
  simp at h'
  rw [← hk,← h'.1]
theorem Zk7 {ps:List ByteArray} {t:Tok} (hk:t.kind=1) (k:Nat):parFrom ps t k<0 ↔ t.text∉ps.drop k:=by
 induction k using parFrom.induct (ps:=ps) (t:=t) with
 |
  case1 k h hc =>
  rw [parFrom,dif_pos h,if_pos hc,List.drop_eq_getElem_cons h]
  simp [hc.2]
 |
  case2 k h hc ih =>
  rw [parFrom,dif_pos h,if_neg hc,ih,List.drop_eq_getElem_cons h]
  have hn:¬ t.text=ps[k]:=λ e=>hc ⟨hk,e.symm⟩
  rw [List.mem_cons,not_or]
  exact⟨λ h=>⟨hn,h⟩,λ h=>h.2⟩
 | case3 k h=>rw [parFrom,dif_neg h,List.drop_eq_nil_iff.2 (by omega)];simp
theorem Zj2 {ps:List ByteArray} {t:Tok} (hk:t.kind≠1) (k:Nat):parFrom ps t k<0:=by
 induction k using parFrom.induct (ps:=ps) (t:=t) with
 | case1 k h hc=>exact absurd hc.1 hk
 | case2 k h hc ih=>rw [parFrom,dif_pos h,if_neg hc];exact ih
 | case3 k h=>rw [parFrom,dif_neg h];omega
theorem Zm2 {m:DMacro} (hp:∀ k,(hk:k<m.params.length)->Zak m.params[k] 1=true) (hb:∀ k,(hk:k<m.body.length)->tokOk m.body[k]=true) (k:Nat):signI m k=signS m k:=by
 unfold signI signS
 by_cases h:k<m.body.length
 ·rw [dif_pos h,dif_pos h]
  by_cases h2:k+1<m.body.length
  ·rw [dif_pos h2,dif_pos h2]
   have e:(!hasTx m.params m.body[k+1].text)=decide (parOf m.params m.body[k+1]<0):=by
    by_cases hk:m.body[k+1].kind=1
    ·have:=Zk7 (ps:=m.params) hk 0
     rw [List.drop_zero] at this
     unfold parOf
     by_cases hm:m.body[k+1].text∈m.params
     ·have h3:¬ parFrom m.params m.body[k+1] 0<0:=λ h=>this.1 h hm
      rw [hasTx_iff.2 hm,decide_eq_false h3];rfl
     ·have h4:hasTx m.params m.body[k+1].text=false:=by
       cases h:hasTx m.params m.body[k+1].text
       ·rfl
       ·exact absurd (hasTx_iff.1 h) hm
      rw [h4,decide_eq_true (this.2 hm)];rfl
    ·have h3:=Zj2 (ps:=m.params) hk 0
     have hm:m.body[k+1].text∉m.params:=λ hm=>by
      obtain⟨i,hi,he⟩:=List.getElem_of_mem hm
      have h4:=hp i hi
      rw [he] at h4
      have h5:=hb (k+1) h2
      unfold tokOk at h5
      rw [Bool.and_eq_true] at h5
      exact hk (Zhb h5.1 h4)
     have h4:hasTx m.params m.body[k+1].text=false:=by
      cases h:hasTx m.params m.body[k+1].text
      ·rfl
      ·exact absurd (hasTx_iff.1 h) hm
     unfold parOf
     rw [h4,decide_eq_true h3];rfl
   rw [e]
  ·rw [dif_neg h2,dif_neg h2]
 ·rw [dif_neg h,dif_neg h]
theorem ZlG (n:Nat) (p q:Nat->Bool):(List.range n).all (λ k=>p k && q k)=((List.range n).all p && (List.range n).all q):=by
 induction n with
 | zero=>rfl
 |
  succ n ih =>
  simp only [List.range_succ,List.all_append,ih,List.all_cons,List.all_nil,Bool.and_true]
  cases (List.range n).all p <;> cases (List.range n).all q <;> cases p n <;> cases q n <;> rfl
theorem Zim {n:Nat} {p q:Nat->Bool} (h:∀ k,k<n->p k=q k):(List.range n).all p=(List.range n).all q:=by
 cases hq:(List.range n).all q
 ·rw [List.all_eq_false] at hq
  obtain⟨k,hk,h2⟩:=hq
  have hk':k<n:=by simpa using hk
  exact Zc9 hk' (by rw [h k hk'];simpa using h2)
 ·rw [List.all_eq_true] at hq
  exact Zce λ j hj=>by rw [h j hj];exact hq j (by simpa using hj)
theorem ZhO {b:List Tok} (h:b.length<=20):Zaj b=(List.range b.length).all (λ k=>if h:k<b.length then tokOk b[k] else true):=by
 unfold Zaj
 rw [decide_eq_true (by omega:b.length<=60),Bool.true_and]
 cases hr:(List.range b.length).all (λ k=>if h:k<b.length then tokOk b[k] else true)
 ·rw [List.all_eq_false] at hr ⊢
  obtain⟨k,hk,h2⟩:=hr
  have hk':k<b.length:=by simpa using hk
  rw [dif_pos hk'] at h2
  exact⟨b[k],List.getElem_mem hk',h2⟩
 ·rw [List.all_eq_true] at hr ⊢
  intro t ht
  obtain⟨i,hi,rfl⟩:=List.getElem_of_mem ht
  have:=hr i (by simpa using hi)
  rw [dif_pos hi] at this
  exact this
theorem Ze7 (m:DMacro):macOk m=(Zak m.name 1 && !decide (m.name=Za4) && (if m.function=true then Zcf m.params && ZaW m.body && ZdK m else decide (m.params.length=0) && ZaW m.body)):=by
 have hd:Zc7 m=(Zak m.name 1 && !decide (m.name=Za4) && decide (m.params.length<=4) && (m.function || decide (m.params.length=0)) && decide (m.body.length<=20)):=rfl
 have hB:m.body.length<=20->(List.range m.body.length).all (bodOk m)=(Zaj m.body && (List.range m.body.length).all (bodI m.body) && (List.range m.body.length).all (λ k=>!m.function || signS m k)):=by
  intro hl
  rw [ZhO hl,← ZlG,← ZlG]
  exact Zim λ k hk=>by rw [dif_pos hk];exact Zcz m k hk
 unfold macOk
 rw [hd]
 by_cases hl:m.body.length<=20
 ·rw [hB hl,decide_eq_true hl]
  cases hf:m.function
  ·rw [if_neg (by simp)]
   have e1:(List.range m.body.length).all (λ k=>!false || signS m k)=true:=Zce λ _ _=>rfl
   rw [e1]
   unfold ZaW
   rw [decide_eq_true hl]
   by_cases h0:m.params.length=0
   ·rw [h0]
    simp
   ·rw [decide_eq_false h0];simp
  ·rw [if_pos rfl]
   unfold Zcf ZaW ZdK
   rw [decide_eq_true hl]
   have e1:(List.range m.body.length).all (λ k=>!true || signS m k)=(List.range m.body.length).all (signS m):=Zim λ _ _=>by simp
   rw [e1]
   cases hp:(List.range m.params.length).all (parOk m.params)
   ·simp
   cases ht:Zaj m.body
   ·simp
   have e2:(List.range m.body.length).all (signI m)=(List.range m.body.length).all (signS m):=Zim λ k _=>by
    refine Zm2 (λ k hk=>?_) (λ k hk=>?_) k
    ·rw [List.all_eq_true] at hp
     have:=hp k (by simpa using hk)
     unfold parOk at this
     rw [dif_pos hk,Bool.and_eq_true] at this
     exact this.1
    ·rw [ZhO hl,List.all_eq_true] at ht
     have:=ht k (by simpa using hk)
     rw [dif_pos hk] at this
     exact this
   rw [e2]
   simp only [Bool.true_or,Bool.and_true,Bool.true_and,Bool.and_assoc]
 ·have e1:ZaW m.body=false:=by unfold ZaW;rw [decide_eq_false hl];rfl
  rw [decide_eq_false hl,e1]
  simp
end Go.Proofs.YtipfpppcbmpjiaaGreat
