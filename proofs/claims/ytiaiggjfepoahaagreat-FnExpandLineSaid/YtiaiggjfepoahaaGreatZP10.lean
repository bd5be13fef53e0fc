/- Texts that the proof of P stands on, in one file. -/
import Derived.Test.YtiaiggjfepoahaaGreatZP9
import Derived.Deep.Cut
import Derived.Deep.CutRange
import Derived.Lib.FrozenHead2
import Derived.Lib.OthersKept
import Derived.Lib.Builder
import Derived.Laws.Externs
import Derived.Lib.Join
import Derived.Deep.RegionHeld3
set_option linter.unusedVariables false
set_option maxHeartbeats 16000000
set_option maxRecDepth 100000
set_option linter.unusedSimpArgs false
/- MacroOf of the model. (Made by gen_mac10.py.) -/
namespace Go.Proofs.YtiaiggjfepoahaaGreat
open Go.RowKit
/-! ### The model's theorem, way by way -/
theorem of_no {l:List Tok} (h:Zaj l=false):macOf l=(Zb0,false):=by unfold macOf;rw [dif_neg (λ x=>by rw [h] at x;exact absurd x.1 (by simp))]
theorem of_nil {l:List Tok} (h:¬ 0<l.length):macOf l=(Zb0,false):=by unfold macOf;rw [dif_neg (λ x=>h x.2)]
theorem of_plain {l:List Tok} (h:Zaj l=true) (h0:0<l.length) (ho:ZbN l=false):macOf l=Zb1 ⟨l[0].text,false,[],ZaK l 1⟩:=by unfold macOf;rw [dif_pos ⟨h,h0⟩,if_neg (by simp [ho])]
theorem of_pno {l:List Tok} (h:Zaj l=true) (h0:0<l.length) (ho:ZbN l=true) (hp:Zbl l=none):macOf l=(Zb0,false):=by unfold macOf;rw [dif_pos ⟨h,h0⟩,if_pos ho,hp]
theorem of_pars {l:List Tok} (h:Zaj l=true) (h0:0<l.length) (ho:ZbN l=true) {p:List ByteArray × Nat} (hp:Zbl l=some p):macOf l=Zb1 ⟨l[0].text,true,p.1,ZaK l p.2⟩:=by unfold macOf;rw [dif_pos ⟨h,h0⟩,if_pos ho,hp]
theorem chk_no {m:DMacro} (h:macOk m=false):Zb1 m=(Zb0,false):=by unfold Zb1;rw [if_neg (by simp [h])]
theorem chk_yes {m:DMacro} (h:macOk m=true):Zb1 m=(m,true):=by unfold Zb1;rw [if_pos h]
theorem pat_le (l:List Tok) (k:Nat):∀ p,parsAt l k=some p->p.2<=l.length:=by
 induction k using parsAt.induct (l:=l) with
 | case1 k h h1 h2=>intro p hp;rw [Zkz h h1 h2] at hp;cases hp;show k+2<=_;omega
 |
  case2 k h h1 h2 h3 ih =>
  intro p hp
  rw [ZkA h h1 h2 h3,Option.map_eq_some_iff] at hp
  obtain⟨q,hq,rfl⟩:=hp
  exact ih q hq
 | case3 k h h1 h2 h3=>intro p hp;rw [ZkB h h1 h2 h3] at hp;cases hp
 | case4 k h h1=>intro p hp;rw [Zma h h1] at hp;cases hp
 | case5 k h=>intro p hp;rw [ZkC h] at hp;cases hp
theorem pars_le {l:List Tok} {p:List ByteArray × Nat} (h:Zbl l=some p):p.2<=l.length:=by
 unfold Zbl at h
 split at h
 ·split at h
  ·cases h;show 3<=_;omega
  ·exact pat_le l 2 p h
 ·cases h
theorem op_short {l:List Tok} (h:¬ 1<l.length):ZbN l=false:=by unfold ZbN;rw [dif_neg h]
theorem op_other {l:List Tok} (h:1<l.length) (h1:l[1].text≠openB):ZbN l=false:=by unfold ZbN;rw [dif_pos h,decide_eq_false h1];rfl
theorem Znw {l:List Tok} (h:1<l.length) (h1:l[1].spaced=true):ZbN l=false:=by unfold ZbN;rw [dif_pos h,h1];simp
theorem op_yes {l:List Tok} (h:1<l.length) (h1:l[1].text=openB) (h2:l[1].spaced=false):ZbN l=true:=by unfold ZbN;rw [dif_pos h,decide_eq_true h1,h2];rfl
theorem Znx {l:List Tok} {n k:Nat} (h1:n<=k) (h2:k<l.length):(ZaK l n).take (k+1-n)=(ZaK l n).take (k-n)++[⟨l[k].kind,l[k].text,l[k].spaced && decide (n<k),[]⟩]:=by
 have hl:(ZaK l n).length=l.length-n:=Zcp l n
 have hk:k-n<(ZaK l n).length:=by omega
 rw [show k+1-n=k-n+1 by omega,List.take_succ_eq_append_getElem hk,Zki]
 have e:n+(k-n)=k:=by omega
 simp only [e]
 have e2:decide (0<k-n)=decide (n<k):=decide_eq_decide.2 (by omega)
 rw [e2]
def MOf (l:List Tok) (w:World) (e:Ending) (w':World):Prop:=
 ∃ (cs:List Value) (fp:List Nat),e=.returned (.tuple #[.agg cs.toArray,.bool (macOf l).2])/\sMacro.R w' cs (macOf l).1 fp/\Own w' w.heap.size fp/\Below w.heap.size w w'
theorem ZkF {l:List Tok} {w w':World} (h:macOf l=(Zb0,false)) (hb:Below w.heap.size w w'):MOf l w (.returned (.tuple #[.agg #[.string ⟨#[]⟩,.bool false,.slice none 0 0,.slice none 0 0],.bool false])) w':=
 ⟨[.string ⟨#[]⟩,.bool false,.slice none 0 0,.slice none 0 0],[],by rw [h],by rw [h];exact⟨_,_,[],[],rfl,by show (0:Nat)<=_;simp [maxLen],Zan sStr _ _ _ (by simp),Zan sTok _ _ _ (by simp),rfl⟩,Own.nil _ _,hb⟩
theorem mof_yes {l:List Tok} {m:DMacro} {w w':World} {cs:List Value} {fp:List Nat} (h:macOf l=(m,true)) (hR:sMacro.R w' cs m fp) (ho:Own w' w.heap.size fp) (hb:Below w.heap.size w w'):MOf l w (.returned (.tuple #[.agg cs.toArray,.bool true])) w':=
 ⟨cs,fp,by rw [h],by rw [h];exact hR,ho,hb⟩
theorem Zfr {α:Type} {S:Shape α} {base:Nat} {e:TypeId} {v:Value} {L:List (Elem α)} {w:World} (h:RowE S base e v L w) (hf:∀ x∈L,x.fp=[]):∃ fp,(Zaa S).R w [v] (L.map (·.d)) fp/\Own w base fp:=by
 obtain⟨fp,h1,_,h3⟩:=ZaM h.row λ x hx=>⟨h.len x hx,h.el x hx⟩
 have e0:L.flatMap (·.fp)=[]:=by rw [List.flatMap_eq_nil_iff];exact hf
 rw [e0] at h3
 exact⟨fp,h1,h3 (Own.nil _ _) (by simp)⟩
theorem Y10A1 {g:Prop} (h:g:=by
 obtain⟨x0,x1,x2,x3,x4,x5,x6,x7,x8,x9,x10,x11,x12,x13,x14,x15,x16,x17,x18,x19,x20,x21,x22,x23,x24,x25,x26,rfl⟩:=len27 hl
 obtain⟨q3,e0,e1,e2⟩:=hB
 clear hd
 simp only [fill,Qp,List.map_cons,List.map_nil] at hK ⊢
 go_wp2
 exact hK _ (λ u hu=>by simpa using hu)):g:=h
theorem Y10A2 {g:Prop} (h:g:=by
 clear hold
 have f17:xs[17]?=some (.bool false):=hd ⟨17,.guard⟩ (by simp) rfl (by decide) (by decide) (by decide) _ rfl
 clear hd
 obtain⟨x0,x1,x2,x3,x4,x5,x6,x7,x8,x9,x10,x11,x12,x13,x14,x15,x16,x17,x18,x19,x20,x21,x22,x23,x24,x25,x26,hxs⟩:=len27 hl
 have g17:x17=.bool false:=by rw [hxs] at f17;simpa using f17
 rw [g17] at hxs
 clear hl f17 g17
 refine sw_skip ?_ (hK _ (λ u hu=>by simp at hu))
 rw [hxs]
 kernel_rfl):g:=h
theorem Y10A3 {g:Prop} (h:g:=by
 clear hv
 have z0:=Qc 0 HZ.out
 have zf0:=Qf 0 HZ.out
 have z1:=Qc 1 HZ.out
 have zf1:=Qf 1 HZ.out
 have z2:=Qc 2 HZ.out
 have zf2:=Qf 2 HZ.out
 have z3:=Qc 3 HZ.out
 have zf3:=Qf 3 HZ.out
 have HS:=Qh (Zah (Zah (Zah (Zah HZ.out 0 (.string ⟨#[]⟩)) 1 (.bool false)) 2 (.slice none 0 0)) 3 (.slice none 0 0))
 have HBF:=Qh ((((hB2.setCell (p:=⟨w.heap.size,0,none⟩) (Nat.le_refl _) (.string ⟨#[]⟩)).setCell (p:=⟨w.heap.size,1,none⟩) (Nat.le_refl _) (.bool false)).setCell (p:=⟨w.heap.size,2,none⟩) (Nat.le_refl _) (.slice none 0 0)).setCell (p:=⟨w.heap.size,3,none⟩) (Nat.le_refl _) (.slice none 0 0))
 go_wp2
 refine bodyPost_ret (Zap rfl _ _ w.heap.size _ _ _ _ rfl HS.out Tryz.underlying70 rfl (by kernel_rfl)) rfl ?_
 exact ZkF HF.out HBF.out):g:=h
theorem Y10A4 {g:Prop} (h:g:=by
 clear hold
 have f17:xs[17]?=some (.bool true):=hd ⟨17,.guard⟩ (by simp) rfl (by decide) (by decide) (by decide) _ rfl
 clear hd
 obtain⟨x0,x1,x2,x3,x4,x5,x6,x7,x8,x9,x10,x11,x12,x13,x14,x15,x16,x17,x18,x19,x20,x21,x22,x23,x24,x25,x26,hxs⟩:=len27 hl
 have g17:x17=.bool true:=by rw [hxs] at f17;simpa using f17
 rw [g17] at hxs
 clear hl f17 g17
 obtain⟨q3,e0,e1,e2⟩:=hB
 simp only [hxs,fill,Act.put,List.map_cons,List.map_nil,List.setIfInBounds_toArray,List.set_cons_succ,List.set_cons_zero] at hK ⊢
 refine Ze2 (by kernel_rfl) ?_
 go_wp2
 exact hK _ (λ u hu=>by simpa using hu)):g:=h
theorem Y10A5 {g:Prop} (h:g:=by
 obtain⟨x0,x1,x2,x3,x4,x5,x6,x7,x8,x9,x10,x11,x12,x13,x14,x15,x16,x17,x18,x19,x20,x21,x22,x23,x24,x25,x26,rfl⟩:=len27 hl
 obtain rfl:x12=.slice (some ⟨b1,off1,none⟩) l.length cap:=by simpa using hd ⟨12,.data⟩ (by simp) rfl (by decide) (by decide) (by decide) _ rfl
 obtain rfl:x13=.int .i64 (k:Int):=by simpa using hd ⟨13,.data⟩ (by simp) rfl (by decide) (by decide) (by decide) _ rfl
 obtain⟨q3,e0,e1,e2⟩:=hB
 clear hd
 simp only [fill,Qp,List.map_cons,List.map_nil] at hK ⊢
 go_wp2
 exact hK _ (λ u hu=>by simpa using hu)):g:=h
theorem Y10A6 {g:Prop} (h:g:=by
 obtain⟨x0,x1,x2,x3,x4,x5,x6,x7,x8,x9,x10,x11,x12,x13,x14,x15,x16,x17,x18,x19,x20,x21,x22,x23,x24,x25,x26,rfl⟩:=len27 hl
 obtain rfl:x2=.slice (some ⟨b1,off1,none⟩) l.length cap:=by simpa using hd ⟨2,.data⟩ (by simp) rfl (by decide) (by decide) (by decide) _ rfl
 obtain rfl:x3=.int .i64 (k:Int):=by simpa using hd ⟨3,.data⟩ (by simp) rfl (by decide) (by decide) (by decide) _ rfl
 obtain⟨q3,e0,e1,e2⟩:=hB
 clear hd
 simp only [fill,Qp,List.map_cons,List.map_nil] at hK ⊢
 go_wp2
 exact hK _ (λ u hu=>by simpa using hu)):g:=h
theorem Y10A7 {g:Prop} (h:g:=by
 obtain⟨x0,x1,x2,x3,x4,x5,x6,x7,x8,x9,x10,x11,x12,x13,x14,x15,x16,x17,x18,x19,x20,x21,x22,x23,x24,x25,x26,rfl⟩:=len27 hl
 obtain rfl:x7=.slice (some ⟨b1,off1,none⟩) l.length cap:=by simpa using hd ⟨7,.data⟩ (by simp) rfl (by decide) (by decide) (by decide) _ rfl
 obtain rfl:x8=.int .i64 (k:Int):=by simpa using hd ⟨8,.data⟩ (by simp) rfl (by decide) (by decide) (by decide) _ rfl
 obtain⟨q3,e0,e1,e2⟩:=hB
 clear hd
 simp only [fill,Qp,List.map_cons,List.map_nil] at hK ⊢
 go_wp2
 exact hK _ (λ u hu=>by simpa using hu)):g:=h
theorem Y10A8 {g:Prop} (h:g:=by
 have kb:∀ b,b<wc.heap.size->u.heap[b]?=wr.heap[b]?:=λ b hb=>hg.block b (show b<wr.heap.size by omega) (λ he=>by have:=hown b he.symm;omega)
 exact⟨(World.cell?_of_block (a:=⟨w2.heap.size,3,none⟩) (kb w2.heap.size (by omega))).trans q3,(World.cell?_of_block (a:=⟨b1,off1+k * 4,none⟩) (kb b1 (by omega))).trans e0,(World.cell?_of_block (a:=⟨b1,off1+k * 4+1,none⟩) (kb b1 (by omega))).trans e1,(World.cell?_of_block (a:=⟨b1,off1+k * 4+2,none⟩) (kb b1 (by omega))).trans e2⟩):g:=h
theorem Y10A9 {g:Prop} (h:g:=by
 obtain⟨x0,x1,x2,x3,x4,x5,x6,x7,x8,x9,x10,x11,x12,x13,x14,x15,x16,x17,x18,x19,x20,x21,x22,x23,x24,x25,x26,rfl⟩:=len27 hl
 obtain rfl:x10=.pointer (some ⟨b1,off1+k * 4+1,none⟩):=by simpa using hd ⟨10,.data⟩ (by simp) rfl (by decide) (by decide) (by decide) _ rfl
 obtain⟨q3,e0,e1,e2⟩:=hB
 clear hd
 simp only [fill,Qp,List.map_cons,List.map_nil] at hK ⊢
 go_wp2
 exact hK _ (λ u hu=>by simpa using hu)):g:=h
theorem Y10A10 {g:Prop} (h:g:=by
 obtain⟨x0,x1,x2,x3,x4,x5,x6,x7,x8,x9,x10,x11,x12,x13,x14,x15,x16,x17,x18,x19,x20,x21,x22,x23,x24,x25,x26,rfl⟩:=len27 hl
 obtain rfl:x15=.pointer (some ⟨b1,off1+k * 4+2,none⟩):=by simpa using hd ⟨15,.data⟩ (by simp) rfl (by decide) (by decide) (by decide) _ rfl
 obtain⟨q3,e0,e1,e2⟩:=hB
 clear hd
 simp only [fill,Qp,List.map_cons,List.map_nil] at hK ⊢
 go_wp2
 exact hK _ (λ u hu=>by simpa using hu)):g:=h
theorem Y10A11 {g:Prop} (h:g:=by
 obtain⟨x0,x1,x2,x3,x4,x5,x6,x7,x8,x9,x10,x11,x12,x13,x14,x15,x16,x17,x18,x19,x20,x21,x22,x23,x24,x25,x26,rfl⟩:=len27 hl
 obtain rfl:x14=.pointer (some ⟨b1,off1+k * 4,none⟩):=by simpa using hd ⟨14,.data⟩ (by simp) rfl (by decide) (by decide) (by decide) _ rfl
 obtain⟨q3,e0,e1,e2⟩:=hB
 clear hd
 simp only [fill,Qp,List.map_cons,List.map_nil] at hK ⊢
 go_wp2
 exact hK _ (λ u hu=>by simpa using hu)):g:=h
theorem Y10A12 {g:Prop} (h:g:=by
 obtain⟨x0,x1,x2,x3,x4,x5,x6,x7,x8,x9,x10,x11,x12,x13,x14,x15,x16,x17,x18,x19,x20,x21,x22,x23,x24,x25,x26,rfl⟩:=len27 hl
 obtain rfl:x4=.pointer (some ⟨b1,off1+k * 4,none⟩):=by simpa using hd ⟨4,.data⟩ (by simp) rfl (by decide) (by decide) (by decide) _ rfl
 obtain⟨q3,e0,e1,e2⟩:=hB
 clear hd
 simp only [fill,Qp,List.map_cons,List.map_nil] at hK ⊢
 go_wp2
 exact hK _ (λ u hu=>by simpa using hu)):g:=h
theorem ZkG (v:Value) (l:List Tok) (fp:List Nat) (w:World) (hl:l.length<=1048576) (hx:∀ k,(hk:k<l.length)->l[k].hidden.length<=2000000) (H:(Zaa sTok).R w [v] l fp) :
  Calls Tryz.prog 85 #[v] w (MOf l w):=by
 have hz0:=Zab w (.cells #[.string ⟨#[]⟩,.bool false,.slice none 0 0,.slice none 0 0] 70)
 have HZ:=Qh (heap_alloc_new w (.cells #[.string ⟨#[]⟩,.bool false,.slice none 0 0,.slice none 0 0] 70))
 have HCP:=Qh (ZfR v l fp _ hl hx ((Zaa sTok).below H hz0))
 clear H hx
 go_enter Tryz.func85,Tryz.ntmps85
 go_wp2_with fail
 refine HCP.out.mono ?_
 rintro e w1 ⟨v1,fp1,rfl,HL,hb1⟩
 have hB1:=hz0.trans (hb1.mono hz0.size)
 replace HZ:=Qh (mbox HZ.out hb1)
 clear hb1 hz0 HCP
 have HV:=Qh (Zbg v1 l fp1 w1 HL)
 obtain⟨a,cap,rfl,hc,hm,hrow⟩:=Zac HL
 unfold maxLen at hm
 go_wp2_with fail
 refine HV.out.mono ?_
 rintro e w2 ⟨rfl,hb2⟩
 have hB2:=hB1.trans (hb2.mono hB1.size)
 replace HZ:=Qh (mbox HZ.out hb2)
 have HLL:=Qh ((Zaa sTok).below HL hb2)
 clear HL HV
 cases hv:Zaj l
 ·have HF:=Qh (of_no hv)
  exact Y10A3
 by_cases h0:0<l.length
 rotate_left
 ·have HF:=Qh (of_nil h0)
  have hz:l.length=0:=by omega
  have hz1:((l.length:Int)==0)=true:=by simp [List.length_eq_zero_iff.1 hz]
  exact Y10A3
 have hl60:=(Zam hv).1
 have hz1:((l.length:Int)==0)=false:=by simp;intro h;rw [h] at h0;exact absurd h0 (by simp)
 have hz2:(0:Int)<(l.length:Int):=by omega
 obtain⟨b1,off1,fps1,rfl,hb1w,-,he1⟩:=hrow h0
 obtain⟨nm,HNM⟩:∃ s:ByteArray,Hid (s=(l[0]'h0).text):=⟨_,rfl⟩
 have HEL:Hid (∀ i,(hi:i<l.length)->∃ hh,ElemAt w2 b1 off1 4 i [.int .i64 l[i].kind,.string l[i].text,.bool l[i].spaced,hh]/\okInt l[i].kind/\okStr l[i].text):=λ i hi=>by
  obtain⟨es,hE,hR⟩:=he1 i hi
  obtain⟨hh,rfl,k1,k2,-⟩:=hR
  exact⟨hh,hE.frame (hb2.block b1 hb1w),k1,k2⟩
 have hb1s:b1<w2.heap.size:=Nat.lt_of_lt_of_le hb1w hb2.size
 have hb1l:w1.heap.size<=w2.heap.size:=hb2.size
 have okn:okStr nm:=by rw [HNM.out];obtain⟨_,_,_,h⟩:=HEL.out 0 h0;exact h
 clear hrow he1 hb2
 have c01:w2.cell? ⟨b1,off1+1,none⟩=some (.string nm):=by
  rw [HNM.out]
  obtain⟨hh,hE,_,_⟩:=HEL.out 0 h0
  have:=Zae (i:=0) (j:=1) hE (by decide) rfl
  simpa using this
 have hbx:=Zab w2 (.cells #[.string nm,.bool false,.slice none 0 0,.slice none 0 0] 70)
 have HMX:=Qh (heap_alloc_new w2 (.cells #[.string nm,.bool false,.slice none 0 0,.slice none 0 0] 70))
 have hs2:(w2.alloc (.cells #[.string nm,.bool false,.slice none 0 0,.slice none 0 0] 70)).heap.size=w2.heap.size+1:=Array.size_push _
 have HS2:=Qh hs2
 have hBX:=hB2.trans (hbx.mono hB2.size)
 have HZX:=Qh (mbox HZ.out hbx)
 have hg0:=mlt HZ.out
 have HLX:=Qh ((Zaa sTok).below HLL.out hbx)
 have HVD:=Qh hv
 have HX1:1<l.length->((w2.alloc (.cells #[.string nm,.bool false,.slice none 0 0,.slice none 0 0] 70)).cell? ⟨b1,off1+4+1,none⟩=some (.string (l[1]?.getD (⟨0,⟨#[]⟩,false,[]⟩:Tok)).text)/\(w2.alloc (.cells #[.string nm,.bool false,.slice none 0 0,.slice none 0 0] 70)).cell? ⟨b1,off1+4+2,none⟩=some (.bool (l[1]?.getD (⟨0,⟨#[]⟩,false,[]⟩:Tok)).spaced)):=λ h1=>by
  obtain⟨hh,hE,_,_⟩:=HEL.out 1 h1
  have hE':=hE.frame (hbx.block b1 hb1s)
  rw [List.getElem?_eq_getElem h1]
  exact⟨by have:=Zae (i:=1) (j:=1) hE' (by decide) rfl;simpa using this,by have:=Zae (i:=1) (j:=2) hE' (by decide) rfl;simpa using this⟩
 replace HX1:=Qh HX1
 clear hv hs2
 go_upto_region 6 with fail
 go_cut [41] from 25 to 41 (λ c wx=>c=.bool (ZbN l)/\wx=(w2.alloc (.cells #[.string nm,.bool false,.slice none 0 0,.slice none 0 0] 70)))
 case first =>
  by_cases h1:1<l.length
  ·have h11:(1:Int)<(l.length:Int):=by omega
   obtain⟨c11,c12⟩:=HX1.out h1
   rw [List.getElem?_eq_getElem h1] at c11 c12
   simp only [Option.getD_some] at c11 c12
   by_cases h2:l[1].text=openB
   ·have e2:=txt_t (l:=[40]) h2
    cases h3:l[1].spaced
    ·rw [h3] at c12
     have HO:=Qh (op_yes h1 h2 h3)
     clear h2 h3
     go_wp2
     go_meet
     case rel=>exact⟨by rw [HO.out],rfl⟩
    ·rw [h3] at c12
     have HO:=Qh (Znw h1 h3)
     clear h2 h3
     go_wp2
     go_meet
     case rel=>exact⟨by rw [HO.out],rfl⟩
   ·have e2:=txt_f (l:=[40]) h2
    have HO:=Qh (op_other h1 h2)
    clear h2
    go_wp2
    go_meet
    case rel=>exact⟨by rw [HO.out],rfl⟩
  ·have h11:¬ (1:Int)<(l.length:Int):=by omega
   have HO:=Qh (op_short h1)
   go_wp2
   go_meet
   case rel=>exact⟨by rw [HO.out],rfl⟩
 case rest =>
  obtain⟨rfl,rfl⟩:=hcut
  go_upto_if 41 with fail
  go_cut [5] from 6 to 54 (λ c wx=>∃ (n:Nat) (fn:Bool) (ap:Option Addr) (cp:Nat) (ps:List ByteArray) (fpp:List Nat),c=.int .i64 n/\n<=l.length/\Hid (macOf l=Zb1 ⟨nm,fn,ps,ZaK l n⟩)/\Hid (wx.heap[w2.heap.size]?=some (.cells #[.string nm,.bool fn,.slice ap ps.length cp,.slice none 0 0] 70 (0,0)))/\Hid ((Zaa sStr).R wx [.slice ap ps.length cp] ps fpp)/\Hid (Own wx (w2.heap.size+1) fpp)/\Hid (Kept [w2.heap.size] (w2.alloc (.cells #[.string nm,.bool false,.slice none 0 0,.slice none 0 0] 70)) wx))
  case first =>
   have HPP:=Qh (ZjV _ l _ _ hl60 HLX.out)
   cases ho:ZbN l
   ·have HF:=Qh (of_plain HVD.out h0 ho)
    rw [← HNM.out] at HF
    clear ho
    go_wp2
    go_meet
    case rel=>exact⟨1,false,none,0,[],[],rfl,by omega,HF,HMX.out,Zan sStr _ _ _ (by simp),Own.nil _ _,Kept.refl _ _⟩
   ·have HOP:=Qh ho
    clear ho
    cases hp:Zbl l with
    |
     none =>
     unfold PMade at HPP
     rw [ZeQ hp] at HPP
     have HF:=Qh (of_pno HVD.out h0 HOP.out hp)
     clear hp
     go_wp2_with fail
     refine HPP.out.mono ?_
     rintro e w3 ⟨pv,fpp,rfl,-,-,hb3⟩
     have hB3:=hBX.trans (hb3.mono hBX.size)
     have HZ3:=Qh (mbox HZX.out hb3)
     clear hb3
     have z0:=Qc 0 HZ3.out
     have zf0:=Qf 0 HZ3.out
     have z1:=Qc 1 HZ3.out
     have zf1:=Qf 1 HZ3.out
     have z2:=Qc 2 HZ3.out
     have zf2:=Qf 2 HZ3.out
     have z3:=Qc 3 HZ3.out
     have zf3:=Qf 3 HZ3.out
     have HS:=Qh (Zah (Zah (Zah (Zah HZ3.out 0 (.string ⟨#[]⟩)) 1 (.bool false)) 2 (.slice none 0 0)) 3 (.slice none 0 0))
     have HBF:=Qh ((((hB3.setCell (p:=⟨w.heap.size,0,none⟩) (Nat.le_refl _) (.string ⟨#[]⟩)).setCell (p:=⟨w.heap.size,1,none⟩) (Nat.le_refl _) (.bool false)).setCell (p:=⟨w.heap.size,2,none⟩) (Nat.le_refl _) (.slice none 0 0)).setCell (p:=⟨w.heap.size,3,none⟩) (Nat.le_refl _) (.slice none 0 0))
     go_wp2
     refine bodyPost_ret (Zap rfl _ _ w.heap.size _ _ _ _ rfl HS.out Tryz.underlying70 rfl (by kernel_rfl)) rfl ?_
     exact ZkF HF.out HBF.out
    |
     some p =>
     obtain⟨ps,n⟩:=p
     have hnl:n<=l.length:=pars_le hp
     unfold PMade at HPP
     rw [ZeP hp] at HPP
     have HF:=Qh (of_pars HVD.out h0 HOP.out hp)
     rw [← HNM.out] at HF
     clear hp
     go_wp2_with fail
     refine HPP.out.mono ?_
     rintro e w3 ⟨pv,fpp,rfl,hPR,hPO,hb3⟩
     rw [HS2.out] at hPO
     have HM3:=mbox HMX.out hb3
     obtain⟨ap,cp,rfl,-⟩:=Zaf hPR
     have hn1:w2.heap.size∉fpp:=λ hx=>by have:=(hPO.2 _ hx).1;omega
     have c31:=Qc 1 HM3
     have c32:=Qc 2 HM3
     have f31:=Qf 1 HM3
     have f32:=Qf 2 HM3
     have HMF:=Qh (Zah (Zah HM3 1 (.bool true)) 2 (.slice ap ps.length cp))
     have HPF:=Qh ((Zaa sStr).setB ((Zaa sStr).setB hPR hn1 1 (.bool true)) hn1 2 (.slice ap ps.length cp))
     have HOF:=Qh ((hPO.setCell ⟨w2.heap.size,1,none⟩ (.bool true)).setCell ⟨w2.heap.size,2,none⟩ (.slice ap ps.length cp))
     have HKF:=Qh (((Kept.of_below (fp:=[w2.heap.size]) hb3).setCell (p:=⟨w2.heap.size,1,none⟩) (by simp) (.bool true)).setCell (p:=⟨w2.heap.size,2,none⟩) (by simp) (.slice ap ps.length cp))
     have hneg:¬ (n:Int)<0:=by omega
     clear hPR hPO HM3 hb3 hn1
     go_wp2
     go_meet
     case rel=>exact⟨n,true,ap,cp,ps,fpp,rfl,hnl,HF,HMF.out,HPF,HOF,HKF⟩
  case rest =>
   obtain⟨n,fn,ap,cp,ps,fpp,rfl,hn,HF,HM,HP,HO,HK⟩:=hcut
   have hsz:=HK.out.size
   rw [HS2.out] at hsz
   have HBc:=Qh (hBX.trans (HK.out.below (lo:=w.heap.size) (by intro b hb;have e:b=w2.heap.size:=(by simpa using hb);omega) (by rw [HS2.out];omega)))
   have HZc:=Qh ((HK.out.block w.heap.size (by rw [HS2.out];omega) (by simp;omega)).trans HZX.out)
   have HEc:Hid (∀ i,(hi:i<l.length)->∃ hh,ElemAt wc b1 off1 4 i [.int .i64 l[i].kind,.string l[i].text,.bool l[i].spaced,hh]/\okInt l[i].kind/\okStr l[i].text):=λ i hi=>by
    obtain⟨hh,hE,k1,k2⟩:=HEL.out i hi
    exact⟨hh,(hE.frame (hbx.block b1 hb1s)).frame (HK.out.block b1 (by rw [HS2.out];omega) (by simp;omega)),k1,k2⟩
   have HE0:=Qh (RowE.nil sTok wc.heap.size 57 wc)
   have HPlt:Hid (∀ b∈fpp,b<wc.heap.size):=(Zaa sStr).lt HP.out
   have HPn:Hid (w2.heap.size∉fpp):=λ hx=>by have:=(HO.out.2 _ hx).1;omega
   clear HEL HLX HMX HZX HX1 HLL HZ hbx hBX hB1 hB2 c01 HK HVD
   go_wp2_with fail
   go_loopw [8] (λ i wr=>∃ (k:Nat) (vb:Value) (L:List (Elem Tok)),n<=k/\k<=l.length/\i=.int .i64 k/\Hid (L.length=k-n)/\Hid (wr.heap[w2.heap.size]?=some (.cells #[.string nm,.bool fn,.slice ap ps.length cp,vb] 70 (0,0)))/\Hid (RowE sTok wc.heap.size 57 vb L wr)/\Hid (L.map (·.d)=(ZaK l n).take (k-n))/\Hid (∀ x∈L,x.fp=[])/\Hid (Kept [w2.heap.size] wc wr)) (λ i _=>l.length-(intOf i).toNat)
   case atStart=>exact⟨n,_,[],by omega,hn,rfl,by show _=_;simp,HM,HE0,by show _=_;simp,by intro x hx;simp at hx,Kept.refl _ _⟩
   case round =>
    obtain⟨k,vb,L,hnk,hkl,rfl,HLn,HMr,HE,HD,HFP,HKr⟩:=hrel
    obtain⟨ab,cb,rfl,-⟩:=HE.out.val
    have hszr:=HKr.out.size
    by_cases hlt:k<l.length
    ·obtain⟨hh,hE,ki,ks⟩:=HEc.out k hlt
     have hEr:=hE.frame (HKr.out.block b1 (by omega) (by simp;omega))
     have q3:=Qc 3 HMr.out
     have e0:wr.cell? ⟨b1,off1+k * 4,none⟩=some (.int .i64 l[k].kind):=Zao hEr (by decide) rfl
     have e1:wr.cell? ⟨b1,off1+k * 4+1,none⟩=some (.string l[k].text):=Zae (j:=1) hEr (by decide) rfl
     have e2:wr.cell? ⟨b1,off1+k * 4+2,none⟩=some (.bool l[k].spaced):=Zae (j:=2) hEr (by decide) rfl
     have HKI:=Qh (And.intro ki ks)
     have HT:=Qh (Znx hnk hlt)
     have HEd:Hid (RowE sTok wc.heap.size 57 (.slice ab L.length cb) L ({ wr with drawn:=wr.drawn+1 }:World)):=HE.out.same λ _ _ _=>rfl
     have hown:∀ b,(Value.slice ab L.length cb).ownBlock=some b->wc.heap.size<=b:=HE.out.mine
     clear hE hEr hh ki ks
     cases hsp:l[k].spaced
     ·rw [hsp] at e2 HT
      clear hsp
      go_wp2
      refine ZfM (P:=Tryz.prog) (by kernel_rfl) (by kernel_rfl) 23 24 26 (by kernel_rfl) (by kernel_rfl) (by decide) (by decide) rfl rfl rfl [some (.pointer (some ⟨w2.heap.size,3,none⟩)),some (.slice ab L.length cb),some (.slice (some ⟨b1,off1,none⟩) l.length cap),some (.int .i64 (k:Int)),some (.pointer (some ⟨b1,off1+k * 4,none⟩)),some (.pointer (some ⟨b1,off1+k * 4,none⟩)),some (.int .i64 l[k].kind),some (.slice (some ⟨b1,off1,none⟩) l.length cap),some (.int .i64 (k:Int)),some (.pointer (some ⟨b1,off1+k * 4,none⟩)),some (.pointer (some ⟨b1,off1+k * 4+1,none⟩)),some (.string l[k].text),some (.slice (some ⟨b1,off1,none⟩) l.length cap),some (.int .i64 (k:Int)),some (.pointer (some ⟨b1,off1+k * 4,none⟩)),some (.pointer (some ⟨b1,off1+k * 4+2,none⟩)),some (.bool false),some (.bool false),none,none,none,some (.bool false),some (.agg #[.int .i64 l[k].kind,.string l[k].text,.bool false,.slice none 0 0]),none,none,some (.pointer (some ⟨w2.heap.size,3,none⟩)),none] (.slice (some ⟨wr.heap.size,0,none⟩) 1 1) ((({ wr with drawn:=wr.drawn+1 }:World).alloc (.cells #[.int .i64 l[k].kind,.string l[k].text,.bool false,.slice none 0 0] 57))) (λ v u=>RowE sTok wc.heap.size 57 v (L++[(⟨[.int .i64 l[k].kind,.string l[k].text,.bool false,.slice none 0 0],⟨l[k].kind,l[k].text,false,[]⟩,[]⟩:Elem Tok)]) u/\({ wr with drawn:=wr.drawn+1 }:World).grownBy u (Value.slice ab L.length cb).ownBlock) (λ v u=>∃ u2,(RowE sTok wc.heap.size 57 v (L++[(⟨[.int .i64 l[k].kind,.string l[k].text,.bool false,.slice none 0 0],⟨l[k].kind,l[k].text,false,[]⟩,[]⟩:Elem Tok)]) u2/\({ wr with drawn:=wr.drawn+1 }:World).grownBy u2 (Value.slice ab L.length cb).ownBlock)/\u=u2.setCell ⟨w2.heap.size,3,none⟩ v) (λ u=>u.cell? ⟨w2.heap.size,3,none⟩=some (.slice ab L.length cb)/\u.cell? ⟨b1,off1+k * 4,none⟩=some (.int .i64 l[k].kind)/\u.cell? ⟨b1,off1+k * 4+1,none⟩=some (.string l[k].text)/\u.cell? ⟨b1,off1+k * 4+2,none⟩=some (.bool false)) ?b0 ?b1 ?b2 (ZkE ⟨.inr (.inr (.inr ?s0)),.inr (.inr (.inr ?s1)),.inr (.inr (.inr ?s2)),.inr (.inr (.inr ?s3)),.inr (.inr (.inr ?s4)),.inr (.inr (.inr ?s5)),.inr (.inr (.inr ?s6)),.inr (.inr (.inr ?s7)),.inr (.inr (.inr ?s8)),.inr (.inr (.inr ?s9)),.inr (.inr (.inr ?s10)),.inr (.inr (.inr ?s11)),.inr (.inr (.inr ?s12)),.inr (.inr (.inr ?s13)),.inr (.inr (.inr ?s14)),.inr (.inr (.inr ?s15)),.inr (.inr (.inr ?s16)),.inr (.inr (.inr ?s17)),.inr (.inr (.inr ?s18)),.inr (.inr (.inr ?s19)),.inr (.inr (.inr ?s20)),.inr (.inr (.inr ?s21)),.inr (.inr (.inr ?s22)),.inl rfl,.inr (.inl rfl),.inr (.inr (.inr ?s25)),.inr (.inr (.inl rfl)),trivial⟩) ?sA ?sB ?sC ?done
      case b0 =>
       exact⟨q3,e0,e1,e2⟩
      case b1 =>
       have hbb:=Zab ({ wr with drawn:=wr.drawn+1 }:World) (.cells #[.int .i64 l[k].kind,.string l[k].text,.bool false,.slice none 0 0] 57)
       exact⟨(hbb.cell (p:=⟨w2.heap.size,3,none⟩) (show w2.heap.size<wr.heap.size by omega)).trans q3,(hbb.cell (p:=⟨b1,off1+k * 4,none⟩) (show b1<wr.heap.size by omega)).trans e0,(hbb.cell (p:=⟨b1,off1+k * 4+1,none⟩) (show b1<wr.heap.size by omega)).trans e1,(hbb.cell (p:=⟨b1,off1+k * 4+2,none⟩) (show b1<wr.heap.size by omega)).trans e2⟩
      case b2 =>
       rintro v u ⟨-,hg⟩
       exact Y10A8
      case s0 =>
       intro xs w' hl _ hd hB K hK
       exact Y10A1
      case s1 =>
       intro xs w' hl _ hd hB K hK
       obtain⟨x0,x1,x2,x3,x4,x5,x6,x7,x8,x9,x10,x11,x12,x13,x14,x15,x16,x17,x18,x19,x20,x21,x22,x23,x24,x25,x26,rfl⟩:=len27 hl
       obtain rfl:x0=.pointer (some ⟨w2.heap.size,3,none⟩):=by simpa using hd ⟨0,.data⟩ (by simp) rfl (by decide) (by decide) (by decide) _ rfl
       obtain⟨q3,e0,e1,e2⟩:=hB
       clear hd
       simp only [fill,Qp,List.map_cons,List.map_nil] at hK ⊢
       go_wp2
       exact hK _ (λ u hu=>by simpa using hu)
      case s2 =>
       intro xs w' hl _ hd hB K hK
       exact Y10A1
      case s3 =>
       intro xs w' hl _ hd hB K hK
       exact Y10A1
      case s4 =>
       intro xs w' hl _ hd hB K hK
       exact Y10A6
      case s5 =>
       intro xs w' hl _ hd hB K hK
       exact Y10A12
      case s6 =>
       intro xs w' hl _ hd hB K hK
       obtain⟨x0,x1,x2,x3,x4,x5,x6,x7,x8,x9,x10,x11,x12,x13,x14,x15,x16,x17,x18,x19,x20,x21,x22,x23,x24,x25,x26,rfl⟩:=len27 hl
       obtain rfl:x5=.pointer (some ⟨b1,off1+k * 4,none⟩):=by simpa using hd ⟨5,.data⟩ (by simp) rfl (by decide) (by decide) (by decide) _ rfl
       obtain⟨q3,e0,e1,e2⟩:=hB
       clear hd
       simp only [fill,Qp,List.map_cons,List.map_nil] at hK ⊢
       go_wp2
       exact hK _ (λ u hu=>by simpa using hu)
      case s7 =>
       intro xs w' hl _ hd hB K hK
       exact Y10A1
      case s8 =>
       intro xs w' hl _ hd hB K hK
       exact Y10A1
      case s9 =>
       intro xs w' hl _ hd hB K hK
       exact Y10A7
      case s10 =>
       intro xs w' hl _ hd hB K hK
       obtain⟨x0,x1,x2,x3,x4,x5,x6,x7,x8,x9,x10,x11,x12,x13,x14,x15,x16,x17,x18,x19,x20,x21,x22,x23,x24,x25,x26,rfl⟩:=len27 hl
       obtain rfl:x9=.pointer (some ⟨b1,off1+k * 4,none⟩):=by simpa using hd ⟨9,.data⟩ (by simp) rfl (by decide) (by decide) (by decide) _ rfl
       obtain⟨q3,e0,e1,e2⟩:=hB
       clear hd
       simp only [fill,Qp,List.map_cons,List.map_nil] at hK ⊢
       go_wp2
       exact hK _ (λ u hu=>by simpa using hu)
      case s11 =>
       intro xs w' hl _ hd hB K hK
       exact Y10A9
      case s12 =>
       intro xs w' hl _ hd hB K hK
       exact Y10A1
      case s13 =>
       intro xs w' hl _ hd hB K hK
       exact Y10A1
      case s14 =>
       intro xs w' hl _ hd hB K hK
       exact Y10A5
      case s15 =>
       intro xs w' hl _ hd hB K hK
       exact Y10A11
      case s16 =>
       intro xs w' hl _ hd hB K hK
       exact Y10A10
      case s17 =>
       intro xs w' hl _ hd hB K hK
       obtain⟨x0,x1,x2,x3,x4,x5,x6,x7,x8,x9,x10,x11,x12,x13,x14,x15,x16,x17,x18,x19,x20,x21,x22,x23,x24,x25,x26,rfl⟩:=len27 hl
       obtain rfl:x16=.bool false:=by simpa using hd ⟨16,.data⟩ (by simp) rfl (by decide) (by decide) (by decide) _ rfl
       obtain⟨q3,e0,e1,e2⟩:=hB
       clear hd
       simp only [fill,Qp,List.map_cons,List.map_nil] at hK ⊢
       go_wp2
       exact hK _ (λ u hu=>by simpa using hu)
      case s18 =>
       intro xs w' hl hold hd hB K hK
       exact Y10A2
      case s19 =>
       intro xs w' hl hold hd hB K hK
       exact Y10A2
      case s20 =>
       intro xs w' hl hold hd hB K hK
       exact Y10A2
      case s21 =>
       intro xs w' hl _ hd hB K hK
       obtain⟨x0,x1,x2,x3,x4,x5,x6,x7,x8,x9,x10,x11,x12,x13,x14,x15,x16,x17,x18,x19,x20,x21,x22,x23,x24,x25,x26,rfl⟩:=len27 hl
       obtain rfl:x17=.bool false:=by simpa using hd ⟨17,.data⟩ (by simp) rfl (by decide) (by decide) (by decide) _ rfl
       obtain⟨q3,e0,e1,e2⟩:=hB
       clear hd
       simp only [fill,Qp,List.map_cons,List.map_nil] at hK ⊢
       go_wp2
       exact hK _ (λ u hu=>by simpa using hu)
      case s22 =>
       intro xs w' hl _ hd hB K hK
       obtain⟨x0,x1,x2,x3,x4,x5,x6,x7,x8,x9,x10,x11,x12,x13,x14,x15,x16,x17,x18,x19,x20,x21,x22,x23,x24,x25,x26,rfl⟩:=len27 hl
       obtain rfl:x6=.int .i64 l[k].kind:=by simpa using hd ⟨6,.data⟩ (by simp) rfl (by decide) (by decide) (by decide) _ rfl
       obtain rfl:x11=.string l[k].text:=by simpa using hd ⟨11,.data⟩ (by simp) rfl (by decide) (by decide) (by decide) _ rfl
       obtain rfl:x21=.bool false:=by simpa using hd ⟨21,.data⟩ (by simp) rfl (by decide) (by decide) (by decide) _ rfl
       obtain⟨q3,e0,e1,e2⟩:=hB
       clear hd
       simp only [fill,Qp,List.map_cons,List.map_nil] at hK ⊢
       go_wp2
       exact hK _ (λ u hu=>by simpa using hu)
      case s25 =>
       intro xs w' hl _ hd hB K hK
       exact Y10A1
      case sA =>
       intro xs hl hd K hK
       obtain⟨x0,x1,x2,x3,x4,x5,x6,x7,x8,x9,x10,x11,x12,x13,x14,x15,x16,x17,x18,x19,x20,x21,x22,x23,x24,x25,x26,rfl⟩:=len27 hl
       obtain rfl:x22=.agg #[.int .i64 l[k].kind,.string l[k].text,.bool false,.slice none 0 0]:=by simpa using hd ⟨22,.data⟩ (by simp) rfl (by decide) (by decide) (by decide) _ rfl
       clear hd
       simp only [fill,Qp,List.map_cons,List.map_nil] at hK ⊢
       go_wp2
       exact hK
      case sB =>
       intro xs hl hd hva K hK
       obtain⟨x0,x1,x2,x3,x4,x5,x6,x7,x8,x9,x10,x11,x12,x13,x14,x15,x16,x17,x18,x19,x20,x21,x22,x23,x24,x25,x26,rfl⟩:=len27 hl
       obtain rfl:x1=.slice ab L.length cb:=by simpa using hd ⟨1,.data⟩ (by simp) rfl (by decide) (by decide) (by decide) _ rfl
       obtain rfl:x23=.slice (some ⟨wr.heap.size,0,none⟩) 1 1:=by simpa using hva
       clear hd
       simp only [fill,Qp,List.map_cons,List.map_nil] at hK ⊢
       refine Zb2 rfl (.tmp 62) (.tmp 84) rfl wc.heap.size (.slice ab L.length cb) L rfl HEd.out l[k].kind l[k].text false none 0 0 [] [] rfl ⟨_,rfl,HKI.out.1,HKI.out.2,Zan sStr _ _ _ (by simp)⟩ (by simp) (by simp) (by have:=HLn.out;omega) (by show wc.heap.size<=wr.heap.size;omega) ?_
       intro v' u' h1 h2
       exact hK v' u' ⟨h1,h2⟩
      case sC =>
       intro xs v w2u hl hd hvb hApp K hK
       obtain⟨x0,x1,x2,x3,x4,x5,x6,x7,x8,x9,x10,x11,x12,x13,x14,x15,x16,x17,x18,x19,x20,x21,x22,x23,x24,x25,x26,rfl⟩:=len27 hl
       obtain rfl:x25=.pointer (some ⟨w2.heap.size,3,none⟩):=by simpa using hd ⟨25,.data⟩ (by simp) rfl (by decide) (by decide) (by decide) _ rfl
       obtain rfl:x24=v:=by simpa using hvb
       clear hd
       simp only [fill,Qp,List.map_cons,List.map_nil] at hK ⊢
       obtain⟨hA,hg⟩:=hApp
       obtain⟨av,cv,hvv,-⟩:=hA.val
       rw [List.length_append,show ([(⟨[.int .i64 l[k].kind,.string l[k].text,.bool false,.slice none 0 0],⟨l[k].kind,l[k].text,false,[]⟩,[]⟩:Elem Tok)]:List (Elem Tok)).length=1 from rfl] at hvv
       subst hvv
       have hMu:=(hg.block w2.heap.size (show w2.heap.size<wr.heap.size by omega) (λ he=>by have:=hown _ he.symm;omega)).trans HMr.out
       have c3:=Qc 3 hMu
       have f3:=Qf 3 hMu
       go_wp2
       exact hK undef _ ⟨_,⟨hA,hg⟩,rfl⟩
      case done =>
       intro xs v w3 hl hd hva hvb hFin
       obtain⟨x0,x1,x2,x3,x4,x5,x6,x7,x8,x9,x10,x11,x12,x13,x14,x15,x16,x17,x18,x19,x20,x21,x22,x23,x24,x25,x26,rfl⟩:=len27 hl
       clear hd hva hvb
       simp only [fill,Qp,List.map_cons,List.map_nil]
       obtain⟨u,⟨hA,hg⟩,rfl⟩:=hFin
       have kb:∀ b,b<wr.heap.size->(Value.slice ab L.length cb).ownBlock≠some b->u.heap[b]?=wr.heap[b]?:=λ b hb hn=>hg.block b (show b<wr.heap.size by omega) (λ he=>hn he.symm)
       have hMu:=(kb w2.heap.size (by omega) (λ he=>by have:=hown _ he;omega)).trans HMr.out
       have HM6:=Qh (Zah hMu 3 v)
       have HE6:=Qh (hA.same (w':=u.setCell ⟨w2.heap.size,3,none⟩ v) λ b hb hl=>Below.heap_setCell _ _ _ _ (by show b≠w2.heap.size;omega))
       have hus:wr.heap.size<=u.heap.size:=hg.size
       have HK6:Hid (Kept [w2.heap.size] wc (u.setCell ⟨w2.heap.size,3,none⟩ v)):=⟨by have h1:u.os=wr.os:=hg.os;exact h1.trans HKr.out.os,by have h1:u.tape=wr.tape:=hg.tape;exact h1.trans HKr.out.tape,by have h1:u.output=wr.output:=hg.output;exact h1.trans HKr.out.output,by rw [Zec];omega,λ b hb hn=>by
        have hne:b≠w2.heap.size:=by simpa using hn
        exact(Below.heap_setCell _ _ _ _ hne).trans ((kb b (by omega) (λ he=>by have:=hown _ he;omega)).trans (HKr.out.block b hb hn))⟩
       have HL6:Hid ((L++[(⟨[.int .i64 l[k].kind,.string l[k].text,.bool false,.slice none 0 0],⟨l[k].kind,l[k].text,false,[]⟩,[]⟩:Elem Tok)]).length=k+1-n):=by show _=_;rw [List.length_append,HLn.out];show _+1=_;omega
       have HD6:Hid ((L++[(⟨[.int .i64 l[k].kind,.string l[k].text,.bool false,.slice none 0 0],⟨l[k].kind,l[k].text,false,[]⟩,[]⟩:Elem Tok)]).map (·.d)=(ZaK l n).take (k+1-n)):=by show _=_;rw [HT.out,List.map_append,HD.out];simp
       have HF6:Hid (∀ x∈L++[(⟨[.int .i64 l[k].kind,.string l[k].text,.bool false,.slice none 0 0],⟨l[k].kind,l[k].text,false,[]⟩,[]⟩:Elem Tok)],x.fp=[]):=λ x hx=>by
        rcases Qa hx with h | h
        ·exact HFP.out x h
        ·obtain rfl:=Qm h;rfl
       clear hA hg kb hMu HMr HE HD HFP HKr HLn HT q3 e0 e1 e2
       go_wp2
       go_roundw
       case rel=>exact⟨k+1,v,_,by omega,by omega,by go_num,HL6,HM6,HE6,HD6,HF6,HK6⟩
       case measure=>simp [intOf];omega
     ·rw [hsp] at e2 HT
      clear hsp
      go_wp2
      refine ZfM (P:=Tryz.prog) (by kernel_rfl) (by kernel_rfl) 23 24 26 (by kernel_rfl) (by kernel_rfl) (by decide) (by decide) rfl rfl rfl [some (.pointer (some ⟨w2.heap.size,3,none⟩)),some (.slice ab L.length cb),some (.slice (some ⟨b1,off1,none⟩) l.length cap),some (.int .i64 (k:Int)),some (.pointer (some ⟨b1,off1+k * 4,none⟩)),some (.pointer (some ⟨b1,off1+k * 4,none⟩)),some (.int .i64 l[k].kind),some (.slice (some ⟨b1,off1,none⟩) l.length cap),some (.int .i64 (k:Int)),some (.pointer (some ⟨b1,off1+k * 4,none⟩)),some (.pointer (some ⟨b1,off1+k * 4+1,none⟩)),some (.string l[k].text),some (.slice (some ⟨b1,off1,none⟩) l.length cap),some (.int .i64 (k:Int)),some (.pointer (some ⟨b1,off1+k * 4,none⟩)),some (.pointer (some ⟨b1,off1+k * 4+2,none⟩)),some (.bool true),some (.bool true),some (.int .i64 (k:Int)),some (.int .i64 (n:Int)),some (.bool (decide (n<k))),some (.bool (decide (n<k))),some (.agg #[.int .i64 l[k].kind,.string l[k].text,.bool (decide (n<k)),.slice none 0 0]),none,none,some (.pointer (some ⟨w2.heap.size,3,none⟩)),none] (.slice (some ⟨wr.heap.size,0,none⟩) 1 1) ((({ wr with drawn:=wr.drawn+1 }:World).alloc (.cells #[.int .i64 l[k].kind,.string l[k].text,.bool (decide (n<k)),.slice none 0 0] 57))) (λ v u=>RowE sTok wc.heap.size 57 v (L++[(⟨[.int .i64 l[k].kind,.string l[k].text,.bool (decide (n<k)),.slice none 0 0],⟨l[k].kind,l[k].text,(decide (n<k)),[]⟩,[]⟩:Elem Tok)]) u/\({ wr with drawn:=wr.drawn+1 }:World).grownBy u (Value.slice ab L.length cb).ownBlock) (λ v u=>∃ u2,(RowE sTok wc.heap.size 57 v (L++[(⟨[.int .i64 l[k].kind,.string l[k].text,.bool (decide (n<k)),.slice none 0 0],⟨l[k].kind,l[k].text,(decide (n<k)),[]⟩,[]⟩:Elem Tok)]) u2/\({ wr with drawn:=wr.drawn+1 }:World).grownBy u2 (Value.slice ab L.length cb).ownBlock)/\u=u2.setCell ⟨w2.heap.size,3,none⟩ v) (λ u=>u.cell? ⟨w2.heap.size,3,none⟩=some (.slice ab L.length cb)/\u.cell? ⟨b1,off1+k * 4,none⟩=some (.int .i64 l[k].kind)/\u.cell? ⟨b1,off1+k * 4+1,none⟩=some (.string l[k].text)/\u.cell? ⟨b1,off1+k * 4+2,none⟩=some (.bool true)) ?b0 ?b1 ?b2 (ZkE ⟨.inr (.inr (.inr ?s0)),.inr (.inr (.inr ?s1)),.inr (.inr (.inr ?s2)),.inr (.inr (.inr ?s3)),.inr (.inr (.inr ?s4)),.inr (.inr (.inr ?s5)),.inr (.inr (.inr ?s6)),.inr (.inr (.inr ?s7)),.inr (.inr (.inr ?s8)),.inr (.inr (.inr ?s9)),.inr (.inr (.inr ?s10)),.inr (.inr (.inr ?s11)),.inr (.inr (.inr ?s12)),.inr (.inr (.inr ?s13)),.inr (.inr (.inr ?s14)),.inr (.inr (.inr ?s15)),.inr (.inr (.inr ?s16)),.inr (.inr (.inr ?s17)),.inr (.inr (.inr ?s18)),.inr (.inr (.inr ?s19)),.inr (.inr (.inr ?s20)),.inr (.inr (.inr ?s21)),.inr (.inr (.inr ?s22)),.inl rfl,.inr (.inl rfl),.inr (.inr (.inr ?s25)),.inr (.inr (.inl rfl)),trivial⟩) ?sA ?sB ?sC ?done
      case b0 =>
       exact⟨q3,e0,e1,e2⟩
      case b1 =>
       have hbb:=Zab ({ wr with drawn:=wr.drawn+1 }:World) (.cells #[.int .i64 l[k].kind,.string l[k].text,.bool (decide (n<k)),.slice none 0 0] 57)
       exact⟨(hbb.cell (p:=⟨w2.heap.size,3,none⟩) (show w2.heap.size<wr.heap.size by omega)).trans q3,(hbb.cell (p:=⟨b1,off1+k * 4,none⟩) (show b1<wr.heap.size by omega)).trans e0,(hbb.cell (p:=⟨b1,off1+k * 4+1,none⟩) (show b1<wr.heap.size by omega)).trans e1,(hbb.cell (p:=⟨b1,off1+k * 4+2,none⟩) (show b1<wr.heap.size by omega)).trans e2⟩
      case b2 =>
       rintro v u ⟨-,hg⟩
       exact Y10A8
      case s0 =>
       intro xs w' hl _ hd hB K hK
       exact Y10A1
      case s1 =>
       intro xs w' hl _ hd hB K hK
       obtain⟨x0,x1,x2,x3,x4,x5,x6,x7,x8,x9,x10,x11,x12,x13,x14,x15,x16,x17,x18,x19,x20,x21,x22,x23,x24,x25,x26,rfl⟩:=len27 hl
       obtain rfl:x0=.pointer (some ⟨w2.heap.size,3,none⟩):=by simpa using hd ⟨0,.data⟩ (by simp) rfl (by decide) (by decide) (by decide) _ rfl
       obtain⟨q3,e0,e1,e2⟩:=hB
       clear hd
       simp only [fill,Qp,List.map_cons,List.map_nil] at hK ⊢
       go_wp2
       exact hK _ (λ u hu=>by simpa using hu)
      case s2 =>
       intro xs w' hl _ hd hB K hK
       exact Y10A1
      case s3 =>
       intro xs w' hl _ hd hB K hK
       exact Y10A1
      case s4 =>
       intro xs w' hl _ hd hB K hK
       exact Y10A6
      case s5 =>
       intro xs w' hl _ hd hB K hK
       exact Y10A12
      case s6 =>
       intro xs w' hl _ hd hB K hK
       obtain⟨x0,x1,x2,x3,x4,x5,x6,x7,x8,x9,x10,x11,x12,x13,x14,x15,x16,x17,x18,x19,x20,x21,x22,x23,x24,x25,x26,rfl⟩:=len27 hl
       obtain rfl:x5=.pointer (some ⟨b1,off1+k * 4,none⟩):=by simpa using hd ⟨5,.data⟩ (by simp) rfl (by decide) (by decide) (by decide) _ rfl
       obtain⟨q3,e0,e1,e2⟩:=hB
       clear hd
       simp only [fill,Qp,List.map_cons,List.map_nil] at hK ⊢
       go_wp2
       exact hK _ (λ u hu=>by simpa using hu)
      case s7 =>
       intro xs w' hl _ hd hB K hK
       exact Y10A1
      case s8 =>
       intro xs w' hl _ hd hB K hK
       exact Y10A1
      case s9 =>
       intro xs w' hl _ hd hB K hK
       exact Y10A7
      case s10 =>
       intro xs w' hl _ hd hB K hK
       obtain⟨x0,x1,x2,x3,x4,x5,x6,x7,x8,x9,x10,x11,x12,x13,x14,x15,x16,x17,x18,x19,x20,x21,x22,x23,x24,x25,x26,rfl⟩:=len27 hl
       obtain rfl:x9=.pointer (some ⟨b1,off1+k * 4,none⟩):=by simpa using hd ⟨9,.data⟩ (by simp) rfl (by decide) (by decide) (by decide) _ rfl
       obtain⟨q3,e0,e1,e2⟩:=hB
       clear hd
       simp only [fill,Qp,List.map_cons,List.map_nil] at hK ⊢
       go_wp2
       exact hK _ (λ u hu=>by simpa using hu)
      case s11 =>
       intro xs w' hl _ hd hB K hK
       exact Y10A9
      case s12 =>
       intro xs w' hl _ hd hB K hK
       exact Y10A1
      case s13 =>
       intro xs w' hl _ hd hB K hK
       exact Y10A1
      case s14 =>
       intro xs w' hl _ hd hB K hK
       exact Y10A5
      case s15 =>
       intro xs w' hl _ hd hB K hK
       exact Y10A11
      case s16 =>
       intro xs w' hl _ hd hB K hK
       exact Y10A10
      case s17 =>
       intro xs w' hl _ hd hB K hK
       obtain⟨x0,x1,x2,x3,x4,x5,x6,x7,x8,x9,x10,x11,x12,x13,x14,x15,x16,x17,x18,x19,x20,x21,x22,x23,x24,x25,x26,rfl⟩:=len27 hl
       obtain rfl:x16=.bool true:=by simpa using hd ⟨16,.data⟩ (by simp) rfl (by decide) (by decide) (by decide) _ rfl
       obtain⟨q3,e0,e1,e2⟩:=hB
       clear hd
       simp only [fill,Qp,List.map_cons,List.map_nil] at hK ⊢
       go_wp2
       exact hK _ (λ u hu=>by simpa using hu)
      case s18 =>
       intro xs w' hl hold hd hB K hK
       exact Y10A4
      case s19 =>
       intro xs w' hl hold hd hB K hK
       exact Y10A4
      case s20 =>
       intro xs w' hl hold hd hB K hK
       clear hold
       have f18:xs[18]?=some (.int .i64 (k:Int)):=hd ⟨18,.data⟩ (by simp) rfl (by decide) (by decide) (by decide) _ rfl
       have f19:xs[19]?=some (.int .i64 (n:Int)):=hd ⟨19,.data⟩ (by simp) rfl (by decide) (by decide) (by decide) _ rfl
       have f17:xs[17]?=some (.bool true):=hd ⟨17,.guard⟩ (by simp) rfl (by decide) (by decide) (by decide) _ rfl
       clear hd
       obtain⟨x0,x1,x2,x3,x4,x5,x6,x7,x8,x9,x10,x11,x12,x13,x14,x15,x16,x17,x18,x19,x20,x21,x22,x23,x24,x25,x26,hxs⟩:=len27 hl
       have g18:x18=.int .i64 (k:Int):=by rw [hxs] at f18;simpa using f18
       have g19:x19=.int .i64 (n:Int):=by rw [hxs] at f19;simpa using f19
       have g17:x17=.bool true:=by rw [hxs] at f17;simpa using f17
       rw [g18,g19,g17] at hxs
       clear hl f18 g18 f19 g19 f17 g17
       obtain⟨q3,e0,e1,e2⟩:=hB
       simp only [hxs,fill,Act.put,List.map_cons,List.map_nil,List.setIfInBounds_toArray,List.set_cons_succ,List.set_cons_zero] at hK ⊢
       refine Ze2 (by kernel_rfl) ?_
       go_wp2
       exact hK _ (λ u hu=>by simpa using hu)
      case s21 =>
       intro xs w' hl _ hd hB K hK
       obtain⟨x0,x1,x2,x3,x4,x5,x6,x7,x8,x9,x10,x11,x12,x13,x14,x15,x16,x17,x18,x19,x20,x21,x22,x23,x24,x25,x26,rfl⟩:=len27 hl
       obtain rfl:x17=.bool true:=by simpa using hd ⟨17,.data⟩ (by simp) rfl (by decide) (by decide) (by decide) _ rfl
       obtain rfl:x20=.bool (decide (n<k)):=by simpa using hd ⟨20,.data⟩ (by simp) rfl (by decide) (by decide) (by decide) _ rfl
       obtain⟨q3,e0,e1,e2⟩:=hB
       clear hd
       simp only [fill,Qp,List.map_cons,List.map_nil] at hK ⊢
       go_wp2
       exact hK _ (λ u hu=>by simpa using hu)
      case s22 =>
       intro xs w' hl _ hd hB K hK
       obtain⟨x0,x1,x2,x3,x4,x5,x6,x7,x8,x9,x10,x11,x12,x13,x14,x15,x16,x17,x18,x19,x20,x21,x22,x23,x24,x25,x26,rfl⟩:=len27 hl
       obtain rfl:x6=.int .i64 l[k].kind:=by simpa using hd ⟨6,.data⟩ (by simp) rfl (by decide) (by decide) (by decide) _ rfl
       obtain rfl:x11=.string l[k].text:=by simpa using hd ⟨11,.data⟩ (by simp) rfl (by decide) (by decide) (by decide) _ rfl
       obtain rfl:x21=.bool (decide (n<k)):=by simpa using hd ⟨21,.data⟩ (by simp) rfl (by decide) (by decide) (by decide) _ rfl
       obtain⟨q3,e0,e1,e2⟩:=hB
       clear hd
       simp only [fill,Qp,List.map_cons,List.map_nil] at hK ⊢
       go_wp2
       exact hK _ (λ u hu=>by simpa using hu)
      case s25 =>
       intro xs w' hl _ hd hB K hK
       exact Y10A1
      case sA =>
       intro xs hl hd K hK
       obtain⟨x0,x1,x2,x3,x4,x5,x6,x7,x8,x9,x10,x11,x12,x13,x14,x15,x16,x17,x18,x19,x20,x21,x22,x23,x24,x25,x26,rfl⟩:=len27 hl
       obtain rfl:x22=.agg #[.int .i64 l[k].kind,.string l[k].text,.bool (decide (n<k)),.slice none 0 0]:=by simpa using hd ⟨22,.data⟩ (by simp) rfl (by decide) (by decide) (by decide) _ rfl
       clear hd
       simp only [fill,Qp,List.map_cons,List.map_nil] at hK ⊢
       go_wp2
       exact hK
      case sB =>
       intro xs hl hd hva K hK
       obtain⟨x0,x1,x2,x3,x4,x5,x6,x7,x8,x9,x10,x11,x12,x13,x14,x15,x16,x17,x18,x19,x20,x21,x22,x23,x24,x25,x26,rfl⟩:=len27 hl
       obtain rfl:x1=.slice ab L.length cb:=by simpa using hd ⟨1,.data⟩ (by simp) rfl (by decide) (by decide) (by decide) _ rfl
       obtain rfl:x23=.slice (some ⟨wr.heap.size,0,none⟩) 1 1:=by simpa using hva
       clear hd
       simp only [fill,Qp,List.map_cons,List.map_nil] at hK ⊢
       refine Zb2 rfl (.tmp 62) (.tmp 84) rfl wc.heap.size (.slice ab L.length cb) L rfl HEd.out l[k].kind l[k].text (decide (n<k)) none 0 0 [] [] rfl ⟨_,rfl,HKI.out.1,HKI.out.2,Zan sStr _ _ _ (by simp)⟩ (by simp) (by simp) (by have:=HLn.out;omega) (by show wc.heap.size<=wr.heap.size;omega) ?_
       intro v' u' h1 h2
       exact hK v' u' ⟨h1,h2⟩
      case sC =>
       intro xs v w2u hl hd hvb hApp K hK
       obtain⟨x0,x1,x2,x3,x4,x5,x6,x7,x8,x9,x10,x11,x12,x13,x14,x15,x16,x17,x18,x19,x20,x21,x22,x23,x24,x25,x26,rfl⟩:=len27 hl
       obtain rfl:x25=.pointer (some ⟨w2.heap.size,3,none⟩):=by simpa using hd ⟨25,.data⟩ (by simp) rfl (by decide) (by decide) (by decide) _ rfl
       obtain rfl:x24=v:=by simpa using hvb
       clear hd
       simp only [fill,Qp,List.map_cons,List.map_nil] at hK ⊢
       obtain⟨hA,hg⟩:=hApp
       obtain⟨av,cv,hvv,-⟩:=hA.val
       rw [List.length_append,show ([(⟨[.int .i64 l[k].kind,.string l[k].text,.bool (decide (n<k)),.slice none 0 0],⟨l[k].kind,l[k].text,(decide (n<k)),[]⟩,[]⟩:Elem Tok)]:List (Elem Tok)).length=1 from rfl] at hvv
       subst hvv
       have hMu:=(hg.block w2.heap.size (show w2.heap.size<wr.heap.size by omega) (λ he=>by have:=hown _ he.symm;omega)).trans HMr.out
       have c3:=Qc 3 hMu
       have f3:=Qf 3 hMu
       go_wp2
       exact hK undef _ ⟨_,⟨hA,hg⟩,rfl⟩
      case done =>
       intro xs v w3 hl hd hva hvb hFin
       obtain⟨x0,x1,x2,x3,x4,x5,x6,x7,x8,x9,x10,x11,x12,x13,x14,x15,x16,x17,x18,x19,x20,x21,x22,x23,x24,x25,x26,rfl⟩:=len27 hl
       clear hd hva hvb
       simp only [fill,Qp,List.map_cons,List.map_nil]
       obtain⟨u,⟨hA,hg⟩,rfl⟩:=hFin
       have kb:∀ b,b<wr.heap.size->(Value.slice ab L.length cb).ownBlock≠some b->u.heap[b]?=wr.heap[b]?:=λ b hb hn=>hg.block b (show b<wr.heap.size by omega) (λ he=>hn he.symm)
       have hMu:=(kb w2.heap.size (by omega) (λ he=>by have:=hown _ he;omega)).trans HMr.out
       have HM6:=Qh (Zah hMu 3 v)
       have HE6:=Qh (hA.same (w':=u.setCell ⟨w2.heap.size,3,none⟩ v) λ b hb hl=>Below.heap_setCell _ _ _ _ (by show b≠w2.heap.size;omega))
       have hus:wr.heap.size<=u.heap.size:=hg.size
       have HK6:Hid (Kept [w2.heap.size] wc (u.setCell ⟨w2.heap.size,3,none⟩ v)):=⟨by have h1:u.os=wr.os:=hg.os;exact h1.trans HKr.out.os,by have h1:u.tape=wr.tape:=hg.tape;exact h1.trans HKr.out.tape,by have h1:u.output=wr.output:=hg.output;exact h1.trans HKr.out.output,by rw [Zec];omega,λ b hb hn=>by
        have hne:b≠w2.heap.size:=by simpa using hn
        exact(Below.heap_setCell _ _ _ _ hne).trans ((kb b (by omega) (λ he=>by have:=hown _ he;omega)).trans (HKr.out.block b hb hn))⟩
       have HL6:Hid ((L++[(⟨[.int .i64 l[k].kind,.string l[k].text,.bool (decide (n<k)),.slice none 0 0],⟨l[k].kind,l[k].text,(decide (n<k)),[]⟩,[]⟩:Elem Tok)]).length=k+1-n):=by show _=_;rw [List.length_append,HLn.out];show _+1=_;omega
       have HD6:Hid ((L++[(⟨[.int .i64 l[k].kind,.string l[k].text,.bool (decide (n<k)),.slice none 0 0],⟨l[k].kind,l[k].text,(decide (n<k)),[]⟩,[]⟩:Elem Tok)]).map (·.d)=(ZaK l n).take (k+1-n)):=by show _=_;rw [HT.out,List.map_append,HD.out];simp
       have HF6:Hid (∀ x∈L++[(⟨[.int .i64 l[k].kind,.string l[k].text,.bool (decide (n<k)),.slice none 0 0],⟨l[k].kind,l[k].text,(decide (n<k)),[]⟩,[]⟩:Elem Tok)],x.fp=[]):=λ x hx=>by
        rcases Qa hx with h | h
        ·exact HFP.out x h
        ·obtain rfl:=Qm h;rfl
       clear hA hg kb hMu HMr HE HD HFP HKr HLn HT q3 e0 e1 e2
       go_wp2
       go_roundw
       case rel=>exact⟨k+1,v,_,by omega,by omega,by go_num,HL6,HM6,HE6,HD6,HF6,HK6⟩
       case measure=>simp [intOf];omega
    ·have hkl':k=l.length:=by omega
     have hd:=HD.out
     rw [List.take_of_length_le (by rw [Zcp];omega)] at hd
     obtain⟨fpb,hRB,hOB⟩:=Zfr HE.out HFP.out
     rw [hd] at hRB
     have hP:=(Zaa sStr).kept HP.out (λ b hb hx=>HPn.out (by have e:b=w2.heap.size:=(by simpa using hx);exact e ▸ hb)) HKr.out
     have hO:=HO.out.kept (λ b hb hx=>HPn.out (by have e:b=w2.heap.size:=(by simpa using hx);exact e ▸ hb)) HKr.out
     have hap:∀ b∈fpp,b∉fpb:=λ b h1 h2=>by have h3:=HPlt.out b h1;have h4:=(hOB.2 b h2).1;omega
     have HR:Hid (sMacro.R wr [.string nm,.bool fn,.slice ap ps.length cp,.slice ab L.length cb] ⟨nm,fn,ps,ZaK l n⟩ (fpp++fpb)):=⟨_,_,fpp,fpb,rfl,okn,hP,hRB,rfl⟩
     have HOO:=Qh (Own.app (hO.lower (by omega:w.heap.size<=_)) (hOB.lower (by omega:w.heap.size<=_)) hap)
     have hnw:w.heap.size∉fpp++fpb:=λ hx=>by
      rcases Qa hx with h | h
      ·have:=(HO.out.2 _ h).1;omega
      ·have:=(hOB.2 _ h).1;omega
     have HBr:=Qh (HBc.out.trans (HKr.out.below (lo:=w.heap.size) (by intro b hb;have e:b=w2.heap.size:=(by simpa using hb);omega) (by omega)))
     have HZr:=Qh ((HKr.out.block w.heap.size (by omega) (by simp;omega)).trans HZc.out)
     have q0:=Qc 0 HMr.out
     have q1:=Qc 1 HMr.out
     have q2:=Qc 2 HMr.out
     have q3:=Qc 3 HMr.out
     clear hd hRB hOB hP hO hap HEc HD HE HFP HKr HLn
     go_wp2_with fail
     refine (Zck _ _ _ _ HR.out).mono ?_
     rintro e w5 ⟨rfl,hb5⟩
     have hB5:=HBr.out.trans (hb5.mono HBr.out.size)
     have HZ5:=Qh (mbox HZr.out hb5)
     have HM5:=Qh (mbox HMr.out hb5)
     have HR5:=Qh (sMacro.below HR.out hb5)
     have HO5:=Qh (HOO.out.grow hb5)
     clear q0 q1 q2 q3 hb5 HR HOO HZr HMr
     cases hok:macOk ⟨nm,fn,ps,ZaK l n⟩
     ·have HFF:=Qh (HF.out.trans (chk_no hok))
      clear hok
      have z0:=Qc 0 HZ5.out
      have zf0:=Qf 0 HZ5.out
      have z1:=Qc 1 HZ5.out
      have zf1:=Qf 1 HZ5.out
      have z2:=Qc 2 HZ5.out
      have zf2:=Qf 2 HZ5.out
      have z3:=Qc 3 HZ5.out
      have zf3:=Qf 3 HZ5.out
      have HS:=Qh (Zah (Zah (Zah (Zah HZ5.out 0 (.string ⟨#[]⟩)) 1 (.bool false)) 2 (.slice none 0 0)) 3 (.slice none 0 0))
      have HBF:=Qh ((((hB5.setCell (p:=⟨w.heap.size,0,none⟩) (Nat.le_refl _) (.string ⟨#[]⟩)).setCell (p:=⟨w.heap.size,1,none⟩) (Nat.le_refl _) (.bool false)).setCell (p:=⟨w.heap.size,2,none⟩) (Nat.le_refl _) (.slice none 0 0)).setCell (p:=⟨w.heap.size,3,none⟩) (Nat.le_refl _) (.slice none 0 0))
      go_wp2
      refine bodyPost_ret (Zap rfl _ _ w.heap.size _ _ _ _ rfl HS.out Tryz.underlying70 rfl (by kernel_rfl)) rfl ?_
      exact ZkF HFF.out HBF.out
     ·have HFF:=Qh (HF.out.trans (chk_yes hok))
      clear hok
      have q0:=Qc 0 HM5.out
      have q1:=Qc 1 HM5.out
      have q2:=Qc 2 HM5.out
      have q3:=Qc 3 HM5.out
      have z0:=Qc 0 HZ5.out
      have z1:=Qc 1 HZ5.out
      have z2:=Qc 2 HZ5.out
      have z3:=Qc 3 HZ5.out
      have zf0:=Qf 0 HZ5.out
      have zf1:=Qf 1 HZ5.out
      have zf2:=Qf 2 HZ5.out
      have zf3:=Qf 3 HZ5.out
      have HS:=Qh (Zah (Zah (Zah (Zah HZ5.out 0 (.string nm)) 1 (.bool fn)) 2 (.slice ap ps.length cp)) 3 (.slice ab L.length cb))
      have HBF:=Qh ((((hB5.setCell (p:=⟨w.heap.size,0,none⟩) (Nat.le_refl _) (.string nm)).setCell (p:=⟨w.heap.size,1,none⟩) (Nat.le_refl _) (.bool fn)).setCell (p:=⟨w.heap.size,2,none⟩) (Nat.le_refl _) (.slice ap ps.length cp)).setCell (p:=⟨w.heap.size,3,none⟩) (Nat.le_refl _) (.slice ab L.length cb))
      have HRF:=Qh (sMacro.setB (sMacro.setB (sMacro.setB (sMacro.setB HR5.out hnw 0 (.string nm)) hnw 1 (.bool fn)) hnw 2 (.slice ap ps.length cp)) hnw 3 (.slice ab L.length cb))
      have HOF:=Qh ((((HO5.out.setCell ⟨w.heap.size,0,none⟩ (.string nm)).setCell ⟨w.heap.size,1,none⟩ (.bool fn)).setCell ⟨w.heap.size,2,none⟩ (.slice ap ps.length cp)).setCell ⟨w.heap.size,3,none⟩ (.slice ab L.length cb))
      clear HR5 HO5 HM5 HZ5 hB5
      go_wp2
      refine bodyPost_ret (Zap rfl _ _ w.heap.size _ _ _ _ rfl HS.out Tryz.underlying70 rfl (by kernel_rfl)) rfl ?_
      exact mof_yes (cs:=[.string nm,.bool fn,.slice ap ps.length cp,.slice ab L.length cb]) HFF.out HRF.out HOF.out HBF.out
abbrev BldAt (B b:Nat) (p:Value) (bs:List Value) (w:World):Prop:=Lib.BuilderAtF 89 5 B b p bs w
abbrev IsBld (B b:Nat) (bs:List Value) (w:World):Prop:=Lib.IsBuilderF 89 5 B b bs w
def BldTo (B b:Nat) (bs:List Value) (w w':World):Prop:=
 BldAt B b (.pointer (some ⟨b,0,none⟩)) bs w'/\Below B w w'/\Lib.OthersKept 5 (some b) w w'
theorem Zhi:∃ j,Tryz.prog.info? 89=some j/\j.size=2:=by
 have h:(Tryz.prog.info? 89).map (·.size)=some 2:=by kernel_rfl
 exact Option.map_eq_some_iff.1 h
theorem bld_lies:liesAt Tryz.prog Tryz.prog.depth 89 (2 / Tryz.prog.cellsOf 89) 0 89 1=true:=by kernel_rfl
theorem Zjt:∃ i,Tryz.prog.info? 5=some i/\i.zero=some (.int .u8 0)/\i.size=1/\i.bytes=1:=by
 have h:(Tryz.prog.info? 5).map (λ i=>(i.zero,i.size,i.bytes))=some (some (.int .u8 0),1,1):=by kernel_rfl
 obtain⟨i,h1,h2⟩:=Option.map_eq_some_iff.1 h
 simp only [Prod.mk.injEq] at h2
 exact⟨i,h1,h2.1,h2.2.1,h2.2.2⟩
theorem Zmb (b:Nat) (w:World):(binOp .neq 87 (.pointer (some ⟨b,0,none⟩)) (.pointer (some ⟨b,0,none⟩))).run Tryz.prog w=.ok (.bool false) w:=by
 obtain⟨j,hj,_⟩:=Zhi
 exact Lib.run_neq_ptr_same w _ Tryz.underlying87 hj
theorem Zny (b:Nat) (w:World) (hsh:w.shape? b=some (89,2)):(convert 87 144 (.pointer (some ⟨b,0,none⟩))).run Tryz.prog w=.ok (.pointer (some ⟨b,0,none⟩)) w:=by
 obtain⟨j,hj,hjs⟩:=Zhi
 exact Lib.run_to_unsafe w ⟨b,0,none⟩ Tryz.underlying87 Tryz.underlying144 hj (by rw [hjs];decide) hsh (Nat.zero_lt_succ 1)
theorem ZlF (b:Nat) (w:World) (hsh:w.shape? b=some (89,2)):(convert 144 87 (.pointer (some ⟨b,0,none⟩))).run Tryz.prog w=.ok (.pointer (some ⟨b,0,none⟩)) w:=by
 obtain⟨j,hj,hjs⟩:=Zhi
 exact Lib.run_from_unsafe w ⟨b,0,none⟩ Tryz.underlying144 Tryz.underlying87 hj hsh bld_lies
theorem Znz (b:Nat) (w:World):(callFunc 116 #[.pointer (some ⟨b,0,none⟩)]).run Tryz.prog w=.ok (.value (.pointer (some ⟨b,0,none⟩))) w:=by
 rw [run_callFunc_extern Tryz.func116 (by kernel_rfl) (by kernel_rfl) (by kernel_rfl) (e:=Extern.AbiNoEscape.same) (by kernel_rfl),Lib.run_noEscape]
 rfl
theorem ZmR (b:Nat) (w:World) (h0:w.cell? ⟨b,0,none⟩=some (.pointer (some ⟨b,0,none⟩))) :
  Calls Tryz.prog 87 #[.pointer (some ⟨b,0,none⟩)] w λ e w'=>e=.returned (.tuple #[])/\w'=w:=by
 have r1:=Zmb b w
 go_enter Tryz.func87,Tryz.ntmps87
 go_wp2
 go_end0
 exact⟨rfl,rfl⟩
theorem ZlG (b:Nat) (w:World) (h0:w.cell? ⟨b,0,none⟩=some (.pointer none)) (hsh:w.shape? b=some (89,2)) (hfz:w.frozen? ⟨b,0,none⟩=false) :
  Calls Tryz.prog 87 #[.pointer (some ⟨b,0,none⟩)] w λ e w'=>e=.returned (.tuple #[])/\w'=w.setCell ⟨b,0,none⟩ (.pointer (some ⟨b,0,none⟩)):=by
 have r1:=Zny b w hsh
 have r2:=Znz b w
 have r3:=ZlF b w hsh
 have c0:(w.setCell ⟨b,0,none⟩ (.pointer (some ⟨b,0,none⟩))).cell? ⟨b,0,none⟩=some (.pointer (some ⟨b,0,none⟩)):=World.cell?_setCell_same _ _ _ h0
 have r4:=Zmb b (w.setCell ⟨b,0,none⟩ (.pointer (some ⟨b,0,none⟩)))
 go_enter Tryz.func87,Tryz.ntmps87
 go_wp2
 go_end0
 exact⟨rfl,rfl⟩
theorem Zju (B b:Nat) (bs:List Value) (w:World) (h:IsBld B b bs w) :
  Calls Tryz.prog 87 #[.pointer (some ⟨b,0,none⟩)] w λ e w'=>e=.returned (.tuple #[])/\BldTo B b bs w w':=by
 rcases h with h | h
 ·refine (ZlG b w h.cell0 h.shape h.frozen0).mono ?_
  rintro e w' ⟨rfl,rfl⟩
  exact⟨rfl,h.used _,(Below.refl B w).setCell (p:=⟨b,0,none⟩) h.1 _,(Lib.OthersKept.refl _ _ w).setCell ⟨b,0,none⟩ rfl _⟩
 ·refine (ZmR b w h.cell0).mono ?_
  rintro e w' ⟨rfl,rfl⟩
  exact⟨rfl,h,Below.refl B _,Lib.OthersKept.refl _ _ _⟩
theorem ZkH (B b:Nat) (bs:List Value) (c:Int) (w:World) (h:IsBld B b bs w) (hlen:bs.length<=1048576) (hBw:B<=w.heap.size) :
  Calls Tryz.prog 53 #[.pointer (some ⟨b,0,none⟩),.int .u8 c] w λ e w'=>e=.returned .nilIface/\BldTo B b (bs++[.int .u8 c]) w w':=by
 obtain⟨i0,hi,hz0,hz1,hz2⟩:=Zjt
 go_enter Tryz.func53,Tryz.ntmps53
 go_wp2_with fail
 refine (Zju B b bs _ h).mono ?_
 rintro e w1 ⟨rfl,⟨hB,v,hbk,hown,hne⟩,hb1,hk1⟩
 have c0:w1.cell? ⟨b,0,none⟩=some (.pointer (some ⟨b,0,none⟩)):=by rw [Lib.cell_of_heap hbk];rfl
 have c1:w1.cell? ⟨b,1,none⟩=some v:=by rw [Lib.cell_of_heap hbk];rfl
 have hs1:=hb1.size
 go_wp2_with (at_builtin;refine wpList_append_ownF _ rfl _ _ 22 rfl B 5 i0 (.int .u8 0) 1 1 Tryz.underlying22 hi hz0 hz1 hz2 rfl (by decide) v bs.length bs rfl (hown.alloc _) ⟨w1.heap.size,0,none⟩ 1 1 [.int .u8 c] rfl rfl ?c1 ?c2 ?c3 ?c4 ?c5 ?_)
 case c1 =>
  intro j u hj
  match j,hj with
  | 0,hj=>simp at hj;subst hj;simp [Addr.add]
 case c2=>intro u hu;simp at hu;subst hu;rfl
 case c3=>unfold maxLen;omega
 case c4=>omega
 case c5=>simp;omega
 intro v' w2 hown' hgrow _
 have hlt:b<w1.heap.size:=(Qg hbk).1
 have hb2:w2.heap[b]?=some (.cells #[.pointer (some ⟨b,0,none⟩),v] 89 (0,0)):=by
  rw [hgrow.block b (by simp;omega) (λ e=>hne e.symm),Lib.alloc_old w1 _ b hlt]
  exact hbk
 have d0:w2.cell? ⟨b,0,none⟩=some (.pointer (some ⟨b,0,none⟩)):=by rw [Lib.cell_of_heap hb2];rfl
 have d1:w2.cell? ⟨b,1,none⟩=some v:=by rw [Lib.cell_of_heap hb2];rfl
 have f1:w2.frozen? ⟨b,1,none⟩=false:=Lib.frozen_of_heap hb2 1
 obtain⟨g,cap,rfl⟩:∃ g cap,v'=.slice (some ⟨g,0,none⟩) (bs.length+1) cap:=by
  rcases hown'.2 with⟨_,h0⟩ | ⟨g,cap,cur,fz,hv,_⟩
  ·omega
  ·exact⟨g,cap,hv⟩
 have HA:Hid (BldTo B b (bs++[.int .u8 c]) w (w2.setCell ⟨b,1,none⟩ (.slice (some ⟨g,0,none⟩) (bs.length+1) cap))):=by
  refine ⟨Lib.BuilderAtF.put (T:=89) (e:=5) hB hb2 (bs':=bs++[.int .u8 c]) (by simpa using hown') (by decide),?_,((hk1.alloc _).grown hgrow (Lib.ownsRowF_kind (hown.alloc _))).setCell ⟨b,1,none⟩ rfl _⟩
  exact((hb1.alloc (by omega) _).grown hgrow (by simp;omega) (λ k hk=>(hown.lt k hk).1)).setCell (p:=⟨b,1,none⟩) hB _
 clear hown hown' hgrow hbk hb2 hb1 hk1
 go_wp2
 go_ret
 exact⟨rfl,HA.out⟩
theorem bld_text (B b:Nat) (bs:List Value) (s:ByteArray) (w:World) (h:IsBld B b bs w) (hlen:bs.length+s.size<=140737488355328) (hBw:B<=w.heap.size) :
  Calls Tryz.prog 54 #[.pointer (some ⟨b,0,none⟩),.string s] w λ e w'=>e=.returned (.tuple #[.int .i64 s.size,.nilIface])/\BldTo B b (bs++Lib.strCells s) w w':=by
 obtain⟨i0,hi,hz0,hz1,hz2⟩:=Zjt
 go_enter Tryz.func54,Tryz.ntmps54
 go_wp2_with fail
 refine (Zju B b bs _ h).mono ?_
 rintro e w1 ⟨rfl,⟨hB,v,hbk,hown,hne⟩,hb1,hk1⟩
 have c0:w1.cell? ⟨b,0,none⟩=some (.pointer (some ⟨b,0,none⟩)):=by rw [Lib.cell_of_heap hbk];rfl
 have c1:w1.cell? ⟨b,1,none⟩=some v:=by rw [Lib.cell_of_heap hbk];rfl
 have hs1:=hb1.size
 go_wp2_with (at_builtin;refine Lib.wpList_append_own_stringF _ rfl _ _ 22 9 rfl B 5 i0 Tryz.underlying22 Tryz.underlying9 hi hz0 hz1 hz2 v bs.length bs rfl hown s rfl ?c3 ?c4 ?c5 ?_)
 case c3=>unfold maxLen;omega
 case c4=>omega
 case c5=>omega
 intro v' w2 hown' hgrow _
 have hlt:b<w1.heap.size:=(Qg hbk).1
 have hb2:w2.heap[b]?=some (.cells #[.pointer (some ⟨b,0,none⟩),v] 89 (0,0)):=by
  rw [hgrow.block b hlt (λ e=>hne e.symm)]
  exact hbk
 have d0:w2.cell? ⟨b,0,none⟩=some (.pointer (some ⟨b,0,none⟩)):=by rw [Lib.cell_of_heap hb2];rfl
 have d1:w2.cell? ⟨b,1,none⟩=some v:=by rw [Lib.cell_of_heap hb2];rfl
 have f1:w2.frozen? ⟨b,1,none⟩=false:=Lib.frozen_of_heap hb2 1
 obtain⟨ao,n',cap,rfl⟩:∃ ao n' cap,v'=.slice ao n' cap:=by
  rcases hown'.2 with⟨hv,_⟩ | ⟨g,cap,cur,fz,hv,_⟩
  ·exact⟨_,_,_,hv⟩
  ·exact⟨_,_,_,hv⟩
 have HA:Hid (BldTo B b (bs++Lib.strCells s) w (w2.setCell ⟨b,1,none⟩ (.slice ao n' cap))):=by
  refine ⟨Lib.BuilderAtF.put (T:=89) (e:=5) hB hb2 (bs':=bs++Lib.strCells s) (by simpa [Lib.strCells_length] using hown') (by decide),?_,(hk1.grown hgrow (Lib.ownsRowF_kind hown)).setCell ⟨b,1,none⟩ rfl _⟩
  exact(hb1.grown hgrow (by omega) (λ k hk=>(hown.lt k hk).1)).setCell (p:=⟨b,1,none⟩) hB _
 clear hown hown' hgrow hbk hb2 hb1 hk1
 go_wp2
 go_ret2
 exact⟨rfl,HA.out⟩
def Bld (b:Nat) (s:ByteArray) (w:World):Prop:=IsBld b b (Lib.strCells s) w
theorem BldAt.below {B b:Nat} {p:Value} {bs:List Value} {w w':World} (h:BldAt B b p bs w) (hb:Below w.heap.size w w'):BldAt B b p bs w':=by
 have hlt:=h.lt
 obtain⟨hB,v,hbk,hown,hne⟩:=h
 refine ⟨hB,v,(hb.block b hlt).trans hbk,⟨hown.1,?_⟩,hne⟩
 rcases hown.2 with h0 | ⟨g,cap,cur,fz,h1,h2,h3,h4⟩
 ·exact .inl h0
 ·exact .inr ⟨g,cap,cur,fz,h1,h2,(hb.block g (Qg h3).1).trans h3,h4⟩
theorem Bld.below {b:Nat} {s:ByteArray} {w w':World} (h:Bld b s w) (hb:Below w.heap.size w w'):Bld b s w':=h.elim (λ h=>.inl (BldAt.below h hb)) (λ h=>.inr (BldAt.below h hb))
theorem Bld.fresh (w:World):Bld w.heap.size ⟨#[]⟩ (w.alloc (.cells #[.pointer none,.slice none 0 0] 89)):=
 .inl ⟨Nat.le_refl _,.slice none 0 0,heap_alloc_new w _,World.ownsRowF_nil _ _ _ _,by simp [Value.ownBlock]⟩
theorem Bld.lt {b:Nat} {s:ByteArray} {w:World} (h:Bld b s w):b<w.heap.size:=h.elim (λ h=>h.lt) (λ h=>h.lt)
theorem Bld.of {b:Nat} {bs:List Value} {s:ByteArray} {w w':World} (h:BldTo b b bs w w') (e:bs=Lib.strCells s):Bld b s w':=.inr (e ▸ h.1)
theorem ZjX (s:ByteArray):Lib.strCells s++[.int .u8 32]=Lib.strCells (s++⟨#[32]⟩):=by
 unfold Lib.strCells;rw [ByteArray.data_append,Array.toList_append,List.map_append];rfl
theorem ZkI (s t:ByteArray):Lib.strCells s++Lib.strCells t=Lib.strCells (s++t):=by
 unfold Lib.strCells;rw [ByteArray.data_append,Array.toList_append,List.map_append]
theorem ZiN {b:Nat} {s:ByteArray} {w:World} (h:Bld b s w) (hs:s.size<=1048576) :
  Calls Tryz.prog 53 #[.pointer (some ⟨b,0,none⟩),.int .u8 32] w λ e w'=>e=.returned .nilIface/\Bld b (s++⟨#[32]⟩) w'/\Below b w w'/\Lib.OthersKept 5 (some b) w w':=
 (ZkH b b _ 32 w h (by rw [Lib.strCells_length];exact hs) (Nat.le_of_lt h.lt)).mono λ e w' ⟨h1,h2⟩=>⟨h1,Bld.of h2 (ZjX s),h2.2.1,h2.2.2⟩
theorem Zdt {b:Nat} {s t:ByteArray} {w:World} (h:Bld b s w) (hs:s.size+t.size<=1048576) :
  Calls Tryz.prog 54 #[.pointer (some ⟨b,0,none⟩),.string t] w λ e w'=>e=.returned (.tuple #[.int .i64 t.size,.nilIface])/\Bld b (s++t) w'/\Below b w w'/\Lib.OthersKept 5 (some b) w w':=
 (bld_text b b _ t w h (by rw [Lib.strCells_length];omega) (Nat.le_of_lt h.lt)).mono λ e w' ⟨h1,h2⟩=>⟨h1,Bld.of h2 (ZkI s t),h2.2.1,h2.2.2⟩
theorem bldLen {b:Nat} {s:ByteArray} {w:World} (h:Bld b s w) :
  Calls Tryz.prog 55 #[.pointer (some ⟨b,0,none⟩)] w λ e w'=>e=.returned (.int .i64 s.size)/\w'=w:=by
 have:=Tryz.Builder_Len_f b b _ w h
 rw [Lib.strCells_length] at this
 exact this
theorem Zjv {b:Nat} {s:ByteArray} {w:World} (h:Bld b s w) :
  Calls Tryz.prog 56 #[.pointer (some ⟨b,0,none⟩)] w λ e w'=>e=.returned (.string s)/\Below b w w':=
 (Tryz.Builder_String_any_k b b s.data.toList w h (Nat.le_of_lt h.lt)).mono λ e w' ⟨h1,h2⟩=>⟨h1,h2.2.1⟩
theorem Zgb {b g:Nat} {arr:Array Value} {ty:TypeId} {fr:Nat × Nat} {w w':World} (hk:Lib.OthersKept 5 (some b) w w') (h:w.heap[g]?=some (.cells arr ty fr)) (hg:g≠b) (hty:ty≠5):w'.heap[g]?=some (.cells arr ty fr):=
 hk g _ h (λ e=>hg (Option.some.inj e)) (λ c fz e=>hty (by simp only [Obj.cells.injEq] at e;exact e.2.1))
theorem Zhj (v:Value) (l:List Tok) (fp:List Nat) (w:World) (H:(Zaa sTok).R w [v] l fp) :
  Calls Tryz.prog 27 #[v] w (Ze0 l w):=by
 have HV:=Qh (ZbD v l fp w H)
 obtain⟨a,cap,rfl,hc,hm,hrow⟩:=Zac H
 unfold maxLen at hm
 clear H
 cases hv:Zaj l
 ·have HF:=Qh (ZeN hv)
  rw [hv] at HV
  clear hv
  go_enter Tryz.func27,Tryz.ntmps27
  go_wp2_with (go_at_call 41;refine (HV.out).mono ?_;rintro e w1 ⟨rfl,hb1⟩)
  go_ret2
  exact Zcg HF.out hb1
 ·rw [hv] at HV
  have HOK:=Qh (Zam hv)
  have hlen:=HOK.out.1
  have HSZ:=Qh (Zf1 hv)
  have HVD:=Qh hv
  clear hv
  go_enter Tryz.func27,Tryz.ntmps27
  go_wp2_with fail
  refine (HV.out).mono ?_
  rintro e w1 ⟨rfl,hb1⟩
  have HB0:=Qh (Bld.fresh w1)
  have hb2:=hb1.trans ((Zab w1 (.cells #[.pointer none,.slice none 0 0] 89)).mono hb1.size)
  go_wp2_with fail
  go_loopw [12] (λ i wr=>∃ (k:Nat),k<=l.length/\i=.int .i64 k/\Hid (Bld w1.heap.size (prTo l k) wr)/\Below w.heap.size w wr) (λ i _=>l.length-(intOf i).toNat)
  case atStart=>exact⟨0,by omega,rfl,HB0,hb2⟩
  case round =>
   obtain⟨k,hk,rfl,HB,hb⟩:=hrel
   clear HB0 hb2
   by_cases hlt:k<l.length
   ·obtain⟨b1,off1,fps1,rfl,hb1',-,he1⟩:=hrow (by omega)
    obtain⟨es1,hE1,hR1⟩:=he1 k hlt
    have hR1':=hR1
    obtain⟨h1,rfl,-,-,K1⟩:=hR1
    obtain⟨ah,caph,rfl,-⟩:=Zac K1
    replace hE1:=hE1.frame (hb.block b1 hb1')
    have c10:wr.cell? ⟨b1,off1+k * 4,none⟩=some _:=Zao hE1 (by decide) rfl
    have c11:wr.cell? ⟨b1,off1+k * 4+1,none⟩=some _:=Zae (j:=1) hE1 (by decide) rfl
    have c12:wr.cell? ⟨b1,off1+k * 4+2,none⟩=some _:=Zae (j:=2) hE1 (by decide) rfl
    have c13:wr.cell? ⟨b1,off1+k * 4+3,none⟩=some _:=Zae (j:=3) hE1 (by decide) rfl
    have hsz1:=(Zaz (HOK.out.2 k hlt)).2
    have hso:=HSZ.out k hk
    have hbx:Below wr.heap.size wr (wr.alloc (.cells #[.int .i64 l[k].kind,.string l[k].text,.bool l[k].spaced,.slice ah l[k].hidden.length caph] 57)):=Zab _ _
    have HX:=Qh (heap_alloc_new wr (.cells #[.int .i64 l[k].kind,.string l[k].text,.bool l[k].spaced,.slice ah l[k].hidden.length caph] 57))
    have HB1:=Qh (HB.out.below hbx)
    have hlw:=HB.out.lt
    have hlo:=hb1.size
    have hbr:b1<wr.heap.size:=Nat.lt_of_lt_of_le hb1' hb.size
    have HR1:=Qh (sTok.below (sTok.below hR1' hb) hbx)
    clear hE1 K1 hR1'
    go_wp2
    generalize (wr.alloc (.cells #[.int .i64 l[k].kind,.string l[k].text,.bool l[k].spaced,.slice ah l[k].hidden.length caph] 57))=W2 at *
    have p0:=Qc 0 HX.out
    have p1:=Qc 1 HX.out
    have p2:=Qc 2 HX.out
    have p3:=Qc 3 HX.out
    have hbw:=hb.trans (hbx.mono hb.size)
    have hne:wr.heap.size≠w1.heap.size:=by omega
    clear c10 c11 c12 c13
    by_cases h0:k=0
    ·have h00:¬ (0:Int)<(k:Int):=by omega
     have h01:decide ((0:Int)<(k:Int))=false:=by simp;omega
     have h02:decide (0<k)=false:=by simp;omega
     have HN:=Qh (ZcP hlt (by subst h0;exact Zke l))
     clear h0 he1 hrow
     go_quiet (fail)
     have HBq:=Qh (HB1.out.below (Zag (Below.refl _ _) nq))
     have hbq:=hbw.trans ((Zag (Below.refl W2.heap.size W2) nq).mono hbw.size)
     go_wp2_with fail
     refine (Zdt HBq.out (by omega)).mono ?_
     rintro e w3 ⟨rfl,hB3,hb3,-⟩
     rw [← HN.out] at hB3
     go_wp2
     go_roundw
     case rel=>exact⟨k+1,by omega,by go_num,hB3,hbq.trans (hb3.mono hlo)⟩
     case measure=>simp [intOf];omega
    ·have h00:(0:Int)<(k:Int):=by omega
     have h01:decide ((0:Int)<(k:Int))=true:=by simp;omega
     have h02:decide (0<k)=true:=by simp;omega
     cases hsp:l[k].spaced
     ·obtain⟨es2,hE2,hR2⟩:=he1 (k-1) (by omega)
      have HR2:=Qh (sTok.below (sTok.below hR2 hb) hbx)
      obtain⟨h2,rfl,-,-,-⟩:=hR2
      replace hE2:=hE2.frame ((hbx.block b1 hbr).trans (hb.block b1 hb1'))
      have c20:W2.cell? ⟨b1,off1+(k-1) * 4,none⟩=some _:=Zao hE2 (by decide) rfl
      have c21:W2.cell? ⟨b1,off1+(k-1) * 4+1,none⟩=some _:=Zae (j:=1) hE2 (by decide) rfl
      have c22:W2.cell? ⟨b1,off1+(k-1) * 4+2,none⟩=some _:=Zae (j:=2) hE2 (by decide) rfl
      have c23:W2.cell? ⟨b1,off1+(k-1) * 4+3,none⟩=some _:=Zae (j:=3) hE2 (by decide) rfl
      have h6:((k:Int)-1).toNat=k-1:=by omega
      have hwl:IntKind.i64.wrap ((k:Int)-1)=(k:Int)-1:=IntWalk.i64_in _ (by omega)
      have hi1:(0:Int)<=(k:Int)-1:=by omega
      have hi0:(1:Int)<=(k:Int):=by omega
      have hi2:(k:Int)-1<(l.length:Int):=by omega
      have HC:Hid (∀ W,Below W2.heap.size W2 W->Calls Tryz.prog 52 #[.agg #[.int .i64 (l[k-1]'(by omega)).kind,.string (l[k-1]'(by omega)).text,.bool (l[k-1]'(by omega)).spaced,h2],.agg #[.int .i64 l[k].kind,.string l[k].text,.bool l[k].spaced,.slice ah l[k].hidden.length caph]] W (Says (glued (l[k-1]'(by omega)).text l[k].text) W)):=
       λ W hW=>Ziy _ _ _ _ _ _ W (sTok.below HR2.out hW) (sTok.below HR1.out hW) (HOK.out.2 _ (by omega)) (HOK.out.2 _ hlt)
      have HG:=Zjg (by omega) hlt hsp
      rw [hsp] at p2 HC
      clear hE2 he1 hrow
      go_wp2_with fail
      go_still_tail 12,(by kernel_rfl)
      change wpList _ _ _ _ _ W2.drew
      have hd:Below W2.heap.size W2 W2.drew:=Zag (Below.refl _ _) 1
      have HXd:Hid (W2.drew.heap[wr.heap.size]?=some (.cells #[.int .i64 l[k].kind,.string l[k].text,.bool l[k].spaced,.slice ah l[k].hidden.length caph] 57)):=HX
      generalize W2.drew=w2 at *
      have hgx:wr.heap.size<w2.heap.size:=(Qg HXd.out).1
      cases hg:glued (l[k-1]'(by omega)).text l[k].text
      ·rw [hg] at HC HG
       have HN:=Qh (ZcP hlt HG)
       clear hg HG
       go_wp2_with fail
       refine (HC.out _ hd).mono ?_
       rintro e w3 ⟨rfl,hb3⟩
       have hb4:=hd.trans (hb3.mono hd.size)
       have HX3:=(hb3.block _ hgx).trans HXd.out
       have q1:=Qc 1 HX3
       have HB3:=Qh (HB1.out.below hb4)
       have hbq:=hbw.trans (hb4.mono hbw.size)
       clear p0 p1 p2 p3 c20 c21 c22 c23 HX3 hb3 hd hb4
       go_wp2_with fail
       refine (Zdt HB3.out (by omega)).mono ?_
       rintro e w4 ⟨rfl,hB4,hb5,-⟩
       rw [← HN.out] at hB4
       go_wp2
       go_roundw
       case rel=>exact⟨k+1,by omega,by go_num,hB4,hbq.trans (hb5.mono hlo)⟩
       case measure=>simp [intOf];omega
      ·rw [hg] at HC HG
       have HN:=Qh (Zb9 hlt HG)
       clear hg HG
       go_wp2_with fail
       refine (HC.out _ hd).mono ?_
       rintro e w3 ⟨rfl,hb3⟩
       have hb4:=hd.trans (hb3.mono hd.size)
       have HX3:=(hb3.block _ hgx).trans HXd.out
       have HB3:=Qh (HB1.out.below hb4)
       have hbq:=hbw.trans (hb4.mono hbw.size)
       clear p0 p1 p2 p3 c20 c21 c22 c23 hb3 hd hb4
       go_wp2_with fail
       refine (ZiN HB3.out (by omega)).mono ?_
       rintro e w4 ⟨rfl,hB4,hb5,hk5⟩
       have hbq3:=hbq.trans (hb5.mono hlo)
       have HX4:=Zgb hk5 HX3 hne (by decide)
       have q1:=Qc 1 HX4
       clear HX3 HX4
       go_wp2_with fail
       refine (Zdt hB4 (by rw [ByteArray.size_append];have:(⟨#[32]⟩:ByteArray).size=1:=rfl;omega)).mono ?_
       rintro e w5 ⟨rfl,hB5,hb6,-⟩
       rw [← HN.out] at hB5
       go_wp2
       go_roundw
       case rel=>exact⟨k+1,by omega,by go_num,hB5,hbq3.trans (hb6.mono hlo)⟩
       case measure=>simp [intOf];omega
     ·have HN:=Qh (Zb9 hlt (ZhQ (by omega) hlt hsp))
      rw [hsp] at p2
      clear he1 hrow
      go_quiet (fail)
      have HBq:=Qh (HB1.out.below (Zag (Below.refl _ _) nq))
      have hbq:=hbw.trans ((Zag (Below.refl W2.heap.size W2) nq).mono hbw.size)
      go_wp2_with fail
      refine (ZiN HBq.out (by omega)).mono ?_
      rintro e w3 ⟨rfl,hB3,hb3,hk3⟩
      have hbq3:=hbq.trans (hb3.mono hlo)
      have HX3:=Zgb (w:=W2.drewN nq) hk3 HX.out hne (by decide)
      have q1:=Qc 1 HX3
      clear HX3 p0 p1 p2 p3
      go_wp2_with fail
      refine (Zdt hB3 (by rw [ByteArray.size_append];have:(⟨#[32]⟩:ByteArray).size=1:=rfl;omega)).mono ?_
      rintro e w4 ⟨rfl,hB4,hb4,-⟩
      rw [← HN.out] at hB4
      go_wp2
      go_roundw
      case rel=>exact⟨k+1,by omega,by go_num,hB4,hbq3.trans (hb4.mono hlo)⟩
      case measure=>simp [intOf];omega
   ·have hkl:l.length=k:=by omega
    have HL:=Qh (bldLen HB.out)
    have HS:=Qh (Zjv HB.out)
    have hlo:=hb1.size
    by_cases hbig:200<(prTo l k).size
    ·have HF:=Qh (ZdU HVD.out hkl hbig)
     clear hkl
     go_wp2_with (go_at_call 55;refine (HL.out).mono ?_;rintro e w2 ⟨rfl,rfl⟩)
     go_ret2
     exact Zcg HF.out hb
    ·have HF:=Qh (Zeg HVD.out hkl hbig)
     clear hkl
     go_wp2_with (first
      | (go_at_call 55;refine (HL.out).mono ?_;rintro e w2 ⟨rfl,rfl⟩)
      | (go_at_call 56;refine (HS.out).mono ?_;rintro e w2 ⟨rfl,hb3⟩))
     go_ret2
     exact Zcg HF.out (hb.trans (hb3.mono hlo))
/-! ### The head's bytes -/
theorem ZnA {s:ByteArray} (h:Zak s 1=true):s.size<=12:=(ZmE h).2.1
def set4 (w:World) (g:Nat) (v0 v1 v2 v3:Value):World:=(((w.setCell ⟨g,0,none⟩ v0).setCell ⟨g,1,none⟩ v1).setCell ⟨g,2,none⟩ v2).setCell ⟨g,3,none⟩ v3
section
variable {P:Program} {ops:Array Oper} {Q:Exit->Act->World->Prop} {md:Region.Mode} {S:World->Prop}
theorem Zh3 (i d:Nat) {oi:Oper} {v:Value} {fuel:Nat} {listed:Array Bool} {a:Act} {w:World} (hi:ops[i]?=some oi) (hd:oi.dst=some d)
  (hs:Region.noSelect ops=true) (hf:Region.free md ops listed i=true) (hr:(Region.ready md ops listed).contains i=true)
  (hQ:∀ c a w,Q (.panic c) (a.put (some d) v) w->Q (.panic c) a w) (hw:Region.wanted oi (yielded ops a.tmps)=true) (hS:S w)
  (hy:∀ w,S w->(execOp a.eval oi).run P w=.ok (.value v) w)
  (h:wpAnyH P md ops Q S fuel (listed.setIfInBounds i true) (a.put (some d) v) w):wpAnyH P md ops Q S (fuel+1) listed a w:=
 wpAnyH_take hi hs hf hr (by rw [hd];exact hQ) (.inl ⟨hw,hy⟩) hS (by rw [hd];exact h)
end
theorem ZaH {w:World} {g:Nat} {z0 z1 z2 z3:Value} {ty:TypeId} (h:w.heap[g]?=some (.cells #[z0,z1,z2,z3] ty (0,0))) (v0 v1 v2 v3:Value) :
  (set4 w g v0 v1 v2 v3).heap[g]?=some (.cells #[v0,v1,v2,v3] ty (0,0)):=Zah (Zah (Zah (Zah h 0 _) 1 _) 2 _) 3 _
theorem Zdu {w:World} {g b:Nat} (h:b≠g) (v0 v1 v2 v3:Value):(set4 w g v0 v1 v2 v3).heap[b]?=w.heap[b]?:=by
 unfold set4
 rw [Below.heap_setCell _ _ _ _ h,Below.heap_setCell _ _ _ _ h,Below.heap_setCell _ _ _ _ h,Below.heap_setCell _ _ _ _ h]
theorem ZbQ (w:World) (g:Nat) (v0 v1 v2 v3:Value):(set4 w g v0 v1 v2 v3).heap.size=w.heap.size:=by
 unfold set4
 simp
theorem Zay {B:Nat} {w0 w:World} (hB:Below B w0 w) {g:Nat} (hg:B<=g) (v0 v1 v2 v3:Value):Below B w0 (set4 w g v0 v1 v2 v3):=
 ((((hB).setCell (p:=⟨g,0,none⟩) hg v0).setCell (p:=⟨g,1,none⟩) hg v1).setCell (p:=⟨g,2,none⟩) hg v2).setCell (p:=⟨g,3,none⟩) hg v3
theorem Shape.set4R {α:Type} (S:Shape α) {w:World} {g:Nat} {cs:List Value} {d:α} {fp:List Nat} (h:S.R w cs d fp) (hn:g∉fp) (v0 v1 v2 v3:Value):S.R (set4 w g v0 v1 v2 v3) cs d fp:=
 S.frame (λ b hb=>Zdu (λ e:b=g=>hn (by rw [← e];exact hb)) _ _ _ _) h
theorem ZnB {w:World} {g b:Nat} (h:b≠g) (j:Nat) (v0 v1 v2 v3:Value):(set4 w g v0 v1 v2 v3).cell? ⟨b,j,none⟩=w.cell? ⟨b,j,none⟩:=
 World.cell?_of_block (Zdu h v0 v1 v2 v3)
theorem Zc6 {w:World} {g b:Nat} (h:b≠g) (j:Nat) (v0 v1 v2 v3:Value):((((w.setCell ⟨g,0,none⟩ v0).setCell ⟨g,1,none⟩ v1).setCell ⟨g,2,none⟩ v2).setCell ⟨g,3,none⟩ v3).cell? ⟨b,j,none⟩=w.cell? ⟨b,j,none⟩:=ZnB h j v0 v1 v2 v3
theorem Own.set4 {w:World} {lo g:Nat} {fp:List Nat} (h:Own w lo fp) (v0 v1 v2 v3:Value):Own (set4 w g v0 v1 v2 v3) lo fp:=
 (((h.setCell ⟨g,0,none⟩ v0).setCell ⟨g,1,none⟩ v1).setCell ⟨g,2,none⟩ v2).setCell ⟨g,3,none⟩ v3
theorem Zfs {α:Type} {S:Shape α} {w0 w:World} {g:Nat} {z0 z1 z2 z3:Value} {T:TypeId} {cs:List Value} {d:α} {fp:List Nat} (HX:w.heap[g]?=some (.cells #[z0,z1,z2,z3] T (0,0))) (hg:w0.heap.size<=g)
  (R:S.R w cs d fp) (O:Own w w0.heap.size fp) (hn:g∉fp) (hb:Below w0.heap.size w0 w) (v0 v1 v2 v3:Value) :
  (set4 w g v0 v1 v2 v3).heap[g]?=some (.cells #[v0,v1,v2,v3] T (0,0))/\w0.heap.size<=g/\g<(set4 w g v0 v1 v2 v3).heap.size/\S.R (set4 w g v0 v1 v2 v3) cs d fp/\Own (set4 w g v0 v1 v2 v3) w0.heap.size fp/\Below w0.heap.size w0 (set4 w g v0 v1 v2 v3):=
 ⟨ZaH HX _ _ _ _,hg,by rw [ZbQ];exact(Qg HX).1,S.set4R R hn _ _ _ _,O.set4 _ _ _ _,Zay hb hg _ _ _ _⟩
section
variable {α:Type} {S:Shape α} {w w7:World} {g2 g3:Nat} {T:TypeId} {z0 z1 z2 z3 y0 y1 y2 y3:Value} {cs cs':List Value} {d d':α} {fp fp':List Nat}
end
def okMac (m:DMacro):Prop:=m.name.size<=1000/\m.params.length<=100/\m.body.length<=100/\∀ t∈m.body,t.hidden.length<=3
theorem of_small (l:List Tok):(macOf l).1.name.size<=12/\(macOf l).1.params.length<=4/\(macOf l).1.body.length<=20/\∀ t∈(macOf l).1.body,t.hidden=[]:=by
 rcases h:macOf l with⟨m,ok⟩
 cases ok
 ·have:=macOf_no h
  subst this
  exact⟨by show (0:Nat)<=12;omega,by show (0:Nat)<=4;omega,by show (0:Nat)<=20;omega,λ t ht=>by simp [Zb0] at ht⟩
 ·obtain⟨⟨h1,h2,h3,h4,h5⟩,h6,h7⟩:=ZaD (macOf_ok h)
  refine ⟨ZnA h1,h3,h5,λ t ht=>?_⟩
  obtain⟨k,hk,rfl⟩:=List.getElem_of_mem ht
  exact(ZbW hk (h7 k hk)).2.1
def ZkJ (rb p n:Nat) (w:World) (e:Ending) (w':World):Prop:=
 ∃ (nm:ByteArray) (f:Bool) (a2 a3:Option Addr) (n2 c2 n3 c3:Nat) (ps:List ByteArray) (bd:List Tok) (fp:List Nat) (q:Nat),e=.returned (.agg #[.string nm,.bool f,.slice a2 n2 c2,.slice a3 n3 c3]) /\
  sMacro.R w' [.string nm,.bool f,.slice a2 n2 c2,.slice a3 n3 c3] ⟨nm,f,ps,bd⟩ fp/\okMac ⟨nm,f,ps,bd⟩/\(∀ b∈fp,w.heap.size<=b)/\q<=p+n/\Rd w' rb q/\Kept [rb] w w'
theorem Zcc {w wP:World} {g rb q:Nat} {nm:ByteArray} {f:Bool} {s2 s3:Value} {m:DMacro} {fp:List Nat} (HZ:wP.heap[g]?=some (.cells #[.string ⟨#[]⟩,.bool false,.slice none 0 0,.slice none 0 0] 70 (0,0))) (R:sMacro.R wP [.string nm,.bool f,s2,s3] m fp) (hn:g∉fp) (HR:Rd wP rb q) (hr:rb<g) (HK:Kept [rb] w wP) (hg:w.heap.size<=g) :
  (set4 wP g (.string nm) (.bool f) s2 s3).heap[g]?=some (.cells #[.string nm,.bool f,s2,s3] 70 (0,0))/\sMacro.R (set4 wP g (.string nm) (.bool f) s2 s3) [.string nm,.bool f,s2,s3] m fp/\Rd (set4 wP g (.string nm) (.bool f) s2 s3) rb q/\Kept [rb] w (set4 wP g (.string nm) (.bool f) s2 s3):=
 ⟨Zah (Zah (Zah (Zah HZ 0 _) 1 _) 2 _) 3 _,sMacro.setB (sMacro.setB (sMacro.setB (sMacro.setB R hn 0 _) hn 1 _) hn 2 _) hn 3 _,rdSet (rdSet (rdSet (rdSet HR hr 0 _) hr 1 _) hr 2 _) hr 3 _,ZbG (ZbG (ZbG (ZbG HK hg _ 0) hg _ 1) hg _ 2) hg _ 3⟩
theorem Ze5 {rb p n q:Nat} {w wF:World} {nm:ByteArray} {f:Bool} {a2 a3:Option Addr} {n2 c2 n3 c3:Nat} {ps:List ByteArray} {bd:List Tok} {fp:List Nat} (hR:sMacro.R wF [.string nm,.bool f,.slice a2 n2 c2,.slice a3 n3 c3] ⟨nm,f,ps,bd⟩ fp) (ho:okMac ⟨nm,f,ps,bd⟩) (hlo:∀ b∈fp,w.heap.size<=b) (hq:q<=p+n) (hRd:Rd wF rb q) (hK:Kept [rb] w wF) :
  ZkJ rb p n w (.returned (.agg #[.string nm,.bool f,.slice a2 n2 c2,.slice a3 n3 c3])) wF:=⟨nm,f,a2,a3,n2,c2,n3,c3,ps,bd,fp,q,rfl,hR,ho,hlo,hq,hRd,hK⟩
theorem Zc7 {w:World} {ops:Array Oper} {rest:List Oper} {o:Oper} {a:Act} {Q:Exit->Act->World->Prop} (hg:o.guard=none) (s y:Operand)
  (ho:o.op=.call { callee:=.builtin .append,args:=#[s,y],argTypes:=#[28,28] })
  (base:Nat) (v u:Value) (L:List (Elem Tok)) (M:List Tok) (fp:List Nat) (hs:a.eval s=v) (hown:RowE sTok base 57 v L w) (hy:a.eval y=u) (HM:(Zaa sTok).R w [u] M fp) (hh:∀ t∈M,t.hidden=[])
  (h63:L.length+M.length<=2000000) (hbase:base<=w.heap.size)
  (h:∀ v' X w',X.map (·.d)=M->(∀ x∈X,x.fp=[])->RowE sTok base 57 v' (L++X) w'->w.grownBy w' v.ownBlock->wpList Tryz.prog ops Q rest (a.put o.dst v') w'):wpList Tryz.prog ops Q (o::rest) a w:=by
 obtain⟨i,hi,hz0,hz1,hz2⟩:=info_parts ti_tok.2
 obtain⟨ad,cap,rfl,hc,hm,hrow⟩:=Zac HM
 by_cases h0:0<M.length
 ·obtain⟨b,off,fps,rfl,hb,-,he⟩:=hrow h0
  have hex:∀ k,(hk:k<M.length)->∃ hh:Value,ElemAt w b off 4 k [.int .i64 M[k].kind,.string M[k].text,.bool M[k].spaced,hh]/\sTok.R w [.int .i64 M[k].kind,.string M[k].text,.bool M[k].spaced,hh] M[k] []/\hh.oneCell'=true:=λ k hk=>by
   obtain⟨es,hE,hR⟩:=he k hk
   have hk0:=hh _ (List.getElem_mem hk)
   obtain⟨hv,rfl,k1,k2,hK⟩:=hR
   obtain⟨ao,co,rfl,hc1,hm1,-⟩:=Zac hK
   exact⟨_,hE,⟨_,rfl,k1,k2,by rw [hk0];exact Zan sStr w ao co hm1⟩,rfl⟩
  let X:List (Elem Tok):=List.ofFn λ (k:Fin M.length)=>(⟨[.int .i64 M[k.1].kind,.string M[k.1].text,.bool M[k.1].spaced,(hex k.1 k.2).choose],M[k.1],[]⟩:Elem Tok)
  have hXl:X.length=M.length:=by simp [X]
  have hXg:∀ k,(hk:k<X.length)->X[k]=⟨[.int .i64 (M[k]'(by omega)).kind,.string (M[k]'(by omega)).text,.bool (M[k]'(by omega)).spaced,(hex k (by omega)).choose],M[k]'(by omega),[]⟩:=λ k hk=>by simp [X]
  have hXm:∀ x∈X,∃ k,∃ hk:k<M.length,x=⟨[.int .i64 M[k].kind,.string M[k].text,.bool M[k].spaced,(hex k hk).choose],M[k],[]⟩:=λ x hx=>by
   obtain⟨k,hk,rfl⟩:=List.getElem_of_mem hx
   exact⟨k,by omega,hXg k hk⟩
  have hXd:X.map (·.d)=M:=List.ext_getElem (by simpa using hXl) λ k h1 h2=>by rw [List.getElem_map,hXg k (by simpa using h1)]
  have hX4:∀ x∈X,x.cells.length=4:=λ x hx=>by obtain⟨k,hk,rfl⟩:=hXm x hx;rfl
  have hX1:∀ x∈X,∀ u∈x.cells,u.oneCell'=true:=λ x hx u hu=>by
   obtain⟨k,hk,rfl⟩:=hXm x hx
   have:=(hex k hk).choose_spec.2.2
   simp only [List.mem_cons,List.not_mem_nil,or_false] at hu
   rcases hu with rfl | rfl | rfl | rfl
   ·rfl
   ·rfl
   ·rfl
   ·exact this
  refine wpList_append_own _ hg s y _ ho base _ i _ 4 _ ti_tok.1 hi hz0 hz1 hz2 rfl (by decide) v L.length _ hs hown.row ⟨b,off,none⟩ M.length cap (X.flatMap (·.cells)) hy (by rw [ZaB hX4,hXl]) ?_ ?_ (by unfold maxLen;omega) (by omega) hbase λ v' w' h1 h2 _=>h v' X w' hXd (λ x hx=>by obtain⟨k,hk,rfl⟩:=hXm x hx;rfl) (hown.appended (X:=X) (by rw [List.length_append,hXl,List.flatMap_append];exact h1) h2 hX4 (λ x hx=>by obtain⟨k,hk,rfl⟩:=hXm x hx;exact(hex k hk).choose_spec.2.1) (λ x hx b hb=>by obtain⟨k,hk,rfl⟩:=hXm x hx;simp at hb) (λ x hx b hb=>by obtain⟨k,hk,rfl⟩:=hXm x hx;simp at hb)) h2
  ·intro j u hj
   have hjl:j<X.length * 4:=by have:=(List.getElem?_eq_some_iff.1 hj).1;rwa [ZaB hX4] at this
   have hdm:j=j / 4 * 4+j % 4:=by omega
   have hk:j / 4<X.length:=by omega
   rw [hdm,Zbu (f:=Elem.cells) hX4 hk (by omega),hXg _ hk] at hj
   have hE:=(hex (j / 4) (by omega)).choose_spec.1
   have:=hE.2 (j % 4) (by omega)
   rw [Addr.add_lit,show off+j=off+j / 4 * 4+j % 4 by omega,this]
   exact hj
  ·intro u hu
   obtain⟨x,hx,hu⟩:=List.mem_flatMap.1 hu
   exact hX1 x hx u hu
 ·have hM:M=[]:=List.length_eq_zero_iff.1 (by omega)
  subst hM
  cases ad with
  |
   none =>
   have hrun:=run_append_nil (P:=Tryz.prog) (w:=w) base _ o.type _ i 4 cap ti_tok.1 hi v L.length _ hown.row
   have hK:=h v [] w rfl (by simp) (by simpa using hown) ⟨rfl,rfl,rfl,Nat.le_refl _,λ _ _ _=>rfl⟩
   refine wpList_plain hg λ K hK'=>?_
   unfold Oper.wp
   simp only [List.length_nil] at hy
   simp [execOp,ho,resolve,invoke,builtin,hs,hy,hrun,Result.andThen]
   exact hK' _ _ hK
  |
   some ad =>
   refine wpList_append_own _ hg s y _ ho base _ i _ 4 _ ti_tok.1 hi hz0 hz1 hz2 rfl (by decide) v L.length _ hs hown.row ad 0 cap [] hy rfl (by simp) (by simp) (by unfold maxLen;omega) (by omega) hbase λ v' w' h1 h2 _=>h v' [] w' rfl (by simp) ?_ h2
   exact hown.appended (X:=[]) (by have h1':=h1;simp only [Nat.add_zero,List.append_nil] at h1' ⊢;exact h1') h2 (by simp) (by simp) (by simp) (by simp)
def Zjw:List ByteArray:=[⟨#[97,32,49]⟩,⟨#[98,32,97,32,43,32,50]⟩,⟨#[65,66,32,97,32,98]⟩,⟨#[102,40,120,41,32,120,32,43,32,120]⟩,⟨#[103,40,120,44,121,41,32,120,32,35,35,32,121]⟩,⟨#[104,40,120,41,32,35,32,120]⟩,⟨#[101,40,41,32,55]⟩,⟨#[97,32,102]⟩,⟨#[114,32,114,32,43,32,49]⟩,⟨#[112,40,120,41,32,102,40,120,41]⟩,⟨#[113,40,120,44,121,44,122,41,32,122,32,121,32,120]⟩,⟨#[110]⟩,⟨#[102,40,120,41,32,120,32,35,35,32,49]⟩,⟨#[109,40,120,41,32,40,120,41,32,42,32,40,120,41]⟩,⟨#[98,32,98]⟩,⟨#[103,40,120,44,121,41,32,102,40,120,41,32,121]⟩,⟨#[97,32,40,32,50,32,41]⟩,⟨#[120,32,102,32,40,32,51]⟩,⟨#[99,40,120,41,32,120,32,120]⟩,⟨#[100,32,53,32,35,35,32,54]⟩]
theorem ZiO:∀ s∈Zjw,s.size<=14:=by decide
def Zjx:List ByteArray:=[⟨#[]⟩,⟨#[49]⟩,⟨#[100,101,102,105,110,101,100]⟩,⟨#[97,32,98]⟩]
theorem ZiP:∀ s∈Zjx,s.size<=7:=by decide
def ZkK:List ByteArray:=[⟨#[120]⟩,⟨#[49]⟩,⟨#[]⟩]
theorem ZjY:∀ s∈ZkK,s.size<=1:=by decide
theorem ZkL {g:Prop} (h:g:=by
 have HLOF:Hid (∀ b∈fp2++fp3,w.heap.size<=b):=λ b hb=>by have:=(HLO.out b hb).1;omega
 clear HLO
 go_wp2
 refine bodyPost_ret (results_cell_row rfl _ _ w.heap.size _ _ _ _ rfl HS.out.1 Tryz.underlying70 rfl (by kernel_rfl)) rfl ?_
 exact Ze5 HS.out.2.1 HOKF.out HLOF.out (by omega) HS.out.2.2.1 HS.out.2.2.2):g:=h
theorem Y10A14 {g:Prop} (h:g:=by
 have HLOF:Hid (∀ b∈fp2++fpB,w.heap.size<=b):=λ b hb=>(Qa hb).elim (λ h=>by have:=(HLO.out b (by simp [h])).1;omega) (λ h=>by have:=HFB.out _ h;omega)
 clear HLO
 go_wp2
 refine bodyPost_ret (results_cell_row rfl _ _ w.heap.size _ _ _ _ rfl HS.out.1 Tryz.underlying70 rfl (by kernel_rfl)) rfl ?_
 exact Ze5 HS.out.2.1 HOKF.out HLOF.out (by omega) HS.out.2.2.1 HS.out.2.2.2):g:=h
theorem ZkM (rb p:Nat) (n:Int) (w:World) (H:Rd w rb p) (hp:p<=900000) (hn:n<=100) (hn0:0<=n) :
  Calls Tryz.prog 50 #[.pointer (some ⟨rb,0,none⟩),.int .i64 n] w (ZkJ rb p 10 w):=by
 have hrb:=H.lt
 have hz0:=Zab w (.cells #[.string ⟨#[]⟩,.bool false,.slice none 0 0,.slice none 0 0] 70)
 have HZ:=Qh (heap_alloc_new w (.cells #[.string ⟨#[]⟩,.bool false,.slice none 0 0,.slice none 0 0] 70))
 have hzl:=Zab (w.alloc (.cells #[.string ⟨#[]⟩,.bool false,.slice none 0 0,.slice none 0 0] 70)) (.cells #[.string ⟨#[97,32,49]⟩,.string ⟨#[98,32,97,32,43,32,50]⟩,.string ⟨#[65,66,32,97,32,98]⟩,.string ⟨#[102,40,120,41,32,120,32,43,32,120]⟩,.string ⟨#[103,40,120,44,121,41,32,120,32,35,35,32,121]⟩,.string ⟨#[104,40,120,41,32,35,32,120]⟩,.string ⟨#[101,40,41,32,55]⟩,.string ⟨#[97,32,102]⟩,.string ⟨#[114,32,114,32,43,32,49]⟩,.string ⟨#[112,40,120,41,32,102,40,120,41]⟩,.string ⟨#[113,40,120,44,121,44,122,41,32,122,32,121,32,120]⟩,.string ⟨#[110]⟩,.string ⟨#[102,40,120,41,32,120,32,35,35,32,49]⟩,.string ⟨#[109,40,120,41,32,40,120,41,32,42,32,40,120,41]⟩,.string ⟨#[98,32,98]⟩,.string ⟨#[103,40,120,44,121,41,32,102,40,120,41,32,121]⟩,.string ⟨#[97,32,40,32,50,32,41]⟩,.string ⟨#[120,32,102,32,40,32,51]⟩,.string ⟨#[99,40,120,41,32,120,32,120]⟩,.string ⟨#[100,32,53,32,35,35,32,54]⟩] 9)
 have hs1:(w.alloc (.cells #[.string ⟨#[]⟩,.bool false,.slice none 0 0,.slice none 0 0] 70)).heap.size=w.heap.size+1:=Array.size_push _
 have HS1:=Qh hs1
 clear hs1
 have HR1:=Qh ((H.grow hz0).grow hzl)
 go_enter Tryz.func50,Tryz.ntmps50
 go_wp2_with fail
 refine (pick rb p _ _ HR1.out (by omega) (by omega) (by omega)).mono ?_
 rintro e w2 ⟨r,rfl,h0,h1,hR2,hK2⟩
 obtain⟨s,hs,hcs⟩:=Zfo Zjw 20 (λ s hs=>Nat.le_trans (ZiO s hs) (by decide)) h0 (by show r<20;omega) (by rw [HS1.out];omega) hK2
 rw [HS1.out] at hcs
 have hb2:=hz0.trans (hzl.mono hz0.size)
 have hK02:=(Kept.of_below (fp:=[rb]) hb2).trans hK2
 have HZ2:=Qh (ZcB ((hzl.block _ (by rw [HS1.out];omega)).trans HZ.out) hK2 (by omega))
 have hok:okStr s:=by unfold okStr maxLen;omega
 clear hzl hz0 HZ HR1
 go_wp2_with fail
 refine (Zbe s _ hok).mono ?_
 rintro e w3 ⟨v3,f3,rfl,hT,hO,hb3⟩
 have hall:=ZhR s
 have hK03:=hK02.trans (Kept.of_below hb3)
 have HZ3:=Qh (mbox HZ2.out hb3)
 have hR3:=hR2.grow hb3
 clear hO hb3 hcs HZ2 hR2 hK2 hK02 hb2
 go_wp2_with fail
 refine (ZkG v3 _ f3 _ (by omega) (λ k hk=>by rw [hall.2 _ (List.getElem_mem hk)];simp) hT).mono ?_
 rintro e w4 ⟨cs,fp,rfl,hM,hMO,hb4⟩
 have HSM:=of_small (Zai s).1
 have hw34:w.heap.size+1<=w3.heap.size:=mlt HZ3.out
 clear hT hall
 generalize macOf (Zai s).1=MM at hM HSM
 obtain⟨⟨nm,fb,ps,bd⟩,okb⟩:=MM
 obtain⟨h2,h3,fp2,fp3,rfl,okn,K2,K3,rfl⟩:=hM
 obtain⟨a2,c2,rfl,-⟩:=Zaf K2
 obtain⟨a3,c3,rfl,-⟩:=Zac K3
 obtain⟨sm1,sm2,sm3,sm4⟩:=HSM
 have hK04:=hK03.trans (Kept.of_below hb4)
 have HZ4:=mbox HZ3.out hb4
 have hR4:=hR3.grow hb4
 have hlo:∀ b∈fp2++fp3,w.heap.size+1<=b/\b<w4.heap.size:=λ b hb=>⟨by have:=(hMO.2 b hb).1;omega,hMO.lt b hb⟩
 have hbx:=Zab w4 (.cells #[.string nm,.bool fb,.slice a2 ps.length c2,.slice a3 bd.length c3] 70)
 have HM5:=Qh (heap_alloc_new w4 (.cells #[.string nm,.bool fb,.slice a2 ps.length c2,.slice a3 bd.length c3] 70))
 have HZ5:=Qh (mbox HZ4 hbx)
 have HR5:=Qh (hR4.grow hbx)
 have HK5:=Qh (hK04.trans (Kept.of_below hbx))
 have HP5:=Qh ((Zaa sStr).below K2 hbx)
 have HB5:=Qh ((Zaa sTok).below K3 hbx)
 have hg1:w.heap.size<w4.heap.size:=mlt HZ4
 have HOK:=Qh (And.intro okn (And.intro sm1 (And.intro sm2 (And.intro sm3 sm4))))
 have HLO:=Qh hlo
 clear hMO hb4 hK03 hK04 HZ3 HZ4 hR3 hR4 K2 K3 hbx hlo okn sm1 sm2 sm3 sm4
 go_wp2_with fail
 refine (odd rb (p+1) n _ HR5.out (by omega) (by omega) hn0).mono ?_
 rintro e w5 ⟨b,q,rfl,hq1,hq2,hR6,hK6⟩
 have HM6:=Qh (ZcB HM5.out hK6 (by omega))
 have HZ6:=Qh (ZcB HZ5.out hK6 (by omega))
 have HK6:=Qh (HK5.out.trans hK6)
 have nrb:∀ b∈fp2++fp3,b∉[rb]:=λ b hb hx=>by have:=(HLO.out b hb).1;have e:b=rb:=(by simpa using hx);omega
 have HP6:=Qh ((Zaa sStr).kept HP5.out (λ b hb=>nrb b (by simp [hb])) hK6)
 have HB6:=Qh ((Zaa sTok).kept HB5.out (λ b hb=>nrb b (by simp [hb])) hK6)
 have HR6:=Qh hR6
 clear HM5 HZ5 HK5 HP5 HB5 HR5 hK6 hR6
 cases b
 ·
  have y0:=Qc 0 HM6.out
  have y1:=Qc 1 HM6.out
  have y2:=Qc 2 HM6.out
  have y3:=Qc 3 HM6.out
  have z0:=Qc 0 HZ6.out
  have zf0:=Qf 0 HZ6.out
  have z1:=Qc 1 HZ6.out
  have zf1:=Qf 1 HZ6.out
  have z2:=Qc 2 HZ6.out
  have zf2:=Qf 2 HZ6.out
  have z3:=Qc 3 HZ6.out
  have zf3:=Qf 3 HZ6.out
  have HS:=Qh (Zcc (w:=w) (wP:=w5) HZ6.out (show sMacro.R w5 [.string nm,.bool fb,.slice a2 ps.length c2,.slice a3 bd.length c3] ⟨nm,fb,ps,bd⟩ (fp2++fp3) from⟨_,_,fp2,fp3,rfl,HOK.out.1,HP6.out,HB6.out,rfl⟩) (λ hx=>by have:=(HLO.out _ hx).1;omega) HR6.out (by omega) HK6.out (Nat.le_refl _))
  have HOKF:Hid (okMac ⟨nm,fb,ps,bd⟩):=⟨by have:=HOK.out.2.1;show nm.size<=1000;omega,by have:=HOK.out.2.2.1;show ps.length<=100;omega,by have:=HOK.out.2.2.2.1;show bd.length<=100;omega,λ t ht=>by rw [HOK.out.2.2.2.2 t ht];simp⟩
  exact ZkL
 ·go_wp2_with fail
  refine (pick rb q _ _ HR6.out (by omega) (by omega) (by omega)).mono ?_
  rintro e w6 ⟨r8,rfl,hr0,hr1,hR7,hK7⟩
  have HM7:=Qh (ZcB HM6.out hK7 (by omega))
  have HZ7:=Qh (ZcB HZ6.out hK7 (by omega))
  have HK7:=Qh (HK6.out.trans hK7)
  have HP7:=Qh ((Zaa sStr).kept HP6.out (λ b hb=>nrb b (by simp [hb])) hK7)
  have HB7:=Qh ((Zaa sTok).kept HB6.out (λ b hb=>nrb b (by simp [hb])) hK7)
  have HR7:=Qh hR7
  have hs6:w4.heap.size<w6.heap.size:=mlt HM7.out
  have HX0:=Qh (show ¬ (w.heap.size∈fp2++fp3) from λ hx=>by have:=(HLO.out _ hx).1;omega)
  have HX1:=Qh (show ¬ (w4.heap.size∈fp2++fp3) from λ hx=>by have:=(HLO.out _ hx).2;omega)
  clear HM6 HZ6 HK6 HP6 HB6 HR6 hK7 hR7 nrb
  have hr8:r8=0\/r8=1\/r8=2\/r8=3\/r8=4\/r8=5\/r8=6\/r8=7:=by omega
  rcases hr8 with rfl | rfl | rfl | rfl | rfl | rfl | rfl | rfl
  ·
   have hbl:=Zab w6 (.cells #[.string ⟨#[]⟩,.string ⟨#[49]⟩,.string ⟨#[100,101,102,105,110,101,100]⟩,.string ⟨#[97,32,98]⟩] 9)
   have HRl:=Qh (HR7.out.grow hbl)
   go_wp2_with fail
   refine (pick rb (q+1) _ _ HRl.out (by omega) (by omega) (by omega)).mono ?_
   rintro e w7 ⟨r4,rfl,hr40,hr41,hR8,hK8⟩
   obtain⟨sn,hsn,hcn⟩:=Zfo Zjx 7 ZiP hr40 (by show r4<4;omega) (by omega) hK8
   have HM8:=Qh (ZcB (mbox HM7.out hbl) hK8 (by omega))
   have HZ8:=Qh (ZcB (mbox HZ7.out hbl) hK8 (by omega))
   have HK8:=Qh ((HK7.out.trans (Kept.of_below hbl)).trans hK8)
   have nrb:∀ b∈fp2++fp3,b∉[rb]:=λ b hb hx=>by have:=(HLO.out b hb).1;have e:b=rb:=(by simpa using hx);omega
   have HP8:=Qh ((Zaa sStr).kept ((Zaa sStr).below HP7.out hbl) (λ b hb=>nrb b (by simp [hb])) hK8)
   have HB8:=Qh ((Zaa sTok).kept ((Zaa sTok).below HB7.out hbl) (λ b hb=>nrb b (by simp [hb])) hK8)
   have HR8:=Qh hR8
   have oksn:okStr sn:=by unfold okStr maxLen;omega
   clear hK8 hR8 hbl HRl
   have y0:=Qc 0 HM8.out
   have y1:=Qc 1 HM8.out
   have y2:=Qc 2 HM8.out
   have y3:=Qc 3 HM8.out
   have yf:=Qf 0 HM8.out
   have z0:=Qc 0 HZ8.out
   have zf0:=Qf 0 HZ8.out
   have z1:=Qc 1 HZ8.out
   have zf1:=Qf 1 HZ8.out
   have z2:=Qc 2 HZ8.out
   have zf2:=Qf 2 HZ8.out
   have z3:=Qc 3 HZ8.out
   have zf3:=Qf 3 HZ8.out
   have HS:=Qh (Zcc (w:=w) (wP:=w7.setCell ⟨w4.heap.size,0,none⟩ (.string sn)) (Zaw HZ8.out (by omega:w.heap.size≠w4.heap.size) 0 (.string sn)) (sMacro.setB (show sMacro.R w7 [.string sn,.bool fb,.slice a2 ps.length c2,.slice a3 bd.length c3] ⟨sn,fb,ps,bd⟩ (fp2++fp3) from⟨_,_,fp2,fp3,rfl,oksn,HP8.out,HB8.out,rfl⟩) HX1.out 0 (.string sn)) HX0.out (rdSet HR8.out (by omega) 0 (.string sn)) (by omega) (ZbG HK8.out (by omega) (.string sn) 0) (Nat.le_refl _))
   have HOKF:Hid (okMac ⟨sn,fb,ps,bd⟩):=⟨by show sn.size<=1000;omega,by have:=HOK.out.2.2.1;show ps.length<=100;omega,by have:=HOK.out.2.2.2.1;show bd.length<=100;omega,λ t ht=>by rw [HOK.out.2.2.2.2 t ht];simp⟩
   exact ZkL
  ·
   have hbl:=Zab w6 (.cells #[] 9)
   have hlit:Hid ((w6.alloc (.cells #[] 9)).ownsRow w6.heap.size 9 1 (.slice (some ⟨w6.heap.size,0,none⟩) 0 0) ([]:List ByteArray).length (([]:List ByteArray).map Value.string)):=World.ownsRow_lit (base:=w6.heap.size) (e:=9) (size:=1) w6 #[] 0 (Nat.le_refl _) (by simp) rfl
   have HMW:=Qh (mbox HM7.out hbl)
   have HZW:=Qh (mbox HZ7.out hbl)
   have HRW:=Qh (HR7.out.grow hbl)
   have HKW:=Qh (HK7.out.trans (Kept.of_below hbl))
   have HPW:=Qh ((Zaa sStr).below HP7.out hbl)
   have HBW:=Qh ((Zaa sTok).below HB7.out hbl)
   obtain⟨_,_,-,-,-,-,hsz⟩:=Zaf HPW.out
   have HSZ:=Qh hsz
   clear hsz
   have y2:(w6.alloc (.cells #[] 9)).cell? ⟨w4.heap.size,2,none⟩=some (.slice a2 ps.length c2):=Qc 2 HMW.out
   have hws:(w6.alloc (.cells #[] 9)).heap.size=w6.heap.size+1:=Array.size_push _
   have HWS:=Qh hws
   have hps4:=HOK.out.2.2.1
   clear hbl hws
   have hq1':q<=p+8:=by omega
   go_wp2_with (first
    |
     (
     at_builtin
     refine Zbb rfl (.tmp 48) (.tmp 50) rfl w6.heap.size (.slice (some ⟨w6.heap.size,0,none⟩) 0 0) (.slice a2 ps.length c2) [] ps fp2 rfl hlit.out rfl HPW.out (by simp;omega) (by rw [HWS.out];omega) ?_
     intro v8 w8 hE hg
     have hown:∀ b,(Value.slice (some ⟨w6.heap.size,0,none⟩) 0 0).ownBlock=some b->w6.heap.size<=b:=λ b hb=>by simp only [Value.ownBlock,Qi] at hb;omega
     have hlt6:w6.heap.size<(w6.alloc (.cells #[] 9)).heap.size:=by rw [HWS.out];omega
     have kb:∀ b,b<w6.heap.size->w8.heap[b]?=((w6.alloc (.cells #[] 9))).heap[b]?:=λ b hb=>hg.block b (by omega) (λ he=>by have:=hown b he.symm;omega)
     have HM8:=Qh ((kb _ (by omega)).trans HMW.out)
     have HZ8:=Qh ((kb _ (by omega)).trans HZW.out)
     have HR8:=Qh (ZcA HRW.out hg (by omega:rb<w6.heap.size) (λ b hb=>hown b hb))
     have HK8:=Qh (ZbP HKW.out hg (λ b hb=>by have:=hown b hb;omega))
     have HB8:=Qh ((Zaa sTok).frame (λ b hb=>kb b (by have:=(HLO.out b (by simp [hb])).2;omega)) HBW.out)
     have hs8:w6.heap.size<w8.heap.size:=Nat.lt_of_lt_of_le hlt6 hg.size
     rw [List.nil_append] at hE
     obtain⟨fp1,R1,-,-⟩:=Za6 (ok:=okStr) hE HSZ.out
     obtain⟨a8,c8,rfl,-⟩:=Zac R1
     have HE8:=Qh hE
     have hbl2:=Zab w8 (.cells #[.string ⟨#[120]⟩,.string ⟨#[49]⟩,.string ⟨#[]⟩] 9)
     have HR9:=Qh (HR8.out.grow hbl2)
     have HM9:=Qh (mbox HM8.out hbl2)
     have HZ9:=Qh (mbox HZ8.out hbl2)
     have HK9:=Qh (HK8.out.trans (Kept.of_below hbl2))
     have HB9:=Qh ((Zaa sTok).below HB8.out hbl2)
     have HE9:=Qh (HE8.out.alloc (.cells #[.string ⟨#[120]⟩,.string ⟨#[49]⟩,.string ⟨#[]⟩] 9))
     have HS9:Hid ((w8.alloc (.cells #[.string ⟨#[120]⟩,.string ⟨#[49]⟩,.string ⟨#[]⟩] 9)).heap.size=w8.heap.size+1):=Array.size_push _
     clear hE hg kb hown y2 hlit R1 HR8 HM8 HZ8 HK8 HB8 HE8 hbl2)
    |
     (
     go_at_call 48
     refine (pick rb (q+1) _ _ HR9.out (by omega) (by omega) (by omega)).mono ?_
     rintro e w9 ⟨r9,rfl,hr90,hr91,hR,hK⟩
     obtain⟨sn,hsn,hcn⟩:=Zfo ZkK 1 ZjY hr90 (by show r9<3;omega) (by omega) hK
     have nrb:∀ b∈fp2++fp3,b∉[rb]:=λ b hb hx=>by have:=(HLO.out b hb).1;have e:b=rb:=(by simpa using hx);omega
     have hs9:w8.heap.size<w9.heap.size:=by have:=hK.size;have e:=HS9.out;omega
     have HMA:=Qh (ZcB HM9.out hK (by omega))
     have HZA:=Qh (ZcB HZ9.out hK (by omega))
     have HKA:=Qh (HK9.out.trans hK)
     have HBA:=Qh ((Zaa sTok).kept HB9.out (λ b hb=>nrb b (by simp [hb])) hK)
     have HEA:=Qh (own_kept HE9.out hK (by omega))
     have HRA:=Qh hR
     have oksn:okStr sn:=by unfold okStr maxLen;omega
     clear hK hR nrb HR9 HM9 HZ9 HK9 HB9 HE9 HS9)
    |
     (
     at_builtin
     refine Zbq ti27 rfl _ (.string sn) rfl rfl (.tmp 51) (.tmp 57) rfl w6.heap.size (.slice a8 ps.length c8) ps.length (ps.map Value.string) rfl HEA.out rfl (by unfold maxLen;omega) (by omega) (by omega) ?_
     intro v10 w10 hE10 hg10
     have hown:∀ b,(Value.slice a8 ps.length c8).ownBlock=some b->w6.heap.size<=b:=λ b hb=>(HEA.out.lt b hb).1
     have kb:∀ b,b<w6.heap.size->w10.heap[b]?=w9.heap[b]?:=λ b hb=>hg10.block b (by omega) (λ he=>by have:=hown b he.symm;omega)
     have HMX:=Qh ((kb _ (by omega)).trans HMA.out)
     have HZX:=Qh ((kb _ (by omega)).trans HZA.out)
     have HRX:=Qh (ZcA HRA.out hg10 (by omega:rb<w6.heap.size) (λ b hb=>hown b hb))
     have HKX:=Qh (ZbP HKA.out hg10 (λ b hb=>by have:=hown b hb;omega))
     have HBX:=Qh ((Zaa sTok).frame (λ b hb=>kb b (by have:=(HLO.out b (by simp [hb])).2;omega)) HBA.out)
     have hE11:w10.ownsRow w6.heap.size 9 1 v10 (ps++[sn]).length ((ps++[sn]).map Value.string):=by simpa using hE10
     obtain⟨fpP,hRP,hOP,-⟩:=Za6 (ok:=okStr) hE11 (λ i hi=>(Qa (List.getElem_mem hi)).elim (λ h=>by obtain⟨k,hk,e⟩:=List.getElem_of_mem h;rw [← e];exact HSZ.out k hk) (λ h=>by rw [Qm h];exact oksn))
     have HFB:Hid (∀ b∈fpP,w6.heap.size<=b):=λ b hb=>(hOP.2 b hb).1
     have HRP:=Qh hRP
     obtain⟨av,cv,hv,-⟩:=Zac hRP
     generalize (ps++[sn]).length=nv at hv
     subst hv
     clear hE10 hE11 hg10 kb hRP hOP hown
     have y0:=Qc 0 HMX.out
     have y1:=Qc 1 HMX.out
     have y2:=Qc 2 HMX.out
     have y3:=Qc 3 HMX.out
     have yf:=Qf 2 HMX.out
     have z0:=Qc 0 HZX.out
     have zf0:=Qf 0 HZX.out
     have z1:=Qc 1 HZX.out
     have zf1:=Qf 1 HZX.out
     have z2:=Qc 2 HZX.out
     have zf2:=Qf 2 HZX.out
     have z3:=Qc 3 HZX.out
     have zf3:=Qf 3 HZX.out
     have HS:=Qh (Zcc (w:=w) (wP:=w10.setCell ⟨w4.heap.size,2,none⟩ (.slice av nv cv)) (Zaw HZX.out (by omega:w.heap.size≠w4.heap.size) 2 (.slice av nv cv)) (sMacro.setB (show sMacro.R w10 [.string nm,.bool fb,.slice av nv cv,.slice a3 bd.length c3] ⟨nm,fb,ps++[sn],bd⟩ (fpP++fp3) from⟨_,_,fpP,fp3,rfl,HOK.out.1,HRP.out,HBX.out,rfl⟩) (λ hx=>(Qa hx).elim (λ h=>by have:=HFB.out _ h;omega) (λ h=>HX1.out (by simp [h]))) 2 (.slice av nv cv)) (λ hx=>(Qa hx).elim (λ h=>by have:=HFB.out _ h;omega) (λ h=>HX0.out (by simp [h]))) (rdSet HRX.out (by omega) 2 (.slice av nv cv)) (by omega) (ZbG HKX.out (by omega) (.slice av nv cv) 2) (Nat.le_refl _))
     have HOKF:Hid (okMac ⟨nm,fb,ps++[sn],bd⟩):=⟨by have:=HOK.out.2.1;show nm.size<=1000;omega,by show (ps++[sn]).length<=100;simp only [List.length_append,List.length_cons,List.length_nil];omega,by have:=HOK.out.2.2.2.1;show bd.length<=100;omega,λ t ht=>by rw [HOK.out.2.2.2.2 t ht];simp⟩
     have HLOF:Hid (∀ b∈fpP++fp3,w.heap.size<=b):=λ b hb=>(Qa hb).elim (λ h=>by have:=HFB.out _ h;omega) (λ h=>by have:=(HLO.out b (by simp [h])).1;omega)
     clear HLO))
   refine bodyPost_ret (results_cell_row rfl _ _ w.heap.size _ _ _ _ rfl HS.out.1 Tryz.underlying70 rfl (by kernel_rfl)) rfl ?_
   exact Ze5 HS.out.2.1 HOKF.out HLOF.out (by omega) HS.out.2.2.1 HS.out.2.2.2
  ·
   have y0:=Qc 0 HM7.out
   have y1:=Qc 1 HM7.out
   have y2:=Qc 2 HM7.out
   have y3:=Qc 3 HM7.out
   have yf:=Qf 1 HM7.out
   have z0:=Qc 0 HZ7.out
   have zf0:=Qf 0 HZ7.out
   have z1:=Qc 1 HZ7.out
   have zf1:=Qf 1 HZ7.out
   have z2:=Qc 2 HZ7.out
   have zf2:=Qf 2 HZ7.out
   have z3:=Qc 3 HZ7.out
   have zf3:=Qf 3 HZ7.out
   have HS:=Qh (Zcc (w:=w) (wP:=w6.setCell ⟨w4.heap.size,1,none⟩ (.bool (!fb))) (Zaw HZ7.out (by omega:w.heap.size≠w4.heap.size) 1 (.bool (!fb))) (sMacro.setB (show sMacro.R w6 [.string nm,.bool (!fb),.slice a2 ps.length c2,.slice a3 bd.length c3] ⟨nm,!fb,ps,bd⟩ (fp2++fp3) from⟨_,_,fp2,fp3,rfl,HOK.out.1,HP7.out,HB7.out,rfl⟩) HX1.out 1 (.bool (!fb))) HX0.out (rdSet HR7.out (by omega) 1 (.bool (!fb))) (by omega) (ZbG HK7.out (by omega) (.bool (!fb)) 1) (Nat.le_refl _))
   have HOKF:Hid (okMac ⟨nm,!fb,ps,bd⟩):=⟨by have:=HOK.out.2.1;show nm.size<=1000;omega,by have:=HOK.out.2.2.1;show ps.length<=100;omega,by have:=HOK.out.2.2.2.1;show bd.length<=100;omega,λ t ht=>by rw [HOK.out.2.2.2.2 t ht];simp⟩
   exact ZkL
  ·
   have hbl:=Zab w6 (.cells #[.int .i64 4,.string ⟨#[35,35]⟩,.bool false,.slice none 0 0] 57)
   have hlit:Hid (RowE sTok w6.heap.size 57 (.slice (some ⟨w6.heap.size,0,none⟩) 1 1) [(⟨[.int .i64 4,.string ⟨#[35,35]⟩,.bool false,.slice none 0 0],⟨4,⟨#[35,35]⟩,false,[]⟩,[]⟩:Elem Tok)] (w6.alloc (.cells #[.int .i64 4,.string ⟨#[35,35]⟩,.bool false,.slice none 0 0] 57))):=RowE.lit [(⟨[.int .i64 4,.string ⟨#[35,35]⟩,.bool false,.slice none 0 0],⟨4,⟨#[35,35]⟩,false,[]⟩,[]⟩:Elem Tok)] (by intro x hx;obtain rfl:=Qm hx;rfl) (by intro x hx;obtain rfl:=Qm hx;exact⟨_,rfl,⟨by decide,by decide⟩,by show okStr _;unfold okStr;decide,Zan sStr _ _ _ (by simp)⟩) (by intro x hx b hb;obtain rfl:=Qm hx;simp at hb) (by intro x hx b hb;obtain rfl:=Qm hx;simp at hb) (Nat.le_refl _) (by decide)
   have HMW:=Qh (mbox HM7.out hbl)
   have HZW:=Qh (mbox HZ7.out hbl)
   have HRW:=Qh (HR7.out.grow hbl)
   have HKW:=Qh (HK7.out.trans (Kept.of_below hbl))
   have HPW:=Qh ((Zaa sStr).below HP7.out hbl)
   have HBW:=Qh ((Zaa sTok).below HB7.out hbl)
   have y3:(w6.alloc (.cells #[.int .i64 4,.string ⟨#[35,35]⟩,.bool false,.slice none 0 0] 57)).cell? ⟨w4.heap.size,3,none⟩=some (.slice a3 bd.length c3):=Qc 3 HMW.out
   have hws:(w6.alloc (.cells #[.int .i64 4,.string ⟨#[35,35]⟩,.bool false,.slice none 0 0] 57)).heap.size=w6.heap.size+1:=Array.size_push _
   have HWS:=Qh hws
   clear hbl hws
   have hq1':q<=p+9:=by omega
   go_wp2_with (
    at_builtin
    refine Zc7 rfl (.tmp 69) (.tmp 71) rfl w6.heap.size (.slice (some ⟨w6.heap.size,0,none⟩) 1 1) (.slice a3 bd.length c3) [(⟨[.int .i64 4,.string ⟨#[35,35]⟩,.bool false,.slice none 0 0],⟨4,⟨#[35,35]⟩,false,[]⟩,[]⟩:Elem Tok)] bd fp3 rfl hlit.out rfl HBW.out HOK.out.2.2.2.2 (by have:=HOK.out.2.2.2.1;simp;omega) (by rw [HWS.out];omega) ?_
    intro v8 X w8 hX hXf hE hg
    have hown:∀ b,(Value.slice (some ⟨w6.heap.size,0,none⟩) 1 1).ownBlock=some b->w6.heap.size<=b:=hlit.out.mine
    have hlt6:w6.heap.size<(w6.alloc (.cells #[.int .i64 4,.string ⟨#[35,35]⟩,.bool false,.slice none 0 0] 57)).heap.size:=by rw [HWS.out];omega
    have kb:∀ b,b<w6.heap.size->w8.heap[b]?=((w6.alloc (.cells #[.int .i64 4,.string ⟨#[35,35]⟩,.bool false,.slice none 0 0] 57))).heap[b]?:=λ b hb=>hg.block b (by omega) (λ he=>by have:=hown b he.symm;omega)
    have HM8:=Qh ((kb _ (by omega)).trans HMW.out)
    have HZ8:=Qh ((kb _ (by omega)).trans HZW.out)
    have HR8:=Qh (ZcA HRW.out hg (by omega:rb<w6.heap.size) (λ b hb=>hown b hb))
    have HK8:=Qh (ZbP HKW.out hg (λ b hb=>by have:=hown b hb;omega))
    have HP8:=Qh ((Zaa sStr).frame (λ b hb=>kb b (by have:=(HLO.out b (by simp [hb])).2;omega)) HPW.out)
    obtain⟨fpB,hRB,hOB⟩:=Zfr hE (λ x hx=>(Qa hx).elim (λ h=>by obtain rfl:=Qm h;rfl) (hXf x))
    have HFB:Hid (∀ b∈fpB,w6.heap.size<=b):=λ b hb=>(hOB.2 b hb).1
    obtain⟨av,cv,hv,-⟩:=hE.val
    generalize ([(⟨[.int .i64 4,.string ⟨#[35,35]⟩,.bool false,.slice none 0 0],⟨4,⟨#[35,35]⟩,false,[]⟩,[]⟩:Elem Tok)]++X).length=nv at hv
    subst hv
    have HRB:=Qh hRB
    clear hE hg kb hRB hOB hown y3
    have y0:=Qc 0 HM8.out
    have y1:=Qc 1 HM8.out
    have y2:=Qc 2 HM8.out
    have y3:=Qc 3 HM8.out
    have yf:=Qf 3 HM8.out
    have z0:=Qc 0 HZ8.out
    have zf0:=Qf 0 HZ8.out
    have z1:=Qc 1 HZ8.out
    have zf1:=Qf 1 HZ8.out
    have z2:=Qc 2 HZ8.out
    have zf2:=Qf 2 HZ8.out
    have z3:=Qc 3 HZ8.out
    have zf3:=Qf 3 HZ8.out
    have HS:=Qh (Zcc (w:=w) (wP:=w8.setCell ⟨w4.heap.size,3,none⟩ (.slice av nv cv)) (Zaw HZ8.out (by omega:w.heap.size≠w4.heap.size) 3 (.slice av nv cv)) (sMacro.setB (show sMacro.R w8 [.string nm,.bool fb,.slice a2 ps.length c2,.slice av nv cv] ⟨nm,fb,ps,([(⟨[.int .i64 4,.string ⟨#[35,35]⟩,.bool false,.slice none 0 0],⟨4,⟨#[35,35]⟩,false,[]⟩,[]⟩:Elem Tok)]++X).map (·.d)⟩ (fp2++fpB) from⟨_,_,fp2,fpB,rfl,HOK.out.1,HP8.out,HRB.out,rfl⟩) (λ hx=>(Qa hx).elim (λ h=>HX1.out (by simp [h])) (λ h=>by have:=HFB.out _ h;omega)) 3 (.slice av nv cv)) (λ hx=>(Qa hx).elim (λ h=>HX0.out (by simp [h])) (λ h=>by have:=HFB.out _ h;omega)) (rdSet HR8.out (by omega) 3 (.slice av nv cv)) (by omega) (ZbG HK8.out (by omega) (.slice av nv cv) 3) (Nat.le_refl _))
    have HOKF:Hid (okMac ⟨nm,fb,ps,([(⟨[.int .i64 4,.string ⟨#[35,35]⟩,.bool false,.slice none 0 0],⟨4,⟨#[35,35]⟩,false,[]⟩,[]⟩:Elem Tok)]++X).map (·.d)⟩):=⟨by have:=HOK.out.2.1;show nm.size<=1000;omega,by have:=HOK.out.2.2.1;show ps.length<=100;omega,by rw [List.map_append,hX];simp;have:=HOK.out.2.2.2.1;omega,λ t ht=>by rw [List.map_append,hX] at ht;exact(Qa ht).elim (λ h=>by simp at h;rw [h];decide) (λ h=>by rw [HOK.out.2.2.2.2 t h];simp)⟩
    have HLOF:Hid (∀ b∈fp2++fpB,w.heap.size<=b):=λ b hb=>(Qa hb).elim (λ h=>by have:=(HLO.out b (by simp [h])).1;omega) (λ h=>by have:=HFB.out _ h;omega)
    clear HLO)
   refine bodyPost_ret (results_cell_row rfl _ _ w.heap.size _ _ _ _ rfl HS.out.1 Tryz.underlying70 rfl (by kernel_rfl)) rfl ?_
   exact Ze5 HS.out.2.1 HOKF.out HLOF.out (by omega) HS.out.2.2.1 HS.out.2.2.2
  ·
   have hbl:=Zab w6 (.cells #[] 57)
   have hlit:Hid (RowE sTok w6.heap.size 57 (.slice (some ⟨w6.heap.size,0,none⟩) 0 0) [] (w6.alloc (.cells #[] 57))):=RowE.lit [] (by simp) (by simp) (by simp) (by simp) (Nat.le_refl _) (by simp)
   have HMW:=Qh (mbox HM7.out hbl)
   have HZW:=Qh (mbox HZ7.out hbl)
   have HRW:=Qh (HR7.out.grow hbl)
   have HKW:=Qh (HK7.out.trans (Kept.of_below hbl))
   have HPW:=Qh ((Zaa sStr).below HP7.out hbl)
   have HBW:=Qh ((Zaa sTok).below HB7.out hbl)
   have y3:(w6.alloc (.cells #[] 57)).cell? ⟨w4.heap.size,3,none⟩=some (.slice a3 bd.length c3):=Qc 3 HMW.out
   have hws:(w6.alloc (.cells #[] 57)).heap.size=w6.heap.size+1:=Array.size_push _
   have HWS:=Qh hws
   clear hbl hws
   have hq1':q<=p+9:=by omega
   go_wp2_with (first
    |
     (
     at_builtin
     refine Zc7 rfl (.tmp 76) (.tmp 78) rfl w6.heap.size (.slice (some ⟨w6.heap.size,0,none⟩) 0 0) (.slice a3 bd.length c3) [] bd fp3 rfl hlit.out rfl HBW.out HOK.out.2.2.2.2 (by have:=HOK.out.2.2.2.1;simp;omega) (by rw [HWS.out];omega) ?_
     intro v8 X w8 hX hXf hE hg
     have hown:∀ b,(Value.slice (some ⟨w6.heap.size,0,none⟩) 0 0).ownBlock=some b->w6.heap.size<=b:=hlit.out.mine
     have hlt6:w6.heap.size<(w6.alloc (.cells #[] 57)).heap.size:=by rw [HWS.out];omega
     have kb:∀ b,b<w6.heap.size->w8.heap[b]?=((w6.alloc (.cells #[] 57))).heap[b]?:=λ b hb=>hg.block b (by omega) (λ he=>by have:=hown b he.symm;omega)
     have HM8:=Qh ((kb _ (by omega)).trans HMW.out)
     have HZ8:=Qh ((kb _ (by omega)).trans HZW.out)
     have HR8:=Qh (ZcA HRW.out hg (by omega:rb<w6.heap.size) (λ b hb=>hown b hb))
     have HK8:=Qh (ZbP HKW.out hg (λ b hb=>by have:=hown b hb;omega))
     have HP8:=Qh ((Zaa sStr).frame (λ b hb=>kb b (by have:=(HLO.out b (by simp [hb])).2;omega)) HPW.out)
     have hs8:w6.heap.size<w8.heap.size:=Nat.lt_of_lt_of_le hlt6 hg.size
     rw [List.nil_append] at hE
     obtain⟨a8,c8,hv8,-⟩:=hE.val
     obtain⟨n8,hn8⟩:∃ n,n=X.length:=⟨_,rfl⟩
     rw [← hn8] at hv8
     subst hv8
     have hn8b:n8<=20:=by have e:X.length=bd.length:=(by rw [← hX,List.length_map]);have:=HOK.out.2.2.2.1;omega
     have HN8:=Qh hn8
     have HX8:=Qh hX
     have HE8:=Qh hE
     clear hE hg kb hown y3 hn8 hX hXf hlit)
    |
     (
     at_builtin
     refine Zb2 rfl (.tmp 79) (.tmp 81) rfl w6.heap.size (.slice a8 n8 c8) X rfl HE8.out 4 ⟨#[35]⟩ false none 0 0 [] [] rfl (⟨_,rfl,⟨by decide,by decide⟩,by show okStr _;unfold okStr;decide,Zan sStr _ _ _ (by simp)⟩) (by simp) (by simp) (by rw [← HN8.out];omega) (by skip;omega) ?_
     intro v10 w10 hE10 hg10
     have hown:=HE8.out.mine
     have kb:∀ b,b<w6.heap.size->w10.heap[b]?=w8.heap[b]?:=λ b hb=>hg10.block b (by skip;omega) (λ he=>by have:=hown b he.symm;omega)
     have HMX:=Qh ((kb _ (by omega)).trans HM8.out)
     have HZX:=Qh ((kb _ (by omega)).trans HZ8.out)
     have HRX:=Qh (ZcA HR8.out hg10 (by omega:rb<w6.heap.size) (λ b hb=>hown b hb))
     have HKX:=Qh (ZbP HK8.out hg10 (λ b hb=>by have:=hown b hb;omega))
     have HPX:=Qh ((Zaa sStr).frame (λ b hb=>kb b (by have:=(HLO.out b (by simp [hb])).2;omega)) HP8.out)
     obtain⟨fpB,hRB,hOB⟩:=hE10.read
     have HFB:Hid (∀ b∈fpB,w6.heap.size<=b):=hOB
     have HRB:=Qh hRB
     obtain⟨av,cv,hv,-⟩:=hE10.val
     generalize (X++[(⟨[.int .i64 4,.string ⟨#[35]⟩,.bool false,.slice none 0 0],⟨4,⟨#[35]⟩,false,[]⟩,[]⟩:Elem Tok)]).length=nv at hv
     subst hv
     clear hE10 hg10 kb hRB hOB hown
     have y0:=Qc 0 HMX.out
     have y1:=Qc 1 HMX.out
     have y2:=Qc 2 HMX.out
     have y3:=Qc 3 HMX.out
     have yf:=Qf 3 HMX.out
     have z0:=Qc 0 HZX.out
     have zf0:=Qf 0 HZX.out
     have z1:=Qc 1 HZX.out
     have zf1:=Qf 1 HZX.out
     have z2:=Qc 2 HZX.out
     have zf2:=Qf 2 HZX.out
     have z3:=Qc 3 HZX.out
     have zf3:=Qf 3 HZX.out
     have HS:=Qh (Zcc (w:=w) (wP:=w10.setCell ⟨w4.heap.size,3,none⟩ (.slice av nv cv)) (Zaw HZX.out (by omega:w.heap.size≠w4.heap.size) 3 (.slice av nv cv)) (sMacro.setB (show sMacro.R w10 [.string nm,.bool fb,.slice a2 ps.length c2,.slice av nv cv] ⟨nm,fb,ps,(X++[(⟨[.int .i64 4,.string ⟨#[35]⟩,.bool false,.slice none 0 0],⟨4,⟨#[35]⟩,false,[]⟩,[]⟩:Elem Tok)]).map (·.d)⟩ (fp2++fpB) from⟨_,_,fp2,fpB,rfl,HOK.out.1,HPX.out,HRB.out,rfl⟩) (λ hx=>(Qa hx).elim (λ h=>HX1.out (by simp [h])) (λ h=>by have:=HFB.out _ h;omega)) 3 (.slice av nv cv)) (λ hx=>(Qa hx).elim (λ h=>HX0.out (by simp [h])) (λ h=>by have:=HFB.out _ h;omega)) (rdSet HRX.out (by omega) 3 (.slice av nv cv)) (by omega) (ZbG HKX.out (by omega) (.slice av nv cv) 3) (Nat.le_refl _))
     have HOKF:Hid (okMac ⟨nm,fb,ps,(X++[(⟨[.int .i64 4,.string ⟨#[35]⟩,.bool false,.slice none 0 0],⟨4,⟨#[35]⟩,false,[]⟩,[]⟩:Elem Tok)]).map (·.d)⟩):=⟨by have:=HOK.out.2.1;show nm.size<=1000;omega,by have:=HOK.out.2.2.1;show ps.length<=100;omega,by rw [List.map_append,HX8.out];simp;have:=HOK.out.2.2.2.1;omega,λ t ht=>by rw [List.map_append,HX8.out] at ht;exact(Qa ht).elim (λ h=>by rw [HOK.out.2.2.2.2 t h];simp) (λ h=>by simp at h;rw [h];decide)⟩
     have HLOF:Hid (∀ b∈fp2++fpB,w.heap.size<=b):=λ b hb=>(Qa hb).elim (λ h=>by have:=(HLO.out b (by simp [h])).1;omega) (λ h=>by have:=HFB.out _ h;omega)
     clear HLO))
   refine bodyPost_ret (results_cell_row rfl _ _ w.heap.size _ _ _ _ rfl HS.out.1 Tryz.underlying70 rfl (by kernel_rfl)) rfl ?_
   exact Ze5 HS.out.2.1 HOKF.out HLOF.out (by omega) HS.out.2.2.1 HS.out.2.2.2
  ·
   have hbl:=Zab w6 (.cells #[] 57)
   have hlit:Hid (RowE sTok w6.heap.size 57 (.slice (some ⟨w6.heap.size,0,none⟩) 0 0) [] (w6.alloc (.cells #[] 57))):=RowE.lit [] (by simp) (by simp) (by simp) (by simp) (Nat.le_refl _) (by simp)
   have HMW:=Qh (mbox HM7.out hbl)
   have HZW:=Qh (mbox HZ7.out hbl)
   have HRW:=Qh (HR7.out.grow hbl)
   have HKW:=Qh (HK7.out.trans (Kept.of_below hbl))
   have HPW:=Qh ((Zaa sStr).below HP7.out hbl)
   have HBW:=Qh ((Zaa sTok).below HB7.out hbl)
   have y3:(w6.alloc (.cells #[] 57)).cell? ⟨w4.heap.size,3,none⟩=some (.slice a3 bd.length c3):=Qc 3 HMW.out
   have hws:(w6.alloc (.cells #[] 57)).heap.size=w6.heap.size+1:=Array.size_push _
   have HWS:=Qh hws
   clear hbl hws
   have hq1':q<=p+9:=by omega
   go_wp2_with (first
    |
     (
     at_builtin
     refine Zc7 rfl (.tmp 86) (.tmp 88) rfl w6.heap.size (.slice (some ⟨w6.heap.size,0,none⟩) 0 0) (.slice a3 bd.length c3) [] bd fp3 rfl hlit.out rfl HBW.out HOK.out.2.2.2.2 (by have:=HOK.out.2.2.2.1;simp;omega) (by rw [HWS.out];omega) ?_
     intro v8 X w8 hX hXf hE hg
     have hown:∀ b,(Value.slice (some ⟨w6.heap.size,0,none⟩) 0 0).ownBlock=some b->w6.heap.size<=b:=hlit.out.mine
     have hlt6:w6.heap.size<(w6.alloc (.cells #[] 57)).heap.size:=by rw [HWS.out];omega
     have kb:∀ b,b<w6.heap.size->w8.heap[b]?=((w6.alloc (.cells #[] 57))).heap[b]?:=λ b hb=>hg.block b (by omega) (λ he=>by have:=hown b he.symm;omega)
     have HM8:=Qh ((kb _ (by omega)).trans HMW.out)
     have HZ8:=Qh ((kb _ (by omega)).trans HZW.out)
     have HR8:=Qh (ZcA HRW.out hg (by omega:rb<w6.heap.size) (λ b hb=>hown b hb))
     have HK8:=Qh (ZbP HKW.out hg (λ b hb=>by have:=hown b hb;omega))
     have HP8:=Qh ((Zaa sStr).frame (λ b hb=>kb b (by have:=(HLO.out b (by simp [hb])).2;omega)) HPW.out)
     have hs8:w6.heap.size<w8.heap.size:=Nat.lt_of_lt_of_le hlt6 hg.size
     rw [List.nil_append] at hE
     obtain⟨a8,c8,hv8,-⟩:=hE.val
     obtain⟨n8,hn8⟩:∃ n,n=X.length:=⟨_,rfl⟩
     rw [← hn8] at hv8
     subst hv8
     have hn8b:n8<=20:=by have e:X.length=bd.length:=(by rw [← hX,List.length_map]);have:=HOK.out.2.2.2.1;omega
     have HN8:=Qh hn8
     have HX8:=Qh hX
     have HE8:=Qh hE
     have hbh:=Zab w8 (.cells #[.string ⟨#[97]⟩] 9)
     have hh:(w8.alloc (.cells #[.string ⟨#[97]⟩] 9)).ownsRow w8.heap.size 9 1 (.slice (some ⟨w8.heap.size,0,none⟩) 1 1) 1 (([⟨#[97]⟩]:List ByteArray).map Value.string):=World.ownsRow_lit (base:=w8.heap.size) (e:=9) (size:=1) w8 #[.string ⟨#[97]⟩] 1 (Nat.le_refl _) (by unfold maxLen;omega) rfl
     obtain⟨fpH,RH,OH,hfpH⟩:=Za6 (ok:=okStr) hh (by intro i hi;have e:i=0:=(by simp at hi;omega);subst e;exact(show okStr (⟨#[97]⟩:ByteArray) by unfold okStr;decide))
     have HTT:Hid (∀ b∈fpH,∃ cur t fr,(w8.alloc (.cells #[.string ⟨#[97]⟩] 9)).heap[b]?=some (.cells cur t fr)/\t≠57):=λ b hb=>by
      have e:=hfpH b hb
      simp only [Value.ownBlock,Qi] at e
      subst e
      exact⟨_,_,_,heap_alloc_new w8 _,by decide⟩
     have HLH:Hid (∀ b∈fpH,w6.heap.size<=b):=λ b hb=>by have:=(OH.2 b hb).1;omega
     have HRH:Hid (sTok.R (w8.alloc (.cells #[.string ⟨#[97]⟩] 9)) [.int .i64 1,.string ⟨#[97]⟩,.bool false,.slice (some ⟨w8.heap.size,0,none⟩) 1 1] ⟨1,⟨#[97]⟩,false,[⟨#[97]⟩]⟩ fpH):=⟨_,rfl,⟨by decide,by decide⟩,by show okStr _;unfold okStr;decide,RH⟩
     have HW9:Hid ((w8.alloc (.cells #[.string ⟨#[97]⟩] 9)).heap.size=w8.heap.size+1):=Array.size_push _
     have HM9:=Qh (mbox HM8.out hbh)
     have HZ9:=Qh (mbox HZ8.out hbh)
     have HR9:=Qh (HR8.out.grow hbh)
     have HK9:=Qh (HK8.out.trans (Kept.of_below hbh))
     have HP9:=Qh ((Zaa sStr).below HP8.out hbh)
     have HE9:=Qh (HE8.out.below hbh)
     clear hbh hh RH OH hfpH HM8 HZ8 HR8 HK8 HP8 HE8
     clear hE hg kb hown y3 hn8 hX hXf hlit)
    |
     (
     at_builtin
     refine Zb2 rfl (.tmp 89) (.tmp 92) rfl w6.heap.size (.slice a8 n8 c8) X rfl HE9.out 1 ⟨#[97]⟩ false (some ⟨w8.heap.size,0,none⟩) 1 1 [⟨#[97]⟩] fpH (by rw [HW9.out];rfl) HRH.out HLH.out HTT.out (by rw [← HN8.out];omega) (by rw [HW9.out];omega) ?_
     intro v10 w10 hE10 hg10
     have hown:=HE9.out.mine
     have kb:∀ b,b<w6.heap.size->w10.heap[b]?=(w8.alloc (.cells #[.string ⟨#[97]⟩] 9)).heap[b]?:=λ b hb=>hg10.block b (by rw [HW9.out];omega) (λ he=>by have:=hown b he.symm;omega)
     have HMX:=Qh ((kb _ (by omega)).trans HM9.out)
     have HZX:=Qh ((kb _ (by omega)).trans HZ9.out)
     have HRX:=Qh (ZcA HR9.out hg10 (by omega:rb<w6.heap.size) (λ b hb=>hown b hb))
     have HKX:=Qh (ZbP HK9.out hg10 (λ b hb=>by have:=hown b hb;omega))
     have HPX:=Qh ((Zaa sStr).frame (λ b hb=>kb b (by have:=(HLO.out b (by simp [hb])).2;omega)) HP9.out)
     obtain⟨fpB,hRB,hOB⟩:=hE10.read
     have HFB:Hid (∀ b∈fpB,w6.heap.size<=b):=hOB
     have HRB:=Qh hRB
     obtain⟨av,cv,hv,-⟩:=hE10.val
     generalize (X++[(⟨[.int .i64 1,.string ⟨#[97]⟩,.bool false,.slice (some ⟨w8.heap.size,0,none⟩) 1 1],⟨1,⟨#[97]⟩,false,[⟨#[97]⟩]⟩,fpH⟩:Elem Tok)]).length=nv at hv
     subst hv
     clear hE10 hg10 kb hRB hOB hown
     have y0:=Qc 0 HMX.out
     have y1:=Qc 1 HMX.out
     have y2:=Qc 2 HMX.out
     have y3:=Qc 3 HMX.out
     have yf:=Qf 3 HMX.out
     have z0:=Qc 0 HZX.out
     have zf0:=Qf 0 HZX.out
     have z1:=Qc 1 HZX.out
     have zf1:=Qf 1 HZX.out
     have z2:=Qc 2 HZX.out
     have zf2:=Qf 2 HZX.out
     have z3:=Qc 3 HZX.out
     have zf3:=Qf 3 HZX.out
     have HS:=Qh (Zcc (w:=w) (wP:=w10.setCell ⟨w4.heap.size,3,none⟩ (.slice av nv cv)) (Zaw HZX.out (by omega:w.heap.size≠w4.heap.size) 3 (.slice av nv cv)) (sMacro.setB (show sMacro.R w10 [.string nm,.bool fb,.slice a2 ps.length c2,.slice av nv cv] ⟨nm,fb,ps,(X++[(⟨[.int .i64 1,.string ⟨#[97]⟩,.bool false,.slice (some ⟨w8.heap.size,0,none⟩) 1 1],⟨1,⟨#[97]⟩,false,[⟨#[97]⟩]⟩,fpH⟩:Elem Tok)]).map (·.d)⟩ (fp2++fpB) from⟨_,_,fp2,fpB,rfl,HOK.out.1,HPX.out,HRB.out,rfl⟩) (λ hx=>(Qa hx).elim (λ h=>HX1.out (by simp [h])) (λ h=>by have:=HFB.out _ h;omega)) 3 (.slice av nv cv)) (λ hx=>(Qa hx).elim (λ h=>HX0.out (by simp [h])) (λ h=>by have:=HFB.out _ h;omega)) (rdSet HRX.out (by omega) 3 (.slice av nv cv)) (by omega) (ZbG HKX.out (by omega) (.slice av nv cv) 3) (Nat.le_refl _))
     have HOKF:Hid (okMac ⟨nm,fb,ps,(X++[(⟨[.int .i64 1,.string ⟨#[97]⟩,.bool false,.slice (some ⟨w8.heap.size,0,none⟩) 1 1],⟨1,⟨#[97]⟩,false,[⟨#[97]⟩]⟩,fpH⟩:Elem Tok)]).map (·.d)⟩):=⟨by have:=HOK.out.2.1;show nm.size<=1000;omega,by have:=HOK.out.2.2.1;show ps.length<=100;omega,by rw [List.map_append,HX8.out];simp;have:=HOK.out.2.2.2.1;omega,λ t ht=>by rw [List.map_append,HX8.out] at ht;exact(Qa ht).elim (λ h=>by rw [HOK.out.2.2.2.2 t h];simp) (λ h=>by simp at h;rw [h];decide)⟩
     have HLOF:Hid (∀ b∈fp2++fpB,w.heap.size<=b):=λ b hb=>(Qa hb).elim (λ h=>by have:=(HLO.out b (by simp [h])).1;omega) (λ h=>by have:=HFB.out _ h;omega)
     clear HLO))
   refine bodyPost_ret (results_cell_row rfl _ _ w.heap.size _ _ _ _ rfl HS.out.1 Tryz.underlying70 rfl (by kernel_rfl)) rfl ?_
   exact Ze5 HS.out.2.1 HOKF.out HLOF.out (by omega) HS.out.2.2.1 HS.out.2.2.2
  ·
   have hbl:=Zab w6 (.cells #[.int .i64 1,.string ⟨#[97]⟩,.bool true,.slice none 0 0] 57)
   have hlit:RowE sTok w6.heap.size 57 (.slice (some ⟨w6.heap.size,0,none⟩) 1 1) [(⟨[.int .i64 1,.string ⟨#[97]⟩,.bool true,.slice none 0 0],⟨1,⟨#[97]⟩,true,[]⟩,[]⟩:Elem Tok)] (w6.alloc (.cells #[.int .i64 1,.string ⟨#[97]⟩,.bool true,.slice none 0 0] 57)):=RowE.lit [(⟨[.int .i64 1,.string ⟨#[97]⟩,.bool true,.slice none 0 0],⟨1,⟨#[97]⟩,true,[]⟩,[]⟩:Elem Tok)] (by intro x hx;simp only [List.mem_cons,List.not_mem_nil,or_false] at hx;rcases hx with rfl <;> rfl) (by intro x hx;simp only [List.mem_cons,List.not_mem_nil,or_false] at hx;rcases hx with rfl <;> exact⟨_,rfl,⟨by decide,by decide⟩,by show okStr _;unfold okStr;decide,Zan sStr _ _ _ (by simp)⟩) (by intro x hx b hb;simp only [List.mem_cons,List.not_mem_nil,or_false] at hx;rcases hx with rfl <;> simp at hb) (by intro x hx b hb;simp only [List.mem_cons,List.not_mem_nil,or_false] at hx;rcases hx with rfl <;> simp at hb) (Nat.le_refl _) (by decide)
   obtain⟨fpB,hRB,hOB⟩:=Zfr hlit (by intro x hx;simp only [List.mem_cons,List.not_mem_nil,or_false] at hx;rcases hx with rfl <;> rfl)
   have HFB:Hid (∀ b∈fpB,w6.heap.size<=b):=λ b hb=>(hOB.2 b hb).1
   have HRB:=Qh hRB
   have HMW:=Qh (mbox HM7.out hbl)
   have HZW:=Qh (mbox HZ7.out hbl)
   have HRW:=Qh (HR7.out.grow hbl)
   have HKW:=Qh (HK7.out.trans (Kept.of_below hbl))
   have HPW:=Qh ((Zaa sStr).below HP7.out hbl)
   clear hlit hRB hOB hbl
   have x0:(w6.alloc (.cells #[.int .i64 1,.string ⟨#[97]⟩,.bool true,.slice none 0 0] 57)).cell? ⟨w4.heap.size,0,none⟩=some (.string nm):=Qc 0 HMW.out
   have x1:(w6.alloc (.cells #[.int .i64 1,.string ⟨#[97]⟩,.bool true,.slice none 0 0] 57)).cell? ⟨w4.heap.size,1,none⟩=some (.bool fb):=Qc 1 HMW.out
   have x2:(w6.alloc (.cells #[.int .i64 1,.string ⟨#[97]⟩,.bool true,.slice none 0 0] 57)).cell? ⟨w4.heap.size,2,none⟩=some (.slice a2 ps.length c2):=Qc 2 HMW.out
   have x3:(w6.alloc (.cells #[.int .i64 1,.string ⟨#[97]⟩,.bool true,.slice none 0 0] 57)).cell? ⟨w4.heap.size,3,none⟩=some (.slice a3 bd.length c3):=Qc 3 HMW.out
   have xf:(w6.alloc (.cells #[.int .i64 1,.string ⟨#[97]⟩,.bool true,.slice none 0 0] 57)).frozen? ⟨w4.heap.size,3,none⟩=false:=frozen_of_row _ _ 3 _ _ HMW.out
   have eW:(w6.alloc (.cells #[.int .i64 1,.string ⟨#[97]⟩,.bool true,.slice none 0 0] 57)).setCell ⟨w4.heap.size,3,none⟩ (.slice (some ⟨w6.heap.size,0,none⟩) 1 1)=((w6.setCell ⟨w4.heap.size,3,none⟩ (.slice (some ⟨w6.heap.size,0,none⟩) 1 1)).alloc (.cells #[.int .i64 1,.string ⟨#[97]⟩,.bool true,.slice none 0 0] 57)):=World.setCell_alloc_past _ _ _ _ hs6
   have HMS:=Qh (eW ▸ Zah HMW.out 3 (.slice (some ⟨w6.heap.size,0,none⟩) 1 1))
   have HZS:=Qh (eW ▸ Zaw HZW.out (by omega:w.heap.size≠w4.heap.size) 3 (.slice (some ⟨w6.heap.size,0,none⟩) 1 1))
   have HRS:=Qh (eW ▸ rdSet HRW.out (by omega:rb<w4.heap.size) 3 (.slice (some ⟨w6.heap.size,0,none⟩) 1 1))
   have HKS:=Qh (eW ▸ ZbG HKW.out (by omega:w.heap.size<=w4.heap.size) (.slice (some ⟨w6.heap.size,0,none⟩) 1 1) 3)
   have HPS:=Qh (eW ▸ (Zaa sStr).setB HPW.out (λ hx=>HX1.out (by simp [hx])) 3 (.slice (some ⟨w6.heap.size,0,none⟩) 1 1))
   have HBS:=Qh (eW ▸ (Zaa sTok).setB HRB.out (λ hx=>by have:=HFB.out _ hx;omega) 3 (.slice (some ⟨w6.heap.size,0,none⟩) 1 1))
   clear eW HMW HZW HRW HKW HPW HRB
   have y0:((w6.setCell ⟨w4.heap.size,3,none⟩ (.slice (some ⟨w6.heap.size,0,none⟩) 1 1)).alloc (.cells #[.int .i64 1,.string ⟨#[97]⟩,.bool true,.slice none 0 0] 57)).cell? ⟨w4.heap.size,0,none⟩=some (.string nm):=Qc 0 HMS.out
   have y1:((w6.setCell ⟨w4.heap.size,3,none⟩ (.slice (some ⟨w6.heap.size,0,none⟩) 1 1)).alloc (.cells #[.int .i64 1,.string ⟨#[97]⟩,.bool true,.slice none 0 0] 57)).cell? ⟨w4.heap.size,1,none⟩=some (.bool fb):=Qc 1 HMS.out
   have y2:((w6.setCell ⟨w4.heap.size,3,none⟩ (.slice (some ⟨w6.heap.size,0,none⟩) 1 1)).alloc (.cells #[.int .i64 1,.string ⟨#[97]⟩,.bool true,.slice none 0 0] 57)).cell? ⟨w4.heap.size,2,none⟩=some (.slice a2 ps.length c2):=Qc 2 HMS.out
   have y3:((w6.setCell ⟨w4.heap.size,3,none⟩ (.slice (some ⟨w6.heap.size,0,none⟩) 1 1)).alloc (.cells #[.int .i64 1,.string ⟨#[97]⟩,.bool true,.slice none 0 0] 57)).cell? ⟨w4.heap.size,3,none⟩=some (.slice (some ⟨w6.heap.size,0,none⟩) 1 1):=Qc 3 HMS.out
   have z0:((w6.setCell ⟨w4.heap.size,3,none⟩ (.slice (some ⟨w6.heap.size,0,none⟩) 1 1)).alloc (.cells #[.int .i64 1,.string ⟨#[97]⟩,.bool true,.slice none 0 0] 57)).cell? ⟨w.heap.size,0,none⟩=some (.string ⟨#[]⟩):=Qc 0 HZS.out
   have zf0:((w6.setCell ⟨w4.heap.size,3,none⟩ (.slice (some ⟨w6.heap.size,0,none⟩) 1 1)).alloc (.cells #[.int .i64 1,.string ⟨#[97]⟩,.bool true,.slice none 0 0] 57)).frozen? ⟨w.heap.size,0,none⟩=false:=frozen_of_row _ _ 0 _ _ HZS.out
   have z1:((w6.setCell ⟨w4.heap.size,3,none⟩ (.slice (some ⟨w6.heap.size,0,none⟩) 1 1)).alloc (.cells #[.int .i64 1,.string ⟨#[97]⟩,.bool true,.slice none 0 0] 57)).cell? ⟨w.heap.size,1,none⟩=some (.bool false):=Qc 1 HZS.out
   have zf1:((w6.setCell ⟨w4.heap.size,3,none⟩ (.slice (some ⟨w6.heap.size,0,none⟩) 1 1)).alloc (.cells #[.int .i64 1,.string ⟨#[97]⟩,.bool true,.slice none 0 0] 57)).frozen? ⟨w.heap.size,1,none⟩=false:=frozen_of_row _ _ 1 _ _ HZS.out
   have z2:((w6.setCell ⟨w4.heap.size,3,none⟩ (.slice (some ⟨w6.heap.size,0,none⟩) 1 1)).alloc (.cells #[.int .i64 1,.string ⟨#[97]⟩,.bool true,.slice none 0 0] 57)).cell? ⟨w.heap.size,2,none⟩=some (.slice none 0 0):=Qc 2 HZS.out
   have zf2:((w6.setCell ⟨w4.heap.size,3,none⟩ (.slice (some ⟨w6.heap.size,0,none⟩) 1 1)).alloc (.cells #[.int .i64 1,.string ⟨#[97]⟩,.bool true,.slice none 0 0] 57)).frozen? ⟨w.heap.size,2,none⟩=false:=frozen_of_row _ _ 2 _ _ HZS.out
   have z3:((w6.setCell ⟨w4.heap.size,3,none⟩ (.slice (some ⟨w6.heap.size,0,none⟩) 1 1)).alloc (.cells #[.int .i64 1,.string ⟨#[97]⟩,.bool true,.slice none 0 0] 57)).cell? ⟨w.heap.size,3,none⟩=some (.slice none 0 0):=Qc 3 HZS.out
   have zf3:((w6.setCell ⟨w4.heap.size,3,none⟩ (.slice (some ⟨w6.heap.size,0,none⟩) 1 1)).alloc (.cells #[.int .i64 1,.string ⟨#[97]⟩,.bool true,.slice none 0 0] 57)).frozen? ⟨w.heap.size,3,none⟩=false:=frozen_of_row _ _ 3 _ _ HZS.out
   have HS:=Qh (Zcc (w:=w) (wP:=((w6.setCell ⟨w4.heap.size,3,none⟩ (.slice (some ⟨w6.heap.size,0,none⟩) 1 1)).alloc (.cells #[.int .i64 1,.string ⟨#[97]⟩,.bool true,.slice none 0 0] 57))) HZS.out (show sMacro.R ((w6.setCell ⟨w4.heap.size,3,none⟩ (.slice (some ⟨w6.heap.size,0,none⟩) 1 1)).alloc (.cells #[.int .i64 1,.string ⟨#[97]⟩,.bool true,.slice none 0 0] 57)) [.string nm,.bool fb,.slice a2 ps.length c2,.slice (some ⟨w6.heap.size,0,none⟩) 1 1] ⟨nm,fb,ps,([(⟨[.int .i64 1,.string ⟨#[97]⟩,.bool true,.slice none 0 0],⟨1,⟨#[97]⟩,true,[]⟩,[]⟩:Elem Tok)]).map (·.d)⟩ (fp2++fpB) from⟨_,_,fp2,fpB,rfl,HOK.out.1,HPS.out,HBS.out,rfl⟩) (λ hx=>(Qa hx).elim (λ h=>HX0.out (by simp [h])) (λ h=>by have:=HFB.out _ h;omega)) HRS.out (by omega) HKS.out (Nat.le_refl _))
   have HOKF:Hid (okMac ⟨nm,fb,ps,([(⟨[.int .i64 1,.string ⟨#[97]⟩,.bool true,.slice none 0 0],⟨1,⟨#[97]⟩,true,[]⟩,[]⟩:Elem Tok)]).map (·.d)⟩):=⟨by have:=HOK.out.2.1;show nm.size<=1000;omega,by have:=HOK.out.2.2.1;show ps.length<=100;omega,by show (1:Nat)<=100;omega,λ t ht=>by simp only [List.map_cons,List.map_nil,List.mem_cons,List.not_mem_nil,or_false] at ht;rcases ht with rfl <;> decide⟩
   exact Y10A14
  ·
   have hbl:=Zab w6 (.cells #[.int .i64 1,.string ⟨#[97]⟩,.bool false,.slice none 0 0,.int .i64 4,.string ⟨#[35,35]⟩,.bool false,.slice none 0 0,.int .i64 4,.string ⟨#[35,35]⟩,.bool false,.slice none 0 0,.int .i64 1,.string ⟨#[98]⟩,.bool false,.slice none 0 0] 57)
   have hlit:RowE sTok w6.heap.size 57 (.slice (some ⟨w6.heap.size,0,none⟩) 4 4) [(⟨[.int .i64 1,.string ⟨#[97]⟩,.bool false,.slice none 0 0],⟨1,⟨#[97]⟩,false,[]⟩,[]⟩:Elem Tok),(⟨[.int .i64 4,.string ⟨#[35,35]⟩,.bool false,.slice none 0 0],⟨4,⟨#[35,35]⟩,false,[]⟩,[]⟩:Elem Tok),(⟨[.int .i64 4,.string ⟨#[35,35]⟩,.bool false,.slice none 0 0],⟨4,⟨#[35,35]⟩,false,[]⟩,[]⟩:Elem Tok),(⟨[.int .i64 1,.string ⟨#[98]⟩,.bool false,.slice none 0 0],⟨1,⟨#[98]⟩,false,[]⟩,[]⟩:Elem Tok)] (w6.alloc (.cells #[.int .i64 1,.string ⟨#[97]⟩,.bool false,.slice none 0 0,.int .i64 4,.string ⟨#[35,35]⟩,.bool false,.slice none 0 0,.int .i64 4,.string ⟨#[35,35]⟩,.bool false,.slice none 0 0,.int .i64 1,.string ⟨#[98]⟩,.bool false,.slice none 0 0] 57)):=RowE.lit [(⟨[.int .i64 1,.string ⟨#[97]⟩,.bool false,.slice none 0 0],⟨1,⟨#[97]⟩,false,[]⟩,[]⟩:Elem Tok),(⟨[.int .i64 4,.string ⟨#[35,35]⟩,.bool false,.slice none 0 0],⟨4,⟨#[35,35]⟩,false,[]⟩,[]⟩:Elem Tok),(⟨[.int .i64 4,.string ⟨#[35,35]⟩,.bool false,.slice none 0 0],⟨4,⟨#[35,35]⟩,false,[]⟩,[]⟩:Elem Tok),(⟨[.int .i64 1,.string ⟨#[98]⟩,.bool false,.slice none 0 0],⟨1,⟨#[98]⟩,false,[]⟩,[]⟩:Elem Tok)] (by intro x hx;simp only [List.mem_cons,List.not_mem_nil,or_false] at hx;rcases hx with rfl | rfl | rfl | rfl <;> rfl) (by intro x hx;simp only [List.mem_cons,List.not_mem_nil,or_false] at hx;rcases hx with rfl | rfl | rfl | rfl <;> exact⟨_,rfl,⟨by decide,by decide⟩,by show okStr _;unfold okStr;decide,Zan sStr _ _ _ (by simp)⟩) (by intro x hx b hb;simp only [List.mem_cons,List.not_mem_nil,or_false] at hx;rcases hx with rfl | rfl | rfl | rfl <;> simp at hb) (by intro x hx b hb;simp only [List.mem_cons,List.not_mem_nil,or_false] at hx;rcases hx with rfl | rfl | rfl | rfl <;> simp at hb) (Nat.le_refl _) (by decide)
   obtain⟨fpB,hRB,hOB⟩:=Zfr hlit (by intro x hx;simp only [List.mem_cons,List.not_mem_nil,or_false] at hx;rcases hx with rfl | rfl | rfl | rfl <;> rfl)
   have HFB:Hid (∀ b∈fpB,w6.heap.size<=b):=λ b hb=>(hOB.2 b hb).1
   have HRB:=Qh hRB
   have HMW:=Qh (mbox HM7.out hbl)
   have HZW:=Qh (mbox HZ7.out hbl)
   have HRW:=Qh (HR7.out.grow hbl)
   have HKW:=Qh (HK7.out.trans (Kept.of_below hbl))
   have HPW:=Qh ((Zaa sStr).below HP7.out hbl)
   clear hlit hRB hOB hbl
   have x0:(w6.alloc (.cells #[.int .i64 1,.string ⟨#[97]⟩,.bool false,.slice none 0 0,.int .i64 4,.string ⟨#[35,35]⟩,.bool false,.slice none 0 0,.int .i64 4,.string ⟨#[35,35]⟩,.bool false,.slice none 0 0,.int .i64 1,.string ⟨#[98]⟩,.bool false,.slice none 0 0] 57)).cell? ⟨w4.heap.size,0,none⟩=some (.string nm):=Qc 0 HMW.out
   have x1:(w6.alloc (.cells #[.int .i64 1,.string ⟨#[97]⟩,.bool false,.slice none 0 0,.int .i64 4,.string ⟨#[35,35]⟩,.bool false,.slice none 0 0,.int .i64 4,.string ⟨#[35,35]⟩,.bool false,.slice none 0 0,.int .i64 1,.string ⟨#[98]⟩,.bool false,.slice none 0 0] 57)).cell? ⟨w4.heap.size,1,none⟩=some (.bool fb):=Qc 1 HMW.out
   have x2:(w6.alloc (.cells #[.int .i64 1,.string ⟨#[97]⟩,.bool false,.slice none 0 0,.int .i64 4,.string ⟨#[35,35]⟩,.bool false,.slice none 0 0,.int .i64 4,.string ⟨#[35,35]⟩,.bool false,.slice none 0 0,.int .i64 1,.string ⟨#[98]⟩,.bool false,.slice none 0 0] 57)).cell? ⟨w4.heap.size,2,none⟩=some (.slice a2 ps.length c2):=Qc 2 HMW.out
   have x3:(w6.alloc (.cells #[.int .i64 1,.string ⟨#[97]⟩,.bool false,.slice none 0 0,.int .i64 4,.string ⟨#[35,35]⟩,.bool false,.slice none 0 0,.int .i64 4,.string ⟨#[35,35]⟩,.bool false,.slice none 0 0,.int .i64 1,.string ⟨#[98]⟩,.bool false,.slice none 0 0] 57)).cell? ⟨w4.heap.size,3,none⟩=some (.slice a3 bd.length c3):=Qc 3 HMW.out
   have xf:(w6.alloc (.cells #[.int .i64 1,.string ⟨#[97]⟩,.bool false,.slice none 0 0,.int .i64 4,.string ⟨#[35,35]⟩,.bool false,.slice none 0 0,.int .i64 4,.string ⟨#[35,35]⟩,.bool false,.slice none 0 0,.int .i64 1,.string ⟨#[98]⟩,.bool false,.slice none 0 0] 57)).frozen? ⟨w4.heap.size,3,none⟩=false:=frozen_of_row _ _ 3 _ _ HMW.out
   have eW:(w6.alloc (.cells #[.int .i64 1,.string ⟨#[97]⟩,.bool false,.slice none 0 0,.int .i64 4,.string ⟨#[35,35]⟩,.bool false,.slice none 0 0,.int .i64 4,.string ⟨#[35,35]⟩,.bool false,.slice none 0 0,.int .i64 1,.string ⟨#[98]⟩,.bool false,.slice none 0 0] 57)).setCell ⟨w4.heap.size,3,none⟩ (.slice (some ⟨w6.heap.size,0,none⟩) 4 4)=((w6.setCell ⟨w4.heap.size,3,none⟩ (.slice (some ⟨w6.heap.size,0,none⟩) 4 4)).alloc (.cells #[.int .i64 1,.string ⟨#[97]⟩,.bool false,.slice none 0 0,.int .i64 4,.string ⟨#[35,35]⟩,.bool false,.slice none 0 0,.int .i64 4,.string ⟨#[35,35]⟩,.bool false,.slice none 0 0,.int .i64 1,.string ⟨#[98]⟩,.bool false,.slice none 0 0] 57)):=World.setCell_alloc_past _ _ _ _ hs6
   have HMS:=Qh (eW ▸ Zah HMW.out 3 (.slice (some ⟨w6.heap.size,0,none⟩) 4 4))
   have HZS:=Qh (eW ▸ Zaw HZW.out (by omega:w.heap.size≠w4.heap.size) 3 (.slice (some ⟨w6.heap.size,0,none⟩) 4 4))
   have HRS:=Qh (eW ▸ rdSet HRW.out (by omega:rb<w4.heap.size) 3 (.slice (some ⟨w6.heap.size,0,none⟩) 4 4))
   have HKS:=Qh (eW ▸ ZbG HKW.out (by omega:w.heap.size<=w4.heap.size) (.slice (some ⟨w6.heap.size,0,none⟩) 4 4) 3)
   have HPS:=Qh (eW ▸ (Zaa sStr).setB HPW.out (λ hx=>HX1.out (by simp [hx])) 3 (.slice (some ⟨w6.heap.size,0,none⟩) 4 4))
   have HBS:=Qh (eW ▸ (Zaa sTok).setB HRB.out (λ hx=>by have:=HFB.out _ hx;omega) 3 (.slice (some ⟨w6.heap.size,0,none⟩) 4 4))
   clear eW HMW HZW HRW HKW HPW HRB
   have y0:((w6.setCell ⟨w4.heap.size,3,none⟩ (.slice (some ⟨w6.heap.size,0,none⟩) 4 4)).alloc (.cells #[.int .i64 1,.string ⟨#[97]⟩,.bool false,.slice none 0 0,.int .i64 4,.string ⟨#[35,35]⟩,.bool false,.slice none 0 0,.int .i64 4,.string ⟨#[35,35]⟩,.bool false,.slice none 0 0,.int .i64 1,.string ⟨#[98]⟩,.bool false,.slice none 0 0] 57)).cell? ⟨w4.heap.size,0,none⟩=some (.string nm):=Qc 0 HMS.out
   have y1:((w6.setCell ⟨w4.heap.size,3,none⟩ (.slice (some ⟨w6.heap.size,0,none⟩) 4 4)).alloc (.cells #[.int .i64 1,.string ⟨#[97]⟩,.bool false,.slice none 0 0,.int .i64 4,.string ⟨#[35,35]⟩,.bool false,.slice none 0 0,.int .i64 4,.string ⟨#[35,35]⟩,.bool false,.slice none 0 0,.int .i64 1,.string ⟨#[98]⟩,.bool false,.slice none 0 0] 57)).cell? ⟨w4.heap.size,1,none⟩=some (.bool fb):=Qc 1 HMS.out
   have y2:((w6.setCell ⟨w4.heap.size,3,none⟩ (.slice (some ⟨w6.heap.size,0,none⟩) 4 4)).alloc (.cells #[.int .i64 1,.string ⟨#[97]⟩,.bool false,.slice none 0 0,.int .i64 4,.string ⟨#[35,35]⟩,.bool false,.slice none 0 0,.int .i64 4,.string ⟨#[35,35]⟩,.bool false,.slice none 0 0,.int .i64 1,.string ⟨#[98]⟩,.bool false,.slice none 0 0] 57)).cell? ⟨w4.heap.size,2,none⟩=some (.slice a2 ps.length c2):=Qc 2 HMS.out
   have y3:((w6.setCell ⟨w4.heap.size,3,none⟩ (.slice (some ⟨w6.heap.size,0,none⟩) 4 4)).alloc (.cells #[.int .i64 1,.string ⟨#[97]⟩,.bool false,.slice none 0 0,.int .i64 4,.string ⟨#[35,35]⟩,.bool false,.slice none 0 0,.int .i64 4,.string ⟨#[35,35]⟩,.bool false,.slice none 0 0,.int .i64 1,.string ⟨#[98]⟩,.bool false,.slice none 0 0] 57)).cell? ⟨w4.heap.size,3,none⟩=some (.slice (some ⟨w6.heap.size,0,none⟩) 4 4):=Qc 3 HMS.out
   have z0:((w6.setCell ⟨w4.heap.size,3,none⟩ (.slice (some ⟨w6.heap.size,0,none⟩) 4 4)).alloc (.cells #[.int .i64 1,.string ⟨#[97]⟩,.bool false,.slice none 0 0,.int .i64 4,.string ⟨#[35,35]⟩,.bool false,.slice none 0 0,.int .i64 4,.string ⟨#[35,35]⟩,.bool false,.slice none 0 0,.int .i64 1,.string ⟨#[98]⟩,.bool false,.slice none 0 0] 57)).cell? ⟨w.heap.size,0,none⟩=some (.string ⟨#[]⟩):=Qc 0 HZS.out
   have zf0:((w6.setCell ⟨w4.heap.size,3,none⟩ (.slice (some ⟨w6.heap.size,0,none⟩) 4 4)).alloc (.cells #[.int .i64 1,.string ⟨#[97]⟩,.bool false,.slice none 0 0,.int .i64 4,.string ⟨#[35,35]⟩,.bool false,.slice none 0 0,.int .i64 4,.string ⟨#[35,35]⟩,.bool false,.slice none 0 0,.int .i64 1,.string ⟨#[98]⟩,.bool false,.slice none 0 0] 57)).frozen? ⟨w.heap.size,0,none⟩=false:=frozen_of_row _ _ 0 _ _ HZS.out
   have z1:((w6.setCell ⟨w4.heap.size,3,none⟩ (.slice (some ⟨w6.heap.size,0,none⟩) 4 4)).alloc (.cells #[.int .i64 1,.string ⟨#[97]⟩,.bool false,.slice none 0 0,.int .i64 4,.string ⟨#[35,35]⟩,.bool false,.slice none 0 0,.int .i64 4,.string ⟨#[35,35]⟩,.bool false,.slice none 0 0,.int .i64 1,.string ⟨#[98]⟩,.bool false,.slice none 0 0] 57)).cell? ⟨w.heap.size,1,none⟩=some (.bool false):=Qc 1 HZS.out
   have zf1:((w6.setCell ⟨w4.heap.size,3,none⟩ (.slice (some ⟨w6.heap.size,0,none⟩) 4 4)).alloc (.cells #[.int .i64 1,.string ⟨#[97]⟩,.bool false,.slice none 0 0,.int .i64 4,.string ⟨#[35,35]⟩,.bool false,.slice none 0 0,.int .i64 4,.string ⟨#[35,35]⟩,.bool false,.slice none 0 0,.int .i64 1,.string ⟨#[98]⟩,.bool false,.slice none 0 0] 57)).frozen? ⟨w.heap.size,1,none⟩=false:=frozen_of_row _ _ 1 _ _ HZS.out
   have z2:((w6.setCell ⟨w4.heap.size,3,none⟩ (.slice (some ⟨w6.heap.size,0,none⟩) 4 4)).alloc (.cells #[.int .i64 1,.string ⟨#[97]⟩,.bool false,.slice none 0 0,.int .i64 4,.string ⟨#[35,35]⟩,.bool false,.slice none 0 0,.int .i64 4,.string ⟨#[35,35]⟩,.bool false,.slice none 0 0,.int .i64 1,.string ⟨#[98]⟩,.bool false,.slice none 0 0] 57)).cell? ⟨w.heap.size,2,none⟩=some (.slice none 0 0):=Qc 2 HZS.out
   have zf2:((w6.setCell ⟨w4.heap.size,3,none⟩ (.slice (some ⟨w6.heap.size,0,none⟩) 4 4)).alloc (.cells #[.int .i64 1,.string ⟨#[97]⟩,.bool false,.slice none 0 0,.int .i64 4,.string ⟨#[35,35]⟩,.bool false,.slice none 0 0,.int .i64 4,.string ⟨#[35,35]⟩,.bool false,.slice none 0 0,.int .i64 1,.string ⟨#[98]⟩,.bool false,.slice none 0 0] 57)).frozen? ⟨w.heap.size,2,none⟩=false:=frozen_of_row _ _ 2 _ _ HZS.out
   have z3:((w6.setCell ⟨w4.heap.size,3,none⟩ (.slice (some ⟨w6.heap.size,0,none⟩) 4 4)).alloc (.cells #[.int .i64 1,.string ⟨#[97]⟩,.bool false,.slice none 0 0,.int .i64 4,.string ⟨#[35,35]⟩,.bool false,.slice none 0 0,.int .i64 4,.string ⟨#[35,35]⟩,.bool false,.slice none 0 0,.int .i64 1,.string ⟨#[98]⟩,.bool false,.slice none 0 0] 57)).cell? ⟨w.heap.size,3,none⟩=some (.slice none 0 0):=Qc 3 HZS.out
   have zf3:((w6.setCell ⟨w4.heap.size,3,none⟩ (.slice (some ⟨w6.heap.size,0,none⟩) 4 4)).alloc (.cells #[.int .i64 1,.string ⟨#[97]⟩,.bool false,.slice none 0 0,.int .i64 4,.string ⟨#[35,35]⟩,.bool false,.slice none 0 0,.int .i64 4,.string ⟨#[35,35]⟩,.bool false,.slice none 0 0,.int .i64 1,.string ⟨#[98]⟩,.bool false,.slice none 0 0] 57)).frozen? ⟨w.heap.size,3,none⟩=false:=frozen_of_row _ _ 3 _ _ HZS.out
   have HS:=Qh (Zcc (w:=w) (wP:=((w6.setCell ⟨w4.heap.size,3,none⟩ (.slice (some ⟨w6.heap.size,0,none⟩) 4 4)).alloc (.cells #[.int .i64 1,.string ⟨#[97]⟩,.bool false,.slice none 0 0,.int .i64 4,.string ⟨#[35,35]⟩,.bool false,.slice none 0 0,.int .i64 4,.string ⟨#[35,35]⟩,.bool false,.slice none 0 0,.int .i64 1,.string ⟨#[98]⟩,.bool false,.slice none 0 0] 57))) HZS.out (show sMacro.R ((w6.setCell ⟨w4.heap.size,3,none⟩ (.slice (some ⟨w6.heap.size,0,none⟩) 4 4)).alloc (.cells #[.int .i64 1,.string ⟨#[97]⟩,.bool false,.slice none 0 0,.int .i64 4,.string ⟨#[35,35]⟩,.bool false,.slice none 0 0,.int .i64 4,.string ⟨#[35,35]⟩,.bool false,.slice none 0 0,.int .i64 1,.string ⟨#[98]⟩,.bool false,.slice none 0 0] 57)) [.string nm,.bool fb,.slice a2 ps.length c2,.slice (some ⟨w6.heap.size,0,none⟩) 4 4] ⟨nm,fb,ps,([(⟨[.int .i64 1,.string ⟨#[97]⟩,.bool false,.slice none 0 0],⟨1,⟨#[97]⟩,false,[]⟩,[]⟩:Elem Tok),(⟨[.int .i64 4,.string ⟨#[35,35]⟩,.bool false,.slice none 0 0],⟨4,⟨#[35,35]⟩,false,[]⟩,[]⟩:Elem Tok),(⟨[.int .i64 4,.string ⟨#[35,35]⟩,.bool false,.slice none 0 0],⟨4,⟨#[35,35]⟩,false,[]⟩,[]⟩:Elem Tok),(⟨[.int .i64 1,.string ⟨#[98]⟩,.bool false,.slice none 0 0],⟨1,⟨#[98]⟩,false,[]⟩,[]⟩:Elem Tok)]).map (·.d)⟩ (fp2++fpB) from⟨_,_,fp2,fpB,rfl,HOK.out.1,HPS.out,HBS.out,rfl⟩) (λ hx=>(Qa hx).elim (λ h=>HX0.out (by simp [h])) (λ h=>by have:=HFB.out _ h;omega)) HRS.out (by omega) HKS.out (Nat.le_refl _))
   have HOKF:Hid (okMac ⟨nm,fb,ps,([(⟨[.int .i64 1,.string ⟨#[97]⟩,.bool false,.slice none 0 0],⟨1,⟨#[97]⟩,false,[]⟩,[]⟩:Elem Tok),(⟨[.int .i64 4,.string ⟨#[35,35]⟩,.bool false,.slice none 0 0],⟨4,⟨#[35,35]⟩,false,[]⟩,[]⟩:Elem Tok),(⟨[.int .i64 4,.string ⟨#[35,35]⟩,.bool false,.slice none 0 0],⟨4,⟨#[35,35]⟩,false,[]⟩,[]⟩:Elem Tok),(⟨[.int .i64 1,.string ⟨#[98]⟩,.bool false,.slice none 0 0],⟨1,⟨#[98]⟩,false,[]⟩,[]⟩:Elem Tok)]).map (·.d)⟩):=⟨by have:=HOK.out.2.1;show nm.size<=1000;omega,by have:=HOK.out.2.2.1;show ps.length<=100;omega,by show (4:Nat)<=100;omega,λ t ht=>by simp only [List.map_cons,List.map_nil,List.mem_cons,List.not_mem_nil,or_false] at ht;rcases ht with rfl | rfl | rfl | rfl <;> decide⟩
   exact Y10A14
end Go.Proofs.YtiaiggjfepoahaaGreat
