/- Texts that the proof of EConditionOf stands on, in one file. -/
import Derived.Test.YtipfpppcbmpjiaaGreatZEConditionOf6
import Derived.IntWalk
import Derived.Lib.Bytealg
import Derived.Laws.AppendOwnNone
import Derived.Orders
set_option linter.unusedVariables false
set_option maxHeartbeats 16000000
set_option maxRecDepth 100000
set_option linter.unusedSimpArgs false
/- Validity of tables, of both. (Made by gen_tab2.py.) -/
namespace Go.Proofs.YtipfpppcbmpjiaaGreat
open Go.RowKit
section
variable {P:Program} {ops:Array Oper} {Q:Exit->Act->World->Prop} {md:Region.Mode} {S:World->Prop}
theorem takeH (i d:Nat) {oi:Oper} {v:Value} {fuel:Nat} {listed:Array Bool} {a:Act} {w:World} (hi:ops[i]?=some oi) (hd:oi.dst=some d)
  (hs:Region.noSelect ops=true) (hf:Region.free md ops listed i=true) (hr:(Region.ready md ops listed).contains i=true)
  (hQ:∀ c a w,Q (.panic c) (a.put (some d) v) w->Q (.panic c) a w) (hw:Region.wanted oi (yielded ops a.tmps)=true) (hS:S w)
  (hy:∀ w,S w->(execOp a.eval oi).run P w=.ok (.value v) w)
  (h:wpAnyH P md ops Q S fuel (listed.setIfInBounds i true) (a.put (some d) v) w):wpAnyH P md ops Q S (fuel+1) listed a w:=
 wpAnyH_take hi hs hf hr (by rw [hd];exact hQ) (.inl ⟨hw,hy⟩) hS (by rw [hd];exact h)
theorem skipH (i d:Nat) {oi:Oper} {fuel:Nat} {listed:Array Bool} {a:Act} {w:World} (hi:ops[i]?=some oi) (hd:oi.dst=some d)
  (hs:Region.noSelect ops=true) (hf:Region.free md ops listed i=true) (hr:(Region.ready md ops listed).contains i=true)
  (hQ:∀ c a w,Q (.panic c) (a.put (some d) undef) w->Q (.panic c) a w) (hw:Region.wanted oi (yielded ops a.tmps)=false) (hS:S w)
  (h:wpAnyH P md ops Q S fuel (listed.setIfInBounds i true) (a.put (some d) undef) w):wpAnyH P md ops Q S (fuel+1) listed a w:=
 wpAnyH_take hi hs hf hr (by rw [hd];exact hQ) (.inr ⟨hw,rfl⟩) hS (by rw [hd];exact h)
end
def tabAt (l:List DMacro) (k:Nat):Bool:=if h:k<l.length then macOk l[k] && (decide (k=0) || sLess (l[k-1]'(by omega)).name l[k].name) else true
def tabOk (l:List DMacro):Bool:=decide (l.length<=10) && (List.range l.length).all (tabAt l)
def TabUpto (l:List DMacro) (k:Nat):Prop:=∀ j,j<k->tabAt l j=true
theorem TabUpto.zero (l:List DMacro):TabUpto l 0:=λ j h=>absurd h (by omega)
theorem TabUpto.succ {l:List DMacro} {k:Nat} (h:TabUpto l k) (hk:tabAt l k=true):TabUpto l (k+1):=λ j hj=>by
 by_cases e:j=k
 ·subst e;exact hk
 ·exact h j (by omega)
theorem Zmj {l:List DMacro} (h:10<l.length):tabOk l=false:=by unfold tabOk;rw [decide_eq_false (by omega)];rfl
theorem Ze8 {l:List DMacro} {k:Nat} (hk:k<l.length) (h:tabAt l k=false):tabOk l=false:=by
 unfold tabOk
 rw [Bool.and_eq_false_iff]
 exact .inr (List.all_eq_false.2 ⟨k,List.mem_range.2 hk,by simp [h]⟩)
theorem Zm5 {l:List DMacro} (h:TabUpto l l.length) (hl:l.length<=10):tabOk l=true:=by
 unfold tabOk
 rw [decide_eq_true hl,Bool.true_and,List.all_eq_true]
 exact λ k hk=>h k (List.mem_range.1 hk)
theorem Zmk {l:List DMacro} (h:TabUpto l l.length):tabOk l=decide (l.length<=10):=by
 unfold tabOk
 rw [show (List.range l.length).all (tabAt l)=true from List.all_eq_true.2 λ k hk=>h k (List.mem_range.1 hk),Bool.and_true]
theorem Ze9 {l:List DMacro} (h:tabOk l=true):l.length<=10/\∀ k,k<l.length->tabAt l k=true:=by
 unfold tabOk at h
 rw [Bool.and_eq_true,decide_eq_true_eq,List.all_eq_true] at h
 exact⟨h.1,λ k hk=>h.2 k (List.mem_range.2 hk)⟩
theorem Zja {l:List DMacro} {k:Nat} (hk:k<l.length) (h:macOk l[k]=false):tabAt l k=false:=by unfold tabAt;rw [dif_pos hk,h];rfl
theorem ZgR {l:List DMacro} (hk:0<l.length) (h:macOk l[0]=true):tabAt l 0=true:=by unfold tabAt;rw [dif_pos hk,h];rfl
theorem ZhP {l:List DMacro} {k:Nat} (hk:k<l.length) (h0:0<k) (h:sLess (l[k-1]'(by omega)).name l[k].name=false):tabAt l k=false:=by
 unfold tabAt;rw [dif_pos hk,h,decide_eq_false (by omega),Bool.or_false,Bool.and_false]
theorem ZgS {l:List DMacro} {k:Nat} (hk:k<l.length) (h:macOk l[k]=true) (h2:sLess (l[k-1]'(by omega)).name l[k].name=true):tabAt l k=true:=by
 unfold tabAt;rw [dif_pos hk,h,h2,Bool.or_true];rfl
theorem Zek (v:Value) (l:List DMacro) (fp:List Nat) (w:World) (H:(Zaa sMacro).R w [v] l fp) :
  Calls Tryz.prog 34 #[v] w (Says (tabOk l) w):=by
 obtain⟨a,cap,rfl,hc,hm,hrow⟩:=Zac H
 unfold maxLen at hm
 clear H
 by_cases hl:10<l.length
 ·have HF:=Qh (Zmj hl)
  have hl':(10:Int)<(l.length:Int):=by omega
  go_enter Tryz.func34,Tryz.ntmps34
  go_wp2
  go_ret
  exact⟨Zad HF.out.symm,Below.refl _ _⟩
 ·have hl':¬ (10:Int)<(l.length:Int):=by omega
  go_enter Tryz.func34,Tryz.ntmps34
  go_wp2
  go_loopw [10] (λ i wr=>∃ k:Nat,k<=l.length/\i=.int .i64 k/\Hid (TabUpto l k)/\Below w.heap.size w wr) (λ i _=>l.length-(intOf i).toNat)
  case atStart=>exact⟨0,by omega,rfl,TabUpto.zero _,Below.refl _ _⟩
  case round =>
   obtain⟨k,hk,rfl,hall,hb⟩:=hrel
   by_cases hlt:k<l.length
   ·obtain⟨b1,off1,fps1,rfl,hb1,-,he1⟩:=hrow (by omega)
    obtain⟨es,hE,hR⟩:=he1 k hlt
    have hR':=hR
    obtain⟨h2,h3,p2,p3,rfl,-,K2,K3,-⟩:=hR
    obtain⟨a2,ca2,rfl,-⟩:=Zaf K2
    obtain⟨a3,ca3,rfl,-⟩:=Zac K3
    clear K2 K3
    replace hE:=hE.frame (hb.block b1 hb1)
    have hbr:b1<wr.heap.size:=Nat.lt_of_lt_of_le hb1 hb.size
    have c10:wr.cell? ⟨b1,off1+k * 4,none⟩=some _:=Zam hE (by decide) rfl
    have c11:wr.cell? ⟨b1,off1+k * 4+1,none⟩=some _:=Zae (j:=1) hE (by decide) rfl
    have c12:wr.cell? ⟨b1,off1+k * 4+2,none⟩=some _:=Zae (j:=2) hE (by decide) rfl
    have c13:wr.cell? ⟨b1,off1+k * 4+3,none⟩=some _:=Zae (j:=3) hE (by decide) rfl
    have hx1:=Zab wr (.cells #[.string l[k].name,.bool l[k].function,.slice a2 l[k].params.length ca2,.slice a3 l[k].body.length ca3] 56)
    have HX:=Qh (heap_alloc_new wr (.cells #[.string l[k].name,.bool l[k].function,.slice a2 l[k].params.length ca2,.slice a3 l[k].body.length ca3] 56))
    have HC:=Qh (ZcT _ l[k] _ (wr.alloc (.cells #[.string l[k].name,.bool l[k].function,.slice a2 l[k].params.length ca2,.slice a3 l[k].body.length ca3] 56)) (sMacro.below (sMacro.below hR' hb) hx1))
    have hbw:=hb.trans (hx1.mono hb.size)
    have hsz:(wr.alloc (.cells #[.string l[k].name,.bool l[k].function,.slice a2 l[k].params.length ca2,.slice a3 l[k].body.length ca3] 56)).heap.size=wr.heap.size+1:=Array.size_push _
    have HS:=Qh hsz
    clear hR' hE hsz
    cases hv:macOk l[k]
    ·rw [hv] at HC
     have HF:=Qh (Ze8 hlt (Zja hlt hv))
     clear hv hall he1 hrow hx1
     go_wp2_with (go_at_call 58;refine HC.out.mono ?_;rintro e w1 ⟨rfl,hb2⟩)
     go_ret
     exact⟨Zad HF.out.symm,hbw.trans (hb2.mono hbw.size)⟩
    rw [hv] at HC
    by_cases h0:k=0
    ·have h0':decide ((0:Int)<(k:Int))=false:=by simp;omega
     have HN:Hid (TabUpto l (k+1)):=by
      show TabUpto l (k+1)
      subst h0
      exact hall.out.succ (ZgR hlt hv)
     have h00:¬ (0:Int)<(k:Int):=by omega
     have h01:decide (0<k)=false:=by simp;omega
     clear h0 hv hall he1 hrow hx1
     go_wp2_with (go_at_call 58;refine HC.out.mono ?_;rintro e w1 ⟨rfl,hb2⟩;have hbx:=hbw.trans (hb2.mono hbw.size))
     go_quiet (fail)
     go_wp2
     go_roundw
     case rel=>exact⟨k+1,by omega,by go_num,HN,Zag hbx _⟩
     case measure=>simp [intOf];omega
    ·obtain⟨esp,hEp,hRp⟩:=he1 (k-1) (by omega)
     obtain⟨g2,g3,r2,r3,rfl,-,-,-,-⟩:=hRp
     replace hEp:=hEp.frame (hb.block b1 hb1)
     have cp0:wr.cell? ⟨b1,off1+(k-1) * 4,none⟩=some (.string (l[k-1]'(by omega)).name):=Zam hEp (by decide) rfl
     have h6:((k:Int)-1).toNat=k-1:=by omega
     have hwm:IntKind.i64.wrap ((k:Int)-1)=(k:Int)-1:=IntWalk.i64_in _ (by omega)
     have h0':(0:Int)<(k:Int):=by omega
     have h0'':decide ((0:Int)<(k:Int))=true:=by simpa using h0'
     have h0n:decide (0<k)=true:=by simp;omega
     have hi1:(0:Int)<=(k:Int)-1:=by omega
     have hi2:(k:Int)-1<(l.length:Int):=by omega
     have hi3:(1:Int)<=(k:Int):=by omega
     clear hEp
     have hcp:(wr.alloc (.cells #[.string l[k].name,.bool l[k].function,.slice a2 l[k].params.length ca2,.slice a3 l[k].body.length ca3] 56)).cell? ⟨b1,off1+(k-1) * 4,none⟩=some (.string (l[k-1]'(by omega)).name):=(hx1.cell (p:=⟨b1,off1+(k-1) * 4,none⟩) hbr).trans cp0
     have hbr2:b1<(wr.alloc (.cells #[.string l[k].name,.bool l[k].function,.slice a2 l[k].params.length ca2,.slice a3 l[k].body.length ca3] 56)).heap.size:=by rw [HS.out];omega
     have hxx:wr.heap.size<(wr.alloc (.cells #[.string l[k].name,.bool l[k].function,.slice a2 l[k].params.length ca2,.slice a3 l[k].body.length ca3] 56)).heap.size:=by rw [HS.out];omega
     cases hs:sLess (l[k-1]'(by omega)).name l[k].name
     ·have HF:=Qh (Ze8 hlt (ZhP hlt (by omega) hs))
      have h2':Op.bytesLess (l[k-1]'(by omega)).name.toList l[k].name.toList=false:=hs
      clear h0 hv hs hall he1 hrow hx1 cp0
      go_wp2_with (go_at_call 58;refine HC.out.mono ?_;rintro e w1 ⟨rfl,hb2⟩;have hbx:=hbw.trans (hb2.mono hbw.size);have hq:=(hb2.cell (p:=⟨b1,off1+(k-1) * 4,none⟩) hbr2).trans hcp;have hp0:=Qc 0 ((hb2.block _ hxx).trans HX.out))
      go_quiet (fail)
      go_wp2
      go_ret
      exact⟨Zad HF.out.symm,Zag hbx _⟩
     ·have HN:Hid (TabUpto l (k+1)):=hall.out.succ (ZgS hlt hv hs)
      have h2':Op.bytesLess (l[k-1]'(by omega)).name.toList l[k].name.toList=true:=hs
      clear h0 hv hs hall he1 hrow hx1 cp0
      go_wp2_with (go_at_call 58;refine HC.out.mono ?_;rintro e w1 ⟨rfl,hb2⟩;have hbx:=hbw.trans (hb2.mono hbw.size);have hq:=(hb2.cell (p:=⟨b1,off1+(k-1) * 4,none⟩) hbr2).trans hcp;have hp0:=Qc 0 ((hb2.block _ hxx).trans HX.out))
      go_quiet (fail)
      go_wp2
      go_roundw
      case rel=>exact⟨k+1,by omega,by go_num,HN,Zag hbx _⟩
      case measure=>simp [intOf];omega
   ·have HF:=Qh (Zm5 (l:=l) (by
                         have:k=l.length:=by omega
                         subst this;exact hall.out) (by omega))
    go_wp2
    go_ret
    exact⟨Zad HF.out.symm,hb⟩
theorem Zel (v:Value) (l:List DMacro) (fp:List Nat) (w:World) (H:(Zaa sMacro).R w [v] l fp) :
  Calls Tryz.prog 43 #[v] w (Says (tabOk l) w):=by
 obtain⟨a,cap,rfl,hc,hm,hrow⟩:=Zac H
 unfold maxLen at hm
 clear H
 go_enter Tryz.func43,Tryz.ntmps43
 go_wp2
 go_loopw [3] (λ i wr=>∃ k:Nat,k<=l.length/\i=.int .i64 k/\Hid (TabUpto l k)/\Below w.heap.size w wr) (λ i _=>l.length-(intOf i).toNat)
 case atStart=>exact⟨0,by omega,rfl,TabUpto.zero _,Below.refl _ _⟩
 case round =>
  obtain⟨k,hk,rfl,hall,hb⟩:=hrel
  by_cases hlt:k<l.length
  ·obtain⟨b1,off1,fps1,rfl,hb1,-,he1⟩:=hrow (by omega)
   obtain⟨es,hE,hR⟩:=he1 k hlt
   have hR':=hR
   obtain⟨h2,h3,p2,p3,rfl,-,K2,K3,-⟩:=hR
   obtain⟨a2,ca2,rfl,-⟩:=Zaf K2
   obtain⟨a3,ca3,rfl,-⟩:=Zac K3
   clear K2 K3
   replace hE:=hE.frame (hb.block b1 hb1)
   have hbr:b1<wr.heap.size:=Nat.lt_of_lt_of_le hb1 hb.size
   have c10:wr.cell? ⟨b1,off1+k * 4,none⟩=some _:=Zam hE (by decide) rfl
   have c11:wr.cell? ⟨b1,off1+k * 4+1,none⟩=some _:=Zae (j:=1) hE (by decide) rfl
   have c12:wr.cell? ⟨b1,off1+k * 4+2,none⟩=some _:=Zae (j:=2) hE (by decide) rfl
   have c13:wr.cell? ⟨b1,off1+k * 4+3,none⟩=some _:=Zae (j:=3) hE (by decide) rfl
   have HC:=Qh (λ W (hW:Below wr.heap.size wr W)=>Zej [.string l[k].name,.bool l[k].function,.slice a2 l[k].params.length ca2,.slice a3 l[k].body.length ca3] l[k] _ W (sMacro.below (sMacro.below hR' hb) hW))
   clear hR' hE
   cases hv:macOk l[k]
   ·rw [hv] at HC
    have HF:=Qh (Ze8 hlt (Zja hlt hv))
    clear hv hall he1 hrow
    go_wp2_with fail
    refine wp_region_noPanic ?_
    refine wp_region_held_drew (S:=(λ w'=>w'.cell? ⟨b1,off1+k * 4,none⟩=some (.string l[k].name)/\w'.cell? ⟨b1,off1+k * 4+1,none⟩=some (.bool l[k].function)/\w'.cell? ⟨b1,off1+k * 4+2,none⟩=some (.slice a2 l[k].params.length ca2)/\w'.cell? ⟨b1,off1+k * 4+3,none⟩=some (.slice a3 l[k].body.length ca3))) (by kernel_rfl) (by exact⟨c10,c11,c12,c13⟩) (λ hHeld=>?_)
    refine Qt 0 10 rfl rfl ?_
    try simp only [Qp]
    refine Qt 1 11 rfl rfl ?_
    try simp only [Qp]
    refine Qt 2 12 rfl rfl ?_
    try simp only [Qp]
    refine Qt 3 13 rfl rfl ?_
    try simp only [Qp]
    refine Qr 4 rfl (λ K hK=>?_)
    go_simp
    refine (HC.out _ (Zag (Below.refl _ _) 1)).mono ?_
    rintro e w2 ⟨rfl,b30⟩
    refine hK.out _ _ (by exact⟨(b30.cell (by simp;omega)).trans c10,(b30.cell (by simp;omega)).trans c11,(b30.cell (by simp;omega)).trans c12,(b30.cell (by simp;omega)).trans c13⟩) (λ hHeld=>?_)
    clear hK K
    try simp only [Qp]
    refine Qt 5 15 rfl rfl ?_
    try simp only [Qp]
    refine Qt 6 16 rfl rfl ?_
    try simp only [Qp]
    refine Qs 7 17 rfl rfl ?_
    try simp only [Qp]
    refine Qs 8 18 rfl rfl ?_
    try simp only [Qp]
    refine Qs 9 19 rfl rfl ?_
    try simp only [Qp]
    refine Qs 10 20 rfl rfl ?_
    try simp only [Qp]
    refine Qs 11 21 rfl rfl ?_
    try simp only [Qp]
    refine Qs 12 22 rfl rfl ?_
    try simp only [Qp]
    refine Qs 13 23 rfl rfl ?_
    try simp only [Qp]
    refine Qs 14 24 rfl rfl ?_
    try simp only [Qp]
    refine Qs 15 25 rfl rfl ?_
    try simp only [Qp]
    refine Qs 16 26 rfl rfl ?_
    try simp only [Qp]
    refine Qs 17 27 rfl rfl ?_
    try simp only [Qp]
    refine Qs 18 28 rfl rfl ?_
    try simp only [Qp]
    refine Qs 19 29 rfl rfl ?_
    try simp only [Qp]
    refine Qs 20 30 rfl rfl ?_
    try simp only [Qp]
    refine Qs 21 31 rfl rfl ?_
    try simp only [Qp]
    refine Qs 22 32 rfl rfl ?_
    try simp only [Qp]
    refine Qt 23 33 rfl rfl ?_
    try simp only [Qp]
    refine wpAnyH_done (by kernel_rfl) ?_ _
    refine NoPanic.normal ?_
    have hbx:=hb.drew.trans (b30.mono hb.size)
    go_wp2
    go_ret
    exact⟨Zad HF.out.symm,hbx⟩
   rw [hv] at HC
   by_cases h0:k=0
   ·have h0':decide ((0:Int)<(k:Int))=false:=by simp;omega
    have HN:Hid (TabUpto l (k+1)):=by
     show TabUpto l (k+1)
     subst h0
     exact hall.out.succ (ZgR hlt hv)
    have h00:¬ (0:Int)<(k:Int):=by omega
    have h01:decide (0<k)=false:=by simp;omega
    clear h0 hv hall he1 hrow
    go_wp2_with fail
    refine wp_region_noPanic ?_
    refine wp_region_held_drew (S:=(λ w'=>w'.cell? ⟨b1,off1+k * 4,none⟩=some (.string l[k].name)/\w'.cell? ⟨b1,off1+k * 4+1,none⟩=some (.bool l[k].function)/\w'.cell? ⟨b1,off1+k * 4+2,none⟩=some (.slice a2 l[k].params.length ca2)/\w'.cell? ⟨b1,off1+k * 4+3,none⟩=some (.slice a3 l[k].body.length ca3))) (by kernel_rfl) (by exact⟨c10,c11,c12,c13⟩) (λ hHeld=>?_)
    refine Qt 0 10 rfl rfl ?_
    try simp only [Qp]
    refine Qt 1 11 rfl rfl ?_
    try simp only [Qp]
    refine Qt 2 12 rfl rfl ?_
    try simp only [Qp]
    refine Qt 3 13 rfl rfl ?_
    try simp only [Qp]
    refine Qr 4 rfl (λ K hK=>?_)
    go_simp
    refine (HC.out _ (Zag (Below.refl _ _) 1)).mono ?_
    rintro e w2 ⟨rfl,b30⟩
    refine hK.out _ _ (by exact⟨(b30.cell (by simp;omega)).trans c10,(b30.cell (by simp;omega)).trans c11,(b30.cell (by simp;omega)).trans c12,(b30.cell (by simp;omega)).trans c13⟩) (λ hHeld=>?_)
    clear hK K
    try simp only [Qp]
    refine Qt 5 15 rfl rfl ?_
    try simp only [Qp]
    refine Qt 6 16 rfl rfl ?_
    try simp only [Qp]
    refine Qt 7 17 rfl rfl ?_
    try simp only [Qp]
    refine Qt 8 18 rfl rfl ?_
    try simp only [Qp]
    refine Qt 9 19 rfl rfl ?_
    try simp only [Qp]
    refine Qs 10 20 rfl rfl ?_
    try simp only [Qp]
    refine Qs 11 21 rfl rfl ?_
    try simp only [Qp]
    refine Qs 12 22 rfl rfl ?_
    try simp only [Qp]
    refine Qs 13 23 rfl rfl ?_
    try simp only [Qp]
    refine Qs 14 24 rfl rfl ?_
    try simp only [Qp]
    refine Qs 15 25 rfl rfl ?_
    try simp only [Qp]
    refine Qs 16 26 rfl rfl ?_
    try simp only [Qp]
    refine Qs 17 27 rfl rfl ?_
    try simp only [Qp]
    refine Qs 18 28 rfl rfl ?_
    try simp only [Qp]
    refine Qs 19 29 rfl rfl ?_
    try simp only [Qp]
    refine Qs 20 30 rfl rfl ?_
    try simp only [Qp]
    refine Qs 21 31 rfl rfl ?_
    try simp only [Qp]
    refine Qt 22 32 rfl rfl ?_
    try simp only [Qp]
    refine Qt 23 33 rfl rfl ?_
    try simp only [Qp]
    refine wpAnyH_done (by kernel_rfl) ?_ _
    refine NoPanic.normal ?_
    have hbx:=hb.drew.trans (b30.mono hb.size)
    go_wp2
    go_roundw
    case rel=>exact⟨k+1,by omega,by go_num,HN,hbx⟩
    case measure=>simp [intOf];omega
   ·obtain⟨esp,hEp,hRp⟩:=he1 (k-1) (by omega)
    obtain⟨g2,g3,r2,r3,rfl,-,-,-,-⟩:=hRp
    replace hEp:=hEp.frame (hb.block b1 hb1)
    have cp0:wr.cell? ⟨b1,off1+(k-1) * 4,none⟩=some (.string (l[k-1]'(by omega)).name):=Zam hEp (by decide) rfl
    have h6:((k:Int)-1).toNat=k-1:=by omega
    have hwm:IntKind.i64.wrap ((k:Int)-1)=(k:Int)-1:=IntWalk.i64_in _ (by omega)
    have h0':(0:Int)<(k:Int):=by omega
    have h0'':decide ((0:Int)<(k:Int))=true:=by simpa using h0'
    have h0n:decide (0<k)=true:=by simp;omega
    have hi1:(0:Int)<=(k:Int)-1:=by omega
    have hi2:(k:Int)-1<(l.length:Int):=by omega
    have hi3:(1:Int)<=(k:Int):=by omega
    clear hEp
    rcases ZhL (a:=(l[k-1]'(by omega)).name) (b:=l[k].name) with⟨hw,hw1,hw2⟩ | ⟨hw,hw1⟩ | ⟨hw,hw1,hw2⟩
    ·have HN:Hid (TabUpto l (k+1)):=hall.out.succ (ZgS hlt hv hw)
     clear h0 hv hw hall he1 hrow
     go_wp2_with fail
     refine wp_region_noPanic ?_
     refine wp_region_held_drew (S:=(λ w'=>w'.cell? ⟨b1,off1+k * 4,none⟩=some (.string l[k].name)/\w'.cell? ⟨b1,off1+k * 4+1,none⟩=some (.bool l[k].function)/\w'.cell? ⟨b1,off1+k * 4+2,none⟩=some (.slice a2 l[k].params.length ca2)/\w'.cell? ⟨b1,off1+k * 4+3,none⟩=some (.slice a3 l[k].body.length ca3)/\w'.cell? ⟨b1,off1+(k-1) * 4,none⟩=some (.string (l[k-1]'(by omega)).name))) (by kernel_rfl) (by exact⟨c10,c11,c12,c13,cp0⟩) (λ hHeld=>?_)
     refine Qt 0 10 rfl rfl ?_
     try simp only [Qp]
     refine Qt 1 11 rfl rfl ?_
     try simp only [Qp]
     refine Qt 2 12 rfl rfl ?_
     try simp only [Qp]
     refine Qt 3 13 rfl rfl ?_
     try simp only [Qp]
     refine Qr 4 rfl (λ K hK=>?_)
     go_simp
     refine (HC.out _ (Zag (Below.refl _ _) 1)).mono ?_
     rintro e w2 ⟨rfl,b30⟩
     refine hK.out _ _ (by exact⟨(b30.cell (by simp;omega)).trans c10,(b30.cell (by simp;omega)).trans c11,(b30.cell (by simp;omega)).trans c12,(b30.cell (by simp;omega)).trans c13,(b30.cell (by simp;omega)).trans cp0⟩) (λ hHeld=>?_)
     clear hK K
     try simp only [Qp]
     refine Qt 5 15 rfl rfl ?_
     try simp only [Qp]
     refine Qt 6 16 rfl rfl ?_
     try simp only [Qp]
     refine Qt 7 17 rfl rfl ?_
     try simp only [Qp]
     refine Qt 8 18 rfl rfl ?_
     try simp only [Qp]
     refine Qt 9 19 rfl rfl ?_
     try simp only [Qp]
     refine Qt 10 20 rfl rfl ?_
     try simp only [Qp]
     refine Qt 11 21 rfl rfl ?_
     try simp only [Qp]
     refine Qt 12 22 rfl rfl ?_
     try simp only [Qp]
     refine Qt 13 23 rfl rfl ?_
     try simp only [Qp]
     refine Qt 14 24 rfl rfl ?_
     try simp only [Qp]
     refine Qt 15 25 rfl rfl ?_
     try simp only [Qp]
     refine Qt 16 26 rfl rfl ?_
     try simp only [Qp]
     refine Qt 17 27 rfl rfl ?_
     try simp only [Qp]
     refine Qt 18 28 rfl rfl ?_
     try simp only [Qp]
     refine Qt 19 29 rfl rfl ?_
     try simp only [Qp]
     refine Qt 20 30 rfl rfl ?_
     try simp only [Qp]
     refine Qt 21 31 rfl rfl ?_
     try simp only [Qp]
     refine Qt 22 32 rfl rfl ?_
     try simp only [Qp]
     refine Qt 23 33 rfl rfl ?_
     try simp only [Qp]
     refine wpAnyH_done (by kernel_rfl) ?_ _
     refine NoPanic.normal ?_
     have hbx:=hb.drew.trans (b30.mono hb.size)
     go_wp2
     go_roundw
     case rel=>exact⟨k+1,by omega,by go_num,HN,hbx⟩
     case measure=>simp [intOf];omega
    all_goals
     have HF:=Qh (Ze8 hlt (ZhP hlt (by omega) hw))
     clear h0 hv hw hall he1 hrow
     go_wp2_with fail
     refine wp_region_noPanic ?_
     refine wp_region_held_drew (S:=(λ w'=>w'.cell? ⟨b1,off1+k * 4,none⟩=some (.string l[k].name)/\w'.cell? ⟨b1,off1+k * 4+1,none⟩=some (.bool l[k].function)/\w'.cell? ⟨b1,off1+k * 4+2,none⟩=some (.slice a2 l[k].params.length ca2)/\w'.cell? ⟨b1,off1+k * 4+3,none⟩=some (.slice a3 l[k].body.length ca3)/\w'.cell? ⟨b1,off1+(k-1) * 4,none⟩=some (.string (l[k-1]'(by omega)).name))) (by kernel_rfl) (by exact⟨c10,c11,c12,c13,cp0⟩) (λ hHeld=>?_)
     refine Qt 0 10 rfl rfl ?_
     try simp only [Qp]
     refine Qt 1 11 rfl rfl ?_
     try simp only [Qp]
     refine Qt 2 12 rfl rfl ?_
     try simp only [Qp]
     refine Qt 3 13 rfl rfl ?_
     try simp only [Qp]
     refine Qr 4 rfl (λ K hK=>?_)
     go_simp
     refine (HC.out _ (Zag (Below.refl _ _) 1)).mono ?_
     rintro e w2 ⟨rfl,b30⟩
     refine hK.out _ _ (by exact⟨(b30.cell (by simp;omega)).trans c10,(b30.cell (by simp;omega)).trans c11,(b30.cell (by simp;omega)).trans c12,(b30.cell (by simp;omega)).trans c13,(b30.cell (by simp;omega)).trans cp0⟩) (λ hHeld=>?_)
     clear hK K
     try simp only [Qp]
     refine Qt 5 15 rfl rfl ?_
     try simp only [Qp]
     refine Qt 6 16 rfl rfl ?_
     try simp only [Qp]
     refine Qt 7 17 rfl rfl ?_
     try simp only [Qp]
     refine Qt 8 18 rfl rfl ?_
     try simp only [Qp]
     refine Qt 9 19 rfl rfl ?_
     try simp only [Qp]
     refine Qt 10 20 rfl rfl ?_
     try simp only [Qp]
     refine Qt 11 21 rfl rfl ?_
     try simp only [Qp]
     refine Qt 12 22 rfl rfl ?_
     try simp only [Qp]
     refine Qt 13 23 rfl rfl ?_
     try simp only [Qp]
     refine Qt 14 24 rfl rfl ?_
     try simp only [Qp]
     refine Qt 15 25 rfl rfl ?_
     try simp only [Qp]
     refine Qt 16 26 rfl rfl ?_
     try simp only [Qp]
     refine Qt 17 27 rfl rfl ?_
     try simp only [Qp]
     refine Qt 18 28 rfl rfl ?_
     try simp only [Qp]
     refine Qt 19 29 rfl rfl ?_
     try simp only [Qp]
     refine Qt 20 30 rfl rfl ?_
     try simp only [Qp]
     refine Qt 21 31 rfl rfl ?_
     try simp only [Qp]
     refine Qt 22 32 rfl rfl ?_
     try simp only [Qp]
     refine Qt 23 33 rfl rfl ?_
     try simp only [Qp]
     refine wpAnyH_done (by kernel_rfl) ?_ _
     refine NoPanic.normal ?_
     have hbx:=hb.drew.trans (b30.mono hb.size)
     go_wp2
     go_ret
     exact⟨Zad HF.out.symm,hbx⟩
  ·have HF:=Qh (Zmk (l:=l) (by
                         have:k=l.length:=by omega
                         subst this;exact hall.out))
   by_cases hl:l.length<=10
   ·rw [decide_eq_true hl] at HF
    have hl':(l.length:Int)<=10:=by omega
    go_wp2
    go_ret
    exact⟨Zad HF.out.symm,hb⟩
   ·rw [decide_eq_false hl] at HF
    have hl':¬ (l.length:Int)<=10:=by omega
    go_wp2
    go_ret
    exact⟨Zad HF.out.symm,hb⟩
theorem Zem:∀ x y z:List UInt8,Op.bytesLess x y=true->Op.bytesLess y z=true->Op.bytesLess x z=true
 | _,[],_,h,_=>by simp [Op.bytesLess] at h
 | _,_::_,[],_,h=>by simp [Op.bytesLess] at h
 | [],_::_,_::_,_,_=>by simp [Op.bytesLess]
 |
  a::x,b::y,c::z,h1,h2=>by
  have ih:=Zem x y z
  simp only [Op.bytesLess,Bool.or_eq_true,decide_eq_true_eq,Bool.and_eq_true,beq_iff_eq] at h1 h2 ⊢
  rcases h1 with h1 | ⟨rfl,h1⟩
  ·rcases h2 with h2 | ⟨rfl,h2⟩
   ·exact .inl (UInt8.lt_trans h1 h2)
   ·exact .inl h1
  ·rcases h2 with h2 | ⟨rfl,h2⟩
   ·exact .inl h2
   ·exact .inr ⟨rfl,ih h1 h2⟩
theorem ZcA {a b c:ByteArray} (h1:sLess a b=true) (h2:sLess b c=true):sLess a c=true:=Zem _ _ _ h1 h2
theorem Zd1:∀ x:List UInt8,Op.bytesLess x x=false
 | []=>rfl
 | a::x=>by simp [Op.bytesLess,Zd1 x,UInt8.lt_irrefl]
theorem ZcU (a:ByteArray):sLess a a=false:=Zd1 _
theorem Zcs {a b:ByteArray} (h:(a.toList==b.toList)=true):a=b:=by
 by_cases e:a=b
 ·exact e
 ·exact absurd h (by rw [ZbH e];simp)
theorem Zj4:∀ x y:List UInt8,decide (Lib.compareBytes x y<0)=Op.bytesLess x y
 | [],[]=>by simp [Lib.compareBytes,Op.bytesLess]
 | [],_::_=>by simp [Lib.compareBytes,Op.bytesLess]
 | _::_,[]=>by simp [Lib.compareBytes,Op.bytesLess]
 |
  a::x,b::y=>by
  have ih:=Zj4 x y
  unfold Lib.compareBytes Op.bytesLess
  by_cases h1:a<b
  ·simp [h1]
  ·by_cases h2:b<a
   ·have h3:(a==b)=false:=by
     simp only [beq_eq_false_iff_ne,ne_eq]
     intro e;subst e;exact absurd h2 h1
    simp [h1,h2,h3]
   ·have h3:a=b:=UInt8.le_antisymm (UInt8.not_lt.1 h2) (UInt8.not_lt.1 h1)
    subst h3
    simp [h1,ih]
theorem Zj5:∀ x y:List UInt8,decide (Lib.compareBytes x y=0)=(x==y)
 | [],[]=>by simp [Lib.compareBytes]
 | [],_::_=>by simp [Lib.compareBytes]
 | _::_,[]=>by simp [Lib.compareBytes]
 |
  a::x,b::y=>by
  have ih:=Zj5 x y
  unfold Lib.compareBytes
  by_cases h1:a<b
  ·have h3:¬ a=b:=by intro e;subst e;exact absurd h1 (UInt8.lt_irrefl _)
   simp [h1,h3]
  ·by_cases h2:b<a
   ·have h3:¬ a=b:=by intro e;subst e;exact absurd h2 h1
    simp [h1,h2,h3]
   ·have h3:a=b:=UInt8.le_antisymm (UInt8.not_lt.1 h2) (UInt8.not_lt.1 h1)
    subst h3
    simp [h1,ih]
theorem Ziq {l:List DMacro} (h:tabOk l=true):∀ d i:Nat,(hj:i+d+1<l.length)->sLess (l[i]'(by omega)).name (l[i+d+1]'hj).name=true
 |
  0,i,hj=>by
  have:=(Ze9 h).2 (i+1) (by omega)
  unfold tabAt at this
  rw [dif_pos (by omega)] at this
  simpa using (Bool.and_eq_true_iff.1 this).2
 |
  d+1,i,hj=>by
  have h1:=Ziq h d i (by omega)
  have h2:=Ziq h 0 (i+d+1) (by omega)
  exact ZcA h1 (by simpa [Nat.add_assoc] using h2)
theorem Zj6 {l:List DMacro} (h:tabOk l=true) {i j:Nat} (hij:i<j) (hj:j<l.length):sLess (l[i]'(by omega)).name l[j].name=true:=by
 have:=Ziq h (j-i-1) i (by omega)
 simpa [show i+(j-i-1)+1=j by omega] using this
def lowFrom (l:List DMacro) (nm:ByteArray) (k:Nat):Nat:=if h:k<l.length then (if sLess l[k].name nm=true then lowFrom l nm (k+1) else k) else k
termination_by l.length-k
def lowAt (l:List DMacro) (nm:ByteArray):Nat:=lowFrom l nm 0
theorem Zj7 {l:List DMacro} {nm:ByteArray} {k:Nat} (h:k<l.length) (h1:sLess l[k].name nm=true):lowFrom l nm k=lowFrom l nm (k+1):=by rw [lowFrom,dif_pos h,if_pos h1]
theorem Zhe {l:List DMacro} {nm:ByteArray} {k:Nat} (h:k<l.length) (h1:sLess l[k].name nm=false):lowFrom l nm k=k:=by rw [lowFrom,dif_pos h,if_neg (by simp [h1])]
theorem ZlH {l:List DMacro} {nm:ByteArray} {k:Nat} (h:l.length<=k):lowFrom l nm k=k:=by rw [lowFrom,dif_neg (by omega)]
theorem Zml (l:List DMacro) (nm:ByteArray) (k:Nat) (hk:k<=l.length):lowFrom l nm k<=l.length:=by
 induction k using lowFrom.induct (l:=l) (nm:=nm) with
 | case1 k h h1 ih=>rw [Zj7 h h1];exact ih (by omega)
 | case2 k h h1=>rw [Zhe h (by simpa using h1)];omega
 | case3 k h=>rw [ZlH (by omega)];omega
theorem low_le (l:List DMacro) (nm:ByteArray):lowAt l nm<=l.length:=Zml l nm 0 (by omega)
theorem Zmm (l:List DMacro) (nm:ByteArray) (k:Nat):∀ j,(hj:j<l.length)->k<=j->j<lowFrom l nm k->sLess l[j].name nm=true:=by
 induction k using lowFrom.induct (l:=l) (nm:=nm) with
 |
  case1 k h h1 ih =>
  intro j hj hk hl
  rw [Zj7 h h1] at hl
  by_cases e:j=k
  ·subst e;exact h1
  ·exact ih j hj (by omega) hl
 | case2 k h h1=>intro j hj hk hl;rw [Zhe h (by simpa using h1)] at hl;omega
 | case3 k h=>intro j hj hk hl;omega
theorem Zmn (l:List DMacro) (nm:ByteArray) (k:Nat):∀ h:lowFrom l nm k<l.length,sLess l[lowFrom l nm k].name nm=false:=by
 induction k using lowFrom.induct (l:=l) (nm:=nm) with
 | case1 k h h1 ih=>rw [Zj7 h h1];exact ih
 | case2 k h h1=>rw [Zhe h (by simpa using h1)];intro _;simpa using h1
 | case3 k h=>rw [ZlH (by omega)];intro h2;omega
theorem Zir {l:List DMacro} (h:tabOk l=true) (nm:ByteArray) {j:Nat} (hj:j<l.length):sLess l[j].name nm=decide (j<lowAt l nm):=by
 by_cases hl:j<lowAt l nm
 ·rw [decide_eq_true hl]
  exact Zmm l nm 0 j hj (by omega) hl
 ·rw [decide_eq_false hl]
  have hlow:lowAt l nm<l.length:=by omega
  have h1:=Zmn l nm 0 hlow
  by_cases e:lowAt l nm=j
  ·subst e;exact h1
  ·have h2:=Zj6 h (show lowAt l nm<j by omega) hj
   cases h3:sLess l[j].name nm
   ·rfl
   ·exact absurd (ZcA h2 h3) (by rw [show sLess (l[lowAt l nm]'hlow).name nm=false from h1];simp)
def plFrom (l:List DMacro) (nm:ByteArray) (k:Nat):Int:=if h:k<l.length then (if (l[k].name.toList==nm.toList)=true then (k:Int) else plFrom l nm (k+1)) else -1
termination_by l.length-k
def place (l:List DMacro) (nm:ByteArray):Int:=plFrom l nm 0
theorem ZhQ {l:List DMacro} {nm:ByteArray} {k:Nat} (h:l.length<=k):plFrom l nm k=-1:=by rw [plFrom,dif_neg (by omega)]
theorem Zj8 {l:List DMacro} {nm:ByteArray} {k:Nat} (h:k<l.length) (h1:(l[k].name.toList==nm.toList)=true):plFrom l nm k=k:=by rw [plFrom,dif_pos h,if_pos h1]
theorem Zgr {l:List DMacro} {nm:ByteArray} {k:Nat} (h:k<l.length) (h1:(l[k].name.toList==nm.toList)=false):plFrom l nm k=plFrom l nm (k+1):=by rw [plFrom,dif_pos h,if_neg (by simp [h1])]
theorem pl_low {l:List DMacro} (h:tabOk l=true) (nm:ByteArray) (k:Nat) (hk:k<=lowAt l nm) :
  plFrom l nm k=if hl:lowAt l nm<l.length then (if (l[lowAt l nm].name.toList==nm.toList)=true then (lowAt l nm:Int) else -1) else -1:=by
 induction k using plFrom.induct (l:=l) (nm:=nm) with
 |
  case1 k hkl h1 =>
  have hs:sLess l[k].name nm=false:=by rw [Zcs h1];exact ZcU _
  rw [Zir h nm hkl,decide_eq_false_iff_not] at hs
  obtain rfl:k=lowAt l nm:=by omega
  rw [Zj8 hkl h1,dif_pos hkl,if_pos h1]
 |
  case2 k hkl h1 ih =>
  rw [Zgr hkl (by simpa using h1)]
  by_cases e:k=lowAt l nm
  ·subst e
   rw [dif_pos hkl,if_neg h1]
   have:∀ k',lowAt l nm<k'->plFrom l nm k'=-1:=by
    intro k' hk'
    induction k' using plFrom.induct (l:=l) (nm:=nm) with
    |
     case1 k' hkl' h1' =>
     have h2:=Zj6 h hk' hkl'
     rw [Zcs h1',Zir h nm hkl,decide_eq_true_eq] at h2
     omega
    | case2 k' hkl' h1' ih'=>rw [Zgr hkl' (by simpa using h1')];exact ih' (by omega)
    | case3 k' hkl'=>rw [ZhQ (by omega)]
   exact this _ (by omega)
  ·exact ih (by omega)
 |
  case3 k hkl =>
  rw [ZhQ (by omega)]
  rw [dif_neg (by have:=low_le l nm;omega)]
def isIn (l:List DMacro) (nm:ByteArray):Bool:=if h:lowAt l nm<l.length then l[lowAt l nm].name.toList==nm.toList else false
theorem Zfa {l:List DMacro} (h:tabOk l=true) (nm:ByteArray):place l nm=if isIn l nm=true then (lowAt l nm:Int) else -1:=by
 unfold place isIn
 rw [pl_low h nm 0 (by omega)]
 by_cases hl:lowAt l nm<l.length
 ·rw [dif_pos hl,dif_pos hl]
 ·rw [dif_neg hl,dif_neg hl];rfl
def isDfn (t:Tok):Bool:=decide (t.kind=1) && (t.text.toList==[100,101,102,105,110,101,100])
def nmAt (l:List Tok) (k:Nat):Bool:=if h:k<l.length then decide (l[k].kind=1) else false
def txAt (l:List Tok) (k:Nat):ByteArray:=if h:k<l.length then l[k].text else ⟨#[]⟩
def numTk (b sp:Bool):Tok:=⟨2,if b=true then ⟨#[49]⟩ else ⟨#[48]⟩,sp,[]⟩
def hasT (T:List DMacro) (nm:ByteArray):Bool:=decide (0<=place T nm)
def repG (T:List DMacro) (l:List Tok) (k:Nat) (acc:List Tok):List Tok × Bool:=
 if h:k<l.length then
  (if isDfn l[k]=true then
   (if mkAt l (k+1) [40]=true then
    (if mkAt l (k+3) [41]=true/\nmAt l (k+2)=true then repG T l (k+4) (acc++[numTk (hasT T (txAt l (k+2))) l[k].spaced]) else ([],false))
   else if nmAt l (k+1)=true then repG T l (k+2) (acc++[numTk (hasT T (txAt l (k+1))) l[k].spaced]) else ([],false))
  else repG T l (k+1) (acc++[l[k]]))
 else (acc,true)
termination_by l.length-k
def ZaN (T:List DMacro) (l:List Tok):List Tok × Bool:=if tabOk T=true/\Zaj l=true then repG T l 0 [] else ([],false)
theorem ZdH {T:List DMacro} {l:List Tok} (h:¬ (tabOk T=true/\Zaj l=true)):ZaN T l=([],false):=by unfold ZaN;rw [if_neg h]
section
variable {T:List DMacro} {l acc:List Tok} {k:Nat}
theorem Zgs (h:l.length<=k):repG T l k acc=(acc,true):=by rw [repG,dif_neg (by omega)]
theorem Zj9 (h:k<l.length) (hd:isDfn l[k]=false):repG T l k acc=repG T l (k+1) (acc++[l[k]]):=by rw [repG,dif_pos h,if_neg (by rw [hd];simp)]
theorem Zf0 (h:k<l.length) (hd:isDfn l[k]=true) (ho:mkAt l (k+1) [40]=false) (hn:nmAt l (k+1)=true):repG T l k acc=repG T l (k+2) (acc++[numTk (hasT T (txAt l (k+1))) l[k].spaced]):=by
 rw [repG,dif_pos h,if_pos hd,if_neg (by rw [ho];simp),if_pos hn]
theorem Zhf (h:k<l.length) (hd:isDfn l[k]=true) (ho:mkAt l (k+1) [40]=false) (hn:nmAt l (k+1)=false):repG T l k acc=([],false):=by
 rw [repG,dif_pos h,if_pos hd,if_neg (by rw [ho];simp),if_neg (by rw [hn];simp)]
theorem Zka (h:k<l.length) (hd:isDfn l[k]=true) (ho:mkAt l (k+1) [40]=true) (hc:mkAt l (k+3) [41]=true) (hn:nmAt l (k+2)=true):repG T l k acc=repG T l (k+4) (acc++[numTk (hasT T (txAt l (k+2))) l[k].spaced]):=by
 rw [repG,dif_pos h,if_pos hd,if_pos ho,if_pos ⟨hc,hn⟩]
theorem Zfb (h:k<l.length) (hd:isDfn l[k]=true) (ho:mkAt l (k+1) [40]=true) (hc:¬ (mkAt l (k+3) [41]=true/\nmAt l (k+2)=true)):repG T l k acc=([],false):=by
 rw [repG,dif_pos h,if_pos hd,if_pos ho,if_neg hc]
theorem ZeO {s:List UInt8} (h:l.length<=k):mkAt l k s=false:=by unfold mkAt;rw [dif_neg (by omega)]
theorem ZeP {s:List UInt8} (h:k<l.length):mkAt l k s=isMk l[k] s:=by unfold mkAt;rw [dif_pos h]
theorem ZlI (h:l.length<=k):nmAt l k=false:=by unfold nmAt;rw [dif_neg (by omega)]
theorem ZdL (h:k<l.length):nmAt l k=decide (l[k].kind=1):=by unfold nmAt;rw [dif_pos h]
theorem Zgt (h:k<l.length):txAt l k=l[k].text:=by unfold txAt;rw [dif_pos h]
theorem rep_len:(repG T l k acc).1.length<=acc.length+(l.length-k):=by
 induction hn:l.length-k using Nat.strongRecOn generalizing k acc with
 |
  _ n ih =>
  subst hn
  by_cases h:k<l.length
  ·rw [repG,dif_pos h]
   split
   ·split
    ·split
     ·have:=ih (l.length-(k+4)) (by omega) (k:=k+4) (acc:=acc++[numTk (hasT T (txAt l (k+2))) l[k].spaced]) rfl
      simp only [List.length_append,List.length_cons,List.length_nil] at this
      rename_i h1 h2 h3
      have:k+3<l.length:=by
       by_cases h4:k+3<l.length
       ·exact h4
       ·rw [ZeO (by omega)] at h3;exact absurd h3.1 (by simp)
      omega
     ·simp
    ·split
     ·have:=ih (l.length-(k+2)) (by omega) (k:=k+2) (acc:=acc++[numTk (hasT T (txAt l (k+1))) l[k].spaced]) rfl
      simp only [List.length_append,List.length_cons,List.length_nil] at this
      omega
     ·simp
   ·have:=ih (l.length-(k+1)) (by omega) (k:=k+1) (acc:=acc++[l[k]]) rfl
    simp only [List.length_append,List.length_cons,List.length_nil] at this
    omega
  ·rw [Zgs (by omega)];exact Nat.le_add_right _ _
theorem rep_all {P:Tok->Prop} (h0:∀ t∈l,isDfn t=false->P t) (h1:∀ b sp,P (numTk b sp)) (ha:∀ t∈acc,P t):∀ t∈(repG T l k acc).1,P t:=by
 have put:∀ {x:Tok},P x->∀ t∈acc++[x],P t:=λ hx t ht=>by
  rcases Qa ht with h | h
  ·exact ha t h
  ·obtain rfl:=Qm h;exact hx
 induction hn:l.length-k using Nat.strongRecOn generalizing k acc with
 |
  _ n ih =>
  subst hn
  by_cases h:k<l.length
  ·have again:∀ j x,k<j->P x->∀ t∈(repG T l j (acc++[x])).1,P t:=λ j x hj hx =>
    ih (l.length-j) (by omega) (k:=j) (acc:=acc++[x]) (put hx) (λ hy t ht=>by
     rcases Qa ht with h | h
     ·exact put hx t h
     ·obtain rfl:=Qm h;exact hy) rfl
   rw [repG,dif_pos h]
   split
   ·split
    ·split
     ·exact again _ _ (by omega) (h1 _ _)
     ·simp
    ·split
     ·exact again _ _ (by omega) (h1 _ _)
     ·simp
   ·rename_i hd
    exact again _ _ (by omega) (h0 _ (List.getElem_mem h) (by simpa using hd))
  ·rw [Zgs (by omega)];exact ha
end
theorem tok_num (b sp:Bool):tokOk (numTk b sp)=true:=by
 have:∀ b sp,tokOk (numTk b sp)=true:=by decide +kernel
 exact this b sp
theorem Zm6 {T:List DMacro} {l:List Tok} (hl:Zaj l=true):Zaj (repG T l 0 []).1=true:=by
 have h:=Zan hl
 unfold Zaj
 rw [Bool.and_eq_true,decide_eq_true_eq,List.all_eq_true]
 refine ⟨?_,rep_all (P:=λ t=>tokOk t=true) (λ t ht _=>?_) tok_num (by simp)⟩
 ·have:=rep_len (T:=T) (l:=l) (k:=0) (acc:=[])
  simp only [List.length_nil] at this
  omega
 ·obtain⟨k,hk,rfl⟩:=List.getElem_of_mem ht
  exact h.2 k hk
theorem inR_iff {n:Int}:inR n=true ↔ -1000000<=n/\n<=1000000:=by unfold inR;simp
theorem bit1_in (b:Bool):inR (bit1 b)=true:=by cases b <;> decide
theorem ZlJ {n:Int} (h:inR n=true):inR (-n)=true:=by rw [inR_iff] at h ⊢;omega
theorem Zen (s:List UInt8) (a b:Int):inR (Zah s a b).1=true/\0<=(Zah s a b).2/\(Zah s a b).2<=3:=by
 unfold Zah
 split
 ·exact⟨by decide,by decide,by decide⟩
 ·split
  ·exact⟨by decide,by decide,by decide⟩
  ·split
   ·rename_i h;exact⟨h,(by decide:(0:Int)<=0),(by decide:(0:Int)<=3)⟩
   ·exact⟨by decide,by decide,by decide⟩
theorem Zjb (s:List UInt8):-1<=Zax s/\Zax s<=1000000:=by
 unfold Zax
 split
 ·exact⟨by decide,by decide⟩
 ·split
  ·exact⟨by decide,by decide⟩
  ·rename_i h1 h2
   have key:∀ (s:List UInt8) (n:Int),0<=n->s.all isDig=true->0<=s.foldl (λ n c=>10 * n+((c.toNat:Int)-48)) n:=by
    intro s
    induction s with
    | nil=>intro n hn _;exact hn
    |
     cons c r ih =>
     intro n hn hd
     rw [List.all_cons,Bool.and_eq_true] at hd
     have hc:=hd.1
     unfold isDig at hc
     rw [decide_eq_true_eq] at hc
     exact ih _ (by show 0<=10 * n+((c.toNat:Int)-48);omega) hd.2
   have h3:s.all isDig=true:=by
    cases h:s.all isDig
    ·exact absurd (.inr (.inr h)) h1
    ·rfl
   have:=key s 0 (Int.le_refl _) h3
   unfold digs at h2 ⊢
   omega
def posQ:Ask->Nat
 | .one k=>k
 | .marks k _=>k
 | .more _ _ e _=>e
 | .choice k=>k
def okQ (l:List Tok):Ask->Prop
 | .one k=>k<=l.length
 | .marks k _=>k<=l.length
 | .more _ n e f=>f=0/\e<=l.length/\inR n=true
 | .choice k=>k<=l.length
def isMore:Ask->Prop
 | .more _ _ _ _=>True
 | _=>False
theorem ZbV {l:List Tok} {k:Nat} {s:List UInt8} (h:mkAt l k s=true):∃ hk:k<l.length,isMk l[k] s=true:=by
 unfold mkAt at h
 split at h
 ·rename_i hk;exact⟨hk,h⟩
 ·simp at h
def Fine (l:List Tok) (d:Nat) (q:Ask) (r:VRes):Prop:=
 inR r.1=true/\r.2.1<=l.length+d/\(r.2.2=0->r.2.1<=l.length/\posQ q<=r.2.1/\(isMore q\/posQ q<r.2.1))/\0<=r.2.2/\r.2.2<=3
theorem Zd2 {l:List Tok} {d rank e:Nat} {n f:Int} {r:VRes} (h:pv l d (.more rank n e f)=some r) (hf:f≠0):r=(n,e,f):=by
 cases d with
 | zero=>simp [pv] at h
 |
  succ d =>
  unfold pv at h
  rw [dif_neg (λ h'=>hf h'.1)] at h
  simpa using h.symm
theorem ZbD (l:List Tok):∀ (d:Nat) (q:Ask) (r:VRes),okQ l q->pv l d q=some r->Fine l d q r:=by
 intro d
 induction d with
 | zero=>intro q r _ h;simp [pv] at h
 |
  succ d ih =>
  intro q r hq h
  cases q with
  |
   one k =>
   have hk':k<=l.length:=hq
   unfold pv at h
   by_cases hk:k<l.length
   ·rw [dif_pos hk] at h
    by_cases h1:isMk l[k] [33]=true
    ·rw [if_pos h1] at h
     obtain⟨a,h2,h3⟩:=bind_some h
     obtain⟨g1,g2,g3,g4,g5⟩:=ih _ _ (show okQ l (.one (k+1)) from hk) h2
     simp only [Qi] at h3
     subst h3
     refine ⟨bit1_in _,by show a.2.1<=_;omega,λ h0=>?_,g4,g5⟩
     obtain⟨g6,g7,-⟩:=g3 h0
     have g7':k+1<=a.2.1:=g7
     exact⟨g6,by show k<=a.2.1;omega,.inr (by show k<a.2.1;omega)⟩
    rw [if_neg h1] at h
    by_cases h2:isMk l[k] [45]=true
    ·rw [if_pos h2] at h
     obtain⟨a,h4,h3⟩:=bind_some h
     obtain⟨g1,g2,g3,g4,g5⟩:=ih _ _ (show okQ l (.one (k+1)) from hk) h4
     simp only [Qi] at h3
     subst h3
     refine ⟨ZlJ g1,by show a.2.1<=_;omega,λ h0=>?_,g4,g5⟩
     obtain⟨g6,g7,-⟩:=g3 h0
     have g7':k+1<=a.2.1:=g7
     exact⟨g6,by show k<=a.2.1;omega,.inr (by show k<a.2.1;omega)⟩
    rw [if_neg h2] at h
    by_cases h3:isMk l[k] [40]=true
    ·rw [if_pos h3] at h
     obtain⟨a,h4,h5⟩:=bind_some h
     obtain⟨g1,g2,g3,g4,g5⟩:=ih _ _ (show okQ l (.choice (k+1)) from hk) h4
     simp only [Qi] at h5
     subst h5
     refine ⟨g1,by show a.2.1+1<=_;omega,λ h0=>?_,?_,?_⟩
     ·have h0':(if a.2.2=0/\mkAt l a.2.1 [41]=false then (1:Int) else a.2.2)=0:=h0
      split at h0'
      ·simp at h0'
      ·rename_i h6
       obtain⟨g6,g7,-⟩:=g3 h0'
       have g7':k+1<=a.2.1:=g7
       have h7:mkAt l a.2.1 [41]=true:=by
        cases hm:mkAt l a.2.1 [41]
        ·exact absurd ⟨h0',hm⟩ h6
        ·rfl
       obtain⟨h8,-⟩:=ZbV h7
       exact⟨by show a.2.1+1<=_;omega,by show k<=a.2.1+1;omega,.inr (by show k<a.2.1+1;omega)⟩
     ·show 0<=(if a.2.2=0/\mkAt l a.2.1 [41]=false then (1:Int) else a.2.2)
      split <;> omega
     ·show (if a.2.2=0/\mkAt l a.2.1 [41]=false then (1:Int) else a.2.2)<=3
      split <;> omega
    rw [if_neg h3] at h
    by_cases h4:(l[k]).kind=1
    ·rw [if_pos h4] at h
     simp only [Qi] at h
     subst h
     exact⟨rfl,by show k+1<=_;omega,λ _=>⟨hk,by show k<=k+1;omega,.inr (by show k<k+1;omega)⟩,(by decide:(0:Int)<=0),(by decide:(0:Int)<=3)⟩
    rw [if_neg h4] at h
    by_cases h5:(l[k]).kind=2/\0<=Zax (l[k]).text.toList
    ·rw [if_pos h5] at h
     simp only [Qi] at h
     subst h
     have:=Zjb (l[k]).text.toList
     exact⟨by rw [inR_iff];show -1000000<=Zax (l[k]).text.toList/\Zax (l[k]).text.toList<=1000000;have:=h5.2;omega,by show k+1<=_;omega,λ _=>⟨hk,by show k<=k+1;omega,.inr (by show k<k+1;omega)⟩,(by decide:(0:Int)<=0),(by decide:(0:Int)<=3)⟩
    rw [if_neg h5] at h
    simp only [Qi] at h
    subst h
    exact⟨rfl,by show k<=_;omega,λ h0=>absurd (show (1:Int)=0 from h0) (by decide),(by decide:(0:Int)<=1),(by decide:(1:Int)<=3)⟩
   ·rw [dif_neg hk] at h
    simp only [Qi] at h
    subst h
    exact⟨rfl,by show k<=_;omega,λ h0=>absurd (show (1:Int)=0 from h0) (by decide),(by decide:(0:Int)<=1),(by decide:(1:Int)<=3)⟩
  |
   marks k rank =>
   unfold pv at h
   obtain⟨a,h1,h2⟩:=bind_some h
   obtain⟨g1,g2,g3,g4,g5⟩:=ih _ _ (show okQ l (.one k) from hq) h1
   by_cases hf:a.2.2=0
   ·obtain⟨g6,g7,g8⟩:=g3 hf
    have g9:k<a.2.1:=g8.resolve_left (λ h=>h)
    obtain⟨e1,e2,e3,e4,e5⟩:=ih _ _ (show okQ l (.more rank a.1 a.2.1 a.2.2) from⟨hf,g6,g1⟩) h2
    refine ⟨e1,by omega,λ h0=>?_,e4,e5⟩
    obtain⟨e6,e7,-⟩:=e3 h0
    have e7':a.2.1<=r.2.1:=e7
    exact⟨e6,by show k<=r.2.1;omega,.inr (by show k<r.2.1;omega)⟩
   ·have:=Zd2 h2 hf
    subst this
    exact⟨g1,by show a.2.1<=_;omega,λ h0=>absurd h0 hf,g4,g5⟩
  |
   more rank n p f =>
   obtain⟨hf,hp,hn⟩:=hq
   unfold pv at h
   by_cases hk:f=0/\p<l.length
   ·rw [dif_pos hk] at h
    by_cases h1:rankM (l[p]'hk.2)<rank
    ·rw [if_pos h1] at h
     simp only [Qi] at h
     subst h
     exact⟨hn,by show p<=_;omega,λ _=>⟨hp,Nat.le_refl _,.inl trivial⟩,by show 0<=f;omega,by show f<=3;omega⟩
    rw [if_neg h1] at h
    obtain⟨a,h2,h3⟩:=bind_some h
    obtain⟨g1,g2,g3,g4,g5⟩:=ih _ _ (show okQ l (.marks (p+1) _) from hk.2) h2
    by_cases h4:a.2.2≠0
    ·rw [if_pos h4] at h3
     simp only [Qi] at h3
     subst h3
     exact⟨rfl,by show a.2.1<=_;omega,λ h0=>absurd h0 h4,g4,g5⟩
    ·rw [if_neg h4] at h3
     have h40:a.2.2=0:=by omega
     obtain⟨g6,g7,g8⟩:=g3 h40
     have g9:p+1<a.2.1:=g8.resolve_left (λ h=>h)
     obtain⟨m1,m2,m3⟩:=Zen (l[p]'hk.2).text.toList n a.1
     by_cases hw:(Zah (l[p]'hk.2).text.toList n a.1).2=0
     ·obtain⟨e1,e2,e3,e4,e5⟩:=ih _ _ (show okQ l (.more rank _ a.2.1 _) from⟨hw,g6,m1⟩) h3
      refine ⟨e1,by omega,λ h0=>?_,e4,e5⟩
      obtain⟨e6,e7,-⟩:=e3 h0
      have e7':a.2.1<=r.2.1:=e7
      exact⟨e6,by show p<=r.2.1;omega,.inl trivial⟩
     ·have:=Zd2 h3 hw
      subst this
      exact⟨m1,by show a.2.1<=_;omega,λ h0=>absurd h0 hw,m2,m3⟩
   ·rw [dif_neg hk] at h
    simp only [Qi] at h
    subst h
    exact⟨hn,by show p<=_;omega,λ _=>⟨hp,Nat.le_refl _,.inl trivial⟩,by show 0<=f;omega,by show f<=3;omega⟩
  |
   choice k =>
   unfold pv at h
   obtain⟨a,h1,h2⟩:=bind_some h
   obtain⟨g1,g2,g3,g4,g5⟩:=ih _ _ (show okQ l (.marks k 1) from hq) h1
   by_cases h3:a.2.2=0/\mkAt l a.2.1 [63]=true
   ·rw [if_pos h3] at h2
    obtain⟨g6,g7,g8⟩:=g3 h3.1
    have g9:k<a.2.1:=g8.resolve_left (λ h=>h)
    obtain⟨q1,-⟩:=ZbV h3.2
    obtain⟨b,h4,h5⟩:=bind_some h2
    obtain⟨e1,e2,e3,e4,e5⟩:=ih _ _ (show okQ l (.choice (a.2.1+1)) from q1) h4
    by_cases h6:b.2.2≠0
    ·rw [if_pos h6] at h5
     simp only [Qi] at h5
     subst h5
     exact⟨rfl,by show b.2.1<=_;omega,λ h0=>absurd h0 h6,e4,e5⟩
    rw [if_neg h6] at h5
    have h60:b.2.2=0:=by omega
    obtain⟨e6,e7,-⟩:=e3 h60
    have e7':a.2.1+1<=b.2.1:=e7
    by_cases h7:mkAt l b.2.1 [58]=true
    ·rw [if_pos h7] at h5
     obtain⟨q2,-⟩:=ZbV h7
     obtain⟨c,h8,h9⟩:=bind_some h5
     obtain⟨c1,c2,c3,c4,c5⟩:=ih _ _ (show okQ l (.choice (b.2.1+1)) from q2) h8
     simp only [Qi] at h9
     subst h9
     refine ⟨?_,by show c.2.1<=_;omega,λ h0=>?_,c4,c5⟩
     ·show inR (if a.1≠0 then b.1 else c.1)=true
      split
      ·exact e1
      ·exact c1
     ·obtain⟨c6,c7,-⟩:=c3 h0
      have c7':b.2.1+1<=c.2.1:=c7
      exact⟨c6,by show k<=c.2.1;omega,.inr (by show k<c.2.1;omega)⟩
    ·rw [if_neg h7] at h5
     simp only [Qi] at h5
     subst h5
     exact⟨rfl,by show b.2.1<=_;omega,λ h0=>absurd (show (1:Int)=0 from h0) (by decide),(by decide:(0:Int)<=1),(by decide:(1:Int)<=3)⟩
   ·rw [if_neg h3] at h2
    simp only [Qi] at h2
    subst h2
    refine ⟨g1,by omega,λ h0=>?_,g4,g5⟩
    obtain⟨g6,g7,g8⟩:=g3 h0
    exact⟨g6,g7,.inr (g8.resolve_left (λ h=>h))⟩
def needQ (l:List Tok):Ask->Nat
 | .one k=>4 * (l.length-k)+1
 | .more _ _ e _=>4 * (l.length-e)+2
 | .marks k _=>4 * (l.length-k)+3
 | .choice k=>4 * (l.length-k)+4
theorem Zkb (l:List Tok):∀ (d:Nat) (q:Ask),okQ l q->needQ l q<=d->∃ r,pv l d q=some r:=by
 intro d
 induction d with
 | zero=>intro q _ h;cases q <;> simp [needQ] at h
 |
  succ d ih =>
  intro q hq h
  cases q with
  |
   one k =>
   have h':4 * (l.length-k)+1<=d+1:=h
   unfold pv
   by_cases hk:k<l.length
   ·rw [dif_pos hk]
    obtain⟨a,ha⟩:=ih (.one (k+1)) hk (by show 4 * (l.length-(k+1))+1<=d;omega)
    obtain⟨b,hb⟩:=ih (.choice (k+1)) hk (by show 4 * (l.length-(k+1))+4<=d;omega)
    rw [ha,hb]
    simp only [Option.bind_some]
    split
    ·exact⟨_,rfl⟩
    ·split
     ·exact⟨_,rfl⟩
     ·split
      ·exact⟨_,rfl⟩
      ·split
       ·exact⟨_,rfl⟩
       ·split <;> exact⟨_,rfl⟩
   ·rw [dif_neg hk];exact⟨_,rfl⟩
  |
   marks k rank =>
   have h':4 * (l.length-k)+3<=d+1:=h
   have hk:k<=l.length:=hq
   unfold pv
   obtain⟨a,ha⟩:=ih (.one k) hk (by show 4 * (l.length-k)+1<=d;omega)
   rw [ha]
   simp only [Option.bind_some]
   obtain⟨g1,g2,g3,g4,g5⟩:=ZbD l d _ _ (show okQ l (.one k) from hk) ha
   by_cases hf:a.2.2=0
   ·obtain⟨g6,g7,-⟩:=g3 hf
    have g7':k<=a.2.1:=g7
    exact ih _ ⟨hf,g6,g1⟩ (by show 4 * (l.length-a.2.1)+2<=d;omega)
   ·obtain⟨e,rfl⟩:∃ e,d=e+1:=⟨d-1,by omega⟩
    unfold pv
    rw [dif_neg (λ h=>hf h.1)]
    exact⟨_,rfl⟩
  |
   more rank n p f =>
   obtain⟨hf,hp,hn⟩:=hq
   have h':4 * (l.length-p)+2<=d+1:=h
   unfold pv
   by_cases hk:f=0/\p<l.length
   ·rw [dif_pos hk]
    by_cases h1:rankM (l[p]'hk.2)<rank
    ·rw [if_pos h1];exact⟨_,rfl⟩
    rw [if_neg h1]
    have hpl:=hk.2
    obtain⟨a,ha⟩:=ih (.marks (p+1) (rankM (l[p]'hk.2)+1)) hk.2 (by show 4 * (l.length-(p+1))+3<=d;omega)
    rw [ha]
    simp only [Option.bind_some]
    obtain⟨g1,g2,g3,g4,g5⟩:=ZbD l d _ _ (show okQ l (.marks (p+1) _) from hk.2) ha
    by_cases h4:a.2.2≠0
    ·rw [if_pos h4];exact⟨_,rfl⟩
    rw [if_neg h4]
    obtain⟨g6,g7,-⟩:=g3 (by omega)
    have g7':p+1<=a.2.1:=g7
    obtain⟨m1,m2,m3⟩:=Zen (l[p]'hk.2).text.toList n a.1
    by_cases hw:(Zah (l[p]'hk.2).text.toList n a.1).2=0
    ·exact ih _ ⟨hw,g6,m1⟩ (by show 4 * (l.length-a.2.1)+2<=d;omega)
    ·obtain⟨e,rfl⟩:∃ e,d=e+1:=⟨d-1,by omega⟩
     unfold pv
     rw [dif_neg (λ h=>hw h.1)]
     exact⟨_,rfl⟩
   ·rw [dif_neg hk];exact⟨_,rfl⟩
  |
   choice k =>
   have h':4 * (l.length-k)+4<=d+1:=h
   have hk:k<=l.length:=hq
   unfold pv
   obtain⟨a,ha⟩:=ih (.marks k 1) hk (by show 4 * (l.length-k)+3<=d;omega)
   rw [ha]
   simp only [Option.bind_some]
   obtain⟨g1,g2,g3,g4,g5⟩:=ZbD l d _ _ (show okQ l (.marks k 1) from hk) ha
   by_cases h3:a.2.2=0/\mkAt l a.2.1 [63]=true
   ·rw [if_pos h3]
    obtain⟨g6,g7,g8⟩:=g3 h3.1
    have g9:k<a.2.1:=g8.resolve_left (λ h=>h)
    obtain⟨q1,-⟩:=ZbV h3.2
    obtain⟨b,hb⟩:=ih (.choice (a.2.1+1)) q1 (by show 4 * (l.length-(a.2.1+1))+4<=d;omega)
    rw [hb]
    simp only [Option.bind_some]
    obtain⟨e1,e2,e3,e4,e5⟩:=ZbD l d _ _ (show okQ l (.choice (a.2.1+1)) from q1) hb
    by_cases h6:b.2.2≠0
    ·rw [if_pos h6];exact⟨_,rfl⟩
    rw [if_neg h6]
    obtain⟨e6,e7,-⟩:=e3 (by omega)
    have e7':a.2.1+1<=b.2.1:=e7
    by_cases h7:mkAt l b.2.1 [58]=true
    ·rw [if_pos h7]
     obtain⟨q2,-⟩:=ZbV h7
     obtain⟨c,hc⟩:=ih (.choice (b.2.1+1)) q2 (by show 4 * (l.length-(b.2.1+1))+4<=d;omega)
     rw [hc]
     exact⟨_,rfl⟩
    ·rw [if_neg h7];exact⟨_,rfl⟩
   ·rw [if_neg h3];exact⟨_,rfl⟩
structure RowE {α:Type} (S:Shape α) (base:Nat) (e:TypeId) (v:Value) (L:List (Elem α)) (w:World):Prop where
 row:w.ownsRow base e S.m v L.length (L.flatMap (·.cells))
 len:∀ x∈L,x.cells.length=S.m
 el:∀ x∈L,S.R w x.cells x.d x.fp
 lo:∀ x∈L,∀ b∈x.fp,base<=b
 ty:∀ x∈L,∀ b∈x.fp,∃ cur t fr,w.heap[b]?=some (.cells cur t fr)/\t≠e
section
variable {α:Type} {S:Shape α} {base:Nat} {e:TypeId} {v v':Value} {L:List (Elem α)} {w w':World}
theorem Zbb {n:Nat} {xs:List Value} {m:Nat} (h:w.ownsRow base e m v n xs) (hb:∀ g,v.ownBlock=some g->w'.heap[g]?=w.heap[g]?):w'.ownsRow base e m v n xs:=by
 refine ⟨h.1,?_⟩
 rcases h.2 with h0 | ⟨g,cap,cur,h1,h2,h3,h4⟩
 ·exact .inl h0
 ·exact .inr ⟨g,cap,cur,h1,h2,(hb g (by rw [h1];rfl)).trans h3,h4⟩
theorem RowE.same (h:RowE S base e v L w) (hb:∀ b,b<w.heap.size->base<=b->w'.heap[b]?=w.heap[b]?):RowE S base e v L w' where
 row:=Zbb h.row λ g hg=>by
  have:=h.row.lt g hg
  exact hb g this.2 this.1
 len:=h.len
 el:=λ x hx=>S.frame (λ b hb'=>hb b (S.lt (h.el x hx) b hb') (h.lo x hx b hb')) (h.el x hx)
 lo:=h.lo
 ty:=λ x hx b hb'=>by
  obtain⟨cur,t,fr,h1,h2⟩:=h.ty x hx b hb'
  exact⟨cur,t,fr,(hb b (S.lt (h.el x hx) b hb') (h.lo x hx b hb')).trans h1,h2⟩
theorem RowE.below (h:RowE S base e v L w) (hb:Below w.heap.size w w'):RowE S base e v L w':=h.same λ b hb' _=>hb.block b hb'
theorem RowE.nil (S:Shape α) (base:Nat) (e:TypeId) (w:World):RowE S base e (.slice none 0 0) [] w:=⟨World.ownsRow_nil _ _ _ _,by simp,by simp,by simp,by simp⟩
theorem RowE.val (h:RowE S base e v L w):∃ a cap,v=.slice a L.length cap/\L.length<=cap/\cap<=maxLen/\(0<L.length->∃ g,a=some ⟨g,0,none⟩/\base<=g/\g<w.heap.size):=by
 rcases h.row.2 with⟨rfl,h0⟩ | ⟨g,cap,cur,rfl,hb,hg,hn,hc,_⟩
 ·exact⟨none,0,by rw [h0],by omega,by simp,λ h=>by omega⟩
 ·exact⟨_,cap,rfl,hn,hc,λ _=>⟨g,rfl,hb,(Qg hg).1⟩⟩
theorem RowE.mine (h:RowE S base e v L w):∀ b,v.ownBlock=some b->base<=b:=λ b hb=>(h.row.lt b hb).1
theorem RowE.slice (h:RowE S base e v L w):∃ fp,(Zaa S).R w [v] (L.map (·.d)) fp:=by
 obtain⟨fp,h1,_⟩:=Za7 h.row λ x hx=>⟨h.len x hx,h.el x hx⟩
 exact⟨fp,h1⟩
theorem RowE.ap (h:RowE S base e v L w) {x:Elem α} (hx:x∈L) {b:Nat} (hb:b∈x.fp):v.ownBlock≠some b:=by
 intro hv
 obtain⟨cur,t,fr,h1,h2⟩:=h.ty x hx b hb
 rcases h.row.2 with⟨rfl,_⟩ | ⟨g,cap,cur',rfl,_,hg,_⟩
 ·simp [Value.ownBlock] at hv
 ·simp only [Value.ownBlock,Qi] at hv
  subst hv
  rw [h1] at hg
  simp only [Qi,Obj.cells.injEq] at hg
  exact h2 hg.2.1
theorem Zdn {f:Elem α->List Value} {m:Nat}:∀ {L:List (Elem α)} (_:∀ x∈L,(f x).length=m) {k:Nat} (hk:k<L.length) {j:Nat} (_:j<m) (u:Value) (x':Elem α) (_:f x'=(f L[k]).set j u),(L.flatMap f).set (k * m+j) u=(L.set k x').flatMap f
 | [],_,k,hk,_,_,_,_,_=>by simp at hk
 |
  x::L,hL,0,_,j,hj,u,x',hx=>by
  simp only [List.flatMap_cons,List.set_cons_zero,Nat.zero_mul,Nat.zero_add]
  rw [List.set_append_left _ _ (by rw [hL x (by simp)];exact hj),hx];rfl
 |
  x::L,hL,k+1,hk,j,hj,u,x',hx=>by
  have hl:=hL x (by simp)
  have e:(k+1) * m+j=m+(k * m+j):=by rw [Nat.succ_mul];omega
  simp only [List.flatMap_cons,List.set_cons_succ]
  rw [List.set_append_right _ _ (by rw [hl,e];omega),hl,e,Nat.add_sub_cancel_left]
  rw [Zdn (λ y hy=>hL y (by simp [hy])) (by simpa using hk) hj u x' (by simpa using hx)]
theorem RowE.set {g n cap:Nat} (h:RowE S base e (.slice (some ⟨g,0,none⟩) n cap) L w) {k:Nat} (hk:k<L.length) {j:Nat} (hj:j<S.m) (u:Value) (x':Elem α) (hx:x'.cells=L[k].cells.set j u)
  (hR:S.R w x'.cells x'.d x'.fp) (hlo:∀ b∈x'.fp,base<=b) (hty:∀ b∈x'.fp,∃ cur t fr,w.heap[b]?=some (.cells cur t fr)/\t≠e) :
  RowE S base e (.slice (some ⟨g,0,none⟩) n cap) (L.set k x') (w.setCell ⟨g,k * S.m+j,none⟩ u):=by
 have hne:∀ b:Nat,(∃ cur t fr,w.heap[b]?=some (.cells cur t fr)/\t≠e)->b≠g:=by
  rintro b ⟨cur,t,fr,h1,h2⟩ rfl
  rcases h.row.2 with⟨h',_⟩ | ⟨g',cap',cur',h',_,hg,_⟩
  ·cases h'
  ·simp only [Value.slice.injEq,Qi,Addr.mk.injEq,and_true] at h'
   obtain⟨rfl,_⟩:=h'
   rw [h1] at hg
   simp only [Qi,Obj.cells.injEq] at hg
   exact h2 hg.2.1
 have hblk:∀ b:Nat,b≠g->(w.setCell ⟨g,k * S.m+j,none⟩ u).heap[b]?=w.heap[b]?:=λ b hb=>Below.heap_setCell _ _ _ _ hb
 have hmem:∀ x∈L.set k x',x=x'\/x∈L:=λ x hx=>by
  rcases List.mem_or_eq_of_mem_set hx with h | h
  ·exact .inr h
  ·exact .inl h
 refine ⟨?_,λ x hx'=>?_,λ x hx'=>?_,λ x hx'=>?_,λ x hx'=>?_⟩
 ·have hn:L.length=n:=by
   rcases h.row.2 with⟨h',_⟩ | ⟨g',cap',cur,h',_⟩
   ·cases h'
   ·simp only [Value.slice.injEq] at h';exact h'.2.1.symm
  have hrow:=h.row
  rw [hn] at hrow
  have:=(hrow.stored (k * S.m+j) u).1
  rw [Zdn h.len hk hj u x' hx] at this
  rw [List.length_set,hn]
  exact this
 ·rcases hmem x hx' with rfl | hx'
  ·rw [hx,List.length_set];exact h.len _ (List.getElem_mem hk)
  ·exact h.len x hx'
 ·rcases hmem x hx' with rfl | hx'
  ·exact S.frame (λ b hb=>hblk b (hne b (hty b hb))) hR
  ·exact S.frame (λ b hb=>hblk b (hne b (h.ty x hx' b hb))) (h.el x hx')
 ·rcases hmem x hx' with rfl | hx'
  ·exact hlo
  ·exact h.lo x hx'
 ·intro b hb
  rcases hmem x hx' with rfl | hx'
  ·obtain⟨cur,t,fr,h1,h2⟩:=hty b hb
   exact⟨cur,t,fr,(hblk b (hne b ⟨cur,t,fr,h1,h2⟩)).trans h1,h2⟩
  ·obtain⟨cur,t,fr,h1,h2⟩:=h.ty x hx' b hb
   exact⟨cur,t,fr,(hblk b (hne b ⟨cur,t,fr,h1,h2⟩)).trans h1,h2⟩
theorem RowE.appended (h:RowE S base e v L w) {X:List (Elem α)} (hrow:w'.ownsRow base e S.m v' (L++X).length ((L++X).flatMap (·.cells))) (hg:w.grownBy w' v.ownBlock)
  (hlen:∀ x∈X,x.cells.length=S.m) (hR:∀ x∈X,S.R w x.cells x.d x.fp) (hlo:∀ x∈X,∀ b∈x.fp,base<=b) (hty:∀ x∈X,∀ b∈x.fp,∃ cur t fr,w.heap[b]?=some (.cells cur t fr)/\t≠e) :
  RowE S base e v' (L++X) w':=by
 have hne:∀ b:Nat,(∃ cur t fr,w.heap[b]?=some (.cells cur t fr)/\t≠e)->w'.heap[b]?=w.heap[b]?:=by
  rintro b ⟨cur,t,fr,h1,h2⟩
  refine hg.block b (Qg h1).1 λ hv=>?_
  rcases h.row.2 with⟨rfl,_⟩ | ⟨g',cap',cur',rfl,_,hg',_⟩
  ·simp [Value.ownBlock] at hv
  ·simp only [Value.ownBlock,Qi] at hv
   subst hv
   rw [h1] at hg'
   simp only [Qi,Obj.cells.injEq] at hg'
   exact h2 hg'.2.1
 refine ⟨hrow,λ x hx=>?_,λ x hx=>?_,λ x hx=>?_,λ x hx b hb=>?_⟩ <;> rcases Qa hx with hx | hx
 ·exact h.len x hx
 ·exact hlen x hx
 ·exact S.frame (λ b hb=>hne b (h.ty x hx b hb)) (h.el x hx)
 ·exact S.frame (λ b hb=>hne b (hty x hx b hb)) (hR x hx)
 ·exact h.lo x hx
 ·exact hlo x hx
 ·obtain⟨cur,t,fr,h1,h2⟩:=h.ty x hx b hb
  exact⟨cur,t,fr,(hne b ⟨cur,t,fr,h1,h2⟩).trans h1,h2⟩
 ·obtain⟨cur,t,fr,h1,h2⟩:=hty x hx b hb
  exact⟨cur,t,fr,(hne b ⟨cur,t,fr,h1,h2⟩).trans h1,h2⟩
end
theorem ZeQ {α:Type} {S:Shape α} {P:Program} {t e:TypeId} {z:Value} {bytes:Nat} (ti:TI P t e z S.m bytes) (hzs:z.cells.size=S.m) (h0:0<S.m) (w:World) {L X:List (Elem α)} {ops:Array Oper} {rest:List Oper} {o:Oper} {a:Act} {Q:Exit->Act->World->Prop}
  (hg:o.guard=none) (s y:Operand) (ho:o.op=.call { callee:=.builtin .append,args:=#[s,y],argTypes:=#[t,t] })
  (base:Nat) (v:Value) (hs:a.eval s=v) (hown:RowE S base e v L w) (g m c:Nat) (hy:a.eval y=.slice (some ⟨g,0,none⟩) m c) (hm:X.length=m)
  (hlen:∀ x∈X,x.cells.length=S.m) (h1:∀ x∈X,∀ u∈x.cells,u.oneCell'=true) (hcell:∀ j u,(X.flatMap (·.cells))[j]?=some u->w.cell? ⟨g,j,none⟩=some u)
  (hR:∀ x∈X,S.R w x.cells x.d x.fp) (hlo:∀ x∈X,∀ b∈x.fp,base<=b) (hty:∀ x∈X,∀ b∈x.fp,∃ cur t fr,w.heap[b]?=some (.cells cur t fr)/\t≠e)
  (h63:L.length+m<=maxLen) (hbytes:(L.length+m) * bytes<=140737488355328) (hbase:base<=w.heap.size)
  (h:∀ v' w',RowE S base e v' (L++X) w'->w.grownBy w' v.ownBlock->wpList P ops Q rest (a.put o.dst v') w'):wpList P ops Q (o::rest) a w:=by
 obtain⟨i,hi,hz0,hz1,hz2⟩:=info_parts ti.2
 subst hm
 refine wpList_append_own _ hg s y t ho base e i z S.m bytes ti.1 hi hz0 hz1 hz2 hzs h0 v L.length _ hs hown.row ⟨g,0,none⟩ X.length c (X.flatMap (·.cells)) hy (ZaU hlen) ?_ ?_ h63 hbytes hbase λ v' w' a b _=>h v' w' ?_ b
 ·intro j u hj
  rw [ZaI,Nat.zero_add]
  exact hcell j u hj
 ·intro u hu
  obtain⟨x,hx,hu⟩:=List.mem_flatMap.1 hu
  exact h1 x hx u hu
 ·refine hown.appended ?_ b hlen hR hlo hty
  rw [List.length_append,List.flatMap_append]
  exact a
section
variable {α:Type} {S:Shape α} {base:Nat} {e:TypeId} {v v':Value} {L:List (Elem α)} {w w':World}
theorem RowE.lit (X:List (Elem α)) (hlen:∀ x∈X,x.cells.length=S.m) (hR:∀ x∈X,S.R w x.cells x.d x.fp) (hlo:∀ x∈X,∀ b∈x.fp,base<=b) (hty:∀ x∈X,∀ b∈x.fp,∃ cur t fr,w.heap[b]?=some (.cells cur t fr)/\t≠e)
  (hb:base<=w.heap.size) (hn:X.length<=1000000):RowE S base e (.slice (some ⟨w.heap.size,0,none⟩) X.length X.length) X (w.alloc (.cells (X.flatMap (·.cells)).toArray e)) where
 row:=World.ownsRow_lit (base:=base) (e:=e) (size:=S.m) w (X.flatMap (·.cells)).toArray X.length hb (by unfold maxLen;omega) (by simpa using ZaU hlen)
 len:=hlen
 el:=λ x hx=>S.below (hR x hx) (Zab _ _)
 lo:=hlo
 ty:=λ x hx b hb'=>by
  obtain⟨cur,t,fr,h1,h2⟩:=hty x hx b hb'
  exact⟨cur,t,fr,((Zab w _).block b (Qg h1).1).trans h1,h2⟩
theorem RowE.read (h:RowE S base e v L w):∃ fp,(Zaa S).R w [v] (L.map (·.d)) fp/\∀ b∈fp,base<=b:=by
 obtain⟨fp,h1,h2,_⟩:=Za7 h.row λ x hx=>⟨h.len x hx,h.el x hx⟩
 refine ⟨fp,h1,λ b hb=>?_⟩
 rcases h2 b hb with h3 | h3
 ·exact h.mine b h3
 ·obtain⟨x,hx,hb'⟩:=List.mem_flatMap.1 h3
  exact h.lo x hx b hb'
end
def At (Ps:List (Value->World->Prop)) (i:Nat) (v:Value) (w:World):Prop:=∀ p,Ps[i]?=some p->p v w
end Go.Proofs.YtipfpppcbmpjiaaGreat
