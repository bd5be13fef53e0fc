/- Texts that the proof of E stands on, in one file. -/
import Derived.Test.YtiaiggjfepoahaaGreatZE13
import Derived.OwnWalk
import Derived.IntWalk
set_option linter.unusedVariables false
set_option maxHeartbeats 16000000
set_option maxRecDepth 100000
set_option linter.unusedSimpArgs false
/- Rows of strings of the call's own: append in a drawn region taken by hand; literals; what they read as. -/
namespace Go.Proofs.YtiaiggjfepoahaaGreat
open Go.RowKit
theorem Zao {w:World} {ops:Array Oper} {o:Oper} {a:Act} {K:Act->World->Prop} {Q:Exit->Act->World->Prop} {E:Prop} (d:Nat) (hdst:o.dst=some d) (hg:o.guard=none) (s y:Operand)
  (ho:o.op=.call { callee:=.builtin .append,args:=#[s,y],argTypes:=#[55,55] })
  (base:Nat) (v u:Value) (L M:List ByteArray) (fp:List Nat) (hs:a.eval s=v) (hown:w.ownsRow base 9 1 v L.length (L.map Value.string)) (hy:a.eval y=u) (HM:(Zaa sStr).R w [u] M fp)
  (h63:L.length+M.length<=4000000) (hbase:base<=w.heap.size)
  (h:∀ v' w',w'.ownsRow base 9 1 v' (L++M).length ((L++M).map Value.string)->w.grownBy w' v.ownBlock->K (a.put (some d) v') w'):if Region.wanted o (yielded ops a.tmps)=true then Oper.wp Tryz.prog o a w K Q else E:=by
 have hwt:Region.wanted o (yielded ops a.tmps)=true:=by simp [Region.wanted,hg]
 rw [if_pos hwt]
 rw [← hdst] at h
 obtain⟨i,hi,hz0,hz1,hz2⟩:=info_parts ti27.2
 obtain⟨ad,cap,rfl,hc,hm,hcell,hsz⟩:=Zaf HM
 have key:∀ (b off:Nat),(0<M.length->∀ j,(hj:j<M.length)->w.cell? ⟨b,off+j,none⟩=some (.string M[j]))->a.eval y=.slice (some ⟨b,off,none⟩) M.length cap->Oper.wp Tryz.prog o a w K Q:=by
  intro b off hat hy'
  refine wp_append_own w s y 55 ho base 9 i _ 1 16 ti27.1 hi hz0 hz1 hz2 rfl (by decide) v L.length (L.map Value.string) hs hown ⟨b,off,none⟩ M.length cap (M.map Value.string) hy' (by simp) ?_ ?_ (by unfold maxLen;omega) (by omega) hbase λ v' w' h1 h2 _=>h v' w' ?_ h2
  ·intro j x hj
   have hj':j<M.length:=by have:=(List.getElem?_eq_some_iff.1 hj).1;simpa using this
   rw [Addr.add_lit,hat (by omega) j hj',← hj]
   simp [List.getElem?_eq_getElem hj']
  ·intro x hx
   obtain⟨s,_,rfl⟩:=List.mem_map.1 hx
   rfl
  ·simpa using h1
 by_cases h0:0<M.length
 ·obtain⟨b,off,rfl,_,_,hc2⟩:=hcell h0
  exact key b off (λ _ j hj=>hc2 j hj) hy
 ·have hM:M=[]:=List.length_eq_zero_iff.1 (by omega)
  subst hM
  cases ad with
  |
   none =>
   have hrun:=run_append_nil (P:=Tryz.prog) (w:=w) base 55 o.type 9 i 1 cap ti27.1 hi v L.length _ hown
   have hK:=h v w (by simpa using hown) ⟨rfl,rfl,rfl,Nat.le_refl _,λ _ _ _=>rfl⟩
   unfold Oper.wp
   simp only [List.length_nil] at hy
   simp [execOp,ho,resolve,invoke,builtin,hs,hy,hrun,Result.andThen]
   exact hK
  |
   some ad =>
   refine wp_append_own w s y 55 ho base 9 i _ 1 16 ti27.1 hi hz0 hz1 hz2 rfl (by decide) v L.length (L.map Value.string) hs hown ad 0 cap [] hy rfl (by simp) (by simp) (by unfold maxLen;omega) (by omega) hbase λ v' w' h1 h2 _=>h v' w' (by simpa using h1) h2
theorem ZbR {w:World} {g:Nat} {s:ByteArray} (h:w.heap[g]?=some (.cells #[.string s] 9 (0,0))) (hs:s.size<=maxLen):(Zaa sStr).R w [.slice (some ⟨g,0,none⟩) 1 1] [s] [g]:=by
 refine ⟨_,_,rfl,Nat.le_refl _,by unfold maxLen;omega,.inr ⟨by simp,g,0,λ _=>[],rfl,by simp,(Qg h).1,λ i hi=>?_⟩⟩
 have hi0:i=0:=by simpa using hi
 subst hi0
 refine ⟨[.string s],⟨rfl,λ j hj=>?_⟩,rfl,hs,rfl⟩
 have hj0:j=0:=by simp [sStr,sFlat] at hj;exact hj
 subst hj0
 exact Qc 0 h
theorem Zby {w:World} {base base':Nat} {e:TypeId} {m n:Nat} {v:Value} {xs:List Value} (h:w.ownsRow base e m v n xs) (hl:base'<=base):w.ownsRow base' e m v n xs:=by
 refine ⟨h.1,?_⟩
 rcases h.2 with h0 | ⟨g,cap,cur,h1,h2,h3⟩
 ·exact .inl h0
 ·exact .inr ⟨g,cap,cur,h1,Nat.le_trans hl h2,h3⟩
theorem Zci {w w':World} {base:Nat} {e:TypeId} {m n:Nat} {v:Value} {xs:List Value} (h:w.ownsRow base e m v n xs) (hb:Below w.heap.size w w'):w'.ownsRow base e m v n xs:=
 Za9 h λ g hg=>hb.block g (h.lt g hg).2
def ZdG (l:List ByteArray) (w:World) (e:Ending) (w':World):Prop:=
 ∃ (ao:Option Addr) (c:Nat) (fp:List Nat),e=.returned (.slice ao l.length c)/\(Zaa sStr).R w' [.slice ao l.length c] l fp/\Own w' w.heap.size fp/\(∀ b∈fp,∃ cur t fr,w'.heap[b]?=some (.cells cur t fr)/\t=9)/\Below w.heap.size w w'
theorem Zg7 {l:List ByteArray} {w w':World} {v:Value} (h:w'.ownsRow w.heap.size 9 1 v l.length (l.map Value.string)) (hs:∀ x∈l,x.size<=maxLen) (hb:Below w.heap.size w w'):ZdG l w (.returned v) w':=by
 obtain⟨fp,R,O,hfp⟩:=ZbY (ok:=okStr) h λ i hi=>hs _ (List.getElem_mem hi)
 obtain⟨a,cap,rfl,-⟩:=Zaf R
 refine ⟨a,cap,fp,rfl,R,O,λ b hb'=>?_,hb⟩
 have hv:=hfp b hb'
 rcases h.2 with⟨h',_⟩ | ⟨g,capg,cur,h',_,hg,_⟩
 ·rw [h'] at hv;simp [Value.ownBlock] at hv
 ·rw [h'] at hv
  simp only [Value.ownBlock,Qi] at hv
  subst hv
  exact⟨_,_,_,hg,rfl⟩
theorem ins_ok {l:List ByteArray} {nm:ByteArray} (h:∀ x∈l,x.size<=maxLen) (hn:nm.size<=maxLen):∀ x∈ins l nm,x.size<=maxLen:=by
 induction l with
 | nil=>intro x hx;rw [ins] at hx;rw [Qm hx];exact hn
 |
  cons y r ih =>
  intro x hx
  rw [ins] at hx
  split at hx
  ·rcases List.mem_cons.1 hx with rfl | hx
   ·exact h _ (by simp)
   ·exact ih (λ z hz=>h z (by simp [hz])) x hx
  ·split at hx
   ·exact h x hx
   ·rcases List.mem_cons.1 hx with rfl | hx
    ·exact hn
    ·exact h x hx
theorem ZhY {l:List ByteArray} (h:∀ i,(hi:i<l.length)->l[i].size<=maxLen):∀ x∈l,x.size<=maxLen:=λ x hx=>by
 obtain⟨i,hi,rfl⟩:=List.getElem_of_mem hx;exact h i hi
theorem Zdu (v:Value) (l:List ByteArray) (nm:ByteArray) (fp:List Nat) (w:World) (hu:Up l) (hl:l.length<=1000000) (hnm:nm.size<=maxLen) (H:(Zaa sStr).R w [v] l fp) :
  Calls Tryz.prog 124 #[v,.string nm] w (ZdG (ins l nm) w):=by
 obtain⟨a0,cap0,rfl,-,-,-,hsz⟩:=Zaf H
 have HSZ:=Qh (ins_ok (nm:=nm) (ZhY hsz) hnm)
 have HOK:=Qh (ZhY hsz)
 have HU:=Qh hu
 have HLE:=Qh (Ziv l nm)
 clear hsz hu
 cases hs:isS l nm
 ·have HI:=Qh (ins_no HU.out hs)
  go_enter Tryz.func124,Tryz.ntmps124
  go_wp2_with (
        at_builtin;refine Zbn rfl (.tmp 8) (.tmp 9) rfl w.heap.size (.slice none 0 0) (.slice a0 l.length cap0) [] l _ rfl (World.ownsRow_nil _ _ _ _) rfl H (by simp;omega) (Nat.le_refl _) ?_;intro v5 w1 hown hgrow
        rw [List.nil_append] at hown
        have hb1:Below w.heap.size w w1:=(Below.refl _ _).grown hgrow (Nat.le_refl _) (λ b hb=>by simp [Value.ownBlock] at hb)
        obtain⟨fp1,R1,O1,-⟩:=ZbY (ok:=okStr) hown (λ i hi=>HOK.out _ (List.getElem_mem hi))
        have HC:=Qh (Zet _ l nm fp1 w1 HU.out hl R1)
        rw [hs] at HC
        obtain⟨a1,cap1,rfl,-⟩:=Zaf R1
        have HO:=Qh hown
        clear hown hgrow R1 O1)
  refine HC.out.mono ?_
  rintro e w2 ⟨rfl,rfl⟩
  clear HC
  have hba:=Zab w2 (.cells #[.string nm] 9)
  have hne:(Value.slice a1 l.length cap1).ownBlock≠some w2.heap.size:=λ h=>by have:=(HO.out.lt _ h).2;omega
  have HINS:=Qh (ZkW w.heap.size w2.heap.size _ l nm (lowS l nm) (w2.alloc (.cells #[.string nm] 9)) hl HLE.out (Zci HO.out hba) (ZcX w2 _ _) hne (by have:=hb1.size;simp;omega))
  have HR:=Qh (Zci HO.out hba)
  have hlo:∀ b,(Value.slice a1 l.length cap1).ownBlock=some b->w.heap.size<=b:=λ b hb=>(HO.out.lt b hb).1
  generalize lowS l nm=lo at *
  clear hs hne
  go_wp2_with fail
  refine HINS.out.mono ?_
  rintro e w3 ⟨v3,rfl,hr3,hg3⟩
  have hb3:Below w.heap.size w w3:=(hb1.trans (hba.mono hb1.size)).grown hg3 (by have:=hb1.size;simp;omega) hlo
  have HF:=Qh (Zg7 (l:=ins l nm) (w:=w) (by rw [HI.out];exact hr3) HSZ.out hb3)
  clear hr3 hg3 hb3
  go_wp2
  go_ret
  exact HF.out
 ·have HI:=Qh (ins_yes HU.out hs)
  go_enter Tryz.func124,Tryz.ntmps124
  go_wp2_with (
        at_builtin;refine Zbn rfl (.tmp 8) (.tmp 9) rfl w.heap.size (.slice none 0 0) (.slice a0 l.length cap0) [] l _ rfl (World.ownsRow_nil _ _ _ _) rfl H (by simp;omega) (Nat.le_refl _) ?_;intro v5 w1 hown hgrow
        rw [List.nil_append] at hown
        have hb1:Below w.heap.size w w1:=(Below.refl _ _).grown hgrow (Nat.le_refl _) (λ b hb=>by simp [Value.ownBlock] at hb)
        obtain⟨fp1,R1,O1,-⟩:=ZbY (ok:=okStr) hown (λ i hi=>HOK.out _ (List.getElem_mem hi))
        have HC:=Qh (Zet _ l nm fp1 w1 HU.out hl R1)
        rw [hs] at HC
        obtain⟨a1,cap1,rfl,-⟩:=Zaf R1
        have HO:=Qh hown
        clear hown hgrow R1 O1)
  refine HC.out.mono ?_
  rintro e w2 ⟨rfl,rfl⟩
  have HF:=Qh (Zg7 (l:=ins l nm) (w:=w) (by rw [HI.out];exact HO.out) HSZ.out hb1)
  clear HC HO
  generalize lowS l nm=lo at *
  go_wp2
  go_ret
  exact HF.out
theorem Za0 {w:World} {base:Nat} {e:TypeId} {m n:Nat} {v:Value} {xs:List Value} (h:w.ownsRow base e m v n xs):∃ a c,v=.slice a n c:=by
 rcases h.2 with⟨rfl,h0⟩ | ⟨g,cap,cur,rfl,_⟩
 ·exact⟨none,0,by rw [h0]⟩
 ·exact⟨_,_,rfl⟩
theorem Zfo (va vb:Value) (z b:List ByteArray) (fpa fpb:List Nat) (w:World) (hl:z.length+b.length<=1000000) (Ha:(Zaa sStr).R w [va] z fpa) (Hb:(Zaa sStr).R w [vb] b fpb) :
  Calls Tryz.prog 75 #[va,vb] w (ZdG (b.foldl ins z) w):=by
 obtain⟨a0,cap0,rfl,-,-,-,hsz⟩:=Zaf Ha
 obtain⟨ab,capb,rfl,hcb,hmb,hcellb,hszb⟩:=Zaf Hb
 have HOK:=Qh (ZhY hsz)
 have HOB:=Qh (ZhY hszb)
 have HCB0:Hid (∀ h:0<b.length,∃ bb offb,ab=some ⟨bb,offb,none⟩/\bb<w.heap.size/\∀ j,(hj:j<b.length)->w.cell? ⟨bb,offb+j,none⟩=some (.string b[j])):=λ h=>by
  obtain⟨bb,offb,e,hbb,-,hc⟩:=hcellb h
  exact⟨bb,offb,e,hbb,hc⟩
 have hlit:Hid ((w.alloc (.cells #[] 9)).ownsRow w.heap.size 9 1 (.slice (some ⟨w.heap.size,0,none⟩) 0 0) ([]:List ByteArray).length (([]:List ByteArray).map Value.string)):=
  World.ownsRow_lit (base:=w.heap.size) (e:=9) (size:=1) w #[] 0 (Nat.le_refl _) (by simp) rfl
 have hba:=Zab w (.cells #[] 9)
 have HA:=Qh ((Zaa sStr).below Ha hba)
 have hbs:=hba.size
 unfold maxLen at hmb
 clear Ha Hb hsz hszb hcellb
 go_enter Tryz.func75,Tryz.ntmps75
 go_upto_region 2 with(
            at_builtin;refine Zbn rfl (.tmp 8) (.tmp 9) rfl w.heap.size (.slice (some ⟨w.heap.size,0,none⟩) 0 0) (.slice a0 z.length cap0) [] z _ rfl hlit.out rfl HA.out (by simp;omega) hbs ?_;intro v5 w1 hown hgrow
            rw [List.nil_append] at hown
            have hb1:Below w.heap.size w w1:=hba.grown hgrow hbs (λ b hb=>by simp [Value.ownBlock] at hb;omega)
            obtain⟨a8,c8,rfl⟩:=Za0 hown
            have HO:=Qh hown
            clear hown hgrow)
 clear hlit HA hba hbs
 go_wp2
 go_loopw [5,6] (λ o i wr=>∃ (k:Nat) (a:List ByteArray),k<=b.length/\i=.int .i64 k/\Hid (b.foldl ins z=(b.drop k).foldl ins a)/\Hid (wr.ownsRow w.heap.size 9 1 o a.length (a.map Value.string))/\Hid (∀ x∈a,x.size<=maxLen)/\a.length<=z.length+k/\Below w.heap.size w wr) (λ _ i _=>b.length-(intOf i).toNat)
 case atStart=>exact⟨0,z,by omega,rfl,rfl,HO.out,HOK.out,by omega,hb1⟩
 case round =>
  clear HO hb1
  obtain⟨k0,a,hk0,rfl,HFD,HE,HOKa,hla,hb1⟩:=hrel
  obtain⟨a1,cap1,hov⟩:=Za0 HE.out
  subst hov
  by_cases hkb:k0<b.length
  rotate_left
  ·have HF:Hid (ZdG (b.foldl ins z) w (.returned (.slice a1 a.length cap1)) wr):=by
    show ZdG _ _ _ _
    rw [HFD.out,List.drop_of_length_le (by omega)]
    exact Zg7 HE.out HOKa.out hb1
   go_wp2
   go_ret
   exact HF.out
  ·obtain⟨bb,offb,rfl,hbb,hcb2⟩:=HCB0.out (by omega)
   obtain⟨nm,HNM⟩:∃ nm,Hid (nm=b[k0]):=⟨b[k0],Qh rfl⟩
   have cb0:w.cell? ⟨bb,offb+k0,none⟩=some (.string nm):=by rw [HNM.out];exact hcb2 k0 hkb
   have hnm:nm.size<=maxLen:=HOB.out nm (by rw [HNM.out];exact List.getElem_mem hkb)
   have HFD2:Hid (b.foldl ins z=(b.drop (k0+1)).foldl ins (ins a nm)):=by show _=_;rw [HFD.out,List.drop_eq_getElem_cons hkb,List.foldl_cons,HNM.out]
   have HSZ:=Qh (ins_ok HOKa.out hnm)
   have hlen2:(ins a nm).length<=z.length+(k0+1):=by have:=Ze2 nm a;omega
   have hl1:a.length<=1000000:=by omega
   have j0:(0:Int)<=(k0:Int):=by omega
   have j1:(k0:Int)<(b.length:Int):=by omega
   obtain⟨fp1,R1,O1,-⟩:=ZbY (ok:=okStr) HE.out (λ i hi=>HOKa.out _ (List.getElem_mem hi))
   have HR1:=Qh R1
   have HU1:=Qh ((Zaa sStr).lt R1)
   obtain⟨a9,cap9,ha9,hc1,hm1,hcell1,-⟩:=Zaf R1
   simp only [Value.slice.injEq,true_and] at ha9
   obtain⟨rfl,rfl⟩:=ha9
   unfold maxLen at hm1
   have HO:=HE
   clear R1 O1 hcb2
   go_wp2
   generalize wr=w1 at *
   go_loopw [7] (λ i wi=>∃ n:Nat,n<=a.length/\i=.int .i64 n/\Hid (∀ j,(hj:j<a.length)->j<n->sLess a[j] nm=true)/\Below w1.heap.size w1 wi) (λ i _=>a.length-(intOf i).toNat)
   case atStart=>exact⟨0,by omega,rfl,λ j _ h=>by omega,Below.refl _ _⟩
   case round =>
    obtain⟨n,hn,rfl,HLT,hbi⟩:=hrel
    have hb1r:Below w.heap.size w wr:=hb1.trans (hbi.mono hb1.size)
    have cbr:wr.cell? ⟨bb,offb+k0,none⟩=some (.string nm):=(hb1r.cell (p:=⟨bb,offb+k0,none⟩) hbb).trans cb0
    have hi1:(0:Int)<=(n:Int):=by omega
    by_cases hlt:n<a.length
    ·obtain⟨b1,off1,rfl,hbl1,-,he1⟩:=hcell1 (by omega)
     have c10:wr.cell? ⟨b1,off1+n,none⟩=some (.string a[n]):=(hbi.cell (p:=⟨b1,off1+n,none⟩) hbl1).trans (he1 n hlt)
     have h0:decide ((n:Int)<(a.length:Int))=true:=decide_eq_true (by omega)
     have h1:decide (n<a.length)=true:=decide_eq_true hlt
     have hi2:(n:Int)<(a.length:Int):=by omega
     clear he1 hcell1
     cases hs:sLess a[n] nm
     ·have hs':Op.bytesLess a[n].toList nm.toList=false:=hs
      go_wp2_with fail
      go_quiet (fail)
      have hbq0:=Zag hbi nq
      have cbq:(wr.drewN nq).cell? ⟨bb,offb+k0,none⟩=some (.string nm):=cbr
      have c1q:(wr.drewN nq).cell? ⟨b1,off1+n,none⟩=some (.string a[n]):=c10
      clear c10 cbr hb1r hbi
      generalize wr.drewN nq=wq0 at *
      have e0:((n:Int)==(a.length:Int))=false:=by simp;omega
      have e1:(n==a.length)=false:=by simp;omega
      cases he:(a[n].toList==nm.toList)
      ·have HI:=Qh (ZhM nm a n hn HLT.out (λ _=>⟨hs,he⟩))
       go_wp2_with fail
       go_quiet (fail)
       have hbq1:=Zag hbq0 nq
       have cb:(wq0.drewN nq).cell? ⟨bb,offb+k0,none⟩=some (.string nm):=cbq
       clear hbq0 cbq c1q hs hs' he h0 h1 e0 e1
       generalize wq0.drewN nq=wq at *
       have hbq:Below w.heap.size w wq:=hb1.trans (hbq1.mono hb1.size)
       have HRq:=Qh ((Zaa sStr).below HR1.out hbq1)
       have HUq:Hid (∀ b∈fp1,b<wq.heap.size):=λ b hb=>by have:=HU1.out b hb;have:=hbq1.size;omega
       have hbb2:bb<wq.heap.size:=by have:=hbq.size;omega
       go_wp2_with fail
       obtain⟨fa,RA,hfa⟩:=Zcp n (by omega) HRq.out
       obtain⟨fb,RB,hfb⟩:=Zbg n (by omega) HRq.out
       rw [show n * sStr.m=n from Nat.mul_one n] at RB
       obtain⟨M1,HM1⟩:∃ M1:List ByteArray,Hid (M1=a.take n):=⟨_,rfl⟩
       have HM1l:Hid (M1.length=n):=by show _=_;rw [HM1.out,List.length_take];omega
       have hd:Below wq.heap.size wq wq.drew:=Zag (Below.refl _ _) 1
       have HRAwd:Hid ((Zaa sStr).R wq.drew [.slice (some ⟨b1,off1,none⟩) n cap1] M1 fa):=by show (Zaa sStr).R _ _ _ _;rw [HM1.out];exact(Zaa sStr).below RA hd
       obtain⟨sv,HSV⟩:∃ sv:Value,Hid (sv=.slice (if cap1=n then (some ⟨b1,off1,none⟩) else ((some ⟨b1,off1,none⟩):Option Addr).map (·.add n)) (a.length-n) (cap1-n)):=⟨_,rfl⟩
       have HRBwd:Hid ((Zaa sStr).R wq.drew [sv] (a.drop n) fb):=by show (Zaa sStr).R _ _ _ _;rw [HSV.out];exact(Zaa sStr).below RB hd
       have HFP:Hid ((∀ b∈fa,b<wq.drew.heap.size)/\(∀ b∈fb,b<wq.drew.heap.size)):=⟨λ b hb=>HUq.out b (hfa b hb),λ b hb=>HUq.out b (hfb b hb)⟩
       have HBwd:=Qh (hbq.trans (hd.mono hbq.size))
       have hsd:w.heap.size<=wq.drew.heap.size:=HBwd.out.size
       have HCB:Hid (wq.drew.cell? ⟨bb,offb+k0,none⟩=some (.string nm)):=cb
       have hbb3:bb<wq.drew.heap.size:=hbb2
       have HTL:Hid ((a.take n).length=n/\(a.drop n).length=a.length-n):=⟨by rw [List.length_take];omega,List.length_drop⟩
       clear RA RB hfa hfb hd HRq HUq
       refine wp_region_noPanic ?_
       refine wp_region_held_drew (S:=λ w'=>w'.cell? ⟨bb,offb+k0,none⟩=some (.string nm)) (by kernel_rfl) (by exact HCB.out) (λ hHeld=>?_)
       generalize wq.drew=wd at *
       have hp1:(0:Int)<=(n:Int):=by omega
       have hp2:(n:Int)<=(a.length:Int):=by omega
       have hp3:n<=a.length:=by omega
       have hp4:n<=cap1:=by omega
       have hp5:(n:Int)<=(cap1:Int):=by omega
       refine Qt 1 50 rfl rfl ?_
       try simp only [Qp]
       refine Qt 2 51 rfl rfl ?_
       try simp only [Qp]
       refine ZhS 3 52 (v:=.slice (some ⟨b1,off1,none⟩) n cap1) rfl rfl (by kernel_rfl) (by kernel_rfl) (by kernel_rfl) (λ _ _ _ h=>h) (by rfl) (by assumption) ?_ ?_
       ·intro w hSw;go_simp;(first | done | with_reducible rfl | rfl)
       try simp only [Qp]
       refine Qt 5 54 rfl rfl ?_
       try simp only [Qp]
       refine Qt 6 55 rfl rfl ?_
       try simp only [Qp]
       refine Qt 7 56 rfl rfl ?_
       try simp only [Qp]
       refine Qt 8 57 rfl rfl ?_
       try simp only [Qp]
       refine Qt 11 60 rfl rfl ?_
       try simp only [Qp]
       refine Qt 12 61 rfl rfl ?_
       try simp only [Qp]
       refine ZhS 13 62 (v:=sv) rfl rfl (by kernel_rfl) (by kernel_rfl) (by kernel_rfl) (λ _ _ _ h=>h) (by rfl) (by assumption) ?_ ?_
       ·intro w hSw;rw [HSV.out];go_simp;(first | done | with_reducible rfl | rfl)
       try simp only [Qp]
       have HCBwd:=HCB
       refine wpAnyH_ready (rs:=[0,9]) (by decide +kernel) (by simp) ?_
       refine AllReadyH.cons rfl (λ K hK=>?_) (AllReadyH.cons rfl (λ K hK=>?_) AllReadyH.nil)
       ·have bl:=Zab wd (.cells #[] 9)
        have hyx0:wd.heap.size+1<=(wd.alloc (.cells #[] 9)).heap.size:=Nat.le_of_eq (Array.size_push _).symm
        have HGx0:Hid ((wd.alloc (.cells #[] 9)).ownsRow wd.heap.size 9 1 (.slice (some ⟨wd.heap.size,0,none⟩) 0 0) ([]:List ByteArray).length (([]:List ByteArray).map Value.string)):=World.ownsRow_lit (base:=wd.heap.size) (e:=9) (size:=1) wd #[] 0 (by omega) (by simp) rfl
        go_simp
        have HCXx0:Hid ((wd.alloc (.cells #[] 9)).cell? ⟨bb,offb+k0,none⟩=some (.string nm)):=(bl.cell (p:=⟨bb,offb+k0,none⟩) (by show bb<_;omega)).trans HCB.out
        have HRAx0:=Qh ((Zaa sStr).below HRAwd.out bl)
        have HRBx0:=Qh ((Zaa sStr).below HRBwd.out bl)
        have HBx0:=Qh (HBwd.out.trans (bl.mono HBwd.out.size))
        refine hK.out _ _ HCXx0.out (λ hHeld=>?_)
        clear hK K bl
        try simp only [Qp]
        generalize (wd.alloc (.cells #[] 9))=x0 at *
        refine wpAnyH_ready (rs:=[4,9]) (by decide +kernel) (by simp) ?_
        refine AllReadyH.cons rfl (λ K hK=>?_) (AllReadyH.cons rfl (λ K hK=>?_) AllReadyH.nil)
        ·refine Zao 53 rfl rfl (.tmp 49) (.tmp 52) rfl wd.heap.size (.slice (some ⟨wd.heap.size,0,none⟩) 0 0) (.slice (some ⟨b1,off1,none⟩) n cap1) [] M1 fa rfl HGx0.out rfl HRAx0.out (by rw [HM1l.out];simp;omega) (by omega) ?_
         intro vqx1 x1 hG hgr
         have hbw:Below wd.heap.size x0 x1:=(Below.refl wd.heap.size x0).grown hgr (by omega) (λ b hb=>(HGx0.out.lt b hb).1)
         have hyx1:=hbw.size
         have HCXx1:=Qh ((hbw.cell (p:=⟨bb,offb+k0,none⟩) (by show bb<_;omega)).trans HCXx0.out)
         have HRBx1:=Qh ((Zaa sStr).frame (w':=x1) (λ b hb=>hbw.block b (HFP.out.2 b hb)) HRBx0.out)
         have HBx1:=Qh (HBx0.out.trans (hbw.mono (by omega)))
         rw [List.nil_append] at hG
         have HGx1:=Qh hG
         obtain⟨aqx1,cqx1,rfl⟩:=Za0 HGx1.out
         refine hK.out _ _ HCXx1.out (λ hHeld=>?_)
         clear hK K hgr hG hbw
         try simp only [Qp]
         refine Qr 9 rfl (λ K hK=>?_) (by decide +kernel)
         have bl:=Zab x1 (.cells #[.string nm] 9)
         have hyx2:x1.heap.size+1<=(x1.alloc (.cells #[.string nm] 9)).heap.size:=Nat.le_of_eq (Array.size_push _).symm
         have HLx2:=Qh (ZcX x1 #[.string nm] 9)
         have HGx2:=Qh (Zci HGx1.out bl)
         go_simp
         have HCXx2:Hid ((x1.alloc (.cells #[.string nm] 9)).cell? ⟨bb,offb+k0,none⟩=some (.string nm)):=(bl.cell (p:=⟨bb,offb+k0,none⟩) (by show bb<_;omega)).trans HCXx1.out
         have HRBx2:=Qh ((Zaa sStr).below HRBx1.out bl)
         have HBx2:=Qh (HBx1.out.trans (bl.mono HBx1.out.size))
         refine hK.out _ _ HCXx2.out (λ hHeld=>?_)
         clear hK K bl
         try simp only [Qp]
         generalize (x1.alloc (.cells #[.string nm] 9))=x2 at *
         refine Qr 10 rfl (λ K hK=>?_) (by decide +kernel)
         refine Zao 59 rfl rfl (.tmp 53) (.tmp 58) rfl wd.heap.size (.slice aqx1 M1.length cqx1) (.slice (some ⟨x1.heap.size,0,none⟩) 1 1) M1 [nm] _ rfl HGx2.out rfl (ZbR HLx2.out hnm) (by rw [HM1l.out];simp;omega) (by omega) ?_
         intro vqx3 x3 hG hgr
         have hbw:Below wd.heap.size x2 x3:=(Below.refl wd.heap.size x2).grown hgr (by omega) (λ b hb=>(HGx2.out.lt b hb).1)
         have hyx3:=hbw.size
         have HCXx3:=Qh ((hbw.cell (p:=⟨bb,offb+k0,none⟩) (by show bb<_;omega)).trans HCXx2.out)
         have HRBx3:=Qh ((Zaa sStr).frame (w':=x3) (λ b hb=>hbw.block b (HFP.out.2 b hb)) HRBx2.out)
         have HBx3:=Qh (HBx2.out.trans (hbw.mono (by omega)))
         have HGx3:=Qh hG
         obtain⟨aqx3,cqx3,rfl⟩:=Za0 HGx3.out
         refine hK.out _ _ HCXx3.out (λ hHeld=>?_)
         clear hK K hgr hG hbw
         try simp only [Qp]
         refine Qr 14 rfl (λ K hK=>?_) (by decide +kernel)
         refine Zao 63 rfl rfl (.tmp 59) (.tmp 62) rfl wd.heap.size (.slice aqx3 (M1++[nm]).length cqx3) sv (M1++[nm]) (a.drop n) fb rfl HGx3.out rfl HRBx3.out (by rw [List.length_append,HM1l.out,HTL.out.2];simp;omega) (by omega) ?_
         intro vqx4 x4 hG hgr
         have hbw:Below wd.heap.size x3 x4:=(Below.refl wd.heap.size x3).grown hgr (by omega) (λ b hb=>(HGx3.out.lt b hb).1)
         have hyx4:=hbw.size
         have HCXx4:=Qh ((hbw.cell (p:=⟨bb,offb+k0,none⟩) (by show bb<_;omega)).trans HCXx3.out)
         have HBx4:=Qh (HBx3.out.trans (hbw.mono (by omega)))
         have HGx4:=Qh hG
         refine hK.out _ _ HCXx4.out (λ hHeld=>?_)
         clear hK K hgr hG hbw
         try simp only [Qp]
         refine Qt 15 5 rfl rfl ?_
         try simp only [Qp]
         refine wpAnyH_done (by kernel_rfl) ?_ _
         refine NoPanic.normal ?_
         clear hHeld
         have HFN:Hid (x4.ownsRow w.heap.size 9 1 vqx4 (ins a nm).length ((ins a nm).map Value.string)):=by
          show World.ownsRow _ _ _ _ _ _ _
          rw [HI.out];have:=Zby HGx4.out hsd;rw [HM1.out] at this;simpa using this
         go_wp2
         go_roundw
         case rel=>exact⟨k0+1,ins a nm,by omega,by go_num,HFD2.out,HFN.out,HSZ.out,hlen2,HBx4.out⟩
         case measure=>simp [intOf];omega
        ·have bl:=Zab x0 (.cells #[.string nm] 9)
         have hyx5:x0.heap.size+1<=(x0.alloc (.cells #[.string nm] 9)).heap.size:=Nat.le_of_eq (Array.size_push _).symm
         have HLx5:=Qh (ZcX x0 #[.string nm] 9)
         have HGx5:=Qh (Zci HGx0.out bl)
         go_simp
         have HCXx5:Hid ((x0.alloc (.cells #[.string nm] 9)).cell? ⟨bb,offb+k0,none⟩=some (.string nm)):=(bl.cell (p:=⟨bb,offb+k0,none⟩) (by show bb<_;omega)).trans HCXx0.out
         have HRAx5:=Qh ((Zaa sStr).below HRAx0.out bl)
         have HRBx5:=Qh ((Zaa sStr).below HRBx0.out bl)
         have HBx5:=Qh (HBx0.out.trans (bl.mono HBx0.out.size))
         refine hK.out _ _ HCXx5.out (λ hHeld=>?_)
         clear hK K bl
         try simp only [Qp]
         generalize (x0.alloc (.cells #[.string nm] 9))=x5 at *
         refine Qr 4 rfl (λ K hK=>?_) (by decide +kernel)
         refine Zao 53 rfl rfl (.tmp 49) (.tmp 52) rfl wd.heap.size (.slice (some ⟨wd.heap.size,0,none⟩) 0 0) (.slice (some ⟨b1,off1,none⟩) n cap1) [] M1 fa rfl HGx5.out rfl HRAx5.out (by rw [HM1l.out];simp;omega) (by omega) ?_
         intro vqx6 x6 hG hgr
         have hbw:Below wd.heap.size x5 x6:=(Below.refl wd.heap.size x5).grown hgr (by omega) (λ b hb=>(HGx5.out.lt b hb).1)
         have hyx6:=hbw.size
         have HCXx6:=Qh ((hbw.cell (p:=⟨bb,offb+k0,none⟩) (by show bb<_;omega)).trans HCXx5.out)
         have HRBx6:=Qh ((Zaa sStr).frame (w':=x6) (λ b hb=>hbw.block b (HFP.out.2 b hb)) HRBx5.out)
         have HLx6:=Qh ((hgr.block (x0.heap.size) (by omega) (by simp [Value.ownBlock];omega)).trans HLx5.out)
         have HBx6:=Qh (HBx5.out.trans (hbw.mono (by omega)))
         rw [List.nil_append] at hG
         have HGx6:=Qh hG
         obtain⟨aqx6,cqx6,rfl⟩:=Za0 HGx6.out
         refine hK.out _ _ HCXx6.out (λ hHeld=>?_)
         clear hK K hgr hG hbw
         try simp only [Qp]
         refine Qr 10 rfl (λ K hK=>?_) (by decide +kernel)
         refine Zao 59 rfl rfl (.tmp 53) (.tmp 58) rfl wd.heap.size (.slice aqx6 M1.length cqx6) (.slice (some ⟨x0.heap.size,0,none⟩) 1 1) M1 [nm] _ rfl HGx6.out rfl (ZbR HLx6.out hnm) (by rw [HM1l.out];simp;omega) (by omega) ?_
         intro vqx7 x7 hG hgr
         have hbw:Below wd.heap.size x6 x7:=(Below.refl wd.heap.size x6).grown hgr (by omega) (λ b hb=>(HGx6.out.lt b hb).1)
         have hyx7:=hbw.size
         have HCXx7:=Qh ((hbw.cell (p:=⟨bb,offb+k0,none⟩) (by show bb<_;omega)).trans HCXx6.out)
         have HRBx7:=Qh ((Zaa sStr).frame (w':=x7) (λ b hb=>hbw.block b (HFP.out.2 b hb)) HRBx6.out)
         have HBx7:=Qh (HBx6.out.trans (hbw.mono (by omega)))
         have HGx7:=Qh hG
         obtain⟨aqx7,cqx7,rfl⟩:=Za0 HGx7.out
         refine hK.out _ _ HCXx7.out (λ hHeld=>?_)
         clear hK K hgr hG hbw
         try simp only [Qp]
         refine Qr 14 rfl (λ K hK=>?_) (by decide +kernel)
         refine Zao 63 rfl rfl (.tmp 59) (.tmp 62) rfl wd.heap.size (.slice aqx7 (M1++[nm]).length cqx7) sv (M1++[nm]) (a.drop n) fb rfl HGx7.out rfl HRBx7.out (by rw [List.length_append,HM1l.out,HTL.out.2];simp;omega) (by omega) ?_
         intro vqx8 x8 hG hgr
         have hbw:Below wd.heap.size x7 x8:=(Below.refl wd.heap.size x7).grown hgr (by omega) (λ b hb=>(HGx7.out.lt b hb).1)
         have hyx8:=hbw.size
         have HCXx8:=Qh ((hbw.cell (p:=⟨bb,offb+k0,none⟩) (by show bb<_;omega)).trans HCXx7.out)
         have HBx8:=Qh (HBx7.out.trans (hbw.mono (by omega)))
         have HGx8:=Qh hG
         refine hK.out _ _ HCXx8.out (λ hHeld=>?_)
         clear hK K hgr hG hbw
         try simp only [Qp]
         refine Qt 15 5 rfl rfl ?_
         try simp only [Qp]
         refine wpAnyH_done (by kernel_rfl) ?_ _
         refine NoPanic.normal ?_
         clear hHeld
         have HFN:Hid (x8.ownsRow w.heap.size 9 1 vqx8 (ins a nm).length ((ins a nm).map Value.string)):=by
          show World.ownsRow _ _ _ _ _ _ _
          rw [HI.out];have:=Zby HGx8.out hsd;rw [HM1.out] at this;simpa using this
         go_wp2
         go_roundw
         case rel=>exact⟨k0+1,ins a nm,by omega,by go_num,HFD2.out,HFN.out,HSZ.out,hlen2,HBx8.out⟩
         case measure=>simp [intOf];omega
       ·have bl:=Zab wd (.cells #[.string nm] 9)
        have hyx9:wd.heap.size+1<=(wd.alloc (.cells #[.string nm] 9)).heap.size:=Nat.le_of_eq (Array.size_push _).symm
        have HLx9:=Qh (ZcX wd #[.string nm] 9)
        go_simp
        have HCXx9:Hid ((wd.alloc (.cells #[.string nm] 9)).cell? ⟨bb,offb+k0,none⟩=some (.string nm)):=(bl.cell (p:=⟨bb,offb+k0,none⟩) (by show bb<_;omega)).trans HCB.out
        have HRAx9:=Qh ((Zaa sStr).below HRAwd.out bl)
        have HRBx9:=Qh ((Zaa sStr).below HRBwd.out bl)
        have HBx9:=Qh (HBwd.out.trans (bl.mono HBwd.out.size))
        refine hK.out _ _ HCXx9.out (λ hHeld=>?_)
        clear hK K bl
        try simp only [Qp]
        generalize (wd.alloc (.cells #[.string nm] 9))=x9 at *
        refine Qr 0 rfl (λ K hK=>?_) (by decide +kernel)
        have bl:=Zab x9 (.cells #[] 9)
        have hyx10:x9.heap.size+1<=(x9.alloc (.cells #[] 9)).heap.size:=Nat.le_of_eq (Array.size_push _).symm
        have HGx10:Hid ((x9.alloc (.cells #[] 9)).ownsRow wd.heap.size 9 1 (.slice (some ⟨x9.heap.size,0,none⟩) 0 0) ([]:List ByteArray).length (([]:List ByteArray).map Value.string)):=World.ownsRow_lit (base:=wd.heap.size) (e:=9) (size:=1) x9 #[] 0 (by omega) (by simp) rfl
        have HLx10:=Qh ((bl.block _ (by omega)).trans HLx9.out)
        go_simp
        have HCXx10:Hid ((x9.alloc (.cells #[] 9)).cell? ⟨bb,offb+k0,none⟩=some (.string nm)):=(bl.cell (p:=⟨bb,offb+k0,none⟩) (by show bb<_;omega)).trans HCXx9.out
        have HRAx10:=Qh ((Zaa sStr).below HRAx9.out bl)
        have HRBx10:=Qh ((Zaa sStr).below HRBx9.out bl)
        have HBx10:=Qh (HBx9.out.trans (bl.mono HBx9.out.size))
        refine hK.out _ _ HCXx10.out (λ hHeld=>?_)
        clear hK K bl
        try simp only [Qp]
        generalize (x9.alloc (.cells #[] 9))=x10 at *
        refine Qr 4 rfl (λ K hK=>?_) (by decide +kernel)
        refine Zao 53 rfl rfl (.tmp 49) (.tmp 52) rfl wd.heap.size (.slice (some ⟨x9.heap.size,0,none⟩) 0 0) (.slice (some ⟨b1,off1,none⟩) n cap1) [] M1 fa rfl HGx10.out rfl HRAx10.out (by rw [HM1l.out];simp;omega) (by omega) ?_
        intro vqx11 x11 hG hgr
        have hbw:Below wd.heap.size x10 x11:=(Below.refl wd.heap.size x10).grown hgr (by omega) (λ b hb=>(HGx10.out.lt b hb).1)
        have hyx11:=hbw.size
        have HCXx11:=Qh ((hbw.cell (p:=⟨bb,offb+k0,none⟩) (by show bb<_;omega)).trans HCXx10.out)
        have HRBx11:=Qh ((Zaa sStr).frame (w':=x11) (λ b hb=>hbw.block b (HFP.out.2 b hb)) HRBx10.out)
        have HLx11:=Qh ((hgr.block (wd.heap.size) (by omega) (by simp [Value.ownBlock];omega)).trans HLx10.out)
        have HBx11:=Qh (HBx10.out.trans (hbw.mono (by omega)))
        rw [List.nil_append] at hG
        have HGx11:=Qh hG
        obtain⟨aqx11,cqx11,rfl⟩:=Za0 HGx11.out
        refine hK.out _ _ HCXx11.out (λ hHeld=>?_)
        clear hK K hgr hG hbw
        try simp only [Qp]
        refine Qr 10 rfl (λ K hK=>?_) (by decide +kernel)
        refine Zao 59 rfl rfl (.tmp 53) (.tmp 58) rfl wd.heap.size (.slice aqx11 M1.length cqx11) (.slice (some ⟨wd.heap.size,0,none⟩) 1 1) M1 [nm] _ rfl HGx11.out rfl (ZbR HLx11.out hnm) (by rw [HM1l.out];simp;omega) (by omega) ?_
        intro vqx12 x12 hG hgr
        have hbw:Below wd.heap.size x11 x12:=(Below.refl wd.heap.size x11).grown hgr (by omega) (λ b hb=>(HGx11.out.lt b hb).1)
        have hyx12:=hbw.size
        have HCXx12:=Qh ((hbw.cell (p:=⟨bb,offb+k0,none⟩) (by show bb<_;omega)).trans HCXx11.out)
        have HRBx12:=Qh ((Zaa sStr).frame (w':=x12) (λ b hb=>hbw.block b (HFP.out.2 b hb)) HRBx11.out)
        have HBx12:=Qh (HBx11.out.trans (hbw.mono (by omega)))
        have HGx12:=Qh hG
        obtain⟨aqx12,cqx12,rfl⟩:=Za0 HGx12.out
        refine hK.out _ _ HCXx12.out (λ hHeld=>?_)
        clear hK K hgr hG hbw
        try simp only [Qp]
        refine Qr 14 rfl (λ K hK=>?_) (by decide +kernel)
        refine Zao 63 rfl rfl (.tmp 59) (.tmp 62) rfl wd.heap.size (.slice aqx12 (M1++[nm]).length cqx12) sv (M1++[nm]) (a.drop n) fb rfl HGx12.out rfl HRBx12.out (by rw [List.length_append,HM1l.out,HTL.out.2];simp;omega) (by omega) ?_
        intro vqx13 x13 hG hgr
        have hbw:Below wd.heap.size x12 x13:=(Below.refl wd.heap.size x12).grown hgr (by omega) (λ b hb=>(HGx12.out.lt b hb).1)
        have hyx13:=hbw.size
        have HCXx13:=Qh ((hbw.cell (p:=⟨bb,offb+k0,none⟩) (by show bb<_;omega)).trans HCXx12.out)
        have HBx13:=Qh (HBx12.out.trans (hbw.mono (by omega)))
        have HGx13:=Qh hG
        refine hK.out _ _ HCXx13.out (λ hHeld=>?_)
        clear hK K hgr hG hbw
        try simp only [Qp]
        refine Qt 15 5 rfl rfl ?_
        try simp only [Qp]
        refine wpAnyH_done (by kernel_rfl) ?_ _
        refine NoPanic.normal ?_
        clear hHeld
        have HFN:Hid (x13.ownsRow w.heap.size 9 1 vqx13 (ins a nm).length ((ins a nm).map Value.string)):=by
         show World.ownsRow _ _ _ _ _ _ _
         rw [HI.out];have:=Zby HGx13.out hsd;rw [HM1.out] at this;simpa using this
        go_wp2
        go_roundw
        case rel=>exact⟨k0+1,ins a nm,by omega,by go_num,HFD2.out,HFN.out,HSZ.out,hlen2,HBx13.out⟩
        case measure=>simp [intOf];omega
      ·have HI:=Qh (Zka nm a n hlt (λ j hj h=>HLT.out j hj h) he)
       go_wp2_with fail
       go_quiet (fail)
       have hbq1:=Zag hbq0 nq
       go_wp2
       go_roundw
       case rel=>exact⟨k0+1,ins a nm,by omega,by go_num,HFD2.out,(by show World.ownsRow _ _ _ _ _ _ _;rw [HI.out];exact Zci HO.out hbq1),HSZ.out,hlen2,hb1.trans (hbq1.mono hb1.size)⟩
       case measure=>simp [intOf];omega
     ·have HLT2:Hid (∀ j,(hj:j<a.length)->j<n+1->sLess a[j] nm=true):=λ j hj h=>by
       by_cases e:j=n
       ·subst e;exact hs
       ·exact HLT.out j hj (by omega)
      have hs':Op.bytesLess a[n].toList nm.toList=true:=hs
      go_wp2_with fail
      go_quiet (fail)
      go_wp2
      go_roundw
      case rel=>exact⟨n+1,by omega,by go_num,HLT2,Zag hbi _⟩
      case measure=>simp [intOf];omega
    ·have HI:=Qh (ZhM nm a n hn HLT.out (λ h=>absurd h hlt))
     have h0:decide ((n:Int)<(a.length:Int))=false:=decide_eq_false (by omega)
     have h1:decide (n<a.length)=false:=decide_eq_false hlt
     have e0:((n:Int)==(a.length:Int))=true:=by simp;omega
     have e1:(n==a.length)=true:=by simp;omega
     clear hcell1
     go_wp2_with fail
     go_quiet (fail)
     have hbq0:=Zag hbi nq
     have cbq:(wr.drewN nq).cell? ⟨bb,offb+k0,none⟩=some (.string nm):=cbr
     clear cbr hb1r hbi
     generalize wr.drewN nq=wq0 at *
     go_wp2_with fail
     go_quiet (fail)
     have hbq1:=Zag hbq0 nq
     have cb:(wq0.drewN nq).cell? ⟨bb,offb+k0,none⟩=some (.string nm):=cbq
     clear hbq0 cbq h0 h1 e0 e1
     generalize wq0.drewN nq=wq at *
     have hbq:Below w.heap.size w wq:=hb1.trans (hbq1.mono hb1.size)
     have HRq:=Qh ((Zaa sStr).below HR1.out hbq1)
     have HUq:Hid (∀ b∈fp1,b<wq.heap.size):=λ b hb=>by have:=HU1.out b hb;have:=hbq1.size;omega
     have hbb2:bb<wq.heap.size:=by have:=hbq.size;omega
     go_wp2_with fail
     obtain⟨fa,RA,hfa⟩:=Zcp n (by omega) HRq.out
     obtain⟨fb,RB,hfb⟩:=Zbg n (by omega) HRq.out
     rw [show n * sStr.m=n from Nat.mul_one n] at RB
     obtain⟨M1,HM1⟩:∃ M1:List ByteArray,Hid (M1=a.take n):=⟨_,rfl⟩
     have HM1l:Hid (M1.length=n):=by show _=_;rw [HM1.out,List.length_take];omega
     have hd:Below wq.heap.size wq wq.drew:=Zag (Below.refl _ _) 1
     have HRAwd:Hid ((Zaa sStr).R wq.drew [.slice a1 n cap1] M1 fa):=by show (Zaa sStr).R _ _ _ _;rw [HM1.out];exact(Zaa sStr).below RA hd
     obtain⟨sv,HSV⟩:∃ sv:Value,Hid (sv=.slice (if cap1=n then a1 else (a1:Option Addr).map (·.add n)) (a.length-n) (cap1-n)):=⟨_,rfl⟩
     have HRBwd:Hid ((Zaa sStr).R wq.drew [sv] (a.drop n) fb):=by show (Zaa sStr).R _ _ _ _;rw [HSV.out];exact(Zaa sStr).below RB hd
     have HFP:Hid ((∀ b∈fa,b<wq.drew.heap.size)/\(∀ b∈fb,b<wq.drew.heap.size)):=⟨λ b hb=>HUq.out b (hfa b hb),λ b hb=>HUq.out b (hfb b hb)⟩
     have HBwd:=Qh (hbq.trans (hd.mono hbq.size))
     have hsd:w.heap.size<=wq.drew.heap.size:=HBwd.out.size
     have HCB:Hid (wq.drew.cell? ⟨bb,offb+k0,none⟩=some (.string nm)):=cb
     have hbb3:bb<wq.drew.heap.size:=hbb2
     have HTL:Hid ((a.take n).length=n/\(a.drop n).length=a.length-n):=⟨by rw [List.length_take];omega,List.length_drop⟩
     clear RA RB hfa hfb hd HRq HUq
     refine wp_region_noPanic ?_
     refine wp_region_held_drew (S:=λ w'=>w'.cell? ⟨bb,offb+k0,none⟩=some (.string nm)) (by kernel_rfl) (by exact HCB.out) (λ hHeld=>?_)
     generalize wq.drew=wd at *
     have hp1:(0:Int)<=(n:Int):=by omega
     have hp2:(n:Int)<=(a.length:Int):=by omega
     have hp3:n<=a.length:=by omega
     have hp4:n<=cap1:=by omega
     have hp5:(n:Int)<=(cap1:Int):=by omega
     refine Qt 1 50 rfl rfl ?_
     try simp only [Qp]
     refine Qt 2 51 rfl rfl ?_
     try simp only [Qp]
     refine ZhS 3 52 (v:=.slice a1 n cap1) rfl rfl (by kernel_rfl) (by kernel_rfl) (by kernel_rfl) (λ _ _ _ h=>h) (by rfl) (by assumption) ?_ ?_
     ·intro w hSw;go_simp;(first | done | with_reducible rfl | rfl)
     try simp only [Qp]
     refine Qt 5 54 rfl rfl ?_
     try simp only [Qp]
     refine Qt 6 55 rfl rfl ?_
     try simp only [Qp]
     refine Qt 7 56 rfl rfl ?_
     try simp only [Qp]
     refine Qt 8 57 rfl rfl ?_
     try simp only [Qp]
     refine Qt 11 60 rfl rfl ?_
     try simp only [Qp]
     refine Qt 12 61 rfl rfl ?_
     try simp only [Qp]
     refine ZhS 13 62 (v:=sv) rfl rfl (by kernel_rfl) (by kernel_rfl) (by kernel_rfl) (λ _ _ _ h=>h) (by rfl) (by assumption) ?_ ?_
     ·intro w hSw;rw [HSV.out];go_simp;(first | done | with_reducible rfl | rfl)
     try simp only [Qp]
     have HCBwd:=HCB
     refine wpAnyH_ready (rs:=[0,9]) (by decide +kernel) (by simp) ?_
     refine AllReadyH.cons rfl (λ K hK=>?_) (AllReadyH.cons rfl (λ K hK=>?_) AllReadyH.nil)
     ·have bl:=Zab wd (.cells #[] 9)
      have hyx0:wd.heap.size+1<=(wd.alloc (.cells #[] 9)).heap.size:=Nat.le_of_eq (Array.size_push _).symm
      have HGx0:Hid ((wd.alloc (.cells #[] 9)).ownsRow wd.heap.size 9 1 (.slice (some ⟨wd.heap.size,0,none⟩) 0 0) ([]:List ByteArray).length (([]:List ByteArray).map Value.string)):=World.ownsRow_lit (base:=wd.heap.size) (e:=9) (size:=1) wd #[] 0 (by omega) (by simp) rfl
      go_simp
      have HCXx0:Hid ((wd.alloc (.cells #[] 9)).cell? ⟨bb,offb+k0,none⟩=some (.string nm)):=(bl.cell (p:=⟨bb,offb+k0,none⟩) (by show bb<_;omega)).trans HCB.out
      have HRAx0:=Qh ((Zaa sStr).below HRAwd.out bl)
      have HRBx0:=Qh ((Zaa sStr).below HRBwd.out bl)
      have HBx0:=Qh (HBwd.out.trans (bl.mono HBwd.out.size))
      refine hK.out _ _ HCXx0.out (λ hHeld=>?_)
      clear hK K bl
      try simp only [Qp]
      generalize (wd.alloc (.cells #[] 9))=x0 at *
      refine wpAnyH_ready (rs:=[4,9]) (by decide +kernel) (by simp) ?_
      refine AllReadyH.cons rfl (λ K hK=>?_) (AllReadyH.cons rfl (λ K hK=>?_) AllReadyH.nil)
      ·refine Zao 53 rfl rfl (.tmp 49) (.tmp 52) rfl wd.heap.size (.slice (some ⟨wd.heap.size,0,none⟩) 0 0) (.slice a1 n cap1) [] M1 fa rfl HGx0.out rfl HRAx0.out (by rw [HM1l.out];simp;omega) (by omega) ?_
       intro vqx1 x1 hG hgr
       have hbw:Below wd.heap.size x0 x1:=(Below.refl wd.heap.size x0).grown hgr (by omega) (λ b hb=>(HGx0.out.lt b hb).1)
       have hyx1:=hbw.size
       have HCXx1:=Qh ((hbw.cell (p:=⟨bb,offb+k0,none⟩) (by show bb<_;omega)).trans HCXx0.out)
       have HRBx1:=Qh ((Zaa sStr).frame (w':=x1) (λ b hb=>hbw.block b (HFP.out.2 b hb)) HRBx0.out)
       have HBx1:=Qh (HBx0.out.trans (hbw.mono (by omega)))
       rw [List.nil_append] at hG
       have HGx1:=Qh hG
       obtain⟨aqx1,cqx1,rfl⟩:=Za0 HGx1.out
       refine hK.out _ _ HCXx1.out (λ hHeld=>?_)
       clear hK K hgr hG hbw
       try simp only [Qp]
       refine Qr 9 rfl (λ K hK=>?_) (by decide +kernel)
       have bl:=Zab x1 (.cells #[.string nm] 9)
       have hyx2:x1.heap.size+1<=(x1.alloc (.cells #[.string nm] 9)).heap.size:=Nat.le_of_eq (Array.size_push _).symm
       have HLx2:=Qh (ZcX x1 #[.string nm] 9)
       have HGx2:=Qh (Zci HGx1.out bl)
       go_simp
       have HCXx2:Hid ((x1.alloc (.cells #[.string nm] 9)).cell? ⟨bb,offb+k0,none⟩=some (.string nm)):=(bl.cell (p:=⟨bb,offb+k0,none⟩) (by show bb<_;omega)).trans HCXx1.out
       have HRBx2:=Qh ((Zaa sStr).below HRBx1.out bl)
       have HBx2:=Qh (HBx1.out.trans (bl.mono HBx1.out.size))
       refine hK.out _ _ HCXx2.out (λ hHeld=>?_)
       clear hK K bl
       try simp only [Qp]
       generalize (x1.alloc (.cells #[.string nm] 9))=x2 at *
       refine Qr 10 rfl (λ K hK=>?_) (by decide +kernel)
       refine Zao 59 rfl rfl (.tmp 53) (.tmp 58) rfl wd.heap.size (.slice aqx1 M1.length cqx1) (.slice (some ⟨x1.heap.size,0,none⟩) 1 1) M1 [nm] _ rfl HGx2.out rfl (ZbR HLx2.out hnm) (by rw [HM1l.out];simp;omega) (by omega) ?_
       intro vqx3 x3 hG hgr
       have hbw:Below wd.heap.size x2 x3:=(Below.refl wd.heap.size x2).grown hgr (by omega) (λ b hb=>(HGx2.out.lt b hb).1)
       have hyx3:=hbw.size
       have HCXx3:=Qh ((hbw.cell (p:=⟨bb,offb+k0,none⟩) (by show bb<_;omega)).trans HCXx2.out)
       have HRBx3:=Qh ((Zaa sStr).frame (w':=x3) (λ b hb=>hbw.block b (HFP.out.2 b hb)) HRBx2.out)
       have HBx3:=Qh (HBx2.out.trans (hbw.mono (by omega)))
       have HGx3:=Qh hG
       obtain⟨aqx3,cqx3,rfl⟩:=Za0 HGx3.out
       refine hK.out _ _ HCXx3.out (λ hHeld=>?_)
       clear hK K hgr hG hbw
       try simp only [Qp]
       refine Qr 14 rfl (λ K hK=>?_) (by decide +kernel)
       refine Zao 63 rfl rfl (.tmp 59) (.tmp 62) rfl wd.heap.size (.slice aqx3 (M1++[nm]).length cqx3) sv (M1++[nm]) (a.drop n) fb rfl HGx3.out rfl HRBx3.out (by rw [List.length_append,HM1l.out,HTL.out.2];simp;omega) (by omega) ?_
       intro vqx4 x4 hG hgr
       have hbw:Below wd.heap.size x3 x4:=(Below.refl wd.heap.size x3).grown hgr (by omega) (λ b hb=>(HGx3.out.lt b hb).1)
       have hyx4:=hbw.size
       have HCXx4:=Qh ((hbw.cell (p:=⟨bb,offb+k0,none⟩) (by show bb<_;omega)).trans HCXx3.out)
       have HBx4:=Qh (HBx3.out.trans (hbw.mono (by omega)))
       have HGx4:=Qh hG
       refine hK.out _ _ HCXx4.out (λ hHeld=>?_)
       clear hK K hgr hG hbw
       try simp only [Qp]
       refine Qt 15 5 rfl rfl ?_
       try simp only [Qp]
       refine wpAnyH_done (by kernel_rfl) ?_ _
       refine NoPanic.normal ?_
       clear hHeld
       have HFN:Hid (x4.ownsRow w.heap.size 9 1 vqx4 (ins a nm).length ((ins a nm).map Value.string)):=by
        show World.ownsRow _ _ _ _ _ _ _
        rw [HI.out];have:=Zby HGx4.out hsd;rw [HM1.out] at this;simpa using this
       go_wp2
       go_roundw
       case rel=>exact⟨k0+1,ins a nm,by omega,by go_num,HFD2.out,HFN.out,HSZ.out,hlen2,HBx4.out⟩
       case measure=>simp [intOf];omega
      ·have bl:=Zab x0 (.cells #[.string nm] 9)
       have hyx5:x0.heap.size+1<=(x0.alloc (.cells #[.string nm] 9)).heap.size:=Nat.le_of_eq (Array.size_push _).symm
       have HLx5:=Qh (ZcX x0 #[.string nm] 9)
       have HGx5:=Qh (Zci HGx0.out bl)
       go_simp
       have HCXx5:Hid ((x0.alloc (.cells #[.string nm] 9)).cell? ⟨bb,offb+k0,none⟩=some (.string nm)):=(bl.cell (p:=⟨bb,offb+k0,none⟩) (by show bb<_;omega)).trans HCXx0.out
       have HRAx5:=Qh ((Zaa sStr).below HRAx0.out bl)
       have HRBx5:=Qh ((Zaa sStr).below HRBx0.out bl)
       have HBx5:=Qh (HBx0.out.trans (bl.mono HBx0.out.size))
       refine hK.out _ _ HCXx5.out (λ hHeld=>?_)
       clear hK K bl
       try simp only [Qp]
       generalize (x0.alloc (.cells #[.string nm] 9))=x5 at *
       refine Qr 4 rfl (λ K hK=>?_) (by decide +kernel)
       refine Zao 53 rfl rfl (.tmp 49) (.tmp 52) rfl wd.heap.size (.slice (some ⟨wd.heap.size,0,none⟩) 0 0) (.slice a1 n cap1) [] M1 fa rfl HGx5.out rfl HRAx5.out (by rw [HM1l.out];simp;omega) (by omega) ?_
       intro vqx6 x6 hG hgr
       have hbw:Below wd.heap.size x5 x6:=(Below.refl wd.heap.size x5).grown hgr (by omega) (λ b hb=>(HGx5.out.lt b hb).1)
       have hyx6:=hbw.size
       have HCXx6:=Qh ((hbw.cell (p:=⟨bb,offb+k0,none⟩) (by show bb<_;omega)).trans HCXx5.out)
       have HRBx6:=Qh ((Zaa sStr).frame (w':=x6) (λ b hb=>hbw.block b (HFP.out.2 b hb)) HRBx5.out)
       have HLx6:=Qh ((hgr.block (x0.heap.size) (by omega) (by simp [Value.ownBlock];omega)).trans HLx5.out)
       have HBx6:=Qh (HBx5.out.trans (hbw.mono (by omega)))
       rw [List.nil_append] at hG
       have HGx6:=Qh hG
       obtain⟨aqx6,cqx6,rfl⟩:=Za0 HGx6.out
       refine hK.out _ _ HCXx6.out (λ hHeld=>?_)
       clear hK K hgr hG hbw
       try simp only [Qp]
       refine Qr 10 rfl (λ K hK=>?_) (by decide +kernel)
       refine Zao 59 rfl rfl (.tmp 53) (.tmp 58) rfl wd.heap.size (.slice aqx6 M1.length cqx6) (.slice (some ⟨x0.heap.size,0,none⟩) 1 1) M1 [nm] _ rfl HGx6.out rfl (ZbR HLx6.out hnm) (by rw [HM1l.out];simp;omega) (by omega) ?_
       intro vqx7 x7 hG hgr
       have hbw:Below wd.heap.size x6 x7:=(Below.refl wd.heap.size x6).grown hgr (by omega) (λ b hb=>(HGx6.out.lt b hb).1)
       have hyx7:=hbw.size
       have HCXx7:=Qh ((hbw.cell (p:=⟨bb,offb+k0,none⟩) (by show bb<_;omega)).trans HCXx6.out)
       have HRBx7:=Qh ((Zaa sStr).frame (w':=x7) (λ b hb=>hbw.block b (HFP.out.2 b hb)) HRBx6.out)
       have HBx7:=Qh (HBx6.out.trans (hbw.mono (by omega)))
       have HGx7:=Qh hG
       obtain⟨aqx7,cqx7,rfl⟩:=Za0 HGx7.out
       refine hK.out _ _ HCXx7.out (λ hHeld=>?_)
       clear hK K hgr hG hbw
       try simp only [Qp]
       refine Qr 14 rfl (λ K hK=>?_) (by decide +kernel)
       refine Zao 63 rfl rfl (.tmp 59) (.tmp 62) rfl wd.heap.size (.slice aqx7 (M1++[nm]).length cqx7) sv (M1++[nm]) (a.drop n) fb rfl HGx7.out rfl HRBx7.out (by rw [List.length_append,HM1l.out,HTL.out.2];simp;omega) (by omega) ?_
       intro vqx8 x8 hG hgr
       have hbw:Below wd.heap.size x7 x8:=(Below.refl wd.heap.size x7).grown hgr (by omega) (λ b hb=>(HGx7.out.lt b hb).1)
       have hyx8:=hbw.size
       have HCXx8:=Qh ((hbw.cell (p:=⟨bb,offb+k0,none⟩) (by show bb<_;omega)).trans HCXx7.out)
       have HBx8:=Qh (HBx7.out.trans (hbw.mono (by omega)))
       have HGx8:=Qh hG
       refine hK.out _ _ HCXx8.out (λ hHeld=>?_)
       clear hK K hgr hG hbw
       try simp only [Qp]
       refine Qt 15 5 rfl rfl ?_
       try simp only [Qp]
       refine wpAnyH_done (by kernel_rfl) ?_ _
       refine NoPanic.normal ?_
       clear hHeld
       have HFN:Hid (x8.ownsRow w.heap.size 9 1 vqx8 (ins a nm).length ((ins a nm).map Value.string)):=by
        show World.ownsRow _ _ _ _ _ _ _
        rw [HI.out];have:=Zby HGx8.out hsd;rw [HM1.out] at this;simpa using this
       go_wp2
       go_roundw
       case rel=>exact⟨k0+1,ins a nm,by omega,by go_num,HFD2.out,HFN.out,HSZ.out,hlen2,HBx8.out⟩
       case measure=>simp [intOf];omega
     ·have bl:=Zab wd (.cells #[.string nm] 9)
      have hyx9:wd.heap.size+1<=(wd.alloc (.cells #[.string nm] 9)).heap.size:=Nat.le_of_eq (Array.size_push _).symm
      have HLx9:=Qh (ZcX wd #[.string nm] 9)
      go_simp
      have HCXx9:Hid ((wd.alloc (.cells #[.string nm] 9)).cell? ⟨bb,offb+k0,none⟩=some (.string nm)):=(bl.cell (p:=⟨bb,offb+k0,none⟩) (by show bb<_;omega)).trans HCB.out
      have HRAx9:=Qh ((Zaa sStr).below HRAwd.out bl)
      have HRBx9:=Qh ((Zaa sStr).below HRBwd.out bl)
      have HBx9:=Qh (HBwd.out.trans (bl.mono HBwd.out.size))
      refine hK.out _ _ HCXx9.out (λ hHeld=>?_)
      clear hK K bl
      try simp only [Qp]
      generalize (wd.alloc (.cells #[.string nm] 9))=x9 at *
      refine Qr 0 rfl (λ K hK=>?_) (by decide +kernel)
      have bl:=Zab x9 (.cells #[] 9)
      have hyx10:x9.heap.size+1<=(x9.alloc (.cells #[] 9)).heap.size:=Nat.le_of_eq (Array.size_push _).symm
      have HGx10:Hid ((x9.alloc (.cells #[] 9)).ownsRow wd.heap.size 9 1 (.slice (some ⟨x9.heap.size,0,none⟩) 0 0) ([]:List ByteArray).length (([]:List ByteArray).map Value.string)):=World.ownsRow_lit (base:=wd.heap.size) (e:=9) (size:=1) x9 #[] 0 (by omega) (by simp) rfl
      have HLx10:=Qh ((bl.block _ (by omega)).trans HLx9.out)
      go_simp
      have HCXx10:Hid ((x9.alloc (.cells #[] 9)).cell? ⟨bb,offb+k0,none⟩=some (.string nm)):=(bl.cell (p:=⟨bb,offb+k0,none⟩) (by show bb<_;omega)).trans HCXx9.out
      have HRAx10:=Qh ((Zaa sStr).below HRAx9.out bl)
      have HRBx10:=Qh ((Zaa sStr).below HRBx9.out bl)
      have HBx10:=Qh (HBx9.out.trans (bl.mono HBx9.out.size))
      refine hK.out _ _ HCXx10.out (λ hHeld=>?_)
      clear hK K bl
      try simp only [Qp]
      generalize (x9.alloc (.cells #[] 9))=x10 at *
      refine Qr 4 rfl (λ K hK=>?_) (by decide +kernel)
      refine Zao 53 rfl rfl (.tmp 49) (.tmp 52) rfl wd.heap.size (.slice (some ⟨x9.heap.size,0,none⟩) 0 0) (.slice a1 n cap1) [] M1 fa rfl HGx10.out rfl HRAx10.out (by rw [HM1l.out];simp;omega) (by omega) ?_
      intro vqx11 x11 hG hgr
      have hbw:Below wd.heap.size x10 x11:=(Below.refl wd.heap.size x10).grown hgr (by omega) (λ b hb=>(HGx10.out.lt b hb).1)
      have hyx11:=hbw.size
      have HCXx11:=Qh ((hbw.cell (p:=⟨bb,offb+k0,none⟩) (by show bb<_;omega)).trans HCXx10.out)
      have HRBx11:=Qh ((Zaa sStr).frame (w':=x11) (λ b hb=>hbw.block b (HFP.out.2 b hb)) HRBx10.out)
      have HLx11:=Qh ((hgr.block (wd.heap.size) (by omega) (by simp [Value.ownBlock];omega)).trans HLx10.out)
      have HBx11:=Qh (HBx10.out.trans (hbw.mono (by omega)))
      rw [List.nil_append] at hG
      have HGx11:=Qh hG
      obtain⟨aqx11,cqx11,rfl⟩:=Za0 HGx11.out
      refine hK.out _ _ HCXx11.out (λ hHeld=>?_)
      clear hK K hgr hG hbw
      try simp only [Qp]
      refine Qr 10 rfl (λ K hK=>?_) (by decide +kernel)
      refine Zao 59 rfl rfl (.tmp 53) (.tmp 58) rfl wd.heap.size (.slice aqx11 M1.length cqx11) (.slice (some ⟨wd.heap.size,0,none⟩) 1 1) M1 [nm] _ rfl HGx11.out rfl (ZbR HLx11.out hnm) (by rw [HM1l.out];simp;omega) (by omega) ?_
      intro vqx12 x12 hG hgr
      have hbw:Below wd.heap.size x11 x12:=(Below.refl wd.heap.size x11).grown hgr (by omega) (λ b hb=>(HGx11.out.lt b hb).1)
      have hyx12:=hbw.size
      have HCXx12:=Qh ((hbw.cell (p:=⟨bb,offb+k0,none⟩) (by show bb<_;omega)).trans HCXx11.out)
      have HRBx12:=Qh ((Zaa sStr).frame (w':=x12) (λ b hb=>hbw.block b (HFP.out.2 b hb)) HRBx11.out)
      have HBx12:=Qh (HBx11.out.trans (hbw.mono (by omega)))
      have HGx12:=Qh hG
      obtain⟨aqx12,cqx12,rfl⟩:=Za0 HGx12.out
      refine hK.out _ _ HCXx12.out (λ hHeld=>?_)
      clear hK K hgr hG hbw
      try simp only [Qp]
      refine Qr 14 rfl (λ K hK=>?_) (by decide +kernel)
      refine Zao 63 rfl rfl (.tmp 59) (.tmp 62) rfl wd.heap.size (.slice aqx12 (M1++[nm]).length cqx12) sv (M1++[nm]) (a.drop n) fb rfl HGx12.out rfl HRBx12.out (by rw [List.length_append,HM1l.out,HTL.out.2];simp;omega) (by omega) ?_
      intro vqx13 x13 hG hgr
      have hbw:Below wd.heap.size x12 x13:=(Below.refl wd.heap.size x12).grown hgr (by omega) (λ b hb=>(HGx12.out.lt b hb).1)
      have hyx13:=hbw.size
      have HCXx13:=Qh ((hbw.cell (p:=⟨bb,offb+k0,none⟩) (by show bb<_;omega)).trans HCXx12.out)
      have HBx13:=Qh (HBx12.out.trans (hbw.mono (by omega)))
      have HGx13:=Qh hG
      refine hK.out _ _ HCXx13.out (λ hHeld=>?_)
      clear hK K hgr hG hbw
      try simp only [Qp]
      refine Qt 15 5 rfl rfl ?_
      try simp only [Qp]
      refine wpAnyH_done (by kernel_rfl) ?_ _
      refine NoPanic.normal ?_
      clear hHeld
      have HFN:Hid (x13.ownsRow w.heap.size 9 1 vqx13 (ins a nm).length ((ins a nm).map Value.string)):=by
       show World.ownsRow _ _ _ _ _ _ _
       rw [HI.out];have:=Zby HGx13.out hsd;rw [HM1.out] at this;simpa using this
      go_wp2
      go_roundw
      case rel=>exact⟨k0+1,ins a nm,by omega,by go_num,HFD2.out,HFN.out,HSZ.out,hlen2,HBx13.out⟩
      case measure=>simp [intOf];omega
theorem ZfY (va vb:Value) (a:List ByteArray) (nm:ByteArray) (fpa fpb:List Nat) (w:World) (hl:a.length<=900000) (Ha:(Zaa sStr).R w [va] a fpa) (Hb:(Zaa sStr).R w [vb] [nm] fpb) :
  Calls Tryz.prog 75 #[va,vb] w (ZdG (ins a nm) w):=Zfo va vb a [nm] fpa fpb w (by simp;omega) Ha Hb
theorem ZmN {T:List DMacro} {x:ByteArray} (h:0<=place T x):∃ k:Nat,place T x=k/\k<T.length:=by
 have key:∀ d k,T.length-k=d->-1<=plFrom T x k/\plFrom T x k<(T.length:Int):=by
  intro d
  induction d with
  | zero=>intro k hk;rw [ZhI (by omega)];omega
  |
   succ d ih =>
   intro k hk
   have hlt:k<T.length:=by omega
   cases e:(T[k].name.toList==x.toList)
   ·rw [Zgb hlt e];exact ih (k+1) (by omega)
   ·rw [ZjV hlt e];omega
 have:=key _ 0 rfl
 have h2:-1<=place T x/\place T x<(T.length:Int):=this
 exact⟨(place T x).toNat,by omega,by omega⟩
theorem mac_at {w:World} {b off n cap:Nat} {l:List DMacro} {fp:List Nat} (H:(Zaa sMacro).R w [.slice (some ⟨b,off,none⟩) n cap] l fp) {j:Nat} (hj:j<l.length) :
  ∃ (a2 a3:Option Addr) (c2 c3:Nat) (fj:List Nat),w.cell? ⟨b,off+j * 4,none⟩=some (.string l[j].name)/\w.cell? ⟨b,off+j * 4+1,none⟩=some (.bool l[j].function)/\w.cell? ⟨b,off+j * 4+2,none⟩=some (.slice a2 l[j].params.length c2)/\w.cell? ⟨b,off+j * 4+3,none⟩=some (.slice a3 l[j].body.length c3) /\
   sMacro.R w [.string l[j].name,.bool l[j].function,.slice a2 l[j].params.length c2,.slice a3 l[j].body.length c3] l[j] fj/\b<w.heap.size/\∀ x∈fj,x∈fp:=by
 obtain⟨a,cap',hv,hc,hm,hrow⟩:=Zac H
 obtain⟨b',off',fps,ha,hb,hfp,he⟩:=hrow (by omega)
 simp only [Value.slice.injEq] at hv
 obtain⟨rfl,rfl,rfl⟩:=hv
 simp only [Qi,Addr.mk.injEq,and_true] at ha
 obtain⟨rfl,rfl⟩:=ha
 obtain⟨es,hE,hR⟩:=he j hj
 have hR2:=hR
 obtain⟨h2,h3,q2,q3,rfl,-,K2,K3,-⟩:=hR2
 obtain⟨a2,c2,rfl,-⟩:=Zaf K2
 obtain⟨a3,c3,rfl,-⟩:=Zac K3
 have c0:w.cell? ⟨b,off+j * 4,none⟩=some _:=Zam hE (by decide) rfl
 have c1':w.cell? ⟨b,off+j * 4+1,none⟩=some _:=Zae (j:=1) hE (by decide) rfl
 have c2':w.cell? ⟨b,off+j * 4+2,none⟩=some _:=Zae (j:=2) hE (by decide) rfl
 have c3':w.cell? ⟨b,off+j * 4+3,none⟩=some _:=Zae (j:=3) hE (by decide) rfl
 exact⟨a2,a3,c2,c3,fps j,c0,c1',c2',c3',hR,hb,λ x hx=>by rw [hfp];exact List.mem_cons_of_mem _ (List.mem_flatMap.2 ⟨j,List.mem_range.2 hj,hx⟩)⟩
theorem ZmO {T:List DMacro} {t:Tok} (h:t.kind≠1):findM T t=none:=by unfold findM;rw [if_neg (λ h'=>h h'.1)]
theorem ZmP {T:List DMacro} {t:Tok} (h:place T t.text<0):findM T t=none:=by unfold findM;rw [if_neg (λ h'=>by have:=h'.2.2;omega)]
theorem Zkl {T:List DMacro} {t:Tok} (h:hasN t.hidden t.text=true):findM T t=none:=by unfold findM;rw [if_neg (λ h'=>by rw [h] at h';exact absurd h'.2.1 (by simp))]
theorem find_yes {T:List DMacro} {t:Tok} {k:Nat} (h1:t.kind=1) (h2:hasN t.hidden t.text=false) (h3:place T t.text=k) (hk:k<T.length):findM T t=some T[k]:=by
 unfold findM
 rw [if_pos ⟨h1,h2,by omega⟩,h3]
 exact List.getElem?_eq_getElem hk
def FindOf (T:List DMacro) (fpT:List Nat) (t:Tok) (w:World) (e:Ending) (w':World):Prop:=
 (findM T t=none/\e=.returned (.tuple #[.agg #[.string ⟨#[]⟩,.bool false,.slice none 0 0,.slice none 0 0],.bool false])/\Below w.heap.size w w') \/
 ∃ (m:DMacro) (a2 a3:Option Addr) (c2 c3:Nat) (fp:List Nat),findM T t=some m/\e=.returned (.tuple #[.agg #[.string m.name,.bool m.function,.slice a2 m.params.length c2,.slice a3 m.body.length c3],.bool true]) /\
  sMacro.R w' [.string m.name,.bool m.function,.slice a2 m.params.length c2,.slice a3 m.body.length c3] m fp/\(∀ b∈fp,b∈fpT)/\Below w.heap.size w w'
theorem Zkm (vT:Value) (T:List DMacro) (fpT:List Nat) (ct:List Value) (t:Tok) (fpt:List Nat) (w:World) (HT:(Zaa sMacro).R w [vT] T fpT) (H:sTok.R w ct t fpt) :
  Calls Tryz.prog 70 #[vT,.agg ct.toArray] w (FindOf T fpT t w):=by
 have HT0:=HT
 have htlt:=(Zaa sMacro).lt HT
 obtain⟨aT,cT,rfl,-,hcm,hrowT⟩:=Zac HT
 unfold maxLen at hcm
 obtain⟨hv,rfl,-,-,KT⟩:=H
 obtain⟨ah,ch,rfl,-⟩:=Zaf KT
 have b0:=Zab w (.cells #[.int .i64 t.kind,.string t.text,.bool t.spaced,.slice ah t.hidden.length ch] 57)
 have b2:=b0.trans ((Zab (w.alloc (.cells #[.int .i64 t.kind,.string t.text,.bool t.spaced,.slice ah t.hidden.length ch] 57)) (.cells #[.string ⟨#[]⟩,.bool false,.slice none 0 0,.slice none 0 0] 70)).mono b0.size)
 have HX:=Qh (ZbB w #[.int .i64 t.kind,.string t.text,.bool t.spaced,.slice ah t.hidden.length ch] #[.string ⟨#[]⟩,.bool false,.slice none 0 0,.slice none 0 0] 57 70)
 have HT2:=Qh ((Zaa sMacro).below HT0 b2)
 have HK2:=Qh ((Zaa sStr).below KT b2)
 have HLT:=Qh htlt
 have HROW:Hid (0<T.length->∃ bb ob,aT=some ⟨bb,ob,none⟩):=λ h=>by obtain⟨b,o,-,e,-⟩:=hrowT h;exact⟨b,o,e⟩
 clear HT0 htlt KT hrowT b0
 go_enter Tryz.func70,Tryz.ntmps70
 go_upto_region 1 with fail
 generalize ((w.alloc (.cells #[.int .i64 t.kind,.string t.text,.bool t.spaced,.slice ah t.hidden.length ch] 57)).alloc (.cells #[.string ⟨#[]⟩,.bool false,.slice none 0 0,.slice none 0 0] 70))=W2 at *
 have p1:=Qc 1 HX.out.1
 have HPL:=Qh (Zkk _ T t.text fpT W2 HT2.out)
 go_wp2_with fail
 refine HPL.out.mono ?_
 rintro e W3 ⟨rfl,hb3⟩
 clear p1 HPL
 have HX3:=Qh (And.intro (mbox HX.out.1 hb3) (mbox HX.out.2 hb3))
 have hB3:=b2.trans (hb3.mono b2.size)
 have HT3:=Qh ((Zaa sMacro).below HT2.out hb3)
 have HK3:=Qh ((Zaa sStr).below HK2.out hb3)
 have q0:=Qc 0 HX3.out.1
 have q1:=Qc 1 HX3.out.1
 have q3:=Qc 3 HX3.out.1
 clear HT2 HK2 HX hb3 b2
 by_cases h1:t.kind=1
 rotate_left
 ·have HF:=Qh (ZmO (T:=T) h1)
  have e1:(t.kind != 1)=true:=by simp [h1]
  generalize place T t.text=pl at *
  obtain⟨z0,z1,z2,z3⟩:=Q4 HX3.out.2
  have zf0:=Qf 0 HX3.out.2
  have zf1:=Qf 1 HX3.out.2
  have zf2:=Qf 2 HX3.out.2
  have zf3:=Qf 3 HX3.out.2
  have HS:=Qh (ZaB HX3.out.2 (.string ⟨#[]⟩) (.bool false) (.slice none 0 0) (.slice none 0 0))
  have HB:=Qh (Zar (g:=w.heap.size+1) hB3 (by omega) (.string ⟨#[]⟩) (.bool false) (.slice none 0 0) (.slice none 0 0))
  unfold set4 at HS HB
  clear h1
  go_wp2
  refine bodyPost_ret (Zak rfl _ _ (w.heap.size+1) _ _ _ _ rfl HS.out Tryz.underlying70 rfl (by kernel_rfl)) rfl ?_
  exact .inl ⟨HF.out,rfl,HB.out⟩
 have e1:(t.kind != 1)=false:=by simp [h1]
 by_cases h2:place T t.text<0
 ·have HF:=Qh (ZmP h2)
  generalize place T t.text=pl at *
  obtain⟨z0,z1,z2,z3⟩:=Q4 HX3.out.2
  have zf0:=Qf 0 HX3.out.2
  have zf1:=Qf 1 HX3.out.2
  have zf2:=Qf 2 HX3.out.2
  have zf3:=Qf 3 HX3.out.2
  have HS:=Qh (ZaB HX3.out.2 (.string ⟨#[]⟩) (.bool false) (.slice none 0 0) (.slice none 0 0))
  have HB:=Qh (Zar (g:=w.heap.size+1) hB3 (by omega) (.string ⟨#[]⟩) (.bool false) (.slice none 0 0) (.slice none 0 0))
  unfold set4 at HS HB
  clear h1
  go_wp2
  refine bodyPost_ret (Zak rfl _ _ (w.heap.size+1) _ _ _ _ rfl HS.out Tryz.underlying70 rfl (by kernel_rfl)) rfl ?_
  exact .inl ⟨HF.out,rfl,HB.out⟩
 obtain⟨n,hn,hnl⟩:=ZmN (by omega:0<=place T t.text)
 have HN:=Qh hn
 have H1:=Qh h1
 rw [hn]
 have hn0:¬ ((n:Int)<0):=by omega
 clear h1 h2 hn
 have HHS:=Qh (ZhT _ t.hidden t.text _ W3 HK3.out)
 cases hh:hasN t.hidden t.text
 rotate_left
 ·have HF:=Qh (Zkl (T:=T) hh)
  rw [hh] at HHS
  clear hh
  go_wp2_with fail
  refine HHS.out.mono ?_
  rintro e W4 ⟨rfl,hb4⟩
  have HX4:=Qh (mbox HX3.out.2 hb4)
  have hB4:=hB3.trans (hb4.mono hB3.size)
  obtain⟨z0,z1,z2,z3⟩:=Q4 HX4.out
  have zf0:=Qf 0 HX4.out
  have zf1:=Qf 1 HX4.out
  have zf2:=Qf 2 HX4.out
  have zf3:=Qf 3 HX4.out
  have HS:=Qh (ZaB HX4.out (.string ⟨#[]⟩) (.bool false) (.slice none 0 0) (.slice none 0 0))
  have HB:=Qh (Zar (g:=w.heap.size+1) hB4 (by omega) (.string ⟨#[]⟩) (.bool false) (.slice none 0 0) (.slice none 0 0))
  unfold set4 at HS HB
  clear q0 q1 q3 HHS
  go_wp2
  refine bodyPost_ret (Zak rfl _ _ (w.heap.size+1) _ _ _ _ rfl HS.out Tryz.underlying70 rfl (by kernel_rfl)) rfl ?_
  exact .inl ⟨HF.out,rfl,HB.out⟩
 have HF:=Qh (find_yes H1.out hh HN.out hnl)
 rw [hh] at HHS
 clear hh
 obtain⟨bb,ob,rfl⟩:=HROW.out (by omega)
 go_wp2_with fail
 refine HHS.out.mono ?_
 rintro e W4 ⟨rfl,hb4⟩
 have HX4:=Qh (mbox HX3.out.2 hb4)
 have hB4:=hB3.trans (hb4.mono hB3.size)
 obtain⟨a2,a3,c2,c3,fm,m0,m1,m2,m3,RM,hbb,hfm⟩:=mac_at ((Zaa sMacro).below HT3.out hb4) hnl
 have HLM:Hid (w.heap.size+1∉fm):=λ h=>by have:=HLT.out _ (hfm _ h);omega
 have HFM:=Qh hfm
 generalize hM:T[n]=M at *
 obtain⟨z0,z1,z2,z3⟩:=Q4 HX4.out
 have zf0:=Qf 0 HX4.out
 have zf1:=Qf 1 HX4.out
 have zf2:=Qf 2 HX4.out
 have zf3:=Qf 3 HX4.out
 have HS:=Qh (ZaB HX4.out (.string M.name) (.bool M.function) (.slice a2 M.params.length c2) (.slice a3 M.body.length c3))
 have HB:=Qh (Zar (g:=w.heap.size+1) hB4 (by omega) (.string M.name) (.bool M.function) (.slice a2 M.params.length c2) (.slice a3 M.body.length c3))
 have HRM:=Qh (sMacro.set4R RM HLM.out (.string M.name) (.bool M.function) (.slice a2 M.params.length c2) (.slice a3 M.body.length c3))
 unfold set4 at HS HB HRM
 have i0:(0:Int)<=(n:Int):=by omega
 have i1:(n:Int)<(T.length:Int):=by omega
 clear q0 q1 q3 HHS hM RM hfm
 go_wp2
 refine bodyPost_ret (Zak rfl _ _ (w.heap.size+1) _ _ _ _ rfl HS.out Tryz.underlying70 rfl (by kernel_rfl)) rfl ?_
 exact .inr ⟨M,a2,a3,c2,c3,fm,HF.out,rfl,HRM.out,HFM.out,HB.out⟩
def NewN (l:List Tok) (w:World) (e:Ending) (w':World):Prop:=
 ∃ (v:Value) (L:List (Elem Tok)),e=.returned v/\RowN sTok w.heap.size 57 v L w'/\L.map (·.d)=l/\(∀ x∈L,∀ b∈x.fp,w.heap.size<=b)/\Below w.heap.size w w'
theorem ZgL (v:Value) (l:List Tok) (fp:List Nat) (vh:Value) (h:List ByteArray) (fph:List Nat) (sp:Bool) (w:World) (hl:l.length<=100000) (hh:∀ k,(hk:k<l.length)->l[k].hidden.length+h.length<=1000000) (H:(Zaa sTok).R w [v] l fp) (HH:(Zaa sStr).R w [vh] h fph) :
  Calls Tryz.prog 74 #[v,vh,.bool sp] w (NewN (putL l h sp) w):=by
 obtain⟨a,cap,rfl,hc,hm,hrow⟩:=Zac H
 unfold maxLen at hm
 have HK:=Qh H
 have HHH:=Qh HH
 have HHN:=Qh hh
 have hba:=Zab w (.cells #[] 57)
 have HG:=Qh (RowN.lit0 sTok 57 w (Nat.le_refl _))
 clear H HH hh
 go_enter Tryz.func74,Tryz.ntmps74
 go_upto_region 3 with fail
 generalize (w.alloc (.cells #[] 57))=W1 at *
 go_wp2
 go_loopw [7,8] (λ vo i wr=>∃ (k:Nat) (O:List (Elem Tok)),k<=l.length/\i=.int .i64 k/\Hid (O.map (·.d)=(l.take k).map (putT h))/\Hid (RowN sTok w.heap.size 57 vo O wr)/\Hid (∀ x∈O,∀ b∈x.fp,w.heap.size<=b)/\Below w.heap.size w wr) (λ _ i _=>l.length-(intOf i).toNat)
 case atStart=>exact⟨0,[],by omega,rfl,rfl,HG.out,(λ x hx=>by simp at hx),hba⟩
 case round =>
  clear HG hba
  obtain⟨k,O,hk,rfl,HD,HR,HLO,hb⟩:=hrel
  have hOk:O.length=k:=by have:=congrArg List.length HD.out;rw [List.length_map,List.length_map,List.length_take] at this;omega
  have HOK:=Qh hOk
  obtain⟨ao,co,hvo,-⟩:=HR.out.val
  rw [hOk] at hvo
  subst hvo
  clear hOk
  by_cases hlt:k<l.length
  ·obtain⟨b1,o1,-,rfl,-,-,-⟩:=hrow (by omega)
   obtain⟨xa,xc,xf,x0,x1,x2,x3,xR,hbb,-⟩:=ZaQ HK.out hlt
   replace x0:=(hb.cell (p:=⟨b1,o1+k * 4,none⟩) hbb).trans x0
   replace x1:=(hb.cell (p:=⟨b1,o1+k * 4+1,none⟩) hbb).trans x1
   replace x2:=(hb.cell (p:=⟨b1,o1+k * 4+2,none⟩) hbb).trans x2
   replace x3:=(hb.cell (p:=⟨b1,o1+k * 4+3,none⟩) hbb).trans x3
   have XR:=Qh (sTok.below xR hb)
   have bx:=Zab wr (.cells #[.int .i64 l[k].kind,.string l[k].text,.bool l[k].spaced,.slice xa l[k].hidden.length xc] 57)
   have HX2:=Qh (heap_alloc_new wr (.cells #[.int .i64 l[k].kind,.string l[k].text,.bool l[k].spaced,.slice xa l[k].hidden.length xc] 57))
   have HHK:=Qh (HHN.out k hlt)
   have hwr:=hb.size
   clear xR hrow
   go_upto_region 6 with fail
   clear x0 x1 x2 x3
   generalize (wr.alloc (.cells #[.int .i64 l[k].kind,.string l[k].text,.bool l[k].spaced,.slice xa l[k].hidden.length xc] 57))=W2 at *
   obtain⟨y,HY⟩:∃ y,Hid (y=l[k]):=⟨l[k],Qh rfl⟩
   rw [show l[k]=y from HY.out.symm] at XR HX2 HHK
   have p3:=Qc 3 HX2.out
   have hb2:=hb.trans (bx.mono hb.size)
   obtain⟨hv',hcs,okk,oks,KH⟩:=XR.out
   simp only [List.cons.injEq,and_true,true_and] at hcs
   subst hcs
   have HOKS:=Qh (And.intro okk oks)
   have HU:=Qh (Zfo _ _ y.hidden h _ _ W2 HHK.out ((Zaa sStr).below KH bx) ((Zaa sStr).below HHH.out hb2))
   clear KH okk oks XR
   go_upto_region 7 with(
              go_at_call 75;refine (HU.out).mono ?_;rintro e w3 ⟨an,cn,fn,rfl,Rn,On,-,hb3⟩
              have HX3:=Qh (mbox HX2.out hb3)
              have p0':=Qc 0 HX3.out
              have pf3:=Qf 3 HX3.out
              have p3':=Qc 3 HX3.out)
   have hwn:wr.heap.size∉fn:=λ h=>by have:=(On.2 _ h).1;have:=mlt HX2.out;omega
   have HN4:=Qh ((Zaa sStr).setB Rn hwn 3 (.slice an (h.foldl ins y.hidden).length cn))
   have hbr3:Below wr.heap.size wr w3:=bx.trans (hb3.mono bx.size)
   have hbr4:=hbr3.setCell (p:=⟨wr.heap.size,3,none⟩) (Nat.le_refl _) (.slice an (h.foldl ins y.hidden).length cn)
   have HX4:=Qh (Zai HX3.out 3 (.slice an (h.foldl ins y.hidden).length cn))
   have HFN:Hid (∀ b∈fn,W2.heap.size<=b):=λ b hb=>(On.2 b hb).1
   have hW2:wr.heap.size<W2.heap.size:=mlt HX2.out
   clear p3 p0' pf3 p3' HU HX2 HX3 Rn On hb3 hbr3
   generalize w3.setCell ⟨wr.heap.size,3,none⟩ (.slice an (h.foldl ins y.hidden).length cn)=w4 at *
   obtain⟨t0,t1,t2,t3⟩:=Q4 HX4.out
   have bl:=Zab w4 (.cells #[.int .i64 y.kind,.string y.text,.bool y.spaced,.slice an (h.foldl ins y.hidden).length cn] 57)
   have HL5:=Qh (heap_alloc_new w4 (.cells #[.int .i64 y.kind,.string y.text,.bool y.spaced,.slice an (h.foldl ins y.hidden).length cn] 57))
   have HR5:=Qh ((HR.out.below hbr4).below bl)
   have HMI:=Qh HR.out.mine
   have RX:Hid (sTok.R (w4.alloc (.cells #[.int .i64 y.kind,.string y.text,.bool y.spaced,.slice an (h.foldl ins y.hidden).length cn] 57)) [.int .i64 y.kind,.string y.text,.bool y.spaced,.slice an (h.foldl ins y.hidden).length cn] (putT h y) fn):=⟨_,rfl,HOKS.out.1,HOKS.out.2,(Zaa sStr).below HN4.out bl⟩
   have hb5:=(hb.trans (hbr4.mono hb.size)).trans (bl.mono (hb.trans (hbr4.mono hb.size)).size)
   have HXN:Hid (∀ b∈fn,(Value.slice ao k co).ownBlock≠some b):=λ b hb h=>by
    have h1:=(HMI.out b h).2
    have h2:=HFN.out b hb
    omega
   clear HR HN4 bx hbr4 bl
   go_wp2_with (at_builtin;refine ZaK (X:=[(⟨[.int .i64 y.kind,.string y.text,.bool y.spaced,.slice an (h.foldl ins y.hidden).length cn],putT h y,fn⟩:Elem Tok)]) ZaE rfl (by decide) _ rfl (.tmp 26) (.tmp 28) rfl w.heap.size (.slice ao k co) rfl HR5.out ⟨w4.heap.size,0,none⟩ 1 1 rfl rfl (λ x hx=>by obtain rfl:=Qm hx;exact⟨rfl,RX.out,HXN.out⟩) (λ x hx=>by obtain rfl:=Qm hx;exact ZaI _ _ _ _ RX.out) (λ j u hj=>by rw [ZaN,Nat.zero_add,cell_of_row _ _ _ _ _ _ HL5.out];simpa using hj) (by have:=HOK.out;unfold maxLen;omega) (by have:=HOK.out;omega) hb5.size ?_;intro v6 w6 hR6 hg6 hp6)
   have hb6:Below w.heap.size w w6:=hb5.grown hg6 hb5.size (λ b hb=>(HMI.out b hb).1)
   have HR6:=Qh hR6
   have HLO6:Hid (∀ x∈O++[(⟨[.int .i64 y.kind,.string y.text,.bool y.spaced,.slice an (h.foldl ins y.hidden).length cn],putT h y,fn⟩:Elem Tok)],∀ b∈x.fp,w.heap.size<=b):=λ x hx b hb'=>by
    rcases Qa hx with hx | hx
    ·exact HLO.out x hx b hb'
    ·rw [Qm hx] at hb';have:=HFN.out b hb';omega
   have HD6:Hid ((O++[(⟨[.int .i64 y.kind,.string y.text,.bool y.spaced,.slice an (h.foldl ins y.hidden).length cn],putT h y,fn⟩:Elem Tok)]).map (·.d)=(l.take (k+1)).map (putT h)):=by
    show _=_
    rw [List.map_append,HD.out,List.take_succ_eq_append_getElem hlt,List.map_append,HY.out];rfl
   clear hR6 hg6 hp6
   go_roundw
   case rel=>exact⟨k+1,_,by omega,by go_num,HD6,HR6,HLO6,hb6⟩
   case measure=>simp [intOf];omega
  ·have hkl:k=l.length:=by omega
   obtain⟨fpo,rO,hfo,-⟩:=HR.out.read
   have HDL:Hid (O.map (·.d)=l.map (putT h)):=by show _=_;rw [HD.out,List.take_of_length_le (by omega)]
   have HLF:Hid (∀ b∈fpo,w.heap.size<=b):=λ b hb'=>by
    rcases hfo b hb' with h1 | ⟨x,hx,h1⟩
    ·exact(HR.out.mine b h1).1
    ·exact HLO.out x hx b h1
   have hsl:=Zdb _ _ fpo wr sp (by rw [List.length_map];have:=HOK.out;omega) rO
   have HSP:=Qh hsl
   clear hsl rO hfo hkl HR HD HLO
   go_wp2_with fail
   refine HSP.out.mono ?_
   rintro e w5 ⟨v5,L5,rfl,HR5,HD5,HF5,hb5⟩
   have HRF:=Qh (HR5.lower (base':=w.heap.size) hb.size)
   have HDF:Hid (L5.map (·.d)=putL l h sp):=by show _=_;rw [HD5,HDL.out];rfl
   have HFF:Hid (∀ x∈L5,∀ b∈x.fp,w.heap.size<=b):=λ x hx b hb'=>HLF.out b (HF5 x hx b hb')
   have hbf:=hb.trans (hb5.mono hb.size)
   obtain⟨a5,c5,hv5,-⟩:=HR5.val
   subst hv5
   clear HR5 HD5 HF5 HSP
   go_wp2
   go_ret
   exact⟨_,L5,rfl,HRF.out,HDF.out,HFF.out,hbf⟩
theorem Zkn {T:List DMacro} {l:List Tok} (h0:0<l.length) (h:findM T l[0]=none):goM T l=none:=by
 cases l with
 | nil=>simp at h0
 | cons t r=>exact goM_none h
theorem Zko {T:List DMacro} {l:List Tok} (h0:0<l.length) {m:DMacro} (h:findM T l[0]=some m) (hf:m.function=true) (ho:∀ h1:1<l.length,isM l[1] [40]=false):goM T l=none:=by
 cases l with
 | nil=>simp at h0
 |
  cons t r =>
  refine goM_shut h hf ?_
  cases r with
  | nil=>rfl
  | cons u q=>exact ho (by simp)
theorem Zkp {T:List DMacro} {l:List Tok} (h0:0<l.length) {m:DMacro} (h:findM T l[0]=some m) (hf:m.function=true->∃ h1:1<l.length,isM l[1] [40]=true):goM T l=some m:=by
 cases l with
 | nil=>simp at h0
 |
  cons t r =>
  refine goM_some h λ ⟨h1,h2⟩=>?_
  obtain⟨h3,h4⟩:=hf h1
  cases r with
  | nil=>simp at h3
  |
   cons u q =>
   have h5:isM u [40]=true:=h4
   have h6:isM u [40]=false:=h2
   rw [h5] at h6;exact absurd h6 (by simp)
def UsedOf (T:List DMacro) (fpT:List Nat) (l:List Tok) (w:World) (e:Ending) (w':World):Prop:=
 (goM T l=none/\e=.returned (.tuple #[.agg #[.string ⟨#[]⟩,.bool false,.slice none 0 0,.slice none 0 0],.bool false])/\Below w.heap.size w w') \/
 ∃ (m:DMacro) (a2 a3:Option Addr) (c2 c3:Nat) (fp:List Nat),goM T l=some m/\e=.returned (.tuple #[.agg #[.string m.name,.bool m.function,.slice a2 m.params.length c2,.slice a3 m.body.length c3],.bool true]) /\
  sMacro.R w' [.string m.name,.bool m.function,.slice a2 m.params.length c2,.slice a3 m.body.length c3] m fp/\(∀ b∈fp,b∈fpT)/\Below w.heap.size w w'
theorem Ziy (vT:Value) (T:List DMacro) (fpT:List Nat) (v:Value) (l:List Tok) (fp:List Nat) (w:World) (hT:tabOk T=true) (h0:0<l.length) (hl:l.length<=1000000) (htx:∀ u∈l,Tx u) (HT:(Zaa sMacro).R w [vT] T fpT) (H:(Zaa sTok).R w [v] l fp) :
  Calls Tryz.prog 79 #[vT,v] w (UsedOf T fpT l w):=by
 have HT0:=Qh HT
 have HLT:=Qh ((Zaa sMacro).lt HT)
 obtain⟨aT,cT,rfl,-,hcm,hrowT⟩:=Zac HT
 unfold maxLen at hcm
 have HROW:Hid (0<T.length->∃ bb ob,aT=some ⟨bb,ob,none⟩):=λ h=>by obtain⟨b,o,-,e,-⟩:=hrowT h;exact⟨b,o,e⟩
 have H0:=H
 obtain⟨al,cl,rfl,hcl,hml,hrow⟩:=Zac H
 unfold maxLen at hml
 obtain⟨bw,ow,-,rfl,-,-,-⟩:=hrow h0
 have b0:=Zab w (.cells #[.string ⟨#[]⟩,.bool false,.slice none 0 0,.slice none 0 0] 70)
 have HX:=Qh (heap_alloc_new w (.cells #[.string ⟨#[]⟩,.bool false,.slice none 0 0,.slice none 0 0] 70))
 obtain⟨xa,xc,xf,c0,c1,c2,c3,xR,hbb,-⟩:=ZaQ H0 h0
 simp only [Nat.zero_mul,Nat.add_zero] at c0 c1 c2 c3
 have HCE:Hid (∀ U:World,Below w.heap.size w U->U.cell? ⟨bw,ow+1,none⟩=some (.string l[0].text)/\U.cell? ⟨bw,ow+3,none⟩=some (.slice xa l[0].hidden.length xc)):=λ U hU=>⟨(hU.cell (p:=⟨bw,ow+1,none⟩) hbb).trans c1,(hU.cell (p:=⟨bw,ow+3,none⟩) hbb).trans c3⟩
 have HHD:Hid (∀ U:World,Below w.heap.size w U->(Zaa sStr).R U [.slice xa l[0].hidden.length xc] l[0].hidden xf):=λ U hU=>ZcG (sTok.below xR hU)
 have HT1:Hid (∀ h1:1<l.length,∀ U:World,Below w.heap.size w U->U.cell? ⟨bw,ow+4+1,none⟩=some (.string l[1].text)):=λ h1 U hU=>by
  obtain⟨ya,yc,yf,-,d1,-,-,-,hbb,-⟩:=ZaQ H0 h1
  simp only [Nat.one_mul] at d1
  exact(hU.cell (p:=⟨bw,ow+4+1,none⟩) hbb).trans d1
 have HTX:=Qh htx
 have HTAB:=Qh hT
 clear HT H H0 hrow hrowT xR c0 c1 c2 c3 htx hT
 go_enter Tryz.func79,Tryz.ntmps79
 go_upto_region 1 with fail
 generalize (w.alloc (.cells #[.string ⟨#[]⟩,.bool false,.slice none 0 0,.slice none 0 0] 70))=W1 at *
 have h0i:(0:Int)<(l.length:Int):=by omega
 obtain⟨c1,c3⟩:=HCE.out W1 b0
 have HPL:=Qh (Zkj _ T l[0].text fpT W1 HTAB.out ((Zaa sMacro).below HT0.out b0))
 obtain⟨tx,HTXT⟩:∃ tx:ByteArray,Hid (tx=l[0].text):=⟨_,Qh rfl⟩
 obtain⟨lo,HLO⟩:∃ lo:Nat,Hid (lo=lowAt T l[0].text):=⟨_,Qh rfl⟩
 rw [show lowAt T l[0].text=lo from HLO.out.symm] at HPL
 rw [show l[0].text=tx from HTXT.out.symm] at HPL c1
 cases hin:isIn T tx
 ·rw [hin] at HPL
  have HF:Hid (goM T l=none):=Zkn h0 (find_out HTAB.out (by rw [← HTXT.out];exact hin))
  clear hin
  go_wp2_with fail
  refine HPL.out.mono ?_
  rintro e w3 ⟨rfl,hb3⟩
  have HX3:=Qh (mbox HX.out hb3)
  have hB3:=b0.trans (hb3.mono b0.size)
  clear HPL c1 c3
  obtain⟨z0,z1,z2,z3⟩:=Q4 HX3.out
  have zf0:=Qf 0 HX3.out
  have zf1:=Qf 1 HX3.out
  have zf2:=Qf 2 HX3.out
  have zf3:=Qf 3 HX3.out
  have HS:=Qh (ZaB HX3.out (.string ⟨#[]⟩) (.bool false) (.slice none 0 0) (.slice none 0 0))
  have HB:=Qh (Zar (g:=w.heap.size) hB3 (Nat.le_refl _) (.string ⟨#[]⟩) (.bool false) (.slice none 0 0) (.slice none 0 0))
  unfold set4 at HS HB
  go_wp2
  refine bodyPost_ret (Zak rfl _ _ (w.heap.size) _ _ _ _ rfl HS.out Tryz.underlying70 rfl (by kernel_rfl)) rfl ?_
  exact .inl ⟨HF.out,rfl,HB.out⟩
 rw [hin] at HPL
 have HIN:=Qh hin
 clear hin
 go_wp2_with fail
 refine HPL.out.mono ?_
 rintro e w3 ⟨rfl,hb3⟩
 have HX3:=Qh (mbox HX.out hb3)
 have hB3:=b0.trans (hb3.mono b0.size)
 clear HPL c1 c3
 obtain⟨c1,c3⟩:=HCE.out w3 hB3
 rw [show l[0].text=tx from HTXT.out.symm] at c1
 have HCT:=Qh (ZdT _ l[0].hidden xf tx w3 (HHD.out w3 hB3))
 rw [tx_has] at HCT
 cases hh:hasN l[0].hidden tx
 rotate_left
 ·rw [hh] at HCT
  have HF:Hid (goM T l=none):=Zkn h0 (Zkl (by rw [← HTXT.out];exact hh))
  clear hh
  go_wp2_with fail
  refine HCT.out.mono ?_
  rintro e w4 ⟨rfl,rfl⟩
  clear HCT c1 c3
  obtain⟨z0,z1,z2,z3⟩:=Q4 HX3.out
  have zf0:=Qf 0 HX3.out
  have zf1:=Qf 1 HX3.out
  have zf2:=Qf 2 HX3.out
  have zf3:=Qf 3 HX3.out
  have HS:=Qh (ZaB HX3.out (.string ⟨#[]⟩) (.bool false) (.slice none 0 0) (.slice none 0 0))
  have HB:=Qh (Zar (g:=w.heap.size) hB3 (Nat.le_refl _) (.string ⟨#[]⟩) (.bool false) (.slice none 0 0) (.slice none 0 0))
  unfold set4 at HS HB
  go_wp2
  refine bodyPost_ret (Zak rfl _ _ (w.heap.size) _ _ _ _ rfl HS.out Tryz.underlying70 rfl (by kernel_rfl)) rfl ?_
  exact .inl ⟨HF.out,rfl,HB.out⟩
 rw [hh] at HCT
 have HFI:=find_at HTAB.out (HTX.out _ (List.getElem_mem h0)) (by rw [← HTXT.out];exact HIN.out) (by rw [← HTXT.out];exact hh)
 rw [show lowAt T l[0].text=lo from HLO.out.symm] at HFI
 obtain⟨hlo,HFD⟩:=HFI
 have HFD':findM T l[0]=some T[lo]:=HFD
 have HFM:=Qh HFD'
 clear hh HFD HFD'
 obtain⟨bb,ob,rfl⟩:=HROW.out (by omega)
 obtain⟨a2,a3,d2,d3,fm,m0,m1,m2,m3,RM,hbm,hfm⟩:=mac_at ((Zaa sMacro).below HT0.out hB3) hlo
 have HRM:=Qh RM
 have HLM:Hid (w.heap.size∉fm):=λ h=>by have:=HLT.out _ (hfm _ h);omega
 have HFMM:=Qh hfm
 generalize hM:T[lo]=M at *
 obtain⟨fu,HFU⟩:∃ fu:Bool,Hid (fu=M.function):=⟨_,Qh rfl⟩
 rw [show M.function=fu from HFU.out.symm] at m1
 have i0:(0:Int)<=(lo:Int):=by omega
 have i1:(lo:Int)<(T.length:Int):=by omega
 clear hM RM hfm
 go_wp2_with fail
 refine HCT.out.mono ?_
 rintro e w4 ⟨rfl,rfl⟩
 clear HCT c1 c3
 cases fu
 rotate_left
 ·by_cases h1:l.length=1
  ·have HF:Hid (goM T l=none):=Zko h0 HFM.out HFU.out.symm (λ h=>by omega)
   have e1:((l.length:Int)==1)=true:=by simp;omega
   have e2:(l.length:Int)=1:=by omega
   clear h1
   clear m0 m2 m3
   obtain⟨z0,z1,z2,z3⟩:=Q4 HX3.out
   have zf0:=Qf 0 HX3.out
   have zf1:=Qf 1 HX3.out
   have zf2:=Qf 2 HX3.out
   have zf3:=Qf 3 HX3.out
   have HS:=Qh (ZaB HX3.out (.string ⟨#[]⟩) (.bool false) (.slice none 0 0) (.slice none 0 0))
   have HB:=Qh (Zar (g:=w.heap.size) hB3 (Nat.le_refl _) (.string ⟨#[]⟩) (.bool false) (.slice none 0 0) (.slice none 0 0))
   unfold set4 at HS HB
   go_wp2
   refine bodyPost_ret (Zak rfl _ _ (w.heap.size) _ _ _ _ rfl HS.out Tryz.underlying70 rfl (by kernel_rfl)) rfl ?_
   exact .inl ⟨HF.out,rfl,HB.out⟩
  have h1l:1<l.length:=by omega
  have e1:((l.length:Int)==1)=false:=by simp;omega
  have e2:¬ (l.length:Int)=1:=by omega
  have e3:(1:Int)<(l.length:Int):=by omega
  have d1:=HT1.out h1l w4 hB3
  have HO:Hid (isM l[1] [40]=(l[1].text.toList==[40])):=Zge (HTX.out _ (List.getElem_mem h1l)) (by decide)
  cases ho:(l[1].text.toList==[40])
  ·have HF:Hid (goM T l=none):=Zko h0 HFM.out HFU.out.symm (λ h=>by rw [HO.out];exact ho)
   have e4:(l[1].text.toList != [40])=true:=by rw [bne,ho];rfl
   clear HO
   clear m0 m2 m3
   obtain⟨z0,z1,z2,z3⟩:=Q4 HX3.out
   have zf0:=Qf 0 HX3.out
   have zf1:=Qf 1 HX3.out
   have zf2:=Qf 2 HX3.out
   have zf3:=Qf 3 HX3.out
   have HS:=Qh (ZaB HX3.out (.string ⟨#[]⟩) (.bool false) (.slice none 0 0) (.slice none 0 0))
   have HB:=Qh (Zar (g:=w.heap.size) hB3 (Nat.le_refl _) (.string ⟨#[]⟩) (.bool false) (.slice none 0 0) (.slice none 0 0))
   unfold set4 at HS HB
   go_wp2
   refine bodyPost_ret (Zak rfl _ _ (w.heap.size) _ _ _ _ rfl HS.out Tryz.underlying70 rfl (by kernel_rfl)) rfl ?_
   exact .inl ⟨HF.out,rfl,HB.out⟩
  have HF:Hid (goM T l=some M):=Zkp h0 HFM.out (λ _=>⟨h1l,by rw [HO.out];exact ho⟩)
  have e4:(l[1].text.toList != [40])=false:=by rw [bne,ho];rfl
  clear HO
  obtain⟨z0,z1,z2,z3⟩:=Q4 HX3.out
  have zf0:=Qf 0 HX3.out
  have zf1:=Qf 1 HX3.out
  have zf2:=Qf 2 HX3.out
  have zf3:=Qf 3 HX3.out
  have HS:=Qh (ZaB HX3.out (.string M.name) (.bool true) (.slice a2 M.params.length d2) (.slice a3 M.body.length d3))
  have HB:=Qh (Zar (g:=w.heap.size) hB3 (Nat.le_refl _) (.string M.name) (.bool true) (.slice a2 M.params.length d2) (.slice a3 M.body.length d3))
  have HRM2:=Qh (sMacro.set4R HRM.out HLM.out (.string M.name) (.bool true) (.slice a2 M.params.length d2) (.slice a3 M.body.length d3))
  unfold set4 at HS HB HRM2
  go_wp2
  refine bodyPost_ret (Zak rfl _ _ (w.heap.size) _ _ _ _ rfl HS.out Tryz.underlying70 rfl (by kernel_rfl)) rfl ?_
  exact .inr ⟨M,a2,a3,d2,d3,fm,HF.out,by rw [← HFU.out];rfl,HRM2.out,HFMM.out,HB.out⟩
 have HF:Hid (goM T l=some M):=Zkp h0 HFM.out (λ h=>by rw [← HFU.out] at h;exact absurd h (by simp))
 obtain⟨z0,z1,z2,z3⟩:=Q4 HX3.out
 have zf0:=Qf 0 HX3.out
 have zf1:=Qf 1 HX3.out
 have zf2:=Qf 2 HX3.out
 have zf3:=Qf 3 HX3.out
 have HS:=Qh (ZaB HX3.out (.string M.name) (.bool false) (.slice a2 M.params.length d2) (.slice a3 M.body.length d3))
 have HB:=Qh (Zar (g:=w.heap.size) hB3 (Nat.le_refl _) (.string M.name) (.bool false) (.slice a2 M.params.length d2) (.slice a3 M.body.length d3))
 have HRM2:=Qh (sMacro.set4R HRM.out HLM.out (.string M.name) (.bool false) (.slice a2 M.params.length d2) (.slice a3 M.body.length d3))
 unfold set4 at HS HB HRM2
 go_wp2
 refine bodyPost_ret (Zak rfl _ _ (w.heap.size) _ _ _ _ rfl HS.out Tryz.underlying70 rfl (by kernel_rfl)) rfl ?_
 exact .inr ⟨M,a2,a3,d2,d3,fm,HF.out,by rw [← HFU.out];rfl,HRM2.out,HFMM.out,HB.out⟩
theorem Zfc (n:ByteArray):∀ l:List ByteArray,(ins l n).length<=l.length+1
 | []=>by simp [ins]
 |
  x::r=>by
  have:=Zfc n r
  unfold ins
  split
  ·simp;omega
  ·split <;> simp
theorem ZhZ:∀ (b a:List ByteArray),(Zba a b).length<=a.length+b.length
 | [],a=>by simp [Zba]
 |
  x::r,a=>by
  have h1:=ZhZ r (ins a x)
  have h2:=Zfc x a
  show (Zba (ins a x) r).length<=_
  rw [List.length_cons];omega
theorem ZlY {a h:List ByteArray} {i:Nat} (hi:i<h.length):Zba a (h.take (i+1))=ins (Zba a (h.take i)) h[i]:=by
 unfold Zba
 rw [List.take_succ_eq_append_getElem hi,List.foldl_append]
 rfl
def HidOf (h:List ByteArray) (l:List Tok) (fp:List Nat) (w:World) (e:Ending) (w':World):Prop:=
 ∃ (v:Value) (L:List (Elem Tok)),e=.returned v/\RowN sTok w.heap.size 57 v L w'/\L.map (·.d)=l.map (putT h)/\(∀ x∈L,∀ b∈x.fp,b∈fp\/w.heap.size<=b)/\Below w.heap.size w w'
theorem Ziz (v:Value) (l:List Tok) (fp:List Nat) (vh:Value) (h:List ByteArray) (fph:List Nat) (w:World) (hl:l.length<=100000) (hu:∀ t∈l,Up t.hidden) (hh:∀ t∈l,t.hidden.length<=100000) (hhl:h.length<=100000) (H:(Zaa sTok).R w [v] l fp) (HH:(Zaa sStr).R w [vh] h fph) :
  Calls Tryz.prog 129 #[v,vh] w (HidOf h l fp w):=by
 have HLT:=Qh ((Zaa sTok).lt H)
 have H0:=Qh H
 obtain⟨al,cl,rfl,hcl,hml,hrow⟩:=Zac H
 unfold maxLen at hml
 obtain⟨ah,ch,rfl,hch,hmh,hrowh,hszh⟩:=Zaf HH
 unfold maxLen at hmh
 have HSZ:=Qh hszh
 have HU:=Qh hu
 have HHL:=Qh hh
 clear H HH hszh hu hh
 go_enter Tryz.func129,Tryz.ntmps129
 go_wp2
 go_loopw [5,12] (λ vo i wr=>∃ (k:Nat) (L:List (Elem Tok)),k<=l.length/\i=.int .i64 k/\Hid (L.map (·.d)=(l.take k).map (putT h))/\Hid (RowN sTok w.heap.size 57 vo L wr)/\Hid (∀ x∈L,∀ b∈x.fp,b∈fp\/w.heap.size<=b)/\Below w.heap.size w wr) (λ _ i _=>l.length-(intOf i).toNat)
 case atStart=>exact⟨0,[],by omega,rfl,rfl,RowN.nil _ _ _ _,(λ x hx=>by simp at hx),Below.refl _ _⟩
 case round =>
  obtain⟨k,L,hk,rfl,HD,HR,HF0,hb⟩:=hrel
  have hLk:L.length=k:=by have:=congrArg List.length HD.out;rw [List.length_map,List.length_map,List.length_take] at this;omega
  have HLK:=Qh hLk
  obtain⟨ao,co,hvo,-⟩:=HR.out.val
  rw [hLk] at hvo
  subst hvo
  clear hLk
  by_cases hlt:k<l.length
  ·obtain⟨b1,o1,-,rfl,-,-,-⟩:=hrow (by omega)
   obtain⟨xa,xc,xf,x0,x1,x2,x3,xR,hbb,hxf⟩:=ZaQ H0.out hlt
   replace x0:=(hb.cell (p:=⟨b1,o1+k * 4,none⟩) hbb).trans x0
   replace x1:=(hb.cell (p:=⟨b1,o1+k * 4+1,none⟩) hbb).trans x1
   replace x2:=(hb.cell (p:=⟨b1,o1+k * 4+2,none⟩) hbb).trans x2
   replace x3:=(hb.cell (p:=⟨b1,o1+k * 4+3,none⟩) hbb).trans x3
   have XR:=Qh (sTok.below xR hb)
   have HXF:=Qh hxf
   have bx:=Zab wr (.cells #[.int .i64 l[k].kind,.string l[k].text,.bool l[k].spaced,.slice xa l[k].hidden.length xc] 57)
   have HX2:=Qh (heap_alloc_new wr (.cells #[.int .i64 l[k].kind,.string l[k].text,.bool l[k].spaced,.slice xa l[k].hidden.length xc] 57))
   have HHK:=HHL.out _ (List.getElem_mem hlt)
   have HUK:=Qh (HU.out _ (List.getElem_mem hlt))
   clear xR hrow hxf
   go_upto_region 5 with fail
   clear x0 x1 x2 x3
   have hszo:=hb.size
   generalize hW2:(wr.alloc (.cells #[.int .i64 l[k].kind,.string l[k].text,.bool l[k].spaced,.slice xa l[k].hidden.length xc] 57))=W2 at *
   clear hW2
   obtain⟨g,HG⟩:∃ g:Nat,Hid (g=wr.heap.size):=⟨_,Qh rfl⟩
   rw [show wr.heap.size=g from HG.out.symm] at HX2 bx hszo ⊢
   have HFLT:=HLT
   have HXIN:Hid (∀ b∈xf,b∈fp):=HXF.out
   have HBW:=Qh hb
   have HXFL:Hid (∀ b∈xf,b<w.heap.size):=λ b hb'=>HLT.out b (HXF.out b hb')
   have HKR:Hid ((Zaa sStr).R W2 [.slice xa l[k].hidden.length xc] l[k].hidden xf):=by
    have:=sTok.below XR.out (by rw [← HG.out];exact bx:Below wr.heap.size wr W2)
    exact ZcG this
   obtain⟨-,-,okk,oks,-⟩:=XR.out
   have HOKK:=Qh okk
   have HOKS:=Qh oks
   have HRO:=Qh (λ (U:World) (hU:Below g wr U)=>HR.out.below (by rw [← HG.out];exact hU))
   have HMI:=Qh HR.out.mine
   have hbo:=Qh (λ (U:World) (hU:Below g wr U)=>hb.trans (hU.mono hszo))
   obtain⟨tk,HTK⟩:∃ tk:Tok,Hid (tk=l[k]):=⟨_,Qh rfl⟩
   rw [show l[k]=tk from HTK.out.symm] at HX2 HHK HUK HKR HOKK HOKS
   clear okk oks XR HR hb HLT HXF
   obtain⟨wo,hwo⟩:∃ x:World,x=wr:=⟨_,rfl⟩
   subst hwo
   obtain⟨N0,HN0⟩:∃ N:Nat,Hid (N=tk.hidden.length):=⟨_,Qh rfl⟩
   rw [show tk.hidden.length=N0 from HN0.out.symm] at HX2 HKR
   go_wp2
   go_loopw [18] (λ j wr=>∃ (i N:Nat) (hd:Option Addr) (c:Nat) (fj:List Nat),i<=h.length/\j=.int .i64 i/\Hid (N=(Zba tk.hidden (h.take i)).length)/\Hid (wr.heap[g]?=some (.cells #[.int .i64 tk.kind,.string tk.text,.bool tk.spaced,.slice hd N c] 57 (0,0)))/\Hid ((Zaa sStr).R wr [.slice hd N c] (Zba tk.hidden (h.take i)) fj)/\Hid (∀ b∈fj,b∈fp\/g<b)/\Hid (g∉fj)/\Below g wo wr) (λ j _=>h.length-(intOf j).toNat)
   case atStart=>exact⟨0,N0,xa,xc,xf,by omega,rfl,HN0.out,HX2.out,HKR.out,(λ b hb'=>.inl (HXIN.out b hb')),(λ hx=>by have:=HXFL.out _ hx;omega),bx⟩
   case round =>
    clear HX2 HKR bx
    obtain⟨i,N,hd,c,fj,hi,rfl,HN,HBX,HJR,HJF,HGJ,hbj⟩:=hrel
    by_cases hlti:i<h.length
    ·obtain⟨b2,o2,rfl,hb2,-,hcell⟩:=hrowh (by omega)
     have y0:=(hbj.cell (p:=⟨b2,o2+i,none⟩) (show b2<g by omega)).trans ((HBW.out.cell (p:=⟨b2,o2+i,none⟩) hb2).trans (hcell i hlti))
     have p3:=Qc 3 HBX.out
     have hul:=ZhZ (h.take i) tk.hidden
     rw [List.length_take] at hul
     have HWN:=Qh (Zdu (.slice hd N c) (Zba tk.hidden (h.take i)) h[i] fj wr (Zg3 HUK.out) (by omega) (HSZ.out i hlti) HJR.out)
     rw [← ZlY hlti] at HWN
     have i0:(0:Int)<=(i:Int):=by omega
     have i1:(i:Int)<(h.length:Int):=by omega
     have hgl:g<wr.heap.size:=mlt HBX.out
     clear hcell hul
     go_wp2_with fail
     refine HWN.out.mono ?_
     rintro e w3 ⟨a3,c3,f3,rfl,R3,O3,-,hb3⟩
     have HX3:=Qh (mbox HBX.out hb3)
     have HB3:=Qh (hbj.trans (hb3.mono (Nat.le_of_lt hgl)))
     have hlo3:∀ b∈f3,wr.heap.size<=b:=λ b hb=>(O3.2 b hb).1
     have hn3:g∉f3:=λ hx=>by have:=hlo3 g hx;omega
     obtain⟨N3,HN3⟩:∃ N3:Nat,Hid (N3=(Zba tk.hidden (h.take (i+1))).length):=⟨_,Qh rfl⟩
     rw [show (Zba tk.hidden (h.take (i+1))).length=N3 from HN3.out.symm] at R3 ⊢
     have q3:=Qc 3 HX3.out
     have xz3:=Qf 3 HX3.out
     have HX4:=Qh (Zai HX3.out 3 (.slice a3 N3 c3))
     have HR4:=Qh ((Zaa sStr).setB R3 hn3 3 (.slice a3 N3 c3))
     have HB4:=Qh (HB3.out.setCell (p:=⟨g,3,none⟩) (Nat.le_refl _) (.slice a3 N3 c3))
     have HF4:Hid (∀ b∈f3,b∈fp\/g<b):=λ b hb=>.inr (by have:=hlo3 b hb;omega)
     have HG4:=Qh hn3
     clear HWN HBX HJR HJF hb3 R3 O3 hlo3 hn3 y0 p3
     go_wp2
     go_roundw
     case rel=>exact⟨i+1,N3,a3,c3,f3,by omega,by go_num,HN3.out,HX4.out,HR4.out,HF4.out,HG4.out,HB4.out⟩
     case measure=>simp [intOf];omega
    ·have hih:i=h.length:=by omega
     have HUN:Hid (Zba tk.hidden (h.take i)=Zba tk.hidden h):=by show _=_;rw [List.take_of_length_le (by omega)]
     rw [show Zba tk.hidden (h.take i)=Zba tk.hidden h from HUN.out] at HJR
     clear hih
     obtain⟨p0,p1,p2,p3⟩:=Q4 HBX.out
     have bl:=Zab wr (.cells #[.int .i64 tk.kind,.string tk.text,.bool tk.spaced,.slice hd N c] 57)
     have HL4:=Qh (heap_alloc_new wr (.cells #[.int .i64 tk.kind,.string tk.text,.bool tk.spaced,.slice hd N c] 57))
     have hb14:Below w.heap.size w (wr.alloc (.cells #[.int .i64 tk.kind,.string tk.text,.bool tk.spaced,.slice hd N c] 57)):=hbo.out _ (hbj.trans (bl.mono (Nat.le_of_lt (mlt HBX.out))))
     have HNL:Hid (N=(Zba tk.hidden h).length):=by show _=_;rw [HN.out,HUN.out]
     have RX:Hid (sTok.R (wr.alloc (.cells #[.int .i64 tk.kind,.string tk.text,.bool tk.spaced,.slice hd N c] 57)) [.int .i64 tk.kind,.string tk.text,.bool tk.spaced,.slice hd N c] (putT h tk) fj):=⟨_,rfl,HOKK.out,HOKS.out,(Zaa sStr).below HJR.out bl⟩
     have HR4:=Qh (HRO.out _ (hbj.trans (bl.mono (Nat.le_of_lt (mlt HBX.out)))))
     have HXN:Hid (∀ b∈fj,(Value.slice ao k co).ownBlock≠some b):=λ b hb h=>by
      have h1:=HMI.out b h
      rcases HJF.out b hb with h2 | h2
      ·have:=HFLT.out b h2;omega
      ·have:=HG.out;omega
     clear bl HJR HN HUN HBX hbj
     go_wp2_with (at_builtin;refine ZaK (X:=[(⟨[.int .i64 tk.kind,.string tk.text,.bool tk.spaced,.slice hd N c],putT h tk,fj⟩:Elem Tok)]) ZaE rfl (by decide) _ rfl (.tmp 28) (.tmp 30) rfl w.heap.size (.slice ao k co) rfl HR4.out ⟨wr.heap.size,0,none⟩ 1 1 rfl rfl (λ x hx=>by obtain rfl:=Qm hx;exact⟨rfl,RX.out,HXN.out⟩) (λ x hx=>by obtain rfl:=Qm hx;exact ZaI _ _ _ _ RX.out) (λ j u hj=>by rw [ZaN,Nat.zero_add,cell_of_row _ _ _ _ _ _ HL4.out];simpa using hj) (by have:=HLK.out;unfold maxLen;omega) (by have:=HLK.out;omega) hb14.size ?_;intro v5 w5 hR5 hg5 hp5)
     have hb5:Below w.heap.size w w5:=hb14.grown hg5 hb14.size (λ b hb=>(HMI.out b hb).1)
     have HF5:Hid (∀ x∈L++[(⟨[.int .i64 tk.kind,.string tk.text,.bool tk.spaced,.slice hd N c],putT h tk,fj⟩:Elem Tok)],∀ b∈x.fp,b∈fp\/w.heap.size<=b):=λ x hx b hb'=>by
      rcases Qa hx with hx | hx
      ·exact HF0.out x hx b hb'
      ·rw [Qm hx] at hb'
       exact(HJF.out b hb').imp id λ h=>by omega
     have HD5:Hid ((L++[(⟨[.int .i64 tk.kind,.string tk.text,.bool tk.spaced,.slice hd N c],putT h tk,fj⟩:Elem Tok)]).map (·.d)=(l.take (k+1)).map (putT h)):=by
      show _=_
      rw [List.map_append,HD.out,List.take_succ_eq_append_getElem hlt,List.map_append,HTK.out];rfl
     have HR5:=Qh hR5
     clear hR5 hg5 hp5
     go_wp2
     go_roundw
     case rel=>exact⟨k+1,_,by omega,by go_num,HD5,HR5,HF5,hb5⟩
     case measure=>simp [intOf];omega
  ·have hkl:k=l.length:=by omega
   have HF:Hid (L.map (·.d)=l.map (putT h)):=by show _=_;rw [HD.out,List.take_of_length_le (by omega)]
   go_wp2
   go_ret
   exact⟨_,L,rfl,HR.out,HF.out,HF0.out,hb⟩
theorem RowE.same2 {α:Type} {S:Shape α} {base:Nat} {e:TypeId} {v:Value} {L:List (Elem α)} {w w':World} (h:RowE S base e v L w) (hv:∀ g,v.ownBlock=some g->w'.heap[g]?=w.heap[g]?) (hb:∀ x∈L,∀ b∈x.fp,w'.heap[b]?=w.heap[b]?):RowE S base e v L w' where
 row:=Za9 h.row hv
 len:=h.len
 el:=λ x hx=>S.frame (λ b hb'=>hb x hx b hb') (h.el x hx)
 lo:=h.lo
 ty:=λ x hx b hb'=>by
  obtain⟨cur,t,fr,h1,h2⟩:=h.ty x hx b hb'
  exact⟨cur,t,fr,(hb x hx b hb').trans h1,h2⟩
structure SplSt (B0 B1:Nat) (va vm:Value) (A:List (Elem (List Tok))) (M:List (Elem Tok)) (w:World):Prop where
 e:RowE sToks B0 28 va A w
 b:∀ g,va.ownBlock=some g->B1<=g
 g:∃ top,RowG sTok top 57 vm M w/\B1<=top/\top<=w.heap.size/\∀ x∈A,∀ b∈x.fp,b<top
 m:∀ x∈M,∀ b∈x.fp,B0<=b/\b<B1
 t:∀ x∈M,TokTy w x.fp
theorem SplSt.below {B0 B1:Nat} {va vm:Value} {A:List (Elem (List Tok))} {M:List (Elem Tok)} {w w':World} (h:SplSt B0 B1 va vm A M w) (hb:Below w.heap.size w w'):SplSt B0 B1 va vm A M w':=by
 obtain⟨top,g1,g2,g3,g4⟩:=h.g
 exact⟨h.e.below hb,h.b,⟨top,g1.below hb,g2,Nat.le_trans g3 hb.size,g4⟩,h.m,λ x hx=>(h.t x hx).below hb⟩
theorem SplSt.next {B0 B1:Nat} {va':Value} {A':List (Elem (List Tok))} {w':World} (hE:RowE sToks B0 28 va' A' w') (hv:∀ g,va'.ownBlock=some g->B1<=g) (hB:B1<=w'.heap.size):SplSt B0 B1 va' (.slice (some ⟨w'.heap.size,0,none⟩) 0 0) A' [] (w'.alloc (.cells #[] 57)):=
 ⟨hE.below (Zab _ _),hv,⟨w'.heap.size,RowG.lit0 sTok 57 w',hB,by show _<=(w'.heap.push _).size;simp,λ x hx b hb=>sToks.lt (hE.el x hx) b hb⟩,by simp,by simp⟩
theorem ZfZ (cs:List Value) (x:Tok) (fp:List Nat) (w:World) (H:sTok.R w cs x fp) :
  Calls Tryz.prog 147 #[.agg cs.toArray] w λ e w'=>e=.returned (.int .i64 (opn x))/\Below w.heap.size w w':=by
 obtain⟨h,rfl,hk,hok,K⟩:=H
 obtain⟨a0,cap0,rfl,-⟩:=Zaf K
 have hb:=Zab w (.cells #[.int .i64 x.kind,.string x.text,.bool x.spaced,.slice a0 x.hidden.length cap0] 57)
 clear K
 go_enter Tryz.func147,Tryz.ntmps147
 cases h1:Zch x
 ·have e1:(x.text.toList==[40])=false:=h1
  cases h2:ZdW x
  ·have e2:(x.text.toList==[41])=false:=h2
   have HF:=Qh (opn_else h1 h2)
   clear h1 h2
   go_wp2
   go_ret
   exact⟨by rw [HF.out];rfl,hb⟩
  ·have e2:(x.text.toList==[41])=true:=h2
   have HF:=Qh (opn_shut h1 h2)
   clear h1 h2
   go_wp2
   go_ret
   exact⟨by rw [HF.out];rfl,hb⟩
 ·have e1:(x.text.toList==[40])=true:=h1
  have HF:=Qh (ZjW h1)
  clear h1
  go_wp2
  go_ret
  exact⟨by rw [HF.out];rfl,hb⟩
theorem Zjg {l:List Tok} {k:Nat} (hk:k<l.length) (d:Int):clGo (l.drop k) d k=if d+opn l[k]=0 then some k else clGo (l.drop (k+1)) (d+opn l[k]) (k+1):=by
 rw [List.drop_eq_getElem_cons hk];rfl
theorem clGo_end {l:List Tok} {k:Nat} (hk:l.length<=k) (d:Int):clGo (l.drop k) d k=none:=by rw [List.drop_of_length_le hk];rfl
def clRes (o:Option Nat):Int:=match o with | some e=>(e:Int) | none=>-1
theorem Zgm (v:Value) (l:List Tok) (fp:List Nat) (n:Nat) (w:World) (hl:l.length<=60) (hn:n<=l.length) (H:(Zaa sTok).R w [v] l fp) :
  Calls Tryz.prog 136 #[v,.int .i64 n] w λ e w'=>e=.returned (.int .i64 (clRes (clGo (l.drop n) 0 n)))/\Below w.heap.size w w':=by
 obtain⟨a,cap,rfl,hc,hm,hrow⟩:=Zac H
 unfold maxLen at hm
 clear H
 obtain⟨r,HR⟩:∃ r,Hid (r=clGo (l.drop n) 0 n):=⟨_,rfl⟩
 rw [← HR.out]
 go_enter Tryz.func136,Tryz.ntmps136
 go_wp2
 go_loopw [5,6] (λ d i wr=>∃ (k:Nat) (dd:Int),n<=k/\k<=l.length/\i=.int .i64 k/\d=.int .i64 dd/\-(k:Int)<=dd/\dd<=k/\Hid (clGo (l.drop k) dd k=r)/\Below w.heap.size w wr) (λ _ i _=>l.length-(intOf i).toNat)
 case atStart=>exact⟨n,0,Nat.le_refl _,hn,rfl,rfl,by omega,by omega,HR.out.symm,Below.refl _ _⟩
 case round =>
  obtain⟨k,dd,hnk,hk,rfl,rfl,hd1,hd2,HI,hb⟩:=hrel
  by_cases hlt:k<l.length
  ·obtain⟨b1,off1,fps1,rfl,hb1,-,he1⟩:=hrow (by omega)
   obtain⟨es1,hE1,hR1⟩:=he1 k hlt
   clear hrow he1
   have hR2:=sTok.below hR1 hb
   obtain⟨h1',rfl,_,_,_⟩:=hR1
   have HC:=Qh (ZfZ _ _ _ wr hR2)
   clear hR2
   replace hE1:=hE1.frame (hb.block b1 hb1)
   have c10:wr.cell? ⟨b1,off1+k * 4,none⟩=some _:=Zam hE1 (by decide) rfl
   have c11:wr.cell? ⟨b1,off1+k * 4+1,none⟩=some _:=Zae (j:=1) hE1 (by decide) rfl
   have c12:wr.cell? ⟨b1,off1+k * 4+2,none⟩=some _:=Zae (j:=2) hE1 (by decide) rfl
   have c13:wr.cell? ⟨b1,off1+k * 4+3,none⟩=some _:=Zae (j:=3) hE1 (by decide) rfl
   clear hE1
   have hst:=HI.out
   rw [Zjg hlt] at hst
   have ho:=opn_ge l[k]
   have hwr:IntKind.i64.wrap (dd+opn l[k])=dd+opn l[k]:=IntWalk.i64_in _ (by omega)
   generalize hon:opn l[k]=on at *
   go_wp2_with fail
   refine HC.out.mono ?_
   rintro e w2 ⟨rfl,hb2⟩
   clear c10 c11 c12 c13 HC
   have hb':=hb.trans (hb2.mono hb.size)
   by_cases h0:dd+on=0
   ·rw [if_pos h0] at hst
    have e0:((dd+on:Int)==0)=true:=by simpa using h0
    have HF:=Qh hst
    clear hst h0 hon
    go_wp2
    go_ret
    exact⟨by rw [← HF.out];rfl,hb'⟩
   ·rw [if_neg h0] at hst
    have e0:((dd+on:Int)==0)=false:=by simpa using h0
    have HF:=Qh hst
    clear hst h0 hon
    go_wp2
    go_roundw
    case rel=>exact⟨k+1,dd+on,by omega,by omega,by go_num,rfl,by omega,by omega,HF,hb'⟩
    case measure=>simp [intOf];omega
  ·have HF:=Qh ((clGo_end (by omega:l.length<=k) dd).symm.trans HI.out)
   clear HI
   go_wp2
   go_ret
   exact⟨by rw [← HF.out];rfl,hb⟩
def CopyTok (x:Tok) (w:World) (e:Ending) (w':World):Prop:=
 ∃ (ao:Option Addr) (c:Nat) (fp:List Nat),e=.returned (.agg #[.int .i64 x.kind,.string x.text,.bool x.spaced,.slice ao x.hidden.length c])/\sTok.R w' [.int .i64 x.kind,.string x.text,.bool x.spaced,.slice ao x.hidden.length c] x fp /\
  Own w' w.heap.size fp/\(∀ b∈fp,∃ cur t fr,w'.heap[b]?=some (.cells cur t fr)/\t=9)/\Below w.heap.size w w'
theorem Zdc (cs:List Value) (x:Tok) (fp:List Nat) (w:World) (hx:x.hidden.length<=2000000) (H:sTok.R w cs x fp):Calls Tryz.prog 81 #[.agg cs.toArray] w (CopyTok x w):=by
 obtain⟨h,rfl,hk,hok,K⟩:=H
 obtain⟨a0,cap0,rfl,-,-,-,hsz⟩:=Zaf K
 have b0:=Zab w (.cells #[.int .i64 x.kind,.string x.text,.bool x.spaced,.slice a0 x.hidden.length cap0] 57)
 have hb2:=b0.trans ((Zab (w.alloc (.cells #[.int .i64 x.kind,.string x.text,.bool x.spaced,.slice a0 x.hidden.length cap0] 57)) (.cells #[.int .i64 0,.string ⟨#[]⟩,.bool false,.slice none 0 0] 57)).mono b0.size)
 obtain⟨g0,g1⟩:=ZbB w #[.int .i64 x.kind,.string x.text,.bool x.spaced,.slice a0 x.hidden.length cap0] #[.int .i64 0,.string ⟨#[]⟩,.bool false,.slice none 0 0] 57 57
 have hs2:((w.alloc (.cells #[.int .i64 x.kind,.string x.text,.bool x.spaced,.slice a0 x.hidden.length cap0] 57)).alloc (.cells #[.int .i64 0,.string ⟨#[]⟩,.bool false,.slice none 0 0] 57)).heap.size=w.heap.size+2:=by
  show ((w.heap.push _).push _).size=_
  simp
 have HK:=Qh ((Zaa sStr).below K hb2)
 have HSZ:=Qh hsz
 clear K hsz b0
 obtain⟨hv,HV⟩:∃ hv:Value,Hid (hv=Value.slice a0 x.hidden.length cap0):=⟨_,rfl⟩
 go_enter Tryz.func81,Tryz.ntmps81
 go_upto_region 2 with fail
 generalize ((w.alloc (.cells #[.int .i64 x.kind,.string x.text,.bool x.spaced,.slice a0 x.hidden.length cap0] 57)).alloc (.cells #[.int .i64 0,.string ⟨#[]⟩,.bool false,.slice none 0 0] 57))=W3 at *
 have c03:W3.cell? ⟨w.heap.size,3,none⟩=some hv:=by
  rw [HV.out]
  exact Qc 3 g0
 have HKV:Hid ((Zaa sStr).R W3 [hv] x.hidden fp):=by show (Zaa sStr).R _ _ _ _;rw [HV.out];exact HK.out
 have HG:=Qh (And.intro g0 (And.intro g1 hs2))
 have hb4:=Qh hb2
 clear g0 g1 hs2 HK hb2
 go_wp2_with (
  at_builtin
  refine Zbn rfl (.tmp 4) (.tmp 6) rfl W3.heap.size (.slice none 0 0) hv [] x.hidden _ rfl (World.ownsRow_nil _ _ _ _) rfl HKV.out (by simp;omega) (Nat.le_refl _) ?_
  intro v5 w1 hown hgrow
  rw [List.nil_append] at hown
  obtain⟨fp1,R1,O1,hfp⟩:=ZbY (ok:=okStr) hown HSZ.out
  have hs3:=HG.out.2.2
  have hblk:∀ k,k<W3.heap.size->w1.heap[k]?=W3.heap[k]?:=λ k hk=>hgrow.block k hk (by simp [Value.ownBlock])
  have HG1:Hid (w1.heap[w.heap.size]?=some (.cells #[.int .i64 x.kind,.string x.text,.bool x.spaced,.slice a0 x.hidden.length cap0] 57 (0,0))/\w1.heap[w.heap.size+1]?=some (.cells #[.int .i64 0,.string ⟨#[]⟩,.bool false,.slice none 0 0] 57 (0,0))):=
   ⟨(hblk _ (by omega)).trans HG.out.1,(hblk _ (by omega)).trans HG.out.2.1⟩
  have hb:Below w.heap.size w w1:=hb4.out.grown hgrow (by omega) (λ b hb=>by simp [Value.ownBlock] at hb)
  have hty:∀ b∈fp1,∃ cur t fr,w1.heap[b]?=some (.cells cur t fr)/\t=9:=λ b hb'=>by
   have hv:=hfp b hb'
   rcases hown.2 with⟨rfl,_⟩ | ⟨g,cap,cur,rfl,_,hg,_⟩
   ·simp [Value.ownBlock] at hv
   ·simp only [Value.ownBlock,Qi] at hv
    subst hv
    exact⟨_,_,_,hg,rfl⟩
  have hlo:∀ b∈fp1,w.heap.size+2<=b:=λ b hb=>by have:=(O1.2 b hb).1;omega
  have HOW:Hid (Own w1 w.heap.size fp1):=O1.lower (by omega)
  clear HG hblk hgrow hown hfp O1 c03 hb4 HKV hs3
  obtain⟨a1,cap1,rfl,hq⟩:=Zac R1
  clear hq
  have c10:=Qc 0 HG1.out.2
  have c11:=Qc 1 HG1.out.2
  have c12:=Qc 2 HG1.out.2
  have c13:=Qc 3 HG1.out.2
  have c20:=Qc 0 HG1.out.1
  have c21:=Qc 1 HG1.out.1
  have c22:=Qc 2 HG1.out.1
  have c23:=Qc 3 HG1.out.1
  have f10:=Qf 0 HG1.out.2
  have f11:=Qf 1 HG1.out.2
  have f12:=Qf 2 HG1.out.2
  have f13:=Qf 3 HG1.out.2
  have f23:=Qf 3 HG1.out.1
  have hn1:w.heap.size+1∉fp1:=λ hx=>by have:=hlo _ hx;omega
  have hn2:w.heap.size∉fp1:=λ hx=>by have:=hlo _ hx;omega
  have HR:=Qh ((Zaa sStr).setB ((Zaa sStr).setB ((Zaa sStr).setB ((Zaa sStr).setB ((Zaa sStr).setB R1 hn2 3 (.slice a1 x.hidden.length cap1)) hn1 0 (.int .i64 x.kind)) hn1 1 (.string x.text)) hn1 2 (.bool x.spaced)) hn1 3 (.slice a1 x.hidden.length cap1))
  have HOF:=Qh (((((HOW.out.setCell ⟨w.heap.size,3,none⟩ (.slice a1 x.hidden.length cap1)).setCell ⟨w.heap.size+1,0,none⟩ (.int .i64 x.kind)).setCell ⟨w.heap.size+1,1,none⟩ (.string x.text)).setCell ⟨w.heap.size+1,2,none⟩ (.bool x.spaced)).setCell ⟨w.heap.size+1,3,none⟩ (.slice a1 x.hidden.length cap1))
  have HT:Hid (∀ b∈fp1,∃ cur t fr,(((((w1.setCell ⟨w.heap.size,3,none⟩ (.slice a1 x.hidden.length cap1)).setCell ⟨w.heap.size+1,0,none⟩ (.int .i64 x.kind)).setCell ⟨w.heap.size+1,1,none⟩ (.string x.text)).setCell ⟨w.heap.size+1,2,none⟩ (.bool x.spaced)).setCell ⟨w.heap.size+1,3,none⟩ (.slice a1 x.hidden.length cap1)).heap[b]?=some (.cells cur t fr)/\t=9):=λ b hb=>by
   obtain⟨cur,t,fr,q1,q2⟩:=hty b hb
   have e1:b≠w.heap.size+1:=λ e=>hn1 (e ▸ hb)
   have e2:b≠w.heap.size:=λ e=>hn2 (e ▸ hb)
   exact⟨cur,t,fr,Zav (Zav (Zav (Zav (Zav q1 e2 _ _) e1 _ _) e1 _ _) e1 _ _) e1 _ _,q2⟩
  have HB:=Qh (((((hb.setCell (p:=⟨w.heap.size,3,none⟩) (by simp) (.slice a1 x.hidden.length cap1)).setCell (p:=⟨w.heap.size+1,0,none⟩) (by simp) (.int .i64 x.kind)).setCell (p:=⟨w.heap.size+1,1,none⟩) (by simp) (.string x.text)).setCell (p:=⟨w.heap.size+1,2,none⟩) (by simp) (.bool x.spaced)).setCell (p:=⟨w.heap.size+1,3,none⟩) (by simp) (.slice a1 x.hidden.length cap1))
  have HS:=Qh (Zai (Zai (Zai (Zai (Zav HG1.out.2 (by omega:w.heap.size+1≠w.heap.size) 3 (.slice a1 x.hidden.length cap1)) 0 (.int .i64 x.kind)) 1 (.string x.text)) 2 (.bool x.spaced)) 3 (.slice a1 x.hidden.length cap1))
  clear HG1 hty hlo HOW)
 refine bodyPost_ret (results_cell_row rfl _ _ (w.heap.size+1) _ _ _ _ rfl HS.out Tryz.underlying57 rfl (by kernel_rfl)) rfl ?_
 exact⟨a1,cap1,fp1,rfl,⟨_,rfl,hk,hok,HR.out⟩,HOF.out,HT.out,HB.out⟩
end Go.Proofs.YtiaiggjfepoahaaGreat
