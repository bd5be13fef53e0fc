/- Texts that the proof of P stands on, in one file. -/
import Derived.Test.YtiaiggjfepoahaaGreatZP15
import Derived.OwnWalk
import Derived.IntWalk
import Derived.Deep.CutBlock
set_option linter.unusedVariables false
set_option maxHeartbeats 16000000
set_option maxRecDepth 100000
set_option linter.unusedSimpArgs false
/- Of the program: the macro that is used. -/
namespace Go.Proofs.YtiaiggjfepoahaaGreat
open Go.RowKit
theorem Zla {T:List DMacro} {l:List Tok} (h0:0<l.length) (h:findM T l[0]=none):goM T l=none:=by
 cases l with
 | nil=>simp at h0
 | cons t r=>exact goM_none h
theorem Zlb {T:List DMacro} {l:List Tok} (h0:0<l.length) {m:DMacro} (h:findM T l[0]=some m) (hf:m.function=true) (ho:∀ h1:1<l.length,isM l[1] [40]=false):goM T l=none:=by
 cases l with
 | nil=>simp at h0
 |
  cons t r =>
  refine goM_shut h hf ?_
  cases r with
  | nil=>rfl
  | cons u q=>exact ho (by simp)
theorem Zlc {T:List DMacro} {l:List Tok} (h0:0<l.length) {m:DMacro} (h:findM T l[0]=some m) (hf:m.function=true->∃ h1:1<l.length,isM l[1] [40]=true):goM T l=some m:=by
 cases l with
 | nil=>simp at h0
 |
  cons t r =>
  refine goM_some h λ ⟨h1,h2⟩=>?_
  obtain⟨h3,h4⟩:=hf h1
  cases r with
  | nil=>simp at h3
  |
   cons u q =>
   have h5:isM u [40]=true:=h4
   have h6:isM u [40]=false:=h2
   rw [h5] at h6;exact absurd h6 (by simp)
def UsedOf (T:List DMacro) (fpT:List Nat) (l:List Tok) (w:World) (e:Ending) (w':World):Prop:=
 (goM T l=none/\e=.returned (.tuple #[.agg #[.string ⟨#[]⟩,.bool false,.slice none 0 0,.slice none 0 0],.bool false])/\Below w.heap.size w w') \/
 ∃ (m:DMacro) (a2 a3:Option Addr) (c2 c3:Nat) (fp:List Nat),goM T l=some m/\e=.returned (.tuple #[.agg #[.string m.name,.bool m.function,.slice a2 m.params.length c2,.slice a3 m.body.length c3],.bool true]) /\
  sMacro.R w' [.string m.name,.bool m.function,.slice a2 m.params.length c2,.slice a3 m.body.length c3] m fp/\(∀ b∈fp,b∈fpT)/\Below w.heap.size w w'
theorem Y16A1 {g:Prop} (h:g:=by
 obtain⟨z0,z1,z2,z3⟩:=Q4 HX3.out
 have zf0:=Qf 0 HX3.out
 have zf1:=Qf 1 HX3.out
 have zf2:=Qf 2 HX3.out
 have zf3:=Qf 3 HX3.out
 have HS:=Qh (ZaH HX3.out (.string ⟨#[]⟩) (.bool false) (.slice none 0 0) (.slice none 0 0))
 have HB:=Qh (Zay (g:=w.heap.size) hB3 (Nat.le_refl _) (.string ⟨#[]⟩) (.bool false) (.slice none 0 0) (.slice none 0 0))
 unfold set4 at HS HB
 go_wp2
 refine bodyPost_ret (Zap rfl _ _ (w.heap.size) _ _ _ _ rfl HS.out Tryz.underlying70 rfl (by kernel_rfl)) rfl ?_
 exact .inl ⟨HF.out,rfl,HB.out⟩):g:=h
theorem Y16A2 {g:Prop} (h:g:=by
 unfold set4 at HS HB HRM2
 go_wp2
 refine bodyPost_ret (Zap rfl _ _ (w.heap.size) _ _ _ _ rfl HS.out Tryz.underlying70 rfl (by kernel_rfl)) rfl ?_
 exact .inr ⟨M,a2,a3,d2,d3,fm,HF.out,by rw [← HFU.out];rfl,HRM2.out,HFMM.out,HB.out⟩):g:=h
theorem ZiX (vT:Value) (T:List DMacro) (fpT:List Nat) (v:Value) (l:List Tok) (fp:List Nat) (w:World) (hT:tabOk T=true) (h0:0<l.length) (hl:l.length<=1000000) (htx:∀ u∈l,Tx u) (HT:(Zaa sMacro).R w [vT] T fpT) (H:(Zaa sTok).R w [v] l fp) :
  Calls Tryz.prog 79 #[vT,v] w (UsedOf T fpT l w):=by
 have HT0:=Qh HT
 have HLT:=Qh ((Zaa sMacro).lt HT)
 obtain⟨aT,cT,rfl,-,hcm,hrowT⟩:=Zac HT
 unfold maxLen at hcm
 have HROW:Hid (0<T.length->∃ bb ob,aT=some ⟨bb,ob,none⟩):=λ h=>by obtain⟨b,o,-,e,-⟩:=hrowT h;exact⟨b,o,e⟩
 have H0:=H
 obtain⟨al,cl,rfl,hcl,hml,hrow⟩:=Zac H
 unfold maxLen at hml
 obtain⟨bw,ow,-,rfl,-,-,-⟩:=hrow h0
 have b0:=Zab w (.cells #[.string ⟨#[]⟩,.bool false,.slice none 0 0,.slice none 0 0] 70)
 have HX:=Qh (heap_alloc_new w (.cells #[.string ⟨#[]⟩,.bool false,.slice none 0 0,.slice none 0 0] 70))
 obtain⟨xa,xc,xf,c0,c1,c2,c3,xR,hbb,-⟩:=ZaJ H0 h0
 simp only [Nat.zero_mul,Nat.add_zero] at c0 c1 c2 c3
 have HCE:Hid (∀ U:World,Below w.heap.size w U->U.cell? ⟨bw,ow+1,none⟩=some (.string l[0].text)/\U.cell? ⟨bw,ow+3,none⟩=some (.slice xa l[0].hidden.length xc)):=λ U hU=>⟨(hU.cell (p:=⟨bw,ow+1,none⟩) hbb).trans c1,(hU.cell (p:=⟨bw,ow+3,none⟩) hbb).trans c3⟩
 have HHD:Hid (∀ U:World,Below w.heap.size w U->(Zaa sStr).R U [.slice xa l[0].hidden.length xc] l[0].hidden xf):=λ U hU=>ZcV (sTok.below xR hU)
 have HT1:Hid (∀ h1:1<l.length,∀ U:World,Below w.heap.size w U->U.cell? ⟨bw,ow+4+1,none⟩=some (.string l[1].text)):=λ h1 U hU=>by
  obtain⟨ya,yc,yf,-,d1,-,-,-,hbb,-⟩:=ZaJ H0 h1
  simp only [Nat.one_mul] at d1
  exact(hU.cell (p:=⟨bw,ow+4+1,none⟩) hbb).trans d1
 have HTX:=Qh htx
 have HTAB:=Qh hT
 clear HT H H0 hrow hrowT xR c0 c1 c2 c3 htx hT
 go_enter Tryz.func79,Tryz.ntmps79
 go_upto_region 1 with fail
 generalize (w.alloc (.cells #[.string ⟨#[]⟩,.bool false,.slice none 0 0,.slice none 0 0] 70))=W1 at *
 have h0i:(0:Int)<(l.length:Int):=by omega
 obtain⟨c1,c3⟩:=HCE.out W1 b0
 have HPL:=Qh (Zks _ T l[0].text fpT W1 HTAB.out ((Zaa sMacro).below HT0.out b0))
 obtain⟨tx,HTXT⟩:∃ tx:ByteArray,Hid (tx=l[0].text):=⟨_,Qh rfl⟩
 obtain⟨lo,HLO⟩:∃ lo:Nat,Hid (lo=lowAt T l[0].text):=⟨_,Qh rfl⟩
 rw [show lowAt T l[0].text=lo from HLO.out.symm] at HPL
 rw [show l[0].text=tx from HTXT.out.symm] at HPL c1
 cases hin:isIn T tx
 ·rw [hin] at HPL
  have HF:Hid (goM T l=none):=Zla h0 (find_out HTAB.out (by rw [← HTXT.out];exact hin))
  clear hin
  go_wp2_with fail
  refine HPL.out.mono ?_
  rintro e w3 ⟨rfl,hb3⟩
  have HX3:=Qh (mbox HX.out hb3)
  have hB3:=b0.trans (hb3.mono b0.size)
  clear HPL c1 c3
  exact Y16A1
 rw [hin] at HPL
 have HIN:=Qh hin
 clear hin
 go_wp2_with fail
 refine HPL.out.mono ?_
 rintro e w3 ⟨rfl,hb3⟩
 have HX3:=Qh (mbox HX.out hb3)
 have hB3:=b0.trans (hb3.mono b0.size)
 clear HPL c1 c3
 obtain⟨c1,c3⟩:=HCE.out w3 hB3
 rw [show l[0].text=tx from HTXT.out.symm] at c1
 have HCT:=Qh (Zei _ l[0].hidden xf tx w3 (HHD.out w3 hB3))
 rw [tx_has] at HCT
 cases hh:hasN l[0].hidden tx
 rotate_left
 ·rw [hh] at HCT
  have HF:Hid (goM T l=none):=Zla h0 (Zk8 (by rw [← HTXT.out];exact hh))
  clear hh
  go_wp2_with fail
  refine HCT.out.mono ?_
  rintro e w4 ⟨rfl,rfl⟩
  clear HCT c1 c3
  exact Y16A1
 rw [hh] at HCT
 have HFI:=find_at HTAB.out (HTX.out _ (List.getElem_mem h0)) (by rw [← HTXT.out];exact HIN.out) (by rw [← HTXT.out];exact hh)
 rw [show lowAt T l[0].text=lo from HLO.out.symm] at HFI
 obtain⟨hlo,HFD⟩:=HFI
 have HFD':findM T l[0]=some T[lo]:=HFD
 have HFM:=Qh HFD'
 clear hh HFD HFD'
 obtain⟨bb,ob,rfl⟩:=HROW.out (by omega)
 obtain⟨a2,a3,d2,d3,fm,m0,m1,m2,m3,RM,hbm,hfm⟩:=mac_at ((Zaa sMacro).below HT0.out hB3) hlo
 have HRM:=Qh RM
 have HLM:Hid (w.heap.size∉fm):=λ h=>by have:=HLT.out _ (hfm _ h);omega
 have HFMM:=Qh hfm
 generalize hM:T[lo]=M at *
 obtain⟨fu,HFU⟩:∃ fu:Bool,Hid (fu=M.function):=⟨_,Qh rfl⟩
 rw [show M.function=fu from HFU.out.symm] at m1
 have i0:(0:Int)<=(lo:Int):=by omega
 have i1:(lo:Int)<(T.length:Int):=by omega
 clear hM RM hfm
 go_wp2_with fail
 refine HCT.out.mono ?_
 rintro e w4 ⟨rfl,rfl⟩
 clear HCT c1 c3
 cases fu
 rotate_left
 ·by_cases h1:l.length=1
  ·have HF:Hid (goM T l=none):=Zlb h0 HFM.out HFU.out.symm (λ h=>by omega)
   have e1:((l.length:Int)==1)=true:=by simp;omega
   have e2:(l.length:Int)=1:=by omega
   clear h1
   clear m0 m2 m3
   exact Y16A1
  have h1l:1<l.length:=by omega
  have e1:((l.length:Int)==1)=false:=by simp;omega
  have e2:¬ (l.length:Int)=1:=by omega
  have e3:(1:Int)<(l.length:Int):=by omega
  have d1:=HT1.out h1l w4 hB3
  have HO:Hid (isM l[1] [40]=(l[1].text.toList==[40])):=ZgA (HTX.out _ (List.getElem_mem h1l)) (by decide)
  cases ho:(l[1].text.toList==[40])
  ·have HF:Hid (goM T l=none):=Zlb h0 HFM.out HFU.out.symm (λ h=>by rw [HO.out];exact ho)
   have e4:(l[1].text.toList != [40])=true:=by rw [bne,ho];rfl
   clear HO
   clear m0 m2 m3
   exact Y16A1
  have HF:Hid (goM T l=some M):=Zlc h0 HFM.out (λ _=>⟨h1l,by rw [HO.out];exact ho⟩)
  have e4:(l[1].text.toList != [40])=false:=by rw [bne,ho];rfl
  clear HO
  obtain⟨z0,z1,z2,z3⟩:=Q4 HX3.out
  have zf0:=Qf 0 HX3.out
  have zf1:=Qf 1 HX3.out
  have zf2:=Qf 2 HX3.out
  have zf3:=Qf 3 HX3.out
  have HS:=Qh (ZaH HX3.out (.string M.name) (.bool true) (.slice a2 M.params.length d2) (.slice a3 M.body.length d3))
  have HB:=Qh (Zay (g:=w.heap.size) hB3 (Nat.le_refl _) (.string M.name) (.bool true) (.slice a2 M.params.length d2) (.slice a3 M.body.length d3))
  have HRM2:=Qh (sMacro.set4R HRM.out HLM.out (.string M.name) (.bool true) (.slice a2 M.params.length d2) (.slice a3 M.body.length d3))
  exact Y16A2
 have HF:Hid (goM T l=some M):=Zlc h0 HFM.out (λ h=>by rw [← HFU.out] at h;exact absurd h (by simp))
 obtain⟨z0,z1,z2,z3⟩:=Q4 HX3.out
 have zf0:=Qf 0 HX3.out
 have zf1:=Qf 1 HX3.out
 have zf2:=Qf 2 HX3.out
 have zf3:=Qf 3 HX3.out
 have HS:=Qh (ZaH HX3.out (.string M.name) (.bool false) (.slice a2 M.params.length d2) (.slice a3 M.body.length d3))
 have HB:=Qh (Zay (g:=w.heap.size) hB3 (Nat.le_refl _) (.string M.name) (.bool false) (.slice a2 M.params.length d2) (.slice a3 M.body.length d3))
 have HRM2:=Qh (sMacro.set4R HRM.out HLM.out (.string M.name) (.bool false) (.slice a2 M.params.length d2) (.slice a3 M.body.length d3))
 exact Y16A2
theorem ZfC (n:ByteArray):∀ l:List ByteArray,(ins l n).length<=l.length+1
 | []=>by simp [ins]
 |
  x::r=>by
  have:=ZfC n r
  unfold ins
  split
  ·simp;omega
  ·split <;> simp
theorem Zij:∀ (b a:List ByteArray),(Zbc a b).length<=a.length+b.length
 | [],a=>by simp [Zbc]
 |
  x::r,a=>by
  have h1:=Zij r (ins a x)
  have h2:=ZfC x a
  show (Zbc (ins a x) r).length<=_
  rw [List.length_cons];omega
theorem Zm1 {a h:List ByteArray} {i:Nat} (hi:i<h.length):Zbc a (h.take (i+1))=ins (Zbc a (h.take i)) h[i]:=by
 unfold Zbc
 rw [List.take_succ_eq_append_getElem hi,List.foldl_append]
 rfl
def HidOf (h:List ByteArray) (l:List Tok) (fp:List Nat) (w:World) (e:Ending) (w':World):Prop:=
 ∃ (v:Value) (L:List (Elem Tok)),e=.returned v/\RowN sTok w.heap.size 57 v L w'/\L.map (·.d)=l.map (putT h)/\(∀ x∈L,∀ b∈x.fp,b∈fp\/w.heap.size<=b)/\Below w.heap.size w w'
theorem ZiY (v:Value) (l:List Tok) (fp:List Nat) (vh:Value) (h:List ByteArray) (fph:List Nat) (w:World) (hl:l.length<=100000) (hu:∀ t∈l,Up t.hidden) (hh:∀ t∈l,t.hidden.length<=100000) (hhl:h.length<=100000) (H:(Zaa sTok).R w [v] l fp) (HH:(Zaa sStr).R w [vh] h fph) :
  Calls Tryz.prog 129 #[v,vh] w (HidOf h l fp w):=by
 have HLT:=Qh ((Zaa sTok).lt H)
 have H0:=Qh H
 obtain⟨al,cl,rfl,hcl,hml,hrow⟩:=Zac H
 unfold maxLen at hml
 obtain⟨ah,ch,rfl,hch,hmh,hrowh,hszh⟩:=Zaf HH
 unfold maxLen at hmh
 have HSZ:=Qh hszh
 have HU:=Qh hu
 have HHL:=Qh hh
 clear H HH hszh hu hh
 go_enter Tryz.func129,Tryz.ntmps129
 go_wp2
 go_loopw [5,12] (λ vo i wr=>∃ (k:Nat) (L:List (Elem Tok)),k<=l.length/\i=.int .i64 k/\Hid (L.map (·.d)=(l.take k).map (putT h))/\Hid (RowN sTok w.heap.size 57 vo L wr)/\Hid (∀ x∈L,∀ b∈x.fp,b∈fp\/w.heap.size<=b)/\Below w.heap.size w wr) (λ _ i _=>l.length-(intOf i).toNat)
 case atStart=>exact⟨0,[],by omega,rfl,rfl,RowN.nil _ _ _ _,(λ x hx=>by simp at hx),Below.refl _ _⟩
 case round =>
  obtain⟨k,L,hk,rfl,HD,HR,HF0,hb⟩:=hrel
  have hLk:L.length=k:=by have:=congrArg List.length HD.out;rw [List.length_map,List.length_map,List.length_take] at this;omega
  have HLK:=Qh hLk
  obtain⟨ao,co,hvo,-⟩:=HR.out.val
  rw [hLk] at hvo
  subst hvo
  clear hLk
  by_cases hlt:k<l.length
  ·obtain⟨b1,o1,-,rfl,-,-,-⟩:=hrow (by omega)
   obtain⟨xa,xc,xf,x0,x1,x2,x3,xR,hbb,hxf⟩:=ZaJ H0.out hlt
   replace x0:=(hb.cell (p:=⟨b1,o1+k * 4,none⟩) hbb).trans x0
   replace x1:=(hb.cell (p:=⟨b1,o1+k * 4+1,none⟩) hbb).trans x1
   replace x2:=(hb.cell (p:=⟨b1,o1+k * 4+2,none⟩) hbb).trans x2
   replace x3:=(hb.cell (p:=⟨b1,o1+k * 4+3,none⟩) hbb).trans x3
   have XR:=Qh (sTok.below xR hb)
   have HXF:=Qh hxf
   have bx:=Zab wr (.cells #[.int .i64 l[k].kind,.string l[k].text,.bool l[k].spaced,.slice xa l[k].hidden.length xc] 57)
   have HX2:=Qh (heap_alloc_new wr (.cells #[.int .i64 l[k].kind,.string l[k].text,.bool l[k].spaced,.slice xa l[k].hidden.length xc] 57))
   have HHK:=HHL.out _ (List.getElem_mem hlt)
   have HUK:=Qh (HU.out _ (List.getElem_mem hlt))
   clear xR hrow hxf
   go_upto_region 5 with fail
   clear x0 x1 x2 x3
   have hszo:=hb.size
   generalize hW2:(wr.alloc (.cells #[.int .i64 l[k].kind,.string l[k].text,.bool l[k].spaced,.slice xa l[k].hidden.length xc] 57))=W2 at *
   clear hW2
   obtain⟨g,HG⟩:∃ g:Nat,Hid (g=wr.heap.size):=⟨_,Qh rfl⟩
   rw [show wr.heap.size=g from HG.out.symm] at HX2 bx hszo ⊢
   have HFLT:=HLT
   have HXIN:Hid (∀ b∈xf,b∈fp):=HXF.out
   have HBW:=Qh hb
   have HXFL:Hid (∀ b∈xf,b<w.heap.size):=λ b hb'=>HLT.out b (HXF.out b hb')
   have HKR:Hid ((Zaa sStr).R W2 [.slice xa l[k].hidden.length xc] l[k].hidden xf):=by
    have:=sTok.below XR.out (by rw [← HG.out];exact bx:Below wr.heap.size wr W2)
    exact ZcV this
   obtain⟨-,-,okk,oks,-⟩:=XR.out
   have HOKK:=Qh okk
   have HOKS:=Qh oks
   have HRO:=Qh (λ (U:World) (hU:Below g wr U)=>HR.out.below (by rw [← HG.out];exact hU))
   have HMI:=Qh HR.out.mine
   have hbo:=Qh (λ (U:World) (hU:Below g wr U)=>hb.trans (hU.mono hszo))
   obtain⟨tk,HTK⟩:∃ tk:Tok,Hid (tk=l[k]):=⟨_,Qh rfl⟩
   rw [show l[k]=tk from HTK.out.symm] at HX2 HHK HUK HKR HOKK HOKS
   clear okk oks XR HR hb HLT HXF
   obtain⟨wo,hwo⟩:∃ x:World,x=wr:=⟨_,rfl⟩
   subst hwo
   obtain⟨N0,HN0⟩:∃ N:Nat,Hid (N=tk.hidden.length):=⟨_,Qh rfl⟩
   rw [show tk.hidden.length=N0 from HN0.out.symm] at HX2 HKR
   go_wp2
   go_loopw [18] (λ j wr=>∃ (i N:Nat) (hd:Option Addr) (c:Nat) (fj:List Nat),i<=h.length/\j=.int .i64 i/\Hid (N=(Zbc tk.hidden (h.take i)).length)/\Hid (wr.heap[g]?=some (.cells #[.int .i64 tk.kind,.string tk.text,.bool tk.spaced,.slice hd N c] 57 (0,0)))/\Hid ((Zaa sStr).R wr [.slice hd N c] (Zbc tk.hidden (h.take i)) fj)/\Hid (∀ b∈fj,b∈fp\/g<b)/\Hid (g∉fj)/\Below g wo wr) (λ j _=>h.length-(intOf j).toNat)
   case atStart=>exact⟨0,N0,xa,xc,xf,by omega,rfl,HN0.out,HX2.out,HKR.out,(λ b hb'=>.inl (HXIN.out b hb')),(λ hx=>by have:=HXFL.out _ hx;omega),bx⟩
   case round =>
    clear HX2 HKR bx
    obtain⟨i,N,hd,c,fj,hi,rfl,HN,HBX,HJR,HJF,HGJ,hbj⟩:=hrel
    by_cases hlti:i<h.length
    ·obtain⟨b2,o2,rfl,hb2,-,hcell⟩:=hrowh (by omega)
     have y0:=(hbj.cell (p:=⟨b2,o2+i,none⟩) (show b2<g by omega)).trans ((HBW.out.cell (p:=⟨b2,o2+i,none⟩) hb2).trans (hcell i hlti))
     have p3:=Qc 3 HBX.out
     have hul:=Zij (h.take i) tk.hidden
     rw [List.length_take] at hul
     have HWN:=Qh (ZdV (.slice hd N c) (Zbc tk.hidden (h.take i)) h[i] fj wr (Zhn HUK.out) (by omega) (HSZ.out i hlti) HJR.out)
     rw [← Zm1 hlti] at HWN
     have i0:(0:Int)<=(i:Int):=by omega
     have i1:(i:Int)<(h.length:Int):=by omega
     have hgl:g<wr.heap.size:=mlt HBX.out
     clear hcell hul
     go_wp2_with fail
     refine HWN.out.mono ?_
     rintro e w3 ⟨a3,c3,f3,rfl,R3,O3,-,hb3⟩
     have HX3:=Qh (mbox HBX.out hb3)
     have HB3:=Qh (hbj.trans (hb3.mono (Nat.le_of_lt hgl)))
     have hlo3:∀ b∈f3,wr.heap.size<=b:=λ b hb=>(O3.2 b hb).1
     have hn3:g∉f3:=λ hx=>by have:=hlo3 g hx;omega
     obtain⟨N3,HN3⟩:∃ N3:Nat,Hid (N3=(Zbc tk.hidden (h.take (i+1))).length):=⟨_,Qh rfl⟩
     rw [show (Zbc tk.hidden (h.take (i+1))).length=N3 from HN3.out.symm] at R3 ⊢
     have q3:=Qc 3 HX3.out
     have xz3:=Qf 3 HX3.out
     have HX4:=Qh (Zah HX3.out 3 (.slice a3 N3 c3))
     have HR4:=Qh ((Zaa sStr).setB R3 hn3 3 (.slice a3 N3 c3))
     have HB4:=Qh (HB3.out.setCell (p:=⟨g,3,none⟩) (Nat.le_refl _) (.slice a3 N3 c3))
     have HF4:Hid (∀ b∈f3,b∈fp\/g<b):=λ b hb=>.inr (by have:=hlo3 b hb;omega)
     have HG4:=Qh hn3
     clear HWN HBX HJR HJF hb3 R3 O3 hlo3 hn3 y0 p3
     go_wp2
     go_roundw
     case rel=>exact⟨i+1,N3,a3,c3,f3,by omega,by go_num,HN3.out,HX4.out,HR4.out,HF4.out,HG4.out,HB4.out⟩
     case measure=>simp [intOf];omega
    ·have hih:i=h.length:=by omega
     have HUN:Hid (Zbc tk.hidden (h.take i)=Zbc tk.hidden h):=by show _=_;rw [List.take_of_length_le (by omega)]
     rw [show Zbc tk.hidden (h.take i)=Zbc tk.hidden h from HUN.out] at HJR
     clear hih
     obtain⟨p0,p1,p2,p3⟩:=Q4 HBX.out
     have bl:=Zab wr (.cells #[.int .i64 tk.kind,.string tk.text,.bool tk.spaced,.slice hd N c] 57)
     have HL4:=Qh (heap_alloc_new wr (.cells #[.int .i64 tk.kind,.string tk.text,.bool tk.spaced,.slice hd N c] 57))
     have hb14:Below w.heap.size w (wr.alloc (.cells #[.int .i64 tk.kind,.string tk.text,.bool tk.spaced,.slice hd N c] 57)):=hbo.out _ (hbj.trans (bl.mono (Nat.le_of_lt (mlt HBX.out))))
     have HNL:Hid (N=(Zbc tk.hidden h).length):=by show _=_;rw [HN.out,HUN.out]
     have RX:Hid (sTok.R (wr.alloc (.cells #[.int .i64 tk.kind,.string tk.text,.bool tk.spaced,.slice hd N c] 57)) [.int .i64 tk.kind,.string tk.text,.bool tk.spaced,.slice hd N c] (putT h tk) fj):=⟨_,rfl,HOKK.out,HOKS.out,(Zaa sStr).below HJR.out bl⟩
     have HR4:=Qh (HRO.out _ (hbj.trans (bl.mono (Nat.le_of_lt (mlt HBX.out)))))
     have HXN:Hid (∀ b∈fj,(Value.slice ao k co).ownBlock≠some b):=λ b hb h=>by
      have h1:=HMI.out b h
      rcases HJF.out b hb with h2 | h2
      ·have:=HFLT.out b h2;omega
      ·have:=HG.out;omega
     clear bl HJR HN HUN HBX hbj
     go_wp2_with (at_builtin;refine ZaG (X:=[(⟨[.int .i64 tk.kind,.string tk.text,.bool tk.spaced,.slice hd N c],putT h tk,fj⟩:Elem Tok)]) ti_tok rfl (by decide) _ rfl (.tmp 28) (.tmp 30) rfl w.heap.size (.slice ao k co) rfl HR4.out ⟨wr.heap.size,0,none⟩ 1 1 rfl rfl (λ x hx=>by obtain rfl:=Qm hx;exact⟨rfl,RX.out,HXN.out⟩) (λ x hx=>by obtain rfl:=Qm hx;exact ZaE _ _ _ _ RX.out) (λ j u hj=>by rw [ZaI,Nat.zero_add,cell_of_row _ _ _ _ _ _ HL4.out];simpa using hj) (by have:=HLK.out;unfold maxLen;omega) (by have:=HLK.out;omega) hb14.size ?_;intro v5 w5 hR5 hg5 hp5)
     have hb5:Below w.heap.size w w5:=hb14.grown hg5 hb14.size (λ b hb=>(HMI.out b hb).1)
     have HF5:Hid (∀ x∈L++[(⟨[.int .i64 tk.kind,.string tk.text,.bool tk.spaced,.slice hd N c],putT h tk,fj⟩:Elem Tok)],∀ b∈x.fp,b∈fp\/w.heap.size<=b):=λ x hx b hb'=>by
      rcases Qa hx with hx | hx
      ·exact HF0.out x hx b hb'
      ·rw [Qm hx] at hb'
       exact(HJF.out b hb').imp id λ h=>by omega
     have HD5:Hid ((L++[(⟨[.int .i64 tk.kind,.string tk.text,.bool tk.spaced,.slice hd N c],putT h tk,fj⟩:Elem Tok)]).map (·.d)=(l.take (k+1)).map (putT h)):=by
      show _=_
      rw [List.map_append,HD.out,List.take_succ_eq_append_getElem hlt,List.map_append,HTK.out];rfl
     have HR5:=Qh hR5
     clear hR5 hg5 hp5
     go_wp2
     go_roundw
     case rel=>exact⟨k+1,_,by omega,by go_num,HD5,HR5,HF5,hb5⟩
     case measure=>simp [intOf];omega
  ·have hkl:k=l.length:=by omega
   have HF:Hid (L.map (·.d)=l.map (putT h)):=by show _=_;rw [HD.out,List.take_of_length_le (by omega)]
   go_wp2
   go_ret
   exact⟨_,L,rfl,HR.out,HF.out,HF0.out,hb⟩
theorem RowE.same2 {α:Type} {S:Shape α} {base:Nat} {e:TypeId} {v:Value} {L:List (Elem α)} {w w':World} (h:RowE S base e v L w) (hv:∀ g,v.ownBlock=some g->w'.heap[g]?=w.heap[g]?) (hb:∀ x∈L,∀ b∈x.fp,w'.heap[b]?=w.heap[b]?):RowE S base e v L w' where
 row:=Zba h.row hv
 len:=h.len
 el:=λ x hx=>S.frame (λ b hb'=>hb x hx b hb') (h.el x hx)
 lo:=h.lo
 ty:=λ x hx b hb'=>by
  obtain⟨cur,t,fr,h1,h2⟩:=h.ty x hx b hb'
  exact⟨cur,t,fr,(hb x hx b hb').trans h1,h2⟩
structure SplSt (B0 B1:Nat) (va vm:Value) (A:List (Elem (List Tok))) (M:List (Elem Tok)) (w:World):Prop where
 e:RowE sToks B0 28 va A w
 b:∀ g,va.ownBlock=some g->B1<=g
 g:∃ top,RowG sTok top 57 vm M w/\B1<=top/\top<=w.heap.size/\∀ x∈A,∀ b∈x.fp,b<top
 m:∀ x∈M,∀ b∈x.fp,B0<=b/\b<B1
 t:∀ x∈M,TokTy w x.fp
theorem SplSt.below {B0 B1:Nat} {va vm:Value} {A:List (Elem (List Tok))} {M:List (Elem Tok)} {w w':World} (h:SplSt B0 B1 va vm A M w) (hb:Below w.heap.size w w'):SplSt B0 B1 va vm A M w':=by
 obtain⟨top,g1,g2,g3,g4⟩:=h.g
 exact⟨h.e.below hb,h.b,⟨top,g1.below hb,g2,Nat.le_trans g3 hb.size,g4⟩,h.m,λ x hx=>(h.t x hx).below hb⟩
theorem SplSt.next {B0 B1:Nat} {va':Value} {A':List (Elem (List Tok))} {w':World} (hE:RowE sToks B0 28 va' A' w') (hv:∀ g,va'.ownBlock=some g->B1<=g) (hB:B1<=w'.heap.size):SplSt B0 B1 va' (.slice (some ⟨w'.heap.size,0,none⟩) 0 0) A' [] (w'.alloc (.cells #[] 57)):=
 ⟨hE.below (Zab _ _),hv,⟨w'.heap.size,RowG.lit0 sTok 57 w',hB,by show _<=(w'.heap.push _).size;simp,λ x hx b hb=>sToks.lt (hE.el x hx) b hb⟩,by simp,by simp⟩
theorem Zgm (cs:List Value) (x:Tok) (fp:List Nat) (w:World) (H:sTok.R w cs x fp) :
  Calls Tryz.prog 147 #[.agg cs.toArray] w λ e w'=>e=.returned (.int .i64 (opn x))/\Below w.heap.size w w':=by
 obtain⟨h,rfl,hk,hok,K⟩:=H
 obtain⟨a0,cap0,rfl,-⟩:=Zaf K
 have hb:=Zab w (.cells #[.int .i64 x.kind,.string x.text,.bool x.spaced,.slice a0 x.hidden.length cap0] 57)
 clear K
 go_enter Tryz.func147,Tryz.ntmps147
 cases h1:Zcs x
 ·have e1:(x.text.toList==[40])=false:=h1
  cases h2:Zen x
  ·have e2:(x.text.toList==[41])=false:=h2
   have HF:=Qh (opn_else h1 h2)
   clear h1 h2
   go_wp2
   go_ret
   exact⟨by rw [HF.out];rfl,hb⟩
  ·have e2:(x.text.toList==[41])=true:=h2
   have HF:=Qh (opn_shut h1 h2)
   clear h1 h2
   go_wp2
   go_ret
   exact⟨by rw [HF.out];rfl,hb⟩
 ·have e1:(x.text.toList==[40])=true:=h1
  have HF:=Qh (ZkN h1)
  clear h1
  go_wp2
  go_ret
  exact⟨by rw [HF.out];rfl,hb⟩
theorem ZjO {l:List Tok} {k:Nat} (hk:k<l.length) (d:Int):clGo (l.drop k) d k=if d+opn l[k]=0 then some k else clGo (l.drop (k+1)) (d+opn l[k]) (k+1):=by
 rw [List.drop_eq_getElem_cons hk];rfl
theorem clGo_end {l:List Tok} {k:Nat} (hk:l.length<=k) (d:Int):clGo (l.drop k) d k=none:=by rw [List.drop_of_length_le hk];rfl
def clRes (o:Option Nat):Int:=match o with | some e=>(e:Int) | none=>-1
theorem ZgI (v:Value) (l:List Tok) (fp:List Nat) (n:Nat) (w:World) (hl:l.length<=60) (hn:n<=l.length) (H:(Zaa sTok).R w [v] l fp) :
  Calls Tryz.prog 136 #[v,.int .i64 n] w λ e w'=>e=.returned (.int .i64 (clRes (clGo (l.drop n) 0 n)))/\Below w.heap.size w w':=by
 obtain⟨a,cap,rfl,hc,hm,hrow⟩:=Zac H
 unfold maxLen at hm
 clear H
 obtain⟨r,HR⟩:∃ r,Hid (r=clGo (l.drop n) 0 n):=⟨_,rfl⟩
 rw [← HR.out]
 go_enter Tryz.func136,Tryz.ntmps136
 go_wp2
 go_loopw [5,6] (λ d i wr=>∃ (k:Nat) (dd:Int),n<=k/\k<=l.length/\i=.int .i64 k/\d=.int .i64 dd/\-(k:Int)<=dd/\dd<=k/\Hid (clGo (l.drop k) dd k=r)/\Below w.heap.size w wr) (λ _ i _=>l.length-(intOf i).toNat)
 case atStart=>exact⟨n,0,Nat.le_refl _,hn,rfl,rfl,by omega,by omega,HR.out.symm,Below.refl _ _⟩
 case round =>
  obtain⟨k,dd,hnk,hk,rfl,rfl,hd1,hd2,HI,hb⟩:=hrel
  by_cases hlt:k<l.length
  ·obtain⟨b1,off1,fps1,rfl,hb1,-,he1⟩:=hrow (by omega)
   obtain⟨es1,hE1,hR1⟩:=he1 k hlt
   clear hrow he1
   have hR2:=sTok.below hR1 hb
   obtain⟨h1',rfl,_,_,_⟩:=hR1
   have HC:=Qh (Zgm _ _ _ wr hR2)
   clear hR2
   replace hE1:=hE1.frame (hb.block b1 hb1)
   have c10:wr.cell? ⟨b1,off1+k * 4,none⟩=some _:=Zao hE1 (by decide) rfl
   have c11:wr.cell? ⟨b1,off1+k * 4+1,none⟩=some _:=Zae (j:=1) hE1 (by decide) rfl
   have c12:wr.cell? ⟨b1,off1+k * 4+2,none⟩=some _:=Zae (j:=2) hE1 (by decide) rfl
   have c13:wr.cell? ⟨b1,off1+k * 4+3,none⟩=some _:=Zae (j:=3) hE1 (by decide) rfl
   clear hE1
   have hst:=HI.out
   rw [ZjO hlt] at hst
   have ho:=opn_ge l[k]
   have hwr:IntKind.i64.wrap (dd+opn l[k])=dd+opn l[k]:=IntWalk.i64_in _ (by omega)
   generalize hon:opn l[k]=on at *
   go_wp2_with fail
   refine HC.out.mono ?_
   rintro e w2 ⟨rfl,hb2⟩
   clear c10 c11 c12 c13 HC
   have hb':=hb.trans (hb2.mono hb.size)
   by_cases h0:dd+on=0
   ·rw [if_pos h0] at hst
    have e0:((dd+on:Int)==0)=true:=by simpa using h0
    have HF:=Qh hst
    clear hst h0 hon
    go_wp2
    go_ret
    exact⟨by rw [← HF.out];rfl,hb'⟩
   ·rw [if_neg h0] at hst
    have e0:((dd+on:Int)==0)=false:=by simpa using h0
    have HF:=Qh hst
    clear hst h0 hon
    go_wp2
    go_roundw
    case rel=>exact⟨k+1,dd+on,by omega,by omega,by go_num,rfl,by omega,by omega,HF,hb'⟩
    case measure=>simp [intOf];omega
  ·have HF:=Qh ((clGo_end (by omega:l.length<=k) dd).symm.trans HI.out)
   clear HI
   go_wp2
   go_ret
   exact⟨by rw [← HF.out];rfl,hb⟩
def CopyTok (x:Tok) (w:World) (e:Ending) (w':World):Prop:=
 ∃ (ao:Option Addr) (c:Nat) (fp:List Nat),e=.returned (.agg #[.int .i64 x.kind,.string x.text,.bool x.spaced,.slice ao x.hidden.length c])/\sTok.R w' [.int .i64 x.kind,.string x.text,.bool x.spaced,.slice ao x.hidden.length c] x fp /\
  Own w' w.heap.size fp/\(∀ b∈fp,∃ cur t fr,w'.heap[b]?=some (.cells cur t fr)/\t=9)/\Below w.heap.size w w'
theorem ZdA (cs:List Value) (x:Tok) (fp:List Nat) (w:World) (hx:x.hidden.length<=2000000) (H:sTok.R w cs x fp):Calls Tryz.prog 81 #[.agg cs.toArray] w (CopyTok x w):=by
 obtain⟨h,rfl,hk,hok,K⟩:=H
 obtain⟨a0,cap0,rfl,-,-,-,hsz⟩:=Zaf K
 have b0:=Zab w (.cells #[.int .i64 x.kind,.string x.text,.bool x.spaced,.slice a0 x.hidden.length cap0] 57)
 have hb2:=b0.trans ((Zab (w.alloc (.cells #[.int .i64 x.kind,.string x.text,.bool x.spaced,.slice a0 x.hidden.length cap0] 57)) (.cells #[.int .i64 0,.string ⟨#[]⟩,.bool false,.slice none 0 0] 57)).mono b0.size)
 obtain⟨g0,g1⟩:=ZbI w #[.int .i64 x.kind,.string x.text,.bool x.spaced,.slice a0 x.hidden.length cap0] #[.int .i64 0,.string ⟨#[]⟩,.bool false,.slice none 0 0] 57 57
 have hs2:((w.alloc (.cells #[.int .i64 x.kind,.string x.text,.bool x.spaced,.slice a0 x.hidden.length cap0] 57)).alloc (.cells #[.int .i64 0,.string ⟨#[]⟩,.bool false,.slice none 0 0] 57)).heap.size=w.heap.size+2:=by
  show ((w.heap.push _).push _).size=_
  simp
 have HK:=Qh ((Zaa sStr).below K hb2)
 have HSZ:=Qh hsz
 clear K hsz b0
 obtain⟨hv,HV⟩:∃ hv:Value,Hid (hv=Value.slice a0 x.hidden.length cap0):=⟨_,rfl⟩
 go_enter Tryz.func81,Tryz.ntmps81
 go_upto_region 2 with fail
 generalize ((w.alloc (.cells #[.int .i64 x.kind,.string x.text,.bool x.spaced,.slice a0 x.hidden.length cap0] 57)).alloc (.cells #[.int .i64 0,.string ⟨#[]⟩,.bool false,.slice none 0 0] 57))=W3 at *
 have c03:W3.cell? ⟨w.heap.size,3,none⟩=some hv:=by
  rw [HV.out]
  exact Qc 3 g0
 have HKV:Hid ((Zaa sStr).R W3 [hv] x.hidden fp):=by show (Zaa sStr).R _ _ _ _;rw [HV.out];exact HK.out
 have HG:=Qh (And.intro g0 (And.intro g1 hs2))
 have hb4:=Qh hb2
 clear g0 g1 hs2 HK hb2
 go_wp2_with (
  at_builtin
  refine Zbb rfl (.tmp 4) (.tmp 6) rfl W3.heap.size (.slice none 0 0) hv [] x.hidden _ rfl (World.ownsRow_nil _ _ _ _) rfl HKV.out (by simp;omega) (Nat.le_refl _) ?_
  intro v5 w1 hown hgrow
  rw [List.nil_append] at hown
  obtain⟨fp1,R1,O1,hfp⟩:=Za6 (ok:=okStr) hown HSZ.out
  have hs3:=HG.out.2.2
  have hblk:∀ k,k<W3.heap.size->w1.heap[k]?=W3.heap[k]?:=λ k hk=>hgrow.block k hk (by simp [Value.ownBlock])
  have HG1:Hid (w1.heap[w.heap.size]?=some (.cells #[.int .i64 x.kind,.string x.text,.bool x.spaced,.slice a0 x.hidden.length cap0] 57 (0,0))/\w1.heap[w.heap.size+1]?=some (.cells #[.int .i64 0,.string ⟨#[]⟩,.bool false,.slice none 0 0] 57 (0,0))):=
   ⟨(hblk _ (by omega)).trans HG.out.1,(hblk _ (by omega)).trans HG.out.2.1⟩
  have hb:Below w.heap.size w w1:=hb4.out.grown hgrow (by omega) (λ b hb=>by simp [Value.ownBlock] at hb)
  have hty:∀ b∈fp1,∃ cur t fr,w1.heap[b]?=some (.cells cur t fr)/\t=9:=λ b hb'=>by
   have hv:=hfp b hb'
   rcases hown.2 with⟨rfl,_⟩ | ⟨g,cap,cur,rfl,_,hg,_⟩
   ·simp [Value.ownBlock] at hv
   ·simp only [Value.ownBlock,Qi] at hv
    subst hv
    exact⟨_,_,_,hg,rfl⟩
  have hlo:∀ b∈fp1,w.heap.size+2<=b:=λ b hb=>by have:=(O1.2 b hb).1;omega
  have HOW:Hid (Own w1 w.heap.size fp1):=O1.lower (by omega)
  clear HG hblk hgrow hown hfp O1 c03 hb4 HKV hs3
  obtain⟨a1,cap1,rfl,hq⟩:=Zac R1
  clear hq
  have c10:=Qc 0 HG1.out.2
  have c11:=Qc 1 HG1.out.2
  have c12:=Qc 2 HG1.out.2
  have c13:=Qc 3 HG1.out.2
  have c20:=Qc 0 HG1.out.1
  have c21:=Qc 1 HG1.out.1
  have c22:=Qc 2 HG1.out.1
  have c23:=Qc 3 HG1.out.1
  have f10:=Qf 0 HG1.out.2
  have f11:=Qf 1 HG1.out.2
  have f12:=Qf 2 HG1.out.2
  have f13:=Qf 3 HG1.out.2
  have f23:=Qf 3 HG1.out.1
  have hn1:w.heap.size+1∉fp1:=λ hx=>by have:=hlo _ hx;omega
  have hn2:w.heap.size∉fp1:=λ hx=>by have:=hlo _ hx;omega
  have HR:=Qh ((Zaa sStr).setB ((Zaa sStr).setB ((Zaa sStr).setB ((Zaa sStr).setB ((Zaa sStr).setB R1 hn2 3 (.slice a1 x.hidden.length cap1)) hn1 0 (.int .i64 x.kind)) hn1 1 (.string x.text)) hn1 2 (.bool x.spaced)) hn1 3 (.slice a1 x.hidden.length cap1))
  have HOF:=Qh (((((HOW.out.setCell ⟨w.heap.size,3,none⟩ (.slice a1 x.hidden.length cap1)).setCell ⟨w.heap.size+1,0,none⟩ (.int .i64 x.kind)).setCell ⟨w.heap.size+1,1,none⟩ (.string x.text)).setCell ⟨w.heap.size+1,2,none⟩ (.bool x.spaced)).setCell ⟨w.heap.size+1,3,none⟩ (.slice a1 x.hidden.length cap1))
  have HT:Hid (∀ b∈fp1,∃ cur t fr,(((((w1.setCell ⟨w.heap.size,3,none⟩ (.slice a1 x.hidden.length cap1)).setCell ⟨w.heap.size+1,0,none⟩ (.int .i64 x.kind)).setCell ⟨w.heap.size+1,1,none⟩ (.string x.text)).setCell ⟨w.heap.size+1,2,none⟩ (.bool x.spaced)).setCell ⟨w.heap.size+1,3,none⟩ (.slice a1 x.hidden.length cap1)).heap[b]?=some (.cells cur t fr)/\t=9):=λ b hb=>by
   obtain⟨cur,t,fr,q1,q2⟩:=hty b hb
   have e1:b≠w.heap.size+1:=λ e=>hn1 (e ▸ hb)
   have e2:b≠w.heap.size:=λ e=>hn2 (e ▸ hb)
   exact⟨cur,t,fr,Zaw (Zaw (Zaw (Zaw (Zaw q1 e2 _ _) e1 _ _) e1 _ _) e1 _ _) e1 _ _,q2⟩
  have HB:=Qh (((((hb.setCell (p:=⟨w.heap.size,3,none⟩) (by simp) (.slice a1 x.hidden.length cap1)).setCell (p:=⟨w.heap.size+1,0,none⟩) (by simp) (.int .i64 x.kind)).setCell (p:=⟨w.heap.size+1,1,none⟩) (by simp) (.string x.text)).setCell (p:=⟨w.heap.size+1,2,none⟩) (by simp) (.bool x.spaced)).setCell (p:=⟨w.heap.size+1,3,none⟩) (by simp) (.slice a1 x.hidden.length cap1))
  have HS:=Qh (Zah (Zah (Zah (Zah (Zaw HG1.out.2 (by omega:w.heap.size+1≠w.heap.size) 3 (.slice a1 x.hidden.length cap1)) 0 (.int .i64 x.kind)) 1 (.string x.text)) 2 (.bool x.spaced)) 3 (.slice a1 x.hidden.length cap1))
  clear HG1 hty hlo HOW)
 refine bodyPost_ret (results_cell_row rfl _ _ (w.heap.size+1) _ _ _ _ rfl HS.out Tryz.underlying57 rfl (by kernel_rfl)) rfl ?_
 exact⟨a1,cap1,fp1,rfl,⟨_,rfl,hk,hok,HR.out⟩,HOF.out,HT.out,HB.out⟩
theorem ZcN {α:Type} {S:Shape α} {P:Program} {t e:TypeId} {z:Value} {bytes:Nat} (ti:TI P t e z S.m bytes) (hzs:z.cells.size=S.m) (h0:0<S.m) (w:World) {L X:List (Elem α)} {ops:Array Oper} {o:Oper} {a:Act} {K:Act->World->Prop} {Q:Exit->Act->World->Prop} {E:Prop}
  (d:Nat) (hdst:o.dst=some d) (hg:o.guard=none) (s y:Operand) (ho:o.op=.call { callee:=.builtin .append,args:=#[s,y],argTypes:=#[t,t] })
  (base:Nat) (v:Value) (hs:a.eval s=v) (hown:RowE S base e v L w) (g m c:Nat) (hy:a.eval y=.slice (some ⟨g,0,none⟩) m c) (hm:X.length=m)
  (hlen:∀ x∈X,x.cells.length=S.m) (h1:∀ x∈X,∀ u∈x.cells,u.oneCell'=true) (hcell:∀ j u,(X.flatMap (·.cells))[j]?=some u->w.cell? ⟨g,j,none⟩=some u)
  (hR:∀ x∈X,S.R w x.cells x.d x.fp) (hlo:∀ x∈X,∀ b∈x.fp,base<=b) (hty:∀ x∈X,∀ b∈x.fp,∃ cur t fr,w.heap[b]?=some (.cells cur t fr)/\t≠e)
  (h63:L.length+m<=maxLen) (hbytes:(L.length+m) * bytes<=140737488355328) (hbase:base<=w.heap.size)
  (h:∀ v' w',RowE S base e v' (L++X) w'->w.grownBy w' v.ownBlock->K (a.put (some d) v') w'):if Region.wanted o (yielded ops a.tmps)=true then Oper.wp P o a w K Q else E:=by
 rw [← hdst] at h
 have hwt:Region.wanted o (yielded ops a.tmps)=true:=by simp [Region.wanted,hg]
 obtain⟨i,hi,hz0,hz1,hz2⟩:=info_parts ti.2
 subst hm
 rw [if_pos hwt]
 refine wp_append_own w s y t ho base e i z S.m bytes ti.1 hi hz0 hz1 hz2 hzs h0 v L.length _ hs hown.row ⟨g,0,none⟩ X.length c (X.flatMap (·.cells)) hy (ZaB hlen) ?_ ?_ h63 hbytes hbase λ v' w' r1 r2 _=>h v' w' ?_ r2
 ·intro j u hj
  rw [ZaI,Nat.zero_add]
  exact hcell j u hj
 ·intro u hu
  obtain⟨x,hx,hu⟩:=List.mem_flatMap.1 hu
  exact h1 x hx u hu
 ·refine hown.appended ?_ r2 hlen hR hlo hty
  rw [List.length_append,List.flatMap_append]
  exact r1
structure DivSt (B:Nat) (va u:Value) (A:List (Elem (List Tok))) (M:List (Elem Tok)) (w:World):Prop where
 row:w.ownsRow B 28 1 va (A.length+1) (A.flatMap (·.cells)++[u])
 len:∀ x∈A,x.cells.length=1
 el:∀ x∈A,sToks.R w x.cells x.d x.fp
 inn:∃ top,RowE sTok top 57 u M w/\B<=top/\top<=w.heap.size/\∀ x∈A,∀ b∈x.fp,b<top
 ownA:Own w B (A.flatMap (·.fp))
 ownM:Own w B (M.flatMap (·.fp))
 tyA:TokTy w (A.flatMap (·.fp))
 tyM:TokTy w (M.flatMap (·.fp))
section
variable {B:Nat} {va u:Value} {A:List (Elem (List Tok))} {M:List (Elem Tok)} {w w':World}
theorem DivSt.same (h:DivSt B va u A M w) (hs:w.heap.size<=w'.heap.size) (hr:∀ g,va.ownBlock=some g->w'.heap[g]?=w.heap[g]?) (hu:∀ g,u.ownBlock=some g->w'.heap[g]?=w.heap[g]?) (hA:∀ b∈A.flatMap (·.fp),w'.heap[b]?=w.heap[b]?) (hM:∀ b∈M.flatMap (·.fp),w'.heap[b]?=w.heap[b]?):DivSt B va u A M w':=by
 obtain⟨top,g1,g2,g3,g4⟩:=h.inn
 have mA:∀ x∈A,∀ b∈x.fp,w'.heap[b]?=w.heap[b]?:=λ x hx b hb=>hA b (List.mem_flatMap.2 ⟨x,hx,hb⟩)
 have mM:∀ x∈M,∀ b∈x.fp,w'.heap[b]?=w.heap[b]?:=λ x hx b hb=>hM b (List.mem_flatMap.2 ⟨x,hx,hb⟩)
 refine ⟨Zba h.row hr,h.len,λ x hx=>sToks.frame (mA x hx) (h.el x hx),⟨top,g1.same2 hu mM,g2,Nat.le_trans g3 hs,g4⟩,⟨h.ownA.1,λ b hb=>?_⟩,⟨h.ownM.1,λ b hb=>?_⟩,h.tyA.same λ b hb _=>hA b hb,h.tyM.same λ b hb _=>hM b hb⟩
 ·obtain⟨q1,cur,e,q2⟩:=h.ownA.2 b hb
  exact⟨q1,cur,e,(hA b hb).trans q2⟩
 ·obtain⟨q1,cur,e,q2⟩:=h.ownM.2 b hb
  exact⟨q1,cur,e,(hM b hb).trans q2⟩
theorem DivSt.ult (h:DivSt B va u A M w):∀ g,u.ownBlock=some g->g<w.heap.size:=λ g hg=>by
 obtain⟨top,g1,-⟩:=h.inn
 exact(g1.row.lt g hg).2
theorem DivSt.umine (h:DivSt B va u A M w):∀ g,u.ownBlock=some g->B<=g:=λ g hg=>by
 obtain⟨top,g1,g2,-⟩:=h.inn
 have:=(g1.row.lt g hg).1
 omega
theorem DivSt.below (h:DivSt B va u A M w) (hb:Below w.heap.size w w'):DivSt B va u A M w':=
 h.same hb.size (λ g hg=>hb.block g (h.row.lt g hg).2) (λ g hg=>hb.block g (h.ult g hg)) (λ b hb'=>hb.block b (h.ownA.lt b hb')) (λ b hb'=>hb.block b (h.ownM.lt b hb'))
theorem DivSt.val (h:DivSt B va u A M w):∃ g cap,va=.slice (some ⟨g,0,none⟩) (A.length+1) cap/\B<=g/\g<w.heap.size/\A.length+1<=cap/\cap<=maxLen:=by
 rcases h.row.2 with⟨_,h0⟩ | ⟨g,cap,cur,rfl,hb,hg,hn,hc,_⟩
 ·omega
 ·exact⟨g,cap,rfl,hb,(Qg hg).1,hn,hc⟩
theorem DivSt.uval (h:DivSt B va u A M w):∃ a c,u=.slice a M.length c:=by
 obtain⟨top,g1,-⟩:=h.inn
 obtain⟨a,c,h1,-⟩:=g1.val
 exact⟨a,c,h1⟩
theorem DivSt.flen (h:DivSt B va u A M w):(A.flatMap (·.cells)).length=A.length:=by
 have:=ZaB (f:=Elem.cells) h.len
 rwa [Nat.mul_one] at this
theorem DivSt.cell {g n cap:Nat} (h:DivSt B (.slice (some ⟨g,0,none⟩) n cap) u A M w):w.cell? ⟨g,A.length,none⟩=some u:=by
 have hn:A.length+1=n:=by
  rcases h.row.2 with⟨h',_⟩ | ⟨g',cap',cur,h',_⟩
  ·cases h'
  ·simp only [Value.slice.injEq] at h';exact h'.2.1.symm
 have hrow:=h.row
 rw [hn] at hrow
 rw [hrow.cellAt A.length (by omega),List.getElem?_append_right (by rw [h.flen];omega),h.flen,Nat.sub_self];rfl
theorem DivSt.frozen {g n cap:Nat} (h:DivSt B (.slice (some ⟨g,0,none⟩) n cap) u A M w) (o:Nat):w.frozen? ⟨g,o,none⟩=false:=by
 rcases h.row.2 with⟨h',_⟩ | ⟨g',cap',cur,h',_,hg,_⟩
 ·cases h'
 ·simp only [Value.slice.injEq,Qi,Addr.mk.injEq,and_true] at h'
  obtain⟨rfl,_⟩:=h'
  exact frozen_of_row w g o cur _ hg
theorem DivSt.rowne (h:DivSt B va u A M w) {fp:List Nat} (ht:TokTy w fp):∀ b∈fp,some b≠va.ownBlock:=λ b hb e=>by
 obtain⟨cur,t,fr,h1,h2⟩:=ht b hb
 rcases h.row.2 with⟨h',_⟩ | ⟨g,cap,cur',h',_,hg,_⟩
 ·rw [h'] at e;simp [Value.ownBlock] at e
 ·rw [h'] at e
  simp only [Value.ownBlock,Qi] at e
  subst e
  rw [h1] at hg
  simp only [Qi,Obj.cells.injEq] at hg
  have:=hg.2.1
  rcases h2 with rfl | rfl <;> exact absurd this (by decide)
theorem DivSt.arg (h:DivSt B va u A M w):∃ fp,sToks.R w [u] (M.map (·.d)) fp/\Own w B fp/\TokTy w fp/\(∀ b∈fp,b∉A.flatMap (·.fp)):=by
 obtain⟨top,g1,g2,g3,g4⟩:=h.inn
 obtain⟨fp,h1,h2,h3⟩:=ZaM g1.row λ x hx=>⟨g1.len x hx,g1.el x hx⟩
 have hM:Own w top (M.flatMap (·.fp)):=⟨h.ownM.1,λ b hb=>by
  obtain⟨x,hx,hb'⟩:=List.mem_flatMap.1 hb
  exact⟨g1.lo x hx b hb',(h.ownM.2 b hb).2⟩⟩
 have hO:=h3 hM λ g hg hm=>by
  obtain⟨x,hx,hb'⟩:=List.mem_flatMap.1 hm
  exact g1.ap hx hb' hg
 refine ⟨fp,h1,hO.lower g2,λ b hb=>?_,λ b hb hx=>?_⟩
 ·rcases h2 b hb with h0 | h0
  ·rcases g1.row.2 with⟨h',_⟩ | ⟨g,cap,cur,q1,q2,q3,-⟩
   ·rw [h'] at h0;simp [Value.ownBlock] at h0
   ·rw [q1] at h0
    simp only [Value.ownBlock,Qi] at h0
    subst h0
    exact⟨_,_,_,q3,.inl rfl⟩
  ·exact h.tyM b h0
 ·obtain⟨x,hx',hb'⟩:=List.mem_flatMap.1 hx
  have:=g4 x hx' b hb'
  have:=(hO.2 b hb).1
  omega
theorem TokTy.app {fp fp':List Nat} (h:TokTy w fp) (h':TokTy w fp'):TokTy w (fp++fp'):=λ b hb=>by
 rcases Qa hb with hb | hb
 ·exact h b hb
 ·exact h' b hb
theorem Zcu {α:Type} (A:List (Elem α)) (x:Elem α):(A++[x]).flatMap (·.fp)=A.flatMap (·.fp)++x.fp:=by rw [List.flatMap_append];simp
theorem DivSt.next {va':Value} (h:DivSt B va u A M w) {fp:List Nat} (h1:sToks.R w [u] (M.map (·.d)) fp) (h2:Own w B fp) (h3:TokTy w fp) (h4:∀ b∈fp,b∉A.flatMap (·.fp)) (hB:B<=w.heap.size)
  (hrow:w'.ownsRow B 28 1 va' (A.length+1+1) (A.flatMap (·.cells)++[u]++[.slice none 0 0])) (hg:w.grownBy w' va.ownBlock):DivSt B va' (.slice none 0 0) (A++[⟨[u],M.map (·.d),fp⟩]) [] w':=by
 have hA:∀ b∈A.flatMap (·.fp),w'.heap[b]?=w.heap[b]?:=λ b hb=>hg.block b (h.ownA.lt b hb) (h.rowne h.tyA b hb)
 have hF:∀ b∈fp,w'.heap[b]?=w.heap[b]?:=λ b hb=>hg.block b (h2.lt b hb) (h.rowne h3 b hb)
 have hO:Own w B (A.flatMap (·.fp)++fp):=h.ownA.app h2 λ b hb hx=>h4 b hx hb
 refine ⟨?_,λ x hx=>?_,λ x hx=>?_,⟨w'.heap.size,RowE.nil _ _ _ _,Nat.le_trans hB hg.size,Nat.le_refl _,λ x hx b hb=>?_⟩,⟨?_,λ b hb=>?_⟩,Own.nil _ _,?_,(show TokTy w' [] from λ b hb=>by simp at hb)⟩
 ·rw [List.length_append,List.flatMap_append]
  simpa using hrow
 ·rcases Qa hx with hx | hx
  ·exact h.len x hx
  ·obtain rfl:=Qm hx;rfl
 ·rcases Qa hx with hx | hx
  ·exact sToks.frame (λ b hb=>hA b (List.mem_flatMap.2 ⟨x,hx,hb⟩)) (h.el x hx)
  ·obtain rfl:=Qm hx;exact sToks.frame hF h1
 ·have:b<w.heap.size:=by
   rcases Qa hx with hx | hx
   ·exact sToks.lt (h.el x hx) b hb
   ·obtain rfl:=Qm hx;exact sToks.lt h1 b hb
  exact Nat.lt_of_lt_of_le this hg.size
 ·rw [Zcu];exact hO.1
 ·rw [Zcu] at hb
  obtain⟨q1,cur,e,q2⟩:=hO.2 b hb
  refine ⟨q1,cur,e,?_⟩
  rcases Qa hb with hb | hb
  ·exact(hA b hb).trans q2
  ·exact(hF b hb).trans q2
 ·rw [Zcu]
  exact(h.tyA.app h3).same λ b hb _=>by
   rcases Qa hb with hb | hb
   ·exact hA b hb
   ·exact hF b hb
theorem DivSt.more {g n cap top:Nat} {u':Value} {x:Elem Tok} (h:DivSt B (.slice (some ⟨g,0,none⟩) n cap) u A M w) (g1:RowE sTok top 57 u M w) (g2:B<=top) (g3:top<=w.heap.size) (g4:∀ x∈A,∀ b∈x.fp,b<top)
  (hx1:Own w top x.fp) (hx2:∀ b∈x.fp,∃ cur t fr,w.heap[b]?=some (.cells cur t fr)/\t=9) (hx3:∀ b∈x.fp,b∉M.flatMap (·.fp))
  (hG:RowE sTok top 57 u' (M++[x]) w') (hg:w.grownBy w' u.ownBlock):DivSt B (.slice (some ⟨g,0,none⟩) n cap) u' A (M++[x]) (w'.setCell ⟨g,A.length,none⟩ u'):=by
 have hn:A.length+1=n:=by
  rcases h.row.2 with⟨h',_⟩ | ⟨g',cap',cur,h',_⟩
  ·cases h'
  ·simp only [Value.slice.injEq] at h';exact h'.2.1.symm
 have hgl:g<w.heap.size:=(h.row.lt g rfl).2
 have hgu:some g≠u.ownBlock:=λ e=>by
  rcases ZdM h.row g1.row (by decide) with h0 | h0
  ·cases h0
  ·exact h0 (by rw [← e];rfl)
 have hA1:∀ b∈A.flatMap (·.fp),w'.heap[b]?=w.heap[b]?:=λ b hb=>hg.block b (h.ownA.lt b hb) λ e=>by
  obtain⟨y,hy,hb'⟩:=List.mem_flatMap.1 hb
  have:=g4 y hy b hb'
  have:=g1.mine b e.symm
  omega
 have hM1:∀ b∈M.flatMap (·.fp),w'.heap[b]?=w.heap[b]?:=λ b hb=>hg.block b (h.ownM.lt b hb) λ e=>by
  obtain⟨y,hy,hb'⟩:=List.mem_flatMap.1 hb
  exact g1.ap hy hb' e.symm
 have hX1:∀ b∈x.fp,w'.heap[b]?=w.heap[b]?:=λ b hb=>hg.block b (hx1.lt b hb) λ e=>by
  obtain⟨cur,t,fr,q1,q2⟩:=hx2 b hb
  rcases g1.row.2 with⟨h',_⟩ | ⟨g',cap',cur',h',_,hg',_⟩
  ·rw [h'] at e;simp [Value.ownBlock] at e
  ·rw [h'] at e
   simp only [Value.ownBlock,Qi] at e
   subst e
   rw [q1] at hg'
   simp only [Qi,Obj.cells.injEq] at hg'
   exact absurd (q2.symm.trans hg'.2.1) (by decide)
 have hTX:TokTy w x.fp:=λ b hb=>by obtain⟨cur,t,fr,q1,q2⟩:=hx2 b hb;exact⟨cur,t,fr,q1,.inr q2⟩
 have hne:∀ fp,TokTy w fp->∀ b∈fp,b≠g:=λ fp ht b hb e=>h.rowne ht b hb (by rw [e];rfl)
 have hfar:∀ b,b≠g->(w'.setCell ⟨g,A.length,none⟩ u').heap[b]?=w'.heap[b]?:=λ b hb=>Below.heap_setCell _ _ _ _ hb
 have hgb:w'.heap[g]?=w.heap[g]?:=hg.block g hgl hgu
 have hrow':w'.ownsRow B 28 1 (.slice (some ⟨g,0,none⟩) n cap) n (A.flatMap (·.cells)++[u]):=by
  have:=Zba (w':=w') h.row λ g' hg'=>by
   simp only [Value.ownBlock,Qi] at hg';subst hg';exact hgb
  rwa [hn] at this
 have hOM:Own w B (M.flatMap (·.fp)++x.fp):=h.ownM.app (hx1.lower g2) λ b hb hx=>hx3 b hx hb
 have hug:∀ b,u'.ownBlock=some b->b≠g:=λ b hb e=>by
  subst e
  rcases ZdM hrow' hG.row (by decide) with h0 | h0
  ·cases h0
  ·exact h0 (by rw [hb];rfl)
 refine ⟨?_,h.len,λ y hy=>?_,⟨top,?_,g2,by rw [Zec];exact Nat.le_trans g3 hg.size,g4⟩,⟨h.ownA.1,λ b hb=>?_⟩,⟨by rw [Zcu];exact hOM.1,λ b hb=>?_⟩,?_,?_⟩
 ·have:=(hrow'.stored A.length u').1
  rw [List.set_append_right _ _ (by rw [h.flen];omega),h.flen,Nat.sub_self] at this
  rw [hn]
  exact this
 ·refine sToks.frame (λ b hb=>?_) (h.el y hy)
  have hm:b∈A.flatMap (·.fp):=List.mem_flatMap.2 ⟨y,hy,hb⟩
  exact(hfar b (hne _ h.tyA b hm)).trans (hA1 b hm)
 ·refine hG.same2 (λ b hb=>hfar b (hug b hb)) (λ y hy b hb=>hfar b ?_)
  rcases Qa hy with hy | hy
  ·exact hne _ h.tyM b (List.mem_flatMap.2 ⟨y,hy,hb⟩)
  ·obtain rfl:=Qm hy;exact hne _ hTX b hb
 ·obtain⟨q1,cur,e,q2⟩:=h.ownA.2 b hb
  exact⟨q1,cur,e,((hfar b (hne _ h.tyA b hb)).trans (hA1 b hb)).trans q2⟩
 ·rw [Zcu] at hb
  obtain⟨q1,cur,e,q2⟩:=hOM.2 b hb
  refine ⟨q1,cur,e,?_⟩
  rcases Qa hb with hb | hb
  ·exact((hfar b (hne _ h.tyM b hb)).trans (hM1 b hb)).trans q2
  ·exact((hfar b (hne _ hTX b hb)).trans (hX1 b hb)).trans q2
 ·exact h.tyA.same λ b hb _=>(hfar b (hne _ h.tyA b hb)).trans (hA1 b hb)
 ·rw [Zcu]
  exact(h.tyM.app hTX).same λ b hb _=>by
   rcases Qa hb with hb | hb
   ·exact(hfar b (hne _ h.tyM b hb)).trans (hM1 b hb)
   ·exact(hfar b (hne _ hTX b hb)).trans (hX1 b hb)
theorem DivSt.done (h:DivSt B va u A M w):∃ fp,(Zaa sToks).R w [va] (A.map (·.d)++[M.map (·.d)]) fp/\Own w B fp:=by
 obtain⟨fpu,h1,h2,h3,h4⟩:=h.arg
 have hO:Own w B ((A++[(⟨[u],M.map (·.d),fpu⟩:Elem (List Tok))]).flatMap (·.fp)):=by rw [Zcu];exact h.ownA.app h2 λ b hb hx=>h4 b hx hb
 have hT:TokTy w ((A++[(⟨[u],M.map (·.d),fpu⟩:Elem (List Tok))]).flatMap (·.fp)):=by rw [Zcu];exact h.tyA.app h3
 obtain⟨fp,r1,-,r3⟩:=ZaM (S:=sToks) (w:=w) (base:=B) (e:=28) (v:=va) (L:=A++[⟨[u],M.map (·.d),fpu⟩]) (by
  rw [List.length_append,List.flatMap_append]
  change w.ownsRow B 28 1 va _ _
  simpa using h.row) (λ x hx=>by
  rcases Qa hx with hx | hx
  ·exact⟨h.len x hx,h.el x hx⟩
  ·obtain rfl:=Qm hx;exact⟨rfl,h1⟩)
 refine ⟨fp,by rw [List.map_append] at r1;exact r1,r3 hO λ g hg hm=>?_⟩
 exact h.rowne hT g hm hg.symm
end
theorem ZnV {l:List Tok} {k:Nat} (hk:k<l.length) (d:Int) (A:Args) (M:List Tok) :
  dvGo (l.drop k) d A M=if d=0/\isCom l[k]=true then dvGo (l.drop (k+1)) d (A++[M]) [] else dvGo (l.drop (k+1)) (d+opn l[k]) A (M++[l[k]]):=by
 rw [List.drop_eq_getElem_cons hk];rfl
theorem dvGo_end {l:List Tok} {k:Nat} (hk:l.length<=k) (d:Int) (A:Args) (M:List Tok):dvGo (l.drop k) d A M=A++[M]:=by rw [List.drop_of_length_le hk];rfl
theorem Y16A3 {g:Prop} (h:g:=by
 go_wp2_with fail
 refine (HOP.out _ hbx).mono ?_
 rintro e w2 ⟨rfl,g2⟩
 have hc2:=hbx.trans (g2.mono hbx.size)
 have HX2:=Qh ((g2.block _ (Qg HX0.out).1).trans HX0.out)
 have HS2:=Qh (HS1.out.below g2)
 have hb2:=hbw.trans (g2.mono hbw.size)
 have hi1:(0:Int)<=(A.length:Int):=by omega
 have hi2:(A.length:Int)<(A.length:Int)+1:=by omega
 have hgs2:=hc2.size
 clear c10 c11 c12 c13 HOP HS1 HX0 hbw hbx g2 hb
 go_wp2_with fail
 refine wp_region_noPanic ?_
 refine wp_region_held_drew (S:=λ w'=>w'.heap[wr.heap.size]?=some (.cells #[.int .i64 l[k].kind,.string l[k].text,.bool l[k].spaced,.slice ah l[k].hidden.length ch] 57 (0,0))) (by kernel_rfl) (by exact HX2.out) (λ hHeld=>?_)
 have hdr:Below w2.heap.size w2 w2.drew:=Zag (Below.refl _ _) 1
 have HSd:=Qh (HS2.out.below hdr)
 have hbd:=hb2.trans (hdr.mono hb2.size)
 have hcd:=hc2.trans (hdr.mono hc2.size)
 have hwd:=hcd.size
 obtain⟨top,t1,t2,t3,t4⟩:=HSd.out.inn
 have HTD:=Qh t1
 have HTOP:=Qh t4
 clear t1 t4
 clear HS2 HX2 hdr
 generalize w2.drew=wd at *
 refine Qt 0 32 rfl rfl ?_ (by intro w hSw;obtain⟨s0,s1,s2,s3⟩:=Q4 hSw;go_simp;(first | done | with_reducible rfl | rfl))
 try simp only [Qp]
 refine Qt 1 33 rfl rfl ?_ (by intro w hSw;obtain⟨s0,s1,s2,s3⟩:=Q4 hSw;go_simp;(first | done | with_reducible rfl | rfl))
 try simp only [Qp]
 refine Qt 2 34 rfl rfl ?_ (by intro w hSw;obtain⟨s0,s1,s2,s3⟩:=Q4 hSw;go_simp;(first | done | with_reducible rfl | rfl))
 try simp only [Qp]
 refine Qt 3 35 rfl rfl ?_ (by intro w hSw;obtain⟨s0,s1,s2,s3⟩:=Q4 hSw;go_simp;(first | done | with_reducible rfl | rfl))
 try simp only [Qp]
 refine Qt 4 36 rfl rfl ?_ (by intro w hSw;obtain⟨s0,s1,s2,s3⟩:=Q4 hSw;go_simp;(first | done | with_reducible rfl | rfl))
 try simp only [Qp]
 refine Qt 6 38 rfl rfl ?_ (by intro w hSw;obtain⟨s0,s1,s2,s3⟩:=Q4 hSw;go_simp;(first | done | with_reducible rfl | rfl))
 try simp only [Qp]
 refine wpAnyH_ready (rs:=[5,7]) (by decide +kernel) (by simp) ?_
 refine AllReadyH.cons rfl (λ K hK=>?_) ?_
 ·have hcell:=HSd.out.cell
  go_simp
  refine hK.out _ _ hHeld (λ hHeld=>?_)
  clear hK K
  try simp only [Qp]
  refine Qr 7 rfl (λ K hK=>?_) (by decide +kernel)
  go_simp
  refine (HCP.out _ hcd).mono ?_
  rintro e w4 ⟨ao,c2,fp2,rfl,R2,O2,T2,hb4⟩
  have HS4:=Qh (HSd.out.below hb4)
  have hb4t:=hbd.trans (hb4.mono hbd.size)
  have hs4:=hb4.size
  have HTE:=Qh (HTD.out.below hb4)
  have HT4:=Qh (And.intro R2 (And.intro O2 T2))
  clear R2 O2 T2
  refine hK.out _ _ ((hb4.block _ (Qg hHeld).1).trans hHeld) (λ hHeld=>?_)
  clear hK K
  try simp only [Qp]
  refine Qr 8 rfl (λ K hK=>?_) (by decide +kernel)
  have bl:=Zab w4 (.cells #[.int .i64 l[k].kind,.string l[k].text,.bool l[k].spaced,.slice ao l[k].hidden.length c2] 57)
  have HL5:=Qh (heap_alloc_new w4 (.cells #[.int .i64 l[k].kind,.string l[k].text,.bool l[k].spaced,.slice ao l[k].hidden.length c2] 57))
  have HS5:=Qh (HS4.out.below bl)
  have HT1:=Qh (HTE.out.below bl)
  have hb5t:=hb4t.trans (bl.mono hb4t.size)
  have hs5:(w4.alloc (.cells #[.int .i64 l[k].kind,.string l[k].text,.bool l[k].spaced,.slice ao l[k].hidden.length c2] 57)).heap.size=w4.heap.size+1:=Array.size_push _
  have HT5:=Qh (And.intro (sTok.below HT4.out.1 bl) (And.intro (HT4.out.2.1.grow bl) (show ∀ b∈fp2,∃ cur t fr,(w4.alloc (.cells #[.int .i64 l[k].kind,.string l[k].text,.bool l[k].spaced,.slice ao l[k].hidden.length c2] 57)).heap[b]?=some (.cells cur t fr)/\t=9 from λ b hb=>by obtain⟨cur,t,fr,z1,z2⟩:=HT4.out.2.2 b hb;exact⟨cur,t,fr,(bl.block b (Qg z1).1).trans z1,z2⟩)))
  have hH5:=(bl.block _ (Qg hHeld).1).trans hHeld
  go_simp
  refine hK.out _ _ hH5 (λ hHeld=>?_)
  clear hK K bl
  try simp only [Qp]
  generalize hw5:(w4.alloc (.cells #[.int .i64 l[k].kind,.string l[k].text,.bool l[k].spaced,.slice ao l[k].hidden.length c2] 57))=w5 at *
  clear hw5
  refine Qr 9 rfl (λ K hK=>?_) (by decide +kernel)
  refine ZcN (X:=[(⟨[.int .i64 l[k].kind,.string l[k].text,.bool l[k].spaced,.slice ao l[k].hidden.length c2],l[k],fp2⟩:Elem Tok)]) ti_tok rfl (by decide) _ 41 rfl rfl (.tmp 37) (.tmp 40) rfl top (.slice au M.length cu) rfl HT1.out w4.heap.size 1 1 rfl rfl (λ x hx=>by obtain rfl:=Qm hx;rfl) (λ x hx=>by obtain rfl:=Qm hx;simp [Value.oneCell']) (λ j u hj=>by rw [cell_of_row _ _ _ _ _ _ HL5.out];simpa using hj) (λ x hx=>by obtain rfl:=Qm hx;exact HT5.out.1) (λ x hx b hb=>by obtain rfl:=Qm hx;have:=(HT5.out.2.1.2 b hb).1;omega) (λ x hx b hb=>by obtain rfl:=Qm hx;obtain⟨cur,t,fr,z1,z2⟩:=HT5.out.2.2 b hb;exact⟨cur,t,fr,z1,by rw [z2];decide⟩) (by unfold maxLen;omega) (by omega) (by omega) ?_
  intro v6 w6 hG6 hg6
  have HN:=Qh (HS5.out.more (x:=⟨[.int .i64 l[k].kind,.string l[k].text,.bool l[k].spaced,.slice ao l[k].hidden.length c2],l[k],fp2⟩) HT1.out t2 (by omega) HTOP.out (HT5.out.2.1.lower (by omega)) HT5.out.2.2 (λ b hb hx=>by have h1:=(HT5.out.2.1.2 b hb).1;have h2:=HOLD.out b hx;omega) hG6 hg6)
  have hb6:=hb5t.grown hg6 hb5t.size HS5.out.umine
  have hH6:=(hg6.block _ (Qg hHeld).1 (λ e=>by have:=HULT.out _ e.symm;omega)).trans hHeld
  have hcell6:w6.cell? ⟨ga,A.length,none⟩=some (.slice au M.length cu):=(World.cell?_of_block (hg6.block ga (by have:=hb5t.size;omega) (λ e=>by rcases ZdM HS5.out.row HT1.out.row (by decide) with h0 | h0;cases h0;exact h0 (by rw [← e];rfl)))).trans HS5.out.cell
  have hfr6:w6.frozen? ⟨ga,A.length,none⟩=false:=(World.frozen?_of_block (hg6.block ga (by have:=hb5t.size;omega) (λ e=>by rcases ZdM HS5.out.row HT1.out.row (by decide) with h0 | h0;cases h0;exact h0 (by rw [← e];rfl)))).trans (HS5.out.frozen _)
  obtain⟨a6,c6,rfl,-⟩:=hG6.val
  clear hG6 hg6
  refine hK.out _ _ hH6 (λ hHeld=>?_)
  clear hK K
  try simp only [Qp]
  refine Qt 10 42 rfl rfl ?_ (by intro w hSw;obtain⟨s0,s1,s2,s3⟩:=Q4 hSw;go_simp;(first | done | with_reducible rfl | rfl))
  try simp only [Qp]
  refine Qr 11 rfl (λ K hK=>?_) (by decide +kernel)
  have hbne:wr.heap.size≠ga:=by omega
  have hb7:=hb6.setCell (p:=⟨ga,A.length,none⟩) (by show w.heap.size<=ga;omega) (.slice a6 (M++[(⟨[.int .i64 l[k].kind,.string l[k].text,.bool l[k].spaced,.slice ao l[k].hidden.length c2],l[k],fp2⟩:Elem Tok)]).length c6)
  have hH7:=Zaw hHeld hbne A.length (.slice a6 (M++[(⟨[.int .i64 l[k].kind,.string l[k].text,.bool l[k].spaced,.slice ao l[k].hidden.length c2],l[k],fp2⟩:Elem Tok)]).length c6)
  simp only [List.length_append,List.length_cons,List.length_nil,Nat.zero_add] at hb7 hH7 HN ⊢
  go_simp
  refine hK.out _ _ hH7 (λ hHeld=>?_)
  clear hK K
  try simp only [Qp]
  refine wpAnyH_done (by kernel_rfl) ?_ _
  refine NoPanic.normal ?_
  clear hHeld
  go_wp2
  go_roundw
  case rel=>exact⟨k+1,_,_,A,M++[(⟨[.int .i64 l[k].kind,.string l[k].text,.bool l[k].spaced,.slice ao l[k].hidden.length c2],l[k],fp2⟩:Elem Tok)],by omega,by go_num,rfl,by omega,by omega,by omega,by simp;omega,HN,by show _=_;rw [← HF.out,List.map_append];rfl,hb7⟩
  case measure=>simp [intOf];omega
 refine AllReadyH.cons rfl (λ K hK=>?_) AllReadyH.nil
 go_simp
 refine (HCP.out _ hcd).mono ?_
 rintro e w4 ⟨ao,c2,fp2,rfl,R2,O2,T2,hb4⟩
 have HS4:=Qh (HSd.out.below hb4)
 have hb4t:=hbd.trans (hb4.mono hbd.size)
 have hs4:=hb4.size
 have HTE:=Qh (HTD.out.below hb4)
 have HT4:=Qh (And.intro R2 (And.intro O2 T2))
 clear R2 O2 T2
 refine hK.out _ _ ((hb4.block _ (Qg hHeld).1).trans hHeld) (λ hHeld=>?_)
 clear hK K
 try simp only [Qp]
 refine wpAnyH_ready (rs:=[5,8]) (by decide +kernel) (by simp) ?_
 refine AllReadyH.cons rfl (λ K hK=>?_) ?_
 ·have hcell:=HS4.out.cell
  go_simp
  refine hK.out _ _ hHeld (λ hHeld=>?_)
  clear hK K
  try simp only [Qp]
  refine Qr 8 rfl (λ K hK=>?_) (by decide +kernel)
  have bl:=Zab w4 (.cells #[.int .i64 l[k].kind,.string l[k].text,.bool l[k].spaced,.slice ao l[k].hidden.length c2] 57)
  have HL5:=Qh (heap_alloc_new w4 (.cells #[.int .i64 l[k].kind,.string l[k].text,.bool l[k].spaced,.slice ao l[k].hidden.length c2] 57))
  have HS5:=Qh (HS4.out.below bl)
  have HT1:=Qh (HTE.out.below bl)
  have hb5t:=hb4t.trans (bl.mono hb4t.size)
  have hs5:(w4.alloc (.cells #[.int .i64 l[k].kind,.string l[k].text,.bool l[k].spaced,.slice ao l[k].hidden.length c2] 57)).heap.size=w4.heap.size+1:=Array.size_push _
  have HT5:=Qh (And.intro (sTok.below HT4.out.1 bl) (And.intro (HT4.out.2.1.grow bl) (show ∀ b∈fp2,∃ cur t fr,(w4.alloc (.cells #[.int .i64 l[k].kind,.string l[k].text,.bool l[k].spaced,.slice ao l[k].hidden.length c2] 57)).heap[b]?=some (.cells cur t fr)/\t=9 from λ b hb=>by obtain⟨cur,t,fr,z1,z2⟩:=HT4.out.2.2 b hb;exact⟨cur,t,fr,(bl.block b (Qg z1).1).trans z1,z2⟩)))
  have hH5:=(bl.block _ (Qg hHeld).1).trans hHeld
  go_simp
  refine hK.out _ _ hH5 (λ hHeld=>?_)
  clear hK K bl
  try simp only [Qp]
  generalize hw5:(w4.alloc (.cells #[.int .i64 l[k].kind,.string l[k].text,.bool l[k].spaced,.slice ao l[k].hidden.length c2] 57))=w5 at *
  clear hw5
  refine Qr 9 rfl (λ K hK=>?_) (by decide +kernel)
  refine ZcN (X:=[(⟨[.int .i64 l[k].kind,.string l[k].text,.bool l[k].spaced,.slice ao l[k].hidden.length c2],l[k],fp2⟩:Elem Tok)]) ti_tok rfl (by decide) _ 41 rfl rfl (.tmp 37) (.tmp 40) rfl top (.slice au M.length cu) rfl HT1.out w4.heap.size 1 1 rfl rfl (λ x hx=>by obtain rfl:=Qm hx;rfl) (λ x hx=>by obtain rfl:=Qm hx;simp [Value.oneCell']) (λ j u hj=>by rw [cell_of_row _ _ _ _ _ _ HL5.out];simpa using hj) (λ x hx=>by obtain rfl:=Qm hx;exact HT5.out.1) (λ x hx b hb=>by obtain rfl:=Qm hx;have:=(HT5.out.2.1.2 b hb).1;omega) (λ x hx b hb=>by obtain rfl:=Qm hx;obtain⟨cur,t,fr,z1,z2⟩:=HT5.out.2.2 b hb;exact⟨cur,t,fr,z1,by rw [z2];decide⟩) (by unfold maxLen;omega) (by omega) (by omega) ?_
  intro v6 w6 hG6 hg6
  have HN:=Qh (HS5.out.more (x:=⟨[.int .i64 l[k].kind,.string l[k].text,.bool l[k].spaced,.slice ao l[k].hidden.length c2],l[k],fp2⟩) HT1.out t2 (by omega) HTOP.out (HT5.out.2.1.lower (by omega)) HT5.out.2.2 (λ b hb hx=>by have h1:=(HT5.out.2.1.2 b hb).1;have h2:=HOLD.out b hx;omega) hG6 hg6)
  have hb6:=hb5t.grown hg6 hb5t.size HS5.out.umine
  have hH6:=(hg6.block _ (Qg hHeld).1 (λ e=>by have:=HULT.out _ e.symm;omega)).trans hHeld
  have hcell6:w6.cell? ⟨ga,A.length,none⟩=some (.slice au M.length cu):=(World.cell?_of_block (hg6.block ga (by have:=hb5t.size;omega) (λ e=>by rcases ZdM HS5.out.row HT1.out.row (by decide) with h0 | h0;cases h0;exact h0 (by rw [← e];rfl)))).trans HS5.out.cell
  have hfr6:w6.frozen? ⟨ga,A.length,none⟩=false:=(World.frozen?_of_block (hg6.block ga (by have:=hb5t.size;omega) (λ e=>by rcases ZdM HS5.out.row HT1.out.row (by decide) with h0 | h0;cases h0;exact h0 (by rw [← e];rfl)))).trans (HS5.out.frozen _)
  obtain⟨a6,c6,rfl,-⟩:=hG6.val
  clear hG6 hg6
  refine hK.out _ _ hH6 (λ hHeld=>?_)
  clear hK K
  try simp only [Qp]
  refine Qt 10 42 rfl rfl ?_ (by intro w hSw;obtain⟨s0,s1,s2,s3⟩:=Q4 hSw;go_simp;(first | done | with_reducible rfl | rfl))
  try simp only [Qp]
  refine Qr 11 rfl (λ K hK=>?_) (by decide +kernel)
  have hbne:wr.heap.size≠ga:=by omega
  have hb7:=hb6.setCell (p:=⟨ga,A.length,none⟩) (by show w.heap.size<=ga;omega) (.slice a6 (M++[(⟨[.int .i64 l[k].kind,.string l[k].text,.bool l[k].spaced,.slice ao l[k].hidden.length c2],l[k],fp2⟩:Elem Tok)]).length c6)
  have hH7:=Zaw hHeld hbne A.length (.slice a6 (M++[(⟨[.int .i64 l[k].kind,.string l[k].text,.bool l[k].spaced,.slice ao l[k].hidden.length c2],l[k],fp2⟩:Elem Tok)]).length c6)
  simp only [List.length_append,List.length_cons,List.length_nil,Nat.zero_add] at hb7 hH7 HN ⊢
  go_simp
  refine hK.out _ _ hH7 (λ hHeld=>?_)
  clear hK K
  try simp only [Qp]
  refine wpAnyH_done (by kernel_rfl) ?_ _
  refine NoPanic.normal ?_
  clear hHeld
  go_wp2
  go_roundw
  case rel=>exact⟨k+1,_,_,A,M++[(⟨[.int .i64 l[k].kind,.string l[k].text,.bool l[k].spaced,.slice ao l[k].hidden.length c2],l[k],fp2⟩:Elem Tok)],by omega,by go_num,rfl,by omega,by omega,by omega,by simp;omega,HN,by show _=_;rw [← HF.out,List.map_append];rfl,hb7⟩
  case measure=>simp [intOf];omega
 refine AllReadyH.cons rfl (λ K hK=>?_) AllReadyH.nil
 have bl:=Zab w4 (.cells #[.int .i64 l[k].kind,.string l[k].text,.bool l[k].spaced,.slice ao l[k].hidden.length c2] 57)
 have HL5:=Qh (heap_alloc_new w4 (.cells #[.int .i64 l[k].kind,.string l[k].text,.bool l[k].spaced,.slice ao l[k].hidden.length c2] 57))
 have HS5:=Qh (HS4.out.below bl)
 have HT1:=Qh (HTE.out.below bl)
 have hb5t:=hb4t.trans (bl.mono hb4t.size)
 have hs5:(w4.alloc (.cells #[.int .i64 l[k].kind,.string l[k].text,.bool l[k].spaced,.slice ao l[k].hidden.length c2] 57)).heap.size=w4.heap.size+1:=Array.size_push _
 have HT5:=Qh (And.intro (sTok.below HT4.out.1 bl) (And.intro (HT4.out.2.1.grow bl) (show ∀ b∈fp2,∃ cur t fr,(w4.alloc (.cells #[.int .i64 l[k].kind,.string l[k].text,.bool l[k].spaced,.slice ao l[k].hidden.length c2] 57)).heap[b]?=some (.cells cur t fr)/\t=9 from λ b hb=>by obtain⟨cur,t,fr,z1,z2⟩:=HT4.out.2.2 b hb;exact⟨cur,t,fr,(bl.block b (Qg z1).1).trans z1,z2⟩)))
 have hH5:=(bl.block _ (Qg hHeld).1).trans hHeld
 go_simp
 refine hK.out _ _ hH5 (λ hHeld=>?_)
 clear hK K bl
 try simp only [Qp]
 generalize hw5:(w4.alloc (.cells #[.int .i64 l[k].kind,.string l[k].text,.bool l[k].spaced,.slice ao l[k].hidden.length c2] 57))=w5 at *
 clear hw5
 refine Qr 5 rfl (λ K hK=>?_) (by decide +kernel)
 have hcell:=HS5.out.cell
 go_simp
 refine hK.out _ _ hHeld (λ hHeld=>?_)
 clear hK K
 try simp only [Qp]
 refine Qr 9 rfl (λ K hK=>?_) (by decide +kernel)
 refine ZcN (X:=[(⟨[.int .i64 l[k].kind,.string l[k].text,.bool l[k].spaced,.slice ao l[k].hidden.length c2],l[k],fp2⟩:Elem Tok)]) ti_tok rfl (by decide) _ 41 rfl rfl (.tmp 37) (.tmp 40) rfl top (.slice au M.length cu) rfl HT1.out w4.heap.size 1 1 rfl rfl (λ x hx=>by obtain rfl:=Qm hx;rfl) (λ x hx=>by obtain rfl:=Qm hx;simp [Value.oneCell']) (λ j u hj=>by rw [cell_of_row _ _ _ _ _ _ HL5.out];simpa using hj) (λ x hx=>by obtain rfl:=Qm hx;exact HT5.out.1) (λ x hx b hb=>by obtain rfl:=Qm hx;have:=(HT5.out.2.1.2 b hb).1;omega) (λ x hx b hb=>by obtain rfl:=Qm hx;obtain⟨cur,t,fr,z1,z2⟩:=HT5.out.2.2 b hb;exact⟨cur,t,fr,z1,by rw [z2];decide⟩) (by unfold maxLen;omega) (by omega) (by omega) ?_
 intro v6 w6 hG6 hg6
 have HN:=Qh (HS5.out.more (x:=⟨[.int .i64 l[k].kind,.string l[k].text,.bool l[k].spaced,.slice ao l[k].hidden.length c2],l[k],fp2⟩) HT1.out t2 (by omega) HTOP.out (HT5.out.2.1.lower (by omega)) HT5.out.2.2 (λ b hb hx=>by have h1:=(HT5.out.2.1.2 b hb).1;have h2:=HOLD.out b hx;omega) hG6 hg6)
 have hb6:=hb5t.grown hg6 hb5t.size HS5.out.umine
 have hH6:=(hg6.block _ (Qg hHeld).1 (λ e=>by have:=HULT.out _ e.symm;omega)).trans hHeld
 have hcell6:w6.cell? ⟨ga,A.length,none⟩=some (.slice au M.length cu):=(World.cell?_of_block (hg6.block ga (by have:=hb5t.size;omega) (λ e=>by rcases ZdM HS5.out.row HT1.out.row (by decide) with h0 | h0;cases h0;exact h0 (by rw [← e];rfl)))).trans HS5.out.cell
 have hfr6:w6.frozen? ⟨ga,A.length,none⟩=false:=(World.frozen?_of_block (hg6.block ga (by have:=hb5t.size;omega) (λ e=>by rcases ZdM HS5.out.row HT1.out.row (by decide) with h0 | h0;cases h0;exact h0 (by rw [← e];rfl)))).trans (HS5.out.frozen _)
 obtain⟨a6,c6,rfl,-⟩:=hG6.val
 clear hG6 hg6
 refine hK.out _ _ hH6 (λ hHeld=>?_)
 clear hK K
 try simp only [Qp]
 refine Qt 10 42 rfl rfl ?_ (by intro w hSw;obtain⟨s0,s1,s2,s3⟩:=Q4 hSw;go_simp;(first | done | with_reducible rfl | rfl))
 try simp only [Qp]
 refine Qr 11 rfl (λ K hK=>?_) (by decide +kernel)
 have hbne:wr.heap.size≠ga:=by omega
 have hb7:=hb6.setCell (p:=⟨ga,A.length,none⟩) (by show w.heap.size<=ga;omega) (.slice a6 (M++[(⟨[.int .i64 l[k].kind,.string l[k].text,.bool l[k].spaced,.slice ao l[k].hidden.length c2],l[k],fp2⟩:Elem Tok)]).length c6)
 have hH7:=Zaw hHeld hbne A.length (.slice a6 (M++[(⟨[.int .i64 l[k].kind,.string l[k].text,.bool l[k].spaced,.slice ao l[k].hidden.length c2],l[k],fp2⟩:Elem Tok)]).length c6)
 simp only [List.length_append,List.length_cons,List.length_nil,Nat.zero_add] at hb7 hH7 HN ⊢
 go_simp
 refine hK.out _ _ hH7 (λ hHeld=>?_)
 clear hK K
 try simp only [Qp]
 refine wpAnyH_done (by kernel_rfl) ?_ _
 refine NoPanic.normal ?_
 clear hHeld
 go_wp2
 go_roundw
 case rel=>exact⟨k+1,_,_,A,M++[(⟨[.int .i64 l[k].kind,.string l[k].text,.bool l[k].spaced,.slice ao l[k].hidden.length c2],l[k],fp2⟩:Elem Tok)],by omega,by go_num,rfl,by omega,by omega,by omega,by simp;omega,HN,by show _=_;rw [← HF.out,List.map_append];rfl,hb7⟩
 case measure=>simp [intOf];omega):g:=h
theorem ZfD (v:Value) (l:List Tok) (fp:List Nat) (w:World) (hl:l.length<=60) (hx:∀ k,(hk:k<l.length)->l[k].hidden.length<=2000000) (H:(Zaa sTok).R w [v] l fp) :
  Calls Tryz.prog 137 #[v] w λ e w'=>∃ v' fp',e=.returned v'/\(Zaa sToks).R w' [v'] (dvGo l 0 [] []) fp'/\Own w' w.heap.size fp'/\Below w.heap.size w w':=by
 obtain⟨a,cap,rfl,hc,hm,hrow⟩:=Zac H
 unfold maxLen at hm
 clear H
 have HX:=Qh hx
 clear hx
 obtain⟨r,HR⟩:∃ r,Hid (r=dvGo l 0 [] []):=⟨_,rfl⟩
 rw [← HR.out]
 go_enter Tryz.func137,Tryz.ntmps137
 go_wp2_with (at_make;refine Zj4 Zd3 _ rfl _ _ rfl w.heap.size 1 rfl rfl (by omega) (by unfold maxLen;omega) (Nat.le_refl _) ?_;intro w1 hown hgrow)
 have hbel:=(Below.refl w.heap.size w).grown hgrow (Nat.le_refl _) (by simp)
 rw [show (madeCells (Value.slice none 0 0).cells (1 * 1)).toList=[.slice none 0 0] by kernel_rfl] at hown
 have HS0:Hid (DivSt w.heap.size (.slice (some ⟨w.heap.size,0,none⟩) 1 1) (.slice none 0 0) [] [] w1):=
  ⟨hown,by simp,by simp,⟨w1.heap.size,RowE.nil _ _ _ _,hgrow.size,Nat.le_refl _,by simp⟩,Own.nil _ _,Own.nil _ _,(show TokTy w1 [] from λ b hb=>by simp at hb),(show TokTy w1 [] from λ b hb=>by simp at hb)⟩
 clear hgrow hown
 go_loopw [3,4,11] (λ va d i wr=>∃ (k:Nat) (dd:Int) (u:Value) (A:List (Elem (List Tok))) (M:List (Elem Tok)),k<=l.length/\i=.int .i64 k/\d=.int .i64 dd/\-(k:Int)<=dd/\dd<=k/\A.length<=k/\M.length<=k/\Hid (DivSt w.heap.size va u A M wr)/\Hid (dvGo (l.drop k) dd (A.map (·.d)) (M.map (·.d))=r)/\Below w.heap.size w wr) (λ _ _ i _=>l.length-(intOf i).toNat)
 case atStart=>exact⟨0,0,_,[],[],by omega,rfl,rfl,by omega,by omega,by simp,by simp,HS0,HR.out.symm,hbel⟩
 case round =>
  clear HS0 hbel HR
  obtain⟨k,dd,u,A,M,hk,rfl,rfl,hd1,hd2,hAk,hMk,HS,HI,hb⟩:=hrel
  obtain⟨ga,ca,rfl,hga,hgs,hca,hcm⟩:=HS.out.val
  unfold maxLen at hcm
  obtain⟨au,cu,rfl⟩:=HS.out.uval
  by_cases hlt:k<l.length
  ·obtain⟨b1,off1,fps1,rfl,hb1,-,he1⟩:=hrow (by omega)
   obtain⟨es1,hE1,hR1⟩:=he1 k hlt
   clear hrow he1
   have hR2:=sTok.below hR1 hb
   obtain⟨h1',rfl,_,_,hK1⟩:=hR1
   obtain⟨ah,ch,rfl,-⟩:=Zaf hK1
   clear hK1
   replace hE1:=hE1.frame (hb.block b1 hb1)
   have c10:wr.cell? ⟨b1,off1+k * 4,none⟩=some _:=Zao hE1 (by decide) rfl
   have c11:wr.cell? ⟨b1,off1+k * 4+1,none⟩=some _:=Zae (j:=1) hE1 (by decide) rfl
   have c12:wr.cell? ⟨b1,off1+k * 4+2,none⟩=some _:=Zae (j:=2) hE1 (by decide) rfl
   have c13:wr.cell? ⟨b1,off1+k * 4+3,none⟩=some _:=Zae (j:=3) hE1 (by decide) rfl
   clear hE1
   have hbx:=Zab wr (.cells #[.int .i64 l[k].kind,.string l[k].text,.bool l[k].spaced,.slice ah l[k].hidden.length ch] 57)
   have HX0:=Qh (heap_alloc_new wr (.cells #[.int .i64 l[k].kind,.string l[k].text,.bool l[k].spaced,.slice ah l[k].hidden.length ch] 57))
   have HS1:=Qh (HS.out.below hbx)
   have HRT:=Qh hR2
   have hbw:=hb.trans (hbx.mono hb.size)
   have hst:=HI.out
   rw [ZnV hlt] at hst
   have hsz:(wr.alloc (.cells #[.int .i64 l[k].kind,.string l[k].text,.bool l[k].spaced,.slice ah l[k].hidden.length ch] 57)).heap.size=wr.heap.size+1:=Array.size_push _
   have HUL:=Qh HS.out.ult
   have HML:=Qh HS.out.ownM.lt
   clear hR2 HI HS
   by_cases hcomma:dd=0/\isCom l[k]=true
   ·
    rw [if_pos hcomma] at hst
    obtain⟨hd0,hcm2⟩:=hcomma
    have e0:(dd==0)=true:=by simpa using hd0
    have e1:(l[k].text.toList==[44])=true:=hcm2
    have HF:=Qh hst
    obtain⟨fpu,q1,q2,q3,q4⟩:=HS1.out.arg
    have HQ:=Qh (And.intro q1 (And.intro q2 (And.intro q3 q4)))
    have hrow1:=Qh HS1.out.row
    clear hst hcm2 q1 q2 q3 q4
    subst hd0
    go_wp2_with (at_builtin;refine Zex Zd3 rfl (by decide) _ (A.flatMap (·.cells)++[.slice au M.length cu]) [.slice none 0 0] rfl (by simp [Value.oneCell']) rfl (.tmp 22) (.tmp 23) rfl w.heap.size (.slice (some ⟨ga,0,none⟩) (A.length+1) ca) (A.length+1) rfl hrow1.out (by rw [hsz];rfl) (by unfold maxLen;omega) (by omega) hbw.size ?_;intro v3 w3 hown3 hg3;have hb3:=hbw.grown hg3 hbw.size (λ b hb=>by simp only [Value.ownBlock,Qi] at hb;omega);have HN:=Qh (HS1.out.next HQ.out.1 HQ.out.2.1 HQ.out.2.2.1 HQ.out.2.2.2 hbw.size hown3 hg3);clear hown3 hg3)
    go_roundw
    case rel=>exact⟨k+1,0,_,A++[(⟨[.slice au M.length cu],M.map (·.d),fpu⟩:Elem (List Tok))],[],by omega,by go_num,rfl,by omega,by omega,by simp;omega,by simp,HN,by show _=_;rw [← HF.out,List.map_append];rfl,hb3⟩
    case measure=>simp [intOf];omega
   ·rw [if_neg hcomma] at hst
    have HF:=Qh hst
    have ho:=opn_ge l[k]
    have hwr:IntKind.i64.wrap (dd+opn l[k])=dd+opn l[k]:=IntWalk.i64_in _ (by omega)
    have hwl:IntKind.i64.wrap (((A.length+1:Nat):Int)-1)=(A.length:Int):=by rw [IntWalk.i64_in _ (by omega)];omega
    have hwl2:IntKind.i64.wrap ((A.length:Int)+1-1)=(A.length:Int):=by rw [IntWalk.i64_in _ (by omega)];omega
    have HOP:=Qh (λ W (hW:Below wr.heap.size wr W)=>Zgm _ l[k] _ W (sTok.below HRT.out hW))
    have HCP:=Qh (λ W (hW:Below wr.heap.size wr W)=>ZdA _ l[k] _ W (HX.out k hlt) (sTok.below HRT.out hW))
    clear hst HRT
    obtain⟨cm,HCM⟩:∃ cm:Bool,Hid (cm=isCom l[k]):=⟨isCom l[k],rfl⟩
    generalize hon:opn l[k]=on at *
    have hnc:∀ b:Bool,b=(decide (dd=0) && cm)->b=false:=by
     rintro b rfl
     rw [Bool.and_eq_false_iff]
     by_cases h0:dd=0
     ·right
      rw [HCM.out]
      cases e:isCom l[k]
      ·rfl
      ·exact absurd ⟨h0,e⟩ hcomma
     ·left;exact decide_eq_false h0
    have HULT:Hid (∀ g,(Value.slice au M.length cu).ownBlock=some g->g<wr.heap.size):=HUL.out
    have HOLD:Hid (∀ b∈M.flatMap (·.fp),b<wr.heap.size):=HML.out
    by_cases h0:dd=0
    ·have e0:(dd==0)=true:=by simpa using h0
     have hcf:cm=false:=hnc cm (by rw [decide_eq_true h0];rfl)
     have e1:(l[k].text.toList==[44])=false:=by rw [hcf] at HCM;exact HCM.out.symm
     clear hcomma hnc hcf HCM hsz HUL HML
     subst h0
     rw [Int.zero_add] at HF
     exact Y16A3
    ·have e0:(dd==0)=false:=by simpa using h0
     clear hcomma hnc HCM hsz HUL HML
     exact Y16A3
  ·have HF:=Qh ((dvGo_end (by omega:l.length<=k) dd _ _).symm.trans HI.out)
   obtain⟨fpr,hr,ho⟩:=HS.out.done
   have HRR:=Qh hr
   have HOO:=Qh ho
   clear HI hr ho
   go_wp2
   go_ret
   exact⟨_,fpr,rfl,by rw [← HF.out];exact HRR.out,HOO.out,hb⟩
def ZfE (r:Args × Int × Bool) (w:World) (e:Ending) (w':World):Prop:=
 ∃ (v:Value) (fp:List Nat),e=.returned (.tuple #[v,.int .i64 r.2.1,.bool r.2.2])/\(Zaa sToks).R w' [v] r.1 fp/\Own w' w.heap.size fp/\Below w.heap.size w w'
theorem Zm2 {l:List Tok} {n:Nat} (hn:n<l.length) (h:Zcs l[n]=true):clGo (l.drop n) 0 n=clGo (l.drop (n+1)) 1 (n+1):=by
 rw [ZjO hn,ZkN h,if_neg (by omega)];rfl
theorem Zhs (v:Value) (l:List Tok) (fp:List Nat) (n:Nat) (w:World) (hl60:l.length<=60) (hn:n<l.length) (ho:Zcs l[n]=true) (hx:∀ k,(hk:k<l.length)->l[k].hidden.length<=2000000) (H:(Zaa sTok).R w [v] l fp) :
  Calls Tryz.prog 125 #[v,.int .i64 n] w (ZfE (Zdb l n) w):=by
 have HR1:=Qh H
 obtain⟨a1,c1,rfl,hc1,hm1,hrow⟩:=Zac H
 unfold maxLen at hm1
 obtain⟨b1,off1,fps1,rfl,hb1,-,he1⟩:=hrow (by omega)
 clear H hrow he1
 have hNo:∀ (W:World),Below w.heap.size w W->Zdb l n=([],0,false)->ZfE (Zdb l n) w (.returned (.tuple #[.slice none 0 0,.int .i64 0,.bool false])) W:=λ W hW h=>by
  rw [h]
  exact⟨_,[],rfl,Zan sToks _ _ 0 (by simp),Own.nil _ _,hW⟩
 have HNO:=Qh hNo
 clear hNo
 go_enter Tryz.func125,Tryz.ntmps125
 have HCL:=Qh (ZgI _ l fp n w hl60 (by omega) HR1.out)
 rw [Zm2 hn ho] at HCL
 cases hcl:clGo (l.drop (n+1)) 1 (n+1) with
 |
  none =>
  have HF:=Qh (Zg1 hcl)
  rw [hcl] at HCL
  clear hcl ho
  go_wp2_with fail
  refine HCL.out.mono ?_
  rintro e w3 ⟨rfl,hb3⟩
  unfold clRes
  go_wp2
  go_ret3
  exact HNO.out _ hb3 HF.out
 |
  some e =>
  have HF:=Qh (Zg2 hcl)
  have hge:=Ze7 _ _ _ _ hcl
  rw [List.length_drop] at hge
  rw [hcl] at HCL
  clear hcl ho
  obtain⟨hge1,hge2⟩:=hge
  have hel:e<l.length:=by omega
  go_wp2_with fail
  refine HCL.out.mono ?_
  rintro ee w3 ⟨rfl,hb3⟩
  have hbx:=hb3
  have hcr:clRes (some e)=(e:Int):=rfl
  rw [hcr]
  obtain⟨ft,RT,-⟩:=Zbv e (by omega) HR1.out
  obtain⟨fd,RD,-⟩:=Za0 (n+1) (by rw [List.length_take];omega) RT
  rw [if_neg (by omega),Option.map_some,Addr.add_lit,List.drop_take] at RD
  have HLX:Hid (∀ k,(hk:k<((l.drop (n+1)).take (e-(n+1))).length)->((l.drop (n+1)).take (e-(n+1)))[k].hidden.length<=2000000):=λ k hk=>by
   rw [List.getElem_take,List.getElem_drop]
   exact hx _ _
  have HDV:=Qh (ZfD _ ((l.drop (n+1)).take (e-(n+1))) fd w3 (by rw [List.length_take,List.length_drop];omega) HLX.out ((Zaa sTok).below RD hbx))
  have hwr:IntKind.i64.wrap ((n:Int)+1)=(n:Int)+1:=IntWalk.i64_in _ (by omega)
  have hwr2:IntKind.i64.wrap ((e:Int)+1)=(e:Int)+1:=IntWalk.i64_in _ (by omega)
  have hne:¬ c1=n+1:=by omega
  have hp0:¬ (e:Int)<0:=by omega
  have hp1:(0:Int)<=(n:Int)+1:=by omega
  have hp2:(n:Int)+1<=(e:Int):=by omega
  have hp3:(e:Int)<=(c1:Int):=by omega
  have hp4:n+1<=c1:=by omega
  have hp5:((n:Int)+1).toNat=n+1:=by omega
  have hm4:sTok.m=4:=rfl
  rw [hm4] at HDV
  clear RT RD HLX
  go_wp2_with fail
  refine HDV.out.mono ?_
  rintro ee w4 ⟨v4,fp4,rfl,hR4,hO4,hb4⟩
  have HRR:=Qh hR4
  have HOO:=Qh hO4
  have hb5:=hbx.trans (hb4.mono hbx.size)
  have hs5:=hbx.size
  clear hR4 hO4
  go_wp2
  go_ret3
  rw [HF.out]
  exact⟨_,fp4,rfl,HRR.out,HOO.out.lower hs5,hb5⟩
theorem ZnW {l:List Tok} {k:Nat} (hk:k<l.length) (d:Int) (A:Args) (M:List Tok) :
  splK (l.drop k) d A M k=if d+opnK l[k]=0 then (A++[M],k+1,true) else if d+opnK l[k]=1/\isM l[k] [44]=true then splK (l.drop (k+1)) (d+opnK l[k]) (A++[M]) [] (k+1) else splK (l.drop (k+1)) (d+opnK l[k]) A (M++[l[k]]) (k+1):=by
 rw [List.drop_eq_getElem_cons hk];rfl
theorem splK_end {l:List Tok} {k:Nat} (hk:l.length<=k) (d:Int) (A:Args) (M:List Tok):splK (l.drop k) d A M k=(A,0,false):=by rw [List.drop_of_length_le hk];rfl
theorem Zgn {t:Tok} (h:isM t [40]=true):opnK t=1:=by unfold opnK;rw [if_pos h]
theorem ZnX {t:Tok} (h:isM t [40]=false) (h2:isM t [41]=true):opnK t=-1:=by unfold opnK;rw [if_neg (by simp [h]),if_pos h2]
theorem ZnY {t:Tok} (h:isM t [40]=false) (h2:isM t [41]=false):opnK t=0:=by unfold opnK;rw [if_neg (by simp [h]),if_neg (by simp [h2])]
theorem opnK_ge (t:Tok):-1<=opnK t/\opnK t<=1:=by unfold opnK;split;omega;split <;> omega
theorem open_com {t:Tok} (h:isM t [40]=true):isM t [44]=false:=by
 have e:=Zfz h
 cases h2:isM t [44]
 ·rfl
 ·have e2:=Zfz h2
  rw [e] at e2
  exact absurd e2 (by decide)
structure SplN (base:Nat) (fp:List Nat) (va:Value) (A:List (Elem (List Tok))) (vm:Value) (M:List (Elem Tok)) (w:World):Prop where
 a:RowN sToks base 28 va A w
 m:RowN sTok base 57 vm M w
 ne:∀ g,va.ownBlock=some g->vm.ownBlock≠some g
 am:∀ x∈A,∀ b∈x.fp,vm.ownBlock≠some b
 mlo:∀ x∈M,∀ b∈x.fp,b<base/\b∈fp
 alo:∀ x∈A,∀ b∈x.fp,b∈fp\/base<=b
section
variable {base:Nat} {fp:List Nat} {va vm va' vm':Value} {A:List (Elem (List Tok))} {M:List (Elem Tok)} {w w':World}
theorem SplN.below (h:SplN base fp va A vm M w) (hb:Below w.heap.size w w'):SplN base fp va A vm M w':=⟨h.a.below hb,h.m.below hb,h.ne,h.am,h.mlo,h.alo⟩
theorem SplN.arg (h:SplN base fp va A vm M w):∃ fpm,sToks.R w [vm] (M.map (·.d)) fpm/\(∀ b∈fpm,va.ownBlock≠some b)/\∀ b∈fpm,b∈fp\/base<=b:=by
 obtain⟨fpm,h1,h2,-⟩:=h.m.read
 refine ⟨fpm,h1,λ b hb hv=>?_,λ b hb=>?_⟩
 ·rcases h2 b hb with h0 | ⟨x,hx,h0⟩
  ·exact h.ne b hv h0
  ·have:=(h.mlo x hx b h0).1;have:=(h.a.mine b hv).1;omega
 ·rcases h2 b hb with h0 | ⟨x,hx,h0⟩
  ·exact .inr (h.m.mine b h0).1
  ·exact .inl (h.mlo x hx b h0).2
theorem SplN.push (h:SplN base fp va A vm M w) {x:Elem Tok} (hr:RowN sTok base 57 vm' (M++[x]) w') (hg:w.grownBy w' vm.ownBlock) (hp:vm'.ownBlock=vm.ownBlock\/vm'.ownBlock=some w.heap.size) (hx:∀ b∈x.fp,b<base/\b∈fp):SplN base fp va A vm' (M++[x]) w' where
 a:=h.a.same (λ g hgv=>hg.block g (h.a.mine g hgv).2 λ e=>h.ne g hgv e.symm) (λ y hy b hb=>hg.block b (sToks.lt (h.a.el y hy) b hb) λ e=>h.am y hy b hb e.symm)
 m:=hr
 ne:=λ g h1 h2=>by
  rcases hp with e | e
  ·exact h.ne g h1 (by rw [← e];exact h2)
  ·rw [e,Qi] at h2;have:=(h.a.mine g h1).2;omega
 am:=λ y hy b hb h2=>by
  rcases hp with e | e
  ·exact h.am y hy b hb (by rw [← e];exact h2)
  ·rw [e,Qi] at h2;have:=sToks.lt (h.a.el y hy) b hb;omega
 mlo:=λ y hy b hb=>by
  rcases Qa hy with hy | hy
  ·exact h.mlo y hy b hb
  ·rw [Qm hy] at hb;exact hx b hb
 alo:=h.alo
theorem SplN.next (h:SplN base fp va A vm M w) {y:Elem (List Tok)} (hr:RowN sToks base 28 va' (A++[y]) w') (hy:∀ b∈y.fp,b∈fp\/base<=b) (hs:base<=w'.heap.size):SplN base fp va' (A++[y]) (.slice (some ⟨w'.heap.size,0,none⟩) 0 0) [] (w'.alloc (.cells #[] 57)) where
 a:=hr.below (Zab _ _)
 m:=RowN.lit0 sTok 57 w' hs
 ne:=λ g h1 h2=>by simp only [Value.ownBlock,Qi] at h2;have:=(hr.mine g h1).2;omega
 am:=λ x hx b hb h2=>by simp only [Value.ownBlock,Qi] at h2;have:=sToks.lt (hr.el x hx) b hb;omega
 mlo:=by simp
 alo:=λ x hx b hb=>by
  rcases Qa hx with hx | hx
  ·exact h.alo x hx b hb
  ·rw [Qm hx] at hb;exact hy b hb
end
def ZiZ (fp:List Nat) (r:Args × Nat × Bool) (w:World) (e:Ending) (w':World):Prop:=
 ∃ (v:Value) (A:List (Elem (List Tok))),e=.returned (.tuple #[v,.int .i64 (r.2.1:Nat),.bool r.2.2])/\RowN sToks w.heap.size 28 v A w'/\A.map (·.d)=r.1/\(∀ x∈A,∀ b∈x.fp,b∈fp\/w.heap.size<=b)/\Below w.heap.size w w'
theorem Zj0 (v:Value) (l:List Tok) (fp:List Nat) (n:Nat) (w:World) (hl:l.length<=1000) (hn:n<l.length) (ho:isM l[n] [40]=true) (H:(Zaa sTok).R w [v] l fp) :
  Calls Tryz.prog 98 #[v,.int .i64 n] w (ZiZ fp (splK (l.drop (n+1)) 1 [] [] (n+1)) w):=by
 have HLT:=Qh ((Zaa sTok).lt H)
 obtain⟨a,cap,rfl,hc,hm,hrow⟩:=Zac H
 unfold maxLen at hm
 have HK:=Qh H
 have HOP:=Qh ho
 clear H ho
 obtain⟨r,HR⟩:∃ r,Hid (r=splK (l.drop (n+1)) 1 [] [] (n+1)):=⟨_,rfl⟩
 rw [← HR.out]
 have b0:=Zab w (.cells #[] 28)
 have b1:=b0.trans ((Zab (w.alloc (.cells #[] 28)) (.cells #[] 57)).mono b0.size)
 have hsz:(w.alloc (.cells #[] 28)).heap.size=w.heap.size+1:=Array.size_push _
 have HS0:Hid (SplN w.heap.size fp (.slice (some ⟨w.heap.size,0,none⟩) 0 0) [] (.slice (some ⟨w.heap.size+1,0,none⟩) 0 0) [] ((w.alloc (.cells #[] 28)).alloc (.cells #[] 57))):=by
  have h1:=RowN.lit0 sToks 28 w (Nat.le_refl _)
  have h2:=RowN.lit0 sTok 57 (w.alloc (.cells #[] 28)) (base:=w.heap.size) b0.size
  rw [hsz] at h2
  exact⟨h1.below (Zab _ _),h2,λ g q1 q2=>by simp only [Value.ownBlock,Qi] at q1 q2;omega,by simp,by simp,by simp⟩
 clear b0 hsz
 go_enter Tryz.func98,Tryz.ntmps98
 go_wp2
 go_loopw [7,8,9,10] (λ va vm d i wr=>∃ (k:Nat) (dd:Int) (A:List (Elem (List Tok))) (M:List (Elem Tok)),n<=k/\k<=l.length/\i=.int .i64 k/\d=.int .i64 dd/\0<=dd/\dd<=k/\A.length<=k/\M.length<=k/\Hid (SplN w.heap.size fp va A vm M wr)/\Hid ((k=n/\dd=0/\A=[]/\M=[])\/(n<k/\1<=dd/\splK (l.drop k) dd (A.map (·.d)) (M.map (·.d)) k=r))/\Below w.heap.size w wr) (λ _ _ _ i _=>l.length-(intOf i).toNat)
 case atStart=>exact⟨n,0,[],[],Nat.le_refl _,by omega,rfl,rfl,by omega,by omega,by simp,by simp,HS0,.inl ⟨rfl,rfl,rfl,rfl⟩,b1⟩
 case round =>
  clear HS0 b1
  obtain⟨k,dd,A,M,hnk,hk,rfl,rfl,hd0,hdk,hAk,hMk,HS,HI,hb⟩:=hrel
  obtain⟨aa,ca,hva,-⟩:=HS.out.a.val
  obtain⟨am,cm,hvm,-⟩:=HS.out.m.val
  subst hva hvm
  by_cases hlt:k<l.length
  ·obtain⟨b1,o1,-,rfl,-,-,-⟩:=hrow (by omega)
   obtain⟨xa,xc,xf,x0,x1,x2,x3,xR,hbb,hxf⟩:=ZaJ HK.out hlt
   replace x0:=(hb.cell (p:=⟨b1,o1+k * 4,none⟩) hbb).trans x0
   replace x1:=(hb.cell (p:=⟨b1,o1+k * 4+1,none⟩) hbb).trans x1
   replace x2:=(hb.cell (p:=⟨b1,o1+k * 4+2,none⟩) hbb).trans x2
   replace x3:=(hb.cell (p:=⟨b1,o1+k * 4+3,none⟩) hbb).trans x3
   have XR:=Qh (sTok.below xR hb)
   have HXF:Hid (∀ b∈xf,b<w.heap.size/\b∈fp):=λ b hb=>⟨HLT.out b (hxf b hb),hxf b hb⟩
   have bx:=Zab wr (.cells #[.int .i64 l[k].kind,.string l[k].text,.bool l[k].spaced,.slice xa l[k].hidden.length xc] 57)
   have HX:=Qh (heap_alloc_new wr (.cells #[.int .i64 l[k].kind,.string l[k].text,.bool l[k].spaced,.slice xa l[k].hidden.length xc] 57))
   have HST:Hid (n<k->splK (l.drop k) dd (A.map (·.d)) (M.map (·.d)) k=r):=λ h=>by
    rcases HI.out with⟨h1,-⟩ | ⟨-,-,h2⟩
    ·omega
    ·exact h2
   have hdn:n<k->1<=dd:=λ h=>by
    rcases HI.out with⟨h1,-⟩ | ⟨-,h2,-⟩
    ·omega
    ·exact h2
   have HSN:Hid (k=n->dd=0/\A=[]/\M=[]/\isM l[k] [40]=true):=λ h=>by
    rcases HI.out with⟨-,h2,h3,h4⟩ | ⟨h1,-⟩
    ·subst h;exact⟨h2,h3,h4,HOP.out⟩
    ·omega
   have HSP:=Qh (ZnW hlt dd (A.map (·.d)) (M.map (·.d)))
   have hoge:=opnK_ge l[k]
   clear xR hxf hrow HI
   go_upto_block 2 with fail
   clear x0 x1 x2 x3
   have hwr:=hb.size
   have HS2:=Qh (HS.out.below bx)
   have hbw:=hb.trans (bx.mono hb.size)
   have XR2:=Qh (sTok.below XR.out bx)
   have hbl:=mlt HX.out
   generalize (wr.alloc (.cells #[.int .i64 l[k].kind,.string l[k].text,.bool l[k].spaced,.slice xa l[k].hidden.length xc] 57))=W2 at *
   generalize l[k]=y at *
   clear XR HS bx hb
   have HQ:=Qh (λ (s:ByteArray) (U:World) (hU:Below W2.heap.size W2 U)=>Zda _ y xf U s (sTok.below XR2.out hU))
   have HL40:Hid ((decide (y.kind=4) && (y.text.toList==(⟨#[40]⟩:ByteArray).toList))=isM y [40]):=by show _=_;rw [show (⟨#[40]⟩:ByteArray).toList=[40] by rw [ByteArray.toList_eq]];rfl
   have HL41:Hid ((decide (y.kind=4) && (y.text.toList==(⟨#[41]⟩:ByteArray).toList))=isM y [41]):=by show _=_;rw [show (⟨#[41]⟩:ByteArray).toList=[41] by rw [ByteArray.toList_eq]];rfl
   have HL44:Hid ((decide (y.kind=4) && (y.text.toList==(⟨#[44]⟩:ByteArray).toList))=isM y [44]):=by show _=_;rw [show (⟨#[44]⟩:ByteArray).toList=[44] by rw [ByteArray.toList_eq]];rfl
   have HQ40:=Qh (λ (U:World) (hU:Below W2.heap.size W2 U)=>HQ.out ⟨#[40]⟩ U hU)
   have HQ41:=Qh (λ (U:World) (hU:Below W2.heap.size W2 U)=>HQ.out ⟨#[41]⟩ U hU)
   have HQ44:=Qh (λ (U:World) (hU:Below W2.heap.size W2 U)=>HQ.out ⟨#[44]⟩ U hU)
   rw [HL40.out] at HQ40
   rw [HL41.out] at HQ41
   rw [HL44.out] at HQ44
   clear HQ HL40 HL41 HL44
   go_cut [9] from 15 to 63 (λ d wx=>d=.int .i64 (dd+opnK y)/\Below W2.heap.size W2 wx)
   case first =>
    obtain⟨t0,t1,t2,t3⟩:=Q4 HX.out
    go_upto_if 25 with(go_at_call 71;refine (HQ40.out _ (Below.refl _ _)).mono ?_;rintro e u1 ⟨rfl,g1⟩)
    have HX1:=Qh (mbox HX.out g1)
    clear t0 t1 t2 t3
    obtain⟨t0,t1,t2,t3⟩:=Q4 HX1.out
    cases h40:isM y [40]
    ·cases h41:isM y [41]
     ·have HF:=Qh (ZnY h40 h41)
      rw [h41] at HQ41
      clear h40 h41
      go_wp2_with fail
      refine (HQ41.out _ g1).mono ?_
      rintro e u2 ⟨rfl,g2⟩
      go_wp2
      go_meet
      case rel=>exact⟨by rw [HF.out];simp,g1.trans (g2.mono g1.size)⟩
     ·have HF:=Qh (ZnX h40 h41)
      have hwr1:IntKind.i64.wrap (dd-1)=dd-1:=IntWalk.i64_in _ (by omega)
      rw [h41] at HQ41
      clear h40 h41
      go_wp2_with fail
      refine (HQ41.out _ g1).mono ?_
      rintro e u2 ⟨rfl,g2⟩
      go_wp2
      go_meet
      case rel=>exact⟨by rw [HF.out];rfl,g1.trans (g2.mono g1.size)⟩
    ·have HF:=Qh (Zgn h40)
     have hwr1:IntKind.i64.wrap (dd+1)=dd+1:=IntWalk.i64_in _ (by omega)
     clear h40
     go_wp2
     go_meet
     case rel=>exact⟨by rw [HF.out],g1⟩
   obtain⟨rfl,hbc⟩:=hcut
   generalize wc=W3 at *
   have HX3:=Qh (mbox HX.out hbc)
   have HS3:=Qh (HS2.out.below hbc)
   have hb3:=hbw.trans (hbc.mono hbw.size)
   have XR3:=Qh (sTok.below XR2.out hbc)
   have hk1:IntKind.i64.wrap ((k:Int)+1)=(k:Int)+1:=IntWalk.i64_in _ (by omega)
   clear HQ40 HQ41 HS2 XR2 HX
   obtain⟨fpm,rm,nm1,nm2⟩:=HS3.out.arg
   have RM:=Qh rm
   have NM1:=Qh nm1
   have NM2:=Qh nm2
   clear rm nm1 nm2
   by_cases h0:dd+opnK y=0
   ·have hnk2:n<k:=by
     rcases Nat.lt_or_eq_of_le hnk with h | h
     ·exact h
     ·obtain⟨q1,-,-,q4⟩:=HSN.out h.symm
      rw [Zgn q4,q1] at h0
      omega
    have HF:Hid (r=((A.map (·.d))++[M.map (·.d)],k+1,true)):=by show _=_;rw [← HST.out hnk2,HSP.out,if_pos h0]
    have e0:(dd+opnK y==0)=true:=by simp [h0]
    generalize dd+opnK y=d1 at *
    have bl:=Zab W3 (.cells #[.slice am M.length cm] 28)
    have HL:=Qh (heap_alloc_new W3 (.cells #[.slice am M.length cm] 28))
    have HS4:=Qh (HS3.out.below bl)
    have RM4:=Qh (sToks.below RM.out bl)
    have hb4:=hb3.trans (bl.mono hb3.size)
    clear HSP HST HSN HS3 bl
    go_wp2_with (at_builtin;refine ZaG (X:=[(⟨[.slice am M.length cm],M.map (·.d),fpm⟩:Elem (List Tok))]) Zd3 rfl (by decide) _ rfl (.tmp 38) (.tmp 40) rfl w.heap.size (.slice aa A.length ca) rfl HS4.out.a ⟨W3.heap.size,0,none⟩ 1 1 rfl rfl (λ x hx=>by obtain rfl:=Qm hx;exact⟨rfl,RM4.out,NM1.out⟩) (λ x hx u hu=>by obtain rfl:=Qm hx;rw [Qm hu];rfl) (λ j u hj=>by rw [ZaI,Nat.zero_add,cell_of_row _ _ _ _ _ _ HL.out];simpa using hj) (by unfold maxLen;omega) (by omega) hb4.size ?_;intro v5 w5 hR5 hg5 hp5;have hb5:Below w.heap.size w w5:=hb4.grown hg5 hb4.size (λ b hb=>(HS4.out.a.mine b hb).1);have HR5:=Qh hR5;obtain⟨a5,c5,hv5,-⟩:=hR5.val;rw [show (A++[(⟨[.slice am M.length cm],M.map (·.d),fpm⟩:Elem (List Tok))]).length=A.length+1 by simp] at hv5;subst hv5;clear hR5 hg5 hp5)
    go_ret3
    exact⟨.slice a5 (A.length+1) c5,_,by rw [HF.out];rfl,HR5.out,by rw [HF.out,List.map_append];rfl,(λ x hx b hb=>by
     rcases Qa hx with hx | hx
     ·exact HS4.out.alo x hx b hb
     ·rw [Qm hx] at hb;exact NM2.out b hb),hb5⟩
   have e0:(dd+opnK y==0)=false:=by simpa using h0
   by_cases hcm:dd+opnK y=1/\isM y [44]=true
   ·obtain⟨h1,h44⟩:=hcm
    have hnk2:n<k:=by
     rcases Nat.lt_or_eq_of_le hnk with h | h
     ·exact h
     ·obtain⟨-,-,-,q4⟩:=HSN.out h.symm
      rw [open_com q4] at h44
      exact absurd h44 (by simp)
    have HF:Hid (splK (l.drop (k+1)) 1 ((A.map (·.d))++[M.map (·.d)]) [] (k+1)=r):=by show _=_;rw [← HST.out hnk2,HSP.out,if_neg h0,if_pos ⟨h1,h44⟩,h1]
    rw [h44] at HQ44
    rw [h1] at e0 ⊢
    clear h0 h1 h44 HSP HST HSN
    obtain⟨t0,t1,t2,t3⟩:=Q4 HX3.out
    go_wp2_with fail
    refine (HQ44.out _ hbc).mono ?_
    rintro e u4 ⟨rfl,g4⟩
    have bl:=Zab u4 (.cells #[.slice am M.length cm] 28)
    have HL:=Qh (heap_alloc_new u4 (.cells #[.slice am M.length cm] 28))
    have HS4:=Qh ((HS3.out.below g4).below bl)
    have RM4:=Qh (sToks.below (sToks.below RM.out g4) bl)
    have hb4:=(hb3.trans (g4.mono hb3.size)).trans (bl.mono (hb3.trans (g4.mono hb3.size)).size)
    clear t0 t1 t2 t3 HS3 bl g4 HQ44
    go_wp2_with (at_builtin;refine ZaG (X:=[(⟨[.slice am M.length cm],M.map (·.d),fpm⟩:Elem (List Tok))]) Zd3 rfl (by decide) _ rfl (.tmp 51) (.tmp 53) rfl w.heap.size (.slice aa A.length ca) rfl HS4.out.a ⟨u4.heap.size,0,none⟩ 1 1 rfl rfl (λ x hx=>by obtain rfl:=Qm hx;exact⟨rfl,RM4.out,NM1.out⟩) (λ x hx u hu=>by obtain rfl:=Qm hx;rw [Qm hu];rfl) (λ j u hj=>by rw [ZaI,Nat.zero_add,cell_of_row _ _ _ _ _ _ HL.out];simpa using hj) (by unfold maxLen;omega) (by omega) hb4.size ?_;intro v5 w5 hR5 hg5 hp5;have hb5:Below w.heap.size w w5:=hb4.grown hg5 hb4.size (λ b hb=>(HS4.out.a.mine b hb).1);have HS5:=Qh (HS4.out.next hR5 NM2.out hb5.size);have hb6:=hb5.trans ((Zab w5 (.cells #[] 57)).mono hb5.size);clear hR5 hg5 hp5)
    go_roundw
    case rel=>exact⟨k+1,1,_,[],by omega,by omega,by go_num,rfl,by omega,by omega,by simp;omega,by simp,HS5,.inr ⟨by omega,by omega,by rw [List.map_append];exact HF.out⟩,hb6⟩
    case measure=>simp [intOf];omega
   have HNC:Hid (¬ (dd+opnK y=1/\isM y [44]=true)):=hcm
   have HSE:Hid (n<k->splK (l.drop (k+1)) (dd+opnK y) (A.map (·.d)) ((M.map (·.d))++[y]) (k+1)=r):=λ h=>by rw [← HST.out h,HSP.out,if_neg h0,if_neg hcm]
   have HSF:Hid (k=n->dd+opnK y=1/\A=[]/\M=[]):=λ h=>by
    obtain⟨q1,q2,q3,q4⟩:=HSN.out h
    exact⟨by rw [q1,Zgn q4];rfl,q2,q3⟩
   have hd1:1<=dd+opnK y:=by
    rcases Nat.lt_or_eq_of_le hnk with h | h
    ·have:=hdn h;omega
    ·have:=(HSF.out h.symm).1;omega
   have HDL:Hid (dd+opnK y<=(k:Int)+1):=by show _<=_;omega
   clear HSP HST HSN hcm h0
   go_upto_region 14 with fail
   go_cut [44] from 15 to 63 (λ d wx=>d=.bool false/\Below W3.heap.size W3 wx)
   case first =>
    obtain⟨t0,t1,t2,t3⟩:=Q4 HX3.out
    by_cases h1:dd+opnK y=1
    ·have e1:(dd+opnK y==1)=true:=by simp [h1]
     have h44:isM y [44]=false:=by
      cases h:isM y [44]
      ·rfl
      ·exact absurd ⟨h1,h⟩ HNC.out
     rw [h44] at HQ44
     clear h44 h1
     generalize dd+opnK y=d1 at *
     go_wp2_with fail
     refine (HQ44.out _ hbc).mono ?_
     rintro e u4 ⟨rfl,g4⟩
     go_wp2
     go_meet
     case rel=>exact⟨by trivial,g4⟩
    ·have e1:(dd+opnK y==1)=false:=by simp [h1]
     clear h1
     generalize dd+opnK y=d1 at *
     go_wp2
     go_meet
     case rel=>exact⟨by trivial,Below.refl _ _⟩
   obtain⟨rfl,hbd⟩:=hcut
   generalize wc=W4 at *
   have HX4:=Qh (mbox HX3.out hbd)
   have HS4:=Qh (HS3.out.below hbd)
   have hb4:=hb3.trans (hbd.mono hb3.size)
   have XR4:=Qh (sTok.below XR3.out hbd)
   clear HS3 XR3 HX3 HQ44 RM NM1 NM2
   rcases Nat.lt_or_eq_of_le hnk with hnk2 | hnk2
   ·have HF:=Qh (HSE.out hnk2)
    have e3:((n:Int)<(k:Int)):=by omega
    obtain⟨t0,t1,t2,t3⟩:=Q4 HX4.out
    have bl:=Zab W4 (.cells #[.int .i64 y.kind,.string y.text,.bool y.spaced,.slice xa y.hidden.length xc] 57)
    have HL:=Qh (heap_alloc_new W4 (.cells #[.int .i64 y.kind,.string y.text,.bool y.spaced,.slice xa y.hidden.length xc] 57))
    have HS5:=Qh (HS4.out.below bl)
    have XR5:=Qh (sTok.below XR4.out bl)
    have hb5:=hb4.trans (bl.mono hb4.size)
    have HMB:=Qh (λ b hb=>(HS4.out.m.mine b hb).1)
    clear HSE HSF HS4 XR4 bl
    go_wp2_with (at_builtin;refine ZaG (X:=[(⟨[.int .i64 y.kind,.string y.text,.bool y.spaced,.slice xa y.hidden.length xc],y,xf⟩:Elem Tok)]) ti_tok rfl (by decide) _ rfl (.tmp 60) (.tmp 62) rfl w.heap.size (.slice am M.length cm) rfl HS5.out.m ⟨W4.heap.size,0,none⟩ 1 1 rfl rfl (λ x hx=>by obtain rfl:=Qm hx;exact⟨rfl,XR5.out,λ b hb h=>by have h1:=(HXF.out b hb).1;have h2:=HMB.out b h;omega⟩) (λ x hx=>by obtain rfl:=Qm hx;exact ZaE _ _ _ _ XR5.out) (λ j u hj=>by rw [ZaI,Nat.zero_add,cell_of_row _ _ _ _ _ _ HL.out];simpa using hj) (by unfold maxLen;omega) (by omega) hb5.size ?_;intro v6 w6 hR6 hg6 hp6;have hb6:Below w.heap.size w w6:=hb5.grown hg6 hb5.size (λ b hb=>(HS5.out.m.mine b hb).1);have HS6:=Qh (HS5.out.push hR6 hg6 hp6 HXF.out);clear hR6 hg6 hp6)
    go_roundw
    case rel=>exact⟨k+1,dd+opnK y,A,_,by omega,by omega,by go_num,rfl,by omega,by have:=HDL.out;omega,by omega,by simp;omega,HS6,.inr ⟨by omega,by omega,by rw [List.map_append];exact HF.out⟩,hb6⟩
    case measure=>simp [intOf];omega
   ·obtain⟨q1,q2,q3⟩:=HSF.out hnk2.symm
    have e3:¬ ((n:Int)<(k:Int)):=by omega
    subst q2 q3
    have HRR:Hid (splK (l.drop (k+1)) 1 (([]:List (Elem (List Tok))).map (·.d)) (([]:List (Elem Tok)).map (·.d)) (k+1)=r):=by show _=_;rw [HR.out,hnk2];rfl
    rw [q1]
    clear q1 HSE HSF hnk2
    go_wp2
    go_roundw
    case rel=>exact⟨k+1,1,[],[],by omega,by omega,by go_num,rfl,by omega,by omega,by simp,by simp,HS4,.inr ⟨by omega,by omega,HRR.out⟩,hb4⟩
    case measure=>simp [intOf];omega
  ·have HF:Hid (r=(A.map (·.d),0,false)):=by
    rcases HI.out with⟨h1,-⟩ | ⟨_,_,h⟩
    ·omega
    ·rw [splK_end (by omega)] at h;exact h.symm
   have HA:=Qh HS.out.a
   have HLO:=Qh HS.out.alo
   clear HI HR
   go_wp2
   go_ret3
   exact⟨_,A,by rw [HF.out];rfl,HA.out,by rw [HF.out],HLO.out,hb⟩
theorem ti_rows:TI Tryz.prog 110 28 (.slice none 0 0) 1 24:=⟨by kernel_rfl,by kernel_rfl⟩
def OwnRows (l:List (List Tok)) (w:World) (e:Ending) (w':World):Prop:=∃ v fp,e=.returned v/\(Zaa (Zaa sTok)).R w' [v] l fp/\(∀ b∈fp,w.heap.size<=b)/\Below w.heap.size w w'
def Zgo (l:List (List Tok)):Prop:=∀ k,(hk:k<l.length)->l[k].length<=1048576/\∀ j,(hj:j<l[k].length)->l[k][j].hidden.length<=2000000
theorem Zdf (v:Value) (l:List (List Tok)) (fp:List Nat) (w:World) (hl:l.length<=1048576) (hx:Zgo l) (H:(Zaa (Zaa sTok)).R w [v] l fp) :
  Calls Tryz.prog 101 #[v] w (OwnRows l w):=by
 have HH:=Qh H
 obtain⟨a,cap,rfl,hc,hm,hrow⟩:=Zac H
 unfold maxLen at hm
 clear H
 have HG0:=Qh (RowN.lit0 (Zaa sTok) 28 w (Nat.le_refl _))
 have hba:=Zab w (.cells #[] 28)
 have HX:=Qh hx
 clear hx
 go_enter Tryz.func101,Tryz.ntmps101
 go_wp2
 go_loopw [3,4] (λ o i wr=>∃ (k:Nat) (L:List (Elem (List Tok))),k<=l.length/\i=.int .i64 k/\Hid (RowN (Zaa sTok) w.heap.size 28 o L wr)/\Hid (L.map (·.d)=l.take k)/\Hid (∀ x∈L,∀ b∈x.fp,w.heap.size<=b)/\Below w.heap.size w wr) (λ _ i _=>l.length-(intOf i).toNat)
 case atStart=>exact⟨0,[],by omega,rfl,HG0.out,rfl,(λ x hx=>by simp at hx),hba⟩
 case round =>
  clear HG0 hba
  obtain⟨k,L,hk,rfl,HR,HD,HLO,hb⟩:=hrel
  obtain⟨ao,co,rfl,-⟩:=HR.out.val
  by_cases hlt:k<l.length
  ·obtain⟨bb,ob,-,rfl,-,-,-⟩:=hrow (by omega)
   obtain⟨aj,cj,fj,dq,Rj,hbb,-⟩:=Zb5 HH.out hlt
   have c0:wr.cell? ⟨bb,ob+k,none⟩=some _:=(hb.cell (p:=⟨bb,ob+k,none⟩) hbb).trans dq
   have HC:=Qh (ZaS _ l[k] fj wr (HX.out k hlt).1 (HX.out k hlt).2 ((Zaa sTok).below Rj hb))
   have HLl:Hid (L.length=k):=by have:=congrArg List.length HD.out;simp at this;show _=_;omega
   clear dq Rj hrow
   go_wp2_with fail
   refine HC.out.mono ?_
   rintro e w2 ⟨v2,f2,rfl,R2,lo2,-,hb2⟩
   obtain⟨a2,c2,rfl,-⟩:=Zac R2
   have hmine:=HR.out.mine
   have hba:=Zab w2 (.cells #[.slice a2 l[k].length c2] 28)
   have HR2:=Qh (HR.out.below (hb2.trans (hba.mono hb2.size)))
   have hbw:=hb.trans ((hb2.trans (hba.mono hb2.size)).mono hb.size)
   have HE:=Qh ((Zaa sTok).below R2 hba)
   have HAP:Hid (∀ b∈f2,(Value.slice ao L.length co).ownBlock≠some b):=λ b hb' h=>by have h1:=hmine b h;have h2:=lo2 b hb';omega
   have HLO2:Hid (∀ b∈f2,w.heap.size<=b):=λ b hb'=>by have h1:=lo2 b hb';have h2:=hb.size;omega
   obtain⟨N,HN⟩:∃ N:Nat,Hid (N=l[k].length):=⟨l[k].length,Qh rfl⟩
   clear c0 HC R2 lo2 hmine hb2 hba HR
   go_wp2_with (at_builtin;refine ZaG (X:=[(⟨[.slice a2 l[k].length c2],l[k],f2⟩:Elem (List Tok))]) ti_rows rfl (by decide) _ rfl (.tmp 12) (.tmp 18) rfl w.heap.size (.slice ao L.length co) rfl HR2.out ⟨w2.heap.size,0,none⟩ 1 1 rfl rfl (λ x hx=>by obtain rfl:=Qm hx;exact⟨rfl,HE.out,HAP.out⟩) (λ x hx=>by obtain rfl:=Qm hx;simp [Value.oneCell']) (λ j u hj=>by
           rw [Addr.add_lit,Nat.zero_add,World.cell?_alloc_at _ _ _ _ rfl]
           simpa using hj) (by unfold maxLen;have:=HLl.out;omega) (by have:=HLl.out;omega) hbw.size ?_;intro v3 w3 hR3 hg3 hp3)
   have hb3:Below w.heap.size w w3:=hbw.grown hg3 hbw.size (λ b hb=>(HR2.out.mine b hb).1)
   have HR3:=Qh hR3
   have HD3:Hid ((L++[(⟨[.slice a2 l[k].length c2],l[k],f2⟩:Elem (List Tok))]).map (·.d)=l.take (k+1)):=by
    show _=_
    rw [List.map_append,HD.out,List.take_succ_eq_append_getElem hlt];rfl
   have HLO3:Hid (∀ x∈L++[(⟨[.slice a2 l[k].length c2],l[k],f2⟩:Elem (List Tok))],∀ b∈x.fp,w.heap.size<=b):=λ x hx=>by
    rcases Qa hx with hx | hx
    ·exact HLO.out x hx
    ·obtain rfl:=Qm hx;exact HLO2.out
   clear hR3 hg3 hp3
   go_roundw
   case rel=>exact⟨k+1,_,by omega,by go_num,HR3.out,HD3.out,HLO3.out,hb3⟩
   case measure=>simp [intOf];omega
  ·obtain⟨fpr,hr,hin,-⟩:=HR.out.read
   have hd:=HD.out
   rw [List.take_of_length_le (by omega)] at hd
   rw [hd] at hr
   have HRR:=Qh hr
   have HF:Hid (∀ b∈fpr,w.heap.size<=b):=λ b hb'=>by
    rcases hin b hb' with h | ⟨x,hx,h⟩
    ·exact(HR.out.mine b h).1
    ·exact HLO.out x hx b h
   clear hr hin hd
   go_wp2
   go_ret
   exact⟨_,fpr,rfl,HRR.out,HF.out,hb⟩
end Go.Proofs.YtiaiggjfepoahaaGreat
