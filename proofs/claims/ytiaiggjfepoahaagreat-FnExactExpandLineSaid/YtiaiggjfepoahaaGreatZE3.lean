/- Texts that the proof of E stands on, in one file. -/
import Derived.Test.YtiaiggjfepoahaaGreatZE2
import Derived.Deep.RegionHeld3
import Derived.Deep.QuietTactic
import Derived.BigQuiet
import Derived.Outline
import Derived.StillTailTactics
import Derived.Laws.Cover1
import Derived.IntWalk
import Derived.Laws.Strings2
import Derived.Laws.Concat
import Derived.Test.YtiaiggjfepoahaaGreatShelf
set_option linter.unusedVariables false
set_option maxHeartbeats 16000000
set_option maxRecDepth 100000
set_option linter.unusedSimpArgs false
/- Tokens and the law's own helpers. -/
namespace Go.Proofs.YtiaiggjfepoahaaGreat
open Go.RowKit
def Zf7 (k:Int) (x:Tok):Tok:=⟨k,mtext (k+1),(k+1+1) % 3==0,marks mtext (k+1+1+1) x.hidden.length⟩
def ZaO (x:Tok):Nat:=3+x.hidden.length
def ZdN (k:Int) (l:List Tok):List Tok:=mkAll Zf7 ZaO k l
def ZaF (l:List Tok):Nat:=ZaD ZaO l
theorem ZjC (cs1 cs2:List Value) (x:Tok) (fp1 fp2:List Nat) (w:World) (H1:sTok.R w cs1 x fp1) (H2:sTok.R w cs2 x fp2) :
  Calls Tryz.prog 43 #[.agg cs1.toArray,.agg cs2.toArray] w λ e w'=>e=.returned (.bool true)/\Below w.heap.size w w':=by
 obtain⟨h1,rfl,_,_,K1⟩:=H1
 obtain⟨h2,rfl,_,_,K2⟩:=H2
 have b0:=Zab w (.cells #[.int .i64 x.kind,.string x.text,.bool x.spaced,h1] 57)
 have b1:=b0.trans ((Zab (w.alloc (.cells #[.int .i64 x.kind,.string x.text,.bool x.spaced,h1] 57)) (.cells #[.int .i64 x.kind,.string x.text,.bool x.spaced,h2] 57)).mono b0.size)
 have HC:Hid (∀ W,Below w.heap.size w W->Calls Tryz.prog 82 #[h1,h2] W λ e w'=>e=.returned (.bool true)/\Below W.heap.size W w'):=λ W hb=>Zew h1 h2 x.hidden fp1 fp2 W ((Zaa sStr).below K1 hb) ((Zaa sStr).below K2 hb)
 have e1:(x.kind != x.kind)=false:=by simp
 have e2:=ZaP (rfl:x.text=x.text)
 have e3:(x.spaced != x.spaced)=false:=by simp
 go_enter Tryz.func43,Tryz.ntmps43
 go_wp2_with (go_at_call 82;refine (HC.out _ b1).mono ?_;rintro e w1 ⟨rfl,hb1⟩)
 go_ret
 exact⟨rfl,b1.trans (hb1.mono b1.size)⟩
theorem Zb1 (v1 v2:Value) (l:List Tok) (fp1 fp2:List Nat) (w:World) (H1:(Zaa sTok).R w [v1] l fp1) (H2:(Zaa sTok).R w [v2] l fp2) :
  Calls Tryz.prog 19 #[v1,v2] w λ e w'=>e=.returned (.bool true)/\Below w.heap.size w w':=by
 obtain⟨a1,cap1,rfl,hc1,hm1,hrow1⟩:=Zac H1
 obtain⟨a2,cap2,rfl,hc2,hm2,hrow2⟩:=Zac H2
 unfold maxLen at hm1 hm2
 have hnb:((l.length:Int) != (l.length:Int))=false:=by simp
 go_enter Tryz.func19,Tryz.ntmps19
 go_wp2
 go_loopw [5] (λ i wr=>∃ k:Nat,k<=l.length/\i=.int .i64 k/\Below w.heap.size w wr) (λ i _=>l.length-(intOf i).toNat)
 case atStart=>exact⟨0,by omega,rfl,Below.refl _ _⟩
 case round =>
  obtain⟨k,hk,rfl,hb⟩:=hrel
  by_cases hlt:k<l.length
  ·obtain⟨b1,off1,fps1,rfl,hb1,rfl,he1⟩:=hrow1 (by omega)
   obtain⟨b2,off2,fps2,rfl,hb2,rfl,he2⟩:=hrow2 (by omega)
   obtain⟨es1,hE1,hR1⟩:=he1 k hlt
   obtain⟨es2,hE2,hR2⟩:=he2 k hlt
   clear hrow1 hrow2 he1 he2 H1 H2
   have hR1':=hR1
   have hR2':=hR2
   obtain⟨h1,rfl,_,_,K1⟩:=hR1'
   obtain⟨h2,rfl,_,_,K2⟩:=hR2'
   have hE1':=hE1.frame (hb.block b1 hb1)
   have hE2':=hE2.frame (hb.block b2 hb2)
   have HC:Hid (∀ W,Below wr.heap.size wr W->Calls Tryz.prog 43 #[.agg #[.int .i64 l[k].kind,.string l[k].text,.bool l[k].spaced,h1],.agg #[.int .i64 l[k].kind,.string l[k].text,.bool l[k].spaced,h2]] W λ e w'=>e=.returned (.bool true)/\Below W.heap.size W w'):=λ W hW=>ZjC _ _ l[k] _ _ W (sTok.below (sTok.below hR1 hb) hW) (sTok.below (sTok.below hR2 hb) hW)
   have c10:wr.cell? ⟨b1,off1+k * 4,none⟩=some _:=Zam hE1' (by decide) rfl
   have c11:wr.cell? ⟨b1,off1+k * 4+1,none⟩=some _:=Zae (j:=1) hE1' (by decide) rfl
   have c12:wr.cell? ⟨b1,off1+k * 4+2,none⟩=some _:=Zae (j:=2) hE1' (by decide) rfl
   have c13:wr.cell? ⟨b1,off1+k * 4+3,none⟩=some _:=Zae (j:=3) hE1' (by decide) rfl
   have c20:wr.cell? ⟨b2,off2+k * 4,none⟩=some _:=Zam hE2' (by decide) rfl
   have c21:wr.cell? ⟨b2,off2+k * 4+1,none⟩=some _:=Zae (j:=1) hE2' (by decide) rfl
   have c22:wr.cell? ⟨b2,off2+k * 4+2,none⟩=some _:=Zae (j:=2) hE2' (by decide) rfl
   have c23:wr.cell? ⟨b2,off2+k * 4+3,none⟩=some _:=Zae (j:=3) hE2' (by decide) rfl
   go_wp2_with fail
   go_still_tail 8,(by kernel_rfl)
   change wpList _ _ _ _ _ wr.drew
   have hd:Below wr.heap.size wr wr.drew:=Zag (Below.refl _ _) 1
   generalize wr.drew=w2 at *
   go_wp2_with (go_at_call 43;refine (HC.out _ hd).mono ?_;rintro e w3 ⟨rfl,hb3⟩)
   go_roundw
   case rel=>exact⟨k+1,by omega,by go_num,(hb.trans (hd.mono hb.size)).trans (hb3.mono (Nat.le_trans hb.size hd.size))⟩
   case measure=>simp [intOf];omega
  ·go_wp2
   go_ret
   exact⟨rfl,hb⟩
theorem ZeV (v:Value) (l:List Tok) (fp:List Nat) (lo:Nat) (k:Int) (w:World) (h0:0<=k) (h1:k+ZaF l<=2305843009213693952) (H:(Zaa sTok).R w [v] l fp) (O:Own w lo fp) :
  Calls Tryz.prog 22 #[v,.int .i64 k] w (Zjw (Zaa sTok) v (ZdN k l) fp lo (k+ZaF l) w):=by
 have HI:=Qh H
 obtain⟨a,cap,rfl,hc,hm,hrow0⟩:=Zac H
 have hm':=hm
 unfold maxLen at hm
 clear H hrow0
 go_enter Tryz.func22,Tryz.ntmps22
 go_wp2
 go_loopw [1,5] (λ t i wr=>∃ (j:Nat) (L:List Tok) (kk:Int),j<=l.length/\i=.int .i64 j/\t=.int .i64 kk/\Hid (kk=k+ZaD ZaO (l.take j))/\Hid (MkUpto Zf7 ZaO k l j L)/\Hid ((Zaa sTok).R wr [.slice a l.length cap] L fp)/\Own wr lo fp/\Kept fp w wr) (λ _ i _=>l.length-(intOf i).toNat)
 case atStart=>exact⟨0,l,k,by omega,rfl,rfl,by show _=_;simp [ZaD],MkUpto.zero _ _,HI.out,O,Kept.refl _ _⟩
 case round =>
  obtain⟨j,L,kk,hj,rfl,rfl,HKK,HM,HR,HO,HK⟩:=hrel
  by_cases hlt:j<l.length
  ·obtain⟨a',cap',hv,hc',hm'',hrow⟩:=Zac HR.out
   have hLl:=HM.out.len
   obtain⟨b,off,fps,hab,hb,hfp,he⟩:=hrow (by omega)
   simp only [Value.slice.injEq] at hv
   obtain⟨rfl,hv2,rfl⟩:=hv
   subst hab
   clear hv2
   rw [hLl] at hfp
   subst hfp
   obtain⟨es,hE,hR⟩:=he j (by omega)
   rw [HM.out.at hlt] at hR
   have hle:=Zfz (c:=ZaO) l (j+1)
   rw [Zb5 hlt] at hle
   have hKb:(0:Int)<=kk/\kk+3+l[j].hidden.length<=2305843009213693952:=by
    have:=HKK.out
    unfold ZaF at h1
    have hc3:ZaO l[j]=3+l[j].hidden.length:=rfl
    omega
   obtain⟨hk0,hk1⟩:=hKb
   have HX:=Qh (HM.out.succ hlt)
   have HXK:Hid (kk+3+l[j].hidden.length=k+ZaD ZaO (l.take (j+1))):=by
    show _=_
    rw [Zb5 hlt]
    have:=HKK.out
    have hc3:ZaO l[j]=3+l[j].hidden.length:=rfl
    omega
   rw [← HKK.out] at HX
   obtain⟨h3,rfl,_,_,K3⟩:=hR
   have hnd:=HO.1
   have hap:=Zdx hnd hlt
   have hbm:b∈b::(List.range l.length).flatMap fps:=by simp
   have Hrow:Hid (∀ (w':World) (d:Tok) (es':List Value),Turned b (off+j * sTok.m) (off+j * sTok.m+sTok.m) (fps j) wr w'->ElemAt w' b off sTok.m j es'->sTok.R w' es' d (fps j)->(Zaa sTok).R w' [.slice (some ⟨b,off,none⟩) l.length cap] (L.set j d) (b::(List.range l.length).flatMap fps)):=
    λ w' d es' hT h1 h2=>Zho hLl hc hm' hb he hlt hnd hT h1 h2
   clear he hrow hc' hm'' hle h1 hLl
   have hm4:sTok.m=4:=rfl
   rw [hm4] at hE
   have HW0:=Qh (Wr.start (fpj:=fps j) hE HO hb hbm hap.1)
   have c0:=HW0.out.cell0 (by decide) rfl
   have f0:=HW0.out.frozen (off+j * 4)
   go_wp2_with fail
   refine (ZdI _ _ (by omega)).mono ?_
   rintro e W2 ⟨rfl,hb2⟩
   have HW1:=Qh ((HW0.out.set0 (by decide) (.int .i64 kk)).below hb2)
   have K31:=(Zaa sStr).below ((Zaa sStr).setB K3 hap.1 (off+j * 4) (.int .i64 kk)) hb2
   have c1:=HW1.out.cell 1 (by decide) rfl
   have f1:=HW1.out.frozen (off+j * 4+1)
   have HW2:=Qh (HW1.out.set 1 (by decide) (.string (mtext (kk+1))))
   have K32:=(Zaa sStr).setB K31 hap.1 (off+j * 4+1) (.string (mtext (kk+1)))
   have c2:=HW2.out.cell 2 (by decide) rfl
   have f2:=HW2.out.frozen (off+j * 4+2)
   have HW3:=Qh (HW2.out.set 2 (by decide) (.bool ((kk+1+1) % 3==0)))
   have K33:=(Zaa sStr).setB K32 hap.1 (off+j * 4+2) (.bool ((kk+1+1) % 3==0))
   have c3:=HW3.out.cell 3 (by decide) rfl
   have HN3:=Qh (HW3.out.o.sub (Zhp hnd hlt) (ZeU hlt))
   have HOK:Hid (okInt kk/\okStr (mtext (kk+1))):=⟨⟨by omega,by omega⟩,ZeN (by omega)⟩
   clear c0 f0 hE hb2 K31 K32 HW1 HW0
   go_wp2_with fail
   refine (Zgq _ _ _ lo _ _ (by omega) (by omega) K33 HN3.out).mono ?_
   rintro e W5 ⟨rfl,R5,O5,hk5⟩
   have HW5:=Qh (HW3.out.sub hk5 O5 (λ x hx=>hx))
   clear hk5 c3 f1 f2 c1 c2 HW3 HW2 K33 HN3
   have HR5:=Qh (Hrow.out W5 (Zf7 kk l[j]) _ HW5.out.t HW5.out.e ⟨h3,rfl,HOK.out.1,HOK.out.2,R5⟩)
   have HK5:=Qh (HK.trans (HW5.out.t.keptAll hlt))
   have HO5:=Qh HW5.out.o
   have hk2:kk+1+1+1+(l[j].hidden.length:Int)=kk+3+l[j].hidden.length:=by omega
   clear Hrow HW5 R5 O5 HR HO HK hnd hap hb
   go_wp2
   go_roundw
   case rel=>exact⟨j+1,_,_,by omega,by go_num,rfl,by show _=_;have:=HXK.out;omega,HX,HR5,HO5.out,HK5.out⟩
   case measure=>simp [intOf];omega
  ·have HD:=HM.out.done (by omega)
   have hjl:l.take j=l:=List.take_of_length_le (by omega)
   have HKD:=HKK.out
   rw [hjl] at HKD
   have HF:=Qh HKD
   have HRD:=HR.out
   rw [HD] at HRD
   have HRF:=Qh HRD
   clear hjl HKD HRD HR HM HKK HD
   go_wp2
   go_ret
   exact⟨by rw [HF.out];rfl,HRF.out,HO,HK⟩
theorem Zhq (v:Value) (l:List Tok) (fp:List Nat) (k:Int) (w:World) (h0:0<=k) (h1:k+ZaF l<=2305843009213693952) (H:(Zaa sTok).R w [v] (ZdN k l) fp) :
  Calls Tryz.prog 23 #[v,.int .i64 k] w λ e w'=>e=.returned (.int .i64 (k+ZaF l))/\Below w.heap.size w w':=by
 obtain⟨a,cap,rfl,hc,hm,hrow⟩:=Zac H
 have hml:(ZdN k l).length=l.length:=Zd8 _ _
 rw [hml] at hc ⊢
 unfold maxLen at hm
 have Hrow:Hid (∀ j,(hj:j<l.length)->∃ b off fps h,a=some ⟨b,off,none⟩/\b<w.heap.size/\ElemAt w b off 4 j [.int .i64 (k+ZaD ZaO (l.take j)),.string (mtext (k+ZaD ZaO (l.take j)+1)),.bool ((k+ZaD ZaO (l.take j)+1+1) % 3==0),h]/\(Zaa sStr).R w [h] (marks mtext (k+ZaD ZaO (l.take j)+1+1+1) l[j].hidden.length) fps):=by
  intro j hj
  obtain⟨b,off,fps,hab,hb,_,he⟩:=hrow (by omega)
  obtain⟨es,hE,hR⟩:=he j (by rw [hml];exact hj)
  have hg:(ZdN k l)[j]'(by rw [hml];exact hj)=Zf7 (k+ZaD ZaO (l.take j)) l[j]:=ZfA k j hj
  rw [hg] at hR
  obtain⟨h,rfl,_,_,K⟩:=hR
  exact⟨b,off,fps j,h,hab,hb,hE,K⟩
 clear H hrow hml
 go_enter Tryz.func23,Tryz.ntmps23
 go_wp2
 go_loopw [1,5] (λ t i wr=>∃ (j:Nat) (kk:Int),j<=l.length/\i=.int .i64 j/\t=.int .i64 kk/\Hid (kk=k+ZaD ZaO (l.take j))/\Below w.heap.size w wr) (λ _ i _=>l.length-(intOf i).toNat)
 case atStart=>exact⟨0,k,by omega,rfl,rfl,by show _=_;simp [ZaD],Below.refl _ _⟩
 case round =>
  obtain⟨j,kk,hj,rfl,rfl,HKK,hbel⟩:=hrel
  by_cases hlt:j<l.length
  ·obtain⟨b,off,fpj,h,rfl,hb,hE,K⟩:=Hrow.out j hlt
   have hle:=Zfz (c:=ZaO) l (j+1)
   rw [Zb5 hlt] at hle
   have hKb:(0:Int)<=kk/\kk+3+l[j].hidden.length<=2305843009213693952:=by
    have:=HKK.out
    unfold ZaF at h1
    have hc3:ZaO l[j]=3+l[j].hidden.length:=rfl
    omega
   obtain⟨hk0,hk1⟩:=hKb
   have HXK:Hid (kk+3+l[j].hidden.length=k+ZaD ZaO (l.take (j+1))):=by
    show _=_
    rw [Zb5 hlt]
    have:=HKK.out
    have hc3:ZaO l[j]=3+l[j].hidden.length:=rfl
    omega
   rw [← HKK.out] at hE K
   replace hE:=hE.frame (hbel.block b hb)
   replace K:=(Zaa sStr).below K hbel
   have hbr:b<wr.heap.size:=Nat.lt_of_lt_of_le hb hbel.size
   have c0:wr.cell? ⟨b,off+j * 4,none⟩=some _:=Zam hE (by decide) rfl
   have c1:wr.cell? ⟨b,off+j * 4+1,none⟩=some _:=Zae hE (by decide) rfl
   have c2:wr.cell? ⟨b,off+j * 4+2,none⟩=some _:=Zae hE (by decide) rfl
   have c3:wr.cell? ⟨b,off+j * 4+3,none⟩=some _:=Zae hE (by decide) rfl
   have e0:(kk != kk)=false:=by simp
   have e1:=ZaP (rfl:mtext (kk+1)=mtext (kk+1))
   have e2:(((kk+1+1) % 3==0) != ((kk+1+1) % 3==0))=false:=by simp
   clear Hrow h1 hle
   go_wp2_with fail
   go_region_held3 (λ w'=>w'.cell? ⟨b,off+j * 4+1,none⟩=some (.string (mtext (kk+1))))
    (first | go_keep | ((rw [hb2.cell (p:=⟨b,off+j * 4+1,none⟩) (by simp;omega)];assumption)))
    (first | (go_at_call 45;refine (ZdI _ _ (by omega)).mono ?_;rintro e w2 ⟨rfl,hb2⟩))
   have hbw:=hbel.drew.trans (hb2.mono hbel.size)
   have c2':w2.cell? ⟨b,off+j * 4+2,none⟩=some _:=(hb2.cell (p:=⟨b,off+j * 4+2,none⟩) (by simp;omega)).trans c2
   have c3':w2.cell? ⟨b,off+j * 4+3,none⟩=some _:=(hb2.cell (p:=⟨b,off+j * 4+3,none⟩) (by simp;omega)).trans c3
   have K2:=(Zaa sStr).below ((Zaa sStr).frame (w':=wr.drew) (λ _ _=>rfl) K) hb2
   clear c0 c1 c2 c3 K hE hb2
   go_wp2_with (go_at_call 47;refine (ZkE _ _ _ _ _ (by omega) (by omega) K2).mono ?_;rintro e w3 ⟨rfl,hb3⟩)
   go_roundw
   case rel=>exact⟨j+1,_,by omega,by go_num,rfl,by show _=_;have:=HXK.out;omega,hbw.trans (hb3.mono hbw.size)⟩
   case measure=>simp [intOf];omega
  ·have hjl:l.take j=l:=List.take_of_length_le (by omega)
   have HKD:=HKK.out
   rw [hjl] at HKD
   have HF:=Qh HKD
   clear hjl HKD HKK
   go_wp2
   go_ret
   exact⟨by rw [HF.out];rfl,hbel⟩
def ZaL (x:Tok):Nat:=x.text.size+ZaY x.hidden
theorem szToken (cs:List Value) (x:Tok) (fp:List Nat) (w:World) (B:Int) (h0:0<=B) (h1:B<=1048576) (H:sTok.R w cs x fp) :
  Calls Tryz.prog 32 #[.agg cs.toArray,.int .i64 B] w λ e w'=>∃ r:Int,e=.returned (.int .i64 r)/\SzR B r (ZaL x)/\Below w.heap.size w w':=by
 obtain⟨h,rfl,_,hok,K⟩:=H
 unfold okStr maxLen at hok
 have b0:=Zab w (.cells #[.int .i64 x.kind,.string x.text,.bool x.spaced,h] 62)
 by_cases ht:B<x.text.size
 ·have HN:Hid (SzR B (-1) (ZaL x)):=SzR.no (by unfold ZaL;omega)
  go_enter Tryz.func32,Tryz.ntmps32
  go_wp2
  go_ret
  exact⟨-1,rfl,HN.out,b0⟩
 ·have HC:Hid (∀ W,Below w.heap.size w W->Calls Tryz.prog 65 #[h,.int .i64 (B-x.text.size)] W λ e w'=>∃ r:Int,e=.returned (.int .i64 r)/\SzR (B-x.text.size) r (ZaY x.hidden)/\W=w'):=λ W hb=>ZiN h x.hidden fp W (B-x.text.size) (by omega) (by omega) ((Zaa sStr).below K hb)
  go_enter Tryz.func32,Tryz.ntmps32
  go_wp2_with fail
  refine (HC.out _ b0).mono ?_
  rintro e w1 ⟨r,rfl,hr,rfl⟩
  by_cases hn:r<0
  ·have HN:Hid (SzR B (-1) (ZaL x)):=by
    refine SzR.no ?_
    unfold SzR at hr;unfold ZaL;split at hr <;> omega
   go_wp2
   go_ret
   exact⟨-1,rfl,HN.out,b0⟩
  ·have hg:=hr.good hn
   have hl:=hr.le (by omega)
   have HN:Hid (SzR B r (ZaL x)):=SzR.yes (by unfold ZaL;omega) (by unfold ZaL;omega)
   clear hg hr
   go_wp2
   go_ret
   exact⟨r,rfl,HN.out,b0⟩
theorem toToken (cs:List Value) (x:Tok) (fp:List Nat) (w:World) (hW:ZaL x<=1048576) (H:sTok.R w cs x fp) :
  Calls Tryz.prog 39 #[.agg cs.toArray] w (MadeC sTok x w):=by
 obtain⟨h,rfl,hk,hok,K⟩:=H
 have hW':ZaY x.hidden<=1048576:=by unfold ZaL at hW;omega
 have HC:Hid (∀ W,Below w.heap.size w W->Calls Tryz.prog 76 #[h] W (Made (Zaa sStr) x.hidden W)):=λ W hb=>ZiO h x.hidden fp W hW' ((Zaa sStr).below K hb)
 go_enter Tryz.func39,Tryz.ntmps39
 have b3:=Zex w #[.int .i64 x.kind,.string x.text,.bool x.spaced,h] #[.int .i64 0,.string ⟨#[]⟩,.bool false,.slice none 0 0] #[.int .i64 x.kind,.string x.text,.bool x.spaced,.slice none 0 0] 62 57 57
 obtain⟨g1,g2,g3⟩:=Zcn w #[.int .i64 x.kind,.string x.text,.bool x.spaced,h] #[.int .i64 0,.string ⟨#[]⟩,.bool false,.slice none 0 0] #[.int .i64 x.kind,.string x.text,.bool x.spaced,.slice none 0 0] 62 57 57
 have HG:=Qh (And.intro g1 (And.intro g2 g3))
 clear g1 g2 g3
 go_wp2_with fail
 refine (HC.out _ b3).mono ?_
 rintro e w1 ⟨h1,fp1,rfl,R1,O1,hb1⟩
 have HG1:Hid (w1.heap[w.heap.size+1]?=some (.cells #[.int .i64 0,.string ⟨#[]⟩,.bool false,.slice none 0 0] 57 (0,0))/\w1.heap[w.heap.size+1+1]?=some (.cells #[.int .i64 x.kind,.string x.text,.bool x.spaced,.slice none 0 0] 57 (0,0))):=
  ⟨(hb1.block _ (by rw [HG.out.2.2];omega)).trans HG.out.1,(hb1.block _ (by rw [HG.out.2.2];omega)).trans HG.out.2.1⟩
 have hb:=b3.trans (hb1.mono b3.size)
 have hlo:∀ b∈fp1,w.heap.size+3<=b:=λ b hb=>by have:=(O1.2 b hb).1;rw [HG.out.2.2] at this;omega
 rw [HG.out.2.2] at O1
 clear HG hb1 b3 HC
 obtain⟨a1,cap1,rfl,hq⟩:=Zac R1
 clear hq
 have c10:=Qc 0 HG1.out.1
 have c11:=Qc 1 HG1.out.1
 have c12:=Qc 2 HG1.out.1
 have c13:=Qc 3 HG1.out.1
 have c20:=Qc 0 HG1.out.2
 have c21:=Qc 1 HG1.out.2
 have c22:=Qc 2 HG1.out.2
 have c23:=Qc 3 HG1.out.2
 have f10:=Qf 0 HG1.out.1
 have f11:=Qf 1 HG1.out.1
 have f12:=Qf 2 HG1.out.1
 have f13:=Qf 3 HG1.out.1
 have f23:=Qf 3 HG1.out.2
 have hn1:w.heap.size+1∉fp1:=λ hx=>by have:=hlo _ hx;omega
 have hn2:w.heap.size+1+1∉fp1:=λ hx=>by have:=hlo _ hx;omega
 have HR:=Qh ((Zaa sStr).setB ((Zaa sStr).setB ((Zaa sStr).setB ((Zaa sStr).setB ((Zaa sStr).setB R1 hn2 3 (.slice a1 x.hidden.length cap1)) hn1 0 (.int .i64 x.kind)) hn1 1 (.string x.text)) hn1 2 (.bool x.spaced)) hn1 3 (.slice a1 x.hidden.length cap1))
 have HO:=Qh ((((((O1.lower (by omega:w.heap.size<=w.heap.size+1+1+1)).setCell ⟨w.heap.size+1+1,3,none⟩ (.slice a1 x.hidden.length cap1)).setCell ⟨w.heap.size+1,0,none⟩ (.int .i64 x.kind)).setCell ⟨w.heap.size+1,1,none⟩ (.string x.text)).setCell ⟨w.heap.size+1,2,none⟩ (.bool x.spaced)).setCell ⟨w.heap.size+1,3,none⟩ (.slice a1 x.hidden.length cap1))
 have HB:=Qh (((((hb.setCell (p:=⟨w.heap.size+1+1,3,none⟩) (by simp;omega) (.slice a1 x.hidden.length cap1)).setCell (p:=⟨w.heap.size+1,0,none⟩) (by simp) (.int .i64 x.kind)).setCell (p:=⟨w.heap.size+1,1,none⟩) (by simp) (.string x.text)).setCell (p:=⟨w.heap.size+1,2,none⟩) (by simp) (.bool x.spaced)).setCell (p:=⟨w.heap.size+1,3,none⟩) (by simp) (.slice a1 x.hidden.length cap1))
 have HS:=Qh (Zai (Zai (Zai (Zai (Zav HG1.out.1 (by omega:w.heap.size+1≠w.heap.size+1+1) 3 (.slice a1 x.hidden.length cap1)) 0 (.int .i64 x.kind)) 1 (.string x.text)) 2 (.bool x.spaced)) 3 (.slice a1 x.hidden.length cap1))
 clear HG1
 go_wp2
 refine bodyPost_ret (results_cell_row rfl _ _ (w.heap.size+1) _ _ _ _ rfl HS.out Tryz.underlying57 rfl (by kernel_rfl)) rfl ?_
 exact⟨[.int .i64 x.kind,.string x.text,.bool x.spaced,.slice a1 x.hidden.length cap1],fp1,rfl,⟨_,rfl,hk,hok,HR.out⟩,HO.out,HB.out⟩
section
variable {H:Type} {enc:TypeId × Value->H} {w:World} {base:Nat} {spare:Nat->Bool} {held:Bool}
theorem Zgu:Opens enc Tryz.prog w base spare held 62 sTok:=
 Zma Tryz.underlying62 (by kernel_rfl) (by kernel_rfl) (Zl6 Tryz.underlying3) (Zdm Tryz.underlying9) (Zhl Tryz.underlying4) (Zb4 Tryz.underlying55 (by kernel_rfl) (by decide) (Zdm Tryz.underlying9))
end
def Zaw (l:List Tok):Nat:=l.length+(l.map ZaL).sum
theorem ZjD (v:Value) (l:List Tok) (fp:List Nat) (w:World) (B:Int) (h0:0<=B) (h1:B<=1048576) (H:(Zaa sTok).R w [v] l fp) :
  Calls Tryz.prog 14 #[v,.int .i64 B] w λ e w'=>∃ r:Int,e=.returned (.int .i64 r)/\SzR B r (Zaw l)/\Below w.heap.size w w':=by
 obtain⟨a,cap,rfl,hc,hm,hrow⟩:=Zac H
 unfold maxLen at hm
 clear H
 by_cases hl:B<l.length
 ·have HN:Hid (SzR B (-1) (Zaw l)):=SzR.no (by unfold Zaw;omega)
  go_enter Tryz.func14,Tryz.ntmps14
  go_wp2
  go_ret
  exact⟨-1,rfl,HN.out,Below.refl _ _⟩
 ·go_enter Tryz.func14,Tryz.ntmps14
  go_wp2
  go_loopw [1,5] (λ t i wr=>∃ (k:Nat) (r:Int),k<=l.length/\i=.int .i64 k/\t=.int .i64 r/\0<=r/\r<=B/\Hid (r=B-l.length-(((l.take k).map ZaL).sum:Nat))/\Below w.heap.size w wr) (λ _ i _=>l.length-(intOf i).toNat)
  case atStart=>exact⟨0,_,by omega,rfl,rfl,by omega,by omega,by show _=_;simp,Below.refl _ _⟩
  case round =>
   obtain⟨k,r,hk,rfl,rfl,hr0,hr1,HA,hb⟩:=hrel
   by_cases hlt:k<l.length
   ·obtain⟨b1,off1,fps1,rfl,hb1,-,he1⟩:=hrow (by omega)
    obtain⟨es1,hE1,hR1⟩:=he1 k hlt
    clear hrow he1
    have hR2:=sTok.below hR1 hb
    obtain⟨h1',rfl,_,_,_⟩:=hR1
    have HC:=Qh (szToken _ _ _ wr r hr0 (by omega) hR2)
    clear hR2
    replace hE1:=hE1.frame (hb.block b1 hb1)
    have c10:wr.cell? ⟨b1,off1+k * 4,none⟩=some _:=Zam hE1 (by decide) rfl
    have c11:wr.cell? ⟨b1,off1+k * 4+1,none⟩=some _:=Zae (j:=1) hE1 (by decide) rfl
    have c12:wr.cell? ⟨b1,off1+k * 4+2,none⟩=some _:=Zae (j:=2) hE1 (by decide) rfl
    have c13:wr.cell? ⟨b1,off1+k * 4+3,none⟩=some _:=Zae (j:=3) hE1 (by decide) rfl
    clear hE1
    have HT:=Qh (ZfB ZaL l k hlt)
    have HT2:=Qh (Zic ZaL l (k+1))
    go_wp2_with fail
    refine (HC.out).mono ?_
    rintro e w1 ⟨r',rfl,hr',hb2⟩
    clear c10 c11 c12 c13
    by_cases hn:r'<0
    ·have HN:Hid (SzR B (-1) (Zaw l)):=SzR.no (by
      have hx:r<ZaL l[k]:=by unfold SzR at hr';split at hr' <;> omega
      have:=HT2.out;have:=HT.out;have:=HA.out;unfold Zaw;omega)
     go_wp2
     go_ret
     exact⟨-1,rfl,HN.out,hb.trans (hb2.mono hb.size)⟩
    ·have hg:=hr'.good hn
     have hle:=hr'.le hr0
     have HA':Hid (r'=B-l.length-(((l.take (k+1)).map ZaL).sum:Nat)):=by
      show _=_
      have:=HT.out;have:=HA.out
      omega
     clear hr' hg
     go_wp2
     go_roundw
     case rel=>exact⟨k+1,_,by omega,by go_num,rfl,by omega,by omega,HA'.out,hb.trans (hb2.mono hb.size)⟩
     case measure=>simp [intOf];omega
   ·have HN:Hid (SzR B r (Zaw l)):=by
     have h:=HA.out
     rw [List.take_of_length_le (by omega)] at h
     exact SzR.yes (by unfold Zaw;omega) (by unfold Zaw;omega)
    go_wp2
    go_ret
    exact⟨r,rfl,HN.out,hb⟩
theorem ZdO (v:Value) (l:List Tok) (fp:List Nat) (w:World) (hW:Zaw l<=1048576) (H:(Zaa sTok).R w [v] l fp) :
  Calls Tryz.prog 17 #[v] w (Made (Zaa sTok) l w):=by
 have hB:l.length<=1048576:=by unfold Zaw at hW;omega
 have HW:Hid (∀ k,(hk:k<l.length)->ZaL l[k]<=1048576):=λ k hk=>by have:=Zey ZaL l k hk;unfold Zaw at hW;omega
 obtain⟨a,cap,rfl,hc,hm,hrow⟩:=Zac H
 unfold maxLen at hm
 clear H hW
 go_enter Tryz.func17,Tryz.ntmps17
 go_wp2_with (at_make;refine ZcI ZaE _ rfl _ _ rfl w.heap.size l.length rfl rfl (by omega) (by unfold maxLen;omega) (Nat.le_refl _) ?_;intro w1 hown hgrow)
 have hbel:=(Below.refl w.heap.size w).grown hgrow (Nat.le_refl _) (by simp)
 have HF0:=Filling.start (S:=sTok) (l:=l) hown
 clear hgrow hown
 go_loopw [4] (λ i wr=>∃ (k:Nat) (L:List (Elem Tok)) (R:List Value),k<=l.length/\i=.int .i64 k/\Hid (Filling sTok w.heap.size 57 l k wr L R)/\Below w.heap.size w wr) (λ i _=>l.length-(intOf i).toNat)
 case atStart=>exact⟨0,_,_,by omega,rfl,HF0,hbel⟩
 case round =>
  obtain⟨k,L,R,hk,rfl,HF,hb⟩:=hrel
  clear HF0 hbel
  by_cases hlt:k<l.length
  ·obtain⟨b1,off1,fps1,rfl,hb1,-,he1⟩:=hrow (by omega)
   obtain⟨es1,hE1,hR1⟩:=he1 k hlt
   clear hrow he1
   have hR2:=sTok.below hR1 hb
   obtain⟨h1',rfl,_,_,_⟩:=hR1
   have HC:=Qh (toToken _ _ _ wr (HW.out k hlt) hR2)
   clear hR2
   replace hE1:=hE1.frame (hb.block b1 hb1)
   have c10:wr.cell? ⟨b1,off1+k * 4,none⟩=some _:=Zam hE1 (by decide) rfl
   have c11:wr.cell? ⟨b1,off1+k * 4+1,none⟩=some _:=Zae (j:=1) hE1 (by decide) rfl
   have c12:wr.cell? ⟨b1,off1+k * 4+2,none⟩=some _:=Zae (j:=2) hE1 (by decide) rfl
   have c13:wr.cell? ⟨b1,off1+k * 4+3,none⟩=some _:=Zae (j:=3) hE1 (by decide) rfl
   clear hE1
   go_wp2_with fail
   refine (HC.out).mono ?_
   rintro e w2 ⟨cs,fp2,rfl,hR2,hO2,hb2⟩
   have HN:=Qh (HF.out.next (cs:=cs) hlt hb2 (by obtain⟨_,rfl,_⟩:=hR2;rfl) hR2 hO2)
   obtain⟨h2,rfl,_,_,K2⟩:=hR2
   obtain⟨ah,caph,rfl,-⟩:=Zac K2
   have HF2:=Qh (HF.out.below hb2)
   obtain⟨u0,d0⟩:∃ u,w2.cell? ⟨w.heap.size,k * 4,none⟩=some u:=HF2.out.cell hlt (j:=0) (by decide)
   obtain⟨u1,d1⟩:∃ u,w2.cell? ⟨w.heap.size,k * 4+1,none⟩=some u:=HF2.out.cell hlt (j:=1) (by decide)
   obtain⟨u2,d2⟩:∃ u,w2.cell? ⟨w.heap.size,k * 4+2,none⟩=some u:=HF2.out.cell hlt (j:=2) (by decide)
   obtain⟨u3,d3⟩:∃ u,w2.cell? ⟨w.heap.size,k * 4+3,none⟩=some u:=HF2.out.cell hlt (j:=3) (by decide)
   have f0:=HF2.out.frozen (k * 4)
   have f1:=HF2.out.frozen (k * 4+1)
   have f2:=HF2.out.frozen (k * 4+2)
   have f3:=HF2.out.frozen (k * 4+3)
   clear c10 c11 c12 c13 K2 hO2
   go_wp2
   obtain⟨R',HN⟩:=HN.out
   go_roundw
   case rel=>exact⟨k+1,_,R',by omega,by go_num,HN,ZdM (Nat.le_refl _) [_,_,_,_] _ (k * 4) (hb.trans (hb2.mono hb.size))⟩
   case measure=>simp [intOf];omega
  ·obtain⟨fp',h1,h2⟩:=HF.out.done (by omega)
   go_wp2
   go_ret
   exact⟨_,fp',rfl,h1,h2,hb⟩
theorem Zc1:∀ (x y:List UInt8),Op.bytesLess x y=!(Op.bytesLess y x || y==x)
 | [],[]=>rfl
 | _::_,[]=>by simp [Op.bytesLess]
 | [],_::_=>by simp [Op.bytesLess]
 |
  a::x,b::y=>by
  have ih:=Zc1 x y
  simp only [Op.bytesLess,ih]
  by_cases h:a=b
  ·subst h
   have h1:decide (a<a)=false:=by simp [UInt8.lt_irrefl]
   rw [h1]
   cases hL:Op.bytesLess y x <;> by_cases hE:y=x <;> simp [hE]
  ·have h2:(a==b)=false:=by simp [h]
   have h3:(b==a)=false:=by simp [Ne.symm h]
   have h4:((b::y)==(a::x))=false:=by simp [Ne.symm h]
   rw [h2,h3,h4]
   have:decide (a<b)=!decide (b<a):=by
    by_cases hl:a<b
    ·have:=UInt8.lt_asymm hl;simp [hl,this]
    ·have:b<a:=by
      rw [UInt8.lt_iff_toNat_lt] at hl ⊢
      have:a.toNat≠b.toNat:=λ e=>h (UInt8.toNat_inj.1 e)
      omega
     simp [hl,this]
   rw [this];simp
def sLess (a b:ByteArray):Bool:=Op.bytesLess a.toList b.toList
theorem sLess_no {a b:ByteArray} (h:sLess a b=false):(Op.bytesLess b.toList a.toList || b.toList==a.toList)=true:=by
 unfold sLess at h;rw [Zc1] at h;cases hx:(Op.bytesLess b.toList a.toList || b.toList==a.toList)
 ·rw [hx] at h;exact absurd h (by decide)
 ·rfl
theorem Zmb {a b:ByteArray} (h:sLess a b=true):(Op.bytesLess b.toList a.toList || b.toList==a.toList)=false:=by
 unfold sLess at h;rw [Zc1] at h;simpa using h
theorem ZjE (s:ByteArray):∀ (k:Nat) (sp:Bool) (n:Nat) (l:List Tok),toks s k sp n=some l->k<=s.size->∀ t∈l,t.text.size<=s.size-k:=by
 intro k sp n
 induction k,sp,n using toks.induct (s:=s) with
 |
  case1 k sp n hk h32 ih =>
  intro l h hks t ht
  rw [toks,dif_pos hk,if_pos h32] at h
  have:=ih l h (by omega) t ht
  omega
 |
  case2 k sp n hk h32 hb =>
  intro l h hks t ht
  rw [toks,dif_pos hk,if_neg h32,if_pos hb] at h
  exact absurd h (by simp)
 |
  case3 k sp n hk h32 hb ih =>
  intro l h hks t ht
  rw [toks,dif_pos hk,if_neg h32,if_neg hb] at h
  have hr:=Za6 (s:=s) (k:=k) (by omega)
  rw [Option.map_eq_some_iff] at h
  obtain⟨l',h1,rfl⟩:=h
  rcases List.mem_cons.1 ht with rfl | ht
  ·show (s.extract k (Zat s k).toNat).size<=_;rw [ByteArray.size_extract];omega
  ·have:=ih l' h1 (by omega) t ht
   omega
 |
  case4 k sp n hk =>
  intro l h hks t ht
  rw [toks,dif_neg hk] at h
  simp only [Qi] at h
  subst h;simp at ht
theorem Zlw {s:ByteArray} {t:Tok} {l:List Tok} (h:toks s 0 false 0=some (t::l)) (ht:t.text=s):t.spaced=false:=by
 by_cases h0:0<s.size
 ·by_cases h32:s[0].toNat=32
  ·rw [toks,dif_pos h0,if_pos h32] at h
   have:=ZjE s 1 true 0 _ h (by omega) t (by simp)
   rw [ht] at this
   omega
  ·rw [toks,dif_pos h0,if_neg h32] at h
   split at h
   ·simp at h
   ·rw [Option.map_eq_some_iff] at h
    obtain⟨l',_,h2⟩:=h
    simp only [List.cons.injEq] at h2
    rw [← h2.1]
 ·rw [toks,dif_neg h0] at h;simp at h
theorem ZbO {s:ByteArray} {l:List Tok} (h:Zah s=(l,true)):toks s 0 false 0=some l/\ZaM s=true:=by
 unfold Zah at h
 cases h0:ZaM s
 ·rw [h0,if_neg (by simp)] at h;simp at h
 ·rw [h0,if_pos rfl] at h
  cases h1:toks s 0 false 0 with
  | none=>rw [h1] at h;simp at h
  | some l'=>rw [h1] at h;simp at h;rw [h];exact⟨rfl,rfl⟩
theorem ZcL {s:ByteArray} {l:List Tok} (h:Zah s=(l,false)):l=[]:=by
 unfold Zah at h
 split at h
 ·split at h
  ·simp at h
  ·simp at h;exact h
 ·simp at h;exact h
def Zal (x:ByteArray) (k:Int):Bool:=(Zah x).2 && decide ((Zah x).1.length=1) && (Zah x).1.all (λ t=>decide (t.kind=k) && decide (t.text=x))
theorem Zcy (x:ByteArray) (k:Int) :
  (Zah x=([],false)/\Hid (Zal x k=false)) \/
  (∃ l,Zah x=(l,true)/\l.length≠1/\Hid (Zal x k=false)) \/
  (∃ t,Zah x=([t],true)/\t.kind≠k/\Hid (Zal x k=false)) \/
  (∃ t,Zah x=([t],true)/\t.kind=k/\t.text≠x/\Hid (Zal x k=false)) \/
  (∃ t,Zah x=([t],true)/\t.kind=k/\t.text=x/\t.spaced=false/\Hid (Zal x k=true)):=by
 rcases hr:Zah x with⟨l,ok⟩
 cases ok
 ·obtain rfl:=ZcL hr
  exact .inl ⟨rfl,by simp [Hid,Zal,hr]⟩
 ·by_cases h1:l.length=1
  ·obtain⟨t,rfl⟩:=List.length_eq_one_iff.1 h1
   by_cases h2:t.kind=k
   ·by_cases h3:t.text=x
    ·exact .inr (.inr (.inr (.inr ⟨t,rfl,h2,h3,Zlw (ZbO hr).1 h3,by simp [Hid,Zal,hr,h2,h3]⟩)))
    ·exact .inr (.inr (.inr (.inl ⟨t,rfl,h2,h3,by simp [Hid,Zal,hr,h2,h3]⟩)))
   ·exact .inr (.inr (.inl ⟨t,rfl,h2,by simp [Hid,Zal,hr,h2]⟩))
  ·exact .inr (.inl ⟨l,rfl,h1,by simp [Hid,Zal,hr,h1]⟩)
def ZaU (l:List ByteArray) (i:Nat):Bool:=if h:i<l.length then Zal l[i] 1 && (decide (i=0) || sLess (l[i-1]'(by omega)) l[i]) else true
def hidOk (l:List ByteArray):Bool:=decide (l.length<=60) && (List.range l.length).all (ZaU l)
def HidUpto (l:List ByteArray) (k:Nat):Prop:=∀ j,j<k->ZaU l j=true
theorem HidUpto.zero (l:List ByteArray):HidUpto l 0:=by intro j h;omega
theorem HidUpto.succ {l:List ByteArray} {k:Nat} (h:HidUpto l k) (h1:ZaU l k=true):HidUpto l (k+1):=by
 intro j hj
 by_cases e:j=k
 ·subst e;exact h1
 ·exact h j (by omega)
theorem Zhr {l:List ByteArray} (h:60<l.length):hidOk l=false:=by unfold hidOk;rw [decide_eq_false (by omega)];rfl
theorem Zcz {l:List ByteArray} {k:Nat} (hk:k<l.length) (h:ZaU l k=false):hidOk l=false:=by
 unfold hidOk
 have:(List.range l.length).all (ZaU l)=false:=by
  rw [List.all_eq_false];exact⟨k,by simpa using hk,by simp [h]⟩
 rw [this,Bool.and_false]
theorem ZfC {l:List ByteArray} {k:Nat} (h:HidUpto l k) (hk:l.length<=k) (hl:l.length<=60):hidOk l=true:=by
 unfold hidOk
 rw [decide_eq_true hl,Bool.true_and,List.all_eq_true]
 intro i hi
 have:i<l.length:=by simpa using hi
 exact h i (by omega)
theorem ZcM {l:List ByteArray} {k:Nat} (hk:k<l.length) (h:Zal l[k] 1=false):ZaU l k=false:=by unfold ZaU;rw [dif_pos hk,h];rfl
theorem Zhs {l:List ByteArray} {k:Nat} (hk:k<l.length) (h0:0<k) (h:sLess (l[k-1]'(by omega)) l[k]=false):ZaU l k=false:=by
 unfold ZaU;rw [dif_pos hk,h,decide_eq_false (by omega)];simp
theorem Zgv {l:List ByteArray} (hk:0<l.length) (h:Zal l[0] 1=true):ZaU l 0=true:=by unfold ZaU;rw [dif_pos hk,h];simp
theorem Zgw {l:List ByteArray} {k:Nat} (hk:k<l.length) (h0:0<k) (h:Zal l[k] 1=true) (h2:sLess (l[k-1]'(by omega)) l[k]=true):ZaU l k=true:=by
 unfold ZaU;rw [dif_pos hk,h,h2];simp
theorem hid_ways {l:List ByteArray} {k:Nat} (hk:k<l.length) :
  (Zal l[k] 1=false/\Hid (ZaU l k=false))\/(Zal l[k] 1=true/\k=0/\Hid (ZaU l k=true)) \/
  (∃ hp:0<k,Zal l[k] 1=true/\sLess (l[k-1]'(by omega)) l[k]=false/\Hid (ZaU l k=false)) \/
  (∃ hp:0<k,Zal l[k] 1=true/\sLess (l[k-1]'(by omega)) l[k]=true/\Hid (ZaU l k=true)):=by
 cases h:Zal l[k] 1
 ·exact .inl ⟨rfl,ZcM hk h⟩
 ·by_cases h0:k=0
  ·subst h0;exact .inr (.inl ⟨rfl,rfl,Zgv hk h⟩)
  ·cases h2:sLess (l[k-1]'(by omega)) l[k]
   ·exact .inr (.inr (.inl ⟨by omega,rfl,h2,Zhs hk (by omega) h2⟩))
   ·exact .inr (.inr (.inr ⟨by omega,rfl,h2,Zgw hk (by omega) h h2⟩))
def tokOk (t:Tok):Bool:=Zal t.text t.kind && hidOk t.hidden
theorem Zez (s:ByteArray) (i j:Int) (a b:Nat) (hi:i=a) (hj:j=b) (h:a<=b) (h2:b<=s.size) (W:World) :
  (Instr.slice 9 (.string s) (some (.int .i64 i)) (some (.int .i64 j)) none).run Tryz.prog W=.ok (.string (s.extract a b)) W:=by
 subst hi;subst hj
 rw [run_slice_string W 9 s .i64 .i64 a b Tryz.underlying9 (by omega) (by omega) (by omega)]
 simp
theorem Za5 {a b:Int} (h:a=b):Ending.returned (.int .i64 a)=.returned (.int .i64 b):=by rw [h]
theorem Zgx (s:ByteArray) (k0:Nat) (w:World) (hs:s.size<=1000000) (hk0:k0<s.size) :
  Calls Tryz.prog 90 #[.string s,.int .i64 k0] w λ e w'=>e=.returned (.int .i64 (tEnd s (k0+1):Nat))/\w'=w:=by
 go_enter Tryz.func90,Tryz.ntmps90
 go_wp2
 go_loop [5] (λ i=>∃ k:Nat,k<=s.size+1/\i=.int .i64 k/\tEnd s k=tEnd s (k0+1)) (λ i=>s.size+1-(intOf i).toNat)
 case atStart=>exact⟨k0+1,by omega,by go_num,rfl⟩
 case round =>
  obtain⟨k,hk,rfl,he⟩:=hrel
  by_cases hlt:k<s.size
  ·by_cases h34:s[k].toNat=34
   ·have HF:=Qh ((ZcJ hlt h34).symm.trans he)
    have h34':((s[k].toNat:Int) != 34)=false:=by simp;omega
    clear he
    go_wp2
    all_goals (go_ret;exact⟨Za5 (by have:=HF.out;omega),rfl⟩)
   ·have h34':((s[k].toNat:Int) != 34)=true:=by simp;omega
    by_cases h92:s[k].toNat=92
    ·have HF:=Qh ((ZcC hlt h92).symm.trans he)
     have h92':((s[k].toNat:Int)==92)=true:=by simp;omega
     clear he
     go_wp2
     go_round
     case rel=>exact⟨k+2,by omega,by go_num,HF.out⟩
     case measure=>simp [intOf];omega
    ·have HF:=Qh ((Zcb hlt h34 h92).symm.trans he)
     have h92':((s[k].toNat:Int)==92)=false:=by simp;omega
     clear he
     go_wp2
     go_round
     case rel=>exact⟨k+1,by omega,by go_num,HF.out⟩
     case measure=>simp [intOf];omega
  ·have HF:=Qh ((Zcw (s:=s) (k:=k) (by omega)).symm.trans he)
   clear he
   go_wp2
   all_goals (go_ret;exact⟨Za5 (by have:=HF.out;omega),rfl⟩)
theorem Zht (s:ByteArray) (k0:Nat) (w:World) (hs:s.size<=1000000) (hk0:k0<s.size) :
  Calls Tryz.prog 93 #[.string s,.int .i64 k0] w λ e w'=>e=.returned (.int .i64 (tEnd s (k0+1):Nat))/\w'=w:=by
 go_enter Tryz.func93,Tryz.ntmps93
 go_wp2
 go_loop [5] (λ i=>∃ k:Nat,k<=s.size+1/\i=.int .i64 k/\tEnd s k=tEnd s (k0+1)) (λ i=>s.size+1-(intOf i).toNat)
 case atStart=>exact⟨k0+1,by omega,by go_num,rfl⟩
 case round =>
  obtain⟨k,hk,rfl,he⟩:=hrel
  by_cases hlt:k<s.size
  ·by_cases h34:s[k].toNat=34
   ·have HF:=Qh ((ZcJ hlt h34).symm.trans he)
    have h34':((s[k].toNat:Int)==34)=true:=by simp;omega
    have h92':((s[k].toNat:Int)==92)=false:=by simp;omega
    clear he
    go_wp2
    go_ret
    exact⟨Za5 (by have:=HF.out;omega),rfl⟩
   ·have h34':((s[k].toNat:Int)==34)=false:=by simp;omega
    by_cases h92:s[k].toNat=92
    ·have HF:=Qh ((ZcC hlt h92).symm.trans he)
     have h92':((s[k].toNat:Int)==92)=true:=by simp;omega
     clear he
     go_wp2
     go_round
     case rel=>exact⟨k+2,by omega,by go_num,HF.out⟩
     case measure=>simp [intOf];omega
    ·have HF:=Qh ((Zcb hlt h34 h92).symm.trans he)
     have h92':((s[k].toNat:Int)==92)=false:=by simp;omega
     clear he
     go_wp2
     go_round
     case rel=>exact⟨k+1,by omega,by go_num,HF.out⟩
     case measure=>simp [intOf];omega
  ·have HF:=Qh ((Zcw (s:=s) (k:=k) (by omega)).symm.trans he)
   clear he
   go_wp2
   go_ret
   exact⟨Za5 (by have:=HF.out;omega),rfl⟩
def Ways (s:ByteArray) (k:Nat) (out:ByteArray) (hk:k<s.size):Prop:=
 (two s k 47 47=true/\Hid (strip1 s 0=some out)) \/
 (two s k 47 47=false/\two s k 47 42=true/\cEnd s (k+2)<0/\Hid (strip1 s 0=none)) \/
 (∃ c:Nat,two s k 47 47=false/\two s k 47 42=true/\cEnd s (k+2)=c/\k<c/\c<=s.size/\Hid (At1 s c (out++⟨#[32]⟩))) \/
 (∃ t:Nat,two s k 47 47=false/\two s k 47 42=false/\((s[k].toNat:Int)==34)=true/\tEnd s (k+1)=t/\k<t/\t<=s.size/\Hid (At1 s t (out++s.extract k t))) \/
 (two s k 47 47=false/\two s k 47 42=false/\((s[k].toNat:Int)==34)=false/\Hid (At1 s (k+1) (out++s.extract k (k+1))))
theorem ways {s:ByteArray} {k:Nat} {out:ByteArray} (hat:At1 s k out) (hk:k<s.size):Ways s k out hk:=by
 unfold Ways
 cases h1:two s k 47 47
 ·cases h2:two s k 47 42
  ·by_cases h3:s[k].toNat=34
   ·have hb:=Zgr s (k+1)
    have:=hb.2 (by omega)
    exact .inr (.inr (.inr (.inl ⟨_,rfl,rfl,by simp;omega,rfl,by omega,by omega,hat.text hk h1 h2 h3⟩)))
   ·exact .inr (.inr (.inr (.inr ⟨rfl,rfl,by simp;omega,hat.byte hk h1 h2 h3⟩)))
  ·by_cases h3:cEnd s (k+2)<0
   ·exact .inr (.inl ⟨rfl,rfl,h3,hat.open_ hk h1 h2 h3⟩)
   ·have:=ZiQ (s:=s) (k:=k+2) (by omega) (by have:=ZdK h2;omega)
    exact .inr (.inr (.inl ⟨(cEnd s (k+2)).toNat,rfl,rfl,by omega,by omega,by omega,hat.comment hk h1 h2 h3⟩))
 ·exact .inl ⟨rfl,hat.line hk h1⟩
theorem ZeW {a b a' b':Int} (h:a=a') (h':b=b'):Ending.returned (.tuple #[.int .i64 a,.int .i64 b])=.returned (.tuple #[.int .i64 a',.int .i64 b']):=by rw [h,h']
theorem Zcc (c:UInt8) (w:World) :
  Calls Tryz.prog 60 #[.int .u8 (c.toNat:Int)] w λ e w'=>e=.returned (.bool (isDig c))/\w=w':=by
 go_enter Tryz.func60,Tryz.ntmps60
 go_wp2
 all_goals
  go_ret
  exact⟨Zad (by rw [Bool.eq_iff_iff,Zdn];simp <;> omega),rfl⟩
theorem ZbD (c:UInt8) (w:World) :
  Calls Tryz.prog 62 #[.int .u8 (c.toNat:Int)] w λ e w'=>e=.returned (.bool (Zan c))/\w=w':=by
 go_enter Tryz.func62,Tryz.ntmps62
 go_wp2_with (go_at_call 60;refine (Zcc _ _).mono ?_;rintro e w' ⟨rfl,rfl⟩)
 all_goals
  go_ret
  exact⟨Zad (by rw [Bool.eq_iff_iff,ZeP];simp [Zdn] <;> omega),rfl⟩
theorem Zd9 (s:ByteArray) (k0:Nat) (w:World) (hs:s.size<=1000000) (hk0:k0<=s.size) :
  Calls Tryz.prog 61 #[.string s,.int .i64 k0] w λ e w'=>e=.returned (.int .i64 (ZdL s k0))/\w=w':=by
 go_enter Tryz.func61,Tryz.ntmps61
 go_wp2
 go_loop [5] (λ i=>∃ k:Nat,k0<=k/\k<=s.size/\i=.int .i64 k/\wEnd s k=wEnd s k0) (λ i=>s.size-(intOf i).toNat)
 case atStart=>exact⟨k0,by omega,by omega,rfl,rfl⟩
 case round =>
  obtain⟨k,hk0,hk,rfl,he⟩:=hrel
  have HE:=Qh he;clear he
  by_cases hlt:k<s.size
  ·cases hw:Zan s[k]
   ·have HF:=Qh ((ZbA hlt hw).symm.trans HE.out)
    go_wp2_with (go_at_call 62;refine (ZbD _ _).mono ?_;rw [hw];rintro e w' ⟨rfl,rfl⟩)
    all_goals
     go_ret
     exact⟨Za5 (by first | exact Zgt HF.out (by omega) | exact Zfx HF.out (by omega)),rfl⟩
   ·have HF:=Qh ((Zbl hlt hw).symm.trans HE.out)
    go_wp2_with (go_at_call 62;refine (ZbD _ _).mono ?_;rw [hw];rintro e w' ⟨rfl,rfl⟩)
    go_round
    case rel=>exact⟨k+1,by omega,by omega,by go_num,HF.out⟩
    case measure=>simp [intOf];omega
  ·have HF:=Qh ((Zcx (s:=s) (k:=k) (by omega)).symm.trans HE.out)
   go_wp2
   all_goals
    go_ret
    exact⟨Za5 (by first | exact Zgt HF.out (by omega) | exact Zfx HF.out (by omega)),rfl⟩
theorem ZeA (s:ByteArray) (k0:Nat) (w:World) (hs:s.size<=999000) (hk0:k0<s.size) :
  Calls Tryz.prog 63 #[.string s,.int .i64 k0] w λ e w'=>e=.returned (.int .i64 (Zc0 s (k0+1)))/\w=w':=by
 have hadd:=λ W=>run_string_add_sum (P:=Tryz.prog) W s ⟨#[32]⟩ (by show s.size+1<=_;omega)
 have HP:=Qh (Zl7 s (k0+1) (by omega))
 have HS:=Qh (Zbh s)
 have HT:Hid (∀ W,Calls Tryz.prog 93 #[.string (plus s),.int .i64 k0] W λ e w'=>e=.returned (.int .i64 (tEnd (plus s) (k0+1):Nat))/\w'=W):=λ W=>Zht (plus s) k0 W (by rw [HS.out];omega) (by rw [HS.out];omega)
 cases hc:tClose s (k0+1) with
 |
  none =>
  have HV:Hid (tEnd (plus s) (k0+1)=s.size+1):=by show _=_;rw [HP.out,hc]
  go_enter Tryz.func63,Tryz.ntmps63
  go_wp2_with (go_at_call 93;refine (HT.out _).mono ?_;rw [HV.out];rintro e w' ⟨rfl,rfl⟩)
  go_ret
  exact⟨Za5 (ZjA hc).symm,rfl⟩
 |
  some e =>
  have hb:=Za1 hc
  have hb1:=hb.1
  have hb2:=hb.2.1
  clear hb
  have HV:Hid (tEnd (plus s) (k0+1)=e):=by show _=_;rw [HP.out,hc]
  go_enter Tryz.func63,Tryz.ntmps63
  go_wp2_with (go_at_call 93;refine (HT.out _).mono ?_;rw [HV.out];rintro e w' ⟨rfl,rfl⟩)
  go_ret
  exact⟨Za5 (Zjz hc).symm,rfl⟩
theorem Zfl:∀ (l:List UInt8) (c:UInt8),Lib.indexByte l c<0 ↔ ¬ c∈l
 | [],c=>by simp [Lib.indexByte]
 |
  b::l,c=>by
  have ih:=Zfl l c
  have hg:=Lib.indexByte_ge l c
  unfold Lib.indexByte
  by_cases hb:(b==c)=true
  ·rw [if_pos hb];simp at hb;subst hb;simp
  ·rw [if_neg hb]
   have hne:¬ c=b:=λ e=>hb (by rw [e];simp)
   by_cases h1:(Lib.indexByte l c==-1)=true
   ·rw [if_pos h1]
    have:Lib.indexByte l c=-1:=by simpa using h1
    simp only [List.mem_cons,not_or]
    exact⟨λ _=>⟨hne,ih.1 (by omega)⟩,λ _=>by omega⟩
   ·rw [if_neg h1]
    have:¬ Lib.indexByte l c=-1:=by simpa using h1
    simp only [List.mem_cons,not_or]
    exact⟨λ h=>absurd h (by omega),λ h=>absurd (ih.2 h.2) (by omega)⟩
theorem Zk5 (c:UInt8) (w:World) :
  Calls Tryz.prog 94 #[.string ⟨#[43,45,42,47,37,60,62,61,33,38,124,40,41,44,35,59,63,58,123,125,91,93,46]⟩,.int .u8 (c.toNat:Int)] w λ e w'=>(∃ r:Int,e=.returned (.int .i64 r)/\(r<0 ↔ ¬ c∈marks1))/\w=w':=by
 refine (Tryz.strings_IndexByte _ _ w).mono ?_
 rintro e w' ⟨rfl,rfl⟩
 refine ⟨⟨_,rfl,?_⟩,rfl⟩
 rw [Zfl]
 have:((c.toNat:Int)).toNat.toUInt8=c:=by simp
 rw [this]
 exact Iff.rfl
theorem eight (s:ByteArray) (k:Nat) :
  (two s k 61 61=true/\Hid (twoAt s k=true)) \/
  (two s k 61 61=false/\two s k 33 61=true/\Hid (twoAt s k=true)) \/
  (two s k 61 61=false/\two s k 33 61=false/\two s k 60 61=true/\Hid (twoAt s k=true)) \/
  (two s k 61 61=false/\two s k 33 61=false/\two s k 60 61=false/\two s k 62 61=true/\Hid (twoAt s k=true)) \/
  (two s k 61 61=false/\two s k 33 61=false/\two s k 60 61=false/\two s k 62 61=false/\two s k 38 38=true/\Hid (twoAt s k=true)) \/
  (two s k 61 61=false/\two s k 33 61=false/\two s k 60 61=false/\two s k 62 61=false/\two s k 38 38=false/\two s k 124 124=true/\Hid (twoAt s k=true)) \/
  (two s k 61 61=false/\two s k 33 61=false/\two s k 60 61=false/\two s k 62 61=false/\two s k 38 38=false/\two s k 124 124=false/\two s k 35 35=true/\Hid (twoAt s k=true)) \/
  (two s k 61 61=false/\two s k 33 61=false/\two s k 60 61=false/\two s k 62 61=false/\two s k 38 38=false/\two s k 124 124=false/\two s k 35 35=false/\Hid (twoAt s k=false)):=by
 simp only [Hid,twoAt]
 cases two s k 61 61 <;> cases two s k 33 61 <;> cases two s k 60 61 <;> cases two s k 62 61 <;> cases two s k 38 38 <;> cases two s k 124 124 <;> cases two s k 35 35 <;> simp
theorem Zlx {s:ByteArray} {k:Nat} (h:twoAt s k=true):((k:Int)+2)=ZcK s k:=by unfold ZcK mLen;rw [if_pos h];simp
theorem ZgR {s:ByteArray} {k:Nat} (h:twoAt s k=false) (hk:k<s.size) (hm:s[k]∈marks1):mLen s k=1:=by unfold mLen;rw [h];simp [hk,hm]
theorem ZfD {s:ByteArray} {k:Nat} (h:twoAt s k=false) (hk:k<s.size) (hm:¬ s[k]∈marks1):mLen s k=0:=by unfold mLen;rw [h];simp [hk,hm]
theorem Zhu {s:ByteArray} {k:Nat} (h:twoAt s k=false) (hk:k<s.size) (hm:s[k]∈marks1):((k:Int)+1)=ZcK s k:=by unfold ZcK;rw [ZgR h hk hm];simp
theorem Zgy {s:ByteArray} {k:Nat} (h:twoAt s k=false) (hk:k<s.size) (hm:¬ s[k]∈marks1):(-1:Int)=ZcK s k:=by unfold ZcK;rw [ZfD h hk hm];simp
theorem Zhv (s:ByteArray) (k:Nat) (w:World) (hs:s.size<=1000000) (hk:k<s.size) :
  Calls Tryz.prog 64 #[.string s,.int .i64 k] w λ e w'=>e=.returned (.int .i64 (ZcK s k))/\w=w':=by
 by_cases hr:k+2<=s.size
 ·have hsl:=Zez s (k:Int) ((k:Int)+2) k (k+2) rfl (by omega) (by omega) (by omega)
  have e1:=Zbk s k 61 61
  have e2:=Zbk s k 33 61
  have e3:=Zbk s k 60 61
  have e4:=Zbk s k 62 61
  have e5:=Zbk s k 38 38
  have e6:=Zbk s k 124 124
  have e7:=Zbk s k 35 35
  rcases eight s k with⟨h1,HT⟩ | ⟨h1,h2,HT⟩ | ⟨h1,h2,h3,HT⟩ | ⟨h1,h2,h3,h4,HT⟩ | ⟨h1,h2,h3,h4,h5,HT⟩ | ⟨h1,h2,h3,h4,h5,h6,HT⟩ | ⟨h1,h2,h3,h4,h5,h6,h7,HT⟩ | ⟨h1,h2,h3,h4,h5,h6,h7,HT⟩
  all_goals
   (try rw [h1] at e1);(try rw [h2] at e2);(try rw [h3] at e3);(try rw [h4] at e4);(try rw [h5] at e5);(try rw [h6] at e6);(try rw [h7] at e7)
   go_enter Tryz.func64,Tryz.ntmps64
   go_wp2_with (go_at_call 94;refine (Zk5 _ _).mono ?_;rintro e w' ⟨⟨r,rfl,hr⟩,rfl⟩;have HR:=Qh hr;clear hr)
   all_goals
    go_ret
    exact⟨Za5 (by first | exact Zlx HT.out | exact Zhu HT.out hk (Decidable.byContradiction λ h=>absurd (HR.out.2 h) (by omega)) | exact Zgy HT.out hk (HR.out.1 (by omega))),rfl⟩
 ·have HT:Hid (twoAt s k=false):=by
   show _=_
   cases h:twoAt s k
   ·rfl
   ·have:=ZeR h;omega
  go_enter Tryz.func64,Tryz.ntmps64
  go_wp2_with (go_at_call 94;refine (Zk5 _ _).mono ?_;rintro e w' ⟨⟨r,rfl,hr⟩,rfl⟩;have HR:=Qh hr;clear hr)
  all_goals
   go_ret
   exact⟨Za5 (by first | exact Zhu HT.out hk (Decidable.byContradiction λ h=>absurd (HR.out.2 h) (by omega)) | exact Zgy HT.out hk (HR.out.1 (by omega))),rfl⟩
theorem kind_dig {c:UInt8} (h:isDig c=true):(2:Int)=cutKind c:=by unfold cutKind;rw [if_pos h]
theorem Zmc {c:UInt8} (h:isDig c=false) (hw:Zan c=true):(1:Int)=cutKind c:=by
 unfold cutKind;unfold Zan at hw;rw [h,Bool.or_false] at hw;rw [if_neg (by simp [h]),if_pos hw]
theorem Zmd {c:UInt8} (hw:Zan c=false) (hq:c.toNat=34):(3:Int)=cutKind c:=by
 unfold Zan at hw;rw [Bool.or_eq_false_iff] at hw;unfold cutKind;rw [if_neg (by simp [hw.2]),if_neg (by simp [hw.1]),if_pos hq]
theorem Zme {c:UInt8} (hw:Zan c=false) (hq:¬ c.toNat=34):(4:Int)=cutKind c:=by
 unfold Zan at hw;rw [Bool.or_eq_false_iff] at hw;unfold cutKind;rw [if_neg (by simp [hw.2]),if_neg (by simp [hw.1]),if_neg hq]
theorem ZeX {c:UInt8} (h:isDig c=true):Zan c=true:=by unfold Zan;rw [h,Bool.or_true]
theorem ZjF {s:ByteArray} {k:Nat} (h:k<s.size) (hw:Zan s[k]=true):ZdL s k=Zat s k:=by rw [Zat,dif_pos h,if_pos hw]
theorem cutEnd_t {s:ByteArray} {k:Nat} (h:k<s.size) (hw:Zan s[k]=false) (hq:s[k].toNat=34):Zc0 s (k+1)=Zat s k:=by rw [Zat,dif_pos h,if_neg (by simp [hw]),if_pos hq]
theorem cutEnd_m {s:ByteArray} {k:Nat} (h:k<s.size) (hw:Zan s[k]=false) (hq:¬ s[k].toNat=34):ZcK s k=Zat s k:=by rw [Zat,dif_pos h,if_neg (by simp [hw]),if_neg hq]
theorem ZdP (s:ByteArray) (k:Nat) (w:World) (hs:s.size<=999000) (hk:k<s.size) :
  Calls Tryz.prog 30 #[.string s,.int .i64 k] w λ e w'=>e=.returned (.tuple #[.int .i64 (cutKind s[k]),.int .i64 (Zat s k)])/\w=w':=by
 cases hd:isDig s[k]
 ·cases hw:Zan s[k]
  ·by_cases hq:s[k].toNat=34
   ·have h34:((s[k].toNat:Int)==34)=true:=by simp;omega
    have HF:=Qh (cutEnd_t hk hw hq)
    have HK:=Qh (Zmd hw hq)
    clear hq
    go_enter Tryz.func30,Tryz.ntmps30
    go_wp2_with (first
     | (go_at_call 60;refine (Zcc _ _).mono ?_;rw [hd];rintro e w' ⟨rfl,rfl⟩)
     | (go_at_call 62;refine (ZbD _ _).mono ?_;rw [hw];rintro e w' ⟨rfl,rfl⟩)
     | (go_at_call 63;refine (ZeA s k _ hs hk).mono ?_;rintro e w' ⟨rfl,rfl⟩))
    go_ret2
    exact⟨ZeW HK.out HF.out,rfl⟩
   ·have h34:((s[k].toNat:Int)==34)=false:=by simp;omega
    have HF:=Qh (cutEnd_m hk hw hq)
    have HK:=Qh (Zme hw hq)
    clear hq
    go_enter Tryz.func30,Tryz.ntmps30
    go_wp2_with (first
     | (go_at_call 60;refine (Zcc _ _).mono ?_;rw [hd];rintro e w' ⟨rfl,rfl⟩)
     | (go_at_call 62;refine (ZbD _ _).mono ?_;rw [hw];rintro e w' ⟨rfl,rfl⟩)
     | (go_at_call 64;refine (Zhv s k _ (by omega) hk).mono ?_;rintro e w' ⟨rfl,rfl⟩))
    go_ret2
    exact⟨ZeW HK.out HF.out,rfl⟩
  ·have HF:=Qh (ZjF hk hw)
   have HK:=Qh (Zmc hd hw)
   go_enter Tryz.func30,Tryz.ntmps30
   go_wp2_with (first
    | (go_at_call 60;refine (Zcc _ _).mono ?_;rw [hd];rintro e w' ⟨rfl,rfl⟩)
    | (go_at_call 62;refine (ZbD _ _).mono ?_;rw [hw];rintro e w' ⟨rfl,rfl⟩)
    | (go_at_call 61;refine (Zd9 s k _ (by omega) (by omega)).mono ?_;rintro e w' ⟨rfl,rfl⟩))
   go_ret2
   exact⟨ZeW HK.out HF.out,rfl⟩
 ·have HF:=Qh (ZjF hk (ZeX hd))
  have HK:=Qh (kind_dig hd)
  go_enter Tryz.func30,Tryz.ntmps30
  go_wp2_with (first
   | (go_at_call 60;refine (Zcc _ _).mono ?_;rw [hd];rintro e w' ⟨rfl,rfl⟩)
   | (go_at_call 61;refine (Zd9 s k _ (by omega) (by omega)).mono ?_;rintro e w' ⟨rfl,rfl⟩))
  go_ret2
  exact⟨ZeW HK.out HF.out,rfl⟩
theorem ZdQ {s:ByteArray} (h:ZaM s=true):s.size<=200:=by
 unfold ZaM at h;rw [Bool.and_eq_true,decide_eq_true_eq] at h;exact h.1
theorem ret_toks {v:Value} {l:List Tok} {b:Bool} {s:ByteArray} (h:Zah s=(l,b)) {B:Nat} {w w':World} {fp:List Nat} (hr:(Zaa sTok).R w' [v] l fp) (ho:Own w' w.heap.size fp) (hb:Below w.heap.size w w') :
  Zbs (Zah s) w (.returned (.tuple #[v,.bool b])) w':=by
 rw [h];exact⟨v,fp,rfl,hr,ho,hb⟩
theorem ZjG {s:ByteArray} (h:Zah s=([],false)) {w w':World} {a:Option Addr} {cap:Nat} (hc:cap<=maxLen) (hb:Below w.heap.size w w') :
  Zbs (Zah s) w (.returned (.tuple #[.slice a 0 cap,.bool false])) w':=by
 rw [h];exact⟨_,[],rfl,ZaC _ _ _ _ hc,Own.nil _ _,hb⟩
theorem Zcv (s:ByteArray) (w:World) (hs:s.size<=maxLen) :
  Calls Tryz.prog 9 #[.string s] w (Zbs (Zah s) w):=by
 have hm:=hs
 unfold maxLen at hm
 cases h0:ZaM s
 ·have HF:=Qh (ZeS h0)
  go_enter Tryz.func9,Tryz.ntmps9
  go_wp2_with (go_at_call 11;refine (Zev _ _ hs).mono ?_;rw [h0];rintro e w' ⟨rfl,rfl⟩)
  go_ret2
  exact ZjG HF.out (by simp) (Below.refl _ _)
 have hsz:=ZdQ h0
 have H0:=Qh h0
 go_enter Tryz.func9,Tryz.ntmps9
 go_wp2_with (go_at_call 11;refine (Zev _ _ hs).mono ?_;rw [h0];rintro e w' ⟨rfl,rfl⟩)
 clear h0
 go_loopw [4,5,6] (λ v sp i wr=>∃ (k:Nat) (b:Bool) (out:List Tok),k<=s.size/\i=.int .i64 k/\sp=.bool b/\AtT s k b out/\Fresh s.size out/\TokRow w.heap.size v out wr/\Below w.heap.size w wr) (λ _ _ i _=>s.size-(intOf i).toNat)
 case atStart=>exact⟨0,false,[],by omega,rfl,rfl,AtT.zero s,Fresh.nil _,TokRow.nil _ _,Below.refl _ _⟩
 case round =>
  obtain⟨k,b,out,hk,rfl,rfl,hat,hfr,hown,hbel⟩:=hrel
  have ho:out.length<=60:=hat.2
  have hbs:=hbel.size
  by_cases hlt:k<s.size
  ·by_cases h32:s[k].toNat=32
   ·have HN:=Qh (hat.space hlt h32)
    have h32':((s[k].toNat:Int)==32)=true:=by simp;omega
    clear hat h32
    go_wp2
    go_roundw
    case rel=>exact⟨k+1,true,out,by omega,by go_num,rfl,HN.out,hfr,hown,hbel⟩
    case measure=>simp [intOf];omega
   ·have h32':((s[k].toNat:Int)==32)=false:=by simp;omega
    rcases ZiR s k with hneg | ⟨e,he,hke,hes⟩
    ·have HF:=Qh (Zdh (hat.bad hlt h32 (.inl hneg)))
     clear hat h32
     go_wp2_with (go_at_call 30;refine (ZdP s k _ (by omega) hlt).mono ?_;rintro e w' ⟨rfl,rfl⟩)
     go_ret2
     exact ZjG HF.out (by simp) hbel
    ·obtain⟨a,cap,rfl,hcm⟩:=hown.slice
     by_cases h60:out.length=60
     ·have HF:=Qh (Zdh (hat.bad hlt h32 (.inr h60)))
      have h60':((out.length:Int)==60)=true:=by simp;omega
      clear hat h32 h60
      go_wp2_with (go_at_call 30;refine (ZdP s k _ (by omega) hlt).mono ?_;rw [he];rintro e w' ⟨rfl,rfl⟩)
      go_ret2
      exact ZjG HF.out (by simp) hbel
     ·have HN:=Qh (hat.tok hlt h32 he h60)
      have HR:=Qh (hfr.snoc (k:=k) (e:=e) (sp:=b) (c:=s[k]) (Nat.le_refl s.size))
      have h60':((out.length:Int)==60)=false:=by simp;omega
      have hsl2:=λ W=>(Zez s (k:Int) (e:Int) k e rfl rfl (by omega) (by omega) W)
      clear hat h32 h60
      go_wp2_with (first
       | (go_at_call 30;refine (ZdP s k _ (by omega) hlt).mono ?_;rw [he];rintro e w' ⟨rfl,rfl⟩)
       | (at_builtin;refine Zfk rfl (.tmp 35) (.tmp 43) rfl w.heap.size _ out _ _ _ rfl hown rfl (by omega) hbs ?_;intro v1 w1 hown1 hg1))
      have hbel1:=hbel.grown hg1 hbs hown.mine
      go_roundw
      case rel=>exact⟨e,false,_,hes,rfl,rfl,HN.out,HR.out,hown1,hbel1⟩
      case measure=>simp [intOf];omega
  ·have HF:=Qh (Zen H0.out (hat.done (by omega)))
   clear hat
   go_wp2
   go_ret2
   obtain⟨fp,h1,h2,_⟩:=ZgQ hown hfr (by omega)
   exact ret_toks (B:=0) HF.out h1 h2 hbel
theorem Zbi (c:UInt8) (w:World) :
  Calls Tryz.prog 89 #[.int .u8 (c.toNat:Int)] w λ e w'=>e=.returned (.bool (isDig c))/\w=w':=by
 go_enter Tryz.func89,Tryz.ntmps89
 go_wp2
 all_goals
  go_ret
  exact⟨Zad (by rw [Bool.eq_iff_iff,Zdn];simp <;> omega),rfl⟩
theorem ZaJ (c:UInt8) (w:World) :
  Calls Tryz.prog 88 #[.int .u8 (c.toNat:Int)] w λ e w'=>e=.returned (.bool (isLet c))/\w=w':=by
 go_enter Tryz.func88,Tryz.ntmps88
 go_wp2
 all_goals
  go_ret
  exact⟨Zad (by rw [Bool.eq_iff_iff,Zfv];simp <;> omega),rfl⟩
theorem Zeo {c:UInt8} (h:isLet c=true):Zan c=true:=by unfold Zan;rw [h,Bool.true_or]
theorem Zhw {c:UInt8} (h:isLet c=false) (h2:isDig c=false):Zan c=false:=by unfold Zan;rw [h,h2];rfl
theorem Zgz (s:ByteArray) (k0 e:Nat) (w:World) (hs:s.size<=1000000) (he:e<=s.size) (h1:1<=e) (hk0:k0<s.size) :
  Calls Tryz.prog 91 #[.string s,.int .i64 k0,.int .i64 e] w λ r w'=>r=.returned (.bool (decide (bk s (k0+1) (e-1)≠e-1)))/\w=w':=by
 go_enter Tryz.func91,Tryz.ntmps91
 go_wp2
 go_loop [7] (λ i=>∃ k:Nat,k<=s.size+1/\i=.int .i64 k/\bk s k (e-1)=bk s (k0+1) (e-1)) (λ i=>s.size+1-(intOf i).toNat)
 case atStart=>exact⟨k0+1,by omega,by go_num,rfl⟩
 case round =>
  obtain⟨k,hk,rfl,hb⟩:=hrel
  by_cases hlt:k<e-1
  ·have hlt':(k:Int)<(e:Int)-1:=by omega
   have hks:k<s.size:=by omega
   by_cases h92:s[k].toNat=92
   ·have HF:=Qh ((Zia hlt hks h92).symm.trans hb)
    have h92':((s[k].toNat:Int)==92)=true:=by simp;omega
    clear hb h92
    go_wp2
    go_round
    case rel=>exact⟨k+2,by omega,by go_num,HF.out⟩
    case measure=>simp [intOf];omega
   ·have HF:=Qh ((Zib hlt hks h92).symm.trans hb)
    have h92':((s[k].toNat:Int)==92)=false:=by simp;omega
    clear hb h92
    go_wp2
    go_round
    case rel=>exact⟨k+1,by omega,by go_num,HF.out⟩
    case measure=>simp [intOf];omega
  ·have HF:=Qh ((Zjy (s:=s) (k:=k) (e:=e-1) (by omega)).symm.trans hb)
   have hge:¬ (k:Int)<(e:Int)-1:=by omega
   clear hb
   go_wp2
   go_ret
   exact⟨Zad (by rw [← HF.out,Bool.eq_iff_iff];simp;omega),rfl⟩
def NoMark (c:UInt8) (k:Nat):Prop:=∀ j,(h:j<marks1.length)->j<k->marks1[j]≠c
theorem NoMark.zero (c:UInt8):NoMark c 0:=by intro j h hj;omega
theorem NoMark.succ {c:UInt8} {k:Nat} (h:NoMark c k) (hk:k<marks1.length) (hc:marks1[k]≠c):NoMark c (k+1):=by
 intro j hj hjk
 by_cases e:j=k
 ·subst e;exact hc
 ·exact h j hj (by omega)
theorem NoMark.none {c:UInt8} (h:NoMark c 23):¬ c∈marks1:=by
 intro hc
 obtain⟨i,hi,rfl⟩:=List.getElem_of_mem hc
 exact h i hi hi rfl
theorem ZkG (s:ByteArray) (k:Nat) (w:World) (hs:s.size<=1000000) (hk:k<s.size) :
  Calls Tryz.prog 92 #[.string s,.int .i64 k] w λ e w'=>e=.returned (.int .i64 (mLen s k:Nat))/\∃ n,w'=w.drewN n:=by
 have hsl:∀ W,(Instr.slice 9 (.string s) (some (.int .i64 (k:Int))) (some (.int .i64 (min (s.size:Int) ((k:Int)+2)))) none).run Tryz.prog W=.ok (.string (s.extract k (k+2))) W:=by
  intro W
  rw [Zez s _ _ k (min s.size (k+2)) rfl (by omega) (by omega) (by omega) W,ext_min]
 have e1:=Zbk s k 61 61
 have e2:=Zbk s k 33 61
 have e3:=Zbk s k 60 61
 have e4:=Zbk s k 62 61
 have e5:=Zbk s k 38 38
 have e6:=Zbk s k 124 124
 have e7:=Zbk s k 35 35
 rcases eight s k with⟨h1,HT⟩ | ⟨h1,h2,HT⟩ | ⟨h1,h2,h3,HT⟩ | ⟨h1,h2,h3,h4,HT⟩ | ⟨h1,h2,h3,h4,h5,HT⟩ | ⟨h1,h2,h3,h4,h5,h6,HT⟩ | ⟨h1,h2,h3,h4,h5,h6,h7,HT⟩ | ⟨h1,h2,h3,h4,h5,h6,h7,HT⟩
 iterate 7
  ·(try rw [h1] at e1);(try rw [h2] at e2);(try rw [h3] at e3);(try rw [h4] at e4);(try rw [h5] at e5);(try rw [h6] at e6);(try rw [h7] at e7)
   have HF:Hid (mLen s k=2):=by show _=_;unfold mLen;rw [if_pos HT.out]
   go_enter Tryz.func92,Tryz.ntmps92
   go_wp2
   go_ret
   exact⟨Za5 (by rw [HF.out];rfl),0,rfl⟩
 ·rw [h1] at e1;rw [h2] at e2;rw [h3] at e3;rw [h4] at e4;rw [h5] at e5;rw [h6] at e6;rw [h7] at e7
  go_enter Tryz.func92,Tryz.ntmps92
  go_wp2
  go_loopw [7] (λ i wr=>∃ j:Nat,j<=23/\i=.int .i64 j/\NoMark s[k] j/\∃ n,wr=w.drewN n) (λ i _=>23-(intOf i).toNat)
  case atStart=>exact⟨0,by omega,rfl,NoMark.zero _,0,rfl⟩
  case round =>
   obtain⟨j,hj,rfl,hno,n,rfl⟩:=hrel
   by_cases hlt:j<23
   ·have hix:∀ W,(Instr.index 9 (.string ⟨#[43,45,42,47,37,60,62,61,33,38,124,40,41,44,35,59,63,58,123,125,91,93,46]⟩) (.int .i64 (j:Int))).run Tryz.prog W=.ok (.int .u8 ((marks1[j]'hlt).toNat:Int)) W:=by
     intro W
     have h1:(0:Int)<=(j:Int)/\(j:Int)<((⟨#[43,45,42,47,37,60,62,61,33,38,124,40,41,44,35,59,63,58,123,125,91,93,46]⟩:ByteArray).size:Int):=⟨by omega,by show (j:Int)<23;omega⟩
     rw [run_index_string W _ _ .i64 (j:Int) Tryz.underlying9,dif_pos h1]
     rfl
    by_cases hc:marks1[j]'hlt=s[k]
    ·have HF:Hid (mLen s k=1):=ZgR HT.out hk (hc ▸ List.getElem_mem hlt)
     have hce:(((marks1[j]'hlt).toNat:Int)==(s[k].toNat:Int))=true:=by rw [hc];simp
     clear hc
     go_wp2
     go_quiet (fail)
     go_wp2
     go_ret
     exact⟨Za5 (by rw [HF.out];rfl),_,World.drewN_drewN _ _ _⟩
    ·have HN:=Qh (hno.succ hlt hc)
     have hce:(((marks1[j]'hlt).toNat:Int)==(s[k].toNat:Int))=false:=by
      rw [beq_eq_false_iff_ne];intro h;exact hc (UInt8.toNat_inj.1 (by omega))
     clear hc hno
     go_wp2
     go_quiet (fail)
     go_wp2
     go_roundw
     case rel=>exact⟨j+1,by omega,by go_num,HN.out,_,rfl⟩
     case measure=>simp [intOf];omega
   ·obtain rfl:j=23:=by omega
    have HF:Hid (mLen s k=0):=ZfD HT.out hk hno.none
    go_wp2
    go_ret
    exact⟨Za5 (by rw [HF.out];rfl),_,rfl⟩
theorem sCut_w {s:ByteArray} {k:Nat} (h:k<s.size) (hl:isLet s[k]=true):sCut s k=(1,(wEnd s (k+1):Int)):=by rw [Zdo h (Zeo hl),if_pos hl]
theorem sCut_d {s:ByteArray} {k:Nat} (h:k<s.size) (hl:isLet s[k]=false) (hd:isDig s[k]=true):sCut s k=(2,(wEnd s (k+1):Int)):=by rw [Zdo h (ZeX hd),if_neg (by simp [hl])]
theorem Zc2 {s:ByteArray} {k:Nat} {a b:Int} (h:sCut s k=(a,b)):Ending.returned (.tuple #[.int .i64 a,.int .i64 b])=.returned (.tuple #[.int .i64 (sCut s k).1,.int .i64 (sCut s k).2]):=by rw [h]
theorem cut_let (s:ByteArray) (k0:Nat) (w:World) (hs:s.size<=1000000) (hk0:k0<s.size) (hl:isLet s[k0]=true) :
  Calls Tryz.prog 58 #[.string s,.int .i64 k0] w λ e w'=>e=.returned (.tuple #[.int .i64 (sCut s k0).1,.int .i64 (sCut s k0).2])/\∃ n,w'=w.drewN n:=by
 have HF:=Qh (sCut_w hk0 hl)
 go_enter Tryz.func58,Tryz.ntmps58
 go_wp2_with (first
  | (go_at_call 88;refine (ZaJ _ _).mono ?_;rw [hl];rintro e w' ⟨rfl,rfl⟩))
 go_loop [6] (λ i=>∃ k:Nat,k0+1<=k/\k<=s.size/\i=.int .i64 k/\wEnd s k=wEnd s (k0+1)) (λ i=>s.size-(intOf i).toNat)
 case atStart=>exact⟨k0+1,by omega,by omega,by go_num,rfl⟩
 case round =>
  obtain⟨k,hk1,hk,rfl,he⟩:=hrel
  have HE:=Qh he;clear he
  by_cases hlt:k<s.size
  ·cases hl2:isLet s[k]
   ·cases hd2:isDig s[k]
    ·have HG:=Qh ((ZbA hlt (Zhw hl2 hd2)).symm.trans HE.out)
     go_wp2_with (first
      | (go_at_call 88;refine (ZaJ _ _).mono ?_;(first | rw [hl2] | rw [hl]);rintro e w' ⟨rfl,rfl⟩)
      | (go_at_call 89;refine (Zbi _ _).mono ?_;rw [hd2];rintro e w' ⟨rfl,rfl⟩))
     go_ret2
     exact⟨Zc2 (by rw [HF.out,← HG.out]),0,rfl⟩
    ·have HG:=Qh ((Zbl hlt (ZeX hd2)).symm.trans HE.out)
     go_wp2_with (first
      | (go_at_call 88;refine (ZaJ _ _).mono ?_;rw [hl2];rintro e w' ⟨rfl,rfl⟩)
      | (go_at_call 89;refine (Zbi _ _).mono ?_;rw [hd2];rintro e w' ⟨rfl,rfl⟩))
     go_round
     case rel=>exact⟨k+1,by omega,by omega,by go_num,HG.out⟩
     case measure=>simp [intOf];omega
   ·have HG:=Qh ((Zbl hlt (Zeo hl2)).symm.trans HE.out)
    go_wp2_with (first
     | (go_at_call 88;refine (ZaJ _ _).mono ?_;rw [hl2];rintro e w' ⟨rfl,rfl⟩))
    go_round
    case rel=>exact⟨k+1,by omega,by omega,by go_num,HG.out⟩
    case measure=>simp [intOf];omega
  ·have HG:=Qh ((Zcx (s:=s) (k:=k) (by omega)).symm.trans HE.out)
   go_wp2_with (first
    | (go_at_call 88;refine (ZaJ _ _).mono ?_;rw [hl];rintro e w' ⟨rfl,rfl⟩))
   go_ret2
   exact⟨Zc2 (by rw [HF.out,← HG.out]),0,rfl⟩
theorem cut_dig (s:ByteArray) (k0:Nat) (w:World) (hs:s.size<=1000000) (hk0:k0<s.size) (hl:isLet s[k0]=false) (hd:isDig s[k0]=true) :
  Calls Tryz.prog 58 #[.string s,.int .i64 k0] w λ e w'=>e=.returned (.tuple #[.int .i64 (sCut s k0).1,.int .i64 (sCut s k0).2])/\∃ n,w'=w.drewN n:=by
 have HF:=Qh (sCut_d hk0 hl hd)
 go_enter Tryz.func58,Tryz.ntmps58
 go_wp2_with (first
  | (go_at_call 88;refine (ZaJ _ _).mono ?_;rw [hl];rintro e w' ⟨rfl,rfl⟩)
  | (go_at_call 89;refine (Zbi _ _).mono ?_;rw [hd];rintro e w' ⟨rfl,rfl⟩))
 go_loop [6] (λ i=>∃ k:Nat,k0+1<=k/\k<=s.size/\i=.int .i64 k/\wEnd s k=wEnd s (k0+1)) (λ i=>s.size-(intOf i).toNat)
 case atStart=>exact⟨k0+1,by omega,by omega,by go_num,rfl⟩
 case round =>
  obtain⟨k,hk1,hk,rfl,he⟩:=hrel
  have HE:=Qh he;clear he
  by_cases hlt:k<s.size
  ·cases hl2:isLet s[k]
   ·cases hd2:isDig s[k]
    ·have HG:=Qh ((ZbA hlt (Zhw hl2 hd2)).symm.trans HE.out)
     go_wp2_with (first
      | (go_at_call 88;refine (ZaJ _ _).mono ?_;(first | rw [hl2] | rw [hl]);rintro e w' ⟨rfl,rfl⟩)
      | (go_at_call 89;refine (Zbi _ _).mono ?_;rw [hd2];rintro e w' ⟨rfl,rfl⟩))
     go_ret2
     exact⟨Zc2 (by rw [HF.out,← HG.out]),0,rfl⟩
    ·have HG:=Qh ((Zbl hlt (ZeX hd2)).symm.trans HE.out)
     go_wp2_with (first
      | (go_at_call 88;refine (ZaJ _ _).mono ?_;rw [hl2];rintro e w' ⟨rfl,rfl⟩)
      | (go_at_call 89;refine (Zbi _ _).mono ?_;rw [hd2];rintro e w' ⟨rfl,rfl⟩))
     go_round
     case rel=>exact⟨k+1,by omega,by omega,by go_num,HG.out⟩
     case measure=>simp [intOf];omega
   ·have HG:=Qh ((Zbl hlt (Zeo hl2)).symm.trans HE.out)
    go_wp2_with (first
     | (go_at_call 88;refine (ZaJ _ _).mono ?_;rw [hl2];rintro e w' ⟨rfl,rfl⟩))
    go_round
    case rel=>exact⟨k+1,by omega,by omega,by go_num,HG.out⟩
    case measure=>simp [intOf];omega
  ·have HG:=Qh ((Zcx (s:=s) (k:=k) (by omega)).symm.trans HE.out)
   go_wp2_with (first
    | (go_at_call 88;refine (ZaJ _ _).mono ?_;rw [hl];rintro e w' ⟨rfl,rfl⟩))
   go_ret2
   exact⟨Zc2 (by rw [HF.out,← HG.out]),0,rfl⟩
theorem cut_no (s:ByteArray) (k0:Nat) (w:World) (hs:s.size<=1000000) (hk0:k0<s.size) (hw:Zan s[k0]=false) :
  Calls Tryz.prog 58 #[.string s,.int .i64 k0] w λ e w'=>e=.returned (.tuple #[.int .i64 (sCut s k0).1,.int .i64 (sCut s k0).2])/\∃ n,w'=w.drewN n:=by
 have hl:isLet s[k0]=false:=by unfold Zan at hw;rw [Bool.or_eq_false_iff] at hw;exact hw.1
 have hd:isDig s[k0]=false:=by unfold Zan at hw;rw [Bool.or_eq_false_iff] at hw;exact hw.2
 by_cases hq:s[k0].toNat=34
 ·have h34:((s[k0].toNat:Int)==34)=true:=by simp;omega
  cases hc:tClose s (k0+1) with
  |
   some e =>
   have HF:=Qh (Zem hk0 hw hq hc)
   obtain⟨c1,c2,c3,c4,c5⟩:=Za1 hc
   have hb:=Zl8 hc
   have hB:decide (bk s (k0+1) (e-1)≠e-1)=false:=by simp [hb]
   have h5:((s[e-1].toNat:Int) != 34)=false:=by simp;omega
   have h6:((e:Int)-1).toNat=e-1:=by omega
   clear hb hc hq
   go_enter Tryz.func58,Tryz.ntmps58
   go_wp2_with (first
    | (go_at_call 88;refine (ZaJ _ _).mono ?_;rw [hl];rintro e w' ⟨rfl,rfl⟩)
    | (go_at_call 89;refine (Zbi _ _).mono ?_;rw [hd];rintro e w' ⟨rfl,rfl⟩)
    | (go_at_call 90;refine (Zgx s k0 _ hs hk0).mono ?_;rw [c3];rintro e w' ⟨rfl,rfl⟩)
    | (go_at_call 91;refine (Zgz s k0 e _ hs c2 (by omega) hk0).mono ?_;rw [hB];rintro e w' ⟨rfl,rfl⟩))
   go_ret2
   exact⟨Zc2 HF.out,0,rfl⟩
  |
   none =>
   have HF:=Qh (Zfy hk0 hw hq hc)
   have c3:=ZkF hc
   have hord:k0+1=s.size\/(k0+1<s.size/\((s[s.size-1].toNat:Int) != 34)=true)\/(k0+1<s.size/\((s[s.size-1].toNat:Int) != 34)=false/\decide (bk s (k0+1) (s.size-1)≠s.size-1)=true):=by
    by_cases h1:k0+1<s.size
    ·by_cases h2:s[s.size-1].toNat=34
     ·exact .inr (.inr ⟨h1,by simp;omega,by simpa using bk_open hc h1 h2⟩)
     ·exact .inr (.inl ⟨h1,by simp;omega⟩)
    ·exact .inl (by omega)
   clear hc hq
   have h6:((s.size:Int)-1).toNat=s.size-1:=by omega
   go_enter Tryz.func58,Tryz.ntmps58
   rcases hord with h7 | ⟨h7,h5⟩ | ⟨h7,h5,hB⟩
   all_goals
    go_wp2_with (first
     | (go_at_call 88;refine (ZaJ _ _).mono ?_;rw [hl];rintro e w' ⟨rfl,rfl⟩)
     | (go_at_call 89;refine (Zbi _ _).mono ?_;rw [hd];rintro e w' ⟨rfl,rfl⟩)
     | (go_at_call 90;refine (Zgx s k0 _ hs hk0).mono ?_;rw [c3];rintro e w' ⟨rfl,rfl⟩)
     | (go_at_call 91;refine (Zgz s k0 s.size _ hs (Nat.le_refl _) (by omega) hk0).mono ?_;rw [hB];rintro e w' ⟨rfl,rfl⟩))
    go_ret2
    exact⟨Zc2 HF.out,0,rfl⟩
 ·have h34:((s[k0].toNat:Int)==34)=false:=by simp;omega
  have HF:=Qh (Zd7 hk0 hw hq)
  have hml:=(Zfw (s:=s) hk0).2
  clear hq
  go_enter Tryz.func58,Tryz.ntmps58
  go_wp2_with (first
   | (go_at_call 88;refine (ZaJ _ _).mono ?_;rw [hl];rintro e w' ⟨rfl,rfl⟩)
   | (go_at_call 89;refine (Zbi _ _).mono ?_;rw [hd];rintro e w' ⟨rfl,rfl⟩)
   | (go_at_call 92;refine (ZkG s k0 _ hs hk0).mono ?_;rintro e w' ⟨rfl,n,rfl⟩))
  go_ret2
  exact⟨Zc2 (by rw [HF.out];simp),_,rfl⟩
theorem Zhx (s:ByteArray) (k0:Nat) (w:World) (hs:s.size<=1000000) (hk0:k0<s.size) :
  Calls Tryz.prog 58 #[.string s,.int .i64 k0] w λ e w'=>e=.returned (.tuple #[.int .i64 (sCut s k0).1,.int .i64 (sCut s k0).2])/\∃ n,w'=w.drewN n:=by
 cases hw:Zan s[k0]
 ·exact cut_no s k0 w hs hk0 hw
 ·cases h:isLet s[k0]
  ·unfold Zan at hw
   rw [h,Bool.false_or] at hw
   exact cut_dig s k0 w hs hk0 h hw
  ·exact cut_let s k0 w hs hk0 h
end Go.Proofs.YtiaiggjfepoahaaGreat
