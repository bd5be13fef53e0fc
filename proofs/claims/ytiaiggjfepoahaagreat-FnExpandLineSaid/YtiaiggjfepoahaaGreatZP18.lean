/- Texts that the proof of P stands on, in one file. -/
import Derived.Test.YtiaiggjfepoahaaGreatZP17
set_option linter.unusedVariables false
set_option maxHeartbeats 16000000
set_option maxRecDepth 100000
set_option linter.unusedSimpArgs false
/- TokenBytes, textWithin and TextToken of the program. (Made by gen_txt.py.) -/
namespace Go.Proofs.YtiaiggjfepoahaaGreat
open Go.RowKit
/-! ### What stands between the quotes -/
def mid (s:ByteArray):ByteArray:=s.extract 1 (s.size-1)
theorem Zew (s:ByteArray):(mid s).size=s.size-2:=by unfold mid;rw [ByteArray.size_extract];omega
theorem Zms {s:ByteArray} {i:Nat} (h:i<(mid s).size):(mid s)[i]=s[i+1]'(by rw [Zew] at h;omega):=by
 have h2:i+1<s.size:=by rw [Zew] at h;omega
 have:(mid s)[i]=s[1+i]'(by omega):=Zgv s 1 (s.size-1) i h
 rw [this]
 have e:1+i=i+1:=by omega
 simp only [e]
theorem mid_one {s:ByteArray} {i:Nat} (h:i<(mid s).size):(mid s).extract i (i+1)=s.extract (i+1) (i+2):=by
 have h2:i+1<s.size:=by rw [Zew] at h;omega
 rw [Zep h,Zep h2,Zms h]
def MidAt (s:ByteArray) (i:Nat) (out:ByteArray):Prop:=OutAt s (i+1) out
theorem MidAt.byte {s:ByteArray} {i:Nat} {out:ByteArray} (h:MidAt s i out) (hi:i<(mid s).size) (hc:¬ (mid s)[i].toNat=92):MidAt s (i+1) (out++(mid s).extract i (i+1)):=by
 have hz:=Zew s
 rw [Zms hi] at hc
 rw [mid_one hi]
 exact OutAt.byte h (by omega) hc
theorem MidAt.done {s:ByteArray} {i:Nat} {out:ByteArray} (h:MidAt s i out) (hi:(mid s).size<=i):out=outTo s 1:=OutAt.done h (by have:=Zew s;omega)
theorem MidAt.size {s:ByteArray} {i:Nat} {out:ByteArray} (h:MidAt s i out):out.size<=i+1:=h.2.2.2
theorem Y18A1 {g:Prop} (h:g:=by
 clear HO HQ
 go_wp2_with (first
  | (at_builtin;refine Zdr rfl (.tmp 28) (.tmp 29) rfl W1.heap.size _ out ⟨#[92]⟩ 92 rfl hown rfl rfl (by omega) hbs ?_;intro v1 w1 hown1 hg1;have hbel1:=hb.grown hg1 hbs (λ b hb=>(hown.lt b hb).1);have c2:w1.cell? ⟨w.heap.size,1,none⟩=some (.string x.text):=(hbel1.cell (p:=⟨w.heap.size,1,none⟩) hlt1).trans (Qc 1 HX.out))
  | (at_builtin;refine Zdr rfl (.tmp 31) (.tmp 36) rfl W1.heap.size _ (out++⟨#[92]⟩) (x.text.extract k (k+1)) _ rfl hown1 rfl hb1 (by rw [ByteArray.size_append];have:(⟨#[92]⟩:ByteArray).size=1:=rfl;omega) hbel1.size ?_;intro v2 w2 hown2 hg2))
 have hbel2:=hbel1.grown hg2 hbel1.size (λ b hb=>(hown1.lt b hb).1)
 go_roundw
 case rel=>exact⟨k+1,_,by go_num,by omega,HN.out,hown2,hbel2⟩
 case measure=>simp [intOf];omega):g:=h
theorem Zim (cs:List Value) (x:Tok) (fp:List Nat) (w:World) (hz:x.text.size<=200) (H:sTok.R w cs x fp) :
  Calls Tryz.prog 154 #[.agg cs.toArray] w (StrOf (bit x) w):=by
 obtain⟨h,rfl,-,-,-⟩:=H
 have hb0:=Zab w (.cells #[.int .i64 x.kind,.string x.text,.bool x.spaced,h] 57)
 have HX:=Qh (heap_alloc_new w (.cells #[.int .i64 x.kind,.string x.text,.bool x.spaced,h] 57))
 by_cases h3:x.kind=3
 rotate_left
 ·have HF:Hid (x.text=bit x):=by show _=_;unfold bit;rw [if_neg h3]
  have hk':(x.kind != 3)=true:=by simp [h3]
  clear h3
  go_enter Tryz.func154,Tryz.ntmps154
  go_wp2
  go_ret
  exact⟨Zfy HF.out,hb0⟩
 have HF:Hid (escTo x.text x.text.size=bit x):=by show _=_;unfold bit;rw [if_pos h3]
 have hk':(x.kind != 3)=false:=by simp [h3]
 clear h3
 go_enter Tryz.func154,Tryz.ntmps154
 go_wp2
 have hs0:(w.alloc (.cells #[.int .i64 x.kind,.string x.text,.bool x.spaced,h] 57)).heap.size=w.heap.size+1:=by show (w.heap.push _).size=_;simp
 have HS0:=Qh hs0
 clear hs0
 generalize (w.alloc (.cells #[.int .i64 x.kind,.string x.text,.bool x.spaced,h] 57))=W1 at *
 go_loopw [3,13] (λ o i wr=>∃ (k:Nat) (out:ByteArray),i=.int .i64 k/\k<=x.text.size/\Hid (out=escTo x.text k)/\Bytes W1.heap.size o out wr/\Below W1.heap.size W1 wr) (λ _ i _=>x.text.size-(intOf i).toNat)
 case atStart=>exact⟨0,_,rfl,by omega,rfl,Bytes.none _ _,Below.refl _ _⟩
 case round =>
  obtain⟨k,out,rfl,hk,HO,hown,hb⟩:=hrel
  have ho:out.size<=2 * k:=by rw [HO.out];exact Zc9 _ k
  have hbs:=hb.size
  have hcv:=ZiG hown
  have hlt1:w.heap.size<W1.heap.size:=by have:=HS0.out;omega
  have c1:wr.cell? ⟨w.heap.size,1,none⟩=some (.string x.text):=(hb.cell (p:=⟨w.heap.size,1,none⟩) hlt1).trans (Qc 1 HX.out)
  by_cases hlt:k<x.text.size
  ·have hb1:=Zlz x.text k hlt
   rcases q_ways x.text[k] with⟨e1,HQ⟩ | ⟨e1,e2,HQ⟩ | ⟨e1,e2,HQ⟩
   ·have HN:Hid (out++⟨#[92]⟩++x.text.extract k (k+1)=escTo x.text (k+1)):=by show _=_;rw [Zdv hlt HQ.out,HO.out]
    exact Y18A1
   ·have HN:Hid (out++⟨#[92]⟩++x.text.extract k (k+1)=escTo x.text (k+1)):=by show _=_;rw [Zdv hlt HQ.out,HO.out]
    exact Y18A1
   ·have HN:Hid (out++x.text.extract k (k+1)=escTo x.text (k+1)):=by show _=_;rw [Ze8 hlt HQ.out,HO.out]
    clear HO HQ
    go_wp2_with (at_builtin;refine Zdr rfl (.tmp 31) (.tmp 36) rfl W1.heap.size _ out (x.text.extract k (k+1)) _ rfl hown rfl hb1 (by omega) hbs ?_;intro v2 w2 hown2 hg2)
    have hbel2:=hb.grown hg2 hbs (λ b hb=>(hown.lt b hb).1)
    go_roundw
    case rel=>exact⟨k+1,_,by go_num,by omega,HN.out,hown2,hbel2⟩
    case measure=>simp [intOf];omega
  ·have HD:Hid (out=bit x):=by show _=_;rw [← HF.out,HO.out,show k=x.text.size by omega]
   clear HO
   go_wp2
   go_ret
   exact⟨Zfy HD.out,hb0.trans (hb.mono (by have:=HS0.out;omega))⟩
/-! ### TextToken -/
theorem Zi3 (s:ByteArray):Lib.strCells s++[.int .u8 34]=Lib.strCells (s++⟨#[34]⟩):=by
 unfold Lib.strCells;rw [ByteArray.data_append,Array.toList_append,List.map_append];rfl
theorem Zli {b:Nat} {s:ByteArray} {w:World} (h:Bld b s w) (hs:s.size<=1048576) :
  Calls Tryz.prog 53 #[.pointer (some ⟨b,0,none⟩),.int .u8 34] w λ e w'=>e=.returned .nilIface/\Bld b (s++⟨#[34]⟩) w'/\Below b w w'/\Lib.OthersKept 5 (some b) w w':=
 (ZkH b b _ 34 w h (by rw [Lib.strCells_length];exact hs) (Nat.le_of_lt h.lt)).mono λ e w' ⟨h1,h2⟩=>⟨h1,Bld.of h2 (Zi3 s),h2.2.1,h2.2.2⟩
def qTo (l:List Tok) (k:Nat):ByteArray:=⟨#[34]⟩++Zax l k
theorem qTo_size {l:List Tok} (h:Zaj l=true) {k:Nat} (hk:k<=l.length):(qTo l k).size<=401 * k+1:=by
 have:=ZdK h k hk
 have h1:(⟨#[34]⟩:ByteArray).size=1:=rfl
 unfold qTo;rw [ByteArray.size_append];omega
theorem qTo_sp {l:List Tok} {k:Nat} (hk:k<l.length) (h0:0<k) (h:l[k].spaced=true):qTo l (k+1)=qTo l k++⟨#[32]⟩++bit l[k]:=by
 unfold qTo;rw [ZcS hk h0 h,ByteArray.append_assoc,ByteArray.append_assoc,ByteArray.append_assoc]
theorem qTo_no {l:List Tok} {k:Nat} (hk:k<l.length) (h:¬ (0<k/\l[k].spaced=true)):qTo l (k+1)=qTo l k++bit l[k]:=by
 unfold qTo;rw [Zb6 hk h,ByteArray.append_assoc]
theorem qTo_zero (l:List Tok):(⟨#[]⟩:ByteArray)++⟨#[34]⟩=qTo l 0:=rfl
theorem qTo_end (l:List Tok):qTo l l.length++⟨#[34]⟩=quoted (Zax l l.length):=rfl
theorem Zi4 (v:Value) (l:List Tok) (fp:List Nat) (w:World) (H:(Zaa sTok).R w [v] l fp) :
  Calls Tryz.prog 148 #[v] w (TextOf l w):=by
 have hz0:=Zab w (.cells #[.int .i64 0,.string ⟨#[]⟩,.bool false,.slice none 0 0] 57)
 have HZ:=Qh (heap_alloc_new w (.cells #[.int .i64 0,.string ⟨#[]⟩,.bool false,.slice none 0 0] 57))
 have hs0:(w.alloc (.cells #[.int .i64 0,.string ⟨#[]⟩,.bool false,.slice none 0 0] 57)).heap.size=w.heap.size+1:=by show (w.heap.push _).size=_;simp
 have HL0:=(Zaa sTok).below H hz0
 have HV:=Qh (ZbD v l fp _ HL0)
 obtain⟨a,cap,rfl,hc,hm,hrow⟩:=Zac HL0
 unfold maxLen at hm
 clear H HL0
 cases hv:Zaj l
 ·have HF:=Qh (ZjA hv)
  rw [hv] at HV
  clear hv hs0
  go_enter Tryz.func148,Tryz.ntmps148
  go_wp2_with fail
  refine HV.out.mono ?_
  rintro e w2 ⟨rfl,hb2⟩
  have hB2:=hz0.trans (hb2.mono hz0.size)
  replace HZ:=Qh (mbox HZ.out hb2)
  clear HV hb2 hz0
  have z0:=Qc 0 HZ.out
  have zf0:=Qf 0 HZ.out
  have z1:=Qc 1 HZ.out
  have zf1:=Qf 1 HZ.out
  have z2:=Qc 2 HZ.out
  have zf2:=Qf 2 HZ.out
  have z3:=Qc 3 HZ.out
  have zf3:=Qf 3 HZ.out
  have HS:=Qh (Zah (Zah (Zah (Zah HZ.out 0 (.int .i64 0)) 1 (.string ⟨#[]⟩)) 2 (.bool false)) 3 (.slice none 0 0))
  have HBF:=Qh ((((hB2.setCell (p:=⟨w.heap.size,0,none⟩) (Nat.le_refl _) (.int .i64 0)).setCell (p:=⟨w.heap.size,1,none⟩) (Nat.le_refl _) (.string ⟨#[]⟩)).setCell (p:=⟨w.heap.size,2,none⟩) (Nat.le_refl _) (.bool false)).setCell (p:=⟨w.heap.size,3,none⟩) (Nat.le_refl _) (.slice none 0 0))
  go_wp2
  refine bodyPost_ret (Zap rfl _ _ w.heap.size _ _ _ _ rfl HS.out Tryz.underlying57 rfl (by kernel_rfl)) rfl ?_
  exact ZeE HF.out HBF.out
 rw [hv] at HV
 have HOK:=Qh (Zam hv)
 have hlen:=HOK.out.1
 have HSZ:=Qh (λ k hk=>qTo_size hv (k:=k) hk)
 have HY:=Qh (λ h=>Zh5 (l:=l) hv rfl h)
 have HG:=Qh (λ h=>ZgW (l:=l) hv rfl h)
 have HQL:=Qh (ZgY hv)
 have HVD:=Qh hv
 clear hv
 go_enter Tryz.func148,Tryz.ntmps148
 go_wp2_with fail
 refine HV.out.mono ?_
 rintro e w1 ⟨rfl,hb1⟩
 have hB1:=hz0.trans (hb1.mono hz0.size)
 replace HZ:=Qh (mbox HZ.out hb1)
 have hgz:w.heap.size<w1.heap.size:=by have:=hb1.size;omega
 have HROW:Hid (∀ k,(hk:k<l.length)->∃ b1 off1 h1 fpk,a=some ⟨b1,off1,none⟩/\b1<w1.heap.size/\ElemAt w1 b1 off1 4 k [.int .i64 l[k].kind,.string l[k].text,.bool l[k].spaced,h1]/\sTok.R w1 [.int .i64 l[k].kind,.string l[k].text,.bool l[k].spaced,h1] l[k] fpk):=λ k hk=>by
  obtain⟨b1,off1,fps1,rfl,hb1',-,he1⟩:=hrow (by omega)
  obtain⟨es1,hE1,hR1⟩:=he1 k hk
  have hR1':=hR1
  obtain⟨h1,rfl,-,-,-⟩:=hR1
  exact⟨b1,off1,h1,_,rfl,Nat.lt_of_lt_of_le hb1' hb1.size,hE1.frame (hb1.block b1 hb1'),sTok.below hR1' hb1⟩
 clear hrow HV hb1 hz0 hs0
 have HB0:=Qh (Bld.fresh w1)
 have hb2:=Zab w1 (.cells #[.pointer none,.slice none 0 0] 89)
 go_wp2_with fail
 refine (Zli HB0.out (by show (0:Nat)<=_;omega)).mono ?_
 rintro e w2 ⟨rfl,hB2,hb3,-⟩
 have hb4:=hb2.trans (hb3.mono (Nat.le_refl _))
 rw [qTo_zero l] at hB2
 replace HB0:=Qh hB2
 clear hb2 hb3 hB2
 go_wp2_with fail
 go_loopw [14] (λ i wr=>∃ (k:Nat),k<=l.length/\i=.int .i64 k/\Hid (Bld w1.heap.size (qTo l k) wr)/\Below w1.heap.size w1 wr) (λ i _=>l.length-(intOf i).toNat)
 case atStart=>exact⟨0,by omega,rfl,HB0,hb4⟩
 case round =>
  obtain⟨k,hk,rfl,HB,hb⟩:=hrel
  clear HB0 hb4
  by_cases hlt:k<l.length
  ·obtain⟨b1,off1,h1,fpk,rfl,hb1',hE1,hR1⟩:=HROW.out k hlt
   replace hE1:=hE1.frame (hb.block b1 hb1')
   have c10:wr.cell? ⟨b1,off1+k * 4,none⟩=some _:=Zao hE1 (by decide) rfl
   have c11:wr.cell? ⟨b1,off1+k * 4+1,none⟩=some _:=Zae (j:=1) hE1 (by decide) rfl
   have c12:wr.cell? ⟨b1,off1+k * 4+2,none⟩=some _:=Zae (j:=2) hE1 (by decide) rfl
   have c13:wr.cell? ⟨b1,off1+k * 4+3,none⟩=some _:=Zae (j:=3) hE1 (by decide) rfl
   have hsz1:=(Zaz (HOK.out.2 k hlt)).2
   have hbz:=ZkT l[k]
   have hso:=HSZ.out k hk
   have HT:Hid (∀ W,Below w1.heap.size w1 W->Calls Tryz.prog 154 #[.agg #[.int .i64 l[k].kind,.string l[k].text,.bool l[k].spaced,h1]] W (StrOf (bit l[k]) W)):=λ W hW=>Zim _ l[k] _ W hsz1 (sTok.below hR1 hW)
   obtain⟨ah,caph,rfl⟩:∃ ah caph,h1=.slice ah l[k].hidden.length caph:=by
    obtain⟨h',e',-,-,K⟩:=hR1
    obtain⟨ah,caph,e2,-⟩:=Zac K
    simp only [List.cons.injEq,and_true,true_and] at e'
    exact⟨ah,caph,by rw [e',e2]⟩
   have hbx:Below wr.heap.size wr (wr.alloc (.cells #[.int .i64 l[k].kind,.string l[k].text,.bool l[k].spaced,.slice ah l[k].hidden.length caph] 57)):=Zab _ _
   have HX:=Qh (heap_alloc_new wr (.cells #[.int .i64 l[k].kind,.string l[k].text,.bool l[k].spaced,.slice ah l[k].hidden.length caph] 57))
   have HB1:=Qh (HB.out.below hbx)
   have hlw:=HB.out.lt
   have hbw:=hb.trans (hbx.mono hb.size)
   have hne:wr.heap.size≠w1.heap.size:=by omega
   clear hE1 hR1 hbx
   by_cases h0:k=0
   ·have h00:¬ (0:Int)<(k:Int):=by omega
    have h01:decide ((0:Int)<(k:Int))=false:=by simp;omega
    have h02:decide (0<k)=false:=by simp;omega
    have HNS:Hid (¬ (0<k/\l[k].spaced=true)):=λ h=>by omega
    clear h0
    have HN:=Qh (qTo_no hlt HNS.out)
    go_wp2_with fail
    refine (HT.out _ hbw).mono ?_
    rintro e w3 ⟨rfl,hb3⟩
    have HB3:=Qh (HB1.out.below hb3)
    have hbw3:=hbw.trans (hb3.mono hbw.size)
    clear c10 c11 c12 c13 hb3
    go_wp2_with fail
    refine (Zdt HB3.out (by omega)).mono ?_
    rintro e w4 ⟨rfl,hB4,hb4,-⟩
    rw [← HN.out] at hB4
    have hbw4:=hbw3.trans (hb4.mono (Nat.le_refl _))
    go_wp2
    go_roundw
    case rel=>exact⟨k+1,by omega,by go_num,hB4,hbw4⟩
    case measure=>simp [intOf];omega
   ·have h00:(0:Int)<(k:Int):=by omega
    have h01:decide ((0:Int)<(k:Int))=true:=by simp;omega
    have h02:decide (0<k)=true:=by simp;omega
    cases hsp:l[k].spaced
    ·have HNS:Hid (¬ (0<k/\l[k].spaced=true)):=λ h=>by rw [hsp] at h;exact absurd h.2 (by simp)
     rw [hsp] at c12 HT HX HB1 hbw
     have HN:=Qh (qTo_no hlt HNS.out)
     go_wp2_with fail
     refine (HT.out _ hbw).mono ?_
     rintro e w3 ⟨rfl,hb3⟩
     have HB3:=Qh (HB1.out.below hb3)
     have hbw3:=hbw.trans (hb3.mono hbw.size)
     clear c10 c11 c12 c13 hb3
     go_wp2_with fail
     refine (Zdt HB3.out (by omega)).mono ?_
     rintro e w4 ⟨rfl,hB4,hb4,-⟩
     rw [← HN.out] at hB4
     have hbw4:=hbw3.trans (hb4.mono (Nat.le_refl _))
     go_wp2
     go_roundw
     case rel=>exact⟨k+1,by omega,by go_num,hB4,hbw4⟩
     case measure=>simp [intOf];omega
    ·have HN:=Qh (qTo_sp hlt (by omega) hsp)
     rw [hsp] at c12 HT HX HB1 hbw
     go_wp2_with fail
     refine (ZiN HB1.out (by omega)).mono ?_
     rintro e w3 ⟨rfl,hB3,hb3,hk3⟩
     have hbw3:=hbw.trans (hb3.mono (Nat.le_refl _))
     have HX3:=Qh (Zgb hk3 HX.out hne (by decide))
     have q0:=Qc 0 HX3.out
     have q1:=Qc 1 HX3.out
     have q2:=Qc 2 HX3.out
     have q3:=Qc 3 HX3.out
     have HB3:=Qh hB3
     have h32:(qTo l k++(⟨#[32]⟩:ByteArray)).size<=401 * k+2:=by rw [ByteArray.size_append];have:(⟨#[32]⟩:ByteArray).size=1:=rfl;omega
     have H32:=Qh h32
     clear c10 c11 c12 c13 hb3 hk3 hB3 h32
     go_wp2_with fail
     refine (HT.out _ hbw3).mono ?_
     rintro e w4 ⟨rfl,hb4⟩
     have HB4:=Qh (HB3.out.below hb4)
     have hbw4:=hbw3.trans (hb4.mono hbw3.size)
     clear q0 q1 q2 q3 hb4
     go_wp2_with fail
     refine (Zdt HB4.out (by have:=H32.out;omega)).mono ?_
     rintro e w5 ⟨rfl,hB5,hb5,-⟩
     rw [← HN.out] at hB5
     have hbw5:=hbw4.trans (hb5.mono (Nat.le_refl _))
     go_wp2
     go_roundw
     case rel=>exact⟨k+1,by omega,by go_num,hB5,hbw5⟩
     case measure=>simp [intOf];omega
  ·have hso:=HSZ.out k hk
   have hkl:k=l.length:=by omega
   have HE:Hid (qTo l k++⟨#[34]⟩=quoted (Zax l l.length)):=by show _=_;rw [hkl];exact qTo_end l
   clear hkl
   go_wp2_with fail
   refine (Zli HB.out (by omega)).mono ?_
   rintro e w3 ⟨rfl,hB3,hb3,-⟩
   rw [HE.out] at hB3
   have HQL2:=HQL.out
   generalize quoted (Zax l l.length)=Q at *
   have HL:=Qh (bldLen hB3)
   have HS:=Qh (Zjv hB3)
   have hb5:=hb.trans (hb3.mono (Nat.le_refl _))
   have hbB:=hB1.trans (hb5.mono hB1.size)
   replace HZ:=Qh (mbox HZ.out hb5)
   have hQ:Q.size<=50000:=HQL2
   clear hb3 hB3 HQL2
   by_cases hbig:200<Q.size
   ·have HF:=Qh (HG.out hbig)
    clear HG HY
    go_wp2_with fail
    refine HL.out.mono ?_
    rintro e w4 ⟨rfl,rfl⟩
    clear HL HS
    have z0:=Qc 0 HZ.out
    have zf0:=Qf 0 HZ.out
    have z1:=Qc 1 HZ.out
    have zf1:=Qf 1 HZ.out
    have z2:=Qc 2 HZ.out
    have zf2:=Qf 2 HZ.out
    have z3:=Qc 3 HZ.out
    have zf3:=Qf 3 HZ.out
    have HS:=Qh (Zah (Zah (Zah (Zah HZ.out 0 (.int .i64 0)) 1 (.string ⟨#[]⟩)) 2 (.bool false)) 3 (.slice none 0 0))
    have HBF:=Qh ((((hbB.setCell (p:=⟨w.heap.size,0,none⟩) (Nat.le_refl _) (.int .i64 0)).setCell (p:=⟨w.heap.size,1,none⟩) (Nat.le_refl _) (.string ⟨#[]⟩)).setCell (p:=⟨w.heap.size,2,none⟩) (Nat.le_refl _) (.bool false)).setCell (p:=⟨w.heap.size,3,none⟩) (Nat.le_refl _) (.slice none 0 0))
    go_wp2
    refine bodyPost_ret (Zap rfl _ _ w.heap.size _ _ _ _ rfl HS.out Tryz.underlying57 rfl (by kernel_rfl)) rfl ?_
    exact ZeE HF.out HBF.out
   ·have HF:=Qh (HY.out hbig)
    clear HG HY
    go_wp2_with fail
    refine HL.out.mono ?_
    rintro e w4 ⟨rfl,rfl⟩
    go_wp2_with fail
    refine HS.out.mono ?_
    rintro e w5 ⟨rfl,hb6⟩
    have hbC:=hbB.trans (hb6.mono (by omega))
    replace HZ:=Qh ((hb6.block _ hgz).trans HZ.out)
    clear HL HS hb6
    have z0:=Qc 0 HZ.out
    have zf0:=Qf 0 HZ.out
    have z1:=Qc 1 HZ.out
    have zf1:=Qf 1 HZ.out
    have z2:=Qc 2 HZ.out
    have zf2:=Qf 2 HZ.out
    have z3:=Qc 3 HZ.out
    have zf3:=Qf 3 HZ.out
    have HS:=Qh (Zah (Zah (Zah (Zah HZ.out 0 (.int .i64 3)) 1 (.string Q)) 2 (.bool false)) 3 (.slice none 0 0))
    have HBF:=Qh ((((hbC.setCell (p:=⟨w.heap.size,0,none⟩) (Nat.le_refl _) (.int .i64 3)).setCell (p:=⟨w.heap.size,1,none⟩) (Nat.le_refl _) (.string Q)).setCell (p:=⟨w.heap.size,2,none⟩) (Nat.le_refl _) (.bool false)).setCell (p:=⟨w.heap.size,3,none⟩) (Nat.le_refl _) (.slice none 0 0))
    go_wp2
    refine bodyPost_ret (Zap rfl _ _ w.heap.size _ _ _ _ rfl HS.out Tryz.underlying57 rfl (by kernel_rfl)) rfl ?_
    exact Zib HF.out HBF.out (by omega)
def Zmt (P:List Tok × Nat × Bool) (w:World) (e:Ending) (w':World):Prop:=
 ∃ (v:Value) (L:List (Elem Tok)),e=.returned (.tuple #[v,.int .i64 (P.2.1:Nat),.bool P.2.2])/\RowN sTok w.heap.size 57 v L w'/\L.map (·.d)=P.1/\Own w' w.heap.size (L.flatMap (·.fp))/\Below w.heap.size w w'
theorem Y18A2 {g:Prop} (h:g:=by
 try simp only [Qp]
 refine Qr 5 rfl (λ K hK=>?_)
 go_simp
 refine (HSP.out _ hcs).mono ?_
 rintro e w9 ⟨v9,L9,rfl,HR9,HD9,HO9,hb9⟩
 have hx9:=hcs.trans (hb9.mono hcs.size)
 have hbx:=b2.trans (hx9.mono b2.size)
 have HRF:=Qh (HR9.lower (base':=w.heap.size) (Nat.le_trans b2.size hcs.size))
 have HOF:=Qh (HO9.lower (lo':=w.heap.size) (Nat.le_trans b2.size hcs.size))
 have HDF:=Qh HD9
 clear HR9 HD9 HO9
 refine hK.out _ _ (HS.out _ hx9) (λ hHeld=>?_)
 clear hK K
 try simp only [Qp]
 refine Qt 8 8 rfl rfl ?_
 try simp only [Qp]
 refine Qt 9 9 rfl rfl ?_
 try simp only [Qp]
 refine Qt 10 10 rfl rfl ?_
 try simp only [Qp]
 refine wpAnyH_done (by kernel_rfl) ?_ _
 refine NoPanic.normal ?_
 clear hHeld HS HSP
 go_wp2
 go_ret3
 exact⟨v9,L9,by rw [HF.out];rfl,HRF.out,by rw [HDF.out,HF.out,HAR.out],HOF.out,hbx⟩):g:=h
theorem Y18A3 {g:Prop} (h:g:=by
 refine HC.out.mono ?_
 rintro e w9 ⟨v9,L9,rfl,HR9,HD9,HO9,hb9⟩
 have HRF:=Qh (HR9.lower (base':=w.heap.size) hbl.size)
 have HOF:=Qh (HO9.lower (lo':=w.heap.size) hbl.size)
 have HDF:=Qh HD9
 have hbx:=hbl.trans (hb9.mono hbl.size)
 clear HR9 HD9 HO9 HC hb9 hbl
 go_wp2
 go_ret3
 exact⟨v9,L9,by rw [HF.out];rfl,HRF.out,by rw [HDF.out,HF.out];rfl,HOF.out,hbx⟩):g:=h
theorem Zlj (csM:List Value) (m:DMacro) (fpM:List Nat) (vr vy:Value) (raw ready:List (List Tok)) (fpr fpy:List Nat) (k:Nat) (w:World) (hv:macOk m=true) (ha:Zau m raw=true) (hy:Zau m ready=true) (hk:k<m.body.length)
  (HM:sMacro.R w csM m fpM) (Hr:(Zaa (Zaa sTok)).R w [vr] raw fpr) (Hy:(Zaa (Zaa sTok)).R w [vy] ready fpy) :
  Calls Tryz.prog 139 #[.agg csM.toArray,vr,vy,.int .i64 k] w (Zmt (ZaA m raw ready k) w):=by
 have HM0:=HM
 obtain⟨h2,h3,q2,q3,rfl,-,K2,K3,hfpM⟩:=HM
 obtain⟨a2,c2,rfl,-⟩:=Zaf K2
 obtain⟨a3,c3,rfl,hc3,hm3,hrow3⟩:=Zac K3
 obtain⟨bb,ob,-,rfl,-,-,-⟩:=hrow3 (by omega)
 unfold maxLen at hm3
 have hlen20:m.body.length<=20:=(ZaD hv).1.2.2.2.2
 have hraw:Hid (raw.length=m.params.length):=by show _=_;unfold Zau at ha;rw [Bool.and_eq_true,decide_eq_true_eq] at ha;exact ha.1
 have hrdy:Hid (ready.length=m.params.length):=by show _=_;unfold Zau at hy;rw [Bool.and_eq_true,decide_eq_true_eq] at hy;exact hy.1
 have HRA:Hid (∀ l∈raw,Zaj l=true):=ZfA ha
 have HYA:Hid (∀ l∈ready,Zaj l=true):=ZfA hy
 obtain⟨ak,ck,fk,e0,e1,e2,e3,Rk,hbb,hfk⟩:=ZaJ K3 hk
 have HV:=Qh hv
 have HIM:Hid (isM m.body[k] [35]=(m.body[k].text.toList==[35])):=ZfB hv hk []
 have HIX:Hid (idxTx m.params m.body[k].text 0=parOf m.params m.body[k]):=Zk7 hv hk
 have HHK:Hid (m.body[k].hidden.length<=2000000):=by show _<=_;rw [(ZbW hk ((ZaD hv).2.2 k hk)).2.1];simp
 have b0:=Zab w (.cells #[.string m.name,.bool m.function,.slice a2 m.params.length c2,.slice (some ⟨bb,ob,none⟩) m.body.length c3] 70)
 have b1:=Zab (w.alloc (.cells #[.string m.name,.bool m.function,.slice a2 m.params.length c2,.slice (some ⟨bb,ob,none⟩) m.body.length c3] 70)) (.cells #[.int .i64 m.body[k].kind,.string m.body[k].text,.bool m.body[k].spaced,.slice ak m.body[k].hidden.length ck] 57)
 have b2:Below w.heap.size w ((w.alloc (.cells #[.string m.name,.bool m.function,.slice a2 m.params.length c2,.slice (some ⟨bb,ob,none⟩) m.body.length c3] 70)).alloc (.cells #[.int .i64 m.body[k].kind,.string m.body[k].text,.bool m.body[k].spaced,.slice ak m.body[k].hidden.length ck] 57)):=b0.trans (b1.mono b0.size)
 have HX:=Qh (ZbI w #[.string m.name,.bool m.function,.slice a2 m.params.length c2,.slice (some ⟨bb,ob,none⟩) m.body.length c3] #[.int .i64 m.body[k].kind,.string m.body[k].text,.bool m.body[k].spaced,.slice ak m.body[k].hidden.length ck] 70 57)
 have g0:(w.alloc (.cells #[.string m.name,.bool m.function,.slice a2 m.params.length c2,.slice (some ⟨bb,ob,none⟩) m.body.length c3] 70)).cell? ⟨bb,ob+k * 4,none⟩=some _:=(b0.cell (p:=⟨bb,ob+k * 4,none⟩) hbb).trans e0
 have g1:(w.alloc (.cells #[.string m.name,.bool m.function,.slice a2 m.params.length c2,.slice (some ⟨bb,ob,none⟩) m.body.length c3] 70)).cell? ⟨bb,ob+k * 4+1,none⟩=some _:=(b0.cell (p:=⟨bb,ob+k * 4+1,none⟩) hbb).trans e1
 have g2:(w.alloc (.cells #[.string m.name,.bool m.function,.slice a2 m.params.length c2,.slice (some ⟨bb,ob,none⟩) m.body.length c3] 70)).cell? ⟨bb,ob+k * 4+2,none⟩=some _:=(b0.cell (p:=⟨bb,ob+k * 4+2,none⟩) hbb).trans e2
 have g3:(w.alloc (.cells #[.string m.name,.bool m.function,.slice a2 m.params.length c2,.slice (some ⟨bb,ob,none⟩) m.body.length c3] 70)).cell? ⟨bb,ob+k * 4+3,none⟩=some _:=(b0.cell (p:=⟨bb,ob+k * 4+3,none⟩) hbb).trans e3
 have HRk:=Qh (sTok.below Rk b2)
 have HMr:=Qh (sMacro.below HM0 b2)
 have HRR:=Qh ((Zaa (Zaa sTok)).below Hr b2)
 have HYY:=Qh ((Zaa (Zaa sTok)).below Hy b2)
 have HB2:=Qh ((Zaa sTok).below K3 b2)
 have HP2:=Qh ((Zaa sStr).below K2 b2)
 have hi0:(0:Int)<=(k:Int):=by omega
 have hi1:(k:Int)<(m.body.length:Int):=by omega
 have hs2:((w.alloc (.cells #[.string m.name,.bool m.function,.slice a2 m.params.length c2,.slice (some ⟨bb,ob,none⟩) m.body.length c3] 70)).alloc (.cells #[.int .i64 m.body[k].kind,.string m.body[k].text,.bool m.body[k].spaced,.slice ak m.body[k].hidden.length ck] 57)).heap.size=w.heap.size+2:=by show ((w.heap.push _).push _).size=_;simp
 clear HM0 K2 K3 Hr Hy Rk b0 b1 e0 e1 e2 e3 hv ha hy hfk hfpM hrow3
 go_enter Tryz.func139,Tryz.ntmps139
 go_upto_region 2 with fail
 clear g0 g1 g2 g3
 have hbs:=b2.size
 clear hs2
 generalize ((w.alloc (.cells #[.string m.name,.bool m.function,.slice a2 m.params.length c2,.slice (some ⟨bb,ob,none⟩) m.body.length c3] 70)).alloc (.cells #[.int .i64 m.body[k].kind,.string m.body[k].text,.bool m.body[k].spaced,.slice ak m.body[k].hidden.length ck] 57))=W2 at *
 go_cut [26] from 15 (λ d wr=>d=.bool (m.function && isM m.body[k] [35])/\wr=W2)
 case first =>
  obtain⟨p0,p1,p2,p3⟩:=Q4 HX.out.1
  rcases Bool.eq_false_or_eq_true m.function with hf | hf
  ·have HFN:=Qh hf
   rw [hf] at p1
   clear hf
   obtain⟨q0,q1,q2,q3⟩:=Q4 HX.out.2
   go_wp2
   go_meet
   case rel=>exact⟨by rw [HFN.out,HIM.out];rfl,by trivial⟩
  ·have HFN:=Qh hf
   rw [hf] at p1
   clear hf
   go_wp2
   go_meet
   case rel=>exact⟨by rw [HFN.out];rfl,by trivial⟩
 obtain⟨rfl,rfl⟩:=hcut
 generalize wc=W2 at *
 cases hfi:(m.function && isM m.body[k] [35])
 rotate_left
 ·skip
  obtain⟨hft,hmt⟩:=Bool.and_eq_true_iff.1 hfi
  obtain⟨hk1,n,hn,hnp⟩:=Zgh HV.out hk hft hmt
  have hnr:n<raw.length:=by have:=hraw.out;omega
  have HAR:=Qh (Zdw (a:=raw) hn hnr)
  have HPN:=Qh hn
  obtain⟨kk,s,okb,hx,hkk0,hkk4,hsz⟩:=Zdy raw[n]
  have HX0:=Qh hx
  have HF:=Qh (Zgd (raw:=raw) (ready:=ready) hk1 hft hmt (u:=⟨kk,s,false,[]⟩) (o:=okb) (by rw [HAR.out];exact hx))
  obtain⟨ya,yc,yf,-,y1,-,-,-,ybb,-⟩:=ZaJ HB2.out hk1
  obtain⟨ar,cr,rfl,-,-,hrowR⟩:=Zac HRR.out
  obtain⟨br,orr,-,rfl,-,-,-⟩:=hrowR (by omega)
  obtain⟨aj,cj,fj,dq,Rj,hbr,-⟩:=Zb5 HRR.out hnr
  have HLP:Hid (∀ (U:World),Below W2.heap.size W2 U->Calls Tryz.prog 123 #[.slice a2 m.params.length c2,.string (m.body[k+1]'hk1).text] U λ e w'=>e=.returned (.int .i64 (n:Nat))/\w'=U):=λ U hU=>by have:=Zf8 _ m.params q2 (m.body[k+1]'hk1).text U ((Zaa sStr).below HP2.out hU);rw [Zk7 HV.out hk1,hn] at this;exact this
  have HTT:=Qh (λ (U:World) (hU:Below W2.heap.size W2 U)=>Zi4 _ raw[n] fj U ((Zaa sTok).below Rj hU))
  have HS:Hid (∀ U:World,Below W2.heap.size W2 U->U.heap[w.heap.size]?=some (.cells #[.string m.name,.bool m.function,.slice a2 m.params.length c2,.slice (some ⟨bb,ob,none⟩) m.body.length c3] 70 (0,0))/\U.cell? ⟨bb,ob+(k+1) * 4+1,none⟩=some (.string (m.body[k+1]'hk1).text)/\U.cell? ⟨br,orr+n,none⟩=some (.slice aj raw[n].length cj)):=λ U hU=>⟨mbox HX.out.1 hU,(hU.cell (by show bb<W2.heap.size;omega)).trans y1,(hU.cell (by show br<W2.heap.size;omega)).trans dq⟩
  have hcs:Below W2.heap.size W2 W2.drew:=Zag (Below.refl _ _) 1
  have hw1:IntKind.i64.wrap ((k:Int)+1)=(k:Int)+1:=IntWalk.i64_in _ (by omega)
  have j1:(0:Int)<=(k:Int)+1:=by omega
  have j2:(k:Int)+1<(m.body.length:Int):=by omega
  have j3:((k:Int)+1).toNat=k+1:=by omega
  have j4:(0:Int)<=(n:Int):=by omega
  have j5:(n:Int)<(raw.length:Int):=by omega
  have hbmm:0<m.body.length:=by omega
  clear hx hn hft hmt hfi y1 dq Rj hrowR
  go_upto_region 3 with fail
  go_cut [12,13] from 15 (λ d b wr=>∃ (gB:Nat) (ax:Option Addr) (cx:Nat),d=.pointer (some ⟨gB,0,none⟩)/\b=.bool okb/\wr.heap[gB]?=some (.cells #[.int .i64 kk,.string s,.bool false,.slice ax 0 cx] 57 (0,0))/\W2.heap.size<=gB/\gB<wr.heap.size/\cx<=maxLen/\Below W2.heap.size W2 wr)
  case first =>
   refine wp_region_noPanic ?_
   refine wp_region_held_drew (S:=λ w'=>w'.heap[w.heap.size]?=some (.cells #[.string m.name,.bool m.function,.slice a2 m.params.length c2,.slice (some ⟨bb,ob,none⟩) m.body.length c3] 70 (0,0))/\w'.cell? ⟨bb,ob+(k+1) * 4+1,none⟩=some (.string (m.body[k+1]'hk1).text)/\w'.cell? ⟨br,orr+n,none⟩=some (.slice aj raw[n].length cj)) (by kernel_rfl) (by exact HS.out _ hcs) (λ hHeld=>?_)
   generalize W2.drew=wd at *
   refine Qt 0 28 rfl rfl ?_
   try simp only [Qp]
   refine Qt 1 29 rfl rfl ?_
   try simp only [Qp]
   refine Qt 2 30 rfl rfl ?_ (by intro w hSw;obtain⟨sm,s1,sr⟩:=hSw;have m2:=Qc 2 sm;have m3:=Qc 3 sm;go_simp;(first | done | with_reducible rfl | rfl))
   try simp only [Qp]
   refine Qt 3 31 rfl rfl ?_
   try simp only [Qp]
   refine Qt 4 32 rfl rfl ?_ (by intro w hSw;obtain⟨sm,s1,sr⟩:=hSw;have m2:=Qc 2 sm;have m3:=Qc 3 sm;go_simp;(first | done | with_reducible rfl | rfl))
   try simp only [Qp]
   refine Qt 5 33 rfl rfl ?_
   try simp only [Qp]
   refine Qt 6 34 rfl rfl ?_
   try simp only [Qp]
   refine Qt 7 35 rfl rfl ?_
   try simp only [Qp]
   refine Qt 8 36 rfl rfl ?_
   try simp only [Qp]
   refine Qt 9 37 rfl rfl ?_ (by intro w hSw;obtain⟨sm,s1,sr⟩:=hSw;have m2:=Qc 2 sm;have m3:=Qc 3 sm;go_simp;(first | done | with_reducible rfl | rfl))
   try simp only [Qp]
   refine wpAnyH_ready (rs:=[10,17]) (by kernel_rfl) (by simp) ?_
   refine AllReadyH.cons rfl (λ K hK=>?_) ?_
   ·skip
    go_simp
    refine (HLP.out _ hcs).mono ?_
    rintro e wx1 ⟨rfl,rfl⟩
    have hx1:=hcs
    refine hK.out _ _ (HS.out _ hx1) (λ hHeld=>?_)
    clear hK K
    try simp only [Qp]
    refine Qt 11 39 rfl rfl ?_
    try simp only [Qp]
    refine Qt 12 40 rfl rfl ?_ (by intro w hSw;obtain⟨sm,s1,sr⟩:=hSw;have m2:=Qc 2 sm;have m3:=Qc 3 sm;go_simp;(first | done | with_reducible rfl | rfl))
    try simp only [Qp]
    refine wpAnyH_ready (rs:=[13,17]) (by kernel_rfl) (by simp) ?_
    refine AllReadyH.cons rfl (λ K hK=>?_) ?_
    ·skip
     go_simp
     refine (HTT.out _ hx1).mono ?_
     rintro e wx2 hT2
     obtain⟨k9,s9,b9,ax,cx,e9,rfl,-,-,-,hcx,br2⟩:=hT2.bare
     rw [HX0.out] at e9
     simp only [Prod.mk.injEq,Tok.mk.injEq,and_true] at e9
     obtain⟨⟨rfl,rfl⟩,rfl⟩:=e9
     have hx2:=hx1.trans (br2.mono hx1.size)
     refine hK.out _ _ (HS.out _ hx2) (λ hHeld=>?_)
     clear hK K
     try simp only [Qp]
     refine Qt 14 27 rfl rfl ?_
     try simp only [Qp]
     refine Qt 15 42 rfl rfl ?_
     try simp only [Qp]
     refine Qt 16 43 rfl rfl ?_
     try simp only [Qp]
     refine Qr 17 rfl (λ K hK=>?_)
     go_simp
     have bk:=Zab wx2 (.cells #[.int .i64 0,.string ⟨#[]⟩,.bool false,.slice none 0 0] 57)
     have HB:=Qh (heap_alloc_new wx2 (.cells #[.int .i64 0,.string ⟨#[]⟩,.bool false,.slice none 0 0] 57))
     have hx3:=hx2.trans (bk.mono hx2.size)
     have hge:=hx2.size
     refine hK.out _ _ (HS.out _ hx3) (λ hHeld=>?_)
     clear hK K bk
     try simp only [Qp]
     generalize (wx2.alloc (.cells #[.int .i64 0,.string ⟨#[]⟩,.bool false,.slice none 0 0] 57))=wx3 at *
     have zc0:=Qc 0 HB.out
     have zf0:=Qf 0 HB.out
     have zc1:=Qc 1 HB.out
     have zf1:=Qf 1 HB.out
     have zc2:=Qc 2 HB.out
     have zf2:=Qf 2 HB.out
     have zc3:=Qc 3 HB.out
     have zf3:=Qf 3 HB.out
     have HD1:=Qh (ZaH HB.out (.int .i64 kk) (.string s) (.bool false) (.slice ax 0 cx))
     have HD2:=Qh (Zay (g:=wx2.heap.size) hx3 hge (.int .i64 kk) (.string s) (.bool false) (.slice ax 0 cx))
     have HD3:Hid (wx2.heap.size<(set4 wx3 (wx2.heap.size) (.int .i64 kk) (.string s) (.bool false) (.slice ax 0 cx)).heap.size):=by show _<_;rw [ZbQ];exact mlt HB.out
     refine Qr 18 rfl (λ K hK=>?_)
     go_simp
     change K _ (set4 wx3 (wx2.heap.size) (.int .i64 kk) (.string s) (.bool false) (.slice ax 0 cx))
     refine hK.out _ _ (HS.out _ HD2.out) (λ hHeld=>?_)
     clear hK K
     try simp only [Qp]
     refine Qt 19 13 rfl rfl ?_
     try simp only [Qp]
     refine wpAnyH_done (by kernel_rfl) ?_ _
     refine NoPanic.normal ?_
     clear hHeld
     go_wp2
     go_meet
     case rel=>exact⟨_,ax,cx,rfl,rfl,HD1.out,hge,HD3.out,hcx,HD2.out⟩
    refine AllReadyH.cons rfl (λ K hK=>?_) AllReadyH.nil
    go_simp
    have bk:=Zab wx1 (.cells #[.int .i64 0,.string ⟨#[]⟩,.bool false,.slice none 0 0] 57)
    have HB:=Qh (heap_alloc_new wx1 (.cells #[.int .i64 0,.string ⟨#[]⟩,.bool false,.slice none 0 0] 57))
    have hx4:=hx1.trans (bk.mono hx1.size)
    have hge:=hx1.size
    refine hK.out _ _ (HS.out _ hx4) (λ hHeld=>?_)
    clear hK K bk
    try simp only [Qp]
    generalize (wx1.alloc (.cells #[.int .i64 0,.string ⟨#[]⟩,.bool false,.slice none 0 0] 57))=wx4 at *
    refine Qr 13 rfl (λ K hK=>?_)
    go_simp
    refine (HTT.out _ hx4).mono ?_
    rintro e wx5 hT5
    obtain⟨k9,s9,b9,ax,cx,e9,rfl,-,-,-,hcx,br5⟩:=hT5.bare
    rw [HX0.out] at e9
    simp only [Prod.mk.injEq,Tok.mk.injEq,and_true] at e9
    obtain⟨⟨rfl,rfl⟩,rfl⟩:=e9
    have hx5:=hx4.trans (br5.mono hx4.size)
    have HB5:=Qh (mbox HB.out br5)
    refine hK.out _ _ (HS.out _ hx5) (λ hHeld=>?_)
    clear hK K
    try simp only [Qp]
    refine Qt 14 27 rfl rfl ?_
    try simp only [Qp]
    refine Qt 15 42 rfl rfl ?_
    try simp only [Qp]
    refine Qt 16 43 rfl rfl ?_
    try simp only [Qp]
    have zc0:=Qc 0 HB5.out
    have zf0:=Qf 0 HB5.out
    have zc1:=Qc 1 HB5.out
    have zf1:=Qf 1 HB5.out
    have zc2:=Qc 2 HB5.out
    have zf2:=Qf 2 HB5.out
    have zc3:=Qc 3 HB5.out
    have zf3:=Qf 3 HB5.out
    have HD1:=Qh (ZaH HB5.out (.int .i64 kk) (.string s) (.bool false) (.slice ax 0 cx))
    have HD2:=Qh (Zay (g:=wx1.heap.size) hx5 hge (.int .i64 kk) (.string s) (.bool false) (.slice ax 0 cx))
    have HD3:Hid (wx1.heap.size<(set4 wx5 (wx1.heap.size) (.int .i64 kk) (.string s) (.bool false) (.slice ax 0 cx)).heap.size):=by show _<_;rw [ZbQ];exact mlt HB5.out
    refine Qr 18 rfl (λ K hK=>?_)
    go_simp
    change K _ (set4 wx5 (wx1.heap.size) (.int .i64 kk) (.string s) (.bool false) (.slice ax 0 cx))
    refine hK.out _ _ (HS.out _ HD2.out) (λ hHeld=>?_)
    clear hK K
    try simp only [Qp]
    refine Qt 19 13 rfl rfl ?_
    try simp only [Qp]
    refine wpAnyH_done (by kernel_rfl) ?_ _
    refine NoPanic.normal ?_
    clear hHeld
    go_wp2
    go_meet
    case rel=>exact⟨_,ax,cx,rfl,rfl,HD1.out,hge,HD3.out,hcx,HD2.out⟩
   refine AllReadyH.cons rfl (λ K hK=>?_) AllReadyH.nil
   go_simp
   have bk:=Zab wd (.cells #[.int .i64 0,.string ⟨#[]⟩,.bool false,.slice none 0 0] 57)
   have HB:=Qh (heap_alloc_new wd (.cells #[.int .i64 0,.string ⟨#[]⟩,.bool false,.slice none 0 0] 57))
   have hx6:=hcs.trans (bk.mono hcs.size)
   have hge:=hcs.size
   refine hK.out _ _ (HS.out _ hx6) (λ hHeld=>?_)
   clear hK K bk
   try simp only [Qp]
   generalize (wd.alloc (.cells #[.int .i64 0,.string ⟨#[]⟩,.bool false,.slice none 0 0] 57))=wx6 at *
   refine Qr 10 rfl (λ K hK=>?_)
   go_simp
   refine (HLP.out _ hx6).mono ?_
   rintro e wx7 ⟨rfl,rfl⟩
   have hx7:=hx6
   refine hK.out _ _ (HS.out _ hx7) (λ hHeld=>?_)
   clear hK K
   try simp only [Qp]
   refine Qt 11 39 rfl rfl ?_
   try simp only [Qp]
   refine Qt 12 40 rfl rfl ?_ (by intro w hSw;obtain⟨sm,s1,sr⟩:=hSw;have m2:=Qc 2 sm;have m3:=Qc 3 sm;go_simp;(first | done | with_reducible rfl | rfl))
   try simp only [Qp]
   refine Qr 13 rfl (λ K hK=>?_)
   go_simp
   refine (HTT.out _ hx7).mono ?_
   rintro e wx8 hT8
   obtain⟨k9,s9,b9,ax,cx,e9,rfl,-,-,-,hcx,br8⟩:=hT8.bare
   rw [HX0.out] at e9
   simp only [Prod.mk.injEq,Tok.mk.injEq,and_true] at e9
   obtain⟨⟨rfl,rfl⟩,rfl⟩:=e9
   have hx8:=hx7.trans (br8.mono hx7.size)
   have HB8:=Qh (mbox HB.out br8)
   refine hK.out _ _ (HS.out _ hx8) (λ hHeld=>?_)
   clear hK K
   try simp only [Qp]
   refine Qt 14 27 rfl rfl ?_
   try simp only [Qp]
   refine Qt 15 42 rfl rfl ?_
   try simp only [Qp]
   refine Qt 16 43 rfl rfl ?_
   try simp only [Qp]
   have zc0:=Qc 0 HB8.out
   have zf0:=Qf 0 HB8.out
   have zc1:=Qc 1 HB8.out
   have zf1:=Qf 1 HB8.out
   have zc2:=Qc 2 HB8.out
   have zf2:=Qf 2 HB8.out
   have zc3:=Qc 3 HB8.out
   have zf3:=Qf 3 HB8.out
   have HD1:=Qh (ZaH HB8.out (.int .i64 kk) (.string s) (.bool false) (.slice ax 0 cx))
   have HD2:=Qh (Zay (g:=wd.heap.size) hx8 hge (.int .i64 kk) (.string s) (.bool false) (.slice ax 0 cx))
   have HD3:Hid (wd.heap.size<(set4 wx8 (wd.heap.size) (.int .i64 kk) (.string s) (.bool false) (.slice ax 0 cx)).heap.size):=by show _<_;rw [ZbQ];exact mlt HB8.out
   refine Qr 18 rfl (λ K hK=>?_)
   go_simp
   change K _ (set4 wx8 (wd.heap.size) (.int .i64 kk) (.string s) (.bool false) (.slice ax 0 cx))
   refine hK.out _ _ (HS.out _ HD2.out) (λ hHeld=>?_)
   clear hK K
   try simp only [Qp]
   refine Qt 19 13 rfl rfl ?_
   try simp only [Qp]
   refine wpAnyH_done (by kernel_rfl) ?_ _
   refine NoPanic.normal ?_
   clear hHeld
   go_wp2
   go_meet
   case rel=>exact⟨_,ax,cx,rfl,rfl,HD1.out,hge,HD3.out,hcx,HD2.out⟩
  obtain⟨gB,ax,cx,rfl,rfl,HG0,hg1,hg2,hcx,hbg⟩:=hcut
  generalize wc=W4 at *
  have HG:=Qh HG0
  have HTB:=Qh (mbox HX.out.2 hbg)
  have HRk4:=Qh (sTok.below HRk.out hbg)
  clear HG0 HS HLP HTT hcs
  obtain⟨t0,t1,t2,t3⟩:=Q4 HTB.out
  obtain⟨g0,g1,g2,g3⟩:=Q4 HG.out
  have hb4:=b2.trans (hbg.mono b2.size)
  have hw2:IntKind.i64.wrap ((k:Int)+2)=(k:Int)+2:=IntWalk.i64_in _ (by omega)
  have HL:=Qh (RowN.lit1 (S:=sTok) (e:=57) (w:=W4) (base:=W4.heap.size) (x:=⟨[.int .i64 kk,.string s,.bool false,.slice ax 0 cx],⟨kk,s,false,[]⟩,[]⟩) (Nat.le_refl _) rfl (ZjG kk s _ ax cx W4 hkk0 hkk4 (by omega) hcx))
  obtain⟨fpl,RL,-,-⟩:=HL.out.read
  have bl:=Zab W4 (.cells #[.int .i64 kk,.string s,.bool false,.slice ax 0 cx] 57)
  have HC:=Qh (Zcf _ m.body[k] fk (.slice (some ⟨W4.heap.size,0,none⟩) 1 1) [⟨kk,s,false,[]⟩] fpl (W4.alloc (.cells #[.int .i64 kk,.string s,.bool false,.slice ax 0 cx] 57)) (by simp) (λ j hj=>by have:j=0:=(by simpa using hj);subst this;exact(Nat.zero_le _)) (sTok.below HRk4.out bl) RL)
  have hbl:=hb4.trans (bl.mono hb4.size)
  clear RL bl
  -- MARKA2
  go_wp2_with fail
  -- MARKB2
  exact Y18A3
 have HNF:Hid (¬ (m.function=true/\isM m.body[k] [35]=true)):=λ h=>by rw [h.1,h.2] at hfi;exact absurd hfi (by simp)
 clear hfi HIM
 have p2:=Qc 2 HX.out.1
 have q1:=Qc 1 HX.out.2
 have HP:=Qh (Zf8 _ m.params q2 m.body[k].text W2 HP2.out)
 rw [HIX.out] at HP
 go_upto_region 6 with(go_at_call 123;refine HP.out.mono ?_;rintro e w3 ⟨rfl,rfl⟩)
 clear p2 q1 HP HIX
 try generalize w3=W2 at *
 have hk1:IntKind.i64.wrap ((k:Int)+1)=(k:Int)+1:=IntWalk.i64_in _ (by omega)
 by_cases hp:parOf m.params m.body[k]<0
 ·have HF:=Qh (Zge (raw:=raw) (ready:=ready) hk HNF.out hp)
  have hpd:decide (parOf m.params m.body[k]<0)=true:=decide_eq_true hp
  obtain⟨t0,t1,t2,t3⟩:=Q4 HX.out.2
  generalize parOf m.params m.body[k]=pn at *
  have HL:=Qh (RowN.lit1 (S:=sTok) (e:=57) (w:=W2) (base:=W2.heap.size) (x:=⟨[.int .i64 m.body[k].kind,.string m.body[k].text,.bool m.body[k].spaced,.slice ak m.body[k].hidden.length ck],m.body[k],fk⟩) (Nat.le_refl _) rfl HRk.out)
  obtain⟨fpl,RL,-,-⟩:=HL.out.read
  have bl:=Zab W2 (.cells #[.int .i64 m.body[k].kind,.string m.body[k].text,.bool m.body[k].spaced,.slice ak m.body[k].hidden.length ck] 57)
  have HC:=Qh (Zcf _ m.body[k] fk (.slice (some ⟨W2.heap.size,0,none⟩) 1 1) [m.body[k]] fpl (W2.alloc (.cells #[.int .i64 m.body[k].kind,.string m.body[k].text,.bool m.body[k].spaced,.slice ak m.body[k].hidden.length ck] 57)) (by simp) (λ j hj=>by have:j=0:=(by simpa using hj);subst this;exact HHK.out) (sTok.below HRk.out bl) RL)
  have hbl:=b2.trans (bl.mono b2.size)
  clear RL bl
  -- MARKA1
  go_wp2_with fail
  -- MARKB1
  exact Y18A3
 obtain⟨n,hn,hnp⟩:=ZiW hp
 have HPN:=Qh hn
 have HPP:=Qh hp
 rw [hn]
 clear hn hp
 have hn0:¬ ((n:Int)<0):=by omega
 have p3:=Qc 3 HX.out.1
 have HBP:=Qh (Zhx _ m.body q3 k W2 (by omega) hk HB2.out)
 rw [bes_glue HV.out k] at HBP
 go_wp2_with fail
 refine HBP.out.mono ?_
 rintro e w5 ⟨rfl,rfl⟩
 clear p3 HBP
 try generalize w5=W2 at *
 cases hg:(glueL m k || glueR m k)
 ·skip
  have HF:=Qh (Zfw (raw:=raw) (ready:=ready) hk HNF.out (by have:=HPP.out;omega) hg)
  have hnr:n<ready.length:=by have:=hraw.out;have:=hrdy.out;omega
  have HAR:=Qh (Zdw (a:=ready) HPN.out hnr)
  obtain⟨ar,cr,rfl,-,-,hrowR⟩:=Zac HYY.out
  obtain⟨br,orr,-,rfl,-,-,-⟩:=hrowR (by omega)
  obtain⟨aj,cj,fj,dq,Rj,hbr,hfj⟩:=Zb5 HYY.out hnr
  have hTV:=Zam (HYA.out _ (List.getElem_mem hnr))
  have hjl:(ready[n]).length<=60:=hTV.1
  have HJH:Hid (∀ j,(hj:j<(ready[n]).length)->(ready[n])[j].hidden.length<=2000000):=λ j hj=>by have:=(ZdS (ZbS (hTV.2 j hj))).1;omega
  have HSP:=Qh (λ (U:World) (hU:Below W2.heap.size W2 U)=>Zcf _ m.body[k] fk _ ready[n] fj U (by omega) HJH.out (sTok.below HRk.out hU) ((Zaa sTok).below Rj hU))
  have d0:W2.drew.heap[w.heap.size+1]?=some (.cells #[.int .i64 m.body[k].kind,.string m.body[k].text,.bool m.body[k].spaced,.slice ak m.body[k].hidden.length ck] 57 (0,0)):=HX.out.2
  have d1:W2.drew.cell? ⟨br,orr+n,none⟩=some (.slice aj (ready[n]).length cj):=dq
  have hcs:Below W2.heap.size W2 W2.drew:=Zag (Below.refl _ _) 1
  have HS:Hid (∀ U:World,Below W2.heap.size W2 U->U.heap[w.heap.size+1]?=some (.cells #[.int .i64 m.body[k].kind,.string m.body[k].text,.bool m.body[k].spaced,.slice ak m.body[k].hidden.length ck] 57 (0,0))/\U.cell? ⟨br,orr+n,none⟩=some (.slice aj (ready[n]).length cj)):=λ U hU=>⟨mbox HX.out.2 hU,(hU.cell (by show br<W2.heap.size;omega)).trans dq⟩
  have i6:(0:Int)<=(n:Int):=by omega
  have i7:(n:Int)<(ready.length:Int):=by omega
  have i8:n<ready.length:=hnr
  clear dq Rj hfj hrowR hg hTV
  go_wp2_with fail
  refine wp_region_noPanic ?_
  refine wp_region_held_drew (S:=λ w'=>w'.heap[w.heap.size+1]?=some (.cells #[.int .i64 m.body[k].kind,.string m.body[k].text,.bool m.body[k].spaced,.slice ak m.body[k].hidden.length ck] 57 (0,0))/\w'.cell? ⟨br,orr+n,none⟩=some (.slice aj (ready[n]).length cj)) (by kernel_rfl) (by exact HS.out _ hcs) (λ hHeld=>?_)
  generalize W2.drew=wd at *
  refine Qt 0 78 rfl rfl ?_ (by intro w hSw;obtain⟨st,sr⟩:=hSw;obtain⟨t0,t1,t2,t3⟩:=Q4 st;go_simp;(first | done | with_reducible rfl | rfl))
  try simp only [Qp]
  refine Qt 1 79 rfl rfl ?_
  try simp only [Qp]
  refine Qt 2 80 rfl rfl ?_
  try simp only [Qp]
  refine Qt 3 81 rfl rfl ?_
  try simp only [Qp]
  refine Qt 4 82 rfl rfl ?_ (by intro w hSw;obtain⟨st,sr⟩:=hSw;obtain⟨t0,t1,t2,t3⟩:=Q4 st;go_simp;(first | done | with_reducible rfl | rfl))
  try simp only [Qp]
  refine Qt 6 84 rfl rfl ?_
  try simp only [Qp]
  refine Qt 7 85 rfl rfl ?_
  exact Y18A2
 ·skip
  have HF:=Qh (Zhm (raw:=raw) (ready:=ready) hk HNF.out (by have:=HPP.out;omega) hg)
  have hnr:n<raw.length:=by have:=hraw.out;have:=hrdy.out;omega
  have HAR:=Qh (Zdw (a:=raw) HPN.out hnr)
  obtain⟨ar,cr,rfl,-,-,hrowR⟩:=Zac HRR.out
  obtain⟨br,orr,-,rfl,-,-,-⟩:=hrowR (by omega)
  obtain⟨aj,cj,fj,dq,Rj,hbr,hfj⟩:=Zb5 HRR.out hnr
  have hTV:=Zam (HRA.out _ (List.getElem_mem hnr))
  have hjl:(raw[n]).length<=60:=hTV.1
  have HJH:Hid (∀ j,(hj:j<(raw[n]).length)->(raw[n])[j].hidden.length<=2000000):=λ j hj=>by have:=(ZdS (ZbS (hTV.2 j hj))).1;omega
  have HSP:=Qh (λ (U:World) (hU:Below W2.heap.size W2 U)=>Zcf _ m.body[k] fk _ raw[n] fj U (by omega) HJH.out (sTok.below HRk.out hU) ((Zaa sTok).below Rj hU))
  have d0:W2.drew.heap[w.heap.size+1]?=some (.cells #[.int .i64 m.body[k].kind,.string m.body[k].text,.bool m.body[k].spaced,.slice ak m.body[k].hidden.length ck] 57 (0,0)):=HX.out.2
  have d1:W2.drew.cell? ⟨br,orr+n,none⟩=some (.slice aj (raw[n]).length cj):=dq
  have hcs:Below W2.heap.size W2 W2.drew:=Zag (Below.refl _ _) 1
  have HS:Hid (∀ U:World,Below W2.heap.size W2 U->U.heap[w.heap.size+1]?=some (.cells #[.int .i64 m.body[k].kind,.string m.body[k].text,.bool m.body[k].spaced,.slice ak m.body[k].hidden.length ck] 57 (0,0))/\U.cell? ⟨br,orr+n,none⟩=some (.slice aj (raw[n]).length cj)):=λ U hU=>⟨mbox HX.out.2 hU,(hU.cell (by show br<W2.heap.size;omega)).trans dq⟩
  have i6:(0:Int)<=(n:Int):=by omega
  have i7:(n:Int)<(raw.length:Int):=by omega
  have i8:n<raw.length:=hnr
  clear dq Rj hfj hrowR hg hTV
  go_wp2_with fail
  refine wp_region_noPanic ?_
  refine wp_region_held_drew (S:=λ w'=>w'.heap[w.heap.size+1]?=some (.cells #[.int .i64 m.body[k].kind,.string m.body[k].text,.bool m.body[k].spaced,.slice ak m.body[k].hidden.length ck] 57 (0,0))/\w'.cell? ⟨br,orr+n,none⟩=some (.slice aj (raw[n]).length cj)) (by kernel_rfl) (by exact HS.out _ hcs) (λ hHeld=>?_)
  generalize W2.drew=wd at *
  refine Qt 0 70 rfl rfl ?_ (by intro w hSw;obtain⟨st,sr⟩:=hSw;obtain⟨t0,t1,t2,t3⟩:=Q4 st;go_simp;(first | done | with_reducible rfl | rfl))
  try simp only [Qp]
  refine Qt 1 71 rfl rfl ?_
  try simp only [Qp]
  refine Qt 2 72 rfl rfl ?_
  try simp only [Qp]
  refine Qt 3 73 rfl rfl ?_
  try simp only [Qp]
  refine Qt 4 74 rfl rfl ?_ (by intro w hSw;obtain⟨st,sr⟩:=hSw;obtain⟨t0,t1,t2,t3⟩:=Q4 st;go_simp;(first | done | with_reducible rfl | rfl))
  try simp only [Qp]
  refine Qt 6 76 rfl rfl ?_
  try simp only [Qp]
  refine Qt 7 77 rfl rfl ?_
  exact Y18A2
theorem ZjR {α β:Type} {f:α->List β} {m:Nat}:∀ (L:List α) (k:Nat),(∀ x∈L,(f x).length=m)->(L.take k).flatMap f=(L.flatMap f).take (k * m)
 | [],k,_=>by simp
 | x::r,0,_=>by simp
 |
  x::r,k+1,h=>by
  have hx:=h x (by simp)
  rw [List.take_succ_cons,List.flatMap_cons,List.flatMap_cons,ZjR r k (λ y hy=>h y (by simp [hy])),List.take_append,hx,Nat.succ_mul,List.take_of_length_le (by omega:(f x).length<=k * m+m)]
  congr 2
  omega
theorem RowN.short {α:Type} {S:Shape α} {base:Nat} {e:TypeId} {L:List (Elem α)} {w:World} {g n cap:Nat} (h:RowN S base e (.slice (some ⟨g,0,none⟩) n cap) L w) {k:Nat} (hk:k<=L.length):RowN S base e (.slice (some ⟨g,0,none⟩) k cap) (L.take k) w where
 row:=by
  have hl:(L.take k).length=k:=by rw [List.length_take];omega
  have hf:((L.take k).flatMap (·.cells)).length=k * S.m:=by rw [ZaB (f:=Elem.cells) (m:=S.m) (λ y hy=>h.len y (List.mem_of_mem_take hy)),hl]
  rw [hl]
  refine ⟨hf,?_⟩
  rcases h.row.2 with⟨h',_⟩ | ⟨g',cap',cur,h',h1,h2,h3,h4,h5,h6⟩
  ·cases h'
  ·simp only [Value.slice.injEq,Qi,Addr.mk.injEq,and_true] at h'
   obtain⟨rfl,rfl,rfl⟩:=h'
   refine .inr ⟨g,cap,cur,rfl,h1,h2,by omega,h4,h5,?_⟩
   rw [ZjR (f:=Elem.cells) L k h.len,← h6,List.take_take,Nat.min_eq_left (Nat.mul_le_mul_right _ hk)]
 len:=λ x hx=>h.len x (List.mem_of_mem_take hx)
 el:=λ x hx=>h.el x (List.mem_of_mem_take hx)
 ap:=λ x hx=>h.ap x (List.mem_of_mem_take hx)
structure TwoN (base:Nat) (vd:Value) (D:List (Elem Tok)) (vl:Value) (L:List (Elem Tok)) (w:World):Prop where
 d:RowN sTok base 57 vd D w
 l:RowN sTok base 57 vl L w
 own:Own w base (D.flatMap (·.fp)++L.flatMap (·.fp))
 ne:∀ b,vd.ownBlock=some b->vl.ownBlock≠some b
 dl:∀ x∈D,∀ b∈x.fp,vl.ownBlock≠some b
 ld:∀ x∈L,∀ b∈x.fp,vd.ownBlock≠some b
section
variable {base:Nat} {vd vl:Value} {D L:List (Elem Tok)} {w w':World}
theorem TwoN.start (base:Nat) (w:World):TwoN base (.slice none 0 0) [] (.slice none 0 0) [] w:=⟨RowN.nil _ _ _ _,RowN.nil _ _ _ _,Own.nil _ _,by simp [Value.ownBlock],by simp,by simp⟩
theorem TwoN.below (h:TwoN base vd D vl L w) (hb:Below w.heap.size w w'):TwoN base vd D vl L w':=⟨h.d.below hb,h.l.below hb,h.own.grow hb,h.ne,h.dl,h.ld⟩
theorem TwoN.fresh {vp:Value} {P:List (Elem Tok)} {lo:Nat} (hd:RowN sTok base 57 vd D w) (ho:Own w base (D.flatMap (·.fp))) (hp:RowN sTok lo 57 vp P w) (hpo:Own w lo (P.flatMap (·.fp))) (hlo:base<=lo) (h1:∀ b,vd.ownBlock=some b->b<lo) (h2:∀ x∈D,∀ b∈x.fp,b<lo):TwoN base vd D vp P w where
 d:=hd
 l:=hp.lower hlo
 own:=ho.app (hpo.lower hlo) λ b hb hx=>by
  obtain⟨x,hx1,hx2⟩:=List.mem_flatMap.1 hb
  have:=h2 x hx1 b hx2
  have:=(hpo.2 b hx).1
  omega
 ne:=λ b hb hv=>by have:=h1 b hb;have:=(hp.mine b hv).1;omega
 dl:=λ x hx b hb hv=>by have:=h2 x hx b hb;have:=(hp.mine b hv).1;omega
 ld:=λ x hx b hb hv=>by have:=h1 b hv;have:=(hpo.2 b (List.mem_flatMap.2 ⟨x,hx,hb⟩)).1;omega
theorem TwoN.lt (h:TwoN base vd D vl L w):(∀ b,vd.ownBlock=some b->b<w.heap.size)/\(∀ b,vl.ownBlock=some b->b<w.heap.size)/\(∀ x∈D,∀ b∈x.fp,b<w.heap.size)/\∀ x∈L,∀ b∈x.fp,b<w.heap.size:=
 ⟨λ b hb=>(h.d.mine b hb).2,λ b hb=>(h.l.mine b hb).2,λ x hx b hb=>sTok.lt (h.d.el x hx) b hb,λ x hx b hb=>sTok.lt (h.l.el x hx) b hb⟩
theorem TwoN.flushed {vd':Value} (h:TwoN base vd D vl L w) (hr:RowN sTok base 57 vd' (D++L) w') (hg:w.grownBy w' vd.ownBlock):Own w' base ((D++L).flatMap (·.fp)):=by
 rw [Zgj]
 refine Zcd h.own (λ b hb=>?_) hg
 rcases Qa hb with hb | hb
 ·obtain⟨x,hx1,hx2⟩:=List.mem_flatMap.1 hb
  exact h.d.ap x hx1 b hx2
 ·obtain⟨x,hx1,hx2⟩:=List.mem_flatMap.1 hb
  exact h.ld x hx1 b hx2
end
def GlueOf (base:Nat) (vl:Value) (L R:List (Elem Tok)) (w:World) (e:Ending) (w':World):Prop:=
 ((Zas ((L.map (·.d)).getLastD zTok) ((R.map (·.d)).headD zTok)).2=false/\e=.returned (.tuple #[.slice none 0 0,.bool false])/\Below w.heap.size w w') \/
 ((
  Zas ((L.map (·.d)).getLastD zTok) ((R.map (·.d)).headD zTok)).2=true/\∃ (v:Value) (X:Elem Tok),e=.returned (.tuple #[v,.bool true])/\RowN sTok base 57 v (L.dropLast++X::R.tail) w'/\X.d=(Zas ((L.map (·.d)).getLastD zTok) ((R.map (·.d)).headD zTok)).1 /\
  Own w' w.heap.size X.fp/\Kept vl.ownBlock.toList w w'/\(v.ownBlock=vl.ownBlock\/∃ b,v.ownBlock=some b/\w.heap.size<=b))
theorem GlueOf.no {base:Nat} {vl:Value} {L R:List (Elem Tok)} {w w':World} {z:Tok} (h:Zas ((L.map (·.d)).getLastD zTok) ((R.map (·.d)).headD zTok)=(z,false)) (hb:Below w.heap.size w w'):GlueOf base vl L R w (.returned (.tuple #[.slice none 0 0,.bool false])) w':=
 .inl ⟨by rw [h],rfl,hb⟩
theorem GlueOf.yes {base:Nat} {vl v:Value} {L R:List (Elem Tok)} {X:Elem Tok} {w w':World} {z:Tok} (h:Zas ((L.map (·.d)).getLastD zTok) ((R.map (·.d)).headD zTok)=(z,true)) (hr:RowN sTok base 57 v (L.dropLast++X::R.tail) w') (hx:X.d=z)
  (ho:Own w' w.heap.size X.fp) (hk:Kept vl.ownBlock.toList w w') (hv:v.ownBlock=vl.ownBlock\/∃ b,v.ownBlock=some b/\w.heap.size<=b):GlueOf base vl L R w (.returned (.tuple #[v,.bool true])) w':=
 .inr ⟨by rw [h],v,X,rfl,hr,by rw [h];exact hx,ho,hk,hv⟩
theorem TwoN.glued {base:Nat} {vd vl vr v:Value} {D L R:List (Elem Tok)} {X:Elem Tok} {w w':World} (h:TwoN base vd D vl L w) (h2:TwoN base vl L vr R w) (h3:∀ b,vd.ownBlock=some b->∀ x∈R,b∉x.fp) (h4:∀ b∈D.flatMap (·.fp),b∉R.flatMap (·.fp)) (hb:base<=w.heap.size)
  (hr:RowN sTok base 57 v (L.dropLast++X::R.tail) w') (ho:Own w' w.heap.size X.fp) (hk:Kept vl.ownBlock.toList w w') (hv:v.ownBlock=vl.ownBlock\/∃ b,v.ownBlock=some b/\w.heap.size<=b):TwoN base vd D v (L.dropLast++X::R.tail) w' where
 d:=h.d.kept hk (λ g hg hx=>by simp only [Option.mem_toList] at hx;exact h.ne g hg hx) (λ x hx b hb hx'=>by simp only [Option.mem_toList] at hx';exact h.dl x hx b hb hx')
 l:=hr
 own:=by
  have hsL:(L.dropLast.flatMap (·.fp)).Sublist (L.flatMap (·.fp)):=ZjM (List.dropLast_sublist L)
  have hsR:(R.tail.flatMap (·.fp)).Sublist (R.flatMap (·.fp)):=ZjM (List.tail_sublist R)
  have hK:∀ b∈D.flatMap (·.fp)++(L.dropLast.flatMap (·.fp)++R.tail.flatMap (·.fp)),b<w.heap.size/\b∉vl.ownBlock.toList:=λ b hb=>by
   simp only [Option.mem_toList]
   rcases Qa hb with hb | hb
   ·obtain⟨x,q1,q2⟩:=List.mem_flatMap.1 hb
    exact⟨h.lt.2.2.1 x q1 b q2,h.dl x q1 b q2⟩
   ·rcases Qa hb with hb | hb
    ·obtain⟨x,q1,q2⟩:=List.mem_flatMap.1 (hsL.subset hb)
     exact⟨h.lt.2.2.2 x q1 b q2,h.l.ap x q1 b q2⟩
    ·obtain⟨x,q1,q2⟩:=List.mem_flatMap.1 (hsR.subset hb)
     exact⟨h2.lt.2.2.2 x q1 b q2,h2.ld x q1 b q2⟩
  have o1:Own w base (D.flatMap (·.fp)++(L.dropLast.flatMap (·.fp)++R.tail.flatMap (·.fp))):=by
   have a1:=h.own.split
   have a2:=h2.own.split
   have n1:(L.dropLast.flatMap (·.fp)++R.tail.flatMap (·.fp)).Nodup:=(hsL.append hsR).nodup h2.own.1
   refine a1.1.app ⟨n1,λ b hb=>?_⟩ λ b hb hx=>?_
   ·rcases Qa hb with hb | hb
    ·exact a2.1.2 b (hsL.subset hb)
    ·exact a2.2.1.2 b (hsR.subset hb)
   ·rcases Qa hx with hx | hx
    ·exact(List.nodup_append.1 h.own.1).2.2 b hb b (hsL.subset hx) rfl
    ·exact h4 b hb (hsR.subset hx)
  have o2:Own w' base (D.flatMap (·.fp)++(L.dropLast.flatMap (·.fp)++R.tail.flatMap (·.fp))):=o1.kept (λ b hb=>(hK b hb).2) hk
  have o3:Own w' base ((D.flatMap (·.fp)++(L.dropLast.flatMap (·.fp)++R.tail.flatMap (·.fp)))++X.fp):=o2.app (ho.lower hb) λ b hb hx=>by
   have:=(hK b hb).1;have:=(ho.2 b hx).1;omega
  refine ⟨?_,λ b hb=>o3.2 b ?_⟩
  ·refine (List.Perm.nodup_iff ?_).1 o3.1
   rw [List.append_assoc,List.flatMap_append,List.flatMap_cons,List.append_assoc]
   exact(List.Perm.refl _).append ((List.Perm.refl _).append List.perm_append_comm)
  ·simp only [List.flatMap_append,List.flatMap_cons,List.mem_append] at hb ⊢
   rcases hb with hb | hb | hb | hb
   ·exact .inl (.inl hb)
   ·exact .inl (.inr (.inl hb))
   ·exact .inr hb
   ·exact .inl (.inr (.inr hb))
 ne:=λ b hb hx=>by
  rcases hv with e | ⟨c,e,hc⟩
  ·exact h.ne b hb (by rw [← e];exact hx)
  ·rw [e,Qi] at hx;subst hx;have:=h.lt.1 _ hb;omega
 dl:=λ x hx b hb hx'=>by
  rcases hv with e | ⟨c,e,hc⟩
  ·exact h.dl x hx b hb (by rw [← e];exact hx')
  ·rw [e,Qi] at hx';subst hx';have:=h.lt.2.2.1 x hx _ hb;omega
 ld:=λ x hx b hb hx'=>by
  rcases Qa hx with hx | hx
  ·exact h.ld x ((List.dropLast_sublist L).subset hx) b hb hx'
  ·rcases List.mem_cons.1 hx with rfl | hx
   ·have:=h.lt.1 _ hx';have:=(ho.2 b hb).1;omega
   ·exact h3 b hx' x (List.mem_of_mem_tail hx) hb
theorem ZbZ {α:Type} {S:Shape α} {P:Program} {t e:TypeId} {z:Value} {bytes:Nat} (ti:TI P t e z S.m bytes) (hzs:z.cells.size=S.m) (h0:0<S.m) (w:World) {L X:List (Elem α)} {ops:Array Oper} {o:Oper} {a:Act} {K:Act->World->Prop} {Q:Exit->Act->World->Prop} {E:Prop}
  (d:Nat) (hdst:o.dst=some d) (hg:o.guard=none) (s y:Operand) (ho:o.op=.call { callee:=.builtin .append,args:=#[s,y],argTypes:=#[t,t] })
  (base:Nat) (v:Value) (hs:a.eval s=v) (hown:RowN S base e v L w) (ad:Addr) (m c:Nat) (hy:a.eval y=.slice (some ad) m c) (hm:X.length=m)
  (hX:∀ x∈X,x.cells.length=S.m/\S.R w x.cells x.d x.fp/\∀ b∈x.fp,v.ownBlock≠some b) (h1:∀ x∈X,∀ u∈x.cells,u.oneCell'=true) (hcell:∀ j u,(X.flatMap (·.cells))[j]?=some u->w.cell? (ad.add j)=some u)
  (h63:L.length+m<=maxLen) (hbytes:(L.length+m) * bytes<=140737488355328) (hbase:base<=w.heap.size)
  (h:∀ v' w',RowN S base e v' (L++X) w'->w.grownBy w' v.ownBlock->(v'.ownBlock=v.ownBlock\/v'.ownBlock=some w.heap.size)->K (a.put (some d) v') w'):if Region.wanted o (yielded ops a.tmps)=true then Oper.wp P o a w K Q else E:=by
 rw [← hdst] at h
 have hwt:Region.wanted o (yielded ops a.tmps)=true:=by simp [Region.wanted,hg]
 rw [if_pos hwt]
 exact ZbF ti hzs h0 w s y ho base v hs hown ad m c hy hm hX h1 hcell h63 hbytes hbase h
theorem Zin (al:Option Addr) (cl:Nat) (vr:Value) (w:World):Calls Tryz.prog 140 #[.slice al 0 cl,vr] w λ e w'=>e=.returned (.tuple #[vr,.bool true])/\w'=w:=by
 go_enter Tryz.func140,Tryz.ntmps140
 go_wp2
 go_ret2
 exact⟨rfl,rfl⟩
theorem Zio (al ar:Option Addr) (n cl cr:Nat) (w:World) (hn:0<n):Calls Tryz.prog 140 #[.slice al n cl,.slice ar 0 cr] w λ e w'=>e=.returned (.tuple #[.slice al n cl,.bool true])/\w'=w:=by
 have e0:((n:Int)==0)=false:=by rw [beq_eq_false_iff_ne];omega
 go_enter Tryz.func140,Tryz.ntmps140
 go_wp2
 go_ret2
 exact⟨rfl,rfl⟩
theorem Y18A4 {g:Prop} (h:g:=by
 intro v7 w7 hG7 hg7 hp7
 have HZ7:=Qh ((hg7.block _ (Nat.lt_of_lt_of_le (mlt HZ5.out) hs6) (λ e=>by rcases hv6b gB e.symm with h | h;omega;have:=mlt HZ5.out;omega)).trans HZ6.out)
 have hK7:Kept [g] w w7:=⟨hg7.os.trans hK6.os,hg7.tape.trans hK6.tape,hg7.output.trans hK6.output,Nat.le_trans hK6.size hg7.size,λ b hb hn=>(hg7.block b (Nat.lt_of_lt_of_le hb hK6.size) (λ e=>by rcases hv6b b e.symm with h | h;exact hn (by simp [h]);have:=hbz5.size;omega)).trans (hK6.block b hb hn)⟩
 have OZ7:=Qh (Zcd OZ6.out (λ b hb h=>by rcases hv6b b h with h | h;exact hgx (h ▸ hb);have:=OZ5.out.lt b hb;omega) hg7)
 have hv7:v7.ownBlock=some g\/∃ b,v7.ownBlock=some b/\w.heap.size<=b:=by
  rcases hp7 with h | h
  ·obtain⟨a8,c8,e8,-,-,h8⟩:=HG6.out.val
   simp only [Value.slice.injEq] at e8
   obtain⟨rfl,-,-⟩:=e8
   obtain⟨g8,rfl,-,-⟩:=h8 (by have:=HL6.out;omega)
   rcases hv6b g8 rfl with h6 | h6
   ·left;rw [h,← h6];rfl
   ·right;exact⟨g8,h,by have:=hbz5.size;omega⟩
  ·right;exact⟨_,h,by have:=hbz5.size;omega⟩
 have HG7:Hid (RowN sTok base 57 v7 (L.dropLast++(⟨[.int .i64 z.kind,.string z.text,.bool z.spaced,.slice za z.hidden.length zc],z,fz⟩:Elem Tok)::R.tail) w7):=by
  show RowN _ _ _ _ _ _
  rw [HM6.out,HL1D.out,HR1.out,List.append_assoc] at hG7
  exact hG7
 clear hG7 hg7 hp7
 refine hK.out _ _ HZ7.out (λ hHeld=>?_)
 clear hK K
 try simp only [Qp]
 refine Qt 9 4 rfl rfl ?_
 try simp only [Qp]
 refine Qt 10 5 rfl rfl ?_
 try simp only [Qp]
 refine wpAnyH_done (by kernel_rfl) ?_ _
 refine NoPanic.normal ?_
 clear hHeld
 go_wp2
 go_ret2
 exact GlueOf.yes (X:=⟨[.int .i64 z.kind,.string z.text,.bool z.spaced,.slice za z.hidden.length zc],z,fz⟩) HPZ.out HG7.out rfl OZ7.out hK7 hv7):g:=h
theorem Y18A5 {g:Prop} (h:g:=by
 have q1:=HR95.out.el q hqR
 have q2:∀ b∈q.fp,b≠g:=λ b hb e=>HLD.out q hqR b hb (by rw [e];rfl)
 refine ⟨HR95.out.len q hqR,sTok.frame (λ b hb=>hg6.block b (sTok.lt q1 b hb) (λ e=>by simp only [Value.ownBlock,Qi] at e;exact q2 b hb e)) q1,λ b hb h=>?_⟩
 rcases hv6b b h with h | h
 ·exact q2 b hb h
 ·have:=sTok.lt q1 b hb;omega):g:=h
theorem Zhy (base:Nat) (vl vr:Value) (L R:List (Elem Tok)) (w:World) (hbase:base<=w.heap.size) (H:TwoN base vl L vr R w) (hl:0<L.length) (hr:0<R.length) (hlm:L.length<=5000) (hrm:R.length<=5000) (hhl:∀ x∈L,x.d.hidden.length<=60) (hhr:∀ x∈R,x.d.hidden.length<=60) :
  Calls Tryz.prog 140 #[vl,vr] w (GlueOf base vl L R w):=by
 obtain⟨al,co,rfl,hco,hcm,hvl⟩:=H.d.val
 obtain⟨g,rfl,hgw,hg3⟩:=hvl hl
 obtain⟨ar,c9,rfl,hc9,hc9m,hvr⟩:=H.l.val
 obtain⟨g9,rfl,hg9w,hg93⟩:=hvr hr
 clear hvl hvr
 obtain⟨N,HN⟩:∃ N:Nat,Hid (N=L.length):=⟨L.length,Qh rfl⟩
 obtain⟨N9,HN9⟩:∃ N9:Nat,Hid (N9=R.length):=⟨R.length,Qh rfl⟩
 have HR:=Qh H.d
 have HR9':=Qh H.l
 have HLD:=Qh H.ld
 rw [show L.length=N from HN.out.symm] at HR hl hlm hco ⊢
 rw [show R.length=N9 from HN9.out.symm] at HR9' hr hrm hc9 ⊢
 have hgg:g≠g9:=λ e=>H.ne g rfl (by rw [e];rfl)
 have hNl:N-1<L.length:=by have:=HN.out;omega
 have hN9l:0<R.length:=by have:=HN9.out;omega
 obtain⟨y,hyd⟩:∃ y:Elem Tok,Hid (y=L[N-1]'hNl):=⟨L[N-1]'hNl,Qh rfl⟩
 obtain⟨x,hxd⟩:∃ x:Elem Tok,Hid (x=R[0]'hN9l):=⟨R[0]'hN9l,Qh rfl⟩
 have hym:y∈L:=by rw [hyd.out];exact List.getElem_mem hNl
 have hxm:x∈R:=by rw [hxd.out];exact List.getElem_mem hN9l
 obtain⟨hyv,hyc,-,-,KY⟩:=HR.out.el y hym
 obtain⟨ya,yc,rfl,-⟩:=Zaf KY
 obtain⟨hxv,hxc,-,-,KX⟩:=HR9'.out.el x hxm
 obtain⟨xa,xc,rfl,-⟩:=Zaf KX
 clear KY KX
 have RY:=HR.out.el y hym
 have RX:=HR9'.out.el x hxm
 rw [hyc] at RY
 rw [hxc] at RX
 have y0:w.cell? ⟨g,(N-1) * 4,none⟩=some (.int .i64 y.d.kind):=HR.out.cellAt hNl (j:=0) (by decide) (by rw [← hyd.out,hyc];rfl)
 have y1:w.cell? ⟨g,(N-1) * 4+1,none⟩=some (.string y.d.text):=HR.out.cellAt hNl (j:=1) (by decide) (by rw [← hyd.out,hyc];rfl)
 have y2:w.cell? ⟨g,(N-1) * 4+2,none⟩=some (.bool y.d.spaced):=HR.out.cellAt hNl (j:=2) (by decide) (by rw [← hyd.out,hyc];rfl)
 have y3:w.cell? ⟨g,(N-1) * 4+3,none⟩=some (.slice ya y.d.hidden.length yc):=HR.out.cellAt hNl (j:=3) (by decide) (by rw [← hyd.out,hyc];rfl)
 have x0:w.cell? ⟨g9,0,none⟩=some (.int .i64 x.d.kind):=by have:=HR9'.out.cellAt hN9l (j:=0) (by decide) (u:=.int .i64 x.d.kind) (by rw [← hxd.out,hxc];rfl);simpa using this
 have x1:w.cell? ⟨g9,1,none⟩=some (.string x.d.text):=by have:=HR9'.out.cellAt hN9l (j:=1) (by decide) (u:=.string x.d.text) (by rw [← hxd.out,hxc];rfl);simpa using this
 have x2:w.cell? ⟨g9,2,none⟩=some (.bool x.d.spaced):=by have:=HR9'.out.cellAt hN9l (j:=2) (by decide) (u:=.bool x.d.spaced) (by rw [← hxd.out,hxc];rfl);simpa using this
 have x3:w.cell? ⟨g9,3,none⟩=some (.slice xa x.d.hidden.length xc):=by have:=HR9'.out.cellAt hN9l (j:=3) (by decide) (u:=.slice xa x.d.hidden.length xc) (by rw [← hxd.out,hxc];rfl);simpa using this
 have HYX:Hid ((L.map (·.d)).getLastD zTok=y.d/\(R.map (·.d)).headD zTok=x.d):=by
  refine ⟨?_,?_⟩
  ·have hne:L.map (·.d)≠[]:=λ h=>by have:=congrArg List.length h;rw [List.length_map] at this;simp at this;rw [this] at hNl;simp at hNl
   rw [List.getLastD_eq_getLast?,List.getLast?_eq_some_getLast hne,Option.getD_some,List.getLast_eq_getElem,List.getElem_map,hyd.out]
   congr 2
   rw [List.length_map];have:=HN.out;omega
  ·rw [hxd.out]
   cases R with
   | nil=>simp at hN9l
   | cons q r=>rfl
 have hyh:y.d.hidden.length<=60:=hhl y hym
 have hxh:x.d.hidden.length<=60:=hhr x hxm
 rcases hpr:Zas y.d x.d with⟨z,fine⟩
 have HPR:=Qh hpr
 have HPT2:=Qh (λ (U:World) (hU:Below w.heap.size w U)=>Zhq [.int .i64 y.d.kind,.string y.d.text,.bool y.d.spaced,.slice ya y.d.hidden.length yc] [.int .i64 x.d.kind,.string x.d.text,.bool x.d.spaced,.slice xa x.d.hidden.length xc] y.d x.d y.fp x.fp U (by omega) (by omega) (sTok.below RY hU) (sTok.below RX hU))
 unfold Zd6 at HPT2
 rw [hpr] at HPT2
 try dsimp only at HPT2
 have HPZ:Hid (Zas ((L.map (·.d)).getLastD zTok) ((R.map (·.d)).headD zTok)=(z,fine)):=by show _=_;rw [HYX.out.1,HYX.out.2];exact HPR.out
 have HSS:Hid (∀ U:World,Below w.heap.size w U->U.cell? ⟨g,(N-1) * 4,none⟩=some (.int .i64 y.d.kind)/\U.cell? ⟨g,(N-1) * 4+1,none⟩=some (.string y.d.text)/\U.cell? ⟨g,(N-1) * 4+2,none⟩=some (.bool y.d.spaced)/\U.cell? ⟨g,(N-1) * 4+3,none⟩=some (.slice ya y.d.hidden.length yc)/\U.cell? ⟨g9,0,none⟩=some (.int .i64 x.d.kind)/\U.cell? ⟨g9,1,none⟩=some (.string x.d.text)/\U.cell? ⟨g9,2,none⟩=some (.bool x.d.spaced)/\U.cell? ⟨g9,3,none⟩=some (.slice xa x.d.hidden.length xc)):=λ U hU=>⟨(hU.cell hg3).trans y0,(hU.cell hg3).trans y1,(hU.cell hg3).trans y2,(hU.cell hg3).trans y3,(hU.cell hg93).trans x0,(hU.cell hg93).trans x1,(hU.cell hg93).trans x2,(hU.cell hg93).trans x3⟩
 have hcs:Below w.heap.size w w.drew:=Zag (Below.refl _ _) 1
 have hwn:IntKind.i64.wrap ((N:Int)-1)=(N:Int)-1:=IntWalk.i64_in _ (by omega)
 have n0:((N:Int)==0)=false:=by rw [beq_eq_false_iff_ne];omega
 have m0:((N9:Int)==0)=false:=by rw [beq_eq_false_iff_ne];omega
 have n1:(0:Int)<=(N:Int)-1:=by omega
 have n2:(N:Int)-1<(N:Int):=by omega
 have n3:((N:Int)-1).toNat=N-1:=by omega
 have n4:(1:Int)<=(N:Int):=by omega
 have n5:(0:Int)<(N9:Int):=by omega
 clear y0 y1 y2 y3 x0 x1 x2 x3 hpr RY RX hxc
 go_enter Tryz.func140,Tryz.ntmps140
 go_upto_region 6 with fail
 go_cut [7,8] from 9 (λ d e wx=>∃ (gB:Nat) (za:Option Addr) (zc:Nat) (fz:List Nat),d=.pointer (some ⟨gB,0,none⟩)/\e=.bool fine/\wx.heap[gB]?=some (.cells #[.int .i64 z.kind,.string z.text,.bool z.spaced,.slice za z.hidden.length zc] 57 (0,0))/\w.heap.size<=gB/\gB<wx.heap.size/\sTok.R wx [.int .i64 z.kind,.string z.text,.bool z.spaced,.slice za z.hidden.length zc] z fz/\Own wx w.heap.size fz/\Below w.heap.size w wx)
 case first =>
  refine wp_region_noPanic ?_
  refine wp_region_held_drew (S:=λ w'=>w'.cell? ⟨g,(N-1) * 4,none⟩=some (.int .i64 y.d.kind)/\w'.cell? ⟨g,(N-1) * 4+1,none⟩=some (.string y.d.text)/\w'.cell? ⟨g,(N-1) * 4+2,none⟩=some (.bool y.d.spaced)/\w'.cell? ⟨g,(N-1) * 4+3,none⟩=some (.slice ya y.d.hidden.length yc)/\w'.cell? ⟨g9,0,none⟩=some (.int .i64 x.d.kind)/\w'.cell? ⟨g9,1,none⟩=some (.string x.d.text)/\w'.cell? ⟨g9,2,none⟩=some (.bool x.d.spaced)/\w'.cell? ⟨g9,3,none⟩=some (.slice xa x.d.hidden.length xc)) (by kernel_rfl) (by exact HSS.out _ hcs) (λ hHeld=>?_)
  generalize w.drew=wd at *
  refine Qt 0 21 rfl rfl ?_
  try simp only [Qp]
  refine Qt 1 22 rfl rfl ?_
  try simp only [Qp]
  refine Qt 2 23 rfl rfl ?_
  try simp only [Qp]
  refine Qt 3 24 rfl rfl ?_ (by intro w hSw;obtain⟨s0,s1,s2,s3,t0,t1,t2,t3⟩:=hSw;go_simp;(first | done | with_reducible rfl | rfl))
  try simp only [Qp]
  refine Qt 4 25 rfl rfl ?_
  try simp only [Qp]
  refine Qt 5 26 rfl rfl ?_
  try simp only [Qp]
  refine Qt 6 27 rfl rfl ?_ (by intro w hSw;obtain⟨s0,s1,s2,s3,t0,t1,t2,t3⟩:=hSw;go_simp;(first | done | with_reducible rfl | rfl))
  try simp only [Qp]
  refine wpAnyH_ready (rs:=[7,11]) (by kernel_rfl) (by simp) ?_
  refine AllReadyH.cons rfl (λ K hK=>?_) ?_
  ·skip
   go_simp
   refine (HPT2.out _ hcs).mono ?_
   rintro e wx1 ⟨czs,fz,rfl,rZ,oZ,brz⟩
   obtain⟨hz,rfl,-,-,KZ⟩:=id rZ
   obtain⟨za,zc,rfl,-⟩:=Zaf KZ
   clear KZ
   have hx1:=hcs.trans (brz.mono hcs.size)
   replace oZ:=oZ.lower hcs.size
   refine hK.out _ _ (HSS.out _ hx1) (λ hHeld=>?_)
   clear hK K
   try simp only [Qp]
   refine Qt 8 20 rfl rfl ?_
   try simp only [Qp]
   refine Qt 9 29 rfl rfl ?_
   try simp only [Qp]
   refine Qt 10 30 rfl rfl ?_
   try simp only [Qp]
   refine Qr 11 rfl (λ K hK=>?_)
   go_simp
   have bk:=Zab wx1 (.cells #[.int .i64 0,.string ⟨#[]⟩,.bool false,.slice none 0 0] 57)
   have HBX:=Qh (heap_alloc_new wx1 (.cells #[.int .i64 0,.string ⟨#[]⟩,.bool false,.slice none 0 0] 57))
   have hx2:=hx1.trans (bk.mono hx1.size)
   have hge:=hx1.size
   replace rZ:=sTok.below rZ bk
   have hnz:wx1.heap.size∉fz:=λ h=>Nat.lt_irrefl _ (oZ.lt _ h)
   replace oZ:=oZ.grow bk
   refine hK.out _ _ (HSS.out _ hx2) (λ hHeld=>?_)
   clear hK K bk
   try simp only [Qp]
   generalize (wx1.alloc (.cells #[.int .i64 0,.string ⟨#[]⟩,.bool false,.slice none 0 0] 57))=wx2 at *
   have zc0:=Qc 0 HBX.out
   have zf0:=Qf 0 HBX.out
   have zc1:=Qc 1 HBX.out
   have zf1:=Qf 1 HBX.out
   have zc2:=Qc 2 HBX.out
   have zf2:=Qf 2 HBX.out
   have zc3:=Qc 3 HBX.out
   have zf3:=Qf 3 HBX.out
   have HDN:=Qh (Zfs HBX.out hge rZ oZ hnz hx2 (.int .i64 z.kind) (.string z.text) (.bool z.spaced) (.slice za z.hidden.length zc))
   refine Qr 12 rfl (λ K hK=>?_)
   go_simp
   change K _ (set4 wx2 (wx1.heap.size) (.int .i64 z.kind) (.string z.text) (.bool z.spaced) (.slice za z.hidden.length zc))
   refine hK.out _ _ (HSS.out _ HDN.out.2.2.2.2.2) (λ hHeld=>?_)
   clear hK K
   try simp only [Qp]
   refine Qt 13 8 rfl rfl ?_
   try simp only [Qp]
   refine wpAnyH_done (by kernel_rfl) ?_ _
   refine NoPanic.normal ?_
   clear hHeld
   go_wp2
   go_meet
   case rel=>exact⟨_,za,zc,_,rfl,rfl,HDN.out.1,HDN.out.2.1,HDN.out.2.2.1,HDN.out.2.2.2.1,HDN.out.2.2.2.2.1,HDN.out.2.2.2.2.2⟩
  refine AllReadyH.cons rfl (λ K hK=>?_) AllReadyH.nil
  go_simp
  have bk:=Zab wd (.cells #[.int .i64 0,.string ⟨#[]⟩,.bool false,.slice none 0 0] 57)
  have HBX:=Qh (heap_alloc_new wd (.cells #[.int .i64 0,.string ⟨#[]⟩,.bool false,.slice none 0 0] 57))
  have hx3:=hcs.trans (bk.mono hcs.size)
  have hge:=hcs.size
  refine hK.out _ _ (HSS.out _ hx3) (λ hHeld=>?_)
  clear hK K bk
  try simp only [Qp]
  generalize (wd.alloc (.cells #[.int .i64 0,.string ⟨#[]⟩,.bool false,.slice none 0 0] 57))=wx3 at *
  refine Qr 7 rfl (λ K hK=>?_)
  go_simp
  refine (HPT2.out _ hx3).mono ?_
  rintro e wx4 ⟨czs,fz,rfl,rZ,oZ,brz⟩
  obtain⟨hz,rfl,-,-,KZ⟩:=id rZ
  obtain⟨za,zc,rfl,-⟩:=Zaf KZ
  clear KZ
  have hx4:=hx3.trans (brz.mono hx3.size)
  have hnz:wd.heap.size∉fz:=λ h=>by have h1:=(oZ.2 _ h).1;have h2:=mlt HBX.out;omega
  replace HBX:=Qh (mbox HBX.out brz)
  replace oZ:=oZ.lower hx3.size
  refine hK.out _ _ (HSS.out _ hx4) (λ hHeld=>?_)
  clear hK K
  try simp only [Qp]
  refine Qt 8 20 rfl rfl ?_
  try simp only [Qp]
  refine Qt 9 29 rfl rfl ?_
  try simp only [Qp]
  refine Qt 10 30 rfl rfl ?_
  try simp only [Qp]
  have zc0:=Qc 0 HBX.out
  have zf0:=Qf 0 HBX.out
  have zc1:=Qc 1 HBX.out
  have zf1:=Qf 1 HBX.out
  have zc2:=Qc 2 HBX.out
  have zf2:=Qf 2 HBX.out
  have zc3:=Qc 3 HBX.out
  have zf3:=Qf 3 HBX.out
  have HDN:=Qh (Zfs HBX.out hge rZ oZ hnz hx4 (.int .i64 z.kind) (.string z.text) (.bool z.spaced) (.slice za z.hidden.length zc))
  refine Qr 12 rfl (λ K hK=>?_)
  go_simp
  change K _ (set4 wx4 (wd.heap.size) (.int .i64 z.kind) (.string z.text) (.bool z.spaced) (.slice za z.hidden.length zc))
  refine hK.out _ _ (HSS.out _ HDN.out.2.2.2.2.2) (λ hHeld=>?_)
  clear hK K
  try simp only [Qp]
  refine Qt 13 8 rfl rfl ?_
  try simp only [Qp]
  refine wpAnyH_done (by kernel_rfl) ?_ _
  refine NoPanic.normal ?_
  clear hHeld
  go_wp2
  go_meet
  case rel=>exact⟨_,za,zc,_,rfl,rfl,HDN.out.1,HDN.out.2.1,HDN.out.2.2.1,HDN.out.2.2.2.1,HDN.out.2.2.2.2.1,HDN.out.2.2.2.2.2⟩
 obtain⟨gB,za,zc,fz,rfl,rfl,HZB0,hgB1,hgB2,RZ,hfz,hbz⟩:=hcut
 generalize wc=wb at *
 have HZB:=Qh HZB0
 replace HR:=Qh (HR.out.below hbz)
 replace HR9':=Qh (HR9'.out.below hbz)
 clear HZB0 HPT2 HSS hcs
 cases fine
 ·go_wp2
  go_ret2
  exact GlueOf.no HPZ.out hbz
 have hgx:g∉fz:=λ h=>by have:=(hfz.2 _ h).1;omega
 obtain⟨R1,HR1⟩:∃ R1:List (Elem Tok),Hid (R1=R.tail):=⟨R.tail,Qh rfl⟩
 have HRC:Hid (R1.length=N9-1):=by show _=_;rw [HR1.out,List.length_tail];have:=HN9.out;omega
 have HRM:Hid (∀ q∈R1,q∈R):=λ q hq=>List.mem_of_mem_tail (by rw [← HR1.out];exact hq)
 have hcl:Below wb.heap.size wb wb.drew:=Zag (Below.refl _ _) 1
 have hwd:=hcl.size
 have bl:=Zab wb.drew (.cells #[.int .i64 z.kind,.string z.text,.bool z.spaced,.slice za z.hidden.length zc] 57)
 have HL5:=Qh (heap_alloc_new wb.drew (.cells #[.int .i64 z.kind,.string z.text,.bool z.spaced,.slice za z.hidden.length zc] 57))
 have HS5:=Qh ((HR.out.short (k:=N-1) (by have:=HN.out;omega)).below (hcl.trans (bl.mono hcl.size)))
 have RZ5:=Qh (sTok.below RZ (hcl.trans (bl.mono hcl.size)))
 have OZ5:=Qh ((hfz.grow hcl).grow bl)
 have HR95:=Qh (HR9'.out.below (hcl.trans (bl.mono hcl.size)))
 have hbz5:=hbz.trans ((hcl.trans (bl.mono hcl.size)).mono hbz.size)
 have HZ5:=Qh (mbox HZB.out (hcl.trans (bl.mono hcl.size)))
 have HZd:wb.drew.heap[gB]?=some (.cells #[.int .i64 z.kind,.string z.text,.bool z.spaced,.slice za z.hidden.length zc] 57 (0,0)):=HZB.out
 have hlt':(L.take (N-1)).length=N-1:=by rw [List.length_take];have:=HN.out;omega
 have HTL:=Qh hlt'
 obtain⟨L1,HL1⟩:∃ L1:List (Elem Tok),Hid (L1=L.take (N-1)):=⟨L.take (N-1),Qh rfl⟩
 have HL1D:Hid (L1=L.dropLast):=by show _=_;rw [HL1.out,List.dropLast_eq_take];congr 1;have:=HN.out;omega
 rw [show L.take (N-1)=L1 from HL1.out.symm] at HS5 HTL
 have HL1M:Hid (∀ q∈L1,q∈L):=λ q hq=>List.mem_of_mem_take (by rw [← HL1.out];exact hq)
 have hgb3:g<wb.heap.size:=Nat.lt_of_lt_of_le hg3 hbz.size
 have hg9b3:g9<wb.heap.size:=Nat.lt_of_lt_of_le hg93 hbz.size
 clear hlt' hcl bl HR HR9' hfz RZ
 have HRT:Hid (∀ j u,(R1.flatMap (·.cells))[j]?=some u->(wb.drew.alloc (.cells #[.int .i64 z.kind,.string z.text,.bool z.spaced,.slice za z.hidden.length zc] 57)).cell? ⟨g9,4+j,none⟩=some u):=by
  intro j u hj
  cases R with
  | nil=>simp at hN9l
  |
   cons q r =>
   have e1:R1=r:=HR1.out
   rw [e1] at hj
   have hql:q.cells.length=4:=HR95.out.len q (by simp)
   have hj2:j<(r.flatMap (·.cells)).length:=(List.getElem?_eq_some_iff.1 hj).1
   rw [ZaB (f:=Elem.cells) (m:=4) (λ q' hq'=>HR95.out.len q' (by simp [hq']))] at hj2
   have hrow:=HR95.out.row
   rw [show N9=(q::r).length from HN9.out] at hrow
   rw [hrow.cellAt (4+j) (by show 4+j<(r.length+1) * 4;omega),List.flatMap_cons,List.getElem?_append_right (by omega),hql,show 4+j-4=j by omega]
   exact hj
 generalize hw5:(wb.drew.alloc (.cells #[.int .i64 z.kind,.string z.text,.bool z.spaced,.slice za z.hidden.length zc] 57))=w5 at HL5 HS5 RZ5 OZ5 HR95 hbz5 HZ5 HRT
 have HW5:=Qh hw5
 clear hw5
 have o1:(1:Int)<=(N9:Int):=by omega
 have o2:1<=N9:=hr
 have o3:1<=c9:=by omega
 have o4:(1:Int)<=(c9:Int):=by omega
 have o5:(N:Int)-1<=(co:Int):=by omega
 have o6:N-1<=co:=by omega
 by_cases h1:c9=1
 ·have HC1:Hid (c9=1/\N9-1=0):=⟨h1,by omega⟩
  have HSL:Hid (Value.slice (if c9=1 then some ⟨g9,0,none⟩ else some ⟨g9,4,none⟩) (N9-1) (c9-1)=.slice (some ⟨g9,0,none⟩) (N9-1) (c9-1)):=by show _=_;rw [if_pos h1]
  go_upto_region 9 with fail
  refine wp_region_noPanic ?_
  refine wp_region_held_drew (S:=λ w'=>w'.heap[gB]?=some (.cells #[.int .i64 z.kind,.string z.text,.bool z.spaced,.slice za z.hidden.length zc] 57 (0,0))) (by kernel_rfl) (by exact HZd) (λ hHeld=>?_)
  generalize wb.drew=wd at *
  refine Qt 0 33 rfl rfl ?_
  try simp only [Qp]
  refine Qt 1 34 rfl rfl ?_
  try simp only [Qp]
  refine Qt 2 35 rfl rfl ?_
  try simp only [Qp]
  refine Qt 3 36 rfl rfl ?_ (by intro w hSw;obtain⟨t0,t1,t2,t3⟩:=Q4 hSw;go_simp;(first | done | with_reducible rfl | rfl))
  try simp only [Qp]
  refine Qt 6 39 rfl rfl ?_
  try simp only [Qp]
  refine Qt 7 40 rfl rfl ?_
  try simp only [Qp]
  refine Qr 4 rfl (λ K hK=>?_)
  go_simp
  rw [HW5.out]
  refine hK.out _ _ HZ5.out (λ hHeld=>?_)
  clear hK K
  try simp only [Qp]
  refine Qr 5 rfl (λ K hK=>?_)
  refine ZbZ (X:=[(⟨[.int .i64 z.kind,.string z.text,.bool z.spaced,.slice za z.hidden.length zc],z,fz⟩:Elem Tok)]) ti_tok rfl (by decide) _ 38 rfl rfl (.tmp 35) (.tmp 37) rfl base (.slice (some ⟨g,0,none⟩) (N-1) co) rfl HS5.out ⟨wd.heap.size,0,none⟩ 1 1 rfl rfl (λ q hq=>by obtain rfl:=Qm hq;exact⟨rfl,RZ5.out,λ b hb h=>hgx (by simp only [Value.ownBlock,Qi] at h;rw [h];exact hb)⟩) (λ q hq=>by obtain rfl:=Qm hq;exact ZaE _ _ _ _ RZ5.out) (λ j u hj=>by rw [ZaI,Nat.zero_add,cell_of_row _ _ _ _ _ _ HL5.out];simpa using hj) (by have:=HTL.out;unfold maxLen;omega) (by have:=HTL.out;omega) (Nat.le_trans hbase hbz5.size) ?_
  intro v6 w6 hG6 hg6 hp6
  have hv6:∀ b,v6.ownBlock=some b->b=g\/w.heap.size<=b:=λ b hb=>by
   rcases hp6 with h | h
   ·rw [h] at hb;simp only [Value.ownBlock,Qi] at hb;exact .inl hb.symm
   ·rw [h] at hb;simp only [Qi] at hb;have:=hbz5.size;right;omega
  have hv6b:∀ b,v6.ownBlock=some b->b=g\/w5.heap.size<=b:=λ b hb=>by
   rcases hp6 with h | h
   ·rw [h] at hb;simp only [Value.ownBlock,Qi] at hb;exact .inl hb.symm
   ·rw [h] at hb;simp only [Qi] at hb;right;omega
  have HZ6:=Qh ((hg6.block _ (mlt HZ5.out) (λ e=>by simp only [Value.ownBlock,Qi] at e;omega)).trans HZ5.out)
  have hK6:Kept [g] w w6:=(Kept.of_below hbz5).trans ((Zif hg6).mono (λ b hb=>by simpa [Value.ownBlock] using hb))
  have OZ6:=Qh (Zcd OZ5.out (λ b hb h=>hgx (by simp only [Value.ownBlock,Qi] at h;rw [h];exact hb)) hg6)
  have HRE6:Hid (∀ q∈R1,q.cells.length=4/\sTok.R w6 q.cells q.d q.fp/\∀ b∈q.fp,v6.ownBlock≠some b):=λ q hq=>by
   have hqR:=HRM.out q hq
   exact Y18A5
  have HRT6:Hid (∀ j u,(R1.flatMap (·.cells))[j]?=some u->w6.cell? ⟨g9,4+j,none⟩=some u):=λ j u hj=>(World.cell?_of_block (hg6.block g9 (Nat.lt_of_lt_of_le hg93 hbz5.size) (λ e=>by simp only [Value.ownBlock,Qi] at e;exact hgg e.symm))).trans (HRT.out j u hj)
  have hl6:(L1++[(⟨[.int .i64 z.kind,.string z.text,.bool z.spaced,.slice za z.hidden.length zc],z,fz⟩:Elem Tok)]).length=N:=by rw [List.length_append,HTL.out];simp;omega
  have HL6:=Qh hl6
  obtain⟨a6,c6,hv6e,-⟩:=hG6.val
  rw [hl6] at hv6e
  subst hv6e
  have HG6:=Qh hG6
  obtain⟨M6,HM6⟩:∃ M6,Hid (M6=L1++[(⟨[.int .i64 z.kind,.string z.text,.bool z.spaced,.slice za z.hidden.length zc],z,fz⟩:Elem Tok)]):=⟨L1++[(⟨[.int .i64 z.kind,.string z.text,.bool z.spaced,.slice za z.hidden.length zc],z,fz⟩:Elem Tok)],Qh rfl⟩
  rw [show L1++[(⟨[.int .i64 z.kind,.string z.text,.bool z.spaced,.slice za z.hidden.length zc],z,fz⟩:Elem Tok)]=M6 from HM6.out.symm] at HG6 HL6
  have hs6:=hg6.size
  clear hG6 hg6 hp6 hl6 hv6
  refine hK.out _ _ HZ6.out (λ hHeld=>?_)
  clear hK K
  try simp only [Qp]
  refine Qr 8 rfl (λ K hK=>?_)
  refine ZbZ (X:=R1) ti_tok rfl (by decide) _ 41 rfl rfl (.tmp 38) (.tmp 40) rfl base (.slice a6 N c6) rfl HG6.out ⟨g9,0,none⟩ (N9-1) 0 rfl HRC.out (λ q hq=>HRE6.out q hq) (λ q hq=>ZaE _ _ _ _ (HRE6.out q hq).2.1) (λ j u hj=>by have h1:R1=[]:=List.length_eq_zero_iff.1 (by have:=HRC.out;have:=HC1.out;omega);rw [h1] at hj;simp at hj) (by have:=HL6.out;unfold maxLen;omega) (by have:=HL6.out;omega) (by have:=hbz5.size;omega) ?_
  exact Y18A4
 ·have HC1:Hid (c9≠1):=h1
  have HSL:Hid (Value.slice (if c9=1 then some ⟨g9,0,none⟩ else some ⟨g9,4,none⟩) (N9-1) (c9-1)=.slice (some ⟨g9,4,none⟩) (N9-1) (c9-1)):=by show _=_;rw [if_neg h1]
  go_upto_region 9 with fail
  refine wp_region_noPanic ?_
  refine wp_region_held_drew (S:=λ w'=>w'.heap[gB]?=some (.cells #[.int .i64 z.kind,.string z.text,.bool z.spaced,.slice za z.hidden.length zc] 57 (0,0))) (by kernel_rfl) (by exact HZd) (λ hHeld=>?_)
  generalize wb.drew=wd at *
  refine Qt 0 33 rfl rfl ?_
  try simp only [Qp]
  refine Qt 1 34 rfl rfl ?_
  try simp only [Qp]
  refine Qt 2 35 rfl rfl ?_
  try simp only [Qp]
  refine Qt 3 36 rfl rfl ?_ (by intro w hSw;obtain⟨t0,t1,t2,t3⟩:=Q4 hSw;go_simp;(first | done | with_reducible rfl | rfl))
  try simp only [Qp]
  refine Qt 6 39 rfl rfl ?_
  try simp only [Qp]
  refine Qt 7 40 rfl rfl ?_
  try simp only [Qp]
  refine Qr 4 rfl (λ K hK=>?_)
  go_simp
  rw [HW5.out]
  refine hK.out _ _ HZ5.out (λ hHeld=>?_)
  clear hK K
  try simp only [Qp]
  refine Qr 5 rfl (λ K hK=>?_)
  refine ZbZ (X:=[(⟨[.int .i64 z.kind,.string z.text,.bool z.spaced,.slice za z.hidden.length zc],z,fz⟩:Elem Tok)]) ti_tok rfl (by decide) _ 38 rfl rfl (.tmp 35) (.tmp 37) rfl base (.slice (some ⟨g,0,none⟩) (N-1) co) rfl HS5.out ⟨wd.heap.size,0,none⟩ 1 1 rfl rfl (λ q hq=>by obtain rfl:=Qm hq;exact⟨rfl,RZ5.out,λ b hb h=>hgx (by simp only [Value.ownBlock,Qi] at h;rw [h];exact hb)⟩) (λ q hq=>by obtain rfl:=Qm hq;exact ZaE _ _ _ _ RZ5.out) (λ j u hj=>by rw [ZaI,Nat.zero_add,cell_of_row _ _ _ _ _ _ HL5.out];simpa using hj) (by have:=HTL.out;unfold maxLen;omega) (by have:=HTL.out;omega) (Nat.le_trans hbase hbz5.size) ?_
  intro v6 w6 hG6 hg6 hp6
  have hv6:∀ b,v6.ownBlock=some b->b=g\/w.heap.size<=b:=λ b hb=>by
   rcases hp6 with h | h
   ·rw [h] at hb;simp only [Value.ownBlock,Qi] at hb;exact .inl hb.symm
   ·rw [h] at hb;simp only [Qi] at hb;have:=hbz5.size;right;omega
  have hv6b:∀ b,v6.ownBlock=some b->b=g\/w5.heap.size<=b:=λ b hb=>by
   rcases hp6 with h | h
   ·rw [h] at hb;simp only [Value.ownBlock,Qi] at hb;exact .inl hb.symm
   ·rw [h] at hb;simp only [Qi] at hb;right;omega
  have HZ6:=Qh ((hg6.block _ (mlt HZ5.out) (λ e=>by simp only [Value.ownBlock,Qi] at e;omega)).trans HZ5.out)
  have hK6:Kept [g] w w6:=(Kept.of_below hbz5).trans ((Zif hg6).mono (λ b hb=>by simpa [Value.ownBlock] using hb))
  have OZ6:=Qh (Zcd OZ5.out (λ b hb h=>hgx (by simp only [Value.ownBlock,Qi] at h;rw [h];exact hb)) hg6)
  have HRE6:Hid (∀ q∈R1,q.cells.length=4/\sTok.R w6 q.cells q.d q.fp/\∀ b∈q.fp,v6.ownBlock≠some b):=λ q hq=>by
   have hqR:=HRM.out q hq
   exact Y18A5
  have HRT6:Hid (∀ j u,(R1.flatMap (·.cells))[j]?=some u->w6.cell? ⟨g9,4+j,none⟩=some u):=λ j u hj=>(World.cell?_of_block (hg6.block g9 (Nat.lt_of_lt_of_le hg93 hbz5.size) (λ e=>by simp only [Value.ownBlock,Qi] at e;exact hgg e.symm))).trans (HRT.out j u hj)
  have hl6:(L1++[(⟨[.int .i64 z.kind,.string z.text,.bool z.spaced,.slice za z.hidden.length zc],z,fz⟩:Elem Tok)]).length=N:=by rw [List.length_append,HTL.out];simp;omega
  have HL6:=Qh hl6
  obtain⟨a6,c6,hv6e,-⟩:=hG6.val
  rw [hl6] at hv6e
  subst hv6e
  have HG6:=Qh hG6
  obtain⟨M6,HM6⟩:∃ M6,Hid (M6=L1++[(⟨[.int .i64 z.kind,.string z.text,.bool z.spaced,.slice za z.hidden.length zc],z,fz⟩:Elem Tok)]):=⟨L1++[(⟨[.int .i64 z.kind,.string z.text,.bool z.spaced,.slice za z.hidden.length zc],z,fz⟩:Elem Tok)],Qh rfl⟩
  rw [show L1++[(⟨[.int .i64 z.kind,.string z.text,.bool z.spaced,.slice za z.hidden.length zc],z,fz⟩:Elem Tok)]=M6 from HM6.out.symm] at HG6 HL6
  have hs6:=hg6.size
  clear hG6 hg6 hp6 hl6 hv6
  refine hK.out _ _ HZ6.out (λ hHeld=>?_)
  clear hK K
  try simp only [Qp]
  refine Qr 8 rfl (λ K hK=>?_)
  refine ZbZ (X:=R1) ti_tok rfl (by decide) _ 41 rfl rfl (.tmp 38) (.tmp 40) rfl base (.slice a6 N c6) rfl HG6.out ⟨g9,4,none⟩ (N9-1) (c9-1) rfl HRC.out (λ q hq=>HRE6.out q hq) (λ q hq=>ZaE _ _ _ _ (HRE6.out q hq).2.1) (λ j u hj=>by rw [ZaI];exact HRT6.out j u hj) (by have:=HL6.out;unfold maxLen;omega) (by have:=HL6.out;omega) (by have:=hbz5.size;omega) ?_
  exact Y18A4
theorem Zhz {α:Type} {S:Shape α} {P:Program} {t e:TypeId} {z:Value} {bytes:Nat} (ti:TI P t e z S.m bytes) (hzs:z.cells.size=S.m) (h0:0<S.m) (hone:∀ w cs x fp,S.R w cs x fp->∀ u∈cs,u.oneCell'=true) (w:World) {L X:List (Elem α)} {o:Oper} {a:Act} {K:Act->World->Prop} {Q:Exit->Act->World->Prop}
  (s y:Operand) (ho:o.op=.call { callee:=.builtin .append,args:=#[s,y],argTypes:=#[t,t] })
  (base base':Nat) (v u:Value) (hs:a.eval s=v) (hown:RowN S base e v L w) (hy:a.eval y=u) (hX:RowN S base' e u X w) (hap:∀ x∈X,∀ b∈x.fp,v.ownBlock≠some b)
  (h63:L.length+X.length<=maxLen) (hbytes:(L.length+X.length) * bytes<=140737488355328) (hbase:base<=w.heap.size)
  (h:∀ v' w',RowN S base e v' (L++X) w'->w.grownBy w' v.ownBlock->(v'.ownBlock=v.ownBlock\/v'.ownBlock=some w.heap.size)->K (a.put o.dst v') w'):o.wp P a w K Q:=by
 rcases hX.row.2 with⟨rfl,hx0⟩ | ⟨g,cap,cur,rfl,-,-,-,-,-,-⟩
 ·have hX0:X=[]:=List.length_eq_zero_iff.1 hx0
  subst hX0
  obtain⟨i,hi,hz0,hz1,hz2⟩:=info_parts ti.2
  have hdone:K (a.put o.dst v) w:=h v w (by simpa using hown) ⟨rfl,rfl,rfl,Nat.le_refl _,λ _ _ _=>rfl⟩ (.inl rfl)
  have hrun:=ZeG (P:=P) (w:=w) base _ o.type _ i S.m 0 ti.1 hi v L.length _ hown.row
  unfold Oper.wp
  simp [execOp,ho,resolve,invoke,builtin,hs,hy,hrun,Result.andThen]
  exact hdone
 ·refine ZbF ti hzs h0 w (X:=X) s y ho base v hs hown ⟨g,0,none⟩ X.length cap hy rfl (λ x hx=>⟨hX.len x hx,hX.el x hx,hap x hx⟩) (λ x hx=>hone _ _ _ _ (hX.el x hx)) ?_ h63 hbytes hbase h
  intro j u hj
  have hjl:=(List.getElem?_eq_some_iff.1 hj).1
  rw [ZaB (f:=Elem.cells) hX.len] at hjl
  rw [Addr.add_lit,Nat.zero_add,hX.row.cellAt j hjl]
  exact hj
theorem Zfc {α:Type} {S:Shape α} {P:Program} {t e:TypeId} {z:Value} {bytes:Nat} (ti:TI P t e z S.m bytes) (hzs:z.cells.size=S.m) (h0:0<S.m) (hone:∀ w cs x fp,S.R w cs x fp->∀ u∈cs,u.oneCell'=true) (w:World) {L X:List (Elem α)} {ops:Array Oper} {rest:List Oper} {o:Oper} {a:Act} {Q:Exit->Act->World->Prop}
  (hg:o.guard=none) (s y:Operand) (ho:o.op=.call { callee:=.builtin .append,args:=#[s,y],argTypes:=#[t,t] })
  (base base':Nat) (v u:Value) (hs:a.eval s=v) (hown:RowN S base e v L w) (hy:a.eval y=u) (hX:RowN S base' e u X w) (hap:∀ x∈X,∀ b∈x.fp,v.ownBlock≠some b)
  (h63:L.length+X.length<=maxLen) (hbytes:(L.length+X.length) * bytes<=140737488355328) (hbase:base<=w.heap.size)
  (h:∀ v' w',RowN S base e v' (L++X) w'->w.grownBy w' v.ownBlock->(v'.ownBlock=v.ownBlock\/v'.ownBlock=some w.heap.size)->wpList P ops Q rest (a.put o.dst v') w'):wpList P ops Q (o::rest) a w:=
 wpList_plain hg λ _ hK=>Zhz ti hzs h0 hone w s y ho base base' v u hs hown hy hX hap h63 hbytes hbase λ v' w' h2 h3 h4=>hK _ _ (h v' w' h2 h3 h4)
def Zi5 (m:DMacro) (raw ready:List (List Tok)) (w:World) (e:Ending) (w':World):Prop:=
 ∃ (v:Value) (fp:List Nat),e=.returned (.tuple #[v,.bool (Zar m raw ready).2])/\(Zaa sTok).R w' [v] (Zar m raw ready).1 fp/\Own w' w.heap.size fp/\Below w.heap.size w w'
theorem Zce {m:DMacro} {raw ready:List (List Tok)} {w W:World} (h:Zar m raw ready=([],false)) (hb:Below w.heap.size w W):Zi5 m raw ready w (.returned (.tuple #[.slice none 0 0,.bool false])) W:=
 ⟨_,[],by rw [h],by rw [h];exact Zan _ _ _ _ (by simp),Own.nil _ _,hb⟩
theorem last_app {D L:List Tok} (h:L≠[]):(D++L).getLastD zTok=L.getLastD zTok:=by
 rw [List.getLastD_eq_getLast?,List.getLastD_eq_getLast?,List.getLast?_append,List.getLast?_eq_some_getLast h];rfl
theorem drop_app {D L:List Tok} (h:L≠[]):(D++L).dropLast=D++L.dropLast:=List.dropLast_append_of_ne_nil h
theorem map_ne {L:List (Elem Tok)} (h:0<L.length):L.map (·.d)≠[]:=λ e=>absurd (List.map_eq_nil_iff.1 e) (List.ne_nil_of_length_pos h)
theorem Zip (csM:List Value) (m:DMacro) (fpM:List Nat) (vr vy:Value) (raw ready:List (List Tok)) (fpr fpy:List Nat) (w:World)
  (HM:sMacro.R w csM m fpM) (Hr:(Zaa (Zaa sTok)).R w [vr] raw fpr) (Hy:(Zaa (Zaa sTok)).R w [vy] ready fpy) :
  Calls Tryz.prog 128 #[.agg csM.toArray,vr,vy] w (Zi5 m raw ready w):=by
 have HM0:=HM
 obtain⟨h2,h3,q2,q3,rfl,-,K2,K3,-⟩:=HM
 obtain⟨a2,c2,rfl,-⟩:=Zaf K2
 obtain⟨a3,c3,rfl,hc3,hm3,hrow3⟩:=Zac K3
 obtain⟨ar,cr,rfl,-⟩:=Zac Hr
 obtain⟨ay,cy,rfl,-⟩:=Zac Hy
 unfold maxLen at hm3
 have b0:=Zab w (.cells #[.string m.name,.bool m.function,.slice a2 m.params.length c2,.slice a3 m.body.length c3] 70)
 have HX:=Qh (heap_alloc_new w (.cells #[.string m.name,.bool m.function,.slice a2 m.params.length c2,.slice a3 m.body.length c3] 70))
 have HM1:=Qh (sMacro.below HM0 b0)
 have Hr1:=Qh ((Zaa (Zaa sTok)).below Hr b0)
 have Hy1:=Qh ((Zaa (Zaa sTok)).below Hy b0)
 have HB3:=Qh ((Zaa sTok).below K3 b0)
 have HROW:Hid (∀ hlt:0<m.body.length,∃ bb ob,a3=some ⟨bb,ob,none⟩):=λ h=>by obtain⟨b,o,-,e,-⟩:=hrow3 h;exact⟨b,o,e⟩
 clear K2 K3 HM0 Hr Hy hrow3
 go_enter Tryz.func128,Tryz.ntmps128
 go_upto_region 1 with fail
 generalize (w.alloc (.cells #[.string m.name,.bool m.function,.slice a2 m.params.length c2,.slice a3 m.body.length c3] 70))=W1 at *
 have HMV:=Qh (Zc2 _ m fpM W1 HM1.out)
 have HAR:=Qh (λ (U:World) (hU:Below W1.heap.size W1 U)=>Zdg _ m fpM _ raw fpr U (sMacro.below HM1.out hU) ((Zaa (Zaa sTok)).below Hr1.out hU))
 have HAY:=Qh (λ (U:World) (hU:Below W1.heap.size W1 U)=>Zdg _ m fpM _ ready fpy U (sMacro.below HM1.out hU) ((Zaa (Zaa sTok)).below Hy1.out hU))
 obtain⟨p0,p1,p2,p3⟩:=Q4 HX.out
 cases hv:macOk m
 ·have HF:=Qh (ZbR (m:=m) (raw:=raw) (ready:=ready) (λ h=>by rw [hv] at h;exact absurd h.1 (by simp):¬ (macOk m=true/\Zau m raw=true/\Zau m ready=true)))
  rw [hv] at HMV
  clear hv
  go_wp2_with fail
  refine (HMV.out).mono ?_
  rintro e w2 ⟨rfl,hb2⟩
  go_wp2
  go_ret2
  exact Zce HF.out (b0.trans (hb2.mono b0.size))
 have HVv:=Qh hv
 rw [hv] at HMV
 clear hv
 go_wp2_with fail
 refine (HMV.out).mono ?_
 rintro e w2 ⟨rfl,hb2⟩
 clear p0 p1 p2 p3
 have hB2:=hb2
 have HX2:=Qh (mbox HX.out hB2)
 obtain⟨p0,p1,p2,p3⟩:=Q4 HX2.out
 cases ha:Zau m raw
 ·have HF:=Qh (ZbR (m:=m) (raw:=raw) (ready:=ready) (λ h=>by rw [ha] at h;exact absurd h.2.1 (by simp):¬ (macOk m=true/\Zau m raw=true/\Zau m ready=true)))
  rw [ha] at HAR
  clear ha
  go_wp2_with fail
  refine (HAR.out _ hB2).mono ?_
  rintro e w3 ⟨rfl,hb3⟩
  go_wp2
  go_ret2
  exact Zce HF.out (b0.trans ((hB2.trans (hb3.mono hB2.size)).mono b0.size))
 have HVa:=Qh ha
 rw [ha] at HAR
 clear ha
 go_wp2_with fail
 refine (HAR.out _ hB2).mono ?_
 rintro e w3 ⟨rfl,hb3⟩
 clear p0 p1 p2 p3
 have hB3:=hB2.trans (hb3.mono hB2.size)
 have HX3:=Qh (mbox HX.out hB3)
 obtain⟨p0,p1,p2,p3⟩:=Q4 HX3.out
 cases hy:Zau m ready
 ·have HF:=Qh (ZbR (m:=m) (raw:=raw) (ready:=ready) (λ h=>by rw [hy] at h;exact absurd h.2.2 (by simp):¬ (macOk m=true/\Zau m raw=true/\Zau m ready=true)))
  rw [hy] at HAY
  clear hy
  go_wp2_with fail
  refine (HAY.out _ hB3).mono ?_
  rintro e w4 ⟨rfl,hb4⟩
  go_wp2
  go_ret2
  exact Zce HF.out (b0.trans ((hB3.trans (hb4.mono hB3.size)).mono b0.size))
 have HVy:=Qh hy
 rw [hy] at HAY
 clear hy
 go_wp2_with fail
 refine (HAY.out _ hB3).mono ?_
 rintro e w4 ⟨rfl,hb4⟩
 clear p0 p1 p2 p3
 have hB4:=hB3.trans (hb4.mono hB3.size)
 clear HMV HAR HAY HX2 HX3 hb2 hb3 hb4 hB2 hB3
 have hlen20:m.body.length<=20:=(ZaD HVv.out).1.2.2.2.2
 have HPT:=Qh (λ (k:Nat) (hk:k<m.body.length) (U:World) (hU:Below W1.heap.size W1 U)=>Zlj _ m fpM _ _ raw ready fpr fpy k U HVv.out HVa.out HVy.out hk (sMacro.below HM1.out hU) ((Zaa (Zaa sTok)).below Hr1.out hU) ((Zaa (Zaa sTok)).below Hy1.out hU))
 unfold Zmt at HPT
 have HSM:=Qh (λ (k:Nat) (hk:k<m.body.length) (P:List Tok) (nx:Nat) (ok:Bool) (h:ZaA m raw ready k=(P,nx,ok))=>Zie HVv.out HVa.out HVy.out hk h)
 have HBM:=Qh (λ (k:Nat) (hk:k<m.body.length)=>ZfB HVv.out hk [35])
 have HMI:=Qh (λ (k:Nat) (hk:k<m.body.length) (h:isM m.body[k] [35,35]=true)=>mark_in HVv.out hk h)
 have hsz1:w.heap.size<W1.heap.size:=mlt HX.out
 clear HM1 Hr1 Hy1
 go_wp2
 go_loopw [8,9,10] (λ vd vl va wr=>∃ (k:Nat) (D L:List (Elem Tok)),k<=m.body.length/\va=.int .i64 k/\Hid (TwoN W1.heap.size vd D vl L wr)/\Hid (subGo m raw ready 0 [] true false=subGo m raw ready k ((D++L).map (·.d)) (decide (L.length=0)) false)/\Hid (D.length+L.length<=61 * k)/\Hid (∀ x∈D++L,x.d.hidden.length<=60)/\Below W1.heap.size W1 wr) (λ _ _ va _=>m.body.length-(intOf va).toNat)
 case atStart=>exact⟨0,[],[],by omega,rfl,TwoN.start _ _,rfl,(show (0:Nat)<=_ by omega),(λ x hx=>by simp at hx),hB4⟩
 case round =>
  clear hB4
  obtain⟨k,D,L,hk,rfl,HT,HGO,HLL,HHD,hb⟩:=hrel
  have HXr:=Qh (mbox HX.out hb)
  obtain⟨ad,cd,hvd,-⟩:=HT.out.d.val
  obtain⟨al,cl,hvl,hcl,-,-⟩:=HT.out.l.val
  subst hvd hvl
  obtain⟨N,HN⟩:∃ N:Nat,Hid (N=L.length):=⟨L.length,Qh rfl⟩
  obtain⟨ND,HND⟩:∃ N:Nat,Hid (N=D.length):=⟨D.length,Qh rfl⟩
  rw [show L.length=N from HN.out.symm] at HT hcl ⊢
  rw [show D.length=ND from HND.out.symm] at HT ⊢
  have hbw:=b0.trans (hb.mono b0.size)
  obtain⟨p0,p1,p2,p3⟩:=Q4 HXr.out
  by_cases hlt:k<m.body.length
  ·obtain⟨bb,ob,rfl⟩:=HROW.out (by omega)
   obtain⟨xa,xc,xf,-,xq1,-,-,-,hbb,-⟩:=ZaJ HB3.out hlt
   have x1:wr.cell? ⟨bb,ob+k * 4+1,none⟩=some _:=(hb.cell (p:=⟨bb,ob+k * 4+1,none⟩) hbb).trans xq1
   clear xq1
   have i0:(0:Int)<=(k:Int):=by omega
   have i1:(k:Int)<(m.body.length:Int):=by omega
   cases hmk:isM m.body[k] [35,35]
   ·have e1:(m.body[k].text.toList==[35,35])=false:=by rw [← HBM.out k hlt];exact hmk
    have HMK:=Qh hmk
    clear hmk
    rcases hP:ZaA m raw ready k with⟨P,nx,ok⟩
    have HS:=Qh (HSM.out k hlt P nx ok hP)
    have HPP:=Qh hP
    have HC:=Qh (HPT.out k hlt _ hb)
    rw [hP] at HC
    try dsimp only at HC
    clear hP
    go_wp2_with fail
    refine HC.out.mono ?_
    rintro e w3 ⟨v9,L9,rfl,HR9,HD9,HO9,hb3⟩
    have hB3:=hbw.trans (hb3.mono hbw.size)
    clear p0 p1 p2 p3 x1 e1 HC
    cases ok
    ·have HF:=Qh (ZeD (HGO.out.trans (Ze9 hlt (λ h=>by rw [HMK.out] at h;exact absurd h.1 (by simp)) HPP.out)))
     go_wp2
     go_ret2
     exact Zce HF.out hB3
    have hb13:=hb.trans (hb3.mono hb.size)
    have HT3:=Qh (HT.out.below hb3)
    have HLT:=Qh HT.out.lt
    have HR9':=Qh HR9
    have HO9':=Qh HO9
    have HD9':=Qh HD9
    obtain⟨a9,c9,hv9,-⟩:=HR9.val
    subst hv9
    have hk20:k<=20:=by omega
    have hNL:ND+N<=61 * k:=by have:=HLL.out;have:=HN.out;have:=HND.out;omega
    have hWr:=hb.size
    clear HR9 HO9 HD9 HT
    go_wp2_with (at_builtin;refine Zfc ti_tok rfl (by decide) ZaE w3 rfl (.tmp 59) (.tmp 60) rfl W1.heap.size W1.heap.size (.slice ad ND cd) (.slice al N cl) rfl HT3.out.d rfl HT3.out.l HT3.out.ld (by have:=HN.out;have:=HND.out;unfold maxLen;omega) (by have:=HN.out;have:=HND.out;omega) hb13.size ?_;intro v5 w5 hR5 hg5 hp5)
    have hb5:Below W1.heap.size W1 w5:=hb13.grown hg5 hb13.size (λ b hb=>(HT3.out.d.mine b hb).1)
    have h9g:∀ b,(Value.slice ad ND cd).ownBlock=some b->b<wr.heap.size:=HLT.out.1
    have HT5:Hid (TwoN W1.heap.size v5 (D++L) (.slice a9 L9.length c9) L9 w5):=by
     have ho5:=HT3.out.flushed hR5 hg5
     have hr9:RowN sTok wr.heap.size 57 (.slice a9 L9.length c9) L9 w5:=HR9'.out.same (λ g hg=>hg5.block g (HR9'.out.mine g hg).2 (λ e=>by have:=h9g g e.symm;have:=(HR9'.out.mine g hg).1;omega)) (λ x hx b hb=>hg5.block b (sTok.lt (HR9'.out.el x hx) b hb) (λ e=>by have:=h9g b e.symm;have:=(HO9'.out.2 b (List.mem_flatMap.2 ⟨x,hx,hb⟩)).1;omega))
     have ho9:Own w5 wr.heap.size (L9.flatMap (·.fp)):=Zcd HO9'.out (λ b hb e=>by have:=h9g b e;have:=(HO9'.out.2 b hb).1;omega) hg5
     show TwoN _ _ _ _ _ _
     have h3s:=hb3.size
     rcases hp5 with hp5 | hp5
     ·refine TwoN.fresh hR5 ho5 hr9 ho9 hWr (λ b hb=>h9g b (by rw [← hp5];exact hb)) (λ x hx b hb=>?_)
      rcases Qa hx with hx | hx
      ·exact HLT.out.2.2.1 x hx b hb
      ·exact HLT.out.2.2.2 x hx b hb
     ·refine ⟨hR5,hr9.lower hWr,ho5.app (ho9.lower hWr) (λ b hb hx=>?_),(λ b hb hv=>?_),(λ x hx b hb hv=>?_),(λ x hx b hb hv=>?_)⟩
      ·have h1:=(ho9.2 b hx).1
       obtain⟨x,hx1,hx2⟩:=List.mem_flatMap.1 hb
       rcases Qa hx1 with hx1 | hx1
       ·have:=HLT.out.2.2.1 x hx1 b hx2;omega
       ·have:=HLT.out.2.2.2 x hx1 b hx2;omega
      ·rw [hp5,Qi] at hb
       have:=(HR9'.out.mine b hv).2;omega
      ·have h1:=(HR9'.out.mine b hv).1
       rcases Qa hx with hx | hx
       ·have:=HLT.out.2.2.1 x hx b hb;omega
       ·have:=HLT.out.2.2.2 x hx b hb;omega
      ·rw [hp5,Qi] at hv
       have:=sTok.lt (HR9'.out.el x hx) b hb;omega
    have hPl:P.length=L9.length:=by rw [← HD9'.out,List.length_map]
    have HGO5:Hid (subGo m raw ready 0 [] true false=subGo m raw ready nx (((D++L)++L9).map (·.d)) (decide (L9.length=0)) false):=by
     show _=_
     rw [HGO.out,Zd5 hlt (λ h=>by rw [HMK.out] at h;exact absurd h.1 (by simp)) HPP.out (λ h=>absurd h.1 (by simp)),List.map_append (l₁:=D++L),HD9'.out,hPl]
     simp
    have HLL5:Hid ((D++L).length+L9.length<=61 * nx):=by show _<=_;rw [List.length_append,← hPl];have:=HS.out.1;have:=HS.out.2.2.1;have:=HN.out;have:=HND.out;omega
    have HHD5:Hid (∀ x∈(D++L)++L9,x.d.hidden.length<=60):=λ x hx=>by
     rcases Qa hx with hx | hx
     ·exact HHD.out x hx
     ·have hm:x.d∈P:=by rw [← HD9'.out];exact List.mem_map.2 ⟨x,hx,rfl⟩
      exact HS.out.2.2.2 x.d hm
    have hnx:=HS.out.2.1
    have hnk:=HS.out.2.2.1
    clear hR5 hg5 hp5 h9g HR9' HO9' hPl
    go_wp2
    go_roundw
    case rel=>exact⟨nx,D++L,L9,hnx,by trivial,HT5,HGO5,HLL5,HHD5,hb5⟩
    case measure=>simp [intOf];omega
   ·have e1:(m.body[k].text.toList==[35,35])=true:=by rw [← HBM.out k hlt];exact hmk
    have hk1:k+1<m.body.length:=HMI.out k hlt hmk
    have HGO1:=Qh (HGO.out.trans (by rw [Zfx hlt hmk]))
    have hw1:IntKind.i64.wrap ((k:Int)+1)=(k:Int)+1:=IntWalk.i64_in _ (by omega)
    clear hmk HGO
    rcases hP:ZaA m raw ready (k+1) with⟨P,nx,ok⟩
    have HS:=Qh (HSM.out (k+1) hk1 P nx ok hP)
    have HPP:=Qh hP
    have HC:=Qh (HPT.out (k+1) hk1 _ hb)
    rw [hP] at HC
    try dsimp only at HC
    clear hP
    go_wp2_with fail
    refine HC.out.mono ?_
    rintro e w3 ⟨v9,L9,rfl,HR9,HD9,HO9,hb3⟩
    have hB3:=hbw.trans (hb3.mono hbw.size)
    clear p0 p1 p2 p3 x1 e1 HC
    cases ok
    ·have HF:=Qh (ZeD (HGO1.out.trans (Ze9 hk1 (λ h=>absurd h.2 (by simp)) HPP.out)))
     go_wp2
     go_ret2
     exact Zce HF.out hB3
    have hb13:=hb.trans (hb3.mono hb.size)
    have HT3:=Qh (HT.out.below hb3)
    have HLT:=Qh HT.out.lt
    have HR9':=Qh HR9
    have HO9':=Qh HO9
    have HD9':=Qh HD9
    obtain⟨a9,c9,hv9,-⟩:=HR9.val
    subst hv9
    have hk20:k<=20:=by omega
    have hNL:ND+N<=61 * k:=by have:=HLL.out;have:=HN.out;have:=HND.out;omega
    have hWr:=hb.size
    have hPl:Hid (P.length=L9.length):=by show _=_;rw [← HD9'.out,List.length_map]
    have HFR:Hid (TwoN W1.heap.size (.slice ad ND cd) D (.slice a9 L9.length c9) L9 w3):=TwoN.fresh HT3.out.d (HT3.out.own.split.1) HR9 HO9 hWr HLT.out.1 HLT.out.2.2.1
    have HFL:Hid (TwoN W1.heap.size (.slice al N cl) L (.slice a9 L9.length c9) L9 w3):=TwoN.fresh HT3.out.l (HT3.out.own.split.2.1) HR9 HO9 hWr HLT.out.2.1 HLT.out.2.2.2
    have hnx:=HS.out.2.1
    have hnk:=HS.out.2.2.1
    obtain⟨N9,HN9⟩:∃ N9:Nat,Hid (N9=L9.length):=⟨L9.length,Qh rfl⟩
    rw [show L9.length=N9 from HN9.out.symm] at HFR HFL ⊢
    clear HR9 HO9 HD9 HT
    by_cases hN0:N=0
    ·have hL0:L=[]:=List.length_eq_zero_iff.1 (by have:=HN.out;omega)
     subst hN0
     subst hL0
     have HGO5:Hid (subGo m raw ready 0 [] true false=subGo m raw ready nx ((D++L9).map (·.d)) (decide (L9.length=0)) false):=by
      show _=_
      rw [HGO1.out,Zd5 hk1 (λ h=>absurd h.2 (by simp)) HPP.out (λ h=>absurd h.2.1 (by simp)),List.append_nil,List.map_append,HD9'.out,hPl.out]
      simp
     have HLL5:Hid (D.length+L9.length<=61 * nx):=by show _<=_;have:=hPl.out;have:=HS.out.1;have:=HND.out;omega
     have HHD5:Hid (∀ x∈D++L9,x.d.hidden.length<=60):=λ x hx=>by
      rcases Qa hx with hx | hx
      ·exact HHD.out x (by simpa using hx)
      ·have hm:x.d∈P:=by rw [← HD9'.out];exact List.mem_map.2 ⟨x,hx,rfl⟩
       exact HS.out.2.2.2 x.d hm
     go_wp2_with fail
     refine (Zin al cl (.slice a9 N9 c9) w3).mono ?_
     rintro e w4 ⟨rfl,rfl⟩
     go_wp2
     go_roundw
     case rel=>exact⟨nx,D,L9,hnx,by trivial,HFR,HGO5,HLL5,HHD5,hb13⟩
     case measure=>simp [intOf];omega
    by_cases hN9:N9=0
    ·have hL0:L9=[]:=List.length_eq_zero_iff.1 (by have:=HN9.out;omega)
     have HP0:Hid (P=[]):=by show _=_;rw [← HD9'.out,hL0];rfl
     subst hN9
     have HNE:Hid (decide (L.length=0)=false):=decide_eq_false (by have:=HN.out;omega)
     have HGO5:Hid (subGo m raw ready 0 [] true false=subGo m raw ready nx ((D++L).map (·.d)) (decide (L.length=0)) false):=by
      show _=_
      rw [HGO1.out,Zd5 hk1 (λ h=>absurd h.2 (by simp)) HPP.out (λ h=>by rw [HP0.out] at h;exact absurd h.2.2 (by simp)),HP0.out,List.append_nil,HNE.out]
      rfl
     have HLL5:Hid (D.length+L.length<=61 * nx):=by show _<=_;have:=HLL.out;omega
     have hNp:0<N:=by omega
     clear hL0
     go_wp2_with fail
     refine (Zio al a9 N cl c9 w3 hNp).mono ?_
     rintro e w4 ⟨rfl,rfl⟩
     go_wp2
     go_roundw
     case rel=>exact⟨nx,D,L,hnx,by trivial,HT3,HGO5,HLL5,HHD,hb13⟩
     case measure=>simp [intOf];omega
    have hNp:0<N:=by omega
    have hN9p:0<N9:=by omega
    have HNE:Hid (decide (L.length=0)=false):=decide_eq_false (by have:=HN.out;omega)
    have HLN:=Qh (map_ne (L:=L) (by have:=HN.out;omega))
    have HPZ:Hid (P.headD zTok=(L9.map (·.d)).headD zTok):=by show _=_;rw [HD9'.out]
    have HPp:Hid (0<P.length):=by show _<_;have:=hPl.out;have:=HN9.out;omega
    have hN960:N9<=60:=by have:=hPl.out;have:=HN9.out;have:=HS.out.1;omega
    have HG:=Qh (Zhy W1.heap.size (.slice al N cl) (.slice a9 N9 c9) L L9 w3 hb13.size HFL.out (by have:=HN.out;omega) (by have:=HN9.out;omega) (by have:=HN.out;omega) (by have:=HN9.out;omega) (λ x hx=>HHD.out x (by simp [hx])) (λ x hx=>HS.out.2.2.2 x.d (by rw [← HD9'.out];exact List.mem_map.2 ⟨x,hx,rfl⟩)))
    unfold GlueOf at HG
    rcases hpr:Zas ((L.map (·.d)).getLastD zTok) ((L9.map (·.d)).headD zTok) with⟨z,fine⟩
    rw [hpr] at HG
    try dsimp only at HG
    have HP3:Hid (Zas (((D++L).map (·.d)).getLastD zTok) (P.headD zTok)=(z,fine)):=by show _=_;rw [List.map_append,last_app HLN.out,HPZ.out];exact hpr
    have HPF:=Qh hpr
    have HLA:Hid (((L.map (·.d)).getLastD zTok).hidden.length<=60):=by
     show _<=_
     rw [List.getLastD_eq_getLast?,List.getLast?_eq_some_getLast HLN.out,Option.getD_some]
     obtain⟨x,hx,e⟩:=List.mem_map.1 (List.getLast_mem HLN.out)
     rw [← e]
     exact HHD.out x (by simp [hx])
    clear hpr
    cases fine
    ·have HF:=Qh (ZeD (HGO1.out.trans (Zh8 hk1 (λ h=>absurd h.2 (by simp)) HPP.out ⟨rfl,HNE.out,HPp.out⟩ HP3.out)))
     go_wp2_with fail
     refine HG.out.mono ?_
     rintro e w4 (⟨-,rfl,hb4⟩ | ⟨h,-⟩)
     rotate_left
     ·exact absurd h (by simp)
     go_wp2
     go_ret2
     exact Zce HF.out (hB3.trans (hb4.mono hB3.size))
    have HNX:=Qh (HGO1.out.trans (Zgy hk1 (λ h=>absurd h.2 (by simp)) HPP.out ⟨rfl,HNE.out,HPp.out⟩ HP3.out))
    have hDL:Hid (∀ b∈D.flatMap (·.fp),b∉L9.flatMap (·.fp)):=λ b hb hx=>(List.nodup_append.1 HFR.out.own.1).2.2 b hb b hx rfl
    go_wp2_with fail
    refine HG.out.mono ?_
    rintro e w4 (⟨h,-⟩ | ⟨-,v4,X,rfl,HR4,hXz,HO4,HK4,hv4⟩)
    ·exact absurd h (by simp)
    have HT5:=Qh (TwoN.glued HT3.out HFL.out (λ b hb x hx h=>HFR.out.ld x hx b h hb) hDL.out hb13.size HR4 HO4 HK4 hv4)
    have hb5:Below W1.heap.size W1 w4:=hb13.trans (HK4.below (λ b hb=>by simp only [Option.mem_toList] at hb;exact(HT3.out.l.mine b hb).1) hb13.size)
    have HGO5:Hid (subGo m raw ready 0 [] true false=subGo m raw ready nx ((D++(L.dropLast++X::L9.tail)).map (·.d)) (decide ((L.dropLast++X::L9.tail).length=0)) false):=by
     show _=_
     rw [HNX.out,decide_eq_false (by rw [List.length_append,List.length_cons];omega:¬ (L.dropLast++X::L9.tail).length=0),List.map_append,drop_app HLN.out,List.map_append,List.map_append,List.map_cons,List.map_tail,List.map_dropLast,HD9'.out,hXz,List.append_assoc,HNE.out]
    have hlen5:Hid ((L.dropLast++X::L9.tail).length=N+N9-1):=by show _=_;rw [List.length_append,List.length_cons,List.length_dropLast,List.length_tail];have:=HN.out;have:=HN9.out;omega
    have HLL5:Hid (D.length+(L.dropLast++X::L9.tail).length<=61 * nx):=by show _<=_;rw [hlen5.out];have:=HND.out;omega
    have HHD5:Hid (∀ x∈D++(L.dropLast++X::L9.tail),x.d.hidden.length<=60):=λ x hx=>by
     have hP9:∀ y∈L9,y.d.hidden.length<=60:=λ y hy=>HS.out.2.2.2 y.d (by rw [← HD9'.out];exact List.mem_map.2 ⟨y,hy,rfl⟩)
     rcases Qa hx with hx | hx
     ·exact HHD.out x (by simp [hx])
     ·rcases Qa hx with hx | hx
      ·exact HHD.out x (by simp [(List.dropLast_sublist L).subset hx])
      ·rcases List.mem_cons.1 hx with rfl | hx
       ·rw [hXz]
        have h1:=(Zfv HPF.out).2.2.2.2.2
        have h2:=HLA.out
        omega
       ·exact hP9 x (List.mem_of_mem_tail hx)
    clear HR4 HO4 HK4 hv4 hXz
    go_wp2
    go_roundw
    case rel=>exact⟨nx,D,_,hnx,by trivial,HT5,HGO5,HLL5,HHD5,hb5⟩
    case measure=>simp [intOf];omega
  ·have hkl:k=m.body.length:=by omega
   have HSG:Hid (subGo m raw ready 0 [] true false=((D++L).map (·.d),true)):=by show _=_;rw [HGO.out,Zd4 (by omega)]
   have hNL:ND+N<=61 * k:=by have:=HLL.out;have:=HN.out;have:=HND.out;omega
   clear hkl
   go_upto_region 20 with(at_builtin;refine Zfc ti_tok rfl (by decide) ZaE wr rfl (.tmp 71) (.tmp 72) rfl W1.heap.size W1.heap.size (.slice ad ND cd) (.slice al N cl) rfl HT.out.d rfl HT.out.l HT.out.ld (by have:=HN.out;have:=HND.out;unfold maxLen;omega) (by have:=HN.out;have:=HND.out;omega) hb.size ?_;intro v5 w5 hR5 hg5 hp5;have ho5:=HT.out.flushed hR5 hg5;have hb5:Below W1.heap.size W1 w5:=hb.grown hg5 hb.size (λ b hb=>(HT.out.d.mine b hb).1);obtain⟨fp5,r5,-,f5⟩:=hR5.read;have o5:=f5 ho5;obtain⟨a5,c5,hv5,-⟩:=hR5.val;have hl5:(D++L).length=ND+N:=(by rw [List.length_append];have:=HN.out;have:=HND.out;omega);rw [hl5] at hv5;subst hv5;have HR5:=Qh r5;have HO5:=Qh (o5.lower (lo':=w.heap.size) b0.size);have HL5:=Qh hl5;clear hR5 hg5 hp5 ho5 f5 r5 o5 hl5)
   have hbf:=b0.trans (hb5.mono b0.size)
   by_cases h9:240<ND+N
   ·have HF:=Qh (ZgX (raw:=raw) (ready:=ready) HSG.out (by rw [List.length_map,HL5.out];exact h9))
    have e9:(240:Int)<((ND+N:Nat):Int):=by omega
    have e8:(240:Int)<(ND:Int)+(N:Int):=by omega
    go_wp2
    go_ret2
    exact Zce HF.out hbf
   ·have HF:=Qh (Zh9 ⟨HVv.out,HVa.out,HVy.out⟩ HSG.out (by rw [List.length_map,HL5.out];exact h9))
    have e9:¬ (240:Int)<((ND+N:Nat):Int):=by omega
    have e8:¬ (240:Int)<(ND:Int)+(N:Int):=by omega
    go_wp2
    go_ret2
    exact⟨_,fp5,by rw [HF.out];rfl,by rw [HF.out];exact HR5.out,HO5.out,hbf⟩
def repR (m:DMacro) (A:Args) (en:Nat) (hs:List ByteArray) (l:List Tok) (R:Args):List Tok × Int:=
 if (Zar m A R).2=true then (if 60<(putL (Zar m A R).1 hs (l.headD zTok).spaced++l.drop en).length then ([],3) else (putL (Zar m A R).1 hs (l.headD zTok).spaced++l.drop en,0)) else ([],2)
theorem Zi6 {m:DMacro} {A:Args} {en:Nat} {hs:List ByteArray} {l:List Tok} {R:Args} {b:List Tok} (h:Zar m A R=(b,false)):repR m A en hs l R=([],2):=by unfold repR;rw [h,if_neg (by simp)]
theorem Zn1 {m:DMacro} {A:Args} {en:Nat} {hs:List ByteArray} {l:List Tok} {R:Args} {b:List Tok} (h0:0<l.length) (h:Zar m A R=(b,true)) (hl:60<b.length+(l.length-en)):repR m A en hs l R=([],3):=by
 unfold repR;rw [h,if_pos rfl,if_pos (by rw [List.length_append,ZdB,List.length_drop];exact hl)]
theorem repR_yes {m:DMacro} {A:Args} {en:Nat} {hs:List ByteArray} {l:List Tok} {R:Args} {b:List Tok} (h0:0<l.length) (h:Zar m A R=(b,true)) (hl:¬ 60<b.length+(l.length-en)):repR m A en hs l R=(putL b hs l[0].spaced++l.drop en,0):=by
 unfold repR;rw [h,if_pos rfl,if_neg (by rw [List.length_append,ZdB,List.length_drop];exact hl)]
 cases l with
 | nil=>simp at h0
 | cons t r=>rfl
def AfterOf (r:List Tok × Int) (fp:List Nat) (w:World) (e:Ending) (w':World):Prop:=
 ∃ (v:Value) (fp':List Nat),e=.returned (.tuple #[v,.int .i64 r.2])/\(Zaa sTok).R w' [v] r.1 fp'/\(∀ b∈fp',b∈fp\/w.heap.size<=b)/\Below w.heap.size w w'
theorem AfterOf.none {r:List Tok × Int} {fp:List Nat} {c:Int} {w W:World} (h:r=([],c)) (hb:Below w.heap.size w W):AfterOf r fp w (.returned (.tuple #[.slice none 0 0,.int .i64 c])) W:=
 ⟨_,[],by rw [h],by rw [h];exact Zan _ _ _ _ (by simp),by simp,hb⟩
theorem ZfI {t:Tok} (h:tokOk t=true):t.hidden.length<=60/\Up t.hidden:=⟨(ZcT (ZbS h)).1,(ZcT (ZbS h)).2.2⟩
theorem Zj1 (csM:List Value) (m:DMacro) (fpM:List Nat) (vA vH:Value) (A:Args) (fA:List Nat) (en:Nat) (hs:List ByteArray) (fH:List Nat) (v:Value) (l:List Tok) (fp:List Nat) (vR:Value) (R:Args) (fR:List Nat) (w:World) (h0:0<l.length) (hl60:l.length<=60) (hen:en<=l.length) (hhs:hs.length<=100000)
  (HM:sMacro.R w csM m fpM) (HA:(Zaa sToks).R w [vA] A fA) (HH:(Zaa sStr).R w [vH] hs fH) (H:(Zaa sTok).R w [v] l fp) (HR:(Zaa sToks).R w [vR] R fR) :
  Calls Tryz.prog 113 #[.agg (csM++[vA,.int .i64 en,vH]).toArray,v,vR] w (AfterOf (repR m A en hs l R) fp w):=by
 have HM0:=HM
 obtain⟨h2,h3,q2,q3,rfl,-,K2,K3,-⟩:=HM
 obtain⟨a2,c2,rfl,-⟩:=Zaf K2
 obtain⟨a3,c3,rfl,-⟩:=Zac K3
 have HA0:=HA
 obtain⟨aA,cA,rfl,-⟩:=Zac HA
 have HH0:=HH
 obtain⟨aH,cH,rfl,-⟩:=Zaf HH
 have H00:=H
 have HLT:=Qh ((Zaa sTok).lt H)
 obtain⟨al,cl,rfl,hcl,hml,hrow⟩:=Zac H
 unfold maxLen at hml
 obtain⟨bw,ow,-,rfl,-,-,-⟩:=hrow h0
 have HX:=Qh (heap_alloc_new w (.cells #[.string m.name,.bool m.function,.slice a2 m.params.length c2,.slice a3 m.body.length c3,.slice aA A.length cA,.int .i64 (en:Nat),.slice aH hs.length cH] 136))
 have b0:=Zab w (.cells #[.string m.name,.bool m.function,.slice a2 m.params.length c2,.slice a3 m.body.length c3,.slice aA A.length cA,.int .i64 (en:Nat),.slice aH hs.length cH] 136)
 have HM1:=Qh (sMacro.below HM0 b0)
 have HA1:=Qh ((Zaa sToks).below HA0 b0)
 have HH1:=Qh ((Zaa sStr).below HH0 b0)
 have HL1:=Qh ((Zaa sTok).below H00 b0)
 have HR1:=Qh ((Zaa sToks).below HR b0)
 clear HM0 K2 K3 HA HA0 HH HH0 H H00 HR hrow
 go_enter Tryz.func113,Tryz.ntmps113
 go_upto_region 1 with fail
 generalize (w.alloc (.cells #[.string m.name,.bool m.function,.slice a2 m.params.length c2,.slice a3 m.body.length c3,.slice aA A.length cA,.int .i64 (en:Nat),.slice aH hs.length cH] 136))=W1 at *
 have p0:=Qc 0 HX.out
 have p1:=Qc 1 HX.out
 have p2:=Qc 2 HX.out
 have p3:=Qc 3 HX.out
 have p4:=Qc 4 HX.out
 have p5:=Qc 5 HX.out
 have p6:=Qc 6 HX.out
 have HSB:=Qh (Zip _ m fpM _ _ A R fA fR W1 HM1.out HA1.out HR1.out)
 unfold Zi5 at HSB
 have HSO:Hid (∀ t∈(Zar m A R).1,tokOk t=true):=sub_ok
 have HSL:Hid ((Zar m A R).1.length<=240):=Zi1 m A R
 rcases hsr:Zar m A R with⟨b,ok⟩
 rw [hsr] at HSB HSO HSL
 try dsimp only at HSB HSO HSL
 have HSR:=Qh hsr
 clear hsr
 cases ok
 ·have HF:=Qh (Zi6 (en:=en) (hs:=hs) (l:=l) HSR.out)
  go_wp2_with fail
  refine HSB.out.mono ?_
  rintro e w2 ⟨vB,fB,rfl,RB,-,hb2⟩
  obtain⟨aB,cB,rfl,-⟩:=Zac RB
  clear RB
  go_wp2
  go_ret2
  exact AfterOf.none HF.out (b0.trans (hb2.mono b0.size))
 go_wp2_with fail
 refine HSB.out.mono ?_
 rintro e w2 ⟨vB,fB,rfl,RB,OB,hb2⟩
 obtain⟨aB,cB,rfl,-⟩:=Zac RB
 clear p0 p1 p2 p3 p4 p5 p6 HSB
 have hB2:=b0.trans (hb2.mono b0.size)
 have HX2:=Qh (mbox HX.out hb2)
 have HL2:=Qh ((Zaa sTok).below HL1.out hb2)
 have HH2:=Qh ((Zaa sStr).below HH1.out hb2)
 have HRB:=Qh RB
 have hbl:b.length<=240:=HSL.out
 obtain⟨nb,HNB⟩:∃ nb:Nat,Hid (nb=b.length):=⟨_,Qh rfl⟩
 rw [show b.length=nb from HNB.out.symm] at HRB hbl ⊢
 clear RB OB hb2 b0 HX HM1 HA1 HH1 HL1 HR1
 go_upto_region 4 with fail
 obtain⟨xa,xc,xf,x0,x1,x2,x3,xR,hbb,-⟩:=ZaJ HL2.out h0
 simp only [Nat.zero_mul,Nat.add_zero] at x0 x1 x2 x3
 have HXX:=Qh (And.intro x0 (And.intro x1 (And.intro x2 x3)))
 have HXR:=Qh xR
 have HSM:Hid (∀ Q:World,Below w2.heap.size w2 Q->(λ w'=>w'.heap[w.heap.size]?=some (.cells #[.string m.name,.bool m.function,.slice a2 m.params.length c2,.slice a3 m.body.length c3,.slice aA A.length cA,.int .i64 (en:Nat),.slice aH hs.length cH] 136 (0,0))/\w'.cell? ⟨bw,ow,none⟩=some (.int .i64 l[0].kind)/\w'.cell? ⟨bw,ow+1,none⟩=some (.string l[0].text)/\w'.cell? ⟨bw,ow+2,none⟩=some (.bool l[0].spaced)/\w'.cell? ⟨bw,ow+3,none⟩=some (.slice xa l[0].hidden.length xc)) Q):=λ Q hQ=>⟨mbox HX2.out hQ,(hQ.cell (p:=⟨bw,ow,none⟩) hbb).trans HXX.out.1,(hQ.cell (p:=⟨bw,ow+1,none⟩) hbb).trans HXX.out.2.1,(hQ.cell (p:=⟨bw,ow+2,none⟩) hbb).trans HXX.out.2.2.1,(hQ.cell (p:=⟨bw,ow+3,none⟩) hbb).trans HXX.out.2.2.2⟩
 have HSP:=Qh (λ (Q:World) (hQ:Below w2.heap.size w2 Q)=>Zcf _ l[0] xf (.slice aB nb cB) b fB Q (by have:=HSL.out;omega) (λ k hk=>by have:=(ZfI (HSO.out _ (List.getElem_mem hk))).1;omega) (sTok.below HXR.out hQ) ((Zaa sTok).below HRB.out hQ))
 clear x0 x1 x2 x3 xR
 have hcs:Below w2.heap.size w2 w2.drew:=Zag (Below.refl _ _) 1
 refine wp_region_noPanic ?_
 refine wp_region_held_drew (S:=λ w'=>w'.heap[w.heap.size]?=some (.cells #[.string m.name,.bool m.function,.slice a2 m.params.length c2,.slice a3 m.body.length c3,.slice aA A.length cA,.int .i64 (en:Nat),.slice aH hs.length cH] 136 (0,0))/\w'.cell? ⟨bw,ow,none⟩=some (.int .i64 l[0].kind)/\w'.cell? ⟨bw,ow+1,none⟩=some (.string l[0].text)/\w'.cell? ⟨bw,ow+2,none⟩=some (.bool l[0].spaced)/\w'.cell? ⟨bw,ow+3,none⟩=some (.slice xa l[0].hidden.length xc)) (by kernel_rfl) (by exact HSM.out _ hcs) (λ hHeld=>?_)
 generalize hwd:w2.drew=wd at *
 refine Qt 0 22 rfl rfl ?_
 try simp only [Qp]
 refine Qt 1 23 rfl rfl ?_
 try simp only [Qp]
 refine Qt 2 24 rfl rfl ?_ (by intro w hSw;obtain⟨-,t0,t1,t2,t3⟩:=hSw;go_simp;(first | done | with_reducible rfl | rfl))
 try simp only [Qp]
 refine Qt 3 25 rfl rfl ?_
 try simp only [Qp]
 refine Qt 5 27 rfl rfl ?_
 try simp only [Qp]
 refine Qt 6 28 rfl rfl ?_ (by intro w hSw;have p6:=Qc 6 hSw.1;go_simp;(first | done | with_reducible rfl | rfl))
 try simp only [Qp]
 -- MARK1
 refine Qr 4 rfl (λ K hK=>?_)
 go_simp
 refine (HSP.out _ hcs).mono ?_
 rintro e w3 ⟨v3,L3,rfl,R3,D3,O3,hb3⟩
 obtain⟨f3,r3,g3,-⟩:=R3.read
 rw [D3] at r3
 obtain⟨a3_,c3_,rfl,-⟩:=Zac r3
 have hx3:=hcs.trans (hb3.mono hcs.size)
 refine hK.out _ _ (HSM.out _ hx3) (λ hHeld=>?_)
 clear hK K
 try simp only [Qp]
 -- MARK2
 refine Qr 7 rfl (λ K hK=>?_)
 go_simp
 have HHN:=Qh (ZiY _ (spc l[0].spaced b) f3 _ hs fH w3 (by rw [ZiR];have:=HSL.out;omega) (λ t ht=>(ZfI (Zig HSO.out t ht)).2) (λ t ht=>by have:=(ZfI (Zig HSO.out t ht)).1;omega) hhs r3 ((Zaa sStr).below HH2.out hx3))
 refine HHN.out.mono ?_
 rintro e w4 ⟨v4,L4,rfl,R4,D4,F4,hb4⟩
 rw [put_spc] at D4
 have hx4:=hx3.trans (hb4.mono hx3.size)
 refine hK.out _ _ (HSM.out _ hx4) (λ hHeld=>?_)
 clear hK K
 try simp only [Qp]
 -- MARK3
 refine Qt 8 8 rfl rfl ?_
 try simp only [Qp]
 refine wpAnyH_done (by kernel_rfl) ?_ _
 refine NoPanic.normal ?_
 clear hHeld
 have hB4:=hB2.trans (hx4.mono hB2.size)
 have HX4:=Qh (mbox HX2.out hx4)
 have HL4:=Qh ((Zaa sTok).below HL2.out hx4)
 have h24:w.heap.size<=w3.heap.size:=by have:=hB2.size;have:=hx3.size;omega
 have HR4:=Qh (R4.lower (base':=w.heap.size) h24)
 have HD4:=Qh D4
 have HF4:Hid (∀ x∈L4,∀ b∈x.fp,w.heap.size<=b):=λ x hx c hc=>by
  rcases F4 x hx c hc with h | h
  ·rcases g3 c h with h1 | ⟨y,hy,h1⟩
   ·have:=(R3.mine c h1).1;have:=hB2.size;have:=hcs.size;omega
   ·have:=(O3.2 c (List.mem_flatMap.2 ⟨y,hy,h1⟩)).1;have:=hB2.size;have:=hcs.size;omega
  ·omega
 have hL4:L4.length=nb:=by have:=congrArg List.length D4;rw [List.length_map,ZdB] at this;rw [this,HNB.out]
 obtain⟨a4,c4,hv4,-⟩:=R4.val
 rw [hL4] at hv4
 subst hv4
 have HL4n:=Qh hL4
 clear R3 D3 O3 r3 g3 hb3 R4 D4 F4 hb4 hL4 HXX HXR HSM HSP HX2 HL2 HH2 HRB hcs hwd
 have p5:=Qc 5 HX4.out
 obtain⟨sv,HSV⟩:∃ sv:Value,Hid (sv=.slice (if cl=en then some ⟨bw,ow,none⟩ else some ⟨bw,ow+en * 4,none⟩) (l.length-en) (cl-en)):=⟨_,Qh rfl⟩
 have o1:(0:Int)<=(en:Int):=by omega
 have o2:(en:Int)<=(l.length:Int):=by omega
 have o3:(en:Int)<=(cl:Int):=by omega
 have o4:en<=cl:=by omega
 go_upto_region 5 with fail
 go_cut [10] from 11 to 43 (λ d wx=>d=sv/\wx=w4)
 case first =>
  by_cases h1:cl=en
  ·have HSV1:Hid (sv=.slice (some ⟨bw,ow,none⟩) (l.length-en) (cl-en)):=by show _=_;rw [HSV.out,if_pos h1]
   have HC1:=Qh h1
   go_wp2
   go_meet
   case rel=>exact⟨by rw [HSV1.out];simp [HC1.out],by trivial⟩
  ·have HSV1:Hid (sv=.slice (some ⟨bw,ow+en * 4,none⟩) (l.length-en) (cl-en)):=by show _=_;rw [HSV.out,if_neg h1]
   go_wp2
   go_meet
   case rel=>exact⟨by rw [HSV1.out],by trivial⟩
 obtain⟨rfl,rfl⟩:=hcut
 generalize wc=w4 at *
 obtain⟨fps,RS0,hfs⟩:=Za0 en hen HL4.out
 rw [Option.map_some,Addr.add_lit,show sTok.m=4 from rfl] at RS0
 have HRS:Hid ((Zaa sTok).R w4 [u10] (l.drop en) fps):=by show (Zaa sTok).R _ _ _ _;rw [HSV.out];exact RS0
 obtain⟨nr,HNR⟩:∃ nr:Nat,Hid (nr=l.length-en):=⟨_,Qh rfl⟩
 obtain⟨ar,cr,hvr,-⟩:=Zac RS0
 have HU:Hid (u10=.slice (if cl=en then some ⟨bw,ow,none⟩ else some ⟨bw,ow+en * 4,none⟩) nr (cl-en)):=by show _=_;rw [HSV.out,HNR.out]
 obtain⟨au,hau⟩:∃ au:Option Addr,au=(if cl=en then some ⟨bw,ow,none⟩ else some ⟨bw,ow+en * 4,none⟩):=⟨_,rfl⟩
 rw [← hau] at HU
 have HU2:=HU.out
 subst HU2
 clear hau HU HSV hvr RS0 p5 o1 o2 o3 o4
 have hnr60:nr<=60:=by have:=HNR.out;omega
 have HFS:=Qh hfs
 by_cases hlong:60<nb+nr
 ·have HF:=Qh (Zn1 (en:=en) (hs:=hs) h0 HSR.out (by rw [← HNB.out,← HNR.out];exact hlong))
  have e1:(60:Int)<(nb:Int)+(nr:Int):=by omega
  clear hlong
  go_wp2
  go_ret2
  exact AfterOf.none HF.out hB4
 have HF:=Qh (repR_yes (en:=en) (hs:=hs) h0 HSR.out (by rw [← HNB.out,← HNR.out];exact hlong))
 have e1:¬ (60:Int)<(nb:Int)+(nr:Int):=by omega
 have hlo:Hid (∀ b∈fps,(Value.slice a4 nb c4).ownBlock≠some b):=λ c hc h=>by
  have h1:=(HR4.out.mine c h).1
  have h2:=HLT.out c (HFS.out c hc)
  omega
 have hdl:Hid ((l.drop en).length<=60):=by show _<=_;rw [List.length_drop];omega
 clear hlong
 go_wp2_with (at_builtin;refine Zbh ti_tok rfl (by decide) ZaE _ rfl (.tmp 40) (.tmp 41) rfl w.heap.size (.slice a4 nb c4) _ (l.drop en) fps rfl HR4.out rfl HRS.out hlo.out (by have:=HL4n.out;have:=hdl.out;unfold maxLen;omega) (by have:=HL4n.out;have:=hdl.out;omega) hB4.size ?_;intro v5 X w5 hX hXf hR5 hg5 hp5)
 have hb5:Below w.heap.size w w5:=hB4.grown hg5 hB4.size (λ b hb=>(HR4.out.mine b hb).1)
 obtain⟨f5,r5,g5,-⟩:=hR5.read
 have HRR:Hid ((Zaa sTok).R w5 [v5] (putL b hs l[0].spaced++l.drop en) f5):=by
  show (Zaa sTok).R _ _ _ _
  rw [List.map_append,HD4.out,hX] at r5;exact r5
 have HGG:Hid (∀ c∈f5,c∈fp\/w.heap.size<=c):=λ c hc=>by
  rcases g5 c hc with h1 | ⟨x,hx,h1⟩
  ·exact .inr (hR5.mine c h1).1
  ·rcases Qa hx with hx | hx
   ·exact .inr (HF4.out x hx c h1)
   ·exact .inl (HFS.out c (hXf x hx c h1))
 clear hX hXf hR5 hg5 hp5 r5 g5
 go_wp2
 go_ret2
 exact⟨v5,f5,by rw [HF.out];rfl,by rw [HF.out];exact HRR.out,HGG.out,hb5⟩
def stepX (f:List Tok->Nat->XRes) (m:DMacro) (l:List Tok):Nat->List Tok × Nat × Int
 | 0=>([],0,3)
 |
  s+1 =>
  match useR m l with
  | none=>([],s,1)
  |
   some (A,en,hs) =>
   if (argsX f A s).2.2=0 then ((repR m A en hs l (argsX f A s).1).1,(argsX f A s).2.1,(repR m A en hs l (argsX f A s).1).2) else ([],(argsX f A s).2)
section
variable {f:List Tok->Nat->XRes} {m:DMacro} {l:List Tok} {s en q:Nat} {A R:Args} {hs:List ByteArray} {c:Int} {x:List Tok}
theorem ZgC (h:useR m l=none):stepX f m l (s+1)=([],s,1):=by unfold stepX;rw [h]
theorem Zgp (h:useR m l=some (A,en,hs)) (ha:argsX f A s=(R,q,c)) (hc:c≠0):stepX f m l (s+1)=([],q,c):=by
 unfold stepX;rw [h];simp only [ha];rw [if_neg hc]
theorem Zcx (h:useR m l=some (A,en,hs)) (ha:argsX f A s=(R,q,0)) (hr:repR m A en hs l R=(x,c)):stepX f m l (s+1)=(x,q,c):=by
 unfold stepX;rw [h];simp only [ha];rw [if_pos trivial,hr]
end
theorem Zn2 {m:DMacro} {l:List Tok} (h:m.function=true) {A:Args} {e:Nat} (hs:splK (l.drop 2) 1 [] [] 2=(A,e,true)) (hn:argN m.params.length A=m.params.length) :
  useR m l=some (A.take m.params.length,e,ins (both (l.headD zTok).hidden (l.getD (e-1) zTok).hidden) m.name):=by
 unfold useR
 rw [if_neg (by simp [h]),hs,if_pos ⟨rfl,hn⟩]
theorem Zlk {m:DMacro} {A:Args} {en:Nat} {hs:List ByteArray} {l:List Tok} {R:Args} {b:List Tok} (h:Zar m A R=(b,true)) :
  repR m A en hs l R=if 60<(putL b hs (l.headD zTok).spaced++l.drop en).length then ([],3) else (putL b hs (l.headD zTok).spaced++l.drop en,0):=by unfold repR;rw [h,if_pos rfl]
theorem Zll {T:List DMacro} {n s:Nat} {out r:List Tok} {t:Tok} {m:DMacro} (h:goM T (t::r)=some m) :
  expG T (n+1) (s+1) out (t::r)=if (stepX (λ a k=>expG T n k [] a) m (t::r) (s+1)).2.2=0 then expG T n (stepX (λ a k=>expG T n k [] a) m (t::r) (s+1)).2.1 out (stepX (λ a k=>expG T n k [] a) m (t::r) (s+1)).1 else ([],(stepX (λ a k=>expG T n k [] a) m (t::r) (s+1)).2):=by
 cases hf:m.function
 ·have hu:=Zlg (m:=m) (l:=t::r) (by simp) hf
  rcases hc:Zar m [] [] with⟨b,ok⟩
  cases ok
  ·rw [Zes h hf hc,Zcx hu (show argsX _ [] s=([],s,0) from rfl) (Zi6 hc),if_neg (by simp)]
  ·have hg:=Zlk (en:=1) (hs:=ins (t::r)[0].hidden m.name) (l:=t::r) hc
   have e1:putL b (ins (t::r)[0].hidden m.name) ((t::r).headD zTok).spaced++(t::r).drop 1=putL b (ins t.hidden m.name) t.spaced++r:=rfl
   rw [e1] at hg
   by_cases hl:60<(putL b (ins t.hidden m.name) t.spaced++r).length
   ·rw [if_pos hl] at hg
    rw [Zer h hf hc hl,Zcx hu (show argsX _ [] s=([],s,0) from rfl) hg,if_neg (by simp)]
   ·rw [if_neg hl] at hg
    rw [Zfb h hf hc hl,Zcx hu (show argsX _ [] s=([],s,0) from rfl) hg,if_pos rfl]
 ·rcases hS:splK ((t::r).drop 2) 1 [] [] 2 with⟨A,e,ok⟩
  cases ok
  ·rw [Zb7 h hf (Zmn hS) (by simp),ZgC (Zmp hf hS),if_neg (by simp)]
  by_cases hn:argN m.params.length A=m.params.length
  rotate_left
  ·rw [Zb7 h hf (Zld hS hn) (by simp),ZgC (Zlh hf hS hn),if_neg (by simp)]
  have hu:=Zn2 hf hS hn
  rcases ha:argsX (λ a k=>expG T n k [] a) (A.take m.params.length) s with⟨R,l,c⟩
  by_cases hc:c=0
  rotate_left
  ·rw [Zb7 h hf (ZjP hS hn ha hc) hc,Zgp hu ha hc,if_neg hc]
  subst hc
  rcases hb:Zar m (A.take m.params.length) R with⟨b,fine⟩
  cases fine
  ·rw [Zb7 h hf (Zil hS hn ha hb) (by simp),Zcx hu ha (Zi6 hb),if_neg (by simp)]
  ·have hg:=Zlk (en:=e) (hs:=ins (both ((t::r).headD zTok).hidden ((t::r).getD (e-1) zTok).hidden) m.name) (l:=t::r) hb
   have hy:=Zle hS hn ha hb
   split at hg
   ·rename_i hl
    rw [ZdT h hf hy hl,Zcx hu ha hg,if_neg (by simp)]
   ·rename_i hl
    rw [Zeq h hf hy hl,Zcx hu ha hg,if_pos rfl]
def EBox (eb:Nat) (vT:Value) (k:Nat) (w:World):Prop:=w.heap[eb]?=some (.cells #[vT,.int .i64 (k:Nat)] 74 (0,0))
theorem EBox.below {eb:Nat} {vT:Value} {k:Nat} {w w':World} (h:EBox eb vT k w) (hb:Below w.heap.size w w'):EBox eb vT k w':=mbox h hb
def MineX (eb:Nat) (vT:Value) (r:XRes) (w:World) (e:Ending) (w':World):Prop:=
 ∃ (v:Value) (L:List (Elem Tok)) (k':Nat),e=.returned (.tuple #[v,.int .i64 r.2.2])/\RowN sTok w.heap.size 57 v L w'/\L.map (·.d)=r.1/\Own w' w.heap.size (L.flatMap (·.fp))/\EBox eb vT k' w'/\(r.2.2=0->k'+r.2.1=100)/\Kept [eb] w w'
def AllOf (eb:Nat) (vT:Value) (r:List (List Tok) × Nat × Int) (w:World) (e:Ending) (w':World):Prop:=
 ∃ (v:Value) (fp:List Nat) (k':Nat),e=.returned (.tuple #[v,.int .i64 r.2.2])/\(Zaa sToks).R w' [v] r.1 fp/\(∀ b∈fp,w.heap.size<=b)/\EBox eb vT k' w'/\(r.2.2=0->k'+r.2.1=100)/\Kept [eb] w w'
def StepOf (eb:Nat) (vT:Value) (fp:List Nat) (r:List Tok × Nat × Int) (w:World) (e:Ending) (w':World):Prop:=
 ∃ (v:Value) (fp':List Nat) (k':Nat),e=.returned (.tuple #[v,.int .i64 r.2.2])/\(Zaa sTok).R w' [v] r.1 fp'/\(∀ b∈fp',b∈fp\/w.heap.size<=b)/\EBox eb vT k' w'/\(r.2.2=0->k'+r.2.1=100)/\Kept [eb] w w'
def Good (N:List ByteArray) (t:Tok):Prop:=Tx t/\HidIn N t
def ExpI (T:List DMacro) (N:List ByteArray) (n:Nat):Prop:=
 ∀ (eb:Nat) (vT:Value) (fpT:List Nat) (v:Value) (l:List Tok) (fp:List Nat) (s k:Nat) (w:World),s<=n->k+s=100->l.length<=60->(∀ t∈l,Good N t)->EBox eb vT k w->(Zaa sMacro).R w [vT] T fpT->eb∉fpT->(Zaa sTok).R w [v] l fp->eb∉fp ->
  Calls Tryz.prog 42 #[.pointer (some ⟨eb,0,none⟩),v] w (MineX eb vT (expG T n s [] l) w)
theorem Kept.after {K:List Nat} {w w1 w2:World} (h:Kept K w w1) (hb:Below w1.heap.size w1 w2):Kept K w w2:=h.trans (Kept.of_below hb)
theorem Zi7 {T:List DMacro} {N:List ByteArray} {n:Nat} (HE:ExpI T N n) (eb:Nat) (vT:Value) (fpT:List Nat) (vA:Value) (A:List (List Tok)) (fA:List Nat) (s k0:Nat) (w:World) (hs:s<=n) (hk:k0+s=100) (hAl:A.length<=60) (hA:∀ a∈A,a.length<=60/\∀ t∈a,Good N t)
  (HB:EBox eb vT k0 w) (HT:(Zaa sMacro).R w [vT] T fpT) (heT:eb∉fpT) (H:(Zaa sToks).R w [vA] A fA) (heA:eb∉fA) :
  Calls Tryz.prog 112 #[.pointer (some ⟨eb,0,none⟩),vA] w (AllOf eb vT (argsX (λ a k=>expG T n k [] a) A s) w):=by
 have H0:=Qh H
 have HT0:=Qh HT
 have HAA:=Qh hA
 have heb:eb<w.heap.size:=mlt HB
 obtain⟨aA,cA,rfl,hcA,hmA,hrow⟩:=Zac H
 unfold maxLen at hmA
 clear H HT hA
 go_enter Tryz.func112,Tryz.ntmps112
 go_wp2
 go_loopw [6,13] (λ vr i wr=>∃ (k s' kk:Nat) (R:List (Elem (List Tok))),k<=A.length/\i=.int .i64 k/\s'<=s/\kk+s'=100/\Hid (AccA (λ a k=>expG T n k [] a) A s k s' (R.map (·.d)))/\Hid (RowN sToks w.heap.size 28 vr R wr)/\Hid (R.length=k)/\Hid (∀ x∈R,∀ b∈x.fp,w.heap.size<=b)/\Hid (EBox eb vT kk wr)/\Hid (Kept [eb] w wr)) (λ _ i _=>A.length-(intOf i).toNat)
 case atStart=>exact⟨0,s,k0,[],by omega,rfl,Nat.le_refl _,hk,AccA.start _ _ _,RowN.nil _ _ _ _,rfl,(λ x hx=>by simp at hx),HB,Kept.refl _ _⟩
 case round =>
  obtain⟨k,s',kk,R,hk2,rfl,hss,hkk,HACC,HRN,HRK,HRF,HBX,HK⟩:=hrel
  obtain⟨ar,cr,hvr,-⟩:=HRN.out.val
  rw [HRK.out] at hvr
  subst hvr
  have hwr:=HK.out.size
  by_cases hlt:k<A.length
  ·obtain⟨ba,oa,-,rfl,-,-,-⟩:=hrow (by omega)
   have HRr:=Qh ((Zaa sToks).kept H0.out (λ b hb=>by simp only [List.mem_singleton];rintro rfl;exact heA hb) HK.out)
   obtain⟨aj,cj,fj,q1,RX,hbl,hfj⟩:=Zb5 HRr.out hlt
   have hga:=HAA.out _ (List.getElem_mem hlt)
   have HEX:=Qh (HE eb vT fpT _ A[k] fj s' kk wr (by omega) hkk hga.1 hga.2 HBX.out ((Zaa sMacro).kept HT0.out (λ b hb=>by simp only [List.mem_singleton];rintro rfl;exact heT hb) HK.out) heT RX (λ h=>heA (hfj _ h)))
   have HXS:=Qh (Zia T n A[k] s' [])
   rcases hx:expG T n s' [] A[k] with⟨x,lf,c⟩
   rw [hx] at HEX HXS
   have HFX:Hid ((λ a k=>expG T n k [] a) A[k] s'=(x,lf,c)):=hx
   unfold MineX at HEX
   try dsimp only at HEX
   have hlf:lf<=s':=HXS.out
   have i0:(0:Int)<=(k:Int):=by omega
   have i1:(k:Int)<(A.length:Int):=by omega
   clear hx hga HRr RX hbl hfj hrow
   go_wp2_with fail
   refine HEX.out.mono ?_
   rintro e w5 ⟨vx,L,k5,rfl,RL,hLd,OL,EB5,hk5,K5⟩
   have HKS:=Qh K5
   have HK5:=Qh (HK.out.trans K5)
   have HEB5:=Qh EB5
   obtain⟨fx,rx,gx,ox⟩:=RL.read
   have hox:=ox OL
   rw [hLd] at rx
   obtain⟨ax,cx,rfl,-⟩:=Zac rx
   clear q1 HEX EB5 K5
   by_cases hc0:c=0
   rotate_left
   ·have HF:=Qh (HACC.out.stop hlt HFX.out hc0)
    have e2:(c != 0)=true:=by simp [hc0]
    have HC0:=Qh hc0
    clear hc0 hk5
    go_wp2
    go_ret2
    exact⟨_,[],k5,by rw [HF.out];rfl,by rw [HF.out];exact Zan _ _ _ _ (by simp),by simp,HEB5.out,λ h=>by rw [HF.out] at h;exact absurd h HC0.out,HK5.out⟩
   subst hc0
   have hk6:k5+lf=100:=hk5 rfl
   have HN:=Qh (HACC.out.step hlt HFX.out)
   have HRN5:=Qh (HRN.out.kept HKS.out (λ g hg=>by simp only [List.mem_singleton];have:=(HRN.out.mine g hg).1;omega) (λ x hx b hb=>by simp only [List.mem_singleton];have:=HRF.out x hx b hb;omega))
   have hw5:=HKS.out.size
   have bl:=Zab w5 (.cells #[.slice ax x.length cx] 28)
   have HL6:=Qh (heap_alloc_new w5 (.cells #[.slice ax x.length cx] 28))
   have HRN6:=Qh (HRN5.out.below bl)
   have RX6:=Qh (sToks.below rx bl)
   have HFXL:Hid (∀ b∈fx,wr.heap.size<=b):=λ b hb=>(hox.2 b hb).1
   have HVX:Hid (∀ b∈fx,(Value.slice ar k cr).ownBlock≠some b):=λ b hb h=>by
    have h1:=(HRN.out.mine b h).2
    have:=HFXL.out b hb;omega
   have HEB6:=Qh (HEB5.out.below bl)
   have HK6:=Qh (HK5.out.after bl)
   clear RL OL gx ox hox rx hLd bl hk5
   go_wp2_with (at_builtin;refine ZaG (X:=[(⟨[.slice ax x.length cx],x,fx⟩:Elem (List Tok))]) Zd3 rfl (by decide) _ rfl (.tmp 26) (.tmp 28) rfl w.heap.size (.slice ar k cr) rfl HRN6.out ⟨w5.heap.size,0,none⟩ 1 1 rfl rfl (λ y hy=>by obtain rfl:=Qm hy;exact⟨rfl,RX6.out,HVX.out⟩) (λ y hy u hu=>by obtain rfl:=Qm hy;rw [Qm hu];rfl) (λ j u hj=>by rw [ZaI,Nat.zero_add,cell_of_row _ _ _ _ _ _ HL6.out];simpa using hj) (by have:=HRK.out;unfold maxLen;omega) (by have:=HRK.out;omega) (by have:=HK6.out.size;omega) ?_;intro v7 w7 hR7 hg7 hp7)
   have HK7:Hid (Kept [eb] w w7):=⟨hg7.os.trans HK6.out.os,hg7.tape.trans HK6.out.tape,hg7.output.trans HK6.out.output,Nat.le_trans HK6.out.size hg7.size,λ b hb hn=>(hg7.block b (by have:=HK6.out.size;omega) (λ e=>by have:=(HRN6.out.mine b e.symm).1;omega)).trans (HK6.out.block b hb hn)⟩
   have HEB7:Hid (EBox eb vT k5 w7):=(hg7.block eb (by have:=HK6.out.size;omega) (λ e=>by have:=(HRN6.out.mine eb e.symm).1;omega)).trans HEB6.out
   have HR7:=Qh hR7
   have HF7:Hid (∀ y∈R++[(⟨[.slice ax x.length cx],x,fx⟩:Elem (List Tok))],∀ b∈y.fp,w.heap.size<=b):=λ y hy b hb=>by
    rcases Qa hy with hy | hy
    ·exact HRF.out y hy b hb
    ·rw [Qm hy] at hb;have:=HFXL.out b hb;omega
   have HN7:Hid (AccA (λ a k=>expG T n k [] a) A s (k+1) lf ((R++[(⟨[.slice ax x.length cx],x,fx⟩:Elem (List Tok))]).map (·.d))):=by show AccA _ _ _ _ _ _;rw [List.map_append];exact HN.out
   have HL7:Hid ((R++[(⟨[.slice ax x.length cx],x,fx⟩:Elem (List Tok))]).length=k+1):=by show _=_;rw [List.length_append,HRK.out];rfl
   clear hR7 hg7 hp7
   go_wp2
   go_roundw
   case rel=>exact⟨k+1,lf,k5,_,by omega,by go_num,by omega,hk6,HN7,HR7,HL7,HF7,HEB7,HK7⟩
   case measure=>simp [intOf];omega
  ·have hke:k=A.length:=by omega
   have HAR:=Qh (HACC.out.done (by omega))
   obtain⟨fr,rr,gr,-⟩:=HRN.out.read
   have HRR:=Qh rr
   have HG:=Qh (λ b hb=>(show w.heap.size<=b from by
    rcases gr b hb with h | ⟨x,hx,h⟩
    ·exact(HRN.out.mine b h).1
    ·exact HRF.out x hx b h))
   clear rr gr hke
   go_wp2
   go_ret2
   exact⟨_,fr,kk,by rw [HAR.out];rfl,by rw [HAR.out];exact HRR.out,HG.out,HBX.out,λ _=>by rw [HAR.out];exact hkk,HK.out⟩
end Go.Proofs.YtiaiggjfepoahaaGreat
