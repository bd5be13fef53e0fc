/- Texts that the proof of EConditionOf stands on, in one file. -/
import Derived.Test.YtipfpppcbmpjiaaGreatZEConditionOf13
set_option linter.unusedVariables false
set_option maxHeartbeats 16000000
set_option maxRecDepth 100000
set_option linter.unusedSimpArgs false
/- ReplaceDefined of the model, as the exact law calls it: under a weight; the marks of what comes out. -/
namespace Go.Proofs.YtipfpppcbmpjiaaGreat
open Go.RowKit
theorem Zf8 (cs:List Value) (x:Tok) (fp:List Nat) (w:World) (H:sTok.R w cs x fp) :
  Calls Tryz.prog 153 #[.agg cs.toArray] w λ e w'=>e=.returned (.int .i64 (opn x))/\Below w.heap.size w w':=by
 obtain⟨h,rfl,hk,hok,K⟩:=H
 obtain⟨a0,cap0,rfl,-⟩:=Zaf K
 have hb:=Zab w (.cells #[.int .i64 x.kind,.string x.text,.bool x.spaced,.slice a0 x.hidden.length cap0] 32)
 clear K
 go_enter Tryz.func153,Tryz.ntmps153
 cases h1:Zcg x
 ·have e1:(x.text.toList==[40])=false:=h1
  cases h2:Zd3 x
  ·have e2:(x.text.toList==[41])=false:=h2
   have HF:=Qh (opn_else h1 h2)
   clear h1 h2
   go_wp2
   go_ret
   exact⟨by rw [HF.out];rfl,hb⟩
  ·have e2:(x.text.toList==[41])=true:=h2
   have HF:=Qh (opn_shut h1 h2)
   clear h1 h2
   go_wp2
   go_ret
   exact⟨by rw [HF.out];rfl,hb⟩
 ·have e1:(x.text.toList==[40])=true:=h1
  have HF:=Qh (Zkf h1)
  clear h1
  go_wp2
  go_ret
  exact⟨by rw [HF.out];rfl,hb⟩
theorem Zjr {l:List Tok} {k:Nat} (hk:k<l.length) (d:Int):clGo (l.drop k) d k=if d+opn l[k]=0 then some k else clGo (l.drop (k+1)) (d+opn l[k]) (k+1):=by
 rw [List.drop_eq_getElem_cons hk];rfl
theorem clGo_end {l:List Tok} {k:Nat} (hk:l.length<=k) (d:Int):clGo (l.drop k) d k=none:=by rw [List.drop_of_length_le hk];rfl
def clRes (o:Option Nat):Int:=match o with | some e=>(e:Int) | none=>-1
theorem ZgC (v:Value) (l:List Tok) (fp:List Nat) (n:Nat) (w:World) (hl:l.length<=60) (hn:n<=l.length) (H:(Zaa sTok).R w [v] l fp) :
  Calls Tryz.prog 136 #[v,.int .i64 n] w λ e w'=>e=.returned (.int .i64 (clRes (clGo (l.drop n) 0 n)))/\Below w.heap.size w w':=by
 obtain⟨a,cap,rfl,hc,hm,hrow⟩:=Zac H
 unfold maxLen at hm
 clear H
 obtain⟨r,HR⟩:∃ r,Hid (r=clGo (l.drop n) 0 n):=⟨_,rfl⟩
 rw [← HR.out]
 go_enter Tryz.func136,Tryz.ntmps136
 go_wp2
 go_loopw [5,6] (λ d i wr=>∃ (k:Nat) (dd:Int),n<=k/\k<=l.length/\i=.int .i64 k/\d=.int .i64 dd/\-(k:Int)<=dd/\dd<=k/\Hid (clGo (l.drop k) dd k=r)/\Below w.heap.size w wr) (λ _ i _=>l.length-(intOf i).toNat)
 case atStart=>exact⟨n,0,Nat.le_refl _,hn,rfl,rfl,by omega,by omega,HR.out.symm,Below.refl _ _⟩
 case round =>
  obtain⟨k,dd,hnk,hk,rfl,rfl,hd1,hd2,HI,hb⟩:=hrel
  by_cases hlt:k<l.length
  ·obtain⟨b1,off1,fps1,rfl,hb1,-,he1⟩:=hrow (by omega)
   obtain⟨es1,hE1,hR1⟩:=he1 k hlt
   clear hrow he1
   have hR2:=sTok.below hR1 hb
   obtain⟨h1',rfl,_,_,_⟩:=hR1
   have HC:=Qh (Zf8 _ _ _ wr hR2)
   clear hR2
   replace hE1:=hE1.frame (hb.block b1 hb1)
   have c10:wr.cell? ⟨b1,off1+k * 4,none⟩=some _:=Zam hE1 (by decide) rfl
   have c11:wr.cell? ⟨b1,off1+k * 4+1,none⟩=some _:=Zae (j:=1) hE1 (by decide) rfl
   have c12:wr.cell? ⟨b1,off1+k * 4+2,none⟩=some _:=Zae (j:=2) hE1 (by decide) rfl
   have c13:wr.cell? ⟨b1,off1+k * 4+3,none⟩=some _:=Zae (j:=3) hE1 (by decide) rfl
   clear hE1
   have hst:=HI.out
   rw [Zjr hlt] at hst
   have ho:=opn_ge l[k]
   have hwr:IntKind.i64.wrap (dd+opn l[k])=dd+opn l[k]:=IntWalk.i64_in _ (by omega)
   generalize hon:opn l[k]=on at *
   go_wp2_with fail
   refine HC.out.mono ?_
   rintro e w2 ⟨rfl,hb2⟩
   clear c10 c11 c12 c13 HC
   have hb':=hb.trans (hb2.mono hb.size)
   by_cases h0:dd+on=0
   ·rw [if_pos h0] at hst
    have e0:((dd+on:Int)==0)=true:=by simpa using h0
    have HF:=Qh hst
    clear hst h0 hon
    go_wp2
    go_ret
    exact⟨by rw [← HF.out];rfl,hb'⟩
   ·rw [if_neg h0] at hst
    have e0:((dd+on:Int)==0)=false:=by simpa using h0
    have HF:=Qh hst
    clear hst h0 hon
    go_wp2
    go_roundw
    case rel=>exact⟨k+1,dd+on,by omega,by omega,by go_num,rfl,by omega,by omega,HF,hb'⟩
    case measure=>simp [intOf];omega
  ·have HF:=Qh ((clGo_end (by omega:l.length<=k) dd).symm.trans HI.out)
   clear HI
   go_wp2
   go_ret
   exact⟨by rw [← HF.out];rfl,hb⟩
def CopyTok (x:Tok) (w:World) (e:Ending) (w':World):Prop:=
 ∃ (ao:Option Addr) (c:Nat) (fp:List Nat),e=.returned (.agg #[.int .i64 x.kind,.string x.text,.bool x.spaced,.slice ao x.hidden.length c])/\sTok.R w' [.int .i64 x.kind,.string x.text,.bool x.spaced,.slice ao x.hidden.length c] x fp /\
  Own w' w.heap.size fp/\(∀ b∈fp,∃ cur t fr,w'.heap[b]?=some (.cells cur t fr)/\t=9)/\Below w.heap.size w w'
theorem Zcv (cs:List Value) (x:Tok) (fp:List Nat) (w:World) (hx:x.hidden.length<=2000000) (H:sTok.R w cs x fp):Calls Tryz.prog 36 #[.agg cs.toArray] w (CopyTok x w):=by
 obtain⟨h,rfl,hk,hok,K⟩:=H
 obtain⟨a0,cap0,rfl,-,-,-,hsz⟩:=Zaf K
 have b0:=Zab w (.cells #[.int .i64 x.kind,.string x.text,.bool x.spaced,.slice a0 x.hidden.length cap0] 32)
 have hb2:=b0.trans ((Zab (w.alloc (.cells #[.int .i64 x.kind,.string x.text,.bool x.spaced,.slice a0 x.hidden.length cap0] 32)) (.cells #[.int .i64 0,.string ⟨#[]⟩,.bool false,.slice none 0 0] 32)).mono b0.size)
 obtain⟨g0,g1⟩:=Zb2 w #[.int .i64 x.kind,.string x.text,.bool x.spaced,.slice a0 x.hidden.length cap0] #[.int .i64 0,.string ⟨#[]⟩,.bool false,.slice none 0 0] 32 32
 have hs2:((w.alloc (.cells #[.int .i64 x.kind,.string x.text,.bool x.spaced,.slice a0 x.hidden.length cap0] 32)).alloc (.cells #[.int .i64 0,.string ⟨#[]⟩,.bool false,.slice none 0 0] 32)).heap.size=w.heap.size+2:=by
  show ((w.heap.push _).push _).size=_
  simp
 have HK:=Qh ((Zaa sStr).below K hb2)
 have HSZ:=Qh hsz
 clear K hsz b0
 obtain⟨hv,HV⟩:∃ hv:Value,Hid (hv=Value.slice a0 x.hidden.length cap0):=⟨_,rfl⟩
 go_enter Tryz.func36,Tryz.ntmps36
 go_upto_region 2 with fail
 generalize ((w.alloc (.cells #[.int .i64 x.kind,.string x.text,.bool x.spaced,.slice a0 x.hidden.length cap0] 32)).alloc (.cells #[.int .i64 0,.string ⟨#[]⟩,.bool false,.slice none 0 0] 32))=W3 at *
 have c03:W3.cell? ⟨w.heap.size,3,none⟩=some hv:=by
  rw [HV.out]
  exact Qc 3 g0
 have HKV:Hid ((Zaa sStr).R W3 [hv] x.hidden fp):=by show (Zaa sStr).R _ _ _ _;rw [HV.out];exact HK.out
 have HG:=Qh (And.intro g0 (And.intro g1 hs2))
 have hb4:=Qh hb2
 clear g0 g1 hs2 HK hb2
 go_wp2_with (
  at_builtin
  refine Zbs rfl (.tmp 4) (.tmp 6) rfl W3.heap.size (.slice none 0 0) hv [] x.hidden _ rfl (World.ownsRow_nil _ _ _ _) rfl HKV.out (by simp;omega) (Nat.le_refl _) ?_
  intro v5 w1 hown hgrow
  rw [List.nil_append] at hown
  obtain⟨fp1,R1,O1,hfp⟩:=Zb0 (ok:=okStr) hown HSZ.out
  have hs3:=HG.out.2.2
  have hblk:∀ k,k<W3.heap.size->w1.heap[k]?=W3.heap[k]?:=λ k hk=>hgrow.block k hk (by simp [Value.ownBlock])
  have HG1:Hid (w1.heap[w.heap.size]?=some (.cells #[.int .i64 x.kind,.string x.text,.bool x.spaced,.slice a0 x.hidden.length cap0] 32 (0,0))/\w1.heap[w.heap.size+1]?=some (.cells #[.int .i64 0,.string ⟨#[]⟩,.bool false,.slice none 0 0] 32 (0,0))):=
   ⟨(hblk _ (by omega)).trans HG.out.1,(hblk _ (by omega)).trans HG.out.2.1⟩
  have hb:Below w.heap.size w w1:=hb4.out.grown hgrow (by omega) (λ b hb=>by simp [Value.ownBlock] at hb)
  have hty:∀ b∈fp1,∃ cur t fr,w1.heap[b]?=some (.cells cur t fr)/\t=9:=λ b hb'=>by
   have hv:=hfp b hb'
   rcases hown.2 with⟨rfl,_⟩ | ⟨g,cap,cur,rfl,_,hg,_⟩
   ·simp [Value.ownBlock] at hv
   ·simp only [Value.ownBlock,Qi] at hv
    subst hv
    exact⟨_,_,_,hg,rfl⟩
  have hlo:∀ b∈fp1,w.heap.size+2<=b:=λ b hb=>by have:=(O1.2 b hb).1;omega
  have HOW:Hid (Own w1 w.heap.size fp1):=O1.lower (by omega)
  clear HG hblk hgrow hown hfp O1 c03 hb4 HKV hs3
  obtain⟨a1,cap1,rfl,hq⟩:=Zac R1
  clear hq
  have c10:=Qc 0 HG1.out.2
  have c11:=Qc 1 HG1.out.2
  have c12:=Qc 2 HG1.out.2
  have c13:=Qc 3 HG1.out.2
  have c20:=Qc 0 HG1.out.1
  have c21:=Qc 1 HG1.out.1
  have c22:=Qc 2 HG1.out.1
  have c23:=Qc 3 HG1.out.1
  have f10:=Qf 0 HG1.out.2
  have f11:=Qf 1 HG1.out.2
  have f12:=Qf 2 HG1.out.2
  have f13:=Qf 3 HG1.out.2
  have f23:=Qf 3 HG1.out.1
  have hn1:w.heap.size+1∉fp1:=λ hx=>by have:=hlo _ hx;omega
  have hn2:w.heap.size∉fp1:=λ hx=>by have:=hlo _ hx;omega
  have HR:=Qh ((Zaa sStr).setB ((Zaa sStr).setB ((Zaa sStr).setB ((Zaa sStr).setB ((Zaa sStr).setB R1 hn2 3 (.slice a1 x.hidden.length cap1)) hn1 0 (.int .i64 x.kind)) hn1 1 (.string x.text)) hn1 2 (.bool x.spaced)) hn1 3 (.slice a1 x.hidden.length cap1))
  have HOF:=Qh (((((HOW.out.setCell ⟨w.heap.size,3,none⟩ (.slice a1 x.hidden.length cap1)).setCell ⟨w.heap.size+1,0,none⟩ (.int .i64 x.kind)).setCell ⟨w.heap.size+1,1,none⟩ (.string x.text)).setCell ⟨w.heap.size+1,2,none⟩ (.bool x.spaced)).setCell ⟨w.heap.size+1,3,none⟩ (.slice a1 x.hidden.length cap1))
  have HT:Hid (∀ b∈fp1,∃ cur t fr,(((((w1.setCell ⟨w.heap.size,3,none⟩ (.slice a1 x.hidden.length cap1)).setCell ⟨w.heap.size+1,0,none⟩ (.int .i64 x.kind)).setCell ⟨w.heap.size+1,1,none⟩ (.string x.text)).setCell ⟨w.heap.size+1,2,none⟩ (.bool x.spaced)).setCell ⟨w.heap.size+1,3,none⟩ (.slice a1 x.hidden.length cap1)).heap[b]?=some (.cells cur t fr)/\t=9):=λ b hb=>by
   obtain⟨cur,t,fr,q1,q2⟩:=hty b hb
   have e1:b≠w.heap.size+1:=λ e=>hn1 (e ▸ hb)
   have e2:b≠w.heap.size:=λ e=>hn2 (e ▸ hb)
   exact⟨cur,t,fr,Zaz (Zaz (Zaz (Zaz (Zaz q1 e2 _ _) e1 _ _) e1 _ _) e1 _ _) e1 _ _,q2⟩
  have HB:=Qh (((((hb.setCell (p:=⟨w.heap.size,3,none⟩) (by simp) (.slice a1 x.hidden.length cap1)).setCell (p:=⟨w.heap.size+1,0,none⟩) (by simp) (.int .i64 x.kind)).setCell (p:=⟨w.heap.size+1,1,none⟩) (by simp) (.string x.text)).setCell (p:=⟨w.heap.size+1,2,none⟩) (by simp) (.bool x.spaced)).setCell (p:=⟨w.heap.size+1,3,none⟩) (by simp) (.slice a1 x.hidden.length cap1))
  have HS:=Qh (Zai (Zai (Zai (Zai (Zaz HG1.out.2 (by omega:w.heap.size+1≠w.heap.size) 3 (.slice a1 x.hidden.length cap1)) 0 (.int .i64 x.kind)) 1 (.string x.text)) 2 (.bool x.spaced)) 3 (.slice a1 x.hidden.length cap1))
  clear HG1 hty hlo HOW)
 refine bodyPost_ret (results_cell_row rfl _ _ (w.heap.size+1) _ _ _ _ rfl HS.out Tryz.underlying32 rfl (by kernel_rfl)) rfl ?_
 exact⟨a1,cap1,fp1,rfl,⟨_,rfl,hk,hok,HR.out⟩,HOF.out,HT.out,HB.out⟩
theorem con_toL {x:ByteArray} {l:List UInt8} (h:x.toList=l):x=⟨l.toArray⟩:=by
 rw [ByteArray.toList_eq] at h
 subst h
 simp
theorem Zkx {t:Tok} (h:tokOk t=true) {c:UInt8} {l:List UInt8} (e:t.text.toList=c::l):t.kind=cutKind c:=by
 have e2:=con_toL e
 obtain⟨h0,hk⟩:=(ZaP h).1
 obtain⟨k,x,s,hd⟩:=t
 obtain rfl:x=⟨(c::l).toArray⟩:=e2
 exact hk
theorem con_mk {t:Tok} (h:tokOk t=true) {c:UInt8} (hc:cutKind c=4):isMk t [c]=(t.text.toList==[c]):=by
 unfold isMk
 cases e:(t.text.toList==[c])
 ·rw [Bool.and_false]
 ·rw [Zkx h (beq_iff_eq.1 e),hc];rfl
theorem con_dfn {t:Tok} (h:tokOk t=true):isDfn t=(t.text.toList==[100,101,102,105,110,101,100]):=by
 unfold isDfn
 cases e:(t.text.toList==[100,101,102,105,110,101,100])
 ·rw [Bool.and_false]
 ·rw [Zkx h (beq_iff_eq.1 e),show cutKind 100=1 from by decide];rfl
theorem con_has {T:List DMacro} (hT:tabOk T=true) (nm:ByteArray):hasT T nm=isIn T nm:=by
 unfold hasT
 rw [Zfa hT]
 cases isIn T nm
 ·simp
 ·simp
def askR (W:List Tok):ByteArray × Nat:=
 if nmAt W 1=true then (txAt W 1,2)
 else if mkAt W 1 [40]=true/\nmAt W 2=true/\mkAt W 3 [41]=true then (txAt W 2,4)
 else (⟨#[]⟩,0)
theorem ZlU {W:List Tok} (h:nmAt W 1=true):askR W=(txAt W 1,2):=by unfold askR;rw [if_pos h]
theorem ask_in {W:List Tok} (h:nmAt W 1=false) (h1:mkAt W 1 [40]=true) (h2:nmAt W 2=true) (h3:mkAt W 3 [41]=true):askR W=(txAt W 2,4):=by unfold askR;rw [if_neg (by rw [h];simp),if_pos ⟨h1,h2,h3⟩]
theorem Zd8 {W:List Tok} (h:nmAt W 1=false) (h1:¬ (mkAt W 1 [40]=true/\nmAt W 2=true/\mkAt W 3 [41]=true)):askR W=(⟨#[]⟩,0):=by unfold askR;rw [if_neg (by rw [h];simp),if_neg h1]
theorem Zdz {l:List Tok} {k j:Nat} {s:List UInt8}:mkAt (l.drop k) j s=mkAt l (k+j) s:=by
 unfold mkAt
 by_cases h:k+j<l.length
 ·rw [dif_pos h,dif_pos (by rw [List.length_drop];omega),List.getElem_drop]
 ·rw [dif_neg h,dif_neg (by rw [List.length_drop];omega)]
theorem ZcL {l:List Tok} {k j:Nat}:nmAt (l.drop k) j=nmAt l (k+j):=by
 unfold nmAt
 by_cases h:k+j<l.length
 ·rw [dif_pos h,dif_pos (by rw [List.length_drop];omega)];simp only [List.getElem_drop]
 ·rw [dif_neg h,dif_neg (by rw [List.length_drop];omega)]
theorem Zjs {l:List Tok} {k j:Nat}:txAt (l.drop k) j=txAt l (k+j):=by
 unfold txAt
 by_cases h:k+j<l.length
 ·rw [dif_pos h,dif_pos (by rw [List.length_drop];omega),List.getElem_drop]
 ·rw [dif_neg h,dif_neg (by rw [List.length_drop];omega)]
theorem nm_mk {l:List Tok} {k:Nat} {s:List UInt8} (h:nmAt l k=true):mkAt l k s=false:=by
 unfold nmAt at h
 split at h
 ·rename_i hk
  rw [ZeP hk]
  have:=of_decide_eq_true h
  unfold isMk
  rw [this];rfl
 ·cases h
theorem nm_lt {l:List Tok} {k:Nat} (h:nmAt l k=true):k<l.length:=by
 unfold nmAt at h
 split at h
 ·assumption
 ·cases h
theorem mk_lt {l:List Tok} {k:Nat} {s:List UInt8} (h:mkAt l k s=true):k<l.length:=by
 unfold mkAt at h
 split at h
 ·assumption
 ·cases h
theorem ask_len (W:List Tok):(askR W).2=0\/(2<=(askR W).2/\(askR W).2<=W.length):=by
 unfold askR
 split
 ·rename_i h;have:=nm_lt h;exact .inr ⟨Nat.le_refl _,this⟩
 ·split
  ·rename_i h;have:=mk_lt h.2.2;exact .inr ⟨by show 2<=4;omega,this⟩
  ·exact .inl rfl
theorem rep_ask {T:List DMacro} {l acc:List Tok} {k:Nat} (h:k<l.length) (hd:isDfn l[k]=true) :
  repG T l k acc=if (askR (l.drop k)).2=0 then ([],false) else repG T l (k+(askR (l.drop k)).2) (acc++[numTk (hasT T (askR (l.drop k)).1) l[k].spaced]):=by
 cases h1:nmAt l (k+1)
 ·cases h2:mkAt l (k+1) [40]
  ·rw [Zd8 (by rw [ZcL];exact h1) (by rw [Zdz,h2];simp),if_pos rfl,Zhf h hd h2 h1]
  ·by_cases h3:mkAt l (k+3) [41]=true/\nmAt l (k+2)=true
   ·rw [ask_in (by rw [ZcL];exact h1) (by rw [Zdz];exact h2) (by rw [ZcL];exact h3.2) (by rw [Zdz];exact h3.1),if_neg (by simp),Zka h hd h2 h3.1 h3.2,Zjs]
   ·rw [Zd8 (by rw [ZcL];exact h1) (by rw [ZcL,Zdz,Zdz];exact λ h=>h3 ⟨h.2.2,h.2.1⟩),if_pos rfl,Zfb h hd h2 h3]
 ·rw [ZlU (by rw [ZcL];exact h1),if_neg (by simp),Zf0 h hd (nm_mk h1) h1,Zjs]
def ZiC (r:List Tok × Bool) (w:World) (e:Ending) (w':World):Prop:=
 ∃ (v:Value) (fp:List Nat),e=.returned (.tuple #[v,.bool r.2])/\(Zaa sTok).R w' [v] r.1 fp/\Own w' w.heap.size fp/\Below w.heap.size w w'
theorem Zfo {r:List Tok × Bool} {w W:World} (h:r=([],false)) (hb:Below w.heap.size w W):ZiC r w (.returned (.tuple #[.slice none 0 0,.bool false])) W:=
 ⟨_,[],by rw [h],by rw [h];exact Zay _ _ _ _ (by simp),Own.nil _ _,hb⟩
theorem Zdg {W:List Tok} {x:ByteArray} {n:Nat} {w:World} (h:askR W=(x,n)):(Ending.returned (.tuple #[.string x,.int .i64 (n:Nat)])=.returned (.tuple #[.string (askR W).1,.int .i64 ((askR W).2:Nat)]))/\w=w:=⟨by rw [h],rfl⟩
theorem ZiD (v:Value) (W:List Tok) (fp:List Nat) (w:World) (h0:0<W.length) (hl:W.length<=1000000) (hok:∀ t∈W,tokOk t=true) (H:(Zaa sTok).R w [v] W fp) :
  Calls Tryz.prog 37 #[v] w λ e w'=>e=.returned (.tuple #[.string (askR W).1,.int .i64 ((askR W).2:Nat)])/\w'=w:=by
 have H0:=Qh H
 obtain⟨a,cap,rfl,hc,hm,hrow⟩:=Zac H
 unfold maxLen at hm
 obtain⟨b,o,-,rfl,-,-,-⟩:=hrow h0
 have HA:=Qh (λ j (hj:j<W.length)=>ZaB H hj)
 have HOK:=Qh (λ j (hj:j<W.length)=>hok W[j] (List.getElem_mem hj))
 clear H hrow hok
 go_enter Tryz.func37,Tryz.ntmps37
 by_cases h1:1<W.length
 rotate_left
 ·have HF:Hid (askR W=(⟨#[]⟩,0)):=Zd8 (ZlI (by omega)) (λ h=>by rw [ZeO (by omega)] at h;exact absurd h.1 (by simp))
  have i1:¬ (1:Int)<(W.length:Int):=by omega
  have i3:¬ (3:Int)<(W.length:Int):=by omega
  go_wp2
  go_ret2
  exact Zdg HF.out
 have i1:(1:Int)<(W.length:Int):=by omega
 obtain⟨-,-,-,p0,p1,-,-,-,-,-⟩:=HA.out 1 h1
 simp only [Nat.one_mul] at p0 p1
 obtain⟨x1,HX1⟩:∃ x:Tok,Hid (x=W[1]):=⟨_,Qh rfl⟩
 rw [show W[1]=x1 from HX1.out.symm] at p0 p1
 have HN1:Hid (nmAt W 1=decide (x1.kind=1)):=by show _=_;rw [ZdL h1,← HX1.out]
 have HM1:Hid (mkAt W 1 [40]=(x1.text.toList==[40])):=by show _=_;rw [ZeP h1,← HX1.out];exact con_mk (by rw [HX1.out];exact HOK.out 1 h1) (by decide)
 by_cases hk:x1.kind=1
 ·have HF:Hid (askR W=(x1.text,2)):=by show _=_;rw [ZlU (by rw [HN1.out];exact decide_eq_true hk),Zgt h1,← HX1.out]
  have e1:(x1.kind==1)=true:=by simp [hk]
  clear hk
  go_wp2
  go_ret2
  exact Zdg HF.out
 have HN:Hid (nmAt W 1=false):=by show _=_;rw [HN1.out];exact decide_eq_false hk
 have e1:(x1.kind==1)=false:=by simp [hk]
 clear hk HN1
 by_cases h3:3<W.length
 rotate_left
 ·have HF:Hid (askR W=(⟨#[]⟩,0)):=Zd8 HN.out (λ h=>by rw [ZeO (k:=3) (by omega)] at h;exact absurd h.2.2 (by simp))
  have i3:¬ (3:Int)<(W.length:Int):=by omega
  go_wp2
  go_ret2
  exact Zdg HF.out
 have i3:(3:Int)<(W.length:Int):=by omega
 have i2:(2:Int)<(W.length:Int):=by omega
 have h2:2<W.length:=by omega
 obtain⟨-,-,-,q0,q1,-,-,-,-,-⟩:=HA.out 2 h2
 obtain⟨-,-,-,r0,r1,-,-,-,-,-⟩:=HA.out 3 h3
 simp only [show 2 * 4=8 from rfl,show 3 * 4=12 from rfl] at q0 q1 r0 r1
 obtain⟨x2,HX2⟩:∃ x:Tok,Hid (x=W[2]):=⟨_,Qh rfl⟩
 obtain⟨x3,HX3⟩:∃ x:Tok,Hid (x=W[3]):=⟨_,Qh rfl⟩
 rw [show W[2]=x2 from HX2.out.symm] at q0 q1
 rw [show W[3]=x3 from HX3.out.symm] at r0 r1
 have HN2:Hid (nmAt W 2=decide (x2.kind=1)):=by show _=_;rw [ZdL h2,← HX2.out]
 have HM3:Hid (mkAt W 3 [41]=(x3.text.toList==[41])):=by show _=_;rw [ZeP h3,← HX3.out];exact con_mk (by rw [HX3.out];exact HOK.out 3 h3) (by decide)
 cases hm1:(x1.text.toList==[40])
 ·have HF:Hid (askR W=(⟨#[]⟩,0)):=Zd8 HN.out (λ h=>by rw [HM1.out,hm1] at h;exact absurd h.1 (by simp))
  go_wp2
  go_ret2
  exact Zdg HF.out
 by_cases hk2:x2.kind=1
 rotate_left
 ·have HF:Hid (askR W=(⟨#[]⟩,0)):=Zd8 HN.out (λ h=>by rw [HN2.out,decide_eq_false hk2] at h;exact absurd h.2.1 (by simp))
  have e2:(x2.kind==1)=false:=by simp [hk2]
  clear hk2
  go_wp2
  go_ret2
  exact Zdg HF.out
 have e2:(x2.kind==1)=true:=by simp [hk2]
 have HK2:=Qh hk2
 clear hk2
 cases hm3:(x3.text.toList==[41])
 ·have HF:Hid (askR W=(⟨#[]⟩,0)):=Zd8 HN.out (λ h=>by rw [HM3.out,hm3] at h;exact absurd h.2.2 (by simp))
  go_wp2
  go_ret2
  exact Zdg HF.out
 have HF:Hid (askR W=(x2.text,4)):=by show _=_;rw [ask_in HN.out (by rw [HM1.out];exact hm1) (by rw [HN2.out];exact decide_eq_true HK2.out) (by rw [HM3.out];exact hm3),Zgt h2,← HX2.out]
 go_wp2
 go_ret2
 exact Zdg HF.out
def AnsOf (b sp:Bool) (w:World) (e:Ending) (w':World):Prop:=e=.returned (.agg #[.int .i64 2,.string (if b=true then ⟨#[49]⟩ else ⟨#[48]⟩),.bool sp,.slice none 0 0])/\Below w.heap.size w w'
theorem Zlk (vT:Value) (T:List DMacro) (fpT:List Nat) (nm:ByteArray) (sp:Bool) (w:World) (hT:tabOk T=true) (HT:(Zaa sMacro).R w [vT] T fpT) :
  Calls Tryz.prog 38 #[vT,.string nm,.bool sp] w (AnsOf (isIn T nm) sp w):=by
 have b0:=Zab w (.cells #[.int .i64 0,.string ⟨#[]⟩,.bool false,.slice none 0 0] 32)
 have HX:=Qh (heap_alloc_new w (.cells #[.int .i64 0,.string ⟨#[]⟩,.bool false,.slice none 0 0] 32))
 have HPL:=Qh (Zf1 vT T nm fpT _ hT ((Zaa sMacro).below HT b0))
 obtain⟨lo,HLO⟩:∃ lo:Nat,Hid (lo=lowAt T nm):=⟨_,Qh rfl⟩
 rw [show lowAt T nm=lo from HLO.out.symm] at HPL
 clear HT hT
 go_enter Tryz.func38,Tryz.ntmps38
 go_upto_region 1 with fail
 generalize (w.alloc (.cells #[.int .i64 0,.string ⟨#[]⟩,.bool false,.slice none 0 0] 32))=W1 at *
 cases hin:isIn T nm
 ·rw [hin] at HPL
  have HIN:=Qh hin
  clear hin
  go_wp2_with fail
  refine HPL.out.mono ?_
  rintro e w3 ⟨rfl,hb3⟩
  have HX3:=Qh (mbox HX.out hb3)
  have hB3:=b0.trans (hb3.mono b0.size)
  clear HPL
  obtain⟨z0,z1,z2,z3⟩:=Q4 HX3.out
  have zf0:=Qf 0 HX3.out
  have zf1:=Qf 1 HX3.out
  have zf2:=Qf 2 HX3.out
  have zf3:=Qf 3 HX3.out
  have HS:=Qh (ZaH HX3.out (.int .i64 2) (.string ⟨#[48]⟩) (.bool sp) (.slice none 0 0))
  have HB:=Qh (Zav (g:=w.heap.size) hB3 (Nat.le_refl _) (.int .i64 2) (.string ⟨#[48]⟩) (.bool sp) (.slice none 0 0))
  unfold set4 at HS HB
  go_wp2
  refine bodyPost_ret (results_cell_row rfl _ _ (w.heap.size) _ _ _ _ rfl HS.out Tryz.underlying32 rfl (by kernel_rfl)) rfl ?_
  exact⟨by rw [HIN.out];rfl,HB.out⟩
 ·rw [hin] at HPL
  have HIN:=Qh hin
  clear hin
  go_wp2_with fail
  refine HPL.out.mono ?_
  rintro e w3 ⟨rfl,hb3⟩
  have HX3:=Qh (mbox HX.out hb3)
  have hB3:=b0.trans (hb3.mono b0.size)
  clear HPL
  obtain⟨z0,z1,z2,z3⟩:=Q4 HX3.out
  have zf0:=Qf 0 HX3.out
  have zf1:=Qf 1 HX3.out
  have zf2:=Qf 2 HX3.out
  have zf3:=Qf 3 HX3.out
  have HS:=Qh (ZaH HX3.out (.int .i64 2) (.string ⟨#[49]⟩) (.bool sp) (.slice none 0 0))
  have HB:=Qh (Zav (g:=w.heap.size) hB3 (Nat.le_refl _) (.int .i64 2) (.string ⟨#[49]⟩) (.bool sp) (.slice none 0 0))
  unfold set4 at HS HB
  go_wp2
  refine bodyPost_ret (results_cell_row rfl _ _ (w.heap.size) _ _ _ _ rfl HS.out Tryz.underlying32 rfl (by kernel_rfl)) rfl ?_
  exact⟨by rw [HIN.out];rfl,HB.out⟩
def lenC:Value->Nat
 | .slice _ n _=>n
 | _=>0
theorem ZfI (vT:Value) (T:List DMacro) (fpT:List Nat) (v:Value) (l:List Tok) (fp:List Nat) (w:World) (HT:(Zaa sMacro).R w [vT] T fpT) (H:(Zaa sTok).R w [v] l fp) :
  Calls Tryz.prog 16 #[vT,v] w (ZiC (ZaN T l) w):=by
 have HVT:=Qh (Zek vT T fpT w HT)
 have HVL:=Qh (λ (U:World) (hU:Below w.heap.size w U)=>Zbg v l fp U ((Zaa sTok).below H hU))
 have HT0:=Qh HT
 have HL0:=Qh H
 have HLL:=Qh ((Zaa sTok).lt H)
 obtain⟨aT,cT,rfl,-⟩:=Zac HT
 obtain⟨al,cl,rfl,-⟩:=Zac H
 clear HT H
 go_enter Tryz.func16,Tryz.ntmps16
 cases ht:tabOk T
 ·have HF:=Qh (ZdH (T:=T) (l:=l) (λ h=>by rw [ht] at h;exact absurd h.1 (by simp)))
  rw [ht] at HVT
  clear ht HVL
  go_wp2_with fail
  refine HVT.out.mono ?_
  rintro e w3 ⟨rfl,hb3⟩
  go_wp2
  go_ret2
  exact Zfo HF.out hb3
 cases hv:Zaj l
 ·have HF:=Qh (ZdH (T:=T) (l:=l) (λ h=>by rw [hv] at h;exact absurd h.2 (by simp)))
  rw [ht] at HVT
  rw [hv] at HVL
  clear ht hv
  go_wp2_with fail
  refine HVT.out.mono ?_
  rintro e w3 ⟨rfl,hb3⟩
  go_wp2_with fail
  refine (HVL.out w3 hb3).mono ?_
  rintro e w4 ⟨rfl,hb4⟩
  go_wp2
  go_ret2
  exact Zfo HF.out (hb3.trans (hb4.mono hb3.size))
 have hl60:=(Zan hv).1
 have HOK:Hid (∀ t∈l,tokOk t=true):=λ t ht=>by obtain⟨k,hk,rfl⟩:=List.getElem_of_mem ht;exact(Zan hv).2 k hk
 have HTAB:=Qh ht
 obtain⟨r,HR⟩:∃ r,Hid (r=repG T l 0 []):=⟨_,Qh rfl⟩
 have HF:Hid (ZaN T l=r):=by show _=_;unfold ZaN;rw [if_pos ⟨ht,hv⟩];exact HR.out.symm
 rw [ht] at HVT
 rw [hv] at HVL
 clear ht hv
 go_wp2_with fail
 refine HVT.out.mono ?_
 rintro e w3 ⟨rfl,hb3⟩
 go_wp2_with fail
 refine (HVL.out w3 hb3).mono ?_
 rintro e w4 ⟨rfl,hb4⟩
 have hb04:=hb3.trans (hb4.mono hb3.size)
 have HL4:=Qh ((Zaa sTok).below HL0.out hb04)
 clear hb3 hb4 HVT HVL
 go_wp2
 go_loopw [6,7] (λ vo vw wr=>∃ (k:Nat) (L:List (Elem Tok)) (fpw:List Nat),k<=l.length/\L.length<=k/\Hid ((Zaa sTok).R wr [vw] (l.drop k) fpw)/\Hid (∀ b∈fpw,b<w.heap.size)/\Hid (RowN sTok w.heap.size 32 vo L wr)/\Hid (Own wr w.heap.size (L.flatMap (·.fp)))/\Hid (repG T l k (L.map (·.d))=r)/\Below w.heap.size w wr) (λ _ vw _=>lenC vw)
 case atStart=>exact⟨0,[],fp,by omega,by simp,HL4.out,HLL.out,RowN.nil _ _ _ _,Own.nil _ _,Qh HR.out.symm,hb04⟩
 case round =>
  clear HL4 HR hb04
  obtain⟨k,L,fpw,hk,hLk,HW,HWL,HG,HO,HI,hb⟩:=hrel
  obtain⟨ao,co,hvo,-⟩:=HG.out.val
  subst hvo
  obtain⟨aw,cw,hvw,hcw,hmw,hroww⟩:=Zac HW.out
  subst hvw
  unfold maxLen at hmw
  have HROW:Hid (0<(l.drop k).length->∃ bb ob,aw=some ⟨bb,ob,none⟩):=λ h=>by obtain⟨b,o,-,e,-⟩:=hroww h;exact⟨b,o,e⟩
  clear hroww
  obtain⟨NW,HNW⟩:∃ NW:Nat,Hid (NW=(l.drop k).length):=⟨_,Qh rfl⟩
  rw [show (l.drop k).length=NW from HNW.out.symm] at HW hcw ⊢
  have HNW2:Hid (NW=l.length-k):=by show _=_;rw [HNW.out,List.length_drop]
  obtain⟨NL,HNL⟩:∃ NL:Nat,Hid (NL=L.length):=⟨L.length,Qh rfl⟩
  rw [show L.length=NL from HNL.out.symm] at HG hLk ⊢
  by_cases hlt:k<l.length
  rotate_left
  ·have HE:Hid (ZaN T l=(L.map (·.d),true)):=by show _=_;rw [HF.out,← HI.out,Zgs (by omega)]
   obtain⟨fx,rx,-,ox⟩:=HG.out.read
   have HRX:=Qh rx
   have HOX:=Qh (ox HO.out)
   have i0:¬ (0:Int)<(NW:Int):=by have:=HNW2.out;omega
   clear HI HF rx ox
   go_wp2
   go_ret2
   exact⟨_,fx,by rw [HE.out];rfl,by rw [HE.out];exact HRX.out,HOX.out,hb⟩
  obtain⟨bw,ow,rfl⟩:=HROW.out (by rw [List.length_drop];omega)
  have i0:(0:Int)<(NW:Int):=by have:=HNW2.out;omega
  have hd0:0<(l.drop k).length:=by rw [List.length_drop];omega
  obtain⟨xa,xc,xf,x0,x1,x2,x3,xR,hbb,hxf⟩:=ZaB HW.out hd0
  obtain⟨tk,HTK⟩:∃ tk:Tok,Hid (tk=l[k]):=⟨_,Qh rfl⟩
  have e0:(l.drop k)[0]=tk:=by rw [HTK.out];simp
  rw [e0] at x0 x1 x2 x3 xR
  simp only [Nat.zero_mul,Nat.add_zero] at x0 x1 x2 x3
  have bx:=Zab wr (.cells #[.int .i64 tk.kind,.string tk.text,.bool tk.spaced,.slice xa tk.hidden.length xc] 32)
  have HX:=Qh (heap_alloc_new wr (.cells #[.int .i64 tk.kind,.string tk.text,.bool tk.spaced,.slice xa tk.hidden.length xc] 32))
  have HXR:=Qh (sTok.below xR bx)
  have HGX:=Qh (HG.out.below bx)
  have HOX:=Qh (HO.out.grow bx)
  have HWX:=Qh ((Zaa sTok).below HW.out bx)
  have hbX:=hb.trans (bx.mono hb.size)
  have hwr:=hb.size
  have HMI:=Qh HG.out.mine
  have HTO:Hid (tokOk tk=true):=by show _=_;rw [HTK.out];exact HOK.out _ (List.getElem_mem hlt)
  have HDF:Hid (isDfn l[k]=(tk.text.toList==[100,101,102,105,110,101,100])):=by show _=_;rw [← HTK.out];exact con_dfn HTO.out
  have HHL:tk.hidden.length<=2000000:=by have:=(Zch (Zby HTO.out)).1;omega
  have HLTO:=Qh (λ b hb=>HO.out.lt b hb)
  clear xR hxf hbb e0 HG HO HW hd0
  go_upto_region 7 with fail
  clear x0 x1 x2 x3
  generalize (wr.alloc (.cells #[.int .i64 tk.kind,.string tk.text,.bool tk.spaced,.slice xa tk.hidden.length xc] 32))=W1 at *
  have hW1:=bx.size
  obtain⟨p0,p1,p2,p3⟩:=Q4 HX.out
  cases hd:(tk.text.toList==[100,101,102,105,110,101,100])
  ·have HE:Hid (repG T l (k+1) (L.map (·.d)++[tk])=r):=by show _=_;rw [HTK.out,← Zj9 hlt (by rw [HDF.out];exact hd)];exact HI.out
   have HC:=Qh (Zcv _ tk _ W1 HHL HXR.out)
   clear HDF HI HTK HTO
   go_wp2_with fail
   refine HC.out.mono ?_
   rintro e w3 ⟨a3,c3,f3,rfl,R3,O3,-,hb3⟩
   clear p0 p1 p2 p3 HC
   have hb23:=bx.trans (hb3.mono bx.size)
   have hW3:=hb23.size
   have hb13:=hb.trans (hb23.mono hb.size)
   have bl:=Zab w3 (.cells #[.int .i64 tk.kind,.string tk.text,.bool tk.spaced,.slice a3 tk.hidden.length c3] 32)
   have HL4:=Qh (heap_alloc_new w3 (.cells #[.int .i64 tk.kind,.string tk.text,.bool tk.spaced,.slice a3 tk.hidden.length c3] 32))
   have HR4:=Qh ((HGX.out.below hb3).below bl)
   have HO4:=Qh ((HOX.out.grow hb3).grow bl)
   have HW4:=Qh ((Zaa sTok).below ((Zaa sTok).below HWX.out hb3) bl)
   have RX:=Qh (sTok.below R3 bl)
   have OX:=Qh (O3.grow bl)
   have hb14:=hb13.trans (bl.mono hb13.size)
   have HXN:Hid (∀ b∈f3,(Value.slice ao NL co).ownBlock≠some b):=λ b hb h=>by
    have h1:=(HMI.out b h).2
    have h2:=(O3.2 b hb).1
    omega
   clear R3 O3 HGX HOX HWX HXR HX bx hb3 hb23 hbX
   clear hd
   go_upto_region 9 with(at_builtin;refine ZaE (X:=[(⟨[.int .i64 tk.kind,.string tk.text,.bool tk.spaced,.slice a3 tk.hidden.length c3],tk,f3⟩:Elem Tok)]) ZaG rfl (by decide) _ rfl (.tmp 29) (.tmp 32) rfl w.heap.size (.slice ao NL co) rfl HR4.out ⟨w3.heap.size,0,none⟩ 1 1 rfl rfl (λ x hx=>by obtain rfl:=Qm hx;exact⟨rfl,RX.out,HXN.out⟩) (λ x hx=>by obtain rfl:=Qm hx;exact ZaF _ _ _ _ RX.out) (λ j u hj=>by rw [ZaI,Nat.zero_add,cell_of_row _ _ _ _ _ _ HL4.out];simpa using hj) (by have:=HNL.out;unfold maxLen;omega) (by have:=HNL.out;omega) hb14.size ?_;intro v5 w5 hR5 hg5 hp5)
   have hb5:Below w.heap.size w w5:=hb14.grown hg5 hb14.size (λ b hb=>(HMI.out b hb).1)
   have HO5:Hid (Own w5 w.heap.size ((L++[(⟨[.int .i64 tk.kind,.string tk.text,.bool tk.spaced,.slice a3 tk.hidden.length c3],tk,f3⟩:Elem Tok)]).flatMap (·.fp))):=by
    show Own _ _ _
    rw [Zdx]
    have e1:([(⟨[.int .i64 tk.kind,.string tk.text,.bool tk.spaced,.slice a3 tk.hidden.length c3],tk,f3⟩:Elem Tok)]).flatMap (·.fp)=f3:=by simp
    rw [e1]
    refine Zbu (HO4.out.app (OX.out.lower (by omega)) λ b hb hx=>?_) (λ b hb=>?_) hg5
    ·have h1:=HLTO.out b hb
     have h2:=(OX.out.2 b hx).1
     omega
    ·rcases Qa hb with hb | hb
     ·obtain⟨x,hx,hb'⟩:=List.mem_flatMap.1 hb
      exact HR4.out.ap x hx b hb'
     ·exact HXN.out b hb
   have HW5:Hid ((Zaa sTok).R w5 [.slice (some ⟨bw,ow,none⟩) NW cw] (l.drop k) fpw):=(Zaa sTok).frame (λ b hb'=>hg5.block b ((Zaa sTok).lt HW4.out b hb') (λ e=>by have:=HWL.out b hb';have:=(HMI.out b e.symm).1;omega)) HW4.out
   have HR5:=Qh hR5
   obtain⟨a5,c5,hv5,-⟩:=hR5.val
   rw [show (L++[(⟨[.int .i64 tk.kind,.string tk.text,.bool tk.spaced,.slice a3 tk.hidden.length c3],tk,f3⟩:Elem Tok)]).length=NL+1 by rw [List.length_append,HNL.out];rfl] at hv5
   subst hv5
   have hL5:(L++[(⟨[.int .i64 tk.kind,.string tk.text,.bool tk.spaced,.slice a3 tk.hidden.length c3],tk,f3⟩:Elem Tok)]).length<=k+1:=by rw [List.length_append,← HNL.out];simp;omega
   clear hR5 hg5 hp5 HR4 HO4 HW4 RX HL4
   have o1:(1:Int)<=(NW:Int):=by have:=HNW2.out;omega
   have o2:1<=NW:=by have:=HNW2.out;omega
   have o3:1<=cw:=by omega
   have o4:(1:Int)<=(cw:Int):=by omega
   obtain⟨fps,RS0,hfs⟩:=Za3 1 (by rw [← HNW.out];exact o2:1<=(l.drop k).length) HW5.out
   rw [Option.map_some,Addr.add_lit,show sTok.m=4 from rfl,Nat.one_mul,List.drop_drop] at RS0
   have HFS:Hid (∀ b∈fps,b<w.heap.size):=λ b hb'=>HWL.out b (hfs b hb')
   have HRS:=Qh RS0
   clear RS0 hfs HW5
   by_cases h1:cw=1
   ·have HRS1:Hid ((Zaa sTok).R w5 [.slice (some ⟨bw,ow,none⟩) (NW-1) (cw-1)] (l.drop (k+1)) fps):=by have:=HRS.out;rw [if_pos h1] at this;exact this
    subst h1
    obtain rfl:NW=1:=by omega
    clear o3 o4
    go_wp2
    go_roundw
    case rel=>exact⟨k+1,_,fps,by have:=HNW2.out;omega,hL5,HRS1,HFS.out,HR5,HO5,by show _=_;rw [List.map_append];exact HE.out,hb5⟩
    case measure=>simp [lenC] <;> omega
   ·have HRS1:Hid ((Zaa sTok).R w5 [.slice (some ⟨bw,ow+4,none⟩) (NW-1) (cw-1)] (l.drop (k+1)) fps):=by have:=HRS.out;rw [if_neg h1] at this;exact this
    go_wp2
    go_roundw
    case rel=>exact⟨k+1,_,fps,by have:=HNW2.out;omega,hL5,HRS1,HFS.out,HR5,HO5,by show _=_;rw [List.map_append];exact HE.out,hb5⟩
    case measure=>simp [lenC] <;> omega
  have HD:Hid (isDfn l[k]=true):=by show _=_;rw [HDF.out];exact hd
  have HAS:=Qh (ZiD _ (l.drop k) fpw W1 (by rw [List.length_drop];omega) (by rw [List.length_drop];omega) (λ t ht=>HOK.out t (List.mem_of_mem_drop ht)) HWX.out)
  have HAL:=Qh (ask_len (l.drop k))
  have HRA:=Qh (rep_ask (T:=T) (acc:=L.map (·.d)) hlt HD.out)
  rcases ha:askR (l.drop k) with⟨nm,bh⟩
  rw [ha] at HAS HAL HRA
  try dsimp only at HAS HAL HRA
  clear ha HDF HD p0 p3 HXR
  go_wp2_with fail
  refine HAS.out.mono ?_
  rintro e w3 ⟨rfl,rfl⟩
  clear HAS p1
  by_cases hb0:bh=0
  ·have HE:Hid (ZaN T l=([],false)):=by show _=_;rw [HF.out,← HI.out,HRA.out,if_pos hb0]
   subst hb0
   go_wp2
   go_ret2
   exact Zfo HE.out hbX
  have HE0:Hid (repG T l (k+bh) (L.map (·.d)++[numTk (hasT T nm) tk.spaced])=r):=by show _=_;rw [← HI.out,HRA.out,if_neg hb0,HTK.out]
  have e2:((bh:Int)==0)=false:=by simp;omega
  obtain⟨hb2,hbl⟩:2<=bh/\bh<=NW:=by
   rcases HAL.out with h | h
   ·exact absurd h hb0
   ·rw [HNW.out];exact h
  have HAN:=Qh (Zlk _ T fpT nm tk.spaced w3 HTAB.out ((Zaa sMacro).below HT0.out hbX))
  rw [con_has HTAB.out] at HE0
  generalize isIn T nm=yes at *
  clear HI HRA HAL hb0 HTK HTO
  go_wp2_with fail
  refine HAN.out.mono ?_
  rintro e w6 ⟨rfl,hb6⟩
  obtain⟨tx,HTX⟩:∃ tx:ByteArray,Hid (tx=if yes=true then ⟨#[49]⟩ else ⟨#[48]⟩):=⟨_,Qh rfl⟩
  rw [show (if yes=true then (⟨#[49]⟩:ByteArray) else ⟨#[48]⟩)=tx from HTX.out.symm]
  have hb16:=hbX.trans (hb6.mono hbX.size)
  have hW6:=hb6.size
  have bl:=Zab w6 (.cells #[.int .i64 2,.string tx,.bool tk.spaced,.slice none 0 0] 32)
  have HL4:=Qh (heap_alloc_new w6 (.cells #[.int .i64 2,.string tx,.bool tk.spaced,.slice none 0 0] 32))
  have HR4:=Qh ((HGX.out.below hb6).below bl)
  have HO4:=Qh ((HOX.out.grow hb6).grow bl)
  have HW4:=Qh ((Zaa sTok).below ((Zaa sTok).below HWX.out hb6) bl)
  have RX:Hid (sTok.R (w6.alloc (.cells #[.int .i64 2,.string tx,.bool tk.spaced,.slice none 0 0] 32)) [.int .i64 2,.string tx,.bool tk.spaced,.slice none 0 0] (numTk yes tk.spaced) []):=by rw [HTX.out];exact num_R _ yes tk.spaced
  have hb14:=hb16.trans (bl.mono hb16.size)
  have HXN:Hid (∀ b∈([]:List Nat),(Value.slice ao NL co).ownBlock≠some b):=λ b hb=>by simp at hb
  have HE:=HE0
  clear HGX HOX HWX HX bx hb6 hbX HAN p2 hd HE0 HTX
  go_upto_region 14 with(at_builtin;refine ZaE (X:=[(⟨[.int .i64 2,.string tx,.bool tk.spaced,.slice none 0 0],numTk yes tk.spaced,[]⟩:Elem Tok)]) ZaG rfl (by decide) _ rfl (.tmp 43) (.tmp 49) rfl w.heap.size (.slice ao NL co) rfl HR4.out ⟨w6.heap.size,0,none⟩ 1 1 rfl rfl (λ x hx=>by obtain rfl:=Qm hx;exact⟨rfl,RX.out,HXN.out⟩) (λ x hx=>by obtain rfl:=Qm hx;exact ZaF _ _ _ _ RX.out) (λ j u hj=>by rw [ZaI,Nat.zero_add,cell_of_row _ _ _ _ _ _ HL4.out];simpa using hj) (by have:=HNL.out;unfold maxLen;omega) (by have:=HNL.out;omega) hb14.size ?_;intro v5 w5 hR5 hg5 hp5)
  have hb5:Below w.heap.size w w5:=hb14.grown hg5 hb14.size (λ b hb=>(HMI.out b hb).1)
  have HO5:Hid (Own w5 w.heap.size ((L++[(⟨[.int .i64 2,.string tx,.bool tk.spaced,.slice none 0 0],numTk yes tk.spaced,[]⟩:Elem Tok)]).flatMap (·.fp))):=by
   show Own _ _ _
   rw [Zdx]
   have e1:([(⟨[.int .i64 2,.string tx,.bool tk.spaced,.slice none 0 0],numTk yes tk.spaced,[]⟩:Elem Tok)]).flatMap (·.fp)=[]:=by simp
   rw [e1]
   rw [List.append_nil]
   refine Zbu HO4.out (λ b hb=>?_) hg5
   obtain⟨x,hx,hb'⟩:=List.mem_flatMap.1 hb
   exact HR4.out.ap x hx b hb'
  have HW5:Hid ((Zaa sTok).R w5 [.slice (some ⟨bw,ow,none⟩) NW cw] (l.drop k) fpw):=(Zaa sTok).frame (λ b hb'=>hg5.block b ((Zaa sTok).lt HW4.out b hb') (λ e=>by have:=HWL.out b hb';have:=(HMI.out b e.symm).1;omega)) HW4.out
  have HR5:=Qh hR5
  obtain⟨a5,c5,hv5,-⟩:=hR5.val
  rw [show (L++[(⟨[.int .i64 2,.string tx,.bool tk.spaced,.slice none 0 0],numTk yes tk.spaced,[]⟩:Elem Tok)]).length=NL+1 by rw [List.length_append,HNL.out];rfl] at hv5
  subst hv5
  have hL5:(L++[(⟨[.int .i64 2,.string tx,.bool tk.spaced,.slice none 0 0],numTk yes tk.spaced,[]⟩:Elem Tok)]).length<=k+bh:=by rw [List.length_append,← HNL.out];simp;omega
  clear hR5 hg5 hp5 HR4 HO4 HW4 RX HL4
  have o1:(bh:Int)<=(NW:Int):=by have:=HNW2.out;omega
  have o2:bh<=NW:=by have:=HNW2.out;omega
  have o3:bh<=cw:=by omega
  have o4:(bh:Int)<=(cw:Int):=by omega
  obtain⟨fps,RS0,hfs⟩:=Za3 bh (by rw [← HNW.out];exact o2:bh<=(l.drop k).length) HW5.out
  rw [Option.map_some,Addr.add_lit,show sTok.m=4 from rfl,List.drop_drop] at RS0
  have HFS:Hid (∀ b∈fps,b<w.heap.size):=λ b hb'=>HWL.out b (hfs b hb')
  have HRS:=Qh RS0
  clear RS0 hfs HW5
  by_cases h1:cw=bh
  ·have HRS1:Hid ((Zaa sTok).R w5 [.slice (some ⟨bw,ow,none⟩) (NW-bh) 0] (l.drop (k+bh)) fps):=by have:=HRS.out;rw [if_pos h1,show cw-bh=0 by omega] at this;exact this
   have HC1:=Qh h1
   go_wp2
   go_roundw
   case rel=>exact⟨k+bh,_,fps,by have:=HNW2.out;omega,hL5,HRS1,HFS.out,HR5,HO5,by show _=_;rw [List.map_append];exact HE.out,hb5⟩
   case measure=>simp [lenC] <;> omega
  ·have HRS1:Hid ((Zaa sTok).R w5 [.slice (some ⟨bw,ow+bh * 4,none⟩) (NW-bh) (cw-bh)] (l.drop (k+bh)) fps):=by have:=HRS.out;rw [if_neg h1] at this;exact this
   go_wp2
   go_roundw
   case rel=>exact⟨k+bh,_,fps,by have:=HNW2.out;omega,hL5,HRS1,HFS.out,HR5,HO5,by show _=_;rw [List.map_append];exact HE.out,hb5⟩
   case measure=>simp [lenC] <;> omega
/-! ### Lists that agree at every place -/
section
variable {α β:Type} {f:α->β} {a b:List α} {k:Nat}
end
/-! ### slices.Equal at texts -/
def argN (p:Nat) (A:List (List Tok)):Nat:=if h:A.length=1 then (if p=0/\(A[0]'(by omega)).length=0 then 0 else 1) else A.length
def fits (m:DMacro) (A:List (List Tok)):Bool:=macOk m && (m.function && decide (argN m.params.length A=m.params.length))
theorem fits_no {m:DMacro} {A:List (List Tok)} (h:macOk m=false):fits m A=false:=by unfold fits;rw [h];rfl
theorem fits_nf {m:DMacro} {A:List (List Tok)} (h:m.function=false):fits m A=false:=by unfold fits;rw [h,Bool.false_and,Bool.and_false]
theorem ZlV {m:DMacro} {A:List (List Tok)} (h:macOk m=true) (h2:m.function=true):fits m A=decide (argN m.params.length A=m.params.length):=by unfold fits;rw [h,h2];rfl
theorem Zd9 {p:Nat} {A:List (List Tok)} (h:A.length=1):argN p A=if p=0/\(A[0]'(by omega)).length=0 then 0 else 1:=by unfold argN;rw [dif_pos h]
theorem ZcY {p:Nat} {A:List (List Tok)} (h:A.length≠1):argN p A=A.length:=by unfold argN;rw [dif_neg h]
theorem Zky (cs:List Value) (m:DMacro) (fpm:List Nat) (v:Value) (A:List (List Tok)) (fpa:List Nat) (w:World) (Hm:sMacro.R w cs m fpm) (Ha:(Zaa sToks).R w [v] A fpa) :
  Calls Tryz.prog 99 #[.agg cs.toArray,v] w λ e w'=>e=.returned (.int .i64 (argN m.params.length A:Nat))/\Below w.heap.size w w':=by
 obtain⟨h2,h3,p2,p3,rfl,hok,K2,K3,rfl⟩:=Hm
 obtain⟨a2,c2,rfl,-⟩:=Zaf K2
 obtain⟨a3,c3,rfl,-⟩:=Zac K3
 obtain⟨a,cap,rfl,hc,hm,hrow⟩:=Zac Ha
 unfold maxLen at hm
 have b0:=Zab w (.cells #[.string m.name,.bool m.function,.slice a2 m.params.length c2,.slice a3 m.body.length c3] 56)
 clear K2 K3 Ha
 go_enter Tryz.func99,Tryz.ntmps99
 by_cases hp:m.params.length=0
 ·have e0:((m.params.length:Int)==0)=true:=by simp [hp]
  by_cases h1:A.length=1
  ·have e1:((A.length:Int)==1)=true:=by simp [h1]
   obtain⟨b,off,fps,rfl,hb,-,he⟩:=hrow (by omega)
   have hA0:0<A.length:=by omega
   obtain⟨es,hE,hR⟩:=he 0 hA0
   obtain⟨q,d,rfl⟩:=ZeD hR
   replace hE:=hE.frame (b0.block b hb)
   have c0:=Zke hE
   have c0':(w.alloc (.cells #[.string m.name,.bool m.function,.slice a2 m.params.length c2,.slice a3 m.body.length c3] 56)).cell? ⟨b,off,none⟩=some (.slice q (A[0]'hA0).length d):=c0
   have hl:(0:Int)<(A.length:Int):=by omega
   have HN:=Qh (Zd9 (p:=m.params.length) h1)
   by_cases hz:(A[0]'hA0).length=0
   ·have e2:(((A[0]'hA0).length:Int)==0)=true:=by simp [hz]
    rw [if_pos ⟨hp,hz⟩] at HN
    clear hz hp h1 hE hR he hrow
    go_wp2
    go_ret
    exact⟨by rw [HN.out];rfl,b0⟩
   ·have e2:(((A[0]'hA0).length:Int)==0)=false:=by simp;intro h;exact hz (by rw [h];rfl)
    rw [if_neg (λ h=>hz h.2)] at HN
    have HA:Hid ((A.length:Int)=((1:Nat):Int)):=by show _=_;omega
    clear hz hp h1 hE hR he hrow
    go_wp2
    go_ret
    exact⟨by rw [HN.out,HA.out];rfl,b0⟩
  ·have e1:((A.length:Int)==1)=false:=by simp;omega
   have HN:=Qh (ZcY (p:=m.params.length) h1)
   clear hp h1 hrow
   go_wp2
   go_ret
   exact⟨by rw [HN.out];rfl,b0⟩
 ·have e0:((m.params.length:Int)==0)=false:=by simp;intro h;exact hp (by rw [h];rfl)
  have HN:Hid (argN m.params.length A=A.length):=by
   show _=_
   by_cases h1:A.length=1
   ·rw [Zd9 h1,if_neg (λ h=>hp h.1),h1]
   ·exact ZcY h1
  clear hp hrow
  go_wp2
  go_ret
  exact⟨by rw [HN.out];rfl,b0⟩
theorem ZgD (cs:List Value) (m:DMacro) (fpm:List Nat) (v:Value) (A:List (List Tok)) (fpa:List Nat) (w:World) (Hm:sMacro.R w cs m fpm) (Ha:(Zaa sToks).R w [v] A fpa) :
  Calls Tryz.prog 119 #[.agg cs.toArray,v] w (Says (fits m A) w):=by
 have HC:=Qh (λ W (hW:Below w.heap.size w W)=>ZcT cs m fpm W (sMacro.below Hm hW))
 obtain⟨h2,h3,p2,p3,rfl,hok,K2,K3,rfl⟩:=Hm
 obtain⟨a2,c2,rfl,-⟩:=Zaf K2
 obtain⟨a3,c3,rfl,-⟩:=Zac K3
 obtain⟨a,cap,rfl,hc,hm,hrow⟩:=Zac Ha
 unfold maxLen at hm
 have b0:=Zab w (.cells #[.string m.name,.bool m.function,.slice a2 m.params.length c2,.slice a3 m.body.length c3] 56)
 have HX:=Qh (heap_alloc_new w (.cells #[.string m.name,.bool m.function,.slice a2 m.params.length c2,.slice a3 m.body.length c3] 56))
 clear K2 K3 Ha
 go_enter Tryz.func119,Tryz.ntmps119
 cases hv:macOk m
 ·rw [hv] at HC
  have HF:=Qh (fits_no (A:=A) hv)
  clear hv hrow
  go_wp2_with fail
  refine (HC.out _ b0).mono ?_
  rintro e w2 ⟨rfl,hb2⟩
  go_wp2
  go_ret
  exact⟨Zad HF.out.symm,b0.trans (hb2.mono b0.size)⟩
 rw [hv] at HC
 go_wp2_with fail
 refine (HC.out _ b0).mono ?_
 rintro e w2 ⟨rfl,hb2⟩
 have HX2:=Qh ((hb2.block _ (Qg HX.out).1).trans HX.out)
 have c1:=Qc 1 HX2.out
 have c2':=Qc 2 HX2.out
 have hbx:=b0.trans (hb2.mono b0.size)
 clear HC HX hb2 b0
 cases hf:m.function
 ·rw [hf] at c1
  have HF:=Qh (fits_nf (A:=A) hf)
  clear hv hf hrow
  go_wp2
  go_ret
  exact⟨Zad HF.out.symm,hbx⟩
 rw [hf] at c1
 have HF:=Qh (ZlV (A:=A) hv hf)
 clear hv hf
 by_cases hp:m.params.length=0
 ·have e0:((m.params.length:Int)==0)=true:=by simp [hp]
  by_cases h1:A.length=1
  ·have e1:((A.length:Int)==1)=true:=by simp [h1]
   obtain⟨b,off,fps,rfl,hb,-,he⟩:=hrow (by omega)
   have hA0:0<A.length:=by omega
   obtain⟨es,hE,hR⟩:=he 0 hA0
   obtain⟨q,d,rfl⟩:=ZeD hR
   replace hE:=hE.frame (hbx.block b hb)
   have c0:=Zke hE
   have c0':w2.cell? ⟨b,off,none⟩=some (.slice q (A[0]'hA0).length d):=c0
   have hl:(0:Int)<(A.length:Int):=by omega
   have HG:Hid (fits m A=(((A[0]'hA0).length:Int)==0)):=by
    show _=_
    rw [HF.out,Zd9 h1,hp]
    by_cases hz:(A[0]'hA0).length=0
    ·rw [if_pos ⟨rfl,hz⟩,hz];rfl
    ·rw [if_neg (λ h=>hz h.2)]
     have:(((A[0]'hA0).length:Int)==0)=false:=by simp;intro h;exact hz (by rw [h];rfl)
     rw [this];rfl
   clear hp h1 hE hR he hrow HF
   generalize hg:(((A[0]'hA0).length:Int)==0)=g at *
   go_wp2
   go_ret
   exact⟨Zad HG.out.symm,hbx⟩
  ·have e1:((A.length:Int)==1)=false:=by simp;omega
   have HG:Hid (fits m A=((A.length:Int)==(m.params.length:Int))):=by
    show _=_
    rw [HF.out,ZcY h1]
    by_cases hz:A.length=m.params.length
    ·rw [decide_eq_true hz,hz];simp
    ·rw [decide_eq_false hz];symm;simp;omega
   clear hp h1 hrow HF
   generalize hg:((A.length:Int)==(m.params.length:Int))=g at *
   go_wp2
   go_ret
   exact⟨Zad HG.out.symm,hbx⟩
 ·have e0:((m.params.length:Int)==0)=false:=by simp;intro h;exact hp (by rw [h];rfl)
  have HG:Hid (fits m A=((A.length:Int)==(m.params.length:Int))):=by
   show _=_
   have hN:argN m.params.length A=A.length:=by
    by_cases h1:A.length=1
    ·rw [Zd9 h1,if_neg (λ h=>hp h.1),h1]
    ·exact ZcY h1
   rw [HF.out,hN]
   by_cases hz:A.length=m.params.length
   ·rw [decide_eq_true hz,hz];simp
   ·rw [decide_eq_false hz];symm;simp;omega
  clear hp hrow HF
  generalize hg:((A.length:Int)==(m.params.length:Int))=g at *
  go_wp2
  go_ret
  exact⟨Zad HG.out.symm,hbx⟩
def Zbc (a b:List ByteArray):List ByteArray:=b.foldl ins a
def putT (h:List ByteArray) (t:Tok):Tok:=⟨t.kind,t.text,t.spaced,Zbc t.hidden h⟩
def putL (l:List Tok) (h:List ByteArray) (sp:Bool):List Tok:=spc sp (l.map (putT h))
def findM (T:List DMacro) (t:Tok):Option DMacro:=if t.kind=1/\hasN t.hidden t.text=false/\0<=place T t.text then T[(place T t.text).toNat]? else none
def ZeV:List Tok->Bool
 | []=>false
 | u::_=>isM u [40]
def goM (T:List DMacro):List Tok->Option DMacro
 | []=>none
 |
  t::r=>match findM T t with
  | none=>none
  | some m=>if m.function=true/\ZeV r=false then none else some m
def opnK (t:Tok):Int:=if isM t [40]=true then 1 else if isM t [41]=true then -1 else 0
def splK:List Tok->Int->Args->List Tok->Nat->Args × Nat × Bool
 | [],_,args,_,_=>(args,0,false)
 |
  t::r,d,args,arg,k =>
  if d+opnK t=0 then (args++[arg],k+1,true)
  else if d+opnK t=1/\isM t [44]=true then splK r (d+opnK t) (args++[arg]) [] (k+1)
  else splK r (d+opnK t) args (arg++[t]) (k+1)
abbrev XRes:=List Tok × Nat × Int
def argsX (f:List Tok->Nat->XRes):List (List Tok)->Nat->List (List Tok) × Nat × Int
 | [],s=>([],s,0)
 |
  a::r,s =>
  if (f a s).2.2=0 then (if (argsX f r (f a s).2.1).2.2=0 then ((f a s).1::(argsX f r (f a s).2.1).1,(argsX f r (f a s).2.1).2) else ([],(argsX f r (f a s).2.1).2))
  else ([],(f a s).2)
def callX (f:List Tok->Nat->XRes) (m:DMacro) (work:List Tok) (s:Nat):List Tok × Nat × Nat × Int:=
 if (splK (work.drop 2) 1 [] [] 2).2.2=true/\argN m.params.length (splK (work.drop 2) 1 [] [] 2).1=m.params.length then
  (if (argsX f ((splK (work.drop 2) 1 [] [] 2).1.take m.params.length) s).2.2=0 then
   (if (Zap m ((splK (work.drop 2) 1 [] [] 2).1.take m.params.length) (argsX f ((splK (work.drop 2) 1 [] [] 2).1.take m.params.length) s).1).2=true then
    (putL (Zap m ((splK (work.drop 2) 1 [] [] 2).1.take m.params.length) (argsX f ((splK (work.drop 2) 1 [] [] 2).1.take m.params.length) s).1).1
     (ins (both (work.headD zTok).hidden (work.getD ((splK (work.drop 2) 1 [] [] 2).2.1-1) zTok).hidden) m.name) (work.headD zTok).spaced,
    (splK (work.drop 2) 1 [] [] 2).2.1,(argsX f ((splK (work.drop 2) 1 [] [] 2).1.take m.params.length) s).2.1,0)
   else ([],0,(argsX f ((splK (work.drop 2) 1 [] [] 2).1.take m.params.length) s).2.1,2))
  else ([],0,(argsX f ((splK (work.drop 2) 1 [] [] 2).1.take m.params.length) s).2))
 else ([],0,s,1)
def expG (T:List DMacro):Nat->Nat->List Tok->List Tok->XRes
 | _,s,out,[]=>(out,s,0)
 |
  n,s,out,t::r =>
  match goM T (t::r) with
  | none=>if 60<out.length+1 then ([],s,3) else expG T n s (out++[t]) r
  |
   some m =>
   match n,s with
   | 0,_=>([],0,3)
   | _+1,0=>([],0,3)
   |
    n+1,s+1 =>
    if m.function=true then
     (if (callX (λ a k=>expG T n k [] a) m (t::r) s).2.2.2=0 then
      (
      if 60<((callX (λ a k=>expG T n k [] a) m (t::r) s).1++(t::r).drop (callX (λ a k=>expG T n k [] a) m (t::r) s).2.1).length then ([],(callX (λ a k=>expG T n k [] a) m (t::r) s).2.2.1,3)
      else expG T n (callX (λ a k=>expG T n k [] a) m (t::r) s).2.2.1 out ((callX (λ a k=>expG T n k [] a) m (t::r) s).1++(t::r).drop (callX (λ a k=>expG T n k [] a) m (t::r) s).2.1))
     else ([],(callX (λ a k=>expG T n k [] a) m (t::r) s).2.2))
    else
     (if (Zap m [] []).2=true then
      (if 60<(putL (Zap m [] []).1 (ins t.hidden m.name) t.spaced++r).length then ([],s,3) else expG T n s out (putL (Zap m [] []).1 (ins t.hidden m.name) t.spaced++r))
     else ([],s,2))
termination_by n _ _ w=>(n,w.length)
def Zbo (T:List DMacro) (l:List Tok):List Tok × Int:=
 if tabOk T=true/\Zaj l=true then (if (expG T 100 100 [] l).2.2=0 then ((expG T 100 100 [] l).1,0) else ([],(expG T 100 100 [] l).2.2)) else ([],-1)
section
variable {T:List DMacro} {n s:Nat} {out r:List Tok} {t:Tok} {m:DMacro}
theorem Zb9:expG T n s out []=(out,s,0):=by rw [expG]
theorem ZbA (h:goM T (t::r)=none) (hl:¬ 60<out.length+1):expG T n s out (t::r)=expG T n s (out++[t]) r:=by rw [expG,h];simp only;rw [if_neg hl]
theorem ZbB (h:goM T (t::r)=none) (hl:60<out.length+1):expG T n s out (t::r)=([],s,3):=by rw [expG,h];simp only;rw [if_pos hl]
theorem Zdh (h:goM T (t::r)=some m):expG T n 0 out (t::r)=([],0,3):=by
 rw [expG,h]
 cases n <;> rfl
theorem Zea (h:goM T (t::r)=some m) (hf:m.function=true) {b:List Tok} {e l:Nat} (hc:callX (λ a k=>expG T n k [] a) m (t::r) s=(b,e,l,0)) (hl:¬ 60<(b++(t::r).drop e).length):expG T (n+1) (s+1) out (t::r)=expG T n l out (b++(t::r).drop e):=by
 rw [expG,h];simp only;rw [if_pos hf,hc,if_pos rfl,if_neg hl]
theorem ZdA (h:goM T (t::r)=some m) (hf:m.function=true) {b:List Tok} {e l:Nat} (hc:callX (λ a k=>expG T n k [] a) m (t::r) s=(b,e,l,0)) (hl:60<(b++(t::r).drop e).length):expG T (n+1) (s+1) out (t::r)=([],l,3):=by
 rw [expG,h];simp only;rw [if_pos hf,hc,if_pos rfl,if_pos hl]
theorem ZbZ (h:goM T (t::r)=some m) (hf:m.function=true) {b:List Tok} {e l:Nat} {c:Int} (hc:callX (λ a k=>expG T n k [] a) m (t::r) s=(b,e,l,c)) (h0:c≠0):expG T (n+1) (s+1) out (t::r)=([],l,c):=by
 rw [expG,h];simp only;rw [if_pos hf,hc,if_neg h0]
theorem ZeW (h:goM T (t::r)=some m) (hf:m.function=false) {b:List Tok} (hc:Zap m [] []=(b,true)) (hl:¬ 60<(putL b (ins t.hidden m.name) t.spaced++r).length):expG T (n+1) (s+1) out (t::r)=expG T n s out (putL b (ins t.hidden m.name) t.spaced++r):=by
 rw [expG,h];simp only;rw [if_neg (by simp [hf]),hc,if_pos rfl,if_neg hl]
theorem Zeb (h:goM T (t::r)=some m) (hf:m.function=false) {b:List Tok} (hc:Zap m [] []=(b,true)) (hl:60<(putL b (ins t.hidden m.name) t.spaced++r).length):expG T (n+1) (s+1) out (t::r)=([],s,3):=by
 rw [expG,h];simp only;rw [if_neg (by simp [hf]),hc,if_pos rfl,if_pos hl]
theorem Zec (h:goM T (t::r)=some m) (hf:m.function=false) {b:List Tok} (hc:Zap m [] []=(b,false)):expG T (n+1) (s+1) out (t::r)=([],s,2):=by
 rw [expG,h];simp only;rw [if_neg (by simp [hf]),hc,if_neg (by simp)]
end
theorem ZiE {f:List Tok->Nat->XRes} (hf:∀ a k,(f a k).2.1<=k):∀ (A:List (List Tok)) (s:Nat),(argsX f A s).2.1<=s
 | [],s=>Nat.le_refl s
 |
  a::r,s=>by
  have h1:=hf a s
  have h2:=ZiE hf r (f a s).2.1
  unfold argsX
  split
  ·split
   ·show (argsX f r (f a s).2.1).2.1<=s;omega
   ·show (argsX f r (f a s).2.1).2.1<=s;omega
  ·show (f a s).2.1<=s;omega
theorem ZlW {f:List Tok->Nat->XRes} (hf:∀ a k,(f a k).2.1<=k) (m:DMacro) (w:List Tok) (s:Nat):(callX f m w s).2.2.1<=s:=by
 have h1:=ZiE hf ((splK (w.drop 2) 1 [] [] 2).1.take m.params.length) s
 unfold callX
 split
 ·split
  ·split
   ·exact h1
   ·exact h1
  ·exact h1
 ·exact Nat.le_refl s
theorem Zh6 (T:List DMacro):∀ (n:Nat) (w:List Tok) (s:Nat) (out:List Tok),(expG T n s out w).2.1<=s:=by
 intro n
 induction n with
 |
  zero =>
  intro w
  induction w with
  | nil=>intro s out;rw [Zb9];exact Nat.le_refl s
  |
   cons t r ih =>
   intro s out
   cases hg:goM T (t::r) with
   |
    none =>
    by_cases hl:60<out.length+1
    ·rw [ZbB hg hl];exact Nat.le_refl s
    ·rw [ZbA hg hl];exact ih s _
   | some m=>rw [expG,hg];exact Nat.zero_le s
 |
  succ n ihn =>
  intro w
  induction w with
  | nil=>intro s out;rw [Zb9];exact Nat.le_refl s
  |
   cons t r ih =>
   intro s out
   cases hg:goM T (t::r) with
   |
    none =>
    by_cases hl:60<out.length+1
    ·rw [ZbB hg hl];exact Nat.le_refl s
    ·rw [ZbA hg hl];exact ih s _
   |
    some m =>
    cases s with
    | zero=>rw [Zdh hg];exact Nat.zero_le 0
    |
     succ s =>
     cases hf:m.function
     ·rcases hc:Zap m [] [] with⟨b,ok⟩
      cases ok
      ·rw [Zec hg hf hc];exact Nat.le_succ s
      ·by_cases hl:60<(putL b (ins t.hidden m.name) t.spaced++r).length
       ·rw [Zeb hg hf hc hl];exact Nat.le_succ s
       ·rw [ZeW hg hf hc hl];exact Nat.le_succ_of_le (ihn _ _ _)
     ·have hcl:=ZlW (f:=λ a k=>expG T n k [] a) (λ a k=>ihn a k []) m (t::r) s
      rcases hc:callX (λ a k=>expG T n k [] a) m (t::r) s with⟨b,e,l,c⟩
      rw [hc] at hcl
      have hcl':l<=s:=hcl
      by_cases h0:c=0
      ·subst h0
       by_cases hl:60<(b++(t::r).drop e).length
       ·rw [ZdA hg hf hc hl];exact Nat.le_succ_of_le hcl'
       ·rw [Zea hg hf hc hl];have:=ihn (b++(t::r).drop e) l out;omega
      ·rw [ZbZ hg hf hc h0];exact Nat.le_succ_of_le hcl'
section
variable {r:List Tok}
end
section
variable {l pre suf:List Tok} {t:Tok}
end
def cT:Tok:=⟨4,⟨#[41]⟩,false,[]⟩
end Go.Proofs.YtipfpppcbmpjiaaGreat
