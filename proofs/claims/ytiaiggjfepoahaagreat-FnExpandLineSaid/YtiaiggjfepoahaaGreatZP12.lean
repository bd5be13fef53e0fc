/- Texts that the proof of P stands on, in one file. -/
import Derived.Test.YtiaiggjfepoahaaGreatZP11
set_option linter.unusedVariables false
set_option maxHeartbeats 16000000
set_option maxRecDepth 100000
set_option linter.unusedSimpArgs false
/- The program's reading of parameters. -/
namespace Go.Proofs.YtiaiggjfepoahaaGreat
open Go.RowKit
theorem ZnD {t:Tok} (h:tokOk t=true) {c:UInt8} {l:List UInt8} (e:t.text=⟨(c::l).toArray⟩):t.kind=cutKind c:=by
 obtain⟨h0,hk⟩:=(Zaz h).1
 obtain⟨k,x,s,hd⟩:=t
 obtain rfl:x=⟨(c::l).toArray⟩:=e
 exact hk
theorem txt_eq {x:ByteArray} {l:List UInt8} (h:(x.toList==l)=true):x=⟨l.toArray⟩:=by rw [Zdo] at h;exact of_decide_eq_true h
def Zcs (t:Tok):Bool:=t.text.toList==[40]
def Zen (t:Tok):Bool:=t.text.toList==[41]
def isCom (t:Tok):Bool:=t.text.toList==[44]
def opn (t:Tok):Int:=if Zcs t=true then 1 else if Zen t=true then -1 else 0
abbrev Args:=List (List Tok)
def spGo:List Tok->Int->Args->List Tok->Nat->Args × Nat × Bool
 | [],_,args,_,_=>(args,0,false)
 |
  t::r,d,args,arg,k =>
  if d+opn t=0 then (args++[arg],k+1,true)
  else if d+opn t=1/\isCom t=true then spGo r (d+opn t) (args++[arg]) [] (k+1)
  else spGo r (d+opn t) args (arg++[t]) (k+1)
def clGo:List Tok->Int->Nat->Option Nat
 | [],_,_=>none
 | t::r,d,k=>if d+opn t=0 then some k else clGo r (d+opn t) (k+1)
def dvGo:List Tok->Int->Args->List Tok->Args
 | [],_,args,arg=>args++[arg]
 | t::r,d,args,arg=>if d=0/\isCom t=true then dvGo r d (args++[arg]) [] else dvGo r (d+opn t) args (arg++[t])
theorem opn_com {t:Tok} (h:isCom t=true):opn t=0:=by
 have e:t.text=⟨#[44]⟩:=txt_eq h
 have h1:Zcs t=false:=by unfold Zcs;rw [e,Zdo];decide
 have h2:Zen t=false:=by unfold Zen;rw [e,Zdo];decide
 unfold opn
 rw [h1,h2];rfl
theorem Ze7:∀ (l:List Tok) (d:Int) (k e:Nat),clGo l d k=some e->k<=e/\e<k+l.length
 | [],_,_,_,h=>by simp [clGo] at h
 |
  t::r,d,k,e,h=>by
  unfold clGo at h
  split at h
  ·simp only [Qi] at h;subst h;simp
  ·have:=Ze7 r _ _ _ h
   simp only [List.length_cons]
   omega
theorem sp_dv:∀ (l:List Tok) (d:Int) (args:Args) (arg:List Tok) (k:Nat),
  match clGo l (d+1) k with
  | none=>(spGo l (d+1) args arg k).2=(0,false)
  | some e=>spGo l (d+1) args arg k=(dvGo (l.take (e-k)) d args arg,e+1,true)
 | [],d,args,arg,k=>by simp [clGo,spGo]
 |
  t::r,d,args,arg,k=>by
  unfold clGo spGo
  by_cases h0:d+1+opn t=0
  ·rw [if_pos h0,if_pos h0]
   simp [dvGo]
  ·rw [if_neg h0,if_neg h0]
   by_cases hc:isCom t=true
   ·have ho:=opn_com hc
    have e1:d+1+opn t=d+1:=by omega
    rw [e1]
    by_cases hd:d=0
    ·rw [if_pos ⟨by omega,hc⟩]
     have ih:=sp_dv r d (args++[arg]) [] (k+1)
     split at ih
     ·exact ih
     ·rename_i e h
      have hg:=Ze7 r _ _ _ h
      show spGo _ _ _ _ _=_
      rw [ih,show e-k=(e-(k+1))+1 by omega,List.take_succ_cons,dvGo,if_pos ⟨hd,hc⟩]
    ·rw [if_neg (λ h=>hd (by omega))]
     have ih:=sp_dv r d args (arg++[t]) (k+1)
     split at ih
     ·exact ih
     ·rename_i e h
      have hg:=Ze7 r _ _ _ h
      show spGo _ _ _ _ _=_
      rw [ih,show e-k=(e-(k+1))+1 by omega,List.take_succ_cons,dvGo,if_neg (λ h=>hd h.1),ho,Int.add_zero]
   ·have e1:d+1+opn t=d+opn t+1:=by omega
    rw [e1,if_neg (λ h=>hc h.2)]
    have ih:=sp_dv r (d+opn t) args (arg++[t]) (k+1)
    split at ih
    ·exact ih
    ·rename_i e h
     have hg:=Ze7 r _ _ _ h
     show spGo _ _ _ _ _=_
     rw [ih,show e-k=(e-(k+1))+1 by omega,List.take_succ_cons,dvGo,if_neg (λ h=>hc h.2)]
theorem ZkN {t:Tok} (h:Zcs t=true):opn t=1:=by unfold opn;rw [h];rfl
theorem opn_shut {t:Tok} (h:Zcs t=false) (h2:Zen t=true):opn t=-1:=by unfold opn;rw [h,h2];rfl
theorem opn_else {t:Tok} (h:Zcs t=false) (h2:Zen t=false):opn t=0:=by unfold opn;rw [h,h2];rfl
theorem opn_ge (t:Tok):-1<=opn t/\opn t<=1:=by unfold opn;split <;> (try split) <;> omega
open Go.RowKit Go.ChangeShapes Go.WideShapes Go.Deep
abbrev sToks:Shape (List Tok):=Zaa sTok
theorem Zd3:TI Tryz.prog 110 28 (.slice none 0 0) 1 24:=⟨by kernel_rfl,by kernel_rfl⟩
theorem ZeR {α:Type} {S:Shape α} {w:World} {cs:List Value} {l:List α} {fp:List Nat} (H:(Zaa S).R w cs l fp):∃ a cap,cs=[.slice a l.length cap]:=by
 obtain⟨a,cap,h,-⟩:=H
 exact⟨a,cap,h⟩
theorem ZkO {w:World} {b off i:Nat} {v:Value} (h:ElemAt w b off 1 i [v]):w.cell? ⟨b,off+i,none⟩=some v:=by
 have:=h.2 0 (by decide)
 simpa using this
def argN (p:Nat) (A:List (List Tok)):Nat:=if h:A.length=1 then (if p=0/\(A[0]'(by omega)).length=0 then 0 else 1) else A.length
def fits (m:DMacro) (A:List (List Tok)):Bool:=macOk m && (m.function && decide (argN m.params.length A=m.params.length))
theorem fits_no {m:DMacro} {A:List (List Tok)} (h:macOk m=false):fits m A=false:=by unfold fits;rw [h];rfl
theorem fits_nf {m:DMacro} {A:List (List Tok)} (h:m.function=false):fits m A=false:=by unfold fits;rw [h,Bool.false_and,Bool.and_false]
theorem Zmc {m:DMacro} {A:List (List Tok)} (h:macOk m=true) (h2:m.function=true):fits m A=decide (argN m.params.length A=m.params.length):=by unfold fits;rw [h,h2];rfl
theorem Zeo {p:Nat} {A:List (List Tok)} (h:A.length=1):argN p A=if p=0/\(A[0]'(by omega)).length=0 then 0 else 1:=by unfold argN;rw [dif_pos h]
theorem Zc8 {p:Nat} {A:List (List Tok)} (h:A.length≠1):argN p A=A.length:=by unfold argN;rw [dif_neg h]
theorem ZkP (cs:List Value) (m:DMacro) (fpm:List Nat) (v:Value) (A:List (List Tok)) (fpa:List Nat) (w:World) (Hm:sMacro.R w cs m fpm) (Ha:(Zaa sToks).R w [v] A fpa) :
  Calls Tryz.prog 99 #[.agg cs.toArray,v] w λ e w'=>e=.returned (.int .i64 (argN m.params.length A:Nat))/\Below w.heap.size w w':=by
 obtain⟨h2,h3,p2,p3,rfl,hok,K2,K3,rfl⟩:=Hm
 obtain⟨a2,c2,rfl,-⟩:=Zaf K2
 obtain⟨a3,c3,rfl,-⟩:=Zac K3
 obtain⟨a,cap,rfl,hc,hm,hrow⟩:=Zac Ha
 unfold maxLen at hm
 have b0:=Zab w (.cells #[.string m.name,.bool m.function,.slice a2 m.params.length c2,.slice a3 m.body.length c3] 70)
 clear K2 K3 Ha
 go_enter Tryz.func99,Tryz.ntmps99
 by_cases hp:m.params.length=0
 ·have e0:((m.params.length:Int)==0)=true:=by simp [hp]
  by_cases h1:A.length=1
  ·have e1:((A.length:Int)==1)=true:=by simp [h1]
   obtain⟨b,off,fps,rfl,hb,-,he⟩:=hrow (by omega)
   have hA0:0<A.length:=by omega
   obtain⟨es,hE,hR⟩:=he 0 hA0
   obtain⟨q,d,rfl⟩:=ZeR hR
   replace hE:=hE.frame (b0.block b hb)
   have c0:=ZkO hE
   have c0':(w.alloc (.cells #[.string m.name,.bool m.function,.slice a2 m.params.length c2,.slice a3 m.body.length c3] 70)).cell? ⟨b,off,none⟩=some (.slice q (A[0]'hA0).length d):=c0
   have hl:(0:Int)<(A.length:Int):=by omega
   have HN:=Qh (Zeo (p:=m.params.length) h1)
   by_cases hz:(A[0]'hA0).length=0
   ·have e2:(((A[0]'hA0).length:Int)==0)=true:=by simp [hz]
    rw [if_pos ⟨hp,hz⟩] at HN
    clear hz hp h1 hE hR he hrow
    go_wp2
    go_ret
    exact⟨by rw [HN.out];rfl,b0⟩
   ·have e2:(((A[0]'hA0).length:Int)==0)=false:=by simp;intro h;exact hz (by rw [h];rfl)
    rw [if_neg (λ h=>hz h.2)] at HN
    have HA:Hid ((A.length:Int)=((1:Nat):Int)):=by show _=_;omega
    clear hz hp h1 hE hR he hrow
    go_wp2
    go_ret
    exact⟨by rw [HN.out,HA.out];rfl,b0⟩
  ·have e1:((A.length:Int)==1)=false:=by simp;omega
   have HN:=Qh (Zc8 (p:=m.params.length) h1)
   clear hp h1 hrow
   go_wp2
   go_ret
   exact⟨by rw [HN.out];rfl,b0⟩
 ·have e0:((m.params.length:Int)==0)=false:=by simp;intro h;exact hp (by rw [h];rfl)
  have HN:Hid (argN m.params.length A=A.length):=by
   show _=_
   by_cases h1:A.length=1
   ·rw [Zeo h1,if_neg (λ h=>hp h.1),h1]
   ·exact Zc8 h1
  clear hp hrow
  go_wp2
  go_ret
  exact⟨by rw [HN.out];rfl,b0⟩
theorem ZgH (cs:List Value) (m:DMacro) (fpm:List Nat) (v:Value) (A:List (List Tok)) (fpa:List Nat) (w:World) (Hm:sMacro.R w cs m fpm) (Ha:(Zaa sToks).R w [v] A fpa) :
  Calls Tryz.prog 126 #[.agg cs.toArray,v] w (Says (fits m A) w):=by
 have HC:=Qh (λ W (hW:Below w.heap.size w W)=>Zc2 cs m fpm W (sMacro.below Hm hW))
 obtain⟨h2,h3,p2,p3,rfl,hok,K2,K3,rfl⟩:=Hm
 obtain⟨a2,c2,rfl,-⟩:=Zaf K2
 obtain⟨a3,c3,rfl,-⟩:=Zac K3
 obtain⟨a,cap,rfl,hc,hm,hrow⟩:=Zac Ha
 unfold maxLen at hm
 have b0:=Zab w (.cells #[.string m.name,.bool m.function,.slice a2 m.params.length c2,.slice a3 m.body.length c3] 70)
 have HX:=Qh (heap_alloc_new w (.cells #[.string m.name,.bool m.function,.slice a2 m.params.length c2,.slice a3 m.body.length c3] 70))
 clear K2 K3 Ha
 go_enter Tryz.func126,Tryz.ntmps126
 cases hv:macOk m
 ·rw [hv] at HC
  have HF:=Qh (fits_no (A:=A) hv)
  clear hv hrow
  go_wp2_with fail
  refine (HC.out _ b0).mono ?_
  rintro e w2 ⟨rfl,hb2⟩
  go_wp2
  go_ret
  exact⟨Zad HF.out.symm,b0.trans (hb2.mono b0.size)⟩
 rw [hv] at HC
 go_wp2_with fail
 refine (HC.out _ b0).mono ?_
 rintro e w2 ⟨rfl,hb2⟩
 have HX2:=Qh ((hb2.block _ (Qg HX.out).1).trans HX.out)
 have c1:=Qc 1 HX2.out
 have c2':=Qc 2 HX2.out
 have hbx:=b0.trans (hb2.mono b0.size)
 clear HC HX hb2 b0
 cases hf:m.function
 ·rw [hf] at c1
  have HF:=Qh (fits_nf (A:=A) hf)
  clear hv hf hrow
  go_wp2
  go_ret
  exact⟨Zad HF.out.symm,hbx⟩
 rw [hf] at c1
 have HF:=Qh (Zmc (A:=A) hv hf)
 clear hv hf
 by_cases hp:m.params.length=0
 ·have e0:((m.params.length:Int)==0)=true:=by simp [hp]
  by_cases h1:A.length=1
  ·have e1:((A.length:Int)==1)=true:=by simp [h1]
   obtain⟨b,off,fps,rfl,hb,-,he⟩:=hrow (by omega)
   have hA0:0<A.length:=by omega
   obtain⟨es,hE,hR⟩:=he 0 hA0
   obtain⟨q,d,rfl⟩:=ZeR hR
   replace hE:=hE.frame (hbx.block b hb)
   have c0:=ZkO hE
   have c0':w2.cell? ⟨b,off,none⟩=some (.slice q (A[0]'hA0).length d):=c0
   have hl:(0:Int)<(A.length:Int):=by omega
   have HG:Hid (fits m A=(((A[0]'hA0).length:Int)==0)):=by
    show _=_
    rw [HF.out,Zeo h1,hp]
    by_cases hz:(A[0]'hA0).length=0
    ·rw [if_pos ⟨rfl,hz⟩,hz];rfl
    ·rw [if_neg (λ h=>hz h.2)]
     have:(((A[0]'hA0).length:Int)==0)=false:=by simp;intro h;exact hz (by rw [h];rfl)
     rw [this];rfl
   clear hp h1 hE hR he hrow HF
   generalize hg:(((A[0]'hA0).length:Int)==0)=g at *
   go_wp2
   go_ret
   exact⟨Zad HG.out.symm,hbx⟩
  ·have e1:((A.length:Int)==1)=false:=by simp;omega
   have HG:Hid (fits m A=((A.length:Int)==(m.params.length:Int))):=by
    show _=_
    rw [HF.out,Zc8 h1]
    by_cases hz:A.length=m.params.length
    ·rw [decide_eq_true hz,hz];simp
    ·rw [decide_eq_false hz];symm;simp;omega
   clear hp h1 hrow HF
   generalize hg:((A.length:Int)==(m.params.length:Int))=g at *
   go_wp2
   go_ret
   exact⟨Zad HG.out.symm,hbx⟩
 ·have e0:((m.params.length:Int)==0)=false:=by simp;intro h;exact hp (by rw [h];rfl)
  have HG:Hid (fits m A=((A.length:Int)==(m.params.length:Int))):=by
   show _=_
   have hN:argN m.params.length A=A.length:=by
    by_cases h1:A.length=1
    ·rw [Zeo h1,if_neg (λ h=>hp h.1),h1]
    ·exact Zc8 h1
   rw [HF.out,hN]
   by_cases hz:A.length=m.params.length
   ·rw [decide_eq_true hz,hz];simp
   ·rw [decide_eq_false hz];symm;simp;omega
  clear hp hrow HF
  generalize hg:((A.length:Int)==(m.params.length:Int))=g at *
  go_wp2
  go_ret
  exact⟨Zad HG.out.symm,hbx⟩
end Go.Proofs.YtiaiggjfepoahaaGreat
