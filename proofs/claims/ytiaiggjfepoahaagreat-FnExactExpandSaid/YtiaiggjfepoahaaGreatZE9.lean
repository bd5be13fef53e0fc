/- Texts that the proof of E stands on, in one file. -/
import Derived.Test.YtiaiggjfepoahaaGreatZE8
import Derived.Deep.Cut
import Derived.Deep.CutRange
import Derived.Laws.AppendOwnNone
set_option linter.unusedVariables false
set_option maxHeartbeats 16000000
set_option maxRecDepth 100000
set_option linter.unusedSimpArgs false
/- MacroOf of the model. (Made by gen_mac10.py.) -/
namespace Go.Proofs.YtiaiggjfepoahaaGreat
open Go.RowKit
/-! ### The model's theorem, way by way -/
theorem Zmu {t:Tok} (h:tokOk t=true) {c:UInt8} {l:List UInt8} (e:t.text=⟨(c::l).toArray⟩):t.kind=cutKind c:=by
 obtain⟨h0,hk⟩:=(ZaA h).1
 obtain⟨k,x,s,hd⟩:=t
 obtain rfl:x=⟨(c::l).toArray⟩:=e
 exact hk
theorem txt_eq {x:ByteArray} {l:List UInt8} (h:(x.toList==l)=true):x=⟨l.toArray⟩:=by rw [Zc4] at h;exact of_decide_eq_true h
def Zch (t:Tok):Bool:=t.text.toList==[40]
def ZdW (t:Tok):Bool:=t.text.toList==[41]
def isCom (t:Tok):Bool:=t.text.toList==[44]
def opn (t:Tok):Int:=if Zch t=true then 1 else if ZdW t=true then -1 else 0
abbrev Args:=List (List Tok)
def spGo:List Tok->Int->Args->List Tok->Nat->Args × Nat × Bool
 | [],_,args,_,_=>(args,0,false)
 |
  t::r,d,args,arg,k =>
  if d+opn t=0 then (args++[arg],k+1,true)
  else if d+opn t=1/\isCom t=true then spGo r (d+opn t) (args++[arg]) [] (k+1)
  else spGo r (d+opn t) args (arg++[t]) (k+1)
def clGo:List Tok->Int->Nat->Option Nat
 | [],_,_=>none
 | t::r,d,k=>if d+opn t=0 then some k else clGo r (d+opn t) (k+1)
def dvGo:List Tok->Int->Args->List Tok->Args
 | [],_,args,arg=>args++[arg]
 | t::r,d,args,arg=>if d=0/\isCom t=true then dvGo r d (args++[arg]) [] else dvGo r (d+opn t) args (arg++[t])
theorem opn_com {t:Tok} (h:isCom t=true):opn t=0:=by
 have e:t.text=⟨#[44]⟩:=txt_eq h
 have h1:Zch t=false:=by unfold Zch;rw [e,Zc4];decide
 have h2:ZdW t=false:=by unfold ZdW;rw [e,Zc4];decide
 unfold opn
 rw [h1,h2];rfl
theorem ZeF:∀ (l:List Tok) (d:Int) (k e:Nat),clGo l d k=some e->k<=e/\e<k+l.length
 | [],_,_,_,h=>by simp [clGo] at h
 |
  t::r,d,k,e,h=>by
  unfold clGo at h
  split at h
  ·simp only [Qi] at h;subst h;simp
  ·have:=ZeF r _ _ _ h
   simp only [List.length_cons]
   omega
theorem sp_dv:∀ (l:List Tok) (d:Int) (args:Args) (arg:List Tok) (k:Nat),
  match clGo l (d+1) k with
  | none=>(spGo l (d+1) args arg k).2=(0,false)
  | some e=>spGo l (d+1) args arg k=(dvGo (l.take (e-k)) d args arg,e+1,true)
 | [],d,args,arg,k=>by simp [clGo,spGo]
 |
  t::r,d,args,arg,k=>by
  unfold clGo spGo
  by_cases h0:d+1+opn t=0
  ·rw [if_pos h0,if_pos h0]
   simp [dvGo]
  ·rw [if_neg h0,if_neg h0]
   by_cases hc:isCom t=true
   ·have ho:=opn_com hc
    have e1:d+1+opn t=d+1:=by omega
    rw [e1]
    by_cases hd:d=0
    ·rw [if_pos ⟨by omega,hc⟩]
     have ih:=sp_dv r d (args++[arg]) [] (k+1)
     split at ih
     ·exact ih
     ·rename_i e h
      have hg:=ZeF r _ _ _ h
      show spGo _ _ _ _ _=_
      rw [ih,show e-k=(e-(k+1))+1 by omega,List.take_succ_cons,dvGo,if_pos ⟨hd,hc⟩]
    ·rw [if_neg (λ h=>hd (by omega))]
     have ih:=sp_dv r d args (arg++[t]) (k+1)
     split at ih
     ·exact ih
     ·rename_i e h
      have hg:=ZeF r _ _ _ h
      show spGo _ _ _ _ _=_
      rw [ih,show e-k=(e-(k+1))+1 by omega,List.take_succ_cons,dvGo,if_neg (λ h=>hd h.1),ho,Int.add_zero]
   ·have e1:d+1+opn t=d+opn t+1:=by omega
    rw [e1,if_neg (λ h=>hc h.2)]
    have ih:=sp_dv r (d+opn t) args (arg++[t]) (k+1)
    split at ih
    ·exact ih
    ·rename_i e h
     have hg:=ZeF r _ _ _ h
     show spGo _ _ _ _ _=_
     rw [ih,show e-k=(e-(k+1))+1 by omega,List.take_succ_cons,dvGo,if_neg (λ h=>hc h.2)]
theorem ZjW {t:Tok} (h:Zch t=true):opn t=1:=by unfold opn;rw [h];rfl
theorem opn_shut {t:Tok} (h:Zch t=false) (h2:ZdW t=true):opn t=-1:=by unfold opn;rw [h,h2];rfl
theorem opn_else {t:Tok} (h:Zch t=false) (h2:ZdW t=false):opn t=0:=by unfold opn;rw [h,h2];rfl
theorem opn_ge (t:Tok):-1<=opn t/\opn t<=1:=by unfold opn;split <;> (try split) <;> omega
theorem Zbg {α:Type} {S:Shape α} {w:World} {a:Option Addr} {len cap:Nat} {l:List α} {fp:List Nat} (i:Nat) (hi:i<=l.length) (H:(Zaa S).R w [.slice a len cap] l fp) :
  ∃ fp',(Zaa S).R w [.slice (if cap=i then a else a.map (·.add (i * S.m))) (len-i) (cap-i)] (l.drop i) fp'/\∀ b∈fp',b∈fp:=by
 obtain⟨a',cap',hv,hc,hm,h⟩:=H
 simp only [List.cons.injEq,Value.slice.injEq,and_true] at hv
 obtain⟨rfl,rfl,rfl⟩:=hv
 have hl:(l.drop i).length=l.length-i:=by simp
 by_cases h0:i=l.length
 ·refine ⟨[],⟨_,_,by rw [hl],by rw [hl];omega,by omega,.inl ⟨?_,rfl⟩⟩,by simp⟩
  subst h0;simp
 ·rcases h with⟨rfl,_⟩ | ⟨_,b,off,fps,ha,rfl,hb,he⟩
  ·simp at hi;simp at h0;omega
  ·subst ha
   refine ⟨b::(List.range (l.length-i)).flatMap λ j=>fps (i+j),⟨_,_,by rw [hl],by rw [hl];omega,by omega,.inr ⟨by omega,b,off+i * S.m,λ j=>fps (i+j),?_,by rw [hl],hb,λ j hj=>?_⟩⟩,?_⟩
   ·rw [if_neg (by omega),Option.map_some,Addr.add_lit]
   ·rw [hl] at hj
    obtain⟨es,h1,h2⟩:=he (i+j) (by omega)
    refine ⟨es,⟨h1.1,λ x hx=>?_⟩,by rw [List.getElem_drop];exact h2⟩
    rw [← h1.2 x hx]
    congr 2
    rw [Nat.add_mul];omega
   ·intro x hx
    rcases List.mem_cons.1 hx with rfl | hx
    ·simp
    ·obtain⟨j,hj,hx⟩:=List.mem_flatMap.1 hx
     refine List.mem_cons_of_mem _ (List.mem_flatMap.2 ⟨i+j,?_,hx⟩)
     simp only [List.mem_range] at hj ⊢
     omega
theorem ZjX {l:List Tok} (h:Zaw l<=1048576):l.length<=1048576:=by unfold Zaw at h;omega
theorem ZjY {l:List Tok} (h:Zaw l<=1048576):∀ k,(hk:k<l.length)->l[k].hidden.length<=2000000:=λ k hk=>by
 have h1:=Zey ZaL l k hk
 unfold Zaw at h
 have h2:ZaL l[k]=l[k].text.size+(l[k].hidden.length+(l[k].hidden.map (·.size)).sum):=rfl
 omega
theorem ZaR:∀ l:List Tok,ZaF l<=3 * Zaw l
 | []=>Nat.zero_le _
 |
  t::l=>by
  have ih:=ZaR l
  have h1:ZaF (t::l)=ZaO t+ZaF l:=by unfold ZaF ZaD;simp
  have h2:ZaO t=3+t.hidden.length:=rfl
  have h3:Zaw (t::l)=1+ZaL t+Zaw l:=by unfold Zaw;simp;omega
  have h4:ZaL t=t.text.size+(t.hidden.length+(t.hidden.map (·.size)).sum):=rfl
  omega
theorem ZkN (x:DMacro):ZbQ x<=2+3 * ZaG x:=by
 have h1:=ZaR x.body
 have h2:ZaG x=x.name.size+(x.params.length+(x.params.map (·.size)).sum)+Zaw x.body:=rfl
 have h3:ZbQ x=2+x.params.length+ZaF x.body:=rfl
 omega
theorem ZaZ:∀ l:List DMacro,Zce l<=3 * Zaz l
 | []=>Nat.zero_le _
 |
  m::l=>by
  have ih:=ZaZ l
  have h1:Zce (m::l)=ZbQ m+Zce l:=by unfold Zce ZaD;simp
  have h2:=ZkN m
  have h3:Zaz (m::l)=1+ZaG m+Zaz l:=by unfold Zaz;simp;omega
  omega
open Go.RowKit Go.ChangeShapes Go.WideShapes Go.Deep
abbrev sToks:Shape (List Tok):=Zaa sTok
theorem ZdC:TI Tryz.prog 110 28 (.slice none 0 0) 1 24:=⟨by kernel_rfl,by kernel_rfl⟩
theorem Zer {α:Type} {S:Shape α} {w:World} {cs:List Value} {l:List α} {fp:List Nat} (H:(Zaa S).R w cs l fp):∃ a cap,cs=[.slice a l.length cap]:=by
 obtain⟨a,cap,h,-⟩:=H
 exact⟨a,cap,h⟩
theorem ZjZ {w:World} {b off i:Nat} {v:Value} (h:ElemAt w b off 1 i [v]):w.cell? ⟨b,off+i,none⟩=some v:=by
 have:=h.2 0 (by decide)
 simpa using this
end Go.Proofs.YtiaiggjfepoahaaGreat
