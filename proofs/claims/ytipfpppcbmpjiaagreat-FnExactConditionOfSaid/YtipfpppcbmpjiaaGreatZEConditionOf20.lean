/- Texts that the proof of EConditionOf stands on, in one file. -/
import Derived.Test.YtipfpppcbmpjiaaGreatZEConditionOf19
set_option linter.unusedVariables false
set_option maxHeartbeats 16000000
set_option maxRecDepth 100000
set_option linter.unusedSimpArgs false
/- Expand and ExpandLine of the program. -/
namespace Go.Proofs.YtipfpppcbmpjiaaGreat
open Go.RowKit
theorem exp_bad (T:List DMacro):∀ (n:Nat) (w:List Tok) (s:Nat) (out:List Tok),(expG T n s out w).2.2≠0->(expG T n s out w).1=[]:=by
 intro n
 induction n with
 |
  zero =>
  intro w
  induction w with
  | nil=>intro s out h;rw [Zb9] at h;exact absurd rfl h
  |
   cons t r ih =>
   intro s out h
   cases hg:goM T (t::r) with
   |
    none =>
    by_cases hl:60<out.length+1
    ·rw [ZbB hg hl]
    ·rw [ZbA hg hl] at h ⊢;exact ih s _ h
   | some m=>rw [expG,hg]
 |
  succ n ihn =>
  intro w
  induction w with
  | nil=>intro s out h;rw [Zb9] at h;exact absurd rfl h
  |
   cons t r ih =>
   intro s out h
   cases hg:goM T (t::r) with
   |
    none =>
    by_cases hl:60<out.length+1
    ·rw [ZbB hg hl]
    ·rw [ZbA hg hl] at h ⊢;exact ih s _ h
   |
    some m =>
    cases s with
    | zero=>rw [Zdh hg]
    |
     succ s =>
     rw [ZkV hg] at h ⊢
     split
     ·rename_i h2
      rw [if_pos h2] at h
      exact ihn _ _ _ h
     ·rfl
def ZiV (r:List Tok × Int) (w:World) (e:Ending) (w':World):Prop:=
 ∃ (v:Value) (fp:List Nat),e=.returned (.tuple #[v,.int .i64 r.2])/\(Zaa sTok).R w' [v] r.1 fp/\Own w' w.heap.size fp/\Below w.heap.size w w'
theorem Zih {r:List Tok × Int} {c:Int} {w W:World} (h:r=([],c)) (hb:Below w.heap.size w W):ZiV r w (.returned (.tuple #[.slice none 0 0,.int .i64 c])) W:=
 ⟨_,[],by rw [h],by rw [h];exact Zay _ _ _ _ (by simp),Own.nil _ _,hb⟩
theorem Zlt (vT:Value) (T:List DMacro) (fpT:List Nat) (v:Value) (l:List Tok) (fp:List Nat) (w:World) (HT:(Zaa sMacro).R w [vT] T fpT) (H:(Zaa sTok).R w [v] l fp):Calls Tryz.prog 17 #[vT,v] w (ZiV (Zbo T l) w):=by
 have HVT:=Qh (Zek vT T fpT w HT)
 have HVL:=Qh (λ (U:World) (hU:Below w.heap.size w U)=>Zbg v l fp U ((Zaa sTok).below H hU))
 have HT0:=Qh HT
 have HL0:=Qh H
 have HLT:=Qh ((Zaa sMacro).lt HT)
 have HLL:=Qh ((Zaa sTok).lt H)
 obtain⟨aT,cT,rfl,-⟩:=Zac HT
 obtain⟨al,cl,rfl,-⟩:=Zac H
 clear HT H
 go_enter Tryz.func17,Tryz.ntmps17
 cases ht:tabOk T
 ·have HF:=Qh (ZdI (T:=T) (l:=l) (λ h=>by rw [ht] at h;exact absurd h.1 (by simp)))
  rw [ht] at HVT
  clear ht HVL
  go_wp2_with fail
  refine HVT.out.mono ?_
  rintro e w3 ⟨rfl,hb3⟩
  go_wp2
  go_ret2
  exact Zih HF.out hb3
 cases hv:Zaj l
 ·have HF:=Qh (ZdI (T:=T) (l:=l) (λ h=>by rw [hv] at h;exact absurd h.2 (by simp)))
  rw [ht] at HVT
  rw [hv] at HVL
  clear ht hv
  go_wp2_with fail
  refine HVT.out.mono ?_
  rintro e w3 ⟨rfl,hb3⟩
  go_wp2_with fail
  refine (HVL.out w3 hb3).mono ?_
  rintro e w4 ⟨rfl,hb4⟩
  go_wp2
  go_ret2
  exact Zih HF.out (hb3.trans (hb4.mono hb3.size))
 have HEX:Hid (∀ (eb:Nat) (W:World),Below w.heap.size w W->w.heap.size<=eb->EBox eb (.slice aT T.length cT) 0 W->Calls Tryz.prog 39 #[.pointer (some ⟨eb,0,none⟩),.slice al l.length cl] W (MineX eb (.slice aT T.length cT) (expG T 100 100 [] l) W)):=λ eb W hW hge hB =>
  Zls (T:=T) (N:=Zdj T l) ht (λ m hm=>List.mem_append.2 (.inl (List.mem_map.2 ⟨m,hm,rfl⟩))) (Zgf ht hv) 100 (by omega) eb _ fpT _ l fp 100 0 W (Nat.le_refl _) (by omega) (Zan hv).1 (λ t ht'=>⟨Tx.toks hv t ht',Zht hv t ht'⟩) hB ((Zaa sMacro).below HT0.out hW) (λ h=>by have:=HLT.out _ h;omega) ((Zaa sTok).below HL0.out hW) (λ h=>by have:=HLL.out _ h;omega)
 have HXR:Hid (Zbo T l=((expG T 100 100 [] l).1,(expG T 100 100 [] l).2.2)):=by
  show _=_
  unfold Zbo
  rw [if_pos ⟨ht,hv⟩]
  split
  ·rename_i h;rw [h]
  ·rename_i h;rw [exp_bad T 100 l 100 [] h]
 rw [ht] at HVT
 rw [hv] at HVL
 rcases hq:expG T 100 100 [] l with⟨x,lf,c⟩
 unfold MineX at HEX
 rw [hq] at HEX HXR
 try dsimp only at HEX HXR
 clear ht hv hq
 go_wp2_with fail
 refine HVT.out.mono ?_
 rintro e w3 ⟨rfl,hb3⟩
 go_wp2_with fail
 refine (HVL.out w3 hb3).mono ?_
 rintro e w4 ⟨rfl,hb4⟩
 have hb:=hb3.trans (hb4.mono hb3.size)
 have ba:=Zab w4 (.cells #[.slice aT T.length cT,.int .i64 0] 74)
 have HB5:=Qh (heap_alloc_new w4 (.cells #[.slice aT T.length cT,.int .i64 0] 74))
 have hb5:=hb.trans (ba.mono hb.size)
 have HC:=Qh (HEX.out w4.heap.size _ hb5 hb.size HB5.out)
 clear HEX HVT HVL hb3 hb4 ba
 go_wp2_with fail
 refine HC.out.mono ?_
 rintro e w6 ⟨vx,L,k6,rfl,RL,hLd,OL,-,-,K6⟩
 obtain⟨fx,rx,-,ox⟩:=RL.read
 rw [hLd] at rx
 have HRX:=Qh rx
 have HOX:=Qh ((ox OL).lower (lo':=w.heap.size) hb5.size)
 have hb6:Below w.heap.size w w6:=hb5.trans (K6.below (λ b hb'=>by rw [Qm hb'];exact hb.size) hb5.size)
 obtain⟨ax,cx,rfl,-⟩:=Zac rx
 clear RL hLd OL K6 rx ox HC HB5
 go_wp2
 go_ret2
 exact⟨_,fx,by rw [HXR.out];rfl,by rw [HXR.out];exact HRX.out,HOX.out,hb6⟩
def marksV:List (List UInt8):=[[43],[45],[42],[47],[37],[61,61],[33,61],[60],[62],[60,61],[62,61],[38,38],[124,124]]
theorem rank_in:∀ s∈marksV,rankT s≠0:=by decide
theorem ZnL {s:List UInt8} (h:rankT s=0):∀ x∈marksV,(s==x)=false:=λ x hx=>by
 cases e:(s==x)
 ·rfl
 ·rw [beq_iff_eq] at e
  subst e
  exact absurd h (rank_in _ hx)
theorem Zex (s:ByteArray) (w:World):Calls Tryz.prog 93 #[.string s] w λ e w'=>e=.returned (.int .i64 (rankT s.toList:Nat))/\w'=w:=by
 by_cases h0:rankT s.toList=0
 ·have HF:=Qh h0
  have hn:=ZnL h0
  clear h0
  have n0:(s.toList==[43])=false:=hn _ (by decide)
  have n1:(s.toList==[45])=false:=hn _ (by decide)
  have n2:(s.toList==[42])=false:=hn _ (by decide)
  have n3:(s.toList==[47])=false:=hn _ (by decide)
  have n4:(s.toList==[37])=false:=hn _ (by decide)
  have n5:(s.toList==[61,61])=false:=hn _ (by decide)
  have n6:(s.toList==[33,61])=false:=hn _ (by decide)
  have n7:(s.toList==[60])=false:=hn _ (by decide)
  have n8:(s.toList==[62])=false:=hn _ (by decide)
  have n9:(s.toList==[60,61])=false:=hn _ (by decide)
  have n10:(s.toList==[62,61])=false:=hn _ (by decide)
  have n11:(s.toList==[38,38])=false:=hn _ (by decide)
  have n12:(s.toList==[124,124])=false:=hn _ (by decide)
  clear hn
  go_enter Tryz.func93,Tryz.ntmps93
  go_wp2
  go_ret
  exact⟨by rw [HF.out];rfl,rfl⟩
 have HW:=Zew h0
 clear h0
 rcases HW with h | h | h | h | h | h | h | h | h | h | h | h | h
 ·have hs2:=Zau h
  subst hs2
  clear h
  go_enter Tryz.func93,Tryz.ntmps93
  go_wp2
  go_ret
  exact⟨by rw [ByteArray.toList_eq];rfl,rfl⟩
 ·have hs2:=Zau h
  subst hs2
  clear h
  go_enter Tryz.func93,Tryz.ntmps93
  go_wp2
  go_ret
  exact⟨by rw [ByteArray.toList_eq];rfl,rfl⟩
 ·have hs2:=Zau h
  subst hs2
  clear h
  go_enter Tryz.func93,Tryz.ntmps93
  go_wp2
  go_ret
  exact⟨by rw [ByteArray.toList_eq];rfl,rfl⟩
 ·have hs2:=Zau h
  subst hs2
  clear h
  go_enter Tryz.func93,Tryz.ntmps93
  go_wp2
  go_ret
  exact⟨by rw [ByteArray.toList_eq];rfl,rfl⟩
 ·have hs2:=Zau h
  subst hs2
  clear h
  go_enter Tryz.func93,Tryz.ntmps93
  go_wp2
  go_ret
  exact⟨by rw [ByteArray.toList_eq];rfl,rfl⟩
 ·have hs2:=Zau h
  subst hs2
  clear h
  go_enter Tryz.func93,Tryz.ntmps93
  go_wp2
  go_ret
  exact⟨by rw [ByteArray.toList_eq];rfl,rfl⟩
 ·have hs2:=Zau h
  subst hs2
  clear h
  go_enter Tryz.func93,Tryz.ntmps93
  go_wp2
  go_ret
  exact⟨by rw [ByteArray.toList_eq];rfl,rfl⟩
 ·have hs2:=Zau h
  subst hs2
  clear h
  go_enter Tryz.func93,Tryz.ntmps93
  go_wp2
  go_ret
  exact⟨by rw [ByteArray.toList_eq];rfl,rfl⟩
 ·have hs2:=Zau h
  subst hs2
  clear h
  go_enter Tryz.func93,Tryz.ntmps93
  go_wp2
  go_ret
  exact⟨by rw [ByteArray.toList_eq];rfl,rfl⟩
 ·have hs2:=Zau h
  subst hs2
  clear h
  go_enter Tryz.func93,Tryz.ntmps93
  go_wp2
  go_ret
  exact⟨by rw [ByteArray.toList_eq];rfl,rfl⟩
 ·have hs2:=Zau h
  subst hs2
  clear h
  go_enter Tryz.func93,Tryz.ntmps93
  go_wp2
  go_ret
  exact⟨by rw [ByteArray.toList_eq];rfl,rfl⟩
 ·have hs2:=Zau h
  subst hs2
  clear h
  go_enter Tryz.func93,Tryz.ntmps93
  go_wp2
  go_ret
  exact⟨by rw [ByteArray.toList_eq];rfl,rfl⟩
 ·have hs2:=Zau h
  subst hs2
  clear h
  go_enter Tryz.func93,Tryz.ntmps93
  go_wp2
  go_ret
  exact⟨by rw [ByteArray.toList_eq];rfl,rfl⟩
theorem Zcn (n:Int) (w:World):Calls Tryz.prog 126 #[.int .i64 n] w λ e w'=>e=.returned (.bool (inR n))/\w'=w:=by
 go_enter Tryz.func126,Tryz.ntmps126
 by_cases h1:-1000000<=n
 ·by_cases h2:n<=1000000
  ·have HF:Hid (inR n=true):=inR_iff.2 ⟨h1,h2⟩
   have e1:decide (-1000000<=n)=true:=decide_eq_true h1
   have e2:decide (n<=1000000)=true:=decide_eq_true h2
   clear h1 h2
   go_wp2
   go_ret
   exact⟨by rw [HF.out] <;> rfl,rfl⟩
  ·have HF:Hid (inR n=false):=by
    cases e:inR n
    ·exact rfl
    ·exact absurd (inR_iff.1 e).2 h2
   have e1:decide (-1000000<=n)=true:=decide_eq_true h1
   have e2:decide (n<=1000000)=false:=decide_eq_false h2
   clear h1 h2
   go_wp2
   go_ret
   exact⟨by rw [HF.out] <;> rfl,rfl⟩
 ·have HF:Hid (inR n=false):=by
   cases e:inR n
   ·exact rfl
   ·exact absurd (inR_iff.1 e).1 h1
  have e1:decide (-1000000<=n)=false:=decide_eq_false h1
  clear h1
  go_wp2
  go_ret
  exact⟨by rw [HF.out] <;> rfl,rfl⟩
theorem Zbk (b:Bool) (w:World):Calls Tryz.prog 124 #[.bool b] w λ e w'=>e=.returned (.int .i64 (bit1 b))/\w'=w:=by
 cases b
 ·go_enter Tryz.func124,Tryz.ntmps124
  go_wp2
  go_ret
  exact⟨rfl,rfl⟩
 ·go_enter Tryz.func124,Tryz.ntmps124
  go_wp2
  go_ret
  exact⟨rfl,rfl⟩
def holT (s:List UInt8) (a b:Int):Bool:=
 if s=[61,61] then decide (a=b) else if s=[33,61] then decide (a≠b) else if s=[60] then decide (a<b) else if s=[62] then decide (b<a)
 else if s=[60,61] then decide (a<=b) else if s=[62,61] then decide (b<=a) else if s=[38,38] then decide (a≠0) && decide (b≠0) else decide (a≠0) || decide (b≠0)
def Comp (s:List UInt8):Prop:=s=[61,61]\/s=[33,61]\/s=[60]\/s=[62]\/s=[60,61]\/s=[62,61]\/s=[38,38]\/s=[124,124]
theorem ZdB {s:List UInt8} {a b:Int} (h:Comp s):opM s a b=bit1 (holT s a b):=by
 rcases h with h | h | h | h | h | h | h | h <;> subst h <;> rfl
theorem ZaX {s:ByteArray} {l:List UInt8} {a b:Int} {w:World} {c:Bool} (h:s.toList=l) (hc:holT l a b=c):(Ending.returned (.bool c)=.returned (.bool (holT s.toList a b)))/\w=w:=⟨by rw [h,hc],rfl⟩
theorem ZbO (s:ByteArray) (a b:Int) (w:World) (h:Comp s.toList):Calls Tryz.prog 142 #[.string s,.int .i64 a,.int .i64 b] w λ e w'=>e=.returned (.bool (holT s.toList a b))/\w'=w:=by
 rcases h with h | h | h | h | h | h | h | h
 ·have hs2:=Zau h
  subst hs2
  clear h
  by_cases hq:a=b
  ·have HF:Hid (holT [61,61] a b=true):=by show _=_;simp [holT,hq] <;> omega
   have e1:(a==b)=true:=by simp [hq]
   clear hq
   go_enter Tryz.func142,Tryz.ntmps142
   go_wp2
   go_ret
   exact ZaX (by rw [ByteArray.toList_eq]) HF.out
  ·have HF:Hid (holT [61,61] a b=false):=by show _=_;simp [holT,hq] <;> omega
   have e1:(a==b)=false:=by simp [hq]
   clear hq
   go_enter Tryz.func142,Tryz.ntmps142
   go_wp2
   go_ret
   exact ZaX (by rw [ByteArray.toList_eq]) HF.out
 ·have hs2:=Zau h
  subst hs2
  clear h
  by_cases hq:a=b
  ·have HF:Hid (holT [33,61] a b=false):=by show _=_;simp [holT,hq] <;> omega
   have e1:(a != b)=false:=by simp [hq]
   clear hq
   go_enter Tryz.func142,Tryz.ntmps142
   go_wp2
   go_ret
   exact ZaX (by rw [ByteArray.toList_eq]) HF.out
  ·have HF:Hid (holT [33,61] a b=true):=by show _=_;simp [holT,hq] <;> omega
   have e1:(a != b)=true:=by simp [hq]
   clear hq
   go_enter Tryz.func142,Tryz.ntmps142
   go_wp2
   go_ret
   exact ZaX (by rw [ByteArray.toList_eq]) HF.out
 ·have hs2:=Zau h
  subst hs2
  clear h
  by_cases hq:a<b
  ·have HF:Hid (holT [60] a b=true):=by show _=_;simp [holT,hq] <;> omega
   have e1:decide (a<b)=true:=by simp [hq]
   clear hq
   go_enter Tryz.func142,Tryz.ntmps142
   go_wp2
   go_ret
   exact ZaX (by rw [ByteArray.toList_eq]) HF.out
  ·have HF:Hid (holT [60] a b=false):=by show _=_;simp [holT,hq] <;> omega
   have e1:decide (a<b)=false:=by simp [hq]
   clear hq
   go_enter Tryz.func142,Tryz.ntmps142
   go_wp2
   go_ret
   exact ZaX (by rw [ByteArray.toList_eq]) HF.out
 ·have hs2:=Zau h
  subst hs2
  clear h
  by_cases hq:b<a
  ·have HF:Hid (holT [62] a b=true):=by show _=_;simp [holT,hq] <;> omega
   have e1:decide (b<a)=true:=by simp [hq]
   clear hq
   go_enter Tryz.func142,Tryz.ntmps142
   go_wp2
   go_ret
   exact ZaX (by rw [ByteArray.toList_eq]) HF.out
  ·have HF:Hid (holT [62] a b=false):=by show _=_;simp [holT,hq] <;> omega
   have e1:decide (b<a)=false:=by simp [hq]
   clear hq
   go_enter Tryz.func142,Tryz.ntmps142
   go_wp2
   go_ret
   exact ZaX (by rw [ByteArray.toList_eq]) HF.out
 ·have hs2:=Zau h
  subst hs2
  clear h
  by_cases hq:a<=b
  ·have HF:Hid (holT [60,61] a b=true):=by show _=_;simp [holT,hq] <;> omega
   have e1:decide (a<=b)=true:=by simp [hq]
   clear hq
   go_enter Tryz.func142,Tryz.ntmps142
   go_wp2
   go_ret
   exact ZaX (by rw [ByteArray.toList_eq]) HF.out
  ·have HF:Hid (holT [60,61] a b=false):=by show _=_;simp [holT,hq] <;> omega
   have e1:decide (a<=b)=false:=by simp [hq]
   clear hq
   go_enter Tryz.func142,Tryz.ntmps142
   go_wp2
   go_ret
   exact ZaX (by rw [ByteArray.toList_eq]) HF.out
 ·have hs2:=Zau h
  subst hs2
  clear h
  by_cases hq:b<=a
  ·have HF:Hid (holT [62,61] a b=true):=by show _=_;simp [holT,hq] <;> omega
   have e1:decide (b<=a)=true:=by simp [hq]
   clear hq
   go_enter Tryz.func142,Tryz.ntmps142
   go_wp2
   go_ret
   exact ZaX (by rw [ByteArray.toList_eq]) HF.out
  ·have HF:Hid (holT [62,61] a b=false):=by show _=_;simp [holT,hq] <;> omega
   have e1:decide (b<=a)=false:=by simp [hq]
   clear hq
   go_enter Tryz.func142,Tryz.ntmps142
   go_wp2
   go_ret
   exact ZaX (by rw [ByteArray.toList_eq]) HF.out
 ·have hs2:=Zau h
  subst hs2
  clear h
  by_cases hq:a=0
  ·have e1:(a != 0)=false:=by simp [hq]
   by_cases hq2:b=0
   ·have e2:(b != 0)=false:=by simp [hq2]
    have HF:Hid (holT [38,38] a b=false):=by show _=_;simp [holT,hq,hq2]
    clear hq hq2
    go_enter Tryz.func142,Tryz.ntmps142
    go_wp2
    go_ret
    exact ZaX (by rw [ByteArray.toList_eq]) HF.out
   ·have e2:(b != 0)=true:=by simp [hq2]
    have HF:Hid (holT [38,38] a b=false):=by show _=_;simp [holT,hq,hq2]
    clear hq hq2
    go_enter Tryz.func142,Tryz.ntmps142
    go_wp2
    go_ret
    exact ZaX (by rw [ByteArray.toList_eq]) HF.out
  ·have e1:(a != 0)=true:=by simp [hq]
   by_cases hq2:b=0
   ·have e2:(b != 0)=false:=by simp [hq2]
    have HF:Hid (holT [38,38] a b=false):=by show _=_;simp [holT,hq,hq2]
    clear hq hq2
    go_enter Tryz.func142,Tryz.ntmps142
    go_wp2
    go_ret
    exact ZaX (by rw [ByteArray.toList_eq]) HF.out
   ·have e2:(b != 0)=true:=by simp [hq2]
    have HF:Hid (holT [38,38] a b=true):=by show _=_;simp [holT,hq,hq2]
    clear hq hq2
    go_enter Tryz.func142,Tryz.ntmps142
    go_wp2
    go_ret
    exact ZaX (by rw [ByteArray.toList_eq]) HF.out
 ·have hs2:=Zau h
  subst hs2
  clear h
  by_cases hq:a=0
  ·have e1:(a != 0)=false:=by simp [hq]
   by_cases hq2:b=0
   ·have e2:(b != 0)=false:=by simp [hq2]
    have HF:Hid (holT [124,124] a b=false):=by show _=_;simp [holT,hq,hq2]
    clear hq hq2
    go_enter Tryz.func142,Tryz.ntmps142
    go_wp2
    go_ret
    exact ZaX (by rw [ByteArray.toList_eq]) HF.out
   ·have e2:(b != 0)=true:=by simp [hq2]
    have HF:Hid (holT [124,124] a b=true):=by show _=_;simp [holT,hq,hq2]
    clear hq hq2
    go_enter Tryz.func142,Tryz.ntmps142
    go_wp2
    go_ret
    exact ZaX (by rw [ByteArray.toList_eq]) HF.out
  ·have e1:(a != 0)=true:=by simp [hq]
   by_cases hq2:b=0
   ·have e2:(b != 0)=false:=by simp [hq2]
    have HF:Hid (holT [124,124] a b=true):=by show _=_;simp [holT,hq,hq2]
    clear hq hq2
    go_enter Tryz.func142,Tryz.ntmps142
    go_wp2
    go_ret
    exact ZaX (by rw [ByteArray.toList_eq]) HF.out
   ·have e2:(b != 0)=true:=by simp [hq2]
    have HF:Hid (holT [124,124] a b=true):=by show _=_;simp [holT,hq,hq2]
    clear hq hq2
    go_enter Tryz.func142,Tryz.ntmps142
    go_wp2
    go_ret
    exact ZaX (by rw [ByteArray.toList_eq]) HF.out
theorem ZdE (s:ByteArray) (a b:Int) (w:World) (h0:rankT s.toList≠0) (ha:inR a=true) (hb:inR b=true) (hz:s.toList=[47]\/s.toList=[37]->b≠0) :
  Calls Tryz.prog 127 #[.string s,.int .i64 a,.int .i64 b] w λ e w'=>e=.returned (.int .i64 (opM s.toList a b))/\w'=w:=by
 have hai:=inR_iff.1 ha
 have hbi:=inR_iff.1 hb
 have HW:=Zew h0
 clear h0 ha hb
 rcases HW with h | h | h | h | h | h | h | h | h | h | h | h | h
 ·have hs2:=Zau h
  subst hs2
  clear h hz
  go_enter Tryz.func127,Tryz.ntmps127
  go_wp2
  go_ret
  exact⟨by rw [ByteArray.toList_eq];rfl,rfl⟩
 ·have hs2:=Zau h
  subst hs2
  clear h hz
  go_enter Tryz.func127,Tryz.ntmps127
  go_wp2
  go_ret
  exact⟨by rw [ByteArray.toList_eq];rfl,rfl⟩
 ·have hs2:=Zau h
  subst hs2
  have hm1:-1000000000000<=a * b/\a * b<=1000000000000:=Zjy hai hbi
  clear h hz
  go_enter Tryz.func127,Tryz.ntmps127
  go_wp2
  go_ret
  exact⟨by rw [ByteArray.toList_eq];rfl,rfl⟩
 ·have hs2:=Zau h
  subst hs2
  have h0:b≠0:=hz (.inl h)
  have hq:=Zjz hai hbi h0
  have e0:(b==0)=false:=by simp [h0]
  clear h hz
  go_enter Tryz.func127,Tryz.ntmps127
  go_wp2
  go_ret
  exact⟨by rw [ByteArray.toList_eq];rfl,rfl⟩
 ·have hs2:=Zau h
  subst hs2
  have h0:b≠0:=hz (.inr h)
  have hq:=ZjA hai hbi h0
  have e0:(b==0)=false:=by simp [h0]
  clear h hz
  go_enter Tryz.func127,Tryz.ntmps127
  go_wp2
  go_ret
  exact⟨by rw [ByteArray.toList_eq];rfl,rfl⟩
 ·have hs2:=Zau h
  subst hs2
  have hc:Comp (⟨#[61,61]⟩:ByteArray).toList:=by rw [ByteArray.toList_eq];unfold Comp;simp
  have HH:=Qh (ZbO ⟨#[61,61]⟩ a b w hc)
  have HO:=Qh (ZdB (a:=a) (b:=b) hc)
  generalize holT (⟨#[61,61]⟩:ByteArray).toList a b=c at HH HO
  clear h hz hc
  go_enter Tryz.func127,Tryz.ntmps127
  go_wp2_with fail
  refine HH.out.mono ?_
  rintro e w2 ⟨rfl,rfl⟩
  go_wp2_with fail
  refine (Zbk c _).mono ?_
  rintro e w3 ⟨rfl,rfl⟩
  go_wp2
  go_ret
  exact⟨by rw [HO.out] <;> rfl,rfl⟩
 ·have hs2:=Zau h
  subst hs2
  have hc:Comp (⟨#[33,61]⟩:ByteArray).toList:=by rw [ByteArray.toList_eq];unfold Comp;simp
  have HH:=Qh (ZbO ⟨#[33,61]⟩ a b w hc)
  have HO:=Qh (ZdB (a:=a) (b:=b) hc)
  generalize holT (⟨#[33,61]⟩:ByteArray).toList a b=c at HH HO
  clear h hz hc
  go_enter Tryz.func127,Tryz.ntmps127
  go_wp2_with fail
  refine HH.out.mono ?_
  rintro e w2 ⟨rfl,rfl⟩
  go_wp2_with fail
  refine (Zbk c _).mono ?_
  rintro e w3 ⟨rfl,rfl⟩
  go_wp2
  go_ret
  exact⟨by rw [HO.out] <;> rfl,rfl⟩
 ·have hs2:=Zau h
  subst hs2
  have hc:Comp (⟨#[60]⟩:ByteArray).toList:=by rw [ByteArray.toList_eq];unfold Comp;simp
  have HH:=Qh (ZbO ⟨#[60]⟩ a b w hc)
  have HO:=Qh (ZdB (a:=a) (b:=b) hc)
  generalize holT (⟨#[60]⟩:ByteArray).toList a b=c at HH HO
  clear h hz hc
  go_enter Tryz.func127,Tryz.ntmps127
  go_wp2_with fail
  refine HH.out.mono ?_
  rintro e w2 ⟨rfl,rfl⟩
  go_wp2_with fail
  refine (Zbk c _).mono ?_
  rintro e w3 ⟨rfl,rfl⟩
  go_wp2
  go_ret
  exact⟨by rw [HO.out] <;> rfl,rfl⟩
 ·have hs2:=Zau h
  subst hs2
  have hc:Comp (⟨#[62]⟩:ByteArray).toList:=by rw [ByteArray.toList_eq];unfold Comp;simp
  have HH:=Qh (ZbO ⟨#[62]⟩ a b w hc)
  have HO:=Qh (ZdB (a:=a) (b:=b) hc)
  generalize holT (⟨#[62]⟩:ByteArray).toList a b=c at HH HO
  clear h hz hc
  go_enter Tryz.func127,Tryz.ntmps127
  go_wp2_with fail
  refine HH.out.mono ?_
  rintro e w2 ⟨rfl,rfl⟩
  go_wp2_with fail
  refine (Zbk c _).mono ?_
  rintro e w3 ⟨rfl,rfl⟩
  go_wp2
  go_ret
  exact⟨by rw [HO.out] <;> rfl,rfl⟩
 ·have hs2:=Zau h
  subst hs2
  have hc:Comp (⟨#[60,61]⟩:ByteArray).toList:=by rw [ByteArray.toList_eq];unfold Comp;simp
  have HH:=Qh (ZbO ⟨#[60,61]⟩ a b w hc)
  have HO:=Qh (ZdB (a:=a) (b:=b) hc)
  generalize holT (⟨#[60,61]⟩:ByteArray).toList a b=c at HH HO
  clear h hz hc
  go_enter Tryz.func127,Tryz.ntmps127
  go_wp2_with fail
  refine HH.out.mono ?_
  rintro e w2 ⟨rfl,rfl⟩
  go_wp2_with fail
  refine (Zbk c _).mono ?_
  rintro e w3 ⟨rfl,rfl⟩
  go_wp2
  go_ret
  exact⟨by rw [HO.out] <;> rfl,rfl⟩
 ·have hs2:=Zau h
  subst hs2
  have hc:Comp (⟨#[62,61]⟩:ByteArray).toList:=by rw [ByteArray.toList_eq];unfold Comp;simp
  have HH:=Qh (ZbO ⟨#[62,61]⟩ a b w hc)
  have HO:=Qh (ZdB (a:=a) (b:=b) hc)
  generalize holT (⟨#[62,61]⟩:ByteArray).toList a b=c at HH HO
  clear h hz hc
  go_enter Tryz.func127,Tryz.ntmps127
  go_wp2_with fail
  refine HH.out.mono ?_
  rintro e w2 ⟨rfl,rfl⟩
  go_wp2_with fail
  refine (Zbk c _).mono ?_
  rintro e w3 ⟨rfl,rfl⟩
  go_wp2
  go_ret
  exact⟨by rw [HO.out] <;> rfl,rfl⟩
 ·have hs2:=Zau h
  subst hs2
  have hc:Comp (⟨#[38,38]⟩:ByteArray).toList:=by rw [ByteArray.toList_eq];unfold Comp;simp
  have HH:=Qh (ZbO ⟨#[38,38]⟩ a b w hc)
  have HO:=Qh (ZdB (a:=a) (b:=b) hc)
  generalize holT (⟨#[38,38]⟩:ByteArray).toList a b=c at HH HO
  clear h hz hc
  go_enter Tryz.func127,Tryz.ntmps127
  go_wp2_with fail
  refine HH.out.mono ?_
  rintro e w2 ⟨rfl,rfl⟩
  go_wp2_with fail
  refine (Zbk c _).mono ?_
  rintro e w3 ⟨rfl,rfl⟩
  go_wp2
  go_ret
  exact⟨by rw [HO.out] <;> rfl,rfl⟩
 ·have hs2:=Zau h
  subst hs2
  have hc:Comp (⟨#[124,124]⟩:ByteArray).toList:=by rw [ByteArray.toList_eq];unfold Comp;simp
  have HH:=Qh (ZbO ⟨#[124,124]⟩ a b w hc)
  have HO:=Qh (ZdB (a:=a) (b:=b) hc)
  generalize holT (⟨#[124,124]⟩:ByteArray).toList a b=c at HH HO
  clear h hz hc
  go_enter Tryz.func127,Tryz.ntmps127
  go_wp2_with fail
  refine HH.out.mono ?_
  rintro e w2 ⟨rfl,rfl⟩
  go_wp2_with fail
  refine (Zbk c _).mono ?_
  rintro e w3 ⟨rfl,rfl⟩
  go_wp2
  go_ret
  exact⟨by rw [HO.out] <;> rfl,rfl⟩
theorem ZkW {s:List UInt8} {a b:Int} (h0:rankT s≠0) (ha:inR a=true) (hb:inR b=true) (hz:s=[47]\/s=[37]) (h:b=0):Zah s a b=(0,2):=by
 unfold Zah
 rw [if_neg (by rw [ha,hb];simpa using h0),if_pos ⟨hz,h⟩]
theorem ZiW {s:List UInt8} {a b:Int} (h0:rankT s≠0) (ha:inR a=true) (hb:inR b=true) (hz:s=[47]\/s=[37]->b≠0):Zah s a b=if inR (opM s a b)=true then (opM s a b,0) else (0,3):=by
 unfold Zah
 rw [if_neg (by rw [ha,hb];simpa using h0),if_neg (λ h=>hz h.1 h.2)]
theorem Y20A1 {g:Prop} (h:g:=by
 go_enter Tryz.func94,Tryz.ntmps94
 go_wp2_with fail
 refine HS.out.mono ?_
 rintro e w2 ⟨rfl,rfl⟩
 go_wp2_with fail
 refine HIA.out.mono ?_
 rintro e w3 ⟨rfl,rfl⟩
 go_wp2_with fail
 refine HIB.out.mono ?_
 rintro e w4 ⟨rfl,rfl⟩
 go_wp2_with fail
 refine HR.out.mono ?_
 rintro e w5 ⟨rfl,rfl⟩
 cases hin:inR q
 ·have HG:Hid (Zah s.toList a b=(0,3)):=by show _=_;rw [HF.out,hin];rfl
  rw [hin] at HIQ
  clear hin
  go_wp2_with fail
  refine HIQ.out.mono ?_
  rintro e w6 ⟨rfl,rfl⟩
  go_wp2
  go_ret2
  exact ZaR HG.out (Below.refl _ _)
 ·have HG:Hid (Zah s.toList a b=(q,0)):=by show _=_;rw [HF.out,hin];rfl
  rw [hin] at HIQ
  clear hin
  go_wp2_with fail
  refine HIQ.out.mono ?_
  rintro e w6 ⟨rfl,rfl⟩
  go_wp2
  go_ret2
  exact ZaR HG.out (Below.refl _ _)):g:=h
theorem Y20A2 {g:Prop} (h:g:=by
 go_enter Tryz.func94,Tryz.ntmps94
 go_wp2_with fail
 refine HS.out.mono ?_
 rintro e w2 ⟨rfl,rfl⟩
 go_wp2_with fail
 refine HIA.out.mono ?_
 rintro e w3 ⟨rfl,rfl⟩
 go_wp2_with fail
 refine HIB.out.mono ?_
 rintro e w4 ⟨rfl,rfl⟩
 go_wp2
 go_ret2
 exact ZaR HF.out (Below.refl _ _)):g:=h
theorem ZnM (s:ByteArray) (a b:Int) (w:World):Calls Tryz.prog 94 #[.string s,.int .i64 a,.int .i64 b] w (AppOf s.toList a b w):=by
 have HS:=Qh (Zex s w)
 have HIA:=Qh (Zcn a w)
 have HIB:=Qh (Zcn b w)
 by_cases h0:rankT s.toList=0
 ·have HF:=Qh (ZkI (a:=a) (b:=b) h0)
  rw [h0] at HS
  clear h0
  go_enter Tryz.func94,Tryz.ntmps94
  go_wp2_with fail
  refine HS.out.mono ?_
  rintro e w2 ⟨rfl,rfl⟩
  go_wp2
  go_ret2
  exact ZaR HF.out (Below.refl _ _)
 have HR0:=Qh h0
 obtain⟨r,HK⟩:∃ r:Nat,Hid (r=rankT s.toList):=⟨_,Qh rfl⟩
 rw [show rankT s.toList=r from HK.out.symm] at HS h0
 have e0:((r:Int)==0)=false:=by simp;omega
 clear h0
 cases ha:inR a
 ·have HF:=Qh (app_a (s:=s.toList) (b:=b) ha)
  rw [ha] at HIA
  clear ha
  go_enter Tryz.func94,Tryz.ntmps94
  go_wp2_with fail
  refine HS.out.mono ?_
  rintro e w2 ⟨rfl,rfl⟩
  go_wp2_with fail
  refine HIA.out.mono ?_
  rintro e w3 ⟨rfl,rfl⟩
  go_wp2
  go_ret2
  exact ZaR HF.out (Below.refl _ _)
 cases hb:inR b
 ·have HF:=Qh (app_b (s:=s.toList) (a:=a) hb)
  rw [ha] at HIA
  rw [hb] at HIB
  clear ha hb
  exact Y20A2
 rw [ha] at HIA
 rw [hb] at HIB
 by_cases h47:s.toList=[47]
 ·have s1:(s.toList==[47])=true:=by simp [h47]
  by_cases hb0:b=0
  ·have HF:=Qh (ZkW HR0.out ha hb (.inl h47) hb0)
   have b0:(b==0)=true:=by simp [hb0]
   clear h47 hb0 ha hb
   exact Y20A2
  have hz:s.toList=[47]\/s.toList=[37]->b≠0:=λ _=>hb0
  have HF:=Qh (ZiW HR0.out ha hb hz)
  have HR:=Qh (ZdE s a b w HR0.out ha hb hz)
  obtain⟨q,HQ⟩:∃ q:Int,Hid (q=opM s.toList a b):=⟨_,Qh rfl⟩
  rw [show opM s.toList a b=q from HQ.out.symm] at HR HF
  have HIQ:=Qh (Zcn q w)
  have b0:(b==0)=false:=by simp [hb0]
  clear h47 hb0 ha hb hz
  exact Y20A1
 by_cases h37:s.toList=[37]
 ·have s1:(s.toList==[47])=false:=by simp [h37]
  have s2:(s.toList==[37])=true:=by simp [h37]
  by_cases hb0:b=0
  ·have HF:=Qh (ZkW HR0.out ha hb (.inr h37) hb0)
   have b0:(b==0)=true:=by simp [hb0]
   clear h47 h37 hb0 ha hb
   exact Y20A2
  have hz:s.toList=[47]\/s.toList=[37]->b≠0:=λ _=>hb0
  have HF:=Qh (ZiW HR0.out ha hb hz)
  have HR:=Qh (ZdE s a b w HR0.out ha hb hz)
  obtain⟨q,HQ⟩:∃ q:Int,Hid (q=opM s.toList a b):=⟨_,Qh rfl⟩
  rw [show opM s.toList a b=q from HQ.out.symm] at HR HF
  have HIQ:=Qh (Zcn q w)
  have b0:(b==0)=false:=by simp [hb0]
  clear h47 h37 hb0 ha hb hz
  exact Y20A1
 have hz:s.toList=[47]\/s.toList=[37]->b≠0:=λ h=>(h.elim h47 h37).elim
 have HF:=Qh (ZiW HR0.out ha hb hz)
 have HR:=Qh (ZdE s a b w HR0.out ha hb hz)
 obtain⟨q,HQ⟩:∃ q:Int,Hid (q=opM s.toList a b):=⟨_,Qh rfl⟩
 rw [show opM s.toList a b=q from HQ.out.symm] at HR HF
 have HIQ:=Qh (Zcn q w)
 have s1:(s.toList==[47])=false:=by simp [h47]
 have s2:(s.toList==[37])=false:=by simp [h37]
 clear h47 h37 ha hb hz
 by_cases hb0:b=0
 ·have b0:(b==0)=true:=by simp [hb0]
  clear hb0
  exact Y20A1
 ·have b0:(b==0)=false:=by simp [hb0]
  clear hb0
  exact Y20A1
theorem Zlu (s:ByteArray) (w:World) (hs:s.size<=maxLen) :
  Calls Tryz.prog 141 #[.string s] w λ e w'=>e=.returned (.int .i64 (Zax s.toList))/\w'=w:=by
 unfold maxLen at hs
 obtain⟨L,HL⟩:∃ L:List UInt8,Hid (L=s.toList):=⟨_,Qh rfl⟩
 rw [show s.toList=L from HL.out.symm]
 have hll:Hid (L.length=s.size):=by show _=_;rw [HL.out,ByteArray.toList_eq];simp
 have hget:Hid (∀ k (hk:k<s.size) (hk2:k<L.length),L[k]=s[k]):=λ k hk hk2=>by
  have:=HL.out
  subst this
  simp only [ByteArray.toList_eq]
  rfl
 go_enter Tryz.func141,Tryz.ntmps141
 by_cases h0:s.size<1
 ·have HF:Hid (Zax L=-1):=by show _=_;rw [List.length_eq_zero_iff.1 (by have:=hll.out;omega:L.length=0)];rfl
  have e0:decide ((s.size:Int)<1)=true:=decide_eq_true (by omega)
  go_wp2
  go_ret
  exact⟨by rw [HF.out] <;> rfl,rfl⟩
 have e0:decide ((s.size:Int)<1)=false:=decide_eq_false (by omega)
 by_cases h7:7<s.size
 ·have HF:Hid (Zax L=-1):=Zkg (by have:=hll.out;omega)
  have e1:decide ((7:Int)<(s.size:Int))=true:=decide_eq_true (by omega)
  go_wp2
  go_ret
  exact⟨by rw [HF.out] <;> rfl,rfl⟩
 have e1:decide ((7:Int)<(s.size:Int))=false:=decide_eq_false (by omega)
 go_wp2
 go_loopw [3,15] (λ vn i wr=>∃ (k:Nat) (n:Int),k<=s.size/\i=.int .i64 k/\vn=.int .i64 n/\Hid (n=digs (L.take k))/\0<=n/\n<10 ^ k/\Hid (∀ j,(hj:j<L.length)->j<k->isDig L[j]=true)/\wr=w) (λ _ i _=>s.size-(intOf i).toNat)
 case atStart=>exact⟨0,0,by omega,rfl,rfl,rfl,Int.le_refl _,by decide,(λ j _ h=>by omega),rfl⟩
 case round =>
  obtain⟨k,n,hk,rfl,rfl,HN,hn0,hn1,HD,rfl⟩:=hrel
  by_cases hlt:k<s.size
  ·have hlt2:k<L.length:=by have:=hll.out;omega
   have i0:(0:Int)<=(k:Int):=by omega
   have i1:(k:Int)<(s.size:Int):=by omega
   have HDG:=Qh (ZbU s[k] wr)
   have HG:=Qh (hget.out k hlt hlt2)
   cases hd:isDig s[k]
   ·have HF:Hid (Zax L=-1):=Ziw hlt2 (by rw [HG.out];exact hd)
    rw [hd] at HDG
    clear hd
    go_wp2_with fail
    refine HDG.out.mono ?_
    rintro e w2 ⟨rfl,rfl⟩
    go_wp2
    go_ret
    exact⟨by rw [HF.out] <;> rfl,rfl⟩
   ·have HDK:=Qh hd
    rw [hd] at HDG
    unfold isDig at hd
    rw [decide_eq_true_eq] at hd
    go_wp2_with fail
    refine HDG.out.mono ?_
    rintro e w2 ⟨rfl,rfl⟩
    have hk6:k<=6:=by omega
    have hpow:(10:Int) ^ k<=1000000:=by
     have:∀ j,j<=6->(10:Int) ^ j<=1000000:=by decide
     exact this k hk6
    have hps:(10:Int) ^ (k+1)=10 ^ k * 10:=Int.pow_succ 10 k
    have HN2:Hid (10 * n+((s[k].toNat:Int)-48)=digs (L.take (k+1))):=by show _=_;rw [Zjc hlt2,← HN.out,HG.out]
    have HD2:Hid (∀ j,(hj:j<L.length)->j<k+1->isDig L[j]=true):=λ j hj h=>by
     by_cases e:j=k
     ·subst e;rw [HG.out];exact HDK.out
     ·exact HD.out j hj (by omega)
    have w1:IntKind.i64.wrap (10 * n)=10 * n:=IntWalk.i64_in _ (by omega)
    have w2:IntKind.u8.wrap ((s[k].toNat:Int)-48)=(s[k].toNat:Int)-48:=IntWalk.u8_in _ (by omega)
    have w3:IntKind.i64.wrap ((s[k].toNat:Int)-48)=(s[k].toNat:Int)-48:=IntWalk.i64_in _ (by omega)
    have w4:IntKind.i64.wrap (10 * n+((s[k].toNat:Int)-48))=10 * n+((s[k].toNat:Int)-48):=IntWalk.i64_in _ (by omega)
    go_wp2
    go_roundw
    case rel=>exact⟨k+1,10 * n+((s[k].toNat:Int)-48),by omega,by go_num,rfl,HN2,by omega,by omega,HD2,trivial⟩
    case measure=>simp [intOf];omega
  ·have hke:k=s.size:=by omega
   have hle:L.length=k:=by rw [hll.out,hke]
   have hn9:Hid (n=digs L):=by show _=_;rw [HN.out,List.take_of_length_le (by omega)]
   have HDA:Hid (∀ j,(hj:j<L.length)->isDig L[j]=true):=λ j hj=>HD.out j hj (by omega)
   have HNE:Hid (L≠[]):=λ e=>by rw [e] at hle;simp at hle;omega
   have i2:¬ (k:Int)<(s.size:Int):=by omega
   by_cases hgr:1000000<n
   ·have HF:Hid (Zax L=-1):=Zjd (by rw [← hn9.out];exact hgr)
    clear hke hle
    go_wp2
    go_ret
    exact⟨by rw [HF.out] <;> rfl,rfl⟩
   ·have HF:Hid (Zax L=n):=by show _=_;rw [ZlK HNE.out (by omega) HDA.out (by rw [← hn9.out];exact hgr),← hn9.out]
    clear hke hle
    go_wp2
    go_ret
    exact⟨by rw [HF.out] <;> rfl,rfl⟩
theorem ZiX {t:Tok} (h:tokOk t=true) {c:UInt8} {l:List UInt8} (e:t.text.toList=c::l):t.kind=cutKind c:=by
 have e2:=Zau e
 obtain⟨h0,hk⟩:=(ZaP h).1
 obtain⟨k,x,s,hd⟩:=t
 obtain rfl:x=⟨(c::l).toArray⟩:=e2
 exact hk
theorem ZnN:∀ s,rankT s≠0->∃ c l,s=c::l/\cutKind c=4:=λ s h=>by
 rcases Zew h with h | h | h | h | h | h | h | h | h | h | h | h | h <;> subst h <;> exact⟨_,_,rfl,by decide⟩
theorem ZkX {t:Tok} (h:tokOk t=true):rankM t=rankT t.text.toList:=by
 unfold rankM
 split
 ·rfl
 ·rename_i h4
  cases e:rankT t.text.toList with
  | zero=>rfl
  |
   succ n =>
   obtain⟨c,l,h1,h2⟩:=ZnN t.text.toList (by omega)
   exact absurd ((ZiX h h1).trans h2) h4
theorem isMk_eq {t:Tok} (h:tokOk t=true) {c:UInt8} (hc:cutKind c=4):isMk t [c]=(t.text.toList==[c]):=by
 unfold isMk
 cases e:(t.text.toList==[c])
 ·rw [Bool.and_false]
 ·rw [ZiX h (beq_iff_eq.1 e),hc];rfl
theorem ZnO {t:Tok} (h:tokOk t=true) (h2:t.kind≠2):Zax t.text.toList=-1:=by
 obtain⟨h0,hk⟩:=(ZaP h).1
 have hl:t.text.toList.length=t.text.size:=by rw [ByteArray.toList_eq];simp
 have h0':0<t.text.toList.length:=by omega
 refine Ziw h0' ?_
 cases hd:isDig t.text.toList[0]
 ·rfl
 ·have e:t.text.toList=t.text.toList[0]::t.text.toList.drop 1:=by
   have:=List.drop_eq_getElem_cons h0'
   rw [List.drop_zero] at this
   exact this
  have:=ZiX h e
  unfold cutKind at this
  rw [if_pos hd] at this
  exact absurd this h2
def ReadBox (rb:Nat) (vL:Value) (k:Nat) (w:World):Prop:=w.heap[rb]?=some (.cells #[vL,.int .i64 (k:Nat)] 77 (0,0))
theorem ReadBox.below {rb:Nat} {vL:Value} {k:Nat} {w w':World} (h:ReadBox rb vL k w) (hb:Below w.heap.size w w'):ReadBox rb vL k w':=mbox h hb
def Zbe (l:List Tok) (k:Nat):ByteArray:=if h:k<l.length then l[k].text else ⟨#[]⟩
theorem ZdR {l:List Tok} {k:Nat} (h:k<l.length):Zbe l k=l[k].text:=by unfold Zbe;rw [dif_pos h]
theorem Zfx {l:List Tok} {k:Nat} (h:¬ k<l.length):Zbe l k=⟨#[]⟩:=by unfold Zbe;rw [dif_neg h]
theorem ZjF (rb:Nat) (vL:Value) (l:List Tok) (fp:List Nat) (k:Nat) (w:World) (hk:k<=l.length) (HB:ReadBox rb vL k w) (H:(Zaa sTok).R w [vL] l fp) :
  Calls Tryz.prog 92 #[.pointer (some ⟨rb,0,none⟩)] w λ e w'=>e=.returned (.string (Zbe l k))/\Below w.heap.size w w':=by
 have H0:=Qh H
 obtain⟨al,cl,rfl,hcl,hml,hrow⟩:=Zac H
 unfold maxLen at hml
 have HB0:=Qh HB
 have p0:=Qc 0 HB
 have p1:=Qc 1 HB
 clear H HB
 go_enter Tryz.func92,Tryz.ntmps92
 by_cases hlt:k<l.length
 rotate_left
 ·have HF:=Qh (Zfx hlt)
  have e1:((k:Int)==(l.length:Int))=true:=by simp;omega
  clear hlt hrow
  go_wp2_with fail
  go_quiet (fail)
  have hbq:=Zag (Below.refl w.heap.size w) nq
  generalize w.drewN nq=wq at *
  go_wp2
  go_ret
  exact⟨by rw [HF.out] <;> rfl,hbq⟩
 have HF:=Qh (ZdR hlt)
 obtain⟨b1,o1,-,rfl,-,-,-⟩:=hrow (by omega)
 have e1:((k:Int)==(l.length:Int))=false:=by simp;omega
 have i0:(0:Int)<=(k:Int):=by omega
 have i1:(k:Int)<(l.length:Int):=by omega
 clear hrow
 go_wp2_with fail
 go_quiet (fail)
 have hbq:=Zag (Below.refl w.heap.size w) nq
 clear p0 p1
 generalize w.drewN nq=wq at *
 have HB1:=Qh (HB0.out.below hbq)
 have p0:=Qc 0 HB1.out
 have p1:=Qc 1 HB1.out
 obtain⟨xa,xc,xf,x0,x1,x2,x3,xR,hbb,-⟩:=ZaB ((Zaa sTok).below H0.out hbq) hlt
 clear xR
 go_wp2_with fail
 go_quiet (fail)
 have hbr:=Zag hbq nq
 clear p0 p1 x0 x1 x2 x3
 generalize wq.drewN nq=wr at *
 go_wp2
 go_ret
 exact⟨by rw [HF.out] <;> rfl,hbr⟩
theorem skip_eq {l:List Tok} {k:Nat} {c:UInt8} (ht:∀ t∈l,tokOk t=true) (hc:cutKind c=4):((Zbe l k).toList==[c])=mkAt l k [c]:=by
 by_cases h:k<l.length
 ·rw [ZdR h,Zdl h,isMk_eq (ht _ (List.getElem_mem h)) hc]
 ·rw [Zfx h,Zfq h,ByteArray.toList_eq];rfl
theorem ZjG (rb:Nat) (vL:Value) (l:List Tok) (fp:List Nat) (k:Nat) (c:UInt8) (w:World) (hl:l.length<=60) (ht:∀ t∈l,tokOk t=true) (hc:cutKind c=4) (hk:k<=l.length) (HB:ReadBox rb vL k w) (H:(Zaa sTok).R w [vL] l fp) :
  Calls Tryz.prog 64 #[.pointer (some ⟨rb,0,none⟩),.string ⟨#[c]⟩] w λ e w'=>e=.returned (.bool (mkAt l k [c]))/\ReadBox rb vL (if mkAt l k [c]=true then k+1 else k) w'/\Kept [rb] w w':=by
 have HN:=Qh (ZjF rb vL l fp k w hk HB H)
 have HE:=Qh (skip_eq (l:=l) (k:=k) ht hc)
 have HB0:=Qh HB
 clear H HB ht
 go_enter Tryz.func64,Tryz.ntmps64
 have he:=HE.out
 obtain⟨tx,HTX⟩:∃ tx:ByteArray,Hid (tx=Zbe l k):=⟨_,Qh rfl⟩
 rw [show Zbe l k=tx from HTX.out.symm] at HN he
 cases hm:mkAt l k [c]
 ·rw [hm] at he
  have e1:(tx.toList != [c])=true:=by rw [bne,he];rfl
  clear hm
  go_wp2_with fail
  refine HN.out.mono ?_
  rintro e w2 ⟨rfl,hb2⟩
  have HB2:=Qh (HB0.out.below hb2)
  go_wp2
  go_ret
  exact⟨rfl,HB2.out,Kept.of_below hb2⟩
 ·rw [hm] at he
  have e1:(tx.toList != [c])=false:=by rw [bne,he];rfl
  clear hm
  go_wp2_with fail
  refine HN.out.mono ?_
  rintro e w2 ⟨rfl,hb2⟩
  have HB2:=Qh (HB0.out.below hb2)
  have p1:=Qc 1 HB2.out
  have f1:=Qf 1 HB2.out
  have hwr:IntKind.i64.wrap ((k:Int)+1)=(k:Int)+1:=IntWalk.i64_in _ (by omega)
  have HB3:Hid (ReadBox rb vL (k+1) (w2.setCell ⟨rb,1,none⟩ (.int .i64 ((k:Int)+1)))):=Zai HB2.out 1 (.int .i64 ((k:Int)+1))
  have HK3:Hid (Kept [rb] w (w2.setCell ⟨rb,1,none⟩ (.int .i64 ((k:Int)+1)))):=(Kept.of_below hb2).setCell (p:=⟨rb,1,none⟩) (by simp) _
  go_wp2
  go_ret
  exact⟨rfl,HB3.out,HK3.out⟩
def ZbC (rb:Nat) (vL:Value) (l:List Tok) (r:VRes) (w:World) (e:Ending) (w':World):Prop:=
 ∃ (n:Int) (k:Nat),e=.returned (.tuple #[.int .i64 n,.int .i64 r.2.2])/\(r.2.2=0->n=r.1/\k=r.2.1)/\inR n=true/\k<=l.length/\ReadBox rb vL k w'/\Kept [rb] w w'
theorem vend {rb:Nat} {vL:Value} {l:List Tok} {r:VRes} {w w':World} {n f:Int} {k:Nat} (hf:r.2.2=f) (h:f=0->n=r.1/\k=r.2.1) (hn:inR n=true) (hk:k<=l.length) (HB:ReadBox rb vL k w') (HK:Kept [rb] w w') :
  ZbC rb vL l r w (.returned (.tuple #[.int .i64 n,.int .i64 f])) w':=⟨n,k,by rw [hf],λ h'=>h (hf ▸ h'),hn,hk,HB,HK⟩
def ZbF (l:List Tok) (k:Nat):VRes:=
 if h:k<l.length then
  if l[k].kind=1 then (0,k+1,0) else if l[k].kind=2/\0<=Zax l[k].text.toList then (Zax l[k].text.toList,k+1,0) else (0,k,1)
 else (0,k,1)
theorem ZnP (rb:Nat) (vL:Value) (l:List Tok) (fp:List Nat) (k:Nat) (w:World) (hl:l.length<=60) (ht:∀ t∈l,tokOk t=true) (hk:k<=l.length) (HB:ReadBox rb vL k w) (H:(Zaa sTok).R w [vL] l fp) :
  Calls Tryz.prog 125 #[.pointer (some ⟨rb,0,none⟩)] w (ZbC rb vL l (ZbF l k) w):=by
 have H0:=Qh H
 obtain⟨al,cl,rfl,hcl,hml,hrow⟩:=Zac H
 unfold maxLen at hml
 have HB0:=Qh HB
 have p0:=Qc 0 HB
 have p1:=Qc 1 HB
 clear H HB
 go_enter Tryz.func125,Tryz.ntmps125
 by_cases hlt:k<l.length
 rotate_left
 ·have HF:Hid (ZbF l k=(0,k,1)):=by show _=_;unfold ZbF;rw [dif_neg hlt]
  have e1:((k:Int)==(l.length:Int))=true:=by simp;omega
  clear hlt hrow
  go_wp2_with fail
  go_quiet (fail)
  have hbq:=Zag (Below.refl w.heap.size w) nq
  clear p0 p1
  generalize w.drewN nq=wq at *
  have HB1:=Qh (HB0.out.below hbq)
  go_wp2
  go_ret2
  exact vend (by rw [HF.out]) (λ h=>absurd h (by decide)) (by decide) hk HB1.out (Kept.of_below hbq)
 obtain⟨b1,o1,-,rfl,-,-,-⟩:=hrow (by omega)
 have hto:=ht _ (List.getElem_mem hlt)
 obtain⟨tk,HTK⟩:∃ tk:Tok,Hid (tk=l[k]):=⟨_,Qh rfl⟩
 have HW:Hid (ZbF l k=if tk.kind=1 then (0,k+1,0) else if tk.kind=2/\0<=Zax tk.text.toList then (Zax tk.text.toList,k+1,0) else (0,k,1)):=by show _=_;unfold ZbF;rw [dif_pos hlt,HTK.out]
 rw [show l[k]=tk from HTK.out.symm] at hto
 have HTO:=Qh hto
 have e1:((k:Int)==(l.length:Int))=false:=by simp;omega
 have i0:(0:Int)<=(k:Int):=by omega
 have i1:(k:Int)<(l.length:Int):=by omega
 clear hrow hto
 go_wp2_with fail
 go_quiet (fail)
 have hbq:=Zag (Below.refl w.heap.size w) nq
 clear p0 p1 e1
 generalize w.drewN nq=w1 at *
 have HB1:=Qh (HB0.out.below hbq)
 have p0:=Qc 0 HB1.out
 have p1:=Qc 1 HB1.out
 obtain⟨xa,xc,xf,x0,x1,x2,x3,xR,hbb,-⟩:=ZaB ((Zaa sTok).below H0.out hbq) hlt
 rw [show l[k]=tk from HTK.out.symm] at x0 x1 x2 x3 xR
 have XR:=Qh xR
 clear xR
 have HSM:Hid (∀ Q:World,Below w1.heap.size w1 Q->Q.cell? ⟨rb,0,none⟩=some (.slice (some ⟨b1,o1,none⟩) l.length cl)/\Q.cell? ⟨rb,1,none⟩=some (.int .i64 (k:Nat))/\Q.cell? ⟨b1,o1+k * 4,none⟩=some (.int .i64 tk.kind)/\Q.cell? ⟨b1,o1+k * 4+1,none⟩=some (.string tk.text)/\Q.cell? ⟨b1,o1+k * 4+2,none⟩=some (.bool tk.spaced)/\Q.cell? ⟨b1,o1+k * 4+3,none⟩=some (.slice xa tk.hidden.length xc)):=λ Q hQ=>⟨Qc 0 (HB1.out.below hQ),Qc 1 (HB1.out.below hQ),(hQ.cell (p:=⟨b1,o1+k * 4,none⟩) hbb).trans x0,(hQ.cell (p:=⟨b1,o1+k * 4+1,none⟩) hbb).trans x1,(hQ.cell (p:=⟨b1,o1+k * 4+2,none⟩) hbb).trans x2,(hQ.cell (p:=⟨b1,o1+k * 4+3,none⟩) hbb).trans x3⟩
 go_upto_region 3 with fail
 clear p0 p1 x0 x1 x2 x3
 have hcs:Below w1.heap.size w1 w1.drew:=Zag (Below.refl _ _) 1
 refine wp_region_noPanic ?_
 refine wp_region_held_drew (S:=λ w'=>w'.cell? ⟨rb,0,none⟩=some (.slice (some ⟨b1,o1,none⟩) l.length cl)/\w'.cell? ⟨rb,1,none⟩=some (.int .i64 (k:Nat))/\w'.cell? ⟨b1,o1+k * 4,none⟩=some (.int .i64 tk.kind)/\w'.cell? ⟨b1,o1+k * 4+1,none⟩=some (.string tk.text)/\w'.cell? ⟨b1,o1+k * 4+2,none⟩=some (.bool tk.spaced)/\w'.cell? ⟨b1,o1+k * 4+3,none⟩=some (.slice xa tk.hidden.length xc)) (by kernel_rfl) (by exact HSM.out _ hcs) (λ hHeld=>?_)
 generalize hwd:w1.drew=wd at *
 refine Qt 0 16 rfl rfl ?_
 try simp only [Qp]
 refine Qt 1 17 rfl rfl ?_
 try simp only [Qp]
 refine Qt 2 18 rfl rfl ?_
 try simp only [Qp]
 refine Qt 3 19 rfl rfl ?_ (by intro w hSw;obtain⟨p0,p1,x0,x1,x2,x3⟩:=hSw;go_simp;(first | done | with_reducible rfl | rfl))
 try simp only [Qp]
 refine Qt 4 20 rfl rfl ?_
 try simp only [Qp]
 refine Qt 5 21 rfl rfl ?_
 try simp only [Qp]
 refine Qt 6 22 rfl rfl ?_
 try simp only [Qp]
 refine Qt 7 23 rfl rfl ?_ (by intro w hSw;obtain⟨p0,p1,x0,x1,x2,x3⟩:=hSw;go_simp;(first | done | with_reducible rfl | rfl))
 try simp only [Qp]
 refine Qt 8 24 rfl rfl ?_
 try simp only [Qp]
 refine Qt 9 25 rfl rfl ?_ (by intro w hSw;obtain⟨p0,p1,x0,x1,x2,x3⟩:=hSw;go_simp;(first | done | with_reducible rfl | rfl))
 try simp only [Qp]
 have ba:=Zab wd (.cells #[.int .i64 0,.string ⟨#[]⟩,.bool false,.slice none 0 0] 32)
 have HZ:=Qh (heap_alloc_new wd (.cells #[.int .i64 0,.string ⟨#[]⟩,.bool false,.slice none 0 0] 32))
 have hx:=hcs.trans (ba.mono hcs.size)
 refine Qr 10 rfl (λ K hK=>?_)
 go_simp
 refine hK.out _ _ (HSM.out _ hx) (λ hHeld=>?_)
 clear hK K
 try simp only [Qp]
 have hgs:w1.heap.size<=wd.heap.size:=hcs.size
 generalize hwa:wd.alloc (.cells #[.int .i64 0,.string ⟨#[]⟩,.bool false,.slice none 0 0] 32)=wa at *
 have z0:=Qc 0 HZ.out
 have zf0:=Qf 0 HZ.out
 have z1:=Qc 1 HZ.out
 have zf1:=Qf 1 HZ.out
 have z2:=Qc 2 HZ.out
 have zf2:=Qf 2 HZ.out
 have z3:=Qc 3 HZ.out
 have zf3:=Qf 3 HZ.out
 have HX:=Qh (ZaH HZ.out (.int .i64 tk.kind) (.string tk.text) (.bool tk.spaced) (.slice xa tk.hidden.length xc))
 have HS4:=Qh (Zav hx hgs (.int .i64 tk.kind) (.string tk.text) (.bool tk.spaced) (.slice xa tk.hidden.length xc))
 have HH4:=Qh (HSM.out _ HS4.out)
 unfold set4 at HX HS4 HH4
 refine Qr 11 rfl (λ K hK=>?_)
 go_simp
 refine hK.out _ _ (HH4.out) (λ hHeld=>?_)
 clear hK K
 try simp only [Qp]
 refine wpAnyH_done (by kernel_rfl) ?_ _
 refine NoPanic.normal ?_
 clear hHeld
 have hrl:rb<w1.heap.size:=mlt HB1.out
 have hnr:wd.heap.size≠rb:=by omega
 have hok:okStr tk.text:=XR.out.choose_spec.2.2.1
 have HDB:=Qh (HB1.out.below HS4.out)
 have HD:=Qh (hbq.trans (HS4.out.mono hbq.size))
 clear z0 z1 z2 z3 zf0 zf1 zf2 zf3 HH4 HS4 HB1
 generalize hW1:((((wa.setCell ⟨wd.heap.size,0,none⟩ (.int .i64 tk.kind)).setCell ⟨wd.heap.size,1,none⟩ (.string tk.text)).setCell ⟨wd.heap.size,2,none⟩ (.bool tk.spaced)).setCell ⟨wd.heap.size,3,none⟩ (.slice xa tk.hidden.length xc))=W1 at *
 have HB1:=HDB
 have p1:=Qc 1 HB1.out
 have f1:=Qf 1 HB1.out
 have hwr:IntKind.i64.wrap ((k:Int)+1)=(k:Int)+1:=IntWalk.i64_in _ (by omega)
 have HB3:Hid (ReadBox rb (.slice (some ⟨b1,o1,none⟩) l.length cl) (k+1) (W1.setCell ⟨rb,1,none⟩ (.int .i64 ((k:Int)+1)))):=Zai HB1.out 1 (.int .i64 ((k:Int)+1))
 have HK3:Hid (Kept [rb] w (W1.setCell ⟨rb,1,none⟩ (.int .i64 ((k:Int)+1)))):=(Kept.of_below HD.out).setCell (p:=⟨rb,1,none⟩) (by simp) _
 have HX3:=Qh (Zaz HX.out hnr 1 (.int .i64 ((k:Int)+1)))
 go_upto_region 5 with fail
 clear p1 f1 hwr HX HB1
 generalize (W1.setCell ⟨rb,1,none⟩ (.int .i64 ((k:Int)+1)))=W2 at *
 have q0:=Qc 0 HX3.out
 have q1:=Qc 1 HX3.out
 by_cases k1:tk.kind=1
 ·have HF:Hid (ZbF l k=(0,k+1,0)):=by show _=_;rw [HW.out,if_pos k1]
  have e1:(tk.kind==1)=true:=by simp [k1]
  clear k1
  go_wp2
  go_ret2
  exact vend (by rw [HF.out]) (λ _=>by rw [HF.out];exact⟨rfl,rfl⟩) (by decide) hlt HB3.out HK3.out
 have e1:(tk.kind==1)=false:=by simp [k1]
 have HNU:=Qh (Zlu tk.text W2 hok)
 have hni:=Zjb tk.text.toList
 by_cases k2:tk.kind=2/\0<=Zax tk.text.toList
 ·have HF:Hid (ZbF l k=(Zax tk.text.toList,k+1,0)):=by show _=_;rw [HW.out,if_neg k1,if_pos k2]
  obtain⟨n,HN⟩:∃ n:Int,Hid (n=Zax tk.text.toList):=⟨_,Qh rfl⟩
  rw [show Zax tk.text.toList=n from HN.out.symm] at HNU HF hni k2
  have e2:decide (n<0)=false:=decide_eq_false (by omega)
  have HIN:Hid (inR n=true):=inR_iff.2 (by omega)
  clear k1 k2 HW
  go_wp2_with fail
  refine HNU.out.mono ?_
  rintro e w5 ⟨rfl,rfl⟩
  go_wp2
  go_ret2
  exact vend (by rw [HF.out]) (λ _=>by rw [HF.out];exact⟨rfl,rfl⟩) HIN.out hlt HB3.out HK3.out
 ·have HF:Hid (ZbF l k=(0,k,1)):=by show _=_;rw [HW.out,if_neg k1,if_neg k2]
  have hneg:Zax tk.text.toList<0:=by
   by_cases k3:tk.kind=2
   ·have:=λ h=>k2 ⟨k3,h⟩
    omega
   ·rw [ZnO HTO.out k3];decide
  obtain⟨n,HN⟩:∃ n:Int,Hid (n=Zax tk.text.toList):=⟨_,Qh rfl⟩
  rw [show Zax tk.text.toList=n from HN.out.symm] at HNU hni hneg
  have e2:decide (n<0)=true:=decide_eq_true hneg
  clear k1 k2 HW
  go_wp2_with fail
  refine HNU.out.mono ?_
  rintro e w5 ⟨rfl,rfl⟩
  go_wp2
  go_ret2
  exact vend (by rw [HF.out]) (λ h=>absurd h (by decide)) (by decide) hlt HB3.out HK3.out
def ZiY (rb:Nat) (w:World):Nat:=
 match w.heap[rb]? with
 | some (.cells cs _ _)=>(intOf (cs.getD 1 undef)).toNat
 | _=>0
theorem ReadBox.place {rb:Nat} {vL:Value} {k:Nat} {w:World} (h:ReadBox rb vL k w):ZiY rb w=k:=by
 unfold ZiY
 rw [show w.heap[rb]?=some (.cells #[vL,.int .i64 (k:Nat)] 77 (0,0)) from h]
 simp [intOf]
structure ParsC (l:List Tok) (d:Nat):Prop where
 one:∀ (k:Nat) (r:VRes),k<=l.length->pv l d (.one k)=some r->∀ (rb:Nat) (vL:Value) (fp:List Nat) (w:World),ReadBox rb vL k w->(Zaa sTok).R w [vL] l fp->rb∉fp->Calls Tryz.prog 91 #[.pointer (some ⟨rb,0,none⟩)] w (ZbC rb vL l r w)
 marks:∀ (k rank:Nat) (r:VRes),k<=l.length->1<=rank->rank<=7->pv l d (.marks k rank)=some r->∀ (rb:Nat) (vL:Value) (fp:List Nat) (w:World),ReadBox rb vL k w->(Zaa sTok).R w [vL] l fp->rb∉fp->Calls Tryz.prog 63 #[.pointer (some ⟨rb,0,none⟩),.int .i64 rank] w (ZbC rb vL l r w)
 choice:∀ (k:Nat) (r:VRes),k<=l.length->pv l d (.choice k)=some r->∀ (rb:Nat) (vL:Value) (fp:List Nat) (w:World),ReadBox rb vL k w->(Zaa sTok).R w [vL] l fp->rb∉fp->Calls Tryz.prog 40 #[.pointer (some ⟨rb,0,none⟩)] w (ZbC rb vL l r w)
theorem Zgk {l:List Tok} {vL:Value} {fp:List Nat} {rb:Nat} {w:World} (H:(Zaa sTok).R w [vL] l fp) (hn:rb∉fp) {Q:World} (hQ:Kept [rb] w Q):(Zaa sTok).R Q [vL] l fp:=
 (Zaa sTok).kept H (λ b hb=>by simp only [List.mem_singleton];rintro rfl;exact hn hb) hQ
theorem ZmE {l:List Tok} {d k:Nat} {r:VRes} (h:pv l (d+1) (.one k)=some r) (hk:¬ k<l.length):r=(0,k,1):=by
 unfold pv at h
 rw [dif_neg hk] at h
 simpa using h.symm
theorem ZmF {l:List Tok} {d k:Nat} {r:VRes} (h:pv l (d+1) (.one k)=some r) (hm:mkAt l k [33]=true):∃ a,pv l d (.one (k+1))=some a/\r=(bit1 (decide (a.1=0)),a.2.1,a.2.2)/\k<l.length:=by
 obtain⟨hk,hm⟩:=ZbV hm
 unfold pv at h
 rw [dif_pos hk,if_pos hm] at h
 obtain⟨a,h1,h2⟩:=bind_some h
 exact⟨a,h1,by simpa using h2.symm,hk⟩
theorem ZmG {l:List Tok} {d k:Nat} {r:VRes} (h:pv l (d+1) (.one k)=some r) (h1:mkAt l k [33]=false) (hm:mkAt l k [45]=true):∃ a,pv l d (.one (k+1))=some a/\r=(-a.1,a.2.1,a.2.2)/\k<l.length:=by
 obtain⟨hk,hm⟩:=ZbV hm
 rw [Zdl hk] at h1
 unfold pv at h
 rw [dif_pos hk,if_neg (by rw [h1];simp),if_pos hm] at h
 obtain⟨a,h1,h2⟩:=bind_some h
 exact⟨a,h1,by simpa using h2.symm,hk⟩
theorem ZmH {l:List Tok} {d k:Nat} {r:VRes} (h:pv l (d+1) (.one k)=some r) (h1:mkAt l k [33]=false) (h2:mkAt l k [45]=false) (hm:mkAt l k [40]=true):∃ a,pv l d (.choice (k+1))=some a/\r=(a.1,a.2.1+1,if a.2.2=0/\mkAt l a.2.1 [41]=false then 1 else a.2.2)/\k<l.length:=by
 obtain⟨hk,hm⟩:=ZbV hm
 rw [Zdl hk] at h1 h2
 unfold pv at h
 rw [dif_pos hk,if_neg (by rw [h1];simp),if_neg (by rw [h2];simp),if_pos hm] at h
 obtain⟨a,h1,h2⟩:=bind_some h
 exact⟨a,h1,(Option.some.inj h2).symm,hk⟩
theorem Zlv {l:List Tok} {d k:Nat} {r:VRes} (h:pv l (d+1) (.one k)=some r) (h1:mkAt l k [33]=false) (h2:mkAt l k [45]=false) (h3:mkAt l k [40]=false):r=ZbF l k:=by
 by_cases hk:k<l.length
 ·rw [Zdl hk] at h1 h2 h3
  unfold pv at h
  rw [dif_pos hk,if_neg (by rw [h1];simp),if_neg (by rw [h2];simp),if_neg (by rw [h3];simp)] at h
  unfold ZbF
  rw [dif_pos hk]
  split at h
  ·rename_i h4;rw [if_pos h4];exact(Option.some.inj h).symm
  ·rename_i h4
   rw [if_neg h4]
   split at h
   ·rename_i h5;rw [if_pos h5];exact(Option.some.inj h).symm
   ·rename_i h5;rw [if_neg h5];exact(Option.some.inj h).symm
 ·rw [ZmE h hk]
  unfold ZbF
  rw [dif_neg hk]
theorem Zlw {l:List Tok} {d:Nat} (hl:l.length<=60) (ht:∀ t∈l,tokOk t=true) (IH:∀ d',d'<d->ParsC l d') (k:Nat) (r:VRes) (hk:k<=l.length) (h:pv l d (.one k)=some r) (rb:Nat) (vL:Value) (fp:List Nat) (w:World) (HB:ReadBox rb vL k w) (H:(Zaa sTok).R w [vL] l fp) (hnr:rb∉fp) :
  Calls Tryz.prog 91 #[.pointer (some ⟨rb,0,none⟩)] w (ZbC rb vL l r w):=by
 have HL:=Qh (λ (Q:World) (hQ:Kept [rb] w Q)=>Zgk H hnr hQ)
 have HTO:=Qh ht
 have HB0:=Qh HB
 clear H HB ht
 cases d with
 | zero=>simp [pv] at h
 | succ d =>
 have HH:=Qh h
 clear h
 have HSK:Hid (∀ (c:UInt8) (j:Nat) (Q:World),cutKind c=4->j<=l.length->ReadBox rb vL j Q->Kept [rb] w Q->Calls Tryz.prog 64 #[.pointer (some ⟨rb,0,none⟩),.string ⟨#[c]⟩] Q λ e w'=>e=.returned (.bool (mkAt l j [c]))/\ReadBox rb vL (if mkAt l j [c]=true then j+1 else j) w'/\Kept [rb] Q w'):=
  λ c j Q hc hj hB hQ=>ZjG rb vL l fp j c Q hl HTO.out hc hj hB (HL.out Q hQ)
 have HWD:Hid (∀ (Q:World),ReadBox rb vL k Q->Kept [rb] w Q->Calls Tryz.prog 125 #[.pointer (some ⟨rb,0,none⟩)] Q (ZbC rb vL l (ZbF l k) Q)):=λ Q hB hQ=>ZnP rb vL l fp k Q hl HTO.out hk hB (HL.out Q hQ)
 go_enter Tryz.func91,Tryz.ntmps91
 have S1:=Qh (HSK.out 33 k w (by decide) hk HB0.out (Kept.refl _ _))
 cases h1:mkAt l k [33]
 rotate_left
 ·obtain⟨a,ha,hr,hlt⟩:=ZmF HH.out h1
  have HR:=Qh hr
  have HC:Hid (∀ Q:World,ReadBox rb vL (k+1) Q->Kept [rb] w Q->Calls Tryz.prog 91 #[.pointer (some ⟨rb,0,none⟩)] Q (ZbC rb vL l a Q)):=λ Q hB hQ=>(IH d (by omega)).one (k+1) a hlt ha rb vL fp Q hB (HL.out Q hQ) hnr
  rw [h1] at S1
  clear h1 ha hr HH
  go_wp2_with fail
  refine S1.out.mono ?_
  rintro e w2 ⟨rfl,hB2,hK2⟩
  replace hB2:ReadBox rb vL (k+1) w2:=hB2
  have C2:=Qh (HC.out w2 hB2 hK2)
  have K2:=Qh hK2
  clear hB2 hK2 S1
  go_wp2_with fail
  refine C2.out.mono ?_
  rintro e w3 ⟨n,k3,rfl,hv,hn,hk3,hB3,hK3⟩
  have HV:=Qh hv
  have B3:=Qh hB3
  have K3:=Qh (K2.out.trans hK3)
  clear hv hB3 hK3 C2
  obtain⟨a1,a2,f⟩:=a
  by_cases h0:n=0
  ·have e0:(n==0)=true:=by simp [h0]
   have HE:Hid (f=0->bit1 true=r.1/\k3=r.2.1):=λ hf=>by rw [HR.out];have:=HV.out hf;refine ⟨?_,this.2⟩;show bit1 true=bit1 (decide (a1=0));rw [← (show n=a1 from this.1),h0];rfl
   go_wp2_with fail
   refine (Zbk true _).mono ?_
   rintro e w4 ⟨rfl,rfl⟩
   go_wp2
   go_ret2
   exact vend (by rw [HR.out]) HE.out (by decide) hk3 B3.out K3.out
  ·have e0:(n==0)=false:=by simp [h0]
   have HE:Hid (f=0->bit1 false=r.1/\k3=r.2.1):=λ hf=>by rw [HR.out];have:=HV.out hf;refine ⟨?_,this.2⟩;show bit1 false=bit1 (decide (a1=0));rw [← (show n=a1 from this.1),decide_eq_false h0]
   go_wp2_with fail
   refine (Zbk false _).mono ?_
   rintro e w4 ⟨rfl,rfl⟩
   go_wp2
   go_ret2
   exact vend (by rw [HR.out]) HE.out (by decide) hk3 B3.out K3.out
 have H1:=Qh h1
 rw [h1] at S1
 clear h1
 go_wp2_with fail
 refine S1.out.mono ?_
 rintro e w2 ⟨rfl,hB2,hK2⟩
 replace hB2:ReadBox rb vL k w2:=hB2
 have B2:=Qh hB2
 have K2:=Qh hK2
 clear hB2 hK2 S1
 have S2:=Qh (HSK.out 45 k w2 (by decide) hk B2.out K2.out)
 cases h2:mkAt l k [45]
 rotate_left
 ·obtain⟨a,ha,hr,hlt⟩:=ZmG HH.out H1.out h2
  have HR:=Qh hr
  have HC:Hid (∀ Q:World,ReadBox rb vL (k+1) Q->Kept [rb] w Q->Calls Tryz.prog 91 #[.pointer (some ⟨rb,0,none⟩)] Q (ZbC rb vL l a Q)):=λ Q hB hQ=>(IH d (by omega)).one (k+1) a hlt ha rb vL fp Q hB (HL.out Q hQ) hnr
  rw [h2] at S2
  clear h2 ha hr HH
  go_wp2_with fail
  refine S2.out.mono ?_
  rintro e w3 ⟨rfl,hB3,hK3⟩
  replace hB3:ReadBox rb vL (k+1) w3:=hB3
  have K3:=Qh (K2.out.trans hK3)
  have C3:=Qh (HC.out w3 hB3 K3.out)
  clear hB3 hK3 S2
  go_wp2_with fail
  refine C3.out.mono ?_
  rintro e w4 ⟨n,k3,rfl,hv,hn,hk3,hB3,hK3⟩
  have HV:=Qh hv
  have B3:=Qh hB3
  have K4:=Qh (K3.out.trans hK3)
  clear hv hB3 hK3 C3
  obtain⟨a1,a2,f⟩:=a
  have hni:=inR_iff.1 hn
  have HN:=Qh (ZlJ hn)
  have HE:Hid (f=0->-n=r.1/\k3=r.2.1):=λ hf=>by rw [HR.out];have:=HV.out hf;refine ⟨?_,this.2⟩;show -n=-a1;rw [← (show n=a1 from this.1)]
  have hwn:IntKind.i64.wrap (-n)=-n:=IntWalk.i64_in _ (by omega)
  clear hn
  go_wp2
  go_ret2
  exact vend (by rw [HR.out]) HE.out HN.out hk3 B3.out K4.out
 have H2:=Qh h2
 rw [h2] at S2
 clear h2
 go_wp2_with fail
 refine S2.out.mono ?_
 rintro e w3 ⟨rfl,hB3,hK3⟩
 replace hB3:ReadBox rb vL k w3:=hB3
 have B3:=Qh hB3
 have K3:=Qh (K2.out.trans hK3)
 clear hB3 hK3 S2
 have S3:=Qh (HSK.out 40 k w3 (by decide) hk B3.out K3.out)
 cases h3:mkAt l k [40]
 rotate_left
 ·obtain⟨a,ha,hr,hlt⟩:=ZmH HH.out H1.out H2.out h3
  have HR:=Qh hr
  have HC:Hid (∀ Q:World,ReadBox rb vL (k+1) Q->Kept [rb] w Q->Calls Tryz.prog 40 #[.pointer (some ⟨rb,0,none⟩)] Q (ZbC rb vL l a Q)):=λ Q hB hQ=>(IH d (by omega)).choice (k+1) a hlt ha rb vL fp Q hB (HL.out Q hQ) hnr
  rw [h3] at S3
  clear h3 ha hr HH
  go_wp2_with fail
  refine S3.out.mono ?_
  rintro e w4 ⟨rfl,hB4,hK4⟩
  replace hB4:ReadBox rb vL (k+1) w4:=hB4
  have K4:=Qh (K3.out.trans hK4)
  have C4:=Qh (HC.out w4 hB4 K4.out)
  clear hB4 hK4 S3
  go_wp2_with fail
  refine C4.out.mono ?_
  rintro e w5 ⟨n,k5,rfl,hv,hn,hk5,hB5,hK5⟩
  have HV:=Qh hv
  have B5:=Qh hB5
  have K5:=Qh (K4.out.trans hK5)
  have HN:=Qh hn
  clear hv hB5 hK5 C4 hn
  obtain⟨a1,a2,f⟩:=a
  by_cases hf:f=0
  rotate_left
  ·have HE:Hid (r.2.2=f):=by show _=_;rw [HR.out];show (if f=0/\_ then _ else _)=_;rw [if_neg (λ h=>hf h.1)]
   have HNF:=Qh hf
   have e0:(f==0)=false:=by simp [hf]
   clear hf
   go_wp2
   go_ret2
   exact vend HE.out (λ h=>absurd h HNF.out) HN.out hk5 B5.out K5.out
  subst hf
  obtain⟨hv1,hv2⟩:=HV.out rfl
  have S5:=Qh (HSK.out 41 k5 w5 (by decide) hk5 B5.out K5.out)
  have HV1:=Qh hv1
  have HV2:=Qh hv2
  clear hv1 hv2 HV
  cases h4:mkAt l k5 [41]
  ·have HE:Hid (r.2.2=1):=by show _=_;rw [HR.out];show (if (0:Int)=0/\mkAt l a2 [41]=false then _ else _)=_;rw [← (show k5=a2 from HV2.out),if_pos ⟨rfl,h4⟩]
   rw [h4] at S5
   clear h4
   go_wp2_with fail
   refine S5.out.mono ?_
   rintro e w6 ⟨rfl,hB6,hK6⟩
   replace hB6:ReadBox rb vL k5 w6:=hB6
   have B6:=Qh hB6
   have K6:=Qh (K5.out.trans hK6)
   clear hB6 hK6
   go_wp2
   go_ret2
   exact vend HE.out (λ h=>absurd h (by decide)) HN.out hk5 B6.out K6.out
  ·have HE:Hid (r=(n,k5+1,0)):=by show _=_;rw [HR.out];show (a1,a2+1,if (0:Int)=0/\mkAt l a2 [41]=false then _ else _)=_;rw [← (show k5=a2 from HV2.out),if_neg (by rw [h4];simp),← (show n=a1 from HV1.out)]
   obtain⟨hk6,-⟩:=ZbV h4
   rw [h4] at S5
   clear h4
   go_wp2_with fail
   refine S5.out.mono ?_
   rintro e w6 ⟨rfl,hB6,hK6⟩
   replace hB6:ReadBox rb vL (k5+1) w6:=hB6
   have B6:=Qh hB6
   have K6:=Qh (K5.out.trans hK6)
   clear hB6 hK6
   go_wp2
   go_ret2
   exact vend (by rw [HE.out]) (λ _=>by rw [HE.out];exact⟨rfl,rfl⟩) HN.out hk6 B6.out K6.out
 have HR:=Qh (Zlv HH.out H1.out H2.out h3)
 rw [h3] at S3
 clear h3
 go_wp2_with fail
 refine S3.out.mono ?_
 rintro e w4 ⟨rfl,hB4,hK4⟩
 replace hB4:ReadBox rb vL k w4:=hB4
 have K4:=Qh (K3.out.trans hK4)
 have W4:=Qh (HWD.out w4 hB4 K4.out)
 rw [← HR.out] at W4
 clear hB4 hK4 S3
 go_wp2_with fail
 refine W4.out.mono ?_
 rintro e w5 ⟨n,k5,rfl,hv,hn,hk5,hB5,hK5⟩
 have HV:=Qh hv
 have B5:=Qh hB5
 have K5:=Qh (K4.out.trans hK5)
 have HN:=Qh hn
 clear hv hB5 hK5 W4 hn
 go_wp2
 go_ret2
 exact vend rfl HV.out HN.out hk5 B5.out K5.out
theorem next_ok {l:List Tok} {k:Nat} {v:Value} {fp:List Nat} {w:World} (H:(Zaa sTok).R w [v] l fp):okStr (Zbe l k):=by
 by_cases h:k<l.length
 ·rw [ZdR h]
  obtain⟨al,cl,rfl,hcl,hml,hrow⟩:=Zac H
  obtain⟨b1,o1,-,rfl,-,-,-⟩:=hrow (by omega)
  obtain⟨xa,xc,xf,x0,x1,x2,x3,xR,-,-⟩:=ZaB H h
  exact xR.choose_spec.2.2.1
 ·rw [Zfx h]
  exact Nat.zero_le _
theorem ZnQ {l:List Tok} {d rank e:Nat} {n:Int} {r:VRes} (h:pv l d (.more rank n e 0)=some r) (he:e<=l.length) (ht:∀ t∈l,tokOk t=true) (hr:rankT (Zbe l e).toList<rank):r=(n,e,0):=by
 by_cases hlt:e<l.length
 ·cases d with
  | zero=>simp [pv] at h
  |
   succ d =>
   unfold pv at h
   rw [dif_pos ⟨rfl,hlt⟩,if_pos (by rw [ZkX (ht _ (List.getElem_mem hlt)),← ZdR hlt];exact hr)] at h
   exact(Option.some.inj h).symm
 ·exact ZkJ h (λ h=>hlt h.2)
theorem more_go {l:List Tok} {d rank e:Nat} {n:Int} {r:VRes} (h:pv l (d+1) (.more rank n e 0)=some r) (ht:∀ t∈l,tokOk t=true) (h1:1<=rank) (hr:¬ rankT (Zbe l e).toList<rank) :
  e<l.length/\∃ a,pv l d (.marks (e+1) (rankT (Zbe l e).toList+1))=some a/\(a.2.2≠0->r=(0,a.2.1,a.2.2))/\(a.2.2=0->pv l d (.more rank (Zah (Zbe l e).toList n a.1).1 a.2.1 (Zah (Zbe l e).toList n a.1).2)=some r):=by
 have hlt:e<l.length:=by
  refine Nat.lt_of_not_le λ h'=>hr ?_
  rw [Zfx (by omega),ByteArray.toList_eq]
  exact h1
 refine ⟨hlt,?_⟩
 have hk:rankM l[e]=rankT (Zbe l e).toList:=by rw [ZkX (ht _ (List.getElem_mem hlt)),← ZdR hlt]
 have hx:l[e].text=Zbe l e:=(ZdR hlt).symm
 unfold pv at h
 rw [dif_pos ⟨rfl,hlt⟩,if_neg (by rw [hk];exact hr),hk,hx] at h
 obtain⟨a,h2,h3⟩:=bind_some h
 refine ⟨a,h2,λ hf=>?_,λ hf=>?_⟩
 ·simp only [if_pos hf] at h3
  exact(Option.some.inj h3).symm
 ·simp only [hf,ne_eq,not_true_eq_false,if_false] at h3
  exact h3
theorem rankT_le (s:List UInt8):rankT s<=6:=by
 unfold rankT
 repeat' split
 all_goals omega
theorem row_walk {l:List Tok} {d:Nat} (hl:l.length<=60) (ht:∀ t∈l,tokOk t=true) (IH:∀ d',d'<d->ParsC l d') (k rank:Nat) (r:VRes) (hk:k<=l.length) (h1:1<=rank) (h7:rank<=7) (h:pv l d (.marks k rank)=some r) (rb:Nat) (vL:Value) (fp:List Nat) (w:World) (HB:ReadBox rb vL k w) (H:(Zaa sTok).R w [vL] l fp) (hnr:rb∉fp) :
  Calls Tryz.prog 63 #[.pointer (some ⟨rb,0,none⟩),.int .i64 rank] w (ZbC rb vL l r w):=by
 have HL:=Qh (λ (Q:World) (hQ:Kept [rb] w Q)=>Zgk H hnr hQ)
 have HTO:=Qh ht
 have HB0:=Qh HB
 clear H HB ht
 cases d with
 | zero=>simp [pv] at h
 | succ d =>
 unfold pv at h
 obtain⟨a,ha1,ha2⟩:=bind_some h
 have C0:=Qh ((IH d (by omega)).one k a hk ha1 rb vL fp w HB0.out (HL.out w (Kept.refl _ _)) hnr)
 have HM:=Qh ha2
 clear h ha1 ha2
 go_enter Tryz.func63,Tryz.ntmps63
 go_wp2_with fail
 refine C0.out.mono ?_
 rintro e w1 ⟨n0,k0,rfl,hv,hn0,hk0,hB1,hK1⟩
 have HI:Hid ((a.2.2=0->pv l d (.more rank n0 k0 0)=some r)/\(a.2.2≠0->r.2.2=a.2.2)):=⟨λ hf=>by
   have h9:=HM.out
   rw [hf,← (hv hf).1,← (hv hf).2] at h9
   exact h9,λ hf=>by rw [Zd2 HM.out hf]⟩
 have HB1:=Qh hB1
 have HK1:=Qh hK1
 obtain⟨f0,HF0⟩:∃ f0:Int,Hid (f0=a.2.2):=⟨_,Qh rfl⟩
 rw [show a.2.2=f0 from HF0.out.symm] at HI ⊢
 clear hv hB1 hK1 C0 HM
 go_wp2
 go_loopw [6,7] (λ vn vf wr=>∃ (d' e:Nat) (n f:Int),d'<=d/\e<=l.length/\inR n=true/\vn=.int .i64 n/\vf=.int .i64 f/\Hid ((f=0->pv l d' (.more rank n e 0)=some r)/\(f≠0->r.2.2=f))/\Hid (ReadBox rb vL e wr)/\Hid (Kept [rb] w wr)) (λ _ vf wr=>if intOf vf=0 then l.length-ZiY rb wr+1 else 0)
 case atStart=>exact⟨d,k0,n0,f0,Nat.le_refl _,hk0,hn0,rfl,rfl,HI,HB1,HK1⟩
 case round =>
  clear HI HB1 HK1 hk0 hn0 HF0
  obtain⟨d',e,n,f,hd',he,hn,rfl,rfl,HI,HB,HK⟩:=hrel
  by_cases hf:f=0
  rotate_left
  ·have HE:=Qh (HI.out.2 hf)
   have HNF:=Qh hf
   have g1:(f==0)=false:=by simp [hf]
   clear hf
   go_wp2
   go_ret2
   exact vend HE.out (λ h=>absurd h HNF.out) (by decide) he HB.out HK.out
  subst hf
  have HP:=Qh (HI.out.1 rfl)
  have HIN:=Qh hn
  clear HI hn
  have HNX:=Qh (ZjF rb vL l fp e wr he HB.out (HL.out wr HK.out))
  have HOK:=Qh (next_ok (k:=e) (HL.out wr HK.out))
  obtain⟨tx,HTX⟩:∃ tx:ByteArray,Hid (tx=Zbe l e):=⟨_,Qh rfl⟩
  rw [show Zbe l e=tx from HTX.out.symm] at HNX HOK
  have hr6:=rankT_le tx.toList
  have HRK:Hid (∀ Q,Calls Tryz.prog 93 #[.string tx] Q λ e w'=>e=.returned (.int .i64 (rankT tx.toList:Nat))/\w'=Q):=λ Q=>Zex tx Q
  obtain⟨rk,HKK⟩:∃ rk:Nat,Hid (rk=rankT tx.toList):=⟨_,Qh rfl⟩
  rw [show rankT tx.toList=rk from HKK.out.symm] at HRK hr6
  go_wp2_with fail
  refine HNX.out.mono ?_
  rintro ee w2 ⟨rfl,hb2⟩
  go_wp2_with fail
  refine (HRK.out _).mono ?_
  rintro ee w3 ⟨rfl,rfl⟩
  have HB3:=Qh (HB.out.below hb2)
  have HK3:=Qh (HK.out.trans (Kept.of_below hb2))
  clear HNX HRK hb2 HK
  by_cases hlr:rk<rank
  ·have HE:=Qh (ZnQ HP.out he HTO.out (by rw [← HTX.out,← HKK.out];exact hlr))
   have g1:(rk:Int)<(rank:Int):=by omega
   clear hlr
   go_wp2
   go_ret2
   exact vend (by rw [HE.out]) (λ _=>by rw [HE.out];exact⟨rfl,rfl⟩) HIN.out he HB3.out HK3.out
  have g1:¬ (rk:Int)<(rank:Int):=by omega
  cases d' with
  | zero=>have:=HP.out;simp [pv] at this
  | succ d' =>
  obtain⟨hlt,a,ha1,hbad,hgo⟩:=more_go HP.out HTO.out h1 (by rw [← HTX.out,← HKK.out];exact hlr)
  rw [← HTX.out] at ha1 hgo
  rw [← HKK.out] at ha1
  have HFN:=ZbD l d' _ _ (show okQ l (.marks (e+1) (rk+1)) from hlt) ha1
  obtain⟨-,-,f3,-,-⟩:=HFN
  have HNX:Hid (a.2.2=0->a.2.1<=l.length/\e+1<a.2.1):=λ h=>⟨(f3 h).1,((f3 h).2.2).resolve_left (λ h=>h)⟩
  have HC:Hid (∀ Q:World,ReadBox rb vL (e+1) Q->Kept [rb] w Q->Calls Tryz.prog 63 #[.pointer (some ⟨rb,0,none⟩),.int .i64 (rk+1:Nat)] Q (ZbC rb vL l a Q)):=λ Q hB hQ=>(IH d' (by omega)).marks (e+1) (rk+1) a hlt (by omega) (by omega) ha1 rb vL fp Q hB (HL.out Q hQ) hnr
  have HBAD:=Qh hbad
  have HGO:=Qh hgo
  clear ha1 hbad hgo f3 HP hlr
  have p1:=Qc 1 HB3.out
  have fz:=Qf 1 HB3.out
  have hwr:IntKind.i64.wrap ((e:Int)+1)=(e:Int)+1:=IntWalk.i64_in _ (by omega)
  have hwk:IntKind.i64.wrap ((rk:Int)+1)=((rk+1:Nat):Int):=by rw [IntWalk.i64_in _ (by omega)];omega
  have HB4:Hid (ReadBox rb vL (e+1) (w3.setCell ⟨rb,1,none⟩ (.int .i64 ((e:Int)+1)))):=Zai HB3.out 1 (.int .i64 ((e:Int)+1))
  have HK4:Hid (Kept [rb] w (w3.setCell ⟨rb,1,none⟩ (.int .i64 ((e:Int)+1)))):=HK3.out.setCell (p:=⟨rb,1,none⟩) (by simp) _
  have HPL:=Qh HB.out.place
  go_upto_region 8 with fail
  clear p1 fz hwr HB3 HK3
  generalize (w3.setCell ⟨rb,1,none⟩ (.int .i64 ((e:Int)+1)))=w4 at *
  have C4:=Qh (HC.out w4 HB4.out HK4.out)
  go_wp2_with fail
  refine C4.out.mono ?_
  rintro ee w5 ⟨m,k5,rfl,hv,hm,hk5,hB5,hK5⟩
  have HV:=Qh hv
  have B5:=Qh hB5
  have K5:=Qh (HK4.out.trans hK5)
  clear hv hB5 hK5 C4 HC hwk
  obtain⟨a1,a2,o⟩:=a
  try dsimp only at HBAD HGO HNX HV
  by_cases ho:o=0
  rotate_left
  ·have HE:Hid ((o=0->pv l d' (.more rank n k5 0)=some r)/\(o≠0->r.2.2=o)):=⟨λ h=>absurd h ho,λ h=>by rw [HBAD.out h]⟩
   have g2:(o==0)=false:=by simp [ho]
   have HNO:=Qh ho
   clear ho
   go_wp2
   go_roundw
   case rel=>exact⟨d',k5,n,o,by omega,hk5,HIN.out,rfl,rfl,HE,B5,K5⟩
   case measure=>rw [HPL.out];simp [intOf,HNO.out]
  subst ho
  obtain⟨hv1,hv2⟩:=HV.out rfl
  obtain⟨hn1,hn2⟩:=HNX.out rfl
  have HP2:=Qh (HGO.out rfl)
  rw [← hv1,← hv2] at HP2
  rw [← hv2] at hn1 hn2
  have HAP:=Qh (ZnM tx n m w5)
  have HAI:=Qh (Zen tx.toList n m)
  unfold AppOf at HAP
  rcases hap:Zah tx.toList n m with⟨x,wf⟩
  rw [hap] at HAP HP2 HAI
  try dsimp only at HAP HP2 HAI
  clear hap HV HNX HGO HBAD hv1 hv2
  go_wp2_with fail
  refine HAP.out.mono ?_
  rintro ee w6 ⟨rfl,hb6⟩
  have HE:Hid ((wf=0->pv l d' (.more rank x k5 0)=some r)/\(wf≠0->r.2.2=wf)):=⟨λ h=>by have h9:=HP2.out;rw [h] at h9;exact h9,λ h=>by rw [Zd2 HP2.out h]⟩
  have B6:=Qh (B5.out.below hb6)
  have K6:=Qh (K5.out.trans (Kept.of_below hb6))
  have HP6:=Qh B6.out.place
  clear HAP HP2 hb6 B5 K5
  go_wp2
  go_roundw
  case rel=>exact⟨d',k5,x,wf,by omega,hk5,HAI.out.1,rfl,rfl,HE,B6,K6⟩
  case measure =>
   rw [HPL.out,HP6.out]
   by_cases hz:wf=0
   ·simp [intOf,hz];omega
   ·simp [intOf,hz]
theorem Zgl {l:List Tok} {d k:Nat} {r a:VRes} (h:pv l (d+1) (.choice k)=some r) (ha:pv l d (.marks k 1)=some a) (hn:¬ (a.2.2=0/\mkAt l a.2.1 [63]=true)):r=a:=by
 unfold pv at h
 rw [ha,Option.bind_some,if_neg hn] at h
 exact(Option.some.inj h).symm
theorem Zlx {l:List Tok} {d k:Nat} {r a:VRes} (h:pv l (d+1) (.choice k)=some r) (ha:pv l d (.marks k 1)=some a) (hy:a.2.2=0/\mkAt l a.2.1 [63]=true) :
  ∃ b,pv l d (.choice (a.2.1+1))=some b/\(b.2.2≠0->r=(0,b.2.1,b.2.2))/\(b.2.2=0->mkAt l b.2.1 [58]=false->r=(0,b.2.1,1))/\(b.2.2=0->mkAt l b.2.1 [58]=true->∃ c,pv l d (.choice (b.2.1+1))=some c/\r=(if a.1≠0 then b.1 else c.1,c.2.1,c.2.2)):=by
 unfold pv at h
 rw [ha,Option.bind_some,if_pos hy] at h
 obtain⟨b,h2,h3⟩:=bind_some h
 refine ⟨b,h2,λ hf=>?_,λ hf hm=>?_,λ hf hm=>?_⟩
 ·rw [if_pos hf] at h3;exact(Option.some.inj h3).symm
 ·rw [if_neg (by simp [hf]),if_neg (by rw [hm];simp)] at h3;exact(Option.some.inj h3).symm
 ·rw [if_neg (by simp [hf]),if_pos hm] at h3
  obtain⟨c,h4,h5⟩:=bind_some h3
  exact⟨c,h4,(Option.some.inj h5).symm⟩
theorem ZkY {l:List Tok} {d:Nat} (hl:l.length<=60) (ht:∀ t∈l,tokOk t=true) (IH:∀ d',d'<d->ParsC l d') (k:Nat) (r:VRes) (hk:k<=l.length) (h:pv l d (.choice k)=some r) (rb:Nat) (vL:Value) (fp:List Nat) (w:World) (HB:ReadBox rb vL k w) (H:(Zaa sTok).R w [vL] l fp) (hnr:rb∉fp) :
  Calls Tryz.prog 40 #[.pointer (some ⟨rb,0,none⟩)] w (ZbC rb vL l r w):=by
 have HL:=Qh (λ (Q:World) (hQ:Kept [rb] w Q)=>Zgk H hnr hQ)
 have HTO:=Qh ht
 have HB0:=Qh HB
 clear H HB ht
 cases d with
 | zero=>simp [pv] at h
 | succ d =>
 have HH:=Qh h
 unfold pv at h
 obtain⟨a,ha1,-⟩:=bind_some h
 have HA:=Qh ha1
 have HSK:Hid (∀ (c:UInt8) (j:Nat) (Q:World),cutKind c=4->j<=l.length->ReadBox rb vL j Q->Kept [rb] w Q->Calls Tryz.prog 64 #[.pointer (some ⟨rb,0,none⟩),.string ⟨#[c]⟩] Q λ e w'=>e=.returned (.bool (mkAt l j [c]))/\ReadBox rb vL (if mkAt l j [c]=true then j+1 else j) w'/\Kept [rb] Q w'):=
  λ c j Q hc hj hB hQ=>ZjG rb vL l fp j c Q hl HTO.out hc hj hB (HL.out Q hQ)
 have HCH:Hid (∀ (j:Nat) (b:VRes) (Q:World),j<=l.length->pv l d (.choice j)=some b->ReadBox rb vL j Q->Kept [rb] w Q->Calls Tryz.prog 40 #[.pointer (some ⟨rb,0,none⟩)] Q (ZbC rb vL l b Q)):=λ j b Q hj hb hB hQ=>(IH d (by omega)).choice j b hj hb rb vL fp Q hB (HL.out Q hQ) hnr
 have C0:=Qh ((IH d (by omega)).marks k 1 a hk (by omega) (by omega) ha1 rb vL fp w HB0.out (HL.out w (Kept.refl _ _)) hnr)
 rw [show ((1:Nat):Int)=1 from rfl] at C0
 clear h ha1
 go_enter Tryz.func40,Tryz.ntmps40
 go_wp2_with fail
 refine C0.out.mono ?_
 rintro e w1 ⟨n,k1,rfl,hv,hn,hk1,hB1,hK1⟩
 have HV:=Qh hv
 have B1:=Qh hB1
 have K1:=Qh hK1
 have HN:=Qh hn
 clear hv hB1 hK1 C0 hn
 obtain⟨a1,a2,f⟩:=a
 try dsimp only at HV
 by_cases hf:f=0
 rotate_left
 ·have HE:=Qh (Zgl HH.out HA.out (λ h=>hf h.1))
  have HNF:=Qh hf
  have g1:(f != 0)=true:=by simp [hf]
  clear hf
  go_wp2
  go_ret2
  exact vend (by rw [HE.out]) (λ h=>absurd h HNF.out) HN.out hk1 B1.out K1.out
 subst hf
 obtain⟨hv1,hv2⟩:=HV.out rfl
 subst hv1 hv2
 have S1:=Qh (HSK.out 63 k1 w1 (by decide) hk1 B1.out K1.out)
 cases hq:mkAt l k1 [63]
 ·have HE:=Qh (Zgl HH.out HA.out (λ h=>by rw [show mkAt l k1 [63]=false from hq] at h;exact absurd h.2 (by simp)))
  rw [hq] at S1
  clear hq
  go_wp2_with fail
  refine S1.out.mono ?_
  rintro e w2 ⟨rfl,hB2,hK2⟩
  replace hB2:ReadBox rb vL k1 w2:=hB2
  have B2:=Qh hB2
  have K2:=Qh (K1.out.trans hK2)
  clear hB2 hK2 S1
  go_wp2
  go_ret2
  exact vend (by rw [HE.out]) (λ _=>by rw [HE.out];exact⟨rfl,rfl⟩) HN.out hk1 B2.out K2.out
 obtain⟨b,hb1,hbad,hno,hyes⟩:=Zlx HH.out HA.out ⟨rfl,hq⟩
 obtain⟨hlt,-⟩:=ZbV hq
 have HB1':=Qh hb1
 have HBAD:=Qh hbad
 have HNO:=Qh hno
 have HYES:=Qh hyes
 rw [hq] at S1
 clear hq hb1 hbad hno hyes
 go_wp2_with fail
 refine S1.out.mono ?_
 rintro e w2 ⟨rfl,hB2,hK2⟩
 replace hB2:ReadBox rb vL (k1+1) w2:=hB2
 have K2:=Qh (K1.out.trans hK2)
 have C2:=Qh (HCH.out (k1+1) b w2 hlt HB1'.out hB2 K2.out)
 clear hB2 hK2 S1
 go_wp2_with fail
 refine C2.out.mono ?_
 rintro e w3 ⟨m,k3,rfl,hv,hm,hk3,hB3,hK3⟩
 have HV2:=Qh hv
 have B3:=Qh hB3
 have K3:=Qh (K2.out.trans hK3)
 have HM:=Qh hm
 clear hv hB3 hK3 C2 hm HB1'
 obtain⟨b1,b2,f⟩:=b
 try dsimp only at HV2 HBAD HNO HYES
 by_cases hf:f=0
 rotate_left
 ·have HE:=Qh (HBAD.out hf)
  have HNF:=Qh hf
  have g1:(f != 0)=true:=by simp [hf]
  clear hf
  go_wp2
  go_ret2
  exact vend (by rw [HE.out]) (λ h=>absurd h HNF.out) (by decide) hk3 B3.out K3.out
 subst hf
 obtain⟨hv1,hv2⟩:=HV2.out rfl
 subst hv1 hv2
 have S3:=Qh (HSK.out 58 k3 w3 (by decide) hk3 B3.out K3.out)
 cases hq:mkAt l k3 [58]
 ·have HE:=Qh (HNO.out rfl hq)
  rw [hq] at S3
  clear hq
  go_wp2_with fail
  refine S3.out.mono ?_
  rintro e w4 ⟨rfl,hB4,hK4⟩
  replace hB4:ReadBox rb vL k3 w4:=hB4
  have B4:=Qh hB4
  have K4:=Qh (K3.out.trans hK4)
  clear hB4 hK4 S3
  go_wp2
  go_ret2
  exact vend (by rw [HE.out]) (λ h=>absurd h (by decide)) (by decide) hk3 B4.out K4.out
 obtain⟨c,hc1,hr⟩:=HYES.out rfl hq
 obtain⟨hlt3,-⟩:=ZbV hq
 have HC1:=Qh hc1
 have HR:=Qh hr
 rw [hq] at S3
 clear hq hc1 hr HYES HNO HBAD HV HV2
 go_wp2_with fail
 refine S3.out.mono ?_
 rintro e w4 ⟨rfl,hB4,hK4⟩
 replace hB4:ReadBox rb vL (k3+1) w4:=hB4
 have K4:=Qh (K3.out.trans hK4)
 have C4:=Qh (HCH.out (k3+1) c w4 hlt3 HC1.out hB4 K4.out)
 clear hB4 hK4 S3
 go_wp2_with fail
 refine C4.out.mono ?_
 rintro e w5 ⟨q,k5,rfl,hv,hq,hk5,hB5,hK5⟩
 have HV:=Qh hv
 have B5:=Qh hB5
 have K5:=Qh (K4.out.trans hK5)
 have HQ:=Qh hq
 clear hv hB5 hK5 C4 hq HC1
 obtain⟨c1,c2,f⟩:=c
 try dsimp only at HV HR
 by_cases h0:n=0
 ·have HE:Hid (r=(c1,c2,f)):=by show _=_;rw [HR.out,if_neg (by simp [h0])]
  have g1:(n != 0)=false:=by simp [h0]
  clear h0
  go_wp2
  go_ret2
  exact vend (by rw [HE.out]) (λ h=>by rw [HE.out];exact HV.out h) HQ.out hk5 B5.out K5.out
 ·have HE:Hid (r=(m,c2,f)):=by show _=_;rw [HR.out,if_pos h0]
  have g1:(n != 0)=true:=by simp [h0]
  clear h0
  go_wp2
  go_ret2
  exact vend (by rw [HE.out]) (λ h=>by rw [HE.out];exact⟨rfl,(HV.out h).2⟩) HM.out hk5 B5.out K5.out
theorem impl_PC {l:List Tok} (hl:l.length<=60) (ht:∀ t∈l,tokOk t=true):∀ d,ParsC l d:=by
 intro d
 induction d using Nat.strongRecOn with
 | ind d ih=>exact⟨λ k r hk h rb vL fp w HB H hn=>Zlw hl ht ih k r hk h rb vL fp w HB H hn,λ k rank r hk h1 h7 h rb vL fp w HB H hn=>row_walk hl ht ih k rank r hk h1 h7 h rb vL fp w HB H hn,λ k r hk h rb vL fp w HB H hn=>ZkY hl ht ih k r hk h rb vL fp w HB H hn⟩
theorem ZkZ (v:Value) (l:List Tok) (fp:List Nat) (w:World) (H:(Zaa sTok).R w [v] l fp):Calls Tryz.prog 18 #[v] w (ValOf (Zba l) w):=by
 have H0:=Qh H
 have HV:=Qh (Zbg v l fp w H)
 obtain⟨al,cl,rfl,hcl,hml,-⟩:=Zac H
 unfold maxLen at hml
 clear H
 go_enter Tryz.func18,Tryz.ntmps18
 cases hv:Zaj l
 ·have HF:=Qh (Zl2 hv)
  rw [hv] at HV
  clear hv
  go_wp2_with fail
  refine HV.out.mono ?_
  rintro e w2 ⟨rfl,hb2⟩
  go_wp2
  go_ret2
  exact ZcN HF.out hb2
 have hl60:=(Zan hv).1
 have HTO:Hid (∀ t∈l,tokOk t=true):=λ t ht=>by obtain⟨k,hk,rfl⟩:=List.getElem_of_mem ht;exact(Zan hv).2 k hk
 obtain⟨⟨n,e,f⟩,hp⟩:=Zkb l (4 * l.length+4) (.choice 0) (Nat.zero_le _) (by show 4 * (l.length-0)+4<=_;omega)
 have HGO:=Qh (val_go hv hp)
 have HLT:=Qh ((Zaa sTok).lt H0.out)
 have HC:Hid (∀ (rb:Nat) (Q:World),Below w.heap.size w Q->w.heap.size<=rb->ReadBox rb (.slice al l.length cl) 0 Q->Calls Tryz.prog 40 #[.pointer (some ⟨rb,0,none⟩)] Q (ZbC rb (.slice al l.length cl) l (n,e,f) Q)):=λ rb Q hQ hge hB=>(impl_PC hl60 HTO.out (4 * l.length+4)).choice 0 _ (Nat.zero_le _) hp rb _ fp Q hB ((Zaa sTok).below H0.out hQ) (λ h=>by have:=HLT.out _ h;omega)
 rw [hv] at HV
 clear hv hp
 go_wp2_with fail
 refine HV.out.mono ?_
 rintro ee w2 ⟨rfl,hb2⟩
 have ba:=Zab w2 (.cells #[.slice al l.length cl,.int .i64 0] 77)
 have HX:Hid (ReadBox w2.heap.size (.slice al l.length cl) 0 (w2.alloc (.cells #[.slice al l.length cl,.int .i64 0] 77))):=heap_alloc_new w2 (.cells #[.slice al l.length cl,.int .i64 0] 77)
 have hb3:=hb2.trans (ba.mono hb2.size)
 have hge:=hb2.size
 go_upto_region 4 with fail
 generalize (w2.alloc (.cells #[.slice al l.length cl,.int .i64 0] 77))=w3 at *
 obtain⟨rb,HRB⟩:∃ rb:Nat,Hid (rb=w2.heap.size):=⟨_,Qh rfl⟩
 rw [show w2.heap.size=rb from HRB.out.symm] at HX hge ⊢
 have C3:=Qh (HC.out rb w3 hb3 hge HX.out)
 clear HV HC ba
 go_wp2_with fail
 refine C3.out.mono ?_
 rintro ee w4 ⟨m,k,rfl,hv,hm,hk,hB,hK⟩
 have hB4:Below w.heap.size w w4:=hb3.trans (hK.below (λ b hb=>by obtain rfl:=Qm hb;exact hge) hb3.size)
 have p1:=Qc 1 hB
 clear C3 hB hK
 try dsimp only at hv
 by_cases hf:f=0
 rotate_left
 ·have HF:Hid (Zba l=(0,f)):=by show _=_;rw [HGO.out,if_pos hf]
  have g1:(f==0)=false:=by simp [hf]
  have g2:(f != 0)=true:=by simp [hf]
  clear hf
  go_wp2
  go_ret2
  exact ZcN HF.out hB4
 subst hf
 obtain⟨rfl,rfl⟩:=hv rfl
 by_cases he:k=l.length
 ·have HF:Hid (Zba l=(m,0)):=by show _=_;rw [HGO.out,if_neg (by simp),if_neg (by simp [he])]
  have g0:¬ (k:Int)<(l.length:Int):=by omega
  have g1:¬ k<l.length:=by omega
  have g2:decide (k<l.length)=false:=decide_eq_false g1
  clear he
  go_wp2
  go_ret2
  exact ZcN HF.out hB4
 ·have HF:Hid (Zba l=(0,1)):=by show _=_;rw [HGO.out,if_neg (by simp),if_pos he]
  have g0:(k:Int)<(l.length:Int):=by omega
  have g1:k<l.length:=by omega
  have g2:decide (k<l.length)=true:=decide_eq_true g1
  clear he
  go_wp2
  go_ret2
  exact ZcN HF.out hB4
theorem val_bad0 {l:List Tok} {n f:Int} (h:Zba l=(n,f)) (hf:f≠0):n=0:=by
 unfold Zba at h
 split at h
 ·split at h
  ·split at h
   ·simp only [Prod.mk.injEq] at h;exact h.1.symm
   ·split at h
    ·simp only [Prod.mk.injEq] at h;exact h.1.symm
    ·simp only [Prod.mk.injEq] at h;exact absurd h.2.symm hf
  ·simp only [Prod.mk.injEq] at h;exact h.1.symm
 ·simp only [Prod.mk.injEq] at h;exact h.1.symm
theorem Zhz (vT:Value) (T:List DMacro) (fpT:List Nat) (v:Value) (l:List Tok) (fp:List Nat) (w:World) (HT:(Zaa sMacro).R w [vT] T fpT) (H:(Zaa sTok).R w [v] l fp) :
  Calls Tryz.prog 6 #[vT,v] w (ZeX T l w):=by
 have HC:=Qh (ZfI vT T fpT v l fp w HT H)
 rcases hq:ZaN T l with⟨x,ok⟩
 unfold ZiC at HC
 rw [hq] at HC
 try dsimp only at HC
 have HQ:=Qh hq
 clear hq H
 go_enter Tryz.func6,Tryz.ntmps6
 go_wp2_with fail
 refine HC.out.mono ?_
 rintro e w1 ⟨v1,f1,rfl,hR1,-,hB1⟩
 clear HC
 cases ok
 ·have HF:=Qh (ZgZ HQ.out)
  go_wp2
  go_ret2
  exact ZcG HF.out hB1
 have HE:=Qh (Zlt vT T fpT v1 x f1 w1 ((Zaa sMacro).below HT hB1) hR1)
 rcases hxx:Zbo T x with⟨y,c⟩
 unfold ZiV at HE
 rw [hxx] at HE
 try dsimp only at HE
 have HX:=Qh hxx
 clear hxx hR1 HT
 go_wp2_with fail
 refine HE.out.mono ?_
 rintro e w2 ⟨v2,f2,rfl,hR2,-,hb2⟩
 have hB2:=hB1.trans (hb2.mono hB1.size)
 clear HE
 by_cases hc0:c=0
 rotate_left
 ·have HF:=Qh (Zg0 HQ.out HX.out hc0)
  have e2:(c != 0)=true:=by simp [hc0]
  clear hc0
  go_wp2
  go_ret2
  exact ZcG HF.out hB2
 subst hc0
 rcases hp:Zba y with⟨n,f⟩
 have HF:=Qh (Zg1 HQ.out HX.out hp)
 have HN:=Qh (val_bad0 hp)
 have HP:=Qh (ZkZ v2 y f2 w2 hR2)
 unfold ValOf at HP
 rw [hp] at HP
 try dsimp only at HP
 clear hp hR2
 go_wp2_with fail
 refine HP.out.mono ?_
 rintro e w3 ⟨rfl,hb3⟩
 have hB3:=hB2.trans (hb3.mono hB2.size)
 by_cases hf:f=0
 rotate_left
 ·have h0:=HN.out hf
  have e2:(f != 0)=true:=by simp [hf]
  have HG:Hid (condRes T l=(false,false)):=by show _=_;rw [HF.out,h0];simp [hf]
  clear hf HN h0
  go_wp2
  go_ret2
  exact ZcG HG.out hB3
 subst hf
 clear HN
 go_wp2
 go_ret2
 exact ZcG (by rw [HF.out];by_cases h1:n=0 <;> simp [h1]) hB3
theorem Zgm (vT:Value) (T:List DMacro) (fpT:List Nat) (v:Value) (l:List Tok) (fp:List Nat) (w:World) (hT:ZaS T<=1048576) (hl:ZaD l<=1048576) (HT:(Zaa sMacro).R w [vT] T fpT) (H:(Zaa sTok).R w [v] l fp) :
  Calls Tryz.prog 6 #[vT,v] w (ZeX T l w):=Zhz vT T fpT v l fp w HT H
end Go.Proofs.YtipfpppcbmpjiaaGreat
