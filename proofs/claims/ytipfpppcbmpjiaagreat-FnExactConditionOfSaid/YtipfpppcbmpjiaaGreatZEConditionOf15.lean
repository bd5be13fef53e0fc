/- Texts that the proof of EConditionOf stands on, in one file. -/
import Derived.Test.YtipfpppcbmpjiaaGreatZEConditionOf14
import Derived.Shelf.Spec.SlicesInsertGrow
import Derived.Deep.CutBlock
set_option linter.unusedVariables false
set_option maxHeartbeats 16000000
set_option maxRecDepth 100000
set_option linter.unusedSimpArgs false
/- What a condition is; its contrary: no program. -/
namespace Go.Proofs.YtipfpppcbmpjiaaGreat
open Go.RowKit
def condRes (T:List DMacro) (l:List Tok):Bool × Bool:=
 if (ZaN T l).2=true then
  (if (Zbo T (ZaN T l).1).2=0 then (decide ((Zba (Zbo T (ZaN T l).1).1).1≠0),decide ((Zba (Zbo T (ZaN T l).1).1).2=0)) else (false,false))
 else (false,false)
theorem ZgZ {T:List DMacro} {l x:List Tok} (h:ZaN T l=(x,false)):condRes T l=(false,false):=by unfold condRes;rw [h];simp
theorem Zg0 {T:List DMacro} {l x y:List Tok} {c:Int} (h:ZaN T l=(x,true)) (hx:Zbo T x=(y,c)) (hc:c≠0):condRes T l=(false,false):=by
 unfold condRes;rw [h];simp only [if_true];rw [hx];simp only;rw [if_neg hc]
theorem Zg1 {T:List DMacro} {l x y:List Tok} {n f:Int} (h:ZaN T l=(x,true)) (hx:Zbo T x=(y,0)) (hv:Zba y=(n,f)):condRes T l=(decide (n≠0),decide (f=0)):=by
 unfold condRes;rw [h];simp only [if_true];rw [hx];simp only [if_true];rw [hv]
theorem Zjt:∀ x y:List UInt8,Op.bytesLess x y=false->(x==y)=false->Op.bytesLess y x=true
 | [],[],_,h=>by simp at h
 | [],_::_,h,_=>by simp [Op.bytesLess] at h
 | _::_,[],_,_=>by simp [Op.bytesLess]
 |
  a::x,b::y,h,h2=>by
  have ih:=Zjt x y
  simp only [Op.bytesLess,Bool.or_eq_false_iff,decide_eq_false_iff_not,Bool.and_eq_false_iff] at h
  obtain⟨h3,h4⟩:=h
  by_cases hab:a=b
  ·subst hab
   have h5:Op.bytesLess x y=false:=by
    rcases h4 with h4 | h4
    ·simp at h4
    ·exact h4
   have h6:(x==y)=false:=by
    rw [beq_eq_false_iff_ne] at h2 ⊢
    intro e;exact h2 (by rw [e])
   simp [Op.bytesLess,ih h5 h6]
  ·have h7:b<a:=by
    rcases UInt8.lt_or_lt_of_ne hab with h | h
    ·exact absurd h h3
    ·exact h
   simp [Op.bytesLess,h7]
theorem Znn {a b:ByteArray} (h:sLess a b=false) (h2:(a.toList==b.toList)=false):sLess b a=true:=Zjt _ _ h h2
theorem ZcM {x n:ByteArray}:∀ {l:List ByteArray},x∈ins l n->x=n\/x∈l
 | [],h=>by simp only [ins,List.mem_singleton] at h;exact .inl h
 |
  y::r,h=>by
  unfold ins at h
  split at h
  ·rcases List.mem_cons.1 h with rfl | h
   ·exact .inr (by simp)
   ·rcases ZcM h with h | h
    ·exact .inl h
    ·exact .inr (by simp [h])
  ·split at h
   ·exact .inr h
   ·rcases List.mem_cons.1 h with rfl | h
    ·exact .inl rfl
    ·exact .inr h
theorem ins_up {n:ByteArray}:∀ {l:List ByteArray},Up l->Up (ins l n)
 | [],_=>by unfold ins Up;simp
 |
  y::r,h=>by
  have h':=h
  unfold Up at h'
  rw [List.pairwise_cons] at h'
  unfold ins
  split
  ·rename_i hs
   unfold Up
   rw [List.pairwise_cons]
   refine ⟨λ z hz=>?_,ins_up h'.2⟩
   rcases ZcM hz with rfl | hz
   ·exact hs
   ·exact h'.1 z hz
  ·rename_i hs
   split
   ·exact h
   ·rename_i he
    have hn:sLess n y=true:=Znn (by simpa using hs) (by simpa using he)
    unfold Up
    rw [List.pairwise_cons]
    refine ⟨λ z hz=>?_,h⟩
    rcases List.mem_cons.1 hz with rfl | hz
    ·exact hn
    ·exact ZcA hn (h'.1 z hz)
theorem Zhm:∀ {b a:List ByteArray},Up a->Up (Zbc a b)
 | [],_,h=>h
 | _::r,_,h=>Zhm (b:=r) (ins_up h)
theorem Zju {x:ByteArray}:∀ {b a:List ByteArray},x∈Zbc a b->x∈a\/x∈b
 | [],_,h=>.inl h
 |
  y::r,a,h=>by
  rcases Zju (b:=r) (a:=ins a y) h with h | h
  ·rcases ZcM h with rfl | h
   ·exact .inr (by simp)
   ·exact .inl h
  ·exact .inr (by simp [h])
theorem Zjv {α:Type} [DecidableEq α]:∀ {l N:List α},l.Nodup->(∀ x∈l,x∈N)->l.length<=N.length
 | [],_,_,_=>Nat.zero_le _
 |
  a::r,N,h,hs=>by
  rw [List.nodup_cons] at h
  have hm:a∈N:=hs a (by simp)
  have h1:=Zjv (l:=r) (N:=N.erase a) h.2 λ x hx=>by
   have hne:x≠a:=λ e=>h.1 (e ▸ hx)
   exact(List.mem_erase_of_ne hne).2 (hs x (by simp [hx]))
  rw [List.length_erase_of_mem hm] at h1
  have:=List.length_pos_of_mem hm
  rw [List.length_cons];omega
theorem up_nodup {l:List ByteArray} (h:Up l):l.Nodup:=List.Pairwise.imp (λ {a b} hab e=>by subst e;rw [ZcU] at hab;exact absurd hab (by simp)) h
def HidIn (N:List ByteArray) (t:Tok):Prop:=Up t.hidden/\∀ x∈t.hidden,x∈N
theorem HidIn.len {N:List ByteArray} {t:Tok} (h:HidIn N t):t.hidden.length<=N.length:=Zjv (up_nodup h.1) h.2
theorem HidIn.bare (N:List ByteArray) {t:Tok} (h:t.hidden=[]):HidIn N t:=by
 unfold HidIn;rw [h];exact⟨List.Pairwise.nil,by simp⟩
theorem HidIn.of {N:List ByteArray} {t u:Tok} (h:HidIn N t) (e:u.hidden=t.hidden):HidIn N u:=by unfold HidIn;rw [e];exact h
theorem HidIn.put {N:List ByteArray} {t:Tok} {h:List ByteArray} (ht:HidIn N t) (hh:∀ x∈h,x∈N):HidIn N (putT h t):=
 ⟨Zhm ht.1,λ x hx=>by
  rcases Zju hx with hx | hx
  ·exact ht.2 x hx
  ·exact hh x hx⟩
theorem HidIn.both {N:List ByteArray} {a b:Tok} (h:HidIn N a) {k:Int} {s:ByteArray} {sp:Bool}:HidIn N ⟨k,s,sp,both a.hidden b.hidden⟩:=
 ⟨List.Pairwise.filter _ h.1,λ x hx=>h.2 x (List.mem_filter.1 hx).1⟩
theorem HidIn.paste {N:List ByteArray} {a b:Tok} (h:HidIn N a):HidIn N (Zaq a b).1:=by
 rcases hp:Zaq a b with⟨u,ok⟩
 cases ok
 ·rw [Zlf hp];exact HidIn.bare N rfl
 ·obtain⟨-,-,t,-,rfl⟩:=ZhW hp;exact h.both
theorem Zkz {N:List ByteArray} {b:Bool}:∀ {l:List Tok},(∀ t∈l,HidIn N t)->∀ t∈spc b l,HidIn N t
 | [],_,t,ht=>by simp [spc] at ht
 |
  x::r,h,t,ht=>by
  rcases List.mem_cons.1 ht with rfl | ht
  ·exact(h x (by simp)).of rfl
  ·exact h t (by simp [ht])
theorem Zgv {N:List ByteArray} {l:List Tok} {h:List ByteArray} {sp:Bool} (hl:∀ t∈l,HidIn N t) (hh:∀ x∈h,x∈N):∀ t∈putL l h sp,HidIn N t:=by
 refine Zkz λ t ht=>?_
 obtain⟨u,hu,rfl⟩:=List.mem_map.1 ht
 exact(hl u hu).put hh
theorem Zet {a:List (List Tok)} {P:Tok->Prop} (h:∀ l∈a,∀ t∈l,P t) (n:Int):∀ t∈argAt a n,P t:=by
 unfold argAt
 by_cases hn:n.toNat<a.length
 ·rw [List.getD_eq_getElem?_getD,List.getElem?_eq_getElem hn]
  exact h _ (List.getElem_mem hn)
 ·rw [List.getD_eq_getElem?_getD,List.getElem?_eq_none (by omega)]
  simp
theorem part_in {N:List ByteArray} {m:DMacro} {raw ready:List (List Tok)} (hv:macOk m=true) (ha:∀ l∈raw,∀ t∈l,HidIn N t) (hy:∀ l∈ready,∀ t∈l,HidIn N t) (k:Nat):∀ t∈(ZaC m raw ready k).1,HidIn N t:=by
 intro t ht
 unfold ZaC at ht
 split at ht
 ·rename_i hk
  split at ht
  ·split at ht
   ·rw [Qm ht]
    rename_i hk2
    obtain⟨kk,s,b,hx,-⟩:=Zdf (argAt raw (parOf m.params m.body[k+1]))
    exact HidIn.bare N (by show (ZaT _).1.hidden=[];rw [hx])
   ·simp at ht
  ·split at ht
   ·rw [Qm ht];exact HidIn.bare N (Zb8 hk ((ZaJ hv).2.2 k hk)).2.1
   ·split at ht
    ·exact Zkz (Zet ha _) t ht
    ·exact Zkz (Zet hy _) t ht
 ·simp at ht
theorem subGo_in {N:List ByteArray} {m:DMacro} {raw ready:List (List Tok)} (hv:macOk m=true) (ha:∀ l∈raw,∀ t∈l,HidIn N t) (hy:∀ l∈ready,∀ t∈l,HidIn N t):∀ (d k:Nat) (out:List Tok) (emp paste:Bool),m.body.length-k<=d->(∀ t∈out,HidIn N t)->∀ t∈(subGo m raw ready k out emp paste).1,HidIn N t:=by
 intro d
 induction d with
 | zero=>intro k out emp paste hd ho;rw [ZdN (by omega)];exact ho
 |
  succ d ih =>
  intro k out emp paste hd ho
  by_cases hk:k<m.body.length
  rotate_left
  ·rw [ZdN (by omega)];exact ho
  by_cases h1:isM m.body[k] [35,35]=true/\paste=false
  ·obtain⟨h1,rfl⟩:=h1
   rw [Zfi hk h1]
   exact ih _ _ _ _ (by omega) ho
  have hP2:=part_in hv ha hy k
  have hnx:=Zep m raw ready k
  rcases hP:ZaC m raw ready k with⟨P,nx,ok⟩
  rw [hP] at hP2 hnx
  have hnx':k<nx:=hnx
  have hP2':∀ t∈P,HidIn N t:=hP2
  cases ok
  ·rw [ZeU hk h1 hP];simp
  by_cases h2:paste=true/\emp=false/\0<P.length
  ·rcases hz:Zaq (out.getLastD zTok) (P.headD zTok) with⟨z,fine⟩
   cases fine
   ·rw [ZhX hk h1 hP h2 hz];simp
   ·rw [Zgu hk h1 hP h2 hz]
    refine ih _ _ _ _ (by omega) λ t ht=>?_
    rcases Qa ht with ht | ht
    ·exact ho t ((List.dropLast_sublist out).subset ht)
    ·rcases List.mem_cons.1 ht with rfl | ht
     ·have hl:HidIn N (out.getLastD zTok):=by
       rcases List.eq_nil_or_concat out with rfl | ⟨a,b,rfl⟩
       ·exact HidIn.bare N rfl
       ·rw [List.concat_eq_append,List.getLastD_concat];exact ho b (by simp)
      have:=hl.paste (b:=P.headD zTok)
      rw [hz] at this;exact this
     ·exact hP2' t (List.mem_of_mem_tail ht)
  ·rw [ZdO hk h1 hP h2]
   refine ih _ _ _ _ (by omega) λ t ht=>?_
   rcases Qa ht with ht | ht
   ·exact ho t ht
   ·exact hP2' t ht
theorem Zf9 {N:List ByteArray} {m:DMacro} {raw ready:List (List Tok)} (ha:∀ l∈raw,∀ t∈l,HidIn N t) (hy:∀ l∈ready,∀ t∈l,HidIn N t):∀ t∈(Zap m raw ready).1,HidIn N t:=by
 unfold Zap
 split
 ·rename_i h
  split
  ·simp
  ·exact subGo_in h.1 ha hy _ 0 [] true false (Nat.le_refl _) (by simp)
 ·simp
theorem Zed {P:Tok->Prop}:∀ (l:List Tok) (d:Int) (A:Args) (M:List Tok) (k:Nat),(∀ t∈l,P t)->(∀ a∈A,∀ t∈a,P t)->(∀ t∈M,P t)->∀ a∈(splK l d A M k).1,∀ t∈a,P t
 | [],d,A,M,k,_,hA,_=>by unfold splK;exact hA
 |
  t::r,d,A,M,k,hl,hA,hM=>by
  have hr:∀ u∈r,P u:=λ u hu=>hl u (by simp [hu])
  have hAM:∀ a∈A++[M],∀ u∈a,P u:=λ a ha=>by
   rcases Qa ha with ha | ha
   ·exact hA a ha
   ·rw [Qm ha];exact hM
  unfold splK
  split
  ·exact hAM
  ·split
   ·exact Zed r _ _ _ _ hr hAM (by simp)
   ·exact Zed r _ _ _ _ hr hA λ u hu=>by
     rcases Qa hu with hu | hu
     ·exact hM u hu
     ·rw [Qm hu];exact hl t (by simp)
theorem Zga {P:Tok->Prop} {f:List Tok->Nat->XRes} (hf:∀ a k,(∀ t∈a,P t)->∀ t∈(f a k).1,P t):∀ (A:List (List Tok)) (s:Nat),(∀ a∈A,∀ t∈a,P t)->∀ a∈(argsX f A s).1,∀ t∈a,P t
 | [],s,_=>by unfold argsX;simp
 |
  a::r,s,h=>by
  unfold argsX
  split
  ·split
   ·intro b hb
    rcases List.mem_cons.1 hb with rfl | hb
    ·exact hf a s (h a (by simp))
    ·exact Zga hf r _ (λ c hc=>h c (by simp [hc])) b hb
   ·simp
  ·simp
theorem ZiF {T:List DMacro} {t:Tok} {m:DMacro} (h:findM T t=some m):m∈T:=by
 unfold findM at h
 split at h
 ·exact List.mem_of_getElem? h
 ·simp at h
theorem go_in {T:List DMacro} {w:List Tok} {m:DMacro} (h:goM T w=some m):m∈T:=by
 cases w with
 | nil=>simp [goM] at h
 |
  cons t r =>
  unfold goM at h
  dsimp only at h
  cases hf:findM T t with
  | none=>rw [hf] at h;simp at h
  |
   some m' =>
   rw [hf] at h
   dsimp only at h
   split at h
   ·simp at h
   ·simp only [Qi] at h;subst h;exact ZiF hf
section
variable {N:List ByteArray} {T:List DMacro}
theorem headD_in {w:List Tok} (h:∀ t∈w,HidIn N t):HidIn N (w.headD zTok):=by
 cases w with
 | nil=>exact HidIn.bare N rfl
 | cons t r=>exact h t (by simp)
theorem ZkA {f:List Tok->Nat->XRes} (hf:∀ a k,(∀ t∈a,HidIn N t)->∀ t∈(f a k).1,HidIn N t) {m:DMacro} (hm:m.name∈N) {w:List Tok} (hw:∀ t∈w,HidIn N t) (s:Nat):∀ t∈(callX f m w s).1,HidIn N t:=by
 have hA:=Zed (P:=HidIn N) (w.drop 2) 1 [] [] 2 (λ t ht=>hw t (List.mem_of_mem_drop ht)) (by simp) (by simp)
 have hA':∀ a∈(splK (w.drop 2) 1 [] [] 2).1.take m.params.length,∀ t∈a,HidIn N t:=λ a ha=>hA a (List.mem_of_mem_take ha)
 unfold callX
 split
 ·split
  ·split
   ·refine Zgv (Zf9 hA' (Zga hf _ s hA')) λ x hx=>?_
    rcases ZcM hx with rfl | hx
    ·exact hm
    ·exact(headD_in hw).2 x (List.mem_filter.1 hx).1
   ·simp
  ·simp
 ·simp
theorem Zh7 (hT:∀ m∈T,m.name∈N):∀ (n:Nat) (w:List Tok) (s:Nat) (out:List Tok),(∀ t∈out,HidIn N t)->(∀ t∈w,HidIn N t)->∀ t∈(expG T n s out w).1,HidIn N t:=by
 intro n
 have app:∀ {a b:List Tok},(∀ t∈a,HidIn N t)->(∀ t∈b,HidIn N t)->∀ t∈a++b,HidIn N t:=λ h1 h2 t ht=>by
  rcases Qa ht with h | h
  ·exact h1 t h
  ·exact h2 t h
 induction n with
 |
  zero =>
  intro w
  induction w with
  | nil=>intro s out ho _;rw [Zb9];exact ho
  |
   cons t r ih =>
   intro s out ho hw
   have hr:∀ u∈r,HidIn N u:=λ u hu=>hw u (by simp [hu])
   cases hg:goM T (t::r) with
   |
    none =>
    by_cases hl:60<out.length+1
    ·rw [ZbB hg hl];simp
    ·rw [ZbA hg hl];exact ih s _ (app ho (λ u hu=>by rw [Qm hu];exact hw t (by simp))) hr
   | some m=>rw [expG,hg];simp
 |
  succ n ihn =>
  intro w
  induction w with
  | nil=>intro s out ho _;rw [Zb9];exact ho
  |
   cons t r ih =>
   intro s out ho hw
   have hr:∀ u∈r,HidIn N u:=λ u hu=>hw u (by simp [hu])
   cases hg:goM T (t::r) with
   |
    none =>
    by_cases hl:60<out.length+1
    ·rw [ZbB hg hl];simp
    ·rw [ZbA hg hl];exact ih s _ (app ho (λ u hu=>by rw [Qm hu];exact hw t (by simp))) hr
   |
    some m =>
    have hmN:=hT m (go_in hg)
    cases s with
    | zero=>rw [Zdh hg];simp
    |
     succ s =>
     cases hf:m.function
     ·have hs:=Zf9 (N:=N) (m:=m) (raw:=[]) (ready:=[]) (by simp) (by simp)
      rcases hc:Zap m [] [] with⟨b,ok⟩
      rw [hc] at hs
      cases ok
      ·rw [Zec hg hf hc];simp
      ·by_cases hl:60<(putL b (ins t.hidden m.name) t.spaced++r).length
       ·rw [Zeb hg hf hc hl];simp
       ·rw [ZeW hg hf hc hl]
        refine ihn _ _ _ ho (app (Zgv hs λ x hx=>?_) hr)
        rcases ZcM hx with rfl | hx
        ·exact hmN
        ·exact(hw t (by simp)).2 x hx
     ·have hci:=ZkA (f:=λ a k=>expG T n k [] a) (λ a k ha=>ihn a k [] (by simp) ha) hmN hw s
      rcases hc:callX (λ a k=>expG T n k [] a) m (t::r) s with⟨b,e,l,c⟩
      rw [hc] at hci
      by_cases h0:c=0
      ·subst h0
       by_cases hl:60<(b++(t::r).drop e).length
       ·rw [ZdA hg hf hc hl];simp
       ·rw [Zea hg hf hc hl]
        exact ihn _ _ _ ho (app hci λ u hu=>hw u (List.mem_of_mem_drop hu))
      ·rw [ZbZ hg hf hc h0];simp
theorem ZlX (T:List DMacro):∀ (n:Nat) (w:List Tok) (s:Nat) (out:List Tok),out.length<=60->(expG T n s out w).1.length<=60:=by
 intro n
 induction n with
 |
  zero =>
  intro w
  induction w with
  | nil=>intro s out ho;rw [Zb9];exact ho
  |
   cons t r ih =>
   intro s out ho
   cases hg:goM T (t::r) with
   |
    none =>
    by_cases hl:60<out.length+1
    ·rw [ZbB hg hl];simp
    ·rw [ZbA hg hl];exact ih s _ (by simp;omega)
   | some m=>rw [expG,hg];simp
 |
  succ n ihn =>
  intro w
  induction w with
  | nil=>intro s out ho;rw [Zb9];exact ho
  |
   cons t r ih =>
   intro s out ho
   cases hg:goM T (t::r) with
   |
    none =>
    by_cases hl:60<out.length+1
    ·rw [ZbB hg hl];simp
    ·rw [ZbA hg hl];exact ih s _ (by simp;omega)
   |
    some m =>
    cases s with
    | zero=>rw [Zdh hg];simp
    |
     succ s =>
     cases hf:m.function
     ·rcases hc:Zap m [] [] with⟨b,ok⟩
      cases ok
      ·rw [Zec hg hf hc];simp
      ·by_cases hl:60<(putL b (ins t.hidden m.name) t.spaced++r).length
       ·rw [Zeb hg hf hc hl];simp
       ·rw [ZeW hg hf hc hl];exact ihn _ _ _ ho
     ·rcases hc:callX (λ a k=>expG T n k [] a) m (t::r) s with⟨b,e,l,c⟩
      by_cases h0:c=0
      ·subst h0
       by_cases hl:60<(b++(t::r).drop e).length
       ·rw [ZdA hg hf hc hl];simp
       ·rw [Zea hg hf hc hl];exact ihn _ _ _ ho
      ·rw [ZbZ hg hf hc h0];simp
end
open Go.RowKit Go.Shelf
def insLay_ren:Go.Shelf.Ren:=⟨fun | 17=>169 | 22=>135 | 29=>151 | 30=>152 | 36=>161 | n=>n,fun | 0=>0 | 3=>3 | 4=>4 | 9=>9 | 24=>30 | n=>n,fun | n=>n⟩
theorem Zgb:Go.Proofs.Lays2.n22 Tryz.prog insLay_ren:={
 mixed:=by kernel_rfl
 f17:=Tryz.func169.trans (congrArg some (by kernel_rfl))
 f22:=Tryz.func135.trans (congrArg some (by kernel_rfl))
 f29:=Tryz.func151.trans (congrArg some (by kernel_rfl))
 f30:=Tryz.func152.trans (congrArg some (by kernel_rfl))
 f36:=Tryz.func161.trans (congrArg some (by kernel_rfl))
 t0:=Tryz.underlying0
 a0:=Tryz.isAgg0
 z0:=Tryz.sizeOf0
 v0:=Tryz.zeroValue0
 t3:=Tryz.underlying3
 a3:=Tryz.isAgg3
 z3:=Tryz.sizeOf3
 v3:=Tryz.zeroValue3
 t4:=Tryz.underlying4
 a4:=Tryz.isAgg4
 z4:=Tryz.sizeOf4
 v4:=Tryz.zeroValue4
 t9:=Tryz.underlying9
 a9:=Tryz.isAgg9
 z9:=Tryz.sizeOf9
 v9:=Tryz.zeroValue9
 t24:=Tryz.underlying30
 a24:=Tryz.isAgg30
 z24:=Tryz.sizeOf30
 v24:=Tryz.zeroValue30
 i9:=by kernel_rfl }
def InsPostS (base k:Nat) (v:Value) (l:List ByteArray) (x:ByteArray) (w:World) (e:Ending) (w':World):Prop:=
 ∃ v',e=.returned v'/\w'.ownsRow base 9 1 v' (l.take k++x::l.drop k).length ((l.take k++x::l.drop k).map Value.string)/\w.grownBy w' v.ownBlock
theorem ZcZ (w:World) (arr:Array Value) (T:TypeId):(w.alloc (.cells arr T)).heap[w.heap.size]?=some (.cells arr T (0,0)):=by show (w.heap.push _)[_]?=_;simp
theorem Zh8 {g:Nat} {w w':World} (hK:Kept [g] w w'):w.grownBy w' (some g):=
 ⟨hK.os,hK.tape,hK.output,hK.size,λ b hb hn=>hK.block b hb (by simp;intro e;exact hn (by rw [e]))⟩
theorem one_str (l:List ByteArray):∀ u∈l.map Value.string,u.oneCell'=true:=λ u hu=>by
 obtain⟨s,_,rfl⟩:=List.mem_map.1 hu;rfl
theorem Zll (base vb:Nat) (v:Value) (l:List ByteArray) (x:ByteArray) (k:Nat) (w:World) (hn:l.length<=1000000) (hk:k<=l.length) (H:w.ownsRow base 9 1 v l.length (l.map Value.string))
  (hvb:w.heap[vb]?=some (.cells #[.string x] 9 (0,0))) (hne:v.ownBlock≠some vb) (hbase:base<=w.heap.size) :
  Calls Tryz.prog 135 #[v,.int .i64 k,.slice (some ⟨vb,0,none⟩) 1 1] w (InsPostS base k v l x w):=by
 have hvs:∀ j u,([Value.string x]:List Value)[j]?=some u->w.cell? ⟨vb,0+j,none⟩=some u:=λ j u hj=>by rw [Nat.zero_add,cell_of_row w vb j _ _ _ hvb];simpa using hj
 have h1v:∀ u∈([Value.string x]:List Value),u.oneCell'=true:=by simp [Value.oneCell']
 have hlen:(l.take k++x::l.drop k).length=l.length+1:=by simp;omega
 have hmap:(l.take k++x::l.drop k).map Value.string=(l.take k).map Value.string++(Value.string x::(l.drop k).map Value.string):=by simp
 obtain⟨cs,hcs⟩:∃ cs,cs=l.map Value.string:=⟨_,rfl⟩
 have hcl:cs.length=l.length:=by rw [hcs];simp
 have htk:(l.take k).map Value.string=cs.take k:=by rw [hcs,List.map_take]
 have hdk:(l.drop k).map Value.string=cs.drop k:=by rw [hcs,List.map_drop]
 have h1c:∀ u∈cs,u.oneCell'=true:=by rw [hcs];exact one_str l
 rw [← hcs] at H
 have hg63:∀ c,grownCap w (l.length+1) c 9<=maxLen:=λ c=>grownCap_le_maxLen w (l.length+1) c 9 (by unfold maxLen;omega)
 have hgge:∀ c,l.length+1<=grownCap w (l.length+1) c 9:=λ c=>grownCap_ge w _ _ _
 have newrow:∀ (W:World) (G:Nat) (cur:Array Value) (rest:List Value),W.heap[w.heap.size]?=some (.cells cur 9 (0,0))->l.length+1<=G->G<=maxLen->cur.size=G->cur.toList.take (l.length+1)=(l.take k++x::l.drop k).map Value.string ->
   W.ownsRow base 9 1 (.slice (some ⟨w.heap.size,0,none⟩) (l.length+1) G) (l.take k++x::l.drop k).length ((l.take k++x::l.drop k).map Value.string):=by
  intro W G cur _ h1 h2 h3 h4 h5
  rw [hlen]
  exact⟨by simp;omega,.inr ⟨w.heap.size,G,cur,rfl,hbase,h1,h2,h3,by rw [h4];omega,by rw [Nat.mul_one];exact h5⟩⟩
 rcases H.2 with⟨hv0,h0⟩ | ⟨g,c,cur0,hv0,q2,q3,q4,q5,q6,q7⟩
 ·
  subst hv0
  have hl0:l.length=0:=h0
  have hk0:k=0:=by omega
  subst hk0
  have C:=Any2.slices_Insert_string_end_grow Zgb (none:Option Addr) 0 0 vb 0 1 1 [] [Value.string x] w (by omega) (by omega) (by omega) (by omega) rfl rfl (λ _=>rfl) (λ a h=>by cases h) hvs h1v
  simp only [show insLay_ren.t 9=9 from rfl] at C
  refine C.mono ?_
  rintro e w' ⟨rfl,rfl⟩
  have hl:l=[]:=List.length_eq_zero_iff.1 hl0
  subst hl
  have hG:0+1<=grownCap w (0+1) 0 9:=grownCap_ge w _ _ _
  have hG2:grownCap w (0+1) 0 9<=maxLen:=grownCap_le_maxLen w (0+1) 0 9 (by unfold maxLen;omega)
  generalize grownCap w (0+1) 0 9=G at *
  refine ⟨_,rfl,newrow _ _ _ [] (ZcZ w.drew _ _) hG hG2 (by simp [Builtin.zeroCells,Value.cells];omega) (by simp),?_⟩
  have hK:Kept [] w (w.drew.alloc (.cells (([]++[Value.string x]).toArray++Builtin.zeroCells (Value.string ⟨#[]⟩).cells (G-(0+1))) 9)):=
   (Kept.of_below (Zag (Below.refl _ _) 1)).trans (Kept.of_below (Zab _ _))
  exact⟨hK.os,hK.tape,hK.output,hK.size,λ b hb hn=>hK.block b hb (by simp)⟩
 ·subst hv0
  have hown:(Value.slice (some ⟨g,0,none⟩) l.length c).ownBlock=some g:=rfl
  have hne':vb≠g:=λ e=>hne (by rw [e];rfl)
  have hgl:g<w.heap.size:=(Qg q3).1
  have q6':cur0.size=c:=by simpa using q6
  have q7':cur0.toList.take l.length=cs:=by simpa using q7
  have hcell:∀ j u,cs[j]?=some u->w.cell? ⟨g,0+j,none⟩=some u:=λ j u hj=>by
   have hjl:j<cs.length:=(List.getElem?_eq_some_iff.1 hj).1
   rw [Nat.zero_add,H.cellAt j (by omega)];exact hj
  have hsome:∀ j,j<c->(w.cell? ⟨g,0+j,none⟩).isSome=true:=λ j hj=>by
   rw [Nat.zero_add,cell_of_row w g j _ _ _ q3,Array.getElem?_eq_getElem (show j<cur0.size by omega)];rfl
  have hfz:∀ j,w.frozen? ⟨g,0+j,none⟩=false:=λ j=>frozen_of_row w g _ _ _ q3
  have hc63:c<=9223372036854775807:=by unfold maxLen at q5;omega
  by_cases hroom:l.length+1<=c
  ·obtain⟨Z,hZ,hrowZ⟩:=Znj H hroom
   by_cases hkn:k<l.length
   ·have C:=Any2.slices_Insert_string_shift Zgb g 0 l.length c k vb 0 1 1 cs [Value.string x] w hkn (by omega) hroom hc63 hne' hcl rfl hcell (λ j hj=>hsome j (by omega)) (λ j _=>hfz j) hvs h1c h1v 9 9 1 c (by simp [World.shape?,hvb]) (by simp [World.shape?,q3,q6']) (by omega) (frozen_of_row w vb 0 _ _ hvb) (frozen_of_row w vb 1 _ _ hvb)
    refine C.mono ?_
    rintro e w' ⟨rfl,rfl⟩
    have r1:=ZbK (cs.drop k) w.drew (cs++Z) (0+(k+1)) hrowZ
    have r2:=ZbK [Value.string x] _ _ (0+k) r1
    rw [Zbn,Zbn] at r2
    have e1:Zbr (Zbr (cs++Z) (0+(k+1)) (cs.drop k)) (0+k) [Value.string x]=cs.take k++([Value.string x]++cs.drop k):=by
     have:=Zlg (A:=cs.take k) (D:=cs.drop k) (X:=[Value.string x]) (Z:=Z) (by rw [hZ];rfl) (by simp [hZ];omega)
     rw [List.take_append_drop,List.length_take,Nat.min_eq_left (by omega)] at this
     simpa using this
    rw [e1] at r2
    refine ⟨_,rfl,?_,Zh8 ?_⟩
    ·rw [hlen,hmap,htk,hdk];exact r2
    ·rw [← Zbn,← Zbn]
     exact((Kept.of_below (Zag (Below.refl _ _) 1)).trans (Zbx _ _ _)).trans (Zbx _ _ _)
   ·have hke:k=l.length:=by omega
    subst hke
    have C:=Any2.slices_Insert_string_end_room Zgb g 0 l.length c vb 0 1 1 [Value.string x] w (by omega) hroom hc63 rfl (λ j hj=>by have:=hsome (l.length+j) (by omega);rwa [Nat.zero_add] at this ⊢) (λ j _=>by have:=hfz (l.length+j);rwa [Nat.zero_add] at this ⊢) hvs h1v
    refine C.mono ?_
    rintro e w' ⟨rfl,rfl⟩
    have r1:=ZbK [Value.string x] w (cs++Z) (0+l.length) hrowZ
    rw [Zbn] at r1
    have e1:Zbr (cs++Z) (0+l.length) [Value.string x]=cs++([Value.string x]++[]):=by
     have:=Zbw [Value.string x] cs Z [] (by rw [hZ];rfl)
     rw [List.append_nil,hcl] at this
     rw [Nat.zero_add];exact this
    rw [e1] at r1
    refine ⟨_,rfl,?_,Zh8 ?_⟩
    ·rw [hlen,hmap,htk,hdk,List.take_of_length_le (by omega),List.drop_eq_nil_of_le (by omega)];exact r1
    ·rw [← Zbn];exact Zbx _ _ _
  ·have hG:=hgge c
   have hG2:=hg63 c
   by_cases hkn:k<l.length
   ·have C:=Any2.slices_Insert_string_grow Zgb g 0 l.length c k vb 0 1 1 cs [Value.string x] w hkn (by omega) q4 (by omega) (by omega) hcl rfl hcell hvs h1c h1v
    simp only [show insLay_ren.t 9=9 from rfl] at C
    refine C.mono ?_
    rintro e w' ⟨rfl,rfl⟩
    obtain⟨ROW,hROW⟩:∃ ROW:Array Value,ROW=(cs.take k).toArray++Builtin.zeroCells (Value.string ⟨#[]⟩).cells (l.length+1-k)++Builtin.zeroCells (Value.string ⟨#[]⟩).cells (grownCap w (l.length+1) c 9-(l.length+1)):=⟨_,rfl⟩
    have hzc:∀ m,(Builtin.zeroCells (Value.string ⟨#[]⟩).cells m).size=m:=λ m=>by simp [Builtin.zeroCells,Value.cells]
    have hRs:ROW.size=grownCap w (l.length+1) c 9:=by rw [hROW,Array.size_append,Array.size_append,hzc,hzc];simp;omega
    have hrow1:(w.alloc (.cells ROW 9)).ownsRow base 9 1 (.slice (some ⟨w.heap.size,0,none⟩) (l.length+1) (grownCap w (l.length+1) c 9)) (l.length+1) (cs.take k++((ROW.toList.drop k).take (l.length+1-k))):=by
     refine ⟨by simp [hRs];omega,.inr ⟨w.heap.size,_,ROW,rfl,hbase,by show (w.heap.push _)[_]?=_;simp,hG,hG2,by rw [hRs];omega,?_⟩⟩
     have ht:ROW.toList.take k=cs.take k:=by
      rw [hROW,Array.append_assoc,Array.toList_append,List.take_append_of_le_length (by simp;omega)]
      simp [List.take_take]
     rw [Nat.mul_one]
     conv=>lhs;rw [show l.length+1=k+(l.length+1-k) by omega,List.take_add,ht]
    have r1:=ZbK [Value.string x] _ _ k (by exact hrow1:((w.alloc (.cells ROW 9)).drew).ownsRow base 9 1 _ _ _)
    have r2:=ZbK (cs.drop k) _ _ (k+1) (by exact r1:((Zdt (w.alloc (.cells ROW 9)).drew w.heap.size k [Value.string x]).drew).ownsRow base 9 1 _ _ _)
    rw [Zbn,Zbn] at r2
    have hZl:((ROW.toList.drop k).take (l.length+1-k)).length=l.length+1-k:=by simp [hRs];omega
    have e1:Zbr (Zbr (cs.take k++((ROW.toList.drop k).take (l.length+1-k))) k [Value.string x]) (k+1) (cs.drop k)=cs.take k++([Value.string x]++cs.drop k):=by
     have h1:=List.take_append_drop 1 ((ROW.toList.drop k).take (l.length+1-k))
     rw [← h1]
     have:=Zlh (A:=cs.take k) (X:=[Value.string x]) (D:=cs.drop k) (Z1:=((ROW.toList.drop k).take (l.length+1-k)).take 1) (Z2:=((ROW.toList.drop k).take (l.length+1-k)).drop 1) (by rw [List.length_take,hZl];simp;omega) (by rw [List.length_drop,hZl];simp;omega)
     rw [List.length_take,Nat.min_eq_left (by omega)] at this
     simpa using this
    rw [e1] at r2
    refine ⟨_,rfl,?_,?_⟩
    ·rw [hlen,hmap,htk,hdk]
     rw [hROW] at r2
     exact r2
    ·have hK:Kept [w.heap.size] w ((((w.alloc (.cells ROW 9)).drew.setCells w.heap.size k [Value.string x]).drew).setCells w.heap.size (k+1) (cs.drop k)):=by
      rw [← Zbn,← Zbn]
      exact((((Kept.of_below (Zab _ _)).drewN 1).trans (Zbx _ _ _)).drewN 1).trans (Zbx _ _ _)
     rw [hROW] at hK
     exact⟨hK.os,hK.tape,hK.output,hK.size,λ b hb _=>hK.block b hb (by simp;omega)⟩
   ·have hke:k=l.length:=by omega
    subst hke
    have C:=Any2.slices_Insert_string_end_grow Zgb (some ⟨g,0,none⟩) l.length c vb 0 1 1 cs [Value.string x] w (by omega) q4 (by omega) (by omega) hcl rfl (λ h=>by cases h) (λ a h j u hj=>by
     simp only [Qi] at h
     subst h
     rw [Addr.add_lit];exact hcell j u hj) hvs h1v
    simp only [show insLay_ren.t 9=9 from rfl] at C
    refine C.mono ?_
    rintro e w' ⟨rfl,rfl⟩
    refine ⟨_,rfl,newrow _ _ _ [] (ZcZ w.drew _ _) hG hG2 (by simp [Builtin.zeroCells,Value.cells,hcl];omega) ?_,?_⟩
    ·rw [hmap,htk,hdk,List.take_of_length_le (l:=cs) (by omega),List.drop_eq_nil_of_le (by omega)]
     rw [Array.toList_append,List.take_append_of_le_length (by simp;omega),List.take_of_length_le (by simp;omega)]
    ·have hK:Kept [] w (w.drew.alloc (.cells ((cs++[Value.string x]).toArray++Builtin.zeroCells (Value.string ⟨#[]⟩).cells (grownCap w (l.length+1) c 9-(l.length+1))) 9)):=
      (Kept.of_below (Zag (Below.refl _ _) 1)).trans (Kept.of_below (Zab _ _))
     exact⟨hK.os,hK.tape,hK.output,hK.size,λ b hb hn=>hK.block b hb (by simp)⟩
theorem Zao {w:World} {ops:Array Oper} {o:Oper} {a:Act} {K:Act->World->Prop} {Q:Exit->Act->World->Prop} {E:Prop} (d:Nat) (hdst:o.dst=some d) (hg:o.guard=none) (s y:Operand)
  (ho:o.op=.call { callee:=.builtin .append,args:=#[s,y],argTypes:=#[30,30] })
  (base:Nat) (v u:Value) (L M:List ByteArray) (fp:List Nat) (hs:a.eval s=v) (hown:w.ownsRow base 9 1 v L.length (L.map Value.string)) (hy:a.eval y=u) (HM:(Zaa sStr).R w [u] M fp)
  (h63:L.length+M.length<=4000000) (hbase:base<=w.heap.size)
  (h:∀ v' w',w'.ownsRow base 9 1 v' (L++M).length ((L++M).map Value.string)->w.grownBy w' v.ownBlock->K (a.put (some d) v') w'):if Region.wanted o (yielded ops a.tmps)=true then Oper.wp Tryz.prog o a w K Q else E:=by
 have hwt:Region.wanted o (yielded ops a.tmps)=true:=by simp [Region.wanted,hg]
 rw [if_pos hwt]
 rw [← hdst] at h
 obtain⟨i,hi,hz0,hz1,hz2⟩:=info_parts ti27.2
 obtain⟨ad,cap,rfl,hc,hm,hcell,hsz⟩:=Zaf HM
 have key:∀ (b off:Nat),(0<M.length->∀ j,(hj:j<M.length)->w.cell? ⟨b,off+j,none⟩=some (.string M[j]))->a.eval y=.slice (some ⟨b,off,none⟩) M.length cap->Oper.wp Tryz.prog o a w K Q:=by
  intro b off hat hy'
  refine wp_append_own w s y 30 ho base 9 i _ 1 16 ti27.1 hi hz0 hz1 hz2 rfl (by decide) v L.length (L.map Value.string) hs hown ⟨b,off,none⟩ M.length cap (M.map Value.string) hy' (by simp) ?_ ?_ (by unfold maxLen;omega) (by omega) hbase λ v' w' h1 h2 _=>h v' w' ?_ h2
  ·intro j x hj
   have hj':j<M.length:=by have:=(List.getElem?_eq_some_iff.1 hj).1;simpa using this
   rw [Addr.add_lit,hat (by omega) j hj',← hj]
   simp [List.getElem?_eq_getElem hj']
  ·intro x hx
   obtain⟨s,_,rfl⟩:=List.mem_map.1 hx
   rfl
  ·simpa using h1
 by_cases h0:0<M.length
 ·obtain⟨b,off,rfl,_,_,hc2⟩:=hcell h0
  exact key b off (λ _ j hj=>hc2 j hj) hy
 ·have hM:M=[]:=List.length_eq_zero_iff.1 (by omega)
  subst hM
  cases ad with
  |
   none =>
   have hrun:=run_append_nil (P:=Tryz.prog) (w:=w) base 30 o.type 9 i 1 cap ti27.1 hi v L.length _ hown
   have hK:=h v w (by simpa using hown) ⟨rfl,rfl,rfl,Nat.le_refl _,λ _ _ _=>rfl⟩
   unfold Oper.wp
   simp only [List.length_nil] at hy
   simp [execOp,ho,resolve,invoke,builtin,hs,hy,hrun,Result.andThen]
   exact hK
  |
   some ad =>
   refine wp_append_own w s y 30 ho base 9 i _ 1 16 ti27.1 hi hz0 hz1 hz2 rfl (by decide) v L.length (L.map Value.string) hs hown ad 0 cap [] hy rfl (by simp) (by simp) (by unfold maxLen;omega) (by omega) hbase λ v' w' h1 h2 _=>h v' w' (by simpa using h1) h2
theorem ZbT {w:World} {g:Nat} {s:ByteArray} (h:w.heap[g]?=some (.cells #[.string s] 9 (0,0))) (hs:s.size<=maxLen):(Zaa sStr).R w [.slice (some ⟨g,0,none⟩) 1 1] [s] [g]:=by
 refine ⟨_,_,rfl,Nat.le_refl _,by unfold maxLen;omega,.inr ⟨by simp,g,0,λ _=>[],rfl,by simp,(Qg h).1,λ i hi=>?_⟩⟩
 have hi0:i=0:=by simpa using hi
 subst hi0
 refine ⟨[.string s],⟨rfl,λ j hj=>?_⟩,rfl,hs,rfl⟩
 have hj0:j=0:=by simp [sStr,sFlat] at hj;exact hj
 subst hj0
 exact Qc 0 h
theorem ZbE {w:World} {base base':Nat} {e:TypeId} {m n:Nat} {v:Value} {xs:List Value} (h:w.ownsRow base e m v n xs) (hl:base'<=base):w.ownsRow base' e m v n xs:=by
 refine ⟨h.1,?_⟩
 rcases h.2 with h0 | ⟨g,cap,cur,h1,h2,h3⟩
 ·exact .inl h0
 ·exact .inr ⟨g,cap,cur,h1,Nat.le_trans hl h2,h3⟩
theorem Zci {w w':World} {base:Nat} {e:TypeId} {m n:Nat} {v:Value} {xs:List Value} (h:w.ownsRow base e m v n xs) (hb:Below w.heap.size w w'):w'.ownsRow base e m v n xs:=
 Zbb h λ g hg=>hb.block g (h.lt g hg).2
def ZdQ (l:List ByteArray) (w:World) (e:Ending) (w':World):Prop:=
 ∃ (ao:Option Addr) (c:Nat) (fp:List Nat),e=.returned (.slice ao l.length c)/\(Zaa sStr).R w' [.slice ao l.length c] l fp/\Own w' w.heap.size fp/\(∀ b∈fp,∃ cur t fr,w'.heap[b]?=some (.cells cur t fr)/\t=9)/\Below w.heap.size w w'
theorem Zhn {l:List ByteArray} {w w':World} {v:Value} (h:w'.ownsRow w.heap.size 9 1 v l.length (l.map Value.string)) (hs:∀ x∈l,x.size<=maxLen) (hb:Below w.heap.size w w'):ZdQ l w (.returned v) w':=by
 obtain⟨fp,R,O,hfp⟩:=Zb0 (ok:=okStr) h λ i hi=>hs _ (List.getElem_mem hi)
 obtain⟨a,cap,rfl,-⟩:=Zaf R
 refine ⟨a,cap,fp,rfl,R,O,λ b hb'=>?_,hb⟩
 have hv:=hfp b hb'
 rcases h.2 with⟨h',_⟩ | ⟨g,capg,cur,h',_,hg,_⟩
 ·rw [h'] at hv;simp [Value.ownBlock] at hv
 ·rw [h'] at hv
  simp only [Value.ownBlock,Qi] at hv
  subst hv
  exact⟨_,_,_,hg,rfl⟩
theorem ins_ok {l:List ByteArray} {nm:ByteArray} (h:∀ x∈l,x.size<=maxLen) (hn:nm.size<=maxLen):∀ x∈ins l nm,x.size<=maxLen:=by
 induction l with
 | nil=>intro x hx;rw [ins] at hx;rw [Qm hx];exact hn
 |
  cons y r ih =>
  intro x hx
  rw [ins] at hx
  split at hx
  ·rcases List.mem_cons.1 hx with rfl | hx
   ·exact h _ (by simp)
   ·exact ih (λ z hz=>h z (by simp [hz])) x hx
  ·split at hx
   ·exact h x hx
   ·rcases List.mem_cons.1 hx with rfl | hx
    ·exact hn
    ·exact h x hx
theorem Zh9 {l:List ByteArray} (h:∀ i,(hi:i<l.length)->l[i].size<=maxLen):∀ x∈l,x.size<=maxLen:=λ x hx=>by
 obtain⟨i,hi,rfl⟩:=List.getElem_of_mem hx;exact h i hi
theorem ZdD (v:Value) (l:List ByteArray) (nm:ByteArray) (fp:List Nat) (w:World) (hu:Up l) (hl:l.length<=1000000) (hnm:nm.size<=maxLen) (H:(Zaa sStr).R w [v] l fp) :
  Calls Tryz.prog 117 #[v,.string nm] w (ZdQ (ins l nm) w):=by
 obtain⟨a0,cap0,rfl,-,-,-,hsz⟩:=Zaf H
 have HSZ:=Qh (ins_ok (nm:=nm) (Zh9 hsz) hnm)
 have HOK:=Qh (Zh9 hsz)
 have HU:=Qh hu
 have HLE:=Qh (ZiA l nm)
 clear hsz hu
 cases hs:isS l nm
 ·have HI:=Qh (ins_no HU.out hs)
  go_enter Tryz.func117,Tryz.ntmps117
  go_wp2_with (
        at_builtin;refine Zbs rfl (.tmp 8) (.tmp 9) rfl w.heap.size (.slice none 0 0) (.slice a0 l.length cap0) [] l _ rfl (World.ownsRow_nil _ _ _ _) rfl H (by simp;omega) (Nat.le_refl _) ?_;intro v5 w1 hown hgrow
        rw [List.nil_append] at hown
        have hb1:Below w.heap.size w w1:=(Below.refl _ _).grown hgrow (Nat.le_refl _) (λ b hb=>by simp [Value.ownBlock] at hb)
        obtain⟨fp1,R1,O1,-⟩:=Zb0 (ok:=okStr) hown (λ i hi=>HOK.out _ (List.getElem_mem hi))
        have HC:=Qh (ZeF _ l nm fp1 w1 HU.out hl R1)
        rw [hs] at HC
        obtain⟨a1,cap1,rfl,-⟩:=Zaf R1
        have HO:=Qh hown
        clear hown hgrow R1 O1)
  refine HC.out.mono ?_
  rintro e w2 ⟨rfl,rfl⟩
  clear HC
  have hba:=Zab w2 (.cells #[.string nm] 9)
  have hne:(Value.slice a1 l.length cap1).ownBlock≠some w2.heap.size:=λ h=>by have:=(HO.out.lt _ h).2;omega
  have HINS:=Qh (Zll w.heap.size w2.heap.size _ l nm (lowS l nm) (w2.alloc (.cells #[.string nm] 9)) hl HLE.out (Zci HO.out hba) (ZcZ w2 _ _) hne (by have:=hb1.size;simp;omega))
  have HR:=Qh (Zci HO.out hba)
  have hlo:∀ b,(Value.slice a1 l.length cap1).ownBlock=some b->w.heap.size<=b:=λ b hb=>(HO.out.lt b hb).1
  generalize lowS l nm=lo at *
  clear hs hne
  go_wp2_with fail
  refine HINS.out.mono ?_
  rintro e w3 ⟨v3,rfl,hr3,hg3⟩
  have hb3:Below w.heap.size w w3:=(hb1.trans (hba.mono hb1.size)).grown hg3 (by have:=hb1.size;simp;omega) hlo
  have HF:=Qh (Zhn (l:=ins l nm) (w:=w) (by rw [HI.out];exact hr3) HSZ.out hb3)
  clear hr3 hg3 hb3
  go_wp2
  go_ret
  exact HF.out
 ·have HI:=Qh (ins_yes HU.out hs)
  go_enter Tryz.func117,Tryz.ntmps117
  go_wp2_with (
        at_builtin;refine Zbs rfl (.tmp 8) (.tmp 9) rfl w.heap.size (.slice none 0 0) (.slice a0 l.length cap0) [] l _ rfl (World.ownsRow_nil _ _ _ _) rfl H (by simp;omega) (Nat.le_refl _) ?_;intro v5 w1 hown hgrow
        rw [List.nil_append] at hown
        have hb1:Below w.heap.size w w1:=(Below.refl _ _).grown hgrow (Nat.le_refl _) (λ b hb=>by simp [Value.ownBlock] at hb)
        obtain⟨fp1,R1,O1,-⟩:=Zb0 (ok:=okStr) hown (λ i hi=>HOK.out _ (List.getElem_mem hi))
        have HC:=Qh (ZeF _ l nm fp1 w1 HU.out hl R1)
        rw [hs] at HC
        obtain⟨a1,cap1,rfl,-⟩:=Zaf R1
        have HO:=Qh hown
        clear hown hgrow R1 O1)
  refine HC.out.mono ?_
  rintro e w2 ⟨rfl,rfl⟩
  have HF:=Qh (Zhn (l:=ins l nm) (w:=w) (by rw [HI.out];exact HO.out) HSZ.out hb1)
  clear HC HO
  generalize lowS l nm=lo at *
  go_wp2
  go_ret
  exact HF.out
theorem Za0 {w:World} {base:Nat} {e:TypeId} {m n:Nat} {v:Value} {xs:List Value} (h:w.ownsRow base e m v n xs):∃ a c,v=.slice a n c:=by
 rcases h.2 with⟨rfl,h0⟩ | ⟨g,cap,cur,rfl,_⟩
 ·exact⟨none,0,by rw [h0]⟩
 ·exact⟨_,_,rfl⟩
theorem ZfD (va vb:Value) (z b:List ByteArray) (fpa fpb:List Nat) (w:World) (hl:z.length+b.length<=1000000) (Ha:(Zaa sStr).R w [va] z fpa) (Hb:(Zaa sStr).R w [vb] b fpb) :
  Calls Tryz.prog 73 #[va,vb] w (ZdQ (b.foldl ins z) w):=by
 obtain⟨a0,cap0,rfl,-,-,-,hsz⟩:=Zaf Ha
 obtain⟨ab,capb,rfl,hcb,hmb,hcellb,hszb⟩:=Zaf Hb
 have HOK:=Qh (Zh9 hsz)
 have HOB:=Qh (Zh9 hszb)
 have HCB0:Hid (∀ h:0<b.length,∃ bb offb,ab=some ⟨bb,offb,none⟩/\bb<w.heap.size/\∀ j,(hj:j<b.length)->w.cell? ⟨bb,offb+j,none⟩=some (.string b[j])):=λ h=>by
  obtain⟨bb,offb,e,hbb,-,hc⟩:=hcellb h
  exact⟨bb,offb,e,hbb,hc⟩
 have hlit:Hid ((w.alloc (.cells #[] 9)).ownsRow w.heap.size 9 1 (.slice (some ⟨w.heap.size,0,none⟩) 0 0) ([]:List ByteArray).length (([]:List ByteArray).map Value.string)):=
  World.ownsRow_lit (base:=w.heap.size) (e:=9) (size:=1) w #[] 0 (Nat.le_refl _) (by simp) rfl
 have hba:=Zab w (.cells #[] 9)
 have HA:=Qh ((Zaa sStr).below Ha hba)
 have hbs:=hba.size
 unfold maxLen at hmb
 clear Ha Hb hsz hszb hcellb
 go_enter Tryz.func73,Tryz.ntmps73
 go_upto_region 2 with(
            at_builtin;refine Zbs rfl (.tmp 8) (.tmp 9) rfl w.heap.size (.slice (some ⟨w.heap.size,0,none⟩) 0 0) (.slice a0 z.length cap0) [] z _ rfl hlit.out rfl HA.out (by simp;omega) hbs ?_;intro v5 w1 hown hgrow
            rw [List.nil_append] at hown
            have hb1:Below w.heap.size w w1:=hba.grown hgrow hbs (λ b hb=>by simp [Value.ownBlock] at hb;omega)
            obtain⟨a8,c8,rfl⟩:=Za0 hown
            have HO:=Qh hown
            clear hown hgrow)
 clear hlit HA hba hbs
 go_wp2
 go_loopw [5,6] (λ o i wr=>∃ (k:Nat) (a:List ByteArray),k<=b.length/\i=.int .i64 k/\Hid (b.foldl ins z=(b.drop k).foldl ins a)/\Hid (wr.ownsRow w.heap.size 9 1 o a.length (a.map Value.string))/\Hid (∀ x∈a,x.size<=maxLen)/\a.length<=z.length+k/\Below w.heap.size w wr) (λ _ i _=>b.length-(intOf i).toNat)
 case atStart=>exact⟨0,z,by omega,rfl,rfl,HO.out,HOK.out,by omega,hb1⟩
 case round =>
  clear HO hb1
  obtain⟨k0,a,hk0,rfl,HFD,HE,HOKa,hla,hb1⟩:=hrel
  obtain⟨a1,cap1,hov⟩:=Za0 HE.out
  subst hov
  by_cases hkb:k0<b.length
  rotate_left
  ·have HF:Hid (ZdQ (b.foldl ins z) w (.returned (.slice a1 a.length cap1)) wr):=by
    show ZdQ _ _ _ _
    rw [HFD.out,List.drop_of_length_le (by omega)]
    exact Zhn HE.out HOKa.out hb1
   go_wp2
   go_ret
   exact HF.out
  ·obtain⟨bb,offb,rfl,hbb,hcb2⟩:=HCB0.out (by omega)
   obtain⟨nm,HNM⟩:∃ nm,Hid (nm=b[k0]):=⟨b[k0],Qh rfl⟩
   have cb0:w.cell? ⟨bb,offb+k0,none⟩=some (.string nm):=by rw [HNM.out];exact hcb2 k0 hkb
   have hnm:nm.size<=maxLen:=HOB.out nm (by rw [HNM.out];exact List.getElem_mem hkb)
   have HFD2:Hid (b.foldl ins z=(b.drop (k0+1)).foldl ins (ins a nm)):=by show _=_;rw [HFD.out,List.drop_eq_getElem_cons hkb,List.foldl_cons,HNM.out]
   have HSZ:=Qh (ins_ok HOKa.out hnm)
   have hlen2:(ins a nm).length<=z.length+(k0+1):=by have:=Zff nm a;omega
   have hl1:a.length<=1000000:=by omega
   have j0:(0:Int)<=(k0:Int):=by omega
   have j1:(k0:Int)<(b.length:Int):=by omega
   obtain⟨fp1,R1,O1,-⟩:=Zb0 (ok:=okStr) HE.out (λ i hi=>HOKa.out _ (List.getElem_mem hi))
   have HR1:=Qh R1
   have HU1:=Qh ((Zaa sStr).lt R1)
   obtain⟨a9,cap9,ha9,hc1,hm1,hcell1,-⟩:=Zaf R1
   simp only [Value.slice.injEq,true_and] at ha9
   obtain⟨rfl,rfl⟩:=ha9
   unfold maxLen at hm1
   have HO:=HE
   clear R1 O1 hcb2
   go_wp2
   generalize wr=w1 at *
   go_loopw [7] (λ i wi=>∃ n:Nat,n<=a.length/\i=.int .i64 n/\Hid (∀ j,(hj:j<a.length)->j<n->sLess a[j] nm=true)/\Below w1.heap.size w1 wi) (λ i _=>a.length-(intOf i).toNat)
   case atStart=>exact⟨0,by omega,rfl,λ j _ h=>by omega,Below.refl _ _⟩
   case round =>
    obtain⟨n,hn,rfl,HLT,hbi⟩:=hrel
    have hb1r:Below w.heap.size w wr:=hb1.trans (hbi.mono hb1.size)
    have cbr:wr.cell? ⟨bb,offb+k0,none⟩=some (.string nm):=(hb1r.cell (p:=⟨bb,offb+k0,none⟩) hbb).trans cb0
    have hi1:(0:Int)<=(n:Int):=by omega
    by_cases hlt:n<a.length
    ·obtain⟨b1,off1,rfl,hbl1,-,he1⟩:=hcell1 (by omega)
     have c10:wr.cell? ⟨b1,off1+n,none⟩=some (.string a[n]):=(hbi.cell (p:=⟨b1,off1+n,none⟩) hbl1).trans (he1 n hlt)
     have h0:decide ((n:Int)<(a.length:Int))=true:=decide_eq_true (by omega)
     have h1:decide (n<a.length)=true:=decide_eq_true hlt
     have hi2:(n:Int)<(a.length:Int):=by omega
     clear he1 hcell1
     cases hs:sLess a[n] nm
     ·have hs':Op.bytesLess a[n].toList nm.toList=false:=hs
      go_wp2_with fail
      go_quiet (fail)
      have hbq0:=Zag hbi nq
      have cbq:(wr.drewN nq).cell? ⟨bb,offb+k0,none⟩=some (.string nm):=cbr
      have c1q:(wr.drewN nq).cell? ⟨b1,off1+n,none⟩=some (.string a[n]):=c10
      clear c10 cbr hb1r hbi
      generalize wr.drewN nq=wq0 at *
      have e0:((n:Int)==(a.length:Int))=false:=by simp;omega
      have e1:(n==a.length)=false:=by simp;omega
      cases he:(a[n].toList==nm.toList)
      ·have HI:=Qh (ZhV nm a n hn HLT.out (λ _=>⟨hs,he⟩))
       go_wp2_with fail
       go_quiet (fail)
       have hbq1:=Zag hbq0 nq
       have cb:(wq0.drewN nq).cell? ⟨bb,offb+k0,none⟩=some (.string nm):=cbq
       clear hbq0 cbq c1q hs hs' he h0 h1 e0 e1
       generalize wq0.drewN nq=wq at *
       have hbq:Below w.heap.size w wq:=hb1.trans (hbq1.mono hb1.size)
       have HRq:=Qh ((Zaa sStr).below HR1.out hbq1)
       have HUq:Hid (∀ b∈fp1,b<wq.heap.size):=λ b hb=>by have:=HU1.out b hb;have:=hbq1.size;omega
       have hbb2:bb<wq.heap.size:=by have:=hbq.size;omega
       go_wp2_with fail
       obtain⟨fa,RA,hfa⟩:=Zcr n (by omega) HRq.out
       obtain⟨fb,RB,hfb⟩:=Za3 n (by omega) HRq.out
       rw [show n * sStr.m=n from Nat.mul_one n] at RB
       obtain⟨M1,HM1⟩:∃ M1:List ByteArray,Hid (M1=a.take n):=⟨_,rfl⟩
       have HM1l:Hid (M1.length=n):=by show _=_;rw [HM1.out,List.length_take];omega
       have hd:Below wq.heap.size wq wq.drew:=Zag (Below.refl _ _) 1
       have HRAwd:Hid ((Zaa sStr).R wq.drew [.slice (some ⟨b1,off1,none⟩) n cap1] M1 fa):=by show (Zaa sStr).R _ _ _ _;rw [HM1.out];exact(Zaa sStr).below RA hd
       obtain⟨sv,HSV⟩:∃ sv:Value,Hid (sv=.slice (if cap1=n then (some ⟨b1,off1,none⟩) else ((some ⟨b1,off1,none⟩):Option Addr).map (·.add n)) (a.length-n) (cap1-n)):=⟨_,rfl⟩
       have HRBwd:Hid ((Zaa sStr).R wq.drew [sv] (a.drop n) fb):=by show (Zaa sStr).R _ _ _ _;rw [HSV.out];exact(Zaa sStr).below RB hd
       have HFP:Hid ((∀ b∈fa,b<wq.drew.heap.size)/\(∀ b∈fb,b<wq.drew.heap.size)):=⟨λ b hb=>HUq.out b (hfa b hb),λ b hb=>HUq.out b (hfb b hb)⟩
       have HBwd:=Qh (hbq.trans (hd.mono hbq.size))
       have hsd:w.heap.size<=wq.drew.heap.size:=HBwd.out.size
       have HCB:Hid (wq.drew.cell? ⟨bb,offb+k0,none⟩=some (.string nm)):=cb
       have hbb3:bb<wq.drew.heap.size:=hbb2
       have HTL:Hid ((a.take n).length=n/\(a.drop n).length=a.length-n):=⟨by rw [List.length_take];omega,List.length_drop⟩
       clear RA RB hfa hfb hd HRq HUq
       refine wp_region_noPanic ?_
       refine wp_region_held_drew (S:=λ w'=>w'.cell? ⟨bb,offb+k0,none⟩=some (.string nm)) (by kernel_rfl) (by exact HCB.out) (λ hHeld=>?_)
       generalize wq.drew=wd at *
       have hp1:(0:Int)<=(n:Int):=by omega
       have hp2:(n:Int)<=(a.length:Int):=by omega
       have hp3:n<=a.length:=by omega
       have hp4:n<=cap1:=by omega
       have hp5:(n:Int)<=(cap1:Int):=by omega
       refine Qt 1 50 rfl rfl ?_
       try simp only [Qp]
       refine Qt 2 51 rfl rfl ?_
       try simp only [Qp]
       refine ZhS 3 52 (v:=.slice (some ⟨b1,off1,none⟩) n cap1) rfl rfl (by kernel_rfl) (by kernel_rfl) (by kernel_rfl) (λ _ _ _ h=>h) (by rfl) (by assumption) ?_ ?_
       ·intro w hSw;go_simp;(first | done | with_reducible rfl | rfl)
       try simp only [Qp]
       refine Qt 5 54 rfl rfl ?_
       try simp only [Qp]
       refine Qt 6 55 rfl rfl ?_
       try simp only [Qp]
       refine Qt 7 56 rfl rfl ?_
       try simp only [Qp]
       refine Qt 8 57 rfl rfl ?_
       try simp only [Qp]
       refine Qt 11 60 rfl rfl ?_
       try simp only [Qp]
       refine Qt 12 61 rfl rfl ?_
       try simp only [Qp]
       refine ZhS 13 62 (v:=sv) rfl rfl (by kernel_rfl) (by kernel_rfl) (by kernel_rfl) (λ _ _ _ h=>h) (by rfl) (by assumption) ?_ ?_
       ·intro w hSw;rw [HSV.out];go_simp;(first | done | with_reducible rfl | rfl)
       try simp only [Qp]
       have HCBwd:=HCB
       refine wpAnyH_ready (rs:=[0,9]) (by decide +kernel) (by simp) ?_
       refine AllReadyH.cons rfl (λ K hK=>?_) (AllReadyH.cons rfl (λ K hK=>?_) AllReadyH.nil)
       ·have bl:=Zab wd (.cells #[] 9)
        have hyx0:wd.heap.size+1<=(wd.alloc (.cells #[] 9)).heap.size:=Nat.le_of_eq (Array.size_push _).symm
        have HGx0:Hid ((wd.alloc (.cells #[] 9)).ownsRow wd.heap.size 9 1 (.slice (some ⟨wd.heap.size,0,none⟩) 0 0) ([]:List ByteArray).length (([]:List ByteArray).map Value.string)):=World.ownsRow_lit (base:=wd.heap.size) (e:=9) (size:=1) wd #[] 0 (by omega) (by simp) rfl
        go_simp
        have HCXx0:Hid ((wd.alloc (.cells #[] 9)).cell? ⟨bb,offb+k0,none⟩=some (.string nm)):=(bl.cell (p:=⟨bb,offb+k0,none⟩) (by show bb<_;omega)).trans HCB.out
        have HRAx0:=Qh ((Zaa sStr).below HRAwd.out bl)
        have HRBx0:=Qh ((Zaa sStr).below HRBwd.out bl)
        have HBx0:=Qh (HBwd.out.trans (bl.mono HBwd.out.size))
        refine hK.out _ _ HCXx0.out (λ hHeld=>?_)
        clear hK K bl
        try simp only [Qp]
        generalize (wd.alloc (.cells #[] 9))=x0 at *
        refine wpAnyH_ready (rs:=[4,9]) (by decide +kernel) (by simp) ?_
        refine AllReadyH.cons rfl (λ K hK=>?_) (AllReadyH.cons rfl (λ K hK=>?_) AllReadyH.nil)
        ·refine Zao 53 rfl rfl (.tmp 49) (.tmp 52) rfl wd.heap.size (.slice (some ⟨wd.heap.size,0,none⟩) 0 0) (.slice (some ⟨b1,off1,none⟩) n cap1) [] M1 fa rfl HGx0.out rfl HRAx0.out (by rw [HM1l.out];simp;omega) (by omega) ?_
         intro vqx1 x1 hG hgr
         have hbw:Below wd.heap.size x0 x1:=(Below.refl wd.heap.size x0).grown hgr (by omega) (λ b hb=>(HGx0.out.lt b hb).1)
         have hyx1:=hbw.size
         have HCXx1:=Qh ((hbw.cell (p:=⟨bb,offb+k0,none⟩) (by show bb<_;omega)).trans HCXx0.out)
         have HRBx1:=Qh ((Zaa sStr).frame (w':=x1) (λ b hb=>hbw.block b (HFP.out.2 b hb)) HRBx0.out)
         have HBx1:=Qh (HBx0.out.trans (hbw.mono (by omega)))
         rw [List.nil_append] at hG
         have HGx1:=Qh hG
         obtain⟨aqx1,cqx1,rfl⟩:=Za0 HGx1.out
         refine hK.out _ _ HCXx1.out (λ hHeld=>?_)
         clear hK K hgr hG hbw
         try simp only [Qp]
         refine Qr 9 rfl (λ K hK=>?_) (by decide +kernel)
         have bl:=Zab x1 (.cells #[.string nm] 9)
         have hyx2:x1.heap.size+1<=(x1.alloc (.cells #[.string nm] 9)).heap.size:=Nat.le_of_eq (Array.size_push _).symm
         have HLx2:=Qh (ZcZ x1 #[.string nm] 9)
         have HGx2:=Qh (Zci HGx1.out bl)
         go_simp
         have HCXx2:Hid ((x1.alloc (.cells #[.string nm] 9)).cell? ⟨bb,offb+k0,none⟩=some (.string nm)):=(bl.cell (p:=⟨bb,offb+k0,none⟩) (by show bb<_;omega)).trans HCXx1.out
         have HRBx2:=Qh ((Zaa sStr).below HRBx1.out bl)
         have HBx2:=Qh (HBx1.out.trans (bl.mono HBx1.out.size))
         refine hK.out _ _ HCXx2.out (λ hHeld=>?_)
         clear hK K bl
         try simp only [Qp]
         generalize (x1.alloc (.cells #[.string nm] 9))=x2 at *
         refine Qr 10 rfl (λ K hK=>?_) (by decide +kernel)
         refine Zao 59 rfl rfl (.tmp 53) (.tmp 58) rfl wd.heap.size (.slice aqx1 M1.length cqx1) (.slice (some ⟨x1.heap.size,0,none⟩) 1 1) M1 [nm] _ rfl HGx2.out rfl (ZbT HLx2.out hnm) (by rw [HM1l.out];simp;omega) (by omega) ?_
         intro vqx3 x3 hG hgr
         have hbw:Below wd.heap.size x2 x3:=(Below.refl wd.heap.size x2).grown hgr (by omega) (λ b hb=>(HGx2.out.lt b hb).1)
         have hyx3:=hbw.size
         have HCXx3:=Qh ((hbw.cell (p:=⟨bb,offb+k0,none⟩) (by show bb<_;omega)).trans HCXx2.out)
         have HRBx3:=Qh ((Zaa sStr).frame (w':=x3) (λ b hb=>hbw.block b (HFP.out.2 b hb)) HRBx2.out)
         have HBx3:=Qh (HBx2.out.trans (hbw.mono (by omega)))
         have HGx3:=Qh hG
         obtain⟨aqx3,cqx3,rfl⟩:=Za0 HGx3.out
         refine hK.out _ _ HCXx3.out (λ hHeld=>?_)
         clear hK K hgr hG hbw
         try simp only [Qp]
         refine Qr 14 rfl (λ K hK=>?_) (by decide +kernel)
         refine Zao 63 rfl rfl (.tmp 59) (.tmp 62) rfl wd.heap.size (.slice aqx3 (M1++[nm]).length cqx3) sv (M1++[nm]) (a.drop n) fb rfl HGx3.out rfl HRBx3.out (by rw [List.length_append,HM1l.out,HTL.out.2];simp;omega) (by omega) ?_
         intro vqx4 x4 hG hgr
         have hbw:Below wd.heap.size x3 x4:=(Below.refl wd.heap.size x3).grown hgr (by omega) (λ b hb=>(HGx3.out.lt b hb).1)
         have hyx4:=hbw.size
         have HCXx4:=Qh ((hbw.cell (p:=⟨bb,offb+k0,none⟩) (by show bb<_;omega)).trans HCXx3.out)
         have HBx4:=Qh (HBx3.out.trans (hbw.mono (by omega)))
         have HGx4:=Qh hG
         refine hK.out _ _ HCXx4.out (λ hHeld=>?_)
         clear hK K hgr hG hbw
         try simp only [Qp]
         refine Qt 15 5 rfl rfl ?_
         try simp only [Qp]
         refine wpAnyH_done (by kernel_rfl) ?_ _
         refine NoPanic.normal ?_
         clear hHeld
         have HFN:Hid (x4.ownsRow w.heap.size 9 1 vqx4 (ins a nm).length ((ins a nm).map Value.string)):=by
          show World.ownsRow _ _ _ _ _ _ _
          rw [HI.out];have:=ZbE HGx4.out hsd;rw [HM1.out] at this;simpa using this
         go_wp2
         go_roundw
         case rel=>exact⟨k0+1,ins a nm,by omega,by go_num,HFD2.out,HFN.out,HSZ.out,hlen2,HBx4.out⟩
         case measure=>simp [intOf];omega
        ·have bl:=Zab x0 (.cells #[.string nm] 9)
         have hyx5:x0.heap.size+1<=(x0.alloc (.cells #[.string nm] 9)).heap.size:=Nat.le_of_eq (Array.size_push _).symm
         have HLx5:=Qh (ZcZ x0 #[.string nm] 9)
         have HGx5:=Qh (Zci HGx0.out bl)
         go_simp
         have HCXx5:Hid ((x0.alloc (.cells #[.string nm] 9)).cell? ⟨bb,offb+k0,none⟩=some (.string nm)):=(bl.cell (p:=⟨bb,offb+k0,none⟩) (by show bb<_;omega)).trans HCXx0.out
         have HRAx5:=Qh ((Zaa sStr).below HRAx0.out bl)
         have HRBx5:=Qh ((Zaa sStr).below HRBx0.out bl)
         have HBx5:=Qh (HBx0.out.trans (bl.mono HBx0.out.size))
         refine hK.out _ _ HCXx5.out (λ hHeld=>?_)
         clear hK K bl
         try simp only [Qp]
         generalize (x0.alloc (.cells #[.string nm] 9))=x5 at *
         refine Qr 4 rfl (λ K hK=>?_) (by decide +kernel)
         refine Zao 53 rfl rfl (.tmp 49) (.tmp 52) rfl wd.heap.size (.slice (some ⟨wd.heap.size,0,none⟩) 0 0) (.slice (some ⟨b1,off1,none⟩) n cap1) [] M1 fa rfl HGx5.out rfl HRAx5.out (by rw [HM1l.out];simp;omega) (by omega) ?_
         intro vqx6 x6 hG hgr
         have hbw:Below wd.heap.size x5 x6:=(Below.refl wd.heap.size x5).grown hgr (by omega) (λ b hb=>(HGx5.out.lt b hb).1)
         have hyx6:=hbw.size
         have HCXx6:=Qh ((hbw.cell (p:=⟨bb,offb+k0,none⟩) (by show bb<_;omega)).trans HCXx5.out)
         have HRBx6:=Qh ((Zaa sStr).frame (w':=x6) (λ b hb=>hbw.block b (HFP.out.2 b hb)) HRBx5.out)
         have HLx6:=Qh ((hgr.block (x0.heap.size) (by omega) (by simp [Value.ownBlock];omega)).trans HLx5.out)
         have HBx6:=Qh (HBx5.out.trans (hbw.mono (by omega)))
         rw [List.nil_append] at hG
         have HGx6:=Qh hG
         obtain⟨aqx6,cqx6,rfl⟩:=Za0 HGx6.out
         refine hK.out _ _ HCXx6.out (λ hHeld=>?_)
         clear hK K hgr hG hbw
         try simp only [Qp]
         refine Qr 10 rfl (λ K hK=>?_) (by decide +kernel)
         refine Zao 59 rfl rfl (.tmp 53) (.tmp 58) rfl wd.heap.size (.slice aqx6 M1.length cqx6) (.slice (some ⟨x0.heap.size,0,none⟩) 1 1) M1 [nm] _ rfl HGx6.out rfl (ZbT HLx6.out hnm) (by rw [HM1l.out];simp;omega) (by omega) ?_
         intro vqx7 x7 hG hgr
         have hbw:Below wd.heap.size x6 x7:=(Below.refl wd.heap.size x6).grown hgr (by omega) (λ b hb=>(HGx6.out.lt b hb).1)
         have hyx7:=hbw.size
         have HCXx7:=Qh ((hbw.cell (p:=⟨bb,offb+k0,none⟩) (by show bb<_;omega)).trans HCXx6.out)
         have HRBx7:=Qh ((Zaa sStr).frame (w':=x7) (λ b hb=>hbw.block b (HFP.out.2 b hb)) HRBx6.out)
         have HBx7:=Qh (HBx6.out.trans (hbw.mono (by omega)))
         have HGx7:=Qh hG
         obtain⟨aqx7,cqx7,rfl⟩:=Za0 HGx7.out
         refine hK.out _ _ HCXx7.out (λ hHeld=>?_)
         clear hK K hgr hG hbw
         try simp only [Qp]
         refine Qr 14 rfl (λ K hK=>?_) (by decide +kernel)
         refine Zao 63 rfl rfl (.tmp 59) (.tmp 62) rfl wd.heap.size (.slice aqx7 (M1++[nm]).length cqx7) sv (M1++[nm]) (a.drop n) fb rfl HGx7.out rfl HRBx7.out (by rw [List.length_append,HM1l.out,HTL.out.2];simp;omega) (by omega) ?_
         intro vqx8 x8 hG hgr
         have hbw:Below wd.heap.size x7 x8:=(Below.refl wd.heap.size x7).grown hgr (by omega) (λ b hb=>(HGx7.out.lt b hb).1)
         have hyx8:=hbw.size
         have HCXx8:=Qh ((hbw.cell (p:=⟨bb,offb+k0,none⟩) (by show bb<_;omega)).trans HCXx7.out)
         have HBx8:=Qh (HBx7.out.trans (hbw.mono (by omega)))
         have HGx8:=Qh hG
         refine hK.out _ _ HCXx8.out (λ hHeld=>?_)
         clear hK K hgr hG hbw
         try simp only [Qp]
         refine Qt 15 5 rfl rfl ?_
         try simp only [Qp]
         refine wpAnyH_done (by kernel_rfl) ?_ _
         refine NoPanic.normal ?_
         clear hHeld
         have HFN:Hid (x8.ownsRow w.heap.size 9 1 vqx8 (ins a nm).length ((ins a nm).map Value.string)):=by
          show World.ownsRow _ _ _ _ _ _ _
          rw [HI.out];have:=ZbE HGx8.out hsd;rw [HM1.out] at this;simpa using this
         go_wp2
         go_roundw
         case rel=>exact⟨k0+1,ins a nm,by omega,by go_num,HFD2.out,HFN.out,HSZ.out,hlen2,HBx8.out⟩
         case measure=>simp [intOf];omega
       ·have bl:=Zab wd (.cells #[.string nm] 9)
        have hyx9:wd.heap.size+1<=(wd.alloc (.cells #[.string nm] 9)).heap.size:=Nat.le_of_eq (Array.size_push _).symm
        have HLx9:=Qh (ZcZ wd #[.string nm] 9)
        go_simp
        have HCXx9:Hid ((wd.alloc (.cells #[.string nm] 9)).cell? ⟨bb,offb+k0,none⟩=some (.string nm)):=(bl.cell (p:=⟨bb,offb+k0,none⟩) (by show bb<_;omega)).trans HCB.out
        have HRAx9:=Qh ((Zaa sStr).below HRAwd.out bl)
        have HRBx9:=Qh ((Zaa sStr).below HRBwd.out bl)
        have HBx9:=Qh (HBwd.out.trans (bl.mono HBwd.out.size))
        refine hK.out _ _ HCXx9.out (λ hHeld=>?_)
        clear hK K bl
        try simp only [Qp]
        generalize (wd.alloc (.cells #[.string nm] 9))=x9 at *
        refine Qr 0 rfl (λ K hK=>?_) (by decide +kernel)
        have bl:=Zab x9 (.cells #[] 9)
        have hyx10:x9.heap.size+1<=(x9.alloc (.cells #[] 9)).heap.size:=Nat.le_of_eq (Array.size_push _).symm
        have HGx10:Hid ((x9.alloc (.cells #[] 9)).ownsRow wd.heap.size 9 1 (.slice (some ⟨x9.heap.size,0,none⟩) 0 0) ([]:List ByteArray).length (([]:List ByteArray).map Value.string)):=World.ownsRow_lit (base:=wd.heap.size) (e:=9) (size:=1) x9 #[] 0 (by omega) (by simp) rfl
        have HLx10:=Qh ((bl.block _ (by omega)).trans HLx9.out)
        go_simp
        have HCXx10:Hid ((x9.alloc (.cells #[] 9)).cell? ⟨bb,offb+k0,none⟩=some (.string nm)):=(bl.cell (p:=⟨bb,offb+k0,none⟩) (by show bb<_;omega)).trans HCXx9.out
        have HRAx10:=Qh ((Zaa sStr).below HRAx9.out bl)
        have HRBx10:=Qh ((Zaa sStr).below HRBx9.out bl)
        have HBx10:=Qh (HBx9.out.trans (bl.mono HBx9.out.size))
        refine hK.out _ _ HCXx10.out (λ hHeld=>?_)
        clear hK K bl
        try simp only [Qp]
        generalize (x9.alloc (.cells #[] 9))=x10 at *
        refine Qr 4 rfl (λ K hK=>?_) (by decide +kernel)
        refine Zao 53 rfl rfl (.tmp 49) (.tmp 52) rfl wd.heap.size (.slice (some ⟨x9.heap.size,0,none⟩) 0 0) (.slice (some ⟨b1,off1,none⟩) n cap1) [] M1 fa rfl HGx10.out rfl HRAx10.out (by rw [HM1l.out];simp;omega) (by omega) ?_
        intro vqx11 x11 hG hgr
        have hbw:Below wd.heap.size x10 x11:=(Below.refl wd.heap.size x10).grown hgr (by omega) (λ b hb=>(HGx10.out.lt b hb).1)
        have hyx11:=hbw.size
        have HCXx11:=Qh ((hbw.cell (p:=⟨bb,offb+k0,none⟩) (by show bb<_;omega)).trans HCXx10.out)
        have HRBx11:=Qh ((Zaa sStr).frame (w':=x11) (λ b hb=>hbw.block b (HFP.out.2 b hb)) HRBx10.out)
        have HLx11:=Qh ((hgr.block (wd.heap.size) (by omega) (by simp [Value.ownBlock];omega)).trans HLx10.out)
        have HBx11:=Qh (HBx10.out.trans (hbw.mono (by omega)))
        rw [List.nil_append] at hG
        have HGx11:=Qh hG
        obtain⟨aqx11,cqx11,rfl⟩:=Za0 HGx11.out
        refine hK.out _ _ HCXx11.out (λ hHeld=>?_)
        clear hK K hgr hG hbw
        try simp only [Qp]
        refine Qr 10 rfl (λ K hK=>?_) (by decide +kernel)
        refine Zao 59 rfl rfl (.tmp 53) (.tmp 58) rfl wd.heap.size (.slice aqx11 M1.length cqx11) (.slice (some ⟨wd.heap.size,0,none⟩) 1 1) M1 [nm] _ rfl HGx11.out rfl (ZbT HLx11.out hnm) (by rw [HM1l.out];simp;omega) (by omega) ?_
        intro vqx12 x12 hG hgr
        have hbw:Below wd.heap.size x11 x12:=(Below.refl wd.heap.size x11).grown hgr (by omega) (λ b hb=>(HGx11.out.lt b hb).1)
        have hyx12:=hbw.size
        have HCXx12:=Qh ((hbw.cell (p:=⟨bb,offb+k0,none⟩) (by show bb<_;omega)).trans HCXx11.out)
        have HRBx12:=Qh ((Zaa sStr).frame (w':=x12) (λ b hb=>hbw.block b (HFP.out.2 b hb)) HRBx11.out)
        have HBx12:=Qh (HBx11.out.trans (hbw.mono (by omega)))
        have HGx12:=Qh hG
        obtain⟨aqx12,cqx12,rfl⟩:=Za0 HGx12.out
        refine hK.out _ _ HCXx12.out (λ hHeld=>?_)
        clear hK K hgr hG hbw
        try simp only [Qp]
        refine Qr 14 rfl (λ K hK=>?_) (by decide +kernel)
        refine Zao 63 rfl rfl (.tmp 59) (.tmp 62) rfl wd.heap.size (.slice aqx12 (M1++[nm]).length cqx12) sv (M1++[nm]) (a.drop n) fb rfl HGx12.out rfl HRBx12.out (by rw [List.length_append,HM1l.out,HTL.out.2];simp;omega) (by omega) ?_
        intro vqx13 x13 hG hgr
        have hbw:Below wd.heap.size x12 x13:=(Below.refl wd.heap.size x12).grown hgr (by omega) (λ b hb=>(HGx12.out.lt b hb).1)
        have hyx13:=hbw.size
        have HCXx13:=Qh ((hbw.cell (p:=⟨bb,offb+k0,none⟩) (by show bb<_;omega)).trans HCXx12.out)
        have HBx13:=Qh (HBx12.out.trans (hbw.mono (by omega)))
        have HGx13:=Qh hG
        refine hK.out _ _ HCXx13.out (λ hHeld=>?_)
        clear hK K hgr hG hbw
        try simp only [Qp]
        refine Qt 15 5 rfl rfl ?_
        try simp only [Qp]
        refine wpAnyH_done (by kernel_rfl) ?_ _
        refine NoPanic.normal ?_
        clear hHeld
        have HFN:Hid (x13.ownsRow w.heap.size 9 1 vqx13 (ins a nm).length ((ins a nm).map Value.string)):=by
         show World.ownsRow _ _ _ _ _ _ _
         rw [HI.out];have:=ZbE HGx13.out hsd;rw [HM1.out] at this;simpa using this
        go_wp2
        go_roundw
        case rel=>exact⟨k0+1,ins a nm,by omega,by go_num,HFD2.out,HFN.out,HSZ.out,hlen2,HBx13.out⟩
        case measure=>simp [intOf];omega
      ·have HI:=Qh (Zkq nm a n hlt (λ j hj h=>HLT.out j hj h) he)
       go_wp2_with fail
       go_quiet (fail)
       have hbq1:=Zag hbq0 nq
       go_wp2
       go_roundw
       case rel=>exact⟨k0+1,ins a nm,by omega,by go_num,HFD2.out,(by show World.ownsRow _ _ _ _ _ _ _;rw [HI.out];exact Zci HO.out hbq1),HSZ.out,hlen2,hb1.trans (hbq1.mono hb1.size)⟩
       case measure=>simp [intOf];omega
     ·have HLT2:Hid (∀ j,(hj:j<a.length)->j<n+1->sLess a[j] nm=true):=λ j hj h=>by
       by_cases e:j=n
       ·subst e;exact hs
       ·exact HLT.out j hj (by omega)
      have hs':Op.bytesLess a[n].toList nm.toList=true:=hs
      go_wp2_with fail
      go_quiet (fail)
      go_wp2
      go_roundw
      case rel=>exact⟨n+1,by omega,by go_num,HLT2,Zag hbi _⟩
      case measure=>simp [intOf];omega
    ·have HI:=Qh (ZhV nm a n hn HLT.out (λ h=>absurd h hlt))
     have h0:decide ((n:Int)<(a.length:Int))=false:=decide_eq_false (by omega)
     have h1:decide (n<a.length)=false:=decide_eq_false hlt
     have e0:((n:Int)==(a.length:Int))=true:=by simp;omega
     have e1:(n==a.length)=true:=by simp;omega
     clear hcell1
     go_wp2_with fail
     go_quiet (fail)
     have hbq0:=Zag hbi nq
     have cbq:(wr.drewN nq).cell? ⟨bb,offb+k0,none⟩=some (.string nm):=cbr
     clear cbr hb1r hbi
     generalize wr.drewN nq=wq0 at *
     go_wp2_with fail
     go_quiet (fail)
     have hbq1:=Zag hbq0 nq
     have cb:(wq0.drewN nq).cell? ⟨bb,offb+k0,none⟩=some (.string nm):=cbq
     clear hbq0 cbq h0 h1 e0 e1
     generalize wq0.drewN nq=wq at *
     have hbq:Below w.heap.size w wq:=hb1.trans (hbq1.mono hb1.size)
     have HRq:=Qh ((Zaa sStr).below HR1.out hbq1)
     have HUq:Hid (∀ b∈fp1,b<wq.heap.size):=λ b hb=>by have:=HU1.out b hb;have:=hbq1.size;omega
     have hbb2:bb<wq.heap.size:=by have:=hbq.size;omega
     go_wp2_with fail
     obtain⟨fa,RA,hfa⟩:=Zcr n (by omega) HRq.out
     obtain⟨fb,RB,hfb⟩:=Za3 n (by omega) HRq.out
     rw [show n * sStr.m=n from Nat.mul_one n] at RB
     obtain⟨M1,HM1⟩:∃ M1:List ByteArray,Hid (M1=a.take n):=⟨_,rfl⟩
     have HM1l:Hid (M1.length=n):=by show _=_;rw [HM1.out,List.length_take];omega
     have hd:Below wq.heap.size wq wq.drew:=Zag (Below.refl _ _) 1
     have HRAwd:Hid ((Zaa sStr).R wq.drew [.slice a1 n cap1] M1 fa):=by show (Zaa sStr).R _ _ _ _;rw [HM1.out];exact(Zaa sStr).below RA hd
     obtain⟨sv,HSV⟩:∃ sv:Value,Hid (sv=.slice (if cap1=n then a1 else (a1:Option Addr).map (·.add n)) (a.length-n) (cap1-n)):=⟨_,rfl⟩
     have HRBwd:Hid ((Zaa sStr).R wq.drew [sv] (a.drop n) fb):=by show (Zaa sStr).R _ _ _ _;rw [HSV.out];exact(Zaa sStr).below RB hd
     have HFP:Hid ((∀ b∈fa,b<wq.drew.heap.size)/\(∀ b∈fb,b<wq.drew.heap.size)):=⟨λ b hb=>HUq.out b (hfa b hb),λ b hb=>HUq.out b (hfb b hb)⟩
     have HBwd:=Qh (hbq.trans (hd.mono hbq.size))
     have hsd:w.heap.size<=wq.drew.heap.size:=HBwd.out.size
     have HCB:Hid (wq.drew.cell? ⟨bb,offb+k0,none⟩=some (.string nm)):=cb
     have hbb3:bb<wq.drew.heap.size:=hbb2
     have HTL:Hid ((a.take n).length=n/\(a.drop n).length=a.length-n):=⟨by rw [List.length_take];omega,List.length_drop⟩
     clear RA RB hfa hfb hd HRq HUq
     refine wp_region_noPanic ?_
     refine wp_region_held_drew (S:=λ w'=>w'.cell? ⟨bb,offb+k0,none⟩=some (.string nm)) (by kernel_rfl) (by exact HCB.out) (λ hHeld=>?_)
     generalize wq.drew=wd at *
     have hp1:(0:Int)<=(n:Int):=by omega
     have hp2:(n:Int)<=(a.length:Int):=by omega
     have hp3:n<=a.length:=by omega
     have hp4:n<=cap1:=by omega
     have hp5:(n:Int)<=(cap1:Int):=by omega
     refine Qt 1 50 rfl rfl ?_
     try simp only [Qp]
     refine Qt 2 51 rfl rfl ?_
     try simp only [Qp]
     refine ZhS 3 52 (v:=.slice a1 n cap1) rfl rfl (by kernel_rfl) (by kernel_rfl) (by kernel_rfl) (λ _ _ _ h=>h) (by rfl) (by assumption) ?_ ?_
     ·intro w hSw;go_simp;(first | done | with_reducible rfl | rfl)
     try simp only [Qp]
     refine Qt 5 54 rfl rfl ?_
     try simp only [Qp]
     refine Qt 6 55 rfl rfl ?_
     try simp only [Qp]
     refine Qt 7 56 rfl rfl ?_
     try simp only [Qp]
     refine Qt 8 57 rfl rfl ?_
     try simp only [Qp]
     refine Qt 11 60 rfl rfl ?_
     try simp only [Qp]
     refine Qt 12 61 rfl rfl ?_
     try simp only [Qp]
     refine ZhS 13 62 (v:=sv) rfl rfl (by kernel_rfl) (by kernel_rfl) (by kernel_rfl) (λ _ _ _ h=>h) (by rfl) (by assumption) ?_ ?_
     ·intro w hSw;rw [HSV.out];go_simp;(first | done | with_reducible rfl | rfl)
     try simp only [Qp]
     have HCBwd:=HCB
     refine wpAnyH_ready (rs:=[0,9]) (by decide +kernel) (by simp) ?_
     refine AllReadyH.cons rfl (λ K hK=>?_) (AllReadyH.cons rfl (λ K hK=>?_) AllReadyH.nil)
     ·have bl:=Zab wd (.cells #[] 9)
      have hyx0:wd.heap.size+1<=(wd.alloc (.cells #[] 9)).heap.size:=Nat.le_of_eq (Array.size_push _).symm
      have HGx0:Hid ((wd.alloc (.cells #[] 9)).ownsRow wd.heap.size 9 1 (.slice (some ⟨wd.heap.size,0,none⟩) 0 0) ([]:List ByteArray).length (([]:List ByteArray).map Value.string)):=World.ownsRow_lit (base:=wd.heap.size) (e:=9) (size:=1) wd #[] 0 (by omega) (by simp) rfl
      go_simp
      have HCXx0:Hid ((wd.alloc (.cells #[] 9)).cell? ⟨bb,offb+k0,none⟩=some (.string nm)):=(bl.cell (p:=⟨bb,offb+k0,none⟩) (by show bb<_;omega)).trans HCB.out
      have HRAx0:=Qh ((Zaa sStr).below HRAwd.out bl)
      have HRBx0:=Qh ((Zaa sStr).below HRBwd.out bl)
      have HBx0:=Qh (HBwd.out.trans (bl.mono HBwd.out.size))
      refine hK.out _ _ HCXx0.out (λ hHeld=>?_)
      clear hK K bl
      try simp only [Qp]
      generalize (wd.alloc (.cells #[] 9))=x0 at *
      refine wpAnyH_ready (rs:=[4,9]) (by decide +kernel) (by simp) ?_
      refine AllReadyH.cons rfl (λ K hK=>?_) (AllReadyH.cons rfl (λ K hK=>?_) AllReadyH.nil)
      ·refine Zao 53 rfl rfl (.tmp 49) (.tmp 52) rfl wd.heap.size (.slice (some ⟨wd.heap.size,0,none⟩) 0 0) (.slice a1 n cap1) [] M1 fa rfl HGx0.out rfl HRAx0.out (by rw [HM1l.out];simp;omega) (by omega) ?_
       intro vqx1 x1 hG hgr
       have hbw:Below wd.heap.size x0 x1:=(Below.refl wd.heap.size x0).grown hgr (by omega) (λ b hb=>(HGx0.out.lt b hb).1)
       have hyx1:=hbw.size
       have HCXx1:=Qh ((hbw.cell (p:=⟨bb,offb+k0,none⟩) (by show bb<_;omega)).trans HCXx0.out)
       have HRBx1:=Qh ((Zaa sStr).frame (w':=x1) (λ b hb=>hbw.block b (HFP.out.2 b hb)) HRBx0.out)
       have HBx1:=Qh (HBx0.out.trans (hbw.mono (by omega)))
       rw [List.nil_append] at hG
       have HGx1:=Qh hG
       obtain⟨aqx1,cqx1,rfl⟩:=Za0 HGx1.out
       refine hK.out _ _ HCXx1.out (λ hHeld=>?_)
       clear hK K hgr hG hbw
       try simp only [Qp]
       refine Qr 9 rfl (λ K hK=>?_) (by decide +kernel)
       have bl:=Zab x1 (.cells #[.string nm] 9)
       have hyx2:x1.heap.size+1<=(x1.alloc (.cells #[.string nm] 9)).heap.size:=Nat.le_of_eq (Array.size_push _).symm
       have HLx2:=Qh (ZcZ x1 #[.string nm] 9)
       have HGx2:=Qh (Zci HGx1.out bl)
       go_simp
       have HCXx2:Hid ((x1.alloc (.cells #[.string nm] 9)).cell? ⟨bb,offb+k0,none⟩=some (.string nm)):=(bl.cell (p:=⟨bb,offb+k0,none⟩) (by show bb<_;omega)).trans HCXx1.out
       have HRBx2:=Qh ((Zaa sStr).below HRBx1.out bl)
       have HBx2:=Qh (HBx1.out.trans (bl.mono HBx1.out.size))
       refine hK.out _ _ HCXx2.out (λ hHeld=>?_)
       clear hK K bl
       try simp only [Qp]
       generalize (x1.alloc (.cells #[.string nm] 9))=x2 at *
       refine Qr 10 rfl (λ K hK=>?_) (by decide +kernel)
       refine Zao 59 rfl rfl (.tmp 53) (.tmp 58) rfl wd.heap.size (.slice aqx1 M1.length cqx1) (.slice (some ⟨x1.heap.size,0,none⟩) 1 1) M1 [nm] _ rfl HGx2.out rfl (ZbT HLx2.out hnm) (by rw [HM1l.out];simp;omega) (by omega) ?_
       intro vqx3 x3 hG hgr
       have hbw:Below wd.heap.size x2 x3:=(Below.refl wd.heap.size x2).grown hgr (by omega) (λ b hb=>(HGx2.out.lt b hb).1)
       have hyx3:=hbw.size
       have HCXx3:=Qh ((hbw.cell (p:=⟨bb,offb+k0,none⟩) (by show bb<_;omega)).trans HCXx2.out)
       have HRBx3:=Qh ((Zaa sStr).frame (w':=x3) (λ b hb=>hbw.block b (HFP.out.2 b hb)) HRBx2.out)
       have HBx3:=Qh (HBx2.out.trans (hbw.mono (by omega)))
       have HGx3:=Qh hG
       obtain⟨aqx3,cqx3,rfl⟩:=Za0 HGx3.out
       refine hK.out _ _ HCXx3.out (λ hHeld=>?_)
       clear hK K hgr hG hbw
       try simp only [Qp]
       refine Qr 14 rfl (λ K hK=>?_) (by decide +kernel)
       refine Zao 63 rfl rfl (.tmp 59) (.tmp 62) rfl wd.heap.size (.slice aqx3 (M1++[nm]).length cqx3) sv (M1++[nm]) (a.drop n) fb rfl HGx3.out rfl HRBx3.out (by rw [List.length_append,HM1l.out,HTL.out.2];simp;omega) (by omega) ?_
       intro vqx4 x4 hG hgr
       have hbw:Below wd.heap.size x3 x4:=(Below.refl wd.heap.size x3).grown hgr (by omega) (λ b hb=>(HGx3.out.lt b hb).1)
       have hyx4:=hbw.size
       have HCXx4:=Qh ((hbw.cell (p:=⟨bb,offb+k0,none⟩) (by show bb<_;omega)).trans HCXx3.out)
       have HBx4:=Qh (HBx3.out.trans (hbw.mono (by omega)))
       have HGx4:=Qh hG
       refine hK.out _ _ HCXx4.out (λ hHeld=>?_)
       clear hK K hgr hG hbw
       try simp only [Qp]
       refine Qt 15 5 rfl rfl ?_
       try simp only [Qp]
       refine wpAnyH_done (by kernel_rfl) ?_ _
       refine NoPanic.normal ?_
       clear hHeld
       have HFN:Hid (x4.ownsRow w.heap.size 9 1 vqx4 (ins a nm).length ((ins a nm).map Value.string)):=by
        show World.ownsRow _ _ _ _ _ _ _
        rw [HI.out];have:=ZbE HGx4.out hsd;rw [HM1.out] at this;simpa using this
       go_wp2
       go_roundw
       case rel=>exact⟨k0+1,ins a nm,by omega,by go_num,HFD2.out,HFN.out,HSZ.out,hlen2,HBx4.out⟩
       case measure=>simp [intOf];omega
      ·have bl:=Zab x0 (.cells #[.string nm] 9)
       have hyx5:x0.heap.size+1<=(x0.alloc (.cells #[.string nm] 9)).heap.size:=Nat.le_of_eq (Array.size_push _).symm
       have HLx5:=Qh (ZcZ x0 #[.string nm] 9)
       have HGx5:=Qh (Zci HGx0.out bl)
       go_simp
       have HCXx5:Hid ((x0.alloc (.cells #[.string nm] 9)).cell? ⟨bb,offb+k0,none⟩=some (.string nm)):=(bl.cell (p:=⟨bb,offb+k0,none⟩) (by show bb<_;omega)).trans HCXx0.out
       have HRAx5:=Qh ((Zaa sStr).below HRAx0.out bl)
       have HRBx5:=Qh ((Zaa sStr).below HRBx0.out bl)
       have HBx5:=Qh (HBx0.out.trans (bl.mono HBx0.out.size))
       refine hK.out _ _ HCXx5.out (λ hHeld=>?_)
       clear hK K bl
       try simp only [Qp]
       generalize (x0.alloc (.cells #[.string nm] 9))=x5 at *
       refine Qr 4 rfl (λ K hK=>?_) (by decide +kernel)
       refine Zao 53 rfl rfl (.tmp 49) (.tmp 52) rfl wd.heap.size (.slice (some ⟨wd.heap.size,0,none⟩) 0 0) (.slice a1 n cap1) [] M1 fa rfl HGx5.out rfl HRAx5.out (by rw [HM1l.out];simp;omega) (by omega) ?_
       intro vqx6 x6 hG hgr
       have hbw:Below wd.heap.size x5 x6:=(Below.refl wd.heap.size x5).grown hgr (by omega) (λ b hb=>(HGx5.out.lt b hb).1)
       have hyx6:=hbw.size
       have HCXx6:=Qh ((hbw.cell (p:=⟨bb,offb+k0,none⟩) (by show bb<_;omega)).trans HCXx5.out)
       have HRBx6:=Qh ((Zaa sStr).frame (w':=x6) (λ b hb=>hbw.block b (HFP.out.2 b hb)) HRBx5.out)
       have HLx6:=Qh ((hgr.block (x0.heap.size) (by omega) (by simp [Value.ownBlock];omega)).trans HLx5.out)
       have HBx6:=Qh (HBx5.out.trans (hbw.mono (by omega)))
       rw [List.nil_append] at hG
       have HGx6:=Qh hG
       obtain⟨aqx6,cqx6,rfl⟩:=Za0 HGx6.out
       refine hK.out _ _ HCXx6.out (λ hHeld=>?_)
       clear hK K hgr hG hbw
       try simp only [Qp]
       refine Qr 10 rfl (λ K hK=>?_) (by decide +kernel)
       refine Zao 59 rfl rfl (.tmp 53) (.tmp 58) rfl wd.heap.size (.slice aqx6 M1.length cqx6) (.slice (some ⟨x0.heap.size,0,none⟩) 1 1) M1 [nm] _ rfl HGx6.out rfl (ZbT HLx6.out hnm) (by rw [HM1l.out];simp;omega) (by omega) ?_
       intro vqx7 x7 hG hgr
       have hbw:Below wd.heap.size x6 x7:=(Below.refl wd.heap.size x6).grown hgr (by omega) (λ b hb=>(HGx6.out.lt b hb).1)
       have hyx7:=hbw.size
       have HCXx7:=Qh ((hbw.cell (p:=⟨bb,offb+k0,none⟩) (by show bb<_;omega)).trans HCXx6.out)
       have HRBx7:=Qh ((Zaa sStr).frame (w':=x7) (λ b hb=>hbw.block b (HFP.out.2 b hb)) HRBx6.out)
       have HBx7:=Qh (HBx6.out.trans (hbw.mono (by omega)))
       have HGx7:=Qh hG
       obtain⟨aqx7,cqx7,rfl⟩:=Za0 HGx7.out
       refine hK.out _ _ HCXx7.out (λ hHeld=>?_)
       clear hK K hgr hG hbw
       try simp only [Qp]
       refine Qr 14 rfl (λ K hK=>?_) (by decide +kernel)
       refine Zao 63 rfl rfl (.tmp 59) (.tmp 62) rfl wd.heap.size (.slice aqx7 (M1++[nm]).length cqx7) sv (M1++[nm]) (a.drop n) fb rfl HGx7.out rfl HRBx7.out (by rw [List.length_append,HM1l.out,HTL.out.2];simp;omega) (by omega) ?_
       intro vqx8 x8 hG hgr
       have hbw:Below wd.heap.size x7 x8:=(Below.refl wd.heap.size x7).grown hgr (by omega) (λ b hb=>(HGx7.out.lt b hb).1)
       have hyx8:=hbw.size
       have HCXx8:=Qh ((hbw.cell (p:=⟨bb,offb+k0,none⟩) (by show bb<_;omega)).trans HCXx7.out)
       have HBx8:=Qh (HBx7.out.trans (hbw.mono (by omega)))
       have HGx8:=Qh hG
       refine hK.out _ _ HCXx8.out (λ hHeld=>?_)
       clear hK K hgr hG hbw
       try simp only [Qp]
       refine Qt 15 5 rfl rfl ?_
       try simp only [Qp]
       refine wpAnyH_done (by kernel_rfl) ?_ _
       refine NoPanic.normal ?_
       clear hHeld
       have HFN:Hid (x8.ownsRow w.heap.size 9 1 vqx8 (ins a nm).length ((ins a nm).map Value.string)):=by
        show World.ownsRow _ _ _ _ _ _ _
        rw [HI.out];have:=ZbE HGx8.out hsd;rw [HM1.out] at this;simpa using this
       go_wp2
       go_roundw
       case rel=>exact⟨k0+1,ins a nm,by omega,by go_num,HFD2.out,HFN.out,HSZ.out,hlen2,HBx8.out⟩
       case measure=>simp [intOf];omega
     ·have bl:=Zab wd (.cells #[.string nm] 9)
      have hyx9:wd.heap.size+1<=(wd.alloc (.cells #[.string nm] 9)).heap.size:=Nat.le_of_eq (Array.size_push _).symm
      have HLx9:=Qh (ZcZ wd #[.string nm] 9)
      go_simp
      have HCXx9:Hid ((wd.alloc (.cells #[.string nm] 9)).cell? ⟨bb,offb+k0,none⟩=some (.string nm)):=(bl.cell (p:=⟨bb,offb+k0,none⟩) (by show bb<_;omega)).trans HCB.out
      have HRAx9:=Qh ((Zaa sStr).below HRAwd.out bl)
      have HRBx9:=Qh ((Zaa sStr).below HRBwd.out bl)
      have HBx9:=Qh (HBwd.out.trans (bl.mono HBwd.out.size))
      refine hK.out _ _ HCXx9.out (λ hHeld=>?_)
      clear hK K bl
      try simp only [Qp]
      generalize (wd.alloc (.cells #[.string nm] 9))=x9 at *
      refine Qr 0 rfl (λ K hK=>?_) (by decide +kernel)
      have bl:=Zab x9 (.cells #[] 9)
      have hyx10:x9.heap.size+1<=(x9.alloc (.cells #[] 9)).heap.size:=Nat.le_of_eq (Array.size_push _).symm
      have HGx10:Hid ((x9.alloc (.cells #[] 9)).ownsRow wd.heap.size 9 1 (.slice (some ⟨x9.heap.size,0,none⟩) 0 0) ([]:List ByteArray).length (([]:List ByteArray).map Value.string)):=World.ownsRow_lit (base:=wd.heap.size) (e:=9) (size:=1) x9 #[] 0 (by omega) (by simp) rfl
      have HLx10:=Qh ((bl.block _ (by omega)).trans HLx9.out)
      go_simp
      have HCXx10:Hid ((x9.alloc (.cells #[] 9)).cell? ⟨bb,offb+k0,none⟩=some (.string nm)):=(bl.cell (p:=⟨bb,offb+k0,none⟩) (by show bb<_;omega)).trans HCXx9.out
      have HRAx10:=Qh ((Zaa sStr).below HRAx9.out bl)
      have HRBx10:=Qh ((Zaa sStr).below HRBx9.out bl)
      have HBx10:=Qh (HBx9.out.trans (bl.mono HBx9.out.size))
      refine hK.out _ _ HCXx10.out (λ hHeld=>?_)
      clear hK K bl
      try simp only [Qp]
      generalize (x9.alloc (.cells #[] 9))=x10 at *
      refine Qr 4 rfl (λ K hK=>?_) (by decide +kernel)
      refine Zao 53 rfl rfl (.tmp 49) (.tmp 52) rfl wd.heap.size (.slice (some ⟨x9.heap.size,0,none⟩) 0 0) (.slice a1 n cap1) [] M1 fa rfl HGx10.out rfl HRAx10.out (by rw [HM1l.out];simp;omega) (by omega) ?_
      intro vqx11 x11 hG hgr
      have hbw:Below wd.heap.size x10 x11:=(Below.refl wd.heap.size x10).grown hgr (by omega) (λ b hb=>(HGx10.out.lt b hb).1)
      have hyx11:=hbw.size
      have HCXx11:=Qh ((hbw.cell (p:=⟨bb,offb+k0,none⟩) (by show bb<_;omega)).trans HCXx10.out)
      have HRBx11:=Qh ((Zaa sStr).frame (w':=x11) (λ b hb=>hbw.block b (HFP.out.2 b hb)) HRBx10.out)
      have HLx11:=Qh ((hgr.block (wd.heap.size) (by omega) (by simp [Value.ownBlock];omega)).trans HLx10.out)
      have HBx11:=Qh (HBx10.out.trans (hbw.mono (by omega)))
      rw [List.nil_append] at hG
      have HGx11:=Qh hG
      obtain⟨aqx11,cqx11,rfl⟩:=Za0 HGx11.out
      refine hK.out _ _ HCXx11.out (λ hHeld=>?_)
      clear hK K hgr hG hbw
      try simp only [Qp]
      refine Qr 10 rfl (λ K hK=>?_) (by decide +kernel)
      refine Zao 59 rfl rfl (.tmp 53) (.tmp 58) rfl wd.heap.size (.slice aqx11 M1.length cqx11) (.slice (some ⟨wd.heap.size,0,none⟩) 1 1) M1 [nm] _ rfl HGx11.out rfl (ZbT HLx11.out hnm) (by rw [HM1l.out];simp;omega) (by omega) ?_
      intro vqx12 x12 hG hgr
      have hbw:Below wd.heap.size x11 x12:=(Below.refl wd.heap.size x11).grown hgr (by omega) (λ b hb=>(HGx11.out.lt b hb).1)
      have hyx12:=hbw.size
      have HCXx12:=Qh ((hbw.cell (p:=⟨bb,offb+k0,none⟩) (by show bb<_;omega)).trans HCXx11.out)
      have HRBx12:=Qh ((Zaa sStr).frame (w':=x12) (λ b hb=>hbw.block b (HFP.out.2 b hb)) HRBx11.out)
      have HBx12:=Qh (HBx11.out.trans (hbw.mono (by omega)))
      have HGx12:=Qh hG
      obtain⟨aqx12,cqx12,rfl⟩:=Za0 HGx12.out
      refine hK.out _ _ HCXx12.out (λ hHeld=>?_)
      clear hK K hgr hG hbw
      try simp only [Qp]
      refine Qr 14 rfl (λ K hK=>?_) (by decide +kernel)
      refine Zao 63 rfl rfl (.tmp 59) (.tmp 62) rfl wd.heap.size (.slice aqx12 (M1++[nm]).length cqx12) sv (M1++[nm]) (a.drop n) fb rfl HGx12.out rfl HRBx12.out (by rw [List.length_append,HM1l.out,HTL.out.2];simp;omega) (by omega) ?_
      intro vqx13 x13 hG hgr
      have hbw:Below wd.heap.size x12 x13:=(Below.refl wd.heap.size x12).grown hgr (by omega) (λ b hb=>(HGx12.out.lt b hb).1)
      have hyx13:=hbw.size
      have HCXx13:=Qh ((hbw.cell (p:=⟨bb,offb+k0,none⟩) (by show bb<_;omega)).trans HCXx12.out)
      have HBx13:=Qh (HBx12.out.trans (hbw.mono (by omega)))
      have HGx13:=Qh hG
      refine hK.out _ _ HCXx13.out (λ hHeld=>?_)
      clear hK K hgr hG hbw
      try simp only [Qp]
      refine Qt 15 5 rfl rfl ?_
      try simp only [Qp]
      refine wpAnyH_done (by kernel_rfl) ?_ _
      refine NoPanic.normal ?_
      clear hHeld
      have HFN:Hid (x13.ownsRow w.heap.size 9 1 vqx13 (ins a nm).length ((ins a nm).map Value.string)):=by
       show World.ownsRow _ _ _ _ _ _ _
       rw [HI.out];have:=ZbE HGx13.out hsd;rw [HM1.out] at this;simpa using this
      go_wp2
      go_roundw
      case rel=>exact⟨k0+1,ins a nm,by omega,by go_num,HFD2.out,HFN.out,HSZ.out,hlen2,HBx13.out⟩
      case measure=>simp [intOf];omega
theorem Zgc (va vb:Value) (a:List ByteArray) (nm:ByteArray) (fpa fpb:List Nat) (w:World) (hl:a.length<=900000) (Ha:(Zaa sStr).R w [va] a fpa) (Hb:(Zaa sStr).R w [vb] [nm] fpb) :
  Calls Tryz.prog 73 #[va,vb] w (ZdQ (ins a nm) w):=ZfD va vb a [nm] fpa fpb w (by simp;omega) Ha Hb
theorem Zno {T:List DMacro} {x:ByteArray} (h:0<=place T x):∃ k:Nat,place T x=k/\k<T.length:=by
 have key:∀ d k,T.length-k=d->-1<=plFrom T x k/\plFrom T x k<(T.length:Int):=by
  intro d
  induction d with
  | zero=>intro k hk;rw [ZhQ (by omega)];omega
  |
   succ d ih =>
   intro k hk
   have hlt:k<T.length:=by omega
   cases e:(T[k].name.toList==x.toList)
   ·rw [Zgr hlt e];exact ih (k+1) (by omega)
   ·rw [Zj8 hlt e];omega
 have:=key _ 0 rfl
 have h2:-1<=place T x/\place T x<(T.length:Int):=this
 exact⟨(place T x).toNat,by omega,by omega⟩
theorem mac_at {w:World} {b off n cap:Nat} {l:List DMacro} {fp:List Nat} (H:(Zaa sMacro).R w [.slice (some ⟨b,off,none⟩) n cap] l fp) {j:Nat} (hj:j<l.length) :
  ∃ (a2 a3:Option Addr) (c2 c3:Nat) (fj:List Nat),w.cell? ⟨b,off+j * 4,none⟩=some (.string l[j].name)/\w.cell? ⟨b,off+j * 4+1,none⟩=some (.bool l[j].function)/\w.cell? ⟨b,off+j * 4+2,none⟩=some (.slice a2 l[j].params.length c2)/\w.cell? ⟨b,off+j * 4+3,none⟩=some (.slice a3 l[j].body.length c3) /\
   sMacro.R w [.string l[j].name,.bool l[j].function,.slice a2 l[j].params.length c2,.slice a3 l[j].body.length c3] l[j] fj/\b<w.heap.size/\∀ x∈fj,x∈fp:=by
 obtain⟨a,cap',hv,hc,hm,hrow⟩:=Zac H
 obtain⟨b',off',fps,ha,hb,hfp,he⟩:=hrow (by omega)
 simp only [Value.slice.injEq] at hv
 obtain⟨rfl,rfl,rfl⟩:=hv
 simp only [Qi,Addr.mk.injEq,and_true] at ha
 obtain⟨rfl,rfl⟩:=ha
 obtain⟨es,hE,hR⟩:=he j hj
 have hR2:=hR
 obtain⟨h2,h3,q2,q3,rfl,-,K2,K3,-⟩:=hR2
 obtain⟨a2,c2,rfl,-⟩:=Zaf K2
 obtain⟨a3,c3,rfl,-⟩:=Zac K3
 have c0:w.cell? ⟨b,off+j * 4,none⟩=some _:=Zam hE (by decide) rfl
 have c1':w.cell? ⟨b,off+j * 4+1,none⟩=some _:=Zae (j:=1) hE (by decide) rfl
 have c2':w.cell? ⟨b,off+j * 4+2,none⟩=some _:=Zae (j:=2) hE (by decide) rfl
 have c3':w.cell? ⟨b,off+j * 4+3,none⟩=some _:=Zae (j:=3) hE (by decide) rfl
 exact⟨a2,a3,c2,c3,fps j,c0,c1',c2',c3',hR,hb,λ x hx=>by rw [hfp];exact List.mem_cons_of_mem _ (List.mem_flatMap.2 ⟨j,List.mem_range.2 hj,hx⟩)⟩
theorem Znp {T:List DMacro} {t:Tok} (h:t.kind≠1):findM T t=none:=by unfold findM;rw [if_neg (λ h'=>h h'.1)]
theorem Znq {T:List DMacro} {t:Tok} (h:place T t.text<0):findM T t=none:=by unfold findM;rw [if_neg (λ h'=>by have:=h'.2.2;omega)]
theorem ZkB {T:List DMacro} {t:Tok} (h:hasN t.hidden t.text=true):findM T t=none:=by unfold findM;rw [if_neg (λ h'=>by rw [h] at h';exact absurd h'.2.1 (by simp))]
theorem find_yes {T:List DMacro} {t:Tok} {k:Nat} (h1:t.kind=1) (h2:hasN t.hidden t.text=false) (h3:place T t.text=k) (hk:k<T.length):findM T t=some T[k]:=by
 unfold findM
 rw [if_pos ⟨h1,h2,by omega⟩,h3]
 exact List.getElem?_eq_getElem hk
def FindOf (T:List DMacro) (fpT:List Nat) (t:Tok) (w:World) (e:Ending) (w':World):Prop:=
 (findM T t=none/\e=.returned (.tuple #[.agg #[.string ⟨#[]⟩,.bool false,.slice none 0 0,.slice none 0 0],.bool false])/\Below w.heap.size w w') \/
 ∃ (m:DMacro) (a2 a3:Option Addr) (c2 c3:Nat) (fp:List Nat),findM T t=some m/\e=.returned (.tuple #[.agg #[.string m.name,.bool m.function,.slice a2 m.params.length c2,.slice a3 m.body.length c3],.bool true]) /\
  sMacro.R w' [.string m.name,.bool m.function,.slice a2 m.params.length c2,.slice a3 m.body.length c3] m fp/\(∀ b∈fp,b∈fpT)/\Below w.heap.size w w'
theorem Y15A1 {g:Prop} (h:g:=by
 generalize place T t.text=pl at *
 obtain⟨z0,z1,z2,z3⟩:=Q4 HX3.out.2
 have zf0:=Qf 0 HX3.out.2
 have zf1:=Qf 1 HX3.out.2
 have zf2:=Qf 2 HX3.out.2
 have zf3:=Qf 3 HX3.out.2
 have HS:=Qh (ZaH HX3.out.2 (.string ⟨#[]⟩) (.bool false) (.slice none 0 0) (.slice none 0 0))
 have HB:=Qh (Zav (g:=w.heap.size+1) hB3 (by omega) (.string ⟨#[]⟩) (.bool false) (.slice none 0 0) (.slice none 0 0))
 unfold set4 at HS HB
 clear h1
 go_wp2
 refine bodyPost_ret (Zat rfl _ _ (w.heap.size+1) _ _ _ _ rfl HS.out Tryz.underlying56 rfl (by kernel_rfl)) rfl ?_
 exact .inl ⟨HF.out,rfl,HB.out⟩):g:=h
theorem ZkC (vT:Value) (T:List DMacro) (fpT:List Nat) (ct:List Value) (t:Tok) (fpt:List Nat) (w:World) (HT:(Zaa sMacro).R w [vT] T fpT) (H:sTok.R w ct t fpt) :
  Calls Tryz.prog 69 #[vT,.agg ct.toArray] w (FindOf T fpT t w):=by
 have HT0:=HT
 have htlt:=(Zaa sMacro).lt HT
 obtain⟨aT,cT,rfl,-,hcm,hrowT⟩:=Zac HT
 unfold maxLen at hcm
 obtain⟨hv,rfl,-,-,KT⟩:=H
 obtain⟨ah,ch,rfl,-⟩:=Zaf KT
 have b0:=Zab w (.cells #[.int .i64 t.kind,.string t.text,.bool t.spaced,.slice ah t.hidden.length ch] 32)
 have b2:=b0.trans ((Zab (w.alloc (.cells #[.int .i64 t.kind,.string t.text,.bool t.spaced,.slice ah t.hidden.length ch] 32)) (.cells #[.string ⟨#[]⟩,.bool false,.slice none 0 0,.slice none 0 0] 56)).mono b0.size)
 have HX:=Qh (Zb2 w #[.int .i64 t.kind,.string t.text,.bool t.spaced,.slice ah t.hidden.length ch] #[.string ⟨#[]⟩,.bool false,.slice none 0 0,.slice none 0 0] 32 56)
 have HT2:=Qh ((Zaa sMacro).below HT0 b2)
 have HK2:=Qh ((Zaa sStr).below KT b2)
 have HLT:=Qh htlt
 have HROW:Hid (0<T.length->∃ bb ob,aT=some ⟨bb,ob,none⟩):=λ h=>by obtain⟨b,o,-,e,-⟩:=hrowT h;exact⟨b,o,e⟩
 clear HT0 htlt KT hrowT b0
 go_enter Tryz.func69,Tryz.ntmps69
 go_upto_region 1 with fail
 generalize ((w.alloc (.cells #[.int .i64 t.kind,.string t.text,.bool t.spaced,.slice ah t.hidden.length ch] 32)).alloc (.cells #[.string ⟨#[]⟩,.bool false,.slice none 0 0,.slice none 0 0] 56))=W2 at *
 have p1:=Qc 1 HX.out.1
 have HPL:=Qh (Zd4 _ T t.text fpT W2 HT2.out)
 go_wp2_with fail
 refine HPL.out.mono ?_
 rintro e W3 ⟨rfl,hb3⟩
 clear p1 HPL
 have HX3:=Qh (And.intro (mbox HX.out.1 hb3) (mbox HX.out.2 hb3))
 have hB3:=b2.trans (hb3.mono b2.size)
 have HT3:=Qh ((Zaa sMacro).below HT2.out hb3)
 have HK3:=Qh ((Zaa sStr).below HK2.out hb3)
 have q0:=Qc 0 HX3.out.1
 have q1:=Qc 1 HX3.out.1
 have q3:=Qc 3 HX3.out.1
 clear HT2 HK2 HX hb3 b2
 by_cases h1:t.kind=1
 rotate_left
 ·have HF:=Qh (Znp (T:=T) h1)
  have e1:(t.kind != 1)=true:=by simp [h1]
  exact Y15A1
 have e1:(t.kind != 1)=false:=by simp [h1]
 by_cases h2:place T t.text<0
 ·have HF:=Qh (Znq h2)
  exact Y15A1
 obtain⟨n,hn,hnl⟩:=Zno (by omega:0<=place T t.text)
 have HN:=Qh hn
 have H1:=Qh h1
 rw [hn]
 have hn0:¬ ((n:Int)<0):=by omega
 clear h1 h2 hn
 have HHS:=Qh (Zh0 _ t.hidden t.text _ W3 HK3.out)
 cases hh:hasN t.hidden t.text
 rotate_left
 ·have HF:=Qh (ZkB (T:=T) hh)
  rw [hh] at HHS
  clear hh
  go_wp2_with fail
  refine HHS.out.mono ?_
  rintro e W4 ⟨rfl,hb4⟩
  have HX4:=Qh (mbox HX3.out.2 hb4)
  have hB4:=hB3.trans (hb4.mono hB3.size)
  obtain⟨z0,z1,z2,z3⟩:=Q4 HX4.out
  have zf0:=Qf 0 HX4.out
  have zf1:=Qf 1 HX4.out
  have zf2:=Qf 2 HX4.out
  have zf3:=Qf 3 HX4.out
  have HS:=Qh (ZaH HX4.out (.string ⟨#[]⟩) (.bool false) (.slice none 0 0) (.slice none 0 0))
  have HB:=Qh (Zav (g:=w.heap.size+1) hB4 (by omega) (.string ⟨#[]⟩) (.bool false) (.slice none 0 0) (.slice none 0 0))
  unfold set4 at HS HB
  clear q0 q1 q3 HHS
  go_wp2
  refine bodyPost_ret (Zat rfl _ _ (w.heap.size+1) _ _ _ _ rfl HS.out Tryz.underlying56 rfl (by kernel_rfl)) rfl ?_
  exact .inl ⟨HF.out,rfl,HB.out⟩
 have HF:=Qh (find_yes H1.out hh HN.out hnl)
 rw [hh] at HHS
 clear hh
 obtain⟨bb,ob,rfl⟩:=HROW.out (by omega)
 go_wp2_with fail
 refine HHS.out.mono ?_
 rintro e W4 ⟨rfl,hb4⟩
 have HX4:=Qh (mbox HX3.out.2 hb4)
 have hB4:=hB3.trans (hb4.mono hB3.size)
 obtain⟨a2,a3,c2,c3,fm,m0,m1,m2,m3,RM,hbb,hfm⟩:=mac_at ((Zaa sMacro).below HT3.out hb4) hnl
 have HLM:Hid (w.heap.size+1∉fm):=λ h=>by have:=HLT.out _ (hfm _ h);omega
 have HFM:=Qh hfm
 generalize hM:T[n]=M at *
 obtain⟨z0,z1,z2,z3⟩:=Q4 HX4.out
 have zf0:=Qf 0 HX4.out
 have zf1:=Qf 1 HX4.out
 have zf2:=Qf 2 HX4.out
 have zf3:=Qf 3 HX4.out
 have HS:=Qh (ZaH HX4.out (.string M.name) (.bool M.function) (.slice a2 M.params.length c2) (.slice a3 M.body.length c3))
 have HB:=Qh (Zav (g:=w.heap.size+1) hB4 (by omega) (.string M.name) (.bool M.function) (.slice a2 M.params.length c2) (.slice a3 M.body.length c3))
 have HRM:=Qh (sMacro.set4R RM HLM.out (.string M.name) (.bool M.function) (.slice a2 M.params.length c2) (.slice a3 M.body.length c3))
 unfold set4 at HS HB HRM
 have i0:(0:Int)<=(n:Int):=by omega
 have i1:(n:Int)<(T.length:Int):=by omega
 clear q0 q1 q3 HHS hM RM hfm
 go_wp2
 refine bodyPost_ret (Zat rfl _ _ (w.heap.size+1) _ _ _ _ rfl HS.out Tryz.underlying56 rfl (by kernel_rfl)) rfl ?_
 exact .inr ⟨M,a2,a3,c2,c3,fm,HF.out,rfl,HRM.out,HFM.out,HB.out⟩
def NewN (l:List Tok) (w:World) (e:Ending) (w':World):Prop:=
 ∃ (v:Value) (L:List (Elem Tok)),e=.returned v/\RowN sTok w.heap.size 32 v L w'/\L.map (·.d)=l/\(∀ x∈L,∀ b∈x.fp,w.heap.size<=b)/\Below w.heap.size w w'
theorem Zg2 (v:Value) (l:List Tok) (fp:List Nat) (vh:Value) (h:List ByteArray) (fph:List Nat) (sp:Bool) (w:World) (hl:l.length<=100000) (hh:∀ k,(hk:k<l.length)->l[k].hidden.length+h.length<=1000000) (H:(Zaa sTok).R w [v] l fp) (HH:(Zaa sStr).R w [vh] h fph) :
  Calls Tryz.prog 72 #[v,vh,.bool sp] w (NewN (putL l h sp) w):=by
 obtain⟨a,cap,rfl,hc,hm,hrow⟩:=Zac H
 unfold maxLen at hm
 have HK:=Qh H
 have HHH:=Qh HH
 have HHN:=Qh hh
 have hba:=Zab w (.cells #[] 32)
 have HG:=Qh (RowN.lit0 sTok 32 w (Nat.le_refl _))
 clear H HH hh
 go_enter Tryz.func72,Tryz.ntmps72
 go_upto_region 3 with fail
 generalize (w.alloc (.cells #[] 32))=W1 at *
 go_wp2
 go_loopw [7,8] (λ vo i wr=>∃ (k:Nat) (O:List (Elem Tok)),k<=l.length/\i=.int .i64 k/\Hid (O.map (·.d)=(l.take k).map (putT h))/\Hid (RowN sTok w.heap.size 32 vo O wr)/\Hid (∀ x∈O,∀ b∈x.fp,w.heap.size<=b)/\Below w.heap.size w wr) (λ _ i _=>l.length-(intOf i).toNat)
 case atStart=>exact⟨0,[],by omega,rfl,rfl,HG.out,(λ x hx=>by simp at hx),hba⟩
 case round =>
  clear HG hba
  obtain⟨k,O,hk,rfl,HD,HR,HLO,hb⟩:=hrel
  have hOk:O.length=k:=by have:=congrArg List.length HD.out;rw [List.length_map,List.length_map,List.length_take] at this;omega
  have HOK:=Qh hOk
  obtain⟨ao,co,hvo,-⟩:=HR.out.val
  rw [hOk] at hvo
  subst hvo
  clear hOk
  by_cases hlt:k<l.length
  ·obtain⟨b1,o1,-,rfl,-,-,-⟩:=hrow (by omega)
   obtain⟨xa,xc,xf,x0,x1,x2,x3,xR,hbb,-⟩:=ZaB HK.out hlt
   replace x0:=(hb.cell (p:=⟨b1,o1+k * 4,none⟩) hbb).trans x0
   replace x1:=(hb.cell (p:=⟨b1,o1+k * 4+1,none⟩) hbb).trans x1
   replace x2:=(hb.cell (p:=⟨b1,o1+k * 4+2,none⟩) hbb).trans x2
   replace x3:=(hb.cell (p:=⟨b1,o1+k * 4+3,none⟩) hbb).trans x3
   have XR:=Qh (sTok.below xR hb)
   have bx:=Zab wr (.cells #[.int .i64 l[k].kind,.string l[k].text,.bool l[k].spaced,.slice xa l[k].hidden.length xc] 32)
   have HX2:=Qh (heap_alloc_new wr (.cells #[.int .i64 l[k].kind,.string l[k].text,.bool l[k].spaced,.slice xa l[k].hidden.length xc] 32))
   have HHK:=Qh (HHN.out k hlt)
   have hwr:=hb.size
   clear xR hrow
   go_upto_region 6 with fail
   clear x0 x1 x2 x3
   generalize (wr.alloc (.cells #[.int .i64 l[k].kind,.string l[k].text,.bool l[k].spaced,.slice xa l[k].hidden.length xc] 32))=W2 at *
   obtain⟨y,HY⟩:∃ y,Hid (y=l[k]):=⟨l[k],Qh rfl⟩
   rw [show l[k]=y from HY.out.symm] at XR HX2 HHK
   have p3:=Qc 3 HX2.out
   have hb2:=hb.trans (bx.mono hb.size)
   obtain⟨hv',hcs,okk,oks,KH⟩:=XR.out
   simp only [List.cons.injEq,and_true,true_and] at hcs
   subst hcs
   have HOKS:=Qh (And.intro okk oks)
   have HU:=Qh (ZfD _ _ y.hidden h _ _ W2 HHK.out ((Zaa sStr).below KH bx) ((Zaa sStr).below HHH.out hb2))
   clear KH okk oks XR
   go_upto_region 7 with(
              go_at_call 73;refine (HU.out).mono ?_;rintro e w3 ⟨an,cn,fn,rfl,Rn,On,-,hb3⟩
              have HX3:=Qh (mbox HX2.out hb3)
              have p0':=Qc 0 HX3.out
              have pf3:=Qf 3 HX3.out
              have p3':=Qc 3 HX3.out)
   have hwn:wr.heap.size∉fn:=λ h=>by have:=(On.2 _ h).1;have:=mlt HX2.out;omega
   have HN4:=Qh ((Zaa sStr).setB Rn hwn 3 (.slice an (h.foldl ins y.hidden).length cn))
   have hbr3:Below wr.heap.size wr w3:=bx.trans (hb3.mono bx.size)
   have hbr4:=hbr3.setCell (p:=⟨wr.heap.size,3,none⟩) (Nat.le_refl _) (.slice an (h.foldl ins y.hidden).length cn)
   have HX4:=Qh (Zai HX3.out 3 (.slice an (h.foldl ins y.hidden).length cn))
   have HFN:Hid (∀ b∈fn,W2.heap.size<=b):=λ b hb=>(On.2 b hb).1
   have hW2:wr.heap.size<W2.heap.size:=mlt HX2.out
   clear p3 p0' pf3 p3' HU HX2 HX3 Rn On hb3 hbr3
   generalize w3.setCell ⟨wr.heap.size,3,none⟩ (.slice an (h.foldl ins y.hidden).length cn)=w4 at *
   obtain⟨t0,t1,t2,t3⟩:=Q4 HX4.out
   have bl:=Zab w4 (.cells #[.int .i64 y.kind,.string y.text,.bool y.spaced,.slice an (h.foldl ins y.hidden).length cn] 32)
   have HL5:=Qh (heap_alloc_new w4 (.cells #[.int .i64 y.kind,.string y.text,.bool y.spaced,.slice an (h.foldl ins y.hidden).length cn] 32))
   have HR5:=Qh ((HR.out.below hbr4).below bl)
   have HMI:=Qh HR.out.mine
   have RX:Hid (sTok.R (w4.alloc (.cells #[.int .i64 y.kind,.string y.text,.bool y.spaced,.slice an (h.foldl ins y.hidden).length cn] 32)) [.int .i64 y.kind,.string y.text,.bool y.spaced,.slice an (h.foldl ins y.hidden).length cn] (putT h y) fn):=⟨_,rfl,HOKS.out.1,HOKS.out.2,(Zaa sStr).below HN4.out bl⟩
   have hb5:=(hb.trans (hbr4.mono hb.size)).trans (bl.mono (hb.trans (hbr4.mono hb.size)).size)
   have HXN:Hid (∀ b∈fn,(Value.slice ao k co).ownBlock≠some b):=λ b hb h=>by
    have h1:=(HMI.out b h).2
    have h2:=HFN.out b hb
    omega
   clear HR HN4 bx hbr4 bl
   go_wp2_with (at_builtin;refine ZaE (X:=[(⟨[.int .i64 y.kind,.string y.text,.bool y.spaced,.slice an (h.foldl ins y.hidden).length cn],putT h y,fn⟩:Elem Tok)]) ZaG rfl (by decide) _ rfl (.tmp 26) (.tmp 28) rfl w.heap.size (.slice ao k co) rfl HR5.out ⟨w4.heap.size,0,none⟩ 1 1 rfl rfl (λ x hx=>by obtain rfl:=Qm hx;exact⟨rfl,RX.out,HXN.out⟩) (λ x hx=>by obtain rfl:=Qm hx;exact ZaF _ _ _ _ RX.out) (λ j u hj=>by rw [ZaI,Nat.zero_add,cell_of_row _ _ _ _ _ _ HL5.out];simpa using hj) (by have:=HOK.out;unfold maxLen;omega) (by have:=HOK.out;omega) hb5.size ?_;intro v6 w6 hR6 hg6 hp6)
   have hb6:Below w.heap.size w w6:=hb5.grown hg6 hb5.size (λ b hb=>(HMI.out b hb).1)
   have HR6:=Qh hR6
   have HLO6:Hid (∀ x∈O++[(⟨[.int .i64 y.kind,.string y.text,.bool y.spaced,.slice an (h.foldl ins y.hidden).length cn],putT h y,fn⟩:Elem Tok)],∀ b∈x.fp,w.heap.size<=b):=λ x hx b hb'=>by
    rcases Qa hx with hx | hx
    ·exact HLO.out x hx b hb'
    ·rw [Qm hx] at hb';have:=HFN.out b hb';omega
   have HD6:Hid ((O++[(⟨[.int .i64 y.kind,.string y.text,.bool y.spaced,.slice an (h.foldl ins y.hidden).length cn],putT h y,fn⟩:Elem Tok)]).map (·.d)=(l.take (k+1)).map (putT h)):=by
    show _=_
    rw [List.map_append,HD.out,List.take_succ_eq_append_getElem hlt,List.map_append,HY.out];rfl
   clear hR6 hg6 hp6
   go_roundw
   case rel=>exact⟨k+1,_,by omega,by go_num,HD6,HR6,HLO6,hb6⟩
   case measure=>simp [intOf];omega
  ·have hkl:k=l.length:=by omega
   obtain⟨fpo,rO,hfo,-⟩:=HR.out.read
   have HDL:Hid (O.map (·.d)=l.map (putT h)):=by show _=_;rw [HD.out,List.take_of_length_le (by omega)]
   have HLF:Hid (∀ b∈fpo,w.heap.size<=b):=λ b hb'=>by
    rcases hfo b hb' with h1 | ⟨x,hx,h1⟩
    ·exact(HR.out.mine b h1).1
    ·exact HLO.out x hx b h1
   have hsl:=Zde _ _ fpo wr sp (by rw [List.length_map];have:=HOK.out;omega) rO
   have HSP:=Qh hsl
   clear hsl rO hfo hkl HR HD HLO
   go_wp2_with fail
   refine HSP.out.mono ?_
   rintro e w5 ⟨v5,L5,rfl,HR5,HD5,HF5,hb5⟩
   have HRF:=Qh (HR5.lower (base':=w.heap.size) hb.size)
   have HDF:Hid (L5.map (·.d)=putL l h sp):=by show _=_;rw [HD5,HDL.out];rfl
   have HFF:Hid (∀ x∈L5,∀ b∈x.fp,w.heap.size<=b):=λ x hx b hb'=>HLF.out b (HF5 x hx b hb')
   have hbf:=hb.trans (hb5.mono hb.size)
   obtain⟨a5,c5,hv5,-⟩:=HR5.val
   subst hv5
   clear HR5 HD5 HF5 HSP
   go_wp2
   go_ret
   exact⟨_,L5,rfl,HRF.out,HDF.out,HFF.out,hbf⟩
theorem Znr {l:List Tok} {k:Nat} (hk:k<l.length) (d:Int) (A:Args) (M:List Tok) :
  splK (l.drop k) d A M k=if d+opnK l[k]=0 then (A++[M],k+1,true) else if d+opnK l[k]=1/\isM l[k] [44]=true then splK (l.drop (k+1)) (d+opnK l[k]) (A++[M]) [] (k+1) else splK (l.drop (k+1)) (d+opnK l[k]) A (M++[l[k]]) (k+1):=by
 rw [List.drop_eq_getElem_cons hk];rfl
theorem splK_end {l:List Tok} {k:Nat} (hk:l.length<=k) (d:Int) (A:Args) (M:List Tok):splK (l.drop k) d A M k=(A,0,false):=by rw [List.drop_of_length_le hk];rfl
theorem Zgd {t:Tok} (h:isM t [40]=true):opnK t=1:=by unfold opnK;rw [if_pos h]
theorem Zns {t:Tok} (h:isM t [40]=false) (h2:isM t [41]=true):opnK t=-1:=by unfold opnK;rw [if_neg (by simp [h]),if_pos h2]
theorem Znt {t:Tok} (h:isM t [40]=false) (h2:isM t [41]=false):opnK t=0:=by unfold opnK;rw [if_neg (by simp [h]),if_neg (by simp [h2])]
theorem opnK_ge (t:Tok):-1<=opnK t/\opnK t<=1:=by unfold opnK;split;omega;split <;> omega
theorem open_com {t:Tok} (h:isM t [40]=true):isM t [44]=false:=by
 have e:=Zfk h
 cases h2:isM t [44]
 ·rfl
 ·have e2:=Zfk h2
  rw [e] at e2
  exact absurd e2 (by decide)
structure SplN (base:Nat) (fp:List Nat) (va:Value) (A:List (Elem (List Tok))) (vm:Value) (M:List (Elem Tok)) (w:World):Prop where
 a:RowN sToks base 24 va A w
 m:RowN sTok base 32 vm M w
 ne:∀ g,va.ownBlock=some g->vm.ownBlock≠some g
 am:∀ x∈A,∀ b∈x.fp,vm.ownBlock≠some b
 mlo:∀ x∈M,∀ b∈x.fp,b<base/\b∈fp
 alo:∀ x∈A,∀ b∈x.fp,b∈fp\/base<=b
section
variable {base:Nat} {fp:List Nat} {va vm va' vm':Value} {A:List (Elem (List Tok))} {M:List (Elem Tok)} {w w':World}
theorem SplN.below (h:SplN base fp va A vm M w) (hb:Below w.heap.size w w'):SplN base fp va A vm M w':=⟨h.a.below hb,h.m.below hb,h.ne,h.am,h.mlo,h.alo⟩
theorem SplN.arg (h:SplN base fp va A vm M w):∃ fpm,sToks.R w [vm] (M.map (·.d)) fpm/\(∀ b∈fpm,va.ownBlock≠some b)/\∀ b∈fpm,b∈fp\/base<=b:=by
 obtain⟨fpm,h1,h2,-⟩:=h.m.read
 refine ⟨fpm,h1,λ b hb hv=>?_,λ b hb=>?_⟩
 ·rcases h2 b hb with h0 | ⟨x,hx,h0⟩
  ·exact h.ne b hv h0
  ·have:=(h.mlo x hx b h0).1;have:=(h.a.mine b hv).1;omega
 ·rcases h2 b hb with h0 | ⟨x,hx,h0⟩
  ·exact .inr (h.m.mine b h0).1
  ·exact .inl (h.mlo x hx b h0).2
theorem SplN.push (h:SplN base fp va A vm M w) {x:Elem Tok} (hr:RowN sTok base 32 vm' (M++[x]) w') (hg:w.grownBy w' vm.ownBlock) (hp:vm'.ownBlock=vm.ownBlock\/vm'.ownBlock=some w.heap.size) (hx:∀ b∈x.fp,b<base/\b∈fp):SplN base fp va A vm' (M++[x]) w' where
 a:=h.a.same (λ g hgv=>hg.block g (h.a.mine g hgv).2 λ e=>h.ne g hgv e.symm) (λ y hy b hb=>hg.block b (sToks.lt (h.a.el y hy) b hb) λ e=>h.am y hy b hb e.symm)
 m:=hr
 ne:=λ g h1 h2=>by
  rcases hp with e | e
  ·exact h.ne g h1 (by rw [← e];exact h2)
  ·rw [e,Qi] at h2;have:=(h.a.mine g h1).2;omega
 am:=λ y hy b hb h2=>by
  rcases hp with e | e
  ·exact h.am y hy b hb (by rw [← e];exact h2)
  ·rw [e,Qi] at h2;have:=sToks.lt (h.a.el y hy) b hb;omega
 mlo:=λ y hy b hb=>by
  rcases Qa hy with hy | hy
  ·exact h.mlo y hy b hb
  ·rw [Qm hy] at hb;exact hx b hb
 alo:=h.alo
theorem SplN.next (h:SplN base fp va A vm M w) {y:Elem (List Tok)} (hr:RowN sToks base 24 va' (A++[y]) w') (hy:∀ b∈y.fp,b∈fp\/base<=b) (hs:base<=w'.heap.size):SplN base fp va' (A++[y]) (.slice (some ⟨w'.heap.size,0,none⟩) 0 0) [] (w'.alloc (.cells #[] 32)) where
 a:=hr.below (Zab _ _)
 m:=RowN.lit0 sTok 32 w' hs
 ne:=λ g h1 h2=>by simp only [Value.ownBlock,Qi] at h2;have:=(hr.mine g h1).2;omega
 am:=λ x hx b hb h2=>by simp only [Value.ownBlock,Qi] at h2;have:=sToks.lt (hr.el x hx) b hb;omega
 mlo:=by simp
 alo:=λ x hx b hb=>by
  rcases Qa hx with hx | hx
  ·exact h.alo x hx b hb
  ·rw [Qm hx] at hb;exact hy b hb
end
def ZiG (fp:List Nat) (r:Args × Nat × Bool) (w:World) (e:Ending) (w':World):Prop:=
 ∃ (v:Value) (A:List (Elem (List Tok))),e=.returned (.tuple #[v,.int .i64 (r.2.1:Nat),.bool r.2.2])/\RowN sToks w.heap.size 24 v A w'/\A.map (·.d)=r.1/\(∀ x∈A,∀ b∈x.fp,b∈fp\/w.heap.size<=b)/\Below w.heap.size w w'
theorem ZjL (v:Value) (l:List Tok) (fp:List Nat) (n:Nat) (w:World) (hl:l.length<=1000) (hn:n<l.length) (ho:isM l[n] [40]=true) (H:(Zaa sTok).R w [v] l fp) :
  Calls Tryz.prog 98 #[v,.int .i64 n] w (ZiG fp (splK (l.drop (n+1)) 1 [] [] (n+1)) w):=by
 have HLT:=Qh ((Zaa sTok).lt H)
 obtain⟨a,cap,rfl,hc,hm,hrow⟩:=Zac H
 unfold maxLen at hm
 have HK:=Qh H
 have HOP:=Qh ho
 clear H ho
 obtain⟨r,HR⟩:∃ r,Hid (r=splK (l.drop (n+1)) 1 [] [] (n+1)):=⟨_,rfl⟩
 rw [← HR.out]
 have b0:=Zab w (.cells #[] 24)
 have b1:=b0.trans ((Zab (w.alloc (.cells #[] 24)) (.cells #[] 32)).mono b0.size)
 have hsz:(w.alloc (.cells #[] 24)).heap.size=w.heap.size+1:=Array.size_push _
 have HS0:Hid (SplN w.heap.size fp (.slice (some ⟨w.heap.size,0,none⟩) 0 0) [] (.slice (some ⟨w.heap.size+1,0,none⟩) 0 0) [] ((w.alloc (.cells #[] 24)).alloc (.cells #[] 32))):=by
  have h1:=RowN.lit0 sToks 24 w (Nat.le_refl _)
  have h2:=RowN.lit0 sTok 32 (w.alloc (.cells #[] 24)) (base:=w.heap.size) b0.size
  rw [hsz] at h2
  exact⟨h1.below (Zab _ _),h2,λ g q1 q2=>by simp only [Value.ownBlock,Qi] at q1 q2;omega,by simp,by simp,by simp⟩
 clear b0 hsz
 go_enter Tryz.func98,Tryz.ntmps98
 go_wp2
 go_loopw [7,8,9,10] (λ va vm d i wr=>∃ (k:Nat) (dd:Int) (A:List (Elem (List Tok))) (M:List (Elem Tok)),n<=k/\k<=l.length/\i=.int .i64 k/\d=.int .i64 dd/\0<=dd/\dd<=k/\A.length<=k/\M.length<=k/\Hid (SplN w.heap.size fp va A vm M wr)/\Hid ((k=n/\dd=0/\A=[]/\M=[])\/(n<k/\1<=dd/\splK (l.drop k) dd (A.map (·.d)) (M.map (·.d)) k=r))/\Below w.heap.size w wr) (λ _ _ _ i _=>l.length-(intOf i).toNat)
 case atStart=>exact⟨n,0,[],[],Nat.le_refl _,by omega,rfl,rfl,by omega,by omega,by simp,by simp,HS0,.inl ⟨rfl,rfl,rfl,rfl⟩,b1⟩
 case round =>
  clear HS0 b1
  obtain⟨k,dd,A,M,hnk,hk,rfl,rfl,hd0,hdk,hAk,hMk,HS,HI,hb⟩:=hrel
  obtain⟨aa,ca,hva,-⟩:=HS.out.a.val
  obtain⟨am,cm,hvm,-⟩:=HS.out.m.val
  subst hva hvm
  by_cases hlt:k<l.length
  ·obtain⟨b1,o1,-,rfl,-,-,-⟩:=hrow (by omega)
   obtain⟨xa,xc,xf,x0,x1,x2,x3,xR,hbb,hxf⟩:=ZaB HK.out hlt
   replace x0:=(hb.cell (p:=⟨b1,o1+k * 4,none⟩) hbb).trans x0
   replace x1:=(hb.cell (p:=⟨b1,o1+k * 4+1,none⟩) hbb).trans x1
   replace x2:=(hb.cell (p:=⟨b1,o1+k * 4+2,none⟩) hbb).trans x2
   replace x3:=(hb.cell (p:=⟨b1,o1+k * 4+3,none⟩) hbb).trans x3
   have XR:=Qh (sTok.below xR hb)
   have HXF:Hid (∀ b∈xf,b<w.heap.size/\b∈fp):=λ b hb=>⟨HLT.out b (hxf b hb),hxf b hb⟩
   have bx:=Zab wr (.cells #[.int .i64 l[k].kind,.string l[k].text,.bool l[k].spaced,.slice xa l[k].hidden.length xc] 32)
   have HX:=Qh (heap_alloc_new wr (.cells #[.int .i64 l[k].kind,.string l[k].text,.bool l[k].spaced,.slice xa l[k].hidden.length xc] 32))
   have HST:Hid (n<k->splK (l.drop k) dd (A.map (·.d)) (M.map (·.d)) k=r):=λ h=>by
    rcases HI.out with⟨h1,-⟩ | ⟨-,-,h2⟩
    ·omega
    ·exact h2
   have hdn:n<k->1<=dd:=λ h=>by
    rcases HI.out with⟨h1,-⟩ | ⟨-,h2,-⟩
    ·omega
    ·exact h2
   have HSN:Hid (k=n->dd=0/\A=[]/\M=[]/\isM l[k] [40]=true):=λ h=>by
    rcases HI.out with⟨-,h2,h3,h4⟩ | ⟨h1,-⟩
    ·subst h;exact⟨h2,h3,h4,HOP.out⟩
    ·omega
   have HSP:=Qh (Znr hlt dd (A.map (·.d)) (M.map (·.d)))
   have hoge:=opnK_ge l[k]
   clear xR hxf hrow HI
   go_upto_block 2 with fail
   clear x0 x1 x2 x3
   have hwr:=hb.size
   have HS2:=Qh (HS.out.below bx)
   have hbw:=hb.trans (bx.mono hb.size)
   have XR2:=Qh (sTok.below XR.out bx)
   have hbl:=mlt HX.out
   generalize (wr.alloc (.cells #[.int .i64 l[k].kind,.string l[k].text,.bool l[k].spaced,.slice xa l[k].hidden.length xc] 32))=W2 at *
   generalize l[k]=y at *
   clear XR HS bx hb
   have HQ:=Qh (λ (s:ByteArray) (U:World) (hU:Below W2.heap.size W2 U)=>Zcu _ y xf U s (sTok.below XR2.out hU))
   have HL40:Hid ((decide (y.kind=4) && (y.text.toList==(⟨#[40]⟩:ByteArray).toList))=isM y [40]):=by show _=_;rw [show (⟨#[40]⟩:ByteArray).toList=[40] by rw [ByteArray.toList_eq]];rfl
   have HL41:Hid ((decide (y.kind=4) && (y.text.toList==(⟨#[41]⟩:ByteArray).toList))=isM y [41]):=by show _=_;rw [show (⟨#[41]⟩:ByteArray).toList=[41] by rw [ByteArray.toList_eq]];rfl
   have HL44:Hid ((decide (y.kind=4) && (y.text.toList==(⟨#[44]⟩:ByteArray).toList))=isM y [44]):=by show _=_;rw [show (⟨#[44]⟩:ByteArray).toList=[44] by rw [ByteArray.toList_eq]];rfl
   have HQ40:=Qh (λ (U:World) (hU:Below W2.heap.size W2 U)=>HQ.out ⟨#[40]⟩ U hU)
   have HQ41:=Qh (λ (U:World) (hU:Below W2.heap.size W2 U)=>HQ.out ⟨#[41]⟩ U hU)
   have HQ44:=Qh (λ (U:World) (hU:Below W2.heap.size W2 U)=>HQ.out ⟨#[44]⟩ U hU)
   rw [HL40.out] at HQ40
   rw [HL41.out] at HQ41
   rw [HL44.out] at HQ44
   clear HQ HL40 HL41 HL44
   go_cut [9] from 15 to 63 (λ d wx=>d=.int .i64 (dd+opnK y)/\Below W2.heap.size W2 wx)
   case first =>
    obtain⟨t0,t1,t2,t3⟩:=Q4 HX.out
    go_upto_if 25 with(go_at_call 45;refine (HQ40.out _ (Below.refl _ _)).mono ?_;rintro e u1 ⟨rfl,g1⟩)
    have HX1:=Qh (mbox HX.out g1)
    clear t0 t1 t2 t3
    obtain⟨t0,t1,t2,t3⟩:=Q4 HX1.out
    cases h40:isM y [40]
    ·cases h41:isM y [41]
     ·have HF:=Qh (Znt h40 h41)
      rw [h41] at HQ41
      clear h40 h41
      go_wp2_with fail
      refine (HQ41.out _ g1).mono ?_
      rintro e u2 ⟨rfl,g2⟩
      go_wp2
      go_meet
      case rel=>exact⟨by rw [HF.out];simp,g1.trans (g2.mono g1.size)⟩
     ·have HF:=Qh (Zns h40 h41)
      have hwr1:IntKind.i64.wrap (dd-1)=dd-1:=IntWalk.i64_in _ (by omega)
      rw [h41] at HQ41
      clear h40 h41
      go_wp2_with fail
      refine (HQ41.out _ g1).mono ?_
      rintro e u2 ⟨rfl,g2⟩
      go_wp2
      go_meet
      case rel=>exact⟨by rw [HF.out];rfl,g1.trans (g2.mono g1.size)⟩
    ·have HF:=Qh (Zgd h40)
     have hwr1:IntKind.i64.wrap (dd+1)=dd+1:=IntWalk.i64_in _ (by omega)
     clear h40
     go_wp2
     go_meet
     case rel=>exact⟨by rw [HF.out],g1⟩
   obtain⟨rfl,hbc⟩:=hcut
   generalize wc=W3 at *
   have HX3:=Qh (mbox HX.out hbc)
   have HS3:=Qh (HS2.out.below hbc)
   have hb3:=hbw.trans (hbc.mono hbw.size)
   have XR3:=Qh (sTok.below XR2.out hbc)
   have hk1:IntKind.i64.wrap ((k:Int)+1)=(k:Int)+1:=IntWalk.i64_in _ (by omega)
   clear HQ40 HQ41 HS2 XR2 HX
   obtain⟨fpm,rm,nm1,nm2⟩:=HS3.out.arg
   have RM:=Qh rm
   have NM1:=Qh nm1
   have NM2:=Qh nm2
   clear rm nm1 nm2
   by_cases h0:dd+opnK y=0
   ·have hnk2:n<k:=by
     rcases Nat.lt_or_eq_of_le hnk with h | h
     ·exact h
     ·obtain⟨q1,-,-,q4⟩:=HSN.out h.symm
      rw [Zgd q4,q1] at h0
      omega
    have HF:Hid (r=((A.map (·.d))++[M.map (·.d)],k+1,true)):=by show _=_;rw [← HST.out hnk2,HSP.out,if_pos h0]
    have e0:(dd+opnK y==0)=true:=by simp [h0]
    generalize dd+opnK y=d1 at *
    have bl:=Zab W3 (.cells #[.slice am M.length cm] 24)
    have HL:=Qh (heap_alloc_new W3 (.cells #[.slice am M.length cm] 24))
    have HS4:=Qh (HS3.out.below bl)
    have RM4:=Qh (sToks.below RM.out bl)
    have hb4:=hb3.trans (bl.mono hb3.size)
    clear HSP HST HSN HS3 bl
    go_wp2_with (at_builtin;refine ZaE (X:=[(⟨[.slice am M.length cm],M.map (·.d),fpm⟩:Elem (List Tok))]) ZdM rfl (by decide) _ rfl (.tmp 38) (.tmp 40) rfl w.heap.size (.slice aa A.length ca) rfl HS4.out.a ⟨W3.heap.size,0,none⟩ 1 1 rfl rfl (λ x hx=>by obtain rfl:=Qm hx;exact⟨rfl,RM4.out,NM1.out⟩) (λ x hx u hu=>by obtain rfl:=Qm hx;rw [Qm hu];rfl) (λ j u hj=>by rw [ZaI,Nat.zero_add,cell_of_row _ _ _ _ _ _ HL.out];simpa using hj) (by unfold maxLen;omega) (by omega) hb4.size ?_;intro v5 w5 hR5 hg5 hp5;have hb5:Below w.heap.size w w5:=hb4.grown hg5 hb4.size (λ b hb=>(HS4.out.a.mine b hb).1);have HR5:=Qh hR5;obtain⟨a5,c5,hv5,-⟩:=hR5.val;rw [show (A++[(⟨[.slice am M.length cm],M.map (·.d),fpm⟩:Elem (List Tok))]).length=A.length+1 by simp] at hv5;subst hv5;clear hR5 hg5 hp5)
    go_ret3
    exact⟨.slice a5 (A.length+1) c5,_,by rw [HF.out];rfl,HR5.out,by rw [HF.out,List.map_append];rfl,(λ x hx b hb=>by
     rcases Qa hx with hx | hx
     ·exact HS4.out.alo x hx b hb
     ·rw [Qm hx] at hb;exact NM2.out b hb),hb5⟩
   have e0:(dd+opnK y==0)=false:=by simpa using h0
   by_cases hcm:dd+opnK y=1/\isM y [44]=true
   ·obtain⟨h1,h44⟩:=hcm
    have hnk2:n<k:=by
     rcases Nat.lt_or_eq_of_le hnk with h | h
     ·exact h
     ·obtain⟨-,-,-,q4⟩:=HSN.out h.symm
      rw [open_com q4] at h44
      exact absurd h44 (by simp)
    have HF:Hid (splK (l.drop (k+1)) 1 ((A.map (·.d))++[M.map (·.d)]) [] (k+1)=r):=by show _=_;rw [← HST.out hnk2,HSP.out,if_neg h0,if_pos ⟨h1,h44⟩,h1]
    rw [h44] at HQ44
    rw [h1] at e0 ⊢
    clear h0 h1 h44 HSP HST HSN
    obtain⟨t0,t1,t2,t3⟩:=Q4 HX3.out
    go_wp2_with fail
    refine (HQ44.out _ hbc).mono ?_
    rintro e u4 ⟨rfl,g4⟩
    have bl:=Zab u4 (.cells #[.slice am M.length cm] 24)
    have HL:=Qh (heap_alloc_new u4 (.cells #[.slice am M.length cm] 24))
    have HS4:=Qh ((HS3.out.below g4).below bl)
    have RM4:=Qh (sToks.below (sToks.below RM.out g4) bl)
    have hb4:=(hb3.trans (g4.mono hb3.size)).trans (bl.mono (hb3.trans (g4.mono hb3.size)).size)
    clear t0 t1 t2 t3 HS3 bl g4 HQ44
    go_wp2_with (at_builtin;refine ZaE (X:=[(⟨[.slice am M.length cm],M.map (·.d),fpm⟩:Elem (List Tok))]) ZdM rfl (by decide) _ rfl (.tmp 51) (.tmp 53) rfl w.heap.size (.slice aa A.length ca) rfl HS4.out.a ⟨u4.heap.size,0,none⟩ 1 1 rfl rfl (λ x hx=>by obtain rfl:=Qm hx;exact⟨rfl,RM4.out,NM1.out⟩) (λ x hx u hu=>by obtain rfl:=Qm hx;rw [Qm hu];rfl) (λ j u hj=>by rw [ZaI,Nat.zero_add,cell_of_row _ _ _ _ _ _ HL.out];simpa using hj) (by unfold maxLen;omega) (by omega) hb4.size ?_;intro v5 w5 hR5 hg5 hp5;have hb5:Below w.heap.size w w5:=hb4.grown hg5 hb4.size (λ b hb=>(HS4.out.a.mine b hb).1);have HS5:=Qh (HS4.out.next hR5 NM2.out hb5.size);have hb6:=hb5.trans ((Zab w5 (.cells #[] 32)).mono hb5.size);clear hR5 hg5 hp5)
    go_roundw
    case rel=>exact⟨k+1,1,_,[],by omega,by omega,by go_num,rfl,by omega,by omega,by simp;omega,by simp,HS5,.inr ⟨by omega,by omega,by rw [List.map_append];exact HF.out⟩,hb6⟩
    case measure=>simp [intOf];omega
   have HNC:Hid (¬ (dd+opnK y=1/\isM y [44]=true)):=hcm
   have HSE:Hid (n<k->splK (l.drop (k+1)) (dd+opnK y) (A.map (·.d)) ((M.map (·.d))++[y]) (k+1)=r):=λ h=>by rw [← HST.out h,HSP.out,if_neg h0,if_neg hcm]
   have HSF:Hid (k=n->dd+opnK y=1/\A=[]/\M=[]):=λ h=>by
    obtain⟨q1,q2,q3,q4⟩:=HSN.out h
    exact⟨by rw [q1,Zgd q4];rfl,q2,q3⟩
   have hd1:1<=dd+opnK y:=by
    rcases Nat.lt_or_eq_of_le hnk with h | h
    ·have:=hdn h;omega
    ·have:=(HSF.out h.symm).1;omega
   have HDL:Hid (dd+opnK y<=(k:Int)+1):=by show _<=_;omega
   clear HSP HST HSN hcm h0
   go_upto_region 14 with fail
   go_cut [44] from 15 to 63 (λ d wx=>d=.bool false/\Below W3.heap.size W3 wx)
   case first =>
    obtain⟨t0,t1,t2,t3⟩:=Q4 HX3.out
    by_cases h1:dd+opnK y=1
    ·have e1:(dd+opnK y==1)=true:=by simp [h1]
     have h44:isM y [44]=false:=by
      cases h:isM y [44]
      ·rfl
      ·exact absurd ⟨h1,h⟩ HNC.out
     rw [h44] at HQ44
     clear h44 h1
     generalize dd+opnK y=d1 at *
     go_wp2_with fail
     refine (HQ44.out _ hbc).mono ?_
     rintro e u4 ⟨rfl,g4⟩
     go_wp2
     go_meet
     case rel=>exact⟨by trivial,g4⟩
    ·have e1:(dd+opnK y==1)=false:=by simp [h1]
     clear h1
     generalize dd+opnK y=d1 at *
     go_wp2
     go_meet
     case rel=>exact⟨by trivial,Below.refl _ _⟩
   obtain⟨rfl,hbd⟩:=hcut
   generalize wc=W4 at *
   have HX4:=Qh (mbox HX3.out hbd)
   have HS4:=Qh (HS3.out.below hbd)
   have hb4:=hb3.trans (hbd.mono hb3.size)
   have XR4:=Qh (sTok.below XR3.out hbd)
   clear HS3 XR3 HX3 HQ44 RM NM1 NM2
   rcases Nat.lt_or_eq_of_le hnk with hnk2 | hnk2
   ·have HF:=Qh (HSE.out hnk2)
    have e3:((n:Int)<(k:Int)):=by omega
    obtain⟨t0,t1,t2,t3⟩:=Q4 HX4.out
    have bl:=Zab W4 (.cells #[.int .i64 y.kind,.string y.text,.bool y.spaced,.slice xa y.hidden.length xc] 32)
    have HL:=Qh (heap_alloc_new W4 (.cells #[.int .i64 y.kind,.string y.text,.bool y.spaced,.slice xa y.hidden.length xc] 32))
    have HS5:=Qh (HS4.out.below bl)
    have XR5:=Qh (sTok.below XR4.out bl)
    have hb5:=hb4.trans (bl.mono hb4.size)
    have HMB:=Qh (λ b hb=>(HS4.out.m.mine b hb).1)
    clear HSE HSF HS4 XR4 bl
    go_wp2_with (at_builtin;refine ZaE (X:=[(⟨[.int .i64 y.kind,.string y.text,.bool y.spaced,.slice xa y.hidden.length xc],y,xf⟩:Elem Tok)]) ZaG rfl (by decide) _ rfl (.tmp 60) (.tmp 62) rfl w.heap.size (.slice am M.length cm) rfl HS5.out.m ⟨W4.heap.size,0,none⟩ 1 1 rfl rfl (λ x hx=>by obtain rfl:=Qm hx;exact⟨rfl,XR5.out,λ b hb h=>by have h1:=(HXF.out b hb).1;have h2:=HMB.out b h;omega⟩) (λ x hx=>by obtain rfl:=Qm hx;exact ZaF _ _ _ _ XR5.out) (λ j u hj=>by rw [ZaI,Nat.zero_add,cell_of_row _ _ _ _ _ _ HL.out];simpa using hj) (by unfold maxLen;omega) (by omega) hb5.size ?_;intro v6 w6 hR6 hg6 hp6;have hb6:Below w.heap.size w w6:=hb5.grown hg6 hb5.size (λ b hb=>(HS5.out.m.mine b hb).1);have HS6:=Qh (HS5.out.push hR6 hg6 hp6 HXF.out);clear hR6 hg6 hp6)
    go_roundw
    case rel=>exact⟨k+1,dd+opnK y,A,_,by omega,by omega,by go_num,rfl,by omega,by have:=HDL.out;omega,by omega,by simp;omega,HS6,.inr ⟨by omega,by omega,by rw [List.map_append];exact HF.out⟩,hb6⟩
    case measure=>simp [intOf];omega
   ·obtain⟨q1,q2,q3⟩:=HSF.out hnk2.symm
    have e3:¬ ((n:Int)<(k:Int)):=by omega
    subst q2 q3
    have HRR:Hid (splK (l.drop (k+1)) 1 (([]:List (Elem (List Tok))).map (·.d)) (([]:List (Elem Tok)).map (·.d)) (k+1)=r):=by show _=_;rw [HR.out,hnk2];rfl
    rw [q1]
    clear q1 HSE HSF hnk2
    go_wp2
    go_roundw
    case rel=>exact⟨k+1,1,[],[],by omega,by omega,by go_num,rfl,by omega,by omega,by simp,by simp,HS4,.inr ⟨by omega,by omega,HRR.out⟩,hb4⟩
    case measure=>simp [intOf];omega
  ·have HF:Hid (r=(A.map (·.d),0,false)):=by
    rcases HI.out with⟨h1,-⟩ | ⟨_,_,h⟩
    ·omega
    ·rw [splK_end (by omega)] at h;exact h.symm
   have HA:=Qh HS.out.a
   have HLO:=Qh HS.out.alo
   clear HI HR
   go_wp2
   go_ret3
   exact⟨_,A,by rw [HF.out];rfl,HA.out,by rw [HF.out],HLO.out,hb⟩
theorem ti_rows:TI Tryz.prog 116 24 (.slice none 0 0) 1 24:=⟨by kernel_rfl,by kernel_rfl⟩
def OwnRows (l:List (List Tok)) (w:World) (e:Ending) (w':World):Prop:=∃ v fp,e=.returned v/\(Zaa (Zaa sTok)).R w' [v] l fp/\(∀ b∈fp,w.heap.size<=b)/\Below w.heap.size w w'
def Zge (l:List (List Tok)):Prop:=∀ k,(hk:k<l.length)->l[k].length<=1048576/\∀ j,(hj:j<l[k].length)->l[k][j].hidden.length<=2000000
theorem Zc2 (v:Value) (l:List (List Tok)) (fp:List Nat) (w:World) (hl:l.length<=1048576) (hx:Zge l) (H:(Zaa (Zaa sTok)).R w [v] l fp) :
  Calls Tryz.prog 101 #[v] w (OwnRows l w):=by
 have HH:=Qh H
 obtain⟨a,cap,rfl,hc,hm,hrow⟩:=Zac H
 unfold maxLen at hm
 clear H
 have HG0:=Qh (RowN.lit0 (Zaa sTok) 24 w (Nat.le_refl _))
 have hba:=Zab w (.cells #[] 24)
 have HX:=Qh hx
 clear hx
 go_enter Tryz.func101,Tryz.ntmps101
 go_wp2
 go_loopw [3,4] (λ o i wr=>∃ (k:Nat) (L:List (Elem (List Tok))),k<=l.length/\i=.int .i64 k/\Hid (RowN (Zaa sTok) w.heap.size 24 o L wr)/\Hid (L.map (·.d)=l.take k)/\Hid (∀ x∈L,∀ b∈x.fp,w.heap.size<=b)/\Below w.heap.size w wr) (λ _ i _=>l.length-(intOf i).toNat)
 case atStart=>exact⟨0,[],by omega,rfl,HG0.out,rfl,(λ x hx=>by simp at hx),hba⟩
 case round =>
  clear HG0 hba
  obtain⟨k,L,hk,rfl,HR,HD,HLO,hb⟩:=hrel
  obtain⟨ao,co,rfl,-⟩:=HR.out.val
  by_cases hlt:k<l.length
  ·obtain⟨bb,ob,-,rfl,-,-,-⟩:=hrow (by omega)
   obtain⟨aj,cj,fj,dq,Rj,hbb,-⟩:=ZbX HH.out hlt
   have c0:wr.cell? ⟨bb,ob+k,none⟩=some _:=(hb.cell (p:=⟨bb,ob+k,none⟩) hbb).trans dq
   have HC:=Qh (ZaO _ l[k] fj wr (HX.out k hlt).1 (HX.out k hlt).2 ((Zaa sTok).below Rj hb))
   have HLl:Hid (L.length=k):=by have:=congrArg List.length HD.out;simp at this;show _=_;omega
   clear dq Rj hrow
   go_wp2_with fail
   refine HC.out.mono ?_
   rintro e w2 ⟨v2,f2,rfl,R2,lo2,-,hb2⟩
   obtain⟨a2,c2,rfl,-⟩:=Zac R2
   have hmine:=HR.out.mine
   have hba:=Zab w2 (.cells #[.slice a2 l[k].length c2] 24)
   have HR2:=Qh (HR.out.below (hb2.trans (hba.mono hb2.size)))
   have hbw:=hb.trans ((hb2.trans (hba.mono hb2.size)).mono hb.size)
   have HE:=Qh ((Zaa sTok).below R2 hba)
   have HAP:Hid (∀ b∈f2,(Value.slice ao L.length co).ownBlock≠some b):=λ b hb' h=>by have h1:=hmine b h;have h2:=lo2 b hb';omega
   have HLO2:Hid (∀ b∈f2,w.heap.size<=b):=λ b hb'=>by have h1:=lo2 b hb';have h2:=hb.size;omega
   obtain⟨N,HN⟩:∃ N:Nat,Hid (N=l[k].length):=⟨l[k].length,Qh rfl⟩
   clear c0 HC R2 lo2 hmine hb2 hba HR
   go_wp2_with (at_builtin;refine ZaE (X:=[(⟨[.slice a2 l[k].length c2],l[k],f2⟩:Elem (List Tok))]) ti_rows rfl (by decide) _ rfl (.tmp 12) (.tmp 18) rfl w.heap.size (.slice ao L.length co) rfl HR2.out ⟨w2.heap.size,0,none⟩ 1 1 rfl rfl (λ x hx=>by obtain rfl:=Qm hx;exact⟨rfl,HE.out,HAP.out⟩) (λ x hx=>by obtain rfl:=Qm hx;simp [Value.oneCell']) (λ j u hj=>by
           rw [Addr.add_lit,Nat.zero_add,World.cell?_alloc_at _ _ _ _ rfl]
           simpa using hj) (by unfold maxLen;have:=HLl.out;omega) (by have:=HLl.out;omega) hbw.size ?_;intro v3 w3 hR3 hg3 hp3)
   have hb3:Below w.heap.size w w3:=hbw.grown hg3 hbw.size (λ b hb=>(HR2.out.mine b hb).1)
   have HR3:=Qh hR3
   have HD3:Hid ((L++[(⟨[.slice a2 l[k].length c2],l[k],f2⟩:Elem (List Tok))]).map (·.d)=l.take (k+1)):=by
    show _=_
    rw [List.map_append,HD.out,List.take_succ_eq_append_getElem hlt];rfl
   have HLO3:Hid (∀ x∈L++[(⟨[.slice a2 l[k].length c2],l[k],f2⟩:Elem (List Tok))],∀ b∈x.fp,w.heap.size<=b):=λ x hx=>by
    rcases Qa hx with hx | hx
    ·exact HLO.out x hx
    ·obtain rfl:=Qm hx;exact HLO2.out
   clear hR3 hg3 hp3
   go_roundw
   case rel=>exact⟨k+1,_,by omega,by go_num,HR3.out,HD3.out,HLO3.out,hb3⟩
   case measure=>simp [intOf];omega
  ·obtain⟨fpr,hr,hin,-⟩:=HR.out.read
   have hd:=HD.out
   rw [List.take_of_length_le (by omega)] at hd
   rw [hd] at hr
   have HRR:=Qh hr
   have HF:Hid (∀ b∈fpr,w.heap.size<=b):=λ b hb'=>by
    rcases hin b hb' with h | ⟨x,hx,h⟩
    ·exact(HR.out.mine b h).1
    ·exact HLO.out x hx b h
   clear hr hin hd
   go_wp2
   go_ret
   exact⟨_,fpr,rfl,HRR.out,HF.out,hb⟩
end Go.Proofs.YtipfpppcbmpjiaaGreat
