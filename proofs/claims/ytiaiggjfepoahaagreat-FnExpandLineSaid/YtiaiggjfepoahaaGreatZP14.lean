/- Texts that the proof of P stands on, in one file. -/
import Derived.Test.YtiaiggjfepoahaaGreatZP13
import Derived.Deep.Cut
set_option linter.unusedVariables false
set_option maxHeartbeats 16000000
set_option maxRecDepth 100000
set_option linter.unusedSimpArgs false
/- Expansion: names that are hidden are few. No program. -/
namespace Go.Proofs.YtiaiggjfepoahaaGreat
open Go.RowKit
theorem ZjH:∀ x y:List UInt8,Op.bytesLess x y=false->(x==y)=false->Op.bytesLess y x=true
 | [],[],_,h=>by simp at h
 | [],_::_,h,_=>by simp [Op.bytesLess] at h
 | _::_,[],_,_=>by simp [Op.bytesLess]
 |
  a::x,b::y,h,h2=>by
  have ih:=ZjH x y
  simp only [Op.bytesLess,Bool.or_eq_false_iff,decide_eq_false_iff_not,Bool.and_eq_false_iff] at h
  obtain⟨h3,h4⟩:=h
  by_cases hab:a=b
  ·subst hab
   have h5:Op.bytesLess x y=false:=by
    rcases h4 with h4 | h4
    ·simp at h4
    ·exact h4
   have h6:(x==y)=false:=by
    rw [beq_eq_false_iff_ne] at h2 ⊢
    intro e;exact h2 (by rw [e])
   simp [Op.bytesLess,ih h5 h6]
  ·have h7:b<a:=by
    rcases UInt8.lt_or_lt_of_ne hab with h | h
    ·exact absurd h h3
    ·exact h
   simp [Op.bytesLess,h7]
theorem ZnM {a b:ByteArray} (h:sLess a b=false) (h2:(a.toList==b.toList)=false):sLess b a=true:=ZjH _ _ h h2
theorem ZcU {x n:ByteArray}:∀ {l:List ByteArray},x∈ins l n->x=n\/x∈l
 | [],h=>by simp only [ins,List.mem_singleton] at h;exact .inl h
 |
  y::r,h=>by
  unfold ins at h
  split at h
  ·rcases List.mem_cons.1 h with rfl | h
   ·exact .inr (by simp)
   ·rcases ZcU h with h | h
    ·exact .inl h
    ·exact .inr (by simp [h])
  ·split at h
   ·exact .inr h
   ·rcases List.mem_cons.1 h with rfl | h
    ·exact .inl rfl
    ·exact .inr h
theorem ins_up {n:ByteArray}:∀ {l:List ByteArray},Up l->Up (ins l n)
 | [],_=>by unfold ins Up;simp
 |
  y::r,h=>by
  have h':=h
  unfold Up at h'
  rw [List.pairwise_cons] at h'
  unfold ins
  split
  ·rename_i hs
   unfold Up
   rw [List.pairwise_cons]
   refine ⟨λ z hz=>?_,ins_up h'.2⟩
   rcases ZcU hz with rfl | hz
   ·exact hs
   ·exact h'.1 z hz
  ·rename_i hs
   split
   ·exact h
   ·rename_i he
    have hn:sLess n y=true:=ZnM (by simpa using hs) (by simpa using he)
    unfold Up
    rw [List.pairwise_cons]
    refine ⟨λ z hz=>?_,h⟩
    rcases List.mem_cons.1 hz with rfl | hz
    ·exact hn
    ·exact ZcG hn (h'.1 z hz)
theorem Zhn:∀ {b a:List ByteArray},Up a->Up (Zbc a b)
 | [],_,h=>h
 | _::r,_,h=>Zhn (b:=r) (ins_up h)
theorem ZjI {x:ByteArray}:∀ {b a:List ByteArray},x∈Zbc a b->x∈a\/x∈b
 | [],_,h=>.inl h
 |
  y::r,a,h=>by
  rcases ZjI (b:=r) (a:=ins a y) h with h | h
  ·rcases ZcU h with rfl | h
   ·exact .inr (by simp)
   ·exact .inl h
  ·exact .inr (by simp [h])
theorem ZjJ {α:Type} [DecidableEq α]:∀ {l N:List α},l.Nodup->(∀ x∈l,x∈N)->l.length<=N.length
 | [],_,_,_=>Nat.zero_le _
 |
  a::r,N,h,hs=>by
  rw [List.nodup_cons] at h
  have hm:a∈N:=hs a (by simp)
  have h1:=ZjJ (l:=r) (N:=N.erase a) h.2 λ x hx=>by
   have hne:x≠a:=λ e=>h.1 (e ▸ hx)
   exact(List.mem_erase_of_ne hne).2 (hs x (by simp [hx]))
  rw [List.length_erase_of_mem hm] at h1
  have:=List.length_pos_of_mem hm
  rw [List.length_cons];omega
theorem up_nodup {l:List ByteArray} (h:Up l):l.Nodup:=List.Pairwise.imp (λ {a b} hab e=>by subst e;rw [Zc3] at hab;exact absurd hab (by simp)) h
def HidIn (N:List ByteArray) (t:Tok):Prop:=Up t.hidden/\∀ x∈t.hidden,x∈N
theorem HidIn.len {N:List ByteArray} {t:Tok} (h:HidIn N t):t.hidden.length<=N.length:=ZjJ (up_nodup h.1) h.2
theorem HidIn.bare (N:List ByteArray) {t:Tok} (h:t.hidden=[]):HidIn N t:=by
 unfold HidIn;rw [h];exact⟨List.Pairwise.nil,by simp⟩
theorem HidIn.of {N:List ByteArray} {t u:Tok} (h:HidIn N t) (e:u.hidden=t.hidden):HidIn N u:=by unfold HidIn;rw [e];exact h
theorem HidIn.put {N:List ByteArray} {t:Tok} {h:List ByteArray} (ht:HidIn N t) (hh:∀ x∈h,x∈N):HidIn N (putT h t):=
 ⟨Zhn ht.1,λ x hx=>by
  rcases ZjI hx with hx | hx
  ·exact ht.2 x hx
  ·exact hh x hx⟩
theorem HidIn.both {N:List ByteArray} {a b:Tok} (h:HidIn N a) {k:Int} {s:ByteArray} {sp:Bool}:HidIn N ⟨k,s,sp,both a.hidden b.hidden⟩:=
 ⟨List.Pairwise.filter _ h.1,λ x hx=>h.2 x (List.mem_filter.1 hx).1⟩
theorem HidIn.paste {N:List ByteArray} {a b:Tok} (h:HidIn N a):HidIn N (Zas a b).1:=by
 rcases hp:Zas a b with⟨u,ok⟩
 cases ok
 ·rw [ZlM hp];exact HidIn.bare N rfl
 ·obtain⟨-,-,t,-,rfl⟩:=Zh7 hp;exact h.both
theorem Zk2 {N:List ByteArray} {b:Bool}:∀ {l:List Tok},(∀ t∈l,HidIn N t)->∀ t∈spc b l,HidIn N t
 | [],_,t,ht=>by simp [spc] at ht
 |
  x::r,h,t,ht=>by
  rcases List.mem_cons.1 ht with rfl | ht
  ·exact(h x (by simp)).of rfl
  ·exact h t (by simp [ht])
theorem Zgz {N:List ByteArray} {l:List Tok} {h:List ByteArray} {sp:Bool} (hl:∀ t∈l,HidIn N t) (hh:∀ x∈h,x∈N):∀ t∈putL l h sp,HidIn N t:=by
 refine Zk2 λ t ht=>?_
 obtain⟨u,hu,rfl⟩:=List.mem_map.1 ht
 exact(hl u hu).put hh
theorem ZeF {a:List (List Tok)} {P:Tok->Prop} (h:∀ l∈a,∀ t∈l,P t) (n:Int):∀ t∈argAt a n,P t:=by
 unfold argAt
 by_cases hn:n.toNat<a.length
 ·rw [List.getD_eq_getElem?_getD,List.getElem?_eq_getElem hn]
  exact h _ (List.getElem_mem hn)
 ·rw [List.getD_eq_getElem?_getD,List.getElem?_eq_none (by omega)]
  simp
theorem part_in {N:List ByteArray} {m:DMacro} {raw ready:List (List Tok)} (hv:macOk m=true) (ha:∀ l∈raw,∀ t∈l,HidIn N t) (hy:∀ l∈ready,∀ t∈l,HidIn N t) (k:Nat):∀ t∈(ZaA m raw ready k).1,HidIn N t:=by
 intro t ht
 unfold ZaA at ht
 split at ht
 ·rename_i hk
  split at ht
  ·split at ht
   ·rw [Qm ht]
    rename_i hk2
    obtain⟨kk,s,b,hx,-⟩:=Zdy (argAt raw (parOf m.params m.body[k+1]))
    exact HidIn.bare N (by show (ZaN _).1.hidden=[];rw [hx])
   ·simp at ht
  ·split at ht
   ·rw [Qm ht];exact HidIn.bare N (ZbW hk ((ZaD hv).2.2 k hk)).2.1
   ·split at ht
    ·exact Zk2 (ZeF ha _) t ht
    ·exact Zk2 (ZeF hy _) t ht
 ·simp at ht
theorem subGo_in {N:List ByteArray} {m:DMacro} {raw ready:List (List Tok)} (hv:macOk m=true) (ha:∀ l∈raw,∀ t∈l,HidIn N t) (hy:∀ l∈ready,∀ t∈l,HidIn N t):∀ (d k:Nat) (out:List Tok) (emp paste:Bool),m.body.length-k<=d->(∀ t∈out,HidIn N t)->∀ t∈(subGo m raw ready k out emp paste).1,HidIn N t:=by
 intro d
 induction d with
 | zero=>intro k out emp paste hd ho;rw [Zd4 (by omega)];exact ho
 |
  succ d ih =>
  intro k out emp paste hd ho
  by_cases hk:k<m.body.length
  rotate_left
  ·rw [Zd4 (by omega)];exact ho
  by_cases h1:isM m.body[k] [35,35]=true/\paste=false
  ·obtain⟨h1,rfl⟩:=h1
   rw [Zfx hk h1]
   exact ih _ _ _ _ (by omega) ho
  have hP2:=part_in hv ha hy k
  have hnx:=ZeC m raw ready k
  rcases hP:ZaA m raw ready k with⟨P,nx,ok⟩
  rw [hP] at hP2 hnx
  have hnx':k<nx:=hnx
  have hP2':∀ t∈P,HidIn N t:=hP2
  cases ok
  ·rw [Ze9 hk h1 hP];simp
  by_cases h2:paste=true/\emp=false/\0<P.length
  ·rcases hz:Zas (out.getLastD zTok) (P.headD zTok) with⟨z,fine⟩
   cases fine
   ·rw [Zh8 hk h1 hP h2 hz];simp
   ·rw [Zgy hk h1 hP h2 hz]
    refine ih _ _ _ _ (by omega) λ t ht=>?_
    rcases Qa ht with ht | ht
    ·exact ho t ((List.dropLast_sublist out).subset ht)
    ·rcases List.mem_cons.1 ht with rfl | ht
     ·have hl:HidIn N (out.getLastD zTok):=by
       rcases List.eq_nil_or_concat out with rfl | ⟨a,b,rfl⟩
       ·exact HidIn.bare N rfl
       ·rw [List.concat_eq_append,List.getLastD_concat];exact ho b (by simp)
      have:=hl.paste (b:=P.headD zTok)
      rw [hz] at this;exact this
     ·exact hP2' t (List.mem_of_mem_tail ht)
  ·rw [Zd5 hk h1 hP h2]
   refine ih _ _ _ _ (by omega) λ t ht=>?_
   rcases Qa ht with ht | ht
   ·exact ho t ht
   ·exact hP2' t ht
theorem Zgf {N:List ByteArray} {m:DMacro} {raw ready:List (List Tok)} (ha:∀ l∈raw,∀ t∈l,HidIn N t) (hy:∀ l∈ready,∀ t∈l,HidIn N t):∀ t∈(Zar m raw ready).1,HidIn N t:=by
 unfold Zar
 split
 ·rename_i h
  split
  ·simp
  ·exact subGo_in h.1 ha hy _ 0 [] true false (Nat.le_refl _) (by simp)
 ·simp
theorem Zet {P:Tok->Prop}:∀ (l:List Tok) (d:Int) (A:Args) (M:List Tok) (k:Nat),(∀ t∈l,P t)->(∀ a∈A,∀ t∈a,P t)->(∀ t∈M,P t)->∀ a∈(splK l d A M k).1,∀ t∈a,P t
 | [],d,A,M,k,_,hA,_=>by unfold splK;exact hA
 |
  t::r,d,A,M,k,hl,hA,hM=>by
  have hr:∀ u∈r,P u:=λ u hu=>hl u (by simp [hu])
  have hAM:∀ a∈A++[M],∀ u∈a,P u:=λ a ha=>by
   rcases Qa ha with ha | ha
   ·exact hA a ha
   ·rw [Qm ha];exact hM
  unfold splK
  split
  ·exact hAM
  ·split
   ·exact Zet r _ _ _ _ hr hAM (by simp)
   ·exact Zet r _ _ _ _ hr hA λ u hu=>by
     rcases Qa hu with hu | hu
     ·exact hM u hu
     ·rw [Qm hu];exact hl t (by simp)
theorem Zgg {P:Tok->Prop} {f:List Tok->Nat->XRes} (hf:∀ a k,(∀ t∈a,P t)->∀ t∈(f a k).1,P t):∀ (A:List (List Tok)) (s:Nat),(∀ a∈A,∀ t∈a,P t)->∀ a∈(argsX f A s).1,∀ t∈a,P t
 | [],s,_=>by unfold argsX;simp
 |
  a::r,s,h=>by
  unfold argsX
  split
  ·split
   ·intro b hb
    rcases List.mem_cons.1 hb with rfl | hb
    ·exact hf a s (h a (by simp))
    ·exact Zgg hf r _ (λ c hc=>h c (by simp [hc])) b hb
   ·simp
  ·simp
theorem ZiU {T:List DMacro} {t:Tok} {m:DMacro} (h:findM T t=some m):m∈T:=by
 unfold findM at h
 split at h
 ·exact List.mem_of_getElem? h
 ·simp at h
theorem go_in {T:List DMacro} {w:List Tok} {m:DMacro} (h:goM T w=some m):m∈T:=by
 cases w with
 | nil=>simp [goM] at h
 |
  cons t r =>
  unfold goM at h
  dsimp only at h
  cases hf:findM T t with
  | none=>rw [hf] at h;simp at h
  |
   some m' =>
   rw [hf] at h
   dsimp only at h
   split at h
   ·simp at h
   ·simp only [Qi] at h;subst h;exact ZiU hf
section
variable {N:List ByteArray} {T:List DMacro}
theorem headD_in {w:List Tok} (h:∀ t∈w,HidIn N t):HidIn N (w.headD zTok):=by
 cases w with
 | nil=>exact HidIn.bare N rfl
 | cons t r=>exact h t (by simp)
theorem Zk3 {f:List Tok->Nat->XRes} (hf:∀ a k,(∀ t∈a,HidIn N t)->∀ t∈(f a k).1,HidIn N t) {m:DMacro} (hm:m.name∈N) {w:List Tok} (hw:∀ t∈w,HidIn N t) (s:Nat):∀ t∈(callX f m w s).1,HidIn N t:=by
 have hA:=Zet (P:=HidIn N) (w.drop 2) 1 [] [] 2 (λ t ht=>hw t (List.mem_of_mem_drop ht)) (by simp) (by simp)
 have hA':∀ a∈(splK (w.drop 2) 1 [] [] 2).1.take m.params.length,∀ t∈a,HidIn N t:=λ a ha=>hA a (List.mem_of_mem_take ha)
 unfold callX
 split
 ·split
  ·split
   ·refine Zgz (Zgf hA' (Zgg hf _ s hA')) λ x hx=>?_
    rcases ZcU hx with rfl | hx
    ·exact hm
    ·exact(headD_in hw).2 x (List.mem_filter.1 hx).1
   ·simp
  ·simp
 ·simp
theorem Zic (hT:∀ m∈T,m.name∈N):∀ (n:Nat) (w:List Tok) (s:Nat) (out:List Tok),(∀ t∈out,HidIn N t)->(∀ t∈w,HidIn N t)->∀ t∈(expG T n s out w).1,HidIn N t:=by
 intro n
 have app:∀ {a b:List Tok},(∀ t∈a,HidIn N t)->(∀ t∈b,HidIn N t)->∀ t∈a++b,HidIn N t:=λ h1 h2 t ht=>by
  rcases Qa ht with h | h
  ·exact h1 t h
  ·exact h2 t h
 induction n with
 |
  zero =>
  intro w
  induction w with
  | nil=>intro s out ho _;rw [Zb4];exact ho
  |
   cons t r ih =>
   intro s out ho hw
   have hr:∀ u∈r,HidIn N u:=λ u hu=>hw u (by simp [hu])
   cases hg:goM T (t::r) with
   |
    none =>
    by_cases hl:60<out.length+1
    ·rw [ZbE hg hl];simp
    ·rw [Zbs hg hl];exact ih s _ (app ho (λ u hu=>by rw [Qm hu];exact hw t (by simp))) hr
   | some m=>rw [expG,hg];simp
 |
  succ n ihn =>
  intro w
  induction w with
  | nil=>intro s out ho _;rw [Zb4];exact ho
  |
   cons t r ih =>
   intro s out ho hw
   have hr:∀ u∈r,HidIn N u:=λ u hu=>hw u (by simp [hu])
   cases hg:goM T (t::r) with
   |
    none =>
    by_cases hl:60<out.length+1
    ·rw [ZbE hg hl];simp
    ·rw [Zbs hg hl];exact ih s _ (app ho (λ u hu=>by rw [Qm hu];exact hw t (by simp))) hr
   |
    some m =>
    have hmN:=hT m (go_in hg)
    cases s with
    | zero=>rw [Zdx hg];simp
    |
     succ s =>
     cases hf:m.function
     ·have hs:=Zgf (N:=N) (m:=m) (raw:=[]) (ready:=[]) (by simp) (by simp)
      rcases hc:Zar m [] [] with⟨b,ok⟩
      rw [hc] at hs
      cases ok
      ·rw [Zes hg hf hc];simp
      ·by_cases hl:60<(putL b (ins t.hidden m.name) t.spaced++r).length
       ·rw [Zer hg hf hc hl];simp
       ·rw [Zfb hg hf hc hl]
        refine ihn _ _ _ ho (app (Zgz hs λ x hx=>?_) hr)
        rcases ZcU hx with rfl | hx
        ·exact hmN
        ·exact(hw t (by simp)).2 x hx
     ·have hci:=Zk3 (f:=λ a k=>expG T n k [] a) (λ a k ha=>ihn a k [] (by simp) ha) hmN hw s
      rcases hc:callX (λ a k=>expG T n k [] a) m (t::r) s with⟨b,e,l,c⟩
      rw [hc] at hci
      by_cases h0:c=0
      ·subst h0
       by_cases hl:60<(b++(t::r).drop e).length
       ·rw [ZdT hg hf hc hl];simp
       ·rw [Zeq hg hf hc hl]
        exact ihn _ _ _ ho (app hci λ u hu=>hw u (List.mem_of_mem_drop hu))
      ·rw [Zb7 hg hf hc h0];simp
theorem Zmi (T:List DMacro):∀ (n:Nat) (w:List Tok) (s:Nat) (out:List Tok),out.length<=60->(expG T n s out w).1.length<=60:=by
 intro n
 induction n with
 |
  zero =>
  intro w
  induction w with
  | nil=>intro s out ho;rw [Zb4];exact ho
  |
   cons t r ih =>
   intro s out ho
   cases hg:goM T (t::r) with
   |
    none =>
    by_cases hl:60<out.length+1
    ·rw [ZbE hg hl];simp
    ·rw [Zbs hg hl];exact ih s _ (by simp;omega)
   | some m=>rw [expG,hg];simp
 |
  succ n ihn =>
  intro w
  induction w with
  | nil=>intro s out ho;rw [Zb4];exact ho
  |
   cons t r ih =>
   intro s out ho
   cases hg:goM T (t::r) with
   |
    none =>
    by_cases hl:60<out.length+1
    ·rw [ZbE hg hl];simp
    ·rw [Zbs hg hl];exact ih s _ (by simp;omega)
   |
    some m =>
    cases s with
    | zero=>rw [Zdx hg];simp
    |
     succ s =>
     cases hf:m.function
     ·rcases hc:Zar m [] [] with⟨b,ok⟩
      cases ok
      ·rw [Zes hg hf hc];simp
      ·by_cases hl:60<(putL b (ins t.hidden m.name) t.spaced++r).length
       ·rw [Zer hg hf hc hl];simp
       ·rw [Zfb hg hf hc hl];exact ihn _ _ _ ho
     ·rcases hc:callX (λ a k=>expG T n k [] a) m (t::r) s with⟨b,e,l,c⟩
      by_cases h0:c=0
      ·subst h0
       by_cases hl:60<(b++(t::r).drop e).length
       ·rw [ZdT hg hf hc hl];simp
       ·rw [Zeq hg hf hc hl];exact ihn _ _ _ ho
      ·rw [Zb7 hg hf hc h0];simp
end
theorem Zho {P:Program} (w:World) (base:Nat) (t ty e:TypeId) (i:TypeInfo) (z:Value) (size bytes:Nat) (ht:P.underlying t=some (.slice e)) (hi:P.info? e=some i) (hz:i.zero=some z)
  (hsize:i.size=size) (hby:i.bytes=bytes) (hzs:z.cells.size=size) (hsz:0<size)
  (v:Value) (n:Nat) (xs:List Value) (hown:w.ownsRow base e size v n xs)
  (a:Addr) (m c:Nat) (news:List Value) (hl:news.length=m * size) (hnews:∀ j u,news[j]?=some u->w.cell? (a.add j)=some u) (h1:∀ u∈news,u.oneCell'=true)
  (h63:n+m<=maxLen) (hbytes:(n+m) * bytes<=140737488355328) (hbase:base<=w.heap.size) :
  ∃ v' w',(Builtin.append_ #[t,t] ty #[v,.slice (some a) m c]).run P w=.ok v' w'/\w'.ownsRow base e size v' (n+m) (xs++news)/\w.grownBy w' v.ownBlock/\(v'.ownBlock=v.ownBlock\/v'.ownBlock=some w.heap.size):=by
 obtain⟨v',w',hr,h2,h3,h4⟩:=Go.run_append_own (P:=P) w base t ty e i z size bytes ht hi hz hsize hby hzs hsz v n xs hown a m c news hl hnews h1 h63 hbytes hbase
 refine ⟨v',w',hr,h2,h3,?_⟩
 have hsmall:n+m<=9223372036854775807:=by simp only [maxLen] at h63;omega
 subst hsize
 subst hby
 rcases hown.2 with⟨rfl,rfl⟩ | ⟨g,cap,cur,rfl,hbg,hg,hnc,hcm,hcs,htake⟩
 ·have hx:xs=[]:=List.eq_nil_of_length_eq_zero (by simpa using hown.1)
  subst hx
  by_cases hm:m=0
  ·exact .inl (by rw [h4.2 ⟨rfl,hm⟩])
  ·have hr2:=_root_.Go.run_append_nil (P:=P) w t ty e i z ht hi hz a m c news hl hnews (by omega) (by omega) (by have hb:=hbytes;simp only [Nat.zero_add] at hb;omega)
   rw [hr2] at hr
   obtain⟨rfl,_⟩:=Result.ok.inj hr
   exact .inr rfl
 ·by_cases hroom:n+m<=cap
  ·have hfit:n * i.size+news.length<=cur.size:=by rw [hl,hcs,← Nat.add_mul];exact Nat.mul_le_mul_right _ hroom
   have hr2:=Go.run_append_room (P:=P) w t ty e i ht hi g n cap cur hg a m c news hl hnews h1 hroom hfit
   rw [hr2] at hr
   obtain⟨rfl,_⟩:=Result.ok.inj hr
   exact .inl rfl
  ·have holds:∀ j u,xs[j]?=some u->w.cell? ((⟨g,0,none⟩:Addr).add j)=some u:=hown.cells (g:=g) rfl
   have hr2:=_root_.Go.run_append_grow (P:=P) w t ty e i z ht hi hz ⟨g,0,none⟩ n cap xs hown.1 holds a m c news hl hnews (by omega) (by omega) (growslice_fits (by omega) hbytes)
   rw [hr2] at hr
   obtain⟨rfl,_⟩:=Result.ok.inj hr
   exact .inr rfl
structure RowN {α:Type} (S:Shape α) (base:Nat) (e:TypeId) (v:Value) (L:List (Elem α)) (w:World):Prop where
 row:w.ownsRow base e S.m v L.length (L.flatMap (·.cells))
 len:∀ x∈L,x.cells.length=S.m
 el:∀ x∈L,S.R w x.cells x.d x.fp
 ap:∀ x∈L,∀ b∈x.fp,v.ownBlock≠some b
section
variable {α:Type} {S:Shape α} {base:Nat} {e:TypeId} {v v':Value} {L:List (Elem α)} {w w':World}
theorem RowN.nil (S:Shape α) (base:Nat) (e:TypeId) (w:World):RowN S base e (.slice none 0 0) [] w:=⟨World.ownsRow_nil _ _ _ _,by simp,by simp,by simp⟩
theorem RowN.lit0 (S:Shape α) (e:TypeId) (w:World) {base:Nat} (hb:base<=w.heap.size):RowN S base e (.slice (some ⟨w.heap.size,0,none⟩) 0 0) [] (w.alloc (.cells #[] e)) where
 row:=World.ownsRow_lit (base:=base) (e:=e) (size:=S.m) w #[] 0 hb (by unfold maxLen;omega) (by simp)
 len:=by simp
 el:=by simp
 ap:=by simp
theorem RowN.lit1 {x:Elem α} {base:Nat} (hb:base<=w.heap.size) (hl:x.cells.length=S.m) (hR:S.R w x.cells x.d x.fp):RowN S base e (.slice (some ⟨w.heap.size,0,none⟩) 1 1) [x] (w.alloc (.cells x.cells.toArray e)) where
 row:=by
  have:=World.ownsRow_lit (base:=base) (e:=e) (size:=S.m) w x.cells.toArray 1 hb (by unfold maxLen;omega) (by simpa using hl)
  simpa using this
 len:=λ y hy=>by obtain rfl:=Qm hy;exact hl
 el:=λ y hy=>by obtain rfl:=Qm hy;exact S.below hR (Zab w _)
 ap:=λ y hy b hb' h=>by
  obtain rfl:=Qm hy
  have:=S.lt hR b hb'
  simp only [Value.ownBlock,Qi] at h
  omega
theorem RowN.same (h:RowN S base e v L w) (hv:∀ g,v.ownBlock=some g->w'.heap[g]?=w.heap[g]?) (hb:∀ x∈L,∀ b∈x.fp,w'.heap[b]?=w.heap[b]?):RowN S base e v L w' where
 row:=Zba h.row hv
 len:=h.len
 el:=λ x hx=>S.frame (λ b hb'=>hb x hx b hb') (h.el x hx)
 ap:=h.ap
theorem RowN.below (h:RowN S base e v L w) (hb:Below w.heap.size w w'):RowN S base e v L w':=
 h.same (λ g hg=>hb.block g (h.row.lt g hg).2) (λ x hx b hb'=>hb.block b (S.lt (h.el x hx) b hb'))
theorem RowN.kept {K:List Nat} (h:RowN S base e v L w) (hk:Kept K w w') (hv:∀ g,v.ownBlock=some g->g∉K) (hb:∀ x∈L,∀ b∈x.fp,b∉K):RowN S base e v L w':=
 h.same (λ g hg=>hk.block g (h.row.lt g hg).2 (hv g hg)) (λ x hx b hb'=>hk.block b (S.lt (h.el x hx) b hb') (hb x hx b hb'))
theorem RowN.lower {base':Nat} (h:RowN S base e v L w) (hl:base'<=base):RowN S base' e v L w where
 row:=⟨h.row.1,by
  rcases h.row.2 with h0 | ⟨g,cap,cur,h1,h2,h3⟩
  ·exact .inl h0
  ·exact .inr ⟨g,cap,cur,h1,Nat.le_trans hl h2,h3⟩⟩
 len:=h.len
 el:=h.el
 ap:=h.ap
theorem RowN.val (h:RowN S base e v L w):∃ a cap,v=.slice a L.length cap/\L.length<=cap/\cap<=maxLen/\(0<L.length->∃ g,a=some ⟨g,0,none⟩/\base<=g/\g<w.heap.size):=by
 rcases h.row.2 with⟨rfl,h0⟩ | ⟨g,cap,cur,rfl,hb,hg,hn,hc,_⟩
 ·exact⟨none,0,by rw [h0],by omega,by simp,λ h=>by omega⟩
 ·exact⟨_,cap,rfl,hn,hc,λ _=>⟨g,rfl,hb,(Qg hg).1⟩⟩
theorem RowN.mine (h:RowN S base e v L w):∀ b,v.ownBlock=some b->base<=b/\b<w.heap.size:=λ b hb=>h.row.lt b hb
theorem RowN.read (h:RowN S base e v L w):∃ fp,(Zaa S).R w [v] (L.map (·.d)) fp/\(∀ b∈fp,v.ownBlock=some b\/∃ x∈L,b∈x.fp)/\(Own w base (L.flatMap (·.fp))->Own w base fp):=by
 obtain⟨fp,h1,h2,h3⟩:=ZaM h.row λ x hx=>⟨h.len x hx,h.el x hx⟩
 refine ⟨fp,h1,λ b hb=>?_,λ ho=>h3 ho λ g hg hm=>?_⟩
 ·rcases h2 b hb with h | h
  ·exact .inl h
  ·obtain⟨x,hx,hb'⟩:=List.mem_flatMap.1 h
   exact .inr ⟨x,hx,hb'⟩
 ·obtain⟨x,hx,hb'⟩:=List.mem_flatMap.1 hm
  exact h.ap x hx g hb' hg
theorem RowN.len_eq {g n cap:Nat} (h:RowN S base e (.slice (some ⟨g,0,none⟩) n cap) L w):L.length=n:=by
 rcases h.row.2 with⟨h',_⟩ | ⟨g',cap',cur,h',_⟩
 ·cases h'
 ·simp only [Value.slice.injEq] at h';exact h'.2.1.symm
theorem RowN.frozen {g n cap:Nat} (h:RowN S base e (.slice (some ⟨g,0,none⟩) n cap) L w) (o:Nat):w.frozen? ⟨g,o,none⟩=false:=by
 rcases h.row.2 with⟨h',_⟩ | ⟨g',cap',cur,h',_,hg,_⟩
 ·cases h'
 ·simp only [Value.slice.injEq,Qi,Addr.mk.injEq,and_true] at h'
  obtain⟨rfl,_⟩:=h'
  exact frozen_of_row w g o cur e hg
theorem RowN.cellAt {g n cap:Nat} (h:RowN S base e (.slice (some ⟨g,0,none⟩) n cap) L w) {k:Nat} (hk:k<L.length) {j:Nat} (hj:j<S.m) {u:Value} (hu:L[k].cells[j]?=some u):w.cell? ⟨g,k * S.m+j,none⟩=some u:=by
 have hn:L.length=n:=h.len_eq
 subst hn
 rw [h.row.cellAt (k * S.m+j) (by have:(k+1) * S.m<=L.length * S.m:=Nat.mul_le_mul_right _ hk;rw [Nat.succ_mul] at this;omega)]
 exact(Zbu (f:=Elem.cells) h.len hk hj).trans hu
theorem RowN.set {g n cap:Nat} (h:RowN S base e (.slice (some ⟨g,0,none⟩) n cap) L w) {k:Nat} (hk:k<L.length) {j:Nat} (hj:j<S.m) (u:Value) (x':Elem α) (hx:x'.cells=L[k].cells.set j u)
  (hR:S.R w x'.cells x'.d x'.fp) (hap:g∉x'.fp):RowN S base e (.slice (some ⟨g,0,none⟩) n cap) (L.set k x') (w.setCell ⟨g,k * S.m+j,none⟩ u):=by
 have hn:L.length=n:=h.len_eq
 have hfar:∀ b,b≠g->(w.setCell ⟨g,k * S.m+j,none⟩ u).heap[b]?=w.heap[b]?:=λ b hb=>Below.heap_setCell _ _ _ _ hb
 have hmem:∀ x∈L.set k x',x=x'\/x∈L:=λ x hx=>by
  rcases List.mem_or_eq_of_mem_set hx with h | h
  ·exact .inr h
  ·exact .inl h
 have hne:∀ x∈L.set k x',∀ b∈x.fp,b≠g:=λ x hx' b hb e=>by
  subst e
  rcases hmem x hx' with rfl | hx'
  ·exact hap hb
  ·exact h.ap x hx' b hb rfl
 refine ⟨?_,λ x hx'=>?_,λ x hx'=>S.frame (λ b hb=>hfar b (hne x hx' b hb)) ?_,λ x hx' b hb hv=>?_⟩
 ·have hrow:=h.row
  rw [hn] at hrow
  have:=(hrow.stored (k * S.m+j) u).1
  rw [ZdJ h.len hk hj u x' hx] at this
  rw [List.length_set,hn]
  exact this
 ·rcases hmem x hx' with rfl | hx'
  ·rw [hx,List.length_set];exact h.len _ (List.getElem_mem hk)
  ·exact h.len x hx'
 ·rcases hmem x hx' with rfl | hx'
  ·exact hR
  ·exact h.el x hx'
 ·simp only [Value.ownBlock,Qi] at hv
  exact hne x hx' b hb hv.symm
theorem RowN.put {g n cap:Nat} (h:RowN S base e (.slice (some ⟨g,0,none⟩) n cap) L w) {k:Nat} (hk:k<L.length) (x':Elem α) (hl:x'.cells.length=S.m) (hR:S.R w x'.cells x'.d x'.fp) (hap:g∉x'.fp) :
  RowN S base e (.slice (some ⟨g,0,none⟩) n cap) (L.set k x') (Zeb w g (k * S.m) x'.cells):=by
 have hn:L.length=n:=h.len_eq
 have hK:=ZbA (g:=g) x'.cells w (k * S.m)
 have hmem:∀ x∈L.set k x',x=x'\/x∈L:=λ x hx=>by
  rcases List.mem_or_eq_of_mem_set hx with h | h
  ·exact .inr h
  ·exact .inl h
 have hne:∀ x∈L.set k x',∀ b∈x.fp,b≠g:=λ x hx' b hb e=>by
  subst e
  rcases hmem x hx' with rfl | hx'
  ·exact hap hb
  ·exact h.ap x hx' b hb rfl
 have hel:∀ x∈L.set k x',x.cells.length=S.m/\S.R w x.cells x.d x.fp:=λ x hx'=>by
  rcases hmem x hx' with rfl | hx'
  ·exact⟨hl,hR⟩
  ·exact⟨h.len x hx',h.el x hx'⟩
 refine ⟨?_,λ x hx'=>(hel x hx').1,λ x hx'=>S.frame (λ b hb=>hK.block b (S.lt (hel x hx').2 b hb) (by simp;exact hne x hx' b hb)) (hel x hx').2,λ x hx' b hb hv=>?_⟩
 ·have hrow:=h.row
  rw [hn] at hrow
  have r1:=ZbJ x'.cells w _ (k * S.m) hrow
  have hsplit:L.flatMap (·.cells)=(L.take k).flatMap (·.cells)++(L[k].cells++(L.drop (k+1)).flatMap (·.cells)):=by
   have e0:L=L.take k++(L[k]::L.drop (k+1)):=by rw [← List.drop_eq_getElem_cons hk,List.take_append_drop]
   conv=>lhs;rw [e0]
   rw [List.flatMap_append,List.flatMap_cons]
  have hsplit2:(L.set k x').flatMap (·.cells)=(L.take k).flatMap (·.cells)++(x'.cells++(L.drop (k+1)).flatMap (·.cells)):=by
   rw [List.set_eq_take_append_cons_drop,if_pos hk,List.flatMap_append,List.flatMap_cons]
  have hA:((L.take k).flatMap (·.cells)).length=k * S.m:=by rw [ZaB (f:=Elem.cells) (m:=S.m) (λ y hy=>h.len y (List.mem_of_mem_take hy)),List.length_take];congr 1;omega
  have e1:=Zbz x'.cells ((L.take k).flatMap (·.cells)) L[k].cells ((L.drop (k+1)).flatMap (·.cells)) (by rw [hl];exact h.len _ (List.getElem_mem hk))
  rw [hA,← hsplit,← hsplit2] at e1
  rw [e1] at r1
  rw [List.length_set,hn]
  exact r1
 ·simp only [Value.ownBlock,Qi] at hv
  exact hne x hx' b hb hv.symm
theorem RowN.appended (h:RowN S base e v L w) {X:List (Elem α)} (hrow:w'.ownsRow base e S.m v' (L++X).length ((L++X).flatMap (·.cells))) (hg:w.grownBy w' v.ownBlock) (hp:v'.ownBlock=v.ownBlock\/v'.ownBlock=some w.heap.size)
  (hX:∀ x∈X,x.cells.length=S.m/\S.R w x.cells x.d x.fp/\∀ b∈x.fp,v.ownBlock≠some b):RowN S base e v' (L++X) w':=by
 have hall:∀ x∈L++X,x.cells.length=S.m/\S.R w x.cells x.d x.fp/\∀ b∈x.fp,v.ownBlock≠some b:=λ x hx=>by
  rcases Qa hx with hx | hx
  ·exact⟨h.len x hx,h.el x hx,h.ap x hx⟩
  ·exact hX x hx
 refine ⟨hrow,λ x hx=>(hall x hx).1,λ x hx=>?_,λ x hx b hb=>?_⟩
 ·exact S.frame (λ b hb=>hg.block b (S.lt (hall x hx).2.1 b hb) λ hv=>(hall x hx).2.2 b hb hv.symm) (hall x hx).2.1
 ·rcases hp with hp | hp
  ·rw [hp];exact(hall x hx).2.2 b hb
  ·rw [hp]
   intro h2
   simp only [Qi] at h2
   have:=S.lt (hall x hx).2.1 b hb
   omega
end
theorem ZbF {α:Type} {S:Shape α} {P:Program} {t e:TypeId} {z:Value} {bytes:Nat} (ti:TI P t e z S.m bytes) (hzs:z.cells.size=S.m) (h0:0<S.m) (w:World) {L X:List (Elem α)} {o:Oper} {a:Act} {K:Act->World->Prop} {Q:Exit->Act->World->Prop}
  (s y:Operand) (ho:o.op=.call { callee:=.builtin .append,args:=#[s,y],argTypes:=#[t,t] })
  (base:Nat) (v:Value) (hs:a.eval s=v) (hown:RowN S base e v L w) (ad:Addr) (m c:Nat) (hy:a.eval y=.slice (some ad) m c) (hm:X.length=m)
  (hX:∀ x∈X,x.cells.length=S.m/\S.R w x.cells x.d x.fp/\∀ b∈x.fp,v.ownBlock≠some b) (h1:∀ x∈X,∀ u∈x.cells,u.oneCell'=true) (hcell:∀ j u,(X.flatMap (·.cells))[j]?=some u->w.cell? (ad.add j)=some u)
  (h63:L.length+m<=maxLen) (hbytes:(L.length+m) * bytes<=140737488355328) (hbase:base<=w.heap.size)
  (h:∀ v' w',RowN S base e v' (L++X) w'->w.grownBy w' v.ownBlock->(v'.ownBlock=v.ownBlock\/v'.ownBlock=some w.heap.size)->K (a.put o.dst v') w'):o.wp P a w K Q:=by
 obtain⟨i,hi,hz0,hz1,hz2⟩:=info_parts ti.2
 subst hm
 obtain⟨v',w',hr,r1,r2,r3⟩:=Zho (P:=P) w base t o.type e i z S.m bytes ti.1 hi hz0 hz1 hz2 hzs h0 v L.length _ hown.row ad X.length c (X.flatMap (·.cells)) (ZaB (f:=Elem.cells) λ x hx=>(hX x hx).1) hcell
  (λ u hu=>by obtain⟨x,hx,hu⟩:=List.mem_flatMap.1 hu;exact h1 x hx u hu) h63 hbytes hbase
 unfold Oper.wp execOp
 simp only [ho,resolve,invoke,builtin,Sem.run_bind,Sem.run_pure,Result.andThen_ok,List.map_toArray,List.map_cons,List.map_nil,hs,hy,hr]
 refine h v' w' (hown.appended ?_ r2 r3 hX) r2 r3
 rw [List.length_append,List.flatMap_append]
 exact r1
theorem ZaG {α:Type} {S:Shape α} {P:Program} {t e:TypeId} {z:Value} {bytes:Nat} (ti:TI P t e z S.m bytes) (hzs:z.cells.size=S.m) (h0:0<S.m) (w:World) {L X:List (Elem α)} {ops:Array Oper} {rest:List Oper} {o:Oper} {a:Act} {Q:Exit->Act->World->Prop}
  (hg:o.guard=none) (s y:Operand) (ho:o.op=.call { callee:=.builtin .append,args:=#[s,y],argTypes:=#[t,t] })
  (base:Nat) (v:Value) (hs:a.eval s=v) (hown:RowN S base e v L w) (ad:Addr) (m c:Nat) (hy:a.eval y=.slice (some ad) m c) (hm:X.length=m)
  (hX:∀ x∈X,x.cells.length=S.m/\S.R w x.cells x.d x.fp/\∀ b∈x.fp,v.ownBlock≠some b) (h1:∀ x∈X,∀ u∈x.cells,u.oneCell'=true) (hcell:∀ j u,(X.flatMap (·.cells))[j]?=some u->w.cell? (ad.add j)=some u)
  (h63:L.length+m<=maxLen) (hbytes:(L.length+m) * bytes<=140737488355328) (hbase:base<=w.heap.size)
  (h:∀ v' w',RowN S base e v' (L++X) w'->w.grownBy w' v.ownBlock->(v'.ownBlock=v.ownBlock\/v'.ownBlock=some w.heap.size)->wpList P ops Q rest (a.put o.dst v') w'):wpList P ops Q (o::rest) a w:=
 wpList_plain hg λ _ hK=>ZbF ti hzs h0 w s y ho base v hs hown ad m c hy hm hX h1 hcell h63 hbytes hbase λ v' w' h2 h3 h4=>hK _ _ (h v' w' h2 h3 h4)
theorem ZeG {P:Program} {w:World} (base:Nat) (t ty e:TypeId) (i:TypeInfo) (size c:Nat) (ht:P.underlying t=some (.slice e)) (hi:P.info? e=some i)
  (v:Value) (n:Nat) (xs:List Value) (hown:w.ownsRow base e size v n xs):(Builtin.append_ #[t,t] ty #[v,.slice none 0 c]).run P w=.ok v w:=by
 rcases hown.2 with⟨rfl,rfl⟩ | ⟨g,cap,cur,rfl,_,_,hnc,_⟩
 ·simp [Builtin.append_,run_underlying ht,sizeOf,typeInfo,hi,Builtin.lenOf,Builtin.firstCells]
 ·simp [Builtin.append_,run_underlying ht,sizeOf,typeInfo,hi,Builtin.lenOf,Builtin.firstCells,hnc,storeCells]
theorem elems_in {α:Type} {S:Shape α} {w:World} {u:Value} {M:List α} {fp:List Nat} (H:(Zaa S).R w [u] M fp) :
  ∃ (X:List (Elem α)) (a:Option Addr) (cap:Nat),X.map (·.d)=M/\X.length=M.length/\u=.slice a M.length cap/\M.length<=maxLen/\(∀ x∈X,x.cells.length=S.m/\S.R w x.cells x.d x.fp/\∀ b∈x.fp,b∈fp) /\
   (0<M.length->∃ b off,a=some ⟨b,off,none⟩/\b<w.heap.size/\∀ k,(hk:k<X.length)->ElemAt w b off S.m k X[k].cells):=by
 obtain⟨a,cap,rfl,hc,hm,hrow⟩:=Zac H
 by_cases h0:0<M.length
 ·obtain⟨b,off,fps,rfl,hb,hfp,he⟩:=hrow h0
  have key:∀ k:Fin M.length,∃ x:Elem α,x.d=M[k.1]/\x.fp=fps k.1/\ElemAt w b off S.m k.1 x.cells/\S.R w x.cells x.d x.fp:=λ k=>by
   obtain⟨es,hE,hR⟩:=he k.1 k.2
   exact⟨⟨es,M[k.1],fps k.1⟩,rfl,rfl,hE,hR⟩
  let X:List (Elem α):=List.ofFn λ k:Fin M.length=>(key k).choose
  have hXl:X.length=M.length:=by simp [X]
  have hX:∀ k,(hk:k<X.length)->∃ hk':k<M.length,X[k]=(key ⟨k,hk'⟩).choose:=λ k hk=>⟨by omega,by simp [X]⟩
  refine ⟨X,_,cap,?_,hXl,rfl,by omega,λ x hx=>?_,λ _=>⟨b,off,rfl,hb,λ k hk=>?_⟩⟩
  ·apply List.ext_getElem
   ·simp [hXl]
   ·intro k h1 h2
    rw [List.getElem_map]
    obtain⟨hk',e⟩:=hX k (by simpa using h1)
    rw [e]
    exact(key ⟨k,hk'⟩).choose_spec.1
  ·obtain⟨k,hk,rfl⟩:=List.getElem_of_mem hx
   obtain⟨hk',e⟩:=hX k hk
   obtain⟨s1,s2,s3,s4⟩:=(key ⟨k,hk'⟩).choose_spec
   rw [e]
   refine ⟨s3.1,s4,λ c hc=>?_⟩
   rw [s2] at hc
   rw [hfp]
   exact List.mem_cons_of_mem _ (List.mem_flatMap.2 ⟨k,List.mem_range.2 hk',hc⟩)
  ·obtain⟨hk',e⟩:=hX k hk
   rw [e]
   exact(key ⟨k,hk'⟩).choose_spec.2.2.1
 ·have hM:M=[]:=List.length_eq_zero_iff.1 (by omega)
  subst hM
  exact⟨[],a,cap,rfl,rfl,rfl,by unfold maxLen;simp,by simp,λ h=>absurd h (by simp)⟩
theorem Zeu {α:Type} {S:Shape α} {P:Program} {t e:TypeId} {z:Value} {bytes:Nat} (ti:TI P t e z S.m bytes) (hzs:z.cells.size=S.m) (h0:0<S.m) (hone:∀ w cs x fp,S.R w cs x fp->∀ u∈cs,u.oneCell'=true) (w:World) {L:List (Elem α)} {o:Oper} {a:Act} {K:Act->World->Prop} {Q:Exit->Act->World->Prop}
  (s y:Operand) (ho:o.op=.call { callee:=.builtin .append,args:=#[s,y],argTypes:=#[t,t] })
  (base:Nat) (v u:Value) (M:List α) (fp:List Nat) (hs:a.eval s=v) (hown:RowN S base e v L w) (hy:a.eval y=u) (HM:(Zaa S).R w [u] M fp) (hfp:∀ b∈fp,v.ownBlock≠some b)
  (h63:L.length+M.length<=maxLen) (hbytes:(L.length+M.length) * bytes<=140737488355328) (hbase:base<=w.heap.size)
  (h:∀ v' X w',X.map (·.d)=M->(∀ x∈X,∀ b∈x.fp,b∈fp)->RowN S base e v' (L++X) w'->w.grownBy w' v.ownBlock->(v'.ownBlock=v.ownBlock\/v'.ownBlock=some w.heap.size)->K (a.put o.dst v') w'):o.wp P a w K Q:=by
 obtain⟨X,ad,cap,hXM,hXl,rfl,hmm,hX,hat⟩:=elems_in HM
 rw [← hXl] at h63 hbytes
 have hX2:∀ x∈X,x.cells.length=S.m/\S.R w x.cells x.d x.fp/\∀ b∈x.fp,v.ownBlock≠some b:=λ x hx=>⟨(hX x hx).1,(hX x hx).2.1,λ c hc=>hfp c ((hX x hx).2.2 c hc)⟩
 by_cases hM:0<M.length
 ·obtain⟨b,off,rfl,hb,hE⟩:=hat hM
  refine ZbF ti hzs h0 w (X:=X) s y ho base v hs hown ⟨b,off,none⟩ M.length cap hy hXl hX2 (λ x hx=>hone _ _ _ _ (hX x hx).2.1) ?_ (by rw [← hXl];exact h63) (by rw [← hXl];exact hbytes) hbase λ v' w' r1 r2 r3=>h v' X w' hXM (λ x hx=>(hX x hx).2.2) r1 r2 r3
  intro j u hj
  have hjl:j<X.length * S.m:=by
   have:=(List.getElem?_eq_some_iff.1 hj).1
   rwa [ZaB (f:=Elem.cells) λ x hx=>(hX x hx).1] at this
  have hk:j / S.m<X.length:=Nat.div_lt_of_lt_mul (by rw [Nat.mul_comm];exact hjl)
  have hr:j % S.m<S.m:=Nat.mod_lt _ h0
  have hj2:j / S.m * S.m+j % S.m=j:=Nat.div_add_mod' _ _
  rw [← hj2,Zbu (f:=Elem.cells) (λ x hx=>(hX x hx).1) hk hr] at hj
  have:=(hE (j / S.m) hk).2 (j % S.m) hr
  rw [Nat.add_assoc,hj2] at this
  rw [Addr.add_lit,this]
  exact hj
 ·have hX0:X=[]:=List.length_eq_zero_iff.1 (by omega)
  have hM0:M.length=0:=by omega
  subst hX0
  obtain⟨i,hi,hz0,hz1,hz2⟩:=info_parts ti.2
  have hdone:K (a.put o.dst v) w:=h v [] w (by simpa using hXM) (by simp) (by simpa using hown) ⟨rfl,rfl,rfl,Nat.le_refl _,λ _ _ _=>rfl⟩ (.inl rfl)
  rw [hM0] at hy
  cases ad with
  |
   none =>
   have hrun:=ZeG (P:=P) (w:=w) base _ o.type _ i S.m cap ti.1 hi v L.length _ hown.row
   unfold Oper.wp
   simp [execOp,ho,resolve,invoke,builtin,hs,hy,hrun,Result.andThen]
   exact hdone
  |
   some ad =>
   exact ZbF ti hzs h0 w (X:=[]) s y ho base v hs hown ad 0 cap hy rfl (by simp) (by simp) (by simp) (by simpa using h63) (by simpa using hbytes) hbase λ v' w' r1 r2 r3=>h v' [] w' (by simpa using hXM) (by simp) r1 r2 r3
theorem Zbh {α:Type} {S:Shape α} {P:Program} {t e:TypeId} {z:Value} {bytes:Nat} (ti:TI P t e z S.m bytes) (hzs:z.cells.size=S.m) (h0:0<S.m) (hone:∀ w cs x fp,S.R w cs x fp->∀ u∈cs,u.oneCell'=true) (w:World) {L:List (Elem α)} {ops:Array Oper} {rest:List Oper} {o:Oper} {a:Act} {Q:Exit->Act->World->Prop}
  (hg:o.guard=none) (s y:Operand) (ho:o.op=.call { callee:=.builtin .append,args:=#[s,y],argTypes:=#[t,t] })
  (base:Nat) (v u:Value) (M:List α) (fp:List Nat) (hs:a.eval s=v) (hown:RowN S base e v L w) (hy:a.eval y=u) (HM:(Zaa S).R w [u] M fp) (hfp:∀ b∈fp,v.ownBlock≠some b)
  (h63:L.length+M.length<=maxLen) (hbytes:(L.length+M.length) * bytes<=140737488355328) (hbase:base<=w.heap.size)
  (h:∀ v' X w',X.map (·.d)=M->(∀ x∈X,∀ b∈x.fp,b∈fp)->RowN S base e v' (L++X) w'->w.grownBy w' v.ownBlock->(v'.ownBlock=v.ownBlock\/v'.ownBlock=some w.heap.size)->wpList P ops Q rest (a.put o.dst v') w'):wpList P ops Q (o::rest) a w:=
 wpList_plain hg λ _ hK=>Zeu ti hzs h0 hone w s y ho base v u M fp hs hown hy HM hfp h63 hbytes hbase λ v' X w' q1 q2 h2 h3 h4=>hK _ _ (h v' X w' q1 q2 h2 h3 h4)
/-! ### Places of names -/
def lowS (l:List ByteArray) (nm:ByteArray):Nat:=(l.takeWhile λ x=>sLess x nm).length
theorem ZiV (l:List ByteArray) (nm:ByteArray):lowS l nm<=l.length:=(List.takeWhile_prefix _).length_le
theorem ZcM (nm:ByteArray):∀ {l:List ByteArray},Up l->∀ j,(hj:j<l.length)->sLess l[j] nm=decide (j<lowS l nm)
 | [],_,j,hj=>by simp at hj
 |
  x::r,h,j,hj=>by
  obtain⟨h1,h2⟩:=List.pairwise_cons.1 h
  by_cases hx:sLess x nm=true
  ·have e:lowS (x::r) nm=lowS r nm+1:=by unfold lowS;rw [List.takeWhile_cons_of_pos (p:=λ x=>sLess x nm) hx];rfl
   rw [e]
   cases j with
   | zero=>simp [hx]
   | succ j=>simp only [List.getElem_cons_succ];rw [ZcM nm h2 j (by simpa using hj)];exact decide_eq_decide.2 (by omega)
  ·have e:lowS (x::r) nm=0:=by unfold lowS;rw [List.takeWhile_cons_of_neg (p:=λ x=>sLess x nm) hx];rfl
   rw [e]
   cases j with
   | zero=>simp at hx ⊢;exact hx
   |
    succ j =>
    simp only [List.getElem_cons_succ]
    have hj':j<r.length:=by simpa using hj
    cases hs:sLess r[j] nm
    ·simp
    ·exact absurd (ZcG (h1 _ (List.getElem_mem hj')) hs) hx
def isS (l:List ByteArray) (nm:ByteArray):Bool:=if h:lowS l nm<l.length then (l[lowS l nm].toList==nm.toList) else false
theorem isS_has {l:List ByteArray} (h:Up l) (nm:ByteArray):isS l nm=hasN l nm:=by
 cases hs:isS l nm
 ·refine (Zmf λ j hj=>?_).symm
  cases hj2:(l[j].toList==nm.toList)
  ·rfl
  ·exfalso
   have e:=Zcz hj2
   have h1:=ZcM nm h j hj
   rw [e,Zc3] at h1
   have h2:=of_decide_eq_false h1.symm
   unfold isS at hs
   by_cases h3:j=lowS l nm
   ·subst h3;rw [dif_pos hj,hj2] at hs;exact absurd hs (by simp)
   ·have h4:lowS l nm<j:=by omega
    have h5:=(List.pairwise_iff_getElem.1 h) (lowS l nm) j (by omega) hj h4
    rw [e,ZcM nm h (lowS l nm) (by omega)] at h5
    simp at h5
 ·unfold isS at hs
  split at hs
  ·rename_i h1;exact(ZkW h1 hs).symm
  ·exact absurd hs (by simp)
theorem ins_yes {l:List ByteArray} (h:Up l) {nm:ByteArray} (hs:isS l nm=true):ins l nm=l:=by
 unfold isS at hs
 split at hs
 ·rename_i h1
  exact ZkZ nm l (lowS l nm) h1 (λ j hj hjk=>by rw [ZcM nm h j hj];simpa using hjk) hs
 ·exact absurd hs (by simp)
theorem ins_no {l:List ByteArray} (h:Up l) {nm:ByteArray} (hs:isS l nm=false):ins l nm=l.take (lowS l nm)++nm::l.drop (lowS l nm):=by
 refine Zh6 nm l (lowS l nm) (ZiV l nm) (λ j hj hjk=>by rw [ZcM nm h j hj];simpa using hjk) λ h1=>⟨?_,?_⟩
 ·rw [ZcM nm h _ h1];simp
 ·unfold isS at hs;rw [dif_pos h1] at hs;exact hs
/-! ### The library's -/
theorem ZmZ (a:ByteArray) (w:World):Calls Tryz.prog 152 #[.string a] w λ e w'=>e=.returned (.bool false)/\w'=w:=by
 go_enter Tryz.func152,Tryz.ntmps152
 go_wp2
 go_ret
 exact⟨rfl,rfl⟩
theorem ZnN (a:ByteArray) (w:World):Calls Tryz.prog 144 #[.string a] w λ e w'=>e=.returned (.bool false)/\w'=w:=by
 go_enter Tryz.func144,Tryz.ntmps144
 go_wp2
 go_ret
 exact⟨rfl,rfl⟩
theorem lib_Less (a b:ByteArray) (w:World):Calls Tryz.prog 143 #[.string a,.string b] w λ e w'=>e=.returned (.bool (sLess a b))/\w'=w:=by
 go_enter Tryz.func143,Tryz.ntmps143
 go_wp2_with (go_at_call 152;refine (ZmZ _ _).mono ?_;rintro e w2 ⟨rfl,rfl⟩)
 go_ret
 exact⟨rfl,rfl⟩
theorem ZeT (v:Value) (l:List ByteArray) (nm:ByteArray) (fp:List Nat) (w:World) (hu:Up l) (hn:l.length<=1000000) (H:(Zaa sStr).R w [v] l fp) :
  Calls Tryz.prog 134 #[v,.string nm] w λ e w'=>e=.returned (.tuple #[.int .i64 (lowS l nm:Nat),.bool (isS l nm)])/\w'=w:=by
 obtain⟨a,cap,rfl,hc,hm,hcell,-⟩:=Zaf H
 unfold maxLen at hm
 clear H
 have HLE:=Qh (ZiV l nm)
 have HIFF:Hid (∀ j,(hj:j<l.length)->sLess l[j] nm=decide (j<lowS l nm)):=ZcM nm hu
 have HIN:Hid (∀ h:lowS l nm<l.length,isS l nm=(l[lowS l nm].toList==nm.toList)):=λ h=>by unfold isS;rw [dif_pos h]
 have HOUT:Hid (¬ lowS l nm<l.length->isS l nm=false):=λ h=>by unfold isS;rw [dif_neg h]
 clear hu
 go_enter Tryz.func134,Tryz.ntmps134
 go_wp2
 go_loopw [7,8] (λ s9 s10 wr=>∃ lo hi:Nat,s9=.int .i64 lo/\s10=.int .i64 hi/\lo<=hi/\hi<=l.length/\Hid (lo<=lowS l nm/\lowS l nm<=hi)/\wr=w) (λ s9 s10 _=>(intOf s10).toNat-(intOf s9).toNat)
 case atStart=>exact⟨0,l.length,rfl,rfl,by omega,by omega,⟨by omega,HLE.out⟩,rfl⟩
 case round =>
  obtain⟨lo,hi,rfl,rfl,hlh,hin,HW,rfl⟩:=hrel
  by_cases hlt:lo<hi
  ·obtain⟨b1,off1,rfl,hb1,-,he1⟩:=hcell (by omega)
   have c10:wr.cell? ⟨b1,off1+(lo+hi) / 2,none⟩=some _:=he1 ((lo+hi) / 2) (by omega)
   have HC:=Qh (lib_Less (l[(lo+hi) / 2]'(by omega)) nm wr)
   clear he1 hcell
   cases hyx:sLess (l[(lo+hi) / 2]'(by omega)) nm
   ·have HL:Hid (lo<=lowS l nm/\lowS l nm<=(lo+hi) / 2):=by
     have h1:=HIFF.out ((lo+hi) / 2) (by omega)
     rw [hyx] at h1
     have h2:=of_decide_eq_false h1.symm
     exact⟨HW.out.1,by omega⟩
    rw [hyx] at HC
    clear hyx
    go_wp2_with (go_at_call 143;refine HC.out.mono ?_;rintro e w2 ⟨rfl,rfl⟩)
    go_roundw
    case rel=>exact⟨lo,(lo+hi) / 2,rfl,by first | rfl | rw [show ((lo:Int)+(hi:Int)) / 2=(((lo+hi) / 2:Nat):Int) by omega],by omega,by omega,HL,by trivial⟩
    case measure=>simp [intOf];omega
   ·have HL:Hid ((lo+hi) / 2+1<=lowS l nm/\lowS l nm<=hi):=by
     have h1:=HIFF.out ((lo+hi) / 2) (by omega)
     rw [hyx] at h1
     have h2:=of_decide_eq_true h1.symm
     exact⟨h2,HW.out.2⟩
    rw [hyx] at HC
    clear hyx
    go_wp2_with (go_at_call 143;refine HC.out.mono ?_;rintro e w2 ⟨rfl,rfl⟩)
    go_roundw
    case rel=>exact⟨(lo+hi) / 2+1,hi,by first | rfl | rw [show ((lo:Int)+(hi:Int)) / 2+1=(((lo+hi) / 2+1:Nat):Int) by omega],rfl,by omega,hin,HL,by trivial⟩
    case measure=>simp [intOf];omega
  ·obtain rfl:hi=lo:=by omega
   have hlow:lowS l nm=hi:=by have:=HW.out;omega
   by_cases hn2:hi<l.length
   ·have HD:Hid (isS l nm=(l[hi].toList==nm.toList)):=by
     subst hlow
     exact HIN.out hn2
    have HA:=Qh hlow
    clear hlow HIN HOUT HIFF HW HLE
    obtain⟨b1,off1,rfl,hb1,-,he1⟩:=hcell (by omega)
    have c10:wr.cell? ⟨b1,off1+hi,none⟩=some _:=he1 hi hn2
    clear he1 hcell
    cases hyx:(l[hi].toList==nm.toList)
    ·have HF:=Qh (HD.out.trans hyx)
     clear HD
     go_wp2_with (go_at_call 144;refine (ZnN _ _).mono ?_;rintro e w2 ⟨rfl,rfl⟩)
     go_ret2
     exact⟨by rw [HA.out,HF.out];rfl,rfl⟩
    ·have HF:=Qh (HD.out.trans hyx)
     clear HD
     go_wp2
     go_ret2
     exact⟨by rw [HA.out,HF.out];rfl,rfl⟩
   ·have HF:=Qh (HOUT.out (by omega))
    have HA:=Qh hlow
    clear hlow HIN HOUT HIFF HW HLE
    go_wp2
    go_ret2
    exact⟨by rw [HA.out,HF.out];rfl,rfl⟩
/-! ### Names that are in both -/
theorem Zid (v:Value) (l:List ByteArray) (s:ByteArray) (fp:List Nat) (w:World) (H:(Zaa sStr).R w [v] l fp) :
  Calls Tryz.prog 97 #[v,.string s] w (Says (hasN l s) w):=by
 obtain⟨a,cap,rfl,hc,hm,hcell,-⟩:=Zaf H
 unfold maxLen at hm
 clear H
 go_enter Tryz.func97,Tryz.ntmps97
 go_wp2
 go_loopw [5] (λ i wr=>∃ k:Nat,k<=l.length/\i=.int .i64 k/\Hid (∀ j,(hj:j<l.length)->j<k->(l[j].toList==s.toList)=false)/\Below w.heap.size w wr) (λ i _=>l.length-(intOf i).toNat)
 case atStart=>exact⟨0,by omega,rfl,λ j _ h=>by omega,Below.refl _ _⟩
 case round =>
  obtain⟨k,hk,rfl,HP,hb⟩:=hrel
  by_cases hlt:k<l.length
  ·obtain⟨b1,off1,rfl,hb1,-,he1⟩:=hcell (by omega)
   have c10:wr.cell? ⟨b1,off1+k,none⟩=some _:=(hb.cell (p:=⟨b1,off1+k,none⟩) hb1).trans (he1 k hlt)
   clear he1 hcell
   cases g:(l[k].toList==s.toList)
   ·have HF:Hid (∀ j,(hj:j<l.length)->j<k+1->(l[j].toList==s.toList)=false):=λ j hj h=>by
     by_cases e:j=k
     ·subst e;exact g
     ·exact HP.out j hj (by omega)
    clear HP
    go_wp2
    go_roundw
    case rel=>exact⟨k+1,by omega,by go_num,HF,hb⟩
    case measure=>simp [intOf];omega
   ·have HF:=Qh (ZkW hlt g)
    clear HP
    go_wp2
    go_ret
    exact⟨Zad HF.out.symm,hb⟩
  ·have HF:=Qh (Zmf (l:=l) (s:=s) λ j hj=>HP.out j hj (by omega))
   clear HP
   go_wp2
   go_ret
   exact⟨Zad HF.out.symm,hb⟩
theorem Zmj {a b:List ByteArray} (h:∀ i,(hi:i<a.length)->a[i].size<=maxLen):∀ i,(hi:i<(both a b).length)->okStr (both a b)[i]:=λ i hi=>by
 have hm:(both a b)[i]∈a:=(List.mem_filter.1 (List.getElem_mem hi)).1
 obtain⟨j,hj,e⟩:=List.getElem_of_mem hm
 rw [← e];exact h j hj
theorem ZgZ (va vb:Value) (a b:List ByteArray) (fpa fpb:List Nat) (w:World) (ha:a.length<=1000000) (Ha:(Zaa sStr).R w [va] a fpa) (Hb:(Zaa sStr).R w [vb] b fpb) :
  Calls Tryz.prog 100 #[va,vb] w (Made (Zaa sStr) (both a b) w):=by
 obtain⟨aa,ca,rfl,hca,hma,hcell,hsz⟩:=Zaf Ha
 unfold maxLen at hma
 have HSZ:=Qh (Zmj (b:=b) hsz)
 have HB:=Qh Hb
 have hlit:Hid ((w.alloc (.cells #[] 9)).ownsRow w.heap.size 9 1 (.slice (some ⟨w.heap.size,0,none⟩) 0 0) (both (a.take 0) b).length ((both (a.take 0) b).map Value.string)):=
  World.ownsRow_lit (base:=w.heap.size) (e:=9) (size:=1) w #[] 0 (Nat.le_refl _) (by simp) rfl
 have hba:=Zab w (.cells #[] 9)
 clear Ha Hb hsz
 go_enter Tryz.func100,Tryz.ntmps100
 go_wp2
 go_loopw [5,6] (λ o i wr=>∃ (k:Nat),k<=a.length/\i=.int .i64 k/\Hid (wr.ownsRow w.heap.size 9 1 o (both (a.take k) b).length ((both (a.take k) b).map Value.string))/\Below w.heap.size w wr) (λ _ i _=>a.length-(intOf i).toNat)
 case atStart=>exact⟨0,by omega,rfl,hlit,hba⟩
 case round =>
  clear hlit hba
  obtain⟨k,hk,rfl,HO,hb⟩:=hrel
  by_cases hlt:k<a.length
  ·obtain⟨b1,off1,rfl,hb1,-,he1⟩:=hcell (by omega)
   have c10:wr.cell? ⟨b1,off1+k,none⟩=some _:=(hb.cell (p:=⟨b1,off1+k,none⟩) hb1).trans (he1 k hlt)
   have HC:=Qh (Zid vb b a[k] fpb wr ((Zaa sStr).below HB.out hb))
   clear he1 hcell
   cases g:hasN b a[k]
   ·have HN:=Qh (Zmg hlt g)
    rw [g] at HC
    clear g
    go_wp2_with (go_at_call 97;refine HC.out.mono ?_;rintro e w2 ⟨rfl,hb2⟩)
    go_roundw
    case rel=>exact⟨k+1,by omega,by go_num,by show World.ownsRow _ _ _ _ _ _ _;rw [HN.out];exact Zba HO.out λ g hg=>hb2.block g (HO.out.lt g hg).2,hb.trans (hb2.mono hb.size)⟩
    case measure=>simp [intOf];omega
   ·have HN:=Qh (ZkX hlt g)
    rw [g] at HC
    clear g
    have hlen:(both (a.take k) b).length<=k:=Nat.le_trans (Zft _ _) (by simp;omega)
    go_wp2_with fail
    refine HC.out.mono ?_
    rintro e w2 ⟨rfl,hb2⟩
    have hbw:=hb.trans (hb2.mono hb.size)
    have c11:w2.cell? ⟨b1,off1+k,none⟩=some _:=(hb2.cell (p:=⟨b1,off1+k,none⟩) (Nat.lt_of_lt_of_le hb1 hb.size)).trans c10
    have HO2:=Qh (Zba (w':=w2) HO.out λ g hg=>hb2.block g (HO.out.lt g hg).2)
    clear HO hb2 c10 HC
    go_wp2_with (at_builtin;refine Zbq ti27 rfl _ (.string a[k]) rfl rfl (.tmp 20) (.tmp 25) rfl w.heap.size _ (both (a.take k) b).length ((both (a.take k) b).map Value.string) rfl HO2.out rfl (by unfold maxLen;omega) (by omega) hbw.size ?_;intro v3 w3 hE3 hg3)
    have hb3:Below w.heap.size w w3:=hbw.grown hg3 hbw.size (λ b hb=>(HO2.out.lt b hb).1)
    have HO3:Hid (w3.ownsRow w.heap.size 9 1 v3 (both (a.take (k+1)) b).length ((both (a.take (k+1)) b).map Value.string)):=by
     show World.ownsRow _ _ _ _ _ _ _
     rw [HN.out];simpa using hE3
    clear hE3 hg3 c11 hlen HO2
    go_roundw
    case rel=>exact⟨k+1,by omega,by go_num,HO3,hb3⟩
    case measure=>simp [intOf];omega
  ·have hO:=HO.out
   rw [ZkY (by omega)] at hO
   obtain⟨fpr,hR,hOw,-⟩:=Za6 (ok:=okStr) hO HSZ.out
   have HR:=Qh (And.intro hR hOw)
   clear hO hR hOw HO
   go_wp2
   go_ret
   exact⟨_,fpr,rfl,HR.out.1,HR.out.2,hb⟩
theorem Zev (va vb:Value) (a b:List ByteArray) (fpa fpb:List Nat) (w:World) (ha:a.length<=1000000) (hbl:b.length<=1000000) (hu:Up b) (Ha:(Zaa sStr).R w [va] a fpa) (Hb:(Zaa sStr).R w [vb] b fpb) :
  Calls Tryz.prog 127 #[va,vb] w (Made (Zaa sStr) (both a b) w):=by
 obtain⟨aa,ca,rfl,hca,hma,hcell,hsz⟩:=Zaf Ha
 unfold maxLen at hma
 have HSZ:=Qh (Zmj (b:=b) hsz)
 have HB:=Qh Hb
 have HU:=Qh hu
 have hlit:Hid (w.ownsRow w.heap.size 9 1 (.slice none 0 0) (both (a.take 0) b).length ((both (a.take 0) b).map Value.string)):=⟨rfl,.inl ⟨rfl,rfl⟩⟩
 clear Ha Hb hsz hu
 go_enter Tryz.func127,Tryz.ntmps127
 go_wp2
 go_loopw [5,12] (λ o i wr=>∃ (k:Nat),k<=a.length/\i=.int .i64 k/\Hid (wr.ownsRow w.heap.size 9 1 o (both (a.take k) b).length ((both (a.take k) b).map Value.string))/\Below w.heap.size w wr) (λ _ i _=>a.length-(intOf i).toNat)
 case atStart=>exact⟨0,by omega,rfl,hlit,Below.refl _ _⟩
 case round =>
  clear hlit
  obtain⟨k,hk,rfl,HO,hb⟩:=hrel
  by_cases hlt:k<a.length
  ·obtain⟨b1,off1,rfl,hb1,-,he1⟩:=hcell (by omega)
   have c10:wr.cell? ⟨b1,off1+k,none⟩=some _:=(hb.cell (p:=⟨b1,off1+k,none⟩) hb1).trans (he1 k hlt)
   have HC:=Qh (ZeT vb b a[k] fpb wr HU.out hbl ((Zaa sStr).below HB.out hb))
   have HI:=Qh (isS_has HU.out a[k])
   clear he1 hcell
   generalize lowS b a[k]=lo at HC
   cases g:hasN b a[k]
   ·have HN:=Qh (Zmg hlt g)
    rw [HI.out,g] at HC
    clear g HI
    go_wp2_with (go_at_call 134;refine HC.out.mono ?_;rintro e w2 ⟨rfl,rfl⟩)
    go_roundw
    case rel=>exact⟨k+1,by omega,by go_num,by show World.ownsRow _ _ _ _ _ _ _;rw [HN.out];exact HO.out,hb⟩
    case measure=>simp [intOf];omega
   ·have HN:=Qh (ZkX hlt g)
    rw [HI.out,g] at HC
    clear g HI
    have hlen:(both (a.take k) b).length<=k:=Nat.le_trans (Zft _ _) (by simp;omega)
    go_wp2_with (first
     | (go_at_call 134;refine HC.out.mono ?_;rintro e w2 ⟨rfl,rfl⟩)
     | (
      at_builtin;refine Zbq ti27 rfl _ (.string a[k]) rfl rfl (.tmp 23) (.tmp 25) rfl w.heap.size _ (both (a.take k) b).length ((both (a.take k) b).map Value.string) rfl HO.out rfl (by unfold maxLen;omega) (by omega) hb.size ?_;intro v3 w3 hE3 hg3
      have hb3:Below w.heap.size w w3:=hb.grown hg3 hb.size (λ b hb=>(HO.out.lt b hb).1)
      have HO3:Hid (w3.ownsRow w.heap.size 9 1 v3 (both (a.take (k+1)) b).length ((both (a.take (k+1)) b).map Value.string)):=by
       show World.ownsRow _ _ _ _ _ _ _
       rw [HN.out];simpa using hE3
      clear hE3 hg3 c10 hlen HO))
    go_roundw
    case rel=>exact⟨k+1,by omega,by go_num,HO3,hb3⟩
    case measure=>simp [intOf];omega
  ·have hO:=HO.out
   rw [ZkY (by omega)] at hO
   obtain⟨fpr,hR,hOw,-⟩:=Za6 (ok:=okStr) hO HSZ.out
   have HR:=Qh (And.intro hR hOw)
   clear hO hR hOw HO
   go_wp2
   go_ret
   exact⟨_,fpr,rfl,HR.out.1,HR.out.2,hb⟩
def Zd6 (a b:Tok) (w:World) (e:Ending) (w':World):Prop:=
 ∃ (cs:List Value) (fp:List Nat),e=.returned (.tuple #[.agg cs.toArray,.bool (Zas a b).2])/\sTok.R w' cs (Zas a b).1 fp/\Own w' w.heap.size fp/\Below w.heap.size w w'
theorem ZcC {a b:Tok} {w w':World} (h:Zas a b=(zTok,false)) (hb:Below w.heap.size w w'):Zd6 a b w (.returned (.tuple #[.agg #[.int .i64 0,.string ⟨#[]⟩,.bool false,.slice none 0 0],.bool false])) w':=
 ⟨[.int .i64 0,.string ⟨#[]⟩,.bool false,.slice none 0 0],[],by rw [h],by rw [h];exact⟨_,rfl,by unfold okInt zTok;simp,by show (0:Nat)<=_;simp [maxLen],Zan sStr _ _ _ (by simp)⟩,Own.nil _ _,hb⟩
theorem Zg0 {a b t:Tok} {hv:Value} {fp:List Nat} {w w':World} (h:Zas a b=(⟨t.kind,t.text,a.spaced,both a.hidden b.hidden⟩,true)) (hk:okInt t.kind) (hs:okStr t.text) (HR:(Zaa sStr).R w' [hv] (both a.hidden b.hidden) fp) (HO:Own w' w.heap.size fp) (hb:Below w.heap.size w w') :
  Zd6 a b w (.returned (.tuple #[.agg #[.int .i64 t.kind,.string t.text,.bool a.spaced,hv],.bool true])) w':=
 ⟨[.int .i64 t.kind,.string t.text,.bool a.spaced,hv],fp,by rw [h],by rw [h];exact⟨_,rfl,hk,hs,HR⟩,HO,hb⟩
theorem ZcV {w:World} {k:Int} {s:ByteArray} {p:Bool} {h:Value} {x:Tok} {fp:List Nat} (H:sTok.R w [.int .i64 k,.string s,.bool p,h] x fp):(Zaa sStr).R w [h] x.hidden fp:=by
 obtain⟨h',e,-,-,K⟩:=H
 simp only [List.cons.injEq,and_true] at e
 rw [e.2.2.2];exact K
theorem ZbS {t:Tok} (h:tokOk t=true):hidOk t.hidden=true:=by unfold tokOk at h;exact(Bool.and_eq_true_iff.1 h).2
theorem ZjK {w:World} {v:Value} {t:Tok} {fp:List Nat} (h:(Zaa sTok).R w [v] [t] fp) :
  ∃ (b off cap:Nat) (ah:Option Addr) (ch:Nat),v=.slice (some ⟨b,off,none⟩) 1 cap/\1<=cap/\cap<=maxLen/\b<w.heap.size/\b∈fp/\w.cell? ⟨b,off,none⟩=some (.int .i64 t.kind)/\w.cell? ⟨b,off+1,none⟩=some (.string t.text)/\w.cell? ⟨b,off+2,none⟩=some (.bool t.spaced)/\w.cell? ⟨b,off+3,none⟩=some (.slice ah t.hidden.length ch)/\okInt t.kind/\okStr t.text:=by
 obtain⟨a,cap,rfl,hc,hm,hrow⟩:=Zac h
 obtain⟨b,off,fps,rfl,hb,hfp,he⟩:=hrow (by simp)
 obtain⟨es,hE,hR⟩:=he 0 (by simp)
 obtain⟨hv,rfl,hk,hs,K⟩:=hR
 obtain⟨ah,ch,rfl,-⟩:=Zaf K
 have c0:w.cell? ⟨b,off+0 * 4,none⟩=some _:=Zao hE (by decide) rfl
 have c1:w.cell? ⟨b,off+0 * 4+1,none⟩=some _:=Zae (j:=1) hE (by decide) rfl
 have c2:w.cell? ⟨b,off+0 * 4+2,none⟩=some _:=Zae (j:=2) hE (by decide) rfl
 have c3:w.cell? ⟨b,off+0 * 4+3,none⟩=some _:=Zae (j:=3) hE (by decide) rfl
 simp only [Nat.zero_mul,Nat.add_zero] at c0 c1 c2 c3
 exact⟨b,off,cap,ah,ch,rfl,by simpa using hc,hm,hb,by rw [hfp];simp,c0,c1,c2,c3,hk,hs⟩
theorem Y14A1 {g:Prop} (h:g:=by
 have z0:=Qc 0 HZ.out
 have zz0:=Qf 0 HZ.out
 have z1:=Qc 1 HZ.out
 have zz1:=Qf 1 HZ.out
 have z2:=Qc 2 HZ.out
 have zz2:=Qf 2 HZ.out
 have z3:=Qc 3 HZ.out
 have zz3:=Qf 3 HZ.out
 have HS:=Qh (ZaH HZ.out (.int .i64 0) (.string ⟨#[]⟩) (.bool false) (.slice none 0 0))
 have HBF:=Qh (Zay hB8 (g:=w.heap.size+1+1) (by omega) (.int .i64 0) (.string ⟨#[]⟩) (.bool false) (.slice none 0 0))
 unfold set4 at HS HBF
 go_wp2
 refine bodyPost_ret (Zap rfl _ _ (w.heap.size+1+1) _ _ _ _ rfl HS.out Tryz.underlying57 rfl (by kernel_rfl)) rfl ?_
 exact ZcC HF.out HBF.out):g:=h
theorem Zhp (ca cb:List Value) (a b:Tok) (fpa fpb:List Nat) (w:World) (hla:a.hidden.length<=2000000) (hlb:b.hidden.length<=2000000) (HA0:sTok.R w ca a fpa) (HB0:sTok.R w cb b fpb) :
  Calls Tryz.prog 119 #[.agg ca.toArray,.agg cb.toArray] w (Zd6 a b w):=by
 have HA0':=HA0
 have HB0':=HB0
 obtain⟨ha,rfl,-,-,-⟩:=HA0'
 obtain⟨hb,rfl,-,-,-⟩:=HB0'
 have hb3:=ZhF w #[.int .i64 a.kind,.string a.text,.bool a.spaced,ha] #[.int .i64 b.kind,.string b.text,.bool b.spaced,hb] #[.int .i64 0,.string ⟨#[]⟩,.bool false,.slice none 0 0] 57 57 57
 have HA:=Qh (ZdI w #[.int .i64 a.kind,.string a.text,.bool a.spaced,ha] #[.int .i64 b.kind,.string b.text,.bool b.spaced,hb] #[.int .i64 0,.string ⟨#[]⟩,.bool false,.slice none 0 0] 57 57 57)
 obtain⟨g1,g2,hs3⟩:=ZdX w #[.int .i64 a.kind,.string a.text,.bool a.spaced,ha] #[.int .i64 b.kind,.string b.text,.bool b.spaced,hb] #[.int .i64 0,.string ⟨#[]⟩,.bool false,.slice none 0 0] 57 57 57
 have HB:=Qh g1
 have HZ:=Qh g2
 have HRA:=Qh (sTok.below HA0 hb3)
 have HRB:=Qh (sTok.below HB0 hb3)
 have HNB:Hid (w.heap.size∉fpb/\w.heap.size+1∉fpb):=⟨λ hx=>by have:=sTok.lt HB0 _ hx;omega,λ hx=>by have:=sTok.lt HB0 _ hx;omega⟩
 have hB3:=hb3
 clear HA0 HB0 g1 g2 hb3
 go_enter Tryz.func119,Tryz.ntmps119
 go_upto_region 1 with fail
 generalize (((w.alloc (.cells #[.int .i64 a.kind,.string a.text,.bool a.spaced,ha] 57)).alloc (.cells #[.int .i64 b.kind,.string b.text,.bool b.spaced,hb] 57)).alloc (.cells #[.int .i64 0,.string ⟨#[]⟩,.bool false,.slice none 0 0] 57))=W3 at *
 have HCa:=Qh (Zc4 _ _ _ W3 hla HRA.out)
 obtain⟨c0,c1,c2,c3⟩:=Q4 HA.out
 go_wp2_with fail
 refine HCa.out.mono ?_
 rintro e w4 ⟨aoa,coa,foa,rfl,Ra,loa,tya,b4⟩
 clear c0 c1 c2 c3 HCa
 replace HA:=Qh (mbox HA.out b4)
 replace HB:=Qh (mbox HB.out b4)
 replace HZ:=Qh (mbox HZ.out b4)
 have c0:=Qc 0 HA.out
 have cz0:=Qf 0 HA.out
 have c1:=Qc 1 HA.out
 have cz1:=Qf 1 HA.out
 have c2:=Qc 2 HA.out
 have cz2:=Qf 2 HA.out
 have c3:=Qc 3 HA.out
 have cz3:=Qf 3 HA.out
 have hsz4:w.heap.size+3<=w4.heap.size:=by have:=b4.size;omega
 have hB4:=Zay (hB3.trans (b4.mono hB3.size)) (g:=w.heap.size) (by omega) (.int .i64 a.kind) (.string a.text) (.bool a.spaced) (.slice aoa a.hidden.length coa)
 replace HRA:=Qh (sTok.set4R Ra (g:=w.heap.size) (λ hx=>by have:=loa _ hx;omega) (.int .i64 a.kind) (.string a.text) (.bool a.spaced) (.slice aoa a.hidden.length coa))
 replace HRB:=Qh (sTok.set4R (sTok.below HRB.out b4) (g:=w.heap.size) (HNB.out.1) (.int .i64 a.kind) (.string a.text) (.bool a.spaced) (.slice aoa a.hidden.length coa))
 replace HA:=Qh (ZaH HA.out (.int .i64 a.kind) (.string a.text) (.bool a.spaced) (.slice aoa a.hidden.length coa))
 replace HB:=Qh ((Zdu (g:=w.heap.size) (by omega) (.int .i64 a.kind) (.string a.text) (.bool a.spaced) (.slice aoa a.hidden.length coa)).trans HB.out)
 replace HZ:=Qh ((Zdu (g:=w.heap.size) (by omega) (.int .i64 a.kind) (.string a.text) (.bool a.spaced) (.slice aoa a.hidden.length coa)).trans HZ.out)
 have hs4:w.heap.size+3<=(set4 w4 (w.heap.size) (.int .i64 a.kind) (.string a.text) (.bool a.spaced) (.slice aoa a.hidden.length coa)).heap.size:=by rw [ZbQ];omega
 have HNA:Hid (w.heap.size+1∉foa):=λ hx=>by have:=loa _ hx;omega
 unfold set4 at hB4 HRA HRB HA HB HZ hs4
 go_upto_region 2 with fail
 clear c0 c1 c2 c3 cz0 cz1 cz2 cz3 Ra loa tya b4 hsz4
 generalize ((((w4.setCell ⟨w.heap.size,0,none⟩ (.int .i64 a.kind)).setCell ⟨w.heap.size,1,none⟩ (.string a.text)).setCell ⟨w.heap.size,2,none⟩ (.bool a.spaced)).setCell ⟨w.heap.size,3,none⟩ (.slice aoa a.hidden.length coa))=W4 at *
 have HCb:=Qh (Zc4 _ _ _ W4 hlb HRB.out)
 obtain⟨c0,c1,c2,c3⟩:=Q4 HB.out
 go_wp2_with fail
 refine HCb.out.mono ?_
 rintro e w5 ⟨aob,cob,fob,rfl,Rb,lob,tyb,b5⟩
 clear c0 c1 c2 c3 HCb
 replace HA:=Qh (mbox HA.out b5)
 replace HB:=Qh (mbox HB.out b5)
 replace HZ:=Qh (mbox HZ.out b5)
 have c0:=Qc 0 HB.out
 have cz0:=Qf 0 HB.out
 have c1:=Qc 1 HB.out
 have cz1:=Qf 1 HB.out
 have c2:=Qc 2 HB.out
 have cz2:=Qf 2 HB.out
 have c3:=Qc 3 HB.out
 have cz3:=Qf 3 HB.out
 have hsz5:w.heap.size+3<=w5.heap.size:=by have:=b5.size;omega
 have hB5:=Zay (hB4.trans (b5.mono hB4.size)) (g:=w.heap.size+1) (by omega) (.int .i64 b.kind) (.string b.text) (.bool b.spaced) (.slice aob b.hidden.length cob)
 replace HRB:=Qh (sTok.set4R Rb (g:=w.heap.size+1) (λ hx=>by have:=lob _ hx;omega) (.int .i64 b.kind) (.string b.text) (.bool b.spaced) (.slice aob b.hidden.length cob))
 replace HRA:=Qh (sTok.set4R (sTok.below HRA.out b5) (g:=w.heap.size+1) (HNA.out) (.int .i64 b.kind) (.string b.text) (.bool b.spaced) (.slice aob b.hidden.length cob))
 replace HA:=Qh ((Zdu (g:=w.heap.size+1) (by omega) (.int .i64 b.kind) (.string b.text) (.bool b.spaced) (.slice aob b.hidden.length cob)).trans HA.out)
 replace HB:=Qh (ZaH HB.out (.int .i64 b.kind) (.string b.text) (.bool b.spaced) (.slice aob b.hidden.length cob))
 replace HZ:=Qh ((Zdu (g:=w.heap.size+1) (by omega) (.int .i64 b.kind) (.string b.text) (.bool b.spaced) (.slice aob b.hidden.length cob)).trans HZ.out)
 have hs5:w.heap.size+3<=(set4 w5 (w.heap.size+1) (.int .i64 b.kind) (.string b.text) (.bool b.spaced) (.slice aob b.hidden.length cob)).heap.size:=by rw [ZbQ];omega
 unfold set4 at hB5 HRA HRB HA HB HZ hs5
 go_upto_region 3 with fail
 clear c0 c1 c2 c3 cz0 cz1 cz2 cz3 Rb lob tyb b5 hsz5
 generalize ((((w5.setCell ⟨w.heap.size+1,0,none⟩ (.int .i64 b.kind)).setCell ⟨w.heap.size+1,1,none⟩ (.string b.text)).setCell ⟨w.heap.size+1,2,none⟩ (.bool b.spaced)).setCell ⟨w.heap.size+1,3,none⟩ (.slice aob b.hidden.length cob))=W5 at *
 have HVA:=Qh (ZbL _ _ _ W5 HRA.out)
 obtain⟨c0,c1,c2,c3⟩:=Q4 HA.out
 cases hva:tokOk a
 ·rw [hva] at HVA
  have HF:=Qh (ZjB (b:=b) hva)
  clear hva
  go_wp2_with fail
  refine HVA.out.mono ?_
  rintro e w6 ⟨rfl,b6⟩
  replace HZ:=Qh (mbox HZ.out b6)
  have hB6:=hB5.trans (b6.mono hB5.size)
  have z0:=Qc 0 HZ.out
  have zz0:=Qf 0 HZ.out
  have z1:=Qc 1 HZ.out
  have zz1:=Qf 1 HZ.out
  have z2:=Qc 2 HZ.out
  have zz2:=Qf 2 HZ.out
  have z3:=Qc 3 HZ.out
  have zz3:=Qf 3 HZ.out
  have HS:=Qh (ZaH HZ.out (.int .i64 0) (.string ⟨#[]⟩) (.bool false) (.slice none 0 0))
  have HBF:=Qh (Zay hB6 (g:=w.heap.size+1+1) (by omega) (.int .i64 0) (.string ⟨#[]⟩) (.bool false) (.slice none 0 0))
  unfold set4 at HS HBF
  go_wp2
  refine bodyPost_ret (Zap rfl _ _ (w.heap.size+1+1) _ _ _ _ rfl HS.out Tryz.underlying57 rfl (by kernel_rfl)) rfl ?_
  exact ZcC HF.out HBF.out
 rw [hva] at HVA
 go_wp2_with fail
 refine HVA.out.mono ?_
 rintro e w6 ⟨rfl,b6⟩
 clear c0 c1 c2 c3 HVA
 replace HA:=Qh (mbox HA.out b6)
 replace HB:=Qh (mbox HB.out b6)
 replace HZ:=Qh (mbox HZ.out b6)
 replace HRA:=Qh (sTok.below HRA.out b6)
 replace HRB:=Qh (sTok.below HRB.out b6)
 have hB6:=hB5.trans (b6.mono hB5.size)
 clear b6
 have HVB:=Qh (ZbL _ _ _ w6 HRB.out)
 obtain⟨c0,c1,c2,c3⟩:=Q4 HB.out
 cases hvb:tokOk b
 ·rw [hvb] at HVB
  have HF:=Qh (ZjC (a:=a) hvb)
  clear hva hvb
  go_wp2_with fail
  refine HVB.out.mono ?_
  rintro e w7 ⟨rfl,b7⟩
  replace HZ:=Qh (mbox HZ.out b7)
  have hB7:=hB6.trans (b7.mono hB6.size)
  have z0:=Qc 0 HZ.out
  have zz0:=Qf 0 HZ.out
  have z1:=Qc 1 HZ.out
  have zz1:=Qf 1 HZ.out
  have z2:=Qc 2 HZ.out
  have zz2:=Qf 2 HZ.out
  have z3:=Qc 3 HZ.out
  have zz3:=Qf 3 HZ.out
  have HS:=Qh (ZaH HZ.out (.int .i64 0) (.string ⟨#[]⟩) (.bool false) (.slice none 0 0))
  have HBF:=Qh (Zay hB7 (g:=w.heap.size+1+1) (by omega) (.int .i64 0) (.string ⟨#[]⟩) (.bool false) (.slice none 0 0))
  unfold set4 at HS HBF
  go_wp2
  refine bodyPost_ret (Zap rfl _ _ (w.heap.size+1+1) _ _ _ _ rfl HS.out Tryz.underlying57 rfl (by kernel_rfl)) rfl ?_
  exact ZcC HF.out HBF.out
 rw [hvb] at HVB
 go_wp2_with fail
 refine HVB.out.mono ?_
 rintro e w7 ⟨rfl,b7⟩
 clear c0 c1 c2 c3 HVB
 replace HA:=Qh (mbox HA.out b7)
 replace HB:=Qh (mbox HB.out b7)
 replace HZ:=Qh (mbox HZ.out b7)
 replace HRA:=Qh (sTok.below HRA.out b7)
 replace HRB:=Qh (sTok.below HRB.out b7)
 have hB7:=hB6.trans (b7.mono hB6.size)
 clear b7
 have hzt:=mlt HZ.out
 have hsa:=(Zaz hva).2
 have hsb:=(Zaz hvb).2
 have HT:=Qh (λ W=>Zbe (a.text++b.text) W (by rw [ByteArray.size_append];unfold maxLen;omega))
 have ad:=λ W=>run_string_add_sum (P:=Tryz.prog) W a.text b.text (by omega)
 obtain⟨l,ok,htr⟩:∃ l ok,Zai (a.text++b.text)=(l,ok):=⟨_,_,rfl⟩
 have HTR:=Qh htr
 rw [htr] at HT
 clear htr
 have HVV:=Qh (And.intro hva hvb)
 clear hva hvb
 obtain⟨c0,c1,c2,c3⟩:=Q4 HA.out
 obtain⟨d0,d1,d2,d3⟩:=Q4 HB.out
 go_wp2_with fail
 refine (HT.out _).mono ?_
 rintro e w8 ⟨vt,fpt,rfl,RT,OT,b8⟩
 clear c0 c1 c2 c3 d0 d1 d2 d3 HT ad
 replace HA:=Qh (mbox HA.out b8)
 replace HB:=Qh (mbox HB.out b8)
 replace HZ:=Qh (mbox HZ.out b8)
 replace HRA:=Qh (sTok.below HRA.out b8)
 replace HRB:=Qh (sTok.below HRB.out b8)
 have hB8:=hB7.trans (b8.mono hB7.size)
 clear b8
 cases ok
 ·have HF:=Qh (ZjD HTR.out)
  clear HTR RT OT
  exact Y14A1
 by_cases hl1:l.length=1
 rotate_left
 ·have HF:=Qh (ZjE HTR.out hl1)
  obtain⟨at_,ct_,rfl,-⟩:=Zac RT
  have hl2:((l.length:Int) != 1)=true:=by simp;omega
  clear HTR RT hl1 OT
  exact Y14A1
 obtain⟨t,rfl⟩:∃ t,l=[t]:=List.length_eq_one_iff.1 hl1
 clear hl1
 have HF:=Qh (ZjF HVV.out.1 HVV.out.2 HTR.out)
 obtain⟨bt,ot,ct,ath,cth,rfl,hc1,hcm,hbt,hmem,t0,t1,t2,t3,okk,oks⟩:=ZjK RT
 have hbt2:=(OT.2 bt hmem).1
 unfold maxLen at hcm
 clear RT HTR OT hmem
 have hla2:a.hidden.length<=1000000:=by have:=(ZdS (ZbS HVV.out.1)).1;omega
 have HL:=Qh (λ U (hU:Below w8.heap.size w8 U)=>ZgZ _ _ a.hidden b.hidden _ _ U hla2 (ZcV (sTok.below HRA.out hU)) (ZcV (sTok.below HRB.out hU)))
 obtain⟨c0,c1,c2,c3⟩:=Q4 HA.out
 obtain⟨d0,d1,d2,d3⟩:=Q4 HB.out
 have hz9:w.heap.size+3<=w8.heap.size:=by have:=hB8.size;have:=mlt HZ.out;omega
 have hcs:Below w8.heap.size w8 w8.drew:=Zag (Below.refl _ _) 1
 replace c2:w8.drew.cell? ⟨w.heap.size,2,none⟩=some (.bool a.spaced):=c2
 replace c3:w8.drew.cell? ⟨w.heap.size,3,none⟩=some (.slice aoa a.hidden.length coa):=c3
 replace d3:w8.drew.cell? ⟨w.heap.size+1,3,none⟩=some (.slice aob b.hidden.length cob):=d3
 replace t0:w8.drew.cell? ⟨bt,ot,none⟩=some (.int .i64 t.kind):=t0
 replace t1:w8.drew.cell? ⟨bt,ot+1,none⟩=some (.string t.text):=t1
 have HK1:∀ U:World,Below w8.drew.heap.size w8.drew U->U.cell? ⟨w.heap.size,2,none⟩=some (.bool a.spaced)/\U.cell? ⟨w.heap.size,3,none⟩=some (.slice aoa a.hidden.length coa)/\U.cell? ⟨w.heap.size+1,3,none⟩=some (.slice aob b.hidden.length cob)/\U.cell? ⟨bt,ot,none⟩=some (.int .i64 t.kind)/\U.cell? ⟨bt,ot+1,none⟩=some (.string t.text):=λ U hU=>⟨(hU.cell (by show _<w8.heap.size;simp only;omega)).trans c2,(hU.cell (by show _<w8.heap.size;simp only;omega)).trans c3,(hU.cell (by show _<w8.heap.size;simp only;omega)).trans d3,(hU.cell (by show _<w8.heap.size;simp only;omega)).trans t0,(hU.cell (by show _<w8.heap.size;simp only;omega)).trans t1⟩
 have HK2:∀ U:World,Below w8.drew.heap.size w8.drew U->∀ v0 v1 v2 v3:Value,((((U.setCell ⟨w.heap.size+1+1,0,none⟩ v0).setCell ⟨w.heap.size+1+1,1,none⟩ v1).setCell ⟨w.heap.size+1+1,2,none⟩ v2).setCell ⟨w.heap.size+1+1,3,none⟩ v3).cell? ⟨w.heap.size,2,none⟩=some (.bool a.spaced)/\((((U.setCell ⟨w.heap.size+1+1,0,none⟩ v0).setCell ⟨w.heap.size+1+1,1,none⟩ v1).setCell ⟨w.heap.size+1+1,2,none⟩ v2).setCell ⟨w.heap.size+1+1,3,none⟩ v3).cell? ⟨w.heap.size,3,none⟩=some (.slice aoa a.hidden.length coa)/\((((U.setCell ⟨w.heap.size+1+1,0,none⟩ v0).setCell ⟨w.heap.size+1+1,1,none⟩ v1).setCell ⟨w.heap.size+1+1,2,none⟩ v2).setCell ⟨w.heap.size+1+1,3,none⟩ v3).cell? ⟨w.heap.size+1,3,none⟩=some (.slice aob b.hidden.length cob)/\((((U.setCell ⟨w.heap.size+1+1,0,none⟩ v0).setCell ⟨w.heap.size+1+1,1,none⟩ v1).setCell ⟨w.heap.size+1+1,2,none⟩ v2).setCell ⟨w.heap.size+1+1,3,none⟩ v3).cell? ⟨bt,ot,none⟩=some (.int .i64 t.kind)/\((((U.setCell ⟨w.heap.size+1+1,0,none⟩ v0).setCell ⟨w.heap.size+1+1,1,none⟩ v1).setCell ⟨w.heap.size+1+1,2,none⟩ v2).setCell ⟨w.heap.size+1+1,3,none⟩ v3).cell? ⟨bt,ot+1,none⟩=some (.string t.text):=λ U hU v0 v1 v2 v3=>by
  obtain⟨k1,k2,k3,k4,k5⟩:=HK1 U hU
  exact⟨(Zc6 (by omega) _ _ _ _ _).trans k1,(Zc6 (by omega) _ _ _ _ _).trans k2,(Zc6 (by omega) _ _ _ _ _).trans k3,(Zc6 (by omega) _ _ _ _ _).trans k4,(Zc6 (by omega) _ _ _ _ _).trans k5⟩
 have HZD:Hid (w8.drew.heap[w.heap.size+1+1]?=_):=HZ
 clear c0 c1 d0 d1 d2
 go_wp2_with fail
 go_region_held3 (λ w'=>w'.cell? ⟨w.heap.size,2,none⟩=some (.bool a.spaced)/\w'.cell? ⟨w.heap.size,3,none⟩=some (.slice aoa a.hidden.length coa)/\w'.cell? ⟨w.heap.size+1,3,none⟩=some (.slice aob b.hidden.length cob)/\w'.cell? ⟨bt,ot,none⟩=some (.int .i64 t.kind)/\w'.cell? ⟨bt,ot+1,none⟩=some (.string t.text))
  (first | (with_reducible exact⟨c2,c3,d3,t0,t1⟩) | (with_reducible exact HK1 _ b9) | (with_reducible exact HK2 _ b9 _ _ _ _))
  (first | (go_at_call 100;(with_reducible refine (HL.out _ hcs).mono ?_);rintro e w9 ⟨vv,fv,rfl,RV,OV,b9⟩;obtain⟨av,cv,rfl,-⟩:=Zaf RV;have HZN:=mbox HZD.out b9;have z0:=Qc 0 HZN;have zz0:=Qf 0 HZN;have z1:=Qc 1 HZN;have zz1:=Qf 1 HZN;have z2:=Qc 2 HZN;have zz2:=Qf 2 HZN;have z3:=Qc 3 HZN;have zz3:=Qf 3 HZN))
 have HS:=Qh (ZaH (mbox HZD.out b9) (.int .i64 t.kind) (.string t.text) (.bool a.spaced) (.slice av (both a.hidden b.hidden).length cv))
 have hbk:=hB8.trans ((hcs.trans (b9.mono (Nat.le_refl _))).mono hB8.size)
 have HBF:=Qh (Zay hbk (g:=w.heap.size+1+1) (by omega) (.int .i64 t.kind) (.string t.text) (.bool a.spaced) (.slice av (both a.hidden b.hidden).length cv))
 have hfv:w.heap.size+1+1∉fv:=λ hx=>by have h1:=(OV.2 _ hx).1;have h2:w8.heap.size<=w.heap.size+1+1:=h1;omega
 have HRF:=Qh ((Zaa sStr).set4R RV hfv (.int .i64 t.kind) (.string t.text) (.bool a.spaced) (.slice av (both a.hidden b.hidden).length cv))
 have HOF:=Qh (Own.set4 (g:=w.heap.size+1+1) (OV.lower (show w.heap.size<=w8.heap.size by omega)) (.int .i64 t.kind) (.string t.text) (.bool a.spaced) (.slice av (both a.hidden b.hidden).length cv))
 unfold set4 at HS HBF HRF HOF
 go_wp2
 refine bodyPost_ret (Zap rfl _ _ (w.heap.size+1+1) _ _ _ _ rfl HS.out Tryz.underlying57 rfl (by kernel_rfl)) rfl ?_
 exact Zg0 HF.out okk oks HRF.out HOF.out HBF.out
theorem Y14A2 {g:Prop} (h:g:=by
 have z0:=Qc 0 HZ.out
 have zz0:=Qf 0 HZ.out
 have z1:=Qc 1 HZ.out
 have zz1:=Qf 1 HZ.out
 have z2:=Qc 2 HZ.out
 have zz2:=Qf 2 HZ.out
 have z3:=Qc 3 HZ.out
 have zz3:=Qf 3 HZ.out
 have HS:=Qh (ZaH HZ.out (.int .i64 0) (.string ⟨#[]⟩) (.bool false) (.slice none 0 0))
 have HBF:=Qh (Zay hB8 (g:=w.heap.size+1+1) (by omega) (.int .i64 0) (.string ⟨#[]⟩) (.bool false) (.slice none 0 0))
 unfold set4 at HS HBF
 go_wp2
 refine bodyPost_ret (Zap rfl _ _ (w.heap.size+1+1) _ _ _ _ rfl HS.out Tryz.underlying57 rfl (by kernel_rfl)) rfl ?_
 exact ZcC HF.out HBF.out):g:=h
theorem Zhq (ca cb:List Value) (a b:Tok) (fpa fpb:List Nat) (w:World) (hla:a.hidden.length<=2000000) (hlb:b.hidden.length<=2000000) (HA0:sTok.R w ca a fpa) (HB0:sTok.R w cb b fpb) :
  Calls Tryz.prog 150 #[.agg ca.toArray,.agg cb.toArray] w (Zd6 a b w):=by
 have HA0':=HA0
 have HB0':=HB0
 obtain⟨ha,rfl,-,-,-⟩:=HA0'
 obtain⟨hb,rfl,-,-,-⟩:=HB0'
 have hb3:=ZhF w #[.int .i64 a.kind,.string a.text,.bool a.spaced,ha] #[.int .i64 b.kind,.string b.text,.bool b.spaced,hb] #[.int .i64 0,.string ⟨#[]⟩,.bool false,.slice none 0 0] 57 57 57
 have HA:=Qh (ZdI w #[.int .i64 a.kind,.string a.text,.bool a.spaced,ha] #[.int .i64 b.kind,.string b.text,.bool b.spaced,hb] #[.int .i64 0,.string ⟨#[]⟩,.bool false,.slice none 0 0] 57 57 57)
 obtain⟨g1,g2,hs3⟩:=ZdX w #[.int .i64 a.kind,.string a.text,.bool a.spaced,ha] #[.int .i64 b.kind,.string b.text,.bool b.spaced,hb] #[.int .i64 0,.string ⟨#[]⟩,.bool false,.slice none 0 0] 57 57 57
 have HB:=Qh g1
 have HZ:=Qh g2
 have HRA:=Qh (sTok.below HA0 hb3)
 have HRB:=Qh (sTok.below HB0 hb3)
 have HNB:Hid (w.heap.size∉fpb/\w.heap.size+1∉fpb):=⟨λ hx=>by have:=sTok.lt HB0 _ hx;omega,λ hx=>by have:=sTok.lt HB0 _ hx;omega⟩
 have hB3:=hb3
 clear HA0 HB0 g1 g2 hb3
 go_enter Tryz.func150,Tryz.ntmps150
 go_upto_region 1 with fail
 generalize (((w.alloc (.cells #[.int .i64 a.kind,.string a.text,.bool a.spaced,ha] 57)).alloc (.cells #[.int .i64 b.kind,.string b.text,.bool b.spaced,hb] 57)).alloc (.cells #[.int .i64 0,.string ⟨#[]⟩,.bool false,.slice none 0 0] 57))=W3 at *
 have HVA:=Qh (Zc1 _ _ _ W3 HRA.out)
 obtain⟨c0,c1,c2,c3⟩:=Q4 HA.out
 cases hva:tokOk a
 ·rw [hva] at HVA
  have HF:=Qh (ZjB (b:=b) hva)
  clear hva
  go_wp2_with fail
  refine HVA.out.mono ?_
  rintro e w6 ⟨rfl,b6⟩
  replace HZ:=Qh (mbox HZ.out b6)
  have hB6:=hB3.trans (b6.mono hB3.size)
  have z0:=Qc 0 HZ.out
  have zz0:=Qf 0 HZ.out
  have z1:=Qc 1 HZ.out
  have zz1:=Qf 1 HZ.out
  have z2:=Qc 2 HZ.out
  have zz2:=Qf 2 HZ.out
  have z3:=Qc 3 HZ.out
  have zz3:=Qf 3 HZ.out
  have HS:=Qh (ZaH HZ.out (.int .i64 0) (.string ⟨#[]⟩) (.bool false) (.slice none 0 0))
  have HBF:=Qh (Zay hB6 (g:=w.heap.size+1+1) (by omega) (.int .i64 0) (.string ⟨#[]⟩) (.bool false) (.slice none 0 0))
  unfold set4 at HS HBF
  go_wp2
  refine bodyPost_ret (Zap rfl _ _ (w.heap.size+1+1) _ _ _ _ rfl HS.out Tryz.underlying57 rfl (by kernel_rfl)) rfl ?_
  exact ZcC HF.out HBF.out
 rw [hva] at HVA
 go_wp2_with fail
 refine HVA.out.mono ?_
 rintro e w6 ⟨rfl,b6⟩
 clear c0 c1 c2 c3 HVA
 replace HA:=Qh (mbox HA.out b6)
 replace HB:=Qh (mbox HB.out b6)
 replace HZ:=Qh (mbox HZ.out b6)
 replace HRA:=Qh (sTok.below HRA.out b6)
 replace HRB:=Qh (sTok.below HRB.out b6)
 have hB6:=hB3.trans (b6.mono hB3.size)
 clear b6
 have HVB:=Qh (Zc1 _ _ _ w6 HRB.out)
 obtain⟨c0,c1,c2,c3⟩:=Q4 HB.out
 cases hvb:tokOk b
 ·rw [hvb] at HVB
  have HF:=Qh (ZjC (a:=a) hvb)
  clear hva hvb
  go_wp2_with fail
  refine HVB.out.mono ?_
  rintro e w7 ⟨rfl,b7⟩
  replace HZ:=Qh (mbox HZ.out b7)
  have hB7:=hB6.trans (b7.mono hB6.size)
  have z0:=Qc 0 HZ.out
  have zz0:=Qf 0 HZ.out
  have z1:=Qc 1 HZ.out
  have zz1:=Qf 1 HZ.out
  have z2:=Qc 2 HZ.out
  have zz2:=Qf 2 HZ.out
  have z3:=Qc 3 HZ.out
  have zz3:=Qf 3 HZ.out
  have HS:=Qh (ZaH HZ.out (.int .i64 0) (.string ⟨#[]⟩) (.bool false) (.slice none 0 0))
  have HBF:=Qh (Zay hB7 (g:=w.heap.size+1+1) (by omega) (.int .i64 0) (.string ⟨#[]⟩) (.bool false) (.slice none 0 0))
  unfold set4 at HS HBF
  go_wp2
  refine bodyPost_ret (Zap rfl _ _ (w.heap.size+1+1) _ _ _ _ rfl HS.out Tryz.underlying57 rfl (by kernel_rfl)) rfl ?_
  exact ZcC HF.out HBF.out
 rw [hvb] at HVB
 go_wp2_with fail
 refine HVB.out.mono ?_
 rintro e w7 ⟨rfl,b7⟩
 clear c0 c1 c2 c3 HVB
 replace HA:=Qh (mbox HA.out b7)
 replace HB:=Qh (mbox HB.out b7)
 replace HZ:=Qh (mbox HZ.out b7)
 replace HRA:=Qh (sTok.below HRA.out b7)
 replace HRB:=Qh (sTok.below HRB.out b7)
 have hB7:=hB6.trans (b7.mono hB6.size)
 clear b7
 have hzt:=mlt HZ.out
 have hsa:=(Zaz hva).2
 have hsb:=(Zaz hvb).2
 have HT:=Qh (λ W=>Zbr (a.text++b.text) W (by rw [ByteArray.size_append];unfold maxLen;omega))
 have ad:=λ W=>run_string_add_sum (P:=Tryz.prog) W a.text b.text (by omega)
 obtain⟨l,ok,htr⟩:∃ l ok,Zai (a.text++b.text)=(l,ok):=⟨_,_,rfl⟩
 have HTR:=Qh htr
 rw [htr] at HT
 clear htr
 have HVV:=Qh (And.intro hva hvb)
 clear hva hvb
 obtain⟨c0,c1,c2,c3⟩:=Q4 HA.out
 obtain⟨d0,d1,d2,d3⟩:=Q4 HB.out
 go_wp2_with fail
 refine (HT.out _).mono ?_
 rintro e w8 ⟨vt,fpt,rfl,RT,OT,b8⟩
 clear c0 c1 c2 c3 d0 d1 d2 d3 HT ad
 replace HA:=Qh (mbox HA.out b8)
 replace HB:=Qh (mbox HB.out b8)
 replace HZ:=Qh (mbox HZ.out b8)
 replace HRA:=Qh (sTok.below HRA.out b8)
 replace HRB:=Qh (sTok.below HRB.out b8)
 have hB8:=hB7.trans (b8.mono hB7.size)
 clear b8
 cases ok
 ·have HF:=Qh (ZjD HTR.out)
  clear HTR RT OT
  exact Y14A2
 by_cases hl1:l.length=1
 rotate_left
 ·have HF:=Qh (ZjE HTR.out hl1)
  obtain⟨at_,ct_,rfl,-⟩:=Zac RT
  have hl2:((l.length:Int) != 1)=true:=by simp;omega
  clear HTR RT hl1 OT
  exact Y14A2
 obtain⟨t,rfl⟩:∃ t,l=[t]:=List.length_eq_one_iff.1 hl1
 clear hl1
 have HF:=Qh (ZjF HVV.out.1 HVV.out.2 HTR.out)
 obtain⟨bt,ot,ct,ath,cth,rfl,hc1,hcm,hbt,hmem,t0,t1,t2,t3,okk,oks⟩:=ZjK RT
 have hbt2:=(OT.2 bt hmem).1
 unfold maxLen at hcm
 clear RT HTR OT hmem
 have hpa:=ZcT (ZbS HVV.out.1)
 have hpb:=ZcT (ZbS HVV.out.2)
 have HL:=Qh (λ (U:World) (hU:Below w8.heap.size w8 U)=>Zev _ _ a.hidden b.hidden _ _ U (by omega) (by omega) hpb.2.2 (ZcV (sTok.below HRA.out hU)) (ZcV (sTok.below HRB.out hU)))
 clear hpa hpb
 obtain⟨c0,c1,c2,c3⟩:=Q4 HA.out
 obtain⟨d0,d1,d2,d3⟩:=Q4 HB.out
 have hzz:w.heap.size+1+1<w8.heap.size:=mlt HZ.out
 have hal0:=Zab w8 (.cells #[.int .i64 t.kind,.string t.text,.bool t.spaced,.slice ath t.hidden.length cth] 57)
 have c2_0:(w8.alloc (.cells #[.int .i64 t.kind,.string t.text,.bool t.spaced,.slice ath t.hidden.length cth] 57)).cell? ⟨w.heap.size,2,none⟩=some (.bool a.spaced):=(hal0.cell (by show _<w8.heap.size;simp only;omega)).trans c2
 have c3_0:(w8.alloc (.cells #[.int .i64 t.kind,.string t.text,.bool t.spaced,.slice ath t.hidden.length cth] 57)).cell? ⟨w.heap.size,3,none⟩=some (ha):=(hal0.cell (by show _<w8.heap.size;simp only;omega)).trans c3
 have d3_0:(w8.alloc (.cells #[.int .i64 t.kind,.string t.text,.bool t.spaced,.slice ath t.hidden.length cth] 57)).cell? ⟨w.heap.size+1,3,none⟩=some (hb):=(hal0.cell (by show _<w8.heap.size;simp only;omega)).trans d3
 have hal1:=Zab w8 (.cells #[.int .i64 t.kind,.string t.text,.bool a.spaced,.slice ath t.hidden.length cth] 57)
 have c2_1:(w8.alloc (.cells #[.int .i64 t.kind,.string t.text,.bool a.spaced,.slice ath t.hidden.length cth] 57)).cell? ⟨w.heap.size,2,none⟩=some (.bool a.spaced):=(hal1.cell (by show _<w8.heap.size;simp only;omega)).trans c2
 have c3_1:(w8.alloc (.cells #[.int .i64 t.kind,.string t.text,.bool a.spaced,.slice ath t.hidden.length cth] 57)).cell? ⟨w.heap.size,3,none⟩=some (ha):=(hal1.cell (by show _<w8.heap.size;simp only;omega)).trans c3
 have d3_1:(w8.alloc (.cells #[.int .i64 t.kind,.string t.text,.bool a.spaced,.slice ath t.hidden.length cth] 57)).cell? ⟨w.heap.size+1,3,none⟩=some (hb):=(hal1.cell (by show _<w8.heap.size;simp only;omega)).trans d3
 clear c0 c1 c2 c3 d0 d1 d2 d3
 have HX:=Qh (show (w8.alloc (.cells #[.int .i64 t.kind,.string t.text,.bool a.spaced,.slice ath t.hidden.length cth] 57)).heap[w8.heap.size]?=some (.cells #[.int .i64 t.kind,.string t.text,.bool a.spaced,.slice ath t.hidden.length cth] 57 (0,0)) by show (w8.heap.push _)[_]?=_;simp)
 go_wp2_with fail
 refine (HL.out _ hal1).mono ?_
 rintro e w9 ⟨vv,fv,rfl,RV,OV,b9⟩
 obtain⟨av,cv,rfl,-⟩:=Zaf RV
 clear t0 t1 t2 t3 HL c2_0 c3_0 d3_0 c2_1 c3_1 d3_1
 have hbk:=hB8.trans ((hal1.trans (b9.mono hal1.size)).mono hB8.size)
 have hox:w8.heap.size∉fv:=λ hx=>by have h1:=(OV.2 _ hx).1;have h2:(w8.alloc (.cells #[.int .i64 t.kind,.string t.text,.bool a.spaced,.slice ath t.hidden.length cth] 57)).heap.size=w8.heap.size+1:=(by simp);omega
 have hoz:w.heap.size+1+1∉fv:=λ hx=>by have h1:=(OV.2 _ hx).1;have h2:(w8.alloc (.cells #[.int .i64 t.kind,.string t.text,.bool a.spaced,.slice ath t.hidden.length cth] 57)).heap.size=w8.heap.size+1:=(by simp);omega
 replace HX:=Qh (mbox HX.out b9)
 replace HZ:=Qh (mbox HZ.out (hal1.trans (b9.mono hal1.size)))
 have x0:=Qc 0 HX.out
 have xz0:=Qf 0 HX.out
 have x1:=Qc 1 HX.out
 have xz1:=Qf 1 HX.out
 have x2:=Qc 2 HX.out
 have xz2:=Qf 2 HX.out
 have x3:=Qc 3 HX.out
 have xz3:=Qf 3 HX.out
 have hb10:=hbk.setCell (p:=⟨w8.heap.size,3,none⟩) (by show w.heap.size<=w8.heap.size;omega) (.slice av (both a.hidden b.hidden).length cv)
 have HR:=Qh ((Zaa sStr).setB RV hox 3 (.slice av (both a.hidden b.hidden).length cv))
 have HO:=Qh (OV.setCell ⟨w8.heap.size,3,none⟩ (.slice av (both a.hidden b.hidden).length cv))
 replace HX:=Qh (Zah HX.out 3 (.slice av (both a.hidden b.hidden).length cv))
 replace HZ:=Qh (Zaw HZ.out (by omega:w.heap.size+1+1≠w8.heap.size) 3 (.slice av (both a.hidden b.hidden).length cv))
 go_upto_region 9 with fail
 clear x0 x1 x2 x3 xz0 xz1 xz2 xz3 RV OV b9 hbk
 generalize w9.setCell ⟨w8.heap.size,3,none⟩ (.slice av (both a.hidden b.hidden).length cv)=w9' at *
 obtain⟨x0,x1,x2,x3⟩:=Q4 HX.out
 have z0:=Qc 0 HZ.out
 have zz0:=Qf 0 HZ.out
 have z1:=Qc 1 HZ.out
 have zz1:=Qf 1 HZ.out
 have z2:=Qc 2 HZ.out
 have zz2:=Qf 2 HZ.out
 have z3:=Qc 3 HZ.out
 have zz3:=Qf 3 HZ.out
 have HS:=Qh (ZaH HZ.out (.int .i64 t.kind) (.string t.text) (.bool a.spaced) (.slice av (both a.hidden b.hidden).length cv))
 have HBF:=Qh (Zay hb10 (g:=w.heap.size+1+1) (by omega) (.int .i64 t.kind) (.string t.text) (.bool a.spaced) (.slice av (both a.hidden b.hidden).length cv))
 have HRF:=Qh ((Zaa sStr).set4R HR.out hoz (.int .i64 t.kind) (.string t.text) (.bool a.spaced) (.slice av (both a.hidden b.hidden).length cv))
 have HOF:=Qh (Own.set4 (g:=w.heap.size+1+1) (HO.out.lower (show w.heap.size<=(w8.alloc (.cells #[.int .i64 t.kind,.string t.text,.bool a.spaced,.slice ath t.hidden.length cth] 57)).heap.size by simp;omega)) (.int .i64 t.kind) (.string t.text) (.bool a.spaced) (.slice av (both a.hidden b.hidden).length cv))
 unfold set4 at HS HBF HRF HOF
 go_wp2
 refine bodyPost_ret (Zap rfl _ _ (w.heap.size+1+1) _ _ _ _ rfl HS.out Tryz.underlying57 rfl (by kernel_rfl)) rfl ?_
 exact Zg0 HF.out okk oks HRF.out HOF.out HBF.out
theorem ZaE (w:World) (cs:List Value) (x:Tok) (fp:List Nat) (h:sTok.R w cs x fp):∀ u∈cs,u.oneCell'=true:=by
 obtain⟨hv,rfl,-,-,K⟩:=h
 obtain⟨a,c,rfl,-⟩:=Zaf K
 intro u hu
 simp only [List.mem_cons,List.not_mem_nil,or_false] at hu
 rcases hu with rfl | rfl | rfl | rfl <;> rfl
theorem Zda (cs:List Value) (x:Tok) (fp:List Nat) (w:World) (s:ByteArray) (H:sTok.R w cs x fp) :
  Calls Tryz.prog 71 #[.agg cs.toArray,.string s] w (Says (decide (x.kind=4) && (x.text.toList==s.toList)) w):=by
 obtain⟨h,rfl,hk,hok,K⟩:=H
 obtain⟨a0,cap0,rfl,-⟩:=Zaf K
 have hb:=Zab w (.cells #[.int .i64 x.kind,.string x.text,.bool x.spaced,.slice a0 x.hidden.length cap0] 57)
 clear K
 go_enter Tryz.func71,Tryz.ntmps71
 by_cases h4:x.kind=4
 ·have e0:(x.kind==4)=true:=by simp [h4]
  have HF:Hid ((decide (x.kind=4) && (x.text.toList==s.toList))=(x.text.toList==s.toList)):=by show _=_;rw [decide_eq_true h4];rfl
  clear h4
  go_wp2
  go_ret
  exact⟨Zad (by rw [HF.out]),hb⟩
 ·have e0:(x.kind==4)=false:=by simpa using h4
  have HF:Hid ((decide (x.kind=4) && (x.text.toList==s.toList))=false):=by show _=_;rw [decide_eq_false h4];rfl
  clear h4
  go_wp2
  go_ret
  exact⟨Zad (by rw [HF.out]),hb⟩
def SpcOf (l:List Tok) (fp:List Nat) (w:World) (e:Ending) (w':World):Prop:=
 ∃ (v:Value) (L:List (Elem Tok)),e=.returned v/\RowN sTok w.heap.size 57 v L w'/\L.map (·.d)=l/\(∀ x∈L,∀ b∈x.fp,b∈fp)/\Below w.heap.size w w'
theorem Zdz (v:Value) (l:List Tok) (fp:List Nat) (w:World) (b:Bool) (hl:l.length<=1000000) (H:(Zaa sTok).R w [v] l fp) :
  Calls Tryz.prog 103 #[v,.bool b] w (SpcOf (spc b l) fp w):=by
 have hlt:=(Zaa sTok).lt H
 obtain⟨a,cap,rfl,hc,hm,-⟩:=Zac H
 have hba:=Zab w (.cells #[] 57)
 have HA:=Qh ((Zaa sTok).below H hba)
 have HG:=Qh (RowN.lit0 sTok 57 w (Nat.le_refl _))
 have HLT:=Qh hlt
 have hbs:=hba.size
 clear H hlt
 go_enter Tryz.func103,Tryz.ntmps103
 go_upto_region 2 with(
            at_builtin;refine Zbh ti_tok rfl (by decide) ZaE _ rfl (.tmp 6) (.tmp 7) rfl w.heap.size (.slice (some ⟨w.heap.size,0,none⟩) 0 0) (.slice a l.length cap) l fp rfl HG.out rfl HA.out (λ b hb e=>by simp only [Value.ownBlock,Qi] at e;have:=HLT.out b hb;omega) (by simp [maxLen];omega) (by simp;omega) hbs ?_;intro v5 X w1 hX hXf hR hg _
            have hb1:Below w.heap.size w w1:=hba.grown hg hbs (λ b hb=>by simp [Value.ownBlock] at hb;omega)
            rw [List.nil_append] at hR
            have HR:=Qh hR
            have HXX:=Qh (And.intro hX hXf)
            obtain⟨a1,c1,rfl,-⟩:=hR.val
            have hXl:Hid (X.length=l.length):=by show _=_;rw [← hX,List.length_map]
            obtain⟨n,HN⟩:∃ n:Nat,Hid (n=X.length):=⟨X.length,Qh rfl⟩
            rw [show X.length=n from HN.out.symm] at ⊢
            clear hX hXf hR hg)
 by_cases h0:n=0
 ·have hl0:l=[]:=List.length_eq_zero_iff.1 (by have:=HN.out;have:=hXl.out;omega)
  have HF:Hid (X.map (·.d)=spc b l):=by show _=_;rw [HXX.out.1,hl0];rfl
  have e0:¬ (0:Int)<(n:Int):=by omega
  clear h0 hl0
  go_wp2
  go_ret
  refine ⟨_,X,rfl,?_,HF.out,HXX.out.2,hb1⟩
  rw [HN.out];exact HR.out
 ·obtain⟨x,X',rfl⟩:∃ x X',X=x::X':=by
   cases X with
   | nil=>exact absurd HN.out h0
   | cons x X'=>exact⟨x,X',rfl⟩
  obtain⟨g,hg1,hg2,hg3⟩:∃ g,a1=some ⟨g,0,none⟩/\w.heap.size<=g/\g<w1.heap.size:=by
   obtain⟨a9,c9,e,-,-,h⟩:=HR.out.val
   simp only [Value.slice.injEq] at e
   obtain⟨rfl,-,-⟩:=e
   exact h (by simp)
  subst hg1
  obtain⟨h,hcs,okk,oks,K⟩:=HR.out.el x (by simp)
  obtain⟨ah,ch,rfl,-⟩:=Zaf K
  have hgx:g∉x.fp:=λ hx=>HR.out.ap x (by simp) g hx rfl
  have HR2:=HR.out
  rw [show (x::X').length=n from HN.out.symm] at HR2
  have c2:w1.cell? ⟨g,2,none⟩=some (.bool x.d.spaced):=by
   have:=HR2.cellAt (k:=0) (by simp) (j:=2) (by decide) (u:=.bool x.d.spaced) (by show x.cells[2]?=_;rw [hcs];rfl)
   simpa using this
  have f2:w1.frozen? ⟨g,2,none⟩=false:=HR2.frozen 2
  have HS:Hid (RowN sTok w.heap.size 57 (.slice (some ⟨g,0,none⟩) n c1) (⟨[.int .i64 x.d.kind,.string x.d.text,.bool b,.slice ah x.d.hidden.length ch],⟨x.d.kind,x.d.text,b,x.d.hidden⟩,x.fp⟩::X') (w1.setCell ⟨g,2,none⟩ (.bool b))):=by
   show RowN _ _ _ _ _ _
   have:=HR2.set (k:=0) (by simp) (j:=2) (by decide) (.bool b) ⟨[.int .i64 x.d.kind,.string x.d.text,.bool b,.slice ah x.d.hidden.length ch],⟨x.d.kind,x.d.text,b,x.d.hidden⟩,x.fp⟩ (by show _=x.cells.set 2 _;rw [hcs];rfl) ⟨_,rfl,okk,oks,K⟩ hgx
   simpa using this
  have HF:Hid (((⟨[.int .i64 x.d.kind,.string x.d.text,.bool b,.slice ah x.d.hidden.length ch],⟨x.d.kind,x.d.text,b,x.d.hidden⟩,x.fp⟩:Elem Tok)::X').map (·.d)=spc b l):=by
   show _=_;rw [← HXX.out.1];rfl
  have HFF:Hid (∀ y∈((⟨[.int .i64 x.d.kind,.string x.d.text,.bool b,.slice ah x.d.hidden.length ch],⟨x.d.kind,x.d.text,b,x.d.hidden⟩,x.fp⟩:Elem Tok)::X'),∀ b∈y.fp,b∈fp):=λ y hy=>by
   rcases List.mem_cons.1 hy with rfl | hy
   ·exact HXX.out.2 x (by simp)
   ·exact HXX.out.2 y (by simp [hy])
  have hb2:=hb1.setCell (p:=⟨g,2,none⟩) hg2 (.bool b)
  have e0:(0:Int)<(n:Int):=by omega
  have e1:0<n:=by omega
  clear K hcs HR2 HR h0 hg2 hg3
  go_wp2
  go_ret
  exact⟨_,_,rfl,HS.out,HF.out,HFF.out,hb2⟩
theorem ZnO (ps:List ByteArray) (t:Tok):∀ d k,ps.length-k=d->-1<=parFrom ps t k/\parFrom ps t k<(ps.length:Int):=by
 intro d
 induction d with
 | zero=>intro k hk;rw [parFrom,dif_neg (by omega)];omega
 |
  succ d ih =>
  intro k hk
  rw [parFrom,dif_pos (by omega:k<ps.length)]
  split
  ·omega
  ·exact ih (k+1) (by omega)
theorem ZiW {ps:List ByteArray} {t:Tok} (h:¬ parOf ps t<0):∃ n:Nat,parOf ps t=n/\n<ps.length:=by
 have:=ZnO ps t _ 0 rfl
 have h2:-1<=parOf ps t/\parOf ps t<(ps.length:Int):=this
 exact⟨(parOf ps t).toNat,by omega,by omega⟩
theorem Zfz {t:Tok} {l:List UInt8} (h:isM t l=true):t.text=⟨l.toArray⟩:=by
 unfold isM at h
 rw [Bool.and_eq_true,Zdo,decide_eq_true_eq] at h
 exact of_decide_eq_true h.2
theorem Zgh {m:DMacro} (h:macOk m=true) {k:Nat} (hk:k<m.body.length) (hf:m.function=true) (hi:isM m.body[k] [35]=true):∃ hk1:k+1<m.body.length,∃ n:Nat,parOf m.params m.body[k+1]=n/\n<m.params.length:=by
 have hb:=(ZaD h).2.2 k hk
 have ht:m.body[k].text=hash1:=Zfz hi
 unfold bodOk at hb
 rw [dif_pos hk,Bool.and_eq_true] at hb
 have h2:=hb.2
 rw [hf,ht,decide_eq_true rfl] at h2
 by_cases hk1:k+1<m.body.length
 ·rw [dif_pos hk1] at h2
  refine ⟨hk1,ZiW λ hh=>?_⟩
  rw [decide_eq_true hh] at h2
  exact absurd h2 (by decide)
 ·rw [dif_neg hk1] at h2
  exact absurd h2 (by decide)
theorem ZaJ {w:World} {b off n cap:Nat} {l:List Tok} {fp:List Nat} (H:(Zaa sTok).R w [.slice (some ⟨b,off,none⟩) n cap] l fp) {j:Nat} (hj:j<l.length) :
  ∃ (aj:Option Addr) (cj:Nat) (fj:List Nat),w.cell? ⟨b,off+j * 4,none⟩=some (.int .i64 l[j].kind)/\w.cell? ⟨b,off+j * 4+1,none⟩=some (.string l[j].text)/\w.cell? ⟨b,off+j * 4+2,none⟩=some (.bool l[j].spaced)/\w.cell? ⟨b,off+j * 4+3,none⟩=some (.slice aj l[j].hidden.length cj) /\
   sTok.R w [.int .i64 l[j].kind,.string l[j].text,.bool l[j].spaced,.slice aj l[j].hidden.length cj] l[j] fj/\b<w.heap.size/\∀ x∈fj,x∈fp:=by
 obtain⟨a,cap',hv,hc,hm,hrow⟩:=Zac H
 obtain⟨b',off',fps,ha,hb,hfp,he⟩:=hrow (by omega)
 simp only [Value.slice.injEq] at hv
 obtain⟨rfl,rfl,rfl⟩:=hv
 simp only [Qi,Addr.mk.injEq,and_true] at ha
 obtain⟨rfl,rfl⟩:=ha
 obtain⟨es,hE,hR⟩:=he j hj
 have hR2:=hR
 obtain⟨hh,rfl,-,-,K⟩:=hR2
 obtain⟨aj,cj,rfl,-⟩:=Zaf K
 have c0:w.cell? ⟨b,off+j * 4,none⟩=some _:=Zao hE (by decide) rfl
 have c1:w.cell? ⟨b,off+j * 4+1,none⟩=some _:=Zae (j:=1) hE (by decide) rfl
 have c2:w.cell? ⟨b,off+j * 4+2,none⟩=some _:=Zae (j:=2) hE (by decide) rfl
 have c3:w.cell? ⟨b,off+j * 4+3,none⟩=some _:=Zae (j:=3) hE (by decide) rfl
 exact⟨aj,cj,fps j,c0,c1,c2,c3,hR,hb,λ x hx=>by rw [hfp];exact List.mem_cons_of_mem _ (List.mem_flatMap.2 ⟨j,List.mem_range.2 hj,hx⟩)⟩
theorem Zb5 {w:World} {b off n cap:Nat} {l:List (List Tok)} {fp:List Nat} (H:(Zaa (Zaa sTok)).R w [.slice (some ⟨b,off,none⟩) n cap] l fp) {j:Nat} (hj:j<l.length) :
  ∃ (aj:Option Addr) (cj:Nat) (fj:List Nat),w.cell? ⟨b,off+j,none⟩=some (.slice aj l[j].length cj)/\(Zaa sTok).R w [.slice aj l[j].length cj] l[j] fj/\b<w.heap.size/\∀ x∈fj,x∈fp:=by
 obtain⟨a,cap',hv,hc,hm,hrow⟩:=Zac H
 obtain⟨b',off',fps,ha,hb,hfp,he⟩:=hrow (by omega)
 simp only [Value.slice.injEq] at hv
 obtain⟨rfl,rfl,rfl⟩:=hv
 simp only [Qi,Addr.mk.injEq,and_true] at ha
 obtain⟨rfl,rfl⟩:=ha
 obtain⟨es,hE,hR⟩:=he j hj
 obtain⟨aj,cj,rfl⟩:=ZeR hR
 have c0:w.cell? ⟨b,off+j * 1,none⟩=some _:=Zao hE (by decide) rfl
 rw [Nat.mul_one] at c0
 exact⟨aj,cj,fps j,c0,hR,hb,λ x hx=>by rw [hfp];exact List.mem_cons_of_mem _ (List.mem_flatMap.2 ⟨j,List.mem_range.2 hj,hx⟩)⟩
def PartOf (P:List Tok × Nat × Bool) (B:Nat) (w:World) (e:Ending) (w':World):Prop:=
 ∃ (v:Value) (L:List (Elem Tok)),e=.returned (.tuple #[v,.int .i64 (P.2.1:Nat),.bool P.2.2])/\RowN sTok w.heap.size 57 v L w'/\L.map (·.d)=P.1/\(∀ x∈L,∀ b∈x.fp,b<B)/\Below w.heap.size w w'
theorem ZlO:(⟨#[35]⟩:ByteArray).toList=[35]:=by rw [ByteArray.toList_eq]
theorem Zgi:(⟨#[35,35]⟩:ByteArray).toList=[35,35]:=by rw [ByteArray.toList_eq]
theorem Y14A3 {g:Prop} (h:g:=by
 have hbx:=(b2.trans (hbe.mono b2.size)).trans ((hcs.trans (hb9.mono (Nat.le_refl _))).mono (b2.trans (hbe.mono b2.size)).size)
 have HRF:=Qh (HR9.lower (base':=w.heap.size) (by show w.heap.size<=W5.heap.size;omega))
 have HDF:Hid (L9.map (·.d)=(ZaA m raw ready k).1):=by show _=_;rw [HD9,HF.out,HAR.out]
 have HFF:Hid (∀ x∈L9,∀ b∈x.fp,b<B):=λ x hx b hb=>HFJ.out b (HF9 x hx b hb)
 clear HR9 HD9 HF9 hb9 HSP
 go_wp2
 go_ret3
 exact⟨.slice a9 L9.length c9,L9,by rw [HF.out];rfl,HRF.out,HDF.out,HFF.out,hbx⟩):g:=h
theorem Zk4 (csM:List Value) (m:DMacro) (fpM:List Nat) (vr vy:Value) (raw ready:List (List Tok)) (fpr fpy:List Nat) (k:Nat) (w:World) (hv:macOk m=true) (ha:Zau m raw=true) (hy:Zau m ready=true) (hk:k<m.body.length)
  (B:Nat) (hBm:∀ b∈fpM,b<B) (hBr:∀ b∈fpr,b<B) (hBy:∀ b∈fpy,b<B) (HM:sMacro.R w csM m fpM) (Hr:(Zaa (Zaa sTok)).R w [vr] raw fpr) (Hy:(Zaa (Zaa sTok)).R w [vy] ready fpy) :
  Calls Tryz.prog 118 #[.agg csM.toArray,vr,vy,.int .i64 k] w (PartOf (ZaA m raw ready k) B w):=by
 have HM0:=HM
 obtain⟨h2,h3,q2,q3,rfl,-,K2,K3,hfpM⟩:=HM
 obtain⟨a2,c2,rfl,-⟩:=Zaf K2
 obtain⟨a3,c3,rfl,hc3,hm3,hrow3⟩:=Zac K3
 obtain⟨bb,ob,-,rfl,-,-,-⟩:=hrow3 (by omega)
 unfold maxLen at hm3
 have hmlt:∀ b∈q3,b<B:=λ b hb=>hBm b (by rw [hfpM];exact List.mem_append_right _ hb)
 have hlen20:m.body.length<=20:=(ZaD hv).1.2.2.2.2
 have hraw:Hid (raw.length=m.params.length):=by show _=_;unfold Zau at ha;rw [Bool.and_eq_true,decide_eq_true_eq] at ha;exact ha.1
 have hrdy:Hid (ready.length=m.params.length):=by show _=_;unfold Zau at hy;rw [Bool.and_eq_true,decide_eq_true_eq] at hy;exact hy.1
 have HRA:Hid (∀ l∈raw,Zaj l=true):=by show ∀ l∈raw,_;unfold Zau at ha;rw [Bool.and_eq_true,List.all_eq_true] at ha;exact ha.2
 have HYA:Hid (∀ l∈ready,Zaj l=true):=by show ∀ l∈ready,_;unfold Zau at hy;rw [Bool.and_eq_true,List.all_eq_true] at hy;exact hy.2
 have HLr:=Qh hBr
 have HLy:=Qh hBy
 obtain⟨ak,ck,fk,e0,e1,e2,e3,Rk,hbb,hfk⟩:=ZaJ K3 hk
 have HB3:=Qh K3
 have HV:=Qh hv
 have b0:=Zab w (.cells #[.string m.name,.bool m.function,.slice a2 m.params.length c2,.slice (some ⟨bb,ob,none⟩) m.body.length c3] 70)
 have b1:=Zab (w.alloc (.cells #[.string m.name,.bool m.function,.slice a2 m.params.length c2,.slice (some ⟨bb,ob,none⟩) m.body.length c3] 70)) (.cells #[.int .i64 m.body[k].kind,.string m.body[k].text,.bool m.body[k].spaced,.slice ak m.body[k].hidden.length ck] 57)
 have b2:Below w.heap.size w ((w.alloc (.cells #[.string m.name,.bool m.function,.slice a2 m.params.length c2,.slice (some ⟨bb,ob,none⟩) m.body.length c3] 70)).alloc (.cells #[.int .i64 m.body[k].kind,.string m.body[k].text,.bool m.body[k].spaced,.slice ak m.body[k].hidden.length ck] 57)):=b0.trans (b1.mono b0.size)
 have HX:=Qh (ZbI w #[.string m.name,.bool m.function,.slice a2 m.params.length c2,.slice (some ⟨bb,ob,none⟩) m.body.length c3] #[.int .i64 m.body[k].kind,.string m.body[k].text,.bool m.body[k].spaced,.slice ak m.body[k].hidden.length ck] 70 57)
 have g0:(w.alloc (.cells #[.string m.name,.bool m.function,.slice a2 m.params.length c2,.slice (some ⟨bb,ob,none⟩) m.body.length c3] 70)).cell? ⟨bb,ob+k * 4,none⟩=some _:=(b0.cell (p:=⟨bb,ob+k * 4,none⟩) hbb).trans e0
 have g1:(w.alloc (.cells #[.string m.name,.bool m.function,.slice a2 m.params.length c2,.slice (some ⟨bb,ob,none⟩) m.body.length c3] 70)).cell? ⟨bb,ob+k * 4+1,none⟩=some _:=(b0.cell (p:=⟨bb,ob+k * 4+1,none⟩) hbb).trans e1
 have g2:(w.alloc (.cells #[.string m.name,.bool m.function,.slice a2 m.params.length c2,.slice (some ⟨bb,ob,none⟩) m.body.length c3] 70)).cell? ⟨bb,ob+k * 4+2,none⟩=some _:=(b0.cell (p:=⟨bb,ob+k * 4+2,none⟩) hbb).trans e2
 have g3:(w.alloc (.cells #[.string m.name,.bool m.function,.slice a2 m.params.length c2,.slice (some ⟨bb,ob,none⟩) m.body.length c3] 70)).cell? ⟨bb,ob+k * 4+3,none⟩=some _:=(b0.cell (p:=⟨bb,ob+k * 4+3,none⟩) hbb).trans e3
 have HRk:=Qh (sTok.below Rk b2)
 have HMr:=Qh (sMacro.below HM0 b2)
 have HRR:=Qh ((Zaa (Zaa sTok)).below Hr b2)
 have HYY:=Qh ((Zaa (Zaa sTok)).below Hy b2)
 have HB2:=Qh ((Zaa sTok).below K3 b2)
 have hi0:(0:Int)<=(k:Int):=by omega
 have hi1:(k:Int)<(m.body.length:Int):=by omega
 have hs2:((w.alloc (.cells #[.string m.name,.bool m.function,.slice a2 m.params.length c2,.slice (some ⟨bb,ob,none⟩) m.body.length c3] 70)).alloc (.cells #[.int .i64 m.body[k].kind,.string m.body[k].text,.bool m.body[k].spaced,.slice ak m.body[k].hidden.length ck] 57)).heap.size=w.heap.size+2:=by show ((w.heap.push _).push _).size=_;simp
 have HFK:Hid (∀ b∈fk,b<B):=λ b hb=>hmlt b (hfk b hb)
 clear HM0 K2 K3 Hr Hy Rk b0 b1 e0 e1 e2 e3 hv ha hy hfk hfpM hrow3
 go_enter Tryz.func118,Tryz.ntmps118
 go_upto_region 2 with fail
 clear g0 g1 g2 g3
 have hbs:=b2.size
 generalize ((w.alloc (.cells #[.string m.name,.bool m.function,.slice a2 m.params.length c2,.slice (some ⟨bb,ob,none⟩) m.body.length c3] 70)).alloc (.cells #[.int .i64 m.body[k].kind,.string m.body[k].text,.bool m.body[k].spaced,.slice ak m.body[k].hidden.length ck] 57))=W2 at *
 go_cut [26] from 16 (λ d wr=>d=.bool (m.function && isM m.body[k] [35])/\Below W2.heap.size W2 wr)
 case first =>
  obtain⟨p0,p1,p2,p3⟩:=Q4 HX.out.1
  rcases Bool.eq_false_or_eq_true m.function with hf | hf
  ·have HFN:=Qh hf
   rw [hf] at p1
   clear hf
   obtain⟨q0,q1,q2,q3⟩:=Q4 HX.out.2
   have HIS:=Qh (Zda _ m.body[k] fk W2 ⟨#[35]⟩ HRk.out)
   rw [ZlO] at HIS
   have HE:Hid ((decide (m.body[k].kind=4) && (m.body[k].text.toList==[35]))=isM m.body[k] [35]):=rfl
   rw [HE.out] at HIS
   go_wp2_with fail
   refine HIS.out.mono ?_
   rintro e w3 ⟨rfl,hb3⟩
   go_wp2
   go_meet
   case rel=>exact⟨by rw [HFN.out];simp,hb3⟩
  ·have HFN:=Qh hf
   rw [hf] at p1
   clear hf
   go_wp2
   go_meet
   case rel=>exact⟨by rw [HFN.out];rfl,Below.refl _ _⟩
 obtain⟨rfl,hbc⟩:=hcut
 generalize wc=W3 at *
 have HX3:=Qh (And.intro (mbox HX.out.1 hbc) (mbox HX.out.2 hbc))
 cases hfi:(m.function && isM m.body[k] [35])
 rotate_left
 ·skip
  obtain⟨hft,hmt⟩:=Bool.and_eq_true_iff.1 hfi
  obtain⟨hk1,n,hn,hnp⟩:=Zgh HV.out hk hft hmt
  have hnr:n<raw.length:=by have:=hraw.out;omega
  have HAR:=Qh (Zdw (a:=raw) hn hnr)
  have HPN:=Qh hn
  obtain⟨kk,s,okb,hx,hkk0,hkk4,hsz⟩:=Zdy raw[n]
  have HX0:=Qh hx
  have HF:=Qh (Zgd (raw:=raw) (ready:=ready) hk1 hft hmt (u:=⟨kk,s,false,[]⟩) (o:=okb) (by rw [HAR.out];exact hx))
  obtain⟨ya,yc,yf,yq0,yq1,yq2,yq3,yR,ybb,-⟩:=ZaJ HB2.out (j:=k+1) hk1
  have y0:W3.cell? ⟨bb,ob+(k+1) * 4,none⟩=some _:=(hbc.cell (p:=⟨bb,ob+(k+1) * 4,none⟩) ybb).trans yq0
  have y1:W3.cell? ⟨bb,ob+(k+1) * 4+1,none⟩=some _:=(hbc.cell (p:=⟨bb,ob+(k+1) * 4+1,none⟩) ybb).trans yq1
  have y2:W3.cell? ⟨bb,ob+(k+1) * 4+2,none⟩=some _:=(hbc.cell (p:=⟨bb,ob+(k+1) * 4+2,none⟩) ybb).trans yq2
  have y3:W3.cell? ⟨bb,ob+(k+1) * 4+3,none⟩=some _:=(hbc.cell (p:=⟨bb,ob+(k+1) * 4+3,none⟩) ybb).trans yq3
  obtain⟨ar,cr,rfl,-,-,hrowR⟩:=Zac HRR.out
  obtain⟨br,orr,-,rfl,-,-,-⟩:=hrowR (by omega)
  obtain⟨aj,cj,fj,dq,Rj,hbr,-⟩:=Zb5 HRR.out hnr
  have hTV:=Zam (HRA.out _ (List.getElem_mem hnr))
  have HLP:=Qh (λ (U:World) (hU:Below W3.heap.size W3 U)=>Zeh _ _ m (m.body[k+1]'hk1) _ _ U (sMacro.below (sMacro.below HMr.out hbc) hU) (sTok.below (sTok.below yR hbc) hU))
  rw [hn] at HLP
  have HTT:=Qh (λ (U:World) (hU:Below W3.heap.size W3 U)=>ZiT _ raw[n] fj U (by omega) (λ j hj=>by have:=(ZdS (ZbS (hTV.2 j hj))).1;omega) ((Zaa sTok).below ((Zaa sTok).below Rj hbc) hU))
  have hz3:W2.heap.size<=W3.heap.size:=hbc.size
  have HS:Hid (∀ U:World,Below W3.heap.size W3 U->U.heap[w.heap.size]?=some (.cells #[.string m.name,.bool m.function,.slice a2 m.params.length c2,.slice (some ⟨bb,ob,none⟩) m.body.length c3] 70 (0,0))/\U.cell? ⟨bb,ob+(k+1) * 4,none⟩=some (.int .i64 (m.body[k+1]'hk1).kind)/\U.cell? ⟨bb,ob+(k+1) * 4+1,none⟩=some (.string (m.body[k+1]'hk1).text)/\U.cell? ⟨bb,ob+(k+1) * 4+2,none⟩=some (.bool (m.body[k+1]'hk1).spaced)/\U.cell? ⟨bb,ob+(k+1) * 4+3,none⟩=some (.slice ya (m.body[k+1]'hk1).hidden.length yc)/\U.cell? ⟨br,orr+n,none⟩=some (.slice aj raw[n].length cj)):=λ U hU=>⟨mbox HX3.out.1 hU,(hU.cell (by show bb<W3.heap.size;omega)).trans y0,(hU.cell (by show bb<W3.heap.size;omega)).trans y1,(hU.cell (by show bb<W3.heap.size;omega)).trans y2,(hU.cell (by show bb<W3.heap.size;omega)).trans y3,(hU.cell (by show br<W3.heap.size;omega)).trans ((hbc.cell (p:=⟨br,orr+n,none⟩) hbr).trans dq)⟩
  have hcs:Below W3.heap.size W3 W3.drew:=Zag (Below.refl _ _) 1
  have hw1:IntKind.i64.wrap ((k:Int)+1)=(k:Int)+1:=IntWalk.i64_in _ (by omega)
  have j1:(0:Int)<=(k:Int)+1:=by omega
  have j2:(k:Int)+1<(m.body.length:Int):=by omega
  have j3:((k:Int)+1).toNat=k+1:=by omega
  have j4:(0:Int)<=(n:Int):=by omega
  have j5:(n:Int)<(raw.length:Int):=by omega
  have hbmm:0<m.body.length:=by omega
  clear hx hn hft hmt hfi yq0 yq1 yq2 yq3 yR y0 y1 y2 y3 dq Rj hrowR hTV
  go_upto_region 3 with fail
  go_cut [12,13] from 16 (λ d b wr=>∃ (gB:Nat) (ax:Option Addr) (cx:Nat),d=.pointer (some ⟨gB,0,none⟩)/\b=.bool okb/\wr.heap[gB]?=some (.cells #[.int .i64 kk,.string s,.bool false,.slice ax 0 cx] 57 (0,0))/\W3.heap.size<=gB/\gB<wr.heap.size/\cx<=maxLen/\Below W3.heap.size W3 wr)
  case first =>
   refine wp_region_noPanic ?_
   refine wp_region_held_drew (S:=λ w'=>w'.heap[w.heap.size]?=some (.cells #[.string m.name,.bool m.function,.slice a2 m.params.length c2,.slice (some ⟨bb,ob,none⟩) m.body.length c3] 70 (0,0))/\w'.cell? ⟨bb,ob+(k+1) * 4,none⟩=some (.int .i64 (m.body[k+1]'hk1).kind)/\w'.cell? ⟨bb,ob+(k+1) * 4+1,none⟩=some (.string (m.body[k+1]'hk1).text)/\w'.cell? ⟨bb,ob+(k+1) * 4+2,none⟩=some (.bool (m.body[k+1]'hk1).spaced)/\w'.cell? ⟨bb,ob+(k+1) * 4+3,none⟩=some (.slice ya (m.body[k+1]'hk1).hidden.length yc)/\w'.cell? ⟨br,orr+n,none⟩=some (.slice aj raw[n].length cj)) (by kernel_rfl) (by exact HS.out _ hcs) (λ hHeld=>?_)
   generalize W3.drew=wd at *
   refine Qt 0 28 rfl rfl ?_
   try simp only [Qp]
   refine Qt 1 29 rfl rfl ?_ (by intro w hSw;obtain⟨sm,s0,s1,s2,s3,sr⟩:=hSw;obtain⟨m0,m1,m2,m3⟩:=Q4 sm;go_simp;(first | done | with_reducible rfl | rfl))
   try simp only [Qp]
   refine Qt 2 30 rfl rfl ?_
   try simp only [Qp]
   refine Qt 3 31 rfl rfl ?_ (by intro w hSw;obtain⟨sm,s0,s1,s2,s3,sr⟩:=hSw;obtain⟨m0,m1,m2,m3⟩:=Q4 sm;go_simp;(first | done | with_reducible rfl | rfl))
   try simp only [Qp]
   refine Qt 4 32 rfl rfl ?_
   try simp only [Qp]
   refine Qt 5 33 rfl rfl ?_
   try simp only [Qp]
   refine Qt 6 34 rfl rfl ?_
   try simp only [Qp]
   refine Qt 7 35 rfl rfl ?_ (by intro w hSw;obtain⟨sm,s0,s1,s2,s3,sr⟩:=hSw;obtain⟨m0,m1,m2,m3⟩:=Q4 sm;go_simp;(first | done | with_reducible rfl | rfl))
   try simp only [Qp]
   refine wpAnyH_ready (rs:=[8,15]) (by kernel_rfl) (by simp) ?_
   refine AllReadyH.cons rfl (λ K hK=>?_) ?_
   ·skip
    go_simp
    refine (HLP.out _ hcs).mono ?_
    rintro e wx1 ⟨rfl,br1⟩
    have hx1:=hcs.trans (br1.mono hcs.size)
    refine hK.out _ _ (HS.out _ hx1) (λ hHeld=>?_)
    clear hK K
    try simp only [Qp]
    refine Qt 9 37 rfl rfl ?_
    try simp only [Qp]
    refine Qt 10 38 rfl rfl ?_ (by intro w hSw;obtain⟨sm,s0,s1,s2,s3,sr⟩:=hSw;obtain⟨m0,m1,m2,m3⟩:=Q4 sm;go_simp;(first | done | with_reducible rfl | rfl))
    try simp only [Qp]
    refine wpAnyH_ready (rs:=[11,15]) (by kernel_rfl) (by simp) ?_
    refine AllReadyH.cons rfl (λ K hK=>?_) ?_
    ·skip
     go_simp
     refine (HTT.out _ hx1).mono ?_
     rintro e wx2 hT2
     obtain⟨k9,s9,b9,ax,cx,e9,rfl,-,-,-,hcx,br2⟩:=hT2.bare
     rw [HX0.out] at e9
     simp only [Prod.mk.injEq,Tok.mk.injEq,and_true] at e9
     obtain⟨⟨rfl,rfl⟩,rfl⟩:=e9
     have hx2:=hx1.trans (br2.mono hx1.size)
     refine hK.out _ _ (HS.out _ hx2) (λ hHeld=>?_)
     clear hK K
     try simp only [Qp]
     refine Qt 12 27 rfl rfl ?_
     try simp only [Qp]
     refine Qt 13 40 rfl rfl ?_
     try simp only [Qp]
     refine Qt 14 41 rfl rfl ?_
     try simp only [Qp]
     refine Qr 15 rfl (λ K hK=>?_)
     go_simp
     have bk:=Zab wx2 (.cells #[.int .i64 0,.string ⟨#[]⟩,.bool false,.slice none 0 0] 57)
     have HB:=Qh (heap_alloc_new wx2 (.cells #[.int .i64 0,.string ⟨#[]⟩,.bool false,.slice none 0 0] 57))
     have hx3:=hx2.trans (bk.mono hx2.size)
     have hge:=hx2.size
     refine hK.out _ _ (HS.out _ hx3) (λ hHeld=>?_)
     clear hK K bk
     try simp only [Qp]
     generalize (wx2.alloc (.cells #[.int .i64 0,.string ⟨#[]⟩,.bool false,.slice none 0 0] 57))=wx3 at *
     have zc0:=Qc 0 HB.out
     have zf0:=Qf 0 HB.out
     have zc1:=Qc 1 HB.out
     have zf1:=Qf 1 HB.out
     have zc2:=Qc 2 HB.out
     have zf2:=Qf 2 HB.out
     have zc3:=Qc 3 HB.out
     have zf3:=Qf 3 HB.out
     have HD1:=Qh (ZaH HB.out (.int .i64 kk) (.string s) (.bool false) (.slice ax 0 cx))
     have HD2:=Qh (Zay (g:=wx2.heap.size) hx3 hge (.int .i64 kk) (.string s) (.bool false) (.slice ax 0 cx))
     have HD3:Hid (wx2.heap.size<(set4 wx3 (wx2.heap.size) (.int .i64 kk) (.string s) (.bool false) (.slice ax 0 cx)).heap.size):=by show _<_;rw [ZbQ];exact mlt HB.out
     refine Qr 16 rfl (λ K hK=>?_)
     go_simp
     change K _ (set4 wx3 (wx2.heap.size) (.int .i64 kk) (.string s) (.bool false) (.slice ax 0 cx))
     refine hK.out _ _ (HS.out _ HD2.out) (λ hHeld=>?_)
     clear hK K
     try simp only [Qp]
     refine Qt 17 13 rfl rfl ?_
     try simp only [Qp]
     refine wpAnyH_done (by kernel_rfl) ?_ _
     refine NoPanic.normal ?_
     clear hHeld
     go_wp2
     go_meet
     case rel=>exact⟨_,ax,cx,rfl,rfl,HD1.out,hge,HD3.out,hcx,HD2.out⟩
    refine AllReadyH.cons rfl (λ K hK=>?_) AllReadyH.nil
    go_simp
    have bk:=Zab wx1 (.cells #[.int .i64 0,.string ⟨#[]⟩,.bool false,.slice none 0 0] 57)
    have HB:=Qh (heap_alloc_new wx1 (.cells #[.int .i64 0,.string ⟨#[]⟩,.bool false,.slice none 0 0] 57))
    have hx4:=hx1.trans (bk.mono hx1.size)
    have hge:=hx1.size
    refine hK.out _ _ (HS.out _ hx4) (λ hHeld=>?_)
    clear hK K bk
    try simp only [Qp]
    generalize (wx1.alloc (.cells #[.int .i64 0,.string ⟨#[]⟩,.bool false,.slice none 0 0] 57))=wx4 at *
    refine Qr 11 rfl (λ K hK=>?_)
    go_simp
    refine (HTT.out _ hx4).mono ?_
    rintro e wx5 hT5
    obtain⟨k9,s9,b9,ax,cx,e9,rfl,-,-,-,hcx,br5⟩:=hT5.bare
    rw [HX0.out] at e9
    simp only [Prod.mk.injEq,Tok.mk.injEq,and_true] at e9
    obtain⟨⟨rfl,rfl⟩,rfl⟩:=e9
    have hx5:=hx4.trans (br5.mono hx4.size)
    have HB5:=Qh (mbox HB.out br5)
    refine hK.out _ _ (HS.out _ hx5) (λ hHeld=>?_)
    clear hK K
    try simp only [Qp]
    refine Qt 12 27 rfl rfl ?_
    try simp only [Qp]
    refine Qt 13 40 rfl rfl ?_
    try simp only [Qp]
    refine Qt 14 41 rfl rfl ?_
    try simp only [Qp]
    have zc0:=Qc 0 HB5.out
    have zf0:=Qf 0 HB5.out
    have zc1:=Qc 1 HB5.out
    have zf1:=Qf 1 HB5.out
    have zc2:=Qc 2 HB5.out
    have zf2:=Qf 2 HB5.out
    have zc3:=Qc 3 HB5.out
    have zf3:=Qf 3 HB5.out
    have HD1:=Qh (ZaH HB5.out (.int .i64 kk) (.string s) (.bool false) (.slice ax 0 cx))
    have HD2:=Qh (Zay (g:=wx1.heap.size) hx5 hge (.int .i64 kk) (.string s) (.bool false) (.slice ax 0 cx))
    have HD3:Hid (wx1.heap.size<(set4 wx5 (wx1.heap.size) (.int .i64 kk) (.string s) (.bool false) (.slice ax 0 cx)).heap.size):=by show _<_;rw [ZbQ];exact mlt HB5.out
    refine Qr 16 rfl (λ K hK=>?_)
    go_simp
    change K _ (set4 wx5 (wx1.heap.size) (.int .i64 kk) (.string s) (.bool false) (.slice ax 0 cx))
    refine hK.out _ _ (HS.out _ HD2.out) (λ hHeld=>?_)
    clear hK K
    try simp only [Qp]
    refine Qt 17 13 rfl rfl ?_
    try simp only [Qp]
    refine wpAnyH_done (by kernel_rfl) ?_ _
    refine NoPanic.normal ?_
    clear hHeld
    go_wp2
    go_meet
    case rel=>exact⟨_,ax,cx,rfl,rfl,HD1.out,hge,HD3.out,hcx,HD2.out⟩
   refine AllReadyH.cons rfl (λ K hK=>?_) AllReadyH.nil
   go_simp
   have bk:=Zab wd (.cells #[.int .i64 0,.string ⟨#[]⟩,.bool false,.slice none 0 0] 57)
   have HB:=Qh (heap_alloc_new wd (.cells #[.int .i64 0,.string ⟨#[]⟩,.bool false,.slice none 0 0] 57))
   have hx6:=hcs.trans (bk.mono hcs.size)
   have hge:=hcs.size
   refine hK.out _ _ (HS.out _ hx6) (λ hHeld=>?_)
   clear hK K bk
   try simp only [Qp]
   generalize (wd.alloc (.cells #[.int .i64 0,.string ⟨#[]⟩,.bool false,.slice none 0 0] 57))=wx6 at *
   refine Qr 8 rfl (λ K hK=>?_)
   go_simp
   refine (HLP.out _ hx6).mono ?_
   rintro e wx7 ⟨rfl,br7⟩
   have hx7:=hx6.trans (br7.mono hx6.size)
   have HB7:=Qh (mbox HB.out br7)
   refine hK.out _ _ (HS.out _ hx7) (λ hHeld=>?_)
   clear hK K
   try simp only [Qp]
   refine Qt 9 37 rfl rfl ?_
   try simp only [Qp]
   refine Qt 10 38 rfl rfl ?_ (by intro w hSw;obtain⟨sm,s0,s1,s2,s3,sr⟩:=hSw;obtain⟨m0,m1,m2,m3⟩:=Q4 sm;go_simp;(first | done | with_reducible rfl | rfl))
   try simp only [Qp]
   refine Qr 11 rfl (λ K hK=>?_)
   go_simp
   refine (HTT.out _ hx7).mono ?_
   rintro e wx8 hT8
   obtain⟨k9,s9,b9,ax,cx,e9,rfl,-,-,-,hcx,br8⟩:=hT8.bare
   rw [HX0.out] at e9
   simp only [Prod.mk.injEq,Tok.mk.injEq,and_true] at e9
   obtain⟨⟨rfl,rfl⟩,rfl⟩:=e9
   have hx8:=hx7.trans (br8.mono hx7.size)
   have HB8:=Qh (mbox HB7.out br8)
   refine hK.out _ _ (HS.out _ hx8) (λ hHeld=>?_)
   clear hK K
   try simp only [Qp]
   refine Qt 12 27 rfl rfl ?_
   try simp only [Qp]
   refine Qt 13 40 rfl rfl ?_
   try simp only [Qp]
   refine Qt 14 41 rfl rfl ?_
   try simp only [Qp]
   have zc0:=Qc 0 HB8.out
   have zf0:=Qf 0 HB8.out
   have zc1:=Qc 1 HB8.out
   have zf1:=Qf 1 HB8.out
   have zc2:=Qc 2 HB8.out
   have zf2:=Qf 2 HB8.out
   have zc3:=Qc 3 HB8.out
   have zf3:=Qf 3 HB8.out
   have HD1:=Qh (ZaH HB8.out (.int .i64 kk) (.string s) (.bool false) (.slice ax 0 cx))
   have HD2:=Qh (Zay (g:=wd.heap.size) hx8 hge (.int .i64 kk) (.string s) (.bool false) (.slice ax 0 cx))
   have HD3:Hid (wd.heap.size<(set4 wx8 (wd.heap.size) (.int .i64 kk) (.string s) (.bool false) (.slice ax 0 cx)).heap.size):=by show _<_;rw [ZbQ];exact mlt HB8.out
   refine Qr 16 rfl (λ K hK=>?_)
   go_simp
   change K _ (set4 wx8 (wd.heap.size) (.int .i64 kk) (.string s) (.bool false) (.slice ax 0 cx))
   refine hK.out _ _ (HS.out _ HD2.out) (λ hHeld=>?_)
   clear hK K
   try simp only [Qp]
   refine Qt 17 13 rfl rfl ?_
   try simp only [Qp]
   refine wpAnyH_done (by kernel_rfl) ?_ _
   refine NoPanic.normal ?_
   clear hHeld
   go_wp2
   go_meet
   case rel=>exact⟨_,ax,cx,rfl,rfl,HD1.out,hge,HD3.out,hcx,HD2.out⟩
  obtain⟨gB,ax,cx,rfl,rfl,HG0,hg1,hg2,hcx,hbg⟩:=hcut
  generalize wc=W4 at *
  have HG:=Qh HG0
  have HTB:=Qh (mbox HX3.out.2 hbg)
  clear HG0 HS HLP HTT hcs
  have hx2:w.heap.size+1<W3.heap.size:=mlt HX3.out.2
  have t2:=Qc 2 HTB.out
  obtain⟨g0,g1,g2,g3⟩:=Q4 HG.out
  have gf2:=Qf 2 HG.out
  have hb4:=(b2.trans (hbc.mono b2.size)).trans (hbg.mono (b2.trans (hbc.mono b2.size)).size)
  have hb5:=hb4.setCell (p:=⟨gB,2,none⟩) (by show w.heap.size<=gB;omega) (.bool m.body[k].spaced)
  have HG2:=Qh (Zah HG.out 2 (.bool m.body[k].spaced))
  go_upto_region 5 with fail
  clear t2 g0 g1 g2 g3 gf2 HG HTB hb4
  generalize W4.setCell ⟨gB,2,none⟩ (.bool m.body[k].spaced)=W5 at *
  obtain⟨g0,g1,g2,g3⟩:=Q4 HG2.out
  have hw2:IntKind.i64.wrap ((k:Int)+2)=(k:Int)+2:=IntWalk.i64_in _ (by omega)
  have HL:=Qh (RowN.lit1 (S:=sTok) (e:=57) (w:=W5) (base:=w.heap.size) (x:=⟨[.int .i64 kk,.string s,.bool m.body[k].spaced,.slice ax 0 cx],⟨kk,s,m.body[k].spaced,[]⟩,[]⟩) hb5.size rfl (ZjG kk s _ ax cx W5 hkk0 hkk4 (by omega) hcx))
  have hbe:=hb5.trans ((Zab W5 (.cells #[.int .i64 kk,.string s,.bool m.body[k].spaced,.slice ax 0 cx] 57)).mono hb5.size)
  go_wp2
  go_ret3
  exact⟨.slice (some ⟨W5.heap.size,0,none⟩) 1 1,_,by rw [HF.out];rfl,HL.out,by rw [HF.out];rfl,λ x hx=>by obtain rfl:=Qm hx;intro b hb;simp at hb,hbe⟩
 have HNF:Hid (¬ (m.function=true/\isM m.body[k] [35]=true)):=λ h=>by rw [h.1,h.2] at hfi;exact absurd hfi (by simp)
 clear hfi
 obtain⟨p0,p1,p2,p3⟩:=Q4 HX3.out.1
 obtain⟨q0,q1,q2,q3⟩:=Q4 HX3.out.2
 have HP:=Qh (Zeh _ _ m m.body[k] _ _ W3 (sMacro.below HMr.out hbc) (sTok.below HRk.out hbc))
 go_wp2_with fail
 refine HP.out.mono ?_
 rintro e W4 ⟨rfl,hb4⟩
 clear p0 p1 p2 p3 q0 q1 q2 q3 HP
 have hbd:=hbc.trans (hb4.mono hbc.size)
 have HX4:=Qh (And.intro (mbox HX.out.1 hbd) (mbox HX.out.2 hbd))
 have hk1:IntKind.i64.wrap ((k:Int)+1)=(k:Int)+1:=IntWalk.i64_in _ (by omega)
 by_cases hp:parOf m.params m.body[k]<0
 ·have HF:=Qh (Zge (raw:=raw) (ready:=ready) hk HNF.out hp)
  obtain⟨q0,q1,q2,q3⟩:=Q4 HX4.out.2
  have HL:=Qh (RowN.lit1 (S:=sTok) (e:=57) (w:=W4) (base:=w.heap.size) (x:=⟨[.int .i64 m.body[k].kind,.string m.body[k].text,.bool m.body[k].spaced,.slice ak m.body[k].hidden.length ck],m.body[k],fk⟩) (by have:=hbd.size;omega) rfl (sTok.below HRk.out hbd))
  have hbe:=(b2.trans (hbd.mono b2.size)).trans ((Zab W4 (.cells #[.int .i64 m.body[k].kind,.string m.body[k].text,.bool m.body[k].spaced,.slice ak m.body[k].hidden.length ck] 57)).mono (b2.trans (hbd.mono b2.size)).size)
  generalize parOf m.params m.body[k]=pn at *
  go_wp2
  go_ret3
  exact⟨.slice (some ⟨W4.heap.size,0,none⟩) 1 1,_,by rw [HF.out];rfl,HL.out,by rw [HF.out];rfl,λ x hx=>by obtain rfl:=Qm hx;exact HFK.out,hbe⟩
 obtain⟨n,hn,hnp⟩:=ZiW hp
 have HPN:=Qh hn
 have HPP:=Qh hp
 rw [hn]
 clear hn hp
 have hn0:¬ ((n:Int)<0):=by omega
 have HI2:Hid (∀ (cs:List Value) (x:Tok) (fp:List Nat) (W:World),sTok.R W cs x fp->Calls Tryz.prog 71 #[.agg cs.toArray,.string ⟨#[35,35]⟩] W (Says (isM x [35,35]) W)):=λ cs x fp W h=>by have:=Zda cs x fp W ⟨#[35,35]⟩ h;rw [Zgi] at this;exact this
 go_upto_region 9 with fail
 go_cut [15] from 16 (λ d wr=>d=.bool (glueL m k || glueR m k)/\Below W2.heap.size W2 wr)
 case first =>
  obtain⟨p0,p1,p2,p3⟩:=Q4 HX4.out.1
  by_cases hk0:0<k
  ·have i0:(0:Int)<(k:Int):=by omega
   have i1:IntKind.i64.wrap ((k:Int)-1)=(k:Int)-1:=IntWalk.i64_in _ (by omega)
   have i2:(0:Int)<=(k:Int)-1:=by omega
   have i3:(k:Int)-1<(m.body.length:Int):=by omega
   have i4:((k:Int)-1).toNat=k-1:=by omega
   have i5:(1:Int)<=(k:Int):=by omega
   obtain⟨xa,xc,xf,xq0,xq1,xq2,xq3,xR,xbb,-⟩:=ZaJ HB2.out (j:=k-1) (by omega)
   have x0:W4.cell? ⟨bb,ob+(k-1) * 4,none⟩=some _:=(hbd.cell (p:=⟨bb,ob+(k-1) * 4,none⟩) xbb).trans xq0
   have x1:W4.cell? ⟨bb,ob+(k-1) * 4+1,none⟩=some _:=(hbd.cell (p:=⟨bb,ob+(k-1) * 4+1,none⟩) xbb).trans xq1
   have x2:W4.cell? ⟨bb,ob+(k-1) * 4+2,none⟩=some _:=(hbd.cell (p:=⟨bb,ob+(k-1) * 4+2,none⟩) xbb).trans xq2
   have x3:W4.cell? ⟨bb,ob+(k-1) * 4+3,none⟩=some _:=(hbd.cell (p:=⟨bb,ob+(k-1) * 4+3,none⟩) xbb).trans xq3
   have HC:=Qh (HI2.out _ (m.body[k-1]'(by omega)) _ W4 (sTok.below xR hbd))
   have HG0:Hid (glueL m k=isM (m.body[k-1]'(by omega)) [35,35]):=by show _=_;unfold glueL;rw [dif_pos ⟨hk0,by omega⟩]
   clear xq0 xq1 xq2 xq3 xR
   rcases Bool.eq_false_or_eq_true (isM (m.body[k-1]'(by omega)) [35,35]) with hg | hg
   ·have HGT:Hid (glueL m k=true):=HG0.out.trans hg
    rw [hg] at HC
    clear hg HG0
    go_wp2_with fail
    refine HC.out.mono ?_
    rintro e w8 ⟨rfl,hb8⟩
    go_wp2
    go_meet
    case rel=>exact⟨by rw [HGT.out];rfl,hbd.trans (hb8.mono hbd.size)⟩
   ·have HGF:Hid (glueL m k=false):=HG0.out.trans hg
    rw [hg] at HC
    clear hg HG0
    go_wp2_with fail
    refine HC.out.mono ?_
    rintro e w8 ⟨rfl,hb8⟩
    have hbf:=hbd.trans (hb8.mono hbd.size)
    clear p0 p1 p2 p3 x0 x1 x2 x3
    have HXr:=Qh (mbox HX.out.1 hbf)
    obtain⟨r0,r1,r2,r3⟩:=Q4 HXr.out
    by_cases hk2:k+1<m.body.length
    ·have i1:(0:Int)<=(k:Int)+1:=by omega
     have i2:(k:Int)+1<(m.body.length:Int):=by omega
     have i3:((k:Int)+1).toNat=k+1:=by omega
     obtain⟨ya,yc,yf,yq0,yq1,yq2,yq3,yR,ybb,-⟩:=ZaJ HB2.out (j:=k+1) hk2
     have y0:w8.cell? ⟨bb,ob+(k+1) * 4,none⟩=some _:=(hbf.cell (p:=⟨bb,ob+(k+1) * 4,none⟩) ybb).trans yq0
     have y1:w8.cell? ⟨bb,ob+(k+1) * 4+1,none⟩=some _:=(hbf.cell (p:=⟨bb,ob+(k+1) * 4+1,none⟩) ybb).trans yq1
     have y2:w8.cell? ⟨bb,ob+(k+1) * 4+2,none⟩=some _:=(hbf.cell (p:=⟨bb,ob+(k+1) * 4+2,none⟩) ybb).trans yq2
     have y3:w8.cell? ⟨bb,ob+(k+1) * 4+3,none⟩=some _:=(hbf.cell (p:=⟨bb,ob+(k+1) * 4+3,none⟩) ybb).trans yq3
     have HC:=Qh (HI2.out _ (m.body[k+1]'hk2) _ w8 (sTok.below yR hbf))
     have HG:Hid (glueR m k=isM (m.body[k+1]'hk2) [35,35]):=by show _=_;unfold glueR;rw [dif_pos hk2]
     clear yq0 yq1 yq2 yq3 yR
     go_wp2_with fail
     refine HC.out.mono ?_
     rintro e w9 ⟨rfl,hb9⟩
     go_wp2
     go_meet
     case rel=>exact⟨by rw [HGF.out,HG.out];simp,hbf.trans (hb9.mono hbf.size)⟩
    ·have i2:¬ ((k:Int)+1<(m.body.length:Int)):=by omega
     have HG:Hid (glueR m k=false):=by show _=_;unfold glueR;rw [dif_neg hk2]
     go_wp2
     go_meet
     case rel=>exact⟨by rw [HGF.out,HG.out];rfl,hbf⟩
  ·have i0:¬ (0:Int)<(k:Int):=by omega
   have HGF:Hid (glueL m k=false):=by show _=_;unfold glueL;rw [dif_neg (λ h=>hk0 h.1)]
   clear p0 p1 p2 p3
   have HXr:=Qh (mbox HX.out.1 hbd)
   obtain⟨r0,r1,r2,r3⟩:=Q4 HXr.out
   by_cases hk2:k+1<m.body.length
   ·have i1:(0:Int)<=(k:Int)+1:=by omega
    have i2:(k:Int)+1<(m.body.length:Int):=by omega
    have i3:((k:Int)+1).toNat=k+1:=by omega
    obtain⟨ya,yc,yf,yq0,yq1,yq2,yq3,yR,ybb,-⟩:=ZaJ HB2.out (j:=k+1) hk2
    have y0:W4.cell? ⟨bb,ob+(k+1) * 4,none⟩=some _:=(hbd.cell (p:=⟨bb,ob+(k+1) * 4,none⟩) ybb).trans yq0
    have y1:W4.cell? ⟨bb,ob+(k+1) * 4+1,none⟩=some _:=(hbd.cell (p:=⟨bb,ob+(k+1) * 4+1,none⟩) ybb).trans yq1
    have y2:W4.cell? ⟨bb,ob+(k+1) * 4+2,none⟩=some _:=(hbd.cell (p:=⟨bb,ob+(k+1) * 4+2,none⟩) ybb).trans yq2
    have y3:W4.cell? ⟨bb,ob+(k+1) * 4+3,none⟩=some _:=(hbd.cell (p:=⟨bb,ob+(k+1) * 4+3,none⟩) ybb).trans yq3
    have HC:=Qh (HI2.out _ (m.body[k+1]'hk2) _ W4 (sTok.below yR hbd))
    have HG:Hid (glueR m k=isM (m.body[k+1]'hk2) [35,35]):=by show _=_;unfold glueR;rw [dif_pos hk2]
    clear yq0 yq1 yq2 yq3 yR
    go_wp2_with fail
    refine HC.out.mono ?_
    rintro e w9 ⟨rfl,hb9⟩
    go_wp2
    go_meet
    case rel=>exact⟨by rw [HGF.out,HG.out];simp,hbd.trans (hb9.mono hbd.size)⟩
   ·have i2:¬ ((k:Int)+1<(m.body.length:Int)):=by omega
    have HG:Hid (glueR m k=false):=by show _=_;unfold glueR;rw [dif_neg hk2]
    go_wp2
    go_meet
    case rel=>exact⟨by rw [HGF.out,HG.out];rfl,hbd⟩
 obtain⟨rfl,hbe⟩:=hcut
 generalize wc=W5 at *
 have HX5:=Qh (And.intro (mbox HX.out.1 hbe) (mbox HX.out.2 hbe))
 clear HX4 hbd HX3 hbc HI2
 cases hg:(glueL m k || glueR m k)
 ·skip
  have HF:=Qh (Zfw (raw:=raw) (ready:=ready) hk HNF.out (by have:=HPP.out;omega) hg)
  have hnr:n<ready.length:=by have:=hraw.out;have:=hrdy.out;omega
  have HAR:=Qh (Zdw (a:=ready) HPN.out hnr)
  obtain⟨ar,cr,rfl,-,-,hrowR⟩:=Zac HYY.out
  obtain⟨br,orr,-,rfl,-,-,-⟩:=hrowR (by omega)
  obtain⟨aj,cj,fj,dq,Rj,hbr,hfj⟩:=Zb5 HYY.out hnr
  have hjl:(ready[n]).length<=60:=(Zam (HYA.out _ (List.getElem_mem hnr))).1
  have HSP:=Qh (λ (U:World) (hU:Below W5.heap.size W5 U)=>Zdz _ ready[n] fj U m.body[k].spaced (by omega) ((Zaa sTok).below ((Zaa sTok).below Rj hbe) hU))
  have HFJ:Hid (∀ b∈fj,b<B):=λ b hb=>HLy.out b (hfj b hb)
  have d0:W5.drew.cell? ⟨br,orr+n,none⟩=some (.slice aj (ready[n]).length cj):=(hbe.cell (p:=⟨br,orr+n,none⟩) hbr).trans dq
  have t2:W5.drew.cell? ⟨w.heap.size+1,2,none⟩=some (.bool m.body[k].spaced):=Qc 2 HX5.out.2
  have hcs:Below W5.heap.size W5 W5.drew:=Zag (Below.refl _ _) 1
  have hz:W2.heap.size<=W5.heap.size:=hbe.size
  have HK1:∀ U:World,Below W5.drew.heap.size W5.drew U->U.cell? ⟨br,orr+n,none⟩=some (.slice aj (ready[n]).length cj)/\U.cell? ⟨w.heap.size+1,2,none⟩=some (.bool m.body[k].spaced):=λ U hU=>⟨(hU.cell (by show _<W5.heap.size;simp only;omega)).trans d0,(hU.cell (by show _<W5.heap.size;simp only;omega)).trans t2⟩
  have i6:(0:Int)<=(n:Int):=by omega
  have i7:(n:Int)<(ready.length:Int):=by omega
  have i8:n<ready.length:=hnr
  clear dq Rj hfj hrowR hg
  go_wp2_with fail
  go_region_held3 (λ w'=>w'.cell? ⟨br,orr+n,none⟩=some (.slice aj (ready[n]).length cj)/\w'.cell? ⟨w.heap.size+1,2,none⟩=some (.bool m.body[k].spaced))
   (first | (with_reducible exact⟨d0,t2⟩) | (with_reducible exact HK1 _ hb9))
   (first | (go_at_call 103;(with_reducible refine (HSP.out _ hcs).mono ?_);rintro e w9 ⟨v9,L9,rfl,HR9,HD9,HF9,hb9⟩;obtain⟨a9,c9,rfl,-⟩:=HR9.val))
  exact Y14A3
 ·skip
  have HF:=Qh (Zhm (raw:=raw) (ready:=ready) hk HNF.out (by have:=HPP.out;omega) hg)
  have hnr:n<raw.length:=by have:=hraw.out;have:=hrdy.out;omega
  have HAR:=Qh (Zdw (a:=raw) HPN.out hnr)
  obtain⟨ar,cr,rfl,-,-,hrowR⟩:=Zac HRR.out
  obtain⟨br,orr,-,rfl,-,-,-⟩:=hrowR (by omega)
  obtain⟨aj,cj,fj,dq,Rj,hbr,hfj⟩:=Zb5 HRR.out hnr
  have hjl:(raw[n]).length<=60:=(Zam (HRA.out _ (List.getElem_mem hnr))).1
  have HSP:=Qh (λ (U:World) (hU:Below W5.heap.size W5 U)=>Zdz _ raw[n] fj U m.body[k].spaced (by omega) ((Zaa sTok).below ((Zaa sTok).below Rj hbe) hU))
  have HFJ:Hid (∀ b∈fj,b<B):=λ b hb=>HLr.out b (hfj b hb)
  have d0:W5.drew.cell? ⟨br,orr+n,none⟩=some (.slice aj (raw[n]).length cj):=(hbe.cell (p:=⟨br,orr+n,none⟩) hbr).trans dq
  have t2:W5.drew.cell? ⟨w.heap.size+1,2,none⟩=some (.bool m.body[k].spaced):=Qc 2 HX5.out.2
  have hcs:Below W5.heap.size W5 W5.drew:=Zag (Below.refl _ _) 1
  have hz:W2.heap.size<=W5.heap.size:=hbe.size
  have HK1:∀ U:World,Below W5.drew.heap.size W5.drew U->U.cell? ⟨br,orr+n,none⟩=some (.slice aj (raw[n]).length cj)/\U.cell? ⟨w.heap.size+1,2,none⟩=some (.bool m.body[k].spaced):=λ U hU=>⟨(hU.cell (by show _<W5.heap.size;simp only;omega)).trans d0,(hU.cell (by show _<W5.heap.size;simp only;omega)).trans t2⟩
  have i6:(0:Int)<=(n:Int):=by omega
  have i7:(n:Int)<(raw.length:Int):=by omega
  have i8:n<raw.length:=hnr
  clear dq Rj hfj hrowR hg
  go_wp2_with fail
  go_region_held3 (λ w'=>w'.cell? ⟨br,orr+n,none⟩=some (.slice aj (raw[n]).length cj)/\w'.cell? ⟨w.heap.size+1,2,none⟩=some (.bool m.body[k].spaced))
   (first | (with_reducible exact⟨d0,t2⟩) | (with_reducible exact HK1 _ hb9))
   (first | (go_at_call 103;(with_reducible refine (HSP.out _ hcs).mono ?_);rintro e w9 ⟨v9,L9,rfl,HR9,HD9,HF9,hb9⟩;obtain⟨a9,c9,rfl,-⟩:=HR9.val))
  exact Y14A3
end Go.Proofs.YtiaiggjfepoahaaGreat
