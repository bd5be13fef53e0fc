/- Texts that the proof of P stands on, in one file. -/
import Derived.Laws.AppendOwnNone
import Derived.Test.YtiaiggjfepoahaaGreatZP8
import Derived.Laws.ResultCell
set_option linter.unusedVariables false
set_option maxHeartbeats 16000000
set_option maxRecDepth 100000
set_option linter.unusedSimpArgs false
/- SameMacro of both. -/
namespace Go.Proofs.YtiaiggjfepoahaaGreat
open Go.RowKit
/-! ### Lists that agree at every place -/
def EqU {α β:Type} (f:α->β) (a b:List α) (k:Nat):Prop:=∀ j,(h:j<a.length)->(h':j<b.length)->j<k->f a[j]=f b[j]
section
variable {α β:Type} {f:α->β} {a b:List α} {k:Nat}
theorem EqU.zero (f:α->β) (a b:List α):EqU f a b 0:=by intro j _ _ h;omega
theorem EqU.succ (h:EqU f a b k) (h1:k<a.length) (h2:k<b.length) (e:f a[k]=f b[k]):EqU f a b (k+1):=by
 intro j hj hj' hjk
 by_cases e':j=k
 ·subst e';exact e
 ·exact h j hj hj' (by omega)
theorem EqU.yes (h:EqU f a b k) (hl:a.length=b.length) (hk:a.length<=k):a.map f=b.map f:=by
 refine List.ext_getElem (by simpa using hl) λ i h1 h2=>?_
 simp only [List.length_map] at h1 h2
 rw [List.getElem_map,List.getElem_map]
 exact h i h1 h2 (by omega)
theorem eqU_no (h1:k<a.length) (h2:k<b.length) (e:f a[k]≠f b[k]):a.map f≠b.map f:=by
 intro e'
 have:=List.getElem_of_eq e' (i:=k) (by simpa using h1)
 rw [List.getElem_map,List.getElem_map] at this
 exact e this
end
def spOf (t:Tok):Bool:=t.spaced
def Zca (a b:List Tok):Bool:=ZaZ a b && decide (a.map spOf=b.map spOf)
def Zbp (x y:DMacro):Bool:=decide (x.name=y.name) && decide (x.function=y.function) && decide (x.params=y.params) && Zca x.body y.body
theorem ZmQ {a b:List Tok} (h:ZaZ a b=true):a.length=b.length:=by
 by_cases e:a.length=b.length
 ·exact e
 ·rw [Zg7 e] at h;simp at h
theorem Zkx {x y:DMacro} (h:x.name≠y.name):Zbp x y=false:=by unfold Zbp;rw [decide_eq_false h];rfl
theorem ZlA {x y:DMacro} (h:x.function≠y.function):Zbp x y=false:=by unfold Zbp;rw [decide_eq_false h,Bool.and_false];rfl
theorem ZgU {x y:DMacro} (h:x.params≠y.params):Zbp x y=false:=by unfold Zbp;rw [decide_eq_false h,Bool.and_false];rfl
theorem ZgV {x y:DMacro} (h:Zca x.body y.body=false):Zbp x y=false:=by unfold Zbp;rw [h,Bool.and_false]
theorem ZlB {x y:DMacro} (h0:x.name=y.name) (h1:x.function=y.function) (h2:x.params=y.params) (h3:Zca x.body y.body=true):Zbp x y=true:=by
 unfold Zbp;rw [h3,decide_eq_true h0,decide_eq_true h1,decide_eq_true h2];rfl
theorem ZlC {a b:List Tok} (h:ZaZ a b=false):Zca a b=false:=by unfold Zca;rw [h];rfl
theorem ZlD {a b:List Tok} (h:a.map spOf≠b.map spOf):Zca a b=false:=by unfold Zca;rw [decide_eq_false h,Bool.and_false]
theorem Zky {a b:List Tok} (h:ZaZ a b=true) (h2:a.map spOf=b.map spOf):Zca a b=true:=by unfold Zca;rw [h,decide_eq_true h2];rfl
/-! ### slices.Equal at texts -/
theorem blk2 {w w':World} {a b:Nat} {x y:Obj} (h:w.heap[a]?=some x/\w.heap[b]?=some y) (hb:Below w.heap.size w w'):w'.heap[a]?=some x/\w'.heap[b]?=some y:=
 ⟨(hb.block _ (Qg h.1).1).trans h.1,(hb.block _ (Qg h.2).1).trans h.2⟩
theorem ZiL (cs1 cs2:List Value) (x y:DMacro) (fp1 fp2:List Nat) (w:World) (H1:sMacro.R w cs1 x fp1) (H2:sMacro.R w cs2 y fp2) :
  Calls Tryz.prog 84 #[.agg cs1.toArray,.agg cs2.toArray] w (Says (Zbp x y) w):=by
 obtain⟨h2,h3,fpa2,fpa3,rfl,-,K2,K3,rfl⟩:=H1
 obtain⟨g2,g3,fpb2,fpb3,rfl,-,L2,L3,rfl⟩:=H2
 have HS:=Qh (λ W (hW:Below w.heap.size w W)=>Ziu _ _ x.body y.body _ _ W ((Zaa sTok).below K3 hW) ((Zaa sTok).below L3 hW))
 obtain⟨a2,ca2,rfl,hc2,hm2,hr2,-⟩:=Zaf K2
 obtain⟨a3,ca3,rfl,hc3,hm3,hr3⟩:=Zac K3
 obtain⟨d2,cd2,rfl,hcd2,hmd2,hs2,-⟩:=Zaf L2
 obtain⟨d3,cd3,rfl,hcd3,hmd3,hs3⟩:=Zac L3
 unfold maxLen at hm2 hm3 hmd2 hmd3
 have b0:=Zab w (.cells #[.string x.name,.bool x.function,.slice a2 x.params.length ca2,.slice a3 x.body.length ca3] 70)
 have b1:=b0.trans ((Zab (w.alloc (.cells #[.string x.name,.bool x.function,.slice a2 x.params.length ca2,.slice a3 x.body.length ca3] 70)) (.cells #[.string y.name,.bool y.function,.slice d2 y.params.length cd2,.slice d3 y.body.length cd3] 70)).mono b0.size)
 have HX:=Qh (ZbI w #[.string x.name,.bool x.function,.slice a2 x.params.length ca2,.slice a3 x.body.length ca3] #[.string y.name,.bool y.function,.slice d2 y.params.length cd2,.slice d3 y.body.length cd3] 70 70)
 clear K2 K3 L2 L3 b0
 by_cases e0:x.name=y.name
 rotate_left
 ·have g0:=ZaU e0
  have HF:=Qh (Zkx e0)
  clear e0
  go_enter Tryz.func84,Tryz.ntmps84
  go_wp2
  go_ret
  exact⟨Zad HF.out.symm,b1⟩
 have g0:=ZaP e0
 by_cases e1:x.function=y.function
 rotate_left
 ·have g1:(x.function==y.function)=false:=by simp [e1]
  have HF:=Qh (ZlA e1)
  clear e0 e1
  go_enter Tryz.func84,Tryz.ntmps84
  go_wp2
  go_ret
  exact⟨Zad HF.out.symm,b1⟩
 have g1:(x.function==y.function)=true:=by simp [e1]
 by_cases e2:x.params.length=y.params.length
 rotate_left
 ·have g2:((x.params.length:Int) != (y.params.length:Int))=true:=by simp;omega
  have HF:=Qh (ZgU (λ h=>e2 (by rw [h]):x.params≠y.params))
  clear e0 e1 e2
  go_enter Tryz.func84,Tryz.ntmps84
  go_wp2
  go_ret
  exact⟨Zad HF.out.symm,b1⟩
 have g2:((x.params.length:Int) != (y.params.length:Int))=false:=by simp [e2]
 cases e3:ZaZ x.body y.body
 ·rw [e3] at HS
  have HF:=Qh (ZgV (ZlC e3))
  clear e0 e1 e2 e3
  go_enter Tryz.func84,Tryz.ntmps84
  go_wp2_with fail
  refine (HS.out _ b1).mono ?_
  rintro e w2 ⟨rfl,c2⟩
  go_wp2
  go_ret
  exact⟨Zad HF.out.symm,b1.trans (c2.mono b1.size)⟩
 rw [e3] at HS
 have HL2:=Qh e2
 have HL3:=Qh (ZmQ e3)
 have HY:Hid (x.params=y.params->x.body.map spOf=y.body.map spOf->Zbp x y=true):=λ h h'=>ZlB e0 e1 h (Zky e3 h')
 clear e0 e1 e2 e3
 go_enter Tryz.func84,Tryz.ntmps84
 go_wp2_with fail
 refine (HS.out _ b1).mono ?_
 rintro e w2 ⟨rfl,c2⟩
 have d2':=b1.trans (c2.mono b1.size)
 replace HX:=Qh (blk2 HX.out c2)
 clear c2 HS b1 g0 g1 g2
 go_wp2_with fail
 go_loopw [5] (λ i wr=>∃ k:Nat,k<=x.params.length/\i=.int .i64 k/\Hid (EqU id x.params y.params k)/\Below w2.heap.size w2 wr) (λ i _=>x.params.length-(intOf i).toNat)
 case atStart=>exact⟨0,by omega,rfl,EqU.zero _ _ _,Below.refl _ _⟩
 case round =>
  obtain⟨k,hk,rfl,hall,hb⟩:=hrel
  have HXr:=Qh (blk2 HX.out hb)
  have qa2:=Qc 2 HXr.out.1
  have qb2:=Qc 2 HXr.out.2
  have d2r:=d2'.trans (hb.mono d2'.size)
  by_cases hlt:k<x.params.length
  ·have hlt2:k<y.params.length:=by have:=HL2.out;omega
   obtain⟨p1,o1,rfl,hp1,-,he1⟩:=hr2 (by omega)
   obtain⟨p2,o2,rfl,hp2,-,he2⟩:=hs2 (by omega)
   have c1:wr.cell? ⟨p1,o1+k,none⟩=some (.string x.params[k]):=(World.cell?_of_block (d2r.block p1 hp1)).trans (he1 k hlt)
   have c2:wr.cell? ⟨p2,o2+k,none⟩=some (.string y.params[k]):=(World.cell?_of_block (d2r.block p2 hp2)).trans (he2 k hlt2)
   clear hr2 hs2 he1 he2
   by_cases e:x.params[k]=y.params[k]
   ·have q:=ZaP e
    have hn:=Qh (hall.out.succ hlt hlt2 e)
    clear e hall
    go_wp2
    go_quiet (fail)
    go_wp2
    go_roundw
    case rel=>exact⟨k+1,by omega,by go_num,hn,Zag hb _⟩
    case measure=>simp [intOf];omega
   ·have q:=ZaU e
    have HF:=Qh (ZgU (λ h=>eqU_no (f:=id) hlt hlt2 e (by rw [h])))
    clear e hall
    go_wp2
    go_quiet (fail)
    go_wp2
    go_ret
    exact⟨Zad HF.out.symm,Zag d2r _⟩
  ·have hpar:x.params.map id=y.params.map id:=hall.out.yes HL2.out (by omega)
   rw [List.map_id,List.map_id] at hpar
   replace HY:=Qh (HY.out hpar)
   clear hall hpar hr2 hs2
   go_wp2
   go_loopw [6] (λ i w3=>∃ k:Nat,k<=x.body.length/\i=.int .i64 k/\Hid (EqU spOf x.body y.body k)/\Below wr.heap.size wr w3) (λ i _=>x.body.length-(intOf i).toNat)
   case atStart=>exact⟨0,by omega,rfl,EqU.zero _ _ _,Below.refl _ _⟩
   case round =>
    clear qa2 qb2
    obtain⟨j,hj,rfl,hall,hb2⟩:=hrel
    have HX3:=Qh (blk2 HXr.out hb2)
    have qa3:=Qc 3 HX3.out.1
    have qb3:=Qc 3 HX3.out.2
    have d3r:=d2r.trans (hb2.mono d2r.size)
    by_cases hlt:j<x.body.length
    ·have hlt2:j<y.body.length:=by have:=HL3.out;omega
     obtain⟨b1,off1,fps1,rfl,hb1,-,he1⟩:=hr3 (by omega)
     obtain⟨b2,off2,fps2,rfl,hb2',-,he2⟩:=hs3 (by omega)
     obtain⟨es1,hE1,hR1⟩:=he1 j hlt
     obtain⟨es2,hE2,hR2⟩:=he2 j hlt2
     clear hr3 hs3 he1 he2
     obtain⟨h1,rfl,_,_,_⟩:=hR1
     obtain⟨h2,rfl,_,_,_⟩:=hR2
     replace hE1:=hE1.frame (d3r.block b1 hb1)
     replace hE2:=hE2.frame (d3r.block b2 hb2')
     have c12:wr.cell? ⟨b1,off1+j * 4+2,none⟩=some _:=Zae (j:=2) hE1 (by decide) rfl
     have c22:wr.cell? ⟨b2,off2+j * 4+2,none⟩=some _:=Zae (j:=2) hE2 (by decide) rfl
     clear hE1 hE2
     by_cases e:x.body[j].spaced=y.body[j].spaced
     ·have q1:(x.body[j].spaced==y.body[j].spaced)=true:=by simp [e]
      have hn:=Qh (hall.out.succ hlt hlt2 e)
      clear e hall
      go_wp2
      go_quiet (fail)
      go_wp2
      go_roundw
      case rel=>exact⟨j+1,by omega,by go_num,hn,Zag hb2 _⟩
      case measure=>simp [intOf];omega
     ·have q1:(x.body[j].spaced==y.body[j].spaced)=false:=by simp [e]
      have HF:=Qh (ZgV (ZlD (eqU_no (f:=spOf) hlt hlt2 e)))
      clear e hall
      go_wp2
      go_quiet (fail)
      go_wp2
      go_ret
      exact⟨Zad HF.out.symm,Zag d3r _⟩
    ·have HF:=Qh (HY.out (hall.out.yes HL3.out (by omega)))
     clear hall
     go_wp2
     go_ret
     exact⟨Zad HF.out.symm,d3r⟩
theorem Za0 {α:Type} {S:Shape α} {w:World} {a:Option Addr} {len cap:Nat} {l:List α} {fp:List Nat} (i:Nat) (hi:i<=l.length) (H:(Zaa S).R w [.slice a len cap] l fp) :
  ∃ fp',(Zaa S).R w [.slice (if cap=i then a else a.map (·.add (i * S.m))) (len-i) (cap-i)] (l.drop i) fp'/\∀ b∈fp',b∈fp:=by
 obtain⟨a',cap',hv,hc,hm,h⟩:=H
 simp only [List.cons.injEq,Value.slice.injEq,and_true] at hv
 obtain⟨rfl,rfl,rfl⟩:=hv
 have hl:(l.drop i).length=l.length-i:=by simp
 by_cases h0:i=l.length
 ·refine ⟨[],⟨_,_,by rw [hl],by rw [hl];omega,by omega,.inl ⟨?_,rfl⟩⟩,by simp⟩
  subst h0;simp
 ·rcases h with⟨rfl,_⟩ | ⟨_,b,off,fps,ha,rfl,hb,he⟩
  ·simp at hi;simp at h0;omega
  ·subst ha
   refine ⟨b::(List.range (l.length-i)).flatMap λ j=>fps (i+j),⟨_,_,by rw [hl],by rw [hl];omega,by omega,.inr ⟨by omega,b,off+i * S.m,λ j=>fps (i+j),?_,by rw [hl],hb,λ j hj=>?_⟩⟩,?_⟩
   ·rw [if_neg (by omega),Option.map_some,Addr.add_lit]
   ·rw [hl] at hj
    obtain⟨es,h1,h2⟩:=he (i+j) (by omega)
    refine ⟨es,⟨h1.1,λ x hx=>?_⟩,by rw [List.getElem_drop];exact h2⟩
    rw [← h1.2 x hx]
    congr 2
    rw [Nat.add_mul];omega
   ·intro x hx
    rcases List.mem_cons.1 hx with rfl | hx
    ·simp
    ·obtain⟨j,hj,hx⟩:=List.mem_flatMap.1 hx
     refine List.mem_cons_of_mem _ (List.mem_flatMap.2 ⟨i+j,?_,hx⟩)
     simp only [List.mem_range] at hj ⊢
     omega
theorem Zcb {α:Type} {S:Shape α} {P:Program} {t e:TypeId} {z:Value} {bytes:Nat} (ti:TI P t e z S.m bytes) (hzs:z.cells.size=S.m) (h0:0<S.m) (w:World) {L X:List (Elem α)} {ops:Array Oper} {o:Oper} {a:Act} {K:Act->World->Prop} {Q:Exit->Act->World->Prop} {E:Prop}
  (d:Nat) (hdst:o.dst=some d) (hg:o.guard=none) (s y:Operand) (ho:o.op=.call { callee:=.builtin .append,args:=#[s,y],argTypes:=#[t,t] })
  (base:Nat) (v:Value) (hs:a.eval s=v) (hown:RowG S base e v L w) (g off m c:Nat) (hy:a.eval y=.slice (some ⟨g,off,none⟩) m c) (hm:X.length=m)
  (hX:∀ x∈X,x.cells.length=S.m/\S.R w x.cells x.d x.fp/\∀ b∈x.fp,b<base) (h1:∀ x∈X,∀ u∈x.cells,u.oneCell'=true) (hcell:∀ j u,(X.flatMap (·.cells))[j]?=some u->w.cell? ⟨g,off+j,none⟩=some u)
  (h63:L.length+m<=maxLen) (hbytes:(L.length+m) * bytes<=140737488355328) (hbase:base<=w.heap.size)
  (h:∀ v' w',RowG S base e v' (L++X) w'->w.grownBy w' v.ownBlock->K (a.put (some d) v') w'):if Region.wanted o (yielded ops a.tmps)=true then Oper.wp P o a w K Q else E:=by
 rw [← hdst] at h
 have hwt:Region.wanted o (yielded ops a.tmps)=true:=by simp [Region.wanted,hg]
 obtain⟨i,hi,hz0,hz1,hz2⟩:=info_parts ti.2
 subst hm
 rw [if_pos hwt]
 refine wp_append_own w s y t ho base e i z S.m bytes ti.1 hi hz0 hz1 hz2 hzs h0 v L.length _ hs hown.row ⟨g,off,none⟩ X.length c (X.flatMap (·.cells)) hy (ZaB (f:=Elem.cells) λ x hx=>(hX x hx).1) ?_ ?_ h63 hbytes hbase λ v' w' r1 r2 _=>h v' w' ?_ r2
 ·intro j u hj
  rw [Addr.add_lit]
  exact hcell j u hj
 ·intro u hu
  obtain⟨x,hx,hu⟩:=List.mem_flatMap.1 hu
  exact h1 x hx u hu
 ·refine hown.appended ?_ r2 hX
  rw [List.length_append,List.flatMap_append]
  exact r1
theorem ZgG {P:Program} {w:World} (base:Nat) (t ty e:TypeId) (i:TypeInfo) (size c:Nat) (ht:P.underlying t=some (.slice e)) (hi:P.info? e=some i)
  (v:Value) (n:Nat) (xs:List Value) (hown:w.ownsRow base e size v n xs):(Builtin.append_ #[t,t] ty #[v,.slice none 0 c]).run P w=.ok v w:=by
 rcases hown.2 with⟨rfl,rfl⟩ | ⟨g,cap,cur,rfl,_,_,hnc,_⟩
 ·simp [Builtin.append_,run_underlying ht,sizeOf,typeInfo,hi,Builtin.lenOf,Builtin.firstCells]
 ·simp [Builtin.append_,run_underlying ht,sizeOf,typeInfo,hi,Builtin.lenOf,Builtin.firstCells,hnc,storeCells]
theorem ZaL {α:Type} {S:Shape α} {P:Program} {t e:TypeId} {z:Value} {bytes:Nat} (ti:TI P t e z S.m bytes) (hzs:z.cells.size=S.m) (h0:0<S.m) (hone:∀ w cs x fp,S.R w cs x fp->∀ u∈cs,u.oneCell'=true) (w:World) {L:List (Elem α)} {ops:Array Oper} {o:Oper} {a:Act} {K:Act->World->Prop} {Q:Exit->Act->World->Prop} {E:Prop}
  (d:Nat) (hdst:o.dst=some d) (hg:o.guard=none) (s y:Operand) (ho:o.op=.call { callee:=.builtin .append,args:=#[s,y],argTypes:=#[t,t] })
  (base:Nat) (v u:Value) (M:List α) (fp:List Nat) (hs:a.eval s=v) (hown:RowG S base e v L w) (hy:a.eval y=u) (HM:(Zaa S).R w [u] M fp) (hfp:∀ b∈fp,b<base)
  (h63:L.length+M.length<=maxLen) (hbytes:(L.length+M.length) * bytes<=140737488355328) (hbase:base<=w.heap.size)
  (h:∀ v' X w',X.map (·.d)=M->(∀ x∈X,∀ b∈x.fp,b∈fp)->RowG S base e v' (L++X) w'->w.grownBy w' v.ownBlock->K (a.put (some d) v') w'):if Region.wanted o (yielded ops a.tmps)=true then Oper.wp P o a w K Q else E:=by
 rw [← hdst] at h
 have hwt:Region.wanted o (yielded ops a.tmps)=true:=by simp [Region.wanted,hg]
 obtain⟨X,ad,cap,hXM,hXl,rfl,hmm,hX,hat⟩:=Zkw HM
 rw [← hXl] at h63 hbytes
 by_cases hM:0<M.length
 ·obtain⟨b,off,rfl,hb,hE⟩:=hat hM
  refine Zcb ti hzs h0 w (X:=X) d hdst hg s y ho base v hs hown b off M.length cap hy hXl (λ x hx=>⟨(hX x hx).1,(hX x hx).2.1,λ c hc=>hfp c ((hX x hx).2.2 c hc)⟩) (λ x hx=>hone _ _ _ _ (hX x hx).2.1) ?_ (by rw [← hXl];exact h63) (by rw [← hXl];exact hbytes) hbase λ v' w' r1 r2=>by rw [← hdst];exact h v' X w' hXM (λ x hx=>(hX x hx).2.2) r1 r2
  intro j u hj
  have hjl:j<X.length * S.m:=by
   have:=(List.getElem?_eq_some_iff.1 hj).1
   rwa [ZaB (f:=Elem.cells) λ x hx=>(hX x hx).1] at this
  have hk:j / S.m<X.length:=Nat.div_lt_of_lt_mul (by rw [Nat.mul_comm];exact hjl)
  have hr:j % S.m<S.m:=Nat.mod_lt _ h0
  have hj2:j / S.m * S.m+j % S.m=j:=Nat.div_add_mod' _ _
  rw [← hj2,Zbu (f:=Elem.cells) (λ x hx=>(hX x hx).1) hk hr] at hj
  have:=(hE (j / S.m) hk).2 (j % S.m) hr
  rw [Nat.add_assoc,hj2] at this
  rw [this]
  exact hj
 ·have hX0:X=[]:=List.length_eq_zero_iff.1 (by omega)
  have hM0:M.length=0:=by omega
  subst hX0
  obtain⟨i,hi,hz0,hz1,hz2⟩:=info_parts ti.2
  have hdone:K (a.put o.dst v) w:=h v [] w (by simpa using hXM) (by simp) (by simpa using hown) ⟨rfl,rfl,rfl,Nat.le_refl _,λ _ _ _=>rfl⟩
  rw [hM0] at hy
  cases ad with
  |
   none =>
   have hrun:=ZgG (P:=P) (w:=w) base _ o.type _ i S.m cap ti.1 hi v L.length _ hown.row
   rw [if_pos hwt]
   unfold Oper.wp
   simp [execOp,ho,resolve,invoke,builtin,hs,hy,hrun,Result.andThen]
   exact hdone
  |
   some ad =>
   rw [if_pos hwt]
   refine wp_append_own w s y t ho base e i z S.m bytes ti.1 hi hz0 hz1 hz2 hzs h0 v L.length _ hs hown.row ad 0 cap [] hy (by simp) (by simp) (by simp) (by omega) (by simpa using hbytes) hbase λ v' w' r1 r2 _=>h v' [] w' (by simpa using hXM) (by simp) ?_ r2
   exact hown.appended (X:=[]) (by have h1':=r1;simp only [Nat.add_zero,List.append_nil] at h1' ⊢;exact h1') r2 (by simp)
def putAt (l:List DMacro) (m:DMacro) (k:Nat):List DMacro:=l.take k++[m]++l.drop k
def defM (l:List DMacro) (m:DMacro):List DMacro × Bool:=
 if tabOk l=true then
  (if macOk m=true then
   (
   if isIn l m.name=true then (l,(if h:lowAt l m.name<l.length then Zbp l[lowAt l m.name] m else false))
   else if l.length=10 then (l,false) else (putAt l m (lowAt l m.name),true))
  else (l,false))
 else ([],false)
theorem isIn_lt2 {l:List DMacro} {nm:ByteArray} (hi:isIn l nm=true):lowAt l nm<l.length:=by
 by_cases h:lowAt l nm<l.length
 ·exact h
 ·unfold isIn at hi;rw [dif_neg h] at hi;exact absurd hi (by simp)
def RetDef (r:List DMacro × Bool) (w:World) (e:Ending) (w':World):Prop:=
 ∃ (v:Value) (L:List (Elem DMacro)) (top:Nat),e=.returned (.tuple #[v,.bool r.2])/\RowG sMacro top 70 v L w'/\L.map (·.d)=r.1/\w.heap.size<=top/\top<=w'.heap.size/\(∀ x∈L,∀ b∈x.fp,w.heap.size<=b)/\Below w.heap.size w w'
theorem Y9A1 {g:Prop} (h:g:=by
 intro vq X1 x1 hXd hXf hG hgr
 have hbw:Below wd.heap.size x0 x1:=(Below.refl wd.heap.size x0).grown hgr (by omega) (λ b hb=>by have:=HGx0.out.mine b hb;omega)
 have hyx1:=hbw.size
 have HXx1:=Qh ((hbw.block w.heap.size (by omega)).trans HXx0.out)
 have HRBx1:=Qh ((Zaa sMacro).frame (w':=x1) (λ b hb=>hbw.block b (HFP.out.2.1 b hb).1) HRBx0.out)
 have HMx1:=Qh (sMacro.frame (w':=x1) (λ b hb=>hbw.block b (HFP.out.2.2 b hb).1) HMx0.out)
 have HRAx1:=Qh ((Zaa sMacro).frame (w':=x1) (λ b hb=>hbw.block b (HFP.out.1 b hb).1) HRAx0.out)
 have HN1:Hid (X1.length=n):=by show _=_;rw [← HTL.out.1,← hXd,List.length_map]
 have HX1d:=Qh hXd
 have HX1f:=Qh hXf
 clear hXd hXf
 have HBx1:=Qh (HBx0.out.trans (hbw.mono (by omega)))
 have HGx1:=Qh (show RowG sMacro (wd.heap.size) 70 vq X1 x1 from hG)
 obtain⟨aqx1,cqx1,rfl,hq⟩:=HGx1.out.val
 clear hq
 refine hK.out _ _ HXx1.out (λ hHeld=>?_)
 clear hK K hgr hG hbw
 try simp only [Qp]
 refine Qr 6 rfl (λ K hK=>?_) (by decide +kernel)
 have bl:=Zab x1 (.cells #[.string m.name,.bool m.function,.slice b2 m.params.length d2,.slice b3 m.body.length d3] 70)
 have hyx2:x1.heap.size+1<=(x1.alloc (.cells #[.string m.name,.bool m.function,.slice b2 m.params.length d2,.slice b3 m.body.length d3] 70)).heap.size:=Nat.le_of_eq (Array.size_push _).symm
 have HLx2:=Qh (heap_alloc_new x1 (.cells #[.string m.name,.bool m.function,.slice b2 m.params.length d2,.slice b3 m.body.length d3] 70))
 have HGx2:=Qh (HGx1.out.below bl)
 go_simp
 have HXx2:=Qh ((bl.block w.heap.size (by omega)).trans HXx1.out)
 have HRAx2:=Qh ((Zaa sMacro).below HRAx1.out bl)
 have HRBx2:=Qh ((Zaa sMacro).below HRBx1.out bl)
 have HMx2:=Qh (sMacro.below HMx1.out bl)
 have HBx2:=Qh (HBx1.out.trans (bl.mono HBx1.out.size))
 refine hK.out _ _ HXx2.out (λ hHeld=>?_)
 clear hK K bl
 try simp only [Qp]
 generalize (x1.alloc (.cells #[.string m.name,.bool m.function,.slice b2 m.params.length d2,.slice b3 m.body.length d3] 70))=x2 at *
 refine Qr 7 rfl (λ K hK=>?_) (by decide +kernel)
 refine Zcb (X:=[(⟨[.string m.name,.bool m.function,.slice b2 m.params.length d2,.slice b3 m.body.length d3],m,f2⟩:Elem DMacro)]) Zbt rfl (by decide) _ 73 rfl rfl (.tmp 70) (.tmp 72) rfl (wd.heap.size) (.slice aqx1 X1.length cqx1) rfl HGx2.out (x1.heap.size) 0 1 1 rfl rfl (λ x hx=>by obtain rfl:=Qm hx;exact⟨rfl,HMx2.out,λ b hb=>by have:=(HFP.out.2.2 b hb).1;omega⟩) (λ x hx=>by obtain rfl:=Qm hx;simp [Value.oneCell']) (λ j u hj=>by rw [Nat.zero_add,cell_of_row _ _ _ _ _ _ HLx2.out];simpa using hj) (by unfold maxLen;have:=HN1.out;omega) (by have:=HN1.out;omega) (by omega) ?_
 intro vq x3 hG hgr
 have hbw:Below wd.heap.size x2 x3:=(Below.refl wd.heap.size x2).grown hgr (by omega) (λ b hb=>by have:=HGx2.out.mine b hb;omega)
 have hyx3:=hbw.size
 have HXx3:=Qh ((hbw.block w.heap.size (by omega)).trans HXx2.out)
 have HRBx3:=Qh ((Zaa sMacro).frame (w':=x3) (λ b hb=>hbw.block b (HFP.out.2.1 b hb).1) HRBx2.out)
 have HBx3:=Qh (HBx2.out.trans (hbw.mono (by omega)))
 have HGx3:=Qh hG
 obtain⟨aqx3,cqx3,rfl,hq⟩:=HGx3.out.val
 clear hq
 refine hK.out _ _ HXx3.out (λ hHeld=>?_)
 clear hK K hgr hG hbw
 try simp only [Qp]
 refine Qr 11 rfl (λ K hK=>?_) (by decide +kernel)
 refine ZaL Zbt rfl (by decide) Zch _ 77 rfl rfl (.tmp 73) (.tmp 76) rfl (wd.heap.size) (.slice aqx3 (X1++[(⟨[.string m.name,.bool m.function,.slice b2 m.params.length d2,.slice b3 m.body.length d3],m,f2⟩:Elem DMacro)]).length cqx3) sv (l.drop n) fb rfl HGx3.out rfl HRBx3.out (λ b hb=>by have:=(HFP.out.2.1 b hb).1;omega) (by rw [HTL.out.2,List.length_append];simp [maxLen];have:=HN1.out;omega) (by rw [HTL.out.2,List.length_append];simp;have:=HN1.out;omega) (by omega) ?_
 intro vq X3 x4 hXd hXf hG hgr
 have hbw:Below wd.heap.size x3 x4:=(Below.refl wd.heap.size x3).grown hgr (by omega) (λ b hb=>by have:=HGx3.out.mine b hb;omega)
 have hyx4:=hbw.size
 have HXx4:=Qh ((hbw.block w.heap.size (by omega)).trans HXx3.out)
 have HBx4:=Qh (HBx3.out.trans (hbw.mono (by omega)))
 have HGx4:=Qh hG
 have HDD:Hid ((X1++[(⟨[.string m.name,.bool m.function,.slice b2 m.params.length d2,.slice b3 m.body.length d3],m,f2⟩:Elem DMacro)]++X3).map (·.d)=putAt l m n):=by show _=_;rw [List.map_append,List.map_append,HX1d.out,hXd];rfl
 have HLL:Hid (∀ x∈X1++[(⟨[.string m.name,.bool m.function,.slice b2 m.params.length d2,.slice b3 m.body.length d3],m,f2⟩:Elem DMacro)]++X3,∀ b∈x.fp,w.heap.size<=b):=λ x hx b hb=>by
  rcases Qa hx with hx | hx
  ·rcases Qa hx with hx | hx
   ·exact(HFP.out.1 b (HX1f.out x hx b hb)).2
   ·obtain rfl:=Qm hx;exact(HFP.out.2.2 b hb).2
  ·exact(HFP.out.2.1 b (hXf x hx b hb)).2
 clear hXd hXf
 refine hK.out _ _ HXx4.out (λ hHeld=>?_)
 clear hK K hgr hG hbw
 try simp only [Qp]
 refine Qt 12 4 rfl rfl ?_
 try simp only [Qp]
 refine Qt 13 5 rfl rfl ?_
 try simp only [Qp]
 refine wpAnyH_done (by kernel_rfl) ?_ _
 refine NoPanic.normal ?_
 clear hHeld
 go_wp2
 go_ret2
 exact⟨_,_,_,by rw [HD.out];rfl,HGx4.out,by rw [HD.out];exact HDD.out,by omega,by omega,HLL.out,HBx4.out⟩):g:=h
theorem Y9A2 {g:Prop} (h:g:=by
 intro vq X1 x11 hXd hXf hG hgr
 have hbw:Below wd.heap.size x10 x11:=(Below.refl wd.heap.size x10).grown hgr (by omega) (λ b hb=>by have:=HGx10.out.mine b hb;omega)
 have hyx11:=hbw.size
 have HXx11:=Qh ((hbw.block w.heap.size (by omega)).trans HXx10.out)
 have HRBx11:=Qh ((Zaa sMacro).frame (w':=x11) (λ b hb=>hbw.block b (HFP.out.2.1 b hb).1) HRBx10.out)
 have HMx11:=Qh (sMacro.frame (w':=x11) (λ b hb=>hbw.block b (HFP.out.2.2 b hb).1) HMx10.out)
 have HRAx11:=Qh ((Zaa sMacro).frame (w':=x11) (λ b hb=>hbw.block b (HFP.out.1 b hb).1) HRAx10.out)
 have HLx11:=Qh ((hgr.block (wd.heap.size) (by omega) (by simp [Value.ownBlock];omega)).trans HLx10.out)
 have HN1:Hid (X1.length=n):=by show _=_;rw [← HTL.out.1,← hXd,List.length_map]
 have HX1d:=Qh hXd
 have HX1f:=Qh hXf
 clear hXd hXf
 have HBx11:=Qh (HBx10.out.trans (hbw.mono (by omega)))
 have HGx11:=Qh (show RowG sMacro (x9.heap.size) 70 vq X1 x11 from hG)
 obtain⟨aqx11,cqx11,rfl,hq⟩:=HGx11.out.val
 clear hq
 refine hK.out _ _ HXx11.out (λ hHeld=>?_)
 clear hK K hgr hG hbw
 try simp only [Qp]
 refine Qr 7 rfl (λ K hK=>?_) (by decide +kernel)
 refine Zcb (X:=[(⟨[.string m.name,.bool m.function,.slice b2 m.params.length d2,.slice b3 m.body.length d3],m,f2⟩:Elem DMacro)]) Zbt rfl (by decide) _ 73 rfl rfl (.tmp 70) (.tmp 72) rfl (x9.heap.size) (.slice aqx11 X1.length cqx11) rfl HGx11.out (wd.heap.size) 0 1 1 rfl rfl (λ x hx=>by obtain rfl:=Qm hx;exact⟨rfl,HMx11.out,λ b hb=>by have:=(HFP.out.2.2 b hb).1;omega⟩) (λ x hx=>by obtain rfl:=Qm hx;simp [Value.oneCell']) (λ j u hj=>by rw [Nat.zero_add,cell_of_row _ _ _ _ _ _ HLx11.out];simpa using hj) (by unfold maxLen;have:=HN1.out;omega) (by have:=HN1.out;omega) (by omega) ?_
 intro vq x12 hG hgr
 have hbw:Below wd.heap.size x11 x12:=(Below.refl wd.heap.size x11).grown hgr (by omega) (λ b hb=>by have:=HGx11.out.mine b hb;omega)
 have hyx12:=hbw.size
 have HXx12:=Qh ((hbw.block w.heap.size (by omega)).trans HXx11.out)
 have HRBx12:=Qh ((Zaa sMacro).frame (w':=x12) (λ b hb=>hbw.block b (HFP.out.2.1 b hb).1) HRBx11.out)
 have HBx12:=Qh (HBx11.out.trans (hbw.mono (by omega)))
 have HGx12:=Qh hG
 obtain⟨aqx12,cqx12,rfl,hq⟩:=HGx12.out.val
 clear hq
 refine hK.out _ _ HXx12.out (λ hHeld=>?_)
 clear hK K hgr hG hbw
 try simp only [Qp]
 refine Qr 11 rfl (λ K hK=>?_) (by decide +kernel)
 refine ZaL Zbt rfl (by decide) Zch _ 77 rfl rfl (.tmp 73) (.tmp 76) rfl (x9.heap.size) (.slice aqx12 (X1++[(⟨[.string m.name,.bool m.function,.slice b2 m.params.length d2,.slice b3 m.body.length d3],m,f2⟩:Elem DMacro)]).length cqx12) sv (l.drop n) fb rfl HGx12.out rfl HRBx12.out (λ b hb=>by have:=(HFP.out.2.1 b hb).1;omega) (by rw [HTL.out.2,List.length_append];simp [maxLen];have:=HN1.out;omega) (by rw [HTL.out.2,List.length_append];simp;have:=HN1.out;omega) (by omega) ?_
 intro vq X3 x13 hXd hXf hG hgr
 have hbw:Below wd.heap.size x12 x13:=(Below.refl wd.heap.size x12).grown hgr (by omega) (λ b hb=>by have:=HGx12.out.mine b hb;omega)
 have hyx13:=hbw.size
 have HXx13:=Qh ((hbw.block w.heap.size (by omega)).trans HXx12.out)
 have HBx13:=Qh (HBx12.out.trans (hbw.mono (by omega)))
 have HGx13:=Qh hG
 have HDD:Hid ((X1++[(⟨[.string m.name,.bool m.function,.slice b2 m.params.length d2,.slice b3 m.body.length d3],m,f2⟩:Elem DMacro)]++X3).map (·.d)=putAt l m n):=by show _=_;rw [List.map_append,List.map_append,HX1d.out,hXd];rfl
 have HLL:Hid (∀ x∈X1++[(⟨[.string m.name,.bool m.function,.slice b2 m.params.length d2,.slice b3 m.body.length d3],m,f2⟩:Elem DMacro)]++X3,∀ b∈x.fp,w.heap.size<=b):=λ x hx b hb=>by
  rcases Qa hx with hx | hx
  ·rcases Qa hx with hx | hx
   ·exact(HFP.out.1 b (HX1f.out x hx b hb)).2
   ·obtain rfl:=Qm hx;exact(HFP.out.2.2 b hb).2
  ·exact(HFP.out.2.1 b (hXf x hx b hb)).2
 clear hXd hXf
 refine hK.out _ _ HXx13.out (λ hHeld=>?_)
 clear hK K hgr hG hbw
 try simp only [Qp]
 refine Qt 12 4 rfl rfl ?_
 try simp only [Qp]
 refine Qt 13 5 rfl rfl ?_
 try simp only [Qp]
 refine wpAnyH_done (by kernel_rfl) ?_ _
 refine NoPanic.normal ?_
 clear hHeld
 go_wp2
 go_ret2
 exact⟨_,_,_,by rw [HD.out];rfl,HGx13.out,by rw [HD.out];exact HDD.out,by omega,by omega,HLL.out,HBx13.out⟩):g:=h
theorem Y9A3 {g:Prop} (h:g:=by
 intro vq X1 x6 hXd hXf hG hgr
 have hbw:Below wd.heap.size x5 x6:=(Below.refl wd.heap.size x5).grown hgr (by omega) (λ b hb=>by have:=HGx5.out.mine b hb;omega)
 have hyx6:=hbw.size
 have HXx6:=Qh ((hbw.block w.heap.size (by omega)).trans HXx5.out)
 have HRBx6:=Qh ((Zaa sMacro).frame (w':=x6) (λ b hb=>hbw.block b (HFP.out.2.1 b hb).1) HRBx5.out)
 have HMx6:=Qh (sMacro.frame (w':=x6) (λ b hb=>hbw.block b (HFP.out.2.2 b hb).1) HMx5.out)
 have HRAx6:=Qh ((Zaa sMacro).frame (w':=x6) (λ b hb=>hbw.block b (HFP.out.1 b hb).1) HRAx5.out)
 have HLx6:=Qh ((hgr.block (x0.heap.size) (by omega) (by simp [Value.ownBlock];omega)).trans HLx5.out)
 have HN1:Hid (X1.length=n):=by show _=_;rw [← HTL.out.1,← hXd,List.length_map]
 have HX1d:=Qh hXd
 have HX1f:=Qh hXf
 clear hXd hXf
 have HBx6:=Qh (HBx5.out.trans (hbw.mono (by omega)))
 have HGx6:=Qh (show RowG sMacro (wd.heap.size) 70 vq X1 x6 from hG)
 obtain⟨aqx6,cqx6,rfl,hq⟩:=HGx6.out.val
 clear hq
 refine hK.out _ _ HXx6.out (λ hHeld=>?_)
 clear hK K hgr hG hbw
 try simp only [Qp]
 refine Qr 7 rfl (λ K hK=>?_) (by decide +kernel)
 refine Zcb (X:=[(⟨[.string m.name,.bool m.function,.slice b2 m.params.length d2,.slice b3 m.body.length d3],m,f2⟩:Elem DMacro)]) Zbt rfl (by decide) _ 73 rfl rfl (.tmp 70) (.tmp 72) rfl (wd.heap.size) (.slice aqx6 X1.length cqx6) rfl HGx6.out (x0.heap.size) 0 1 1 rfl rfl (λ x hx=>by obtain rfl:=Qm hx;exact⟨rfl,HMx6.out,λ b hb=>by have:=(HFP.out.2.2 b hb).1;omega⟩) (λ x hx=>by obtain rfl:=Qm hx;simp [Value.oneCell']) (λ j u hj=>by rw [Nat.zero_add,cell_of_row _ _ _ _ _ _ HLx6.out];simpa using hj) (by unfold maxLen;have:=HN1.out;omega) (by have:=HN1.out;omega) (by omega) ?_
 intro vq x7 hG hgr
 have hbw:Below wd.heap.size x6 x7:=(Below.refl wd.heap.size x6).grown hgr (by omega) (λ b hb=>by have:=HGx6.out.mine b hb;omega)
 have hyx7:=hbw.size
 have HXx7:=Qh ((hbw.block w.heap.size (by omega)).trans HXx6.out)
 have HRBx7:=Qh ((Zaa sMacro).frame (w':=x7) (λ b hb=>hbw.block b (HFP.out.2.1 b hb).1) HRBx6.out)
 have HBx7:=Qh (HBx6.out.trans (hbw.mono (by omega)))
 have HGx7:=Qh hG
 obtain⟨aqx7,cqx7,rfl,hq⟩:=HGx7.out.val
 clear hq
 refine hK.out _ _ HXx7.out (λ hHeld=>?_)
 clear hK K hgr hG hbw
 try simp only [Qp]
 refine Qr 11 rfl (λ K hK=>?_) (by decide +kernel)
 refine ZaL Zbt rfl (by decide) Zch _ 77 rfl rfl (.tmp 73) (.tmp 76) rfl (wd.heap.size) (.slice aqx7 (X1++[(⟨[.string m.name,.bool m.function,.slice b2 m.params.length d2,.slice b3 m.body.length d3],m,f2⟩:Elem DMacro)]).length cqx7) sv (l.drop n) fb rfl HGx7.out rfl HRBx7.out (λ b hb=>by have:=(HFP.out.2.1 b hb).1;omega) (by rw [HTL.out.2,List.length_append];simp [maxLen];have:=HN1.out;omega) (by rw [HTL.out.2,List.length_append];simp;have:=HN1.out;omega) (by omega) ?_
 intro vq X3 x8 hXd hXf hG hgr
 have hbw:Below wd.heap.size x7 x8:=(Below.refl wd.heap.size x7).grown hgr (by omega) (λ b hb=>by have:=HGx7.out.mine b hb;omega)
 have hyx8:=hbw.size
 have HXx8:=Qh ((hbw.block w.heap.size (by omega)).trans HXx7.out)
 have HBx8:=Qh (HBx7.out.trans (hbw.mono (by omega)))
 have HGx8:=Qh hG
 have HDD:Hid ((X1++[(⟨[.string m.name,.bool m.function,.slice b2 m.params.length d2,.slice b3 m.body.length d3],m,f2⟩:Elem DMacro)]++X3).map (·.d)=putAt l m n):=by show _=_;rw [List.map_append,List.map_append,HX1d.out,hXd];rfl
 have HLL:Hid (∀ x∈X1++[(⟨[.string m.name,.bool m.function,.slice b2 m.params.length d2,.slice b3 m.body.length d3],m,f2⟩:Elem DMacro)]++X3,∀ b∈x.fp,w.heap.size<=b):=λ x hx b hb=>by
  rcases Qa hx with hx | hx
  ·rcases Qa hx with hx | hx
   ·exact(HFP.out.1 b (HX1f.out x hx b hb)).2
   ·obtain rfl:=Qm hx;exact(HFP.out.2.2 b hb).2
  ·exact(HFP.out.2.1 b (hXf x hx b hb)).2
 clear hXd hXf
 refine hK.out _ _ HXx8.out (λ hHeld=>?_)
 clear hK K hgr hG hbw
 try simp only [Qp]
 refine Qt 12 4 rfl rfl ?_
 try simp only [Qp]
 refine Qt 13 5 rfl rfl ?_
 try simp only [Qp]
 refine wpAnyH_done (by kernel_rfl) ?_ _
 refine NoPanic.normal ?_
 clear hHeld
 go_wp2
 go_ret2
 exact⟨_,_,_,by rw [HD.out];rfl,HGx8.out,by rw [HD.out];exact HDD.out,by omega,by omega,HLL.out,HBx8.out⟩):g:=h
theorem Y9A4 {g:Prop} (h:g:=by
 try simp only [Qp]
 refine Qt 6 41 rfl rfl ?_ (by intro w hSw;have sb:=hSw;obtain⟨s0,s1,s2,s3⟩:=Q4 sb;go_simp;(first | done | with_reducible rfl))
 try simp only [Qp]
 refine Qt 7 42 rfl rfl ?_ (by intro w hSw;have sb:=hSw;obtain⟨s0,s1,s2,s3⟩:=Q4 sb;go_simp;(first | done | with_reducible rfl))
 try simp only [Qp]
 refine Qs 8 43 rfl rfl ?_
 try simp only [Qp]
 refine Qs 9 44 rfl rfl ?_
 try simp only [Qp]
 refine Qs 10 45 rfl rfl ?_
 try simp only [Qp]
 refine Qs 11 46 rfl rfl ?_
 try simp only [Qp]
 refine Qs 12 47 rfl rfl ?_
 try simp only [Qp]
 refine Qs 13 48 rfl rfl ?_
 try simp only [Qp]
 refine Qt 14 49 rfl rfl ?_ (by intro w hSw;have sb:=hSw;obtain⟨s0,s1,s2,s3⟩:=Q4 sb;go_simp;(first | done | with_reducible rfl))
 try simp only [Qp]
 refine Qt 15 4 rfl rfl ?_ (by intro w hSw;have sb:=hSw;obtain⟨s0,s1,s2,s3⟩:=Q4 sb;go_simp;(first | done | with_reducible rfl))
 try simp only [Qp]
 refine Qt 16 5 rfl rfl ?_ (by intro w hSw;have sb:=hSw;obtain⟨s0,s1,s2,s3⟩:=Q4 sb;go_simp;(first | done | with_reducible rfl))
 try simp only [Qp]
 have HF:=Qh (HB8.out.trans (hb89.mono HB8.out.size))
 have HGF:=Qh (HG8.out.below hb89)
 have hsF:=hb89.size
 refine wpAnyH_done (by kernel_rfl) ?_ _
 refine NoPanic.normal ?_
 clear hHeld
 go_wp2
 go_ret2
 exact⟨_,X,w4.heap.size,by rw [HD.out];rfl,HGF.out,by rw [HD.out];exact HXD.out,by omega,by omega,LOX.out,HF.out⟩):g:=h
theorem ZlE (v:Value) (l:List DMacro) (fp:List Nat) (cs:List Value) (m:DMacro) (fpm:List Nat) (w:World) (hl:l.length<=1048576) (hx:∀ k,(hk:k<l.length)->MacSm l[k]) (hm:MacSm m) (H:(Zaa sMacro).R w [v] l fp) (Hm:sMacro.R w cs m fpm) :
  Calls Tryz.prog 49 #[v,.agg cs.toArray] w (RetDef (defM l m) w):=by
 have HM0:=Hm
 obtain⟨h2,h3,q2,q3,rfl,-,K2,K3,-⟩:=Hm
 obtain⟨a2,c2,rfl,-⟩:=Zaf K2
 obtain⟨a3,c3,rfl,-⟩:=Zac K3
 clear K2 K3
 have b0:=Zab w (.cells #[.string m.name,.bool m.function,.slice a2 m.params.length c2,.slice a3 m.body.length c3] 70)
 have HX0:=Qh (heap_alloc_new w (.cells #[.string m.name,.bool m.function,.slice a2 m.params.length c2,.slice a3 m.body.length c3] 70))
 have hs0:(w.alloc (.cells #[.string m.name,.bool m.function,.slice a2 m.params.length c2,.slice a3 m.body.length c3] 70)).heap.size=w.heap.size+1:=Array.size_push _
 have HC:=Qh (Zde v l fp _ hl hx ((Zaa sMacro).below H b0))
 have HM1:=sMacro.below HM0 b0
 have HS:=Qh hs0
 clear hs0 H HM0
 go_enter Tryz.func49,Tryz.ntmps49
 go_wp2_with fail
 refine HC.out.mono ?_
 rintro e w1 ⟨v1,f1,rfl,R1,lo1,hb1⟩
 have hs1:=hb1.size
 rw [HS.out] at hs1
 have HX1:=Qh ((hb1.block w.heap.size (by rw [HS.out];omega)).trans HX0.out)
 have HM2:=sMacro.below HM1 hb1
 have hB1:=b0.trans (hb1.mono b0.size)
 have LO1:Hid (∀ b∈f1,w.heap.size+1<=b/\b<w1.heap.size):=λ b hb=>⟨by have:=lo1 b hb;rw [HS.out] at this;exact this,(Zaa sMacro).lt R1 b hb⟩
 clear HC HX0 HM1 b0 lo1 hb1 HS
 have y0:=Qc 0 HX1.out
 have y1:=Qc 1 HX1.out
 have y2:=Qc 2 HX1.out
 have y3:=Qc 3 HX1.out
 go_wp2_with fail
 refine (Zc5 _ m _ w1 hm.1 hm.2.1 hm.2.2 HM2).mono ?_
 rintro e w2 ⟨b2,b3,d2,d3,f2,rfl,R2,lo2,-,hb2⟩
 have hs2:=hb2.size
 have HX2:=Qh ((hb2.block w.heap.size (by omega)).trans HX1.out)
 have hB2:=hB1.trans (hb2.mono hB1.size)
 have HR1:Hid ((Zaa sMacro).R (setM w2 w.heap.size (.string m.name) (.bool m.function) (.slice b2 m.params.length d2) (.slice b3 m.body.length d3)) [v1] l f1):=(Zaa sMacro).frame (λ b hb=>Zds (by have:=(LO1.out b hb).1;omega) _ _ _ _) ((Zaa sMacro).below R1 hb2)
 have HR2:Hid (sMacro.R (setM w2 w.heap.size (.string m.name) (.bool m.function) (.slice b2 m.params.length d2) (.slice b3 m.body.length d3)) [.string m.name,.bool m.function,.slice b2 m.params.length d2,.slice b3 m.body.length d3] m f2):=sMacro.frame (λ b hb=>Zds (by have:=lo2 b hb;omega) _ _ _ _) R2
 have HX3:Hid ((setM w2 w.heap.size (.string m.name) (.bool m.function) (.slice b2 m.params.length d2) (.slice b3 m.body.length d3)).heap[w.heap.size]?=some (.cells #[.string m.name,.bool m.function,.slice b2 m.params.length d2,.slice b3 m.body.length d3] 70 (0,0))):=Zl8 HX2.out _ _ _ _
 have HB3:=Qh (Zh2 hB2 (Nat.le_refl w.heap.size) (.string m.name) (.bool m.function) (.slice b2 m.params.length d2) (.slice b3 m.body.length d3))
 have LO2:Hid (∀ b∈f2,w1.heap.size<=b/\b<w2.heap.size):=λ b hb=>⟨lo2 b hb,sMacro.lt R2 b hb⟩
 have HS3:Hid ((setM w2 w.heap.size (.string m.name) (.bool m.function) (.slice b2 m.params.length d2) (.slice b3 m.body.length d3)).heap.size=w2.heap.size):=by show _=_;unfold setM;simp
 clear y0 y1 y2 y3 HX1 HM2 hB1 R1 R2 lo2 hb2 hB2
 have z0:=Qc 0 HX2.out
 have zf0:=Qf 0 HX2.out
 have z1:=Qc 1 HX2.out
 have zf1:=Qf 1 HX2.out
 have z2:=Qc 2 HX2.out
 have zf2:=Qf 2 HX2.out
 have z3:=Qc 3 HX2.out
 have zf3:=Qf 3 HX2.out
 go_wp2_with fail
 change Calls _ _ _ (setM w2 w.heap.size (.string m.name) (.bool m.function) (.slice b2 m.params.length d2) (.slice b3 m.body.length d3)) _
 have hs3:=HS3.out
 generalize setM w2 w.heap.size (.string m.name) (.bool m.function) (.slice b2 m.params.length d2) (.slice b3 m.body.length d3)=w3 at *
 clear z0 z1 z2 z3 zf0 zf1 zf2 zf3 HX2 HS3
 refine (ZeA v1 l f1 w3 HR1.out).mono ?_
 rintro e w4 ⟨rfl,hb4⟩
 have hs4:=hb4.size
 have HX4:=Qh ((hb4.block w.heap.size (by omega)).trans HX3.out)
 have HR4:=Qh ((Zaa sMacro).below HR1.out hb4)
 have HM4:=Qh (sMacro.below HR2.out hb4)
 have HB4:=Qh (HB3.out.trans (hb4.mono HB3.out.size))
 clear HX3 HR1 HR2 HB3 hb4
 by_cases ht:tabOk l=true
 rotate_left
 ·have HD:Hid (defM l m=([],false)):=by show _=_;unfold defM;rw [if_neg ht]
  rw [Bool.eq_false_iff.2 ht]
  have hlit:=Qh (RowG.lit0 sMacro 70 w4)
  have hba:=Zab w4 (.cells #[] 70)
  have HF:=Qh (HB4.out.trans (hba.mono HB4.out.size))
  have hba2:=hba.size
  clear ht hba
  go_wp2
  go_ret2
  exact⟨_,[],w4.heap.size,by rw [HD.out];rfl,hlit.out,by rw [HD.out];rfl,by omega,hba2,by simp,HF.out⟩
 rw [ht]
 have HTK:=Qh ht
 clear ht
 obtain⟨a1,cap1,rfl,hc1,hm1,-⟩:=Zac HR4.out
 have hl10:l.length<=10:=(Zek HTK.out).1
 have hlit:=Qh (RowG.lit0 sMacro 70 w4)
 have hba:=Zab w4 (.cells #[] 70)
 have HR4':=Qh ((Zaa sMacro).below HR4.out hba)
 have HX4':=Qh ((hba.block w.heap.size (by omega)).trans HX4.out)
 have HM4':=Qh (sMacro.below HM4.out hba)
 have HB4':=Qh (HB4.out.trans (hba.mono HB4.out.size))
 have HBA:=Qh hba.size
 clear hba HX4 HM4 HB4 HR4
 go_wp2_with (at_builtin;refine ZiJ Zbt rfl (by decide) Zch _ rfl (.tmp 16) (.tmp 17) rfl w4.heap.size (.slice (some ⟨w4.heap.size,0,none⟩) 0 0) (.slice a1 l.length cap1) l f1 rfl hlit.out rfl HR4'.out (λ b hb=>by have:=(LO1.out b hb).2;omega) (by simp [maxLen];omega) (by simp;omega) HBA.out ?_;intro v6 X w6 hXd hXf hG hgr;have hb6:Below w4.heap.size (w4.alloc (.cells #[] 70)) w6:=(Below.refl w4.heap.size (w4.alloc (.cells #[] 70))).grown hgr HBA.out (λ b hb=>by have e:w4.heap.size=b:=(by simpa [Value.ownBlock] using hb);omega);have HX6:=Qh ((hb6.block w.heap.size (by omega)).trans HX4'.out);have n0:=Qc 0 HX6.out;have HALL:=Qh (And.intro hXd (And.intro hXf (And.intro hG hb6)));obtain⟨av,cv,rfl,hq⟩:=hG.val;clear hq hXd hXf hG hgr hb6)
 obtain⟨hXd,hXf,hG,hb6⟩:=HALL.out
 have hs6:=hb6.size
 have hba1:=HBA.out
 have LOX:Hid (∀ x∈X,∀ b∈x.fp,w.heap.size<=b):=λ x hx b hb=>by have:=(LO1.out b (hXf x hx b hb)).1;omega
 have hR6:=(Zaa sMacro).frame (w':=w6) (λ b hb=>hb6.block b (by have:=(LO1.out b hb).2;omega)) HR4'.out
 have HM6:=Qh (sMacro.frame (w':=w6) (λ b hb=>hb6.block b (by have:=(LO2.out b hb).2;omega)) HM4'.out)
 have HR6:=Qh hR6
 have HG6:=Qh (show RowG sMacro w4.heap.size 70 (.slice av X.length cv) X w6 from hG)
 have HXD:=Qh hXd
 have HB6:=Qh (HB4'.out.trans (hb6.mono (by omega)))
 clear hXd hXf hG hb6 hR6 HALL HR4' HM4' HX4' HB4' hlit HBA
 refine (Zf9 (.slice a1 l.length cap1) l m.name f1 w6 HR6.out).mono ?_
 rintro e w7 ⟨rfl,hb7⟩
 have hs7:=hb7.size
 have HX7:=Qh ((hb7.block w.heap.size (by omega)).trans HX6.out)
 have HR7:=Qh ((Zaa sMacro).below HR6.out hb7)
 have HM7:=Qh (sMacro.below HM6.out hb7)
 have HG7:=Qh (HG6.out.below hb7)
 have HB7:=Qh (HB6.out.trans (hb7.mono HB6.out.size))
 clear hb7 HX6 HR6 HM6 HG6 HB6 n0
 have HPL:=Qh (Zfq HTK.out m.name)
 have p0:=Qc 0 HX7.out
 have p1:=Qc 1 HX7.out
 have p2:=Qc 2 HX7.out
 have p3:=Qc 3 HX7.out
 have HV7:=Qh (λ W (hW:Below w7.heap.size w7 W)=>Zck [.string m.name,.bool m.function,.slice b2 m.params.length d2,.slice b3 m.body.length d3] m f2 W (sMacro.below HM7.out hW))
 have LEN:Hid ((l.length:Int)=10 ↔ l.length=10):=by show _ ↔ _;omega
 cases hv:macOk m
 ·
  have HD:Hid (defM l m=(l,false)):=by show _=_;unfold defM;rw [if_pos HTK.out,if_neg (by rw [hv];simp)]
  rw [hv] at HV7
  generalize place l m.name=pp at *
  clear hv HPL
  go_wp2_with fail
  refine (HV7.out _ (Below.refl _ _)).mono ?_
  rintro e w8 ⟨rfl,hb8⟩
  have hs8:=hb8.size
  have HX8:=Qh ((hb8.block w.heap.size (by omega)).trans HX7.out)
  have HM8:=Qh (sMacro.below HM7.out hb8)
  have HG8:=Qh (HG7.out.below hb8)
  have HB8:=Qh (HB7.out.trans (hb8.mono HB7.out.size))
  have hR8:=(Zaa sMacro).below HR7.out hb8
  have HV8:=Qh (λ W (hW:Below w8.heap.size w8 W)=>HV7.out W (hb8.trans (hW.mono hb8.size)))
  clear p0 p1 p2 p3 HX7 HM7 HG7 HB7 HR7 HV7 hb8
  go_wp2_with fail
  have hd:Below w8.heap.size w8 w8.drew:=Zag (Below.refl _ _) 1
  refine wp_region_noPanic ?_
  refine wp_region_held_drew (S:=λ w'=>w'.heap[w.heap.size]?=some (.cells #[.string m.name,.bool m.function,.slice b2 m.params.length d2,.slice b3 m.body.length d3] 70 (0,0))) (by kernel_rfl) (by exact HX8.out) (λ hHeld=>?_)
  refine Qt 0 35 rfl rfl ?_ (by intro w hSw;have sb:=hSw;obtain⟨s0,s1,s2,s3⟩:=Q4 sb;go_simp;(first | done | with_reducible rfl))
  try simp only [Qp]
  refine Qt 1 36 rfl rfl ?_ (by intro w hSw;have sb:=hSw;obtain⟨s0,s1,s2,s3⟩:=Q4 sb;go_simp;(first | done | with_reducible rfl))
  try simp only [Qp]
  refine Qr 2 rfl (λ K hK=>?_)
  go_simp
  refine (HV8.out _ hd).mono ?_
  rintro e w9 ⟨rfl,hb9⟩
  have hb89:=hd.trans (hb9.mono hd.size)
  refine hK.out _ _ ((hb89.block w.heap.size (by omega)).trans HX8.out) (λ hHeld=>?_)
  clear hK K
  try simp only [Qp]
  refine Qt 3 38 rfl rfl ?_ (by intro w hSw;have sb:=hSw;obtain⟨s0,s1,s2,s3⟩:=Q4 sb;go_simp;(first | done | with_reducible rfl))
  try simp only [Qp]
  refine Qs 4 39 rfl rfl ?_
  try simp only [Qp]
  refine Qs 5 40 rfl rfl ?_
  exact Y9A4
 rw [hv] at HV7
 have HVD:=Qh hv
 clear hv
 cases hi:isIn l m.name
 rotate_left
 ·
  have hlow:=isIn_lt2 hi
  have hpp:place l m.name=(lowAt l m.name:Nat):=by rw [HPL.out,hi];rfl
  have HD:Hid (defM l m=(l,Zbp (l[lowAt l m.name]'hlow) m)):=by show _=_;unfold defM;rw [if_pos HTK.out,if_pos HVD.out,if_pos hi,dif_pos hlow]
  rw [hpp]
  clear hi HPL hpp
  generalize lowAt l m.name=n at *
  have hi1:(0:Int)<=(n:Int):=by omega
  have hi2:(n:Int)<(l.length:Int):=by omega
  go_wp2_with fail
  refine (HV7.out _ (Below.refl _ _)).mono ?_
  rintro e w8 ⟨rfl,hb8⟩
  have hs8:=hb8.size
  have HX8:=Qh ((hb8.block w.heap.size (by omega)).trans HX7.out)
  have HM8:=Qh (sMacro.below HM7.out hb8)
  have HG8:=Qh (HG7.out.below hb8)
  have HB8:=Qh (HB7.out.trans (hb8.mono HB7.out.size))
  have hR8:=(Zaa sMacro).below HR7.out hb8
  have HV8:=Qh (λ W (hW:Below w8.heap.size w8 W)=>HV7.out W (hb8.trans (hW.mono hb8.size)))
  clear p0 p1 p2 p3 HX7 HM7 HG7 HB7 HR7 HV7 hb8
  obtain⟨aq,capq,hvq,-,-,hrow8⟩:=Zac hR8
  simp only [Value.slice.injEq,true_and] at hvq
  obtain⟨rfl,rfl⟩:=hvq
  clear hR8
  go_wp2_with fail
  obtain⟨b1,off1,fps1,hat,hb1,hfp1,he1⟩:=hrow8 (by omega)
  subst hat
  obtain⟨es1,hE1,hR1⟩:=he1 n (by omega)
  have HRE:=Qh hR1
  obtain⟨u2,u3,r2,r3,rfl,_,K2,K3,_⟩:=hR1
  obtain⟨e2,g2,rfl,-⟩:=Zaf K2
  obtain⟨e3,g3,rfl,-⟩:=Zac K3
  clear K2 K3
  have c10:w8.cell? ⟨b1,off1+n * 4,none⟩=some _:=Zao hE1 (by decide) rfl
  have c11:w8.cell? ⟨b1,off1+n * 4+1,none⟩=some _:=Zae (j:=1) hE1 (by decide) rfl
  have c12:w8.cell? ⟨b1,off1+n * 4+2,none⟩=some _:=Zae (j:=2) hE1 (by decide) rfl
  have c13:w8.cell? ⟨b1,off1+n * 4+3,none⟩=some _:=Zae (j:=3) hE1 (by decide) rfl
  clear hE1 he1 hrow8 hfp1
  have hd:Below w8.heap.size w8 w8.drew:=Zag (Below.refl _ _) 1
  refine wp_region_noPanic ?_
  refine wp_region_held_drew (S:=λ w'=>w'.heap[w.heap.size]?=some (.cells #[.string m.name,.bool m.function,.slice b2 m.params.length d2,.slice b3 m.body.length d3] 70 (0,0))/\w'.cell? ⟨b1,off1+n * 4,none⟩=some (.string l[n].name)/\w'.cell? ⟨b1,off1+n * 4+1,none⟩=some (.bool l[n].function)/\w'.cell? ⟨b1,off1+n * 4+2,none⟩=some (.slice e2 l[n].params.length g2)/\w'.cell? ⟨b1,off1+n * 4+3,none⟩=some (.slice e3 l[n].body.length g3)) (by kernel_rfl) (by exact⟨HX8.out,c10,c11,c12,c13⟩) (λ hHeld=>?_)
  refine Qt 0 35 rfl rfl ?_ (by intro w hSw;obtain⟨sb,t0,t1,t2,t3⟩:=hSw;obtain⟨s0,s1,s2,s3⟩:=Q4 sb;go_simp;(first | done | with_reducible rfl))
  try simp only [Qp]
  refine Qt 1 36 rfl rfl ?_ (by intro w hSw;obtain⟨sb,t0,t1,t2,t3⟩:=hSw;obtain⟨s0,s1,s2,s3⟩:=Q4 sb;go_simp;(first | done | with_reducible rfl))
  try simp only [Qp]
  refine Qr 2 rfl (λ K hK=>?_)
  go_simp
  refine (HV8.out _ hd).mono ?_
  rintro e w9 ⟨rfl,hb9⟩
  have hb89:=hd.trans (hb9.mono hd.size)
  refine hK.out _ _ (⟨(hb89.block w.heap.size (by omega)).trans HX8.out,(hb89.cell (by show b1<_;omega)).trans c10,(hb89.cell (by show b1<_;omega)).trans c11,(hb89.cell (by show b1<_;omega)).trans c12,(hb89.cell (by show b1<_;omega)).trans c13⟩) (λ hHeld=>?_)
  clear hK K
  try simp only [Qp]
  refine Qt 3 38 rfl rfl ?_ (by intro w hSw;obtain⟨sb,t0,t1,t2,t3⟩:=hSw;obtain⟨s0,s1,s2,s3⟩:=Q4 sb;go_simp;(first | done | with_reducible rfl))
  try simp only [Qp]
  refine Qt 4 39 rfl rfl ?_ (by intro w hSw;obtain⟨sb,t0,t1,t2,t3⟩:=hSw;obtain⟨s0,s1,s2,s3⟩:=Q4 sb;go_simp;(first | done | with_reducible rfl))
  try simp only [Qp]
  refine Qt 5 40 rfl rfl ?_ (by intro w hSw;obtain⟨sb,t0,t1,t2,t3⟩:=hSw;obtain⟨s0,s1,s2,s3⟩:=Q4 sb;go_simp;(first | done | with_reducible rfl))
  try simp only [Qp]
  refine Qt 6 41 rfl rfl ?_ (by intro w hSw;obtain⟨sb,t0,t1,t2,t3⟩:=hSw;obtain⟨s0,s1,s2,s3⟩:=Q4 sb;go_simp;(first | done | with_reducible rfl))
  try simp only [Qp]
  refine Qt 7 42 rfl rfl ?_ (by intro w hSw;obtain⟨sb,t0,t1,t2,t3⟩:=hSw;obtain⟨s0,s1,s2,s3⟩:=Q4 sb;go_simp;(first | done | with_reducible rfl))
  try simp only [Qp]
  refine Qt 8 43 rfl rfl ?_ (by intro w hSw;obtain⟨sb,t0,t1,t2,t3⟩:=hSw;obtain⟨s0,s1,s2,s3⟩:=Q4 sb;go_simp;(first | done | with_reducible rfl))
  try simp only [Qp]
  refine Qt 9 44 rfl rfl ?_ (by intro w hSw;obtain⟨sb,t0,t1,t2,t3⟩:=hSw;obtain⟨s0,s1,s2,s3⟩:=Q4 sb;go_simp;(first | done | with_reducible rfl))
  try simp only [Qp]
  refine Qt 10 45 rfl rfl ?_ (by intro w hSw;obtain⟨sb,t0,t1,t2,t3⟩:=hSw;obtain⟨s0,s1,s2,s3⟩:=Q4 sb;go_simp;(first | done | with_reducible rfl))
  try simp only [Qp]
  refine Qt 11 46 rfl rfl ?_ (by intro w hSw;obtain⟨sb,t0,t1,t2,t3⟩:=hSw;obtain⟨s0,s1,s2,s3⟩:=Q4 sb;go_simp;(first | done | with_reducible rfl))
  try simp only [Qp]
  refine Qt 12 47 rfl rfl ?_ (by intro w hSw;obtain⟨sb,t0,t1,t2,t3⟩:=hSw;obtain⟨s0,s1,s2,s3⟩:=Q4 sb;go_simp;(first | done | with_reducible rfl))
  try simp only [Qp]
  refine Qr 13 rfl (λ K hK=>?_)
  go_simp
  refine (ZiL [.string l[n].name,.bool l[n].function,.slice e2 l[n].params.length g2,.slice e3 l[n].body.length g3] [.string m.name,.bool m.function,.slice b2 m.params.length d2,.slice b3 m.body.length d3] l[n] m _ f2 w9 (sMacro.below HRE.out hb89) (sMacro.below HM8.out hb89)).mono ?_
  rintro e wA ⟨rfl,hbA⟩
  have hbAA:=hb89.trans (hbA.mono hb89.size)
  refine hK.out _ _ (⟨(hbAA.block w.heap.size (by omega)).trans HX8.out,(hbAA.cell (by show b1<_;omega)).trans c10,(hbAA.cell (by show b1<_;omega)).trans c11,(hbAA.cell (by show b1<_;omega)).trans c12,(hbAA.cell (by show b1<_;omega)).trans c13⟩) (λ hHeld=>?_)
  clear hK K
  try simp only [Qp]
  refine Qt 14 49 rfl rfl ?_ (by intro w hSw;obtain⟨sb,t0,t1,t2,t3⟩:=hSw;obtain⟨s0,s1,s2,s3⟩:=Q4 sb;go_simp;(first | done | with_reducible rfl))
  try simp only [Qp]
  refine Qt 15 4 rfl rfl ?_ (by intro w hSw;obtain⟨sb,t0,t1,t2,t3⟩:=hSw;obtain⟨s0,s1,s2,s3⟩:=Q4 sb;go_simp;(first | done | with_reducible rfl))
  try simp only [Qp]
  refine Qt 16 5 rfl rfl ?_ (by intro w hSw;obtain⟨sb,t0,t1,t2,t3⟩:=hSw;obtain⟨s0,s1,s2,s3⟩:=Q4 sb;go_simp;(first | done | with_reducible rfl))
  try simp only [Qp]
  have HF:=Qh (HB8.out.trans (hbAA.mono HB8.out.size))
  have HGF:=Qh (HG8.out.below hbAA)
  have hsF:=hbAA.size
  refine wpAnyH_done (by kernel_rfl) ?_ _
  refine NoPanic.normal ?_
  clear hHeld
  go_wp2
  go_ret2
  exact⟨_,X,w4.heap.size,by rw [HD.out];rfl,HGF.out,by rw [HD.out];exact HXD.out,by omega,by omega,LOX.out,HF.out⟩
 have hpp:place l m.name=-1:=by rw [HPL.out,hi];rfl
 rw [hpp]
 clear HPL hpp
 by_cases h10:l.length=10
 ·have HD:Hid (defM l m=(l,false)):=by show _=_;unfold defM;rw [if_pos HTK.out,if_pos HVD.out,if_neg (by rw [hi];simp),if_pos h10]
  have hq10:((l.length:Int)==10)=true:=by simp [h10]
  have H10:=Qh h10
  clear hi h10
  go_wp2_with fail
  refine (HV7.out _ (Below.refl _ _)).mono ?_
  rintro e w8 ⟨rfl,hb8⟩
  have hs8:=hb8.size
  have HX8:=Qh ((hb8.block w.heap.size (by omega)).trans HX7.out)
  have HM8:=Qh (sMacro.below HM7.out hb8)
  have HG8:=Qh (HG7.out.below hb8)
  have HB8:=Qh (HB7.out.trans (hb8.mono HB7.out.size))
  have hR8:=(Zaa sMacro).below HR7.out hb8
  have HV8:=Qh (λ W (hW:Below w8.heap.size w8 W)=>HV7.out W (hb8.trans (hW.mono hb8.size)))
  clear p0 p1 p2 p3 HX7 HM7 HG7 HB7 HR7 HV7 hb8
  go_wp2_with fail
  have hd:Below w8.heap.size w8 w8.drew:=Zag (Below.refl _ _) 1
  refine wp_region_noPanic ?_
  refine wp_region_held_drew (S:=λ w'=>w'.heap[w.heap.size]?=some (.cells #[.string m.name,.bool m.function,.slice b2 m.params.length d2,.slice b3 m.body.length d3] 70 (0,0))) (by kernel_rfl) (by exact HX8.out) (λ hHeld=>?_)
  refine Qt 0 35 rfl rfl ?_ (by intro w hSw;have sb:=hSw;obtain⟨s0,s1,s2,s3⟩:=Q4 sb;go_simp;(first | done | with_reducible rfl))
  try simp only [Qp]
  refine Qt 1 36 rfl rfl ?_ (by intro w hSw;have sb:=hSw;obtain⟨s0,s1,s2,s3⟩:=Q4 sb;go_simp;(first | done | with_reducible rfl))
  try simp only [Qp]
  refine Qr 2 rfl (λ K hK=>?_)
  go_simp
  refine (HV8.out _ hd).mono ?_
  rintro e w9 ⟨rfl,hb9⟩
  have hb89:=hd.trans (hb9.mono hd.size)
  refine hK.out _ _ ((hb89.block w.heap.size (by omega)).trans HX8.out) (λ hHeld=>?_)
  clear hK K
  try simp only [Qp]
  refine Qt 3 38 rfl rfl ?_ (by intro w hSw;have sb:=hSw;obtain⟨s0,s1,s2,s3⟩:=Q4 sb;go_simp;(first | done | with_reducible rfl))
  try simp only [Qp]
  refine Qt 4 39 rfl rfl ?_ (by intro w hSw;have sb:=hSw;obtain⟨s0,s1,s2,s3⟩:=Q4 sb;go_simp;(first | done | with_reducible rfl))
  try simp only [Qp]
  refine Qt 5 40 rfl rfl ?_ (by intro w hSw;have sb:=hSw;obtain⟨s0,s1,s2,s3⟩:=Q4 sb;go_simp;(first | done | with_reducible rfl))
  exact Y9A4
 have HD:Hid (defM l m=(putAt l m (lowAt l m.name),true)):=by show _=_;unfold defM;rw [if_pos HTK.out,if_pos HVD.out,if_neg (by rw [hi];simp),if_neg h10]
 have hq10:((l.length:Int)==10)=false:=by simp;omega
 have HLW:=Qh (Zkq l m.name)
 have HLI:Hid (∀ k,(hk:k<l.length)->sLess l[k].name m.name=decide (k<lowAt l m.name)):=λ k hk=>Zgw HTK.out m.name hk
 have H10:=Qh h10
 clear hi h10
 go_wp2_with fail
 refine (HV7.out _ (Below.refl _ _)).mono ?_
 rintro e w8 ⟨rfl,hb8⟩
 have hs8:=hb8.size
 have HX8:=Qh ((hb8.block w.heap.size (by omega)).trans HX7.out)
 have HM8:=Qh (sMacro.below HM7.out hb8)
 have HG8:=Qh (HG7.out.below hb8)
 have HB8:=Qh (HB7.out.trans (hb8.mono HB7.out.size))
 have hR8:=(Zaa sMacro).below HR7.out hb8
 have HV8:=Qh (λ W (hW:Below w8.heap.size w8 W)=>HV7.out W (hb8.trans (hW.mono hb8.size)))
 clear p0 p1 p2 p3 HX7 HM7 HG7 HB7 HR7 HV7 hb8
 generalize lowAt l m.name=n at *
 obtain⟨aq,capq,hvq,-,-,hrow8⟩:=Zac hR8
 simp only [Value.slice.injEq,true_and] at hvq
 obtain⟨rfl,rfl⟩:=hvq
 have HR8:=Qh hR8
 clear hR8
 go_wp2
 go_loopw [7] (λ i wr=>∃ k:Nat,k<=n/\i=.int .i64 k/\Below w8.heap.size w8 wr) (λ i _=>n-(intOf i).toNat)
 case atStart=>exact⟨0,by omega,rfl,Below.refl _ _⟩
 case round =>
  obtain⟨k,hk,rfl,hbr⟩:=hrel
  have hnl:=HLW.out
  have hsr:=hbr.size
  have HXr:=Qh ((hbr.block w.heap.size (by omega)).trans HX8.out)
  have p0:=Qc 0 HXr.out
  by_cases hlt:k<l.length
  ·obtain⟨b1,off1,fps1,hat,hb1,-,he1⟩:=hrow8 (by omega)
   subst hat
   obtain⟨es1,hE1,hR1⟩:=he1 k hlt
   obtain⟨u2,u3,r2,r3,rfl,_,_,_,_⟩:=hR1
   replace hE1:=hE1.frame (hbr.block b1 hb1)
   have c10:wr.cell? ⟨b1,off1+k * 4,none⟩=some _:=Zao hE1 (by decide) rfl
   have h0:decide ((k:Int)<(l.length:Int))=true:=decide_eq_true (by omega)
   have h1:decide (k<l.length)=true:=decide_eq_true hlt
   have hi1:(0:Int)<=(k:Int):=by omega
   have hi2:(k:Int)<(l.length:Int):=by omega
   by_cases hkn:k<n
   ·have hs:Op.bytesLess l[k].name.toList m.name.toList=true:=by have:=HLI.out k hlt;rw [decide_eq_true hkn] at this;exact this
    clear hE1 he1
    go_wp2_with fail
    go_quiet (fail)
    go_wp2
    go_roundw
    case rel=>exact⟨k+1,by omega,by go_num,Zag hbr _⟩
    case measure=>simp [intOf];omega
   ·have hs:Op.bytesLess l[k].name.toList m.name.toList=false:=by have:=HLI.out k hlt;rw [decide_eq_false hkn] at this;exact this
    clear hE1 he1
    go_wp2_with fail
    go_quiet (fail)
    go_wp2
    obtain rfl:n=k:=by omega
    have hbq:=Zag hbr nq
    generalize wr.drewN nq=wq at *
    have hsq:=hbq.size
    have HXq:=Qh ((hbq.block w.heap.size (by omega)).trans HX8.out)
    have HRq:=Qh ((Zaa sMacro).below HR8.out hbq)
    have HMq:=Qh (sMacro.below HM8.out hbq)
    have HBq:=Qh (HB8.out.trans (hbq.mono HB8.out.size))
    clear HX8 HR8 HM8 HB8 HXr hbr hbq p0 hrow8 HG8 HXD LOX
    obtain⟨fa,RA,hfa⟩:=Zbv n (by omega) HRq.out
    obtain⟨fb,RB,hfb⟩:=Za0 n (by omega) HRq.out
    have hd:Below wq.heap.size wq wq.drew:=Zag (Below.refl _ _) 1
    have HRA:=Qh ((Zaa sMacro).below RA hd)
    obtain⟨sv,HSV⟩:∃ sv:Value,Hid (sv=.slice (if cap1=n then (some ⟨b1,off1,none⟩) else ((some ⟨b1,off1,none⟩):Option Addr).map (·.add (n * sMacro.m))) (l.length-n) (cap1-n)):=⟨_,rfl⟩
    have HRB:Hid ((Zaa sMacro).R wq.drew [sv] (l.drop n) fb):=by show (Zaa sMacro).R _ _ _ _;rw [HSV.out];exact(Zaa sMacro).below RB hd
    have HFA:=Qh hfa
    have HFB:=Qh hfb
    have HMd:=Qh (sMacro.below HMq.out hd)
    have HBd:=Qh (HBq.out.trans (hd.mono HBq.out.size))
    have hsd:wq.heap.size<=wq.drew.heap.size:=hd.size
    clear RA RB hfa hfb HRq HMq HBq
    refine wp_region_noPanic ?_
    refine wp_region_held_drew (S:=λ w'=>w'.heap[w.heap.size]?=some (.cells #[.string m.name,.bool m.function,.slice b2 m.params.length d2,.slice b3 m.body.length d3] 70 (0,0))) (by kernel_rfl) (by exact HXq.out) (λ hHeld=>?_)
    clear hd
    generalize wq.drew=wd at *
    have hp1:(0:Int)<=(n:Int):=by omega
    have hp2:(n:Int)<=(l.length:Int):=by omega
    have hp3:n<=l.length:=by omega
    have hp4:n<=cap1:=by omega
    have hp5:(n:Int)<=(cap1:Int):=by omega
    refine Qt 1 67 rfl rfl ?_ (by intro w hSw;obtain⟨s0,s1,s2,s3⟩:=Q4 hSw;go_simp;(first | done | with_reducible rfl | rfl))
    try simp only [Qp]
    refine Qt 2 68 rfl rfl ?_ (by intro w hSw;obtain⟨s0,s1,s2,s3⟩:=Q4 hSw;go_simp;(first | done | with_reducible rfl | rfl))
    try simp only [Qp]
    refine takeH 3 69 (v:=.slice (some ⟨b1,off1,none⟩) n cap1) rfl rfl (by kernel_rfl) (by kernel_rfl) (by kernel_rfl) (λ _ _ _ h=>h) (by rfl) (by assumption) ?_ ?_
    ·intro w hSw;obtain⟨s0,s1,s2,s3⟩:=Q4 hSw;go_simp;(first | done | with_reducible rfl | rfl)
    try simp only [Qp]
    refine Qt 5 71 rfl rfl ?_ (by intro w hSw;obtain⟨s0,s1,s2,s3⟩:=Q4 hSw;go_simp;(first | done | with_reducible rfl | rfl))
    try simp only [Qp]
    refine Qt 8 74 rfl rfl ?_ (by intro w hSw;obtain⟨s0,s1,s2,s3⟩:=Q4 hSw;go_simp;(first | done | with_reducible rfl | rfl))
    try simp only [Qp]
    refine Qt 9 75 rfl rfl ?_ (by intro w hSw;obtain⟨s0,s1,s2,s3⟩:=Q4 hSw;go_simp;(first | done | with_reducible rfl | rfl))
    try simp only [Qp]
    refine takeH 10 76 (v:=sv) rfl rfl (by kernel_rfl) (by kernel_rfl) (by kernel_rfl) (λ _ _ _ h=>h) (by rfl) (by assumption) ?_ ?_
    ·intro w hSw;rw [HSV.out];obtain⟨s0,s1,s2,s3⟩:=Q4 hSw;go_simp;(first | done | with_reducible rfl | rfl)
    try simp only [Qp]
    have HXh:=Qh hHeld
    have hz0:w.heap.size<wd.heap.size:=by omega
    have HFP:Hid ((∀ b∈fa,b<wd.heap.size/\w.heap.size<=b)/\(∀ b∈fb,b<wd.heap.size/\w.heap.size<=b)/\(∀ b∈f2,b<wd.heap.size/\w.heap.size<=b)):=⟨λ b hb=>by have:=LO1.out b (HFA.out b hb);omega,λ b hb=>by have:=LO1.out b (HFB.out b hb);omega,λ b hb=>by have:=LO2.out b hb;omega⟩
    have HTL:Hid ((l.take n).length=n/\(l.drop n).length=l.length-n):=⟨by rw [List.length_take];omega,List.length_drop⟩
    clear HFA HFB hHeld HXq
    have HXwd:=HXh
    have HRAwd:=HRA
    have HRBwd:=HRB
    have HMwd:=HMd
    have HBwd:=HBd
    clear HXh HRA HRB HMd HBd
    refine wpAnyH_ready (rs:=[0,6]) (by decide +kernel) (by simp) ?_
    refine AllReadyH.cons rfl (λ K hK=>?_) (AllReadyH.cons rfl (λ K hK=>?_) AllReadyH.nil)
    ·have bl:=Zab wd (.cells #[] 70)
     have hyx0:wd.heap.size+1<=(wd.alloc (.cells #[] 70)).heap.size:=Nat.le_of_eq (Array.size_push _).symm
     have HGx0:=Qh (RowG.lit0 sMacro 70 wd)
     go_simp
     have HXx0:=Qh ((bl.block w.heap.size (by omega)).trans HXwd.out)
     have HRAx0:=Qh ((Zaa sMacro).below HRAwd.out bl)
     have HRBx0:=Qh ((Zaa sMacro).below HRBwd.out bl)
     have HMx0:=Qh (sMacro.below HMwd.out bl)
     have HBx0:=Qh (HBwd.out.trans (bl.mono HBwd.out.size))
     refine hK.out _ _ HXx0.out (λ hHeld=>?_)
     clear hK K bl
     try simp only [Qp]
     generalize (wd.alloc (.cells #[] 70))=x0 at *
     refine wpAnyH_ready (rs:=[4,6]) (by decide +kernel) (by simp) ?_
     refine AllReadyH.cons rfl (λ K hK=>?_) (AllReadyH.cons rfl (λ K hK=>?_) AllReadyH.nil)
     ·refine ZaL Zbt rfl (by decide) Zch _ 70 rfl rfl (.tmp 66) (.tmp 69) rfl (wd.heap.size) (.slice (some ⟨wd.heap.size,0,none⟩) 0 0) (.slice (some ⟨b1,off1,none⟩) n cap1) (l.take n) fa rfl HGx0.out rfl HRAx0.out (λ b hb=>by have:=(HFP.out.1 b hb).1;omega) (by rw [HTL.out.1];simp [maxLen];omega) (by rw [HTL.out.1];simp;omega) (by omega) ?_
      exact Y9A1
     ·have bl:=Zab x0 (.cells #[.string m.name,.bool m.function,.slice b2 m.params.length d2,.slice b3 m.body.length d3] 70)
      have hyx5:x0.heap.size+1<=(x0.alloc (.cells #[.string m.name,.bool m.function,.slice b2 m.params.length d2,.slice b3 m.body.length d3] 70)).heap.size:=Nat.le_of_eq (Array.size_push _).symm
      have HLx5:=Qh (heap_alloc_new x0 (.cells #[.string m.name,.bool m.function,.slice b2 m.params.length d2,.slice b3 m.body.length d3] 70))
      have HGx5:=Qh (HGx0.out.below bl)
      go_simp
      have HXx5:=Qh ((bl.block w.heap.size (by omega)).trans HXx0.out)
      have HRAx5:=Qh ((Zaa sMacro).below HRAx0.out bl)
      have HRBx5:=Qh ((Zaa sMacro).below HRBx0.out bl)
      have HMx5:=Qh (sMacro.below HMx0.out bl)
      have HBx5:=Qh (HBx0.out.trans (bl.mono HBx0.out.size))
      refine hK.out _ _ HXx5.out (λ hHeld=>?_)
      clear hK K bl
      try simp only [Qp]
      generalize (x0.alloc (.cells #[.string m.name,.bool m.function,.slice b2 m.params.length d2,.slice b3 m.body.length d3] 70))=x5 at *
      refine Qr 4 rfl (λ K hK=>?_) (by decide +kernel)
      refine ZaL Zbt rfl (by decide) Zch _ 70 rfl rfl (.tmp 66) (.tmp 69) rfl (wd.heap.size) (.slice (some ⟨wd.heap.size,0,none⟩) 0 0) (.slice (some ⟨b1,off1,none⟩) n cap1) (l.take n) fa rfl HGx5.out rfl HRAx5.out (λ b hb=>by have:=(HFP.out.1 b hb).1;omega) (by rw [HTL.out.1];simp [maxLen];omega) (by rw [HTL.out.1];simp;omega) (by omega) ?_
      exact Y9A3
    ·have bl:=Zab wd (.cells #[.string m.name,.bool m.function,.slice b2 m.params.length d2,.slice b3 m.body.length d3] 70)
     have hyx9:wd.heap.size+1<=(wd.alloc (.cells #[.string m.name,.bool m.function,.slice b2 m.params.length d2,.slice b3 m.body.length d3] 70)).heap.size:=Nat.le_of_eq (Array.size_push _).symm
     have HLx9:=Qh (heap_alloc_new wd (.cells #[.string m.name,.bool m.function,.slice b2 m.params.length d2,.slice b3 m.body.length d3] 70))
     go_simp
     have HXx9:=Qh ((bl.block w.heap.size (by omega)).trans HXwd.out)
     have HRAx9:=Qh ((Zaa sMacro).below HRAwd.out bl)
     have HRBx9:=Qh ((Zaa sMacro).below HRBwd.out bl)
     have HMx9:=Qh (sMacro.below HMwd.out bl)
     have HBx9:=Qh (HBwd.out.trans (bl.mono HBwd.out.size))
     refine hK.out _ _ HXx9.out (λ hHeld=>?_)
     clear hK K bl
     try simp only [Qp]
     generalize (wd.alloc (.cells #[.string m.name,.bool m.function,.slice b2 m.params.length d2,.slice b3 m.body.length d3] 70))=x9 at *
     refine Qr 0 rfl (λ K hK=>?_) (by decide +kernel)
     have bl:=Zab x9 (.cells #[] 70)
     have hyx10:x9.heap.size+1<=(x9.alloc (.cells #[] 70)).heap.size:=Nat.le_of_eq (Array.size_push _).symm
     have HGx10:=Qh (RowG.lit0 sMacro 70 x9)
     have HLx10:=Qh ((bl.block _ (by omega)).trans HLx9.out)
     go_simp
     have HXx10:=Qh ((bl.block w.heap.size (by omega)).trans HXx9.out)
     have HRAx10:=Qh ((Zaa sMacro).below HRAx9.out bl)
     have HRBx10:=Qh ((Zaa sMacro).below HRBx9.out bl)
     have HMx10:=Qh (sMacro.below HMx9.out bl)
     have HBx10:=Qh (HBx9.out.trans (bl.mono HBx9.out.size))
     refine hK.out _ _ HXx10.out (λ hHeld=>?_)
     clear hK K bl
     try simp only [Qp]
     generalize (x9.alloc (.cells #[] 70))=x10 at *
     refine Qr 4 rfl (λ K hK=>?_) (by decide +kernel)
     refine ZaL Zbt rfl (by decide) Zch _ 70 rfl rfl (.tmp 66) (.tmp 69) rfl (x9.heap.size) (.slice (some ⟨x9.heap.size,0,none⟩) 0 0) (.slice (some ⟨b1,off1,none⟩) n cap1) (l.take n) fa rfl HGx10.out rfl HRAx10.out (λ b hb=>by have:=(HFP.out.1 b hb).1;omega) (by rw [HTL.out.1];simp [maxLen];omega) (by rw [HTL.out.1];simp;omega) (by omega) ?_
     exact Y9A2
  ·have h0:decide ((k:Int)<(l.length:Int))=false:=decide_eq_false (by omega)
   have h1:decide (k<l.length)=false:=decide_eq_false hlt
   go_wp2_with fail
   go_quiet (fail)
   go_wp2
   obtain rfl:n=k:=by omega
   have hbq:=Zag hbr nq
   generalize wr.drewN nq=wq at *
   have hsq:=hbq.size
   have HXq:=Qh ((hbq.block w.heap.size (by omega)).trans HX8.out)
   have HRq:=Qh ((Zaa sMacro).below HR8.out hbq)
   have HMq:=Qh (sMacro.below HM8.out hbq)
   have HBq:=Qh (HB8.out.trans (hbq.mono HB8.out.size))
   clear HX8 HR8 HM8 HB8 HXr hbr hbq p0 hrow8 HG8 HXD LOX
   obtain⟨fa,RA,hfa⟩:=Zbv n (by omega) HRq.out
   obtain⟨fb,RB,hfb⟩:=Za0 n (by omega) HRq.out
   have hd:Below wq.heap.size wq wq.drew:=Zag (Below.refl _ _) 1
   have HRA:=Qh ((Zaa sMacro).below RA hd)
   obtain⟨sv,HSV⟩:∃ sv:Value,Hid (sv=.slice (if cap1=n then a1 else (a1:Option Addr).map (·.add (n * sMacro.m))) (l.length-n) (cap1-n)):=⟨_,rfl⟩
   have HRB:Hid ((Zaa sMacro).R wq.drew [sv] (l.drop n) fb):=by show (Zaa sMacro).R _ _ _ _;rw [HSV.out];exact(Zaa sMacro).below RB hd
   have HFA:=Qh hfa
   have HFB:=Qh hfb
   have HMd:=Qh (sMacro.below HMq.out hd)
   have HBd:=Qh (HBq.out.trans (hd.mono HBq.out.size))
   have hsd:wq.heap.size<=wq.drew.heap.size:=hd.size
   clear RA RB hfa hfb HRq HMq HBq
   refine wp_region_noPanic ?_
   refine wp_region_held_drew (S:=λ w'=>w'.heap[w.heap.size]?=some (.cells #[.string m.name,.bool m.function,.slice b2 m.params.length d2,.slice b3 m.body.length d3] 70 (0,0))) (by kernel_rfl) (by exact HXq.out) (λ hHeld=>?_)
   clear hd
   generalize wq.drew=wd at *
   have hp1:(0:Int)<=(n:Int):=by omega
   have hp2:(n:Int)<=(l.length:Int):=by omega
   have hp3:n<=l.length:=by omega
   have hp4:n<=cap1:=by omega
   have hp5:(n:Int)<=(cap1:Int):=by omega
   refine Qt 1 67 rfl rfl ?_ (by intro w hSw;obtain⟨s0,s1,s2,s3⟩:=Q4 hSw;go_simp;(first | done | with_reducible rfl | rfl))
   try simp only [Qp]
   refine Qt 2 68 rfl rfl ?_ (by intro w hSw;obtain⟨s0,s1,s2,s3⟩:=Q4 hSw;go_simp;(first | done | with_reducible rfl | rfl))
   try simp only [Qp]
   refine takeH 3 69 (v:=.slice a1 n cap1) rfl rfl (by kernel_rfl) (by kernel_rfl) (by kernel_rfl) (λ _ _ _ h=>h) (by rfl) (by assumption) ?_ ?_
   ·intro w hSw;obtain⟨s0,s1,s2,s3⟩:=Q4 hSw;go_simp;(first | done | with_reducible rfl | rfl)
   try simp only [Qp]
   refine Qt 5 71 rfl rfl ?_ (by intro w hSw;obtain⟨s0,s1,s2,s3⟩:=Q4 hSw;go_simp;(first | done | with_reducible rfl | rfl))
   try simp only [Qp]
   refine Qt 8 74 rfl rfl ?_ (by intro w hSw;obtain⟨s0,s1,s2,s3⟩:=Q4 hSw;go_simp;(first | done | with_reducible rfl | rfl))
   try simp only [Qp]
   refine Qt 9 75 rfl rfl ?_ (by intro w hSw;obtain⟨s0,s1,s2,s3⟩:=Q4 hSw;go_simp;(first | done | with_reducible rfl | rfl))
   try simp only [Qp]
   refine takeH 10 76 (v:=sv) rfl rfl (by kernel_rfl) (by kernel_rfl) (by kernel_rfl) (λ _ _ _ h=>h) (by rfl) (by assumption) ?_ ?_
   ·intro w hSw;rw [HSV.out];obtain⟨s0,s1,s2,s3⟩:=Q4 hSw;go_simp;(first | done | with_reducible rfl | rfl)
   try simp only [Qp]
   have HXh:=Qh hHeld
   have hz0:w.heap.size<wd.heap.size:=by omega
   have HFP:Hid ((∀ b∈fa,b<wd.heap.size/\w.heap.size<=b)/\(∀ b∈fb,b<wd.heap.size/\w.heap.size<=b)/\(∀ b∈f2,b<wd.heap.size/\w.heap.size<=b)):=⟨λ b hb=>by have:=LO1.out b (HFA.out b hb);omega,λ b hb=>by have:=LO1.out b (HFB.out b hb);omega,λ b hb=>by have:=LO2.out b hb;omega⟩
   have HTL:Hid ((l.take n).length=n/\(l.drop n).length=l.length-n):=⟨by rw [List.length_take];omega,List.length_drop⟩
   clear HFA HFB hHeld HXq
   have HXwd:=HXh
   have HRAwd:=HRA
   have HRBwd:=HRB
   have HMwd:=HMd
   have HBwd:=HBd
   clear HXh HRA HRB HMd HBd
   refine wpAnyH_ready (rs:=[0,6]) (by decide +kernel) (by simp) ?_
   refine AllReadyH.cons rfl (λ K hK=>?_) (AllReadyH.cons rfl (λ K hK=>?_) AllReadyH.nil)
   ·have bl:=Zab wd (.cells #[] 70)
    have hyx0:wd.heap.size+1<=(wd.alloc (.cells #[] 70)).heap.size:=Nat.le_of_eq (Array.size_push _).symm
    have HGx0:=Qh (RowG.lit0 sMacro 70 wd)
    go_simp
    have HXx0:=Qh ((bl.block w.heap.size (by omega)).trans HXwd.out)
    have HRAx0:=Qh ((Zaa sMacro).below HRAwd.out bl)
    have HRBx0:=Qh ((Zaa sMacro).below HRBwd.out bl)
    have HMx0:=Qh (sMacro.below HMwd.out bl)
    have HBx0:=Qh (HBwd.out.trans (bl.mono HBwd.out.size))
    refine hK.out _ _ HXx0.out (λ hHeld=>?_)
    clear hK K bl
    try simp only [Qp]
    generalize (wd.alloc (.cells #[] 70))=x0 at *
    refine wpAnyH_ready (rs:=[4,6]) (by decide +kernel) (by simp) ?_
    refine AllReadyH.cons rfl (λ K hK=>?_) (AllReadyH.cons rfl (λ K hK=>?_) AllReadyH.nil)
    ·refine ZaL Zbt rfl (by decide) Zch _ 70 rfl rfl (.tmp 66) (.tmp 69) rfl (wd.heap.size) (.slice (some ⟨wd.heap.size,0,none⟩) 0 0) (.slice a1 n cap1) (l.take n) fa rfl HGx0.out rfl HRAx0.out (λ b hb=>by have:=(HFP.out.1 b hb).1;omega) (by rw [HTL.out.1];simp [maxLen];omega) (by rw [HTL.out.1];simp;omega) (by omega) ?_
     exact Y9A1
    ·have bl:=Zab x0 (.cells #[.string m.name,.bool m.function,.slice b2 m.params.length d2,.slice b3 m.body.length d3] 70)
     have hyx5:x0.heap.size+1<=(x0.alloc (.cells #[.string m.name,.bool m.function,.slice b2 m.params.length d2,.slice b3 m.body.length d3] 70)).heap.size:=Nat.le_of_eq (Array.size_push _).symm
     have HLx5:=Qh (heap_alloc_new x0 (.cells #[.string m.name,.bool m.function,.slice b2 m.params.length d2,.slice b3 m.body.length d3] 70))
     have HGx5:=Qh (HGx0.out.below bl)
     go_simp
     have HXx5:=Qh ((bl.block w.heap.size (by omega)).trans HXx0.out)
     have HRAx5:=Qh ((Zaa sMacro).below HRAx0.out bl)
     have HRBx5:=Qh ((Zaa sMacro).below HRBx0.out bl)
     have HMx5:=Qh (sMacro.below HMx0.out bl)
     have HBx5:=Qh (HBx0.out.trans (bl.mono HBx0.out.size))
     refine hK.out _ _ HXx5.out (λ hHeld=>?_)
     clear hK K bl
     try simp only [Qp]
     generalize (x0.alloc (.cells #[.string m.name,.bool m.function,.slice b2 m.params.length d2,.slice b3 m.body.length d3] 70))=x5 at *
     refine Qr 4 rfl (λ K hK=>?_) (by decide +kernel)
     refine ZaL Zbt rfl (by decide) Zch _ 70 rfl rfl (.tmp 66) (.tmp 69) rfl (wd.heap.size) (.slice (some ⟨wd.heap.size,0,none⟩) 0 0) (.slice a1 n cap1) (l.take n) fa rfl HGx5.out rfl HRAx5.out (λ b hb=>by have:=(HFP.out.1 b hb).1;omega) (by rw [HTL.out.1];simp [maxLen];omega) (by rw [HTL.out.1];simp;omega) (by omega) ?_
     exact Y9A3
   ·have bl:=Zab wd (.cells #[.string m.name,.bool m.function,.slice b2 m.params.length d2,.slice b3 m.body.length d3] 70)
    have hyx9:wd.heap.size+1<=(wd.alloc (.cells #[.string m.name,.bool m.function,.slice b2 m.params.length d2,.slice b3 m.body.length d3] 70)).heap.size:=Nat.le_of_eq (Array.size_push _).symm
    have HLx9:=Qh (heap_alloc_new wd (.cells #[.string m.name,.bool m.function,.slice b2 m.params.length d2,.slice b3 m.body.length d3] 70))
    go_simp
    have HXx9:=Qh ((bl.block w.heap.size (by omega)).trans HXwd.out)
    have HRAx9:=Qh ((Zaa sMacro).below HRAwd.out bl)
    have HRBx9:=Qh ((Zaa sMacro).below HRBwd.out bl)
    have HMx9:=Qh (sMacro.below HMwd.out bl)
    have HBx9:=Qh (HBwd.out.trans (bl.mono HBwd.out.size))
    refine hK.out _ _ HXx9.out (λ hHeld=>?_)
    clear hK K bl
    try simp only [Qp]
    generalize (wd.alloc (.cells #[.string m.name,.bool m.function,.slice b2 m.params.length d2,.slice b3 m.body.length d3] 70))=x9 at *
    refine Qr 0 rfl (λ K hK=>?_) (by decide +kernel)
    have bl:=Zab x9 (.cells #[] 70)
    have hyx10:x9.heap.size+1<=(x9.alloc (.cells #[] 70)).heap.size:=Nat.le_of_eq (Array.size_push _).symm
    have HGx10:=Qh (RowG.lit0 sMacro 70 x9)
    have HLx10:=Qh ((bl.block _ (by omega)).trans HLx9.out)
    go_simp
    have HXx10:=Qh ((bl.block w.heap.size (by omega)).trans HXx9.out)
    have HRAx10:=Qh ((Zaa sMacro).below HRAx9.out bl)
    have HRBx10:=Qh ((Zaa sMacro).below HRBx9.out bl)
    have HMx10:=Qh (sMacro.below HMx9.out bl)
    have HBx10:=Qh (HBx9.out.trans (bl.mono HBx9.out.size))
    refine hK.out _ _ HXx10.out (λ hHeld=>?_)
    clear hK K bl
    try simp only [Qp]
    generalize (x9.alloc (.cells #[] 70))=x10 at *
    refine Qr 4 rfl (λ K hK=>?_) (by decide +kernel)
    refine ZaL Zbt rfl (by decide) Zch _ 70 rfl rfl (.tmp 66) (.tmp 69) rfl (x9.heap.size) (.slice (some ⟨x9.heap.size,0,none⟩) 0 0) (.slice a1 n cap1) (l.take n) fa rfl HGx10.out rfl HRAx10.out (λ b hb=>by have:=(HFP.out.1 b hb).1;omega) (by rw [HTL.out.1];simp [maxLen];omega) (by rw [HTL.out.1];simp;omega) (by omega) ?_
    exact Y9A2
def Ze4 (l:List Tok):List ByteArray × Int:=match Zbl l with | some p=>(p.1,(p.2:Int)) | none=>([],-1)
theorem ZeP {l:List Tok} {p:List ByteArray × Nat} (h:Zbl l=some p):Ze4 l=(p.1,(p.2:Int)):=by unfold Ze4;rw [h]
theorem ZeQ {l:List Tok} (h:Zbl l=none):Ze4 l=([],-1):=by unfold Ze4;rw [h]
def PMade (l:List Tok) (w:World) (e:Ending) (w':World):Prop:=
 ∃ (pv:Value) (fp:List Nat),e=.returned (.tuple #[pv,.int .i64 (Ze4 l).2])/\(Zaa sStr).R w' [pv] (Ze4 l).1 fp/\Own w' w.heap.size fp/\Below w.heap.size w w'
theorem ZiM {l:List Tok} {w w1:World} (h:Zbl l=none) (hb:Below w.heap.size w w1):PMade l w (.returned (.tuple #[.slice (some ⟨w1.heap.size,0,none⟩) 0 0,.int .i64 (-1)])) (w1.alloc (.cells #[] 9)):=
 ⟨_,[],by rw [ZeQ h],by rw [ZeQ h];exact Zan sStr _ _ _ (by simp),Own.nil _ _,hb.trans ((Zab w1 _).mono hb.size)⟩
theorem Zl9 {l:List Tok} {w w1:World} {v:Value} {L:List ByteArray} {n:Int} {p:List ByteArray × Nat} (h:Zbl l=some p) (h1:p.1=L) (h2:(p.2:Int)=n) (hb:Below w.heap.size w w1) (ho:w1.ownsRow w.heap.size 9 1 v L.length (L.map Value.string))
  (hs:∀ i,(hi:i<L.length)->L[i].size<=maxLen):PMade l w (.returned (.tuple #[v,.int .i64 n])) w1:=by
 obtain⟨fp,h3,h4,_⟩:=Za6 (ok:=okStr) ho hs
 exact⟨v,fp,by rw [ZeP h,h2],by rw [ZeP h];show (Zaa sStr).R w1 [v] p.1 fp;rw [h1];exact h3,h4,hb⟩
theorem Zma {l:List Tok} {k:Nat} (h:k+1<l.length) (h1:(l[k]'(by omega)).kind≠1):parsAt l k=none:=by rw [parsAt,dif_pos h,if_neg h1]
theorem Zkz {l:List Tok} {k:Nat} (h:k+1<l.length) (h1:(l[k]'(by omega)).kind=1) (h2:l[k+1].text=ZdQ):parsAt l k=some ([(l[k]'(by omega)).text],k+2):=by rw [parsAt,dif_pos h,if_pos h1,if_pos h2]
theorem ZkA {l:List Tok} {k:Nat} (h:k+1<l.length) (h1:(l[k]'(by omega)).kind=1) (h2:l[k+1].text≠ZdQ) (h3:l[k+1].text=ZhT):parsAt l k=(parsAt l (k+2)).map (λ p=>((l[k]'(by omega)).text::p.1,p.2)):=by rw [parsAt,dif_pos h,if_pos h1,if_neg h2,if_pos h3]
theorem ZkB {l:List Tok} {k:Nat} (h:k+1<l.length) (h1:(l[k]'(by omega)).kind=1) (h2:l[k+1].text≠ZdQ) (h3:l[k+1].text≠ZhT):parsAt l k=none:=by rw [parsAt,dif_pos h,if_pos h1,if_neg h2,if_neg h3]
theorem ZkC {l:List Tok} {k:Nat} (h:¬ k+1<l.length):parsAt l k=none:=by rw [parsAt,dif_neg h]
theorem ZkD {w:World} {base e:Nat} {v:Value} {L:List ByteArray} {x:ByteArray} (h:w.ownsRow base e 1 v (L.length+1) (L.map Value.string++[.string x])):w.ownsRow base e 1 v (L++[x]).length ((L++[x]).map Value.string):=by
 simpa using h
theorem Zjs {L:List ByteArray} {x:ByteArray} (h:∀ i,(hi:i<L.length)->L[i].size<=maxLen) (hx:x.size<=maxLen):∀ i,(hi:i<(L++[x]).length)->(L++[x])[i].size<=maxLen:=by
 intro i hi
 by_cases h1:i<L.length
 ·rw [List.getElem_append_left h1];exact h i h1
 ·have:i=L.length:=by simp at hi;omega
  subst this;simp [hx]
theorem Y9A5 {g:Prop} (h:g:=by
 go_enter Tryz.func115,Tryz.ntmps115
 go_wp2
 go_loopw [4,5] (λ o i wr=>∃ (k:Nat) (L:List ByteArray),k<=l.length+2/\L.length<=k/\i=.int .i64 k/\Hid (wr.ownsRow w.heap.size 9 1 o L.length (L.map Value.string))/\Hid (∀ i,(hi:i<L.length)->L[i].size<=maxLen)/\Hid (Zbl l=(parsAt l k).map (λ p=>(L++p.1,p.2)))/\Below w.heap.size w wr) (λ _ i _=>l.length+2-(intOf i).toNat)
 case atStart=>exact⟨2,[],by omega,by simp,rfl,hlit,by intro i hi;simp at hi,HPA,hba⟩
 case round =>
  clear hlit hba HPA
  obtain⟨k,L,hk,hLk,rfl,HO,HS,HP,hb⟩:=hrel
  by_cases hlt:k+1<l.length
  ·obtain⟨b1,off1,fps1,heq,hb1,-,he1⟩:=hrow.out (by omega)
   first
    | subst heq
    | (simp only [Qi,Addr.mk.injEq,and_true] at heq;obtain⟨rfl,rfl⟩:=heq)
   obtain⟨es1,hE1,hR1⟩:=he1 k (by omega)
   obtain⟨es2,hE2,hR2⟩:=he1 (k+1) hlt
   clear hrow he1
   obtain⟨h1',rfl,-,okt,-⟩:=hR1
   obtain⟨h2',rfl,-,-,-⟩:=hR2
   have hE1':=hE1.frame (hb.block b1 hb1)
   have hE2':=hE2.frame (hb.block b1 hb1)
   have c0:wr.cell? ⟨b1,off1+k * 4,none⟩=some _:=Zao hE1' (by decide) rfl
   have c1:wr.cell? ⟨b1,off1+k * 4+1,none⟩=some _:=Zae (j:=1) hE1' (by decide) rfl
   have d1:wr.cell? ⟨b1,off1+(k+1) * 4+1,none⟩=some _:=Zae (j:=1) hE2' (by decide) rfl
   have d1w:w.cell? ⟨b1,off1+(k+1) * 4+1,none⟩=some _:=Zae (j:=1) hE2 (by decide) rfl
   clear hE1 hE2 hE1' hE2'
   obtain⟨fpo,hRo,-,-⟩:=Za6 (ok:=okStr) HO.out HS.out
   obtain⟨ao,co,rfl,-⟩:=Zaf hRo
   clear hRo
   have h6:((k:Int)+1).toNat=k+1:=by omega
   have hk1:(k:Int)+1<(l.length:Int):=by omega
   by_cases e1:(l[k]'(by omega)).kind=1
   ·have g1:((l[k]'(by omega)).kind != 1)=false:=by simp [e1]
    have OKT:=Qh okt
    by_cases e2:l[k+1].text=ZdQ
    ·have g2:=txt_t (l:=[41]) e2
     have HN:=Qh (HP.out.trans (by rw [Zkz hlt e1 e2];try rfl))
     clear e1 e2 okt
     go_wp2_with (
      at_builtin
      refine Zbq ti27 rfl _ (.string (l[k]'(by omega)).text) rfl rfl (.tmp 39) (.tmp 45) rfl w.heap.size (.slice ao L.length co) L.length _ rfl HO.out rfl (by unfold maxLen;omega) (by omega) hb.size ?_
      intro v3 w3 hown hgrow
      have hb3:=hb.grown hgrow hb.size (λ b hb'=>(HO.out.lt b hb').1)
      have d3:=(hb3.cell (p:=⟨b1,off1+(k+1) * 4+1,none⟩) hb1).trans d1w
      have HB3:=Qh hb3
      have HOW:=Qh (ZkD hown)
      clear hgrow hown)
     go_ret2
     exact Zl9 HN.out rfl (by go_num) HB3.out HOW.out (Zjs HS.out OKT.out)
    ·have g2:=txt_f (l:=[41]) e2
     by_cases e3:l[k+1].text=ZhT
     ·have g3:=txt_t (l:=[44]) e3
      have HN:Hid (Zbl l=(parsAt l (k+2)).map (λ p=>((L++[(l[k]'(by omega)).text])++p.1,p.2))):=by
       show _=_
       rw [HP.out,ZkA hlt e1 e2 e3,Option.map_map]
       congr 1
       funext p
       simp
      clear e1 e2 e3 okt
      go_wp2_with (
       at_builtin
       refine Zbq ti27 rfl _ (.string (l[k]'(by omega)).text) rfl rfl (.tmp 39) (.tmp 45) rfl w.heap.size (.slice ao L.length co) L.length _ rfl HO.out rfl (by unfold maxLen;omega) (by omega) hb.size ?_
       intro v3 w3 hown hgrow
       have hb3:=hb.grown hgrow hb.size (λ b hb'=>(HO.out.lt b hb').1)
       have d3:=(hb3.cell (p:=⟨b1,off1+(k+1) * 4+1,none⟩) hb1).trans d1w
       have HB3:=Qh hb3
       have HOW:=Qh (ZkD hown)
       clear hgrow hown)
      go_roundw
      case rel=>exact⟨k+2,_,by omega,by simp;omega,by go_num,HOW,Zjs HS.out OKT.out,HN,HB3.out⟩
      case measure=>simp [intOf];omega
     ·have g3:=txt_f (l:=[44]) e3
      have HN:=Qh (HP.out.trans (by rw [ZkB hlt e1 e2 e3];try rfl))
      clear e1 e2 e3 okt
      go_wp2_with (
       at_builtin
       refine Zbq ti27 rfl _ (.string (l[k]'(by omega)).text) rfl rfl (.tmp 39) (.tmp 45) rfl w.heap.size (.slice ao L.length co) L.length _ rfl HO.out rfl (by unfold maxLen;omega) (by omega) hb.size ?_
       intro v3 w3 hown hgrow
       have hb3:=hb.grown hgrow hb.size (λ b hb'=>(HO.out.lt b hb').1)
       have d3:=(hb3.cell (p:=⟨b1,off1+(k+1) * 4+1,none⟩) hb1).trans d1w
       have HB3:=Qh hb3
       clear hgrow hown)
      go_ret2
      exact ZiM HN.out HB3.out
   ·have g1:((l[k]'(by omega)).kind != 1)=true:=by simp [e1]
    have HN:=Qh (HP.out.trans (by rw [Zma hlt e1];try rfl))
    clear e1
    go_wp2
    go_ret2
    exact ZiM HN.out hb
  ·have HN:=Qh (HP.out.trans (by rw [ZkC hlt];try rfl))
   have hk1:¬ (k:Int)+1<(l.length:Int):=by omega
   go_wp2
   go_ret2
   exact ZiM HN.out hb):g:=h
theorem ZjV (v:Value) (l:List Tok) (fp:List Nat) (w:World) (hl:l.length<=60) (H:(Zaa sTok).R w [v] l fp) :
  Calls Tryz.prog 115 #[v] w (PMade l w):=by
 obtain⟨a,cap,rfl,hc,hm,hrow⟩:=Zac H
 unfold maxLen at hm
 clear H
 have hlit:Hid ((w.alloc (.cells #[] 9)).ownsRow w.heap.size 9 1 (.slice (some ⟨w.heap.size,0,none⟩) 0 0) ([]:List ByteArray).length (([]:List ByteArray).map Value.string)):=
  World.ownsRow_lit (base:=w.heap.size) (e:=9) (size:=1) w #[] 0 (Nat.le_refl _) (by simp) rfl
 have hba:=Zab w (.cells #[] 9)
 have fin:(¬ ∃ h:2<l.length,l[2].text=ZdQ/\l[2].kind=4)->Hid (Zbl l=(parsAt l 2).map (λ p=>(([]:List ByteArray)++p.1,p.2))):=λ hne=>by
  show _=_
  have e:(λ p:List ByteArray × Nat=>(([]:List ByteArray)++p.1,p.2))=id:=by funext p;simp
  rw [e,Option.map_id]
  unfold Zbl
  by_cases h2:2<l.length
  ·rw [dif_pos h2,if_neg (λ h=>hne ⟨h2,h⟩)];rfl
  ·rw [dif_neg h2,ZkC (by omega)];rfl
 by_cases h2:2<l.length
 ·obtain⟨b1,off1,fps1,rfl,hb1,hfp,he1⟩:=hrow (by omega)
  obtain⟨es1,hE1,hR1⟩:=he1 2 h2
  obtain⟨hh,rfl,-,-,-⟩:=hR1
  have hrow:Hid (0<l.length->∃ b off fps,(some ⟨b1,off1,none⟩:Option Addr)=some ⟨b,off,none⟩/\b<w.heap.size/\fp=b::(List.range l.length).flatMap fps/\∀ i,(hi:i<l.length)->∃ es,ElemAt w b off sTok.m i es/\sTok.R w es l[i] (fps i)):=λ _=>⟨b1,off1,fps1,rfl,hb1,hfp,he1⟩
  have hE2:=hE1.frame (hba.block b1 hb1)
  have c0:(w.alloc (.cells #[] 9)).cell? ⟨b1,off1+8,none⟩=some (.int .i64 l[2].kind):=Zao (i:=2) (m:=4) hE2 (by decide) rfl
  have c1:(w.alloc (.cells #[] 9)).cell? ⟨b1,off1+8+1,none⟩=some (.string l[2].text):=Zae (i:=2) (m:=4) (j:=1) hE2 (by decide) rfl
  have f3:(2:Int)<(l.length:Int):=by omega
  clear hE1 hE2 he1
  by_cases h3:l[2].text=ZdQ
  ·have f1:=txt_t (l:=[41]) h3
   by_cases h4:l[2].kind=4
   ·have f2:(l[2].kind==4)=true:=by simp [h4]
    have HP:Hid (Zbl l=some ([],3)):=by show _=_;unfold Zbl;rw [dif_pos h2,if_pos ⟨h3,h4⟩]
    clear h3 h4 fin
    go_enter Tryz.func115,Tryz.ntmps115
    go_wp2
    go_ret2
    exact Zl9 (p:=([],3)) HP.out rfl rfl hba hlit.out (by simp)
   ·have f2:(l[2].kind==4)=false:=by simp [h4]
    have HPA:=fin (by rintro ⟨_,_,h⟩;exact h4 h)
    clear h3 h4 fin
    exact Y9A5
  ·have f1:=txt_f (l:=[41]) h3
   have HPA:=fin (by rintro ⟨_,h,_⟩;exact h3 h)
   clear h3 fin
   exact Y9A5
 ·have f3:¬ (2:Int)<(l.length:Int):=by omega
  have HPA:=fin (by rintro ⟨h,_⟩;exact h2 h)
  have hrow:=Qh hrow
  clear fin
  exact Y9A5
theorem ZjW {P:Program} {ops:Array Oper} {Q:Exit->Act->World->Prop} {id:Nat} {a:Act} {w:World} (hm:P.follows .mixedOrders=true) (hok:ZcL ops=true)
  (J:Array Bool->List Value->World->Prop)
  (hJ:J (Array.replicate ops.size false) (origs a (ops.toList.map (·.dst))) { w with drawn:=w.drawn+1 })
  (step:∀ (i:Nat) (o:Oper),ops[i]?=some o->∀ (L:Array Bool) (xs:List Value) (w':World),L.size=ops.size->xs.length=ops.size->L.getD i false=false ->
   (∀ e∈o.after,Region.binds .any e=true->L.getD e.on false=true)->J L xs w' ->
   ∀ K:Act->World->Prop,(∀ v w'',J (L.setIfInBounds i true) (xs.set i v) w''->K ((fill a (ops.toList.map (·.dst)) xs).put o.dst v) w'')->wpList P ops (Sw K) [o] (fill a (ops.toList.map (·.dst)) xs) w')
  (done:∀ (L:Array Bool) (xs:List Value) (w':World),xs.length=ops.size->(∀ i,i<ops.size->L.getD i false=true)->J L xs w'->Q .normal (fill a (ops.toList.map (·.dst)) xs) w') :
  (Code.region id ops true).wp P Q a w:=by
 refine wp_region_any hm ?_
 have hd:ZcQ (ops.toList.map (·.dst))=true:=by unfold ZcL at hok;rw [Bool.and_eq_true] at hok;exact hok.1
 have hlist:∀ (L:Array Bool),L.size=ops.size->Region.ready .any ops L=[]->∀ i,i<ops.size->L.getD i false=true:=by
  intro L hL hr i
  induction i using Nat.strongRecOn with
  |
   ind i ih =>
   intro hi
   cases hb:L.getD i false with
   | true=>rfl
   |
    false =>
    exfalso
    have hm:i∈Region.ready .any ops L:=by
     rw [mem_ready]
     exact⟨Zl6 (by omega) hb,ops[i],Array.getElem?_eq_getElem hi,λ e he _=>by
      have hlt:=Zdq hok (Array.getElem?_eq_getElem hi) e he
      exact ih e.on hlt (by omega)⟩
    rw [hr] at hm
    cases hm
 have main:∀ (fuel:Nat) (L:Array Bool) (b:Act) (w':World) (xs:List Value),fuel+cnt ops.size L=ops.size->L.size=ops.size->xs.length=ops.size->b=fill a (ops.toList.map (·.dst)) xs->J L xs w'->wpAny P .any ops Q fuel L b w':=by
  intro fuel
  induction fuel with
  |
   zero =>
   intro L b w' xs hf hs hx hb hI
   have hall:∀ i,i<ops.size->L.getD i false=true:=λ i hi=>by
    cases hb:L.getD i false with
    | true=>rfl
    | false=>have:=Zku hi hb;omega
   refine ⟨?_,?_⟩
   ·cases hr:Region.ready .any ops L with
    | nil=>rfl
    |
     cons i r =>
     have hi:i∈Region.ready .any ops L:=by rw [hr];simp
     rw [mem_ready] at hi
     obtain⟨h0,o,ho,_⟩:=hi
     have:=hall i (Qg ho).1
     rw [Zd2 h0] at this
     cases this
   ·rw [hb];exact done L xs w' hx hall hI
  |
   succ fuel ih =>
   intro L b w' xs hf hs hx hb hI
   refine ⟨λ hr=>?_,λ i hi=>?_⟩
   ·rw [hb];exact done L xs w' hx (hlist L hs hr) hI
   ·obtain⟨h0,o,ho,hafter⟩:=mem_ready.1 hi
    have hlt:=(Qg ho).1
    refine sw_op ho ?_
    rw [hb]
    refine step i o ho L xs w' hs hx (Zd2 h0) hafter hI _ (λ v w'' h1=>?_)
    have hds:(ops.toList.map (·.dst))[i]?=some o.dst:=by simp [ho]
    rw [Zkt _ hd _ _ i _ _ (by simpa using hx) hds]
    have hset:cnt ops.size (L.setIfInBounds i true)=cnt ops.size L+1:=ZiF hlt hs h0
    exact ih _ _ _ (xs.set i v) (by omega) (by simpa using hs) (by simpa using hx) rfl h1
 refine main ops.size _ _ _ (origs a (ops.toList.map (·.dst))) ?_ (by simp) (by simp [origs]) (Zjp _ a).symm hJ
 have hz:∀ i,(Array.replicate ops.size false).getD i false=false:=by intro i;simp [Array.getD]
 have hc:cnt ops.size (Array.replicate ops.size false)=0:=by
  unfold cnt
  rw [List.countP_eq_zero]
  intro i _;simp only [hz i];simp
 rw [hc];omega
structure AppJ (n ia ib ic:Nat) (vals:List (Option Value)) (va:Value) (og:List Value) (w0 w1:World) (App Fin:Value->World->Prop) (L:Array Bool) (xs:List Value) (w:World):Prop where
 con:∀ i,i<n->i≠ia->i≠ib->i≠ic->L.getD i false=true->∀ u,vals[i]?=some (some u)->xs[i]?=some u
 a:L.getD ia false=true->xs[ia]?=some va
 ab:L.getD ib false=true->L.getD ia false=true
 bc:L.getD ic false=true->L.getD ib false=true
 s0:L.getD ia false=false->w=w0
 s1:L.getD ia false=true->L.getD ib false=false->w=w1
 s2:L.getD ib false=true->L.getD ic false=false->∃ v,xs[ib]?=some v/\App v w
 s3:L.getD ic false=true->∃ v,xs[ib]?=some v/\Fin v w
 old:∀ i,i<n->L.getD i false=false->xs[i]?=og[i]?
 fin:L.getD ic false=true->∀ i,i<n->L.getD i false=true
theorem sw_skip {P:Program} {ops:Array Oper} {K:Act->World->Prop} {o:Oper} {a:Act} {w:World} (hw:Region.wanted o (yielded ops a.tmps)=false) (h:K (a.put o.dst undef) w):wpList P ops (Sw K) [o] a w:=by
 unfold wpList
 rw [if_neg (by simp [hw])]
 exact h
def ConOk (P:Program) (ops:Array Oper) (a:Act) (vals:List (Option Value)) (Base:World->Prop) (ia ib ic i:Nat) (o:Oper):Prop:=
 ∀ (xs:List Value) (w':World),xs.length=ops.size->xs[i]?=(origs a (ops.toList.map (·.dst)))[i]?->(∀ e∈o.after,Region.binds .any e=true->e.on≠ia->e.on≠ib->e.on≠ic->∀ u,vals[e.on]?=some (some u)->xs[e.on]?=some u)->Base w' ->
  ∀ K:Act->World->Prop,(∀ v,(∀ u,vals[i]?=some (some u)->v=u)->K ((fill a (ops.toList.map (·.dst)) xs).put o.dst v) w')->wpList P ops (Sw K) [o] (fill a (ops.toList.map (·.dst)) xs) w'
def Zhh (P:Program) (ops:Array Oper) (a:Act) (vals:List (Option Value)) (Base:World->Prop) (ia ib ic:Nat):Nat->List Oper->Prop
 | _,[]=>True
 | k,o::os=>(k=ia\/k=ib\/k=ic\/ConOk P ops a vals Base ia ib ic k o)/\Zhh P ops a vals Base ia ib ic (k+1) os
theorem cons_of {P:Program} {ops:Array Oper} {a:Act} {vals:List (Option Value)} {Base:World->Prop} {ia ib ic:Nat}:∀ (l:List Oper) (k:Nat),(∀ j,l[j]?=ops[k+j]?)->Zhh P ops a vals Base ia ib ic k l->∀ i o,k<=i->ops[i]?=some o->i=ia\/i=ib\/i=ic\/ConOk P ops a vals Base ia ib ic i o:=by
 intro l
 induction l with
 |
  nil =>
  intro k h _ i o hk hi
  have:=h (i-k)
  rw [show k+(i-k)=i by omega,hi] at this
  simp at this
 |
  cons x l ih =>
  intro k h hs i o hk hi
  by_cases e:i=k
  ·subst e
   have h0:=h 0
   rw [Nat.add_zero,hi] at h0
   simp only [List.getElem?_cons_zero,Qi] at h0
   subst h0
   exact hs.1
  ·exact ih (k+1) (λ j=>by have:=h (j+1);rw [List.getElem?_cons_succ] at this;rw [this];congr 1;omega) hs.2 i o (by omega) hi
theorem ZkE {P:Program} {ops:Array Oper} {a:Act} {vals:List (Option Value)} {Base:World->Prop} {ia ib ic:Nat} (h:Zhh P ops a vals Base ia ib ic 0 ops.toList) :
  ∀ i o,ops[i]?=some o->i=ia\/i=ib\/i=ic\/ConOk P ops a vals Base ia ib ic i o:=λ i o hi=>cons_of ops.toList 0 (λ j=>by simp) h i o (Nat.zero_le _) hi
theorem ZfM {P:Program} {ops:Array Oper} {Q:Exit->Act->World->Prop} {id:Nat} {a:Act} {w:World} (hm:P.follows .mixedOrders=true) (hok:ZcL ops=true)
  (ia ib ic:Nat) (hab:((ops[ib]?).map λ o=>o.after.any λ e=>Region.binds .any e && e.on==ia)=some true) (hcov:((ops[ic]?).map λ o=>ZhY o ic ops.size)=some true)
  (hne:ia≠ib/\ib≠ic/\ia≠ic) (hlt:ia<ops.size/\ib<ops.size/\ic<ops.size) {oA oB oC:Oper} (hA:ops[ia]?=some oA) (hB:ops[ib]?=some oB) (hC:ops[ic]?=some oC)
  (vals:List (Option Value)) (va:Value) (w1:World) (App Fin:Value->World->Prop) (Base:World->Prop)
  (hb0:Base { w with drawn:=w.drawn+1 }) (hb1:Base w1) (hb2:∀ v w2,App v w2->Base w2)
  (con:∀ (i:Nat) (o:Oper),ops[i]?=some o->i=ia\/i=ib\/i=ic\/ConOk P ops a vals Base ia ib ic i o)
  (stA:∀ xs:List Value,xs.length=ops.size->(∀ e∈oA.after,Region.binds .any e=true->e.on≠ia->e.on≠ib->e.on≠ic->∀ u,vals[e.on]?=some (some u)->xs[e.on]?=some u) ->
   ∀ K:Act->World->Prop,K ((fill a (ops.toList.map (·.dst)) xs).put oA.dst va) w1->wpList P ops (Sw K) [oA] (fill a (ops.toList.map (·.dst)) xs) { w with drawn:=w.drawn+1 })
  (stB:∀ xs:List Value,xs.length=ops.size->(∀ e∈oB.after,Region.binds .any e=true->e.on≠ia->e.on≠ib->e.on≠ic->∀ u,vals[e.on]?=some (some u)->xs[e.on]?=some u)->xs[ia]?=some va ->
   ∀ K:Act->World->Prop,(∀ v w2,App v w2->K ((fill a (ops.toList.map (·.dst)) xs).put oB.dst v) w2)->wpList P ops (Sw K) [oB] (fill a (ops.toList.map (·.dst)) xs) w1)
  (stC:∀ (xs:List Value) (v:Value) (w2:World),xs.length=ops.size->(∀ e∈oC.after,Region.binds .any e=true->e.on≠ia->e.on≠ib->e.on≠ic->∀ u,vals[e.on]?=some (some u)->xs[e.on]?=some u)->xs[ib]?=some v->App v w2 ->
   ∀ K:Act->World->Prop,(∀ u w3,Fin v w3->K ((fill a (ops.toList.map (·.dst)) xs).put oC.dst u) w3)->wpList P ops (Sw K) [oC] (fill a (ops.toList.map (·.dst)) xs) w2)
  (done:∀ (xs:List Value) (v:Value) (w':World),xs.length=ops.size->(∀ i,i<ops.size->i≠ia->i≠ib->i≠ic->∀ u,vals[i]?=some (some u)->xs[i]?=some u)->xs[ia]?=some va->xs[ib]?=some v->Fin v w'->Q .normal (fill a (ops.toList.map (·.dst)) xs) w') :
  (Code.region id ops true).wp P Q a w:=by
 obtain⟨n1,n2,n3⟩:=hne
 obtain⟨l1,l2,l3⟩:=hlt
 refine ZjW hm hok (AppJ ops.size ia ib ic vals va (origs a (ops.toList.map (·.dst))) { w with drawn:=w.drawn+1 } w1 App Fin) ?_ ?_ ?_
 ·have hz:∀ i,(Array.replicate ops.size false).getD i false=false:=by intro i;simp [Array.getD]
  have hf:∀ i,(Array.replicate ops.size false).getD i false=true->False:=λ i h=>by rw [hz] at h;cases h
  exact⟨λ i _ _ _ _ h=>(hf i h).elim,λ h=>(hf _ h).elim,λ h=>(hf _ h).elim,λ h=>(hf _ h).elim,λ _=>rfl,λ h _=>(hf _ h).elim,λ h _=>(hf _ h).elim,λ h=>(hf _ h).elim,λ _ _ _=>rfl,λ h=>(hf _ h).elim⟩
 ·intro i o ho L xs w' hs hx hL hafter hJ K hK
  have hi:=(Qg ho).1
  have hdep:∀ e∈o.after,Region.binds .any e=true->e.on≠ia->e.on≠ib->e.on≠ic->∀ u,vals[e.on]?=some (some u)->xs[e.on]?=some u:=λ e he hb h1 h2 h3=>by
   have hdone:=hafter e he hb
   have hsz:e.on<ops.size:=by
    have:=Zdq hok ho e he
    omega
   exact hJ.con e.on hsz h1 h2 h3 hdone
  have hp:∀ j,(L.setIfInBounds i true).getD j false=(decide (j=i) || L.getD j false):=λ j=>Zem (by rw [hs];exact hi)
  have hxs:∀ (v:Value) (j:Nat),j≠i->(xs.set i v)[j]?=xs[j]?:=λ v j hj=>List.getElem?_set_ne (λ h=>hj h.symm)
  have hxi:∀ (v:Value),(xs.set i v)[i]?=some v:=λ v=>List.getElem?_set_self (by omega)
  have hold:∀ (v:Value) (j:Nat),j<ops.size->(L.setIfInBounds i true).getD j false=false->(xs.set i v)[j]?=(origs a (ops.toList.map (·.dst)))[j]?:=λ v j hj hf=>by
   rw [hp,Bool.or_eq_false_iff,decide_eq_false_iff_not] at hf
   rw [hxs v j hf.1]
   exact hJ.old j hj hf.2
  by_cases ea:i=ia
  ·subst ea
   have hA':=hA
   have hbf:L.getD ib false=false:=by
    cases h:L.getD ib false
    ·rfl
    ·rw [hJ.ab h] at hL;cases hL
   have hcf:L.getD ic false=false:=by
    cases h:L.getD ic false
    ·rfl
    ·rw [hJ.bc h] at hbf;cases hbf
   obtain rfl:=hJ.s0 hL
   rw [hA] at ho;cases ho
   refine stA xs hx hdep K (hK va w1 ⟨?_,λ _=>hxi va,λ _=>by rw [hp];simp,λ h=>?_,λ h=>?_,λ _ _=>rfl,λ h=>?_,λ h=>?_,hold va,λ h=>?_⟩)
   ·intro j hj h1 h2 h3 hd u hu
    rw [hp,Bool.or_eq_true,decide_eq_true_eq] at hd
    rw [hxs _ _ h1]
    exact hJ.con j hj h1 h2 h3 (hd.resolve_left h1) u hu
   ·rw [hp,hcf] at h;simp at h;exact absurd h.symm n3
   ·rw [hp] at h;simp at h
   ·rw [hp,hbf] at h;simp at h;exact absurd h.symm n1
   ·rw [hp,hcf] at h;simp at h;exact absurd h.symm n3
   ·rw [hp,hcf] at h;simp at h;exact absurd h.symm n3
  ·by_cases eb:i=ib
   ·subst eb
    obtain⟨e,he,hbd,hon⟩:∃ e∈o.after,Region.binds .any e=true/\e.on=ia:=by
     rw [ho,Option.map_some,Qi,Array.any_eq_true'] at hab
     obtain⟨e,h1,h2⟩:=hab
     rw [Bool.and_eq_true,beq_iff_eq] at h2
     exact⟨e,h1,h2.1,h2.2⟩
    have hat:L.getD ia false=true:=hon ▸ hafter e he hbd
    have hcf:L.getD ic false=false:=by
     cases h:L.getD ic false
     ·rfl
     ·rw [hJ.bc h] at hL;cases hL
    obtain rfl:=hJ.s1 hat hL
    rw [hB] at ho;cases ho
    refine stB xs hx hdep (hJ.a hat) K (λ v w2 hApp=>hK v w2 ⟨?_,λ _=>?_,λ _=>?_,λ h=>?_,λ h=>?_,λ _ h=>?_,λ _ _=>⟨v,hxi v,hApp⟩,λ h=>?_,hold v,λ h=>?_⟩)
    ·intro j hj h1 h2 h3 hd u hu
     rw [hp,Bool.or_eq_true,decide_eq_true_eq] at hd
     rw [hxs _ _ h2]
     exact hJ.con j hj h1 h2 h3 (hd.resolve_left h2) u hu
    ·rw [hxs _ _ n1];exact hJ.a hat
    ·rw [hp,hat];simp
    ·rw [hp,hcf] at h;simp at h;exact absurd h.symm n2
    ·rw [hp,hat] at h;simp at h
    ·rw [hp] at h;simp at h
    ·rw [hp,hcf] at h;simp at h;exact absurd h.symm n2
    ·rw [hp,hcf] at h;simp at h;exact absurd h.symm n2
   ·by_cases ec:i=ic
    ·subst ec
     have hall:∀ j,j<ops.size->j≠i->L.getD j false=true:=λ j hj hji=>by
      have hc:=hcov
      rw [ho,Option.map_some,Qi] at hc
      unfold ZhY at hc
      rw [List.all_eq_true] at hc
      have:=hc j (by simpa using hj)
      rw [Bool.or_eq_true,beq_iff_eq] at this
      rcases this with h | h
      ·exact absurd h hji
      ·rw [Array.any_eq_true'] at h
       obtain⟨d,hd1,hd2⟩:=h
       rw [Bool.and_eq_true,beq_iff_eq] at hd2
       rw [← hd2.2];exact hafter d hd1 hd2.1
     have hbt:L.getD ib false=true:=hall ib l2 n2
     have hat:=hJ.ab hbt
     obtain⟨v,hv,hApp⟩:=hJ.s2 hbt hL
     rw [hC] at ho;cases ho
     refine stC xs v w' hx hdep hv hApp K (λ u w3 hF=>hK u w3 ⟨?_,λ _=>?_,λ _=>?_,λ _=>?_,λ h=>?_,λ _ h=>?_,λ _ h=>?_,λ _=>⟨v,?_,hF⟩,hold u,λ _ j hj=>?_⟩)
     ·intro j hj h1 h2 h3 hd u hu
      rw [hp,Bool.or_eq_true,decide_eq_true_eq] at hd
      rw [hxs _ _ h3]
      exact hJ.con j hj h1 h2 h3 (hd.resolve_left h3) u hu
     ·rw [hxs _ _ n3];exact hJ.a hat
     ·rw [hp,hat];simp
     ·rw [hp,hbt];simp
     ·rw [hp,hat] at h;simp at h
     ·rw [hp,hbt] at h;simp at h
     ·rw [hp] at h;simp at h
     ·rw [hxs _ _ n2];exact hv
     ·rw [hp,Bool.or_eq_true,decide_eq_true_eq]
      by_cases e:j=i
      ·exact .inl e
      ·exact .inr (hall j hj e)
    ·have hbase:Base w':=by
      cases hA:L.getD ia false
      ·rw [hJ.s0 hA];exact hb0
      ·cases hB:L.getD ib false
       ·rw [hJ.s1 hA hB];exact hb1
       ·cases hC:L.getD ic false
        ·obtain⟨v,_,h⟩:=hJ.s2 hB hC;exact hb2 v _ h
        ·rw [hJ.fin hC i hi] at hL;cases hL
     have hpa:(L.setIfInBounds i true).getD ia false=L.getD ia false:=by rw [hp,decide_eq_false (λ h=>ea h.symm),Bool.false_or]
     have hpb:(L.setIfInBounds i true).getD ib false=L.getD ib false:=by rw [hp,decide_eq_false (λ h=>eb h.symm),Bool.false_or]
     have hpc:(L.setIfInBounds i true).getD ic false=L.getD ic false:=by rw [hp,decide_eq_false (λ h=>ec h.symm),Bool.false_or]
     refine ((((con i o ho).resolve_left ea).resolve_left eb).resolve_left ec) xs w' hx (hJ.old i hi hL) hdep hbase K (λ v hv=>hK v w' ⟨?_,λ h=>?_,λ h=>?_,λ h=>?_,λ h=>?_,λ h1 h2=>?_,λ h1 h2=>?_,λ h=>?_,hold v,λ h=>?_⟩)
     ·intro j hj h1 h2 h3 hd u hu
      by_cases ej:j=i
      ·subst ej;rw [hxi,hv u hu]
      ·rw [hp,Bool.or_eq_true,decide_eq_true_eq] at hd
       rw [hxs _ _ ej]
       exact hJ.con j hj h1 h2 h3 (hd.resolve_left ej) u hu
     ·rw [hpa] at h;rw [hxs _ _ (λ h=>ea h.symm)];exact hJ.a h
     ·rw [hpb] at h;rw [hpa];exact hJ.ab h
     ·rw [hpc] at h;rw [hpb];exact hJ.bc h
     ·rw [hpa] at h;exact hJ.s0 h
     ·rw [hpa] at h1;rw [hpb] at h2;exact hJ.s1 h1 h2
     ·rw [hpb] at h1;rw [hpc] at h2;rw [hxs _ _ (λ h=>eb h.symm)];exact hJ.s2 h1 h2
     ·rw [hpc] at h;rw [hxs _ _ (λ h=>eb h.symm)];exact hJ.s3 h
     ·rw [hpc] at h;rw [hJ.fin h i hi] at hL;cases hL
 ·intro L xs w' hx hall hJ
  obtain⟨v,hv,hF⟩:=hJ.s3 (hall ic l3)
  exact done xs v w' hx (λ i hi h1 h2 h3=>hJ.con i hi h1 h2 h3 (hall i hi)) (hJ.a (hall ia l1)) hv hF
theorem Zap {P:Program} {fn:Func} {p u:Tmp} {ty:TypeId} (h:fn.results=#[.cell p ty,.tmp u]) (tmps:Array Value) (w:World) (g:Nat) (t:TypeId) (cs:Array Value) (fr:Nat × Nat) (d:TypeDesc)
  (hp:tmps.getD p undef=.pointer (some ⟨g,0,none⟩)) (hg:w.heap[g]?=some (.cells cs t fr))
  (hu:P.underlying ty=some d) (hd:(match d with | .struct _ | .array _ _=>true | _=>false)=true) (hi:(P.info? ty).map (·.size)=some cs.size) :
  (results fn tmps).run P w=.ok (.tuple #[.agg cs,tmps.getD u undef]) w:=by
 have hp':tmps[p]?.getD undef=.pointer (some ⟨g,0,none⟩):=by simpa using hp
 rw [results_cell_tmp h]
 simp [hp',asAddr,run_loadVar_row w g t ty cs fr d hg hu hd hi,Result.andThen]
theorem mbox {w:World} {g:Nat} {arr:Array Value} {ty:TypeId} (h:w.heap[g]?=some (.cells arr ty (0,0))) {w':World} (hb:Below w.heap.size w w'):w'.heap[g]?=some (.cells arr ty (0,0)):=
 (hb.block g (Qg h).1).trans h
theorem mlt {w:World} {g:Nat} {o:Obj} (h:w.heap[g]?=some o):g<w.heap.size:=(Qg h).1
end Go.Proofs.YtiaiggjfepoahaaGreat
