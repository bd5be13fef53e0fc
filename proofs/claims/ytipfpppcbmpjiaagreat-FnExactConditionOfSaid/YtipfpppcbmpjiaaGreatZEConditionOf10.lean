/- Texts that the proof of EConditionOf stands on, in one file. -/
import Derived.Test.YtipfpppcbmpjiaaGreatZEConditionOf9
import Derived.OwnWalk
import Derived.IntWalk
set_option linter.unusedVariables false
set_option maxHeartbeats 16000000
set_option maxRecDepth 100000
set_option linter.unusedSimpArgs false
/- MacroOf of both, as the exact law calls them. -/
namespace Go.Proofs.YtipfpppcbmpjiaaGreat
open Go.RowKit
open Go.RowKit Go.ChangeShapes Go.WideShapes Go.Deep
abbrev sToks:Shape (List Tok):=Zaa sTok
theorem ZdM:TI Tryz.prog 116 24 (.slice none 0 0) 1 24:=⟨by kernel_rfl,by kernel_rfl⟩
theorem ZeD {α:Type} {S:Shape α} {w:World} {cs:List Value} {l:List α} {fp:List Nat} (H:(Zaa S).R w cs l fp):∃ a cap,cs=[.slice a l.length cap]:=by
 obtain⟨a,cap,h,-⟩:=H
 exact⟨a,cap,h⟩
theorem Zke {w:World} {b off i:Nat} {v:Value} (h:ElemAt w b off 1 i [v]):w.cell? ⟨b,off+i,none⟩=some v:=by
 have:=h.2 0 (by decide)
 simpa using this
def Zcg (t:Tok):Bool:=t.text.toList==[40]
def Zd3 (t:Tok):Bool:=t.text.toList==[41]
def isCom (t:Tok):Bool:=t.text.toList==[44]
def opn (t:Tok):Int:=if Zcg t=true then 1 else if Zd3 t=true then -1 else 0
abbrev Args:=List (List Tok)
def spGo:List Tok->Int->Args->List Tok->Nat->Args × Nat × Bool
 | [],_,args,_,_=>(args,0,false)
 |
  t::r,d,args,arg,k =>
  if d+opn t=0 then (args++[arg],k+1,true)
  else if d+opn t=1/\isCom t=true then spGo r (d+opn t) (args++[arg]) [] (k+1)
  else spGo r (d+opn t) args (arg++[t]) (k+1)
def clGo:List Tok->Int->Nat->Option Nat
 | [],_,_=>none
 | t::r,d,k=>if d+opn t=0 then some k else clGo r (d+opn t) (k+1)
def dvGo:List Tok->Int->Args->List Tok->Args
 | [],_,args,arg=>args++[arg]
 | t::r,d,args,arg=>if d=0/\isCom t=true then dvGo r d (args++[arg]) [] else dvGo r (d+opn t) args (arg++[t])
theorem opn_com {t:Tok} (h:isCom t=true):opn t=0:=by
 have e:t.text=⟨#[44]⟩:=txt_eq h
 have h1:Zcg t=false:=by unfold Zcg;rw [e,Zc8];decide
 have h2:Zd3 t=false:=by unfold Zd3;rw [e,Zc8];decide
 unfold opn
 rw [h1,h2];rfl
theorem ZeS:∀ (l:List Tok) (d:Int) (k e:Nat),clGo l d k=some e->k<=e/\e<k+l.length
 | [],_,_,_,h=>by simp [clGo] at h
 |
  t::r,d,k,e,h=>by
  unfold clGo at h
  split at h
  ·simp only [Qi] at h;subst h;simp
  ·have:=ZeS r _ _ _ h
   simp only [List.length_cons]
   omega
theorem sp_dv:∀ (l:List Tok) (d:Int) (args:Args) (arg:List Tok) (k:Nat),
  match clGo l (d+1) k with
  | none=>(spGo l (d+1) args arg k).2=(0,false)
  | some e=>spGo l (d+1) args arg k=(dvGo (l.take (e-k)) d args arg,e+1,true)
 | [],d,args,arg,k=>by simp [clGo,spGo]
 |
  t::r,d,args,arg,k=>by
  unfold clGo spGo
  by_cases h0:d+1+opn t=0
  ·rw [if_pos h0,if_pos h0]
   simp [dvGo]
  ·rw [if_neg h0,if_neg h0]
   by_cases hc:isCom t=true
   ·have ho:=opn_com hc
    have e1:d+1+opn t=d+1:=by omega
    rw [e1]
    by_cases hd:d=0
    ·rw [if_pos ⟨by omega,hc⟩]
     have ih:=sp_dv r d (args++[arg]) [] (k+1)
     split at ih
     ·exact ih
     ·rename_i e h
      have hg:=ZeS r _ _ _ h
      show spGo _ _ _ _ _=_
      rw [ih,show e-k=(e-(k+1))+1 by omega,List.take_succ_cons,dvGo,if_pos ⟨hd,hc⟩]
    ·rw [if_neg (λ h=>hd (by omega))]
     have ih:=sp_dv r d args (arg++[t]) (k+1)
     split at ih
     ·exact ih
     ·rename_i e h
      have hg:=ZeS r _ _ _ h
      show spGo _ _ _ _ _=_
      rw [ih,show e-k=(e-(k+1))+1 by omega,List.take_succ_cons,dvGo,if_neg (λ h=>hd h.1),ho,Int.add_zero]
   ·have e1:d+1+opn t=d+opn t+1:=by omega
    rw [e1,if_neg (λ h=>hc h.2)]
    have ih:=sp_dv r (d+opn t) args (arg++[t]) (k+1)
    split at ih
    ·exact ih
    ·rename_i e h
     have hg:=ZeS r _ _ _ h
     show spGo _ _ _ _ _=_
     rw [ih,show e-k=(e-(k+1))+1 by omega,List.take_succ_cons,dvGo,if_neg (λ h=>hc h.2)]
theorem Zkf {t:Tok} (h:Zcg t=true):opn t=1:=by unfold opn;rw [h];rfl
theorem opn_shut {t:Tok} (h:Zcg t=false) (h2:Zd3 t=true):opn t=-1:=by unfold opn;rw [h,h2];rfl
theorem opn_else {t:Tok} (h:Zcg t=false) (h2:Zd3 t=false):opn t=0:=by unfold opn;rw [h,h2];rfl
theorem opn_ge (t:Tok):-1<=opn t/\opn t<=1:=by unfold opn;split <;> (try split) <;> omega
structure RowG {α:Type} (S:Shape α) (base:Nat) (e:TypeId) (v:Value) (L:List (Elem α)) (w:World):Prop where
 row:w.ownsRow base e S.m v L.length (L.flatMap (·.cells))
 len:∀ x∈L,x.cells.length=S.m
 el:∀ x∈L,S.R w x.cells x.d x.fp
 hi:∀ x∈L,∀ b∈x.fp,b<base
section
variable {α:Type} {S:Shape α} {base:Nat} {e:TypeId} {v v':Value} {L:List (Elem α)} {w w':World}
theorem RowG.nil (S:Shape α) (base:Nat) (e:TypeId) (w:World):RowG S base e (.slice none 0 0) [] w:=⟨World.ownsRow_nil _ _ _ _,by simp,by simp,by simp⟩
theorem RowG.ap (h:RowG S base e v L w):∀ x∈L,∀ b∈x.fp,v.ownBlock≠some b:=λ x hx b hb hv=>by
 have h1:=h.hi x hx b hb
 have h2:=(h.row.lt b hv).1
 omega
theorem RowG.lit0 (S:Shape α) (e:TypeId) (w:World):RowG S w.heap.size e (.slice (some ⟨w.heap.size,0,none⟩) 0 0) [] (w.alloc (.cells #[] e)) where
 row:=World.ownsRow_lit (base:=w.heap.size) (e:=e) (size:=S.m) w #[] 0 (Nat.le_refl _) (by unfold maxLen;omega) (by simp)
 len:=by simp
 el:=by simp
 hi:=by simp
theorem RowG.same (h:RowG S base e v L w) (hv:∀ g,v.ownBlock=some g->w'.heap[g]?=w.heap[g]?) (hb:∀ x∈L,∀ b∈x.fp,w'.heap[b]?=w.heap[b]?):RowG S base e v L w' where
 row:=Zbb h.row hv
 len:=h.len
 el:=λ x hx=>S.frame (λ b hb'=>hb x hx b hb') (h.el x hx)
 hi:=h.hi
theorem RowG.below (h:RowG S base e v L w) (hb:Below w.heap.size w w'):RowG S base e v L w':=
 h.same (λ g hg=>hb.block g (h.row.lt g hg).2) (λ x hx b hb'=>hb.block b (S.lt (h.el x hx) b hb'))
theorem RowG.kept {K:List Nat} (h:RowG S base e v L w) (hk:Kept K w w') (hv:∀ g,v.ownBlock=some g->g∉K) (hb:∀ x∈L,∀ b∈x.fp,b∉K):RowG S base e v L w':=
 h.same (λ g hg=>hk.block g (h.row.lt g hg).2 (hv g hg)) (λ x hx b hb'=>hk.block b (S.lt (h.el x hx) b hb') (hb x hx b hb'))
theorem RowG.val (h:RowG S base e v L w):∃ a cap,v=.slice a L.length cap/\L.length<=cap/\cap<=maxLen/\(0<L.length->∃ g,a=some ⟨g,0,none⟩/\base<=g/\g<w.heap.size):=by
 rcases h.row.2 with⟨rfl,h0⟩ | ⟨g,cap,cur,rfl,hb,hg,hn,hc,_⟩
 ·exact⟨none,0,by rw [h0],by omega,by simp,λ h=>by omega⟩
 ·exact⟨_,cap,rfl,hn,hc,λ _=>⟨g,rfl,hb,(Qg hg).1⟩⟩
theorem RowG.mine (h:RowG S base e v L w):∀ b,v.ownBlock=some b->base<=b:=λ b hb=>(h.row.lt b hb).1
theorem RowG.read (h:RowG S base e v L w):∃ fp,(Zaa S).R w [v] (L.map (·.d)) fp/\(∀ b∈fp,v.ownBlock=some b\/∃ x∈L,b∈x.fp)/\(Own w base (L.flatMap (·.fp))->Own w base fp):=by
 obtain⟨fp,h1,h2,h3⟩:=Za7 h.row λ x hx=>⟨h.len x hx,h.el x hx⟩
 refine ⟨fp,h1,λ b hb=>?_,λ ho=>h3 ho λ g hg hm=>?_⟩
 ·rcases h2 b hb with h | h
  ·exact .inl h
  ·obtain⟨x,hx,hb'⟩:=List.mem_flatMap.1 h
   exact .inr ⟨x,hx,hb'⟩
 ·obtain⟨x,hx,hb'⟩:=List.mem_flatMap.1 hm
  exact h.ap x hx g hb' hg
theorem RowG.len_eq {g n cap:Nat} (h:RowG S base e (.slice (some ⟨g,0,none⟩) n cap) L w):L.length=n:=by
 rcases h.row.2 with⟨h',_⟩ | ⟨g',cap',cur,h',_⟩
 ·cases h'
 ·simp only [Value.slice.injEq] at h';exact h'.2.1.symm
theorem RowG.set {g n cap:Nat} (h:RowG S base e (.slice (some ⟨g,0,none⟩) n cap) L w) {k:Nat} (hk:k<L.length) {j:Nat} (hj:j<S.m) (u:Value) (x':Elem α) (hx:x'.cells=L[k].cells.set j u)
  (hR:S.R w x'.cells x'.d x'.fp) (hn:∀ b∈x'.fp,b<base) :
  RowG S base e (.slice (some ⟨g,0,none⟩) n cap) (L.set k x') (w.setCell ⟨g,k * S.m+j,none⟩ u):=by
 have hblk:∀ b:Nat,b≠g->(w.setCell ⟨g,k * S.m+j,none⟩ u).heap[b]?=w.heap[b]?:=λ b hb=>Below.heap_setCell _ _ _ _ hb
 have hmem:∀ x∈L.set k x',x=x'\/x∈L:=λ x hx=>by
  rcases List.mem_or_eq_of_mem_set hx with h | h
  ·exact .inr h
  ·exact .inl h
 have hne:∀ x∈L,∀ b∈x.fp,b≠g:=λ x hx b hb e=>h.ap x hx b hb (by rw [e];rfl)
 refine ⟨?_,λ x hx'=>?_,λ x hx'=>?_,λ x hx'=>?_⟩
 ·have hn:=h.len_eq
  have hrow:=h.row
  rw [hn] at hrow
  have:=(hrow.stored (k * S.m+j) u).1
  rw [Zdn h.len hk hj u x' hx] at this
  rw [List.length_set,hn]
  exact this
 ·rcases hmem x hx' with rfl | hx'
  ·rw [hx,List.length_set];exact h.len _ (List.getElem_mem hk)
  ·exact h.len x hx'
 ·rcases hmem x hx' with rfl | hx'
  ·exact S.frame (λ b hb=>hblk b (λ e=>by have h1:=hn b hb;have h2:=(h.row.lt g rfl).1;omega)) hR
  ·exact S.frame (λ b hb=>hblk b (hne x hx' b hb)) (h.el x hx')
 ·rcases hmem x hx' with rfl | hx'
  ·exact hn
  ·exact h.hi x hx'
theorem RowG.appended (h:RowG S base e v L w) {X:List (Elem α)} (hrow:w'.ownsRow base e S.m v' (L++X).length ((L++X).flatMap (·.cells))) (hg:w.grownBy w' v.ownBlock)
  (hX:∀ x∈X,x.cells.length=S.m/\S.R w x.cells x.d x.fp/\∀ b∈x.fp,b<base) :
  RowG S base e v' (L++X) w':=by
 have hall:∀ x∈L++X,x.cells.length=S.m/\S.R w x.cells x.d x.fp/\∀ b∈x.fp,b<base:=λ x hx=>by
  rcases Qa hx with hx | hx
  ·exact⟨h.len x hx,h.el x hx,h.hi x hx⟩
  ·exact hX x hx
 refine ⟨hrow,λ x hx=>(hall x hx).1,λ x hx=>?_,λ x hx=>(hall x hx).2.2⟩
 refine S.frame (λ b hb=>hg.block b (S.lt (hall x hx).2.1 b hb) λ hv=>?_) (hall x hx).2.1
 have h1:=(hall x hx).2.2 b hb
 have h2:=(h.row.lt b hv.symm).1
 omega
end
theorem Ziu {α:Type} {S:Shape α} {P:Program} {t e:TypeId} {z:Value} {bytes:Nat} (ti:TI P t e z S.m bytes) (hzs:z.cells.size=S.m) (h0:0<S.m) (w:World) {L X:List (Elem α)} {ops:Array Oper} {rest:List Oper} {o:Oper} {a:Act} {Q:Exit->Act->World->Prop}
  (hg:o.guard=none) (s y:Operand) (ho:o.op=.call { callee:=.builtin .append,args:=#[s,y],argTypes:=#[t,t] })
  (base:Nat) (v:Value) (hs:a.eval s=v) (hown:RowG S base e v L w) (g off m c:Nat) (hy:a.eval y=.slice (some ⟨g,off,none⟩) m c) (hm:X.length=m)
  (hX:∀ x∈X,x.cells.length=S.m/\S.R w x.cells x.d x.fp/\∀ b∈x.fp,b<base) (h1:∀ x∈X,∀ u∈x.cells,u.oneCell'=true) (hcell:∀ j u,(X.flatMap (·.cells))[j]?=some u->w.cell? ⟨g,off+j,none⟩=some u)
  (h63:L.length+m<=maxLen) (hbytes:(L.length+m) * bytes<=140737488355328) (hbase:base<=w.heap.size)
  (h:∀ v' w',RowG S base e v' (L++X) w'->w.grownBy w' v.ownBlock->wpList P ops Q rest (a.put o.dst v') w'):wpList P ops Q (o::rest) a w:=by
 obtain⟨i,hi,hz0,hz1,hz2⟩:=info_parts ti.2
 subst hm
 refine wpList_append_own _ hg s y t ho base e i z S.m bytes ti.1 hi hz0 hz1 hz2 hzs h0 v L.length _ hs hown.row ⟨g,off,none⟩ X.length c (X.flatMap (·.cells)) hy (ZaU (f:=Elem.cells) λ x hx=>(hX x hx).1) ?_ ?_ h63 hbytes hbase λ v' w' r1 r2 _=>h v' w' ?_ r2
 ·intro j u hj
  rw [Addr.add_lit]
  exact hcell j u hj
 ·intro u hu
  obtain⟨x,hx,hu⟩:=List.mem_flatMap.1 hu
  exact h1 x hx u hu
 ·refine hown.appended ?_ r2 hX
  rw [List.length_append,List.flatMap_append]
  exact r1
theorem Zdu (cs:List Value) (x:Tok) (fp:List Nat) (w:World) (c:UInt8) (H:sTok.R w cs x fp) :
  Calls Tryz.prog 45 #[.agg cs.toArray,.string ⟨#[c]⟩] w (Says (decide (x.kind=4) && (x.text.toList==[c])) w):=by
 obtain⟨h,rfl,hk,hok,K⟩:=H
 obtain⟨a0,cap0,rfl,-⟩:=Zaf K
 have hb:=Zab w (.cells #[.int .i64 x.kind,.string x.text,.bool x.spaced,.slice a0 x.hidden.length cap0] 32)
 clear K
 go_enter Tryz.func45,Tryz.ntmps45
 by_cases h4:x.kind=4
 ·have e0:(x.kind==4)=true:=by simp [h4]
  have HF:Hid ((decide (x.kind=4) && (x.text.toList==[c]))=(x.text.toList==[c])):=by show _=_;rw [decide_eq_true h4];rfl
  clear h4
  go_wp2
  go_ret
  exact⟨Zad (by rw [HF.out]),hb⟩
 ·have e0:(x.kind==4)=false:=by simpa using h4
  have HF:Hid ((decide (x.kind=4) && (x.text.toList==[c]))=false):=by show _=_;rw [decide_eq_false h4];rfl
  clear h4
  go_wp2
  go_ret
  exact⟨Zad (by rw [HF.out]),hb⟩
theorem Ziv {w:World} {ops:Array Oper} {rest:List Oper} {o:Oper} {a:Act} {Q:Exit->Act->World->Prop} (hg:o.guard=none) (s y:Operand)
  (ho:o.op=.call { callee:=.builtin .append,args:=#[s,y],argTypes:=#[24,24] })
  (base:Nat) (v:Value) (L:List (Elem Tok)) (hs:a.eval s=v) (hown:RowG sTok base 32 v L w) (k:Int) (x:ByteArray) (b:Bool) (ao:Option Addr) (m c:Nat) (d:Tok) (fp:List Nat)
  (hy:a.eval y=.slice (some ⟨w.heap.size,0,none⟩) 1 1) (hR:sTok.R w [.int .i64 k,.string x,.bool b,.slice ao m c] d fp) (hhi:∀ b∈fp,b<base)
  (h63:L.length<=1500000) (hbase:base<=w.heap.size)
  (h:∀ v' w',RowG sTok base 32 v' (L++[⟨[.int .i64 k,.string x,.bool b,.slice ao m c],d,fp⟩]) w'->w.grownBy w' v.ownBlock->wpList Tryz.prog ops Q rest (a.put o.dst v') w') :
  wpList Tryz.prog ops Q (o::rest) a (w.alloc (.cells #[.int .i64 k,.string x,.bool b,.slice ao m c] 32)):=by
 have hb:=Zab w (.cells #[.int .i64 k,.string x,.bool b,.slice ao m c] 32)
 refine Ziu (S:=sTok) ZaG rfl (by decide) _ (X:=[⟨[.int .i64 k,.string x,.bool b,.slice ao m c],d,fp⟩]) hg s y ho base v hs (hown.below hb) w.heap.size 0 1 1 hy rfl ?_ ?_ ?_ (by unfold maxLen;omega) (by omega) (by simp;omega) λ v' w' a b=>h v' w' a (Zb7 (World.grownBy_alloc _ _ _) b)
 ·intro x hx;obtain rfl:=Qm hx;exact⟨rfl,sTok.below hR hb,hhi⟩
 ·intro x hx;obtain rfl:=Qm hx;simp [Value.oneCell']
 ·intro j u hj
  rw [Nat.zero_add,World.cell?_alloc_at _ _ _ _ rfl]
  simpa using hj
theorem RowE.same2 {α:Type} {S:Shape α} {base:Nat} {e:TypeId} {v:Value} {L:List (Elem α)} {w w':World} (h:RowE S base e v L w) (hv:∀ g,v.ownBlock=some g->w'.heap[g]?=w.heap[g]?) (hb:∀ x∈L,∀ b∈x.fp,w'.heap[b]?=w.heap[b]?):RowE S base e v L w' where
 row:=Zbb h.row hv
 len:=h.len
 el:=λ x hx=>S.frame (λ b hb'=>hb x hx b hb') (h.el x hx)
 lo:=h.lo
 ty:=λ x hx b hb'=>by
  obtain⟨cur,t,fr,h1,h2⟩:=h.ty x hx b hb'
  exact⟨cur,t,fr,(hb x hx b hb').trans h1,h2⟩
structure SplSt (B0 B1:Nat) (va vm:Value) (A:List (Elem (List Tok))) (M:List (Elem Tok)) (w:World):Prop where
 e:RowE sToks B0 24 va A w
 b:∀ g,va.ownBlock=some g->B1<=g
 g:∃ top,RowG sTok top 32 vm M w/\B1<=top/\top<=w.heap.size/\∀ x∈A,∀ b∈x.fp,b<top
 m:∀ x∈M,∀ b∈x.fp,B0<=b/\b<B1
 t:∀ x∈M,TokTy w x.fp
theorem SplSt.below {B0 B1:Nat} {va vm:Value} {A:List (Elem (List Tok))} {M:List (Elem Tok)} {w w':World} (h:SplSt B0 B1 va vm A M w) (hb:Below w.heap.size w w'):SplSt B0 B1 va vm A M w':=by
 obtain⟨top,g1,g2,g3,g4⟩:=h.g
 exact⟨h.e.below hb,h.b,⟨top,g1.below hb,g2,Nat.le_trans g3 hb.size,g4⟩,h.m,λ x hx=>(h.t x hx).below hb⟩
theorem SplSt.next {B0 B1:Nat} {va':Value} {A':List (Elem (List Tok))} {w':World} (hE:RowE sToks B0 24 va' A' w') (hv:∀ g,va'.ownBlock=some g->B1<=g) (hB:B1<=w'.heap.size):SplSt B0 B1 va' (.slice (some ⟨w'.heap.size,0,none⟩) 0 0) A' [] (w'.alloc (.cells #[] 32)):=
 ⟨hE.below (Zab _ _),hv,⟨w'.heap.size,RowG.lit0 sTok 32 w',hB,by show _<=(w'.heap.push _).size;simp,λ x hx b hb=>sToks.lt (hE.el x hx) b hb⟩,by simp,by simp⟩
theorem ZbL (n lo hi:Int) (w:World):Calls Tryz.prog 131 #[.int .i64 n,.int .i64 lo,.int .i64 hi] w (λ e w'=>e=.returned (.bool (decide (lo<=n) && decide (n<=hi)))/\Below w.heap.size w w'):=by
 go_enter Tryz.func131,Tryz.ntmps131
 by_cases h:lo<=n
 ·have e0:decide (lo<=n)=true:=decide_eq_true h
  have HF:Hid ((decide (lo<=n) && decide (n<=hi))=decide (n<=hi)):=by show _=_;rw [e0];rfl
  go_wp2
  go_ret
  exact⟨Zad (by first | rfl | rw [HF.out]),Below.refl _ _⟩
 ·have e0:decide (lo<=n)=false:=decide_eq_false h
  have HF:Hid ((decide (lo<=n) && decide (n<=hi))=false):=by show _=_;rw [e0];rfl
  go_wp2
  go_ret
  exact⟨Zad (by first | rfl | rw [HF.out]),Below.refl _ _⟩
theorem Zbd (b:Bool) (w:World):Calls Tryz.prog 46 #[.bool b] w λ e w'=>e=.returned (.int .i64 (bit1 b))/\w'=w:=by
 go_enter Tryz.func46,Tryz.ntmps46
 cases b
 ·go_wp2
  go_ret
  exact⟨rfl,rfl⟩
 ·go_wp2
  go_ret
  exact⟨rfl,rfl⟩
theorem Zjc {s:List UInt8} {k:Nat} (hk:k<s.length):digs (s.take (k+1))=10 * digs (s.take k)+((s[k].toNat:Int)-48):=by
 unfold digs
 rw [List.take_succ_eq_append_getElem hk,List.foldl_append]
 rfl
theorem Ziw {s:List UInt8} {k:Nat} (hk:k<s.length) (h:isDig s[k]=false):Zax s=-1:=by
 unfold Zax
 rw [if_pos]
 exact .inr (.inr (List.all_eq_false.2 ⟨s[k],List.getElem_mem hk,by simp [h]⟩))
theorem Zkg {s:List UInt8} (h:7<s.length):Zax s=-1:=by unfold Zax;rw [if_pos (.inr (.inl h))]
theorem Zjd {s:List UInt8} (h1:1000000<digs s):Zax s=-1:=by
 unfold Zax
 split
 ·rfl
 ·rfl
theorem ZlK {s:List UInt8} (h:s≠[]) (h0:¬ 7<s.length) (hd:∀ k,(hk:k<s.length)->isDig s[k]=true) (h1:¬ 1000000<digs s):Zax s=digs s:=by
 unfold Zax
 rw [if_neg,if_neg h1]
 rintro (h2 | h2 | h2)
 ·exact h h2
 ·exact h0 h2
 ·obtain⟨x,hx,hx2⟩:=List.all_eq_false.1 h2
  obtain⟨k,hk,rfl⟩:=List.getElem_of_mem hx
  exact hx2 (hd k hk)
theorem ZjJ (s:ByteArray) (w:World) (hs:s.size<=maxLen) :
  Calls Tryz.prog 130 #[.string s] w λ e w'=>e=.returned (.int .i64 (Zax s.toList))/\Below w.heap.size w w':=by
 unfold maxLen at hs
 obtain⟨L,HL⟩:∃ L:List UInt8,Hid (L=s.toList):=⟨_,Qh rfl⟩
 rw [show s.toList=L from HL.out.symm]
 have hll:Hid (L.length=s.size):=by show _=_;rw [HL.out,ByteArray.toList_eq];simp
 have hget:Hid (∀ k (hk:k<s.size) (hk2:k<L.length),L[k]=s[k]):=λ k hk hk2=>by
  have:=HL.out
  subst this
  simp only [ByteArray.toList_eq]
  rfl
 go_enter Tryz.func130,Tryz.ntmps130
 go_wp2
 go_loopw [3,4] (λ vn i wr=>∃ (k:Nat) (n:Int),k<=s.size/\k<=7/\i=.int .i64 k/\vn=.int .i64 n/\Hid (n=digs (L.take k))/\0<=n/\n<10 ^ k/\Hid (∀ j,(hj:j<L.length)->j<k->isDig L[j]=true)/\Below w.heap.size w wr) (λ _ i _=>s.size-(intOf i).toNat)
 case atStart=>exact⟨0,0,by omega,by omega,rfl,rfl,rfl,Int.le_refl _,by decide,(λ j _ h=>by omega),Below.refl _ _⟩
 case round =>
  obtain⟨k,n,hk,hk7,rfl,rfl,HN,hn0,hn1,HD,hb⟩:=hrel
  by_cases hlt:k<s.size
  ·have hlt2:k<L.length:=by have:=hll.out;omega
   have i0:(0:Int)<=(k:Int):=by omega
   have i1:(k:Int)<(s.size:Int):=by omega
   have HDG:=Qh (Za8 s[k] wr)
   have HG:=Qh (hget.out k hlt hlt2)
   cases hd:isDig s[k]
   ·have HF:Hid (Zax L=-1):=Ziw hlt2 (by rw [HG.out];exact hd)
    rw [hd] at HDG
    clear hd
    go_wp2_with fail
    refine HDG.out.mono ?_
    rintro e w2 ⟨rfl,rfl⟩
    go_wp2
    go_ret
    exact⟨by rw [HF.out];rfl,hb⟩
   ·have HDK:=Qh hd
    rw [hd] at HDG
    unfold isDig at hd
    rw [decide_eq_true_eq] at hd
    go_wp2_with fail
    refine HDG.out.mono ?_
    rintro e w2 ⟨rfl,rfl⟩
    by_cases h6:k=7
    ·have HF:Hid (Zax L=-1):=Zkg (by have:=hll.out;omega)
     have e1:(6:Int)<(k:Int):=by omega
     clear h6
     go_wp2
     go_ret
     exact⟨by rw [HF.out];rfl,hb⟩
    ·have e1:¬ (6:Int)<(k:Int):=by omega
     have hk6:k<=6:=by omega
     have hpow:(10:Int) ^ k<=1000000:=by
      have:∀ j,j<=6->(10:Int) ^ j<=1000000:=by decide
      exact this k hk6
     have hps:(10:Int) ^ (k+1)=10 ^ k * 10:=Int.pow_succ 10 k
     have HN2:Hid (10 * n+((s[k].toNat:Int)-48)=digs (L.take (k+1))):=by show _=_;rw [Zjc hlt2,← HN.out,HG.out]
     have HD2:Hid (∀ j,(hj:j<L.length)->j<k+1->isDig L[j]=true):=λ j hj h=>by
      by_cases e:j=k
      ·subst e;rw [HG.out];exact HDK.out
      ·exact HD.out j hj (by omega)
     have w1:IntKind.i64.wrap (10 * n)=10 * n:=IntWalk.i64_in _ (by omega)
     have w2:IntKind.u8.wrap ((s[k].toNat:Int)-48)=(s[k].toNat:Int)-48:=IntWalk.u8_in _ (by omega)
     have w3:IntKind.i64.wrap ((s[k].toNat:Int)-48)=(s[k].toNat:Int)-48:=IntWalk.i64_in _ (by omega)
     have w4:IntKind.i64.wrap (10 * n+((s[k].toNat:Int)-48))=10 * n+((s[k].toNat:Int)-48):=IntWalk.i64_in _ (by omega)
     go_wp2
     go_roundw
     case rel=>exact⟨k+1,10 * n+((s[k].toNat:Int)-48),by omega,by omega,by go_num,rfl,HN2,by omega,by omega,HD2,hb⟩
     case measure=>simp [intOf];omega
  ·have hke:k=s.size:=by omega
   have hle:L.length=k:=by rw [hll.out,hke]
   have hn9:Hid (n=digs L):=by show _=_;rw [HN.out,List.take_of_length_le (by omega)]
   have HDA:Hid (∀ j,(hj:j<L.length)->isDig L[j]=true):=λ j hj=>HD.out j hj (by omega)
   by_cases h0:s.size=0
   ·have e0:(s.toList==([]:List UInt8))=true:=by
     have:s.toList=[]:=by rw [← HL.out];exact List.length_eq_zero_iff.1 (by omega)
     rw [this];rfl
    have HF:Hid (Zax L=-1):=by show _=_;rw [List.length_eq_zero_iff.1 (by omega:L.length=0)];rfl
    clear hke hle
    go_wp2
    go_ret
    exact⟨by rw [HF.out];rfl,hb⟩
   ·have e0:(s.toList==([]:List UInt8))=false:=by
     cases e:(s.toList==([]:List UInt8))
     ·rfl
     ·have:s.toList=[]:=by simpa using e
      have h9:=HL.out
      rw [this] at h9
      rw [h9] at hle
      simp at hle;omega
    have HNE:Hid (L≠[]):=λ e=>by rw [e] at hle;simp at hle;omega
    by_cases hgr:1000000<n
    ·have HF:Hid (Zax L=-1):=Zjd (by rw [← hn9.out];exact hgr)
     clear hke hle
     go_wp2
     go_ret
     exact⟨by rw [HF.out];rfl,hb⟩
    ·have HF:Hid (Zax L=n):=by show _=_;rw [ZlK HNE.out (by omega) HDA.out (by rw [← hn9.out];exact hgr),← hn9.out]
     clear hke hle
     go_wp2
     go_ret
     exact⟨by rw [HF.out];rfl,hb⟩
def cmpI (a b:ByteArray):Int:=Lib.compareBytes a.data.toList b.data.toList
theorem Zm8 (a b:ByteArray):decide (cmpI a b<0)=sLess a b:=by
 unfold cmpI sLess
 rw [Zj4,ByteArray.toList_eq,ByteArray.toList_eq]
theorem Zm9 (a b:ByteArray):decide (cmpI a b=0)=(a.toList==b.toList):=by
 unfold cmpI
 rw [Zj5,ByteArray.toList_eq,ByteArray.toList_eq]
theorem ZlL (cs:List Value) (x:DMacro) (nm:ByteArray) (fp:List Nat) (w:World) (H:sMacro.R w cs x fp) :
  Calls Tryz.prog 85 #[.agg cs.toArray,.string nm] w λ e w'=>e=.returned (.int .i64 (cmpI x.name nm))/\Below w.heap.size w w':=by
 obtain⟨h2,h3,p2,p3,rfl,-,K2,K3,rfl⟩:=H
 obtain⟨a2,ca2,rfl,-⟩:=Zaf K2
 obtain⟨a3,ca3,rfl,-⟩:=Zac K3
 clear K2 K3
 have hb:=Zab w (.cells #[.string x.name,.bool x.function,.slice a2 x.params.length ca2,.slice a3 x.body.length ca3] 56)
 go_enter Tryz.func85,Tryz.ntmps85
 go_wp2_with (go_at_call 86;refine (Tryz.strings_Compare _ _ _).mono ?_;rintro e w2 ⟨rfl,rfl⟩)
 go_ret
 exact⟨rfl,hb⟩
theorem Zmo (v:Value) (l:List DMacro) (nm:ByteArray) (fp:List Nat) (w:World) (ht:tabOk l=true) (H:(Zaa sMacro).R w [v] l fp) :
  Calls Tryz.prog 84 #[v,.string nm,.func (.func 85) #[] #[]] w λ e w'=>e=.returned (.tuple #[.int .i64 (lowAt l nm:Nat),.bool (isIn l nm)])/\Below w.heap.size w w':=by
 obtain⟨a,cap,rfl,hc,hm,hrow⟩:=Zac H
 unfold maxLen at hm
 clear H
 have hn10:l.length<=10:=(Ze9 ht).1
 have HLE:=Qh (low_le l nm)
 have HIFF:Hid (∀ j,(hj:j<l.length)->decide (cmpI l[j].name nm<0)=decide (j<lowAt l nm)):=λ j hj=>by rw [Zm8,Zir ht nm hj]
 have HIN:Hid (∀ h:lowAt l nm<l.length,isIn l nm=decide (cmpI l[lowAt l nm].name nm=0)):=λ h=>by unfold isIn;rw [dif_pos h,Zm9]
 have HOUT:Hid (¬ lowAt l nm<l.length->isIn l nm=false):=λ h=>by unfold isIn;rw [dif_neg h]
 clear ht
 go_enter Tryz.func84,Tryz.ntmps84
 go_wp2
 go_loopw [9,10] (λ s9 s10 wr=>∃ lo hi:Nat,s9=.int .i64 lo/\s10=.int .i64 hi/\lo<=hi/\hi<=l.length/\Hid (lo<=lowAt l nm/\lowAt l nm<=hi)/\Below w.heap.size w wr) (λ s9 s10 _=>(intOf s10).toNat-(intOf s9).toNat)
 case atStart=>exact⟨0,l.length,rfl,rfl,by omega,by omega,⟨by omega,HLE.out⟩,Below.refl _ _⟩
 case round =>
  obtain⟨lo,hi,rfl,rfl,hlh,hin,HW,hb⟩:=hrel
  by_cases hlt:lo<hi
  ·obtain⟨b1,off1,fps1,rfl,hb1,-,he1⟩:=hrow (by omega)
   obtain⟨es,hE,hR⟩:=he1 ((lo+hi) / 2) (by omega)
   have HC:=Qh (ZlL _ _ nm _ _ (sMacro.below hR hb))
   obtain⟨h2,h3,p2,p3,rfl,-,-,-,-⟩:=hR
   replace hE:=hE.frame (hb.block b1 hb1)
   have c10:wr.cell? ⟨b1,off1+(lo+hi) / 2 * 4,none⟩=some _:=Zam hE (by decide) rfl
   have c11:wr.cell? ⟨b1,off1+(lo+hi) / 2 * 4+1,none⟩=some _:=Zae (j:=1) hE (by decide) rfl
   have c12:wr.cell? ⟨b1,off1+(lo+hi) / 2 * 4+2,none⟩=some _:=Zae (j:=2) hE (by decide) rfl
   have c13:wr.cell? ⟨b1,off1+(lo+hi) / 2 * 4+3,none⟩=some _:=Zae (j:=3) hE (by decide) rfl
   clear hE he1 hrow
   by_cases hyx:cmpI (l[(lo+hi) / 2]'(by omega)).name nm<0
   ·have HL:Hid ((lo+hi) / 2+1<=lowAt l nm/\lowAt l nm<=hi):=by
     have h1:=HIFF.out ((lo+hi) / 2) (by omega)
     rw [decide_eq_true hyx] at h1
     have h2:=of_decide_eq_true h1.symm
     exact⟨h2,HW.out.2⟩
    go_wp2_with fail
    refine HC.out.mono ?_
    rintro e w2 ⟨rfl,hb2⟩
    have hb':=hb.trans (hb2.mono hb.size)
    generalize cmpI (l[(lo+hi) / 2]'(by omega)).name nm=c at *
    go_wp2
    go_roundw
    case rel=>exact⟨(lo+hi) / 2+1,hi,by first | rfl | rw [show ((lo:Int)+(hi:Int)) / 2+1=(((lo+hi) / 2+1:Nat):Int) by omega],rfl,by omega,hin,HL,hb'⟩
    case measure=>simp [intOf];omega
   ·have HL:Hid (lo<=lowAt l nm/\lowAt l nm<=(lo+hi) / 2):=by
     have h1:=HIFF.out ((lo+hi) / 2) (by omega)
     rw [decide_eq_false hyx] at h1
     have h2:=of_decide_eq_false h1.symm
     exact⟨HW.out.1,by omega⟩
    go_wp2_with fail
    refine HC.out.mono ?_
    rintro e w2 ⟨rfl,hb2⟩
    have hb':=hb.trans (hb2.mono hb.size)
    generalize cmpI (l[(lo+hi) / 2]'(by omega)).name nm=c at *
    go_wp2
    go_roundw
    case rel=>exact⟨lo,(lo+hi) / 2,rfl,by first | rfl | rw [show ((lo:Int)+(hi:Int)) / 2=(((lo+hi) / 2:Nat):Int) by omega],by omega,by omega,HL,hb'⟩
    case measure=>simp [intOf];omega
  ·obtain rfl:hi=lo:=by omega
   have hlow:lowAt l nm=hi:=by have:=HW.out;omega
   by_cases hn:hi<l.length
   ·have HD:Hid (isIn l nm=decide (cmpI l[hi].name nm=0)):=by
     subst hlow
     exact HIN.out hn
    have HA:=Qh hlow
    clear hlow HIN HOUT HIFF HW HLE
    obtain⟨b1,off1,fps1,rfl,hb1,-,he1⟩:=hrow (by omega)
    obtain⟨es,hE,hR⟩:=he1 (hi) (by omega)
    have HC:=Qh (ZlL _ _ nm _ _ (sMacro.below hR hb))
    obtain⟨h2,h3,p2,p3,rfl,-,-,-,-⟩:=hR
    replace hE:=hE.frame (hb.block b1 hb1)
    have c10:wr.cell? ⟨b1,off1+hi * 4,none⟩=some _:=Zam hE (by decide) rfl
    have c11:wr.cell? ⟨b1,off1+hi * 4+1,none⟩=some _:=Zae (j:=1) hE (by decide) rfl
    have c12:wr.cell? ⟨b1,off1+hi * 4+2,none⟩=some _:=Zae (j:=2) hE (by decide) rfl
    have c13:wr.cell? ⟨b1,off1+hi * 4+3,none⟩=some _:=Zae (j:=3) hE (by decide) rfl
    clear hE he1 hrow
    by_cases hyx:cmpI l[hi].name nm=0
    ·have HF:=Qh (HD.out.trans (decide_eq_true hyx))
     rw [hyx] at HC
     clear hyx HD
     go_wp2_with fail
     refine HC.out.mono ?_
     rintro e w2 ⟨rfl,hb2⟩
     go_wp2
     go_ret2
     exact⟨by rw [HA.out,HF.out];rfl,hb.trans (hb2.mono hb.size)⟩
    ·have HF:=Qh (HD.out.trans (decide_eq_false hyx))
     generalize cmpI l[hi].name nm=c at *
     have hc0:(c==0)=false:=by simpa using hyx
     clear HD
     go_wp2_with fail
     refine HC.out.mono ?_
     rintro e w2 ⟨rfl,hb2⟩
     go_wp2
     go_ret2
     exact⟨by rw [HA.out,HF.out];rfl,hb.trans (hb2.mono hb.size)⟩
   ·have HF:=Qh (HOUT.out (by omega))
    have HA:=Qh hlow
    clear hlow HIN HOUT HIFF HW HLE
    go_wp2
    go_ret2
    exact⟨by rw [HA.out,HF.out];rfl,hb⟩
theorem Zf1 (v:Value) (l:List DMacro) (nm:ByteArray) (fp:List Nat) (w:World) (ht:tabOk l=true) (H:(Zaa sMacro).R w [v] l fp) :
  Calls Tryz.prog 60 #[v,.string nm] w λ e w'=>e=.returned (.tuple #[.int .i64 (lowAt l nm:Nat),.bool (isIn l nm)])/\Below w.heap.size w w':=by
 have HC:=Qh (Zmo v l nm fp w ht H)
 clear H ht
 go_enter Tryz.func60,Tryz.ntmps60
 go_wp2_with fail
 refine HC.out.mono ?_
 rintro e w2 ⟨rfl,hb⟩
 go_wp2
 go_ret2
 exact⟨rfl,hb⟩
theorem Zd4 (v:Value) (l:List DMacro) (nm:ByteArray) (fp:List Nat) (w:World) (H:(Zaa sMacro).R w [v] l fp) :
  Calls Tryz.prog 47 #[v,.string nm] w λ e w'=>e=.returned (.int .i64 (place l nm))/\Below w.heap.size w w':=by
 obtain⟨a,cap,rfl,hc,hm,hrow⟩:=Zac H
 unfold maxLen at hm
 clear H
 go_enter Tryz.func47,Tryz.ntmps47
 go_wp2
 go_loopw [5] (λ i wr=>∃ k:Nat,k<=l.length/\i=.int .i64 k/\Hid (place l nm=plFrom l nm k)/\Below w.heap.size w wr) (λ i _=>l.length-(intOf i).toNat)
 case atStart=>exact⟨0,by omega,rfl,rfl,Below.refl _ _⟩
 case round =>
  obtain⟨k,hk,rfl,HP,hb⟩:=hrel
  by_cases hlt:k<l.length
  ·obtain⟨b1,off1,fps1,rfl,hb1,-,he1⟩:=hrow (by omega)
   obtain⟨es,hE,hR⟩:=he1 k hlt
   obtain⟨h2,h3,p2,p3,rfl,-,-,-,-⟩:=hR
   replace hE:=hE.frame (hb.block b1 hb1)
   have c10:wr.cell? ⟨b1,off1+k * 4,none⟩=some _:=Zam hE (by decide) rfl
   clear hE he1 hrow
   cases g:(l[k].name.toList==nm.toList)
   ·have HF:=Qh (HP.out.trans (Zgr hlt g))
    clear HP
    go_wp2
    go_roundw
    case rel=>exact⟨k+1,by omega,by go_num,HF,hb⟩
    case measure=>simp [intOf];omega
   ·have HF:=Qh (HP.out.trans (Zj8 hlt g))
    clear HP
    go_wp2
    go_ret
    exact⟨by rw [HF.out];rfl,hb⟩
  ·have HF:=Qh (HP.out.trans (ZhQ (by omega)))
   clear HP
   go_wp2
   go_ret
   exact⟨by rw [HF.out];rfl,hb⟩
def OwnMac (x:DMacro) (w:World) (e:Ending) (w':World):Prop:=
 ∃ (a2 a3:Option Addr) (c2 c3:Nat) (fp:List Nat),e=.returned (.agg #[.string x.name,.bool x.function,.slice a2 x.params.length c2,.slice a3 x.body.length c3])/\sMacro.R w' [.string x.name,.bool x.function,.slice a2 x.params.length c2,.slice a3 x.body.length c3] x fp /\
  (∀ b∈fp,w.heap.size<=b)/\NoMac w' fp/\Below w.heap.size w w'
def setM (w:World) (g:Nat) (v0 v1 v2 v3:Value):World:=(((w.setCell ⟨g,0,none⟩ v0).setCell ⟨g,1,none⟩ v1).setCell ⟨g,2,none⟩ v2).setCell ⟨g,3,none⟩ v3
theorem setM_at {w:World} {g:Nat} {z0 z1 z2 z3:Value} {ty:TypeId} (h:w.heap[g]?=some (.cells #[z0,z1,z2,z3] ty (0,0))) (v0 v1 v2 v3:Value) :
  (setM w g v0 v1 v2 v3).heap[g]?=some (.cells #[v0,v1,v2,v3] ty (0,0)):=Zai (Zai (Zai (Zai h 0 _) 1 _) 2 _) 3 _
theorem Zfc {w:World} {g b:Nat} (h:b≠g) (v0 v1 v2 v3:Value):(setM w g v0 v1 v2 v3).heap[b]?=w.heap[b]?:=by
 unfold setM
 rw [Below.heap_setCell _ _ _ _ h,Below.heap_setCell _ _ _ _ h,Below.heap_setCell _ _ _ _ h,Below.heap_setCell _ _ _ _ h]
theorem Zmp {B:Nat} {w0 w:World} (hB:Below B w0 w) {g:Nat} (hg:B<=g) (v0 v1 v2 v3:Value):Below B w0 (setM w g v0 v1 v2 v3):=
 ((((hB).setCell (p:=⟨g,0,none⟩) hg v0).setCell (p:=⟨g,1,none⟩) hg v1).setCell (p:=⟨g,2,none⟩) hg v2).setCell (p:=⟨g,3,none⟩) hg v3
theorem NoMac.app {w:World} {a b:List Nat} (h1:NoMac w a) (h2:NoMac w b):NoMac w (a++b):=λ c hc=>by
 rcases Qa hc with h | h
 ·exact h1 c h
 ·exact h2 c h
theorem Zeo (cs:List Value) (x:DMacro) (fp:List Nat) (w:World) (hp:x.params.length<=2000000) (hl:x.body.length<=1048576) (hx:∀ k,(hk:k<x.body.length)->x.body[k].hidden.length<=2000000) (H:sMacro.R w cs x fp) :
  Calls Tryz.prog 65 #[.agg cs.toArray] w (OwnMac x w):=by
 obtain⟨h2,h3,p2,p3,rfl,hok,K2,K3,rfl⟩:=H
 obtain⟨a2,c2,rfl,-,-,-,hsz⟩:=Zaf K2
 obtain⟨a3,c3,rfl,-⟩:=Zac K3
 have hb3:=ZeL w #[.string x.name,.bool x.function,.slice a2 x.params.length c2,.slice a3 x.body.length c3] #[.string ⟨#[]⟩,.bool false,.slice none 0 0,.slice none 0 0] #[.string x.name,.bool x.function,.slice a2 x.params.length c2,.slice a3 x.body.length c3] 56 56 56
 have g0:=Zcy w #[.string x.name,.bool x.function,.slice a2 x.params.length c2,.slice a3 x.body.length c3] #[.string ⟨#[]⟩,.bool false,.slice none 0 0,.slice none 0 0] #[.string x.name,.bool x.function,.slice a2 x.params.length c2,.slice a3 x.body.length c3] 56 56 56
 obtain⟨g1,g2,hs3⟩:=Zcp w #[.string x.name,.bool x.function,.slice a2 x.params.length c2,.slice a3 x.body.length c3] #[.string ⟨#[]⟩,.bool false,.slice none 0 0,.slice none 0 0] #[.string x.name,.bool x.function,.slice a2 x.params.length c2,.slice a3 x.body.length c3] 56 56 56
 have HK2:=Qh ((Zaa sStr).below K2 hb3)
 have HK3:=Qh ((Zaa sTok).below K3 hb3)
 have HSZ:=Qh hsz
 have HX:=Qh hx
 have HPL:Hid (∀ b∈p3,b<w.heap.size):=λ b hb=>(Zaa sTok).lt K3 b hb
 clear K2 K3 hsz hx
 obtain⟨hv,HV⟩:∃ hv:Value,Hid (hv=Value.slice a2 x.params.length c2):=⟨_,rfl⟩
 go_enter Tryz.func65,Tryz.ntmps65
 go_upto_region 2 with fail
 generalize (((w.alloc (.cells #[.string x.name,.bool x.function,.slice a2 x.params.length c2,.slice a3 x.body.length c3] 56)).alloc (.cells #[.string ⟨#[]⟩,.bool false,.slice none 0 0,.slice none 0 0] 56)).alloc (.cells #[.string x.name,.bool x.function,.slice a2 x.params.length c2,.slice a3 x.body.length c3] 56))=W3 at *
 have hba:=Zab W3 (.cells #[] 9)
 have c02:(W3.alloc (.cells #[] 9)).cell? ⟨w.heap.size,2,none⟩=some hv:=by
  rw [HV.out]
  exact(hba.cell (p:=⟨w.heap.size,2,none⟩) (by show w.heap.size<_;omega)).trans (Qc 2 g0)
 have hlit:Hid ((W3.alloc (.cells #[] 9)).ownsRow W3.heap.size 9 1 (.slice (some ⟨W3.heap.size,0,none⟩) 0 0) ([]:List ByteArray).length (([]:List ByteArray).map Value.string)):=
  World.ownsRow_lit (base:=W3.heap.size) (e:=9) (size:=1) W3 #[] 0 (Nat.le_refl _) (by simp) rfl
 have HKV:Hid ((Zaa sStr).R (W3.alloc (.cells #[] 9)) [hv] x.params p2):=by show (Zaa sStr).R _ _ _ _;rw [HV.out];exact(Zaa sStr).below HK2.out hba
 have HG:=Qh (And.intro g0 (And.intro g1 (And.intro g2 hs3)))
 have hb4:=Qh (hb3.trans (hba.mono hb3.size))
 clear g0 g1 g2 hb3 hs3 hba
 go_wp2_with (
  at_builtin
  refine Zbs rfl (.tmp 5) (.tmp 7) rfl W3.heap.size (.slice (some ⟨W3.heap.size,0,none⟩) 0 0) hv [] x.params _ rfl hlit.out rfl HKV.out (by simp;omega) (by simp) ?_
  intro v5 w1 hown hgrow
  rw [List.nil_append] at hown
  obtain⟨fp1,R1,O1,hfp⟩:=Zb0 (ok:=okStr) hown HSZ.out
  have hs3:=HG.out.2.2.2
  have hblk:∀ k,k<W3.heap.size->w1.heap[k]?=W3.heap[k]?:=λ k hk=>(hgrow.block k (by simp;omega) (by simp [Value.ownBlock];omega)).trans ((Zab W3 _).block k hk)
  have HG1:Hid (w1.heap[w.heap.size]?=some (.cells #[.string x.name,.bool x.function,.slice a2 x.params.length c2,.slice a3 x.body.length c3] 56 (0,0))/\w1.heap[w.heap.size+1]?=some (.cells #[.string ⟨#[]⟩,.bool false,.slice none 0 0,.slice none 0 0] 56 (0,0))/\w1.heap[w.heap.size+1+1]?=some (.cells #[.string x.name,.bool x.function,.slice a2 x.params.length c2,.slice a3 x.body.length c3] 56 (0,0))):=
   ⟨(hblk _ (by omega)).trans HG.out.1,(hblk _ (by omega)).trans HG.out.2.1,(hblk _ (by omega)).trans HG.out.2.2.1⟩
  have hb:Below w.heap.size w w1:=hb4.out.grown hgrow (by simp;omega) (λ b hb=>by simp [Value.ownBlock] at hb;omega)
  have hbW:Below W3.heap.size W3 w1:=((Below.refl W3.heap.size W3).alloc (Nat.le_refl _) (.cells #[] 9)).grown hgrow (by simp) (λ b hb=>by simp [Value.ownBlock] at hb;omega)
  have hty:NoMac w1 fp1:=λ b hb'=>by
   have hv:=hfp b hb'
   rcases hown.2 with⟨rfl,_⟩ | ⟨g,cap,cur,rfl,_,hg,_⟩
   ·simp [Value.ownBlock] at hv
   ·simp only [Value.ownBlock,Qi] at hv
    subst hv
    exact⟨_,_,_,hg,by decide⟩
  have hlo:∀ b∈fp1,w.heap.size+3<=b:=λ b hb=>by have:=(O1.2 b hb).1;omega
  have hK3':=(Zaa sTok).below HK3.out hbW
  have hW1:w.heap.size+3<=w1.heap.size:=by have:=hbW.size;omega
  clear HG hblk hgrow hown hfp O1 c02 hb4 HKV hlit hs3 hbW
  obtain⟨a1,cap1,rfl,hq⟩:=Zac R1
  clear hq
  have c22:=Qc 2 HG1.out.2.2
  have f22:=Qf 2 HG1.out.2.2
  have e03:=Qc 3 HG1.out.1
  have far:∀ b,b≠w.heap.size+1+1->(w1.setCell ⟨w.heap.size+1+1,2,none⟩ (.slice a1 x.params.length cap1)).heap[b]?=w1.heap[b]?:=λ b hb=>Below.heap_setCell _ _ _ _ hb
  have e03':(w1.setCell ⟨w.heap.size+1+1,2,none⟩ (.slice a1 x.params.length cap1)).cell? ⟨w.heap.size,3,none⟩=some (.slice a3 x.body.length c3):=Qc 3 ((far _ (by omega)).trans HG1.out.1)
  have HG2:Hid ((w1.setCell ⟨w.heap.size+1+1,2,none⟩ (.slice a1 x.params.length cap1)).heap[w.heap.size+1]?=some (.cells #[.string ⟨#[]⟩,.bool false,.slice none 0 0,.slice none 0 0] 56 (0,0))/\(w1.setCell ⟨w.heap.size+1+1,2,none⟩ (.slice a1 x.params.length cap1)).heap[w.heap.size+1+1]?=some (.cells #[.string x.name,.bool x.function,.slice a1 x.params.length cap1,.slice a3 x.body.length c3] 56 (0,0))):=
   ⟨(far _ (by omega)).trans HG1.out.2.1,Zai HG1.out.2.2 2 _⟩
  have HR2:Hid ((Zaa sStr).R (w1.setCell ⟨w.heap.size+1+1,2,none⟩ (.slice a1 x.params.length cap1)) [.slice a1 x.params.length cap1] x.params fp1):=(Zaa sStr).frame (λ b hb=>far b (by have:=hlo b hb;omega)) R1
  have HNM2:Hid (NoMac (w1.setCell ⟨w.heap.size+1+1,2,none⟩ (.slice a1 x.params.length cap1)) fp1):=hty.same λ b hb _=>far b (by have:=hlo b hb;omega)
  have HP3:Hid (∀ b∈p3,b≠w.heap.size+1+1):=λ b hb=>by have:=HPL.out b hb;omega
  have HK4:Hid ((Zaa sTok).R (w1.setCell ⟨w.heap.size+1+1,2,none⟩ (.slice a1 x.params.length cap1)) [.slice a3 x.body.length c3] x.body p3):=(Zaa sTok).frame (λ b hb=>far b (HP3.out b hb)) hK3'
  have HB2:=Qh (hb.setCell (p:=⟨w.heap.size+1+1,2,none⟩) (by show w.heap.size<=w.heap.size+1+1;omega) (.slice a1 x.params.length cap1))
  have HLO1:=Qh hlo
  have HS2:Hid ((w1.setCell ⟨w.heap.size+1+1,2,none⟩ (.slice a1 x.params.length cap1)).heap.size=w1.heap.size):=by show _=_;simp
  clear HG1 hty hlo hb R1 far hK3' HK3)
 have hs2:=HS2.out
 generalize (w1.setCell ⟨w.heap.size+1+1,2,none⟩ (.slice a1 x.params.length cap1))=w2 at *
 clear c22 f22 e03
 refine (ZeR _ x.body p3 w2 hl HX.out HK4.out).mono ?_
 rintro e w3 ⟨v3,fp3,rfl,R3,hlo3,hn3,hb3⟩
 obtain⟨a4,c4,rfl,-⟩:=Zac R3
 have hs3:=hb3.size
 have HG3:Hid (w3.heap[w.heap.size+1]?=some (.cells #[.string ⟨#[]⟩,.bool false,.slice none 0 0,.slice none 0 0] 56 (0,0))/\w3.heap[w.heap.size+1+1]?=some (.cells #[.string x.name,.bool x.function,.slice a1 x.params.length cap1,.slice a3 x.body.length c3] 56 (0,0))):=
  ⟨(hb3.block _ (by omega)).trans HG2.out.1,(hb3.block _ (by omega)).trans HG2.out.2⟩
 have far:∀ b,b≠w.heap.size+1+1->(w3.setCell ⟨w.heap.size+1+1,3,none⟩ (.slice a4 x.body.length c4)).heap[b]?=w3.heap[b]?:=λ b hb=>Below.heap_setCell _ _ _ _ hb
 have HG4:Hid ((w3.setCell ⟨w.heap.size+1+1,3,none⟩ (.slice a4 x.body.length c4)).heap[w.heap.size+1]?=some (.cells #[.string ⟨#[]⟩,.bool false,.slice none 0 0,.slice none 0 0] 56 (0,0))/\(w3.setCell ⟨w.heap.size+1+1,3,none⟩ (.slice a4 x.body.length c4)).heap[w.heap.size+1+1]?=some (.cells #[.string x.name,.bool x.function,.slice a1 x.params.length cap1,.slice a4 x.body.length c4] 56 (0,0))):=
  ⟨(far _ (by omega)).trans HG3.out.1,Zai HG3.out.2 3 _⟩
 have HRF:Hid (sMacro.R (setM (w3.setCell ⟨w.heap.size+1+1,3,none⟩ (.slice a4 x.body.length c4)) (w.heap.size+1) (.string x.name) (.bool x.function) (.slice a1 x.params.length cap1) (.slice a4 x.body.length c4)) [.string x.name,.bool x.function,.slice a1 x.params.length cap1,.slice a4 x.body.length c4] x (fp1++fp3)):=
  ⟨_,_,fp1,fp3,rfl,hok,(Zaa sStr).frame (λ b hb=>(Zfc (by have:=HLO1.out b hb;omega) _ _ _ _).trans (far b (by have:=HLO1.out b hb;omega))) ((Zaa sStr).below HR2.out hb3),(Zaa sTok).frame (λ b hb=>(Zfc (by have:=hlo3 b hb;omega) _ _ _ _).trans (far b (by have:=hlo3 b hb;omega))) R3,rfl⟩
 have HNF:Hid (NoMac (setM (w3.setCell ⟨w.heap.size+1+1,3,none⟩ (.slice a4 x.body.length c4)) (w.heap.size+1) (.string x.name) (.bool x.function) (.slice a1 x.params.length cap1) (.slice a4 x.body.length c4)) (fp1++fp3)):=
  NoMac.app ((HNM2.out.below hb3).same λ b hb _=>(Zfc (by have:=HLO1.out b hb;omega) _ _ _ _).trans (far b (by have:=HLO1.out b hb;omega))) (hn3.same λ b hb _=>(Zfc (by have:=hlo3 b hb;omega) _ _ _ _).trans (far b (by have:=hlo3 b hb;omega)))
 have HLF:Hid (∀ b∈fp1++fp3,w.heap.size<=b):=λ b hb=>by
  rcases Qa hb with h | h
  ·have:=HLO1.out b h;omega
  ·have:=hlo3 b h;omega
 have HBF:=Qh (Zmp (g:=w.heap.size+1) ((HB2.out.trans (hb3.mono HB2.out.size)).setCell (p:=⟨w.heap.size+1+1,3,none⟩) (by show w.heap.size<=w.heap.size+1+1;omega) (.slice a4 x.body.length c4)) (by omega) (.string x.name) (.bool x.function) (.slice a1 x.params.length cap1) (.slice a4 x.body.length c4))
 have HSF:=Qh (setM_at HG4.out.1 (.string x.name) (.bool x.function) (.slice a1 x.params.length cap1) (.slice a4 x.body.length c4))
 have d3:=Qc 3 HG3.out.2
 have df3:=Qf 3 HG3.out.2
 clear far HG2 HG3 HR2 HNM2 HK4 HB2 HLO1 hb3 hn3 hlo3 R3 HP3
 have y0:(w3.setCell ⟨w.heap.size+1+1,3,none⟩ (.slice a4 x.body.length c4)).cell? ⟨w.heap.size+1+1,0,none⟩=some (.string x.name):=Qc 0 HG4.out.2
 have z0:(w3.setCell ⟨w.heap.size+1+1,3,none⟩ (.slice a4 x.body.length c4)).cell? ⟨w.heap.size+1,0,none⟩=some (.string ⟨#[]⟩):=Qc 0 HG4.out.1
 have zf0:(w3.setCell ⟨w.heap.size+1+1,3,none⟩ (.slice a4 x.body.length c4)).frozen? ⟨w.heap.size+1,0,none⟩=false:=frozen_of_row _ _ 0 _ _ HG4.out.1
 have y1:(w3.setCell ⟨w.heap.size+1+1,3,none⟩ (.slice a4 x.body.length c4)).cell? ⟨w.heap.size+1+1,1,none⟩=some (.bool x.function):=Qc 1 HG4.out.2
 have z1:(w3.setCell ⟨w.heap.size+1+1,3,none⟩ (.slice a4 x.body.length c4)).cell? ⟨w.heap.size+1,1,none⟩=some (.bool false):=Qc 1 HG4.out.1
 have zf1:(w3.setCell ⟨w.heap.size+1+1,3,none⟩ (.slice a4 x.body.length c4)).frozen? ⟨w.heap.size+1,1,none⟩=false:=frozen_of_row _ _ 1 _ _ HG4.out.1
 have y2:(w3.setCell ⟨w.heap.size+1+1,3,none⟩ (.slice a4 x.body.length c4)).cell? ⟨w.heap.size+1+1,2,none⟩=some (.slice a1 x.params.length cap1):=Qc 2 HG4.out.2
 have z2:(w3.setCell ⟨w.heap.size+1+1,3,none⟩ (.slice a4 x.body.length c4)).cell? ⟨w.heap.size+1,2,none⟩=some (.slice none 0 0):=Qc 2 HG4.out.1
 have zf2:(w3.setCell ⟨w.heap.size+1+1,3,none⟩ (.slice a4 x.body.length c4)).frozen? ⟨w.heap.size+1,2,none⟩=false:=frozen_of_row _ _ 2 _ _ HG4.out.1
 have y3:(w3.setCell ⟨w.heap.size+1+1,3,none⟩ (.slice a4 x.body.length c4)).cell? ⟨w.heap.size+1+1,3,none⟩=some (.slice a4 x.body.length c4):=Qc 3 HG4.out.2
 have z3:(w3.setCell ⟨w.heap.size+1+1,3,none⟩ (.slice a4 x.body.length c4)).cell? ⟨w.heap.size+1,3,none⟩=some (.slice none 0 0):=Qc 3 HG4.out.1
 have zf3:(w3.setCell ⟨w.heap.size+1+1,3,none⟩ (.slice a4 x.body.length c4)).frozen? ⟨w.heap.size+1,3,none⟩=false:=frozen_of_row _ _ 3 _ _ HG4.out.1
 go_wp2
 refine bodyPost_ret (results_cell_row rfl _ _ (w.heap.size+1) _ _ _ _ rfl HSF.out Tryz.underlying56 rfl (by kernel_rfl)) rfl ?_
 exact⟨a1,a4,cap1,c4,fp1++fp3,rfl,HRF.out,HLF.out,HNF.out,HBF.out⟩
end Go.Proofs.YtipfpppcbmpjiaaGreat
